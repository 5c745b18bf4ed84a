/-
  Texts that belong together, joined: CnShelf, CnMath, Kit, CnByte, CnRef, CnSmall, ItMath, CnRef2, CnBox, CnSteps, CnShelfB, CnLeaf, CnOne, CnCanon, CnEqual, ItTab, ItRow.
-/
import Derived.Shelf.Strings.Repeat
import Derived.Shelf.Strings.SlTrimAscii
import Derived.Shelf.Strings.Trim
import Derived.Shelf.Strings.BuilderK
import Derived.Shelf.Small.Strs
import Derived.Shelf.Small.Wraps
import Derived.Test.YtcnjephlmcnodaaGreatDoorProg
import Derived.Lib.SlTrimSet
import Derived.Lib.Repeat
import Derived.Lib.FrozenHead2
import Derived.Lib.OthersKept
import Derived.Laws.IdiomStrings
import Derived.Deep.RegionLaw
import Derived.WalkKit
import Derived.WalkSmall
import Derived.WalkSpells
import Derived.WalkLawsBesides
import Derived.Deep.QuietTactic
import Derived.BigQuiet
import Derived.Maps.OwnSet
import Derived.Deep.CutRange
import Derived.Deep.DeepCutAuto
import Derived.Deep.RegionHeld3
import Derived.Laws.EntriesVeiled
import Derived.Carry
import Derived.Laws.AppendOwnNone

set_option maxHeartbeats 16000000
set_option maxRecDepth 100000
/- Contracts of the library at this program: the program bears the bodies that they speak of. Taken: strings_Repeat, strings_IndexByte, strings_CutSuffix, Builder_String_any_k, Builder_Len_f, strings_TrimRight_one. -/
theorem Go.fk {α:Type _} {x:Option α} {a b:α} (h:x=some a) (e:a=b:=by kernel_rfl):x=some b:=h.trans (congrArg some e)
namespace Go.Proofs
open Go.Shelf
def Tryz.lays170_ren : Go.Shelf.Ren := ⟨fun | 170 => 51 | n => n, fun | 70 => 55 | 3 => 3 | 0 => 0 | 72 => 58 | 37 => 56 | 5 => 5 | n => n, fun | n => n⟩
theorem Tryz.lays170 : Go.Proofs.Lays.n170 Tryz.prog Tryz.lays170_ren := {
  mixed := by kernel_rfl
  f170 := Go.fk Tryz.func51
  t0 := Tryz.underlying0
  a0 := Tryz.isAgg0
  z0 := Tryz.sizeOf0
  v0 := Tryz.zeroValue0
  t3 := Tryz.underlying3
  a3 := Tryz.isAgg3
  z3 := Tryz.sizeOf3
  v3 := Tryz.zeroValue3
  t37 := Tryz.underlying56
  a37 := Tryz.isAgg56
  z37 := Tryz.sizeOf56
  v37 := Tryz.zeroValue56
  t70 := Tryz.underlying55
  a70 := Tryz.isAgg55
  z70 := Tryz.sizeOf55
  v70 := Tryz.zeroValue55
  t72 := Tryz.underlying58
  a72 := Tryz.isAgg58
  z72 := Tryz.sizeOf58
  v72 := Tryz.zeroValue58 }
def Tryz.lays169_ren : Go.Shelf.Ren := ⟨fun | 169 => 25 | n => n, fun | 70 => 55 | 9 => 9 | 0 => 0 | 72 => 58 | 37 => 56 | 127 => 89 | 3 => 3 | 5 => 5 | n => n, fun | n => n⟩
theorem Tryz.lays169 : Go.Proofs.Lays.n169 Tryz.prog Tryz.lays169_ren := {
  mixed := by kernel_rfl
  f169 := Go.fk Tryz.func25
  t0 := Tryz.underlying0
  a0 := Tryz.isAgg0
  z0 := Tryz.sizeOf0
  v0 := Tryz.zeroValue0
  t3 := Tryz.underlying3
  a3 := Tryz.isAgg3
  z3 := Tryz.sizeOf3
  v3 := Tryz.zeroValue3
  t9 := Tryz.underlying9
  a9 := Tryz.isAgg9
  z9 := Tryz.sizeOf9
  v9 := Tryz.zeroValue9
  t37 := Tryz.underlying56
  a37 := Tryz.isAgg56
  z37 := Tryz.sizeOf56
  v37 := Tryz.zeroValue56
  t70 := Tryz.underlying55
  a70 := Tryz.isAgg55
  z70 := Tryz.sizeOf55
  v70 := Tryz.zeroValue55
  t72 := Tryz.underlying58
  a72 := Tryz.isAgg58
  z72 := Tryz.sizeOf58
  v72 := Tryz.zeroValue58
  t127 := Tryz.underlying89
  a127 := Tryz.isAgg89
  z127 := Tryz.sizeOf89
  v127 := Tryz.zeroValue89 }
theorem Tryz.Builder_Extra_169 : Builder.Extra Tryz.prog Tryz.lays169_ren := {
  sizeBuilder := by kernel_rfl
  liesBuilder := by kernel_rfl
  t5 := Tryz.underlying5
  a5 := Tryz.isAgg5
  z5 := Tryz.sizeOf5
  v5 := Tryz.zeroValue5
  infoByte := by kernel_rfl
  cellsByte := by kernel_rfl
  sizeByte := by kernel_rfl
  neB5 := by decide }
def Tryz.lays162_ren : Go.Shelf.Ren := ⟨fun | 162 => 33 | 232 => 52 | 227 => 53 | 234 => 54 | 236 => 55 | 228 => 73 | 271 => 74 | 151 => 75 | 120 => 98 | 197 => 99 | 152 => 100 | 260 => 112 | 137 => 113 | 119 => 114 | 224 => 58 | 225 => 57 | 217 => 56 | 266 => 76 | n => n, fun | 9 => 9 | 4 => 4 | 3 => 3 | 5 => 5 | 117 => 98 | 116 => 97 | 0 => 0 | 124 => 101 | 21 => 21 | 105 => 118 | 46 => 90 | 119 => 188 | 139 => 191 | 138 => 190 | n => n, fun | 3 => 1 | 4 => 2 | n => n⟩
theorem Tryz.lays162 : Go.Proofs.Lays.n162 Tryz.prog Tryz.lays162_ren := {
  mixed := by kernel_rfl
  f119 := Go.fk Tryz.func114
  f120 := Go.fk Tryz.func98
  f137 := Go.fk Tryz.func113
  f151 := Go.fk Tryz.func75
  f152 := Go.fk Tryz.func100
  f162 := Go.fk Tryz.func33
  f197 := Go.fk Tryz.func99
  f217 := Go.fk Tryz.func56
  f224 := Go.fk Tryz.func58
  f225 := Go.fk Tryz.func57
  f227 := Go.fk Tryz.func53
  f228 := Go.fk Tryz.func73
  f232 := Go.fk Tryz.func52
  f234 := Go.fk Tryz.func54
  f236 := Go.fk Tryz.func55
  f260 := Go.fk Tryz.func112
  f266 := Go.fk Tryz.func76
  f271 := Go.fk Tryz.func74
  t0 := Tryz.underlying0
  a0 := Tryz.isAgg0
  z0 := Tryz.sizeOf0
  v0 := Tryz.zeroValue0
  t3 := Tryz.underlying3
  a3 := Tryz.isAgg3
  z3 := Tryz.sizeOf3
  v3 := Tryz.zeroValue3
  t4 := Tryz.underlying4
  a4 := Tryz.isAgg4
  z4 := Tryz.sizeOf4
  v4 := Tryz.zeroValue4
  t5 := Tryz.underlying5
  a5 := Tryz.isAgg5
  z5 := Tryz.sizeOf5
  v5 := Tryz.zeroValue5
  t9 := Tryz.underlying9
  a9 := Tryz.isAgg9
  z9 := Tryz.sizeOf9
  v9 := Tryz.zeroValue9
  t21 := Tryz.underlying21
  a21 := Tryz.isAgg21
  z21 := Tryz.sizeOf21
  v21 := Tryz.zeroValue21
  t46 := Tryz.underlying90
  a46 := Tryz.isAgg90
  z46 := Tryz.sizeOf90
  v46 := Tryz.zeroValue90
  t105 := Tryz.underlying118
  a105 := Tryz.isAgg118
  z105 := Tryz.sizeOf118
  v105 := Tryz.zeroValue118
  t116 := Tryz.underlying97
  a116 := Tryz.isAgg97
  z116 := Tryz.sizeOf97
  t117 := Tryz.underlying98
  a117 := Tryz.isAgg98
  z117 := Tryz.sizeOf98
  v117 := Tryz.zeroValue98
  t119 := Tryz.underlying188
  a119 := Tryz.isAgg188
  z119 := Tryz.sizeOf188
  t124 := Tryz.underlying101
  a124 := Tryz.isAgg101
  z124 := Tryz.sizeOf101
  v124 := Tryz.zeroValue101
  t138 := Tryz.underlying190
  a138 := Tryz.isAgg190
  z138 := Tryz.sizeOf190
  v138 := Tryz.zeroValue190
  t139 := Tryz.underlying191
  a139 := Tryz.isAgg191
  z139 := Tryz.sizeOf191
  v139 := Tryz.zeroValue191
  g3 := by kernel_rfl
  g4 := by kernel_rfl }
open Go.RowKit in
theorem Tryz.strings_TrimRight_one (s : ByteArray) (c : UInt8) (hc : c.toNat < 128) (w : World) (hs : s.size ≤ 9223372036854775807) :
    Calls Tryz.prog 33 #[.string s, .string ⟨#[c]⟩] w fun e w' => e = .returned (.string ⟨(Lib.trimRightB s.data.toList c).toArray⟩) ∧ w' = w := Any.strings_TrimRight_one Tryz.lays162 s c hc w hs
def Tryz.lays137_ren : Go.Shelf.Ren := ⟨fun | 137 => 113 | 217 => 56 | 266 => 76 | n => n, fun | 9 => 9 | 5 => 5 | 3 => 3 | n => n, fun | n => n⟩
theorem Tryz.lays137 : Go.Proofs.Lays.n137 Tryz.prog Tryz.lays137_ren := {
  mixed := by kernel_rfl
  f137 := Go.fk Tryz.func113
  f217 := Go.fk Tryz.func56
  f266 := Go.fk Tryz.func76
  t3 := Tryz.underlying3
  a3 := Tryz.isAgg3
  z3 := Tryz.sizeOf3
  v3 := Tryz.zeroValue3
  t5 := Tryz.underlying5
  a5 := Tryz.isAgg5
  z5 := Tryz.sizeOf5
  v5 := Tryz.zeroValue5
  t9 := Tryz.underlying9
  a9 := Tryz.isAgg9
  z9 := Tryz.sizeOf9
  v9 := Tryz.zeroValue9 }
open Go.RowKit in
theorem Tryz.strings_IndexByte (s : ByteArray) (c : Int) (w : World) :
    Calls Tryz.prog 113 #[.string s, .int .u8 c] w fun e w' => e = .returned (.int .i64 (Lib.indexByte s.data.toList c.toNat.toUInt8)) ∧ w' = w := Any.strings_IndexByte Tryz.lays137 s c w
def Tryz.lays104_ren : Go.Shelf.Ren := ⟨fun | 104 => 44 | 211 => 66 | 207 => 96 | n => n, fun | 9 => 9 | 4 => 4 | 24 => 59 | 3 => 3 | n => n, fun | n => n⟩
theorem Tryz.lays104 : Go.Proofs.Lays.n104 Tryz.prog Tryz.lays104_ren := {
  mixed := by kernel_rfl
  f104 := Go.fk Tryz.func44
  f207 := Go.fk Tryz.func96
  f211 := Go.fk Tryz.func66
  t3 := Tryz.underlying3
  a3 := Tryz.isAgg3
  z3 := Tryz.sizeOf3
  v3 := Tryz.zeroValue3
  t4 := Tryz.underlying4
  a4 := Tryz.isAgg4
  z4 := Tryz.sizeOf4
  v4 := Tryz.zeroValue4
  t9 := Tryz.underlying9
  a9 := Tryz.isAgg9
  z9 := Tryz.sizeOf9
  v9 := Tryz.zeroValue9
  t24 := Tryz.underlying59
  a24 := Tryz.isAgg59
  z24 := Tryz.sizeOf59
  v24 := Tryz.zeroValue59 }
open Go.RowKit in
theorem Tryz.strings_CutSuffix (s p : ByteArray) (w : World) (hs : s.size ≤ 9223372036854775807) :
    Calls Tryz.prog 44 #[.string s, .string p] w fun e w' => e = .returned (.tuple #[.string ⟨(Lib.trimSuffix s.data.toList p.data.toList).toArray⟩, .bool (Lib.hasSuffix s.data.toList p.data.toList)]) ∧ w' = w := Any.strings_CutSuffix Tryz.lays104 s p w hs
open Go.RowKit in
theorem Tryz.Builder_Len_f (B b : Nat) (bs : List Value) (w : World) (h : Lib.IsBuilderF 58 5 B b bs w) :
    Calls Tryz.prog 51 #[.pointer (some ⟨b, 0, none⟩)] w fun e w' => e = .returned (.int .i64 bs.length) ∧ w' = w := Any.Builder_Len_f Tryz.lays170 B b bs w h
open Go.RowKit in
theorem Tryz.Builder_String_any_k (B b : Nat) (l : List UInt8) (w : World) (h : Lib.IsBuilderF 58 5 B b (Lib.byteCells l) w) (hBw : B ≤ w.heap.size) :
    Calls Tryz.prog 25 #[.pointer (some ⟨b, 0, none⟩)] w fun e w' => e = .returned (.string ⟨l.toArray⟩) ∧ (Lib.IsBuilderF 58 5 B b (Lib.byteCells l) w' ∧ Below B w w' ∧ Lib.OthersKept 5 (some b) w w') := Any.Builder_String_any_k Tryz.lays169 Tryz.Builder_Extra_169 B b l w h hBw
def Tryz.lays105_ren : Go.Shelf.Ren := ⟨fun | 105 => 32 | 212 => 48 | 99 => 49 | 165 => 50 | 166 => 20 | 170 => 51 | 169 => 25 | 263 => 69 | 264 => 70 | 206 => 71 | 240 => 45 | 241 => 72 | 276 => 67 | 277 => 97 | n => n, fun | 9 => 9 | 3 => 3 | 4 => 4 | 20 => 20 | 0 => 0 | 46 => 90 | 109 => 91 | 5 => 5 | 72 => 58 | 76 => 61 | 51 => 113 | 146 => 114 | 53 => 31 | 148 => 116 | 70 => 55 | 37 => 56 | 75 => 37 | 127 => 89 | 164 => 110 | 80 => 69 | n => n, fun | n => n⟩
theorem Tryz.lays105 : Go.Proofs.Lays.n105 Tryz.prog Tryz.lays105_ren := {
  mixed := by kernel_rfl
  f99 := Go.fk Tryz.func49
  f105 := Go.fk Tryz.func32
  f165 := Go.fk Tryz.func50
  f166 := Go.fk Tryz.func20
  f169 := Go.fk Tryz.func25
  f170 := Go.fk Tryz.func51
  f206 := Go.fk Tryz.func71
  f212 := Go.fk Tryz.func48
  f240 := Go.fk Tryz.func45
  f241 := Go.fk Tryz.func72
  f263 := Go.fk Tryz.func69
  f264 := Go.fk Tryz.func70
  f276 := Go.fk Tryz.func67
  f277 := Go.fk Tryz.func97
  t0 := Tryz.underlying0
  a0 := Tryz.isAgg0
  z0 := Tryz.sizeOf0
  v0 := Tryz.zeroValue0
  t3 := Tryz.underlying3
  a3 := Tryz.isAgg3
  z3 := Tryz.sizeOf3
  v3 := Tryz.zeroValue3
  t4 := Tryz.underlying4
  a4 := Tryz.isAgg4
  z4 := Tryz.sizeOf4
  v4 := Tryz.zeroValue4
  t5 := Tryz.underlying5
  a5 := Tryz.isAgg5
  z5 := Tryz.sizeOf5
  v5 := Tryz.zeroValue5
  t9 := Tryz.underlying9
  a9 := Tryz.isAgg9
  z9 := Tryz.sizeOf9
  v9 := Tryz.zeroValue9
  t20 := Tryz.underlying20
  a20 := Tryz.isAgg20
  z20 := Tryz.sizeOf20
  v20 := Tryz.zeroValue20
  t37 := Tryz.underlying56
  a37 := Tryz.isAgg56
  z37 := Tryz.sizeOf56
  v37 := Tryz.zeroValue56
  t46 := Tryz.underlying90
  a46 := Tryz.isAgg90
  z46 := Tryz.sizeOf90
  v46 := Tryz.zeroValue90
  t51 := Tryz.underlying113
  a51 := Tryz.isAgg113
  z51 := Tryz.sizeOf113
  v51 := Tryz.zeroValue113
  t53 := Tryz.underlying31
  a53 := Tryz.isAgg31
  z53 := Tryz.sizeOf31
  v53 := Tryz.zeroValue31
  t70 := Tryz.underlying55
  a70 := Tryz.isAgg55
  z70 := Tryz.sizeOf55
  v70 := Tryz.zeroValue55
  t72 := Tryz.underlying58
  a72 := Tryz.isAgg58
  z72 := Tryz.sizeOf58
  v72 := Tryz.zeroValue58
  t75 := Tryz.underlying37
  a75 := Tryz.isAgg37
  z75 := Tryz.sizeOf37
  v75 := Tryz.zeroValue37
  t76 := Tryz.underlying61
  a76 := Tryz.isAgg61
  z76 := Tryz.sizeOf61
  v76 := Tryz.zeroValue61
  t109 := Tryz.underlying91
  a109 := Tryz.isAgg91
  z109 := Tryz.sizeOf91
  v109 := Tryz.zeroValue91
  t127 := Tryz.underlying89
  a127 := Tryz.isAgg89
  z127 := Tryz.sizeOf89
  v127 := Tryz.zeroValue89
  t146 := Tryz.underlying114
  a146 := Tryz.isAgg114
  z146 := Tryz.sizeOf114
  v146 := Tryz.zeroValue114
  t148 := Tryz.underlying116
  a148 := Tryz.isAgg116
  z148 := Tryz.sizeOf116
  v148 := Tryz.zeroValue116
  t164 := Tryz.underlying110
  a164 := Tryz.isAgg110
  z164 := Tryz.sizeOf110
  v164 := Tryz.zeroValue110 }
theorem Tryz.Builder_Extra_105 : Builder.Extra Tryz.prog Tryz.lays105_ren := {
  sizeBuilder := by kernel_rfl
  liesBuilder := by kernel_rfl
  t5 := Tryz.underlying5
  a5 := Tryz.isAgg5
  z5 := Tryz.sizeOf5
  v5 := Tryz.zeroValue5
  infoByte := by kernel_rfl
  cellsByte := by kernel_rfl
  sizeByte := by kernel_rfl
  neB5 := by decide }
open Go.RowKit Go.Lib in
theorem Tryz.strings_Repeat (s : ByteArray) (c : Nat) (w : World) (hc : c ≤ 9223372036854775807) (hlen : s.size * c ≤ 140737488355328) :
    Calls Tryz.prog 32 #[.string s, .int .i64 c] w fun e w' => e = .returned (.string ⟨(Lib.repeatL s.data.toList c).toArray⟩) ∧ Below w.heap.size w w' := Any.strings_Repeat Tryz.lays105 Tryz.Builder_Extra_105 s c w hc hlen
end Go.Proofs

namespace Go.Proofs.YtcnjephlmcnodaaGreatDoor.Tx.Cn

section
open Go
def feedB (s:List UInt8):Bool:=s.getLast? == some 10
def bareL (s:List UInt8):List UInt8:=if feedB s then s.dropLast else s
def feedL (s:List UInt8):List UInt8:=bif feedB s then [10] else []
def wh (c:UInt8):Bool:=[32,9,11,12,13].contains c
def expL:Nat→List UInt8→List UInt8
 | _,[]=>[]
 | k,c::r=>if c=9 then List.replicate (8-k % 8) 32++expL (k+(8-k % 8)) r else c::expL (k+1) r
def wo (blank:Bool):Bool→List UInt8→List UInt8
 | _,[]=>[]
 | was,c::r=>bif wh c then (bif blank && !was then 32::wo blank true r else wo blank true r) else c::wo blank false r
def trL (l:List UInt8):List UInt8:=Lib.trimRightS l [32,9,11,12,13]
def low (c:UInt8):UInt8:=if 65≤c.toNat∧c.toNat≤90 then c+32 else c
def smL (l:List UInt8):List UInt8:=l.map low
structure Ig where
 sp:Bool
 wt:Bool
 bl:Bool
 cs:Bool
 tb:Bool
 tr:Bool
def ask (o:Ig):Nat→Bool
 | 0=>o.tb
 | 1=>o.wt
 | 2=>o.sp
 | 3=>o.tr
 | _=>o.cs
def act:Nat→List UInt8→List UInt8
 | 0,l=>expL 0 l
 | 1,l=>wo false false l
 | 2,l=>trL (wo true false l)
 | 3,l=>trL l
 | _,l=>smL l
def stg (o:Ig):Nat→List UInt8→List UInt8
 | 0,l=>l
 | k+1,l=>bif ask o k then act k (stg o k l) else stg o k l
def canonL (o:Ig) (l:List UInt8):List UInt8:=stg o 5 (bareL l)++feedL l
theorem exp_tab (k:Nat) (r:List UInt8):expL k (9::r)=List.replicate (8-k % 8) 32++expL (k+(8-k % 8)) r:=by simp[expL]
theorem exp_other {c:UInt8} (h:c≠9) (k:Nat) (r:List UInt8):expL k (c::r)=c::expL (k+1) r:=by simp[expL,h]
theorem rep_blank (n:Nat):Lib.repeatL [32] n=List.replicate n 32:=by
 induction n with
 | zero=>rfl
 | succ n ih=>rw[Lib.repeatL,ih];rfl
theorem exp_len (l:List UInt8):∀ k,(expL k l).length≤8 * l.length:=by
 induction l with
 | nil=>intro k;simp[expL]
 | cons c r ih =>
  intro k
  by_cases h:c=9
  ·subst h
   rw[exp_tab,List.length_append,List.length_replicate,List.length_cons]
   have:=ih (k+(8-k % 8))
   omega
  ·rw[exp_other h,List.length_cons,List.length_cons]
   have:=ih (k+1)
   omega
theorem ZnY {c:UInt8} (h:wh c=false) (blank was:Bool) (r:List UInt8):wo blank was (c::r)=c::wo blank false r:=by simp[wo,h]
theorem ZnX {c:UInt8} (h:wh c=true) (r:List UInt8):wo true false (c::r)=32::wo true true r:=by simp[wo,h]
theorem Zob {c:UInt8} (h:wh c=true) (r:List UInt8):wo true true (c::r)=wo true true r:=by simp[wo,h]
theorem Zoa {c:UInt8} (h:wh c=true) (was:Bool) (r:List UInt8):wo false was (c::r)=wo false true r:=by simp[wo,h]
theorem ZnZ (blank:Bool) (l:List UInt8):∀ was,(wo blank was l).length≤l.length:=by
 induction l with
 | nil=>intro was;simp[wo]
 | cons c r ih =>
  intro was
  have h1:=ih true
  have h2:=ih false
  cases hc:wh c<;>cases blank<;>cases was<;>simp[wo,hc]<;>omega
theorem Zmb (l:List UInt8):(trL l).length≤l.length:=by
 unfold trL Lib.trimRightS
 rw[List.length_reverse]
 have:=(List.dropWhile_suffix (fun b=>[32,9,11,12,13].contains b) (l:=l.reverse)).length_le
 rw[List.length_reverse] at this
 exact this
theorem Zlc (l:List UInt8):(smL l).length=l.length:=by simp[smL]
def pre (o:Ig) (l:List UInt8):List UInt8:=bif o.tb then expL 0 (bareL l) else bareL l
def sm? (o:Ig) (l:List UInt8):List UInt8:=bif o.cs then smL l else l
def o0 (o:Ig):Ig:={ o with sp:=false,wt:=false,tr:=false }
def ok (o:Ig) (k:Nat):Ig:={ o with sp:=decide (k=2),wt:=decide (k=3),tr:=decide (k=1) }
theorem c0 (o:Ig) (l:List UInt8):canonL (o0 o) l=sm? o (pre o l)++feedL l:=by
 unfold canonL stg sm? pre
 simp only[stg,ask,act,o0,cond_false]
theorem c1 (o:Ig) (l:List UInt8):canonL (ok o 1) l=sm? o (trL (pre o l))++feedL l:=by
 unfold canonL stg sm? pre
 simp[stg,ask,act,ok]
theorem c2 (o:Ig) (l:List UInt8):canonL (ok o 2) l=sm? o (trL (wo true false (pre o l)))++feedL l:=by
 unfold canonL stg sm? pre
 simp[stg,ask,act,ok]
theorem c3 (o:Ig) (l:List UInt8):canonL (ok o 3) l=sm? o (wo false false (pre o l))++feedL l:=by
 unfold canonL stg sm? pre
 simp[stg,ask,act,ok]
theorem ZdR (l:List UInt8):(feedB l=true∧feedL l=[10])∨(feedB l=false∧feedL l=[]):=by
 unfold feedL;cases feedB l
 ·exact .inr ⟨rfl,rfl⟩
 ·exact .inl ⟨rfl,rfl⟩
theorem Zbz (l:List UInt8):(bareL l).length≤l.length:=by unfold bareL;split<;>simp
theorem Zbe (k:Nat) (l:List UInt8):(act k l).length≤8 * l.length:=by
 match k with
 | 0=>exact exp_len l 0
 | 1=>have:=ZnZ false l false;simp only[act];omega
 | 2=>have:=ZnZ true l false;have:=Zmb (wo true false l);simp only[act];omega
 | 3=>have:=Zmb l;simp only[act];omega
 | _+4=>simp only[act,Zlc];omega
theorem Zbf (k:Nat) (l:List UInt8) (h:k≠0):(act k l).length≤l.length:=by
 match k,h with
 | 1,_=>have:=ZnZ false l false;simp only[act];omega
 | 2,_=>have:=ZnZ true l false;have:=Zmb (wo true false l);simp only[act];omega
 | 3,_=>have:=Zmb l;simp only[act];omega
 | _+4,_=>simp only[act,Zlc];omega
theorem Zls (o:Ig) (l:List UInt8):∀ k,(stg o k l).length≤8 * l.length:=by
 intro k
 induction k with
 | zero=>simp only[stg];omega
 | succ k ih =>
  simp only[stg]
  cases ask o k
  ·exact ih
  ·simp only[cond_true]
   by_cases h:k=0
   ·subst h;exact Zbe 0 l
   ·exact Nat.le_trans (Zbf k _ h) ih
theorem ZdQ (l:List UInt8):(feedL l).length≤1:=by rcases ZdR l with ⟨_,f⟩ | ⟨_,f⟩<;>rw[f]<;>decide
theorem ZbW (o:Ig) (l:List UInt8):(canonL o l).length≤8 * l.length+1:=by
 have:=Zls o (bareL l) 5
 have:=Zbz l
 have:=ZdQ l
 rw[canonL,List.length_append]
 omega
end

end Go.Proofs.YtcnjephlmcnodaaGreatDoor.Tx.Cn

namespace Go.Proofs.YtcnjephlmcnodaaGreatDoor.Tx

section
open Go.RowKit
theorem ret_bool {a b:Bool} (h:a=b):Ending.returned (.bool a)=.returned (.bool b):=by rw[h]
theorem ret_int {k:IntKind} {a b:Int} (h:a=b):Ending.returned (.int k a)=.returned (.int k b):=by rw[h]
section
variable {P:Program} (w:World)
theorem Zkj (base:Nat) (t ty e:TypeId) (i:TypeInfo) (z:Value) (size bytes:Nat) (ht:P.underlying t=some (.slice e)) (hi:P.info? e=some i) (hz:i.zero=some z)
  (hsize:i.size=size) (hby:i.bytes=bytes) (hzs:z.cells.size=size) (hsz:0<size)
  (v:Value) (n:Nat) (xs:List Value) (hown:w.ownsRowF base e size v n xs)
  (a:Addr) (m c:Nat) (news:List Value) (hl:news.length=m * size) (hnews:∀ j u,news[j]?=some u→w.cell? (a.add j)=some u) (h1:∀ u∈news,u.oneCell'=true)
  (h63:n+m≤maxLen) (hbytes:(n+m) * bytes≤140737488355328) (hbase:base≤w.heap.size) :
  ∃ v' w',(Builtin.append_ #[t,t] ty #[v,.slice (some a) m c]).run P w=.ok v' w'∧w'.ownsRowF base e size v' (n+m) (xs++news)∧w.grownBy w' v.ownBlock ∧
   (v'.ownBlock=v.ownBlock∨∃ g,v'.ownBlock=some g∧w.heap.size≤g):=by
 rcases hown.2 with ⟨rfl,rfl⟩ | ⟨g,cap,cur,fz,rfl,hbg,hg,hfz,hnc,hcm,hcs,htake⟩
 ·obtain⟨v',w',r1,r2,r3,r4⟩:=run_append_own (P:=P) w w.heap.size t ty e i z size bytes ht hi hz hsize hby hzs hsz (.slice none 0 0) 0 xs ⟨hown.1,.inl ⟨rfl,rfl⟩⟩ a m c news hl hnews h1 h63 hbytes (Nat.le_refl _)
  have r5:=World.ownsRowF_of r2
  refine⟨v',w',r1,⟨r5.1,?_⟩,r3,?_⟩
  ·rcases r5.2 with h | ⟨g,cap,cur,fz,q1,q2,q3⟩
   ·exact .inl h
   ·exact .inr ⟨g,cap,cur,fz,q1,by omega,q3⟩
  ·rcases r5.2 with ⟨h,_⟩ | ⟨g,cap,cur,fz,q1,q2,q3⟩
   ·exact .inl (by rw[h])
   ·exact .inr ⟨g,by rw[q1];rfl,q2⟩
 ·subst hsize
  subst hby
  have hsmall:n+m≤9223372036854775807:=by simp only[maxLen] at h63;omega
  have hlen:(xs++news).length=(n+m) * i.size:=by rw[List.length_append,hown.1,hl,Nat.add_mul]
  by_cases hroom:n+m≤cap
  ·have hfit:n * i.size+news.length≤cur.size:=by rw[hl,hcs,← Nat.add_mul];exact Nat.mul_le_mul_right _ hroom
   have hr:=run_append_roomF (P:=P) w t ty e i ht hi g n cap cur fz hg hfz a m c news hl hnews h1 hroom hfit
   refine⟨_,_,hr,⟨hlen,.inr ⟨g,cap,_,fz,rfl,hbg,setRow_heap w g cur _ e _ hg,Nat.le_trans hfz (Nat.mul_le_mul_right _ (Nat.le_add_right n m)),hroom,hcm,?_,?_⟩⟩,⟨rfl,rfl,rfl,by simp,fun k _ hk=>setRow_other w g k _ (fun e=>hk (by simp[Value.ownBlock,e]))⟩,.inl rfl⟩
   ·simp only[List.size_toArray,List.length_append,List.length_take,List.length_drop,Array.length_toList]
    omega
   ·rw[htake,← hlen]
    exact List.take_left
  ·have holds:∀ j u,xs[j]?=some u→w.cell? ((⟨g,0,none⟩:Addr).add j)=some u:=hown.cells (g:=g) rfl
   have hr:=run_append_grow (P:=P) w t ty e i z ht hi hz ⟨g,0,none⟩ n cap xs hown.1 holds a m c news hl hnews (by omega) (by omega) (growslice_fits (by omega) hbytes)
   have hge:=grownCap_ge w (n+m) cap e
   have hcm2:grownCap w (n+m) cap e≤maxLen:=grownCap_le_maxLen w (n+m) cap e h63
   refine⟨_,_,hr,⟨hlen,.inr ⟨w.heap.size,_,_,(0,0),rfl,hbase,heap_alloc_new w.drew _,Nat.zero_le _,hge,hcm2,?_,?_⟩⟩,⟨rfl,rfl,rfl,by simp,fun k hk _=>Below.heap_alloc w.drew _ k hk⟩,.inr ⟨_,rfl,Nat.le_refl _⟩⟩
   ·simp only[Array.size_append,List.size_toArray,size_zeroCells,hzs,hown.1,hl,← Nat.add_mul]
    congr 1
    omega
   ·simp only[Array.toList_append,List.append_assoc]
    rw[← List.append_assoc,← hlen]
    exact List.take_left
theorem Zof {ops:Array Oper} {rest:List Oper} {o:Oper} {a:Act} {Q:Exit→Act→World→Prop} (hgd:o.guard=none) (s x:Operand) (t:TypeId)
  (ho:o.op=.call { callee:=.builtin .append,args:=#[s,x],argTypes:=#[t,t] })
  (base:Nat) (e:TypeId) (i:TypeInfo) (z:Value) (size bytes:Nat) (ht:P.underlying t=some (.slice e)) (hi:P.info? e=some i) (hz:i.zero=some z)
  (hsize:i.size=size) (hby:i.bytes=bytes) (hzs:z.cells.size=size) (hsz:0<size)
  (v:Value) (n:Nat) (xs:List Value) (hs:a.eval s=v) (hown:w.ownsRowF base e size v n xs)
  (ad:Addr) (m c:Nat) (news:List Value) (hx:a.eval x=.slice (some ad) m c) (hl:news.length=m * size) (hnews:∀ j u,news[j]?=some u→w.cell? (ad.add j)=some u) (h1:∀ u∈news,u.oneCell'=true)
  (h63:n+m≤maxLen) (hbytes:(n+m) * bytes≤140737488355328) (hbase:base≤w.heap.size)
  (h:∀ v' w',w'.ownsRowF base e size v' (n+m) (xs++news)→w.grownBy w' v.ownBlock→(v'.ownBlock=v.ownBlock∨∃ g,v'.ownBlock=some g∧w.heap.size≤g)→wpList P ops Q rest (a.put o.dst v') w'):wpList P ops Q (o::rest) a w:=by
 refine wpList_plain hgd fun K hK=>?_
 obtain⟨v',w',hr,h2,h3,h4⟩:=Zkj (P:=P) w base t o.type e i z size bytes ht hi hz hsize hby hzs hsz v n xs hown ad m c news hl hnews h1 h63 hbytes hbase
 unfold Oper.wp execOp
 simp only[ho,resolve,invoke,builtin,Sem.run_bind,Sem.run_pure,Result.andThen_ok,List.map_toArray,List.map_cons,List.map_nil,hs,hx,hr]
 exact hK _ _ (h v' w' h2 h3 h4)
end
def Bld (T e:TypeId) (B b:Nat) (v:Value) (bs:List Value) (w:World):Prop :=
 B≤b∧(∃ p,(p=.pointer none∨p=.pointer (some ⟨b,0,none⟩))∧w.heap[b]?=some (.cells #[p,v] T (0,0)))∧w.ownsRowF B e 1 v bs.length bs∧v.ownBlock≠some b
theorem Bld.isF {T e:TypeId} {B b:Nat} {v:Value} {bs:List Value} {w:World} (h:Bld T e B b v bs w):Lib.IsBuilderF T e B b bs w:=by
 obtain⟨hB,⟨p,hp,hb⟩,hown,hne⟩:=h
 rcases hp with rfl | rfl
 ·exact .inl ⟨hB,v,hb,hown,hne⟩
 ·exact .inr ⟨hB,v,hb,hown,hne⟩
theorem Bld.lt {T e:TypeId} {B b:Nat} {v:Value} {bs:List Value} {w:World} (h:Bld T e B b v bs w):b<w.heap.size:=by
 obtain⟨_,⟨p,_,hb⟩,_⟩:=h
 exact (Array.getElem?_eq_some_iff.1 hb).1
def Aside (b:Nat) (v:Value) (w w':World):Prop:=∀ k,k<w.heap.size→k≠b→v.ownBlock≠some k→w'.heap[k]?=w.heap[k]?
def Fresh (v v':Value) (w:World):Prop:=v'.ownBlock=v.ownBlock∨∃ g,v'.ownBlock=some g∧w.heap.size≤g
theorem Bld.kept {T e:TypeId} {B b:Nat} {v:Value} {bs:List Value} {w w':World} (h:Bld T e B b v bs w) (hk:∀ k,k<w.heap.size→w'.heap[k]?=w.heap[k]?):Bld T e B b v bs w':=by
 have hlt:=h.lt
 obtain⟨hB,⟨p,hp,hb⟩,⟨hl,hown⟩,hne⟩:=h
 refine⟨hB,⟨p,hp,(hk b hlt).trans hb⟩,⟨hl,?_⟩,hne⟩
 rcases hown with h | ⟨g,cap,cur,fz,q1,q2,q3,q4⟩
 ·exact .inl h
 ·exact .inr ⟨g,cap,cur,fz,q1,q2,(hk g (Array.getElem?_eq_some_iff.1 q3).1).trans q3,q4⟩
theorem Bld.alloc {T e:TypeId} {B b:Nat} {v:Value} {bs:List Value} {w:World} (h:Bld T e B b v bs w) (o:Obj):Bld T e B b v bs (w.alloc o) :=
 h.kept fun k hk=>Below.heap_alloc w o k hk
theorem Bld.fresh (T e:TypeId) (w:World):Bld T e w.heap.size w.heap.size (.slice none 0 0) [] (w.alloc (.cells #[.pointer none,.slice none 0 0] T)) :=
 ⟨Nat.le_refl _,⟨_,.inl rfl,_root_.Go.heap_alloc_new w _⟩,World.ownsRowF_nil _ _ _ _,by simp[Value.ownBlock]⟩
theorem Bld.put {T e:TypeId} {B b:Nat} {p v v':Value} {bs:List Value} {w:World} (hB:B≤b) (hp:p=.pointer none∨p=.pointer (some ⟨b,0,none⟩)) (hb:w.heap[b]?=some (.cells #[p,v] T (0,0))) (hown:w.ownsRowF B e 1 v' bs.length bs) (hTe:T≠e) :
  Bld T e B b v' bs (w.setCell ⟨b,1,none⟩ v'):=by
 have hne:v'.ownBlock≠some b:=by
  intro h
  rcases hown.2 with ⟨h1,_⟩ | ⟨g,cap,cur,fz,q1,q2,q3,q4⟩
  ·rw[h1] at h;cases h
  ·rw[q1] at h
   have hg:g=b:=by simpa [Value.ownBlock] using h
   rw[hg,hb] at q3
   simp only[Option.some.injEq,Obj.cells.injEq] at q3
   exact hTe q3.2.1
 have ho:∀ k,k≠b→(w.setCell ⟨b,1,none⟩ v').heap[k]?=w.heap[k]?:=fun k hk=>Below.heap_setCell w _ _ k hk
 refine⟨hB,⟨p,hp,?_⟩,⟨hown.1,?_⟩,hne⟩
 ·simp only[World.setCell,Array.getElem?_modify,hb]
  simp
 ·rcases hown.2 with h | ⟨g,cap,cur,fz,q1,q2,q3,q4⟩
  ·exact .inl h
  ·exact .inr ⟨g,cap,cur,fz,q1,q2,(ho g (fun e=>hne (by rw[q1,e];rfl))).trans q3,q4⟩
def Beside (R:Nat) (o:Obj) (b:Nat) (v:Value) (w:World):Prop:=w.heap[R]?=some o∧R≠b∧v.ownBlock≠some R
theorem Beside.step {R:Nat} {o:Obj} {b:Nat} {v v':Value} {w w':World} (h:Beside R o b v w) (ha:Aside b v w w') (hf:Fresh v v' w):Beside R o b v' w':=by
 obtain⟨h1,h2,h3⟩:=h
 have hlt:R<w.heap.size:=(Array.getElem?_eq_some_iff.1 h1).1
 refine⟨(ha R hlt h2 h3).trans h1,h2,?_⟩
 rcases hf with h | ⟨g,h,hg⟩
 ·rw[h];exact h3
 ·rw[h];intro e;simp at e;omega
theorem Beside.cell {R:Nat} {C:Array Value} {t:TypeId} {fz:Nat × Nat} {b:Nat} {v:Value} {w:World} (h:Beside R (.cells C t fz) b v w) (j:Nat):w.cell? ⟨R,j,none⟩=C[j]?:=by
 rw[cell_of_row w R j C t fz h.1]
theorem Zbs (l:List UInt8) (k:Nat) (h:k<(⟨l.toArray⟩:ByteArray).size):(⟨l.toArray⟩:ByteArray)[k]'h=l[k]'(h):=rfl
theorem ZbR (l:List UInt8) (c:UInt8):Lib.byteCells (l++[c])=Lib.byteCells l++[.int .u8 (c.toNat:Int)]:=by rw[Lib.byteCells_append];rfl
theorem Bld.drewN {T e:TypeId} {B b:Nat} {v:Value} {bs:List Value} {w:World} (h:Bld T e B b v bs w) (n:Nat):Bld T e B b v bs (w.drewN n):=h.kept fun _ _=>rfl
theorem wrap_i64 {n:Int} (h0:-9223372036854775808≤n) (h1:n≤9223372036854775807):IntKind.i64.wrap n=n:=by
 simp[IntKind.wrap,IntKind.bits,IntKind.signed]
 split<;>omega
end

section
open Cn Go.RowKit
theorem ZlY {x c:UInt8} (h:x≠c):x.toNat≠c.toNat:=fun e=>h (UInt8.toNat_inj.1 e)
theorem not9 {x:UInt8} (h:x≠9):((x.toNat:Int) == 9)=false∧((x.toNat:Int) != 9)=true:=by
 have:x.toNat≠9:=ZlY h
 constructor
 ·rw[beq_eq_false_iff_ne];omega
 ·rw[bne_iff_ne];omega
def sizeT:Value→Nat
 | .string s=>s.size
 | _=>0
theorem sizeT_mk (r:List UInt8):sizeT (.string ⟨r.toArray⟩)=r.length:=rfl
theorem bare_no {l:List UInt8} (h0:0<l.length) (h:l[l.length-1]≠10):bareL l=l∧feedB l=false:=by
 have hf:feedB l=false:=by unfold feedB;rw[List.getLast?_eq_getElem?,List.getElem?_eq_getElem (by omega)];simpa using h
 exact⟨by rw[bareL,hf];rfl,hf⟩
theorem Zha {c:UInt8} (h:65≤c.toNat∧c.toNat≤90):((low c).toNat:Int)=(c.toNat:Int)-65+97:=by
 have e:low c=c+32:=by rw[low,if_pos h]
 rw[e,UInt8.toNat_add]
 have:(32:UInt8).toNat=32:=rfl
 rw[this]
 omega
theorem ZgZ {c:UInt8} (h:¬ (65≤c.toNat∧c.toNat≤90)):low c=c:=by rw[low,if_neg h]
end

section
open Cn Go.RowKit
attribute [local go_sem] Zbs ByteArray.extract_mk
end

section
open Cn Go.RowKit
attribute [local go_sem] Zbs ByteArray.extract_mk
theorem ZcS {P:Program} (w:World) (src dst e:TypeId) (l:List UInt8) (hs:P.underlying src=some .string) (hd:P.underlying dst=some (.slice e)) (he:P.underlying e=some (.int .u8)) :
  ∃ cap C n w',(convert src dst (.string ⟨l.toArray⟩)).run P w=.ok (.slice (some ⟨w.heap.size,0,none⟩) l.length cap) w'∧w'.heap[w.heap.size]?=some (.cells C e (n,n+1))∧C.size=n∧(∀ j (h:j<l.length),C[j]?=some (.int .u8 (l[j].toNat:Int)))∧Below w.heap.size w w':=by
 refine⟨_,_,_,_,run_bytes_of_string w src dst e ⟨l.toArray⟩ hs hd he,_root_.Go.heap_alloc_new w.drew _,rfl,?_,((Below.refl _ w).drew).alloc (Nat.le_refl _) _⟩
 intro j hj
 unfold bytesRow
 rw[Array.getElem?_append_left (by simpa using hj)]
 simp[hj]
def Part (l:List UInt8) (k:Nat) (C:Array Value):Prop:=(∀ j (h:j<l.length),j<k→C[j]?=some (.int .u8 ((low l[j]).toNat:Int)))∧∀ j (h:j<l.length),k≤j→C[j]?=some (.int .u8 (l[j].toNat:Int))
theorem ZfE (l:List UInt8) (w:World) (hl:l.length≤1099511627776) :
  Calls Tryz.prog 131 #[.string ⟨l.toArray⟩] w fun e w'=>e=.returned (.string ⟨(smL l).toArray⟩)∧Below w.heap.size w w':=by
 obtain⟨cap,C0,n,w2,hcv,hR,hn0,hC0,hb2⟩:=ZcS (P:=Tryz.prog) w 9 56 5 l Tryz.underlying9 Tryz.underlying56 Tryz.underlying5
 generalize hg:w.heap.size=g at *
 have HG:Hid (w.heap.size=g):=hg
 clear hg
 go_enter Tryz.func131,Tryz.ntmps131
 go_wp2
 go_loopw [4,5,10] (fun _ _ i wr=>∃ (k:Nat) (C:Array Value),k≤l.length∧i=.int .i64 k∧wr.heap[g]?=some (.cells C 5 (n,n+1))∧C.size=n∧Hid (Part l k C)∧Below g w wr) (fun _ _ i _=>l.length-(intOf i).toNat)
 case atStart=>exact⟨0,C0,Nat.zero_le _,rfl,hR,hn0,⟨fun j h hj=>absurd hj (Nat.not_lt_zero j),fun j h _=>hC0 j h⟩,hb2⟩
 case round =>
  obtain⟨k,C,hk,rfl,hgC,hCn,HC,hbr⟩:=hrel
  by_cases hlt:k<l.length
  ·have hck:wr.cell? ⟨g,k,none⟩=some (.int .u8 (l[k].toNat:Int)):=by rw[Lib.cell_of_heap hgC];exact HC.out.2 k hlt (Nat.le_refl _)
   have hCs:k<C.size:=by
    have:=HC.out.2 k hlt (Nat.le_refl _)
    exact (Array.getElem?_eq_some_iff.1 this).1
   have hfk:wr.frozen? ⟨g,k,none⟩=false:=by
    simp only[World.frozen?,hgC]
    rw[decide_eq_false (by omega)];rfl
   have i1:0≤(k:Int):=by omega
   have i2:(k:Int)<(l.length:Int):=by omega
   by_cases hc:65≤l[k].toNat∧l[k].toNat≤90
   ·have HL:Hid (((low l[k]).toNat:Int)=(l[k].toNat:Int)-65+97):=Zha hc
    have c1:(65:Int)≤(l[k].toNat:Int):=by omega
    have c2:(l[k].toNat:Int)≤90:=by omega
    go_wp2
    go_roundw
    case rel =>
     refine⟨k+1,C.setIfInBounds k (.int .u8 ((l[k].toNat:Int)-65+97)),by omega,by go_num,?_,by simpa using hCn,⟨fun j h hj=>?_,fun j h hj=>?_⟩,hbr.setCell (p:=⟨g,k,none⟩) (Nat.le_refl _) _⟩
     ·simp only[World.setCell,Array.getElem?_modify,hgC]
      simp
     ·rw[← HL.out,Array.getElem?_setIfInBounds]
      by_cases e:k=j
      ·subst e;rw[if_pos rfl,if_pos hCs]
      ·rw[if_neg e];exact HC.out.1 j h (by omega)
     ·rw[Array.getElem?_setIfInBounds,if_neg (by omega)]
      exact HC.out.2 j h (by omega)
    case measure=>simp[intOf];omega
   ·have HL:Hid (low l[k]=l[k]):=ZgZ hc
    have hcc:decide ((65:Int)≤(l[k].toNat:Int))=false∨(decide ((65:Int)≤(l[k].toNat:Int))=true∧decide ((l[k].toNat:Int)≤90)=false):=by
     by_cases h65:65≤l[k].toNat
     ·exact .inr ⟨decide_eq_true (by omega),decide_eq_false (by omega)⟩
     ·exact .inl (decide_eq_false (by omega))
    have HP:Hid (Part l (k+1) C):=by
     refine⟨fun j h hj=>?_,fun j h hj=>HC.out.2 j h (by omega)⟩
     by_cases e:j=k
     ·subst e;rw[HL.out];exact HC.out.2 j h (Nat.le_refl _)
     ·exact HC.out.1 j h (by omega)
    rcases hcc with c1 | ⟨c1,c2⟩
    all_goals
     go_wp2
     go_roundw
     case rel=>exact⟨k+1,C,by omega,by go_num,hgC,hCn,HP,hbr⟩
     case measure=>simp[intOf];omega
  ·have hcs:(convert 56 9 (.slice (some ⟨g,0,none⟩) l.length cap)).run Tryz.prog wr=.ok (.string ⟨(smL l).toArray⟩) wr:=by
    have e:l.length=(smL l).length:=(Zlc l).symm
    rw[e]
    refine run_convert_bytes_back wr 56 9 5 ⟨g,0,none⟩ cap (smL l) Tryz.underlying56 Tryz.underlying5 Tryz.underlying9 ?_
    intro j hj
    have hj':j<l.length:=by rw[e];exact hj
    have hadd:(⟨g,0,none⟩:Addr).add j=⟨g,j,none⟩:=by unfold Addr.add;split<;>simp_all
    rw[hadd,Lib.cell_of_heap hgC]
    have:=HC.out.1 j hj' (by omega)
    simpa [smL] using this
   go_wp2
   go_ret
   exact⟨rfl,hbr⟩
end

end Go.Proofs.YtcnjephlmcnodaaGreatDoor.Tx

/- Numbers of classes, as plain lists: the number of a form among those met, the forms met behind it, a whole list's numbers. -/
namespace Go.Proofs.YtcnjephlmcnodaaGreatDoor.Tx
namespace It
open Go.Maps
def num (fs:List (List UInt8)) (f:List UInt8):Nat:=fs.idxOf f
def add (fs:List (List UInt8)) (f:List UInt8):List (List UInt8):=if fs.contains f then fs else fs++[f]
def nums:List (List UInt8)→List (List UInt8)→List Nat
 | _,[]=>[]
 | fs,f::r=>num fs f::nums (add fs f) r
def adds (fs r:List (List UInt8)):List (List UInt8):=r.foldl add fs
theorem Zbm (fs:List (List UInt8)) (f:List UInt8) (r:List (List UInt8)):adds fs (f::r)=adds (add fs f) r:=rfl
theorem Zbl (fs a b:List (List UInt8)):adds fs (a++b)=adds (adds fs a) b:=List.foldl_append
theorem nums_append:∀ (a fs b:List (List UInt8)),nums fs (a++b)=nums fs a++nums (adds fs a) b
 | [],_,_=>rfl
 | f::r,fs,b=>by rw[List.cons_append,nums,nums_append r,nums,List.cons_append,Zbm]
theorem ZhX (fs a:List (List UInt8)) (f:List UInt8):nums fs (a++[f])=nums fs a++[num (adds fs a) f]:=by rw[nums_append];rfl
theorem Zbn (fs a:List (List UInt8)) (f:List UInt8):adds fs (a++[f])=add (adds fs a) f:=by rw[Zbl];rfl
theorem nums_length:∀ (r fs:List (List UInt8)),(nums fs r).length=r.length
 | [],_=>rfl
 | f::r,fs=>by rw[nums,List.length_cons,nums_length r,List.length_cons]
theorem Zbh (fs:List (List UInt8)) (f:List UInt8):(add fs f).length≤fs.length+1:=by unfold add;split<;>simp
theorem adds_le:∀ (r fs:List (List UInt8)),(adds fs r).length≤fs.length+r.length
 | [],_=>Nat.le_refl _
 | f::r,fs=>by
  have h1:=adds_le r (add fs f)
  have h2:=Zbh fs f
  rw[Zbm,List.length_cons]
  omega
theorem num_le (fs:List (List UInt8)) (f:List UInt8):num fs f≤fs.length:=List.idxOf_le_length
theorem ZhS {fs:List (List UInt8)} {f:List UInt8} (h:f∈fs):num fs f<fs.length:=List.idxOf_lt_length_iff.2 h
theorem ZhT {fs:List (List UInt8)} {f:List UInt8} (h:f∉fs):num fs f=fs.length:=List.idxOf_eq_length h
theorem Zbj {fs:List (List UInt8)} {f:List UInt8} (h:f∈fs):add fs f=fs:=by rw[add,if_pos (List.contains_iff_mem.2 h)]
theorem Zbi {fs:List (List UInt8)} {f:List UInt8} (h:f∉fs):add fs f=fs++[f]:=by rw[add,if_neg (fun e=>h (List.contains_iff_mem.1 e))]
theorem Zho (fs:List (List UInt8)) (f:List UInt8):f∈add fs f:=by
 by_cases h:f∈fs
 ·rw[Zbj h];exact h
 ·rw[Zbi h];simp
theorem Zhn {fs:List (List UInt8)} {g:List UInt8} (h:g∈fs) (f:List UInt8):g∈add fs f:=by
 by_cases hf:f∈fs
 ·rw[Zbj hf];exact h
 ·rw[Zbi hf];simp[h]
theorem ZhP {fs:List (List UInt8)} {g:List UInt8} (h:g∈fs) (f:List UInt8):num (add fs f) g=num fs g:=by
 by_cases hf:f∈fs
 ·rw[Zbj hf]
 ·rw[Zbi hf];unfold num;rw[List.idxOf_append,if_pos h]
theorem ZhQ (fs:List (List UInt8)) (f:List UInt8):num (add fs f) f=num fs f:=by
 by_cases h:f∈fs
 ·rw[Zbj h]
 ·rw[Zbi h,ZhT h];unfold num;rw[List.idxOf_append,if_neg h];simp
theorem Zhp:∀ (r:List (List UInt8)) {fs:List (List UInt8)} {g:List UInt8},g∈fs→g∈adds fs r
 | [],_,_,h=>h
 | f::r,_,_,h=>Zhp r (Zhn h f)
theorem ZhR:∀ (r:List (List UInt8)) {fs:List (List UInt8)} {g:List UInt8},g∈fs→num (adds fs r) g=num fs g
 | [],_,_,_=>rfl
 | f::r,fs,g,h=>by rw[Zbm,ZhR r (Zhn h f),ZhP h f]
theorem mem_adds_self:∀ (r:List (List UInt8)) (fs:List (List UInt8)),∀ g∈r,g∈adds fs r
 | f::r,fs,g,h=>by
  rw[Zbm]
  rcases List.mem_cons.1 h with rfl | h
  ·exact Zhp r (Zho fs g)
  ·exact mem_adds_self r _ g h
theorem nums_eq:∀ (r fs:List (List UInt8)),nums fs r=r.map (num (adds fs r))
 | [],_=>rfl
 | f::r,fs=>by
  rw[nums,nums_eq r,List.map_cons,Zbm,ZhR r (Zho fs f),ZhQ]
theorem num_inj {fs:List (List UInt8)} {f g:List UInt8} (hf:f∈fs) (hg:g∈fs):num fs f=num fs g↔f=g:=by
 constructor
 ·intro h
  have h1:=List.getElem_idxOf (ZhS hf)
  have h2:=List.getElem_idxOf (ZhS hg)
  unfold num at h
  exact h1.symm.trans ((getElem_congr_idx h).trans h2)
 ·intro h;rw[h]
structure Tells {H:Type} (D:DataW H) (fs:List (List UInt8)):Prop where
 tidy:Tidy D
 size:Maps.size D=fs.length
 has:∀ f,Maps.has D (.string f)=fs.contains f
 at_:∀ f∈fs,D.atKey (.string f) (.lit (.int .i64 0))=.lit (.int .i64 (num fs f))
theorem Tells.nil {H:Type}:Tells (H:=H) (.map []) []:=⟨tidy_empty,rfl,fun _=>rfl,fun f h=>by cases h⟩
theorem Tells.put {H:Type} {D:DataW H} {fs:List (List UInt8)} (h:Tells D fs) {f:List UInt8} (hf:f∉fs):Tells (D.put (.string f) (.lit (.int .i64 fs.length))) (fs++[f]):=by
 have hk:WideAt.IsKeyLit (.string f):=trivial
 have hne:∀ {g:List UInt8},g≠f→(Lit.string g)≠.string f:=fun hg e=>hg (by cases e;rfl)
 refine⟨h.tidy.put hk _,?_,fun g=>?_,fun g hg=>?_⟩
 ·rw[size_put h.tidy,h.has,if_neg (fun e=>hf (List.contains_iff_mem.1 e)),h.size];simp
 ·by_cases e:g=f
  ·subst e
   rw[has_put_same h.tidy.isMap hk];simp
  ·rw[has_put_other (hne e),h.has];simp[e]
 ·by_cases e:g=f
  ·subst e
   rw[atKey_put_same h.tidy.isMap hk,← Zbi hf,ZhQ,ZhT hf]
  ·have hg':g∈fs:=by simpa [e] using hg
   rw[atKey_put_other (hne e),h.at_ g hg',← Zbi hf,ZhP hg']
theorem Tells.look {H:Type} {D:DataW H} {fs:List (List UInt8)} (h:Tells D fs) {f:List UInt8} {c:Int} (hc:D.atKey (.string f) (.lit (.int .i64 0))=.lit (.int .i64 c)):c=if fs.contains f then (num fs f:Int) else 0:=by
 by_cases hf:f∈fs
 ·rw[h.at_ f hf] at hc
  rw[if_pos (List.contains_iff_mem.2 hf)]
  cases hc;rfl
 ·have hn:fs.contains f=false:=Bool.eq_false_iff.2 (fun e=>hf (List.contains_iff_mem.1 e))
  rw[atKey_of_not_has (by rw[h.has,hn])] at hc
  rw[if_neg (by rw[hn];exact Bool.false_ne_true)]
  cases hc;rfl
end It
end Go.Proofs.YtcnjephlmcnodaaGreatDoor.Tx

namespace Go.Proofs.YtcnjephlmcnodaaGreatDoor.Tx

section
open Cn Go.RowKit
attribute [local go_sem] Zbs ByteArray.extract_mk
end

section
open Cn Go.RowKit
attribute [local go_sem] Zbs ByteArray.extract_mk
def igV (o:Ig):Value:=.agg #[.bool o.sp,.bool o.wt,.bool o.bl,.bool o.cs,.bool o.tb,.bool o.tr]
def Boxed (o:Ig) (b:Nat) (w:World):Prop:=w.heap[b]?=some (.cells #[.bool o.sp,.bool o.wt,.bool o.bl,.bool o.cs,.bool o.tb,.bool o.tr] 33 (0,0))
theorem Boxed.keep {o:Ig} {b:Nat} {w w':World} (h:Boxed o b w) (hb:Below w.heap.size w w'):Boxed o b w' :=
 (hb.block b (Array.getElem?_eq_some_iff.1 h).1).trans h
theorem Boxed.fresh (o:Ig) (w:World):Boxed o w.heap.size (w.alloc (.cells #[.bool o.sp,.bool o.wt,.bool o.bl,.bool o.cs,.bool o.tb,.bool o.tr] 33)):=_root_.Go.heap_alloc_new w _
theorem Boxed.cells {o:Ig} {b:Nat} {w:World} (h:Boxed o b w):w.cell? ⟨b,0,none⟩=some (.bool o.sp)∧w.cell? ⟨b,1,none⟩=some (.bool o.wt)∧w.cell? ⟨b,2,none⟩=some (.bool o.bl)∧w.cell? ⟨b,3,none⟩=some (.bool o.cs)∧w.cell? ⟨b,4,none⟩=some (.bool o.tb)∧w.cell? ⟨b,5,none⟩=some (.bool o.tr):=by
 refine⟨?_,?_,?_,?_,?_,?_⟩<;>rw[Lib.cell_of_heap h]<;>rfl
theorem Zlt {o:Ig} {k:Nat} (h:Cn.ask o k=false) (l:List UInt8):stg o (k+1) l=stg o k l:=by rw[stg,h];rfl
theorem Zlu {o:Ig} {k:Nat} (h:Cn.ask o k=true) (l:List UInt8):stg o (k+1) l=act k (stg o k l):=by rw[stg,h];rfl
end

section
open Cn Go.RowKit
theorem Zbt (a b:List UInt8):((⟨a.toArray⟩:ByteArray)++(⟨b.toArray⟩:ByteArray))=⟨(a++b).toArray⟩:=by
 apply ByteArray.ext
 simp[ByteArray.data_append]
attribute [local go_sem] Zbs ByteArray.extract_mk Zbt
theorem new2 (w:World) (x y:Obj):((w.alloc x).alloc y).heap[w.heap.size+1]?=some y:=by
 have h:=_root_.Go.heap_alloc_new (w.alloc x) y
 have e:(w.alloc x).heap.size=w.heap.size+1:=by simp
 rwa [e] at h
def Stepped (o:Ig) (g:Nat) (w:World):Prop :=
 w.heap[g]?=some (.cells #[.bool o.tb,.func (.func 47) #[] #[],.bool o.wt,.func (.func 128) #[] #[],.bool o.sp,.func (.func 129) #[] #[],.bool o.tr,.func (.func 130) #[] #[],.bool o.cs,.func (.func 131) #[] #[]] 167 (0,0))
theorem Stepped.keep {o:Ig} {g:Nat} {w w':World} (h:Stepped o g w) (hb:Below w.heap.size w w'):Stepped o g w' :=
 (hb.block g (Array.getElem?_eq_some_iff.1 h).1).trans h
theorem Zlr (o:Ig) (w:World) :
  Calls Tryz.prog 111 #[igV o] w fun e w'=>∃ g,e=.returned (.slice (some ⟨g,0,none⟩) 5 5)∧Stepped o g w'∧Below w.heap.size w w':=by
 unfold igV
 go_enter Tryz.func111,Tryz.ntmps111
 go_wp2
 go_ret
 exact⟨w.heap.size+1,rfl,new2 w _ _,((Below.refl _ w).alloc (Nat.le_refl _) _).alloc (by simp) _⟩
end

end Go.Proofs.YtcnjephlmcnodaaGreatDoor.Tx

namespace Go.Proofs

section
open Go.Shelf Go.RowKit Go.Lib
def Tryz.lays167_ren:Go.Shelf.Ren:=⟨fun | 167=>68 | n=>Tryz.lays105_ren.f n,Tryz.lays105_ren.t,Tryz.lays105_ren.g⟩
theorem Tryz.lays167:Go.Proofs.Lays.n167 Tryz.prog Tryz.lays167_ren:={
 mixed:=Tryz.lays105.mixed
 f167:= Go.fk Tryz.func68
 f240:= Go.fk Tryz.func45
 f276:= Go.fk Tryz.func67
 t0:=Tryz.lays105.t0
 a0:=Tryz.lays105.a0
 z0:=Tryz.lays105.z0
 v0:=Tryz.lays105.v0
 t4:=Tryz.lays105.t4
 a4:=Tryz.lays105.a4
 z4:=Tryz.lays105.z4
 v4:=Tryz.lays105.v4
 t5:=Tryz.lays105.t5
 a5:=Tryz.lays105.a5
 z5:=Tryz.lays105.z5
 v5:=Tryz.lays105.v5
 t9:=Tryz.lays105.t9
 a9:=Tryz.lays105.a9
 z9:=Tryz.lays105.z9
 v9:=Tryz.lays105.v9
 t20:=Tryz.lays105.t20
 a20:=Tryz.lays105.a20
 z20:=Tryz.lays105.z20
 v20:=Tryz.lays105.v20
 t37:=Tryz.lays105.t37
 a37:=Tryz.lays105.a37
 z37:=Tryz.lays105.z37
 v37:=Tryz.lays105.v37
 t70:=Tryz.lays105.t70
 a70:=Tryz.lays105.a70
 z70:=Tryz.lays105.z70
 v70:=Tryz.lays105.v70
 t72:=Tryz.lays105.t72
 a72:=Tryz.lays105.a72
 z72:=Tryz.lays105.z72
 v72:=Tryz.lays105.v72
 t75:=Tryz.lays105.t75
 a75:=Tryz.lays105.a75
 z75:=Tryz.lays105.z75
 v75:=Tryz.lays105.v75
 t164:=Tryz.lays105.t164
 a164:=Tryz.lays105.a164
 z164:=Tryz.lays105.z164
 v164:=Tryz.lays105.v164 }
theorem Tryz.lays166_here:Go.Proofs.Lays.n166 Tryz.prog Tryz.lays105_ren:={ Tryz.lays105 with }
theorem Tryz.Builder_Extra_167:Builder.Extra Tryz.prog Tryz.lays167_ren:={ Tryz.Builder_Extra_105 with }
theorem Tryz.WriteByte_k (B b:Nat) (bs:List Value) (c:Int) (w:World) (h:Lib.IsBuilderF 58 5 B b bs w) (hlen:bs.length+1≤140737488355328) (hBw:B≤w.heap.size) :
  Calls Tryz.prog 68 #[.pointer (some ⟨b,0,none⟩),.int .u8 c] w fun e w'=>e=.returned .nilIface∧(Lib.BuilderAtF 58 5 B b (.pointer (some ⟨b,0,none⟩)) (bs++[.int .u8 c]) w'∧Below B w w'∧Lib.OthersKept 5 (some b) w w') :=
 Any.Builder_WriteByte_k Tryz.lays167 Tryz.Builder_Extra_167 B b bs c w h hlen hBw
theorem Tryz.WriteString_k (B b:Nat) (bs:List Value) (s:ByteArray) (w:World) (h:Lib.IsBuilderF 58 5 B b bs w) (hlen:bs.length+s.size≤140737488355328) (hBw:B≤w.heap.size) :
  Calls Tryz.prog 20 #[.pointer (some ⟨b,0,none⟩),.string s] w fun e w'=>e=.returned (.tuple #[.int .i64 s.size,.nilIface])∧(Lib.BuilderAtF 58 5 B b (.pointer (some ⟨b,0,none⟩)) (bs++Lib.strCells s) w'∧Below B w w'∧Lib.OthersKept 5 (some b) w w') :=
 Any.Builder_WriteString_k Tryz.lays166_here Tryz.Builder_Extra_105 B b bs s w h hlen hBw
theorem Tryz.TrimRight_white (s:ByteArray) (w:World) (hs:s.size≤9223372036854775807) :
  Calls Tryz.prog 33 #[.string s,.string ⟨#[32,9,11,12,13]⟩] w fun e w'=>e=.returned (.string ⟨(Lib.trimRightS s.data.toList [32,9,11,12,13]).toArray⟩)∧Below w.heap.size w w' :=
 Any.strings_TrimRight_laid Tryz.lays162 (by kernel_rfl) s ⟨#[32,9,11,12,13]⟩ w hs (by decide) (ascii_of_all (by decide))
end

end Go.Proofs

namespace Go.Proofs.YtcnjephlmcnodaaGreatDoor.Tx

section
open Cn Go.RowKit
attribute [local go_sem] Zbs ByteArray.extract_mk
theorem Zfu (c:UInt8):decide (0≤Lib.indexByte [32,9,11,12,13] c)=wh c:=by
 have h:∀ c:Fin 256,decide (0≤Lib.indexByte [32,9,11,12,13] (UInt8.ofNat c.val))=wh (UInt8.ofNat c.val):=by decide +kernel
 have:=h ⟨c.toNat,c.toNat_lt⟩
 simpa using this
theorem ZfN (c:UInt8) (w:World) :
  Calls Tryz.prog 139 #[.int .u8 (c.toNat:Int)] w fun e w'=>e=.returned (.bool (wh c))∧w=w':=by
 rw[← Zfu]
 generalize hq:Lib.indexByte [32,9,11,12,13] c=q
 go_enter Tryz.func139,Tryz.ntmps139
 go_wp2_with fail
 refine (Tryz.strings_IndexByte ⟨#[32,9,11,12,13]⟩ (c.toNat:Int) _).mono ?_
 rintro e w1 ⟨rfl,rfl⟩
 have hq':Lib.indexByte (⟨#[32,9,11,12,13]⟩:ByteArray).data.toList (Int.toNat (c.toNat:Int)).toUInt8=q:=by
  rw[← hq,Int.toNat_natCast]
  exact congrArg _ (UInt8.ofNat_toNat)
 rw[hq']
 go_wp2
 go_ret
 exact⟨rfl,rfl⟩
theorem ZnK (l:List UInt8) (w:World) (hl:l.length≤9223372036854775807) :
  Calls Tryz.prog 130 #[.string ⟨l.toArray⟩] w fun e w'=>e=.returned (.string ⟨(trL l).toArray⟩)∧Below w.heap.size w w':=by
 go_enter Tryz.func130,Tryz.ntmps130
 go_wp2_with fail
 refine (Tryz.TrimRight_white ⟨l.toArray⟩ _ hl).mono ?_
 rintro e w1 ⟨rfl,hb1⟩
 go_wp2
 go_ret
 exact⟨rfl,hb1⟩
theorem ZlC (s:List UInt8):Lib.hasSuffix s [10]=feedB s:=by
 unfold Lib.hasSuffix feedB
 rw[Bool.eq_iff_iff,List.isSuffixOf_iff_suffix,beq_iff_eq]
 constructor
 ·rintro⟨t,rfl⟩;simp
 ·intro h
  obtain⟨t,rfl⟩:=List.getLast?_eq_some_iff.1 h
  exact⟨t,rfl⟩
theorem Zmc (s:List UInt8):Lib.trimSuffix s [10]=bareL s:=by
 unfold Lib.trimSuffix bareL
 rw[ZlC,List.dropLast_eq_take];rfl
theorem Zab (l:List UInt8) (w:World) (hl:l.length≤9223372036854775807) :
  Calls Tryz.prog 19 #[.string ⟨l.toArray⟩] w fun e w'=>e=.returned (.tuple #[.string ⟨(bareL l).toArray⟩,.bool (feedB l)])∧w=w':=by
 go_enter Tryz.func19,Tryz.ntmps19
 go_wp2_with fail
 refine (Tryz.strings_CutSuffix ⟨l.toArray⟩ ⟨#[10]⟩ _ hl).mono ?_
 rintro e w1 ⟨rfl,rfl⟩
 go_wp2
 go_ret2
 rw[← Zmc,← ZlC]
 exact⟨rfl,rfl⟩
theorem Zcd (l:List UInt8):(Lib.byteCells l).length=l.length:=by simp[Lib.byteCells]
theorem ZnL (l:List UInt8) (w:World) (hl:l.length≤1099511627776) :
  Calls Tryz.prog 128 #[.string ⟨l.toArray⟩] w fun e w'=>e=.returned (.string ⟨(wo false false l).toArray⟩)∧Below w.heap.size w w':=by
 go_enter Tryz.func128,Tryz.ntmps128
 go_wp2
 go_loopw [4,7] (fun _ i wr=>∃ (k:Nat) (acc:List UInt8) (was:Bool),k≤l.length∧i=.int .i64 k∧Lib.IsBuilderF 58 5 w.heap.size w.heap.size (Lib.byteCells acc) wr∧Below w.heap.size w wr∧acc++wo false was (l.drop k)=wo false false l) (fun _ i _=>l.length-(intOf i).toNat)
 case atStart=>exact⟨0,[],false,Nat.zero_le _,rfl,(Bld.fresh 58 5 w).isF,(Below.refl _ w).alloc (Nat.le_refl _) _,rfl⟩
 case round =>
  obtain⟨k,acc,was,hk,rfl,hB,hbr,hacc⟩:=hrel
  have hal:acc.length≤l.length:=by
   have h1:=congrArg List.length hacc
   have h2:=ZnZ false l false
   rw[List.length_append] at h1
   omega
  have hbz:=hbr.size
  by_cases hlt:k<l.length
  ·have hdk:l.drop k=l[k]::l.drop (k+1):=List.drop_eq_getElem_cons hlt
   rw[hdk] at hacc
   clear hdk
   go_wp2_with fail
   refine (ZfN l[k] _).mono ?_
   rintro e w1 ⟨rfl,rfl⟩
   cases hc:wh l[k]
   ·have HD:Hid (acc++[l[k]]++wo false false (l.drop (k+1))=wo false false l):=by
     rw[ZnY hc] at hacc
     show _=_
     rw[← hacc,List.append_assoc];rfl
    clear hacc
    go_wp2_with fail
    refine (Tryz.WriteByte_k w.heap.size w.heap.size _ _ wr hB (by rw[Zcd];omega) hbz).mono ?_
    rintro e w2 ⟨rfl,hB2,hb2,-⟩
    rw[← ZbR] at hB2
    go_wp2
    go_roundw
    case rel=>exact⟨k+1,acc++[l[k]],false,by omega,by go_num,.inr hB2,hbr.trans hb2,HD.out⟩
    case measure=>simp[intOf];omega
   ·have HD:Hid (acc++wo false true (l.drop (k+1))=wo false false l):=by
     rw[Zoa hc] at hacc
     exact hacc
    clear hacc
    go_wp2
    go_roundw
    case rel=>exact⟨k+1,acc,true,by omega,by go_num,hB,hbr,HD.out⟩
    case measure=>simp[intOf];omega
  ·have HD:Hid (acc=wo false false l):=by
    have e:l.drop k=[]:=List.drop_eq_nil_of_le (by omega)
    rw[e] at hacc
    show acc=_
    simpa [wo] using hacc
   clear hacc
   go_wp2_with fail
   refine (Tryz.Builder_String_any_k w.heap.size w.heap.size acc wr hB hbz).mono ?_
   rintro e w2 ⟨rfl,-,hb2,-⟩
   go_wp2
   go_ret
   rw[HD.out]
   exact⟨rfl,hbr.trans hb2⟩
end

section
open Cn Go.RowKit
attribute [local go_sem] Zbs ByteArray.extract_mk
theorem ZnI (l:List UInt8) (w:World) (hl:l.length≤1099511627776) :
  Calls Tryz.prog 129 #[.string ⟨l.toArray⟩] w fun e w'=>e=.returned (.string ⟨(trL (wo true false l)).toArray⟩)∧Below w.heap.size w w':=by
 have hwl:=ZnZ true l false
 go_enter Tryz.func129,Tryz.ntmps129
 go_wp2
 go_loopw [4,5,6,9] (fun r _ _ i wr=>∃ (k:Nat) (acc:List UInt8) (was:Bool),k≤l.length∧r=.bool was∧i=.int .i64 k∧Lib.IsBuilderF 58 5 w.heap.size w.heap.size (Lib.byteCells acc) wr∧Below w.heap.size w wr∧acc++wo true was (l.drop k)=wo true false l) (fun _ _ _ i _=>l.length-(intOf i).toNat)
 case atStart=>exact⟨0,[],false,Nat.zero_le _,rfl,rfl,(Bld.fresh 58 5 w).isF,(Below.refl _ w).alloc (Nat.le_refl _) _,rfl⟩
 case round =>
  obtain⟨k,acc,was,hk,rfl,rfl,hB,hbr,hacc⟩:=hrel
  have hal:acc.length≤l.length:=by
   have h1:=congrArg List.length hacc
   rw[List.length_append] at h1
   omega
  have hbz:=hbr.size
  by_cases hlt:k<l.length
  ·have hdk:l.drop k=l[k]::l.drop (k+1):=List.drop_eq_getElem_cons hlt
   rw[hdk] at hacc
   clear hdk
   go_wp2_with fail
   refine (ZfN l[k] _).mono ?_
   rintro e w1 ⟨rfl,rfl⟩
   cases hc:wh l[k]
   ·have HD:Hid (acc++[l[k]]++wo true false (l.drop (k+1))=wo true false l):=by
     rw[ZnY hc] at hacc
     show _=_
     rw[← hacc,List.append_assoc];rfl
    clear hacc
    go_wp2_with fail
    refine (Tryz.WriteByte_k w.heap.size w.heap.size _ _ wr hB (by rw[Zcd];omega) hbz).mono ?_
    rintro e w2 ⟨rfl,hB2,hb2,-⟩
    rw[← ZbR] at hB2
    go_wp2
    go_roundw
    case rel=>exact⟨k+1,acc++[l[k]],false,by omega,rfl,by go_num,.inr hB2,hbr.trans hb2,HD.out⟩
    case measure=>simp[intOf];omega
   ·cases was
    ·have HD:Hid (acc++[32]++wo true true (l.drop (k+1))=wo true false l):=by
      rw[ZnX hc] at hacc
      show _=_
      rw[← hacc,List.append_assoc];rfl
     clear hacc
     go_wp2_with fail
     refine (Tryz.WriteString_k w.heap.size w.heap.size _ _ wr hB (by rw[Zcd];show acc.length+1≤_;omega) hbz).mono ?_
     rintro e w2 ⟨rfl,hB2,hb2,-⟩
     have hB3:Lib.BuilderAtF 58 5 w.heap.size w.heap.size (.pointer (some ⟨w.heap.size,0,none⟩)) (Lib.byteCells (acc++[32])) w2:=by rw[Lib.byteCells_append];exact hB2
     clear hB2
     go_wp2
     go_roundw
     case rel=>exact⟨k+1,acc++[32],true,by omega,rfl,by go_num,.inr hB3,hbr.trans hb2,HD.out⟩
     case measure=>simp[intOf];omega
    ·have HD:Hid (acc++wo true true (l.drop (k+1))=wo true false l):=by
      rw[Zob hc] at hacc
      exact hacc
     clear hacc
     go_wp2
     go_roundw
     case rel=>exact⟨k+1,acc,true,by omega,rfl,by go_num,hB,hbr,HD.out⟩
     case measure=>simp[intOf];omega
  ·have HD:Hid (acc=wo true false l):=by
    have e:l.drop k=[]:=List.drop_eq_nil_of_le (by omega)
    rw[e] at hacc
    show acc=_
    simpa [wo] using hacc
   clear hacc
   go_wp2_with fail
   refine (Tryz.Builder_String_any_k w.heap.size w.heap.size acc wr hB hbz).mono ?_
   rintro e w2 ⟨rfl,-,hb2,-⟩
   go_wp2_with fail
   refine (ZnK acc _ (by omega)).mono ?_
   rintro e w3 ⟨rfl,hb3⟩
   go_wp2
   go_ret
   rw[HD.out]
   have h2:=hb2.size
   exact⟨rfl,(hbr.trans hb2).trans (hb3.mono (by omega))⟩
theorem ZfL {T e:TypeId} {B b:Nat} {bs:List Value} {w w':World} (h:Lib.IsBuilderF T e B b bs w) (hb:Below w.heap.size w w'):Lib.IsBuilderF T e B b bs w':=by
 obtain⟨v,hv⟩:∃ v,Bld T e B b v bs w:=by
  rcases h with ⟨h1,v,h2,h3,h4⟩ | ⟨h1,v,h2,h3,h4⟩
  ·exact⟨v,h1,⟨_,.inl rfl,h2⟩,h3,h4⟩
  ·exact⟨v,h1,⟨_,.inr rfl,h2⟩,h3,h4⟩
 exact (hv.kept hb.block).isF
theorem Zap (l:List UInt8) (w:World) (hl:l.length≤1099511627776) :
  Calls Tryz.prog 47 #[.string ⟨l.toArray⟩] w fun e w'=>e=.returned (.string ⟨(expL 0 l).toArray⟩)∧Below w.heap.size w w':=by
 have hwl:=exp_len l 0
 go_enter Tryz.func47,Tryz.ntmps47
 go_wp2
 go_loopw [4,7] (fun _ i wr=>∃ (k:Nat) (acc:List UInt8),k≤l.length∧i=.int .i64 k∧Lib.IsBuilderF 58 5 w.heap.size w.heap.size (Lib.byteCells acc) wr∧Below w.heap.size w wr∧acc++expL acc.length (l.drop k)=expL 0 l) (fun _ i _=>l.length-(intOf i).toNat)
 case atStart=>exact⟨0,[],Nat.zero_le _,rfl,(Bld.fresh 58 5 w).isF,(Below.refl _ w).alloc (Nat.le_refl _) _,rfl⟩
 case round =>
  obtain⟨k,acc,hk,rfl,hB,hbr,hacc⟩:=hrel
  have hal:acc.length≤8 * l.length:=by
   have h1:=congrArg List.length hacc
   rw[List.length_append] at h1
   omega
  have hbz:=hbr.size
  by_cases hlt:k<l.length
  ·have hdk:l.drop k=l[k]::l.drop (k+1):=List.drop_eq_getElem_cons hlt
   rw[hdk] at hacc
   clear hdk
   by_cases hc:l[k]=9
   ·obtain⟨n,hn⟩:∃ n,8-acc.length % 8=n:=⟨_,rfl⟩
    have HD:Hid (acc++List.replicate n 32++expL (acc++List.replicate n 32).length (l.drop (k+1))=expL 0 l):=by
     rw[hc,exp_tab,hn] at hacc
     show _=_
     rw[← hacc,List.append_assoc,List.length_append,List.length_replicate]
    clear hacc
    have hb9:((l[k].toNat:Int) != 9)=false:=by rw[hc];rfl
    have HN:Hid ((8:Int)-(acc.length:Int) % 8=(n:Int)):=by show _=_;omega
    have hn8:n≤8:=by omega
    clear hn hc
    go_wp2_with fail
    refine (Tryz.Builder_Len_f w.heap.size w.heap.size _ wr hB).mono ?_
    rintro e w1 ⟨rfl,rfl⟩
    rw[Zcd]
    go_wp2_with fail
    rw[HN.out]
    refine (Tryz.strings_Repeat ⟨#[32]⟩ n _ (by omega) (by show 1 * n≤_;omega)).mono ?_
    rintro e w2 ⟨rfl,hb2⟩
    have hr:Lib.repeatL (⟨#[32]⟩:ByteArray).data.toList n=List.replicate n 32:=rep_blank n
    rw[hr]
    have hB1:=ZfL hB hb2
    have hbb:=hbr.trans (hb2.mono hbz)
    have hbz2:=hbb.size
    clear hB hb2 hr
    go_wp2_with fail
    refine (Tryz.WriteString_k w.heap.size w.heap.size _ _ w2 hB1 (by rw[Zcd];show acc.length+(List.replicate n 32).length≤_;rw[List.length_replicate];omega) hbz2).mono ?_
    rintro e w3 ⟨rfl,hB2,hb3,-⟩
    have hB3:Lib.BuilderAtF 58 5 w.heap.size w.heap.size (.pointer (some ⟨w.heap.size,0,none⟩)) (Lib.byteCells (acc++List.replicate n 32)) w3:=by rw[Lib.byteCells_append];exact hB2
    clear hB2
    go_wp2
    go_roundw
    case rel=>exact⟨k+1,acc++List.replicate n 32,by omega,by go_num,.inr hB3,hbb.trans hb3,HD.out⟩
    case measure=>simp[intOf];omega
   ·have HD:Hid (acc++[l[k]]++expL (acc++[l[k]]).length (l.drop (k+1))=expL 0 l):=by
     rw[exp_other hc] at hacc
     show _=_
     rw[← hacc,List.append_assoc,List.length_append];rfl
    clear hacc
    have hb9:((l[k].toNat:Int) != 9)=true:=(not9 hc).2
    go_wp2_with fail
    refine (Tryz.WriteByte_k w.heap.size w.heap.size _ _ wr hB (by rw[Zcd];omega) hbz).mono ?_
    rintro e w2 ⟨rfl,hB2,hb2,-⟩
    rw[← ZbR] at hB2
    go_wp2
    go_roundw
    case rel=>exact⟨k+1,acc++[l[k]],by omega,by go_num,.inr hB2,hbr.trans hb2,HD.out⟩
    case measure=>simp[intOf];omega
  ·have HD:Hid (acc=expL 0 l):=by
    have e:l.drop k=[]:=List.drop_eq_nil_of_le (by omega)
    rw[e] at hacc
    show acc=_
    simpa [expL] using hacc
   clear hacc
   go_wp2_with fail
   refine (Tryz.Builder_String_any_k w.heap.size w.heap.size acc wr hB hbz).mono ?_
   rintro e w2 ⟨rfl,-,hb2,-⟩
   go_wp2
   go_ret
   rw[HD.out]
   exact⟨rfl,hbr.trans hb2⟩
end

section
open Cn Go.RowKit
attribute [local go_sem] Zbs ByteArray.extract_mk Zbt
theorem Zaf (l:List UInt8) (o:Ig) (w:World) (hl:l.length≤137438953472) :
  Calls Tryz.prog 95 #[.string ⟨l.toArray⟩,igV o] w fun e w'=>e=.returned (.string ⟨(canonL o l).toArray⟩)∧Below w.heap.size w w':=by
 have hbl:=Zbz l
 have hbx:=Boxed.fresh o w
 have hb0:Below w.heap.size w (w.alloc (.cells #[.bool o.sp,.bool o.wt,.bool o.bl,.bool o.cs,.bool o.tb,.bool o.tr] 33)):=(Below.refl _ w).alloc (Nat.le_refl _) _
 have HC:Hid (canonL o l=stg o 5 (bareL l)++feedL l):=rfl
 unfold igV
 go_enter Tryz.func95,Tryz.ntmps95
 go_wp2_with fail
 refine (Zab l _ (by omega)).mono ?_
 rintro e w1 ⟨rfl,rfl⟩
 have hd:=hbx.cells
 have hz:=hb0.size
 generalize w.alloc (.cells #[.bool o.sp,.bool o.wt,.bool o.bl,.bool o.cs,.bool o.tb,.bool o.tr] 33)=wb at hbx hb0 hd hz ⊢
 obtain⟨d0,d1,d2,d3,d4,d5⟩:=hd
 generalize hbr:bareL l=r at *
 go_wp2_with fail
 refine (Zlr o _).mono ?_
 rintro e w2 ⟨g,rfl,hst,hb2⟩
 have hb3:=hb0.trans (hb2.mono hz)
 clear d0 d1 d2 d3 d4 d5 hb2 hbx hb0 hz
 go_wp2
 go_loopw [5,8,17] (fun t _ i wr=>∃ k:Nat,k≤5∧i=.int .i64 k∧t=.string ⟨(stg o k r).toArray⟩∧Stepped o g wr∧Below w.heap.size w wr) (fun _ _ i _=>5-(intOf i).toNat)
 case atStart=>exact⟨0,Nat.zero_le _,rfl,rfl,hst,hb3⟩
 case round =>
  obtain⟨k,hk,rfl,rfl,hst,hbr⟩:=hrel
  have hsl:=Zls o r k
  have hz:=hbr.size
  rcases (show k=0∨k=1∨k=2∨k=3∨k=4∨k=5 by omega) with rfl | rfl | rfl | rfl | rfl | rfl
  ·have c0:wr.cell? ⟨g,0,none⟩=some (.bool o.tb):=by rw[Lib.cell_of_heap hst];rfl
   have c1:wr.cell? ⟨g,1,none⟩=some (.func (.func 47) #[] #[]):=by rw[Lib.cell_of_heap hst];rfl
   generalize hx:stg o 0 r=x at *
   cases hq:o.tb
   ·have HS:Hid (stg o 1 r=x):=(Zlt (k:=0) hq r).trans hx
    rw[hq] at c0
    clear hq hx
    go_wp2
    go_roundw
    case rel=>exact⟨1,by omega,by go_num,by rw[HS.out],hst.keep ((Below.refl _ wr).alloc (Nat.le_refl _) _),hbr.alloc hz _⟩
    case measure=>simp[intOf]
   ·have HS:Hid (stg o 1 r=act 0 x):=(Zlu (k:=0) hq r).trans (congrArg _ hx)
    rw[hq] at c0
    clear hq hx
    go_wp2_with fail
    refine (Zap x _ (by omega)).mono ?_
    rintro e w4 ⟨rfl,hb4⟩
    have hb5:=(Below.refl _ wr).alloc (Nat.le_refl wr.heap.size) (.cells #[.bool true,.func (.func 47) #[] #[]] 167)
    have hb6:=hb5.trans (hb4.mono hb5.size)
    go_wp2
    go_roundw
    case rel=>exact⟨1,by omega,by go_num,by rw[HS.out];rfl,hst.keep hb6,hbr.trans (hb6.mono hz)⟩
    case measure=>simp[intOf]
  ·have c0:wr.cell? ⟨g,2,none⟩=some (.bool o.wt):=by rw[Lib.cell_of_heap hst];rfl
   have c1:wr.cell? ⟨g,3,none⟩=some (.func (.func 128) #[] #[]):=by rw[Lib.cell_of_heap hst];rfl
   generalize hx:stg o 1 r=x at *
   cases hq:o.wt
   ·have HS:Hid (stg o 2 r=x):=(Zlt (k:=1) hq r).trans hx
    rw[hq] at c0
    clear hq hx
    go_wp2
    go_roundw
    case rel=>exact⟨2,by omega,by go_num,by rw[HS.out],hst.keep ((Below.refl _ wr).alloc (Nat.le_refl _) _),hbr.alloc hz _⟩
    case measure=>simp[intOf]
   ·have HS:Hid (stg o 2 r=act 1 x):=(Zlu (k:=1) hq r).trans (congrArg _ hx)
    rw[hq] at c0
    clear hq hx
    go_wp2_with fail
    refine (ZnL x _ (by omega)).mono ?_
    rintro e w4 ⟨rfl,hb4⟩
    have hb5:=(Below.refl _ wr).alloc (Nat.le_refl wr.heap.size) (.cells #[.bool true,.func (.func 128) #[] #[]] 167)
    have hb6:=hb5.trans (hb4.mono hb5.size)
    go_wp2
    go_roundw
    case rel=>exact⟨2,by omega,by go_num,by rw[HS.out];rfl,hst.keep hb6,hbr.trans (hb6.mono hz)⟩
    case measure=>simp[intOf]
  ·have c0:wr.cell? ⟨g,4,none⟩=some (.bool o.sp):=by rw[Lib.cell_of_heap hst];rfl
   have c1:wr.cell? ⟨g,5,none⟩=some (.func (.func 129) #[] #[]):=by rw[Lib.cell_of_heap hst];rfl
   generalize hx:stg o 2 r=x at *
   cases hq:o.sp
   ·have HS:Hid (stg o 3 r=x):=(Zlt (k:=2) hq r).trans hx
    rw[hq] at c0
    clear hq hx
    go_wp2
    go_roundw
    case rel=>exact⟨3,by omega,by go_num,by rw[HS.out],hst.keep ((Below.refl _ wr).alloc (Nat.le_refl _) _),hbr.alloc hz _⟩
    case measure=>simp[intOf]
   ·have HS:Hid (stg o 3 r=act 2 x):=(Zlu (k:=2) hq r).trans (congrArg _ hx)
    rw[hq] at c0
    clear hq hx
    go_wp2_with fail
    refine (ZnI x _ (by omega)).mono ?_
    rintro e w4 ⟨rfl,hb4⟩
    have hb5:=(Below.refl _ wr).alloc (Nat.le_refl wr.heap.size) (.cells #[.bool true,.func (.func 129) #[] #[]] 167)
    have hb6:=hb5.trans (hb4.mono hb5.size)
    go_wp2
    go_roundw
    case rel=>exact⟨3,by omega,by go_num,by rw[HS.out];rfl,hst.keep hb6,hbr.trans (hb6.mono hz)⟩
    case measure=>simp[intOf]
  ·have c0:wr.cell? ⟨g,6,none⟩=some (.bool o.tr):=by rw[Lib.cell_of_heap hst];rfl
   have c1:wr.cell? ⟨g,7,none⟩=some (.func (.func 130) #[] #[]):=by rw[Lib.cell_of_heap hst];rfl
   generalize hx:stg o 3 r=x at *
   cases hq:o.tr
   ·have HS:Hid (stg o 4 r=x):=(Zlt (k:=3) hq r).trans hx
    rw[hq] at c0
    clear hq hx
    go_wp2
    go_roundw
    case rel=>exact⟨4,by omega,by go_num,by rw[HS.out],hst.keep ((Below.refl _ wr).alloc (Nat.le_refl _) _),hbr.alloc hz _⟩
    case measure=>simp[intOf]
   ·have HS:Hid (stg o 4 r=act 3 x):=(Zlu (k:=3) hq r).trans (congrArg _ hx)
    rw[hq] at c0
    clear hq hx
    go_wp2_with fail
    refine (ZnK x _ (by omega)).mono ?_
    rintro e w4 ⟨rfl,hb4⟩
    have hb5:=(Below.refl _ wr).alloc (Nat.le_refl wr.heap.size) (.cells #[.bool true,.func (.func 130) #[] #[]] 167)
    have hb6:=hb5.trans (hb4.mono hb5.size)
    go_wp2
    go_roundw
    case rel=>exact⟨4,by omega,by go_num,by rw[HS.out];rfl,hst.keep hb6,hbr.trans (hb6.mono hz)⟩
    case measure=>simp[intOf]
  ·have c0:wr.cell? ⟨g,8,none⟩=some (.bool o.cs):=by rw[Lib.cell_of_heap hst];rfl
   have c1:wr.cell? ⟨g,9,none⟩=some (.func (.func 131) #[] #[]):=by rw[Lib.cell_of_heap hst];rfl
   generalize hx:stg o 4 r=x at *
   cases hq:o.cs
   ·have HS:Hid (stg o 5 r=x):=(Zlt (k:=4) hq r).trans hx
    rw[hq] at c0
    clear hq hx
    go_wp2
    go_roundw
    case rel=>exact⟨5,by omega,by go_num,by rw[HS.out],hst.keep ((Below.refl _ wr).alloc (Nat.le_refl _) _),hbr.alloc hz _⟩
    case measure=>simp[intOf]
   ·have HS:Hid (stg o 5 r=act 4 x):=(Zlu (k:=4) hq r).trans (congrArg _ hx)
    rw[hq] at c0
    clear hq hx
    go_wp2_with fail
    refine (ZfE x _ (by omega)).mono ?_
    rintro e w4 ⟨rfl,hb4⟩
    have hb5:=(Below.refl _ wr).alloc (Nat.le_refl wr.heap.size) (.cells #[.bool true,.func (.func 131) #[] #[]] 167)
    have hb6:=hb5.trans (hb4.mono hb5.size)
    go_wp2
    go_roundw
    case rel=>exact⟨5,by omega,by go_num,by rw[HS.out];rfl,hst.keep hb6,hbr.trans (hb6.mono hz)⟩
    case measure=>simp[intOf]
  ·cases hf:feedB l
   ·have HF:Hid (feedL l=[]):=by show _=_;rw[feedL,hf];rfl
    go_wp2
    go_ret
    rw[HC.out,HF.out,List.append_nil]
    exact⟨rfl,hbr⟩
   ·have HF:Hid (feedL l=[10]):=by show _=_;rw[feedL,hf];rfl
    go_wp2
    go_ret
    rw[HC.out,HF.out]
    exact⟨rfl,hbr⟩
end

section
open Cn Go.RowKit
attribute [local go_sem] Zbs ByteArray.extract_mk Zbt
structure Stay (o:Ig) (b:Nat) (W w:World):Prop where
 box:Boxed o b w
 low:Below W.heap.size W w
theorem Stay.keep {o:Ig} {b:Nat} {W w w':World} (h:Stay o b W w) (hb:Below w.heap.size w w'):Stay o b W w':=⟨h.box.keep hb,h.low.trans (hb.mono h.low.size)⟩
theorem Zln (o:Ig) (b:Nat) (W w:World):Stay o b W w.drew↔Stay o b W w:=⟨fun h=>⟨h.box,(h.low.trans ⟨rfl,rfl,rfl,Nat.le_refl _,fun _ _=>rfl⟩:Below W.heap.size W w)⟩,fun h=>⟨h.box,h.low.drew⟩⟩
attribute [local simp] Zln
end

section
open Cn It Go.RowKit Go.Maps
attribute [local go_sem] Zbs ByteArray.extract_mk Zbt
structure But (S:Nat→Prop) (w w':World):Prop where
 os:w'.os=w.os
 tape:w'.tape=w.tape
 output:w'.output=w.output
 size:w.heap.size≤w'.heap.size
 block:∀ k,k<w.heap.size→¬ S k→w'.heap[k]?=w.heap[k]?
theorem But.of_below {S:Nat→Prop} {w w':World} (h:Below w.heap.size w w'):But S w w':=⟨h.os,h.tape,h.output,h.size,fun k hk _=>h.block k hk⟩
theorem But.of_grown {S:Nat→Prop} {w w':World} {row:Option Nat} (h:w.grownBy w' row) (hS:∀ k,row=some k→S k):But S w w':=⟨h.os,h.tape,h.output,h.size,fun k hk hn=>h.block k hk (fun e=>hn (hS k e.symm))⟩
theorem But.trans {S T:Nat→Prop} {a b c:World} (h:But S a b) (k:But T b c) (hS:∀ j,j<a.heap.size→T j→S j):But S a c :=
 ⟨k.os.trans h.os,k.tape.trans h.tape,k.output.trans h.output,Nat.le_trans h.size k.size,fun j hj hn=>(k.block j (Nat.lt_of_lt_of_le hj h.size) (fun e=>hn (hS j hj e))).trans (h.block j hj hn)⟩
theorem But.below {S:Nat→Prop} {N:Nat} {W w w':World} (h:But S w w') (hb:Below N W w) (hN:N≤w.heap.size) (hS:∀ k,S k→N≤k):Below N W w' :=
 ⟨h.os.trans hb.os,h.tape.trans hb.tape,h.output.trans hb.output,Nat.le_trans hb.size h.size,fun k hk=>(h.block k (Nat.lt_of_lt_of_le hk hN) (fun e=>absurd (hS k e) (by omega))).trans (hb.block k hk)⟩
theorem strKeyed:Keyed Tryz.prog 9:=string_keyed Tryz.underlying9
theorem zeroI (w:World):(zeroValue 3).run Tryz.prog w=.ok (.int .i64 0) w:=by kernel_rfl
structure Tbl (o:Ig) (fs:List (List UInt8)) (t B:Nat) (w:World):Prop where
 box:w.heap[t]?=some (.cells #[.bool o.sp,.bool o.wt,.bool o.bl,.bool o.cs,.bool o.tb,.bool o.tr,.map (some B)] 107 (0,0))
 map:∃ D:DataW Unit,w.ownsMap Tryz.prog 9 (plainElem Tryz.prog 3) B fs.length D∧Tells D fs
section
variable {o:Ig} {fs:List (List UInt8)} {t B:Nat} {w w':World}
theorem Tbl.lt (h:Tbl o fs t B w):t<w.heap.size:=(Array.getElem?_eq_some_iff.1 h.box).1
theorem Tbl.ltB (h:Tbl o fs t B w):B<w.heap.size:=by obtain⟨D,hm,_⟩:=h.map;exact hm.lt
theorem Tbl.ne (h:Tbl o fs t B w):t≠B:=by
 intro e
 obtain⟨D,⟨es,clock,hb,_⟩,_⟩:=h.map
 have hx:=h.box
 rw[e,hb] at hx
 cases hx
theorem Tbl.keep {S:Nat→Prop} (h:Tbl o fs t B w) (hb:But S w w') (ht:¬ S t) (hB:¬ S B):Tbl o fs t B w':=by
 refine⟨(hb.block t h.lt ht).trans h.box,?_⟩
 have hlt:=h.ltB
 obtain⟨D,⟨es,clock,hm,r⟩,hd⟩:=h.map
 exact⟨D,⟨es,clock,(hb.block B hlt hB).trans hm,r⟩,hd⟩
theorem Tbl.cells (h:Tbl o fs t B w):w.cell? ⟨t,0,none⟩=some (.bool o.sp)∧w.cell? ⟨t,1,none⟩=some (.bool o.wt)∧w.cell? ⟨t,2,none⟩=some (.bool o.bl)∧w.cell? ⟨t,3,none⟩=some (.bool o.cs)∧w.cell? ⟨t,4,none⟩=some (.bool o.tb)∧w.cell? ⟨t,5,none⟩=some (.bool o.tr)∧w.cell? ⟨t,6,none⟩=some (.map (some B)):=by
 refine⟨?_,?_,?_,?_,?_,?_,?_⟩<;>rw[Lib.cell_of_heap h.box]<;>rfl
theorem ZfY {f:List UInt8} (hf:f.length≤2199023255552):keyOf Tryz.prog 9 (.string ⟨f.toArray⟩)=some (.string f) :=
 WideMaps.keyOf_string_mk Tryz.underlying9 (s:=⟨f.toArray⟩) (by show f.toArray.size≤maxLen;unfold maxLen;simp;omega)
def lookN (fs:List (List UInt8)) (f:List UInt8):Nat:=if fs.contains f then num fs f else 0
def lookB (fs:List (List UInt8)) (f:List UInt8):Bool:=fs.contains f
theorem ZgU {f:List UInt8} (h:f∈fs):lookN fs f=num fs f:=by rw[lookN,if_pos (List.contains_iff_mem.2 h)]
theorem ZgT {f:List UInt8} (h:f∉fs):lookN fs f=0:=by rw[lookN,if_neg (fun e=>h (List.contains_iff_mem.1 e))]
theorem Tbl.look (h:Tbl o fs t B w) {f:List UInt8} (hf:f.length≤2199023255552) :
  (Instr.lookup 105 (.map (some B)) (.string ⟨f.toArray⟩) true).run Tryz.prog w=.ok (.tuple #[.int .i64 (lookN fs f),.bool (lookB fs f)]) w:=by
 obtain⟨D,hm,hd⟩:=h.map
 obtain⟨v,ps,hr,hv⟩:=hm.look_ok strKeyed Tryz.underlying105 (zeroI w) (plainElem_int Tryz.underlying3 (by decide)) (ZfY hf)
 obtain⟨c,rfl,hc,_⟩:=plainElem_int_inv Tryz.underlying3 hv
 have e:=hd.look (congrArg Prod.fst hc)
 rw[hr,hd.has,e]
 unfold lookN lookB
 split<;>rfl
theorem Tbl.len (h:Tbl o fs t B w) (ty:TypeId):(Builtin.len_ #[105] ty #[.map (some B)]).run Tryz.prog w=.ok (.int .i64 fs.length) w:=by
 obtain⟨D,hm,hd⟩:=h.map
 rw[hm.len Tryz.underlying105 ty,hd.size]
theorem Tbl.store (h:Tbl o fs t B w) {f:List UInt8} (hf:f.length≤2199023255552) (hn:f∉fs) (hl:fs.length≤1099511627776) :
  ∃ w',(Instr.mapUpdate 105 (.map (some B)) (.string ⟨f.toArray⟩) (.int .i64 fs.length)).run Tryz.prog w=.ok () w'∧Tbl o (fs++[f]) t B w'∧But (fun k=>k=B) w w':=by
 obtain⟨D,hm,hd⟩:=h.map
 obtain⟨w',hr,ho,ht⟩:=hm.store (val:=.int .i64 fs.length) strKeyed Tryz.underlying105 (by unfold maxLen;omega) (ZfY hf) (plainElem_int Tryz.underlying3 (WalkArith.wf_i64 (by omega)))
 have hb:But (fun k=>k=B) w w':=But.of_grown ht.grown (fun k e=>by cases e;rfl)
 exact⟨w',hr,⟨(hb.block t h.lt h.ne).trans h.box,D.put (.string f) (.lit (.int .i64 fs.length)),by simpa using ho,hd.put hn⟩,hb⟩
end
theorem Tbl.made (o:Ig) (w1:World) (m:Nat) (hm:w1.heap.size=m):Tbl o [] (m+1) m ((w1.alloc (.map #[] 0)).alloc (.cells #[.bool o.sp,.bool o.wt,.bool o.bl,.bool o.cs,.bool o.tb,.bool o.tr,.map (some m)] 107)):=by
 subst hm
 refine⟨?_,.map [],(World.ownsMap_made w1 _ _ _).alloc _,Tells.nil⟩
 have h:=_root_.Go.heap_alloc_new (w1.alloc (.map #[] 0)) (.cells #[.bool o.sp,.bool o.wt,.bool o.bl,.bool o.cs,.bool o.tb,.bool o.tr,.map (some w1.heap.size)] 107)
 have e:(w1.alloc (.map #[] 0)).heap.size=w1.heap.size+1:=by simp
 rw[e] at h
 exact h
theorem ZaJ (o:Ig) (w:World) :
  Calls Tryz.prog 38 #[igV o] w fun e w'=>∃ t B,e=.returned (.pointer (some ⟨t,0,none⟩))∧Tbl o [] t B w'∧w.heap.size≤t∧w.heap.size≤B∧Below w.heap.size w w':=by
 have hmm:=@run_makeMap Tryz.prog
 unfold igV
 go_enter Tryz.func38,Tryz.ntmps38
 go_wp2
 go_ret
 refine⟨w.heap.size+1+1,w.heap.size+1,rfl,Tbl.made o _ _ (by simp),by omega,by omega,?_⟩
 exact ((((Below.refl _ w).alloc (Nat.le_refl _) _).alloc (by simp) _).alloc (by simp;omega) _)
theorem ZaR (o:Ig) (fs:List (List UInt8)) (t B:Nat) (w:World) (hT:Tbl o fs t B w) :
  Calls Tryz.prog 40 #[.pointer (some ⟨t,0,none⟩)] w fun e w'=>e=.returned (.int .i64 fs.length)∧w=w':=by
 obtain⟨d0,d1,d2,d3,d4,d5,d6⟩:=hT.cells
 have hlen:=hT.len
 go_enter Tryz.func40,Tryz.ntmps40
 go_wp2
 go_ret
 exact⟨rfl,rfl⟩
structure Held (o:Ig) (fs:List (List UInt8)) (t B:Nat) (W w:World):Prop where
 tbl:Tbl o fs t B w
 low:Below W.heap.size W w
theorem ZeY (o:Ig) (fs:List (List UInt8)) (t B:Nat) (W w:World):Held o fs t B W w.drew↔Held o fs t B W w :=
 ⟨fun h=>⟨⟨h.tbl.box,h.tbl.map⟩,(h.low.trans ⟨rfl,rfl,rfl,Nat.le_refl _,fun _ _=>rfl⟩:Below W.heap.size W w)⟩,fun h=>⟨⟨h.tbl.box,h.tbl.map⟩,h.low.drew⟩⟩
attribute [local simp] ZeY
theorem Zaj (l f:List UInt8) (o:Ig) (fs:List (List UInt8)) (t B:Nat) (w:World) (hl:l.length≤137438953472) (hfl:Hid (canonL o l=f)) (hf:f.length≤2199023255552) (hT:Tbl o fs t B w) (hm:f∈fs) :
  Calls Tryz.prog 65 #[.pointer (some ⟨t,0,none⟩),.string ⟨l.toArray⟩] w fun e w'=>e=.returned (.int .i64 (num fs f))∧Tbl o fs t B w'∧But (fun k=>k=B) w w':=by
 obtain⟨d0,d1,d2,d3,d4,d5,d6⟩:=hT.cells
 have HM:Hid (f∈fs):=hm
 clear hm
 go_enter Tryz.func65,Tryz.ntmps65
 go_wp2_with fail
 refine (Zaf l o _ hl).mono ?_
 rintro e w1 ⟨rfl,hb1⟩
 rw[hfl.out]
 clear d0 d1 d2 d3 d4 d5 d6
 have hT1:=hT.keep (S:=fun _=>False) (.of_below hb1) (fun h=>h) (fun h=>h)
 obtain⟨d0,d1,d2,d3,d4,d5,d6⟩:=hT1.cells
 have hlk:=hT1.look hf
 rw[show lookB fs f=true from List.contains_iff_mem.2 HM.out,ZgU HM.out] at hlk
 go_wp2
 go_ret
 exact⟨rfl,hT1,.of_below hb1⟩
theorem Zai (l f:List UInt8) (o:Ig) (fs:List (List UInt8)) (t B:Nat) (w:World) (hl:l.length≤137438953472) (hfl:Hid (canonL o l=f)) (hf:f.length≤2199023255552) (hfs:fs.length≤1099511627776) (hT:Tbl o fs t B w) (hm:f∉fs) :
  Calls Tryz.prog 65 #[.pointer (some ⟨t,0,none⟩),.string ⟨l.toArray⟩] w fun e w'=>e=.returned (.int .i64 fs.length)∧Tbl o (fs++[f]) t B w'∧But (fun k=>k=B) w w':=by
 obtain⟨d0,d1,d2,d3,d4,d5,d6⟩:=hT.cells
 have HM:Hid (f∉fs):=hm
 clear hm
 go_enter Tryz.func65,Tryz.ntmps65
 go_wp2_with fail
 refine (Zaf l o _ hl).mono ?_
 rintro e w1 ⟨rfl,hb1⟩
 rw[hfl.out]
 clear d0 d1 d2 d3 d4 d5 d6
 have hT1:=hT.keep (S:=fun _=>False) (.of_below hb1) (fun h=>h) (fun h=>h)
 obtain⟨d0,d1,d2,d3,d4,d5,d6⟩:=hT1.cells
 have hlk:=hT1.look hf
 rw[show lookB fs f=false from Bool.eq_false_iff.2 (fun e=>HM.out (List.contains_iff_mem.1 e)),ZgT HM.out] at hlk
 obtain⟨w2,hst,hT2,hB2⟩:=hT1.store hf HM.out hfs
 have hlen:=hT1.len
 go_wp2
 go_ret
 exact⟨rfl,hT2,(But.of_below hb1).trans hB2 (fun _ _ h=>h)⟩
theorem Zah (l:List UInt8) (o:Ig) (fs:List (List UInt8)) (t B:Nat) (w:World) (hl:l.length≤137438953472) (hfs:fs.length≤1099511627776) (hT:Tbl o fs t B w) :
  Calls Tryz.prog 65 #[.pointer (some ⟨t,0,none⟩),.string ⟨l.toArray⟩] w fun e w'=>e=.returned (.int .i64 (num fs (canonL o l)))∧Tbl o (add fs (canonL o l)) t B w'∧But (fun k=>k=B) w w':=by
 have hcl:=ZbW o l
 by_cases hm:canonL o l∈fs
 ·rw[Zbj hm]
  exact Zaj l _ o fs t B w hl (show _=_ from rfl) (by omega) hT hm
 ·rw[Zbi hm,ZhT hm]
  exact Zai l _ o fs t B w hl (show _=_ from rfl) (by omega) hfs hT hm
end

section
open Go.RowKit
attribute [local go_sem] Zbs ByteArray.extract_mk
def scells (ws:List (List UInt8)):List Value:=ws.map fun a=>.string ⟨a.toArray⟩
def icells (ns:List Nat):List Value:=ns.map fun (n:Nat)=>.int .i64 (n:Int)
theorem scells_length (ws:List (List UInt8)):(scells ws).length=ws.length:=by simp[scells]
theorem icells_length (ws:List Nat):(icells ws).length=ws.length:=by simp[icells]
theorem icells_append (a b:List Nat):icells (a++b)=icells a++icells b:=by simp[icells]
theorem icells_one (ws:List Nat):∀ u∈icells ws,u.oneCell'=true:=by
 intro u hu
 simp only[icells,List.mem_map] at hu
 obtain⟨a,_,rfl⟩:=hu
 rfl
theorem infoStr:(Tryz.prog.info? 9).map (fun i=>(i.zero,i.size,i.bytes))=some (some (.string ⟨#[]⟩),1,16):=by kernel_rfl
theorem infoInt:(Tryz.prog.info? 3).map (fun i=>(i.zero,i.size,i.bytes))=some (some (.int .i64 0),1,8):=by kernel_rfl
theorem addr_of {W:World} {a:Addr} {v:Value} (h:W.cell? (a.add 0)=some v):∃ b off,a=⟨b,off,none⟩:=by
 obtain⟨b,off,spot⟩:=a
 have hspot:spot=none:=by simpa [Addr.add] using World.cell?_spot h
 subst hspot
 exact⟨b,off,rfl⟩
theorem add_none (b off j:Nat):(⟨b,off,none⟩:Addr).add j=⟨b,off+j,none⟩:=by unfold Addr.add;split<;>simp_all
def Holds (w:World) (v:Value) (xs:List Value):Prop :=
 (v=.slice none 0 0∧xs=[])∨∃ ad c,v=.slice (some ad) xs.length c∧xs.length≤c∧∀ j u,xs[j]?=some u→w.cell? (ad.add j)=some u
theorem holds_of {w:World} {B:Nat} {e:TypeId} {v:Value} {n:Nat} {xs:List Value} (h:w.ownsRow B e 1 v n xs):Holds w v xs:=by
 have hn:xs.length=n:=by rw[h.1,Nat.mul_one]
 subst hn
 rcases h.2 with ⟨rfl,h0⟩ | ⟨g,cap,cur,rfl,_,_,hnc,_⟩
 ·exact .inl ⟨rfl,List.eq_nil_of_length_eq_zero h0⟩
 ·exact .inr ⟨⟨g,0,none⟩,cap,rfl,hnc,h.cells (g:=g) rfl⟩
theorem Holds.keep {w w':World} {v:Value} {xs:List Value} (h:Holds w v xs) (hk:∀ k,k<w.heap.size→w'.heap[k]?=w.heap[k]?):Holds w' v xs:=by
 rcases h with h | ⟨ad,c,hv,hnc,hc⟩
 ·exact .inl h
 ·refine .inr ⟨ad,c,hv,hnc,fun j u hj=>?_⟩
  have h1:=hc j u hj
  have hlt:=World.block_lt_of_cell? w _ h1
  rw[World.cell?_of_block (w:=w) (hk _ hlt)]
  exact h1
theorem Holds.form {w:World} {v:Value} {xs:List Value} (h:Holds w v xs):∃ ao c,v=.slice ao xs.length c:=by
 rcases h with ⟨rfl,rfl⟩ | ⟨ad,c,rfl,_⟩
 ·exact⟨_,_,rfl⟩
 ·exact⟨_,_,rfl⟩
theorem Holds.at {w:World} {v:Value} {xs:List Value} (h:Holds w v xs) (h0:0<xs.length):∃ b off c,v=.slice (some ⟨b,off,none⟩) xs.length c∧b<w.heap.size∧∀ j (hj:j<xs.length),w.cell? ⟨b,off+j,none⟩=some xs[j]:=by
 rcases h with ⟨_,rfl⟩ | ⟨ad,c,rfl,_,hc⟩
 ·simp at h0
 ·obtain⟨b,off,rfl⟩:=addr_of (hc 0 _ (List.getElem?_eq_getElem h0))
  refine⟨b,off,c,rfl,World.block_lt_of_cell? w _ (hc 0 _ (List.getElem?_eq_getElem h0)),fun j hj=>?_⟩
  have:=hc j _ (List.getElem?_eq_getElem hj)
  rw[add_none] at this
  exact this
theorem Holds.nil (w:World):Holds w (.slice none 0 0) []:=.inl ⟨rfl,rfl⟩
end

end Go.Proofs.YtcnjephlmcnodaaGreatDoor.Tx
