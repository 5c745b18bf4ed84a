/-
  Texts that belong together, joined: CnShelf, CnMath, Kit, CnByte, CnRef, CnSmall.
-/
import Derived.Shelf.Strings.BuilderK
import Derived.Shelf.Small.Wraps
import Derived.Shelf.Small.Strs
import Derived.Test.YtcnjephlmcnodaaProg
import Derived.Lib.SlTrimSet
import Derived.Lib.Repeat
import Derived.Lib.FrozenHead2
import Derived.Lib.OthersKept
import Derived.Laws.IdiomStrings
import Derived.Deep.RegionLaw
import Derived.WalkKit
import Derived.WalkSmall
import Derived.WalkSpells
import Derived.WalkLawsBesides
import Derived.Deep.QuietTactic
import Derived.BigQuiet

set_option maxHeartbeats 16000000
set_option maxRecDepth 100000
/- Contracts of the library at this program: the program bears the bodies that they speak of. Taken: Builder_String_any_k, strings_CutSuffix. -/
theorem Go.fk {α:Type _} {x:Option α} {a b:α} (h:x=some a) (e:a=b:=by kernel_rfl):x=some b:=h.trans (congrArg some e)
namespace Go.Proofs
open Go.Shelf
def Try.lays169_ren : Go.Shelf.Ren := ⟨fun | 169 => 15 | n => n, fun | 70 => 30 | 9 => 9 | 0 => 0 | 72 => 33 | 37 => 31 | 127 => 53 | 3 => 3 | 5 => 5 | n => n, fun | n => n⟩
theorem Try.lays169 : Go.Proofs.Lays.n169 Try.prog Try.lays169_ren := {
  mixed := by kernel_rfl
  f169 := Go.fk Try.func15
  t0 := Try.underlying0
  a0 := Try.isAgg0
  z0 := Try.sizeOf0
  v0 := Try.zeroValue0
  t3 := Try.underlying3
  a3 := Try.isAgg3
  z3 := Try.sizeOf3
  v3 := Try.zeroValue3
  t9 := Try.underlying9
  a9 := Try.isAgg9
  z9 := Try.sizeOf9
  v9 := Try.zeroValue9
  t37 := Try.underlying31
  a37 := Try.isAgg31
  z37 := Try.sizeOf31
  v37 := Try.zeroValue31
  t70 := Try.underlying30
  a70 := Try.isAgg30
  z70 := Try.sizeOf30
  v70 := Try.zeroValue30
  t72 := Try.underlying33
  a72 := Try.isAgg33
  z72 := Try.sizeOf33
  v72 := Try.zeroValue33
  t127 := Try.underlying53
  a127 := Try.isAgg53
  z127 := Try.sizeOf53
  v127 := Try.zeroValue53 }
theorem Try.Builder_Extra_169 : Builder.Extra Try.prog Try.lays169_ren := {
  sizeBuilder := by kernel_rfl
  liesBuilder := by kernel_rfl
  t5 := Try.underlying5
  a5 := Try.isAgg5
  z5 := Try.sizeOf5
  v5 := Try.zeroValue5
  infoByte := by kernel_rfl
  cellsByte := by kernel_rfl
  sizeByte := by kernel_rfl
  neB5 := by decide }
def Try.lays104_ren : Go.Shelf.Ren := ⟨fun | 104 => 22 | 211 => 27 | 207 => 29 | n => n, fun | 9 => 9 | 4 => 4 | 24 => 34 | 3 => 3 | n => n, fun | n => n⟩
theorem Try.lays104 : Go.Proofs.Lays.n104 Try.prog Try.lays104_ren := {
  mixed := by kernel_rfl
  f104 := Go.fk Try.func22
  f207 := Go.fk Try.func29
  f211 := Go.fk Try.func27
  t3 := Try.underlying3
  a3 := Try.isAgg3
  z3 := Try.sizeOf3
  v3 := Try.zeroValue3
  t4 := Try.underlying4
  a4 := Try.isAgg4
  z4 := Try.sizeOf4
  v4 := Try.zeroValue4
  t9 := Try.underlying9
  a9 := Try.isAgg9
  z9 := Try.sizeOf9
  v9 := Try.zeroValue9
  t24 := Try.underlying34
  a24 := Try.isAgg34
  z24 := Try.sizeOf34
  v24 := Try.zeroValue34 }
open Go.RowKit in
theorem Try.strings_CutSuffix (s p : ByteArray) (w : World) (hs : s.size ≤ 9223372036854775807) :
    Calls Try.prog 22 #[.string s, .string p] w fun e w' => e = .returned (.tuple #[.string ⟨(Lib.trimSuffix s.data.toList p.data.toList).toArray⟩, .bool (Lib.hasSuffix s.data.toList p.data.toList)]) ∧ w' = w := Any.strings_CutSuffix Try.lays104 s p w hs
open Go.RowKit in
theorem Try.Builder_String_any_k (B b : Nat) (l : List UInt8) (w : World) (h : Lib.IsBuilderF 33 5 B b (Lib.byteCells l) w) (hBw : B ≤ w.heap.size) :
    Calls Try.prog 15 #[.pointer (some ⟨b, 0, none⟩)] w fun e w' => e = .returned (.string ⟨l.toArray⟩) ∧ (Lib.IsBuilderF 33 5 B b (Lib.byteCells l) w' ∧ Below B w w' ∧ Lib.OthersKept 5 (some b) w w') := Any.Builder_String_any_k Try.lays169 Try.Builder_Extra_169 B b l w h hBw
end Go.Proofs

namespace Go.Proofs.Ytcnjephlmcnodaa.Tx.Cn

section
open Go
def feedB (s:List UInt8):Bool:=s.getLast? == some 10
def bareL (s:List UInt8):List UInt8:=if feedB s then s.dropLast else s
def feedL (s:List UInt8):List UInt8:=bif feedB s then [10] else []
def wh (c:UInt8):Bool:=[32,9,11,12,13].contains c
def expL:Nat→List UInt8→List UInt8
 | _,[]=>[]
 | k,c::r=>if c=9 then List.replicate (8-k % 8) 32++expL (k+(8-k % 8)) r else c::expL (k+1) r
def wo (blank:Bool):Bool→List UInt8→List UInt8
 | _,[]=>[]
 | was,c::r=>bif wh c then (bif blank && !was then 32::wo blank true r else wo blank true r) else c::wo blank false r
def trL (l:List UInt8):List UInt8:=Lib.trimRightS l [32,9,11,12,13]
def low (c:UInt8):UInt8:=if 65≤c.toNat∧c.toNat≤90 then c+32 else c
def smL (l:List UInt8):List UInt8:=l.map low
structure Ig where
 sp:Bool
 wt:Bool
 bl:Bool
 cs:Bool
 tb:Bool
 tr:Bool
def ask (o:Ig):Nat→Bool
 | 0=>o.tb
 | 1=>o.wt
 | 2=>o.sp
 | 3=>o.tr
 | _=>o.cs
def act:Nat→List UInt8→List UInt8
 | 0,l=>expL 0 l
 | 1,l=>wo false false l
 | 2,l=>trL (wo true false l)
 | 3,l=>trL l
 | _,l=>smL l
def stg (o:Ig):Nat→List UInt8→List UInt8
 | 0,l=>l
 | k+1,l=>bif ask o k then act k (stg o k l) else stg o k l
def canonL (o:Ig) (l:List UInt8):List UInt8:=stg o 5 (bareL l)++feedL l
def pre (o:Ig) (l:List UInt8):List UInt8:=bif o.tb then expL 0 (bareL l) else bareL l
def sm? (o:Ig) (l:List UInt8):List UInt8:=bif o.cs then smL l else l
def o0 (o:Ig):Ig:={ o with sp:=false,wt:=false,tr:=false }
def ok (o:Ig) (k:Nat):Ig:={ o with sp:=decide (k=2),wt:=decide (k=3),tr:=decide (k=1) }
theorem c0 (o:Ig) (l:List UInt8):canonL (o0 o) l=sm? o (pre o l)++feedL l:=by
 unfold canonL stg sm? pre
 simp only[stg,ask,act,o0,cond_false]
theorem c1 (o:Ig) (l:List UInt8):canonL (ok o 1) l=sm? o (trL (pre o l))++feedL l:=by
 unfold canonL stg sm? pre
 simp[stg,ask,act,ok]
theorem c2 (o:Ig) (l:List UInt8):canonL (ok o 2) l=sm? o (trL (wo true false (pre o l)))++feedL l:=by
 unfold canonL stg sm? pre
 simp[stg,ask,act,ok]
theorem c3 (o:Ig) (l:List UInt8):canonL (ok o 3) l=sm? o (wo false false (pre o l))++feedL l:=by
 unfold canonL stg sm? pre
 simp[stg,ask,act,ok]
end

end Go.Proofs.Ytcnjephlmcnodaa.Tx.Cn

namespace Go.Proofs.Ytcnjephlmcnodaa.Tx

section
open Go.RowKit
theorem ret_bool {a b:Bool} (h:a=b):Ending.returned (.bool a)=.returned (.bool b):=by rw[h]
theorem ret_int {k:IntKind} {a b:Int} (h:a=b):Ending.returned (.int k a)=.returned (.int k b):=by rw[h]
section
variable {P:Program} (w:World)
end
def Bld (T e:TypeId) (B b:Nat) (v:Value) (bs:List Value) (w:World):Prop :=
 B≤b∧(∃ p,(p=.pointer none∨p=.pointer (some ⟨b,0,none⟩))∧w.heap[b]?=some (.cells #[p,v] T (0,0)))∧w.ownsRowF B e 1 v bs.length bs∧v.ownBlock≠some b
theorem Bld.isF {T e:TypeId} {B b:Nat} {v:Value} {bs:List Value} {w:World} (h:Bld T e B b v bs w):Lib.IsBuilderF T e B b bs w:=by
 obtain⟨hB,⟨p,hp,hb⟩,hown,hne⟩:=h
 rcases hp with rfl | rfl
 ·exact .inl ⟨hB,v,hb,hown,hne⟩
 ·exact .inr ⟨hB,v,hb,hown,hne⟩
theorem Bld.lt {T e:TypeId} {B b:Nat} {v:Value} {bs:List Value} {w:World} (h:Bld T e B b v bs w):b<w.heap.size:=by
 obtain⟨_,⟨p,_,hb⟩,_⟩:=h
 exact (Array.getElem?_eq_some_iff.1 hb).1
def Aside (b:Nat) (v:Value) (w w':World):Prop:=∀ k,k<w.heap.size→k≠b→v.ownBlock≠some k→w'.heap[k]?=w.heap[k]?
def Fresh (v v':Value) (w:World):Prop:=v'.ownBlock=v.ownBlock∨∃ g,v'.ownBlock=some g∧w.heap.size≤g
theorem Bld.kept {T e:TypeId} {B b:Nat} {v:Value} {bs:List Value} {w w':World} (h:Bld T e B b v bs w) (hk:∀ k,k<w.heap.size→w'.heap[k]?=w.heap[k]?):Bld T e B b v bs w':=by
 have hlt:=h.lt
 obtain⟨hB,⟨p,hp,hb⟩,⟨hl,hown⟩,hne⟩:=h
 refine⟨hB,⟨p,hp,(hk b hlt).trans hb⟩,⟨hl,?_⟩,hne⟩
 rcases hown with h | ⟨g,cap,cur,fz,q1,q2,q3,q4⟩
 ·exact .inl h
 ·exact .inr ⟨g,cap,cur,fz,q1,q2,(hk g (Array.getElem?_eq_some_iff.1 q3).1).trans q3,q4⟩
theorem Bld.alloc {T e:TypeId} {B b:Nat} {v:Value} {bs:List Value} {w:World} (h:Bld T e B b v bs w) (o:Obj):Bld T e B b v bs (w.alloc o) :=
 h.kept fun k hk=>Below.heap_alloc w o k hk
theorem Bld.fresh (T e:TypeId) (w:World):Bld T e w.heap.size w.heap.size (.slice none 0 0) [] (w.alloc (.cells #[.pointer none,.slice none 0 0] T)) :=
 ⟨Nat.le_refl _,⟨_,.inl rfl,_root_.Go.heap_alloc_new w _⟩,World.ownsRowF_nil _ _ _ _,by simp[Value.ownBlock]⟩
theorem Bld.put {T e:TypeId} {B b:Nat} {p v v':Value} {bs:List Value} {w:World} (hB:B≤b) (hp:p=.pointer none∨p=.pointer (some ⟨b,0,none⟩)) (hb:w.heap[b]?=some (.cells #[p,v] T (0,0))) (hown:w.ownsRowF B e 1 v' bs.length bs) (hTe:T≠e) :
  Bld T e B b v' bs (w.setCell ⟨b,1,none⟩ v'):=by
 have hne:v'.ownBlock≠some b:=by
  intro h
  rcases hown.2 with ⟨h1,_⟩ | ⟨g,cap,cur,fz,q1,q2,q3,q4⟩
  ·rw[h1] at h;cases h
  ·rw[q1] at h
   have hg:g=b:=by simpa [Value.ownBlock] using h
   rw[hg,hb] at q3
   simp only[Option.some.injEq,Obj.cells.injEq] at q3
   exact hTe q3.2.1
 have ho:∀ k,k≠b→(w.setCell ⟨b,1,none⟩ v').heap[k]?=w.heap[k]?:=fun k hk=>Below.heap_setCell w _ _ k hk
 refine⟨hB,⟨p,hp,?_⟩,⟨hown.1,?_⟩,hne⟩
 ·simp only[World.setCell,Array.getElem?_modify,hb]
  simp
 ·rcases hown.2 with h | ⟨g,cap,cur,fz,q1,q2,q3,q4⟩
  ·exact .inl h
  ·exact .inr ⟨g,cap,cur,fz,q1,q2,(ho g (fun e=>hne (by rw[q1,e];rfl))).trans q3,q4⟩
def Beside (R:Nat) (o:Obj) (b:Nat) (v:Value) (w:World):Prop:=w.heap[R]?=some o∧R≠b∧v.ownBlock≠some R
theorem Beside.cell {R:Nat} {C:Array Value} {t:TypeId} {fz:Nat × Nat} {b:Nat} {v:Value} {w:World} (h:Beside R (.cells C t fz) b v w) (j:Nat):w.cell? ⟨R,j,none⟩=C[j]?:=by
 rw[cell_of_row w R j C t fz h.1]
theorem Zag (l:List UInt8) (k:Nat) (h:k<(⟨l.toArray⟩:ByteArray).size):(⟨l.toArray⟩:ByteArray)[k]'h=l[k]'(h):=rfl
theorem Bld.drewN {T e:TypeId} {B b:Nat} {v:Value} {bs:List Value} {w:World} (h:Bld T e B b v bs w) (n:Nat):Bld T e B b v bs (w.drewN n):=h.kept fun _ _=>rfl
end

section
open Cn Go.RowKit
theorem bare_no {l:List UInt8} (h0:0<l.length) (h:l[l.length-1]≠10):bareL l=l∧feedB l=false:=by
 have hf:feedB l=false:=by unfold feedB;rw[List.getLast?_eq_getElem?,List.getElem?_eq_getElem (by omega)];simpa using h
 exact⟨by rw[bareL,hf];rfl,hf⟩
end

section
open Cn Go.RowKit
attribute [local go_sem] Zag ByteArray.extract_mk
end

section
open Cn Go.RowKit
attribute [local go_sem] Zag ByteArray.extract_mk
end

end Go.Proofs.Ytcnjephlmcnodaa.Tx
