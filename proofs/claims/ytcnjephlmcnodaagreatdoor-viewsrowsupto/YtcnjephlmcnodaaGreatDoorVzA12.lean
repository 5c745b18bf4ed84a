/-
  Texts that belong together, joined: LnShelf, LnMath, HuLm, Math, PMath, BackMath, NoMath, NoB, ViMath, NoM2, NoM3, NoM4, CxMath, CxM2, CxM3, CxM4, CxM5, ViM2, ViM3, NoJn, NoTx, NoRf, NoCg, ViR, ViS, CwA, Copy, CwB, VcX, ViU, NpS, ViV, ViW.
-/
import Derived.Shelf.Strings.Search3
import Derived.Test.YtcnjephlmcnodaaGreatDoorProg
import Derived.Lib.Bytealg
import Derived.Lib.Join
import Derived.Lib.ItoaNum
import Derived.Test.YtcnjephlmcnodaaGreatDoorVzA1
import Derived.Laws.IdiomStrings
import Derived.Deep.RegionHeld3
import Derived.Deep.CutBlock
import Derived.Deep.DeepCutAuto
import Derived.Lib.FrozenHead2
import Derived.Shelf.Strings.Builder1
import Derived.WalkKit
import Derived.WalkSpells
import Derived.WalkLawsBesides
import Derived.BigQuiet
import Derived.Test.YtcnjephlmcnodaaGreatDoorVzA4

set_option maxHeartbeats 16000000
set_option maxRecDepth 100000
namespace Go.Proofs

section
open Go.Shelf
def Tryz.lays143_ren : Go.Shelf.Ren := ⟨fun | 143 => 13 | 219 => 36 | 217 => 56 | 225 => 57 | 224 => 58 | 267 => 59 | 266 => 76 | 314 => 77 | n => n, fun | 9 => 9 | 3 => 3 | 4 => 4 | 5 => 5 | 46 => 90 | 146 => 114 | 51 => 113 | n => n, fun | 1 => 0 | n => n⟩
theorem Tryz.lays143 : Go.Proofs.Lays.n143 Tryz.prog Tryz.lays143_ren := {
  mixed := by kernel_rfl
  f143 := Go.fk Tryz.func13
  f217 := Go.fk Tryz.func56
  f219 := Go.fk Tryz.func36
  f224 := Go.fk Tryz.func58
  f225 := Go.fk Tryz.func57
  f266 := Go.fk Tryz.func76
  f267 := Go.fk Tryz.func59
  f314 := Go.fk Tryz.func77
  t3 := Tryz.underlying3
  a3 := Tryz.isAgg3
  z3 := Tryz.sizeOf3
  v3 := Tryz.zeroValue3
  t4 := Tryz.underlying4
  a4 := Tryz.isAgg4
  z4 := Tryz.sizeOf4
  v4 := Tryz.zeroValue4
  t5 := Tryz.underlying5
  a5 := Tryz.isAgg5
  z5 := Tryz.sizeOf5
  v5 := Tryz.zeroValue5
  t9 := Tryz.underlying9
  a9 := Tryz.isAgg9
  z9 := Tryz.sizeOf9
  v9 := Tryz.zeroValue9
  t46 := Tryz.underlying90
  a46 := Tryz.isAgg90
  z46 := Tryz.sizeOf90
  v46 := Tryz.zeroValue90
  t51 := Tryz.underlying113
  a51 := Tryz.isAgg113
  z51 := Tryz.sizeOf113
  v51 := Tryz.zeroValue113
  t146 := Tryz.underlying114
  a146 := Tryz.isAgg114
  z146 := Tryz.sizeOf114
  v146 := Tryz.zeroValue114
  g1 := by kernel_rfl }
open Go.RowKit Go.Lib in
theorem Tryz.strings_Index_one (s : ByteArray) (c : UInt8) (w : World) :
    Calls Tryz.prog 13 #[.string s, .string ⟨#[c]⟩] w fun e w' => e = .returned (.int .i64 (Lib.indexByte s.data.toList c)) ∧ w' = w := Any.strings_Index_one Tryz.lays143 s c w
end

end Go.Proofs

namespace Go.Proofs.YtcnjephlmcnodaaGreatDoor.Ln

section
open Go
def splitL:List UInt8→List (List UInt8)
 | []=>[]
 | c::t=>if c=10 then [c]::splitL t else match splitL t with
  | []=>[[c]]
  | x::r=>(c::x)::r
theorem Zlk (a b:List UInt8) (h:∀ c∈a,c≠10):splitL (a++10::b)=(a++[10])::splitL b:=by
 induction a with
 | nil=>simp[splitL]
 | cons c a ih =>
  have hc:c≠10:=h c (by simp)
  have:=ih fun x hx=>h x (by simp[hx])
  simp only[List.cons_append,splitL,hc,if_false,this]
theorem Zll (a:List UInt8) (h:∀ c∈a,c≠10) (h0:a≠[]):splitL a=[a]:=by
 induction a with
 | nil=>exact absurd rfl h0
 | cons c a ih =>
  have hc:c≠10:=h c (by simp)
  cases a with
  | nil=>simp[splitL,hc]
  | cons d a =>
   have:=ih (fun x hx=>h x (by simp[hx])) (by simp)
   simp only[splitL,hc,if_false] at this ⊢
   rw[this]
theorem split_join (l:List UInt8):(splitL l).flatten=l:=by
 induction l with
 | nil=>rfl
 | cons c t ih =>
  unfold splitL
  by_cases hc:c=10
  ·simp[hc,ih]
  ·simp only[hc,if_false]
   cases hs:splitL t with
   | nil=>rw[hs] at ih;simp at ih;simp[← ih]
   | cons x r=>rw[hs] at ih;simp at ih;simp[ih]
theorem split_len (l:List UInt8):(splitL l).length≤l.length:=by
 induction l with
 | nil=>simp[splitL]
 | cons c t ih =>
  unfold splitL
  by_cases hc:c=10
  ·simp[hc];omega
  ·simp only[hc,if_false]
   cases hs:splitL t with
   | nil=>simp
   | cons x r=>rw[hs] at ih;simp at ih ⊢;omega
def lineB:List UInt8→Bool→Bool
 | [],_=>false
 | [c],last=>last || c == 10
 | c::d::t,last=>c != 10 && lineB (d::t) last
def checkB:List (List UInt8)→Bool
 | []=>true
 | s::t=>lineB s t.isEmpty && checkB t
theorem ZgB (c:UInt8) (x:List UInt8) (last:Bool) (hx:x≠[]):lineB (c::x) last=(c != 10 && lineB x last):=by
 cases x with
 | nil=>exact absurd rfl hx
 | cons d t=>rfl
theorem ZgF {x:List UInt8} {last:Bool} (h:lineB x last=true):x≠[]:=by rintro rfl;cases h
theorem ZgE {x:List UInt8} (h:lineB x false=true):∃ a,x=a++[10]∧∀ c∈a,c≠10:=by
 induction x with
 | nil=>cases h
 | cons c t ih =>
  cases t with
  | nil=>exact⟨[],by simpa [lineB] using h,by simp⟩
  | cons d t =>
   simp only[lineB,Bool.and_eq_true,bne_iff_ne] at h
   obtain⟨a,ha,hn⟩:=ih h.2
   refine⟨c::a,by rw[ha];rfl,?_⟩
   intro x hx
   simp only[List.mem_cons] at hx
   rcases hx with rfl | hx
   ·exact h.1
   ·exact hn x hx
theorem ZgG {x:List UInt8} (h:lineB x true=true):lineB x false=true∨∀ c∈x,c≠10:=by
 induction x with
 | nil=>cases h
 | cons c t ih =>
  cases t with
  | nil =>
   by_cases hc:c=10
   ·exact .inl (by simp[lineB,hc])
   ·exact .inr (by simpa using hc)
  | cons d t =>
   simp only[lineB,Bool.and_eq_true,bne_iff_ne] at h
   rcases ih h.2 with h2 | h2
   ·exact .inl (by simp only[lineB,Bool.and_eq_true,bne_iff_ne];exact⟨h.1,h2⟩)
   ·refine .inr ?_
    intro x hx
    simp only[List.mem_cons] at hx
    rcases hx with rfl | hx
    ·exact h.1
    ·exact h2 x (by simpa using hx)
theorem split_right (l:List UInt8):checkB (splitL l)=true:=by
 induction l with
 | nil=>rfl
 | cons c t ih =>
  unfold splitL
  by_cases hc:c=10
  ·simp[hc,checkB,lineB,ih]
  ·simp only[hc,if_false]
   cases hs:splitL t with
   | nil=>simp[checkB,lineB]
   | cons x r =>
    rw[hs] at ih
    simp only[checkB,Bool.and_eq_true] at ih ⊢
    rw[ZgB c x _ (ZgF ih.1)]
    simp[hc,ih.1,ih.2]
theorem Zjw (ws:List (List UInt8)) (h:checkB ws=true):splitL ws.flatten=ws:=by
 induction ws with
 | nil=>rfl
 | cons x r ih =>
  simp only[checkB,Bool.and_eq_true] at h
  have hr:=ih h.2
  cases r with
  | nil =>
   simp only[List.flatten_cons,List.flatten_nil,List.append_nil]
   rcases ZgG (by simpa using h.1) with h1 | h1
   ·obtain⟨a,rfl,hn⟩:=ZgE h1
    rw[Zlk a [] hn];rfl
   ·exact Zll x h1 (ZgF h.1)
  | cons y r =>
   obtain⟨a,rfl,hn⟩:=ZgE (by simpa using h.1)
   rw[List.flatten_cons,List.append_assoc]
   rw[show a++([10]++(y::r).flatten)=a++10::(y::r).flatten from rfl,Zlk a _ hn,hr]
theorem ZfF {l:List UInt8} {c:UInt8} (h:Lib.indexByte l c<0):Lib.indexByte l c=-1∧∀ x∈l,x≠c:=by
 induction l with
 | nil=>exact⟨rfl,by simp⟩
 | cons b l ih =>
  unfold Lib.indexByte at h ⊢
  by_cases hb:(b == c)=true
  ·rw[if_pos hb] at h;simp at h
  ·rw[if_neg hb] at h ⊢
   by_cases h1:(Lib.indexByte l c == -1)=true
   ·rw[if_pos h1]
    have h2:=ih (by simp at h1;omega)
    refine⟨rfl,?_⟩
    intro x hx
    simp only[List.mem_cons] at hx
    rcases hx with rfl | hx
    ·simpa using hb
    ·exact h2.2 x hx
   ·rw[if_neg h1] at h
    have:=Lib.indexByte_ge l c
    simp at h1
    omega
theorem ZfG {l:List UInt8} {c:UInt8} (h:0≤Lib.indexByte l c):∃ a b,l=a++c::b∧(∀ x∈a,x≠c)∧Lib.indexByte l c=a.length:=by
 induction l with
 | nil=>simp[Lib.indexByte] at h
 | cons d l ih =>
  unfold Lib.indexByte at h ⊢
  by_cases hb:(d == c)=true
  ·have:d=c:=by simpa using hb
   subst this
   rw[if_pos hb]
   exact⟨[],l,rfl,by simp,rfl⟩
  ·rw[if_neg hb] at h ⊢
   by_cases h1:(Lib.indexByte l c == -1)=true
   ·rw[if_pos h1] at h;simp at h
   ·rw[if_neg h1] at h ⊢
    have:=Lib.indexByte_ge l c
    obtain⟨a,b,e1,e2,e3⟩:=ih (by simp at h1;omega)
    refine⟨d::a,b,by rw[e1];rfl,?_,by rw[e3];simp⟩
    intro x hx
    simp only[List.mem_cons] at hx
    rcases hx with rfl | hx
    ·simpa using hb
    ·exact e2 x hx
theorem ZgC {a b:List UInt8} (h:∀ c∈a,c≠10) (last:Bool):lineB (a++10::b) last=b.isEmpty:=by
 induction a with
 | nil =>
  cases b with
  | nil=>simp[lineB]
  | cons d b=>simp[lineB]
 | cons c a ih =>
  have hc:c≠10:=h c (by simp)
  rw[List.cons_append,ZgB _ _ _ (by simp),ih fun x hx=>h x (by simp[hx])]
  simp[hc]
def feedB (s:List UInt8):Bool:=s.getLast? == some 10
def bareL (s:List UInt8):List UInt8:=if feedB s then s.dropLast else s
end

end Go.Proofs.YtcnjephlmcnodaaGreatDoor.Ln

namespace Go.Proofs.YtcnjephlmcnodaaGreatDoor

section
open Ln
theorem ZgD (s:List UInt8) (last:Bool):lineB s last=(linB s && (last || fdB s)):=by
 induction s with
 | nil=>rfl
 | cons c t ih =>
  cases t with
  | nil =>
   simp[lineB,linB,fdB]
  | cons d t =>
   have e1:linB (c::d::t)=(c != 10 && linB (d::t)):=by
    simp[linB,List.dropLast]
   have e2:fdB (c::d::t)=fdB (d::t):=by simp[fdB]
   rw[e1,e2,Bool.and_assoc,← ih]
   rfl
end

end Go.Proofs.YtcnjephlmcnodaaGreatDoor

namespace Go.Proofs.YtcnjephlmcnodaaGreatDoor.Q

section
def plainI (n:Int):Bool:=decide (32≤n∧n≤126∧n≠34∧n≠92)
def hexl:List UInt8:=[48,49,50,51,52,53,54,55,56,57,97,98,99,100,101,102]
def hexc (n:Nat):UInt8:=hexl.getD n 0
def q1 (c:UInt8):List UInt8:=if plainI c.toNat then [c] else [92,hexc (c.toNat / 16),hexc (c.toNat % 16)]
def digitI (n:Int):Int:=if 48≤n∧n≤57 then n-48 else if 97≤n∧n≤102 then n-87 else -1
def pairI (a b:UInt8):Int:=16 * digitI a.toNat+digitI b.toNat
def pairOk (a b:UInt8):Bool:=decide (0≤digitI a.toNat) && decide (0≤digitI b.toNat) && !(plainI (pairI a b))
def pv (a b:UInt8):Int:=if pairOk a b then pairI a b else 0
def body:List UInt8→Option (List UInt8 × List UInt8)
 | []=>none
 | c::t =>
  if c.toNat=34 then some ([],t)
  else if plainI c.toNat then (body t).map fun p=>(c::p.1,p.2)
  else if c.toNat=92 then
   match t with
   | a::b::t'=>if pairOk a b then (body t').map fun p=>(UInt8.ofNat (pairI a b).toNat::p.1,p.2) else none
   | _=>none
  else none
end

end Go.Proofs.YtcnjephlmcnodaaGreatDoor.Q

/- Plain facts on the texts of numbers: nothing of a program. -/
namespace Go.Proofs.YtcnjephlmcnodaaGreatDoor.Pn
end Go.Proofs.YtcnjephlmcnodaaGreatDoor.Pn

namespace Go.Proofs.YtcnjephlmcnodaaGreatDoor

section
open Q Pn
end

section
open Ln
theorem ZdI (s:List UInt8):fdB (s++[10])=true:=by simp[fdB]
end

section
open Go.RowKit
attribute [local go_sem] ByteArray.extract_mk
theorem ZhN (l:List UInt8) (k:Nat) (h:k<(⟨l.toArray⟩:ByteArray).size):(⟨l.toArray⟩:ByteArray)[k]'h=l[k]'(h):=rfl
attribute [local go_sem] ZhN
def bareT (s:List UInt8):List UInt8:=if fdB s=true then s.dropLast else s
theorem Zby {l:List UInt8} (h0:0<l.length) (h:l[l.length-1]=10):bareT l=l.take (l.length-1)∧fdB l=true:=by
 have hf:fdB l=true:=by unfold fdB;rw[List.getLast?_eq_getElem?,List.getElem?_eq_getElem (by omega),h];rfl
 exact⟨by rw[bareT,hf,List.dropLast_eq_take];rfl,hf⟩
theorem Zbx {l:List UInt8} (h0:0<l.length) (h:l[l.length-1]≠10):bareT l=l∧fdB l=false:=by
 have hf:fdB l=false:=by unfold fdB;rw[List.getLast?_eq_getElem?,List.getElem?_eq_getElem (by omega)];simpa using h
 exact⟨by rw[bareT,hf];rfl,hf⟩
end

section
open Ln
def shT (w:Nat) (s:List UInt8):List UInt8:=(Go.Proofs.YtcnjephlmcnodaaGreatDoor.Tx.Cn.expL 0 (bareT s)).take w
def trB (l:List UInt8):List UInt8:=(l.reverse.dropWhile (· == 32)).reverse
def padT (w:Nat) (l:List UInt8):List UInt8:=l++List.replicate (w-l.length) 32
def rowT (w:Nat) (x:List UInt8) (g:UInt8) (y:List UInt8):List UInt8:=trB (padT w (shT w x)++([32,g,32]++shT w y))++[10]
def krT (w:Nat) (x y:List (List UInt8)):List (List UInt8):=List.zipWith (fun s t=>rowT w s 32 t) x y
def crT (w:Nat):List (List UInt8)→List (List UInt8)→List (List UInt8)
 | [],ys=>ys.map fun y=>rowT w [] 62 y
 | x::xs,[]=>rowT w x 60 []::crT w xs []
 | x::xs,y::ys=>rowT w x 124 y::crT w xs ys
def vsP (w:Nat) (A B:List (List UInt8)) (x:Rn × Ch):List (List UInt8):=krT w (cut A x.1.a x.1.n) (cut B x.1.b x.1.n)++crT w (cut A x.2.A x.2.AN) (cut B x.2.B x.2.BN)
def vsL (w:Nat) (l:List Ch) (A B:List (List UInt8)):List (List UInt8):=(piecesL 0 0 A.length B.length l).flatMap (vsP w A B)
def wlL (l:List (List UInt8)):List (List UInt8):=l.map fun s=>bareT s++[10]
def cmT (nm:List UInt8):Nat→List UInt8
 | 1=>[35,105,102,100,101,102,32]++(nm++[10])
 | 2=>[35,105,102,110,100,101,102,32]++(nm++[10])
 | 3=>[35,101,108,115,101,32,47,42,32]++(nm++[32,42,47,10])
 | 4=>[35,101,110,100,105,102,32,47,42,32]++(nm++[32,42,47,10])
 | _=>[35,101,110,100,105,102,32,47,42,32,33,32]++(nm++[32,42,47,10])
def ifC (nm:List UInt8) (o w:List (List UInt8)):List (List UInt8) :=
 if o=[]∧w=[] then [] else if w=[] then cmT nm 2::(wlL o++[cmT nm 5]) else if o=[] then cmT nm 1::(wlL w++[cmT nm 4])
 else cmT nm 2::(wlL o++cmT nm 3::(wlL w++[cmT nm 4]))
def ifP (nm:List UInt8) (A B:List (List UInt8)) (x:Rn × Ch):List (List UInt8):=wlL (cut A x.1.a x.1.n)++ifC nm (cut A x.2.A x.2.AN) (cut B x.2.B x.2.BN)
def ifL (nm:List UInt8) (l:List Ch) (A B:List (List UInt8)):List (List UInt8):=(piecesL 0 0 A.length B.length l).flatMap (ifP nm A B)
def cmK (nm s:List UInt8):Nat:=if s=cmT nm 1 then 1 else if s=cmT nm 2 then 2 else if s=cmT nm 3 then 3 else if s=cmT nm 4 then 4 else if s=cmT nm 5 then 5 else 0
def selB (d:Bool) (o:Nat):Bool:=decide (o=0) || (decide (o=2) != d)
def thenT (t:List UInt8) (X:Except (Nat × Int) (List UInt8)):Except (Nat × Int) (List UInt8):=match X with
 | .error e=>.error e
 | .ok u=>.ok (t++u)
def rsE (nm:List UInt8) (d:Bool):Nat→Nat→List (List UInt8)→Except (Nat × Int) (List UInt8)
 | o,p,[]=>if o=0 then .ok [] else .error (p+1,1)
 | o,p,s::r=>if cmK nm s=0 then thenT (if selB d o=true then s else []) (rsE nm d o (p+1) r)
  else if (o=0∧cmK nm s≤2)∨(o=2∧cmK nm s=3) then rsE nm d (cmK nm s) (p+1) r
  else if (o=2∧cmK nm s=5)∨(o=1∧cmK nm s=4)∨(o=3∧cmK nm s=4) then rsE nm d 0 (p+1) r
  else .error (p+1,121)
def ltB (c:UInt8):Bool:=(decide (97≤c.toNat) && decide (c.toNat≤122)) || (decide (65≤c.toNat) && decide (c.toNat≤90)) || c == 95
def dgB (c:UInt8):Bool:=decide (48≤c.toNat) && decide (c.toNat≤57)
def cnB (s:List UInt8):Bool:=match s with
 | []=>false
 | c::t=>decide (s.length≤64) && ltB c && t.all fun x=>ltB x || dgB x
def rsT (t nm:List UInt8) (d:Bool):Except (Nat × Int) (List UInt8):=if cnB nm=true then rsE nm d 0 0 (splitL t) else .error (0,253)
/- the five commands are five -/
theorem ZcB (nm:List UInt8):cmT nm 2≠cmT nm 1∧cmT nm 3≠cmT nm 1∧cmT nm 3≠cmT nm 2∧cmT nm 4≠cmT nm 1∧cmT nm 4≠cmT nm 2∧cmT nm 4≠cmT nm 3∧cmT nm 5≠cmT nm 1∧cmT nm 5≠cmT nm 2∧cmT nm 5≠cmT nm 3∧cmT nm 5≠cmT nm 4:=by
 refine⟨?_,?_,?_,?_,?_,?_,?_,?_,?_,?_⟩
 ·simp[cmT]
 ·simp[cmT]
 ·simp[cmT]
 ·simp[cmT]
 ·simp[cmT]
 ·simp[cmT]
 ·simp[cmT]
 ·simp[cmT]
 ·simp[cmT]
 ·intro h
  have:=congrArg List.length h
  simp[cmT] at this
theorem ZcC (nm:List UInt8):cmK nm (cmT nm 1)=1:=by simp[cmK]
theorem ZcD (nm:List UInt8):cmK nm (cmT nm 2)=2:=by
 obtain⟨h1,_⟩:=ZcB nm
 simp[cmK,h1]
theorem ZcE (nm:List UInt8):cmK nm (cmT nm 3)=3:=by
 obtain⟨_,h2,h3,_⟩:=ZcB nm
 simp[cmK,h2,h3]
theorem ZcF (nm:List UInt8):cmK nm (cmT nm 4)=4:=by
 obtain⟨_,_,_,h4,h5,h6,_⟩:=ZcB nm
 simp[cmK,h4,h5,h6]
theorem ZcG (nm:List UInt8):cmK nm (cmT nm 5)=5:=by
 obtain⟨_,_,_,_,_,_,h7,h8,h9,h10⟩:=ZcB nm
 simp[cmK,h7,h8,h9,h10]
theorem ZlN (a b:List UInt8) (X:Except (Nat × Int) (List UInt8)):thenT a (thenT b X)=thenT (a++b) X:=by
 cases X with
 | error e=>rfl
 | ok u=>simp[thenT]
theorem ZlM (X:Except (Nat × Int) (List UInt8)):thenT [] X=X:=by
 cases X with
 | error e=>rfl
 | ok u=>rfl
theorem ZjY {nm:List UInt8} {d:Bool} {o:Nat} (x:List (List UInt8)):∀ (p:Nat) (r:List (List UInt8)),(∀ s∈x,cmK nm s=0)→rsE nm d o p (x++r)=thenT (if selB d o=true then x.flatten else []) (rsE nm d o (p+x.length) r):=by
 induction x with
 | nil =>
  intro p r _
  have:(if selB d o=true then ([]:List (List UInt8)).flatten else [])=[]:=by split<;>rfl
  rw[this,ZlM]
  rfl
 | cons s x ih =>
  intro p r h
  rw[List.cons_append,rsE,if_pos (h s (by simp)),ih (p+1) r (fun t ht=>h t (by simp[ht])),ZlN,List.length_cons,show p+1+x.length=p+(x.length+1) by omega]
  congr 1
  split<;>simp
theorem ZjZ {nm s:List UInt8} {d:Bool} {o:Nat} {c:Nat} (hc:cmK nm s=c) (h0:c≠0) (h:(o=0∧c≤2)∨(o=2∧c=3)) (p:Nat) (r:List (List UInt8)):rsE nm d o p (s::r)=rsE nm d c (p+1) r:=by
 rw[rsE,hc,if_neg h0,if_pos h]
theorem ZjV {nm s:List UInt8} {d:Bool} {o:Nat} {c:Nat} (hc:cmK nm s=c) (h0:c≠0) (h1:¬ ((o=0∧c≤2)∨(o=2∧c=3))) (h:(o=2∧c=5)∨(o=1∧c=4)∨(o=3∧c=4)) (p:Nat) (r:List (List UInt8)):rsE nm d o p (s::r)=rsE nm d 0 (p+1) r:=by
 rw[rsE,hc,if_neg h0,if_neg h1,if_pos h]
theorem ZjW {nm:List UInt8} {d:Bool} {o w:List (List UInt8)} (ho:∀ s∈wlL o,cmK nm s=0) (hw:∀ s∈wlL w,cmK nm s=0) (p:Nat) (r:List (List UInt8)) :
  rsE nm d 0 p (ifC nm o w++r)=thenT (wlL (if d=true then w else o)).flatten (rsE nm d 0 (p+(ifC nm o w).length) r):=by
 unfold ifC
 by_cases h1:o=[]∧w=[]
 ·obtain⟨rfl,rfl⟩:=h1
  rw[if_pos ⟨rfl,rfl⟩]
  have:(wlL (if d=true then ([]:List (List UInt8)) else [])).flatten=[]:=by split<;>rfl
  rw[this,ZlM]
  rfl
 ·rw[if_neg h1]
  by_cases h2:w=[]
  ·subst h2
   rw[if_pos rfl,List.cons_append,ZjZ (ZcD nm) (by decide) (.inl ⟨rfl,by decide⟩),List.append_assoc,ZjY _ _ _ ho,List.singleton_append,ZjV (ZcG nm) (by decide) (by omega) (.inl ⟨rfl,rfl⟩)]
   have e:(p+1+(wlL o).length+1)=p+(cmT nm 2::(wlL o++[cmT nm 5])).length:=by simp;omega
   rw[e]
   congr 1
   cases d<;>simp[selB,wlL]
  ·rw[if_neg h2]
   by_cases h3:o=[]
   ·subst h3
    rw[if_pos rfl,List.cons_append,ZjZ (ZcC nm) (by decide) (.inl ⟨rfl,by decide⟩),List.append_assoc,ZjY _ _ _ hw,List.singleton_append,ZjV (ZcF nm) (by decide) (by omega) (.inr (.inl ⟨rfl,rfl⟩))]
    have e:(p+1+(wlL w).length+1)=p+(cmT nm 1::(wlL w++[cmT nm 4])).length:=by simp;omega
    rw[e]
    congr 1
    cases d<;>simp[selB,wlL]
   ·rw[if_neg h3,List.cons_append,ZjZ (ZcD nm) (by decide) (.inl ⟨rfl,by decide⟩),List.append_assoc,ZjY _ _ _ ho,List.cons_append,ZjZ (ZcE nm) (by decide) (.inr ⟨rfl,rfl⟩),List.append_assoc,ZjY _ _ _ hw,List.singleton_append,ZjV (ZcF nm) (by decide) (by omega) (.inr (.inr ⟨rfl,rfl⟩)),ZlN]
    have e:(p+1+(wlL o).length+1+(wlL w).length+1)=p+(cmT nm 2::(wlL o++cmT nm 3::(wlL w++[cmT nm 4]))).length:=by simp;omega
    rw[e]
    congr 1
    cases d<;>simp[selB]
def rsP (d:Bool) (A B:List (List UInt8)) (x:Rn × Ch):List (List UInt8):=cut A x.1.a x.1.n++(if d=true then cut B x.2.B x.2.BN else cut A x.2.A x.2.AN)
theorem Zdk {A:List (List UInt8)} {i n:Int} {s:List UInt8} (h:s∈cut A i n):s∈A:=List.mem_of_mem_drop (List.mem_of_mem_take h)
theorem ZnS {P:List UInt8→Prop} {A:List (List UInt8)} {i n:Int} (h:∀ s∈wlL A,P s):∀ s∈wlL (cut A i n),P s:=by
 intro s hs
 obtain⟨t,ht,rfl⟩:=List.mem_map.1 hs
 exact h _ (List.mem_map.2 ⟨t,Zdk ht,rfl⟩)
theorem Zka {nm:List UInt8} {d:Bool} {A B:List (List UInt8)} (hA:∀ s∈wlL A,cmK nm s=0) (hB:∀ s∈wlL B,cmK nm s=0) (l:List (Rn × Ch)):∀ p:Nat,rsE nm d 0 p (l.flatMap (ifP nm A B))=.ok (wlL (l.flatMap (rsP d A B))).flatten:=by
 induction l with
 | nil=>intro p;rfl
 | cons x l ih =>
  intro p
  rw[List.flatMap_cons,ifP,List.append_assoc,ZjY _ _ _ (ZnS hA),ZjW (ZnS hA) (ZnS hB),ih,List.flatMap_cons]
  simp only[thenT,rsP,wlL,List.map_append,List.flatten_append]
  congr 1
  have:selB d 0=true:=by simp[selB]
  rw[if_pos this]
  cases d<;>simp
theorem ZaX {A B:List (List UInt8)} {f:Bool} {a b:Int} {l:List Ch} (h:Right f a b A.length B.length l) (ha:0≤a) (hb:0≤b):(piecesL a b A.length B.length l).flatMap (rsP false A B)=A.drop a.toNat:=by
 induction l generalizing f a b with
 | nil =>
  simp only[piecesL,List.flatMap_cons,List.flatMap_nil,List.append_nil,rsP]
  have e:cut A (A.length:Int) 0=[]:=by simp[cut]
  simp only[Bool.false_eq_true,if_false]
  rw[e,List.append_nil]
  unfold cut
  rw[List.take_of_length_le]
  rw[List.length_drop]
  omega
 | cons c l ih =>
  obtain⟨⟨h1,h2,h3,h4⟩,h5⟩:=h
  rw[ZhO] at h1
  simp only[piecesL,List.flatMap_cons]
  rw[ih h5 (by omega) (by omega)]
  simp only[rsP,Bool.false_eq_true,if_false]
  rw[List.append_assoc]
  have e1:(c.A+c.AN)=(c.A+((c.AN.toNat:Nat):Int)):=by omega
  have e2:cut A c.A c.AN++A.drop (c.A+c.AN).toNat=A.drop c.A.toNat:=by
   have:=Zdq (B:=A) (b:=c.A) (k:=c.AN.toNat) (by omega)
   rw[← e1,show ((c.AN.toNat:Nat):Int)=c.AN by omega] at this
   exact this
  rw[e2]
  have e3:=Zdq (B:=A) (b:=a) (k:=(c.A-a).toNat) ha
  rw[show (((c.A-a).toNat:Nat):Int)=c.A-a by omega,show a+(c.A-a)=c.A by omega] at e3
  exact e3
theorem ZjU {nm:List UInt8} {A B:List (List UInt8)} {l:List Ch} (h:Script l A.length B.length) (hs:∀ r∈U 0 0 A.length B.length l,A[r.a.toNat]?=B[r.b.toNat]?) (hA:∀ s∈wlL A,cmK nm s=0) (hB:∀ s∈wlL B,cmK nm s=0) (p:Nat) :
  rsE nm true 0 p (ifL nm l A B)=.ok (wlL B).flatten∧rsE nm false 0 p (ifL nm l A B)=.ok (wlL A).flatten:=by
 refine⟨?_,?_⟩
 ·unfold ifL
  rw[Zka hA hB]
  have e:(piecesL 0 0 A.length B.length l).flatMap (rsP true A B)=applyL l A B:=by
   unfold applyL
   congr 1
  rw[e,Zbr h hs]
 ·unfold ifL
  rw[Zka hA hB,ZaX h.2.2 (by decide) (by decide)]
  rfl
end

section
open Ln
def Rows:List (List UInt8)→Prop
 | []=>True
 | x::r=>linB x=true∧(r≠[]→fdB x=true)∧Rows r
theorem ZgA {x:List UInt8} (h:linB x=true):x≠[]∧∀ c∈x.dropLast,c≠10:=by
 unfold linB at h
 simp only[Bool.and_eq_true] at h
 refine⟨?_,fun c hc=>?_⟩
 ·rintro rfl
  simp at h
 ·have:=(List.all_eq_true.1 h.2) c hc
  simpa using this
end

section
open Ln
theorem ZjS {a:List (List UInt8)} (h:checkB a=true):Rows a:=by
 induction a with
 | nil=>trivial
 | cons s t ih =>
  simp only[checkB,Bool.and_eq_true] at h
  have h1:=h.1
  rw[ZgD] at h1
  simp only[Bool.and_eq_true,Bool.or_eq_true] at h1
  refine⟨h1.1,fun hne=>?_,ih h.2⟩
  rcases h1.2 with h2 | h2
  ·cases t with
   | nil=>exact absurd rfl hne
   | cons=>cases h2
  ·exact h2
theorem ZjR {a:List (List UInt8)} (h:Rows a):∀ x∈a,linB x=true:=by
 induction a with
 | nil=>intro x hx;cases hx
 | cons s t ih =>
  intro x hx
  rcases List.mem_cons.1 hx with rfl | hx
  ·exact h.1
  ·exact ih h.2.2 x hx
theorem Zjv {fl:Bool} {p q n m:Int} {l:List Ch} (h:Right fl p q n m l):∀ c∈l,numB c=true∧c.A+c.AN≤n∧c.B+c.BN≤m:=by
 induction l generalizing fl p q with
 | nil=>intro c hc;cases hc
 | cons x l ih =>
  intro c hc
  rcases List.mem_cons.1 hc with rfl | hc
  ·exact⟨h.1.1,h.2.le.1,h.2.le.2.1⟩
  ·exact ih h.2 c hc
theorem mk_zero {l:List Ch} {a b:List (List UInt8)} (hs:Script l a.length b.length):mkR l a b 0=l.map fun c=>oneH a b 0 [c]:=by
 rw[(Zhz hs (by omega)).1,ZeK l _ _ _ _ _ hs.2.2]
 simp
def Fed (ls:List (List UInt8)):Prop:=∀ s∈ls,∃ t,s=t++[10]∧∀ c∈t,c≠10
theorem ZdK {ls:List (List UInt8)} (h:Fed ls):checkB ls=true:=by
 induction ls with
 | nil=>rfl
 | cons s r ih =>
  obtain⟨t,e,ht⟩:=h s (by simp)
  simp only[checkB,Bool.and_eq_true]
  refine⟨?_,ih fun x hx=>h x (by simp[hx])⟩
  rw[e]
  exact ZgC ht _
end

section
open Ln
end

section
open Ln
structure Pth where
 old:List UInt8
 new:List UInt8
 hs:List Hk
/- names -/
/- ranges -/
end

section
open Ln
end

section
open Ln
end

section
open Ln
structure Gh (h:Hk):Prop where
 chk:chkH h=0
 nf:Nf false h.ls
 ea:2≤h.AN→h.A+h.AN-1≤2147483647
 eb:2≤h.BN→h.B+h.BN-1≤2147483647
end

section
open Ln
structure Gp (p:Pth):Prop where
 ne:p.hs≠[]
 old:p.old.length≤64
 new:p.new.length≤64
 few:p.hs.length≤4096
 gd:∀ h∈p.hs,Gh h
theorem ZdJ {x y:List (List UInt8)} (hx:Fed x) (hy:Fed y):Fed (x++y):=fun s hs=>(List.mem_append.1 hs).elim (hx s) (hy s)
theorem ZdM {t:List UInt8} {y:List (List UInt8)} (ht:∀ c∈t,c≠10) (hy:Fed y):Fed ((t++[10])::y):=by
 intro s hs
 rcases List.mem_cons.1 hs with rfl | hs
 ·exact⟨t,rfl,ht⟩
 ·exact hy s hs
theorem ZdO:Fed []:=fun s hs=>by cases hs
end

section
open Ln
theorem ZgI {ls:List (List UInt8)} (h:checkB ls=true):∀ s∈ls,linB s=true:=ZjR (ZjS h)
theorem ZmX {s:List UInt8} (h:linB s=true):∀ c∈bareT s,c≠10:=by
 obtain⟨h0,h1⟩:=ZgA h
 unfold bareT
 split
 ·exact h1
 ·rename_i hf
  intro c hc
  rw[← List.dropLast_concat_getLast h0] at hc
  rcases List.mem_append.1 hc with hc | hc
  ·exact h1 c hc
  ·rw[List.mem_singleton.1 hc]
   intro q
   refine hf ?_
   unfold fdB
   rw[List.getLast?_eq_some_getLast h0,q]
   rfl
theorem ZnR {l:List (List UInt8)} (h:∀ s∈l,linB s=true):Fed (wlL l):=by
 intro s hs
 obtain⟨t,ht,rfl⟩:=List.mem_map.1 hs
 exact⟨_,rfl,ZmX (h t ht)⟩
theorem ZcO {nm:List UInt8} (h:cnB nm=true):∀ c∈nm,c≠10:=by
 cases nm with
 | nil=>cases h
 | cons c t =>
  simp only[cnB,Bool.and_eq_true,List.all_eq_true] at h
  intro x hx e
  subst e
  rcases List.mem_cons.1 hx with hx | hx
  ·rw[← hx] at h
   exact absurd h.1.2 (by decide)
  ·exact absurd (h.2 _ hx) (by decide)
theorem ZcA {nm:List UInt8} (h:∀ c∈nm,c≠10) (k:Nat):∃ t,cmT nm k=t++[10]∧∀ c∈t,c≠10:=by
 have key:∀ (a b:List UInt8),(a.all fun c=>c != 10)=true→(b.all fun c=>c != 10)=true→∃ t,a++(nm++(b++[10]))=t++[10]∧∀ c∈t,c≠10:=by
  intro a b ha hb
  refine⟨a++(nm++b),by simp,?_⟩
  rw[List.all_eq_true] at ha hb
  intro c hc
  rcases List.mem_append.1 hc with hc | hc
  ·simpa using ha c hc
  ·rcases List.mem_append.1 hc with hc | hc
   ·exact h c hc
   ·simpa using hb c hc
 match k with
 | 0=>exact key _ [32,42,47] rfl rfl
 | 1=>exact key _ [] rfl rfl
 | 2=>exact key _ [] rfl rfl
 | 3=>exact key _ [32,42,47] rfl rfl
 | 4=>exact key _ [32,42,47] rfl rfl
 | n+5=>exact key _ [32,42,47] rfl rfl
theorem ZdL {nm:List UInt8} (h:∀ c∈nm,c≠10) (k:Nat) {y:List (List UInt8)} (hy:Fed y):Fed (cmT nm k::y):=by
 obtain⟨t,e,ht⟩:=ZcA h k
 rw[e]
 exact ZdM ht hy
theorem ZfD {nm:List UInt8} (h:∀ c∈nm,c≠10) {o w:List (List UInt8)} (ho:∀ s∈o,linB s=true) (hw:∀ s∈w,linB s=true):Fed (ifC nm o w):=by
 unfold ifC
 split
 ·exact ZdO
 ·split
  ·exact ZdL h _ (ZdJ (ZnR ho) (ZdL h _ ZdO))
  ·split
   ·exact ZdL h _ (ZdJ (ZnR hw) (ZdL h _ ZdO))
   ·exact ZdL h _ (ZdJ (ZnR ho) (ZdL h _ (ZdJ (ZnR hw) (ZdL h _ ZdO))))
theorem ZfC {nm:List UInt8} (h:∀ c∈nm,c≠10) {l:List Ch} {A B:List (List UInt8)} (hA:∀ s∈A,linB s=true) (hB:∀ s∈B,linB s=true):Fed (ifL nm l A B):=by
 intro s hs
 obtain⟨x,_,hx⟩:=List.mem_flatMap.1 hs
 exact ZdJ (ZnR fun t ht=>hA t (Zdk ht)) (ZfD h (fun t ht=>hA t (Zdk ht)) (fun t ht=>hB t (Zdk ht))) s hx
theorem ZdP {ls:List (List UInt8)} (h:Fed ls):splitL ls.flatten=ls:=Zjw _ (ZdK h)
def whT (t:List UInt8):List UInt8:=if t=[]∨fdB t=true then t else t++[10]
theorem ZmV {s:List UInt8} (h:fdB s=true):bareT s++[10]=s:=by
 unfold bareT
 rw[if_pos h]
 unfold fdB at h
 cases s with
 | nil=>cases h
 | cons c t =>
  have h0:(c::t)≠[]:=by simp
  rw[List.getLast?_eq_some_getLast h0] at h
  have h1:(c::t).getLast h0=10:=by simpa using h
  conv=>rhs;rw[← List.dropLast_concat_getLast h0,h1]
theorem ZnW (ls : List (List UInt8)) (h : checkB ls = true) : (wlL ls).flatten = whT ls.flatten := by
  induction ls with
  | nil => rfl
  | cons s r ih =>
    simp only [checkB, Bool.and_eq_true] at h
    have h0 := ZgF h.1
    have ih2 := ih h.2
    simp only [wlL, List.map_cons, List.flatten_cons] at ih2 ⊢
    rw [ih2]
    cases r with
    | nil =>
      simp only [List.flatten_nil, List.append_nil]
      have e : whT [] = [] := rfl
      rw [e, List.append_nil]
      unfold whT
      by_cases hf : fdB s = true
      · rw [ZmV hf, if_pos (.inr hf)]
      · rw [if_neg (by rintro (q | q) <;> contradiction)]
        unfold bareT
        rw [if_neg hf]
    | cons s2 r =>
      obtain ⟨a, rfl, _⟩ := ZgE (by simpa using h.1)
      have hf : fdB (a ++ [10]) = true := ZdI a
      rw [ZmV hf]
      have h2 : s2 ≠ [] := by
        have := h.2
        simp only [checkB, Bool.and_eq_true] at this
        exact ZgF this.1
      have hne : (s2 :: r).flatten ≠ [] := by simp [h2]
      have hfd : fdB (a ++ [10] ++ (s2 :: r).flatten) = fdB (s2 :: r).flatten := by
        unfold fdB
        rw [List.getLast?_append, List.getLast?_eq_some_getLast hne, Option.some_or]
      unfold whT
      by_cases q : fdB (s2 :: r).flatten = true
      · rw [if_pos (.inr q), if_pos (.inr (by rw [hfd]; exact q))]
      · rw [if_neg (by rintro (z | z) <;> contradiction), if_neg (by rw [hfd]; rintro (z | z); · simp at z
                                                                     · contradiction)]
        simp
theorem ZnV (t:List UInt8):(wlL (splitL t)).flatten=whT t:=by rw[ZnW _ (split_right t),split_join]
theorem Zkg {nm s t:List UInt8} (hn:cnB nm=true) {l:List Ch} (h:Script l (splitL s).length (splitL t).length) (hs:∀ r∈U 0 0 (splitL s).length (splitL t).length l,(splitL s)[r.a.toNat]?=(splitL t)[r.b.toNat]?) (hA:∀ x∈wlL (splitL s),cmK nm x=0) (hB:∀ x∈wlL (splitL t),cmK nm x=0) :
  rsT (ifL nm l (splitL s) (splitL t)).flatten nm true=.ok (whT t)∧rsT (ifL nm l (splitL s) (splitL t)).flatten nm false=.ok (whT s):=by
 unfold rsT
 rw[if_pos hn,if_pos hn,ZdP (ZfC (ZcO hn) (ZgI (split_right s)) (ZgI (split_right t)))]
 obtain⟨h1,h2⟩:=ZjU (nm:=nm) h hs hA hB 0
 rw[h1,h2,ZnV,ZnV]
 exact⟨rfl,rfl⟩
/- rows -/
theorem ZnB (l:List UInt8):∀ c∈trB l,c∈l:=by
 intro c hc
 unfold trB at hc
 rw[List.mem_reverse] at hc
 have:=(List.dropWhile_sublist (fun c:UInt8=>c == 32)).subset hc
 simpa using this
theorem ZnA (l:List UInt8):(trB l).length≤l.length:=by
 unfold trB
 rw[List.length_reverse]
 have:=(List.dropWhile_sublist (fun c:UInt8=>c == 32) (l:=l.reverse)).length_le
 simpa using this
theorem Znz (l:List UInt8) (c:UInt8) (h:(trB l).getLast?=some c):c≠32:=by
 unfold trB at h
 rw[List.getLast?_reverse] at h
 have h2:=List.head?_dropWhile_not (fun c:UInt8=>c == 32) l.reverse
 rw[h] at h2
 simpa using h2
theorem ZkT (w:Nat) (s:List UInt8):(shT w s).length≤w:=by
 unfold shT
 rw[List.length_take]
 omega
theorem Ziu {w:Nat} {l:List UInt8} (h:l.length≤w):(padT w l).length=w:=by
 unfold padT
 rw[List.length_append,List.length_replicate]
 omega
theorem Zno (w:Nat) (x:List UInt8) (g:UInt8) (y:List UInt8):(rowT w x g y).length≤2 * w+4:=by
 unfold rowT
 have h1:=ZnA (padT w (shT w x)++([32,g,32]++shT w y))
 have h2:=Ziu (ZkT w x)
 have h3:=ZkT w y
 simp only[List.length_append,List.length_cons,List.length_nil] at h1 ⊢
 omega
theorem ZdF (l:List UInt8):∀ k,(∀ c∈l,c≠10)→∀ c∈Go.Proofs.YtcnjephlmcnodaaGreatDoor.Tx.Cn.expL k l,c≠10:=by
 induction l with
 | nil=>intro k _ c hc;cases hc
 | cons d l ih =>
  intro k h c hc
  simp only[Go.Proofs.YtcnjephlmcnodaaGreatDoor.Tx.Cn.expL] at hc
  split at hc
  ·rcases List.mem_append.1 hc with hc | hc
   ·rw[(List.mem_replicate.1 hc).2]
    decide
   ·exact ih _ (fun x hx=>h x (by simp[hx])) c hc
  ·rcases List.mem_cons.1 hc with rfl | hc
   ·exact h _ (by simp)
   ·exact ih _ (fun x hx=>h x (by simp[hx])) c hc
theorem ZkU {s:List UInt8} (w:Nat) (h:∀ c∈bareT s,c≠10):∀ c∈shT w s,c≠10:=fun c hc=>ZdF _ 0 h c (List.mem_of_mem_take hc)
theorem ZjO {w:Nat} {x y:List UInt8} {g:UInt8} (hx:∀ c∈bareT x,c≠10) (hy:∀ c∈bareT y,c≠10) (hg:g≠10):∃ t,rowT w x g y=t++[10]∧(∀ c∈t,c≠10)∧∀ c,t.getLast?=some c→c≠32:=by
 refine⟨_,rfl,?_,Znz _⟩
 intro c hc
 have h:=ZnB _ c hc
 rcases List.mem_append.1 h with h | h
 ·unfold padT at h
  rcases List.mem_append.1 h with h | h
  ·exact ZkU w hx c h
  ·rw[(List.mem_replicate.1 h).2]
   decide
 ·rcases List.mem_append.1 h with h | h
  ·simp only[List.mem_cons,List.not_mem_nil,or_false] at h
   rcases h with rfl | rfl | rfl
   ·decide
   ·exact hg
   ·decide
  ·exact ZkU w hy c h
theorem ZmW:∀ c∈bareT [],c≠10:=by
 intro c hc
 cases hc
def RowB (w:Nat) (s:List UInt8):Prop:=s.length≤2 * w+4∧∃ t,s=t++[10]∧(∀ c∈t,c≠10)∧∀ c,t.getLast?=some c→c≠32
theorem Zgr {w:Nat}:∀ {x y:List (List UInt8)},(∀ s∈x,linB s=true)→(∀ s∈y,linB s=true)→∀ s∈krT w x y,RowB w s
 | [],_,_,_,s,hs=>by cases hs
 | _::_,[],_,_,s,hs=>by cases hs
 | a::x,b::y,hx,hy,s,hs=>by
  have hs2:s∈rowT w a 32 b::krT w x y:=hs
  rcases List.mem_cons.1 hs2 with rfl | h
  ·exact⟨Zno _ _ _ _,ZjO (ZmX (hx a (by simp))) (ZmX (hy b (by simp))) (by decide)⟩
  ·exact Zgr (fun t ht=>hx t (by simp[ht])) (fun t ht=>hy t (by simp[ht])) s h
theorem Zdc {w:Nat}:∀ {x y:List (List UInt8)},(∀ s∈x,linB s=true)→(∀ s∈y,linB s=true)→∀ s∈crT w x y,RowB w s
 | [],y,_,hy,s,hs=>by
  have hs2:s∈y.map fun z=>rowT w [] 62 z:=hs
  obtain⟨z,hz,rfl⟩:=List.mem_map.1 hs2
  exact⟨Zno _ _ _ _,ZjO ZmW (ZmX (hy z hz)) (by decide)⟩
 | a::x,[],hx,hy,s,hs=>by
  have hs2:s∈rowT w a 60 []::crT w x []:=hs
  rcases List.mem_cons.1 hs2 with rfl | h
  ·exact⟨Zno _ _ _ _,ZjO (ZmX (hx a (by simp))) ZmW (by decide)⟩
  ·exact Zdc (fun t ht=>hx t (by simp[ht])) hy s h
 | a::x,b::y,hx,hy,s,hs=>by
  have hs2:s∈rowT w a 124 b::crT w x y:=hs
  rcases List.mem_cons.1 hs2 with rfl | h
  ·exact⟨Zno _ _ _ _,ZjO (ZmX (hx a (by simp))) (ZmX (hy b (by simp))) (by decide)⟩
  ·exact Zdc (fun t ht=>hx t (by simp[ht])) (fun t ht=>hy t (by simp[ht])) s h
theorem Znw {w:Nat} {l:List Ch} {A B:List (List UInt8)} (hA:∀ s∈A,linB s=true) (hB:∀ s∈B,linB s=true):∀ s∈vsL w l A B,RowB w s:=by
 intro s hs
 obtain⟨x,_,hx⟩:=List.mem_flatMap.1 hs
 rcases List.mem_append.1 hx with h | h
 ·exact Zgr (fun t ht=>hA t (Zdk ht)) (fun t ht=>hB t (Zdk ht)) s h
 ·exact Zdc (fun t ht=>hA t (Zdk ht)) (fun t ht=>hB t (Zdk ht)) s h
theorem Znu {w:Nat} {l:List Ch} {A B:List (List UInt8)} (hA:∀ s∈A,linB s=true) (hB:∀ s∈B,linB s=true):Fed (vsL w l A B):=by
 intro s hs
 obtain⟨_,t,e,h,_⟩:=Znw hA hB s hs
 exact⟨t,e,h⟩
theorem ZcX {w:Nat}:∀ x y:List (List UInt8),(crT w x y).length=max x.length y.length
 | [],y=>by simp[crT]
 | a::x,[]=>by
  have:=ZcX (w:=w) x []
  simp only[crT,List.length_cons,List.length_nil] at this ⊢
  omega
 | a::x,b::y=>by
  have:=ZcX (w:=w) x y
  simp only[crT,List.length_cons] at this ⊢
  omega
def vsN:List Ch→Int
 | []=>0
 | c::l=>max c.AN c.BN-c.AN+vsN l
theorem Znv {w:Nat} {A B:List (List UInt8)} {l:List Ch}:∀ {f:Bool} {a b:Int},Right f a b A.length B.length l→0≤a→0≤b→(((piecesL a b A.length B.length l).flatMap (vsP w A B)).length:Int)=A.length-a+vsN l:=by
 induction l with
 | nil =>
  intro f a b h ha hb
  obtain⟨h1,h2,h3⟩:=h
  have l1:((cut A a (A.length-a)).length:Int)=A.length-a:=ZeR ha (by omega) (by omega)
  have l2:((cut B b (A.length-a)).length:Int)=A.length-a:=ZeR hb (by omega) (by omega)
  have l3:(cut A (A.length:Int) 0)=[]:=by simp[cut]
  have l4:(cut B (B.length:Int) 0)=[]:=by simp[cut]
  simp only[piecesL,List.flatMap_cons,List.flatMap_nil,List.append_nil,vsP,krT,List.length_zipWith,l3,l4,crT,List.map_nil,vsN]
  omega
 | cons c l ih =>
  intro f a b h ha hb
  obtain⟨⟨h1,h2,h3,h4⟩,h5⟩:=h
  rw[ZhO] at h1
  have h6:=h5.le
  have i1:=ih h5 (by omega) (by omega)
  have l1:((cut A a (c.A-a)).length:Int)=c.A-a:=ZeR ha (by omega) (by omega)
  have l2:((cut B b (c.A-a)).length:Int)=c.A-a:=ZeR hb (by omega) (by omega)
  have l3:((cut A c.A c.AN).length:Int)=c.AN:=ZeR (by omega) (by omega) (by omega)
  have l4:((cut B c.B c.BN).length:Int)=c.BN:=ZeR (by omega) (by omega) (by omega)
  simp only[piecesL,List.flatMap_cons,vsP,krT,List.length_append,List.length_zipWith,ZcX,vsN]
  omega
theorem Znx {w:Nat} {s t:List UInt8} {l:List Ch} (h:Script l (splitL s).length (splitL t).length):splitL (vsL w l (splitL s) (splitL t)).flatten=vsL w l (splitL s) (splitL t)∧((vsL w l (splitL s) (splitL t)).length:Int)=(splitL s).length+vsN l∧∀ r∈vsL w l (splitL s) (splitL t),RowB w r:=by
 have hA:=ZgI (split_right s)
 have hB:=ZgI (split_right t)
 refine⟨ZdP (Znu hA hB),?_,Znw hA hB⟩
 have:=Znv (w:=w) h.2.2 (by decide) (by decide)
 unfold vsL
 omega
end

section
open Ln
theorem Zkf {nm:List UInt8} {d:Bool} (l:List (List UInt8)):∀ (o p:Nat) (u:List UInt8),rsE nm d o p l=.ok u→u.length≤l.flatten.length:=by
 induction l with
 | nil =>
  intro o p u h
  rw[rsE] at h
  split at h
  ·cases h
   simp
  ·cases h
 | cons s l ih =>
  intro o p u h
  rw[rsE] at h
  rw[List.flatten_cons,List.length_append]
  split at h
  ·cases h1:rsE nm d o (p+1) l with
   | error e=>rw[h1] at h;cases h
   | ok v =>
    have h2:=ih _ _ _ h1
    rw[h1] at h
    cases h
    rw[List.length_append]
    split
    ·omega
    ·rw[List.length_nil]
     omega
  ·split at h
   ·have:=ih _ _ _ h
    omega
   ·split at h
    ·have:=ih _ _ _ h
     omega
    ·cases h
end

section
theorem Zbu (a b:List UInt8):((⟨a.toArray⟩:ByteArray)++(⟨b.toArray⟩:ByteArray))=⟨(a++b).toArray⟩:=by
 apply ByteArray.ext
 simp
end

section
open Go.RowKit
end

section
open Go.RowKit
attribute [local go_sem] ByteArray.extract_mk ZhN
end

section
open Go.RowKit
def Fits (x y:List UInt8):Prop:=x.length+y.length≤4611686018427387904
theorem Zbg {x y:List UInt8} (h:Fits x y) (P:Program) (u:World):(Op.stringOp .add ⟨x.toArray⟩ ⟨y.toArray⟩).run P u=.ok (.string ⟨(x++y).toArray⟩) u:=by
 unfold Fits at h
 have e:¬ (((⟨x.toArray⟩:ByteArray).size+(⟨y.toArray⟩:ByteArray).size:Nat):Int) > IntKind.i64.max:=by
  have h1:(⟨x.toArray⟩:ByteArray).size=x.length:=rfl
  have h2:(⟨y.toArray⟩:ByteArray).size=y.length:=rfl
  have h3:IntKind.i64.max=9223372036854775807:=rfl
  rw[h1,h2,h3]
  omega
 unfold Op.stringOp
 dsimp only
 rw[if_neg e,Zbu]
 rfl
structure Cs (c:Ch) (b:Nat) (W w:World):Prop where
 c0:w.cell? ⟨b,0,none⟩=some (.int .i64 c.A)
 c1:w.cell? ⟨b,1,none⟩=some (.int .i64 c.AN)
 c2:w.cell? ⟨b,2,none⟩=some (.int .i64 c.B)
 c3:w.cell? ⟨b,3,none⟩=some (.int .i64 c.BN)
 lt:b<w.heap.size
 low:Below W.heap.size W w
theorem Cs.keep {c:Ch} {b:Nat} {W w w':World} (h:Cs c b W w) (hb:Below w.heap.size w w'):Cs c b W w':=by
 have hk:∀ o,w'.cell? ⟨b,o,none⟩=w.cell? ⟨b,o,none⟩:=fun o=>by
  unfold World.cell?
  dsimp only
  rw[hb.block b h.lt]
 exact⟨(hk 0).trans h.c0,(hk 1).trans h.c1,(hk 2).trans h.c2,(hk 3).trans h.c3,Nat.lt_of_lt_of_le h.lt hb.size,h.low.trans (hb.mono h.low.size)⟩
theorem Zde (c:Ch) (b:Nat) (W w:World):Cs c b W w.drew↔Cs c b W w:=⟨fun h=>⟨h.c0,h.c1,h.c2,h.c3,h.lt,(h.low.trans ⟨rfl,rfl,rfl,Nat.le_refl _,fun _ _=>rfl⟩:Below W.heap.size W w)⟩,fun h=>⟨h.c0,h.c1,h.c2,h.c3,h.lt,h.low.drew⟩⟩
attribute [local simp] Zde
theorem Cs.fresh (c:Ch) (w:World):Cs c w.heap.size w (w.alloc (.cells #[.int .i64 c.A,.int .i64 c.AN,.int .i64 c.B,.int .i64 c.BN] 43)):=by
 have h:=heap_alloc_new w (.cells #[.int .i64 c.A,.int .i64 c.AN,.int .i64 c.B,.int .i64 c.BN] 43)
 have hk:∀ o,(w.alloc (.cells #[.int .i64 c.A,.int .i64 c.AN,.int .i64 c.B,.int .i64 c.BN] 43)).cell? ⟨w.heap.size,o,none⟩=(#[Value.int .i64 c.A,.int .i64 c.AN,.int .i64 c.B,.int .i64 c.BN])[o]?:=fun o=>by
  unfold World.cell?
  dsimp only
  rw[h]
  rfl
 exact⟨hk 0,hk 1,hk 2,hk 3,by rw[World.alloc];simp,(Below.refl _ w).alloc (Nat.le_refl _) _⟩
end

section
open Go.RowKit Go.Proofs.YtcnjephlmcnodaaGreatDoor.Tx
attribute [local go_sem] ByteArray.extract_mk ZhN
end

section
open Go.RowKit Go.Proofs.YtcnjephlmcnodaaGreatDoor.Tx
attribute [local go_sem] ZhN
end

section
open Go.RowKit Go.Proofs.YtcnjephlmcnodaaGreatDoor.Tx Go.Lib
section
variable {P:Program} (w:World)
theorem Zkl (base:Nat) (t u ty e:TypeId) (i:TypeInfo) (ht:P.underlying t=some (.slice e)) (hu:P.underlying u=some .string) (hi:P.info? e=some i) (hz:i.zero=some (.int .u8 0))
  (hsize:i.size=1) (hby:i.bytes=1)
  (v:Value) (n:Nat) (xs:List Value) (hown:w.ownsRowF base e 1 v n xs) (s:ByteArray)
  (h63:n+s.size≤maxLen) (hbytes:n+s.size≤140737488355328) (hbase:base≤w.heap.size) :
  ∃ v' w',(Builtin.append_ #[t,u] ty #[v,.string s]).run P w=.ok v' w'∧w'.ownsRowF base e 1 v' (n+s.size) (xs++strCells s)∧w.grownBy w' v.ownBlock ∧
   (v'.ownBlock=v.ownBlock∨∃ g,v'.ownBlock=some g∧w.heap.size≤g):=by
 rcases hown.2 with ⟨rfl,rfl⟩ | ⟨g,cap,cur,fz,rfl,hbg,hg,hfz,hnc,hcm,hcs,htake⟩
 ·obtain⟨v',w',r1,r2,r3,r4⟩:=run_append_own_string (P:=P) w w.heap.size t u ty e i ht hu hi hz hsize hby (.slice none 0 0) 0 xs ⟨hown.1,.inl ⟨rfl,rfl⟩⟩ s h63 hbytes (Nat.le_refl _)
  have r5:=World.ownsRowF_of r2
  refine⟨v',w',r1,⟨r5.1,?_⟩,r3,?_⟩
  ·rcases r5.2 with h | ⟨g,cap,cur,fz,q1,q2,q3⟩
   ·exact .inl h
   ·exact .inr ⟨g,cap,cur,fz,q1,by omega,q3⟩
  ·rcases r5.2 with ⟨h,_⟩ | ⟨g,cap,cur,fz,q1,q2,q3⟩
   ·exact .inl (by rw[h])
   ·exact .inr ⟨g,by rw[q1];rfl,q2⟩
 ·have hsmall:n+s.size≤9223372036854775807:=by simp only[maxLen] at h63;omega
  have hxl:xs.length=n:=by simpa using hown.1
  have hlen:(xs++strCells s).length=(n+s.size) * 1:=by rw[List.length_append,hxl,strCells_length,Nat.mul_one]
  by_cases hroom:n+s.size≤cap
  ·have hcs':cur.size=cap:=by simpa using hcs
   have hr:=run_append_room_stringF (P:=P) w t u ty e i ht hu hi hsize g n cap cur fz hg (by simpa using hfz) s hroom (by omega)
   refine⟨_,_,hr,⟨hlen,.inr ⟨g,cap,_,fz,rfl,hbg,setRow_heap w g cur _ e _ hg,by omega,hroom,hcm,?_,?_⟩⟩,⟨rfl,rfl,rfl,by simp,fun k _ hk=>setRow_other w g k _ (fun e=>hk (by simp[Value.ownBlock,e]))⟩,.inl rfl⟩
   ·simp only[List.size_toArray,List.length_append,List.length_take,List.length_drop,Array.length_toList,strCells_length]
    omega
   ·have ht':cur.toList.take n=xs:=by simpa using htake
    rw[ht',← hlen]
    exact List.take_left
  ·have holds:∀ j u,xs[j]?=some u→w.cell? ((⟨g,0,none⟩:Addr).add j)=some u:=hown.cells (g:=g) rfl
   have hr:=run_append_grow_string (P:=P) w t u ty e i (.int .u8 0) ht hu hi hz ⟨g,0,none⟩ n cap xs (by rw[hsize];simpa using hxl) holds s (by omega) (by omega) (by rw[hby];exact growslice_fits (by omega) (by omega))
   have hge:=grownCap_ge w (n+s.size) cap e
   have hcm2:grownCap w (n+s.size) cap e≤maxLen:=grownCap_le_maxLen w (n+s.size) cap e h63
   refine⟨_,_,hr,⟨hlen,.inr ⟨w.heap.size,_,_,(0,0),rfl,hbase,_root_.Go.heap_alloc_new w.drew _,Nat.zero_le _,hge,hcm2,?_,?_⟩⟩,⟨rfl,rfl,rfl,by simp,fun k hk _=>Below.heap_alloc w.drew _ k hk⟩,.inr ⟨_,rfl,Nat.le_refl _⟩⟩
   ·have hz1:(Value.int IntKind.u8 0).cells.size=1:=rfl
    simp only[Array.size_append,List.size_toArray,size_zeroCells,hz1,hxl,strCells_length]
    omega
   ·simp only[Array.toList_append,List.append_assoc]
    rw[← List.append_assoc,← hlen]
    exact List.take_left
theorem Zog {ops:Array Oper} {rest:List Oper} {o:Oper} {a:Act} {Q:Exit→Act→World→Prop} (hgd:o.guard=none) (sl x:Operand) (t u:TypeId)
  (ho:o.op=.call { callee:=.builtin .append,args:=#[sl,x],argTypes:=#[t,u] })
  (base:Nat) (e:TypeId) (i:TypeInfo) (ht:P.underlying t=some (.slice e)) (hu:P.underlying u=some .string) (hi:P.info? e=some i) (hz:i.zero=some (.int .u8 0))
  (hsize:i.size=1) (hby:i.bytes=1)
  (v:Value) (n:Nat) (xs:List Value) (hs:a.eval sl=v) (hown:w.ownsRowF base e 1 v n xs) (s:ByteArray) (hx:a.eval x=.string s)
  (h63:n+s.size≤maxLen) (hbytes:n+s.size≤140737488355328) (hbase:base≤w.heap.size)
  (h:∀ v' w',w'.ownsRowF base e 1 v' (n+s.size) (xs++strCells s)→w.grownBy w' v.ownBlock→(v'.ownBlock=v.ownBlock∨∃ g,v'.ownBlock=some g∧w.heap.size≤g)→wpList P ops Q rest (a.put o.dst v') w'):wpList P ops Q (o::rest) a w:=by
 refine wpList_plain hgd fun K hK=>?_
 obtain⟨v',w',hr,h2,h3,h4⟩:=Zkl (P:=P) w base t u o.type e i ht hu hi hz hsize hby v n xs hown s h63 hbytes hbase
 unfold Oper.wp execOp
 simp only[ho,resolve,invoke,builtin,Sem.run_bind,Sem.run_pure,Result.andThen_ok,List.map_toArray,List.map_cons,List.map_nil,hs,hx,hr]
 exact hK _ _ (h v' w' h2 h3 h4)
end
structure Wr (B b:Nat) (v v':Value) (w w':World):Prop where
 aside:Go.Proofs.YtcnjephlmcnodaaGreatDoor.Tx.Aside b v w w'
 fresh:Fresh v v' w
 below:Below B w w'
theorem Wr.refl (B b:Nat) (v:Value) (w:World):Wr B b v v w w:=⟨fun _ _ _ _=>rfl,.inl rfl,Below.refl B w⟩
theorem Wr.trans {B b:Nat} {v v1 v2:Value} {w w1 w2:World} (h:Wr B b v v1 w w1) (h':Wr B b v1 v2 w1 w2):Wr B b v v2 w w2:=by
 have hsz:=h.below.size
 have hn:∀ k,k<w.heap.size→v.ownBlock≠some k→v1.ownBlock≠some k:=by
  intro k hk hv
  rcases h.fresh with q | ⟨g,q,hg⟩
  ·rw[q];exact hv
  ·rw[q]
   intro e
   have:=Option.some.inj e
   omega
 refine⟨fun k hk hb hv=>(h'.aside k (by omega) hb (hn k hk hv)).trans (h.aside k hk hb hv),?_,h.below.trans h'.below⟩
 rcases h'.fresh with q | ⟨g,q,hg⟩
 ·rcases h.fresh with q2 | ⟨g,q2,hg⟩
  ·exact .inl (q.trans q2)
  ·exact .inr ⟨g,q.trans q2,hg⟩
 ·exact .inr ⟨g,q,by omega⟩
theorem Wr.low {B b:Nat} {v:Value} {w w1:World} (h:Below w.heap.size w w1) (hB:B≤w.heap.size):Wr B b v v w w1:=⟨fun k hk _ _=>h.block k hk,.inl rfl,h.mono hB⟩
theorem Wr.size {B b:Nat} {v v':Value} {w w':World} (h:Wr B b v v' w w'):w.heap.size≤w'.heap.size:=h.below.size
def Off (k:Nat) (b:Nat) (v:Value):Prop:=k≠b∧v.ownBlock≠some k
theorem Wr.block {B b:Nat} {v v':Value} {w w':World} (h:Wr B b v v' w w') {k:Nat} {o:Obj} (hk:w.heap[k]?=some o) (ho:Off k b v):w'.heap[k]?=some o∧Off k b v':=by
 have hlt:k<w.heap.size:=(Array.getElem?_eq_some_iff.1 hk).1
 refine⟨(h.aside k hlt ho.1 ho.2).trans hk,ho.1,?_⟩
 rcases h.fresh with q | ⟨g,q,hg⟩
 ·rw[q];exact ho.2
 ·rw[q]
  intro e
  have:=Option.some.inj e
  omega
end

end Go.Proofs.YtcnjephlmcnodaaGreatDoor

namespace Go.Proofs

section
open Go.Shelf
def Tryz.lays240_ren:Go.Shelf.Ren:=⟨fun | 240=>45 | 276=>67 | n=>n,fun | 0=>0 | 4=>4 | 9=>9 | 20=>20 | 70=>55 | 72=>58 | 37=>56 | 164=>110 | n=>n,fun | n=>n⟩
theorem Tryz.lays240:Go.Proofs.Lays.n240 Tryz.prog Tryz.lays240_ren:={
 mixed:=by kernel_rfl
 f240:= Go.fk Tryz.func45
 f276:= Go.fk Tryz.func67
 t0:=Tryz.underlying0
 a0:=Tryz.isAgg0
 z0:=Tryz.sizeOf0
 v0:=Tryz.zeroValue0
 t4:=Tryz.underlying4
 a4:=Tryz.isAgg4
 z4:=Tryz.sizeOf4
 v4:=Tryz.zeroValue4
 t9:=Tryz.underlying9
 a9:=Tryz.isAgg9
 z9:=Tryz.sizeOf9
 v9:=Tryz.zeroValue9
 t20:=Tryz.underlying20
 a20:=Tryz.isAgg20
 z20:=Tryz.sizeOf20
 v20:=Tryz.zeroValue20
 t70:=Tryz.underlying55
 a70:=Tryz.isAgg55
 z70:=Tryz.sizeOf55
 v70:=Tryz.zeroValue55
 t72:=Tryz.underlying58
 a72:=Tryz.isAgg58
 z72:=Tryz.sizeOf58
 v72:=Tryz.zeroValue58
 t164:=Tryz.underlying110
 a164:=Tryz.isAgg110
 z164:=Tryz.sizeOf110
 v164:=Tryz.zeroValue110 }
theorem Tryz.Builder_X72_240:Builder.X72 Tryz.prog Tryz.lays240_ren:={
 sizeBuilder:=by kernel_rfl
 liesBuilder:=by kernel_rfl }
theorem Tryz.copyCheck_used (b:Nat) (w:World) (h0:w.cell? ⟨b,0,none⟩=some (.pointer (some ⟨b,0,none⟩))) :
  Calls Tryz.prog 45 #[.pointer (some ⟨b,0,none⟩)] w fun e w'=>e=.returned (.tuple #[])∧w'=w:=Any.Builder_copyCheck_used Tryz.lays240 Tryz.Builder_X72_240 b w h0
end

end Go.Proofs

namespace Go.Proofs.YtcnjephlmcnodaaGreatDoor

section
open Go.RowKit Go.Proofs.YtcnjephlmcnodaaGreatDoor.Tx
theorem cwU8:(Tryz.prog.info? 5).map (fun i=>(i.zero,i.size,i.bytes))=some (some (.int .u8 0),1,1):=by kernel_rfl
theorem cwBs:(Tryz.prog.info? 58).map (·.size)=some 2:=by kernel_rfl
def LaysB (T:TypeId):Prop:=liesAt Tryz.prog Tryz.prog.depth T (2 / Tryz.prog.cellsOf T) 0 58 1=true∧T≠5
theorem Zgt:LaysB 58:=⟨by kernel_rfl,by decide⟩
theorem ZbY {T:TypeId} (hT:LaysB T) (b:Nat) (w:World) (h0:w.cell? ⟨b,0,none⟩=some (.pointer none)) (hsh:w.shape? b=some (T,2)) (hfz:w.frozen? ⟨b,0,none⟩=false) :
  Calls Tryz.prog 45 #[.pointer (some ⟨b,0,none⟩)] w fun e w'=>e=.returned (.tuple #[])∧w'=w.setCell ⟨b,0,none⟩ (.pointer (some ⟨b,0,none⟩)):=by
 obtain⟨j,hj,hjs⟩:=Option.map_eq_some_iff.1 cwBs
 go_enter Tryz.func45,Tryz.ntmps45
 go_wp2
 rw[Lib.run_to_unsafe w ⟨b,0,none⟩ Tryz.underlying55 Tryz.underlying110 hj (by rw[hjs];decide) hsh (Nat.zero_lt_succ 1)]
 simp only[Result.andThen]
 rw[Oper.upon_value]
 go_wp2
 rw[run_callFunc_extern Tryz.func67 (by kernel_rfl) (by kernel_rfl) (by kernel_rfl) (e:=Extern.AbiNoEscape.same) (by kernel_rfl)]
 rw[Lib.run_noEscape]
 simp only[Result.andThen]
 rw[Oper.upon_value]
 go_wp2
 rw[Lib.run_from_unsafe w ⟨b,0,none⟩ Tryz.underlying110 Tryz.underlying55 hj hsh hT.1]
 simp only[Result.andThen]
 rw[Oper.upon_value]
 go_wp2
 go_end0
 exact⟨rfl,rfl⟩
theorem ZbX {T:TypeId} (hT:LaysB T) (B b:Nat) (v:Value) (bs:List Value) (w:World) (h:Bld T 5 B b v bs w) :
  Calls Tryz.prog 45 #[.pointer (some ⟨b,0,none⟩)] w fun e w'=>e=.returned (.tuple #[])∧w'.heap[b]?=some (.cells #[.pointer (some ⟨b,0,none⟩),v] T (0,0))∧Bld T 5 B b v bs w'∧Hid (∀ k,k≠b→w'.heap[k]?=w.heap[k]?)∧Below B w w':=by
 have h':=h
 obtain⟨hB,⟨p,hp,hbk⟩,hown,hne⟩:=h
 have hlt:b<w.heap.size:=(Array.getElem?_eq_some_iff.1 hbk).1
 have c0:w.cell? ⟨b,0,none⟩=some p:=by rw[Lib.cell_of_heap hbk];rfl
 have f0:w.frozen? ⟨b,0,none⟩=false:=Lib.frozen_of_heap hbk 0
 rcases hp with rfl | rfl
 ·refine (ZbY hT b w c0 (by simp[World.shape?,hbk]) f0).mono ?_
  rintro e w' ⟨rfl,rfl⟩
  have hb':(w.setCell ⟨b,0,none⟩ (.pointer (some ⟨b,0,none⟩))).heap[b]?=some (.cells #[.pointer (some ⟨b,0,none⟩),v] T (0,0)):=by
   simp only[World.setCell,Array.getElem?_modify,hbk]
   simp
  have ho:∀ k,k≠b→(w.setCell ⟨b,0,none⟩ (.pointer (some ⟨b,0,none⟩))).heap[k]?=w.heap[k]?:=fun k hk=>Below.heap_setCell w _ _ k hk
  refine⟨rfl,hb',⟨hB,⟨_,.inr rfl,hb'⟩,?_,hne⟩,ho,(Below.refl B w).setCell (p:=⟨b,0,none⟩) hB _⟩
  refine⟨hown.1,?_⟩
  rcases hown.2 with h | ⟨g,cap,cur,fz,q1,q2,q3,q4⟩
  ·exact .inl h
  ·exact .inr ⟨g,cap,cur,fz,q1,q2,(ho g (fun e=>hne (by rw[q1,e];rfl))).trans q3,q4⟩
 ·refine (Tryz.copyCheck_used b w c0).mono ?_
  rintro e w' ⟨rfl,rfl⟩
  exact⟨rfl,hbk,h',fun _ _=>rfl,Below.refl B _⟩
theorem ZbS {T:TypeId} (hT:LaysB T) (B b:Nat) (v:Value) (bs:List Value) (c:Int) (w:World) (h:Bld T 5 B b v bs w) (hlen:bs.length+1≤140737488355328) (hBw:B≤w.heap.size) :
  Calls Tryz.prog 68 #[.pointer (some ⟨b,0,none⟩),.int .u8 c] w fun e w'=>e=.returned .nilIface∧∃ v',Bld T 5 B b v' (bs++[.int .u8 c]) w'∧Wr B b v v' w w':=by
 obtain⟨i0,hi,hz0,hz1,hz2⟩:=info_parts cwU8
 go_enter Tryz.func68,Tryz.ntmps68
 go_wp2_with (go_at_call 45;refine (ZbX hT B b v bs _ h).mono ?_)
 rintro e w1 ⟨rfl,hbk,⟨hB,_,hown,hne⟩,ho1,hb1⟩
 have c0:w1.cell? ⟨b,0,none⟩=some (.pointer (some ⟨b,0,none⟩)):=by rw[Lib.cell_of_heap hbk];rfl
 have c1:w1.cell? ⟨b,1,none⟩=some v:=by rw[Lib.cell_of_heap hbk];rfl
 have hlt:b<w1.heap.size:=(Array.getElem?_eq_some_iff.1 hbk).1
 go_wp2_with (at_builtin;refine Zof _ rfl _ _ 56 rfl B 5 i0 (.int .u8 0) 1 1 Tryz.underlying56 hi hz0 hz1 hz2 rfl (by decide) _ _ _ rfl (hown.alloc _) ⟨w1.heap.size,0,none⟩ 1 1 [.int .u8 c] rfl rfl ?c1 ?c2 ?c3 ?c4 ?c5 ?_)
 case c1 =>
  intro j u hj
  match j,hj with
  | 0,hj=>simp at hj;subst hj;simp[Addr.add]
 case c2=>intro u hu;simp at hu;subst hu;rfl
 case c3=>unfold maxLen;omega
 case c4=>omega
 case c5=>have:=hb1.size;simp;omega
 intro v' w2 hown' hgrow hfr
 have hb2:w2.heap[b]?=some (.cells #[.pointer (some ⟨b,0,none⟩),v] T (0,0)):=by
  rw[hgrow.block b (by simp;omega) (fun e=>hne e.symm),Lib.alloc_old w1 _ b hlt]
  exact hbk
 have d0:w2.cell? ⟨b,0,none⟩=some (.pointer (some ⟨b,0,none⟩)):=by rw[Lib.cell_of_heap hb2];rfl
 have d1:w2.cell? ⟨b,1,none⟩=some v:=by rw[Lib.cell_of_heap hb2];rfl
 have f1:w2.frozen? ⟨b,1,none⟩=false:=Lib.frozen_of_heap hb2 1
 obtain⟨g,cap,rfl⟩:∃ g cap,v'=.slice (some ⟨g,0,none⟩) (bs.length+1) cap:=by
  rcases hown'.2 with ⟨_,h0⟩ | ⟨g,cap,cur,fz,hv,_⟩
  ·omega
  ·exact⟨g,cap,hv⟩
 go_wp2
 go_ret
 refine⟨rfl,_,Bld.put hB (.inr rfl) hb2 (by simpa using hown') hT.2,?_,?_,?_⟩
 ·intro k hk hkb hkv
  rw[Below.heap_setCell w2 _ _ k hkb,hgrow.block k (by have:=hb1.size;simp;omega) (fun e=>hkv e.symm),Lib.alloc_old w1 _ k (by have:=hb1.size;omega)]
  exact ho1.out k hkb
 ·rcases hfr with h | ⟨g',h,h2⟩
  ·exact .inl h
  ·exact .inr ⟨g',h,by have:=hb1.size;omega⟩
 ·exact ((hb1.alloc (by have:=hb1.size;omega) _).grown hgrow (by have:=hb1.size;simp;omega) (fun k hk=>(hown.lt k hk).1)).setCell (p:=⟨b,1,none⟩) hB _
theorem ZbT {T:TypeId} (hT:LaysB T) (B b:Nat) (v:Value) (bs:List Value) (s:List UInt8) (w:World) (h:Bld T 5 B b v bs w) (hlen:bs.length+s.length≤140737488355328) (hBw:B≤w.heap.size) :
  Calls Tryz.prog 20 #[.pointer (some ⟨b,0,none⟩),.string ⟨s.toArray⟩] w fun e w'=>e=.returned (.tuple #[.int .i64 s.length,.nilIface])∧∃ v',Bld T 5 B b v' (bs++Lib.byteCells s) w'∧Wr B b v v' w w':=by
 obtain⟨i0,hi,hz0,hz1,hz2⟩:=info_parts cwU8
 go_enter Tryz.func20,Tryz.ntmps20
 go_wp2_with (go_at_call 45;refine (ZbX hT B b v bs _ h).mono ?_)
 rintro e w1 ⟨rfl,hbk,⟨hB,_,hown,hne⟩,ho1,hb1⟩
 have c0:w1.cell? ⟨b,0,none⟩=some (.pointer (some ⟨b,0,none⟩)):=by rw[Lib.cell_of_heap hbk];rfl
 have c1:w1.cell? ⟨b,1,none⟩=some v:=by rw[Lib.cell_of_heap hbk];rfl
 have hlt:b<w1.heap.size:=(Array.getElem?_eq_some_iff.1 hbk).1
 go_wp2_with (at_builtin;refine Zog _ rfl _ _ 56 9 rfl B 5 i0 Tryz.underlying56 Tryz.underlying9 hi hz0 hz1 hz2 _ _ _ rfl hown ⟨s.toArray⟩ rfl ?c3 ?c4 ?c5 ?_)
 case c3=>unfold maxLen;show bs.length+s.length≤_;omega
 case c4=>show bs.length+s.length≤_;omega
 case c5=>have:=hb1.size;omega
 intro v' w2 hown' hgrow hfr
 have hb2:w2.heap[b]?=some (.cells #[.pointer (some ⟨b,0,none⟩),v] T (0,0)):=by
  rw[hgrow.block b hlt (fun e=>hne e.symm)]
  exact hbk
 have d0:w2.cell? ⟨b,0,none⟩=some (.pointer (some ⟨b,0,none⟩)):=by rw[Lib.cell_of_heap hb2];rfl
 have d1:w2.cell? ⟨b,1,none⟩=some v:=by rw[Lib.cell_of_heap hb2];rfl
 have f1:w2.frozen? ⟨b,1,none⟩=false:=Lib.frozen_of_heap hb2 1
 obtain⟨ao,n',cap,rfl⟩:∃ ao n' cap,v'=.slice ao n' cap:=by
  rcases hown'.2 with ⟨hv,_⟩ | ⟨g,cap,cur,fz,hv,_⟩
  ·exact⟨_,_,_,hv⟩
  ·exact⟨_,_,_,hv⟩
 have hlen2:(bs++Lib.byteCells s).length=bs.length+s.length:=by rw[List.length_append,Lib.byteCells_length]
 go_wp2
 go_ret2
 refine⟨rfl,_,Bld.put hB (.inr rfl) hb2 (by rw[hlen2];exact hown') hT.2,?_,?_,?_⟩
 ·intro k hk hkb hkv
  rw[Below.heap_setCell w2 _ _ k hkb,hgrow.block k (by have:=hb1.size;omega) (fun e=>hkv e.symm)]
  exact ho1.out k hkb
 ·rcases hfr with h | ⟨g',h,h2⟩
  ·exact .inl h
  ·exact .inr ⟨g',h,by have:=hb1.size;omega⟩
 ·exact (hb1.grown hgrow (by have:=hb1.size;omega) (fun k hk=>(hown.lt k hk).1)).setCell (p:=⟨b,1,none⟩) hB _
end

section
open Go.RowKit Go.Proofs.YtcnjephlmcnodaaGreatDoor.Tx
attribute [local go_sem] ByteArray.extract_mk ZhN
theorem Zng (s:List UInt8):Lib.hasSuffix s [10]=fdB s:=by
 unfold Lib.hasSuffix fdB
 rw[Bool.eq_iff_iff,List.isSuffixOf_iff_suffix,beq_iff_eq]
 constructor
 ·rintro⟨t,rfl⟩;simp
 ·intro h
  obtain⟨t,rfl⟩:=List.getLast?_eq_some_iff.1 h
  exact⟨t,rfl⟩
theorem ZmZ (s:List UInt8):Lib.trimSuffix s [10]=bareT s:=by
 unfold Lib.trimSuffix bareT
 rw[Zng,List.dropLast_eq_take]
 rfl
theorem Zmv (l:List UInt8) (w:World) (hl:l.length≤9223372036854775807) :
  Calls Tryz.prog 19 #[.string ⟨l.toArray⟩] w fun e w'=>e=.returned (.tuple #[.string ⟨(bareT l).toArray⟩,.bool (fdB l)])∧w=w':=by
 go_enter Tryz.func19,Tryz.ntmps19
 go_wp2_with fail
 refine (Tryz.strings_CutSuffix ⟨l.toArray⟩ ⟨#[10]⟩ _ hl).mono ?_
 rintro e w1 ⟨rfl,rfl⟩
 go_wp2
 go_ret2
 rw[← ZmZ,← Zng]
 exact⟨rfl,rfl⟩
def Vsd (w:World) (b:Nat) (RS:List (Nat × Obj)) (T:List UInt8) (u:World):Prop :=
 ∃ v,Bld 58 5 w.heap.size b v (Lib.byteCells T) u∧(∀ x∈RS,u.heap[x.1]?=some x.2∧x.1≠b∧v.ownBlock≠some x.1)∧Below w.heap.size w u
section
variable {w u u':World} {b:Nat} {RS:List (Nat × Obj)} {T:List UInt8}
theorem Vsd.low (h:Vsd w b RS T u):Below w.heap.size w u:=by
 obtain⟨_,_,_,h⟩:=h
 exact h
theorem Vsd.keep (h:Vsd w b RS T u) (hb:Below u.heap.size u u'):Vsd w b RS T u':=by
 obtain⟨v,h1,h2,h3⟩:=h
 refine⟨v,h1.kept hb.block,fun x hx=>?_,h3.trans (hb.mono h3.size)⟩
 obtain⟨q1,q2,q3⟩:=h2 x hx
 exact⟨(hb.block _ (Array.getElem?_eq_some_iff.1 q1).1).trans q1,q2,q3⟩
theorem Vsd.drew (h:Vsd w b RS T u):Vsd w b RS T u.drew:=h.keep (Below.refl _ u).drew
theorem Vsd.alloc (h:Vsd w b RS T u) (o:Obj):Vsd w b RS T (u.alloc o):=h.keep ((Below.refl _ u).alloc (Nat.le_refl _) o)
theorem Vsd.block (h:Vsd w b RS T u) {k:Nat} {o:Obj} (hk:(k,o)∈RS):u.heap[k]?=some o:=by
 obtain⟨_,_,h,_⟩:=h
 exact (h _ hk).1
theorem Vsd.cell (h:Vsd w b RS T u) {k:Nat} {C:Array Value} {t:TypeId} {fz:Nat × Nat} (hk:(k,.cells C t fz)∈RS) (j:Nat):u.cell? ⟨k,j,none⟩=C[j]?:=by
 rw[Lib.cell_of_heap (h.block hk)]
theorem Vsd.less {x:Nat × Obj} (h:Vsd w b (x::RS) T u):Vsd w b RS T u:=by
 obtain⟨v,h1,h2,h3⟩:=h
 exact⟨v,h1,fun y hy=>h2 y (List.mem_cons_of_mem _ hy),h3⟩
theorem Vsd.more (h:Vsd w b RS T u) (o:Obj):Vsd w b ((u.heap.size,o)::RS) T (u.alloc o):=by
 have h':=h.alloc o
 obtain⟨v,h1,h2,h3⟩:=h
 obtain⟨v',_,_,_⟩:=h'
 have hb:=(Below.refl u.heap.size u).alloc (Nat.le_refl _) o
 have hlt:=h1.lt
 refine⟨v,h1.alloc o,fun x hx=>?_,h3.trans (hb.mono h3.size)⟩
 rcases List.mem_cons.1 hx with rfl | hx
 ·refine⟨heap_alloc_new u o,by show u.heap.size≠b;omega,?_⟩
  intro e
  have:=(h1.2.2.1.lt _ e).2
  omega
 ·obtain⟨q1,q2,q3⟩:=h2 x hx
  exact⟨(hb.block _ (Array.getElem?_eq_some_iff.1 q1).1).trans q1,q2,q3⟩
theorem Vsd.at0 (w:World) {W:World} (hb:Below w.heap.size w W):Vsd w W.heap.size [] [] (W.alloc (.cells #[.pointer none,.slice none 0 0] 58)) :=
 ⟨.slice none 0 0,⟨hb.size,⟨_,.inl rfl,heap_alloc_new W _⟩,World.ownsRowF_nil _ _ _ _,by simp[Value.ownBlock]⟩,fun x hx=>(by cases hx),hb.alloc hb.size _⟩
theorem Vsd.str {s Z:List UInt8} (h:Vsd w b RS T u) (hZ:T++s=Z) (hl:Z.length≤70368744177664) :
  Calls Tryz.prog 20 #[.pointer (some ⟨b,0,none⟩),.string ⟨s.toArray⟩] u fun e u'=>(∃ z,e=.returned (.tuple #[z,.nilIface]))∧Vsd w b RS Z u':=by
 obtain⟨v,h1,h2,h3⟩:=h
 have hll:T.length+s.length≤70368744177664:=by rw[← hZ,List.length_append] at hl;exact hl
 have hbc:∀ l:List UInt8,(Lib.byteCells l).length=l.length:=fun l=>by simp[Lib.byteCells]
 refine (ZbT Zgt w.heap.size b v _ s u h1 (by rw[hbc];omega) h3.size).mono ?_
 rintro e u' ⟨rfl,v',q,hw⟩
 refine⟨⟨_,rfl⟩,v',by rw[← hZ,Lib.byteCells_append];exact q,fun x hx=>?_,h3.trans hw.below⟩
 obtain⟨q1,q2,q3⟩:=h2 x hx
 have:=hw.block q1 ⟨q2,q3⟩
 exact⟨this.1,this.2⟩
theorem Vsd.text (h:Vsd w b RS T u) :
  Calls Tryz.prog 25 #[.pointer (some ⟨b,0,none⟩)] u fun e u'=>e=.returned (.string ⟨T.toArray⟩)∧Below w.heap.size w u':=by
 obtain⟨v,h1,h2,h3⟩:=h
 refine (Tryz.Builder_String_any_k w.heap.size b T u h1.isF h3.size).mono ?_
 rintro e u' ⟨rfl,_,hb,_⟩
 exact⟨rfl,h3.trans hb⟩
end
theorem Vsd.at1 (w:World) {W:World} (hb:Below w.heap.size w W) {k:Nat} {o:Obj} (hk:W.heap[k]?=some o):Vsd w W.heap.size [(k,o)] [] (W.alloc (.cells #[.pointer none,.slice none 0 0] 58)):=by
 have hlt:=(Array.getElem?_eq_some_iff.1 hk).1
 refine⟨.slice none 0 0,⟨hb.size,⟨_,.inl rfl,heap_alloc_new W _⟩,World.ownsRowF_nil _ _ _ _,by simp[Value.ownBlock]⟩,fun x hx=>?_,hb.alloc hb.size _⟩
 rw[List.mem_singleton.1 hx]
 refine⟨?_,by show k≠_;omega,by simp[Value.ownBlock]⟩
 show (W.alloc _).heap[k]?=some o
 rw[Below.heap_alloc W _ k hlt]
 exact hk
end

section
open Go.RowKit Go.Proofs.YtcnjephlmcnodaaGreatDoor.Tx
attribute [local go_sem] ZhN
theorem ZnT (l:List (List UInt8)) (k:Nat):(wlL (l.take k)).flatten.length≤(wlL l).flatten.length:=by
 have e:wlL l=wlL (l.take k)++wlL (l.drop k):=by
  unfold wlL
  rw[← List.map_append,List.take_append_drop]
 rw[e,List.flatten_append,List.length_append]
 omega
theorem Zjk (s nm:List UInt8) (w:World) (hn:nm.length≤1099511627776) (r:Nat) (HR:Hid (cmK nm s=r)) :
  Calls Tryz.prog 8 #[.string ⟨s.toArray⟩,.string ⟨nm.toArray⟩] w fun e w'=>e=.returned (.int .i64 (r:Int))∧w=w':=by
 obtain⟨A1,hA1⟩:∃ A,([35,105,102,100,101,102,32]:List UInt8)++nm=A:=⟨_,rfl⟩
 have n1:=congrArg List.length hA1
 simp only[List.length_append,List.length_cons,List.length_nil] at n1
 have q1:=Zbg (x:=[35,105,102,100,101,102,32]) (y:=nm) (by unfold Fits;simp only[List.length_cons,List.length_nil];omega) Tryz.prog
 rw[hA1] at q1
 obtain⟨B1,hB1⟩:∃ B,A1++([10]:List UInt8)=B:=⟨_,rfl⟩
 have p1:=Zbg (x:=A1) (y:=[10]) (by unfold Fits;simp only[List.length_cons,List.length_nil];omega) Tryz.prog
 rw[hB1] at p1
 have e1:cmT nm 1=B1:=by rw[← hB1,← hA1];simp[cmT]
 obtain⟨A2,hA2⟩:∃ A,([35,105,102,110,100,101,102,32]:List UInt8)++nm=A:=⟨_,rfl⟩
 have n2:=congrArg List.length hA2
 simp only[List.length_append,List.length_cons,List.length_nil] at n2
 have q2:=Zbg (x:=[35,105,102,110,100,101,102,32]) (y:=nm) (by unfold Fits;simp only[List.length_cons,List.length_nil];omega) Tryz.prog
 rw[hA2] at q2
 obtain⟨B2,hB2⟩:∃ B,A2++([10]:List UInt8)=B:=⟨_,rfl⟩
 have p2:=Zbg (x:=A2) (y:=[10]) (by unfold Fits;simp only[List.length_cons,List.length_nil];omega) Tryz.prog
 rw[hB2] at p2
 have e2:cmT nm 2=B2:=by rw[← hB2,← hA2];simp[cmT]
 obtain⟨A3,hA3⟩:∃ A,([35,101,108,115,101,32,47,42,32]:List UInt8)++nm=A:=⟨_,rfl⟩
 have n3:=congrArg List.length hA3
 simp only[List.length_append,List.length_cons,List.length_nil] at n3
 have q3:=Zbg (x:=[35,101,108,115,101,32,47,42,32]) (y:=nm) (by unfold Fits;simp only[List.length_cons,List.length_nil];omega) Tryz.prog
 rw[hA3] at q3
 obtain⟨B3,hB3⟩:∃ B,A3++([32,42,47,10]:List UInt8)=B:=⟨_,rfl⟩
 have p3:=Zbg (x:=A3) (y:=[32,42,47,10]) (by unfold Fits;simp only[List.length_cons,List.length_nil];omega) Tryz.prog
 rw[hB3] at p3
 have e3:cmT nm 3=B3:=by rw[← hB3,← hA3];simp[cmT]
 obtain⟨A4,hA4⟩:∃ A,([35,101,110,100,105,102,32,47,42,32]:List UInt8)++nm=A:=⟨_,rfl⟩
 have n4:=congrArg List.length hA4
 simp only[List.length_append,List.length_cons,List.length_nil] at n4
 have q4:=Zbg (x:=[35,101,110,100,105,102,32,47,42,32]) (y:=nm) (by unfold Fits;simp only[List.length_cons,List.length_nil];omega) Tryz.prog
 rw[hA4] at q4
 obtain⟨B4,hB4⟩:∃ B,A4++([32,42,47,10]:List UInt8)=B:=⟨_,rfl⟩
 have p4:=Zbg (x:=A4) (y:=[32,42,47,10]) (by unfold Fits;simp only[List.length_cons,List.length_nil];omega) Tryz.prog
 rw[hB4] at p4
 have e4:cmT nm 4=B4:=by rw[← hB4,← hA4];simp[cmT]
 obtain⟨A5,hA5⟩:∃ A,([35,101,110,100,105,102,32,47,42,32,33,32]:List UInt8)++nm=A:=⟨_,rfl⟩
 have n5:=congrArg List.length hA5
 simp only[List.length_append,List.length_cons,List.length_nil] at n5
 have q5:=Zbg (x:=[35,101,110,100,105,102,32,47,42,32,33,32]) (y:=nm) (by unfold Fits;simp only[List.length_cons,List.length_nil];omega) Tryz.prog
 rw[hA5] at q5
 obtain⟨B5,hB5⟩:∃ B,A5++([32,42,47,10]:List UInt8)=B:=⟨_,rfl⟩
 have p5:=Zbg (x:=A5) (y:=[32,42,47,10]) (by unfold Fits;simp only[List.length_cons,List.length_nil];omega) Tryz.prog
 rw[hB5] at p5
 have e5:cmT nm 5=B5:=by rw[← hB5,← hA5];simp[cmT]
 have HR2:Hid ((if s=B1 then 1 else if s=B2 then 2 else if s=B3 then 3 else if s=B4 then 4 else if s=B5 then 5 else 0)=r):=(by
  have h:=HR.out
  unfold cmK at h
  rw[e1,e2,e3,e4,e5] at h
  exact h)
 clear HR e1 e2 e3 e4 e5 hA1 hA2 hA3 hA4 hA5 hB1 hB2 hB3 hB4 hB5 n1 n2 n3 n4 n5
 by_cases c1:s=B1
 ·have HE:Hid ((1:Nat)=r):=(by show _=_;rw[← HR2.out,if_pos c1])
  have j1:(s == B1)=true:=beq_iff_eq.2 c1
  clear HR2 c1
  go_enter Tryz.func8,Tryz.ntmps8
  go_wp2
  go_ret
  exact⟨by rw[← HE.out];rfl,rfl⟩
 ·have j1:(s == B1)=false:=beq_eq_false_iff_ne.2 c1
  by_cases c2:s=B2
  ·have HE:Hid ((2:Nat)=r):=(by show _=_;rw[← HR2.out,if_neg c1,if_pos c2])
   have j2:(s == B2)=true:=beq_iff_eq.2 c2
   clear HR2 c1 c2
   go_enter Tryz.func8,Tryz.ntmps8
   go_wp2
   go_ret
   exact⟨by rw[← HE.out];rfl,rfl⟩
  ·have j2:(s == B2)=false:=beq_eq_false_iff_ne.2 c2
   by_cases c3:s=B3
   ·have HE:Hid ((3:Nat)=r):=(by show _=_;rw[← HR2.out,if_neg c1,if_neg c2,if_pos c3])
    have j3:(s == B3)=true:=beq_iff_eq.2 c3
    clear HR2 c1 c2 c3
    go_enter Tryz.func8,Tryz.ntmps8
    go_wp2
    go_ret
    exact⟨by rw[← HE.out];rfl,rfl⟩
   ·have j3:(s == B3)=false:=beq_eq_false_iff_ne.2 c3
    by_cases c4:s=B4
    ·have HE:Hid ((4:Nat)=r):=(by show _=_;rw[← HR2.out,if_neg c1,if_neg c2,if_neg c3,if_pos c4])
     have j4:(s == B4)=true:=beq_iff_eq.2 c4
     clear HR2 c1 c2 c3 c4
     go_enter Tryz.func8,Tryz.ntmps8
     go_wp2
     go_ret
     exact⟨by rw[← HE.out];rfl,rfl⟩
    ·have j4:(s == B4)=false:=beq_eq_false_iff_ne.2 c4
     by_cases c5:s=B5
     ·have HE:Hid ((5:Nat)=r):=(by show _=_;rw[← HR2.out,if_neg c1,if_neg c2,if_neg c3,if_neg c4,if_pos c5])
      have j5:(s == B5)=true:=beq_iff_eq.2 c5
      clear HR2 c1 c2 c3 c4 c5
      go_enter Tryz.func8,Tryz.ntmps8
      go_wp2
      go_ret
      exact⟨by rw[← HE.out];rfl,rfl⟩
     ·have j5:(s == B5)=false:=beq_eq_false_iff_ne.2 c5
      have HE:Hid ((0:Nat)=r):=(by show _=_;rw[← HR2.out,if_neg c1,if_neg c2,if_neg c3,if_neg c4,if_neg c5])
      clear HR2 c1 c2 c3 c4 c5
      go_enter Tryz.func8,Tryz.ntmps8
      go_wp2
      go_ret
      exact⟨by rw[← HE.out];rfl,rfl⟩
end

section
open Ln Go.RowKit
attribute [local go_sem] ZhN ByteArray.extract_mk
theorem ZkL (ws:List (List UInt8)) (a:List UInt8):scells (ws++[a])=scells ws++[.string ⟨a.toArray⟩]:=by simp[scells]
theorem Zlh (a:ByteArray):∀ u∈[Value.string a],u.oneCell'=true:=by intro u hu;simp at hu;subst hu;rfl
theorem Zlg (w:World) (C:List Value) (t:TypeId):∀ j u,C[j]?=some u→(w.alloc (.cells C.toArray t)).cell? ((⟨w.heap.size,0,none⟩:Addr).add j)=some u:=by
 intro j u hj
 have hadd:(⟨w.heap.size,0,none⟩:Addr).add j=⟨w.heap.size,j,none⟩:=by unfold Addr.add;split<;>simp_all
 rw[hadd,cell_of_row _ w.heap.size j C.toArray t (0,0) (_root_.Go.heap_alloc_new w _)]
 simpa using hj
def sizeT:Value→Nat
 | .string s=>s.size
 | _=>0
theorem sizeT_mk (r:List UInt8):sizeT (.string ⟨r.toArray⟩)=r.length:=rfl
theorem Zbd {acc:List (List UInt8)} {r l:List UInt8} (h:acc++splitL r=splitL l):acc.length≤l.length:=by
 have h1:=congrArg List.length h
 have h2:=split_len l
 rw[List.length_append] at h1
 omega
theorem ZhK (l:List UInt8) (w:World) (hl:l.length≤1099511627776) :
  Calls Tryz.prog 6 #[.string ⟨l.toArray⟩] w fun e w'=>∃ v,e=.returned v∧w'.ownsRow w.heap.size 9 1 v (splitL l).length (scells (splitL l))∧Below w.heap.size w w':=by
 obtain⟨i0,hi,hz0,hz1,hz2⟩:=info_parts infoStr
 go_enter Tryz.func6,Tryz.ntmps6
 go_wp2
 go_loopw [0,3,4] (fun s acc _ wr=>∃ (xs:List (List UInt8)) (r:List UInt8),s=.string ⟨r.toArray⟩∧wr.ownsRow w.heap.size 9 1 acc xs.length (scells xs)∧Below w.heap.size w wr∧r.length≤l.length∧xs++splitL r=splitL l) (fun s _ _ _=>sizeT s)
 case atStart=>exact⟨[],l,rfl,World.ownsRow_nil _ _ _ _,Below.refl _ _,Nat.le_refl _,rfl⟩
 case round =>
  obtain⟨acc,r,rfl,hown,hbr,hrl,hw⟩:=hrel
  have hacc:=Zbd hw
  have HW:Hid (acc++splitL r=splitL l):=hw
  clear hw
  have hbz:=hbr.size
  obtain⟨ao,cap,rfl⟩:=(holds_of hown).form
  rcases Int.lt_or_le (Lib.indexByte r 10) 0 with hq | hq
  ·obtain⟨q1,q2⟩:=ZfF hq
   clear hq
   cases r with
   | nil =>
    have HE:Hid (splitL l=acc):=by have:=HW.out;show _=_;simpa [splitL] using this.symm
    go_wp2_with fail
    refine (Tryz.strings_Index_one ⟨([]:List UInt8).toArray⟩ 10 _).mono ?_
    rintro e w1 ⟨rfl,rfl⟩
    go_wp2
    go_ret
    rw[HE.out]
    exact⟨_,rfl,hown,hbr⟩
   | cons c t =>
    have HE:Hid (splitL l=acc++[c::t]):=by
     have:=HW.out
     rw[Zll _ q2 (by simp)] at this
     exact this.symm
    clear q2
    go_wp2_with fail
    refine (Tryz.strings_Index_one ⟨(c::t).toArray⟩ 10 _).mono ?_
    rintro e w1 ⟨rfl,rfl⟩
    have hi2:Lib.indexByte (⟨(c::t).toArray⟩:ByteArray).data.toList 10=-1:=q1
    rw[hi2]
    go_wp2_with (at_builtin;refine wpList_append_own _ rfl _ _ 23 rfl w.heap.size 9 i0 (.string ⟨#[]⟩) 1 16 Tryz.underlying23 hi hz0 hz1 hz2 rfl (by decide) _ _ _ rfl (hown.alloc _) ⟨w1.heap.size,0,none⟩ 1 1 [.string ⟨(c::t).toArray⟩] rfl rfl (Zlg _ _ _) (Zlh _) ?c3 ?c4 ?c5 ?_)
    case c3=>unfold maxLen;omega
    case c4=>omega
    case c5=>simp;omega
    intro v' w3 hown3 hgrow hfr
    have hbr3:=(hbr.alloc hbz (.cells #[.string ⟨(c::t).toArray⟩] 9)).grown hgrow (by simp;omega) (fun j hj=>(hown.lt j hj).1)
    go_wp2
    go_ret
    rw[HE.out,ZkL]
    exact⟨_,rfl,by simpa using hown3,hbr3⟩
  ·obtain⟨a,b,rfl,hn,he⟩:=ZfG hq
   have HE:Hid (acc++[a++[10]]++splitL b=splitL l):=by
    have:=HW.out
    rw[Zlk a b hn] at this
    show _=_
    simpa using this
   clear hn hq
   have hlen:(a++10::b).length=a.length+1+b.length:=by simp;omega
   have ht:(a++10::b).take (a.length+1)=a++[10]:=by
    rw[show a++10::b=(a++[10])++b by simp,List.take_left' (by simp)]
   have hd:(a++10::b).drop (a.length+1)=b:=by
    rw[show a++10::b=(a++[10])++b by simp,List.drop_left' (by simp)]
   generalize a++10::b=r at *
   have i1:0≤(a.length:Int)+1:=by omega
   have i2:(a.length:Int)+1≤(r.length:Int):=by omega
   have i3:((a.length:Int)+1).toNat=a.length+1:=by omega
   go_wp2_with fail
   refine (Tryz.strings_Index_one ⟨r.toArray⟩ 10 _).mono ?_
   rintro e w1 ⟨rfl,rfl⟩
   have hi2:Lib.indexByte (⟨r.toArray⟩:ByteArray).data.toList 10=a.length:=he
   rw[hi2]
   go_wp2_with (at_builtin;refine wpList_append_own _ rfl _ _ 23 rfl w.heap.size 9 i0 (.string ⟨#[]⟩) 1 16 Tryz.underlying23 hi hz0 hz1 hz2 rfl (by decide) _ _ _ rfl (hown.alloc _) ⟨w1.heap.size,0,none⟩ 1 1 [.string ⟨(a++[10]).toArray⟩] rfl rfl (Zlg _ _ _) (Zlh _) ?c3 ?c4 ?c5 ?_)
   case c3=>unfold maxLen;omega
   case c4=>omega
   case c5=>simp;omega
   intro v' w3 hown3 hgrow hfr
   have hbr3:=(hbr.alloc hbz (.cells #[.string ⟨(a++[10]).toArray⟩] 9)).grown hgrow (by simp;omega) (fun j hj=>(hown.lt j hj).1)
   go_wp2
   go_roundw
   case rel=>exact⟨acc++[a++[10]],b,rfl,by rw[ZkL];simpa using hown3,hbr3,by omega,HE.out⟩
   case measure=>rw[sizeT_mk,sizeT_mk];omega
end

section
open Go.RowKit Go.Proofs.YtcnjephlmcnodaaGreatDoor.Tx
attribute [local go_sem] ZhN
theorem Znj {s:List UInt8} {L:List (List UInt8)} (h:s∈L):s.length≤L.flatten.length:=by
 induction L with
 | nil=>cases h
 | cons x r ih =>
  rw[List.flatten_cons,List.length_append]
  rcases List.mem_cons.1 h with rfl | h
  ·omega
  ·have:=ih h;omega
end

section
open Go.RowKit Go.Proofs.YtcnjephlmcnodaaGreatDoor.Tx
attribute [local go_sem] ZhN
attribute [local simp] Zlm ZgX Zde
def ifE (l:List Ch) (n m:Int) (nm:List UInt8):Int:=if chk l n m≠0 then chk l n m else if cnB nm=true then 0 else 253
theorem Zni (A:List (List UInt8)) (a:Int):cut A a 0=[]:=by simp[cut]
theorem Zdm {A:List (List UInt8)} {p n:Int} (h0:0≤p) (h1:0<n) (h2:p+n≤A.length):cut A p n≠[]:=by
 intro h
 have:=congrArg List.length h
 unfold cut at this
 rw[List.length_take,List.length_drop,List.length_nil] at this
 omega
theorem Zfw {nm:List UInt8} {o:List (List UInt8)} (h:o≠[]):ifC nm o []=cmT nm 2::(wlL o++[cmT nm 5]):=by
 unfold ifC
 rw[if_neg (fun q=>h q.1),if_pos rfl]
theorem Zfy {nm:List UInt8} {w:List (List UInt8)} (h:w≠[]):ifC nm [] w=cmT nm 1::(wlL w++[cmT nm 4]):=by
 unfold ifC
 rw[if_neg (fun q=>h q.2),if_neg h,if_pos rfl]
theorem Zfv {nm:List UInt8} {o w:List (List UInt8)} (h:o≠[]) (h2:w≠[]):ifC nm o w=cmT nm 2::(wlL o++cmT nm 3::(wlL w++[cmT nm 4])):=by
 unfold ifC
 rw[if_neg (fun q=>h q.1),if_neg h2,if_neg h]
theorem Znh {A:List (List UInt8)} {p n:Int} {s:List UInt8} (h:s∈cut A p n):s∈A:=List.mem_of_mem_drop (List.mem_of_mem_take h)
theorem Zdl {A:List (List UInt8)} {p n:Int}:(cut A p n).length≤A.length:=by
 unfold cut
 rw[List.length_take,List.length_drop]
 omega
theorem ZnQ (A:List (List UInt8)) (p n:Int):(wlL (cut A p n)).flatten.length≤(wlL A).flatten.length:=by
 have h1:=ZnT (A.drop p.toNat) n.toNat
 have e:wlL A=wlL (A.take p.toNat)++wlL (A.drop p.toNat):=by unfold wlL;rw[← List.map_append,List.take_append_drop]
 rw[e,List.flatten_append,List.length_append]
 unfold cut
 omega
end

end Go.Proofs.YtcnjephlmcnodaaGreatDoor
