/-
  Texts that belong together, joined: LnShelf, LnMath, HuLm, Math, PMath, BackMath, NoMath, NoB, ViMath, NoM2, NoM3, NoM4, CxMath, CxM2, CxM3, CxM4, CxM5, ViM2, ViM3, NoJn, NoTx, NoRf, NoCg, ViR, ViS, CwA, Copy, CwB, VcX, ViU, NpS, ViV, ViW.
-/
import Derived.Shelf.Strings.Search3
import Derived.Test.YtcnjephlmcnodaaDoorVdA1
import Derived.Test.YtcnjephlmcnodaaDoorProg
import Derived.Lib.Bytealg
import Derived.Lib.Join
import Derived.Test.YtcnjephlmcnodaaDoorVdA2
import Derived.Lib.ItoaNum
import Derived.Laws.IdiomStrings
import Derived.Deep.RegionHeld3
import Derived.Deep.CutBlock
import Derived.Deep.DeepCutAuto
import Derived.Lib.FrozenHead2
import Derived.Shelf.Strings.Builder1
import Derived.WalkKit
import Derived.WalkSpells
import Derived.WalkLawsBesides
import Derived.BigQuiet

set_option maxHeartbeats 16000000
set_option maxRecDepth 100000
namespace Go.Proofs

section
open Go.Shelf
def Tryd.lays143_ren : Go.Shelf.Ren := ⟨fun | 143 => 38 | 219 => 64 | 217 => 81 | 225 => 82 | 224 => 83 | 267 => 84 | 266 => 90 | 314 => 91 | n => n, fun | 9 => 9 | 3 => 3 | 4 => 4 | 5 => 5 | 46 => 82 | 146 => 113 | 51 => 112 | n => n, fun | 1 => 1 | n => n⟩
theorem Tryd.lays143 : Go.Proofs.Lays.n143 Tryd.prog Tryd.lays143_ren := {
  mixed := by kernel_rfl
  f143 := Go.fk Tryd.func38
  f217 := Go.fk Tryd.func81
  f219 := Go.fk Tryd.func64
  f224 := Go.fk Tryd.func83
  f225 := Go.fk Tryd.func82
  f266 := Go.fk Tryd.func90
  f267 := Go.fk Tryd.func84
  f314 := Go.fk Tryd.func91
  t3 := Tryd.underlying3
  a3 := Tryd.isAgg3
  z3 := Tryd.sizeOf3
  v3 := Tryd.zeroValue3
  t4 := Tryd.underlying4
  a4 := Tryd.isAgg4
  z4 := Tryd.sizeOf4
  v4 := Tryd.zeroValue4
  t5 := Tryd.underlying5
  a5 := Tryd.isAgg5
  z5 := Tryd.sizeOf5
  v5 := Tryd.zeroValue5
  t9 := Tryd.underlying9
  a9 := Tryd.isAgg9
  z9 := Tryd.sizeOf9
  v9 := Tryd.zeroValue9
  t46 := Tryd.underlying82
  a46 := Tryd.isAgg82
  z46 := Tryd.sizeOf82
  v46 := Tryd.zeroValue82
  t51 := Tryd.underlying112
  a51 := Tryd.isAgg112
  z51 := Tryd.sizeOf112
  v51 := Tryd.zeroValue112
  t146 := Tryd.underlying113
  a146 := Tryd.isAgg113
  z146 := Tryd.sizeOf113
  v146 := Tryd.zeroValue113
  g1 := by kernel_rfl }
open Go.RowKit Go.Lib in
theorem Tryd.strings_Index_one (s : ByteArray) (c : UInt8) (w : World) :
    Calls Tryd.prog 38 #[.string s, .string ⟨#[c]⟩] w fun e w' => e = .returned (.int .i64 (Lib.indexByte s.data.toList c)) ∧ w' = w := Any.strings_Index_one Tryd.lays143 s c w
end

end Go.Proofs

namespace Go.Proofs.YtcnjephlmcnodaaDoor.Ln

section
open Go
def splitL:List UInt8→List (List UInt8)
 | []=>[]
 | c::t=>if c=10 then [c]::splitL t else match splitL t with
  | []=>[[c]]
  | x::r=>(c::x)::r
theorem ZdD (a b:List UInt8) (h:∀ c∈a,c≠10):splitL (a++10::b)=(a++[10])::splitL b:=by
 induction a with
 | nil=>simp[splitL]
 | cons c a ih =>
  have hc:c≠10:=h c (by simp)
  have:=ih fun x hx=>h x (by simp[hx])
  simp only[List.cons_append,splitL,hc,if_false,this]
theorem ZdE (a:List UInt8) (h:∀ c∈a,c≠10) (h0:a≠[]):splitL a=[a]:=by
 induction a with
 | nil=>exact absurd rfl h0
 | cons c a ih =>
  have hc:c≠10:=h c (by simp)
  cases a with
  | nil=>simp[splitL,hc]
  | cons d a =>
   have:=ih (fun x hx=>h x (by simp[hx])) (by simp)
   simp only[splitL,hc,if_false] at this ⊢
   rw[this]
theorem split_join (l:List UInt8):(splitL l).flatten=l:=by
 induction l with
 | nil=>rfl
 | cons c t ih =>
  unfold splitL
  by_cases hc:c=10
  ·simp[hc,ih]
  ·simp only[hc,if_false]
   cases hs:splitL t with
   | nil=>rw[hs] at ih;simp at ih;simp[← ih]
   | cons x r=>rw[hs] at ih;simp at ih;simp[ih]
theorem split_len (l:List UInt8):(splitL l).length≤l.length:=by
 induction l with
 | nil=>simp[splitL]
 | cons c t ih =>
  unfold splitL
  by_cases hc:c=10
  ·simp[hc];omega
  ·simp only[hc,if_false]
   cases hs:splitL t with
   | nil=>simp
   | cons x r=>rw[hs] at ih;simp at ih ⊢;omega
def lineB:List UInt8→Bool→Bool
 | [],_=>false
 | [c],last=>last || c == 10
 | c::d::t,last=>c != 10 && lineB (d::t) last
def checkB:List (List UInt8)→Bool
 | []=>true
 | s::t=>lineB s t.isEmpty && checkB t
theorem Zcm (c:UInt8) (x:List UInt8) (last:Bool) (hx:x≠[]):lineB (c::x) last=(c != 10 && lineB x last):=by
 cases x with
 | nil=>exact absurd rfl hx
 | cons d t=>rfl
theorem Zcq {x:List UInt8} {last:Bool} (h:lineB x last=true):x≠[]:=by rintro rfl;cases h
theorem Zcp {x:List UInt8} (h:lineB x false=true):∃ a,x=a++[10]∧∀ c∈a,c≠10:=by
 induction x with
 | nil=>cases h
 | cons c t ih =>
  cases t with
  | nil=>exact⟨[],by simpa [lineB] using h,by simp⟩
  | cons d t =>
   simp only[lineB,Bool.and_eq_true,bne_iff_ne] at h
   obtain⟨a,ha,hn⟩:=ih h.2
   refine⟨c::a,by rw[ha];rfl,?_⟩
   intro x hx
   simp only[List.mem_cons] at hx
   rcases hx with rfl | hx
   ·exact h.1
   ·exact hn x hx
theorem Zcr {x:List UInt8} (h:lineB x true=true):lineB x false=true∨∀ c∈x,c≠10:=by
 induction x with
 | nil=>cases h
 | cons c t ih =>
  cases t with
  | nil =>
   by_cases hc:c=10
   ·exact .inl (by simp[lineB,hc])
   ·exact .inr (by simpa using hc)
  | cons d t =>
   simp only[lineB,Bool.and_eq_true,bne_iff_ne] at h
   rcases ih h.2 with h2 | h2
   ·exact .inl (by simp only[lineB,Bool.and_eq_true,bne_iff_ne];exact⟨h.1,h2⟩)
   ·refine .inr ?_
    intro x hx
    simp only[List.mem_cons] at hx
    rcases hx with rfl | hx
    ·exact h.1
    ·exact h2 x (by simpa using hx)
theorem split_right (l:List UInt8):checkB (splitL l)=true:=by
 induction l with
 | nil=>rfl
 | cons c t ih =>
  unfold splitL
  by_cases hc:c=10
  ·simp[hc,checkB,lineB,ih]
  ·simp only[hc,if_false]
   cases hs:splitL t with
   | nil=>simp[checkB,lineB]
   | cons x r =>
    rw[hs] at ih
    simp only[checkB,Bool.and_eq_true] at ih ⊢
    rw[Zcm c x _ (Zcq ih.1)]
    simp[hc,ih.1,ih.2]
theorem ZcZ (ws:List (List UInt8)) (h:checkB ws=true):splitL ws.flatten=ws:=by
 induction ws with
 | nil=>rfl
 | cons x r ih =>
  simp only[checkB,Bool.and_eq_true] at h
  have hr:=ih h.2
  cases r with
  | nil =>
   simp only[List.flatten_cons,List.flatten_nil,List.append_nil]
   rcases Zcr (by simpa using h.1) with h1 | h1
   ·obtain⟨a,rfl,hn⟩:=Zcp h1
    rw[ZdD a [] hn];rfl
   ·exact ZdE x h1 (Zcq h.1)
  | cons y r =>
   obtain⟨a,rfl,hn⟩:=Zcp (by simpa using h.1)
   rw[List.flatten_cons,List.append_assoc]
   rw[show a++([10]++(y::r).flatten)=a++10::(y::r).flatten from rfl,ZdD a _ hn,hr]
theorem ZbS {l:List UInt8} {c:UInt8} (h:Lib.indexByte l c<0):Lib.indexByte l c=-1∧∀ x∈l,x≠c:=by
 induction l with
 | nil=>exact⟨rfl,by simp⟩
 | cons b l ih =>
  unfold Lib.indexByte at h ⊢
  by_cases hb:(b == c)=true
  ·rw[if_pos hb] at h;simp at h
  ·rw[if_neg hb] at h ⊢
   by_cases h1:(Lib.indexByte l c == -1)=true
   ·rw[if_pos h1]
    have h2:=ih (by simp at h1;omega)
    refine⟨rfl,?_⟩
    intro x hx
    simp only[List.mem_cons] at hx
    rcases hx with rfl | hx
    ·simpa using hb
    ·exact h2.2 x hx
   ·rw[if_neg h1] at h
    have:=Lib.indexByte_ge l c
    simp at h1
    omega
theorem ZbT {l:List UInt8} {c:UInt8} (h:0≤Lib.indexByte l c):∃ a b,l=a++c::b∧(∀ x∈a,x≠c)∧Lib.indexByte l c=a.length:=by
 induction l with
 | nil=>simp[Lib.indexByte] at h
 | cons d l ih =>
  unfold Lib.indexByte at h ⊢
  by_cases hb:(d == c)=true
  ·have:d=c:=by simpa using hb
   subst this
   rw[if_pos hb]
   exact⟨[],l,rfl,by simp,rfl⟩
  ·rw[if_neg hb] at h ⊢
   by_cases h1:(Lib.indexByte l c == -1)=true
   ·rw[if_pos h1] at h;simp at h
   ·rw[if_neg h1] at h ⊢
    have:=Lib.indexByte_ge l c
    obtain⟨a,b,e1,e2,e3⟩:=ih (by simp at h1;omega)
    refine⟨d::a,b,by rw[e1];rfl,?_,by rw[e3];simp⟩
    intro x hx
    simp only[List.mem_cons] at hx
    rcases hx with rfl | hx
    ·simpa using hb
    ·exact e2 x hx
theorem Zcn {a b:List UInt8} (h:∀ c∈a,c≠10) (last:Bool):lineB (a++10::b) last=b.isEmpty:=by
 induction a with
 | nil =>
  cases b with
  | nil=>simp[lineB]
  | cons d b=>simp[lineB]
 | cons c a ih =>
  have hc:c≠10:=h c (by simp)
  rw[List.cons_append,Zcm _ _ _ (by simp),ih fun x hx=>h x (by simp[hx])]
  simp[hc]
def feedB (s:List UInt8):Bool:=s.getLast? == some 10
def bareL (s:List UInt8):List UInt8:=if feedB s then s.dropLast else s
end

end Go.Proofs.YtcnjephlmcnodaaDoor.Ln

namespace Go.Proofs.YtcnjephlmcnodaaDoor

section
open Ln
theorem Zco (s:List UInt8) (last:Bool):lineB s last=(linB s && (last || fdB s)):=by
 induction s with
 | nil=>rfl
 | cons c t ih =>
  cases t with
  | nil =>
   simp[lineB,linB,fdB]
  | cons d t =>
   have e1:linB (c::d::t)=(c != 10 && linB (d::t)):=by
    simp[linB,List.dropLast]
   have e2:fdB (c::d::t)=fdB (d::t):=by simp[fdB]
   rw[e1,e2,Bool.and_assoc,← ih]
   rfl
end

end Go.Proofs.YtcnjephlmcnodaaDoor

namespace Go.Proofs.YtcnjephlmcnodaaDoor.Q

section
def plainI (n:Int):Bool:=decide (32≤n∧n≤126∧n≠34∧n≠92)
def hexl:List UInt8:=[48,49,50,51,52,53,54,55,56,57,97,98,99,100,101,102]
def hexc (n:Nat):UInt8:=hexl.getD n 0
def q1 (c:UInt8):List UInt8:=if plainI c.toNat then [c] else [92,hexc (c.toNat / 16),hexc (c.toNat % 16)]
end

end Go.Proofs.YtcnjephlmcnodaaDoor.Q

/- Plain facts on the texts of numbers: nothing of a program. -/
namespace Go.Proofs.YtcnjephlmcnodaaDoor.Pn
end Go.Proofs.YtcnjephlmcnodaaDoor.Pn

namespace Go.Proofs.YtcnjephlmcnodaaDoor

section
open Q Pn
end

section
open Ln
theorem Zbp (s:List UInt8):fdB (s++[10])=true:=by simp[fdB]
end

section
open Go.RowKit
attribute [local go_sem] ByteArray.extract_mk
theorem ZcE (l:List UInt8) (k:Nat) (h:k<(⟨l.toArray⟩:ByteArray).size):(⟨l.toArray⟩:ByteArray)[k]'h=l[k]'(h):=rfl
attribute [local go_sem] ZcE
def bareT (s:List UInt8):List UInt8:=if fdB s=true then s.dropLast else s
theorem Zal {l:List UInt8} (h0:0<l.length) (h:l[l.length-1]=10):bareT l=l.take (l.length-1)∧fdB l=true:=by
 have hf:fdB l=true:=by unfold fdB;rw[List.getLast?_eq_getElem?,List.getElem?_eq_getElem (by omega),h];rfl
 exact⟨by rw[bareT,hf,List.dropLast_eq_take];rfl,hf⟩
theorem Zak {l:List UInt8} (h0:0<l.length) (h:l[l.length-1]≠10):bareT l=l∧fdB l=false:=by
 have hf:fdB l=false:=by unfold fdB;rw[List.getLast?_eq_getElem?,List.getElem?_eq_getElem (by omega)];simpa using h
 exact⟨by rw[bareT,hf];rfl,hf⟩
theorem ZcQ (l:List UInt8) (w:World) (hl:l.length≤9223372036854775807) :
  Calls Tryd.prog 75 #[.string ⟨l.toArray⟩] w fun e w'=>e=.returned (.tuple #[.string ⟨(bareT l).toArray⟩,.bool (fdB l)])∧w=w':=by
 rcases Nat.eq_zero_or_pos l.length with h0 | h0
 ·obtain rfl:=List.eq_nil_of_length_eq_zero h0
  go_enter Tryd.func75,Tryd.ntmps75
  go_wp2
  go_ret2
  exact⟨rfl,rfl⟩
 ·have hn:((l.length:Int) == 0)=false:=beq_eq_false_iff_ne.2 (by omega)
  have hi:(((l.length:Int)-1).toNat)=l.length-1:=by omega
  have i1:0≤(l.length:Int)-1:=by omega
  have i2:(l.length:Int)-1<(l.length:Int):=by omega
  have i3:(l.length:Int)-1≤(l.length:Int):=by omega
  by_cases h:l[l.length-1]=10
  ·obtain⟨e1,e2⟩:=Zal h0 h
   rw[e1,e2]
   have hb:((l[l.length-1].toNat:Int) != 10)=false:=by rw[h];rfl
   go_enter Tryd.func75,Tryd.ntmps75
   go_wp2
   go_ret2
   exact⟨rfl,rfl⟩
  ·obtain⟨e1,e2⟩:=Zak h0 h
   rw[e1,e2]
   have hb:((l[l.length-1].toNat:Int) != 10)=true:=(by
    rw[bne_iff_ne]
    intro hq
    exact h (UInt8.toNat_inj.1 (by show _=10;omega)))
   go_enter Tryd.func75,Tryd.ntmps75
   go_wp2
   go_ret2
   exact⟨rfl,rfl⟩
end

section
open Ln
def shT (w:Nat) (s:List UInt8):List UInt8:=(Go.Proofs.YtcnjephlmcnodaaDoor.Tx.Cn.expL 0 (bareT s)).take w
def trB (l:List UInt8):List UInt8:=(l.reverse.dropWhile (· == 32)).reverse
def padT (w:Nat) (l:List UInt8):List UInt8:=l++List.replicate (w-l.length) 32
def rowT (w:Nat) (x:List UInt8) (g:UInt8) (y:List UInt8):List UInt8:=trB (padT w (shT w x)++([32,g,32]++shT w y))++[10]
def krT (w:Nat) (x y:List (List UInt8)):List (List UInt8):=List.zipWith (fun s t=>rowT w s 32 t) x y
def crT (w:Nat):List (List UInt8)→List (List UInt8)→List (List UInt8)
 | [],ys=>ys.map fun y=>rowT w [] 62 y
 | x::xs,[]=>rowT w x 60 []::crT w xs []
 | x::xs,y::ys=>rowT w x 124 y::crT w xs ys
def vsP (w:Nat) (A B:List (List UInt8)) (x:Rn × Ch):List (List UInt8):=krT w (cut A x.1.a x.1.n) (cut B x.1.b x.1.n)++crT w (cut A x.2.A x.2.AN) (cut B x.2.B x.2.BN)
def vsL (w:Nat) (l:List Ch) (A B:List (List UInt8)):List (List UInt8):=(piecesL 0 0 A.length B.length l).flatMap (vsP w A B)
def wlL (l:List (List UInt8)):List (List UInt8):=l.map fun s=>bareT s++[10]
def cmT (nm:List UInt8):Nat→List UInt8
 | 1=>[35,105,102,100,101,102,32]++(nm++[10])
 | 2=>[35,105,102,110,100,101,102,32]++(nm++[10])
 | 3=>[35,101,108,115,101,32,47,42,32]++(nm++[32,42,47,10])
 | 4=>[35,101,110,100,105,102,32,47,42,32]++(nm++[32,42,47,10])
 | _=>[35,101,110,100,105,102,32,47,42,32,33,32]++(nm++[32,42,47,10])
def ifC (nm:List UInt8) (o w:List (List UInt8)):List (List UInt8) :=
 if o=[]∧w=[] then [] else if w=[] then cmT nm 2::(wlL o++[cmT nm 5]) else if o=[] then cmT nm 1::(wlL w++[cmT nm 4])
 else cmT nm 2::(wlL o++cmT nm 3::(wlL w++[cmT nm 4]))
def ifP (nm:List UInt8) (A B:List (List UInt8)) (x:Rn × Ch):List (List UInt8):=wlL (cut A x.1.a x.1.n)++ifC nm (cut A x.2.A x.2.AN) (cut B x.2.B x.2.BN)
def ifL (nm:List UInt8) (l:List Ch) (A B:List (List UInt8)):List (List UInt8):=(piecesL 0 0 A.length B.length l).flatMap (ifP nm A B)
def cmK (nm s:List UInt8):Nat:=if s=cmT nm 1 then 1 else if s=cmT nm 2 then 2 else if s=cmT nm 3 then 3 else if s=cmT nm 4 then 4 else if s=cmT nm 5 then 5 else 0
def selB (d:Bool) (o:Nat):Bool:=decide (o=0) || (decide (o=2) != d)
def thenT (t:List UInt8) (X:Except (Nat × Int) (List UInt8)):Except (Nat × Int) (List UInt8):=match X with
 | .error e=>.error e
 | .ok u=>.ok (t++u)
def rsE (nm:List UInt8) (d:Bool):Nat→Nat→List (List UInt8)→Except (Nat × Int) (List UInt8)
 | o,p,[]=>if o=0 then .ok [] else .error (p+1,1)
 | o,p,s::r=>if cmK nm s=0 then thenT (if selB d o=true then s else []) (rsE nm d o (p+1) r)
  else if (o=0∧cmK nm s≤2)∨(o=2∧cmK nm s=3) then rsE nm d (cmK nm s) (p+1) r
  else if (o=2∧cmK nm s=5)∨(o=1∧cmK nm s=4)∨(o=3∧cmK nm s=4) then rsE nm d 0 (p+1) r
  else .error (p+1,121)
def ltB (c:UInt8):Bool:=(decide (97≤c.toNat) && decide (c.toNat≤122)) || (decide (65≤c.toNat) && decide (c.toNat≤90)) || c == 95
def dgB (c:UInt8):Bool:=decide (48≤c.toNat) && decide (c.toNat≤57)
def cnB (s:List UInt8):Bool:=match s with
 | []=>false
 | c::t=>decide (s.length≤64) && ltB c && t.all fun x=>ltB x || dgB x
def rsT (t nm:List UInt8) (d:Bool):Except (Nat × Int) (List UInt8):=if cnB nm=true then rsE nm d 0 0 (splitL t) else .error (0,253)
/- the five commands are five -/
theorem ZdQ (a b:List UInt8) (X:Except (Nat × Int) (List UInt8)):thenT a (thenT b X)=thenT (a++b) X:=by
 cases X with
 | error e=>rfl
 | ok u=>simp[thenT]
theorem ZdP (X:Except (Nat × Int) (List UInt8)):thenT [] X=X:=by
 cases X with
 | error e=>rfl
 | ok u=>rfl
theorem Zdh {nm:List UInt8} {d:Bool} {o:Nat} (x:List (List UInt8)):∀ (p:Nat) (r:List (List UInt8)),(∀ s∈x,cmK nm s=0)→rsE nm d o p (x++r)=thenT (if selB d o=true then x.flatten else []) (rsE nm d o (p+x.length) r):=by
 induction x with
 | nil =>
  intro p r _
  have:(if selB d o=true then ([]:List (List UInt8)).flatten else [])=[]:=by split<;>rfl
  rw[this,ZdP]
  rfl
 | cons s x ih =>
  intro p r h
  rw[List.cons_append,rsE,if_pos (h s (by simp)),ih (p+1) r (fun t ht=>h t (by simp[ht])),ZdQ,List.length_cons,show p+1+x.length=p+(x.length+1) by omega]
  congr 1
  split<;>simp
theorem Zbd {A:List (List UInt8)} {i n:Int} {s:List UInt8} (h:s∈cut A i n):s∈A:=List.mem_of_mem_drop (List.mem_of_mem_take h)
end

section
open Ln
def Rows:List (List UInt8)→Prop
 | []=>True
 | x::r=>linB x=true∧(r≠[]→fdB x=true)∧Rows r
theorem Zcl {x:List UInt8} (h:linB x=true):x≠[]∧∀ c∈x.dropLast,c≠10:=by
 unfold linB at h
 simp only[Bool.and_eq_true] at h
 refine⟨?_,fun c hc=>?_⟩
 ·rintro rfl
  simp at h
 ·have:=(List.all_eq_true.1 h.2) c hc
  simpa using this
end

section
open Ln
theorem Zdf {a:List (List UInt8)} (h:checkB a=true):Rows a:=by
 induction a with
 | nil=>trivial
 | cons s t ih =>
  simp only[checkB,Bool.and_eq_true] at h
  have h1:=h.1
  rw[Zco] at h1
  simp only[Bool.and_eq_true,Bool.or_eq_true] at h1
  refine⟨h1.1,fun hne=>?_,ih h.2⟩
  rcases h1.2 with h2 | h2
  ·cases t with
   | nil=>exact absurd rfl hne
   | cons=>cases h2
  ·exact h2
theorem Zde {a:List (List UInt8)} (h:Rows a):∀ x∈a,linB x=true:=by
 induction a with
 | nil=>intro x hx;cases hx
 | cons s t ih =>
  intro x hx
  rcases List.mem_cons.1 hx with rfl | hx
  ·exact h.1
  ·exact ih h.2.2 x hx
def Fed (ls:List (List UInt8)):Prop:=∀ s∈ls,∃ t,s=t++[10]∧∀ c∈t,c≠10
theorem Zbq {ls:List (List UInt8)} (h:Fed ls):checkB ls=true:=by
 induction ls with
 | nil=>rfl
 | cons s r ih =>
  obtain⟨t,e,ht⟩:=h s (by simp)
  simp only[checkB,Bool.and_eq_true]
  refine⟨?_,ih fun x hx=>h x (by simp[hx])⟩
  rw[e]
  exact Zcn ht _
end

section
open Ln
end

section
open Ln
structure Pth where
 old:List UInt8
 new:List UInt8
 hs:List Hk
/- names -/
/- ranges -/
end

section
open Ln
end

section
open Ln
end

section
open Ln
structure Gh (h:Hk):Prop where
 chk:chkH h=0
 nf:Nf false h.ls
 ea:2≤h.AN→h.A+h.AN-1≤2147483647
 eb:2≤h.BN→h.B+h.BN-1≤2147483647
end

section
open Ln
structure Gp (p:Pth):Prop where
 ne:p.hs≠[]
 old:p.old.length≤64
 new:p.new.length≤64
 few:p.hs.length≤4096
 gd:∀ h∈p.hs,Gh h
end

section
open Ln
theorem Zcs {ls:List (List UInt8)} (h:checkB ls=true):∀ s∈ls,linB s=true:=Zde (Zdf h)
theorem ZeA {s:List UInt8} (h:linB s=true):∀ c∈bareT s,c≠10:=by
 obtain⟨h0,h1⟩:=Zcl h
 unfold bareT
 split
 ·exact h1
 ·rename_i hf
  intro c hc
  rw[← List.dropLast_concat_getLast h0] at hc
  rcases List.mem_append.1 hc with hc | hc
  ·exact h1 c hc
  ·rw[List.mem_singleton.1 hc]
   intro q
   refine hf ?_
   unfold fdB
   rw[List.getLast?_eq_some_getLast h0,q]
   rfl
theorem Zfm {l:List (List UInt8)} (h:∀ s∈l,linB s=true):Fed (wlL l):=by
 intro s hs
 obtain⟨t,ht,rfl⟩:=List.mem_map.1 hs
 exact⟨_,rfl,ZeA (h t ht)⟩
theorem ZaI {nm:List UInt8} (h:cnB nm=true):∀ c∈nm,c≠10:=by
 cases nm with
 | nil=>cases h
 | cons c t =>
  simp only[cnB,Bool.and_eq_true,List.all_eq_true] at h
  intro x hx e
  subst e
  rcases List.mem_cons.1 hx with hx | hx
  ·rw[← hx] at h
   exact absurd h.1.2 (by decide)
  ·exact absurd (h.2 _ hx) (by decide)
theorem Zbs {ls:List (List UInt8)} (h:Fed ls):splitL ls.flatten=ls:=ZcZ _ (Zbq h)
def whT (t:List UInt8):List UInt8:=if t=[]∨fdB t=true then t else t++[10]
theorem Zew {s:List UInt8} (h:fdB s=true):bareT s++[10]=s:=by
 unfold bareT
 rw[if_pos h]
 unfold fdB at h
 cases s with
 | nil=>cases h
 | cons c t =>
  have h0:(c::t)≠[]:=by simp
  rw[List.getLast?_eq_some_getLast h0] at h
  have h1:(c::t).getLast h0=10:=by simpa using h
  conv=>rhs;rw[← List.dropLast_concat_getLast h0,h1]
theorem Zfp (ls : List (List UInt8)) (h : checkB ls = true) : (wlL ls).flatten = whT ls.flatten := by
  induction ls with
  | nil => rfl
  | cons s r ih =>
    simp only [checkB, Bool.and_eq_true] at h
    have h0 := Zcq h.1
    have ih2 := ih h.2
    simp only [wlL, List.map_cons, List.flatten_cons] at ih2 ⊢
    rw [ih2]
    cases r with
    | nil =>
      simp only [List.flatten_nil, List.append_nil]
      have e : whT [] = [] := rfl
      rw [e, List.append_nil]
      unfold whT
      by_cases hf : fdB s = true
      · rw [Zew hf, if_pos (.inr hf)]
      · rw [if_neg (by rintro (q | q) <;> contradiction)]
        unfold bareT
        rw [if_neg hf]
    | cons s2 r =>
      obtain ⟨a, rfl, _⟩ := Zcp (by simpa using h.1)
      have hf : fdB (a ++ [10]) = true := Zbp a
      rw [Zew hf]
      have h2 : s2 ≠ [] := by
        have := h.2
        simp only [checkB, Bool.and_eq_true] at this
        exact Zcq this.1
      have hne : (s2 :: r).flatten ≠ [] := by simp [h2]
      have hfd : fdB (a ++ [10] ++ (s2 :: r).flatten) = fdB (s2 :: r).flatten := by
        unfold fdB
        rw [List.getLast?_append, List.getLast?_eq_some_getLast hne, Option.some_or]
      unfold whT
      by_cases q : fdB (s2 :: r).flatten = true
      · rw [if_pos (.inr q), if_pos (.inr (by rw [hfd]; exact q))]
      · rw [if_neg (by rintro (z | z) <;> contradiction), if_neg (by rw [hfd]; rintro (z | z); · simp at z
                                                                     · contradiction)]
        simp
theorem Zfo (t:List UInt8):(wlL (splitL t)).flatten=whT t:=by rw[Zfp _ (split_right t),split_join]
/- rows -/
theorem Zfe (l:List UInt8):∀ c∈trB l,c∈l:=by
 intro c hc
 unfold trB at hc
 rw[List.mem_reverse] at hc
 have:=(List.dropWhile_sublist (fun c:UInt8=>c == 32)).subset hc
 simpa using this
theorem Zfa (l:List UInt8):(trB l).length≤l.length:=by
 unfold trB
 rw[List.length_reverse]
 have:=(List.dropWhile_sublist (fun c:UInt8=>c == 32) (l:=l.reverse)).length_le
 simpa using this
theorem ZeZ (l:List UInt8) (c:UInt8) (h:(trB l).getLast?=some c):c≠32:=by
 unfold trB at h
 rw[List.getLast?_reverse] at h
 have h2:=List.head?_dropWhile_not (fun c:UInt8=>c == 32) l.reverse
 rw[h] at h2
 simpa using h2
theorem Zdz (w:Nat) (s:List UInt8):(shT w s).length≤w:=by
 unfold shT
 rw[List.length_take]
 omega
theorem ZcN {w:Nat} {l:List UInt8} (h:l.length≤w):(padT w l).length=w:=by
 unfold padT
 rw[List.length_append,List.length_replicate]
 omega
theorem ZeN (w:Nat) (x:List UInt8) (g:UInt8) (y:List UInt8):(rowT w x g y).length≤2 * w+4:=by
 unfold rowT
 have h1:=Zfa (padT w (shT w x)++([32,g,32]++shT w y))
 have h2:=ZcN (Zdz w x)
 have h3:=Zdz w y
 simp only[List.length_append,List.length_cons,List.length_nil] at h1 ⊢
 omega
theorem Zbm (l:List UInt8):∀ k,(∀ c∈l,c≠10)→∀ c∈Go.Proofs.YtcnjephlmcnodaaDoor.Tx.Cn.expL k l,c≠10:=by
 induction l with
 | nil=>intro k _ c hc;cases hc
 | cons d l ih =>
  intro k h c hc
  simp only[Go.Proofs.YtcnjephlmcnodaaDoor.Tx.Cn.expL] at hc
  split at hc
  ·rcases List.mem_append.1 hc with hc | hc
   ·rw[(List.mem_replicate.1 hc).2]
    decide
   ·exact ih _ (fun x hx=>h x (by simp[hx])) c hc
  ·rcases List.mem_cons.1 hc with rfl | hc
   ·exact h _ (by simp)
   ·exact ih _ (fun x hx=>h x (by simp[hx])) c hc
theorem ZdA {s:List UInt8} (w:Nat) (h:∀ c∈bareT s,c≠10):∀ c∈shT w s,c≠10:=fun c hc=>Zbm _ 0 h c (List.mem_of_mem_take hc)
theorem Zdc {w:Nat} {x y:List UInt8} {g:UInt8} (hx:∀ c∈bareT x,c≠10) (hy:∀ c∈bareT y,c≠10) (hg:g≠10):∃ t,rowT w x g y=t++[10]∧(∀ c∈t,c≠10)∧∀ c,t.getLast?=some c→c≠32:=by
 refine⟨_,rfl,?_,ZeZ _⟩
 intro c hc
 have h:=Zfe _ c hc
 rcases List.mem_append.1 h with h | h
 ·unfold padT at h
  rcases List.mem_append.1 h with h | h
  ·exact ZdA w hx c h
  ·rw[(List.mem_replicate.1 h).2]
   decide
 ·rcases List.mem_append.1 h with h | h
  ·simp only[List.mem_cons,List.not_mem_nil,or_false] at h
   rcases h with rfl | rfl | rfl
   ·decide
   ·exact hg
   ·decide
  ·exact ZdA w hy c h
theorem Zez:∀ c∈bareT [],c≠10:=by
 intro c hc
 cases hc
def RowB (w:Nat) (s:List UInt8):Prop:=s.length≤2 * w+4∧∃ t,s=t++[10]∧(∀ c∈t,c≠10)∧∀ c,t.getLast?=some c→c≠32
theorem Zcg {w:Nat}:∀ {x y:List (List UInt8)},(∀ s∈x,linB s=true)→(∀ s∈y,linB s=true)→∀ s∈krT w x y,RowB w s
 | [],_,_,_,s,hs=>by cases hs
 | _::_,[],_,_,s,hs=>by cases hs
 | a::x,b::y,hx,hy,s,hs=>by
  have hs2:s∈rowT w a 32 b::krT w x y:=hs
  rcases List.mem_cons.1 hs2 with rfl | h
  ·exact⟨ZeN _ _ _ _,Zdc (ZeA (hx a (by simp))) (ZeA (hy b (by simp))) (by decide)⟩
  ·exact Zcg (fun t ht=>hx t (by simp[ht])) (fun t ht=>hy t (by simp[ht])) s h
theorem ZaT {w:Nat}:∀ {x y:List (List UInt8)},(∀ s∈x,linB s=true)→(∀ s∈y,linB s=true)→∀ s∈crT w x y,RowB w s
 | [],y,_,hy,s,hs=>by
  have hs2:s∈y.map fun z=>rowT w [] 62 z:=hs
  obtain⟨z,hz,rfl⟩:=List.mem_map.1 hs2
  exact⟨ZeN _ _ _ _,Zdc Zez (ZeA (hy z hz)) (by decide)⟩
 | a::x,[],hx,hy,s,hs=>by
  have hs2:s∈rowT w a 60 []::crT w x []:=hs
  rcases List.mem_cons.1 hs2 with rfl | h
  ·exact⟨ZeN _ _ _ _,Zdc (ZeA (hx a (by simp))) Zez (by decide)⟩
  ·exact ZaT (fun t ht=>hx t (by simp[ht])) hy s h
 | a::x,b::y,hx,hy,s,hs=>by
  have hs2:s∈rowT w a 124 b::crT w x y:=hs
  rcases List.mem_cons.1 hs2 with rfl | h
  ·exact⟨ZeN _ _ _ _,Zdc (ZeA (hx a (by simp))) (ZeA (hy b (by simp))) (by decide)⟩
  ·exact ZaT (fun t ht=>hx t (by simp[ht])) (fun t ht=>hy t (by simp[ht])) s h
theorem ZeU {w:Nat} {l:List Ch} {A B:List (List UInt8)} (hA:∀ s∈A,linB s=true) (hB:∀ s∈B,linB s=true):∀ s∈vsL w l A B,RowB w s:=by
 intro s hs
 obtain⟨x,_,hx⟩:=List.mem_flatMap.1 hs
 rcases List.mem_append.1 hx with h | h
 ·exact Zcg (fun t ht=>hA t (Zbd ht)) (fun t ht=>hB t (Zbd ht)) s h
 ·exact ZaT (fun t ht=>hA t (Zbd ht)) (fun t ht=>hB t (Zbd ht)) s h
theorem ZeS {w:Nat} {l:List Ch} {A B:List (List UInt8)} (hA:∀ s∈A,linB s=true) (hB:∀ s∈B,linB s=true):Fed (vsL w l A B):=by
 intro s hs
 obtain⟨_,t,e,h,_⟩:=ZeU hA hB s hs
 exact⟨t,e,h⟩
theorem ZaO {w:Nat}:∀ x y:List (List UInt8),(crT w x y).length=max x.length y.length
 | [],y=>by simp[crT]
 | a::x,[]=>by
  have:=ZaO (w:=w) x []
  simp only[crT,List.length_cons,List.length_nil] at this ⊢
  omega
 | a::x,b::y=>by
  have:=ZaO (w:=w) x y
  simp only[crT,List.length_cons] at this ⊢
  omega
def vsN:List Ch→Int
 | []=>0
 | c::l=>max c.AN c.BN-c.AN+vsN l
theorem ZeT {w:Nat} {A B:List (List UInt8)} {l:List Ch}:∀ {f:Bool} {a b:Int},Right f a b A.length B.length l→0≤a→0≤b→(((piecesL a b A.length B.length l).flatMap (vsP w A B)).length:Int)=A.length-a+vsN l:=by
 induction l with
 | nil =>
  intro f a b h ha hb
  obtain⟨h1,h2,h3⟩:=h
  have l1:((cut A a (A.length-a)).length:Int)=A.length-a:=ZbF ha (by omega) (by omega)
  have l2:((cut B b (A.length-a)).length:Int)=A.length-a:=ZbF hb (by omega) (by omega)
  have l3:(cut A (A.length:Int) 0)=[]:=by simp[cut]
  have l4:(cut B (B.length:Int) 0)=[]:=by simp[cut]
  simp only[piecesL,List.flatMap_cons,List.flatMap_nil,List.append_nil,vsP,krT,List.length_zipWith,l3,l4,crT,List.map_nil,vsN]
  omega
 | cons c l ih =>
  intro f a b h ha hb
  obtain⟨⟨h1,h2,h3,h4⟩,h5⟩:=h
  rw[ZcG] at h1
  have h6:=h5.le
  have i1:=ih h5 (by omega) (by omega)
  have l1:((cut A a (c.A-a)).length:Int)=c.A-a:=ZbF ha (by omega) (by omega)
  have l2:((cut B b (c.A-a)).length:Int)=c.A-a:=ZbF hb (by omega) (by omega)
  have l3:((cut A c.A c.AN).length:Int)=c.AN:=ZbF (by omega) (by omega) (by omega)
  have l4:((cut B c.B c.BN).length:Int)=c.BN:=ZbF (by omega) (by omega) (by omega)
  simp only[piecesL,List.flatMap_cons,vsP,krT,List.length_append,List.length_zipWith,ZaO,vsN]
  omega
theorem ZeV {w:Nat} {s t:List UInt8} {l:List Ch} (h:Script l (splitL s).length (splitL t).length):splitL (vsL w l (splitL s) (splitL t)).flatten=vsL w l (splitL s) (splitL t)∧((vsL w l (splitL s) (splitL t)).length:Int)=(splitL s).length+vsN l∧∀ r∈vsL w l (splitL s) (splitL t),RowB w r:=by
 have hA:=Zcs (split_right s)
 have hB:=Zcs (split_right t)
 refine⟨Zbs (ZeS hA hB),?_,ZeU hA hB⟩
 have:=ZeT (w:=w) h.2.2 (by decide) (by decide)
 unfold vsL
 omega
end

section
open Ln
theorem Zfc (l:List UInt8):trB l <+: l:=by
 have h:=(List.dropWhile_suffix (fun c:UInt8=>c == 32) (l:=l.reverse)).reverse
 rw[List.reverse_reverse] at h
 exact h
theorem Zdd {w:Nat} {x y:List UInt8} {g:UInt8} (h:w+2<(rowT w x g y).length):(rowT w x g y)[w+1]?=some g:=by
 unfold rowT at h ⊢
 obtain⟨z,hz⟩:=Zfc (padT w (shT w x)++([32,g,32]++shT w y))
 generalize trB (padT w (shT w x)++([32,g,32]++shT w y))=q at *
 rw[List.length_append,List.length_singleton] at h
 rw[List.getElem?_append_left (by omega)]
 have e:(q++z)[w+1]?=q[w+1]?:=List.getElem?_append_left (by omega)
 have l1:=ZcN (Zdz w x)
 rw[← e,hz,List.getElem?_append_right (by omega),l1,show w+1-w=1 by omega]
 rfl
theorem Zci {w:Nat}:∀ {x y:List (List UInt8)},∀ s∈krT w x y,w+2<s.length→s[w+1]?=some 32
 | [],_,s,hs,_=>by cases hs
 | _::_,[],s,hs,_=>by cases hs
 | a::x,b::y,s,hs,hl=>by
  have hs2:s∈rowT w a 32 b::krT w x y:=hs
  rcases List.mem_cons.1 hs2 with rfl | h
  ·exact Zdd hl
  ·exact Zci s h hl
theorem ZaZ (A:List (List UInt8)):cut A 0 (A.length:Int)=A:=by simp[cut]
theorem Zbf (A:List (List UInt8)):cut A (A.length:Int) 0=[]:=by simp[cut]
theorem Zdt (n:Nat):Script [] (n:Int) (n:Int):=⟨by omega,by omega,by omega,by omega,by omega⟩
theorem ZeW (w:Nat) (A:List (List UInt8)):vsL w [] A A=krT w A A:=by
 simp only[vsL,piecesL,List.flatMap_cons,List.flatMap_nil,List.append_nil,vsP,Int.sub_zero,ZaZ,Zbf,crT,List.map_nil]
theorem ZbR (nm:List UInt8) (A:List (List UInt8)):ifL nm [] A A=wlL A:=by
 simp only[ifL,piecesL,List.flatMap_cons,List.flatMap_nil,List.append_nil,ifP,Int.sub_zero,ZaZ,Zbf]
 simp[ifC]
theorem Zca (w:Nat) (A:List (List UInt8)):(krT w A A).length=A.length:=by simp[krT]
theorem ZaC (nm:List UInt8) (k:Nat):(cmT nm k).head?=some 35∧8≤(cmT nm k).length:=by
 match k with
 | 0=>exact⟨rfl,by simp[cmT]⟩
 | 1=>exact⟨rfl,by simp[cmT]⟩
 | 2=>exact⟨rfl,by simp[cmT]⟩
 | 3=>exact⟨rfl,by simp[cmT]⟩
 | 4=>exact⟨rfl,by simp[cmT]⟩
 | n+5=>exact⟨rfl,by simp[cmT]⟩
theorem ZaE {nm s:List UInt8} (h:∀ k,s≠cmT nm k):cmK nm s=0:=by simp[cmK,h]
theorem Zey (s:List UInt8):(bareT s).length≤s.length∧s.length≤(bareT s).length+1:=by
 unfold bareT
 split
 ·rw[List.length_dropLast]
  omega
 ·omega
theorem Zex {s:List UInt8} (h:bareT s≠[]):s.head?=(bareT s).head?:=by
 unfold bareT at h ⊢
 split
 ·rename_i hf
  rw[if_pos hf] at h
  cases s with
  | nil=>rfl
  | cons c t =>
   cases t with
   | nil=>exact absurd rfl h
   | cons d t=>rfl
 ·rfl
theorem ZcF {nm s:List UInt8} (h:s.length≤3∨s.head?≠some 35):cmK nm (bareT s++[10])=0:=by
 refine ZaE fun k e=>?_
 obtain⟨h1,h2⟩:=ZaC nm k
 rw[← e] at h1 h2
 have h3:=Zey s
 rw[List.length_append,List.length_singleton] at h2
 rcases h with h | h
 ·omega
 ·have hb:bareT s≠[]:=by
   intro q
   rw[q] at h2
   simp at h2
  refine h ?_
  rw[Zex hb]
  cases hq:bareT s with
  | nil=>exact absurd hq hb
  | cons c t=>rw[hq] at h1;exact h1
theorem Zdk {nm t:List UInt8} {d:Bool} (hn:cnB nm=true) (h:∀ s∈splitL t,cmK nm s=0):rsT t nm d=.ok t:=by
 unfold rsT
 rw[if_pos hn]
 have h1:=Zdh (nm:=nm) (d:=d) (o:=0) (splitL t) 0 [] h
 rw[List.append_nil] at h1
 rw[h1]
 have h2:selB d 0=true:=by simp[selB]
 rw[if_pos h2,split_join]
 simp[rsE,thenT]
theorem Zdj {nm:List UInt8} {d:Bool} (l:List (List UInt8)):∀ (o p:Nat) (u:List UInt8),rsE nm d o p l=.ok u→u.length≤l.flatten.length:=by
 induction l with
 | nil =>
  intro o p u h
  rw[rsE] at h
  split at h
  ·cases h
   simp
  ·cases h
 | cons s l ih =>
  intro o p u h
  rw[rsE] at h
  rw[List.flatten_cons,List.length_append]
  split at h
  ·cases h1:rsE nm d o (p+1) l with
   | error e=>rw[h1] at h;cases h
   | ok v =>
    have h2:=ih _ _ _ h1
    rw[h1] at h
    cases h
    rw[List.length_append]
    split
    ·omega
    ·rw[List.length_nil]
     omega
  ·split at h
   ·have:=ih _ _ _ h
    omega
   ·split at h
    ·have:=ih _ _ _ h
     omega
    ·cases h
end

section
theorem Zaj (a b:List UInt8):((⟨a.toArray⟩:ByteArray)++(⟨b.toArray⟩:ByteArray))=⟨(a++b).toArray⟩:=by
 apply ByteArray.ext
 simp
end

section
open Go.RowKit
end

section
open Go.RowKit
attribute [local go_sem] ByteArray.extract_mk ZcE
end

section
open Go.RowKit
def Fits (x y:List UInt8):Prop:=x.length+y.length≤4611686018427387904
theorem Zae {x y:List UInt8} (h:Fits x y) (P:Program) (u:World):(Op.stringOp .add ⟨x.toArray⟩ ⟨y.toArray⟩).run P u=.ok (.string ⟨(x++y).toArray⟩) u:=by
 unfold Fits at h
 have e:¬ (((⟨x.toArray⟩:ByteArray).size+(⟨y.toArray⟩:ByteArray).size:Nat):Int) > IntKind.i64.max:=by
  have h1:(⟨x.toArray⟩:ByteArray).size=x.length:=rfl
  have h2:(⟨y.toArray⟩:ByteArray).size=y.length:=rfl
  have h3:IntKind.i64.max=9223372036854775807:=rfl
  rw[h1,h2,h3]
  omega
 unfold Op.stringOp
 dsimp only
 rw[if_neg e,Zaj]
 rfl
structure Cs (c:Ch) (b:Nat) (W w:World):Prop where
 c0:w.cell? ⟨b,0,none⟩=some (.int .i64 c.A)
 c1:w.cell? ⟨b,1,none⟩=some (.int .i64 c.AN)
 c2:w.cell? ⟨b,2,none⟩=some (.int .i64 c.B)
 c3:w.cell? ⟨b,3,none⟩=some (.int .i64 c.BN)
 lt:b<w.heap.size
 low:Below W.heap.size W w
theorem Cs.keep {c:Ch} {b:Nat} {W w w':World} (h:Cs c b W w) (hb:Below w.heap.size w w'):Cs c b W w':=by
 have hk:∀ o,w'.cell? ⟨b,o,none⟩=w.cell? ⟨b,o,none⟩:=fun o=>by
  unfold World.cell?
  dsimp only
  rw[hb.block b h.lt]
 exact⟨(hk 0).trans h.c0,(hk 1).trans h.c1,(hk 2).trans h.c2,(hk 3).trans h.c3,Nat.lt_of_lt_of_le h.lt hb.size,h.low.trans (hb.mono h.low.size)⟩
theorem ZaV (c:Ch) (b:Nat) (W w:World):Cs c b W w.drew↔Cs c b W w:=⟨fun h=>⟨h.c0,h.c1,h.c2,h.c3,h.lt,(h.low.trans ⟨rfl,rfl,rfl,Nat.le_refl _,fun _ _=>rfl⟩:Below W.heap.size W w)⟩,fun h=>⟨h.c0,h.c1,h.c2,h.c3,h.lt,h.low.drew⟩⟩
attribute [local simp] ZaV
theorem Cs.fresh (c:Ch) (w:World):Cs c w.heap.size w (w.alloc (.cells #[.int .i64 c.A,.int .i64 c.AN,.int .i64 c.B,.int .i64 c.BN] 61)):=by
 have h:=heap_alloc_new w (.cells #[.int .i64 c.A,.int .i64 c.AN,.int .i64 c.B,.int .i64 c.BN] 61)
 have hk:∀ o,(w.alloc (.cells #[.int .i64 c.A,.int .i64 c.AN,.int .i64 c.B,.int .i64 c.BN] 61)).cell? ⟨w.heap.size,o,none⟩=(#[Value.int .i64 c.A,.int .i64 c.AN,.int .i64 c.B,.int .i64 c.BN])[o]?:=fun o=>by
  unfold World.cell?
  dsimp only
  rw[h]
  rfl
 exact⟨hk 0,hk 1,hk 2,hk 3,by rw[World.alloc];simp,(Below.refl _ w).alloc (Nat.le_refl _) _⟩
theorem Zbe {a:List (List UInt8)} {p n k:Nat} (hk:k<n) (hn:p+n≤a.length):cut a (p:Int) ((k+1:Nat):Int)=cut a p (k:Nat)++[a[p+k]'(by omega)]:=by
 have h:=@ZaX a (p:Int) (k:Nat) 1 (by omega) (by omega) (by omega)
 have e:cut a ((p:Int)+(k:Nat)) 1=[a[p+k]'(by omega)]:=by
  unfold cut
  have e1:((p:Int)+(k:Nat)).toNat=p+k:=by omega
  rw[e1,List.drop_eq_getElem_cons (by omega)]
  rfl
 rw[← e,h]
 rfl
end

section
open Go.RowKit Go.Proofs.YtcnjephlmcnodaaDoor.Tx
attribute [local go_sem] ByteArray.extract_mk ZcE
theorem Zfd {l:List UInt8} (h0:0<l.length) (h:l[l.length-1]≠32):trB l=l:=by
 unfold trB
 have hr:l.reverse.dropWhile (fun c:UInt8=>c == 32)=l.reverse:=by
  cases hq:l.reverse with
  | nil=>rfl
  | cons c r =>
   have hc:c=l[l.length-1]:=by
    have e:l.reverse[0]?=some c:=by rw[hq];rfl
    rw[List.getElem?_reverse (by omega),List.getElem?_eq_getElem (by omega)] at e
    have:=Option.some.inj e
    simpa using this.symm
   have hb:(c == 32)=false:=by rw[beq_eq_false_iff_ne,hc];exact h
   rw[List.dropWhile_cons,hb]
   rfl
 rw[hr,List.reverse_reverse]
theorem Zfb {l:List UInt8} (h0:0<l.length) (h:l[l.length-1]=32):trB (l.take (l.length-1))=trB l:=by
 have hne:l≠[]:=by intro e;rw[e] at h0;cases h0
 have e:l=l.take (l.length-1)++[32]:=by
  rw[← h,← List.dropLast_eq_take]
  have h1:=List.dropLast_concat_getLast hne
  rw[List.getLast_eq_getElem] at h1
  exact h1.symm
 conv=>rhs;rw[e]
 unfold trB
 rw[List.reverse_append]
 rfl
theorem ZcV (l:List UInt8) (n:Nat) (h2:n≤200) (w:World) (hl:l.length≤1099511627776) (T:List UInt8) (HT:Hid (shT n l=T)) :
  Calls Tryd.prog 55 #[.string ⟨l.toArray⟩,.int .i64 (n:Int)] w fun e w'=>e=.returned (.string ⟨T.toArray⟩)∧Below w.heap.size w w':=by
 have hbl:=(Zey l).1
 have hx:=Cn.exp_len (bareT l) 0
 obtain⟨E,hE⟩:∃ E,Cn.expL 0 (bareT l)=E:=⟨_,rfl⟩
 have hc:=fun u=>ZcX (bareT l) u (by omega)
 rw[hE] at hc hx
 have HT2:Hid (E.take n=T):=(by have h:=HT.out;unfold shT at h;rw[hE] at h;exact h)
 clear HT hE
 go_enter Tryd.func55,Tryd.ntmps55
 go_wp2_with fail
 refine (ZcQ l _ (by omega)).mono ?_
 rintro e w1 ⟨rfl,rfl⟩
 go_wp2_with fail
 refine (hc w).mono ?_
 rintro e w2 ⟨rfl,hB⟩
 clear hc
 by_cases hle:n≤E.length
 ·have m1:min (n:Int) (E.length:Int)=(n:Int):=by omega
  have i1:(0:Int)≤(n:Int):=by omega
  have i2:(n:Int)≤(E.length:Int):=by omega
  have i3:(n:Int).toNat=n:=by omega
  go_wp2
  go_ret
  exact⟨by rw[← HT2.out];simp,hB⟩
 ·have m1:min (n:Int) (E.length:Int)=(E.length:Int):=by omega
  have i1:(0:Int)≤(E.length:Int):=by omega
  have i3:(E.length:Int).toNat=E.length:=by omega
  have e1:E.take n=E:=List.take_of_length_le (by omega)
  go_wp2
  go_ret
  exact⟨by rw[← HT2.out,e1];simp,hB⟩
def szV:Value→Nat
 | .string b=>b.size
 | _=>0
theorem ZdK (r:List UInt8):szV (.string ⟨r.toArray⟩)=r.length:=rfl
theorem ZcO {w:Nat} {s:List UInt8} {k:Nat} (_:s.length+k<w):s++List.replicate k 32++[32]=s++List.replicate (k+1) 32:=by
 rw[List.append_assoc]
 congr 1
 rw[List.replicate_succ']
theorem ZcU (x y:List UInt8) (g:UInt8) (n:Nat) (h2:n≤200) (w:World) (hx:x.length≤1099511627776) (hy:y.length≤1099511627776) (T:List UInt8) (HT:Hid (rowT n x g y=T)) :
  Calls Tryd.prog 26 #[.string ⟨x.toArray⟩,.string ⟨#[g]⟩,.string ⟨y.toArray⟩,.int .i64 (n:Int)] w fun e w'=>e=.returned (.string ⟨T.toArray⟩)∧Below w.heap.size w w':=by
 obtain⟨X,hX⟩:∃ X,shT n x=X:=⟨_,rfl⟩
 obtain⟨Y,hY⟩:∃ Y,shT n y=Y:=⟨_,rfl⟩
 have lX:=Zdz n x
 have lY:=Zdz n y
 rw[hX] at lX
 rw[hY] at lY
 have hc1:=ZcV x n h2 w hx X hX
 have hc2:=fun u=>ZcV y n h2 u hy Y hY
 obtain⟨P,hP⟩:∃ P,padT n X=P:=⟨_,rfl⟩
 have lP:=ZcN lX
 rw[hP] at lP
 have HP:Hid (padT n X=P):=hP
 obtain⟨U1,hU1⟩:∃ Z,P++[32]=Z:=⟨_,rfl⟩
 obtain⟨U2,hU2⟩:∃ Z,U1++[g]=Z:=⟨_,rfl⟩
 obtain⟨U3,hU3⟩:∃ Z,U2++[32]=Z:=⟨_,rfl⟩
 obtain⟨U4,hU4⟩:∃ Z,U3++Y=Z:=⟨_,rfl⟩
 have l1:=congrArg List.length hU1
 have l2:=congrArg List.length hU2
 have l3:=congrArg List.length hU3
 have l4:=congrArg List.length hU4
 simp only[List.length_append,List.length_cons,List.length_nil] at l1 l2 l3 l4
 have q1:=Zae (x:=P) (y:=[32]) (by unfold Fits;simp only[List.length_cons,List.length_nil];omega) Tryd.prog
 have q2:=Zae (x:=U1) (y:=[g]) (by unfold Fits;simp only[List.length_cons,List.length_nil];omega) Tryd.prog
 have q3:=Zae (x:=U2) (y:=[32]) (by unfold Fits;simp only[List.length_cons,List.length_nil];omega) Tryd.prog
 have q4:=Zae (x:=U3) (y:=Y) (by unfold Fits;omega) Tryd.prog
 rw[hU1] at q1
 rw[hU2] at q2
 rw[hU3] at q3
 rw[hU4] at q4
 have HT2:Hid (trB U4++[10]=T):=(by
  have h:=HT.out
  unfold rowT at h
  rw[hX,hY,hP] at h
  show _=_
  rw[← h,← hU4,← hU3,← hU2,← hU1]
  simp)
 have hl4:U4.length≤1000:=by omega
 have lT:=Zfa U4
 clear HT hX hY hP hU1 hU2 hU3 hU4 l1 l2 l3 l4 lY
 go_enter Tryd.func26,Tryd.ntmps26
 go_wp2_with fail
 refine hc1.mono ?_
 rintro e w1 ⟨rfl,hB1⟩
 clear hc1
 go_wp2
 go_loopw [9] (fun s wr=>∃ k:Nat,s=.string ⟨(X++List.replicate k 32).toArray⟩∧X.length+k≤n∧wr=w1) (fun s _=>n-szV s)
 case atStart=>exact⟨0,by simp,by omega,rfl⟩
 case round =>
 obtain⟨k,rfl,hk,rfl⟩:=hrel
 obtain⟨S,hS⟩:∃ S,X++List.replicate k 32=S:=⟨_,rfl⟩
 have lS:S.length=X.length+k:=by rw[← hS,List.length_append,List.length_replicate]
 have HS:Hid (X++List.replicate k 32=S):=hS
 rw[hS]
 clear hS
 by_cases hlt:S.length<n
 ·have i1:(S.length:Int)<(n:Int):=by omega
  have q0:=Zae (x:=S) (y:=[32]) (by unfold Fits;simp only[List.length_cons,List.length_nil];omega) Tryd.prog
  have HN:Hid (S++[32]=X++List.replicate (k+1) 32):=(by show _=_;rw[← HS.out];exact ZcO (w:=n) (by omega))
  have lN:(X++List.replicate (k+1) 32).length=X.length+(k+1):=(by rw[List.length_append,List.length_replicate])
  have HM:Hid (n-(S++[32]).length<n-S.length):=(by show _<_;rw[List.length_append,List.length_singleton];omega)
  go_wp2
  go_roundw
  case rel=>exact⟨k+1,by rw[← HN.out],by omega,by trivial⟩
  case measure=>simp only[ZdK];exact HM.out
 ·have i1:¬ (S.length:Int)<(n:Int):=by omega
  have hSP:S=P:=(by
   rw[← HS.out,← HP.out]
   unfold padT
   rw[show n-X.length=k by omega])
  subst hSP
  clear lS HS
  go_wp2_with fail
  refine (hc2 _).mono ?_
  rintro e w2 ⟨rfl,hB2⟩
  have hB3:=hB1.trans (hB2.mono hB1.size)
  clear hc2 hB1 hB2
  go_wp2
  go_loopw [9] (fun s wr=>∃ r:List UInt8,s=.string ⟨r.toArray⟩∧r.length≤U4.length∧Hid (trB r=trB U4)∧wr=w2) (fun s _=>szV s)
  case atStart=>exact⟨U4,rfl,Nat.le_refl _,rfl,rfl⟩
  case round =>
  obtain⟨r,rfl,hr,HR,rfl⟩:=hrel
  rcases Nat.eq_zero_or_pos r.length with h0 | h0
  ·obtain rfl:=List.eq_nil_of_length_eq_zero h0
   have HE:Hid ([10]=T):=(by show _=_;rw[← HT2.out,← HR.out];rfl)
   clear HR HT2
   go_wp2
   go_ret
   exact⟨by rw[← HE.out];rfl,hB3⟩
  ·have hn:(0:Int)<(r.length:Int):=by omega
   have hi:(((r.length:Int)-1).toNat)=r.length-1:=by omega
   have i1:0≤(r.length:Int)-1:=by omega
   have i2:(r.length:Int)-1<(r.length:Int):=by omega
   have i3:(r.length:Int)-1≤(r.length:Int):=by omega
   by_cases hc:r[r.length-1]=32
   ·have hb:((r[r.length-1].toNat:Int) == 32)=true:=(by rw[hc];rfl)
    have HR2:Hid (trB (r.take (r.length-1))=trB U4):=(by show _=_;rw[Zfb h0 hc];exact HR.out)
    clear HR hc
    go_wp2
    go_roundw
    case rel=>exact⟨r.take (r.length-1),rfl,by rw[List.length_take];omega,HR2,by trivial⟩
    case measure=>simp only[ZdK,List.length_take];omega
   ·have hb:((r[r.length-1].toNat:Int) == 32)=false:=(by
     rw[beq_eq_false_iff_ne]
     intro e
     refine hc ?_
     have h3:r[r.length-1].toNat=32:=by omega
     exact UInt8.toNat_inj.1 h3)
    have HE:Hid (r++[10]=T):=(by show _=_;rw[← HT2.out,← HR.out,Zfd h0 hc])
    have q5:=Zae (x:=r) (y:=[10]) (by unfold Fits;simp only[List.length_cons,List.length_nil];omega) Tryd.prog
    clear HR hc HT2
    go_wp2
    go_ret
    exact⟨by rw[← HE.out];first | rfl | simp,hB3⟩
end

section
open Go.RowKit Go.Proofs.YtcnjephlmcnodaaDoor.Tx
attribute [local go_sem] ZcE
end

section
open Go.RowKit Go.Proofs.YtcnjephlmcnodaaDoor.Tx Go.Lib
section
variable {P:Program} (w:World)
theorem Zdn (base:Nat) (t u ty e:TypeId) (i:TypeInfo) (ht:P.underlying t=some (.slice e)) (hu:P.underlying u=some .string) (hi:P.info? e=some i) (hz:i.zero=some (.int .u8 0))
  (hsize:i.size=1) (hby:i.bytes=1)
  (v:Value) (n:Nat) (xs:List Value) (hown:w.ownsRowF base e 1 v n xs) (s:ByteArray)
  (h63:n+s.size≤maxLen) (hbytes:n+s.size≤140737488355328) (hbase:base≤w.heap.size) :
  ∃ v' w',(Builtin.append_ #[t,u] ty #[v,.string s]).run P w=.ok v' w'∧w'.ownsRowF base e 1 v' (n+s.size) (xs++strCells s)∧w.grownBy w' v.ownBlock ∧
   (v'.ownBlock=v.ownBlock∨∃ g,v'.ownBlock=some g∧w.heap.size≤g):=by
 rcases hown.2 with ⟨rfl,rfl⟩ | ⟨g,cap,cur,fz,rfl,hbg,hg,hfz,hnc,hcm,hcs,htake⟩
 ·obtain⟨v',w',r1,r2,r3,r4⟩:=run_append_own_string (P:=P) w w.heap.size t u ty e i ht hu hi hz hsize hby (.slice none 0 0) 0 xs ⟨hown.1,.inl ⟨rfl,rfl⟩⟩ s h63 hbytes (Nat.le_refl _)
  have r5:=World.ownsRowF_of r2
  refine⟨v',w',r1,⟨r5.1,?_⟩,r3,?_⟩
  ·rcases r5.2 with h | ⟨g,cap,cur,fz,q1,q2,q3⟩
   ·exact .inl h
   ·exact .inr ⟨g,cap,cur,fz,q1,by omega,q3⟩
  ·rcases r5.2 with ⟨h,_⟩ | ⟨g,cap,cur,fz,q1,q2,q3⟩
   ·exact .inl (by rw[h])
   ·exact .inr ⟨g,by rw[q1];rfl,q2⟩
 ·have hsmall:n+s.size≤9223372036854775807:=by simp only[maxLen] at h63;omega
  have hxl:xs.length=n:=by simpa using hown.1
  have hlen:(xs++strCells s).length=(n+s.size) * 1:=by rw[List.length_append,hxl,strCells_length,Nat.mul_one]
  by_cases hroom:n+s.size≤cap
  ·have hcs':cur.size=cap:=by simpa using hcs
   have hr:=run_append_room_stringF (P:=P) w t u ty e i ht hu hi hsize g n cap cur fz hg (by simpa using hfz) s hroom (by omega)
   refine⟨_,_,hr,⟨hlen,.inr ⟨g,cap,_,fz,rfl,hbg,setRow_heap w g cur _ e _ hg,by omega,hroom,hcm,?_,?_⟩⟩,⟨rfl,rfl,rfl,by simp,fun k _ hk=>setRow_other w g k _ (fun e=>hk (by simp[Value.ownBlock,e]))⟩,.inl rfl⟩
   ·simp only[List.size_toArray,List.length_append,List.length_take,List.length_drop,Array.length_toList,strCells_length]
    omega
   ·have ht':cur.toList.take n=xs:=by simpa using htake
    rw[ht',← hlen]
    exact List.take_left
  ·have holds:∀ j u,xs[j]?=some u→w.cell? ((⟨g,0,none⟩:Addr).add j)=some u:=hown.cells (g:=g) rfl
   have hr:=run_append_grow_string (P:=P) w t u ty e i (.int .u8 0) ht hu hi hz ⟨g,0,none⟩ n cap xs (by rw[hsize];simpa using hxl) holds s (by omega) (by omega) (by rw[hby];exact growslice_fits (by omega) (by omega))
   have hge:=grownCap_ge w (n+s.size) cap e
   have hcm2:grownCap w (n+s.size) cap e≤maxLen:=grownCap_le_maxLen w (n+s.size) cap e h63
   refine⟨_,_,hr,⟨hlen,.inr ⟨w.heap.size,_,_,(0,0),rfl,hbase,_root_.Go.heap_alloc_new w.drew _,Nat.zero_le _,hge,hcm2,?_,?_⟩⟩,⟨rfl,rfl,rfl,by simp,fun k hk _=>Below.heap_alloc w.drew _ k hk⟩,.inr ⟨_,rfl,Nat.le_refl _⟩⟩
   ·have hz1:(Value.int IntKind.u8 0).cells.size=1:=rfl
    simp only[Array.size_append,List.size_toArray,size_zeroCells,hz1,hxl,strCells_length]
    omega
   ·simp only[Array.toList_append,List.append_assoc]
    rw[← List.append_assoc,← hlen]
    exact List.take_left
theorem Zfs {ops:Array Oper} {rest:List Oper} {o:Oper} {a:Act} {Q:Exit→Act→World→Prop} (hgd:o.guard=none) (sl x:Operand) (t u:TypeId)
  (ho:o.op=.call { callee:=.builtin .append,args:=#[sl,x],argTypes:=#[t,u] })
  (base:Nat) (e:TypeId) (i:TypeInfo) (ht:P.underlying t=some (.slice e)) (hu:P.underlying u=some .string) (hi:P.info? e=some i) (hz:i.zero=some (.int .u8 0))
  (hsize:i.size=1) (hby:i.bytes=1)
  (v:Value) (n:Nat) (xs:List Value) (hs:a.eval sl=v) (hown:w.ownsRowF base e 1 v n xs) (s:ByteArray) (hx:a.eval x=.string s)
  (h63:n+s.size≤maxLen) (hbytes:n+s.size≤140737488355328) (hbase:base≤w.heap.size)
  (h:∀ v' w',w'.ownsRowF base e 1 v' (n+s.size) (xs++strCells s)→w.grownBy w' v.ownBlock→(v'.ownBlock=v.ownBlock∨∃ g,v'.ownBlock=some g∧w.heap.size≤g)→wpList P ops Q rest (a.put o.dst v') w'):wpList P ops Q (o::rest) a w:=by
 refine wpList_plain hgd fun K hK=>?_
 obtain⟨v',w',hr,h2,h3,h4⟩:=Zdn (P:=P) w base t u o.type e i ht hu hi hz hsize hby v n xs hown s h63 hbytes hbase
 unfold Oper.wp execOp
 simp only[ho,resolve,invoke,builtin,Sem.run_bind,Sem.run_pure,Result.andThen_ok,List.map_toArray,List.map_cons,List.map_nil,hs,hx,hr]
 exact hK _ _ (h v' w' h2 h3 h4)
end
structure Wr (B b:Nat) (v v':Value) (w w':World):Prop where
 aside:Go.Proofs.YtcnjephlmcnodaaDoor.Tx.Aside b v w w'
 fresh:Fresh v v' w
 below:Below B w w'
theorem Wr.refl (B b:Nat) (v:Value) (w:World):Wr B b v v w w:=⟨fun _ _ _ _=>rfl,.inl rfl,Below.refl B w⟩
theorem Wr.trans {B b:Nat} {v v1 v2:Value} {w w1 w2:World} (h:Wr B b v v1 w w1) (h':Wr B b v1 v2 w1 w2):Wr B b v v2 w w2:=by
 have hsz:=h.below.size
 have hn:∀ k,k<w.heap.size→v.ownBlock≠some k→v1.ownBlock≠some k:=by
  intro k hk hv
  rcases h.fresh with q | ⟨g,q,hg⟩
  ·rw[q];exact hv
  ·rw[q]
   intro e
   have:=Option.some.inj e
   omega
 refine⟨fun k hk hb hv=>(h'.aside k (by omega) hb (hn k hk hv)).trans (h.aside k hk hb hv),?_,h.below.trans h'.below⟩
 rcases h'.fresh with q | ⟨g,q,hg⟩
 ·rcases h.fresh with q2 | ⟨g,q2,hg⟩
  ·exact .inl (q.trans q2)
  ·exact .inr ⟨g,q.trans q2,hg⟩
 ·exact .inr ⟨g,q,by omega⟩
theorem Wr.low {B b:Nat} {v:Value} {w w1:World} (h:Below w.heap.size w w1) (hB:B≤w.heap.size):Wr B b v v w w1:=⟨fun k hk _ _=>h.block k hk,.inl rfl,h.mono hB⟩
theorem Wr.size {B b:Nat} {v v':Value} {w w':World} (h:Wr B b v v' w w'):w.heap.size≤w'.heap.size:=h.below.size
def Off (k:Nat) (b:Nat) (v:Value):Prop:=k≠b∧v.ownBlock≠some k
theorem Wr.block {B b:Nat} {v v':Value} {w w':World} (h:Wr B b v v' w w') {k:Nat} {o:Obj} (hk:w.heap[k]?=some o) (ho:Off k b v):w'.heap[k]?=some o∧Off k b v':=by
 have hlt:k<w.heap.size:=(Array.getElem?_eq_some_iff.1 hk).1
 refine⟨(h.aside k hlt ho.1 ho.2).trans hk,ho.1,?_⟩
 rcases h.fresh with q | ⟨g,q,hg⟩
 ·rw[q];exact ho.2
 ·rw[q]
  intro e
  have:=Option.some.inj e
  omega
end

end Go.Proofs.YtcnjephlmcnodaaDoor

namespace Go.Proofs

section
open Go.Shelf
def Tryd.lays240_ren:Go.Shelf.Ren:=⟨fun | 240=>49 | 276=>70 | n=>n,fun | 0=>0 | 4=>4 | 9=>9 | 20=>20 | 70=>45 | 72=>48 | 37=>46 | 164=>98 | n=>n,fun | n=>n⟩
theorem Tryd.lays240:Go.Proofs.Lays.n240 Tryd.prog Tryd.lays240_ren:={
 mixed:=by kernel_rfl
 f240:= Go.fk Tryd.func49
 f276:= Go.fk Tryd.func70
 t0:=Tryd.underlying0
 a0:=Tryd.isAgg0
 z0:=Tryd.sizeOf0
 v0:=Tryd.zeroValue0
 t4:=Tryd.underlying4
 a4:=Tryd.isAgg4
 z4:=Tryd.sizeOf4
 v4:=Tryd.zeroValue4
 t9:=Tryd.underlying9
 a9:=Tryd.isAgg9
 z9:=Tryd.sizeOf9
 v9:=Tryd.zeroValue9
 t20:=Tryd.underlying20
 a20:=Tryd.isAgg20
 z20:=Tryd.sizeOf20
 v20:=Tryd.zeroValue20
 t70:=Tryd.underlying45
 a70:=Tryd.isAgg45
 z70:=Tryd.sizeOf45
 v70:=Tryd.zeroValue45
 t72:=Tryd.underlying48
 a72:=Tryd.isAgg48
 z72:=Tryd.sizeOf48
 v72:=Tryd.zeroValue48
 t164:=Tryd.underlying98
 a164:=Tryd.isAgg98
 z164:=Tryd.sizeOf98
 v164:=Tryd.zeroValue98 }
theorem Tryd.Builder_X72_240:Builder.X72 Tryd.prog Tryd.lays240_ren:={
 sizeBuilder:=by kernel_rfl
 liesBuilder:=by kernel_rfl }
theorem Tryd.copyCheck_used (b:Nat) (w:World) (h0:w.cell? ⟨b,0,none⟩=some (.pointer (some ⟨b,0,none⟩))) :
  Calls Tryd.prog 49 #[.pointer (some ⟨b,0,none⟩)] w fun e w'=>e=.returned (.tuple #[])∧w'=w:=Any.Builder_copyCheck_used Tryd.lays240 Tryd.Builder_X72_240 b w h0
end

end Go.Proofs

namespace Go.Proofs.YtcnjephlmcnodaaDoor

section
open Go.RowKit Go.Proofs.YtcnjephlmcnodaaDoor.Tx
theorem cwU8:(Tryd.prog.info? 5).map (fun i=>(i.zero,i.size,i.bytes))=some (some (.int .u8 0),1,1):=by kernel_rfl
theorem cwBs:(Tryd.prog.info? 48).map (·.size)=some 2:=by kernel_rfl
def LaysB (T:TypeId):Prop:=liesAt Tryd.prog Tryd.prog.depth T (2 / Tryd.prog.cellsOf T) 0 48 1=true∧T≠5
theorem Zcj:LaysB 48:=⟨by kernel_rfl,by decide⟩
theorem Zas {T:TypeId} (hT:LaysB T) (b:Nat) (w:World) (h0:w.cell? ⟨b,0,none⟩=some (.pointer none)) (hsh:w.shape? b=some (T,2)) (hfz:w.frozen? ⟨b,0,none⟩=false) :
  Calls Tryd.prog 49 #[.pointer (some ⟨b,0,none⟩)] w fun e w'=>e=.returned (.tuple #[])∧w'=w.setCell ⟨b,0,none⟩ (.pointer (some ⟨b,0,none⟩)):=by
 obtain⟨j,hj,hjs⟩:=Option.map_eq_some_iff.1 cwBs
 go_enter Tryd.func49,Tryd.ntmps49
 go_wp2
 rw[Lib.run_to_unsafe w ⟨b,0,none⟩ Tryd.underlying45 Tryd.underlying98 hj (by rw[hjs];decide) hsh (Nat.zero_lt_succ 1)]
 simp only[Result.andThen]
 rw[Oper.upon_value]
 go_wp2
 rw[run_callFunc_extern Tryd.func70 (by kernel_rfl) (by kernel_rfl) (by kernel_rfl) (e:=Extern.AbiNoEscape.same) (by kernel_rfl)]
 rw[Lib.run_noEscape]
 simp only[Result.andThen]
 rw[Oper.upon_value]
 go_wp2
 rw[Lib.run_from_unsafe w ⟨b,0,none⟩ Tryd.underlying98 Tryd.underlying45 hj hsh hT.1]
 simp only[Result.andThen]
 rw[Oper.upon_value]
 go_wp2
 go_end0
 exact⟨rfl,rfl⟩
theorem Zar {T:TypeId} (hT:LaysB T) (B b:Nat) (v:Value) (bs:List Value) (w:World) (h:Bld T 5 B b v bs w) :
  Calls Tryd.prog 49 #[.pointer (some ⟨b,0,none⟩)] w fun e w'=>e=.returned (.tuple #[])∧w'.heap[b]?=some (.cells #[.pointer (some ⟨b,0,none⟩),v] T (0,0))∧Bld T 5 B b v bs w'∧Hid (∀ k,k≠b→w'.heap[k]?=w.heap[k]?)∧Below B w w':=by
 have h':=h
 obtain⟨hB,⟨p,hp,hbk⟩,hown,hne⟩:=h
 have hlt:b<w.heap.size:=(Array.getElem?_eq_some_iff.1 hbk).1
 have c0:w.cell? ⟨b,0,none⟩=some p:=by rw[Lib.cell_of_heap hbk];rfl
 have f0:w.frozen? ⟨b,0,none⟩=false:=Lib.frozen_of_heap hbk 0
 rcases hp with rfl | rfl
 ·refine (Zas hT b w c0 (by simp[World.shape?,hbk]) f0).mono ?_
  rintro e w' ⟨rfl,rfl⟩
  have hb':(w.setCell ⟨b,0,none⟩ (.pointer (some ⟨b,0,none⟩))).heap[b]?=some (.cells #[.pointer (some ⟨b,0,none⟩),v] T (0,0)):=by
   simp only[World.setCell,Array.getElem?_modify,hbk]
   simp
  have ho:∀ k,k≠b→(w.setCell ⟨b,0,none⟩ (.pointer (some ⟨b,0,none⟩))).heap[k]?=w.heap[k]?:=fun k hk=>Below.heap_setCell w _ _ k hk
  refine⟨rfl,hb',⟨hB,⟨_,.inr rfl,hb'⟩,?_,hne⟩,ho,(Below.refl B w).setCell (p:=⟨b,0,none⟩) hB _⟩
  refine⟨hown.1,?_⟩
  rcases hown.2 with h | ⟨g,cap,cur,fz,q1,q2,q3,q4⟩
  ·exact .inl h
  ·exact .inr ⟨g,cap,cur,fz,q1,q2,(ho g (fun e=>hne (by rw[q1,e];rfl))).trans q3,q4⟩
 ·refine (Tryd.copyCheck_used b w c0).mono ?_
  rintro e w' ⟨rfl,rfl⟩
  exact⟨rfl,hbk,h',fun _ _=>rfl,Below.refl B _⟩
theorem Zap {T:TypeId} (hT:LaysB T) (B b:Nat) (v:Value) (bs:List Value) (c:Int) (w:World) (h:Bld T 5 B b v bs w) (hlen:bs.length+1≤140737488355328) (hBw:B≤w.heap.size) :
  Calls Tryd.prog 65 #[.pointer (some ⟨b,0,none⟩),.int .u8 c] w fun e w'=>e=.returned .nilIface∧∃ v',Bld T 5 B b v' (bs++[.int .u8 c]) w'∧Wr B b v v' w w':=by
 obtain⟨i0,hi,hz0,hz1,hz2⟩:=info_parts cwU8
 go_enter Tryd.func65,Tryd.ntmps65
 go_wp2_with (go_at_call 49;refine (Zar hT B b v bs _ h).mono ?_)
 rintro e w1 ⟨rfl,hbk,⟨hB,_,hown,hne⟩,ho1,hb1⟩
 have c0:w1.cell? ⟨b,0,none⟩=some (.pointer (some ⟨b,0,none⟩)):=by rw[Lib.cell_of_heap hbk];rfl
 have c1:w1.cell? ⟨b,1,none⟩=some v:=by rw[Lib.cell_of_heap hbk];rfl
 have hlt:b<w1.heap.size:=(Array.getElem?_eq_some_iff.1 hbk).1
 go_wp2_with (at_builtin;refine Zfr _ rfl _ _ 46 rfl B 5 i0 (.int .u8 0) 1 1 Tryd.underlying46 hi hz0 hz1 hz2 rfl (by decide) _ _ _ rfl (hown.alloc _) ⟨w1.heap.size,0,none⟩ 1 1 [.int .u8 c] rfl rfl ?c1 ?c2 ?c3 ?c4 ?c5 ?_)
 case c1 =>
  intro j u hj
  match j,hj with
  | 0,hj=>simp at hj;subst hj;simp[Addr.add]
 case c2=>intro u hu;simp at hu;subst hu;rfl
 case c3=>unfold maxLen;omega
 case c4=>omega
 case c5=>have:=hb1.size;simp;omega
 intro v' w2 hown' hgrow hfr
 have hb2:w2.heap[b]?=some (.cells #[.pointer (some ⟨b,0,none⟩),v] T (0,0)):=by
  rw[hgrow.block b (by simp;omega) (fun e=>hne e.symm),Lib.alloc_old w1 _ b hlt]
  exact hbk
 have d0:w2.cell? ⟨b,0,none⟩=some (.pointer (some ⟨b,0,none⟩)):=by rw[Lib.cell_of_heap hb2];rfl
 have d1:w2.cell? ⟨b,1,none⟩=some v:=by rw[Lib.cell_of_heap hb2];rfl
 have f1:w2.frozen? ⟨b,1,none⟩=false:=Lib.frozen_of_heap hb2 1
 obtain⟨g,cap,rfl⟩:∃ g cap,v'=.slice (some ⟨g,0,none⟩) (bs.length+1) cap:=by
  rcases hown'.2 with ⟨_,h0⟩ | ⟨g,cap,cur,fz,hv,_⟩
  ·omega
  ·exact⟨g,cap,hv⟩
 go_wp2
 go_ret
 refine⟨rfl,_,Bld.put hB (.inr rfl) hb2 (by simpa using hown') hT.2,?_,?_,?_⟩
 ·intro k hk hkb hkv
  rw[Below.heap_setCell w2 _ _ k hkb,hgrow.block k (by have:=hb1.size;simp;omega) (fun e=>hkv e.symm),Lib.alloc_old w1 _ k (by have:=hb1.size;omega)]
  exact ho1.out k hkb
 ·rcases hfr with h | ⟨g',h,h2⟩
  ·exact .inl h
  ·exact .inr ⟨g',h,by have:=hb1.size;omega⟩
 ·exact ((hb1.alloc (by have:=hb1.size;omega) _).grown hgrow (by have:=hb1.size;simp;omega) (fun k hk=>(hown.lt k hk).1)).setCell (p:=⟨b,1,none⟩) hB _
theorem Zaq {T:TypeId} (hT:LaysB T) (B b:Nat) (v:Value) (bs:List Value) (s:List UInt8) (w:World) (h:Bld T 5 B b v bs w) (hlen:bs.length+s.length≤140737488355328) (hBw:B≤w.heap.size) :
  Calls Tryd.prog 19 #[.pointer (some ⟨b,0,none⟩),.string ⟨s.toArray⟩] w fun e w'=>e=.returned (.tuple #[.int .i64 s.length,.nilIface])∧∃ v',Bld T 5 B b v' (bs++Lib.byteCells s) w'∧Wr B b v v' w w':=by
 obtain⟨i0,hi,hz0,hz1,hz2⟩:=info_parts cwU8
 go_enter Tryd.func19,Tryd.ntmps19
 go_wp2_with (go_at_call 49;refine (Zar hT B b v bs _ h).mono ?_)
 rintro e w1 ⟨rfl,hbk,⟨hB,_,hown,hne⟩,ho1,hb1⟩
 have c0:w1.cell? ⟨b,0,none⟩=some (.pointer (some ⟨b,0,none⟩)):=by rw[Lib.cell_of_heap hbk];rfl
 have c1:w1.cell? ⟨b,1,none⟩=some v:=by rw[Lib.cell_of_heap hbk];rfl
 have hlt:b<w1.heap.size:=(Array.getElem?_eq_some_iff.1 hbk).1
 go_wp2_with (at_builtin;refine Zfs _ rfl _ _ 46 9 rfl B 5 i0 Tryd.underlying46 Tryd.underlying9 hi hz0 hz1 hz2 _ _ _ rfl hown ⟨s.toArray⟩ rfl ?c3 ?c4 ?c5 ?_)
 case c3=>unfold maxLen;show bs.length+s.length≤_;omega
 case c4=>show bs.length+s.length≤_;omega
 case c5=>have:=hb1.size;omega
 intro v' w2 hown' hgrow hfr
 have hb2:w2.heap[b]?=some (.cells #[.pointer (some ⟨b,0,none⟩),v] T (0,0)):=by
  rw[hgrow.block b hlt (fun e=>hne e.symm)]
  exact hbk
 have d0:w2.cell? ⟨b,0,none⟩=some (.pointer (some ⟨b,0,none⟩)):=by rw[Lib.cell_of_heap hb2];rfl
 have d1:w2.cell? ⟨b,1,none⟩=some v:=by rw[Lib.cell_of_heap hb2];rfl
 have f1:w2.frozen? ⟨b,1,none⟩=false:=Lib.frozen_of_heap hb2 1
 obtain⟨ao,n',cap,rfl⟩:∃ ao n' cap,v'=.slice ao n' cap:=by
  rcases hown'.2 with ⟨hv,_⟩ | ⟨g,cap,cur,fz,hv,_⟩
  ·exact⟨_,_,_,hv⟩
  ·exact⟨_,_,_,hv⟩
 have hlen2:(bs++Lib.byteCells s).length=bs.length+s.length:=by rw[List.length_append,Lib.byteCells_length]
 go_wp2
 go_ret2
 refine⟨rfl,_,Bld.put hB (.inr rfl) hb2 (by rw[hlen2];exact hown') hT.2,?_,?_,?_⟩
 ·intro k hk hkb hkv
  rw[Below.heap_setCell w2 _ _ k hkb,hgrow.block k (by have:=hb1.size;omega) (fun e=>hkv e.symm)]
  exact ho1.out k hkb
 ·rcases hfr with h | ⟨g',h,h2⟩
  ·exact .inl h
  ·exact .inr ⟨g',h,by have:=hb1.size;omega⟩
 ·exact (hb1.grown hgrow (by have:=hb1.size;omega) (fun k hk=>(hown.lt k hk).1)).setCell (p:=⟨b,1,none⟩) hB _
end

section
open Go.RowKit Go.Proofs.YtcnjephlmcnodaaDoor.Tx
attribute [local go_sem] ByteArray.extract_mk ZcE
theorem ZeJ (s:List UInt8):Lib.hasSuffix s [10]=fdB s:=by
 unfold Lib.hasSuffix fdB
 rw[Bool.eq_iff_iff,List.isSuffixOf_iff_suffix,beq_iff_eq]
 constructor
 ·rintro⟨t,rfl⟩;simp
 ·intro h
  obtain⟨t,rfl⟩:=List.getLast?_eq_some_iff.1 h
  exact⟨t,rfl⟩
theorem ZeC (s:List UInt8):Lib.trimSuffix s [10]=bareT s:=by
 unfold Lib.trimSuffix bareT
 rw[ZeJ,List.dropLast_eq_take]
 rfl
theorem ZdW (l:List UInt8) (w:World) (hl:l.length≤9223372036854775807) :
  Calls Tryd.prog 30 #[.string ⟨l.toArray⟩] w fun e w'=>e=.returned (.tuple #[.string ⟨(bareT l).toArray⟩,.bool (fdB l)])∧w=w':=by
 go_enter Tryd.func30,Tryd.ntmps30
 go_wp2_with fail
 refine (Tryd.strings_CutSuffix ⟨l.toArray⟩ ⟨#[10]⟩ _ hl).mono ?_
 rintro e w1 ⟨rfl,rfl⟩
 go_wp2
 go_ret2
 rw[← ZeC,← ZeJ]
 exact⟨rfl,rfl⟩
def Vsd (w:World) (b:Nat) (RS:List (Nat × Obj)) (T:List UInt8) (u:World):Prop :=
 ∃ v,Bld 48 5 w.heap.size b v (Lib.byteCells T) u∧(∀ x∈RS,u.heap[x.1]?=some x.2∧x.1≠b∧v.ownBlock≠some x.1)∧Below w.heap.size w u
section
variable {w u u':World} {b:Nat} {RS:List (Nat × Obj)} {T:List UInt8}
theorem Vsd.low (h:Vsd w b RS T u):Below w.heap.size w u:=by
 obtain⟨_,_,_,h⟩:=h
 exact h
theorem Vsd.keep (h:Vsd w b RS T u) (hb:Below u.heap.size u u'):Vsd w b RS T u':=by
 obtain⟨v,h1,h2,h3⟩:=h
 refine⟨v,h1.kept hb.block,fun x hx=>?_,h3.trans (hb.mono h3.size)⟩
 obtain⟨q1,q2,q3⟩:=h2 x hx
 exact⟨(hb.block _ (Array.getElem?_eq_some_iff.1 q1).1).trans q1,q2,q3⟩
theorem Vsd.drew (h:Vsd w b RS T u):Vsd w b RS T u.drew:=h.keep (Below.refl _ u).drew
theorem Vsd.alloc (h:Vsd w b RS T u) (o:Obj):Vsd w b RS T (u.alloc o):=h.keep ((Below.refl _ u).alloc (Nat.le_refl _) o)
theorem Vsd.block (h:Vsd w b RS T u) {k:Nat} {o:Obj} (hk:(k,o)∈RS):u.heap[k]?=some o:=by
 obtain⟨_,_,h,_⟩:=h
 exact (h _ hk).1
theorem Vsd.cell (h:Vsd w b RS T u) {k:Nat} {C:Array Value} {t:TypeId} {fz:Nat × Nat} (hk:(k,.cells C t fz)∈RS) (j:Nat):u.cell? ⟨k,j,none⟩=C[j]?:=by
 rw[Lib.cell_of_heap (h.block hk)]
theorem Vsd.less {x:Nat × Obj} (h:Vsd w b (x::RS) T u):Vsd w b RS T u:=by
 obtain⟨v,h1,h2,h3⟩:=h
 exact⟨v,h1,fun y hy=>h2 y (List.mem_cons_of_mem _ hy),h3⟩
theorem Vsd.more (h:Vsd w b RS T u) (o:Obj):Vsd w b ((u.heap.size,o)::RS) T (u.alloc o):=by
 have h':=h.alloc o
 obtain⟨v,h1,h2,h3⟩:=h
 obtain⟨v',_,_,_⟩:=h'
 have hb:=(Below.refl u.heap.size u).alloc (Nat.le_refl _) o
 have hlt:=h1.lt
 refine⟨v,h1.alloc o,fun x hx=>?_,h3.trans (hb.mono h3.size)⟩
 rcases List.mem_cons.1 hx with rfl | hx
 ·refine⟨heap_alloc_new u o,by show u.heap.size≠b;omega,?_⟩
  intro e
  have:=(h1.2.2.1.lt _ e).2
  omega
 ·obtain⟨q1,q2,q3⟩:=h2 x hx
  exact⟨(hb.block _ (Array.getElem?_eq_some_iff.1 q1).1).trans q1,q2,q3⟩
theorem Vsd.at0 (w:World) {W:World} (hb:Below w.heap.size w W):Vsd w W.heap.size [] [] (W.alloc (.cells #[.pointer none,.slice none 0 0] 48)) :=
 ⟨.slice none 0 0,⟨hb.size,⟨_,.inl rfl,heap_alloc_new W _⟩,World.ownsRowF_nil _ _ _ _,by simp[Value.ownBlock]⟩,fun x hx=>(by cases hx),hb.alloc hb.size _⟩
theorem Vsd.str {s Z:List UInt8} (h:Vsd w b RS T u) (hZ:T++s=Z) (hl:Z.length≤70368744177664) :
  Calls Tryd.prog 19 #[.pointer (some ⟨b,0,none⟩),.string ⟨s.toArray⟩] u fun e u'=>(∃ z,e=.returned (.tuple #[z,.nilIface]))∧Vsd w b RS Z u':=by
 obtain⟨v,h1,h2,h3⟩:=h
 have hll:T.length+s.length≤70368744177664:=by rw[← hZ,List.length_append] at hl;exact hl
 have hbc:∀ l:List UInt8,(Lib.byteCells l).length=l.length:=fun l=>by simp[Lib.byteCells]
 refine (Zaq Zcj w.heap.size b v _ s u h1 (by rw[hbc];omega) h3.size).mono ?_
 rintro e u' ⟨rfl,v',q,hw⟩
 refine⟨⟨_,rfl⟩,v',by rw[← hZ,Lib.byteCells_append];exact q,fun x hx=>?_,h3.trans hw.below⟩
 obtain⟨q1,q2,q3⟩:=h2 x hx
 have:=hw.block q1 ⟨q2,q3⟩
 exact⟨this.1,this.2⟩
theorem Vsd.text (h:Vsd w b RS T u) :
  Calls Tryd.prog 24 #[.pointer (some ⟨b,0,none⟩)] u fun e u'=>e=.returned (.string ⟨T.toArray⟩)∧Below w.heap.size w u':=by
 obtain⟨v,h1,h2,h3⟩:=h
 refine (Tryd.Builder_String_any_k w.heap.size b T u h1.isF h3.size).mono ?_
 rintro e u' ⟨rfl,_,hb,_⟩
 exact⟨rfl,h3.trans hb⟩
end
theorem Vsd.at1 (w:World) {W:World} (hb:Below w.heap.size w W) {k:Nat} {o:Obj} (hk:W.heap[k]?=some o):Vsd w W.heap.size [(k,o)] [] (W.alloc (.cells #[.pointer none,.slice none 0 0] 48)):=by
 have hlt:=(Array.getElem?_eq_some_iff.1 hk).1
 refine⟨.slice none 0 0,⟨hb.size,⟨_,.inl rfl,heap_alloc_new W _⟩,World.ownsRowF_nil _ _ _ _,by simp[Value.ownBlock]⟩,fun x hx=>?_,hb.alloc hb.size _⟩
 rw[List.mem_singleton.1 hx]
 refine⟨?_,by show k≠_;omega,by simp[Value.ownBlock]⟩
 show (W.alloc _).heap[k]?=some o
 rw[Below.heap_alloc W _ k hlt]
 exact hk
end

section
open Go.RowKit Go.Proofs.YtcnjephlmcnodaaDoor.Tx
attribute [local go_sem] ZcE
end

section
open Ln Go.RowKit
attribute [local go_sem] ZcE ByteArray.extract_mk
theorem Zdr (ws:List (List UInt8)) (a:List UInt8):scells (ws++[a])=scells ws++[.string ⟨a.toArray⟩]:=by simp[scells]
theorem ZdC (a:ByteArray):∀ u∈[Value.string a],u.oneCell'=true:=by intro u hu;simp at hu;subst hu;rfl
theorem ZdB (w:World) (C:List Value) (t:TypeId):∀ j u,C[j]?=some u→(w.alloc (.cells C.toArray t)).cell? ((⟨w.heap.size,0,none⟩:Addr).add j)=some u:=by
 intro j u hj
 have hadd:(⟨w.heap.size,0,none⟩:Addr).add j=⟨w.heap.size,j,none⟩:=by unfold Addr.add;split<;>simp_all
 rw[hadd,cell_of_row _ w.heap.size j C.toArray t (0,0) (_root_.Go.heap_alloc_new w _)]
 simpa using hj
def sizeT:Value→Nat
 | .string s=>s.size
 | _=>0
theorem sizeT_mk (r:List UInt8):sizeT (.string ⟨r.toArray⟩)=r.length:=rfl
theorem Zad {acc:List (List UInt8)} {r l:List UInt8} (h:acc++splitL r=splitL l):acc.length≤l.length:=by
 have h1:=congrArg List.length h
 have h2:=split_len l
 rw[List.length_append] at h1
 omega
theorem ZcA (l:List UInt8) (w:World) (hl:l.length≤1099511627776) :
  Calls Tryd.prog 12 #[.string ⟨l.toArray⟩] w fun e w'=>∃ v,e=.returned v∧w'.ownsRow w.heap.size 9 1 v (splitL l).length (scells (splitL l))∧Below w.heap.size w w':=by
 obtain⟨i0,hi,hz0,hz1,hz2⟩:=info_parts infoStr
 go_enter Tryd.func12,Tryd.ntmps12
 go_wp2
 go_loopw [0,3,4] (fun s acc _ wr=>∃ (xs:List (List UInt8)) (r:List UInt8),s=.string ⟨r.toArray⟩∧wr.ownsRow w.heap.size 9 1 acc xs.length (scells xs)∧Below w.heap.size w wr∧r.length≤l.length∧xs++splitL r=splitL l) (fun s _ _ _=>sizeT s)
 case atStart=>exact⟨[],l,rfl,World.ownsRow_nil _ _ _ _,Below.refl _ _,Nat.le_refl _,rfl⟩
 case round =>
  obtain⟨acc,r,rfl,hown,hbr,hrl,hw⟩:=hrel
  have hacc:=Zad hw
  have HW:Hid (acc++splitL r=splitL l):=hw
  clear hw
  have hbz:=hbr.size
  obtain⟨ao,cap,rfl⟩:=(ZbG hown).form
  rcases Int.lt_or_le (Lib.indexByte r 10) 0 with hq | hq
  ·obtain⟨q1,q2⟩:=ZbS hq
   clear hq
   cases r with
   | nil =>
    have HE:Hid (splitL l=acc):=by have:=HW.out;show _=_;simpa [splitL] using this.symm
    go_wp2_with fail
    refine (Tryd.strings_Index_one ⟨([]:List UInt8).toArray⟩ 10 _).mono ?_
    rintro e w1 ⟨rfl,rfl⟩
    go_wp2
    go_ret
    rw[HE.out]
    exact⟨_,rfl,hown,hbr⟩
   | cons c t =>
    have HE:Hid (splitL l=acc++[c::t]):=by
     have:=HW.out
     rw[ZdE _ q2 (by simp)] at this
     exact this.symm
    clear q2
    go_wp2_with fail
    refine (Tryd.strings_Index_one ⟨(c::t).toArray⟩ 10 _).mono ?_
    rintro e w1 ⟨rfl,rfl⟩
    have hi2:Lib.indexByte (⟨(c::t).toArray⟩:ByteArray).data.toList 10=-1:=q1
    rw[hi2]
    go_wp2_with (at_builtin;refine wpList_append_own _ rfl _ _ 23 rfl w.heap.size 9 i0 (.string ⟨#[]⟩) 1 16 Tryd.underlying23 hi hz0 hz1 hz2 rfl (by decide) _ _ _ rfl (hown.alloc _) ⟨w1.heap.size,0,none⟩ 1 1 [.string ⟨(c::t).toArray⟩] rfl rfl (ZdB _ _ _) (ZdC _) ?c3 ?c4 ?c5 ?_)
    case c3=>unfold maxLen;omega
    case c4=>omega
    case c5=>simp;omega
    intro v' w3 hown3 hgrow hfr
    have hbr3:=(hbr.alloc hbz (.cells #[.string ⟨(c::t).toArray⟩] 9)).grown hgrow (by simp;omega) (fun j hj=>(hown.lt j hj).1)
    go_wp2
    go_ret
    rw[HE.out,Zdr]
    exact⟨_,rfl,by simpa using hown3,hbr3⟩
  ·obtain⟨a,b,rfl,hn,he⟩:=ZbT hq
   have HE:Hid (acc++[a++[10]]++splitL b=splitL l):=by
    have:=HW.out
    rw[ZdD a b hn] at this
    show _=_
    simpa using this
   clear hn hq
   have hlen:(a++10::b).length=a.length+1+b.length:=by simp;omega
   have ht:(a++10::b).take (a.length+1)=a++[10]:=by
    rw[show a++10::b=(a++[10])++b by simp,List.take_left' (by simp)]
   have hd:(a++10::b).drop (a.length+1)=b:=by
    rw[show a++10::b=(a++[10])++b by simp,List.drop_left' (by simp)]
   generalize a++10::b=r at *
   have i1:0≤(a.length:Int)+1:=by omega
   have i2:(a.length:Int)+1≤(r.length:Int):=by omega
   have i3:((a.length:Int)+1).toNat=a.length+1:=by omega
   go_wp2_with fail
   refine (Tryd.strings_Index_one ⟨r.toArray⟩ 10 _).mono ?_
   rintro e w1 ⟨rfl,rfl⟩
   have hi2:Lib.indexByte (⟨r.toArray⟩:ByteArray).data.toList 10=a.length:=he
   rw[hi2]
   go_wp2_with (at_builtin;refine wpList_append_own _ rfl _ _ 23 rfl w.heap.size 9 i0 (.string ⟨#[]⟩) 1 16 Tryd.underlying23 hi hz0 hz1 hz2 rfl (by decide) _ _ _ rfl (hown.alloc _) ⟨w1.heap.size,0,none⟩ 1 1 [.string ⟨(a++[10]).toArray⟩] rfl rfl (ZdB _ _ _) (ZdC _) ?c3 ?c4 ?c5 ?_)
   case c3=>unfold maxLen;omega
   case c4=>omega
   case c5=>simp;omega
   intro v' w3 hown3 hgrow hfr
   have hbr3:=(hbr.alloc hbz (.cells #[.string ⟨(a++[10]).toArray⟩] 9)).grown hgrow (by simp;omega) (fun j hj=>(hown.lt j hj).1)
   go_wp2
   go_roundw
   case rel=>exact⟨acc++[a++[10]],b,rfl,by rw[Zdr];simpa using hown3,hbr3,by omega,HE.out⟩
   case measure=>rw[sizeT_mk,sizeT_mk];omega
end

section
open Go.RowKit Go.Proofs.YtcnjephlmcnodaaDoor.Tx
attribute [local go_sem] ZcE
def Vbx (u:World) (F:Nat) (a z:Int):Prop:=u.heap[F]?=some (.cells #[.int .i64 a,.int .i64 z] 33 (0,0))
theorem Vbx.cells {u:World} {F:Nat} {a z:Int} (h:Vbx u F a z):u.cell? ⟨F,0,none⟩=some (.int .i64 a)∧u.cell? ⟨F,1,none⟩=some (.int .i64 z):=by
 unfold Vbx at h
 exact⟨by rw[Lib.cell_of_heap h];rfl,by rw[Lib.cell_of_heap h];rfl⟩
theorem Vbx.frozen {u:World} {F:Nat} {a z:Int} (h:Vbx u F a z) (j:Nat):u.frozen? ⟨F,j,none⟩=false:=by
 unfold Vbx at h
 simp[World.frozen?,h]
theorem Vbx.put {u:World} {F:Nat} {a z:Int} (h:Vbx u F a z) (a' z':Int):Vbx ((u.setCell ⟨F,0,none⟩ (.int .i64 a')).setCell ⟨F,1,none⟩ (.int .i64 z')) F a' z' :=
 heap_setCell_same _ F 1 _ _ _ (heap_setCell_same u F 0 _ _ _ h)
theorem ZeM {s:List UInt8} {L:List (List UInt8)} (h:s∈L):s.length≤L.flatten.length:=by
 induction L with
 | nil=>cases h
 | cons x r ih =>
  rw[List.flatten_cons,List.length_append]
  rcases List.mem_cons.1 h with rfl | h
  ·omega
  ·have:=ih h;omega
end

section
open Go.RowKit Go.Proofs.YtcnjephlmcnodaaDoor.Tx
attribute [local go_sem] ZcE
attribute [local simp] ZdF Zcu ZaV
def ifE (l:List Ch) (n m:Int) (nm:List UInt8):Int:=if chk l n m≠0 then chk l n m else if cnB nm=true then 0 else 253
theorem ZeL (A:List (List UInt8)) (a:Int):cut A a 0=[]:=by simp[cut]
theorem Zbh {A:List (List UInt8)} {p n:Int} (h0:0≤p) (h1:0<n) (h2:p+n≤A.length):cut A p n≠[]:=by
 intro h
 have:=congrArg List.length h
 unfold cut at this
 rw[List.length_take,List.length_drop,List.length_nil] at this
 omega
theorem ZbN {nm:List UInt8} {o:List (List UInt8)} (h:o≠[]):ifC nm o []=cmT nm 2::(wlL o++[cmT nm 5]):=by
 unfold ifC
 rw[if_neg (fun q=>h q.1),if_pos rfl]
theorem ZbO {nm:List UInt8} {w:List (List UInt8)} (h:w≠[]):ifC nm [] w=cmT nm 1::(wlL w++[cmT nm 4]):=by
 unfold ifC
 rw[if_neg (fun q=>h q.2),if_neg h,if_pos rfl]
theorem ZbM {nm:List UInt8} {o w:List (List UInt8)} (h:o≠[]) (h2:w≠[]):ifC nm o w=cmT nm 2::(wlL o++cmT nm 3::(wlL w++[cmT nm 4])):=by
 unfold ifC
 rw[if_neg (fun q=>h q.1),if_neg h2,if_neg h]
theorem ZeK {A:List (List UInt8)} {p n:Int} {s:List UInt8} (h:s∈cut A p n):s∈A:=List.mem_of_mem_drop (List.mem_of_mem_take h)
theorem Zbg {A:List (List UInt8)} {p n:Int}:(cut A p n).length≤A.length:=by
 unfold cut
 rw[List.length_take,List.length_drop]
 omega
end

end Go.Proofs.YtcnjephlmcnodaaDoor
