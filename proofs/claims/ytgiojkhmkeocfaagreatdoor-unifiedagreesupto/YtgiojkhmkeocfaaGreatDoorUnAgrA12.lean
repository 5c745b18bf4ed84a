/-
  Texts that belong together, joined: CqB, CqU, CpA, CpB, CpC, CpD, CpE, CwA, CwB.
-/
import Derived.Test.YtgiojkhmkeocfaaGreatDoorUnAgrA11
import Derived.Deep.QuietTactic
import Derived.WalkLawsBesides
import Derived.Deep.DeepCutAuto
import Derived.Deep.CutBlock
import Derived.Lib.FrozenHead2
import Derived.Test.YtgiojkhmkeocfaaGreatDoorProg
import Derived.Shelf.Strings.Builder1
import Derived.WalkKit
import Derived.WalkSpells
import Derived.BigQuiet

set_option maxHeartbeats 16000000
set_option maxRecDepth 100000
namespace Go.Proofs.YtgiojkhmkeocfaaGreatDoor

section
open Q Go.RowKit Go.Proofs.YtgiojkhmkeocfaaGreatDoor.Tx
attribute [local go_sem] Zvv ZvB
theorem ZiF (x:UInt8):Lib.indexByte [48,49,50,51,52,53,54,55,56,57,97,98,99,100,101,102] x=digitI x.toNat:=by
 have key:∀ i:Fin 256,Lib.indexByte [48,49,50,51,52,53,54,55,56,57,97,98,99,100,101,102] (UInt8.ofNat i.val)=digitI (i.val:Int):=by decide +kernel
 have:=key ⟨x.toNat,x.toNat_lt⟩
 simpa using this
theorem Zam (x:UInt8) (w:World) :
  Calls Tryz.prog 272 #[.string ⟨#[48,49,50,51,52,53,54,55,56,57,97,98,99,100,101,102]⟩,.int .u8 (x.toNat:Int)] w fun e w'=>e=.returned (.int .i64 (digitI x.toNat))∧w'=w:=by
 have h:=Tryz.strings_IndexByte ⟨#[48,49,50,51,52,53,54,55,56,57,97,98,99,100,101,102]⟩ (x.toNat:Int) w
 refine h.mono ?_
 rintro e w' ⟨rfl,rfl⟩
 have e:((x.toNat:Int).toNat).toUInt8=x:=by simp
 rw[e,← ZiF]
 exact⟨rfl,rfl⟩
theorem Znv (x y:Int) (h0:0≤x) (h1:x≤15) (h2:0≤y) (h3:y≤15):bits BinOp.or IntKind.i64 (x * 16) y % 256=16 * x+y:=by
 have key:∀ i j:Fin 16,bits BinOp.or IntKind.i64 ((i.val:Int) * 16) (j.val:Int) % 256=16 * (i.val:Int)+(j.val:Int):=by decide +kernel
 have:=key ⟨x.toNat,by omega⟩ ⟨y.toNat,by omega⟩
 simp only[Int.toNat_of_nonneg h0,Int.toNat_of_nonneg h2] at this
 exact this
theorem Zpi (a b:UInt8) (t:List UInt8) (w:World) :
  Calls Tryz.prog 246 #[.string ⟨((92:UInt8)::a::b::t).toArray⟩] w fun e w'=>e=.returned (.tuple #[.int .u8 (pv a b),.int .i64 (pn a b)])∧∃ n,w'=w.drewN n:=by
 have hp:plainI 92=false:=by decide
 obtain⟨ha,ha'⟩:=Zfg a.toNat
 obtain⟨hb,hb'⟩:=Zfg b.toNat
 go_enter Tryz.func246,Tryz.ntmps246
 go_wp2_with fail
 refine (ZiY _ _).mono ?_
 rintro e w' ⟨rfl,rfl⟩
 go_wp2_with fail
 go_quiet ((go_at_call 272;exact Calls.quiet_of_same (Zam _ _)))
 by_cases h1:digitI a.toNat<0
 ·go_wp2
  go_ret2
  exact⟨ZpE (ZoZ (ZnT h1)) (ZoI (ZnT h1)),_,rfl⟩
 ·by_cases h2:digitI b.toNat<0
  ·go_wp2
   go_ret2
   exact⟨ZpE (ZoZ (ZnS h2)) (ZoI (ZnS h2)),_,rfl⟩
  ·go_wp2_with fail
   rw[Znv _ _ (by omega) ha' (by omega) hb']
   refine (ZiY _ _).mono ?_
   rintro e w' ⟨rfl,rfl⟩
   have hm:=ZnU (a:=a) (b:=b) (by omega) (by omega)
   have HM:Hid (pairOk a b=!plainI (16 * digitI a.toNat+digitI b.toNat)):=hm
   clear hm
   cases hpl:plainI (16 * digitI a.toNat+digitI b.toNat)
   ·go_wp2
    go_ret2
    have hk:pairOk a b=true:=by rw[HM.out,hpl];rfl
    exact⟨ZpE (Zpa hk) (ZoJ hk),_,rfl⟩
   ·go_wp2
    go_ret2
    have hk:pairOk a b=false:=by rw[HM.out,hpl];rfl
    exact⟨ZpE (ZoZ hk) (ZoI hk),_,rfl⟩
theorem Zph (c:UInt8) (t:List UInt8) (w:World) (h:plainI c.toNat=true) :
  Calls Tryz.prog 246 #[.string ⟨(c::t).toArray⟩] w fun e w'=>e=.returned (.tuple #[.int .u8 (c.toNat:Int),.int .i64 1])∧∃ n,w'=w.drewN n:=by
 go_enter Tryz.func246,Tryz.ntmps246
 go_wp2_with fail
 refine (ZiY _ _).mono ?_
 rintro e w' ⟨rfl,rfl⟩
 go_wp2
 go_ret2
 exact⟨rfl,0,rfl⟩
theorem Zpg (c:UInt8) (t:List UInt8) (w:World) (h:plainI c.toNat=false) (h2:¬ (c.toNat=92∧2≤t.length)) :
  Calls Tryz.prog 246 #[.string ⟨(c::t).toArray⟩] w fun e w'=>e=.returned (.tuple #[.int .u8 0,.int .i64 0])∧∃ n,w'=w.drewN n:=by
 by_cases h3:c.toNat=92
 ·have hb:((c.toNat:Int) != 92)=false:=by simp;omega
  have hl:((t.length:Int)+1<3):=by omega
  clear h2
  go_enter Tryz.func246,Tryz.ntmps246
  go_wp2_with fail
  refine (ZiY _ _).mono ?_
  rintro e w' ⟨rfl,rfl⟩
  go_wp2
  go_ret2
  exact⟨rfl,0,rfl⟩
 ·have hb:((c.toNat:Int) != 92)=true:=by simp;omega
  clear h2
  go_enter Tryz.func246,Tryz.ntmps246
  go_wp2_with fail
  refine (ZiY _ _).mono ?_
  rintro e w' ⟨rfl,rfl⟩
  go_wp2
  go_ret2
  exact⟨rfl,0,rfl⟩
end

section
open Q Go.RowKit Go.Proofs.YtgiojkhmkeocfaaGreatDoor.Tx
attribute [local go_sem] Zvv ByteArray.extract_mk
def sizeS:Value→Nat
 | .string s=>s.data.size
 | _=>0
theorem ZpF {l a b:List UInt8} {n:Int} (h:uqa l=a∧uqb l=b∧uqe l=n):Ending.returned (.tuple #[.string ⟨a.toArray⟩,.string ⟨b.toArray⟩,.int .i64 n])=.returned (.tuple #[.string ⟨(uqa l).toArray⟩,.string ⟨(uqb l).toArray⟩,.int .i64 (uqe l)]):=by
 rw[h.1,h.2.1,h.2.2]
theorem Zaz (l:List UInt8) (w:World) (hl:l.length≤1099511627776) :
  Calls Tryz.prog 202 #[.string ⟨((34:UInt8)::l).toArray⟩] w fun e w'=>e=.returned (.tuple #[.string ⟨(uqa (34::l)).toArray⟩,.string ⟨(uqb (34::l)).toArray⟩,.int .i64 (uqe (34::l))])∧Below w.heap.size w w':=by
 have HU:Hid (unquote (34::l)=body l):=by show unquote (34::l)=body l;simp[unquote]
 go_enter Tryz.func202,Tryz.ntmps202
 go_wp2
 go_loopw [6] (fun rest wr=>∃ (r acc:List UInt8) (v:Value),rest=.string ⟨r.toArray⟩∧Bld 77 5 w.heap.size w.heap.size v (Lib.byteCells acc) wr∧Below w.heap.size w wr∧body l=(body r).map (fun p=>(acc++p.1,p.2))∧acc.length+r.length≤l.length) (fun rest _=>sizeS rest)
 case atStart=>exact⟨l,[],_,rfl,Bld.fresh 77 5 w,(Below.refl _ w).alloc (Nat.le_refl _) _,by simp,by simp⟩
 case round =>
  obtain⟨r,acc,v,rfl,hB,hbr,hbody,hal⟩:=hrel
  have HB:Hid (body l=(body r).map (fun p=>(acc++p.1,p.2))):=hbody
  clear hbody
  match r,hal,HB with
  | [],hal,HB =>
   go_wp2
   go_ret3
   exact⟨ZpF (uq_none (by rw[HU.out,HB.out];rfl)),hbr⟩
  | c::t,hal,HB =>
   have hc:=c.toNat_lt
   by_cases h34:c.toNat=34
   ·have hb:((c.toNat:Int) != 34)=false:=by simp;omega
    have HE:Hid (unquote (34::l)=some (acc,t)):=by
     show unquote (34::l)=some (acc,t)
     rw[HU.out,HB.out,Zbt t h34];simp
    clear h34
    have hI:Lib.IsBuilderF 77 5 w.heap.size w.heap.size (Lib.byteCells acc) wr.drew:=hB.isF
    have hsz:w.heap.size≤wr.drew.heap.size:=hbr.size
    go_wp2_with fail
    go_region_with (go_at_call 41;refine (Tryz.Builder_String_any_k w.heap.size w.heap.size acc _ hI hsz).mono ?_;rintro e w4 ⟨rfl,_,hb4,_⟩)
    all_goals
     go_wp2
     go_ret3
     exact⟨ZpF (uq_some HE.out),hbr.drew.trans hb4⟩
   ·have hb:((c.toNat:Int) != 34)=true:=by simp;omega
    cases hpl:plainI c.toNat
    ·by_cases h92:c.toNat=92∧2≤t.length
     ·match t,hal,HB,h92 with
      | a::b::t,hal,HB,⟨h92,_⟩ =>
       obtain rfl:c=92:=UInt8.toNat_inj.1 h92
       cases hk:pairOk a b
       ·have HE:Hid (unquote (34::l)=none):=by
         show unquote (34::l)=none
         rw[HU.out,HB.out,ZbB t h92 hk];rfl
        have h1:pv a b=0:=(ZoZ hk).symm
        have h2:pn a b=0:=(ZoI hk).symm
        go_wp2_with fail
        refine (Zpi a b t _).mono ?_
        rintro e w4 ⟨rfl,nq,rfl⟩
        go_wp2
        go_ret3
        exact⟨ZpF (uq_none HE.out),below_drewN hbr nq⟩
       ·have HE:Hid (body l=(body t).map (fun p=>(acc++[UInt8.ofNat (pairI a b).toNat]++p.1,p.2))):=by
         show body l=_
         rw[HB.out,ZbA t h92 hk];simp[Function.comp_def]
        have h2:pn a b=3:=(ZoJ hk).symm
        have hpb:=ZnR hk
        have HV:Hid (pv a b=((UInt8.ofNat (pairI a b).toNat).toNat:Int)):=by
         show pv a b=_
         rw[← Zpa hk]
         simp only[UInt8.toNat_ofNat']
         omega
        clear hpb
        go_wp2_with fail
        refine (Zpi a b t _).mono ?_
        rintro e w4 ⟨rfl,nq,rfl⟩
        go_wp2_with fail
        rw[HV.out]
        refine (ZaA w.heap.size w.heap.size v _ _ _ (Bld.drewN hB nq) (by rw[Lib.byteCells_length];omega) hbr.size).mono ?_
        rintro e w5 ⟨rfl,v5,hB5,_,_,hb5⟩
        go_wp2
        go_roundw
        case rel=>exact⟨t,acc++[UInt8.ofNat (pairI a b).toNat],v5,rfl,by rw[ZbK];exact hB5,(below_drewN hbr nq).trans hb5,HE.out,by simp at hal ⊢;omega⟩
        case measure=>first | (simp[sizeS];done) | (simp[sizeS];omega)
     ·have HE:Hid (unquote (34::l)=none):=by
       show unquote (34::l)=none
       rw[HU.out,HB.out,Zby t h34 hpl h92];rfl
      go_wp2_with fail
      refine (Zpg c t _ hpl h92).mono ?_
      rintro e w4 ⟨rfl,nq,rfl⟩
      go_wp2
      go_ret3
      exact⟨ZpF (uq_none HE.out),below_drewN hbr nq⟩
    ·have HE:Hid (body l=(body t).map (fun p=>(acc++[c]++p.1,p.2))):=by
      show body l=_
      rw[HB.out,ZbC t hpl];simp[Function.comp_def]
     go_wp2_with fail
     refine (Zph c t _ hpl).mono ?_
     rintro e w4 ⟨rfl,nq,rfl⟩
     go_wp2_with fail
     refine (ZaA w.heap.size w.heap.size v _ _ _ (Bld.drewN hB nq) (by rw[Lib.byteCells_length];simp at hal;omega) hbr.size).mono ?_
     rintro e w5 ⟨rfl,v5,hB5,_,_,hb5⟩
     go_wp2
     go_roundw
     case rel=>exact⟨t,acc++[c],v5,rfl,by rw[ZbK];exact hB5,(below_drewN hbr nq).trans hb5,HE.out,by simp at hal ⊢;omega⟩
     case measure=>first | (simp[sizeS];done) | (simp[sizeS];omega)
theorem Zay (l:List UInt8) (w:World) (hl:l.length≤1099511627776) :
  Calls Tryz.prog 202 #[.string ⟨l.toArray⟩] w fun e w'=>e=.returned (.tuple #[.string ⟨(uqa l).toArray⟩,.string ⟨(uqb l).toArray⟩,.int .i64 (uqe l)])∧Below w.heap.size w w':=by
 match l,hl with
 | [],_ =>
  go_enter Tryz.func202,Tryz.ntmps202
  go_wp2
  go_ret3
  exact⟨ZpF (uq_none rfl),Below.refl _ _⟩
 | c::t,hl =>
  by_cases h:c.toNat=34
  ·obtain rfl:c=34:=UInt8.toNat_inj.1 h
   exact Zaz t w (by simp at hl;omega)
  ·have hb:((c.toNat:Int) != 34)=true:=by simp;omega
   have HU:Hid (unquote (c::t)=none):=by show unquote (c::t)=none;simp[unquote,h]
   clear h
   go_enter Tryz.func202,Tryz.ntmps202
   go_wp2
   go_ret3
   exact⟨ZpF (uq_none HU.out),Below.refl _ _⟩
end

section
open Go.RowKit
attribute [local go_sem] ByteArray.extract_mk ZvA
def ckO (vL:Value) (p:Int):Obj:=.cells #[vL,.int .i64 p] 105
def Ck (u:World) (R:Nat) (vL:Value) (p:Int):Prop:=u.heap[R]?=some (ckO vL p)
section
variable {u u':World} {R:Nat} {vL:Value} {p:Int}
theorem Ck.cells (q:Ck u R vL p):u.cell? ⟨R,0,none⟩=some vL∧u.cell? ⟨R,1,none⟩=some (.int .i64 p):=by
 unfold Ck ckO at q
 refine⟨?_,?_⟩<;>rw[Lib.cell_of_heap q]<;>rfl
theorem Ck.frozen (q:Ck u R vL p) (j:Nat):u.frozen? ⟨R,j,none⟩=false:=Lib.frozen_of_heap q j
theorem Ck.lt (q:Ck u R vL p):R<u.heap.size:=(Array.getElem?_eq_some_iff.1 q).1
theorem Ck.dN (q:Ck u R vL p) (n:Nat):Ck (u.drewN n) R vL p:=q
theorem Ck.at (q:Ck u R vL p) (p':Int):Ck (u.setCell ⟨R,1,none⟩ (.int .i64 p')) R vL p':=heap_setCell_same u R 1 _ _ (.int .i64 p') q
theorem Ck.low (q:Ck u R vL p) (hg:Below u.heap.size u u'):Ck u' R vL p:=(hg.block R q.lt).trans q
theorem Ck.keep (q:Ck u R vL p) {g:Option Nat} (hg:u.grownBy u' g) (hr:some R≠g):Ck u' R vL p:=(hg.block R q.lt hr).trans q
end
theorem Zen (a z:Int) (w:World) :
  Calls Tryz.prog 148 #[.int .i64 a,.int .i64 z] w fun x w'=>Thr a z x w'∧Below w.heap.size w w':=by
 have HQ:Hid ((w.alloc (fltO a z)).heap[w.heap.size]?=some (fltO a z)∧Below w.heap.size w (w.alloc (fltO a z))):=⟨heap_alloc_new w _,(Below.refl _ w).alloc (Nat.le_refl _) _⟩
 go_enter Tryz.func148,Tryz.ntmps148
 go_wp2
 exact⟨rfl,⟨_,rfl,HQ.out.1⟩,HQ.out.2⟩
theorem ZdY {R:Nat} {vL:Value} {p:Nat} (z:Int) (w:World) (q:Ck w R vL (p:Int)) (hp:p≤4398046511104) :
  Calls Tryz.prog 94 #[.pointer (some ⟨R,0,none⟩),.int .i64 z] w fun x w'=>Thr ((p:Int)+1) z x w'∧w.grownBy w' (some R):=by
 obtain⟨c0,c1⟩:=q.cells
 clear q
 go_enter Tryz.func94,Tryz.ntmps94
 go_wp2_with fail
 refine (Zen ((p:Int)+1) z w).mono ?_
 rintro x w1 ⟨⟨g,rfl,hg⟩,hb⟩
 go_wp2
 exact⟨rfl,⟨_,rfl,hg⟩,ZkI hb _⟩
theorem Zec {R:Nat} {L:List (List UInt8)} {lo:Option Addr} {lc:Nat} {p:Nat} (w:World) (q:Ck w R (.slice lo L.length lc) p) (hL:HS w (.slice lo L.length lc) L) (hp:p≤L.length) (hLl:L.length≤2199023255552) (hs:∀ s∈L,s.length≤1099511627776)
  (X:Except (Nat × Int) (List UInt8 × List (List UInt8))) (HX:Hid (nxt p (L.drop p)=X)) :
  Calls Tryz.prog 203 #[.pointer (some ⟨R,0,none⟩)] w fun x w'=>LnQ R (.slice lo L.length lc) p X w x w':=by
 have hX:=HX.out
 clear HX
 by_cases hlt:p<L.length
 ·rw[Zna hlt] at hX
  obtain⟨bk,off,rfl,hbk,hcl⟩:=HS.at hL (by omega)
  have d4:=hcl p hlt
  have hsl:=hs L[p] (List.getElem_mem _)
  generalize L[p]=s at d4 hsl hX
  clear hcl hs hL
  obtain⟨c0,c1⟩:=q.cells
  have e0:((p:Int) == (L.length:Int))=false:=beq_eq_false_iff_ne.2 (by omega)
  have i1:(0:Int)≤(p:Int):=by omega
  have i2:(p:Int)<(L.length:Int):=by omega
  have i3:(p:Int).toNat=p:=by omega
  cases hf:fdB s with
  | true =>
   rw[if_pos hf] at hX
   subst hX
   have HD:Hid (s.dropLast++[10]=s):=Zfj hf
   clear q
   go_enter Tryz.func203,Tryz.ntmps203
   go_wp2_with fail
   go_quiet (fail)
   go_wp2_with fail
   have c0':(w.drewN nq).cell? ⟨R,0,none⟩=_:=c0
   have c1':(w.drewN nq).cell? ⟨R,1,none⟩=_:=c1
   have d4':(w.drewN nq).cell? ⟨bk,off+p,none⟩=_:=d4
   have HM:Hid (∀ n,∃ k,(w.drewN nq).drewN n=w.drewN k):=fun n=>⟨_,World.drewN_drewN w nq n⟩
   clear c0 c1 d4
   generalize w.drewN nq=W1 at c0' c1' d4' HM ⊢
   have j1:(0:Int)≤(p:Int):=by omega
   have j2:(p:Int)<(L.length:Int):=by omega
   have j3:(p:Int).toNat=p:=by omega
   go_quiet (fail)
   go_wp2_with fail
   refine (Tryz.strings_HasSuffix ⟨s.toArray⟩ ⟨#[10]⟩ _ (by show s.length≤_;omega)).mono ?_
   rintro e w2 ⟨rfl,rfl⟩
   have e1:Lib.hasSuffix (⟨s.toArray⟩:ByteArray).data.toList (⟨#[10]⟩:ByteArray).data.toList=true:=(Zsy s).trans hf
   rw[e1]
   clear e1 hf
   go_wp2
   go_ret
   refine⟨?_,HM.out _⟩
   rw[HD.out]
   rfl
  | false =>
   rw[if_neg (by rw[hf];decide)] at hX
   subst hX
   have q0:=q
   clear q
   go_enter Tryz.func203,Tryz.ntmps203
   go_wp2_with fail
   go_quiet (fail)
   go_wp2_with fail
   have c0':(w.drewN nq).cell? ⟨R,0,none⟩=_:=c0
   have c1':(w.drewN nq).cell? ⟨R,1,none⟩=_:=c1
   have d4':(w.drewN nq).cell? ⟨bk,off+p,none⟩=_:=d4
   have HM:Hid (∀ n,w.grownBy ((w.drewN nq).drewN n) (some R)):=fun n=>Zha (Zha (ZkI (Below.refl _ _) _) nq) n
   have HQ:Hid (∀ n,Ck ((w.drewN nq).drewN n) R (.slice (some ⟨bk,off,none⟩) L.length lc) p):=fun n=>(q0.dN nq).dN n
   clear c0 c1 d4 q0
   generalize w.drewN nq=W1 at c0' c1' d4' HM HQ ⊢
   have j1:(0:Int)≤(p:Int):=by omega
   have j2:(p:Int)<(L.length:Int):=by omega
   have j3:(p:Int).toNat=p:=by omega
   go_quiet (fail)
   go_wp2_with fail
   refine (Tryz.strings_HasSuffix ⟨s.toArray⟩ ⟨#[10]⟩ _ (by show s.length≤_;omega)).mono ?_
   rintro e w2 ⟨rfl,rfl⟩
   have e1:Lib.hasSuffix (⟨s.toArray⟩:ByteArray).data.toList (⟨#[10]⟩:ByteArray).data.toList=false:=(Zsy s).trans hf
   rw[e1]
   clear e1 hf
   go_wp2_with fail
   refine (ZdY 3 _ (HQ.out _) (by omega)).mono ?_
   rintro e w3 ⟨⟨g,rfl,hg⟩,hgr⟩
   go_wp2
   exact⟨rfl,⟨_,rfl,hg⟩,Zhe (HM.out _) hgr⟩
 ·rw[Znb (by omega)] at hX
  subst hX
  obtain⟨c0,c1⟩:=q.cells
  have e0:((p:Int) == (L.length:Int))=true:=beq_iff_eq.2 (by omega)
  have HM:Hid (∀ n,w.grownBy (w.drewN n) (some R)):=fun n=>Zha (ZkI (Below.refl _ _) _) n
  have HQ:Hid (∀ n,Ck (w.drewN n) R (.slice lo L.length lc) p):=fun n=>q.dN n
  clear q hs hL
  go_enter Tryz.func203,Tryz.ntmps203
  go_wp2_with fail
  go_quiet (fail)
  go_wp2_with fail
  refine (ZdY 1 _ (HQ.out _) (by omega)).mono ?_
  rintro e w3 ⟨⟨g,rfl,hg⟩,hgr⟩
  go_wp2
  exact⟨rfl,⟨_,rfl,hg⟩,Zhe (HM.out _) hgr⟩
theorem ZdZ {R g o:Nat} {L:List (List UInt8)} {lo:Option Addr} {lc:Nat} {p:Nat} (w:World) (q:Ck w R (.slice lo L.length lc) p) (hL:HS w (.slice lo L.length lc) L) (hPl:Plain L) (hp:p≤L.length) (hLl:L.length≤2199023255552)
  (t:List UInt8) (ct:w.cell? ⟨g,o+1,none⟩=some (.string ⟨t.toArray⟩)) (HB:Hid ((t != [10] && pkM (L.drop p))=false)) :
  Calls Tryz.prog 208 #[.pointer (some ⟨R,0,none⟩),.pointer (some ⟨g,o,none⟩)] w fun x w'=>x=.returned (.tuple #[])∧∃ n,w'=w.drewN n:=by
 obtain⟨c0,c1⟩:=q.cells
 by_cases ht:t=[10]
 ·subst ht
  clear HB hL q
  go_enter Tryz.func208,Tryz.ntmps208
  go_wp2_with fail
  go_quiet (fail)
  go_wp2
  first
   | go_end0
   | refine bodyPost_ret (results_none rfl _ _ _) rfl ?_
   | refine bodyPost_end (results_none rfl _ _ _) rfl ?_
  exact⟨rfl,_,rfl⟩
 ·have e1:(t == [10])=false:=beq_eq_false_iff_ne.2 ht
  by_cases hlt:p<L.length
  ·have hm:(L[p] == markT)=false:=(by
    have h:=HB.out
    rw[Zon hPl hlt] at h
    have:(t != [10])=true:=bne_iff_ne.2 ht
    rw[this,Bool.true_and] at h
    exact h)
   obtain⟨bk,off,rfl,hbk,hcl⟩:=HS.at hL (by omega)
   have d4:=hcl p hlt
   generalize L[p]=s at d4 hm
   have hm2:(s == [92,32,78,111,32,110,101,119,108,105,110,101,32,97,116,32,101,110,100,32,111,102,32,102,105,108,101,10])=false:=hm
   have hm3:(s != [92,32,78,111,32,110,101,119,108,105,110,101,32,97,116,32,101,110,100,32,111,102,32,102,105,108,101,10])=true:=(by unfold bne;rw[hm2];rfl)
   have e0:((p:Int) == (L.length:Int))=false:=beq_eq_false_iff_ne.2 (by omega)
   clear HB hL q hcl hm hPl
   have i1:(0:Int)≤(p:Int):=by omega
   have i2:(p:Int)<(L.length:Int):=by omega
   have i3:(p:Int).toNat=p:=by omega
   go_enter Tryz.func208,Tryz.ntmps208
   go_wp2_with fail
   go_quiet (fail)
   go_wp2
   first
    | go_end0
    | refine bodyPost_ret (results_none rfl _ _ _) rfl ?_
    | refine bodyPost_end (results_none rfl _ _ _) rfl ?_
   exact⟨rfl,_,rfl⟩
  ·have e0:((p:Int) == (L.length:Int))=true:=beq_iff_eq.2 (by omega)
   clear HB hL q hPl
   go_enter Tryz.func208,Tryz.ntmps208
   go_wp2_with fail
   go_quiet (fail)
   go_wp2
   first
    | go_end0
    | refine bodyPost_ret (results_none rfl _ _ _) rfl ?_
    | refine bodyPost_end (results_none rfl _ _ _) rfl ?_
   exact⟨rfl,_,rfl⟩
theorem Zea {R g o:Nat} {L:List (List UInt8)} {lo:Option Addr} {lc:Nat} {p:Nat} (w:World) (q:Ck w R (.slice lo L.length lc) p) (hL:HS w (.slice lo L.length lc) L) (hPl:Plain L) (hLl:L.length≤2199023255552) (hgR:R≠g)
  (T t:List UInt8) (HTt:Hid (T=t++[10])) (htl:T.length≤1099511627776) (ct:w.cell? ⟨g,o+1,none⟩=some (.string ⟨T.toArray⟩)) (cf:w.frozen? ⟨g,o+1,none⟩=false) (HB:Hid ((T != [10] && pkM (L.drop p))=true)) :
  Calls Tryz.prog 208 #[.pointer (some ⟨R,0,none⟩),.pointer (some ⟨g,o,none⟩)] w fun x w'=>x=.returned (.tuple #[])∧∃ n,w'=((w.drewN n).setCell ⟨g,o+1,none⟩ (.string ⟨t.toArray⟩)).setCell ⟨R,1,none⟩ (.int .i64 ((p:Int)+1)):=by
 obtain⟨c0,c1⟩:=q.cells
 have hb:=HB.out
 rw[Bool.and_eq_true] at hb
 have hlt:p<L.length:=(by
  by_cases h:p<L.length
  ·exact h
  ·have e:L.drop p=[]:=List.drop_eq_nil_of_le (by omega)
   rw[e] at hb
   cases hb.2)
 have e1:(T == [10])=false:=(by
  have:=bne_iff_ne.1 hb.1
  exact beq_eq_false_iff_ne.2 this)
 have hm:L[p]=markT:=(by
  have h:=hb.2
  rw[Zon hPl hlt,beq_iff_eq] at h
  exact h)
 obtain⟨bk,off,rfl,hbk,hcl⟩:=HS.at hL (by omega)
 have d4:=hcl p hlt
 rw[hm] at d4
 have e0:((p:Int) == (L.length:Int))=false:=beq_eq_false_iff_ne.2 (by omega)
 have f1:=q.frozen 1
 have HTS:Hid (Lib.trimSuffix T [10]=t):=(by
  show _=_
  rw[HTt.out]
  unfold Lib.trimSuffix
  rw[Zsy,if_pos (ZfR t)]
  simp)
 unfold markT at d4
 clear HB hL q hcl hm hPl hb
 have i1:(0:Int)≤(p:Int):=by omega
 have i2:(p:Int)<(L.length:Int):=by omega
 have i3:(p:Int).toNat=p:=by omega
 go_enter Tryz.func208,Tryz.ntmps208
 go_wp2_with fail
 go_quiet (fail)
 go_wp2_with fail
 have c1':(w.drewN nq).cell? ⟨R,1,none⟩=_:=c1
 have ct':(w.drewN nq).cell? ⟨g,o+1,none⟩=_:=ct
 have cf':(w.drewN nq).frozen? ⟨g,o+1,none⟩=false:=cf
 have f1':(w.drewN nq).frozen? ⟨R,1,none⟩=false:=f1
 have HM:Hid (∃ k,w.drewN nq=w.drewN k):=⟨_,rfl⟩
 clear c0 c1 d4 ct cf f1
 generalize w.drewN nq=W1 at c1' ct' cf' f1' HM ⊢
 refine (Tryz.strings_TrimSuffix ⟨T.toArray⟩ ⟨#[10]⟩ W1 (by show T.length≤_;omega)).mono ?_
 rintro e w2 ⟨rfl,rfl⟩
 have e2:Lib.trimSuffix (⟨T.toArray⟩:ByteArray).data.toList (⟨#[10]⟩:ByteArray).data.toList=t:=HTS.out
 rw[e2]
 clear e2
 have c1'':(w2.setCell ⟨g,o+1,none⟩ (.string ⟨t.toArray⟩)).cell? ⟨R,1,none⟩=some (.int .i64 (p:Int)):=(by
  have h:=(Zhd w2 g (o+1) (.string ⟨t.toArray⟩)).cell c1' (fun e=>hgR (Option.some.inj e))
  exact h)
 have f1'':(w2.setCell ⟨g,o+1,none⟩ (.string ⟨t.toArray⟩)).frozen? ⟨R,1,none⟩=false:=(by
  unfold World.frozen? at f1' ⊢
  dsimp only at f1' ⊢
  rw[Below.heap_setCell _ _ _ R hgR]
  exact f1')
 go_wp2
 first
  | go_end0
  | refine bodyPost_ret (results_none rfl _ _ _) rfl ?_
  | refine bodyPost_end (results_none rfl _ _ _) rfl ?_
 obtain⟨k,hk⟩:=HM.out
 exact⟨rfl,k,by rw[← hk]⟩
def barP (hd:List UInt8) (p:Nat) (ls:List (List UInt8)):Except (Nat × Int) (List UInt8 × List (List UInt8)) :=
 match nxt p ls with
 | .error e=>.error e
 | .ok (s,r)=>if hd.isPrefixOf s=true then .ok (s.drop hd.length,r) else .error (p+1,3)
def BrQ (R:Nat) (X:Except (Nat × Int) (List UInt8 × List (List UInt8))) (w:World) (x:Ending) (w':World):Prop :=
 match X with
 | .error (a,e)=>Thr (a:Int) e x w'∧w.grownBy w' (some R)
 | .ok (s,_)=>x=.returned (.string ⟨s.toArray⟩)∧∃ n,w'=w.drewN n
theorem ZsU (s:List UInt8):Lib.trimSuffix (s++[10]) [10]=s:=by
 unfold Lib.trimSuffix
 rw[Zsy,if_pos (ZfR s)]
 simp
theorem Zci {R:Nat} {L:List (List UInt8)} {lo:Option Addr} {lc:Nat} {p:Nat} (hd:List UInt8) (w:World) (q:Ck w R (.slice lo L.length lc) p) (hL:HS w (.slice lo L.length lc) L) (hp:p≤L.length) (hLl:L.length≤2199023255552) (hs:∀ s∈L,s.length≤1099511627776)
  (X:Except (Nat × Int) (List UInt8 × List (List UInt8))) (HX:Hid (barP hd p (L.drop p)=X)) :
  Calls Tryz.prog 147 #[.pointer (some ⟨R,0,none⟩),.string ⟨hd.toArray⟩] w fun x w'=>BrQ R X w x w':=by
 obtain⟨Y,hY⟩:∃ Y,nxt p (L.drop p)=Y:=⟨_,rfl⟩
 have hl:=Zec w q hL hp hLl hs Y hY
 have hX:=HX.out
 unfold barP at hX
 rw[hY] at hX
 clear HX
 cases Y with
 | error z =>
  obtain⟨a,e⟩:=z
  dsimp only at hX
  subst hX
  go_enter Tryz.func147,Tryz.ntmps147
  go_wp2_with fail
  refine hl.mono ?_
  rintro x w1 ⟨⟨g,rfl,hg⟩,hgr⟩
  go_wp2
  exact⟨rfl,⟨_,rfl,hg⟩,hgr⟩
 | ok z =>
  obtain⟨s,r⟩:=z
  obtain⟨hr,hpl,_,hLp⟩:=Znf hY
  have hsl:=hs L[p] (List.getElem_mem hpl)
  rw[hLp,List.length_append] at hsl
  dsimp only at hX
  obtain⟨T,hT⟩:∃ T,s++[10]=T:=⟨_,rfl⟩
  have hl2:Calls Tryz.prog 203 #[.pointer (some ⟨R,0,none⟩)] w fun x w'=>x=.returned (.string ⟨T.toArray⟩)∧∃ n,w'=w.drewN n:=(by
   refine hl.mono ?_
   rintro x w' ⟨h1,h2⟩
   rw[hT] at h1
   exact⟨h1,h2⟩)
  have hTl:T.length≤2199023255552:=(by rw[← hT,List.length_append];simp at hsl ⊢;omega)
  have htr:∀ u,Calls Tryz.prog 137 #[.string ⟨T.toArray⟩,.string ⟨#[10]⟩] u fun e w'=>e=.returned (.string ⟨s.toArray⟩)∧w'=u:=(by
   intro u
   refine (Tryz.strings_TrimSuffix ⟨T.toArray⟩ ⟨#[10]⟩ u (by show T.length≤_;omega)).mono ?_
   rintro e w' ⟨rfl,rfl⟩
   have e2:Lib.trimSuffix (⟨T.toArray⟩:ByteArray).data.toList (⟨#[10]⟩:ByteArray).data.toList=s:=(by
    show Lib.trimSuffix T [10]=s
    rw[← hT]
    exact ZsU s)
   rw[e2]
   exact⟨rfl,rfl⟩)
  have hcp:=fun u=>Tryz.strings_CutPrefix ⟨s.toArray⟩ ⟨hd.toArray⟩ u
  have hpf:Lib.hasPrefix (⟨s.toArray⟩:ByteArray).data.toList (⟨hd.toArray⟩:ByteArray).data.toList=hd.isPrefixOf s:=rfl
  rw[hpf] at hcp
  by_cases hpre:hd.isPrefixOf s=true
  ·rw[if_pos hpre] at hX
   subst hX
   have htp:Lib.trimPrefix (⟨s.toArray⟩:ByteArray).data.toList (⟨hd.toArray⟩:ByteArray).data.toList=s.drop hd.length:=(by
    show Lib.trimPrefix s hd=_
    unfold Lib.trimPrefix Lib.hasPrefix
    rw[if_pos hpre])
   rw[htp,hpre] at hcp
   obtain⟨D,hD⟩:∃ D,s.drop hd.length=D:=⟨_,rfl⟩
   rw[hD] at hcp
   have HD:Hid (s.drop hd.length=D):=hD
   clear hpf htp hpre hl hY hLp hsl hr hT hD
   go_enter Tryz.func147,Tryz.ntmps147
   go_wp2_with fail
   refine hl2.mono ?_
   rintro x w1 ⟨rfl,nn,rfl⟩
   go_wp2_with fail
   refine (htr _).mono ?_
   rintro x w2 ⟨rfl,rfl⟩
   go_wp2_with fail
   refine (hcp _).mono ?_
   rintro x w3 ⟨rfl,rfl⟩
   go_wp2
   go_ret
   exact⟨by rw[HD.out];rfl,nn,rfl⟩
  ·rw[if_neg hpre] at hX
   subst hX
   rw[Bool.eq_false_iff.2 hpre] at hcp
   generalize Lib.trimPrefix (⟨s.toArray⟩:ByteArray).data.toList (⟨hd.toArray⟩:ByteArray).data.toList=U2 at hcp
   have q2:=fun nn=>q.dN nn
   clear hpf hpre hl hY hLp hsl hr hT
   go_enter Tryz.func147,Tryz.ntmps147
   go_wp2_with fail
   refine hl2.mono ?_
   rintro x w1 ⟨rfl,nn,rfl⟩
   go_wp2_with fail
   refine (htr _).mono ?_
   rintro x w2 ⟨rfl,rfl⟩
   go_wp2_with fail
   refine (hcp _).mono ?_
   rintro x w3 ⟨rfl,rfl⟩
   go_wp2_with fail
   refine (ZdY 3 _ (q2 nn) (by omega)).mono ?_
   rintro e w3 ⟨⟨g,rfl,hg⟩,hgr⟩
   go_wp2
   exact⟨rfl,⟨_,rfl,by simpa using hg⟩,Zhe (Zha (ZkI (Below.refl w.heap.size w) (some R)) nn) hgr⟩
end

section
open Go.RowKit Go.Proofs.YtgiojkhmkeocfaaGreatDoor.Tx
attribute [local go_sem] ByteArray.extract_mk ZvA
theorem Zbu (n:Nat):∀ (t a b:List UInt8),t.length≤n→Q.body t=some (a,b)→a.length≤t.length:=by
 induction n with
 | zero =>
  intro t a b h hb
  have:t=[]:=List.eq_nil_of_length_eq_zero (by omega)
  subst this
  cases hb
 | succ n ih =>
  intro t a b h hb
  cases t with
  | nil=>cases hb
  | cons c t =>
   simp only[List.length_cons] at h ⊢
   rw[Q.body.eq_def] at hb
   simp only at hb
   split at hb
   ·cases hb;simp
   ·split at hb
    ·obtain⟨p,hp,he⟩:=Option.map_eq_some_iff.1 hb
     cases he
     have:=ih t p.1 p.2 (by omega) hp
     simp only[List.length_cons]
     omega
    ·split at hb
     ·split at hb
      ·rename_i x y t'
       simp only[List.length_cons] at h ⊢
       split at hb
       ·obtain⟨p,hp,he⟩:=Option.map_eq_some_iff.1 hb
        cases he
        have:=ih t' p.1 p.2 (by omega) hp
        simp only[List.length_cons]
        omega
       ·cases hb
      ·cases hb
     ·cases hb
theorem Zuj (s:List UInt8):(Q.uqa s).length≤s.length:=by
 cases hu:Q.unquote s with
 | none=>rw[(Q.uq_none hu).1];simp
 | some p =>
  obtain⟨a,b⟩:=p
  rw[(Q.uq_some hu).1]
  cases s with
  | nil=>cases hu
  | cons c t =>
   simp only[Q.unquote] at hu
   split at hu
   ·have:=Zbu t.length t a b (Nat.le_refl _) hu
    simp only[List.length_cons]
    omega
   ·cases hu
theorem ZhJ (s:List UInt8):Lib.hasPrefix s [34]=(s.head? == some 34):=by
 cases s with
 | nil=>rfl
 | cons c t =>
  show ((34 == c) && true)=(some c == some 34)
  rw[Bool.and_true,Bool.eq_iff_iff,beq_iff_eq,beq_iff_eq,Option.some.injEq]
  exact⟨fun h=>h.symm,fun h=>h.symm⟩
def pnV (r:Bool) (n:List UInt8):Value:=if r=true then .tuple #[.string ⟨n.toArray⟩,.int .i64 0] else .tuple #[.string ⟨#[]⟩,.int .i64 253]
theorem ZdH (s:List UInt8) (w:World) (hl:s.length≤1099511627776) (n:List UInt8) (r:Bool) (HN:Hid (unC s=n)) (HR:Hid (nokC s=r)) :
  Calls Tryz.prog 146 #[.string ⟨s.toArray⟩] w fun e w'=>e=.returned (pnV r n)∧Below w.heap.size w w':=by
 have hnl:n.length≤1099511627776:=(by
  rw[← HN.out]
  unfold unC
  split
  ·simp
  ·split
   ·have:=Zuj s
    omega
   ·exact hl)
 obtain⟨T,hT⟩:∃ T,nameT n=T:=⟨_,rfl⟩
 have hnm:=fun u=>ZdG n u hnl T hT
 have HF:Hid ((decide (n.length≤64) && (T == s))=r):=(by
  have h:=HR.out
  unfold nokC at h
  rw[HN.out,hT] at h
  exact h)
 have hhp:∀ (b:Bool),(s.head? == some 34)=b→∀ u,Calls Tryz.prog 149 #[.string ⟨s.toArray⟩,.string ⟨#[34]⟩] u fun e w'=>e=.returned (.bool b)∧w'=u:=(by
  intro b hb u
  refine (Tryz.strings_HasPrefix ⟨s.toArray⟩ ⟨#[34]⟩ u).mono ?_
  rintro e w' ⟨rfl,rfl⟩
  have e1:Lib.hasPrefix (⟨s.toArray⟩:ByteArray).data.toList (⟨#[34]⟩:ByteArray).data.toList=b:=(ZhJ s).trans hb
  rw[e1]
  exact⟨rfl,rfl⟩)
 have huq:=fun u=>Zay s u hl
 clear hT HR
 go_enter Tryz.func146,Tryz.ntmps146
 go_upto_block 0 with fail
 go_cut [4] (fun nv wz=>nv=.string ⟨n.toArray⟩∧Below w.heap.size w wz)
 case first =>
  by_cases h1:s=devN
  ·have e1:(s == [47,100,101,118,47,110,117,108,108])=true:=(by rw[beq_iff_eq];exact h1)
   have HE:Hid ([]=n):=(by have h:=HN.out;unfold unC at h;rw[if_pos h1] at h;exact h)
   clear h1
   go_wp2
   go_meet
   case rel=>exact⟨by rw[← HE.out],Below.refl _ _⟩
  ·have e1:(s == [47,100,101,118,47,110,117,108,108])=false:=beq_eq_false_iff_ne.2 h1
   by_cases h2:s.head?=some 34
   ·have HE:Hid (Q.uqa s=n):=(by have h:=HN.out;unfold unC at h;rw[if_neg h1,if_pos h2] at h;exact h)
    have hc:=hhp true (beq_iff_eq.2 h2)
    clear h1 h2
    go_wp2_with fail
    refine (hc _).mono ?_
    rintro e w1 ⟨rfl,rfl⟩
    go_wp2_with fail
    refine (huq _).mono ?_
    rintro e w2 ⟨rfl,hB2⟩
    go_wp2
    go_meet
    case rel=>exact⟨by rw[← HE.out],hB2⟩
   ·have HE:Hid (s=n):=(by have h:=HN.out;unfold unC at h;rw[if_neg h1,if_neg h2] at h;exact h)
    have hc:=hhp false (beq_eq_false_iff_ne.2 h2)
    clear h1 h2
    go_wp2_with fail
    refine (hc _).mono ?_
    rintro e w1 ⟨rfl,rfl⟩
    go_wp2
    go_meet
    case rel=>exact⟨by rw[← HE.out],Below.refl _ _⟩
 case rest =>
 obtain⟨rfl,hBc⟩:=hcut
 by_cases h3:n.length≤64
 ·have i1:¬ (64:Int)<(n.length:Int):=by omega
  cases h4:T == s with
  | true =>
   have HE:Hid (true=r):=(by have h:=HF.out;rw[decide_eq_true h3,Bool.true_and,h4] at h;exact h)
   have h5:(T != s)=false:=(by unfold bne;rw[h4];rfl)
   clear HF
   go_wp2_with fail
   refine (hnm _).mono ?_
   rintro e w2 ⟨rfl,hB2⟩
   go_wp2
   go_ret2
   exact⟨by rw[← HE.out];rfl,hBc.trans (hB2.mono hBc.size)⟩
  | false =>
   have HE:Hid (false=r):=(by have h:=HF.out;rw[decide_eq_true h3,Bool.true_and,h4] at h;exact h)
   have h5:(T != s)=true:=(by unfold bne;rw[h4];rfl)
   clear HF
   go_wp2_with fail
   refine (hnm _).mono ?_
   rintro e w2 ⟨rfl,hB2⟩
   go_wp2
   go_ret2
   exact⟨by rw[← HE.out];rfl,hBc.trans (hB2.mono hBc.size)⟩
 ·have HE:Hid (false=r):=(by have h:=HF.out;rw[decide_eq_false h3,Bool.false_and] at h;exact h)
  have i1:(64:Int)<(n.length:Int):=by omega
  clear HF
  go_wp2
  go_ret2
  exact⟨by rw[← HE.out];rfl,hBc⟩
def NmX (R:Nat) (X:Except (Nat × Int) (List UInt8 × List (List UInt8))) (w:World) (x:Ending) (w':World):Prop :=
 match X with
 | .error (a,e)=>Thr (a:Int) e x w'∧w.grownBy w' (some R)
 | .ok (s,_)=>x=.returned (.string ⟨s.toArray⟩)∧Below w.heap.size w w'
theorem ZlZ {hd:List UInt8} (h4:hd.length=4) (p:Nat) (ls:List (List UInt8)):namP hd p ls=match barP hd p ls with
  | .error e=>.error e
  | .ok (s,r)=>if nokC s=true then .ok (unC s,r) else .error (p+1,253):=by
 unfold namP barP
 cases nxt p ls with
 | error e=>rfl
 | ok z =>
  obtain⟨s,r⟩:=z
  dsimp only
  split
  ·rw[h4,Zmg]
   split
   ·rename_i hq
    dsimp only
    split at hq
    ·cases hq
    ·rename_i h2
     rw[if_neg h2]
   ·rename_i nn hq
    dsimp only
    split at hq
    ·rename_i h2
     cases hq
     rw[if_pos h2]
    ·cases hq
  ·rfl
theorem ZdI {R:Nat} {L:List (List UInt8)} {lo:Option Addr} {lc:Nat} {p:Nat} (hd:List UInt8) (h4:hd.length=4) (w:World) (q:Ck w R (.slice lo L.length lc) p) (hL:HS w (.slice lo L.length lc) L) (hp:p≤L.length) (hLl:L.length≤2199023255552) (hs:∀ s∈L,s.length≤1099511627776)
  (X:Except (Nat × Int) (List UInt8 × List (List UInt8))) (HX:Hid (namP hd p (L.drop p)=X)) :
  Calls Tryz.prog 93 #[.pointer (some ⟨R,0,none⟩),.string ⟨hd.toArray⟩] w fun x w'=>NmX R X w x w':=by
 obtain⟨Y,hY⟩:∃ Y,barP hd p (L.drop p)=Y:=⟨_,rfl⟩
 have hl:=Zci hd w q hL hp hLl hs Y hY
 have hX:=HX.out
 rw[ZlZ h4,hY] at hX
 clear HX
 cases Y with
 | error z =>
  obtain⟨a,e⟩:=z
  dsimp only at hX
  subst hX
  go_enter Tryz.func93,Tryz.ntmps93
  go_wp2_with fail
  refine hl.mono ?_
  rintro x w1 ⟨⟨g,rfl,hg⟩,hgr⟩
  go_wp2
  exact⟨rfl,⟨_,rfl,hg⟩,hgr⟩
 | ok z =>
  obtain⟨s,r⟩:=z
  dsimp only at hX
  have hsl:s.length≤1099511627776:=(by
   unfold barP at hY
   cases hn:nxt p (L.drop p) with
   | error e=>rw[hn] at hY;cases hY
   | ok z =>
    obtain⟨s2,r2⟩:=z
    rw[hn] at hY
    dsimp only at hY
    obtain⟨_,hpl,_,hLp⟩:=Znf hn
    have hsl:=hs L[p] (List.getElem_mem hpl)
    rw[hLp,List.length_append] at hsl
    split at hY
    ·cases hY
     rw[List.length_drop]
     omega
    ·cases hY)
  obtain⟨n,hn⟩:∃ n,unC s=n:=⟨_,rfl⟩
  obtain⟨b,hb⟩:∃ b,nokC s=b:=⟨_,rfl⟩
  have hf:=fun u=>ZdH s u hsl n b hn hb
  rw[hn,hb] at hX
  have hl2:Calls Tryz.prog 147 #[.pointer (some ⟨R,0,none⟩),.string ⟨hd.toArray⟩] w fun x w'=>x=.returned (.string ⟨s.toArray⟩)∧∃ n,w'=w.drewN n:=hl
  clear hY hl hn hb
  cases b with
  | true =>
   rw[if_pos rfl] at hX
   subst hX
   have hf2:∀ u,Calls Tryz.prog 146 #[.string ⟨s.toArray⟩] u fun e w'=>e=.returned (.tuple #[.string ⟨n.toArray⟩,.int .i64 0])∧Below u.heap.size u w':=hf
   clear hf
   go_enter Tryz.func93,Tryz.ntmps93
   go_wp2_with fail
   refine hl2.mono ?_
   rintro x w1 ⟨rfl,nn,rfl⟩
   go_wp2_with fail
   refine (hf2 _).mono ?_
   rintro x w2 ⟨rfl,hB2⟩
   go_wp2
   go_ret
   exact⟨rfl,(Below.dN (Below.refl _ w) nn).trans hB2⟩
  | false =>
   rw[if_neg (by decide)] at hX
   subst hX
   have hf2:∀ u,Calls Tryz.prog 146 #[.string ⟨s.toArray⟩] u fun e w'=>e=.returned (.tuple #[.string ⟨#[]⟩,.int .i64 253])∧Below u.heap.size u w':=hf
   clear hf
   have q2:=fun nn=>q.dN nn
   go_enter Tryz.func93,Tryz.ntmps93
   go_wp2_with fail
   refine hl2.mono ?_
   rintro x w1 ⟨rfl,nn,rfl⟩
   go_wp2_with fail
   refine (hf2 _).mono ?_
   rintro x w2 ⟨rfl,hB2⟩
   have q3:=(q2 nn).low hB2
   go_wp2_with fail
   refine (ZdY 253 _ q3 (by omega)).mono ?_
   rintro e w3 ⟨⟨g,rfl,hg⟩,hgr⟩
   go_wp2
   exact⟨rfl,⟨_,rfl,by simpa using hg⟩,Zhe (ZkI ((Below.dN (Below.refl _ w) nn).trans hB2) _) hgr⟩
end

section
open Go.RowKit
attribute [local go_sem] ByteArray.extract_mk ZvA
def NcQ (w:World) (s:List UInt8) (e:Ending) (w':World):Prop:=∃ x n r,e=.returned (.tuple #[.int .i64 x,.int .i64 n,.bool r])∧nmC s=(if r=true then some (x,n) else none)∧Below w.heap.size w w'
theorem ZdO (s:List UInt8) (w:World) (hl:s.length≤1099511627776) :
  Calls Tryz.prog 206 #[.string ⟨s.toArray⟩] w fun e w'=>NcQ w s e w':=by
 have hkl:=Zjh s
 have b1:=@ZoN (kA s)
 have b2:=@ZoN (kB s)
 obtain⟨V1,hV1⟩:∃ V,Pn.parseV (kA s)=V:=⟨_,rfl⟩
 obtain⟨E1,hE1⟩:∃ V,Pn.parseE (kA s)=V:=⟨_,rfl⟩
 obtain⟨V2,hV2⟩:∃ V,Pn.parseV (kB s)=V:=⟨_,rfl⟩
 obtain⟨E2,hE2⟩:∃ V,Pn.parseE (kB s)=V:=⟨_,rfl⟩
 have P1:∀ u:World,Calls Tryz.prog 245 #[.string ⟨(kA s).toArray⟩] u fun e w'=>e=.returned (.tuple #[.int .i64 V1,.int .i64 E1])∧Below u.heap.size u w':=(by
  intro u
  have h:=ZlV (kA s) u (by unfold maxLen;omega)
  rw[hV1,hE1] at h
  exact h)
 have P2:∀ u:World,Calls Tryz.prog 245 #[.string ⟨(kB s).toArray⟩] u fun e w'=>e=.returned (.tuple #[.int .i64 V2,.int .i64 E2])∧Below u.heap.size u w':=(by
  intro u
  have h:=ZlV (kB s) u (by unfold maxLen;omega)
  rw[hV2,hE2] at h
  exact h)
 rw[hV1] at b1
 rw[hV2] at b2
 have HM:Hid (nmC s=if E1=0 then if kS s=true then if E2=0∧0<V1∧V1<V2 then some (V1,V2) else none else some (V1,V1) else none):=(by
  show _=_
  unfold nmC
  rw[hV1,hE1,hV2,hE2])
 have C1:=ZlT s w hl
 obtain⟨ks,hks⟩:∃ k,kS s=k:=⟨_,rfl⟩
 rw[hks] at C1 HM
 clear hV1 hE1 hV2 hE2 hks
 by_cases he1:E1=0
 ·have f1:(E1 != 0)=false:=by simp[he1]
  have f2:(E1 == 0)=true:=by simp[he1]
  cases ks with
  | false =>
   have HN:Hid (nmC s=some (V1,V1)):=(by have h:=HM.out;rw[if_pos he1,if_neg (by decide)] at h;exact h)
   clear HM he1 P2
   go_enter Tryz.func206,Tryz.ntmps206
   go_wp2_with fail
   refine C1.mono ?_
   rintro e w1 ⟨rfl,n,rfl⟩
   go_wp2_with fail
   refine (P1 _).mono ?_
   rintro e w2 ⟨rfl,hb2⟩
   go_wp2
   go_ret3
   exact⟨_,_,_,rfl,HN.out,(Below.dN (Below.refl _ w) n).trans hb2⟩
  | true =>
   have HN:Hid (nmC s=if E2=0∧0<V1∧V1<V2 then some (V1,V2) else none):=(by have h:=HM.out;rw[if_pos he1,if_pos rfl] at h;exact h)
   clear HM he1
   go_enter Tryz.func206,Tryz.ntmps206
   go_wp2_with fail
   refine C1.mono ?_
   rintro e w1 ⟨rfl,n,rfl⟩
   go_wp2_with fail
   refine (P1 _).mono ?_
   rintro e w2 ⟨rfl,hb2⟩
   go_wp2_with fail
   refine (P2 _).mono ?_
   rintro e w3 ⟨rfl,hb3⟩
   have hb23:=(Below.dN (Below.refl _ w) n).trans (hb2.trans (hb3.mono hb2.size))
   by_cases h1:E2=0
   ·have g1:(E2 == 0)=true:=by simp[h1]
    by_cases h2:0<V1
    ·have HN2:Hid (nmC s=if decide (V1<V2)=true then some (V1,V2) else none):=(by
      show _=_
      rw[HN.out]
      simp[h1,h2])
     clear HN h1
     go_wp2
     go_ret3
     exact⟨_,_,_,rfl,HN2.out,hb23⟩
    ·have HN2:Hid (nmC s=none):=(by have h:=HN.out;rw[if_neg (by simp[h2])] at h;exact h)
     clear HN h1
     go_wp2
     go_ret3
     exact⟨_,_,_,rfl,HN2.out,hb23⟩
   ·have g1:(E2 == 0)=false:=by simp[h1]
    have HN2:Hid (nmC s=none):=(by have h:=HN.out;rw[if_neg (by simp[h1])] at h;exact h)
    clear HN h1
    go_wp2
    go_ret3
    exact⟨_,_,_,rfl,HN2.out,hb23⟩
 ·have f1:(E1 != 0)=true:=by simp[he1]
  have f2:(E1 == 0)=false:=by simp[he1]
  have HN:Hid (nmC s=none):=(by have h:=HM.out;rw[if_neg he1] at h;exact h)
  clear HM he1 P2
  go_enter Tryz.func206,Tryz.ntmps206
  go_wp2_with fail
  refine C1.mono ?_
  rintro e w1 ⟨rfl,n,rfl⟩
  go_wp2_with fail
  refine (P1 _).mono ?_
  rintro e w2 ⟨rfl,hb2⟩
  go_wp2
  go_ret3
  exact⟨_,_,_,rfl,HN.out,(Below.dN (Below.refl _ w) n).trans hb2⟩
theorem Zrp (sg a b:UInt8) (t:List UInt8):isSd sg (a::b::t)=(decide (b.toNat=32) && (decide (a.toNat=32) || decide (a.toNat=33) || decide (a.toNat=sg.toNat))):=by
 simp only[isSd]
 rw[Bool.eq_iff_iff]
 simp only[Bool.and_eq_true,Bool.or_eq_true,beq_iff_eq,decide_eq_true_eq,← UInt8.toNat_inj]
 constructor
 ·rintro⟨(h | h) | h,h2⟩<;>exact⟨h2,by simp[h]⟩
 ·rintro⟨h2,(h | h) | h⟩<;>exact⟨by simp[h],h2⟩
theorem Zde (l:List UInt8) (sg:UInt8) (w:World) (hl:l.length≤1099511627776) (r:Bool) (HR:Hid (isSd sg l=r)) :
  Calls Tryz.prog 207 #[.string ⟨l.toArray⟩,.int .u8 (sg.toNat:Int)] w fun e w'=>e=.returned (.bool r)∧w'=w:=by
 match l,hl,HR with
 | [],_,HR =>
  have HE:Hid (false=r):=HR
  go_enter Tryz.func207,Tryz.ntmps207
  go_wp2
  go_ret
  exact⟨by rw[← HE.out];rfl,rfl⟩
 | [a],_,HR =>
  have HE:Hid (false=r):=HR
  go_enter Tryz.func207,Tryz.ntmps207
  go_wp2
  go_ret
  exact⟨by rw[← HE.out];rfl,rfl⟩
 | a::b::t,hl,HR =>
  have HR2:=HR.out
  rw[Zrp] at HR2
  have ha:=a.toNat_lt
  have hb:=b.toNat_lt
  have hs:=sg.toNat_lt
  simp only[List.length_cons] at hl
  have i1:¬ (t.length:Int)+1+1<2:=by omega
  have i2:(1:Int)<(t.length:Int)+1+1:=by omega
  have i3:(0:Int)<(t.length:Int)+1+1:=by omega
  by_cases h1:b.toNat=32
  ·have e1:((b.toNat:Int) != 32)=false:=by simp;omega
   rw[decide_eq_true h1,Bool.true_and] at HR2
   by_cases h2:a.toNat=32
   ·have e2:((a.toNat:Int) == 32)=true:=by simp;omega
    have HE:Hid (true=r):=(by show _=_;rw[← HR2,decide_eq_true h2];rfl)
    clear HR HR2 h1 h2
    go_enter Tryz.func207,Tryz.ntmps207
    go_wp2
    go_ret
    exact⟨by rw[← HE.out];rfl,rfl⟩
   ·have e2:((a.toNat:Int) == 32)=false:=by simp;omega
    rw[decide_eq_false h2,Bool.false_or] at HR2
    by_cases h3:a.toNat=33
    ·have e3:((a.toNat:Int) == 33)=true:=by simp;omega
     have HE:Hid (true=r):=(by show _=_;rw[← HR2,decide_eq_true h3];rfl)
     clear HR HR2 h1 h2 h3
     go_enter Tryz.func207,Tryz.ntmps207
     go_wp2
     go_ret
     exact⟨by rw[← HE.out];rfl,rfl⟩
    ·have e3:((a.toNat:Int) == 33)=false:=by simp;omega
     rw[decide_eq_false h3,Bool.false_or] at HR2
     have HE:Hid (((a.toNat:Int) == (sg.toNat:Int))=r):=(by
      show _=_
      rw[← HR2,Bool.eq_iff_iff,beq_iff_eq,decide_eq_true_eq]
      omega)
     clear HR HR2 h1 h2 h3
     go_enter Tryz.func207,Tryz.ntmps207
     go_wp2
     go_ret
     exact⟨by rw[← HE.out];rfl,rfl⟩
  ·have e1:((b.toNat:Int) != 32)=true:=by simp;omega
   have HE:Hid (false=r):=(by show _=_;rw[← HR2,decide_eq_false h1];rfl)
   clear HR HR2 h1
   go_enter Tryz.func207,Tryz.ntmps207
   go_wp2
   go_ret
   exact⟨by rw[← HE.out];rfl,rfl⟩
theorem Zop {L:List (List UInt8)} {p:Nat} (h:p<L.length):pkS (L.drop p)=starsT.isPrefixOf L[p]:=by
 rw[List.drop_eq_getElem_cons h]
 rfl
theorem Zcb {R:Nat} {L:List (List UInt8)} {lo:Option Addr} {lc:Nat} {p:Nat} (w:World) (q:Ck w R (.slice lo L.length lc) p) (hL:HS w (.slice lo L.length lc) L) (hp:p≤L.length) (hLl:L.length≤2199023255552) (r:Bool) (HR:Hid (pkS (L.drop p)=r)) :
  Calls Tryz.prog 95 #[.pointer (some ⟨R,0,none⟩)] w fun x w'=>x=.returned (.bool r)∧∃ n,w'=w.drewN n:=by
 obtain⟨c0,c1⟩:=q.cells
 by_cases hlt:p<L.length
 ·obtain⟨bk,off,rfl,hbk,hcl⟩:=HS.at hL (by omega)
  have d4:=hcl p hlt
  have HR2:=HR.out
  rw[Zop hlt] at HR2
  generalize L[p]=s at d4 HR2
  have hd:decide ((p:Int)<(L.length:Int))=true:=decide_eq_true (by omega)
  have i1:(0:Int)≤(p:Int):=by omega
  have i2:(p:Int)<(L.length:Int):=by omega
  have i3:(p:Int).toNat=p:=by omega
  have hhp:∀ u,Calls Tryz.prog 149 #[.string ⟨s.toArray⟩,.string ⟨starsT.toArray⟩] u fun e w'=>e=.returned (.bool r)∧w'=u:=(by
   intro u
   refine (Tryz.strings_HasPrefix ⟨s.toArray⟩ ⟨starsT.toArray⟩ u).mono ?_
   rintro e w' ⟨rfl,rfl⟩
   have e1:Lib.hasPrefix (⟨s.toArray⟩:ByteArray).data.toList (⟨starsT.toArray⟩:ByteArray).data.toList=r:=HR2
   rw[e1]
   exact⟨rfl,rfl⟩)
  clear hcl hL q HR HR2
  go_enter Tryz.func95,Tryz.ntmps95
  go_wp2_with fail
  go_quiet ((go_at_call 149;exact Calls.quiet_of_same (hhp _)))
  go_wp2
  go_ret
  exact⟨rfl,_,rfl⟩
 ·have HE:Hid (false=r):=(by have h:=HR.out;rw[List.drop_of_length_le (by omega)] at h;exact h)
  have hd:decide ((p:Int)<(L.length:Int))=false:=decide_eq_false (by omega)
  clear hL q HR
  go_enter Tryz.func95,Tryz.ntmps95
  go_wp2_with fail
  go_quiet (fail)
  go_wp2
  go_ret
  exact⟨by rw[← HE.out];rfl,_,rfl⟩
def starsP (k p:Nat) (ls:List (List UInt8)):Except (Nat × Int) (List (List UInt8)) :=
 match nxt p ls with
 | .error e=>.error e
 | .ok (s,r)=>if isSt s=true then if 4096≤k then .error (p+1,9) else .ok r else .error (p+1,3)
def StX (R:Nat) (vL:Value) (p:Nat) (X:Except (Nat × Int) (List (List UInt8))) (w:World) (x:Ending) (w':World):Prop :=
 match X with
 | .error (a,e)=>Thr (a:Int) e x w'∧w.grownBy w' (some R)
 | .ok _=>x=.returned (.int .i64 ((p:Int)+1))∧Ck w' R vL ((p+1:Nat):Int)∧w.grownBy w' (some R)
theorem Zsm (k p:Nat) (ls:List (List UInt8)):starsP k p ls=match barP starsT p ls with
  | .error e=>.error e
  | .ok (t,r)=>if (t.isEmpty || t.head? == some 32)=true then if 4096≤k then .error (p+1,9) else .ok r else .error (p+1,3):=by
 unfold starsP barP
 cases nxt p ls with
 | error e=>rfl
 | ok z =>
  obtain⟨s,r⟩:=z
  dsimp only
  unfold isSt
  by_cases h:starsT.isPrefixOf s=true
  ·rw[h,Bool.true_and,if_pos rfl]
   rfl
  ·rw[Bool.eq_false_iff.2 h,Bool.false_and,if_neg (by decide),if_neg (by decide)]
theorem Zeh {R:Nat} {L:List (List UInt8)} {lo:Option Addr} {lc:Nat} {p k:Nat} (hk:k≤4096) (w:World) (q:Ck w R (.slice lo L.length lc) p) (hL:HS w (.slice lo L.length lc) L) (hp:p≤L.length) (hLl:L.length≤2199023255552) (hs:∀ s∈L,s.length≤1099511627776)
  (X:Except (Nat × Int) (List (List UInt8))) (HX:Hid (starsP k p (L.drop p)=X)) :
  Calls Tryz.prog 150 #[.pointer (some ⟨R,0,none⟩),.int .i64 (k:Int)] w fun x w'=>StX R (.slice lo L.length lc) p X w x w':=by
 obtain⟨Y,hY⟩:∃ Y,barP starsT p (L.drop p)=Y:=⟨_,rfl⟩
 have hl:=Zci starsT w q hL hp hLl hs Y hY
 have hX:=HX.out
 rw[Zsm,hY] at hX
 clear HX
 cases Y with
 | error z =>
  obtain⟨a,e⟩:=z
  dsimp only at hX
  subst hX
  go_enter Tryz.func150,Tryz.ntmps150
  go_wp2_with fail
  refine hl.mono ?_
  rintro x w1 ⟨⟨g,rfl,hg⟩,hgr⟩
  go_wp2
  exact⟨rfl,⟨_,rfl,hg⟩,hgr⟩
 | ok z =>
  obtain⟨t,r⟩:=z
  dsimp only at hX
  have hl2:Calls Tryz.prog 147 #[.pointer (some ⟨R,0,none⟩),.string ⟨starsT.toArray⟩] w fun x w'=>x=.returned (.string ⟨t.toArray⟩)∧∃ n,w'=w.drewN n:=hl
  have q2:=fun nn=>q.dN nn
  clear hY hl
  by_cases ht:(t.isEmpty || t.head? == some 32)=true
  ·rw[if_pos ht] at hX
   go_enter Tryz.func150,Tryz.ntmps150
   go_wp2_with fail
   refine hl2.mono ?_
   rintro x w1 ⟨rfl,nn,rfl⟩
   go_upto_region 2 with fail
   go_cut [14] (fun cv wz=>cv=.bool false∧wz=w.drewN nn)
   case first =>
    cases t with
    | nil =>
     go_wp2
     go_meet
     case rel=>exact⟨rfl,rfl⟩
    | cons c t =>
     have hc:c=32:=(by simpa using ht)
     subst hc
     clear ht
     go_wp2
     go_meet
     case rel=>exact⟨rfl,rfl⟩
   case rest =>
   obtain⟨rfl,rfl⟩:=hcut
   have q3:=q2 nn
   have g3:=Zha (ZkI (Below.refl w.heap.size w) (some R)) nn
   generalize w.drewN nn=W1 at q3 g3 ⊢
   by_cases hk2:4096≤k
   ·rw[if_pos hk2] at hX
    subst hX
    have e1:((k:Int) == 4096)=true:=beq_iff_eq.2 (by omega)
    go_wp2_with fail
    refine (ZdY 9 _ q3 (by omega)).mono ?_
    rintro e w3 ⟨⟨g,rfl,hg⟩,hgr⟩
    go_wp2
    exact⟨rfl,⟨_,rfl,by simpa using hg⟩,Zhe g3 hgr⟩
   ·rw[if_neg hk2] at hX
    subst hX
    have e1:((k:Int) == 4096)=false:=beq_eq_false_iff_ne.2 (by omega)
    obtain⟨c0,c1⟩:=q3.cells
    have f1:=q3.frozen 1
    have q4:Ck (W1.setCell ⟨R,1,none⟩ (.int .i64 ((p:Int)+1))) R (.slice lo L.length lc) (((p+1:Nat)):Int):=(by have:=q3.at ((p:Int)+1);simpa using this)
    have g4:=Zhe g3 (Zhd W1 R 1 (.int .i64 ((p:Int)+1)))
    clear q3 g3
    go_wp2
    go_ret
    exact⟨rfl,q4,g4⟩
  ·rw[if_neg ht] at hX
   subst hX
   cases t with
   | nil=>exact absurd rfl ht
   | cons c t =>
    have hc:c≠32:=(by simpa using ht)
    have hcl:=c.toNat_lt
    have e1:((c.toNat:Int) != 32)=true:=(by
     rw[bne_iff_ne]
     intro e
     apply hc
     rw[← UInt8.toNat_inj]
     show c.toNat=32
     omega)
    have i1:(0:Int)<(t.length:Int)+1:=by omega
    clear ht hc
    go_enter Tryz.func150,Tryz.ntmps150
    go_wp2_with fail
    refine hl2.mono ?_
    rintro x w1 ⟨rfl,nn,rfl⟩
    go_wp2_with fail
    refine (ZdY 3 _ (q2 nn) (by omega)).mono ?_
    rintro e w3 ⟨⟨g,rfl,hg⟩,hgr⟩
    go_wp2
    exact⟨rfl,⟨_,rfl,by simpa using hg⟩,Zhe (Zha (ZkI (Below.refl w.heap.size w) (some R)) nn) hgr⟩
end

section
open Go.RowKit
structure Mrow (w:World) (g n cap:Nat) (r:List Mk):Prop where
 ex:∃ cur:Array Value,w.heap[g]?=some (.cells cur 103 (0,0))∧cur.size=cap * 2∧cur.toList.take (n * 2)=mkcells r
 le:n≤cap
 len:r.length=n
theorem ZlM (r:List Mk):∀ (i:Nat) (m:Mk),i<r.length→((mkcells r).set (i * 2) (.int .u8 m.sg)).set (i * 2+1) (.string ⟨m.tx.toArray⟩)=mkcells (r.set i m):=by
 induction r with
 | nil=>intro i m h;simp at h
 | cons x r ih =>
  intro i m h
  have e1:mkcells (x::r)=.int .u8 x.sg::.string ⟨x.tx.toArray⟩::mkcells r:=rfl
  cases i with
  | zero=>rw[e1];rfl
  | succ i =>
   have e2:(i+1) * 2=i * 2+1+1:=by omega
   have e3:mkcells ((x::r).set (i+1) m)=.int .u8 x.sg::.string ⟨x.tx.toArray⟩::mkcells (r.set i m):=rfl
   rw[e1,e2,e3]
   simp only[List.set_cons_succ]
   rw[ih i m (by simpa using h)]
section
variable {w u:World} {g n cap:Nat} {r:List Mk}
theorem Mrow.low (h:Mrow w g n cap r) (hb:Below w.heap.size w u):Mrow u g n cap r:=by
 obtain⟨⟨cur,h1,h2,h3⟩,hl,hn⟩:=h
 exact⟨⟨cur,(hb.block g (Array.getElem?_eq_some_iff.1 h1).1).trans h1,h2,h3⟩,hl,hn⟩
theorem Mrow.holds (h:Mrow w g n cap r) (k:Nat) (hk:k≤n):HMk w (.slice (some ⟨g,0,none⟩) k cap) (r.take k):=by
 obtain⟨⟨cur,h1,h2,h3⟩,hl,hn⟩:=h
 have hlk:(r.take k).length=k:=by rw[List.length_take];omega
 unfold HMk
 rw[hlk]
 refine .inr ⟨⟨g,0,none⟩,cap,rfl,by omega,fun j v hj=>?_⟩
 rw[← ZlN,← h3,List.take_take] at hj
 have hjl:j<k * 2:=by
  have:=(List.getElem?_eq_some_iff.1 hj).1
  rw[List.length_take] at this
  omega
 rw[List.getElem?_take_of_lt (by omega)] at hj
 rw[add_none,Nat.zero_add,Lib.cell_of_heap h1]
 simpa using hj
theorem Mrow.store (h:Mrow w g n cap r) (i:Nat) (hi:i<n) (m:Mk):Mrow ((w.setCell ⟨g,i * 2,none⟩ (.int .u8 m.sg)).setCell ⟨g,i * 2+1,none⟩ (.string ⟨m.tx.toArray⟩)) g n cap (r.set i m):=by
 obtain⟨⟨cur,h1,h2,h3⟩,hl,hn⟩:=h
 have s1:=heap_setCell_same w g (i * 2) cur _ (.int .u8 m.sg) h1
 have s2:=heap_setCell_same _ g (i * 2+1) _ _ (.string ⟨m.tx.toArray⟩) s1
 refine⟨⟨_,s2,by simpa using h2,?_⟩,hl,by simpa using hn⟩
 have e1:((cur.setIfInBounds (i * 2) (.int .u8 m.sg)).setIfInBounds (i * 2+1) (.string ⟨m.tx.toArray⟩)).toList=(cur.toList.set (i * 2) (.int .u8 m.sg)).set (i * 2+1) (.string ⟨m.tx.toArray⟩):=by simp
 rw[e1,List.take_set,List.take_set,h3,ZlM r i m (by omega)]
theorem Mrow.cells (h:Mrow w g n cap r) (i:Nat) (hi:i<n):∃ x y,w.cell? ⟨g,i * 2,none⟩=some (.int .u8 x)∧w.cell? ⟨g,i * 2+1,none⟩=some (.string y):=by
 have hh:=h.holds n (Nat.le_refl _)
 have hl:=h.len
 obtain⟨b,off,he,hb,hcl⟩:=HMk.at hh (by rw[List.length_take];omega)
 cases he
 have hc:=hcl i (by rw[List.length_take];omega)
 rw[Nat.zero_add] at hc
 exact⟨_,_,hc.1,hc.2⟩
theorem Mrow.frozen (h:Mrow w g n cap r) (j:Nat):w.frozen? ⟨g,j,none⟩=false:=by
 obtain⟨⟨cur,h1,_⟩,_⟩:=h
 exact Lib.frozen_of_heap h1 j
end
theorem ZlQ {w:World} {B n:Nat} {v:Value} {l:List Mk} (h:w.ownsRow B 103 2 v n (mkcells l)) (h0:0<n):∃ g cap,v=.slice (some ⟨g,0,none⟩) n cap∧B≤g∧Mrow w g n cap l:=by
 have hl:=h.1
 rw[ZlK] at hl
 rcases h.2 with ⟨_,h1⟩ | ⟨g,cap,cur,rfl,q2,q3,q4,q5,q6,q7⟩
 ·omega
 ·exact⟨g,cap,rfl,q2,⟨cur,q3,q6,q7⟩,q4,by omega⟩
theorem Zqy (w:World) (ty:TypeId) (g o n c:Nat) (cur:List Value) (hg:w.heap[g]?=some (.cells cur.toArray 103 (0,0))) (hfit:o+n * 2≤cur.length) :
  ∃ u,(Builtin.clear_ #[57] ty #[.slice (some ⟨g,o,none⟩) n c]).run Tryz.prog w=.ok (.tuple #[]) u∧w.grownBy u (some g)∧∃ cur':List Value,u.heap[g]?=some (.cells cur'.toArray 103 (0,0))∧cur'.length=cur.length∧cur'.take o=cur.take o:=by
 have hT:=Tryz.underlying57
 cases n with
 | zero=>exact⟨w,by simp[Builtin.clear_,run_underlying hT],World.grownBy.refl _ _,cur,hg,rfl,rfl⟩
 | succ n =>
  obtain⟨zs,hzs⟩:∃ zs:List Value,(Builtin.zeroCells (Value.agg #[.int .u8 0,.string ⟨#[]⟩]).cells (n+1)).toList=zs:=⟨_,rfl⟩
  have hzl:zs.length=(n+1) * 2:=by rw[← hzs];simp[Builtin.zeroCells,Value.cells]
  have hz1:∀ v∈zs,v.oneCell'=true:=by
   intro v hv
   rw[← hzs] at hv
   simp[Builtin.zeroCells,Value.cells] at hv
   obtain⟨k,hk,rfl⟩:=hv
   have:k % 2=0∨k % 2=1:=by omega
   rcases this with h | h<;>simp[h]<;>rfl
  have hst:=run_storeCells_at Tryz.prog g o _ zs 0 cur.toArray w hg (by simp;omega) hz1
  have hzv:(zeroValue 103).run Tryz.prog w=.ok (.agg #[.int .u8 0,.string ⟨#[]⟩]) w:=by
   obtain⟨i0,hi,hz0,_,_⟩:=info_parts infoMk
   simp[zeroValue,typeInfo,hi,hz0]
  refine⟨w.setRow g (spl cur o zs).toArray,?_,Zrr _ _ _,_,setRow_heap w g _ _ _ _ hg,Zsc (by omega),?_⟩
  ·simp[Builtin.clear_,run_underlying hT,hzv,hzs,hst,spl]
  ·unfold spl
   rw[List.append_assoc,List.take_left' (by simp;omega)]
theorem ZiC (p:Mk→Bool) (l:List Mk):∀ k,(idxI p k l=-1∧∀ m∈l,p m=false)∨∃ i,∃ h:i<l.length,idxI p k l=((k+i:Nat):Int)∧p l[i]=true∧∀ m∈l.take i,p m=false:=by
 induction l with
 | nil=>intro k;exact .inl ⟨rfl,fun m hm=>by cases hm⟩
 | cons x l ih =>
  intro k
  by_cases h:p x=true
  ·refine .inr ⟨0,by simp,?_,by simpa using h,by simp⟩
   have e:idxI p k (x::l)=(k:Int):=if_pos h
   rw[e];simp
  ·have e:idxI p k (x::l)=idxI p (k+1) l:=if_neg h
   rcases ih (k+1) with ⟨h1,h2⟩ | ⟨i,hi,h1,h2,h3⟩
   ·refine .inl ⟨e.trans h1,fun m hm=>?_⟩
    rcases List.mem_cons.1 hm with rfl | hm
    ·exact Bool.eq_false_iff.2 h
    ·exact h2 m hm
   ·refine .inr ⟨i+1,by simpa using hi,?_,by simpa using h2,fun m hm=>?_⟩
    ·rw[e,h1];congr 1;omega
    ·rw[List.take_succ_cons] at hm
     rcases List.mem_cons.1 hm with rfl | hm
     ·exact Bool.eq_false_iff.2 h
     ·exact h3 m hm
theorem Zjr {l:List Mk} (h:∀ m∈l,(m.sg != 32)=false):keptM l=l:=by
 unfold keptM
 rw[List.filter_eq_self]
 intro m hm
 have:=h m hm
 simpa using this
theorem Zjx (l:List Mk) (j:Nat) (hj:j<l.length):keptM (l.take (j+1))=keptM (l.take j)++(if l[j].sg=32 then [l[j]] else []):=by
 rw[List.take_succ_eq_append_getElem hj]
 unfold keptM
 rw[List.filter_append]
 congr 1
 by_cases h:l[j].sg=32
 ·rw[if_pos h];simp[h]
 ·rw[if_neg h];simp[h]
theorem Zdj (m:Mk) (w:World):Calls Tryz.prog 211 #[.agg #[.int .u8 m.sg,.string ⟨m.tx.toArray⟩]] w fun e w'=>e=.returned (.bool (m.sg != 32))∧Below w.heap.size w w':=by
 have hBl:Below w.heap.size w (w.alloc (.cells #[.int .u8 m.sg,.string ⟨m.tx.toArray⟩] 103)):=(Below.refl _ w).alloc (Nat.le_refl _) _
 have hc:=Zdc m (w.alloc (.cells #[.int .u8 m.sg,.string ⟨m.tx.toArray⟩] 103))
 go_enter Tryz.func211,Tryz.ntmps211
 go_wp2_with fail
 refine hc.mono ?_
 rintro e w1 ⟨rfl,hB⟩
 go_wp2
 go_ret
 exact⟨rfl,hBl.trans (hB.mono hBl.size)⟩
theorem Zcp (l:List Mk) (g n cap:Nat) (w:World) (hr:Mrow w g n cap l) (hn:n≤1099511627776) :
  Calls Tryz.prog 209 #[.slice (some ⟨g,0,none⟩) n cap,.func (.func 211) #[] #[]] w fun e w'=>∃ k,e=.returned (.slice (some ⟨g,0,none⟩) k cap)∧HMk w' (.slice (some ⟨g,0,none⟩) k cap) (keptM l)∧k=(keptM l).length∧w.grownBy w' (some g):=by
 have hln:=hr.len
 have hcap:=hr.le
 have hv:HMk w (.slice (some ⟨g,0,none⟩) n cap) l:=(by
  have h:=hr.holds n (Nat.le_refl _)
  rw[List.take_of_length_le (by omega)] at h
  exact h)
 have hix:=fun z HZ=>ZbO 211 #[] l (fun m=>m.sg != 32) (.slice (some ⟨g,0,none⟩) n cap) w hv (by omega) (enters_of Tryz.func211 (by kernel_rfl) rfl) (fun m _ u _=>Zdj m u) z HZ
 rcases ZiC (fun m=>m.sg != 32) l 0 with ⟨h1,h2⟩ | ⟨i0,hi0,h1,h2,h3⟩
 ·have hk:keptM l=l:=Zjr h2
  have hc:=hix (-1) h1
  have HH:Hid (∀ u,Below w.heap.size w u→HMk u (.slice (some ⟨g,0,none⟩) n cap) (keptM l)∧n=(keptM l).length):=(by
   intro u hu
   rw[hk]
   exact⟨hv.keep hu (Nat.le_refl _),hln.symm⟩)
  clear hix h1 h2 hk hv hr
  go_enter Tryz.func209,Tryz.ntmps209
  go_wp2_with fail
  refine hc.mono ?_
  rintro e w1 ⟨rfl,hB⟩
  go_wp2
  go_ret
  exact⟨n,rfl,(HH.out w1 hB).1,(HH.out w1 hB).2,ZkI hB _⟩
 ·have hc:=hix (i0:Int) (by show _=_;rw[h1];simp)
  have HI0:Hid (l.take i0=keptM (l.take (i0+1))∧l.drop (i0+1)=l.drop (i0+1)):=⟨by
   have h4:¬ l[i0].sg=32:=by simpa using h2
   rw[Zjx l i0 hi0,if_neg h4,List.append_nil,Zjr h3],rfl⟩
  have j0:((i0:Int) == -1)=false:=beq_eq_false_iff_ne.2 (by omega)
  clear hix h1 h2 h3 hv
  go_enter Tryz.func209,Tryz.ntmps209
  go_wp2_with fail
  refine hc.mono ?_
  rintro e w1 ⟨rfl,hB⟩
  have hr1:=hr.low hB
  have hg1:=ZkI hB (some g)
  clear hc hr hB
  go_wp2
  go_loopw [5,6] (fun iv jv wr=>∃ (i j:Nat) (r:List Mk),i<j∧j≤n∧iv=.int .i64 i∧jv=.int .i64 j∧Mrow wr g n cap r∧w.grownBy wr (some g)∧Hid (r.take i=keptM (l.take j)∧r.drop j=l.drop j)) (fun _ jv _=>n-(intOf jv).toNat)
  case atStart=>exact⟨i0,i0+1,l,by omega,by omega,rfl,by go_num,hr1,hg1,⟨HI0.out.1,rfl⟩⟩
  case round =>
  clear HI0 hr1 hg1
  obtain⟨i,j,r,hij,hj,rfl,rfl,hr,hg,HI⟩:=hrel
  by_cases hlt:j<n
  ·have hh:=hr.holds n (Nat.le_refl _)
   obtain⟨b,off,he,hb,hcl⟩:=HMk.at hh (by rw[List.length_take];have:=hr.len;omega)
   have he2:b=g∧off=0:=(by cases he;exact⟨rfl,rfl⟩)
   obtain⟨rfl,rfl⟩:=he2
   have hrl:=hr.len
   have hcj:=hcl j (by rw[List.length_take];omega)
   have hrj:(r.take n)[j]'(by rw[List.length_take];omega)=l[j]'(by omega):=(by
    have h:=congrArg (fun x=>x[0]?) HI.out.2
    simp only[List.getElem?_drop,Nat.add_zero] at h
    rw[List.getElem?_eq_getElem (by omega),List.getElem?_eq_getElem (by omega),Option.some.injEq] at h
    rw[List.getElem_take,h])
   rw[hrj] at hcj
   obtain⟨c0,c1⟩:=hcj
   rw[Nat.zero_add] at c0 c1
   have HK:=Zjx l j (by omega)
   obtain⟨m,hm⟩:∃ m,l[j]'(by omega)=m:=⟨_,rfl⟩
   rw[hm] at c0 c1 HK
   have i1:(0:Int)≤(j:Int):=by omega
   have i2:(j:Int)<(n:Int):=by omega
   have i3:(0:Int)≤(i:Int):=by omega
   have i4:(i:Int)<(n:Int):=by omega
   have hBm:Below wr.heap.size wr (wr.alloc (.cells #[.int .u8 m.sg,.string ⟨m.tx.toArray⟩] 103)):=(Below.refl _ wr).alloc (Nat.le_refl _) _
   have hkc:=Zdj m (wr.alloc (.cells #[.int .u8 m.sg,.string ⟨m.tx.toArray⟩] 103))
   have hMb:(wr.alloc (.cells #[.int .u8 m.sg,.string ⟨m.tx.toArray⟩] 103)).heap[wr.heap.size]?=some (.cells #[.int .u8 m.sg,.string ⟨m.tx.toArray⟩] 103):=heap_alloc_new wr _
   have hMl:wr.heap.size<(wr.alloc (.cells #[.int .u8 m.sg,.string ⟨m.tx.toArray⟩] 103)).heap.size:=by simp
   clear hcl hrj hh he hb
   by_cases hs:m.sg=32
   ·have e1:(m.sg != 32)=false:=by simp[hs]
    rw[e1] at hkc
    rw[if_pos hs] at HK
    have HI2:Hid ((r.set i m).take (i+1)=keptM (l.take (j+1))∧(r.set i m).drop (j+1)=l.drop (j+1)):=(by
     constructor
     ·rw[HK,← HI.out.1,List.take_succ_eq_append_getElem (by simp;omega),List.take_set,List.set_eq_of_length_le (by rw[List.length_take];omega)]
      simp
     ·rw[List.drop_set_of_lt (by omega)]
      have h:=congrArg List.tail HI.out.2
      simpa using h)
    clear HI HK hs e1 hm
    go_upto_region 8 with fail
    go_wp2_with fail
    refine hkc.mono ?_
    rintro e w2 ⟨rfl,hB2⟩
    have hm2:=(hB2.block _ hMl).trans hMb
    have m0:w2.cell? ⟨wr.heap.size,0,none⟩=some (.int .u8 m.sg):=(by rw[Lib.cell_of_heap hm2];rfl)
    have m1:w2.cell? ⟨wr.heap.size,1,none⟩=some (.string ⟨m.tx.toArray⟩):=(by rw[Lib.cell_of_heap hm2];rfl)
    have hr2:=(hr.low hBm).low hB2
    have hg2:=Zhe (Zhe hg (ZkI hBm (some b))) (ZkI hB2 (some b))
    obtain⟨x0,y0,t0,t1⟩:=hr2.cells i (by omega)
    have f0:=hr2.frozen (i * 2)
    have f1:=hr2.frozen (i * 2+1)
    have hr3:=hr2.store i (by omega) m
    have hg3:=Zhe (Zhe hg2 (Zhd w2 b (i * 2) (.int .u8 m.sg))) (Zhd _ b (i * 2+1) (.string ⟨m.tx.toArray⟩))
    clear c0 c1 hkc hMb hMl hm2 hr hg hr2 hg2 hB2 hBm
    go_wp2
    exact⟨⟨i+1,j+1,_,by omega,by omega,by go_num,by go_num,hr3,hg3,HI2⟩,by simp[intOf];omega⟩
   ·have e1:(m.sg != 32)=true:=by simp[hs]
    rw[e1] at hkc
    rw[if_neg hs,List.append_nil] at HK
    have HI2:Hid (r.take i=keptM (l.take (j+1))∧r.drop (j+1)=l.drop (j+1)):=⟨HI.out.1.trans HK.symm,by
     have h:=congrArg List.tail HI.out.2
     simpa using h⟩
    have hr2:=hr.low hBm
    have hg2:=Zhe hg (ZkI hBm (some b))
    clear HI HK hs e1 hm hMb hMl hr hg hBm
    go_wp2_with fail
    refine hkc.mono ?_
    rintro e w2 ⟨rfl,hB2⟩
    have hr3:=hr2.low hB2
    have hg3:=Zhe hg2 (ZkI hB2 (some b))
    clear c0 c1 hkc hr2 hg2 hB2
    go_wp2
    exact⟨⟨i,j+1,r,by omega,by omega,rfl,by go_num,hr3,hg3,HI2⟩,by simp[intOf];omega⟩
  ·have hend:¬ (j:Int)<(n:Int):=by omega
   have hjn:j=n:=by omega
   subst hjn
   have hi1:i≤j:=by omega
   have HK:Hid (r.take i=keptM l∧i=(keptM l).length):=(by
    have h:=HI.out.1
    rw[List.take_of_length_le (show l.length≤j by omega)] at h
    refine⟨h,?_⟩
    rw[← h,List.length_take]
    have:=hr.len
    omega)
   have hs1:=ZqF (some ⟨g,0,none⟩) j cap i hi1 hcap
   have hs2:=ZqG (some ⟨g,0,none⟩) j cap i hi1 hcap
   have hsf:mslF (some ⟨g,0,none⟩) cap i=some ⟨g,i * 2,none⟩:=(by
    unfold mslF
    rw[if_neg (by omega)]
    simp[add_none])
   rw[hsf] at hs1
   obtain⟨cur,q1,q2,q3⟩:=hr.ex
   obtain⟨u,hcr,hcg,cur',k1,k2,k3⟩:=Zqy wr 0 g (i * 2) (j-i) (cap-i) cur.toList (by simpa using q1) (by simp;omega)
   have hHu:HMk u (.slice (some ⟨g,0,none⟩) i cap) (keptM l):=(by
    have hl2:(keptM l).length=i:=HK.out.2.symm
    unfold HMk
    rw[hl2]
    refine .inr ⟨⟨g,0,none⟩,cap,rfl,by omega,fun t v ht=>?_⟩
    have htl:t<i * 2:=(by
     have:=(List.getElem?_eq_some_iff.1 ht).1
     rw[ZlK,hl2] at this
     exact this)
    have h1:cur.toList.take (i * 2)=mkcells (keptM l):=(by
     rw[← HK.out.1,← ZlN,← q3,List.take_take]
     congr 1
     omega)
    rw[← h1,← k3,List.getElem?_take_of_lt htl] at ht
    rw[add_none,Nat.zero_add,Lib.cell_of_heap k1]
    simpa using ht)
   have hgu:=Zhe hg hcg
   clear HI hsf q1 q2 q3 k1 k2 k3 hr hg hcg
   go_wp2_with (first | (refine Zva (o:=⟨none,_,_,_,_,none⟩) _ rfl (.tmp 38) 57 rfl _ rfl _ _ hcr ?_) | fail)
   go_wp2
   go_ret
   exact⟨i,rfl,hHu,HK.out.2,hgu⟩
end

section
open Go.RowKit
theorem ZlC (n c:Nat) (ao:Addr) (u:World):(binOp .eql 57 (.slice (some ao) n c) (.slice none 0 0)).run Tryz.prog u=.ok (.bool false) u:=by kernel_rfl
theorem ZlB (u:World):(binOp .eql 57 (.slice none 0 0) (.slice none 0 0)).run Tryz.prog u=.ok (.bool true) u:=by kernel_rfl
theorem Zcn (l:List Mk) (ao:Addr) (c:Nat) (w:World) (hv:HMk w (.slice (some ao) l.length c) l) (hl:l.length≤1099511627776) :
  Calls Tryz.prog 210 #[.slice (some ao) l.length c] w fun e w'=>∃ v',e=.returned v'∧w'.ownsRow w.heap.size 103 2 v' l.length (mkcells l)∧Below w.heap.size w w':=by
 have hBa:Below w.heap.size w (w.alloc (.cells #[] 103)):=(Below.refl _ w).alloc (Nat.le_refl _) _
 have hva:=hv.keep hBa (Nat.le_refl _)
 have hown:(w.alloc (.cells #[] 103)).ownsRow w.heap.size 103 2 (.slice (some ⟨w.heap.size,0,none⟩) 0 0) 0 []:=⟨rfl,.inr ⟨w.heap.size,0,#[],rfl,Nat.le_refl _,heap_alloc_new w _,Nat.le_refl _,by unfold maxLen;omega,rfl,rfl⟩⟩
 have hz:w.heap.size≤(w.alloc (.cells #[] 103)).heap.size:=by simp
 have hnn:=ZlC l.length c ao
 clear hv
 go_enter Tryz.func210,Tryz.ntmps210
 go_wp2_with (at_builtin;refine ZuZ _ (by kernel_rfl) (.tmp 5) (.tmp 6) 57 103 (.agg #[.int .u8 0,.string ⟨#[]⟩]) 2 24 rfl Tryz.underlying57 infoMk rfl (by decide) (by decide) w.heap.size _ _ _ rfl hown _ l.length (mkcells l) rfl hva (ZlK _) (ZlL _) (by omega) hz ?_)
 intro v3 u3 hown3 hg3 _
 have hB3:Below w.heap.size w u3:=hBa.grown hg3 hBa.size (fun j hj=>ZnH hown hj)
 obtain⟨o3,c3,rfl⟩:=(holds_of hown3).form
 go_wp2
 go_ret
 exact⟨_,rfl,hown3,hB3⟩
structure Nl (w:World) (v:Value) (l:List Mk):Prop where
 hold:HMk w v l
 nil:l=[]→v=.slice none 0 0
theorem Zdk (l:List Mk) (v:Value) (w:World) (hv:Nl w v l) (hl:l.length≤1099511627776) (K:List Mk) (HK:Hid (keptM l=K)) :
  Calls Tryz.prog 152 #[v] w fun e w'=>∃ v',e=.returned v'∧HMk w' v' K∧(l=[]→v'=.slice none 0 0)∧Below w.heap.size w w':=by
 by_cases h0:l=[]
 ·obtain rfl:=hv.nil h0
  subst h0
  have hK:K=[]:=HK.out.symm
  subst hK
  have hcl:∀ u,Calls Tryz.prog 210 #[.slice none 0 0] u fun e w'=>e=.returned (.slice none 0 0)∧w'=u:=(by
   intro u
   have hnn:=ZlB
   go_enter Tryz.func210,Tryz.ntmps210
   go_wp2
   go_ret
   exact⟨rfl,rfl⟩)
  have hix:∀ u,Calls Tryz.prog 106 #[.slice none 0 0,.func (.func 211) #[] #[]] u fun e w'=>e=.returned (.int .i64 (-1))∧Below u.heap.size u w':=fun u=>ZbO 211 #[] [] (fun m=>m.sg != 32) (.slice none 0 0) u (.inl ⟨rfl,rfl,rfl⟩) (by simp) (enters_of Tryz.func211 (by kernel_rfl) rfl) (fun m _ u _=>Zdj m u) (-1) rfl
  have hdl:∀ u,Calls Tryz.prog 209 #[.slice none 0 0,.func (.func 211) #[] #[]] u fun e w'=>e=.returned (.slice none 0 0)∧Below u.heap.size u w':=(by
   intro u
   go_enter Tryz.func209,Tryz.ntmps209
   go_wp2_with fail
   refine (hix u).mono ?_
   rintro e w1 ⟨rfl,hB⟩
   go_wp2
   go_ret
   exact⟨rfl,hB⟩)
  go_enter Tryz.func152,Tryz.ntmps152
  go_wp2_with fail
  refine (hcl _).mono ?_
  rintro e w1 ⟨rfl,rfl⟩
  go_wp2_with fail
  refine (hdl _).mono ?_
  rintro e w2 ⟨rfl,hB⟩
  go_wp2
  go_ret
  exact⟨_,rfl,.inl ⟨rfl,rfl,rfl⟩,fun _=>rfl,hB⟩
 ·obtain⟨lo,lc,rfl⟩:=HMk.form hv.hold
  have hlp:0<l.length:=List.length_pos_iff.2 h0
  obtain⟨bk,off,rfl,_,_⟩:=HMk.at hv.hold hlp
  have hc:=Zcn l ⟨bk,off,none⟩ lc w hv.hold hl
  have HN:Hid (l≠[]):=h0
  clear hv h0
  go_enter Tryz.func152,Tryz.ntmps152
  go_wp2_with fail
  refine hc.mono ?_
  rintro e w1 ⟨v',rfl,hown,hB1⟩
  obtain⟨g,cap,rfl,hg,hr⟩:=ZlQ hown hlp
  have hd:=Zcp l g l.length cap w1 hr hl
  clear hc hown
  go_wp2_with fail
  refine hd.mono ?_
  rintro e w2 ⟨k,rfl,hH,hk,hgr⟩
  clear hk
  go_wp2
  go_ret
  refine⟨_,rfl,by rw[← HK.out];exact hH,fun e=>absurd e HN.out,hB1.grown hgr hB1.size (fun j hj=>by cases hj;exact hg)⟩
theorem ZbW (k:Int) (X:Nat) (m:Mk) (w:World) (cX:w.cell? ⟨X,0,none⟩=some (.int .u8 k)) (hX:X<w.heap.size):Calls Tryz.prog 213 #[.agg #[.int .u8 m.sg,.string ⟨m.tx.toArray⟩],.pointer (some ⟨X,0,none⟩)] w fun e w'=>e=.returned (.bool (m.sg != k))∧Below w.heap.size w w':=by
 have hBl:Below w.heap.size w (w.alloc (.cells #[.int .u8 m.sg,.string ⟨m.tx.toArray⟩] 103)):=(Below.refl _ w).alloc (Nat.le_refl _) _
 have cX2:(w.alloc (.cells #[.int .u8 m.sg,.string ⟨m.tx.toArray⟩] 103)).cell? ⟨X,0,none⟩=some (.int .u8 k):=(World.cell?_of_block (w:=w) (hBl.block X hX)).trans cX
 go_enter Tryz.func213,Tryz.ntmps213
 go_wp2
 go_ret
 exact⟨rfl,hBl⟩
theorem ZaR (k:Int) (l:List Mk):(l.any fun m=>m.sg != k)=!allM k l:=by
 unfold allM
 induction l with
 | nil=>rfl
 | cons m l ih =>
  rw[List.any_cons,List.all_cons,ih]
  cases h:m.sg == k<;>simp[bne,h]
theorem ZbZ (k:Int) (l:List Mk) (v:Value) (w:World) (hv:HMk w v l) (hl:l.length≤1099511627776) (r:Bool) (HR:Hid (allM k l=r)) :
  Calls Tryz.prog 153 #[v,.int .u8 k] w fun e w'=>e=.returned (.bool r)∧Below w.heap.size w w':=by
 have hBl:Below w.heap.size w (w.alloc (.cells #[.int .u8 k] 5)):=(Below.refl _ w).alloc (Nat.le_refl _) _
 have cX:(w.alloc (.cells #[.int .u8 k] 5)).cell? ⟨w.heap.size,0,none⟩=some (.int .u8 k):=(by rw[Lib.cell_of_heap (heap_alloc_new w _)];rfl)
 have hsz:(w.alloc (.cells #[.int .u8 k] 5)).heap.size=w.heap.size+1:=by simp
 have hv1:HMk (w.alloc (.cells #[.int .u8 k] 5)) v l:=hv.keep hBl (Nat.le_refl _)
 obtain⟨r2,hr2⟩:∃ b,(!r)=b:=⟨_,rfl⟩
 have HC:Hid (Calls Tryz.prog 60 #[v,.func (.func 213) #[] #[.pointer (some ⟨w.heap.size,0,none⟩)]] (w.alloc (.cells #[.int .u8 k] 5)) fun e w'=>e=.returned (.bool r2)∧Below w.heap.size w w'):=(by
  refine (ZbN 213 #[.pointer (some ⟨w.heap.size,0,none⟩)] l (fun m=>m.sg != k) v _ hv1 hl (enters_of Tryz.func213 (by kernel_rfl) rfl) ?_ r2 (by show _=_;rw[ZaR,HR.out,hr2])).mono ?_
  ·intro m _ u hu
   refine ZbW k w.heap.size m u ((World.cell?_of_block (hu.block w.heap.size (by rw[hsz];omega))).trans cX) (Nat.lt_of_lt_of_le (by rw[hsz];omega) hu.size)
  ·rintro e w' ⟨h1,h2⟩
   exact⟨h1,hBl.trans (h2.mono (by rw[hsz];omega))⟩)
 have HE:Hid ((!r2)=r):=(by show _=_;rw[← hr2,Bool.not_not])
 obtain⟨lo,lc,rfl⟩:=HMk.form hv
 clear cX hsz hv1 HR hBl hr2
 have hmf:∀ (fn:Fn) (first cap:Array Value) (w:World),(Instr.makeFunc fn first cap).run Tryz.prog w=.ok (.func fn first cap) w:=fun _ _ _ _=>rfl
 go_enter Tryz.func153,Tryz.ntmps153
 go_wp2_with fail
 refine HC.out.mono ?_
 rintro e w1 ⟨rfl,hB⟩
 go_wp2
 go_ret
 exact⟨by rw[← HE.out];rfl,hB⟩
theorem ZdA (a b:List Mk) (va vb:Value) (w:World) (ha:HMk w va a) (hb:HMk w vb b) (hla:a.length≤1099511627776) (hlb:b.length≤1099511627776) (r:Bool) (HR:Hid (mtM a b=r)) :
  Calls Tryz.prog 216 #[va,vb] w fun e w'=>e=.returned (.bool r)∧Below w.heap.size w w':=by
 have HRR:=HR.out
 unfold mtM at HRR
 obtain⟨ao,ac,rfl⟩:=HMk.form ha
 obtain⟨bo,bc,rfl⟩:=HMk.form hb
 by_cases h1:b=[]
 ·rw[if_pos h1] at HRR
  have e1:((b.length:Int) == 0)=true:=(by rw[h1];rfl)
  have hc:=ZbZ 45 a _ w ha hla r HRR
  clear HR HRR h1
  go_enter Tryz.func216,Tryz.ntmps216
  go_wp2_with fail
  refine hc.mono ?_
  rintro e w1 ⟨rfl,hB⟩
  go_wp2
  go_ret
  exact⟨rfl,hB⟩
 ·rw[if_neg h1] at HRR
  have e1:((b.length:Int) == 0)=false:=(by rw[beq_eq_false_iff_ne];intro e;exact h1 (List.eq_nil_of_length_eq_zero (by omega)))
  by_cases h2:a=[]
  ·rw[if_pos h2] at HRR
   have e2:((a.length:Int) == 0)=true:=(by rw[h2];rfl)
   have hc:=ZbZ 43 b _ w hb hlb r HRR
   clear HR HRR h1 h2
   go_enter Tryz.func216,Tryz.ntmps216
   go_wp2_with fail
   refine hc.mono ?_
   rintro e w1 ⟨rfl,hB⟩
   go_wp2
   go_ret
   exact⟨rfl,hB⟩
  ·rw[if_neg h2] at HRR
   have e2:((a.length:Int) == 0)=false:=(by rw[beq_eq_false_iff_ne];intro e;exact h2 (List.eq_nil_of_length_eq_zero (by omega)))
   cases h3:allM 33 a with
   | true =>
    rw[h3,Bool.true_and] at HRR
    have hc:=ZbZ 33 a _ w ha hla true h3
    have hd:=fun u hu=>ZbZ 33 b _ u (hb.keep hu (Nat.le_refl _)) hlb r HRR
    clear HR HRR h1 h2 h3
    go_enter Tryz.func216,Tryz.ntmps216
    go_wp2_with fail
    refine hc.mono ?_
    rintro e w1 ⟨rfl,hB⟩
    go_wp2_with fail
    refine (hd w1 hB).mono ?_
    rintro e w2 ⟨rfl,hB2⟩
    go_wp2
    go_ret
    exact⟨rfl,hB.trans (hB2.mono hB.size)⟩
   | false =>
    rw[h3,Bool.false_and] at HRR
    have HE:Hid (false=r):=HRR
    have hc:=ZbZ 33 a _ w ha hla false h3
    clear HR HRR h1 h2 h3
    go_enter Tryz.func216,Tryz.ntmps216
    go_wp2_with fail
    refine hc.mono ?_
    rintro e w1 ⟨rfl,hB⟩
    go_wp2
    go_ret
    exact⟨by rw[← HE.out];rfl,hB⟩
end

section
open Go.RowKit Go.Proofs.YtgiojkhmkeocfaaGreatDoor.Tx Go.Lib
section
variable {P:Program} (w:World)
theorem Zqw (base:Nat) (t u ty e:TypeId) (i:TypeInfo) (ht:P.underlying t=some (.slice e)) (hu:P.underlying u=some .string) (hi:P.info? e=some i) (hz:i.zero=some (.int .u8 0))
  (hsize:i.size=1) (hby:i.bytes=1)
  (v:Value) (n:Nat) (xs:List Value) (hown:w.ownsRowF base e 1 v n xs) (s:ByteArray)
  (h63:n+s.size≤maxLen) (hbytes:n+s.size≤140737488355328) (hbase:base≤w.heap.size) :
  ∃ v' w',(Builtin.append_ #[t,u] ty #[v,.string s]).run P w=.ok v' w'∧w'.ownsRowF base e 1 v' (n+s.size) (xs++strCells s)∧w.grownBy w' v.ownBlock ∧
   (v'.ownBlock=v.ownBlock∨∃ g,v'.ownBlock=some g∧w.heap.size≤g):=by
 rcases hown.2 with ⟨rfl,rfl⟩ | ⟨g,cap,cur,fz,rfl,hbg,hg,hfz,hnc,hcm,hcs,htake⟩
 ·obtain⟨v',w',r1,r2,r3,r4⟩:=run_append_own_string (P:=P) w w.heap.size t u ty e i ht hu hi hz hsize hby (.slice none 0 0) 0 xs ⟨hown.1,.inl ⟨rfl,rfl⟩⟩ s h63 hbytes (Nat.le_refl _)
  have r5:=World.ownsRowF_of r2
  refine⟨v',w',r1,⟨r5.1,?_⟩,r3,?_⟩
  ·rcases r5.2 with h | ⟨g,cap,cur,fz,q1,q2,q3⟩
   ·exact .inl h
   ·exact .inr ⟨g,cap,cur,fz,q1,by omega,q3⟩
  ·rcases r5.2 with ⟨h,_⟩ | ⟨g,cap,cur,fz,q1,q2,q3⟩
   ·exact .inl (by rw[h])
   ·exact .inr ⟨g,by rw[q1];rfl,q2⟩
 ·have hsmall:n+s.size≤9223372036854775807:=by simp only[maxLen] at h63;omega
  have hxl:xs.length=n:=by simpa using hown.1
  have hlen:(xs++strCells s).length=(n+s.size) * 1:=by rw[List.length_append,hxl,strCells_length,Nat.mul_one]
  by_cases hroom:n+s.size≤cap
  ·have hcs':cur.size=cap:=by simpa using hcs
   have hr:=run_append_room_stringF (P:=P) w t u ty e i ht hu hi hsize g n cap cur fz hg (by simpa using hfz) s hroom (by omega)
   refine⟨_,_,hr,⟨hlen,.inr ⟨g,cap,_,fz,rfl,hbg,setRow_heap w g cur _ e _ hg,by omega,hroom,hcm,?_,?_⟩⟩,⟨rfl,rfl,rfl,by simp,fun k _ hk=>setRow_other w g k _ (fun e=>hk (by simp[Value.ownBlock,e]))⟩,.inl rfl⟩
   ·simp only[List.size_toArray,List.length_append,List.length_take,List.length_drop,Array.length_toList,strCells_length]
    omega
   ·have ht':cur.toList.take n=xs:=by simpa using htake
    rw[ht',← hlen]
    exact List.take_left
  ·have holds:∀ j u,xs[j]?=some u→w.cell? ((⟨g,0,none⟩:Addr).add j)=some u:=hown.cells (g:=g) rfl
   have hr:=run_append_grow_string (P:=P) w t u ty e i (.int .u8 0) ht hu hi hz ⟨g,0,none⟩ n cap xs (by rw[hsize];simpa using hxl) holds s (by omega) (by omega) (by rw[hby];exact growslice_fits (by omega) (by omega))
   have hge:=grownCap_ge w (n+s.size) cap e
   have hcm2:grownCap w (n+s.size) cap e≤maxLen:=grownCap_le_maxLen w (n+s.size) cap e h63
   refine⟨_,_,hr,⟨hlen,.inr ⟨w.heap.size,_,_,(0,0),rfl,hbase,_root_.Go.heap_alloc_new w.drew _,Nat.zero_le _,hge,hcm2,?_,?_⟩⟩,⟨rfl,rfl,rfl,by simp,fun k hk _=>Below.heap_alloc w.drew _ k hk⟩,.inr ⟨_,rfl,Nat.le_refl _⟩⟩
   ·have hz1:(Value.int IntKind.u8 0).cells.size=1:=rfl
    simp only[Array.size_append,List.size_toArray,size_zeroCells,hz1,hxl,strCells_length]
    omega
   ·simp only[Array.toList_append,List.append_assoc]
    rw[← List.append_assoc,← hlen]
    exact List.take_left
theorem ZuY {ops:Array Oper} {rest:List Oper} {o:Oper} {a:Act} {Q:Exit→Act→World→Prop} (hgd:o.guard=none) (sl x:Operand) (t u:TypeId)
  (ho:o.op=.call { callee:=.builtin .append,args:=#[sl,x],argTypes:=#[t,u] })
  (base:Nat) (e:TypeId) (i:TypeInfo) (ht:P.underlying t=some (.slice e)) (hu:P.underlying u=some .string) (hi:P.info? e=some i) (hz:i.zero=some (.int .u8 0))
  (hsize:i.size=1) (hby:i.bytes=1)
  (v:Value) (n:Nat) (xs:List Value) (hs:a.eval sl=v) (hown:w.ownsRowF base e 1 v n xs) (s:ByteArray) (hx:a.eval x=.string s)
  (h63:n+s.size≤maxLen) (hbytes:n+s.size≤140737488355328) (hbase:base≤w.heap.size)
  (h:∀ v' w',w'.ownsRowF base e 1 v' (n+s.size) (xs++strCells s)→w.grownBy w' v.ownBlock→(v'.ownBlock=v.ownBlock∨∃ g,v'.ownBlock=some g∧w.heap.size≤g)→wpList P ops Q rest (a.put o.dst v') w'):wpList P ops Q (o::rest) a w:=by
 refine wpList_plain hgd fun K hK=>?_
 obtain⟨v',w',hr,h2,h3,h4⟩:=Zqw (P:=P) w base t u o.type e i ht hu hi hz hsize hby v n xs hown s h63 hbytes hbase
 unfold Oper.wp execOp
 simp only[ho,resolve,invoke,builtin,Sem.run_bind,Sem.run_pure,Result.andThen_ok,List.map_toArray,List.map_cons,List.map_nil,hs,hx,hr]
 exact hK _ _ (h v' w' h2 h3 h4)
end
structure Wr (B b:Nat) (v v':Value) (w w':World):Prop where
 aside:Go.Proofs.YtgiojkhmkeocfaaGreatDoor.Tx.Aside b v w w'
 fresh:Fresh v v' w
 below:Below B w w'
theorem Wr.refl (B b:Nat) (v:Value) (w:World):Wr B b v v w w:=⟨fun _ _ _ _=>rfl,.inl rfl,Below.refl B w⟩
theorem Wr.trans {B b:Nat} {v v1 v2:Value} {w w1 w2:World} (h:Wr B b v v1 w w1) (h':Wr B b v1 v2 w1 w2):Wr B b v v2 w w2:=by
 have hsz:=h.below.size
 have hn:∀ k,k<w.heap.size→v.ownBlock≠some k→v1.ownBlock≠some k:=by
  intro k hk hv
  rcases h.fresh with q | ⟨g,q,hg⟩
  ·rw[q];exact hv
  ·rw[q]
   intro e
   have:=Option.some.inj e
   omega
 refine⟨fun k hk hb hv=>(h'.aside k (by omega) hb (hn k hk hv)).trans (h.aside k hk hb hv),?_,h.below.trans h'.below⟩
 rcases h'.fresh with q | ⟨g,q,hg⟩
 ·rcases h.fresh with q2 | ⟨g,q2,hg⟩
  ·exact .inl (q.trans q2)
  ·exact .inr ⟨g,q.trans q2,hg⟩
 ·exact .inr ⟨g,q,by omega⟩
theorem Wr.low {B b:Nat} {v:Value} {w w1:World} (h:Below w.heap.size w w1) (hB:B≤w.heap.size):Wr B b v v w w1:=⟨fun k hk _ _=>h.block k hk,.inl rfl,h.mono hB⟩
theorem Wr.size {B b:Nat} {v v':Value} {w w':World} (h:Wr B b v v' w w'):w.heap.size≤w'.heap.size:=h.below.size
def Off (k:Nat) (b:Nat) (v:Value):Prop:=k≠b∧v.ownBlock≠some k
theorem Wr.block {B b:Nat} {v v':Value} {w w':World} (h:Wr B b v v' w w') {k:Nat} {o:Obj} (hk:w.heap[k]?=some o) (ho:Off k b v):w'.heap[k]?=some o∧Off k b v':=by
 have hlt:k<w.heap.size:=(Array.getElem?_eq_some_iff.1 hk).1
 refine⟨(h.aside k hlt ho.1 ho.2).trans hk,ho.1,?_⟩
 rcases h.fresh with q | ⟨g,q,hg⟩
 ·rw[q];exact ho.2
 ·rw[q]
  intro e
  have:=Option.some.inj e
  omega
end

section
open Go.RowKit Go.Proofs.YtgiojkhmkeocfaaGreatDoor.Tx
theorem cwU8:(Tryz.prog.info? 5).map (fun i=>(i.zero,i.size,i.bytes))=some (some (.int .u8 0),1,1):=by kernel_rfl
theorem cwBs:(Tryz.prog.info? 77).map (·.size)=some 2:=by kernel_rfl
def LaysB (T:TypeId):Prop:=liesAt Tryz.prog Tryz.prog.depth T (2 / Tryz.prog.cellsOf T) 0 77 1=true∧T≠5
theorem ZjN:LaysB 77:=⟨by kernel_rfl,by decide⟩
theorem Zcm {T:TypeId} (hT:LaysB T) (b:Nat) (w:World) (h0:w.cell? ⟨b,0,none⟩=some (.pointer none)) (hsh:w.shape? b=some (T,2)) (hfz:w.frozen? ⟨b,0,none⟩=false) :
  Calls Tryz.prog 80 #[.pointer (some ⟨b,0,none⟩)] w fun e w'=>e=.returned (.tuple #[])∧w'=w.setCell ⟨b,0,none⟩ (.pointer (some ⟨b,0,none⟩)):=by
 obtain⟨j,hj,hjs⟩:=Option.map_eq_some_iff.1 cwBs
 go_enter Tryz.func80,Tryz.ntmps80
 go_wp2
 rw[Lib.run_to_unsafe w ⟨b,0,none⟩ Tryz.underlying74 Tryz.underlying143 hj (by rw[hjs];decide) hsh (Nat.zero_lt_succ 1)]
 simp only[Result.andThen]
 rw[Oper.upon_value]
 go_wp2
 rw[run_callFunc_extern Tryz.func133 (by kernel_rfl) (by kernel_rfl) (by kernel_rfl) (e:=Extern.AbiNoEscape.same) (by kernel_rfl)]
 rw[Lib.run_noEscape]
 simp only[Result.andThen]
 rw[Oper.upon_value]
 go_wp2
 rw[Lib.run_from_unsafe w ⟨b,0,none⟩ Tryz.underlying143 Tryz.underlying74 hj hsh hT.1]
 simp only[Result.andThen]
 rw[Oper.upon_value]
 go_wp2
 go_end0
 exact⟨rfl,rfl⟩
theorem Zcl {T:TypeId} (hT:LaysB T) (B b:Nat) (v:Value) (bs:List Value) (w:World) (h:Bld T 5 B b v bs w) :
  Calls Tryz.prog 80 #[.pointer (some ⟨b,0,none⟩)] w fun e w'=>e=.returned (.tuple #[])∧w'.heap[b]?=some (.cells #[.pointer (some ⟨b,0,none⟩),v] T (0,0))∧Bld T 5 B b v bs w'∧Hid (∀ k,k≠b→w'.heap[k]?=w.heap[k]?)∧Below B w w':=by
 have h':=h
 obtain⟨hB,⟨p,hp,hbk⟩,hown,hne⟩:=h
 have hlt:b<w.heap.size:=(Array.getElem?_eq_some_iff.1 hbk).1
 have c0:w.cell? ⟨b,0,none⟩=some p:=by rw[Lib.cell_of_heap hbk];rfl
 have f0:w.frozen? ⟨b,0,none⟩=false:=Lib.frozen_of_heap hbk 0
 rcases hp with rfl | rfl
 ·refine (Zcm hT b w c0 (by simp[World.shape?,hbk]) f0).mono ?_
  rintro e w' ⟨rfl,rfl⟩
  have hb':(w.setCell ⟨b,0,none⟩ (.pointer (some ⟨b,0,none⟩))).heap[b]?=some (.cells #[.pointer (some ⟨b,0,none⟩),v] T (0,0)):=by
   simp only[World.setCell,Array.getElem?_modify,hbk]
   simp
  have ho:∀ k,k≠b→(w.setCell ⟨b,0,none⟩ (.pointer (some ⟨b,0,none⟩))).heap[k]?=w.heap[k]?:=fun k hk=>Below.heap_setCell w _ _ k hk
  refine⟨rfl,hb',⟨hB,⟨_,.inr rfl,hb'⟩,?_,hne⟩,ho,(Below.refl B w).setCell (p:=⟨b,0,none⟩) hB _⟩
  refine⟨hown.1,?_⟩
  rcases hown.2 with h | ⟨g,cap,cur,fz,q1,q2,q3,q4⟩
  ·exact .inl h
  ·exact .inr ⟨g,cap,cur,fz,q1,q2,(ho g (fun e=>hne (by rw[q1,e];rfl))).trans q3,q4⟩
 ·refine (Tryz.copyCheck_used b w c0).mono ?_
  rintro e w' ⟨rfl,rfl⟩
  exact⟨rfl,hbk,h',fun _ _=>rfl,Below.refl B _⟩
theorem ZbL {T:TypeId} (hT:LaysB T) (B b:Nat) (v:Value) (bs:List Value) (c:Int) (w:World) (h:Bld T 5 B b v bs w) (hlen:bs.length+1≤140737488355328) (hBw:B≤w.heap.size) :
  Calls Tryz.prog 122 #[.pointer (some ⟨b,0,none⟩),.int .u8 c] w fun e w'=>e=.returned .nilIface∧∃ v',Bld T 5 B b v' (bs++[.int .u8 c]) w'∧Wr B b v v' w w':=by
 obtain⟨i0,hi,hz0,hz1,hz2⟩:=info_parts cwU8
 go_enter Tryz.func122,Tryz.ntmps122
 go_wp2_with (go_at_call 80;refine (Zcl hT B b v bs _ h).mono ?_)
 rintro e w1 ⟨rfl,hbk,⟨hB,_,hown,hne⟩,ho1,hb1⟩
 have c0:w1.cell? ⟨b,0,none⟩=some (.pointer (some ⟨b,0,none⟩)):=by rw[Lib.cell_of_heap hbk];rfl
 have c1:w1.cell? ⟨b,1,none⟩=some v:=by rw[Lib.cell_of_heap hbk];rfl
 have hlt:b<w1.heap.size:=(Array.getElem?_eq_some_iff.1 hbk).1
 go_wp2_with (at_builtin;refine ZuX _ rfl _ _ 75 rfl B 5 i0 (.int .u8 0) 1 1 Tryz.underlying75 hi hz0 hz1 hz2 rfl (by decide) _ _ _ rfl (hown.alloc _) ⟨w1.heap.size,0,none⟩ 1 1 [.int .u8 c] rfl rfl ?c1 ?c2 ?c3 ?c4 ?c5 ?_)
 case c1 =>
  intro j u hj
  match j,hj with
  | 0,hj=>simp at hj;subst hj;simp[Addr.add]
 case c2=>intro u hu;simp at hu;subst hu;rfl
 case c3=>unfold maxLen;omega
 case c4=>omega
 case c5=>have:=hb1.size;simp;omega
 intro v' w2 hown' hgrow hfr
 have hb2:w2.heap[b]?=some (.cells #[.pointer (some ⟨b,0,none⟩),v] T (0,0)):=by
  rw[hgrow.block b (by simp;omega) (fun e=>hne e.symm),Lib.alloc_old w1 _ b hlt]
  exact hbk
 have d0:w2.cell? ⟨b,0,none⟩=some (.pointer (some ⟨b,0,none⟩)):=by rw[Lib.cell_of_heap hb2];rfl
 have d1:w2.cell? ⟨b,1,none⟩=some v:=by rw[Lib.cell_of_heap hb2];rfl
 have f1:w2.frozen? ⟨b,1,none⟩=false:=Lib.frozen_of_heap hb2 1
 obtain⟨g,cap,rfl⟩:∃ g cap,v'=.slice (some ⟨g,0,none⟩) (bs.length+1) cap:=by
  rcases hown'.2 with ⟨_,h0⟩ | ⟨g,cap,cur,fz,hv,_⟩
  ·omega
  ·exact⟨g,cap,hv⟩
 go_wp2
 go_ret
 refine⟨rfl,_,Bld.put hB (.inr rfl) hb2 (by simpa using hown') hT.2,?_,?_,?_⟩
 ·intro k hk hkb hkv
  rw[Below.heap_setCell w2 _ _ k hkb,hgrow.block k (by have:=hb1.size;simp;omega) (fun e=>hkv e.symm),Lib.alloc_old w1 _ k (by have:=hb1.size;omega)]
  exact ho1.out k hkb
 ·rcases hfr with h | ⟨g',h,h2⟩
  ·exact .inl h
  ·exact .inr ⟨g',h,by have:=hb1.size;omega⟩
 ·exact ((hb1.alloc (by have:=hb1.size;omega) _).grown hgrow (by have:=hb1.size;simp;omega) (fun k hk=>(hown.lt k hk).1)).setCell (p:=⟨b,1,none⟩) hB _
theorem ZbS {T:TypeId} (hT:LaysB T) (B b:Nat) (v:Value) (bs:List Value) (s:List UInt8) (w:World) (h:Bld T 5 B b v bs w) (hlen:bs.length+s.length≤140737488355328) (hBw:B≤w.heap.size) :
  Calls Tryz.prog 34 #[.pointer (some ⟨b,0,none⟩),.string ⟨s.toArray⟩] w fun e w'=>e=.returned (.tuple #[.int .i64 s.length,.nilIface])∧∃ v',Bld T 5 B b v' (bs++Lib.byteCells s) w'∧Wr B b v v' w w':=by
 obtain⟨i0,hi,hz0,hz1,hz2⟩:=info_parts cwU8
 go_enter Tryz.func34,Tryz.ntmps34
 go_wp2_with (go_at_call 80;refine (Zcl hT B b v bs _ h).mono ?_)
 rintro e w1 ⟨rfl,hbk,⟨hB,_,hown,hne⟩,ho1,hb1⟩
 have c0:w1.cell? ⟨b,0,none⟩=some (.pointer (some ⟨b,0,none⟩)):=by rw[Lib.cell_of_heap hbk];rfl
 have c1:w1.cell? ⟨b,1,none⟩=some v:=by rw[Lib.cell_of_heap hbk];rfl
 have hlt:b<w1.heap.size:=(Array.getElem?_eq_some_iff.1 hbk).1
 go_wp2_with (at_builtin;refine ZuY _ rfl _ _ 75 9 rfl B 5 i0 Tryz.underlying75 Tryz.underlying9 hi hz0 hz1 hz2 _ _ _ rfl hown ⟨s.toArray⟩ rfl ?c3 ?c4 ?c5 ?_)
 case c3=>unfold maxLen;show bs.length+s.length≤_;omega
 case c4=>show bs.length+s.length≤_;omega
 case c5=>have:=hb1.size;omega
 intro v' w2 hown' hgrow hfr
 have hb2:w2.heap[b]?=some (.cells #[.pointer (some ⟨b,0,none⟩),v] T (0,0)):=by
  rw[hgrow.block b hlt (fun e=>hne e.symm)]
  exact hbk
 have d0:w2.cell? ⟨b,0,none⟩=some (.pointer (some ⟨b,0,none⟩)):=by rw[Lib.cell_of_heap hb2];rfl
 have d1:w2.cell? ⟨b,1,none⟩=some v:=by rw[Lib.cell_of_heap hb2];rfl
 have f1:w2.frozen? ⟨b,1,none⟩=false:=Lib.frozen_of_heap hb2 1
 obtain⟨ao,n',cap,rfl⟩:∃ ao n' cap,v'=.slice ao n' cap:=by
  rcases hown'.2 with ⟨hv,_⟩ | ⟨g,cap,cur,fz,hv,_⟩
  ·exact⟨_,_,_,hv⟩
  ·exact⟨_,_,_,hv⟩
 have hlen2:(bs++Lib.byteCells s).length=bs.length+s.length:=by rw[List.length_append,Lib.byteCells_length]
 go_wp2
 go_ret2
 refine⟨rfl,_,Bld.put hB (.inr rfl) hb2 (by rw[hlen2];exact hown') hT.2,?_,?_,?_⟩
 ·intro k hk hkb hkv
  rw[Below.heap_setCell w2 _ _ k hkb,hgrow.block k (by have:=hb1.size;omega) (fun e=>hkv e.symm)]
  exact ho1.out k hkb
 ·rcases hfr with h | ⟨g',h,h2⟩
  ·exact .inl h
  ·exact .inr ⟨g',h,by have:=hb1.size;omega⟩
 ·exact (hb1.grown hgrow (by have:=hb1.size;omega) (fun k hk=>(hown.lt k hk).1)).setCell (p:=⟨b,1,none⟩) hB _
theorem ZbT {T:TypeId} (B b:Nat) (v:Value) (l:List UInt8) (h0:l≠[]) (w:World) (h:Bld T 5 B b v (Lib.byteCells l) w) :
  Calls Tryz.prog 41 #[.pointer (some ⟨b,0,none⟩)] w fun e w'=>e=.returned (.string ⟨l.toArray⟩)∧Below B w w':=by
 obtain⟨hB,⟨p,hp,hbk⟩,hown,hne⟩:=h
 have hl0:l.length≠0:=by simpa using h0
 rw[Lib.byteCells_length] at hown
 obtain⟨g,cap,cur,fz,rfl,hbg,hg,hfz,hnc,hcm,hcs,htake⟩:∃ g cap cur fz,v=.slice (some ⟨g,0,none⟩) l.length cap∧B≤g∧w.heap[g]?=some (.cells cur 5 fz)∧fz.2≤l.length * 1∧l.length≤cap∧cap≤maxLen∧cur.size=cap * 1∧cur.toList.take (l.length * 1)=Lib.byteCells l:=by
  rcases hown.2 with ⟨_,hz⟩ | ⟨g,cap,cur,fz,hv,r⟩
  ·exact absurd hz hl0
  ·exact⟨g,cap,cur,fz,hv,r⟩
 have c1:w.drew.cell? ⟨b,1,none⟩=some (.slice (some ⟨g,0,none⟩) l.length cap):=by
  have:w.drew.heap[b]?=some (.cells #[p,.slice (some ⟨g,0,none⟩) l.length cap] T (0,0)):=hbk
  rw[Lib.cell_of_heap this];rfl
 have hSD:(Builtin.unsafeSliceData_ #[75] 136 #[.slice (some ⟨g,0,none⟩) l.length cap]).run Tryz.prog w.drew=.ok (.pointer (some ⟨g,0,none⟩)) w.drew :=
  Lib.run_unsafeSliceData_row _ _ _ _ _ _ (by omega)
 have hUS:(Builtin.unsafeString_ #[136,3] 9 #[.pointer (some ⟨g,0,none⟩),.int .i64 l.length]).run Tryz.prog w.drew=.ok (.string ⟨l.toArray⟩) (w.drew.freeze ⟨g,0,none⟩ l.length):=by
  refine Lib.run_unsafeString_row w.drew 136 3 9 5 Tryz.underlying136 (by kernel_rfl) g cur.size (by have hg':w.drew.heap[g]?=some (.cells cur 5 fz):=hg;simp[World.shape?,hg']) l h0 (by omega) (by unfold maxLen at hcm;omega) ?_
  intro j x hx
  have:=hown.cells (g:=g) rfl j (.int .u8 x.toNat) (by simp[Lib.byteCells,hx])
  exact this
 have HF:Hid (Below B w (w.drew.freeze ⟨g,0,none⟩ l.length)):=Lib.below_freeze (Below.drew (Below.refl B w)) (p:=⟨g,0,none⟩) hbg _
 clear hfz htake hown hg
 have mixed:Tryz.prog.follows Departure.mixedOrders=true:=by kernel_rfl
 go_enter Tryz.func41,Tryz.ntmps41
 go_wp2
 go_region_o
 all_goals (go_wp2;go_ret;exact⟨rfl,HF.out⟩)
end

end Go.Proofs.YtgiojkhmkeocfaaGreatDoor
