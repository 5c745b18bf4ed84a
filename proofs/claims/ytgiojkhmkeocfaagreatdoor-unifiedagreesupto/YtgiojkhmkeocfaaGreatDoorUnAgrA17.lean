/-
  Texts that belong together, joined: UkA, UkN, UnC, UkB, UkD, UnD, UkC, UkE, UkF, UkG, UkH.
-/
import Derived.Test.YtgiojkhmkeocfaaGreatDoorUnAgrA16
import Derived.Lib.IndexMore
import Derived.Test.YtgiojkhmkeocfaaGreatDoorUnAgrA5
import Derived.ChangeKeysEq
import Derived.Laws.StructEq
import Derived.Deep.DeepCutAuto
import Derived.Deep.CutBlock

set_option maxHeartbeats 16000000
set_option maxRecDepth 100000
namespace Go.Proofs.YtgiojkhmkeocfaaGreatDoor

section
open Go.RowKit Go.Proofs.YtgiojkhmkeocfaaGreatDoor.Tx
attribute [local go_sem] ByteArray.extract_mk ZvA
def ukO (vL:Value) (p:Int):Obj:=.cells #[vL,.int .i64 p] 126
def Uk (u:World) (R:Nat) (vL:Value) (p:Int):Prop:=u.heap[R]?=some (ukO vL p)
section
variable {u u':World} {R:Nat} {vL:Value} {p:Int}
theorem Uk.cells (q:Uk u R vL p):u.cell? ⟨R,0,none⟩=some vL∧u.cell? ⟨R,1,none⟩=some (.int .i64 p):=by
 unfold Uk ukO at q
 refine⟨?_,?_⟩<;>rw[Lib.cell_of_heap q]<;>rfl
theorem Uk.frozen (q:Uk u R vL p) (j:Nat):u.frozen? ⟨R,j,none⟩=false:=Lib.frozen_of_heap q j
theorem Uk.lt (q:Uk u R vL p):R<u.heap.size:=(Array.getElem?_eq_some_iff.1 q).1
theorem Uk.dN (q:Uk u R vL p) (n:Nat):Uk (u.drewN n) R vL p:=q
theorem Uk.at (q:Uk u R vL p) (p':Int):Uk (u.setCell ⟨R,1,none⟩ (.int .i64 p')) R vL p':=heap_setCell_same u R 1 _ _ (.int .i64 p') q
theorem Uk.low (q:Uk u R vL p) (hg:Below u.heap.size u u'):Uk u' R vL p:=(hg.block R q.lt).trans q
theorem Uk.keep (q:Uk u R vL p) {g:Option Nat} (hg:u.grownBy u' g) (hr:some R≠g):Uk u' R vL p:=(hg.block R q.lt hr).trans q
end
theorem Zur (a z:Int) (w:World) :
  Calls Tryz.prog 170 #[.int .i64 a,.int .i64 z] w fun x w'=>Thr a z x w'∧Below w.heap.size w w':=by
 have HQ:Hid ((w.alloc (fltO a z)).heap[w.heap.size]?=some (fltO a z)∧Below w.heap.size w (w.alloc (fltO a z))):=⟨heap_alloc_new w _,(Below.refl _ w).alloc (Nat.le_refl _) _⟩
 go_enter Tryz.func170,Tryz.ntmps170
 go_wp2
 exact⟨rfl,⟨_,rfl,HQ.out.1⟩,HQ.out.2⟩
theorem Zuo {R:Nat} {vL:Value} {p:Nat} (z:Int) (w:World) (q:Uk w R vL (p:Int)) (hp:p≤4398046511104) :
  Calls Tryz.prog 115 #[.pointer (some ⟨R,0,none⟩),.int .i64 z] w fun x w'=>Thr ((p:Int)+1) z x w'∧w.grownBy w' (some R):=by
 obtain⟨c0,c1⟩:=q.cells
 clear q
 go_enter Tryz.func115,Tryz.ntmps115
 go_wp2_with fail
 refine (Zur ((p:Int)+1) z w).mono ?_
 rintro x w1 ⟨⟨g,rfl,hg⟩,hb⟩
 go_wp2
 exact⟨rfl,⟨_,rfl,hg⟩,ZkI hb _⟩
theorem Zup {R:Nat} {L:List (List UInt8)} {lo:Option Addr} {lc:Nat} {p:Nat} (w:World) (q:Uk w R (.slice lo L.length lc) p) (hL:HS w (.slice lo L.length lc) L) (hp:p≤L.length) (hLl:L.length≤2199023255552) (hs:∀ s∈L,s.length≤1099511627776)
  (X:Except (Nat × Int) (List UInt8 × List (List UInt8))) (HX:Hid (nxt p (L.drop p)=X)) :
  Calls Tryz.prog 168 #[.pointer (some ⟨R,0,none⟩)] w fun x w'=>LnQ R (.slice lo L.length lc) p X w x w':=by
 have hX:=HX.out
 clear HX
 by_cases hlt:p<L.length
 ·rw[Zna hlt] at hX
  obtain⟨bk,off,rfl,hbk,hcl⟩:=HS.at hL (by omega)
  have d4:=hcl p hlt
  have hsl:=hs L[p] (List.getElem_mem _)
  generalize L[p]=s at d4 hsl hX
  clear hcl hs hL
  obtain⟨c0,c1⟩:=q.cells
  have e0:((p:Int) == (L.length:Int))=false:=beq_eq_false_iff_ne.2 (by omega)
  have i1:(0:Int)≤(p:Int):=by omega
  have i2:(p:Int)<(L.length:Int):=by omega
  have i3:(p:Int).toNat=p:=by omega
  cases hf:fdB s with
  | true =>
   rw[if_pos hf] at hX
   subst hX
   have HD:Hid (s.dropLast++[10]=s):=Zfj hf
   clear q
   go_enter Tryz.func168,Tryz.ntmps168
   go_wp2_with fail
   go_quiet (fail)
   go_wp2_with fail
   have c0':(w.drewN nq).cell? ⟨R,0,none⟩=_:=c0
   have c1':(w.drewN nq).cell? ⟨R,1,none⟩=_:=c1
   have d4':(w.drewN nq).cell? ⟨bk,off+p,none⟩=_:=d4
   have HM:Hid (∀ n,∃ k,(w.drewN nq).drewN n=w.drewN k):=fun n=>⟨_,World.drewN_drewN w nq n⟩
   clear c0 c1 d4
   generalize w.drewN nq=W1 at c0' c1' d4' HM ⊢
   have j1:(0:Int)≤(p:Int):=by omega
   have j2:(p:Int)<(L.length:Int):=by omega
   have j3:(p:Int).toNat=p:=by omega
   go_quiet (fail)
   go_wp2_with fail
   refine (Tryz.strings_HasSuffix ⟨s.toArray⟩ ⟨#[10]⟩ _ (by show s.length≤_;omega)).mono ?_
   rintro e w2 ⟨rfl,rfl⟩
   have e1:Lib.hasSuffix (⟨s.toArray⟩:ByteArray).data.toList (⟨#[10]⟩:ByteArray).data.toList=true:=(Zsy s).trans hf
   rw[e1]
   clear e1 hf
   go_wp2
   go_ret
   refine⟨?_,HM.out _⟩
   rw[HD.out]
   rfl
  | false =>
   rw[if_neg (by rw[hf];decide)] at hX
   subst hX
   have q0:=q
   clear q
   go_enter Tryz.func168,Tryz.ntmps168
   go_wp2_with fail
   go_quiet (fail)
   go_wp2_with fail
   have c0':(w.drewN nq).cell? ⟨R,0,none⟩=_:=c0
   have c1':(w.drewN nq).cell? ⟨R,1,none⟩=_:=c1
   have d4':(w.drewN nq).cell? ⟨bk,off+p,none⟩=_:=d4
   have HM:Hid (∀ n,w.grownBy ((w.drewN nq).drewN n) (some R)):=fun n=>Zha (Zha (ZkI (Below.refl _ _) _) nq) n
   have HQ:Hid (∀ n,Uk ((w.drewN nq).drewN n) R (.slice (some ⟨bk,off,none⟩) L.length lc) p):=fun n=>(q0.dN nq).dN n
   clear c0 c1 d4 q0
   generalize w.drewN nq=W1 at c0' c1' d4' HM HQ ⊢
   have j1:(0:Int)≤(p:Int):=by omega
   have j2:(p:Int)<(L.length:Int):=by omega
   have j3:(p:Int).toNat=p:=by omega
   go_quiet (fail)
   go_wp2_with fail
   refine (Tryz.strings_HasSuffix ⟨s.toArray⟩ ⟨#[10]⟩ _ (by show s.length≤_;omega)).mono ?_
   rintro e w2 ⟨rfl,rfl⟩
   have e1:Lib.hasSuffix (⟨s.toArray⟩:ByteArray).data.toList (⟨#[10]⟩:ByteArray).data.toList=false:=(Zsy s).trans hf
   rw[e1]
   clear e1 hf
   go_wp2_with fail
   refine (Zuo 3 _ (HQ.out _) (by omega)).mono ?_
   rintro e w3 ⟨⟨g,rfl,hg⟩,hgr⟩
   go_wp2
   exact⟨rfl,⟨_,rfl,hg⟩,Zhe (HM.out _) hgr⟩
 ·rw[Znb (by omega)] at hX
  subst hX
  obtain⟨c0,c1⟩:=q.cells
  have e0:((p:Int) == (L.length:Int))=true:=beq_iff_eq.2 (by omega)
  have HM:Hid (∀ n,w.grownBy (w.drewN n) (some R)):=fun n=>Zha (ZkI (Below.refl _ _) _) n
  have HQ:Hid (∀ n,Uk (w.drewN n) R (.slice lo L.length lc) p):=fun n=>q.dN n
  clear q hs hL
  go_enter Tryz.func168,Tryz.ntmps168
  go_wp2_with fail
  go_quiet (fail)
  go_wp2_with fail
  refine (Zuo 1 _ (HQ.out _) (by omega)).mono ?_
  rintro e w3 ⟨⟨g,rfl,hg⟩,hgr⟩
  go_wp2
  exact⟨rfl,⟨_,rfl,hg⟩,Zhe (HM.out _) hgr⟩
theorem Zoq {L:List (List UInt8)} {p:Nat} (h:p<L.length):pkU atC (L.drop p)=atC.isPrefixOf L[p]:=by
 rw[List.drop_eq_getElem_cons h]
 rfl
theorem Ztc {R:Nat} {L:List (List UInt8)} {lo:Option Addr} {lc:Nat} {p:Nat} (w:World) (q:Uk w R (.slice lo L.length lc) p) (hL:HS w (.slice lo L.length lc) L) (hp:p≤L.length) (hLl:L.length≤2199023255552) (r:Bool) (HR:Hid (pkU atC (L.drop p)=r)) :
  Calls Tryz.prog 116 #[.pointer (some ⟨R,0,none⟩)] w fun x w'=>x=.returned (.bool r)∧∃ n,w'=w.drewN n:=by
 obtain⟨c0,c1⟩:=q.cells
 by_cases hlt:p<L.length
 ·obtain⟨bk,off,rfl,hbk,hcl⟩:=HS.at hL (by omega)
  have d4:=hcl p hlt
  have HR2:=HR.out
  rw[Zoq hlt] at HR2
  generalize L[p]=s at d4 HR2
  have hd:decide ((p:Int)<(L.length:Int))=true:=decide_eq_true (by omega)
  have i1:(0:Int)≤(p:Int):=by omega
  have i2:(p:Int)<(L.length:Int):=by omega
  have i3:(p:Int).toNat=p:=by omega
  have hhp:∀ u,Calls Tryz.prog 149 #[.string ⟨s.toArray⟩,.string ⟨atC.toArray⟩] u fun e w'=>e=.returned (.bool r)∧w'=u:=(by
   intro u
   refine (Tryz.strings_HasPrefix ⟨s.toArray⟩ ⟨atC.toArray⟩ u).mono ?_
   rintro e w' ⟨rfl,rfl⟩
   have e1:Lib.hasPrefix (⟨s.toArray⟩:ByteArray).data.toList (⟨atC.toArray⟩:ByteArray).data.toList=r:=HR2
   rw[e1]
   exact⟨rfl,rfl⟩)
  clear hcl hL q HR HR2
  go_enter Tryz.func116,Tryz.ntmps116
  go_wp2_with fail
  go_quiet ((go_at_call 149;exact Calls.quiet_of_same (hhp _)))
  go_wp2
  go_ret
  exact⟨rfl,_,rfl⟩
 ·have HE:Hid (false=r):=(by have h:=HR.out;rw[List.drop_of_length_le (by omega)] at h;exact h)
  have hd:decide ((p:Int)<(L.length:Int))=false:=decide_eq_false (by omega)
  clear hL q HR
  go_enter Tryz.func116,Tryz.ntmps116
  go_wp2_with fail
  go_quiet (fail)
  go_wp2
  go_ret
  exact⟨by rw[← HE.out];rfl,_,rfl⟩
theorem ZsY (s:List UInt8) (w:World) (hl:s.length≤1099511627776) (n:List UInt8) (r:Bool) (HN:Hid (unC s=n)) (HR:Hid (nokC s=r)) :
  Calls Tryz.prog 169 #[.string ⟨s.toArray⟩] w fun e w'=>e=.returned (pnV r n)∧Below w.heap.size w w':=by
 have hf:=ZdH s w hl n r HN HR
 cases r with
 | true =>
  have hf2:Calls Tryz.prog 146 #[.string ⟨s.toArray⟩] w fun e w'=>e=.returned (.tuple #[.string ⟨n.toArray⟩,.int .i64 0])∧Below w.heap.size w w':=hf
  clear hf
  go_enter Tryz.func169,Tryz.ntmps169
  go_wp2_with fail
  refine hf2.mono ?_
  rintro e w1 ⟨rfl,hB⟩
  go_wp2
  go_ret2
  exact⟨rfl,hB⟩
 | false =>
  have hf2:Calls Tryz.prog 146 #[.string ⟨s.toArray⟩] w fun e w'=>e=.returned (.tuple #[.string ⟨#[]⟩,.int .i64 253])∧Below w.heap.size w w':=hf
  clear hf
  go_enter Tryz.func169,Tryz.ntmps169
  go_wp2_with fail
  refine hf2.mono ?_
  rintro e w1 ⟨rfl,hB⟩
  go_wp2
  go_ret2
  exact⟨rfl,hB⟩
end

section
open Go.RowKit Go.Proofs.YtgiojkhmkeocfaaGreatDoor.Tx
attribute [local go_sem] ByteArray.extract_mk ZvA
theorem ZtU {R:Nat} {L:List (List UInt8)} {lo:Option Addr} {lc:Nat} {p:Nat} (hd:List UInt8) (h4:hd.length=4) (w:World) (q:Uk w R (.slice lo L.length lc) p) (hL:HS w (.slice lo L.length lc) L) (hp:p≤L.length) (hLl:L.length≤2199023255552) (hs:∀ s∈L,s.length≤1099511627776)
  (X:Except (Nat × Int) (List UInt8 × List (List UInt8))) (HX:Hid (namP hd p (L.drop p)=X)) :
  Calls Tryz.prog 114 #[.pointer (some ⟨R,0,none⟩),.string ⟨hd.toArray⟩] w fun x w'=>NmX R X w x w':=by
 obtain⟨Y,hY⟩:∃ Y,nxt p (L.drop p)=Y:=⟨_,rfl⟩
 have hl:=Zup w q hL hp hLl hs Y hY
 have hX:=HX.out
 unfold namP at hX
 rw[hY] at hX
 clear HX
 cases Y with
 | error z =>
  obtain⟨a,e⟩:=z
  dsimp only at hX
  subst hX
  go_enter Tryz.func114,Tryz.ntmps114
  go_wp2_with fail
  refine hl.mono ?_
  rintro x w1 ⟨⟨g,rfl,hg⟩,hgr⟩
  go_wp2
  exact⟨rfl,⟨_,rfl,hg⟩,hgr⟩
 | ok z =>
  obtain⟨s,r⟩:=z
  dsimp only at hX
  have hsl:s.length≤1099511627776:=(by
   obtain⟨_,hpl,_,hLp⟩:=Znf hY
   have hsl:=hs L[p] (List.getElem_mem hpl)
   rw[hLp,List.length_append] at hsl
   omega)
  have hl2:Calls Tryz.prog 168 #[.pointer (some ⟨R,0,none⟩)] w fun x w'=>x=.returned (.string ⟨(s++[10]).toArray⟩)∧∃ n,w'=w.drewN n:=hl
  obtain⟨sf,hsf⟩:∃ t,s++[10]=t:=⟨_,rfl⟩
  have hsfl:sf.length≤1099511627777:=(by rw[← hsf,List.length_append];simp only[List.length_cons,List.length_nil];omega)
  have hts:Lib.trimSuffix sf [10]=s:=(by rw[← hsf];exact ZsU s)
  rw[hsf] at hl2
  have HTr:Hid (∀ u,Calls Tryz.prog 137 #[.string ⟨sf.toArray⟩,.string ⟨#[10]⟩] u fun e w'=>e=.returned (.string ⟨s.toArray⟩)∧w'=u):=(by
   intro u
   refine (Tryz.strings_TrimSuffix ⟨sf.toArray⟩ ⟨#[10]⟩ u (by show sf.length≤_;omega)).mono ?_
   rintro e w' ⟨rfl,rfl⟩
   have e1:Lib.trimSuffix (⟨sf.toArray⟩:ByteArray).data.toList (⟨#[10]⟩:ByteArray).data.toList=s:=hts
   rw[e1]
   exact⟨rfl,rfl⟩)
  obtain⟨pr,hpr⟩:∃ b,hd.isPrefixOf s=b:=⟨_,rfl⟩
  rw[hpr] at hX
  have HCp:Hid (∀ u,Calls Tryz.prog 167 #[.string ⟨s.toArray⟩,.string ⟨hd.toArray⟩] u fun e w'=>e=.returned (.tuple #[.string ⟨(if pr=true then s.drop 4 else s).toArray⟩,.bool pr])∧w'=u):=(by
   intro u
   refine (Tryz.strings_CutPrefix ⟨s.toArray⟩ ⟨hd.toArray⟩ u).mono ?_
   rintro e w' ⟨rfl,rfl⟩
   have e1:Lib.hasPrefix (⟨s.toArray⟩:ByteArray).data.toList (⟨hd.toArray⟩:ByteArray).data.toList=pr:=hpr
   have e2:Lib.trimPrefix (⟨s.toArray⟩:ByteArray).data.toList (⟨hd.toArray⟩:ByteArray).data.toList=if pr=true then s.drop 4 else s:=(by
    show (if Lib.hasPrefix s hd=true then s.drop hd.length else s)=_
    rw[show Lib.hasPrefix s hd=pr from hpr,h4])
   rw[e1,e2]
   exact⟨rfl,rfl⟩)
  clear hY hl hpr hsf hts hsfl
  cases pr with
  | true =>
   rw[if_pos rfl] at hX
   have HCp2:Hid (∀ u,Calls Tryz.prog 167 #[.string ⟨s.toArray⟩,.string ⟨hd.toArray⟩] u fun e w'=>e=.returned (.tuple #[.string ⟨(s.drop 4).toArray⟩,.bool true])∧w'=u):=HCp
   clear HCp
   have hdl:(s.drop 4).length≤1099511627776:=(by rw[List.length_drop];omega)
   generalize s.drop 4=t at hX HCp2 hdl
   rw[Zmg] at hX
   obtain⟨n,hn⟩:∃ n,unC t=n:=⟨_,rfl⟩
   obtain⟨b,hb⟩:∃ b,nokC t=b:=⟨_,rfl⟩
   have hf:=fun u=>ZsY t u hdl n b hn hb
   rw[hn,hb] at hX
   clear hn hb
   cases b with
   | true =>
    rw[if_pos rfl] at hX
    dsimp only at hX
    subst hX
    have hf2:∀ u,Calls Tryz.prog 169 #[.string ⟨t.toArray⟩] u fun e w'=>e=.returned (.tuple #[.string ⟨n.toArray⟩,.int .i64 0])∧Below u.heap.size u w':=hf
    clear hf
    go_enter Tryz.func114,Tryz.ntmps114
    go_wp2_with fail
    refine hl2.mono ?_
    rintro x w1 ⟨rfl,nn,rfl⟩
    go_wp2_with fail
    refine (HTr.out _).mono ?_
    rintro x w2 ⟨rfl,rfl⟩
    go_wp2_with fail
    refine (HCp2.out _).mono ?_
    rintro x w3 ⟨rfl,rfl⟩
    go_wp2_with fail
    refine (hf2 _).mono ?_
    rintro x w4 ⟨rfl,hB2⟩
    go_wp2
    go_ret
    exact⟨rfl,(Below.dN (Below.refl _ w) nn).trans hB2⟩
   | false =>
    rw[if_neg (by decide)] at hX
    dsimp only at hX
    subst hX
    have q2:=fun nn=>q.dN nn
    have hf2:∀ u,Calls Tryz.prog 169 #[.string ⟨t.toArray⟩] u fun e w'=>e=.returned (.tuple #[.string ⟨#[]⟩,.int .i64 253])∧Below u.heap.size u w':=hf
    clear hf
    go_enter Tryz.func114,Tryz.ntmps114
    go_wp2_with fail
    refine hl2.mono ?_
    rintro x w1 ⟨rfl,nn,rfl⟩
    go_wp2_with fail
    refine (HTr.out _).mono ?_
    rintro x w2 ⟨rfl,rfl⟩
    go_wp2_with fail
    refine (HCp2.out _).mono ?_
    rintro x w3 ⟨rfl,rfl⟩
    go_wp2_with fail
    refine (hf2 _).mono ?_
    rintro x w4 ⟨rfl,hB2⟩
    have q3:=(q2 nn).low hB2
    go_wp2_with fail
    refine (Zuo 253 _ q3 (by omega)).mono ?_
    rintro e w5 ⟨⟨g,rfl,hg⟩,hgr⟩
    go_wp2
    exact⟨rfl,⟨_,rfl,by simpa using hg⟩,Zhe (ZkI ((Below.dN (Below.refl _ w) nn).trans hB2) _) hgr⟩
  | false =>
   rw[if_neg (by decide)] at hX
   subst hX
   have HCp2:Hid (∀ u,Calls Tryz.prog 167 #[.string ⟨s.toArray⟩,.string ⟨hd.toArray⟩] u fun e w'=>e=.returned (.tuple #[.string ⟨s.toArray⟩,.bool false])∧w'=u):=HCp
   clear HCp
   have q2:=fun nn=>q.dN nn
   go_enter Tryz.func114,Tryz.ntmps114
   go_wp2_with fail
   refine hl2.mono ?_
   rintro x w1 ⟨rfl,nn,rfl⟩
   go_wp2_with fail
   refine (HTr.out _).mono ?_
   rintro x w2 ⟨rfl,rfl⟩
   go_wp2_with fail
   refine (HCp2.out _).mono ?_
   rintro x w3 ⟨rfl,rfl⟩
   go_wp2_with fail
   refine (Zuo 3 _ (q2 nn) (by omega)).mono ?_
   rintro e w5 ⟨⟨g,rfl,hg⟩,hgr⟩
   go_wp2
   exact⟨rfl,⟨_,rfl,by simpa using hg⟩,Zhe (Zha (ZkI (Below.refl w.heap.size w) (some R)) nn) hgr⟩
end

section
open Ln
theorem ZeC {x:List UInt8} (hx:x≠[]) (s:List UInt8):(Lib.index s x=-1∧cutS x s=none)∨∃ k:Nat,Lib.index s x=(k:Int)∧cutS x s=some (s.take k,s.drop (k+x.length)):=by
 induction s with
 | nil =>
  left
  cases x with
  | nil=>exact absurd rfl hx
  | cons c t=>exact⟨rfl,rfl⟩
 | cons c t ih =>
  unfold Lib.index cutS
  by_cases h:x.isPrefixOf (c::t)=true
  ·rw[if_pos h,if_pos h]
   exact .inr ⟨0,rfl,by simp⟩
  ·rw[if_neg h,if_neg h]
   rcases ih with ⟨e1,e2⟩ | ⟨k,e1,e2⟩
   ·rw[e1,e2]
    exact .inl ⟨rfl,rfl⟩
   ·rw[e1,e2]
    refine .inr ⟨k+1,?_,?_⟩
    ·rw[if_neg (by simp)]
     simp
    ·have e:k+1+x.length=(k+x.length)+1:=by omega
     rw[e]
     simp
def ctA (x s:List UInt8):List UInt8:=match cutS x s with | none=>s | some (a,_)=>a
def ctB (x s:List UInt8):List UInt8:=match cutS x s with | none=>[] | some (_,b)=>b
def ctK (x s:List UInt8):Bool:=(cutS x s).isSome
theorem Zex {x:List UInt8} (hx:x≠[]) (s:List UInt8):Lib.cut s x=(ctA x s,ctB x s,ctK x s):=by
 unfold Lib.cut ctA ctB ctK
 rcases ZeC hx s with ⟨e1,e2⟩ | ⟨k,e1,e2⟩
 ·rw[e1,e2,if_neg (by decide)]
  rfl
 ·rw[e1,e2,if_pos (by omega)]
  simp
theorem Zem {x s:List UInt8} (h:ctK x s=true):cutS x s=some (ctA x s,ctB x s):=by
 unfold ctK at h
 unfold ctA ctB
 cases hq:cutS x s with
 | none=>rw[hq] at h;cases h
 | some p=>rfl
theorem Zel {x s:List UInt8} (h:ctK x s=false):cutS x s=none:=by
 unfold ctK at h
 cases hq:cutS x s with
 | none=>rfl
 | some p=>rw[hq] at h;cases h
theorem ZeA (x s:List UInt8):(ctA x s).length≤s.length∧(ctB x s).length≤s.length:=by
 by_cases hx:x=[]
 ·subst hx
  unfold ctA ctB
  cases s with
  | nil=>exact⟨Nat.le_refl _,Nat.le_refl _⟩
  | cons c t=>exact⟨by simp[cutS],by simp[cutS]⟩
 ·unfold ctA ctB
  rcases ZeC hx s with ⟨_,e2⟩ | ⟨k,_,e2⟩
  ·rw[e2]
   exact⟨Nat.le_refl _,by simp⟩
  ·rw[e2]
   exact⟨by simp only[List.length_take];omega,by simp only[List.length_drop];omega⟩
theorem Zto {s o f:List UInt8} {a an b bn:Int} {ra rb:Bool} {hd:Bool} {s1 s2 t:List UInt8} (hh:([64,64,32,45]:List UInt8).isPrefixOf s=hd) (h1:hd=true→s1=s.drop 4) (ho:ctA [32,43] s1=o) (h2:ctB [32,43] s1=s2) (hf:ctA [32,64,64] s2=f) (ht:ctB [32,64,64] s2=t)
  (ca:cntP o=if ra=true then some (a,an) else none) (cb:cntP f=if rb=true then some (b,bn) else none) :
  uhdP s=if (hd && (ctK [32,43] s1 && (ctK [32,64,64] s2 && (ra && (rb && tlB t)))))=true then some (a,an,b,bn) else none:=by
 unfold uhdP
 rw[hh]
 cases hd with
 | false=>rfl
 | true =>
  rw[if_pos rfl,← h1 rfl]
  cases hk:ctK [32,43] s1 with
  | false=>rw[Zel hk];rfl
  | true =>
   rw[Zem hk,ho,h2]
   dsimp only
   cases hk2:ctK [32,64,64] s2 with
   | false=>rw[Zel hk2];rfl
   | true =>
    rw[Zem hk2,hf,ht]
    dsimp only
    cases htl:tlB t with
    | false=>simp
    | true =>
     rw[if_pos rfl,ca,cb]
     cases ra<;>cases rb<;>rfl
theorem ZdL (s:List UInt8):cntP s=if Pn.parseE (kA s)=0 then (if kS s=true then (if Pn.parseE (kB s)=0 then some (Pn.parseV (kA s),Pn.parseV (kB s)) else none) else some (Pn.parseV (kA s),1)) else none:=by
 unfold cntP
 cases hk:kS s with
 | false =>
  obtain⟨e1,e2⟩:=Zji hk
  rw[e2,e1]
  rfl
 | true =>
  obtain⟨c,e⟩:=Zjm hk
  rw[e]
  dsimp only
  by_cases h1:Pn.parseE (kA s)=0
  ·by_cases h2:Pn.parseE (kB s)=0
   ·rw[if_pos ⟨h1,h2⟩,if_pos h1,if_pos rfl,if_pos h2]
   ·rw[if_neg (fun q=>h2 q.2),if_pos h1,if_pos rfl,if_neg h2]
  ·rw[if_neg (fun q=>h1 q.1),if_neg h1]
end

section
open Go.RowKit Go.Proofs.YtgiojkhmkeocfaaGreatDoor.Tx
attribute [local go_sem] ByteArray.extract_mk ZvA
def Mxl (w:World):Prop:=∃ m,w.cell? ⟨1,0,none⟩=some (.int .i64 m)
theorem Mxl.low {w w':World} (h:Mxl w) (hb:Below w.heap.size w w'):Mxl w':=by
 obtain⟨m,h⟩:=h
 exact⟨m,(World.cell?_of_block (hb.block _ (block_lt_of_cell h))).trans h⟩
theorem Mxl.keep {w w':World} {R:Nat} (h:Mxl w) (hg:w.grownBy w' (some R)) (hR:1<R):Mxl w':=by
 obtain⟨m,h⟩:=h
 exact⟨m,(World.cell?_of_block (hg.block _ (block_lt_of_cell h) (fun e=>by have:=Option.some.inj e;simp at this;omega))).trans h⟩
theorem ZsX (x s:List UInt8) (hx:x≠[]) (w:World) (hl:s.length≤1099511627) (hm:Mxl w) :
  Calls Tryz.prog 244 #[.string ⟨s.toArray⟩,.string ⟨x.toArray⟩] w fun e w'=>e=.returned (.tuple #[.string ⟨(ctA x s).toArray⟩,.string ⟨(ctB x s).toArray⟩,.bool (ctK x s)])∧∃ n,w'=w.drewN n:=by
 obtain⟨m,hm⟩:=hm
 refine (Tryz.strings_Cut ⟨s.toArray⟩ ⟨x.toArray⟩ m w (by show s.length<_;omega) hm).mono ?_
 rintro e w' ⟨rfl,hw⟩
 have h:=Zex hx s
 have e1:Lib.cut (⟨s.toArray⟩:ByteArray).data.toList (⟨x.toArray⟩:ByteArray).data.toList=(ctA x s,ctB x s,ctK x s):=h
 rw[e1]
 exact⟨rfl,hw⟩
def NuQ (w:World) (s:List UInt8) (e:Ending) (w':World):Prop:=∃ x n r,e=.returned (.tuple #[.int .i64 x,.int .i64 n,.bool r])∧cntP s=(if r=true then some (x,n) else none)∧Below w.heap.size w w'
theorem ZtW (s:List UInt8) (w:World) (hl:s.length≤1099511627776) :
  Calls Tryz.prog 248 #[.string ⟨s.toArray⟩] w fun e w'=>NuQ w s e w':=by
 have hkl:=Zjh s
 obtain⟨V1,hV1⟩:∃ V,Pn.parseV (kA s)=V:=⟨_,rfl⟩
 obtain⟨E1,hE1⟩:∃ V,Pn.parseE (kA s)=V:=⟨_,rfl⟩
 obtain⟨V2,hV2⟩:∃ V,Pn.parseV (kB s)=V:=⟨_,rfl⟩
 obtain⟨E2,hE2⟩:∃ V,Pn.parseE (kB s)=V:=⟨_,rfl⟩
 have P1:∀ u:World,Calls Tryz.prog 245 #[.string ⟨(kA s).toArray⟩] u fun e w'=>e=.returned (.tuple #[.int .i64 V1,.int .i64 E1])∧Below u.heap.size u w':=(by
  intro u
  have h:=ZlV (kA s) u (by unfold maxLen;omega)
  rw[hV1,hE1] at h
  exact h)
 have P2:∀ u:World,Calls Tryz.prog 245 #[.string ⟨(kB s).toArray⟩] u fun e w'=>e=.returned (.tuple #[.int .i64 V2,.int .i64 E2])∧Below u.heap.size u w':=(by
  intro u
  have h:=ZlV (kB s) u (by unfold maxLen;omega)
  rw[hV2,hE2] at h
  exact h)
 have HM:Hid (cntP s=if E1=0 then if kS s=true then if E2=0 then some (V1,V2) else none else some (V1,1) else none):=(by
  show _=_
  rw[ZdL,hV1,hE1,hV2,hE2])
 have C1:=ZlT s w hl
 obtain⟨ks,hks⟩:∃ k,kS s=k:=⟨_,rfl⟩
 rw[hks] at C1 HM
 clear hV1 hE1 hV2 hE2 hks
 by_cases he1:E1=0
 ·have f1:(E1 != 0)=false:=by simp[he1]
  have f2:(E1 == 0)=true:=by simp[he1]
  cases ks with
  | false =>
   have HN:Hid (cntP s=some (V1,1)):=(by have h:=HM.out;rw[if_pos he1,if_neg (by decide)] at h;exact h)
   clear HM he1 P2
   go_enter Tryz.func248,Tryz.ntmps248
   go_wp2_with fail
   refine C1.mono ?_
   rintro e w1 ⟨rfl,n,rfl⟩
   go_wp2_with fail
   refine (P1 _).mono ?_
   rintro e w2 ⟨rfl,hb2⟩
   go_wp2
   go_ret3
   exact⟨_,_,_,rfl,HN.out,(Below.dN (Below.refl _ w) n).trans hb2⟩
  | true =>
   have HN:Hid (cntP s=if (E2 == 0)=true then some (V1,V2) else none):=(by
    have h:=HM.out
    rw[if_pos he1,if_pos rfl] at h
    show _=_
    rw[h]
    simp)
   clear HM he1
   go_enter Tryz.func248,Tryz.ntmps248
   go_wp2_with fail
   refine C1.mono ?_
   rintro e w1 ⟨rfl,n,rfl⟩
   go_wp2_with fail
   refine (P1 _).mono ?_
   rintro e w2 ⟨rfl,hb2⟩
   go_wp2_with fail
   refine (P2 _).mono ?_
   rintro e w3 ⟨rfl,hb3⟩
   have hb23:=(Below.dN (Below.refl _ w) n).trans (hb2.trans (hb3.mono hb2.size))
   go_wp2
   go_ret3
   exact⟨_,_,_,rfl,HN.out,hb23⟩
 ·have f1:(E1 != 0)=true:=by simp[he1]
  have f2:(E1 == 0)=false:=by simp[he1]
  have HN:Hid (cntP s=none):=(by have h:=HM.out;rw[if_neg he1] at h;exact h)
  clear HM he1 P2
  go_enter Tryz.func248,Tryz.ntmps248
  go_wp2_with fail
  refine C1.mono ?_
  rintro e w1 ⟨rfl,n,rfl⟩
  go_wp2_with fail
  refine (P1 _).mono ?_
  rintro e w2 ⟨rfl,hb2⟩
  go_wp2
  go_ret3
  exact⟨_,_,_,rfl,HN.out,(Below.dN (Below.refl _ w) n).trans hb2⟩
end

section
open Go.RowKit Go.Proofs.YtgiojkhmkeocfaaGreatDoor.Tx
attribute [local go_sem] ByteArray.extract_mk ZvA
def ctV (a b:Int):Value:=.agg #[.int .i64 a,.int .i64 b]
def ctO (a b:Int):Obj:=.cells #[.int .i64 a,.int .i64 b] 230
theorem Zei (x y a b:Int) (u:World):(Op.equalIn 10000 230 (.agg #[.int .i64 x,.int .i64 y]) (.agg #[.int .i64 a,.int .i64 b])).run Tryz.prog u=.ok (x == a && y == b) u:=by
 have hu:Tryz.prog.underlying 230=some (.array 2 3):=by kernel_rfl
 have h0:(Tryz.prog.info? 3).isSome=true:=by kernel_rfl
 obtain⟨i,hi⟩:=Option.isSome_iff_exists.1 h0
 rw[run_equalIn_array u 9999 _ _ hu hi]
 have hc:Tryz.prog.cellsOf 3=1:=by kernel_rfl
 have hr:List.range 2=[0,1]:=rfl
 rw[hc,hr]
 have p0:∀ (x y:Int) (u:World),(part 3 #[.int .i64 x,.int .i64 y] (0 * 1)).run Tryz.prog u=.ok (.int .i64 x) u:=fun _ _ _=>by kernel_rfl
 have p1:∀ (x y:Int) (u:World),(part 3 #[.int .i64 x,.int .i64 y] (1 * 1)).run Tryz.prog u=.ok (.int .i64 y) u:=fun _ _ _=>by kernel_rfl
 have q1:=run_equalIn_int (P:=Tryz.prog) u 9998 3 .i64 .i64 x a Tryz.underlying3
 have q2:=run_equalIn_int (P:=Tryz.prog) u 9998 3 .i64 .i64 y b Tryz.underlying3
 simp only[Op.eqItems,Sem.run_bind,p0,p1,q1,q2,Result.andThen_ok,Sem.run_ite,Sem.run_pure]
 cases x == a<;>cases y == b<;>rfl
theorem Zej (x y a b:Int) (u:World):(binOp .eql 230 (.agg #[.int .i64 x,.int .i64 y]) (.agg #[.int .i64 a,.int .i64 b])).run Tryz.prog u=.ok (.bool (x == a && y == b)) u:=by
 rw[run_eql_struct,Zei]
 rfl
theorem Zek (x y a b:Int) (u:World):(binOp .neq 230 (.agg #[.int .i64 x,.int .i64 y]) (.agg #[.int .i64 a,.int .i64 b])).run Tryz.prog u=.ok (.bool (!(x == a && y == b))) u:=by
 rw[run_neq_struct,Zei]
 rfl
def cO (c:UInt8):Int:=if okC c=true then (tkO c:Int) else 0
def cN (c:UInt8):Int:=if okC c=true then (tkN c:Int) else 0
theorem Ztk (c:UInt8) (w:World) :
  Calls Tryz.prog 224 #[.int .u8 (c.toNat:Int)] w fun e w'=>e=.returned (ctV (cO c) (cN c))∧Below w.heap.size w w':=by
 have hcn:=c.toNat_lt
 have hE:∀ (x y:Int),cO c=x→cN c=y→ctV (cO c) (cN c)=.agg #[.int .i64 x,.int .i64 y]:=(by intro x y h1 h2;rw[h1,h2];rfl)
 by_cases h1:c=32
 ·have i1:((c.toNat:Int) == 32)=true:=(by rw[h1];rfl)
  have he:=hE 1 1 (by rw[h1];rfl) (by rw[h1];rfl)
  rw[he]
  clear h1 hE
  go_enter Tryz.func224,Tryz.ntmps224
  go_wp2
  refine bodyPost_ret (v:=.agg #[.int .i64 1,.int .i64 1]) (results_cell_row rfl _ _ w.heap.size 230 #[.int .i64 1,.int .i64 1] (0,0) _ rfl (heap_alloc_new w _) Tryz.underlying230 rfl (by kernel_rfl)) rfl ⟨rfl,(Below.refl _ w).alloc (Nat.le_refl _) _⟩
 ·have i1:((c.toNat:Int) == 32)=false:=beq_eq_false_iff_ne.2 (fun e=>h1 (by rw[← UInt8.toNat_inj];show c.toNat=32;omega))
  by_cases h2:c=45
  ·have i2:((c.toNat:Int) == 45)=true:=(by rw[h2];rfl)
   have he:=hE 1 0 (by rw[h2];rfl) (by rw[h2];rfl)
   rw[he]
   clear h1 h2 hE
   go_enter Tryz.func224,Tryz.ntmps224
   go_wp2
   refine bodyPost_ret (v:=.agg #[.int .i64 1,.int .i64 0]) (results_cell_row rfl _ _ w.heap.size 230 #[.int .i64 1,.int .i64 0] (0,0) _ rfl (heap_alloc_new w _) Tryz.underlying230 rfl (by kernel_rfl)) rfl ⟨rfl,(Below.refl _ w).alloc (Nat.le_refl _) _⟩
  ·have i2:((c.toNat:Int) == 45)=false:=beq_eq_false_iff_ne.2 (fun e=>h2 (by rw[← UInt8.toNat_inj];show c.toNat=45;omega))
   by_cases h3:c=43
   ·have i3:((c.toNat:Int) == 43)=true:=(by rw[h3];rfl)
    have he:=hE 0 1 (by rw[h3];rfl) (by rw[h3];rfl)
    rw[he]
    clear h1 h2 h3 hE
    go_enter Tryz.func224,Tryz.ntmps224
    go_wp2
    refine bodyPost_ret (v:=.agg #[.int .i64 0,.int .i64 1]) (results_cell_row rfl _ _ w.heap.size 230 #[.int .i64 0,.int .i64 1] (0,0) _ rfl (heap_alloc_new w _) Tryz.underlying230 rfl (by kernel_rfl)) rfl ⟨rfl,(Below.refl _ w).alloc (Nat.le_refl _) _⟩
   ·have i3:((c.toNat:Int) == 43)=false:=beq_eq_false_iff_ne.2 (fun e=>h3 (by rw[← UInt8.toNat_inj];show c.toNat=43;omega))
    have hk:okC c=false:=(by unfold okC;simp[h1,h2,h3])
    have he:=hE 0 0 (by unfold cO;rw[hk];rfl) (by unfold cN;rw[hk];rfl)
    rw[he]
    clear h1 h2 h3 hk hE
    go_enter Tryz.func224,Tryz.ntmps224
    go_wp2
    refine bodyPost_ret (v:=.agg #[.int .i64 0,.int .i64 0]) (results_cell_row rfl _ _ w.heap.size 230 #[.int .i64 0,.int .i64 0] (0,0) _ rfl (heap_alloc_new w _) Tryz.underlying230 rfl (by kernel_rfl)) rfl ⟨rfl,(Below.refl _ w).alloc (Nat.le_refl _) _⟩
theorem ZtD (x y a b:Int) (w:World) (r:Bool) (HR:Hid (((x == 0 || a == 0) && (y == 0 || b == 0))=r)) :
  Calls Tryz.prog 225 #[.agg #[.int .i64 x,.int .i64 y],.agg #[.int .i64 a,.int .i64 b]] w fun e w'=>e=.returned (.bool r)∧Below w.heap.size w w':=by
 have hB:Below w.heap.size w ((w.alloc (ctO x y)).alloc (ctO a b)):=((Below.refl _ w).alloc (Nat.le_refl _) _).alloc (by simp) _
 unfold ctO at hB
 cases h1:x == 0 with
 | true =>
  cases h2:y == 0 with
  | true =>
   have HE:Hid (true=r):=(by show _=_;rw[← HR.out,h1,h2];rfl)
   clear HR
   go_enter Tryz.func225,Tryz.ntmps225
   go_wp2
   go_ret
   exact⟨by rw[← HE.out];rfl,hB⟩
  | false =>
   have HE:Hid ((b == 0)=r):=(by show _=_;rw[← HR.out,h1,h2];rfl)
   clear HR
   go_enter Tryz.func225,Tryz.ntmps225
   go_wp2
   go_ret
   exact⟨by rw[← HE.out];rfl,hB⟩
 | false =>
  cases h3:a == 0 with
  | true =>
   cases h2:y == 0 with
   | true =>
    have HE:Hid (true=r):=(by show _=_;rw[← HR.out,h1,h2,h3];rfl)
    clear HR
    go_enter Tryz.func225,Tryz.ntmps225
    go_wp2
    go_ret
    exact⟨by rw[← HE.out];rfl,hB⟩
   | false =>
    have HE:Hid ((b == 0)=r):=(by show _=_;rw[← HR.out,h1,h2,h3];rfl)
    clear HR
    go_enter Tryz.func225,Tryz.ntmps225
    go_wp2
    go_ret
    exact⟨by rw[← HE.out];rfl,hB⟩
  | false =>
   have HE:Hid (false=r):=(by show _=_;rw[← HR.out,h1,h3];rfl)
   clear HR
   go_enter Tryz.func225,Tryz.ntmps225
   go_wp2
   go_ret
   exact⟨by rw[← HE.out];rfl,hB⟩
theorem Zus {R:Nat} {L:List (List UInt8)} {lo:Option Addr} {lc:Nat} {p:Nat} (w:World) (q:Uk w R (.slice lo L.length lc) p) (hL:HS w (.slice lo L.length lc) L) (hPl:Plain L) (hLl:L.length≤2199023255552)
  (t:List UInt8) (r:Bool) (HR:Hid ((t != [10] && pkM (L.drop p))=r)) :
  Calls Tryz.prog 226 #[.pointer (some ⟨R,0,none⟩),.string ⟨t.toArray⟩] w fun x w'=>x=.returned (.bool r)∧∃ n,w'=w.drewN n:=by
 obtain⟨c0,c1⟩:=q.cells
 by_cases ht:t=[10]
 ·have HE:Hid (false=r):=(by show _=_;rw[← HR.out,ht];rfl)
  subst ht
  clear HR hL q
  go_enter Tryz.func226,Tryz.ntmps226
  go_wp2_with fail
  go_quiet (fail)
  go_wp2
  go_ret
  exact⟨by rw[← HE.out];rfl,_,rfl⟩
 ·have e1:(t == [10])=false:=beq_eq_false_iff_ne.2 ht
  have e1b:(t != [10])=true:=bne_iff_ne.2 ht
  by_cases hlt:p<L.length
  ·have HE:Hid ((L[p] == markT)=r):=(by
    have h:=HR.out
    rw[Zon hPl hlt,e1b,Bool.true_and] at h
    exact h)
   obtain⟨bk,off,rfl,hbk,hcl⟩:=HS.at hL (by omega)
   have d4:=hcl p hlt
   generalize L[p]=s at d4 HE
   have HE2:Hid ((s == [92,32,78,111,32,110,101,119,108,105,110,101,32,97,116,32,101,110,100,32,111,102,32,102,105,108,101,10])=r):=HE
   have hd:decide ((p:Int)<(L.length:Int))=true:=decide_eq_true (by omega)
   clear HR hL q hcl hPl HE ht
   have i1:(0:Int)≤(p:Int):=by omega
   have i2:(p:Int)<(L.length:Int):=by omega
   have i3:(p:Int).toNat=p:=by omega
   go_enter Tryz.func226,Tryz.ntmps226
   go_wp2_with fail
   go_quiet (fail)
   go_wp2
   go_ret
   exact⟨by rw[← HE2.out];rfl,_,rfl⟩
  ·have HE:Hid (false=r):=(by
    have h:=HR.out
    rw[List.drop_of_length_le (by omega),e1b] at h
    exact h)
   have hd:decide ((p:Int)<(L.length:Int))=false:=decide_eq_false (by omega)
   clear HR hL q hPl ht
   go_enter Tryz.func226,Tryz.ntmps226
   go_wp2_with fail
   go_quiet (fail)
   go_wp2
   go_ret
   exact⟨by rw[← HE.out];rfl,_,rfl⟩
end

section
open Ln
theorem ZrU (s:List UInt8):∃ c t,s++[10]=c::t:=by
 cases s with
 | nil=>exact⟨10,[],rfl⟩
 | cons c t=>exact⟨c,t++[10],rfl⟩
theorem ZtJ {a b p:Nat} {ls r:List (List UInt8)} {s t:List UInt8} {c:UInt8} (hn:nxt p ls=.ok (s,r)) (hs:s++[10]=c::t):ulnP a b p ls=if okC c=true∧tkO c≤a∧tkN c≤b then (if (uendB c (a-tkO c) (b-tkN c) && (t != [10] && pkM r))=true then .ok (⟨c.toNat,t.dropLast⟩,p+2,r.tail) else .ok (⟨c.toNat,t⟩,p+1,r)) else .error (p+1,3):=by
 unfold ulnP
 rw[hn]
 cases s with
 | nil =>
  simp only[List.nil_append,List.cons.injEq] at hs
  obtain⟨rfl,_⟩:=hs
  rfl
 | cons d u =>
  simp only[List.cons_append,List.cons.injEq] at hs
  obtain⟨rfl,rfl⟩:=hs
  dsimp only
  split
  ·rw[List.dropLast_concat]
   have e:(u++[10] != [10])=decide (u≠[]):=by
    cases u with
    | nil=>rfl
    | cons x y =>
     have h1:¬ (x::y++[10]=[10]):=by
      intro h
      have:=congrArg List.length h
      simp at this
     rw[bne_iff_ne.2 h1]
     rfl
   rw[e]
   by_cases h1:uendB d (a-tkO d) (b-tkN d)=true
   ·by_cases h2:u=[]
    ·rw[if_neg (fun q=>q.2.1 h2),if_neg (by simp[h2])]
    ·by_cases h3:pkM r=true
     ·rw[if_pos ⟨h1,h2,h3⟩,if_pos (by simp[h1,h2,h3])]
     ·rw[if_neg (fun q=>h3 q.2.2),if_neg (by simp[h3])]
   ·rw[if_neg (fun q=>h1 q.1),if_neg (by simp[h1])]
  ·rfl
theorem ZbV {c:UInt8} (h:okC c=true):cO c=(tkO c:Int)∧cN c=(tkN c:Int)∧((cO c == 0)=(c == 43))∧((cN c == 0)=(c == 45))∧(cO c == 0 && cN c == 0)=false∧0≤cO c∧cO c≤1∧0≤cN c∧cN c≤1:=by
 rcases Znm h with rfl | rfl | rfl<;>exact⟨rfl,rfl,rfl,rfl,rfl,by decide,by decide,by decide,by decide⟩
theorem ZbU {c:UInt8} (h:okC c=false):cO c=0∧cN c=0:=by
 unfold cO cN
 rw[h]
 exact⟨rfl,rfl⟩
theorem Zfp {c:UInt8} (h:okC c=true) {a b:Nat} {a' b':Int} (ha:a'=a) (hb:b'=b):((cO c == 0 || a' == 0) && (cN c == 0 || b' == 0))=uendB c a b:=by
 obtain⟨_,_,h1,h2,_⟩:=ZbV h
 have e1:(a' == 0)=(a == 0):=by rw[ha,Bool.eq_iff_iff,beq_iff_eq,beq_iff_eq];omega
 have e2:(b' == 0)=(b == 0):=by rw[hb,Bool.eq_iff_iff,beq_iff_eq,beq_iff_eq];omega
 unfold uendB
 rw[h1,h2,e1,e2]
theorem ZjY {c:UInt8} (h:okC c=true) (t:List UInt8):sgO ⟨c.toNat,t⟩=tkO c∧sgN ⟨c.toNat,t⟩=tkN c:=⟨(ZsL h t).2.1,(ZsL h t).2.2.1⟩
end

section
open Go.RowKit Go.Proofs.YtgiojkhmkeocfaaGreatDoor.Tx
attribute [local go_sem] ByteArray.extract_mk ZvA
def hk0 (A AN B BN:Int):Value:=.agg #[.int .i64 A,.int .i64 AN,.int .i64 B,.int .i64 BN,.slice none 0 0]
theorem ZoY {B b:Nat} {w u:World} (h:Below B w u) (hb:B≤b) (z0 z1 z2 z3 z4:Value):Below B w (((((u.setCell ⟨b,0,none⟩ z0).setCell ⟨b,1,none⟩ z1).setCell ⟨b,2,none⟩ z2).setCell ⟨b,3,none⟩ z3).setCell ⟨b,4,none⟩ z4):=((((h.setCell (p:=⟨b,0,none⟩) hb z0).setCell (p:=⟨b,1,none⟩) hb z1).setCell (p:=⟨b,2,none⟩) hb z2).setCell (p:=⟨b,3,none⟩) hb z3).setCell (p:=⟨b,4,none⟩) hb z4
def BgQ (w:World) (s:List UInt8) (e:Ending) (w':World):Prop:=∃ A AN B BN r,e=.returned (.tuple #[hk0 A AN B BN,.bool r])∧uhdP s=(if r=true then some (A,AN,B,BN) else none)∧Below w.heap.size w w'
theorem ZsM (c:UInt8) (t:List UInt8):tlB (c::t)=((c.toNat:Int) == 32):=by
 show (c == 32)=_
 rw[Bool.eq_iff_iff,beq_iff_eq,beq_iff_eq,← UInt8.toNat_inj]
 show c.toNat=32↔_
 omega
theorem Ztd (s:List UInt8) (w:World) (hl:s.length≤1099511627) (hm:Mxl w) :
  Calls Tryz.prog 223 #[.string ⟨s.toArray⟩] w fun e w'=>BgQ w s e w':=by
 obtain⟨hd,hhd⟩:∃ b,([64,64,32,45]:List UInt8).isPrefixOf s=b:=⟨_,rfl⟩
 obtain⟨s1,hs1⟩:∃ t,(if hd=true then s.drop 4 else s)=t:=⟨_,rfl⟩
 have hl1:s1.length≤1099511627:=(by
  rw[← hs1]
  split
  ·rw[List.length_drop];omega
  ·exact hl)
 have hC0:∀ u,Calls Tryz.prog 167 #[.string ⟨s.toArray⟩,.string ⟨#[64,64,32,45]⟩] u fun e w'=>e=.returned (.tuple #[.string ⟨s1.toArray⟩,.bool hd])∧w'=u:=(by
  intro u
  refine (Tryz.strings_CutPrefix ⟨s.toArray⟩ ⟨#[64,64,32,45]⟩ u).mono ?_
  rintro e w' ⟨rfl,rfl⟩
  have e1:Lib.hasPrefix (⟨s.toArray⟩:ByteArray).data.toList (⟨#[64,64,32,45]⟩:ByteArray).data.toList=hd:=hhd
  have e2:Lib.trimPrefix (⟨s.toArray⟩:ByteArray).data.toList (⟨#[64,64,32,45]⟩:ByteArray).data.toList=s1:=(by
   show (if Lib.hasPrefix s [64,64,32,45]=true then s.drop 4 else s)=_
   rw[show Lib.hasPrefix s [64,64,32,45]=hd from hhd,hs1])
  rw[e1,e2]
  exact⟨rfl,rfl⟩)
 obtain⟨o,ho⟩:∃ t,ctA [32,43] s1=t:=⟨_,rfl⟩
 obtain⟨s2,hs2⟩:∃ t,ctB [32,43] s1=t:=⟨_,rfl⟩
 obtain⟨k1,hk1⟩:∃ t,ctK [32,43] s1=t:=⟨_,rfl⟩
 obtain⟨f,hf⟩:∃ t,ctA [32,64,64] s2=t:=⟨_,rfl⟩
 obtain⟨t,ht⟩:∃ t,ctB [32,64,64] s2=t:=⟨_,rfl⟩
 obtain⟨k2,hk2⟩:∃ t,ctK [32,64,64] s2=t:=⟨_,rfl⟩
 have c1:=ZeA [32,43] s1
 have c2:=ZeA [32,64,64] s2
 rw[ho,hs2] at c1
 rw[hf,ht] at c2
 have hC1:∀ u,Mxl u→Calls Tryz.prog 244 #[.string ⟨s1.toArray⟩,.string ⟨#[32,43]⟩] u fun e w'=>e=.returned (.tuple #[.string ⟨o.toArray⟩,.string ⟨s2.toArray⟩,.bool k1])∧∃ n,w'=u.drewN n:=(by
  intro u hu
  have h:=ZsX [32,43] s1 (by simp) u hl1 hu
  rw[ho,hs2,hk1] at h
  exact h)
 have hC2:∀ u,Mxl u→Calls Tryz.prog 244 #[.string ⟨s2.toArray⟩,.string ⟨#[32,64,64]⟩] u fun e w'=>e=.returned (.tuple #[.string ⟨f.toArray⟩,.string ⟨t.toArray⟩,.bool k2])∧∃ n,w'=u.drewN n:=(by
  intro u hu
  have h:=ZsX [32,64,64] s2 (by simp) u (by omega) hu
  rw[hf,ht,hk2] at h
  exact h)
 have hN1:=fun u=>ZtW o u (by omega)
 have hN2:=fun u=>ZtW f u (by omega)
 have HW:Hid (∀ (a an b bn:Int) (ra rb:Bool),cntP o=(if ra=true then some (a,an) else none)→cntP f=(if rb=true then some (b,bn) else none)→uhdP s=if (hd && (k1 && (k2 && (ra && (rb && tlB t)))))=true then some (a,an,b,bn) else none):=(by
  intro a an b bn ra rb ca cb
  have h:=Zto hhd (s1:=s1) (fun e=>by rw[← hs1,if_pos e]) ho hs2 hf ht ca cb
  rw[hk1,hk2] at h
  exact h)
 have hx1:=Hx.new w ⟨0,0,0,0,[]⟩ (.slice none 0 0)
 have hb1:Below w.heap.size w (w.alloc (hkO ⟨0,0,0,0,[]⟩ (.slice none 0 0))):=(Below.refl _ w).alloc (Nat.le_refl _) _
 have hm1:Mxl (w.alloc (hkO ⟨0,0,0,0,[]⟩ (.slice none 0 0))):=hm.low hb1
 clear hhd hs1 ho hs2 hk1 hf ht hk2 c1 c2 hl hl1 hm
 unfold hkO at hx1 hb1 hm1
 dsimp only at hx1 hb1 hm1
 go_enter Tryz.func223,Tryz.ntmps223
 go_wp2_with fail
 refine (hC0 _).mono ?_
 rintro e w1 ⟨rfl,rfl⟩
 go_wp2_with fail
 refine (hC1 _ hm1).mono ?_
 rintro e w2 ⟨rfl,n2,rfl⟩
 have hx2:=hx1.row n2
 have hb2:=Below.dN hb1 n2
 have hm2:=hm1.low (Below.dN (Below.refl _ _) n2)
 clear hx1 hb1 hm1
 generalize World.drewN _ n2=W2 at hx2 hb2 hm2 ⊢
 go_wp2_with fail
 refine (hC2 _ hm2).mono ?_
 rintro e w3 ⟨rfl,n3,rfl⟩
 have hx3:=hx2.row n3
 have hb3:=Below.dN hb2 n3
 clear hx2 hb2 hm2
 generalize World.drewN _ n3=W3 at hx3 hb3 ⊢
 go_wp2_with fail
 refine (hN1 _).mono ?_
 rintro e w4 ⟨a,an,ra,rfl,ca,hB4⟩
 have hx4:=hx3.low hB4
 have hb4:=hb3.trans (hB4.mono hb3.size)
 clear hx3 hb3 hB4
 go_wp2_with fail
 refine (hN2 _).mono ?_
 rintro e w5 ⟨b,bn,rb,rfl,cb,hB5⟩
 have hx5:=hx4.low hB5
 have hb5:=hb4.trans (hB5.mono hb4.size)
 have HU:Hid (uhdP s=if (hd && (k1 && (k2 && (ra && (rb && tlB t)))))=true then some (a,an,b,bn) else none):=HW.out a an b bn ra rb ca cb
 clear hx4 hb4 hB5 ca cb HW hC0 hC1 hC2 hN1 hN2
 obtain⟨r,hr⟩:∃ r,(hd && (k1 && (k2 && (ra && (rb && tlB t)))))=r:=⟨_,rfl⟩
 rw[hr] at HU
 have HR:Hid ((hd && (k1 && (k2 && (ra && (rb && tlB t)))))=r):=hr
 clear hr
 go_upto_region 6 with fail
 go_cut [17] (fun rv wz=>rv=.bool r∧wz=w5)
 case first =>
  cases hd with
  | false =>
   have HE:Hid (false=r):=HR
   clear HR HU
   go_wp2
   go_meet
   case rel=>exact⟨by rw[← HE.out],rfl⟩
  | true =>
  cases k1 with
  | false =>
   have HE:Hid (false=r):=HR
   clear HR HU
   go_wp2
   go_meet
   case rel=>exact⟨by rw[← HE.out],rfl⟩
  | true =>
  cases k2 with
  | false =>
   have HE:Hid (false=r):=HR
   clear HR HU
   go_wp2
   go_meet
   case rel=>exact⟨by rw[← HE.out],rfl⟩
  | true =>
  cases ra with
  | false =>
   have HE:Hid (false=r):=HR
   clear HR HU
   go_wp2
   go_meet
   case rel=>exact⟨by rw[← HE.out],rfl⟩
  | true =>
  cases rb with
  | false =>
   have HE:Hid (false=r):=HR
   clear HR HU
   go_wp2
   go_meet
   case rel=>exact⟨by rw[← HE.out],rfl⟩
  | true =>
  cases t with
  | nil =>
   have HE:Hid (true=r):=HR
   clear HR HU
   go_wp2
   go_meet
   case rel=>exact⟨by rw[← HE.out],rfl⟩
  | cons c t =>
   have HE:Hid (((c.toNat:Int) == 32)=r):=(by show _=_;rw[← ZsM c t];exact HR.out)
   have i1:(0:Int)<(t.length:Int)+1:=by omega
   clear HR HU
   go_wp2
   go_meet
   case rel=>exact⟨by rw[← HE.out],rfl⟩
 case rest =>
 obtain⟨rfl,hw5⟩:=hcut
 subst hw5
 clear HR
 obtain⟨z0,z1,z2,z3,z4⟩:=hx5.cells
 dsimp only at z0 z1 z2 z3
 have zf0:=hx5.frozen 0
 have zf1:=hx5.frozen 1
 have zf2:=hx5.frozen 2
 have zf3:=hx5.frozen 3
 have zf4:=hx5.frozen 4
 have fh:=hx5.put5 (.int .i64 a) (.int .i64 an) (.int .i64 b) (.int .i64 bn) (.slice none 0 0)
 have fb:=ZoY hb5 (Nat.le_refl _) (.int .i64 a) (.int .i64 an) (.int .i64 b) (.int .i64 bn) (.slice none 0 0)
 clear hx5 hb5
 go_wp2
 exact bodyPost_ret (results_cell_tmp rfl _ _ w.heap.size 59 #[.int .i64 a,.int .i64 an,.int .i64 b,.int .i64 bn,.slice none 0 0] (0,0) _ rfl fh Tryz.underlying59 rfl (by kernel_rfl)) rfl ⟨a,an,b,bn,r,rfl,HU.out,fb⟩
end

section
open Go.RowKit Go.Proofs.YtgiojkhmkeocfaaGreatDoor.Tx
def mk0:Obj:=.cells #[.int .u8 0,.string ⟨#[]⟩] 103
structure Mz (w:World) (R:Nat) (vL:Value) (T:Nat) (p:Nat) (a b x y:Int) (u:World):Prop where
 gr:w.grownBy u (some R)
 b1:u.heap[w.heap.size]?=some (ctO a b)
 b2:u.heap[w.heap.size+1]?=some mk0
 b3:u.heap[w.heap.size+2]?=some (ctO 0 0)
 bt:u.heap[T]?=some (ctO x y)
 ck:Uk u R vL (p:Int)
 tl:w.heap.size+2<T
 rl:R<w.heap.size
section
variable {w u u':World} {R T p:Nat} {vL:Value} {a b x y:Int}
theorem Mz.low (h:Mz w R vL T p a b x y u) (hb:Below u.heap.size u u'):Mz w R vL T p a b x y u' :=
 ⟨Zhe h.gr (ZkI hb _),(hb.block _ (Array.getElem?_eq_some_iff.1 h.b1).1).trans h.b1,(hb.block _ (Array.getElem?_eq_some_iff.1 h.b2).1).trans h.b2,(hb.block _ (Array.getElem?_eq_some_iff.1 h.b3).1).trans h.b3,(hb.block _ (Array.getElem?_eq_some_iff.1 h.bt).1).trans h.bt,h.ck.low hb,h.tl,h.rl⟩
theorem Mz.other (h:Mz w R vL T p a b x y u) {g:Nat} (j:Nat) (z:Value) (h0:w.heap.size+2<g) (h1:g≠T):Mz w R vL T p a b x y (u.setCell ⟨g,j,none⟩ z):=by
 have hs:=h.rl
 have k:∀ (i:Nat) (o:Obj),i≠g→u.heap[i]?=some o→(u.setCell ⟨g,j,none⟩ z).heap[i]?=some o:=fun i o hi ho=>(Below.heap_setCell _ _ _ i hi).trans ho
 exact⟨Zhc h.gr (by omega) j z,k _ _ (by omega) h.b1,k _ _ (by omega) h.b2,k _ _ (by omega) h.b3,k _ _ (fun e=>h1 e.symm) h.bt,k _ _ (by omega) h.ck,h.tl,h.rl⟩
theorem Mz.setA (h:Mz w R vL T p a b x y u) (z:Int):Mz w R vL T p z b x y (u.setCell ⟨w.heap.size,0,none⟩ (.int .i64 z)):=by
 have hs:=h.rl
 have ht:=h.tl
 have k:∀ (i:Nat) (o:Obj),i≠w.heap.size→u.heap[i]?=some o→(u.setCell ⟨w.heap.size,0,none⟩ (.int .i64 z)).heap[i]?=some o:=fun i o hi ho=>(Below.heap_setCell _ _ _ i hi).trans ho
 exact⟨Zhc h.gr (Nat.le_refl _) 0 _,heap_setCell_same u _ 0 _ _ _ h.b1,k _ _ (by omega) h.b2,k _ _ (by omega) h.b3,k _ _ (by omega) h.bt,k _ _ (by omega) h.ck,h.tl,h.rl⟩
theorem Mz.setB (h:Mz w R vL T p a b x y u) (z:Int):Mz w R vL T p a z x y (u.setCell ⟨w.heap.size,1,none⟩ (.int .i64 z)):=by
 have hs:=h.rl
 have ht:=h.tl
 have k:∀ (i:Nat) (o:Obj),i≠w.heap.size→u.heap[i]?=some o→(u.setCell ⟨w.heap.size,1,none⟩ (.int .i64 z)).heap[i]?=some o:=fun i o hi ho=>(Below.heap_setCell _ _ _ i hi).trans ho
 exact⟨Zhc h.gr (Nat.le_refl _) 1 _,heap_setCell_same u _ 1 _ _ _ h.b1,k _ _ (by omega) h.b2,k _ _ (by omega) h.b3,k _ _ (by omega) h.bt,k _ _ (by omega) h.ck,h.tl,h.rl⟩
theorem Mz.next (h:Mz w R vL T p a b x y u):Mz w R vL T (p+1) a b x y (u.setCell ⟨R,1,none⟩ (.int .i64 ((p:Int)+1))):=by
 have hs:=h.rl
 have ht:=h.tl
 have k:∀ (i:Nat) (o:Obj),i≠R→u.heap[i]?=some o→(u.setCell ⟨R,1,none⟩ (.int .i64 ((p:Int)+1))).heap[i]?=some o:=fun i o hi ho=>(Below.heap_setCell _ _ _ i hi).trans ho
 exact⟨Zhe h.gr (Zhd u R 1 _),k _ _ (by omega) h.b1,k _ _ (by omega) h.b2,k _ _ (by omega) h.b3,k _ _ (by omega) h.bt,by have:=h.ck.at ((p:Int)+1);simpa using this,h.tl,h.rl⟩
theorem Mz.left (h:Mz w R vL T p a b x y u):u.cell? ⟨w.heap.size,0,none⟩=some (.int .i64 a)∧u.cell? ⟨w.heap.size,1,none⟩=some (.int .i64 b)∧u.frozen? ⟨w.heap.size,0,none⟩=false∧u.frozen? ⟨w.heap.size,1,none⟩=false:=by
 have e:u.heap[w.heap.size]?=some (.cells #[.int .i64 a,.int .i64 b] 230):=h.b1
 exact⟨by rw[Lib.cell_of_heap e];rfl,by rw[Lib.cell_of_heap e];rfl,Lib.frozen_of_heap e 0,Lib.frozen_of_heap e 1⟩
theorem Mz.taken (h:Mz w R vL T p a b x y u):u.cell? ⟨T,0,none⟩=some (.int .i64 x)∧u.cell? ⟨T,1,none⟩=some (.int .i64 y):=by
 have e:u.heap[T]?=some (.cells #[.int .i64 x,.int .i64 y] 230):=h.bt
 exact⟨by rw[Lib.cell_of_heap e];rfl,by rw[Lib.cell_of_heap e];rfl⟩
theorem Mz.res (h:Mz w R vL T p a b x y u):(∀ j,u.frozen? ⟨w.heap.size+1,j,none⟩=false)∧(∀ j,u.frozen? ⟨w.heap.size+1+1,j,none⟩=false)∧u.cell? ⟨w.heap.size+1,0,none⟩=some (.int .u8 0)∧u.cell? ⟨w.heap.size+1,1,none⟩=some (.string ⟨#[]⟩)∧u.cell? ⟨w.heap.size+1+1,0,none⟩=some (.int .i64 0)∧u.cell? ⟨w.heap.size+1+1,1,none⟩=some (.int .i64 0):=by
 have e:u.heap[w.heap.size+1]?=some (.cells #[.int .u8 0,.string ⟨#[]⟩] 103):=h.b2
 have e2:u.heap[w.heap.size+1+1]?=some (.cells #[.int .i64 0,.int .i64 0] 230):=h.b3
 exact⟨fun j=>Lib.frozen_of_heap e j,fun j=>Lib.frozen_of_heap e2 j,by rw[Lib.cell_of_heap e];rfl,by rw[Lib.cell_of_heap e];rfl,by rw[Lib.cell_of_heap e2];rfl,by rw[Lib.cell_of_heap e2];rfl⟩
theorem Mz.fin (h:Mz w R vL T p a b x y u) (z:Int) (tx:List UInt8) :
  ((((u.setCell ⟨w.heap.size+1,0,none⟩ (.int .u8 z)).setCell ⟨w.heap.size+1,1,none⟩ (.string ⟨tx.toArray⟩)).setCell ⟨w.heap.size+1+1,0,none⟩ (.int .i64 a)).setCell ⟨w.heap.size+1+1,1,none⟩ (.int .i64 b)).drew.heap[w.heap.size+1]?=some (.cells #[.int .u8 z,.string ⟨tx.toArray⟩] 103) ∧
  ((((u.setCell ⟨w.heap.size+1,0,none⟩ (.int .u8 z)).setCell ⟨w.heap.size+1,1,none⟩ (.string ⟨tx.toArray⟩)).setCell ⟨w.heap.size+1+1,0,none⟩ (.int .i64 a)).setCell ⟨w.heap.size+1+1,1,none⟩ (.int .i64 b)).drew.heap[w.heap.size+1+1]?=some (.cells #[.int .i64 a,.int .i64 b] 230) ∧
  Uk ((((u.setCell ⟨w.heap.size+1,0,none⟩ (.int .u8 z)).setCell ⟨w.heap.size+1,1,none⟩ (.string ⟨tx.toArray⟩)).setCell ⟨w.heap.size+1+1,0,none⟩ (.int .i64 a)).setCell ⟨w.heap.size+1+1,1,none⟩ (.int .i64 b)).drew R vL (p:Int) ∧
  w.grownBy ((((u.setCell ⟨w.heap.size+1,0,none⟩ (.int .u8 z)).setCell ⟨w.heap.size+1,1,none⟩ (.string ⟨tx.toArray⟩)).setCell ⟨w.heap.size+1+1,0,none⟩ (.int .i64 a)).setCell ⟨w.heap.size+1+1,1,none⟩ (.int .i64 b)).drew (some R):=by
 have hr:=h.rl
 have e1:=heap_setCell_same _ _ 1 _ _ (.string ⟨tx.toArray⟩) (heap_setCell_same u _ 0 _ _ (.int .u8 z) h.b2)
 have e2:((u.setCell ⟨w.heap.size+1,0,none⟩ (.int .u8 z)).setCell ⟨w.heap.size+1,1,none⟩ (.string ⟨tx.toArray⟩)).heap[w.heap.size+1+1]?=some (ctO 0 0):=(Below.heap_setCell _ _ _ _ (show w.heap.size+1+1≠w.heap.size+1 by omega)).trans ((Below.heap_setCell _ _ _ _ (show w.heap.size+1+1≠w.heap.size+1 by omega)).trans h.b3)
 have e3:=heap_setCell_same _ _ 1 _ _ (.int .i64 b) (heap_setCell_same _ _ 0 _ _ (.int .i64 a) e2)
 refine⟨?_,e3,?_,?_⟩
 ·exact (Below.heap_setCell _ _ _ _ (show w.heap.size+1≠w.heap.size+1+1 by omega)).trans ((Below.heap_setCell _ _ _ _ (show w.heap.size+1≠w.heap.size+1+1 by omega)).trans e1)
 ·exact (Below.heap_setCell _ _ _ _ (show R≠w.heap.size+1+1 by omega)).trans ((Below.heap_setCell _ _ _ _ (show R≠w.heap.size+1+1 by omega)).trans ((Below.heap_setCell _ _ _ _ (show R≠w.heap.size+1 by omega)).trans ((Below.heap_setCell _ _ _ _ (show R≠w.heap.size+1 by omega)).trans h.ck)))
 ·exact Zha (Zhc (Zhc (Zhc (Zhc h.gr (by omega) 0 _) (by omega) 1 _) (by omega) 0 _) (by omega) 1 _) 1
end
def UlX (R:Nat) (vL:Value) (a b:Nat) (X:Except (Nat × Int) (Mk × Nat × List (List UInt8))) (w:World) (e:Ending) (w':World):Prop :=
 match X with
 | .error (z,k)=>Thr (z:Int) k e w'∧w.grownBy w' (some R)
 | .ok (m,p1,_)=>e=.returned (.tuple #[.agg #[.int .u8 m.sg,.string ⟨m.tx.toArray⟩],.agg #[.int .i64 ((a-sgO m:Nat):Int),.int .i64 ((b-sgN m:Nat):Int)]])∧Uk w' R vL (p1:Int)∧w.grownBy w' (some R)
theorem ZpA {P:Program} {fn:Func} {p q:Tmp} {ty tz:TypeId} (h:fn.results=#[.cell p ty,.cell q tz]) (tmps:Array Value) (w:World) (g g':Nat) (t t':TypeId) (cs ds:Array Value) (fr fr':Nat × Nat) (d d':TypeDesc)
  (hp:tmps.getD p undef=.pointer (some ⟨g,0,none⟩)) (hg:w.heap[g]?=some (.cells cs t fr)) (hu:P.underlying ty=some d) (hd:(match d with | .struct _ | .array _ _=>true | _=>false)=true) (hi:(P.info? ty).map (·.size)=some cs.size)
  (hq:tmps.getD q undef=.pointer (some ⟨g',0,none⟩)) (hg':w.heap[g']?=some (.cells ds t' fr')) (hu':P.underlying tz=some d') (hd':(match d' with | .struct _ | .array _ _=>true | _=>false)=true) (hi':(P.info? tz).map (·.size)=some ds.size) :
  (results fn tmps).run P w=.ok (.tuple #[.agg cs,.agg ds]) w:=by
 have hp':tmps[p]?.getD undef=.pointer (some ⟨g,0,none⟩):=by simpa using hp
 have hq':tmps[q]?.getD undef=.pointer (some ⟨g',0,none⟩):=by simpa using hq
 simp[results,h,hp',hq',asAddr,run_loadVar_row w g t ty cs fr d hg hu hd hi,run_loadVar_row w g' t' tz ds fr' d' hg' hu' hd' hi',Result.andThen]
end

section
open Go.RowKit Go.Proofs.YtgiojkhmkeocfaaGreatDoor.Tx
attribute [local go_sem] ByteArray.extract_mk ZvA
theorem ZtP {R:Nat} {L:List (List UInt8)} {lo:Option Addr} {lc:Nat} {p:Nat} (a b:Nat) (w:World) (q:Uk w R (.slice lo L.length lc) p) (HLs:Hid (∀ u,w.grownBy u (some R)→HS u (.slice lo L.length lc) L)) (hPl:Plain L) (hp:p≤L.length) (hLl:L.length≤2199023255552) (hs:∀ s∈L,s.length≤1099511627776) (ha:a≤2147483647) (hb:b≤2147483647)
  (X:Except (Nat × Int) (Mk × Nat × List (List UInt8))) (HX:Hid (ulnP a b p (L.drop p)=X)) :
  Calls Tryz.prog 172 #[.pointer (some ⟨R,0,none⟩),.agg #[.int .i64 (a:Int),.int .i64 (b:Int)]] w fun e w'=>UlX R (.slice lo L.length lc) a b X w e w':=by
 have hRl:=q.lt
 obtain⟨W0,hW0⟩:∃ u,((w.alloc (ctO a b)).alloc mk0).alloc (ctO 0 0)=u:=⟨_,rfl⟩
 have hB0:Below w.heap.size w W0:=(by rw[← hW0];exact (((Below.refl _ w).alloc (Nat.le_refl _) _).alloc (by simp) _).alloc (by simp;omega) _)
 have k1:W0.heap[w.heap.size]?=some (ctO a b):=(by
  rw[← hW0,Below.heap_alloc _ _ _ (by simp;omega),Below.heap_alloc _ _ _ (by simp)]
  exact heap_alloc_new w _)
 have k2:W0.heap[w.heap.size+1]?=some mk0:=(by
  rw[← hW0,Below.heap_alloc _ _ _ (by simp)]
  have:=heap_alloc_new (w.alloc (ctO a b)) mk0
  simpa using this)
 have k3:W0.heap[w.heap.size+2]?=some (ctO 0 0):=(by
  rw[← hW0]
  have:=heap_alloc_new ((w.alloc (ctO a b)).alloc mk0) (ctO 0 0)
  simpa using this)
 have q0:=q.low hB0
 have hL0:=HLs.out W0 (ZkI hB0 _)
 obtain⟨Y,hY⟩:∃ Y,nxt p (L.drop p)=Y:=⟨_,rfl⟩
 have hl:=Zup W0 q0 hL0 hp hLl hs Y hY
 have hX:=HX.out
 clear HX
 unfold ctO mk0 at hW0
 cases Y with
 | error z =>
  obtain⟨z1,e1⟩:=z
  have hX2:X=.error (z1,e1):=(by rw[← hX];unfold ulnP;rw[hY])
  subst hX2
  clear hX k1 k2 k3
  go_enter Tryz.func172,Tryz.ntmps172
  go_wp2_with fail
  refine hl.mono ?_
  rintro x w1 ⟨⟨g,rfl,hg⟩,hgr⟩
  go_wp2
  exact⟨rfl,⟨_,rfl,hg⟩,Zhe (ZkI hB0 _) hgr⟩
 | ok z =>
  obtain⟨s,r⟩:=z
  obtain⟨c,st,hst⟩:=ZrU s
  have hl2:Calls Tryz.prog 168 #[.pointer (some ⟨R,0,none⟩)] W0 fun x w'=>x=.returned (.string ⟨(s++[10]).toArray⟩)∧∃ n,w'=W0.drewN n:=hl
  rw[hst] at hl2
  have hr:=(Znf hY).1
  have hsl:(c::st).length≤1099511627777:=(by
   obtain⟨_,hpl,_,hLp⟩:=Znf hY
   have hsl:=hs L[p] (List.getElem_mem hpl)
   rw[hLp] at hsl
   rw[← hst]
   omega)
  rw[ZtJ hY hst] at hX
  simp only[List.length_cons] at hsl
  obtain⟨x,hx⟩:∃ x,cO c=x:=⟨_,rfl⟩
  obtain⟨y,hy⟩:∃ y,cN c=y:=⟨_,rfl⟩
  have hcn:=c.toNat_lt
  have hco:∀ u:World,Calls Tryz.prog 224 #[.int .u8 (c.toNat:Int)] u fun e w'=>e=.returned (.agg #[.int .i64 x,.int .i64 y])∧Below u.heap.size u w':=(by
   intro u
   have h:=Ztk c u
   rw[hx,hy] at h
   exact h)
  have hxy:0≤x∧x≤1∧0≤y∧y≤1:=(by
   rw[← hx,← hy]
   cases h:okC c with
   | true =>
    have:=(ZbV h).2.2.2.2.2
    exact⟨this.1,this.2.1,this.2.2.1,this.2.2.2⟩
   | false =>
    obtain⟨h1,h2⟩:=ZbU h
    rw[h1,h2]
    decide)
  have i1:(0:Int)<(st.length:Int)+1:=by omega
  clear hl
  go_enter Tryz.func172,Tryz.ntmps172
  go_wp2_with fail
  refine hl2.mono ?_
  rintro e W1 ⟨rfl,n1,rfl⟩
  have hB1:Below w.heap.size w (W0.drewN n1):=Below.dN hB0 n1
  have k1':(W0.drewN n1).heap[w.heap.size]?=some (ctO a b):=k1
  have k2':(W0.drewN n1).heap[w.heap.size+1]?=some mk0:=k2
  have k3':(W0.drewN n1).heap[w.heap.size+2]?=some (ctO 0 0):=k3
  have q1:=q0.dN n1
  generalize W0.drewN n1=W1 at hB1 k1' k2' k3' q1 ⊢
  clear hW0 hB0 k1 k2 k3 q0 hL0 hl2
  go_wp2_with fail
  refine (hco _).mono ?_
  rintro e W2 ⟨rfl,hB2⟩
  have hM3:Mz w R (.slice lo L.length lc) W2.heap.size p a b x y (W2.alloc (ctO x y)):=(by
   have hB3:Below W1.heap.size W1 (W2.alloc (ctO x y)):=hB2.alloc hB2.size _
   have e1:=Array.getElem?_eq_some_iff.1 k3'
   have e2:=hB2.size
   exact⟨ZkI (hB1.trans (hB3.mono hB1.size)) _,(hB3.block _ (Array.getElem?_eq_some_iff.1 k1').1).trans k1',(hB3.block _ (Array.getElem?_eq_some_iff.1 k2').1).trans k2',(hB3.block _ e1.1).trans k3',heap_alloc_new W2 _,q1.low hB3,by have:=e1.1;omega,hRl⟩)
  clear hB1 k1' k2' k3' q1 hB2 hco
  unfold ctO at hM3
  go_upto_region 3 with fail
  generalize W2.alloc (.cells #[.int .i64 x,.int .i64 y] 230)=W3 at hM3 ⊢
  generalize W2.heap.size=T at hM3 ⊢
  obtain⟨l0,l1,f0,f1⟩:=hM3.left
  obtain⟨t0,t1⟩:=hM3.taken
  have hM4:=hM3.setA ((a:Int)-x)
  have hM5:=hM4.setB ((b:Int)-y)
  obtain⟨l0',l1',f0',f1'⟩:=hM4.left
  obtain⟨t0',t1'⟩:=hM4.taken
  go_upto_region 5 with fail
  clear l0 l1 f0 f1 t0 t1 l0' l1' f0' f1' t0' t1' hM3 hM4
  generalize (W3.setCell ⟨w.heap.size,0,none⟩ (.int .i64 ((a:Int)-x))).setCell ⟨w.heap.size,1,none⟩ (.int .i64 ((b:Int)-y))=W5 at hM5 ⊢
  generalize hva:(a:Int)-x=va at hM5 ⊢
  generalize hvb:(b:Int)-y=vb at hM5 ⊢
  obtain⟨l0,l1,f0,f1⟩:=hM5.left
  obtain⟨t0,t1⟩:=hM5.taken
  have heq:=Zej x y 0 0
  have hgd:Tryz.prog.eqGuardType Tryz.prog.depth 230=false:=by kernel_rfl
  by_cases hgood:okC c=true∧tkO c≤a∧tkN c≤b
  ·rw[if_pos hgood] at hX
   obtain⟨g1,g2,g3⟩:=hgood
   obtain⟨u1,u2,u3,u4,u5,_⟩:=ZbV g1
   rw[hx,hy] at u5
   rw[u5] at heq
   rw[hx] at u1
   rw[hy] at u2
   have HV:Hid (va=((a-tkO c:Nat):Int)∧vb=((b-tkN c:Nat):Int)):=⟨by omega,by omega⟩
   have d1:decide (va<0)=false:=decide_eq_false (by omega)
   have d2:decide (vb<0)=false:=decide_eq_false (by omega)
   have HXY:Hid (cO c=x∧cN c=y):=⟨hx,hy⟩
   have hM7:=hM5.next
   clear u1 u2 u3 u4 u5 hva hvb hx hy
   obtain⟨r0,r1⟩:=hM5.ck.cells
   have rf1:=hM5.ck.frozen 1
   go_upto_region 8 with fail
   clear r0 r1 rf1 l0 l1 f0 f1 t0 t1 d1 d2 heq hM5
   generalize W5.setCell ⟨R,1,none⟩ (.int .i64 ((p:Int)+1))=W7 at hM7 ⊢
   have HS1:Hid (T<W7.heap.size):=(Array.getElem?_eq_some_iff.1 hM7.bt).1
   have hB8:Below W7.heap.size W7 (W7.alloc (.cells #[.int .u8 (c.toNat:Int),.string ⟨st.toArray⟩] 103)).drew:=((Below.refl _ W7).alloc (Nat.le_refl _) _).drew
   have hM8:=hM7.low hB8
   have hm8:(W7.alloc (.cells #[.int .u8 (c.toNat:Int),.string ⟨st.toArray⟩] 103)).drew.heap[W7.heap.size]?=some (.cells #[.int .u8 (c.toNat:Int),.string ⟨st.toArray⟩] 103):=heap_alloc_new W7 _
   go_region
   clear hM7 hB8
   generalize (W7.alloc (.cells #[.int .u8 (c.toNat:Int),.string ⟨st.toArray⟩] 103)).drew=W8 at hM8 hm8 ⊢
   generalize W7.heap.size=S at HS1 hm8 ⊢
   obtain⟨r1,hr1⟩:∃ z,uendB c (a-tkO c) (b-tkN c)=z:=⟨_,rfl⟩
   obtain⟨r2,hr2⟩:∃ z,(st != [10] && pkM r)=z:=⟨_,rfl⟩
   rw[hr1,hr2] at hX
   have HR1:Hid (((x == 0 || va == 0) && (y == 0 || vb == 0))=r1):=(by
    show _=_
    rw[← hr1,← HXY.out.1,← HXY.out.2]
    exact Zfp g1 HV.out.1 HV.out.2)
   have HR2:Hid ((st != [10] && pkM (L.drop (p+1)))=r2):=(by show _=_;rw[← hr,hr2])
   have HXX:Hid ((if (r1 && r2)=true then Except.ok ((⟨(c.toNat:Int),st.dropLast⟩:Mk),p+2,r.tail) else Except.ok (⟨(c.toNat:Int),st⟩,p+1,r))=X):=hX
   have Hr:Hid (r=L.drop (p+1)):=hr
   have HST:Hid (s++[10]=c::st):=hst
   have HOK:Hid (okC c=true):=g1
   clear hX hr1 hr2 hr hst hY g1 g2 g3
   go_upto_region 9 with fail
   go_cut [61] (fun bv wz=>bv=.bool (r1 && r2)∧Mz w R (.slice lo L.length lc) T (p+1) va vb x y wz∧wz.heap[S]?=some (.cells #[.int .u8 (c.toNat:Int),.string ⟨st.toArray⟩] 103))
   case first =>
    obtain⟨l0,l1,f0,f1⟩:=hM8.left
    obtain⟨t0,t1⟩:=hM8.taken
    go_wp2_with fail
    refine (ZtD x y va vb _ r1 HR1).mono ?_
    rintro e W9 ⟨rfl,hB9⟩
    have hM9:=hM8.low hB9
    have hm9:W9.heap[S]?=_:=(hB9.block S (Array.getElem?_eq_some_iff.1 hm8).1).trans hm8
    clear hM8 hm8 l0 l1 f0 f1 t0 t1 hB9
    cases r1 with
    | false =>
     go_wp2
     go_meet
     case rel=>exact⟨rfl,hM9,hm9⟩
    | true =>
     have m1:W9.cell? ⟨S,1,none⟩=some (.string ⟨st.toArray⟩):=(by rw[Lib.cell_of_heap hm9];rfl)
     go_wp2_with fail
     refine (Zus W9 hM9.ck (HLs.out W9 hM9.gr) hPl hLl st r2 HR2).mono ?_
     rintro e W10 ⟨rfl,n10,rfl⟩
     have hM10:=hM9.low (Below.dN (Below.refl _ W9) n10)
     have hm10:(W9.drewN n10).heap[S]?=_:=hm9
     go_wp2
     go_meet
     case rel=>exact⟨by simp,hM10,hm10⟩
   case rest =>
   obtain⟨rfl,hM11,hm11⟩:=hcut
   clear hM8 hm8 HR1 HR2
   go_upto_if 61 with fail
   go_cut [] (fun wz=>∃ (tx:List UInt8) (pn:Nat),Mz w R (.slice lo L.length lc) T pn va vb x y wz∧wz.heap[S]?=some (.cells #[.int .u8 (c.toNat:Int),.string ⟨tx.toArray⟩] 103)∧Hid (Except.ok ((⟨(c.toNat:Int),tx⟩:Mk),pn,L.drop pn)=X))
   case first =>
    cases hb:(r1 && r2) with
    | false =>
     have HE:Hid (Except.ok ((⟨(c.toNat:Int),st⟩:Mk),p+1,L.drop (p+1))=X):=(by have h:=HXX.out;rw[hb,if_neg (by decide),Hr.out] at h;exact h)
     clear HXX
     go_wp2
     go_meet
     case rel=>exact⟨st,p+1,hM11,hm11,HE⟩
    | true =>
     have HE:Hid (Except.ok ((⟨(c.toNat:Int),st.dropLast⟩:Mk),p+2,L.drop (p+2))=X):=(by
      have h:=HXX.out
      rw[hb,if_pos rfl,Hr.out,List.tail_drop] at h
      exact h)
     obtain⟨u,hu⟩:∃ u,st=u++[10]:=(by
      have h:=HST.out
      cases s with
      | nil =>
       simp only[List.nil_append,List.cons.injEq] at h
       have:=HOK.out
       rw[← h.1] at this
       cases this
      | cons d u =>
       simp only[List.cons_append,List.cons.injEq] at h
       exact⟨u,h.2.symm⟩)
     have hts:Lib.trimSuffix st [10]=st.dropLast:=(by rw[hu,ZsU,List.dropLast_concat])
     obtain⟨sd,hsd⟩:∃ z,st.dropLast=z:=⟨_,rfl⟩
     rw[hsd] at hts HE
     have HTr:Hid (∀ u,Calls Tryz.prog 137 #[.string ⟨st.toArray⟩,.string ⟨#[10]⟩] u fun e w'=>e=.returned (.string ⟨sd.toArray⟩)∧w'=u):=(by
      intro u
      refine (Tryz.strings_TrimSuffix ⟨st.toArray⟩ ⟨#[10]⟩ u (by show st.length≤_;omega)).mono ?_
      rintro e w' ⟨rfl,rfl⟩
      have e1:Lib.trimSuffix (⟨st.toArray⟩:ByteArray).data.toList (⟨#[10]⟩:ByteArray).data.toList=sd:=hts
      rw[e1]
      exact⟨rfl,rfl⟩)
     clear HXX hu hts hsd
     have m1:wc.cell? ⟨S,1,none⟩=some (.string ⟨st.toArray⟩):=(by rw[Lib.cell_of_heap hm11];rfl)
     have mf1:wc.frozen? ⟨S,1,none⟩=false:=Lib.frozen_of_heap hm11 1
     have hST:=HS1.out
     have htl:=hM11.tl
     have hM12:=hM11.other (g:=S) 1 (.string ⟨sd.toArray⟩) (by omega) (by omega)
     have hm12:(wc.setCell ⟨S,1,none⟩ (.string ⟨sd.toArray⟩)).heap[S]?=some (.cells #[.int .u8 (c.toNat:Int),.string ⟨sd.toArray⟩] 103):=heap_setCell_same _ S 1 _ _ _ hm11
     have hM13:=hM12.next
     have hm13:((wc.setCell ⟨S,1,none⟩ (.string ⟨sd.toArray⟩)).setCell ⟨R,1,none⟩ (.int .i64 (((p+1:Nat):Int)+1))).heap[S]?=some (.cells #[.int .u8 (c.toNat:Int),.string ⟨sd.toArray⟩] 103):=(Below.heap_setCell _ _ _ S (show S≠R by omega)).trans hm12
     obtain⟨r0,r1'⟩:=hM12.ck.cells
     have rf1:=hM12.ck.frozen 1
     have e2:((p+1:Nat):Int)=(p:Int)+1:=by omega
     rw[e2] at r1' hM13 hm13
     clear hST htl e2
     go_wp2_with fail
     refine (HTr.out _).mono ?_
     rintro e w2 ⟨rfl,rfl⟩
     go_wp2
     go_meet
     case rel=>exact⟨sd,p+1+1,hM13,hm13,HE⟩
   case rest =>
   obtain⟨tx,pn,hM14,hm14,HE⟩:=hcut
   clear hM11 hm11 HXX
   have hXe:=HE.out
   subst hXe
   obtain⟨l0,l1,f0,f1⟩:=hM14.left
   obtain⟨yf1,yf2,y0,y1,y2,y3⟩:=hM14.res
   have zf0:=yf1 0
   have zf1:=yf1 1
   have zf2:=yf2 0
   have zf3:=yf2 1
   have m0:wc.cell? ⟨S,0,none⟩=some (.int .u8 (c.toNat:Int)):=(by rw[Lib.cell_of_heap hm14];rfl)
   have m1:wc.cell? ⟨S,1,none⟩=some (.string ⟨tx.toArray⟩):=(by rw[Lib.cell_of_heap hm14];rfl)
   clear yf1 yf2
   go_upto_region 12 with fail
   obtain⟨k1,k2,k3,k4⟩:=hM14.fin (c.toNat:Int) tx
   go_region
   clear y0 y1 y2 y3 zf0 zf1 zf2 zf3 m0 m1 l0 l1 f0 f1 hM14 hm14
   go_wp2
   refine bodyPost_ret (v:=.tuple #[.agg #[.int .u8 (c.toNat:Int),.string ⟨tx.toArray⟩],.agg #[.int .i64 va,.int .i64 vb]]) (ZpA rfl _ _ (w.heap.size+1) (w.heap.size+1+1) 103 230 #[.int .u8 (c.toNat:Int),.string ⟨tx.toArray⟩] #[.int .i64 va,.int .i64 vb] (0,0) (0,0) _ _ rfl k1 Tryz.underlying103 rfl (by kernel_rfl) rfl k2 Tryz.underlying230 rfl (by kernel_rfl)) rfl ⟨?_,k3,k4⟩
   rw[(ZjY HOK.out tx).1,(ZjY HOK.out tx).2,← HV.out.1,← HV.out.2]
  ·rw[if_neg hgood] at hX
   subst hX
   have hbad:¬ (x == 0 && y == 0)=true→¬ va<0→vb<0:=(by
    intro n1 n2
    cases ho:okC c with
    | false =>
     obtain⟨h1,h2⟩:=ZbU ho
     rw[hx] at h1
     rw[hy] at h2
     exact absurd (by rw[h1,h2];rfl) n1
    | true =>
     obtain⟨u1,u2,_⟩:=ZbV ho
     rw[hx] at u1
     rw[hy] at u2
     have n3:¬ (tkO c≤a∧tkN c≤b):=fun z=>hgood ⟨ho,z⟩
     omega)
   have hck:=hM5.ck
   have hgr5:=hM5.gr
   by_cases e0:(x == 0 && y == 0)=true
   ·rw[e0] at heq
    clear hbad hM5 hgood hx hy
    go_wp2_with fail
    refine (Zuo 3 _ hck (by omega)).mono ?_
    rintro e w3 ⟨⟨g,rfl,hg⟩,hgr⟩
    go_wp2
    exact⟨rfl,⟨_,rfl,by simpa using hg⟩,Zhe hgr5 hgr⟩
   ·have e0':(x == 0 && y == 0)=false:=by simpa using e0
    rw[e0'] at heq
    by_cases e1:va<0
    ·have d1:decide (va<0)=true:=decide_eq_true e1
     clear hbad hM5 hgood hx hy e0 e0'
     go_wp2_with fail
     refine (Zuo 3 _ hck (by omega)).mono ?_
     rintro e w3 ⟨⟨g,rfl,hg⟩,hgr⟩
     go_wp2
     exact⟨rfl,⟨_,rfl,by simpa using hg⟩,Zhe hgr5 hgr⟩
    ·have d1:decide (va<0)=false:=decide_eq_false e1
     have d2:decide (vb<0)=true:=decide_eq_true (hbad e0 e1)
     clear hbad hM5 hgood hx hy e0 e0'
     go_wp2_with fail
     refine (Zuo 3 _ hck (by omega)).mono ?_
     rintro e w3 ⟨⟨g,rfl,hg⟩,hgr⟩
     go_wp2
     exact⟨rfl,⟨_,rfl,by simpa using hg⟩,Zhe hgr5 hgr⟩
end

section
open Go.RowKit Go.Proofs.YtgiojkhmkeocfaaGreatDoor.Tx
attribute [local go_sem] ByteArray.extract_mk ZvA
def uheadP (k p:Nat) (ls:List (List UInt8)):Except (Nat × Int) ((Int × Int × Int × Int) × List (List UInt8)) :=
 match nxt p ls with
 | .error e=>.error e
 | .ok (s,r)=>match uhdP s with
  | none=>.error (p+1,3)
  | some (A,AN,B,BN)=>if 4096≤k then .error (p+1,9) else if A=0∧0<AN∨B=0∧0<BN then .error (p+1,2) else .ok ((A,AN,B,BN),r)
theorem Zts (k p:Nat) (ls:List (List UInt8)):uhkP k p ls=match uheadP k p ls with
  | .error e=>.error e
  | .ok ((A,AN,B,BN),r)=>match urdP (AN.toNat+BN.toNat) AN.toNat BN.toNat (p+1) r with
   | .error e=>.error e
   | .ok (l,p1,r1)=>if smB l=true then .error (p+1,50) else .ok (⟨A,AN,B,BN,l⟩,p1,r1):=by
 unfold uhkP uheadP
 cases nxt p ls with
 | error e=>rfl
 | ok z =>
  obtain⟨s,r⟩:=z
  dsimp only
  cases uhdP s with
  | none=>rfl
  | some z =>
   obtain⟨A,AN,B,BN⟩:=z
   dsimp only
   split
   ·rfl
   ·split
    ·rfl
    ·rfl
def HdX (R:Nat) (vL:Value) (p:Nat) (X:Except (Nat × Int) ((Int × Int × Int × Int) × List (List UInt8))) (w:World) (e:Ending) (w':World):Prop :=
 match X with
 | .error (z,k)=>Thr (z:Int) k e w'∧w.grownBy w' (some R)
 | .ok ((A,AN,B,BN),_)=>e=.returned (hk0 A AN B BN)∧Uk w' R vL ((p+1:Nat):Int)∧w.grownBy w' (some R)
theorem Zgu {u:World} {R b:Nat} {vL:Value} {p:Int} (q:Uk u R vL p) (hb:R≠b) (A AN B BN:Int) (z:Value):Uk (five u b A AN B BN z) R vL p :=
 (Below.heap_setCell _ _ _ _ (show R≠b from hb)).trans ((Below.heap_setCell _ _ _ _ (show R≠b from hb)).trans ((Below.heap_setCell _ _ _ _ (show R≠b from hb)).trans ((Below.heap_setCell _ _ _ _ (show R≠b from hb)).trans ((Below.heap_setCell _ _ _ _ (show R≠b from hb)).trans q))))
theorem Zgq {w u:World} {R b:Nat} (h:w.grownBy u (some R)) (hb:w.heap.size≤b) (A AN B BN:Int) (z:Value):w.grownBy (five u b A AN B BN z) (some R):=Zhc (Zhc (Zhc (Zhc (Zhc h hb 0 _) hb 1 _) hb 2 _) hb 3 _) hb 4 _
theorem Zgr {u:World} {b:Nat} {h:Hk} {v:Value} (p:Hx u b h v) (A AN B BN:Int) (z:Value):(five u b A AN B BN z).heap[b]?=some (.cells #[.int .i64 A,.int .i64 AN,.int .i64 B,.int .i64 BN,z] 59 (0,0)):=p.put5 _ _ _ _ _
theorem Ztq {R:Nat} {L:List (List UInt8)} {lo:Option Addr} {lc:Nat} {p k:Nat} (hk:k≤4096) (w:World) (q:Uk w R (.slice lo L.length lc) p) (HLs:Hid (∀ u,w.grownBy u (some R)→HS u (.slice lo L.length lc) L)) (hp:p≤L.length) (hLl:L.length≤2199023255552) (HSl:Hid (∀ s∈L,s.length≤1099511627)) (hm:Mxl w)
  (X:Except (Nat × Int) ((Int × Int × Int × Int) × List (List UInt8))) (HX:Hid (uheadP k p (L.drop p)=X)) :
  Calls Tryz.prog 171 #[.pointer (some ⟨R,0,none⟩),.int .i64 (k:Int)] w fun e w'=>HdX R (.slice lo L.length lc) p X w e w':=by
 have hRl:=q.lt
 obtain⟨W0,hW0⟩:∃ u,w.alloc (hkO zhk (.slice none 0 0))=u:=⟨_,rfl⟩
 have hB0:Below w.heap.size w W0:=(by rw[← hW0];exact (Below.refl _ w).alloc (Nat.le_refl _) _)
 have hx0:Hx W0 w.heap.size zhk (.slice none 0 0):=(by rw[← hW0];exact Hx.new w _ _)
 have q0:=q.low hB0
 have hm0:=hm.low hB0
 obtain⟨Y,hY⟩:∃ Y,nxt p (L.drop p)=Y:=⟨_,rfl⟩
 have hl:=Zup W0 q0 (HLs.out W0 (ZkI hB0 _)) hp hLl (fun s h=>by have:=HSl.out s h;omega) Y hY
 have hX:=HX.out
 unfold uheadP at hX
 rw[hY] at hX
 clear HX hm
 unfold hkO zhk at hW0
 dsimp only at hW0
 cases Y with
 | error z =>
  obtain⟨z1,e1⟩:=z
  dsimp only at hX
  subst hX
  go_enter Tryz.func171,Tryz.ntmps171
  go_wp2_with fail
  refine hl.mono ?_
  rintro x w1 ⟨⟨g,rfl,hg⟩,hgr⟩
  go_wp2
  exact⟨rfl,⟨_,rfl,hg⟩,Zhe (ZkI hB0 _) hgr⟩
 | ok z =>
  obtain⟨s,r⟩:=z
  dsimp only at hX
  have hl2:Calls Tryz.prog 168 #[.pointer (some ⟨R,0,none⟩)] W0 fun x w'=>x=.returned (.string ⟨(s++[10]).toArray⟩)∧∃ n,w'=W0.drewN n:=hl
  have hsl:s.length≤1099511627:=(by
   obtain⟨_,hpl,_,hLp⟩:=Znf hY
   have hsl:=HSl.out L[p] (List.getElem_mem hpl)
   rw[hLp,List.length_append] at hsl
   omega)
  obtain⟨sf,hsf⟩:∃ t,s++[10]=t:=⟨_,rfl⟩
  have hsfl:sf.length≤1099511628:=(by rw[← hsf,List.length_append];simp only[List.length_cons,List.length_nil];omega)
  have hts:Lib.trimSuffix sf [10]=s:=(by rw[← hsf];exact ZsU s)
  rw[hsf] at hl2
  have HTr:Hid (∀ u,Calls Tryz.prog 137 #[.string ⟨sf.toArray⟩,.string ⟨#[10]⟩] u fun e w'=>e=.returned (.string ⟨s.toArray⟩)∧w'=u):=(by
   intro u
   refine (Tryz.strings_TrimSuffix ⟨sf.toArray⟩ ⟨#[10]⟩ u (by show sf.length≤_;omega)).mono ?_
   rintro e w' ⟨rfl,rfl⟩
   have e1:Lib.trimSuffix (⟨sf.toArray⟩:ByteArray).data.toList (⟨#[10]⟩:ByteArray).data.toList=s:=hts
   rw[e1]
   exact⟨rfl,rfl⟩)
  have HBg:Hid (∀ u,Mxl u→Calls Tryz.prog 223 #[.string ⟨s.toArray⟩] u fun e w'=>BgQ u s e w'):=fun u hu=>Ztd s u hsl hu
  clear hl hsf hsfl hts
  go_enter Tryz.func171,Tryz.ntmps171
  go_wp2_with fail
  refine hl2.mono ?_
  rintro e W1 ⟨rfl,n1,rfl⟩
  have hB1:Below w.heap.size w (W0.drewN n1):=Below.dN hB0 n1
  have hx1:=hx0.row n1
  have q1:=q0.dN n1
  have hm1:=hm0.low (Below.dN (Below.refl _ W0) n1)
  generalize W0.drewN n1=W1 at hB1 hx1 q1 hm1 ⊢
  clear hW0 hB0 hx0 q0 hm0 hl2
  go_wp2_with fail
  refine (HTr.out _).mono ?_
  rintro e W1' ⟨rfl,rfl⟩
  go_wp2_with fail
  refine (HBg.out _ hm1).mono ?_
  rintro e W2 ⟨A,AN,B,BN,ok,rfl,hU,hB2⟩
  rw[hU] at hX
  have hB2w:=hB1.trans (hB2.mono hB1.size)
  have hx2:=hx1.low hB2
  have q2:=q1.low hB2
  clear hx1 q1 hB1 hB2 hm1 HTr HBg hU
  have hB3:Below W2.heap.size W2 (W2.alloc (hkO ⟨A,AN,B,BN,[]⟩ (.slice none 0 0))):=(Below.refl _ W2).alloc (Nat.le_refl _) _
  have hB3w:=hB2w.trans (hB3.mono hB2w.size)
  have hx3:=hx2.low hB3
  have q3:=q2.low hB3
  have hh3:=Hx.new W2 ⟨A,AN,B,BN,[]⟩ (.slice none 0 0)
  unfold hkO at hB3 hB3w hx3 q3 hh3
  dsimp only at hB3 hB3w hx3 q3 hh3
  have e0:hk0 A AN B BN=.agg #[.int .i64 A,.int .i64 AN,.int .i64 B,.int .i64 BN,.slice none 0 0]:=rfl
  rw[e0]
  clear e0
  go_upto_region 2 with fail
  have HT:Hid (w.heap.size<W2.heap.size):=hx2.lt
  generalize W2.alloc (.cells #[.int .i64 A,.int .i64 AN,.int .i64 B,.int .i64 BN,.slice none 0 0] 59)=W3 at hB3 hB3w hx3 q3 hh3 ⊢
  generalize W2.heap.size=T at hB3 hh3 HT ⊢
  clear hB3 hB2w hx2 q2
  cases ok with
  | false =>
   rw[if_neg (by decide)] at hX
   dsimp only at hX
   subst hX
   go_wp2_with fail
   refine (Zuo 3 _ q3 (by omega)).mono ?_
   rintro e w3 ⟨⟨g,rfl,hg⟩,hgr⟩
   go_wp2
   exact⟨rfl,⟨_,rfl,by simpa using hg⟩,Zhe (ZkI hB3w _) hgr⟩
  | true =>
   rw[if_pos rfl] at hX
   dsimp only at hX
   by_cases hk4:4096≤k
   ·rw[if_pos hk4] at hX
    subst hX
    have e1:((k:Int) == 4096)=true:=beq_iff_eq.2 (by omega)
    go_wp2_with fail
    refine (Zuo 9 _ q3 (by omega)).mono ?_
    rintro e w3 ⟨⟨g,rfl,hg⟩,hgr⟩
    go_wp2
    exact⟨rfl,⟨_,rfl,by simpa using hg⟩,Zhe (ZkI hB3w _) hgr⟩
   ·rw[if_neg hk4] at hX
    have e1:((k:Int) == 4096)=false:=beq_eq_false_iff_ne.2 (by omega)
    obtain⟨z0,z1,z2,z3,z4⟩:=hh3.cells
    dsimp only at z0 z1 z2 z3
    go_upto_region 6 with fail
    obtain⟨rg,hrg⟩:∃ b,((A == 0 && decide (0<AN)) || (B == 0 && decide (0<BN)))=b:=⟨_,rfl⟩
    have HRG:Hid (((A == 0 && decide (0<AN)) || (B == 0 && decide (0<BN)))=rg):=hrg
    have HX4:Hid ((if rg=true then Except.error (p+1,2) else Except.ok ((A,AN,B,BN),r))=X):=(by
     show _=_
     rw[← hX,← hrg]
     simp)
    clear hX hrg
    go_cut [39] (fun bv wz=>bv=.bool rg∧wz=W3)
    case first =>
     have HR2:=HRG.out
     clear HRG HX4
     cases a1:A == 0 with
     | false =>
      rw[a1,Bool.false_and,Bool.false_or] at HR2
      cases b1:B == 0 with
      | false =>
       rw[b1,Bool.false_and] at HR2
       subst HR2
       go_wp2
       go_meet
       case rel=>exact⟨rfl,rfl⟩
      | true =>
       rw[b1,Bool.true_and] at HR2
       have HE:Hid (decide (0<BN)=rg):=HR2
       clear HR2
       go_wp2
       go_meet
       case rel=>exact⟨by rw[← HE.out],rfl⟩
     | true =>
      rw[a1,Bool.true_and] at HR2
      cases a2:decide (0<AN) with
      | true =>
       rw[a2,Bool.true_or] at HR2
       subst HR2
       go_wp2
       go_meet
       case rel=>exact⟨rfl,rfl⟩
      | false =>
       rw[a2,Bool.false_or] at HR2
       cases b1:B == 0 with
       | false =>
        rw[b1,Bool.false_and] at HR2
        subst HR2
        go_wp2
        go_meet
        case rel=>exact⟨rfl,rfl⟩
       | true =>
        rw[b1,Bool.true_and] at HR2
        have HE:Hid (decide (0<BN)=rg):=HR2
        clear HR2
        go_wp2
        go_meet
        case rel=>exact⟨by rw[← HE.out],rfl⟩
    case rest =>
    obtain⟨rfl,hwc⟩:=hcut
    subst hwc
    clear HRG
    cases rg with
    | true =>
     have hX5:=HX4.out
     rw[if_pos rfl] at hX5
     subst hX5
     clear HX4
     go_wp2_with fail
     refine (Zuo 2 _ q3 (by omega)).mono ?_
     rintro e w3 ⟨⟨g,rfl,hg⟩,hgr⟩
     go_wp2
     exact⟨rfl,⟨_,rfl,by simpa using hg⟩,Zhe (ZkI hB3w _) hgr⟩
    | false =>
     have hX5:=HX4.out
     rw[if_neg (by decide)] at hX5
     subst hX5
     clear HX4
     obtain⟨r0,r1⟩:=q3.cells
     have rf1:=q3.frozen 1
     have hne:=HT.out
     go_upto_region 9 with fail
     have q5:Uk (wc.setCell ⟨R,1,none⟩ (.int .i64 ((p:Int)+1))) R (.slice lo L.length lc) (((p+1:Nat)):Int):=(by have:=q3.at ((p:Int)+1);simpa using this)
     have g5:=Zhe (ZkI hB3w (some R)) (Zhd wc R 1 (.int .i64 ((p:Int)+1)))
     have hx5:=hx3.keep (Zhd wc R 1 (.int .i64 ((p:Int)+1))) (fun e=>by have:=Option.some.inj e;omega)
     have hh5:=hh3.keep (Zhd wc R 1 (.int .i64 ((p:Int)+1))) (fun e=>by have:=Option.some.inj e;omega)
     clear z0 z1 z2 z3 z4 r0 r1 rf1 q3 hx3 hh3 hB3w
     generalize wc.setCell ⟨R,1,none⟩ (.int .i64 ((p:Int)+1))=W5 at q5 g5 hx5 hh5 ⊢
     obtain⟨z0,z1,z2,z3,z4⟩:=hh5.cells
     dsimp only at z0 z1 z2 z3
     obtain⟨y0,y1,y2,y3,y4⟩:=hx5.cells
     dsimp only[zhk] at y0 y1 y2 y3
     have yf0:=hx5.frozen 0
     have yf1:=hx5.frozen 1
     have yf2:=hx5.frozen 2
     have yf3:=hx5.frozen 3
     have yf4:=hx5.frozen 4
     have fh:=Zgr hx5 A AN B BN (.slice none 0 0)
     have fq:=Zgu q5 (by omega:R≠w.heap.size) A AN B BN (.slice none 0 0)
     have fg:=Zgq g5 (Nat.le_refl _) A AN B BN (.slice none 0 0)
     unfold five at fh fq fg
     clear q5 g5 hx5 hh5 hne
     go_wp2
     exact bodyPost_ret (v:=hk0 A AN B BN) (results_cell_row rfl _ _ w.heap.size 59 #[.int .i64 A,.int .i64 AN,.int .i64 B,.int .i64 BN,.slice none 0 0] (0,0) _ rfl fh Tryz.underlying59 rfl (by kernel_rfl)) rfl ⟨rfl,fq,fg⟩
end

section
open Go.RowKit Go.Proofs.YtgiojkhmkeocfaaGreatDoor.Tx
def thenM (l:List Mk) (X:Except (Nat × Int) (List Mk × Nat × List (List UInt8))):Except (Nat × Int) (List Mk × Nat × List (List UInt8)) :=
 match X with
 | .error e=>.error e
 | .ok (m,p,r)=>.ok (l++m,p,r)
theorem ZsH (X:Except (Nat × Int) (List Mk × Nat × List (List UInt8))):thenM [] X=X:=by
 rcases X with e | ⟨l,p,r⟩<;>rfl
theorem Zul (n:Nat) {a b:Nat} (h:a+b=0) (p:Nat) (ls:List (List UInt8)) (l:List Mk):thenM l (urdP n a b p ls)=.ok (l,p,ls):=by
 cases n with
 | zero=>simp[urdP,thenM]
 | succ n =>
  simp only[urdP]
  rw[if_pos h]
  simp[thenM]
theorem Zun (n:Nat) {a b:Nat} (h:¬ a+b=0) (p:Nat) (ls:List (List UInt8)) (l:List Mk):thenM l (urdP (n+1) a b p ls)=match ulnP a b p ls with
  | .error e=>.error e
  | .ok (m,p1,r)=>thenM (l++[m]) (urdP n (a-sgO m) (b-sgN m) p1 r):=by
 simp only[urdP]
 rw[if_neg h]
 cases ulnP a b p ls with
 | error e=>rfl
 | ok z =>
  obtain⟨m,p1,r⟩:=z
  dsimp only
  cases urdP n (a-sgO m) (b-sgN m) p1 r with
  | error e=>rfl
  | ok z=>simp[thenM]
theorem ZtK {a b p p1:Nat} {L r:List (List UInt8)} {m:Mk} (hP:Plain L) (h:ulnP a b p (L.drop p)=.ok (m,p1,r)):r=L.drop p1∧p<p1∧p1≤L.length∧sgO m≤a∧sgN m≤b∧1≤sgO m+sgN m:=by
 have hP2:Plain (L.drop p):=fun s hs=>hP s (List.mem_of_mem_drop hs)
 obtain⟨_,a2,a3,a4,_,_,a7,a8⟩:=ZtL hP2 h
 have hs:1≤sgO m+sgN m:=by
  unfold sgO sgN
  by_cases e:m.sg=43
  ·rw[if_neg (by omega:¬ m.sg=45)]
   omega
  ·rw[if_neg e]
   omega
 have hr:r=L.drop p1:=by
  unfold ulnP at h
  split at h
  ·cases h
  ·cases h
  ·rename_i c t r0 hn
   obtain⟨h1,_⟩:=Znf hn
   split at h
   ·split at h
    ·cases h
     rw[h1,List.tail_drop]
    ·cases h
     exact h1
   ·cases h
 rw[List.length_drop] at a7 a8
 refine⟨hr,by omega,?_,a3,a4,hs⟩
 by_cases hp:p≤L.length
 ·omega
 ·omega
def ukN (u:World) (R:Nat):Nat:=match u.cell? ⟨R,1,none⟩ with
 | some v=>(intOf v).toNat
 | none=>0
theorem ZtE {u:World} {R:Nat} {vL:Value} {p:Nat} (h:Uk u R vL (p:Int)):ukN u R=p:=by
 unfold ukN
 rw[h.cells.2]
 simp[intOf]
structure Uz (w:World) (R T C:Nat) (vL:Value) (A AN B BN:Int) (v:Value) (l:List Mk) (a b p:Nat) (u:World):Prop where
 gr:w.grownBy u (some R)
 bg:Hx u w.heap.size zhk (.slice none 0 0)
 bh:Hx u T ⟨A,AN,B,BN,l⟩ v
 bl:u.heap[C]?=some (ctO a b)
 own:u.ownsRow w.heap.size 103 2 v l.length (mkcells l)
 ck:Uk u R vL (p:Int)
 tl:w.heap.size<T
 cl:T<C
 rl:R<w.heap.size
section
variable {w u u':World} {R T C:Nat} {vL v:Value} {A AN B BN:Int} {l:List Mk} {a b p p':Nat}
theorem Uz.keep (h:Uz w R T C vL A AN B BN v l a b p u) (hb:Below u.heap.size u u'):Uz w R T C vL A AN B BN v l a b p u' :=
 ⟨Zhe h.gr (ZkI hb _),h.bg.low hb,h.bh.low hb,(hb.block _ (Array.getElem?_eq_some_iff.1 h.bl).1).trans h.bl,ZnI h.own hb,h.ck.low hb,h.tl,h.cl,h.rl⟩
theorem Uz.call (h:Uz w R T C vL A AN B BN v l a b p u) (hg:u.grownBy u' (some R)) (q:Uk u' R vL (p':Int)):Uz w R T C vL A AN B BN v l a b p' u':=by
 have h1:=h.tl
 have h2:=h.cl
 have h3:=h.rl
 exact⟨Zhe h.gr hg,h.bg.keep hg (fun e=>by have:=Option.some.inj e;omega),h.bh.keep hg (fun e=>by have:=Option.some.inj e;omega),(hg.block C (Array.getElem?_eq_some_iff.1 h.bl).1 (fun e=>by have:=Option.some.inj e;omega)).trans h.bl,ZnG h.own hg h.rl,q,h.tl,h.cl,h.rl⟩
theorem Uz.other (h:Uz w R T C vL A AN B BN v l a b p u) {S:Nat} {cs:Array Value} {t:TypeId} (hS:u.heap[S]?=some (.cells cs t)) (ht:103≠t∨v.ownBlock≠some S) (h0:C<S) (j:Nat) (z:Value):Uz w R T C vL A AN B BN v l a b p (u.setCell ⟨S,j,none⟩ z):=by
 have h1:=h.tl
 have h2:=h.cl
 have h3:=h.rl
 have hg:=Zhd u S j z
 refine⟨Zhc h.gr (by omega) j z,h.bg.keep hg (fun e=>by have:=Option.some.inj e;omega),h.bh.keep hg (fun e=>by have:=Option.some.inj e;omega),(Below.heap_setCell _ _ _ _ (show C≠S by omega)).trans h.bl,h.own.kept hg (.inr ?_),h.ck.keep hg (fun e=>by have:=Option.some.inj e;omega),h.tl,h.cl,h.rl⟩
 rcases ht with ht | ht
 ·exact ZnB h.own hS ht
 ·exact ht
theorem Uz.setA (h:Uz w R T C vL A AN B BN v l a b p u) (z:Nat):Uz w R T C vL A AN B BN v l z b p (u.setCell ⟨C,0,none⟩ (.int .i64 (z:Int))):=by
 have h1:=h.tl
 have h2:=h.cl
 have h3:=h.rl
 have hg:=Zhd u C 0 (.int .i64 (z:Int))
 exact⟨Zhc h.gr (by omega) 0 _,h.bg.keep hg (fun e=>by have:=Option.some.inj e;omega),h.bh.keep hg (fun e=>by have:=Option.some.inj e;omega),heap_setCell_same u C 0 _ _ _ h.bl,h.own.kept hg (.inr (ZnB h.own h.bl (by decide))),h.ck.keep hg (fun e=>by have:=Option.some.inj e;omega),h.tl,h.cl,h.rl⟩
theorem Uz.setB (h:Uz w R T C vL A AN B BN v l a b p u) (z:Nat):Uz w R T C vL A AN B BN v l a z p (u.setCell ⟨C,1,none⟩ (.int .i64 (z:Int))):=by
 have h1:=h.tl
 have h2:=h.cl
 have h3:=h.rl
 have hg:=Zhd u C 1 (.int .i64 (z:Int))
 exact⟨Zhc h.gr (by omega) 1 _,h.bg.keep hg (fun e=>by have:=Option.some.inj e;omega),h.bh.keep hg (fun e=>by have:=Option.some.inj e;omega),heap_setCell_same u C 1 _ _ _ h.bl,h.own.kept hg (.inr (ZnB h.own h.bl (by decide))),h.ck.keep hg (fun e=>by have:=Option.some.inj e;omega),h.tl,h.cl,h.rl⟩
theorem Uz.left (h:Uz w R T C vL A AN B BN v l a b p u):u.cell? ⟨C,0,none⟩=some (.int .i64 (a:Int))∧u.cell? ⟨C,1,none⟩=some (.int .i64 (b:Int))∧u.frozen? ⟨C,0,none⟩=false∧u.frozen? ⟨C,1,none⟩=false:=by
 have e:u.heap[C]?=some (.cells #[.int .i64 (a:Int),.int .i64 (b:Int)] 230):=h.bl
 exact⟨by rw[Lib.cell_of_heap e];rfl,by rw[Lib.cell_of_heap e];rfl,Lib.frozen_of_heap e 0,Lib.frozen_of_heap e 1⟩
theorem Uz.more (h:Uz w R T C vL A AN B BN v l a b p u) {m:Mk} {v':Value} (hg:u.grownBy u' v.ownBlock) (ho:u'.ownsRow w.heap.size 103 2 v' (l.length+1) (mkcells l++mkcells [m])) :
  Uz w R T C vL A AN B BN v' (l++[m]) a b p (u'.setCell ⟨T,4,none⟩ v')∧u'.cell? ⟨T,4,none⟩=some v∧u'.frozen? ⟨T,4,none⟩=false:=by
 have h1:=h.tl
 have h2:=h.cl
 have h3:=h.rl
 have hge:∀ j,v.ownBlock=some j→w.heap.size≤j:=fun j hj=>ZnH h.own hj
 have kb:∀ (i:Nat) (cs:Array Value) (t:TypeId),103≠t→u.heap[i]?=some (.cells cs t)→u'.heap[i]?=some (.cells cs t):=fun i cs t ht hi=>(hg.block i (Array.getElem?_eq_some_iff.1 hi).1 (fun e=>ZnB h.own hi ht e.symm)).trans hi
 have bh:Hx u' T ⟨A,AN,B,BN,l⟩ v:=kb _ _ _ (by decide) h.bh
 have bg:Hx u' w.heap.size zhk (.slice none 0 0):=kb _ _ _ (by decide) h.bg
 have bl:u'.heap[C]?=some (ctO a b):=kb _ _ _ (by decide) h.bl
 have hgR:w.grownBy u' (some R):=⟨hg.os.trans h.gr.os,hg.tape.trans h.gr.tape,hg.output.trans h.gr.output,Nat.le_trans h.gr.size hg.size,fun k h1 h2=>(hg.block k (Nat.lt_of_lt_of_le h1 h.gr.size) (fun e=>by have:=hge k e.symm;omega)).trans (h.gr.block k h1 h2)⟩
 have hck:Uk u' R vL (p:Int):=h.ck.keep hg (fun e=>by have:=hge R e.symm;omega)
 have hg2:=Zhd u' T 4 v'
 refine⟨⟨Zhc hgR (by omega) 4 v',bg.keep hg2 (fun e=>by have:=Option.some.inj e;omega),heap_setCell_same u' T 4 _ _ v' bh,(Below.heap_setCell _ _ _ _ (show C≠T by omega)).trans bl,?_,hck.keep hg2 (fun e=>by have:=Option.some.inj e;omega),h.tl,h.cl,h.rl⟩,bh.cells.2.2.2.2,bh.frozen 4⟩
 rw[ZlH,List.length_append]
 exact ho.kept hg2 (.inr (ZnB ho bh (by decide)))
end
theorem ZnL {u:World} {B:Nat} {e:TypeId} {s:Nat} {v:Value} {n j:Nat} {xs:List Value} (h:u.ownsRow B e s v n xs) (hj:v.ownBlock=some j):j<u.heap.size:=by
 rcases h.2 with ⟨rfl,_⟩ | ⟨b,cap,cur,rfl,_,q3,_⟩
 ·cases hj
 ·have e1:b=j:=Option.some.inj hj
  rw[← e1]
  exact (Array.getElem?_eq_some_iff.1 q3).1
def outU (p:Nat) (A AN B BN:Int) (Y:Except (Nat × Int) (List Mk × Nat × List (List UInt8))):Except (Nat × Int) (Hk × Nat × List (List UInt8)) :=
 match Y with
 | .error e=>.error e
 | .ok (l,p1,r1)=>if smB l=true then .error (p+1,50) else .ok (⟨A,AN,B,BN,l⟩,p1,r1)
def HkY (R:Nat) (vL:Value) (X:Except (Nat × Int) (Hk × Nat × List (List UInt8))) (w:World) (e:Ending) (w':World):Prop :=
 match X with
 | .error (a,z)=>Thr (a:Int) z e w'∧w.grownBy w' (some R)
 | .ok (h,p1,_)=>∃ v',e=.returned (hkV h v')∧w'.ownsRow w.heap.size 103 2 v' h.ls.length (mkcells h.ls)∧Uk w' R vL (p1:Int)∧w.grownBy w' (some R)
theorem ZtC (m:Mk) (w:World):Calls Tryz.prog 173 #[.agg #[.int .u8 m.sg,.string ⟨m.tx.toArray⟩]] w fun e w'=>e=.returned (.bool (m.sg != 32))∧Below w.heap.size w w':=by
 have hBl:Below w.heap.size w (w.alloc (.cells #[.int .u8 m.sg,.string ⟨m.tx.toArray⟩] 103)):=(Below.refl _ w).alloc (Nat.le_refl _) _
 go_enter Tryz.func173,Tryz.ntmps173
 go_wp2
 go_ret
 exact⟨rfl,hBl⟩
theorem Zbb (l:List Mk):(l.any fun m=>m.sg != 32)=!smB l:=by
 unfold smB
 induction l with
 | nil=>rfl
 | cons m l ih =>
  rw[List.any_cons,List.all_cons,ih]
  by_cases h:m.sg=32
  ·simp[h]
  ·simp[h]
end

end Go.Proofs.YtgiojkhmkeocfaaGreatDoor
