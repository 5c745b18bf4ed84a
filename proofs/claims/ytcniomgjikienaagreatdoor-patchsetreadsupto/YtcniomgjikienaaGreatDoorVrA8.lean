/-
  Texts that belong together, joined: CpA, CpB, UkA, UkN, UnC, UkB, UkC, CpC, CpD.
-/
import Derived.Test.YtcniomgjikienaaGreatDoorVrA7
import Derived.WalkLawsBesides
import Derived.Deep.DeepCutAuto
import Derived.Deep.CutBlock
import Derived.Lib.IndexMore
import Derived.Test.YtcniomgjikienaaGreatDoorVrA3

set_option maxHeartbeats 16000000
set_option maxRecDepth 100000
namespace Go.Proofs.YtcniomgjikienaaGreatDoor

section
open Go.RowKit
attribute [local go_sem] ByteArray.extract_mk Zhc
def ckO (vL:Value) (p:Int):Obj:=.cells #[vL,.int .i64 p] 233
def Ck (u:World) (R:Nat) (vL:Value) (p:Int):Prop:=u.heap[R]?=some (ckO vL p)
section
variable {u u':World} {R:Nat} {vL:Value} {p:Int}
theorem Ck.cells (q:Ck u R vL p):u.cell? ⟨R,0,none⟩=some vL∧u.cell? ⟨R,1,none⟩=some (.int .i64 p):=by
 unfold Ck ckO at q
 refine⟨?_,?_⟩<;>rw[Lib.cell_of_heap q]<;>rfl
theorem Ck.frozen (q:Ck u R vL p) (j:Nat):u.frozen? ⟨R,j,none⟩=false:=Lib.frozen_of_heap q j
theorem Ck.lt (q:Ck u R vL p):R<u.heap.size:=(Array.getElem?_eq_some_iff.1 q).1
theorem Ck.dN (q:Ck u R vL p) (n:Nat):Ck (u.drewN n) R vL p:=q
theorem Ck.at (q:Ck u R vL p) (p':Int):Ck (u.setCell ⟨R,1,none⟩ (.int .i64 p')) R vL p':=heap_setCell_same u R 1 _ _ (.int .i64 p') q
theorem Ck.low (q:Ck u R vL p) (hg:Below u.heap.size u u'):Ck u' R vL p:=(hg.block R q.lt).trans q
theorem Ck.keep (q:Ck u R vL p) {g:Option Nat} (hg:u.grownBy u' g) (hr:some R≠g):Ck u' R vL p:=(hg.block R q.lt hr).trans q
end
theorem Zcl (a z:Int) (w:World) :
  Calls Tryz.prog 255 #[.int .i64 a,.int .i64 z] w fun x w'=>Thr a z x w'∧Below w.heap.size w w':=by
 have HQ:Hid ((w.alloc (fltO a z)).heap[w.heap.size]?=some (fltO a z)∧Below w.heap.size w (w.alloc (fltO a z))):=⟨heap_alloc_new w _,(Below.refl _ w).alloc (Nat.le_refl _) _⟩
 go_enter Tryz.func255,Tryz.ntmps255
 go_wp2
 exact⟨rfl,⟨_,rfl,HQ.out.1⟩,HQ.out.2⟩
theorem ZbY {R:Nat} {vL:Value} {p:Nat} (z:Int) (w:World) (q:Ck w R vL (p:Int)) (hp:p≤4398046511104) :
  Calls Tryz.prog 212 #[.pointer (some ⟨R,0,none⟩),.int .i64 z] w fun x w'=>Thr ((p:Int)+1) z x w'∧w.grownBy w' (some R):=by
 obtain⟨c0,c1⟩:=q.cells
 clear q
 go_enter Tryz.func212,Tryz.ntmps212
 go_wp2_with fail
 refine (Zcl ((p:Int)+1) z w).mono ?_
 rintro x w1 ⟨⟨g,rfl,hg⟩,hb⟩
 go_wp2
 exact⟨rfl,⟨_,rfl,hg⟩,ZfO hb _⟩
theorem Zcc {R:Nat} {L:List (List UInt8)} {lo:Option Addr} {lc:Nat} {p:Nat} (w:World) (q:Ck w R (.slice lo L.length lc) p) (hL:HS w (.slice lo L.length lc) L) (hp:p≤L.length) (hLl:L.length≤2199023255552) (hs:∀ s∈L,s.length≤1099511627776)
  (X:Except (Nat × Int) (List UInt8 × List (List UInt8))) (HX:Hid (nxt p (L.drop p)=X)) :
  Calls Tryz.prog 302 #[.pointer (some ⟨R,0,none⟩)] w fun x w'=>LnQ R (.slice lo L.length lc) p X w x w':=by
 have hX:=HX.out
 clear HX
 by_cases hlt:p<L.length
 ·rw[Zhm hlt] at hX
  obtain⟨bk,off,rfl,hbk,hcl⟩:=HS.at hL (by omega)
  have d4:=hcl p hlt
  have hsl:=hs L[p] (List.getElem_mem _)
  generalize L[p]=s at d4 hsl hX
  clear hcl hs hL
  obtain⟨c0,c1⟩:=q.cells
  have e0:((p:Int) == (L.length:Int))=false:=beq_eq_false_iff_ne.2 (by omega)
  have i1:(0:Int)≤(p:Int):=by omega
  have i2:(p:Int)<(L.length:Int):=by omega
  have i3:(p:Int).toNat=p:=by omega
  cases hf:fdB s with
  | true =>
   rw[if_pos hf] at hX
   subst hX
   have HD:Hid (s.dropLast++[10]=s):=ZcM hf
   clear q
   go_enter Tryz.func302,Tryz.ntmps302
   go_wp2_with fail
   go_quiet (fail)
   go_wp2_with fail
   have c0':(w.drewN nq).cell? ⟨R,0,none⟩=_:=c0
   have c1':(w.drewN nq).cell? ⟨R,1,none⟩=_:=c1
   have d4':(w.drewN nq).cell? ⟨bk,off+p,none⟩=_:=d4
   have HM:Hid (∀ n,∃ k,(w.drewN nq).drewN n=w.drewN k):=fun n=>⟨_,World.drewN_drewN w nq n⟩
   clear c0 c1 d4
   generalize w.drewN nq=W1 at c0' c1' d4' HM ⊢
   have j1:(0:Int)≤(p:Int):=by omega
   have j2:(p:Int)<(L.length:Int):=by omega
   have j3:(p:Int).toNat=p:=by omega
   go_quiet (fail)
   go_wp2_with fail
   refine (Tryz.strings_HasSuffix ⟨s.toArray⟩ ⟨#[10]⟩ _ (by show s.length≤_;omega)).mono ?_
   rintro e w2 ⟨rfl,rfl⟩
   have e1:Lib.hasSuffix (⟨s.toArray⟩:ByteArray).data.toList (⟨#[10]⟩:ByteArray).data.toList=true:=(ZkK s).trans hf
   rw[e1]
   clear e1 hf
   go_wp2
   go_ret
   refine⟨?_,HM.out _⟩
   rw[HD.out]
   rfl
  | false =>
   rw[if_neg (by rw[hf];decide)] at hX
   subst hX
   have q0:=q
   clear q
   go_enter Tryz.func302,Tryz.ntmps302
   go_wp2_with fail
   go_quiet (fail)
   go_wp2_with fail
   have c0':(w.drewN nq).cell? ⟨R,0,none⟩=_:=c0
   have c1':(w.drewN nq).cell? ⟨R,1,none⟩=_:=c1
   have d4':(w.drewN nq).cell? ⟨bk,off+p,none⟩=_:=d4
   have HM:Hid (∀ n,w.grownBy ((w.drewN nq).drewN n) (some R)):=fun n=>ZdP (ZdP (ZfO (Below.refl _ _) _) nq) n
   have HQ:Hid (∀ n,Ck ((w.drewN nq).drewN n) R (.slice (some ⟨bk,off,none⟩) L.length lc) p):=fun n=>(q0.dN nq).dN n
   clear c0 c1 d4 q0
   generalize w.drewN nq=W1 at c0' c1' d4' HM HQ ⊢
   have j1:(0:Int)≤(p:Int):=by omega
   have j2:(p:Int)<(L.length:Int):=by omega
   have j3:(p:Int).toNat=p:=by omega
   go_quiet (fail)
   go_wp2_with fail
   refine (Tryz.strings_HasSuffix ⟨s.toArray⟩ ⟨#[10]⟩ _ (by show s.length≤_;omega)).mono ?_
   rintro e w2 ⟨rfl,rfl⟩
   have e1:Lib.hasSuffix (⟨s.toArray⟩:ByteArray).data.toList (⟨#[10]⟩:ByteArray).data.toList=false:=(ZkK s).trans hf
   rw[e1]
   clear e1 hf
   go_wp2_with fail
   refine (ZbY 3 _ (HQ.out _) (by omega)).mono ?_
   rintro e w3 ⟨⟨g,rfl,hg⟩,hgr⟩
   go_wp2
   exact⟨rfl,⟨_,rfl,hg⟩,ZdT (HM.out _) hgr⟩
 ·rw[Zhn (by omega)] at hX
  subst hX
  obtain⟨c0,c1⟩:=q.cells
  have e0:((p:Int) == (L.length:Int))=true:=beq_iff_eq.2 (by omega)
  have HM:Hid (∀ n,w.grownBy (w.drewN n) (some R)):=fun n=>ZdP (ZfO (Below.refl _ _) _) n
  have HQ:Hid (∀ n,Ck (w.drewN n) R (.slice lo L.length lc) p):=fun n=>q.dN n
  clear q hs hL
  go_enter Tryz.func302,Tryz.ntmps302
  go_wp2_with fail
  go_quiet (fail)
  go_wp2_with fail
  refine (ZbY 1 _ (HQ.out _) (by omega)).mono ?_
  rintro e w3 ⟨⟨g,rfl,hg⟩,hgr⟩
  go_wp2
  exact⟨rfl,⟨_,rfl,hg⟩,ZdT (HM.out _) hgr⟩
theorem ZbZ {R g o:Nat} {L:List (List UInt8)} {lo:Option Addr} {lc:Nat} {p:Nat} (w:World) (q:Ck w R (.slice lo L.length lc) p) (hL:HS w (.slice lo L.length lc) L) (hPl:Plain L) (hp:p≤L.length) (hLl:L.length≤2199023255552)
  (t:List UInt8) (ct:w.cell? ⟨g,o+1,none⟩=some (.string ⟨t.toArray⟩)) (HB:Hid ((t != [10] && pkM (L.drop p))=false)) :
  Calls Tryz.prog 305 #[.pointer (some ⟨R,0,none⟩),.pointer (some ⟨g,o,none⟩)] w fun x w'=>x=.returned (.tuple #[])∧∃ n,w'=w.drewN n:=by
 obtain⟨c0,c1⟩:=q.cells
 by_cases ht:t=[10]
 ·subst ht
  clear HB hL q
  go_enter Tryz.func305,Tryz.ntmps305
  go_wp2_with fail
  go_quiet (fail)
  go_wp2
  first
   | go_end0
   | refine bodyPost_ret (results_none rfl _ _ _) rfl ?_
   | refine bodyPost_end (results_none rfl _ _ _) rfl ?_
  exact⟨rfl,_,rfl⟩
 ·have e1:(t == [10])=false:=beq_eq_false_iff_ne.2 ht
  by_cases hlt:p<L.length
  ·have hm:(L[p] == markT)=false:=(by
    have h:=HB.out
    rw[Zim hPl hlt] at h
    have:(t != [10])=true:=bne_iff_ne.2 ht
    rw[this,Bool.true_and] at h
    exact h)
   obtain⟨bk,off,rfl,hbk,hcl⟩:=HS.at hL (by omega)
   have d4:=hcl p hlt
   generalize L[p]=s at d4 hm
   have hm2:(s == [92,32,78,111,32,110,101,119,108,105,110,101,32,97,116,32,101,110,100,32,111,102,32,102,105,108,101,10])=false:=hm
   have hm3:(s != [92,32,78,111,32,110,101,119,108,105,110,101,32,97,116,32,101,110,100,32,111,102,32,102,105,108,101,10])=true:=(by unfold bne;rw[hm2];rfl)
   have e0:((p:Int) == (L.length:Int))=false:=beq_eq_false_iff_ne.2 (by omega)
   clear HB hL q hcl hm hPl
   have i1:(0:Int)≤(p:Int):=by omega
   have i2:(p:Int)<(L.length:Int):=by omega
   have i3:(p:Int).toNat=p:=by omega
   go_enter Tryz.func305,Tryz.ntmps305
   go_wp2_with fail
   go_quiet (fail)
   go_wp2
   first
    | go_end0
    | refine bodyPost_ret (results_none rfl _ _ _) rfl ?_
    | refine bodyPost_end (results_none rfl _ _ _) rfl ?_
   exact⟨rfl,_,rfl⟩
  ·have e0:((p:Int) == (L.length:Int))=true:=beq_iff_eq.2 (by omega)
   clear HB hL q hPl
   go_enter Tryz.func305,Tryz.ntmps305
   go_wp2_with fail
   go_quiet (fail)
   go_wp2
   first
    | go_end0
    | refine bodyPost_ret (results_none rfl _ _ _) rfl ?_
    | refine bodyPost_end (results_none rfl _ _ _) rfl ?_
   exact⟨rfl,_,rfl⟩
theorem Zca {R g o:Nat} {L:List (List UInt8)} {lo:Option Addr} {lc:Nat} {p:Nat} (w:World) (q:Ck w R (.slice lo L.length lc) p) (hL:HS w (.slice lo L.length lc) L) (hPl:Plain L) (hLl:L.length≤2199023255552) (hgR:R≠g)
  (T t:List UInt8) (HTt:Hid (T=t++[10])) (htl:T.length≤1099511627776) (ct:w.cell? ⟨g,o+1,none⟩=some (.string ⟨T.toArray⟩)) (cf:w.frozen? ⟨g,o+1,none⟩=false) (HB:Hid ((T != [10] && pkM (L.drop p))=true)) :
  Calls Tryz.prog 305 #[.pointer (some ⟨R,0,none⟩),.pointer (some ⟨g,o,none⟩)] w fun x w'=>x=.returned (.tuple #[])∧∃ n,w'=((w.drewN n).setCell ⟨g,o+1,none⟩ (.string ⟨t.toArray⟩)).setCell ⟨R,1,none⟩ (.int .i64 ((p:Int)+1)):=by
 obtain⟨c0,c1⟩:=q.cells
 have hb:=HB.out
 rw[Bool.and_eq_true] at hb
 have hlt:p<L.length:=(by
  by_cases h:p<L.length
  ·exact h
  ·have e:L.drop p=[]:=List.drop_eq_nil_of_le (by omega)
   rw[e] at hb
   cases hb.2)
 have e1:(T == [10])=false:=(by
  have:=bne_iff_ne.1 hb.1
  exact beq_eq_false_iff_ne.2 this)
 have hm:L[p]=markT:=(by
  have h:=hb.2
  rw[Zim hPl hlt,beq_iff_eq] at h
  exact h)
 obtain⟨bk,off,rfl,hbk,hcl⟩:=HS.at hL (by omega)
 have d4:=hcl p hlt
 rw[hm] at d4
 have e0:((p:Int) == (L.length:Int))=false:=beq_eq_false_iff_ne.2 (by omega)
 have f1:=q.frozen 1
 have HTS:Hid (Lib.trimSuffix T [10]=t):=(by
  show _=_
  rw[HTt.out]
  unfold Lib.trimSuffix
  rw[ZkK,if_pos (Zdf t)]
  simp)
 unfold markT at d4
 clear HB hL q hcl hm hPl hb
 have i1:(0:Int)≤(p:Int):=by omega
 have i2:(p:Int)<(L.length:Int):=by omega
 have i3:(p:Int).toNat=p:=by omega
 go_enter Tryz.func305,Tryz.ntmps305
 go_wp2_with fail
 go_quiet (fail)
 go_wp2_with fail
 have c1':(w.drewN nq).cell? ⟨R,1,none⟩=_:=c1
 have ct':(w.drewN nq).cell? ⟨g,o+1,none⟩=_:=ct
 have cf':(w.drewN nq).frozen? ⟨g,o+1,none⟩=false:=cf
 have f1':(w.drewN nq).frozen? ⟨R,1,none⟩=false:=f1
 have HM:Hid (∃ k,w.drewN nq=w.drewN k):=⟨_,rfl⟩
 clear c0 c1 d4 ct cf f1
 generalize w.drewN nq=W1 at c1' ct' cf' f1' HM ⊢
 refine (Tryz.strings_TrimSuffix ⟨T.toArray⟩ ⟨#[10]⟩ W1 (by show T.length≤_;omega)).mono ?_
 rintro e w2 ⟨rfl,rfl⟩
 have e2:Lib.trimSuffix (⟨T.toArray⟩:ByteArray).data.toList (⟨#[10]⟩:ByteArray).data.toList=t:=HTS.out
 rw[e2]
 clear e2
 have c1'':(w2.setCell ⟨g,o+1,none⟩ (.string ⟨t.toArray⟩)).cell? ⟨R,1,none⟩=some (.int .i64 (p:Int)):=(by
  have h:=(ZdS w2 g (o+1) (.string ⟨t.toArray⟩)).cell c1' (fun e=>hgR (Option.some.inj e))
  exact h)
 have f1'':(w2.setCell ⟨g,o+1,none⟩ (.string ⟨t.toArray⟩)).frozen? ⟨R,1,none⟩=false:=(by
  unfold World.frozen? at f1' ⊢
  dsimp only at f1' ⊢
  rw[Below.heap_setCell _ _ _ R hgR]
  exact f1')
 go_wp2
 first
  | go_end0
  | refine bodyPost_ret (results_none rfl _ _ _) rfl ?_
  | refine bodyPost_end (results_none rfl _ _ _) rfl ?_
 obtain⟨k,hk⟩:=HM.out
 exact⟨rfl,k,by rw[← hk]⟩
def barP (hd:List UInt8) (p:Nat) (ls:List (List UInt8)):Except (Nat × Int) (List UInt8 × List (List UInt8)) :=
 match nxt p ls with
 | .error e=>.error e
 | .ok (s,r)=>if hd.isPrefixOf s=true then .ok (s.drop hd.length,r) else .error (p+1,3)
def BrQ (R:Nat) (X:Except (Nat × Int) (List UInt8 × List (List UInt8))) (w:World) (x:Ending) (w':World):Prop :=
 match X with
 | .error (a,e)=>Thr (a:Int) e x w'∧w.grownBy w' (some R)
 | .ok (s,_)=>x=.returned (.string ⟨s.toArray⟩)∧∃ n,w'=w.drewN n
theorem ZkV (s:List UInt8):Lib.trimSuffix (s++[10]) [10]=s:=by
 unfold Lib.trimSuffix
 rw[ZkK,if_pos (Zdf s)]
 simp
theorem Zbh {R:Nat} {L:List (List UInt8)} {lo:Option Addr} {lc:Nat} {p:Nat} (hd:List UInt8) (w:World) (q:Ck w R (.slice lo L.length lc) p) (hL:HS w (.slice lo L.length lc) L) (hp:p≤L.length) (hLl:L.length≤2199023255552) (hs:∀ s∈L,s.length≤1099511627776)
  (X:Except (Nat × Int) (List UInt8 × List (List UInt8))) (HX:Hid (barP hd p (L.drop p)=X)) :
  Calls Tryz.prog 254 #[.pointer (some ⟨R,0,none⟩),.string ⟨hd.toArray⟩] w fun x w'=>BrQ R X w x w':=by
 obtain⟨Y,hY⟩:∃ Y,nxt p (L.drop p)=Y:=⟨_,rfl⟩
 have hl:=Zcc w q hL hp hLl hs Y hY
 have hX:=HX.out
 unfold barP at hX
 rw[hY] at hX
 clear HX
 cases Y with
 | error z =>
  obtain⟨a,e⟩:=z
  dsimp only at hX
  subst hX
  go_enter Tryz.func254,Tryz.ntmps254
  go_wp2_with fail
  refine hl.mono ?_
  rintro x w1 ⟨⟨g,rfl,hg⟩,hgr⟩
  go_wp2
  exact⟨rfl,⟨_,rfl,hg⟩,hgr⟩
 | ok z =>
  obtain⟨s,r⟩:=z
  obtain⟨hr,hpl,_,hLp⟩:=Zhr hY
  have hsl:=hs L[p] (List.getElem_mem hpl)
  rw[hLp,List.length_append] at hsl
  dsimp only at hX
  obtain⟨T,hT⟩:∃ T,s++[10]=T:=⟨_,rfl⟩
  have hl2:Calls Tryz.prog 302 #[.pointer (some ⟨R,0,none⟩)] w fun x w'=>x=.returned (.string ⟨T.toArray⟩)∧∃ n,w'=w.drewN n:=(by
   refine hl.mono ?_
   rintro x w' ⟨h1,h2⟩
   rw[hT] at h1
   exact⟨h1,h2⟩)
  have hTl:T.length≤2199023255552:=(by rw[← hT,List.length_append];simp at hsl ⊢;omega)
  have htr:∀ u,Calls Tryz.prog 239 #[.string ⟨T.toArray⟩,.string ⟨#[10]⟩] u fun e w'=>e=.returned (.string ⟨s.toArray⟩)∧w'=u:=(by
   intro u
   refine (Tryz.strings_TrimSuffix ⟨T.toArray⟩ ⟨#[10]⟩ u (by show T.length≤_;omega)).mono ?_
   rintro e w' ⟨rfl,rfl⟩
   have e2:Lib.trimSuffix (⟨T.toArray⟩:ByteArray).data.toList (⟨#[10]⟩:ByteArray).data.toList=s:=(by
    show Lib.trimSuffix T [10]=s
    rw[← hT]
    exact ZkV s)
   rw[e2]
   exact⟨rfl,rfl⟩)
  have hcp:=fun u=>Tryz.strings_CutPrefix ⟨s.toArray⟩ ⟨hd.toArray⟩ u
  have hpf:Lib.hasPrefix (⟨s.toArray⟩:ByteArray).data.toList (⟨hd.toArray⟩:ByteArray).data.toList=hd.isPrefixOf s:=rfl
  rw[hpf] at hcp
  by_cases hpre:hd.isPrefixOf s=true
  ·rw[if_pos hpre] at hX
   subst hX
   have htp:Lib.trimPrefix (⟨s.toArray⟩:ByteArray).data.toList (⟨hd.toArray⟩:ByteArray).data.toList=s.drop hd.length:=(by
    show Lib.trimPrefix s hd=_
    unfold Lib.trimPrefix Lib.hasPrefix
    rw[if_pos hpre])
   rw[htp,hpre] at hcp
   obtain⟨D,hD⟩:∃ D,s.drop hd.length=D:=⟨_,rfl⟩
   rw[hD] at hcp
   have HD:Hid (s.drop hd.length=D):=hD
   clear hpf htp hpre hl hY hLp hsl hr hT hD
   go_enter Tryz.func254,Tryz.ntmps254
   go_wp2_with fail
   refine hl2.mono ?_
   rintro x w1 ⟨rfl,nn,rfl⟩
   go_wp2_with fail
   refine (htr _).mono ?_
   rintro x w2 ⟨rfl,rfl⟩
   go_wp2_with fail
   refine (hcp _).mono ?_
   rintro x w3 ⟨rfl,rfl⟩
   go_wp2
   go_ret
   exact⟨by rw[HD.out];rfl,nn,rfl⟩
  ·rw[if_neg hpre] at hX
   subst hX
   rw[Bool.eq_false_iff.2 hpre] at hcp
   generalize Lib.trimPrefix (⟨s.toArray⟩:ByteArray).data.toList (⟨hd.toArray⟩:ByteArray).data.toList=U2 at hcp
   have q2:=fun nn=>q.dN nn
   clear hpf hpre hl hY hLp hsl hr hT
   go_enter Tryz.func254,Tryz.ntmps254
   go_wp2_with fail
   refine hl2.mono ?_
   rintro x w1 ⟨rfl,nn,rfl⟩
   go_wp2_with fail
   refine (htr _).mono ?_
   rintro x w2 ⟨rfl,rfl⟩
   go_wp2_with fail
   refine (hcp _).mono ?_
   rintro x w3 ⟨rfl,rfl⟩
   go_wp2_with fail
   refine (ZbY 3 _ (q2 nn) (by omega)).mono ?_
   rintro e w3 ⟨⟨g,rfl,hg⟩,hgr⟩
   go_wp2
   exact⟨rfl,⟨_,rfl,by simpa using hg⟩,ZdT (ZdP (ZfO (Below.refl w.heap.size w) (some R)) nn) hgr⟩
end

section
open Go.RowKit Go.Proofs.YtcniomgjikienaaGreatDoor.Tx
attribute [local go_sem] ByteArray.extract_mk Zhc
theorem ZaG (n:Nat):∀ (t a b:List UInt8),t.length≤n→Q.body t=some (a,b)→a.length≤t.length:=by
 induction n with
 | zero =>
  intro t a b h hb
  have:t=[]:=List.eq_nil_of_length_eq_zero (by omega)
  subst this
  cases hb
 | succ n ih =>
  intro t a b h hb
  cases t with
  | nil=>cases hb
  | cons c t =>
   simp only[List.length_cons] at h ⊢
   rw[Q.body.eq_def] at hb
   simp only at hb
   split at hb
   ·cases hb;simp
   ·split at hb
    ·obtain⟨p,hp,he⟩:=Option.map_eq_some_iff.1 hb
     cases he
     have:=ih t p.1 p.2 (by omega) hp
     simp only[List.length_cons]
     omega
    ·split at hb
     ·split at hb
      ·rename_i x y t'
       simp only[List.length_cons] at h ⊢
       split at hb
       ·obtain⟨p,hp,he⟩:=Option.map_eq_some_iff.1 hb
        cases he
        have:=ih t' p.1 p.2 (by omega) hp
        simp only[List.length_cons]
        omega
       ·cases hb
      ·cases hb
     ·cases hb
theorem ZlP (s:List UInt8):(Q.uqa s).length≤s.length:=by
 cases hu:Q.unquote s with
 | none=>rw[(Q.uq_none hu).1];simp
 | some p =>
  obtain⟨a,b⟩:=p
  rw[(Q.uq_some hu).1]
  cases s with
  | nil=>cases hu
  | cons c t =>
   simp only[Q.unquote] at hu
   split at hu
   ·have:=ZaG t.length t a b (Nat.le_refl _) hu
    simp only[List.length_cons]
    omega
   ·cases hu
theorem ZdX (s:List UInt8):Lib.hasPrefix s [34]=(s.head? == some 34):=by
 cases s with
 | nil=>rfl
 | cons c t =>
  show ((34 == c) && true)=(some c == some 34)
  rw[Bool.and_true,Bool.eq_iff_iff,beq_iff_eq,beq_iff_eq,Option.some.injEq]
  exact⟨fun h=>h.symm,fun h=>h.symm⟩
def pnV (r:Bool) (n:List UInt8):Value:=if r=true then .tuple #[.string ⟨n.toArray⟩,.int .i64 0] else .tuple #[.string ⟨#[]⟩,.int .i64 253]
theorem ZbK (s:List UInt8) (w:World) (hl:s.length≤1099511627776) (n:List UInt8) (r:Bool) (HN:Hid (unC s=n)) (HR:Hid (nokC s=r)) :
  Calls Tryz.prog 253 #[.string ⟨s.toArray⟩] w fun e w'=>e=.returned (pnV r n)∧Below w.heap.size w w':=by
 have hnl:n.length≤1099511627776:=(by
  rw[← HN.out]
  unfold unC
  split
  ·simp
  ·split
   ·have:=ZlP s
    omega
   ·exact hl)
 obtain⟨T,hT⟩:∃ T,nameT n=T:=⟨_,rfl⟩
 have hnm:=fun u=>ZbJ n u hnl T hT
 have HF:Hid ((decide (n.length≤64) && (T == s))=r):=(by
  have h:=HR.out
  unfold nokC at h
  rw[HN.out,hT] at h
  exact h)
 have hhp:∀ (b:Bool),(s.head? == some 34)=b→∀ u,Calls Tryz.prog 139 #[.string ⟨s.toArray⟩,.string ⟨#[34]⟩] u fun e w'=>e=.returned (.bool b)∧w'=u:=(by
  intro b hb u
  refine (Tryz.strings_HasPrefix ⟨s.toArray⟩ ⟨#[34]⟩ u).mono ?_
  rintro e w' ⟨rfl,rfl⟩
  have e1:Lib.hasPrefix (⟨s.toArray⟩:ByteArray).data.toList (⟨#[34]⟩:ByteArray).data.toList=b:=(ZdX s).trans hb
  rw[e1]
  exact⟨rfl,rfl⟩)
 have huq:=fun u=>Zai s u hl
 clear hT HR
 go_enter Tryz.func253,Tryz.ntmps253
 go_upto_block 0 with fail
 go_cut [4] (fun nv wz=>nv=.string ⟨n.toArray⟩∧Below w.heap.size w wz)
 case first =>
  by_cases h1:s=devN
  ·have e1:(s == [47,100,101,118,47,110,117,108,108])=true:=(by rw[beq_iff_eq];exact h1)
   have HE:Hid ([]=n):=(by have h:=HN.out;unfold unC at h;rw[if_pos h1] at h;exact h)
   clear h1
   go_wp2
   go_meet
   case rel=>exact⟨by rw[← HE.out],Below.refl _ _⟩
  ·have e1:(s == [47,100,101,118,47,110,117,108,108])=false:=beq_eq_false_iff_ne.2 h1
   by_cases h2:s.head?=some 34
   ·have HE:Hid (Q.uqa s=n):=(by have h:=HN.out;unfold unC at h;rw[if_neg h1,if_pos h2] at h;exact h)
    have hc:=hhp true (beq_iff_eq.2 h2)
    clear h1 h2
    go_wp2_with fail
    refine (hc _).mono ?_
    rintro e w1 ⟨rfl,rfl⟩
    go_wp2_with fail
    refine (huq _).mono ?_
    rintro e w2 ⟨rfl,hB2⟩
    go_wp2
    go_meet
    case rel=>exact⟨by rw[← HE.out],hB2⟩
   ·have HE:Hid (s=n):=(by have h:=HN.out;unfold unC at h;rw[if_neg h1,if_neg h2] at h;exact h)
    have hc:=hhp false (beq_eq_false_iff_ne.2 h2)
    clear h1 h2
    go_wp2_with fail
    refine (hc _).mono ?_
    rintro e w1 ⟨rfl,rfl⟩
    go_wp2
    go_meet
    case rel=>exact⟨by rw[← HE.out],Below.refl _ _⟩
 case rest =>
 obtain⟨rfl,hBc⟩:=hcut
 by_cases h3:n.length≤64
 ·have i1:¬ (64:Int)<(n.length:Int):=by omega
  cases h4:T == s with
  | true =>
   have HE:Hid (true=r):=(by have h:=HF.out;rw[decide_eq_true h3,Bool.true_and,h4] at h;exact h)
   have h5:(T != s)=false:=(by unfold bne;rw[h4];rfl)
   clear HF
   go_wp2_with fail
   refine (hnm _).mono ?_
   rintro e w2 ⟨rfl,hB2⟩
   go_wp2
   go_ret2
   exact⟨by rw[← HE.out];rfl,hBc.trans (hB2.mono hBc.size)⟩
  | false =>
   have HE:Hid (false=r):=(by have h:=HF.out;rw[decide_eq_true h3,Bool.true_and,h4] at h;exact h)
   have h5:(T != s)=true:=(by unfold bne;rw[h4];rfl)
   clear HF
   go_wp2_with fail
   refine (hnm _).mono ?_
   rintro e w2 ⟨rfl,hB2⟩
   go_wp2
   go_ret2
   exact⟨by rw[← HE.out];rfl,hBc.trans (hB2.mono hBc.size)⟩
 ·have HE:Hid (false=r):=(by have h:=HF.out;rw[decide_eq_false h3,Bool.false_and] at h;exact h)
  have i1:(64:Int)<(n.length:Int):=by omega
  clear HF
  go_wp2
  go_ret2
  exact⟨by rw[← HE.out];rfl,hBc⟩
def NmX (R:Nat) (X:Except (Nat × Int) (List UInt8 × List (List UInt8))) (w:World) (x:Ending) (w':World):Prop :=
 match X with
 | .error (a,e)=>Thr (a:Int) e x w'∧w.grownBy w' (some R)
 | .ok (s,_)=>x=.returned (.string ⟨s.toArray⟩)∧Below w.heap.size w w'
theorem ZgF {hd:List UInt8} (h4:hd.length=4) (p:Nat) (ls:List (List UInt8)):namP hd p ls=match barP hd p ls with
  | .error e=>.error e
  | .ok (s,r)=>if nokC s=true then .ok (unC s,r) else .error (p+1,253):=by
 unfold namP barP
 cases nxt p ls with
 | error e=>rfl
 | ok z =>
  obtain⟨s,r⟩:=z
  dsimp only
  split
  ·rw[h4,ZgK]
   split
   ·rename_i hq
    dsimp only
    split at hq
    ·cases hq
    ·rename_i h2
     rw[if_neg h2]
   ·rename_i nn hq
    dsimp only
    split at hq
    ·rename_i h2
     cases hq
     rw[if_pos h2]
    ·cases hq
  ·rfl
theorem ZbL {R:Nat} {L:List (List UInt8)} {lo:Option Addr} {lc:Nat} {p:Nat} (hd:List UInt8) (h4:hd.length=4) (w:World) (q:Ck w R (.slice lo L.length lc) p) (hL:HS w (.slice lo L.length lc) L) (hp:p≤L.length) (hLl:L.length≤2199023255552) (hs:∀ s∈L,s.length≤1099511627776)
  (X:Except (Nat × Int) (List UInt8 × List (List UInt8))) (HX:Hid (namP hd p (L.drop p)=X)) :
  Calls Tryz.prog 211 #[.pointer (some ⟨R,0,none⟩),.string ⟨hd.toArray⟩] w fun x w'=>NmX R X w x w':=by
 obtain⟨Y,hY⟩:∃ Y,barP hd p (L.drop p)=Y:=⟨_,rfl⟩
 have hl:=Zbh hd w q hL hp hLl hs Y hY
 have hX:=HX.out
 rw[ZgF h4,hY] at hX
 clear HX
 cases Y with
 | error z =>
  obtain⟨a,e⟩:=z
  dsimp only at hX
  subst hX
  go_enter Tryz.func211,Tryz.ntmps211
  go_wp2_with fail
  refine hl.mono ?_
  rintro x w1 ⟨⟨g,rfl,hg⟩,hgr⟩
  go_wp2
  exact⟨rfl,⟨_,rfl,hg⟩,hgr⟩
 | ok z =>
  obtain⟨s,r⟩:=z
  dsimp only at hX
  have hsl:s.length≤1099511627776:=(by
   unfold barP at hY
   cases hn:nxt p (L.drop p) with
   | error e=>rw[hn] at hY;cases hY
   | ok z =>
    obtain⟨s2,r2⟩:=z
    rw[hn] at hY
    dsimp only at hY
    obtain⟨_,hpl,_,hLp⟩:=Zhr hn
    have hsl:=hs L[p] (List.getElem_mem hpl)
    rw[hLp,List.length_append] at hsl
    split at hY
    ·cases hY
     rw[List.length_drop]
     omega
    ·cases hY)
  obtain⟨n,hn⟩:∃ n,unC s=n:=⟨_,rfl⟩
  obtain⟨b,hb⟩:∃ b,nokC s=b:=⟨_,rfl⟩
  have hf:=fun u=>ZbK s u hsl n b hn hb
  rw[hn,hb] at hX
  have hl2:Calls Tryz.prog 254 #[.pointer (some ⟨R,0,none⟩),.string ⟨hd.toArray⟩] w fun x w'=>x=.returned (.string ⟨s.toArray⟩)∧∃ n,w'=w.drewN n:=hl
  clear hY hl hn hb
  cases b with
  | true =>
   rw[if_pos rfl] at hX
   subst hX
   have hf2:∀ u,Calls Tryz.prog 253 #[.string ⟨s.toArray⟩] u fun e w'=>e=.returned (.tuple #[.string ⟨n.toArray⟩,.int .i64 0])∧Below u.heap.size u w':=hf
   clear hf
   go_enter Tryz.func211,Tryz.ntmps211
   go_wp2_with fail
   refine hl2.mono ?_
   rintro x w1 ⟨rfl,nn,rfl⟩
   go_wp2_with fail
   refine (hf2 _).mono ?_
   rintro x w2 ⟨rfl,hB2⟩
   go_wp2
   go_ret
   exact⟨rfl,(Below.dN (Below.refl _ w) nn).trans hB2⟩
  | false =>
   rw[if_neg (by decide)] at hX
   subst hX
   have hf2:∀ u,Calls Tryz.prog 253 #[.string ⟨s.toArray⟩] u fun e w'=>e=.returned (.tuple #[.string ⟨#[]⟩,.int .i64 253])∧Below u.heap.size u w':=hf
   clear hf
   have q2:=fun nn=>q.dN nn
   go_enter Tryz.func211,Tryz.ntmps211
   go_wp2_with fail
   refine hl2.mono ?_
   rintro x w1 ⟨rfl,nn,rfl⟩
   go_wp2_with fail
   refine (hf2 _).mono ?_
   rintro x w2 ⟨rfl,hB2⟩
   have q3:=(q2 nn).low hB2
   go_wp2_with fail
   refine (ZbY 253 _ q3 (by omega)).mono ?_
   rintro e w3 ⟨⟨g,rfl,hg⟩,hgr⟩
   go_wp2
   exact⟨rfl,⟨_,rfl,by simpa using hg⟩,ZdT (ZfO ((Below.dN (Below.refl _ w) nn).trans hB2) _) hgr⟩
end

section
open Go.RowKit Go.Proofs.YtcniomgjikienaaGreatDoor.Tx
attribute [local go_sem] ByteArray.extract_mk Zhc
def ukO (vL:Value) (p:Int):Obj:=.cells #[vL,.int .i64 p] 229
def Uk (u:World) (R:Nat) (vL:Value) (p:Int):Prop:=u.heap[R]?=some (ukO vL p)
section
variable {u u':World} {R:Nat} {vL:Value} {p:Int}
theorem Uk.cells (q:Uk u R vL p):u.cell? ⟨R,0,none⟩=some vL∧u.cell? ⟨R,1,none⟩=some (.int .i64 p):=by
 unfold Uk ukO at q
 refine⟨?_,?_⟩<;>rw[Lib.cell_of_heap q]<;>rfl
theorem Uk.frozen (q:Uk u R vL p) (j:Nat):u.frozen? ⟨R,j,none⟩=false:=Lib.frozen_of_heap q j
theorem Uk.lt (q:Uk u R vL p):R<u.heap.size:=(Array.getElem?_eq_some_iff.1 q).1
theorem Uk.dN (q:Uk u R vL p) (n:Nat):Uk (u.drewN n) R vL p:=q
theorem Uk.at (q:Uk u R vL p) (p':Int):Uk (u.setCell ⟨R,1,none⟩ (.int .i64 p')) R vL p':=heap_setCell_same u R 1 _ _ (.int .i64 p') q
theorem Uk.low (q:Uk u R vL p) (hg:Below u.heap.size u u'):Uk u' R vL p:=(hg.block R q.lt).trans q
theorem Uk.keep (q:Uk u R vL p) {g:Option Nat} (hg:u.grownBy u' g) (hr:some R≠g):Uk u' R vL p:=(hg.block R q.lt hr).trans q
end
theorem ZlX (a z:Int) (w:World) :
  Calls Tryz.prog 242 #[.int .i64 a,.int .i64 z] w fun x w'=>Thr a z x w'∧Below w.heap.size w w':=by
 have HQ:Hid ((w.alloc (fltO a z)).heap[w.heap.size]?=some (fltO a z)∧Below w.heap.size w (w.alloc (fltO a z))):=⟨heap_alloc_new w _,(Below.refl _ w).alloc (Nat.le_refl _) _⟩
 go_enter Tryz.func242,Tryz.ntmps242
 go_wp2
 exact⟨rfl,⟨_,rfl,HQ.out.1⟩,HQ.out.2⟩
theorem ZlU {R:Nat} {vL:Value} {p:Nat} (z:Int) (w:World) (q:Uk w R vL (p:Int)) (hp:p≤4398046511104) :
  Calls Tryz.prog 204 #[.pointer (some ⟨R,0,none⟩),.int .i64 z] w fun x w'=>Thr ((p:Int)+1) z x w'∧w.grownBy w' (some R):=by
 obtain⟨c0,c1⟩:=q.cells
 clear q
 go_enter Tryz.func204,Tryz.ntmps204
 go_wp2_with fail
 refine (ZlX ((p:Int)+1) z w).mono ?_
 rintro x w1 ⟨⟨g,rfl,hg⟩,hb⟩
 go_wp2
 exact⟨rfl,⟨_,rfl,hg⟩,ZfO hb _⟩
theorem ZlV {R:Nat} {L:List (List UInt8)} {lo:Option Addr} {lc:Nat} {p:Nat} (w:World) (q:Uk w R (.slice lo L.length lc) p) (hL:HS w (.slice lo L.length lc) L) (hp:p≤L.length) (hLl:L.length≤2199023255552) (hs:∀ s∈L,s.length≤1099511627776)
  (X:Except (Nat × Int) (List UInt8 × List (List UInt8))) (HX:Hid (nxt p (L.drop p)=X)) :
  Calls Tryz.prog 240 #[.pointer (some ⟨R,0,none⟩)] w fun x w'=>LnQ R (.slice lo L.length lc) p X w x w':=by
 have hX:=HX.out
 clear HX
 by_cases hlt:p<L.length
 ·rw[Zhm hlt] at hX
  obtain⟨bk,off,rfl,hbk,hcl⟩:=HS.at hL (by omega)
  have d4:=hcl p hlt
  have hsl:=hs L[p] (List.getElem_mem _)
  generalize L[p]=s at d4 hsl hX
  clear hcl hs hL
  obtain⟨c0,c1⟩:=q.cells
  have e0:((p:Int) == (L.length:Int))=false:=beq_eq_false_iff_ne.2 (by omega)
  have i1:(0:Int)≤(p:Int):=by omega
  have i2:(p:Int)<(L.length:Int):=by omega
  have i3:(p:Int).toNat=p:=by omega
  cases hf:fdB s with
  | true =>
   rw[if_pos hf] at hX
   subst hX
   have HD:Hid (s.dropLast++[10]=s):=ZcM hf
   clear q
   go_enter Tryz.func240,Tryz.ntmps240
   go_wp2_with fail
   go_quiet (fail)
   go_wp2_with fail
   have c0':(w.drewN nq).cell? ⟨R,0,none⟩=_:=c0
   have c1':(w.drewN nq).cell? ⟨R,1,none⟩=_:=c1
   have d4':(w.drewN nq).cell? ⟨bk,off+p,none⟩=_:=d4
   have HM:Hid (∀ n,∃ k,(w.drewN nq).drewN n=w.drewN k):=fun n=>⟨_,World.drewN_drewN w nq n⟩
   clear c0 c1 d4
   generalize w.drewN nq=W1 at c0' c1' d4' HM ⊢
   have j1:(0:Int)≤(p:Int):=by omega
   have j2:(p:Int)<(L.length:Int):=by omega
   have j3:(p:Int).toNat=p:=by omega
   go_quiet (fail)
   go_wp2_with fail
   refine (Tryz.strings_HasSuffix ⟨s.toArray⟩ ⟨#[10]⟩ _ (by show s.length≤_;omega)).mono ?_
   rintro e w2 ⟨rfl,rfl⟩
   have e1:Lib.hasSuffix (⟨s.toArray⟩:ByteArray).data.toList (⟨#[10]⟩:ByteArray).data.toList=true:=(ZkK s).trans hf
   rw[e1]
   clear e1 hf
   go_wp2
   go_ret
   refine⟨?_,HM.out _⟩
   rw[HD.out]
   rfl
  | false =>
   rw[if_neg (by rw[hf];decide)] at hX
   subst hX
   have q0:=q
   clear q
   go_enter Tryz.func240,Tryz.ntmps240
   go_wp2_with fail
   go_quiet (fail)
   go_wp2_with fail
   have c0':(w.drewN nq).cell? ⟨R,0,none⟩=_:=c0
   have c1':(w.drewN nq).cell? ⟨R,1,none⟩=_:=c1
   have d4':(w.drewN nq).cell? ⟨bk,off+p,none⟩=_:=d4
   have HM:Hid (∀ n,w.grownBy ((w.drewN nq).drewN n) (some R)):=fun n=>ZdP (ZdP (ZfO (Below.refl _ _) _) nq) n
   have HQ:Hid (∀ n,Uk ((w.drewN nq).drewN n) R (.slice (some ⟨bk,off,none⟩) L.length lc) p):=fun n=>(q0.dN nq).dN n
   clear c0 c1 d4 q0
   generalize w.drewN nq=W1 at c0' c1' d4' HM HQ ⊢
   have j1:(0:Int)≤(p:Int):=by omega
   have j2:(p:Int)<(L.length:Int):=by omega
   have j3:(p:Int).toNat=p:=by omega
   go_quiet (fail)
   go_wp2_with fail
   refine (Tryz.strings_HasSuffix ⟨s.toArray⟩ ⟨#[10]⟩ _ (by show s.length≤_;omega)).mono ?_
   rintro e w2 ⟨rfl,rfl⟩
   have e1:Lib.hasSuffix (⟨s.toArray⟩:ByteArray).data.toList (⟨#[10]⟩:ByteArray).data.toList=false:=(ZkK s).trans hf
   rw[e1]
   clear e1 hf
   go_wp2_with fail
   refine (ZlU 3 _ (HQ.out _) (by omega)).mono ?_
   rintro e w3 ⟨⟨g,rfl,hg⟩,hgr⟩
   go_wp2
   exact⟨rfl,⟨_,rfl,hg⟩,ZdT (HM.out _) hgr⟩
 ·rw[Zhn (by omega)] at hX
  subst hX
  obtain⟨c0,c1⟩:=q.cells
  have e0:((p:Int) == (L.length:Int))=true:=beq_iff_eq.2 (by omega)
  have HM:Hid (∀ n,w.grownBy (w.drewN n) (some R)):=fun n=>ZdP (ZfO (Below.refl _ _) _) n
  have HQ:Hid (∀ n,Uk (w.drewN n) R (.slice lo L.length lc) p):=fun n=>q.dN n
  clear q hs hL
  go_enter Tryz.func240,Tryz.ntmps240
  go_wp2_with fail
  go_quiet (fail)
  go_wp2_with fail
  refine (ZlU 1 _ (HQ.out _) (by omega)).mono ?_
  rintro e w3 ⟨⟨g,rfl,hg⟩,hgr⟩
  go_wp2
  exact⟨rfl,⟨_,rfl,hg⟩,ZdT (HM.out _) hgr⟩
theorem Zio {L:List (List UInt8)} {p:Nat} (h:p<L.length):pkU atC (L.drop p)=atC.isPrefixOf L[p]:=by
 rw[List.drop_eq_getElem_cons h]
 rfl
theorem Zla {R:Nat} {L:List (List UInt8)} {lo:Option Addr} {lc:Nat} {p:Nat} (w:World) (q:Uk w R (.slice lo L.length lc) p) (hL:HS w (.slice lo L.length lc) L) (hp:p≤L.length) (hLl:L.length≤2199023255552) (r:Bool) (HR:Hid (pkU atC (L.drop p)=r)) :
  Calls Tryz.prog 205 #[.pointer (some ⟨R,0,none⟩)] w fun x w'=>x=.returned (.bool r)∧∃ n,w'=w.drewN n:=by
 obtain⟨c0,c1⟩:=q.cells
 by_cases hlt:p<L.length
 ·obtain⟨bk,off,rfl,hbk,hcl⟩:=HS.at hL (by omega)
  have d4:=hcl p hlt
  have HR2:=HR.out
  rw[Zio hlt] at HR2
  generalize L[p]=s at d4 HR2
  have hd:decide ((p:Int)<(L.length:Int))=true:=decide_eq_true (by omega)
  have i1:(0:Int)≤(p:Int):=by omega
  have i2:(p:Int)<(L.length:Int):=by omega
  have i3:(p:Int).toNat=p:=by omega
  have hhp:∀ u,Calls Tryz.prog 139 #[.string ⟨s.toArray⟩,.string ⟨atC.toArray⟩] u fun e w'=>e=.returned (.bool r)∧w'=u:=(by
   intro u
   refine (Tryz.strings_HasPrefix ⟨s.toArray⟩ ⟨atC.toArray⟩ u).mono ?_
   rintro e w' ⟨rfl,rfl⟩
   have e1:Lib.hasPrefix (⟨s.toArray⟩:ByteArray).data.toList (⟨atC.toArray⟩:ByteArray).data.toList=r:=HR2
   rw[e1]
   exact⟨rfl,rfl⟩)
  clear hcl hL q HR HR2
  go_enter Tryz.func205,Tryz.ntmps205
  go_wp2_with fail
  go_quiet ((go_at_call 139;exact Calls.quiet_of_same (hhp _)))
  go_wp2
  go_ret
  exact⟨rfl,_,rfl⟩
 ·have HE:Hid (false=r):=(by have h:=HR.out;rw[List.drop_of_length_le (by omega)] at h;exact h)
  have hd:decide ((p:Int)<(L.length:Int))=false:=decide_eq_false (by omega)
  clear hL q HR
  go_enter Tryz.func205,Tryz.ntmps205
  go_wp2_with fail
  go_quiet (fail)
  go_wp2
  go_ret
  exact⟨by rw[← HE.out];rfl,_,rfl⟩
theorem ZkY (s:List UInt8) (w:World) (hl:s.length≤1099511627776) (n:List UInt8) (r:Bool) (HN:Hid (unC s=n)) (HR:Hid (nokC s=r)) :
  Calls Tryz.prog 241 #[.string ⟨s.toArray⟩] w fun e w'=>e=.returned (pnV r n)∧Below w.heap.size w w':=by
 have hf:=ZbK s w hl n r HN HR
 cases r with
 | true =>
  have hf2:Calls Tryz.prog 253 #[.string ⟨s.toArray⟩] w fun e w'=>e=.returned (.tuple #[.string ⟨n.toArray⟩,.int .i64 0])∧Below w.heap.size w w':=hf
  clear hf
  go_enter Tryz.func241,Tryz.ntmps241
  go_wp2_with fail
  refine hf2.mono ?_
  rintro e w1 ⟨rfl,hB⟩
  go_wp2
  go_ret2
  exact⟨rfl,hB⟩
 | false =>
  have hf2:Calls Tryz.prog 253 #[.string ⟨s.toArray⟩] w fun e w'=>e=.returned (.tuple #[.string ⟨#[]⟩,.int .i64 253])∧Below w.heap.size w w':=hf
  clear hf
  go_enter Tryz.func241,Tryz.ntmps241
  go_wp2_with fail
  refine hf2.mono ?_
  rintro e w1 ⟨rfl,hB⟩
  go_wp2
  go_ret2
  exact⟨rfl,hB⟩
end

section
open Go.RowKit Go.Proofs.YtcniomgjikienaaGreatDoor.Tx
attribute [local go_sem] ByteArray.extract_mk Zhc
theorem ZlC {R:Nat} {L:List (List UInt8)} {lo:Option Addr} {lc:Nat} {p:Nat} (hd:List UInt8) (h4:hd.length=4) (w:World) (q:Uk w R (.slice lo L.length lc) p) (hL:HS w (.slice lo L.length lc) L) (hp:p≤L.length) (hLl:L.length≤2199023255552) (hs:∀ s∈L,s.length≤1099511627776)
  (X:Except (Nat × Int) (List UInt8 × List (List UInt8))) (HX:Hid (namP hd p (L.drop p)=X)) :
  Calls Tryz.prog 203 #[.pointer (some ⟨R,0,none⟩),.string ⟨hd.toArray⟩] w fun x w'=>NmX R X w x w':=by
 obtain⟨Y,hY⟩:∃ Y,nxt p (L.drop p)=Y:=⟨_,rfl⟩
 have hl:=ZlV w q hL hp hLl hs Y hY
 have hX:=HX.out
 unfold namP at hX
 rw[hY] at hX
 clear HX
 cases Y with
 | error z =>
  obtain⟨a,e⟩:=z
  dsimp only at hX
  subst hX
  go_enter Tryz.func203,Tryz.ntmps203
  go_wp2_with fail
  refine hl.mono ?_
  rintro x w1 ⟨⟨g,rfl,hg⟩,hgr⟩
  go_wp2
  exact⟨rfl,⟨_,rfl,hg⟩,hgr⟩
 | ok z =>
  obtain⟨s,r⟩:=z
  dsimp only at hX
  have hsl:s.length≤1099511627776:=(by
   obtain⟨_,hpl,_,hLp⟩:=Zhr hY
   have hsl:=hs L[p] (List.getElem_mem hpl)
   rw[hLp,List.length_append] at hsl
   omega)
  have hl2:Calls Tryz.prog 240 #[.pointer (some ⟨R,0,none⟩)] w fun x w'=>x=.returned (.string ⟨(s++[10]).toArray⟩)∧∃ n,w'=w.drewN n:=hl
  obtain⟨sf,hsf⟩:∃ t,s++[10]=t:=⟨_,rfl⟩
  have hsfl:sf.length≤1099511627777:=(by rw[← hsf,List.length_append];simp only[List.length_cons,List.length_nil];omega)
  have hts:Lib.trimSuffix sf [10]=s:=(by rw[← hsf];exact ZkV s)
  rw[hsf] at hl2
  have HTr:Hid (∀ u,Calls Tryz.prog 239 #[.string ⟨sf.toArray⟩,.string ⟨#[10]⟩] u fun e w'=>e=.returned (.string ⟨s.toArray⟩)∧w'=u):=(by
   intro u
   refine (Tryz.strings_TrimSuffix ⟨sf.toArray⟩ ⟨#[10]⟩ u (by show sf.length≤_;omega)).mono ?_
   rintro e w' ⟨rfl,rfl⟩
   have e1:Lib.trimSuffix (⟨sf.toArray⟩:ByteArray).data.toList (⟨#[10]⟩:ByteArray).data.toList=s:=hts
   rw[e1]
   exact⟨rfl,rfl⟩)
  obtain⟨pr,hpr⟩:∃ b,hd.isPrefixOf s=b:=⟨_,rfl⟩
  rw[hpr] at hX
  have HCp:Hid (∀ u,Calls Tryz.prog 238 #[.string ⟨s.toArray⟩,.string ⟨hd.toArray⟩] u fun e w'=>e=.returned (.tuple #[.string ⟨(if pr=true then s.drop 4 else s).toArray⟩,.bool pr])∧w'=u):=(by
   intro u
   refine (Tryz.strings_CutPrefix ⟨s.toArray⟩ ⟨hd.toArray⟩ u).mono ?_
   rintro e w' ⟨rfl,rfl⟩
   have e1:Lib.hasPrefix (⟨s.toArray⟩:ByteArray).data.toList (⟨hd.toArray⟩:ByteArray).data.toList=pr:=hpr
   have e2:Lib.trimPrefix (⟨s.toArray⟩:ByteArray).data.toList (⟨hd.toArray⟩:ByteArray).data.toList=if pr=true then s.drop 4 else s:=(by
    show (if Lib.hasPrefix s hd=true then s.drop hd.length else s)=_
    rw[show Lib.hasPrefix s hd=pr from hpr,h4])
   rw[e1,e2]
   exact⟨rfl,rfl⟩)
  clear hY hl hpr hsf hts hsfl
  cases pr with
  | true =>
   rw[if_pos rfl] at hX
   have HCp2:Hid (∀ u,Calls Tryz.prog 238 #[.string ⟨s.toArray⟩,.string ⟨hd.toArray⟩] u fun e w'=>e=.returned (.tuple #[.string ⟨(s.drop 4).toArray⟩,.bool true])∧w'=u):=HCp
   clear HCp
   have hdl:(s.drop 4).length≤1099511627776:=(by rw[List.length_drop];omega)
   generalize s.drop 4=t at hX HCp2 hdl
   rw[ZgK] at hX
   obtain⟨n,hn⟩:∃ n,unC t=n:=⟨_,rfl⟩
   obtain⟨b,hb⟩:∃ b,nokC t=b:=⟨_,rfl⟩
   have hf:=fun u=>ZkY t u hdl n b hn hb
   rw[hn,hb] at hX
   clear hn hb
   cases b with
   | true =>
    rw[if_pos rfl] at hX
    dsimp only at hX
    subst hX
    have hf2:∀ u,Calls Tryz.prog 241 #[.string ⟨t.toArray⟩] u fun e w'=>e=.returned (.tuple #[.string ⟨n.toArray⟩,.int .i64 0])∧Below u.heap.size u w':=hf
    clear hf
    go_enter Tryz.func203,Tryz.ntmps203
    go_wp2_with fail
    refine hl2.mono ?_
    rintro x w1 ⟨rfl,nn,rfl⟩
    go_wp2_with fail
    refine (HTr.out _).mono ?_
    rintro x w2 ⟨rfl,rfl⟩
    go_wp2_with fail
    refine (HCp2.out _).mono ?_
    rintro x w3 ⟨rfl,rfl⟩
    go_wp2_with fail
    refine (hf2 _).mono ?_
    rintro x w4 ⟨rfl,hB2⟩
    go_wp2
    go_ret
    exact⟨rfl,(Below.dN (Below.refl _ w) nn).trans hB2⟩
   | false =>
    rw[if_neg (by decide)] at hX
    dsimp only at hX
    subst hX
    have q2:=fun nn=>q.dN nn
    have hf2:∀ u,Calls Tryz.prog 241 #[.string ⟨t.toArray⟩] u fun e w'=>e=.returned (.tuple #[.string ⟨#[]⟩,.int .i64 253])∧Below u.heap.size u w':=hf
    clear hf
    go_enter Tryz.func203,Tryz.ntmps203
    go_wp2_with fail
    refine hl2.mono ?_
    rintro x w1 ⟨rfl,nn,rfl⟩
    go_wp2_with fail
    refine (HTr.out _).mono ?_
    rintro x w2 ⟨rfl,rfl⟩
    go_wp2_with fail
    refine (HCp2.out _).mono ?_
    rintro x w3 ⟨rfl,rfl⟩
    go_wp2_with fail
    refine (hf2 _).mono ?_
    rintro x w4 ⟨rfl,hB2⟩
    have q3:=(q2 nn).low hB2
    go_wp2_with fail
    refine (ZlU 253 _ q3 (by omega)).mono ?_
    rintro e w5 ⟨⟨g,rfl,hg⟩,hgr⟩
    go_wp2
    exact⟨rfl,⟨_,rfl,by simpa using hg⟩,ZdT (ZfO ((Below.dN (Below.refl _ w) nn).trans hB2) _) hgr⟩
  | false =>
   rw[if_neg (by decide)] at hX
   subst hX
   have HCp2:Hid (∀ u,Calls Tryz.prog 238 #[.string ⟨s.toArray⟩,.string ⟨hd.toArray⟩] u fun e w'=>e=.returned (.tuple #[.string ⟨s.toArray⟩,.bool false])∧w'=u):=HCp
   clear HCp
   have q2:=fun nn=>q.dN nn
   go_enter Tryz.func203,Tryz.ntmps203
   go_wp2_with fail
   refine hl2.mono ?_
   rintro x w1 ⟨rfl,nn,rfl⟩
   go_wp2_with fail
   refine (HTr.out _).mono ?_
   rintro x w2 ⟨rfl,rfl⟩
   go_wp2_with fail
   refine (HCp2.out _).mono ?_
   rintro x w3 ⟨rfl,rfl⟩
   go_wp2_with fail
   refine (ZlU 3 _ (q2 nn) (by omega)).mono ?_
   rintro e w5 ⟨⟨g,rfl,hg⟩,hgr⟩
   go_wp2
   exact⟨rfl,⟨_,rfl,by simpa using hg⟩,ZdT (ZdP (ZfO (Below.refl w.heap.size w) (some R)) nn) hgr⟩
end

section
open Ln
theorem Zcu {x:List UInt8} (hx:x≠[]) (s:List UInt8):(Lib.index s x=-1∧cutS x s=none)∨∃ k:Nat,Lib.index s x=(k:Int)∧cutS x s=some (s.take k,s.drop (k+x.length)):=by
 induction s with
 | nil =>
  left
  cases x with
  | nil=>exact absurd rfl hx
  | cons c t=>exact⟨rfl,rfl⟩
 | cons c t ih =>
  unfold Lib.index cutS
  by_cases h:x.isPrefixOf (c::t)=true
  ·rw[if_pos h,if_pos h]
   exact .inr ⟨0,rfl,by simp⟩
  ·rw[if_neg h,if_neg h]
   rcases ih with ⟨e1,e2⟩ | ⟨k,e1,e2⟩
   ·rw[e1,e2]
    exact .inl ⟨rfl,rfl⟩
   ·rw[e1,e2]
    refine .inr ⟨k+1,?_,?_⟩
    ·rw[if_neg (by simp)]
     simp
    ·have e:k+1+x.length=(k+x.length)+1:=by omega
     rw[e]
     simp
def ctA (x s:List UInt8):List UInt8:=match cutS x s with | none=>s | some (a,_)=>a
def ctB (x s:List UInt8):List UInt8:=match cutS x s with | none=>[] | some (_,b)=>b
def ctK (x s:List UInt8):Bool:=(cutS x s).isSome
theorem Zcs {x:List UInt8} (hx:x≠[]) (s:List UInt8):Lib.cut s x=(ctA x s,ctB x s,ctK x s):=by
 unfold Lib.cut ctA ctB ctK
 rcases Zcu hx s with ⟨e1,e2⟩ | ⟨k,e1,e2⟩
 ·rw[e1,e2,if_neg (by decide)]
  rfl
 ·rw[e1,e2,if_pos (by omega)]
  simp
theorem Zck {x s:List UInt8} (h:ctK x s=true):cutS x s=some (ctA x s,ctB x s):=by
 unfold ctK at h
 unfold ctA ctB
 cases hq:cutS x s with
 | none=>rw[hq] at h;cases h
 | some p=>rfl
theorem Zcj {x s:List UInt8} (h:ctK x s=false):cutS x s=none:=by
 unfold ctK at h
 cases hq:cutS x s with
 | none=>rfl
 | some p=>rw[hq] at h;cases h
theorem Zct (x s:List UInt8):(ctA x s).length≤s.length∧(ctB x s).length≤s.length:=by
 by_cases hx:x=[]
 ·subst hx
  unfold ctA ctB
  cases s with
  | nil=>exact⟨Nat.le_refl _,Nat.le_refl _⟩
  | cons c t=>exact⟨by simp[cutS],by simp[cutS]⟩
 ·unfold ctA ctB
  rcases Zcu hx s with ⟨_,e2⟩ | ⟨k,_,e2⟩
  ·rw[e2]
   exact⟨Nat.le_refl _,by simp⟩
  ·rw[e2]
   exact⟨by simp only[List.length_take];omega,by simp only[List.length_drop];omega⟩
theorem Zld {s o f:List UInt8} {a an b bn:Int} {ra rb:Bool} {hd:Bool} {s1 s2 t:List UInt8} (hh:([64,64,32,45]:List UInt8).isPrefixOf s=hd) (h1:hd=true→s1=s.drop 4) (ho:ctA [32,43] s1=o) (h2:ctB [32,43] s1=s2) (hf:ctA [32,64,64] s2=f) (ht:ctB [32,64,64] s2=t)
  (ca:cntP o=if ra=true then some (a,an) else none) (cb:cntP f=if rb=true then some (b,bn) else none) :
  uhdP s=if (hd && (ctK [32,43] s1 && (ctK [32,64,64] s2 && (ra && (rb && tlB t)))))=true then some (a,an,b,bn) else none:=by
 unfold uhdP
 rw[hh]
 cases hd with
 | false=>rfl
 | true =>
  rw[if_pos rfl,← h1 rfl]
  cases hk:ctK [32,43] s1 with
  | false=>rw[Zcj hk];rfl
  | true =>
   rw[Zck hk,ho,h2]
   dsimp only
   cases hk2:ctK [32,64,64] s2 with
   | false=>rw[Zcj hk2];rfl
   | true =>
    rw[Zck hk2,hf,ht]
    dsimp only
    cases htl:tlB t with
    | false=>simp
    | true =>
     rw[if_pos rfl,ca,cb]
     cases ra<;>cases rb<;>rfl
theorem ZbN (s:List UInt8):cntP s=if Pn.parseE (kA s)=0 then (if kS s=true then (if Pn.parseE (kB s)=0 then some (Pn.parseV (kA s),Pn.parseV (kB s)) else none) else some (Pn.parseV (kA s),1)) else none:=by
 unfold cntP
 cases hk:kS s with
 | false =>
  obtain⟨e1,e2⟩:=Zfb hk
  rw[e2,e1]
  rfl
 | true =>
  obtain⟨c,e⟩:=Zff hk
  rw[e]
  dsimp only
  by_cases h1:Pn.parseE (kA s)=0
  ·by_cases h2:Pn.parseE (kB s)=0
   ·rw[if_pos ⟨h1,h2⟩,if_pos h1,if_pos rfl,if_pos h2]
   ·rw[if_neg (fun q=>h2 q.2),if_pos h1,if_pos rfl,if_neg h2]
  ·rw[if_neg (fun q=>h1 q.1),if_neg h1]
end

section
open Go.RowKit Go.Proofs.YtcniomgjikienaaGreatDoor.Tx
attribute [local go_sem] ByteArray.extract_mk Zhc
def Mxl (w:World):Prop:=∃ m,w.cell? ⟨1,0,none⟩=some (.int .i64 m)
theorem Mxl.low {w w':World} (h:Mxl w) (hb:Below w.heap.size w w'):Mxl w':=by
 obtain⟨m,h⟩:=h
 exact⟨m,(World.cell?_of_block (hb.block _ (block_lt_of_cell h))).trans h⟩
theorem Mxl.keep {w w':World} {R:Nat} (h:Mxl w) (hg:w.grownBy w' (some R)) (hR:1<R):Mxl w':=by
 obtain⟨m,h⟩:=h
 exact⟨m,(World.cell?_of_block (hg.block _ (block_lt_of_cell h) (fun e=>by have:=Option.some.inj e;simp at this;omega))).trans h⟩
theorem ZkX (x s:List UInt8) (hx:x≠[]) (w:World) (hl:s.length≤1099511627) (hm:Mxl w) :
  Calls Tryz.prog 46 #[.string ⟨s.toArray⟩,.string ⟨x.toArray⟩] w fun e w'=>e=.returned (.tuple #[.string ⟨(ctA x s).toArray⟩,.string ⟨(ctB x s).toArray⟩,.bool (ctK x s)])∧∃ n,w'=w.drewN n:=by
 obtain⟨m,hm⟩:=hm
 refine (Tryz.strings_Cut ⟨s.toArray⟩ ⟨x.toArray⟩ m w (by show s.length<_;omega) hm).mono ?_
 rintro e w' ⟨rfl,hw⟩
 have h:=Zcs hx s
 have e1:Lib.cut (⟨s.toArray⟩:ByteArray).data.toList (⟨x.toArray⟩:ByteArray).data.toList=(ctA x s,ctB x s,ctK x s):=h
 rw[e1]
 exact⟨rfl,hw⟩
def NuQ (w:World) (s:List UInt8) (e:Ending) (w':World):Prop:=∃ x n r,e=.returned (.tuple #[.int .i64 x,.int .i64 n,.bool r])∧cntP s=(if r=true then some (x,n) else none)∧Below w.heap.size w w'
theorem ZlE (s:List UInt8) (w:World) (hl:s.length≤1099511627776) :
  Calls Tryz.prog 334 #[.string ⟨s.toArray⟩] w fun e w'=>NuQ w s e w':=by
 have hkl:=Zfa s
 obtain⟨V1,hV1⟩:∃ V,Pn.parseV (kA s)=V:=⟨_,rfl⟩
 obtain⟨E1,hE1⟩:∃ V,Pn.parseE (kA s)=V:=⟨_,rfl⟩
 obtain⟨V2,hV2⟩:∃ V,Pn.parseV (kB s)=V:=⟨_,rfl⟩
 obtain⟨E2,hE2⟩:∃ V,Pn.parseE (kB s)=V:=⟨_,rfl⟩
 have P1:∀ u:World,Calls Tryz.prog 337 #[.string ⟨(kA s).toArray⟩] u fun e w'=>e=.returned (.tuple #[.int .i64 V1,.int .i64 E1])∧Below u.heap.size u w':=(by
  intro u
  have h:=ZgD (kA s) u (by unfold maxLen;omega)
  rw[hV1,hE1] at h
  exact h)
 have P2:∀ u:World,Calls Tryz.prog 337 #[.string ⟨(kB s).toArray⟩] u fun e w'=>e=.returned (.tuple #[.int .i64 V2,.int .i64 E2])∧Below u.heap.size u w':=(by
  intro u
  have h:=ZgD (kB s) u (by unfold maxLen;omega)
  rw[hV2,hE2] at h
  exact h)
 have HM:Hid (cntP s=if E1=0 then if kS s=true then if E2=0 then some (V1,V2) else none else some (V1,1) else none):=(by
  show _=_
  rw[ZbN,hV1,hE1,hV2,hE2])
 have C1:=ZgA s w hl
 obtain⟨ks,hks⟩:∃ k,kS s=k:=⟨_,rfl⟩
 rw[hks] at C1 HM
 clear hV1 hE1 hV2 hE2 hks
 by_cases he1:E1=0
 ·have f1:(E1 != 0)=false:=by simp[he1]
  have f2:(E1 == 0)=true:=by simp[he1]
  cases ks with
  | false =>
   have HN:Hid (cntP s=some (V1,1)):=(by have h:=HM.out;rw[if_pos he1,if_neg (by decide)] at h;exact h)
   clear HM he1 P2
   go_enter Tryz.func334,Tryz.ntmps334
   go_wp2_with fail
   refine C1.mono ?_
   rintro e w1 ⟨rfl,n,rfl⟩
   go_wp2_with fail
   refine (P1 _).mono ?_
   rintro e w2 ⟨rfl,hb2⟩
   go_wp2
   go_ret3
   exact⟨_,_,_,rfl,HN.out,(Below.dN (Below.refl _ w) n).trans hb2⟩
  | true =>
   have HN:Hid (cntP s=if (E2 == 0)=true then some (V1,V2) else none):=(by
    have h:=HM.out
    rw[if_pos he1,if_pos rfl] at h
    show _=_
    rw[h]
    simp)
   clear HM he1
   go_enter Tryz.func334,Tryz.ntmps334
   go_wp2_with fail
   refine C1.mono ?_
   rintro e w1 ⟨rfl,n,rfl⟩
   go_wp2_with fail
   refine (P1 _).mono ?_
   rintro e w2 ⟨rfl,hb2⟩
   go_wp2_with fail
   refine (P2 _).mono ?_
   rintro e w3 ⟨rfl,hb3⟩
   have hb23:=(Below.dN (Below.refl _ w) n).trans (hb2.trans (hb3.mono hb2.size))
   go_wp2
   go_ret3
   exact⟨_,_,_,rfl,HN.out,hb23⟩
 ·have f1:(E1 != 0)=true:=by simp[he1]
  have f2:(E1 == 0)=false:=by simp[he1]
  have HN:Hid (cntP s=none):=(by have h:=HM.out;rw[if_neg he1] at h;exact h)
  clear HM he1 P2
  go_enter Tryz.func334,Tryz.ntmps334
  go_wp2_with fail
  refine C1.mono ?_
  rintro e w1 ⟨rfl,n,rfl⟩
  go_wp2_with fail
  refine (P1 _).mono ?_
  rintro e w2 ⟨rfl,hb2⟩
  go_wp2
  go_ret3
  exact⟨_,_,_,rfl,HN.out,(Below.dN (Below.refl _ w) n).trans hb2⟩
end

section
open Go.RowKit Go.Proofs.YtcniomgjikienaaGreatDoor.Tx
attribute [local go_sem] ByteArray.extract_mk Zhc
def hk0 (A AN B BN:Int):Value:=.agg #[.int .i64 A,.int .i64 AN,.int .i64 B,.int .i64 BN,.slice none 0 0]
theorem ZiK {B b:Nat} {w u:World} (h:Below B w u) (hb:B≤b) (z0 z1 z2 z3 z4:Value):Below B w (((((u.setCell ⟨b,0,none⟩ z0).setCell ⟨b,1,none⟩ z1).setCell ⟨b,2,none⟩ z2).setCell ⟨b,3,none⟩ z3).setCell ⟨b,4,none⟩ z4):=((((h.setCell (p:=⟨b,0,none⟩) hb z0).setCell (p:=⟨b,1,none⟩) hb z1).setCell (p:=⟨b,2,none⟩) hb z2).setCell (p:=⟨b,3,none⟩) hb z3).setCell (p:=⟨b,4,none⟩) hb z4
def BgQ (w:World) (s:List UInt8) (e:Ending) (w':World):Prop:=∃ A AN B BN r,e=.returned (.tuple #[hk0 A AN B BN,.bool r])∧uhdP s=(if r=true then some (A,AN,B,BN) else none)∧Below w.heap.size w w'
theorem ZkS (c:UInt8) (t:List UInt8):tlB (c::t)=((c.toNat:Int) == 32):=by
 show (c == 32)=_
 rw[Bool.eq_iff_iff,beq_iff_eq,beq_iff_eq,← UInt8.toNat_inj]
 show c.toNat=32↔_
 omega
theorem Zlb (s:List UInt8) (w:World) (hl:s.length≤1099511627) (hm:Mxl w) :
  Calls Tryz.prog 294 #[.string ⟨s.toArray⟩] w fun e w'=>BgQ w s e w':=by
 obtain⟨hd,hhd⟩:∃ b,([64,64,32,45]:List UInt8).isPrefixOf s=b:=⟨_,rfl⟩
 obtain⟨s1,hs1⟩:∃ t,(if hd=true then s.drop 4 else s)=t:=⟨_,rfl⟩
 have hl1:s1.length≤1099511627:=(by
  rw[← hs1]
  split
  ·rw[List.length_drop];omega
  ·exact hl)
 have hC0:∀ u,Calls Tryz.prog 238 #[.string ⟨s.toArray⟩,.string ⟨#[64,64,32,45]⟩] u fun e w'=>e=.returned (.tuple #[.string ⟨s1.toArray⟩,.bool hd])∧w'=u:=(by
  intro u
  refine (Tryz.strings_CutPrefix ⟨s.toArray⟩ ⟨#[64,64,32,45]⟩ u).mono ?_
  rintro e w' ⟨rfl,rfl⟩
  have e1:Lib.hasPrefix (⟨s.toArray⟩:ByteArray).data.toList (⟨#[64,64,32,45]⟩:ByteArray).data.toList=hd:=hhd
  have e2:Lib.trimPrefix (⟨s.toArray⟩:ByteArray).data.toList (⟨#[64,64,32,45]⟩:ByteArray).data.toList=s1:=(by
   show (if Lib.hasPrefix s [64,64,32,45]=true then s.drop 4 else s)=_
   rw[show Lib.hasPrefix s [64,64,32,45]=hd from hhd,hs1])
  rw[e1,e2]
  exact⟨rfl,rfl⟩)
 obtain⟨o,ho⟩:∃ t,ctA [32,43] s1=t:=⟨_,rfl⟩
 obtain⟨s2,hs2⟩:∃ t,ctB [32,43] s1=t:=⟨_,rfl⟩
 obtain⟨k1,hk1⟩:∃ t,ctK [32,43] s1=t:=⟨_,rfl⟩
 obtain⟨f,hf⟩:∃ t,ctA [32,64,64] s2=t:=⟨_,rfl⟩
 obtain⟨t,ht⟩:∃ t,ctB [32,64,64] s2=t:=⟨_,rfl⟩
 obtain⟨k2,hk2⟩:∃ t,ctK [32,64,64] s2=t:=⟨_,rfl⟩
 have c1:=Zct [32,43] s1
 have c2:=Zct [32,64,64] s2
 rw[ho,hs2] at c1
 rw[hf,ht] at c2
 have hC1:∀ u,Mxl u→Calls Tryz.prog 46 #[.string ⟨s1.toArray⟩,.string ⟨#[32,43]⟩] u fun e w'=>e=.returned (.tuple #[.string ⟨o.toArray⟩,.string ⟨s2.toArray⟩,.bool k1])∧∃ n,w'=u.drewN n:=(by
  intro u hu
  have h:=ZkX [32,43] s1 (by simp) u hl1 hu
  rw[ho,hs2,hk1] at h
  exact h)
 have hC2:∀ u,Mxl u→Calls Tryz.prog 46 #[.string ⟨s2.toArray⟩,.string ⟨#[32,64,64]⟩] u fun e w'=>e=.returned (.tuple #[.string ⟨f.toArray⟩,.string ⟨t.toArray⟩,.bool k2])∧∃ n,w'=u.drewN n:=(by
  intro u hu
  have h:=ZkX [32,64,64] s2 (by simp) u (by omega) hu
  rw[hf,ht,hk2] at h
  exact h)
 have hN1:=fun u=>ZlE o u (by omega)
 have hN2:=fun u=>ZlE f u (by omega)
 have HW:Hid (∀ (a an b bn:Int) (ra rb:Bool),cntP o=(if ra=true then some (a,an) else none)→cntP f=(if rb=true then some (b,bn) else none)→uhdP s=if (hd && (k1 && (k2 && (ra && (rb && tlB t)))))=true then some (a,an,b,bn) else none):=(by
  intro a an b bn ra rb ca cb
  have h:=Zld hhd (s1:=s1) (fun e=>by rw[← hs1,if_pos e]) ho hs2 hf ht ca cb
  rw[hk1,hk2] at h
  exact h)
 have hx1:=Hx.new w ⟨0,0,0,0,[]⟩ (.slice none 0 0)
 have hb1:Below w.heap.size w (w.alloc (hkO ⟨0,0,0,0,[]⟩ (.slice none 0 0))):=(Below.refl _ w).alloc (Nat.le_refl _) _
 have hm1:Mxl (w.alloc (hkO ⟨0,0,0,0,[]⟩ (.slice none 0 0))):=hm.low hb1
 clear hhd hs1 ho hs2 hk1 hf ht hk2 c1 c2 hl hl1 hm
 unfold hkO at hx1 hb1 hm1
 dsimp only at hx1 hb1 hm1
 go_enter Tryz.func294,Tryz.ntmps294
 go_wp2_with fail
 refine (hC0 _).mono ?_
 rintro e w1 ⟨rfl,rfl⟩
 go_wp2_with fail
 refine (hC1 _ hm1).mono ?_
 rintro e w2 ⟨rfl,n2,rfl⟩
 have hx2:=hx1.row n2
 have hb2:=Below.dN hb1 n2
 have hm2:=hm1.low (Below.dN (Below.refl _ _) n2)
 clear hx1 hb1 hm1
 generalize World.drewN _ n2=W2 at hx2 hb2 hm2 ⊢
 go_wp2_with fail
 refine (hC2 _ hm2).mono ?_
 rintro e w3 ⟨rfl,n3,rfl⟩
 have hx3:=hx2.row n3
 have hb3:=Below.dN hb2 n3
 clear hx2 hb2 hm2
 generalize World.drewN _ n3=W3 at hx3 hb3 ⊢
 go_wp2_with fail
 refine (hN1 _).mono ?_
 rintro e w4 ⟨a,an,ra,rfl,ca,hB4⟩
 have hx4:=hx3.low hB4
 have hb4:=hb3.trans (hB4.mono hb3.size)
 clear hx3 hb3 hB4
 go_wp2_with fail
 refine (hN2 _).mono ?_
 rintro e w5 ⟨b,bn,rb,rfl,cb,hB5⟩
 have hx5:=hx4.low hB5
 have hb5:=hb4.trans (hB5.mono hb4.size)
 have HU:Hid (uhdP s=if (hd && (k1 && (k2 && (ra && (rb && tlB t)))))=true then some (a,an,b,bn) else none):=HW.out a an b bn ra rb ca cb
 clear hx4 hb4 hB5 ca cb HW hC0 hC1 hC2 hN1 hN2
 obtain⟨r,hr⟩:∃ r,(hd && (k1 && (k2 && (ra && (rb && tlB t)))))=r:=⟨_,rfl⟩
 rw[hr] at HU
 have HR:Hid ((hd && (k1 && (k2 && (ra && (rb && tlB t)))))=r):=hr
 clear hr
 go_upto_region 6 with fail
 go_cut [17] (fun rv wz=>rv=.bool r∧wz=w5)
 case first =>
  cases hd with
  | false =>
   have HE:Hid (false=r):=HR
   clear HR HU
   go_wp2
   go_meet
   case rel=>exact⟨by rw[← HE.out],rfl⟩
  | true =>
  cases k1 with
  | false =>
   have HE:Hid (false=r):=HR
   clear HR HU
   go_wp2
   go_meet
   case rel=>exact⟨by rw[← HE.out],rfl⟩
  | true =>
  cases k2 with
  | false =>
   have HE:Hid (false=r):=HR
   clear HR HU
   go_wp2
   go_meet
   case rel=>exact⟨by rw[← HE.out],rfl⟩
  | true =>
  cases ra with
  | false =>
   have HE:Hid (false=r):=HR
   clear HR HU
   go_wp2
   go_meet
   case rel=>exact⟨by rw[← HE.out],rfl⟩
  | true =>
  cases rb with
  | false =>
   have HE:Hid (false=r):=HR
   clear HR HU
   go_wp2
   go_meet
   case rel=>exact⟨by rw[← HE.out],rfl⟩
  | true =>
  cases t with
  | nil =>
   have HE:Hid (true=r):=HR
   clear HR HU
   go_wp2
   go_meet
   case rel=>exact⟨by rw[← HE.out],rfl⟩
  | cons c t =>
   have HE:Hid (((c.toNat:Int) == 32)=r):=(by show _=_;rw[← ZkS c t];exact HR.out)
   have i1:(0:Int)<(t.length:Int)+1:=by omega
   clear HR HU
   go_wp2
   go_meet
   case rel=>exact⟨by rw[← HE.out],rfl⟩
 case rest =>
 obtain⟨rfl,hw5⟩:=hcut
 subst hw5
 clear HR
 obtain⟨z0,z1,z2,z3,z4⟩:=hx5.cells
 dsimp only at z0 z1 z2 z3
 have zf0:=hx5.frozen 0
 have zf1:=hx5.frozen 1
 have zf2:=hx5.frozen 2
 have zf3:=hx5.frozen 3
 have zf4:=hx5.frozen 4
 have fh:=hx5.put5 (.int .i64 a) (.int .i64 an) (.int .i64 b) (.int .i64 bn) (.slice none 0 0)
 have fb:=ZiK hb5 (Nat.le_refl _) (.int .i64 a) (.int .i64 an) (.int .i64 b) (.int .i64 bn) (.slice none 0 0)
 clear hx5 hb5
 go_wp2
 exact bodyPost_ret (results_cell_tmp rfl _ _ w.heap.size 45 #[.int .i64 a,.int .i64 an,.int .i64 b,.int .i64 bn,.slice none 0 0] (0,0) _ rfl fh Tryz.underlying45 rfl (by kernel_rfl)) rfl ⟨a,an,b,bn,r,rfl,HU.out,fb⟩
end

section
open Go.RowKit
attribute [local go_sem] ByteArray.extract_mk Zhc
def NcQ (w:World) (s:List UInt8) (e:Ending) (w':World):Prop:=∃ x n r,e=.returned (.tuple #[.int .i64 x,.int .i64 n,.bool r])∧nmC s=(if r=true then some (x,n) else none)∧Below w.heap.size w w'
theorem ZbQ (s:List UInt8) (w:World) (hl:s.length≤1099511627776) :
  Calls Tryz.prog 303 #[.string ⟨s.toArray⟩] w fun e w'=>NcQ w s e w':=by
 have hkl:=Zfa s
 have b1:=@ZiG (kA s)
 have b2:=@ZiG (kB s)
 obtain⟨V1,hV1⟩:∃ V,Pn.parseV (kA s)=V:=⟨_,rfl⟩
 obtain⟨E1,hE1⟩:∃ V,Pn.parseE (kA s)=V:=⟨_,rfl⟩
 obtain⟨V2,hV2⟩:∃ V,Pn.parseV (kB s)=V:=⟨_,rfl⟩
 obtain⟨E2,hE2⟩:∃ V,Pn.parseE (kB s)=V:=⟨_,rfl⟩
 have P1:∀ u:World,Calls Tryz.prog 337 #[.string ⟨(kA s).toArray⟩] u fun e w'=>e=.returned (.tuple #[.int .i64 V1,.int .i64 E1])∧Below u.heap.size u w':=(by
  intro u
  have h:=ZgD (kA s) u (by unfold maxLen;omega)
  rw[hV1,hE1] at h
  exact h)
 have P2:∀ u:World,Calls Tryz.prog 337 #[.string ⟨(kB s).toArray⟩] u fun e w'=>e=.returned (.tuple #[.int .i64 V2,.int .i64 E2])∧Below u.heap.size u w':=(by
  intro u
  have h:=ZgD (kB s) u (by unfold maxLen;omega)
  rw[hV2,hE2] at h
  exact h)
 rw[hV1] at b1
 rw[hV2] at b2
 have HM:Hid (nmC s=if E1=0 then if kS s=true then if E2=0∧0<V1∧V1<V2 then some (V1,V2) else none else some (V1,V1) else none):=(by
  show _=_
  unfold nmC
  rw[hV1,hE1,hV2,hE2])
 have C1:=ZgA s w hl
 obtain⟨ks,hks⟩:∃ k,kS s=k:=⟨_,rfl⟩
 rw[hks] at C1 HM
 clear hV1 hE1 hV2 hE2 hks
 by_cases he1:E1=0
 ·have f1:(E1 != 0)=false:=by simp[he1]
  have f2:(E1 == 0)=true:=by simp[he1]
  cases ks with
  | false =>
   have HN:Hid (nmC s=some (V1,V1)):=(by have h:=HM.out;rw[if_pos he1,if_neg (by decide)] at h;exact h)
   clear HM he1 P2
   go_enter Tryz.func303,Tryz.ntmps303
   go_wp2_with fail
   refine C1.mono ?_
   rintro e w1 ⟨rfl,n,rfl⟩
   go_wp2_with fail
   refine (P1 _).mono ?_
   rintro e w2 ⟨rfl,hb2⟩
   go_wp2
   go_ret3
   exact⟨_,_,_,rfl,HN.out,(Below.dN (Below.refl _ w) n).trans hb2⟩
  | true =>
   have HN:Hid (nmC s=if E2=0∧0<V1∧V1<V2 then some (V1,V2) else none):=(by have h:=HM.out;rw[if_pos he1,if_pos rfl] at h;exact h)
   clear HM he1
   go_enter Tryz.func303,Tryz.ntmps303
   go_wp2_with fail
   refine C1.mono ?_
   rintro e w1 ⟨rfl,n,rfl⟩
   go_wp2_with fail
   refine (P1 _).mono ?_
   rintro e w2 ⟨rfl,hb2⟩
   go_wp2_with fail
   refine (P2 _).mono ?_
   rintro e w3 ⟨rfl,hb3⟩
   have hb23:=(Below.dN (Below.refl _ w) n).trans (hb2.trans (hb3.mono hb2.size))
   by_cases h1:E2=0
   ·have g1:(E2 == 0)=true:=by simp[h1]
    by_cases h2:0<V1
    ·have HN2:Hid (nmC s=if decide (V1<V2)=true then some (V1,V2) else none):=(by
      show _=_
      rw[HN.out]
      simp[h1,h2])
     clear HN h1
     go_wp2
     go_ret3
     exact⟨_,_,_,rfl,HN2.out,hb23⟩
    ·have HN2:Hid (nmC s=none):=(by have h:=HN.out;rw[if_neg (by simp[h2])] at h;exact h)
     clear HN h1
     go_wp2
     go_ret3
     exact⟨_,_,_,rfl,HN2.out,hb23⟩
   ·have g1:(E2 == 0)=false:=by simp[h1]
    have HN2:Hid (nmC s=none):=(by have h:=HN.out;rw[if_neg (by simp[h1])] at h;exact h)
    clear HN h1
    go_wp2
    go_ret3
    exact⟨_,_,_,rfl,HN2.out,hb23⟩
 ·have f1:(E1 != 0)=true:=by simp[he1]
  have f2:(E1 == 0)=false:=by simp[he1]
  have HN:Hid (nmC s=none):=(by have h:=HM.out;rw[if_neg he1] at h;exact h)
  clear HM he1 P2
  go_enter Tryz.func303,Tryz.ntmps303
  go_wp2_with fail
  refine C1.mono ?_
  rintro e w1 ⟨rfl,n,rfl⟩
  go_wp2_with fail
  refine (P1 _).mono ?_
  rintro e w2 ⟨rfl,hb2⟩
  go_wp2
  go_ret3
  exact⟨_,_,_,rfl,HN.out,(Below.dN (Below.refl _ w) n).trans hb2⟩
theorem Zka (sg a b:UInt8) (t:List UInt8):isSd sg (a::b::t)=(decide (b.toNat=32) && (decide (a.toNat=32) || decide (a.toNat=33) || decide (a.toNat=sg.toNat))):=by
 simp only[isSd]
 rw[Bool.eq_iff_iff]
 simp only[Bool.and_eq_true,Bool.or_eq_true,beq_iff_eq,decide_eq_true_eq,← UInt8.toNat_inj]
 constructor
 ·rintro⟨(h | h) | h,h2⟩<;>exact⟨h2,by simp[h]⟩
 ·rintro⟨h2,(h | h) | h⟩<;>exact⟨by simp[h],h2⟩
theorem ZbA (l:List UInt8) (sg:UInt8) (w:World) (hl:l.length≤1099511627776) (r:Bool) (HR:Hid (isSd sg l=r)) :
  Calls Tryz.prog 304 #[.string ⟨l.toArray⟩,.int .u8 (sg.toNat:Int)] w fun e w'=>e=.returned (.bool r)∧w'=w:=by
 match l,hl,HR with
 | [],_,HR =>
  have HE:Hid (false=r):=HR
  go_enter Tryz.func304,Tryz.ntmps304
  go_wp2
  go_ret
  exact⟨by rw[← HE.out];rfl,rfl⟩
 | [a],_,HR =>
  have HE:Hid (false=r):=HR
  go_enter Tryz.func304,Tryz.ntmps304
  go_wp2
  go_ret
  exact⟨by rw[← HE.out];rfl,rfl⟩
 | a::b::t,hl,HR =>
  have HR2:=HR.out
  rw[Zka] at HR2
  have ha:=a.toNat_lt
  have hb:=b.toNat_lt
  have hs:=sg.toNat_lt
  simp only[List.length_cons] at hl
  have i1:¬ (t.length:Int)+1+1<2:=by omega
  have i2:(1:Int)<(t.length:Int)+1+1:=by omega
  have i3:(0:Int)<(t.length:Int)+1+1:=by omega
  by_cases h1:b.toNat=32
  ·have e1:((b.toNat:Int) != 32)=false:=by simp;omega
   rw[decide_eq_true h1,Bool.true_and] at HR2
   by_cases h2:a.toNat=32
   ·have e2:((a.toNat:Int) == 32)=true:=by simp;omega
    have HE:Hid (true=r):=(by show _=_;rw[← HR2,decide_eq_true h2];rfl)
    clear HR HR2 h1 h2
    go_enter Tryz.func304,Tryz.ntmps304
    go_wp2
    go_ret
    exact⟨by rw[← HE.out];rfl,rfl⟩
   ·have e2:((a.toNat:Int) == 32)=false:=by simp;omega
    rw[decide_eq_false h2,Bool.false_or] at HR2
    by_cases h3:a.toNat=33
    ·have e3:((a.toNat:Int) == 33)=true:=by simp;omega
     have HE:Hid (true=r):=(by show _=_;rw[← HR2,decide_eq_true h3];rfl)
     clear HR HR2 h1 h2 h3
     go_enter Tryz.func304,Tryz.ntmps304
     go_wp2
     go_ret
     exact⟨by rw[← HE.out];rfl,rfl⟩
    ·have e3:((a.toNat:Int) == 33)=false:=by simp;omega
     rw[decide_eq_false h3,Bool.false_or] at HR2
     have HE:Hid (((a.toNat:Int) == (sg.toNat:Int))=r):=(by
      show _=_
      rw[← HR2,Bool.eq_iff_iff,beq_iff_eq,decide_eq_true_eq]
      omega)
     clear HR HR2 h1 h2 h3
     go_enter Tryz.func304,Tryz.ntmps304
     go_wp2
     go_ret
     exact⟨by rw[← HE.out];rfl,rfl⟩
  ·have e1:((b.toNat:Int) != 32)=true:=by simp;omega
   have HE:Hid (false=r):=(by show _=_;rw[← HR2,decide_eq_false h1];rfl)
   clear HR HR2 h1
   go_enter Tryz.func304,Tryz.ntmps304
   go_wp2
   go_ret
   exact⟨by rw[← HE.out];rfl,rfl⟩
theorem Zin {L:List (List UInt8)} {p:Nat} (h:p<L.length):pkS (L.drop p)=starsT.isPrefixOf L[p]:=by
 rw[List.drop_eq_getElem_cons h]
 rfl
theorem Zba {R:Nat} {L:List (List UInt8)} {lo:Option Addr} {lc:Nat} {p:Nat} (w:World) (q:Ck w R (.slice lo L.length lc) p) (hL:HS w (.slice lo L.length lc) L) (hp:p≤L.length) (hLl:L.length≤2199023255552) (r:Bool) (HR:Hid (pkS (L.drop p)=r)) :
  Calls Tryz.prog 213 #[.pointer (some ⟨R,0,none⟩)] w fun x w'=>x=.returned (.bool r)∧∃ n,w'=w.drewN n:=by
 obtain⟨c0,c1⟩:=q.cells
 by_cases hlt:p<L.length
 ·obtain⟨bk,off,rfl,hbk,hcl⟩:=HS.at hL (by omega)
  have d4:=hcl p hlt
  have HR2:=HR.out
  rw[Zin hlt] at HR2
  generalize L[p]=s at d4 HR2
  have hd:decide ((p:Int)<(L.length:Int))=true:=decide_eq_true (by omega)
  have i1:(0:Int)≤(p:Int):=by omega
  have i2:(p:Int)<(L.length:Int):=by omega
  have i3:(p:Int).toNat=p:=by omega
  have hhp:∀ u,Calls Tryz.prog 139 #[.string ⟨s.toArray⟩,.string ⟨starsT.toArray⟩] u fun e w'=>e=.returned (.bool r)∧w'=u:=(by
   intro u
   refine (Tryz.strings_HasPrefix ⟨s.toArray⟩ ⟨starsT.toArray⟩ u).mono ?_
   rintro e w' ⟨rfl,rfl⟩
   have e1:Lib.hasPrefix (⟨s.toArray⟩:ByteArray).data.toList (⟨starsT.toArray⟩:ByteArray).data.toList=r:=HR2
   rw[e1]
   exact⟨rfl,rfl⟩)
  clear hcl hL q HR HR2
  go_enter Tryz.func213,Tryz.ntmps213
  go_wp2_with fail
  go_quiet ((go_at_call 139;exact Calls.quiet_of_same (hhp _)))
  go_wp2
  go_ret
  exact⟨rfl,_,rfl⟩
 ·have HE:Hid (false=r):=(by have h:=HR.out;rw[List.drop_of_length_le (by omega)] at h;exact h)
  have hd:decide ((p:Int)<(L.length:Int))=false:=decide_eq_false (by omega)
  clear hL q HR
  go_enter Tryz.func213,Tryz.ntmps213
  go_wp2_with fail
  go_quiet (fail)
  go_wp2
  go_ret
  exact⟨by rw[← HE.out];rfl,_,rfl⟩
def starsP (k p:Nat) (ls:List (List UInt8)):Except (Nat × Int) (List (List UInt8)) :=
 match nxt p ls with
 | .error e=>.error e
 | .ok (s,r)=>if isSt s=true then if 4096≤k then .error (p+1,9) else .ok r else .error (p+1,3)
def StX (R:Nat) (vL:Value) (p:Nat) (X:Except (Nat × Int) (List (List UInt8))) (w:World) (x:Ending) (w':World):Prop :=
 match X with
 | .error (a,e)=>Thr (a:Int) e x w'∧w.grownBy w' (some R)
 | .ok _=>x=.returned (.int .i64 ((p:Int)+1))∧Ck w' R vL ((p+1:Nat):Int)∧w.grownBy w' (some R)
theorem ZkB (k p:Nat) (ls:List (List UInt8)):starsP k p ls=match barP starsT p ls with
  | .error e=>.error e
  | .ok (t,r)=>if (t.isEmpty || t.head? == some 32)=true then if 4096≤k then .error (p+1,9) else .ok r else .error (p+1,3):=by
 unfold starsP barP
 cases nxt p ls with
 | error e=>rfl
 | ok z =>
  obtain⟨s,r⟩:=z
  dsimp only
  unfold isSt
  by_cases h:starsT.isPrefixOf s=true
  ·rw[h,Bool.true_and,if_pos rfl]
   rfl
  ·rw[Bool.eq_false_iff.2 h,Bool.false_and,if_neg (by decide),if_neg (by decide)]
theorem Zcf {R:Nat} {L:List (List UInt8)} {lo:Option Addr} {lc:Nat} {p k:Nat} (hk:k≤4096) (w:World) (q:Ck w R (.slice lo L.length lc) p) (hL:HS w (.slice lo L.length lc) L) (hp:p≤L.length) (hLl:L.length≤2199023255552) (hs:∀ s∈L,s.length≤1099511627776)
  (X:Except (Nat × Int) (List (List UInt8))) (HX:Hid (starsP k p (L.drop p)=X)) :
  Calls Tryz.prog 256 #[.pointer (some ⟨R,0,none⟩),.int .i64 (k:Int)] w fun x w'=>StX R (.slice lo L.length lc) p X w x w':=by
 obtain⟨Y,hY⟩:∃ Y,barP starsT p (L.drop p)=Y:=⟨_,rfl⟩
 have hl:=Zbh starsT w q hL hp hLl hs Y hY
 have hX:=HX.out
 rw[ZkB,hY] at hX
 clear HX
 cases Y with
 | error z =>
  obtain⟨a,e⟩:=z
  dsimp only at hX
  subst hX
  go_enter Tryz.func256,Tryz.ntmps256
  go_wp2_with fail
  refine hl.mono ?_
  rintro x w1 ⟨⟨g,rfl,hg⟩,hgr⟩
  go_wp2
  exact⟨rfl,⟨_,rfl,hg⟩,hgr⟩
 | ok z =>
  obtain⟨t,r⟩:=z
  dsimp only at hX
  have hl2:Calls Tryz.prog 254 #[.pointer (some ⟨R,0,none⟩),.string ⟨starsT.toArray⟩] w fun x w'=>x=.returned (.string ⟨t.toArray⟩)∧∃ n,w'=w.drewN n:=hl
  have q2:=fun nn=>q.dN nn
  clear hY hl
  by_cases ht:(t.isEmpty || t.head? == some 32)=true
  ·rw[if_pos ht] at hX
   go_enter Tryz.func256,Tryz.ntmps256
   go_wp2_with fail
   refine hl2.mono ?_
   rintro x w1 ⟨rfl,nn,rfl⟩
   go_upto_region 2 with fail
   go_cut [14] (fun cv wz=>cv=.bool false∧wz=w.drewN nn)
   case first =>
    cases t with
    | nil =>
     go_wp2
     go_meet
     case rel=>exact⟨rfl,rfl⟩
    | cons c t =>
     have hc:c=32:=(by simpa using ht)
     subst hc
     clear ht
     go_wp2
     go_meet
     case rel=>exact⟨rfl,rfl⟩
   case rest =>
   obtain⟨rfl,rfl⟩:=hcut
   have q3:=q2 nn
   have g3:=ZdP (ZfO (Below.refl w.heap.size w) (some R)) nn
   generalize w.drewN nn=W1 at q3 g3 ⊢
   by_cases hk2:4096≤k
   ·rw[if_pos hk2] at hX
    subst hX
    have e1:((k:Int) == 4096)=true:=beq_iff_eq.2 (by omega)
    go_wp2_with fail
    refine (ZbY 9 _ q3 (by omega)).mono ?_
    rintro e w3 ⟨⟨g,rfl,hg⟩,hgr⟩
    go_wp2
    exact⟨rfl,⟨_,rfl,by simpa using hg⟩,ZdT g3 hgr⟩
   ·rw[if_neg hk2] at hX
    subst hX
    have e1:((k:Int) == 4096)=false:=beq_eq_false_iff_ne.2 (by omega)
    obtain⟨c0,c1⟩:=q3.cells
    have f1:=q3.frozen 1
    have q4:Ck (W1.setCell ⟨R,1,none⟩ (.int .i64 ((p:Int)+1))) R (.slice lo L.length lc) (((p+1:Nat)):Int):=(by have:=q3.at ((p:Int)+1);simpa using this)
    have g4:=ZdT g3 (ZdS W1 R 1 (.int .i64 ((p:Int)+1)))
    clear q3 g3
    go_wp2
    go_ret
    exact⟨rfl,q4,g4⟩
  ·rw[if_neg ht] at hX
   subst hX
   cases t with
   | nil=>exact absurd rfl ht
   | cons c t =>
    have hc:c≠32:=(by simpa using ht)
    have hcl:=c.toNat_lt
    have e1:((c.toNat:Int) != 32)=true:=(by
     rw[bne_iff_ne]
     intro e
     apply hc
     rw[← UInt8.toNat_inj]
     show c.toNat=32
     omega)
    have i1:(0:Int)<(t.length:Int)+1:=by omega
    clear ht hc
    go_enter Tryz.func256,Tryz.ntmps256
    go_wp2_with fail
    refine hl2.mono ?_
    rintro x w1 ⟨rfl,nn,rfl⟩
    go_wp2_with fail
    refine (ZbY 3 _ (q2 nn) (by omega)).mono ?_
    rintro e w3 ⟨⟨g,rfl,hg⟩,hgr⟩
    go_wp2
    exact⟨rfl,⟨_,rfl,by simpa using hg⟩,ZdT (ZdP (ZfO (Below.refl w.heap.size w) (some R)) nn) hgr⟩
end

section
open Go.RowKit
structure Mrow (w:World) (g n cap:Nat) (r:List Mk):Prop where
 ex:∃ cur:Array Value,w.heap[g]?=some (.cells cur 47 (0,0))∧cur.size=cap * 2∧cur.toList.take (n * 2)=mkcells r
 le:n≤cap
 len:r.length=n
theorem Zgq (r:List Mk):∀ (i:Nat) (m:Mk),i<r.length→((mkcells r).set (i * 2) (.int .u8 m.sg)).set (i * 2+1) (.string ⟨m.tx.toArray⟩)=mkcells (r.set i m):=by
 induction r with
 | nil=>intro i m h;simp at h
 | cons x r ih =>
  intro i m h
  have e1:mkcells (x::r)=.int .u8 x.sg::.string ⟨x.tx.toArray⟩::mkcells r:=rfl
  cases i with
  | zero=>rw[e1];rfl
  | succ i =>
   have e2:(i+1) * 2=i * 2+1+1:=by omega
   have e3:mkcells ((x::r).set (i+1) m)=.int .u8 x.sg::.string ⟨x.tx.toArray⟩::mkcells (r.set i m):=rfl
   rw[e1,e2,e3]
   simp only[List.set_cons_succ]
   rw[ih i m (by simpa using h)]
section
variable {w u:World} {g n cap:Nat} {r:List Mk}
theorem Mrow.low (h:Mrow w g n cap r) (hb:Below w.heap.size w u):Mrow u g n cap r:=by
 obtain⟨⟨cur,h1,h2,h3⟩,hl,hn⟩:=h
 exact⟨⟨cur,(hb.block g (Array.getElem?_eq_some_iff.1 h1).1).trans h1,h2,h3⟩,hl,hn⟩
theorem Mrow.lt (h:Mrow w g n cap r):g<w.heap.size:=by
 obtain⟨⟨cur,h1,_⟩,_⟩:=h
 exact (Array.getElem?_eq_some_iff.1 h1).1
theorem Mrow.holds (h:Mrow w g n cap r) (k:Nat) (hk:k≤n):HMk w (.slice (some ⟨g,0,none⟩) k cap) (r.take k):=by
 obtain⟨⟨cur,h1,h2,h3⟩,hl,hn⟩:=h
 have hlk:(r.take k).length=k:=by rw[List.length_take];omega
 unfold HMk
 rw[hlk]
 refine .inr ⟨⟨g,0,none⟩,cap,rfl,by omega,fun j v hj=>?_⟩
 rw[← Zgr,← h3,List.take_take] at hj
 have hjl:j<k * 2:=by
  have:=(List.getElem?_eq_some_iff.1 hj).1
  rw[List.length_take] at this
  omega
 rw[List.getElem?_take_of_lt (by omega)] at hj
 rw[Zao,Nat.zero_add,Lib.cell_of_heap h1]
 simpa using hj
theorem Mrow.store (h:Mrow w g n cap r) (i:Nat) (hi:i<n) (m:Mk):Mrow ((w.setCell ⟨g,i * 2,none⟩ (.int .u8 m.sg)).setCell ⟨g,i * 2+1,none⟩ (.string ⟨m.tx.toArray⟩)) g n cap (r.set i m):=by
 obtain⟨⟨cur,h1,h2,h3⟩,hl,hn⟩:=h
 have s1:=heap_setCell_same w g (i * 2) cur _ (.int .u8 m.sg) h1
 have s2:=heap_setCell_same _ g (i * 2+1) _ _ (.string ⟨m.tx.toArray⟩) s1
 refine⟨⟨_,s2,by simpa using h2,?_⟩,hl,by simpa using hn⟩
 have e1:((cur.setIfInBounds (i * 2) (.int .u8 m.sg)).setIfInBounds (i * 2+1) (.string ⟨m.tx.toArray⟩)).toList=(cur.toList.set (i * 2) (.int .u8 m.sg)).set (i * 2+1) (.string ⟨m.tx.toArray⟩):=by simp
 rw[e1,List.take_set,List.take_set,h3,Zgq r i m (by omega)]
theorem Mrow.cells (h:Mrow w g n cap r) (i:Nat) (hi:i<n):∃ x y,w.cell? ⟨g,i * 2,none⟩=some (.int .u8 x)∧w.cell? ⟨g,i * 2+1,none⟩=some (.string y):=by
 have hh:=h.holds n (Nat.le_refl _)
 have hl:=h.len
 obtain⟨b,off,he,hb,hcl⟩:=HMk.at hh (by rw[List.length_take];omega)
 cases he
 have hc:=hcl i (by rw[List.length_take];omega)
 rw[Nat.zero_add] at hc
 exact⟨_,_,hc.1,hc.2⟩
theorem Mrow.frozen (h:Mrow w g n cap r) (j:Nat):w.frozen? ⟨g,j,none⟩=false:=by
 obtain⟨⟨cur,h1,_⟩,_⟩:=h
 exact Lib.frozen_of_heap h1 j
end
theorem Zgu {w:World} {B n:Nat} {v:Value} {l:List Mk} (h:w.ownsRow B 47 2 v n (mkcells l)) (h0:0<n):∃ g cap,v=.slice (some ⟨g,0,none⟩) n cap∧B≤g∧Mrow w g n cap l:=by
 have hl:=h.1
 rw[Zgo] at hl
 rcases h.2 with ⟨_,h1⟩ | ⟨g,cap,cur,rfl,q2,q3,q4,q5,q6,q7⟩
 ·omega
 ·exact⟨g,cap,rfl,q2,⟨cur,q3,q6,q7⟩,q4,by omega⟩
theorem ZjK (w:World) (ty:TypeId) (g o n c:Nat) (cur:List Value) (hg:w.heap[g]?=some (.cells cur.toArray 47 (0,0))) (hfit:o+n * 2≤cur.length) :
  ∃ u,(Builtin.clear_ #[43] ty #[.slice (some ⟨g,o,none⟩) n c]).run Tryz.prog w=.ok (.tuple #[]) u∧w.grownBy u (some g)∧∃ cur':List Value,u.heap[g]?=some (.cells cur'.toArray 47 (0,0))∧cur'.length=cur.length∧cur'.take o=cur.take o:=by
 have hT:=Tryz.underlying43
 cases n with
 | zero=>exact⟨w,by simp[Builtin.clear_,run_underlying hT],World.grownBy.refl _ _,cur,hg,rfl,rfl⟩
 | succ n =>
  obtain⟨zs,hzs⟩:∃ zs:List Value,(Builtin.zeroCells (Value.agg #[.int .u8 0,.string ⟨#[]⟩]).cells (n+1)).toList=zs:=⟨_,rfl⟩
  have hzl:zs.length=(n+1) * 2:=by rw[← hzs];simp[Builtin.zeroCells,Value.cells]
  have hz1:∀ v∈zs,v.oneCell'=true:=by
   intro v hv
   rw[← hzs] at hv
   simp[Builtin.zeroCells,Value.cells] at hv
   obtain⟨k,hk,rfl⟩:=hv
   have:k % 2=0∨k % 2=1:=by omega
   rcases this with h | h<;>simp[h]<;>rfl
  have hst:=run_storeCells_at Tryz.prog g o _ zs 0 cur.toArray w hg (by simp;omega) hz1
  have hzv:(zeroValue 47).run Tryz.prog w=.ok (.agg #[.int .u8 0,.string ⟨#[]⟩]) w:=by
   obtain⟨i0,hi,hz0,_,_⟩:=info_parts infoMk
   simp[zeroValue,typeInfo,hi,hz0]
  refine⟨w.setRow g (spl cur o zs).toArray,?_,Zke _ _ _,_,setRow_heap w g _ _ _ _ hg,Zku (by omega),?_⟩
  ·simp[Builtin.clear_,run_underlying hT,hzv,hzs,hst,spl]
  ·unfold spl
   rw[List.append_assoc,List.take_left' (by simp;omega)]
theorem Zez (p:Mk→Bool) (l:List Mk):∀ k,(idxI p k l=-1∧∀ m∈l,p m=false)∨∃ i,∃ h:i<l.length,idxI p k l=((k+i:Nat):Int)∧p l[i]=true∧∀ m∈l.take i,p m=false:=by
 induction l with
 | nil=>intro k;exact .inl ⟨rfl,fun m hm=>by cases hm⟩
 | cons x l ih =>
  intro k
  by_cases h:p x=true
  ·refine .inr ⟨0,by simp,?_,by simpa using h,by simp⟩
   have e:idxI p k (x::l)=(k:Int):=if_pos h
   rw[e];simp
  ·have e:idxI p k (x::l)=idxI p (k+1) l:=if_neg h
   rcases ih (k+1) with ⟨h1,h2⟩ | ⟨i,hi,h1,h2,h3⟩
   ·refine .inl ⟨e.trans h1,fun m hm=>?_⟩
    rcases List.mem_cons.1 hm with rfl | hm
    ·exact Bool.eq_false_iff.2 h
    ·exact h2 m hm
   ·refine .inr ⟨i+1,by simpa using hi,?_,by simpa using h2,fun m hm=>?_⟩
    ·rw[e,h1];congr 1;omega
    ·rw[List.take_succ_cons] at hm
     rcases List.mem_cons.1 hm with rfl | hm
     ·exact Bool.eq_false_iff.2 h
     ·exact h3 m hm
theorem Zfj {l:List Mk} (h:∀ m∈l,(m.sg != 32)=false):keptM l=l:=by
 unfold keptM
 rw[List.filter_eq_self]
 intro m hm
 have:=h m hm
 simpa using this
theorem Zfl (l:List Mk) (j:Nat) (hj:j<l.length):keptM (l.take (j+1))=keptM (l.take j)++(if l[j].sg=32 then [l[j]] else []):=by
 rw[List.take_succ_eq_append_getElem hj]
 unfold keptM
 rw[List.filter_append]
 congr 1
 by_cases h:l[j].sg=32
 ·rw[if_pos h];simp[h]
 ·rw[if_neg h];simp[h]
theorem ZbC (m:Mk) (w:World):Calls Tryz.prog 308 #[.agg #[.int .u8 m.sg,.string ⟨m.tx.toArray⟩]] w fun e w'=>e=.returned (.bool (m.sg != 32))∧Below w.heap.size w w':=by
 have hBl:Below w.heap.size w (w.alloc (.cells #[.int .u8 m.sg,.string ⟨m.tx.toArray⟩] 47)):=(Below.refl _ w).alloc (Nat.le_refl _) _
 have hc:=Zby m (w.alloc (.cells #[.int .u8 m.sg,.string ⟨m.tx.toArray⟩] 47))
 go_enter Tryz.func308,Tryz.ntmps308
 go_wp2_with fail
 refine hc.mono ?_
 rintro e w1 ⟨rfl,hB⟩
 go_wp2
 go_ret
 exact⟨rfl,hBl.trans (hB.mono hBl.size)⟩
theorem Zbl (l:List Mk) (g n cap:Nat) (w:World) (hr:Mrow w g n cap l) (hn:n≤1099511627776) :
  Calls Tryz.prog 306 #[.slice (some ⟨g,0,none⟩) n cap,.func (.func 308) #[] #[]] w fun e w'=>∃ k,e=.returned (.slice (some ⟨g,0,none⟩) k cap)∧HMk w' (.slice (some ⟨g,0,none⟩) k cap) (keptM l)∧k=(keptM l).length∧w.grownBy w' (some g):=by
 have hln:=hr.len
 have hcap:=hr.le
 have hv:HMk w (.slice (some ⟨g,0,none⟩) n cap) l:=(by
  have h:=hr.holds n (Nat.le_refl _)
  rw[List.take_of_length_le (by omega)] at h
  exact h)
 have hix:=fun z HZ=>ZaR 308 #[] l (fun m=>m.sg != 32) (.slice (some ⟨g,0,none⟩) n cap) w hv (by omega) (enters_of Tryz.func308 (by kernel_rfl) rfl) (fun m _ u _=>ZbC m u) z HZ
 rcases Zez (fun m=>m.sg != 32) l 0 with ⟨h1,h2⟩ | ⟨i0,hi0,h1,h2,h3⟩
 ·have hk:keptM l=l:=Zfj h2
  have hc:=hix (-1) h1
  have HH:Hid (∀ u,Below w.heap.size w u→HMk u (.slice (some ⟨g,0,none⟩) n cap) (keptM l)∧n=(keptM l).length):=(by
   intro u hu
   rw[hk]
   exact⟨hv.keep hu (Nat.le_refl _),hln.symm⟩)
  clear hix h1 h2 hk hv hr
  go_enter Tryz.func306,Tryz.ntmps306
  go_wp2_with fail
  refine hc.mono ?_
  rintro e w1 ⟨rfl,hB⟩
  go_wp2
  go_ret
  exact⟨n,rfl,(HH.out w1 hB).1,(HH.out w1 hB).2,ZfO hB _⟩
 ·have hc:=hix (i0:Int) (by show _=_;rw[h1];simp)
  have HI0:Hid (l.take i0=keptM (l.take (i0+1))∧l.drop (i0+1)=l.drop (i0+1)):=⟨by
   have h4:¬ l[i0].sg=32:=by simpa using h2
   rw[Zfl l i0 hi0,if_neg h4,List.append_nil,Zfj h3],rfl⟩
  have j0:((i0:Int) == -1)=false:=beq_eq_false_iff_ne.2 (by omega)
  clear hix h1 h2 h3 hv
  go_enter Tryz.func306,Tryz.ntmps306
  go_wp2_with fail
  refine hc.mono ?_
  rintro e w1 ⟨rfl,hB⟩
  have hr1:=hr.low hB
  have hg1:=ZfO hB (some g)
  clear hc hr hB
  go_wp2
  go_loopw [5,6] (fun iv jv wr=>∃ (i j:Nat) (r:List Mk),i<j∧j≤n∧iv=.int .i64 i∧jv=.int .i64 j∧Mrow wr g n cap r∧w.grownBy wr (some g)∧Hid (r.take i=keptM (l.take j)∧r.drop j=l.drop j)) (fun _ jv _=>n-(intOf jv).toNat)
  case atStart=>exact⟨i0,i0+1,l,by omega,by omega,rfl,by go_num,hr1,hg1,⟨HI0.out.1,rfl⟩⟩
  case round =>
  clear HI0 hr1 hg1
  obtain⟨i,j,r,hij,hj,rfl,rfl,hr,hg,HI⟩:=hrel
  by_cases hlt:j<n
  ·have hh:=hr.holds n (Nat.le_refl _)
   obtain⟨b,off,he,hb,hcl⟩:=HMk.at hh (by rw[List.length_take];have:=hr.len;omega)
   have he2:b=g∧off=0:=(by cases he;exact⟨rfl,rfl⟩)
   obtain⟨rfl,rfl⟩:=he2
   have hrl:=hr.len
   have hcj:=hcl j (by rw[List.length_take];omega)
   have hrj:(r.take n)[j]'(by rw[List.length_take];omega)=l[j]'(by omega):=(by
    have h:=congrArg (fun x=>x[0]?) HI.out.2
    simp only[List.getElem?_drop,Nat.add_zero] at h
    rw[List.getElem?_eq_getElem (by omega),List.getElem?_eq_getElem (by omega),Option.some.injEq] at h
    rw[List.getElem_take,h])
   rw[hrj] at hcj
   obtain⟨c0,c1⟩:=hcj
   rw[Nat.zero_add] at c0 c1
   have HK:=Zfl l j (by omega)
   obtain⟨m,hm⟩:∃ m,l[j]'(by omega)=m:=⟨_,rfl⟩
   rw[hm] at c0 c1 HK
   have i1:(0:Int)≤(j:Int):=by omega
   have i2:(j:Int)<(n:Int):=by omega
   have i3:(0:Int)≤(i:Int):=by omega
   have i4:(i:Int)<(n:Int):=by omega
   have hBm:Below wr.heap.size wr (wr.alloc (.cells #[.int .u8 m.sg,.string ⟨m.tx.toArray⟩] 47)):=(Below.refl _ wr).alloc (Nat.le_refl _) _
   have hkc:=ZbC m (wr.alloc (.cells #[.int .u8 m.sg,.string ⟨m.tx.toArray⟩] 47))
   have hMb:(wr.alloc (.cells #[.int .u8 m.sg,.string ⟨m.tx.toArray⟩] 47)).heap[wr.heap.size]?=some (.cells #[.int .u8 m.sg,.string ⟨m.tx.toArray⟩] 47):=heap_alloc_new wr _
   have hMl:wr.heap.size<(wr.alloc (.cells #[.int .u8 m.sg,.string ⟨m.tx.toArray⟩] 47)).heap.size:=by simp
   clear hcl hrj hh he hb
   by_cases hs:m.sg=32
   ·have e1:(m.sg != 32)=false:=by simp[hs]
    rw[e1] at hkc
    rw[if_pos hs] at HK
    have HI2:Hid ((r.set i m).take (i+1)=keptM (l.take (j+1))∧(r.set i m).drop (j+1)=l.drop (j+1)):=(by
     constructor
     ·rw[HK,← HI.out.1,List.take_succ_eq_append_getElem (by simp;omega),List.take_set,List.set_eq_of_length_le (by rw[List.length_take];omega)]
      simp
     ·rw[List.drop_set_of_lt (by omega)]
      have h:=congrArg List.tail HI.out.2
      simpa using h)
    clear HI HK hs e1 hm
    go_upto_region 8 with fail
    go_wp2_with fail
    refine hkc.mono ?_
    rintro e w2 ⟨rfl,hB2⟩
    have hm2:=(hB2.block _ hMl).trans hMb
    have m0:w2.cell? ⟨wr.heap.size,0,none⟩=some (.int .u8 m.sg):=(by rw[Lib.cell_of_heap hm2];rfl)
    have m1:w2.cell? ⟨wr.heap.size,1,none⟩=some (.string ⟨m.tx.toArray⟩):=(by rw[Lib.cell_of_heap hm2];rfl)
    have hr2:=(hr.low hBm).low hB2
    have hg2:=ZdT (ZdT hg (ZfO hBm (some b))) (ZfO hB2 (some b))
    obtain⟨x0,y0,t0,t1⟩:=hr2.cells i (by omega)
    have f0:=hr2.frozen (i * 2)
    have f1:=hr2.frozen (i * 2+1)
    have hr3:=hr2.store i (by omega) m
    have hg3:=ZdT (ZdT hg2 (ZdS w2 b (i * 2) (.int .u8 m.sg))) (ZdS _ b (i * 2+1) (.string ⟨m.tx.toArray⟩))
    clear c0 c1 hkc hMb hMl hm2 hr hg hr2 hg2 hB2 hBm
    go_wp2
    exact⟨⟨i+1,j+1,_,by omega,by omega,by go_num,by go_num,hr3,hg3,HI2⟩,by simp[intOf];omega⟩
   ·have e1:(m.sg != 32)=true:=by simp[hs]
    rw[e1] at hkc
    rw[if_neg hs,List.append_nil] at HK
    have HI2:Hid (r.take i=keptM (l.take (j+1))∧r.drop (j+1)=l.drop (j+1)):=⟨HI.out.1.trans HK.symm,by
     have h:=congrArg List.tail HI.out.2
     simpa using h⟩
    have hr2:=hr.low hBm
    have hg2:=ZdT hg (ZfO hBm (some b))
    clear HI HK hs e1 hm hMb hMl hr hg hBm
    go_wp2_with fail
    refine hkc.mono ?_
    rintro e w2 ⟨rfl,hB2⟩
    have hr3:=hr2.low hB2
    have hg3:=ZdT hg2 (ZfO hB2 (some b))
    clear c0 c1 hkc hr2 hg2 hB2
    go_wp2
    exact⟨⟨i,j+1,r,by omega,by omega,rfl,by go_num,hr3,hg3,HI2⟩,by simp[intOf];omega⟩
  ·have hend:¬ (j:Int)<(n:Int):=by omega
   have hjn:j=n:=by omega
   subst hjn
   have hi1:i≤j:=by omega
   have HK:Hid (r.take i=keptM l∧i=(keptM l).length):=(by
    have h:=HI.out.1
    rw[List.take_of_length_le (show l.length≤j by omega)] at h
    refine⟨h,?_⟩
    rw[← h,List.length_take]
    have:=hr.len
    omega)
   have hs1:=ZjL (some ⟨g,0,none⟩) j cap i hi1 hcap
   have hs2:=ZjM (some ⟨g,0,none⟩) j cap i hi1 hcap
   have hsf:mslF (some ⟨g,0,none⟩) cap i=some ⟨g,i * 2,none⟩:=(by
    unfold mslF
    rw[if_neg (by omega)]
    simp[Zao])
   rw[hsf] at hs1
   obtain⟨cur,q1,q2,q3⟩:=hr.ex
   obtain⟨u,hcr,hcg,cur',k1,k2,k3⟩:=ZjK wr 0 g (i * 2) (j-i) (cap-i) cur.toList (by simpa using q1) (by simp;omega)
   have hHu:HMk u (.slice (some ⟨g,0,none⟩) i cap) (keptM l):=(by
    have hl2:(keptM l).length=i:=HK.out.2.symm
    unfold HMk
    rw[hl2]
    refine .inr ⟨⟨g,0,none⟩,cap,rfl,by omega,fun t v ht=>?_⟩
    have htl:t<i * 2:=(by
     have:=(List.getElem?_eq_some_iff.1 ht).1
     rw[Zgo,hl2] at this
     exact this)
    have h1:cur.toList.take (i * 2)=mkcells (keptM l):=(by
     rw[← HK.out.1,← Zgr,← q3,List.take_take]
     congr 1
     omega)
    rw[← h1,← k3,List.getElem?_take_of_lt htl] at ht
    rw[Zao,Nat.zero_add,Lib.cell_of_heap k1]
    simpa using ht)
   have hgu:=ZdT hg hcg
   clear HI hsf q1 q2 q3 k1 k2 k3 hr hg hcg
   go_wp2_with (first | (refine Zmj (o:=⟨none,_,_,_,_,none⟩) _ rfl (.tmp 38) 43 rfl _ rfl _ _ hcr ?_) | fail)
   go_wp2
   go_ret
   exact⟨i,rfl,hHu,HK.out.2,hgu⟩
end

end Go.Proofs.YtcniomgjikienaaGreatDoor
