/-
  Texts that belong together, joined: NpE, NoM4, NpM, NpF, NpG, NpH, CxMath, CxM2, CxM3, CxM4, CxM5, CxM6, CxM7, NoPs, NpN.
-/
import Derived.Test.YtgiojkhmkeocfaaGreatDoorUnAgrA9
import Derived.WalkLawsBesides
import Derived.Lib.OthersKept
import Derived.Laws.RangeAny

set_option maxHeartbeats 16000000
set_option maxRecDepth 100000
namespace Go.Proofs.YtgiojkhmkeocfaaGreatDoor

section
open Go.RowKit
attribute [local go_sem] ByteArray.extract_mk ZvA
def ryO (vL:Value) (p:Int):Obj:=.cells #[vL,.int .i64 p] 138
def Ry (u:World) (R:Nat) (vL:Value) (p:Int):Prop:=u.heap[R]?=some (ryO vL p)
def fltO (a z:Int):Obj:=.cells #[.int .i64 a,.iface 26 (.int .i64 z)] 88
section
variable {u u':World} {R:Nat} {vL:Value} {p:Int}
theorem Ry.cells (q:Ry u R vL p):u.cell? ⟨R,0,none⟩=some vL∧u.cell? ⟨R,1,none⟩=some (.int .i64 p):=by
 unfold Ry ryO at q
 refine⟨?_,?_⟩<;>rw[Lib.cell_of_heap q]<;>rfl
theorem Ry.frozen (q:Ry u R vL p) (j:Nat):u.frozen? ⟨R,j,none⟩=false:=Lib.frozen_of_heap q j
theorem Ry.lt (q:Ry u R vL p):R<u.heap.size:=(Array.getElem?_eq_some_iff.1 q).1
theorem Ry.dN (q:Ry u R vL p) (n:Nat):Ry (u.drewN n) R vL p:=q
theorem Ry.at (q:Ry u R vL p) (p':Int):Ry (u.setCell ⟨R,1,none⟩ (.int .i64 p')) R vL p':=heap_setCell_same u R 1 _ _ (.int .i64 p') q
theorem Ry.low (q:Ry u R vL p) (hg:Below u.heap.size u u'):Ry u' R vL p:=(hg.block R q.lt).trans q
theorem Ry.keep (q:Ry u R vL p) {g:Option Nat} (hg:u.grownBy u' g) (hr:some R≠g):Ry u' R vL p:=(hg.block R q.lt hr).trans q
end
def Thr (a z:Int) (x:Ending) (w':World):Prop:=∃ g,x=.panicked [{ v:=.iface 86 (.pointer (some ⟨g,0,none⟩)),recovered:=false }]∧w'.heap[g]?=some (fltO a z)
theorem ZmK {R:Nat} {vL:Value} {p:Nat} (z:Int) (w:World) (q:Ry w R vL (p:Int)) (hp:p≤4398046511104) :
  Calls Tryz.prog 139 #[.pointer (some ⟨R,0,none⟩),.int .i64 z] w fun x w'=>Thr ((p:Int)+1) z x w'∧w.grownBy w' (some R):=by
 obtain⟨c0,c1⟩:=q.cells
 have HQ:Hid ((w.alloc (fltO ((p:Int)+1) z)).heap[w.heap.size]?=some (fltO ((p:Int)+1) z)∧w.grownBy (w.alloc (fltO ((p:Int)+1) z)) (some R)):=⟨heap_alloc_new w _,World.grownBy_alloc w _ _⟩
 clear q
 go_enter Tryz.func139,Tryz.ntmps139
 go_wp2
 exact⟨rfl,⟨_,rfl,HQ.out.1⟩,HQ.out.2⟩
def LnQ (R:Nat) (_vL:Value) (_p:Nat) (X:Except (Nat × Int) (List UInt8 × List (List UInt8))) (w:World) (x:Ending) (w':World):Prop :=
 match X with
 | .error (a,e)=>Thr (a:Int) e x w'∧w.grownBy w' (some R)
 | .ok (s,_)=>x=.returned (.string ⟨(s++[10]).toArray⟩)∧∃ n,w'=w.drewN n
theorem Zfj {s:List UInt8} (h:fdB s=true):s.dropLast++[10]=s:=(ZfQ h).symm
theorem Zmx {R:Nat} {L:List (List UInt8)} {lo:Option Addr} {lc:Nat} {p:Nat} (w:World) (q:Ry w R (.slice lo L.length lc) p) (hL:HS w (.slice lo L.length lc) L) (hp:p≤L.length) (hLl:L.length≤2199023255552) (hs:∀ s∈L,s.length≤1099511627776)
  (X:Except (Nat × Int) (List UInt8 × List (List UInt8))) (HX:Hid (nxt p (L.drop p)=X)) :
  Calls Tryz.prog 138 #[.pointer (some ⟨R,0,none⟩)] w fun x w'=>LnQ R (.slice lo L.length lc) p X w x w':=by
 have hX:=HX.out
 clear HX
 by_cases hlt:p<L.length
 ·rw[Zna hlt] at hX
  obtain⟨bk,off,rfl,hbk,hcl⟩:=HS.at hL (by omega)
  have d4:=hcl p hlt
  have hsl:=hs L[p] (List.getElem_mem _)
  generalize L[p]=s at d4 hsl hX
  clear hcl hs hL
  obtain⟨c0,c1⟩:=q.cells
  have e0:((p:Int) == (L.length:Int))=false:=beq_eq_false_iff_ne.2 (by omega)
  have i1:(0:Int)≤(p:Int):=by omega
  have i2:(p:Int)<(L.length:Int):=by omega
  have i3:(p:Int).toNat=p:=by omega
  cases hf:fdB s with
  | true =>
   rw[if_pos hf] at hX
   subst hX
   have HD:Hid (s.dropLast++[10]=s):=Zfj hf
   clear q
   go_enter Tryz.func138,Tryz.ntmps138
   go_wp2_with fail
   go_quiet (fail)
   go_wp2_with fail
   have c0':(w.drewN nq).cell? ⟨R,0,none⟩=_:=c0
   have c1':(w.drewN nq).cell? ⟨R,1,none⟩=_:=c1
   have d4':(w.drewN nq).cell? ⟨bk,off+p,none⟩=_:=d4
   have HM:Hid (∀ n,∃ k,(w.drewN nq).drewN n=w.drewN k):=fun n=>⟨_,World.drewN_drewN w nq n⟩
   clear c0 c1 d4
   generalize w.drewN nq=W1 at c0' c1' d4' HM ⊢
   have j1:(0:Int)≤(p:Int):=by omega
   have j2:(p:Int)<(L.length:Int):=by omega
   have j3:(p:Int).toNat=p:=by omega
   go_quiet (fail)
   go_wp2_with fail
   refine (Tryz.strings_HasSuffix ⟨s.toArray⟩ ⟨#[10]⟩ _ (by show s.length≤_;omega)).mono ?_
   rintro e w2 ⟨rfl,rfl⟩
   have e1:Lib.hasSuffix (⟨s.toArray⟩:ByteArray).data.toList (⟨#[10]⟩:ByteArray).data.toList=true:=(Zsy s).trans hf
   rw[e1]
   clear e1 hf
   go_wp2
   go_ret
   refine⟨?_,HM.out _⟩
   rw[HD.out]
   rfl
  | false =>
   rw[if_neg (by rw[hf];decide)] at hX
   subst hX
   have q0:=q
   clear q
   go_enter Tryz.func138,Tryz.ntmps138
   go_wp2_with fail
   go_quiet (fail)
   go_wp2_with fail
   have c0':(w.drewN nq).cell? ⟨R,0,none⟩=_:=c0
   have c1':(w.drewN nq).cell? ⟨R,1,none⟩=_:=c1
   have d4':(w.drewN nq).cell? ⟨bk,off+p,none⟩=_:=d4
   have HM:Hid (∀ n,w.grownBy ((w.drewN nq).drewN n) (some R)):=fun n=>Zha (Zha (ZkI (Below.refl _ _) _) nq) n
   have HQ:Hid (∀ n,Ry ((w.drewN nq).drewN n) R (.slice (some ⟨bk,off,none⟩) L.length lc) p):=fun n=>(q0.dN nq).dN n
   clear c0 c1 d4 q0
   generalize w.drewN nq=W1 at c0' c1' d4' HM HQ ⊢
   have j1:(0:Int)≤(p:Int):=by omega
   have j2:(p:Int)<(L.length:Int):=by omega
   have j3:(p:Int).toNat=p:=by omega
   go_quiet (fail)
   go_wp2_with fail
   refine (Tryz.strings_HasSuffix ⟨s.toArray⟩ ⟨#[10]⟩ _ (by show s.length≤_;omega)).mono ?_
   rintro e w2 ⟨rfl,rfl⟩
   have e1:Lib.hasSuffix (⟨s.toArray⟩:ByteArray).data.toList (⟨#[10]⟩:ByteArray).data.toList=false:=(Zsy s).trans hf
   rw[e1]
   clear e1 hf
   go_wp2_with fail
   refine (ZmK 3 _ (HQ.out _) (by omega)).mono ?_
   rintro e w3 ⟨⟨g,rfl,hg⟩,hgr⟩
   go_wp2
   exact⟨rfl,⟨_,rfl,hg⟩,Zhe (HM.out _) hgr⟩
 ·rw[Znb (by omega)] at hX
  subst hX
  obtain⟨c0,c1⟩:=q.cells
  have e0:((p:Int) == (L.length:Int))=true:=beq_iff_eq.2 (by omega)
  have HM:Hid (∀ n,w.grownBy (w.drewN n) (some R)):=fun n=>Zha (ZkI (Below.refl _ _) _) n
  have HQ:Hid (∀ n,Ry (w.drewN n) R (.slice lo L.length lc) p):=fun n=>q.dN n
  clear q hs hL
  go_enter Tryz.func138,Tryz.ntmps138
  go_wp2_with fail
  go_quiet (fail)
  go_wp2_with fail
  refine (ZmK 1 _ (HQ.out _) (by omega)).mono ?_
  rintro e w3 ⟨⟨g,rfl,hg⟩,hgr⟩
  go_wp2
  exact⟨rfl,⟨_,rfl,hg⟩,Zhe (HM.out _) hgr⟩
end

section
open Ln
theorem ZqT:∀ (l:List UInt8) (n:Int),0≤n→l.all Pn.digB=true→0≤Pn.sat n l
 | [],_,hn,_=>hn
 | c::t,n,hn,h=>by
  simp only[List.all_cons,Bool.and_eq_true] at h
  have h1:=Pn.digB_out h.1
  rw[Pn.sat]
  exact ZqT t _ (by omega) h.2
theorem ZoN {s:List UInt8}:0≤Pn.parseV s∧Pn.parseV s≤2147483647:=by
 unfold Pn.parseV
 split
 ·rename_i h
  exact⟨ZqT s 0 (by omega) (Pn.isNum_all h.1),h.2⟩
 ·omega
theorem Zkt {s:List UInt8} {x n:Int} (h:lnsP s=some (x,n)):1≤x∧x≤2147483647∧1≤n∧n≤2147483647:=by
 unfold lnsP at h
 split at h
 ·split at h
  ·rename_i y _ z _ hc
   cases h
   have h1:=@ZoN y
   have h2:=@ZoN z
   omega
  ·cases h
 ·split at h
  ·rename_i hc
   cases h
   have h1:=@ZoN s
   omega
  ·cases h
theorem Znq {s:List UInt8} {x n:Int} (h:oneP s=some (x,n)):0≤x∧x≤2147483647∧n=0:=by
 unfold oneP at h
 split at h
 ·cases h
  have h1:=@ZoN s
  omega
 ·cases h
theorem ZdF {s:List UInt8} {A AN B BN:Int} (h:cmdP s=some (A,AN,B,BN)):(0≤A∧A≤2147483647∧0≤AN∧AN≤2147483647∧(0<AN→1≤A))∧(0≤B∧B≤2147483647∧0≤BN∧BN≤2147483647∧(0<BN→1≤B))∧(0<AN∨0<BN):=by
 unfold cmdP at h
 split at h
 ·cases h
 ·rename_i x c y _
  split at h
  ·rename_i A' AN' B' BN' h1 h2
   cases h
   by_cases hc:c=97
   ·subst hc
    rw[if_pos rfl] at h1
    rw[if_neg (by decide)] at h2
    have q1:=Znq h1
    have q2:=Zkt h2
    omega
   ·rw[if_neg hc] at h1
    have q1:=Zkt h1
    by_cases hd:c=100
    ·subst hd
     rw[if_pos rfl] at h2
     have q2:=Znq h2
     omega
    ·rw[if_neg hd] at h2
     have q2:=Zkt h2
     omega
  ·cases h
end

section
open Ln
def rdL (sg:List UInt8) (S:Int):Nat→Nat→List (List UInt8)→Except (Nat × Int) (List Mk × Nat × List (List UInt8))
 | 0,p,ls=>.ok ([],p,ls)
 | n+1,p,ls=>match nxt p ls with
  | .error e=>.error e
  | .ok (s,r)=>if sg.isPrefixOf s=true then match rdL sg S n (p+1) r with
    | .error e=>.error e
    | .ok (l,p2,r2)=>.ok (⟨S,s.drop sg.length++[10]⟩::l,p2,r2)
   else .error (p+1,3)
def cutL:List Mk→List Mk
 | []=>[]
 | [m]=>[⟨m.sg,m.tx.dropLast⟩]
 | m::l=>m::cutL l
def lastT (l:List Mk):List UInt8:=(l.getLast?.map (·.tx)).getD []
def endK (l:List Mk) (r:List (List UInt8)):Bool:=lastT l != [10] && pkM r
def sdC (sg:List UInt8) (S:Int) (n p:Nat) (ls:List (List UInt8)):Except (Nat × Int) (List Mk × Nat × List (List UInt8)) :=
 match rdL sg S n p ls with
 | .error e=>.error e
 | .ok (l,p1,r)=>if (decide (0<n) && endK l r)=true then .ok (cutL l,p1+1,r.tail) else .ok (l,p1,r)
def hkK (k p:Nat) (ls:List (List UInt8)):Except (Nat × Int) (Hk × Nat × List (List UInt8)) :=
 match nxt p ls with
 | .error e=>.error e
 | .ok (s,r)=>match cmdP s with
  | none=>.error (p+1,3)
  | some (A,AN,B,BN)=>if k=4096 then .error (p+1,9) else match sdC [60,32] 45 AN.toNat (p+1) r with
   | .error e=>.error e
   | .ok (l1,p1,r1)=>match (if 0<AN∧0<BN then sepP p1 r1 else .ok (p1,r1)) with
    | .error e=>.error e
    | .ok (p2,r2)=>match sdC [62,32] 43 BN.toNat p2 r2 with
     | .error e=>.error e
     | .ok (l2,p3,r3)=>.ok (⟨A,AN,B,BN,l1++l2⟩,p3,r3)
def hksK:Nat→Nat→Nat→List (List UInt8)→Except (Nat × Int) (List Hk)
 | 0,_,_,_=>.ok []
 | f+1,k,p,ls=>if ls=[] then .ok [] else match hkK k p ls with
  | .error e=>.error e
  | .ok (h,p1,r)=>match hksK f (k+1) p1 r with
   | .error e=>.error e
   | .ok l=>.ok (h::l)
def Bad (X Y:Except (Nat × Int) (List Mk × Nat × List (List UInt8))):Prop:=∃ l p r,Y=.ok (l,p,markT::r)∧X=.error (p+1,3)
theorem ZkY {s:List UInt8} (hp:∀ c∈s.dropLast,c≠10) (h:markT.isPrefixOf s=true):s=markT:=by
 rw[List.isPrefixOf_iff_prefix] at h
 obtain⟨t,rfl⟩:=h
 cases t with
 | nil=>simp
 | cons c t =>
  exfalso
  have h1:(10:UInt8)∈(markT++c::t).dropLast:=by
   rw[List.dropLast_append_of_ne_nil (by simp)]
   exact List.mem_append_left _ (by decide)
  exact hp 10 h1 rfl
theorem Zeq {m:Mk} {l:List Mk} (h:l≠[]):cutL (m::l)=m::cutL l:=by
 cases l with
 | nil=>exact absurd rfl h
 | cons y l=>rfl
theorem Zes (l:List Mk) (m:Mk):cutL (l++[m])=l++[⟨m.sg,m.tx.dropLast⟩]:=by
 induction l with
 | nil=>rfl
 | cons x l ih =>
  rw[List.cons_append,Zeq (by simp),ih]
  rfl
theorem ZjL (l:List Mk) (m:Mk):lastT (l++[m])=m.tx:=by simp[lastT]
theorem Zrf (sg:List UInt8) (S:Int) (p:Nat) (ls:List (List UInt8)):sdC sg S 0 p ls=.ok ([],p,ls):=by
 unfold sdC rdL
 rfl
theorem ZjK {m:Mk} {l:List Mk} (h:l≠[]):lastT (m::l)=lastT l:=by
 cases l with
 | nil=>exact absurd rfl h
 | cons y l=>simp[lastT]
theorem Zpq {sg:List UInt8} {S:Int} (n:Nat):∀ {p:Nat} {ls:List (List UInt8)} {l:List Mk} {p1:Nat} {r:List (List UInt8)},rdL sg S n p ls=.ok (l,p1,r)→l.length=n∧p1=p+n∧ls.drop n=r∧n≤ls.length:=by
 induction n with
 | zero =>
  intro p ls l p1 r h
  simp only[rdL] at h
  cases h
  exact⟨rfl,rfl,rfl,Nat.zero_le _⟩
 | succ n ih =>
  intro p ls l p1 r h
  simp only[rdL] at h
  split at h
  ·cases h
  ·rename_i s r0 hn
   have hls:=Zne hn
   split at h
   ·split at h
    ·cases h
    ·rename_i l' q r' hq
     obtain⟨a1,a2,a3,a4⟩:=ih hq
     cases h
     subst hls
     exact⟨by simp[a1],by omega,by simpa using a3,by simp;omega⟩
   ·cases h
theorem ZrL {sg:List UInt8} {S:Int} (n:Nat):∀ {p:Nat} {ls:List (List UInt8)},Plain ls→rdN sg S n p ls=sdC sg S n p ls∨Bad (rdN sg S n p ls) (sdC sg S n p ls):=by
 induction n with
 | zero =>
  intro p ls _
  left
  rw[Zrf]
  rfl
 | succ n ih =>
  intro p ls hP
  unfold sdC
  simp only[rdN,rdL,mkd]
  cases hn:nxt p ls with
  | error e=>left;rfl
  | ok z =>
   obtain⟨s,r⟩:=z
   dsimp only
   have hls:=Zne hn
   subst hls
   have hPr:Plain r:=fun x hx=>hP x (by simp[hx])
   have hsn:∀ c∈s,c≠10:=by
    have:=hP (s++[10]) (by simp)
    simpa using this
   by_cases hpre:sg.isPrefixOf s=true
   ·rw[if_pos hpre,if_pos hpre]
    cases n with
    | zero =>
     simp only[rdN,rdL]
     have e1:((0:Nat) == 0)=true:=rfl
     rw[e1,Bool.true_and]
     have e2:lastT [(⟨S,s.drop sg.length++[10]⟩:Mk)]=s.drop sg.length++[10]:=rfl
     unfold endK
     rw[e2]
     have e3:decide (0<0+1)=true:=rfl
     rw[e3,Bool.true_and]
     cases hk:pkM r with
     | false =>
      left
      rw[if_neg (by decide),Bool.and_false,if_neg (by decide)]
     | true =>
      rw[if_pos rfl,Bool.and_true]
      by_cases hem:s.drop sg.length=[]
      ·right
       rw[if_pos hem,hem]
       rw[if_neg (by decide)]
       cases r with
       | nil=>cases hk
       | cons y r =>
        have:y=markT:=ZkY (hPr y (by simp)) hk
        subst this
        exact⟨_,_,_,rfl,rfl⟩
      ·left
       have e4:(s.drop sg.length++[10] != [10])=true:=by
        rw[bne_iff_ne]
        intro h
        apply hem
        have:=congrArg List.length h
        simp at this
        exact List.eq_nil_of_length_eq_zero (by simpa using this)
       rw[if_neg hem,e4,if_pos rfl]
       simp[cutL]
    | succ n =>
     have e1:((n+1:Nat) == 0)=false:=rfl
     rw[e1,Bool.false_and,if_neg (by decide)]
     dsimp only
     have hi:=@ih (p+1) r hPr
     unfold sdC at hi
     cases hL:rdL sg S (n+1) (p+1) r with
     | error e =>
      rw[hL] at hi
      left
      rcases hi with hi | ⟨_,_,_,h,_⟩
      ·rw[hi]
      ·cases h
     | ok z =>
      obtain⟨l,p1,r1⟩:=z
      rw[hL] at hi
      dsimp only at hi ⊢
      have hlen:=(Zpq _ hL).1
      have hne:l≠[]:=by
       rintro rfl
       simp at hlen
      unfold endK at hi ⊢
      rw[ZjK hne,Zeq hne]
      have e3:decide (0<n+1)=true:=decide_eq_true (by omega)
      have e4:decide (0<n+1+1)=true:=decide_eq_true (by omega)
      rw[e3] at hi
      rw[e4]
      by_cases hb:(true && (lastT l != [10] && pkM r1))=true
      ·rw[if_pos hb] at hi ⊢
       rcases hi with hi | ⟨l',p',r',h,h'⟩
       ·left
        rw[hi]
       ·right
        simp only[Except.ok.injEq,Prod.mk.injEq] at h
        obtain⟨rfl,rfl,h⟩:=h
        exact⟨_,_,r',by rw[h],by rw[h']⟩
      ·rw[if_neg hb] at hi ⊢
       rcases hi with hi | ⟨l',p',r',h,h'⟩
       ·left
        rw[hi]
       ·right
        cases h
        exact⟨_,_,_,rfl,by rw[h']⟩
   ·left
    rw[if_neg hpre,if_neg hpre]
theorem Zrc {sg:List UInt8} {S:Int} {n p:Nat} {ls:List (List UInt8)} {l:List Mk} {p1:Nat} {r:List (List UInt8)} (h:sdC sg S n p ls=.ok (l,p1,r)):∃ j,r=ls.drop j∧p1=p+j∧j≤ls.length:=by
 unfold sdC at h
 split at h
 ·cases h
 ·rename_i l' q r' hq
  obtain⟨a1,a2,a3,a4⟩:=Zpq _ hq
  split at h
  ·rename_i hb
   cases h
   have hk:pkM r'=true:=by
    unfold endK at hb
    simp only[Bool.and_eq_true] at hb
    exact hb.2.2
   have h1:0<r'.length:=by
    cases r' with
    | nil=>cases hk
    | cons=>simp
   rw[← a3,List.length_drop] at h1
   exact⟨n+1,by rw[← a3,List.tail_drop],by omega,by omega⟩
  ·cases h
   exact⟨n,a3.symm,a2,a4⟩
theorem Zer (l:List Mk):(cutL l).length=l.length:=by
 induction l with
 | nil=>rfl
 | cons m l ih =>
  cases l with
  | nil=>rfl
  | cons y l=>rw[Zeq (by simp),List.length_cons,ih];rfl
theorem Zre {sg:List UInt8} {S:Int} {n p:Nat} {ls:List (List UInt8)} {l:List Mk} {p1:Nat} {r:List (List UInt8)} (h:sdC sg S n p ls=.ok (l,p1,r)):l.length=n:=by
 unfold sdC at h
 split at h
 ·cases h
 ·rename_i l' q r' hq
  obtain⟨a1,a2,a3,a4⟩:=Zpq _ hq
  split at h
  ·cases h
   rw[Zer,a1]
  ·cases h
   exact a1
theorem Zrq {p p1:Nat} {ls r:List (List UInt8)} (h:sepP p ls=.ok (p1,r)):r=ls.drop 1∧p1=p+1∧1≤ls.length:=by
 unfold sepP at h
 split at h
 ·cases h
 ·rename_i s r0 hn
  have:=Zne hn
  subst this
  split at h
  ·cases h
   exact⟨rfl,rfl,by simp⟩
  ·cases h
theorem ZhP {k p p1:Nat} {ls r:List (List UInt8)} {h:Hk} (hh:hkK k p ls=.ok (h,p1,r)):∃ j,r=ls.drop j∧p1=p+j∧1≤j∧j≤ls.length∧k≠4096:=by
 unfold hkK at hh
 split at hh
 ·cases hh
 ·rename_i s r0 hn
  have:=Zne hn
  subst this
  split at hh
  ·cases hh
  ·split at hh
   ·cases hh
   ·rename_i hk
    split at hh
    ·cases hh
    ·rename_i l1 q1 r1 h1
     obtain⟨j1,b1,b2,b3⟩:=Zrc h1
     split at hh
     ·cases hh
     ·rename_i q2 r2 h2
      have hs:∃ j,r2=r1.drop j∧q2=q1+j∧j≤r1.length:=(by
       split at h2
       ·obtain⟨c1,c2,c3⟩:=Zrq h2
        exact⟨1,c1,c2,c3⟩
       ·cases h2
        exact⟨0,rfl,rfl,Nat.zero_le _⟩)
      obtain⟨j2,c1,c2,c3⟩:=hs
      split at hh
      ·cases hh
      ·rename_i l2 q3 r3 h3
       obtain⟨j3,d1,d2,d3⟩:=Zrc h3
       cases hh
       subst d1 c1 b1
       simp only[List.length_drop] at c3 d3
       refine⟨1+(j1+(j2+j3)),?_,by omega,by omega,by simp only[List.length_cons];omega,hk⟩
       rw[List.drop_drop,List.drop_drop,Nat.add_comm 1,List.drop_succ_cons]
theorem ZoE {ls:List (List UInt8)} (h:Plain ls) (j:Nat):Plain (ls.drop j):=fun x hx=>h x (List.mem_of_mem_drop hx)
theorem Zlb (p:Nat) (r:List (List UInt8)):nxt p (markT::r)=.ok (markT.dropLast,r):=rfl
theorem ZkX:cmdP markT.dropLast=none:=by decide +kernel
theorem Zlc (p:Nat) (r:List (List UInt8)):sepP p (markT::r)=.error (p+1,3):=by
 unfold sepP
 rw[Zlb]
 rfl
theorem ZkZ (k p:Nat) (r:List (List UInt8)):hkK k p (markT::r)=.error (p+1,3)∧hkP k p (markT::r)=.error (p+1,3):=by
 unfold hkK hkP
 rw[Zlb]
 dsimp only
 rw[ZkX]
 exact⟨rfl,rfl⟩
theorem ZhR {k p:Nat} {ls:List (List UInt8)} (hP:Plain ls) (hk:k≤4096):hkP k p ls=hkK k p ls∨∃ h p1 r,hkK k p ls=.ok (h,p1,markT::r)∧hkP k p ls=.error (p1+1,3):=by
 unfold hkP hkK
 cases hn:nxt p ls with
 | error e=>left;rfl
 | ok z =>
  obtain⟨s,r⟩:=z
  dsimp only
  have hls:=Zne hn
  subst hls
  have hPr:Plain r:=fun x hx=>hP x (by simp[hx])
  cases hc:cmdP s with
  | none=>left;rfl
  | some z =>
   obtain⟨A,AN,B,BN⟩:=z
   dsimp only
   by_cases hk2:k=4096
   ·left
    rw[if_pos (by omega),if_pos hk2]
   ·rw[if_neg (by omega),if_neg hk2]
    have hr:=ZdF hc
    rcases @ZrL [60,32] 45 AN.toNat (p+1) r hPr with h1 | ⟨l,q,r',h1,h2⟩
    ·rw[h1]
     cases hs:sdC [60,32] 45 AN.toNat (p+1) r with
     | error e=>left;rfl
     | ok z =>
      obtain⟨l1,p1,r1⟩:=z
      dsimp only
      obtain⟨j,b1,_,_⟩:=Zrc hs
      have hP1:Plain r1:=by rw[b1];exact ZoE hPr j
      cases hp:(if 0<AN∧0<BN then sepP p1 r1 else Except.ok (p1,r1)) with
      | error e=>left;rfl
      | ok z =>
       obtain⟨p2,r2⟩:=z
       dsimp only
       have hP2:Plain r2:=(by
        split at hp
        ·obtain⟨c1,_,_⟩:=Zrq hp
         rw[c1]
         exact ZoE hP1 1
        ·cases hp
         exact hP1)
       rcases @ZrL [62,32] 43 BN.toNat p2 r2 hP2 with h3 | ⟨l,q,r',h3,h4⟩
       ·left
        rw[h3]
        cases sdC [62,32] 43 BN.toNat p2 r2<;>rfl
       ·right
        rw[h3,h4]
        exact⟨_,_,_,rfl,rfl⟩
    ·rw[h1,h2]
     dsimp only
     by_cases hb:0<AN∧0<BN
     ·left
      rw[if_pos hb,Zlc]
     ·rw[if_neg hb]
      dsimp only
      have hBN:BN.toNat=0:=(by
       have hA:AN.toNat≠0:=(by
        intro h0
        rw[h0] at h2
        cases h2)
       omega)
      rw[hBN,Zrf]
      right
      exact⟨_,_,_,rfl,rfl⟩
theorem Zia (f:Nat):∀ {k p:Nat} {ls:List (List UInt8)},Plain ls→ls.length≤f→k≤4096→hksP f k p ls=hksK f k p ls:=by
 induction f with
 | zero=>intros;rfl
 | succ f ih =>
  intro k p ls hP hf hk
  simp only[hksP,hksK]
  by_cases h0:ls=[]
  ·rw[if_pos h0,if_pos h0]
  ·rw[if_neg h0,if_neg h0]
   rcases @ZhR k p ls hP hk with h | ⟨h,p1,r,h1,h2⟩
   ·rw[h]
    cases hc:hkK k p ls with
    | error e=>rfl
    | ok z =>
     obtain⟨h',p1,r⟩:=z
     obtain⟨j,b1,b2,b3,b4,b5⟩:=ZhP hc
     dsimp only
     rw[@ih (k+1) p1 r (by rw[b1];exact ZoE hP j) (by rw[b1,List.length_drop];omega) (by omega)]
     cases hksK f (k+1) p1 r<;>rfl
   ·rw[h1,h2]
    dsimp only
    obtain⟨j,b1,b2,b3,b4,b5⟩:=ZhP h1
    have hl:(markT::r).length≤f:=by rw[b1,List.length_drop];omega
    cases f with
    | zero=>simp at hl
    | succ f =>
     simp only[hksK]
     rw[if_neg (by simp),(ZkZ (k+1) p1 r).1]
theorem ZoM (t:List UInt8):prsT t=if 1048576<t.length then .error (0,9) else hksK (splitL t).length 0 0 (splitL t):=by
 unfold prsT
 split
 ·rfl
 ·exact Zia _ (Zsg t) (Nat.le_refl _) (by omega)
end

section
open Go.RowKit
attribute [local go_sem] ByteArray.extract_mk ZvA
structure Fr (B R:Nat) (w w':World):Prop where
 os:w'.os=w.os
 tape:w'.tape=w.tape
 output:w'.output=w.output
 size:w.heap.size≤w'.heap.size
 block:∀ k,k<B→k≠R→w'.heap[k]?=w.heap[k]?
theorem Fr.refl (B R:Nat) (w:World):Fr B R w w:=⟨rfl,rfl,rfl,Nat.le_refl _,fun _ _ _=>rfl⟩
theorem Fr.trans {B R:Nat} {w u v:World} (h:Fr B R w u) (h':Fr B R u v):Fr B R w v:=⟨h'.os.trans h.os,h'.tape.trans h.tape,h'.output.trans h.output,Nat.le_trans h.size h'.size,fun k h1 h2=>(h'.block k h1 h2).trans (h.block k h1 h2)⟩
theorem Fr.of {B R:Nat} {w u:World} (h:w.grownBy u (some R)) (hB:B≤w.heap.size):Fr B R w u:=⟨h.os,h.tape,h.output,h.size,fun k h1 h2=>h.block k (Nat.lt_of_lt_of_le h1 hB) (fun e=>h2 (Option.some.inj e))⟩
theorem Fr.own {B R:Nat} {w u:World} {g:Option Nat} (h:w.grownBy u g) (hB:B≤w.heap.size) (hg:∀ j,g=some j→B≤j):Fr B R w u:=⟨h.os,h.tape,h.output,h.size,fun k h1 _=>h.block k (Nat.lt_of_lt_of_le h1 hB) (fun e=>by have:=hg k e.symm;omega)⟩
def SpQ (R:Nat) (vL:Value) (X:Except (Nat × Int) (Nat × List (List UInt8))) (w:World) (x:Ending) (w':World):Prop :=
 match X with
 | .error (a,e)=>Thr (a:Int) e x w'∧w.grownBy w' (some R)
 | .ok (p1,_)=>x=.returned (.tuple #[])∧Ry w' R vL (p1:Int)∧w.grownBy w' (some R)
theorem Zmk {R:Nat} {L:List (List UInt8)} {lo:Option Addr} {lc:Nat} {p:Nat} (w:World) (q:Ry w R (.slice lo L.length lc) p) (hL:HS w (.slice lo L.length lc) L) (hp:p≤L.length) (hLl:L.length≤2199023255552) (hs:∀ s∈L,s.length≤1099511627776)
  (X:Except (Nat × Int) (Nat × List (List UInt8))) (HX:Hid (sepP p (L.drop p)=X)) :
  Calls Tryz.prog 141 #[.pointer (some ⟨R,0,none⟩)] w fun x w'=>SpQ R (.slice lo L.length lc) X w x w':=by
 obtain⟨Y,hY⟩:∃ Y,nxt p (L.drop p)=Y:=⟨_,rfl⟩
 have hl:=Zmx w q hL hp hLl hs Y hY
 have hX:=HX.out
 clear HX
 unfold sepP at hX
 rw[hY] at hX
 cases Y with
 | error z =>
  obtain⟨a,e⟩:=z
  dsimp only at hX
  subst hX
  go_enter Tryz.func141,Tryz.ntmps141
  go_wp2_with fail
  refine hl.mono ?_
  rintro x w1 ⟨⟨g,rfl,hg⟩,hgr⟩
  go_wp2
  exact⟨rfl,⟨_,rfl,hg⟩,hgr⟩
 | ok z =>
  obtain⟨s,r⟩:=z
  dsimp only at hX
  by_cases h:s=[45,45,45]
  ·rw[if_pos h] at hX
   subst hX h
   go_enter Tryz.func141,Tryz.ntmps141
   go_wp2_with fail
   refine hl.mono ?_
   rintro x w1 ⟨rfl,n,rfl⟩
   have q1:=q.dN n
   have g1:=Zha (ZkI (Below.refl w.heap.size w) (some R)) n
   generalize w.drewN n=W1 at q1 g1 ⊢
   obtain⟨c0,c1⟩:=q1.cells
   have f1:=q1.frozen 1
   have HQ:Hid (Ry (W1.setCell ⟨R,1,none⟩ (.int .i64 ((p:Int)+1))) R (.slice lo L.length lc) (((p+1:Nat)):Int)∧w.grownBy (W1.setCell ⟨R,1,none⟩ (.int .i64 ((p:Int)+1))) (some R)):=⟨by have:=q1.at ((p:Int)+1);simpa using this,Zhe g1 (Zhd W1 R 1 _)⟩
   clear q q1 g1 hl hY
   go_wp2
   first
    | go_end0
    | refine bodyPost_ret (results_none rfl _ _ _) rfl ?_
    | refine bodyPost_end (results_none rfl _ _ _) rfl ?_
   exact⟨rfl,HQ.out⟩
  ·rw[if_neg h] at hX
   subst hX
   have hne:(s++[10] == [45,45,45,10])=false:=(by
    rw[beq_eq_false_iff_ne]
    intro e
    have e2:s++[10]=[45,45,45]++[10]:=e
    exact h (List.append_cancel_right e2))
   have q1:=fun n=>q.dN n
   have g1:=fun n=>Zha (ZkI (Below.refl w.heap.size w) (some R)) n
   go_enter Tryz.func141,Tryz.ntmps141
   go_wp2_with fail
   refine hl.mono ?_
   rintro x w1 ⟨rfl,n,rfl⟩
   go_wp2_with fail
   refine (ZmK 3 _ (q1 n) (by omega)).mono ?_
   rintro e w3 ⟨⟨g,rfl,hg⟩,hgr⟩
   go_wp2
   exact⟨rfl,⟨_,rfl,by simpa using hg⟩,Zhe (g1 n) hgr⟩
end

section
open Go.RowKit
attribute [local go_sem] ByteArray.extract_mk ZvA
theorem Zon {L:List (List UInt8)} (hP:Plain L) {p:Nat} (h:p<L.length):pkM (L.drop p)=(L[p] == markT):=by
 rw[List.drop_eq_getElem_cons h]
 unfold pkM
 rw[Bool.eq_iff_iff,beq_iff_eq]
 constructor
 ·intro q
  exact ZkY (hP _ (List.getElem_mem h)) q
 ·intro q
  rw[q]
  show markT.isPrefixOf markT=true
  decide
theorem Zml {R g o:Nat} {L:List (List UInt8)} {lo:Option Addr} {lc:Nat} {p:Nat} (w:World) (q:Ry w R (.slice lo L.length lc) p) (hL:HS w (.slice lo L.length lc) L) (hPl:Plain L) (hp:p≤L.length) (hLl:L.length≤2199023255552)
  (t:List UInt8) (ct:w.cell? ⟨g,o+1,none⟩=some (.string ⟨t.toArray⟩)) (HB:Hid ((t != [10] && pkM (L.drop p))=false)) :
  Calls Tryz.prog 201 #[.pointer (some ⟨R,0,none⟩),.pointer (some ⟨g,o,none⟩)] w fun x w'=>x=.returned (.tuple #[])∧∃ n,w'=w.drewN n:=by
 obtain⟨c0,c1⟩:=q.cells
 by_cases ht:t=[10]
 ·subst ht
  clear HB hL q
  go_enter Tryz.func201,Tryz.ntmps201
  go_wp2_with fail
  go_quiet (fail)
  go_wp2
  first
   | go_end0
   | refine bodyPost_ret (results_none rfl _ _ _) rfl ?_
   | refine bodyPost_end (results_none rfl _ _ _) rfl ?_
  exact⟨rfl,_,rfl⟩
 ·have e1:(t == [10])=false:=beq_eq_false_iff_ne.2 ht
  by_cases hlt:p<L.length
  ·have hm:(L[p] == markT)=false:=(by
    have h:=HB.out
    rw[Zon hPl hlt] at h
    have:(t != [10])=true:=bne_iff_ne.2 ht
    rw[this,Bool.true_and] at h
    exact h)
   obtain⟨bk,off,rfl,hbk,hcl⟩:=HS.at hL (by omega)
   have d4:=hcl p hlt
   generalize L[p]=s at d4 hm
   have hm2:(s == [92,32,78,111,32,110,101,119,108,105,110,101,32,97,116,32,101,110,100,32,111,102,32,102,105,108,101,10])=false:=hm
   have hm3:(s != [92,32,78,111,32,110,101,119,108,105,110,101,32,97,116,32,101,110,100,32,111,102,32,102,105,108,101,10])=true:=(by unfold bne;rw[hm2];rfl)
   have e0:((p:Int) == (L.length:Int))=false:=beq_eq_false_iff_ne.2 (by omega)
   clear HB hL q hcl hm hPl
   have i1:(0:Int)≤(p:Int):=by omega
   have i2:(p:Int)<(L.length:Int):=by omega
   have i3:(p:Int).toNat=p:=by omega
   go_enter Tryz.func201,Tryz.ntmps201
   go_wp2_with fail
   go_quiet (fail)
   go_wp2
   first
    | go_end0
    | refine bodyPost_ret (results_none rfl _ _ _) rfl ?_
    | refine bodyPost_end (results_none rfl _ _ _) rfl ?_
   exact⟨rfl,_,rfl⟩
  ·have e0:((p:Int) == (L.length:Int))=true:=beq_iff_eq.2 (by omega)
   clear HB hL q hPl
   go_enter Tryz.func201,Tryz.ntmps201
   go_wp2_with fail
   go_quiet (fail)
   go_wp2
   first
    | go_end0
    | refine bodyPost_ret (results_none rfl _ _ _) rfl ?_
    | refine bodyPost_end (results_none rfl _ _ _) rfl ?_
   exact⟨rfl,_,rfl⟩
theorem Zmm {R g o:Nat} {L:List (List UInt8)} {lo:Option Addr} {lc:Nat} {p:Nat} (w:World) (q:Ry w R (.slice lo L.length lc) p) (hL:HS w (.slice lo L.length lc) L) (hPl:Plain L) (hLl:L.length≤2199023255552) (hgR:R≠g)
  (T t:List UInt8) (HTt:Hid (T=t++[10])) (htl:T.length≤1099511627776) (ct:w.cell? ⟨g,o+1,none⟩=some (.string ⟨T.toArray⟩)) (cf:w.frozen? ⟨g,o+1,none⟩=false) (HB:Hid ((T != [10] && pkM (L.drop p))=true)) :
  Calls Tryz.prog 201 #[.pointer (some ⟨R,0,none⟩),.pointer (some ⟨g,o,none⟩)] w fun x w'=>x=.returned (.tuple #[])∧∃ n,w'=((w.drewN n).setCell ⟨g,o+1,none⟩ (.string ⟨t.toArray⟩)).setCell ⟨R,1,none⟩ (.int .i64 ((p:Int)+1)):=by
 obtain⟨c0,c1⟩:=q.cells
 have hb:=HB.out
 rw[Bool.and_eq_true] at hb
 have hlt:p<L.length:=(by
  by_cases h:p<L.length
  ·exact h
  ·have e:L.drop p=[]:=List.drop_eq_nil_of_le (by omega)
   rw[e] at hb
   cases hb.2)
 have e1:(T == [10])=false:=(by
  have:=bne_iff_ne.1 hb.1
  exact beq_eq_false_iff_ne.2 this)
 have hm:L[p]=markT:=(by
  have h:=hb.2
  rw[Zon hPl hlt,beq_iff_eq] at h
  exact h)
 obtain⟨bk,off,rfl,hbk,hcl⟩:=HS.at hL (by omega)
 have d4:=hcl p hlt
 rw[hm] at d4
 have e0:((p:Int) == (L.length:Int))=false:=beq_eq_false_iff_ne.2 (by omega)
 have f1:=q.frozen 1
 have HTS:Hid (Lib.trimSuffix T [10]=t):=(by
  show _=_
  rw[HTt.out]
  unfold Lib.trimSuffix
  rw[Zsy,if_pos (ZfR t)]
  simp)
 unfold markT at d4
 clear HB hL q hcl hm hPl hb
 have i1:(0:Int)≤(p:Int):=by omega
 have i2:(p:Int)<(L.length:Int):=by omega
 have i3:(p:Int).toNat=p:=by omega
 go_enter Tryz.func201,Tryz.ntmps201
 go_wp2_with fail
 go_quiet (fail)
 go_wp2_with fail
 have c1':(w.drewN nq).cell? ⟨R,1,none⟩=_:=c1
 have ct':(w.drewN nq).cell? ⟨g,o+1,none⟩=_:=ct
 have cf':(w.drewN nq).frozen? ⟨g,o+1,none⟩=false:=cf
 have f1':(w.drewN nq).frozen? ⟨R,1,none⟩=false:=f1
 have HM:Hid (∃ k,w.drewN nq=w.drewN k):=⟨_,rfl⟩
 clear c0 c1 d4 ct cf f1
 generalize w.drewN nq=W1 at c1' ct' cf' f1' HM ⊢
 refine (Tryz.strings_TrimSuffix ⟨T.toArray⟩ ⟨#[10]⟩ W1 (by show T.length≤_;omega)).mono ?_
 rintro e w2 ⟨rfl,rfl⟩
 have e2:Lib.trimSuffix (⟨T.toArray⟩:ByteArray).data.toList (⟨#[10]⟩:ByteArray).data.toList=t:=HTS.out
 rw[e2]
 clear e2
 have c1'':(w2.setCell ⟨g,o+1,none⟩ (.string ⟨t.toArray⟩)).cell? ⟨R,1,none⟩=some (.int .i64 (p:Int)):=(by
  have h:=(Zhd w2 g (o+1) (.string ⟨t.toArray⟩)).cell c1' (fun e=>hgR (Option.some.inj e))
  exact h)
 have f1'':(w2.setCell ⟨g,o+1,none⟩ (.string ⟨t.toArray⟩)).frozen? ⟨R,1,none⟩=false:=(by
  unfold World.frozen? at f1' ⊢
  dsimp only at f1' ⊢
  rw[Below.heap_setCell _ _ _ R hgR]
  exact f1')
 go_wp2
 first
  | go_end0
  | refine bodyPost_ret (results_none rfl _ _ _) rfl ?_
  | refine bodyPost_end (results_none rfl _ _ _) rfl ?_
 obtain⟨k,hk⟩:=HM.out
 exact⟨rfl,k,by rw[← hk]⟩
end

section
open Go.RowKit
attribute [local go_sem] ByteArray.extract_mk ZvA
theorem ZnG {w u:World} {B R:Nat} {e:TypeId} {s:Nat} {v:Value} {n:Nat} {xs:List Value} (h:w.ownsRow B e s v n xs) (hg:w.grownBy u (some R)) (hR:R<B):u.ownsRow B e s v n xs:=by
 refine⟨h.1,?_⟩
 rcases h.2 with q | ⟨g,cap,cur,rfl,q2,q3,q4⟩
 ·exact .inl q
 ·refine .inr ⟨g,cap,cur,rfl,q2,?_,q4⟩
  rw[hg.block g (Array.getElem?_eq_some_iff.1 q3).1 (fun e=>by cases e;omega)]
  exact q3
theorem ZnJ {w:World} {B:Nat} {v:Value} {l:List Mk} {m:Mk} (h:w.ownsRow B 103 2 v (l.length+1) (mkcells (l++[m]))):∃ g cap,v=.slice (some ⟨g,0,none⟩) (l.length+1) cap∧B≤g∧g<w.heap.size∧w.cell? ⟨g,l.length * 2+1,none⟩=some (.string ⟨m.tx.toArray⟩)∧w.frozen? ⟨g,l.length * 2+1,none⟩=false ∧
  ∀ (u:World) (t:List UInt8),u.heap[g]?=w.heap[g]?→(u.setCell ⟨g,l.length * 2+1,none⟩ (.string ⟨t.toArray⟩)).ownsRow B 103 2 v (l.length+1) (mkcells (l++[⟨m.sg,t⟩])):=by
 rcases h.2 with ⟨_,q⟩ | ⟨g,cap,cur,rfl,q2,q3,q4,q5,q6,q7⟩
 ·omega
 ·have hmk:∀ x:Mk,mkcells (l++[x])=mkcells l++[.int .u8 x.sg,.string ⟨x.tx.toArray⟩]:=fun x=>by rw[ZlH];rfl
  have hl:=ZlK l
  have hcur:cur.toList.take ((l.length+1) * 2)=mkcells l++[.int .u8 m.sg,.string ⟨m.tx.toArray⟩]:=by rw[q7,hmk]
  have hcell:cur[l.length * 2+1]?=some (.string ⟨m.tx.toArray⟩):=by
   have h1:(cur.toList.take ((l.length+1) * 2))[l.length * 2+1]?=some (.string ⟨m.tx.toArray⟩):=by
    rw[hcur,List.getElem?_append_right (by omega),hl]
    have:l.length * 2+1-l.length * 2=1:=by omega
    rw[this]
    rfl
   rw[List.getElem?_take_of_lt (by omega)] at h1
   simpa using h1
  refine⟨g,cap,rfl,q2,(Array.getElem?_eq_some_iff.1 q3).1,?_,Lib.frozen_of_heap q3 _,?_⟩
  ·rw[Lib.cell_of_heap q3]
   exact hcell
  ·intro u t hu
   have hs:=heap_setCell_same u g (l.length * 2+1) cur _ (.string ⟨t.toArray⟩) (hu.trans q3)
   refine⟨by rw[ZlK];simp,.inr ⟨g,cap,_,rfl,q2,hs,q4,q5,by simpa using q6,?_⟩⟩
   rw[hmk]
   have e1:(cur.setIfInBounds (l.length * 2+1) (.string ⟨t.toArray⟩)).toList=cur.toList.set (l.length * 2+1) (.string ⟨t.toArray⟩):=by simp
   rw[e1,List.take_set,hcur,List.set_append_right _ _ (by omega),hl]
   have:l.length * 2+1-l.length * 2=1:=by omega
   rw[this]
   rfl
theorem ZoL {sg s:List UInt8} (h:∀ c∈sg,c≠10):Lib.hasPrefix (s++[10]) sg=sg.isPrefixOf s:=by
 unfold Lib.hasPrefix
 rw[Bool.eq_iff_iff,List.isPrefixOf_iff_prefix,List.isPrefixOf_iff_prefix]
 constructor
 ·intro hp
  have hp2:=List.prefix_iff_eq_take.1 hp
  by_cases hl:sg.length≤s.length
  ·rw[List.take_append_of_le_length hl] at hp2
   exact List.prefix_iff_eq_take.2 hp2
  ·exfalso
   have h3:(s++[10]).take sg.length=s++[10]:=List.take_of_length_le (by simp;omega)
   rw[h3] at hp2
   exact h 10 (by rw[hp2];simp) rfl
 ·rintro⟨t,rfl⟩
  exact⟨t++[10],by simp⟩
theorem trim_feed {sg s:List UInt8} (h:∀ c∈sg,c≠10) (hp:sg.isPrefixOf s=true):Lib.trimPrefix (s++[10]) sg=s.drop sg.length++[10]:=by
 unfold Lib.trimPrefix
 rw[ZoL h,if_pos hp,List.drop_append_of_le_length]
 exact (List.isPrefixOf_iff_prefix.1 hp).length_le
def SdQ (B R:Nat) (vL:Value) (m0:List Mk) (X:Except (Nat × Int) (List Mk × Nat × List (List UInt8))) (w:World) (x:Ending) (w':World):Prop :=
 match X with
 | .error (a,e)=>Thr (a:Int) e x w'∧Fr B R w w'
 | .ok (l,p1,_)=>∃ v',x=.returned v'∧w'.ownsRow B 103 2 v' (m0++l).length (mkcells (m0++l))∧Ry w' R vL (p1:Int)∧Fr B R w w'
def thenL (m:List Mk) (X:Except (Nat × Int) (List Mk × Nat × List (List UInt8))):Except (Nat × Int) (List Mk × Nat × List (List UInt8)) :=
 match X with
 | .error e=>.error e
 | .ok (l,p1,r)=>.ok (m++l,p1,r)
theorem ZsG (X:Except (Nat × Int) (List Mk × Nat × List (List UInt8))):thenL [] X=X:=by
 unfold thenL
 rcases X with e | ⟨l,p,r⟩<;>rfl
theorem Zpr {sg:List UInt8} {S:Int} {n p:Nat} {ls r:List (List UInt8)} {s:List UInt8} (h:nxt p ls=.ok (s,r)) (m:List Mk):thenL m (rdL sg S (n+1) p ls)=if sg.isPrefixOf s=true then thenL (m++[⟨S,s.drop sg.length++[10]⟩]) (rdL sg S n (p+1) r) else .error (p+1,3):=by
 simp only[rdL]
 rw[h]
 dsimp only
 split
 ·cases rdL sg S n (p+1) r with
  | error e=>rfl
  | ok z=>simp[thenL]
 ·rfl
theorem Znf {p:Nat} {L r:List (List UInt8)} {s:List UInt8} (h:nxt p (L.drop p)=.ok (s,r)):r=L.drop (p+1)∧p<L.length∧∃ hp:p<L.length,L[p]=s++[10]:=by
 have h1:=Zne h
 have hp:p<L.length:=by
  by_cases h2:p<L.length
  ·exact h2
  ·rw[List.drop_eq_nil_of_le (by omega)] at h1
   cases h1
 have h3:=List.drop_eq_getElem_cons hp
 rw[h3] at h1
 injection h1 with h4 h5
 exact⟨h5.symm,hp,hp,h4⟩
end

section
open Ln
structure Pth where
 old:List UInt8
 new:List UInt8
 hs:List Hk
def devN:List UInt8:=[47,100,101,118,47,110,117,108,108]
def nameC (c:UInt8):Bool:=decide (33≤c.toNat∧c.toNat≤126∧c.toNat≠34)
def nameT (s:List UInt8):List UInt8:=if s=[] then devN else if s.all nameC=true∧s≠devN then s else Q.quote s
def unN (s:List UInt8):Option (List UInt8):=if s=devN then some [] else if s.head?=some 34 then (match Q.unquote s with | some (t,[])=>some t | _=>none) else some s
def namedP (s:List UInt8):Option (List UInt8):=match unN s with
 | none=>none
 | some n=>if n.length≤64∧nameT n=s then some n else none
def spanT (p n:Int):List UInt8:=if n≤1 then Lib.itoa p else Lib.itoa p++44::Lib.itoa (p+n-1)
def anyS (sg:Int):List Mk→Bool
 | []=>false
 | m::l=>if m.sg=32 then false else decide (m.sg=sg) || anyS sg l
def sidL (sg:Int):Bool→Bool→List Mk→List (List UInt8)
 | _,_,[]=>[]
 | r,a,m::l=>if m.sg=32 then lnL [32,32] m.tx++sidL sg false false l
  else if m.sg=sg then lnL (if ((r || anyS 45 (m::l)) && (a || anyS 43 (m::l)))=true then [33,32] else [UInt8.ofNat sg.toNat,32]) m.tx++sidL sg (r || decide (m.sg=45)) (a || decide (m.sg=43)) l
  else sidL sg (r || decide (m.sg=45)) (a || decide (m.sg=43)) l
def sideL (sg:Int) (l:List Mk):List (List UInt8):=if (l.any fun m=>decide (m.sg=sg))=true then sidL sg false false l else []
def starsT:List UInt8:=[42,42,42,42,42,42,42,42,42,42,42,42,42,42,42]
def rlT (e:UInt8) (p n:Int):List UInt8:=[e,e,e,32]++spanT p n++[32,e,e,e,e,10]
def hkL (h:Hk):List (List UInt8):=(starsT++[10])::rlT 42 h.A h.AN::(sideL 45 h.ls++rlT 45 h.B h.BN::sideL 43 h.ls)
def ptL (p:Pth):List (List UInt8):=if p.hs=[] then [] else ([42,42,42,32]++nameT p.old++[10])::([45,45,45,32]++nameT p.new++[10])::p.hs.flatMap hkL
def wrgP (p:Pth):Int:=if 64<p.old.length∨64<p.new.length then 253 else if 4096<p.hs.length then 9 else errs p.hs
def ptT (p:Pth):List UInt8:=if wrgP p=0 then (ptL p).flatten else []
def namP (ah:List UInt8) (p:Nat) (ls:List (List UInt8)):Except (Nat × Int) (List UInt8 × List (List UInt8)) :=
 match nxt p ls with
 | .error e=>.error e
 | .ok (s,r)=>if ah.isPrefixOf s=true then match namedP (s.drop 4) with
  | none=>.error (p+1,253)
  | some n=>.ok (n,r) else .error (p+1,3)
def rngI (s:List UInt8):Option (Int × Int):=if Pn.parseE s=0 then some (Pn.parseV s,-1) else lnsP s
def innR (e:UInt8) (s:List UInt8):Option (List UInt8):=if 9≤s.length∧s.take 4=[e,e,e,32]∧s.drop (s.length-5)=[32,e,e,e,e] then some ((s.drop 4).take (s.length-9)) else none
def rngP (e:UInt8) (p:Nat) (ls:List (List UInt8)):Except (Nat × Int) ((Int × Int) × List (List UInt8)) :=
 match nxt p ls with
 | .error x=>.error x
 | .ok (s,r)=>match innR e s with
  | none=>.error (p+1,3)
  | some t=>match rngI t with
   | none=>.error (p+1,3)
   | some q=>.ok (q,r)
def isSd (sg:UInt8):List UInt8→Bool
 | a::b::_=>(a == 32 || a == sg || a == 33) && b == 32
 | _=>false
def rdS (sg:UInt8):Nat→List (List UInt8)→Except (Nat × Int) (List (UInt8 × List UInt8) × Nat × List (List UInt8))
 | p,[]=>.ok ([],p,[])
 | p,s::r=>if isSd sg s=true then if fdB s=true then if pkM r=true∧3<s.length then .ok ([(s.headD 0,(s.drop 2).dropLast)],p+2,r.tail) else match rdS sg (p+1) r with
   | .error e=>.error e
   | .ok (l,p2,r2)=>.ok ((s.headD 0,s.drop 2)::l,p2,r2)
  else .error (p+1,3) else .ok ([],p,s::r)
abbrev Sde:=List (UInt8 × List UInt8)
def keptS (x:Sde):Sde:=x.filter fun y=>y.1 == 32
def sameS (x:Sde):Bool:=x.all fun y=>y.1 == 32
def chgS (x:Sde):Sde:=x.takeWhile fun y=>y.1 != 32
def rstS (x:Sde):Sde:=x.dropWhile fun y=>y.1 != 32
def allS (k:UInt8) (x:Sde):Bool:=x.all fun y=>y.1 == k
def okJ (x y:Sde):Bool:=if x≠[]∧y≠[] then allS 33 x && allS 33 y else allS 45 x && allS 43 y
def mkS (s:Int) (x:Sde):List Mk:=x.map fun y=>⟨s,y.2⟩
def jnS:Nat→Sde→Sde→Option (List Mk)
 | 0,_,_=>none
 | f+1,o,w=>if okJ (chgS o) (chgS w)=true then match rstS o,rstS w with
   | [],[]=>some (mkS 45 (chgS o)++mkS 43 (chgS w))
   | (_,s)::o2,(_,t)::w2=>if s=t then match jnS f o2 w2 with
    | none=>none
    | some l=>some (mkS 45 (chgS o)++(mkS 43 (chgS w)++⟨32,s⟩::l)) else none
   | _,_=>none
  else none
def cntS (n:Int) (x:Sde):Bool:=decide (n<0∧1<x.length∨0≤n∧n≠x.length)
def oldF (o w:Sde):Sde:=if o=[] then keptS w else o
def newF (o w:Sde):Sde:=if o≠[]∧w=[] then keptS o else w
def finH (at0 ato atw:Nat) (po no pw nw:Int) (o w:Sde):Except (Nat × Int) Hk :=
 if sameS o=true∧sameS w=true then .error (at0,50) else
 if cntS no (oldF o w)=true then .error (ato,120) else
 if cntS nw (newF o w)=true then .error (atw,120) else
 if po=0∧oldF o w≠[] then .error (ato,2) else
 if pw=0∧newF o w≠[] then .error (atw,2) else
 match jnS ((oldF o w).length+1) (oldF o w) (newF o w) with
 | none=>.error (at0,190)
 | some l=>.ok ⟨po,(oldF o w).length,pw,(newF o w).length,l⟩
def isSt (s:List UInt8):Bool:=starsT.isPrefixOf s && ((s.drop 15).isEmpty || (s.drop 15).head? == some 32)
def cxH (k p:Nat) (ls:List (List UInt8)):Except (Nat × Int) (Hk × Nat × List (List UInt8)) :=
 match nxt p ls with
 | .error e=>.error e
 | .ok (s,r)=>if isSt s=true then if 4096≤k then .error (p+1,9) else match rngP 42 (p+1) r with
  | .error e=>.error e
  | .ok ((po,no),r1)=>match rdS 45 (p+2) r1 with
   | .error e=>.error e
   | .ok (o,p2,r2)=>match rngP 45 p2 r2 with
    | .error e=>.error e
    | .ok ((pw,nw),r3)=>match rdS 43 (p2+1) r3 with
     | .error e=>.error e
     | .ok (w,p4,r4)=>match finH (p+1) (p+2) (p2+1) po no pw nw o w with
      | .error e=>.error e
      | .ok h=>.ok (h,p4,r4)
  else .error (p+1,3)
def pkS:List (List UInt8)→Bool
 | []=>false
 | s::_=>starsT.isPrefixOf s
def cxHs:Nat→Nat→Nat→List (List UInt8)→Except (Nat × Int) (List Hk × Nat × List (List UInt8))
 | 0,_,p,_=>.error (p+1,1)
 | f+1,k,p,ls=>match cxH k p ls with
  | .error e=>.error e
  | .ok (h,p1,r)=>if pkS r=true then match cxHs f (k+1) p1 r with
    | .error e=>.error e
    | .ok (l,p2,r2)=>.ok (h::l,p2,r2)
   else .ok ([h],p1,r)
def cxPs:Nat→Nat→Nat→List (List UInt8)→Except (Nat × Int) (List Pth)
 | 0,_,_,_=>.ok []
 | f+1,k,p,ls=>if ls=[] then .ok [] else match namP [42,42,42,32] p ls with
  | .error e=>.error e
  | .ok (n1,r1)=>if 64≤k then .error (p+1,9) else match namP [45,45,45,32] (p+1) r1 with
   | .error e=>.error e
   | .ok (n2,r2)=>match cxHs (r2.length+1) 0 (p+2) r2 with
    | .error e=>.error e
    | .ok (hs,p3,r3)=>match cxPs f (k+1) p3 r3 with
     | .error e=>.error e
     | .ok l=>.ok (⟨n1,n2,hs⟩::l)
def cxT (t:List UInt8):Except (Nat × Int) (List Pth):=if 1048576<t.length then .error (0,9) else cxPs (splitL t).length 0 0 (splitL t)
/- names -/
theorem Zpe (s:List UInt8):(Q.quote s).head?=some 34:=by simp[Q.quote]
theorem Zpd (s:List UInt8):Q.quote s≠devN:=by
 intro h
 have:=congrArg List.head? h
 rw[Zpe] at this
 exact absurd this (by decide)
theorem Zmf (n:List UInt8):unN (nameT n)=some n:=by
 unfold nameT
 split
 ·rename_i h
  subst h
  rfl
 ·split
  ·rename_i h0 h
   unfold unN
   rw[if_neg h.2,if_neg ?_]
   cases n with
   | nil=>exact absurd rfl h0
   | cons c t =>
    intro hq
    simp only[List.head?_cons,Option.some.injEq] at hq
    have:=List.all_eq_true.1 h.1 c (by simp)
    rw[hq] at this
    exact absurd this (by decide)
  ·unfold unN
   rw[if_neg (Zpd n),if_pos (Zpe n)]
   have:=ZtV n []
   rw[List.append_nil] at this
   rw[this]
theorem Zmh (s n:List UInt8):namedP s=some n↔s=nameT n∧n.length≤64:=by
 constructor
 ·intro h
  unfold namedP at h
  split at h
  ·cases h
  ·split at h
   ·rename_i hq
    cases h
    exact⟨hq.2.symm,hq.1⟩
   ·cases h
 ·rintro⟨rfl,h⟩
  unfold namedP
  rw[Zmf]
  show (if n.length≤64∧nameT n=nameT n then some n else none)=some n
  rw[if_pos ⟨h,rfl⟩]
theorem Zmb {c:UInt8} (h:nameC c=true):c≠10:=by
 intro e
 subst e
 exact absurd h (by decide)
theorem Zme (n:List UInt8):∀ c∈nameT n,c≠10:=by
 unfold nameT
 split
 ·decide
 ·split
  ·rename_i h
   intro c hc
   exact Zmb (List.all_eq_true.1 h.1 c hc)
  ·intro c hc e
   subst e
   have:=(Zpf n 10 hc).1
   exact absurd this (by decide)
/- ranges -/
theorem Zsb {p n:Int} (hp:0≤p):∀ c∈spanT p n,numC c=true:=by
 unfold spanT
 split
 ·intro c hc
  simp[numC,Zja hp c hc]
 ·intro c hc
  rcases List.mem_append.1 hc with hc | hc
  ·simp[numC,Zja hp c hc]
  ·rcases List.mem_cons.1 hc with rfl | hc
   ·decide
   ·simp[numC,Zja (by omega) c hc]
def sayN (n:Int):Int:=if n≤1 then -1 else n
theorem ZmE {x y:List UInt8}:Pn.parseE (x++44::y)≠0:=by
 have h:Pn.isNum (x++44::y)=false:=by
  refine Pn.isNum_bad x.length (by simp) ?_
  simp
 unfold Pn.parseE
 rw[if_neg (by rw[h];decide)]
 decide
theorem ZrZ {p n:Int} (hp:0≤p) (h1:2≤n→1≤p) (hb:p≤2147483647) (h2:2≤n→p+n-1≤2147483647):rngI (spanT p n)=some (p,sayN n):=by
 unfold spanT sayN rngI
 by_cases h:n≤1
 ·rw[if_pos h,if_pos h]
  obtain⟨e1,e2⟩:=ZnZ hp hb
  rw[if_pos e2,e1]
 ·rw[if_neg h,if_neg h,if_neg ZmE]
  have:=Zkr (p:=p-1) (n:=n) (by have:=h1 (by omega);omega) (by omega) (by have:=h2 (by omega);omega)
  unfold rngT at this
  rw[if_neg (by omega)] at this
  have e1:p-1+1=p:=by omega
  have e2:p-1+n=p+n-1:=by omega
  rw[e1,e2] at this
  exact this
theorem ZiO (e:UInt8) (t:List UInt8):innR e ([e,e,e,32]++t++[32,e,e,e,e])=some t:=by
 unfold innR
 have hl:([e,e,e,32]++t++[32,e,e,e,e]).length=t.length+9:=by simp
 rw[if_pos]
 ·rw[hl]
  simp
 ·refine⟨by omega,by simp,?_⟩
  rw[hl]
  have:t.length+9-5=([e,e,e,32]++t).length:=by simp
  rw[this,List.drop_left]
theorem ZpR {e:UInt8} (p:Nat) {q n:Int} (hp:0≤q) (h1:2≤n→1≤q) (hb:q≤2147483647) (h2:2≤n→q+n-1≤2147483647) (r:List (List UInt8)):rngP e p (rlT e q n::r)=.ok ((q,sayN n),r):=by
 have e1:rlT e q n=([e,e,e,32]++spanT q n++[32,e,e,e,e])++[10]:=by simp[rlT]
 unfold rngP
 rw[e1]
 simp only[nxt,ZfR,if_true,List.dropLast_concat]
 rw[ZiO]
 simp only
 rw[ZrZ hp h1 hb h2]
end

section
open Ln
def kdS (sg:Int) (b:Bool):UInt8:=if b=true then 33 else UInt8.ofNat sg.toNat
def sdK (sg:Int):Bool→Bool→List Mk→Sde
 | _,_,[]=>[]
 | r,a,m::l=>if m.sg=32 then (32,m.tx)::sdK sg false false l
  else if m.sg=sg then (kdS sg ((r || anyS 45 (m::l)) && (a || anyS 43 (m::l))),m.tx)::sdK sg (r || decide (m.sg=45)) (a || decide (m.sg=43)) l
  else sdK sg (r || decide (m.sg=45)) (a || decide (m.sg=43)) l
def sdL (x:Sde):List (List UInt8):=x.flatMap fun y=>lnL [y.1,32] y.2
theorem ZrJ (sg:Int) (l:List Mk):∀ r a,sidL sg r a l=sdL (sdK sg r a l):=by
 induction l with
 | nil=>intro r a;rfl
 | cons m l ih =>
  intro r a
  simp only[sidL,sdK]
  split
  ·rw[ih];rfl
  ·split
   ·rw[ih]
    simp only[sdL,List.flatMap_cons,kdS]
    split<;>rfl
   ·exact ih _ _
theorem Zro {sg no:Int} (hs:sg=45∧no=43∨sg=43∧no=45) (l:List Mk) (hl:∀ m∈l,okS m.sg=true):∀ r a,(sdK sg r a l).map (·.2)=pkL no l:=by
 induction l with
 | nil=>intro r a;rfl
 | cons m l ih =>
  intro r a
  have hi:=ih fun x hx=>hl x (by simp[hx])
  have hm:=hl m (by simp)
  have hc:m.sg=32∨m.sg=45∨m.sg=43:=by simp[okS] at hm;omega
  simp only[sdK,pkL]
  by_cases h1:m.sg=32
  ·rw[if_pos h1,if_pos ⟨by omega,hm⟩,List.map_cons,hi]
  ·rw[if_neg h1]
   by_cases h2:m.sg=sg
   ·rw[if_pos h2,if_pos ⟨by omega,hm⟩,List.map_cons,hi]
   ·rw[if_neg h2,if_neg (fun q=>q.1 (by omega)),hi]
theorem Zrn {sg:Int} (l:List Mk):∀ r a,∀ y∈sdK sg r a l,y.1=32∨y.1=UInt8.ofNat sg.toNat∨y.1=33:=by
 induction l with
 | nil=>intro r a y hy;cases hy
 | cons m l ih =>
  intro r a y hy
  simp only[sdK] at hy
  split at hy
  ·rcases List.mem_cons.1 hy with rfl | hy
   ·exact .inl rfl
   ·exact ih _ _ y hy
  ·split at hy
   ·rcases List.mem_cons.1 hy with rfl | hy
    ·simp only[kdS]
     split
     ·exact .inr (.inr rfl)
     ·exact .inr (.inl rfl)
    ·exact ih _ _ y hy
   ·exact ih _ _ y hy
def Beh (sg:UInt8) (rest:List (List UInt8)):Prop:=pkM rest=false∧∀ s r,rest=s::r→isSd sg s=false
theorem Zoo {s:List UInt8} {r:List (List UInt8)} {c:UInt8} {t:List UInt8} (h:s=c::t) (hc:c≠92):pkM (s::r)=false:=by
 subst h
 simp only[pkM,markT,List.isPrefixOf,Bool.and_eq_false_iff]
 exact .inl (by simpa using fun q=>hc q.symm)
theorem Zrj {x:Sde} {rest:List (List UInt8)} (hx:∀ y∈x,y.1≠92) (hr:pkM rest=false):pkM (sdL x++rest)=false:=by
 cases x with
 | nil=>exact hr
 | cons y x =>
  have h:=hx y (by simp)
  simp only[sdL,List.flatMap_cons,lnL]
  split
  ·exact Zoo rfl h
  ·exact Zoo rfl h
theorem Zpy {sg:UInt8} (hsg:sg≠92) (x:Sde):∀ (p:Nat) (rest:List (List UInt8)),(∀ y∈x,(y.1=32∨y.1=sg∨y.1=33)∧linB y.2=true)→abl (x.map (·.2))=true→Beh sg rest→rdS sg p (sdL x++rest)=.ok (x,p+(sdL x).length,rest):=by
 induction x with
 | nil =>
  intro p rest _ _ hb
  cases rest with
  | nil=>rfl
  | cons s r =>
   simp only[sdL,List.flatMap_nil,List.nil_append,rdS]
   rw[if_neg (by rw[hb.2 s r rfl];decide)]
   rfl
 | cons y x ih =>
  intro p rest hx ha hb
  obtain⟨hy,hlin⟩:=hx y (by simp)
  have hk92:∀ z∈x,z.1≠92:=by
   intro z hz e
   rcases (hx z (by simp[hz])).1 with h | h | h
   ·rw[h] at e;exact absurd e (by decide)
   ·rw[h] at e;exact hsg e
   ·rw[h] at e;exact absurd e (by decide)
  have hne:y.2≠[]:=by
   intro e
   rw[e] at hlin
   exact absurd hlin (by decide)
  have hsd:∀ t:List UInt8,isSd sg (y.1::32::t)=true:=by
   intro t
   simp only[isSd,Bool.and_eq_true,Bool.or_eq_true,beq_iff_eq]
   exact⟨by rcases hy with h | h | h<;>simp[h],trivial⟩
  simp only[List.map_cons,abl,Bool.and_eq_true,Bool.or_eq_true] at ha
  by_cases hf:fdB y.2=true
  ·have e1:sdL (y::x)++rest=(y.1::32::y.2)::(sdL x++rest):=by
    simp[sdL,lnL,hf]
   have e2:(sdL (y::x)).length=1+(sdL x).length:=by
    simp only[sdL,List.flatMap_cons,List.length_append]
    rw[lnL,if_pos hf]
    rfl
   have hfs:fdB (y.1::32::y.2)=true:=by
    unfold fdB at hf ⊢
    have:(y.1::32::y.2).getLast?=y.2.getLast?:=by
     cases hq:y.2 with
     | nil=>exact absurd hq hne
     | cons c t=>simp[List.getLast?_cons_cons]
    rw[this]
    exact hf
   rw[e1,e2]
   simp only[rdS]
   rw[if_pos (hsd _),if_pos hfs,if_neg (fun q=>by rw[Zrj hk92 hb.1] at q;exact absurd q.1 (by decide)),ih (p+1) rest (fun z hz=>hx z (by simp[hz])) ha.2 hb]
   simp only[List.headD_cons,List.drop_succ_cons,List.drop_zero]
   congr 3
   omega
  ·have hx0:x=[]:=by
    rcases ha.1 with h | h
    ·simpa using h
    ·exact absurd h hf
   subst hx0
   have e1:sdL [y]++rest=(y.1::32::(y.2++[10]))::markT::rest:=by
    simp[sdL,lnL,hf]
   have e2:(sdL [y]).length=2:=by
    simp[sdL,lnL,hf]
   have hfs:fdB (y.1::32::(y.2++[10]))=true:=ZfR (y.1::32::y.2)
   have hl:0<y.2.length:=List.length_pos_iff.2 hne
   rw[e1,e2]
   simp only[rdS]
   rw[if_pos (hsd _),if_pos hfs,if_pos ⟨by simp[pkM],by simp only[List.length_cons,List.length_append];omega⟩]
   simp
theorem ZaZ {sg:Int} {R:List Mk} {s:Int} (hs:s≠32) (hR:AllS s R) (t:List Mk):anyS sg (R++t)=(decide (R≠[]∧s=sg) || anyS sg t):=by
 induction R with
 | nil=>simp
 | cons m R ih =>
  have hm:=hR m (by simp)
  have hi:=ih fun x hx=>hR x (by simp[hx])
  simp only[List.cons_append,anyS]
  rw[if_neg (by omega),hi,hm]
  by_cases h:s=sg<;>simp[h]
end

section
open Ln
def Pe (t:List Mk):Prop:=t=[]∨∃ m r,t=m::r∧m.sg=32
theorem Zba {sg:Int} {t:List Mk} (h:Pe t):anyS sg t=false:=by
 rcases h with rfl | ⟨m,r,rfl,hm⟩
 ·rfl
 ·simp[anyS,hm]
theorem Zrg {sg no:Int} (hs:sg=45∧no=43∨sg=43∧no=45) {R:List Mk} (hR:AllS sg R) (t:List Mk):∀ r a,sdK sg r a (R++t)=R.map (fun m=>(kdS sg (if sg=45 then a || anyS 43 t else r || anyS 45 t),m.tx))++sdK sg (r || decide (R≠[]∧sg=45)) (a || decide (R≠[]∧sg=43)) t:=by
 induction R with
 | nil=>intro r a;simp
 | cons m R ih =>
  intro r a
  have hm:=hR m (by simp)
  have hR2:AllS sg R:=fun x hx=>hR x (by simp[hx])
  have hi:=ih hR2
  simp only[List.cons_append,sdK,List.map_cons]
  rw[if_neg (by omega),if_pos hm,hi]
  have h1:anyS sg (m::(R++t))=true:=by
   simp only[anyS]
   rw[if_neg (by omega)]
   simp[hm]
  have h2:anyS no (m::(R++t))=anyS no t:=by
   simp only[anyS]
   rw[if_neg (by omega),ZaZ (by omega) hR2]
   have e1:decide (m.sg=no)=false:=decide_eq_false (by omega)
   have e2:decide (R≠[]∧sg=no)=false:=decide_eq_false (by omega)
   rw[e1,e2]
   simp
  rcases hs with ⟨rfl,rfl⟩ | ⟨rfl,rfl⟩
  ·rw[h1,h2,hm]
   cases r<;>cases a<;>simp
  ·rw[h1,h2,hm]
   cases r<;>cases a<;>simp
theorem Zrh {sg no:Int} (hs:sg=45∧no=43∨sg=43∧no=45) {R:List Mk} (hR:AllS no R) (t:List Mk):∀ r a,sdK sg r a (R++t)=sdK sg (r || decide (R≠[]∧no=45)) (a || decide (R≠[]∧no=43)) t:=by
 induction R with
 | nil=>intro r a;simp
 | cons m R ih =>
  intro r a
  have hm:=hR m (by simp)
  have hi:=ih fun x hx=>hR x (by simp[hx])
  simp only[List.cons_append,sdK]
  rw[if_neg (by omega),if_neg (by omega),hi,hm]
  rcases hs with ⟨rfl,rfl⟩ | ⟨rfl,rfl⟩
  ·cases r<;>cases a<;>simp
  ·cases r<;>cases a<;>simp
theorem Zri {sg:Int} {t:List Mk} (h:Pe t) (r a:Bool):sdK sg r a t=sdK sg false false t:=by
 rcases h with rfl | ⟨m,u,rfl,hm⟩
 ·rfl
 ·simp[sdK,hm]
theorem ZcI {X Y:Sde} (hX:∀ y∈X,y.1≠32) (hY:Y=[]∨∃ s Z,Y=(32,s)::Z):chgS (X++Y)=X∧rstS (X++Y)=Y:=by
 induction X with
 | nil =>
  rcases hY with rfl | ⟨s,Z,rfl⟩
  ·exact⟨rfl,rfl⟩
  ·exact⟨by simp[chgS],by simp[rstS]⟩
 | cons y X ih =>
  have h:=hX y (by simp)
  obtain⟨i1,i2⟩:=ih fun z hz=>hX z (by simp[hz])
  have hb:(y.1 != 32)=true:=by simpa using h
  constructor
  ·simp only[chgS,List.cons_append,List.takeWhile_cons,hb,if_true]
   exact congrArg _ i1
  ·simp only[rstS,List.cons_append,List.dropWhile_cons,hb,if_true]
   exact i2
theorem Zlv {s:Int} {R:List Mk} (h:AllS s R) (k:UInt8):mkS s (R.map fun m=>(k,m.tx))=R:=by
 induction R with
 | nil=>rfl
 | cons m R ih =>
  have hm:=h m (by simp)
  have hi:=ih fun x hx=>h x (by simp[hx])
  simp only[mkS,List.map_cons,List.map_map] at hi ⊢
  rw[hi]
  cases m
  simp only at hm
  rw[hm]
theorem Zjp {sg:Int} (hs:sg=45∨sg=43) (b:Bool):kdS sg b≠32:=by
 rcases hs with rfl | rfl<;>cases b<;>decide
theorem Znl (R A:List Mk):okJ (R.map fun m=>(kdS 45 (decide (A≠[])),m.tx)) (A.map fun m=>(kdS 43 (decide (R≠[])),m.tx))=true:=by
 unfold okJ
 cases R with
 | nil =>
  cases A with
  | nil=>rfl
  | cons b A =>
   rw[if_neg (by simp)]
   simp[allS,kdS]
 | cons m R =>
  cases A with
  | nil =>
   rw[if_neg (by simp)]
   simp[allS,kdS]
  | cons b A =>
   rw[if_pos (by simp)]
   simp[allS,kdS]
theorem Zjf (n:Nat):∀ (l:List Mk) (f:Nat),l.length≤n→Nf false l→(∀ m∈l,okS m.sg=true)→(sdK 45 false false l).length<f→jnS f (sdK 45 false false l) (sdK 43 false false l)=some l:=by
 induction n with
 | zero =>
  intro l f hn _ _ hf
  have:l=[]:=List.length_eq_zero_iff.1 (by omega)
  subst this
  cases f with
  | zero=>exact absurd hf (by omega)
  | succ f=>rfl
 | succ n ih =>
  intro l f hn hN ho hf
  obtain⟨R,A,t,rfl,hR,hA,ht⟩:=Zmp hN
  have hP:Pe t:=by
   rcases ht with h | ⟨m,r,h,h1,h2,_⟩
   ·exact .inl h
   ·refine .inr ⟨m,r,h,?_⟩
    have:=ho m (by simp[h])
    simp[okS] at this
    omega
  have e1:sdK 45 false false (R++(A++t))=R.map (fun m=>(kdS 45 (decide (A≠[])),m.tx))++sdK 45 false false t:=by
   rw[Zrg (.inl ⟨rfl,rfl⟩) hR,Zrh (.inl ⟨rfl,rfl⟩) hA,Zri hP,ZaZ (by omega) hA,Zba hP]
   simp
  have e2:sdK 43 false false (R++(A++t))=A.map (fun m=>(kdS 43 (decide (R≠[])),m.tx))++sdK 43 false false t:=by
   rw[Zrh (.inr ⟨rfl,rfl⟩) hR,Zrg (.inr ⟨rfl,rfl⟩) hA,Zri hP]
   simp[Zba hP]
  have hX:∀ y∈R.map (fun m=>(kdS 45 (decide (A≠[])),m.tx)),y.1≠32:=by
   intro y hy
   obtain⟨m,_,rfl⟩:=List.mem_map.1 hy
   exact Zjp (.inl rfl) _
  have hY:∀ y∈A.map (fun m=>(kdS 43 (decide (R≠[])),m.tx)),y.1≠32:=by
   intro y hy
   obtain⟨m,_,rfl⟩:=List.mem_map.1 hy
   exact Zjp (.inr rfl) _
  cases f with
  | zero=>exact absurd hf (by omega)
  | succ f =>
   rw[e1,e2]
   rw[e1] at hf
   rcases ht with rfl | ⟨m,r,rfl,h1,h2,hNr⟩
   ·obtain⟨c1,c2⟩:=ZcI hX (.inl rfl:([]:Sde)=[]∨_)
    obtain⟨c3,c4⟩:=ZcI hY (.inl rfl:([]:Sde)=[]∨_)
    simp only[sdK]
    rw[jnS,c1,c3,Znl,if_pos rfl,c2,c4]
    simp only
    rw[Zlv hR,Zlv hA]
    simp
   ·have hm:m.sg=32:=by
     have:=ho m (by simp)
     simp[okS] at this
     omega
    have s1:∀ sg,sdK sg false false (m::r)=(32,m.tx)::sdK sg false false r:=by
     intro sg
     simp[sdK,hm]
    rw[s1,s1]
    rw[s1] at hf
    obtain⟨c1,c2⟩:=ZcI hX (.inr ⟨m.tx,sdK 45 false false r,rfl⟩)
    obtain⟨c3,c4⟩:=ZcI hY (.inr ⟨m.tx,sdK 43 false false r,rfl⟩)
    rw[jnS,c1,c3,Znl,if_pos rfl,c2,c4]
    simp only[if_true]
    simp only[List.length_append,List.length_cons] at hn hf
    rw[ih r f (by omega) hNr (fun x hx=>ho x (by simp[hx])) (by omega)]
    simp only
    rw[Zlv hR,Zlv hA]
    cases m
    simp only at hm
    rw[hm]
theorem Zjv {sg no:Int} (hs:sg=45∧no=43∨sg=43∧no=45) (l:List Mk) (ho:∀ m∈l,okS m.sg=true) (hn:(l.any fun m=>decide (m.sg=sg))=false):∀ r a r2 a2,keptS (sdK no r a l)=sdK sg r2 a2 l:=by
 induction l with
 | nil=>intro r a r2 a2;rfl
 | cons m l ih =>
  intro r a r2 a2
  simp only[List.any_cons,Bool.or_eq_false_iff,decide_eq_false_iff_not] at hn
  have hi:=ih (fun x hx=>ho x (by simp[hx])) hn.2
  have hm:=ho m (by simp)
  have hc:m.sg=32∨m.sg=45∨m.sg=43:=by simp[okS] at hm;omega
  simp only[sdK]
  by_cases h1:m.sg=32
  ·rw[if_pos h1,if_pos h1]
   have:=hi false false false false
   simp only[keptS] at this ⊢
   rw[List.filter_cons_of_pos (by rfl),this]
  ·rw[if_neg h1,if_neg h1,if_pos (by omega:m.sg=no),if_neg hn.1]
   have hk:=Zjp (sg:=no) (by omega) ((r || anyS 45 (m::l)) && (a || anyS 43 (m::l)))
   have:=hi (r || decide (m.sg=45)) (a || decide (m.sg=43)) (r2 || decide (m.sg=45)) (a2 || decide (m.sg=43))
   simp only[keptS] at this ⊢
   rw[List.filter_cons_of_neg (by simpa using hk),this]
theorem Zrk {sg:Int} (l:List Mk) (hs:sg=45∨sg=43):∀ r a,sameS (sdK sg r a l)=!(l.any fun m=>decide (m.sg=sg)):=by
 induction l with
 | nil=>intro r a;rfl
 | cons m l ih =>
  intro r a
  simp only[sdK,List.any_cons]
  by_cases h1:m.sg=32
  ·have:decide (m.sg=sg)=false:=decide_eq_false (by omega)
   rw[if_pos h1,this]
   have:=ih false false
   simp only[sameS] at this ⊢
   simp[this]
  ·rw[if_neg h1]
   by_cases h2:m.sg=sg
   ·have hk:=Zjp hs ((r || anyS 45 (m::l)) && (a || anyS 43 (m::l)))
    rw[if_pos h2,decide_eq_true h2]
    simp only[sameS,List.all_cons]
    have:(kdS sg ((r || anyS 45 (m::l)) && (a || anyS 43 (m::l))) == 32)=false:=by simpa using hk
    rw[this]
    rfl
   ·rw[if_neg h2,decide_eq_false h2]
    have:=ih (r || decide (m.sg=45)) (a || decide (m.sg=43))
    rw[this]
    simp
end

section
open Ln
structure Gh (h:Hk):Prop where
 chk:chkH h=0
 nf:Nf false h.ls
 ea:2≤h.AN→h.A+h.AN-1≤2147483647
 eb:2≤h.BN→h.B+h.BN-1≤2147483647
theorem ZcW {h:Hk} (hc:chkH h=0):rngB h=true∧fldB h.ls=true∧h.AN=(oldL h).length∧h.BN=(newL h).length∧(h.ls.all fun m=>decide (m.sg=32))=false:=by
 unfold chkH at hc
 split at hc
 ·cases hc
 ·rename_i h1
  split at hc
  ·cases hc
  ·rename_i h2
   split at hc
   ·cases hc
   ·rename_i h3
    split at hc
    ·cases hc
    ·rename_i h4
     refine⟨by simpa using h1,by simpa using h2,?_,?_,by simpa using h4⟩<;>omega
theorem Zqd {h:Hk} (hr:rngB h=true):0≤h.A∧h.A≤2147483647∧0≤h.AN∧0≤h.B∧h.B≤2147483647∧0≤h.BN∧(h.A=0→h.AN≤0)∧(h.B=0→h.BN≤0):=by
 simp[rngB,nat31] at hr
 omega
def sdF (sg:Int) (l:List Mk):Sde:=if (l.any fun m=>decide (m.sg=sg))=true then sdK sg false false l else []
theorem ZrP (sg:Int) (l:List Mk):sideL sg l=sdL (sdF sg l):=by
 unfold sideL sdF
 split
 ·exact ZrJ sg l false false
 ·rfl
theorem ZqR {x:Sde} (h:sameS x=false):x≠[]:=by
 intro e
 subst e
 cases h
theorem ZeT {no:Int} {l:List Mk} {t:List UInt8} (h:t∈pkL no l):∃ m∈l,m.tx=t:=by
 induction l with
 | nil=>cases h
 | cons m l ih =>
  simp only[pkL] at h
  split at h
  ·rcases List.mem_cons.1 h with h | h
   ·exact⟨m,by simp,h.symm⟩
   ·obtain⟨x,hx,e⟩:=ih h
    exact⟨x,by simp[hx],e⟩
  ·obtain⟨x,hx,e⟩:=ih h
   exact⟨x,by simp[hx],e⟩
theorem Zpx {sg no:Int} {c:UInt8} (hc:UInt8.ofNat sg.toNat=c) (h92:c≠92) (hs:sg=45∧no=43∨sg=43∧no=45) {l:List Mk} (hl:∀ m∈l,linB m.tx=true∧okS m.sg=true) (ha:abl (pkL no l)=true) (p:Nat) {rest:List (List UInt8)} (hb:Beh c rest):rdS c p (sideL sg l++rest)=.ok (sdF sg l,p+(sideL sg l).length,rest):=by
 rw[ZrP]
 refine Zpy h92 (sdF sg l) p rest ?_ ?_ hb
 ·intro y hy
  unfold sdF at hy
  split at hy
  ·refine⟨?_,?_⟩
   ·have:=Zrn l false false y hy
    rw[hc] at this
    exact this
   ·have h1:y.2∈(sdK sg false false l).map (·.2):=List.mem_map.2 ⟨y,hy,rfl⟩
    rw[Zro hs l (fun m hm=>(hl m hm).2)] at h1
    obtain⟨m,hm,e⟩:=ZeT h1
    rw[← e]
    exact (hl m hm).1
  ·cases hy
 ·unfold sdF
  split
  ·rw[Zro hs l (fun m hm=>(hl m hm).2)]
   exact ha
  ·rfl
theorem ZeP {l:List Mk} (ho:∀ m∈l,okS m.sg=true) (hn:(l.all fun m=>decide (m.sg=32))=false):oldF (sdF 45 l) (sdF 43 l)=sdK 45 false false l∧newF (sdF 45 l) (sdF 43 l)=sdK 43 false false l∧¬ (sameS (sdF 45 l)=true∧sameS (sdF 43 l)=true):=by
 have k45:=Zrk (sg:=45) l (.inl rfl) false false
 have k43:=Zrk (sg:=43) l (.inr rfl) false false
 cases h45:l.any fun m=>decide (m.sg=45) with
 | true =>
  rw[h45] at k45
  have hne:=ZqR (x:=sdK 45 false false l) (by rw[k45];rfl)
  have e:sdF 45 l=sdK 45 false false l:=by unfold sdF;rw[if_pos h45]
  rw[e]
  refine⟨by unfold oldF;rw[if_neg hne],?_,fun q=>by rw[k45] at q;exact absurd q.1 (by decide)⟩
  cases h43:l.any fun m=>decide (m.sg=43) with
  | true =>
   rw[h43] at k43
   have hne2:=ZqR (x:=sdK 43 false false l) (by rw[k43];rfl)
   have e2:sdF 43 l=sdK 43 false false l:=by unfold sdF;rw[if_pos h43]
   rw[e2]
   unfold newF
   rw[if_neg (fun q=>hne2 q.2)]
  | false =>
   have e2:sdF 43 l=[]:=by unfold sdF;rw[if_neg (by rw[h43];decide)]
   rw[e2]
   unfold newF
   rw[if_pos ⟨hne,rfl⟩]
   exact Zjv (.inr ⟨rfl,rfl⟩) l ho h43 _ _ _ _
 | false =>
  have h43:(l.any fun m=>decide (m.sg=43))=true:=by
   cases h43:l.any fun m=>decide (m.sg=43) with
   | true=>rfl
   | false =>
    exfalso
    have:(l.all fun m=>decide (m.sg=32))=true:=by
     rw[List.all_eq_true]
     intro m hm
     have h1:=ho m hm
     have h2:=List.any_eq_false.1 h45 m hm
     have h3:=List.any_eq_false.1 h43 m hm
     simp[okS] at h1 h2 h3 ⊢
     omega
    rw[this] at hn
    cases hn
  rw[h43] at k43
  have e:sdF 45 l=[]:=by unfold sdF;rw[if_neg (by rw[h45];decide)]
  have e2:sdF 43 l=sdK 43 false false l:=by unfold sdF;rw[if_pos h43]
  rw[e,e2]
  refine⟨?_,by unfold newF;rw[if_neg (fun q=>q.1 rfl)],fun q=>by rw[k43] at q;exact absurd q.2 (by decide)⟩
  unfold oldF
  rw[if_pos rfl]
  exact Zjv (.inl ⟨rfl,rfl⟩) l ho h45 _ _ _ _
theorem ZdN {n:Int} {x:Sde} (h:n=x.length):cntS (sayN n) x=false:=by
 unfold cntS sayN
 refine decide_eq_false ?_
 split<;>omega
theorem ZpS {sg e:UInt8} {p n:Int} (he:e≠92) (h32:e≠32) (r:List (List UInt8)):Beh sg (rlT e p n::r):=by
 refine⟨Zoo (t:=e::e::32::(spanT p n++[32,e,e,e,e,10])) (by simp[rlT]) he,?_⟩
 intro s q hq
 cases hq
 have:rlT e p n=e::e::(e::32::(spanT p n++[32,e,e,e,e,10])):=by simp[rlT]
 rw[this]
 simp[isSd,h32]
theorem Znc {s:List UInt8} (p:Nat) (r:List (List UInt8)):nxt p ((s++[10])::r)=.ok (s,r):=by
 simp only[nxt,ZfR,if_true,List.dropLast_concat]
theorem ZeU {h:Hk} (g:Gh h) {k:Nat} (hk:k<4096) (p:Nat) {rest:List (List UInt8)} (hb:Beh 43 rest):cxH k p (hkL h++rest)=.ok (h,p+(hkL h).length,rest):=by
 obtain⟨c1,c2,c3,c4,c5⟩:=ZcW g.chk
 obtain⟨r1,r2,r3,r4,r5,r6,r7,r8⟩:=Zqd c1
 obtain⟨f1,f2,f3⟩:=(Zgy h.ls).1 c2
 obtain⟨q1,q2,q3⟩:=ZeP (fun m hm=>(f1 m hm).2) c5
 have l1:(sdK 45 false false h.ls).length=(oldL h).length:=by
  have:=congrArg List.length (Zro (.inl ⟨rfl,rfl⟩) h.ls (fun m hm=>(f1 m hm).2) false false)
  rw[List.length_map] at this
  exact this
 have l2:(sdK 43 false false h.ls).length=(newL h).length:=by
  have:=congrArg List.length (Zro (.inr ⟨rfl,rfl⟩) h.ls (fun m hm=>(f1 m hm).2) false false)
  rw[List.length_map] at this
  exact this
 have e0:hkL h++rest=(starsT++[10])::rlT 42 h.A h.AN::(sideL 45 h.ls++(rlT 45 h.B h.BN::(sideL 43 h.ls++rest))):=by
  simp[hkL]
 have e1:(hkL h).length=3+(sideL 45 h.ls).length+(sideL 43 h.ls).length:=by
  simp only[hkL,List.length_cons,List.length_append]
  omega
 have hfin:finH (p+1) (p+2) (p+2+(sideL 45 h.ls).length+1) h.A (sayN h.AN) h.B (sayN h.BN) (sdF 45 h.ls) (sdF 43 h.ls)=.ok h:=by
  unfold finH
  rw[if_neg q3,q1,q2]
  rw[if_neg (by rw[ZdN (by omega)];decide),if_neg (by rw[ZdN (by omega)];decide)]
  rw[if_neg,if_neg]
  ·rw[Zjf h.ls.length h.ls _ (Nat.le_refl _) g.nf (fun m hm=>(f1 m hm).2) (by omega)]
   simp only
   have a1:((sdK 45 false false h.ls).length:Int)=h.AN:=by omega
   have a2:((sdK 43 false false h.ls).length:Int)=h.BN:=by omega
   rw[a1,a2]
  ·rintro⟨x,y⟩
   have:=List.length_pos_iff.2 y
   have:=r8 x
   omega
  ·rintro⟨x,y⟩
   have:=List.length_pos_iff.2 y
   have:=r7 x
   omega
 unfold cxH
 rw[e0,Znc]
 simp only
 rw[if_pos (by decide),if_neg (by omega)]
 rw[ZpR (p+1) r1 (fun x=>by omega) r2 g.ea]
 simp only
 rw[Zpx (c:=45) rfl (by decide) (.inl ⟨rfl,rfl⟩) f1 f2 (p+2) (ZpS (by decide) (by decide) _)]
 simp only
 rw[ZpR _ r4 (fun x=>by omega) r5 g.eb]
 simp only
 rw[Zpx (c:=43) rfl (by decide) (.inr ⟨rfl,rfl⟩) f1 f3 _ hb]
 simp only
 rw[hfin]
 simp only
 rw[e1]
 congr 3
 omega
end

section
open Ln
structure Gp (p:Pth):Prop where
 ne:p.hs≠[]
 old:p.old.length≤64
 new:p.new.length≤64
 few:p.hs.length≤4096
 gd:∀ h∈p.hs,Gh h
theorem Zsn {sg:UInt8} (h:Hk) (r:List (List UInt8)):Beh sg (hkL h++r):=by
 refine⟨rfl,?_⟩
 intro s q hq
 simp only[hkL,List.cons_append,List.cons.injEq] at hq
 rw[← hq.1]
 simp[starsT,isSd]
theorem ZeV (hs:List Hk):∀ (f k p:Nat) (rest:List (List UInt8)),hs≠[]→(∀ h∈hs,Gh h)→k+hs.length≤4096→hs.length≤f→Beh 43 rest→pkS rest=false→cxHs f k p (hs.flatMap hkL++rest)=.ok (hs,p+(hs.flatMap hkL).length,rest):=by
 induction hs with
 | nil=>intro f k p rest h;exact absurd rfl h
 | cons h hs ih =>
  intro f k p rest _ hg hk hf hb hr
  cases f with
  | zero=>exact absurd hf (by simp)
  | succ f =>
   simp only[List.length_cons] at hk hf
   have hgh:=hg h (by simp)
   simp only[List.flatMap_cons,List.append_assoc,cxHs]
   cases hs with
   | nil =>
    simp only[List.flatMap_nil,List.nil_append,List.append_nil]
    rw[ZeU hgh (by omega) p hb]
    simp only
    rw[if_neg (by rw[hr];decide)]
   | cons h2 hs =>
    have hi:=ih f (k+1) (p+(hkL h).length) rest (by simp) (fun x hx=>hg x (by simp[hx])) (by omega) (by omega) hb hr
    have hb2:Beh 43 ((h2::hs).flatMap hkL++rest):=by
     rw[List.flatMap_cons,List.append_assoc]
     exact Zsn h2 _
    rw[ZeU hgh (by omega) p hb2]
    simp only
    have hp:pkS ((h2::hs).flatMap hkL++rest)=true:=rfl
    rw[if_pos hp,hi]
    simp only[List.length_append]
    congr 3
    omega
theorem Zmc {ah n:List UInt8} (hn:n.length≤64) (h4:ah.length=4) (p:Nat) (r:List (List UInt8)):namP ah p ((ah++nameT n++[10])::r)=.ok (n,r):=by
 unfold namP
 rw[Znc]
 simp only
 rw[if_pos (by rw[List.isPrefixOf_iff_prefix];exact List.prefix_append _ _)]
 have:(ah++nameT n).drop 4=nameT n:=by rw[← h4,List.drop_left]
 rw[this,(Zmh (nameT n) n).2 ⟨rfl,hn⟩]
theorem ZoT {p:Pth} (h:p.hs≠[]):ptL p=([42,42,42,32]++nameT p.old++[10])::([45,45,45,32]++nameT p.new++[10])::p.hs.flatMap hkL:=by
 unfold ptL
 rw[if_neg h]
theorem ZoW {L:List Pth} (h:∀ p∈L,Gp p):Beh 43 (L.flatMap ptL)∧pkS (L.flatMap ptL)=false:=by
 cases L with
 | nil=>exact⟨⟨rfl,fun s r q=>by cases q⟩,rfl⟩
 | cons p L =>
  rw[List.flatMap_cons,ZoT (h p (by simp)).ne]
  refine⟨⟨rfl,?_⟩,rfl⟩
  intro s r q
  simp only[List.cons_append,List.cons.injEq] at q
  rw[← q.1]
  simp[isSd]
theorem ZhU (hs:List Hk):hs.length≤(hs.flatMap hkL).length:=by
 induction hs with
 | nil=>exact Nat.le_refl _
 | cons h hs ih =>
  simp only[List.flatMap_cons,List.length_append,List.length_cons]
  have:1≤(hkL h).length:=by simp[hkL]
  omega
theorem ZeW (L:List Pth):∀ (f k p:Nat),(∀ q∈L,Gp q)→k+L.length≤64→L.length≤f→cxPs f k p (L.flatMap ptL)=.ok L:=by
 induction L with
 | nil =>
  intro f k p _ _ _
  cases f with
  | zero=>rfl
  | succ f=>rfl
 | cons q L ih =>
  intro f k p hg hk hf
  cases f with
  | zero=>exact absurd hf (by simp)
  | succ f =>
   have g:=hg q (by simp)
   have hg2:∀ x∈L,Gp x:=fun x hx=>hg x (by simp[hx])
   simp only[List.length_cons] at hk hf
   simp only[List.flatMap_cons,cxPs]
   rw[ZoT g.ne]
   rw[if_neg (by simp)]
   simp only[List.cons_append]
   have n1:=Zmc (ah:=[42,42,42,32]) g.old rfl p (([45,45,45,32]++nameT q.new++[10])::(q.hs.flatMap hkL++L.flatMap ptL))
   have n2:=Zmc (ah:=[45,45,45,32]) g.new rfl (p+1) (q.hs.flatMap hkL++L.flatMap ptL)
   simp only[List.cons_append,List.nil_append] at n1 n2 ⊢
   rw[n1]
   simp only
   rw[if_neg (by omega),n2]
   simp only
   obtain⟨b1,b2⟩:=ZoW hg2
   rw[ZeV q.hs _ 0 (p+2) _ g.ne g.gd (by have:=g.few;omega) (by have:=ZhU q.hs;simp only[List.length_append];omega) b1 b2]
   simp only
   rw[ih f (k+1) _ hg2 (by omega) (by omega)]
theorem ZfS {x y:List (List UInt8)} (hx:Fed x) (hy:Fed y):Fed (x++y):=fun s hs=>(List.mem_append.1 hs).elim (hx s) (hy s)
theorem ZfU {t:List UInt8} {y:List (List UInt8)} (ht:∀ c∈t,c≠10) (hy:Fed y):Fed ((t++[10])::y):=by
 intro s hs
 rcases List.mem_cons.1 hs with rfl | hs
 ·exact⟨t,rfl,ht⟩
 ·exact hy s hs
theorem ZfX:Fed []:=fun s hs=>by cases hs
theorem Zgb {sg:Int} (h10:UInt8.ofNat sg.toNat≠10) {l:List Mk} (hl:∀ m∈l,linB m.tx=true):Fed (sideL sg l):=by
 have h:∀ r a,Fed (sidL sg r a l):=by
  induction l with
  | nil=>intro r a;exact ZfX
  | cons m l ih =>
   intro r a
   have hi:=ih fun x hx=>hl x (by simp[hx])
   have hm:=hl m (by simp)
   simp only[sidL]
   split
   ·exact ZfS (ZfW (by decide) hm) (hi _ _)
   ·split
    ·refine ZfS (ZfW ?_ hm) (hi _ _)
     split
     ·decide
     ·intro c hc
      rcases List.mem_cons.1 hc with rfl | hc
      ·exact h10
      ·rw[List.mem_singleton.1 hc]
       decide
    ·exact hi _ _
 unfold sideL
 split
 ·exact h _ _
 ·exact ZfX
theorem Zga {e:UInt8} (he:e≠10) {p n:Int} (hp:0≤p) {y:List (List UInt8)} (hy:Fed y):Fed (rlT e p n::y):=by
 have e1:rlT e p n=([e,e,e,32]++spanT p n++[32,e,e,e,e])++[10]:=by simp[rlT]
 rw[e1]
 refine ZfU ?_ hy
 intro c hc
 rcases List.mem_append.1 hc with hc | hc
 ·rcases List.mem_append.1 hc with hc | hc
  ·simp only[List.mem_cons,List.not_mem_nil,or_false] at hc
   rcases hc with rfl | rfl | rfl | rfl
   ·exact he
   ·exact he
   ·exact he
   ·decide
  ·exact (ZmR (Zsb hp c hc)).2.1
 ·simp only[List.mem_cons,List.not_mem_nil,or_false] at hc
  rcases hc with rfl | rfl | rfl | rfl | rfl
  ·decide
  ·exact he
  ·exact he
  ·exact he
  ·exact he
theorem ZfV {h:Hk} (g:Gh h):Fed (hkL h):=by
 obtain⟨c1,c2,c3,c4,c5⟩:=ZcW g.chk
 obtain⟨r1,r2,r3,r4,r5,r6,r7,r8⟩:=Zqd c1
 have f1:=((Zgy h.ls).1 c2).1
 unfold hkL
 refine ZfU (by decide) (Zga (by decide) r1 (ZfS (Zgb (by decide) fun m hm=>(f1 m hm).1) (Zga (by decide) r4 (Zgb (by decide) fun m hm=>(f1 m hm).1))))
theorem ZfZ {L:List Pth} (h:∀ p∈L,Gp p):Fed (L.flatMap ptL):=by
 intro s hs
 obtain⟨p,hp,hs⟩:=List.mem_flatMap.1 hs
 have g:=h p hp
 rw[ZoT g.ne] at hs
 refine ZfU ?_ (ZfU ?_ ?_) s hs
 ·intro c hc
  rcases List.mem_append.1 hc with hc | hc
  ·exact (by decide:∀ c∈([42,42,42,32]:List UInt8),c≠10) c hc
  ·exact Zme _ c hc
 ·intro c hc
  rcases List.mem_append.1 hc with hc | hc
  ·exact (by decide:∀ c∈([45,45,45,32]:List UInt8),c≠10) c hc
  ·exact Zme _ c hc
 ·intro x hx
  obtain⟨k,hk,hx⟩:=List.mem_flatMap.1 hx
  exact ZfV (g.gd k hk) x hx
theorem ZeN {L:List Pth} (h:∀ p∈L,Gp p) (hn:L.length≤64) (hl:((L.flatMap ptL).flatten).length≤1048576):cxT (L.flatMap ptL).flatten=.ok L:=by
 unfold cxT
 rw[if_neg (by omega),ZpN _ (ZfT (ZfZ h))]
 refine ZeW L _ 0 0 h (by omega) ?_
 clear hn hl
 induction L with
 | nil=>exact Nat.le_refl _
 | cons p L ih =>
  have:=ih fun x hx=>h x (by simp[hx])
  simp only[List.flatMap_cons,List.length_append,List.length_cons]
  rw[ZoT (h p (by simp)).ne]
  simp only[List.length_cons]
  omega
end

section
open Ln
theorem Zka {v:List UInt8} (h:∀ c∈v,c≠10):linB (v++[10])=true:=by
 unfold linB
 rw[List.dropLast_concat]
 have e1:(v++[10]).isEmpty=false:=by cases v<;>rfl
 rw[e1]
 simp only[Bool.not_false,Bool.true_and,List.all_eq_true]
 intro c hc
 simpa using h c hc
theorem ZjZ {v:List UInt8} (h:∀ c∈v,c≠10) (hn:v≠[]):linB v=true:=by
 unfold linB
 have e1:v.isEmpty=false:=by
  cases v with
  | nil=>exact absurd rfl hn
  | cons=>rfl
 rw[e1]
 simp only[Bool.not_false,Bool.true_and,List.all_eq_true]
 intro c hc
 simpa using h c ((List.dropLast_sublist _).subset hc)
theorem Zqr {x z:Sde} {y:UInt8 × List UInt8} (h:rstS x=y::z):y.1=32:=by
 induction x with
 | nil=>cases h
 | cons a x ih =>
  simp only[rstS,List.dropWhile_cons] at h
  split at h
  ·exact ih h
  ·rename_i hq
   cases h
   simpa using hq
theorem ZcN (x:Sde):chgS x++rstS x=x:=List.takeWhile_append_dropWhile
end

section
open Ln
theorem ZeO {hs:List Hk} (h:∀ x∈hs,chkH x=0):errs hs=0:=by
 induction hs with
 | nil=>rfl
 | cons x hs ih =>
  simp only[errs]
  rw[h x (by simp)]
  simpa using ih fun y hy=>h y (by simp[hy])
theorem Zve {p:Pth} (g:Gp p):wrgP p=0:=by
 unfold wrgP
 have:=g.old
 have:=g.new
 have:=g.few
 rw[if_neg (by omega),if_neg (by omega)]
 exact ZeO fun x hx=>(g.gd x hx).chk
theorem ZoX {L:List Pth} (h:∀ q∈L,Gp q):L.flatMap ptT=(L.flatMap ptL).flatten:=by
 induction L with
 | nil=>rfl
 | cons p L ih =>
  rw[List.flatMap_cons,List.flatMap_cons,List.flatten_append,ih fun x hx=>h x (by simp[hx])]
  unfold ptT
  rw[if_pos (Zve (h p (by simp)))]
end

section
open Pn Go.RowKit
attribute [local go_sem] ZvA
theorem ZpD {k k':IntKind} {a b a' b':Int} (h:a=a') (h':b=b'):Ending.returned (.tuple #[.int k a,.int k' b])=.returned (.tuple #[.int k a',.int k' b']):=by rw[h,h']
end

section
open Pn Go.RowKit
attribute [local go_sem] ZvA
theorem Zmv (L:List UInt8) (w:World) (hl:L.length≤maxLen) (h0:0<L.length) (hz:(((L[0].toNat:Int) == 48)=false)∨((((L[0].toNat:Int) == 48)=true)∧(L.length:Int)≤1))
  (HY:Hid ((∀ k (hk:k<L.length),48≤L[k].toNat∧L[k].toNat≤57)→isNum L=true)) :
  Calls Tryz.prog 275 #[.string ⟨L.toArray⟩] w fun e w'=>e=.returned (.bool (isNum L))∧Below w.heap.size w w':=by
 unfold maxLen at hl
 have hne:L.isEmpty=false:=by cases L;simp at h0;rfl
 have hnil:¬ L=[]:=by intro h;rw[h] at h0;simp at h0
 rcases hz with hz | ⟨hz,hz1⟩
 all_goals
  go_enter Tryz.func275,Tryz.ntmps275
  go_wp2
  go_loopw [] (fun wr=>∃ pos:Nat,pos≤L.length∧wr.heap[w.heap.size]?=some (.stringIter ⟨L.toArray⟩ pos)∧Below w.heap.size w wr∧(∀ k (hk:k<L.length),k<pos→48≤L[k].toNat∧L[k].toNat≤57)) (fun wr=>L.length-wr.iterPos w.heap.size)
  case atStart =>
   refine⟨0,Nat.zero_le _,World.iter_heap w _ 0,(Below.refl _ w).alloc (Nat.le_refl _) _,fun k _ h=>by omega⟩
  case round =>
   obtain⟨pos,hp,hit,hbr,hall⟩:=hrel
   have HA:Hid (∀ k (hk:k<L.length),k<pos→48≤L[k].toNat∧L[k].toNat≤57):=hall
   clear hall
   have hss:(⟨L.toArray⟩:ByteArray).size=L.length:=rfl
   by_cases hlt:pos<L.length
   ·by_cases ha:L[pos].toNat<128
    ·have hnx:∀ ty,(Instr.next (.pointer (some ⟨w.heap.size,0,none⟩)) true ty).run Tryz.prog wr=_:=fun ty=>Lib.run_next_ascii_at wr w.heap.size ⟨L.toArray⟩ pos ty hit hlt ha
     have hit2:=Lib.iterAt_heap wr w.heap.size ⟨L.toArray⟩ pos (pos+1) hit
     have hbr2:=Lib.below_iterAt hbr (k:=w.heap.size) (Nat.le_refl _) ⟨L.toArray⟩ (pos+1)
     by_cases hd:48≤L[pos].toNat∧L[pos].toNat≤57
     ·obtain⟨hd1,hd2⟩:=hd
      go_wp2
      go_roundw
      case rel =>
       refine⟨pos+1,by omega,hit2,hbr2,fun k hk h=>?_⟩
       by_cases e:k=pos
       ·subst e;exact⟨hd1,hd2⟩
       ·exact HA.out k hk (by omega)
      case measure=>simp only[World.iterPos,hit,hit2];omega
     ·have HN:Hid (isNum L=false):=isNum_bad pos hlt hd
      by_cases hd1:L[pos].toNat<48
      ·clear hd
       go_wp2
       go_ret
       exact⟨ret_bool HN.out.symm,hbr2⟩
      ·have hd2:57<L[pos].toNat:=by omega
       clear hd
       go_wp2
       go_ret
       exact⟨ret_bool HN.out.symm,hbr2⟩
    ·have HN:Hid (isNum L=false):=isNum_bad pos hlt (by omega)
     have hdh:=(decode_high ⟨L.toArray⟩ pos hlt (by show 128≤L[pos].toNat;omega)).1
     have hnx:∀ ty,(Instr.next (.pointer (some ⟨w.heap.size,0,none⟩)) true ty).run Tryz.prog wr=_:=fun ty=>Lib.run_next_any_at wr w.heap.size ⟨L.toArray⟩ pos ty hit hlt
     have hbr2:=Lib.below_iterAt hbr (k:=w.heap.size) (Nat.le_refl _) ⟨L.toArray⟩ (pos+(Utf8.decode ⟨L.toArray⟩ pos).2)
     have hdl:=decode_le ⟨L.toArray⟩ pos
     generalize Utf8.decode ⟨L.toArray⟩ pos=dd at *
     have q1:¬ ((dd.1:Int)<48):=by omega
     have q2:57<(dd.1:Int):=by omega
     go_wp2
     go_ret
     exact⟨ret_bool HN.out.symm,hbr2⟩
   ·have hnx:∀ ty,(Instr.next (.pointer (some ⟨w.heap.size,0,none⟩)) true ty).run Tryz.prog wr=_:=fun ty=>Lib.run_next_end_at wr w.heap.size ⟨L.toArray⟩ pos ty hit hlt
    have HN:Hid (isNum L=true):=HY.out fun k hk=>HA.out k hk (by omega)
    go_wp2
    go_ret
    exact⟨ret_bool HN.out.symm,hbr⟩
theorem Zmu (l:List UInt8) (w:World) (hl:l.length≤maxLen) :
  Calls Tryz.prog 275 #[.string ⟨l.toArray⟩] w fun e w'=>e=.returned (.bool (isNum l))∧Below w.heap.size w w':=by
 match l,hl with
 | [],_ =>
  go_enter Tryz.func275,Tryz.ntmps275
  go_wp2
  go_ret
  exact⟨rfl,Below.refl _ _⟩
 | [c],hl =>
  refine Zmv [c] w hl (by simp) ?_ (ZiW (by simp))
  cases h:((([c]:List UInt8)[0].toNat:Int) == 48)
  ·exact .inl rfl
  ·exact .inr ⟨rfl,by simp⟩
 | c::d::t,hl =>
  by_cases h:c.toNat=48
  ·have hb:((c.toNat:Int) == 48)=true:=by simp;omega
   have HN:Hid (isNum (c::d::t)=false):=ZiX h
   have hl2:(1:Int)<(t.length:Int)+1+1:=by omega
   clear h
   go_enter Tryz.func275,Tryz.ntmps275
   go_wp2
   go_ret
   exact⟨ret_bool HN.out.symm,Below.refl _ _⟩
  ·refine Zmv (c::d::t) w hl (by simp) (.inl ?_) (ZiW (by simp[h]))
   simp;omega
theorem ZlV (l:List UInt8) (w:World) (hl:l.length≤maxLen) :
  Calls Tryz.prog 245 #[.string ⟨l.toArray⟩] w fun e w'=>e=.returned (.tuple #[.int .i64 (parseV l),.int .i64 (parseE l)])∧Below w.heap.size w w':=by
 go_enter Tryz.func245,Tryz.ntmps245
 go_wp2_with fail
 refine (Zmu l _ hl).mono ?_
 rintro e w1 ⟨rfl,hb1⟩
 unfold maxLen at hl
 cases hn:isNum l
 ·have HN:Hid (isNum l=false):=hn
  go_wp2
  go_ret2
  have h:=parse_no HN.out
  exact⟨ZpD h.1 h.2,hb1⟩
 ·have HN:Hid (isNum l=true):=hn
  have hal:=isNum_all hn
  have HAL:Hid (l.all digB=true):=hal
  clear hal
  go_wp2
  go_loopw [4] (fun n wr=>∃ (pos:Nat) (v:Int),pos≤l.length∧n=.int .i64 v∧0≤v∧v≤2147483647∧wr.heap[w1.heap.size]?=some (.stringIter ⟨l.toArray⟩ pos)∧Below w.heap.size w wr∧sat v (l.drop pos)=sat 0 l) (fun _ wr=>l.length-wr.iterPos w1.heap.size)
  case atStart =>
   refine⟨0,0,Nat.zero_le _,rfl,by omega,by omega,World.iter_heap w1 _ 0,hb1.alloc hb1.size _,rfl⟩
  case round =>
   obtain⟨pos,v,hp,rfl,hv0,hv1,hit,hbr,hsat⟩:=hrel
   have HS:Hid (sat v (l.drop pos)=sat 0 l):=hsat
   clear hsat
   have hss:(⟨l.toArray⟩:ByteArray).size=l.length:=rfl
   have hz1:=hb1.size
   by_cases hlt:pos<l.length
   ·have hd:=ZaS HAL.out pos hlt
    obtain⟨hd1,hd2⟩:=hd
    have HS2:Hid (sat (min (v * 10+((l[pos].toNat:Int)-48)) 2147483648) (l.drop (pos+1))=sat 0 l):=by
     show sat _ _=_
     rw[← ZqU hlt];exact HS.out
    have hnx:∀ ty,(Instr.next (.pointer (some ⟨w1.heap.size,0,none⟩)) true ty).run Tryz.prog wr=_:=fun ty=>Lib.run_next_ascii_at wr w1.heap.size ⟨l.toArray⟩ pos ty hit hlt (by show l[pos].toNat<128;omega)
    have hit2:=Lib.iterAt_heap wr w1.heap.size ⟨l.toArray⟩ pos (pos+1) hit
    have hbr2:=Lib.below_iterAt hbr (k:=w1.heap.size) hb1.size ⟨l.toArray⟩ (pos+1)
    by_cases hfar:(2147483647-((l[pos].toNat:Int)-48)) / 10<v
    ·have HF:Hid (sat 0 l=2147483648):=by
      have e:min (v * 10+((l[pos].toNat:Int)-48)) 2147483648=2147483648:=by omega
      have h:=HS2.out
      rw[e,ZqV _ (ZaU HAL.out _)] at h
      exact h.symm
     go_wp2
     go_ret2
     have h:=ZnY HN.out HF.out
     exact⟨ZpD h.1 h.2,hbr2⟩
    ·go_wp2
     go_roundw
     case rel =>
      refine⟨pos+1,v * 10+((l[pos].toNat:Int)-48),by omega,rfl,by omega,by omega,hit2,hbr2,?_⟩
      have e:min (v * 10+((l[pos].toNat:Int)-48)) 2147483648=v * 10+((l[pos].toNat:Int)-48):=by omega
      rw[← HS2.out,e]
     case measure=>simp only[World.iterPos,hit,hit2];omega
   ·have hnx:∀ ty,(Instr.next (.pointer (some ⟨w1.heap.size,0,none⟩)) true ty).run Tryz.prog wr=_:=fun ty=>Lib.run_next_end_at wr w1.heap.size ⟨l.toArray⟩ pos ty hit hlt
    have HF:Hid (sat 0 l=v):=by
     have h:=HS.out
     rw[List.drop_eq_nil_of_le (by omega)] at h
     exact h.symm
    go_wp2
    go_ret2
    have h:=Zoa HN.out HF.out hv1
    exact⟨ZpD h.1 h.2,hbr⟩
end

end Go.Proofs.YtgiojkhmkeocfaaGreatDoor
