/-
  Texts that belong together, joined: NpE, NpM, NpF, NpG, NpH, NpX, NpC, CxC, CxLen, CxR, CxP, CxC2, Copy, CqL, CqQ, HuLn.
-/
import Derived.Test.YtcniomgjikienaaGreatDoorVkA5
import Derived.WalkLawsBesides
import Derived.Lib.IndexAny
import Derived.Deep.QuietTactic
import Derived.BigQuiet
import Derived.Deep.CutBlock
import Derived.Shelf.Strings.Builder1
import Derived.Test.YtcniomgjikienaaGreatDoorProg
import Derived.WalkKit
import Derived.WalkSpells

set_option maxHeartbeats 16000000
set_option maxRecDepth 100000
namespace Go.Proofs.YtcniomgjikienaaGreatDoor

section
open Go.RowKit
attribute [local go_sem] ByteArray.extract_mk Zhc
def ryO (vL:Value) (p:Int):Obj:=.cells #[vL,.int .i64 p] 317
def Ry (u:World) (R:Nat) (vL:Value) (p:Int):Prop:=u.heap[R]?=some (ryO vL p)
def fltO (a z:Int):Obj:=.cells #[.int .i64 a,.iface 27 (.int .i64 z)] 64
section
variable {u u':World} {R:Nat} {vL:Value} {p:Int}
theorem Ry.cells (q:Ry u R vL p):u.cell? ⟨R,0,none⟩=some vL∧u.cell? ⟨R,1,none⟩=some (.int .i64 p):=by
 unfold Ry ryO at q
 refine⟨?_,?_⟩<;>rw[Lib.cell_of_heap q]<;>rfl
theorem Ry.frozen (q:Ry u R vL p) (j:Nat):u.frozen? ⟨R,j,none⟩=false:=Lib.frozen_of_heap q j
theorem Ry.lt (q:Ry u R vL p):R<u.heap.size:=(Array.getElem?_eq_some_iff.1 q).1
theorem Ry.dN (q:Ry u R vL p) (n:Nat):Ry (u.drewN n) R vL p:=q
theorem Ry.at (q:Ry u R vL p) (p':Int):Ry (u.setCell ⟨R,1,none⟩ (.int .i64 p')) R vL p':=heap_setCell_same u R 1 _ _ (.int .i64 p') q
theorem Ry.low (q:Ry u R vL p) (hg:Below u.heap.size u u'):Ry u' R vL p:=(hg.block R q.lt).trans q
theorem Ry.keep (q:Ry u R vL p) {g:Option Nat} (hg:u.grownBy u' g) (hr:some R≠g):Ry u' R vL p:=(hg.block R q.lt hr).trans q
end
def Thr (a z:Int) (x:Ending) (w':World):Prop:=∃ g,x=.panicked [{ v:=.iface 62 (.pointer (some ⟨g,0,none⟩)),recovered:=false }]∧w'.heap[g]?=some (fltO a z)
theorem Zhi {R:Nat} {vL:Value} {p:Nat} (z:Int) (w:World) (q:Ry w R vL (p:Int)) (hp:p≤4398046511104) :
  Calls Tryz.prog 318 #[.pointer (some ⟨R,0,none⟩),.int .i64 z] w fun x w'=>Thr ((p:Int)+1) z x w'∧w.grownBy w' (some R):=by
 obtain⟨c0,c1⟩:=q.cells
 have HQ:Hid ((w.alloc (fltO ((p:Int)+1) z)).heap[w.heap.size]?=some (fltO ((p:Int)+1) z)∧w.grownBy (w.alloc (fltO ((p:Int)+1) z)) (some R)):=⟨heap_alloc_new w _,World.grownBy_alloc w _ _⟩
 clear q
 go_enter Tryz.func318,Tryz.ntmps318
 go_wp2
 exact⟨rfl,⟨_,rfl,HQ.out.1⟩,HQ.out.2⟩
def LnQ (R:Nat) (_vL:Value) (_p:Nat) (X:Except (Nat × Int) (List UInt8 × List (List UInt8))) (w:World) (x:Ending) (w':World):Prop :=
 match X with
 | .error (a,e)=>Thr (a:Int) e x w'∧w.grownBy w' (some R)
 | .ok (s,_)=>x=.returned (.string ⟨(s++[10]).toArray⟩)∧∃ n,w'=w.drewN n
theorem ZcM {s:List UInt8} (h:fdB s=true):s.dropLast++[10]=s:=(Zdd h).symm
theorem ZgX {R:Nat} {L:List (List UInt8)} {lo:Option Addr} {lc:Nat} {p:Nat} (w:World) (q:Ry w R (.slice lo L.length lc) p) (hL:HS w (.slice lo L.length lc) L) (hp:p≤L.length) (hLl:L.length≤2199023255552) (hs:∀ s∈L,s.length≤1099511627776)
  (X:Except (Nat × Int) (List UInt8 × List (List UInt8))) (HX:Hid (nxt p (L.drop p)=X)) :
  Calls Tryz.prog 317 #[.pointer (some ⟨R,0,none⟩)] w fun x w'=>LnQ R (.slice lo L.length lc) p X w x w':=by
 have hX:=HX.out
 clear HX
 by_cases hlt:p<L.length
 ·rw[Zhm hlt] at hX
  obtain⟨bk,off,rfl,hbk,hcl⟩:=HS.at hL (by omega)
  have d4:=hcl p hlt
  have hsl:=hs L[p] (List.getElem_mem _)
  generalize L[p]=s at d4 hsl hX
  clear hcl hs hL
  obtain⟨c0,c1⟩:=q.cells
  have e0:((p:Int) == (L.length:Int))=false:=beq_eq_false_iff_ne.2 (by omega)
  have i1:(0:Int)≤(p:Int):=by omega
  have i2:(p:Int)<(L.length:Int):=by omega
  have i3:(p:Int).toNat=p:=by omega
  cases hf:fdB s with
  | true =>
   rw[if_pos hf] at hX
   subst hX
   have HD:Hid (s.dropLast++[10]=s):=ZcM hf
   clear q
   go_enter Tryz.func317,Tryz.ntmps317
   go_wp2_with fail
   go_quiet (fail)
   go_wp2_with fail
   have c0':(w.drewN nq).cell? ⟨R,0,none⟩=_:=c0
   have c1':(w.drewN nq).cell? ⟨R,1,none⟩=_:=c1
   have d4':(w.drewN nq).cell? ⟨bk,off+p,none⟩=_:=d4
   have HM:Hid (∀ n,∃ k,(w.drewN nq).drewN n=w.drewN k):=fun n=>⟨_,World.drewN_drewN w nq n⟩
   clear c0 c1 d4
   generalize w.drewN nq=W1 at c0' c1' d4' HM ⊢
   have j1:(0:Int)≤(p:Int):=by omega
   have j2:(p:Int)<(L.length:Int):=by omega
   have j3:(p:Int).toNat=p:=by omega
   go_quiet (fail)
   go_wp2_with fail
   refine (Tryz.strings_HasSuffix ⟨s.toArray⟩ ⟨#[10]⟩ _ (by show s.length≤_;omega)).mono ?_
   rintro e w2 ⟨rfl,rfl⟩
   have e1:Lib.hasSuffix (⟨s.toArray⟩:ByteArray).data.toList (⟨#[10]⟩:ByteArray).data.toList=true:=(ZkK s).trans hf
   rw[e1]
   clear e1 hf
   go_wp2
   go_ret
   refine⟨?_,HM.out _⟩
   rw[HD.out]
   rfl
  | false =>
   rw[if_neg (by rw[hf];decide)] at hX
   subst hX
   have q0:=q
   clear q
   go_enter Tryz.func317,Tryz.ntmps317
   go_wp2_with fail
   go_quiet (fail)
   go_wp2_with fail
   have c0':(w.drewN nq).cell? ⟨R,0,none⟩=_:=c0
   have c1':(w.drewN nq).cell? ⟨R,1,none⟩=_:=c1
   have d4':(w.drewN nq).cell? ⟨bk,off+p,none⟩=_:=d4
   have HM:Hid (∀ n,w.grownBy ((w.drewN nq).drewN n) (some R)):=fun n=>ZdP (ZdP (ZfO (Below.refl _ _) _) nq) n
   have HQ:Hid (∀ n,Ry ((w.drewN nq).drewN n) R (.slice (some ⟨bk,off,none⟩) L.length lc) p):=fun n=>(q0.dN nq).dN n
   clear c0 c1 d4 q0
   generalize w.drewN nq=W1 at c0' c1' d4' HM HQ ⊢
   have j1:(0:Int)≤(p:Int):=by omega
   have j2:(p:Int)<(L.length:Int):=by omega
   have j3:(p:Int).toNat=p:=by omega
   go_quiet (fail)
   go_wp2_with fail
   refine (Tryz.strings_HasSuffix ⟨s.toArray⟩ ⟨#[10]⟩ _ (by show s.length≤_;omega)).mono ?_
   rintro e w2 ⟨rfl,rfl⟩
   have e1:Lib.hasSuffix (⟨s.toArray⟩:ByteArray).data.toList (⟨#[10]⟩:ByteArray).data.toList=false:=(ZkK s).trans hf
   rw[e1]
   clear e1 hf
   go_wp2_with fail
   refine (Zhi 3 _ (HQ.out _) (by omega)).mono ?_
   rintro e w3 ⟨⟨g,rfl,hg⟩,hgr⟩
   go_wp2
   exact⟨rfl,⟨_,rfl,hg⟩,ZdT (HM.out _) hgr⟩
 ·rw[Zhn (by omega)] at hX
  subst hX
  obtain⟨c0,c1⟩:=q.cells
  have e0:((p:Int) == (L.length:Int))=true:=beq_iff_eq.2 (by omega)
  have HM:Hid (∀ n,w.grownBy (w.drewN n) (some R)):=fun n=>ZdP (ZfO (Below.refl _ _) _) n
  have HQ:Hid (∀ n,Ry (w.drewN n) R (.slice lo L.length lc) p):=fun n=>q.dN n
  clear q hs hL
  go_enter Tryz.func317,Tryz.ntmps317
  go_wp2_with fail
  go_quiet (fail)
  go_wp2_with fail
  refine (Zhi 1 _ (HQ.out _) (by omega)).mono ?_
  rintro e w3 ⟨⟨g,rfl,hg⟩,hgr⟩
  go_wp2
  exact⟨rfl,⟨_,rfl,hg⟩,ZdT (HM.out _) hgr⟩
end

section
open Ln
def rdL (sg:List UInt8) (S:Int):Nat→Nat→List (List UInt8)→Except (Nat × Int) (List Mk × Nat × List (List UInt8))
 | 0,p,ls=>.ok ([],p,ls)
 | n+1,p,ls=>match nxt p ls with
  | .error e=>.error e
  | .ok (s,r)=>if sg.isPrefixOf s=true then match rdL sg S n (p+1) r with
    | .error e=>.error e
    | .ok (l,p2,r2)=>.ok (⟨S,s.drop sg.length++[10]⟩::l,p2,r2)
   else .error (p+1,3)
def cutL:List Mk→List Mk
 | []=>[]
 | [m]=>[⟨m.sg,m.tx.dropLast⟩]
 | m::l=>m::cutL l
def lastT (l:List Mk):List UInt8:=(l.getLast?.map (·.tx)).getD []
def endK (l:List Mk) (r:List (List UInt8)):Bool:=lastT l != [10] && pkM r
def sdC (sg:List UInt8) (S:Int) (n p:Nat) (ls:List (List UInt8)):Except (Nat × Int) (List Mk × Nat × List (List UInt8)) :=
 match rdL sg S n p ls with
 | .error e=>.error e
 | .ok (l,p1,r)=>if (decide (0<n) && endK l r)=true then .ok (cutL l,p1+1,r.tail) else .ok (l,p1,r)
def hkK (k p:Nat) (ls:List (List UInt8)):Except (Nat × Int) (Hk × Nat × List (List UInt8)) :=
 match nxt p ls with
 | .error e=>.error e
 | .ok (s,r)=>match cmdP s with
  | none=>.error (p+1,3)
  | some (A,AN,B,BN)=>if k=4096 then .error (p+1,9) else match sdC [60,32] 45 AN.toNat (p+1) r with
   | .error e=>.error e
   | .ok (l1,p1,r1)=>match (if 0<AN∧0<BN then sepP p1 r1 else .ok (p1,r1)) with
    | .error e=>.error e
    | .ok (p2,r2)=>match sdC [62,32] 43 BN.toNat p2 r2 with
     | .error e=>.error e
     | .ok (l2,p3,r3)=>.ok (⟨A,AN,B,BN,l1++l2⟩,p3,r3)
def hksK:Nat→Nat→Nat→List (List UInt8)→Except (Nat × Int) (List Hk)
 | 0,_,_,_=>.ok []
 | f+1,k,p,ls=>if ls=[] then .ok [] else match hkK k p ls with
  | .error e=>.error e
  | .ok (h,p1,r)=>match hksK f (k+1) p1 r with
   | .error e=>.error e
   | .ok l=>.ok (h::l)
def Bad (X Y:Except (Nat × Int) (List Mk × Nat × List (List UInt8))):Prop:=∃ l p r,Y=.ok (l,p,markT::r)∧X=.error (p+1,3)
theorem ZfS {s:List UInt8} (hp:∀ c∈s.dropLast,c≠10) (h:markT.isPrefixOf s=true):s=markT:=by
 rw[List.isPrefixOf_iff_prefix] at h
 obtain⟨t,rfl⟩:=h
 cases t with
 | nil=>simp
 | cons c t =>
  exfalso
  have h1:(10:UInt8)∈(markT++c::t).dropLast:=by
   rw[List.dropLast_append_of_ne_nil (by simp)]
   exact List.mem_append_left _ (by decide)
  exact hp 10 h1 rfl
theorem Zcm {m:Mk} {l:List Mk} (h:l≠[]):cutL (m::l)=m::cutL l:=by
 cases l with
 | nil=>exact absurd rfl h
 | cons y l=>rfl
theorem Zco (l:List Mk) (m:Mk):cutL (l++[m])=l++[⟨m.sg,m.tx.dropLast⟩]:=by
 induction l with
 | nil=>rfl
 | cons x l ih =>
  rw[List.cons_append,Zcm (by simp),ih]
  rfl
theorem Zfs (l:List Mk) (m:Mk):lastT (l++[m])=m.tx:=by simp[lastT]
theorem ZjY (sg:List UInt8) (S:Int) (p:Nat) (ls:List (List UInt8)):sdC sg S 0 p ls=.ok ([],p,ls):=by
 unfold sdC rdL
 rfl
theorem Zfr {m:Mk} {l:List Mk} (h:l≠[]):lastT (m::l)=lastT l:=by
 cases l with
 | nil=>exact absurd rfl h
 | cons y l=>simp[lastT]
theorem Zja {sg:List UInt8} {S:Int} (n:Nat):∀ {p:Nat} {ls:List (List UInt8)} {l:List Mk} {p1:Nat} {r:List (List UInt8)},rdL sg S n p ls=.ok (l,p1,r)→l.length=n∧p1=p+n∧ls.drop n=r∧n≤ls.length:=by
 induction n with
 | zero =>
  intro p ls l p1 r h
  simp only[rdL] at h
  cases h
  exact⟨rfl,rfl,rfl,Nat.zero_le _⟩
 | succ n ih =>
  intro p ls l p1 r h
  simp only[rdL] at h
  split at h
  ·cases h
  ·rename_i s r0 hn
   have hls:=Zhp hn
   split at h
   ·split at h
    ·cases h
    ·rename_i l' q r' hq
     obtain⟨a1,a2,a3,a4⟩:=ih hq
     cases h
     subst hls
     exact⟨by simp[a1],by omega,by simpa using a3,by simp;omega⟩
   ·cases h
theorem Zkk {sg:List UInt8} {S:Int} (n:Nat):∀ {p:Nat} {ls:List (List UInt8)},Plain ls→rdN sg S n p ls=sdC sg S n p ls∨Bad (rdN sg S n p ls) (sdC sg S n p ls):=by
 induction n with
 | zero =>
  intro p ls _
  left
  rw[ZjY]
  rfl
 | succ n ih =>
  intro p ls hP
  unfold sdC
  simp only[rdN,rdL,mkd]
  cases hn:nxt p ls with
  | error e=>left;rfl
  | ok z =>
   obtain⟨s,r⟩:=z
   dsimp only
   have hls:=Zhp hn
   subst hls
   have hPr:Plain r:=fun x hx=>hP x (by simp[hx])
   have hsn:∀ c∈s,c≠10:=by
    have:=hP (s++[10]) (by simp)
    simpa using this
   by_cases hpre:sg.isPrefixOf s=true
   ·rw[if_pos hpre,if_pos hpre]
    cases n with
    | zero =>
     simp only[rdN,rdL]
     have e1:((0:Nat) == 0)=true:=rfl
     rw[e1,Bool.true_and]
     have e2:lastT [(⟨S,s.drop sg.length++[10]⟩:Mk)]=s.drop sg.length++[10]:=rfl
     unfold endK
     rw[e2]
     have e3:decide (0<0+1)=true:=rfl
     rw[e3,Bool.true_and]
     cases hk:pkM r with
     | false =>
      left
      rw[if_neg (by decide),Bool.and_false,if_neg (by decide)]
     | true =>
      rw[if_pos rfl,Bool.and_true]
      by_cases hem:s.drop sg.length=[]
      ·right
       rw[if_pos hem,hem]
       rw[if_neg (by decide)]
       cases r with
       | nil=>cases hk
       | cons y r =>
        have:y=markT:=ZfS (hPr y (by simp)) hk
        subst this
        exact⟨_,_,_,rfl,rfl⟩
      ·left
       have e4:(s.drop sg.length++[10] != [10])=true:=by
        rw[bne_iff_ne]
        intro h
        apply hem
        have:=congrArg List.length h
        simp at this
        exact List.eq_nil_of_length_eq_zero (by simpa using this)
       rw[if_neg hem,e4,if_pos rfl]
       simp[cutL]
    | succ n =>
     have e1:((n+1:Nat) == 0)=false:=rfl
     rw[e1,Bool.false_and,if_neg (by decide)]
     dsimp only
     have hi:=@ih (p+1) r hPr
     unfold sdC at hi
     cases hL:rdL sg S (n+1) (p+1) r with
     | error e =>
      rw[hL] at hi
      left
      rcases hi with hi | ⟨_,_,_,h,_⟩
      ·rw[hi]
      ·cases h
     | ok z =>
      obtain⟨l,p1,r1⟩:=z
      rw[hL] at hi
      dsimp only at hi ⊢
      have hlen:=(Zja _ hL).1
      have hne:l≠[]:=by
       rintro rfl
       simp at hlen
      unfold endK at hi ⊢
      rw[Zfr hne,Zcm hne]
      have e3:decide (0<n+1)=true:=decide_eq_true (by omega)
      have e4:decide (0<n+1+1)=true:=decide_eq_true (by omega)
      rw[e3] at hi
      rw[e4]
      by_cases hb:(true && (lastT l != [10] && pkM r1))=true
      ·rw[if_pos hb] at hi ⊢
       rcases hi with hi | ⟨l',p',r',h,h'⟩
       ·left
        rw[hi]
       ·right
        simp only[Except.ok.injEq,Prod.mk.injEq] at h
        obtain⟨rfl,rfl,h⟩:=h
        exact⟨_,_,r',by rw[h],by rw[h']⟩
      ·rw[if_neg hb] at hi ⊢
       rcases hi with hi | ⟨l',p',r',h,h'⟩
       ·left
        rw[hi]
       ·right
        cases h
        exact⟨_,_,_,rfl,by rw[h']⟩
   ·left
    rw[if_neg hpre,if_neg hpre]
theorem ZjV {sg:List UInt8} {S:Int} {n p:Nat} {ls:List (List UInt8)} {l:List Mk} {p1:Nat} {r:List (List UInt8)} (h:sdC sg S n p ls=.ok (l,p1,r)):∃ j,r=ls.drop j∧p1=p+j∧j≤ls.length:=by
 unfold sdC at h
 split at h
 ·cases h
 ·rename_i l' q r' hq
  obtain⟨a1,a2,a3,a4⟩:=Zja _ hq
  split at h
  ·rename_i hb
   cases h
   have hk:pkM r'=true:=by
    unfold endK at hb
    simp only[Bool.and_eq_true] at hb
    exact hb.2.2
   have h1:0<r'.length:=by
    cases r' with
    | nil=>cases hk
    | cons=>simp
   rw[← a3,List.length_drop] at h1
   exact⟨n+1,by rw[← a3,List.tail_drop],by omega,by omega⟩
  ·cases h
   exact⟨n,a3.symm,a2,a4⟩
theorem Zcn (l:List Mk):(cutL l).length=l.length:=by
 induction l with
 | nil=>rfl
 | cons m l ih =>
  cases l with
  | nil=>rfl
  | cons y l=>rw[Zcm (by simp),List.length_cons,ih];rfl
theorem ZjX {sg:List UInt8} {S:Int} {n p:Nat} {ls:List (List UInt8)} {l:List Mk} {p1:Nat} {r:List (List UInt8)} (h:sdC sg S n p ls=.ok (l,p1,r)):l.length=n:=by
 unfold sdC at h
 split at h
 ·cases h
 ·rename_i l' q r' hq
  obtain⟨a1,a2,a3,a4⟩:=Zja _ hq
  split at h
  ·cases h
   rw[Zcn,a1]
  ·cases h
   exact a1
theorem Zkb {p p1:Nat} {ls r:List (List UInt8)} (h:sepP p ls=.ok (p1,r)):r=ls.drop 1∧p1=p+1∧1≤ls.length:=by
 unfold sepP at h
 split at h
 ·cases h
 ·rename_i s r0 hn
  have:=Zhp hn
  subst this
  split at h
  ·cases h
   exact⟨rfl,rfl,by simp⟩
  ·cases h
theorem Zec {k p p1:Nat} {ls r:List (List UInt8)} {h:Hk} (hh:hkK k p ls=.ok (h,p1,r)):∃ j,r=ls.drop j∧p1=p+j∧1≤j∧j≤ls.length∧k≠4096:=by
 unfold hkK at hh
 split at hh
 ·cases hh
 ·rename_i s r0 hn
  have:=Zhp hn
  subst this
  split at hh
  ·cases hh
  ·split at hh
   ·cases hh
   ·rename_i hk
    split at hh
    ·cases hh
    ·rename_i l1 q1 r1 h1
     obtain⟨j1,b1,b2,b3⟩:=ZjV h1
     split at hh
     ·cases hh
     ·rename_i q2 r2 h2
      have hs:∃ j,r2=r1.drop j∧q2=q1+j∧j≤r1.length:=(by
       split at h2
       ·obtain⟨c1,c2,c3⟩:=Zkb h2
        exact⟨1,c1,c2,c3⟩
       ·cases h2
        exact⟨0,rfl,rfl,Nat.zero_le _⟩)
      obtain⟨j2,c1,c2,c3⟩:=hs
      split at hh
      ·cases hh
      ·rename_i l2 q3 r3 h3
       obtain⟨j3,d1,d2,d3⟩:=ZjV h3
       cases hh
       subst d1 c1 b1
       simp only[List.length_drop] at c3 d3
       refine⟨1+(j1+(j2+j3)),?_,by omega,by omega,by simp only[List.length_cons];omega,hk⟩
       rw[List.drop_drop,List.drop_drop,Nat.add_comm 1,List.drop_succ_cons]
theorem Zix {ls:List (List UInt8)} (h:Plain ls) (j:Nat):Plain (ls.drop j):=fun x hx=>h x (List.mem_of_mem_drop hx)
theorem ZfV (p:Nat) (r:List (List UInt8)):nxt p (markT::r)=.ok (markT.dropLast,r):=rfl
theorem ZfR:cmdP markT.dropLast=none:=by decide +kernel
theorem ZfW (p:Nat) (r:List (List UInt8)):sepP p (markT::r)=.error (p+1,3):=by
 unfold sepP
 rw[ZfV]
 rfl
theorem ZfT (k p:Nat) (r:List (List UInt8)):hkK k p (markT::r)=.error (p+1,3)∧hkP k p (markT::r)=.error (p+1,3):=by
 unfold hkK hkP
 rw[ZfV]
 dsimp only
 rw[ZfR]
 exact⟨rfl,rfl⟩
theorem Zef {k p:Nat} {ls:List (List UInt8)} (hP:Plain ls) (hk:k≤4096):hkP k p ls=hkK k p ls∨∃ h p1 r,hkK k p ls=.ok (h,p1,markT::r)∧hkP k p ls=.error (p1+1,3):=by
 unfold hkP hkK
 cases hn:nxt p ls with
 | error e=>left;rfl
 | ok z =>
  obtain⟨s,r⟩:=z
  dsimp only
  have hls:=Zhp hn
  subst hls
  have hPr:Plain r:=fun x hx=>hP x (by simp[hx])
  cases hc:cmdP s with
  | none=>left;rfl
  | some z =>
   obtain⟨A,AN,B,BN⟩:=z
   dsimp only
   by_cases hk2:k=4096
   ·left
    rw[if_pos (by omega),if_pos hk2]
   ·rw[if_neg (by omega),if_neg hk2]
    have hr:=ZbI hc
    rcases @Zkk [60,32] 45 AN.toNat (p+1) r hPr with h1 | ⟨l,q,r',h1,h2⟩
    ·rw[h1]
     cases hs:sdC [60,32] 45 AN.toNat (p+1) r with
     | error e=>left;rfl
     | ok z =>
      obtain⟨l1,p1,r1⟩:=z
      dsimp only
      obtain⟨j,b1,_,_⟩:=ZjV hs
      have hP1:Plain r1:=by rw[b1];exact Zix hPr j
      cases hp:(if 0<AN∧0<BN then sepP p1 r1 else Except.ok (p1,r1)) with
      | error e=>left;rfl
      | ok z =>
       obtain⟨p2,r2⟩:=z
       dsimp only
       have hP2:Plain r2:=(by
        split at hp
        ·obtain⟨c1,_,_⟩:=Zkb hp
         rw[c1]
         exact Zix hP1 1
        ·cases hp
         exact hP1)
       rcases @Zkk [62,32] 43 BN.toNat p2 r2 hP2 with h3 | ⟨l,q,r',h3,h4⟩
       ·left
        rw[h3]
        cases sdC [62,32] 43 BN.toNat p2 r2<;>rfl
       ·right
        rw[h3,h4]
        exact⟨_,_,_,rfl,rfl⟩
    ·rw[h1,h2]
     dsimp only
     by_cases hb:0<AN∧0<BN
     ·left
      rw[if_pos hb,ZfW]
     ·rw[if_neg hb]
      dsimp only
      have hBN:BN.toNat=0:=(by
       have hA:AN.toNat≠0:=(by
        intro h0
        rw[h0] at h2
        cases h2)
       omega)
      rw[hBN,ZjY]
      right
      exact⟨_,_,_,rfl,rfl⟩
theorem Zek (f:Nat):∀ {k p:Nat} {ls:List (List UInt8)},Plain ls→ls.length≤f→k≤4096→hksP f k p ls=hksK f k p ls:=by
 induction f with
 | zero=>intros;rfl
 | succ f ih =>
  intro k p ls hP hf hk
  simp only[hksP,hksK]
  by_cases h0:ls=[]
  ·rw[if_pos h0,if_pos h0]
  ·rw[if_neg h0,if_neg h0]
   rcases @Zef k p ls hP hk with h | ⟨h,p1,r,h1,h2⟩
   ·rw[h]
    cases hc:hkK k p ls with
    | error e=>rfl
    | ok z =>
     obtain⟨h',p1,r⟩:=z
     obtain⟨j,b1,b2,b3,b4,b5⟩:=Zec hc
     dsimp only
     rw[@ih (k+1) p1 r (by rw[b1];exact Zix hP j) (by rw[b1,List.length_drop];omega) (by omega)]
     cases hksK f (k+1) p1 r<;>rfl
   ·rw[h1,h2]
    dsimp only
    obtain⟨j,b1,b2,b3,b4,b5⟩:=Zec h1
    have hl:(markT::r).length≤f:=by rw[b1,List.length_drop];omega
    cases f with
    | zero=>simp at hl
    | succ f =>
     simp only[hksK]
     rw[if_neg (by simp),(ZfT (k+1) p1 r).1]
theorem ZiF (t:List UInt8):prsT t=if 1048576<t.length then .error (0,9) else hksK (splitL t).length 0 0 (splitL t):=by
 unfold prsT
 split
 ·rfl
 ·exact Zek _ (Zkx t) (Nat.le_refl _) (by omega)
end

section
open Go.RowKit
attribute [local go_sem] ByteArray.extract_mk Zhc
structure Fr (B R:Nat) (w w':World):Prop where
 os:w'.os=w.os
 tape:w'.tape=w.tape
 output:w'.output=w.output
 size:w.heap.size≤w'.heap.size
 block:∀ k,k<B→k≠R→w'.heap[k]?=w.heap[k]?
theorem Fr.refl (B R:Nat) (w:World):Fr B R w w:=⟨rfl,rfl,rfl,Nat.le_refl _,fun _ _ _=>rfl⟩
theorem Fr.trans {B R:Nat} {w u v:World} (h:Fr B R w u) (h':Fr B R u v):Fr B R w v:=⟨h'.os.trans h.os,h'.tape.trans h.tape,h'.output.trans h.output,Nat.le_trans h.size h'.size,fun k h1 h2=>(h'.block k h1 h2).trans (h.block k h1 h2)⟩
theorem Fr.of {B R:Nat} {w u:World} (h:w.grownBy u (some R)) (hB:B≤w.heap.size):Fr B R w u:=⟨h.os,h.tape,h.output,h.size,fun k h1 h2=>h.block k (Nat.lt_of_lt_of_le h1 hB) (fun e=>h2 (Option.some.inj e))⟩
theorem Fr.own {B R:Nat} {w u:World} {g:Option Nat} (h:w.grownBy u g) (hB:B≤w.heap.size) (hg:∀ j,g=some j→B≤j):Fr B R w u:=⟨h.os,h.tape,h.output,h.size,fun k h1 _=>h.block k (Nat.lt_of_lt_of_le h1 hB) (fun e=>by have:=hg k e.symm;omega)⟩
theorem Fr.low {B R:Nat} {w u:World} (h:Below w.heap.size w u) (hB:B≤w.heap.size):Fr B R w u:=Fr.of (ZfO h _) hB
theorem Fr.grown {R:Nat} {w u:World} (h:Fr w.heap.size R w u):w.grownBy u (some R):=⟨h.os,h.tape,h.output,h.size,fun k h1 h2=>h.block k h1 (fun e=>h2 (by rw[e]))⟩
def SpQ (R:Nat) (vL:Value) (X:Except (Nat × Int) (Nat × List (List UInt8))) (w:World) (x:Ending) (w':World):Prop :=
 match X with
 | .error (a,e)=>Thr (a:Int) e x w'∧w.grownBy w' (some R)
 | .ok (p1,_)=>x=.returned (.tuple #[])∧Ry w' R vL (p1:Int)∧w.grownBy w' (some R)
theorem ZgO {R:Nat} {L:List (List UInt8)} {lo:Option Addr} {lc:Nat} {p:Nat} (w:World) (q:Ry w R (.slice lo L.length lc) p) (hL:HS w (.slice lo L.length lc) L) (hp:p≤L.length) (hLl:L.length≤2199023255552) (hs:∀ s∈L,s.length≤1099511627776)
  (X:Except (Nat × Int) (Nat × List (List UInt8))) (HX:Hid (sepP p (L.drop p)=X)) :
  Calls Tryz.prog 320 #[.pointer (some ⟨R,0,none⟩)] w fun x w'=>SpQ R (.slice lo L.length lc) X w x w':=by
 obtain⟨Y,hY⟩:∃ Y,nxt p (L.drop p)=Y:=⟨_,rfl⟩
 have hl:=ZgX w q hL hp hLl hs Y hY
 have hX:=HX.out
 clear HX
 unfold sepP at hX
 rw[hY] at hX
 cases Y with
 | error z =>
  obtain⟨a,e⟩:=z
  dsimp only at hX
  subst hX
  go_enter Tryz.func320,Tryz.ntmps320
  go_wp2_with fail
  refine hl.mono ?_
  rintro x w1 ⟨⟨g,rfl,hg⟩,hgr⟩
  go_wp2
  exact⟨rfl,⟨_,rfl,hg⟩,hgr⟩
 | ok z =>
  obtain⟨s,r⟩:=z
  dsimp only at hX
  by_cases h:s=[45,45,45]
  ·rw[if_pos h] at hX
   subst hX h
   go_enter Tryz.func320,Tryz.ntmps320
   go_wp2_with fail
   refine hl.mono ?_
   rintro x w1 ⟨rfl,n,rfl⟩
   have q1:=q.dN n
   have g1:=ZdP (ZfO (Below.refl w.heap.size w) (some R)) n
   generalize w.drewN n=W1 at q1 g1 ⊢
   obtain⟨c0,c1⟩:=q1.cells
   have f1:=q1.frozen 1
   have HQ:Hid (Ry (W1.setCell ⟨R,1,none⟩ (.int .i64 ((p:Int)+1))) R (.slice lo L.length lc) (((p+1:Nat)):Int)∧w.grownBy (W1.setCell ⟨R,1,none⟩ (.int .i64 ((p:Int)+1))) (some R)):=⟨by have:=q1.at ((p:Int)+1);simpa using this,ZdT g1 (ZdS W1 R 1 _)⟩
   clear q q1 g1 hl hY
   go_wp2
   first
    | go_end0
    | refine bodyPost_ret (results_none rfl _ _ _) rfl ?_
    | refine bodyPost_end (results_none rfl _ _ _) rfl ?_
   exact⟨rfl,HQ.out⟩
  ·rw[if_neg h] at hX
   subst hX
   have hne:(s++[10] == [45,45,45,10])=false:=(by
    rw[beq_eq_false_iff_ne]
    intro e
    have e2:s++[10]=[45,45,45]++[10]:=e
    exact h (List.append_cancel_right e2))
   have q1:=fun n=>q.dN n
   have g1:=fun n=>ZdP (ZfO (Below.refl w.heap.size w) (some R)) n
   go_enter Tryz.func320,Tryz.ntmps320
   go_wp2_with fail
   refine hl.mono ?_
   rintro x w1 ⟨rfl,n,rfl⟩
   go_wp2_with fail
   refine (Zhi 3 _ (q1 n) (by omega)).mono ?_
   rintro e w3 ⟨⟨g,rfl,hg⟩,hgr⟩
   go_wp2
   exact⟨rfl,⟨_,rfl,by simpa using hg⟩,ZdT (g1 n) hgr⟩
end

section
open Go.RowKit
attribute [local go_sem] ByteArray.extract_mk Zhc
theorem Zim {L:List (List UInt8)} (hP:Plain L) {p:Nat} (h:p<L.length):pkM (L.drop p)=(L[p] == markT):=by
 rw[List.drop_eq_getElem_cons h]
 unfold pkM
 rw[Bool.eq_iff_iff,beq_iff_eq]
 constructor
 ·intro q
  exact ZfS (hP _ (List.getElem_mem h)) q
 ·intro q
  rw[q]
  show markT.isPrefixOf markT=true
  decide
theorem ZgP {R g o:Nat} {L:List (List UInt8)} {lo:Option Addr} {lc:Nat} {p:Nat} (w:World) (q:Ry w R (.slice lo L.length lc) p) (hL:HS w (.slice lo L.length lc) L) (hPl:Plain L) (hp:p≤L.length) (hLl:L.length≤2199023255552)
  (t:List UInt8) (ct:w.cell? ⟨g,o+1,none⟩=some (.string ⟨t.toArray⟩)) (HB:Hid ((t != [10] && pkM (L.drop p))=false)) :
  Calls Tryz.prog 340 #[.pointer (some ⟨R,0,none⟩),.pointer (some ⟨g,o,none⟩)] w fun x w'=>x=.returned (.tuple #[])∧∃ n,w'=w.drewN n:=by
 obtain⟨c0,c1⟩:=q.cells
 by_cases ht:t=[10]
 ·subst ht
  clear HB hL q
  go_enter Tryz.func340,Tryz.ntmps340
  go_wp2_with fail
  go_quiet (fail)
  go_wp2
  first
   | go_end0
   | refine bodyPost_ret (results_none rfl _ _ _) rfl ?_
   | refine bodyPost_end (results_none rfl _ _ _) rfl ?_
  exact⟨rfl,_,rfl⟩
 ·have e1:(t == [10])=false:=beq_eq_false_iff_ne.2 ht
  by_cases hlt:p<L.length
  ·have hm:(L[p] == markT)=false:=(by
    have h:=HB.out
    rw[Zim hPl hlt] at h
    have:(t != [10])=true:=bne_iff_ne.2 ht
    rw[this,Bool.true_and] at h
    exact h)
   obtain⟨bk,off,rfl,hbk,hcl⟩:=HS.at hL (by omega)
   have d4:=hcl p hlt
   generalize L[p]=s at d4 hm
   have hm2:(s == [92,32,78,111,32,110,101,119,108,105,110,101,32,97,116,32,101,110,100,32,111,102,32,102,105,108,101,10])=false:=hm
   have hm3:(s != [92,32,78,111,32,110,101,119,108,105,110,101,32,97,116,32,101,110,100,32,111,102,32,102,105,108,101,10])=true:=(by unfold bne;rw[hm2];rfl)
   have e0:((p:Int) == (L.length:Int))=false:=beq_eq_false_iff_ne.2 (by omega)
   clear HB hL q hcl hm hPl
   have i1:(0:Int)≤(p:Int):=by omega
   have i2:(p:Int)<(L.length:Int):=by omega
   have i3:(p:Int).toNat=p:=by omega
   go_enter Tryz.func340,Tryz.ntmps340
   go_wp2_with fail
   go_quiet (fail)
   go_wp2
   first
    | go_end0
    | refine bodyPost_ret (results_none rfl _ _ _) rfl ?_
    | refine bodyPost_end (results_none rfl _ _ _) rfl ?_
   exact⟨rfl,_,rfl⟩
  ·have e0:((p:Int) == (L.length:Int))=true:=beq_iff_eq.2 (by omega)
   clear HB hL q hPl
   go_enter Tryz.func340,Tryz.ntmps340
   go_wp2_with fail
   go_quiet (fail)
   go_wp2
   first
    | go_end0
    | refine bodyPost_ret (results_none rfl _ _ _) rfl ?_
    | refine bodyPost_end (results_none rfl _ _ _) rfl ?_
   exact⟨rfl,_,rfl⟩
theorem ZgQ {R g o:Nat} {L:List (List UInt8)} {lo:Option Addr} {lc:Nat} {p:Nat} (w:World) (q:Ry w R (.slice lo L.length lc) p) (hL:HS w (.slice lo L.length lc) L) (hPl:Plain L) (hLl:L.length≤2199023255552) (hgR:R≠g)
  (T t:List UInt8) (HTt:Hid (T=t++[10])) (htl:T.length≤1099511627776) (ct:w.cell? ⟨g,o+1,none⟩=some (.string ⟨T.toArray⟩)) (cf:w.frozen? ⟨g,o+1,none⟩=false) (HB:Hid ((T != [10] && pkM (L.drop p))=true)) :
  Calls Tryz.prog 340 #[.pointer (some ⟨R,0,none⟩),.pointer (some ⟨g,o,none⟩)] w fun x w'=>x=.returned (.tuple #[])∧∃ n,w'=((w.drewN n).setCell ⟨g,o+1,none⟩ (.string ⟨t.toArray⟩)).setCell ⟨R,1,none⟩ (.int .i64 ((p:Int)+1)):=by
 obtain⟨c0,c1⟩:=q.cells
 have hb:=HB.out
 rw[Bool.and_eq_true] at hb
 have hlt:p<L.length:=(by
  by_cases h:p<L.length
  ·exact h
  ·have e:L.drop p=[]:=List.drop_eq_nil_of_le (by omega)
   rw[e] at hb
   cases hb.2)
 have e1:(T == [10])=false:=(by
  have:=bne_iff_ne.1 hb.1
  exact beq_eq_false_iff_ne.2 this)
 have hm:L[p]=markT:=(by
  have h:=hb.2
  rw[Zim hPl hlt,beq_iff_eq] at h
  exact h)
 obtain⟨bk,off,rfl,hbk,hcl⟩:=HS.at hL (by omega)
 have d4:=hcl p hlt
 rw[hm] at d4
 have e0:((p:Int) == (L.length:Int))=false:=beq_eq_false_iff_ne.2 (by omega)
 have f1:=q.frozen 1
 have HTS:Hid (Lib.trimSuffix T [10]=t):=(by
  show _=_
  rw[HTt.out]
  unfold Lib.trimSuffix
  rw[ZkK,if_pos (Zdf t)]
  simp)
 unfold markT at d4
 clear HB hL q hcl hm hPl hb
 have i1:(0:Int)≤(p:Int):=by omega
 have i2:(p:Int)<(L.length:Int):=by omega
 have i3:(p:Int).toNat=p:=by omega
 go_enter Tryz.func340,Tryz.ntmps340
 go_wp2_with fail
 go_quiet (fail)
 go_wp2_with fail
 have c1':(w.drewN nq).cell? ⟨R,1,none⟩=_:=c1
 have ct':(w.drewN nq).cell? ⟨g,o+1,none⟩=_:=ct
 have cf':(w.drewN nq).frozen? ⟨g,o+1,none⟩=false:=cf
 have f1':(w.drewN nq).frozen? ⟨R,1,none⟩=false:=f1
 have HM:Hid (∃ k,w.drewN nq=w.drewN k):=⟨_,rfl⟩
 clear c0 c1 d4 ct cf f1
 generalize w.drewN nq=W1 at c1' ct' cf' f1' HM ⊢
 refine (Tryz.strings_TrimSuffix ⟨T.toArray⟩ ⟨#[10]⟩ W1 (by show T.length≤_;omega)).mono ?_
 rintro e w2 ⟨rfl,rfl⟩
 have e2:Lib.trimSuffix (⟨T.toArray⟩:ByteArray).data.toList (⟨#[10]⟩:ByteArray).data.toList=t:=HTS.out
 rw[e2]
 clear e2
 have c1'':(w2.setCell ⟨g,o+1,none⟩ (.string ⟨t.toArray⟩)).cell? ⟨R,1,none⟩=some (.int .i64 (p:Int)):=(by
  have h:=(ZdS w2 g (o+1) (.string ⟨t.toArray⟩)).cell c1' (fun e=>hgR (Option.some.inj e))
  exact h)
 have f1'':(w2.setCell ⟨g,o+1,none⟩ (.string ⟨t.toArray⟩)).frozen? ⟨R,1,none⟩=false:=(by
  unfold World.frozen? at f1' ⊢
  dsimp only at f1' ⊢
  rw[Below.heap_setCell _ _ _ R hgR]
  exact f1')
 go_wp2
 first
  | go_end0
  | refine bodyPost_ret (results_none rfl _ _ _) rfl ?_
  | refine bodyPost_end (results_none rfl _ _ _) rfl ?_
 obtain⟨k,hk⟩:=HM.out
 exact⟨rfl,k,by rw[← hk]⟩
end

section
open Go.RowKit
attribute [local go_sem] ByteArray.extract_mk Zhc
theorem ZhI {w u:World} {B R:Nat} {e:TypeId} {s:Nat} {v:Value} {n:Nat} {xs:List Value} (h:w.ownsRow B e s v n xs) (hg:w.grownBy u (some R)) (hR:R<B):u.ownsRow B e s v n xs:=by
 refine⟨h.1,?_⟩
 rcases h.2 with q | ⟨g,cap,cur,rfl,q2,q3,q4⟩
 ·exact .inl q
 ·refine .inr ⟨g,cap,cur,rfl,q2,?_,q4⟩
  rw[hg.block g (Array.getElem?_eq_some_iff.1 q3).1 (fun e=>by cases e;omega)]
  exact q3
theorem ZhL {w:World} {B:Nat} {v:Value} {l:List Mk} {m:Mk} (h:w.ownsRow B 47 2 v (l.length+1) (mkcells (l++[m]))):∃ g cap,v=.slice (some ⟨g,0,none⟩) (l.length+1) cap∧B≤g∧g<w.heap.size∧w.cell? ⟨g,l.length * 2+1,none⟩=some (.string ⟨m.tx.toArray⟩)∧w.frozen? ⟨g,l.length * 2+1,none⟩=false ∧
  ∀ (u:World) (t:List UInt8),u.heap[g]?=w.heap[g]?→(u.setCell ⟨g,l.length * 2+1,none⟩ (.string ⟨t.toArray⟩)).ownsRow B 47 2 v (l.length+1) (mkcells (l++[⟨m.sg,t⟩])):=by
 rcases h.2 with ⟨_,q⟩ | ⟨g,cap,cur,rfl,q2,q3,q4,q5,q6,q7⟩
 ·omega
 ·have hmk:∀ x:Mk,mkcells (l++[x])=mkcells l++[.int .u8 x.sg,.string ⟨x.tx.toArray⟩]:=fun x=>by rw[Zgl];rfl
  have hl:=Zgo l
  have hcur:cur.toList.take ((l.length+1) * 2)=mkcells l++[.int .u8 m.sg,.string ⟨m.tx.toArray⟩]:=by rw[q7,hmk]
  have hcell:cur[l.length * 2+1]?=some (.string ⟨m.tx.toArray⟩):=by
   have h1:(cur.toList.take ((l.length+1) * 2))[l.length * 2+1]?=some (.string ⟨m.tx.toArray⟩):=by
    rw[hcur,List.getElem?_append_right (by omega),hl]
    have:l.length * 2+1-l.length * 2=1:=by omega
    rw[this]
    rfl
   rw[List.getElem?_take_of_lt (by omega)] at h1
   simpa using h1
  refine⟨g,cap,rfl,q2,(Array.getElem?_eq_some_iff.1 q3).1,?_,Lib.frozen_of_heap q3 _,?_⟩
  ·rw[Lib.cell_of_heap q3]
   exact hcell
  ·intro u t hu
   have hs:=heap_setCell_same u g (l.length * 2+1) cur _ (.string ⟨t.toArray⟩) (hu.trans q3)
   refine⟨by rw[Zgo];simp,.inr ⟨g,cap,_,rfl,q2,hs,q4,q5,by simpa using q6,?_⟩⟩
   rw[hmk]
   have e1:(cur.setIfInBounds (l.length * 2+1) (.string ⟨t.toArray⟩)).toList=cur.toList.set (l.length * 2+1) (.string ⟨t.toArray⟩):=by simp
   rw[e1,List.take_set,hcur,List.set_append_right _ _ (by omega),hl]
   have:l.length * 2+1-l.length * 2=1:=by omega
   rw[this]
   rfl
theorem ZiE {sg s:List UInt8} (h:∀ c∈sg,c≠10):Lib.hasPrefix (s++[10]) sg=sg.isPrefixOf s:=by
 unfold Lib.hasPrefix
 rw[Bool.eq_iff_iff,List.isPrefixOf_iff_prefix,List.isPrefixOf_iff_prefix]
 constructor
 ·intro hp
  have hp2:=List.prefix_iff_eq_take.1 hp
  by_cases hl:sg.length≤s.length
  ·rw[List.take_append_of_le_length hl] at hp2
   exact List.prefix_iff_eq_take.2 hp2
  ·exfalso
   have h3:(s++[10]).take sg.length=s++[10]:=List.take_of_length_le (by simp;omega)
   rw[h3] at hp2
   exact h 10 (by rw[hp2];simp) rfl
 ·rintro⟨t,rfl⟩
  exact⟨t++[10],by simp⟩
theorem ZkU {sg s:List UInt8} (h:∀ c∈sg,c≠10) (hp:sg.isPrefixOf s=true):Lib.trimPrefix (s++[10]) sg=s.drop sg.length++[10]:=by
 unfold Lib.trimPrefix
 rw[ZiE h,if_pos hp,List.drop_append_of_le_length]
 exact (List.isPrefixOf_iff_prefix.1 hp).length_le
def SdQ (B R:Nat) (vL:Value) (m0:List Mk) (X:Except (Nat × Int) (List Mk × Nat × List (List UInt8))) (w:World) (x:Ending) (w':World):Prop :=
 match X with
 | .error (a,e)=>Thr (a:Int) e x w'∧Fr B R w w'
 | .ok (l,p1,_)=>∃ v',x=.returned v'∧w'.ownsRow B 47 2 v' (m0++l).length (mkcells (m0++l))∧Ry w' R vL (p1:Int)∧Fr B R w w'
def thenL (m:List Mk) (X:Except (Nat × Int) (List Mk × Nat × List (List UInt8))):Except (Nat × Int) (List Mk × Nat × List (List UInt8)) :=
 match X with
 | .error e=>.error e
 | .ok (l,p1,r)=>.ok (m++l,p1,r)
theorem ZkM (X:Except (Nat × Int) (List Mk × Nat × List (List UInt8))):thenL [] X=X:=by
 unfold thenL
 rcases X with e | ⟨l,p,r⟩<;>rfl
theorem Zjb {sg:List UInt8} {S:Int} {n p:Nat} {ls r:List (List UInt8)} {s:List UInt8} (h:nxt p ls=.ok (s,r)) (m:List Mk):thenL m (rdL sg S (n+1) p ls)=if sg.isPrefixOf s=true then thenL (m++[⟨S,s.drop sg.length++[10]⟩]) (rdL sg S n (p+1) r) else .error (p+1,3):=by
 simp only[rdL]
 rw[h]
 dsimp only
 split
 ·cases rdL sg S n (p+1) r with
  | error e=>rfl
  | ok z=>simp[thenL]
 ·rfl
theorem Zhr {p:Nat} {L r:List (List UInt8)} {s:List UInt8} (h:nxt p (L.drop p)=.ok (s,r)):r=L.drop (p+1)∧p<L.length∧∃ hp:p<L.length,L[p]=s++[10]:=by
 have h1:=Zhp h
 have hp:p<L.length:=by
  by_cases h2:p<L.length
  ·exact h2
  ·rw[List.drop_eq_nil_of_le (by omega)] at h1
   cases h1
 have h3:=List.drop_eq_getElem_cons hp
 rw[h3] at h1
 injection h1 with h4 h5
 exact⟨h5.symm,hp,hp,h4⟩
end

section
open Go.RowKit
attribute [local go_sem] Zhc ByteArray.extract_mk
theorem Zjm {k:IntKind} {a b:Int} (h:a=b):Ending.returned (.int k a)=.returned (.int k b):=by rw[h]
theorem ZdB (s:ByteArray) (k:Nat) (h:k<s.size):s.get! k=s[k]:=by
 simp[ByteArray.get!,getElem!_pos,h]
 rfl
theorem ZcI (s:ByteArray) (pos:Nat) (h:pos<s.size) (ha:128≤(s[pos]'h).toNat) (k:Nat) (hk:k<(Utf8.decode s pos).2):∃ hq:pos+k<s.size,128≤(s[pos+k]'hq).toNat:=by
 by_cases hk0:k=0
 ·subst hk0;exact⟨h,ha⟩
 have hn:¬ (s.get! (pos+0)).toNat<128:=by rw[Nat.add_zero,ZdB s pos h];omega
 have key:∀ j,(decide (pos+j<s.size) && (s.get! (pos+j)).toNat / 64 == 2)=true→∃ hq:pos+j<s.size,128≤(s[pos+j]'hq).toNat:=by
  intro j hj
  simp only[Bool.and_eq_true,decide_eq_true_eq,beq_iff_eq] at hj
  refine⟨hj.1,?_⟩
  rw[← ZdB s (pos+j) hj.1]
  omega
 revert hk
 unfold Utf8.decode
 simp only[hn,if_false]
 split
 ·rename_i h2
  simp only[Bool.and_eq_true] at h2
  split
  ·intro hk
   have:k=1:=by simp at hk;omega
   subst this
   exact key 1 (by simp only[Bool.and_eq_true];exact h2.2)
  ·intro hk;simp at hk;omega
 ·split
  ·rename_i h2
   simp only[Bool.and_eq_true] at h2
   split
   ·intro hk
    have:k=1∨k=2:=by simp at hk;omega
    rcases this with rfl | rfl
    ·exact key 1 (by simp only[Bool.and_eq_true];exact h2.1.2)
    ·exact key 2 (by simp only[Bool.and_eq_true];exact h2.2)
   ·intro hk;simp at hk;omega
  ·split
   ·rename_i h2
    simp only[Bool.and_eq_true] at h2
    split
    ·intro hk
     have:k=1∨k=2∨k=3:=by simp at hk;omega
     rcases this with rfl | rfl | rfl
     ·exact key 1 (by simp only[Bool.and_eq_true];exact h2.1.1.2)
     ·exact key 2 (by simp only[Bool.and_eq_true];exact h2.1.2)
     ·exact key 3 (by simp only[Bool.and_eq_true];exact h2.2)
    ·intro hk;simp at hk;omega
   ·intro hk;simp at hk;omega
theorem ZcP (r:Int) (hv:Utf8.valid r=true) (h128:128≤r):(∃ a b:UInt8,128≤b.toNat∧Utf8.encode r=⟨([a,b]:List UInt8).toArray⟩)∨(∃ a b c:UInt8,128≤c.toNat∧Utf8.encode r=⟨([a,b,c]:List UInt8).toArray⟩)∨(∃ a b c d:UInt8,Utf8.encode r=⟨([a,b,c,d]:List UInt8).toArray⟩):=by
 have hc:¬ r.toNat<128:=by omega
 unfold Utf8.encode
 simp only[hv,if_true,hc,if_false]
 split
 ·refine .inl ⟨_,_,?_,rfl⟩
  simp;omega
 ·split
  ·refine .inr (.inl ⟨_,_,_,?_,rfl⟩)
   simp;omega
  ·exact .inr (.inr ⟨_,_,_,_,rfl⟩)
theorem ZlZ (r:Int) (h:Lib.validRune r=true):Utf8.valid r=true:=by
 simp[Lib.validRune,Utf8.valid] at h ⊢
 omega
theorem ZeE (x:Int) (u:World):Calls Tryz.prog 347 #[.string ⟨#[]⟩,.int .u8 x] u fun e w'=>e=.returned (.int .i64 (-1))∧w'=u:=Tryz.strings_IndexByte ⟨#[]⟩ x u
theorem ZeA (b:UInt8) (hb:128≤b.toNat) (u:World):Calls Tryz.prog 347 #[.string ⟨#[100]⟩,.int .u8 (b.toNat:Int)] u fun e w'=>e=.returned (.int .i64 (-1))∧w'=u:=by
 refine (Tryz.strings_IndexByte ⟨#[100]⟩ (b.toNat:Int) u).mono ?_
 rintro e w' ⟨rfl,rfl⟩
 have e1:((b.toNat:Int).toNat).toUInt8=b:=by simp
 have e2:Lib.indexByte [100] b=-1:=by
  have:((100:UInt8) == b)=false:=by
   rw[beq_eq_false_iff_ne]
   rintro rfl
   simp at hb
  simp[Lib.indexByte,this]
 rw[e1]
 exact⟨by rw[show Lib.indexByte (⟨#[100]⟩:ByteArray).data.toList b=-1 from e2],rfl⟩
theorem Zad (r:Int) (h0:128≤r) (h1:r≤2147483647) (w:World) :
  Calls Tryz.prog 354 #[.string ⟨([97,99,100]:List UInt8).toArray⟩,.int .i32 r] w fun e w'=>e=.returned (.int .i64 (-1))∧Below w.heap.size w w':=by
 by_cases h2:r=65533
 ·subst h2
  have hn0:∀ ty,(Instr.next (.pointer (some ⟨w.heap.size,0,none⟩)) true ty).run Tryz.prog (w.iter ⟨([97,99,100]:List UInt8).toArray⟩ 0)=.ok (.tuple #[.bool true,.int .i64 0,.int .i32 97]) (w.iter ⟨([97,99,100]:List UInt8).toArray⟩ 1):=fun ty=>run_next_ascii w ⟨([97,99,100]:List UInt8).toArray⟩ 0 ty (by decide) (by decide)
  have hn1:∀ ty,(Instr.next (.pointer (some ⟨w.heap.size,0,none⟩)) true ty).run Tryz.prog (w.iter ⟨([97,99,100]:List UInt8).toArray⟩ 1)=.ok (.tuple #[.bool true,.int .i64 1,.int .i32 99]) (w.iter ⟨([97,99,100]:List UInt8).toArray⟩ 2):=fun ty=>run_next_ascii w ⟨([97,99,100]:List UInt8).toArray⟩ 1 ty (by decide) (by decide)
  have hn2:∀ ty,(Instr.next (.pointer (some ⟨w.heap.size,0,none⟩)) true ty).run Tryz.prog (w.iter ⟨([97,99,100]:List UInt8).toArray⟩ 2)=.ok (.tuple #[.bool true,.int .i64 2,.int .i32 100]) (w.iter ⟨([97,99,100]:List UInt8).toArray⟩ 3):=fun ty=>run_next_ascii w ⟨([97,99,100]:List UInt8).toArray⟩ 2 ty (by decide) (by decide)
  have hn3:∀ ty,(Instr.next (.pointer (some ⟨w.heap.size,0,none⟩)) true ty).run Tryz.prog (w.iter ⟨([97,99,100]:List UInt8).toArray⟩ 3)=.ok (.tuple #[.bool false]) (w.iter ⟨([97,99,100]:List UInt8).toArray⟩ 3):=fun ty=>run_next_end w ⟨([97,99,100]:List UInt8).toArray⟩ 3 ty (by decide)
  go_enter Tryz.func354,Tryz.ntmps354
  go_wp2
  refine wp_loop_rounds 4 ?_
  rw[rounds_succ]
  go_wp2
  rw[rounds_succ]
  go_wp2
  rw[rounds_succ]
  go_wp2
  rw[rounds_succ]
  go_wp2
  go_ret
  exact⟨rfl,(Below.refl _ w).alloc (Nat.le_refl _) _⟩
 ·have hb:(r == 65533)=false:=by simp[h2]
  go_enter Tryz.func354,Tryz.ntmps354
  go_wp2_with fail
  refine (Tryz.utf8_ValidRune r _).mono ?_
  rintro e w' ⟨rfl,rfl⟩
  cases hv:Lib.validRune r
  ·go_wp2
   go_ret
   exact⟨rfl,Below.refl _ _⟩
  ·rcases ZcP r (ZlZ r hv) h0 with ⟨a,b,hb128,he⟩ | ⟨a,b,c,hb128,he⟩ | ⟨a,b,c,d,he⟩
   ·have hbl:=b.toNat_lt
    have hw2:IntKind.i64.wrap 2=2:=by decide
    have hsl:∀ u:World,(Instr.slice 9 (.string ⟨([97,99,100]:List UInt8).toArray⟩) (some (.int .i64 2)) none none).run Tryz.prog u=.ok (.string ⟨([100]:List UInt8).toArray⟩) u:=fun u=>by kernel_rfl
    have hne:((99:Int) != (b.toNat:Int))=true:=by simp;omega
    go_wp2_with fail
    go_step3
    go_wp2_with fail
    refine wp_loop_rounds 1 ?_
    rw[rounds_succ]
    go_wp2_with fail
    go_step3
    go_wp2_with fail
    go_quiet (fail)
    have hbq:Below w'.heap.size w' (w'.drewN nq):=Below.dN (Below.refl _ _) nq
    generalize w'.drewN nq=wq at *
    go_wp2_with fail
    go_quiet ((go_at_call 347;exact Calls.quiet_of_same (ZeA b hb128 _)))
    go_wp2
    rw[Exit.noGoto_ret]
    go_wp2
    rw[Exit.noGoto_ret]
    go_ret
    exact⟨rfl,Below.dN hbq _⟩
   ·have hbl:=c.toNat_lt
    have hw2:IntKind.i64.wrap 3=3:=by decide
    have hsl:∀ u:World,(Instr.slice 9 (.string ⟨([97,99,100]:List UInt8).toArray⟩) (some (.int .i64 3)) none none).run Tryz.prog u=.ok (.string ⟨([]:List UInt8).toArray⟩) u:=fun u=>by kernel_rfl
    have hne:((100:Int) != (c.toNat:Int))=true:=by simp;omega
    go_wp2_with fail
    go_step3
    go_wp2_with fail
    refine wp_loop_rounds 1 ?_
    rw[rounds_succ]
    go_wp2_with fail
    go_step3
    go_wp2_with fail
    go_quiet (fail)
    have hbq:Below w'.heap.size w' (w'.drewN nq):=Below.dN (Below.refl _ _) nq
    generalize w'.drewN nq=wq at *
    go_wp2_with fail
    go_quiet ((go_at_call 347;exact Calls.quiet_of_same (ZeE _ _)))
    go_wp2
    rw[Exit.noGoto_ret]
    go_wp2
    rw[Exit.noGoto_ret]
    go_ret
    exact⟨rfl,Below.dN hbq _⟩
   ·go_wp2_with fail
    go_step3
    go_wp2_with fail
    refine wp_loop_rounds 1 ?_
    rw[rounds_succ]
    go_wp2
    rw[Exit.noGoto_ret]
    go_ret
    exact⟨rfl,Below.refl _ _⟩
theorem Zms:∀ w,(zeroValue 370).run Tryz.prog w=.ok (.agg (Array.replicate 256 (.bool false))) w :=
 (zero_of_info (P:=Tryz.prog) (show (Tryz.prog.info? 370).map (fun i=>(i.zero,i.size))=some (some (.agg (Array.replicate 256 (.bool false))),256) by kernel_rfl)).1
theorem ZeF (x:UInt8):Lib.indexByte [97,99,100] x=if x.toNat=97 then 0 else if x.toNat=99 then 1 else if x.toNat=100 then 2 else -1:=by
 have key:∀ i:Fin 256,Lib.indexByte [97,99,100] (UInt8.ofNat i.val)=if i.val=97 then 0 else if i.val=99 then 1 else if i.val=100 then 2 else -1:=by decide +kernel
 have:=key ⟨x.toNat,x.toNat_lt⟩
 simpa using this
theorem ZeN (x:UInt8):isC x=decide (x.toNat=97∨x.toNat=99∨x.toNat=100):=by
 rw[Bool.eq_iff_iff]
 simp[isC,← UInt8.toNat_inj,or_assoc]
def idxB (x:UInt8):Int:=Lib.indexByte [97,99,100] x
theorem Zev {x:UInt8} (h:isC x=true):0≤idxB x:=by
 rw[ZeN] at h
 have h:=of_decide_eq_true h
 unfold idxB;rw[ZeF];split<;>(try split)<;>(try split)<;>omega
theorem Zeu {x:UInt8} (h:isC x=false):idxB x<0:=by
 rw[ZeN] at h
 have h:=of_decide_eq_false h
 unfold idxB;rw[ZeF];split<;>(try split)<;>(try split)<;>omega
theorem ZbT (c:UInt8):([97,99,100]:List UInt8).contains c=isC c:=by
 rw[Bool.eq_iff_iff]
 simp[isC,or_assoc]
def wend (l:List UInt8):Int:=Lib.indexAny l [97,99,100]
theorem Zma:∀ (l:List UInt8) (k:Nat) (hk:k<l.length),(∀ j (h:j<l.length),j<k→isC l[j]=false)→isC l[k]=true→wend l=k
 | b::l,0,_,_,h=>by
  unfold wend Lib.indexAny
  rw[ZbT,if_pos (by simpa using h)]
  rfl
 | b::l,k+1,hk,ha,h=>by
  have h0:=ha 0 (by simp) (by omega)
  have ih:=Zma l k (by simpa using hk) (fun j hj hjk=>ha (j+1) (by simp;omega) (by omega)) (by simpa using h)
  unfold wend at ih ⊢
  unfold Lib.indexAny
  rw[ZbT,if_neg (by simpa using h0),ih]
  rw[if_neg (by simp)]
  omega
theorem Zmb:∀ (l:List UInt8),(∀ j (h:j<l.length),isC l[j]=false)→wend l=-1
 | [],_=>rfl
 | b::l,ha=>by
  have h0:=ha 0 (by simp)
  have ih:=Zmb l (fun j hj=>ha (j+1) (by simp;omega))
  unfold wend at ih ⊢
  unfold Lib.indexAny
  rw[ZbT,if_neg (by simpa using h0),ih]
  rfl
theorem Zae (x:UInt8) (h:x.toNat<128) (w:World) :
  Calls Tryz.prog 354 #[.string ⟨([97,99,100]:List UInt8).toArray⟩,.int .i32 (x.toNat:Int)] w fun e w'=>e=.returned (.int .i64 (idxB x))∧w'=w:=by
 have h1:=Tryz.strings_IndexRune_ascii ⟨([97,99,100]:List UInt8).toArray⟩ (x.toNat:Int) w (by omega) (by omega)
 refine h1.mono ?_
 rintro e w' ⟨rfl,rfl⟩
 have e:((x.toNat:Int).toNat).toUInt8=x:=by simp
 rw[e]
 exact⟨rfl,rfl⟩
theorem Zkf (n:Int) (h:n≤8) (w:World):Calls Tryz.prog 355 #[.int .i64 n] w fun e w'=>e=.returned (.bool false)∧w=w':=by
 go_enter Tryz.func355,Tryz.ntmps355
 go_wp2
 go_ret
 exact⟨by simp;omega,rfl⟩
theorem Zab (l:List UInt8) (h8:l.length≤8) (w:World) :
  Calls Tryz.prog 338 #[.string ⟨l.toArray⟩,.string ⟨([97,99,100]:List UInt8).toArray⟩] w fun e w'=>e=.returned (.int .i64 (wend l))∧Below w.heap.size w w':=by
 go_enter Tryz.func338,Tryz.ntmps338
 go_wp2_with fail
 refine (Zkf _ (by omega) _).mono ?_
 rintro e w' ⟨rfl,rfl⟩
 go_wp2
 go_loopw [] (fun wr=>∃ pos:Nat,pos≤l.length∧wr.heap[w.heap.size]?=some (.stringIter ⟨l.toArray⟩ pos)∧Below w.heap.size w wr∧(∀ k (hk:k<l.length),k<pos→isC l[k]=false)) (fun wr=>l.length-wr.iterPos w.heap.size)
 case atStart=>exact⟨0,Nat.zero_le _,World.iter_heap w _ 0,(Below.refl _ w).alloc (Nat.le_refl _) _,fun k _ h=>by omega⟩
 case round =>
  obtain⟨pos,hp,hit,hbr,hall⟩:=hrel
  have HA:Hid (∀ k (hk:k<l.length),k<pos→isC l[k]=false):=hall
  clear hall
  have hwl:w.heap.size<wr.heap.size:=(Array.getElem?_eq_some_iff.1 hit).1
  by_cases hlt:pos<l.length
  ·by_cases ha:l[pos].toNat<128
   ·have hnx:∀ ty,(Instr.next (.pointer (some ⟨w.heap.size,0,none⟩)) true ty).run Tryz.prog wr=_:=fun ty=>Lib.run_next_ascii_at wr w.heap.size ⟨l.toArray⟩ pos ty hit hlt ha
    have hit2:=Lib.iterAt_heap wr w.heap.size ⟨l.toArray⟩ pos (pos+1) hit
    have hbr2:=Lib.below_iterAt hbr (k:=w.heap.size) (Nat.le_refl _) ⟨l.toArray⟩ (pos+1)
    go_wp2_with fail
    refine (Zae l[pos] ha _).mono ?_
    rintro e w4 ⟨rfl,rfl⟩
    cases hbl:isC l[pos]
    ·have hneg:=Zeu hbl
     go_wp2
     go_roundw
     case rel =>
      refine⟨pos+1,by omega,hit2,hbr2,fun k hk h=>?_⟩
      by_cases e:k=pos
      ·subst e;exact hbl
      ·exact HA.out k hk (by omega)
     case measure=>simp only[World.iterPos,hit,hit2];omega
    ·have hpos:=Zev hbl
     have HE:Hid ((pos:Int)=wend l):=(Zma l pos hlt HA.out hbl).symm
     go_wp2
     go_ret
     exact⟨Zjm HE.out,hbr2⟩
   ·have hdh:=(decode_high ⟨l.toArray⟩ pos hlt (by show 128≤l[pos].toNat;omega))
    have hdr:=ZcI ⟨l.toArray⟩ pos hlt (by show 128≤l[pos].toNat;omega)
    have hnx:∀ ty,(Instr.next (.pointer (some ⟨w.heap.size,0,none⟩)) true ty).run Tryz.prog wr=_:=fun ty=>Lib.run_next_any_at wr w.heap.size ⟨l.toArray⟩ pos ty hit hlt
    have hit2:=Lib.iterAt_heap wr w.heap.size ⟨l.toArray⟩ pos (pos+(Utf8.decode ⟨l.toArray⟩ pos).2) hit
    have hbr2:=Lib.below_iterAt hbr (k:=w.heap.size) (Nat.le_refl _) ⟨l.toArray⟩ (pos+(Utf8.decode ⟨l.toArray⟩ pos).2)
    have hdl:=decode_le ⟨l.toArray⟩ pos
    have HR:Hid (∀ k,k<(Utf8.decode ⟨l.toArray⟩ pos).2→∃ h':pos+k<l.length,128≤l[pos+k].toNat):=fun k hk=>hdr k hk
    clear hdr
    obtain⟨hd1,hd2⟩:=hdh
    generalize Utf8.decode ⟨l.toArray⟩ pos=dd at *
    have hwz:w.heap.size<(wr.iterAt w.heap.size ⟨l.toArray⟩ (pos+dd.2)).heap.size:=by rw[Lib.iterAt_size];exact hwl
    go_wp2_with fail
    refine (Zad (dd.1:Int) (by omega) (by omega) _).mono ?_
    rintro e w4 ⟨rfl,hb4⟩
    have hit4:=(hb4.block w.heap.size hwz).trans hit2
    have hbr4:=hbr2.trans (hb4.mono (Nat.le_of_lt hwz))
    go_wp2
    go_roundw
    case rel =>
     refine⟨pos+dd.2,?_,hit4,hbr4,fun k hk h=>?_⟩
     ·obtain⟨h',_⟩:=HR.out (dd.2-1) (by omega)
      omega
     ·by_cases e:k<pos
      ·exact HA.out k hk e
      ·obtain⟨h',hh⟩:=HR.out (k-pos) (by omega)
       have ee:pos+(k-pos)=k:=by omega
       simp only[ee] at hh
       exact (by rw[ZeN];exact decide_eq_false (by omega))
    case measure=>simp only[World.iterPos,hit,hit4];omega
  ·have hnx:∀ ty,(Instr.next (.pointer (some ⟨w.heap.size,0,none⟩)) true ty).run Tryz.prog wr=_:=fun ty=>Lib.run_next_end_at wr w.heap.size ⟨l.toArray⟩ pos ty hit hlt
   have HE:Hid (-1=wend l):=(Zmb l (fun k hk=>HA.out k hk (by omega))).symm
   go_wp2
   go_ret
   exact⟨Zjm HE.out,hbr⟩
theorem Zaa (l:List UInt8) (hl:l.length<4294967281) (w:World) :
  Calls Tryz.prog 338 #[.string ⟨l.toArray⟩,.string ⟨([97,99,100]:List UInt8).toArray⟩] w fun e w'=>e=.returned (.int .i64 (wend l))∧Below w.heap.size w w':=by
 by_cases h8:l.length≤8
 ·exact Zab l h8 w
 ·have h:=Tryz.strings_IndexAny_long Zms ⟨l.toArray⟩ ⟨([97,99,100]:List UInt8).toArray⟩ w (by decide) (by show 8<l.length;omega) hl (by decide) (fun j b h=>by match j,h with | 0,h=>simp at h;subst h;decide | 1,h=>simp at h;subst h;decide | 2,h=>simp at h;subst h;decide | j+3,h=>simp at h)
  refine h.mono ?_
  rintro e w' ⟨rfl,rfl⟩
  exact⟨rfl,((Below.refl _ w).alloc (Nat.le_refl _) _).alloc (by simp) _⟩
theorem Zmc (l:List UInt8):(spB isC l=none∧wend l=-1)∨(∃ k:Nat,∃ h:k<l.length,wend l=k∧spB isC l=some (l.take k,l[k],l.drop (k+1))∧isC l[k]=true):=by
 induction l with
 | nil=>exact .inl ⟨rfl,rfl⟩
 | cons c l ih =>
  unfold wend Lib.indexAny
  rw[ZbT]
  simp only[spB]
  cases hc:isC c with
  | true =>
   right
   refine⟨0,by simp,by simp,by simp,by simpa using hc⟩
  | false =>
   rw[if_neg (by decide),if_neg (by decide)]
   rcases ih with ⟨h1,h2⟩ | ⟨k,hk,h1,h2,h3⟩
   ·left
    unfold wend at h2
    rw[h1,h2]
    exact⟨rfl,rfl⟩
   ·right
    unfold wend at h1
    refine⟨k+1,by simpa using hk,?_,?_,by simpa using h3⟩
    ·rw[h1,if_neg (by simp)]
     omega
    ·rw[h2]
     rfl
theorem ZbS (l:List UInt8):(spB isK l=none∧Lib.indexByte l 44=-1)∨(∃ k:Nat,∃ h:k<l.length,Lib.indexByte l 44=k∧spB isK l=some (l.take k,l[k],l.drop (k+1))):=by
 induction l with
 | nil=>exact .inl ⟨rfl,rfl⟩
 | cons c l ih =>
  unfold Lib.indexByte
  simp only[spB]
  have e:(c == 44)=isK c:=rfl
  rw[e]
  cases hc:isK c with
  | true =>
   right
   exact⟨0,by simp,by simp,by simp⟩
  | false =>
   rw[if_neg (by decide),if_neg (by decide)]
   rcases ih with ⟨h1,h2⟩ | ⟨k,hk,h1,h2⟩
   ·left
    rw[h1,h2]
    exact⟨rfl,rfl⟩
   ·right
    refine⟨k+1,by simpa using hk,?_,?_⟩
    ·rw[h1,if_neg (by simp)]
     omega
    ·rw[h2]
     rfl
end

section
open Go.RowKit
attribute [local go_sem] ByteArray.extract_mk Zhc
def kA (l:List UInt8):List UInt8:=match spB isK l with | none=>l | some (x,_,_)=>x
def kB (l:List UInt8):List UInt8:=match spB isK l with | none=>[] | some (_,_,y)=>y
def kS (l:List UInt8):Bool:=match spB isK l with | none=>false | some _=>true
theorem Zko (l:List UInt8) (w:World) (hl:l.length≤1099511627776) :
  Calls Tryz.prog 87 #[.string ⟨l.toArray⟩,.string ⟨#[44]⟩] w fun e w'=>e=.returned (.tuple #[.string ⟨(kA l).toArray⟩,.string ⟨(kB l).toArray⟩,.bool (kS l)])∧∃ n,w'=w.drewN n:=by
 rcases ZbS l with ⟨h1,h2⟩ | ⟨k,hk,h1,h2⟩
 ·have HA:Hid (kA l=l∧kB l=[]∧kS l=false):=(by unfold kA kB kS;rw[h1];exact⟨rfl,rfl,rfl⟩)
  have HI:Hid (Lib.indexByte l 44=-1):=h2
  clear h1 h2
  go_enter Tryz.func87,Tryz.ntmps87
  go_wp2_with fail
  refine (Tryz.stringslite_Index_one ⟨l.toArray⟩ 44 w).mono ?_
  rintro e w1 ⟨rfl,rfl⟩
  have e1:Lib.indexByte (⟨l.toArray⟩:ByteArray).data.toList 44=-1:=HI.out
  rw[e1]
  clear e1
  go_wp2
  go_ret3
  obtain⟨a1,a2,a3⟩:=HA.out
  rw[a1,a2,a3]
  exact⟨rfl,0,rfl⟩
 ·have HA:Hid (kA l=l.take k∧kB l=l.drop (k+1)∧kS l=true):=(by unfold kA kB kS;rw[h2];exact⟨rfl,rfl,rfl⟩)
  have HI:Hid (Lib.indexByte l 44=(k:Int)):=h1
  clear h1 h2
  go_enter Tryz.func87,Tryz.ntmps87
  go_wp2_with fail
  refine (Tryz.stringslite_Index_one ⟨l.toArray⟩ 44 w).mono ?_
  rintro e w1 ⟨rfl,rfl⟩
  have e1:Lib.indexByte (⟨l.toArray⟩:ByteArray).data.toList 44=(k:Int):=HI.out
  rw[e1]
  clear e1
  have i1:(0:Int)≤(k:Int):=by omega
  have i2:(k:Int)≤(l.length:Int):=by omega
  have i3:(k:Int)+1≤(l.length:Int):=by omega
  have i4:(0:Int)≤(k:Int)+1:=by omega
  have i5:IntKind.i64.wrap ((k:Int)+1)=(k:Int)+1:=Zmm (by omega) (by omega)
  have i6:((k:Int)+1).toNat=k+1:=by omega
  go_wp2_with fail
  go_quiet (fail)
  go_wp2
  go_ret3
  obtain⟨a1,a2,a3⟩:=HA.out
  rw[a1,a2,a3]
  have k5:(l.drop (k+1)).take (l.length-(k+1))=l.drop (k+1):=List.take_of_length_le (by simp)
  exact⟨by simp[k5],_,rfl⟩
theorem ZgA (l:List UInt8) (w:World) (hl:l.length≤1099511627776) :
  Calls Tryz.prog 46 #[.string ⟨l.toArray⟩,.string ⟨#[44]⟩] w fun e w'=>e=.returned (.tuple #[.string ⟨(kA l).toArray⟩,.string ⟨(kB l).toArray⟩,.bool (kS l)])∧∃ n,w'=w.drewN n:=by
 go_enter Tryz.func46,Tryz.ntmps46
 go_wp2_with fail
 refine (Zko l w hl).mono ?_
 rintro e w1 ⟨rfl,n,rfl⟩
 go_wp2
 go_ret3
 exact⟨rfl,n,rfl⟩
theorem ZbR {s:List UInt8} (h:kS s=true):Pn.parseE s≠0:=by
 unfold kS at h
 rcases ZbS s with ⟨h1,_⟩ | ⟨k,hk,_,h2⟩
 ·rw[h1] at h
  cases h
 ·have hc:isK s[k]=true:=(by
   have:∀ (l:List UInt8) {a b:List UInt8} {c:UInt8},spB isK l=some (a,c,b)→isK c=true:=(by
    intro l
    induction l with
    | nil=>intro a b c h;cases h
    | cons x l ih =>
     intro a b c h
     simp only[spB] at h
     split at h
     ·rename_i hx
      cases h
      exact hx
     ·split at h
      ·cases h
      ·rename_i hq
       cases h
       exact ih hq)
   exact this s h2)
  have hn:Pn.isNum s=false:=Pn.isNum_bad k hk (by
   unfold isK at hc
   have:s[k]=44:=by simpa using hc
   rw[this]
   decide)
  have:=(Pn.parse_no hn).2
  omega
def nmP (no:Bool) (s:List UInt8):Option (Int × Int):=if no=true then oneP s else lnsP s
theorem Zfb {s:List UInt8} (h:kS s=false):kA s=s∧spB isK s=none:=by
 unfold kS at h
 unfold kA
 cases hq:spB isK s with
 | none=>exact⟨rfl,rfl⟩
 | some q=>rw[hq] at h;cases h
theorem Zff {s:List UInt8} (h:kS s=true):∃ c,spB isK s=some (kA s,c,kB s):=by
 unfold kS at h
 unfold kA kB
 cases hq:spB isK s with
 | none=>rw[hq] at h;cases h
 | some q=>exact⟨q.2.1,rfl⟩
theorem ZgZ {no:Bool} {s:List UInt8} (h:Pn.parseE (kA s)≠0):nmP no s=none:=by
 unfold nmP
 cases hk:kS s with
 | true =>
  obtain⟨c,hc⟩:=Zff hk
  have h2:=ZbR hk
  cases no with
  | true =>
   unfold oneP
   rw[if_pos rfl,if_neg h2]
  | false =>
   unfold lnsP
   rw[if_neg (by decide),hc]
   exact if_neg (fun q=>h q.1)
 | false =>
  obtain⟨h1,h2⟩:=Zfb hk
  rw[h1] at h
  cases no with
  | true =>
   unfold oneP
   rw[if_pos rfl,if_neg h]
  | false =>
   unfold lnsP
   rw[if_neg (by decide),h2]
   exact if_neg (fun q=>h q.1)
theorem Zfa (s:List UInt8):(kA s).length≤s.length∧(kB s).length≤s.length:=by
 unfold kA kB
 rcases ZbS s with ⟨h1,_⟩ | ⟨k,hk,_,h2⟩
 ·rw[h1];simp
 ·rw[h2];simp only[List.length_take,List.length_drop];omega
def NmQ (w:World) (no:Bool) (s:List UInt8) (e:Ending) (w':World):Prop:=∃ x n r,e=.returned (.tuple #[.int .i64 x,.int .i64 n,.bool r])∧nmP no s=(if r=true then some (x,n) else none)∧Below w.heap.size w w'
theorem Zhb (s:List UInt8) (no:Bool) (w:World) (hl:s.length≤1099511627776) :
  Calls Tryz.prog 339 #[.string ⟨s.toArray⟩,.bool no] w fun e w'=>NmQ w no s e w':=by
 have hkl:=Zfa s
 have b1:=@ZiG (kA s)
 have b2:=@ZiG (kB s)
 obtain⟨V1,hV1⟩:∃ V,Pn.parseV (kA s)=V:=⟨_,rfl⟩
 obtain⟨E1,hE1⟩:∃ V,Pn.parseE (kA s)=V:=⟨_,rfl⟩
 obtain⟨V2,hV2⟩:∃ V,Pn.parseV (kB s)=V:=⟨_,rfl⟩
 obtain⟨E2,hE2⟩:∃ V,Pn.parseE (kB s)=V:=⟨_,rfl⟩
 have P1:∀ u:World,Calls Tryz.prog 337 #[.string ⟨(kA s).toArray⟩] u fun e w'=>e=.returned (.tuple #[.int .i64 V1,.int .i64 E1])∧Below u.heap.size u w':=(by
  intro u
  have h:=ZgD (kA s) u (by unfold maxLen;omega)
  rw[hV1,hE1] at h
  exact h)
 have P2:∀ u:World,Calls Tryz.prog 337 #[.string ⟨(kB s).toArray⟩] u fun e w'=>e=.returned (.tuple #[.int .i64 V2,.int .i64 E2])∧Below u.heap.size u w':=(by
  intro u
  have h:=ZgD (kB s) u (by unfold maxLen;omega)
  rw[hV2,hE2] at h
  exact h)
 rw[hV1] at b1
 rw[hV2] at b2
 by_cases he1:E1=0
 ·have f1:(E1 != 0)=false:=by simp[he1]
  cases no with
  | true =>
   cases hk:kS s with
   | true =>
    have HN:Hid (nmP true s=none):=(by
     show _=_
     unfold nmP oneP
     rw[if_pos rfl,if_neg (ZbR hk)])
    have C1:=ZgA s w hl
    rw[hk] at C1
    clear hV1 hE1 hV2 hE2 hk he1 P2
    go_enter Tryz.func339,Tryz.ntmps339
    go_wp2_with fail
    refine C1.mono ?_
    rintro e w1 ⟨rfl,n,rfl⟩
    go_wp2_with fail
    refine (P1 _).mono ?_
    rintro e w2 ⟨rfl,hb2⟩
    go_wp2
    go_ret3
    exact⟨_,_,_,rfl,HN.out,(Below.dN (Below.refl _ w) n).trans hb2⟩
   | false =>
    have HN:Hid (nmP true s=some (V1,0)):=(by
     show _=_
     obtain⟨a1,_⟩:=Zfb hk
     rw[a1] at hV1 hE1
     unfold nmP oneP
     rw[if_pos rfl,if_pos (by rw[hE1];exact he1),hV1])
    have C1:=ZgA s w hl
    rw[hk] at C1
    clear hV1 hE1 hV2 hE2 hk he1 P2
    go_enter Tryz.func339,Tryz.ntmps339
    go_wp2_with fail
    refine C1.mono ?_
    rintro e w1 ⟨rfl,n,rfl⟩
    go_wp2_with fail
    refine (P1 _).mono ?_
    rintro e w2 ⟨rfl,hb2⟩
    go_wp2
    go_ret3
    exact⟨_,_,_,rfl,HN.out,(Below.dN (Below.refl _ w) n).trans hb2⟩
  | false =>
   cases hk:kS s with
   | false =>
    have HN:Hid (nmP false s=if decide (0<V1)=true then some (V1,1) else none):=(by
     show _=_
     obtain⟨a1,a2⟩:=Zfb hk
     rw[a1] at hV1 hE1
     unfold nmP lnsP
     rw[if_neg (by decide),a2]
     dsimp only
     rw[hV1,hE1]
     by_cases h:0<V1
     ·rw[if_pos ⟨he1,by omega⟩,if_pos (by simpa using h)]
     ·rw[if_neg (by omega),if_neg (by simpa using h)])
    have C1:=ZgA s w hl
    rw[hk] at C1
    clear hV1 hE1 hV2 hE2 hk he1 P2
    go_enter Tryz.func339,Tryz.ntmps339
    go_wp2_with fail
    refine C1.mono ?_
    rintro e w1 ⟨rfl,n,rfl⟩
    go_wp2_with fail
    refine (P1 _).mono ?_
    rintro e w2 ⟨rfl,hb2⟩
    go_wp2
    go_ret3
    exact⟨_,_,_,rfl,HN.out,(Below.dN (Below.refl _ w) n).trans hb2⟩
   | true =>
    have HN:Hid (nmP false s=if (decide (E2=0) && decide (0<V1) && decide (V1<V2))=true then some (V1,V2-V1+1) else none):=(by
     show _=_
     obtain⟨c,a2⟩:=Zff hk
     unfold nmP lnsP
     rw[if_neg (by decide),a2]
     dsimp only
     rw[hV1,hE1,hV2,hE2]
     by_cases h:E2=0∧0<V1∧V1<V2
     ·rw[if_pos ⟨he1,h.1,by omega,h.2.2⟩,if_pos (by simp[h.1,h.2.1,h.2.2])]
     ·rw[if_neg (fun q=>h ⟨q.2.1,by omega,q.2.2.2⟩),if_neg (fun q=>h (by simp only[Bool.and_eq_true,decide_eq_true_eq] at q;exact⟨q.1.1,q.1.2,q.2⟩))])
    have C1:=ZgA s w hl
    rw[hk] at C1
    clear hV1 hE1 hV2 hE2 hk he1
    go_enter Tryz.func339,Tryz.ntmps339
    go_wp2_with fail
    refine C1.mono ?_
    rintro e w1 ⟨rfl,n,rfl⟩
    go_wp2_with fail
    refine (P1 _).mono ?_
    rintro e w2 ⟨rfl,hb2⟩
    go_wp2_with fail
    refine (P2 _).mono ?_
    rintro e w3 ⟨rfl,hb3⟩
    have hb23:=(Below.dN (Below.refl _ w) n).trans (hb2.trans (hb3.mono hb2.size))
    have i1:IntKind.i64.wrap (V2-V1)=V2-V1:=Zmm (by omega) (by omega)
    have i2:IntKind.i64.wrap (V2-V1+1)=V2-V1+1:=Zmm (by omega) (by omega)
    by_cases h1:E2=0
    ·have g1:(E2 == 0)=true:=by simp[h1]
     by_cases h2:0<V1
     ·have HN2:Hid (nmP false s=if decide (V1<V2)=true then some (V1,V2-V1+1) else none):=(by
       show _=_
       rw[HN.out]
       simp[h1,h2])
      clear HN h1
      go_wp2
      go_ret3
      exact⟨_,_,_,rfl,HN2.out,hb23⟩
     ·have HN2:Hid (nmP false s=none):=(by have h:=HN.out;rw[if_neg (by simp[h2])] at h;exact h)
      clear HN h1
      go_wp2
      go_ret3
      exact⟨_,_,_,rfl,HN2.out,hb23⟩
    ·have g1:(E2 == 0)=false:=by simp[h1]
     have HN2:Hid (nmP false s=none):=(by have h:=HN.out;rw[if_neg (by simp[h1])] at h;exact h)
     clear HN h1
     go_wp2
     go_ret3
     exact⟨_,_,_,rfl,HN2.out,hb23⟩
 ·have f1:(E1 != 0)=true:=by simp[he1]
  have HN:Hid (nmP no s=none):=ZgZ (by rw[hE1];exact he1)
  have C1:=ZgA s w hl
  clear hV1 hE1 hV2 hE2 he1 P2
  generalize kS s=ks at C1
  go_enter Tryz.func339,Tryz.ntmps339
  go_wp2_with fail
  refine C1.mono ?_
  rintro e w1 ⟨rfl,n,rfl⟩
  go_wp2_with fail
  refine (P1 _).mono ?_
  rintro e w2 ⟨rfl,hb2⟩
  go_wp2
  go_ret3
  exact⟨_,_,_,rfl,HN.out,(Below.dN (Below.refl _ w) n).trans hb2⟩
end

section
open Ln
def kM (x:Sde):List Mk:=x.map fun y=>⟨(y.1.toNat:Int),y.2⟩
theorem Zfd (x:Sde):(kM x).length=x.length:=by simp[kM]
theorem Zfc (y:UInt8 × List UInt8) (x:Sde):kM (y::x)=⟨(y.1.toNat:Int),y.2⟩::kM x:=rfl
theorem Zfe {x:Sde}:kM x=[]↔x=[]:=by simp[kM]
def rdC (sg:UInt8):Nat→List (List UInt8)→Except (Nat × Int) (List Mk × Nat × List (List UInt8))
 | p,[]=>.ok ([],p,[])
 | p,s::r=>if isSd sg s=true then if fdB s=true then match rdC sg (p+1) r with
   | .error e=>.error e
   | .ok (l,p2,r2)=>.ok (⟨((s.headD 0).toNat:Int),s.drop 2⟩::l,p2,r2)
  else .error (p+1,3) else .ok ([],p,s::r)
def sdE (sg:UInt8) (p:Nat) (ls:List (List UInt8)):Except (Nat × Int) (List Mk × Nat × List (List UInt8)) :=
 match rdC sg p ls with
 | .error e=>.error e
 | .ok (l,p1,r)=>if (!l.isEmpty && endK l r)=true then .ok (cutL l,p1+1,r.tail) else .ok (l,p1,r)
def mapS (X:Except (Nat × Int) (Sde × Nat × List (List UInt8))):Except (Nat × Int) (List Mk × Nat × List (List UInt8)) :=
 match X with
 | .error e=>.error e
 | .ok (x,p,r)=>.ok (kM x,p,r)
theorem ZfU {sg:UInt8} (h92:sg≠92) {t:List UInt8} (h:markT.isPrefixOf t=true):isSd sg t=false:=by
 obtain⟨u,rfl⟩:=List.isPrefixOf_iff_prefix.1 h
 unfold markT
 simp only[List.cons_append,isSd]
 have h1:((92:UInt8) == sg)=false:=beq_eq_false_iff_ne.2 (fun e=>h92 e.symm)
 rw[h1]
 decide
theorem ZiY {sg:UInt8} (h92:sg≠92) {r:List (List UInt8)} (h:pkM r=true) (p:Nat):rdC sg p r=.ok ([],p,r):=by
 cases r with
 | nil=>cases h
 | cons t r =>
  simp only[rdC]
  rw[if_neg (by rw[ZfU h92 h];decide)]
theorem Zkm {sg:UInt8} {s:List UInt8} (h:isSd sg s=true) (hf:fdB s=true) (hl:s.length≤3):s.drop 2=[10]:=by
 match s,h,hf,hl with
 | [a,b],h,hf,_ =>
  simp only[isSd,Bool.and_eq_true,beq_iff_eq] at h
  obtain⟨_,rfl⟩:=h
  exact absurd hf (by simp[fdB])
 | [a,b,c],h,hf,_ =>
  have:c=10:=by simpa [fdB] using hf
  rw[this]
  rfl
theorem Zkl {sg:UInt8} (h92:sg≠92) (ls:List (List UInt8)):∀ p,sdE sg p ls=mapS (rdS sg p ls):=by
 induction ls with
 | nil=>intro p;rfl
 | cons s r ih =>
  intro p
  by_cases hs:isSd sg s=true
  ·by_cases hf:fdB s=true
   ·by_cases hm:pkM r=true∧3<s.length
    ·have h1:rdC sg p (s::r)=.ok ([⟨((s.headD 0).toNat:Int),s.drop 2⟩],p+1,r):=by
      simp only[rdC]
      rw[if_pos hs,if_pos hf,ZiY h92 hm.1]
     have h2:endK [⟨((s.headD 0).toNat:Int),s.drop 2⟩] r=true:=by
      unfold endK
      rw[hm.1,Bool.and_true]
      have:lastT [(⟨((s.headD 0).toNat:Int),s.drop 2⟩:Mk)]=s.drop 2:=rfl
      rw[this,bne_iff_ne]
      intro e
      have:=congrArg List.length e
      rw[List.length_drop] at this
      simp at this
      omega
     unfold sdE
     rw[h1]
     dsimp only
     rw[if_pos (by rw[h2];rfl)]
     simp only[rdS]
     rw[if_pos hs,if_pos hf,if_pos hm]
     rfl
    ·have hi:=ih (p+1)
     simp only[rdS]
     rw[if_pos hs,if_pos hf,if_neg hm]
     unfold sdE at hi ⊢
     simp only[rdC]
     rw[if_pos hs,if_pos hf]
     cases hc:rdC sg (p+1) r with
     | error e =>
      rw[hc] at hi
      cases hr:rdS sg (p+1) r with
      | error e2 =>
       rw[hr] at hi
       simp only[mapS] at hi ⊢
       injection hi with hi
       rw[hi]
      | ok z =>
       obtain⟨x,p2,r2⟩:=z
       rw[hr] at hi
       simp only[mapS] at hi
       cases hi
     | ok z =>
      obtain⟨l,p2,r2⟩:=z
      rw[hc] at hi
      dsimp only at hi ⊢
      cases hr:rdS sg (p+1) r with
      | error e2 =>
       rw[hr] at hi
       simp only[mapS] at hi
       split at hi<;>cases hi
      | ok z =>
       obtain⟨x,p3,r3⟩:=z
       rw[hr] at hi
       simp only[mapS] at hi ⊢
       by_cases hl:l=[]
       ·subst hl
        rw[if_neg (by simp)] at hi
        have hi2:([]:List Mk)=kM x∧p2=p3∧r2=r3:=by
         injection hi with hi
         injection hi with h1 h2
         injection h2 with h2 h3
         exact⟨h1,h2,h3⟩
        obtain⟨hx,rfl,rfl⟩:=hi2
        have hx0:x=[]:=Zfe.1 hx.symm
        subst hx0
        have hr2:r2=r:=by
         cases r with
         | nil=>simp only[rdC] at hc;cases hc;rfl
         | cons t r =>
          simp only[rdC] at hc
          split at hc
          ·split at hc
           ·split at hc
            ·cases hc
            ·cases hc
           ·cases hc
          ·cases hc;rfl
        subst hr2
        have he:endK [⟨((s.headD 0).toNat:Int),s.drop 2⟩] r2=false:=by
         unfold endK
         have:lastT [(⟨((s.headD 0).toNat:Int),s.drop 2⟩:Mk)]=s.drop 2:=rfl
         rw[this]
         cases hp:pkM r2 with
         | false=>rw[Bool.and_false]
         | true =>
          rw[Zkm hs hf (Nat.le_of_not_lt fun q=>hm ⟨hp,q⟩)]
          rfl
        rw[if_neg (by rw[he];simp)]
        rfl
       ·have hl1:l.isEmpty=false:=by cases l with | nil=>exact absurd rfl hl | cons _ _=>rfl
        have he:endK (⟨((s.headD 0).toNat:Int),s.drop 2⟩::l) r2=endK l r2:=by
         unfold endK
         rw[Zfr hl]
        rw[he]
        rw[hl1] at hi
        simp only[Bool.not_false,Bool.true_and,List.isEmpty_cons] at hi ⊢
        by_cases hk:endK l r2=true
        ·rw[if_pos hk] at hi ⊢
         rw[Zcm hl]
         injection hi with hi
         injection hi with h1 h2
         rw[h1,h2]
         rfl
        ·rw[if_neg hk] at hi ⊢
         injection hi with hi
         injection hi with h1 h2
         rw[h1,h2]
         rfl
   ·unfold sdE
    simp only[rdC,rdS]
    rw[if_pos hs,if_neg hf,if_pos hs,if_neg hf]
    rfl
  ·unfold sdE
   simp only[rdC,rdS]
   rw[if_neg hs,if_neg hs]
   rfl
/- ranges -/
def nmC (s:List UInt8):Option (Int × Int) :=
 if Pn.parseE (kA s)=0 then if kS s=true then if Pn.parseE (kB s)=0∧0<Pn.parseV (kA s)∧Pn.parseV (kA s)<Pn.parseV (kB s) then some (Pn.parseV (kA s),Pn.parseV (kB s)) else none else some (Pn.parseV (kA s),Pn.parseV (kA s)) else none
def sayC (x:Int × Int):Int × Int:=(x.1,if x.1=x.2 then -1 else x.2-x.1+1)
theorem Zjw (s:List UInt8):rngI s=(nmC s).map sayC:=by
 unfold rngI nmC
 cases hk:kS s with
 | false =>
  obtain⟨h1,h2⟩:=Zfb hk
  rw[h1,if_neg (show ¬ (false=true) by decide)]
  by_cases he:Pn.parseE s=0
  ·rw[if_pos he,if_pos he]
   simp[sayC]
  ·rw[if_neg he,if_neg he]
   unfold lnsP
   rw[h2]
   exact if_neg (fun q=>he q.1)
 | true =>
  obtain⟨c,hc⟩:=Zff hk
  rw[if_neg (ZbR hk),if_pos rfl]
  unfold lnsP
  rw[hc]
  dsimp only
  by_cases h1:Pn.parseE (kA s)=0
  ·rw[if_pos h1]
   by_cases h2:Pn.parseE (kB s)=0∧0<Pn.parseV (kA s)∧Pn.parseV (kA s)<Pn.parseV (kB s)
   ·rw[if_pos ⟨h1,h2.1,by omega,h2.2.2⟩,if_pos h2]
    simp only[Option.map_some,sayC]
    rw[if_neg (by omega)]
   ·rw[if_neg (fun q=>h2 ⟨q.2.1,by omega,q.2.2.2⟩),if_neg h2]
    rfl
  ·rw[if_neg (fun q=>h1 q.1),if_neg h1]
   rfl
theorem ZgY {s:List UInt8} {a b:Int} (h:nmC s=some (a,b)):0≤a∧a≤b∧b≤2147483647:=by
 unfold nmC at h
 have b1:=@ZiG (kA s)
 have b2:=@ZiG (kB s)
 split at h
 ·split at h
  ·split at h
   ·rename_i h3
    cases h
    omega
   ·cases h
  ·cases h
   omega
 ·cases h
theorem ZbM {a b:Int} (h:a≤b) (x:Sde):cntS (sayC (a,b)).2 x=!(decide ((x.length:Int)=b-a+1) || (decide ((x.length:Int)=0) && decide (b-a+1=1))):=by
 unfold cntS sayC
 dsimp only
 rw[Bool.eq_iff_iff]
 simp only[decide_eq_true_eq,Bool.not_eq_true',Bool.or_eq_false_iff,Bool.and_eq_false_iff,decide_eq_false_iff_not]
 split<;>omega
end

section
open Ln
def txS:List Mk→Nat
 | []=>0
 | m::l=>m.tx.length+txS l
def hsS:List Hk→Nat
 | []=>0
 | h::l=>200+62 * h.ls.length+2 * txS h.ls+hsS l
end

end Go.Proofs.YtcniomgjikienaaGreatDoor

/- The context form: a side's lines one by one, by what lies ahead of a place and behind it (the reference's way); plain mathematics. -/
namespace Go.Proofs.YtcniomgjikienaaGreatDoor
end Go.Proofs.YtcniomgjikienaaGreatDoor

namespace Go.Proofs.YtcniomgjikienaaGreatDoor

section
open Ln
def chgM (l:List Mk):List Mk:=l.takeWhile fun m=>m.sg != 32
def rstM (l:List Mk):List Mk:=l.dropWhile fun m=>m.sg != 32
/- signs that are shown -/
theorem Zbv (l:List Mk):chgM l++rstM l=l:=List.takeWhile_append_dropWhile
end

section
open Ln
/- pieces -/
def allM (k:Int) (l:List Mk):Bool:=l.all fun m=>m.sg == k
def keptM (l:List Mk):List Mk:=l.filter fun m=>m.sg == 32
theorem Zfi (a:UInt8) (k:UInt8):(((a.toNat:Int)) != (k.toNat:Int))=(a != k):=by
 rw[Bool.eq_iff_iff,bne_iff_ne,bne_iff_ne,ne_eq,ne_eq,Int.natCast_inj,UInt8.toNat_inj]
theorem Zfh (a:UInt8) (k:UInt8):(((a.toNat:Int)) == (k.toNat:Int))=(a == k):=by
 rw[Bool.eq_iff_iff,beq_iff_eq,beq_iff_eq,Int.natCast_inj,UInt8.toNat_inj]
theorem Zbs (x:Sde):chgM (kM x)=kM (chgS x):=by
 induction x with
 | nil=>rfl
 | cons y x ih =>
  have h:=Zfi y.1 32
  simp only[chgM,Zfc,chgS,List.takeWhile_cons] at ih ⊢
  have h2:(((y.1.toNat:Int)) != 32)=(y.1 != 32):=h
  rw[h2]
  split
  ·rw[ih];rfl
  ·rfl
theorem ZjF (x:Sde):rstM (kM x)=kM (rstS x):=by
 induction x with
 | nil=>rfl
 | cons y x ih =>
  have h:=Zfi y.1 32
  simp only[rstM,Zfc,rstS,List.dropWhile_cons] at ih ⊢
  have h2:(((y.1.toNat:Int)) != 32)=(y.1 != 32):=h
  rw[h2]
  split
  ·rw[ih]
  ·rfl
theorem Zat (k:UInt8) (x:Sde):allM (k.toNat:Int) (kM x)=allS k x:=by
 unfold allM allS kM
 rw[List.all_map]
 refine congrArg (fun f=>x.all f) ?_
 funext y
 exact Zfh y.1 k
theorem Zfk (x:Sde):keptM (kM x)=kM (keptS x):=by
 unfold keptM keptS kM
 rw[List.filter_map]
 refine congrArg (List.map _) (congrArg (fun f=>x.filter f) ?_)
 funext y
 exact Zfh y.1 32
def mtM (g c:List Mk):Bool:=if c=[] then allM 45 g else if g=[] then allM 43 c else allM 33 g && allM 33 c
theorem Zgv (x y:Sde):mtM (kM x) (kM y)=okJ x y:=by
 unfold mtM okJ
 have a1:allM 45 (kM x)=allS 45 x:=Zat 45 x
 have a2:allM 43 (kM y)=allS 43 y:=Zat 43 y
 have a3:allM 33 (kM x)=allS 33 x:=Zat 33 x
 have a4:allM 33 (kM y)=allS 33 y:=Zat 33 y
 rw[a1,a2,a3,a4]
 by_cases hy:y=[]
 ·subst hy
  rw[if_pos (show kM []=[] from rfl),if_neg (fun q=>q.2 rfl)]
  have:allS 43 []=true:=rfl
  rw[this,Bool.and_true]
 ·rw[if_neg (fun q=>hy (Zfe.1 q))]
  by_cases hx:x=[]
  ·subst hx
   rw[if_pos (show kM []=[] from rfl),if_neg (fun q=>q.1 rfl)]
   have:allS 45 []=true:=rfl
   rw[this,Bool.true_and]
  ·rw[if_neg (fun q=>hx (Zfe.1 q)),if_pos ⟨hx,hy⟩]
theorem Zgd (s:Int) (x:Sde):mkS s x=(kM x).map fun m=>⟨s,m.tx⟩:=by
 simp[mkS,kM]
theorem ZjO (x:Sde):allM 32 (kM x)=sameS x:=Zat 32 x
theorem ZeX (n:Nat):∀ (o w:Sde) (f g:Nat),o.length≤n→o.length<f→o.length<g→jnS f o w=jnS g o w:=by
 induction n with
 | zero =>
  intro o w f g h hf hg
  obtain⟨f,rfl⟩:∃ f',f=f'+1:=⟨f-1,by omega⟩
  obtain⟨g,rfl⟩:∃ g',g=g'+1:=⟨g-1,by omega⟩
  have ho:o=[]:=List.eq_nil_of_length_eq_zero (by omega)
  subst ho
  simp only[jnS]
  have:rstS []=[]:=rfl
  rw[this]
  cases rstS w<;>rfl
 | succ n ih =>
  intro o w f g h hf hg
  obtain⟨f,rfl⟩:∃ f',f=f'+1:=⟨f-1,by omega⟩
  obtain⟨g,rfl⟩:∃ g',g=g'+1:=⟨g-1,by omega⟩
  simp only[jnS]
  split
  ·have hl:(rstS o).length≤o.length:=by
    have:=congrArg List.length (Zbu o)
    rw[List.length_append] at this
    omega
   cases hro:rstS o with
   | nil=>cases rstS w<;>rfl
   | cons y o2 =>
    rw[hro] at hl
    cases hrw:rstS w with
    | nil=>rfl
    | cons z w2 =>
     dsimp only
     rw[ih o2 w2 f g (by simp at hl;omega) (by simp at hl;omega) (by simp at hl;omega)]
  ·rfl
def jnX (o w:Sde):Option (List Mk):=jnS (o.length+1) o w
theorem ZeW (o w : Sde) : jnX o w = if okJ (chgS o) (chgS w) = true then match rstS o, rstS w with
      | [], [] => some (mkS 45 (chgS o) ++ mkS 43 (chgS w))
      | (_, s) :: o2, (_, t) :: w2 => if s = t then match jnX o2 w2 with
        | none => none
        | some l => some (mkS 45 (chgS o) ++ (mkS 43 (chgS w) ++ ⟨32, s⟩ :: l)) else none
      | _, _ => none
    else none := by
  have hl : (rstS o).length ≤ o.length := by
    have := congrArg List.length (Zbu o)
    rw [List.length_append] at this
    omega
  have hX : jnX o w = jnS (o.length + 1) o w := rfl
  rw [hX]
  simp only [jnS]
  split
  · cases hro : rstS o with
    | nil => cases rstS w <;> rfl
    | cons y o2 =>
      rw [hro] at hl
      simp only [List.length_cons] at hl
      cases hrw : rstS w with
      | nil => rfl
      | cons z w2 =>
        dsimp only
        rw [ZeX o.length o2 w2 o.length (o2.length + 1) (by omega) (by omega) (by omega)]
        rfl
  · rfl
/- names -/
def unC (s:List UInt8):List UInt8:=if s=devN then [] else if s.head?=some 34 then Q.uqa s else s
theorem ZlA {s n:List UInt8} (h:unN s=some n):unC s=n:=by
 unfold unN at h
 unfold unC
 split at h
 ·rename_i h1
  rw[if_pos h1]
  cases h
  rfl
 ·rename_i h1
  rw[if_neg h1]
  split at h
  ·rename_i h2
   rw[if_pos h2]
   unfold Q.uqa
   split at h
   ·rename_i h3
    rw[h3]
    cases h
    rfl
   ·cases h
  ·rename_i h2
   rw[if_neg h2]
   cases h
   rfl
def nokC (s:List UInt8):Bool:=decide ((unC s).length≤64) && (nameT (unC s) == s)
theorem ZgK (s:List UInt8):namedP s=if nokC s=true then some (unC s) else none:=by
 by_cases h:nokC s=true
 ·rw[if_pos h]
  unfold nokC at h
  rw[Bool.and_eq_true,decide_eq_true_eq,beq_iff_eq] at h
  exact (ZgL s (unC s)).2 ⟨h.2.symm,h.1⟩
 ·rw[if_neg h]
  cases hn:namedP s with
  | none=>rfl
  | some n =>
   exfalso
   obtain⟨h1,h2⟩:=(ZgL s n).1 hn
   have h3:unC s=n:=by rw[h1];exact ZlA (ZgJ n)
   apply h
   unfold nokC
   rw[h3,Bool.and_eq_true,decide_eq_true_eq,beq_iff_eq]
   exact⟨h2,h1.symm⟩
theorem ZeJ (e:UInt8) (s:List UInt8):innR e s=if [e,e,e,32].isPrefixOf s=true then if Lib.hasSuffix (s.drop 4) [32,e,e,e,e]=true then some ((s.drop 4).take ((s.drop 4).length-5)) else none else none:=by
 unfold innR
 by_cases h1:[e,e,e,32].isPrefixOf s=true
 ·rw[if_pos h1]
  obtain⟨t,rfl⟩:=List.isPrefixOf_iff_prefix.1 h1
  have e1:([e,e,e,32]++t).drop 4=t:=rfl
  have e2:([e,e,e,32]++t).length=t.length+4:=by simp
  rw[e1,e2]
  by_cases h2:Lib.hasSuffix t [32,e,e,e,e]=true
  ·rw[if_pos h2]
   unfold Lib.hasSuffix at h2
   obtain⟨u,rfl⟩:=List.isSuffixOf_iff_suffix.1 h2
   have e3:(u++[32,e,e,e,e]).length=u.length+5:=by simp
   rw[e3,if_pos]
   ·have e4:u.length+5+4-9=u.length+5-5:=by omega
    rw[e4]
   ·refine⟨by omega,rfl,?_⟩
    have e5:u.length+5+4-5=([e,e,e,32]++u).length:=by simp
    rw[e5,← List.append_assoc,List.drop_left]
  ·rw[if_neg h2,if_neg]
   rintro⟨h3,_,h4⟩
   apply h2
   unfold Lib.hasSuffix
   rw[List.isSuffixOf_iff_suffix]
   have e6:([e,e,e,32]++t).drop (t.length+4-5)=t.drop (t.length-5):=by
    have:t.length+4-5=4+(t.length-5):=by omega
    rw[this,← List.drop_drop]
    rfl
   rw[e6] at h4
   exact⟨t.take (t.length-5),by rw[← h4,List.take_append_drop]⟩
 ·rw[if_neg h1,if_neg]
  rintro⟨_,h2,_⟩
  apply h1
  rw[List.isPrefixOf_iff_prefix]
  exact⟨s.drop 4,by rw[← h2,List.take_append_drop]⟩
end

end Go.Proofs.YtcniomgjikienaaGreatDoor

namespace Go.Proofs

section
open Go.Shelf
def Tryz.lays240_ren:Go.Shelf.Ren:=⟨fun | 240=>72 | 276=>114 | n=>n,fun | 0=>0 | 4=>4 | 9=>9 | 20=>20 | 70=>82 | 72=>85 | 37=>83 | 164=>105 | n=>n,fun | n=>n⟩
theorem Tryz.lays240:Go.Proofs.Lays.n240 Tryz.prog Tryz.lays240_ren:={
 mixed:=by kernel_rfl
 f240:= Go.fk Tryz.func72
 f276:= Go.fk Tryz.func114
 t0:=Tryz.underlying0
 a0:=Tryz.isAgg0
 z0:=Tryz.sizeOf0
 v0:=Tryz.zeroValue0
 t4:=Tryz.underlying4
 a4:=Tryz.isAgg4
 z4:=Tryz.sizeOf4
 v4:=Tryz.zeroValue4
 t9:=Tryz.underlying9
 a9:=Tryz.isAgg9
 z9:=Tryz.sizeOf9
 v9:=Tryz.zeroValue9
 t20:=Tryz.underlying20
 a20:=Tryz.isAgg20
 z20:=Tryz.sizeOf20
 v20:=Tryz.zeroValue20
 t70:=Tryz.underlying82
 a70:=Tryz.isAgg82
 z70:=Tryz.sizeOf82
 v70:=Tryz.zeroValue82
 t72:=Tryz.underlying85
 a72:=Tryz.isAgg85
 z72:=Tryz.sizeOf85
 v72:=Tryz.zeroValue85
 t164:=Tryz.underlying105
 a164:=Tryz.isAgg105
 z164:=Tryz.sizeOf105
 v164:=Tryz.zeroValue105 }
theorem Tryz.Builder_X72_240:Builder.X72 Tryz.prog Tryz.lays240_ren:={
 sizeBuilder:=by kernel_rfl
 liesBuilder:=by kernel_rfl }
theorem Tryz.copyCheck_fresh (b:Nat) (w:World) (h0:w.cell? ⟨b,0,none⟩=some (.pointer none)) (hsh:w.shape? b=some (85,2)) (hfz:w.frozen? ⟨b,0,none⟩=false) :
  Calls Tryz.prog 72 #[.pointer (some ⟨b,0,none⟩)] w fun e w'=>e=.returned (.tuple #[])∧w'=w.setCell ⟨b,0,none⟩ (.pointer (some ⟨b,0,none⟩)):=Any.Builder_copyCheck_fresh Tryz.lays240 Tryz.Builder_X72_240 b w h0 hsh hfz
theorem Tryz.copyCheck_used (b:Nat) (w:World) (h0:w.cell? ⟨b,0,none⟩=some (.pointer (some ⟨b,0,none⟩))) :
  Calls Tryz.prog 72 #[.pointer (some ⟨b,0,none⟩)] w fun e w'=>e=.returned (.tuple #[])∧w'=w:=Any.Builder_copyCheck_used Tryz.lays240 Tryz.Builder_X72_240 b w h0
end

end Go.Proofs

namespace Go.Proofs.YtcniomgjikienaaGreatDoor

section
open Q Go.RowKit Go.Proofs.YtcniomgjikienaaGreatDoor.Tx
attribute [local go_sem] ZaB Zea
theorem ZeU (n:Int) (w:World) :
  Calls Tryz.prog 263 #[.int .u8 n] w fun e w'=>e=.returned (.bool (plainI n))∧w=w':=by
 go_enter Tryz.func263,Tryz.ntmps263
 go_wp2
 all_goals go_ret
 all_goals exact⟨ret_bool (by rw[Bool.eq_iff_iff];simp[plainI];omega),rfl⟩
theorem infoU8:(Tryz.prog.info? 5).map (fun i=>(i.zero,i.size,i.bytes))=some (some (.int .u8 0),1,1):=by kernel_rfl
theorem ZbV (B b:Nat) (v:Value) (bs:List Value) (w:World) (h:Bld 85 5 B b v bs w) :
  Calls Tryz.prog 72 #[.pointer (some ⟨b,0,none⟩)] w fun e w'=>e=.returned (.tuple #[])∧w'.heap[b]?=some (.cells #[.pointer (some ⟨b,0,none⟩),v] 85 (0,0))∧Bld 85 5 B b v bs w'∧Hid (∀ k,k≠b→w'.heap[k]?=w.heap[k]?)∧Below B w w':=by
 have h':=h
 obtain⟨hB,⟨p,hp,hbk⟩,hown,hne⟩:=h
 have hlt:b<w.heap.size:=(Array.getElem?_eq_some_iff.1 hbk).1
 have c0:w.cell? ⟨b,0,none⟩=some p:=by rw[Lib.cell_of_heap hbk];rfl
 have f0:w.frozen? ⟨b,0,none⟩=false:=Lib.frozen_of_heap hbk 0
 rcases hp with rfl | rfl
 ·refine (Tryz.copyCheck_fresh b w c0 (by simp[World.shape?,hbk]) f0).mono ?_
  rintro e w' ⟨rfl,rfl⟩
  have hb':(w.setCell ⟨b,0,none⟩ (.pointer (some ⟨b,0,none⟩))).heap[b]?=some (.cells #[.pointer (some ⟨b,0,none⟩),v] 85 (0,0)):=by
   simp only[World.setCell,Array.getElem?_modify,hbk]
   simp
  have ho:∀ k,k≠b→(w.setCell ⟨b,0,none⟩ (.pointer (some ⟨b,0,none⟩))).heap[k]?=w.heap[k]?:=fun k hk=>Below.heap_setCell w _ _ k hk
  refine⟨rfl,hb',⟨hB,⟨_,.inr rfl,hb'⟩,?_,hne⟩,ho,(Below.refl B w).setCell (p:=⟨b,0,none⟩) hB _⟩
  refine⟨hown.1,?_⟩
  rcases hown.2 with h | ⟨g,cap,cur,fz,q1,q2,q3,q4⟩
  ·exact .inl h
  ·exact .inr ⟨g,cap,cur,fz,q1,q2,(ho g (fun e=>hne (by rw[q1,e];rfl))).trans q3,q4⟩
 ·refine (Tryz.copyCheck_used b w c0).mono ?_
  rintro e w' ⟨rfl,rfl⟩
  exact⟨rfl,hbk,h',fun _ _=>rfl,Below.refl B _⟩
theorem Zak (B b:Nat) (v:Value) (bs:List Value) (c:Int) (w:World) (h:Bld 85 5 B b v bs w) (hlen:bs.length+1≤140737488355328) (hBw:B≤w.heap.size) :
  Calls Tryz.prog 209 #[.pointer (some ⟨b,0,none⟩),.int .u8 c] w fun e w'=>e=.returned .nilIface∧∃ v',Bld 85 5 B b v' (bs++[.int .u8 c]) w'∧Go.Proofs.YtcniomgjikienaaGreatDoor.Tx.Aside b v w w'∧Fresh v v' w∧Below B w w':=by
 obtain⟨i0,hi,hz0,hz1,hz2⟩:=info_parts infoU8
 go_enter Tryz.func209,Tryz.ntmps209
 go_wp2_with (go_at_call 72;refine (ZbV B b v bs _ h).mono ?_)
 rintro e w1 ⟨rfl,hbk,⟨hB,_,hown,hne⟩,ho1,hb1⟩
 have c0:w1.cell? ⟨b,0,none⟩=some (.pointer (some ⟨b,0,none⟩)):=by rw[Lib.cell_of_heap hbk];rfl
 have c1:w1.cell? ⟨b,1,none⟩=some v:=by rw[Lib.cell_of_heap hbk];rfl
 have hlt:b<w1.heap.size:=(Array.getElem?_eq_some_iff.1 hbk).1
 go_wp2_with (at_builtin;refine Zmh _ rfl _ _ 83 rfl B 5 i0 (.int .u8 0) 1 1 Tryz.underlying83 hi hz0 hz1 hz2 rfl (by decide) _ _ _ rfl (hown.alloc _) ⟨w1.heap.size,0,none⟩ 1 1 [.int .u8 c] rfl rfl ?c1 ?c2 ?c3 ?c4 ?c5 ?_)
 case c1 =>
  intro j u hj
  match j,hj with
  | 0,hj=>simp at hj;subst hj;simp[Addr.add]
 case c2=>intro u hu;simp at hu;subst hu;rfl
 case c3=>unfold maxLen;omega
 case c4=>omega
 case c5=>have:=hb1.size;simp;omega
 intro v' w2 hown' hgrow hfr
 have hb2:w2.heap[b]?=some (.cells #[.pointer (some ⟨b,0,none⟩),v] 85 (0,0)):=by
  rw[hgrow.block b (by simp;omega) (fun e=>hne e.symm),Lib.alloc_old w1 _ b hlt]
  exact hbk
 have d0:w2.cell? ⟨b,0,none⟩=some (.pointer (some ⟨b,0,none⟩)):=by rw[Lib.cell_of_heap hb2];rfl
 have d1:w2.cell? ⟨b,1,none⟩=some v:=by rw[Lib.cell_of_heap hb2];rfl
 have f1:w2.frozen? ⟨b,1,none⟩=false:=Lib.frozen_of_heap hb2 1
 obtain⟨g,cap,rfl⟩:∃ g cap,v'=.slice (some ⟨g,0,none⟩) (bs.length+1) cap:=by
  rcases hown'.2 with ⟨_,h0⟩ | ⟨g,cap,cur,fz,hv,_⟩
  ·omega
  ·exact⟨g,cap,hv⟩
 go_wp2
 go_ret
 refine⟨rfl,_,Bld.put hB (.inr rfl) hb2 (by simpa using hown') (by decide),?_,?_,?_⟩
 ·intro k hk hkb hkv
  rw[Below.heap_setCell w2 _ _ k hkb,hgrow.block k (by have:=hb1.size;simp;omega) (fun e=>hkv e.symm),Lib.alloc_old w1 _ k (by have:=hb1.size;omega)]
  exact ho1.out k hkb
 ·rcases hfr with h | ⟨g',h,h2⟩
  ·exact .inl h
  ·exact .inr ⟨g',h,by have:=hb1.size;omega⟩
 ·exact ((hb1.alloc (by have:=hb1.size;omega) _).grown hgrow (by have:=hb1.size;simp;omega) (fun k hk=>(hown.lt k hk).1)).setCell (p:=⟨b,1,none⟩) hB _
end

section
open Q Go.RowKit Go.Proofs.YtcniomgjikienaaGreatDoor.Tx
theorem Zaf (l:List UInt8) (w:World) (hl:l.length≤1099511627776) :
  Calls Tryz.prog 217 #[.string ⟨l.toArray⟩] w fun e w'=>e=.returned (.string ⟨(quote l).toArray⟩)∧Below w.heap.size w w':=by
 go_enter Tryz.func217,Tryz.ntmps217
 go_wp2_with fail
 refine (Zak w.heap.size w.heap.size (.slice none 0 0) [] 34 _ (Bld.fresh 85 5 w) (by simp) (by simp)).mono ?_
 rintro e w1 ⟨rfl,v1,hB1,ha1,hf1,hb1⟩
 obtain⟨cap,C,fz,w2,hcv,hR,hC,hb2,hlt2⟩:=ZbU (P:=Tryz.prog) w1 9 83 5 l Tryz.underlying9 Tryz.underlying83 Tryz.underlying5
 have hB2:=hB1.kept (ZaD hb2)
 have hRb:Beside w1.heap.size (.cells C 5 fz) w.heap.size v1 w2:=⟨hR,by have:=hB1.lt;omega,by
  intro e
  have:=(hB1.2.2.1.lt _ e).2
  omega⟩
 have hbw:Below w.heap.size w w2:=(((Below.refl _ w).alloc (Nat.le_refl _) _).trans hb1).trans (hb2.mono (by have:=hb1.size;simp at this;omega))
 generalize hRR:w1.heap.size=R at *
 have HR:Hid (w1.heap.size=R):=hRR
 clear hRR
 go_wp2
 go_loopw [10] (fun i wr=>∃ (k:Nat) (acc:List UInt8) (v:Value),k≤l.length∧i=.int .i64 k∧Bld 85 5 w.heap.size w.heap.size v (Lib.byteCells acc) wr∧Beside R (.cells C 5 fz) w.heap.size v wr∧Below w.heap.size w wr∧acc++qbody (l.drop k)=[34]++qbody l∧acc.length≤3 * k+1) (fun i _=>l.length-(intOf i).toNat)
 case atStart=>exact⟨0,[34],v1,Nat.zero_le _,rfl,hB2,hRb,hbw,rfl,by simp⟩
 case round =>
  obtain⟨k,acc,v,hk,rfl,hB,hR',hbr,hacc,hal⟩:=hrel
  by_cases hlt:k<l.length
  ·have hc:=(hR'.cell k).trans (hC k hlt)
   have hdk:l.drop k=l[k]::l.drop (k+1):=List.drop_eq_getElem_cons hlt
   have HD:Hid (acc++(q1 l[k]++qbody (l.drop (k+1)))=[34]++qbody l):=by
    rw[hdk] at hacc
    exact hacc
   clear hacc hdk
   generalize l[k]=x at *
   have hx:x.toNat<256:=x.toNat_lt
   go_wp2_with fail
   refine (ZeU _ _).mono ?_
   rintro e w' ⟨rfl,rfl⟩
   cases hpl:plainI x.toNat
   ·have HP:Hid (q1 x=[92,hexc (x.toNat / 16),hexc (x.toNat % 16)]):=by
     show q1 x=_
     simp[q1,hpl]
    go_wp2_with fail
    refine (Zak w.heap.size w.heap.size v _ 92 _ hB (by rw[Lib.byteCells_length];omega) (by have:=hbr.size;omega)).mono ?_
    rintro e w3 ⟨rfl,v3,hB3,ha3,hf3,hb3⟩
    go_wp2_with fail
    rw[ZdY]
    refine (Zak w.heap.size w.heap.size v3 _ _ _ hB3 (by simp[Lib.byteCells_length];omega) (by have:=hbr.size;have:=hb3.size;omega)).mono ?_
    rintro e w4 ⟨rfl,v4,hB4,ha4,hf4,hb4⟩
    go_wp2_with fail
    rw[ZdY]
    refine (Zak w.heap.size w.heap.size v4 _ _ _ hB4 (by simp[Lib.byteCells_length];omega) (by have:=hbr.size;have:=hb3.size;have:=hb4.size;omega)).mono ?_
    rintro e w5 ⟨rfl,v5,hB5,ha5,hf5,hb5⟩
    go_wp2
    go_roundw
    case rel =>
     refine⟨k+1,acc++[92,hexc (x.toNat / 16),hexc (x.toNat % 16)],v5,by omega,by go_num,?_,((hR'.step ha3 hf3).step ha4 hf4).step ha5 hf5,((hbr.trans hb3).trans hb4).trans hb5,by rw[← HD.out,HP.out];simp,by simp;omega⟩
     have e:Lib.byteCells (acc++[92,hexc (x.toNat / 16),hexc (x.toNat % 16)])=Lib.byteCells acc++[.int .u8 92]++[.int .u8 (hexc (x.toNat / 16)).toNat]++[.int .u8 (hexc (x.toNat % 16)).toNat]:=by
      rw[Lib.byteCells_append];simp[Lib.byteCells]
     rw[e]
     exact hB5
    case measure=>simp[intOf];omega
   ·have HP:Hid (q1 x=[x]):=by
     show q1 x=_
     simp[q1,hpl]
    go_wp2_with fail
    refine (Zak w.heap.size w.heap.size v _ _ _ hB (by rw[Lib.byteCells_length];omega) (by have:=hbr.size;omega)).mono ?_
    rintro e w3 ⟨rfl,v3,hB3,ha3,hf3,hb3⟩
    go_wp2
    go_roundw
    case rel=>exact⟨k+1,acc++[x],v3,by omega,by go_num,by rw[Lib.byteCells_append];exact hB3,hR'.step ha3 hf3,hbr.trans hb3,by rw[← HD.out,HP.out];simp,by simp;omega⟩
    case measure=>simp[intOf];omega
  ·have HD:Hid (acc=[34]++qbody l):=by
    have e:l.drop k=[]:=List.drop_eq_nil_of_le (by omega)
    rw[e] at hacc
    show acc=_
    simpa [qbody] using hacc
   clear hacc
   go_wp2_with fail
   refine (Zak w.heap.size w.heap.size v _ 34 _ hB (by rw[Lib.byteCells_length];omega) (by have:=hbr.size;omega)).mono ?_
   rintro e w3 ⟨rfl,v3,hB3,ha3,hf3,hb3⟩
   go_wp2_with fail
   have hB4:Bld 85 5 w.heap.size w.heap.size v3 (Lib.byteCells (acc++[34])) w3:=by rw[Lib.byteCells_append];exact hB3
   refine (Tryz.Builder_String_any_k w.heap.size w.heap.size _ _ hB4.isF (by have:=hbr.size;have:=hb3.size;omega)).mono ?_
   rintro e w4 ⟨rfl,_,hb4,_⟩
   go_wp2
   go_ret
   rw[HD.out]
   exact⟨rfl,(hbr.trans hb3).trans hb4⟩
end

section
open Ln Go.RowKit
end

end Go.Proofs.YtcniomgjikienaaGreatDoor
