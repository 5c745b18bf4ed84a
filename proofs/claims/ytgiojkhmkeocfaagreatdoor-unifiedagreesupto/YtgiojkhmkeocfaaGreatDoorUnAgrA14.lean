/-
  Texts that belong together, joined: CpJ, CpK, CpL, CpM.
-/
import Derived.Test.YtgiojkhmkeocfaaGreatDoorUnAgrA13

set_option maxHeartbeats 16000000
set_option maxRecDepth 100000
namespace Go.Proofs.YtgiojkhmkeocfaaGreatDoor

section
open Go.RowKit
def sidR (e sg:UInt8) (p:Nat) (ls:List (List UInt8)):Except (Nat × Int) ((Int × Int) × Sde × Nat × List (List UInt8)) :=
 match rngC e p ls with
 | .error x=>.error x
 | .ok (q,r)=>match rdS sg (p+1) r with
  | .error x=>.error x
  | .ok (l,p1,r1)=>.ok (q,l,p1,r1)
def mapR (X:Except (Nat × Int) ((Int × Int) × Sde × Nat × List (List UInt8))):Except (Nat × Int) ((Int × Int) × List Mk × Nat × List (List UInt8)) :=
 match X with
 | .error x=>.error x
 | .ok (q,x,p,r)=>.ok (q,kM x,p,r)
theorem ZrF {e sg:UInt8} (h92:sg≠92) (p:Nat) (ls:List (List UInt8)):sidX e sg p ls=mapR (sidR e sg p ls):=by
 unfold sidX sidR
 cases rngC e p ls with
 | error x=>rfl
 | ok z =>
  obtain⟨q,r⟩:=z
  dsimp only
  rw[ZrM h92]
  cases rdS sg (p+1) r with
  | error x=>rfl
  | ok z=>rfl
def finR (p p2:Nat) (q1 q2:Int × Int) (o w:Sde) (p4:Nat) (r4:List (List UInt8)):Except (Nat × Int) (Hk × Nat × List (List UInt8)) :=
 match finH (p+1) (p+2) (p2+1) q1.1 (sayC q1).2 q2.1 (sayC q2).2 o w with
 | .error e=>.error e
 | .ok h=>.ok (h,p4,r4)
theorem ZhS (k p:Nat) (ls:List (List UInt8)):cxH k p ls=match starsP k p ls with
  | .error e=>.error e
  | .ok r=>match sidR 42 45 (p+1) r with
   | .error e=>.error e
   | .ok (q1,o,p2,r2)=>match sidR 45 43 p2 r2 with
    | .error e=>.error e
    | .ok (q2,w,p4,r4)=>finR p p2 q1 q2 o w p4 r4:=by
 unfold cxH starsP
 cases nxt p ls with
 | error e=>rfl
 | ok z =>
  obtain⟨s,r⟩:=z
  dsimp only
  by_cases h1:isSt s=true
  ·rw[if_pos h1,if_pos h1]
   by_cases h2:4096≤k
   ·rw[if_pos h2,if_pos h2]
   ·rw[if_neg h2,if_neg h2]
    dsimp only
    unfold sidR
    rw[ZpX]
    cases rngC 42 (p+1) r with
    | error e=>rfl
    | ok z =>
     obtain⟨q1,r1⟩:=z
     dsimp only
     cases rdS 45 (p+2) r1 with
     | error e=>rfl
     | ok z =>
      obtain⟨o,p2,r2⟩:=z
      dsimp only
      rw[ZpX]
      cases rngC 45 p2 r2 with
      | error e=>rfl
      | ok z =>
       obtain⟨q2,r3⟩:=z
       dsimp only
       cases rdS 43 (p2+1) r3 with
       | error e=>rfl
       | ok z=>rfl
  ·rw[if_neg h1,if_neg h1]
theorem Zpt {sg:UInt8} (ls:List (List UInt8)):∀ {p p1:Nat} {r:List (List UInt8)} {x:Sde},rdS sg p ls=.ok (x,p1,r)→∃ n,p1=p+n∧r=ls.drop n∧n≤ls.length∧x.length≤n:=by
 induction ls with
 | nil =>
  intro p p1 r x h
  simp only[rdS] at h
  injection h with h
  injection h with h1 h2
  injection h2 with h2 h3
  subst h1 h2 h3
  exact⟨0,rfl,rfl,Nat.le_refl _,Nat.le_refl _⟩
 | cons s t ih =>
  intro p p1 r x h
  simp only[rdS] at h
  split at h
  ·split at h
   ·split at h
    ·rename_i h3
     injection h with h
     injection h with h1 h2
     injection h2 with h2 h4
     subst h1 h2 h4
     cases t with
     | nil=>cases h3.1
     | cons u t=>exact⟨2,rfl,rfl,by simp,by simp⟩
    ·cases hr:rdS sg (p+1) t with
     | error e=>rw[hr] at h;cases h
     | ok z =>
      obtain⟨l,p2,r2⟩:=z
      rw[hr] at h
      injection h with h
      injection h with h1 h2
      injection h2 with h2 h4
      subst h1 h2 h4
      obtain⟨n,e1,e2,e3,e4⟩:=ih hr
      exact⟨n+1,by omega,by rw[e2];rfl,by simp;omega,by simp;omega⟩
   ·cases h
  ·injection h with h
   injection h with h1 h2
   injection h2 with h2 h3
   subst h1 h2 h3
   exact⟨0,rfl,rfl,Nat.zero_le _,Nat.le_refl _⟩
theorem ZpZ {e:UInt8} {p:Nat} {L r:List (List UInt8)} {q:Int × Int} (h:rngC e p (L.drop p)=.ok (q,r)):r=L.drop (p+1)∧p<L.length∧0≤q.1∧q.1≤q.2∧q.2≤2147483647:=by
 unfold rngC barP at h
 cases hn:nxt p (L.drop p) with
 | error x=>rw[hn] at h;cases h
 | ok z =>
  obtain⟨s,r0⟩:=z
  rw[hn] at h
  obtain⟨h1,h2,_⟩:=Znf hn
  dsimp only at h
  split at h
  ·cases h
  ·rename_i heq
   split at heq
   ·injection heq with heq
    injection heq with e1 e2
    split at h
    ·split at h
     ·cases h
     ·rename_i q' hq
      injection h with h
      injection h with e3 e4
      obtain⟨b1,b2,b3⟩:=Zmz (a:=q'.1) (b:=q'.2) hq
      subst e3
      exact⟨by rw[← e4,← e2,h1],h2,b1,b2,b3⟩
    ·cases h
   ·cases heq
theorem ZrD {e sg:UInt8} {p p1:Nat} {L r:List (List UInt8)} {q:Int × Int} {x:Sde} (h:sidR e sg p (L.drop p)=.ok (q,x,p1,r)):r=L.drop p1∧p1≤L.length∧x.length≤L.length∧p<p1∧0≤q.1∧q.1≤q.2∧q.2≤2147483647:=by
 unfold sidR at h
 cases hq:rngC e p (L.drop p) with
 | error z=>rw[hq] at h;cases h
 | ok z =>
  obtain⟨q0,r0⟩:=z
  rw[hq] at h
  obtain⟨h1,h2,h3⟩:=ZpZ hq
  dsimp only at h
  cases hr:rdS sg (p+1) r0 with
  | error z=>rw[hr] at h;cases h
  | ok z =>
   obtain⟨l,p2,r2⟩:=z
   rw[hr] at h
   injection h with h
   injection h with e1 e2
   injection e2 with e2 e3
   injection e3 with e3 e4
   subst e1 e2 e3 e4
   obtain⟨n,f1,f2,f3,f4⟩:=Zpt r0 hr
   rw[h1,List.length_drop] at f3
   exact⟨by rw[f2,h1,List.drop_drop,f1],by omega,by omega,by omega,h3⟩
theorem Zso {k p:Nat} {L r:List (List UInt8)} (h:starsP k p (L.drop p)=.ok r):r=L.drop (p+1)∧p<L.length:=by
 unfold starsP at h
 cases hn:nxt p (L.drop p) with
 | error x=>rw[hn] at h;cases h
 | ok z =>
  obtain⟨s,r0⟩:=z
  rw[hn] at h
  obtain⟨h1,h2,_⟩:=Znf hn
  dsimp only at h
  split at h
  ·split at h
   ·cases h
   ·injection h with h
    exact⟨by rw[← h,h1],h2⟩
  ·cases h
theorem Zgk (at0 ato atw:Nat) (q1 q2:Int × Int) (h1:q1.1≤q1.2) (h2:q2.1≤q2.2) (o w O V:Sde) (hO:oldF o w=O) (hV:newF o w=V) :
  finH at0 ato atw q1.1 (sayC q1).2 q2.1 (sayC q2).2 o w=if (sameS O && sameS V)=true then .error (at0,50) else
   match rgX (cntR q1.1 q1.2 (kM O).length) (cntR q2.1 q2.2 (kM V).length) (decide (q1.1=0) && decide (0<(kM O).length)) (decide (q2.1=0) && decide (0<(kM V).length)) (ato:Int) (atw:Int) with
   | some (a,z)=>.error (a.toNat,z)
   | none=>match jnX O V with
    | none=>.error (at0,190)
    | some l=>.ok ⟨q1.1,O.length,q2.1,V.length,l⟩:=by
 have hs:(sameS o=true∧sameS w=true)↔(sameS O && sameS V)=true:=by
  rw[Bool.and_eq_true,← hO,← hV]
  unfold oldF newF
  have hk:∀ x:Sde,sameS (keptS x)=true:=fun x=>by simp[sameS,keptS]
  by_cases ho:o=[]
  ·subst ho
   rw[if_pos rfl,if_neg (by simp)]
   exact⟨fun h=>⟨hk _,h.2⟩,fun h=>⟨rfl,h.2⟩⟩
  ·rw[if_neg ho]
   by_cases hw:w=[]
   ·subst hw
    rw[if_pos ⟨ho,rfl⟩]
    exact⟨fun h=>⟨h.1,hk _⟩,fun h=>⟨h.1,rfl⟩⟩
   ·rw[if_neg (fun h=>hw h.2)]
 unfold finH
 rw[hO,hV]
 have c1:=ZdK h1 O
 have c2:=ZdK h2 V
 have e1:sayC (q1.1,q1.2)=sayC q1:=rfl
 have e2:sayC (q2.1,q2.2)=sayC q2:=rfl
 rw[e1] at c1
 rw[e2] at c2
 have d1:cntS (sayC q1).2 O=!cntR q1.1 q1.2 (kM O).length:=by rw[c1,Zjk];rfl
 have d2:cntS (sayC q2).2 V=!cntR q2.1 q2.2 (kM V).length:=by rw[c2,Zjk];rfl
 rw[d1,d2]
 have n1:(q1.1=0∧O≠[])↔(decide (q1.1=0) && decide (0<(kM O).length))=true:=by
  rw[Bool.and_eq_true,decide_eq_true_eq,decide_eq_true_eq,Zjk,List.length_pos_iff]
 have n2:(q2.1=0∧V≠[])↔(decide (q2.1=0) && decide (0<(kM V).length))=true:=by
  rw[Bool.and_eq_true,decide_eq_true_eq,decide_eq_true_eq,Zjk,List.length_pos_iff]
 generalize (decide (q1.1=0) && decide (0<(kM O).length))=z1 at n1
 generalize (decide (q2.1=0) && decide (0<(kM V).length))=z2 at n2
 generalize cntR q1.1 q1.2 (kM O).length=r1
 generalize cntR q2.1 q2.2 (kM V).length=r2
 by_cases hss:sameS o=true∧sameS w=true
 ·rw[if_pos hss,if_pos (hs.1 hss)]
 ·rw[if_neg hss,if_neg (fun h=>hss (hs.2 h))]
  unfold rgX
  cases r1 with
  | false=>simp
  | true =>
   cases r2 with
   | false=>simp
   | true =>
    cases z1 with
    | true=>rw[if_neg (by simp),if_neg (by simp),if_pos (n1.2 rfl)];simp
    | false =>
     have n1':¬ (q1.1=0∧O≠[]):=fun h=>by have:=n1.1 h;cases this
     rw[if_neg (by simp),if_neg (by simp),if_neg n1']
     cases z2 with
     | true=>rw[if_pos (n2.2 rfl)];simp
     | false =>
      have n2':¬ (q2.1=0∧V≠[]):=fun h=>by have:=n2.1 h;cases this
      rw[if_neg n2']
      simp only[Bool.true_eq_false,if_false,Bool.false_eq_true]
      rfl
end

section
open Go.RowKit
theorem Zif {u:World} {v:Value} {l:List Mk} (h:HMk u v l) {S:Nat} {x a b:Int} {o:Option Addr} {n c:Nat} (hb:u.heap[S]?=some (.cells #[.int .i64 x,.int .i64 a,.int .i64 b,.slice o n c] 208)) (j:Nat) (z:Value):HMk (u.setCell ⟨S,j,none⟩ z) v l:=by
 cases l with
 | nil =>
  unfold HMk at h ⊢
  rcases h with h | ⟨ad,c,hv,hn,_⟩
  ·exact .inl h
  ·exact .inr ⟨ad,c,hv,hn,fun j u hj=>by simp[mkcells] at hj⟩
 | cons m l =>
  obtain⟨ao,c2,rfl⟩:=HMk.form h
  obtain⟨g,off,rfl,_,hc⟩:=HMk.at h (by simp)
  have hne:S≠g:=by
   rintro rfl
   have h0:=(hc 0 (by simp)).1
   rw[Lib.cell_of_heap hb] at h0
   match off,h0 with
   | 0,h0=>simp at h0
   | 1,h0=>simp at h0
   | 2,h0=>simp at h0
   | 3,h0=>simp at h0
   | k+4,h0=>simp at h0
  unfold HMk at h ⊢
  rcases h with ⟨e,_⟩ | ⟨ad,c',hv,hn,hcl⟩
  ·cases e
  ·injection hv with h1 h2 h3
   injection h1 with h1
   subst h1 h3
   exact .inr ⟨_,_,rfl,hn,fun j u' hj=>by rw[World.cell?_setCell_far _ _ _ _ (by have e:((⟨g,off,none⟩:Addr).add j).block=g:=(by unfold Addr.add;split<;>rfl);rw[e];exact hne)];exact hcl j u' hj⟩
structure Hz (wa:World) (R S1 S2:Nat) (vL:Value) (x1 a1 b1:Int) (v1:Value) (l1:List Mk) (x2 a2 b2:Int) (v2:Value) (l2:List Mk) (p:Nat) (u:World):Prop where
 gr:wa.grownBy u (some R)
 o1:u.heap[S1]?=some (.cells #[.int .i64 x1,.int .i64 a1,.int .i64 b1,v1] 208)
 o2:u.heap[S2]?=some (.cells #[.int .i64 x2,.int .i64 a2,.int .i64 b2,v2] 208)
 n1:HMk u v1 l1
 n2:HMk u v2 l2
 ck:Ck u R vL (p:Int)
 g1:wa.heap.size≤S1
 g2:wa.heap.size≤S2
 ne:S1≠S2
 rl:R<wa.heap.size
section
variable {wa u u':World} {R S1 S2:Nat} {vL v1 v2:Value} {x1 a1 b1 x2 a2 b2:Int} {l1 l2:List Mk} {p:Nat}
theorem Hz.keep (h:Hz wa R S1 S2 vL x1 a1 b1 v1 l1 x2 a2 b2 v2 l2 p u) (hb:Below u.heap.size u u'):Hz wa R S1 S2 vL x1 a1 b1 v1 l1 x2 a2 b2 v2 l2 p u':=⟨Zhe h.gr (ZkI hb _),(hb.block S1 (Array.getElem?_eq_some_iff.1 h.o1).1).trans h.o1,(hb.block S2 (Array.getElem?_eq_some_iff.1 h.o2).1).trans h.o2,h.n1.keep hb (Nat.le_refl _),h.n2.keep hb (Nat.le_refl _),h.ck.low hb,h.g1,h.g2,h.ne,h.rl⟩
theorem Hz.cells1 (h:Hz wa R S1 S2 vL x1 a1 b1 v1 l1 x2 a2 b2 v2 l2 p u):u.cell? ⟨S1,0,none⟩=some (.int .i64 x1)∧u.cell? ⟨S1,1,none⟩=some (.int .i64 a1)∧u.cell? ⟨S1,2,none⟩=some (.int .i64 b1)∧u.cell? ⟨S1,3,none⟩=some v1:=by
 refine⟨?_,?_,?_,?_⟩<;>rw[Lib.cell_of_heap h.o1]<;>rfl
theorem Hz.cells2 (h:Hz wa R S1 S2 vL x1 a1 b1 v1 l1 x2 a2 b2 v2 l2 p u):u.cell? ⟨S2,0,none⟩=some (.int .i64 x2)∧u.cell? ⟨S2,1,none⟩=some (.int .i64 a2)∧u.cell? ⟨S2,2,none⟩=some (.int .i64 b2)∧u.cell? ⟨S2,3,none⟩=some v2:=by
 refine⟨?_,?_,?_,?_⟩<;>rw[Lib.cell_of_heap h.o2]<;>rfl
theorem Hz.fr1 (h:Hz wa R S1 S2 vL x1 a1 b1 v1 l1 x2 a2 b2 v2 l2 p u):u.frozen? ⟨S1,3,none⟩=false:=Lib.frozen_of_heap h.o1 3
theorem Hz.fr2 (h:Hz wa R S1 S2 vL x1 a1 b1 v1 l1 x2 a2 b2 v2 l2 p u):u.frozen? ⟨S2,3,none⟩=false:=Lib.frozen_of_heap h.o2 3
theorem Hz.set1 (h:Hz wa R S1 S2 vL x1 a1 b1 v1 l1 x2 a2 b2 v2 l2 p u) {v:Value} {l:List Mk} (hv:HMk u v l):Hz wa R S1 S2 vL x1 a1 b1 v l x2 a2 b2 v2 l2 p (u.setCell ⟨S1,3,none⟩ v):=by
 have hg:=Zhd u S1 3 v
 obtain⟨o,c,rfl⟩:=HMk.form h.n1
 have e1:=h.o1
 exact⟨Zhc h.gr h.g1 3 v,heap_setCell_same u S1 3 _ _ v h.o1,(hg.block S2 (Array.getElem?_eq_some_iff.1 h.o2).1 (fun e=>h.ne (Option.some.inj e).symm)).trans h.o2,Zif hv h.o1 3 v,Zif h.n2 h.o1 3 v,h.ck.keep hg (fun e=>by cases e;have:=h.g1;have:=h.rl;omega),h.g1,h.g2,h.ne,h.rl⟩
theorem Hz.set2 (h:Hz wa R S1 S2 vL x1 a1 b1 v1 l1 x2 a2 b2 v2 l2 p u) {v:Value} {l:List Mk} (hv:HMk u v l):Hz wa R S1 S2 vL x1 a1 b1 v1 l1 x2 a2 b2 v l p (u.setCell ⟨S2,3,none⟩ v):=by
 have hg:=Zhd u S2 3 v
 obtain⟨o,c,rfl⟩:=HMk.form h.n2
 exact⟨Zhc h.gr h.g2 3 v,(hg.block S1 (Array.getElem?_eq_some_iff.1 h.o1).1 (fun e=>h.ne (Option.some.inj e))).trans h.o1,heap_setCell_same u S2 3 _ _ v h.o2,Zif h.n1 h.o2 3 v,Zif hv h.o2 3 v,h.ck.keep hg (fun e=>by cases e;have:=h.g2;have:=h.rl;omega),h.g1,h.g2,h.ne,h.rl⟩
end
def HkX (R:Nat) (vL:Value) (X:Except (Nat × Int) (Hk × Nat × List (List UInt8))) (w:World) (e:Ending) (w':World):Prop :=
 match X with
 | .error (a,z)=>Thr (a:Int) z e w'∧w.grownBy w' (some R)
 | .ok (h,p1,_)=>∃ v',e=.returned (hkV h v')∧w'.ownsRow w.heap.size 103 2 v' h.ls.length (mkcells h.ls)∧Ck w' R vL (p1:Int)∧w.grownBy w' (some R)
def zhk:Hk:=⟨0,0,0,0,[]⟩
theorem ZpG {r0 r1 z0 z1:Bool} {x0 x1 a z:Int} (h:rgX r0 r1 z0 z1 x0 x1=some (a,z)):a=x0∨a=x1:=by
 unfold rgX at h
 split at h
 ·injection h with h;injection h with h;exact .inl h.symm
 ·split at h
  ·injection h with h;injection h with h;exact .inr h.symm
  ·split at h
   ·injection h with h;injection h with h;exact .inl h.symm
   ·split at h
    ·injection h with h;injection h with h;exact .inr h.symm
    ·cases h
def five (u:World) (b:Nat) (A AN B BN:Int) (z:Value):World:=((((u.setCell ⟨b,0,none⟩ (.int .i64 A)).setCell ⟨b,1,none⟩ (.int .i64 AN)).setCell ⟨b,2,none⟩ (.int .i64 B)).setCell ⟨b,3,none⟩ (.int .i64 BN)).setCell ⟨b,4,none⟩ z
theorem Zgo {w wa u:World} {R:Nat} (hg:wa.grownBy u (some R)) (hZ:wa.heap[w.heap.size]?=some (hkO zhk (.slice none 0 0))∧w.heap.size<wa.heap.size∧w.heap.size≠R) (Q:Nat) (hQ:w.heap.size=Q) :
  u.cell? ⟨Q,0,none⟩=some (.int .i64 0)∧u.cell? ⟨Q,1,none⟩=some (.int .i64 0)∧u.cell? ⟨Q,2,none⟩=some (.int .i64 0)∧u.cell? ⟨Q,3,none⟩=some (.int .i64 0)∧u.cell? ⟨Q,4,none⟩=some (.slice none 0 0)∧∀ j,u.frozen? ⟨Q,j,none⟩=false:=by
 obtain⟨h1,h2,h3⟩:=hZ
 have hb:u.heap[w.heap.size]?=some (.cells #[.int .i64 0,.int .i64 0,.int .i64 0,.int .i64 0,.slice none 0 0] 59):=(hg.block _ h2 (fun e=>h3 (Option.some.inj e))).trans h1
 rw[hQ] at hb
 refine⟨?_,?_,?_,?_,?_,fun j=>Lib.frozen_of_heap hb j⟩<;>rw[Lib.cell_of_heap hb]<;>rfl
theorem Zgp {w wa u:World} {R:Nat} {vL v:Value} {p:Int} {n:Nat} {xs:List Value} (hg:wa.grownBy u (some R)) (hG:∀ u,wa.grownBy u (some R)→w.grownBy u (some R)) (hZ:wa.heap[w.heap.size]?=some (hkO zhk (.slice none 0 0))∧w.heap.size<wa.heap.size∧w.heap.size≠R) (hc:Ck u R vL p) (ho:u.ownsRow w.heap.size 103 2 v n xs) (A AN B BN:Int) (l:List Mk) (hne:v.ownBlock≠some w.heap.size) :
  Hx (five u w.heap.size A AN B BN v) w.heap.size ⟨A,AN,B,BN,l⟩ v∧(five u w.heap.size A AN B BN v).ownsRow w.heap.size 103 2 v n xs∧Ck (five u w.heap.size A AN B BN v) R vL p∧w.grownBy (five u w.heap.size A AN B BN v) (some R):=by
 obtain⟨h1,h2,h3⟩:=hZ
 have hb:u.heap[w.heap.size]?=some (hkO zhk (.slice none 0 0)):=(hg.block _ h2 (fun e=>h3 (Option.some.inj e))).trans h1
 have hn:some R≠some w.heap.size:=fun e=>h3 (Option.some.inj e).symm
 refine⟨?_,((((ho.kept (Zhd _ _ 0 _) (.inr hne)).kept (Zhd _ _ 1 _) (.inr hne)).kept (Zhd _ _ 2 _) (.inr hne)).kept (Zhd _ _ 3 _) (.inr hne)).kept (Zhd _ _ 4 _) (.inr hne),((((hc.keep (Zhd _ _ 0 _) hn).keep (Zhd _ _ 1 _) hn).keep (Zhd _ _ 2 _) hn).keep (Zhd _ _ 3 _) hn).keep (Zhd _ _ 4 _) hn,?_⟩
 ·have s0:=heap_setCell_same u w.heap.size 0 _ _ (.int .i64 A) hb
  have s1:=heap_setCell_same _ w.heap.size 1 _ _ (.int .i64 AN) s0
  have s2:=heap_setCell_same _ w.heap.size 2 _ _ (.int .i64 B) s1
  have s3:=heap_setCell_same _ w.heap.size 3 _ _ (.int .i64 BN) s2
  exact heap_setCell_same _ w.heap.size 4 _ _ v s3
 ·exact Zhc (Zhc (Zhc (Zhc (Zhc (hG _ hg) (Nat.le_refl _) 0 _) (Nat.le_refl _) 1 _) (Nat.le_refl _) 2 _) (Nat.le_refl _) 3 _) (Nat.le_refl _) 4 _
def outX (p p4:Nat) (r4:List (List UInt8)) (s:Bool) (Yr:Option (Int × Int)) (Yj:Option (List Mk)) (a1 a2:Int) (n1 n2:Nat):Except (Nat × Int) (Hk × Nat × List (List UInt8)) :=
 if s=true then .error (p+1,50) else match Yr with
 | some (a,z)=>.error (a.toNat,z)
 | none=>match Yj with
  | none=>.error (p+1,190)
  | some l=>.ok (⟨a1,n1,a2,n2,l⟩,p4,r4)
theorem Zeb {R:Nat} {L:List (List UInt8)} {lo:Option Addr} {lc:Nat} {p k:Nat} (hk:k≤4096) (w:World) (q:Ck w R (.slice lo L.length lc) p) (HL:Hid (∀ u,w.grownBy u (some R)→HS u (.slice lo L.length lc) L)) (HPl:Hid (Plain L)) (hp:p≤L.length) (hLl:L.length≤137438953472) (HSl:Hid (∀ s∈L,s.length≤1099511627776))
  (X:Except (Nat × Int) (Hk × Nat × List (List UInt8))) (HX:Hid (cxH k p (L.drop p)=X)) :
  Calls Tryz.prog 96 #[.pointer (some ⟨R,0,none⟩),.int .i64 (k:Int)] w fun e w'=>HkX R (.slice lo L.length lc) X w e w':=by
 have q1:Ck (w.alloc (hkO zhk (.slice none 0 0))) R (.slice lo L.length lc) p:=q.low ((Below.refl _ w).alloc (Nat.le_refl _) _)
 have hL1:=HL.out _ (World.grownBy_alloc w (hkO zhk (.slice none 0 0)) (some R))
 have HG:Hid (∀ u,(w.alloc (hkO zhk (.slice none 0 0))).grownBy u (some R)→w.grownBy u (some R)):=fun u hu=>ZgZ _ hu
 have hRl:=q.lt
 have HX2:=HX.out
 rw[ZhS] at HX2
 obtain⟨Y,hY⟩:∃ Y,starsP k p (L.drop p)=Y:=⟨_,rfl⟩
 rw[hY] at HX2
 have hst:=Zeh hk (w.alloc (hkO zhk (.slice none 0 0))) q1 hL1 hp (by omega) HSl.out Y hY
 have hRl1:R<(w.alloc (hkO zhk (.slice none 0 0))).heap.size:=(by simp;omega)
 have HZ:Hid ((w.alloc (hkO zhk (.slice none 0 0))).heap[w.heap.size]?=some (hkO zhk (.slice none 0 0))∧w.heap.size<(w.alloc (hkO zhk (.slice none 0 0))).heap.size∧w.heap.size≠R):=⟨heap_alloc_new w _,by simp,by omega⟩
 have hW:w.alloc (.cells #[.int .i64 0,.int .i64 0,.int .i64 0,.int .i64 0,.slice none 0 0] 59)=w.alloc (hkO zhk (.slice none 0 0)):=rfl
 clear HX q q1 hL1
 generalize hwa:w.alloc (hkO zhk (.slice none 0 0))=wa at *
 clear hwa
 go_enter Tryz.func96,Tryz.ntmps96
 go_wp2_with fail
 refine hst.mono ?_
 clear hst hW
 cases Y with
 | error z =>
  obtain⟨a,z⟩:=z
  rintro e w1 ⟨⟨g,rfl,hg⟩,hgr⟩
  have hXe:X=.error (a,z):=HX2.symm
  subst hXe
  go_wp2
  exact⟨rfl,⟨_,rfl,hg⟩,HG.out _ hgr⟩
 | ok r =>
  rintro e w1 ⟨rfl,qk1,gr1⟩
  obtain⟨rfl,hpl⟩:=Zso hY
  dsimp only at HX2
  obtain⟨Y1,hY1⟩:∃ Y,sidR 42 45 (p+1) (L.drop (p+1))=Y:=⟨_,rfl⟩
  rw[hY1] at HX2
  have hs1:=Zee 42 45 w1 qk1 (fun u hu=>HL.out u (HG.out _ (Zhe gr1 hu))) HPl (by omega) (by omega) HSl _ (show Hid (sidX 42 45 (p+1) (L.drop (p+1))=mapR Y1) by rw[← hY1];exact ZrF (by decide) _ _)
  clear hY
  go_wp2_with fail
  refine hs1.mono ?_
  clear hs1
  cases Y1 with
  | error z =>
   obtain⟨a,z⟩:=z
   rintro e w2 ⟨⟨g,rfl,hg⟩,hgr⟩
   have hXe:X=.error (a,z):=HX2.symm
   subst hXe
   go_wp2
   exact⟨rfl,⟨_,rfl,hg⟩,HG.out _ (Zhe gr1 hgr)⟩
  | ok z =>
   obtain⟨⟨a1,b1⟩,o,p2,r2⟩:=z
   rintro e w2 ⟨v1,he,own1,nil1,qk2,gr2⟩
   obtain⟨x1,hx1⟩:∃ x,(((p+1:Nat):Int)+1)=x:=⟨_,rfl⟩
   rw[hx1] at he
   subst he
   have Hx1:Hid (((p+2:Nat):Int)=x1):=(by show _=_;rw[← hx1];omega)
   clear hx1
   obtain⟨rfl,hp2,hol,hpp,hb1⟩:=ZrD hY1
   dsimp only at HX2 hb1
   obtain⟨Y2,hY2⟩:∃ Y,sidR 45 43 p2 (L.drop p2)=Y:=⟨_,rfl⟩
   rw[hY2] at HX2
   have hR1:R<w1.heap.size:=Nat.lt_of_lt_of_le hRl1 gr1.size
   have gra:=Zhe gr1 gr2
   obtain⟨w3,hw3⟩:∃ u,w2.alloc (.cells #[.int .i64 x1,.int .i64 a1,.int .i64 b1,v1] 208)=u:=⟨_,rfl⟩
   have hB3:Below w2.heap.size w2 w3:=(by rw[← hw3];exact (Below.refl _ w2).alloc (Nat.le_refl _) _)
   have hbox1:w3.heap[w2.heap.size]?=some (.cells #[.int .i64 x1,.int .i64 a1,.int .i64 b1,v1] 208):=(by rw[← hw3];exact heap_alloc_new _ _)
   have qk3:=qk2.low hB3
   have own3:=ZnI own1 hB3
   have gr3:=Zhe gra (ZkI hB3 (some R))
   have hsz3:w2.heap.size<w3.heap.size:=(by rw[← hw3];simp)
   have hs2:=Zee 45 43 w3 qk3 (fun u hu=>HL.out u (HG.out _ (Zhe gr3 hu))) HPl hp2 (by omega) HSl _ (show Hid (sidX 45 43 p2 (L.drop p2)=mapR Y2) by rw[← hY2];exact ZrF (by decide) _ _)
   obtain⟨v1o,v1c,rfl⟩:=(holds_of own1).form
   clear hY1 qk1 qk2 own1 qk3
   go_wp2_with fail
   refine hs2.mono ?_
   clear hs2 hw3
   cases Y2 with
   | error z =>
    obtain⟨a,z⟩:=z
    rintro e w4 ⟨⟨g,rfl,hg⟩,hgr⟩
    have hXe:X=.error (a,z):=HX2.symm
    subst hXe
    go_wp2
    exact⟨rfl,⟨_,rfl,hg⟩,HG.out _ (Zhe gr3 hgr)⟩
   | ok z =>
    obtain⟨⟨a2,b2⟩,vw,p4,r4⟩:=z
    rintro e w4 ⟨v2,he,own2,nil2,qk4,gr4⟩
    obtain⟨x2,hx2⟩:∃ x,((p2:Int)+1)=x:=⟨_,rfl⟩
    rw[hx2] at he
    subst he
    have Hx2:Hid (((p2+1:Nat):Int)=x2):=(by show _=_;rw[← hx2];omega)
    clear hx2
    obtain⟨rfl,hp4,hvl,hpp2,hb2⟩:=ZrD hY2
    dsimp only at HX2 hb2
    have hS12:w2.heap.size≠w4.heap.size:=(by have:=gr4.size;omega)
    have own4:=ZnG own3 gr4 hR1
    have hR2:R<w2.heap.size:=Nat.lt_of_lt_of_le hR1 gr2.size
    have hbox4:=(gr4.block w2.heap.size hsz3 (fun e=>by cases e;omega)).trans hbox1
    have gra4:=Zhe gr3 gr4
    obtain⟨w5,hw5⟩:∃ u,w4.alloc (.cells #[.int .i64 x2,.int .i64 a2,.int .i64 b2,v2] 208)=u:=⟨_,rfl⟩
    have hB5:Below w4.heap.size w4 w5:=(by rw[← hw5];exact (Below.refl _ w4).alloc (Nat.le_refl _) _)
    have hH:Hz wa R w2.heap.size w4.heap.size (.slice lo L.length lc) x1 a1 b1 (.slice v1o (kM o).length v1c) (kM o) x2 a2 b2 v2 (kM vw) p4 w5:=⟨Zhe gra4 (ZkI hB5 _),(hB5.block _ (Array.getElem?_eq_some_iff.1 hbox4).1).trans hbox4,(by rw[← hw5];exact heap_alloc_new _ _),holds_of (ZnI own4 hB5),holds_of (ZnI own2 hB5),qk4.low hB5,gra.size,gra4.size,hS12,hRl1⟩
    obtain⟨v2o,v2c,rfl⟩:=(holds_of own2).form
    clear own2 own3 own4 qk4 gr4 hbox4 hbox1 gra4 hB5 hY2 gr3 gr2 gr1 gra hB3 hsz3 hS12 hR1 hR2
    generalize w2.heap.size=S1 at hH ⊢
    go_upto_region 4 with fail
    clear hw5
    generalize w4.heap.size=S2 at hH ⊢
    obtain⟨c0,c1,c2,c3⟩:=hH.cells1
    obtain⟨d0,d1,d2,d3⟩:=hH.cells2
    have hf1:=hH.fr1
    have hkl:∀ x:Sde,(keptS x).length≤x.length:=fun x=>List.length_filter_le _ _
    by_cases ho0:o=[]
    ·have z1:(((kM o).length:Int) == 0)=true:=(by rw[Zjl.2 ho0];rfl)
     have HO0:Hid (o=[]):=ho0
     clear ho0
     have ck1:=Zdk (kM vw) (.slice v2o (kM vw).length v2c) w5 ⟨hH.n2,nil2⟩ (by rw[Zjk];omega) (kM (keptS vw)) (Zjt vw)
     go_wp2_with fail
     refine ck1.mono ?_
     rintro e wk ⟨vk,rfl,hk1,hk0,hBk⟩
     have HK0:Hid (kM vw=[]→vk=.slice none 0 0):=hk0
     have hHk0:=hH.keep hBk
     obtain⟨k0,k1,k2,k3⟩:=hHk0.cells1
     have kf:=hHk0.fr1
     have hH1:=hHk0.set1 hk1
     obtain⟨ko,kc,rfl⟩:=HMk.form hk1
     clear hH c0 c1 c2 c3 d0 d1 d2 d3 ck1 hk0 hk1 hf1
     obtain⟨O,hO0⟩:∃ O,keptS vw=O:=⟨_,rfl⟩
     have HO:Hid (oldF o vw=O):=(by show _=_;unfold oldF;rw[if_pos HO0.out];exact hO0)
     have hOl:O.length≤137438953472:=(by rw[← hO0];have:=hkl vw;omega)
     have HOk:Hid (keptS vw=O):=hO0
     rw[hO0] at hH1 HK0 ⊢
     clear hO0
     go_upto_region 6 with fail
     generalize wk.setCell ⟨S1,3,none⟩ (.slice ko (kM O).length kc)=u1 at hH1 ⊢
     obtain⟨c0,c1,c2,c3⟩:=hH1.cells1
     obtain⟨d0,d1,d2,d3⟩:=hH1.cells2
     clear k0 k1 k2 k3 kf hHk0
     by_cases hw0:vw=[]
     ·have z2:(((kM vw).length:Int) == 0)=true:=(by rw[Zjl.2 hw0];rfl)
      have HW0:Hid (vw=[]):=hw0
      have hkn:=HK0.out (Zjl.2 hw0)
      clear hw0
      have ck2:=Zdk (kM O) (.slice ko (kM O).length kc) u1 ⟨hH1.n1,fun _=>hkn⟩ (by rw[Zjk];omega) (kM (keptS O)) (Zjt _)
      clear hkn
      go_wp2_with fail
      refine ck2.mono ?_
      rintro e wl ⟨vl,rfl,hl1,_,hBl⟩
      have hHl0:=hH1.keep hBl
      obtain⟨k0,k1,k2,k3⟩:=hHl0.cells2
      have kf:=hHl0.fr2
      have hH2:=hHl0.set2 hl1
      obtain⟨lo1,lc1,rfl⟩:=HMk.form hl1
      clear hH1 c0 c1 c2 c3 d0 d1 d2 d3 ck2 hl1
      obtain⟨V,hV0⟩:∃ V,keptS O=V:=⟨_,rfl⟩
      have hV:newF o vw=V:=(by unfold newF;rw[if_neg (fun h=>h.1 HO0.out),← hV0,← HOk.out,HW0.out];rfl)
      have hVl:V.length≤137438953472:=(by rw[← hV0];have:=hkl O;omega)
      rw[hV0] at hH2 ⊢
      clear hV0
      have HV:Hid (newF o vw=V):=hV
      clear hV
      go_upto_region 8 with fail
      generalize wl.setCell ⟨S2,3,none⟩ (.slice lo1 (kM V).length lc1)=u2 at hH2 ⊢
      clear k0 k1 k2 k3 kf hHl0
      have hH:=hH2
      clear hH2
      have hO:=HO.out
      have hV:=HV.out
      clear HO HV
      have hFin:finH (p+1) (p+2) (p2+1) a1 (sayC (a1,b1)).2 a2 (sayC (a2,b2)).2 o vw=_:=Zgk (p+1) (p+2) (p2+1) (a1,b1) (a2,b2) hb1.2.1 hb2.2.1 o vw O V hO hV
      clear hO hV
      have hOl2:(kM O).length≤137438953472:=(by rw[Zjk];exact hOl)
      have hVl2:(kM V).length≤137438953472:=(by rw[Zjk];exact hVl)
      obtain⟨s1,hs1⟩:∃ r,allM 32 (kM O)=r:=⟨_,rfl⟩
      obtain⟨s2,hs2⟩:∃ r,allM 32 (kM V)=r:=⟨_,rfl⟩
      have hss:(sameS O && sameS V)=(s1 && s2):=(by rw[← hs1,← hs2,ZqQ,ZqQ])
      obtain⟨Yr,hYr⟩:∃ r,rgX (cntR a1 b1 (kM O).length) (cntR a2 b2 (kM V).length) (decide (a1=0) && decide (0<(kM O).length)) (decide (a2=0) && decide (0<(kM V).length)) x1 x2=r:=⟨_,rfl⟩
      obtain⟨Yj,hYj⟩:∃ r,jnX O V=r:=⟨_,rfl⟩
      rw[hss,Hx1.out,Hx2.out,hYr,hYj] at hFin
      have HXc:Hid (outX p p4 (L.drop p4) (s1 && s2) Yr Yj a1 a2 O.length V.length=X):=(by
       show _=_
       rw[← HX2]
       unfold finR outX
       dsimp only
       rw[hFin]
       cases s1 && s2 with
       | true=>rfl
       | false =>
        cases Yr with
        | some az=>rfl
        | none=>cases Yj<;>rfl)
      clear hFin HX2
      have ca1:=fun u (h:HMk u (.slice ko (kM O).length kc) (kM O))=>ZbZ 32 (kM O) _ u h (by omega) s1 hs1
      have ca2:=fun u (h:HMk u (.slice lo1 (kM V).length lc1) (kM V))=>ZbZ 32 (kM V) _ u h (by omega) s2 hs2
      have cr:=fun u=>Zck x1 a1 b1 x2 a2 b2 ko lo1 (kM O).length kc (kM V).length lc1 u hb1.1 hb1.2.2 hb1.2.1 (by omega) hb2.1 hb2.2.2 hb2.2.1 (by omega) Yr hYr
      have cl:=fun u (h1:HMk u (.slice ko (kM O).length kc) (kM O)) (h2:HMk u (.slice lo1 (kM V).length lc1) (kM V))=>Zdn O V _ _ u h1 h2 hOl hVl Yj hYj
      have HYa:Hid (∀ a z,Yr=some (a,z)→((a.toNat:Nat):Int)=a):=(by
       intro a z hz
       have hge:=ZpG (hYr.trans hz)
       have:=Hx1.out
       have:=Hx2.out
       rcases hge with h | h<;>omega)
      clear hs1 hs2 hss hYr hYj
      obtain⟨c0,c1,c2,c3⟩:=hH.cells1
      obtain⟨d0,d1,d2,d3⟩:=hH.cells2
      go_upto_region 8 with fail
      go_cut [40] (fun cv wz=>cv=.bool (s1 && s2)∧Hz wa R S1 S2 (.slice lo L.length lc) x1 a1 b1 (.slice ko (kM O).length kc) (kM O) x2 a2 b2 (.slice lo1 (kM V).length lc1) (kM V) p4 wz)
      case first =>
       go_wp2_with fail
       refine (ca1 _ hH.n1).mono ?_
       rintro e wA ⟨rfl,hBA⟩
       have hHA:=hH.keep hBA
       clear hH c0 c1 c2 c3 d0 d1 d2 d3
       obtain⟨c0,c1,c2,c3⟩:=hHA.cells1
       obtain⟨d0,d1,d2,d3⟩:=hHA.cells2
       cases s1 with
       | false =>
        go_wp2
        go_meet
        case rel=>exact⟨rfl,hHA⟩
       | true =>
        go_wp2_with fail
        refine (ca2 _ hHA.n2).mono ?_
        rintro e wB ⟨rfl,hBB⟩
        have hHB:=hHA.keep hBB
        go_wp2
        go_meet
        case rel=>exact⟨rfl,hHB⟩
      case rest =>
      obtain⟨rfl,hHC⟩:=hcut
      clear hH c0 c1 c2 c3 d0 d1 d2 d3 ca1 ca2
      cases hsb:(s1 && s2) with
      | true =>
       have hXe:X=.error (p+1,50):=(by rw[← HXc.out,hsb];rfl)
       subst hXe
       clear hsb HXc
       go_wp2_with fail
       refine (Zen _ 50 _).mono ?_
       rintro e wD ⟨⟨g,rfl,hg⟩,hBD⟩
       go_wp2
       exact⟨rfl,⟨_,rfl,by simpa using hg⟩,HG.out _ (Zhe hHC.gr (ZkI hBD _))⟩
      | false =>
       have HXd:Hid (outX p p4 (L.drop p4) false Yr Yj a1 a2 O.length V.length=X):=(by show _=_;rw[← HXc.out,hsb])
       clear hsb HXc
       obtain⟨c0,c1,c2,c3⟩:=hHC.cells1
       obtain⟨d0,d1,d2,d3⟩:=hHC.cells2
       cases Yr with
       | some az =>
        obtain⟨za,zz⟩:=az
        have hXe:X=.error (za.toNat,zz):=HXd.out.symm
        subst hXe
        have HZa:=HYa.out _ _ rfl
        have HZb:Hid (((za.toNat:Nat):Int)=za):=HZa
        clear HXd HYa HZa
        go_wp2_with fail
        refine (cr _).mono ?_
        rintro e wD ⟨hBD,g,rfl,hg⟩
        go_wp2
        exact⟨rfl,⟨_,rfl,by rw[HZb.out];exact hg⟩,HG.out _ (Zhe hHC.gr (ZkI hBD _))⟩
       | none =>
        go_wp2_with fail
        refine (cr _).mono ?_
        rintro e wD ⟨hBD,he⟩
        have he2:e=.returned (.tuple #[]):=he
        subst he2
        have hHD:=hHC.keep hBD
        clear hHC c0 c1 c2 c3 d0 d1 d2 d3 cr he
        obtain⟨c0,c1,c2,c3⟩:=hHD.cells1
        obtain⟨d0,d1,d2,d3⟩:=hHD.cells2
        go_wp2_with fail
        refine (cl _ hHD.n1 hHD.n2).mono ?_
        cases Yj with
        | none =>
         rintro e wE ⟨ve,re,rfl,hBE,rfl⟩
         have hXe:X=.error (p+1,190):=HXd.out.symm
         subst hXe
         clear HXd
         go_wp2_with fail
         refine (Zen _ 190 _).mono ?_
         rintro e wF ⟨⟨g,rfl,hg⟩,hBF⟩
         go_wp2
         exact⟨rfl,⟨_,rfl,by simpa using hg⟩,HG.out _ (Zhe (hHD.keep hBE).gr (ZkI hBF _))⟩
        | some lj =>
         rintro e wE ⟨ve,re,rfl,hBE,rfl,hown⟩
         have hXe:X=.ok (⟨a1,O.length,a2,V.length,lj⟩,p4,L.drop p4):=HXd.out.symm
         subst hXe
         clear HXd c0 c1 c2 c3 d0 d1 d2 d3
         have hHE:=hHD.keep hBE
         obtain⟨eo,ec,rfl⟩:=(holds_of hown).form
         have hsz:wD.heap.size ≥ w.heap.size:=(HG.out _ hHD.gr).size
         obtain⟨c0,c1,c2,c3⟩:=hHE.cells1
         obtain⟨d0,d1,d2,d3⟩:=hHE.cells2
         obtain⟨y0,y1,y2,y3,y4,yf⟩:=Zgo hHE.gr HZ.out _ rfl
         have fin:=Zgp hHE.gr HG.out HZ.out hHE.ck (Znz hown hsz) a1 ((kM O).length:Int) a2 ((kM V).length:Int) lj (by
          intro e
          have h1:=ZnH hown e
          have h2:=hHD.gr.size
          have h3:=HZ.out.2.1
          omega)
         obtain⟨fh,fo,fq,fg⟩:=fin
         have yf0:=yf 0
         have yf1:=yf 1
         have yf2:=yf 2
         have yf3:=yf 3
         have yf4:=yf 4
         clear yf hHD hHE hown cl
         have HKl:Hid (((kM O).length:Int)=(O.length:Int)∧((kM V).length:Int)=(V.length:Int)):=⟨by rw[Zjk],by rw[Zjk]⟩
         go_wp2
         refine bodyPost_ret (v:=hkV ⟨a1,((kM O).length:Int),a2,((kM V).length:Int),lj⟩ (.slice eo lj.length ec)) (results_cell_row rfl _ _ w.heap.size 59 #[.int .i64 a1,.int .i64 ((kM O).length:Int),.int .i64 a2,.int .i64 ((kM V).length:Int),.slice eo lj.length ec] (0,0) _ rfl fh Tryz.underlying59 rfl (by kernel_rfl)) rfl ⟨_,by rw[HKl.out.1,HKl.out.2],fo,fq,fg⟩
     ·have z2:(((kM vw).length:Int) == 0)=false:=(by rw[beq_eq_false_iff_ne,Zjk];intro e;exact hw0 (List.eq_nil_of_length_eq_zero (by omega)))
      have HV:Hid (newF o vw=vw):=(by show _=_;unfold newF;rw[if_neg (fun h=>hw0 h.2)])
      clear hw0
      have hvl3:vw.length≤137438953472:=by omega
      go_upto_region 8 with fail
      have hH:=hH1
      clear hH1 c0 c1 c2 c3 d0 d1 d2 d3
      have hO:=HO.out
      have hV:=HV.out
      clear HO HV
      have hFin:finH (p+1) (p+2) (p2+1) a1 (sayC (a1,b1)).2 a2 (sayC (a2,b2)).2 o vw=_:=Zgk (p+1) (p+2) (p2+1) (a1,b1) (a2,b2) hb1.2.1 hb2.2.1 o vw O vw hO hV
      clear hO hV
      have hOl2:(kM O).length≤137438953472:=(by rw[Zjk];exact hOl)
      have hvl32:(kM vw).length≤137438953472:=(by rw[Zjk];exact hvl3)
      obtain⟨s1,hs1⟩:∃ r,allM 32 (kM O)=r:=⟨_,rfl⟩
      obtain⟨s2,hs2⟩:∃ r,allM 32 (kM vw)=r:=⟨_,rfl⟩
      have hss:(sameS O && sameS vw)=(s1 && s2):=(by rw[← hs1,← hs2,ZqQ,ZqQ])
      obtain⟨Yr,hYr⟩:∃ r,rgX (cntR a1 b1 (kM O).length) (cntR a2 b2 (kM vw).length) (decide (a1=0) && decide (0<(kM O).length)) (decide (a2=0) && decide (0<(kM vw).length)) x1 x2=r:=⟨_,rfl⟩
      obtain⟨Yj,hYj⟩:∃ r,jnX O vw=r:=⟨_,rfl⟩
      rw[hss,Hx1.out,Hx2.out,hYr,hYj] at hFin
      have HXc:Hid (outX p p4 (L.drop p4) (s1 && s2) Yr Yj a1 a2 O.length vw.length=X):=(by
       show _=_
       rw[← HX2]
       unfold finR outX
       dsimp only
       rw[hFin]
       cases s1 && s2 with
       | true=>rfl
       | false =>
        cases Yr with
        | some az=>rfl
        | none=>cases Yj<;>rfl)
      clear hFin HX2
      have ca1:=fun u (h:HMk u (.slice ko (kM O).length kc) (kM O))=>ZbZ 32 (kM O) _ u h (by omega) s1 hs1
      have ca2:=fun u (h:HMk u (.slice v2o (kM vw).length v2c) (kM vw))=>ZbZ 32 (kM vw) _ u h (by omega) s2 hs2
      have cr:=fun u=>Zck x1 a1 b1 x2 a2 b2 ko v2o (kM O).length kc (kM vw).length v2c u hb1.1 hb1.2.2 hb1.2.1 (by omega) hb2.1 hb2.2.2 hb2.2.1 (by omega) Yr hYr
      have cl:=fun u (h1:HMk u (.slice ko (kM O).length kc) (kM O)) (h2:HMk u (.slice v2o (kM vw).length v2c) (kM vw))=>Zdn O vw _ _ u h1 h2 hOl hvl3 Yj hYj
      have HYa:Hid (∀ a z,Yr=some (a,z)→((a.toNat:Nat):Int)=a):=(by
       intro a z hz
       have hge:=ZpG (hYr.trans hz)
       have:=Hx1.out
       have:=Hx2.out
       rcases hge with h | h<;>omega)
      clear hs1 hs2 hss hYr hYj
      obtain⟨c0,c1,c2,c3⟩:=hH.cells1
      obtain⟨d0,d1,d2,d3⟩:=hH.cells2
      go_upto_region 8 with fail
      go_cut [40] (fun cv wz=>cv=.bool (s1 && s2)∧Hz wa R S1 S2 (.slice lo L.length lc) x1 a1 b1 (.slice ko (kM O).length kc) (kM O) x2 a2 b2 (.slice v2o (kM vw).length v2c) (kM vw) p4 wz)
      case first =>
       go_wp2_with fail
       refine (ca1 _ hH.n1).mono ?_
       rintro e wA ⟨rfl,hBA⟩
       have hHA:=hH.keep hBA
       clear hH c0 c1 c2 c3 d0 d1 d2 d3
       obtain⟨c0,c1,c2,c3⟩:=hHA.cells1
       obtain⟨d0,d1,d2,d3⟩:=hHA.cells2
       cases s1 with
       | false =>
        go_wp2
        go_meet
        case rel=>exact⟨rfl,hHA⟩
       | true =>
        go_wp2_with fail
        refine (ca2 _ hHA.n2).mono ?_
        rintro e wB ⟨rfl,hBB⟩
        have hHB:=hHA.keep hBB
        go_wp2
        go_meet
        case rel=>exact⟨rfl,hHB⟩
      case rest =>
      obtain⟨rfl,hHC⟩:=hcut
      clear hH c0 c1 c2 c3 d0 d1 d2 d3 ca1 ca2
      cases hsb:(s1 && s2) with
      | true =>
       have hXe:X=.error (p+1,50):=(by rw[← HXc.out,hsb];rfl)
       subst hXe
       clear hsb HXc
       go_wp2_with fail
       refine (Zen _ 50 _).mono ?_
       rintro e wD ⟨⟨g,rfl,hg⟩,hBD⟩
       go_wp2
       exact⟨rfl,⟨_,rfl,by simpa using hg⟩,HG.out _ (Zhe hHC.gr (ZkI hBD _))⟩
      | false =>
       have HXd:Hid (outX p p4 (L.drop p4) false Yr Yj a1 a2 O.length vw.length=X):=(by show _=_;rw[← HXc.out,hsb])
       clear hsb HXc
       obtain⟨c0,c1,c2,c3⟩:=hHC.cells1
       obtain⟨d0,d1,d2,d3⟩:=hHC.cells2
       cases Yr with
       | some az =>
        obtain⟨za,zz⟩:=az
        have hXe:X=.error (za.toNat,zz):=HXd.out.symm
        subst hXe
        have HZa:=HYa.out _ _ rfl
        have HZb:Hid (((za.toNat:Nat):Int)=za):=HZa
        clear HXd HYa HZa
        go_wp2_with fail
        refine (cr _).mono ?_
        rintro e wD ⟨hBD,g,rfl,hg⟩
        go_wp2
        exact⟨rfl,⟨_,rfl,by rw[HZb.out];exact hg⟩,HG.out _ (Zhe hHC.gr (ZkI hBD _))⟩
       | none =>
        go_wp2_with fail
        refine (cr _).mono ?_
        rintro e wD ⟨hBD,he⟩
        have he2:e=.returned (.tuple #[]):=he
        subst he2
        have hHD:=hHC.keep hBD
        clear hHC c0 c1 c2 c3 d0 d1 d2 d3 cr he
        obtain⟨c0,c1,c2,c3⟩:=hHD.cells1
        obtain⟨d0,d1,d2,d3⟩:=hHD.cells2
        go_wp2_with fail
        refine (cl _ hHD.n1 hHD.n2).mono ?_
        cases Yj with
        | none =>
         rintro e wE ⟨ve,re,rfl,hBE,rfl⟩
         have hXe:X=.error (p+1,190):=HXd.out.symm
         subst hXe
         clear HXd
         go_wp2_with fail
         refine (Zen _ 190 _).mono ?_
         rintro e wF ⟨⟨g,rfl,hg⟩,hBF⟩
         go_wp2
         exact⟨rfl,⟨_,rfl,by simpa using hg⟩,HG.out _ (Zhe (hHD.keep hBE).gr (ZkI hBF _))⟩
        | some lj =>
         rintro e wE ⟨ve,re,rfl,hBE,rfl,hown⟩
         have hXe:X=.ok (⟨a1,O.length,a2,vw.length,lj⟩,p4,L.drop p4):=HXd.out.symm
         subst hXe
         clear HXd c0 c1 c2 c3 d0 d1 d2 d3
         have hHE:=hHD.keep hBE
         obtain⟨eo,ec,rfl⟩:=(holds_of hown).form
         have hsz:wD.heap.size ≥ w.heap.size:=(HG.out _ hHD.gr).size
         obtain⟨c0,c1,c2,c3⟩:=hHE.cells1
         obtain⟨d0,d1,d2,d3⟩:=hHE.cells2
         obtain⟨y0,y1,y2,y3,y4,yf⟩:=Zgo hHE.gr HZ.out _ rfl
         have fin:=Zgp hHE.gr HG.out HZ.out hHE.ck (Znz hown hsz) a1 ((kM O).length:Int) a2 ((kM vw).length:Int) lj (by
          intro e
          have h1:=ZnH hown e
          have h2:=hHD.gr.size
          have h3:=HZ.out.2.1
          omega)
         obtain⟨fh,fo,fq,fg⟩:=fin
         have yf0:=yf 0
         have yf1:=yf 1
         have yf2:=yf 2
         have yf3:=yf 3
         have yf4:=yf 4
         clear yf hHD hHE hown cl
         have HKl:Hid (((kM O).length:Int)=(O.length:Int)∧((kM vw).length:Int)=(vw.length:Int)):=⟨by rw[Zjk],by rw[Zjk]⟩
         go_wp2
         refine bodyPost_ret (v:=hkV ⟨a1,((kM O).length:Int),a2,((kM vw).length:Int),lj⟩ (.slice eo lj.length ec)) (results_cell_row rfl _ _ w.heap.size 59 #[.int .i64 a1,.int .i64 ((kM O).length:Int),.int .i64 a2,.int .i64 ((kM vw).length:Int),.slice eo lj.length ec] (0,0) _ rfl fh Tryz.underlying59 rfl (by kernel_rfl)) rfl ⟨_,by rw[HKl.out.1,HKl.out.2],fo,fq,fg⟩
    ·have z1:(((kM o).length:Int) == 0)=false:=(by rw[beq_eq_false_iff_ne,Zjk];intro e;exact ho0 (List.eq_nil_of_length_eq_zero (by omega)))
     have HO0:Hid (o≠[]):=ho0
     have HO:Hid (oldF o vw=o):=(by show _=_;unfold oldF;rw[if_neg ho0])
     clear ho0
     go_upto_region 6 with fail
     by_cases hw0:vw=[]
     ·have z2:(((kM vw).length:Int) == 0)=true:=(by rw[Zjl.2 hw0];rfl)
      have HW0:Hid (vw=[]):=hw0
      clear hw0
      have ck2:=Zdk (kM o) (.slice v1o (kM o).length v1c) w5 ⟨hH.n1,nil1⟩ (by rw[Zjk];omega) (kM (keptS o)) (Zjt _)
      have hH1:=hH
      clear hH
      go_wp2_with fail
      refine ck2.mono ?_
      rintro e wl ⟨vl,rfl,hl1,_,hBl⟩
      have hHl0:=hH1.keep hBl
      obtain⟨k0,k1,k2,k3⟩:=hHl0.cells2
      have kf:=hHl0.fr2
      have hH2:=hHl0.set2 hl1
      obtain⟨lo1,lc1,rfl⟩:=HMk.form hl1
      clear hH1 c0 c1 c2 c3 d0 d1 d2 d3 ck2 hl1
      obtain⟨V,hV0⟩:∃ V,keptS o=V:=⟨_,rfl⟩
      have hV:newF o vw=V:=(by unfold newF;rw[if_pos ⟨HO0.out,HW0.out⟩];exact hV0)
      have hVl:V.length≤137438953472:=(by rw[← hV0];have:=hkl o;omega)
      rw[hV0] at hH2 ⊢
      clear hV0
      have HV:Hid (newF o vw=V):=hV
      clear hV
      go_upto_region 8 with fail
      generalize wl.setCell ⟨S2,3,none⟩ (.slice lo1 (kM V).length lc1)=u2 at hH2 ⊢
      clear k0 k1 k2 k3 kf hHl0
      have hH:=hH2
      have hol3:o.length≤137438953472:=by omega
      clear hH2
      have hO:=HO.out
      have hV:=HV.out
      clear HO HV
      have hFin:finH (p+1) (p+2) (p2+1) a1 (sayC (a1,b1)).2 a2 (sayC (a2,b2)).2 o vw=_:=Zgk (p+1) (p+2) (p2+1) (a1,b1) (a2,b2) hb1.2.1 hb2.2.1 o vw o V hO hV
      clear hO hV
      have hol32:(kM o).length≤137438953472:=(by rw[Zjk];exact hol3)
      have hVl2:(kM V).length≤137438953472:=(by rw[Zjk];exact hVl)
      obtain⟨s1,hs1⟩:∃ r,allM 32 (kM o)=r:=⟨_,rfl⟩
      obtain⟨s2,hs2⟩:∃ r,allM 32 (kM V)=r:=⟨_,rfl⟩
      have hss:(sameS o && sameS V)=(s1 && s2):=(by rw[← hs1,← hs2,ZqQ,ZqQ])
      obtain⟨Yr,hYr⟩:∃ r,rgX (cntR a1 b1 (kM o).length) (cntR a2 b2 (kM V).length) (decide (a1=0) && decide (0<(kM o).length)) (decide (a2=0) && decide (0<(kM V).length)) x1 x2=r:=⟨_,rfl⟩
      obtain⟨Yj,hYj⟩:∃ r,jnX o V=r:=⟨_,rfl⟩
      rw[hss,Hx1.out,Hx2.out,hYr,hYj] at hFin
      have HXc:Hid (outX p p4 (L.drop p4) (s1 && s2) Yr Yj a1 a2 o.length V.length=X):=(by
       show _=_
       rw[← HX2]
       unfold finR outX
       dsimp only
       rw[hFin]
       cases s1 && s2 with
       | true=>rfl
       | false =>
        cases Yr with
        | some az=>rfl
        | none=>cases Yj<;>rfl)
      clear hFin HX2
      have ca1:=fun u (h:HMk u (.slice v1o (kM o).length v1c) (kM o))=>ZbZ 32 (kM o) _ u h (by omega) s1 hs1
      have ca2:=fun u (h:HMk u (.slice lo1 (kM V).length lc1) (kM V))=>ZbZ 32 (kM V) _ u h (by omega) s2 hs2
      have cr:=fun u=>Zck x1 a1 b1 x2 a2 b2 v1o lo1 (kM o).length v1c (kM V).length lc1 u hb1.1 hb1.2.2 hb1.2.1 (by omega) hb2.1 hb2.2.2 hb2.2.1 (by omega) Yr hYr
      have cl:=fun u (h1:HMk u (.slice v1o (kM o).length v1c) (kM o)) (h2:HMk u (.slice lo1 (kM V).length lc1) (kM V))=>Zdn o V _ _ u h1 h2 hol3 hVl Yj hYj
      have HYa:Hid (∀ a z,Yr=some (a,z)→((a.toNat:Nat):Int)=a):=(by
       intro a z hz
       have hge:=ZpG (hYr.trans hz)
       have:=Hx1.out
       have:=Hx2.out
       rcases hge with h | h<;>omega)
      clear hs1 hs2 hss hYr hYj
      obtain⟨c0,c1,c2,c3⟩:=hH.cells1
      obtain⟨d0,d1,d2,d3⟩:=hH.cells2
      go_upto_region 8 with fail
      go_cut [40] (fun cv wz=>cv=.bool (s1 && s2)∧Hz wa R S1 S2 (.slice lo L.length lc) x1 a1 b1 (.slice v1o (kM o).length v1c) (kM o) x2 a2 b2 (.slice lo1 (kM V).length lc1) (kM V) p4 wz)
      case first =>
       go_wp2_with fail
       refine (ca1 _ hH.n1).mono ?_
       rintro e wA ⟨rfl,hBA⟩
       have hHA:=hH.keep hBA
       clear hH c0 c1 c2 c3 d0 d1 d2 d3
       obtain⟨c0,c1,c2,c3⟩:=hHA.cells1
       obtain⟨d0,d1,d2,d3⟩:=hHA.cells2
       cases s1 with
       | false =>
        go_wp2
        go_meet
        case rel=>exact⟨rfl,hHA⟩
       | true =>
        go_wp2_with fail
        refine (ca2 _ hHA.n2).mono ?_
        rintro e wB ⟨rfl,hBB⟩
        have hHB:=hHA.keep hBB
        go_wp2
        go_meet
        case rel=>exact⟨rfl,hHB⟩
      case rest =>
      obtain⟨rfl,hHC⟩:=hcut
      clear hH c0 c1 c2 c3 d0 d1 d2 d3 ca1 ca2
      cases hsb:(s1 && s2) with
      | true =>
       have hXe:X=.error (p+1,50):=(by rw[← HXc.out,hsb];rfl)
       subst hXe
       clear hsb HXc
       go_wp2_with fail
       refine (Zen _ 50 _).mono ?_
       rintro e wD ⟨⟨g,rfl,hg⟩,hBD⟩
       go_wp2
       exact⟨rfl,⟨_,rfl,by simpa using hg⟩,HG.out _ (Zhe hHC.gr (ZkI hBD _))⟩
      | false =>
       have HXd:Hid (outX p p4 (L.drop p4) false Yr Yj a1 a2 o.length V.length=X):=(by show _=_;rw[← HXc.out,hsb])
       clear hsb HXc
       obtain⟨c0,c1,c2,c3⟩:=hHC.cells1
       obtain⟨d0,d1,d2,d3⟩:=hHC.cells2
       cases Yr with
       | some az =>
        obtain⟨za,zz⟩:=az
        have hXe:X=.error (za.toNat,zz):=HXd.out.symm
        subst hXe
        have HZa:=HYa.out _ _ rfl
        have HZb:Hid (((za.toNat:Nat):Int)=za):=HZa
        clear HXd HYa HZa
        go_wp2_with fail
        refine (cr _).mono ?_
        rintro e wD ⟨hBD,g,rfl,hg⟩
        go_wp2
        exact⟨rfl,⟨_,rfl,by rw[HZb.out];exact hg⟩,HG.out _ (Zhe hHC.gr (ZkI hBD _))⟩
       | none =>
        go_wp2_with fail
        refine (cr _).mono ?_
        rintro e wD ⟨hBD,he⟩
        have he2:e=.returned (.tuple #[]):=he
        subst he2
        have hHD:=hHC.keep hBD
        clear hHC c0 c1 c2 c3 d0 d1 d2 d3 cr he
        obtain⟨c0,c1,c2,c3⟩:=hHD.cells1
        obtain⟨d0,d1,d2,d3⟩:=hHD.cells2
        go_wp2_with fail
        refine (cl _ hHD.n1 hHD.n2).mono ?_
        cases Yj with
        | none =>
         rintro e wE ⟨ve,re,rfl,hBE,rfl⟩
         have hXe:X=.error (p+1,190):=HXd.out.symm
         subst hXe
         clear HXd
         go_wp2_with fail
         refine (Zen _ 190 _).mono ?_
         rintro e wF ⟨⟨g,rfl,hg⟩,hBF⟩
         go_wp2
         exact⟨rfl,⟨_,rfl,by simpa using hg⟩,HG.out _ (Zhe (hHD.keep hBE).gr (ZkI hBF _))⟩
        | some lj =>
         rintro e wE ⟨ve,re,rfl,hBE,rfl,hown⟩
         have hXe:X=.ok (⟨a1,o.length,a2,V.length,lj⟩,p4,L.drop p4):=HXd.out.symm
         subst hXe
         clear HXd c0 c1 c2 c3 d0 d1 d2 d3
         have hHE:=hHD.keep hBE
         obtain⟨eo,ec,rfl⟩:=(holds_of hown).form
         have hsz:wD.heap.size ≥ w.heap.size:=(HG.out _ hHD.gr).size
         obtain⟨c0,c1,c2,c3⟩:=hHE.cells1
         obtain⟨d0,d1,d2,d3⟩:=hHE.cells2
         obtain⟨y0,y1,y2,y3,y4,yf⟩:=Zgo hHE.gr HZ.out _ rfl
         have fin:=Zgp hHE.gr HG.out HZ.out hHE.ck (Znz hown hsz) a1 ((kM o).length:Int) a2 ((kM V).length:Int) lj (by
          intro e
          have h1:=ZnH hown e
          have h2:=hHD.gr.size
          have h3:=HZ.out.2.1
          omega)
         obtain⟨fh,fo,fq,fg⟩:=fin
         have yf0:=yf 0
         have yf1:=yf 1
         have yf2:=yf 2
         have yf3:=yf 3
         have yf4:=yf 4
         clear yf hHD hHE hown cl
         have HKl:Hid (((kM o).length:Int)=(o.length:Int)∧((kM V).length:Int)=(V.length:Int)):=⟨by rw[Zjk],by rw[Zjk]⟩
         go_wp2
         refine bodyPost_ret (v:=hkV ⟨a1,((kM o).length:Int),a2,((kM V).length:Int),lj⟩ (.slice eo lj.length ec)) (results_cell_row rfl _ _ w.heap.size 59 #[.int .i64 a1,.int .i64 ((kM o).length:Int),.int .i64 a2,.int .i64 ((kM V).length:Int),.slice eo lj.length ec] (0,0) _ rfl fh Tryz.underlying59 rfl (by kernel_rfl)) rfl ⟨_,by rw[HKl.out.1,HKl.out.2],fo,fq,fg⟩
     ·have z2:(((kM vw).length:Int) == 0)=false:=(by rw[beq_eq_false_iff_ne,Zjk];intro e;exact hw0 (List.eq_nil_of_length_eq_zero (by omega)))
      have HV:Hid (newF o vw=vw):=(by show _=_;unfold newF;rw[if_neg (fun h=>hw0 h.2)])
      clear hw0
      have hol3:o.length≤137438953472:=by omega
      have hvl3:vw.length≤137438953472:=by omega
      go_upto_region 8 with fail
      clear c0 c1 c2 c3 d0 d1 d2 d3
      have hO:=HO.out
      have hV:=HV.out
      clear HO HV
      have hFin:finH (p+1) (p+2) (p2+1) a1 (sayC (a1,b1)).2 a2 (sayC (a2,b2)).2 o vw=_:=Zgk (p+1) (p+2) (p2+1) (a1,b1) (a2,b2) hb1.2.1 hb2.2.1 o vw o vw hO hV
      clear hO hV
      have hol32:(kM o).length≤137438953472:=(by rw[Zjk];exact hol3)
      have hvl32:(kM vw).length≤137438953472:=(by rw[Zjk];exact hvl3)
      obtain⟨s1,hs1⟩:∃ r,allM 32 (kM o)=r:=⟨_,rfl⟩
      obtain⟨s2,hs2⟩:∃ r,allM 32 (kM vw)=r:=⟨_,rfl⟩
      have hss:(sameS o && sameS vw)=(s1 && s2):=(by rw[← hs1,← hs2,ZqQ,ZqQ])
      obtain⟨Yr,hYr⟩:∃ r,rgX (cntR a1 b1 (kM o).length) (cntR a2 b2 (kM vw).length) (decide (a1=0) && decide (0<(kM o).length)) (decide (a2=0) && decide (0<(kM vw).length)) x1 x2=r:=⟨_,rfl⟩
      obtain⟨Yj,hYj⟩:∃ r,jnX o vw=r:=⟨_,rfl⟩
      rw[hss,Hx1.out,Hx2.out,hYr,hYj] at hFin
      have HXc:Hid (outX p p4 (L.drop p4) (s1 && s2) Yr Yj a1 a2 o.length vw.length=X):=(by
       show _=_
       rw[← HX2]
       unfold finR outX
       dsimp only
       rw[hFin]
       cases s1 && s2 with
       | true=>rfl
       | false =>
        cases Yr with
        | some az=>rfl
        | none=>cases Yj<;>rfl)
      clear hFin HX2
      have ca1:=fun u (h:HMk u (.slice v1o (kM o).length v1c) (kM o))=>ZbZ 32 (kM o) _ u h (by omega) s1 hs1
      have ca2:=fun u (h:HMk u (.slice v2o (kM vw).length v2c) (kM vw))=>ZbZ 32 (kM vw) _ u h (by omega) s2 hs2
      have cr:=fun u=>Zck x1 a1 b1 x2 a2 b2 v1o v2o (kM o).length v1c (kM vw).length v2c u hb1.1 hb1.2.2 hb1.2.1 (by omega) hb2.1 hb2.2.2 hb2.2.1 (by omega) Yr hYr
      have cl:=fun u (h1:HMk u (.slice v1o (kM o).length v1c) (kM o)) (h2:HMk u (.slice v2o (kM vw).length v2c) (kM vw))=>Zdn o vw _ _ u h1 h2 hol3 hvl3 Yj hYj
      have HYa:Hid (∀ a z,Yr=some (a,z)→((a.toNat:Nat):Int)=a):=(by
       intro a z hz
       have hge:=ZpG (hYr.trans hz)
       have:=Hx1.out
       have:=Hx2.out
       rcases hge with h | h<;>omega)
      clear hs1 hs2 hss hYr hYj
      obtain⟨c0,c1,c2,c3⟩:=hH.cells1
      obtain⟨d0,d1,d2,d3⟩:=hH.cells2
      go_upto_region 8 with fail
      go_cut [40] (fun cv wz=>cv=.bool (s1 && s2)∧Hz wa R S1 S2 (.slice lo L.length lc) x1 a1 b1 (.slice v1o (kM o).length v1c) (kM o) x2 a2 b2 (.slice v2o (kM vw).length v2c) (kM vw) p4 wz)
      case first =>
       go_wp2_with fail
       refine (ca1 _ hH.n1).mono ?_
       rintro e wA ⟨rfl,hBA⟩
       have hHA:=hH.keep hBA
       clear hH c0 c1 c2 c3 d0 d1 d2 d3
       obtain⟨c0,c1,c2,c3⟩:=hHA.cells1
       obtain⟨d0,d1,d2,d3⟩:=hHA.cells2
       cases s1 with
       | false =>
        go_wp2
        go_meet
        case rel=>exact⟨rfl,hHA⟩
       | true =>
        go_wp2_with fail
        refine (ca2 _ hHA.n2).mono ?_
        rintro e wB ⟨rfl,hBB⟩
        have hHB:=hHA.keep hBB
        go_wp2
        go_meet
        case rel=>exact⟨rfl,hHB⟩
      case rest =>
      obtain⟨rfl,hHC⟩:=hcut
      clear hH c0 c1 c2 c3 d0 d1 d2 d3 ca1 ca2
      cases hsb:(s1 && s2) with
      | true =>
       have hXe:X=.error (p+1,50):=(by rw[← HXc.out,hsb];rfl)
       subst hXe
       clear hsb HXc
       go_wp2_with fail
       refine (Zen _ 50 _).mono ?_
       rintro e wD ⟨⟨g,rfl,hg⟩,hBD⟩
       go_wp2
       exact⟨rfl,⟨_,rfl,by simpa using hg⟩,HG.out _ (Zhe hHC.gr (ZkI hBD _))⟩
      | false =>
       have HXd:Hid (outX p p4 (L.drop p4) false Yr Yj a1 a2 o.length vw.length=X):=(by show _=_;rw[← HXc.out,hsb])
       clear hsb HXc
       obtain⟨c0,c1,c2,c3⟩:=hHC.cells1
       obtain⟨d0,d1,d2,d3⟩:=hHC.cells2
       cases Yr with
       | some az =>
        obtain⟨za,zz⟩:=az
        have hXe:X=.error (za.toNat,zz):=HXd.out.symm
        subst hXe
        have HZa:=HYa.out _ _ rfl
        have HZb:Hid (((za.toNat:Nat):Int)=za):=HZa
        clear HXd HYa HZa
        go_wp2_with fail
        refine (cr _).mono ?_
        rintro e wD ⟨hBD,g,rfl,hg⟩
        go_wp2
        exact⟨rfl,⟨_,rfl,by rw[HZb.out];exact hg⟩,HG.out _ (Zhe hHC.gr (ZkI hBD _))⟩
       | none =>
        go_wp2_with fail
        refine (cr _).mono ?_
        rintro e wD ⟨hBD,he⟩
        have he2:e=.returned (.tuple #[]):=he
        subst he2
        have hHD:=hHC.keep hBD
        clear hHC c0 c1 c2 c3 d0 d1 d2 d3 cr he
        obtain⟨c0,c1,c2,c3⟩:=hHD.cells1
        obtain⟨d0,d1,d2,d3⟩:=hHD.cells2
        go_wp2_with fail
        refine (cl _ hHD.n1 hHD.n2).mono ?_
        cases Yj with
        | none =>
         rintro e wE ⟨ve,re,rfl,hBE,rfl⟩
         have hXe:X=.error (p+1,190):=HXd.out.symm
         subst hXe
         clear HXd
         go_wp2_with fail
         refine (Zen _ 190 _).mono ?_
         rintro e wF ⟨⟨g,rfl,hg⟩,hBF⟩
         go_wp2
         exact⟨rfl,⟨_,rfl,by simpa using hg⟩,HG.out _ (Zhe (hHD.keep hBE).gr (ZkI hBF _))⟩
        | some lj =>
         rintro e wE ⟨ve,re,rfl,hBE,rfl,hown⟩
         have hXe:X=.ok (⟨a1,o.length,a2,vw.length,lj⟩,p4,L.drop p4):=HXd.out.symm
         subst hXe
         clear HXd c0 c1 c2 c3 d0 d1 d2 d3
         have hHE:=hHD.keep hBE
         obtain⟨eo,ec,rfl⟩:=(holds_of hown).form
         have hsz:wD.heap.size ≥ w.heap.size:=(HG.out _ hHD.gr).size
         obtain⟨c0,c1,c2,c3⟩:=hHE.cells1
         obtain⟨d0,d1,d2,d3⟩:=hHE.cells2
         obtain⟨y0,y1,y2,y3,y4,yf⟩:=Zgo hHE.gr HZ.out _ rfl
         have fin:=Zgp hHE.gr HG.out HZ.out hHE.ck (Znz hown hsz) a1 ((kM o).length:Int) a2 ((kM vw).length:Int) lj (by
          intro e
          have h1:=ZnH hown e
          have h2:=hHD.gr.size
          have h3:=HZ.out.2.1
          omega)
         obtain⟨fh,fo,fq,fg⟩:=fin
         have yf0:=yf 0
         have yf1:=yf 1
         have yf2:=yf 2
         have yf3:=yf 3
         have yf4:=yf 4
         clear yf hHD hHE hown cl
         have HKl:Hid (((kM o).length:Int)=(o.length:Int)∧((kM vw).length:Int)=(vw.length:Int)):=⟨by rw[Zjk],by rw[Zjk]⟩
         go_wp2
         refine bodyPost_ret (v:=hkV ⟨a1,((kM o).length:Int),a2,((kM vw).length:Int),lj⟩ (.slice eo lj.length ec)) (results_cell_row rfl _ _ w.heap.size 59 #[.int .i64 a1,.int .i64 ((kM o).length:Int),.int .i64 a2,.int .i64 ((kM vw).length:Int),.slice eo lj.length ec] (0,0) _ rfl fh Tryz.underlying59 rfl (by kernel_rfl)) rfl ⟨_,by rw[HKl.out.1,HKl.out.2],fo,fq,fg⟩
end

section
open Go.RowKit
theorem ZeJ {k p:Nat} {L r:List (List UInt8)} {h:Hk} {p1:Nat} (hk:k≤4096) (hh:cxH k p (L.drop p)=.ok (h,p1,r)):r=L.drop p1∧p<p1∧p1≤L.length∧k<4096:=by
 rw[ZhS] at hh
 cases hs:starsP k p (L.drop p) with
 | error e=>rw[hs] at hh;cases hh
 | ok r0 =>
  obtain⟨rfl,hp⟩:=Zso hs
  rw[hs] at hh
  dsimp only at hh
  have hk2:k<4096:=by
   unfold starsP at hs
   cases hn:nxt p (L.drop p) with
   | error x=>rw[hn] at hs;cases hs
   | ok z =>
    obtain⟨s,r1⟩:=z
    rw[hn] at hs
    dsimp only at hs
    split at hs
    ·split at hs
     ·cases hs
     ·omega
    ·cases hs
  cases h1:sidR 42 45 (p+1) (L.drop (p+1)) with
  | error e=>rw[h1] at hh;cases hh
  | ok z =>
   obtain⟨q1,o,p2,r2⟩:=z
   obtain⟨rfl,b1,_,b2,_⟩:=ZrD h1
   rw[h1] at hh
   dsimp only at hh
   cases h2:sidR 45 43 p2 (L.drop p2) with
   | error e=>rw[h2] at hh;cases hh
   | ok z =>
    obtain⟨q2,w,p4,r4⟩:=z
    obtain⟨rfl,c1,_,c2,_⟩:=ZrD h2
    rw[h2] at hh
    dsimp only at hh
    unfold finR at hh
    split at hh
    ·cases hh
    ·injection hh with hh
     injection hh with e1 e2
     injection e2 with e2 e3
     subst e2 e3
     exact⟨rfl,by omega,c1,hk2⟩
def thenX (l:List Hk) (X:Except (Nat × Int) (List Hk × Nat × List (List UInt8))):Except (Nat × Int) (List Hk × Nat × List (List UInt8)) :=
 match X with
 | .error e=>.error e
 | .ok (m,p,r)=>.ok (l++m,p,r)
theorem ZsI (X:Except (Nat × Int) (List Hk × Nat × List (List UInt8))):thenX [] X=X:=by
 rcases X with e | ⟨l,p,r⟩<;>rfl
def conH (f k p:Nat) (r:List (List UInt8)):Except (Nat × Int) (List Hk × Nat × List (List UInt8)):=if pkS r=true then cxHs f k p r else .ok ([],p,r)
theorem ZeL (f k p:Nat) (ls:List (List UInt8)) (l:List Hk):thenX l (cxHs (f+1) k p ls)=match cxH k p ls with
  | .error e=>.error e
  | .ok (h,p1,r)=>thenX (l++[h]) (conH f (k+1) p1 r):=by
 simp only[cxHs]
 cases cxH k p ls with
 | error e=>rfl
 | ok z =>
  obtain⟨h,p1,r⟩:=z
  dsimp only
  unfold conH
  split
  ·cases cxHs f (k+1) p1 r with
   | error e=>rfl
   | ok z=>simp[thenX]
  ·simp[thenX]
def lefH (P:List (Hk × Value)) (f p:Nat) (r:List (List UInt8)):Except (Nat × Int) (List Hk × Nat × List (List UInt8)):=thenX (P.map (·.1)) (if P=[] then cxHs f 0 p r else conH f P.length p r)
def patP (k p:Nat) (ls:List (List UInt8)):Except (Nat × Int) (Pth × Nat × List (List UInt8)) :=
 match namP [42,42,42,32] p ls with
 | .error e=>.error e
 | .ok (n1,r1)=>if 64≤k then .error (p+1,9) else match namP [45,45,45,32] (p+1) r1 with
  | .error e=>.error e
  | .ok (n2,r2)=>match cxHs (r2.length+1) 0 (p+2) r2 with
   | .error e=>.error e
   | .ok (hs,p3,r3)=>.ok (⟨n1,n2,hs⟩,p3,r3)
theorem ZeM (f k p:Nat) (ls:List (List UInt8)):cxPs (f+1) k p ls=if ls=[] then .ok [] else match patP k p ls with
  | .error e=>.error e
  | .ok (x,p3,r3)=>match cxPs f (k+1) p3 r3 with
   | .error e=>.error e
   | .ok l=>.ok (x::l):=by
 simp only[cxPs]
 split
 ·rfl
 ·unfold patP
  cases namP [42,42,42,32] p ls with
  | error e=>rfl
  | ok z =>
   obtain⟨n1,r1⟩:=z
   dsimp only
   split
   ·rfl
   ·cases namP [45,45,45,32] (p+1) r1 with
    | error e=>rfl
    | ok z =>
     obtain⟨n2,r2⟩:=z
     dsimp only
     cases cxHs (r2.length+1) 0 (p+2) r2 with
     | error e=>rfl
     | ok z=>rfl
theorem Zma {hd:List UInt8} {p:Nat} {L r:List (List UInt8)} {n:List UInt8} (h:namP hd p (L.drop p)=.ok (n,r)):r=L.drop (p+1)∧p<L.length:=by
 unfold namP at h
 cases hn:nxt p (L.drop p) with
 | error x=>rw[hn] at h;cases h
 | ok z =>
  obtain⟨s,r0⟩:=z
  rw[hn] at h
  obtain⟨h1,h2,_⟩:=Znf hn
  dsimp only at h
  split at h
  ·split at h
   ·cases h
   ·injection h with h
    injection h with e1 e2
    exact⟨by rw[← e2,h1],h2⟩
  ·cases h
structure Pzc (wb:World) (R S:Nat) (vL:Value) (n1 n2:List UInt8) (hv:Value) (P:List (Hk × Value)) (p:Nat) (u:World):Prop where
 gr:wb.grownBy u (some R)
 box:u.heap[S]?=some (.cells #[.string ⟨n1.toArray⟩,.string ⟨n2.toArray⟩,hv] 55)
 own:u.ownsRow wb.heap.size 59 5 hv P.length (hkcells P)
 ins:∀ x∈P,u.ownsRow wb.heap.size 103 2 x.2 x.1.ls.length (mkcells x.1.ls)
 ck:Ck u R vL (p:Int)
 ge:wb.heap.size≤S
 rl:R<wb.heap.size
section
variable {wb u u':World} {R S:Nat} {vL hv:Value} {n1 n2:List UInt8} {P:List (Hk × Value)} {p p':Nat}
theorem Pzc.keep (h:Pzc wb R S vL n1 n2 hv P p u) (hb:Below u.heap.size u u'):Pzc wb R S vL n1 n2 hv P p u':=⟨Zhe h.gr (ZkI hb _),(hb.block S (Array.getElem?_eq_some_iff.1 h.box).1).trans h.box,ZnI h.own hb,fun x hx=>ZnI (h.ins x hx) hb,h.ck.low hb,h.ge,h.rl⟩
theorem Pzc.ne (h:Pzc wb R S vL n1 n2 hv P p u):R≠S:=by have h1:=h.ge;have h2:=h.rl;omega
theorem Pzc.call (h:Pzc wb R S vL n1 n2 hv P p u) (hg:u.grownBy u' (some R)) (q:Ck u' R vL (p':Int)):Pzc wb R S vL n1 n2 hv P p' u':=⟨Zhe h.gr hg,(hg.block S (Array.getElem?_eq_some_iff.1 h.box).1 (fun e=>h.ne (Option.some.inj e).symm)).trans h.box,ZnG h.own hg h.rl,fun x hx=>ZnG (h.ins x hx) hg h.rl,q,h.ge,h.rl⟩
theorem Pzc.next (h:Pzc wb R S vL n1 n2 hv P p u):Pzc wb R S vL n1 n2 hv P (p+1) (u.setCell ⟨R,1,none⟩ (.int .i64 ((p:Int)+1))):=h.call (Zhd u R 1 _) (by have:=h.ck.at ((p:Int)+1);simpa using this)
theorem Pzc.cells (h:Pzc wb R S vL n1 n2 hv P p u):u.cell? ⟨S,0,none⟩=some (.string ⟨n1.toArray⟩)∧u.cell? ⟨S,1,none⟩=some (.string ⟨n2.toArray⟩)∧u.cell? ⟨S,2,none⟩=some hv:=by
 refine⟨?_,?_,?_⟩<;>rw[Lib.cell_of_heap h.box]<;>rfl
theorem Pzc.frozen (h:Pzc wb R S vL n1 n2 hv P p u) (j:Nat):u.frozen? ⟨S,j,none⟩=false:=Lib.frozen_of_heap h.box j
theorem Pzc.put (h:Pzc wb R S vL n1 n2 hv P p u) (j:Nat) (z:Value) {m1 m2:List UInt8} {hv':Value} (hc:#[Value.string ⟨n1.toArray⟩,.string ⟨n2.toArray⟩,hv].setIfInBounds j z=#[.string ⟨m1.toArray⟩,.string ⟨m2.toArray⟩,hv']) (ho:u.ownsRow wb.heap.size 59 5 hv' P.length (hkcells P)):Pzc wb R S vL m1 m2 hv' P p (u.setCell ⟨S,j,none⟩ z):=by
 have hg:=Zhd u S j z
 refine⟨Zhc h.gr h.ge j z,?_,ho.kept hg (.inr (ZnB ho h.box (by decide))),fun x hx=>(h.ins x hx).kept hg (.inr (ZnB (h.ins x hx) h.box (by decide))),h.ck.keep hg (fun e=>h.ne (Option.some.inj e)),h.ge,h.rl⟩
 have:=heap_setCell_same u S j _ _ z h.box
 rw[hc] at this
 exact this
theorem Pzc.more (h:Pzc wb R S vL n1 n2 hv P p u) {x:Hk} {y hv':Value} (hy:u.ownsRow wb.heap.size 103 2 y x.ls.length (mkcells x.ls)) (hg:u.grownBy u' hv.ownBlock) (ho:u'.ownsRow wb.heap.size 59 5 hv' (P.length+1) (hkcells P++hkC x y)) :
  Pzc wb R S vL n1 n2 hv' (P++[(x,y)]) p (u'.setCell ⟨S,2,none⟩ hv')∧u'.cell? ⟨S,2,none⟩=some hv∧u'.frozen? ⟨S,2,none⟩=false:=by
 have hge:∀ j,hv.ownBlock=some j→wb.heap.size≤j:=fun j hj=>ZnH h.own hj
 have hb:u'.heap[S]?=some (.cells #[.string ⟨n1.toArray⟩,.string ⟨n2.toArray⟩,hv] 55):=(hg.block S (Array.getElem?_eq_some_iff.1 h.box).1 (fun e=>ZnB h.own h.box (by decide) e.symm)).trans h.box
 have hgR:wb.grownBy u' (some R):=⟨hg.os.trans h.gr.os,hg.tape.trans h.gr.tape,hg.output.trans h.gr.output,Nat.le_trans h.gr.size hg.size,fun k h1 h2=>(hg.block k (Nat.lt_of_lt_of_le h1 h.gr.size) (fun e=>by have:=hge k e.symm;omega)).trans (h.gr.block k h1 h2)⟩
 have hck:Ck u' R vL (p:Int):=h.ck.keep hg (fun e=>by have:=hge R e.symm;have:=h.rl;omega)
 have key:∀ {v:Value} {n:Nat} {xs:List Value},u.ownsRow wb.heap.size 103 2 v n xs→u'.ownsRow wb.heap.size 103 2 v n xs:=by
  intro v n xs hv2
  refine⟨hv2.1,?_⟩
  rcases hv2.2 with q | ⟨b,cap,cur,rfl,q2,q3,q4⟩
  ·exact .inl q
  ·refine .inr ⟨b,cap,cur,rfl,q2,?_,q4⟩
   rw[hg.block b (Array.getElem?_eq_some_iff.1 q3).1 (fun e=>ZnB h.own q3 (by decide) e.symm)]
   exact q3
 have hg2:=Zhd u' S 2 hv'
 have hkc:hkcells (P++[(x,y)])=hkcells P++hkC x y:=by rw[ZhV];simp[hkcells,hkC]
 refine⟨⟨Zhc hgR h.ge 2 hv',heap_setCell_same u' S 2 _ _ hv' hb,?_,?_,hck.keep hg2 (fun e=>h.ne (Option.some.inj e)),h.ge,h.rl⟩,by rw[Lib.cell_of_heap hb];rfl,Lib.frozen_of_heap hb 2⟩
 ·rw[List.length_append,hkc]
  exact ho.kept hg2 (.inr (ZnB ho hb (by decide)))
 ·intro z hz
  rcases List.mem_append.1 hz with hz | hz
  ·exact (key (h.ins z hz)).kept hg2 (.inr (ZnB (key (h.ins z hz)) hb (by decide)))
  ·rw[List.mem_singleton.1 hz]
   exact (key hy).kept hg2 (.inr (ZnB (key hy) hb (by decide)))
end
end

section
open Go.RowKit
theorem ZbY {P:Program} {A:Act} {op:Oper} {w:World} {F:Nat} {x:Operand} {xs:Array Operand} {ts:Array TypeId} (ho:op.op=.call { callee:=.value x,args:=xs,argTypes:=ts }) {cap:Array Value} (hxv:A.eval x=.func (.func F) #[] cap) {args:Array Value} (hx:xs.map A.eval=args) (hen:∀ args w,(callFunc F args).run P w=.ok (.enter F args) w):(execOp A.eval op).run P w=.ok (.enter F (args++cap)) w:=by
 have h1:=hen (args++cap) w
 simp only[execOp,ho,resolve,invoke]
 simp only[hxv,Deferred.ofValue,Sem.run_bind,Sem.run_pure,Result.andThen_ok,hx,Array.empty_append]
 exact h1
theorem ZgQ {P:Program} {S:World→Prop} {md:Region.Mode} {ops:Array Oper} {Q:Exit→Act→World→Prop} {fuel:Nat} {listed:Array Bool} {A:Act} {w:World}
  (i d:Nat) (op:Oper) (hi:ops[i]?=some op) (hd:op.dst=some d) (hr:Region.ready md ops listed=[i]) (hwt:Region.wanted op (yielded ops A.tmps)=true)
  (F:Nat) (x:Operand) (xs:Array Operand) (ts:Array TypeId) (ho:op.op=.call { callee:=.value x,args:=xs,argTypes:=ts })
  (cap:Array Value) (hxv:A.eval x=.func (.func F) #[] cap) (args:Array Value) (hx:xs.map A.eval=args) (hen:∀ args w,(callFunc F args).run P w=.ok (.enter F args) w) (R:Value→World→Prop) (Pn:List PanicEntry→World→Prop)
  (hp:∀ c w',Pn c w'→Q (.panic c) A w')
  (hc:Calls P F (args++cap) w fun e w'=>(∃ v,e=.returned v∧S w'∧R v w')∨(∃ c,e=.panicked c∧Pn c w'))
  (h:∀ v w',S w'→R v w'→wpAnyH P md ops Q S fuel (listed.setIfInBounds i true) (A.put (some d) v) w') :
  wpAnyH P md ops Q S (fuel+1) listed A w:=by
 refine wpAnyH_ready hr (by simp) (AllReadyH.cons hi (fun K hK=>?_) AllReadyH.nil)
 refine Zsq hwt ?_
 unfold Oper.wp
 rw[ZbY ho hxv hx hen,Oper.upon_enter]
 refine hc.mono ?_
 rintro e w' (⟨v,rfl,hb,hR⟩ | ⟨c,rfl,hpn⟩)
 ·exact hK.out _ _ hb (fun hu=>by rw[hd];exact h v w' hu hR)
 ·exact hp c w' hpn
theorem ZgW {P:Program} {S:World→Prop} {md:Region.Mode} {ops:Array Oper} {Q:Exit→Act→World→Prop} {fuel:Nat} {listed:Array Bool} {A:Act} {w:World}
  (j e:Nat) (oq:Oper) (i d:Nat) (op:Oper) (hj:ops[j]?=some oq) (he:oq.dst=some e) (hi:ops[i]?=some op) (hd:op.dst=some d) (hr:Region.ready md ops listed=[j,i]) (hwq:Region.wanted oq (yielded ops A.tmps)=true) (hwt:Region.wanted op (yielded ops A.tmps)=true)
  (vq:Value) (wq:World) (hq:(execOp A.eval oq).run P w=.ok (.value vq) wq) (hS:S wq)
  (F:Nat) (x:Operand) (xs:Array Operand) (ts:Array TypeId) (ho:op.op=.call { callee:=.value x,args:=xs,argTypes:=ts })
  (cap:Array Value) (hxv:A.eval x=.func (.func F) #[] cap) (args:Array Value) (hx:xs.map A.eval=args) (hen:∀ args w,(callFunc F args).run P w=.ok (.enter F args) w) (R:Value→World→Prop) (Pn:List PanicEntry→World→Prop)
  (hp:∀ c w',Pn c w'→Q (.panic c) A w')
  (hc:Calls P F (args++cap) w fun e w'=>(∃ v,e=.returned v∧S w'∧R v w')∨(∃ c,e=.panicked c∧Pn c w'))
  (h2:wpAnyH P md ops Q S fuel (listed.setIfInBounds j true) (A.put (some e) vq) wq)
  (h:∀ v w',S w'→R v w'→wpAnyH P md ops Q S fuel (listed.setIfInBounds i true) (A.put (some d) v) w') :
  wpAnyH P md ops Q S (fuel+1) listed A w:=by
 refine wpAnyH_ready hr (by simp) (AllReadyH.cons hj (fun K hK=>?_) (AllReadyH.cons hi (fun K hK=>?_) AllReadyH.nil))
 ·refine Zsq hwq ?_
  unfold Oper.wp
  rw[hq,Oper.upon_value]
  exact hK.out _ _ hS (fun _=>by rw[he];exact h2)
 ·refine Zsq hwt ?_
  unfold Oper.wp
  rw[ZbY ho hxv hx hen,Oper.upon_enter]
  refine hc.mono ?_
  rintro e w' (⟨v,rfl,hb,hR⟩ | ⟨c,rfl,hpn⟩)
  ·exact hK.out _ _ hb (fun hu=>by rw[hd];exact h v w' hu hR)
  ·exact hp c w' hpn
theorem Zkz {u:World} {a:Addr} {o:Option Addr} {n c:Nat} (h:u.cell? a=some (.slice o n c)) {op:Oper} (x:Operand) (ho:op.op=.load 34 x) {ev:Operand→Value} (hx:ev x=.pointer (some a)) :
  (execOp ev op).run Tryz.prog u=.ok (.value (.slice o n c)) u:=by
 simp only[execOp,ho,hx]
 go_simp
theorem ZfI {u:World} {a:Addr} {v0:Value} (hc:u.cell? a=some v0) (hf:u.frozen? a=false) {o:Option Addr} {n c:Nat} {op:Oper} (x y:Operand) (ho:op.op=.store 34 x y) {ev:Operand→Value} (hx:ev x=.pointer (some a)) (hy:ev y=.slice o n c) :
  (execOp ev op).run Tryz.prog u=.ok .skip (u.setCell a (.slice o n c)):=by
 simp only[execOp,ho,hx,hy]
 go_simp
def zpO:Obj:=.cells #[.string ⟨#[]⟩,.string ⟨#[]⟩,.slice none 0 0] 55
def mkP (n1 n2:List UInt8) (Y:Except (Nat × Int) (List Hk × Nat × List (List UInt8))):Except (Nat × Int) (Pth × Nat × List (List UInt8)) :=
 match Y with
 | .error e=>.error e
 | .ok (hs,p3,r3)=>.ok (⟨n1,n2,hs⟩,p3,r3)
theorem ZjV {P:List (Hk × Value)} {f p:Nat} {r:List (List UInt8)} (h:(decide (P=[]) || pkS r)=true):lefH P (f+1) p r=match cxH P.length p r with
  | .error e=>.error e
  | .ok (x,p1,r1)=>thenX (P.map (·.1)++[x]) (conH f (P.length+1) p1 r1):=by
 unfold lefH
 by_cases hP:P=[]
 ·rw[if_pos hP,ZeL,hP]
  rfl
 ·rw[if_neg hP]
  have hk:pkS r=true:=by simpa [hP] using h
  unfold conH
  rw[if_pos hk,ZeL]
  rfl
theorem ZjX {P:List (Hk × Value)} {f p:Nat} {r:List (List UInt8)} (h:(decide (P=[]) || pkS r)=false):lefH P f p r=.ok (P.map (·.1),p,r):=by
 rw[Bool.or_eq_false_iff,decide_eq_false_iff_not] at h
 unfold lefH conH
 rw[if_neg h.1,if_neg (by rw[h.2];decide)]
 simp[thenX]
theorem ZjW {P:List (Hk × Value)} {f p:Nat} {r:List (List UInt8)} (x:Hk) (y:Value):lefH (P++[(x,y)]) f p r=thenX (P.map (·.1)++[x]) (conH f (P.length+1) p r):=by
 unfold lefH
 rw[if_neg (by simp),List.map_append,List.length_append]
 rfl
def PtX (R:Nat) (vL:Value) (X:Except (Nat × Int) (Pth × Nat × List (List UInt8))) (w:World) (e:Ending) (w':World):Prop :=
 match X with
 | .error (a,z)=>Thr (a:Int) z e w'∧w.grownBy w' (some R)
 | .ok (x,p1,_)=>∃ hv P,e=.returned (.agg #[.string ⟨x.old.toArray⟩,.string ⟨x.new.toArray⟩,hv])∧x.hs=P.map (·.1)∧w'.ownsRow w.heap.size 59 5 hv P.length (hkcells P)∧(∀ y∈P,w'.ownsRow w.heap.size 103 2 y.2 y.1.ls.length (mkcells y.1.ls))∧Ck w' R vL (p1:Int)∧w.grownBy w' (some R)
def three (u:World) (Q:Nat) (n1 n2:List UInt8) (v:Value):World:=((u.setCell ⟨Q,0,none⟩ (.string ⟨n1.toArray⟩)).setCell ⟨Q,1,none⟩ (.string ⟨n2.toArray⟩)).setCell ⟨Q,2,none⟩ v
theorem ZsJ {w wb u:World} {R:Nat} (hg:wb.grownBy u (some R)) (hZ:wb.heap[w.heap.size]?=some zpO∧w.heap.size<wb.heap.size∧w.heap.size≠R) (Q:Nat) (hQ:w.heap.size=Q) :
  u.cell? ⟨Q,0,none⟩=some (.string ⟨#[]⟩)∧u.cell? ⟨Q,1,none⟩=some (.string ⟨#[]⟩)∧u.cell? ⟨Q,2,none⟩=some (.slice none 0 0)∧∀ j,u.frozen? ⟨Q,j,none⟩=false:=by
 obtain⟨h1,h2,h3⟩:=hZ
 have hb:u.heap[w.heap.size]?=some (.cells #[.string ⟨#[]⟩,.string ⟨#[]⟩,.slice none 0 0] 55):=(hg.block _ h2 (fun e=>h3 (Option.some.inj e))).trans h1
 rw[hQ] at hb
 refine⟨?_,?_,?_,fun j=>Lib.frozen_of_heap hb j⟩<;>rw[Lib.cell_of_heap hb]<;>rfl
theorem ZsK {w wb u:World} {R S:Nat} {vL hv:Value} {n1 n2:List UInt8} {P:List (Hk × Value)} {p:Nat} (h:Pzc wb R S vL n1 n2 hv P p u) (hG:∀ u,wb.grownBy u (some R)→w.grownBy u (some R)) (hZ:wb.heap[w.heap.size]?=some zpO∧w.heap.size<wb.heap.size∧w.heap.size≠R) :
  (three u w.heap.size n1 n2 hv).heap[w.heap.size]?=some (.cells #[.string ⟨n1.toArray⟩,.string ⟨n2.toArray⟩,hv] 55)∧(three u w.heap.size n1 n2 hv).ownsRow w.heap.size 59 5 hv P.length (hkcells P)∧(∀ y∈P,(three u w.heap.size n1 n2 hv).ownsRow w.heap.size 103 2 y.2 y.1.ls.length (mkcells y.1.ls))∧Ck (three u w.heap.size n1 n2 hv) R vL (p:Int)∧w.grownBy (three u w.heap.size n1 n2 hv) (some R):=by
 obtain⟨h1,h2,h3⟩:=hZ
 have hb:u.heap[w.heap.size]?=some zpO:=(h.gr.block _ h2 (fun e=>h3 (Option.some.inj e))).trans h1
 have hg:u.grownBy (three u w.heap.size n1 n2 hv) (some w.heap.size):=Zhe (Zhe (Zhd u _ 0 _) (Zhd _ _ 1 _)) (Zhd _ _ 2 _)
 refine⟨?_,Znz (ZnG h.own hg h2) (by omega),fun y hy=>Znz (ZnG (h.ins y hy) hg h2) (by omega),h.ck.keep hg (fun e=>h3 (Option.some.inj e).symm),?_⟩
 ·have s0:=heap_setCell_same u w.heap.size 0 _ _ (.string ⟨n1.toArray⟩) hb
  have s1:=heap_setCell_same _ w.heap.size 1 _ _ (.string ⟨n2.toArray⟩) s0
  exact heap_setCell_same _ w.heap.size 2 _ _ hv s1
 ·exact Zhc (Zhc (Zhc (hG _ h.gr) (Nat.le_refl _) 0 _) (Nat.le_refl _) 1 _) (Nat.le_refl _) 2 _
theorem ZdV {R:Nat} {L:List (List UInt8)} {lo:Option Addr} {lc:Nat} {p k:Nat} (hk:k≤64) (w:World) (q:Ck w R (.slice lo L.length lc) p) (HL:Hid (∀ u,w.grownBy u (some R)→HS u (.slice lo L.length lc) L)) (HPl:Hid (Plain L)) (hp:p≤L.length) (hLl:L.length≤137438953472) (HSl:Hid (∀ s∈L,s.length≤1099511627776))
  (X:Except (Nat × Int) (Pth × Nat × List (List UInt8))) (HX:Hid (patP k p (L.drop p)=X)) :
  Calls Tryz.prog 51 #[.pointer (some ⟨R,0,none⟩),.int .i64 (k:Int)] w fun e w'=>PtX R (.slice lo L.length lc) X w e w':=by
 have HG:Hid (∀ u,(w.alloc zpO).grownBy u (some R)→w.grownBy u (some R)):=fun u hu=>ZgZ _ hu
 have hRl:=q.lt
 have HX2:=HX.out
 have hRl1:R<(w.alloc zpO).heap.size:=(by simp;omega)
 have HZ:Hid ((w.alloc zpO).heap[w.heap.size]?=some zpO∧w.heap.size<(w.alloc zpO).heap.size∧w.heap.size≠R):=⟨heap_alloc_new w _,by simp,by omega⟩
 have hP0:Pzc (w.alloc zpO) R (w.heap.size+1) (.slice lo L.length lc) [] [] (.slice none 0 0) [] p ((w.alloc zpO).alloc zpO):=(by
  have hsz:(w.alloc zpO).heap.size=w.heap.size+1:=by simp
  refine⟨World.grownBy_alloc _ _ _,?_,Zii _ _ _ _,fun x hx=>(by cases hx),(q.low ((Below.refl _ w).alloc (Nat.le_refl _) _)).low ((Below.refl _ _).alloc (Nat.le_refl _) _),by omega,hRl1⟩
  rw[← hsz]
  exact heap_alloc_new _ _)
 have hW:(w.alloc (.cells #[.string ⟨#[]⟩,.string ⟨#[]⟩,.slice none 0 0] 55)).alloc (.cells #[.string ⟨#[]⟩,.string ⟨#[]⟩,.slice none 0 0] 55)=(w.alloc zpO).alloc zpO:=rfl
 obtain⟨Y,hY⟩:∃ Y,namP [42,42,42,32] p (L.drop p)=Y:=⟨_,rfl⟩
 unfold patP at HX2
 rw[hY] at HX2
 have hn1:=ZdI [42,42,42,32] rfl _ hP0.ck (HL.out _ (HG.out _ hP0.gr)) hp (by omega) HSl.out Y hY
 clear HX q
 generalize hwb:w.alloc zpO=wb at *
 clear hwb
 go_enter Tryz.func51,Tryz.ntmps51
 go_wp2_with fail
 clear hW
 generalize w.heap.size+1=S at hP0 ⊢
 generalize wb.alloc zpO=w0 at hP0 hn1 ⊢
 refine hn1.mono ?_
 clear hn1
 cases Y with
 | error z =>
  obtain⟨a,z⟩:=z
  rintro e w1 ⟨⟨g,rfl,hg⟩,hgr⟩
  have hXe:X=.error (a,z):=HX2.symm
  subst hXe
  go_wp2
  exact⟨rfl,⟨_,rfl,hg⟩,HG.out _ (Zhe hP0.gr hgr)⟩
 | ok z =>
  obtain⟨n1,r1⟩:=z
  rintro e w1 ⟨rfl,hB1⟩
  obtain⟨rfl,hpl⟩:=Zma hY
  dsimp only at HX2
  have hP1:=hP0.keep hB1
  clear hY hP0 hB1
  obtain⟨c0,c1,c2⟩:=hP1.cells
  have f0:=hP1.frozen 0
  have hP2:=hP1.put 0 (.string ⟨n1.toArray⟩) (m1:=n1) (m2:=[]) (hv':=.slice none 0 0) rfl hP1.own
  clear hP1
  by_cases h64:64≤k
  ·rw[if_pos h64] at HX2
   have hXe:=HX2.symm
   subst hXe
   have e1:((k:Int) == 64)=true:=beq_iff_eq.2 (by omega)
   go_wp2_with fail
   refine (ZdY 9 _ hP2.ck (by omega)).mono ?_
   rintro e w2 ⟨⟨g,rfl,hg⟩,hgr⟩
   go_wp2
   exact⟨rfl,⟨_,rfl,by simpa using hg⟩,HG.out _ (Zhe hP2.gr hgr)⟩
  ·rw[if_neg h64] at HX2
   have e1:((k:Int) == 64)=false:=beq_eq_false_iff_ne.2 (by omega)
   go_upto_region 3 with fail
   clear c0 c1 c2 f0
   generalize w1.setCell ⟨S,0,none⟩ (.string ⟨n1.toArray⟩)=w2 at hP2 ⊢
   obtain⟨d0,d1⟩:=hP2.ck.cells
   have f1:=hP2.ck.frozen 1
   have hP3:=hP2.next
   obtain⟨Y2,hY2⟩:∃ Y,namP [45,45,45,32] (p+1) (L.drop (p+1))=Y:=⟨_,rfl⟩
   rw[hY2] at HX2
   have hn2:=ZdI [45,45,45,32] rfl _ hP3.ck (HL.out _ (HG.out _ hP3.gr)) (by omega) (by omega) HSl.out Y2 hY2
   go_wp2_with fail
   refine hn2.mono ?_
   clear hn2 hP2 d0 d1 f1
   cases Y2 with
   | error z =>
    obtain⟨a,z⟩:=z
    rintro e w3 ⟨⟨g,rfl,hg⟩,hgr⟩
    have hXe:X=.error (a,z):=HX2.symm
    subst hXe
    go_wp2
    exact⟨rfl,⟨_,rfl,hg⟩,HG.out _ (Zhe hP3.gr hgr)⟩
   | ok z =>
    obtain⟨n2,r2⟩:=z
    rintro e w3 ⟨rfl,hB3⟩
    obtain⟨rfl,hpl2⟩:=Zma hY2
    dsimp only at HX2
    have hP4:=hP3.keep hB3
    clear hY2 hP3 hB3
    obtain⟨c0,c1,c2⟩:=hP4.cells
    have f1:=hP4.frozen 1
    have hP5:=hP4.put 1 (.string ⟨n2.toArray⟩) (m1:=n1) (m2:=n2) (hv':=.slice none 0 0) rfl hP4.own
    clear hP4
    go_upto_region 7 with fail
    clear c0 c1 c2 f1
    generalize w3.setCell ⟨S,1,none⟩ (.string ⟨n2.toArray⟩)=w4 at hP5 ⊢
    obtain⟨d0,d1⟩:=hP5.ck.cells
    have f1:=hP5.ck.frozen 1
    have hP6:=hP5.next
    clear hP5
    obtain⟨Y3,hY3⟩:∃ Y,cxHs ((L.drop (p+1+1)).length+1) 0 (p+1+1) (L.drop (p+1+1))=Y:=⟨_,rfl⟩
    have HX3:Hid (mkP n1 n2 Y3=X):=(by show _=_;rw[← hY3];exact HX2)
    have HY0:Hid (lefH [] ((L.drop (p+1+1)).length+1) (p+1+1) (L.drop (p+1+1))=Y3):=(by show _=_;unfold lefH;rw[if_pos rfl,List.map_nil,ZsI];exact hY3)
    clear hY3 HX2
    go_wp2
    rw[show (((p+1:Nat):Int)+1)=(p:Int)+1+1 by omega] at hP6
    generalize w4.setCell ⟨R,1,none⟩ (.int .i64 ((p:Int)+1+1))=w5 at hP6 ⊢
    clear d0 d1 f1
    go_loopw [] (fun wr=>∃ (hv:Value) (P:List (Hk × Value)) (p' f:Nat),(∃ o c,hv=.slice o P.length c)∧Pzc wb R S (.slice lo L.length lc) n1 n2 hv P p' wr∧p'≤L.length∧P.length≤4096∧Hid ((L.drop p').length+1≤f)∧Hid (lefH P f p' (L.drop p')=Y3)) (fun wr=>L.length-ckN wr R)
    case atStart=>exact⟨_,[],p+1+1,_,⟨none,0,rfl⟩,hP6,by omega,Nat.zero_le _,Nat.le_refl _,HY0⟩
    case round =>
    clear hP6 HY0
    obtain⟨hv,P,p',f,⟨ho,hc,rfl⟩,hZ,hp',hPl,HF,HI⟩:=hrel
    obtain⟨c0,c1,c2⟩:=hZ.cells
    have hLr:=HL.out _ (HG.out _ hZ.gr)
    have HK:Hid (ckN wr R=p'):=Zdf hZ.ck
    obtain⟨gd,hgd⟩:∃ g,(decide (P=[]) || pkS (L.drop p'))=g:=⟨_,rfl⟩
    go_upto_region 8 with fail
    go_cut [37] from 30 to 47 (fun cv wz=>cv=.bool gd∧Pzc wb R S (.slice lo L.length lc) n1 n2 (.slice ho P.length hc) P p' wz)
    case first =>
     by_cases hP0:P=[]
     ·have z1:((P.length:Int) == 0)=true:=(by rw[hP0];rfl)
      have HE:Hid (true=gd):=(by rw[decide_eq_true hP0,Bool.true_or] at hgd;exact hgd)
      clear hP0 hgd
      go_wp2
      go_meet
      case rel=>exact⟨by rw[← HE.out],hZ⟩
     ·have z1:((P.length:Int) == 0)=false:=(by rw[beq_eq_false_iff_ne];intro e;exact hP0 (List.eq_nil_of_length_eq_zero (by omega)))
      have hat:=Zcb wr hZ.ck hLr hp' (by omega) gd (show Hid (pkS (L.drop p')=gd) by show _=_;rw[← hgd,decide_eq_false hP0,Bool.false_or])
      clear hP0 hgd
      go_wp2_with fail
      refine hat.mono ?_
      rintro e w6 ⟨rfl,nn,rfl⟩
      have hZ2:=hZ.keep (below_drewN (Below.refl _ _) nn)
      go_wp2
      go_meet
      case rel=>exact⟨rfl,hZ2⟩
    case rest =>
    obtain⟨rfl,hZ2⟩:=hcut
    clear hZ c0 c1 c2 hLr
    obtain⟨c0,c1,c2⟩:=hZ2.cells
    have hLr:=HL.out _ (HG.out _ hZ2.gr)
    cases gd with
    | false =>
     have hYe:Y3=.ok (P.map (·.1),p',L.drop p'):=(by rw[← HI.out];exact ZjX hgd)
     have hXe:X=.ok (⟨n1,n2,P.map (·.1)⟩,p',L.drop p'):=(by rw[← HX3.out,hYe];rfl)
     subst hXe
     clear hYe hgd HI HX3 hLr
     obtain⟨y0,y1,y2,yf⟩:=ZsJ hZ2.gr HZ.out _ rfl
     obtain⟨fh,fo,fi,fq,fg⟩:=ZsK hZ2 HG.out HZ.out
     have yf0:=yf 0
     have yf1:=yf 1
     have yf2:=yf 2
     clear yf hZ2
     go_wp2
     exact bodyPost_ret (v:=.agg #[.string ⟨n1.toArray⟩,.string ⟨n2.toArray⟩,.slice ho P.length hc]) (results_cell_row rfl _ _ w.heap.size 55 #[.string ⟨n1.toArray⟩,.string ⟨n2.toArray⟩,.slice ho P.length hc] (0,0) _ rfl fh Tryz.underlying55 rfl (by kernel_rfl)) rfl ⟨_,P,rfl,rfl,fo,fi,fq,fg⟩
    | true =>
     have hf0:=HF.out
     obtain⟨f',rfl⟩:∃ f',f=f'+1:=⟨f-1,by omega⟩
     have hgo:=ZjV (f:=f') (p:=p') hgd
     rw[HI.out] at hgo
     obtain⟨Yh,hYh⟩:∃ Y,cxH P.length p' (L.drop p')=Y:=⟨_,rfl⟩
     rw[hYh] at hgo
     have hZd:=hZ2.keep (Below.drew (Below.refl _ _))
     have hch:=Zeb hPl _ hZd.ck (fun u hu=>HL.out u (HG.out _ (Zhe hZd.gr hu))) HPl hp' hLl HSl Yh hYh
     have HYe:Hid (∀ e,Yh=.error e→X=.error e):=(by
      intro e he
      rw[← HX3.out,hgo,he]
      rfl)
     have HN:Hid (∀ h p2 r,Yh=.ok (h,p2,r)→p2≤L.length∧p'<p2∧Hid ((L.drop p2).length+1≤f')∧P.length<4096∧r=L.drop p2):=(by
      intro h p2 r he
      obtain⟨b1,b2,b3,b4⟩:=ZeJ hPl (hYh.trans he)
      have:=HF.out
      rw[List.length_drop] at this
      exact⟨b3,b2,(by show _≤_;rw[List.length_drop];omega),b4,b1⟩)
     have HN2:Hid (∀ h p2 r y,Yh=.ok (h,p2,r)→Hid (lefH (P++[(h,y)]) f' p2 (L.drop p2)=Y3)):=(by
      intro h p2 r y he
      show _=_
      rw[ZjW,← (HN.out h p2 r he).2.2.2.2,hgo,he])
     obtain⟨Pn,hPnd⟩:∃ Pn:List PanicEntry→World→Prop,(fun c u=>∃ (g a:Nat) (z:Int),c=[{ v:=.iface 86 (.pointer (some ⟨g,0,none⟩)),recovered:=false }]∧u.heap[g]?=some (fltO (a:Int) z)∧X=.error (a,z)∧w.grownBy u (some R))=Pn:=⟨_,rfl⟩
     obtain⟨Rr,hRr⟩:∃ Rr:Value→World→Prop,(fun v u=>∃ h p2 r vo vc,Yh=.ok (h,p2,r)∧v=hkV h (.slice vo h.ls.length vc)∧Pzc wb R S (.slice lo L.length lc) n1 n2 (.slice ho P.length hc) P p2 u∧u.ownsRow wb.heap.size 103 2 (.slice vo h.ls.length vc) h.ls.length (mkcells h.ls))=Rr:=⟨_,rfl⟩
     have hcall:Calls Tryz.prog 96 (#[.pointer (some ⟨R,0,none⟩),.int .i64 (P.length:Int)]++#[]) wc.drew fun e w'=>(∃ v,e=.returned v∧True∧Rr v w')∨(∃ c,e=.panicked c∧Pn c w'):=(by
      refine hch.mono ?_
      intro e w' hq
      rw[← hPnd,← hRr]
      cases Yh with
      | error z =>
       obtain⟨a,z⟩:=z
       obtain⟨⟨g,rfl,hg⟩,hgr⟩:=hq
       exact .inr ⟨_,rfl,g,a,z,rfl,hg,HYe.out _ rfl,HG.out _ (Zhe hZd.gr hgr)⟩
      | ok z =>
       obtain⟨h,p2,r⟩:=z
       obtain⟨v',rfl,hown,q,hgr⟩:=hq
       obtain⟨vo,vc,rfl⟩:=(holds_of hown).form
       exact .inl ⟨_,rfl,trivial,h,p2,r,vo,vc,rfl,rfl,hZd.call hgr q,Znz hown hZd.gr.size⟩)
     have HRr:Hid (_=Rr):=hRr
     have HPd:Hid (_=Pn):=hPnd
     clear hRr hPnd hch hgo hYh HI hgd hLr
     go_upto_region 9 with fail
     clear c0 c1 c2
     refine wp_region_held_drew (S:=fun _=>True) (by kernel_rfl) trivial (fun _=>?_)
     generalize wc.drew=wd at hZd hcall ⊢
     have c2d:=hZd.cells.2.2
     refine Y_t 0 38 _ (.pointer (some ⟨S,2,none⟩)) rfl (Or.inl ⟨by kernel_rfl,fun u hu=>by kernel_rfl⟩) trivial ?_
     simp only[Act.put,Y_a,Y_b,Y_c]
     refine Y_t 2 40 _ (.pointer (some ⟨R,0,none⟩)) rfl (Or.inl ⟨by kernel_rfl,fun u hu=>by kernel_rfl⟩) trivial ?_
     simp only[Act.put,Y_a,Y_b,Y_c]
     refine Y_t 3 41 _ (.pointer (some ⟨S,2,none⟩)) rfl (Or.inl ⟨by kernel_rfl,fun u hu=>by kernel_rfl⟩) trivial ?_
     simp only[Act.put,Y_a,Y_b,Y_c]
     refine ZgT 1 39 _ 4 42 _ rfl (by kernel_rfl) rfl (by kernel_rfl) (by kernel_rfl) (by kernel_rfl) (by kernel_rfl) (.slice ho P.length hc) wd (Zkz c2d (.tmp 38) (by kernel_rfl) (by kernel_rfl)) trivial (.slice ho P.length hc) wd (Zkz c2d (.tmp 41) (by kernel_rfl) (by kernel_rfl)) trivial ?_ ?_
     ·simp only[Act.put,Y_a,Y_b,Y_c]
      refine Y_v 4 42 _ rfl (.slice ho P.length hc) wd (Zkz c2d (.tmp 41) (by kernel_rfl) (by kernel_rfl)) trivial ?_
      simp only[Act.put,Y_a,Y_b,Y_c]
      refine Y_t 5 43 _ (.int .i64 (P.length:Int)) rfl (Or.inl ⟨by kernel_rfl,fun u hu=>by kernel_rfl⟩) trivial ?_
      simp only[Act.put,Y_a,Y_b,Y_c]
      refine ZgQ 6 44 _ rfl (by kernel_rfl) (by kernel_rfl) (by kernel_rfl) 96 (.func 96) #[.tmp 40,.tmp 43] #[155,3] (by kernel_rfl) #[] (by kernel_rfl) #[.pointer (some ⟨R,0,none⟩),.int .i64 (P.length:Int)] (by kernel_rfl) (enters_of Tryz.func96 (by kernel_rfl) rfl) Rr Pn (fun c u h=>by rw[← HPd.out] at h;obtain⟨g,a,z,rfl,hg,hXe,hgr⟩:=h;subst hXe;exact⟨rfl,⟨_,rfl,hg⟩,hgr⟩) ?_ ?_
      ·exact hcall
      intro v0 u1 _ hq
      rw[← HRr.out] at hq
      obtain⟨h,p2,r,vo,vc,hk2,rfl,hR1,hown1⟩:=hq
      have c1u:=hR1.cells.2.2
      have hRA:=hR1.keep ((Below.refl _ u1).alloc (Nat.le_refl _) (hkO h (.slice vo h.ls.length vc)))
      have c2u:=hRA.cells.2.2
      simp only[Act.put,Y_a,Y_b,Y_c]
      refine Y_v 7 45 _ rfl (.slice (some ⟨u1.heap.size,0,none⟩) 1 1) (u1.alloc (hkO h (.slice vo h.ls.length vc))) (by kernel_rfl) trivial ?_
      simp only[Act.put,Y_a,Y_b,Y_c]
      have hlt2:=HN.out h p2 r hk2
      have hownA:=hown1.alloc (hkO h (.slice vo h.ls.length vc))
      obtain⟨v3,u3,hr3,hown3,hg3,_⟩:=Zqx (u1.alloc (hkO h (.slice vo h.ls.length vc))) 34 59 34 (.agg #[.int .i64 0,.int .i64 0,.int .i64 0,.int .i64 0,.slice none 0 0]) 5 56 Tryz.underlying34 infoHk rfl (by decide) (by decide) wb.heap.size _ _ _ hRA.own _ 1 (hkC h (.slice vo h.ls.length vc)) (Znr u1 h (.slice vo h.ls.length vc)) rfl (fun u hu=>by simp[hkC] at hu;rcases hu with rfl | rfl | rfl | rfl | rfl<;>rfl) (by omega) hRA.gr.size
      have hR3:=hRA.more hownA hg3 hown3
      obtain⟨o3,k3,rfl⟩:=(holds_of hown3).form
      refine Y_v 8 46 _ rfl (.slice o3 (P.length+1) k3) u3 (Zfz (.tmp 39) (.tmp 45) (by kernel_rfl) (by kernel_rfl) (by kernel_rfl) hr3) trivial ?_
      simp only[Act.put,Y_a,Y_b,Y_c]
      refine Y_t 9 47 _ (.pointer (some ⟨S,2,none⟩)) rfl (Or.inl ⟨by kernel_rfl,fun u hu=>by kernel_rfl⟩) trivial ?_
      simp only[Act.put,Y_a,Y_b,Y_c]
      refine Y_s 10 _ rfl (u3.setCell ⟨S,2,none⟩ (.slice o3 (P.length+1) k3)) (ZfI hR3.2.1 hR3.2.2 (.tmp 47) (.tmp 46) (by kernel_rfl) (by kernel_rfl) (by kernel_rfl)) trivial ?_
      refine wpAnyH_done (by kernel_rfl) ?_ _
      have hR4:=hR3.1
      go_wp2
      refine⟨⟨_,P++[(h,.slice vo h.ls.length vc)],p2,f',⟨o3,k3,by rw[List.length_append];rfl⟩,hR4,hlt2.1,by rw[List.length_append];simp;omega,hlt2.2.2.1,HN2.out h p2 r _ hk2⟩,?_⟩
      rw[Zdf hR4.ck,HK.out]
      omega
     ·simp only[Act.put,Y_a,Y_b,Y_c]
      refine Y_t 5 43 _ (.int .i64 (P.length:Int)) rfl (Or.inl ⟨by kernel_rfl,fun u hu=>by kernel_rfl⟩) trivial ?_
      simp only[Act.put,Y_a,Y_b,Y_c]
      refine ZgW 1 39 _ 6 44 _ rfl (by kernel_rfl) rfl (by kernel_rfl) (by kernel_rfl) (by kernel_rfl) (by kernel_rfl) (.slice ho P.length hc) wd (Zkz c2d (.tmp 38) (by kernel_rfl) (by kernel_rfl)) trivial 96 (.func 96) #[.tmp 40,.tmp 43] #[155,3] (by kernel_rfl) #[] (by kernel_rfl) #[.pointer (some ⟨R,0,none⟩),.int .i64 (P.length:Int)] (by kernel_rfl) (enters_of Tryz.func96 (by kernel_rfl) rfl) Rr Pn (fun c u h=>by rw[← HPd.out] at h;obtain⟨g,a,z,rfl,hg,hXe,hgr⟩:=h;subst hXe;exact⟨rfl,⟨_,rfl,hg⟩,hgr⟩) ?_ ?_ ?_
      ·exact hcall
      ·simp only[Act.put,Y_a,Y_b,Y_c]
       refine ZgQ 6 44 _ rfl (by kernel_rfl) (by kernel_rfl) (by kernel_rfl) 96 (.func 96) #[.tmp 40,.tmp 43] #[155,3] (by kernel_rfl) #[] (by kernel_rfl) #[.pointer (some ⟨R,0,none⟩),.int .i64 (P.length:Int)] (by kernel_rfl) (enters_of Tryz.func96 (by kernel_rfl) rfl) Rr Pn (fun c u h=>by rw[← HPd.out] at h;obtain⟨g,a,z,rfl,hg,hXe,hgr⟩:=h;subst hXe;exact⟨rfl,⟨_,rfl,hg⟩,hgr⟩) ?_ ?_
       ·exact hcall
       intro v0 u1 _ hq
       rw[← HRr.out] at hq
       obtain⟨h,p2,r,vo,vc,hk2,rfl,hR1,hown1⟩:=hq
       have c1u:=hR1.cells.2.2
       have hRA:=hR1.keep ((Below.refl _ u1).alloc (Nat.le_refl _) (hkO h (.slice vo h.ls.length vc)))
       have c2u:=hRA.cells.2.2
       simp only[Act.put,Y_a,Y_b,Y_c]
       refine Y_v 7 45 _ rfl (.slice (some ⟨u1.heap.size,0,none⟩) 1 1) (u1.alloc (hkO h (.slice vo h.ls.length vc))) (by kernel_rfl) trivial ?_
       simp only[Act.put,Y_a,Y_b,Y_c]
       have hlt2:=HN.out h p2 r hk2
       have hownA:=hown1.alloc (hkO h (.slice vo h.ls.length vc))
       obtain⟨v3,u3,hr3,hown3,hg3,_⟩:=Zqx (u1.alloc (hkO h (.slice vo h.ls.length vc))) 34 59 34 (.agg #[.int .i64 0,.int .i64 0,.int .i64 0,.int .i64 0,.slice none 0 0]) 5 56 Tryz.underlying34 infoHk rfl (by decide) (by decide) wb.heap.size _ _ _ hRA.own _ 1 (hkC h (.slice vo h.ls.length vc)) (Znr u1 h (.slice vo h.ls.length vc)) rfl (fun u hu=>by simp[hkC] at hu;rcases hu with rfl | rfl | rfl | rfl | rfl<;>rfl) (by omega) hRA.gr.size
       have hR3:=hRA.more hownA hg3 hown3
       obtain⟨o3,k3,rfl⟩:=(holds_of hown3).form
       refine Y_v 8 46 _ rfl (.slice o3 (P.length+1) k3) u3 (Zfz (.tmp 39) (.tmp 45) (by kernel_rfl) (by kernel_rfl) (by kernel_rfl) hr3) trivial ?_
       simp only[Act.put,Y_a,Y_b,Y_c]
       refine Y_t 9 47 _ (.pointer (some ⟨S,2,none⟩)) rfl (Or.inl ⟨by kernel_rfl,fun u hu=>by kernel_rfl⟩) trivial ?_
       simp only[Act.put,Y_a,Y_b,Y_c]
       refine Y_s 10 _ rfl (u3.setCell ⟨S,2,none⟩ (.slice o3 (P.length+1) k3)) (ZfI hR3.2.1 hR3.2.2 (.tmp 47) (.tmp 46) (by kernel_rfl) (by kernel_rfl) (by kernel_rfl)) trivial ?_
       refine wpAnyH_done (by kernel_rfl) ?_ _
       have hR4:=hR3.1
       go_wp2
       refine⟨⟨_,P++[(h,.slice vo h.ls.length vc)],p2,f',⟨o3,k3,by rw[List.length_append];rfl⟩,hR4,hlt2.1,by rw[List.length_append];simp;omega,hlt2.2.2.1,HN2.out h p2 r _ hk2⟩,?_⟩
       rw[Zdf hR4.ck,HK.out]
       omega
      ·intro v0 u1 _ hq
       rw[← HRr.out] at hq
       obtain⟨h,p2,r,vo,vc,hk2,rfl,hR1,hown1⟩:=hq
       have c1u:=hR1.cells.2.2
       have hRA:=hR1.keep ((Below.refl _ u1).alloc (Nat.le_refl _) (hkO h (.slice vo h.ls.length vc)))
       have c2u:=hRA.cells.2.2
       simp only[Act.put,Y_a,Y_b,Y_c]
       refine ZgT 1 39 _ 7 45 _ rfl (by kernel_rfl) rfl (by kernel_rfl) (by kernel_rfl) (by kernel_rfl) (by kernel_rfl) (.slice ho P.length hc) u1 (Zkz c1u (.tmp 38) (by kernel_rfl) (by kernel_rfl)) trivial (.slice (some ⟨u1.heap.size,0,none⟩) 1 1) (u1.alloc (hkO h (.slice vo h.ls.length vc))) (by kernel_rfl) trivial ?_ ?_
       ·simp only[Act.put,Y_a,Y_b,Y_c]
        refine Y_v 7 45 _ rfl (.slice (some ⟨u1.heap.size,0,none⟩) 1 1) (u1.alloc (hkO h (.slice vo h.ls.length vc))) (by kernel_rfl) trivial ?_
        simp only[Act.put,Y_a,Y_b,Y_c]
        have hlt2:=HN.out h p2 r hk2
        have hownA:=hown1.alloc (hkO h (.slice vo h.ls.length vc))
        obtain⟨v3,u3,hr3,hown3,hg3,_⟩:=Zqx (u1.alloc (hkO h (.slice vo h.ls.length vc))) 34 59 34 (.agg #[.int .i64 0,.int .i64 0,.int .i64 0,.int .i64 0,.slice none 0 0]) 5 56 Tryz.underlying34 infoHk rfl (by decide) (by decide) wb.heap.size _ _ _ hRA.own _ 1 (hkC h (.slice vo h.ls.length vc)) (Znr u1 h (.slice vo h.ls.length vc)) rfl (fun u hu=>by simp[hkC] at hu;rcases hu with rfl | rfl | rfl | rfl | rfl<;>rfl) (by omega) hRA.gr.size
        have hR3:=hRA.more hownA hg3 hown3
        obtain⟨o3,k3,rfl⟩:=(holds_of hown3).form
        refine Y_v 8 46 _ rfl (.slice o3 (P.length+1) k3) u3 (Zfz (.tmp 39) (.tmp 45) (by kernel_rfl) (by kernel_rfl) (by kernel_rfl) hr3) trivial ?_
        simp only[Act.put,Y_a,Y_b,Y_c]
        refine Y_t 9 47 _ (.pointer (some ⟨S,2,none⟩)) rfl (Or.inl ⟨by kernel_rfl,fun u hu=>by kernel_rfl⟩) trivial ?_
        simp only[Act.put,Y_a,Y_b,Y_c]
        refine Y_s 10 _ rfl (u3.setCell ⟨S,2,none⟩ (.slice o3 (P.length+1) k3)) (ZfI hR3.2.1 hR3.2.2 (.tmp 47) (.tmp 46) (by kernel_rfl) (by kernel_rfl) (by kernel_rfl)) trivial ?_
        refine wpAnyH_done (by kernel_rfl) ?_ _
        have hR4:=hR3.1
        go_wp2
        refine⟨⟨_,P++[(h,.slice vo h.ls.length vc)],p2,f',⟨o3,k3,by rw[List.length_append];rfl⟩,hR4,hlt2.1,by rw[List.length_append];simp;omega,hlt2.2.2.1,HN2.out h p2 r _ hk2⟩,?_⟩
        rw[Zdf hR4.ck,HK.out]
        omega
       ·simp only[Act.put,Y_a,Y_b,Y_c]
        refine Y_v 1 39 _ rfl (.slice ho P.length hc) (u1.alloc (hkO h (.slice vo h.ls.length vc))) (Zkz c2u (.tmp 38) (by kernel_rfl) (by kernel_rfl)) trivial ?_
        simp only[Act.put,Y_a,Y_b,Y_c]
        have hlt2:=HN.out h p2 r hk2
        have hownA:=hown1.alloc (hkO h (.slice vo h.ls.length vc))
        obtain⟨v3,u3,hr3,hown3,hg3,_⟩:=Zqx (u1.alloc (hkO h (.slice vo h.ls.length vc))) 34 59 34 (.agg #[.int .i64 0,.int .i64 0,.int .i64 0,.int .i64 0,.slice none 0 0]) 5 56 Tryz.underlying34 infoHk rfl (by decide) (by decide) wb.heap.size _ _ _ hRA.own _ 1 (hkC h (.slice vo h.ls.length vc)) (Znr u1 h (.slice vo h.ls.length vc)) rfl (fun u hu=>by simp[hkC] at hu;rcases hu with rfl | rfl | rfl | rfl | rfl<;>rfl) (by omega) hRA.gr.size
        have hR3:=hRA.more hownA hg3 hown3
        obtain⟨o3,k3,rfl⟩:=(holds_of hown3).form
        refine Y_v 8 46 _ rfl (.slice o3 (P.length+1) k3) u3 (Zfz (.tmp 39) (.tmp 45) (by kernel_rfl) (by kernel_rfl) (by kernel_rfl) hr3) trivial ?_
        simp only[Act.put,Y_a,Y_b,Y_c]
        refine Y_t 9 47 _ (.pointer (some ⟨S,2,none⟩)) rfl (Or.inl ⟨by kernel_rfl,fun u hu=>by kernel_rfl⟩) trivial ?_
        simp only[Act.put,Y_a,Y_b,Y_c]
        refine Y_s 10 _ rfl (u3.setCell ⟨S,2,none⟩ (.slice o3 (P.length+1) k3)) (ZfI hR3.2.1 hR3.2.2 (.tmp 47) (.tmp 46) (by kernel_rfl) (by kernel_rfl) (by kernel_rfl)) trivial ?_
        refine wpAnyH_done (by kernel_rfl) ?_ _
        have hR4:=hR3.1
        go_wp2
        refine⟨⟨_,P++[(h,.slice vo h.ls.length vc)],p2,f',⟨o3,k3,by rw[List.length_append];rfl⟩,hR4,hlt2.1,by rw[List.length_append];simp;omega,hlt2.2.2.1,HN2.out h p2 r _ hk2⟩,?_⟩
        rw[Zdf hR4.ck,HK.out]
        omega
end

end Go.Proofs.YtgiojkhmkeocfaaGreatDoor
