/-
  Texts that belong together, joined: CpK, PsD, PsM5, CqR, CwG, HuC2, CwH, CwI, CrA, CxR2, CrB, CrC, CrD, PsE, CpL.
-/
import Derived.Test.YtcniomgjikienaaGreatDoorVrA9

set_option maxHeartbeats 16000000
set_option maxRecDepth 100000
namespace Go.Proofs.YtcniomgjikienaaGreatDoor

section
open Go.RowKit
theorem Zem {u:World} {v:Value} {l:List Mk} (h:HMk u v l) {S:Nat} {x a b:Int} {o:Option Addr} {n c:Nat} (hb:u.heap[S]?=some (.cells #[.int .i64 x,.int .i64 a,.int .i64 b,.slice o n c] 308)) (j:Nat) (z:Value):HMk (u.setCell ⟨S,j,none⟩ z) v l:=by
 cases l with
 | nil =>
  unfold HMk at h ⊢
  rcases h with h | ⟨ad,c,hv,hn,_⟩
  ·exact .inl h
  ·exact .inr ⟨ad,c,hv,hn,fun j u hj=>by simp[mkcells] at hj⟩
 | cons m l =>
  obtain⟨ao,c2,rfl⟩:=HMk.form h
  obtain⟨g,off,rfl,_,hc⟩:=HMk.at h (by simp)
  have hne:S≠g:=by
   rintro rfl
   have h0:=(hc 0 (by simp)).1
   rw[Lib.cell_of_heap hb] at h0
   match off,h0 with
   | 0,h0=>simp at h0
   | 1,h0=>simp at h0
   | 2,h0=>simp at h0
   | 3,h0=>simp at h0
   | k+4,h0=>simp at h0
  unfold HMk at h ⊢
  rcases h with ⟨e,_⟩ | ⟨ad,c',hv,hn,hcl⟩
  ·cases e
  ·injection hv with h1 h2 h3
   injection h1 with h1
   subst h1 h3
   exact .inr ⟨_,_,rfl,hn,fun j u' hj=>by rw[World.cell?_setCell_far _ _ _ _ (by have e:((⟨g,off,none⟩:Addr).add j).block=g:=(by unfold Addr.add;split<;>rfl);rw[e];exact hne)];exact hcl j u' hj⟩
structure Hz (wa:World) (R S1 S2:Nat) (vL:Value) (x1 a1 b1:Int) (v1:Value) (l1:List Mk) (x2 a2 b2:Int) (v2:Value) (l2:List Mk) (p:Nat) (u:World):Prop where
 gr:wa.grownBy u (some R)
 o1:u.heap[S1]?=some (.cells #[.int .i64 x1,.int .i64 a1,.int .i64 b1,v1] 308)
 o2:u.heap[S2]?=some (.cells #[.int .i64 x2,.int .i64 a2,.int .i64 b2,v2] 308)
 n1:HMk u v1 l1
 n2:HMk u v2 l2
 ck:Ck u R vL (p:Int)
 g1:wa.heap.size≤S1
 g2:wa.heap.size≤S2
 ne:S1≠S2
 rl:R<wa.heap.size
section
variable {wa u u':World} {R S1 S2:Nat} {vL v1 v2:Value} {x1 a1 b1 x2 a2 b2:Int} {l1 l2:List Mk} {p:Nat}
theorem Hz.keep (h:Hz wa R S1 S2 vL x1 a1 b1 v1 l1 x2 a2 b2 v2 l2 p u) (hb:Below u.heap.size u u'):Hz wa R S1 S2 vL x1 a1 b1 v1 l1 x2 a2 b2 v2 l2 p u':=⟨ZdT h.gr (ZfO hb _),(hb.block S1 (Array.getElem?_eq_some_iff.1 h.o1).1).trans h.o1,(hb.block S2 (Array.getElem?_eq_some_iff.1 h.o2).1).trans h.o2,h.n1.keep hb (Nat.le_refl _),h.n2.keep hb (Nat.le_refl _),h.ck.low hb,h.g1,h.g2,h.ne,h.rl⟩
theorem Hz.cells1 (h:Hz wa R S1 S2 vL x1 a1 b1 v1 l1 x2 a2 b2 v2 l2 p u):u.cell? ⟨S1,0,none⟩=some (.int .i64 x1)∧u.cell? ⟨S1,1,none⟩=some (.int .i64 a1)∧u.cell? ⟨S1,2,none⟩=some (.int .i64 b1)∧u.cell? ⟨S1,3,none⟩=some v1:=by
 refine⟨?_,?_,?_,?_⟩<;>rw[Lib.cell_of_heap h.o1]<;>rfl
theorem Hz.cells2 (h:Hz wa R S1 S2 vL x1 a1 b1 v1 l1 x2 a2 b2 v2 l2 p u):u.cell? ⟨S2,0,none⟩=some (.int .i64 x2)∧u.cell? ⟨S2,1,none⟩=some (.int .i64 a2)∧u.cell? ⟨S2,2,none⟩=some (.int .i64 b2)∧u.cell? ⟨S2,3,none⟩=some v2:=by
 refine⟨?_,?_,?_,?_⟩<;>rw[Lib.cell_of_heap h.o2]<;>rfl
theorem Hz.fr1 (h:Hz wa R S1 S2 vL x1 a1 b1 v1 l1 x2 a2 b2 v2 l2 p u):u.frozen? ⟨S1,3,none⟩=false:=Lib.frozen_of_heap h.o1 3
theorem Hz.fr2 (h:Hz wa R S1 S2 vL x1 a1 b1 v1 l1 x2 a2 b2 v2 l2 p u):u.frozen? ⟨S2,3,none⟩=false:=Lib.frozen_of_heap h.o2 3
theorem Hz.set1 (h:Hz wa R S1 S2 vL x1 a1 b1 v1 l1 x2 a2 b2 v2 l2 p u) {v:Value} {l:List Mk} (hv:HMk u v l):Hz wa R S1 S2 vL x1 a1 b1 v l x2 a2 b2 v2 l2 p (u.setCell ⟨S1,3,none⟩ v):=by
 have hg:=ZdS u S1 3 v
 obtain⟨o,c,rfl⟩:=HMk.form h.n1
 have e1:=h.o1
 exact⟨ZdR h.gr h.g1 3 v,heap_setCell_same u S1 3 _ _ v h.o1,(hg.block S2 (Array.getElem?_eq_some_iff.1 h.o2).1 (fun e=>h.ne (Option.some.inj e).symm)).trans h.o2,Zem hv h.o1 3 v,Zem h.n2 h.o1 3 v,h.ck.keep hg (fun e=>by cases e;have:=h.g1;have:=h.rl;omega),h.g1,h.g2,h.ne,h.rl⟩
theorem Hz.set2 (h:Hz wa R S1 S2 vL x1 a1 b1 v1 l1 x2 a2 b2 v2 l2 p u) {v:Value} {l:List Mk} (hv:HMk u v l):Hz wa R S1 S2 vL x1 a1 b1 v1 l1 x2 a2 b2 v l p (u.setCell ⟨S2,3,none⟩ v):=by
 have hg:=ZdS u S2 3 v
 obtain⟨o,c,rfl⟩:=HMk.form h.n2
 exact⟨ZdR h.gr h.g2 3 v,(hg.block S1 (Array.getElem?_eq_some_iff.1 h.o1).1 (fun e=>h.ne (Option.some.inj e))).trans h.o1,heap_setCell_same u S2 3 _ _ v h.o2,Zem h.n1 h.o2 3 v,Zem hv h.o2 3 v,h.ck.keep hg (fun e=>by cases e;have:=h.g2;have:=h.rl;omega),h.g1,h.g2,h.ne,h.rl⟩
end
def HkX (R:Nat) (vL:Value) (X:Except (Nat × Int) (Hk × Nat × List (List UInt8))) (w:World) (e:Ending) (w':World):Prop :=
 match X with
 | .error (a,z)=>Thr (a:Int) z e w'∧w.grownBy w' (some R)
 | .ok (h,p1,_)=>∃ v',e=.returned (hkV h v')∧w'.ownsRow w.heap.size 47 2 v' h.ls.length (mkcells h.ls)∧Ck w' R vL (p1:Int)∧w.grownBy w' (some R)
def zhk:Hk:=⟨0,0,0,0,[]⟩
theorem Zjq {r0 r1 z0 z1:Bool} {x0 x1 a z:Int} (h:rgX r0 r1 z0 z1 x0 x1=some (a,z)):a=x0∨a=x1:=by
 unfold rgX at h
 split at h
 ·injection h with h;injection h with h;exact .inl h.symm
 ·split at h
  ·injection h with h;injection h with h;exact .inr h.symm
  ·split at h
   ·injection h with h;injection h with h;exact .inl h.symm
   ·split at h
    ·injection h with h;injection h with h;exact .inr h.symm
    ·cases h
def five (u:World) (b:Nat) (A AN B BN:Int) (z:Value):World:=((((u.setCell ⟨b,0,none⟩ (.int .i64 A)).setCell ⟨b,1,none⟩ (.int .i64 AN)).setCell ⟨b,2,none⟩ (.int .i64 B)).setCell ⟨b,3,none⟩ (.int .i64 BN)).setCell ⟨b,4,none⟩ z
theorem Zdj {w wa u:World} {R:Nat} (hg:wa.grownBy u (some R)) (hZ:wa.heap[w.heap.size]?=some (hkO zhk (.slice none 0 0))∧w.heap.size<wa.heap.size∧w.heap.size≠R) (Q:Nat) (hQ:w.heap.size=Q) :
  u.cell? ⟨Q,0,none⟩=some (.int .i64 0)∧u.cell? ⟨Q,1,none⟩=some (.int .i64 0)∧u.cell? ⟨Q,2,none⟩=some (.int .i64 0)∧u.cell? ⟨Q,3,none⟩=some (.int .i64 0)∧u.cell? ⟨Q,4,none⟩=some (.slice none 0 0)∧∀ j,u.frozen? ⟨Q,j,none⟩=false:=by
 obtain⟨h1,h2,h3⟩:=hZ
 have hb:u.heap[w.heap.size]?=some (.cells #[.int .i64 0,.int .i64 0,.int .i64 0,.int .i64 0,.slice none 0 0] 45):=(hg.block _ h2 (fun e=>h3 (Option.some.inj e))).trans h1
 rw[hQ] at hb
 refine⟨?_,?_,?_,?_,?_,fun j=>Lib.frozen_of_heap hb j⟩<;>rw[Lib.cell_of_heap hb]<;>rfl
theorem Zdk {w wa u:World} {R:Nat} {vL v:Value} {p:Int} {n:Nat} {xs:List Value} (hg:wa.grownBy u (some R)) (hG:∀ u,wa.grownBy u (some R)→w.grownBy u (some R)) (hZ:wa.heap[w.heap.size]?=some (hkO zhk (.slice none 0 0))∧w.heap.size<wa.heap.size∧w.heap.size≠R) (hc:Ck u R vL p) (ho:u.ownsRow w.heap.size 47 2 v n xs) (A AN B BN:Int) (l:List Mk) (hne:v.ownBlock≠some w.heap.size) :
  Hx (five u w.heap.size A AN B BN v) w.heap.size ⟨A,AN,B,BN,l⟩ v∧(five u w.heap.size A AN B BN v).ownsRow w.heap.size 47 2 v n xs∧Ck (five u w.heap.size A AN B BN v) R vL p∧w.grownBy (five u w.heap.size A AN B BN v) (some R):=by
 obtain⟨h1,h2,h3⟩:=hZ
 have hb:u.heap[w.heap.size]?=some (hkO zhk (.slice none 0 0)):=(hg.block _ h2 (fun e=>h3 (Option.some.inj e))).trans h1
 have hn:some R≠some w.heap.size:=fun e=>h3 (Option.some.inj e).symm
 refine⟨?_,((((ho.kept (ZdS _ _ 0 _) (.inr hne)).kept (ZdS _ _ 1 _) (.inr hne)).kept (ZdS _ _ 2 _) (.inr hne)).kept (ZdS _ _ 3 _) (.inr hne)).kept (ZdS _ _ 4 _) (.inr hne),((((hc.keep (ZdS _ _ 0 _) hn).keep (ZdS _ _ 1 _) hn).keep (ZdS _ _ 2 _) hn).keep (ZdS _ _ 3 _) hn).keep (ZdS _ _ 4 _) hn,?_⟩
 ·have s0:=heap_setCell_same u w.heap.size 0 _ _ (.int .i64 A) hb
  have s1:=heap_setCell_same _ w.heap.size 1 _ _ (.int .i64 AN) s0
  have s2:=heap_setCell_same _ w.heap.size 2 _ _ (.int .i64 B) s1
  have s3:=heap_setCell_same _ w.heap.size 3 _ _ (.int .i64 BN) s2
  exact heap_setCell_same _ w.heap.size 4 _ _ v s3
 ·exact ZdR (ZdR (ZdR (ZdR (ZdR (hG _ hg) (Nat.le_refl _) 0 _) (Nat.le_refl _) 1 _) (Nat.le_refl _) 2 _) (Nat.le_refl _) 3 _) (Nat.le_refl _) 4 _
def outX (p p4:Nat) (r4:List (List UInt8)) (s:Bool) (Yr:Option (Int × Int)) (Yj:Option (List Mk)) (a1 a2:Int) (n1 n2:Nat):Except (Nat × Int) (Hk × Nat × List (List UInt8)) :=
 if s=true then .error (p+1,50) else match Yr with
 | some (a,z)=>.error (a.toNat,z)
 | none=>match Yj with
  | none=>.error (p+1,190)
  | some l=>.ok (⟨a1,n1,a2,n2,l⟩,p4,r4)
theorem Zcb {R:Nat} {L:List (List UInt8)} {lo:Option Addr} {lc:Nat} {p k:Nat} (hk:k≤4096) (w:World) (q:Ck w R (.slice lo L.length lc) p) (HL:Hid (∀ u,w.grownBy u (some R)→HS u (.slice lo L.length lc) L)) (HPl:Hid (Plain L)) (hp:p≤L.length) (hLl:L.length≤137438953472) (HSl:Hid (∀ s∈L,s.length≤1099511627776))
  (X:Except (Nat × Int) (Hk × Nat × List (List UInt8))) (HX:Hid (cxH k p (L.drop p)=X)) :
  Calls Tryz.prog 214 #[.pointer (some ⟨R,0,none⟩),.int .i64 (k:Int)] w fun e w'=>HkX R (.slice lo L.length lc) X w e w':=by
 have q1:Ck (w.alloc (hkO zhk (.slice none 0 0))) R (.slice lo L.length lc) p:=q.low ((Below.refl _ w).alloc (Nat.le_refl _) _)
 have hL1:=HL.out _ (World.grownBy_alloc w (hkO zhk (.slice none 0 0)) (some R))
 have HG:Hid (∀ u,(w.alloc (hkO zhk (.slice none 0 0))).grownBy u (some R)→w.grownBy u (some R)):=fun u hu=>ZdO _ hu
 have hRl:=q.lt
 have HX2:=HX.out
 rw[Zeg] at HX2
 obtain⟨Y,hY⟩:∃ Y,starsP k p (L.drop p)=Y:=⟨_,rfl⟩
 rw[hY] at HX2
 have hst:=Zcf hk (w.alloc (hkO zhk (.slice none 0 0))) q1 hL1 hp (by omega) HSl.out Y hY
 have hRl1:R<(w.alloc (hkO zhk (.slice none 0 0))).heap.size:=(by simp;omega)
 have HZ:Hid ((w.alloc (hkO zhk (.slice none 0 0))).heap[w.heap.size]?=some (hkO zhk (.slice none 0 0))∧w.heap.size<(w.alloc (hkO zhk (.slice none 0 0))).heap.size∧w.heap.size≠R):=⟨heap_alloc_new w _,by simp,by omega⟩
 have hW:w.alloc (.cells #[.int .i64 0,.int .i64 0,.int .i64 0,.int .i64 0,.slice none 0 0] 45)=w.alloc (hkO zhk (.slice none 0 0)):=rfl
 clear HX q q1 hL1
 generalize hwa:w.alloc (hkO zhk (.slice none 0 0))=wa at *
 clear hwa
 go_enter Tryz.func214,Tryz.ntmps214
 go_wp2_with fail
 refine hst.mono ?_
 clear hst hW
 cases Y with
 | error z =>
  obtain⟨a,z⟩:=z
  rintro e w1 ⟨⟨g,rfl,hg⟩,hgr⟩
  have hXe:X=.error (a,z):=HX2.symm
  subst hXe
  go_wp2
  exact⟨rfl,⟨_,rfl,hg⟩,HG.out _ hgr⟩
 | ok r =>
  rintro e w1 ⟨rfl,qk1,gr1⟩
  obtain⟨rfl,hpl⟩:=ZkC hY
  dsimp only at HX2
  obtain⟨Y1,hY1⟩:∃ Y,sidR 42 45 (p+1) (L.drop (p+1))=Y:=⟨_,rfl⟩
  rw[hY1] at HX2
  have hs1:=Zcd 42 45 w1 qk1 (fun u hu=>HL.out u (HG.out _ (ZdT gr1 hu))) HPl (by omega) (by omega) HSl _ (show Hid (sidX 42 45 (p+1) (L.drop (p+1))=mapR Y1) by rw[← hY1];exact Zkh (by decide) _ _)
  clear hY
  go_wp2_with fail
  refine hs1.mono ?_
  clear hs1
  cases Y1 with
  | error z =>
   obtain⟨a,z⟩:=z
   rintro e w2 ⟨⟨g,rfl,hg⟩,hgr⟩
   have hXe:X=.error (a,z):=HX2.symm
   subst hXe
   go_wp2
   exact⟨rfl,⟨_,rfl,hg⟩,HG.out _ (ZdT gr1 hgr)⟩
  | ok z =>
   obtain⟨⟨a1,b1⟩,o,p2,r2⟩:=z
   rintro e w2 ⟨v1,he,own1,nil1,qk2,gr2⟩
   obtain⟨x1,hx1⟩:∃ x,(((p+1:Nat):Int)+1)=x:=⟨_,rfl⟩
   rw[hx1] at he
   subst he
   have Hx1:Hid (((p+2:Nat):Int)=x1):=(by show _=_;rw[← hx1];omega)
   clear hx1
   obtain⟨rfl,hp2,hol,hpp,hb1⟩:=Zkg hY1
   dsimp only at HX2 hb1
   obtain⟨Y2,hY2⟩:∃ Y,sidR 45 43 p2 (L.drop p2)=Y:=⟨_,rfl⟩
   rw[hY2] at HX2
   have hR1:R<w1.heap.size:=Nat.lt_of_lt_of_le hRl1 gr1.size
   have gra:=ZdT gr1 gr2
   obtain⟨w3,hw3⟩:∃ u,w2.alloc (.cells #[.int .i64 x1,.int .i64 a1,.int .i64 b1,v1] 308)=u:=⟨_,rfl⟩
   have hB3:Below w2.heap.size w2 w3:=(by rw[← hw3];exact (Below.refl _ w2).alloc (Nat.le_refl _) _)
   have hbox1:w3.heap[w2.heap.size]?=some (.cells #[.int .i64 x1,.int .i64 a1,.int .i64 b1,v1] 308):=(by rw[← hw3];exact heap_alloc_new _ _)
   have qk3:=qk2.low hB3
   have own3:=ZhK own1 hB3
   have gr3:=ZdT gra (ZfO hB3 (some R))
   have hsz3:w2.heap.size<w3.heap.size:=(by rw[← hw3];simp)
   have hs2:=Zcd 45 43 w3 qk3 (fun u hu=>HL.out u (HG.out _ (ZdT gr3 hu))) HPl hp2 (by omega) HSl _ (show Hid (sidX 45 43 p2 (L.drop p2)=mapR Y2) by rw[← hY2];exact Zkh (by decide) _ _)
   obtain⟨v1o,v1c,rfl⟩:=(Zeo own1).form
   clear hY1 qk1 qk2 own1 qk3
   go_wp2_with fail
   refine hs2.mono ?_
   clear hs2 hw3
   cases Y2 with
   | error z =>
    obtain⟨a,z⟩:=z
    rintro e w4 ⟨⟨g,rfl,hg⟩,hgr⟩
    have hXe:X=.error (a,z):=HX2.symm
    subst hXe
    go_wp2
    exact⟨rfl,⟨_,rfl,hg⟩,HG.out _ (ZdT gr3 hgr)⟩
   | ok z =>
    obtain⟨⟨a2,b2⟩,vw,p4,r4⟩:=z
    rintro e w4 ⟨v2,he,own2,nil2,qk4,gr4⟩
    obtain⟨x2,hx2⟩:∃ x,((p2:Int)+1)=x:=⟨_,rfl⟩
    rw[hx2] at he
    subst he
    have Hx2:Hid (((p2+1:Nat):Int)=x2):=(by show _=_;rw[← hx2];omega)
    clear hx2
    obtain⟨rfl,hp4,hvl,hpp2,hb2⟩:=Zkg hY2
    dsimp only at HX2 hb2
    have hS12:w2.heap.size≠w4.heap.size:=(by have:=gr4.size;omega)
    have own4:=ZhI own3 gr4 hR1
    have hR2:R<w2.heap.size:=Nat.lt_of_lt_of_le hR1 gr2.size
    have hbox4:=(gr4.block w2.heap.size hsz3 (fun e=>by cases e;omega)).trans hbox1
    have gra4:=ZdT gr3 gr4
    obtain⟨w5,hw5⟩:∃ u,w4.alloc (.cells #[.int .i64 x2,.int .i64 a2,.int .i64 b2,v2] 308)=u:=⟨_,rfl⟩
    have hB5:Below w4.heap.size w4 w5:=(by rw[← hw5];exact (Below.refl _ w4).alloc (Nat.le_refl _) _)
    have hH:Hz wa R w2.heap.size w4.heap.size (.slice lo L.length lc) x1 a1 b1 (.slice v1o (kM o).length v1c) (kM o) x2 a2 b2 v2 (kM vw) p4 w5:=⟨ZdT gra4 (ZfO hB5 _),(hB5.block _ (Array.getElem?_eq_some_iff.1 hbox4).1).trans hbox4,(by rw[← hw5];exact heap_alloc_new _ _),Zeo (ZhK own4 hB5),Zeo (ZhK own2 hB5),qk4.low hB5,gra.size,gra4.size,hS12,hRl1⟩
    obtain⟨v2o,v2c,rfl⟩:=(Zeo own2).form
    clear own2 own3 own4 qk4 gr4 hbox4 hbox1 gra4 hB5 hY2 gr3 gr2 gr1 gra hB3 hsz3 hS12 hR1 hR2
    generalize w2.heap.size=S1 at hH ⊢
    go_upto_region 4 with fail
    clear hw5
    generalize w4.heap.size=S2 at hH ⊢
    obtain⟨c0,c1,c2,c3⟩:=hH.cells1
    obtain⟨d0,d1,d2,d3⟩:=hH.cells2
    have hf1:=hH.fr1
    have hkl:∀ x:Sde,(keptS x).length≤x.length:=fun x=>List.length_filter_le _ _
    by_cases ho0:o=[]
    ·have z1:(((kM o).length:Int) == 0)=true:=(by rw[Zfe.2 ho0];rfl)
     have HO0:Hid (o=[]):=ho0
     clear ho0
     have ck1:=ZbD (kM vw) (.slice v2o (kM vw).length v2c) w5 ⟨hH.n2,nil2⟩ (by rw[Zfd];omega) (kM (keptS vw)) (Zfk vw)
     go_wp2_with fail
     refine ck1.mono ?_
     rintro e wk ⟨vk,rfl,hk1,hk0,hBk⟩
     have HK0:Hid (kM vw=[]→vk=.slice none 0 0):=hk0
     have hHk0:=hH.keep hBk
     obtain⟨k0,k1,k2,k3⟩:=hHk0.cells1
     have kf:=hHk0.fr1
     have hH1:=hHk0.set1 hk1
     obtain⟨ko,kc,rfl⟩:=HMk.form hk1
     clear hH c0 c1 c2 c3 d0 d1 d2 d3 ck1 hk0 hk1 hf1
     obtain⟨O,hO0⟩:∃ O,keptS vw=O:=⟨_,rfl⟩
     have HO:Hid (oldF o vw=O):=(by show _=_;unfold oldF;rw[if_pos HO0.out];exact hO0)
     have hOl:O.length≤137438953472:=(by rw[← hO0];have:=hkl vw;omega)
     have HOk:Hid (keptS vw=O):=hO0
     rw[hO0] at hH1 HK0 ⊢
     clear hO0
     go_upto_region 6 with fail
     generalize wk.setCell ⟨S1,3,none⟩ (.slice ko (kM O).length kc)=u1 at hH1 ⊢
     obtain⟨c0,c1,c2,c3⟩:=hH1.cells1
     obtain⟨d0,d1,d2,d3⟩:=hH1.cells2
     clear k0 k1 k2 k3 kf hHk0
     by_cases hw0:vw=[]
     ·have z2:(((kM vw).length:Int) == 0)=true:=(by rw[Zfe.2 hw0];rfl)
      have HW0:Hid (vw=[]):=hw0
      have hkn:=HK0.out (Zfe.2 hw0)
      clear hw0
      have ck2:=ZbD (kM O) (.slice ko (kM O).length kc) u1 ⟨hH1.n1,fun _=>hkn⟩ (by rw[Zfd];omega) (kM (keptS O)) (Zfk _)
      clear hkn
      go_wp2_with fail
      refine ck2.mono ?_
      rintro e wl ⟨vl,rfl,hl1,_,hBl⟩
      have hHl0:=hH1.keep hBl
      obtain⟨k0,k1,k2,k3⟩:=hHl0.cells2
      have kf:=hHl0.fr2
      have hH2:=hHl0.set2 hl1
      obtain⟨lo1,lc1,rfl⟩:=HMk.form hl1
      clear hH1 c0 c1 c2 c3 d0 d1 d2 d3 ck2 hl1
      obtain⟨V,hV0⟩:∃ V,keptS O=V:=⟨_,rfl⟩
      have hV:newF o vw=V:=(by unfold newF;rw[if_neg (fun h=>h.1 HO0.out),← hV0,← HOk.out,HW0.out];rfl)
      have hVl:V.length≤137438953472:=(by rw[← hV0];have:=hkl O;omega)
      rw[hV0] at hH2 ⊢
      clear hV0
      have HV:Hid (newF o vw=V):=hV
      clear hV
      go_upto_region 8 with fail
      generalize wl.setCell ⟨S2,3,none⟩ (.slice lo1 (kM V).length lc1)=u2 at hH2 ⊢
      clear k0 k1 k2 k3 kf hHl0
      have hH:=hH2
      clear hH2
      have hO:=HO.out
      have hV:=HV.out
      clear HO HV
      have hFin:finH (p+1) (p+2) (p2+1) a1 (sayC (a1,b1)).2 a2 (sayC (a2,b2)).2 o vw=_:=Zdg (p+1) (p+2) (p2+1) (a1,b1) (a2,b2) hb1.2.1 hb2.2.1 o vw O V hO hV
      clear hO hV
      have hOl2:(kM O).length≤137438953472:=(by rw[Zfd];exact hOl)
      have hVl2:(kM V).length≤137438953472:=(by rw[Zfd];exact hVl)
      obtain⟨s1,hs1⟩:∃ r,allM 32 (kM O)=r:=⟨_,rfl⟩
      obtain⟨s2,hs2⟩:∃ r,allM 32 (kM V)=r:=⟨_,rfl⟩
      have hss:(sameS O && sameS V)=(s1 && s2):=(by rw[← hs1,← hs2,ZjO,ZjO])
      obtain⟨Yr,hYr⟩:∃ r,rgX (cntR a1 b1 (kM O).length) (cntR a2 b2 (kM V).length) (decide (a1=0) && decide (0<(kM O).length)) (decide (a2=0) && decide (0<(kM V).length)) x1 x2=r:=⟨_,rfl⟩
      obtain⟨Yj,hYj⟩:∃ r,jnX O V=r:=⟨_,rfl⟩
      rw[hss,Hx1.out,Hx2.out,hYr,hYj] at hFin
      have HXc:Hid (outX p p4 (L.drop p4) (s1 && s2) Yr Yj a1 a2 O.length V.length=X):=(by
       show _=_
       rw[← HX2]
       unfold finR outX
       dsimp only
       rw[hFin]
       cases s1 && s2 with
       | true=>rfl
       | false =>
        cases Yr with
        | some az=>rfl
        | none=>cases Yj<;>rfl)
      clear hFin HX2
      have ca1:=fun u (h:HMk u (.slice ko (kM O).length kc) (kM O))=>ZaZ 32 (kM O) _ u h (by omega) s1 hs1
      have ca2:=fun u (h:HMk u (.slice lo1 (kM V).length lc1) (kM V))=>ZaZ 32 (kM V) _ u h (by omega) s2 hs2
      have cr:=fun u=>Zbi x1 a1 b1 x2 a2 b2 ko lo1 (kM O).length kc (kM V).length lc1 u hb1.1 hb1.2.2 hb1.2.1 (by omega) hb2.1 hb2.2.2 hb2.2.1 (by omega) Yr hYr
      have cl:=fun u (h1:HMk u (.slice ko (kM O).length kc) (kM O)) (h2:HMk u (.slice lo1 (kM V).length lc1) (kM V))=>ZbE O V _ _ u h1 h2 hOl hVl Yj hYj
      have HYa:Hid (∀ a z,Yr=some (a,z)→((a.toNat:Nat):Int)=a):=(by
       intro a z hz
       have hge:=Zjq (hYr.trans hz)
       have:=Hx1.out
       have:=Hx2.out
       rcases hge with h | h<;>omega)
      clear hs1 hs2 hss hYr hYj
      obtain⟨c0,c1,c2,c3⟩:=hH.cells1
      obtain⟨d0,d1,d2,d3⟩:=hH.cells2
      go_upto_region 8 with fail
      go_cut [40] (fun cv wz=>cv=.bool (s1 && s2)∧Hz wa R S1 S2 (.slice lo L.length lc) x1 a1 b1 (.slice ko (kM O).length kc) (kM O) x2 a2 b2 (.slice lo1 (kM V).length lc1) (kM V) p4 wz)
      case first =>
       go_wp2_with fail
       refine (ca1 _ hH.n1).mono ?_
       rintro e wA ⟨rfl,hBA⟩
       have hHA:=hH.keep hBA
       clear hH c0 c1 c2 c3 d0 d1 d2 d3
       obtain⟨c0,c1,c2,c3⟩:=hHA.cells1
       obtain⟨d0,d1,d2,d3⟩:=hHA.cells2
       cases s1 with
       | false =>
        go_wp2
        go_meet
        case rel=>exact⟨rfl,hHA⟩
       | true =>
        go_wp2_with fail
        refine (ca2 _ hHA.n2).mono ?_
        rintro e wB ⟨rfl,hBB⟩
        have hHB:=hHA.keep hBB
        go_wp2
        go_meet
        case rel=>exact⟨rfl,hHB⟩
      case rest =>
      obtain⟨rfl,hHC⟩:=hcut
      clear hH c0 c1 c2 c3 d0 d1 d2 d3 ca1 ca2
      cases hsb:(s1 && s2) with
      | true =>
       have hXe:X=.error (p+1,50):=(by rw[← HXc.out,hsb];rfl)
       subst hXe
       clear hsb HXc
       go_wp2_with fail
       refine (Zcl _ 50 _).mono ?_
       rintro e wD ⟨⟨g,rfl,hg⟩,hBD⟩
       go_wp2
       exact⟨rfl,⟨_,rfl,by simpa using hg⟩,HG.out _ (ZdT hHC.gr (ZfO hBD _))⟩
      | false =>
       have HXd:Hid (outX p p4 (L.drop p4) false Yr Yj a1 a2 O.length V.length=X):=(by show _=_;rw[← HXc.out,hsb])
       clear hsb HXc
       obtain⟨c0,c1,c2,c3⟩:=hHC.cells1
       obtain⟨d0,d1,d2,d3⟩:=hHC.cells2
       cases Yr with
       | some az =>
        obtain⟨za,zz⟩:=az
        have hXe:X=.error (za.toNat,zz):=HXd.out.symm
        subst hXe
        have HZa:=HYa.out _ _ rfl
        have HZb:Hid (((za.toNat:Nat):Int)=za):=HZa
        clear HXd HYa HZa
        go_wp2_with fail
        refine (cr _).mono ?_
        rintro e wD ⟨hBD,g,rfl,hg⟩
        go_wp2
        exact⟨rfl,⟨_,rfl,by rw[HZb.out];exact hg⟩,HG.out _ (ZdT hHC.gr (ZfO hBD _))⟩
       | none =>
        go_wp2_with fail
        refine (cr _).mono ?_
        rintro e wD ⟨hBD,he⟩
        have he2:e=.returned (.tuple #[]):=he
        subst he2
        have hHD:=hHC.keep hBD
        clear hHC c0 c1 c2 c3 d0 d1 d2 d3 cr he
        obtain⟨c0,c1,c2,c3⟩:=hHD.cells1
        obtain⟨d0,d1,d2,d3⟩:=hHD.cells2
        go_wp2_with fail
        refine (cl _ hHD.n1 hHD.n2).mono ?_
        cases Yj with
        | none =>
         rintro e wE ⟨ve,re,rfl,hBE,rfl⟩
         have hXe:X=.error (p+1,190):=HXd.out.symm
         subst hXe
         clear HXd
         go_wp2_with fail
         refine (Zcl _ 190 _).mono ?_
         rintro e wF ⟨⟨g,rfl,hg⟩,hBF⟩
         go_wp2
         exact⟨rfl,⟨_,rfl,by simpa using hg⟩,HG.out _ (ZdT (hHD.keep hBE).gr (ZfO hBF _))⟩
        | some lj =>
         rintro e wE ⟨ve,re,rfl,hBE,rfl,hown⟩
         have hXe:X=.ok (⟨a1,O.length,a2,V.length,lj⟩,p4,L.drop p4):=HXd.out.symm
         subst hXe
         clear HXd c0 c1 c2 c3 d0 d1 d2 d3
         have hHE:=hHD.keep hBE
         obtain⟨eo,ec,rfl⟩:=(Zeo hown).form
         have hsz:wD.heap.size ≥ w.heap.size:=(HG.out _ hHD.gr).size
         obtain⟨c0,c1,c2,c3⟩:=hHE.cells1
         obtain⟨d0,d1,d2,d3⟩:=hHE.cells2
         obtain⟨y0,y1,y2,y3,y4,yf⟩:=Zdj hHE.gr HZ.out _ rfl
         have fin:=Zdk hHE.gr HG.out HZ.out hHE.ck (ZhC hown hsz) a1 ((kM O).length:Int) a2 ((kM V).length:Int) lj (by
          intro e
          have h1:=ZhJ hown e
          have h2:=hHD.gr.size
          have h3:=HZ.out.2.1
          omega)
         obtain⟨fh,fo,fq,fg⟩:=fin
         have yf0:=yf 0
         have yf1:=yf 1
         have yf2:=yf 2
         have yf3:=yf 3
         have yf4:=yf 4
         clear yf hHD hHE hown cl
         have HKl:Hid (((kM O).length:Int)=(O.length:Int)∧((kM V).length:Int)=(V.length:Int)):=⟨by rw[Zfd],by rw[Zfd]⟩
         go_wp2
         refine bodyPost_ret (v:=hkV ⟨a1,((kM O).length:Int),a2,((kM V).length:Int),lj⟩ (.slice eo lj.length ec)) (results_cell_row rfl _ _ w.heap.size 45 #[.int .i64 a1,.int .i64 ((kM O).length:Int),.int .i64 a2,.int .i64 ((kM V).length:Int),.slice eo lj.length ec] (0,0) _ rfl fh Tryz.underlying45 rfl (by kernel_rfl)) rfl ⟨_,by rw[HKl.out.1,HKl.out.2],fo,fq,fg⟩
     ·have z2:(((kM vw).length:Int) == 0)=false:=(by rw[beq_eq_false_iff_ne,Zfd];intro e;exact hw0 (List.eq_nil_of_length_eq_zero (by omega)))
      have HV:Hid (newF o vw=vw):=(by show _=_;unfold newF;rw[if_neg (fun h=>hw0 h.2)])
      clear hw0
      have hvl3:vw.length≤137438953472:=by omega
      go_upto_region 8 with fail
      have hH:=hH1
      clear hH1 c0 c1 c2 c3 d0 d1 d2 d3
      have hO:=HO.out
      have hV:=HV.out
      clear HO HV
      have hFin:finH (p+1) (p+2) (p2+1) a1 (sayC (a1,b1)).2 a2 (sayC (a2,b2)).2 o vw=_:=Zdg (p+1) (p+2) (p2+1) (a1,b1) (a2,b2) hb1.2.1 hb2.2.1 o vw O vw hO hV
      clear hO hV
      have hOl2:(kM O).length≤137438953472:=(by rw[Zfd];exact hOl)
      have hvl32:(kM vw).length≤137438953472:=(by rw[Zfd];exact hvl3)
      obtain⟨s1,hs1⟩:∃ r,allM 32 (kM O)=r:=⟨_,rfl⟩
      obtain⟨s2,hs2⟩:∃ r,allM 32 (kM vw)=r:=⟨_,rfl⟩
      have hss:(sameS O && sameS vw)=(s1 && s2):=(by rw[← hs1,← hs2,ZjO,ZjO])
      obtain⟨Yr,hYr⟩:∃ r,rgX (cntR a1 b1 (kM O).length) (cntR a2 b2 (kM vw).length) (decide (a1=0) && decide (0<(kM O).length)) (decide (a2=0) && decide (0<(kM vw).length)) x1 x2=r:=⟨_,rfl⟩
      obtain⟨Yj,hYj⟩:∃ r,jnX O vw=r:=⟨_,rfl⟩
      rw[hss,Hx1.out,Hx2.out,hYr,hYj] at hFin
      have HXc:Hid (outX p p4 (L.drop p4) (s1 && s2) Yr Yj a1 a2 O.length vw.length=X):=(by
       show _=_
       rw[← HX2]
       unfold finR outX
       dsimp only
       rw[hFin]
       cases s1 && s2 with
       | true=>rfl
       | false =>
        cases Yr with
        | some az=>rfl
        | none=>cases Yj<;>rfl)
      clear hFin HX2
      have ca1:=fun u (h:HMk u (.slice ko (kM O).length kc) (kM O))=>ZaZ 32 (kM O) _ u h (by omega) s1 hs1
      have ca2:=fun u (h:HMk u (.slice v2o (kM vw).length v2c) (kM vw))=>ZaZ 32 (kM vw) _ u h (by omega) s2 hs2
      have cr:=fun u=>Zbi x1 a1 b1 x2 a2 b2 ko v2o (kM O).length kc (kM vw).length v2c u hb1.1 hb1.2.2 hb1.2.1 (by omega) hb2.1 hb2.2.2 hb2.2.1 (by omega) Yr hYr
      have cl:=fun u (h1:HMk u (.slice ko (kM O).length kc) (kM O)) (h2:HMk u (.slice v2o (kM vw).length v2c) (kM vw))=>ZbE O vw _ _ u h1 h2 hOl hvl3 Yj hYj
      have HYa:Hid (∀ a z,Yr=some (a,z)→((a.toNat:Nat):Int)=a):=(by
       intro a z hz
       have hge:=Zjq (hYr.trans hz)
       have:=Hx1.out
       have:=Hx2.out
       rcases hge with h | h<;>omega)
      clear hs1 hs2 hss hYr hYj
      obtain⟨c0,c1,c2,c3⟩:=hH.cells1
      obtain⟨d0,d1,d2,d3⟩:=hH.cells2
      go_upto_region 8 with fail
      go_cut [40] (fun cv wz=>cv=.bool (s1 && s2)∧Hz wa R S1 S2 (.slice lo L.length lc) x1 a1 b1 (.slice ko (kM O).length kc) (kM O) x2 a2 b2 (.slice v2o (kM vw).length v2c) (kM vw) p4 wz)
      case first =>
       go_wp2_with fail
       refine (ca1 _ hH.n1).mono ?_
       rintro e wA ⟨rfl,hBA⟩
       have hHA:=hH.keep hBA
       clear hH c0 c1 c2 c3 d0 d1 d2 d3
       obtain⟨c0,c1,c2,c3⟩:=hHA.cells1
       obtain⟨d0,d1,d2,d3⟩:=hHA.cells2
       cases s1 with
       | false =>
        go_wp2
        go_meet
        case rel=>exact⟨rfl,hHA⟩
       | true =>
        go_wp2_with fail
        refine (ca2 _ hHA.n2).mono ?_
        rintro e wB ⟨rfl,hBB⟩
        have hHB:=hHA.keep hBB
        go_wp2
        go_meet
        case rel=>exact⟨rfl,hHB⟩
      case rest =>
      obtain⟨rfl,hHC⟩:=hcut
      clear hH c0 c1 c2 c3 d0 d1 d2 d3 ca1 ca2
      cases hsb:(s1 && s2) with
      | true =>
       have hXe:X=.error (p+1,50):=(by rw[← HXc.out,hsb];rfl)
       subst hXe
       clear hsb HXc
       go_wp2_with fail
       refine (Zcl _ 50 _).mono ?_
       rintro e wD ⟨⟨g,rfl,hg⟩,hBD⟩
       go_wp2
       exact⟨rfl,⟨_,rfl,by simpa using hg⟩,HG.out _ (ZdT hHC.gr (ZfO hBD _))⟩
      | false =>
       have HXd:Hid (outX p p4 (L.drop p4) false Yr Yj a1 a2 O.length vw.length=X):=(by show _=_;rw[← HXc.out,hsb])
       clear hsb HXc
       obtain⟨c0,c1,c2,c3⟩:=hHC.cells1
       obtain⟨d0,d1,d2,d3⟩:=hHC.cells2
       cases Yr with
       | some az =>
        obtain⟨za,zz⟩:=az
        have hXe:X=.error (za.toNat,zz):=HXd.out.symm
        subst hXe
        have HZa:=HYa.out _ _ rfl
        have HZb:Hid (((za.toNat:Nat):Int)=za):=HZa
        clear HXd HYa HZa
        go_wp2_with fail
        refine (cr _).mono ?_
        rintro e wD ⟨hBD,g,rfl,hg⟩
        go_wp2
        exact⟨rfl,⟨_,rfl,by rw[HZb.out];exact hg⟩,HG.out _ (ZdT hHC.gr (ZfO hBD _))⟩
       | none =>
        go_wp2_with fail
        refine (cr _).mono ?_
        rintro e wD ⟨hBD,he⟩
        have he2:e=.returned (.tuple #[]):=he
        subst he2
        have hHD:=hHC.keep hBD
        clear hHC c0 c1 c2 c3 d0 d1 d2 d3 cr he
        obtain⟨c0,c1,c2,c3⟩:=hHD.cells1
        obtain⟨d0,d1,d2,d3⟩:=hHD.cells2
        go_wp2_with fail
        refine (cl _ hHD.n1 hHD.n2).mono ?_
        cases Yj with
        | none =>
         rintro e wE ⟨ve,re,rfl,hBE,rfl⟩
         have hXe:X=.error (p+1,190):=HXd.out.symm
         subst hXe
         clear HXd
         go_wp2_with fail
         refine (Zcl _ 190 _).mono ?_
         rintro e wF ⟨⟨g,rfl,hg⟩,hBF⟩
         go_wp2
         exact⟨rfl,⟨_,rfl,by simpa using hg⟩,HG.out _ (ZdT (hHD.keep hBE).gr (ZfO hBF _))⟩
        | some lj =>
         rintro e wE ⟨ve,re,rfl,hBE,rfl,hown⟩
         have hXe:X=.ok (⟨a1,O.length,a2,vw.length,lj⟩,p4,L.drop p4):=HXd.out.symm
         subst hXe
         clear HXd c0 c1 c2 c3 d0 d1 d2 d3
         have hHE:=hHD.keep hBE
         obtain⟨eo,ec,rfl⟩:=(Zeo hown).form
         have hsz:wD.heap.size ≥ w.heap.size:=(HG.out _ hHD.gr).size
         obtain⟨c0,c1,c2,c3⟩:=hHE.cells1
         obtain⟨d0,d1,d2,d3⟩:=hHE.cells2
         obtain⟨y0,y1,y2,y3,y4,yf⟩:=Zdj hHE.gr HZ.out _ rfl
         have fin:=Zdk hHE.gr HG.out HZ.out hHE.ck (ZhC hown hsz) a1 ((kM O).length:Int) a2 ((kM vw).length:Int) lj (by
          intro e
          have h1:=ZhJ hown e
          have h2:=hHD.gr.size
          have h3:=HZ.out.2.1
          omega)
         obtain⟨fh,fo,fq,fg⟩:=fin
         have yf0:=yf 0
         have yf1:=yf 1
         have yf2:=yf 2
         have yf3:=yf 3
         have yf4:=yf 4
         clear yf hHD hHE hown cl
         have HKl:Hid (((kM O).length:Int)=(O.length:Int)∧((kM vw).length:Int)=(vw.length:Int)):=⟨by rw[Zfd],by rw[Zfd]⟩
         go_wp2
         refine bodyPost_ret (v:=hkV ⟨a1,((kM O).length:Int),a2,((kM vw).length:Int),lj⟩ (.slice eo lj.length ec)) (results_cell_row rfl _ _ w.heap.size 45 #[.int .i64 a1,.int .i64 ((kM O).length:Int),.int .i64 a2,.int .i64 ((kM vw).length:Int),.slice eo lj.length ec] (0,0) _ rfl fh Tryz.underlying45 rfl (by kernel_rfl)) rfl ⟨_,by rw[HKl.out.1,HKl.out.2],fo,fq,fg⟩
    ·have z1:(((kM o).length:Int) == 0)=false:=(by rw[beq_eq_false_iff_ne,Zfd];intro e;exact ho0 (List.eq_nil_of_length_eq_zero (by omega)))
     have HO0:Hid (o≠[]):=ho0
     have HO:Hid (oldF o vw=o):=(by show _=_;unfold oldF;rw[if_neg ho0])
     clear ho0
     go_upto_region 6 with fail
     by_cases hw0:vw=[]
     ·have z2:(((kM vw).length:Int) == 0)=true:=(by rw[Zfe.2 hw0];rfl)
      have HW0:Hid (vw=[]):=hw0
      clear hw0
      have ck2:=ZbD (kM o) (.slice v1o (kM o).length v1c) w5 ⟨hH.n1,nil1⟩ (by rw[Zfd];omega) (kM (keptS o)) (Zfk _)
      have hH1:=hH
      clear hH
      go_wp2_with fail
      refine ck2.mono ?_
      rintro e wl ⟨vl,rfl,hl1,_,hBl⟩
      have hHl0:=hH1.keep hBl
      obtain⟨k0,k1,k2,k3⟩:=hHl0.cells2
      have kf:=hHl0.fr2
      have hH2:=hHl0.set2 hl1
      obtain⟨lo1,lc1,rfl⟩:=HMk.form hl1
      clear hH1 c0 c1 c2 c3 d0 d1 d2 d3 ck2 hl1
      obtain⟨V,hV0⟩:∃ V,keptS o=V:=⟨_,rfl⟩
      have hV:newF o vw=V:=(by unfold newF;rw[if_pos ⟨HO0.out,HW0.out⟩];exact hV0)
      have hVl:V.length≤137438953472:=(by rw[← hV0];have:=hkl o;omega)
      rw[hV0] at hH2 ⊢
      clear hV0
      have HV:Hid (newF o vw=V):=hV
      clear hV
      go_upto_region 8 with fail
      generalize wl.setCell ⟨S2,3,none⟩ (.slice lo1 (kM V).length lc1)=u2 at hH2 ⊢
      clear k0 k1 k2 k3 kf hHl0
      have hH:=hH2
      have hol3:o.length≤137438953472:=by omega
      clear hH2
      have hO:=HO.out
      have hV:=HV.out
      clear HO HV
      have hFin:finH (p+1) (p+2) (p2+1) a1 (sayC (a1,b1)).2 a2 (sayC (a2,b2)).2 o vw=_:=Zdg (p+1) (p+2) (p2+1) (a1,b1) (a2,b2) hb1.2.1 hb2.2.1 o vw o V hO hV
      clear hO hV
      have hol32:(kM o).length≤137438953472:=(by rw[Zfd];exact hol3)
      have hVl2:(kM V).length≤137438953472:=(by rw[Zfd];exact hVl)
      obtain⟨s1,hs1⟩:∃ r,allM 32 (kM o)=r:=⟨_,rfl⟩
      obtain⟨s2,hs2⟩:∃ r,allM 32 (kM V)=r:=⟨_,rfl⟩
      have hss:(sameS o && sameS V)=(s1 && s2):=(by rw[← hs1,← hs2,ZjO,ZjO])
      obtain⟨Yr,hYr⟩:∃ r,rgX (cntR a1 b1 (kM o).length) (cntR a2 b2 (kM V).length) (decide (a1=0) && decide (0<(kM o).length)) (decide (a2=0) && decide (0<(kM V).length)) x1 x2=r:=⟨_,rfl⟩
      obtain⟨Yj,hYj⟩:∃ r,jnX o V=r:=⟨_,rfl⟩
      rw[hss,Hx1.out,Hx2.out,hYr,hYj] at hFin
      have HXc:Hid (outX p p4 (L.drop p4) (s1 && s2) Yr Yj a1 a2 o.length V.length=X):=(by
       show _=_
       rw[← HX2]
       unfold finR outX
       dsimp only
       rw[hFin]
       cases s1 && s2 with
       | true=>rfl
       | false =>
        cases Yr with
        | some az=>rfl
        | none=>cases Yj<;>rfl)
      clear hFin HX2
      have ca1:=fun u (h:HMk u (.slice v1o (kM o).length v1c) (kM o))=>ZaZ 32 (kM o) _ u h (by omega) s1 hs1
      have ca2:=fun u (h:HMk u (.slice lo1 (kM V).length lc1) (kM V))=>ZaZ 32 (kM V) _ u h (by omega) s2 hs2
      have cr:=fun u=>Zbi x1 a1 b1 x2 a2 b2 v1o lo1 (kM o).length v1c (kM V).length lc1 u hb1.1 hb1.2.2 hb1.2.1 (by omega) hb2.1 hb2.2.2 hb2.2.1 (by omega) Yr hYr
      have cl:=fun u (h1:HMk u (.slice v1o (kM o).length v1c) (kM o)) (h2:HMk u (.slice lo1 (kM V).length lc1) (kM V))=>ZbE o V _ _ u h1 h2 hol3 hVl Yj hYj
      have HYa:Hid (∀ a z,Yr=some (a,z)→((a.toNat:Nat):Int)=a):=(by
       intro a z hz
       have hge:=Zjq (hYr.trans hz)
       have:=Hx1.out
       have:=Hx2.out
       rcases hge with h | h<;>omega)
      clear hs1 hs2 hss hYr hYj
      obtain⟨c0,c1,c2,c3⟩:=hH.cells1
      obtain⟨d0,d1,d2,d3⟩:=hH.cells2
      go_upto_region 8 with fail
      go_cut [40] (fun cv wz=>cv=.bool (s1 && s2)∧Hz wa R S1 S2 (.slice lo L.length lc) x1 a1 b1 (.slice v1o (kM o).length v1c) (kM o) x2 a2 b2 (.slice lo1 (kM V).length lc1) (kM V) p4 wz)
      case first =>
       go_wp2_with fail
       refine (ca1 _ hH.n1).mono ?_
       rintro e wA ⟨rfl,hBA⟩
       have hHA:=hH.keep hBA
       clear hH c0 c1 c2 c3 d0 d1 d2 d3
       obtain⟨c0,c1,c2,c3⟩:=hHA.cells1
       obtain⟨d0,d1,d2,d3⟩:=hHA.cells2
       cases s1 with
       | false =>
        go_wp2
        go_meet
        case rel=>exact⟨rfl,hHA⟩
       | true =>
        go_wp2_with fail
        refine (ca2 _ hHA.n2).mono ?_
        rintro e wB ⟨rfl,hBB⟩
        have hHB:=hHA.keep hBB
        go_wp2
        go_meet
        case rel=>exact⟨rfl,hHB⟩
      case rest =>
      obtain⟨rfl,hHC⟩:=hcut
      clear hH c0 c1 c2 c3 d0 d1 d2 d3 ca1 ca2
      cases hsb:(s1 && s2) with
      | true =>
       have hXe:X=.error (p+1,50):=(by rw[← HXc.out,hsb];rfl)
       subst hXe
       clear hsb HXc
       go_wp2_with fail
       refine (Zcl _ 50 _).mono ?_
       rintro e wD ⟨⟨g,rfl,hg⟩,hBD⟩
       go_wp2
       exact⟨rfl,⟨_,rfl,by simpa using hg⟩,HG.out _ (ZdT hHC.gr (ZfO hBD _))⟩
      | false =>
       have HXd:Hid (outX p p4 (L.drop p4) false Yr Yj a1 a2 o.length V.length=X):=(by show _=_;rw[← HXc.out,hsb])
       clear hsb HXc
       obtain⟨c0,c1,c2,c3⟩:=hHC.cells1
       obtain⟨d0,d1,d2,d3⟩:=hHC.cells2
       cases Yr with
       | some az =>
        obtain⟨za,zz⟩:=az
        have hXe:X=.error (za.toNat,zz):=HXd.out.symm
        subst hXe
        have HZa:=HYa.out _ _ rfl
        have HZb:Hid (((za.toNat:Nat):Int)=za):=HZa
        clear HXd HYa HZa
        go_wp2_with fail
        refine (cr _).mono ?_
        rintro e wD ⟨hBD,g,rfl,hg⟩
        go_wp2
        exact⟨rfl,⟨_,rfl,by rw[HZb.out];exact hg⟩,HG.out _ (ZdT hHC.gr (ZfO hBD _))⟩
       | none =>
        go_wp2_with fail
        refine (cr _).mono ?_
        rintro e wD ⟨hBD,he⟩
        have he2:e=.returned (.tuple #[]):=he
        subst he2
        have hHD:=hHC.keep hBD
        clear hHC c0 c1 c2 c3 d0 d1 d2 d3 cr he
        obtain⟨c0,c1,c2,c3⟩:=hHD.cells1
        obtain⟨d0,d1,d2,d3⟩:=hHD.cells2
        go_wp2_with fail
        refine (cl _ hHD.n1 hHD.n2).mono ?_
        cases Yj with
        | none =>
         rintro e wE ⟨ve,re,rfl,hBE,rfl⟩
         have hXe:X=.error (p+1,190):=HXd.out.symm
         subst hXe
         clear HXd
         go_wp2_with fail
         refine (Zcl _ 190 _).mono ?_
         rintro e wF ⟨⟨g,rfl,hg⟩,hBF⟩
         go_wp2
         exact⟨rfl,⟨_,rfl,by simpa using hg⟩,HG.out _ (ZdT (hHD.keep hBE).gr (ZfO hBF _))⟩
        | some lj =>
         rintro e wE ⟨ve,re,rfl,hBE,rfl,hown⟩
         have hXe:X=.ok (⟨a1,o.length,a2,V.length,lj⟩,p4,L.drop p4):=HXd.out.symm
         subst hXe
         clear HXd c0 c1 c2 c3 d0 d1 d2 d3
         have hHE:=hHD.keep hBE
         obtain⟨eo,ec,rfl⟩:=(Zeo hown).form
         have hsz:wD.heap.size ≥ w.heap.size:=(HG.out _ hHD.gr).size
         obtain⟨c0,c1,c2,c3⟩:=hHE.cells1
         obtain⟨d0,d1,d2,d3⟩:=hHE.cells2
         obtain⟨y0,y1,y2,y3,y4,yf⟩:=Zdj hHE.gr HZ.out _ rfl
         have fin:=Zdk hHE.gr HG.out HZ.out hHE.ck (ZhC hown hsz) a1 ((kM o).length:Int) a2 ((kM V).length:Int) lj (by
          intro e
          have h1:=ZhJ hown e
          have h2:=hHD.gr.size
          have h3:=HZ.out.2.1
          omega)
         obtain⟨fh,fo,fq,fg⟩:=fin
         have yf0:=yf 0
         have yf1:=yf 1
         have yf2:=yf 2
         have yf3:=yf 3
         have yf4:=yf 4
         clear yf hHD hHE hown cl
         have HKl:Hid (((kM o).length:Int)=(o.length:Int)∧((kM V).length:Int)=(V.length:Int)):=⟨by rw[Zfd],by rw[Zfd]⟩
         go_wp2
         refine bodyPost_ret (v:=hkV ⟨a1,((kM o).length:Int),a2,((kM V).length:Int),lj⟩ (.slice eo lj.length ec)) (results_cell_row rfl _ _ w.heap.size 45 #[.int .i64 a1,.int .i64 ((kM o).length:Int),.int .i64 a2,.int .i64 ((kM V).length:Int),.slice eo lj.length ec] (0,0) _ rfl fh Tryz.underlying45 rfl (by kernel_rfl)) rfl ⟨_,by rw[HKl.out.1,HKl.out.2],fo,fq,fg⟩
     ·have z2:(((kM vw).length:Int) == 0)=false:=(by rw[beq_eq_false_iff_ne,Zfd];intro e;exact hw0 (List.eq_nil_of_length_eq_zero (by omega)))
      have HV:Hid (newF o vw=vw):=(by show _=_;unfold newF;rw[if_neg (fun h=>hw0 h.2)])
      clear hw0
      have hol3:o.length≤137438953472:=by omega
      have hvl3:vw.length≤137438953472:=by omega
      go_upto_region 8 with fail
      clear c0 c1 c2 c3 d0 d1 d2 d3
      have hO:=HO.out
      have hV:=HV.out
      clear HO HV
      have hFin:finH (p+1) (p+2) (p2+1) a1 (sayC (a1,b1)).2 a2 (sayC (a2,b2)).2 o vw=_:=Zdg (p+1) (p+2) (p2+1) (a1,b1) (a2,b2) hb1.2.1 hb2.2.1 o vw o vw hO hV
      clear hO hV
      have hol32:(kM o).length≤137438953472:=(by rw[Zfd];exact hol3)
      have hvl32:(kM vw).length≤137438953472:=(by rw[Zfd];exact hvl3)
      obtain⟨s1,hs1⟩:∃ r,allM 32 (kM o)=r:=⟨_,rfl⟩
      obtain⟨s2,hs2⟩:∃ r,allM 32 (kM vw)=r:=⟨_,rfl⟩
      have hss:(sameS o && sameS vw)=(s1 && s2):=(by rw[← hs1,← hs2,ZjO,ZjO])
      obtain⟨Yr,hYr⟩:∃ r,rgX (cntR a1 b1 (kM o).length) (cntR a2 b2 (kM vw).length) (decide (a1=0) && decide (0<(kM o).length)) (decide (a2=0) && decide (0<(kM vw).length)) x1 x2=r:=⟨_,rfl⟩
      obtain⟨Yj,hYj⟩:∃ r,jnX o vw=r:=⟨_,rfl⟩
      rw[hss,Hx1.out,Hx2.out,hYr,hYj] at hFin
      have HXc:Hid (outX p p4 (L.drop p4) (s1 && s2) Yr Yj a1 a2 o.length vw.length=X):=(by
       show _=_
       rw[← HX2]
       unfold finR outX
       dsimp only
       rw[hFin]
       cases s1 && s2 with
       | true=>rfl
       | false =>
        cases Yr with
        | some az=>rfl
        | none=>cases Yj<;>rfl)
      clear hFin HX2
      have ca1:=fun u (h:HMk u (.slice v1o (kM o).length v1c) (kM o))=>ZaZ 32 (kM o) _ u h (by omega) s1 hs1
      have ca2:=fun u (h:HMk u (.slice v2o (kM vw).length v2c) (kM vw))=>ZaZ 32 (kM vw) _ u h (by omega) s2 hs2
      have cr:=fun u=>Zbi x1 a1 b1 x2 a2 b2 v1o v2o (kM o).length v1c (kM vw).length v2c u hb1.1 hb1.2.2 hb1.2.1 (by omega) hb2.1 hb2.2.2 hb2.2.1 (by omega) Yr hYr
      have cl:=fun u (h1:HMk u (.slice v1o (kM o).length v1c) (kM o)) (h2:HMk u (.slice v2o (kM vw).length v2c) (kM vw))=>ZbE o vw _ _ u h1 h2 hol3 hvl3 Yj hYj
      have HYa:Hid (∀ a z,Yr=some (a,z)→((a.toNat:Nat):Int)=a):=(by
       intro a z hz
       have hge:=Zjq (hYr.trans hz)
       have:=Hx1.out
       have:=Hx2.out
       rcases hge with h | h<;>omega)
      clear hs1 hs2 hss hYr hYj
      obtain⟨c0,c1,c2,c3⟩:=hH.cells1
      obtain⟨d0,d1,d2,d3⟩:=hH.cells2
      go_upto_region 8 with fail
      go_cut [40] (fun cv wz=>cv=.bool (s1 && s2)∧Hz wa R S1 S2 (.slice lo L.length lc) x1 a1 b1 (.slice v1o (kM o).length v1c) (kM o) x2 a2 b2 (.slice v2o (kM vw).length v2c) (kM vw) p4 wz)
      case first =>
       go_wp2_with fail
       refine (ca1 _ hH.n1).mono ?_
       rintro e wA ⟨rfl,hBA⟩
       have hHA:=hH.keep hBA
       clear hH c0 c1 c2 c3 d0 d1 d2 d3
       obtain⟨c0,c1,c2,c3⟩:=hHA.cells1
       obtain⟨d0,d1,d2,d3⟩:=hHA.cells2
       cases s1 with
       | false =>
        go_wp2
        go_meet
        case rel=>exact⟨rfl,hHA⟩
       | true =>
        go_wp2_with fail
        refine (ca2 _ hHA.n2).mono ?_
        rintro e wB ⟨rfl,hBB⟩
        have hHB:=hHA.keep hBB
        go_wp2
        go_meet
        case rel=>exact⟨rfl,hHB⟩
      case rest =>
      obtain⟨rfl,hHC⟩:=hcut
      clear hH c0 c1 c2 c3 d0 d1 d2 d3 ca1 ca2
      cases hsb:(s1 && s2) with
      | true =>
       have hXe:X=.error (p+1,50):=(by rw[← HXc.out,hsb];rfl)
       subst hXe
       clear hsb HXc
       go_wp2_with fail
       refine (Zcl _ 50 _).mono ?_
       rintro e wD ⟨⟨g,rfl,hg⟩,hBD⟩
       go_wp2
       exact⟨rfl,⟨_,rfl,by simpa using hg⟩,HG.out _ (ZdT hHC.gr (ZfO hBD _))⟩
      | false =>
       have HXd:Hid (outX p p4 (L.drop p4) false Yr Yj a1 a2 o.length vw.length=X):=(by show _=_;rw[← HXc.out,hsb])
       clear hsb HXc
       obtain⟨c0,c1,c2,c3⟩:=hHC.cells1
       obtain⟨d0,d1,d2,d3⟩:=hHC.cells2
       cases Yr with
       | some az =>
        obtain⟨za,zz⟩:=az
        have hXe:X=.error (za.toNat,zz):=HXd.out.symm
        subst hXe
        have HZa:=HYa.out _ _ rfl
        have HZb:Hid (((za.toNat:Nat):Int)=za):=HZa
        clear HXd HYa HZa
        go_wp2_with fail
        refine (cr _).mono ?_
        rintro e wD ⟨hBD,g,rfl,hg⟩
        go_wp2
        exact⟨rfl,⟨_,rfl,by rw[HZb.out];exact hg⟩,HG.out _ (ZdT hHC.gr (ZfO hBD _))⟩
       | none =>
        go_wp2_with fail
        refine (cr _).mono ?_
        rintro e wD ⟨hBD,he⟩
        have he2:e=.returned (.tuple #[]):=he
        subst he2
        have hHD:=hHC.keep hBD
        clear hHC c0 c1 c2 c3 d0 d1 d2 d3 cr he
        obtain⟨c0,c1,c2,c3⟩:=hHD.cells1
        obtain⟨d0,d1,d2,d3⟩:=hHD.cells2
        go_wp2_with fail
        refine (cl _ hHD.n1 hHD.n2).mono ?_
        cases Yj with
        | none =>
         rintro e wE ⟨ve,re,rfl,hBE,rfl⟩
         have hXe:X=.error (p+1,190):=HXd.out.symm
         subst hXe
         clear HXd
         go_wp2_with fail
         refine (Zcl _ 190 _).mono ?_
         rintro e wF ⟨⟨g,rfl,hg⟩,hBF⟩
         go_wp2
         exact⟨rfl,⟨_,rfl,by simpa using hg⟩,HG.out _ (ZdT (hHD.keep hBE).gr (ZfO hBF _))⟩
        | some lj =>
         rintro e wE ⟨ve,re,rfl,hBE,rfl,hown⟩
         have hXe:X=.ok (⟨a1,o.length,a2,vw.length,lj⟩,p4,L.drop p4):=HXd.out.symm
         subst hXe
         clear HXd c0 c1 c2 c3 d0 d1 d2 d3
         have hHE:=hHD.keep hBE
         obtain⟨eo,ec,rfl⟩:=(Zeo hown).form
         have hsz:wD.heap.size ≥ w.heap.size:=(HG.out _ hHD.gr).size
         obtain⟨c0,c1,c2,c3⟩:=hHE.cells1
         obtain⟨d0,d1,d2,d3⟩:=hHE.cells2
         obtain⟨y0,y1,y2,y3,y4,yf⟩:=Zdj hHE.gr HZ.out _ rfl
         have fin:=Zdk hHE.gr HG.out HZ.out hHE.ck (ZhC hown hsz) a1 ((kM o).length:Int) a2 ((kM vw).length:Int) lj (by
          intro e
          have h1:=ZhJ hown e
          have h2:=hHD.gr.size
          have h3:=HZ.out.2.1
          omega)
         obtain⟨fh,fo,fq,fg⟩:=fin
         have yf0:=yf 0
         have yf1:=yf 1
         have yf2:=yf 2
         have yf3:=yf 3
         have yf4:=yf 4
         clear yf hHD hHE hown cl
         have HKl:Hid (((kM o).length:Int)=(o.length:Int)∧((kM vw).length:Int)=(vw.length:Int)):=⟨by rw[Zfd],by rw[Zfd]⟩
         go_wp2
         refine bodyPost_ret (v:=hkV ⟨a1,((kM o).length:Int),a2,((kM vw).length:Int),lj⟩ (.slice eo lj.length ec)) (results_cell_row rfl _ _ w.heap.size 45 #[.int .i64 a1,.int .i64 ((kM o).length:Int),.int .i64 a2,.int .i64 ((kM vw).length:Int),.slice eo lj.length ec] (0,0) _ rfl fh Tryz.underlying45 rfl (by kernel_rfl)) rfl ⟨_,by rw[HKl.out.1,HKl.out.2],fo,fq,fg⟩
end

section
open Go.RowKit Go.Proofs.YtcniomgjikienaaGreatDoor.Tx
attribute [local go_sem] Zhc
structure L2 (w:World) (h:Hk) (v:Value) (u:World):Prop where
 low:Below w.heap.size w u
 bh:Hx u w.heap.size h v
 br:Hx u (w.heap.size+1) ⟨0,0,0,0,[]⟩ (.slice none 0 0)
section
variable {w u u':World} {h:Hk} {v:Value}
theorem L2.keep (q:L2 w h v u) (hb:Below u.heap.size u u'):L2 w h v u':=⟨q.low.trans (hb.mono q.low.size),q.bh.low hb,q.br.low hb⟩
theorem L2.setB (q:L2 w h v u) (z:Int):L2 w ⟨h.A,h.AN,z,h.BN,h.ls⟩ v (u.setCell ⟨w.heap.size,2,none⟩ (.int .i64 z)) :=
 ⟨q.low.setCell (p:=⟨w.heap.size,2,none⟩) (Nat.le_refl _) _,heap_setCell_same u w.heap.size 2 _ _ _ q.bh,(Below.heap_setCell _ _ _ _ (by show w.heap.size+1≠w.heap.size;omega)).trans q.br⟩
theorem L2.setA (q:L2 w h v u) (z:Int):L2 w ⟨z,h.AN,h.B,h.BN,h.ls⟩ v (u.setCell ⟨w.heap.size,0,none⟩ (.int .i64 z)) :=
 ⟨q.low.setCell (p:=⟨w.heap.size,0,none⟩) (Nat.le_refl _) _,heap_setCell_same u w.heap.size 0 _ _ _ q.bh,(Below.heap_setCell _ _ _ _ (by show w.heap.size+1≠w.heap.size;omega)).trans q.br⟩
theorem L2.fin (q:L2 w h v u):(five u (w.heap.size+1) h.A h.AN h.B h.BN v).heap[w.heap.size+1]?=some (.cells #[.int .i64 h.A,.int .i64 h.AN,.int .i64 h.B,.int .i64 h.BN,v] 45 (0,0))∧Below w.heap.size w (five u (w.heap.size+1) h.A h.AN h.B h.BN v) :=
 ⟨q.br.put5 _ _ _ _ _,ZiK q.low (by omega) _ _ _ _ _⟩
theorem L2.new (w:World) (h:Hk) (v:Value):L2 w h v ((w.alloc (hkO h v)).alloc (hkO ⟨0,0,0,0,[]⟩ (.slice none 0 0))):=by
 have hz:(w.alloc (hkO h v)).heap.size=w.heap.size+1:=by simp
 refine⟨((Below.refl _ w).alloc (Nat.le_refl _) _).alloc (by rw[hz];omega) _,(Below.heap_alloc _ _ _ (by rw[hz];omega)).trans (Hx.new w _ _),?_⟩
 have:=Hx.new (w.alloc (hkO h v)) ⟨0,0,0,0,[]⟩ (.slice none 0 0)
 rw[hz] at this
 exact this
end
end

section
def Inn (u p q:Int) (c:Ch):Prop:=u≤c.A∧0≤c.AN∧c.A+c.AN≤p∧u≤c.B∧0≤c.BN∧c.B+c.BN≤q
theorem Inn.le {u p q p' q':Int} {c:Ch} (h:Inn u p q c) (hp:p≤p') (hq:q≤q'):Inn u p' q' c:=by
 obtain⟨h1,h2,h3,h4,h5,h6⟩:=h
 exact⟨h1,h2,by omega,h4,h5,by omega⟩
end

section
open Q Go.RowKit Go.Proofs.YtcniomgjikienaaGreatDoor.Tx
attribute [local go_sem] ZaB Zea
theorem Zqz (l:List UInt8) (w:World) (hl:l.length≤1099511627776) :
  Calls Tryz.prog 118 #[.string ⟨l.toArray⟩] w fun e w'=>e=.returned (.string ⟨(quote l).toArray⟩)∧Below w.heap.size w w':=by
 obtain⟨i0,hi,hz0,hz1,hz2⟩:=info_parts infoU8
 go_enter Tryz.func118,Tryz.ntmps118
 go_wp2
 go_loopw [3,4] (fun out i wr=>∃ (k:Nat) (acc:List UInt8),k≤l.length∧i=.int .i64 k∧wr.ownsRowF w.heap.size 5 1 out acc.length (Lib.byteCells acc)∧Below w.heap.size w wr∧acc++qbody (l.drop k)=[34]++qbody l∧acc.length≤3 * k+1) (fun _ i _=>l.length-(intOf i).toNat)
 case atStart =>
  refine⟨0,[34],Nat.zero_le _,rfl,?_,(Below.refl _ w).alloc (Nat.le_refl _) _,rfl,by simp⟩
  exact⟨rfl,.inr ⟨w.heap.size,1,_,(0,0),rfl,Nat.le_refl _,_root_.Go.heap_alloc_new w _,by simp,by simp,by simp[maxLen],rfl,rfl⟩⟩
 case round =>
  obtain⟨k,acc,hk,rfl,hown,hbr,hacc,hal⟩:=hrel
  by_cases hlt:k<l.length
  ·have hdk:l.drop k=l[k]::l.drop (k+1):=List.drop_eq_getElem_cons hlt
   have HD:Hid (acc++(q1 l[k]++qbody (l.drop (k+1)))=[34]++qbody l):=by
    rw[hdk] at hacc
    exact hacc
   clear hacc hdk
   have hx:l[k].toNat<256:=(l[k]).toNat_lt
   go_wp2_with fail
   refine (ZoX _ _).mono ?_
   rintro e w' ⟨rfl,rfl⟩
   cases hpl:plainI l[k].toNat
   ·have HP:Hid (q1 l[k]=[92,hexc (l[k].toNat / 16),hexc (l[k].toNat % 16)]):=by
     show q1 l[k]=_
     simp[q1,hpl]
    have hw1:IntKind.u8.wrap ((l[k].toNat:Int) / 16)=(l[k].toNat:Int) / 16:=Zsi (by omega) (by omega)
    have hw2:((l[k].toNat:Int)).tmod 16=(l[k].toNat:Int) % 16:=Int.tmod_eq_emod_of_nonneg (by omega)
    have hd1:((l[k].toNat:Int) / 16)<16:=by omega
    have hd2:((l[k].toNat:Int) % 16)<16:=by omega
    have hd3:0≤((l[k].toNat:Int) / 16):=by omega
    have hd4:0≤((l[k].toNat:Int) % 16):=by omega
    have e1:((l[k].toNat:Int) / 16).toNat=l[k].toNat / 16:=by omega
    have e2:((l[k].toNat:Int) % 16).toNat=l[k].toNat % 16:=by omega
    go_wp2_with fail
    go_region_law (refine Zrx rfl (.tmp 22) (.tmp 33) 83 rfl w.heap.size 5 i0 (.int .u8 0) 1 1 Tryz.underlying83 hi hz0 hz1 hz2 rfl (by decide) u3 acc.length (Lib.byteCells acc) (by simp[Act.eval]) (hown.alloc _) ⟨wr.heap.size,0,none⟩ 3 3 [.int .u8 92,.int .u8 (hexc (l[k].toNat / 16)).toNat,.int .u8 (hexc (l[k].toNat % 16)).toNat] (by simp[Act.eval]) rfl (Zoz _ _ _) (by simp[Value.oneCell']) (by unfold maxLen;omega) (by omega) (by have:=hbr.size;simp;omega) ?_;intro v' w2 hown' hgrow hfr)
    all_goals
     go_wp2
     go_roundw
     case rel =>
      refine⟨k+1,acc++[92,hexc (l[k].toNat / 16),hexc (l[k].toNat % 16)],by omega,by go_num,?_,(hbr.drew.alloc hbr.size _).grown hgrow (by have:=hbr.size;simp;omega) (fun j hj=>(hown.lt j hj).1),by rw[← HD.out,HP.out];simp,by simp;omega⟩
      rw[Lib.byteCells_append]
      simpa [Lib.byteCells] using hown'
     case measure=>simp[intOf];omega
   ·have HP:Hid (q1 l[k]=[l[k]]):=by
     show q1 l[k]=_
     simp[q1,hpl]
    go_wp2_with (at_builtin;refine Zmh _ rfl _ _ 83 rfl w.heap.size 5 i0 (.int .u8 0) 1 1 Tryz.underlying83 hi hz0 hz1 hz2 rfl (by decide) _ _ _ rfl (hown.alloc _) ⟨wr.heap.size,0,none⟩ 1 1 [.int .u8 (l[k].toNat:Int)] rfl rfl (Zoz _ _ _) (ZoL _ _) ?c3 ?c4 ?c5 ?_)
    case c3=>unfold maxLen;omega
    case c4=>omega
    case c5=>have:=hbr.size;simp;omega
    intro v' w2 hown' hgrow hfr
    go_wp2
    go_roundw
    case rel=>exact⟨k+1,acc++[l[k]],by omega,by go_num,by rw[ZaM];simpa using hown',(hbr.alloc hbr.size _).grown hgrow (by have:=hbr.size;simp;omega) (fun j hj=>(hown.lt j hj).1),by rw[← HD.out,HP.out];simp,by simp;omega⟩
    case measure=>simp[intOf];omega
  ·have HD:Hid (acc=[34]++qbody l):=by
    have e:l.drop k=[]:=List.drop_eq_nil_of_le (by omega)
    rw[e] at hacc
    show acc=_
    simpa [qbody] using hacc
   clear hacc
   go_wp2_with (at_builtin;refine Zmh _ rfl _ _ 83 rfl w.heap.size 5 i0 (.int .u8 0) 1 1 Tryz.underlying83 hi hz0 hz1 hz2 rfl (by decide) _ _ _ rfl (hown.alloc _) ⟨wr.heap.size,0,none⟩ 1 1 [.int .u8 34] rfl rfl (Zoz _ _ _) (ZoL _ _) ?c3 ?c4 ?c5 ?_)
   case c3=>unfold maxLen;omega
   case c4=>omega
   case c5=>have:=hbr.size;simp;omega
   intro v' w2 hown' hgrow hfr
   have hcs:=ZmJ (P:=Tryz.prog) w2 83 9 5 w.heap.size v' (acc++[34]) Tryz.underlying83 Tryz.underlying5 Tryz.underlying9 (by rw[ZaM];simpa using hown')
   go_wp2
   go_ret
   rw[HD.out]
   exact⟨rfl,(hbr.alloc hbr.size _).grown hgrow (by have:=hbr.size;simp;omega) (fun j hj=>(hown.lt j hj).1)⟩
end

section
open Go.RowKit Go.Proofs.YtcniomgjikienaaGreatDoor.Tx
end

section
open Ln Go.RowKit
end

section
open Go.RowKit Go.Proofs.YtcniomgjikienaaGreatDoor.Tx
theorem Hx.wr {B b:Nat} {v v':Value} {w w':World} {M:Nat} {h:Hk} {y:Value} (q:Hx w M h y) (hw:Wr B b v v' w w') (ho:Off M b v):Hx w' M h y∧Off M b v':=hw.block q ho
end

section
open Go.RowKit Go.Proofs.YtcniomgjikienaaGreatDoor.Tx
def ptV (p:Pth) (v:Value):Value:=.agg #[.string ⟨p.old.toArray⟩,.string ⟨p.new.toArray⟩,v]
def ptO (p:Pth) (v:Value):Obj:=.cells #[.string ⟨p.old.toArray⟩,.string ⟨p.new.toArray⟩,v] 42
def Px (u:World) (b:Nat) (p:Pth) (v:Value):Prop:=u.heap[b]?=some (ptO p v)
theorem Px.cells {u:World} {b:Nat} {p:Pth} {v:Value} (q:Px u b p v):u.cell? ⟨b,0,none⟩=some (.string ⟨p.old.toArray⟩)∧u.cell? ⟨b,1,none⟩=some (.string ⟨p.new.toArray⟩)∧u.cell? ⟨b,2,none⟩=some v:=by
 unfold Px ptO at q
 refine⟨?_,?_,?_⟩<;>rw[Lib.cell_of_heap q]<;>rfl
theorem Px.lt {u:World} {b:Nat} {p:Pth} {v:Value} (q:Px u b p v):b<u.heap.size:=(Array.getElem?_eq_some_iff.1 q).1
theorem Px.low {u u':World} {b:Nat} {p:Pth} {v:Value} (q:Px u b p v) (hg:Below u.heap.size u u'):Px u' b p v:=(hg.block b q.lt).trans q
theorem Px.wr {B b:Nat} {v v':Value} {w w':World} {M:Nat} {p:Pth} {y:Value} (q:Px w M p y) (hw:Wr B b v v' w w') (ho:Off M b v):Px w' M p y∧Off M b v':=hw.block q ho
end

section
open Go.RowKit Go.Proofs.YtcniomgjikienaaGreatDoor.Tx
attribute [local go_sem] Zhc
theorem Zmt {l:List UInt8} {k:Nat} (hk:k<l.length):(l.drop k).all nameC=(nameC l[k] && (l.drop (k+1)).all nameC):=by
 rw[List.drop_eq_getElem_cons hk,List.all_cons]
theorem ZpJ (l:List UInt8) (w:World) (hl:l.length≤1099511627776) (t:List UInt8) (HT:Hid (nameT l=t)) :
  Calls Tryz.prog 78 #[.string ⟨l.toArray⟩] w fun e w'=>e=.returned (.string ⟨t.toArray⟩)∧Below w.heap.size w w':=by
 by_cases h0:l=[]
 ·have HE:Hid (devN=t):=(by have h:=HT.out;unfold nameT at h;rw[if_pos h0] at h;exact h)
  subst h0
  go_enter Tryz.func78,Tryz.ntmps78
  go_wp2
  go_ret
  exact⟨by rw[← HE.out];rfl,Below.refl _ _⟩
 ·have e0:l.isEmpty=false:=(by cases l with | nil=>exact absurd rfl h0 | cons _ _=>rfl)
  have hq:=Zqz l
  obtain⟨q,hq2⟩:∃ q,l.all nameC=q:=⟨_,rfl⟩
  have HA0:Hid ((l.drop 0).all nameC=q):=hq2
  have HQ:Hid (l.all nameC=q):=hq2
  clear hq2
  go_enter Tryz.func78,Tryz.ntmps78
  go_wp2
  go_loopw [3] (fun i wr=>∃ k:Nat,k≤l.length∧i=.int .i64 k∧wr=w∧Hid ((l.drop k).all nameC=q)) (fun i _=>l.length-(intOf i).toNat)
  case atStart=>exact⟨0,Nat.zero_le _,by go_num,rfl,HA0⟩
  case round =>
  obtain⟨k,hk,rfl,rfl,HI⟩:=hrel
  clear HA0
  by_cases hlt:k<l.length
  ·have HI2:=HI.out
   rw[Zmt hlt] at HI2
   have i1:(0:Int)≤(k:Int):=by omega
   have i2:(k:Int)<(l.length:Int):=by omega
   obtain⟨c,hc⟩:∃ c,l[k]=c:=⟨_,rfl⟩
   rw[hc] at HI2
   have hcn:=c.toNat_lt
   clear HI
   cases hn:nameC c with
   | true =>
    rw[hn,Bool.true_and] at HI2
    have HI3:Hid ((l.drop (k+1)).all nameC=q):=HI2
    have hx:=of_decide_eq_true hn
    have j1:¬ (c.toNat:Int)<33:=by omega
    have j2:¬ (126:Int)<(c.toNat:Int):=by omega
    have j3:((c.toNat:Int) == 34)=false:=beq_eq_false_iff_ne.2 (by omega)
    clear HI2 hn hx
    go_wp2
    exact⟨⟨k+1,by omega,by go_num,by first | rfl | trivial,HI3⟩,by simp[intOf];omega⟩
   | false =>
    rw[hn,Bool.false_and] at HI2
    have HE:Hid (Q.quote l=t):=(by have h:=HT.out;unfold nameT at h;rw[if_neg h0,if_neg (fun z=>by rw[HQ.out,← HI2] at z;cases z.1)] at h;exact h)
    have hx:=of_decide_eq_false hn
    clear HI2 hn
    by_cases j1:(c.toNat:Int)<33
    ·clear hx
     go_wp2_with fail
     refine (hq _ hl).mono ?_
     rintro e w1 ⟨rfl,hB⟩
     go_wp2
     go_ret
     exact⟨by rw[← HE.out];rfl,hB⟩
    ·by_cases j2:(126:Int)<(c.toNat:Int)
     ·clear hx
      go_wp2_with fail
      refine (hq _ hl).mono ?_
      rintro e w1 ⟨rfl,hB⟩
      go_wp2
      go_ret
      exact⟨by rw[← HE.out];rfl,hB⟩
     ·have j3:((c.toNat:Int) == 34)=true:=beq_iff_eq.2 (by omega)
      clear hx
      go_wp2_with fail
      refine (hq _ hl).mono ?_
      rintro e w1 ⟨rfl,hB⟩
      go_wp2
      go_ret
      exact⟨by rw[← HE.out];rfl,hB⟩
  ·have hqt:q=true:=(by
    have h:=HI.out
    rw[List.drop_of_length_le (by omega)] at h
    exact h.symm)
   have hend:¬ (k:Int)<(l.length:Int):=by omega
   clear HI
   by_cases h1:l=devN
   ·have HE:Hid (Q.quote l=t):=(by have h:=HT.out;unfold nameT at h;rw[if_neg h0,if_neg (fun z=>z.2 h1)] at h;exact h)
    have e1:(l == [47,100,101,118,47,110,117,108,108])=true:=(by rw[beq_iff_eq];exact h1)
    clear h1
    go_wp2_with fail
    refine (hq _ hl).mono ?_
    rintro e w1 ⟨rfl,hB⟩
    go_wp2
    go_ret
    exact⟨by rw[← HE.out];rfl,hB⟩
   ·have HE:Hid (l=t):=(by have h:=HT.out;unfold nameT at h;rw[if_neg h0,if_pos ⟨by rw[HQ.out,hqt],h1⟩] at h;exact h)
    have e1:(l == [47,100,101,118,47,110,117,108,108])=false:=beq_eq_false_iff_ne.2 h1
    clear h1
    go_wp2
    go_ret
    exact⟨by rw[← HE.out];rfl,Below.refl _ _⟩
end

section
open Ln
end

section
open Go.RowKit
end

section
open Go.RowKit
end

section
open Go.RowKit
end

section
open Go.RowKit Go.Proofs.YtcniomgjikienaaGreatDoor.Tx
attribute [local go_sem] Zhc
end

section
open Go.RowKit
theorem Zcw {k p:Nat} {L r:List (List UInt8)} {h:Hk} {p1:Nat} (hk:k≤4096) (hh:cxH k p (L.drop p)=.ok (h,p1,r)):r=L.drop p1∧p<p1∧p1≤L.length∧k<4096:=by
 rw[Zeg] at hh
 cases hs:starsP k p (L.drop p) with
 | error e=>rw[hs] at hh;cases hh
 | ok r0 =>
  obtain⟨rfl,hp⟩:=ZkC hs
  rw[hs] at hh
  dsimp only at hh
  have hk2:k<4096:=by
   unfold starsP at hs
   cases hn:nxt p (L.drop p) with
   | error x=>rw[hn] at hs;cases hs
   | ok z =>
    obtain⟨s,r1⟩:=z
    rw[hn] at hs
    dsimp only at hs
    split at hs
    ·split at hs
     ·cases hs
     ·omega
    ·cases hs
  cases h1:sidR 42 45 (p+1) (L.drop (p+1)) with
  | error e=>rw[h1] at hh;cases hh
  | ok z =>
   obtain⟨q1,o,p2,r2⟩:=z
   obtain⟨rfl,b1,_,b2,_⟩:=Zkg h1
   rw[h1] at hh
   dsimp only at hh
   cases h2:sidR 45 43 p2 (L.drop p2) with
   | error e=>rw[h2] at hh;cases hh
   | ok z =>
    obtain⟨q2,w,p4,r4⟩:=z
    obtain⟨rfl,c1,_,c2,_⟩:=Zkg h2
    rw[h2] at hh
    dsimp only at hh
    unfold finR at hh
    split at hh
    ·cases hh
    ·injection hh with hh
     injection hh with e1 e2
     injection e2 with e2 e3
     subst e2 e3
     exact⟨rfl,by omega,c1,hk2⟩
def thenX (l:List Hk) (X:Except (Nat × Int) (List Hk × Nat × List (List UInt8))):Except (Nat × Int) (List Hk × Nat × List (List UInt8)) :=
 match X with
 | .error e=>.error e
 | .ok (m,p,r)=>.ok (l++m,p,r)
theorem ZkO (X:Except (Nat × Int) (List Hk × Nat × List (List UInt8))):thenX [] X=X:=by
 rcases X with e | ⟨l,p,r⟩<;>rfl
def conH (f k p:Nat) (r:List (List UInt8)):Except (Nat × Int) (List Hk × Nat × List (List UInt8)):=if pkS r=true then cxHs f k p r else .ok ([],p,r)
theorem Zcy (f k p:Nat) (ls:List (List UInt8)) (l:List Hk):thenX l (cxHs (f+1) k p ls)=match cxH k p ls with
  | .error e=>.error e
  | .ok (h,p1,r)=>thenX (l++[h]) (conH f (k+1) p1 r):=by
 simp only[cxHs]
 cases cxH k p ls with
 | error e=>rfl
 | ok z =>
  obtain⟨h,p1,r⟩:=z
  dsimp only
  unfold conH
  split
  ·cases cxHs f (k+1) p1 r with
   | error e=>rfl
   | ok z=>simp[thenX]
  ·simp[thenX]
def lefH (P:List (Hk × Value)) (f p:Nat) (r:List (List UInt8)):Except (Nat × Int) (List Hk × Nat × List (List UInt8)):=thenX (P.map (·.1)) (if P=[] then cxHs f 0 p r else conH f P.length p r)
def patP (k p:Nat) (ls:List (List UInt8)):Except (Nat × Int) (Pth × Nat × List (List UInt8)) :=
 match namP [42,42,42,32] p ls with
 | .error e=>.error e
 | .ok (n1,r1)=>if 64≤k then .error (p+1,9) else match namP [45,45,45,32] (p+1) r1 with
  | .error e=>.error e
  | .ok (n2,r2)=>match cxHs (r2.length+1) 0 (p+2) r2 with
   | .error e=>.error e
   | .ok (hs,p3,r3)=>.ok (⟨n1,n2,hs⟩,p3,r3)
theorem Zcz (f k p:Nat) (ls:List (List UInt8)):cxPs (f+1) k p ls=if ls=[] then .ok [] else match patP k p ls with
  | .error e=>.error e
  | .ok (x,p3,r3)=>match cxPs f (k+1) p3 r3 with
   | .error e=>.error e
   | .ok l=>.ok (x::l):=by
 simp only[cxPs]
 split
 ·rfl
 ·unfold patP
  cases namP [42,42,42,32] p ls with
  | error e=>rfl
  | ok z =>
   obtain⟨n1,r1⟩:=z
   dsimp only
   split
   ·rfl
   ·cases namP [45,45,45,32] (p+1) r1 with
    | error e=>rfl
    | ok z =>
     obtain⟨n2,r2⟩:=z
     dsimp only
     cases cxHs (r2.length+1) 0 (p+2) r2 with
     | error e=>rfl
     | ok z=>rfl
theorem ZgG {hd:List UInt8} {p:Nat} {L r:List (List UInt8)} {n:List UInt8} (h:namP hd p (L.drop p)=.ok (n,r)):r=L.drop (p+1)∧p<L.length:=by
 unfold namP at h
 cases hn:nxt p (L.drop p) with
 | error x=>rw[hn] at h;cases h
 | ok z =>
  obtain⟨s,r0⟩:=z
  rw[hn] at h
  obtain⟨h1,h2,_⟩:=Zhr hn
  dsimp only at h
  split at h
  ·split at h
   ·cases h
   ·injection h with h
    injection h with e1 e2
    exact⟨by rw[← e2,h1],h2⟩
  ·cases h
structure Pzc (wb:World) (R S:Nat) (vL:Value) (n1 n2:List UInt8) (hv:Value) (P:List (Hk × Value)) (p:Nat) (u:World):Prop where
 gr:wb.grownBy u (some R)
 box:u.heap[S]?=some (.cells #[.string ⟨n1.toArray⟩,.string ⟨n2.toArray⟩,hv] 42)
 own:u.ownsRow wb.heap.size 45 5 hv P.length (hkcells P)
 ins:∀ x∈P,u.ownsRow wb.heap.size 47 2 x.2 x.1.ls.length (mkcells x.1.ls)
 ck:Ck u R vL (p:Int)
 ge:wb.heap.size≤S
 rl:R<wb.heap.size
section
variable {wb u u':World} {R S:Nat} {vL hv:Value} {n1 n2:List UInt8} {P:List (Hk × Value)} {p p':Nat}
theorem Pzc.keep (h:Pzc wb R S vL n1 n2 hv P p u) (hb:Below u.heap.size u u'):Pzc wb R S vL n1 n2 hv P p u':=⟨ZdT h.gr (ZfO hb _),(hb.block S (Array.getElem?_eq_some_iff.1 h.box).1).trans h.box,ZhK h.own hb,fun x hx=>ZhK (h.ins x hx) hb,h.ck.low hb,h.ge,h.rl⟩
theorem Pzc.ne (h:Pzc wb R S vL n1 n2 hv P p u):R≠S:=by have h1:=h.ge;have h2:=h.rl;omega
theorem Pzc.call (h:Pzc wb R S vL n1 n2 hv P p u) (hg:u.grownBy u' (some R)) (q:Ck u' R vL (p':Int)):Pzc wb R S vL n1 n2 hv P p' u':=⟨ZdT h.gr hg,(hg.block S (Array.getElem?_eq_some_iff.1 h.box).1 (fun e=>h.ne (Option.some.inj e).symm)).trans h.box,ZhI h.own hg h.rl,fun x hx=>ZhI (h.ins x hx) hg h.rl,q,h.ge,h.rl⟩
theorem Pzc.next (h:Pzc wb R S vL n1 n2 hv P p u):Pzc wb R S vL n1 n2 hv P (p+1) (u.setCell ⟨R,1,none⟩ (.int .i64 ((p:Int)+1))):=h.call (ZdS u R 1 _) (by have:=h.ck.at ((p:Int)+1);simpa using this)
theorem Pzc.cells (h:Pzc wb R S vL n1 n2 hv P p u):u.cell? ⟨S,0,none⟩=some (.string ⟨n1.toArray⟩)∧u.cell? ⟨S,1,none⟩=some (.string ⟨n2.toArray⟩)∧u.cell? ⟨S,2,none⟩=some hv:=by
 refine⟨?_,?_,?_⟩<;>rw[Lib.cell_of_heap h.box]<;>rfl
theorem Pzc.frozen (h:Pzc wb R S vL n1 n2 hv P p u) (j:Nat):u.frozen? ⟨S,j,none⟩=false:=Lib.frozen_of_heap h.box j
theorem Pzc.put (h:Pzc wb R S vL n1 n2 hv P p u) (j:Nat) (z:Value) {m1 m2:List UInt8} {hv':Value} (hc:#[Value.string ⟨n1.toArray⟩,.string ⟨n2.toArray⟩,hv].setIfInBounds j z=#[.string ⟨m1.toArray⟩,.string ⟨m2.toArray⟩,hv']) (ho:u.ownsRow wb.heap.size 45 5 hv' P.length (hkcells P)):Pzc wb R S vL m1 m2 hv' P p (u.setCell ⟨S,j,none⟩ z):=by
 have hg:=ZdS u S j z
 refine⟨ZdR h.gr h.ge j z,?_,ho.kept hg (.inr (ZhE ho h.box (by decide))),fun x hx=>(h.ins x hx).kept hg (.inr (ZhE (h.ins x hx) h.box (by decide))),h.ck.keep hg (fun e=>h.ne (Option.some.inj e)),h.ge,h.rl⟩
 have:=heap_setCell_same u S j _ _ z h.box
 rw[hc] at this
 exact this
theorem Pzc.more (h:Pzc wb R S vL n1 n2 hv P p u) {x:Hk} {y hv':Value} (hy:u.ownsRow wb.heap.size 47 2 y x.ls.length (mkcells x.ls)) (hg:u.grownBy u' hv.ownBlock) (ho:u'.ownsRow wb.heap.size 45 5 hv' (P.length+1) (hkcells P++hkC x y)) :
  Pzc wb R S vL n1 n2 hv' (P++[(x,y)]) p (u'.setCell ⟨S,2,none⟩ hv')∧u'.cell? ⟨S,2,none⟩=some hv∧u'.frozen? ⟨S,2,none⟩=false:=by
 have hge:∀ j,hv.ownBlock=some j→wb.heap.size≤j:=fun j hj=>ZhJ h.own hj
 have hb:u'.heap[S]?=some (.cells #[.string ⟨n1.toArray⟩,.string ⟨n2.toArray⟩,hv] 42):=(hg.block S (Array.getElem?_eq_some_iff.1 h.box).1 (fun e=>ZhE h.own h.box (by decide) e.symm)).trans h.box
 have hgR:wb.grownBy u' (some R):=⟨hg.os.trans h.gr.os,hg.tape.trans h.gr.tape,hg.output.trans h.gr.output,Nat.le_trans h.gr.size hg.size,fun k h1 h2=>(hg.block k (Nat.lt_of_lt_of_le h1 h.gr.size) (fun e=>by have:=hge k e.symm;omega)).trans (h.gr.block k h1 h2)⟩
 have hck:Ck u' R vL (p:Int):=h.ck.keep hg (fun e=>by have:=hge R e.symm;have:=h.rl;omega)
 have key:∀ {v:Value} {n:Nat} {xs:List Value},u.ownsRow wb.heap.size 47 2 v n xs→u'.ownsRow wb.heap.size 47 2 v n xs:=by
  intro v n xs hv2
  refine⟨hv2.1,?_⟩
  rcases hv2.2 with q | ⟨b,cap,cur,rfl,q2,q3,q4⟩
  ·exact .inl q
  ·refine .inr ⟨b,cap,cur,rfl,q2,?_,q4⟩
   rw[hg.block b (Array.getElem?_eq_some_iff.1 q3).1 (fun e=>ZhE h.own q3 (by decide) e.symm)]
   exact q3
 have hg2:=ZdS u' S 2 hv'
 have hkc:hkcells (P++[(x,y)])=hkcells P++hkC x y:=by rw[Zeh];simp[hkcells,hkC]
 refine⟨⟨ZdR hgR h.ge 2 hv',heap_setCell_same u' S 2 _ _ hv' hb,?_,?_,hck.keep hg2 (fun e=>h.ne (Option.some.inj e)),h.ge,h.rl⟩,by rw[Lib.cell_of_heap hb];rfl,Lib.frozen_of_heap hb 2⟩
 ·rw[List.length_append,hkc]
  exact ho.kept hg2 (.inr (ZhE ho hb (by decide)))
 ·intro z hz
  rcases List.mem_append.1 hz with hz | hz
  ·exact (key (h.ins z hz)).kept hg2 (.inr (ZhE (key (h.ins z hz)) hb (by decide)))
  ·rw[List.mem_singleton.1 hz]
   exact (key hy).kept hg2 (.inr (ZhE (key hy) hb (by decide)))
end
end

end Go.Proofs.YtcniomgjikienaaGreatDoor
