/-
  Texts that belong together, joined: UkF, UkG, UrC, UrD, UkH, UkI, UkJ, UrE, NpV.
-/
import Derived.Test.YtcniomgjikienaaGreatDoorVkA11
import Derived.Deep.CutBlock
import Derived.Test.YtcniomgjikienaaGreatDoorProg
import Derived.WalkKit
import Derived.LaidEql
import Derived.Stop.Asserts
import Derived.RowKitTokens

set_option maxHeartbeats 16000000
set_option maxRecDepth 100000
namespace Go.Proofs.YtcniomgjikienaaGreatDoor

section
open Go.RowKit Go.Proofs.YtcniomgjikienaaGreatDoor.Tx
attribute [local go_sem] ByteArray.extract_mk Zhc
theorem Zlz {R:Nat} {L:List (List UInt8)} {lo:Option Addr} {lc:Nat} {p:Nat} (a b:Nat) (w:World) (q:Uk w R (.slice lo L.length lc) p) (HLs:Hid (∀ u,w.grownBy u (some R)→HS u (.slice lo L.length lc) L)) (hPl:Plain L) (hp:p≤L.length) (hLl:L.length≤2199023255552) (hs:∀ s∈L,s.length≤1099511627776) (ha:a≤2147483647) (hb:b≤2147483647)
  (X:Except (Nat × Int) (Mk × Nat × List (List UInt8))) (HX:Hid (ulnP a b p (L.drop p)=X)) :
  Calls Tryz.prog 244 #[.pointer (some ⟨R,0,none⟩),.agg #[.int .i64 (a:Int),.int .i64 (b:Int)]] w fun e w'=>UlX R (.slice lo L.length lc) a b X w e w':=by
 have hRl:=q.lt
 obtain⟨W0,hW0⟩:∃ u,((w.alloc (ctO a b)).alloc mk0).alloc (ctO 0 0)=u:=⟨_,rfl⟩
 have hB0:Below w.heap.size w W0:=(by rw[← hW0];exact (((Below.refl _ w).alloc (Nat.le_refl _) _).alloc (by simp) _).alloc (by simp;omega) _)
 have k1:W0.heap[w.heap.size]?=some (ctO a b):=(by
  rw[← hW0,Below.heap_alloc _ _ _ (by simp;omega),Below.heap_alloc _ _ _ (by simp)]
  exact heap_alloc_new w _)
 have k2:W0.heap[w.heap.size+1]?=some mk0:=(by
  rw[← hW0,Below.heap_alloc _ _ _ (by simp)]
  have:=heap_alloc_new (w.alloc (ctO a b)) mk0
  simpa using this)
 have k3:W0.heap[w.heap.size+2]?=some (ctO 0 0):=(by
  rw[← hW0]
  have:=heap_alloc_new ((w.alloc (ctO a b)).alloc mk0) (ctO 0 0)
  simpa using this)
 have q0:=q.low hB0
 have hL0:=HLs.out W0 (ZfO hB0 _)
 obtain⟨Y,hY⟩:∃ Y,nxt p (L.drop p)=Y:=⟨_,rfl⟩
 have hl:=ZlV W0 q0 hL0 hp hLl hs Y hY
 have hX:=HX.out
 clear HX
 unfold ctO mk0 at hW0
 cases Y with
 | error z =>
  obtain⟨z1,e1⟩:=z
  have hX2:X=.error (z1,e1):=(by rw[← hX];unfold ulnP;rw[hY])
  subst hX2
  clear hX k1 k2 k3
  go_enter Tryz.func244,Tryz.ntmps244
  go_wp2_with fail
  refine hl.mono ?_
  rintro x w1 ⟨⟨g,rfl,hg⟩,hgr⟩
  go_wp2
  exact⟨rfl,⟨_,rfl,hg⟩,ZdT (ZfO hB0 _) hgr⟩
 | ok z =>
  obtain⟨s,r⟩:=z
  obtain⟨c,st,hst⟩:=Zkp s
  have hl2:Calls Tryz.prog 240 #[.pointer (some ⟨R,0,none⟩)] W0 fun x w'=>x=.returned (.string ⟨(s++[10]).toArray⟩)∧∃ n,w'=W0.drewN n:=hl
  rw[hst] at hl2
  have hr:=(Zhr hY).1
  have hsl:(c::st).length≤1099511627777:=(by
   obtain⟨_,hpl,_,hLp⟩:=Zhr hY
   have hsl:=hs L[p] (List.getElem_mem hpl)
   rw[hLp] at hsl
   rw[← hst]
   omega)
  rw[Zlv hY hst] at hX
  simp only[List.length_cons] at hsl
  obtain⟨x,hx⟩:∃ x,cO c=x:=⟨_,rfl⟩
  obtain⟨y,hy⟩:∃ y,cN c=y:=⟨_,rfl⟩
  have hcn:=c.toNat_lt
  have hco:∀ u:World,Calls Tryz.prog 295 #[.int .u8 (c.toNat:Int)] u fun e w'=>e=.returned (.agg #[.int .i64 x,.int .i64 y])∧Below u.heap.size u w':=(by
   intro u
   have h:=Zlc c u
   rw[hx,hy] at h
   exact h)
  have hxy:0≤x∧x≤1∧0≤y∧y≤1:=(by
   rw[← hx,← hy]
   cases h:okC c with
   | true =>
    have:=(ZaV h).2.2.2.2.2
    exact⟨this.1,this.2.1,this.2.2.1,this.2.2.2⟩
   | false =>
    obtain⟨h1,h2⟩:=ZaU h
    rw[h1,h2]
    decide)
  have i1:(0:Int)<(st.length:Int)+1:=by omega
  clear hl
  go_enter Tryz.func244,Tryz.ntmps244
  go_wp2_with fail
  refine hl2.mono ?_
  rintro e W1 ⟨rfl,n1,rfl⟩
  have hB1:Below w.heap.size w (W0.drewN n1):=Below.dN hB0 n1
  have k1':(W0.drewN n1).heap[w.heap.size]?=some (ctO a b):=k1
  have k2':(W0.drewN n1).heap[w.heap.size+1]?=some mk0:=k2
  have k3':(W0.drewN n1).heap[w.heap.size+2]?=some (ctO 0 0):=k3
  have q1:=q0.dN n1
  generalize W0.drewN n1=W1 at hB1 k1' k2' k3' q1 ⊢
  clear hW0 hB0 k1 k2 k3 q0 hL0 hl2
  go_wp2_with fail
  refine (hco _).mono ?_
  rintro e W2 ⟨rfl,hB2⟩
  have hM3:Mz w R (.slice lo L.length lc) W2.heap.size p a b x y (W2.alloc (ctO x y)):=(by
   have hB3:Below W1.heap.size W1 (W2.alloc (ctO x y)):=hB2.alloc hB2.size _
   have e1:=Array.getElem?_eq_some_iff.1 k3'
   have e2:=hB2.size
   exact⟨ZfO (hB1.trans (hB3.mono hB1.size)) _,(hB3.block _ (Array.getElem?_eq_some_iff.1 k1').1).trans k1',(hB3.block _ (Array.getElem?_eq_some_iff.1 k2').1).trans k2',(hB3.block _ e1.1).trans k3',heap_alloc_new W2 _,q1.low hB3,by have:=e1.1;omega,hRl⟩)
  clear hB1 k1' k2' k3' q1 hB2 hco
  unfold ctO at hM3
  go_upto_region 3 with fail
  generalize W2.alloc (.cells #[.int .i64 x,.int .i64 y] 300)=W3 at hM3 ⊢
  generalize W2.heap.size=T at hM3 ⊢
  obtain⟨l0,l1,f0,f1⟩:=hM3.left
  obtain⟨t0,t1⟩:=hM3.taken
  have hM4:=hM3.setA ((a:Int)-x)
  have hM5:=hM4.setB ((b:Int)-y)
  obtain⟨l0',l1',f0',f1'⟩:=hM4.left
  obtain⟨t0',t1'⟩:=hM4.taken
  go_upto_region 5 with fail
  clear l0 l1 f0 f1 t0 t1 l0' l1' f0' f1' t0' t1' hM3 hM4
  generalize (W3.setCell ⟨w.heap.size,0,none⟩ (.int .i64 ((a:Int)-x))).setCell ⟨w.heap.size,1,none⟩ (.int .i64 ((b:Int)-y))=W5 at hM5 ⊢
  generalize hva:(a:Int)-x=va at hM5 ⊢
  generalize hvb:(b:Int)-y=vb at hM5 ⊢
  obtain⟨l0,l1,f0,f1⟩:=hM5.left
  obtain⟨t0,t1⟩:=hM5.taken
  have heq:=Zch x y 0 0
  have hgd:Tryz.prog.eqGuardType Tryz.prog.depth 300=false:=by kernel_rfl
  by_cases hgood:okC c=true∧tkO c≤a∧tkN c≤b
  ·rw[if_pos hgood] at hX
   obtain⟨g1,g2,g3⟩:=hgood
   obtain⟨u1,u2,u3,u4,u5,_⟩:=ZaV g1
   rw[hx,hy] at u5
   rw[u5] at heq
   rw[hx] at u1
   rw[hy] at u2
   have HV:Hid (va=((a-tkO c:Nat):Int)∧vb=((b-tkN c:Nat):Int)):=⟨by omega,by omega⟩
   have d1:decide (va<0)=false:=decide_eq_false (by omega)
   have d2:decide (vb<0)=false:=decide_eq_false (by omega)
   have HXY:Hid (cO c=x∧cN c=y):=⟨hx,hy⟩
   have hM7:=hM5.next
   clear u1 u2 u3 u4 u5 hva hvb hx hy
   obtain⟨r0,r1⟩:=hM5.ck.cells
   have rf1:=hM5.ck.frozen 1
   go_upto_region 8 with fail
   clear r0 r1 rf1 l0 l1 f0 f1 t0 t1 d1 d2 heq hM5
   generalize W5.setCell ⟨R,1,none⟩ (.int .i64 ((p:Int)+1))=W7 at hM7 ⊢
   have HS1:Hid (T<W7.heap.size):=(Array.getElem?_eq_some_iff.1 hM7.bt).1
   have hB8:Below W7.heap.size W7 (W7.alloc (.cells #[.int .u8 (c.toNat:Int),.string ⟨st.toArray⟩] 47)).drew:=((Below.refl _ W7).alloc (Nat.le_refl _) _).drew
   have hM8:=hM7.low hB8
   have hm8:(W7.alloc (.cells #[.int .u8 (c.toNat:Int),.string ⟨st.toArray⟩] 47)).drew.heap[W7.heap.size]?=some (.cells #[.int .u8 (c.toNat:Int),.string ⟨st.toArray⟩] 47):=heap_alloc_new W7 _
   go_region
   clear hM7 hB8
   generalize (W7.alloc (.cells #[.int .u8 (c.toNat:Int),.string ⟨st.toArray⟩] 47)).drew=W8 at hM8 hm8 ⊢
   generalize W7.heap.size=S at HS1 hm8 ⊢
   obtain⟨r1,hr1⟩:∃ z,uendB c (a-tkO c) (b-tkN c)=z:=⟨_,rfl⟩
   obtain⟨r2,hr2⟩:∃ z,(st != [10] && pkM r)=z:=⟨_,rfl⟩
   rw[hr1,hr2] at hX
   have HR1:Hid (((x == 0 || va == 0) && (y == 0 || vb == 0))=r1):=(by
    show _=_
    rw[← hr1,← HXY.out.1,← HXY.out.2]
    exact ZcQ g1 HV.out.1 HV.out.2)
   have HR2:Hid ((st != [10] && pkM (L.drop (p+1)))=r2):=(by show _=_;rw[← hr,hr2])
   have HXX:Hid ((if (r1 && r2)=true then Except.ok ((⟨(c.toNat:Int),st.dropLast⟩:Mk),p+2,r.tail) else Except.ok (⟨(c.toNat:Int),st⟩,p+1,r))=X):=hX
   have Hr:Hid (r=L.drop (p+1)):=hr
   have HST:Hid (s++[10]=c::st):=hst
   have HOK:Hid (okC c=true):=g1
   clear hX hr1 hr2 hr hst hY g1 g2 g3
   go_upto_region 9 with fail
   go_cut [61] (fun bv wz=>bv=.bool (r1 && r2)∧Mz w R (.slice lo L.length lc) T (p+1) va vb x y wz∧wz.heap[S]?=some (.cells #[.int .u8 (c.toNat:Int),.string ⟨st.toArray⟩] 47))
   case first =>
    obtain⟨l0,l1,f0,f1⟩:=hM8.left
    obtain⟨t0,t1⟩:=hM8.taken
    go_wp2_with fail
    refine (Zlq x y va vb _ r1 HR1).mono ?_
    rintro e W9 ⟨rfl,hB9⟩
    have hM9:=hM8.low hB9
    have hm9:W9.heap[S]?=_:=(hB9.block S (Array.getElem?_eq_some_iff.1 hm8).1).trans hm8
    clear hM8 hm8 l0 l1 f0 f1 t0 t1 hB9
    cases r1 with
    | false =>
     go_wp2
     go_meet
     case rel=>exact⟨rfl,hM9,hm9⟩
    | true =>
     have m1:W9.cell? ⟨S,1,none⟩=some (.string ⟨st.toArray⟩):=(by rw[Lib.cell_of_heap hm9];rfl)
     go_wp2_with fail
     refine (ZlY W9 hM9.ck (HLs.out W9 hM9.gr) hPl hLl st r2 HR2).mono ?_
     rintro e W10 ⟨rfl,n10,rfl⟩
     have hM10:=hM9.low (Below.dN (Below.refl _ W9) n10)
     have hm10:(W9.drewN n10).heap[S]?=_:=hm9
     go_wp2
     go_meet
     case rel=>exact⟨by simp,hM10,hm10⟩
   case rest =>
   obtain⟨rfl,hM11,hm11⟩:=hcut
   clear hM8 hm8 HR1 HR2
   go_upto_if 61 with fail
   go_cut [] (fun wz=>∃ (tx:List UInt8) (pn:Nat),Mz w R (.slice lo L.length lc) T pn va vb x y wz∧wz.heap[S]?=some (.cells #[.int .u8 (c.toNat:Int),.string ⟨tx.toArray⟩] 47)∧Hid (Except.ok ((⟨(c.toNat:Int),tx⟩:Mk),pn,L.drop pn)=X))
   case first =>
    cases hb:(r1 && r2) with
    | false =>
     have HE:Hid (Except.ok ((⟨(c.toNat:Int),st⟩:Mk),p+1,L.drop (p+1))=X):=(by have h:=HXX.out;rw[hb,if_neg (by decide),Hr.out] at h;exact h)
     clear HXX
     go_wp2
     go_meet
     case rel=>exact⟨st,p+1,hM11,hm11,HE⟩
    | true =>
     have HE:Hid (Except.ok ((⟨(c.toNat:Int),st.dropLast⟩:Mk),p+2,L.drop (p+2))=X):=(by
      have h:=HXX.out
      rw[hb,if_pos rfl,Hr.out,List.tail_drop] at h
      exact h)
     obtain⟨u,hu⟩:∃ u,st=u++[10]:=(by
      have h:=HST.out
      cases s with
      | nil =>
       simp only[List.nil_append,List.cons.injEq] at h
       have:=HOK.out
       rw[← h.1] at this
       cases this
      | cons d u =>
       simp only[List.cons_append,List.cons.injEq] at h
       exact⟨u,h.2.symm⟩)
     have hts:Lib.trimSuffix st [10]=st.dropLast:=(by rw[hu,ZkV,List.dropLast_concat])
     obtain⟨sd,hsd⟩:∃ z,st.dropLast=z:=⟨_,rfl⟩
     rw[hsd] at hts HE
     have HTr:Hid (∀ u,Calls Tryz.prog 239 #[.string ⟨st.toArray⟩,.string ⟨#[10]⟩] u fun e w'=>e=.returned (.string ⟨sd.toArray⟩)∧w'=u):=(by
      intro u
      refine (Tryz.strings_TrimSuffix ⟨st.toArray⟩ ⟨#[10]⟩ u (by show st.length≤_;omega)).mono ?_
      rintro e w' ⟨rfl,rfl⟩
      have e1:Lib.trimSuffix (⟨st.toArray⟩:ByteArray).data.toList (⟨#[10]⟩:ByteArray).data.toList=sd:=hts
      rw[e1]
      exact⟨rfl,rfl⟩)
     clear HXX hu hts hsd
     have m1:wc.cell? ⟨S,1,none⟩=some (.string ⟨st.toArray⟩):=(by rw[Lib.cell_of_heap hm11];rfl)
     have mf1:wc.frozen? ⟨S,1,none⟩=false:=Lib.frozen_of_heap hm11 1
     have hST:=HS1.out
     have htl:=hM11.tl
     have hM12:=hM11.other (g:=S) 1 (.string ⟨sd.toArray⟩) (by omega) (by omega)
     have hm12:(wc.setCell ⟨S,1,none⟩ (.string ⟨sd.toArray⟩)).heap[S]?=some (.cells #[.int .u8 (c.toNat:Int),.string ⟨sd.toArray⟩] 47):=heap_setCell_same _ S 1 _ _ _ hm11
     have hM13:=hM12.next
     have hm13:((wc.setCell ⟨S,1,none⟩ (.string ⟨sd.toArray⟩)).setCell ⟨R,1,none⟩ (.int .i64 (((p+1:Nat):Int)+1))).heap[S]?=some (.cells #[.int .u8 (c.toNat:Int),.string ⟨sd.toArray⟩] 47):=(Below.heap_setCell _ _ _ S (show S≠R by omega)).trans hm12
     obtain⟨r0,r1'⟩:=hM12.ck.cells
     have rf1:=hM12.ck.frozen 1
     have e2:((p+1:Nat):Int)=(p:Int)+1:=by omega
     rw[e2] at r1' hM13 hm13
     clear hST htl e2
     go_wp2_with fail
     refine (HTr.out _).mono ?_
     rintro e w2 ⟨rfl,rfl⟩
     go_wp2
     go_meet
     case rel=>exact⟨sd,p+1+1,hM13,hm13,HE⟩
   case rest =>
   obtain⟨tx,pn,hM14,hm14,HE⟩:=hcut
   clear hM11 hm11 HXX
   have hXe:=HE.out
   subst hXe
   obtain⟨l0,l1,f0,f1⟩:=hM14.left
   obtain⟨yf1,yf2,y0,y1,y2,y3⟩:=hM14.res
   have zf0:=yf1 0
   have zf1:=yf1 1
   have zf2:=yf2 0
   have zf3:=yf2 1
   have m0:wc.cell? ⟨S,0,none⟩=some (.int .u8 (c.toNat:Int)):=(by rw[Lib.cell_of_heap hm14];rfl)
   have m1:wc.cell? ⟨S,1,none⟩=some (.string ⟨tx.toArray⟩):=(by rw[Lib.cell_of_heap hm14];rfl)
   clear yf1 yf2
   go_upto_region 12 with fail
   obtain⟨k1,k2,k3,k4⟩:=hM14.fin (c.toNat:Int) tx
   go_region
   clear y0 y1 y2 y3 zf0 zf1 zf2 zf3 m0 m1 l0 l1 f0 f1 hM14 hm14
   go_wp2
   refine bodyPost_ret (v:=.tuple #[.agg #[.int .u8 (c.toNat:Int),.string ⟨tx.toArray⟩],.agg #[.int .i64 va,.int .i64 vb]]) (Zjl rfl _ _ (w.heap.size+1) (w.heap.size+1+1) 47 300 #[.int .u8 (c.toNat:Int),.string ⟨tx.toArray⟩] #[.int .i64 va,.int .i64 vb] (0,0) (0,0) _ _ rfl k1 Tryz.underlying47 rfl (by kernel_rfl) rfl k2 Tryz.underlying300 rfl (by kernel_rfl)) rfl ⟨?_,k3,k4⟩
   rw[(Zfw HOK.out tx).1,(Zfw HOK.out tx).2,← HV.out.1,← HV.out.2]
  ·rw[if_neg hgood] at hX
   subst hX
   have hbad:¬ (x == 0 && y == 0)=true→¬ va<0→vb<0:=(by
    intro n1 n2
    cases ho:okC c with
    | false =>
     obtain⟨h1,h2⟩:=ZaU ho
     rw[hx] at h1
     rw[hy] at h2
     exact absurd (by rw[h1,h2];rfl) n1
    | true =>
     obtain⟨u1,u2,_⟩:=ZaV ho
     rw[hx] at u1
     rw[hy] at u2
     have n3:¬ (tkO c≤a∧tkN c≤b):=fun z=>hgood ⟨ho,z⟩
     omega)
   have hck:=hM5.ck
   have hgr5:=hM5.gr
   by_cases e0:(x == 0 && y == 0)=true
   ·rw[e0] at heq
    clear hbad hM5 hgood hx hy
    go_wp2_with fail
    refine (ZlU 3 _ hck (by omega)).mono ?_
    rintro e w3 ⟨⟨g,rfl,hg⟩,hgr⟩
    go_wp2
    exact⟨rfl,⟨_,rfl,by simpa using hg⟩,ZdT hgr5 hgr⟩
   ·have e0':(x == 0 && y == 0)=false:=by simpa using e0
    rw[e0'] at heq
    by_cases e1:va<0
    ·have d1:decide (va<0)=true:=decide_eq_true e1
     clear hbad hM5 hgood hx hy e0 e0'
     go_wp2_with fail
     refine (ZlU 3 _ hck (by omega)).mono ?_
     rintro e w3 ⟨⟨g,rfl,hg⟩,hgr⟩
     go_wp2
     exact⟨rfl,⟨_,rfl,by simpa using hg⟩,ZdT hgr5 hgr⟩
    ·have d1:decide (va<0)=false:=decide_eq_false e1
     have d2:decide (vb<0)=true:=decide_eq_true (hbad e0 e1)
     clear hbad hM5 hgood hx hy e0 e0'
     go_wp2_with fail
     refine (ZlU 3 _ hck (by omega)).mono ?_
     rintro e w3 ⟨⟨g,rfl,hg⟩,hgr⟩
     go_wp2
     exact⟨rfl,⟨_,rfl,by simpa using hg⟩,ZdT hgr5 hgr⟩
end

section
open Go.RowKit Go.Proofs.YtcniomgjikienaaGreatDoor.Tx
attribute [local go_sem] ByteArray.extract_mk Zhc
def uheadP (k p:Nat) (ls:List (List UInt8)):Except (Nat × Int) ((Int × Int × Int × Int) × List (List UInt8)) :=
 match nxt p ls with
 | .error e=>.error e
 | .ok (s,r)=>match uhdP s with
  | none=>.error (p+1,3)
  | some (A,AN,B,BN)=>if 4096≤k then .error (p+1,9) else if A=0∧0<AN∨B=0∧0<BN then .error (p+1,2) else .ok ((A,AN,B,BN),r)
theorem Zlg (k p:Nat) (ls:List (List UInt8)):uhkP k p ls=match uheadP k p ls with
  | .error e=>.error e
  | .ok ((A,AN,B,BN),r)=>match urdP (AN.toNat+BN.toNat) AN.toNat BN.toNat (p+1) r with
   | .error e=>.error e
   | .ok (l,p1,r1)=>if smB l=true then .error (p+1,50) else .ok (⟨A,AN,B,BN,l⟩,p1,r1):=by
 unfold uhkP uheadP
 cases nxt p ls with
 | error e=>rfl
 | ok z =>
  obtain⟨s,r⟩:=z
  dsimp only
  cases uhdP s with
  | none=>rfl
  | some z =>
   obtain⟨A,AN,B,BN⟩:=z
   dsimp only
   split
   ·rfl
   ·split
    ·rfl
    ·rfl
def HdX (R:Nat) (vL:Value) (p:Nat) (X:Except (Nat × Int) ((Int × Int × Int × Int) × List (List UInt8))) (w:World) (e:Ending) (w':World):Prop :=
 match X with
 | .error (z,k)=>Thr (z:Int) k e w'∧w.grownBy w' (some R)
 | .ok ((A,AN,B,BN),_)=>e=.returned (hk0 A AN B BN)∧Uk w' R vL ((p+1:Nat):Int)∧w.grownBy w' (some R)
theorem Zdp {u:World} {R b:Nat} {vL:Value} {p:Int} (q:Uk u R vL p) (hb:R≠b) (A AN B BN:Int) (z:Value):Uk (five u b A AN B BN z) R vL p :=
 (Below.heap_setCell _ _ _ _ (show R≠b from hb)).trans ((Below.heap_setCell _ _ _ _ (show R≠b from hb)).trans ((Below.heap_setCell _ _ _ _ (show R≠b from hb)).trans ((Below.heap_setCell _ _ _ _ (show R≠b from hb)).trans ((Below.heap_setCell _ _ _ _ (show R≠b from hb)).trans q))))
theorem Zdl {w u:World} {R b:Nat} (h:w.grownBy u (some R)) (hb:w.heap.size≤b) (A AN B BN:Int) (z:Value):w.grownBy (five u b A AN B BN z) (some R):=ZdR (ZdR (ZdR (ZdR (ZdR h hb 0 _) hb 1 _) hb 2 _) hb 3 _) hb 4 _
theorem Zdm {u:World} {b:Nat} {h:Hk} {v:Value} (p:Hx u b h v) (A AN B BN:Int) (z:Value):(five u b A AN B BN z).heap[b]?=some (.cells #[.int .i64 A,.int .i64 AN,.int .i64 B,.int .i64 BN,z] 45 (0,0)):=p.put5 _ _ _ _ _
theorem Zlf {R:Nat} {L:List (List UInt8)} {lo:Option Addr} {lc:Nat} {p k:Nat} (hk:k≤4096) (w:World) (q:Uk w R (.slice lo L.length lc) p) (HLs:Hid (∀ u,w.grownBy u (some R)→HS u (.slice lo L.length lc) L)) (hp:p≤L.length) (hLl:L.length≤2199023255552) (HSl:Hid (∀ s∈L,s.length≤1099511627)) (hm:Mxl w)
  (X:Except (Nat × Int) ((Int × Int × Int × Int) × List (List UInt8))) (HX:Hid (uheadP k p (L.drop p)=X)) :
  Calls Tryz.prog 243 #[.pointer (some ⟨R,0,none⟩),.int .i64 (k:Int)] w fun e w'=>HdX R (.slice lo L.length lc) p X w e w':=by
 have hRl:=q.lt
 obtain⟨W0,hW0⟩:∃ u,w.alloc (hkO zhk (.slice none 0 0))=u:=⟨_,rfl⟩
 have hB0:Below w.heap.size w W0:=(by rw[← hW0];exact (Below.refl _ w).alloc (Nat.le_refl _) _)
 have hx0:Hx W0 w.heap.size zhk (.slice none 0 0):=(by rw[← hW0];exact Hx.new w _ _)
 have q0:=q.low hB0
 have hm0:=hm.low hB0
 obtain⟨Y,hY⟩:∃ Y,nxt p (L.drop p)=Y:=⟨_,rfl⟩
 have hl:=ZlV W0 q0 (HLs.out W0 (ZfO hB0 _)) hp hLl (fun s h=>by have:=HSl.out s h;omega) Y hY
 have hX:=HX.out
 unfold uheadP at hX
 rw[hY] at hX
 clear HX hm
 unfold hkO zhk at hW0
 dsimp only at hW0
 cases Y with
 | error z =>
  obtain⟨z1,e1⟩:=z
  dsimp only at hX
  subst hX
  go_enter Tryz.func243,Tryz.ntmps243
  go_wp2_with fail
  refine hl.mono ?_
  rintro x w1 ⟨⟨g,rfl,hg⟩,hgr⟩
  go_wp2
  exact⟨rfl,⟨_,rfl,hg⟩,ZdT (ZfO hB0 _) hgr⟩
 | ok z =>
  obtain⟨s,r⟩:=z
  dsimp only at hX
  have hl2:Calls Tryz.prog 240 #[.pointer (some ⟨R,0,none⟩)] W0 fun x w'=>x=.returned (.string ⟨(s++[10]).toArray⟩)∧∃ n,w'=W0.drewN n:=hl
  have hsl:s.length≤1099511627:=(by
   obtain⟨_,hpl,_,hLp⟩:=Zhr hY
   have hsl:=HSl.out L[p] (List.getElem_mem hpl)
   rw[hLp,List.length_append] at hsl
   omega)
  obtain⟨sf,hsf⟩:∃ t,s++[10]=t:=⟨_,rfl⟩
  have hsfl:sf.length≤1099511628:=(by rw[← hsf,List.length_append];simp only[List.length_cons,List.length_nil];omega)
  have hts:Lib.trimSuffix sf [10]=s:=(by rw[← hsf];exact ZkV s)
  rw[hsf] at hl2
  have HTr:Hid (∀ u,Calls Tryz.prog 239 #[.string ⟨sf.toArray⟩,.string ⟨#[10]⟩] u fun e w'=>e=.returned (.string ⟨s.toArray⟩)∧w'=u):=(by
   intro u
   refine (Tryz.strings_TrimSuffix ⟨sf.toArray⟩ ⟨#[10]⟩ u (by show sf.length≤_;omega)).mono ?_
   rintro e w' ⟨rfl,rfl⟩
   have e1:Lib.trimSuffix (⟨sf.toArray⟩:ByteArray).data.toList (⟨#[10]⟩:ByteArray).data.toList=s:=hts
   rw[e1]
   exact⟨rfl,rfl⟩)
  have HBg:Hid (∀ u,Mxl u→Calls Tryz.prog 294 #[.string ⟨s.toArray⟩] u fun e w'=>BgQ u s e w'):=fun u hu=>Zlb s u hsl hu
  clear hl hsf hsfl hts
  go_enter Tryz.func243,Tryz.ntmps243
  go_wp2_with fail
  refine hl2.mono ?_
  rintro e W1 ⟨rfl,n1,rfl⟩
  have hB1:Below w.heap.size w (W0.drewN n1):=Below.dN hB0 n1
  have hx1:=hx0.row n1
  have q1:=q0.dN n1
  have hm1:=hm0.low (Below.dN (Below.refl _ W0) n1)
  generalize W0.drewN n1=W1 at hB1 hx1 q1 hm1 ⊢
  clear hW0 hB0 hx0 q0 hm0 hl2
  go_wp2_with fail
  refine (HTr.out _).mono ?_
  rintro e W1' ⟨rfl,rfl⟩
  go_wp2_with fail
  refine (HBg.out _ hm1).mono ?_
  rintro e W2 ⟨A,AN,B,BN,ok,rfl,hU,hB2⟩
  rw[hU] at hX
  have hB2w:=hB1.trans (hB2.mono hB1.size)
  have hx2:=hx1.low hB2
  have q2:=q1.low hB2
  clear hx1 q1 hB1 hB2 hm1 HTr HBg hU
  have hB3:Below W2.heap.size W2 (W2.alloc (hkO ⟨A,AN,B,BN,[]⟩ (.slice none 0 0))):=(Below.refl _ W2).alloc (Nat.le_refl _) _
  have hB3w:=hB2w.trans (hB3.mono hB2w.size)
  have hx3:=hx2.low hB3
  have q3:=q2.low hB3
  have hh3:=Hx.new W2 ⟨A,AN,B,BN,[]⟩ (.slice none 0 0)
  unfold hkO at hB3 hB3w hx3 q3 hh3
  dsimp only at hB3 hB3w hx3 q3 hh3
  have e0:hk0 A AN B BN=.agg #[.int .i64 A,.int .i64 AN,.int .i64 B,.int .i64 BN,.slice none 0 0]:=rfl
  rw[e0]
  clear e0
  go_upto_region 2 with fail
  have HT:Hid (w.heap.size<W2.heap.size):=hx2.lt
  generalize W2.alloc (.cells #[.int .i64 A,.int .i64 AN,.int .i64 B,.int .i64 BN,.slice none 0 0] 45)=W3 at hB3 hB3w hx3 q3 hh3 ⊢
  generalize W2.heap.size=T at hB3 hh3 HT ⊢
  clear hB3 hB2w hx2 q2
  cases ok with
  | false =>
   rw[if_neg (by decide)] at hX
   dsimp only at hX
   subst hX
   go_wp2_with fail
   refine (ZlU 3 _ q3 (by omega)).mono ?_
   rintro e w3 ⟨⟨g,rfl,hg⟩,hgr⟩
   go_wp2
   exact⟨rfl,⟨_,rfl,by simpa using hg⟩,ZdT (ZfO hB3w _) hgr⟩
  | true =>
   rw[if_pos rfl] at hX
   dsimp only at hX
   by_cases hk4:4096≤k
   ·rw[if_pos hk4] at hX
    subst hX
    have e1:((k:Int) == 4096)=true:=beq_iff_eq.2 (by omega)
    go_wp2_with fail
    refine (ZlU 9 _ q3 (by omega)).mono ?_
    rintro e w3 ⟨⟨g,rfl,hg⟩,hgr⟩
    go_wp2
    exact⟨rfl,⟨_,rfl,by simpa using hg⟩,ZdT (ZfO hB3w _) hgr⟩
   ·rw[if_neg hk4] at hX
    have e1:((k:Int) == 4096)=false:=beq_eq_false_iff_ne.2 (by omega)
    obtain⟨z0,z1,z2,z3,z4⟩:=hh3.cells
    dsimp only at z0 z1 z2 z3
    go_upto_region 6 with fail
    obtain⟨rg,hrg⟩:∃ b,((A == 0 && decide (0<AN)) || (B == 0 && decide (0<BN)))=b:=⟨_,rfl⟩
    have HRG:Hid (((A == 0 && decide (0<AN)) || (B == 0 && decide (0<BN)))=rg):=hrg
    have HX4:Hid ((if rg=true then Except.error (p+1,2) else Except.ok ((A,AN,B,BN),r))=X):=(by
     show _=_
     rw[← hX,← hrg]
     simp)
    clear hX hrg
    go_cut [39] (fun bv wz=>bv=.bool rg∧wz=W3)
    case first =>
     have HR2:=HRG.out
     clear HRG HX4
     cases a1:A == 0 with
     | false =>
      rw[a1,Bool.false_and,Bool.false_or] at HR2
      cases b1:B == 0 with
      | false =>
       rw[b1,Bool.false_and] at HR2
       subst HR2
       go_wp2
       go_meet
       case rel=>exact⟨rfl,rfl⟩
      | true =>
       rw[b1,Bool.true_and] at HR2
       have HE:Hid (decide (0<BN)=rg):=HR2
       clear HR2
       go_wp2
       go_meet
       case rel=>exact⟨by rw[← HE.out],rfl⟩
     | true =>
      rw[a1,Bool.true_and] at HR2
      cases a2:decide (0<AN) with
      | true =>
       rw[a2,Bool.true_or] at HR2
       subst HR2
       go_wp2
       go_meet
       case rel=>exact⟨rfl,rfl⟩
      | false =>
       rw[a2,Bool.false_or] at HR2
       cases b1:B == 0 with
       | false =>
        rw[b1,Bool.false_and] at HR2
        subst HR2
        go_wp2
        go_meet
        case rel=>exact⟨rfl,rfl⟩
       | true =>
        rw[b1,Bool.true_and] at HR2
        have HE:Hid (decide (0<BN)=rg):=HR2
        clear HR2
        go_wp2
        go_meet
        case rel=>exact⟨by rw[← HE.out],rfl⟩
    case rest =>
    obtain⟨rfl,hwc⟩:=hcut
    subst hwc
    clear HRG
    cases rg with
    | true =>
     have hX5:=HX4.out
     rw[if_pos rfl] at hX5
     subst hX5
     clear HX4
     go_wp2_with fail
     refine (ZlU 2 _ q3 (by omega)).mono ?_
     rintro e w3 ⟨⟨g,rfl,hg⟩,hgr⟩
     go_wp2
     exact⟨rfl,⟨_,rfl,by simpa using hg⟩,ZdT (ZfO hB3w _) hgr⟩
    | false =>
     have hX5:=HX4.out
     rw[if_neg (by decide)] at hX5
     subst hX5
     clear HX4
     obtain⟨r0,r1⟩:=q3.cells
     have rf1:=q3.frozen 1
     have hne:=HT.out
     go_upto_region 9 with fail
     have q5:Uk (wc.setCell ⟨R,1,none⟩ (.int .i64 ((p:Int)+1))) R (.slice lo L.length lc) (((p+1:Nat)):Int):=(by have:=q3.at ((p:Int)+1);simpa using this)
     have g5:=ZdT (ZfO hB3w (some R)) (ZdS wc R 1 (.int .i64 ((p:Int)+1)))
     have hx5:=hx3.keep (ZdS wc R 1 (.int .i64 ((p:Int)+1))) (fun e=>by have:=Option.some.inj e;omega)
     have hh5:=hh3.keep (ZdS wc R 1 (.int .i64 ((p:Int)+1))) (fun e=>by have:=Option.some.inj e;omega)
     clear z0 z1 z2 z3 z4 r0 r1 rf1 q3 hx3 hh3 hB3w
     generalize wc.setCell ⟨R,1,none⟩ (.int .i64 ((p:Int)+1))=W5 at q5 g5 hx5 hh5 ⊢
     obtain⟨z0,z1,z2,z3,z4⟩:=hh5.cells
     dsimp only at z0 z1 z2 z3
     obtain⟨y0,y1,y2,y3,y4⟩:=hx5.cells
     dsimp only[zhk] at y0 y1 y2 y3
     have yf0:=hx5.frozen 0
     have yf1:=hx5.frozen 1
     have yf2:=hx5.frozen 2
     have yf3:=hx5.frozen 3
     have yf4:=hx5.frozen 4
     have fh:=Zdm hx5 A AN B BN (.slice none 0 0)
     have fq:=Zdp q5 (by omega:R≠w.heap.size) A AN B BN (.slice none 0 0)
     have fg:=Zdl g5 (Nat.le_refl _) A AN B BN (.slice none 0 0)
     unfold five at fh fq fg
     clear q5 g5 hx5 hh5 hne
     go_wp2
     exact bodyPost_ret (v:=hk0 A AN B BN) (results_cell_row rfl _ _ w.heap.size 45 #[.int .i64 A,.int .i64 AN,.int .i64 B,.int .i64 BN,.slice none 0 0] (0,0) _ rfl fh Tryz.underlying45 rfl (by kernel_rfl)) rfl ⟨rfl,fq,fg⟩
end

section
open Go.RowKit Go.Proofs.YtcniomgjikienaaGreatDoor.Tx
attribute [local go_sem] ByteArray.extract_mk Zhc
structure Hd2 (w:World) (A AN B BN:Int) (u:World):Prop where
 low:Below w.heap.size w u
 b0:Hx u w.heap.size ⟨0,0,0,0,[]⟩ (.slice none 0 0)
 b1:Hx u (w.heap.size+1) ⟨A,AN,B,BN,[]⟩ (.slice none 0 0)
section
variable {w u u':World} {A AN B BN:Int}
theorem Hd2.keep (h:Hd2 w A AN B BN u) (hb:Below u.heap.size u u'):Hd2 w A AN B BN u':=⟨h.low.trans (hb.mono h.low.size),h.b0.low hb,h.b1.low hb⟩
theorem Hd2.setA (h:Hd2 w A AN B BN u) (z y:Int):Hd2 w z y B BN ((u.setCell ⟨w.heap.size+1,0,none⟩ (.int .i64 z)).setCell ⟨w.heap.size+1,1,none⟩ (.int .i64 y)):=⟨(h.low.setCell (p:=⟨w.heap.size+1,0,none⟩) (by show w.heap.size≤w.heap.size+1;omega) _).setCell (p:=⟨w.heap.size+1,1,none⟩) (by show w.heap.size≤w.heap.size+1;omega) _,(Below.heap_setCell _ _ _ _ (show w.heap.size≠w.heap.size+1 by omega)).trans ((Below.heap_setCell _ _ _ _ (show w.heap.size≠w.heap.size+1 by omega)).trans h.b0),heap_setCell_same _ _ 1 _ _ _ (heap_setCell_same _ _ 0 _ _ _ h.b1)⟩
theorem Hd2.setB (h:Hd2 w A AN B BN u) (z y:Int):Hd2 w A AN z y ((u.setCell ⟨w.heap.size+1,2,none⟩ (.int .i64 z)).setCell ⟨w.heap.size+1,3,none⟩ (.int .i64 y)):=⟨(h.low.setCell (p:=⟨w.heap.size+1,2,none⟩) (by show w.heap.size≤w.heap.size+1;omega) _).setCell (p:=⟨w.heap.size+1,3,none⟩) (by show w.heap.size≤w.heap.size+1;omega) _,(Below.heap_setCell _ _ _ _ (show w.heap.size≠w.heap.size+1 by omega)).trans ((Below.heap_setCell _ _ _ _ (show w.heap.size≠w.heap.size+1 by omega)).trans h.b0),heap_setCell_same _ _ 3 _ _ _ (heap_setCell_same _ _ 2 _ _ _ h.b1)⟩
theorem Hd2.fin (h:Hd2 w A AN B BN u):(five u w.heap.size A AN B BN (.slice none 0 0)).heap[w.heap.size]?=some (.cells #[.int .i64 A,.int .i64 AN,.int .i64 B,.int .i64 BN,.slice none 0 0] 45 (0,0))∧Below w.heap.size w (five u w.heap.size A AN B BN (.slice none 0 0)):=⟨h.b0.put5 _ _ _ _ _,ZiK h.low (Nat.le_refl _) _ _ _ _ _⟩
theorem Hd2.new (w:World):Hd2 w 0 0 0 0 ((w.alloc (hkO ⟨0,0,0,0,[]⟩ (.slice none 0 0))).alloc (hkO ⟨0,0,0,0,[]⟩ (.slice none 0 0))):=by
 have hz:(w.alloc (hkO ⟨0,0,0,0,[]⟩ (.slice none 0 0))).heap.size=w.heap.size+1:=by simp
 refine⟨((Below.refl _ w).alloc (Nat.le_refl _) _).alloc (by rw[hz];omega) _,(Below.heap_alloc _ _ _ (by rw[hz];omega)).trans (Hx.new w _ _),?_⟩
 have:=Hx.new (w.alloc (hkO ⟨0,0,0,0,[]⟩ (.slice none 0 0))) ⟨0,0,0,0,[]⟩ (.slice none 0 0)
 rw[hz] at this
 exact this
end
end

section
open Go.RowKit Go.Proofs.YtcniomgjikienaaGreatDoor.Tx
attribute [local go_sem] ByteArray.extract_mk Zhc
structure Ml (w:World) (R:Nat) (vL:Value) (st:Except (Nat × Int) Nat) (u:World):Prop where
 gr:w.grownBy u (some R)
 b0:u.heap[w.heap.size]?=some (.cells #[.int .u8 0,.string ⟨#[]⟩] 47)
 rd:RdZ u R vL st
 rl:R<w.heap.size
section
variable {w u u':World} {R M:Nat} {vL:Value} {st st':Except (Nat × Int) Nat}
theorem Ml.low (h:Ml w R vL st u) (hb:Below u.heap.size u u'):Ml w R vL st u':=⟨ZdT h.gr (ZfO hb _),(hb.block _ (Array.getElem?_eq_some_iff.1 h.b0).1).trans h.b0,h.rd.low hb,h.rl⟩
theorem Ml.call (h:Ml w R vL st u) (hg:u.grownBy u' (some R)) (q:RdZ u' R vL st'):Ml w R vL st' u':=⟨ZdT h.gr hg,(hg.block _ (Array.getElem?_eq_some_iff.1 h.b0).1 (fun e=>by have:=Option.some.inj e;have:=h.rl;omega)).trans h.b0,q,h.rl⟩
theorem Ml.other (h:Ml w R vL st u) (j:Nat) (z:Value) (hM:w.heap.size<M):Ml w R vL st (u.setCell ⟨M,j,none⟩ z):=⟨ZdR h.gr (by omega) j z,(Below.heap_setCell _ _ _ _ (by show w.heap.size≠M;omega)).trans h.b0,h.rd.off (ZdS u M j z) (fun e=>by have:=Option.some.inj e;have:=h.rl;omega),h.rl⟩
theorem Ml.cells (h:Ml w R vL st u):u.cell? ⟨w.heap.size,0,none⟩=some (.int .u8 0)∧u.cell? ⟨w.heap.size,1,none⟩=some (.string ⟨#[]⟩)∧(∀ j,u.frozen? ⟨w.heap.size,j,none⟩=false):=⟨by rw[Lib.cell_of_heap h.b0];rfl,by rw[Lib.cell_of_heap h.b0];rfl,fun j=>Lib.frozen_of_heap h.b0 j⟩
theorem Ml.fin (h:Ml w R vL st u) (z:Int) (tx:List UInt8) :
  ((u.setCell ⟨w.heap.size,0,none⟩ (.int .u8 z)).setCell ⟨w.heap.size,1,none⟩ (.string ⟨tx.toArray⟩)).heap[w.heap.size]?=some (.cells #[.int .u8 z,.string ⟨tx.toArray⟩] 47)∧RdZ ((u.setCell ⟨w.heap.size,0,none⟩ (.int .u8 z)).setCell ⟨w.heap.size,1,none⟩ (.string ⟨tx.toArray⟩)) R vL st∧w.grownBy ((u.setCell ⟨w.heap.size,0,none⟩ (.int .u8 z)).setCell ⟨w.heap.size,1,none⟩ (.string ⟨tx.toArray⟩)) (some R):=by
 have hr:=h.rl
 refine⟨heap_setCell_same _ _ 1 _ _ (.string ⟨tx.toArray⟩) (heap_setCell_same u _ 0 _ _ (.int .u8 z) h.b0),(h.rd.off (ZdS u _ 0 _) (fun e=>by have:=Option.some.inj e;omega)).off (ZdS _ _ 1 _) (fun e=>by have:=Option.some.inj e;omega),ZdR (ZdR h.gr (Nat.le_refl _) 0 _) (Nat.le_refl _) 1 _⟩
end
end

section
open Go.RowKit Go.Proofs.YtcniomgjikienaaGreatDoor.Tx
def thenM (l:List Mk) (X:Except (Nat × Int) (List Mk × Nat × List (List UInt8))):Except (Nat × Int) (List Mk × Nat × List (List UInt8)) :=
 match X with
 | .error e=>.error e
 | .ok (m,p,r)=>.ok (l++m,p,r)
theorem ZkN (X:Except (Nat × Int) (List Mk × Nat × List (List UInt8))):thenM [] X=X:=by
 rcases X with e | ⟨l,p,r⟩<;>rfl
theorem ZlQ (n:Nat) {a b:Nat} (h:a+b=0) (p:Nat) (ls:List (List UInt8)) (l:List Mk):thenM l (urdP n a b p ls)=.ok (l,p,ls):=by
 cases n with
 | zero=>simp[urdP,thenM]
 | succ n =>
  simp only[urdP]
  rw[if_pos h]
  simp[thenM]
theorem ZlT (n:Nat) {a b:Nat} (h:¬ a+b=0) (p:Nat) (ls:List (List UInt8)) (l:List Mk):thenM l (urdP (n+1) a b p ls)=match ulnP a b p ls with
  | .error e=>.error e
  | .ok (m,p1,r)=>thenM (l++[m]) (urdP n (a-sgO m) (b-sgN m) p1 r):=by
 simp only[urdP]
 rw[if_neg h]
 cases ulnP a b p ls with
 | error e=>rfl
 | ok z =>
  obtain⟨m,p1,r⟩:=z
  dsimp only
  cases urdP n (a-sgO m) (b-sgN m) p1 r with
  | error e=>rfl
  | ok z=>simp[thenM]
theorem Zlw {a b p p1:Nat} {L r:List (List UInt8)} {m:Mk} (hP:Plain L) (h:ulnP a b p (L.drop p)=.ok (m,p1,r)):r=L.drop p1∧p<p1∧p1≤L.length∧sgO m≤a∧sgN m≤b∧1≤sgO m+sgN m:=by
 have hP2:Plain (L.drop p):=fun s hs=>hP s (List.mem_of_mem_drop hs)
 obtain⟨_,a2,a3,a4,_,_,a7,a8⟩:=Zlx hP2 h
 have hs:1≤sgO m+sgN m:=by
  unfold sgO sgN
  by_cases e:m.sg=43
  ·rw[if_neg (by omega:¬ m.sg=45)]
   omega
  ·rw[if_neg e]
   omega
 have hr:r=L.drop p1:=by
  unfold ulnP at h
  split at h
  ·cases h
  ·cases h
  ·rename_i c t r0 hn
   obtain⟨h1,_⟩:=Zhr hn
   split at h
   ·split at h
    ·cases h
     rw[h1,List.tail_drop]
    ·cases h
     exact h1
   ·cases h
 rw[List.length_drop] at a7 a8
 refine⟨hr,by omega,?_,a3,a4,hs⟩
 by_cases hp:p≤L.length
 ·omega
 ·omega
def ukN (u:World) (R:Nat):Nat:=match u.cell? ⟨R,1,none⟩ with
 | some v=>(intOf v).toNat
 | none=>0
theorem Zlr {u:World} {R:Nat} {vL:Value} {p:Nat} (h:Uk u R vL (p:Int)):ukN u R=p:=by
 unfold ukN
 rw[h.cells.2]
 simp[intOf]
structure Uz (w:World) (R T C:Nat) (vL:Value) (A AN B BN:Int) (v:Value) (l:List Mk) (a b p:Nat) (u:World):Prop where
 gr:w.grownBy u (some R)
 bg:Hx u w.heap.size zhk (.slice none 0 0)
 bh:Hx u T ⟨A,AN,B,BN,l⟩ v
 bl:u.heap[C]?=some (ctO a b)
 own:u.ownsRow w.heap.size 47 2 v l.length (mkcells l)
 ck:Uk u R vL (p:Int)
 tl:w.heap.size<T
 cl:T<C
 rl:R<w.heap.size
section
variable {w u u':World} {R T C:Nat} {vL v:Value} {A AN B BN:Int} {l:List Mk} {a b p p':Nat}
theorem Uz.keep (h:Uz w R T C vL A AN B BN v l a b p u) (hb:Below u.heap.size u u'):Uz w R T C vL A AN B BN v l a b p u' :=
 ⟨ZdT h.gr (ZfO hb _),h.bg.low hb,h.bh.low hb,(hb.block _ (Array.getElem?_eq_some_iff.1 h.bl).1).trans h.bl,ZhK h.own hb,h.ck.low hb,h.tl,h.cl,h.rl⟩
theorem Uz.call (h:Uz w R T C vL A AN B BN v l a b p u) (hg:u.grownBy u' (some R)) (q:Uk u' R vL (p':Int)):Uz w R T C vL A AN B BN v l a b p' u':=by
 have h1:=h.tl
 have h2:=h.cl
 have h3:=h.rl
 exact⟨ZdT h.gr hg,h.bg.keep hg (fun e=>by have:=Option.some.inj e;omega),h.bh.keep hg (fun e=>by have:=Option.some.inj e;omega),(hg.block C (Array.getElem?_eq_some_iff.1 h.bl).1 (fun e=>by have:=Option.some.inj e;omega)).trans h.bl,ZhI h.own hg h.rl,q,h.tl,h.cl,h.rl⟩
theorem Uz.other (h:Uz w R T C vL A AN B BN v l a b p u) {S:Nat} {cs:Array Value} {t:TypeId} (hS:u.heap[S]?=some (.cells cs t)) (ht:47≠t∨v.ownBlock≠some S) (h0:C<S) (j:Nat) (z:Value):Uz w R T C vL A AN B BN v l a b p (u.setCell ⟨S,j,none⟩ z):=by
 have h1:=h.tl
 have h2:=h.cl
 have h3:=h.rl
 have hg:=ZdS u S j z
 refine⟨ZdR h.gr (by omega) j z,h.bg.keep hg (fun e=>by have:=Option.some.inj e;omega),h.bh.keep hg (fun e=>by have:=Option.some.inj e;omega),(Below.heap_setCell _ _ _ _ (show C≠S by omega)).trans h.bl,h.own.kept hg (.inr ?_),h.ck.keep hg (fun e=>by have:=Option.some.inj e;omega),h.tl,h.cl,h.rl⟩
 rcases ht with ht | ht
 ·exact ZhE h.own hS ht
 ·exact ht
theorem Uz.setA (h:Uz w R T C vL A AN B BN v l a b p u) (z:Nat):Uz w R T C vL A AN B BN v l z b p (u.setCell ⟨C,0,none⟩ (.int .i64 (z:Int))):=by
 have h1:=h.tl
 have h2:=h.cl
 have h3:=h.rl
 have hg:=ZdS u C 0 (.int .i64 (z:Int))
 exact⟨ZdR h.gr (by omega) 0 _,h.bg.keep hg (fun e=>by have:=Option.some.inj e;omega),h.bh.keep hg (fun e=>by have:=Option.some.inj e;omega),heap_setCell_same u C 0 _ _ _ h.bl,h.own.kept hg (.inr (ZhE h.own h.bl (by decide))),h.ck.keep hg (fun e=>by have:=Option.some.inj e;omega),h.tl,h.cl,h.rl⟩
theorem Uz.setB (h:Uz w R T C vL A AN B BN v l a b p u) (z:Nat):Uz w R T C vL A AN B BN v l a z p (u.setCell ⟨C,1,none⟩ (.int .i64 (z:Int))):=by
 have h1:=h.tl
 have h2:=h.cl
 have h3:=h.rl
 have hg:=ZdS u C 1 (.int .i64 (z:Int))
 exact⟨ZdR h.gr (by omega) 1 _,h.bg.keep hg (fun e=>by have:=Option.some.inj e;omega),h.bh.keep hg (fun e=>by have:=Option.some.inj e;omega),heap_setCell_same u C 1 _ _ _ h.bl,h.own.kept hg (.inr (ZhE h.own h.bl (by decide))),h.ck.keep hg (fun e=>by have:=Option.some.inj e;omega),h.tl,h.cl,h.rl⟩
theorem Uz.left (h:Uz w R T C vL A AN B BN v l a b p u):u.cell? ⟨C,0,none⟩=some (.int .i64 (a:Int))∧u.cell? ⟨C,1,none⟩=some (.int .i64 (b:Int))∧u.frozen? ⟨C,0,none⟩=false∧u.frozen? ⟨C,1,none⟩=false:=by
 have e:u.heap[C]?=some (.cells #[.int .i64 (a:Int),.int .i64 (b:Int)] 300):=h.bl
 exact⟨by rw[Lib.cell_of_heap e];rfl,by rw[Lib.cell_of_heap e];rfl,Lib.frozen_of_heap e 0,Lib.frozen_of_heap e 1⟩
theorem Uz.more (h:Uz w R T C vL A AN B BN v l a b p u) {m:Mk} {v':Value} (hg:u.grownBy u' v.ownBlock) (ho:u'.ownsRow w.heap.size 47 2 v' (l.length+1) (mkcells l++mkcells [m])) :
  Uz w R T C vL A AN B BN v' (l++[m]) a b p (u'.setCell ⟨T,4,none⟩ v')∧u'.cell? ⟨T,4,none⟩=some v∧u'.frozen? ⟨T,4,none⟩=false:=by
 have h1:=h.tl
 have h2:=h.cl
 have h3:=h.rl
 have hge:∀ j,v.ownBlock=some j→w.heap.size≤j:=fun j hj=>ZhJ h.own hj
 have kb:∀ (i:Nat) (cs:Array Value) (t:TypeId),47≠t→u.heap[i]?=some (.cells cs t)→u'.heap[i]?=some (.cells cs t):=fun i cs t ht hi=>(hg.block i (Array.getElem?_eq_some_iff.1 hi).1 (fun e=>ZhE h.own hi ht e.symm)).trans hi
 have bh:Hx u' T ⟨A,AN,B,BN,l⟩ v:=kb _ _ _ (by decide) h.bh
 have bg:Hx u' w.heap.size zhk (.slice none 0 0):=kb _ _ _ (by decide) h.bg
 have bl:u'.heap[C]?=some (ctO a b):=kb _ _ _ (by decide) h.bl
 have hgR:w.grownBy u' (some R):=⟨hg.os.trans h.gr.os,hg.tape.trans h.gr.tape,hg.output.trans h.gr.output,Nat.le_trans h.gr.size hg.size,fun k h1 h2=>(hg.block k (Nat.lt_of_lt_of_le h1 h.gr.size) (fun e=>by have:=hge k e.symm;omega)).trans (h.gr.block k h1 h2)⟩
 have hck:Uk u' R vL (p:Int):=h.ck.keep hg (fun e=>by have:=hge R e.symm;omega)
 have hg2:=ZdS u' T 4 v'
 refine⟨⟨ZdR hgR (by omega) 4 v',bg.keep hg2 (fun e=>by have:=Option.some.inj e;omega),heap_setCell_same u' T 4 _ _ v' bh,(Below.heap_setCell _ _ _ _ (show C≠T by omega)).trans bl,?_,hck.keep hg2 (fun e=>by have:=Option.some.inj e;omega),h.tl,h.cl,h.rl⟩,bh.cells.2.2.2.2,bh.frozen 4⟩
 rw[Zgl,List.length_append]
 exact ho.kept hg2 (.inr (ZhE ho bh (by decide)))
end
theorem ZhN {u:World} {B:Nat} {e:TypeId} {s:Nat} {v:Value} {n j:Nat} {xs:List Value} (h:u.ownsRow B e s v n xs) (hj:v.ownBlock=some j):j<u.heap.size:=by
 rcases h.2 with ⟨rfl,_⟩ | ⟨b,cap,cur,rfl,_,q3,_⟩
 ·cases hj
 ·have e1:b=j:=Option.some.inj hj
  rw[← e1]
  exact (Array.getElem?_eq_some_iff.1 q3).1
def outU (p:Nat) (A AN B BN:Int) (Y:Except (Nat × Int) (List Mk × Nat × List (List UInt8))):Except (Nat × Int) (Hk × Nat × List (List UInt8)) :=
 match Y with
 | .error e=>.error e
 | .ok (l,p1,r1)=>if smB l=true then .error (p+1,50) else .ok (⟨A,AN,B,BN,l⟩,p1,r1)
def HkY (R:Nat) (vL:Value) (X:Except (Nat × Int) (Hk × Nat × List (List UInt8))) (w:World) (e:Ending) (w':World):Prop :=
 match X with
 | .error (a,z)=>Thr (a:Int) z e w'∧w.grownBy w' (some R)
 | .ok (h,p1,_)=>∃ v',e=.returned (hkV h v')∧w'.ownsRow w.heap.size 47 2 v' h.ls.length (mkcells h.ls)∧Uk w' R vL (p1:Int)∧w.grownBy w' (some R)
theorem Zlp (m:Mk) (w:World):Calls Tryz.prog 246 #[.agg #[.int .u8 m.sg,.string ⟨m.tx.toArray⟩]] w fun e w'=>e=.returned (.bool (m.sg != 32))∧Below w.heap.size w w':=by
 have hBl:Below w.heap.size w (w.alloc (.cells #[.int .u8 m.sg,.string ⟨m.tx.toArray⟩] 47)):=(Below.refl _ w).alloc (Nat.le_refl _) _
 go_enter Tryz.func246,Tryz.ntmps246
 go_wp2
 go_ret
 exact⟨rfl,hBl⟩
theorem Zau (l:List Mk):(l.any fun m=>m.sg != 32)=!smB l:=by
 unfold smB
 induction l with
 | nil=>rfl
 | cons m l ih =>
  rw[List.any_cons,List.all_cons,ih]
  by_cases h:m.sg=32
  ·simp[h]
  ·simp[h]
end

section
open Go.RowKit Go.Proofs.YtcniomgjikienaaGreatDoor.Tx
attribute [local go_sem] ByteArray.extract_mk Zhc
theorem Zlo {R:Nat} {L:List (List UInt8)} {lo:Option Addr} {lc:Nat} {p k:Nat} (hk:k≤4096) (w:World) (q:Uk w R (.slice lo L.length lc) p) (HLs:Hid (∀ u,w.grownBy u (some R)→HS u (.slice lo L.length lc) L)) (HPl:Hid (Plain L)) (hp:p≤L.length) (hLl:L.length≤137438953472) (HSl:Hid (∀ s∈L,s.length≤1099511627)) (hm:Mxl w)
  (X:Except (Nat × Int) (Hk × Nat × List (List UInt8))) (HX:Hid (uhkP k p (L.drop p)=X)) :
  Calls Tryz.prog 206 #[.pointer (some ⟨R,0,none⟩),.int .i64 (k:Int)] w fun e w'=>HkY R (.slice lo L.length lc) X w e w':=by
 have hRl:=q.lt
 obtain⟨W0,hW0⟩:∃ u,w.alloc (hkO zhk (.slice none 0 0))=u:=⟨_,rfl⟩
 have hB0:Below w.heap.size w W0:=(by rw[← hW0];exact (Below.refl _ w).alloc (Nat.le_refl _) _)
 have hx0:Hx W0 w.heap.size zhk (.slice none 0 0):=(by rw[← hW0];exact Hx.new w _ _)
 have q0:=q.low hB0
 have hm0:=hm.low hB0
 have HG0:Hid (∀ u,W0.grownBy u (some R)→w.grownBy u (some R)):=fun u hu=>ZdT (ZfO hB0 _) hu
 have HL0:Hid (∀ u,W0.grownBy u (some R)→HS u (.slice lo L.length lc) L):=fun u hu=>HLs.out u (HG0.out u hu)
 obtain⟨Y,hY⟩:∃ Y,uheadP k p (L.drop p)=Y:=⟨_,rfl⟩
 have hl:=Zlf hk W0 q0 HL0 hp (by omega) HSl hm0 Y hY
 have hX:=HX.out
 rw[Zlg,hY] at hX
 clear HX hm hm0
 unfold hkO zhk at hW0
 dsimp only at hW0
 cases Y with
 | error z =>
  obtain⟨z1,e1⟩:=z
  dsimp only at hX
  subst hX
  go_enter Tryz.func206,Tryz.ntmps206
  go_wp2_with fail
  refine hl.mono ?_
  rintro x w1 ⟨⟨g,rfl,hg⟩,hgr⟩
  go_wp2
  exact⟨rfl,⟨_,rfl,hg⟩,HG0.out _ hgr⟩
 | ok z =>
  obtain⟨⟨A,AN,B,BN⟩,r⟩:=z
  dsimp only at hX
  have hd:0≤AN∧AN≤2147483647∧0≤BN∧BN≤2147483647∧r=L.drop (p+1)∧p<L.length:=(by
   unfold uheadP at hY
   cases hn:nxt p (L.drop p) with
   | error e=>rw[hn] at hY;cases hY
   | ok z =>
    obtain⟨s,r0⟩:=z
    obtain⟨h1,h2,_⟩:=Zhr hn
    rw[hn] at hY
    dsimp only at hY
    cases hu:uhdP s with
    | none=>rw[hu] at hY;cases hY
    | some z =>
     obtain⟨A',AN',B',BN'⟩:=z
     rw[hu] at hY
     dsimp only at hY
     obtain⟨u1,u2⟩:=Zle hu
     split at hY
     ·cases hY
     ·split at hY
      ·cases hY
      ·cases hY
       exact⟨by omega,by omega,by omega,by omega,h1,h2⟩)
  obtain⟨d1,d2,d3,d4,rfl,hpl⟩:=hd
  obtain⟨a,rfl⟩:∃ a:Nat,AN=a:=⟨AN.toNat,by omega⟩
  obtain⟨b,rfl⟩:∃ b:Nat,BN=b:=⟨BN.toNat,by omega⟩
  simp only[Int.toNat_natCast] at hX
  obtain⟨Y2,hY2⟩:∃ Y2,urdP (a+b) a b (p+1) (L.drop (p+1))=Y2:=⟨_,rfl⟩
  rw[hY2] at hX
  have hl2:Calls Tryz.prog 243 #[.pointer (some ⟨R,0,none⟩),.int .i64 (k:Int)] W0 fun e w'=>e=.returned (.agg #[.int .i64 A,.int .i64 (a:Int),.int .i64 B,.int .i64 (b:Int),.slice none 0 0])∧Uk w' R (.slice lo L.length lc) ((p+1:Nat):Int)∧W0.grownBy w' (some R):=hl
  clear hl hY
  go_enter Tryz.func206,Tryz.ntmps206
  go_wp2_with fail
  refine hl2.mono ?_
  rintro e W1 ⟨rfl,q1,g1⟩
  have gw1:=HG0.out _ g1
  have hx1:=hx0.keep g1 (fun e=>by have:=Option.some.inj e;omega)
  have hsz1:=hx1.lt
  clear hW0 hB0 hx0 q0 hl2 HL0 HG0 g1
  have hU3:Uz w R W1.heap.size (W1.heap.size+1) (.slice lo L.length lc) A (a:Int) B (b:Int) (.slice none 0 0) [] a b (p+1) ((W1.alloc (hkO ⟨A,(a:Int),B,(b:Int),[]⟩ (.slice none 0 0))).alloc (ctO a b)):=(by
   have hB1:Below W1.heap.size W1 (W1.alloc (hkO ⟨A,(a:Int),B,(b:Int),[]⟩ (.slice none 0 0))):=(Below.refl _ W1).alloc (Nat.le_refl _) _
   have hB2:Below W1.heap.size W1 ((W1.alloc (hkO ⟨A,(a:Int),B,(b:Int),[]⟩ (.slice none 0 0))).alloc (ctO a b)):=hB1.alloc hB1.size _
   refine⟨ZdT gw1 (ZfO hB2 _),hx1.low hB2,?_,?_,World.ownsRow_nil _ _ _ _,q1.low hB2,hsz1,by omega,hRl⟩
   ·exact (Below.heap_alloc _ _ _ (by simp)).trans (Hx.new W1 _ _)
   ·have:=heap_alloc_new (W1.alloc (hkO ⟨A,(a:Int),B,(b:Int),[]⟩ (.slice none 0 0))) (ctO a b)
    simpa using this)
  unfold hkO ctO at hU3
  dsimp only at hU3
  obtain⟨r0,r1⟩:=(q1.low ((Below.refl _ W1).alloc (Nat.le_refl _) (.cells #[.int .i64 A,.int .i64 (a:Int),.int .i64 B,.int .i64 (b:Int),.slice none 0 0] 45))).cells
  go_wp2
  have e1:((p+1:Nat):Int)=(p:Int)+1:=by omega
  have HY0:Hid (thenM [] (urdP (a+b) a b (p+1) (L.drop (p+1)))=Y2):=(by show _=_;rw[ZkN,hY2])
  have HXX:Hid (outU p A (a:Int) B (b:Int) Y2=X):=hX
  clear hX hY2 r0 r1 hx1 q1
  generalize (W1.alloc (.cells #[.int .i64 A,.int .i64 (a:Int),.int .i64 B,.int .i64 (b:Int),.slice none 0 0] 45)).alloc (.cells #[.int .i64 (a:Int),.int .i64 (b:Int)] 300)=W3 at hU3 ⊢
  generalize W1.heap.size=T at hU3 hsz1 ⊢
  go_loopw [] (fun wr=>∃ (l:List Mk) (v:Value) (a' b' pn n:Nat),Uz w R T (T+1) (.slice lo L.length lc) A (a:Int) B (b:Int) v l a' b' pn wr∧a'+b'≤n∧pn≤L.length∧a'≤2147483647∧b'≤2147483647∧l.length≤pn∧Hid (thenM l (urdP n a' b' pn (L.drop pn))=Y2)) (fun wr=>L.length-ukN wr R)
  case atStart=>exact⟨[],.slice none 0 0,a,b,p+1,a+b,hU3,Nat.le_refl _,by omega,by omega,by omega,Nat.zero_le _,HY0⟩
  case round =>
  clear HY0 hU3 gw1
  obtain⟨l,v,a',b',pn,n,hU,hn,hpn,ha',hb',hll,HI⟩:=hrel
  have HK:Hid (ukN wr R=pn):=Zlr hU.ck
  obtain⟨l0,l1,f0,f1⟩:=hU.left
  have heq:=Zci (a':Int) (b':Int) 0 0
  have hgd:Tryz.prog.eqGuardType Tryz.prog.depth 300=false:=by kernel_rfl
  by_cases h0:a'+b'=0
  ·have e2:(!((a':Int) == 0 && (b':Int) == 0))=false:=(by
    have x1:((a':Int) == 0)=true:=beq_iff_eq.2 (by omega)
    have x2:((b':Int) == 0)=true:=beq_iff_eq.2 (by omega)
    rw[x1,x2]
    rfl)
   rw[e2] at heq
   have hE:=HI.out
   rw[ZlQ n h0] at hE
   subst hE
   have hX:=HXX.out
   dsimp only[outU] at hX
   have hcc:=ZaQ 246 #[] l (fun m=>m.sg != 32) v wr (Zeo hU.own) (by omega) (enters_of Tryz.func246 (by kernel_rfl) rfl) (fun m _ u _=>Zlp m u) (!smB l) (by show _=_;exact Zau l)
   obtain⟨vo,vc,rfl⟩:=(Zeo hU.own).form
   have h4:=hU.bh.cells.2.2.2.2
   obtain⟨sm,hsm⟩:∃ z,smB l=z:=⟨_,rfl⟩
   rw[hsm] at hX hcc
   clear HXX HI hsm e2
   cases sm with
   | true =>
    rw[if_pos rfl] at hX
    subst hX
    go_wp2_with fail
    refine hcc.mono ?_
    rintro e w1 ⟨rfl,hB1⟩
    have hgr1:=hU.gr
    go_wp2_with fail
    refine (ZlX ((p:Int)+1) 50 w1).mono ?_
    rintro x w2 ⟨⟨g,rfl,hg⟩,hb⟩
    go_wp2
    exact⟨rfl,⟨_,rfl,by simpa using hg⟩,ZdT hgr1 (ZfO (hB1.trans (hb.mono hB1.size)) _)⟩
   | false =>
    rw[if_neg (by decide)] at hX
    subst hX
    go_wp2_with fail
    refine hcc.mono ?_
    rintro e w1 ⟨rfl,hB1⟩
    have hU1:=hU.keep hB1
    clear h4 l0 l1 f0 f1 heq hgd hcc hU
    obtain⟨z0,z1,z2,z3,z4⟩:=hU1.bh.cells
    dsimp only at z0 z1 z2 z3
    obtain⟨y0,y1,y2,y3,y4⟩:=hU1.bg.cells
    dsimp only[zhk] at y0 y1 y2 y3
    have yf0:=hU1.bg.frozen 0
    have yf1:=hU1.bg.frozen 1
    have yf2:=hU1.bg.frozen 2
    have yf3:=hU1.bg.frozen 3
    have yf4:=hU1.bg.frozen 4
    have hvb:(Value.slice vo l.length vc).ownBlock≠some w.heap.size:=ZhE hU1.own hU1.bg (by decide)
    have fo:(five w1 w.heap.size A (a:Int) B (b:Int) (.slice vo l.length vc)).ownsRow w.heap.size 47 2 (.slice vo l.length vc) l.length (mkcells l):=((((hU1.own.kept (ZdS _ _ 0 _) (.inr hvb)).kept (ZdS _ _ 1 _) (.inr hvb)).kept (ZdS _ _ 2 _) (.inr hvb)).kept (ZdS _ _ 3 _) (.inr hvb)).kept (ZdS _ _ 4 _) (.inr hvb)
    have fh:=Zdm hU1.bg A (a:Int) B (b:Int) (.slice vo l.length vc)
    have fq:=Zdp hU1.ck (by omega:R≠w.heap.size) A (a:Int) B (b:Int) (.slice vo l.length vc)
    have fg:=Zdl hU1.gr (Nat.le_refl _) A (a:Int) B (b:Int) (.slice vo l.length vc)
    unfold five at fo fh fq fg
    clear hU1 hB1 hvb
    go_wp2
    exact bodyPost_ret (v:=hkV ⟨A,(a:Int),B,(b:Int),l⟩ (.slice vo l.length vc)) (results_cell_row rfl _ _ w.heap.size 45 #[.int .i64 A,.int .i64 (a:Int),.int .i64 B,.int .i64 (b:Int),.slice vo l.length vc] (0,0) _ rfl fh Tryz.underlying45 rfl (by kernel_rfl)) rfl ⟨_,rfl,fo,fq,fg⟩
  ·have e2:(!((a':Int) == 0 && (b':Int) == 0))=true:=(by
    cases hq:((a':Int) == 0 && (b':Int) == 0) with
    | false=>rfl
    | true =>
     rw[Bool.and_eq_true,beq_iff_eq,beq_iff_eq] at hq
     omega)
   rw[e2] at heq
   obtain⟨n',rfl⟩:∃ n',n=n'+1:=⟨n-1,by omega⟩
   have hI:=HI.out
   rw[ZlT n' h0] at hI
   obtain⟨Z,hZ⟩:∃ Z,ulnP a' b' pn (L.drop pn)=Z:=⟨_,rfl⟩
   rw[hZ] at hI
   have hB1:Below wr.heap.size wr (wr.alloc mk0):=(Below.refl _ wr).alloc (Nat.le_refl _) _
   have hU1:=hU.keep hB1
   have hS1:=heap_alloc_new wr mk0
   have hmk:=Zlz a' b' (wr.alloc mk0) hU1.ck (fun u hu=>HLs.out u (ZdT hU1.gr hu)) HPl.out hpn (by omega) (fun s h=>by have:=HSl.out s h;omega) ha' hb' Z hZ
   have HVb:Hid (v.ownBlock≠some wr.heap.size):=(by
    intro e
    have:=ZhN hU.own e
    omega)
   obtain⟨vo,vc,rfl⟩:=(Zeo hU.own).form
   unfold mk0 at hU1 hS1 hmk
   obtain⟨j0,j1,_,_⟩:=hU1.left
   clear HI hB1 hU e2
   cases Z with
   | error z =>
    obtain⟨z1,e1'⟩:=z
    dsimp only at hI
    subst hI
    have hX:=HXX.out
    dsimp only[outU] at hX
    subst hX
    have hgr1:=hU1.gr
    clear HXX hZ
    go_wp2_with fail
    refine hmk.mono ?_
    rintro x w1 ⟨⟨g,rfl,hg⟩,hgr⟩
    go_wp2
    exact⟨rfl,⟨_,rfl,hg⟩,ZdT hgr1 hgr⟩
   | ok z =>
    obtain⟨m,p1,r⟩:=z
    dsimp only at hI
    have hdr:=Zlw HPl.out hZ
    obtain⟨rfl,t1,t2,t3,t4,t5⟩:=hdr
    have HI2:Hid (thenM (l++[m]) (urdP n' (a'-sgO m) (b'-sgN m) p1 (L.drop p1))=Y2):=hI
    have hmk2:Calls Tryz.prog 244 #[.pointer (some ⟨R,0,none⟩),.agg #[.int .i64 (a':Int),.int .i64 (b':Int)]] (wr.alloc (.cells #[.int .u8 0,.string ⟨#[]⟩] 47)) fun e w'=>e=.returned (.tuple #[.agg #[.int .u8 m.sg,.string ⟨m.tx.toArray⟩],.agg #[.int .i64 ((a'-sgO m:Nat):Int),.int .i64 ((b'-sgN m:Nat):Int)]])∧Uk w' R (.slice lo L.length lc) (p1:Int)∧(wr.alloc (.cells #[.int .u8 0,.string ⟨#[]⟩] 47)).grownBy w' (some R):=hmk
    clear hI hZ hmk HXX
    generalize ha2:a'-sgO m=a2 at hmk2 HI2
    generalize hb2:b'-sgN m=b2 at hmk2 HI2
    go_wp2_with fail
    refine hmk2.mono ?_
    rintro e w2 ⟨rfl,q2,g2⟩
    have hU2:=hU1.call g2 q2
    have hSR:wr.heap.size≠R:=(by have:=hU1.rl;have:=hU1.gr.size;have:=hU1.cl;have:=hU1.tl;have:=(Array.getElem?_eq_some_iff.1 hU1.bl).1;simp at this;omega)
    have hS2:=(g2.block wr.heap.size (Array.getElem?_eq_some_iff.1 hS1).1 (fun e=>hSR (Option.some.inj e))).trans hS1
    have hCS:T+1<wr.heap.size:=(by
     have h1:=(Array.getElem?_eq_some_iff.1 hU1.bl).1
     have h2:T+1≠wr.heap.size:=(by
      intro e
      have h3:=hU1.bl
      rw[e,hS1] at h3
      simp[ctO] at h3)
     simp at h1
     omega)
    clear hU1 hS1 g2 q2 hmk2
    generalize wr.heap.size=S at *
    obtain⟨y0,y1⟩:w2.cell? ⟨S,0,none⟩=some (.int .u8 0)∧w2.cell? ⟨S,1,none⟩=some (.string ⟨#[]⟩):=⟨by rw[Lib.cell_of_heap hS2];rfl,by rw[Lib.cell_of_heap hS2];rfl⟩
    have yf0:w2.frozen? ⟨S,0,none⟩=false:=Lib.frozen_of_heap hS2 0
    have yf1:w2.frozen? ⟨S,1,none⟩=false:=Lib.frozen_of_heap hS2 1
    have hU3:=hU2.other hS2 (.inr HVb.out) hCS 0 (.int .u8 m.sg)
    have hS3:=heap_setCell_same _ S 0 _ _ (.int .u8 m.sg) hS2
    have hU4:=hU3.other hS3 (.inr HVb.out) hCS 1 (.string ⟨m.tx.toArray⟩)
    have hS4:=heap_setCell_same _ S 1 _ _ (.string ⟨m.tx.toArray⟩) hS3
    obtain⟨l0',l1',f0',f1'⟩:=hU4.left
    have hU5:=(hU4.setA a2).setB b2
    have hS5:((((w2.setCell ⟨S,0,none⟩ (.int .u8 m.sg)).setCell ⟨S,1,none⟩ (.string ⟨m.tx.toArray⟩)).setCell ⟨T+1,0,none⟩ (.int .i64 (a2:Int))).setCell ⟨T+1,1,none⟩ (.int .i64 (b2:Int))).heap[S]?=some (.cells #[.int .u8 m.sg,.string ⟨m.tx.toArray⟩] 47):=(Below.heap_setCell _ _ _ S (show S≠T+1 by omega)).trans ((Below.heap_setCell _ _ _ S (show S≠T+1 by omega)).trans hS4)
    go_upto_region 7 with fail
    clear hU2 hU3 hU4 hS2 hS3 hS4 y0 y1 yf0 yf1 l0' l1' f0' f1' l0 l1 f0 f1 j0 j1 heq hgd
    generalize (((w2.setCell ⟨S,0,none⟩ (.int .u8 m.sg)).setCell ⟨S,1,none⟩ (.string ⟨m.tx.toArray⟩)).setCell ⟨T+1,0,none⟩ (.int .i64 (a2:Int))).setCell ⟨T+1,1,none⟩ (.int .i64 (b2:Int))=W5 at hU5 hS5 ⊢
    have s0:W5.cell? ⟨S,0,none⟩=some (.int .u8 m.sg):=(by rw[Lib.cell_of_heap hS5];rfl)
    have s1:W5.cell? ⟨S,1,none⟩=some (.string ⟨m.tx.toArray⟩):=(by rw[Lib.cell_of_heap hS5];rfl)
    have h4:=hU5.bh.cells.2.2.2.2
    have hU6:=hU5.keep ((Below.refl _ W5).alloc (Nat.le_refl _) (mkO m))
    have hrow:=Zgj W5 m
    have hown6:=hU6.own
    have hlow6:=hU6.gr.size
    have hW:W5.alloc (.cells #[.int .u8 m.sg,.string ⟨m.tx.toArray⟩] 47)=W5.alloc (mkO m):=rfl
    clear hU5 hS5
    go_wp2_with (at_builtin;refine Zmi _ (by kernel_rfl) (.tmp 31) (.tmp 33) 43 47 (.agg #[.int .u8 0,.string ⟨#[]⟩]) 2 24 rfl Tryz.underlying43 infoMk rfl (by decide) (by decide) w.heap.size _ _ _ rfl hown6 _ 1 (mkcells [m]) rfl hrow (Zgo _) (Zgp _) (by omega) hlow6 ?_)
    intro v3 u3 hown3 hg3 _
    obtain⟨hU7,x1,x2⟩:=hU6.more hg3 hown3
    obtain⟨o3,c3,rfl⟩:=(Zeo hown3).form
    clear hW hrow hown6 hown3 hg3 hU6 s0 s1 h4
    go_wp2
    refine⟨⟨l++[m],_,a2,b2,p1,n',hU7,by omega,t2,by omega,by omega,by rw[List.length_append];simp only[List.length_cons,List.length_nil];omega,HI2⟩,?_⟩
    rw[Zlr hU7.ck,HK.out]
    omega
end

section
open Go.RowKit
theorem Zlh {k p:Nat} {L r:List (List UInt8)} {h:Hk} {p1:Nat} (hP:Plain L) (hh:uhkP k p (L.drop p)=.ok (h,p1,r)):r=L.drop p1∧p<p1∧p1≤L.length∧k<4096:=by
 have hP2:Plain (L.drop p):=fun s hs=>hP s (List.mem_of_mem_drop hs)
 obtain⟨_,_,a3,a4,a5⟩:=Zli hP2 hh
 rw[List.length_drop] at a3 a4
 have key:∀ (n a b q:Nat) (l:List Mk) (q1:Nat) (r1:List (List UInt8)),urdP n a b q (L.drop q)=.ok (l,q1,r1)→r1=L.drop q1:=by
  intro n
  induction n with
  | zero =>
   intro a b q l q1 r1 h
   simp only[urdP] at h
   cases h
   rfl
  | succ n ih =>
   intro a b q l q1 r1 h
   simp only[urdP] at h
   split at h
   ·cases h
    rfl
   ·split at h
    ·cases h
    ·rename_i m q2 r2 h2
     obtain⟨e,_⟩:=Zlw hP h2
     subst e
     split at h
     ·cases h
     ·rename_i l3 q3 r3 h3
      have:=ih _ _ _ _ _ _ h3
      cases h
      exact this
 refine⟨?_,by omega,by omega,a5⟩
 unfold uhkP at hh
 split at hh
 ·cases hh
 ·rename_i s r0 hn
  obtain⟨e,_⟩:=Zhr hn
  subst e
  split at hh
  ·cases hh
  ·split at hh
   ·cases hh
   ·split at hh
    ·cases hh
    ·split at hh
     ·cases hh
     ·rename_i l q1 r1 h1
      have:=key _ _ _ _ _ _ _ h1
      split at hh
      ·cases hh
      ·cases hh
       exact this
def conU (f k p:Nat) (r:List (List UInt8)):Except (Nat × Int) (List Hk × Nat × List (List UInt8)):=if pkU atC r=true then uhsP atC f k p r else .ok ([],p,r)
theorem Zln (f k p:Nat) (ls:List (List UInt8)) (l:List Hk):thenX l (uhsP atC (f+1) k p ls)=match uhkP k p ls with
  | .error e=>.error e
  | .ok (h,p1,r)=>thenX (l++[h]) (conU f (k+1) p1 r):=by
 simp only[uhsP]
 cases uhkP k p ls with
 | error e=>rfl
 | ok z =>
  obtain⟨h,p1,r⟩:=z
  dsimp only
  unfold conU
  split
  ·cases uhsP atC f (k+1) p1 r with
   | error e=>rfl
   | ok z=>simp[thenX]
  ·simp[thenX]
def lefU (P:List (Hk × Value)) (f p:Nat) (r:List (List UInt8)):Except (Nat × Int) (List Hk × Nat × List (List UInt8)):=thenX (P.map (·.1)) (if P=[] then uhsP atC f 0 p r else conU f P.length p r)
def patU (k p:Nat) (ls:List (List UInt8)):Except (Nat × Int) (Pth × Nat × List (List UInt8)) :=
 match namP [45,45,45,32] p ls with
 | .error e=>.error e
 | .ok (n1,r1)=>if 64≤k then .error (p+1,9) else match namP [43,43,43,32] (p+1) r1 with
  | .error e=>.error e
  | .ok (n2,r2)=>match uhsP atC (r2.length+1) 0 (p+2) r2 with
   | .error e=>.error e
   | .ok (hs,p3,r3)=>.ok (⟨n1,n2,hs⟩,p3,r3)
theorem ZlK (f k p:Nat) (ls:List (List UInt8)):upsP atC (f+1) k p ls=if ls=[] then .ok [] else match patU k p ls with
  | .error e=>.error e
  | .ok (x,p3,r3)=>match upsP atC f (k+1) p3 r3 with
   | .error e=>.error e
   | .ok l=>.ok (x::l):=by
 simp only[upsP]
 split
 ·rfl
 ·unfold patU
  cases namP [45,45,45,32] p ls with
  | error e=>rfl
  | ok z =>
   obtain⟨n1,r1⟩:=z
   dsimp only
   split
   ·rfl
   ·cases namP [43,43,43,32] (p+1) r1 with
    | error e=>rfl
    | ok z =>
     obtain⟨n2,r2⟩:=z
     dsimp only
     cases uhsP atC (r2.length+1) 0 (p+2) r2 with
     | error e=>rfl
     | ok z=>rfl
structure Pzu (wb:World) (R S:Nat) (vL:Value) (n1 n2:List UInt8) (hv:Value) (P:List (Hk × Value)) (p:Nat) (u:World):Prop where
 gr:wb.grownBy u (some R)
 box:u.heap[S]?=some (.cells #[.string ⟨n1.toArray⟩,.string ⟨n2.toArray⟩,hv] 42)
 own:u.ownsRow wb.heap.size 45 5 hv P.length (hkcells P)
 ins:∀ x∈P,u.ownsRow wb.heap.size 47 2 x.2 x.1.ls.length (mkcells x.1.ls)
 ck:Uk u R vL (p:Int)
 ge:wb.heap.size≤S
 rl:R<wb.heap.size
section
variable {wb u u':World} {R S:Nat} {vL hv:Value} {n1 n2:List UInt8} {P:List (Hk × Value)} {p p':Nat}
theorem Pzu.keep (h:Pzu wb R S vL n1 n2 hv P p u) (hb:Below u.heap.size u u'):Pzu wb R S vL n1 n2 hv P p u':=⟨ZdT h.gr (ZfO hb _),(hb.block S (Array.getElem?_eq_some_iff.1 h.box).1).trans h.box,ZhK h.own hb,fun x hx=>ZhK (h.ins x hx) hb,h.ck.low hb,h.ge,h.rl⟩
theorem Pzu.ne (h:Pzu wb R S vL n1 n2 hv P p u):R≠S:=by have h1:=h.ge;have h2:=h.rl;omega
theorem Pzu.call (h:Pzu wb R S vL n1 n2 hv P p u) (hg:u.grownBy u' (some R)) (q:Uk u' R vL (p':Int)):Pzu wb R S vL n1 n2 hv P p' u':=⟨ZdT h.gr hg,(hg.block S (Array.getElem?_eq_some_iff.1 h.box).1 (fun e=>h.ne (Option.some.inj e).symm)).trans h.box,ZhI h.own hg h.rl,fun x hx=>ZhI (h.ins x hx) hg h.rl,q,h.ge,h.rl⟩
theorem Pzu.next (h:Pzu wb R S vL n1 n2 hv P p u):Pzu wb R S vL n1 n2 hv P (p+1) (u.setCell ⟨R,1,none⟩ (.int .i64 ((p:Int)+1))):=h.call (ZdS u R 1 _) (by have:=h.ck.at ((p:Int)+1);simpa using this)
theorem Pzu.cells (h:Pzu wb R S vL n1 n2 hv P p u):u.cell? ⟨S,0,none⟩=some (.string ⟨n1.toArray⟩)∧u.cell? ⟨S,1,none⟩=some (.string ⟨n2.toArray⟩)∧u.cell? ⟨S,2,none⟩=some hv:=by
 refine⟨?_,?_,?_⟩<;>rw[Lib.cell_of_heap h.box]<;>rfl
theorem Pzu.frozen (h:Pzu wb R S vL n1 n2 hv P p u) (j:Nat):u.frozen? ⟨S,j,none⟩=false:=Lib.frozen_of_heap h.box j
theorem Pzu.put (h:Pzu wb R S vL n1 n2 hv P p u) (j:Nat) (z:Value) {m1 m2:List UInt8} {hv':Value} (hc:#[Value.string ⟨n1.toArray⟩,.string ⟨n2.toArray⟩,hv].setIfInBounds j z=#[.string ⟨m1.toArray⟩,.string ⟨m2.toArray⟩,hv']) (ho:u.ownsRow wb.heap.size 45 5 hv' P.length (hkcells P)):Pzu wb R S vL m1 m2 hv' P p (u.setCell ⟨S,j,none⟩ z):=by
 have hg:=ZdS u S j z
 refine⟨ZdR h.gr h.ge j z,?_,ho.kept hg (.inr (ZhE ho h.box (by decide))),fun x hx=>(h.ins x hx).kept hg (.inr (ZhE (h.ins x hx) h.box (by decide))),h.ck.keep hg (fun e=>h.ne (Option.some.inj e)),h.ge,h.rl⟩
 have:=heap_setCell_same u S j _ _ z h.box
 rw[hc] at this
 exact this
theorem Pzu.more (h:Pzu wb R S vL n1 n2 hv P p u) {x:Hk} {y hv':Value} (hy:u.ownsRow wb.heap.size 47 2 y x.ls.length (mkcells x.ls)) (hg:u.grownBy u' hv.ownBlock) (ho:u'.ownsRow wb.heap.size 45 5 hv' (P.length+1) (hkcells P++hkC x y)) :
  Pzu wb R S vL n1 n2 hv' (P++[(x,y)]) p (u'.setCell ⟨S,2,none⟩ hv')∧u'.cell? ⟨S,2,none⟩=some hv∧u'.frozen? ⟨S,2,none⟩=false:=by
 have hge:∀ j,hv.ownBlock=some j→wb.heap.size≤j:=fun j hj=>ZhJ h.own hj
 have hb:u'.heap[S]?=some (.cells #[.string ⟨n1.toArray⟩,.string ⟨n2.toArray⟩,hv] 42):=(hg.block S (Array.getElem?_eq_some_iff.1 h.box).1 (fun e=>ZhE h.own h.box (by decide) e.symm)).trans h.box
 have hgR:wb.grownBy u' (some R):=⟨hg.os.trans h.gr.os,hg.tape.trans h.gr.tape,hg.output.trans h.gr.output,Nat.le_trans h.gr.size hg.size,fun k h1 h2=>(hg.block k (Nat.lt_of_lt_of_le h1 h.gr.size) (fun e=>by have:=hge k e.symm;omega)).trans (h.gr.block k h1 h2)⟩
 have hck:Uk u' R vL (p:Int):=h.ck.keep hg (fun e=>by have:=hge R e.symm;have:=h.rl;omega)
 have key:∀ {v:Value} {n:Nat} {xs:List Value},u.ownsRow wb.heap.size 47 2 v n xs→u'.ownsRow wb.heap.size 47 2 v n xs:=by
  intro v n xs hv2
  refine⟨hv2.1,?_⟩
  rcases hv2.2 with q | ⟨b,cap,cur,rfl,q2,q3,q4⟩
  ·exact .inl q
  ·refine .inr ⟨b,cap,cur,rfl,q2,?_,q4⟩
   rw[hg.block b (Array.getElem?_eq_some_iff.1 q3).1 (fun e=>ZhE h.own q3 (by decide) e.symm)]
   exact q3
 have hg2:=ZdS u' S 2 hv'
 have hkc:hkcells (P++[(x,y)])=hkcells P++hkC x y:=by rw[Zeh];simp[hkcells,hkC]
 refine⟨⟨ZdR hgR h.ge 2 hv',heap_setCell_same u' S 2 _ _ hv' hb,?_,?_,hck.keep hg2 (fun e=>h.ne (Option.some.inj e)),h.ge,h.rl⟩,by rw[Lib.cell_of_heap hb];rfl,Lib.frozen_of_heap hb 2⟩
 ·rw[List.length_append,hkc]
  exact ho.kept hg2 (.inr (ZhE ho hb (by decide)))
 ·intro z hz
  rcases List.mem_append.1 hz with hz | hz
  ·exact (key (h.ins z hz)).kept hg2 (.inr (ZhE (key (h.ins z hz)) hb (by decide)))
  ·rw[List.mem_singleton.1 hz]
   exact (key hy).kept hg2 (.inr (ZhE (key hy) hb (by decide)))
end
end

section
open Go.RowKit Go.Proofs.YtcniomgjikienaaGreatDoor.Tx
attribute [local go_sem] ByteArray.extract_mk Zhc
structure Uy (w:World) (R T:Nat) (vL:Value) (A AN B BN:Int) (v:Value) (l:List Mk) (st:Except (Nat × Int) Nat) (u:World):Prop where
 gr:w.grownBy u (some R)
 bg:Hx u w.heap.size zhk (.slice none 0 0)
 bh:Hx u T ⟨A,AN,B,BN,l⟩ v
 own:u.ownsRow w.heap.size 47 2 v l.length (mkcells l)
 rd:RdZ u R vL st
 tl:w.heap.size<T
 rl:R<w.heap.size
section
variable {w u u':World} {R T:Nat} {vL v:Value} {A AN B BN:Int} {l:List Mk} {st st':Except (Nat × Int) Nat}
theorem Uy.keep (h:Uy w R T vL A AN B BN v l st u) (hb:Below u.heap.size u u'):Uy w R T vL A AN B BN v l st u' :=
 ⟨ZdT h.gr (ZfO hb _),h.bg.low hb,h.bh.low hb,ZhK h.own hb,h.rd.low hb,h.tl,h.rl⟩
theorem Uy.call (h:Uy w R T vL A AN B BN v l st u) (hg:u.grownBy u' (some R)) (q:RdZ u' R vL st'):Uy w R T vL A AN B BN v l st' u':=by
 have h1:=h.tl
 have h3:=h.rl
 exact⟨ZdT h.gr hg,h.bg.keep hg (fun e=>by have:=Option.some.inj e;omega),h.bh.keep hg (fun e=>by have:=Option.some.inj e;omega),ZhI h.own hg h.rl,q,h.tl,h.rl⟩
theorem Uy.other (h:Uy w R T vL A AN B BN v l st u) {S:Nat} (ht:v.ownBlock≠some S) (h0:T<S) (j:Nat) (z:Value):Uy w R T vL A AN B BN v l st (u.setCell ⟨S,j,none⟩ z):=by
 have h1:=h.tl
 have h3:=h.rl
 have hg:=ZdS u S j z
 exact⟨ZdR h.gr (by omega) j z,h.bg.keep hg (fun e=>by have:=Option.some.inj e;omega),h.bh.keep hg (fun e=>by have:=Option.some.inj e;omega),h.own.kept hg (.inr ht),h.rd.off hg (fun e=>by have:=Option.some.inj e;omega),h.tl,h.rl⟩
theorem Uy.more (h:Uy w R T vL A AN B BN v l st u) {m:Mk} {v':Value} (hg:u.grownBy u' v.ownBlock) (ho:u'.ownsRow w.heap.size 47 2 v' (l.length+1) (mkcells l++mkcells [m])) :
  Uy w R T vL A AN B BN v' (l++[m]) st (u'.setCell ⟨T,4,none⟩ v')∧u'.cell? ⟨T,4,none⟩=some v∧u'.frozen? ⟨T,4,none⟩=false:=by
 have h1:=h.tl
 have h3:=h.rl
 have hge:∀ j,v.ownBlock=some j→w.heap.size≤j:=fun j hj=>ZhJ h.own hj
 have kb:∀ (i:Nat) (cs:Array Value) (t:TypeId),47≠t→u.heap[i]?=some (.cells cs t)→u'.heap[i]?=some (.cells cs t):=fun i cs t ht hi=>(hg.block i (Array.getElem?_eq_some_iff.1 hi).1 (fun e=>ZhE h.own hi ht e.symm)).trans hi
 have bh:Hx u' T ⟨A,AN,B,BN,l⟩ v:=kb _ _ _ (by decide) h.bh
 have bg:Hx u' w.heap.size zhk (.slice none 0 0):=kb _ _ _ (by decide) h.bg
 have hgR:w.grownBy u' (some R):=⟨hg.os.trans h.gr.os,hg.tape.trans h.gr.tape,hg.output.trans h.gr.output,Nat.le_trans h.gr.size hg.size,fun k h1 h2=>(hg.block k (Nat.lt_of_lt_of_le h1 h.gr.size) (fun e=>by have:=hge k e.symm;omega)).trans (h.gr.block k h1 h2)⟩
 have hck:RdZ u' R vL st:=h.rd.off hg (fun e=>by have:=hge R e.symm;omega)
 have hg2:=ZdS u' T 4 v'
 refine⟨⟨ZdR hgR (by omega) 4 v',bg.keep hg2 (fun e=>by have:=Option.some.inj e;omega),heap_setCell_same u' T 4 _ _ v' bh,?_,hck.off hg2 (fun e=>by have:=Option.some.inj e;omega),h.tl,h.rl⟩,bh.cells.2.2.2.2,bh.frozen 4⟩
 rw[Zgl,List.length_append]
 exact ho.kept hg2 (.inr (ZhE ho bh (by decide)))
theorem Uy.fin (h:Uy w R T vL A AN B BN v l st u):(five u w.heap.size A AN B BN v).heap[w.heap.size]?=some (.cells #[.int .i64 A,.int .i64 AN,.int .i64 B,.int .i64 BN,v] 45 (0,0))∧(five u w.heap.size A AN B BN v).ownsRow w.heap.size 47 2 v l.length (mkcells l)∧RdZ (five u w.heap.size A AN B BN v) R vL st∧w.grownBy (five u w.heap.size A AN B BN v) (some R):=by
 have h3:=h.rl
 have hvb:v.ownBlock≠some w.heap.size:=ZhE h.own h.bg (by decide)
 have hR:∀ {u:World} (q:RdZ u R vL st) (j:Nat) (z:Value),RdZ (u.setCell ⟨w.heap.size,j,none⟩ z) R vL st:=fun q j z=>q.off (ZdS _ _ j z) (fun e=>by have:=Option.some.inj e;omega)
 exact⟨Zdm h.bg A AN B BN v,((((h.own.kept (ZdS _ _ 0 _) (.inr hvb)).kept (ZdS _ _ 1 _) (.inr hvb)).kept (ZdS _ _ 2 _) (.inr hvb)).kept (ZdS _ _ 3 _) (.inr hvb)).kept (ZdS _ _ 4 _) (.inr hvb),hR (hR (hR (hR (hR h.rd 0 _) 1 _) 2 _) 3 _) 4 _,Zdl h.gr (Nat.le_refl _) A AN B BN v⟩
end
end

end Go.Proofs.YtcniomgjikienaaGreatDoor

namespace Go.Proofs.YtcniomgjikienaaGreatDoor.Es

section
open Go.RowKit Go.Extern.Stop Go.Stop Go.Extern
theorem mKind (h : Value) (w : World) : (Go.method 524 157 (.agg #[h]) "Kind").run Tryz.prog w = .ok (390, h) w := by kernel_rfl
theorem mElem (h : Value) (w : World) : (Go.method 524 157 (.agg #[h]) "Elem").run Tryz.prog w = .ok (403, .agg #[h]) w := by kernel_rfl
theorem mImplements (h : Value) (w : World) : (Go.method 524 157 (.agg #[h]) "Implements").run Tryz.prog w = .ok (404, .agg #[h]) w := by kernel_rfl
theorem mAssignableTo (h : Value) (w : World) : (Go.method 524 157 (.agg #[h]) "AssignableTo").run Tryz.prog w = .ok (401, .agg #[h]) w := by kernel_rfl
theorem Ef.valueOfP (t:Addr) (w:World):(ReflectliteValue.unpack (.iface 75 (.pointer (some t)))).run Tryz.prog w
  = .ok (.agg #[.pointer (some ⟨7,75,none⟩),.pointer (some ⟨w.heap.size,0,none⟩),.int .u64 150]) (w.alloc (.cells #[.pointer (some t)] 75)):=by kernel_rfl
theorem Ef.typeP (a : Addr) (w : World) : (ReflectliteValue.methodAny (ReflectliteValue.valueError "reflectlite.Value.Type" 0) (fun t _ _ _ => ReflectliteType.toType t) #[.agg #[.pointer (some ⟨7, 75, none⟩), .pointer (some a), .int .u64 150]]).run Tryz.prog w
  = .ok (.iface 157 (.agg #[.pointer (some ⟨7,75,none⟩)])) w:=by kernel_rfl
theorem Ef.kindP (w:World):((ReflectliteType.abiMethod fun t=>Functor.map (fun a:Nat=>Value.int IntKind.u8 (a:Int)) (Rtype.kind t)) #[.pointer (some ⟨7,75,none⟩)]).run Tryz.prog w=.ok (.int .u8 22) w:=by kernel_rfl
theorem Ef.kindE (w:World):((ReflectliteType.abiMethod fun t=>Functor.map (fun a:Nat=>Value.int IntKind.u8 (a:Int)) (Rtype.kind t)) #[.pointer (some ⟨7,62,none⟩)]).run Tryz.prog w=.ok (.int .u8 22) w:=by kernel_rfl
theorem Ef.partsP (a:Addr) (w:World):(ReflectliteValue.parts (.agg #[.pointer (some ⟨7,75,none⟩),.pointer (some a),.int .u64 150])).run Tryz.prog w=.ok (some (75,a,150)) w:=by kernel_rfl
theorem Ef.isNilP (a p:Addr) (W:World) (ha:W.cell? a=some (.pointer (some p))) :
  (ReflectliteValue.method (ReflectliteValue.valueError "reflectlite.Value.IsNil" 0) ReflectliteValue.isNil #[.agg #[.pointer (some ⟨7, 75, none⟩), .pointer (some a), .int .u64 150]]).run Tryz.prog W = .ok (.bool false) W := by
 show Sem.run Tryz.prog (ReflectliteValue.parts (.agg #[.pointer (some ⟨7,75,none⟩),.pointer (some a),.int .u64 150]) >>= _) W=_
 simp only[Sem.run_bind,Ef.partsP,Result.andThen]
 simp[ReflectliteValue.isNil,loadVar,isAgg,underlying,Tryz.underlying75,ha,Result.andThen]
theorem Ef.elemP (w:World):(ReflectliteType.method ReflectliteType.elem #[.agg #[.pointer (some ⟨7,75,none⟩)]]).run Tryz.prog w=.ok (.iface 157 (.agg #[.pointer (some ⟨7,62,none⟩)])) w:=by kernel_rfl
theorem Ef.implementsE (w : World) : (ReflectliteType.relation "Implements" ReflectliteType.implements_ #[.agg #[.pointer (some ⟨7, 62, none⟩)], .iface 157 (.agg #[.pointer (some ⟨7, 24, none⟩)])]).run Tryz.prog w = .ok (.bool true) w := by kernel_rfl
theorem Ef.typeOfE (v:Value) (w:World):(ReflectliteType.typeOf #[.iface 62 v]).run Tryz.prog w=.ok (.iface 157 (.agg #[.pointer (some ⟨7,62,none⟩)])) w:=by kernel_rfl
theorem Ef.assignableE (w : World) : (ReflectliteType.relation "AssignableTo" ReflectliteType.assignableTo #[.agg #[.pointer (some ⟨7, 62, none⟩)], .iface 157 (.agg #[.pointer (some ⟨7, 62, none⟩)])]).run Tryz.prog w = .ok (.bool true) w := by kernel_rfl
theorem Ef.valueOfE (e:Addr) (w:World):(ReflectliteValue.unpack (.iface 62 (.pointer (some e)))).run Tryz.prog w
  = .ok (.agg #[.pointer (some ⟨7,62,none⟩),.pointer (some ⟨w.heap.size,0,none⟩),.int .u64 150]) (w.alloc (.cells #[.pointer (some e)] 62)):=by kernel_rfl
theorem Ef.elemOfP (w:World):(Rtype.elem? 75).run Tryz.prog w=.ok (some 62) w:=by kernel_rfl
theorem Ef.mkE (p:Addr) (w:World):(ReflectliteValue.mk 62 p ReflectliteValue.flagAddr).run Tryz.prog w=.ok (.agg #[.pointer (some ⟨7,62,none⟩),.pointer (some p),.int .u64 406]) w:=by kernel_rfl
theorem Ef.elemVP (a p:Addr) (W:World) (ha:W.cell? a=some (.pointer (some p))) :
  (ReflectliteValue.method (ReflectliteValue.valueError "reflectlite.Value.Elem" 0) ReflectliteValue.elem #[.agg #[.pointer (some ⟨7, 75, none⟩), .pointer (some a), .int .u64 150]]).run Tryz.prog W
   = .ok (.agg #[.pointer (some ⟨7,62,none⟩),.pointer (some p),.int .u64 406]) W:=by
 show Sem.run Tryz.prog (ReflectliteValue.parts (.agg #[.pointer (some ⟨7,75,none⟩),.pointer (some a),.int .u64 150]) >>= _) W=_
 simp only[Sem.run_bind,Ef.partsP,Result.andThen]
 simp[ReflectliteValue.elem,loadVar,isAgg,underlying,Tryz.underlying75,ha,Result.andThen,Ef.elemOfP,Ef.mkE]
theorem Ef.partsEa (a:Addr) (w:World):(ReflectliteValue.parts (.agg #[.pointer (some ⟨7,62,none⟩),.pointer (some a),.int .u64 406])).run Tryz.prog w=.ok (some (62,a,406)) w:=by kernel_rfl
theorem Ef.partsE (a:Addr) (w:World):(ReflectliteValue.parts (.agg #[.pointer (some ⟨7,62,none⟩),.pointer (some a),.int .u64 150])).run Tryz.prog w=.ok (some (62,a,150)) w:=by kernel_rfl
theorem Ef.directE (w:World):(Rtype.directlyAssignable 62 62).run Tryz.prog w=.ok true w:=by kernel_rfl
theorem Ef.setE (ta b:Addr) (e:Addr) (old:Value) (W:World) (hb:W.cell? b=some (.pointer (some e))) (ht:W.cell? ta=some old) (hf:W.frozen? ta=false) :
  (ReflectliteValue.set #[.agg #[.pointer (some ⟨7,62,none⟩),.pointer (some ta),.int .u64 406],.agg #[.pointer (some ⟨7,62,none⟩),.pointer (some b),.int .u64 150]]).run Tryz.prog W
   = .ok (.tuple #[]) (W.setCell ta (.pointer (some e))):=by
 show Sem.run Tryz.prog (ReflectliteValue.parts (.agg #[.pointer (some ⟨7,62,none⟩),.pointer (some ta),.int .u64 406]) >>= fun p=>ReflectliteValue.parts (.agg #[.pointer (some ⟨7,62,none⟩),.pointer (some b),.int .u64 150]) >>= fun q=>_) W=_
 simp only[Sem.run_bind,Ef.partsEa,Ef.partsE,Result.andThen]
 simp[ReflectliteValue.flagAddr,loadVar,isAgg,underlying,Tryz.underlying62,hb,Result.andThen,Ef.directE,storeVar,Value.cells,storeCells,Addr.add]
 rw[run_store Tryz.prog W ta _ _ (by rfl)]
 simp[ht,hf]
theorem Ef.as_hit (e:Addr) (t:Addr) (old:Value) (w:World) (hg:w.cell? ⟨0,0,none⟩=some (.iface 157 (.agg #[.pointer (some ⟨7,24,none⟩)]))) (ht0:w.cell? t=some old) (hf0:w.frozen? t=false) :
  Calls Tryz.prog 28 #[.iface 62 (.pointer (some e)),.iface 75 (.pointer (some t))] w fun ev w'=>ev=.returned (.bool true)∧w'=((((w.alloc (.cells #[.pointer (some t)] 75)).alloc (.cells #[.pointer (some ⟨7,75,none⟩),.pointer (some ⟨w.heap.size,0,none⟩),.int .u64 150] 108)).alloc (.cells #[.pointer (some ⟨7,75,none⟩),.pointer (some ⟨w.heap.size,0,none⟩),.int .u64 150] 108)).alloc (.cells #[.pointer (some e)] 62)).setCell t (.pointer (some e)):=by
 have h6:=@run_callFunc_extern Tryz.prog 55 _ (fun args=>ReflectliteValue.unpack (args.getD 0 (.tuple #[]))) Tryz.func55 (by kernel_rfl) (by kernel_rfl) (by kernel_rfl) (by kernel_rfl)
 have h7 := @run_callFunc_extern Tryz.prog 56 _ (ReflectliteValue.methodAny (ReflectliteValue.valueError "reflectlite.Value.Type" 0) (fun t _ _ _ => ReflectliteType.toType t)) Tryz.func56 (by kernel_rfl) (by kernel_rfl) (by kernel_rfl) (by kernel_rfl)
 have h8 := @run_callFunc_extern Tryz.prog 57 _ (ReflectliteValue.method (ReflectliteValue.valueError "reflectlite.Value.IsNil" 0) ReflectliteValue.isNil) Tryz.func57 (by kernel_rfl) (by kernel_rfl) (by kernel_rfl) (by kernel_rfl)
 have h27:=@run_callFunc_extern Tryz.prog 390 _ (ReflectliteType.abiMethod fun t=>do pure (.int .u8 (← Rtype.kind t))) Tryz.func390 (by kernel_rfl) (by kernel_rfl) (by kernel_rfl) (by kernel_rfl)
 have h37:=@run_callFunc_extern Tryz.prog 403 _ (ReflectliteType.method ReflectliteType.elem) Tryz.func403 (by kernel_rfl) (by kernel_rfl) (by kernel_rfl) (by kernel_rfl)
 have h38 := @run_callFunc_extern Tryz.prog 404 _ (ReflectliteType.relation "Implements" ReflectliteType.implements_) Tryz.func404 (by kernel_rfl) (by kernel_rfl) (by kernel_rfl) (by kernel_rfl)
 have h10:=@run_callFunc_extern Tryz.prog 97 _ ReflectliteType.typeOf Tryz.func97 (by kernel_rfl) (by kernel_rfl) (by kernel_rfl) (by kernel_rfl)
 have h35 := @run_callFunc_extern Tryz.prog 401 _ (ReflectliteType.relation "AssignableTo" ReflectliteType.assignableTo) Tryz.func401 (by kernel_rfl) (by kernel_rfl) (by kernel_rfl) (by kernel_rfl)
 have h11 := @run_callFunc_extern Tryz.prog 98 _ (ReflectliteValue.method (ReflectliteValue.valueError "reflectlite.Value.Elem" 0) ReflectliteValue.elem) Tryz.func98 (by kernel_rfl) (by kernel_rfl) (by kernel_rfl) (by kernel_rfl)
 have h12:=@run_callFunc_extern Tryz.prog 99 _ ReflectliteValue.set Tryz.func99 (by kernel_rfl) (by kernel_rfl) (by kernel_rfl) (by kernel_rfl)
 have tO:=Ef.typeOfE
 have mA:=mAssignableTo
 have a25:=Ef.assignableE
 have v25:=Ef.valueOfE
 have f6:=Ef.valueOfP
 have f7:=Ef.typeP
 have mK:=mKind
 have mE:=mElem
 have mI:=mImplements
 have k27:=Ef.kindP
 have k25:=Ef.kindE
 have e27:=Ef.elemP
 have i25:=Ef.implementsE
 have n8:=Ef.isNilP ⟨w.heap.size,0,none⟩ t ((w.alloc (.cells #[.pointer (some t)] 75)).alloc (.cells #[.pointer (some ⟨7,75,none⟩),.pointer (some ⟨w.heap.size,0,none⟩),.int .u64 150] 108)) (by simp)
 have hlt:0<w.heap.size:=by
  rcases Nat.lt_or_ge 0 w.heap.size with h | h
  ·exact h
  ·simp[World.cell?,Array.getElem?_eq_none h] at hg
 have hg2:((w.alloc (.cells #[.pointer (some t)] 75)).alloc (.cells #[.pointer (some ⟨7,75,none⟩),.pointer (some ⟨w.heap.size,0,none⟩),.int .u64 150] 108)).cell? ⟨0,0,none⟩=some (.iface 157 (.agg #[.pointer (some ⟨7,24,none⟩)])):=by
  rw[World.cell?_alloc_lt _ _ ⟨0,0,none⟩ (by simp<;>omega),World.cell?_alloc_lt _ _ ⟨0,0,none⟩ hlt];exact hg
 have htl:t.block<w.heap.size:=by
  rcases Nat.lt_or_ge t.block w.heap.size with h | h
  ·exact h
  ·simp[World.cell?,Array.getElem?_eq_none h] at ht0
 have el:=Ef.elemVP ⟨w.heap.size,0,none⟩ t (((w.alloc (.cells #[.pointer (some t)] 75)).alloc (.cells #[.pointer (some ⟨7,75,none⟩),.pointer (some ⟨w.heap.size,0,none⟩),.int .u64 150] 108)).alloc (.cells #[.pointer (some ⟨7,75,none⟩),.pointer (some ⟨w.heap.size,0,none⟩),.int .u64 150] 108)) (by rw[World.cell?_alloc_lt _ _ ⟨w.heap.size,0,none⟩ (by simp;omega)];simp)
 have st:=Ef.setE t ⟨w.heap.size+1+1+1,0,none⟩ e old ((((w.alloc (.cells #[.pointer (some t)] 75)).alloc (.cells #[.pointer (some ⟨7,75,none⟩),.pointer (some ⟨w.heap.size,0,none⟩),.int .u64 150] 108)).alloc (.cells #[.pointer (some ⟨7,75,none⟩),.pointer (some ⟨w.heap.size,0,none⟩),.int .u64 150] 108)).alloc (.cells #[.pointer (some e)] 62))
  (by rw[World.cell?_alloc_at _ _ _ _ (by simp)];rfl)
  (by rw[World.cell?_alloc_lt _ _ t (by simp;omega),World.cell?_alloc_lt _ _ t (by simp;omega),World.cell?_alloc_lt _ _ t (by simp;omega),World.cell?_alloc_lt _ _ t htl];exact ht0)
  (by rw[World.frozen?_alloc_old _ _ t (by simp;omega),World.frozen?_alloc_old _ _ t (by simp;omega),World.frozen?_alloc_old _ _ t (by simp;omega),World.frozen?_alloc_old _ _ t (Nat.ne_of_lt htl)];exact hf0)
 go_enter Tryz.func28,Tryz.ntmps28
 go_wp2
 refine wp_loop_rounds 1 ?_
 rw[rounds_succ]
 go_wp2
 go_ret
 exact⟨rfl,rfl⟩
theorem En.valueOfP (t:Addr) (w:World):(ReflectliteValue.unpack (.iface 80 (.pointer (some t)))).run Tryz.prog w
  = .ok (.agg #[.pointer (some ⟨7,80,none⟩),.pointer (some ⟨w.heap.size,0,none⟩),.int .u64 150]) (w.alloc (.cells #[.pointer (some t)] 80)):=by kernel_rfl
theorem En.typeP (a : Addr) (w : World) : (ReflectliteValue.methodAny (ReflectliteValue.valueError "reflectlite.Value.Type" 0) (fun t _ _ _ => ReflectliteType.toType t) #[.agg #[.pointer (some ⟨7, 80, none⟩), .pointer (some a), .int .u64 150]]).run Tryz.prog w
  = .ok (.iface 157 (.agg #[.pointer (some ⟨7,80,none⟩)])) w:=by kernel_rfl
theorem En.kindP (w:World):((ReflectliteType.abiMethod fun t=>Functor.map (fun a:Nat=>Value.int IntKind.u8 (a:Int)) (Rtype.kind t)) #[.pointer (some ⟨7,80,none⟩)]).run Tryz.prog w=.ok (.int .u8 22) w:=by kernel_rfl
theorem En.kindE (w:World):((ReflectliteType.abiMethod fun t=>Functor.map (fun a:Nat=>Value.int IntKind.u8 (a:Int)) (Rtype.kind t)) #[.pointer (some ⟨7,27,none⟩)]).run Tryz.prog w=.ok (.int .u8 2) w:=by kernel_rfl
theorem En.partsP (a:Addr) (w:World):(ReflectliteValue.parts (.agg #[.pointer (some ⟨7,80,none⟩),.pointer (some a),.int .u64 150])).run Tryz.prog w=.ok (some (80,a,150)) w:=by kernel_rfl
theorem En.isNilP (a p:Addr) (W:World) (ha:W.cell? a=some (.pointer (some p))) :
  (ReflectliteValue.method (ReflectliteValue.valueError "reflectlite.Value.IsNil" 0) ReflectliteValue.isNil #[.agg #[.pointer (some ⟨7, 80, none⟩), .pointer (some a), .int .u64 150]]).run Tryz.prog W = .ok (.bool false) W := by
 show Sem.run Tryz.prog (ReflectliteValue.parts (.agg #[.pointer (some ⟨7,80,none⟩),.pointer (some a),.int .u64 150]) >>= _) W=_
 simp only[Sem.run_bind,En.partsP,Result.andThen]
 simp[ReflectliteValue.isNil,loadVar,isAgg,underlying,Tryz.underlying80,ha,Result.andThen]
theorem En.elemP (w:World):(ReflectliteType.method ReflectliteType.elem #[.agg #[.pointer (some ⟨7,80,none⟩)]]).run Tryz.prog w=.ok (.iface 157 (.agg #[.pointer (some ⟨7,27,none⟩)])) w:=by kernel_rfl
theorem En.implementsE (w : World) : (ReflectliteType.relation "Implements" ReflectliteType.implements_ #[.agg #[.pointer (some ⟨7, 27, none⟩)], .iface 157 (.agg #[.pointer (some ⟨7, 24, none⟩)])]).run Tryz.prog w = .ok (.bool true) w := by kernel_rfl
theorem En.typeOfE (v:Value) (w:World):(ReflectliteType.typeOf #[.iface 27 v]).run Tryz.prog w=.ok (.iface 157 (.agg #[.pointer (some ⟨7,27,none⟩)])) w:=by kernel_rfl
theorem En.assignableE (w : World) : (ReflectliteType.relation "AssignableTo" ReflectliteType.assignableTo #[.agg #[.pointer (some ⟨7, 27, none⟩)], .iface 157 (.agg #[.pointer (some ⟨7, 27, none⟩)])]).run Tryz.prog w = .ok (.bool true) w := by kernel_rfl
theorem En.valueOfE (z:Int) (w:World):(ReflectliteValue.unpack (.iface 27 (.int .i64 z))).run Tryz.prog w
  = .ok (.agg #[.pointer (some ⟨7,27,none⟩),.pointer (some ⟨w.heap.size,0,none⟩),.int .u64 130]) (w.alloc (.cells #[.int .i64 z] 27)):=by kernel_rfl
theorem En.elemOfP (w:World):(Rtype.elem? 80).run Tryz.prog w=.ok (some 27) w:=by kernel_rfl
theorem En.mkE (p:Addr) (w:World):(ReflectliteValue.mk 27 p ReflectliteValue.flagAddr).run Tryz.prog w=.ok (.agg #[.pointer (some ⟨7,27,none⟩),.pointer (some p),.int .u64 386]) w:=by kernel_rfl
theorem En.elemVP (a p:Addr) (W:World) (ha:W.cell? a=some (.pointer (some p))) :
  (ReflectliteValue.method (ReflectliteValue.valueError "reflectlite.Value.Elem" 0) ReflectliteValue.elem #[.agg #[.pointer (some ⟨7, 80, none⟩), .pointer (some a), .int .u64 150]]).run Tryz.prog W
   = .ok (.agg #[.pointer (some ⟨7,27,none⟩),.pointer (some p),.int .u64 386]) W:=by
 show Sem.run Tryz.prog (ReflectliteValue.parts (.agg #[.pointer (some ⟨7,80,none⟩),.pointer (some a),.int .u64 150]) >>= _) W=_
 simp only[Sem.run_bind,En.partsP,Result.andThen]
 simp[ReflectliteValue.elem,loadVar,isAgg,underlying,Tryz.underlying80,ha,Result.andThen,En.elemOfP,En.mkE]
theorem En.partsEa (a:Addr) (w:World):(ReflectliteValue.parts (.agg #[.pointer (some ⟨7,27,none⟩),.pointer (some a),.int .u64 386])).run Tryz.prog w=.ok (some (27,a,386)) w:=by kernel_rfl
theorem En.partsE (a:Addr) (w:World):(ReflectliteValue.parts (.agg #[.pointer (some ⟨7,27,none⟩),.pointer (some a),.int .u64 130])).run Tryz.prog w=.ok (some (27,a,130)) w:=by kernel_rfl
theorem En.directE (w:World):(Rtype.directlyAssignable 27 27).run Tryz.prog w=.ok true w:=by kernel_rfl
theorem En.setE (ta b:Addr) (z:Int) (old:Value) (W:World) (hb:W.cell? b=some (.int .i64 z)) (ht:W.cell? ta=some old) (hf:W.frozen? ta=false) :
  (ReflectliteValue.set #[.agg #[.pointer (some ⟨7,27,none⟩),.pointer (some ta),.int .u64 386],.agg #[.pointer (some ⟨7,27,none⟩),.pointer (some b),.int .u64 130]]).run Tryz.prog W
   = .ok (.tuple #[]) (W.setCell ta (.int .i64 z)):=by
 show Sem.run Tryz.prog (ReflectliteValue.parts (.agg #[.pointer (some ⟨7,27,none⟩),.pointer (some ta),.int .u64 386]) >>= fun p=>ReflectliteValue.parts (.agg #[.pointer (some ⟨7,27,none⟩),.pointer (some b),.int .u64 130]) >>= fun q=>_) W=_
 simp only[Sem.run_bind,En.partsEa,En.partsE,Result.andThen]
 simp[ReflectliteValue.flagAddr,loadVar,isAgg,underlying,Tryz.underlying27,hb,Result.andThen,En.directE,storeVar,Value.cells,storeCells,Addr.add]
 rw[run_store Tryz.prog W ta _ _ (by rfl)]
 simp[ht,hf]
theorem En.as_hit (z:Int) (t:Addr) (old:Value) (w:World) (hg:w.cell? ⟨0,0,none⟩=some (.iface 157 (.agg #[.pointer (some ⟨7,24,none⟩)]))) (ht0:w.cell? t=some old) (hf0:w.frozen? t=false) :
  Calls Tryz.prog 28 #[.iface 27 (.int .i64 z),.iface 80 (.pointer (some t))] w fun ev w'=>ev=.returned (.bool true)∧w'=((((w.alloc (.cells #[.pointer (some t)] 80)).alloc (.cells #[.pointer (some ⟨7,80,none⟩),.pointer (some ⟨w.heap.size,0,none⟩),.int .u64 150] 108)).alloc (.cells #[.pointer (some ⟨7,80,none⟩),.pointer (some ⟨w.heap.size,0,none⟩),.int .u64 150] 108)).alloc (.cells #[.int .i64 z] 27)).setCell t (.int .i64 z):=by
 have h6:=@run_callFunc_extern Tryz.prog 55 _ (fun args=>ReflectliteValue.unpack (args.getD 0 (.tuple #[]))) Tryz.func55 (by kernel_rfl) (by kernel_rfl) (by kernel_rfl) (by kernel_rfl)
 have h7 := @run_callFunc_extern Tryz.prog 56 _ (ReflectliteValue.methodAny (ReflectliteValue.valueError "reflectlite.Value.Type" 0) (fun t _ _ _ => ReflectliteType.toType t)) Tryz.func56 (by kernel_rfl) (by kernel_rfl) (by kernel_rfl) (by kernel_rfl)
 have h8 := @run_callFunc_extern Tryz.prog 57 _ (ReflectliteValue.method (ReflectliteValue.valueError "reflectlite.Value.IsNil" 0) ReflectliteValue.isNil) Tryz.func57 (by kernel_rfl) (by kernel_rfl) (by kernel_rfl) (by kernel_rfl)
 have h27:=@run_callFunc_extern Tryz.prog 390 _ (ReflectliteType.abiMethod fun t=>do pure (.int .u8 (← Rtype.kind t))) Tryz.func390 (by kernel_rfl) (by kernel_rfl) (by kernel_rfl) (by kernel_rfl)
 have h37:=@run_callFunc_extern Tryz.prog 403 _ (ReflectliteType.method ReflectliteType.elem) Tryz.func403 (by kernel_rfl) (by kernel_rfl) (by kernel_rfl) (by kernel_rfl)
 have h38 := @run_callFunc_extern Tryz.prog 404 _ (ReflectliteType.relation "Implements" ReflectliteType.implements_) Tryz.func404 (by kernel_rfl) (by kernel_rfl) (by kernel_rfl) (by kernel_rfl)
 have h10:=@run_callFunc_extern Tryz.prog 97 _ ReflectliteType.typeOf Tryz.func97 (by kernel_rfl) (by kernel_rfl) (by kernel_rfl) (by kernel_rfl)
 have h35 := @run_callFunc_extern Tryz.prog 401 _ (ReflectliteType.relation "AssignableTo" ReflectliteType.assignableTo) Tryz.func401 (by kernel_rfl) (by kernel_rfl) (by kernel_rfl) (by kernel_rfl)
 have h11 := @run_callFunc_extern Tryz.prog 98 _ (ReflectliteValue.method (ReflectliteValue.valueError "reflectlite.Value.Elem" 0) ReflectliteValue.elem) Tryz.func98 (by kernel_rfl) (by kernel_rfl) (by kernel_rfl) (by kernel_rfl)
 have h12:=@run_callFunc_extern Tryz.prog 99 _ ReflectliteValue.set Tryz.func99 (by kernel_rfl) (by kernel_rfl) (by kernel_rfl) (by kernel_rfl)
 have tO:=En.typeOfE
 have mA:=mAssignableTo
 have a25:=En.assignableE
 have v25:=En.valueOfE
 have f6:=En.valueOfP
 have f7:=En.typeP
 have mK:=mKind
 have mE:=mElem
 have mI:=mImplements
 have k27:=En.kindP
 have k25:=En.kindE
 have e27:=En.elemP
 have i25:=En.implementsE
 have n8:=En.isNilP ⟨w.heap.size,0,none⟩ t ((w.alloc (.cells #[.pointer (some t)] 80)).alloc (.cells #[.pointer (some ⟨7,80,none⟩),.pointer (some ⟨w.heap.size,0,none⟩),.int .u64 150] 108)) (by simp)
 have hlt:0<w.heap.size:=by
  rcases Nat.lt_or_ge 0 w.heap.size with h | h
  ·exact h
  ·simp[World.cell?,Array.getElem?_eq_none h] at hg
 have hg2:((w.alloc (.cells #[.pointer (some t)] 80)).alloc (.cells #[.pointer (some ⟨7,80,none⟩),.pointer (some ⟨w.heap.size,0,none⟩),.int .u64 150] 108)).cell? ⟨0,0,none⟩=some (.iface 157 (.agg #[.pointer (some ⟨7,24,none⟩)])):=by
  rw[World.cell?_alloc_lt _ _ ⟨0,0,none⟩ (by simp<;>omega),World.cell?_alloc_lt _ _ ⟨0,0,none⟩ hlt];exact hg
 have htl:t.block<w.heap.size:=by
  rcases Nat.lt_or_ge t.block w.heap.size with h | h
  ·exact h
  ·simp[World.cell?,Array.getElem?_eq_none h] at ht0
 have el:=En.elemVP ⟨w.heap.size,0,none⟩ t (((w.alloc (.cells #[.pointer (some t)] 80)).alloc (.cells #[.pointer (some ⟨7,80,none⟩),.pointer (some ⟨w.heap.size,0,none⟩),.int .u64 150] 108)).alloc (.cells #[.pointer (some ⟨7,80,none⟩),.pointer (some ⟨w.heap.size,0,none⟩),.int .u64 150] 108)) (by rw[World.cell?_alloc_lt _ _ ⟨w.heap.size,0,none⟩ (by simp;omega)];simp)
 have st:=En.setE t ⟨w.heap.size+1+1+1,0,none⟩ z old ((((w.alloc (.cells #[.pointer (some t)] 80)).alloc (.cells #[.pointer (some ⟨7,80,none⟩),.pointer (some ⟨w.heap.size,0,none⟩),.int .u64 150] 108)).alloc (.cells #[.pointer (some ⟨7,80,none⟩),.pointer (some ⟨w.heap.size,0,none⟩),.int .u64 150] 108)).alloc (.cells #[.int .i64 z] 27))
  (by rw[World.cell?_alloc_at _ _ _ _ (by simp)];rfl)
  (by rw[World.cell?_alloc_lt _ _ t (by simp;omega),World.cell?_alloc_lt _ _ t (by simp;omega),World.cell?_alloc_lt _ _ t (by simp;omega),World.cell?_alloc_lt _ _ t htl];exact ht0)
  (by rw[World.frozen?_alloc_old _ _ t (by simp;omega),World.frozen?_alloc_old _ _ t (by simp;omega),World.frozen?_alloc_old _ _ t (by simp;omega),World.frozen?_alloc_old _ _ t (Nat.ne_of_lt htl)];exact hf0)
 go_enter Tryz.func28,Tryz.ntmps28
 go_wp2
 refine wp_loop_rounds 1 ?_
 rw[rounds_succ]
 go_wp2
 go_ret
 exact⟨rfl,rfl⟩
end

end Go.Proofs.YtcniomgjikienaaGreatDoor.Es
