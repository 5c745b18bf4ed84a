/-
  Texts that belong together, joined: NpJ, NpK, NpL, NpO, NpRs, NpP, NpRp, NpRq, NpRh, NpRr, RcMath, RcRj, PsI, QsB.
-/
import Derived.Test.YtcniomgjikienaaGreatDoorVsA12
import Derived.Defers
import Derived.Recover
import Derived.Lib.AppendStr
import Derived.BigQuiet

set_option maxHeartbeats 16000000
set_option maxRecDepth 100000
namespace Go.Proofs.YtcniomgjikienaaGreatDoor

section
open Go.RowKit
attribute [local go_sem] ByteArray.extract_mk Zhc
theorem ZdQ {R B:Nat} {w u v:World} (h:w.grownBy u (some R)) (h':Fr B R u v) (hB:w.heap.size≤B):w.grownBy v (some R) :=
 ⟨h'.os.trans h.os,h'.tape.trans h.tape,h'.output.trans h.output,Nat.le_trans h.size h'.size,fun k h1 h2=>(h'.block k (Nat.lt_of_lt_of_le h1 hB) (fun e=>h2 (by rw[e]))).trans (h.block k h1 h2)⟩
theorem Hx.fr {u u':World} {b B R:Nat} {h:Hk} {v:Value} (q:Hx u b h v) (hf:Fr B R u u') (hb:b<B) (hR:b≠R):Hx u' b h v:=(hf.block b hb hR).trans q
theorem Hx.put4 {u:World} {b:Nat} {h:Hk} {v:Value} (q:Hx u b h v) (l:List Mk) (z:Value):Hx (u.setCell ⟨b,4,none⟩ z) b ⟨h.A,h.AN,h.B,h.BN,l⟩ z:=heap_setCell_same u b 4 _ _ z q
theorem Zdn {w:World} {B:Nat} {v:Value} {n:Nat} {xs:List Value} (h:w.ownsRow B 47 2 v n xs) {b:Nat} (hne:v.ownBlock≠some b) (A AN C CN:Int) (z:Value):(((((w.setCell ⟨b,0,none⟩ (.int .i64 A)).setCell ⟨b,1,none⟩ (.int .i64 AN)).setCell ⟨b,2,none⟩ (.int .i64 C)).setCell ⟨b,3,none⟩ (.int .i64 CN)).setCell ⟨b,4,none⟩ z).ownsRow B 47 2 v n xs :=
 ((((h.kept (ZdS _ b 0 _) (.inr hne)).kept (ZdS _ b 1 _) (.inr hne)).kept (ZdS _ b 2 _) (.inr hne)).kept (ZdS _ b 3 _) (.inr hne)).kept (ZdS _ b 4 _) (.inr hne)
theorem Zdo {w:World} {R:Nat} {vL:Value} {p:Int} (h:Ry w R vL p) {b:Nat} (hne:R≠b) (A AN C CN:Int) (z:Value):Ry (((((w.setCell ⟨b,0,none⟩ (.int .i64 A)).setCell ⟨b,1,none⟩ (.int .i64 AN)).setCell ⟨b,2,none⟩ (.int .i64 C)).setCell ⟨b,3,none⟩ (.int .i64 CN)).setCell ⟨b,4,none⟩ z) R vL p :=
 have hn:∀ _:Nat,(some R:Option Nat)≠some b:=fun _ e=>hne (Option.some.inj e)
 ((((h.keep (ZdS _ b 0 _) (hn 0)).keep (ZdS _ b 1 _) (hn 0)).keep (ZdS _ b 2 _) (hn 0)).keep (ZdS _ b 3 _) (hn 0)).keep (ZdS _ b 4 _) (hn 0)
def hkEnd (A AN B BN:Int) (l1:List Mk) (X2:Except (Nat × Int) (List Mk × Nat × List (List UInt8))):Except (Nat × Int) (Hk × Nat × List (List UInt8)) :=
 match X2 with
 | .error e=>.error e
 | .ok (l2,p3,r3)=>.ok (⟨A,AN,B,BN,l1++l2⟩,p3,r3)
def HkQ (R:Nat) (vL:Value) (X:Except (Nat × Int) (Hk × Nat × List (List UInt8))) (w:World) (x:Ending) (w':World):Prop :=
 match X with
 | .error (a,e)=>Thr (a:Int) e x w'∧w.grownBy w' (some R)
 | .ok (h,p1,_)=>∃ v',x=.returned (hkV h v')∧w'.ownsRow w.heap.size 47 2 v' h.ls.length (mkcells h.ls)∧Ry w' R vL (p1:Int)∧w.grownBy w' (some R)
theorem ZgU {R:Nat} {L:List (List UInt8)} {lo:Option Addr} {lc:Nat} {p:Nat} (w:World) (q:Ry w R (.slice lo L.length lc) p) (HL:Hid (∀ u,w.grownBy u (some R)→HS u (.slice lo L.length lc) L)) (HPl:Hid (Plain L)) (hp:p≤L.length) (hLl:L.length≤1048576) (HSl:Hid (∀ s∈L,s.length≤1048576))
  (k:Nat) (hk:k≤4096) (X:Except (Nat × Int) (Hk × Nat × List (List UInt8))) (HX:Hid (hkK k p (L.drop p)=X)) :
  Calls Tryz.prog 268 #[.pointer (some ⟨R,0,none⟩),.int .i64 (k:Int)] w fun x w'=>HkQ R (.slice lo L.length lc) X w x w':=by
 have hRw:=q.lt
 have HSl2:Hid (∀ s∈L,s.length≤1099511627776):=fun s hs=>by have:=HSl.out s hs;omega
 have hr0:=Hx.new w ⟨0,0,0,0,[]⟩ (.slice none 0 0)
 have g0:w.grownBy (w.alloc (hkO ⟨0,0,0,0,[]⟩ (.slice none 0 0))) (some R):=World.grownBy_alloc w _ _
 have q0:Ry (w.alloc (hkO ⟨0,0,0,0,[]⟩ (.slice none 0 0))) R (.slice lo L.length lc) p:=q.low ((Below.refl _ w).alloc (Nat.le_refl _) _)
 have HZ0:Hid ((w.alloc (hkO ⟨0,0,0,0,[]⟩ (.slice none 0 0))).heap.size=w.heap.size+1):=(by show _=_;simp)
 have hW0:w.alloc (.cells #[.int .i64 0,.int .i64 0,.int .i64 0,.int .i64 0,.slice none 0 0] 45)=w.alloc (hkO ⟨0,0,0,0,[]⟩ (.slice none 0 0)):=rfl
 obtain⟨Z,hZ⟩:∃ Z,nxt p (L.drop p)=Z:=⟨_,rfl⟩
 have hX:=HX.out
 clear HX q
 unfold hkK at hX
 rw[hZ] at hX
 go_enter Tryz.func268,Tryz.ntmps268
 go_wp2_with fail
 generalize w.alloc (hkO ⟨0,0,0,0,[]⟩ (.slice none 0 0))=W0 at *
 clear hW0
 have hl:=ZgX W0 q0 (HL.out W0 g0) hp (by omega) HSl2.out Z hZ
 cases Z with
 | error z =>
  obtain⟨a,e⟩:=z
  dsimp only at hX
  subst hX
  refine hl.mono ?_
  rintro x w1 ⟨⟨g,rfl,hg⟩,hgr⟩
  have hfin:=ZdT g0 hgr
  go_wp2
  exact⟨rfl,⟨_,rfl,hg⟩,hfin⟩
 | ok z =>
  obtain⟨s,r⟩:=z
  dsimp only at hX
  obtain⟨hr,hpl,_,hLp⟩:=Zhr hZ
  subst hr
  have hsl:=HSl.out L[p] (List.getElem_mem hpl)
  rw[hLp,List.length_append] at hsl
  obtain⟨T,hT⟩:∃ T,s++[10]=T:=⟨_,rfl⟩
  have hTl:T.length≤1048576:=(by rw[← hT,List.length_append];exact hsl)
  have hTS:Lib.trimSuffix (⟨T.toArray⟩:ByteArray).data.toList (⟨#[10]⟩:ByteArray).data.toList=s:=(by
   show Lib.trimSuffix T [10]=s
   rw[← hT]
   unfold Lib.trimSuffix
   rw[ZkK,if_pos (Zdf s)]
   simp)
  have htr:=fun u=>Tryz.strings_TrimSuffix ⟨T.toArray⟩ ⟨#[10]⟩ u (by show T.length≤_;omega)
  rw[hTS] at htr
  have hcm:=fun u=>ZgN s (by simp only[List.length_cons,List.length_nil] at hsl;omega) u
  clear hTS hZ hLp hsl
  refine hl.mono ?_
  rintro x w1 ⟨hx1,nn,rfl⟩
  rw[hT] at hx1
  subst hx1
  clear hl hT
  have q1:=q0.dN nn
  have hr1:Hx (W0.drewN nn) w.heap.size ⟨0,0,0,0,[]⟩ (.slice none 0 0):=hr0
  have g1:=ZdP g0 nn
  have HZ1:Hid ((W0.drewN nn).heap.size=w.heap.size+1):=HZ0
  clear q0 hr0 g0 HZ0
  generalize W0.drewN nn=W1 at *
  go_wp2_with fail
  refine (htr W1).mono ?_
  rintro x w2 ⟨rfl,rfl⟩
  go_wp2_with fail
  refine (hcm w2).mono ?_
  rintro x w2b ⟨hCP,hb2⟩
  have q2:=q1.low hb2
  have hr2:=hr1.low hb2
  have g2:=ZdT g1 (ZfO hb2 _)
  have hz2:w.heap.size+1≤w2b.heap.size:=(by have:=HZ1.out;have:=hb2.size;omega)
  clear q1 hr1 g1 HZ1 hb2 htr hcm
  unfold CmdP at hCP
  cases hc:cmdP s with
  | none =>
   rw[hc] at hCP hX
   dsimp only at hX
   subst hX
   obtain⟨A,AN,B,BN,rfl⟩:=hCP
   have g3:=ZdT g2 (World.grownBy_alloc w2b (hkO ⟨A,AN,B,BN,[]⟩ (.slice none 0 0)) (some R))
   have q3:Ry (w2b.alloc (hkO ⟨A,AN,B,BN,[]⟩ (.slice none 0 0))) R (.slice lo L.length lc) p:=q2.low ((Below.refl _ w2b).alloc (Nat.le_refl _) _)
   unfold hkV
   dsimp only
   go_wp2_with fail
   refine (Zhi 3 _ q3 (by omega)).mono ?_
   rintro x w3 ⟨⟨g,rfl,hg⟩,hgr⟩
   have hfin:=ZdT g3 hgr
   go_wp2
   exact⟨rfl,⟨_,rfl,by simpa using hg⟩,hfin⟩
  | some z =>
   obtain⟨A,AN,B,BN⟩:=z
   have hcr:=ZbI hc
   rw[hc] at hCP hX
   dsimp only at hCP hX
   subst hCP
   obtain⟨an,rfl⟩:=Int.eq_ofNat_of_zero_le hcr.1.2.2.1
   obtain⟨bn,rfl⟩:=Int.eq_ofNat_of_zero_le hcr.2.1.2.2.1
   have han:an≤2147483647:=by omega
   have hbn:bn≤2147483647:=by omega
   clear hcr hc
   have g3:=ZdT g2 (World.grownBy_alloc w2b (hkO ⟨A,(an:Int),B,(bn:Int),[]⟩ (.slice none 0 0)) (some R))
   have q3:Ry (w2b.alloc (hkO ⟨A,(an:Int),B,(bn:Int),[]⟩ (.slice none 0 0))) R (.slice lo L.length lc) p:=q2.low ((Below.refl _ w2b).alloc (Nat.le_refl _) _)
   have hx3:=Hx.new w2b ⟨A,(an:Int),B,(bn:Int),[]⟩ (.slice none 0 0)
   have hr3:Hx (w2b.alloc (hkO ⟨A,(an:Int),B,(bn:Int),[]⟩ (.slice none 0 0))) w.heap.size ⟨0,0,0,0,[]⟩ (.slice none 0 0):=hr2.low ((Below.refl _ w2b).alloc (Nat.le_refl _) _)
   have HZ3:Hid ((w2b.alloc (hkO ⟨A,(an:Int),B,(bn:Int),[]⟩ (.slice none 0 0))).heap.size=w2b.heap.size+1):=(by show _=_;simp)
   obtain⟨H,hH⟩:∃ H,w2b.heap.size=H:=⟨_,rfl⟩
   rw[hH] at hx3 HZ3
   have HH:Hid (w2b.heap.size=H):=hH
   rw[Int.toNat_natCast,Int.toNat_natCast] at hX
   by_cases hk2:k=4096
   ·rw[if_pos hk2] at hX
    subst hX hk2
    unfold hkV
    dsimp only
    go_wp2_with fail
    refine (Zhi 9 _ q3 (by omega)).mono ?_
    rintro x w3 ⟨⟨g,rfl,hg⟩,hgr⟩
    have hfin:=ZdT g3 hgr
    go_wp2
    exact⟨rfl,⟨_,rfl,by simpa using hg⟩,hfin⟩
   ·rw[if_neg hk2] at hX
    have hkb:((k:Int) == 4096)=false:=beq_eq_false_iff_ne.2 (by omega)
    have hQH:w.heap.size≠H:=by omega
    obtain⟨d0,d1⟩:=q3.cells
    have df1:=q3.frozen 1
    have q4:=q3.at ((p:Int)+1)
    have gs:=ZdS (w2b.alloc (hkO ⟨A,(an:Int),B,(bn:Int),[]⟩ (.slice none 0 0))) R 1 (.int .i64 ((p:Int)+1))
    have hHR:H≠R:=by omega
    have hQR:w.heap.size≠R:=by omega
    have hx4:=hx3.keep gs (fun e=>hHR (Option.some.inj e))
    have hr4:=hr3.keep gs (fun e=>hQR (Option.some.inj e))
    have g4:=ZdT g3 gs
    have HZ4:Hid (H+1≤((w2b.alloc (hkO ⟨A,(an:Int),B,(bn:Int),[]⟩ (.slice none 0 0))).setCell ⟨R,1,none⟩ (.int .i64 ((p:Int)+1))).heap.size):=(by have h1:=HZ3.out;have h2:=gs.size;show _≤_;omega)
    obtain⟨f0,f1,f2,f3,f4⟩:=hx4.cells
    dsimp only at f0 f1 f2 f3 f4
    have if4':=hx4.frozen 4
    unfold hkV
    dsimp only
    clear hr2 q2 g2 hr3 hx3 g3 gs
    unfold hkO at q4 hx4 hr4 g4 HZ4 f0 f1 f2 f3 f4 if4' d0 d1 df1
    dsimp only at q4 hx4 hr4 g4 HZ4 f0 f1 f2 f3 f4 if4' d0 d1 df1
    go_wp2_with fail
    generalize hw3d:(w2b.alloc (.cells #[.int .i64 A,.int .i64 (an:Int),.int .i64 B,.int .i64 (bn:Int),.slice none 0 0] 45)).setCell ⟨R,1,none⟩ (.int .i64 ((p:Int)+1))=w3 at *
    clear HZ3 hw3d d0 d1 df1 q3
    have hRB:R<w3.heap.size:=by have:=HZ4.out;omega
    have hHl:H<w3.heap.size:=by have:=HZ4.out;omega
    have hQl:w.heap.size<w3.heap.size:=by have:=HZ4.out;omega
    have hw3:w.heap.size≤w3.heap.size:=by omega
    have HG1:Hid (∀ c∈([60,32]:List UInt8),c≠10):=(by show ∀ c∈([60,32]:List UInt8),c≠10;decide)
    have HG2:Hid (∀ c∈([62,32]:List UInt8),c≠10):=(by show ∀ c∈([62,32]:List UInt8),c≠10;decide)
    have HL4:Hid (∀ u,Fr w3.heap.size R w3 u→HS u (.slice lo L.length lc) L):=fun u hu=>HL.out u (ZdQ g4 hu hw3)
    have q4':Ry w3 R (.slice lo L.length lc) ((p+1:Nat):Int):=(by simpa using q4)
    obtain⟨X1,hX1⟩:∃ X1,sdC [60,32] 45 an (p+1) (L.drop (p+1))=X1:=⟨_,rfl⟩
    have hs1:=Zhe w3 q4' HL4 HPl (by omega) (by omega) HSl2 (Nat.le_refl _) hRB [60,32] HG1 45 an (by omega) (.slice none 0 0) [] (by simp) (Zen _ _ _ _) X1 hX1
    rw[hX1] at hX
    clear q4 q4' HL4
    refine hs1.mono ?_
    cases X1 with
    | error z =>
     obtain⟨a,e⟩:=z
     dsimp only at hX
     subst hX
     rintro x w4 ⟨⟨g,rfl,hg⟩,hgr⟩
     have hfin:=ZdQ g4 hgr hw3
     go_wp2
     exact⟨rfl,⟨_,rfl,hg⟩,hfin⟩
    | ok z =>
     obtain⟨l1,p1,r1⟩:=z
     obtain⟨j,hj1,hj2,hj3⟩:=ZjV hX1
     rw[List.drop_drop] at hj1
     have hr1e:r1=L.drop p1:=by rw[hj1,hj2]
     have hp1:p1≤L.length:=(by rw[List.length_drop] at hj3;omega)
     subst hr1e
     have hl1k:l1.length≤1099511627776:=(by
      have:=ZjX hX1
      omega)
     clear hj1 hj2 hj3 hX1 hs1
     dsimp only at hX
     rintro x w4 ⟨v1,rfl,hown4,q5,hF4⟩
     rw[List.nil_append] at hown4
     obtain⟨o1,c1,rfl⟩:=(Zeo hown4).form
     have hx5:=hx4.fr hF4 hHl hHR
     have hr5:=hr4.fr hF4 hQl hQR
     have g5:=ZdQ g4 hF4 hw3
     have hz5:=hF4.size
     have hne5:(Value.slice o1 l1.length c1).ownBlock≠some H:=(by intro e;have:=ZhJ hown4 e;omega)
     have gs5:=ZdS w4 H 4 (.slice o1 l1.length c1)
     have hx6:=hx5.put4 l1 (.slice o1 l1.length c1)
     have hr6:=hr5.keep gs5 (fun e=>hQH (Option.some.inj e))
     have hown6:=hown4.kept gs5 (.inr hne5)
     have q6:=q5.keep gs5 (fun e=>hHR (Option.some.inj e).symm)
     have g6:=ZdR g5 (B:=H) (by omega) 4 (.slice o1 l1.length c1)
     have hz6:w3.heap.size≤(w4.setCell ⟨H,4,none⟩ (.slice o1 l1.length c1)).heap.size:=Nat.le_trans hz5 gs5.size
     obtain⟨f0,f1,f2,f3,f4⟩:=hx5.cells
     dsimp only at f0 f1 f2 f3 f4
     have ff4:=hx5.frozen 4
     clear hx4 hr4 g4 q5 hown4 hF4 gs5 g5 hr5
     dsimp only at hx6
     obtain⟨k0,k1,k2,k3,k4⟩:=hx6.cells
     dsimp only at k0 k1 k2 k3 k4
     have hx7a:=hx6
     have hr7a:=hr6
     have hown7a:=hown6
     have q7a:=q6
     have g7a:=g6
     have hz7a:=hz6
     clear hx6 hr6 hown6 q6 g6
     rcases (by omega:¬ 0<(an:Int)∨(0<(an:Int)∧¬ 0<(bn:Int))∨(0<(an:Int)∧0<(bn:Int))) with d1 | ⟨d1,d2⟩ | ⟨d1,d2⟩
     ·have hnb:¬ (0<(an:Int)∧0<(bn:Int)):=(by omega)
      rw[if_neg hnb] at hX
      dsimp only at hX
      obtain⟨X2,hX2⟩:∃ X2,sdC [62,32] 43 bn p1 (L.drop p1)=X2:=⟨_,rfl⟩
      have HX2:Hid (sdC [62,32] 43 bn p1 (L.drop p1)=X2):=hX2
      rw[hX2] at hX
      have HXf:Hid (X=hkEnd A (an:Int) B (bn:Int) l1 X2):=(by show _=_;rw[← hX];unfold hkEnd;rfl)
      clear hX hX2 hnb
      have hx7:=hx7a
      have hr7:=hr7a
      have hown7:=hown7a
      have q7:=q7a
      have g7:=g7a
      have hw37:=hz7a
      have hp2:=hp1
      clear hx7a hr7a hown7a q7a g7a hz7a hp1
      go_wp2_with fail
      clear hx5 f0 f1 f2 f3 f4 ff4 k0 k1 k2 k3 k4
      generalize w4.setCell ⟨H,4,none⟩ (.slice o1 l1.length c1)=w7 at *
      obtain⟨e0,e1,e2,e3,e4⟩:=hx7.cells
      have hg7s:w.heap.size≤w7.heap.size:=g7.size
      have HL7:Hid (∀ u,Fr w3.heap.size R w7 u→HS u (.slice lo L.length lc) L):=fun u hu=>HL.out u (ZdQ g7 hu hw3)
      have hs2:=Zhe w7 q7 HL7 HPl hp2 (by omega) HSl2 hw37 hRB [62,32] HG2 43 bn (by omega) (.slice o1 l1.length c1) l1 hl1k hown7 X2 HX2
      clear HL7
      refine hs2.mono ?_
      cases X2 with
      | error z =>
       obtain⟨a,e⟩:=z
       have hXe:X=.error (a,e):=HXf.out
       subst hXe
       rintro x w8 ⟨⟨g,rfl,hg⟩,hgr⟩
       have hfin:=ZdQ g7 hgr hw3
       go_wp2
       exact⟨rfl,⟨_,rfl,hg⟩,hfin⟩
      | ok z =>
       obtain⟨l2,p3,r3⟩:=z
       have hXe:X=.ok (⟨A,(an:Int),B,(bn:Int),l1++l2⟩,p3,r3):=HXf.out
       subst hXe
       rintro x w8 ⟨v2,rfl,hown8,q8,hF8⟩
       obtain⟨o2,c2,rfl⟩:=(Zeo hown8).form
       have hx8:=hx7.fr hF8 hHl hHR
       have hr8:=hr7.fr hF8 hQl hQR
       have hg8:=ZdQ g7 hF8 hw3
       have hne8:(Value.slice o2 (l1++l2).length c2).ownBlock≠some H:=(by intro e;have:=ZhJ hown8 e;omega)
       have hne8q:(Value.slice o2 (l1++l2).length c2).ownBlock≠some w.heap.size:=(by intro e;have:=ZhJ hown8 e;omega)
       have hx9:=hx8.put4 (l1++l2) (.slice o2 (l1++l2).length c2)
       have hgs9:=ZdS w8 H 4 (.slice o2 (l1++l2).length c2)
       have hr9:=hr8.keep hgs9 (fun e=>hQH (Option.some.inj e))
       have hown9:=hown8.kept hgs9 (.inr hne8)
       have q9:=q8.keep hgs9 (fun e=>hHR (Option.some.inj e).symm)
       have hg9:=ZdR hg8 (B:=H) (by omega) 4 (.slice o2 (l1++l2).length c2)
       obtain⟨i0,i1,i2,i3,i4⟩:=hx8.cells
       have if4:=hx8.frozen 4
       have HN2:Hid ((l1++l2).length=(l1++l2).length):=rfl
       generalize hM:(l1++l2).length=M at *
       obtain⟨z0,z1,z2,z3,z4⟩:=hx9.cells
       dsimp only at z0 z1 z2 z3 z4 i0 i1 i2 i3 i4
       obtain⟨y0,y1,y2,y3,y4⟩:=hr9.cells
       have yf0:=hr9.frozen 0
       have yf1:=hr9.frozen 1
       have yf2:=hr9.frozen 2
       have yf3:=hr9.frozen 3
       have yf4:=hr9.frozen 4
       have hP:=hr9.putH5 A (an:Int) B (bn:Int) (l1++l2) (.slice o2 M c2)
       have hgP:=((((ZdR hg9 (B:=w.heap.size) (Nat.le_refl _) 0 (.int .i64 A)) |> fun h=>ZdR h (B:=w.heap.size) (Nat.le_refl _) 1 (.int .i64 (an:Int))) |> fun h=>ZdR h (B:=w.heap.size) (Nat.le_refl _) 2 (.int .i64 B)) |> fun h=>ZdR h (B:=w.heap.size) (Nat.le_refl _) 3 (.int .i64 (bn:Int))) |> fun h=>ZdR h (B:=w.heap.size) (Nat.le_refl _) 4 (.slice o2 M c2)
       have hownP:=Zdn hown9 (b:=w.heap.size) hne8q A (an:Int) B (bn:Int) (.slice o2 M c2)
       have qP:=Zdo q9 (b:=w.heap.size) (by omega) A (an:Int) B (bn:Int) (.slice o2 M c2)
       clear hx9 hx8 hr8 hr9 hown8 hown9 q8 q9 hg8 hg9 hgs9 hF8
       go_wp2
       refine bodyPost_ret (v:=hkV ⟨A,(an:Int),B,(bn:Int),l1++l2⟩ (.slice o2 M c2)) (results_cell_row rfl _ _ w.heap.size 45 #[.int .i64 A,.int .i64 (an:Int),.int .i64 B,.int .i64 (bn:Int),.slice o2 M c2] (0,0) _ rfl hP Tryz.underlying45 rfl (by kernel_rfl)) rfl ⟨_,rfl,?_,qP,hgP⟩
       dsimp only
       rw[hM]
       exact ZhM hownP (Nat.le_of_lt (by omega))
     ·have hnb:¬ (0<(an:Int)∧0<(bn:Int)):=(by omega)
      rw[if_neg hnb] at hX
      dsimp only at hX
      obtain⟨X2,hX2⟩:∃ X2,sdC [62,32] 43 bn p1 (L.drop p1)=X2:=⟨_,rfl⟩
      have HX2:Hid (sdC [62,32] 43 bn p1 (L.drop p1)=X2):=hX2
      rw[hX2] at hX
      have HXf:Hid (X=hkEnd A (an:Int) B (bn:Int) l1 X2):=(by show _=_;rw[← hX];unfold hkEnd;rfl)
      clear hX hX2 hnb
      have hx7:=hx7a
      have hr7:=hr7a
      have hown7:=hown7a
      have q7:=q7a
      have g7:=g7a
      have hw37:=hz7a
      have hp2:=hp1
      clear hx7a hr7a hown7a q7a g7a hz7a hp1
      go_wp2_with fail
      clear hx5 f0 f1 f2 f3 f4 ff4 k0 k1 k2 k3 k4
      generalize w4.setCell ⟨H,4,none⟩ (.slice o1 l1.length c1)=w7 at *
      obtain⟨e0,e1,e2,e3,e4⟩:=hx7.cells
      have hg7s:w.heap.size≤w7.heap.size:=g7.size
      have HL7:Hid (∀ u,Fr w3.heap.size R w7 u→HS u (.slice lo L.length lc) L):=fun u hu=>HL.out u (ZdQ g7 hu hw3)
      have hs2:=Zhe w7 q7 HL7 HPl hp2 (by omega) HSl2 hw37 hRB [62,32] HG2 43 bn (by omega) (.slice o1 l1.length c1) l1 hl1k hown7 X2 HX2
      clear HL7
      refine hs2.mono ?_
      cases X2 with
      | error z =>
       obtain⟨a,e⟩:=z
       have hXe:X=.error (a,e):=HXf.out
       subst hXe
       rintro x w8 ⟨⟨g,rfl,hg⟩,hgr⟩
       have hfin:=ZdQ g7 hgr hw3
       go_wp2
       exact⟨rfl,⟨_,rfl,hg⟩,hfin⟩
      | ok z =>
       obtain⟨l2,p3,r3⟩:=z
       have hXe:X=.ok (⟨A,(an:Int),B,(bn:Int),l1++l2⟩,p3,r3):=HXf.out
       subst hXe
       rintro x w8 ⟨v2,rfl,hown8,q8,hF8⟩
       obtain⟨o2,c2,rfl⟩:=(Zeo hown8).form
       have hx8:=hx7.fr hF8 hHl hHR
       have hr8:=hr7.fr hF8 hQl hQR
       have hg8:=ZdQ g7 hF8 hw3
       have hne8:(Value.slice o2 (l1++l2).length c2).ownBlock≠some H:=(by intro e;have:=ZhJ hown8 e;omega)
       have hne8q:(Value.slice o2 (l1++l2).length c2).ownBlock≠some w.heap.size:=(by intro e;have:=ZhJ hown8 e;omega)
       have hx9:=hx8.put4 (l1++l2) (.slice o2 (l1++l2).length c2)
       have hgs9:=ZdS w8 H 4 (.slice o2 (l1++l2).length c2)
       have hr9:=hr8.keep hgs9 (fun e=>hQH (Option.some.inj e))
       have hown9:=hown8.kept hgs9 (.inr hne8)
       have q9:=q8.keep hgs9 (fun e=>hHR (Option.some.inj e).symm)
       have hg9:=ZdR hg8 (B:=H) (by omega) 4 (.slice o2 (l1++l2).length c2)
       obtain⟨i0,i1,i2,i3,i4⟩:=hx8.cells
       have if4:=hx8.frozen 4
       have HN2:Hid ((l1++l2).length=(l1++l2).length):=rfl
       generalize hM:(l1++l2).length=M at *
       obtain⟨z0,z1,z2,z3,z4⟩:=hx9.cells
       dsimp only at z0 z1 z2 z3 z4 i0 i1 i2 i3 i4
       obtain⟨y0,y1,y2,y3,y4⟩:=hr9.cells
       have yf0:=hr9.frozen 0
       have yf1:=hr9.frozen 1
       have yf2:=hr9.frozen 2
       have yf3:=hr9.frozen 3
       have yf4:=hr9.frozen 4
       have hP:=hr9.putH5 A (an:Int) B (bn:Int) (l1++l2) (.slice o2 M c2)
       have hgP:=((((ZdR hg9 (B:=w.heap.size) (Nat.le_refl _) 0 (.int .i64 A)) |> fun h=>ZdR h (B:=w.heap.size) (Nat.le_refl _) 1 (.int .i64 (an:Int))) |> fun h=>ZdR h (B:=w.heap.size) (Nat.le_refl _) 2 (.int .i64 B)) |> fun h=>ZdR h (B:=w.heap.size) (Nat.le_refl _) 3 (.int .i64 (bn:Int))) |> fun h=>ZdR h (B:=w.heap.size) (Nat.le_refl _) 4 (.slice o2 M c2)
       have hownP:=Zdn hown9 (b:=w.heap.size) hne8q A (an:Int) B (bn:Int) (.slice o2 M c2)
       have qP:=Zdo q9 (b:=w.heap.size) (by omega) A (an:Int) B (bn:Int) (.slice o2 M c2)
       clear hx9 hx8 hr8 hr9 hown8 hown9 q8 q9 hg8 hg9 hgs9 hF8
       go_wp2
       refine bodyPost_ret (v:=hkV ⟨A,(an:Int),B,(bn:Int),l1++l2⟩ (.slice o2 M c2)) (results_cell_row rfl _ _ w.heap.size 45 #[.int .i64 A,.int .i64 (an:Int),.int .i64 B,.int .i64 (bn:Int),.slice o2 M c2] (0,0) _ rfl hP Tryz.underlying45 rfl (by kernel_rfl)) rfl ⟨_,rfl,?_,qP,hgP⟩
       dsimp only
       rw[hM]
       exact ZhM hownP (Nat.le_of_lt (by omega))
     ·have hnb:0<(an:Int)∧0<(bn:Int):=⟨d1,d2⟩
      go_wp2_with fail
      clear hx5 f0 f1 f2 f3 f4 ff4 k0 k1 k2 k3 k4
      generalize w4.setCell ⟨H,4,none⟩ (.slice o1 l1.length c1)=w6 at *
      rw[if_pos hnb] at hX
      obtain⟨Y,hY⟩:∃ Y,sepP p1 (L.drop p1)=Y:=⟨_,rfl⟩
      rw[hY] at hX
      have hdvr:=ZgO w6 q7a (HL.out w6 g7a) hp1 (by omega) HSl2.out Y hY
      clear hnb
      cases Y with
      | error z =>
       obtain⟨a,e⟩:=z
       dsimp only at hX
       subst hX
       refine hdvr.mono ?_
       rintro x w7 ⟨⟨g,rfl,hg⟩,hgr⟩
       have hfin:=ZdT g7a hgr
       go_wp2
       exact⟨rfl,⟨_,rfl,hg⟩,hfin⟩
      | ok z =>
       obtain⟨p2,r2⟩:=z
       obtain⟨hc1,hc2,hc3⟩:=Zkb hY
       rw[List.drop_drop] at hc1
       have hr2e:r2=L.drop p2:=by rw[hc1,hc2]
       have hp2:p2≤L.length:=(by rw[List.length_drop] at hc3;omega)
       subst hr2e
       clear hc1 hc2 hc3 hY
       dsimp only at hX
       obtain⟨X2,hX2⟩:∃ X2,sdC [62,32] 43 bn p2 (L.drop p2)=X2:=⟨_,rfl⟩
       have HX2:Hid (sdC [62,32] 43 bn p2 (L.drop p2)=X2):=hX2
       rw[hX2] at hX
       have HXf:Hid (X=hkEnd A (an:Int) B (bn:Int) l1 X2):=(by show _=_;rw[← hX];unfold hkEnd;rfl)
       clear hX hX2
       refine hdvr.mono ?_
       rintro x w7 ⟨rfl,q7,hg7⟩
       have hx7:=hx7a.keep hg7 (fun e=>hHR (Option.some.inj e))
       have hr7:=hr7a.keep hg7 (fun e=>hQR (Option.some.inj e))
       have hown7:=ZhI hown7a hg7 hRB
       have g7:=ZdT g7a hg7
       have hw37:w3.heap.size≤w7.heap.size:=Nat.le_trans hz7a hg7.size
       clear hx7a hr7a hown7a q7a g7a hz7a hg7 hdvr hp1
       obtain⟨e0,e1,e2,e3,e4⟩:=hx7.cells
       have hg7s:w.heap.size≤w7.heap.size:=g7.size
       have HL7:Hid (∀ u,Fr w3.heap.size R w7 u→HS u (.slice lo L.length lc) L):=fun u hu=>HL.out u (ZdQ g7 hu hw3)
       have hs2:=Zhe w7 q7 HL7 HPl hp2 (by omega) HSl2 hw37 hRB [62,32] HG2 43 bn (by omega) (.slice o1 l1.length c1) l1 hl1k hown7 X2 HX2
       clear HL7
       go_wp2_with fail
       refine hs2.mono ?_
       cases X2 with
       | error z =>
        obtain⟨a,e⟩:=z
        have hXe:X=.error (a,e):=HXf.out
        subst hXe
        rintro x w8 ⟨⟨g,rfl,hg⟩,hgr⟩
        have hfin:=ZdQ g7 hgr hw3
        go_wp2
        exact⟨rfl,⟨_,rfl,hg⟩,hfin⟩
       | ok z =>
        obtain⟨l2,p3,r3⟩:=z
        have hXe:X=.ok (⟨A,(an:Int),B,(bn:Int),l1++l2⟩,p3,r3):=HXf.out
        subst hXe
        rintro x w8 ⟨v2,rfl,hown8,q8,hF8⟩
        obtain⟨o2,c2,rfl⟩:=(Zeo hown8).form
        have hx8:=hx7.fr hF8 hHl hHR
        have hr8:=hr7.fr hF8 hQl hQR
        have hg8:=ZdQ g7 hF8 hw3
        have hne8:(Value.slice o2 (l1++l2).length c2).ownBlock≠some H:=(by intro e;have:=ZhJ hown8 e;omega)
        have hne8q:(Value.slice o2 (l1++l2).length c2).ownBlock≠some w.heap.size:=(by intro e;have:=ZhJ hown8 e;omega)
        have hx9:=hx8.put4 (l1++l2) (.slice o2 (l1++l2).length c2)
        have hgs9:=ZdS w8 H 4 (.slice o2 (l1++l2).length c2)
        have hr9:=hr8.keep hgs9 (fun e=>hQH (Option.some.inj e))
        have hown9:=hown8.kept hgs9 (.inr hne8)
        have q9:=q8.keep hgs9 (fun e=>hHR (Option.some.inj e).symm)
        have hg9:=ZdR hg8 (B:=H) (by omega) 4 (.slice o2 (l1++l2).length c2)
        obtain⟨i0,i1,i2,i3,i4⟩:=hx8.cells
        have if4:=hx8.frozen 4
        have HN2:Hid ((l1++l2).length=(l1++l2).length):=rfl
        generalize hM:(l1++l2).length=M at *
        obtain⟨z0,z1,z2,z3,z4⟩:=hx9.cells
        dsimp only at z0 z1 z2 z3 z4 i0 i1 i2 i3 i4
        obtain⟨y0,y1,y2,y3,y4⟩:=hr9.cells
        have yf0:=hr9.frozen 0
        have yf1:=hr9.frozen 1
        have yf2:=hr9.frozen 2
        have yf3:=hr9.frozen 3
        have yf4:=hr9.frozen 4
        have hP:=hr9.putH5 A (an:Int) B (bn:Int) (l1++l2) (.slice o2 M c2)
        have hgP:=((((ZdR hg9 (B:=w.heap.size) (Nat.le_refl _) 0 (.int .i64 A)) |> fun h=>ZdR h (B:=w.heap.size) (Nat.le_refl _) 1 (.int .i64 (an:Int))) |> fun h=>ZdR h (B:=w.heap.size) (Nat.le_refl _) 2 (.int .i64 B)) |> fun h=>ZdR h (B:=w.heap.size) (Nat.le_refl _) 3 (.int .i64 (bn:Int))) |> fun h=>ZdR h (B:=w.heap.size) (Nat.le_refl _) 4 (.slice o2 M c2)
        have hownP:=Zdn hown9 (b:=w.heap.size) hne8q A (an:Int) B (bn:Int) (.slice o2 M c2)
        have qP:=Zdo q9 (b:=w.heap.size) (by omega) A (an:Int) B (bn:Int) (.slice o2 M c2)
        clear hx9 hx8 hr8 hr9 hown8 hown9 q8 q9 hg8 hg9 hgs9 hF8
        go_wp2
        refine bodyPost_ret (v:=hkV ⟨A,(an:Int),B,(bn:Int),l1++l2⟩ (.slice o2 M c2)) (results_cell_row rfl _ _ w.heap.size 45 #[.int .i64 A,.int .i64 (an:Int),.int .i64 B,.int .i64 (bn:Int),.slice o2 M c2] (0,0) _ rfl hP Tryz.underlying45 rfl (by kernel_rfl)) rfl ⟨_,rfl,?_,qP,hgP⟩
        dsimp only
        rw[hM]
        exact ZhM hownP (Nat.le_of_lt (by omega))
end

section
open Go.RowKit
theorem Zbe (p q:Addr) (w:World) :
  CallsD Tryz.prog 267 #[.pointer (some p),.pointer (some q)] .returning w fun e u' w'=>e=.returned (.tuple #[])∧u'=.returning∧w'=w:=by
 refine callsD_of_wpS Tryz.func267 rfl fun c₀ cs hu=>?_
 apply wpS_seq
 apply wpS_region
 simp[wpOpsS,go_sem,recoverD,hu,Tryz.ntmps267,Exit.thenS]
 apply wpS_seq
 apply wpS_region
 simp[wpOpsS,go_sem,Exit.thenS]
 refine wpS_cond (t:=false) (by simp[Act.eval,Array.replicate]) ?_
 simp only[Bool.false_eq_true,if_false]
 refine wpS_of_wp (wp_skip ?_)
 cases c₀
 simp_all [bodyPostS,results,Tryz.results267]
theorem Zbb (F0 F1 g:Nat) (v0 v1:Value) (older:List PanicEntry) (w:World) (h01:F0≠F1) (c0:w.cell? ⟨F0,0,none⟩=some v0) (f0:w.frozen? ⟨F0,0,none⟩=false) (c1:w.cell? ⟨F1,0,none⟩=some v1) (f1:w.frozen? ⟨F1,0,none⟩=false) :
  CallsD Tryz.prog 267 #[.pointer (some ⟨F0,0,none⟩),.pointer (some ⟨F1,0,none⟩)] (.panicking ({ v:=.iface 62 (.pointer (some ⟨g,0,none⟩)),recovered:=false }::older)) w fun e u' w'=>e=.returned (.tuple #[])∧u'=.panicking ({ v:=.iface 62 (.pointer (some ⟨g,0,none⟩)),recovered:=true }::older)∧w'=((w.setCell ⟨F0,0,none⟩ (.slice none 0 0)).setCell ⟨F1,0,none⟩ (.iface 62 (.pointer (some ⟨g,0,none⟩)))).drew:=by
 refine callsD_of_wpS Tryz.func267 rfl fun c₀ cs hu=>?_
 apply wpS_seq
 apply wpS_region
 simp[wpOpsS,go_sem,recoverD,hu,Tryz.ntmps267,Exit.thenS]
 apply wpS_seq
 apply wpS_region
 simp[wpOpsS,go_sem,Exit.thenS]
 refine wpS_cond (t:=true) (by simp[Act.eval,Array.replicate]) ?_
 simp only[if_true]
 refine wpS_of_wp ?_
 have hta:∀ (v:Value) (u:World),(Instr.typeAssert (.iface 62 v) 20 62 false).run Tryz.prog u=.ok v u:=fun _ _=>by kernel_rfl
 generalize hA:({ tmps:=_,defers:=[] }:Act)=A
 have hA2:A={ tmps:=#[.pointer (some ⟨F0,0,none⟩),.pointer (some ⟨F1,0,none⟩),.iface 62 (.pointer (some ⟨g,0,none⟩)),.iface 62 (.pointer (some ⟨g,0,none⟩)),.iface 62 (.pointer (some ⟨g,0,none⟩)),.bool true,undef,undef,undef],defers:=[] }:=hA.symm.trans rfl
 subst hA2
 clear hA
 go_region
 cases c₀
 simp_all [bodyPostS,results,Tryz.results267]
end

section
open Go.RowKit
def PanQ (Q:Exit→Act→World→Prop) (Pn:List PanicEntry→World→Prop) (p2 p3:Value) (ds:List Deferred):Exit→Act→World→Prop
 | .panic c,a,w=>Pn c w∧a.tmps.getD 2 undef=p2∧a.tmps.getD 3 undef=p3∧a.defers=ds
 | .normal,a,w=>Q .normal a w
 | _,_,_=>False
theorem PanQ.normal {Q:Exit→Act→World→Prop} {Pn:List PanicEntry→World→Prop} {p2 p3:Value} {ds:List Deferred} {a:Act} {w:World} (h:Q .normal a w):PanQ Q Pn p2 p3 ds .normal a w:=h
theorem Zml {P:Program} {id:Nat} {ops:Array Oper} {b:Bool} {Q:Exit→Act→World→Prop} {a:Act} {w:World} (Pn:List PanicEntry→World→Prop) (p2 p3:Value) (ds:List Deferred) (hP:∀ c a w,Pn c w→a.tmps.getD 2 undef=p2→a.tmps.getD 3 undef=p3→a.defers=ds→Q (.panic c) a w) (h:(Code.region id ops b).wp P (PanQ Q Pn p2 p3 ds) a w):(Code.region id ops b).wp P Q a w:=by
 refine Code.wp_mono (fun e a w h=>?_) h
 cases e with
 | panic c=>exact hP c a w h.1 h.2.1 h.2.2.1 h.2.2.2
 | normal=>exact h
 | _=>exact (h:False).elim
theorem Zia {Q:Exit→Act→World→Prop} {Pn:List PanicEntry→World→Prop} {p2 p3:Value} {ds:List Deferred} {d:Nat} {v:Value} (h2:d≠2) (h3:d≠3):∀ c a w,PanQ Q Pn p2 p3 ds (.panic c) (a.put (some d) v) w→PanQ Q Pn p2 p3 ds (.panic c) a w:=by
 rintro c a w ⟨x1,x2,x3,x4⟩
 refine⟨x1,?_,?_,x4⟩
 ·rw[← x2]
  simp[Act.put,Array.getD_eq_getD_getElem?,Array.getElem?_setIfInBounds_ne h2]
 ·rw[← x3]
  simp[Act.put,Array.getD_eq_getD_getElem?,Array.getElem?_setIfInBounds_ne h3]
theorem ZaX {P:Program} {A:Act} {op:Oper} {w:World} {F:Nat} {x:Operand} {xs:Array Operand} {ts:Array TypeId} (ho:op.op=.call { callee:=.value x,args:=xs,argTypes:=ts }) {cap:Array Value} (hxv:A.eval x=.func (.func F) #[] cap) {args:Array Value} (hx:xs.map A.eval=args) (hen:∀ args w,(callFunc F args).run P w=.ok (.enter F args) w):(execOp A.eval op).run P w=.ok (.enter F (args++cap)) w:=by
 have h1:=hen (args++cap) w
 simp only[execOp,ho,resolve,invoke]
 simp only[hxv,Deferred.ofValue,Sem.run_bind,Sem.run_pure,Result.andThen_ok,hx,Array.empty_append]
 exact h1
theorem ZdE {P:Program} {S:World→Prop} {md:Region.Mode} {ops:Array Oper} {Q:Exit→Act→World→Prop} {fuel:Nat} {listed:Array Bool} {A:Act} {w:World}
  (i d:Nat) (op:Oper) (hi:ops[i]?=some op) (hd:op.dst=some d) (hr:Region.ready md ops listed=[i]) (hwt:Region.wanted op (yielded ops A.tmps)=true)
  (F:Nat) (x:Operand) (xs:Array Operand) (ts:Array TypeId) (ho:op.op=.call { callee:=.value x,args:=xs,argTypes:=ts })
  (cap:Array Value) (hxv:A.eval x=.func (.func F) #[] cap) (args:Array Value) (hx:xs.map A.eval=args) (hen:∀ args w,(callFunc F args).run P w=.ok (.enter F args) w) (R:Value→World→Prop) (Pn:List PanicEntry→World→Prop)
  (hp:∀ c w',Pn c w'→Q (.panic c) A w')
  (hc:Calls P F (args++cap) w fun e w'=>(∃ v,e=.returned v∧S w'∧R v w')∨(∃ c,e=.panicked c∧Pn c w'))
  (h:∀ v w',S w'→R v w'→wpAnyH P md ops Q S fuel (listed.setIfInBounds i true) (A.put (some d) v) w') :
  wpAnyH P md ops Q S (fuel+1) listed A w:=by
 refine wpAnyH_ready hr (by simp) (AllReadyH.cons hi (fun K hK=>?_) AllReadyH.nil)
 refine ZkF hwt ?_
 unfold Oper.wp
 rw[ZaX ho hxv hx hen,Oper.upon_enter]
 refine hc.mono ?_
 rintro e w' (⟨v,rfl,hb,hR⟩ | ⟨c,rfl,hpn⟩)
 ·exact hK.out _ _ hb (fun hu=>by rw[hd];exact h v w' hu hR)
 ·exact hp c w' hpn
theorem ZdL {P:Program} {S:World→Prop} {md:Region.Mode} {ops:Array Oper} {Q:Exit→Act→World→Prop} {fuel:Nat} {listed:Array Bool} {A:Act} {w:World}
  (j e:Nat) (oq:Oper) (i d:Nat) (op:Oper) (hj:ops[j]?=some oq) (he:oq.dst=some e) (hi:ops[i]?=some op) (hd:op.dst=some d) (hr:Region.ready md ops listed=[j,i]) (hwq:Region.wanted oq (yielded ops A.tmps)=true) (hwt:Region.wanted op (yielded ops A.tmps)=true)
  (vq:Value) (wq:World) (hq:(execOp A.eval oq).run P w=.ok (.value vq) wq) (hS:S wq)
  (F:Nat) (x:Operand) (xs:Array Operand) (ts:Array TypeId) (ho:op.op=.call { callee:=.value x,args:=xs,argTypes:=ts })
  (cap:Array Value) (hxv:A.eval x=.func (.func F) #[] cap) (args:Array Value) (hx:xs.map A.eval=args) (hen:∀ args w,(callFunc F args).run P w=.ok (.enter F args) w) (R:Value→World→Prop) (Pn:List PanicEntry→World→Prop)
  (hp:∀ c w',Pn c w'→Q (.panic c) A w')
  (hc:Calls P F (args++cap) w fun e w'=>(∃ v,e=.returned v∧S w'∧R v w')∨(∃ c,e=.panicked c∧Pn c w'))
  (h2:wpAnyH P md ops Q S fuel (listed.setIfInBounds j true) (A.put (some e) vq) wq)
  (h:∀ v w',S w'→R v w'→wpAnyH P md ops Q S fuel (listed.setIfInBounds i true) (A.put (some d) v) w') :
  wpAnyH P md ops Q S (fuel+1) listed A w:=by
 refine wpAnyH_ready hr (by simp) (AllReadyH.cons hj (fun K hK=>?_) (AllReadyH.cons hi (fun K hK=>?_) AllReadyH.nil))
 ·refine ZkF hwq ?_
  unfold Oper.wp
  rw[hq,Oper.upon_value]
  exact hK.out _ _ hS (fun _=>by rw[he];exact h2)
 ·refine ZkF hwt ?_
  unfold Oper.wp
  rw[ZaX ho hxv hx hen,Oper.upon_enter]
  refine hc.mono ?_
  rintro e w' (⟨v,rfl,hb,hR⟩ | ⟨c,rfl,hpn⟩)
  ·exact hK.out _ _ hb (fun hu=>by rw[hd];exact h v w' hu hR)
  ·exact hp c w' hpn
theorem Zji (tmps:Array Value) (u:World) (F0 F1 n c:Nat) (o:Option Addr) (v1:Value) (h2:tmps.getD 2 undef=.pointer (some ⟨F0,0,none⟩)) (h3:tmps.getD 3 undef=.pointer (some ⟨F1,0,none⟩)) (c0:u.cell? ⟨F0,0,none⟩=some (.slice o n c)) (c1:u.cell? ⟨F1,0,none⟩=some v1) :
  (results Tryz.f221 tmps).run Tryz.prog u=.ok (.tuple #[.slice o n c,v1]) u:=by
 have hL0:(loadVar 40 ⟨F0,0,none⟩).run Tryz.prog u=.ok (.slice o n c) u:=by
  simp[loadVar,isAgg,underlying,Tryz.underlying40,c0,Result.andThen]
 have hL1:(loadVar 24 ⟨F1,0,none⟩).run Tryz.prog u=.ok v1 u:=by
  simp[loadVar,isAgg,underlying,Tryz.underlying24,c1,Result.andThen]
 have e2:tmps[2]?.getD undef=.pointer (some ⟨F0,0,none⟩):=by rw[← h2];simp
 have e3:tmps[3]?.getD undef=.pointer (some ⟨F1,0,none⟩):=by rw[← h3];simp
 simp[results,Tryz.results221,e2,e3,asAddr,hL0,hL1,Result.andThen]
end

section
open Go.RowKit
theorem ZhD {u:World} {B:Nat} {e t:TypeId} {s:Nat} {v:Value} {n k:Nat} {xs:List Value} {cs:Array Value} {fr:Nat × Nat} (h:u.ownsRow B e s v n xs) (hb:u.heap[k]?=some (.cells cs t fr)) (he:e≠t):v.ownBlock≠some k:=by
 intro hg
 rcases h.2 with ⟨rfl,_⟩ | ⟨g,cap,cur,rfl,_,hg2,_⟩
 ·cases hg
 ·simp[Value.ownBlock] at hg
  subst hg
  rw[hb] at hg2
  simp at hg2
  exact he hg2.2.1.symm
def ryAt (u:World) (R:Nat):Nat:=match u.heap[R]? with
 | some (.cells cs _ _)=>match cs[1]? with
  | some (Value.int _ p)=>p.toNat
  | _=>0
 | _=>0
theorem ZjN {u:World} {R:Nat} {vL:Value} {p:Nat} (h:Ry u R vL (p:Int)):ryAt u R=p:=by
 unfold Ry ryO at h
 unfold ryAt
 rw[h]
 simp
structure RdS (w:World) (vL:Value) (ov:Value) (P:List (Hk × Value)) (p:Int) (u:World):Prop where
 hs:Hs w ov P u
 f0:u.heap[w.heap.size]?=some (.cells #[ov] 40)
 f1:u.heap[w.heap.size+1]?=some (.cells #[.nilIface] 24)
 ry:Ry u (w.heap.size+1+1) vL p
section
variable {w u u':World} {vL ov:Value} {P:List (Hk × Value)} {p p':Int}
theorem RdS.c0 (h:RdS w vL ov P p u):u.cell? ⟨w.heap.size,0,none⟩=some ov:=by rw[Lib.cell_of_heap h.f0];rfl
theorem RdS.drew (h:RdS w vL ov P p u):RdS w vL ov P p u.drew:=⟨⟨h.hs.low.drew,h.hs.own,h.hs.ins⟩,h.f0,h.f1,h.ry⟩
theorem RdS.alloc (h:RdS w vL ov P p u) (o:Obj):RdS w vL ov P p (u.alloc o) :=
 have hl:∀ k x,u.heap[k]?=some x→(u.alloc o).heap[k]?=some x:=fun k _ hk=>(Lib.alloc_old u o k (Array.getElem?_eq_some_iff.1 hk).1).trans hk
 ⟨h.hs.alloc o,hl _ _ h.f0,hl _ _ h.f1,hl _ _ h.ry⟩
theorem RdS.alloc_c0 (h:RdS w vL ov P p u) (o:Obj):(u.alloc o).cell? ⟨w.heap.size,0,none⟩=some ov:=(h.alloc o).c0
theorem RdS.call (h:RdS w vL ov P p u) (hg:u.grownBy u' (some (w.heap.size+1+1))) (q:Ry u' (w.heap.size+1+1) vL p'):RdS w vL ov P p' u':=by
 have hk:∀ k x,k≠w.heap.size+1+1→u.heap[k]?=some x→u'.heap[k]?=some x:=fun k _ hk hx=>(hg.block k (Array.getElem?_eq_some_iff.1 hx).1 (fun e=>hk (Option.some.inj e))).trans hx
 refine⟨h.hs.grown hg (fun k e=>by cases e;omega) (fun k e=>by cases e;exact ZhD h.hs.own h.ry (by decide)) (fun x hx k e=>by cases e;exact ZhD (h.hs.ins x hx) h.ry (by decide)),hk _ _ (by omega) h.f0,hk _ _ (by omega) h.f1,q⟩
theorem RdS.more (h:RdS w vL ov P p u) {x:Hk} {y ov':Value} (hy:u.ownsRow w.heap.size 47 2 y x.ls.length (mkcells x.ls)) (hg:u.grownBy u' ov.ownBlock) (ho:u'.ownsRow w.heap.size 45 5 ov' (P.length+1) (hkcells P++hkC x y)) :
  RdS w vL ov' (P++[(x,y)]) p (u'.setCell ⟨w.heap.size,0,none⟩ ov')∧u'.cell? ⟨w.heap.size,0,none⟩=some ov∧u'.frozen? ⟨w.heap.size,0,none⟩=false:=by
 have hs:=h.hs.more hy hg ho
 have hk:∀ (k:Nat) (cs:Array Value) (t:TypeId) (fr:Nat × Nat),t≠45→u.heap[k]?=some (Obj.cells cs t fr)→u'.heap[k]?=some (Obj.cells cs t fr):=fun k cs t fr ht hx=>(hg.block k (Array.getElem?_eq_some_iff.1 hx).1 (fun e=>ZhD h.hs.own hx ht.symm e.symm)).trans hx
 have f0:=hk _ _ _ _ (by decide) h.f0
 have f1:=hk _ _ _ _ (by decide) h.f1
 have ry:Ry u' (w.heap.size+1+1) vL p:=hk _ _ _ _ (by decide) h.ry
 have hg2:=ZdS u' w.heap.size 0 ov'
 refine⟨⟨hs.grown hg2 (fun k e=>by cases e;omega) (fun k e=>by cases e;exact ZhD hs.own f0 (by decide)) (fun x hx k e=>by cases e;exact ZhD (hs.ins x hx) f0 (by decide)),heap_setCell_same u' _ 0 _ _ ov' f0,?_,ry.keep hg2 (fun e=>by have:=Option.some.inj e;omega)⟩,by rw[Lib.cell_of_heap f0];rfl,Lib.frozen_of_heap f0 0⟩
 exact (Below.heap_setCell _ _ _ _ (by simp)).trans f1
end
theorem ZfI {u:World} {a:Addr} {o:Option Addr} {n c:Nat} (h:u.cell? a=some (.slice o n c)) {op:Oper} (x:Operand) (ho:op.op=.load 40 x) {ev:Operand→Value} (hx:ev x=.pointer (some a)) :
  (execOp ev op).run Tryz.prog u=.ok (.value (.slice o n c)) u:=by
 simp only[execOp,ho,hx]
 go_simp
theorem ZcY {u:World} {a:Addr} {v0:Value} (hc:u.cell? a=some v0) (hf:u.frozen? a=false) {o:Option Addr} {n c:Nat} {op:Oper} (x y:Operand) (ho:op.op=.store 40 x y) {ev:Operand→Value} (hx:ev x=.pointer (some a)) (hy:ev y=.slice o n c) :
  (execOp ev op).run Tryz.prog u=.ok .skip (u.setCell a (.slice o n c)):=by
 simp only[execOp,ho,hx,hy]
 go_simp
def thenH (l:List Hk) (X:Except (Nat × Int) (List Hk)):Except (Nat × Int) (List Hk) :=
 match X with
 | .error e=>.error e
 | .ok m=>.ok (l++m)
def RdQ (w:World) (X:Except (Nat × Int) (List Hk)) (e:Ending) (w':World):Prop :=
 match X with
 | .error (a,z)=>∃ g,e=.returned (.tuple #[.slice none 0 0,.iface 62 (.pointer (some ⟨g,0,none⟩))])∧w'.heap[g]?=some (fltO (a:Int) z)∧Below w.heap.size w w'
 | .ok l=>∃ v' P,e=.returned (.tuple #[v',.nilIface])∧Hs w v' P w'∧P.map (·.1)=l
def PnQ (w:World) (X:Except (Nat × Int) (List Hk)) (c:List PanicEntry) (u:World):Prop :=
 ∃ (g a:Nat) (z:Int) (v0:Value),c=[{ v:=.iface 62 (.pointer (some ⟨g,0,none⟩)),recovered:=false }]∧u.heap[g]?=some (fltO (a:Int) z)∧X=.error (a,z)∧Below w.heap.size w u∧u.heap[w.heap.size]?=some (.cells #[v0] 40)∧u.heap[w.heap.size+1]?=some (.cells #[.nilIface] 24)
theorem Ziy {w:World} {X:Except (Nat × Int) (List Hk)}:∀ c (a:Act) u,PnQ w X c u→a.tmps.getD 2 undef=.pointer (some ⟨w.heap.size,0,none⟩)→a.tmps.getD 3 undef=.pointer (some ⟨w.heap.size+1,0,none⟩)→a.defers=[{ target:=.fn (.func 267) #[.pointer (some ⟨w.heap.size,0,none⟩),.pointer (some ⟨w.heap.size+1,0,none⟩)],args:=#[] }]→bodyPostD Tryz.prog Tryz.f221 (fun e w'=>RdQ w X e w') (.panic c) a u:=by
 rintro c a u ⟨g,pa,z,v0,rfl,hg,rfl,hlow,f0,f1⟩ h2 h3 hd
 show Leaves Tryz.prog Tryz.f221 a.tmps (fun e w'=>RdQ w (.error (pa,z)) e w') a.defers _ u
 rw[hd]
 have g0:g≠w.heap.size:=(by rintro rfl;rw[f0] at hg;unfold fltO at hg;simp at hg)
 have g1:g≠w.heap.size+1:=(by rintro rfl;rw[f1] at hg;unfold fltO at hg;simp at hg)
 refine leaves_cons (f:=267) (args:=#[.pointer (some ⟨w.heap.size,0,none⟩),.pointer (some ⟨w.heap.size+1,0,none⟩)]) (by simp) (by simp[go_sem]) ?_
 refine (Zbb w.heap.size (w.heap.size+1) g v0 .nilIface [] u (by omega) (by rw[Lib.cell_of_heap f0];rfl) (Lib.frozen_of_heap f0 0) (by rw[Lib.cell_of_heap f1];rfl) (Lib.frozen_of_heap f1 0)).mono ?_
 rintro e u' w'' ⟨rfl,rfl,rfl⟩
 have s0:=heap_setCell_same u w.heap.size 0 _ _ (.slice none 0 0) f0
 have s1:(u.setCell ⟨w.heap.size,0,none⟩ (.slice none 0 0)).heap[w.heap.size+1]?=some (.cells #[.nilIface] 24):=(Below.heap_setCell _ _ _ _ (by simp)).trans f1
 have s2:=heap_setCell_same _ (w.heap.size+1) 0 _ _ (.iface 62 (.pointer (some ⟨g,0,none⟩))) s1
 have s3:((u.setCell ⟨w.heap.size,0,none⟩ (.slice none 0 0)).setCell ⟨w.heap.size+1,0,none⟩ (.iface 62 (.pointer (some ⟨g,0,none⟩)))).heap[w.heap.size]?=some (.cells #[.slice none 0 0] 40):=(Below.heap_setCell _ _ _ _ (by simp)).trans s0
 have s4:((u.setCell ⟨w.heap.size,0,none⟩ (.slice none 0 0)).setCell ⟨w.heap.size+1,0,none⟩ (.iface 62 (.pointer (some ⟨g,0,none⟩)))).heap[g]?=some (fltO (pa:Int) z):=((Below.heap_setCell _ _ _ _ (by simpa using g1)).trans (Below.heap_setCell _ _ _ _ (by simpa using g0))).trans hg
 have hl:Below w.heap.size w ((u.setCell ⟨w.heap.size,0,none⟩ (.slice none 0 0)).setCell ⟨w.heap.size+1,0,none⟩ (.iface 62 (.pointer (some ⟨g,0,none⟩)))).drew:=((hlow.setCell (Nat.le_refl _) _).setCell (by show w.heap.size≤w.heap.size+1;omega) _).drew
 generalize (u.setCell ⟨w.heap.size,0,none⟩ (.slice none 0 0)).setCell ⟨w.heap.size+1,0,none⟩ (.iface 62 (.pointer (some ⟨g,0,none⟩)))=W at *
 exact⟨_,Zji a.tmps W.drew w.heap.size (w.heap.size+1) 0 0 none _ h2 h3 (by rw[Lib.cell_of_heap (w:=W.drew) s3];rfl) (by rw[Lib.cell_of_heap (w:=W.drew) s2];rfl),g,rfl,s4,hl⟩
theorem Zhd (L:List (List UInt8)) (lo:Option Addr) (lc:Nat) (w:World) (hL:HS w (.slice lo L.length lc) L) (HPl:Hid (Plain L)) (hLl:L.length≤1048576) (HSl:Hid (∀ s∈L,s.length≤1048576)) (X:Except (Nat × Int) (List Hk)) (HX:Hid (hksK L.length 0 0 L=X)) :
  Calls Tryz.prog 221 #[.slice lo L.length lc] w fun e w'=>RdQ w X e w':=by
 have hmf:∀ (fn:Fn) (first cap:Array Value) (w:World),(Instr.makeFunc fn first cap).run Tryz.prog w=.ok (.func fn first cap) w:=fun _ _ _ _=>rfl
 obtain⟨Pn,hPnd⟩:∃ Pn,PnQ w X=Pn:=⟨_,rfl⟩
 have HPn:Hid (∀ c (a:Act) u,Pn c u→a.tmps.getD 2 undef=.pointer (some ⟨w.heap.size,0,none⟩)→a.tmps.getD 3 undef=.pointer (some ⟨w.heap.size+1,0,none⟩)→a.defers=[{ target:=.fn (.func 267) #[.pointer (some ⟨w.heap.size,0,none⟩),.pointer (some ⟨w.heap.size+1,0,none⟩)],args:=#[] }]→bodyPostD Tryz.prog Tryz.f221 (fun e w'=>RdQ w X e w') (.panic c) a u):=(by rw[← hPnd];exact Ziy)
 have HPd:Hid (PnQ w X=Pn):=hPnd
 clear hPnd
 have hR0:RdS w (.slice lo L.length lc) (.slice none 0 0) [] ((0:Nat):Int) (((w.alloc (.cells #[.slice none 0 0] 40)).alloc (.cells #[.nilIface] 24)).alloc (.cells #[.slice lo L.length lc,.int .i64 0] 317)):=(by
  have a1:=heap_alloc_new w (.cells #[.slice none 0 0] 40)
  have a2:=heap_alloc_new (w.alloc (.cells #[.slice none 0 0] 40)) (.cells #[.nilIface] 24)
  have a3:=heap_alloc_new ((w.alloc (.cells #[.slice none 0 0] 40)).alloc (.cells #[.nilIface] 24)) (.cells #[.slice lo L.length lc,.int .i64 0] 317)
  have z1:(w.alloc (.cells #[.slice none 0 0] 40)).heap.size=w.heap.size+1:=by simp
  have z2:((w.alloc (.cells #[.slice none 0 0] 40)).alloc (.cells #[.nilIface] 24)).heap.size=w.heap.size+1+1:=by simp
  rw[z1] at a2
  rw[z2] at a3
  have hb1:Below w.heap.size w (w.alloc (.cells #[.slice none 0 0] 40)):=(Below.refl _ w).alloc (Nat.le_refl _) _
  have hb2:=hb1.alloc hb1.size (.cells #[.nilIface] 24)
  have hb3:=hb2.alloc hb2.size (.cells #[.slice lo L.length lc,.int .i64 0] 317)
  refine⟨⟨hb3,Zen _ _ _ _,fun x hx=>by cases hx⟩,?_,?_,a3⟩
  ·exact (Lib.alloc_old _ _ _ (by rw[z2];omega)).trans ((Lib.alloc_old _ _ _ (by rw[z1];omega)).trans a1)
  ·exact (Lib.alloc_old _ _ _ (by rw[z2];omega)).trans a2)
 have HX0:Hid (thenH (([]:List (Hk × Value)).map (·.1)) (hksK L.length ([]:List (Hk × Value)).length 0 (L.drop 0))=X):=(by
  show _=_
  rw[← HX.out]
  simp only[List.map_nil,List.drop_zero,List.length_nil]
  cases hksK L.length 0 0 L<;>rfl)
 clear HX
 go_enter_defers Tryz.func221,Tryz.ntmps221
 go_wp2
 go_loopw [] (fun wr=>∃ (ov:Value) (P:List (Hk × Value)) (p f:Nat),(∃ o c,ov=.slice o P.length c)∧RdS w (.slice lo L.length lc) ov P (p:Int) wr∧p≤L.length∧P.length≤4096∧(L.drop p).length≤f∧Hid (thenH (P.map (·.1)) (hksK f P.length p (L.drop p))=X)) (fun wr=>L.length-ryAt wr (w.heap.size+1+1))
 case atStart=>exact⟨_,[],0,L.length,⟨none,0,rfl⟩,hR0,Nat.zero_le _,Nat.zero_le _,by simp,HX0⟩
 case round =>
 clear hR0 HX0
 obtain⟨ov,P,p,f,⟨o,c,rfl⟩,hR,hp,hPl,hf,HI⟩:=hrel
 obtain⟨d0,d1⟩:=hR.ry.cells
 by_cases hlt:p<L.length
 ·have hfl:0<f:=(by rw[List.length_drop] at hf;omega)
  obtain⟨f',rfl⟩:∃ f',f=f'+1:=⟨f-1,by omega⟩
  have hne:L.drop p≠[]:=(by intro h;have:=congrArg List.length h;rw[List.length_drop] at this;simp at this;omega)
  have HIe:Hid (∀ e,hkK P.length p (L.drop p)=.error e→X=.error e):=(by
   intro e he
   rw[← HI.out]
   simp only[hksK]
   rw[if_neg hne,he]
   rfl)
  have HN:Hid (∀ h p2 r,hkK P.length p (L.drop p)=.ok (h,p2,r)→p2≤L.length∧p<p2∧(L.drop p2).length≤f'∧P.length<4096∧r=L.drop p2):=(by
   intro h p2 r hk
   obtain⟨j,b1,b2,b3,b4,b5⟩:=Zec hk
   rw[List.length_drop] at b4 hf
   rw[List.drop_drop] at b1
   refine⟨by omega,by omega,by rw[List.length_drop];omega,by omega,by rw[b1,b2]⟩)
  have HN2:Hid (∀ h p2 r y,hkK P.length p (L.drop p)=.ok (h,p2,r)→Hid (thenH ((P++[(h,y)]).map (·.1)) (hksK f' (P++[(h,y)]).length p2 (L.drop p2))=X)):=(by
   intro h p2 r y hk
   show _=_
   have hr:=(HN.out h p2 r hk).2.2.2.2
   rw[← HI.out]
   simp only[hksK]
   rw[if_neg hne,hk]
   dsimp only
   rw[hr,List.length_append,List.map_append]
   show thenH (P.map (·.1)++[h]) (hksK f' (P.length+1) p2 (L.drop p2))=_
   cases hksK f' (P.length+1) p2 (L.drop p2) with
   | error e=>rfl
   | ok m=>simp[thenH])
  have hRd:=hR.drew
  obtain⟨Rr,hRr⟩:∃ Rr:Value→World→Prop,(fun v u=>∃ h p2 r vo vc,hkK P.length p (L.drop p)=.ok (h,p2,r)∧v=hkV h (.slice vo h.ls.length vc)∧RdS w (.slice lo L.length lc) (.slice o P.length c) P ((p2:Nat):Int) u∧u.ownsRow w.heap.size 47 2 (.slice vo h.ls.length vc) h.ls.length (mkcells h.ls))=Rr:=⟨_,rfl⟩
  have hcall:Calls Tryz.prog 268 (#[.pointer (some ⟨w.heap.size+1+1,0,none⟩),.int .i64 (P.length:Int)]++#[]) wr.drew fun e w'=>(∃ v,e=.returned v∧True∧Rr v w')∨(∃ c,e=.panicked c∧Pn c w'):=(by
   obtain⟨Y,hY⟩:∃ Y,hkK P.length p (L.drop p)=Y:=⟨_,rfl⟩
   have hsz:=hRd.hs.low.size
   refine (ZgU wr.drew hRd.ry (fun u hu=>HS.keep hL (hRd.hs.low.trans ⟨hu.os,hu.tape,hu.output,hu.size,fun k hk=>hu.block k (Nat.lt_of_lt_of_le hk hsz) (fun e=>by cases e;omega)⟩) (Nat.le_refl _)) HPl hp hLl HSl P.length hPl Y hY).mono ?_
   intro e w' hq
   cases Y with
   | error z =>
    obtain⟨a,z⟩:=z
    obtain⟨⟨g,rfl,hg⟩,hgr⟩:=hq
    right
    refine⟨_,rfl,?_⟩
    rw[← HPd.out]
    have hk:∀ k x,k≠w.heap.size+1+1→wr.drew.heap[k]?=some x→w'.heap[k]?=some x:=fun k _ hk hx=>(hgr.block k (Array.getElem?_eq_some_iff.1 hx).1 (fun e=>hk (Option.some.inj e))).trans hx
    exact⟨g,a,z,_,rfl,hg,HIe.out _ hY,hRd.hs.low.trans ⟨hgr.os,hgr.tape,hgr.output,hgr.size,fun k hk=>hgr.block k (Nat.lt_of_lt_of_le hk hsz) (fun e=>by cases e;omega)⟩,hk _ _ (by omega) hRd.f0,hk _ _ (by omega) hRd.f1⟩
   | ok z =>
    obtain⟨h,p2,r⟩:=z
    obtain⟨v',rfl,hown,q,hgr⟩:=hq
    obtain⟨vo,vc,rfl⟩:=(Zeo hown).form
    left
    rw[← hRr]
    exact⟨_,rfl,trivial,h,p2,r,vo,vc,hY,rfl,hRd.call hgr q,ZhM hown hsz⟩)
  have i1:(p:Int)<(L.length:Int):=by omega
  have HRr:Hid (_=Rr):=hRr
  clear hRr
  go_upto_region 4 with fail
  refine Zml Pn (.pointer (some ⟨w.heap.size,0,none⟩)) (.pointer (some ⟨w.heap.size+1,0,none⟩)) [{ target:=.fn (.func 267) #[.pointer (some ⟨w.heap.size,0,none⟩),.pointer (some ⟨w.heap.size+1,0,none⟩)],args:=#[] }] (fun c a u h1 h2 h3 h4=>HPn.out c a u h1 h2 h3 h4) ?_
  refine wp_region_held_drew (S:=fun _=>True) (by kernel_rfl) trivial (fun _=>?_)
  generalize wr.drew=wd at hRd hcall ⊢
  have c0d:=hRd.c0
  refine ZdJ 0 13 _ 1 14 _ rfl (by kernel_rfl) rfl (by kernel_rfl) (by kernel_rfl) (by kernel_rfl) (by kernel_rfl) (.slice o P.length c) wd (ZfI c0d (.tmp 2) (by kernel_rfl) (by kernel_rfl)) trivial (.slice o P.length c) wd (ZfI c0d (.tmp 2) (by kernel_rfl) (by kernel_rfl)) trivial ?_ ?_
  ·simp only[Act.put,Y_a,Y_b,Y_c]
   refine Y_v 1 14 _ rfl (.slice o P.length c) wd (ZfI c0d (.tmp 2) (by kernel_rfl) (by kernel_rfl)) trivial ?_
   simp only[Act.put,Y_a,Y_b,Y_c]
   refine ZdI 2 15 _ (.int .i64 (P.length:Int)) rfl (by kernel_rfl) (by kernel_rfl) (by kernel_rfl) (by kernel_rfl) (Zia (by decide) (by decide)) (Or.inl ⟨by kernel_rfl,fun u hu=>by kernel_rfl⟩) trivial ?_
   simp only[Act.put,Y_a,Y_b,Y_c]
   refine ZdE 3 16 _ rfl (by kernel_rfl) (by kernel_rfl) (by kernel_rfl) 268 (.func 268) #[.tmp 4,.tmp 15] #[317,3] (by kernel_rfl) #[] (by kernel_rfl) #[.pointer (some ⟨w.heap.size+1+1,0,none⟩),.int .i64 (P.length:Int)] (by kernel_rfl) (enters_of Tryz.func268 (by kernel_rfl) rfl) (Rr) (Pn) (fun c u h=>⟨h,rfl,rfl,rfl⟩) ?_ ?_
   ·exact hcall
   intro v0 u1 _ hq
   rw[← HRr.out] at hq
   obtain⟨h,p2,r,vo,vc,hk,rfl,hR1,hown1⟩:=hq
   have c1u:=hR1.c0
   have c2u:=hR1.alloc_c0 (hkO h (.slice vo h.ls.length vc))
   simp only[Act.put,Y_a,Y_b,Y_c]
   refine Y_v 4 17 _ rfl (.slice (some ⟨u1.heap.size,0,none⟩) 1 1) (u1.alloc (hkO h (.slice vo h.ls.length vc))) (by kernel_rfl) trivial ?_
   simp only[Act.put,Y_a,Y_b,Y_c]
   have hlt2:=HN.out h p2 r hk
   have hRA:=hR1.alloc (hkO h (.slice vo h.ls.length vc))
   have hownA:=hown1.alloc (hkO h (.slice vo h.ls.length vc))
   obtain⟨v3,u3,hr3,hown3,hg3,_⟩:=ZjJ (u1.alloc (hkO h (.slice vo h.ls.length vc))) 40 45 40 (.agg #[.int .i64 0,.int .i64 0,.int .i64 0,.int .i64 0,.slice none 0 0]) 5 56 Tryz.underlying40 infoHk rfl (by decide) (by decide) w.heap.size _ _ _ hRA.hs.own _ 1 (hkC h (.slice vo h.ls.length vc)) (Zhz u1 h (.slice vo h.ls.length vc)) rfl (Zeb _) (by omega) (Nat.le_trans hRA.hs.low.size (Nat.le_refl _))
   have hR3:=hRA.more hownA hg3 hown3
   obtain⟨o3,k3,rfl⟩:=(Zeo hown3).form
   refine Y_v 5 18 _ rfl (.slice o3 (P.length+1) k3) u3 (ZcT (.tmp 13) (.tmp 17) (by kernel_rfl) (by kernel_rfl) (by kernel_rfl) hr3) trivial ?_
   simp only[Act.put,Y_a,Y_b,Y_c]
   refine Y_s 6 _ rfl (u3.setCell ⟨w.heap.size,0,none⟩ (.slice o3 (P.length+1) k3)) (ZcY hR3.2.1 hR3.2.2 (.tmp 2) (.tmp 18) (by kernel_rfl) (by kernel_rfl) (by kernel_rfl)) trivial ?_
   refine wpAnyH_done (by kernel_rfl) ?_ _
   refine PanQ.normal ?_
   have hR4:=hR3.1
   go_wp2
   refine⟨⟨_,P++[(h,.slice vo h.ls.length vc)],p2,f',⟨o3,k3,by rw[List.length_append];rfl⟩,hR4,hlt2.1,by simp;omega,hlt2.2.2.1,HN2.out h p2 r _ hk⟩,?_⟩
   rw[ZjN hR4.ry,ZjN hR.ry]
   omega
  ·simp only[Act.put,Y_a,Y_b,Y_c]
   refine ZdI 2 15 _ (.int .i64 (P.length:Int)) rfl (by kernel_rfl) (by kernel_rfl) (by kernel_rfl) (by kernel_rfl) (Zia (by decide) (by decide)) (Or.inl ⟨by kernel_rfl,fun u hu=>by kernel_rfl⟩) trivial ?_
   simp only[Act.put,Y_a,Y_b,Y_c]
   refine ZdL 0 13 _ 3 16 _ rfl (by kernel_rfl) rfl (by kernel_rfl) (by kernel_rfl) (by kernel_rfl) (by kernel_rfl) (.slice o P.length c) wd (ZfI c0d (.tmp 2) (by kernel_rfl) (by kernel_rfl)) trivial 268 (.func 268) #[.tmp 4,.tmp 15] #[317,3] (by kernel_rfl) #[] (by kernel_rfl) #[.pointer (some ⟨w.heap.size+1+1,0,none⟩),.int .i64 (P.length:Int)] (by kernel_rfl) (enters_of Tryz.func268 (by kernel_rfl) rfl) (Rr) (Pn) (fun c u h=>⟨h,rfl,rfl,rfl⟩) ?_ ?_ ?_
   ·exact hcall
   ·simp only[Act.put,Y_a,Y_b,Y_c]
    refine ZdE 3 16 _ rfl (by kernel_rfl) (by kernel_rfl) (by kernel_rfl) 268 (.func 268) #[.tmp 4,.tmp 15] #[317,3] (by kernel_rfl) #[] (by kernel_rfl) #[.pointer (some ⟨w.heap.size+1+1,0,none⟩),.int .i64 (P.length:Int)] (by kernel_rfl) (enters_of Tryz.func268 (by kernel_rfl) rfl) (Rr) (Pn) (fun c u h=>⟨h,rfl,rfl,rfl⟩) ?_ ?_
    ·exact hcall
    intro v0 u1 _ hq
    rw[← HRr.out] at hq
    obtain⟨h,p2,r,vo,vc,hk,rfl,hR1,hown1⟩:=hq
    have c1u:=hR1.c0
    have c2u:=hR1.alloc_c0 (hkO h (.slice vo h.ls.length vc))
    simp only[Act.put,Y_a,Y_b,Y_c]
    refine Y_v 4 17 _ rfl (.slice (some ⟨u1.heap.size,0,none⟩) 1 1) (u1.alloc (hkO h (.slice vo h.ls.length vc))) (by kernel_rfl) trivial ?_
    simp only[Act.put,Y_a,Y_b,Y_c]
    have hlt2:=HN.out h p2 r hk
    have hRA:=hR1.alloc (hkO h (.slice vo h.ls.length vc))
    have hownA:=hown1.alloc (hkO h (.slice vo h.ls.length vc))
    obtain⟨v3,u3,hr3,hown3,hg3,_⟩:=ZjJ (u1.alloc (hkO h (.slice vo h.ls.length vc))) 40 45 40 (.agg #[.int .i64 0,.int .i64 0,.int .i64 0,.int .i64 0,.slice none 0 0]) 5 56 Tryz.underlying40 infoHk rfl (by decide) (by decide) w.heap.size _ _ _ hRA.hs.own _ 1 (hkC h (.slice vo h.ls.length vc)) (Zhz u1 h (.slice vo h.ls.length vc)) rfl (Zeb _) (by omega) (Nat.le_trans hRA.hs.low.size (Nat.le_refl _))
    have hR3:=hRA.more hownA hg3 hown3
    obtain⟨o3,k3,rfl⟩:=(Zeo hown3).form
    refine Y_v 5 18 _ rfl (.slice o3 (P.length+1) k3) u3 (ZcT (.tmp 13) (.tmp 17) (by kernel_rfl) (by kernel_rfl) (by kernel_rfl) hr3) trivial ?_
    simp only[Act.put,Y_a,Y_b,Y_c]
    refine Y_s 6 _ rfl (u3.setCell ⟨w.heap.size,0,none⟩ (.slice o3 (P.length+1) k3)) (ZcY hR3.2.1 hR3.2.2 (.tmp 2) (.tmp 18) (by kernel_rfl) (by kernel_rfl) (by kernel_rfl)) trivial ?_
    refine wpAnyH_done (by kernel_rfl) ?_ _
    refine PanQ.normal ?_
    have hR4:=hR3.1
    go_wp2
    refine⟨⟨_,P++[(h,.slice vo h.ls.length vc)],p2,f',⟨o3,k3,by rw[List.length_append];rfl⟩,hR4,hlt2.1,by simp;omega,hlt2.2.2.1,HN2.out h p2 r _ hk⟩,?_⟩
    rw[ZjN hR4.ry,ZjN hR.ry]
    omega
   ·intro v0 u1 _ hq
    rw[← HRr.out] at hq
    obtain⟨h,p2,r,vo,vc,hk,rfl,hR1,hown1⟩:=hq
    have c1u:=hR1.c0
    have c2u:=hR1.alloc_c0 (hkO h (.slice vo h.ls.length vc))
    simp only[Act.put,Y_a,Y_b,Y_c]
    refine ZdJ 0 13 _ 4 17 _ rfl (by kernel_rfl) rfl (by kernel_rfl) (by kernel_rfl) (by kernel_rfl) (by kernel_rfl) (.slice o P.length c) u1 (ZfI c1u (.tmp 2) (by kernel_rfl) (by kernel_rfl)) trivial (.slice (some ⟨u1.heap.size,0,none⟩) 1 1) (u1.alloc (hkO h (.slice vo h.ls.length vc))) (by kernel_rfl) trivial ?_ ?_
    ·simp only[Act.put,Y_a,Y_b,Y_c]
     refine Y_v 4 17 _ rfl (.slice (some ⟨u1.heap.size,0,none⟩) 1 1) (u1.alloc (hkO h (.slice vo h.ls.length vc))) (by kernel_rfl) trivial ?_
     simp only[Act.put,Y_a,Y_b,Y_c]
     have hlt2:=HN.out h p2 r hk
     have hRA:=hR1.alloc (hkO h (.slice vo h.ls.length vc))
     have hownA:=hown1.alloc (hkO h (.slice vo h.ls.length vc))
     obtain⟨v3,u3,hr3,hown3,hg3,_⟩:=ZjJ (u1.alloc (hkO h (.slice vo h.ls.length vc))) 40 45 40 (.agg #[.int .i64 0,.int .i64 0,.int .i64 0,.int .i64 0,.slice none 0 0]) 5 56 Tryz.underlying40 infoHk rfl (by decide) (by decide) w.heap.size _ _ _ hRA.hs.own _ 1 (hkC h (.slice vo h.ls.length vc)) (Zhz u1 h (.slice vo h.ls.length vc)) rfl (Zeb _) (by omega) (Nat.le_trans hRA.hs.low.size (Nat.le_refl _))
     have hR3:=hRA.more hownA hg3 hown3
     obtain⟨o3,k3,rfl⟩:=(Zeo hown3).form
     refine Y_v 5 18 _ rfl (.slice o3 (P.length+1) k3) u3 (ZcT (.tmp 13) (.tmp 17) (by kernel_rfl) (by kernel_rfl) (by kernel_rfl) hr3) trivial ?_
     simp only[Act.put,Y_a,Y_b,Y_c]
     refine Y_s 6 _ rfl (u3.setCell ⟨w.heap.size,0,none⟩ (.slice o3 (P.length+1) k3)) (ZcY hR3.2.1 hR3.2.2 (.tmp 2) (.tmp 18) (by kernel_rfl) (by kernel_rfl) (by kernel_rfl)) trivial ?_
     refine wpAnyH_done (by kernel_rfl) ?_ _
     refine PanQ.normal ?_
     have hR4:=hR3.1
     go_wp2
     refine⟨⟨_,P++[(h,.slice vo h.ls.length vc)],p2,f',⟨o3,k3,by rw[List.length_append];rfl⟩,hR4,hlt2.1,by simp;omega,hlt2.2.2.1,HN2.out h p2 r _ hk⟩,?_⟩
     rw[ZjN hR4.ry,ZjN hR.ry]
     omega
    ·simp only[Act.put,Y_a,Y_b,Y_c]
     refine Y_v 0 13 _ rfl (.slice o P.length c) (u1.alloc (hkO h (.slice vo h.ls.length vc))) (ZfI c2u (.tmp 2) (by kernel_rfl) (by kernel_rfl)) trivial ?_
     simp only[Act.put,Y_a,Y_b,Y_c]
     have hlt2:=HN.out h p2 r hk
     have hRA:=hR1.alloc (hkO h (.slice vo h.ls.length vc))
     have hownA:=hown1.alloc (hkO h (.slice vo h.ls.length vc))
     obtain⟨v3,u3,hr3,hown3,hg3,_⟩:=ZjJ (u1.alloc (hkO h (.slice vo h.ls.length vc))) 40 45 40 (.agg #[.int .i64 0,.int .i64 0,.int .i64 0,.int .i64 0,.slice none 0 0]) 5 56 Tryz.underlying40 infoHk rfl (by decide) (by decide) w.heap.size _ _ _ hRA.hs.own _ 1 (hkC h (.slice vo h.ls.length vc)) (Zhz u1 h (.slice vo h.ls.length vc)) rfl (Zeb _) (by omega) (Nat.le_trans hRA.hs.low.size (Nat.le_refl _))
     have hR3:=hRA.more hownA hg3 hown3
     obtain⟨o3,k3,rfl⟩:=(Zeo hown3).form
     refine Y_v 5 18 _ rfl (.slice o3 (P.length+1) k3) u3 (ZcT (.tmp 13) (.tmp 17) (by kernel_rfl) (by kernel_rfl) (by kernel_rfl) hr3) trivial ?_
     simp only[Act.put,Y_a,Y_b,Y_c]
     refine Y_s 6 _ rfl (u3.setCell ⟨w.heap.size,0,none⟩ (.slice o3 (P.length+1) k3)) (ZcY hR3.2.1 hR3.2.2 (.tmp 2) (.tmp 18) (by kernel_rfl) (by kernel_rfl) (by kernel_rfl)) trivial ?_
     refine wpAnyH_done (by kernel_rfl) ?_ _
     refine PanQ.normal ?_
     have hR4:=hR3.1
     go_wp2
     refine⟨⟨_,P++[(h,.slice vo h.ls.length vc)],p2,f',⟨o3,k3,by rw[List.length_append];rfl⟩,hR4,hlt2.1,by simp;omega,hlt2.2.2.1,HN2.out h p2 r _ hk⟩,?_⟩
     rw[ZjN hR4.ry,ZjN hR.ry]
     omega
 ·have hend:decide ((p:Int)<(L.length:Int))=false:=decide_eq_false (by omega)
  have hXv:X=.ok (P.map (·.1)):=(by
   rw[← HI.out,List.drop_eq_nil_of_le (by omega)]
   cases f with
   | zero=>simp[hksK,thenH]
   | succ f=>simp[hksK,thenH])
  have c0:=hR.c0
  have c1:wr.cell? ⟨w.heap.size+1,0,none⟩=some .nilIface:=by rw[Lib.cell_of_heap hR.f1];rfl
  have z0:=Lib.frozen_of_heap hR.f0 0
  have z1:=Lib.frozen_of_heap hR.f1 0
  have g0:=ZdS wr w.heap.size 0 (.slice o P.length c)
  have s0:=heap_setCell_same wr w.heap.size 0 _ _ (.slice o P.length c) hR.f0
  have h1:=hR.hs.grown g0 (fun k e=>by cases e;omega) (fun k e=>by cases e;exact ZhD hR.hs.own hR.f0 (by decide)) (fun x hx k e=>by cases e;exact ZhD (hR.hs.ins x hx) hR.f0 (by decide))
  have t1:(wr.setCell ⟨w.heap.size,0,none⟩ (.slice o P.length c)).heap[w.heap.size+1]?=some (.cells #[.nilIface] 24):=(Below.heap_setCell _ _ _ _ (by simp)).trans hR.f1
  have g1:=ZdS (wr.setCell ⟨w.heap.size,0,none⟩ (.slice o P.length c)) (w.heap.size+1) 0 .nilIface
  have s1:=heap_setCell_same _ (w.heap.size+1) 0 _ _ .nilIface t1
  have s2:((wr.setCell ⟨w.heap.size,0,none⟩ (.slice o P.length c)).setCell ⟨w.heap.size+1,0,none⟩ .nilIface).heap[w.heap.size]?=_:=(Below.heap_setCell _ _ _ _ (by simp)).trans s0
  have h2:=h1.grown g1 (fun k e=>by cases e;omega) (fun k e=>by cases e;exact ZhD h1.own t1 (by decide)) (fun x hx k e=>by cases e;exact ZhD (h1.ins x hx) t1 (by decide))
  have c1':(wr.setCell ⟨w.heap.size,0,none⟩ (.slice o P.length c)).cell? ⟨w.heap.size+1,0,none⟩=some .nilIface:=by rw[Lib.cell_of_heap t1];rfl
  have z1':=Lib.frozen_of_heap t1 0
  have e0:((wr.setCell ⟨w.heap.size,0,none⟩ (.slice o P.length c)).setCell ⟨w.heap.size+1,0,none⟩ .nilIface).cell? ⟨w.heap.size,0,none⟩=some (.slice o P.length c):=by rw[Lib.cell_of_heap s2];rfl
  have e1:((wr.setCell ⟨w.heap.size,0,none⟩ (.slice o P.length c)).setCell ⟨w.heap.size+1,0,none⟩ .nilIface).cell? ⟨w.heap.size+1,0,none⟩=some .nilIface:=by rw[Lib.cell_of_heap s1];rfl
  subst hXv
  clear HI HPn HPd hR h1 g0 g1 s0 s1 s2 t1
  go_wp2
  refine leaves_cons (f:=267) (args:=#[.pointer (some ⟨w.heap.size,0,none⟩),.pointer (some ⟨w.heap.size+1,0,none⟩)]) (by simp) (by simp[go_sem]) ?_
  refine (Zbe _ _ _).mono ?_
  rintro e u' w'' ⟨rfl,rfl,rfl⟩
  exact⟨_,Zji _ _ w.heap.size (w.heap.size+1) P.length c o .nilIface rfl rfl e0 e1,_,P,rfl,h2,rfl⟩
end

section
open Go.RowKit
structure Sb (w:World) (R H:Nat) (A AN B BN:Int) (m:List Mk) (ov:Value) (u:World):Prop where
 gr:w.grownBy u (some R)
 hx:Hx u H ⟨A,AN,B,BN,m⟩ ov
 rb:Hx u w.heap.size ⟨0,0,0,0,[]⟩ (.slice none 0 0)
 own:u.ownsRow w.heap.size 47 2 ov m.length (mkcells m)
 hR:R<w.heap.size
 hH:w.heap.size<H
section
variable {w u u':World} {R H:Nat} {A AN B BN:Int} {m:List Mk} {ov:Value} {vL:Value} {p fa fe:Int}
theorem Rx.low (q:Rx u R vL p fa fe) (hb:Below u.heap.size u u'):Rx u' R vL p fa fe:=(hb.block R q.lt).trans q
theorem Rx.keep (q:Rx u R vL p fa fe) {g:Option Nat} (hg:u.grownBy u' g) (hr:some R≠g):Rx u' R vL p fa fe:=(hg.block R q.lt hr).trans q
theorem Sb.call (h:Sb w R H A AN B BN m ov u) (hg:u.grownBy u' (some R)):Sb w R H A AN B BN m ov u' :=
 have h1:=h.hR
 have h2:=h.hH
 ⟨ZdT h.gr hg,h.hx.keep hg (fun e=>by have:=Option.some.inj e;omega),h.rb.keep hg (fun e=>by have:=Option.some.inj e;omega),ZhI h.own hg h.hR,h.hR,h.hH⟩
theorem Sb.low (h:Sb w R H A AN B BN m ov u) (hb:Below u.heap.size u u'):Sb w R H A AN B BN m ov u':=h.call (ZfO hb _)
theorem Sb.drew (h:Sb w R H A AN B BN m ov u):Sb w R H A AN B BN m ov u.drew:=h.low (Below.refl _ u).drew
theorem Sb.alloc (h:Sb w R H A AN B BN m ov u) (o:Obj):Sb w R H A AN B BN m ov (u.alloc o):=h.low ((Below.refl _ u).alloc (Nat.le_refl _) o)
theorem Sb.c1 (h:Sb w R H A AN B BN m ov u):u.cell? ⟨H,1,none⟩=some (.int .i64 AN):=h.hx.cells.2.1
theorem Sb.c3 (h:Sb w R H A AN B BN m ov u):u.cell? ⟨H,3,none⟩=some (.int .i64 BN):=h.hx.cells.2.2.2.1
theorem Sb.c4 (h:Sb w R H A AN B BN m ov u):u.cell? ⟨H,4,none⟩=some ov:=h.hx.cells.2.2.2.2
theorem Sb.more (h:Sb w R H A AN B BN m ov u) {x:Mk} {ov':Value} (hg:u.grownBy u' ov.ownBlock) (ho:u'.ownsRow w.heap.size 47 2 ov' (m.length+1) (mkcells m++mkcells [x])) :
  Sb w R H A AN B BN (m++[x]) ov' (u'.setCell ⟨H,4,none⟩ ov')∧u'.cell? ⟨H,4,none⟩=some ov∧u'.frozen? ⟨H,4,none⟩=false∧u'.cell? ⟨H,1,none⟩=some (.int .i64 AN)∧u'.cell? ⟨H,3,none⟩=some (.int .i64 BN)∧(∀ {vL:Value} {p fa fe:Int},Rx u R vL p fa fe→Rx (u'.setCell ⟨H,4,none⟩ ov') R vL p fa fe):=by
 have h1:=h.hR
 have h2:=h.hH
 have hne:∀ k:Nat,(∃ cs t fr,u.heap[k]?=some (Obj.cells cs t fr)∧47≠t)→some k≠ov.ownBlock:=fun k ⟨cs,t,fr,hk,ht⟩ e=>ZhD h.own hk ht e.symm
 have hxu:Hx u' H ⟨A,AN,B,BN,m⟩ ov:=h.hx.keep hg (hne H ⟨_,_,_,h.hx,by decide⟩)
 have rbu:Hx u' w.heap.size ⟨0,0,0,0,[]⟩ (.slice none 0 0):=h.rb.keep hg (hne _ ⟨_,_,_,h.rb,by decide⟩)
 have g4:=ZdS u' H 4 ov'
 have hneR:∀ {vL:Value} {p fa fe:Int},Rx u R vL p fa fe→some R≠ov.ownBlock:=fun q=>hne R ⟨_,_,_,q,by decide⟩
 refine⟨⟨?_,hxu.put4 _ _,rbu.keep g4 (fun e=>by have:=Option.some.inj e;omega),?_,h.hR,h.hH⟩,hxu.cells.2.2.2.2,hxu.frozen 4,hxu.cells.2.1,hxu.cells.2.2.2.1,fun q=>(q.keep hg (hneR q)).keep g4 (fun e=>by have:=Option.some.inj e;omega)⟩
 ·refine⟨(g4.os.trans hg.os).trans h.gr.os,(g4.tape.trans hg.tape).trans h.gr.tape,(g4.output.trans hg.output).trans h.gr.output,Nat.le_trans h.gr.size (Nat.le_trans hg.size g4.size),fun k hk hr=>?_⟩
  rw[g4.block k (Nat.lt_of_lt_of_le hk (Nat.le_trans h.gr.size hg.size)) (fun e=>by have:=Option.some.inj e;omega),hg.block k (Nat.lt_of_lt_of_le hk h.gr.size) (fun e=>by have:=ZhJ h.own e.symm;omega)]
  exact h.gr.block k hk hr
 ·have e1:(m++[x]).length=m.length+1:=by simp
  rw[e1,Zgl]
  exact ho.kept g4 (.inr (ZhD ho hxu (by decide)))
end
def AlR (R:Nat) (vL:Value) (L:List (List UInt8)) (fa:Int) (sg:List UInt8) (S:Int) (Y:Except (Nat × Int) (List Mk × Nat × List (List UInt8))) (b n:Nat) (m:List Mk) (u:World):Prop :=
 (∃ pn:Nat,Rx u R vL (pn:Int) fa 0∧pn≤b∧thenL m (rdN sg S n pn (L.drop pn))=Y)∨(∃ (p':Int) (a:Nat) (fe:Int),Rx u R vL p' (a:Int) fe∧fe≠0∧Y=.error (a,fe))
def NxR (R:Nat) (vL:Value) (L:List (List UInt8)) (fa:Int) (sg:List UInt8) (S:Int) (Y:Except (Nat × Int) (List Mk × Nat × List (List UInt8))) (b n:Nat) (m:List Mk) (t:List UInt8) (u:World):Prop:=AlR R vL L fa sg S Y b n (m++[⟨S,t⟩]) u
theorem NxR.on {R:Nat} {vL:Value} {L:List (List UInt8)} {fa:Int} {sg:List UInt8} {S:Int} {Y:Except (Nat × Int) (List Mk × Nat × List (List UInt8))} {b n:Nat} {m:List Mk} {t:List UInt8} {u u':World} (h:NxR R vL L fa sg S Y b n m t u) (hk:∀ {vL:Value} {p fa fe:Int},Rx u R vL p fa fe→Rx u' R vL p fa fe):AlR R vL L fa sg S Y b n (m++[⟨S,t⟩]) u':=by
 rcases h with ⟨pn,h1,h2,h3⟩ | ⟨p',a,fe,h1,h2,h3⟩
 ·exact .inl ⟨pn,hk h1,h2,h3⟩
 ·exact .inr ⟨p',a,fe,hk h1,h2,h3⟩
def put5 (u:World) (b:Nat) (A AN B BN:Int) (v:Value):World:=((((u.setCell ⟨b,0,none⟩ (.int .i64 A)).setCell ⟨b,1,none⟩ (.int .i64 AN)).setCell ⟨b,2,none⟩ (.int .i64 B)).setCell ⟨b,3,none⟩ (.int .i64 BN)).setCell ⟨b,4,none⟩ v
theorem Sb.done {w u:World} {R H:Nat} {A AN B BN:Int} {m:List Mk} {ov:Value} (h:Sb w R H A AN B BN m ov u) :
  (put5 u w.heap.size A AN B BN ov).heap[w.heap.size]?=some (.cells #[.int .i64 A,.int .i64 AN,.int .i64 B,.int .i64 BN,ov] 45)∧(put5 u w.heap.size A AN B BN ov).ownsRow w.heap.size 47 2 ov m.length (mkcells m)∧w.grownBy (put5 u w.heap.size A AN B BN ov) (some R)∧∀ {vL:Value} {p fa fe:Int},Rx u R vL p fa fe→Rx (put5 u w.heap.size A AN B BN ov) R vL p fa fe:=by
 have h1:=h.hR
 have hn:(some R:Option Nat)≠some w.heap.size:=fun e=>by have:=Option.some.inj e;omega
 refine⟨h.rb.putH5 A AN B BN m ov,Zdn h.own (b:=w.heap.size) (ZhD h.own h.rb (by decide)) A AN B BN ov,?_,fun q=>((((q.keep (ZdS _ _ 0 _) hn).keep (ZdS _ _ 1 _) hn).keep (ZdS _ _ 2 _) hn).keep (ZdS _ _ 3 _) hn).keep (ZdS _ _ 4 _) hn⟩
 exact ((((ZdR h.gr (B:=w.heap.size) (Nat.le_refl _) 0 (.int .i64 A)) |> fun h=>ZdR h (B:=w.heap.size) (Nat.le_refl _) 1 (.int .i64 AN)) |> fun h=>ZdR h (B:=w.heap.size) (Nat.le_refl _) 2 (.int .i64 B)) |> fun h=>ZdR h (B:=w.heap.size) (Nat.le_refl _) 3 (.int .i64 BN)) |> fun h=>ZdR h (B:=w.heap.size) (Nat.le_refl _) 4 ov
end

section
open Go.RowKit
theorem ZfZ {a:List (List UInt8)} {t:List UInt8} (h:t∈a):t.length≤a.flatten.length:=by
 induction a with
 | nil=>cases h
 | cons s a ih =>
  rw[List.flatten_cons,List.length_append]
  rcases List.mem_cons.1 h with rfl | h
  ·omega
  ·have:=ih h
   omega
theorem Zky {t:List UInt8} {M:Nat} (h:t.length≤M):∀ s∈Ln.splitL t,s.length≤M:=by
 intro s hs
 have h1:=congrArg List.length (Ln.split_join t)
 have h2:=ZfZ hs
 omega
theorem RdQ.base {w W:World} {X:Except (Nat × Int) (List Hk)} {e:Ending} {w':World} (hB:Below w.heap.size w W) (h:RdQ W X e w'):RdQ w X e w':=by
 unfold RdQ at h ⊢
 rcases X with ⟨a,z⟩ | l
 ·obtain⟨g,h1,h2,h3⟩:=h
  exact⟨g,h1,h2,hB.trans (h3.mono hB.size)⟩
 ·obtain⟨v,P,h1,h2,h3⟩:=h
  exact⟨v,P,h1,h2.base hB,h3⟩
theorem ZgC (t:List UInt8) (w:World) (hl:t.length≤1099511627776) (X:Except (Nat × Int) (List Hk)) (HX:Hid (prsT t=X)) :
  Calls Tryz.prog 179 #[.string ⟨t.toArray⟩] w fun e w'=>RdQ w X e w':=by
 have hX:=HX.out
 clear HX
 rw[ZiF] at hX
 by_cases hlong:1048576<t.length
 ·rw[if_pos hlong] at hX
  subst hX
  have HA:Hid ((w.alloc (fltO ((0:Nat):Int) 9)).heap[w.heap.size]?=some (fltO ((0:Nat):Int) 9)∧Below w.heap.size w (w.alloc (fltO ((0:Nat):Int) 9))):=⟨heap_alloc_new w _,(Below.refl _ w).alloc (Nat.le_refl _) _⟩
  have i1:(1048576:Int)<(t.length:Int):=by omega
  go_enter Tryz.func179,Tryz.ntmps179
  go_wp2
  go_ret2
  exact⟨_,rfl,HA.out.1,HA.out.2⟩
 ·rw[if_neg hlong] at hX
  have HX2:Hid (hksK (Ln.splitL t).length 0 0 (Ln.splitL t)=X):=hX
  have hsl:=Ln.split_len t
  have HSl:Hid (∀ s∈Ln.splitL t,s.length≤1048576):=Zky (by omega)
  have HPl:Hid (Plain (Ln.splitL t)):=Zkx t
  have hs:=ZgE t w hl
  have i1:¬ (1048576:Int)<(t.length:Int):=by omega
  clear hX
  generalize Ln.splitL t=L at *
  go_enter Tryz.func179,Tryz.ntmps179
  go_wp2_with fail
  refine hs.mono ?_
  rintro e w1 ⟨v,rfl,hown,hb⟩
  have hL:HS w1 v L:=Zeo hown
  obtain⟨lo,lc,rfl⟩:=Holds.form hL
  go_wp2_with fail
  refine (Zhd L lo lc w1 hL HPl (by omega) HSl X HX2).mono ?_
  intro e w2 hq
  have hq2:=RdQ.base hb hq
  clear hq
  cases X with
  | error z =>
   obtain⟨a,z⟩:=z
   obtain⟨g,rfl,h1,h2⟩:=hq2
   go_wp2
   go_ret2
   exact⟨g,rfl,h1,h2⟩
  | ok l =>
   obtain⟨v',P,rfl,h1,h2⟩:=hq2
   obtain⟨o,c,rfl⟩:=(Zeo h1.own).form
   go_wp2
   go_ret2
   exact⟨_,P,rfl,h1,h2⟩
end

section
open Go.RowKit
end

section
open Go.RowKit
structure Rpr (w:World) (R:Nat) (ov:Value) (P:List (Hk × Value)) (u:World):Prop where
 hs:Hs w ov P u
 fb:u.heap[w.heap.size]?=some (.cells #[.int .i64 0,.int .i64 0] 29)
 hR:w.heap.size<R
section
variable {w u u':World} {R:Nat} {ov:Value} {P:List (Hk × Value)}
theorem Rpr.call (h:Rpr w R ov P u) {vL:Value} {p fa fe:Int} (q:Rx u R vL p fa fe) (hg:u.grownBy u' (some R)):Rpr w R ov P u':=by
 have h1:=h.hR
 refine⟨h.hs.grown hg (fun k e=>by cases e;omega) (fun k e=>by cases e;exact ZhD h.hs.own q (by decide)) (fun x hx k e=>by cases e;exact ZhD (h.hs.ins x hx) q (by decide)),?_,h.hR⟩
 exact (hg.block _ (Array.getElem?_eq_some_iff.1 h.fb).1 (fun e=>by have:=Option.some.inj e;omega)).trans h.fb
theorem Rpr.dN (h:Rpr w R ov P u) (n:Nat):Rpr w R ov P (u.drewN n):=⟨h.hs.drewN n,h.fb,h.hR⟩
theorem Rpr.alloc (h:Rpr w R ov P u) (o:Obj):Rpr w R ov P (u.alloc o):=⟨h.hs.alloc o,(Lib.alloc_old u o _ (Array.getElem?_eq_some_iff.1 h.fb).1).trans h.fb,h.hR⟩
theorem Rpr.more (h:Rpr w R ov P u) {x:Hk} {y ov':Value} (hy:u.ownsRow w.heap.size 47 2 y x.ls.length (mkcells x.ls)) (hg:u.grownBy u' ov.ownBlock) (ho:u'.ownsRow w.heap.size 45 5 ov' (P.length+1) (hkcells P++hkC x y)) :
  Rpr w R ov' (P++[(x,y)]) u'∧∀ {vL:Value} {p fa fe:Int},Rx u R vL p fa fe→Rx u' R vL p fa fe :=
 ⟨⟨h.hs.more hy hg ho,(hg.block _ (Array.getElem?_eq_some_iff.1 h.fb).1 (fun e=>ZhD h.hs.own h.fb (by decide) e.symm)).trans h.fb,h.hR⟩,fun q=>q.keep hg (fun e=>ZhD h.hs.own q (by decide) e.symm)⟩
end
end

section
open Go.RowKit
end

section
open Go.RowKit
end

section
open Ln
def isW (c:UInt8):Bool:=c == 32
def rcmP:List UInt8→Option (Bool × Nat × Nat)
 | []=>none
 | c::t=>match spB isW t with
  | none=>none
  | some (x,_,y)=>if Pn.parseE x=0∧Pn.parseE y=0∧0<Pn.parseV y then if c=97 then some (true,(Pn.parseV x).toNat,(Pn.parseV y).toNat) else if c=100∧0<Pn.parseV x then some (false,(Pn.parseV x-1).toNat,(Pn.parseV y).toNat) else none else none
def rcmF (s:List UInt8):Option (Bool × Nat × Nat):=if fdB s=true then rcmP s.dropLast else none
def rcS (a:List (List UInt8)) (p:Nat) (s:List UInt8) (r out:List (List UInt8)) (dn:Nat) (fl:Bool):Except (Nat × Int) (List (List UInt8) × Nat × Bool × Nat × List (List UInt8)) :=
 match rcmF s with
 | none=>.error (p+1,3)
 | some (ad,ah,n)=>if ah<dn∨(ah=dn∧ad=true∧fl=true) then .error (p+1,121)
  else if a.length<ah+(if ad=true then 0 else n) then .error (p+1,2)
  else if ad=true then if r.length<n then .error (p+1+r.length+1,1) else .ok (out++(a.drop dn).take (ah-dn)++r.take n,ah,true,p+1+n,r.drop n)
  else .ok (out++(a.drop dn).take (ah-dn),ah+n,false,p+1,r)
def rcF (p:Nat) (l:List (List UInt8)):Except (Nat × Int) (List (List UInt8)):=if checkB l=true then .ok l else .error (p+1,6)
def rcE (a:List (List UInt8)):Nat→Nat→List (List UInt8)→List (List UInt8)→Nat→Bool→Except (Nat × Int) (List (List UInt8))
 | 0,p,_,out,dn,_=>rcF p (out++a.drop dn)
 | _+1,p,[],out,dn,_=>rcF p (out++a.drop dn)
 | f+1,p,s::r,out,dn,fl=>match rcS a p s r out dn fl with
  | .error e=>.error e
  | .ok (o,d,g,q,r2)=>rcE a f q r2 o d g
def RcRuns (a:List (List UInt8)) (p:Nat) (ls out:List (List UInt8)) (dn:Nat) (fl:Bool) (p':Nat) (ls' out':List (List UInt8)) (dn':Nat) (fl':Bool):Prop :=
 ∀ f,ls.length≤f→∃ f',ls'.length≤f'∧rcE a f p ls out dn fl=rcE a f' p' ls' out' dn' fl'
theorem RcRuns.refl (a:List (List UInt8)) (p:Nat) (ls out:List (List UInt8)) (dn:Nat) (fl:Bool):RcRuns a p ls out dn fl p ls out dn fl:=fun f hf=>⟨f,hf,rfl⟩
theorem RcRuns.trans {a:List (List UInt8)} {p p1 p2:Nat} {ls ls1 ls2 o o1 o2:List (List UInt8)} {d d1 d2:Nat} {g g1 g2:Bool} (h:RcRuns a p ls o d g p1 ls1 o1 d1 g1) (k:RcRuns a p1 ls1 o1 d1 g1 p2 ls2 o2 d2 g2):RcRuns a p ls o d g p2 ls2 o2 d2 g2:=fun f hf=>by
 obtain⟨f1,h1,e1⟩:=h f hf
 obtain⟨f2,h2,e2⟩:=k f1 h1
 exact⟨f2,h2,e1.trans e2⟩
theorem RcRuns.step {a:List (List UInt8)} {p q:Nat} {s:List UInt8} {r r2 o o1:List (List UInt8)} {d d1:Nat} {g g1:Bool} (h:rcS a p s r o d g=.ok (o1,d1,g1,q,r2)) (hl:r2.length≤r.length):RcRuns a p (s::r) o d g q r2 o1 d1 g1:=fun f hf=>by
 cases f with
 | zero=>simp at hf
 | succ f =>
  refine⟨f,by simp only[List.length_cons] at hf;omega,?_⟩
  rw[rcE,h]
end

section
open Ln Go.RowKit
attribute [local go_sem] Zhc ByteArray.extract_mk
end

section
open Go.RowKit Go.Proofs.YtcniomgjikienaaGreatDoor.Tx
open Ln
attribute [local go_sem] Zhc
def natC (A:List Nat):List Value:=icells (A.map fun (n:Nat)=>(n:Int))
theorem ZgM (A:List Nat) (k:Nat):natC (A++[k])=natC A++icells [(k:Int)]:=by unfold natC icells;simp
structure Sq (W:World) (av:Value) (A:List Nat) (rv:Value) (R:List (List UInt8)) (u:World):Prop where
 low:Below W.heap.size W u
 ats:u.ownsRow W.heap.size 3 1 av A.length (natC A)
 rest:u.ownsRow W.heap.size 9 1 rv R.length (scells R)
section
variable {W u u':World} {av rv av' rv':Value} {A:List Nat} {R:List (List UInt8)}
theorem Sq.keep (h:Sq W av A rv R u) (hb:Below u.heap.size u u'):Sq W av A rv R u':=⟨h.low.trans (hb.mono h.low.size),ZhK h.ats hb,ZhK h.rest hb⟩
theorem Sq.more1 (h:Sq W av A rv R u) {k:Nat} (hg:u.grownBy u' av.ownBlock) (ho:u'.ownsRow W.heap.size 3 1 av' (A.length+1) (natC A++icells [(k:Int)])):Sq W av' (A++[k]) rv R u':=by
 refine⟨h.low.grown hg h.low.size (fun k e=>ZhJ h.ats e),?_,ZjA h.rest h.ats (by decide) hg⟩
 rw[ZgM,List.length_append]
 exact ho
theorem Sq.more2 (h:Sq W av A rv R u) {s:List UInt8} (hg:u.grownBy u' rv.ownBlock) (ho:u'.ownsRow W.heap.size 9 1 rv' (R.length+1) (scells R++scells [s])):Sq W av A rv' (R++[s]) u':=by
 refine⟨h.low.grown hg h.low.size (fun k e=>ZhJ h.rest e),ZjA h.ats h.rest (by decide) hg,?_⟩
 rw[List.length_append]
 have e:scells (R++[s])=scells R++scells [s]:=by unfold scells;simp
 rw[e]
 exact ho
end
theorem Zaz {u:World} {xo:Option Addr} {xc:Nat} {A:List Nat} (h:Holds u (.slice xo A.length xc) A.length (natC A)) (h0:0<A.length):∃ b off,xo=some ⟨b,off,none⟩∧b<u.heap.size∧∀ k (hk:k<A.length),u.cell? ⟨b,off+k,none⟩=some (.int .i64 ((A[k]:Nat):Int)):=by
 have h2:HI u (.slice xo A.length xc) (A.map fun (n:Nat)=>(n:Int)):=by unfold HI;rw[List.length_map];exact h
 obtain⟨b,off,e,hb,hc⟩:=HI.at h2 (by rw[List.length_map];exact h0)
 refine⟨b,off,e,hb,fun k hk=>?_⟩
 rw[hc k (by rw[List.length_map];exact hk),List.getElem_map]
theorem ZiN {w w7 u:World} {v:Value} {F:List Pfd} (h:Pw w7 v F u) (hlow:Below w.heap.size w u) (hs:w.heap.size≤w7.heap.size):Pw w v F u:=⟨hlow,ZhC h.own hs,fun f hf=>⟨(h.ins f hf).eq,ZhC (h.ins f hf).own hs,fun y hy=>ZhC ((h.ins f hf).ins y hy) hs⟩⟩
end

section
open Go.RowKit Go.Proofs.YtcniomgjikienaaGreatDoor.Tx
open Ln
attribute [local go_sem] Zhc
def CoQ (w:World) (ls:List (List UInt8)) (e:Ending) (w':World):Prop:=∃ xo yo xc yc,e=.returned (.tuple #[.slice yo (ntR ls).length yc,.slice xo (0::atL ls).length xc])∧Sq w (.slice xo (0::atL ls).length xc) (0::atL ls) (.slice yo (ntR ls).length yc) (ntR ls) w'
theorem Zmr (w:World) (B:Nat) (hB:B≤w.heap.size):(w.alloc (.cells #[.int .i64 0] 3)).ownsRow B 3 1 (.slice (some ⟨w.heap.size,0,none⟩) 1 1) 1 (natC [0]):=by
 refine⟨rfl,.inr ⟨_,1,#[.int .i64 0],rfl,hB,_root_.Go.heap_alloc_new w _,Nat.le_refl _,by decide,rfl,rfl⟩⟩
theorem Sq.base {w W u:World} {av rv:Value} {A:List Nat} {R:List (List UInt8)} (h:Sq W av A rv R u) (hb:Below w.heap.size w u) (hs:w.heap.size≤W.heap.size):Sq w av A rv R u:=⟨hb,ZhC h.ats hs,ZhC h.rest hs⟩
theorem ZhO (t:List UInt8) (w:World) (h:t.length≤1099511627776) (ls:List (List UInt8)) (HLs:Hid (splitL t=ls)) :
  Calls Tryz.prog 26 #[.string ⟨t.toArray⟩] w fun e w'=>CoQ w ls e w':=by
 have hsp:=ZgE t w (by omega)
 have hsl:=split_len t
 have HNE:Hid (∀ s∈splitL t,s≠[]):=fun s hs=>ZiJ hs
 rw[HLs.out] at hsp hsl HNE
 clear HLs
 have HA0:Hid (([0]:List Nat)++plR 0 (ls.drop 0)=0::plR 0 ls∧([]:List (List UInt8))++ntR (ls.drop 0)=ntR ls∧([0]:List Nat).length=([]:List (List UInt8)).length+1∧([0]:List Nat).length≤1):=⟨rfl,rfl,rfl,Nat.le_refl _⟩
 have hLl:ls.length≤1099511627776:=by omega
 clear hsl h
 go_enter Tryz.func26,Tryz.ntmps26
 go_wp2_with fail
 refine hsp.mono ?_
 rintro e w1 ⟨v,rfl,hown,hB⟩
 have ha:HS w1 v ls:=Zeo hown
 obtain⟨ao,ac,rfl⟩:=Holds.form ha
 have hS0:Sq w1 (.slice (some ⟨w1.heap.size,0,none⟩) 1 1) [0] (.slice none 0 0) [] (w1.alloc (.cells #[.int .i64 0] 3)):=⟨(Below.refl _ w1).alloc (Nat.le_refl _) _,Zmr w1 _ (Nat.le_refl _),Zen _ _ _ _⟩
 clear hsp hown
 go_wp2
 go_loopw [5,6,14] (fun rv av iv wr=>∃ (k:Nat) (A:List Nat) (R:List (List UInt8)) (xo yo:Option Addr) (xc yc:Nat),k≤ls.length∧av=.slice xo A.length xc∧rv=.slice yo R.length yc∧iv=.int .i64 (k:Int)∧Sq w1 (.slice xo A.length xc) A (.slice yo R.length yc) R wr∧Hid (A++plR k (ls.drop k)=0::plR 0 ls∧R++ntR (ls.drop k)=ntR ls∧A.length=R.length+1∧A.length≤k+1)) (fun _ _ iv _=>ls.length-(intOf iv).toNat)
 case atStart=>exact⟨0,[0],[],_,none,_,0,Nat.zero_le _,rfl,rfl,by go_num,hS0,HA0⟩
 case round =>
 clear hS0 HA0
 obtain⟨k,A,R,xo,yo,xc,yc,hk,rfl,rfl,rfl,hSq,HI⟩:=hrel
 by_cases hlt:k<ls.length
 ·obtain⟨bk,off,rfl,hbk,hc⟩:=HS.at ha (by omega)
  have c0:=(World.cell?_of_block (hSq.low.block bk hbk)).trans (hc k hlt)
  obtain⟨i1,i2,i3,i4⟩:=HI.out
  have hne:=HNE.out ls[k] (List.getElem_mem hlt)
  rw[List.drop_eq_getElem_cons hlt,Zhf] at i2
  rw[List.drop_eq_getElem_cons hlt] at i1
  simp only[plR] at i1
  obtain⟨s,hs⟩:∃ s,ls[k]=s:=⟨_,rfl⟩
  rw[hs] at c0 i1 i2 hne
  obtain⟨b,hb⟩:∃ b,rmkB s=b:=⟨_,rfl⟩
  have hrm:=fun u=>ZhS s hne u b hb
  rw[hb] at i1 i2
  have j1:(0:Int)≤(k:Int):=by omega
  have j2:(k:Int)<(ls.length:Int):=by omega
  have hAl:A.length+1≤4398046511104:=by omega
  have hRl:R.length+1≤4398046511104:=by omega
  clear hc hs hb HI
  cases b with
  | true =>
   rw[if_pos rfl] at i1 i2
   have HI2:Hid (A++plR (k+1) (ls.drop (k+1))=0::plR 0 ls∧R++ntR (ls.drop (k+1))=ntR ls∧A.length=R.length+1∧A.length≤k+1+1):=⟨i1,i2,i3,by omega⟩
   clear i1 i2 i3 i4 hAl hRl
   go_wp2_with fail
   refine (hrm _).mono ?_
   rintro e w2 ⟨rfl,rfl⟩
   clear hrm
   go_wp2
   exact⟨⟨k+1,A,R,xo,yo,xc,yc,by omega,by first | rfl | simp,by first | rfl | simp,by go_num,hSq,HI2⟩,by simp[intOf];omega⟩
  | false =>
   rw[if_neg (by decide)] at i1 i2
   have HI2:Hid ((A++[k+1])++plR (k+1) (ls.drop (k+1))=0::plR 0 ls∧(R++[s])++ntR (ls.drop (k+1))=ntR ls∧(A++[k+1]).length=(R++[s]).length+1∧(A++[k+1]).length≤k+1+1):=⟨by rw[← i1];simp,by rw[← i2];simp,by simp[i3],by simp;omega⟩
   clear i1 i2 i3 i4
   go_wp2_with fail
   refine (hrm _).mono ?_
   rintro e w2 ⟨rfl,rfl⟩
   clear hrm
   have hSb:=hSq.keep ((Below.refl _ wr).alloc (Nat.le_refl _) (.cells #[.string ⟨s.toArray⟩] 9))
   have hzb:=hSb.low.size
   have hob:=hSb.rest
   have hrb:Holds _ _ 1 _:=ZgR wr #[.string ⟨s.toArray⟩] 9 1 1 (by decide)
   go_wp2_with (at_builtin;refine Zmg _ (by kernel_rfl) (.tmp 22) (.tmp 24) 49 9 (.string ⟨#[]⟩) 1 16 rfl Tryz.underlying49 infoStr rfl (by decide) (by decide) w1.heap.size _ _ _ rfl hob _ 1 (scells [s]) rfl hrb rfl (ZjU _) hRl hzb ?_)
   intro v3 u3 ho3 hg3
   have hS3:=hSb.more2 hg3 ho3
   obtain⟨x3,y3,rfl⟩:=(Zeo ho3).form
   clear hSb hzb hob hrb ho3 hg3 c0
   have hSa:=hS3.keep ((Below.refl _ u3).alloc (Nat.le_refl _) (.cells #[.int .i64 ((k:Int)+1)] 3))
   have hza:=hSa.low.size
   have hoa:=hSa.ats
   have hra:Holds _ _ 1 _:=ZgR u3 #[.int .i64 ((k:Int)+1)] 3 1 1 (by decide)
   go_wp2_with (at_builtin;refine Zmg _ (by kernel_rfl) (.tmp 26) (.tmp 29) 55 3 (.int .i64 0) 1 8 rfl Tryz.underlying55 infoInt rfl (by decide) (by decide) w1.heap.size _ _ _ rfl hoa _ 1 (icells [((k+1:Nat):Int)]) rfl hra rfl (Zet _) hAl hza ?_)
   intro v4 u4 ho4 hg4
   have hS4:=hSa.more1 (k:=k+1) hg4 ho4
   obtain⟨x4,y4,rfl⟩:=(Zeo ho4).form
   clear hSa hza hoa hra ho4 hg4 hS3
   go_wp2
   exact⟨⟨k+1,A++[k+1],R++[s],x4,x3,y4,y3,by omega,by rw[List.length_append];rfl,by rw[List.length_append];rfl,by go_num,by rw[List.length_append,List.length_append];exact hS4,HI2⟩,by simp[intOf];omega⟩
 ·have hend:¬ (k:Int)<(ls.length:Int):=by omega
  obtain⟨i1,i2,i3,i4⟩:=HI.out
  rw[List.drop_of_length_le (by omega)] at i1 i2
  have HAe:Hid (A=0::plR 0 ls∧R=ntR ls∧A.length≤k+1):=⟨by simpa [plR] using i1,by simpa [ntR] using i2,i4⟩
  have hAl:A.length+1≤4398046511104:=by omega
  clear HI i1 i2 i3 i4
  have hSa:=hSq.keep ((Below.refl _ wr).alloc (Nat.le_refl _) (.cells #[.int .i64 ((ls.length:Int)+1)] 3))
  have hza:=hSa.low.size
  have hoa:=hSa.ats
  have hra:Holds _ _ 1 _:=ZgR wr #[.int .i64 ((ls.length:Int)+1)] 3 1 1 (by decide)
  go_wp2_with (at_builtin;refine Zmg _ (by kernel_rfl) (.tmp 33) (.tmp 37) 55 3 (.int .i64 0) 1 8 rfl Tryz.underlying55 infoInt rfl (by decide) (by decide) w1.heap.size _ _ _ rfl hoa _ 1 (icells [((ls.length+1:Nat):Int)]) rfl hra rfl (Zet _) hAl hza ?_)
  intro v3 u4 ho3 hg3
  have hS4:=hSa.more1 (k:=ls.length+1) hg3 ho3
  obtain⟨x3,y3,rfl⟩:=(Zeo ho3).form
  clear hSa hza hoa hra ho3 hg3 hSq
  obtain⟨rfl,a2,_⟩:=HAe.out
  obtain rfl:R=ntR ls:=a2
  have e2:(0::plR 0 ls)++[ls.length+1]=0::atL ls:=rfl
  rw[e2] at hS4
  have e3:(0::plR 0 ls).length+1=(0::atL ls).length:=by rw[← e2,List.length_append];rfl
  rw[e3] at hS4 ⊢
  have hS5:=hS4.base (hB.trans (hS4.low.mono hB.size)) hB.size
  clear HAe hend hlt hk hS4
  go_wp2
  go_ret2
  exact⟨_,_,_,_,rfl,hS5⟩
end

end Go.Proofs.YtcniomgjikienaaGreatDoor
