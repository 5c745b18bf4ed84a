/-
  Texts that belong together, joined: PrB, PrD, NpI, NoCm, NpD.
-/
import Derived.Test.YtcniomgjikienaaGreatDoorVrA18
import Derived.Deep.CutBlock

set_option maxHeartbeats 16000000
set_option maxRecDepth 100000
namespace Go.Proofs.YtcniomgjikienaaGreatDoor

section
open Go.RowKit Go.Proofs.YtcniomgjikienaaGreatDoor.Tx
attribute [local go_sem] ByteArray.extract_mk Zhc
theorem rParse16S {L:List (List UInt8)} (t:List UInt8) (w W0:World) (hW0:w.alloc (.cells #[.int .i64 0,.int .i64 0] 29)=W0) (hP:Plain L) (hLl:L.length≤137438953472) (hs:∀ s∈L,s.length≤1099511627776) (st0:Except (Nat × Int) Nat) (f00:Nat) (X:Except (Nat × Int) (List Pth)) (HX:Hid (gOt uhZ atR [45,45,45,32] [43,43,43,32] L [] f00 X st0))
  (hr:Calls Tryz.prog 60 #[.string ⟨t.toArray⟩] W0 fun e w'=>∃ (R:Nat) (lo:Option Addr) (lc:Nat),e=.returned (.pointer (some ⟨R,0,none⟩))∧Rg w R L (.slice lo L.length lc) (.slice none 0 0) [] st0 w') :
  Calls Tryz.prog 33 #[.string ⟨t.toArray⟩] w fun e w'=>RfQ6 w X e w':=by
 go_enter Tryz.func33,Tryz.ntmps33
 go_wp2_with fail
 refine hr.mono ?_
 rintro e w1 ⟨R,lo,lc,rfl,hR0⟩
 clear hr hW0
 go_wp2
 go_loopw [5] (fun ov wr=>∃ (F:List Pfd) (st:Except (Nat × Int) Nat) (f0:Nat) (oo:Option Addr) (oc:Nat),ov=.slice oo F.length oc∧Rg w R L (.slice lo L.length lc) ov F st wr∧Hid (gOt uhZ atR [45,45,45,32] [43,43,43,32] L (F.map (·.x)) f0 X st)) (fun _ wr=>zW L wr R)
 case atStart=>exact⟨[],st0,f00,none,0,rfl,hR0,HX⟩
 case round =>
 clear hR0 HX
 obtain⟨F,st,f0,oo,oc,rfl,hRo,HO⟩:=hrel
 have HK0:Hid (zW L wr R=zN L st):=Zsk hRo.rd
 obtain⟨b,hb⟩:∃ b,mrZ L st=b:=⟨_,rfl⟩
 have hmore:=Zno wr hRo.rd b hb
 go_wp2_with fail
 refine hmore.mono ?_
 rintro e w2 ⟨rfl,m2,rfl⟩
 have hRb:=hRo.keep (below_drewN (Below.refl _ _) m2)
 clear hmore hRo
 generalize wr.drewN m2=wb at hRb ⊢
 have hRo:=hRb
 clear hRb
 cases b with
 | false =>
  obtain⟨y0,y1,yf⟩:=hRo.cells
  have yf0:=yf 0
  have yf1:=yf 1
  cases st with
  | error e =>
   obtain⟨a,z⟩:=e
   have hXe:X=.error (a,z):=HO.out
   subst hXe
   obtain⟨⟨p',q⟩,hz⟩:=hRo.rd
   obtain⟨d0,d1,d2,d3⟩:=q.cells
   obtain⟨fh,fp⟩:=hRo.fin (a:Int) z
   have hzb:(z != 0)=true:=bne_iff_ne.2 hz
   clear q HO hb HK0 yf
   go_wp2_with fail
   go_region
   have fh2:((wb.setCell ⟨w.heap.size,0,none⟩ (.int .i64 (a:Int))).setCell ⟨w.heap.size,1,none⟩ (.int .i64 z)).drew.heap[w.heap.size]?=some (.cells #[.int .i64 (a:Int),.int .i64 z] 29):=fh
   have fp2:=fp.low.drew
   clear fh fp y0 y1 yf0 yf1 d0 d1 d2 d3 hRo
   generalize ((wb.setCell ⟨w.heap.size,0,none⟩ (.int .i64 (a:Int))).setCell ⟨w.heap.size,1,none⟩ (.int .i64 z)).drew=W3 at *
   go_wp2
   exact bodyPost_ret (ZqE rfl _ _ w.heap.size 29 #[.int .i64 (a:Int),.int .i64 z] (0,0) _ rfl fh2 Tryz.underlying29 rfl (by kernel_rfl)) rfl ⟨rfl,hz,fp2⟩
  | ok p =>
   have hpe:¬ p<L.length:=of_decide_eq_false hb
   have hXe:X=.ok (F.map (·.x)):=(by rw[← HO.out.1];exact Znu (by omega) _ _ _)
   subst hXe
   have d3:=hRo.rd.fe
   unfold feS at d3
   dsimp only at d3
   obtain⟨fh,fp⟩:=hRo.fin 0 0
   clear HO hb hRo HK0 yf
   go_wp2
   exact bodyPost_ret (ZqE rfl _ _ w.heap.size 29 #[.int .i64 0,.int .i64 0] (0,0) _ rfl fh Tryz.underlying29 rfl (by kernel_rfl)) rfl ⟨.slice oo F.length oc,F,rfl,fp,rfl⟩
 | true =>
  cases st with
  | error e=>cases hb
  | ok p =>
  have hpl:p<L.length:=of_decide_eq_true hb
  have HIo:Hid (thenPs (F.map (·.x)) (gPs uhZ atR [45,45,45,32] [43,43,43,32] L f0 (F.map (·.x)).length p)=X∧p≤L.length∧L.length≤f0+p∧(F.map (·.x)).length≤p):=HO
  have hFp:F.length≤p:=(by have:=HIo.out.2.2.2;rw[List.length_map] at this;exact this)
  clear HO hb
  have hRw:R<wb.heap.size:=hRo.rd.lt
  have HLu:Hid (∀ u:World,(∀ k,k<wb.heap.size→k≠R→u.heap[k]?=wb.heap[k]?)→HS u (.slice lo L.length lc) L):=fun u hu=>hRo.linesB hu
  have hne:=hRo.ne rfl
  have hP0:Pzr wb R wb.heap.size (.slice lo L.length lc) [] [] (.slice none 0 0) [] (.ok p) (wb.alloc zpO):=⟨ZfO ((Below.refl _ wb).alloc (Nat.le_refl _) _) _,heap_alloc_new wb _,Zen _ _ _ _,fun x hx=>(by cases hx),hRo.rd.low ((Below.refl _ wb).alloc (Nat.le_refl _) _),Nat.le_refl _,hRw⟩
  unfold zpO at hP0
  obtain⟨Z1,hZ1⟩:∃ Z,nmZ [45,45,45,32] L (.ok p)=Z:=⟨_,rfl⟩
  have hc1:=ZnJ [45,45,45,32] rfl _ hP0.rd (HLu.out _ (ZmC hP0.gr)) hne (fun p' e=>by cases e;omega) hs (fun s p1 h=>(ZoJ hs h).1) Z1 hZ1
  go_upto_region 5 with fail
  generalize wb.alloc (.cells #[.string ⟨#[]⟩,.string ⟨#[]⟩,.slice none 0 0] 42)=w3 at hP0 hc1 ⊢
  obtain⟨S,hS⟩:∃ S,wb.heap.size=S:=⟨_,rfl⟩
  rw[hS] at hP0
  have HS0:Hid (wb.heap.size=S):=hS
  simp only[hS]
  clear hS
  go_wp2_with fail
  refine hc1.mono ?_
  rintro e w4 ⟨hq4,g4⟩
  obtain⟨rfl,q4⟩:=hq4.st
  have hP1:=hP0.call g4 q4
  clear hc1 hP0 hq4 q4 g4
  obtain⟨c0,c1,c2⟩:=hP1.cells
  have f0c:=hP1.frozen 0
  obtain⟨n1,hn1⟩:∃ n,nmN Z1=n:=⟨_,rfl⟩
  have hP2:=hP1.put 0 (.string ⟨(nmN Z1).toArray⟩) (m1:=n1) (m2:=[]) (hv':=.slice none 0 0) (by rw[hn1];rfl) hP1.own
  rw[hn1] at hP2 ⊢
  obtain⟨st1,hst1⟩:∃ s,stP Z1=s:=⟨_,rfl⟩
  rw[hst1] at hP2
  have HN1:Hid (nmN (nmZ [45,45,45,32] L (.ok p))=n1∧stP (nmZ [45,45,45,32] L (.ok p))=st1):=⟨by rw[hZ1];exact hn1,by rw[hZ1];exact hst1⟩
  clear hP1 hn1 hst1 hZ1 Z1
  obtain⟨st2,hst2⟩:∃ s,naS [45,45,45,32] [43,43,43,32] L F.length (.ok p)=s:=⟨_,rfl⟩
  have hst2':(if 64≤F.length then flS 9 st1 else st1)=st2:=(by rw[← hst2,← HN1.out.2];rfl)
  go_upto_region 6 with fail
  clear c0 c1 c2 f0c
  obtain⟨b6,hb6⟩:∃ b,decide ((64:Int)≤(F.length:Int))=b:=⟨_,rfl⟩
  go_upto_if 16 with fail
  generalize w4.setCell ⟨S,0,none⟩ (.string ⟨n1.toArray⟩)=w5 at hP2 ⊢
  go_cut [5] from 9 to 51 (fun lv wz=>lv=.slice oo F.length oc∧Pzr wb R S (.slice lo L.length lc) n1 [] (.slice none 0 0) [] st2 wz)
  case first =>
   cases b6 with
   | true =>
    have h64:64≤F.length:=(by have:=of_decide_eq_true hb6;omega)
    rw[if_pos h64] at hst2'
    clear h64
    go_wp2_with fail
    refine (Zni 9 (by decide) _ hP2.rd).mono ?_
    rintro e w6 ⟨rfl,q6,g6⟩
    rw[hst2'] at q6
    have hP3:=hP2.call g6 q6
    go_wp2
    go_meet
    case rel=>exact⟨rfl,hP3⟩
   | false =>
    have h64:¬ 64≤F.length:=(by have:=of_decide_eq_false hb6;omega)
    rw[if_neg h64] at hst2'
    subst hst2'
    go_wp2
    go_meet
    case rel=>exact⟨rfl,hP2⟩
  case rest =>
  obtain⟨rfl,hP3⟩:=hcut
  clear hP2 hst2' hb6
  generalize wc=w6 at hP3 ⊢
  obtain⟨Z2,hZ2⟩:∃ Z,nmZ [43,43,43,32] L st2=Z:=⟨_,rfl⟩
  have hc2:=ZnJ [43,43,43,32] rfl _ hP3.rd (HLu.out _ (ZmC hP3.gr)) hne (fun p' e=>by have:=Zov (hst2.trans e);omega) hs (fun s p1 h=>(ZoJ hs h).1) Z2 hZ2
  go_wp2_with fail
  refine hc2.mono ?_
  rintro e w7 ⟨hq7,g7⟩
  obtain⟨rfl,q7⟩:=hq7.st
  have hP4:=hP3.call g7 q7
  clear hc2 hP3 hq7 q7 g7
  obtain⟨c0,c1,c2⟩:=hP4.cells
  have f1c:=hP4.frozen 1
  obtain⟨n2,hn2⟩:∃ n,nmN Z2=n:=⟨_,rfl⟩
  have hP5:=hP4.put 1 (.string ⟨(nmN Z2).toArray⟩) (m1:=n1) (m2:=n2) (hv':=.slice none 0 0) (by rw[hn2];rfl) hP4.own
  rw[hn2] at hP5 ⊢
  obtain⟨st3,hst3⟩:∃ s,stP Z2=s:=⟨_,rfl⟩
  rw[hst3] at hP5
  have HPa:Hid (gPa uhZ atR [45,45,45,32] [43,43,43,32] L F.length p=gTo uhZ atR L n1 n2 st3):=(by
   show _=_
   rw[Zns,hst2,hZ2,hst3,hn2,HN1.out.1])
  have HB3:Hid (∀ p2,st3=.ok p2→p<p2∧p2≤L.length):=(by
   intro p2 h
   exact Zow (a1:=[45,45,45,32]) (a2:=[43,43,43,32]) (k:=F.length) (by rw[hst2,hZ2,hst3,h]))
  clear hP4 hn2 hst3 hZ2 Z2 hst2 HN1
  obtain⟨Y,HY0,HYz⟩:∃ Y,gSt uhZ atR L [] (L.length+1) Y st3∧gPa uhZ atR [45,45,45,32] [43,43,43,32] L F.length p=gIn n1 n2 Y:=(by
   cases st3 with
   | error e=>exact⟨.error e,rfl,HPa.out⟩
   | ok p2 =>
    have hb:=HB3.out p2 rfl
    refine⟨gHs uhZ atR L (L.length+1) 0 p2,⟨Znm _ _ _ _ _,hb.2,by omega,Nat.zero_le _⟩,?_⟩
    rw[HPa.out]
    show gIn n1 n2 _=gIn n1 n2 _
    rw[Znj (gok16 hP) ((L.drop p2).length+1) (L.length+1) 0 p2 hb.2 (by rw[List.length_drop];omega) (by omega)])
  have HY1:Hid (gSt uhZ atR L [] (L.length+1) Y st3):=HY0
  have HYZ:Hid (gPa uhZ atR [45,45,45,32] [43,43,43,32] L F.length p=gIn n1 n2 Y):=HYz
  clear HY0 HYz HPa HB3
  go_upto_region 9 with fail
  clear c0 c1 c2 f1c
  generalize w7.setCell ⟨S,1,none⟩ (.string ⟨n2.toArray⟩)=w8 at hP5 ⊢
  go_loopw [] (fun wr=>∃ (hv:Value) (P:List (Hk × Value)) (st':Except (Nat × Int) Nat) (f:Nat),(∃ o c,hv=.slice o P.length c)∧Pzr wb R S (.slice lo L.length lc) n1 n2 hv P st' wr∧P.length≤137438953473∧Hid (gSt uhZ atR L (P.map (·.1)) f Y st')) (fun wr=>zW L wr R)
  case atStart=>exact⟨_,[],st3,L.length+1,⟨none,0,rfl⟩,hP5,by simp,HY1⟩
  case round =>
  clear hP5 HY1
  obtain⟨hv,P,st',f,⟨ho,hc,rfl⟩,hZ,hPl,HI⟩:=hrel
  obtain⟨c0,c1,c2⟩:=hZ.cells
  have c3:=hZ.rd.fe
  have hLr:=HLu.out _ (ZmC hZ.gr)
  have HK:Hid (zW L wr R=zN L st'):=Zsk hZ.rd
  cases st' with
  | error e =>
   obtain⟨a,z⟩:=e
   have hzb:(z == 0)=false:=beq_eq_false_iff_ne.2 hZ.rd.2
   unfold feS at c3
   dsimp only at c3
   generalize hst':(Except.error (a,z):Except (Nat × Int) Nat)=st' at hZ HI HK
   have HEn:Hid (gEn n1 n2 (P.map (·.1)) (gPa uhZ atR [45,45,45,32] [43,43,43,32] L F.length p) st'):=(by
    show gEn _ _ _ _ _
    rw[HYZ.out]
    rw[← hst'] at HI ⊢
    have h:Y=.error (a,z):=HI.out
    rw[h]
    rfl)
   have hZ2:=hZ
   clear hZ hst' HI HK hLr HYZ
   go_upto_region 11 with fail
   clear c0 c1 c2 c3 hzb
   generalize wr=wc at hZ2 ⊢
   rw[← show (F.map (·.x)).length=F.length from List.length_map _] at HEn
   obtain⟨hRq,hPq⟩:=hRo.inner hZ2
   obtain⟨t0,t1,t2⟩:=hZ2.cells
   have HO9:Hid (gOt uhZ atR [45,45,45,32] [43,43,43,32] L ((F++[(⟨⟨n1,n2,P.map (·.1)⟩,.slice ho P.length hc,P⟩:Pfd)]).map (·.x)) (f0-1) X st'):=(by
    have h:=Znq (gok16 hP) hpl HIo.out (n1:=n1) (n2:=n2) (hs:=P.map (·.1)) HEn.out
    show gOt _ _ _ _ _ _ _ _ _
    rw[List.map_append]
    exact h)
   have hRA:=hRq.keep ((Below.refl _ wc).alloc (Nat.le_refl _) (pxO ⟨⟨n1,n2,P.map (·.1)⟩,.slice ho P.length hc,P⟩))
   have hPA:=hPq.keep ((Below.refl _ wc).alloc (Nat.le_refl _) (pxO ⟨⟨n1,n2,P.map (·.1)⟩,.slice ho P.length hc,P⟩))
   have hownA:=hRA.pw.own
   have hbase:=hRA.pw.low.size
   have hrow:Holds _ _ 1 (pxC ⟨⟨n1,n2,P.map (·.1)⟩,.slice ho P.length hc,P⟩):=Zhx wc ⟨⟨n1,n2,P.map (·.1)⟩,.slice ho P.length hc,P⟩
   have HMq:Hid (∀ q:RdZ wc R (.slice lo L.length lc) st',zN L st'<zN L (.ok p)):=(by
    intro q
    cases st' with
    | error e=>show 0<L.length-p+1;omega
    | ok p3 =>
     have h:=Znr (gok16 hP) HEn.out
     show L.length-p3+1<L.length-p+1
     omega)
   have hFl:F.length+1≤2199023255552:=by omega
   clear HEn hZ2 hRo hPq HIo
   unfold pxO at hRA hPA hownA hbase hrow
   dsimp only at hRA hPA hownA hbase hrow
   go_wp2_with (at_builtin;refine Zmi _ (by kernel_rfl) (.tmp 48) (.tmp 50) 22 42 (.agg #[.string ⟨#[]⟩,.string ⟨#[]⟩,.slice none 0 0]) 3 56 rfl Tryz.underlying22 infoPx rfl (by decide) (by decide) w.heap.size _ _ _ rfl hownA _ 1 (pxC ⟨⟨n1,n2,P.map (·.1)⟩,.slice ho P.length hc,P⟩) rfl hrow rfl (fun u hu=>by simp[pxC] at hu;rcases hu with rfl | rfl | rfl<;>rfl) hFl hbase ?_)
   intro v9 u9 ho9 hg9 _
   have hR9:=hRA.more hPA hg9 ho9
   obtain⟨o9,c9,rfl⟩:=(Zeo ho9).form
   have HM9:=HMq.out hRq.rd
   clear hRA hPA hownA hbase hrow ho9 hg9 t0 t1 t2
   go_wp2
   go_roundw
   case rel=>exact⟨F++[⟨⟨n1,n2,P.map (·.1)⟩,.slice ho P.length hc,P⟩],st',f0-1,o9,c9,by rw[List.length_append];rfl,hR9,HO9⟩
   case measure =>
    rw[Zsk hR9.rd,HK0.out]
    exact HM9
  | ok p' =>
  unfold feS at c3
  dsimp only at c3
  obtain⟨gd,hgd⟩:∃ g,(decide (P.map (·.1)=[]) || pkG atR (L.drop p'))=g:=⟨_,rfl⟩
  go_upto_region 9 with fail
  go_cut [37] from 22 to 47 (fun cv wz=>cv=.bool gd∧Pzr wb R S (.slice lo L.length lc) n1 n2 (.slice ho P.length hc) P (.ok p') wz)
  case first =>
   by_cases hP0:P=[]
   ·have z1:((P.length:Int) == 0)=true:=(by rw[hP0];rfl)
    have HE:Hid (true=gd):=(by rw[hP0] at hgd;exact hgd)
    clear hP0 hgd
    go_wp2
    go_meet
    case rel=>exact⟨by rw[← HE.out],hZ⟩
   ·have z1:((P.length:Int) == 0)=false:=(by rw[beq_eq_false_iff_ne];intro e;exact hP0 (List.eq_nil_of_length_eq_zero (by omega)))
    have hat:=Znt atR wr hZ.rd hLr hs (by decide) gd (show Hid (pkZ atR L (.ok p')=gd) by show pkG _ _=_;rw[← hgd,decide_eq_false (by simpa using hP0),Bool.false_or])
    clear hP0 hgd
    go_wp2_with fail
    refine hat.mono ?_
    rintro e w9 ⟨rfl,nn,rfl⟩
    have hZ2:=hZ.keep (below_drewN (Below.refl _ _) nn)
    go_wp2
    go_meet
    case rel=>exact⟨rfl,hZ2⟩
  case rest =>
  obtain⟨rfl,hZ2⟩:=hcut
  clear hZ c0 c1 c2 c3 hLr
  cases gd with
  | false =>
   have HEn:Hid (gEn n1 n2 (P.map (·.1)) (gPa uhZ atR [45,45,45,32] [43,43,43,32] L F.length p) (.ok p')):=(by
    show _=_
    have h:gLf uhZ atR L (P.map (·.1)) f p'=Y:=HI.out.1
    rw[HYZ.out,← h,Znn hgd]
    rfl)
   generalize hst':(Except.ok p':Except (Nat × Int) Nat)=st' at hZ2 HEn
   clear hst' HI HK hgd HYZ
   go_upto_region 11 with fail
   rw[← show (F.map (·.x)).length=F.length from List.length_map _] at HEn
   obtain⟨hRq,hPq⟩:=hRo.inner hZ2
   obtain⟨t0,t1,t2⟩:=hZ2.cells
   have HO9:Hid (gOt uhZ atR [45,45,45,32] [43,43,43,32] L ((F++[(⟨⟨n1,n2,P.map (·.1)⟩,.slice ho P.length hc,P⟩:Pfd)]).map (·.x)) (f0-1) X st'):=(by
    have h:=Znq (gok16 hP) hpl HIo.out (n1:=n1) (n2:=n2) (hs:=P.map (·.1)) HEn.out
    show gOt _ _ _ _ _ _ _ _ _
    rw[List.map_append]
    exact h)
   have hRA:=hRq.keep ((Below.refl _ wc).alloc (Nat.le_refl _) (pxO ⟨⟨n1,n2,P.map (·.1)⟩,.slice ho P.length hc,P⟩))
   have hPA:=hPq.keep ((Below.refl _ wc).alloc (Nat.le_refl _) (pxO ⟨⟨n1,n2,P.map (·.1)⟩,.slice ho P.length hc,P⟩))
   have hownA:=hRA.pw.own
   have hbase:=hRA.pw.low.size
   have hrow:Holds _ _ 1 (pxC ⟨⟨n1,n2,P.map (·.1)⟩,.slice ho P.length hc,P⟩):=Zhx wc ⟨⟨n1,n2,P.map (·.1)⟩,.slice ho P.length hc,P⟩
   have HMq:Hid (∀ q:RdZ wc R (.slice lo L.length lc) st',zN L st'<zN L (.ok p)):=(by
    intro q
    cases st' with
    | error e=>show 0<L.length-p+1;omega
    | ok p3 =>
     have h:=Znr (gok16 hP) HEn.out
     show L.length-p3+1<L.length-p+1
     omega)
   have hFl:F.length+1≤2199023255552:=by omega
   clear HEn hZ2 hRo hPq HIo
   unfold pxO at hRA hPA hownA hbase hrow
   dsimp only at hRA hPA hownA hbase hrow
   go_wp2_with (at_builtin;refine Zmi _ (by kernel_rfl) (.tmp 48) (.tmp 50) 22 42 (.agg #[.string ⟨#[]⟩,.string ⟨#[]⟩,.slice none 0 0]) 3 56 rfl Tryz.underlying22 infoPx rfl (by decide) (by decide) w.heap.size _ _ _ rfl hownA _ 1 (pxC ⟨⟨n1,n2,P.map (·.1)⟩,.slice ho P.length hc,P⟩) rfl hrow rfl (fun u hu=>by simp[pxC] at hu;rcases hu with rfl | rfl | rfl<;>rfl) hFl hbase ?_)
   intro v9 u9 ho9 hg9 _
   have hR9:=hRA.more hPA hg9 ho9
   obtain⟨o9,c9,rfl⟩:=(Zeo ho9).form
   have HM9:=HMq.out hRq.rd
   clear hRA hPA hownA hbase hrow ho9 hg9 t0 t1 t2
   go_wp2
   go_roundw
   case rel=>exact⟨F++[⟨⟨n1,n2,P.map (·.1)⟩,.slice ho P.length hc,P⟩],st',f0-1,o9,c9,by rw[List.length_append];rfl,hR9,HO9⟩
   case measure =>
    rw[Zsk hR9.rd,HK0.out]
    exact HM9
  | true =>
   have hI:gLf uhZ atR L (P.map (·.1)) f p'=Y∧p'≤L.length∧L.length<f+p'∧(P.map (·.1)).length≤p':=HI.out
   rw[List.length_map] at hI
   obtain⟨hI1,hI2,hI3,hI4⟩:=hI
   obtain⟨f',rfl⟩:∃ f',f=f'+1:=⟨f-1,by omega⟩
   rw[Znl hgd,List.length_map] at hI1
   obtain⟨Yh,hYh⟩:∃ Y,uhZ P.length L p'=Y:=⟨_,rfl⟩
   rw[hYh] at hI1
   have hZd:=hZ2.keep (Below.drew (Below.refl _ _))
   have hch:=ZqK wc.drew hZd.rd (fun u hu=>HLu.out u (Znz hZd.gr hu)) hne hP hI2 (by omega) hs (by omega) Yh hYh
   obtain⟨Rr,hRr⟩:∃ Rr:Value→World→Prop,(fun v u=>∃ (h:Hk) (st2:Except (Nat × Int) Nat) (vo:Option Addr) (vc:Nat),(∀ y:Value,Hid (gSt uhZ atR L ((P++[(h,y)]).map (·.1)) f' Y st2)∧∀ u2,RdZ u2 R (.slice lo L.length lc) st2→zW L u2 R<zW L wr R)∧v=hkV h (.slice vo h.ls.length vc)∧Pzr wb R S (.slice lo L.length lc) n1 n2 (.slice ho P.length hc) P st2 u∧u.ownsRow wb.heap.size 47 2 (.slice vo h.ls.length vc) h.ls.length (mkcells h.ls))=Rr:=⟨_,rfl⟩
   have hcall:Calls Tryz.prog 65 (#[.pointer (some ⟨R,0,none⟩),.int .i64 (P.length:Int)]++#[]) wc.drew fun e w'=>(∃ v,e=.returned v∧True∧Rr v w')∨(∃ c,e=.panicked c∧False):=(by
    refine hch.mono ?_
    rintro e w' ⟨h,v',rfl,hown,hgr,hks⟩
    rw[← hRr]
    obtain⟨vo,vc,rfl⟩:=(Zeo hown).form
    cases Yh with
    | error z =>
     refine .inl ⟨_,rfl,trivial,h,.error z,vo,vc,fun y=>⟨hI1.symm,fun u2 q2=>?_⟩,rfl,hZd.call hgr hks,ZhC hown hZd.gr.size⟩
     rw[Zsk q2,HK.out]
     show 0<L.length-p'+1
     omega
    | ok z =>
     obtain⟨h1,p2⟩:=z
     obtain⟨rfl,q⟩:=hks
     have hgo:=(gok16 hP) _ _ _ _ hYh
     refine .inl ⟨_,rfl,trivial,h,.ok p2,vo,vc,fun y=>⟨⟨by rw[List.map_append];exact hI1,hgo.2,by omega,by rw[List.length_map,List.length_append];simp;omega⟩,fun u2 q2=>?_⟩,rfl,hZd.call hgr q,ZhC hown hZd.gr.size⟩
     rw[Zsk q2,HK.out]
     show L.length-p2+1<L.length-p'+1
     omega)
   have HRr:Hid (_=Rr):=hRr
   clear hRr hch hYh HI hgd hI1 hI3
   go_upto_region 10 with fail
   refine wp_region_held_drew (S:=fun _=>True) (by kernel_rfl) trivial (fun _=>?_)
   generalize wc.drew=wd at hZd hcall ⊢
   have c2d:=hZd.cells.2.2
   refine Y_t 0 38 _ (.pointer (some ⟨S,2,none⟩)) rfl (Or.inl ⟨by kernel_rfl,fun u hu=>by kernel_rfl⟩) trivial ?_
   simp only[Act.put,Y_a,Y_b,Y_c]
   refine Y_t 2 40 _ (.pointer (some ⟨R,0,none⟩)) rfl (Or.inl ⟨by kernel_rfl,fun u hu=>by kernel_rfl⟩) trivial ?_
   simp only[Act.put,Y_a,Y_b,Y_c]
   refine Y_t 3 41 _ (.pointer (some ⟨S,2,none⟩)) rfl (Or.inl ⟨by kernel_rfl,fun u hu=>by kernel_rfl⟩) trivial ?_
   simp only[Act.put,Y_a,Y_b,Y_c]
   refine ZdJ 1 39 _ 4 42 _ rfl (by kernel_rfl) rfl (by kernel_rfl) (by kernel_rfl) (by kernel_rfl) (by kernel_rfl) (.slice ho P.length hc) wd (ZfJ c2d (.tmp 38) (by kernel_rfl) (by kernel_rfl)) trivial (.slice ho P.length hc) wd (ZfJ c2d (.tmp 41) (by kernel_rfl) (by kernel_rfl)) trivial ?_ ?_
   ·simp only[Act.put,Y_a,Y_b,Y_c]
    refine Y_v 4 42 _ rfl (.slice ho P.length hc) wd (ZfJ c2d (.tmp 41) (by kernel_rfl) (by kernel_rfl)) trivial ?_
    simp only[Act.put,Y_a,Y_b,Y_c]
    refine Y_t 5 43 _ (.int .i64 (P.length:Int)) rfl (Or.inl ⟨by kernel_rfl,fun u hu=>by kernel_rfl⟩) trivial ?_
    simp only[Act.put,Y_a,Y_b,Y_c]
    refine ZdF 6 44 _ rfl (by kernel_rfl) (by kernel_rfl) (by kernel_rfl) 65 (.func 65) #[.tmp 40,.tmp 43] #[118,3] (by kernel_rfl) #[] (by kernel_rfl) #[.pointer (some ⟨R,0,none⟩),.int .i64 (P.length:Int)] (by kernel_rfl) (enters_of Tryz.func65 (by kernel_rfl) rfl) Rr (fun _ _=>False) (fun _ _ h=>h.elim) ?_ ?_
    ·exact hcall
    intro v0 u1 _ hq
    rw[← HRr.out] at hq
    obtain⟨h,st2,vo,vc,hk2,rfl,hR1,hown1⟩:=hq
    have c1u:=hR1.cells.2.2
    have hRA:=hR1.keep ((Below.refl _ u1).alloc (Nat.le_refl _) (hkO h (.slice vo h.ls.length vc)))
    have c2u:=hRA.cells.2.2
    simp only[Act.put,Y_a,Y_b,Y_c]
    refine Y_v 7 45 _ rfl (.slice (some ⟨u1.heap.size,0,none⟩) 1 1) (u1.alloc (hkO h (.slice vo h.ls.length vc))) (by kernel_rfl) trivial ?_
    simp only[Act.put,Y_a,Y_b,Y_c]
    have hownA:=hown1.alloc (hkO h (.slice vo h.ls.length vc))
    obtain⟨v3,u3,hr3,hown3,hg3,_⟩:=ZjJ (u1.alloc (hkO h (.slice vo h.ls.length vc))) 40 45 40 (.agg #[.int .i64 0,.int .i64 0,.int .i64 0,.int .i64 0,.slice none 0 0]) 5 56 Tryz.underlying40 infoHk rfl (by decide) (by decide) wb.heap.size _ _ _ hRA.own _ 1 (hkC h (.slice vo h.ls.length vc)) (Zhz u1 h (.slice vo h.ls.length vc)) rfl (fun u hu=>by simp[hkC] at hu;rcases hu with rfl | rfl | rfl | rfl | rfl<;>rfl) (by omega) hRA.gr.size
    have hR3:=hRA.more hownA hg3 hown3
    obtain⟨o3,k3,rfl⟩:=(Zeo hown3).form
    refine Y_v 8 46 _ rfl (.slice o3 (P.length+1) k3) u3 (ZcT (.tmp 39) (.tmp 45) (by kernel_rfl) (by kernel_rfl) (by kernel_rfl) hr3) trivial ?_
    simp only[Act.put,Y_a,Y_b,Y_c]
    refine Y_t 9 47 _ (.pointer (some ⟨S,2,none⟩)) rfl (Or.inl ⟨by kernel_rfl,fun u hu=>by kernel_rfl⟩) trivial ?_
    simp only[Act.put,Y_a,Y_b,Y_c]
    refine Y_s 10 _ rfl (u3.setCell ⟨S,2,none⟩ (.slice o3 (P.length+1) k3)) (ZcZ hR3.2.1 hR3.2.2 (.tmp 47) (.tmp 46) (by kernel_rfl) (by kernel_rfl) (by kernel_rfl)) trivial ?_
    refine wpAnyH_done (by kernel_rfl) ?_ _
    have hR4:=hR3.1
    have hk3:=hk2 (.slice vo h.ls.length vc)
    go_wp2
    refine⟨⟨_,P++[(h,.slice vo h.ls.length vc)],st2,f',⟨o3,k3,by rw[List.length_append];rfl⟩,hR4,by rw[List.length_append];simp;omega,hk3.1⟩,?_⟩
    have h9:=hk3.2 _ hR4.rd
    omega
   ·simp only[Act.put,Y_a,Y_b,Y_c]
    refine Y_t 5 43 _ (.int .i64 (P.length:Int)) rfl (Or.inl ⟨by kernel_rfl,fun u hu=>by kernel_rfl⟩) trivial ?_
    simp only[Act.put,Y_a,Y_b,Y_c]
    refine ZdM 1 39 _ 6 44 _ rfl (by kernel_rfl) rfl (by kernel_rfl) (by kernel_rfl) (by kernel_rfl) (by kernel_rfl) (.slice ho P.length hc) wd (ZfJ c2d (.tmp 38) (by kernel_rfl) (by kernel_rfl)) trivial 65 (.func 65) #[.tmp 40,.tmp 43] #[118,3] (by kernel_rfl) #[] (by kernel_rfl) #[.pointer (some ⟨R,0,none⟩),.int .i64 (P.length:Int)] (by kernel_rfl) (enters_of Tryz.func65 (by kernel_rfl) rfl) Rr (fun _ _=>False) (fun _ _ h=>h.elim) ?_ ?_ ?_
    ·exact hcall
    ·simp only[Act.put,Y_a,Y_b,Y_c]
     refine ZdF 6 44 _ rfl (by kernel_rfl) (by kernel_rfl) (by kernel_rfl) 65 (.func 65) #[.tmp 40,.tmp 43] #[118,3] (by kernel_rfl) #[] (by kernel_rfl) #[.pointer (some ⟨R,0,none⟩),.int .i64 (P.length:Int)] (by kernel_rfl) (enters_of Tryz.func65 (by kernel_rfl) rfl) Rr (fun _ _=>False) (fun _ _ h=>h.elim) ?_ ?_
     ·exact hcall
     intro v0 u1 _ hq
     rw[← HRr.out] at hq
     obtain⟨h,st2,vo,vc,hk2,rfl,hR1,hown1⟩:=hq
     have c1u:=hR1.cells.2.2
     have hRA:=hR1.keep ((Below.refl _ u1).alloc (Nat.le_refl _) (hkO h (.slice vo h.ls.length vc)))
     have c2u:=hRA.cells.2.2
     simp only[Act.put,Y_a,Y_b,Y_c]
     refine Y_v 7 45 _ rfl (.slice (some ⟨u1.heap.size,0,none⟩) 1 1) (u1.alloc (hkO h (.slice vo h.ls.length vc))) (by kernel_rfl) trivial ?_
     simp only[Act.put,Y_a,Y_b,Y_c]
     have hownA:=hown1.alloc (hkO h (.slice vo h.ls.length vc))
     obtain⟨v3,u3,hr3,hown3,hg3,_⟩:=ZjJ (u1.alloc (hkO h (.slice vo h.ls.length vc))) 40 45 40 (.agg #[.int .i64 0,.int .i64 0,.int .i64 0,.int .i64 0,.slice none 0 0]) 5 56 Tryz.underlying40 infoHk rfl (by decide) (by decide) wb.heap.size _ _ _ hRA.own _ 1 (hkC h (.slice vo h.ls.length vc)) (Zhz u1 h (.slice vo h.ls.length vc)) rfl (fun u hu=>by simp[hkC] at hu;rcases hu with rfl | rfl | rfl | rfl | rfl<;>rfl) (by omega) hRA.gr.size
     have hR3:=hRA.more hownA hg3 hown3
     obtain⟨o3,k3,rfl⟩:=(Zeo hown3).form
     refine Y_v 8 46 _ rfl (.slice o3 (P.length+1) k3) u3 (ZcT (.tmp 39) (.tmp 45) (by kernel_rfl) (by kernel_rfl) (by kernel_rfl) hr3) trivial ?_
     simp only[Act.put,Y_a,Y_b,Y_c]
     refine Y_t 9 47 _ (.pointer (some ⟨S,2,none⟩)) rfl (Or.inl ⟨by kernel_rfl,fun u hu=>by kernel_rfl⟩) trivial ?_
     simp only[Act.put,Y_a,Y_b,Y_c]
     refine Y_s 10 _ rfl (u3.setCell ⟨S,2,none⟩ (.slice o3 (P.length+1) k3)) (ZcZ hR3.2.1 hR3.2.2 (.tmp 47) (.tmp 46) (by kernel_rfl) (by kernel_rfl) (by kernel_rfl)) trivial ?_
     refine wpAnyH_done (by kernel_rfl) ?_ _
     have hR4:=hR3.1
     have hk3:=hk2 (.slice vo h.ls.length vc)
     go_wp2
     refine⟨⟨_,P++[(h,.slice vo h.ls.length vc)],st2,f',⟨o3,k3,by rw[List.length_append];rfl⟩,hR4,by rw[List.length_append];simp;omega,hk3.1⟩,?_⟩
     have h9:=hk3.2 _ hR4.rd
     omega
    ·intro v0 u1 _ hq
     rw[← HRr.out] at hq
     obtain⟨h,st2,vo,vc,hk2,rfl,hR1,hown1⟩:=hq
     have c1u:=hR1.cells.2.2
     have hRA:=hR1.keep ((Below.refl _ u1).alloc (Nat.le_refl _) (hkO h (.slice vo h.ls.length vc)))
     have c2u:=hRA.cells.2.2
     simp only[Act.put,Y_a,Y_b,Y_c]
     refine ZdJ 1 39 _ 7 45 _ rfl (by kernel_rfl) rfl (by kernel_rfl) (by kernel_rfl) (by kernel_rfl) (by kernel_rfl) (.slice ho P.length hc) u1 (ZfJ c1u (.tmp 38) (by kernel_rfl) (by kernel_rfl)) trivial (.slice (some ⟨u1.heap.size,0,none⟩) 1 1) (u1.alloc (hkO h (.slice vo h.ls.length vc))) (by kernel_rfl) trivial ?_ ?_
     ·simp only[Act.put,Y_a,Y_b,Y_c]
      refine Y_v 7 45 _ rfl (.slice (some ⟨u1.heap.size,0,none⟩) 1 1) (u1.alloc (hkO h (.slice vo h.ls.length vc))) (by kernel_rfl) trivial ?_
      simp only[Act.put,Y_a,Y_b,Y_c]
      have hownA:=hown1.alloc (hkO h (.slice vo h.ls.length vc))
      obtain⟨v3,u3,hr3,hown3,hg3,_⟩:=ZjJ (u1.alloc (hkO h (.slice vo h.ls.length vc))) 40 45 40 (.agg #[.int .i64 0,.int .i64 0,.int .i64 0,.int .i64 0,.slice none 0 0]) 5 56 Tryz.underlying40 infoHk rfl (by decide) (by decide) wb.heap.size _ _ _ hRA.own _ 1 (hkC h (.slice vo h.ls.length vc)) (Zhz u1 h (.slice vo h.ls.length vc)) rfl (fun u hu=>by simp[hkC] at hu;rcases hu with rfl | rfl | rfl | rfl | rfl<;>rfl) (by omega) hRA.gr.size
      have hR3:=hRA.more hownA hg3 hown3
      obtain⟨o3,k3,rfl⟩:=(Zeo hown3).form
      refine Y_v 8 46 _ rfl (.slice o3 (P.length+1) k3) u3 (ZcT (.tmp 39) (.tmp 45) (by kernel_rfl) (by kernel_rfl) (by kernel_rfl) hr3) trivial ?_
      simp only[Act.put,Y_a,Y_b,Y_c]
      refine Y_t 9 47 _ (.pointer (some ⟨S,2,none⟩)) rfl (Or.inl ⟨by kernel_rfl,fun u hu=>by kernel_rfl⟩) trivial ?_
      simp only[Act.put,Y_a,Y_b,Y_c]
      refine Y_s 10 _ rfl (u3.setCell ⟨S,2,none⟩ (.slice o3 (P.length+1) k3)) (ZcZ hR3.2.1 hR3.2.2 (.tmp 47) (.tmp 46) (by kernel_rfl) (by kernel_rfl) (by kernel_rfl)) trivial ?_
      refine wpAnyH_done (by kernel_rfl) ?_ _
      have hR4:=hR3.1
      have hk3:=hk2 (.slice vo h.ls.length vc)
      go_wp2
      refine⟨⟨_,P++[(h,.slice vo h.ls.length vc)],st2,f',⟨o3,k3,by rw[List.length_append];rfl⟩,hR4,by rw[List.length_append];simp;omega,hk3.1⟩,?_⟩
      have h9:=hk3.2 _ hR4.rd
      omega
     ·simp only[Act.put,Y_a,Y_b,Y_c]
      refine Y_v 1 39 _ rfl (.slice ho P.length hc) (u1.alloc (hkO h (.slice vo h.ls.length vc))) (ZfJ c2u (.tmp 38) (by kernel_rfl) (by kernel_rfl)) trivial ?_
      simp only[Act.put,Y_a,Y_b,Y_c]
      have hownA:=hown1.alloc (hkO h (.slice vo h.ls.length vc))
      obtain⟨v3,u3,hr3,hown3,hg3,_⟩:=ZjJ (u1.alloc (hkO h (.slice vo h.ls.length vc))) 40 45 40 (.agg #[.int .i64 0,.int .i64 0,.int .i64 0,.int .i64 0,.slice none 0 0]) 5 56 Tryz.underlying40 infoHk rfl (by decide) (by decide) wb.heap.size _ _ _ hRA.own _ 1 (hkC h (.slice vo h.ls.length vc)) (Zhz u1 h (.slice vo h.ls.length vc)) rfl (fun u hu=>by simp[hkC] at hu;rcases hu with rfl | rfl | rfl | rfl | rfl<;>rfl) (by omega) hRA.gr.size
      have hR3:=hRA.more hownA hg3 hown3
      obtain⟨o3,k3,rfl⟩:=(Zeo hown3).form
      refine Y_v 8 46 _ rfl (.slice o3 (P.length+1) k3) u3 (ZcT (.tmp 39) (.tmp 45) (by kernel_rfl) (by kernel_rfl) (by kernel_rfl) hr3) trivial ?_
      simp only[Act.put,Y_a,Y_b,Y_c]
      refine Y_t 9 47 _ (.pointer (some ⟨S,2,none⟩)) rfl (Or.inl ⟨by kernel_rfl,fun u hu=>by kernel_rfl⟩) trivial ?_
      simp only[Act.put,Y_a,Y_b,Y_c]
      refine Y_s 10 _ rfl (u3.setCell ⟨S,2,none⟩ (.slice o3 (P.length+1) k3)) (ZcZ hR3.2.1 hR3.2.2 (.tmp 47) (.tmp 46) (by kernel_rfl) (by kernel_rfl) (by kernel_rfl)) trivial ?_
      refine wpAnyH_done (by kernel_rfl) ?_ _
      have hR4:=hR3.1
      have hk3:=hk2 (.slice vo h.ls.length vc)
      go_wp2
      refine⟨⟨_,P++[(h,.slice vo h.ls.length vc)],st2,f',⟨o3,k3,by rw[List.length_append];rfl⟩,hR4,by rw[List.length_append];simp;omega,hk3.1⟩,?_⟩
      have h9:=hk3.2 _ hR4.rd
      omega
end

section
open Go.RowKit
open Ln
theorem ZpS (t:List UInt8) (w:World) (X:Except (Nat × Int) (List Pth)) (HX:Hid (unT atR t=X)) :
  Calls Tryz.prog 33 #[.string ⟨t.toArray⟩] w fun e w'=>RfQ6 w X e w':=by
 have hX:=HX.out
 by_cases hlong:1048576<t.length
 ·have hXe:X=.error (0,9):=(by rw[← hX];unfold unT;rw[if_pos hlong])
  subst hXe
  exact rParse16S (L:=[]) t w _ rfl (fun s hs=>by cases hs) (by simp) (fun s hs=>by cases hs) (.error (0,9)) 0 _ rfl (Zqd t w _ rfl hlong)
 ·have hb:=Zkz (t:=t) (M:=1048576) (by omega)
  have hn:=split_len t
  refine rParse16S (L:=splitL t) t w _ rfl (Zkx t) (by omega) (fun s hs=>by have:=hb s hs;omega) (.ok 0) (splitL t).length X ?_ (Zqc t w _ rfl (by omega))
  refine⟨?_,Nat.zero_le _,by omega,Nat.le_refl _⟩
  show thenPs [] (gPs uhZ atR [45,45,45,32] [43,43,43,32] (splitL t) (splitL t).length 0 0)=X
  rw[ZrE,← hX,ZrW atR t hlong]
end

section
open Go.RowKit
attribute [local go_sem] ByteArray.extract_mk Zhc
def Fd (m:List Mk):Prop:=∀ x∈m,fdB x.tx=true∧x.tx.length≤1099511627776
theorem ZjW {sg:List UInt8} {S:Int} {n p:Nat} {ls:List (List UInt8)} {e:Nat × Int} (h:rdL sg S n p ls=.error e):sdC sg S n p ls=.error e:=by
 unfold sdC
 rw[h]
theorem Zhe {B R:Nat} {L:List (List UInt8)} {lo:Option Addr} {lc:Nat} {p:Nat} (w:World) (q:Ry w R (.slice lo L.length lc) p) (HL:Hid (∀ u,Fr B R w u→HS u (.slice lo L.length lc) L)) (HPl:Hid (Plain L)) (hp:p≤L.length) (hLl:L.length≤2199023255552) (HSl:Hid (∀ s∈L,s.length≤1099511627776))
  (hB:B≤w.heap.size) (hRB:R<B) (sg:List UInt8) (HSG:Hid (∀ c∈sg,c≠10)) (S:Int) (n:Nat) (hn:n≤2147483647) (v:Value) (m0:List Mk) (hm0:m0.length≤1099511627776) (hv:w.ownsRow B 47 2 v m0.length (mkcells m0))
  (X:Except (Nat × Int) (List Mk × Nat × List (List UInt8))) (HX:Hid (sdC sg S n p (L.drop p)=X)) :
  Calls Tryz.prog 319 #[.pointer (some ⟨R,0,none⟩),v,.int .i64 (n:Int),.string ⟨sg.toArray⟩,.int .u8 S] w fun x w'=>SdQ B R (.slice lo L.length lc) m0 X w x w':=by
 obtain⟨vo,vc,rfl⟩:=(Zeo hv).form
 obtain⟨Y,hY⟩:∃ Y,rdL sg S n p (L.drop p)=Y:=⟨_,rfl⟩
 have HY:Hid (thenL [] (rdL sg S (n-0) p (L.drop p))=Y):=(by show _=_;rw[ZkM];exact hY)
 have HXE:Hid (∀ e,Y=.error e→X=.error e):=(by
  intro e he
  rw[← HX.out]
  exact ZjW (hY.trans he))
 have HXO:Hid (∀ l p1 r,Y=.ok (l,p1,r)→X=if (decide (0<n) && endK l r)=true then .ok (cutL l,p1+1,r.tail) else .ok (l,p1,r)):=(by
  intro l p1 r he
  rw[← HX.out]
  unfold sdC
  rw[hY.trans he])
 have hv0:w.ownsRow B 47 2 (.slice vo m0.length vc) m0.length (mkcells (m0++[])):=(by rw[List.append_nil];exact hv)
 have HF0:Hid (Fd []∧([]:List Mk).length=0∧(m0++[]).length=m0.length):=⟨(fun x hx=>by cases hx),rfl,by rw[List.append_nil]⟩
 clear hY HX hv
 go_enter Tryz.func319,Tryz.ntmps319
 go_wp2
 go_loopw [1,14] (fun mv i wr=>∃ (k:Nat) (m:List Mk) (p' N:Nat),k≤n∧i=.int .i64 (k:Int)∧N≤1099511627776+k∧(∃ o c,mv=.slice o N c)∧wr.ownsRow B 47 2 mv N (mkcells (m0++m))∧Ry wr R (.slice lo L.length lc) (p':Int)∧Fr B R w wr∧p'≤L.length∧Hid (Fd m∧m.length=k∧(m0++m).length=N)∧Hid (thenL m (rdL sg S (n-k) p' (L.drop p'))=Y)) (fun _ i _=>n-(intOf i).toNat)
 case atStart=>exact⟨0,[],p,m0.length,Nat.zero_le _,by go_num,by omega,⟨vo,vc,rfl⟩,hv0,q,Fr.refl _ _ _,hp,HF0,HY⟩
 case round =>
 obtain⟨k,m,p1,N,hk,rfl,hNk,⟨o,c,rfl⟩,hown,q1,hF,hp1,HF,HI⟩:=hrel
 have hsz:=hF.size
 have hLr:=HL.out wr hF
 by_cases hlt:k<n
 ·obtain⟨Z,hZ⟩:∃ Z,nxt p1 (L.drop p1)=Z:=⟨_,rfl⟩
  have hl:=ZgX wr q1 hLr hp1 hLl HSl.out Z hZ
  have hnk:n-k=(n-(k+1))+1:=by omega
  cases Z with
  | error z =>
   obtain⟨a,e⟩:=z
   have hXe:X=.error (a,e):=(by
    apply HXE.out
    rw[← HI.out,hnk]
    unfold thenL rdL
    rw[hZ])
   subst hXe
   have HDone:Hid (∀ u,wr.grownBy u (some R)→Fr B R w u):=fun u hu=>hF.trans (Fr.of hu (Nat.le_trans hB hsz))
   clear HXE HXO HI hZ hown hnk
   go_wp2_with fail
   refine hl.mono ?_
   rintro x w1 ⟨⟨g,rfl,hg⟩,hgr⟩
   go_wp2
   exact⟨rfl,⟨_,rfl,hg⟩,HDone.out _ hgr⟩
  | ok z =>
   obtain⟨s,r⟩:=z
   obtain⟨hr,hpl,_,hLp⟩:=Zhr hZ
   have hsl:=HSl.out L[p1] (List.getElem_mem hpl)
   rw[hLp,List.length_append] at hsl
   have hst:=Zjb (sg:=sg) (S:=S) (n:=n-(k+1)) hZ m
   rw[← hnk,HI.out] at hst
   obtain⟨T,hT⟩:∃ T,s++[10]=T:=⟨_,rfl⟩
   obtain⟨U,hU⟩:∃ U,s.drop sg.length++[10]=U:=⟨_,rfl⟩
   have hUl:U.length≤1099511627776:=(by rw[← hU,List.length_append,List.length_drop];simp only[List.length_cons,List.length_nil] at hsl ⊢;omega)
   have hUf:fdB U=true:=(by rw[← hU];exact Zdf _)
   have hl2:Calls Tryz.prog 317 #[.pointer (some ⟨R,0,none⟩)] wr fun x w'=>x=.returned (.string ⟨T.toArray⟩)∧∃ n,w'=wr.drewN n:=(by
    refine hl.mono ?_
    rintro x w' ⟨h1,h2⟩
    rw[hT] at h1
    exact⟨h1,h2⟩)
   have hc:=fun u=>Tryz.strings_CutPrefix ⟨T.toArray⟩ ⟨sg.toArray⟩ u
   have hpf:Lib.hasPrefix (⟨T.toArray⟩:ByteArray).data.toList (⟨sg.toArray⟩:ByteArray).data.toList=sg.isPrefixOf s:=(by
    show Lib.hasPrefix T sg=_
    rw[← hT]
    exact ZiE HSG.out)
   rw[hpf] at hc
   by_cases hpre:sg.isPrefixOf s=true
   ·rw[if_pos hpre,hU,hr] at hst
    have htr:Lib.trimPrefix (⟨T.toArray⟩:ByteArray).data.toList (⟨sg.toArray⟩:ByteArray).data.toList=U:=(by
     show Lib.trimPrefix T sg=_
     rw[← hT,← hU]
     exact ZkU HSG.out hpre)
    rw[htr,hpre] at hc
    have HI2:Hid (thenL (m++[⟨S,U⟩]) (rdL sg S (n-(k+1)) (p1+1) (L.drop (p1+1)))=Y):=hst.symm
    have HF2:Hid (Fd (m++[⟨S,U⟩])∧(m++[(⟨S,U⟩:Mk)]).length=k+1∧(m0++(m++[(⟨S,U⟩:Mk)])).length=N+1):=⟨(by
     intro x hx
     rcases List.mem_append.1 hx with hx | hx
     ·exact HF.out.1 x hx
     ·rw[List.mem_singleton.1 hx]
      exact⟨hUf,hUl⟩),(by have:=HF.out.2.1;simp[this]),(by have:=HF.out.2.2;rw[← List.append_assoc,List.length_append,this];rfl)⟩
    clear hst hpf htr hpre hZ hl hLp hsl hUf hr HI HXE HXO hT hU HF hnk
    go_wp2_with fail
    refine hl2.mono ?_
    rintro x w1 ⟨rfl,nn,rfl⟩
    have q2:=q1.dN nn
    have hown2:(wr.drewN nn).ownsRow B 47 2 (.slice o N c) N (mkcells (m0++m)):=hown
    have hF2:Fr B R w (wr.drewN nn):=hF.trans ⟨rfl,rfl,rfl,Nat.le_refl _,fun _ _ _=>rfl⟩
    clear q1 hown hF hLr hl2
    generalize wr.drewN nn=W1 at q2 hown2 hF2 ⊢
    go_wp2_with fail
    refine (hc W1).mono ?_
    rintro x w2 ⟨rfl,rfl⟩
    have hsz2:=hF2.size
    have hrow:=Zgj w2 ⟨S,U⟩
    have hownA:=hown2.alloc (mkO ⟨S,U⟩)
    have qA:Ry (w2.alloc (mkO ⟨S,U⟩)) R (.slice lo L.length lc) (p1:Int):=q2.low ((Below.refl _ w2).alloc (Nat.le_refl _) _)
    have hFA:Fr B R w (w2.alloc (mkO ⟨S,U⟩)):=hF2.trans (Fr.of (World.grownBy_alloc w2 _ _) (Nat.le_trans hB hsz2))
    have HS2:Hid ((w2.alloc (mkO ⟨S,U⟩)).heap.size=w2.heap.size+1):=(by show _=_;simp)
    have hW:w2.alloc (Obj.cells #[Value.int IntKind.u8 S,Value.string ⟨U.toArray⟩] 47)=w2.alloc (mkO ⟨S,U⟩):=rfl
    have hxk:N+1≤2199023255552:=by omega
    clear hown2 q2 hF2 hc
    go_wp2_with (at_builtin;refine Zmi _ (by kernel_rfl) (.tmp 27) (.tmp 31) 43 47 (.agg #[.int .u8 0,.string ⟨#[]⟩]) 2 24 rfl Tryz.underlying43 infoMk rfl (by decide) (by decide) B _ _ _ rfl hownA _ 1 (mkcells [⟨S,U⟩]) rfl hrow (Zgo _) (Zgp _) hxk (by have:=HS2.out;omega) ?_)
    intro v3 u3 hown3 hg3 _
    rw[← Zgl,List.append_assoc] at hown3
    have hne3:(some R:Option Nat)≠(Value.slice o N c).ownBlock:=(by
     intro e
     have:=ZhJ hownA e.symm
     omega)
    have q3:=qA.keep hg3 hne3
    have hF3:=hFA.trans (Fr.own (R:=R) hg3 (by have:=HS2.out;omega) (fun j hj=>ZhJ hownA hj))
    obtain⟨o3,c3,rfl⟩:=(Zeo hown3).form
    obtain⟨d0,d1⟩:=q3.cells
    have f1:=q3.frozen 1
    have q4:=q3.at ((p1:Int)+1)
    have hg4:=ZdS u3 R 1 (.int .i64 ((p1:Int)+1))
    have hown4:=ZhI hown3 hg4 hRB
    have hsz3:=hF3.size
    have hF4:=hF3.trans (Fr.of hg4 (Nat.le_trans hB hsz3))
    clear hW hg3 hownA hown3 hrow qA hFA q3 hF3 hg4 HS2
    go_wp2
    refine⟨⟨k+1,m++[⟨S,U⟩],p1+1,N+1,by omega,by go_num,by omega,⟨o3,c3,rfl⟩,hown4,by simpa using q4,hF4,by omega,HF2,HI2⟩,by simp[intOf];omega⟩
   ·have hXe:X=.error (p1+1,3):=(by
     apply HXE.out
     rw[hst,if_neg hpre])
    have hpr2:sg.isPrefixOf s=false:=Bool.eq_false_iff.2 hpre
    rw[hpr2] at hc
    subst hXe
    have HDone:Hid (∀ u,wr.grownBy u (some R)→Fr B R w u):=fun u hu=>hF.trans (Fr.of hu (Nat.le_trans hB hsz))
    have q2:=fun nn=>q1.dN nn
    clear HXE HXO HI hZ hown hnk hst hpf hpre hpr2 hl hLp hsl hr hT hU
    generalize Lib.trimPrefix (⟨T.toArray⟩:ByteArray).data.toList (⟨sg.toArray⟩:ByteArray).data.toList=U2 at hc
    go_wp2_with fail
    refine hl2.mono ?_
    rintro x w1 ⟨rfl,nn,rfl⟩
    go_wp2_with fail
    refine (hc _).mono ?_
    rintro x w2 ⟨rfl,rfl⟩
    go_wp2_with fail
    refine (Zhi 3 _ (q2 nn) (by omega)).mono ?_
    rintro e w3 ⟨⟨g,rfl,hg⟩,hgr⟩
    go_wp2
    exact⟨rfl,⟨_,rfl,by simpa using hg⟩,HDone.out _ (ZdT (ZdP (ZfO (Below.refl wr.heap.size wr) (some R)) nn) hgr)⟩
 ·have hkn:k=n:=by omega
  subst hkn
  have hYv:Y=.ok (m,p1,L.drop p1):=(by
   rw[← HI.out,Nat.sub_self]
   simp[thenL,rdL])
  have hXv:=HXO.out m p1 (L.drop p1) hYv
  have hend:decide ((k:Int)<(k:Int))=false:=decide_eq_false (by omega)
  clear HXE HXO HI hYv HL
  by_cases h0:0<k
  ·have h0d:decide (0<k)=true:=decide_eq_true h0
   rw[h0d,Bool.true_and] at hXv
   obtain⟨m1,mk,hmm⟩:∃ m1 mk,m=m1++[mk]:=(by
    have hne:m≠[]:=(by
     rintro rfl
     have:=HF.out.2.1
     simp at this
     omega)
    exact⟨m.dropLast,m.getLast hne,(List.dropLast_concat_getLast hne).symm⟩)
   subst hmm
   have hfd:=HF.out.1 mk (by simp)
   obtain⟨N1,hN1⟩:∃ N1,(m0++m1).length=N1:=⟨_,rfl⟩
   have hNN:N=N1+1:=(by have:=HF.out.2.2;rw[← this,← hN1];simp;omega)
   subst hNN
   have hown':=hown
   rw[← hN1,← List.append_assoc] at hown'
   obtain⟨g,cap,hvv,hBg,hgs,d1,df,hset⟩:=ZhL hown'
   rw[hN1] at d1 df hset hvv
   injection hvv with hv1 hv2 hv3
   subst hv1 hv3
   have hgR:R≠g:=by omega
   unfold endK at hXv
   rw[Zfs,Zco] at hXv
   have HNn:Hid (∀ x:Mk,(m0++(m1++[x])).length=N1+1):=(by intro x;rw[← hN1];simp;omega)
   clear hown' hN1 HF
   have j0:(0:Int)<(k:Int):=by omega
   have j1:(0:Int)≤(N1:Int):=by omega
   have j2:(N1:Int)<(N1:Int)+1:=by omega
   have j3:(N1:Int)+1-1=(N1:Int):=by omega
   have j4:IntKind.i64.wrap (N1:Int)=(N1:Int):=Zmm (by omega) (by omega)
   cases hb:(mk.tx != [10] && pkM (L.drop p1)) with
   | false =>
    rw[hb,if_neg (by decide)] at hXv
    subst hXv
    have he:=ZgP (g:=g) (o:=N1 * 2) wr q1 hLr HPl.out hp1 hLl mk.tx d1 hb
    clear hb hset df hfd
    go_wp2_with fail
    refine he.mono ?_
    rintro x w1 ⟨rfl,nn,rfl⟩
    go_wp2
    go_ret
    exact⟨_,rfl,by rw[HNn.out];exact hown,q1,hF.trans ⟨rfl,rfl,rfl,Nat.le_refl _,fun _ _ _=>rfl⟩⟩
   | true =>
    rw[hb,if_pos rfl] at hXv
    subst hXv
    have HTt:Hid (mk.tx=mk.tx.dropLast++[10]):=Zdd hfd.1
    have he:=ZgQ (g:=g) (o:=N1 * 2) wr q1 hLr HPl.out hLl hgR mk.tx mk.tx.dropLast HTt hfd.2 d1 df hb
    have hs2:=fun nn=>hset (wr.drewN nn) mk.tx.dropLast rfl
    clear hb hset df hfd
    go_wp2_with fail
    refine he.mono ?_
    rintro x w1 ⟨rfl,nn,rfl⟩
    have hg1:=ZdS (wr.drewN nn) g (N1 * 2+1) (.string ⟨mk.tx.dropLast.toArray⟩)
    have q2:=((q1.dN nn).keep hg1 (fun e=>hgR (Option.some.inj e))).at ((p1:Int)+1)
    have hg2:=ZdS ((wr.drewN nn).setCell ⟨g,N1 * 2+1,none⟩ (.string ⟨mk.tx.dropLast.toArray⟩)) R 1 (.int .i64 ((p1:Int)+1))
    have hown2:=ZhI (hs2 nn) hg2 hRB
    have hF1:Fr B R w (wr.drewN nn):=hF.trans ⟨rfl,rfl,rfl,Nat.le_refl _,fun _ _ _=>rfl⟩
    have hF2:=hF1.trans (Fr.own (R:=R) hg1 (Nat.le_trans hB hsz) (fun j hj=>by cases hj;exact hBg))
    have hF3:=hF2.trans (Fr.of hg2 (Nat.le_trans hB hF2.size))
    go_wp2
    go_ret
    refine⟨_,rfl,?_,by simpa using q2,hF3⟩
    rw[HNn.out,← List.append_assoc]
    exact hown2
  ·have h0d:decide (0<k)=false:=decide_eq_false h0
   rw[h0d,Bool.false_and,if_neg (by decide)] at hXv
   subst hXv
   have j0:¬ (0:Int)<(k:Int):=by omega
   go_wp2
   go_ret
   exact⟨_,rfl,by rw[HF.out.2.2];exact hown,q1,hF⟩
end

section
open Go.RowKit
attribute [local go_sem] ByteArray.extract_mk Zhc
theorem LnsP.out {s:List UInt8} {x:Ending} (h:LnsP s x):∃ A N b,x=.returned (.tuple #[.int .i64 A,.int .i64 N,.bool b])∧lnsP s=if b=true then some (A,N) else none:=by
 unfold LnsP at h
 cases hl:lnsP s with
 | none =>
  rw[hl] at h
  obtain⟨A,N,rfl⟩:=h
  exact⟨A,N,false,rfl,rfl⟩
 | some z =>
  obtain⟨A,N⟩:=z
  rw[hl] at h
  exact⟨A,N,true,h,rfl⟩
def CmdP (s:List UInt8) (x:Ending):Prop :=
 match cmdP s with
 | some (A,AN,B,BN)=>x=.returned (.tuple #[hkV ⟨A,AN,B,BN,[]⟩ (.slice none 0 0),.bool true])
 | none=>∃ A AN B BN,x=.returned (.tuple #[hkV ⟨A,AN,B,BN,[]⟩ (.slice none 0 0),.bool false])
theorem CmdP.off {s:List UInt8} (h:∀ j (hj:j<s.length),isC s[j]=false):CmdP s (.returned (.tuple #[hkV ⟨0,0,0,0,[]⟩ (.slice none 0 0),.bool false])):=by
 unfold CmdP cmdP
 rw[Zkr s h]
 exact⟨0,0,0,0,rfl⟩
section
variable {u:World} {b:Nat} {h:Hk} {v:Value}
theorem Hx.putH5 (q:Hx u b h v) (A AN B BN:Int) (l:List Mk) (z:Value):Hx (((((u.setCell ⟨b,0,none⟩ (.int .i64 A)).setCell ⟨b,1,none⟩ (.int .i64 AN)).setCell ⟨b,2,none⟩ (.int .i64 B)).setCell ⟨b,3,none⟩ (.int .i64 BN)).setCell ⟨b,4,none⟩ z) b ⟨A,AN,B,BN,l⟩ z:=by
 have s1:=heap_setCell_same u b 0 _ _ (.int .i64 A) q
 have s2:=heap_setCell_same _ b 1 _ _ (.int .i64 AN) s1
 have s3:=heap_setCell_same _ b 2 _ _ (.int .i64 B) s2
 have s4:=heap_setCell_same _ b 3 _ _ (.int .i64 BN) s3
 exact heap_setCell_same _ b 4 _ _ z s4
theorem Hx.put0 (q:Hx u b h v) (A:Int):Hx (u.setCell ⟨b,0,none⟩ (.int .i64 A)) b ⟨A,h.AN,h.B,h.BN,h.ls⟩ v:=heap_setCell_same u b 0 _ _ (.int .i64 A) q
theorem Hx.put1 (q:Hx u b h v) (A:Int):Hx (u.setCell ⟨b,1,none⟩ (.int .i64 A)) b ⟨h.A,A,h.B,h.BN,h.ls⟩ v:=heap_setCell_same u b 1 _ _ (.int .i64 A) q
theorem Hx.put2 (q:Hx u b h v) (A:Int):Hx (u.setCell ⟨b,2,none⟩ (.int .i64 A)) b ⟨h.A,h.AN,A,h.BN,h.ls⟩ v:=heap_setCell_same u b 2 _ _ (.int .i64 A) q
theorem Hx.put3 (q:Hx u b h v) (A:Int):Hx (u.setCell ⟨b,3,none⟩ (.int .i64 A)) b ⟨h.A,h.AN,h.B,A,h.ls⟩ v:=heap_setCell_same u b 3 _ _ (.int .i64 A) q
theorem Hx.off (q:Hx u b h v) {c j:Nat} (hc:b≠c) (z:Value):Hx (u.setCell ⟨c,j,none⟩ z) b h v:=(Below.heap_setCell _ _ _ b hc).trans q
end
theorem ZbG {w u:World} (h:Below w.heap.size w u) (z0 z1 z2 z3 z4:Value):Below w.heap.size w (((((u.setCell ⟨w.heap.size,0,none⟩ z0).setCell ⟨w.heap.size,1,none⟩ z1).setCell ⟨w.heap.size,2,none⟩ z2).setCell ⟨w.heap.size,3,none⟩ z3).setCell ⟨w.heap.size,4,none⟩ z4) :=
 ((((h.setCell (Nat.le_refl _) _).setCell (Nat.le_refl _) _).setCell (Nat.le_refl _) _).setCell (Nat.le_refl _) _).setCell (Nat.le_refl _) _
theorem ZmI (tmps:Array Value) (u:World) (B:Nat) (g:Hk) (v:Value) (h:Hx u B g v) {b:Value} (h2:tmps.getD 2 undef=.pointer (some ⟨B,0,none⟩)) (h3:tmps.getD 3 undef=b) :
  (results Tryz.f111 tmps).run Tryz.prog u=.ok (.tuple #[hkV g v,b]) u:=by
 rw[_root_.Go.results_cell_tmp rfl,h2,h3]
 have hL:(loadVar 45 ⟨B,0,none⟩).run Tryz.prog u=.ok (hkV g v) u:=run_loadVar_row u B _ _ _ _ _ h Tryz.underlying45 rfl (by kernel_rfl)
 simp[asAddr,hL,Result.andThen]
theorem CmdP.mk {s:List UInt8} {k:Nat} {c:UInt8} (hk:k<s.length) (hc:s[k]=c) (h1:isC c=true) (h2:∀ j (hj:j<k),isC (s[j]'(by omega))=false) {x y:List UInt8} (hx:s.take k=x) (hy:s.drop (k+1)=y)
  {A AN B BN:Int} {b1 b2 b:Bool} (hA:(if c=97 then oneP x else lnsP x)=if b1=true then some (A,AN) else none) (hB:(if c=100 then oneP y else lnsP y)=if b2=true then some (B,BN) else none) (hb:(b1 && b2)=b) :
  CmdP s (.returned (.tuple #[hkV ⟨A,AN,B,BN,[]⟩ (.slice none 0 0),.bool b])):=by
 unfold CmdP cmdP
 rw[Zkq s k hk (by rw[hc];exact h1) h2]
 dsimp only
 rw[hx,hy,hc,hA,hB]
 cases b1<;>cases b2<;>cases hb
 ·exact⟨_,_,_,_,rfl⟩
 ·exact⟨_,_,_,_,rfl⟩
 ·exact⟨_,_,_,_,rfl⟩
 ·rfl
theorem ZoM {x:List UInt8} {v e:Int} (hv:Pn.parseV x=v) (he:Pn.parseE x=e):oneP x=if decide (e=0)=true then some (v,0) else none:=by
 unfold oneP
 rw[hv,he]
 by_cases h:e=0<;>simp[h]
theorem Zqm (s:List UInt8) (hs:s.length≤1099511627776) (w:World) :
  Calls Tryz.prog 111 #[.string ⟨s.toArray⟩] w fun x w'=>CmdP s x∧Below w.heap.size w w':=by
 have hx0:=Hx.new w ⟨0,0,0,0,[]⟩ (.slice none 0 0)
 have hB0:Below w.heap.size w (w.alloc (hkO ⟨0,0,0,0,[]⟩ (.slice none 0 0))):=(Below.refl _ w).alloc (Nat.le_refl _) _
 go_enter Tryz.func111,Tryz.ntmps111
 go_wp2
 unfold hkO at hx0 hB0
 dsimp only at hx0 hB0
 generalize w.alloc (.cells #[.int .i64 0,.int .i64 0,.int .i64 0,.int .i64 0,.slice none 0 0] 45)=W0 at hx0 hB0 ⊢
 go_loopw [4] (fun i wr=>∃ k:Nat,k≤s.length∧i=.int .i64 (k:Int)∧Hid (∀ j (_:j<k) (hj:j<s.length),isC s[j]=false)∧wr=W0) (fun i _=>s.length-(intOf i).toNat)
 case atStart=>exact⟨0,Nat.zero_le _,rfl,fun j hj=>by omega,rfl⟩
 case round =>
  obtain⟨k,hk,rfl,HK,rfl⟩:=hrel
  by_cases hlt:k<s.length
  ·have i1:0≤(k:Int):=by omega
   have i2:(k:Int)<(s.length:Int):=by omega
   obtain⟨c,hcd⟩:∃ c,s[k]=c:=⟨_,rfl⟩
   by_cases ha:c=97
   ·subst ha
    have HC:Hid (s[k]=97):=hcd
    have na:((s[k].toNat:Int) != 97)=false:=by rw[hcd];rfl
    have nc:((s[k].toNat:Int) != 99)=true:=by rw[hcd];rfl
    have nd:((s[k].toNat:Int) != 100)=true:=by rw[hcd];rfl
    have ea:((s[k].toNat:Int) == 97)=true:=by rw[hcd];rfl
    have ed:((s[k].toNat:Int) == 100)=false:=by rw[hcd];rfl
    have nl:((k:Int) == (s.length:Int))=false:=beq_eq_false_iff_ne.2 (by omega)
    obtain⟨x,hx⟩:∃ x,s.take k=x:=⟨_,rfl⟩
    obtain⟨y,hy⟩:∃ y,s.drop (k+1)=y:=⟨_,rfl⟩
    have hxl:x.length≤1099511627776:=(by rw[← hx,List.length_take];omega)
    have hy3:y.take (s.length-(k+1))=y:=List.take_of_length_le (by rw[← hy,List.length_drop];omega)
    have i3:(k:Int)+1≤(s.length:Int):=by omega
    have i4:((k:Int)+1).toNat=k+1:=by omega
    have hyl:y.length≤1099511627776:=(by rw[← hy,List.length_drop];omega)
    clear hcd
    have hxh:=Hx.new wr ⟨0,0,0,0,[]⟩ (.slice none 0 0)
    have hx1:Hx (wr.alloc (hkO ⟨0,0,0,0,[]⟩ (.slice none 0 0))) w.heap.size ⟨0,0,0,0,[]⟩ (.slice none 0 0):=hx0.low ((Below.refl _ wr).alloc (Nat.le_refl _) _)
    have hB1:=hB0.alloc hB0.size (hkO ⟨0,0,0,0,[]⟩ (.slice none 0 0))
    have hlt0:=hx0.lt
    unfold hkO at hxh hx1 hB1
    dsimp only at hxh hx1 hB1
    go_wp2_with fail
    have hne:w.heap.size≠wr.heap.size:=by omega
    have hwle:w.heap.size≤wr.heap.size:=by omega
    generalize wr.alloc (.cells #[.int .i64 0,.int .i64 0,.int .i64 0,.int .i64 0,.slice none 0 0] 45)=W1 at hxh hx1 hB1 ⊢
    refine (ZpW x _ (by unfold maxLen;omega)).mono ?_
    rintro e' w2 ⟨rfl,hb2⟩
    have hxh2:=hxh.low hb2
    have hxr2:=hx1.low hb2
    have hBB2:=hB1.trans (hb2.mono hB1.size)
    obtain⟨A2,hv2⟩:∃ v,Pn.parseV x=v:=⟨_,rfl⟩
    obtain⟨e2,he2⟩:∃ e,Pn.parseE x=e:=⟨_,rfl⟩
    have hl2:=ZoM hv2 he2
    rw[hv2,he2]
    clear hv2 he2
    have HL2:Hid _:=hl2
    have f20:=hxh2.frozen 0
    have f21:=hxh2.frozen 1
    obtain⟨q20,q21,-,-,-⟩:=hxh2.cells
    have hxg2:=hxh2.put0 A2
    have hxs2:=hxr2.off (j:=0) hne (.int .i64 A2)
    have hBC2:=hBB2.setCell (p:=⟨wr.heap.size,0,none⟩) hwle (.int .i64 A2)
    try dsimp only at hxg2
    clear hxh2 hxr2 hBB2 hb2
    clear hxh hx1 hB1 hx0 hB0
    go_wp2_with fail
    generalize w2.setCell ⟨wr.heap.size,0,none⟩ (.int .i64 A2)=w3 at hxg2 hxs2 hBC2 ⊢
    clear f20 f21 q20 q21
    refine (ZpE y hyl _).mono ?_
    rintro x' w4 ⟨hl,hb4⟩
    obtain⟨A4,N4,b4,rfl,hl4⟩:=hl.out
    clear hl
    have hxh4:=hxg2.low hb4
    have hxr4:=hxs2.low hb4
    have hBB4:=hBC2.trans (hb4.mono hBC2.size)
    have HL4:Hid _:=hl4
    have f40:=hxh4.frozen 2
    have f41:=hxh4.frozen 3
    obtain⟨-,-,q40,q41,-⟩:=hxh4.cells
    have hxg4:=(hxh4.put2 A4).put3 N4
    have hxs4:=(hxr4.off (j:=2) hne (.int .i64 A4)).off (j:=3) hne (.int .i64 N4)
    have hBC4:=(hBB4.setCell (p:=⟨wr.heap.size,2,none⟩) hwle (.int .i64 A4)).setCell (p:=⟨wr.heap.size,3,none⟩) hwle (.int .i64 N4)
    try dsimp only at hxg4
    clear hxh4 hxr4 hBB4 hb4
    clear hxg2 hxs2 hBC2
    go_upto_region 16 with fail
    clear f40 f41 q40 q41
    generalize (w4.setCell ⟨wr.heap.size,2,none⟩ (.int .i64 A4)).setCell ⟨wr.heap.size,3,none⟩ (.int .i64 N4)=w5 at hxg4 hxs4 hBC4 ⊢
    obtain⟨d0,d1,d2,d3,d4⟩:=hxg4.cells
    obtain⟨r0,r1,r2,r3,r4⟩:=hxs4.cells
    have g0:=hxs4.frozen 0
    have g1:=hxs4.frozen 1
    have g2:=hxs4.frozen 2
    have g3:=hxs4.frozen 3
    have g4:=hxs4.frozen 4
    have hp:=hxs4.putH5 A2 0 A4 N4 [] (.slice none 0 0)
    have HM:Hid (∀ b:Bool,(decide (e2=0) && b4)=b→CmdP s (.returned (.tuple #[hkV ⟨A2,0,A4,N4,[]⟩ (.slice none 0 0),.bool b]))):=fun b hb=>CmdP.mk hlt HC.out (by decide) (fun j hj=>HK.out j hj (by omega)) hx hy (b1:=decide (e2=0)) (b2:=b4) (b:=b) ((if_pos rfl).trans HL2.out) ((if_neg (by decide)).trans HL4.out) hb
    clear hl2 hl4 HL2 HL4 HK HC
    by_cases he2:e2=0
    ·have HD2:Hid (decide (e2=0)=true):=decide_eq_true he2
     have z2:(e2 == 0)=true:=by rw[he2];rfl
     clear he2
     cases b4 with
     | true =>
      go_wp2
      refine bodyPost_ret (v:=.tuple #[hkV ⟨A2,0,A4,N4,[]⟩ (.slice none 0 0),.bool true]) (ZmI _ _ _ _ _ hp rfl rfl) rfl ⟨HM.out _ (by rw[HD2.out];rfl),ZbG hBC4 _ _ _ _ _⟩
     | false =>
      go_wp2
      refine bodyPost_ret (v:=.tuple #[hkV ⟨A2,0,A4,N4,[]⟩ (.slice none 0 0),.bool false]) (ZmI _ _ _ _ _ hp rfl rfl) rfl ⟨HM.out _ (by rw[HD2.out];rfl),ZbG hBC4 _ _ _ _ _⟩
    ·have HD2:Hid (decide (e2=0)=false):=decide_eq_false he2
     have z2:(e2 == 0)=false:=beq_eq_false_iff_ne.2 he2
     clear he2
     cases b4 with
     | true =>
      go_wp2
      refine bodyPost_ret (v:=.tuple #[hkV ⟨A2,0,A4,N4,[]⟩ (.slice none 0 0),.bool false]) (ZmI _ _ _ _ _ hp rfl rfl) rfl ⟨HM.out _ (by rw[HD2.out];rfl),ZbG hBC4 _ _ _ _ _⟩
     | false =>
      go_wp2
      refine bodyPost_ret (v:=.tuple #[hkV ⟨A2,0,A4,N4,[]⟩ (.slice none 0 0),.bool false]) (ZmI _ _ _ _ _ hp rfl rfl) rfl ⟨HM.out _ (by rw[HD2.out];rfl),ZbG hBC4 _ _ _ _ _⟩
   ·have na:((c.toNat:Int) != 97)=true:=bne_iff_ne.2 (fun h=>ha (UInt8.toNat_inj.1 (by show _=97;omega)))
    by_cases hc:c=99
    ·subst hc
     clear na
     have HC:Hid (s[k]=99):=hcd
     have na:((s[k].toNat:Int) != 97)=true:=by rw[hcd];rfl
     have nc:((s[k].toNat:Int) != 99)=false:=by rw[hcd];rfl
     have nd:((s[k].toNat:Int) != 100)=true:=by rw[hcd];rfl
     have ea:((s[k].toNat:Int) == 97)=false:=by rw[hcd];rfl
     have ed:((s[k].toNat:Int) == 100)=false:=by rw[hcd];rfl
     have nl:((k:Int) == (s.length:Int))=false:=beq_eq_false_iff_ne.2 (by omega)
     obtain⟨x,hx⟩:∃ x,s.take k=x:=⟨_,rfl⟩
     obtain⟨y,hy⟩:∃ y,s.drop (k+1)=y:=⟨_,rfl⟩
     have hxl:x.length≤1099511627776:=(by rw[← hx,List.length_take];omega)
     have hy3:y.take (s.length-(k+1))=y:=List.take_of_length_le (by rw[← hy,List.length_drop];omega)
     have i3:(k:Int)+1≤(s.length:Int):=by omega
     have i4:((k:Int)+1).toNat=k+1:=by omega
     have hyl:y.length≤1099511627776:=(by rw[← hy,List.length_drop];omega)
     clear hcd
     have hxh:=Hx.new wr ⟨0,0,0,0,[]⟩ (.slice none 0 0)
     have hx1:Hx (wr.alloc (hkO ⟨0,0,0,0,[]⟩ (.slice none 0 0))) w.heap.size ⟨0,0,0,0,[]⟩ (.slice none 0 0):=hx0.low ((Below.refl _ wr).alloc (Nat.le_refl _) _)
     have hB1:=hB0.alloc hB0.size (hkO ⟨0,0,0,0,[]⟩ (.slice none 0 0))
     have hlt0:=hx0.lt
     unfold hkO at hxh hx1 hB1
     dsimp only at hxh hx1 hB1
     go_wp2_with fail
     have hne:w.heap.size≠wr.heap.size:=by omega
     have hwle:w.heap.size≤wr.heap.size:=by omega
     generalize wr.alloc (.cells #[.int .i64 0,.int .i64 0,.int .i64 0,.int .i64 0,.slice none 0 0] 45)=W1 at hxh hx1 hB1 ⊢
     refine (ZpE x hxl _).mono ?_
     rintro x' w2 ⟨hl,hb2⟩
     obtain⟨A2,N2,b2,rfl,hl2⟩:=hl.out
     clear hl
     have hxh2:=hxh.low hb2
     have hxr2:=hx1.low hb2
     have hBB2:=hB1.trans (hb2.mono hB1.size)
     have HL2:Hid _:=hl2
     have f20:=hxh2.frozen 0
     have f21:=hxh2.frozen 1
     obtain⟨q20,q21,-,-,-⟩:=hxh2.cells
     have hxg2:=(hxh2.put0 A2).put1 N2
     have hxs2:=(hxr2.off (j:=0) hne (.int .i64 A2)).off (j:=1) hne (.int .i64 N2)
     have hBC2:=(hBB2.setCell (p:=⟨wr.heap.size,0,none⟩) hwle (.int .i64 A2)).setCell (p:=⟨wr.heap.size,1,none⟩) hwle (.int .i64 N2)
     try dsimp only at hxg2
     clear hxh2 hxr2 hBB2 hb2
     clear hxh hx1 hB1 hx0 hB0
     go_wp2_with fail
     generalize (w2.setCell ⟨wr.heap.size,0,none⟩ (.int .i64 A2)).setCell ⟨wr.heap.size,1,none⟩ (.int .i64 N2)=w3 at hxg2 hxs2 hBC2 ⊢
     clear f20 f21 q20 q21
     refine (ZpE y hyl _).mono ?_
     rintro x' w4 ⟨hl,hb4⟩
     obtain⟨A4,N4,b4,rfl,hl4⟩:=hl.out
     clear hl
     have hxh4:=hxg2.low hb4
     have hxr4:=hxs2.low hb4
     have hBB4:=hBC2.trans (hb4.mono hBC2.size)
     have HL4:Hid _:=hl4
     have f40:=hxh4.frozen 2
     have f41:=hxh4.frozen 3
     obtain⟨-,-,q40,q41,-⟩:=hxh4.cells
     have hxg4:=(hxh4.put2 A4).put3 N4
     have hxs4:=(hxr4.off (j:=2) hne (.int .i64 A4)).off (j:=3) hne (.int .i64 N4)
     have hBC4:=(hBB4.setCell (p:=⟨wr.heap.size,2,none⟩) hwle (.int .i64 A4)).setCell (p:=⟨wr.heap.size,3,none⟩) hwle (.int .i64 N4)
     try dsimp only at hxg4
     clear hxh4 hxr4 hBB4 hb4
     clear hxg2 hxs2 hBC2
     go_upto_region 16 with fail
     clear f40 f41 q40 q41
     generalize (w4.setCell ⟨wr.heap.size,2,none⟩ (.int .i64 A4)).setCell ⟨wr.heap.size,3,none⟩ (.int .i64 N4)=w5 at hxg4 hxs4 hBC4 ⊢
     obtain⟨d0,d1,d2,d3,d4⟩:=hxg4.cells
     obtain⟨r0,r1,r2,r3,r4⟩:=hxs4.cells
     have g0:=hxs4.frozen 0
     have g1:=hxs4.frozen 1
     have g2:=hxs4.frozen 2
     have g3:=hxs4.frozen 3
     have g4:=hxs4.frozen 4
     have hp:=hxs4.putH5 A2 N2 A4 N4 [] (.slice none 0 0)
     have HM:Hid (∀ b:Bool,(b2 && b4)=b→CmdP s (.returned (.tuple #[hkV ⟨A2,N2,A4,N4,[]⟩ (.slice none 0 0),.bool b]))):=fun b hb=>CmdP.mk hlt HC.out (by decide) (fun j hj=>HK.out j hj (by omega)) hx hy (b1:=b2) (b2:=b4) (b:=b) ((if_neg (by decide)).trans HL2.out) ((if_neg (by decide)).trans HL4.out) hb
     clear hl2 hl4 HL2 HL4 HK HC
     cases b2 with
     | true =>
      cases b4 with
      | true =>
       go_wp2
       refine bodyPost_ret (v:=.tuple #[hkV ⟨A2,N2,A4,N4,[]⟩ (.slice none 0 0),.bool true]) (ZmI _ _ _ _ _ hp rfl rfl) rfl ⟨HM.out _ (by rfl),ZbG hBC4 _ _ _ _ _⟩
      | false =>
       go_wp2
       refine bodyPost_ret (v:=.tuple #[hkV ⟨A2,N2,A4,N4,[]⟩ (.slice none 0 0),.bool false]) (ZmI _ _ _ _ _ hp rfl rfl) rfl ⟨HM.out _ (by rfl),ZbG hBC4 _ _ _ _ _⟩
     | false =>
      cases b4 with
      | true =>
       go_wp2
       refine bodyPost_ret (v:=.tuple #[hkV ⟨A2,N2,A4,N4,[]⟩ (.slice none 0 0),.bool false]) (ZmI _ _ _ _ _ hp rfl rfl) rfl ⟨HM.out _ (by rfl),ZbG hBC4 _ _ _ _ _⟩
      | false =>
       go_wp2
       refine bodyPost_ret (v:=.tuple #[hkV ⟨A2,N2,A4,N4,[]⟩ (.slice none 0 0),.bool false]) (ZmI _ _ _ _ _ hp rfl rfl) rfl ⟨HM.out _ (by rfl),ZbG hBC4 _ _ _ _ _⟩
    ·have nc:((c.toNat:Int) != 99)=true:=bne_iff_ne.2 (fun h=>hc (UInt8.toNat_inj.1 (by show _=99;omega)))
     by_cases hd:c=100
     ·subst hd
      clear na nc
      have HC:Hid (s[k]=100):=hcd
      have na:((s[k].toNat:Int) != 97)=true:=by rw[hcd];rfl
      have nc:((s[k].toNat:Int) != 99)=true:=by rw[hcd];rfl
      have nd:((s[k].toNat:Int) != 100)=false:=by rw[hcd];rfl
      have ea:((s[k].toNat:Int) == 97)=false:=by rw[hcd];rfl
      have ed:((s[k].toNat:Int) == 100)=true:=by rw[hcd];rfl
      have nl:((k:Int) == (s.length:Int))=false:=beq_eq_false_iff_ne.2 (by omega)
      obtain⟨x,hx⟩:∃ x,s.take k=x:=⟨_,rfl⟩
      obtain⟨y,hy⟩:∃ y,s.drop (k+1)=y:=⟨_,rfl⟩
      have hxl:x.length≤1099511627776:=(by rw[← hx,List.length_take];omega)
      have hy3:y.take (s.length-(k+1))=y:=List.take_of_length_le (by rw[← hy,List.length_drop];omega)
      have i3:(k:Int)+1≤(s.length:Int):=by omega
      have i4:((k:Int)+1).toNat=k+1:=by omega
      have hyl:y.length≤1099511627776:=(by rw[← hy,List.length_drop];omega)
      clear hcd
      have hxh:=Hx.new wr ⟨0,0,0,0,[]⟩ (.slice none 0 0)
      have hx1:Hx (wr.alloc (hkO ⟨0,0,0,0,[]⟩ (.slice none 0 0))) w.heap.size ⟨0,0,0,0,[]⟩ (.slice none 0 0):=hx0.low ((Below.refl _ wr).alloc (Nat.le_refl _) _)
      have hB1:=hB0.alloc hB0.size (hkO ⟨0,0,0,0,[]⟩ (.slice none 0 0))
      have hlt0:=hx0.lt
      unfold hkO at hxh hx1 hB1
      dsimp only at hxh hx1 hB1
      go_wp2_with fail
      have hne:w.heap.size≠wr.heap.size:=by omega
      have hwle:w.heap.size≤wr.heap.size:=by omega
      generalize wr.alloc (.cells #[.int .i64 0,.int .i64 0,.int .i64 0,.int .i64 0,.slice none 0 0] 45)=W1 at hxh hx1 hB1 ⊢
      refine (ZpE x hxl _).mono ?_
      rintro x' w2 ⟨hl,hb2⟩
      obtain⟨A2,N2,b2,rfl,hl2⟩:=hl.out
      clear hl
      have hxh2:=hxh.low hb2
      have hxr2:=hx1.low hb2
      have hBB2:=hB1.trans (hb2.mono hB1.size)
      have HL2:Hid _:=hl2
      have f20:=hxh2.frozen 0
      have f21:=hxh2.frozen 1
      obtain⟨q20,q21,-,-,-⟩:=hxh2.cells
      have hxg2:=(hxh2.put0 A2).put1 N2
      have hxs2:=(hxr2.off (j:=0) hne (.int .i64 A2)).off (j:=1) hne (.int .i64 N2)
      have hBC2:=(hBB2.setCell (p:=⟨wr.heap.size,0,none⟩) hwle (.int .i64 A2)).setCell (p:=⟨wr.heap.size,1,none⟩) hwle (.int .i64 N2)
      try dsimp only at hxg2
      clear hxh2 hxr2 hBB2 hb2
      clear hxh hx1 hB1 hx0 hB0
      go_wp2_with fail
      generalize (w2.setCell ⟨wr.heap.size,0,none⟩ (.int .i64 A2)).setCell ⟨wr.heap.size,1,none⟩ (.int .i64 N2)=w3 at hxg2 hxs2 hBC2 ⊢
      clear f20 f21 q20 q21
      refine (ZpW y _ (by unfold maxLen;omega)).mono ?_
      rintro e' w4 ⟨rfl,hb4⟩
      have hxh4:=hxg2.low hb4
      have hxr4:=hxs2.low hb4
      have hBB4:=hBC2.trans (hb4.mono hBC2.size)
      obtain⟨A4,hv4⟩:∃ v,Pn.parseV y=v:=⟨_,rfl⟩
      obtain⟨e4,he4⟩:∃ e,Pn.parseE y=e:=⟨_,rfl⟩
      have hl4:=ZoM hv4 he4
      rw[hv4,he4]
      clear hv4 he4
      have HL4:Hid _:=hl4
      have f40:=hxh4.frozen 2
      have f41:=hxh4.frozen 3
      obtain⟨-,-,q40,q41,-⟩:=hxh4.cells
      have hxg4:=hxh4.put2 A4
      have hxs4:=hxr4.off (j:=2) hne (.int .i64 A4)
      have hBC4:=hBB4.setCell (p:=⟨wr.heap.size,2,none⟩) hwle (.int .i64 A4)
      try dsimp only at hxg4
      clear hxh4 hxr4 hBB4 hb4
      clear hxg2 hxs2 hBC2
      go_upto_region 16 with fail
      clear f40 f41 q40 q41
      generalize w4.setCell ⟨wr.heap.size,2,none⟩ (.int .i64 A4)=w5 at hxg4 hxs4 hBC4 ⊢
      obtain⟨d0,d1,d2,d3,d4⟩:=hxg4.cells
      obtain⟨r0,r1,r2,r3,r4⟩:=hxs4.cells
      have g0:=hxs4.frozen 0
      have g1:=hxs4.frozen 1
      have g2:=hxs4.frozen 2
      have g3:=hxs4.frozen 3
      have g4:=hxs4.frozen 4
      have hp:=hxs4.putH5 A2 N2 A4 0 [] (.slice none 0 0)
      have HM:Hid (∀ b:Bool,(b2 && decide (e4=0))=b→CmdP s (.returned (.tuple #[hkV ⟨A2,N2,A4,0,[]⟩ (.slice none 0 0),.bool b]))):=fun b hb=>CmdP.mk hlt HC.out (by decide) (fun j hj=>HK.out j hj (by omega)) hx hy (b1:=b2) (b2:=decide (e4=0)) (b:=b) ((if_neg (by decide)).trans HL2.out) ((if_pos rfl).trans HL4.out) hb
      clear hl2 hl4 HL2 HL4 HK HC
      cases b2 with
      | true =>
       by_cases he4:e4=0
       ·have HD4:Hid (decide (e4=0)=true):=decide_eq_true he4
        have z4:(e4 == 0)=true:=by rw[he4];rfl
        clear he4
        go_wp2
        refine bodyPost_ret (v:=.tuple #[hkV ⟨A2,N2,A4,0,[]⟩ (.slice none 0 0),.bool true]) (ZmI _ _ _ _ _ hp rfl rfl) rfl ⟨HM.out _ (by rw[HD4.out];rfl),ZbG hBC4 _ _ _ _ _⟩
       ·have HD4:Hid (decide (e4=0)=false):=decide_eq_false he4
        have z4:(e4 == 0)=false:=beq_eq_false_iff_ne.2 he4
        clear he4
        go_wp2
        refine bodyPost_ret (v:=.tuple #[hkV ⟨A2,N2,A4,0,[]⟩ (.slice none 0 0),.bool false]) (ZmI _ _ _ _ _ hp rfl rfl) rfl ⟨HM.out _ (by rw[HD4.out];rfl),ZbG hBC4 _ _ _ _ _⟩
      | false =>
       by_cases he4:e4=0
       ·have HD4:Hid (decide (e4=0)=true):=decide_eq_true he4
        have z4:(e4 == 0)=true:=by rw[he4];rfl
        clear he4
        go_wp2
        refine bodyPost_ret (v:=.tuple #[hkV ⟨A2,N2,A4,0,[]⟩ (.slice none 0 0),.bool false]) (ZmI _ _ _ _ _ hp rfl rfl) rfl ⟨HM.out _ (by rw[HD4.out];rfl),ZbG hBC4 _ _ _ _ _⟩
       ·have HD4:Hid (decide (e4=0)=false):=decide_eq_false he4
        have z4:(e4 == 0)=false:=beq_eq_false_iff_ne.2 he4
        clear he4
        go_wp2
        refine bodyPost_ret (v:=.tuple #[hkV ⟨A2,N2,A4,0,[]⟩ (.slice none 0 0),.bool false]) (ZmI _ _ _ _ _ hp rfl rfl) rfl ⟨HM.out _ (by rw[HD4.out];rfl),ZbG hBC4 _ _ _ _ _⟩
     ·have nd:((c.toNat:Int) != 100)=true:=bne_iff_ne.2 (fun h=>hd (UInt8.toNat_inj.1 (by show _=100;omega)))
      have HE:Hid (isC s[k]=false):=(by show _=_;unfold isC;rw[hcd];simp[ha,hc,hd])
      go_wp2
      go_roundw
      case rel=>exact⟨k+1,by omega,by go_num,fun j hj hj2=>(by
        rcases Nat.lt_or_ge j k with h | h
        ·exact HK.out j h hj2
        ·have:j=k:=by omega
         subst this
         exact HE.out),trivial⟩
      case measure=>simp[intOf];omega
  ·have ek:k=s.length:=by omega
   subst ek
   have f:=hx0.frozen
   obtain⟨c0,c1,c2,c3,c4⟩:=hx0.cells
   have f0:=f 0
   have f1:=f 1
   have f2:=f 2
   have f3:=f 3
   have f4:=f 4
   clear f
   have nlt:¬ ((s.length:Int)<(s.length:Int)):=by omega
   have hp:=hx0.putH5 0 0 0 0 [] (.slice none 0 0)
   go_wp2
   refine bodyPost_ret (v:=.tuple #[hkV ⟨0,0,0,0,[]⟩ (.slice none 0 0),.bool false]) (ZmI _ _ _ _ _ hp rfl rfl) rfl ⟨CmdP.off (fun j hj=>HK.out j hj hj),ZbG hB0 _ _ _ _ _⟩
end

section
open Go.RowKit
attribute [local go_sem] ByteArray.extract_mk Zhc
theorem ZfN {W u:World} (h:Low W u):Low W u.drew:=Below.drew h
theorem ZcX {u:World} {s x:List UInt8} {k:Nat} (hk:k≤s.length) (hx:s.take k=x) {op:Oper} (p q:Operand) (ho:op.op=.slice 9 p none (some q) none) {ev:Operand→Value} (h1:ev p=.string ⟨s.toArray⟩) (h2:ev q=.int .i64 (k:Int)) :
  (execOp ev op).run Tryz.prog u=.ok (.value (.string ⟨x.toArray⟩)) u:=by
 have i1:(0:Int)≤(k:Int):=by omega
 have i2:(k:Int)≤(s.length:Int):=by omega
 subst hx
 simp only[execOp,ho,h1,h2,Option.map]
 go_simp
theorem ZcW {u:World} {s y:List UInt8} {k:Nat} (hk:k<s.length) (hy:s.drop (k+1)=y) {op:Oper} (p q:Operand) (ho:op.op=.slice 9 p (some q) none none) {ev:Operand→Value} (h1:ev p=.string ⟨s.toArray⟩) (h2:ev q=.int .i64 ((k:Int)+1)) :
  (execOp ev op).run Tryz.prog u=.ok (.value (.string ⟨y.toArray⟩)) u:=by
 have i1:(0:Int)≤(k:Int)+1:=by omega
 have i2:(k:Int)+1≤(s.length:Int):=by omega
 have i3:((k:Int)+1).toNat=k+1:=by omega
 subst hy
 have k5:(s.drop (k+1)).take (s.length-(k+1))=s.drop (k+1):=List.take_of_length_le (by simp)
 simp only[execOp,ho,h1,h2,Option.map]
 go_simp
theorem ZcV {u:World} {s:List UInt8} {k:Nat} {c:UInt8} (hk:k<s.length) (hc:s[k]=c) {op:Oper} (p q:Operand) (ho:op.op=.index 9 p q) {ev:Operand→Value} (h1:ev p=.string ⟨s.toArray⟩) (h2:ev q=.int .i64 (k:Int)) :
  (execOp ev op).run Tryz.prog u=.ok (.value (.int .u8 (c.toNat:Int))) u:=by
 have i1:(0:Int)≤(k:Int):=by omega
 have i2:(k:Int)<(s.length:Int):=by omega
 subst hc
 simp only[execOp,ho,h1,h2]
 go_simp
theorem ZkW (c d:UInt8):((c.toNat:Int) == (d.toNat:Int))=(c == d):=by
 rw[Bool.eq_iff_iff,beq_iff_eq,beq_iff_eq,← UInt8.toNat_inj]
 omega
theorem ZcU {u:World} {a b:Int} {r:Bool} {op:Oper} (p q:Operand) (ho:op.op=.binOp .eql 5 p q 5) {ev:Operand→Value} (h1:ev p=.int .u8 a) (h2:ev q=.int .u8 b) (hr:(a == b)=r) :
  (execOp ev op).run Tryz.prog u=.ok (.value (.bool r)) u:=by
 simp only[execOp,ho,h1,h2]
 go_simp
theorem ZcS {u:World} {p q:Int} (h:IntKind.i64.wrap (p+q)=p+q) {op:Oper} (x y:Operand) (ho:op.op=.binOp .add 3 x y 3) {ev:Operand→Value} (hx:ev x=.int .i64 p) (hy:ev y=.int .i64 q) :
  (execOp ev op).run Tryz.prog u=.ok (.value (.int .i64 (p+q))) u:=by
 simp only[execOp,ho,hx,hy]
 go_simp
theorem Zhk {W u:World} {s:List UInt8} {no:Bool} (hL:Low W u) (hl:s.length≤1099511627776):Calls Tryz.prog 339 (#[.string ⟨s.toArray⟩,.bool no]++#[]) u fun e w'=>∃ v,e=.returned v∧Low W w'∧∃ A AN b1,v=.tuple #[.int .i64 A,.int .i64 AN,.bool b1]∧nmP no s=(if b1=true then some (A,AN) else none):=by
 refine (Zhb s no u hl).mono ?_
 rintro e w' ⟨x,n,r,rfl,h1,h2⟩
 exact⟨_,rfl,Below.trans hL (h2.mono (Below.size hL)),x,n,r,rfl,h1⟩
theorem Zha (tmps:Array Value) (u:World) (B:Nat) (g:Hk) (v:Value) (h:Hx u B g v) {b:Value} (h2:tmps.getD 2 undef=.pointer (some ⟨B,0,none⟩)) (h3:tmps.getD 3 undef=b) :
  (results Tryz.f316 tmps).run Tryz.prog u=.ok (.tuple #[hkV g v,b]) u:=by
 rw[_root_.Go.results_cell_tmp rfl,h2,h3]
 have hL:(loadVar 45 ⟨B,0,none⟩).run Tryz.prog u=.ok (hkV g v) u:=run_loadVar_row u B _ _ _ _ _ h Tryz.underlying45 rfl (by kernel_rfl)
 simp[asAddr,hL,Result.andThen]
theorem ZgN (s:List UInt8) (hs:s.length<4294967281) (w:World) :
  Calls Tryz.prog 316 #[.string ⟨s.toArray⟩] w fun x w'=>CmdP s x∧Below w.heap.size w w':=by
 have hx0:=Hx.new w ⟨0,0,0,0,[]⟩ (.slice none 0 0)
 have hB0:Below w.heap.size w (w.alloc (hkO ⟨0,0,0,0,[]⟩ (.slice none 0 0))):=(Below.refl _ w).alloc (Nat.le_refl _) _
 unfold hkO at hx0 hB0
 dsimp only at hx0 hB0
 have hIx:=fun u=>Zaa s hs u
 rcases Zmc s with ⟨h1,h2⟩ | ⟨k,hlt,h1,h2,h3⟩
 ·have HC:Hid (∀ A AN B BN,CmdP s (.returned (.tuple #[hkV ⟨A,AN,B,BN,[]⟩ (.slice none 0 0),.bool false]))):=(by
   intro A AN B BN
   unfold CmdP cmdP
   rw[h1]
   exact⟨_,_,_,_,rfl⟩)
  rw[h2] at hIx
  clear h1 h2
  go_enter Tryz.func316,Tryz.ntmps316
  go_wp2_with fail
  generalize w.alloc (.cells #[.int .i64 0,.int .i64 0,.int .i64 0,.int .i64 0,.slice none 0 0] 45)=W at hx0 hB0 ⊢
  refine (hIx _).mono ?_
  rintro e w1 ⟨rfl,hb1⟩
  have hx1:=hx0.low hb1
  have hB1:=hB0.trans (hb1.mono hB0.size)
  obtain⟨c0,c1,c2,c3,c4⟩:=hx1.cells
  have f0:=hx1.frozen 0
  have f1:=hx1.frozen 1
  have f2:=hx1.frozen 2
  have f3:=hx1.frozen 3
  have f4:=hx1.frozen 4
  have hP:=hx1.putH5 0 0 0 0 [] (.slice none 0 0)
  have hBP:=ZbG hB1 (.int .i64 0) (.int .i64 0) (.int .i64 0) (.int .i64 0) (.slice none 0 0)
  go_wp2
  refine bodyPost_ret (Zha _ _ _ _ _ hP rfl rfl) rfl ⟨HC.out _ _ _ _,hBP⟩
 ·obtain⟨c,hcd⟩:∃ c,s[k]=c:=⟨_,rfl⟩
  obtain⟨x,hx⟩:∃ x,s.take k=x:=⟨_,rfl⟩
  obtain⟨y,hy⟩:∃ y,s.drop (k+1)=y:=⟨_,rfl⟩
  have hxl:x.length≤1099511627776:=(by rw[← hx,List.length_take];omega)
  have hyl:y.length≤1099511627776:=(by rw[← hy,List.length_drop];omega)
  have hkl:k≤s.length:=by omega
  have HC:Hid (∀ A AN B BN b1 b2,nmP (c == 97) x=(if b1=true then some (A,AN) else none)→nmP (c == 100) y=(if b2=true then some (B,BN) else none)→CmdP s (.returned (.tuple #[hkV ⟨A,AN,B,BN,[]⟩ (.slice none 0 0),.bool (b1 && b2)]))):=(by
   intro A AN B BN b1 b2 hA hB
   unfold CmdP cmdP
   rw[h2,hcd,hx,hy]
   dsimp only
   have e1:(if c=97 then oneP x else lnsP x)=nmP (c == 97) x:=(by
    unfold nmP
    by_cases h:c=97<;>simp[h])
   have e2:(if c=100 then oneP y else lnsP y)=nmP (c == 100) y:=(by
    unfold nmP
    by_cases h:c=100<;>simp[h])
   rw[e1,e2,hA,hB]
   cases b1<;>cases b2
   ·exact⟨_,_,_,_,rfl⟩
   ·exact⟨_,_,_,_,rfl⟩
   ·exact⟨_,_,_,_,rfl⟩
   ·rfl)
  rw[h1] at hIx
  clear h1 h2 h3
  go_enter Tryz.func316,Tryz.ntmps316
  go_wp2_with fail
  generalize w.alloc (.cells #[.int .i64 0,.int .i64 0,.int .i64 0,.int .i64 0,.slice none 0 0] 45)=W0 at hx0 hB0 ⊢
  refine (hIx _).mono ?_
  rintro e W ⟨rfl,hb1⟩
  have hx1:=hx0.low hb1
  have hB1:=hB0.trans (hb1.mono hB0.size)
  clear hx0 hB0 hb1
  have hlow:Low W W.drew:=Below.drew (Below.refl _ _)
  have i0:¬ ((k:Int)<0):=by omega
  go_upto_region 4 with fail
  refine wp_region_noPanic ?_
  refine wp_region_held_drew (S:=fun u=>Low W u) (by kernel_rfl) hlow (fun hHeld=>?_)
  generalize W.drew=wd at hHeld ⊢
  refine Y_t 0 17 _ (.string ⟨s.toArray⟩) rfl (Or.inl ⟨by kernel_rfl,fun u hu=>by kernel_rfl⟩) hHeld ?_
  simp only[Act.put,Y_a,Y_b,Y_c]
  refine Y_t 1 18 _ (.int .i64 (k:Int)) rfl (Or.inl ⟨by kernel_rfl,fun u hu=>by kernel_rfl⟩) hHeld ?_
  simp only[Act.put,Y_a,Y_b,Y_c]
  refine Y_t 2 19 _ (.string ⟨x.toArray⟩) rfl (Or.inl ⟨by kernel_rfl,fun u hu=>ZcX hkl hx (.tmp 17) (.tmp 18) (by kernel_rfl) (by kernel_rfl) (by kernel_rfl)⟩) hHeld ?_
  simp only[Act.put,Y_a,Y_b,Y_c]
  refine Y_t 3 20 _ (.string ⟨s.toArray⟩) rfl (Or.inl ⟨by kernel_rfl,fun u hu=>by kernel_rfl⟩) hHeld ?_
  simp only[Act.put,Y_a,Y_b,Y_c]
  refine Y_t 4 21 _ (.int .i64 (k:Int)) rfl (Or.inl ⟨by kernel_rfl,fun u hu=>by kernel_rfl⟩) hHeld ?_
  simp only[Act.put,Y_a,Y_b,Y_c]
  refine Y_t 5 22 _ (.int .u8 (c.toNat:Int)) rfl (Or.inl ⟨by kernel_rfl,fun u hu=>ZcV hlt hcd (.tmp 20) (.tmp 21) (by kernel_rfl) (by kernel_rfl) (by kernel_rfl)⟩) hHeld ?_
  simp only[Act.put,Y_a,Y_b,Y_c]
  refine Y_t 6 23 _ (.bool (c == 97)) rfl (Or.inl ⟨by kernel_rfl,fun u hu=>ZcU (.tmp 22) (.const (.int .u8 97)) (by kernel_rfl) (by kernel_rfl) (by kernel_rfl) (ZkW c 97)⟩) hHeld ?_
  simp only[Act.put,Y_a,Y_b,Y_c]
  refine Y_e 7 24 _ rfl 339 (.func 339) #[.tmp 19,.tmp 23] #[9,4] (by kernel_rfl) #[] (by kernel_rfl) #[.string ⟨x.toArray⟩,.bool (c == 97)] (by kernel_rfl) (enters_of Tryz.func339 (by kernel_rfl) rfl) (fun v u=>∃ A AN b1,v=.tuple #[.int .i64 A,.int .i64 AN,.bool b1]∧nmP (c == 97) x=(if b1=true then some (A,AN) else none)) ?_ ?_
  ·exact Zhk hHeld hxl
  rintro _ u1 hH1 ⟨A,AN,b1,rfl,hA⟩
  simp only[Act.put,Y_a,Y_b,Y_c]
  refine Y_t 8 16 _ (.tuple #[.int .i64 A,.int .i64 AN,.bool b1]) rfl (Or.inl ⟨by kernel_rfl,fun u hu=>by kernel_rfl⟩) hH1 ?_
  simp only[Act.put,Y_a,Y_b,Y_c]
  refine Y_t 9 25 _ (.int .i64 A) rfl (Or.inl ⟨by kernel_rfl,fun u hu=>by kernel_rfl⟩) hH1 ?_
  simp only[Act.put,Y_a,Y_b,Y_c]
  refine Y_t 10 26 _ (.int .i64 AN) rfl (Or.inl ⟨by kernel_rfl,fun u hu=>by kernel_rfl⟩) hH1 ?_
  simp only[Act.put,Y_a,Y_b,Y_c]
  refine Y_t 11 27 _ (.bool b1) rfl (Or.inl ⟨by kernel_rfl,fun u hu=>by kernel_rfl⟩) hH1 ?_
  simp only[Act.put,Y_a,Y_b,Y_c]
  refine Y_t 12 5 _ (.int .i64 A) rfl (Or.inl ⟨by kernel_rfl,fun u hu=>by kernel_rfl⟩) hH1 ?_
  simp only[Act.put,Y_a,Y_b,Y_c]
  refine Y_t 13 6 _ (.int .i64 AN) rfl (Or.inl ⟨by kernel_rfl,fun u hu=>by kernel_rfl⟩) hH1 ?_
  simp only[Act.put,Y_a,Y_b,Y_c]
  refine Y_t 14 7 _ (.bool b1) rfl (Or.inl ⟨by kernel_rfl,fun u hu=>by kernel_rfl⟩) hH1 ?_
  simp only[Act.put,Y_a,Y_b,Y_c]
  refine wpAnyH_done (by kernel_rfl) ?_ _
  refine NoPanic.normal ?_
  go_upto_region 5 with fail
  refine wp_region_noPanic ?_
  refine wp_region_held_drew (S:=fun u=>Low W u) (by kernel_rfl) (ZfN hH1) (fun hHeld=>?_)
  generalize u1.drew=wd2 at hHeld ⊢
  refine Y_t 0 29 _ (.string ⟨s.toArray⟩) rfl (Or.inl ⟨by kernel_rfl,fun u hu=>by kernel_rfl⟩) hHeld ?_
  simp only[Act.put,Y_a,Y_b,Y_c]
  refine Y_t 1 30 _ (.int .i64 (k:Int)) rfl (Or.inl ⟨by kernel_rfl,fun u hu=>by kernel_rfl⟩) hHeld ?_
  simp only[Act.put,Y_a,Y_b,Y_c]
  refine Y_t 2 31 _ (.int .i64 ((k:Int)+1)) rfl (Or.inl ⟨by kernel_rfl,fun u hu=>ZcS (p:=(k:Int)) (q:=1) (Zmm (by omega) (by omega)) (.tmp 30) (.const (.int .i64 1)) (by kernel_rfl) (by kernel_rfl) (by kernel_rfl)⟩) hHeld ?_
  simp only[Act.put,Y_a,Y_b,Y_c]
  refine Y_t 3 32 _ (.string ⟨y.toArray⟩) rfl (Or.inl ⟨by kernel_rfl,fun u hu=>ZcW hlt hy (.tmp 29) (.tmp 31) (by kernel_rfl) (by kernel_rfl) (by kernel_rfl)⟩) hHeld ?_
  simp only[Act.put,Y_a,Y_b,Y_c]
  refine Y_t 4 33 _ (.string ⟨s.toArray⟩) rfl (Or.inl ⟨by kernel_rfl,fun u hu=>by kernel_rfl⟩) hHeld ?_
  simp only[Act.put,Y_a,Y_b,Y_c]
  refine Y_t 5 34 _ (.int .i64 (k:Int)) rfl (Or.inl ⟨by kernel_rfl,fun u hu=>by kernel_rfl⟩) hHeld ?_
  simp only[Act.put,Y_a,Y_b,Y_c]
  refine Y_t 6 35 _ (.int .u8 (c.toNat:Int)) rfl (Or.inl ⟨by kernel_rfl,fun u hu=>ZcV hlt hcd (.tmp 33) (.tmp 34) (by kernel_rfl) (by kernel_rfl) (by kernel_rfl)⟩) hHeld ?_
  simp only[Act.put,Y_a,Y_b,Y_c]
  refine Y_t 7 36 _ (.bool (c == 100)) rfl (Or.inl ⟨by kernel_rfl,fun u hu=>ZcU (.tmp 35) (.const (.int .u8 100)) (by kernel_rfl) (by kernel_rfl) (by kernel_rfl) (ZkW c 100)⟩) hHeld ?_
  simp only[Act.put,Y_a,Y_b,Y_c]
  refine Y_e 8 37 _ rfl 339 (.func 339) #[.tmp 32,.tmp 36] #[9,4] (by kernel_rfl) #[] (by kernel_rfl) #[.string ⟨y.toArray⟩,.bool (c == 100)] (by kernel_rfl) (enters_of Tryz.func339 (by kernel_rfl) rfl) (fun v u=>∃ A AN b1,v=.tuple #[.int .i64 A,.int .i64 AN,.bool b1]∧nmP (c == 100) y=(if b1=true then some (A,AN) else none)) ?_ ?_
  ·exact Zhk hHeld hyl
  rintro _ u2 hH2 ⟨B,BN,b2,rfl,hB⟩
  simp only[Act.put,Y_a,Y_b,Y_c]
  refine Y_t 9 28 _ (.tuple #[.int .i64 B,.int .i64 BN,.bool b2]) rfl (Or.inl ⟨by kernel_rfl,fun u hu=>by kernel_rfl⟩) hH2 ?_
  simp only[Act.put,Y_a,Y_b,Y_c]
  refine Y_t 10 38 _ (.int .i64 B) rfl (Or.inl ⟨by kernel_rfl,fun u hu=>by kernel_rfl⟩) hH2 ?_
  simp only[Act.put,Y_a,Y_b,Y_c]
  refine Y_t 11 39 _ (.int .i64 BN) rfl (Or.inl ⟨by kernel_rfl,fun u hu=>by kernel_rfl⟩) hH2 ?_
  simp only[Act.put,Y_a,Y_b,Y_c]
  refine Y_t 12 40 _ (.bool b2) rfl (Or.inl ⟨by kernel_rfl,fun u hu=>by kernel_rfl⟩) hH2 ?_
  simp only[Act.put,Y_a,Y_b,Y_c]
  refine Y_t 13 8 _ (.int .i64 B) rfl (Or.inl ⟨by kernel_rfl,fun u hu=>by kernel_rfl⟩) hH2 ?_
  simp only[Act.put,Y_a,Y_b,Y_c]
  refine Y_t 14 9 _ (.int .i64 BN) rfl (Or.inl ⟨by kernel_rfl,fun u hu=>by kernel_rfl⟩) hH2 ?_
  simp only[Act.put,Y_a,Y_b,Y_c]
  refine Y_t 15 10 _ (.bool b2) rfl (Or.inl ⟨by kernel_rfl,fun u hu=>by kernel_rfl⟩) hH2 ?_
  simp only[Act.put,Y_a,Y_b,Y_c]
  refine wpAnyH_done (by kernel_rfl) ?_ _
  refine NoPanic.normal ?_
  have hx2:=hx1.low hH2
  have hB2:=hB1.trans (Below.mono hH2 hB1.size)
  obtain⟨c0,c1,c2,c3,c4⟩:=hx2.cells
  have f0:=hx2.frozen 0
  have f1:=hx2.frozen 1
  have f2:=hx2.frozen 2
  have f3:=hx2.frozen 3
  have f4:=hx2.frozen 4
  have hP:=hx2.putH5 A AN B BN [] (.slice none 0 0)
  have hBP:=ZbG hB2 (.int .i64 A) (.int .i64 AN) (.int .i64 B) (.int .i64 BN) (.slice none 0 0)
  have HD:=HC.out A AN B BN b1 b2 hA hB
  clear HC hA hB hx hy hcd
  cases b1 with
  | true =>
   go_wp2
   refine bodyPost_ret (Zha _ _ _ _ _ hP rfl rfl) rfl ⟨?_,hBP⟩
   simpa using HD
  | false =>
   go_wp2
   refine bodyPost_ret (Zha _ _ _ _ _ hP rfl rfl) rfl ⟨?_,hBP⟩
   simpa using HD
end

end Go.Proofs.YtcniomgjikienaaGreatDoor
