/-
  Texts that belong together, joined: UkI, UkJ, UrE, NpV, NpW, PgU, PrC, PrB, PrD, NpI, NoCm, NpD.
-/
import Derived.Test.YtcniomgjikienaaGreatDoorVsA11
import Derived.Deep.CutBlock
import Derived.Test.YtcniomgjikienaaGreatDoorProg
import Derived.WalkKit
import Derived.LaidEql
import Derived.Stop.Asserts
import Derived.RowKitTokens

set_option maxHeartbeats 16000000
set_option maxRecDepth 100000
namespace Go.Proofs.YtcniomgjikienaaGreatDoor

section
open Go.RowKit Go.Proofs.YtcniomgjikienaaGreatDoor.Tx
attribute [local go_sem] ByteArray.extract_mk Zhc
theorem Zlo {R:Nat} {L:List (List UInt8)} {lo:Option Addr} {lc:Nat} {p k:Nat} (hk:k≤4096) (w:World) (q:Uk w R (.slice lo L.length lc) p) (HLs:Hid (∀ u,w.grownBy u (some R)→HS u (.slice lo L.length lc) L)) (HPl:Hid (Plain L)) (hp:p≤L.length) (hLl:L.length≤137438953472) (HSl:Hid (∀ s∈L,s.length≤1099511627)) (hm:Mxl w)
  (X:Except (Nat × Int) (Hk × Nat × List (List UInt8))) (HX:Hid (uhkP k p (L.drop p)=X)) :
  Calls Tryz.prog 206 #[.pointer (some ⟨R,0,none⟩),.int .i64 (k:Int)] w fun e w'=>HkY R (.slice lo L.length lc) X w e w':=by
 have hRl:=q.lt
 obtain⟨W0,hW0⟩:∃ u,w.alloc (hkO zhk (.slice none 0 0))=u:=⟨_,rfl⟩
 have hB0:Below w.heap.size w W0:=(by rw[← hW0];exact (Below.refl _ w).alloc (Nat.le_refl _) _)
 have hx0:Hx W0 w.heap.size zhk (.slice none 0 0):=(by rw[← hW0];exact Hx.new w _ _)
 have q0:=q.low hB0
 have hm0:=hm.low hB0
 have HG0:Hid (∀ u,W0.grownBy u (some R)→w.grownBy u (some R)):=fun u hu=>ZdT (ZfO hB0 _) hu
 have HL0:Hid (∀ u,W0.grownBy u (some R)→HS u (.slice lo L.length lc) L):=fun u hu=>HLs.out u (HG0.out u hu)
 obtain⟨Y,hY⟩:∃ Y,uheadP k p (L.drop p)=Y:=⟨_,rfl⟩
 have hl:=Zlf hk W0 q0 HL0 hp (by omega) HSl hm0 Y hY
 have hX:=HX.out
 rw[Zlg,hY] at hX
 clear HX hm hm0
 unfold hkO zhk at hW0
 dsimp only at hW0
 cases Y with
 | error z =>
  obtain⟨z1,e1⟩:=z
  dsimp only at hX
  subst hX
  go_enter Tryz.func206,Tryz.ntmps206
  go_wp2_with fail
  refine hl.mono ?_
  rintro x w1 ⟨⟨g,rfl,hg⟩,hgr⟩
  go_wp2
  exact⟨rfl,⟨_,rfl,hg⟩,HG0.out _ hgr⟩
 | ok z =>
  obtain⟨⟨A,AN,B,BN⟩,r⟩:=z
  dsimp only at hX
  have hd:0≤AN∧AN≤2147483647∧0≤BN∧BN≤2147483647∧r=L.drop (p+1)∧p<L.length:=(by
   unfold uheadP at hY
   cases hn:nxt p (L.drop p) with
   | error e=>rw[hn] at hY;cases hY
   | ok z =>
    obtain⟨s,r0⟩:=z
    obtain⟨h1,h2,_⟩:=Zhr hn
    rw[hn] at hY
    dsimp only at hY
    cases hu:uhdP s with
    | none=>rw[hu] at hY;cases hY
    | some z =>
     obtain⟨A',AN',B',BN'⟩:=z
     rw[hu] at hY
     dsimp only at hY
     obtain⟨u1,u2⟩:=Zle hu
     split at hY
     ·cases hY
     ·split at hY
      ·cases hY
      ·cases hY
       exact⟨by omega,by omega,by omega,by omega,h1,h2⟩)
  obtain⟨d1,d2,d3,d4,rfl,hpl⟩:=hd
  obtain⟨a,rfl⟩:∃ a:Nat,AN=a:=⟨AN.toNat,by omega⟩
  obtain⟨b,rfl⟩:∃ b:Nat,BN=b:=⟨BN.toNat,by omega⟩
  simp only[Int.toNat_natCast] at hX
  obtain⟨Y2,hY2⟩:∃ Y2,urdP (a+b) a b (p+1) (L.drop (p+1))=Y2:=⟨_,rfl⟩
  rw[hY2] at hX
  have hl2:Calls Tryz.prog 243 #[.pointer (some ⟨R,0,none⟩),.int .i64 (k:Int)] W0 fun e w'=>e=.returned (.agg #[.int .i64 A,.int .i64 (a:Int),.int .i64 B,.int .i64 (b:Int),.slice none 0 0])∧Uk w' R (.slice lo L.length lc) ((p+1:Nat):Int)∧W0.grownBy w' (some R):=hl
  clear hl hY
  go_enter Tryz.func206,Tryz.ntmps206
  go_wp2_with fail
  refine hl2.mono ?_
  rintro e W1 ⟨rfl,q1,g1⟩
  have gw1:=HG0.out _ g1
  have hx1:=hx0.keep g1 (fun e=>by have:=Option.some.inj e;omega)
  have hsz1:=hx1.lt
  clear hW0 hB0 hx0 q0 hl2 HL0 HG0 g1
  have hU3:Uz w R W1.heap.size (W1.heap.size+1) (.slice lo L.length lc) A (a:Int) B (b:Int) (.slice none 0 0) [] a b (p+1) ((W1.alloc (hkO ⟨A,(a:Int),B,(b:Int),[]⟩ (.slice none 0 0))).alloc (ctO a b)):=(by
   have hB1:Below W1.heap.size W1 (W1.alloc (hkO ⟨A,(a:Int),B,(b:Int),[]⟩ (.slice none 0 0))):=(Below.refl _ W1).alloc (Nat.le_refl _) _
   have hB2:Below W1.heap.size W1 ((W1.alloc (hkO ⟨A,(a:Int),B,(b:Int),[]⟩ (.slice none 0 0))).alloc (ctO a b)):=hB1.alloc hB1.size _
   refine⟨ZdT gw1 (ZfO hB2 _),hx1.low hB2,?_,?_,World.ownsRow_nil _ _ _ _,q1.low hB2,hsz1,by omega,hRl⟩
   ·exact (Below.heap_alloc _ _ _ (by simp)).trans (Hx.new W1 _ _)
   ·have:=heap_alloc_new (W1.alloc (hkO ⟨A,(a:Int),B,(b:Int),[]⟩ (.slice none 0 0))) (ctO a b)
    simpa using this)
  unfold hkO ctO at hU3
  dsimp only at hU3
  obtain⟨r0,r1⟩:=(q1.low ((Below.refl _ W1).alloc (Nat.le_refl _) (.cells #[.int .i64 A,.int .i64 (a:Int),.int .i64 B,.int .i64 (b:Int),.slice none 0 0] 45))).cells
  go_wp2
  have e1:((p+1:Nat):Int)=(p:Int)+1:=by omega
  have HY0:Hid (thenM [] (urdP (a+b) a b (p+1) (L.drop (p+1)))=Y2):=(by show _=_;rw[ZkN,hY2])
  have HXX:Hid (outU p A (a:Int) B (b:Int) Y2=X):=hX
  clear hX hY2 r0 r1 hx1 q1
  generalize (W1.alloc (.cells #[.int .i64 A,.int .i64 (a:Int),.int .i64 B,.int .i64 (b:Int),.slice none 0 0] 45)).alloc (.cells #[.int .i64 (a:Int),.int .i64 (b:Int)] 300)=W3 at hU3 ⊢
  generalize W1.heap.size=T at hU3 hsz1 ⊢
  go_loopw [] (fun wr=>∃ (l:List Mk) (v:Value) (a' b' pn n:Nat),Uz w R T (T+1) (.slice lo L.length lc) A (a:Int) B (b:Int) v l a' b' pn wr∧a'+b'≤n∧pn≤L.length∧a'≤2147483647∧b'≤2147483647∧l.length≤pn∧Hid (thenM l (urdP n a' b' pn (L.drop pn))=Y2)) (fun wr=>L.length-ukN wr R)
  case atStart=>exact⟨[],.slice none 0 0,a,b,p+1,a+b,hU3,Nat.le_refl _,by omega,by omega,by omega,Nat.zero_le _,HY0⟩
  case round =>
  clear HY0 hU3 gw1
  obtain⟨l,v,a',b',pn,n,hU,hn,hpn,ha',hb',hll,HI⟩:=hrel
  have HK:Hid (ukN wr R=pn):=Zlr hU.ck
  obtain⟨l0,l1,f0,f1⟩:=hU.left
  have heq:=Zci (a':Int) (b':Int) 0 0
  have hgd:Tryz.prog.eqGuardType Tryz.prog.depth 300=false:=by kernel_rfl
  by_cases h0:a'+b'=0
  ·have e2:(!((a':Int) == 0 && (b':Int) == 0))=false:=(by
    have x1:((a':Int) == 0)=true:=beq_iff_eq.2 (by omega)
    have x2:((b':Int) == 0)=true:=beq_iff_eq.2 (by omega)
    rw[x1,x2]
    rfl)
   rw[e2] at heq
   have hE:=HI.out
   rw[ZlQ n h0] at hE
   subst hE
   have hX:=HXX.out
   dsimp only[outU] at hX
   have hcc:=ZaQ 246 #[] l (fun m=>m.sg != 32) v wr (Zeo hU.own) (by omega) (enters_of Tryz.func246 (by kernel_rfl) rfl) (fun m _ u _=>Zlp m u) (!smB l) (by show _=_;exact Zau l)
   obtain⟨vo,vc,rfl⟩:=(Zeo hU.own).form
   have h4:=hU.bh.cells.2.2.2.2
   obtain⟨sm,hsm⟩:∃ z,smB l=z:=⟨_,rfl⟩
   rw[hsm] at hX hcc
   clear HXX HI hsm e2
   cases sm with
   | true =>
    rw[if_pos rfl] at hX
    subst hX
    go_wp2_with fail
    refine hcc.mono ?_
    rintro e w1 ⟨rfl,hB1⟩
    have hgr1:=hU.gr
    go_wp2_with fail
    refine (ZlX ((p:Int)+1) 50 w1).mono ?_
    rintro x w2 ⟨⟨g,rfl,hg⟩,hb⟩
    go_wp2
    exact⟨rfl,⟨_,rfl,by simpa using hg⟩,ZdT hgr1 (ZfO (hB1.trans (hb.mono hB1.size)) _)⟩
   | false =>
    rw[if_neg (by decide)] at hX
    subst hX
    go_wp2_with fail
    refine hcc.mono ?_
    rintro e w1 ⟨rfl,hB1⟩
    have hU1:=hU.keep hB1
    clear h4 l0 l1 f0 f1 heq hgd hcc hU
    obtain⟨z0,z1,z2,z3,z4⟩:=hU1.bh.cells
    dsimp only at z0 z1 z2 z3
    obtain⟨y0,y1,y2,y3,y4⟩:=hU1.bg.cells
    dsimp only[zhk] at y0 y1 y2 y3
    have yf0:=hU1.bg.frozen 0
    have yf1:=hU1.bg.frozen 1
    have yf2:=hU1.bg.frozen 2
    have yf3:=hU1.bg.frozen 3
    have yf4:=hU1.bg.frozen 4
    have hvb:(Value.slice vo l.length vc).ownBlock≠some w.heap.size:=ZhE hU1.own hU1.bg (by decide)
    have fo:(five w1 w.heap.size A (a:Int) B (b:Int) (.slice vo l.length vc)).ownsRow w.heap.size 47 2 (.slice vo l.length vc) l.length (mkcells l):=((((hU1.own.kept (ZdS _ _ 0 _) (.inr hvb)).kept (ZdS _ _ 1 _) (.inr hvb)).kept (ZdS _ _ 2 _) (.inr hvb)).kept (ZdS _ _ 3 _) (.inr hvb)).kept (ZdS _ _ 4 _) (.inr hvb)
    have fh:=Zdm hU1.bg A (a:Int) B (b:Int) (.slice vo l.length vc)
    have fq:=Zdp hU1.ck (by omega:R≠w.heap.size) A (a:Int) B (b:Int) (.slice vo l.length vc)
    have fg:=Zdl hU1.gr (Nat.le_refl _) A (a:Int) B (b:Int) (.slice vo l.length vc)
    unfold five at fo fh fq fg
    clear hU1 hB1 hvb
    go_wp2
    exact bodyPost_ret (v:=hkV ⟨A,(a:Int),B,(b:Int),l⟩ (.slice vo l.length vc)) (results_cell_row rfl _ _ w.heap.size 45 #[.int .i64 A,.int .i64 (a:Int),.int .i64 B,.int .i64 (b:Int),.slice vo l.length vc] (0,0) _ rfl fh Tryz.underlying45 rfl (by kernel_rfl)) rfl ⟨_,rfl,fo,fq,fg⟩
  ·have e2:(!((a':Int) == 0 && (b':Int) == 0))=true:=(by
    cases hq:((a':Int) == 0 && (b':Int) == 0) with
    | false=>rfl
    | true =>
     rw[Bool.and_eq_true,beq_iff_eq,beq_iff_eq] at hq
     omega)
   rw[e2] at heq
   obtain⟨n',rfl⟩:∃ n',n=n'+1:=⟨n-1,by omega⟩
   have hI:=HI.out
   rw[ZlT n' h0] at hI
   obtain⟨Z,hZ⟩:∃ Z,ulnP a' b' pn (L.drop pn)=Z:=⟨_,rfl⟩
   rw[hZ] at hI
   have hB1:Below wr.heap.size wr (wr.alloc mk0):=(Below.refl _ wr).alloc (Nat.le_refl _) _
   have hU1:=hU.keep hB1
   have hS1:=heap_alloc_new wr mk0
   have hmk:=Zlz a' b' (wr.alloc mk0) hU1.ck (fun u hu=>HLs.out u (ZdT hU1.gr hu)) HPl.out hpn (by omega) (fun s h=>by have:=HSl.out s h;omega) ha' hb' Z hZ
   have HVb:Hid (v.ownBlock≠some wr.heap.size):=(by
    intro e
    have:=ZhN hU.own e
    omega)
   obtain⟨vo,vc,rfl⟩:=(Zeo hU.own).form
   unfold mk0 at hU1 hS1 hmk
   obtain⟨j0,j1,_,_⟩:=hU1.left
   clear HI hB1 hU e2
   cases Z with
   | error z =>
    obtain⟨z1,e1'⟩:=z
    dsimp only at hI
    subst hI
    have hX:=HXX.out
    dsimp only[outU] at hX
    subst hX
    have hgr1:=hU1.gr
    clear HXX hZ
    go_wp2_with fail
    refine hmk.mono ?_
    rintro x w1 ⟨⟨g,rfl,hg⟩,hgr⟩
    go_wp2
    exact⟨rfl,⟨_,rfl,hg⟩,ZdT hgr1 hgr⟩
   | ok z =>
    obtain⟨m,p1,r⟩:=z
    dsimp only at hI
    have hdr:=Zlw HPl.out hZ
    obtain⟨rfl,t1,t2,t3,t4,t5⟩:=hdr
    have HI2:Hid (thenM (l++[m]) (urdP n' (a'-sgO m) (b'-sgN m) p1 (L.drop p1))=Y2):=hI
    have hmk2:Calls Tryz.prog 244 #[.pointer (some ⟨R,0,none⟩),.agg #[.int .i64 (a':Int),.int .i64 (b':Int)]] (wr.alloc (.cells #[.int .u8 0,.string ⟨#[]⟩] 47)) fun e w'=>e=.returned (.tuple #[.agg #[.int .u8 m.sg,.string ⟨m.tx.toArray⟩],.agg #[.int .i64 ((a'-sgO m:Nat):Int),.int .i64 ((b'-sgN m:Nat):Int)]])∧Uk w' R (.slice lo L.length lc) (p1:Int)∧(wr.alloc (.cells #[.int .u8 0,.string ⟨#[]⟩] 47)).grownBy w' (some R):=hmk
    clear hI hZ hmk HXX
    generalize ha2:a'-sgO m=a2 at hmk2 HI2
    generalize hb2:b'-sgN m=b2 at hmk2 HI2
    go_wp2_with fail
    refine hmk2.mono ?_
    rintro e w2 ⟨rfl,q2,g2⟩
    have hU2:=hU1.call g2 q2
    have hSR:wr.heap.size≠R:=(by have:=hU1.rl;have:=hU1.gr.size;have:=hU1.cl;have:=hU1.tl;have:=(Array.getElem?_eq_some_iff.1 hU1.bl).1;simp at this;omega)
    have hS2:=(g2.block wr.heap.size (Array.getElem?_eq_some_iff.1 hS1).1 (fun e=>hSR (Option.some.inj e))).trans hS1
    have hCS:T+1<wr.heap.size:=(by
     have h1:=(Array.getElem?_eq_some_iff.1 hU1.bl).1
     have h2:T+1≠wr.heap.size:=(by
      intro e
      have h3:=hU1.bl
      rw[e,hS1] at h3
      simp[ctO] at h3)
     simp at h1
     omega)
    clear hU1 hS1 g2 q2 hmk2
    generalize wr.heap.size=S at *
    obtain⟨y0,y1⟩:w2.cell? ⟨S,0,none⟩=some (.int .u8 0)∧w2.cell? ⟨S,1,none⟩=some (.string ⟨#[]⟩):=⟨by rw[Lib.cell_of_heap hS2];rfl,by rw[Lib.cell_of_heap hS2];rfl⟩
    have yf0:w2.frozen? ⟨S,0,none⟩=false:=Lib.frozen_of_heap hS2 0
    have yf1:w2.frozen? ⟨S,1,none⟩=false:=Lib.frozen_of_heap hS2 1
    have hU3:=hU2.other hS2 (.inr HVb.out) hCS 0 (.int .u8 m.sg)
    have hS3:=heap_setCell_same _ S 0 _ _ (.int .u8 m.sg) hS2
    have hU4:=hU3.other hS3 (.inr HVb.out) hCS 1 (.string ⟨m.tx.toArray⟩)
    have hS4:=heap_setCell_same _ S 1 _ _ (.string ⟨m.tx.toArray⟩) hS3
    obtain⟨l0',l1',f0',f1'⟩:=hU4.left
    have hU5:=(hU4.setA a2).setB b2
    have hS5:((((w2.setCell ⟨S,0,none⟩ (.int .u8 m.sg)).setCell ⟨S,1,none⟩ (.string ⟨m.tx.toArray⟩)).setCell ⟨T+1,0,none⟩ (.int .i64 (a2:Int))).setCell ⟨T+1,1,none⟩ (.int .i64 (b2:Int))).heap[S]?=some (.cells #[.int .u8 m.sg,.string ⟨m.tx.toArray⟩] 47):=(Below.heap_setCell _ _ _ S (show S≠T+1 by omega)).trans ((Below.heap_setCell _ _ _ S (show S≠T+1 by omega)).trans hS4)
    go_upto_region 7 with fail
    clear hU2 hU3 hU4 hS2 hS3 hS4 y0 y1 yf0 yf1 l0' l1' f0' f1' l0 l1 f0 f1 j0 j1 heq hgd
    generalize (((w2.setCell ⟨S,0,none⟩ (.int .u8 m.sg)).setCell ⟨S,1,none⟩ (.string ⟨m.tx.toArray⟩)).setCell ⟨T+1,0,none⟩ (.int .i64 (a2:Int))).setCell ⟨T+1,1,none⟩ (.int .i64 (b2:Int))=W5 at hU5 hS5 ⊢
    have s0:W5.cell? ⟨S,0,none⟩=some (.int .u8 m.sg):=(by rw[Lib.cell_of_heap hS5];rfl)
    have s1:W5.cell? ⟨S,1,none⟩=some (.string ⟨m.tx.toArray⟩):=(by rw[Lib.cell_of_heap hS5];rfl)
    have h4:=hU5.bh.cells.2.2.2.2
    have hU6:=hU5.keep ((Below.refl _ W5).alloc (Nat.le_refl _) (mkO m))
    have hrow:=Zgj W5 m
    have hown6:=hU6.own
    have hlow6:=hU6.gr.size
    have hW:W5.alloc (.cells #[.int .u8 m.sg,.string ⟨m.tx.toArray⟩] 47)=W5.alloc (mkO m):=rfl
    clear hU5 hS5
    go_wp2_with (at_builtin;refine Zmi _ (by kernel_rfl) (.tmp 31) (.tmp 33) 43 47 (.agg #[.int .u8 0,.string ⟨#[]⟩]) 2 24 rfl Tryz.underlying43 infoMk rfl (by decide) (by decide) w.heap.size _ _ _ rfl hown6 _ 1 (mkcells [m]) rfl hrow (Zgo _) (Zgp _) (by omega) hlow6 ?_)
    intro v3 u3 hown3 hg3 _
    obtain⟨hU7,x1,x2⟩:=hU6.more hg3 hown3
    obtain⟨o3,c3,rfl⟩:=(Zeo hown3).form
    clear hW hrow hown6 hown3 hg3 hU6 s0 s1 h4
    go_wp2
    refine⟨⟨l++[m],_,a2,b2,p1,n',hU7,by omega,t2,by omega,by omega,by rw[List.length_append];simp only[List.length_cons,List.length_nil];omega,HI2⟩,?_⟩
    rw[Zlr hU7.ck,HK.out]
    omega
end

section
open Go.RowKit
theorem Zlh {k p:Nat} {L r:List (List UInt8)} {h:Hk} {p1:Nat} (hP:Plain L) (hh:uhkP k p (L.drop p)=.ok (h,p1,r)):r=L.drop p1∧p<p1∧p1≤L.length∧k<4096:=by
 have hP2:Plain (L.drop p):=fun s hs=>hP s (List.mem_of_mem_drop hs)
 obtain⟨_,_,a3,a4,a5⟩:=Zli hP2 hh
 rw[List.length_drop] at a3 a4
 have key:∀ (n a b q:Nat) (l:List Mk) (q1:Nat) (r1:List (List UInt8)),urdP n a b q (L.drop q)=.ok (l,q1,r1)→r1=L.drop q1:=by
  intro n
  induction n with
  | zero =>
   intro a b q l q1 r1 h
   simp only[urdP] at h
   cases h
   rfl
  | succ n ih =>
   intro a b q l q1 r1 h
   simp only[urdP] at h
   split at h
   ·cases h
    rfl
   ·split at h
    ·cases h
    ·rename_i m q2 r2 h2
     obtain⟨e,_⟩:=Zlw hP h2
     subst e
     split at h
     ·cases h
     ·rename_i l3 q3 r3 h3
      have:=ih _ _ _ _ _ _ h3
      cases h
      exact this
 refine⟨?_,by omega,by omega,a5⟩
 unfold uhkP at hh
 split at hh
 ·cases hh
 ·rename_i s r0 hn
  obtain⟨e,_⟩:=Zhr hn
  subst e
  split at hh
  ·cases hh
  ·split at hh
   ·cases hh
   ·split at hh
    ·cases hh
    ·split at hh
     ·cases hh
     ·rename_i l q1 r1 h1
      have:=key _ _ _ _ _ _ _ h1
      split at hh
      ·cases hh
      ·cases hh
       exact this
def conU (f k p:Nat) (r:List (List UInt8)):Except (Nat × Int) (List Hk × Nat × List (List UInt8)):=if pkU atC r=true then uhsP atC f k p r else .ok ([],p,r)
theorem Zln (f k p:Nat) (ls:List (List UInt8)) (l:List Hk):thenX l (uhsP atC (f+1) k p ls)=match uhkP k p ls with
  | .error e=>.error e
  | .ok (h,p1,r)=>thenX (l++[h]) (conU f (k+1) p1 r):=by
 simp only[uhsP]
 cases uhkP k p ls with
 | error e=>rfl
 | ok z =>
  obtain⟨h,p1,r⟩:=z
  dsimp only
  unfold conU
  split
  ·cases uhsP atC f (k+1) p1 r with
   | error e=>rfl
   | ok z=>simp[thenX]
  ·simp[thenX]
def lefU (P:List (Hk × Value)) (f p:Nat) (r:List (List UInt8)):Except (Nat × Int) (List Hk × Nat × List (List UInt8)):=thenX (P.map (·.1)) (if P=[] then uhsP atC f 0 p r else conU f P.length p r)
def patU (k p:Nat) (ls:List (List UInt8)):Except (Nat × Int) (Pth × Nat × List (List UInt8)) :=
 match namP [45,45,45,32] p ls with
 | .error e=>.error e
 | .ok (n1,r1)=>if 64≤k then .error (p+1,9) else match namP [43,43,43,32] (p+1) r1 with
  | .error e=>.error e
  | .ok (n2,r2)=>match uhsP atC (r2.length+1) 0 (p+2) r2 with
   | .error e=>.error e
   | .ok (hs,p3,r3)=>.ok (⟨n1,n2,hs⟩,p3,r3)
theorem ZlK (f k p:Nat) (ls:List (List UInt8)):upsP atC (f+1) k p ls=if ls=[] then .ok [] else match patU k p ls with
  | .error e=>.error e
  | .ok (x,p3,r3)=>match upsP atC f (k+1) p3 r3 with
   | .error e=>.error e
   | .ok l=>.ok (x::l):=by
 simp only[upsP]
 split
 ·rfl
 ·unfold patU
  cases namP [45,45,45,32] p ls with
  | error e=>rfl
  | ok z =>
   obtain⟨n1,r1⟩:=z
   dsimp only
   split
   ·rfl
   ·cases namP [43,43,43,32] (p+1) r1 with
    | error e=>rfl
    | ok z =>
     obtain⟨n2,r2⟩:=z
     dsimp only
     cases uhsP atC (r2.length+1) 0 (p+2) r2 with
     | error e=>rfl
     | ok z=>rfl
structure Pzu (wb:World) (R S:Nat) (vL:Value) (n1 n2:List UInt8) (hv:Value) (P:List (Hk × Value)) (p:Nat) (u:World):Prop where
 gr:wb.grownBy u (some R)
 box:u.heap[S]?=some (.cells #[.string ⟨n1.toArray⟩,.string ⟨n2.toArray⟩,hv] 42)
 own:u.ownsRow wb.heap.size 45 5 hv P.length (hkcells P)
 ins:∀ x∈P,u.ownsRow wb.heap.size 47 2 x.2 x.1.ls.length (mkcells x.1.ls)
 ck:Uk u R vL (p:Int)
 ge:wb.heap.size≤S
 rl:R<wb.heap.size
section
variable {wb u u':World} {R S:Nat} {vL hv:Value} {n1 n2:List UInt8} {P:List (Hk × Value)} {p p':Nat}
theorem Pzu.keep (h:Pzu wb R S vL n1 n2 hv P p u) (hb:Below u.heap.size u u'):Pzu wb R S vL n1 n2 hv P p u':=⟨ZdT h.gr (ZfO hb _),(hb.block S (Array.getElem?_eq_some_iff.1 h.box).1).trans h.box,ZhK h.own hb,fun x hx=>ZhK (h.ins x hx) hb,h.ck.low hb,h.ge,h.rl⟩
theorem Pzu.ne (h:Pzu wb R S vL n1 n2 hv P p u):R≠S:=by have h1:=h.ge;have h2:=h.rl;omega
theorem Pzu.call (h:Pzu wb R S vL n1 n2 hv P p u) (hg:u.grownBy u' (some R)) (q:Uk u' R vL (p':Int)):Pzu wb R S vL n1 n2 hv P p' u':=⟨ZdT h.gr hg,(hg.block S (Array.getElem?_eq_some_iff.1 h.box).1 (fun e=>h.ne (Option.some.inj e).symm)).trans h.box,ZhI h.own hg h.rl,fun x hx=>ZhI (h.ins x hx) hg h.rl,q,h.ge,h.rl⟩
theorem Pzu.next (h:Pzu wb R S vL n1 n2 hv P p u):Pzu wb R S vL n1 n2 hv P (p+1) (u.setCell ⟨R,1,none⟩ (.int .i64 ((p:Int)+1))):=h.call (ZdS u R 1 _) (by have:=h.ck.at ((p:Int)+1);simpa using this)
theorem Pzu.cells (h:Pzu wb R S vL n1 n2 hv P p u):u.cell? ⟨S,0,none⟩=some (.string ⟨n1.toArray⟩)∧u.cell? ⟨S,1,none⟩=some (.string ⟨n2.toArray⟩)∧u.cell? ⟨S,2,none⟩=some hv:=by
 refine⟨?_,?_,?_⟩<;>rw[Lib.cell_of_heap h.box]<;>rfl
theorem Pzu.frozen (h:Pzu wb R S vL n1 n2 hv P p u) (j:Nat):u.frozen? ⟨S,j,none⟩=false:=Lib.frozen_of_heap h.box j
theorem Pzu.put (h:Pzu wb R S vL n1 n2 hv P p u) (j:Nat) (z:Value) {m1 m2:List UInt8} {hv':Value} (hc:#[Value.string ⟨n1.toArray⟩,.string ⟨n2.toArray⟩,hv].setIfInBounds j z=#[.string ⟨m1.toArray⟩,.string ⟨m2.toArray⟩,hv']) (ho:u.ownsRow wb.heap.size 45 5 hv' P.length (hkcells P)):Pzu wb R S vL m1 m2 hv' P p (u.setCell ⟨S,j,none⟩ z):=by
 have hg:=ZdS u S j z
 refine⟨ZdR h.gr h.ge j z,?_,ho.kept hg (.inr (ZhE ho h.box (by decide))),fun x hx=>(h.ins x hx).kept hg (.inr (ZhE (h.ins x hx) h.box (by decide))),h.ck.keep hg (fun e=>h.ne (Option.some.inj e)),h.ge,h.rl⟩
 have:=heap_setCell_same u S j _ _ z h.box
 rw[hc] at this
 exact this
theorem Pzu.more (h:Pzu wb R S vL n1 n2 hv P p u) {x:Hk} {y hv':Value} (hy:u.ownsRow wb.heap.size 47 2 y x.ls.length (mkcells x.ls)) (hg:u.grownBy u' hv.ownBlock) (ho:u'.ownsRow wb.heap.size 45 5 hv' (P.length+1) (hkcells P++hkC x y)) :
  Pzu wb R S vL n1 n2 hv' (P++[(x,y)]) p (u'.setCell ⟨S,2,none⟩ hv')∧u'.cell? ⟨S,2,none⟩=some hv∧u'.frozen? ⟨S,2,none⟩=false:=by
 have hge:∀ j,hv.ownBlock=some j→wb.heap.size≤j:=fun j hj=>ZhJ h.own hj
 have hb:u'.heap[S]?=some (.cells #[.string ⟨n1.toArray⟩,.string ⟨n2.toArray⟩,hv] 42):=(hg.block S (Array.getElem?_eq_some_iff.1 h.box).1 (fun e=>ZhE h.own h.box (by decide) e.symm)).trans h.box
 have hgR:wb.grownBy u' (some R):=⟨hg.os.trans h.gr.os,hg.tape.trans h.gr.tape,hg.output.trans h.gr.output,Nat.le_trans h.gr.size hg.size,fun k h1 h2=>(hg.block k (Nat.lt_of_lt_of_le h1 h.gr.size) (fun e=>by have:=hge k e.symm;omega)).trans (h.gr.block k h1 h2)⟩
 have hck:Uk u' R vL (p:Int):=h.ck.keep hg (fun e=>by have:=hge R e.symm;have:=h.rl;omega)
 have key:∀ {v:Value} {n:Nat} {xs:List Value},u.ownsRow wb.heap.size 47 2 v n xs→u'.ownsRow wb.heap.size 47 2 v n xs:=by
  intro v n xs hv2
  refine⟨hv2.1,?_⟩
  rcases hv2.2 with q | ⟨b,cap,cur,rfl,q2,q3,q4⟩
  ·exact .inl q
  ·refine .inr ⟨b,cap,cur,rfl,q2,?_,q4⟩
   rw[hg.block b (Array.getElem?_eq_some_iff.1 q3).1 (fun e=>ZhE h.own q3 (by decide) e.symm)]
   exact q3
 have hg2:=ZdS u' S 2 hv'
 have hkc:hkcells (P++[(x,y)])=hkcells P++hkC x y:=by rw[Zeh];simp[hkcells,hkC]
 refine⟨⟨ZdR hgR h.ge 2 hv',heap_setCell_same u' S 2 _ _ hv' hb,?_,?_,hck.keep hg2 (fun e=>h.ne (Option.some.inj e)),h.ge,h.rl⟩,by rw[Lib.cell_of_heap hb];rfl,Lib.frozen_of_heap hb 2⟩
 ·rw[List.length_append,hkc]
  exact ho.kept hg2 (.inr (ZhE ho hb (by decide)))
 ·intro z hz
  rcases List.mem_append.1 hz with hz | hz
  ·exact (key (h.ins z hz)).kept hg2 (.inr (ZhE (key (h.ins z hz)) hb (by decide)))
  ·rw[List.mem_singleton.1 hz]
   exact (key hy).kept hg2 (.inr (ZhE (key hy) hb (by decide)))
end
end

section
open Go.RowKit Go.Proofs.YtcniomgjikienaaGreatDoor.Tx
attribute [local go_sem] ByteArray.extract_mk Zhc
structure Uy (w:World) (R T:Nat) (vL:Value) (A AN B BN:Int) (v:Value) (l:List Mk) (st:Except (Nat × Int) Nat) (u:World):Prop where
 gr:w.grownBy u (some R)
 bg:Hx u w.heap.size zhk (.slice none 0 0)
 bh:Hx u T ⟨A,AN,B,BN,l⟩ v
 own:u.ownsRow w.heap.size 47 2 v l.length (mkcells l)
 rd:RdZ u R vL st
 tl:w.heap.size<T
 rl:R<w.heap.size
section
variable {w u u':World} {R T:Nat} {vL v:Value} {A AN B BN:Int} {l:List Mk} {st st':Except (Nat × Int) Nat}
theorem Uy.keep (h:Uy w R T vL A AN B BN v l st u) (hb:Below u.heap.size u u'):Uy w R T vL A AN B BN v l st u' :=
 ⟨ZdT h.gr (ZfO hb _),h.bg.low hb,h.bh.low hb,ZhK h.own hb,h.rd.low hb,h.tl,h.rl⟩
theorem Uy.call (h:Uy w R T vL A AN B BN v l st u) (hg:u.grownBy u' (some R)) (q:RdZ u' R vL st'):Uy w R T vL A AN B BN v l st' u':=by
 have h1:=h.tl
 have h3:=h.rl
 exact⟨ZdT h.gr hg,h.bg.keep hg (fun e=>by have:=Option.some.inj e;omega),h.bh.keep hg (fun e=>by have:=Option.some.inj e;omega),ZhI h.own hg h.rl,q,h.tl,h.rl⟩
theorem Uy.other (h:Uy w R T vL A AN B BN v l st u) {S:Nat} (ht:v.ownBlock≠some S) (h0:T<S) (j:Nat) (z:Value):Uy w R T vL A AN B BN v l st (u.setCell ⟨S,j,none⟩ z):=by
 have h1:=h.tl
 have h3:=h.rl
 have hg:=ZdS u S j z
 exact⟨ZdR h.gr (by omega) j z,h.bg.keep hg (fun e=>by have:=Option.some.inj e;omega),h.bh.keep hg (fun e=>by have:=Option.some.inj e;omega),h.own.kept hg (.inr ht),h.rd.off hg (fun e=>by have:=Option.some.inj e;omega),h.tl,h.rl⟩
theorem Uy.more (h:Uy w R T vL A AN B BN v l st u) {m:Mk} {v':Value} (hg:u.grownBy u' v.ownBlock) (ho:u'.ownsRow w.heap.size 47 2 v' (l.length+1) (mkcells l++mkcells [m])) :
  Uy w R T vL A AN B BN v' (l++[m]) st (u'.setCell ⟨T,4,none⟩ v')∧u'.cell? ⟨T,4,none⟩=some v∧u'.frozen? ⟨T,4,none⟩=false:=by
 have h1:=h.tl
 have h3:=h.rl
 have hge:∀ j,v.ownBlock=some j→w.heap.size≤j:=fun j hj=>ZhJ h.own hj
 have kb:∀ (i:Nat) (cs:Array Value) (t:TypeId),47≠t→u.heap[i]?=some (.cells cs t)→u'.heap[i]?=some (.cells cs t):=fun i cs t ht hi=>(hg.block i (Array.getElem?_eq_some_iff.1 hi).1 (fun e=>ZhE h.own hi ht e.symm)).trans hi
 have bh:Hx u' T ⟨A,AN,B,BN,l⟩ v:=kb _ _ _ (by decide) h.bh
 have bg:Hx u' w.heap.size zhk (.slice none 0 0):=kb _ _ _ (by decide) h.bg
 have hgR:w.grownBy u' (some R):=⟨hg.os.trans h.gr.os,hg.tape.trans h.gr.tape,hg.output.trans h.gr.output,Nat.le_trans h.gr.size hg.size,fun k h1 h2=>(hg.block k (Nat.lt_of_lt_of_le h1 h.gr.size) (fun e=>by have:=hge k e.symm;omega)).trans (h.gr.block k h1 h2)⟩
 have hck:RdZ u' R vL st:=h.rd.off hg (fun e=>by have:=hge R e.symm;omega)
 have hg2:=ZdS u' T 4 v'
 refine⟨⟨ZdR hgR (by omega) 4 v',bg.keep hg2 (fun e=>by have:=Option.some.inj e;omega),heap_setCell_same u' T 4 _ _ v' bh,?_,hck.off hg2 (fun e=>by have:=Option.some.inj e;omega),h.tl,h.rl⟩,bh.cells.2.2.2.2,bh.frozen 4⟩
 rw[Zgl,List.length_append]
 exact ho.kept hg2 (.inr (ZhE ho bh (by decide)))
theorem Uy.fin (h:Uy w R T vL A AN B BN v l st u):(five u w.heap.size A AN B BN v).heap[w.heap.size]?=some (.cells #[.int .i64 A,.int .i64 AN,.int .i64 B,.int .i64 BN,v] 45 (0,0))∧(five u w.heap.size A AN B BN v).ownsRow w.heap.size 47 2 v l.length (mkcells l)∧RdZ (five u w.heap.size A AN B BN v) R vL st∧w.grownBy (five u w.heap.size A AN B BN v) (some R):=by
 have h3:=h.rl
 have hvb:v.ownBlock≠some w.heap.size:=ZhE h.own h.bg (by decide)
 have hR:∀ {u:World} (q:RdZ u R vL st) (j:Nat) (z:Value),RdZ (u.setCell ⟨w.heap.size,j,none⟩ z) R vL st:=fun q j z=>q.off (ZdS _ _ j z) (fun e=>by have:=Option.some.inj e;omega)
 exact⟨Zdm h.bg A AN B BN v,((((h.own.kept (ZdS _ _ 0 _) (.inr hvb)).kept (ZdS _ _ 1 _) (.inr hvb)).kept (ZdS _ _ 2 _) (.inr hvb)).kept (ZdS _ _ 3 _) (.inr hvb)).kept (ZdS _ _ 4 _) (.inr hvb),hR (hR (hR (hR (hR h.rd 0 _) 1 _) 2 _) 3 _) 4 _,Zdl h.gr (Nat.le_refl _) A AN B BN v⟩
end
end

end Go.Proofs.YtcniomgjikienaaGreatDoor

namespace Go.Proofs.YtcniomgjikienaaGreatDoor.Es

section
open Go.RowKit Go.Extern.Stop Go.Stop Go.Extern
theorem mKind (h : Value) (w : World) : (Go.method 524 157 (.agg #[h]) "Kind").run Tryz.prog w = .ok (390, h) w := by kernel_rfl
theorem mElem (h : Value) (w : World) : (Go.method 524 157 (.agg #[h]) "Elem").run Tryz.prog w = .ok (403, .agg #[h]) w := by kernel_rfl
theorem mImplements (h : Value) (w : World) : (Go.method 524 157 (.agg #[h]) "Implements").run Tryz.prog w = .ok (404, .agg #[h]) w := by kernel_rfl
theorem mAssignableTo (h : Value) (w : World) : (Go.method 524 157 (.agg #[h]) "AssignableTo").run Tryz.prog w = .ok (401, .agg #[h]) w := by kernel_rfl
theorem Ef.valueOfP (t:Addr) (w:World):(ReflectliteValue.unpack (.iface 75 (.pointer (some t)))).run Tryz.prog w
  = .ok (.agg #[.pointer (some ⟨7,75,none⟩),.pointer (some ⟨w.heap.size,0,none⟩),.int .u64 150]) (w.alloc (.cells #[.pointer (some t)] 75)):=by kernel_rfl
theorem Ef.typeP (a : Addr) (w : World) : (ReflectliteValue.methodAny (ReflectliteValue.valueError "reflectlite.Value.Type" 0) (fun t _ _ _ => ReflectliteType.toType t) #[.agg #[.pointer (some ⟨7, 75, none⟩), .pointer (some a), .int .u64 150]]).run Tryz.prog w
  = .ok (.iface 157 (.agg #[.pointer (some ⟨7,75,none⟩)])) w:=by kernel_rfl
theorem Ef.kindP (w:World):((ReflectliteType.abiMethod fun t=>Functor.map (fun a:Nat=>Value.int IntKind.u8 (a:Int)) (Rtype.kind t)) #[.pointer (some ⟨7,75,none⟩)]).run Tryz.prog w=.ok (.int .u8 22) w:=by kernel_rfl
theorem Ef.kindE (w:World):((ReflectliteType.abiMethod fun t=>Functor.map (fun a:Nat=>Value.int IntKind.u8 (a:Int)) (Rtype.kind t)) #[.pointer (some ⟨7,62,none⟩)]).run Tryz.prog w=.ok (.int .u8 22) w:=by kernel_rfl
theorem Ef.partsP (a:Addr) (w:World):(ReflectliteValue.parts (.agg #[.pointer (some ⟨7,75,none⟩),.pointer (some a),.int .u64 150])).run Tryz.prog w=.ok (some (75,a,150)) w:=by kernel_rfl
theorem Ef.isNilP (a p:Addr) (W:World) (ha:W.cell? a=some (.pointer (some p))) :
  (ReflectliteValue.method (ReflectliteValue.valueError "reflectlite.Value.IsNil" 0) ReflectliteValue.isNil #[.agg #[.pointer (some ⟨7, 75, none⟩), .pointer (some a), .int .u64 150]]).run Tryz.prog W = .ok (.bool false) W := by
 show Sem.run Tryz.prog (ReflectliteValue.parts (.agg #[.pointer (some ⟨7,75,none⟩),.pointer (some a),.int .u64 150]) >>= _) W=_
 simp only[Sem.run_bind,Ef.partsP,Result.andThen]
 simp[ReflectliteValue.isNil,loadVar,isAgg,underlying,Tryz.underlying75,ha,Result.andThen]
theorem Ef.elemP (w:World):(ReflectliteType.method ReflectliteType.elem #[.agg #[.pointer (some ⟨7,75,none⟩)]]).run Tryz.prog w=.ok (.iface 157 (.agg #[.pointer (some ⟨7,62,none⟩)])) w:=by kernel_rfl
theorem Ef.implementsE (w : World) : (ReflectliteType.relation "Implements" ReflectliteType.implements_ #[.agg #[.pointer (some ⟨7, 62, none⟩)], .iface 157 (.agg #[.pointer (some ⟨7, 24, none⟩)])]).run Tryz.prog w = .ok (.bool true) w := by kernel_rfl
theorem Ef.typeOfE (v:Value) (w:World):(ReflectliteType.typeOf #[.iface 62 v]).run Tryz.prog w=.ok (.iface 157 (.agg #[.pointer (some ⟨7,62,none⟩)])) w:=by kernel_rfl
theorem Ef.assignableE (w : World) : (ReflectliteType.relation "AssignableTo" ReflectliteType.assignableTo #[.agg #[.pointer (some ⟨7, 62, none⟩)], .iface 157 (.agg #[.pointer (some ⟨7, 62, none⟩)])]).run Tryz.prog w = .ok (.bool true) w := by kernel_rfl
theorem Ef.valueOfE (e:Addr) (w:World):(ReflectliteValue.unpack (.iface 62 (.pointer (some e)))).run Tryz.prog w
  = .ok (.agg #[.pointer (some ⟨7,62,none⟩),.pointer (some ⟨w.heap.size,0,none⟩),.int .u64 150]) (w.alloc (.cells #[.pointer (some e)] 62)):=by kernel_rfl
theorem Ef.elemOfP (w:World):(Rtype.elem? 75).run Tryz.prog w=.ok (some 62) w:=by kernel_rfl
theorem Ef.mkE (p:Addr) (w:World):(ReflectliteValue.mk 62 p ReflectliteValue.flagAddr).run Tryz.prog w=.ok (.agg #[.pointer (some ⟨7,62,none⟩),.pointer (some p),.int .u64 406]) w:=by kernel_rfl
theorem Ef.elemVP (a p:Addr) (W:World) (ha:W.cell? a=some (.pointer (some p))) :
  (ReflectliteValue.method (ReflectliteValue.valueError "reflectlite.Value.Elem" 0) ReflectliteValue.elem #[.agg #[.pointer (some ⟨7, 75, none⟩), .pointer (some a), .int .u64 150]]).run Tryz.prog W
   = .ok (.agg #[.pointer (some ⟨7,62,none⟩),.pointer (some p),.int .u64 406]) W:=by
 show Sem.run Tryz.prog (ReflectliteValue.parts (.agg #[.pointer (some ⟨7,75,none⟩),.pointer (some a),.int .u64 150]) >>= _) W=_
 simp only[Sem.run_bind,Ef.partsP,Result.andThen]
 simp[ReflectliteValue.elem,loadVar,isAgg,underlying,Tryz.underlying75,ha,Result.andThen,Ef.elemOfP,Ef.mkE]
theorem Ef.partsEa (a:Addr) (w:World):(ReflectliteValue.parts (.agg #[.pointer (some ⟨7,62,none⟩),.pointer (some a),.int .u64 406])).run Tryz.prog w=.ok (some (62,a,406)) w:=by kernel_rfl
theorem Ef.partsE (a:Addr) (w:World):(ReflectliteValue.parts (.agg #[.pointer (some ⟨7,62,none⟩),.pointer (some a),.int .u64 150])).run Tryz.prog w=.ok (some (62,a,150)) w:=by kernel_rfl
theorem Ef.directE (w:World):(Rtype.directlyAssignable 62 62).run Tryz.prog w=.ok true w:=by kernel_rfl
theorem Ef.setE (ta b:Addr) (e:Addr) (old:Value) (W:World) (hb:W.cell? b=some (.pointer (some e))) (ht:W.cell? ta=some old) (hf:W.frozen? ta=false) :
  (ReflectliteValue.set #[.agg #[.pointer (some ⟨7,62,none⟩),.pointer (some ta),.int .u64 406],.agg #[.pointer (some ⟨7,62,none⟩),.pointer (some b),.int .u64 150]]).run Tryz.prog W
   = .ok (.tuple #[]) (W.setCell ta (.pointer (some e))):=by
 show Sem.run Tryz.prog (ReflectliteValue.parts (.agg #[.pointer (some ⟨7,62,none⟩),.pointer (some ta),.int .u64 406]) >>= fun p=>ReflectliteValue.parts (.agg #[.pointer (some ⟨7,62,none⟩),.pointer (some b),.int .u64 150]) >>= fun q=>_) W=_
 simp only[Sem.run_bind,Ef.partsEa,Ef.partsE,Result.andThen]
 simp[ReflectliteValue.flagAddr,loadVar,isAgg,underlying,Tryz.underlying62,hb,Result.andThen,Ef.directE,storeVar,Value.cells,storeCells,Addr.add]
 rw[run_store Tryz.prog W ta _ _ (by rfl)]
 simp[ht,hf]
theorem Ef.as_hit (e:Addr) (t:Addr) (old:Value) (w:World) (hg:w.cell? ⟨0,0,none⟩=some (.iface 157 (.agg #[.pointer (some ⟨7,24,none⟩)]))) (ht0:w.cell? t=some old) (hf0:w.frozen? t=false) :
  Calls Tryz.prog 28 #[.iface 62 (.pointer (some e)),.iface 75 (.pointer (some t))] w fun ev w'=>ev=.returned (.bool true)∧w'=((((w.alloc (.cells #[.pointer (some t)] 75)).alloc (.cells #[.pointer (some ⟨7,75,none⟩),.pointer (some ⟨w.heap.size,0,none⟩),.int .u64 150] 108)).alloc (.cells #[.pointer (some ⟨7,75,none⟩),.pointer (some ⟨w.heap.size,0,none⟩),.int .u64 150] 108)).alloc (.cells #[.pointer (some e)] 62)).setCell t (.pointer (some e)):=by
 have h6:=@run_callFunc_extern Tryz.prog 55 _ (fun args=>ReflectliteValue.unpack (args.getD 0 (.tuple #[]))) Tryz.func55 (by kernel_rfl) (by kernel_rfl) (by kernel_rfl) (by kernel_rfl)
 have h7 := @run_callFunc_extern Tryz.prog 56 _ (ReflectliteValue.methodAny (ReflectliteValue.valueError "reflectlite.Value.Type" 0) (fun t _ _ _ => ReflectliteType.toType t)) Tryz.func56 (by kernel_rfl) (by kernel_rfl) (by kernel_rfl) (by kernel_rfl)
 have h8 := @run_callFunc_extern Tryz.prog 57 _ (ReflectliteValue.method (ReflectliteValue.valueError "reflectlite.Value.IsNil" 0) ReflectliteValue.isNil) Tryz.func57 (by kernel_rfl) (by kernel_rfl) (by kernel_rfl) (by kernel_rfl)
 have h27:=@run_callFunc_extern Tryz.prog 390 _ (ReflectliteType.abiMethod fun t=>do pure (.int .u8 (← Rtype.kind t))) Tryz.func390 (by kernel_rfl) (by kernel_rfl) (by kernel_rfl) (by kernel_rfl)
 have h37:=@run_callFunc_extern Tryz.prog 403 _ (ReflectliteType.method ReflectliteType.elem) Tryz.func403 (by kernel_rfl) (by kernel_rfl) (by kernel_rfl) (by kernel_rfl)
 have h38 := @run_callFunc_extern Tryz.prog 404 _ (ReflectliteType.relation "Implements" ReflectliteType.implements_) Tryz.func404 (by kernel_rfl) (by kernel_rfl) (by kernel_rfl) (by kernel_rfl)
 have h10:=@run_callFunc_extern Tryz.prog 97 _ ReflectliteType.typeOf Tryz.func97 (by kernel_rfl) (by kernel_rfl) (by kernel_rfl) (by kernel_rfl)
 have h35 := @run_callFunc_extern Tryz.prog 401 _ (ReflectliteType.relation "AssignableTo" ReflectliteType.assignableTo) Tryz.func401 (by kernel_rfl) (by kernel_rfl) (by kernel_rfl) (by kernel_rfl)
 have h11 := @run_callFunc_extern Tryz.prog 98 _ (ReflectliteValue.method (ReflectliteValue.valueError "reflectlite.Value.Elem" 0) ReflectliteValue.elem) Tryz.func98 (by kernel_rfl) (by kernel_rfl) (by kernel_rfl) (by kernel_rfl)
 have h12:=@run_callFunc_extern Tryz.prog 99 _ ReflectliteValue.set Tryz.func99 (by kernel_rfl) (by kernel_rfl) (by kernel_rfl) (by kernel_rfl)
 have tO:=Ef.typeOfE
 have mA:=mAssignableTo
 have a25:=Ef.assignableE
 have v25:=Ef.valueOfE
 have f6:=Ef.valueOfP
 have f7:=Ef.typeP
 have mK:=mKind
 have mE:=mElem
 have mI:=mImplements
 have k27:=Ef.kindP
 have k25:=Ef.kindE
 have e27:=Ef.elemP
 have i25:=Ef.implementsE
 have n8:=Ef.isNilP ⟨w.heap.size,0,none⟩ t ((w.alloc (.cells #[.pointer (some t)] 75)).alloc (.cells #[.pointer (some ⟨7,75,none⟩),.pointer (some ⟨w.heap.size,0,none⟩),.int .u64 150] 108)) (by simp)
 have hlt:0<w.heap.size:=by
  rcases Nat.lt_or_ge 0 w.heap.size with h | h
  ·exact h
  ·simp[World.cell?,Array.getElem?_eq_none h] at hg
 have hg2:((w.alloc (.cells #[.pointer (some t)] 75)).alloc (.cells #[.pointer (some ⟨7,75,none⟩),.pointer (some ⟨w.heap.size,0,none⟩),.int .u64 150] 108)).cell? ⟨0,0,none⟩=some (.iface 157 (.agg #[.pointer (some ⟨7,24,none⟩)])):=by
  rw[World.cell?_alloc_lt _ _ ⟨0,0,none⟩ (by simp<;>omega),World.cell?_alloc_lt _ _ ⟨0,0,none⟩ hlt];exact hg
 have htl:t.block<w.heap.size:=by
  rcases Nat.lt_or_ge t.block w.heap.size with h | h
  ·exact h
  ·simp[World.cell?,Array.getElem?_eq_none h] at ht0
 have el:=Ef.elemVP ⟨w.heap.size,0,none⟩ t (((w.alloc (.cells #[.pointer (some t)] 75)).alloc (.cells #[.pointer (some ⟨7,75,none⟩),.pointer (some ⟨w.heap.size,0,none⟩),.int .u64 150] 108)).alloc (.cells #[.pointer (some ⟨7,75,none⟩),.pointer (some ⟨w.heap.size,0,none⟩),.int .u64 150] 108)) (by rw[World.cell?_alloc_lt _ _ ⟨w.heap.size,0,none⟩ (by simp;omega)];simp)
 have st:=Ef.setE t ⟨w.heap.size+1+1+1,0,none⟩ e old ((((w.alloc (.cells #[.pointer (some t)] 75)).alloc (.cells #[.pointer (some ⟨7,75,none⟩),.pointer (some ⟨w.heap.size,0,none⟩),.int .u64 150] 108)).alloc (.cells #[.pointer (some ⟨7,75,none⟩),.pointer (some ⟨w.heap.size,0,none⟩),.int .u64 150] 108)).alloc (.cells #[.pointer (some e)] 62))
  (by rw[World.cell?_alloc_at _ _ _ _ (by simp)];rfl)
  (by rw[World.cell?_alloc_lt _ _ t (by simp;omega),World.cell?_alloc_lt _ _ t (by simp;omega),World.cell?_alloc_lt _ _ t (by simp;omega),World.cell?_alloc_lt _ _ t htl];exact ht0)
  (by rw[World.frozen?_alloc_old _ _ t (by simp;omega),World.frozen?_alloc_old _ _ t (by simp;omega),World.frozen?_alloc_old _ _ t (by simp;omega),World.frozen?_alloc_old _ _ t (Nat.ne_of_lt htl)];exact hf0)
 go_enter Tryz.func28,Tryz.ntmps28
 go_wp2
 refine wp_loop_rounds 1 ?_
 rw[rounds_succ]
 go_wp2
 go_ret
 exact⟨rfl,rfl⟩
theorem En.valueOfP (t:Addr) (w:World):(ReflectliteValue.unpack (.iface 80 (.pointer (some t)))).run Tryz.prog w
  = .ok (.agg #[.pointer (some ⟨7,80,none⟩),.pointer (some ⟨w.heap.size,0,none⟩),.int .u64 150]) (w.alloc (.cells #[.pointer (some t)] 80)):=by kernel_rfl
theorem En.typeP (a : Addr) (w : World) : (ReflectliteValue.methodAny (ReflectliteValue.valueError "reflectlite.Value.Type" 0) (fun t _ _ _ => ReflectliteType.toType t) #[.agg #[.pointer (some ⟨7, 80, none⟩), .pointer (some a), .int .u64 150]]).run Tryz.prog w
  = .ok (.iface 157 (.agg #[.pointer (some ⟨7,80,none⟩)])) w:=by kernel_rfl
theorem En.kindP (w:World):((ReflectliteType.abiMethod fun t=>Functor.map (fun a:Nat=>Value.int IntKind.u8 (a:Int)) (Rtype.kind t)) #[.pointer (some ⟨7,80,none⟩)]).run Tryz.prog w=.ok (.int .u8 22) w:=by kernel_rfl
theorem En.kindE (w:World):((ReflectliteType.abiMethod fun t=>Functor.map (fun a:Nat=>Value.int IntKind.u8 (a:Int)) (Rtype.kind t)) #[.pointer (some ⟨7,27,none⟩)]).run Tryz.prog w=.ok (.int .u8 2) w:=by kernel_rfl
theorem En.partsP (a:Addr) (w:World):(ReflectliteValue.parts (.agg #[.pointer (some ⟨7,80,none⟩),.pointer (some a),.int .u64 150])).run Tryz.prog w=.ok (some (80,a,150)) w:=by kernel_rfl
theorem En.isNilP (a p:Addr) (W:World) (ha:W.cell? a=some (.pointer (some p))) :
  (ReflectliteValue.method (ReflectliteValue.valueError "reflectlite.Value.IsNil" 0) ReflectliteValue.isNil #[.agg #[.pointer (some ⟨7, 80, none⟩), .pointer (some a), .int .u64 150]]).run Tryz.prog W = .ok (.bool false) W := by
 show Sem.run Tryz.prog (ReflectliteValue.parts (.agg #[.pointer (some ⟨7,80,none⟩),.pointer (some a),.int .u64 150]) >>= _) W=_
 simp only[Sem.run_bind,En.partsP,Result.andThen]
 simp[ReflectliteValue.isNil,loadVar,isAgg,underlying,Tryz.underlying80,ha,Result.andThen]
theorem En.elemP (w:World):(ReflectliteType.method ReflectliteType.elem #[.agg #[.pointer (some ⟨7,80,none⟩)]]).run Tryz.prog w=.ok (.iface 157 (.agg #[.pointer (some ⟨7,27,none⟩)])) w:=by kernel_rfl
theorem En.implementsE (w : World) : (ReflectliteType.relation "Implements" ReflectliteType.implements_ #[.agg #[.pointer (some ⟨7, 27, none⟩)], .iface 157 (.agg #[.pointer (some ⟨7, 24, none⟩)])]).run Tryz.prog w = .ok (.bool true) w := by kernel_rfl
theorem En.typeOfE (v:Value) (w:World):(ReflectliteType.typeOf #[.iface 27 v]).run Tryz.prog w=.ok (.iface 157 (.agg #[.pointer (some ⟨7,27,none⟩)])) w:=by kernel_rfl
theorem En.assignableE (w : World) : (ReflectliteType.relation "AssignableTo" ReflectliteType.assignableTo #[.agg #[.pointer (some ⟨7, 27, none⟩)], .iface 157 (.agg #[.pointer (some ⟨7, 27, none⟩)])]).run Tryz.prog w = .ok (.bool true) w := by kernel_rfl
theorem En.valueOfE (z:Int) (w:World):(ReflectliteValue.unpack (.iface 27 (.int .i64 z))).run Tryz.prog w
  = .ok (.agg #[.pointer (some ⟨7,27,none⟩),.pointer (some ⟨w.heap.size,0,none⟩),.int .u64 130]) (w.alloc (.cells #[.int .i64 z] 27)):=by kernel_rfl
theorem En.elemOfP (w:World):(Rtype.elem? 80).run Tryz.prog w=.ok (some 27) w:=by kernel_rfl
theorem En.mkE (p:Addr) (w:World):(ReflectliteValue.mk 27 p ReflectliteValue.flagAddr).run Tryz.prog w=.ok (.agg #[.pointer (some ⟨7,27,none⟩),.pointer (some p),.int .u64 386]) w:=by kernel_rfl
theorem En.elemVP (a p:Addr) (W:World) (ha:W.cell? a=some (.pointer (some p))) :
  (ReflectliteValue.method (ReflectliteValue.valueError "reflectlite.Value.Elem" 0) ReflectliteValue.elem #[.agg #[.pointer (some ⟨7, 80, none⟩), .pointer (some a), .int .u64 150]]).run Tryz.prog W
   = .ok (.agg #[.pointer (some ⟨7,27,none⟩),.pointer (some p),.int .u64 386]) W:=by
 show Sem.run Tryz.prog (ReflectliteValue.parts (.agg #[.pointer (some ⟨7,80,none⟩),.pointer (some a),.int .u64 150]) >>= _) W=_
 simp only[Sem.run_bind,En.partsP,Result.andThen]
 simp[ReflectliteValue.elem,loadVar,isAgg,underlying,Tryz.underlying80,ha,Result.andThen,En.elemOfP,En.mkE]
theorem En.partsEa (a:Addr) (w:World):(ReflectliteValue.parts (.agg #[.pointer (some ⟨7,27,none⟩),.pointer (some a),.int .u64 386])).run Tryz.prog w=.ok (some (27,a,386)) w:=by kernel_rfl
theorem En.partsE (a:Addr) (w:World):(ReflectliteValue.parts (.agg #[.pointer (some ⟨7,27,none⟩),.pointer (some a),.int .u64 130])).run Tryz.prog w=.ok (some (27,a,130)) w:=by kernel_rfl
theorem En.directE (w:World):(Rtype.directlyAssignable 27 27).run Tryz.prog w=.ok true w:=by kernel_rfl
theorem En.setE (ta b:Addr) (z:Int) (old:Value) (W:World) (hb:W.cell? b=some (.int .i64 z)) (ht:W.cell? ta=some old) (hf:W.frozen? ta=false) :
  (ReflectliteValue.set #[.agg #[.pointer (some ⟨7,27,none⟩),.pointer (some ta),.int .u64 386],.agg #[.pointer (some ⟨7,27,none⟩),.pointer (some b),.int .u64 130]]).run Tryz.prog W
   = .ok (.tuple #[]) (W.setCell ta (.int .i64 z)):=by
 show Sem.run Tryz.prog (ReflectliteValue.parts (.agg #[.pointer (some ⟨7,27,none⟩),.pointer (some ta),.int .u64 386]) >>= fun p=>ReflectliteValue.parts (.agg #[.pointer (some ⟨7,27,none⟩),.pointer (some b),.int .u64 130]) >>= fun q=>_) W=_
 simp only[Sem.run_bind,En.partsEa,En.partsE,Result.andThen]
 simp[ReflectliteValue.flagAddr,loadVar,isAgg,underlying,Tryz.underlying27,hb,Result.andThen,En.directE,storeVar,Value.cells,storeCells,Addr.add]
 rw[run_store Tryz.prog W ta _ _ (by rfl)]
 simp[ht,hf]
theorem En.as_hit (z:Int) (t:Addr) (old:Value) (w:World) (hg:w.cell? ⟨0,0,none⟩=some (.iface 157 (.agg #[.pointer (some ⟨7,24,none⟩)]))) (ht0:w.cell? t=some old) (hf0:w.frozen? t=false) :
  Calls Tryz.prog 28 #[.iface 27 (.int .i64 z),.iface 80 (.pointer (some t))] w fun ev w'=>ev=.returned (.bool true)∧w'=((((w.alloc (.cells #[.pointer (some t)] 80)).alloc (.cells #[.pointer (some ⟨7,80,none⟩),.pointer (some ⟨w.heap.size,0,none⟩),.int .u64 150] 108)).alloc (.cells #[.pointer (some ⟨7,80,none⟩),.pointer (some ⟨w.heap.size,0,none⟩),.int .u64 150] 108)).alloc (.cells #[.int .i64 z] 27)).setCell t (.int .i64 z):=by
 have h6:=@run_callFunc_extern Tryz.prog 55 _ (fun args=>ReflectliteValue.unpack (args.getD 0 (.tuple #[]))) Tryz.func55 (by kernel_rfl) (by kernel_rfl) (by kernel_rfl) (by kernel_rfl)
 have h7 := @run_callFunc_extern Tryz.prog 56 _ (ReflectliteValue.methodAny (ReflectliteValue.valueError "reflectlite.Value.Type" 0) (fun t _ _ _ => ReflectliteType.toType t)) Tryz.func56 (by kernel_rfl) (by kernel_rfl) (by kernel_rfl) (by kernel_rfl)
 have h8 := @run_callFunc_extern Tryz.prog 57 _ (ReflectliteValue.method (ReflectliteValue.valueError "reflectlite.Value.IsNil" 0) ReflectliteValue.isNil) Tryz.func57 (by kernel_rfl) (by kernel_rfl) (by kernel_rfl) (by kernel_rfl)
 have h27:=@run_callFunc_extern Tryz.prog 390 _ (ReflectliteType.abiMethod fun t=>do pure (.int .u8 (← Rtype.kind t))) Tryz.func390 (by kernel_rfl) (by kernel_rfl) (by kernel_rfl) (by kernel_rfl)
 have h37:=@run_callFunc_extern Tryz.prog 403 _ (ReflectliteType.method ReflectliteType.elem) Tryz.func403 (by kernel_rfl) (by kernel_rfl) (by kernel_rfl) (by kernel_rfl)
 have h38 := @run_callFunc_extern Tryz.prog 404 _ (ReflectliteType.relation "Implements" ReflectliteType.implements_) Tryz.func404 (by kernel_rfl) (by kernel_rfl) (by kernel_rfl) (by kernel_rfl)
 have h10:=@run_callFunc_extern Tryz.prog 97 _ ReflectliteType.typeOf Tryz.func97 (by kernel_rfl) (by kernel_rfl) (by kernel_rfl) (by kernel_rfl)
 have h35 := @run_callFunc_extern Tryz.prog 401 _ (ReflectliteType.relation "AssignableTo" ReflectliteType.assignableTo) Tryz.func401 (by kernel_rfl) (by kernel_rfl) (by kernel_rfl) (by kernel_rfl)
 have h11 := @run_callFunc_extern Tryz.prog 98 _ (ReflectliteValue.method (ReflectliteValue.valueError "reflectlite.Value.Elem" 0) ReflectliteValue.elem) Tryz.func98 (by kernel_rfl) (by kernel_rfl) (by kernel_rfl) (by kernel_rfl)
 have h12:=@run_callFunc_extern Tryz.prog 99 _ ReflectliteValue.set Tryz.func99 (by kernel_rfl) (by kernel_rfl) (by kernel_rfl) (by kernel_rfl)
 have tO:=En.typeOfE
 have mA:=mAssignableTo
 have a25:=En.assignableE
 have v25:=En.valueOfE
 have f6:=En.valueOfP
 have f7:=En.typeP
 have mK:=mKind
 have mE:=mElem
 have mI:=mImplements
 have k27:=En.kindP
 have k25:=En.kindE
 have e27:=En.elemP
 have i25:=En.implementsE
 have n8:=En.isNilP ⟨w.heap.size,0,none⟩ t ((w.alloc (.cells #[.pointer (some t)] 80)).alloc (.cells #[.pointer (some ⟨7,80,none⟩),.pointer (some ⟨w.heap.size,0,none⟩),.int .u64 150] 108)) (by simp)
 have hlt:0<w.heap.size:=by
  rcases Nat.lt_or_ge 0 w.heap.size with h | h
  ·exact h
  ·simp[World.cell?,Array.getElem?_eq_none h] at hg
 have hg2:((w.alloc (.cells #[.pointer (some t)] 80)).alloc (.cells #[.pointer (some ⟨7,80,none⟩),.pointer (some ⟨w.heap.size,0,none⟩),.int .u64 150] 108)).cell? ⟨0,0,none⟩=some (.iface 157 (.agg #[.pointer (some ⟨7,24,none⟩)])):=by
  rw[World.cell?_alloc_lt _ _ ⟨0,0,none⟩ (by simp<;>omega),World.cell?_alloc_lt _ _ ⟨0,0,none⟩ hlt];exact hg
 have htl:t.block<w.heap.size:=by
  rcases Nat.lt_or_ge t.block w.heap.size with h | h
  ·exact h
  ·simp[World.cell?,Array.getElem?_eq_none h] at ht0
 have el:=En.elemVP ⟨w.heap.size,0,none⟩ t (((w.alloc (.cells #[.pointer (some t)] 80)).alloc (.cells #[.pointer (some ⟨7,80,none⟩),.pointer (some ⟨w.heap.size,0,none⟩),.int .u64 150] 108)).alloc (.cells #[.pointer (some ⟨7,80,none⟩),.pointer (some ⟨w.heap.size,0,none⟩),.int .u64 150] 108)) (by rw[World.cell?_alloc_lt _ _ ⟨w.heap.size,0,none⟩ (by simp;omega)];simp)
 have st:=En.setE t ⟨w.heap.size+1+1+1,0,none⟩ z old ((((w.alloc (.cells #[.pointer (some t)] 80)).alloc (.cells #[.pointer (some ⟨7,80,none⟩),.pointer (some ⟨w.heap.size,0,none⟩),.int .u64 150] 108)).alloc (.cells #[.pointer (some ⟨7,80,none⟩),.pointer (some ⟨w.heap.size,0,none⟩),.int .u64 150] 108)).alloc (.cells #[.int .i64 z] 27))
  (by rw[World.cell?_alloc_at _ _ _ _ (by simp)];rfl)
  (by rw[World.cell?_alloc_lt _ _ t (by simp;omega),World.cell?_alloc_lt _ _ t (by simp;omega),World.cell?_alloc_lt _ _ t (by simp;omega),World.cell?_alloc_lt _ _ t htl];exact ht0)
  (by rw[World.frozen?_alloc_old _ _ t (by simp;omega),World.frozen?_alloc_old _ _ t (by simp;omega),World.frozen?_alloc_old _ _ t (by simp;omega),World.frozen?_alloc_old _ _ t (Nat.ne_of_lt htl)];exact hf0)
 go_enter Tryz.func28,Tryz.ntmps28
 go_wp2
 refine wp_loop_rounds 1 ?_
 rw[rounds_succ]
 go_wp2
 go_ret
 exact⟨rfl,rfl⟩
end

end Go.Proofs.YtcniomgjikienaaGreatDoor.Es

namespace Go.Proofs.YtcniomgjikienaaGreatDoor

section
open Go.RowKit
def ErrT (w:World):Prop:=w.cell? ⟨0,0,none⟩=some (.iface 157 (.agg #[.pointer (some ⟨7,24,none⟩)]))
theorem ErrT.lt {w:World} (h:ErrT w):0<w.heap.size:=World.block_lt_of_cell? w _ h
theorem ErrT.low {w u:World} {N:Nat} (h:ErrT w) (hb:Below N w u) (hN:w.heap.size≤N):ErrT u:=(World.cell?_of_block (w:=w) (hb.block _ (Nat.lt_of_lt_of_le h.lt hN))).trans h
theorem ZdN {w u:World} {r:Option Nat} (h:w.grownBy u r) (o:Obj):w.grownBy (u.alloc o) r:=ZdT h (World.grownBy_alloc u o r)
theorem Zav (g b:Nat) (old:Value) (w:World) (hE:ErrT w) (hb:w.heap[b]?=some (.cells #[old] 62)) :
  Calls Tryz.prog 28 #[.iface 62 (.pointer (some ⟨g,0,none⟩)),.iface 75 (.pointer (some ⟨b,0,none⟩))] w fun e w'=>e=.returned (.bool true)∧w'.heap[b]?=some (.cells #[.pointer (some ⟨g,0,none⟩)] 62)∧w.grownBy w' (some b):=by
 refine (Es.Ef.as_hit ⟨g,0,none⟩ ⟨b,0,none⟩ old w hE (by rw[Lib.cell_of_heap hb];rfl) (Lib.frozen_of_heap hb 0)).mono ?_
 rintro e w' ⟨rfl,rfl⟩
 have hl:=(Array.getElem?_eq_some_iff.1 hb).1
 refine⟨rfl,?_,ZdT (ZdN (ZdN (ZdN (World.grownBy_alloc w _ _) _) _) _) (ZdS _ b 0 _)⟩
 refine (heap_setCell_same _ b 0 #[old] _ _ ?_).trans rfl
 rw[Lib.alloc_old _ _ _ (by simp;omega),Lib.alloc_old _ _ _ (by simp;omega),Lib.alloc_old _ _ _ (by simp;omega),Lib.alloc_old _ _ _ hl]
 exact hb
end

section
open Go.RowKit
open Ln
end

section
open Go.RowKit
open Ln
end

section
open Go.RowKit Go.Proofs.YtcniomgjikienaaGreatDoor.Tx
attribute [local go_sem] ByteArray.extract_mk Zhc
end

section
open Go.RowKit
open Ln
end

section
open Go.RowKit
attribute [local go_sem] ByteArray.extract_mk Zhc
def Fd (m:List Mk):Prop:=∀ x∈m,fdB x.tx=true∧x.tx.length≤1099511627776
theorem ZjW {sg:List UInt8} {S:Int} {n p:Nat} {ls:List (List UInt8)} {e:Nat × Int} (h:rdL sg S n p ls=.error e):sdC sg S n p ls=.error e:=by
 unfold sdC
 rw[h]
theorem Zhe {B R:Nat} {L:List (List UInt8)} {lo:Option Addr} {lc:Nat} {p:Nat} (w:World) (q:Ry w R (.slice lo L.length lc) p) (HL:Hid (∀ u,Fr B R w u→HS u (.slice lo L.length lc) L)) (HPl:Hid (Plain L)) (hp:p≤L.length) (hLl:L.length≤2199023255552) (HSl:Hid (∀ s∈L,s.length≤1099511627776))
  (hB:B≤w.heap.size) (hRB:R<B) (sg:List UInt8) (HSG:Hid (∀ c∈sg,c≠10)) (S:Int) (n:Nat) (hn:n≤2147483647) (v:Value) (m0:List Mk) (hm0:m0.length≤1099511627776) (hv:w.ownsRow B 47 2 v m0.length (mkcells m0))
  (X:Except (Nat × Int) (List Mk × Nat × List (List UInt8))) (HX:Hid (sdC sg S n p (L.drop p)=X)) :
  Calls Tryz.prog 319 #[.pointer (some ⟨R,0,none⟩),v,.int .i64 (n:Int),.string ⟨sg.toArray⟩,.int .u8 S] w fun x w'=>SdQ B R (.slice lo L.length lc) m0 X w x w':=by
 obtain⟨vo,vc,rfl⟩:=(Zeo hv).form
 obtain⟨Y,hY⟩:∃ Y,rdL sg S n p (L.drop p)=Y:=⟨_,rfl⟩
 have HY:Hid (thenL [] (rdL sg S (n-0) p (L.drop p))=Y):=(by show _=_;rw[ZkM];exact hY)
 have HXE:Hid (∀ e,Y=.error e→X=.error e):=(by
  intro e he
  rw[← HX.out]
  exact ZjW (hY.trans he))
 have HXO:Hid (∀ l p1 r,Y=.ok (l,p1,r)→X=if (decide (0<n) && endK l r)=true then .ok (cutL l,p1+1,r.tail) else .ok (l,p1,r)):=(by
  intro l p1 r he
  rw[← HX.out]
  unfold sdC
  rw[hY.trans he])
 have hv0:w.ownsRow B 47 2 (.slice vo m0.length vc) m0.length (mkcells (m0++[])):=(by rw[List.append_nil];exact hv)
 have HF0:Hid (Fd []∧([]:List Mk).length=0∧(m0++[]).length=m0.length):=⟨(fun x hx=>by cases hx),rfl,by rw[List.append_nil]⟩
 clear hY HX hv
 go_enter Tryz.func319,Tryz.ntmps319
 go_wp2
 go_loopw [1,14] (fun mv i wr=>∃ (k:Nat) (m:List Mk) (p' N:Nat),k≤n∧i=.int .i64 (k:Int)∧N≤1099511627776+k∧(∃ o c,mv=.slice o N c)∧wr.ownsRow B 47 2 mv N (mkcells (m0++m))∧Ry wr R (.slice lo L.length lc) (p':Int)∧Fr B R w wr∧p'≤L.length∧Hid (Fd m∧m.length=k∧(m0++m).length=N)∧Hid (thenL m (rdL sg S (n-k) p' (L.drop p'))=Y)) (fun _ i _=>n-(intOf i).toNat)
 case atStart=>exact⟨0,[],p,m0.length,Nat.zero_le _,by go_num,by omega,⟨vo,vc,rfl⟩,hv0,q,Fr.refl _ _ _,hp,HF0,HY⟩
 case round =>
 obtain⟨k,m,p1,N,hk,rfl,hNk,⟨o,c,rfl⟩,hown,q1,hF,hp1,HF,HI⟩:=hrel
 have hsz:=hF.size
 have hLr:=HL.out wr hF
 by_cases hlt:k<n
 ·obtain⟨Z,hZ⟩:∃ Z,nxt p1 (L.drop p1)=Z:=⟨_,rfl⟩
  have hl:=ZgX wr q1 hLr hp1 hLl HSl.out Z hZ
  have hnk:n-k=(n-(k+1))+1:=by omega
  cases Z with
  | error z =>
   obtain⟨a,e⟩:=z
   have hXe:X=.error (a,e):=(by
    apply HXE.out
    rw[← HI.out,hnk]
    unfold thenL rdL
    rw[hZ])
   subst hXe
   have HDone:Hid (∀ u,wr.grownBy u (some R)→Fr B R w u):=fun u hu=>hF.trans (Fr.of hu (Nat.le_trans hB hsz))
   clear HXE HXO HI hZ hown hnk
   go_wp2_with fail
   refine hl.mono ?_
   rintro x w1 ⟨⟨g,rfl,hg⟩,hgr⟩
   go_wp2
   exact⟨rfl,⟨_,rfl,hg⟩,HDone.out _ hgr⟩
  | ok z =>
   obtain⟨s,r⟩:=z
   obtain⟨hr,hpl,_,hLp⟩:=Zhr hZ
   have hsl:=HSl.out L[p1] (List.getElem_mem hpl)
   rw[hLp,List.length_append] at hsl
   have hst:=Zjb (sg:=sg) (S:=S) (n:=n-(k+1)) hZ m
   rw[← hnk,HI.out] at hst
   obtain⟨T,hT⟩:∃ T,s++[10]=T:=⟨_,rfl⟩
   obtain⟨U,hU⟩:∃ U,s.drop sg.length++[10]=U:=⟨_,rfl⟩
   have hUl:U.length≤1099511627776:=(by rw[← hU,List.length_append,List.length_drop];simp only[List.length_cons,List.length_nil] at hsl ⊢;omega)
   have hUf:fdB U=true:=(by rw[← hU];exact Zdf _)
   have hl2:Calls Tryz.prog 317 #[.pointer (some ⟨R,0,none⟩)] wr fun x w'=>x=.returned (.string ⟨T.toArray⟩)∧∃ n,w'=wr.drewN n:=(by
    refine hl.mono ?_
    rintro x w' ⟨h1,h2⟩
    rw[hT] at h1
    exact⟨h1,h2⟩)
   have hc:=fun u=>Tryz.strings_CutPrefix ⟨T.toArray⟩ ⟨sg.toArray⟩ u
   have hpf:Lib.hasPrefix (⟨T.toArray⟩:ByteArray).data.toList (⟨sg.toArray⟩:ByteArray).data.toList=sg.isPrefixOf s:=(by
    show Lib.hasPrefix T sg=_
    rw[← hT]
    exact ZiE HSG.out)
   rw[hpf] at hc
   by_cases hpre:sg.isPrefixOf s=true
   ·rw[if_pos hpre,hU,hr] at hst
    have htr:Lib.trimPrefix (⟨T.toArray⟩:ByteArray).data.toList (⟨sg.toArray⟩:ByteArray).data.toList=U:=(by
     show Lib.trimPrefix T sg=_
     rw[← hT,← hU]
     exact ZkU HSG.out hpre)
    rw[htr,hpre] at hc
    have HI2:Hid (thenL (m++[⟨S,U⟩]) (rdL sg S (n-(k+1)) (p1+1) (L.drop (p1+1)))=Y):=hst.symm
    have HF2:Hid (Fd (m++[⟨S,U⟩])∧(m++[(⟨S,U⟩:Mk)]).length=k+1∧(m0++(m++[(⟨S,U⟩:Mk)])).length=N+1):=⟨(by
     intro x hx
     rcases List.mem_append.1 hx with hx | hx
     ·exact HF.out.1 x hx
     ·rw[List.mem_singleton.1 hx]
      exact⟨hUf,hUl⟩),(by have:=HF.out.2.1;simp[this]),(by have:=HF.out.2.2;rw[← List.append_assoc,List.length_append,this];rfl)⟩
    clear hst hpf htr hpre hZ hl hLp hsl hUf hr HI HXE HXO hT hU HF hnk
    go_wp2_with fail
    refine hl2.mono ?_
    rintro x w1 ⟨rfl,nn,rfl⟩
    have q2:=q1.dN nn
    have hown2:(wr.drewN nn).ownsRow B 47 2 (.slice o N c) N (mkcells (m0++m)):=hown
    have hF2:Fr B R w (wr.drewN nn):=hF.trans ⟨rfl,rfl,rfl,Nat.le_refl _,fun _ _ _=>rfl⟩
    clear q1 hown hF hLr hl2
    generalize wr.drewN nn=W1 at q2 hown2 hF2 ⊢
    go_wp2_with fail
    refine (hc W1).mono ?_
    rintro x w2 ⟨rfl,rfl⟩
    have hsz2:=hF2.size
    have hrow:=Zgj w2 ⟨S,U⟩
    have hownA:=hown2.alloc (mkO ⟨S,U⟩)
    have qA:Ry (w2.alloc (mkO ⟨S,U⟩)) R (.slice lo L.length lc) (p1:Int):=q2.low ((Below.refl _ w2).alloc (Nat.le_refl _) _)
    have hFA:Fr B R w (w2.alloc (mkO ⟨S,U⟩)):=hF2.trans (Fr.of (World.grownBy_alloc w2 _ _) (Nat.le_trans hB hsz2))
    have HS2:Hid ((w2.alloc (mkO ⟨S,U⟩)).heap.size=w2.heap.size+1):=(by show _=_;simp)
    have hW:w2.alloc (Obj.cells #[Value.int IntKind.u8 S,Value.string ⟨U.toArray⟩] 47)=w2.alloc (mkO ⟨S,U⟩):=rfl
    have hxk:N+1≤2199023255552:=by omega
    clear hown2 q2 hF2 hc
    go_wp2_with (at_builtin;refine Zmi _ (by kernel_rfl) (.tmp 27) (.tmp 31) 43 47 (.agg #[.int .u8 0,.string ⟨#[]⟩]) 2 24 rfl Tryz.underlying43 infoMk rfl (by decide) (by decide) B _ _ _ rfl hownA _ 1 (mkcells [⟨S,U⟩]) rfl hrow (Zgo _) (Zgp _) hxk (by have:=HS2.out;omega) ?_)
    intro v3 u3 hown3 hg3 _
    rw[← Zgl,List.append_assoc] at hown3
    have hne3:(some R:Option Nat)≠(Value.slice o N c).ownBlock:=(by
     intro e
     have:=ZhJ hownA e.symm
     omega)
    have q3:=qA.keep hg3 hne3
    have hF3:=hFA.trans (Fr.own (R:=R) hg3 (by have:=HS2.out;omega) (fun j hj=>ZhJ hownA hj))
    obtain⟨o3,c3,rfl⟩:=(Zeo hown3).form
    obtain⟨d0,d1⟩:=q3.cells
    have f1:=q3.frozen 1
    have q4:=q3.at ((p1:Int)+1)
    have hg4:=ZdS u3 R 1 (.int .i64 ((p1:Int)+1))
    have hown4:=ZhI hown3 hg4 hRB
    have hsz3:=hF3.size
    have hF4:=hF3.trans (Fr.of hg4 (Nat.le_trans hB hsz3))
    clear hW hg3 hownA hown3 hrow qA hFA q3 hF3 hg4 HS2
    go_wp2
    refine⟨⟨k+1,m++[⟨S,U⟩],p1+1,N+1,by omega,by go_num,by omega,⟨o3,c3,rfl⟩,hown4,by simpa using q4,hF4,by omega,HF2,HI2⟩,by simp[intOf];omega⟩
   ·have hXe:X=.error (p1+1,3):=(by
     apply HXE.out
     rw[hst,if_neg hpre])
    have hpr2:sg.isPrefixOf s=false:=Bool.eq_false_iff.2 hpre
    rw[hpr2] at hc
    subst hXe
    have HDone:Hid (∀ u,wr.grownBy u (some R)→Fr B R w u):=fun u hu=>hF.trans (Fr.of hu (Nat.le_trans hB hsz))
    have q2:=fun nn=>q1.dN nn
    clear HXE HXO HI hZ hown hnk hst hpf hpre hpr2 hl hLp hsl hr hT hU
    generalize Lib.trimPrefix (⟨T.toArray⟩:ByteArray).data.toList (⟨sg.toArray⟩:ByteArray).data.toList=U2 at hc
    go_wp2_with fail
    refine hl2.mono ?_
    rintro x w1 ⟨rfl,nn,rfl⟩
    go_wp2_with fail
    refine (hc _).mono ?_
    rintro x w2 ⟨rfl,rfl⟩
    go_wp2_with fail
    refine (Zhi 3 _ (q2 nn) (by omega)).mono ?_
    rintro e w3 ⟨⟨g,rfl,hg⟩,hgr⟩
    go_wp2
    exact⟨rfl,⟨_,rfl,by simpa using hg⟩,HDone.out _ (ZdT (ZdP (ZfO (Below.refl wr.heap.size wr) (some R)) nn) hgr)⟩
 ·have hkn:k=n:=by omega
  subst hkn
  have hYv:Y=.ok (m,p1,L.drop p1):=(by
   rw[← HI.out,Nat.sub_self]
   simp[thenL,rdL])
  have hXv:=HXO.out m p1 (L.drop p1) hYv
  have hend:decide ((k:Int)<(k:Int))=false:=decide_eq_false (by omega)
  clear HXE HXO HI hYv HL
  by_cases h0:0<k
  ·have h0d:decide (0<k)=true:=decide_eq_true h0
   rw[h0d,Bool.true_and] at hXv
   obtain⟨m1,mk,hmm⟩:∃ m1 mk,m=m1++[mk]:=(by
    have hne:m≠[]:=(by
     rintro rfl
     have:=HF.out.2.1
     simp at this
     omega)
    exact⟨m.dropLast,m.getLast hne,(List.dropLast_concat_getLast hne).symm⟩)
   subst hmm
   have hfd:=HF.out.1 mk (by simp)
   obtain⟨N1,hN1⟩:∃ N1,(m0++m1).length=N1:=⟨_,rfl⟩
   have hNN:N=N1+1:=(by have:=HF.out.2.2;rw[← this,← hN1];simp;omega)
   subst hNN
   have hown':=hown
   rw[← hN1,← List.append_assoc] at hown'
   obtain⟨g,cap,hvv,hBg,hgs,d1,df,hset⟩:=ZhL hown'
   rw[hN1] at d1 df hset hvv
   injection hvv with hv1 hv2 hv3
   subst hv1 hv3
   have hgR:R≠g:=by omega
   unfold endK at hXv
   rw[Zfs,Zco] at hXv
   have HNn:Hid (∀ x:Mk,(m0++(m1++[x])).length=N1+1):=(by intro x;rw[← hN1];simp;omega)
   clear hown' hN1 HF
   have j0:(0:Int)<(k:Int):=by omega
   have j1:(0:Int)≤(N1:Int):=by omega
   have j2:(N1:Int)<(N1:Int)+1:=by omega
   have j3:(N1:Int)+1-1=(N1:Int):=by omega
   have j4:IntKind.i64.wrap (N1:Int)=(N1:Int):=Zmm (by omega) (by omega)
   cases hb:(mk.tx != [10] && pkM (L.drop p1)) with
   | false =>
    rw[hb,if_neg (by decide)] at hXv
    subst hXv
    have he:=ZgP (g:=g) (o:=N1 * 2) wr q1 hLr HPl.out hp1 hLl mk.tx d1 hb
    clear hb hset df hfd
    go_wp2_with fail
    refine he.mono ?_
    rintro x w1 ⟨rfl,nn,rfl⟩
    go_wp2
    go_ret
    exact⟨_,rfl,by rw[HNn.out];exact hown,q1,hF.trans ⟨rfl,rfl,rfl,Nat.le_refl _,fun _ _ _=>rfl⟩⟩
   | true =>
    rw[hb,if_pos rfl] at hXv
    subst hXv
    have HTt:Hid (mk.tx=mk.tx.dropLast++[10]):=Zdd hfd.1
    have he:=ZgQ (g:=g) (o:=N1 * 2) wr q1 hLr HPl.out hLl hgR mk.tx mk.tx.dropLast HTt hfd.2 d1 df hb
    have hs2:=fun nn=>hset (wr.drewN nn) mk.tx.dropLast rfl
    clear hb hset df hfd
    go_wp2_with fail
    refine he.mono ?_
    rintro x w1 ⟨rfl,nn,rfl⟩
    have hg1:=ZdS (wr.drewN nn) g (N1 * 2+1) (.string ⟨mk.tx.dropLast.toArray⟩)
    have q2:=((q1.dN nn).keep hg1 (fun e=>hgR (Option.some.inj e))).at ((p1:Int)+1)
    have hg2:=ZdS ((wr.drewN nn).setCell ⟨g,N1 * 2+1,none⟩ (.string ⟨mk.tx.dropLast.toArray⟩)) R 1 (.int .i64 ((p1:Int)+1))
    have hown2:=ZhI (hs2 nn) hg2 hRB
    have hF1:Fr B R w (wr.drewN nn):=hF.trans ⟨rfl,rfl,rfl,Nat.le_refl _,fun _ _ _=>rfl⟩
    have hF2:=hF1.trans (Fr.own (R:=R) hg1 (Nat.le_trans hB hsz) (fun j hj=>by cases hj;exact hBg))
    have hF3:=hF2.trans (Fr.of hg2 (Nat.le_trans hB hF2.size))
    go_wp2
    go_ret
    refine⟨_,rfl,?_,by simpa using q2,hF3⟩
    rw[HNn.out,← List.append_assoc]
    exact hown2
  ·have h0d:decide (0<k)=false:=decide_eq_false h0
   rw[h0d,Bool.false_and,if_neg (by decide)] at hXv
   subst hXv
   have j0:¬ (0:Int)<(k:Int):=by omega
   go_wp2
   go_ret
   exact⟨_,rfl,by rw[HF.out.2.2];exact hown,q1,hF⟩
end

section
open Go.RowKit
attribute [local go_sem] ByteArray.extract_mk Zhc
theorem LnsP.out {s:List UInt8} {x:Ending} (h:LnsP s x):∃ A N b,x=.returned (.tuple #[.int .i64 A,.int .i64 N,.bool b])∧lnsP s=if b=true then some (A,N) else none:=by
 unfold LnsP at h
 cases hl:lnsP s with
 | none =>
  rw[hl] at h
  obtain⟨A,N,rfl⟩:=h
  exact⟨A,N,false,rfl,rfl⟩
 | some z =>
  obtain⟨A,N⟩:=z
  rw[hl] at h
  exact⟨A,N,true,h,rfl⟩
def CmdP (s:List UInt8) (x:Ending):Prop :=
 match cmdP s with
 | some (A,AN,B,BN)=>x=.returned (.tuple #[hkV ⟨A,AN,B,BN,[]⟩ (.slice none 0 0),.bool true])
 | none=>∃ A AN B BN,x=.returned (.tuple #[hkV ⟨A,AN,B,BN,[]⟩ (.slice none 0 0),.bool false])
theorem CmdP.off {s:List UInt8} (h:∀ j (hj:j<s.length),isC s[j]=false):CmdP s (.returned (.tuple #[hkV ⟨0,0,0,0,[]⟩ (.slice none 0 0),.bool false])):=by
 unfold CmdP cmdP
 rw[Zkr s h]
 exact⟨0,0,0,0,rfl⟩
section
variable {u:World} {b:Nat} {h:Hk} {v:Value}
theorem Hx.putH5 (q:Hx u b h v) (A AN B BN:Int) (l:List Mk) (z:Value):Hx (((((u.setCell ⟨b,0,none⟩ (.int .i64 A)).setCell ⟨b,1,none⟩ (.int .i64 AN)).setCell ⟨b,2,none⟩ (.int .i64 B)).setCell ⟨b,3,none⟩ (.int .i64 BN)).setCell ⟨b,4,none⟩ z) b ⟨A,AN,B,BN,l⟩ z:=by
 have s1:=heap_setCell_same u b 0 _ _ (.int .i64 A) q
 have s2:=heap_setCell_same _ b 1 _ _ (.int .i64 AN) s1
 have s3:=heap_setCell_same _ b 2 _ _ (.int .i64 B) s2
 have s4:=heap_setCell_same _ b 3 _ _ (.int .i64 BN) s3
 exact heap_setCell_same _ b 4 _ _ z s4
theorem Hx.off (q:Hx u b h v) {c j:Nat} (hc:b≠c) (z:Value):Hx (u.setCell ⟨c,j,none⟩ z) b h v:=(Below.heap_setCell _ _ _ b hc).trans q
end
theorem ZbG {w u:World} (h:Below w.heap.size w u) (z0 z1 z2 z3 z4:Value):Below w.heap.size w (((((u.setCell ⟨w.heap.size,0,none⟩ z0).setCell ⟨w.heap.size,1,none⟩ z1).setCell ⟨w.heap.size,2,none⟩ z2).setCell ⟨w.heap.size,3,none⟩ z3).setCell ⟨w.heap.size,4,none⟩ z4) :=
 ((((h.setCell (Nat.le_refl _) _).setCell (Nat.le_refl _) _).setCell (Nat.le_refl _) _).setCell (Nat.le_refl _) _).setCell (Nat.le_refl _) _
theorem CmdP.mk {s:List UInt8} {k:Nat} {c:UInt8} (hk:k<s.length) (hc:s[k]=c) (h1:isC c=true) (h2:∀ j (hj:j<k),isC (s[j]'(by omega))=false) {x y:List UInt8} (hx:s.take k=x) (hy:s.drop (k+1)=y)
  {A AN B BN:Int} {b1 b2 b:Bool} (hA:(if c=97 then oneP x else lnsP x)=if b1=true then some (A,AN) else none) (hB:(if c=100 then oneP y else lnsP y)=if b2=true then some (B,BN) else none) (hb:(b1 && b2)=b) :
  CmdP s (.returned (.tuple #[hkV ⟨A,AN,B,BN,[]⟩ (.slice none 0 0),.bool b])):=by
 unfold CmdP cmdP
 rw[Zkq s k hk (by rw[hc];exact h1) h2]
 dsimp only
 rw[hx,hy,hc,hA,hB]
 cases b1<;>cases b2<;>cases hb
 ·exact⟨_,_,_,_,rfl⟩
 ·exact⟨_,_,_,_,rfl⟩
 ·exact⟨_,_,_,_,rfl⟩
 ·rfl
end

section
open Go.RowKit
attribute [local go_sem] ByteArray.extract_mk Zhc
theorem ZfN {W u:World} (h:Low W u):Low W u.drew:=Below.drew h
theorem ZcX {u:World} {s x:List UInt8} {k:Nat} (hk:k≤s.length) (hx:s.take k=x) {op:Oper} (p q:Operand) (ho:op.op=.slice 9 p none (some q) none) {ev:Operand→Value} (h1:ev p=.string ⟨s.toArray⟩) (h2:ev q=.int .i64 (k:Int)) :
  (execOp ev op).run Tryz.prog u=.ok (.value (.string ⟨x.toArray⟩)) u:=by
 have i1:(0:Int)≤(k:Int):=by omega
 have i2:(k:Int)≤(s.length:Int):=by omega
 subst hx
 simp only[execOp,ho,h1,h2,Option.map]
 go_simp
theorem ZcW {u:World} {s y:List UInt8} {k:Nat} (hk:k<s.length) (hy:s.drop (k+1)=y) {op:Oper} (p q:Operand) (ho:op.op=.slice 9 p (some q) none none) {ev:Operand→Value} (h1:ev p=.string ⟨s.toArray⟩) (h2:ev q=.int .i64 ((k:Int)+1)) :
  (execOp ev op).run Tryz.prog u=.ok (.value (.string ⟨y.toArray⟩)) u:=by
 have i1:(0:Int)≤(k:Int)+1:=by omega
 have i2:(k:Int)+1≤(s.length:Int):=by omega
 have i3:((k:Int)+1).toNat=k+1:=by omega
 subst hy
 have k5:(s.drop (k+1)).take (s.length-(k+1))=s.drop (k+1):=List.take_of_length_le (by simp)
 simp only[execOp,ho,h1,h2,Option.map]
 go_simp
theorem ZcV {u:World} {s:List UInt8} {k:Nat} {c:UInt8} (hk:k<s.length) (hc:s[k]=c) {op:Oper} (p q:Operand) (ho:op.op=.index 9 p q) {ev:Operand→Value} (h1:ev p=.string ⟨s.toArray⟩) (h2:ev q=.int .i64 (k:Int)) :
  (execOp ev op).run Tryz.prog u=.ok (.value (.int .u8 (c.toNat:Int))) u:=by
 have i1:(0:Int)≤(k:Int):=by omega
 have i2:(k:Int)<(s.length:Int):=by omega
 subst hc
 simp only[execOp,ho,h1,h2]
 go_simp
theorem ZkW (c d:UInt8):((c.toNat:Int) == (d.toNat:Int))=(c == d):=by
 rw[Bool.eq_iff_iff,beq_iff_eq,beq_iff_eq,← UInt8.toNat_inj]
 omega
theorem ZcU {u:World} {a b:Int} {r:Bool} {op:Oper} (p q:Operand) (ho:op.op=.binOp .eql 5 p q 5) {ev:Operand→Value} (h1:ev p=.int .u8 a) (h2:ev q=.int .u8 b) (hr:(a == b)=r) :
  (execOp ev op).run Tryz.prog u=.ok (.value (.bool r)) u:=by
 simp only[execOp,ho,h1,h2]
 go_simp
theorem ZcS {u:World} {p q:Int} (h:IntKind.i64.wrap (p+q)=p+q) {op:Oper} (x y:Operand) (ho:op.op=.binOp .add 3 x y 3) {ev:Operand→Value} (hx:ev x=.int .i64 p) (hy:ev y=.int .i64 q) :
  (execOp ev op).run Tryz.prog u=.ok (.value (.int .i64 (p+q))) u:=by
 simp only[execOp,ho,hx,hy]
 go_simp
theorem Zhk {W u:World} {s:List UInt8} {no:Bool} (hL:Low W u) (hl:s.length≤1099511627776):Calls Tryz.prog 339 (#[.string ⟨s.toArray⟩,.bool no]++#[]) u fun e w'=>∃ v,e=.returned v∧Low W w'∧∃ A AN b1,v=.tuple #[.int .i64 A,.int .i64 AN,.bool b1]∧nmP no s=(if b1=true then some (A,AN) else none):=by
 refine (Zhb s no u hl).mono ?_
 rintro e w' ⟨x,n,r,rfl,h1,h2⟩
 exact⟨_,rfl,Below.trans hL (h2.mono (Below.size hL)),x,n,r,rfl,h1⟩
theorem Zha (tmps:Array Value) (u:World) (B:Nat) (g:Hk) (v:Value) (h:Hx u B g v) {b:Value} (h2:tmps.getD 2 undef=.pointer (some ⟨B,0,none⟩)) (h3:tmps.getD 3 undef=b) :
  (results Tryz.f316 tmps).run Tryz.prog u=.ok (.tuple #[hkV g v,b]) u:=by
 rw[_root_.Go.results_cell_tmp rfl,h2,h3]
 have hL:(loadVar 45 ⟨B,0,none⟩).run Tryz.prog u=.ok (hkV g v) u:=run_loadVar_row u B _ _ _ _ _ h Tryz.underlying45 rfl (by kernel_rfl)
 simp[asAddr,hL,Result.andThen]
theorem ZgN (s:List UInt8) (hs:s.length<4294967281) (w:World) :
  Calls Tryz.prog 316 #[.string ⟨s.toArray⟩] w fun x w'=>CmdP s x∧Below w.heap.size w w':=by
 have hx0:=Hx.new w ⟨0,0,0,0,[]⟩ (.slice none 0 0)
 have hB0:Below w.heap.size w (w.alloc (hkO ⟨0,0,0,0,[]⟩ (.slice none 0 0))):=(Below.refl _ w).alloc (Nat.le_refl _) _
 unfold hkO at hx0 hB0
 dsimp only at hx0 hB0
 have hIx:=fun u=>Zaa s hs u
 rcases Zmc s with ⟨h1,h2⟩ | ⟨k,hlt,h1,h2,h3⟩
 ·have HC:Hid (∀ A AN B BN,CmdP s (.returned (.tuple #[hkV ⟨A,AN,B,BN,[]⟩ (.slice none 0 0),.bool false]))):=(by
   intro A AN B BN
   unfold CmdP cmdP
   rw[h1]
   exact⟨_,_,_,_,rfl⟩)
  rw[h2] at hIx
  clear h1 h2
  go_enter Tryz.func316,Tryz.ntmps316
  go_wp2_with fail
  generalize w.alloc (.cells #[.int .i64 0,.int .i64 0,.int .i64 0,.int .i64 0,.slice none 0 0] 45)=W at hx0 hB0 ⊢
  refine (hIx _).mono ?_
  rintro e w1 ⟨rfl,hb1⟩
  have hx1:=hx0.low hb1
  have hB1:=hB0.trans (hb1.mono hB0.size)
  obtain⟨c0,c1,c2,c3,c4⟩:=hx1.cells
  have f0:=hx1.frozen 0
  have f1:=hx1.frozen 1
  have f2:=hx1.frozen 2
  have f3:=hx1.frozen 3
  have f4:=hx1.frozen 4
  have hP:=hx1.putH5 0 0 0 0 [] (.slice none 0 0)
  have hBP:=ZbG hB1 (.int .i64 0) (.int .i64 0) (.int .i64 0) (.int .i64 0) (.slice none 0 0)
  go_wp2
  refine bodyPost_ret (Zha _ _ _ _ _ hP rfl rfl) rfl ⟨HC.out _ _ _ _,hBP⟩
 ·obtain⟨c,hcd⟩:∃ c,s[k]=c:=⟨_,rfl⟩
  obtain⟨x,hx⟩:∃ x,s.take k=x:=⟨_,rfl⟩
  obtain⟨y,hy⟩:∃ y,s.drop (k+1)=y:=⟨_,rfl⟩
  have hxl:x.length≤1099511627776:=(by rw[← hx,List.length_take];omega)
  have hyl:y.length≤1099511627776:=(by rw[← hy,List.length_drop];omega)
  have hkl:k≤s.length:=by omega
  have HC:Hid (∀ A AN B BN b1 b2,nmP (c == 97) x=(if b1=true then some (A,AN) else none)→nmP (c == 100) y=(if b2=true then some (B,BN) else none)→CmdP s (.returned (.tuple #[hkV ⟨A,AN,B,BN,[]⟩ (.slice none 0 0),.bool (b1 && b2)]))):=(by
   intro A AN B BN b1 b2 hA hB
   unfold CmdP cmdP
   rw[h2,hcd,hx,hy]
   dsimp only
   have e1:(if c=97 then oneP x else lnsP x)=nmP (c == 97) x:=(by
    unfold nmP
    by_cases h:c=97<;>simp[h])
   have e2:(if c=100 then oneP y else lnsP y)=nmP (c == 100) y:=(by
    unfold nmP
    by_cases h:c=100<;>simp[h])
   rw[e1,e2,hA,hB]
   cases b1<;>cases b2
   ·exact⟨_,_,_,_,rfl⟩
   ·exact⟨_,_,_,_,rfl⟩
   ·exact⟨_,_,_,_,rfl⟩
   ·rfl)
  rw[h1] at hIx
  clear h1 h2 h3
  go_enter Tryz.func316,Tryz.ntmps316
  go_wp2_with fail
  generalize w.alloc (.cells #[.int .i64 0,.int .i64 0,.int .i64 0,.int .i64 0,.slice none 0 0] 45)=W0 at hx0 hB0 ⊢
  refine (hIx _).mono ?_
  rintro e W ⟨rfl,hb1⟩
  have hx1:=hx0.low hb1
  have hB1:=hB0.trans (hb1.mono hB0.size)
  clear hx0 hB0 hb1
  have hlow:Low W W.drew:=Below.drew (Below.refl _ _)
  have i0:¬ ((k:Int)<0):=by omega
  go_upto_region 4 with fail
  refine wp_region_noPanic ?_
  refine wp_region_held_drew (S:=fun u=>Low W u) (by kernel_rfl) hlow (fun hHeld=>?_)
  generalize W.drew=wd at hHeld ⊢
  refine Y_t 0 17 _ (.string ⟨s.toArray⟩) rfl (Or.inl ⟨by kernel_rfl,fun u hu=>by kernel_rfl⟩) hHeld ?_
  simp only[Act.put,Y_a,Y_b,Y_c]
  refine Y_t 1 18 _ (.int .i64 (k:Int)) rfl (Or.inl ⟨by kernel_rfl,fun u hu=>by kernel_rfl⟩) hHeld ?_
  simp only[Act.put,Y_a,Y_b,Y_c]
  refine Y_t 2 19 _ (.string ⟨x.toArray⟩) rfl (Or.inl ⟨by kernel_rfl,fun u hu=>ZcX hkl hx (.tmp 17) (.tmp 18) (by kernel_rfl) (by kernel_rfl) (by kernel_rfl)⟩) hHeld ?_
  simp only[Act.put,Y_a,Y_b,Y_c]
  refine Y_t 3 20 _ (.string ⟨s.toArray⟩) rfl (Or.inl ⟨by kernel_rfl,fun u hu=>by kernel_rfl⟩) hHeld ?_
  simp only[Act.put,Y_a,Y_b,Y_c]
  refine Y_t 4 21 _ (.int .i64 (k:Int)) rfl (Or.inl ⟨by kernel_rfl,fun u hu=>by kernel_rfl⟩) hHeld ?_
  simp only[Act.put,Y_a,Y_b,Y_c]
  refine Y_t 5 22 _ (.int .u8 (c.toNat:Int)) rfl (Or.inl ⟨by kernel_rfl,fun u hu=>ZcV hlt hcd (.tmp 20) (.tmp 21) (by kernel_rfl) (by kernel_rfl) (by kernel_rfl)⟩) hHeld ?_
  simp only[Act.put,Y_a,Y_b,Y_c]
  refine Y_t 6 23 _ (.bool (c == 97)) rfl (Or.inl ⟨by kernel_rfl,fun u hu=>ZcU (.tmp 22) (.const (.int .u8 97)) (by kernel_rfl) (by kernel_rfl) (by kernel_rfl) (ZkW c 97)⟩) hHeld ?_
  simp only[Act.put,Y_a,Y_b,Y_c]
  refine Y_e 7 24 _ rfl 339 (.func 339) #[.tmp 19,.tmp 23] #[9,4] (by kernel_rfl) #[] (by kernel_rfl) #[.string ⟨x.toArray⟩,.bool (c == 97)] (by kernel_rfl) (enters_of Tryz.func339 (by kernel_rfl) rfl) (fun v u=>∃ A AN b1,v=.tuple #[.int .i64 A,.int .i64 AN,.bool b1]∧nmP (c == 97) x=(if b1=true then some (A,AN) else none)) ?_ ?_
  ·exact Zhk hHeld hxl
  rintro _ u1 hH1 ⟨A,AN,b1,rfl,hA⟩
  simp only[Act.put,Y_a,Y_b,Y_c]
  refine Y_t 8 16 _ (.tuple #[.int .i64 A,.int .i64 AN,.bool b1]) rfl (Or.inl ⟨by kernel_rfl,fun u hu=>by kernel_rfl⟩) hH1 ?_
  simp only[Act.put,Y_a,Y_b,Y_c]
  refine Y_t 9 25 _ (.int .i64 A) rfl (Or.inl ⟨by kernel_rfl,fun u hu=>by kernel_rfl⟩) hH1 ?_
  simp only[Act.put,Y_a,Y_b,Y_c]
  refine Y_t 10 26 _ (.int .i64 AN) rfl (Or.inl ⟨by kernel_rfl,fun u hu=>by kernel_rfl⟩) hH1 ?_
  simp only[Act.put,Y_a,Y_b,Y_c]
  refine Y_t 11 27 _ (.bool b1) rfl (Or.inl ⟨by kernel_rfl,fun u hu=>by kernel_rfl⟩) hH1 ?_
  simp only[Act.put,Y_a,Y_b,Y_c]
  refine Y_t 12 5 _ (.int .i64 A) rfl (Or.inl ⟨by kernel_rfl,fun u hu=>by kernel_rfl⟩) hH1 ?_
  simp only[Act.put,Y_a,Y_b,Y_c]
  refine Y_t 13 6 _ (.int .i64 AN) rfl (Or.inl ⟨by kernel_rfl,fun u hu=>by kernel_rfl⟩) hH1 ?_
  simp only[Act.put,Y_a,Y_b,Y_c]
  refine Y_t 14 7 _ (.bool b1) rfl (Or.inl ⟨by kernel_rfl,fun u hu=>by kernel_rfl⟩) hH1 ?_
  simp only[Act.put,Y_a,Y_b,Y_c]
  refine wpAnyH_done (by kernel_rfl) ?_ _
  refine NoPanic.normal ?_
  go_upto_region 5 with fail
  refine wp_region_noPanic ?_
  refine wp_region_held_drew (S:=fun u=>Low W u) (by kernel_rfl) (ZfN hH1) (fun hHeld=>?_)
  generalize u1.drew=wd2 at hHeld ⊢
  refine Y_t 0 29 _ (.string ⟨s.toArray⟩) rfl (Or.inl ⟨by kernel_rfl,fun u hu=>by kernel_rfl⟩) hHeld ?_
  simp only[Act.put,Y_a,Y_b,Y_c]
  refine Y_t 1 30 _ (.int .i64 (k:Int)) rfl (Or.inl ⟨by kernel_rfl,fun u hu=>by kernel_rfl⟩) hHeld ?_
  simp only[Act.put,Y_a,Y_b,Y_c]
  refine Y_t 2 31 _ (.int .i64 ((k:Int)+1)) rfl (Or.inl ⟨by kernel_rfl,fun u hu=>ZcS (p:=(k:Int)) (q:=1) (Zmm (by omega) (by omega)) (.tmp 30) (.const (.int .i64 1)) (by kernel_rfl) (by kernel_rfl) (by kernel_rfl)⟩) hHeld ?_
  simp only[Act.put,Y_a,Y_b,Y_c]
  refine Y_t 3 32 _ (.string ⟨y.toArray⟩) rfl (Or.inl ⟨by kernel_rfl,fun u hu=>ZcW hlt hy (.tmp 29) (.tmp 31) (by kernel_rfl) (by kernel_rfl) (by kernel_rfl)⟩) hHeld ?_
  simp only[Act.put,Y_a,Y_b,Y_c]
  refine Y_t 4 33 _ (.string ⟨s.toArray⟩) rfl (Or.inl ⟨by kernel_rfl,fun u hu=>by kernel_rfl⟩) hHeld ?_
  simp only[Act.put,Y_a,Y_b,Y_c]
  refine Y_t 5 34 _ (.int .i64 (k:Int)) rfl (Or.inl ⟨by kernel_rfl,fun u hu=>by kernel_rfl⟩) hHeld ?_
  simp only[Act.put,Y_a,Y_b,Y_c]
  refine Y_t 6 35 _ (.int .u8 (c.toNat:Int)) rfl (Or.inl ⟨by kernel_rfl,fun u hu=>ZcV hlt hcd (.tmp 33) (.tmp 34) (by kernel_rfl) (by kernel_rfl) (by kernel_rfl)⟩) hHeld ?_
  simp only[Act.put,Y_a,Y_b,Y_c]
  refine Y_t 7 36 _ (.bool (c == 100)) rfl (Or.inl ⟨by kernel_rfl,fun u hu=>ZcU (.tmp 35) (.const (.int .u8 100)) (by kernel_rfl) (by kernel_rfl) (by kernel_rfl) (ZkW c 100)⟩) hHeld ?_
  simp only[Act.put,Y_a,Y_b,Y_c]
  refine Y_e 8 37 _ rfl 339 (.func 339) #[.tmp 32,.tmp 36] #[9,4] (by kernel_rfl) #[] (by kernel_rfl) #[.string ⟨y.toArray⟩,.bool (c == 100)] (by kernel_rfl) (enters_of Tryz.func339 (by kernel_rfl) rfl) (fun v u=>∃ A AN b1,v=.tuple #[.int .i64 A,.int .i64 AN,.bool b1]∧nmP (c == 100) y=(if b1=true then some (A,AN) else none)) ?_ ?_
  ·exact Zhk hHeld hyl
  rintro _ u2 hH2 ⟨B,BN,b2,rfl,hB⟩
  simp only[Act.put,Y_a,Y_b,Y_c]
  refine Y_t 9 28 _ (.tuple #[.int .i64 B,.int .i64 BN,.bool b2]) rfl (Or.inl ⟨by kernel_rfl,fun u hu=>by kernel_rfl⟩) hH2 ?_
  simp only[Act.put,Y_a,Y_b,Y_c]
  refine Y_t 10 38 _ (.int .i64 B) rfl (Or.inl ⟨by kernel_rfl,fun u hu=>by kernel_rfl⟩) hH2 ?_
  simp only[Act.put,Y_a,Y_b,Y_c]
  refine Y_t 11 39 _ (.int .i64 BN) rfl (Or.inl ⟨by kernel_rfl,fun u hu=>by kernel_rfl⟩) hH2 ?_
  simp only[Act.put,Y_a,Y_b,Y_c]
  refine Y_t 12 40 _ (.bool b2) rfl (Or.inl ⟨by kernel_rfl,fun u hu=>by kernel_rfl⟩) hH2 ?_
  simp only[Act.put,Y_a,Y_b,Y_c]
  refine Y_t 13 8 _ (.int .i64 B) rfl (Or.inl ⟨by kernel_rfl,fun u hu=>by kernel_rfl⟩) hH2 ?_
  simp only[Act.put,Y_a,Y_b,Y_c]
  refine Y_t 14 9 _ (.int .i64 BN) rfl (Or.inl ⟨by kernel_rfl,fun u hu=>by kernel_rfl⟩) hH2 ?_
  simp only[Act.put,Y_a,Y_b,Y_c]
  refine Y_t 15 10 _ (.bool b2) rfl (Or.inl ⟨by kernel_rfl,fun u hu=>by kernel_rfl⟩) hH2 ?_
  simp only[Act.put,Y_a,Y_b,Y_c]
  refine wpAnyH_done (by kernel_rfl) ?_ _
  refine NoPanic.normal ?_
  have hx2:=hx1.low hH2
  have hB2:=hB1.trans (Below.mono hH2 hB1.size)
  obtain⟨c0,c1,c2,c3,c4⟩:=hx2.cells
  have f0:=hx2.frozen 0
  have f1:=hx2.frozen 1
  have f2:=hx2.frozen 2
  have f3:=hx2.frozen 3
  have f4:=hx2.frozen 4
  have hP:=hx2.putH5 A AN B BN [] (.slice none 0 0)
  have hBP:=ZbG hB2 (.int .i64 A) (.int .i64 AN) (.int .i64 B) (.int .i64 BN) (.slice none 0 0)
  have HD:=HC.out A AN B BN b1 b2 hA hB
  clear HC hA hB hx hy hcd
  cases b1 with
  | true =>
   go_wp2
   refine bodyPost_ret (Zha _ _ _ _ _ hP rfl rfl) rfl ⟨?_,hBP⟩
   simpa using HD
  | false =>
   go_wp2
   refine bodyPost_ret (Zha _ _ _ _ _ hP rfl rfl) rfl ⟨?_,hBP⟩
   simpa using HD
end

end Go.Proofs.YtcniomgjikienaaGreatDoor
