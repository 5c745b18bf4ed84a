/-
  Texts that belong together, joined: UkI, UkJ, UkM, UkP.
-/
import Derived.Test.YtgiojkhmkeocfaaGreatDoorUnAgrA17

set_option maxHeartbeats 16000000
set_option maxRecDepth 100000
namespace Go.Proofs.YtgiojkhmkeocfaaGreatDoor

section
open Go.RowKit Go.Proofs.YtgiojkhmkeocfaaGreatDoor.Tx
attribute [local go_sem] ByteArray.extract_mk ZvA
theorem ZtB {R:Nat} {L:List (List UInt8)} {lo:Option Addr} {lc:Nat} {p k:Nat} (hk:k≤4096) (w:World) (q:Uk w R (.slice lo L.length lc) p) (HLs:Hid (∀ u,w.grownBy u (some R)→HS u (.slice lo L.length lc) L)) (HPl:Hid (Plain L)) (hp:p≤L.length) (hLl:L.length≤137438953472) (HSl:Hid (∀ s∈L,s.length≤1099511627)) (hm:Mxl w)
  (X:Except (Nat × Int) (Hk × Nat × List (List UInt8))) (HX:Hid (uhkP k p (L.drop p)=X)) :
  Calls Tryz.prog 117 #[.pointer (some ⟨R,0,none⟩),.int .i64 (k:Int)] w fun e w'=>HkY R (.slice lo L.length lc) X w e w':=by
 have hRl:=q.lt
 obtain⟨W0,hW0⟩:∃ u,w.alloc (hkO zhk (.slice none 0 0))=u:=⟨_,rfl⟩
 have hB0:Below w.heap.size w W0:=(by rw[← hW0];exact (Below.refl _ w).alloc (Nat.le_refl _) _)
 have hx0:Hx W0 w.heap.size zhk (.slice none 0 0):=(by rw[← hW0];exact Hx.new w _ _)
 have q0:=q.low hB0
 have hm0:=hm.low hB0
 have HG0:Hid (∀ u,W0.grownBy u (some R)→w.grownBy u (some R)):=fun u hu=>Zhe (ZkI hB0 _) hu
 have HL0:Hid (∀ u,W0.grownBy u (some R)→HS u (.slice lo L.length lc) L):=fun u hu=>HLs.out u (HG0.out u hu)
 obtain⟨Y,hY⟩:∃ Y,uheadP k p (L.drop p)=Y:=⟨_,rfl⟩
 have hl:=Ztq hk W0 q0 HL0 hp (by omega) HSl hm0 Y hY
 have hX:=HX.out
 rw[Zts,hY] at hX
 clear HX hm hm0
 unfold hkO zhk at hW0
 dsimp only at hW0
 cases Y with
 | error z =>
  obtain⟨z1,e1⟩:=z
  dsimp only at hX
  subst hX
  go_enter Tryz.func117,Tryz.ntmps117
  go_wp2_with fail
  refine hl.mono ?_
  rintro x w1 ⟨⟨g,rfl,hg⟩,hgr⟩
  go_wp2
  exact⟨rfl,⟨_,rfl,hg⟩,HG0.out _ hgr⟩
 | ok z =>
  obtain⟨⟨A,AN,B,BN⟩,r⟩:=z
  dsimp only at hX
  have hd:0≤AN∧AN≤2147483647∧0≤BN∧BN≤2147483647∧r=L.drop (p+1)∧p<L.length:=(by
   unfold uheadP at hY
   cases hn:nxt p (L.drop p) with
   | error e=>rw[hn] at hY;cases hY
   | ok z =>
    obtain⟨s,r0⟩:=z
    obtain⟨h1,h2,_⟩:=Znf hn
    rw[hn] at hY
    dsimp only at hY
    cases hu:uhdP s with
    | none=>rw[hu] at hY;cases hY
    | some z =>
     obtain⟨A',AN',B',BN'⟩:=z
     rw[hu] at hY
     dsimp only at hY
     obtain⟨u1,u2⟩:=Ztp hu
     split at hY
     ·cases hY
     ·split at hY
      ·cases hY
      ·cases hY
       exact⟨by omega,by omega,by omega,by omega,h1,h2⟩)
  obtain⟨d1,d2,d3,d4,rfl,hpl⟩:=hd
  obtain⟨a,rfl⟩:∃ a:Nat,AN=a:=⟨AN.toNat,by omega⟩
  obtain⟨b,rfl⟩:∃ b:Nat,BN=b:=⟨BN.toNat,by omega⟩
  simp only[Int.toNat_natCast] at hX
  obtain⟨Y2,hY2⟩:∃ Y2,urdP (a+b) a b (p+1) (L.drop (p+1))=Y2:=⟨_,rfl⟩
  rw[hY2] at hX
  have hl2:Calls Tryz.prog 171 #[.pointer (some ⟨R,0,none⟩),.int .i64 (k:Int)] W0 fun e w'=>e=.returned (.agg #[.int .i64 A,.int .i64 (a:Int),.int .i64 B,.int .i64 (b:Int),.slice none 0 0])∧Uk w' R (.slice lo L.length lc) ((p+1:Nat):Int)∧W0.grownBy w' (some R):=hl
  clear hl hY
  go_enter Tryz.func117,Tryz.ntmps117
  go_wp2_with fail
  refine hl2.mono ?_
  rintro e W1 ⟨rfl,q1,g1⟩
  have gw1:=HG0.out _ g1
  have hx1:=hx0.keep g1 (fun e=>by have:=Option.some.inj e;omega)
  have hsz1:=hx1.lt
  clear hW0 hB0 hx0 q0 hl2 HL0 HG0 g1
  have hU3:Uz w R W1.heap.size (W1.heap.size+1) (.slice lo L.length lc) A (a:Int) B (b:Int) (.slice none 0 0) [] a b (p+1) ((W1.alloc (hkO ⟨A,(a:Int),B,(b:Int),[]⟩ (.slice none 0 0))).alloc (ctO a b)):=(by
   have hB1:Below W1.heap.size W1 (W1.alloc (hkO ⟨A,(a:Int),B,(b:Int),[]⟩ (.slice none 0 0))):=(Below.refl _ W1).alloc (Nat.le_refl _) _
   have hB2:Below W1.heap.size W1 ((W1.alloc (hkO ⟨A,(a:Int),B,(b:Int),[]⟩ (.slice none 0 0))).alloc (ctO a b)):=hB1.alloc hB1.size _
   refine⟨Zhe gw1 (ZkI hB2 _),hx1.low hB2,?_,?_,World.ownsRow_nil _ _ _ _,q1.low hB2,hsz1,by omega,hRl⟩
   ·exact (Below.heap_alloc _ _ _ (by simp)).trans (Hx.new W1 _ _)
   ·have:=heap_alloc_new (W1.alloc (hkO ⟨A,(a:Int),B,(b:Int),[]⟩ (.slice none 0 0))) (ctO a b)
    simpa using this)
  unfold hkO ctO at hU3
  dsimp only at hU3
  obtain⟨r0,r1⟩:=(q1.low ((Below.refl _ W1).alloc (Nat.le_refl _) (.cells #[.int .i64 A,.int .i64 (a:Int),.int .i64 B,.int .i64 (b:Int),.slice none 0 0] 59))).cells
  go_wp2
  have e1:((p+1:Nat):Int)=(p:Int)+1:=by omega
  have HY0:Hid (thenM [] (urdP (a+b) a b (p+1) (L.drop (p+1)))=Y2):=(by show _=_;rw[ZsH,hY2])
  have HXX:Hid (outU p A (a:Int) B (b:Int) Y2=X):=hX
  clear hX hY2 r0 r1 hx1 q1
  generalize (W1.alloc (.cells #[.int .i64 A,.int .i64 (a:Int),.int .i64 B,.int .i64 (b:Int),.slice none 0 0] 59)).alloc (.cells #[.int .i64 (a:Int),.int .i64 (b:Int)] 230)=W3 at hU3 ⊢
  generalize W1.heap.size=T at hU3 hsz1 ⊢
  go_loopw [] (fun wr=>∃ (l:List Mk) (v:Value) (a' b' pn n:Nat),Uz w R T (T+1) (.slice lo L.length lc) A (a:Int) B (b:Int) v l a' b' pn wr∧a'+b'≤n∧pn≤L.length∧a'≤2147483647∧b'≤2147483647∧l.length≤pn∧Hid (thenM l (urdP n a' b' pn (L.drop pn))=Y2)) (fun wr=>L.length-ukN wr R)
  case atStart=>exact⟨[],.slice none 0 0,a,b,p+1,a+b,hU3,Nat.le_refl _,by omega,by omega,by omega,Nat.zero_le _,HY0⟩
  case round =>
  clear HY0 hU3 gw1
  obtain⟨l,v,a',b',pn,n,hU,hn,hpn,ha',hb',hll,HI⟩:=hrel
  have HK:Hid (ukN wr R=pn):=ZtE hU.ck
  obtain⟨l0,l1,f0,f1⟩:=hU.left
  have heq:=Zek (a':Int) (b':Int) 0 0
  have hgd:Tryz.prog.eqGuardType Tryz.prog.depth 230=false:=by kernel_rfl
  by_cases h0:a'+b'=0
  ·have e2:(!((a':Int) == 0 && (b':Int) == 0))=false:=(by
    have x1:((a':Int) == 0)=true:=beq_iff_eq.2 (by omega)
    have x2:((b':Int) == 0)=true:=beq_iff_eq.2 (by omega)
    rw[x1,x2]
    rfl)
   rw[e2] at heq
   have hE:=HI.out
   rw[Zul n h0] at hE
   subst hE
   have hX:=HXX.out
   dsimp only[outU] at hX
   have hcc:=ZbN 173 #[] l (fun m=>m.sg != 32) v wr (holds_of hU.own) (by omega) (enters_of Tryz.func173 (by kernel_rfl) rfl) (fun m _ u _=>ZtC m u) (!smB l) (by show _=_;exact Zbb l)
   obtain⟨vo,vc,rfl⟩:=(holds_of hU.own).form
   have h4:=hU.bh.cells.2.2.2.2
   obtain⟨sm,hsm⟩:∃ z,smB l=z:=⟨_,rfl⟩
   rw[hsm] at hX hcc
   clear HXX HI hsm e2
   cases sm with
   | true =>
    rw[if_pos rfl] at hX
    subst hX
    go_wp2_with fail
    refine hcc.mono ?_
    rintro e w1 ⟨rfl,hB1⟩
    have hgr1:=hU.gr
    go_wp2_with fail
    refine (Zur ((p:Int)+1) 50 w1).mono ?_
    rintro x w2 ⟨⟨g,rfl,hg⟩,hb⟩
    go_wp2
    exact⟨rfl,⟨_,rfl,by simpa using hg⟩,Zhe hgr1 (ZkI (hB1.trans (hb.mono hB1.size)) _)⟩
   | false =>
    rw[if_neg (by decide)] at hX
    subst hX
    go_wp2_with fail
    refine hcc.mono ?_
    rintro e w1 ⟨rfl,hB1⟩
    have hU1:=hU.keep hB1
    clear h4 l0 l1 f0 f1 heq hgd hcc hU
    obtain⟨z0,z1,z2,z3,z4⟩:=hU1.bh.cells
    dsimp only at z0 z1 z2 z3
    obtain⟨y0,y1,y2,y3,y4⟩:=hU1.bg.cells
    dsimp only[zhk] at y0 y1 y2 y3
    have yf0:=hU1.bg.frozen 0
    have yf1:=hU1.bg.frozen 1
    have yf2:=hU1.bg.frozen 2
    have yf3:=hU1.bg.frozen 3
    have yf4:=hU1.bg.frozen 4
    have hvb:(Value.slice vo l.length vc).ownBlock≠some w.heap.size:=ZnB hU1.own hU1.bg (by decide)
    have fo:(five w1 w.heap.size A (a:Int) B (b:Int) (.slice vo l.length vc)).ownsRow w.heap.size 103 2 (.slice vo l.length vc) l.length (mkcells l):=((((hU1.own.kept (Zhd _ _ 0 _) (.inr hvb)).kept (Zhd _ _ 1 _) (.inr hvb)).kept (Zhd _ _ 2 _) (.inr hvb)).kept (Zhd _ _ 3 _) (.inr hvb)).kept (Zhd _ _ 4 _) (.inr hvb)
    have fh:=Zgr hU1.bg A (a:Int) B (b:Int) (.slice vo l.length vc)
    have fq:=Zgu hU1.ck (by omega:R≠w.heap.size) A (a:Int) B (b:Int) (.slice vo l.length vc)
    have fg:=Zgq hU1.gr (Nat.le_refl _) A (a:Int) B (b:Int) (.slice vo l.length vc)
    unfold five at fo fh fq fg
    clear hU1 hB1 hvb
    go_wp2
    exact bodyPost_ret (v:=hkV ⟨A,(a:Int),B,(b:Int),l⟩ (.slice vo l.length vc)) (results_cell_row rfl _ _ w.heap.size 59 #[.int .i64 A,.int .i64 (a:Int),.int .i64 B,.int .i64 (b:Int),.slice vo l.length vc] (0,0) _ rfl fh Tryz.underlying59 rfl (by kernel_rfl)) rfl ⟨_,rfl,fo,fq,fg⟩
  ·have e2:(!((a':Int) == 0 && (b':Int) == 0))=true:=(by
    cases hq:((a':Int) == 0 && (b':Int) == 0) with
    | false=>rfl
    | true =>
     rw[Bool.and_eq_true,beq_iff_eq,beq_iff_eq] at hq
     omega)
   rw[e2] at heq
   obtain⟨n',rfl⟩:∃ n',n=n'+1:=⟨n-1,by omega⟩
   have hI:=HI.out
   rw[Zun n' h0] at hI
   obtain⟨Z,hZ⟩:∃ Z,ulnP a' b' pn (L.drop pn)=Z:=⟨_,rfl⟩
   rw[hZ] at hI
   have hB1:Below wr.heap.size wr (wr.alloc mk0):=(Below.refl _ wr).alloc (Nat.le_refl _) _
   have hU1:=hU.keep hB1
   have hS1:=heap_alloc_new wr mk0
   have hmk:=ZtP a' b' (wr.alloc mk0) hU1.ck (fun u hu=>HLs.out u (Zhe hU1.gr hu)) HPl.out hpn (by omega) (fun s h=>by have:=HSl.out s h;omega) ha' hb' Z hZ
   have HVb:Hid (v.ownBlock≠some wr.heap.size):=(by
    intro e
    have:=ZnL hU.own e
    omega)
   obtain⟨vo,vc,rfl⟩:=(holds_of hU.own).form
   unfold mk0 at hU1 hS1 hmk
   obtain⟨j0,j1,_,_⟩:=hU1.left
   clear HI hB1 hU e2
   cases Z with
   | error z =>
    obtain⟨z1,e1'⟩:=z
    dsimp only at hI
    subst hI
    have hX:=HXX.out
    dsimp only[outU] at hX
    subst hX
    have hgr1:=hU1.gr
    clear HXX hZ
    go_wp2_with fail
    refine hmk.mono ?_
    rintro x w1 ⟨⟨g,rfl,hg⟩,hgr⟩
    go_wp2
    exact⟨rfl,⟨_,rfl,hg⟩,Zhe hgr1 hgr⟩
   | ok z =>
    obtain⟨m,p1,r⟩:=z
    dsimp only at hI
    have hdr:=ZtK HPl.out hZ
    obtain⟨rfl,t1,t2,t3,t4,t5⟩:=hdr
    have HI2:Hid (thenM (l++[m]) (urdP n' (a'-sgO m) (b'-sgN m) p1 (L.drop p1))=Y2):=hI
    have hmk2:Calls Tryz.prog 172 #[.pointer (some ⟨R,0,none⟩),.agg #[.int .i64 (a':Int),.int .i64 (b':Int)]] (wr.alloc (.cells #[.int .u8 0,.string ⟨#[]⟩] 103)) fun e w'=>e=.returned (.tuple #[.agg #[.int .u8 m.sg,.string ⟨m.tx.toArray⟩],.agg #[.int .i64 ((a'-sgO m:Nat):Int),.int .i64 ((b'-sgN m:Nat):Int)]])∧Uk w' R (.slice lo L.length lc) (p1:Int)∧(wr.alloc (.cells #[.int .u8 0,.string ⟨#[]⟩] 103)).grownBy w' (some R):=hmk
    clear hI hZ hmk HXX
    generalize ha2:a'-sgO m=a2 at hmk2 HI2
    generalize hb2:b'-sgN m=b2 at hmk2 HI2
    go_wp2_with fail
    refine hmk2.mono ?_
    rintro e w2 ⟨rfl,q2,g2⟩
    have hU2:=hU1.call g2 q2
    have hSR:wr.heap.size≠R:=(by have:=hU1.rl;have:=hU1.gr.size;have:=hU1.cl;have:=hU1.tl;have:=(Array.getElem?_eq_some_iff.1 hU1.bl).1;simp at this;omega)
    have hS2:=(g2.block wr.heap.size (Array.getElem?_eq_some_iff.1 hS1).1 (fun e=>hSR (Option.some.inj e))).trans hS1
    have hCS:T+1<wr.heap.size:=(by
     have h1:=(Array.getElem?_eq_some_iff.1 hU1.bl).1
     have h2:T+1≠wr.heap.size:=(by
      intro e
      have h3:=hU1.bl
      rw[e,hS1] at h3
      simp[ctO] at h3)
     simp at h1
     omega)
    clear hU1 hS1 g2 q2 hmk2
    generalize wr.heap.size=S at *
    obtain⟨y0,y1⟩:w2.cell? ⟨S,0,none⟩=some (.int .u8 0)∧w2.cell? ⟨S,1,none⟩=some (.string ⟨#[]⟩):=⟨by rw[Lib.cell_of_heap hS2];rfl,by rw[Lib.cell_of_heap hS2];rfl⟩
    have yf0:w2.frozen? ⟨S,0,none⟩=false:=Lib.frozen_of_heap hS2 0
    have yf1:w2.frozen? ⟨S,1,none⟩=false:=Lib.frozen_of_heap hS2 1
    have hU3:=hU2.other hS2 (.inr HVb.out) hCS 0 (.int .u8 m.sg)
    have hS3:=heap_setCell_same _ S 0 _ _ (.int .u8 m.sg) hS2
    have hU4:=hU3.other hS3 (.inr HVb.out) hCS 1 (.string ⟨m.tx.toArray⟩)
    have hS4:=heap_setCell_same _ S 1 _ _ (.string ⟨m.tx.toArray⟩) hS3
    obtain⟨l0',l1',f0',f1'⟩:=hU4.left
    have hU5:=(hU4.setA a2).setB b2
    have hS5:((((w2.setCell ⟨S,0,none⟩ (.int .u8 m.sg)).setCell ⟨S,1,none⟩ (.string ⟨m.tx.toArray⟩)).setCell ⟨T+1,0,none⟩ (.int .i64 (a2:Int))).setCell ⟨T+1,1,none⟩ (.int .i64 (b2:Int))).heap[S]?=some (.cells #[.int .u8 m.sg,.string ⟨m.tx.toArray⟩] 103):=(Below.heap_setCell _ _ _ S (show S≠T+1 by omega)).trans ((Below.heap_setCell _ _ _ S (show S≠T+1 by omega)).trans hS4)
    go_upto_region 7 with fail
    clear hU2 hU3 hU4 hS2 hS3 hS4 y0 y1 yf0 yf1 l0' l1' f0' f1' l0 l1 f0 f1 j0 j1 heq hgd
    generalize (((w2.setCell ⟨S,0,none⟩ (.int .u8 m.sg)).setCell ⟨S,1,none⟩ (.string ⟨m.tx.toArray⟩)).setCell ⟨T+1,0,none⟩ (.int .i64 (a2:Int))).setCell ⟨T+1,1,none⟩ (.int .i64 (b2:Int))=W5 at hU5 hS5 ⊢
    have s0:W5.cell? ⟨S,0,none⟩=some (.int .u8 m.sg):=(by rw[Lib.cell_of_heap hS5];rfl)
    have s1:W5.cell? ⟨S,1,none⟩=some (.string ⟨m.tx.toArray⟩):=(by rw[Lib.cell_of_heap hS5];rfl)
    have h4:=hU5.bh.cells.2.2.2.2
    have hU6:=hU5.keep ((Below.refl _ W5).alloc (Nat.le_refl _) (mkO m))
    have hrow:=ZlD W5 m
    have hown6:=hU6.own
    have hlow6:=hU6.gr.size
    have hW:W5.alloc (.cells #[.int .u8 m.sg,.string ⟨m.tx.toArray⟩] 103)=W5.alloc (mkO m):=rfl
    clear hU5 hS5
    go_wp2_with (at_builtin;refine ZuZ _ (by kernel_rfl) (.tmp 31) (.tmp 33) 57 103 (.agg #[.int .u8 0,.string ⟨#[]⟩]) 2 24 rfl Tryz.underlying57 infoMk rfl (by decide) (by decide) w.heap.size _ _ _ rfl hown6 _ 1 (mkcells [m]) rfl hrow (ZlK _) (ZlL _) (by omega) hlow6 ?_)
    intro v3 u3 hown3 hg3 _
    obtain⟨hU7,x1,x2⟩:=hU6.more hg3 hown3
    obtain⟨o3,c3,rfl⟩:=(holds_of hown3).form
    clear hW hrow hown6 hown3 hg3 hU6 s0 s1 h4
    go_wp2
    refine⟨⟨l++[m],_,a2,b2,p1,n',hU7,by omega,t2,by omega,by omega,by rw[List.length_append];simp only[List.length_cons,List.length_nil];omega,HI2⟩,?_⟩
    rw[ZtE hU7.ck,HK.out]
    omega
end

section
open Go.RowKit
theorem Ztt {k p:Nat} {L r:List (List UInt8)} {h:Hk} {p1:Nat} (hP:Plain L) (hh:uhkP k p (L.drop p)=.ok (h,p1,r)):r=L.drop p1∧p<p1∧p1≤L.length∧k<4096:=by
 have hP2:Plain (L.drop p):=fun s hs=>hP s (List.mem_of_mem_drop hs)
 obtain⟨_,_,a3,a4,a5⟩:=Ztv hP2 hh
 rw[List.length_drop] at a3 a4
 have key:∀ (n a b q:Nat) (l:List Mk) (q1:Nat) (r1:List (List UInt8)),urdP n a b q (L.drop q)=.ok (l,q1,r1)→r1=L.drop q1:=by
  intro n
  induction n with
  | zero =>
   intro a b q l q1 r1 h
   simp only[urdP] at h
   cases h
   rfl
  | succ n ih =>
   intro a b q l q1 r1 h
   simp only[urdP] at h
   split at h
   ·cases h
    rfl
   ·split at h
    ·cases h
    ·rename_i m q2 r2 h2
     obtain⟨e,_⟩:=ZtK hP h2
     subst e
     split at h
     ·cases h
     ·rename_i l3 q3 r3 h3
      have:=ih _ _ _ _ _ _ h3
      cases h
      exact this
 refine⟨?_,by omega,by omega,a5⟩
 unfold uhkP at hh
 split at hh
 ·cases hh
 ·rename_i s r0 hn
  obtain⟨e,_⟩:=Znf hn
  subst e
  split at hh
  ·cases hh
  ·split at hh
   ·cases hh
   ·split at hh
    ·cases hh
    ·split at hh
     ·cases hh
     ·rename_i l q1 r1 h1
      have:=key _ _ _ _ _ _ _ h1
      split at hh
      ·cases hh
      ·cases hh
       exact this
def conU (f k p:Nat) (r:List (List UInt8)):Except (Nat × Int) (List Hk × Nat × List (List UInt8)):=if pkU atC r=true then uhsP atC f k p r else .ok ([],p,r)
theorem ZtA (f k p:Nat) (ls:List (List UInt8)) (l:List Hk):thenX l (uhsP atC (f+1) k p ls)=match uhkP k p ls with
  | .error e=>.error e
  | .ok (h,p1,r)=>thenX (l++[h]) (conU f (k+1) p1 r):=by
 simp only[uhsP]
 cases uhkP k p ls with
 | error e=>rfl
 | ok z =>
  obtain⟨h,p1,r⟩:=z
  dsimp only
  unfold conU
  split
  ·cases uhsP atC f (k+1) p1 r with
   | error e=>rfl
   | ok z=>simp[thenX]
  ·simp[thenX]
def lefU (P:List (Hk × Value)) (f p:Nat) (r:List (List UInt8)):Except (Nat × Int) (List Hk × Nat × List (List UInt8)):=thenX (P.map (·.1)) (if P=[] then uhsP atC f 0 p r else conU f P.length p r)
def patU (k p:Nat) (ls:List (List UInt8)):Except (Nat × Int) (Pth × Nat × List (List UInt8)) :=
 match namP [45,45,45,32] p ls with
 | .error e=>.error e
 | .ok (n1,r1)=>if 64≤k then .error (p+1,9) else match namP [43,43,43,32] (p+1) r1 with
  | .error e=>.error e
  | .ok (n2,r2)=>match uhsP atC (r2.length+1) 0 (p+2) r2 with
   | .error e=>.error e
   | .ok (hs,p3,r3)=>.ok (⟨n1,n2,hs⟩,p3,r3)
theorem Zuf (f k p:Nat) (ls:List (List UInt8)):upsP atC (f+1) k p ls=if ls=[] then .ok [] else match patU k p ls with
  | .error e=>.error e
  | .ok (x,p3,r3)=>match upsP atC f (k+1) p3 r3 with
   | .error e=>.error e
   | .ok l=>.ok (x::l):=by
 simp only[upsP]
 split
 ·rfl
 ·unfold patU
  cases namP [45,45,45,32] p ls with
  | error e=>rfl
  | ok z =>
   obtain⟨n1,r1⟩:=z
   dsimp only
   split
   ·rfl
   ·cases namP [43,43,43,32] (p+1) r1 with
    | error e=>rfl
    | ok z =>
     obtain⟨n2,r2⟩:=z
     dsimp only
     cases uhsP atC (r2.length+1) 0 (p+2) r2 with
     | error e=>rfl
     | ok z=>rfl
structure Pzu (wb:World) (R S:Nat) (vL:Value) (n1 n2:List UInt8) (hv:Value) (P:List (Hk × Value)) (p:Nat) (u:World):Prop where
 gr:wb.grownBy u (some R)
 box:u.heap[S]?=some (.cells #[.string ⟨n1.toArray⟩,.string ⟨n2.toArray⟩,hv] 55)
 own:u.ownsRow wb.heap.size 59 5 hv P.length (hkcells P)
 ins:∀ x∈P,u.ownsRow wb.heap.size 103 2 x.2 x.1.ls.length (mkcells x.1.ls)
 ck:Uk u R vL (p:Int)
 ge:wb.heap.size≤S
 rl:R<wb.heap.size
section
variable {wb u u':World} {R S:Nat} {vL hv:Value} {n1 n2:List UInt8} {P:List (Hk × Value)} {p p':Nat}
theorem Pzu.keep (h:Pzu wb R S vL n1 n2 hv P p u) (hb:Below u.heap.size u u'):Pzu wb R S vL n1 n2 hv P p u':=⟨Zhe h.gr (ZkI hb _),(hb.block S (Array.getElem?_eq_some_iff.1 h.box).1).trans h.box,ZnI h.own hb,fun x hx=>ZnI (h.ins x hx) hb,h.ck.low hb,h.ge,h.rl⟩
theorem Pzu.ne (h:Pzu wb R S vL n1 n2 hv P p u):R≠S:=by have h1:=h.ge;have h2:=h.rl;omega
theorem Pzu.call (h:Pzu wb R S vL n1 n2 hv P p u) (hg:u.grownBy u' (some R)) (q:Uk u' R vL (p':Int)):Pzu wb R S vL n1 n2 hv P p' u':=⟨Zhe h.gr hg,(hg.block S (Array.getElem?_eq_some_iff.1 h.box).1 (fun e=>h.ne (Option.some.inj e).symm)).trans h.box,ZnG h.own hg h.rl,fun x hx=>ZnG (h.ins x hx) hg h.rl,q,h.ge,h.rl⟩
theorem Pzu.next (h:Pzu wb R S vL n1 n2 hv P p u):Pzu wb R S vL n1 n2 hv P (p+1) (u.setCell ⟨R,1,none⟩ (.int .i64 ((p:Int)+1))):=h.call (Zhd u R 1 _) (by have:=h.ck.at ((p:Int)+1);simpa using this)
theorem Pzu.cells (h:Pzu wb R S vL n1 n2 hv P p u):u.cell? ⟨S,0,none⟩=some (.string ⟨n1.toArray⟩)∧u.cell? ⟨S,1,none⟩=some (.string ⟨n2.toArray⟩)∧u.cell? ⟨S,2,none⟩=some hv:=by
 refine⟨?_,?_,?_⟩<;>rw[Lib.cell_of_heap h.box]<;>rfl
theorem Pzu.frozen (h:Pzu wb R S vL n1 n2 hv P p u) (j:Nat):u.frozen? ⟨S,j,none⟩=false:=Lib.frozen_of_heap h.box j
theorem Pzu.put (h:Pzu wb R S vL n1 n2 hv P p u) (j:Nat) (z:Value) {m1 m2:List UInt8} {hv':Value} (hc:#[Value.string ⟨n1.toArray⟩,.string ⟨n2.toArray⟩,hv].setIfInBounds j z=#[.string ⟨m1.toArray⟩,.string ⟨m2.toArray⟩,hv']) (ho:u.ownsRow wb.heap.size 59 5 hv' P.length (hkcells P)):Pzu wb R S vL m1 m2 hv' P p (u.setCell ⟨S,j,none⟩ z):=by
 have hg:=Zhd u S j z
 refine⟨Zhc h.gr h.ge j z,?_,ho.kept hg (.inr (ZnB ho h.box (by decide))),fun x hx=>(h.ins x hx).kept hg (.inr (ZnB (h.ins x hx) h.box (by decide))),h.ck.keep hg (fun e=>h.ne (Option.some.inj e)),h.ge,h.rl⟩
 have:=heap_setCell_same u S j _ _ z h.box
 rw[hc] at this
 exact this
theorem Pzu.more (h:Pzu wb R S vL n1 n2 hv P p u) {x:Hk} {y hv':Value} (hy:u.ownsRow wb.heap.size 103 2 y x.ls.length (mkcells x.ls)) (hg:u.grownBy u' hv.ownBlock) (ho:u'.ownsRow wb.heap.size 59 5 hv' (P.length+1) (hkcells P++hkC x y)) :
  Pzu wb R S vL n1 n2 hv' (P++[(x,y)]) p (u'.setCell ⟨S,2,none⟩ hv')∧u'.cell? ⟨S,2,none⟩=some hv∧u'.frozen? ⟨S,2,none⟩=false:=by
 have hge:∀ j,hv.ownBlock=some j→wb.heap.size≤j:=fun j hj=>ZnH h.own hj
 have hb:u'.heap[S]?=some (.cells #[.string ⟨n1.toArray⟩,.string ⟨n2.toArray⟩,hv] 55):=(hg.block S (Array.getElem?_eq_some_iff.1 h.box).1 (fun e=>ZnB h.own h.box (by decide) e.symm)).trans h.box
 have hgR:wb.grownBy u' (some R):=⟨hg.os.trans h.gr.os,hg.tape.trans h.gr.tape,hg.output.trans h.gr.output,Nat.le_trans h.gr.size hg.size,fun k h1 h2=>(hg.block k (Nat.lt_of_lt_of_le h1 h.gr.size) (fun e=>by have:=hge k e.symm;omega)).trans (h.gr.block k h1 h2)⟩
 have hck:Uk u' R vL (p:Int):=h.ck.keep hg (fun e=>by have:=hge R e.symm;have:=h.rl;omega)
 have key:∀ {v:Value} {n:Nat} {xs:List Value},u.ownsRow wb.heap.size 103 2 v n xs→u'.ownsRow wb.heap.size 103 2 v n xs:=by
  intro v n xs hv2
  refine⟨hv2.1,?_⟩
  rcases hv2.2 with q | ⟨b,cap,cur,rfl,q2,q3,q4⟩
  ·exact .inl q
  ·refine .inr ⟨b,cap,cur,rfl,q2,?_,q4⟩
   rw[hg.block b (Array.getElem?_eq_some_iff.1 q3).1 (fun e=>ZnB h.own q3 (by decide) e.symm)]
   exact q3
 have hg2:=Zhd u' S 2 hv'
 have hkc:hkcells (P++[(x,y)])=hkcells P++hkC x y:=by rw[ZhV];simp[hkcells,hkC]
 refine⟨⟨Zhc hgR h.ge 2 hv',heap_setCell_same u' S 2 _ _ hv' hb,?_,?_,hck.keep hg2 (fun e=>h.ne (Option.some.inj e)),h.ge,h.rl⟩,by rw[Lib.cell_of_heap hb];rfl,Lib.frozen_of_heap hb 2⟩
 ·rw[List.length_append,hkc]
  exact ho.kept hg2 (.inr (ZnB ho hb (by decide)))
 ·intro z hz
  rcases List.mem_append.1 hz with hz | hz
  ·exact (key (h.ins z hz)).kept hg2 (.inr (ZnB (key (h.ins z hz)) hb (by decide)))
  ·rw[List.mem_singleton.1 hz]
   exact (key hy).kept hg2 (.inr (ZnB (key hy) hb (by decide)))
end
end

section
open Go.RowKit
theorem ZtF {P:List (Hk × Value)} {f p:Nat} {r:List (List UInt8)} (h:(decide (P=[]) || pkU atC r)=true):lefU P (f+1) p r=match uhkP P.length p r with
  | .error e=>.error e
  | .ok (x,p1,r1)=>thenX (P.map (·.1)++[x]) (conU f (P.length+1) p1 r1):=by
 unfold lefU
 by_cases hP:P=[]
 ·rw[if_pos hP,ZtA,hP]
  rfl
 ·rw[if_neg hP]
  have hk:pkU atC r=true:=by simpa [hP] using h
  unfold conU
  rw[if_pos hk,ZtA]
  rfl
theorem ZtH {P:List (Hk × Value)} {f p:Nat} {r:List (List UInt8)} (h:(decide (P=[]) || pkU atC r)=false):lefU P f p r=.ok (P.map (·.1),p,r):=by
 rw[Bool.or_eq_false_iff,decide_eq_false_iff_not] at h
 unfold lefU conU
 rw[if_neg h.1,if_neg (by rw[h.2];decide)]
 simp[thenX]
theorem ZtG {P:List (Hk × Value)} {f p:Nat} {r:List (List UInt8)} (x:Hk) (y:Value):lefU (P++[(x,y)]) f p r=thenX (P.map (·.1)++[x]) (conU f (P.length+1) p r):=by
 unfold lefU
 rw[if_neg (by simp),List.map_append,List.length_append]
 rfl
def PtU (R:Nat) (vL:Value) (X:Except (Nat × Int) (Pth × Nat × List (List UInt8))) (w:World) (e:Ending) (w':World):Prop :=
 match X with
 | .error (a,z)=>Thr (a:Int) z e w'∧w.grownBy w' (some R)
 | .ok (x,p1,_)=>∃ hv P,e=.returned (.agg #[.string ⟨x.old.toArray⟩,.string ⟨x.new.toArray⟩,hv])∧x.hs=P.map (·.1)∧w'.ownsRow w.heap.size 59 5 hv P.length (hkcells P)∧(∀ y∈P,w'.ownsRow w.heap.size 103 2 y.2 y.1.ls.length (mkcells y.1.ls))∧Uk w' R vL (p1:Int)∧w.grownBy w' (some R)
theorem Zuq {w wb u:World} {R S:Nat} {vL hv:Value} {n1 n2:List UInt8} {P:List (Hk × Value)} {p:Nat} (h:Pzu wb R S vL n1 n2 hv P p u) (hG:∀ u,wb.grownBy u (some R)→w.grownBy u (some R)) (hZ:wb.heap[w.heap.size]?=some zpO∧w.heap.size<wb.heap.size∧w.heap.size≠R) :
  (three u w.heap.size n1 n2 hv).heap[w.heap.size]?=some (.cells #[.string ⟨n1.toArray⟩,.string ⟨n2.toArray⟩,hv] 55)∧(three u w.heap.size n1 n2 hv).ownsRow w.heap.size 59 5 hv P.length (hkcells P)∧(∀ y∈P,(three u w.heap.size n1 n2 hv).ownsRow w.heap.size 103 2 y.2 y.1.ls.length (mkcells y.1.ls))∧Uk (three u w.heap.size n1 n2 hv) R vL (p:Int)∧w.grownBy (three u w.heap.size n1 n2 hv) (some R):=by
 obtain⟨h1,h2,h3⟩:=hZ
 have hb:u.heap[w.heap.size]?=some zpO:=(h.gr.block _ h2 (fun e=>h3 (Option.some.inj e))).trans h1
 have hg:u.grownBy (three u w.heap.size n1 n2 hv) (some w.heap.size):=Zhe (Zhe (Zhd u _ 0 _) (Zhd _ _ 1 _)) (Zhd _ _ 2 _)
 refine⟨?_,Znz (ZnG h.own hg h2) (by omega),fun y hy=>Znz (ZnG (h.ins y hy) hg h2) (by omega),h.ck.keep hg (fun e=>h3 (Option.some.inj e).symm),?_⟩
 ·have s0:=heap_setCell_same u w.heap.size 0 _ _ (.string ⟨n1.toArray⟩) hb
  have s1:=heap_setCell_same _ w.heap.size 1 _ _ (.string ⟨n2.toArray⟩) s0
  exact heap_setCell_same _ w.heap.size 2 _ _ hv s1
 ·exact Zhc (Zhc (Zhc (hG _ h.gr) (Nat.le_refl _) 0 _) (Nat.le_refl _) 1 _) (Nat.le_refl _) 2 _
theorem Zua {R:Nat} {L:List (List UInt8)} {lo:Option Addr} {lc:Nat} {p k:Nat} (hk:k≤64) (w:World) (q:Uk w R (.slice lo L.length lc) p) (HL:Hid (∀ u,w.grownBy u (some R)→HS u (.slice lo L.length lc) L)) (HPl:Hid (Plain L)) (hp:p≤L.length) (hLl:L.length≤137438953472) (HSl:Hid (∀ s∈L,s.length≤1099511627)) (hmx:Mxl w) (hR1:1<R)
  (X:Except (Nat × Int) (Pth × Nat × List (List UInt8))) (HX:Hid (patU k p (L.drop p)=X)) :
  Calls Tryz.prog 69 #[.pointer (some ⟨R,0,none⟩),.int .i64 (k:Int)] w fun e w'=>PtU R (.slice lo L.length lc) X w e w':=by
 have HG:Hid (∀ u,(w.alloc zpO).grownBy u (some R)→w.grownBy u (some R)):=fun u hu=>ZgZ _ hu
 have hRl:=q.lt
 have HX2:=HX.out
 have hRl1:R<(w.alloc zpO).heap.size:=(by simp;omega)
 have HZ:Hid ((w.alloc zpO).heap[w.heap.size]?=some zpO∧w.heap.size<(w.alloc zpO).heap.size∧w.heap.size≠R):=⟨heap_alloc_new w _,by simp,by omega⟩
 have hP0:Pzu (w.alloc zpO) R (w.heap.size+1) (.slice lo L.length lc) [] [] (.slice none 0 0) [] p ((w.alloc zpO).alloc zpO):=(by
  have hsz:(w.alloc zpO).heap.size=w.heap.size+1:=by simp
  refine⟨World.grownBy_alloc _ _ _,?_,Zii _ _ _ _,fun x hx=>(by cases hx),(q.low ((Below.refl _ w).alloc (Nat.le_refl _) _)).low ((Below.refl _ _).alloc (Nat.le_refl _) _),by omega,hRl1⟩
  rw[← hsz]
  exact heap_alloc_new _ _)
 have hW:(w.alloc (.cells #[.string ⟨#[]⟩,.string ⟨#[]⟩,.slice none 0 0] 55)).alloc (.cells #[.string ⟨#[]⟩,.string ⟨#[]⟩,.slice none 0 0] 55)=(w.alloc zpO).alloc zpO:=rfl
 obtain⟨Y,hY⟩:∃ Y,namP [45,45,45,32] p (L.drop p)=Y:=⟨_,rfl⟩
 unfold patU at HX2
 rw[hY] at HX2
 have hn1:=ZtU [45,45,45,32] rfl _ hP0.ck (HL.out _ (HG.out _ hP0.gr)) hp (by omega) (fun s h=>by have:=HSl.out s h;omega) Y hY
 clear HX q
 generalize hwb:w.alloc zpO=wb at *
 clear hwb
 go_enter Tryz.func69,Tryz.ntmps69
 go_wp2_with fail
 clear hW
 generalize w.heap.size+1=S at hP0 ⊢
 generalize wb.alloc zpO=w0 at hP0 hn1 ⊢
 refine hn1.mono ?_
 clear hn1
 cases Y with
 | error z =>
  obtain⟨a,z⟩:=z
  rintro e w1 ⟨⟨g,rfl,hg⟩,hgr⟩
  have hXe:X=.error (a,z):=HX2.symm
  subst hXe
  go_wp2
  exact⟨rfl,⟨_,rfl,hg⟩,HG.out _ (Zhe hP0.gr hgr)⟩
 | ok z =>
  obtain⟨n1,r1⟩:=z
  rintro e w1 ⟨rfl,hB1⟩
  obtain⟨rfl,hpl⟩:=Zma hY
  dsimp only at HX2
  have hP1:=hP0.keep hB1
  clear hY hP0 hB1
  obtain⟨c0,c1,c2⟩:=hP1.cells
  have f0:=hP1.frozen 0
  have hP2:=hP1.put 0 (.string ⟨n1.toArray⟩) (m1:=n1) (m2:=[]) (hv':=.slice none 0 0) rfl hP1.own
  clear hP1
  by_cases h64:64≤k
  ·rw[if_pos h64] at HX2
   have hXe:=HX2.symm
   subst hXe
   have e1:((k:Int) == 64)=true:=beq_iff_eq.2 (by omega)
   go_wp2_with fail
   refine (Zuo 9 _ hP2.ck (by omega)).mono ?_
   rintro e w2 ⟨⟨g,rfl,hg⟩,hgr⟩
   go_wp2
   exact⟨rfl,⟨_,rfl,by simpa using hg⟩,HG.out _ (Zhe hP2.gr hgr)⟩
  ·rw[if_neg h64] at HX2
   have e1:((k:Int) == 64)=false:=beq_eq_false_iff_ne.2 (by omega)
   go_upto_region 3 with fail
   clear c0 c1 c2 f0
   generalize w1.setCell ⟨S,0,none⟩ (.string ⟨n1.toArray⟩)=w2 at hP2 ⊢
   obtain⟨d0,d1⟩:=hP2.ck.cells
   have f1:=hP2.ck.frozen 1
   have hP3:=hP2.next
   obtain⟨Y2,hY2⟩:∃ Y,namP [43,43,43,32] (p+1) (L.drop (p+1))=Y:=⟨_,rfl⟩
   rw[hY2] at HX2
   have hn2:=ZtU [43,43,43,32] rfl _ hP3.ck (HL.out _ (HG.out _ hP3.gr)) (by omega) (by omega) (fun s h=>by have:=HSl.out s h;omega) Y2 hY2
   go_wp2_with fail
   refine hn2.mono ?_
   clear hn2 hP2 d0 d1 f1
   cases Y2 with
   | error z =>
    obtain⟨a,z⟩:=z
    rintro e w3 ⟨⟨g,rfl,hg⟩,hgr⟩
    have hXe:X=.error (a,z):=HX2.symm
    subst hXe
    go_wp2
    exact⟨rfl,⟨_,rfl,hg⟩,HG.out _ (Zhe hP3.gr hgr)⟩
   | ok z =>
    obtain⟨n2,r2⟩:=z
    rintro e w3 ⟨rfl,hB3⟩
    obtain⟨rfl,hpl2⟩:=Zma hY2
    dsimp only at HX2
    have hP4:=hP3.keep hB3
    clear hY2 hP3 hB3
    obtain⟨c0,c1,c2⟩:=hP4.cells
    have f1:=hP4.frozen 1
    have hP5:=hP4.put 1 (.string ⟨n2.toArray⟩) (m1:=n1) (m2:=n2) (hv':=.slice none 0 0) rfl hP4.own
    clear hP4
    go_upto_region 7 with fail
    clear c0 c1 c2 f1
    generalize w3.setCell ⟨S,1,none⟩ (.string ⟨n2.toArray⟩)=w4 at hP5 ⊢
    obtain⟨d0,d1⟩:=hP5.ck.cells
    have f1:=hP5.ck.frozen 1
    have hP6:=hP5.next
    clear hP5
    obtain⟨Y3,hY3⟩:∃ Y,uhsP atC ((L.drop (p+1+1)).length+1) 0 (p+1+1) (L.drop (p+1+1))=Y:=⟨_,rfl⟩
    have HX3:Hid (mkP n1 n2 Y3=X):=(by show _=_;rw[← hY3];exact HX2)
    have HY0:Hid (lefU [] ((L.drop (p+1+1)).length+1) (p+1+1) (L.drop (p+1+1))=Y3):=(by show _=_;unfold lefU;rw[if_pos rfl,List.map_nil,ZsI];exact hY3)
    clear hY3 HX2
    go_wp2
    rw[show (((p+1:Nat):Int)+1)=(p:Int)+1+1 by omega] at hP6
    generalize w4.setCell ⟨R,1,none⟩ (.int .i64 ((p:Int)+1+1))=w5 at hP6 ⊢
    clear d0 d1 f1
    go_loopw [] (fun wr=>∃ (hv:Value) (P:List (Hk × Value)) (p' f:Nat),(∃ o c,hv=.slice o P.length c)∧Pzu wb R S (.slice lo L.length lc) n1 n2 hv P p' wr∧p'≤L.length∧P.length≤4096∧Hid ((L.drop p').length+1≤f)∧Hid (lefU P f p' (L.drop p')=Y3)) (fun wr=>L.length-ukN wr R)
    case atStart=>exact⟨_,[],p+1+1,_,⟨none,0,rfl⟩,hP6,by omega,Nat.zero_le _,Nat.le_refl _,HY0⟩
    case round =>
    clear hP6 HY0
    obtain⟨hv,P,p',f,⟨ho,hc,rfl⟩,hZ,hp',hPl,HF,HI⟩:=hrel
    obtain⟨c0,c1,c2⟩:=hZ.cells
    have hLr:=HL.out _ (HG.out _ hZ.gr)
    have HK:Hid (ukN wr R=p'):=ZtE hZ.ck
    obtain⟨gd,hgd⟩:∃ g,(decide (P=[]) || pkU atC (L.drop p'))=g:=⟨_,rfl⟩
    go_upto_region 8 with fail
    go_cut [37] from 30 to 47 (fun cv wz=>cv=.bool gd∧Pzu wb R S (.slice lo L.length lc) n1 n2 (.slice ho P.length hc) P p' wz)
    case first =>
     by_cases hP0:P=[]
     ·have z1:((P.length:Int) == 0)=true:=(by rw[hP0];rfl)
      have HE:Hid (true=gd):=(by rw[decide_eq_true hP0,Bool.true_or] at hgd;exact hgd)
      clear hP0 hgd
      go_wp2
      go_meet
      case rel=>exact⟨by rw[← HE.out],hZ⟩
     ·have z1:((P.length:Int) == 0)=false:=(by rw[beq_eq_false_iff_ne];intro e;exact hP0 (List.eq_nil_of_length_eq_zero (by omega)))
      have hat:=Ztc wr hZ.ck hLr hp' (by omega) gd (show Hid (pkU atC (L.drop p')=gd) by show _=_;rw[← hgd,decide_eq_false hP0,Bool.false_or])
      clear hP0 hgd
      go_wp2_with fail
      refine hat.mono ?_
      rintro e w6 ⟨rfl,nn,rfl⟩
      have hZ2:=hZ.keep (below_drewN (Below.refl _ _) nn)
      go_wp2
      go_meet
      case rel=>exact⟨rfl,hZ2⟩
    case rest =>
    obtain⟨rfl,hZ2⟩:=hcut
    clear hZ c0 c1 c2 hLr
    obtain⟨c0,c1,c2⟩:=hZ2.cells
    have hLr:=HL.out _ (HG.out _ hZ2.gr)
    cases gd with
    | false =>
     have hYe:Y3=.ok (P.map (·.1),p',L.drop p'):=(by rw[← HI.out];exact ZtH hgd)
     have hXe:X=.ok (⟨n1,n2,P.map (·.1)⟩,p',L.drop p'):=(by rw[← HX3.out,hYe];rfl)
     subst hXe
     clear hYe hgd HI HX3 hLr
     obtain⟨y0,y1,y2,yf⟩:=ZsJ hZ2.gr HZ.out _ rfl
     obtain⟨fh,fo,fi,fq,fg⟩:=Zuq hZ2 HG.out HZ.out
     have yf0:=yf 0
     have yf1:=yf 1
     have yf2:=yf 2
     clear yf hZ2
     go_wp2
     exact bodyPost_ret (v:=.agg #[.string ⟨n1.toArray⟩,.string ⟨n2.toArray⟩,.slice ho P.length hc]) (results_cell_row rfl _ _ w.heap.size 55 #[.string ⟨n1.toArray⟩,.string ⟨n2.toArray⟩,.slice ho P.length hc] (0,0) _ rfl fh Tryz.underlying55 rfl (by kernel_rfl)) rfl ⟨_,P,rfl,rfl,fo,fi,fq,fg⟩
    | true =>
     have hf0:=HF.out
     obtain⟨f',rfl⟩:∃ f',f=f'+1:=⟨f-1,by omega⟩
     have hgo:=ZtF (f:=f') (p:=p') hgd
     rw[HI.out] at hgo
     obtain⟨Yh,hYh⟩:∃ Y,uhkP P.length p' (L.drop p')=Y:=⟨_,rfl⟩
     rw[hYh] at hgo
     have hZd:=hZ2.keep (Below.drew (Below.refl _ _))
     have hch:=ZtB hPl _ hZd.ck (fun u hu=>HL.out u (HG.out _ (Zhe hZd.gr hu))) HPl hp' hLl HSl (hmx.keep (HG.out _ hZd.gr) hR1) Yh hYh
     have HYe:Hid (∀ e,Yh=.error e→X=.error e):=(by
      intro e he
      rw[← HX3.out,hgo,he]
      rfl)
     have HN:Hid (∀ h p2 r,Yh=.ok (h,p2,r)→p2≤L.length∧p'<p2∧Hid ((L.drop p2).length+1≤f')∧P.length<4096∧r=L.drop p2):=(by
      intro h p2 r he
      obtain⟨b1,b2,b3,b4⟩:=Ztt HPl.out (hYh.trans he)
      have:=HF.out
      rw[List.length_drop] at this
      exact⟨b3,b2,(by show _≤_;rw[List.length_drop];omega),b4,b1⟩)
     have HN2:Hid (∀ h p2 r y,Yh=.ok (h,p2,r)→Hid (lefU (P++[(h,y)]) f' p2 (L.drop p2)=Y3)):=(by
      intro h p2 r y he
      show _=_
      rw[ZtG,← (HN.out h p2 r he).2.2.2.2,hgo,he])
     obtain⟨Pn,hPnd⟩:∃ Pn:List PanicEntry→World→Prop,(fun c u=>∃ (g a:Nat) (z:Int),c=[{ v:=.iface 86 (.pointer (some ⟨g,0,none⟩)),recovered:=false }]∧u.heap[g]?=some (fltO (a:Int) z)∧X=.error (a,z)∧w.grownBy u (some R))=Pn:=⟨_,rfl⟩
     obtain⟨Rr,hRr⟩:∃ Rr:Value→World→Prop,(fun v u=>∃ h p2 r vo vc,Yh=.ok (h,p2,r)∧v=hkV h (.slice vo h.ls.length vc)∧Pzu wb R S (.slice lo L.length lc) n1 n2 (.slice ho P.length hc) P p2 u∧u.ownsRow wb.heap.size 103 2 (.slice vo h.ls.length vc) h.ls.length (mkcells h.ls))=Rr:=⟨_,rfl⟩
     have hcall:Calls Tryz.prog 117 (#[.pointer (some ⟨R,0,none⟩),.int .i64 (P.length:Int)]++#[]) wc.drew fun e w'=>(∃ v,e=.returned v∧True∧Rr v w')∨(∃ c,e=.panicked c∧Pn c w'):=(by
      refine hch.mono ?_
      intro e w' hq
      rw[← hPnd,← hRr]
      cases Yh with
      | error z =>
       obtain⟨a,z⟩:=z
       obtain⟨⟨g,rfl,hg⟩,hgr⟩:=hq
       exact .inr ⟨_,rfl,g,a,z,rfl,hg,HYe.out _ rfl,HG.out _ (Zhe hZd.gr hgr)⟩
      | ok z =>
       obtain⟨h,p2,r⟩:=z
       obtain⟨v',rfl,hown,q,hgr⟩:=hq
       obtain⟨vo,vc,rfl⟩:=(holds_of hown).form
       exact .inl ⟨_,rfl,trivial,h,p2,r,vo,vc,rfl,rfl,hZd.call hgr q,Znz hown hZd.gr.size⟩)
     have HRr:Hid (_=Rr):=hRr
     have HPd:Hid (_=Pn):=hPnd
     clear hRr hPnd hch hgo hYh HI hgd hLr
     go_upto_region 9 with fail
     clear c0 c1 c2
     refine wp_region_held_drew (S:=fun _=>True) (by kernel_rfl) trivial (fun _=>?_)
     generalize wc.drew=wd at hZd hcall ⊢
     have c2d:=hZd.cells.2.2
     refine Y_t 0 38 _ (.pointer (some ⟨S,2,none⟩)) rfl (Or.inl ⟨by kernel_rfl,fun u hu=>by kernel_rfl⟩) trivial ?_
     simp only[Act.put,Y_a,Y_b,Y_c]
     refine Y_t 2 40 _ (.pointer (some ⟨R,0,none⟩)) rfl (Or.inl ⟨by kernel_rfl,fun u hu=>by kernel_rfl⟩) trivial ?_
     simp only[Act.put,Y_a,Y_b,Y_c]
     refine Y_t 3 41 _ (.pointer (some ⟨S,2,none⟩)) rfl (Or.inl ⟨by kernel_rfl,fun u hu=>by kernel_rfl⟩) trivial ?_
     simp only[Act.put,Y_a,Y_b,Y_c]
     refine ZgT 1 39 _ 4 42 _ rfl (by kernel_rfl) rfl (by kernel_rfl) (by kernel_rfl) (by kernel_rfl) (by kernel_rfl) (.slice ho P.length hc) wd (Zkz c2d (.tmp 38) (by kernel_rfl) (by kernel_rfl)) trivial (.slice ho P.length hc) wd (Zkz c2d (.tmp 41) (by kernel_rfl) (by kernel_rfl)) trivial ?_ ?_
     ·simp only[Act.put,Y_a,Y_b,Y_c]
      refine Y_v 4 42 _ rfl (.slice ho P.length hc) wd (Zkz c2d (.tmp 41) (by kernel_rfl) (by kernel_rfl)) trivial ?_
      simp only[Act.put,Y_a,Y_b,Y_c]
      refine Y_t 5 43 _ (.int .i64 (P.length:Int)) rfl (Or.inl ⟨by kernel_rfl,fun u hu=>by kernel_rfl⟩) trivial ?_
      simp only[Act.put,Y_a,Y_b,Y_c]
      refine ZgQ 6 44 _ rfl (by kernel_rfl) (by kernel_rfl) (by kernel_rfl) 117 (.func 117) #[.tmp 40,.tmp 43] #[172,3] (by kernel_rfl) #[] (by kernel_rfl) #[.pointer (some ⟨R,0,none⟩),.int .i64 (P.length:Int)] (by kernel_rfl) (enters_of Tryz.func117 (by kernel_rfl) rfl) Rr Pn (fun c u h=>by rw[← HPd.out] at h;obtain⟨g,a,z,rfl,hg,hXe,hgr⟩:=h;subst hXe;exact⟨rfl,⟨_,rfl,hg⟩,hgr⟩) ?_ ?_
      ·exact hcall
      intro v0 u1 _ hq
      rw[← HRr.out] at hq
      obtain⟨h,p2,r,vo,vc,hk2,rfl,hR1,hown1⟩:=hq
      have c1u:=hR1.cells.2.2
      have hRA:=hR1.keep ((Below.refl _ u1).alloc (Nat.le_refl _) (hkO h (.slice vo h.ls.length vc)))
      have c2u:=hRA.cells.2.2
      simp only[Act.put,Y_a,Y_b,Y_c]
      refine Y_v 7 45 _ rfl (.slice (some ⟨u1.heap.size,0,none⟩) 1 1) (u1.alloc (hkO h (.slice vo h.ls.length vc))) (by kernel_rfl) trivial ?_
      simp only[Act.put,Y_a,Y_b,Y_c]
      have hlt2:=HN.out h p2 r hk2
      have hownA:=hown1.alloc (hkO h (.slice vo h.ls.length vc))
      obtain⟨v3,u3,hr3,hown3,hg3,_⟩:=Zqx (u1.alloc (hkO h (.slice vo h.ls.length vc))) 34 59 34 (.agg #[.int .i64 0,.int .i64 0,.int .i64 0,.int .i64 0,.slice none 0 0]) 5 56 Tryz.underlying34 infoHk rfl (by decide) (by decide) wb.heap.size _ _ _ hRA.own _ 1 (hkC h (.slice vo h.ls.length vc)) (Znr u1 h (.slice vo h.ls.length vc)) rfl (fun u hu=>by simp[hkC] at hu;rcases hu with rfl | rfl | rfl | rfl | rfl<;>rfl) (by omega) hRA.gr.size
      have hR3:=hRA.more hownA hg3 hown3
      obtain⟨o3,k3,rfl⟩:=(holds_of hown3).form
      refine Y_v 8 46 _ rfl (.slice o3 (P.length+1) k3) u3 (Zfz (.tmp 39) (.tmp 45) (by kernel_rfl) (by kernel_rfl) (by kernel_rfl) hr3) trivial ?_
      simp only[Act.put,Y_a,Y_b,Y_c]
      refine Y_t 9 47 _ (.pointer (some ⟨S,2,none⟩)) rfl (Or.inl ⟨by kernel_rfl,fun u hu=>by kernel_rfl⟩) trivial ?_
      simp only[Act.put,Y_a,Y_b,Y_c]
      refine Y_s 10 _ rfl (u3.setCell ⟨S,2,none⟩ (.slice o3 (P.length+1) k3)) (ZfI hR3.2.1 hR3.2.2 (.tmp 47) (.tmp 46) (by kernel_rfl) (by kernel_rfl) (by kernel_rfl)) trivial ?_
      refine wpAnyH_done (by kernel_rfl) ?_ _
      have hR4:=hR3.1
      go_wp2
      refine⟨⟨_,P++[(h,.slice vo h.ls.length vc)],p2,f',⟨o3,k3,by rw[List.length_append];rfl⟩,hR4,hlt2.1,by rw[List.length_append];simp;omega,hlt2.2.2.1,HN2.out h p2 r _ hk2⟩,?_⟩
      rw[ZtE hR4.ck,HK.out]
      omega
     ·simp only[Act.put,Y_a,Y_b,Y_c]
      refine Y_t 5 43 _ (.int .i64 (P.length:Int)) rfl (Or.inl ⟨by kernel_rfl,fun u hu=>by kernel_rfl⟩) trivial ?_
      simp only[Act.put,Y_a,Y_b,Y_c]
      refine ZgW 1 39 _ 6 44 _ rfl (by kernel_rfl) rfl (by kernel_rfl) (by kernel_rfl) (by kernel_rfl) (by kernel_rfl) (.slice ho P.length hc) wd (Zkz c2d (.tmp 38) (by kernel_rfl) (by kernel_rfl)) trivial 117 (.func 117) #[.tmp 40,.tmp 43] #[172,3] (by kernel_rfl) #[] (by kernel_rfl) #[.pointer (some ⟨R,0,none⟩),.int .i64 (P.length:Int)] (by kernel_rfl) (enters_of Tryz.func117 (by kernel_rfl) rfl) Rr Pn (fun c u h=>by rw[← HPd.out] at h;obtain⟨g,a,z,rfl,hg,hXe,hgr⟩:=h;subst hXe;exact⟨rfl,⟨_,rfl,hg⟩,hgr⟩) ?_ ?_ ?_
      ·exact hcall
      ·simp only[Act.put,Y_a,Y_b,Y_c]
       refine ZgQ 6 44 _ rfl (by kernel_rfl) (by kernel_rfl) (by kernel_rfl) 117 (.func 117) #[.tmp 40,.tmp 43] #[172,3] (by kernel_rfl) #[] (by kernel_rfl) #[.pointer (some ⟨R,0,none⟩),.int .i64 (P.length:Int)] (by kernel_rfl) (enters_of Tryz.func117 (by kernel_rfl) rfl) Rr Pn (fun c u h=>by rw[← HPd.out] at h;obtain⟨g,a,z,rfl,hg,hXe,hgr⟩:=h;subst hXe;exact⟨rfl,⟨_,rfl,hg⟩,hgr⟩) ?_ ?_
       ·exact hcall
       intro v0 u1 _ hq
       rw[← HRr.out] at hq
       obtain⟨h,p2,r,vo,vc,hk2,rfl,hR1,hown1⟩:=hq
       have c1u:=hR1.cells.2.2
       have hRA:=hR1.keep ((Below.refl _ u1).alloc (Nat.le_refl _) (hkO h (.slice vo h.ls.length vc)))
       have c2u:=hRA.cells.2.2
       simp only[Act.put,Y_a,Y_b,Y_c]
       refine Y_v 7 45 _ rfl (.slice (some ⟨u1.heap.size,0,none⟩) 1 1) (u1.alloc (hkO h (.slice vo h.ls.length vc))) (by kernel_rfl) trivial ?_
       simp only[Act.put,Y_a,Y_b,Y_c]
       have hlt2:=HN.out h p2 r hk2
       have hownA:=hown1.alloc (hkO h (.slice vo h.ls.length vc))
       obtain⟨v3,u3,hr3,hown3,hg3,_⟩:=Zqx (u1.alloc (hkO h (.slice vo h.ls.length vc))) 34 59 34 (.agg #[.int .i64 0,.int .i64 0,.int .i64 0,.int .i64 0,.slice none 0 0]) 5 56 Tryz.underlying34 infoHk rfl (by decide) (by decide) wb.heap.size _ _ _ hRA.own _ 1 (hkC h (.slice vo h.ls.length vc)) (Znr u1 h (.slice vo h.ls.length vc)) rfl (fun u hu=>by simp[hkC] at hu;rcases hu with rfl | rfl | rfl | rfl | rfl<;>rfl) (by omega) hRA.gr.size
       have hR3:=hRA.more hownA hg3 hown3
       obtain⟨o3,k3,rfl⟩:=(holds_of hown3).form
       refine Y_v 8 46 _ rfl (.slice o3 (P.length+1) k3) u3 (Zfz (.tmp 39) (.tmp 45) (by kernel_rfl) (by kernel_rfl) (by kernel_rfl) hr3) trivial ?_
       simp only[Act.put,Y_a,Y_b,Y_c]
       refine Y_t 9 47 _ (.pointer (some ⟨S,2,none⟩)) rfl (Or.inl ⟨by kernel_rfl,fun u hu=>by kernel_rfl⟩) trivial ?_
       simp only[Act.put,Y_a,Y_b,Y_c]
       refine Y_s 10 _ rfl (u3.setCell ⟨S,2,none⟩ (.slice o3 (P.length+1) k3)) (ZfI hR3.2.1 hR3.2.2 (.tmp 47) (.tmp 46) (by kernel_rfl) (by kernel_rfl) (by kernel_rfl)) trivial ?_
       refine wpAnyH_done (by kernel_rfl) ?_ _
       have hR4:=hR3.1
       go_wp2
       refine⟨⟨_,P++[(h,.slice vo h.ls.length vc)],p2,f',⟨o3,k3,by rw[List.length_append];rfl⟩,hR4,hlt2.1,by rw[List.length_append];simp;omega,hlt2.2.2.1,HN2.out h p2 r _ hk2⟩,?_⟩
       rw[ZtE hR4.ck,HK.out]
       omega
      ·intro v0 u1 _ hq
       rw[← HRr.out] at hq
       obtain⟨h,p2,r,vo,vc,hk2,rfl,hR1,hown1⟩:=hq
       have c1u:=hR1.cells.2.2
       have hRA:=hR1.keep ((Below.refl _ u1).alloc (Nat.le_refl _) (hkO h (.slice vo h.ls.length vc)))
       have c2u:=hRA.cells.2.2
       simp only[Act.put,Y_a,Y_b,Y_c]
       refine ZgT 1 39 _ 7 45 _ rfl (by kernel_rfl) rfl (by kernel_rfl) (by kernel_rfl) (by kernel_rfl) (by kernel_rfl) (.slice ho P.length hc) u1 (Zkz c1u (.tmp 38) (by kernel_rfl) (by kernel_rfl)) trivial (.slice (some ⟨u1.heap.size,0,none⟩) 1 1) (u1.alloc (hkO h (.slice vo h.ls.length vc))) (by kernel_rfl) trivial ?_ ?_
       ·simp only[Act.put,Y_a,Y_b,Y_c]
        refine Y_v 7 45 _ rfl (.slice (some ⟨u1.heap.size,0,none⟩) 1 1) (u1.alloc (hkO h (.slice vo h.ls.length vc))) (by kernel_rfl) trivial ?_
        simp only[Act.put,Y_a,Y_b,Y_c]
        have hlt2:=HN.out h p2 r hk2
        have hownA:=hown1.alloc (hkO h (.slice vo h.ls.length vc))
        obtain⟨v3,u3,hr3,hown3,hg3,_⟩:=Zqx (u1.alloc (hkO h (.slice vo h.ls.length vc))) 34 59 34 (.agg #[.int .i64 0,.int .i64 0,.int .i64 0,.int .i64 0,.slice none 0 0]) 5 56 Tryz.underlying34 infoHk rfl (by decide) (by decide) wb.heap.size _ _ _ hRA.own _ 1 (hkC h (.slice vo h.ls.length vc)) (Znr u1 h (.slice vo h.ls.length vc)) rfl (fun u hu=>by simp[hkC] at hu;rcases hu with rfl | rfl | rfl | rfl | rfl<;>rfl) (by omega) hRA.gr.size
        have hR3:=hRA.more hownA hg3 hown3
        obtain⟨o3,k3,rfl⟩:=(holds_of hown3).form
        refine Y_v 8 46 _ rfl (.slice o3 (P.length+1) k3) u3 (Zfz (.tmp 39) (.tmp 45) (by kernel_rfl) (by kernel_rfl) (by kernel_rfl) hr3) trivial ?_
        simp only[Act.put,Y_a,Y_b,Y_c]
        refine Y_t 9 47 _ (.pointer (some ⟨S,2,none⟩)) rfl (Or.inl ⟨by kernel_rfl,fun u hu=>by kernel_rfl⟩) trivial ?_
        simp only[Act.put,Y_a,Y_b,Y_c]
        refine Y_s 10 _ rfl (u3.setCell ⟨S,2,none⟩ (.slice o3 (P.length+1) k3)) (ZfI hR3.2.1 hR3.2.2 (.tmp 47) (.tmp 46) (by kernel_rfl) (by kernel_rfl) (by kernel_rfl)) trivial ?_
        refine wpAnyH_done (by kernel_rfl) ?_ _
        have hR4:=hR3.1
        go_wp2
        refine⟨⟨_,P++[(h,.slice vo h.ls.length vc)],p2,f',⟨o3,k3,by rw[List.length_append];rfl⟩,hR4,hlt2.1,by rw[List.length_append];simp;omega,hlt2.2.2.1,HN2.out h p2 r _ hk2⟩,?_⟩
        rw[ZtE hR4.ck,HK.out]
        omega
       ·simp only[Act.put,Y_a,Y_b,Y_c]
        refine Y_v 1 39 _ rfl (.slice ho P.length hc) (u1.alloc (hkO h (.slice vo h.ls.length vc))) (Zkz c2u (.tmp 38) (by kernel_rfl) (by kernel_rfl)) trivial ?_
        simp only[Act.put,Y_a,Y_b,Y_c]
        have hlt2:=HN.out h p2 r hk2
        have hownA:=hown1.alloc (hkO h (.slice vo h.ls.length vc))
        obtain⟨v3,u3,hr3,hown3,hg3,_⟩:=Zqx (u1.alloc (hkO h (.slice vo h.ls.length vc))) 34 59 34 (.agg #[.int .i64 0,.int .i64 0,.int .i64 0,.int .i64 0,.slice none 0 0]) 5 56 Tryz.underlying34 infoHk rfl (by decide) (by decide) wb.heap.size _ _ _ hRA.own _ 1 (hkC h (.slice vo h.ls.length vc)) (Znr u1 h (.slice vo h.ls.length vc)) rfl (fun u hu=>by simp[hkC] at hu;rcases hu with rfl | rfl | rfl | rfl | rfl<;>rfl) (by omega) hRA.gr.size
        have hR3:=hRA.more hownA hg3 hown3
        obtain⟨o3,k3,rfl⟩:=(holds_of hown3).form
        refine Y_v 8 46 _ rfl (.slice o3 (P.length+1) k3) u3 (Zfz (.tmp 39) (.tmp 45) (by kernel_rfl) (by kernel_rfl) (by kernel_rfl) hr3) trivial ?_
        simp only[Act.put,Y_a,Y_b,Y_c]
        refine Y_t 9 47 _ (.pointer (some ⟨S,2,none⟩)) rfl (Or.inl ⟨by kernel_rfl,fun u hu=>by kernel_rfl⟩) trivial ?_
        simp only[Act.put,Y_a,Y_b,Y_c]
        refine Y_s 10 _ rfl (u3.setCell ⟨S,2,none⟩ (.slice o3 (P.length+1) k3)) (ZfI hR3.2.1 hR3.2.2 (.tmp 47) (.tmp 46) (by kernel_rfl) (by kernel_rfl) (by kernel_rfl)) trivial ?_
        refine wpAnyH_done (by kernel_rfl) ?_ _
        have hR4:=hR3.1
        go_wp2
        refine⟨⟨_,P++[(h,.slice vo h.ls.length vc)],p2,f',⟨o3,k3,by rw[List.length_append];rfl⟩,hR4,hlt2.1,by rw[List.length_append];simp;omega,hlt2.2.2.1,HN2.out h p2 r _ hk2⟩,?_⟩
        rw[ZtE hR4.ck,HK.out]
        omega
end

section
open Go.RowKit
open Ln
theorem Mxl.lt {w:World} (h:Mxl w):1<w.heap.size:=by
 obtain⟨m,h⟩:=h
 exact block_lt_of_cell h
theorem Zch (p q:Addr) (w:World) :
  CallsD Tryz.prog 68 #[.pointer (some p),.pointer (some q)] .returning w fun e u' w'=>e=.returned (.tuple #[])∧u'=.returning∧w'=w:=by
 refine callsD_of_wpS Tryz.func68 rfl fun c₀ cs hu=>?_
 apply wpS_seq
 apply wpS_region
 simp[wpOpsS,go_sem,recoverD,hu,Tryz.ntmps68,Exit.thenS]
 apply wpS_seq
 apply wpS_region
 simp[wpOpsS,go_sem,Exit.thenS]
 refine wpS_cond (t:=false) (by simp[Act.eval,Array.replicate]) ?_
 simp only[Bool.false_eq_true,if_false]
 refine wpS_of_wp (wp_skip ?_)
 cases c₀
 simp_all [bodyPostS,results,Tryz.results68]
theorem Zce (F0 F1 g:Nat) (v0 v1:Value) (older:List PanicEntry) (w:World) (h01:F0≠F1) (c0:w.cell? ⟨F0,0,none⟩=some v0) (f0:w.frozen? ⟨F0,0,none⟩=false) (c1:w.cell? ⟨F1,0,none⟩=some v1) (f1:w.frozen? ⟨F1,0,none⟩=false) :
  CallsD Tryz.prog 68 #[.pointer (some ⟨F0,0,none⟩),.pointer (some ⟨F1,0,none⟩)] (.panicking ({ v:=.iface 86 (.pointer (some ⟨g,0,none⟩)),recovered:=false }::older)) w fun e u' w'=>e=.returned (.tuple #[])∧u'=.panicking ({ v:=.iface 86 (.pointer (some ⟨g,0,none⟩)),recovered:=true }::older)∧w'=((w.setCell ⟨F0,0,none⟩ (.slice none 0 0)).setCell ⟨F1,0,none⟩ (.iface 86 (.pointer (some ⟨g,0,none⟩)))).drew:=by
 refine callsD_of_wpS Tryz.func68 rfl fun c₀ cs hu=>?_
 apply wpS_seq
 apply wpS_region
 simp[wpOpsS,go_sem,recoverD,hu,Tryz.ntmps68,Exit.thenS]
 apply wpS_seq
 apply wpS_region
 simp[wpOpsS,go_sem,Exit.thenS]
 refine wpS_cond (t:=true) (by simp[Act.eval,Array.replicate]) ?_
 simp only[if_true]
 refine wpS_of_wp ?_
 have hta:∀ (v:Value) (u:World),(Instr.typeAssert (.iface 86 v) 20 86 false).run Tryz.prog u=.ok v u:=fun _ _=>by kernel_rfl
 generalize hA:({ tmps:=_,defers:=[] }:Act)=A
 have hA2:A={ tmps:=#[.pointer (some ⟨F0,0,none⟩),.pointer (some ⟨F1,0,none⟩),.iface 86 (.pointer (some ⟨g,0,none⟩)),.iface 86 (.pointer (some ⟨g,0,none⟩)),.iface 86 (.pointer (some ⟨g,0,none⟩)),.bool true,undef,undef,undef],defers:=[] }:=hA.symm.trans rfl
 subst hA2
 clear hA
 go_region
 cases c₀
 simp_all [bodyPostS,results,Tryz.results68]
theorem Zpw (tmps:Array Value) (u:World) (F0 F1 n c:Nat) (o:Option Addr) (v1:Value) (h2:tmps.getD 2 undef=.pointer (some ⟨F0,0,none⟩)) (h3:tmps.getD 3 undef=.pointer (some ⟨F1,0,none⟩)) (c0:u.cell? ⟨F0,0,none⟩=some (.slice o n c)) (c1:u.cell? ⟨F1,0,none⟩=some v1) :
  (results Tryz.f26 tmps).run Tryz.prog u=.ok (.tuple #[.slice o n c,v1]) u:=by
 have hL0:(loadVar 48 ⟨F0,0,none⟩).run Tryz.prog u=.ok (.slice o n c) u:=by
  simp[loadVar,isAgg,underlying,Tryz.underlying48,c0,Result.andThen]
 have hL1:(loadVar 36 ⟨F1,0,none⟩).run Tryz.prog u=.ok v1 u:=by
  simp[loadVar,isAgg,underlying,Tryz.underlying36,c1,Result.andThen]
 have e2:tmps[2]?.getD undef=.pointer (some ⟨F0,0,none⟩):=by rw[← h2];simp
 have e3:tmps[3]?.getD undef=.pointer (some ⟨F1,0,none⟩):=by rw[← h3];simp
 simp[results,Tryz.results26,e2,e3,asAddr,hL0,hL1,Result.andThen]
structure RdU (w:World) (R:Nat) (L:List (List UInt8)) (vL ov:Value) (F:List Pfd) (p:Nat) (u:World):Prop where
 pw:Pw w ov F u
 f0:u.heap[w.heap.size]?=some (.cells #[ov] 48)
 f1:u.heap[w.heap.size+1]?=some (.cells #[.nilIface] 36)
 ck:Uk u R vL (p:Int)
 rl:w.heap.size+1<R
 ln:u.ownsRow w.heap.size 9 1 vL L.length (scells L)
section
variable {w u u':World} {R:Nat} {L:List (List UInt8)} {vL ov:Value} {F:List Pfd} {p p':Nat}
theorem RdU.c0 (h:RdU w R L vL ov F p u):u.cell? ⟨w.heap.size,0,none⟩=some ov:=by rw[Lib.cell_of_heap h.f0];rfl
theorem RdU.keep (h:RdU w R L vL ov F p u) (hb:Below u.heap.size u u'):RdU w R L vL ov F p u':=⟨⟨h.pw.low.trans (hb.mono h.pw.low.size),ZnI h.pw.own hb,fun f hf=>(h.pw.ins f hf).keep hb⟩,(hb.block _ (Array.getElem?_eq_some_iff.1 h.f0).1).trans h.f0,(hb.block _ (Array.getElem?_eq_some_iff.1 h.f1).1).trans h.f1,h.ck.low hb,h.rl,ZnI h.ln hb⟩
theorem RdU.call (h:RdU w R L vL ov F p u) (hg:u.grownBy u' (some R)) (q:Uk u' R vL (p':Int)):RdU w R L vL ov F p' u':=by
 have hk:∀ k x,k≠R→u.heap[k]?=some x→u'.heap[k]?=some x:=fun k _ hk hx=>(hg.block k (Array.getElem?_eq_some_iff.1 hx).1 (fun e=>hk (Option.some.inj e))).trans hx
 have hb:u.heap[R]?=some (.cells #[vL,.int .i64 (p:Int)] 126):=h.ck
 have hr:=h.rl
 exact⟨⟨h.pw.low.grown hg h.pw.low.size (fun k e=>by cases e;omega),h.pw.own.kept hg (.inr (ZnB h.pw.own hb (by decide))),fun f hf=>(h.pw.ins f hf).box hb (by decide) (by decide) hg⟩,hk _ _ (by omega) h.f0,hk _ _ (by omega) h.f1,q,h.rl,h.ln.kept hg (.inr (ZnB h.ln hb (by decide)))⟩
theorem RdU.lines (h:RdU w R L vL ov F p u) (hg:u.grownBy u' (some R)):HS u' vL L:=by
 have hb:u.heap[R]?=some (.cells #[vL,.int .i64 (p:Int)] 126):=h.ck
 exact holds_of (h.ln.kept hg (.inr (ZnB h.ln hb (by decide))))
theorem RdU.more (h:RdU w R L vL ov F p u) {f:Pfd} {ov':Value} (hy:Pown w.heap.size u f) (hg:u.grownBy u' ov.ownBlock) (ho:u'.ownsRow w.heap.size 55 3 ov' (F.length+1) (pxcells F++pxC f)) :
  RdU w R L vL ov' (F++[f]) p (u'.setCell ⟨w.heap.size,0,none⟩ ov')∧u'.cell? ⟨w.heap.size,0,none⟩=some ov∧u'.frozen? ⟨w.heap.size,0,none⟩=false:=by
 have hk:∀ (k:Nat) (cs:Array Value) (t:TypeId) (fr:Nat × Nat),t≠55→u.heap[k]?=some (Obj.cells cs t fr)→u'.heap[k]?=some (Obj.cells cs t fr):=fun k cs t fr ht hx=>(hg.block k (Array.getElem?_eq_some_iff.1 hx).1 (fun e=>ZnB h.pw.own hx ht.symm e.symm)).trans hx
 have f0:=hk _ _ _ _ (by decide) h.f0
 have f1:=hk _ _ _ _ (by decide) h.f1
 have ck:Uk u' R vL (p:Int):=hk _ _ _ _ (by decide) h.ck
 have hg2:=Zhd u' w.heap.size 0 ov'
 have hin:∀ g,Pown w.heap.size u g→Pown w.heap.size u' g:=fun g hp=>⟨hp.eq,Zqj hp.own h.pw.own (by decide) hg,fun y hy=>Zqj (hp.ins y hy) h.pw.own (by decide) hg⟩
 have hlow:=h.pw.low.grown hg h.pw.low.size (fun k e=>ZnH h.pw.own e)
 have hr:=h.rl
 refine⟨⟨⟨hlow.setCell (Nat.le_refl _) _,?_,?_⟩,heap_setCell_same u' _ 0 _ _ ov' f0,(Below.heap_setCell _ _ _ _ (by simp)).trans f1,ck.keep hg2 (fun e=>by have:=Option.some.inj e;omega),h.rl,(Zqj h.ln h.pw.own (by decide) hg).kept hg2 (.inr (ZnB (Zqj h.ln h.pw.own (by decide) hg) f0 (by decide)))⟩,by rw[Lib.cell_of_heap f0];rfl,Lib.frozen_of_heap f0 0⟩
 ·have e1:pxcells (F++[f])=pxcells F++pxC f:=by simp[pxcells]
  rw[List.length_append,e1]
  exact ho.kept hg2 (.inr (ZnB ho f0 (by decide)))
 ·intro g hgm
  have hP:Pown w.heap.size u' g:=by
   rcases List.mem_append.1 hgm with hm | hm
   ·exact hin g (h.pw.ins g hm)
   ·rw[List.mem_singleton.1 hm];exact hin f hy
  exact hP.box f0 (by decide) (by decide) hg2
end
theorem Zoc {k p:Nat} {L r:List (List UInt8)} {x:Pth} {p1:Nat} (h:patU k p (L.drop p)=.ok (x,p1,r)):k<64:=by
 unfold patU at h
 cases hn:namP [45,45,45,32] p (L.drop p) with
 | error e=>rw[hn] at h;cases h
 | ok z =>
  rw[hn] at h
  dsimp only at h
  split at h
  ·cases h
  ·omega
theorem Zty (f:Nat):∀ {k p:Nat} {L r:List (List UInt8)} {hs:List Hk} {p1:Nat},Plain L→uhsP atC f k p (L.drop p)=.ok (hs,p1,r)→r=L.drop p1∧p<p1∧p1≤L.length:=by
 induction f with
 | zero =>
  intro k p L r hs p1 _ h
  simp only[uhsP] at h
  cases h
 | succ f ih =>
  intro k p L r hs p1 hk h
  simp only[uhsP] at h
  cases hh:uhkP k p (L.drop p) with
  | error e=>rw[hh] at h;cases h
  | ok z =>
   obtain⟨x,p2,r2⟩:=z
   obtain⟨rfl,b2,b3,b4⟩:=Ztt hk hh
   rw[hh] at h
   dsimp only at h
   split at h
   ·cases h2:uhsP atC f (k+1) p2 (L.drop p2) with
    | error e=>rw[h2] at h;cases h
    | ok z =>
     obtain⟨l,p3,r3⟩:=z
     rw[h2] at h
     injection h with h
     injection h with e1 e2
     injection e2 with e2 e3
     subst e2 e3
     obtain⟨c1,c2,c3⟩:=ih hk h2
     exact⟨c1,by omega,c3⟩
   ·injection h with h
    injection h with e1 e2
    injection e2 with e2 e3
    subst e2 e3
    exact⟨rfl,b2,b3⟩
theorem ZtZ {k p:Nat} {L r:List (List UInt8)} {x:Pth} {p1:Nat} (hP:Plain L) (h:patU k p (L.drop p)=.ok (x,p1,r)):r=L.drop p1∧p<p1∧p1≤L.length∧k<64:=by
 have hk:=Zoc h
 unfold patU at h
 cases hn:namP [45,45,45,32] p (L.drop p) with
 | error e=>rw[hn] at h;cases h
 | ok z =>
  obtain⟨n1,r1⟩:=z
  obtain⟨rfl,b1⟩:=Zma hn
  rw[hn] at h
  dsimp only at h
  rw[if_neg (by omega)] at h
  cases hn2:namP [43,43,43,32] (p+1) (L.drop (p+1)) with
  | error e=>rw[hn2] at h;cases h
  | ok z =>
   obtain⟨n2,r2⟩:=z
   obtain⟨rfl,b2⟩:=Zma hn2
   rw[hn2] at h
   dsimp only at h
   cases hh:uhsP atC ((L.drop (p+1+1)).length+1) 0 (p+2) (L.drop (p+1+1)) with
   | error e=>rw[hh] at h;cases h
   | ok z =>
    obtain⟨hs,p3,r3⟩:=z
    rw[hh] at h
    injection h with h
    injection h with e1 e2
    injection e2 with e2 e3
    subst e2 e3
    obtain⟨c1,c2,c3⟩:=Zty _ (L:=L) (p:=p+2) (by omega) hh
    exact⟨c1,by omega,c3,hk⟩
theorem Zuc {w:World} {X:Except (Nat × Int) (List Pth)}:∀ c (a:Act) u,PnP w X c u→a.tmps.getD 2 undef=.pointer (some ⟨w.heap.size,0,none⟩)→a.tmps.getD 3 undef=.pointer (some ⟨w.heap.size+1,0,none⟩)→a.defers=[{ target:=.fn (.func 68) #[.pointer (some ⟨w.heap.size,0,none⟩),.pointer (some ⟨w.heap.size+1,0,none⟩)],args:=#[] }]→bodyPostD Tryz.prog Tryz.f26 (fun e w'=>PrQ w X e w') (.panic c) a u:=by
 rintro c a u ⟨g,pa,z,v0,rfl,hg,rfl,hlow,f0,f1⟩ h2 h3 hd
 show Leaves Tryz.prog Tryz.f26 a.tmps (fun e w'=>PrQ w (.error (pa,z)) e w') a.defers _ u
 rw[hd]
 have g0:g≠w.heap.size:=(by rintro rfl;rw[f0] at hg;unfold fltO at hg;simp at hg)
 have g1:g≠w.heap.size+1:=(by rintro rfl;rw[f1] at hg;unfold fltO at hg;simp at hg)
 refine leaves_cons (f:=68) (args:=#[.pointer (some ⟨w.heap.size,0,none⟩),.pointer (some ⟨w.heap.size+1,0,none⟩)]) (by simp) (by simp[go_sem]) ?_
 refine (Zce w.heap.size (w.heap.size+1) g v0 .nilIface [] u (by omega) (by rw[Lib.cell_of_heap f0];rfl) (Lib.frozen_of_heap f0 0) (by rw[Lib.cell_of_heap f1];rfl) (Lib.frozen_of_heap f1 0)).mono ?_
 rintro e u' w'' ⟨rfl,rfl,rfl⟩
 have s0:=heap_setCell_same u w.heap.size 0 _ _ (.slice none 0 0) f0
 have s1:(u.setCell ⟨w.heap.size,0,none⟩ (.slice none 0 0)).heap[w.heap.size+1]?=some (.cells #[.nilIface] 36):=(Below.heap_setCell _ _ _ _ (by simp)).trans f1
 have s2:=heap_setCell_same _ (w.heap.size+1) 0 _ _ (.iface 86 (.pointer (some ⟨g,0,none⟩))) s1
 have s3:((u.setCell ⟨w.heap.size,0,none⟩ (.slice none 0 0)).setCell ⟨w.heap.size+1,0,none⟩ (.iface 86 (.pointer (some ⟨g,0,none⟩)))).heap[w.heap.size]?=some (.cells #[.slice none 0 0] 48):=(Below.heap_setCell _ _ _ _ (by simp)).trans s0
 have s4:((u.setCell ⟨w.heap.size,0,none⟩ (.slice none 0 0)).setCell ⟨w.heap.size+1,0,none⟩ (.iface 86 (.pointer (some ⟨g,0,none⟩)))).heap[g]?=some (fltO (pa:Int) z):=((Below.heap_setCell _ _ _ _ (by simpa using g1)).trans (Below.heap_setCell _ _ _ _ (by simpa using g0))).trans hg
 have hl:Below w.heap.size w ((u.setCell ⟨w.heap.size,0,none⟩ (.slice none 0 0)).setCell ⟨w.heap.size+1,0,none⟩ (.iface 86 (.pointer (some ⟨g,0,none⟩)))).drew:=((hlow.setCell (Nat.le_refl _) _).setCell (by show w.heap.size≤w.heap.size+1;omega) _).drew
 generalize (u.setCell ⟨w.heap.size,0,none⟩ (.slice none 0 0)).setCell ⟨w.heap.size+1,0,none⟩ (.iface 86 (.pointer (some ⟨g,0,none⟩)))=W at *
 exact⟨_,Zpw a.tmps W.drew w.heap.size (w.heap.size+1) 0 0 none _ h2 h3 (by rw[Lib.cell_of_heap (w:=W.drew) s3];rfl) (by rw[Lib.cell_of_heap (w:=W.drew) s2];rfl),g,rfl,s4,hl⟩
theorem ZsZ (t:List UInt8) (w:World) (X:Except (Nat × Int) (List Pth)) (HX:Hid (unT atC t=X)) (hl:t.length≤1099511627776) (hmx:Mxl w) :
  Calls Tryz.prog 26 #[.string ⟨t.toArray⟩] w fun e w'=>PrQ w X e w':=by
 have hmf:∀ (fn:Fn) (first cap:Array Value) (w:World),(Instr.makeFunc fn first cap).run Tryz.prog w=.ok (.func fn first cap) w:=fun _ _ _ _=>rfl
 have HX2:=HX.out
 unfold unT at HX2
 clear HX
 by_cases hlong:1048576<t.length
 ·rw[if_pos hlong] at HX2
  have hXe:=HX2.symm
  subst hXe
  clear HX2
  have hbig:(1048576:Int)<(t.length:Int):=by omega
  go_enter_defers Tryz.func26,Tryz.ntmps26
  have z1:(w.alloc (.cells #[.slice none 0 0] 48)).heap.size=w.heap.size+1:=by simp
  have z2:((w.alloc (.cells #[.slice none 0 0] 48)).alloc (.cells #[.iface 86 (.pointer (some ⟨w.heap.size+1+1,0,none⟩))] 36)).heap.size=w.heap.size+1+1:=by simp
  have a1:=heap_alloc_new w (.cells #[.slice none 0 0] 48)
  have a2:=heap_alloc_new (w.alloc (.cells #[.slice none 0 0] 48)) (.cells #[.iface 86 (.pointer (some ⟨w.heap.size+1+1,0,none⟩))] 36)
  have a3:=heap_alloc_new ((w.alloc (.cells #[.slice none 0 0] 48)).alloc (.cells #[.iface 86 (.pointer (some ⟨w.heap.size+1+1,0,none⟩))] 36)) (fltO 0 9)
  rw[z1] at a2
  rw[z2] at a3
  have b1:=(Lib.alloc_old _ (fltO 0 9) _ (by rw[z2];omega)).trans ((Lib.alloc_old _ (.cells #[.iface 86 (.pointer (some ⟨w.heap.size+1+1,0,none⟩))] 36) _ (by rw[z1];omega)).trans a1)
  have b2:=(Lib.alloc_old _ (fltO 0 9) _ (by rw[z2];omega)).trans a2
  have hlow:Below w.heap.size w (((w.alloc (.cells #[.slice none 0 0] 48)).alloc (.cells #[.iface 86 (.pointer (some ⟨w.heap.size+1+1,0,none⟩))] 36)).alloc (fltO 0 9)):=(((Below.refl _ w).alloc (Nat.le_refl _) _).alloc (by rw[z1];omega) _).alloc (by rw[z2];omega) _
  have HA:Hid ((((w.alloc (.cells #[.slice none 0 0] 48)).alloc (.cells #[.iface 86 (.pointer (some ⟨w.heap.size+1+1,0,none⟩))] 36)).alloc (fltO 0 9)).cell? ⟨w.heap.size,0,none⟩=some (.slice none 0 0)∧(((w.alloc (.cells #[.slice none 0 0] 48)).alloc (.cells #[.iface 86 (.pointer (some ⟨w.heap.size+1+1,0,none⟩))] 36)).alloc (fltO 0 9)).cell? ⟨w.heap.size+1,0,none⟩=some (.iface 86 (.pointer (some ⟨w.heap.size+1+1,0,none⟩)))):=⟨by rw[Lib.cell_of_heap b1];rfl,by rw[Lib.cell_of_heap b2];rfl⟩
  have HB:Hid ((((w.alloc (.cells #[.slice none 0 0] 48)).alloc (.cells #[.iface 86 (.pointer (some ⟨w.heap.size+1+1,0,none⟩))] 36)).alloc (fltO 0 9)).heap[w.heap.size+1+1]?=some (fltO 0 9)):=a3
  clear a1 a2 a3 b1 b2 z1 z2
  go_wp2
  exact⟨_,Zpw _ _ w.heap.size (w.heap.size+1) 0 0 none (.iface 86 (.pointer (some ⟨w.heap.size+1+1,0,none⟩))) rfl rfl HA.out.1 HA.out.2,w.heap.size+1+1,rfl,HB.out,hlow⟩
 ·rw[if_neg hlong] at HX2
  obtain⟨L,hL⟩:∃ L,splitL t=L:=⟨_,rfl⟩
  rw[hL] at HX2
  have hshort:¬ (1048576:Int)<(t.length:Int):=by omega
  obtain⟨Pn,hPnd⟩:∃ Pn,PnP w X=Pn:=⟨_,rfl⟩
  have HPn:Hid (∀ c (a:Act) u,Pn c u→a.tmps.getD 2 undef=.pointer (some ⟨w.heap.size,0,none⟩)→a.tmps.getD 3 undef=.pointer (some ⟨w.heap.size+1,0,none⟩)→a.defers=[{ target:=.fn (.func 68) #[.pointer (some ⟨w.heap.size,0,none⟩),.pointer (some ⟨w.heap.size+1,0,none⟩)],args:=#[] }]→bodyPostD Tryz.prog Tryz.f26 (fun e w'=>PrQ w X e w') (.panic c) a u):=(by rw[← hPnd];exact Zuc)
  have HPd:Hid (PnP w X=Pn):=hPnd
  clear hPnd
  have hs:=fun u=>ZlX t u hl
  rw[hL] at hs
  have HPl:Hid (Plain L):=(by rw[← hL];exact Zsg t)
  have HSl:Hid (∀ s∈L,s.length≤1099511627):=(by
   intro s hs
   rw[← hL] at hs
   have:=Zsk (M:=1048576) (t:=t) (by omega) s hs
   omega)
  have hLl:L.length≤137438953472:=(by
   rw[← hL]
   have:=split_len t
   omega)
  clear hL
  go_enter_defers Tryz.func26,Tryz.ntmps26
  go_wp2_with fail
  refine (hs _).mono ?_
  rintro e w1 ⟨vL,rfl,hown,hB1⟩
  obtain⟨lo,lc,rfl⟩:=(holds_of hown).form
  obtain⟨wA,hwA⟩:∃ u,(w.alloc (.cells #[.slice none 0 0] 48)).alloc (.cells #[.nilIface] 36)=u:=⟨_,rfl⟩
  have a1:=heap_alloc_new w (.cells #[.slice none 0 0] 48)
  have a2:=heap_alloc_new (w.alloc (.cells #[.slice none 0 0] 48)) (.cells #[.nilIface] 36)
  have z1:(w.alloc (.cells #[.slice none 0 0] 48)).heap.size=w.heap.size+1:=by simp
  have z2:wA.heap.size=w.heap.size+1+1:=(by rw[← hwA];simp)
  rw[z1] at a2
  have a3:=(Lib.alloc_old (w.alloc (.cells #[.slice none 0 0] 48)) (.cells #[.nilIface] 36) w.heap.size (by rw[z1];omega)).trans a1
  rw[hwA] at a2 a3 hown hB1
  have b1:Below w.heap.size w wA:=(by rw[← hwA];exact ((Below.refl _ w).alloc (Nat.le_refl _) _).alloc (by rw[z1];omega) _)
  have hR0:RdU w w1.heap.size L (.slice lo L.length lc) (.slice none 0 0) [] 0 (w1.alloc (.cells #[.slice lo L.length lc,.int .i64 0] 126)):=(by
   have hsz:=hB1.size
   have hB2:Below w1.heap.size w1 (w1.alloc (.cells #[.slice lo L.length lc,.int .i64 0] 126)):=(Below.refl _ w1).alloc (Nat.le_refl _) _
   refine⟨⟨(b1.trans (hB1.mono (by omega))).trans (hB2.mono (by omega)),Zii _ _ _ _,fun f hf=>(by cases hf)⟩,?_,?_,heap_alloc_new _ _,by omega,ZnI (Znz hown (by omega)) hB2⟩
   ·exact (hB2.block _ (by omega)).trans ((hB1.block _ (by omega)).trans a3)
   ·exact (hB2.block _ (by omega)).trans ((hB1.block _ (by omega)).trans a2))
  have HX0:Hid (thenPs (([]:List Pfd).map (·.x)) (upsP atC L.length ([]:List Pfd).length 0 (L.drop 0))=X):=(by
   show _=_
   rw[← HX2]
   simp only[List.map_nil,List.drop_zero,List.length_nil]
   cases upsP atC L.length 0 0 L<;>rfl)
  clear HX2 hs hown hB1 hwA a1 a2 a3 b1 z1 z2
  go_wp2
  generalize w1.alloc (.cells #[.slice lo L.length lc,.int .i64 0] 126)=w2 at hR0 ⊢
  generalize w1.heap.size=R at hR0 ⊢
  go_loopw [] (fun wr=>∃ (ov:Value) (F:List Pfd) (p f:Nat),(∃ o c,ov=.slice o F.length c)∧RdU w R L (.slice lo L.length lc) ov F p wr∧p≤L.length∧F.length≤64∧Hid ((L.drop p).length≤f)∧Hid (thenPs (F.map (·.x)) (upsP atC f F.length p (L.drop p))=X)) (fun wr=>L.length-ukN wr R)
  case atStart=>exact⟨_,[],0,L.length,⟨none,0,rfl⟩,hR0,Nat.zero_le _,Nat.zero_le _,(by show _≤_;simp),HX0⟩
  case round =>
  clear hR0 HX0
  obtain⟨ov,F,p,f,⟨o,c,rfl⟩,hR,hp,hFl,HF,HI⟩:=hrel
  obtain⟨d0,d1⟩:=hR.ck.cells
  have HK:Hid (ukN wr R=p):=ZtE hR.ck
  by_cases hlt:p<L.length
  ·have hf:=HF.out
   have hfl:0<f:=(by rw[List.length_drop] at hf;omega)
   obtain⟨f',rfl⟩:∃ f',f=f'+1:=⟨f-1,by omega⟩
   have hne:L.drop p≠[]:=(by intro h;have:=congrArg List.length h;rw[List.length_drop] at this;simp at this;omega)
   have HIe:Hid (∀ e,patU F.length p (L.drop p)=.error e→X=.error e):=(by
    intro e he
    rw[← HI.out,Zuf,if_neg hne,he]
    rfl)
   have HN:Hid (∀ x p2 r,patU F.length p (L.drop p)=.ok (x,p2,r)→p2≤L.length∧p<p2∧Hid ((L.drop p2).length≤f')∧F.length<64∧r=L.drop p2):=(by
    intro x p2 r hk
    obtain⟨b1,b2,b3,b4⟩:=ZtZ HPl.out hk
    rw[List.length_drop] at hf
    exact⟨b3,b2,(by show _≤_;rw[List.length_drop];omega),b4,b1⟩)
   have HN2:Hid (∀ x p2 r v H,patU F.length p (L.drop p)=.ok (x,p2,r)→Hid (thenPs ((F++[(⟨x,v,H⟩:Pfd)]).map (·.x)) (upsP atC f' (F++[(⟨x,v,H⟩:Pfd)]).length p2 (L.drop p2))=X)):=(by
    intro x p2 r v H hk
    show _=_
    have hr:=(HN.out x p2 r hk).2.2.2.2
    rw[← HI.out,Zuf,if_neg hne,hk]
    dsimp only
    rw[hr,List.length_append,List.map_append]
    show thenPs (F.map (·.x)++[x]) (upsP atC f' (F.length+1) p2 (L.drop p2))=_
    cases upsP atC f' (F.length+1) p2 (L.drop p2) with
    | error e=>rfl
    | ok m=>simp[thenPs])
   have hRd:=hR.keep (Below.drew (Below.refl _ _))
   obtain⟨Rr,hRr⟩:∃ Rr:Value→World→Prop,(fun v u=>∃ x p2 r vo vc H,patU F.length p (L.drop p)=.ok (x,p2,r)∧v=.agg #[.string ⟨x.old.toArray⟩,.string ⟨x.new.toArray⟩,.slice vo H.length vc]∧RdU w R L (.slice lo L.length lc) (.slice o F.length c) F p2 u∧Pown w.heap.size u ⟨x,.slice vo H.length vc,H⟩)=Rr:=⟨_,rfl⟩
   have hcall:Calls Tryz.prog 69 (#[.pointer (some ⟨R,0,none⟩),.int .i64 (F.length:Int)]++#[]) wr.drew fun e w'=>(∃ v,e=.returned v∧True∧Rr v w')∨(∃ c,e=.panicked c∧Pn c w'):=(by
    obtain⟨Y,hY⟩:∃ Y,patU F.length p (L.drop p)=Y:=⟨_,rfl⟩
    have hsz:=hRd.pw.low.size
    have hrl:=hRd.rl
    refine (Zua hFl wr.drew hRd.ck (fun u hu=>hRd.lines hu) HPl hp hLl HSl (hmx.low hRd.pw.low) (Nat.lt_of_lt_of_le (Nat.lt_of_lt_of_le hmx.lt (by omega)) (Nat.le_of_lt hRd.rl)) Y hY).mono ?_
    intro e w' hq
    cases Y with
    | error z =>
     obtain⟨a,z⟩:=z
     obtain⟨⟨g,rfl,hg⟩,hgr⟩:=hq
     right
     refine⟨_,rfl,?_⟩
     rw[← HPd.out]
     have hk:∀ k x,k≠R→wr.drew.heap[k]?=some x→w'.heap[k]?=some x:=fun k _ hk hx=>(hgr.block k (Array.getElem?_eq_some_iff.1 hx).1 (fun e=>hk (Option.some.inj e))).trans hx
     exact⟨g,a,z,_,rfl,hg,HIe.out _ hY,hRd.pw.low.grown hgr hsz (fun k e=>by cases e;omega),hk _ _ (by omega) hRd.f0,hk _ _ (by omega) hRd.f1⟩
    | ok z =>
     obtain⟨x,p2,r⟩:=z
     obtain⟨hv,H,rfl,hxe,hown,hins,q,hgr⟩:=hq
     obtain⟨vo,vc,rfl⟩:=(holds_of hown).form
     left
     rw[← hRr]
     exact⟨_,rfl,trivial,x,p2,r,vo,vc,H,hY,rfl,hRd.call hgr q,⟨hxe,Znz hown hsz,fun y hy=>Znz (hins y hy) hsz⟩⟩)
   have i1:(p:Int)<(L.length:Int):=by omega
   have HRr:Hid (_=Rr):=hRr
   clear hRr HI
   go_upto_region 6 with fail
   refine Zvb Pn (.pointer (some ⟨w.heap.size,0,none⟩)) (.pointer (some ⟨w.heap.size+1,0,none⟩)) [{ target:=.fn (.func 68) #[.pointer (some ⟨w.heap.size,0,none⟩),.pointer (some ⟨w.heap.size+1,0,none⟩)],args:=#[] }] (fun c a u h1 h2 h3 h4=>HPn.out c a u h1 h2 h3 h4) ?_
   refine wp_region_held_drew (S:=fun _=>True) (by kernel_rfl) trivial (fun _=>?_)
   generalize wr.drew=wd at hRd hcall ⊢
   have c0d:=hRd.c0
   refine ZgT 0 22 _ 1 23 _ rfl (by kernel_rfl) rfl (by kernel_rfl) (by kernel_rfl) (by kernel_rfl) (by kernel_rfl) (.slice o F.length c) wd (ZkC c0d (.tmp 2) (by kernel_rfl) (by kernel_rfl)) trivial (.slice o F.length c) wd (ZkC c0d (.tmp 2) (by kernel_rfl) (by kernel_rfl)) trivial ?_ ?_
   ·simp only[Act.put,Y_a,Y_b,Y_c]
    refine Y_v 1 23 _ rfl (.slice o F.length c) wd (ZkC c0d (.tmp 2) (by kernel_rfl) (by kernel_rfl)) trivial ?_
    simp only[Act.put,Y_a,Y_b,Y_c]
    refine ZgS 2 24 _ (.int .i64 (F.length:Int)) rfl (by kernel_rfl) (by kernel_rfl) (by kernel_rfl) (by kernel_rfl) (ZnW (by decide) (by decide)) (Or.inl ⟨by kernel_rfl,fun u hu=>by kernel_rfl⟩) trivial ?_
    simp only[Act.put,Y_a,Y_b,Y_c]
    refine ZgQ 3 25 _ rfl (by kernel_rfl) (by kernel_rfl) (by kernel_rfl) 69 (.func 69) #[.tmp 4,.tmp 24] #[126,3] (by kernel_rfl) #[] (by kernel_rfl) #[.pointer (some ⟨R,0,none⟩),.int .i64 (F.length:Int)] (by kernel_rfl) (enters_of Tryz.func69 (by kernel_rfl) rfl) Rr Pn (fun c u h=>⟨h,rfl,rfl,rfl⟩) ?_ ?_
    ·exact hcall
    intro v0 u1 _ hq
    rw[← HRr.out] at hq
    obtain⟨x,p2,r,vo,vc,H,hk2,rfl,hR1,hown1⟩:=hq
    have c1u:=hR1.c0
    have hRA:=hR1.keep ((Below.refl _ u1).alloc (Nat.le_refl _) (pxO ⟨x,.slice vo H.length vc,H⟩))
    have c2u:=hRA.c0
    simp only[Act.put,Y_a,Y_b,Y_c]
    refine Y_v 4 26 _ rfl (.slice (some ⟨u1.heap.size,0,none⟩) 1 1) (u1.alloc (pxO ⟨x,.slice vo H.length vc,H⟩)) (by kernel_rfl) trivial ?_
    simp only[Act.put,Y_a,Y_b,Y_c]
    have hlt2:=HN.out x p2 r hk2
    have hownA:=hown1.keep ((Below.refl _ u1).alloc (Nat.le_refl _) (pxO ⟨x,.slice vo H.length vc,H⟩))
    obtain⟨v3,u3,hr3,hown3,hg3,_⟩:=Zqx (u1.alloc (pxO ⟨x,.slice vo H.length vc,H⟩)) 48 55 48 (.agg #[.string ⟨#[]⟩,.string ⟨#[]⟩,.slice none 0 0]) 3 56 Tryz.underlying48 infoPx rfl (by decide) (by decide) w.heap.size _ _ _ hRA.pw.own _ 1 (pxC ⟨x,.slice vo H.length vc,H⟩) (Znp u1 ⟨x,.slice vo H.length vc,H⟩) rfl (fun u hu=>by simp[pxC] at hu;rcases hu with rfl | rfl | rfl<;>rfl) (by omega) hRA.pw.low.size
    have hR3:=hRA.more hownA hg3 hown3
    obtain⟨o3,k3,rfl⟩:=(holds_of hown3).form
    refine Y_v 5 27 _ rfl (.slice o3 (F.length+1) k3) u3 (Zfz (.tmp 22) (.tmp 26) (by kernel_rfl) (by kernel_rfl) (by kernel_rfl) hr3) trivial ?_
    simp only[Act.put,Y_a,Y_b,Y_c]
    refine Y_s 6 _ rfl (u3.setCell ⟨w.heap.size,0,none⟩ (.slice o3 (F.length+1) k3)) (ZfK hR3.2.1 hR3.2.2 (.tmp 2) (.tmp 27) (by kernel_rfl) (by kernel_rfl) (by kernel_rfl)) trivial ?_
    refine wpAnyH_done (by kernel_rfl) ?_ _
    refine PanC.normal ?_
    have hR4:=hR3.1
    go_wp2
    refine⟨⟨_,F++[⟨x,.slice vo H.length vc,H⟩],p2,f',⟨o3,k3,by rw[List.length_append];rfl⟩,hR4,hlt2.1,by rw[List.length_append];simp;omega,hlt2.2.2.1,HN2.out x p2 r _ _ hk2⟩,?_⟩
    rw[ZtE hR4.ck,HK.out]
    omega
   ·simp only[Act.put,Y_a,Y_b,Y_c]
    refine ZgS 2 24 _ (.int .i64 (F.length:Int)) rfl (by kernel_rfl) (by kernel_rfl) (by kernel_rfl) (by kernel_rfl) (ZnW (by decide) (by decide)) (Or.inl ⟨by kernel_rfl,fun u hu=>by kernel_rfl⟩) trivial ?_
    simp only[Act.put,Y_a,Y_b,Y_c]
    refine ZgW 0 22 _ 3 25 _ rfl (by kernel_rfl) rfl (by kernel_rfl) (by kernel_rfl) (by kernel_rfl) (by kernel_rfl) (.slice o F.length c) wd (ZkC c0d (.tmp 2) (by kernel_rfl) (by kernel_rfl)) trivial 69 (.func 69) #[.tmp 4,.tmp 24] #[126,3] (by kernel_rfl) #[] (by kernel_rfl) #[.pointer (some ⟨R,0,none⟩),.int .i64 (F.length:Int)] (by kernel_rfl) (enters_of Tryz.func69 (by kernel_rfl) rfl) Rr Pn (fun c u h=>⟨h,rfl,rfl,rfl⟩) ?_ ?_ ?_
    ·exact hcall
    ·simp only[Act.put,Y_a,Y_b,Y_c]
     refine ZgQ 3 25 _ rfl (by kernel_rfl) (by kernel_rfl) (by kernel_rfl) 69 (.func 69) #[.tmp 4,.tmp 24] #[126,3] (by kernel_rfl) #[] (by kernel_rfl) #[.pointer (some ⟨R,0,none⟩),.int .i64 (F.length:Int)] (by kernel_rfl) (enters_of Tryz.func69 (by kernel_rfl) rfl) Rr Pn (fun c u h=>⟨h,rfl,rfl,rfl⟩) ?_ ?_
     ·exact hcall
     intro v0 u1 _ hq
     rw[← HRr.out] at hq
     obtain⟨x,p2,r,vo,vc,H,hk2,rfl,hR1,hown1⟩:=hq
     have c1u:=hR1.c0
     have hRA:=hR1.keep ((Below.refl _ u1).alloc (Nat.le_refl _) (pxO ⟨x,.slice vo H.length vc,H⟩))
     have c2u:=hRA.c0
     simp only[Act.put,Y_a,Y_b,Y_c]
     refine Y_v 4 26 _ rfl (.slice (some ⟨u1.heap.size,0,none⟩) 1 1) (u1.alloc (pxO ⟨x,.slice vo H.length vc,H⟩)) (by kernel_rfl) trivial ?_
     simp only[Act.put,Y_a,Y_b,Y_c]
     have hlt2:=HN.out x p2 r hk2
     have hownA:=hown1.keep ((Below.refl _ u1).alloc (Nat.le_refl _) (pxO ⟨x,.slice vo H.length vc,H⟩))
     obtain⟨v3,u3,hr3,hown3,hg3,_⟩:=Zqx (u1.alloc (pxO ⟨x,.slice vo H.length vc,H⟩)) 48 55 48 (.agg #[.string ⟨#[]⟩,.string ⟨#[]⟩,.slice none 0 0]) 3 56 Tryz.underlying48 infoPx rfl (by decide) (by decide) w.heap.size _ _ _ hRA.pw.own _ 1 (pxC ⟨x,.slice vo H.length vc,H⟩) (Znp u1 ⟨x,.slice vo H.length vc,H⟩) rfl (fun u hu=>by simp[pxC] at hu;rcases hu with rfl | rfl | rfl<;>rfl) (by omega) hRA.pw.low.size
     have hR3:=hRA.more hownA hg3 hown3
     obtain⟨o3,k3,rfl⟩:=(holds_of hown3).form
     refine Y_v 5 27 _ rfl (.slice o3 (F.length+1) k3) u3 (Zfz (.tmp 22) (.tmp 26) (by kernel_rfl) (by kernel_rfl) (by kernel_rfl) hr3) trivial ?_
     simp only[Act.put,Y_a,Y_b,Y_c]
     refine Y_s 6 _ rfl (u3.setCell ⟨w.heap.size,0,none⟩ (.slice o3 (F.length+1) k3)) (ZfK hR3.2.1 hR3.2.2 (.tmp 2) (.tmp 27) (by kernel_rfl) (by kernel_rfl) (by kernel_rfl)) trivial ?_
     refine wpAnyH_done (by kernel_rfl) ?_ _
     refine PanC.normal ?_
     have hR4:=hR3.1
     go_wp2
     refine⟨⟨_,F++[⟨x,.slice vo H.length vc,H⟩],p2,f',⟨o3,k3,by rw[List.length_append];rfl⟩,hR4,hlt2.1,by rw[List.length_append];simp;omega,hlt2.2.2.1,HN2.out x p2 r _ _ hk2⟩,?_⟩
     rw[ZtE hR4.ck,HK.out]
     omega
    ·intro v0 u1 _ hq
     rw[← HRr.out] at hq
     obtain⟨x,p2,r,vo,vc,H,hk2,rfl,hR1,hown1⟩:=hq
     have c1u:=hR1.c0
     have hRA:=hR1.keep ((Below.refl _ u1).alloc (Nat.le_refl _) (pxO ⟨x,.slice vo H.length vc,H⟩))
     have c2u:=hRA.c0
     simp only[Act.put,Y_a,Y_b,Y_c]
     refine ZgT 0 22 _ 4 26 _ rfl (by kernel_rfl) rfl (by kernel_rfl) (by kernel_rfl) (by kernel_rfl) (by kernel_rfl) (.slice o F.length c) u1 (ZkC c1u (.tmp 2) (by kernel_rfl) (by kernel_rfl)) trivial (.slice (some ⟨u1.heap.size,0,none⟩) 1 1) (u1.alloc (pxO ⟨x,.slice vo H.length vc,H⟩)) (by kernel_rfl) trivial ?_ ?_
     ·simp only[Act.put,Y_a,Y_b,Y_c]
      refine Y_v 4 26 _ rfl (.slice (some ⟨u1.heap.size,0,none⟩) 1 1) (u1.alloc (pxO ⟨x,.slice vo H.length vc,H⟩)) (by kernel_rfl) trivial ?_
      simp only[Act.put,Y_a,Y_b,Y_c]
      have hlt2:=HN.out x p2 r hk2
      have hownA:=hown1.keep ((Below.refl _ u1).alloc (Nat.le_refl _) (pxO ⟨x,.slice vo H.length vc,H⟩))
      obtain⟨v3,u3,hr3,hown3,hg3,_⟩:=Zqx (u1.alloc (pxO ⟨x,.slice vo H.length vc,H⟩)) 48 55 48 (.agg #[.string ⟨#[]⟩,.string ⟨#[]⟩,.slice none 0 0]) 3 56 Tryz.underlying48 infoPx rfl (by decide) (by decide) w.heap.size _ _ _ hRA.pw.own _ 1 (pxC ⟨x,.slice vo H.length vc,H⟩) (Znp u1 ⟨x,.slice vo H.length vc,H⟩) rfl (fun u hu=>by simp[pxC] at hu;rcases hu with rfl | rfl | rfl<;>rfl) (by omega) hRA.pw.low.size
      have hR3:=hRA.more hownA hg3 hown3
      obtain⟨o3,k3,rfl⟩:=(holds_of hown3).form
      refine Y_v 5 27 _ rfl (.slice o3 (F.length+1) k3) u3 (Zfz (.tmp 22) (.tmp 26) (by kernel_rfl) (by kernel_rfl) (by kernel_rfl) hr3) trivial ?_
      simp only[Act.put,Y_a,Y_b,Y_c]
      refine Y_s 6 _ rfl (u3.setCell ⟨w.heap.size,0,none⟩ (.slice o3 (F.length+1) k3)) (ZfK hR3.2.1 hR3.2.2 (.tmp 2) (.tmp 27) (by kernel_rfl) (by kernel_rfl) (by kernel_rfl)) trivial ?_
      refine wpAnyH_done (by kernel_rfl) ?_ _
      refine PanC.normal ?_
      have hR4:=hR3.1
      go_wp2
      refine⟨⟨_,F++[⟨x,.slice vo H.length vc,H⟩],p2,f',⟨o3,k3,by rw[List.length_append];rfl⟩,hR4,hlt2.1,by rw[List.length_append];simp;omega,hlt2.2.2.1,HN2.out x p2 r _ _ hk2⟩,?_⟩
      rw[ZtE hR4.ck,HK.out]
      omega
     ·simp only[Act.put,Y_a,Y_b,Y_c]
      refine Y_v 0 22 _ rfl (.slice o F.length c) (u1.alloc (pxO ⟨x,.slice vo H.length vc,H⟩)) (ZkC c2u (.tmp 2) (by kernel_rfl) (by kernel_rfl)) trivial ?_
      simp only[Act.put,Y_a,Y_b,Y_c]
      have hlt2:=HN.out x p2 r hk2
      have hownA:=hown1.keep ((Below.refl _ u1).alloc (Nat.le_refl _) (pxO ⟨x,.slice vo H.length vc,H⟩))
      obtain⟨v3,u3,hr3,hown3,hg3,_⟩:=Zqx (u1.alloc (pxO ⟨x,.slice vo H.length vc,H⟩)) 48 55 48 (.agg #[.string ⟨#[]⟩,.string ⟨#[]⟩,.slice none 0 0]) 3 56 Tryz.underlying48 infoPx rfl (by decide) (by decide) w.heap.size _ _ _ hRA.pw.own _ 1 (pxC ⟨x,.slice vo H.length vc,H⟩) (Znp u1 ⟨x,.slice vo H.length vc,H⟩) rfl (fun u hu=>by simp[pxC] at hu;rcases hu with rfl | rfl | rfl<;>rfl) (by omega) hRA.pw.low.size
      have hR3:=hRA.more hownA hg3 hown3
      obtain⟨o3,k3,rfl⟩:=(holds_of hown3).form
      refine Y_v 5 27 _ rfl (.slice o3 (F.length+1) k3) u3 (Zfz (.tmp 22) (.tmp 26) (by kernel_rfl) (by kernel_rfl) (by kernel_rfl) hr3) trivial ?_
      simp only[Act.put,Y_a,Y_b,Y_c]
      refine Y_s 6 _ rfl (u3.setCell ⟨w.heap.size,0,none⟩ (.slice o3 (F.length+1) k3)) (ZfK hR3.2.1 hR3.2.2 (.tmp 2) (.tmp 27) (by kernel_rfl) (by kernel_rfl) (by kernel_rfl)) trivial ?_
      refine wpAnyH_done (by kernel_rfl) ?_ _
      refine PanC.normal ?_
      have hR4:=hR3.1
      go_wp2
      refine⟨⟨_,F++[⟨x,.slice vo H.length vc,H⟩],p2,f',⟨o3,k3,by rw[List.length_append];rfl⟩,hR4,hlt2.1,by rw[List.length_append];simp;omega,hlt2.2.2.1,HN2.out x p2 r _ _ hk2⟩,?_⟩
      rw[ZtE hR4.ck,HK.out]
      omega
  ·have hend:decide ((p:Int)<(L.length:Int))=false:=decide_eq_false (by omega)
   have hXv:X=.ok (F.map (·.x)):=(by
    rw[← HI.out,List.drop_eq_nil_of_le (by omega)]
    cases f with
    | zero=>simp[upsP,thenPs]
    | succ f=>simp[upsP,thenPs])
   have c0:=hR.c0
   have c1:wr.cell? ⟨w.heap.size+1,0,none⟩=some .nilIface:=by rw[Lib.cell_of_heap hR.f1];rfl
   have z0:=Lib.frozen_of_heap hR.f0 0
   have z1:=Lib.frozen_of_heap hR.f1 0
   have g0:=Zhd wr w.heap.size 0 (.slice o F.length c)
   have s0:=heap_setCell_same wr w.heap.size 0 _ _ (.slice o F.length c) hR.f0
   have h1:Pw w (.slice o F.length c) F (wr.setCell ⟨w.heap.size,0,none⟩ (.slice o F.length c)):=⟨hR.pw.low.setCell (Nat.le_refl _) _,hR.pw.own.kept g0 (.inr (ZnB hR.pw.own hR.f0 (by decide))),fun f hf=>(hR.pw.ins f hf).box hR.f0 (by decide) (by decide) g0⟩
   have t1:(wr.setCell ⟨w.heap.size,0,none⟩ (.slice o F.length c)).heap[w.heap.size+1]?=some (.cells #[.nilIface] 36):=(Below.heap_setCell _ _ _ _ (by simp)).trans hR.f1
   have g1:=Zhd (wr.setCell ⟨w.heap.size,0,none⟩ (.slice o F.length c)) (w.heap.size+1) 0 .nilIface
   have s1:=heap_setCell_same _ (w.heap.size+1) 0 _ _ .nilIface t1
   have s2:((wr.setCell ⟨w.heap.size,0,none⟩ (.slice o F.length c)).setCell ⟨w.heap.size+1,0,none⟩ .nilIface).heap[w.heap.size]?=_:=(Below.heap_setCell _ _ _ _ (by simp)).trans s0
   have h2:Pw w (.slice o F.length c) F ((wr.setCell ⟨w.heap.size,0,none⟩ (.slice o F.length c)).setCell ⟨w.heap.size+1,0,none⟩ .nilIface):=⟨h1.low.setCell (by show w.heap.size≤w.heap.size+1;omega) _,h1.own.kept g1 (.inr (ZnB h1.own t1 (by decide))),fun f hf=>(h1.ins f hf).box t1 (by decide) (by decide) g1⟩
   have c1':(wr.setCell ⟨w.heap.size,0,none⟩ (.slice o F.length c)).cell? ⟨w.heap.size+1,0,none⟩=some .nilIface:=by rw[Lib.cell_of_heap t1];rfl
   have z1':=Lib.frozen_of_heap t1 0
   have e0:((wr.setCell ⟨w.heap.size,0,none⟩ (.slice o F.length c)).setCell ⟨w.heap.size+1,0,none⟩ .nilIface).cell? ⟨w.heap.size,0,none⟩=some (.slice o F.length c):=by rw[Lib.cell_of_heap s2];rfl
   have e1:((wr.setCell ⟨w.heap.size,0,none⟩ (.slice o F.length c)).setCell ⟨w.heap.size+1,0,none⟩ .nilIface).cell? ⟨w.heap.size+1,0,none⟩=some .nilIface:=by rw[Lib.cell_of_heap s1];rfl
   subst hXv
   clear HI HPn HPd hR h1 g0 g1 s0 s1 s2 t1
   go_wp2
   refine leaves_cons (f:=68) (args:=#[.pointer (some ⟨w.heap.size,0,none⟩),.pointer (some ⟨w.heap.size+1,0,none⟩)]) (by simp) (by simp[go_sem]) ?_
   refine (Zch _ _ _).mono ?_
   rintro e u' w'' ⟨rfl,rfl,rfl⟩
   exact⟨_,Zpw _ _ w.heap.size (w.heap.size+1) F.length c o .nilIface rfl rfl e0 e1,_,F,rfl,h2,rfl⟩
end

end Go.Proofs.YtgiojkhmkeocfaaGreatDoor
