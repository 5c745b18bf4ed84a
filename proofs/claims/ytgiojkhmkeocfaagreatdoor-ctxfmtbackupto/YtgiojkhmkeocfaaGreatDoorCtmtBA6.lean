/-
  Texts that belong together, joined: HuC9, HuMk, HuCa, HuLw, MiMath, MiLen, MiMs, MiFr, MiLc, MiRep, MiKp, MiKw.
-/
import Derived.Test.YtgiojkhmkeocfaaGreatDoorCtmtBA5
import Derived.Test.YtgiojkhmkeocfaaGreatDoorCtmtBA3
import Derived.Test.YtgiojkhmkeocfaaGreatDoorCtmtBA4
import Derived.Deep.CutRange
import Derived.Sort.AtCall
import Derived.Laws.CopyOwn
import Derived.Laws.Bits64b

set_option maxHeartbeats 16000000
set_option maxRecDepth 100000
namespace Go.Proofs.YtgiojkhmkeocfaaGreatDoor

section
open Go.RowKit
def Lb (w:World) (x:List Mk) (u:World):Prop:=∃ (ov:Value) (an bn:Int),La w ⟨0,an,0,bn,x⟩ ov u∧((pkL 43 x).length:Int)=an∧((pkL 45 x).length:Int)=bn
theorem Lb.alloc {w u:World} {x:List Mk} (h:Lb w x u) (o:Obj):Lb w x (u.alloc o):=by
 obtain⟨ov,an,bn,h1,h2⟩:=h
 exact⟨ov,an,bn,h1.alloc o,h2⟩
theorem Lb.low {w u:World} {x:List Mk} (h:Lb w x u):Below w.heap.size w u:=by
 obtain⟨ov,an,bn,h1,h2⟩:=h
 exact h1.low
theorem pk_add (no:Int) (x y:List Mk):((pkL no x).length:Int)+((pkL no y).length:Int)=((pkL no (x++y)).length:Int):=by
 rw[pkL_append,List.length_append]
 omega
theorem hlay2_f (w u:World) (x:List Mk) (sg:Int) (t:List (List UInt8)) (vt:Value) (hL:Lb w x u) (hsg:sg=32∨sg=45∨sg=43) (ht:HS w vt t) (x':List Mk) (HX:Hid (x++mks sg t=x')) (hlen:x'.length≤1099511627776):Calls Tryz.prog 87 #[.int .u8 sg,vt,.pointer (some ⟨w.heap.size,0,none⟩)] u fun e u'=>e=.returned (.tuple #[])∧Lb w x' u'∧CK u u':=by
 obtain⟨ov,an,bn,h1,h2,h3⟩:=hL
 have e1:=pkL_length 43 x
 have e2:=pkL_length 45 x
 have hl:x.length+t.length=x'.length:=by rw[← HX.out,List.length_append,mks_length]
 have h4:an+((pkL 43 (mks sg t)).length:Int)=((pkL 43 x').length:Int):=by rw[← h2,← HX.out];exact pk_add 43 _ _
 have h5:bn+((pkL 45 (mks sg t)).length:Int)=((pkL 45 x').length:Int):=by rw[← h3,← HX.out];exact pk_add 45 _ _
 refine (hlay_f w u ⟨0,an,0,bn,x⟩ ov sg t vt h1 hsg ht (by dsimp only;omega) (by dsimp only;omega) (by dsimp only;omega) _ _ x' h4 h5 HX).mono ?_
 rintro e u' ⟨rfl,⟨ov',h6⟩,h7⟩
 exact⟨rfl,⟨ov',_,_,h6,rfl,rfl⟩,h7⟩
theorem exec_subI {u:World} {p q:Int} (h:IntKind.i64.wrap (p-q)=p-q) {op:Oper} (x y:Operand) (ho:op.op=.binOp .sub 3 x y 3) {ev:Operand→Value} (hx:ev x=.int .i64 p) (hy:ev y=.int .i64 q) :
  (execOp ev op).run Tryz.prog u=.ok (.value (.int .i64 (p-q))) u:=by
 simp only[execOp,ho,hx,hy]
 go_simp
theorem exec_storeI {u:World} {a:Addr} (hf:u.frozen? a=false) {z0:Int} (hc:u.cell? a=some (.int .i64 z0)) {z:Int} {op:Oper} (x y:Operand) (ho:op.op=.store 3 x y) {ev:Operand→Value} (hx:ev x=.pointer (some a)) (hy:ev y=.int .i64 z) :
  (execOp ev op).run Tryz.prog u=.ok .skip (u.setCell a (.int .i64 z)):=by
 simp only[execOp,ho,hx,hy]
 go_simp
theorem haround_f (g rest:List Ch) (f:Ch) (a b:List (List UInt8)) (ctx:Int) (vg va vb:Value) (w:World) (hg:HCh w vg (f::g)) (ha:HS w va a) (hb:HS w vb b) (hal:a.length≤1099511627776) (hbl:b.length≤1099511627776) (hgl:g.length≤1099511627776) (hc:0≤ctx∧ctx≤100) (hR:Right true (f.A-min ctx f.A) (f.B-min ctx f.A) a.length b.length (f::g++rest))
  (hfb:0≤f.B-min ctx f.A) (hnl:∀ c∈f::g,0≤c.A∧c.A≤2147483647∧0≤c.AN∧c.AN≤2147483647) (R:Hk) (HR:Hid (oneH a b ctx (f::g)=R)) (hRl:R.ls.length≤549755813888):Calls Tryz.prog 44 #[vg,va,vb,.int .i64 ctx] w fun e w'=>∃ v',e=.returned (hkV R v')∧w'.ownsRow w.heap.size 103 2 v' R.ls.length (mkcells R.ls)∧Below w.heap.size w w':=by
 obtain⟨go,gc,rfl⟩:=Holds.form hg
 obtain⟨ao,ac,rfl⟩:=Holds.form ha
 obtain⟨bo,bc,rfl⟩:=Holds.form hb
 obtain⟨gb,gf,rfl,_,hgc⟩:=HCh.at hg (by simp)
 have p0:=hgc 0 (by simp)
 rw[List.getElem_cons_zero] at p0
 clear hgc
 obtain⟨N,hN⟩:∃ N,g.length=N:=⟨_,rfl⟩
 have HNN:Hid (g.length=N):=hN
 rw[hN] at hgl
 rw[List.length_cons,hN] at hg ⊢
 clear hN
 have hnf:=hnl f (by simp)
 have hRf:=hR
 rw[List.cons_append] at hRf
 have hnumf:=(numB_iff f).1 hRf.1.1
 obtain⟨m,hm⟩:∃ m,min ctx f.A=m:=⟨_,rfl⟩
 have hm1:(if f.A<ctx then f.A else ctx)=m:=by rw[← hm];split<;>omega
 have hmb:0≤m∧m≤f.A∧m≤ctx:=by omega
 obtain⟨E,hE⟩:∃ E,endH a.length ctx (f::g)=E:=⟨_,rfl⟩
 obtain⟨RL,hRL⟩:∃ RL,bodyH a b E (f.A-m) (f::g)=RL:=⟨_,rfl⟩
 have HRR:Hid (R=cntH (f.A-m) (f.B-m) RL):=(by
  show _=_
  rw[← HR.out]
  show cntH (f.A-min ctx f.A) (f.B-min ctx f.A) (bodyH a b (endH a.length ctx (f::g)) (f.A-min ctx f.A) (f::g))=_
  rw[hm,hE,hRL])
 have hRLl:RL.length≤549755813888:=by have:=hRl;rw[HRR.out] at this;exact this
 have HEE:Hid (min (a.length:Int) (endA (f.A-m) (f::g)+ctx)=E):=(by show _=_;rw[← hE,endH_eq _ _ _ _ (f.A-m)])
 have HRL:Hid (bodyH a b E (f.A-m) (f::g)=RL):=hRL
 rw[hm] at hR hfb
 have HRT:Hid (Right true (f.A-m) (f.B-m) a.length b.length (f::g++rest)∧0≤f.B-m):=⟨hR,hfb⟩
 have HNL:Hid (∀ c∈f::g,0≤c.A∧c.A≤2147483647∧0≤c.AN∧c.AN≤2147483647):=hnl
 have HRLL:Hid (R.ls.length=RL.length):=(by show _=_;rw[HRR.out];rfl)
 clear hRL hR HR hE hm hRf hnl hRl
 -- the boxes
 have hz0:=Hx.new w ⟨0,0,0,0,[]⟩ (.slice none 0 0)
 have hB0:Below w.heap.size w (w.alloc (hkO ⟨0,0,0,0,[]⟩ (.slice none 0 0))):=(Below.refl _ w).alloc (Nat.le_refl _) _
 have HW1:Hid ((w.alloc (hkO ⟨0,0,0,0,[]⟩ (.slice none 0 0))).heap.size=w.heap.size+1):=(by show _=_;simp)
 have hWa:w.alloc (Obj.cells #[Value.int IntKind.i64 0,Value.int IntKind.i64 0,Value.int IntKind.i64 0,Value.int IntKind.i64 0,.slice none 0 0] 59)=w.alloc (hkO ⟨0,0,0,0,[]⟩ (.slice none 0 0)):=rfl
 generalize hW1:w.alloc (hkO ⟨0,0,0,0,[]⟩ (.slice none 0 0))=W1 at *
 have hB1:Below W1.heap.size W1 (W1.alloc (hkO ⟨0,0,0,0,[]⟩ (.slice none 0 0))):=(Below.refl _ W1).alloc (Nat.le_refl _) _
 have hLb:Lb W1 [] (W1.alloc (hkO ⟨0,0,0,0,[]⟩ (.slice none 0 0))):=⟨_,0,0,⟨hB1,Hx.new W1 _ _,hnil_row _ _ _ _⟩,rfl,rfl⟩
 have HW2:Hid ((W1.alloc (hkO ⟨0,0,0,0,[]⟩ (.slice none 0 0))).heap.size=W1.heap.size+1):=(by show _=_;simp)
 have hWb:W1.alloc (Obj.cells #[Value.int IntKind.i64 0,Value.int IntKind.i64 0,Value.int IntKind.i64 0,Value.int IntKind.i64 0,.slice none 0 0] 59)=W1.alloc (hkO ⟨0,0,0,0,[]⟩ (.slice none 0 0)):=rfl
 generalize hW2:W1.alloc (hkO ⟨0,0,0,0,[]⟩ (.slice none 0 0))=W2 at *
 have hB02:=hB0.trans (hB1.mono hB0.size)
 have r0:ChAt W2 gb (gf+0 * 4) f:=ChAt.low p0 hB02
 rw[show gf+0 * 4=gf by omega] at r0
 obtain⟨q0,q1,q2,q3⟩:=r0
 have hc11:=Cx.new W2 f
 have hLb2:=hLb.alloc (chO f)
 obtain⟨x0,x1,x2,x3⟩:=hc11.cells
 have hWc:W2.alloc (Obj.cells #[Value.int IntKind.i64 f.A,Value.int IntKind.i64 f.AN,Value.int IntKind.i64 f.B,Value.int IntKind.i64 f.BN] 64)=W2.alloc (chO f):=rfl
 clear p0 hW1 hW2 hLb
 generalize hW3:W2.alloc (chO f)=W3 at *
 have n1:(0:Int)<(N:Int)+1:=by omega
 go_enter Tryz.func44,Tryz.ntmps44
 go_wp2
 clear hWa hWb hWc q0 q1 q2 q3 x0 x1 x2 x3 hW3
 generalize hB11:W2.heap.size=B11 at *
 have hA1:HS W1 (.slice ao a.length ac) a:=HS.keep ha hB0 (Nat.le_refl _)
 have hA2:HS W1 (.slice bo b.length bc) b:=HS.keep hb hB0 (Nat.le_refl _)
 go_loopw [13,30] (fun nv iv wr=>∃ (i:Nat) (p q:Int) (fl:Bool) (x:List Mk),i≤N+1∧nv=.int .i64 p∧iv=.int .i64 (i:Int)∧(0≤p∧p≤4294967296)∧Lb W1 x wr∧Cx wr B11 f∧Hid (min (a.length:Int) (endA p ((f::g).drop i)+ctx)=E)∧Hid (Right fl p q a.length b.length ((f::g).drop i++rest)∧0≤q)∧Hid (x++bodyH a b E p ((f::g).drop i)=RL)) (fun _ iv _=>N+1-(intOf iv).toNat)
 case atStart=>exact⟨0,f.A-m,f.B-m,true,[],Nat.zero_le _,rfl,by go_num,by omega,hLb2,hc11,HEE,HRT,HRL⟩
 case round =>
  obtain⟨i,p,q,fl,x,hi,rfl,rfl,hpb,hL,hc11,HEi,HRi,HI⟩:=hrel
  clear HEE HRT HRL hLb2
  have hBw:Below w.heap.size w wr:=hB0.trans (hL.low.mono hB0.size)
  by_cases hlt:i<N+1
  ·have hil:i<(f::g).length:=by rw[List.length_cons,HNN.out];exact hlt
   obtain⟨c,hci⟩:∃ c,(f::g)[i]=c:=⟨_,rfl⟩
   have hdr:(f::g).drop i=c::(f::g).drop (i+1):=by rw[List.drop_eq_getElem_cons hil,hci]
   have hgA:ChAt wr gb (gf+i * 4) c:=(by
    have hg2:HCh w (.slice (some ⟨gb,gf,none⟩) (N+1) gc) (f::g):=hg
    obtain⟨b',off',e,_,hc'⟩:=HCh.at (HCh.keep hg2 hBw (Nat.le_refl _)) (by simp)
    cases e
    have:=hc' i hil
    rw[hci] at this
    exact this)
   have hncl:=HNL.out c (by rw[← hci];exact List.getElem_mem hil)
   have hRi:=HRi.out
   rw[hdr,List.cons_append] at hRi
   obtain⟨⟨⟨k1,k2,k3,k4⟩,k5⟩,hq0⟩:=hRi
   have k1':=(numB_iff c).1 k1
   have k6:=k5.le
   have HRn:Hid (Right false (c.A+c.AN) (c.B+c.BN) a.length b.length ((f::g).drop (i+1)++rest)∧0≤c.B+c.BN):=⟨k5,by omega⟩
   have HEn:Hid (min (a.length:Int) (endA (c.A+c.AN) ((f::g).drop (i+1))+ctx)=E):=(by have h:=HEi.out;rw[hdr] at h;exact h)
   have HI1:Hid (x++bodyH a b E p (c::(f::g).drop (i+1))=RL):=(by have h:=HI.out;rw[hdr] at h;exact h)
   obtain⟨cA,cAN,cB,cBN⟩:=c
   dsimp only at k1' k2 k3 k4 k5 k6 HRn HEn hncl
   obtain⟨RS,hRS⟩:∃ r,bodyH a b E (cA+cAN) ((f::g).drop (i+1))=r:=⟨_,rfl⟩
   have HRS:Hid (bodyH a b E (cA+cAN) ((f::g).drop (i+1))=RS):=hRS
   obtain⟨v1o,v1c,r1,h1⟩:=run_cut_to a ao ac p cA hpb.1 k3 (by omega) W1 hA1
   obtain⟨t1,ht1⟩:∃ t,cut a p (cA-p)=t:=⟨_,rfl⟩
   obtain⟨v2,r2,h2⟩:=run_cut a ao ac cA cAN (by omega) (by omega) (by omega) W1 hA1
   obtain⟨t2,ht2⟩:∃ t,cut a cA cAN=t:=⟨_,rfl⟩
   obtain⟨v3,r3,h3⟩:=run_cut b bo bc cB cBN (by omega) (by omega) (by omega) W1 hA2
   obtain⟨t3,ht3⟩:∃ t,cut b cB cBN=t:=⟨_,rfl⟩
   have s1:=h1 W1 hA1
   have s2:=h2 W1 hA1
   have s3:=h3 W1 hA2
   rw[ht1] at r1 s1
   rw[ht2] at s2
   rw[ht3] at s3
   obtain⟨v2o,v2c,rfl⟩:=Holds.form s2
   obtain⟨v3o,v3c,rfl⟩:=Holds.form s3
   obtain⟨x1,hx1⟩:∃ y,x++mks 32 t1=y:=⟨_,rfl⟩
   obtain⟨x2,hx2⟩:∃ y,x1++mks 45 t2=y:=⟨_,rfl⟩
   obtain⟨x3,hx3⟩:∃ y,x2++mks 43 t3=y:=⟨_,rfl⟩
   have hI3:x3++RS=RL:=(by
    have h:=HI1.out
    simp only[bodyH] at h
    rw[ht1,ht2,ht3,hRS] at h
    rw[← hx3,← hx2,← hx1,← h]
    simp)
   have HX1:Hid (x++mks 32 t1=x1):=hx1
   have HX2:Hid (x1++mks 45 t2=x2):=hx2
   have HX3:Hid (x2++mks 43 t3=x3):=hx3
   have HI3:Hid (x3++bodyH a b E (cA+cAN) ((f::g).drop (i+1))=RL):=(by show _=_;rw[hRS];exact hI3)
   have l3:x3.length≤549755813888:=by have:=congrArg List.length hI3;rw[List.length_append] at this;omega
   have l2:x2.length≤549755813888:=by have:=congrArg List.length hx3;rw[List.length_append] at this;omega
   have l1:x1.length≤549755813888:=by have:=congrArg List.length hx2;rw[List.length_append] at this;omega
   have i1:0≤(i:Int):=by omega
   have i2:(i:Int)<(N:Int)+1:=by omega
   obtain⟨d0,d1,d2,d3⟩:=hgA
   have hcc:=Cx.new wr ⟨cA,cAN,cB,cBN⟩
   have hL1:=hL.alloc (chO ⟨cA,cAN,cB,cBN⟩)
   have hf1:Cx (wr.alloc (chO ⟨cA,cAN,cB,cBN⟩)) B11 f:=hc11.low ((Below.refl _ wr).alloc (Nat.le_refl _) _)
   obtain⟨y0,y1,y2,y3⟩:=hcc.cells
   have hW:wr.alloc (Obj.cells #[Value.int IntKind.i64 cA,Value.int IntKind.i64 cAN,Value.int IntKind.i64 cB,Value.int IntKind.i64 cBN] 64)=wr.alloc (chO ⟨cA,cAN,cB,cBN⟩):=rfl
   dsimp only at d0 d1 d2 d3 y0 y1 y2 y3
   clear HI HI1 HEi HRi k5 hdr hci hil ht1 ht2 ht3 hx1 hx2 hx3 hI3 hRS h1 h2 h3 hL hc11
   generalize hwr1:wr.alloc (chO ⟨cA,cAN,cB,cBN⟩)=wr1 at *
   go_wp2_with fail
   generalize hBC:wr.heap.size=bC at *
   refine (hlay2_f W1 wr1 x 32 t1 _ hL1 (.inl rfl) s1 x1 HX1 (by omega)).mono ?_
   rintro e u1 ⟨rfl,hL2,hk1⟩
   have hcc1:=hk1 _ _ hcc
   have hf2:=hk1 _ _ hf1
   obtain⟨z0,z1,z2,z3⟩:=hcc1.cells
   dsimp only at z0 z1 z2 z3
   clear y0 y1 y2 y3 hW d0 d1 d2 d3 hL1 hcc hf1 hk1
   go_wp2_with fail
   refine (hlay2_f W1 u1 x1 45 t2 _ hL2 (.inr (.inl rfl)) s2 x2 HX2 (by omega)).mono ?_
   rintro e u2 ⟨rfl,hL3,hk2⟩
   have hcc2:=hk2 _ _ hcc1
   have hf3:=hk2 _ _ hf2
   obtain⟨y0,y1,y2,y3⟩:=hcc2.cells
   dsimp only at y0 y1 y2 y3
   clear z0 z1 z2 z3 hL2 hcc1 hf2 hk2
   go_wp2_with fail
   refine (hlay2_f W1 u2 x2 43 t3 _ hL3 (.inr (.inr rfl)) s3 x3 HX3 (by omega)).mono ?_
   rintro e u3 ⟨rfl,hL4,hk3⟩
   have hf4:=hk3 _ _ hf3
   clear y0 y1 y2 y3 hL3 hcc2 hf3 hk3
   go_wp2
   exact⟨⟨i+1,cA+cAN,cB+cBN,false,x3,by omega,rfl,by go_num,by omega,hL4,hf4,HEn,HRn,HI3⟩,by simp[intOf];omega⟩
  ·have hdr:(f::g).drop i=[]:=List.drop_of_length_le (by rw[List.length_cons,HNN.out];omega)
   have hE2:min (a.length:Int) (p+ctx)=E:=(by have h:=HEi.out;rw[hdr] at h;exact h)
   have hE1:(if (a.length:Int)<p+ctx then (a.length:Int) else p+ctx)=E:=by rw[← hE2];split<;>omega
   have hRi:=HRi.out.1
   rw[hdr,List.nil_append] at hRi
   have k6:=hRi.le
   have HI1:Hid (x++mks 32 (cut a p (E-p))=RL):=(by have h:=HI.out;rw[hdr] at h;exact h)
   obtain⟨v1o,v1c,r1,h1⟩:=run_cut_to a ao ac p E hpb.1 (by omega) (by omega) W1 hA1
   obtain⟨t1,ht1⟩:∃ t,cut a p (E-p)=t:=⟨_,rfl⟩
   have s1:=h1 W1 hA1
   rw[ht1] at r1 s1 HI1
   have hend:decide ((i:Int)<(N:Int)+1)=false:=decide_eq_false (by omega)
   clear HI HEi HRi hdr hRi ht1 h1 hE2
   go_wp2_with fail
   refine (hlay2_f W1 wr x 32 t1 _ hL (.inl rfl) s1 RL HI1 (by omega)).mono ?_
   rintro e wz ⟨rfl,hL2,hk1⟩
   have hf2:=hk1 _ _ hc11
   obtain⟨ov,an,bn,hL3,han,hbn⟩:=hL2
   have HAN:Hid (((pkL 43 RL).length:Int)=an):=han
   have HBN:Hid (((pkL 45 RL).length:Int)=bn):=hbn
   obtain⟨nA,hnA⟩:∃ z,(if 0<an then f.A-m+1 else f.A-m)=z:=⟨_,rfl⟩
   obtain⟨nB,hnB⟩:∃ z,(if 0<bn then f.B-m+1 else f.B-m)=z:=⟨_,rfl⟩
   have HNA:Hid ((if 0<an then f.A-m+1 else f.A-m)=nA):=hnA
   have HNB:Hid ((if 0<bn then f.B-m+1 else f.B-m)=nB):=hnB
   have HRv:Hid (R=⟨nA,an,nB,bn,RL⟩):=(by
    show _=_
    rw[HRR.out,← hnA,← hnB,← han,← hbn]
    unfold cntH
    simp only[Int.natCast_pos])
   have hw1:IntKind.i64.wrap (f.A-m)=f.A-m:=wrap_s (by omega) (by omega)
   have hw2:IntKind.i64.wrap (f.B-m)=f.B-m:=wrap_s (by omega) (by omega)
   clear hnA hnB han hbn hk1 hL hc11
   obtain⟨oo,oc,hov⟩:=(holds_of hL3.own).form
   dsimp only at hov
   subst hov
   have hLD:=hL3.drewN 1
   have hfD:Cx (wz.drewN 1) B11 f:=hf2
   have hcD0:=hLD.box.cells.1
   have hfD0:=hLD.box.frozen 0
   have hL4:=hLD.setA nA
   have hf4:=hLD.ck 0 (.int .i64 nA) _ _ hfD
   have hcD2:=hL4.box.cells.2.2.1
   have hfD2:=hL4.box.frozen 2
   have hL5:=hL4.setB nB
   have hf5:=hL4.ck 2 (.int .i64 nB) _ _ hf4
   dsimp only at hcD0 hcD2 hL4 hL5
   have hSD:∃ A B,La W1 ⟨A,an,B,bn,RL⟩ (.slice oo RL.length oc) (wz.drewN 1)∧Cx (wz.drewN 1) B11 f:=⟨0,0,hLD,hfD⟩
   have hS1:∃ A B,La W1 ⟨A,an,B,bn,RL⟩ (.slice oo RL.length oc) ((wz.drewN 1).setCell ⟨W1.heap.size,0,none⟩ (.int .i64 nA))∧Cx ((wz.drewN 1).setCell ⟨W1.heap.size,0,none⟩ (.int .i64 nA)) B11 f:=⟨nA,0,hL4,hf4⟩
   have hS2:∃ A B,La W1 ⟨A,an,B,bn,RL⟩ (.slice oo RL.length oc) (((wz.drewN 1).setCell ⟨W1.heap.size,0,none⟩ (.int .i64 nA)).setCell ⟨W1.heap.size,2,none⟩ (.int .i64 nB))∧Cx (((wz.drewN 1).setCell ⟨W1.heap.size,0,none⟩ (.int .i64 nA)).setCell ⟨W1.heap.size,2,none⟩ (.int .i64 nB)) B11 f:=⟨nA,nB,hL5,hf5⟩
   go_upto_region 15 with fail
   refine wp_region_noPanic ?_
   refine wp_region_held_drew (S:=fun u=>∃ A B,La W1 ⟨A,an,B,bn,RL⟩ (.slice oo RL.length oc) u∧Cx u B11 f) (by kernel_rfl) hSD (fun hHeld=>?_)
   refine go_take 0 76 _ (.pointer (some ⟨B11,0,none⟩)) rfl (by kernel_rfl) (by kernel_rfl) (by kernel_rfl) (by kernel_rfl) (fun _ _ _ h=>h) (Or.inl ⟨by kernel_rfl,fun u hu=>by kernel_rfl⟩) hHeld ?_
   simp only[Act.put,List.setIfInBounds_toArray,List.set_cons_zero,List.set_cons_succ]
   refine go_take 1 77 _ (.int .i64 f.A) rfl (by kernel_rfl) (by kernel_rfl) (by kernel_rfl) (by kernel_rfl) (fun _ _ _ h=>h) (Or.inl ⟨by kernel_rfl,fun u hu=>(by obtain⟨_,_,_,hc⟩:=hu;exact load_int hc.cells.1 (.tmp 76) (by kernel_rfl) (by kernel_rfl))⟩) hHeld ?_
   simp only[Act.put,List.setIfInBounds_toArray,List.set_cons_zero,List.set_cons_succ]
   refine go_take 2 78 _ (.int .i64 m) rfl (by kernel_rfl) (by kernel_rfl) (by kernel_rfl) (by kernel_rfl) (fun _ _ _ h=>h) (Or.inl ⟨by kernel_rfl,fun u hu=>by kernel_rfl⟩) hHeld ?_
   simp only[Act.put,List.setIfInBounds_toArray,List.set_cons_zero,List.set_cons_succ]
   refine go_take 3 79 _ (.int .i64 (f.A-m)) rfl (by kernel_rfl) (by kernel_rfl) (by kernel_rfl) (by kernel_rfl) (fun _ _ _ h=>h) (Or.inl ⟨by kernel_rfl,fun u hu=>exec_subI hw1 (.tmp 77) (.tmp 78) (by kernel_rfl) (by kernel_rfl) (by kernel_rfl)⟩) hHeld ?_
   simp only[Act.put,List.setIfInBounds_toArray,List.set_cons_zero,List.set_cons_succ]
   refine go_take 4 80 _ (.pointer (some ⟨W1.heap.size,1,none⟩)) rfl (by kernel_rfl) (by kernel_rfl) (by kernel_rfl) (by kernel_rfl) (fun _ _ _ h=>h) (Or.inl ⟨by kernel_rfl,fun u hu=>by kernel_rfl⟩) hHeld ?_
   simp only[Act.put,List.setIfInBounds_toArray,List.set_cons_zero,List.set_cons_succ]
   refine go_take 5 81 _ (.int .i64 an) rfl (by kernel_rfl) (by kernel_rfl) (by kernel_rfl) (by kernel_rfl) (fun _ _ _ h=>h) (Or.inl ⟨by kernel_rfl,fun u hu=>(by obtain⟨_,_,hl,_⟩:=hu;exact load_int hl.box.cells.2.1 (.tmp 80) (by kernel_rfl) (by kernel_rfl))⟩) hHeld ?_
   simp only[Act.put,List.setIfInBounds_toArray,List.set_cons_zero,List.set_cons_succ]
   refine go_take 7 83 _ (.pointer (some ⟨B11,2,none⟩)) rfl (by kernel_rfl) (by kernel_rfl) (by kernel_rfl) (by kernel_rfl) (fun _ _ _ h=>h) (Or.inl ⟨by kernel_rfl,fun u hu=>by kernel_rfl⟩) hHeld ?_
   simp only[Act.put,List.setIfInBounds_toArray,List.set_cons_zero,List.set_cons_succ]
   refine go_take 8 84 _ (.int .i64 f.B) rfl (by kernel_rfl) (by kernel_rfl) (by kernel_rfl) (by kernel_rfl) (fun _ _ _ h=>h) (Or.inl ⟨by kernel_rfl,fun u hu=>(by obtain⟨_,_,_,hc⟩:=hu;exact load_int hc.cells.2.2.1 (.tmp 83) (by kernel_rfl) (by kernel_rfl))⟩) hHeld ?_
   simp only[Act.put,List.setIfInBounds_toArray,List.set_cons_zero,List.set_cons_succ]
   refine go_take 9 85 _ (.int .i64 m) rfl (by kernel_rfl) (by kernel_rfl) (by kernel_rfl) (by kernel_rfl) (fun _ _ _ h=>h) (Or.inl ⟨by kernel_rfl,fun u hu=>by kernel_rfl⟩) hHeld ?_
   simp only[Act.put,List.setIfInBounds_toArray,List.set_cons_zero,List.set_cons_succ]
   refine go_take 10 86 _ (.int .i64 (f.B-m)) rfl (by kernel_rfl) (by kernel_rfl) (by kernel_rfl) (by kernel_rfl) (fun _ _ _ h=>h) (Or.inl ⟨by kernel_rfl,fun u hu=>exec_subI hw2 (.tmp 84) (.tmp 85) (by kernel_rfl) (by kernel_rfl) (by kernel_rfl)⟩) hHeld ?_
   simp only[Act.put,List.setIfInBounds_toArray,List.set_cons_zero,List.set_cons_succ]
   refine go_take 11 87 _ (.pointer (some ⟨W1.heap.size,3,none⟩)) rfl (by kernel_rfl) (by kernel_rfl) (by kernel_rfl) (by kernel_rfl) (fun _ _ _ h=>h) (Or.inl ⟨by kernel_rfl,fun u hu=>by kernel_rfl⟩) hHeld ?_
   simp only[Act.put,List.setIfInBounds_toArray,List.set_cons_zero,List.set_cons_succ]
   refine go_take 12 88 _ (.int .i64 bn) rfl (by kernel_rfl) (by kernel_rfl) (by kernel_rfl) (by kernel_rfl) (fun _ _ _ h=>h) (Or.inl ⟨by kernel_rfl,fun u hu=>(by obtain⟨_,_,hl,_⟩:=hu;exact load_int hl.box.cells.2.2.2.1 (.tmp 87) (by kernel_rfl) (by kernel_rfl))⟩) hHeld ?_
   simp only[Act.put,List.setIfInBounds_toArray,List.set_cons_zero,List.set_cons_succ]
   refine go_callE 6 82 _ rfl (by kernel_rfl) (by kernel_rfl) (by kernel_rfl) 88 (.func 88) #[.tmp 79,.tmp 81] #[3,3] (by kernel_rfl) #[] (by kernel_rfl) #[.int .i64 (f.A-m),.int .i64 an] (by kernel_rfl) (enters_of Tryz.func88 (by kernel_rfl) rfl) (fun v u=>v=.int .i64 nA∧u=wz.drewN 1) ((hnumberOf_f (f.A-m) an _ (by omega) (by omega) nA HNA).mono (fun _ _ h=>⟨_,h.1,by rw[h.2];exact hSD,rfl,h.2⟩)) ?_
   rintro v w5 hHeld ⟨rfl,rfl⟩
   simp only[Act.put,List.setIfInBounds_toArray,List.set_cons_zero,List.set_cons_succ]
   refine go_take 14 90 _ (.pointer (some ⟨W1.heap.size,0,none⟩)) rfl (by kernel_rfl) (by kernel_rfl) (by kernel_rfl) (by kernel_rfl) (fun _ _ _ h=>h) (Or.inl ⟨by kernel_rfl,fun u hu=>by kernel_rfl⟩) hHeld ?_
   simp only[Act.put,List.setIfInBounds_toArray,List.set_cons_zero,List.set_cons_succ]
   refine go_callE 13 89 _ rfl (by kernel_rfl) (by kernel_rfl) (by kernel_rfl) 88 (.func 88) #[.tmp 86,.tmp 88] #[3,3] (by kernel_rfl) #[] (by kernel_rfl) #[.int .i64 (f.B-m),.int .i64 bn] (by kernel_rfl) (enters_of Tryz.func88 (by kernel_rfl) rfl) (fun v u=>v=.int .i64 nB∧u=wz.drewN 1) ((hnumberOf_f (f.B-m) bn _ (by omega) (by omega) nB HNB).mono (fun _ _ h=>⟨_,h.1,by rw[h.2];exact hSD,rfl,h.2⟩)) ?_
   rintro v w6 hHeld ⟨rfl,rfl⟩
   simp only[Act.put,List.setIfInBounds_toArray,List.set_cons_zero,List.set_cons_succ]
   refine go_skip 15 _ rfl (by kernel_rfl) (by kernel_rfl) (by kernel_rfl) ((wz.drewN 1).setCell ⟨W1.heap.size,0,none⟩ (.int .i64 nA)) (exec_storeI hfD0 hcD0 (.tmp 90) (.tmp 82) (by kernel_rfl) (by kernel_rfl) (by kernel_rfl)) (hS1) ?_
   refine go_take 16 91 _ (.pointer (some ⟨W1.heap.size,2,none⟩)) rfl (by kernel_rfl) (by kernel_rfl) (by kernel_rfl) (by kernel_rfl) (fun _ _ _ h=>h) (Or.inl ⟨by kernel_rfl,fun u hu=>by kernel_rfl⟩) hS1 ?_
   simp only[Act.put,List.setIfInBounds_toArray,List.set_cons_zero,List.set_cons_succ]
   refine go_skip 17 _ rfl (by kernel_rfl) (by kernel_rfl) (by kernel_rfl) (((wz.drewN 1).setCell ⟨W1.heap.size,0,none⟩ (.int .i64 nA)).setCell ⟨W1.heap.size,2,none⟩ (.int .i64 nB)) (exec_storeI hfD2 hcD2 (.tmp 91) (.tmp 89) (by kernel_rfl) (by kernel_rfl) (by kernel_rfl)) (hS2) ?_
   refine wpAnyH_done (by kernel_rfl) ?_ _
   refine NoPanic.normal ?_
   generalize ((wz.drewN 1).setCell ⟨W1.heap.size,0,none⟩ (.int .i64 nA)).setCell ⟨W1.heap.size,2,none⟩ (.int .i64 nB)=W4 at *
   have hz4:=hz0.low hL5.low
   obtain⟨t0,t1,t2,t3,t4⟩:=hL5.box.cells
   obtain⟨z0,z1,z2,z3,z4⟩:=hz4.cells
   have zf:=hz4.frozen
   have zf0:=zf 0
   have zf1:=zf 1
   have zf2:=zf 2
   have zf3:=zf 3
   have zf4:=zf 4
   dsimp only at t0 t1 t2 t3 t4 z0 z1 z2 z3 z4
   have hP:=hz4.put5 (.int .i64 nA) (.int .i64 an) (.int .i64 nB) (.int .i64 bn) (.slice oo RL.length oc)
   have hlw:Below w.heap.size w W4:=hB0.trans (hL5.low.mono hB0.size)
   have hown5:=hL5.own
   clear zf
   go_wp2
   rw[HRv.out]
   refine bodyPost_ret (v:=hkV ⟨nA,an,nB,bn,RL⟩ (.slice oo RL.length oc)) (results_cell_row rfl _ _ w.heap.size 59 #[.int .i64 nA,.int .i64 an,.int .i64 nB,.int .i64 bn,.slice oo RL.length oc] (0,0) _ rfl hP Tryz.underlying59 rfl (by kernel_rfl)) rfl ⟨_,rfl,?_,?_⟩
   ·have key:∀ (u:World) (j:Nat) (z:Value),u.ownsRow w.heap.size 103 2 (.slice oo RL.length oc) RL.length (mkcells RL)→(∀ g,(Value.slice oo RL.length oc).ownBlock=some g→w.heap.size<g)→(u.setCell ⟨w.heap.size,j,none⟩ z).ownsRow w.heap.size 103 2 (.slice oo RL.length oc) RL.length (mkcells RL):=fun u j z ho hg=>own_kept ho (grown_set u _ j z) (fun k hk e=>by cases hk;have:=hg _ e;omega)
    have hgg:∀ g,(Value.slice oo RL.length oc).ownBlock=some g→w.heap.size<g:=fun g hg=>by have:=owns_ge hown5 hg;have:=HW1.out;omega
    have h0:W4.ownsRow w.heap.size 103 2 (.slice oo RL.length oc) RL.length (mkcells RL):=own_base hown5 (by have:=HW1.out;omega)
    exact key _ _ _ (key _ _ _ (key _ _ _ (key _ _ _ (key _ _ _ h0 hgg) hgg) hgg) hgg) hgg
   ·exact ((((hlw.setCell (by simp) _).setCell (by simp) _).setCell (by simp) _).setCell (by simp) _).setCell (by simp) _
end

section
open Go.RowKit
theorem Hs.base {w W u:World} {ov:Value} {P:List (Hk × Value)} (h:Hs W ov P u) (hB:Below w.heap.size w W):Hs w ov P u :=
 ⟨hB.trans (h.low.mono hB.size),own_base h.own hB.size,fun x hx=>own_base (h.ins x hx) hB.size⟩
theorem Gr.at {w W u:World} {oo:Option Addr} {n oc:Nat} {G:List (List Ch × Value)} (h:Gr w (.slice oo n oc) G W) (hB:Below W.heap.size W u) {i:Nat} (hi:i<G.length) {g:List Ch} {gv:Value} (hg:G[i]=(g,gv)):∃ q,oo=some ⟨q,0,none⟩∧u.cell? ⟨q,i,none⟩=some gv∧HCh u gv g:=by
 have hh:=holds_of h.own
 obtain⟨b,off,c',hv,hb,hc⟩:=Holds.at hh (by simp;omega)
 rcases h.own.2 with ⟨_,h0⟩ | ⟨q,cap,cur,e,_⟩
 ·omega
 ·cases e
  cases hv
  refine⟨_,rfl,?_,?_⟩
  ·have h1:=hc i (by simpa using hi)
   rw[Nat.zero_add] at h1
   refine hcell_keep hB ?_
   rw[h1]
   simp[hg]
  ·have hin:=h.ins (g,gv) (by rw[← hg];exact List.getElem_mem hi)
   exact HCh.keep (holds_of hin) hB (Nat.le_refl _)
end

section
open Go.RowKit
theorem hMake_f (l:List Ch) (a b:List (List UInt8)) (ctx:Int) (v va vb:Value) (w:World) (hv:HCh w v l) (ha:HS w va a) (hb:HS w vb b) (hl:l.length≤1099511627776) (hal:a.length≤137438953472) (hbl:b.length≤137438953472) (z:Int) (HZ:Hid (grpE l a.length b.length ctx=z)) (R:List Hk) (HR:Hid (mkR l a b ctx=R)):Calls Tryz.prog 16 #[v,va,vb,.int .i64 ctx] w fun e w'=>∃ v' P,e=.returned (.tuple #[v',.int .i64 z])∧Hs w v' P w'∧P.map (·.1)=R:=by
 obtain⟨vo,lc,rfl⟩:=Holds.form hv
 obtain⟨ao,ac,rfl⟩:=Holds.form ha
 obtain⟨bo,bc,rfl⟩:=Holds.form hb
 obtain⟨GR,hGR⟩:∃ GR,grpR l a.length b.length ctx=GR:=⟨_,rfl⟩
 have HGR:Hid (grpR l a.length b.length ctx=GR):=hGR
 have HR1:Hid (GR.map (oneH a b ctx)=R):=(by show _=_;rw[← HR.out,← hGR];rfl)
 clear hGR
 go_enter Tryz.func16,Tryz.ntmps16
 go_wp2_with fail
 refine (hGroup_f l a.length b.length ctx _ w hv hl (by omega) (by omega) z HZ GR HGR).mono ?_
 rintro e W ⟨gv0,G,rfl,hG,_,hGm⟩
 obtain⟨go,gc,rfl⟩:=(holds_of hG.own).form
 have HGM:Hid (G.map (·.1)=GR):=hGm
 clear hGm HR
 by_cases hz:z=0
 ·subst hz
  have HE:Hid (grp ctx l=GR∧Script l a.length b.length∧0≤ctx∧ctx≤100):=(by
   have h1:=HZ.out
   have h2:=HGR.out
   unfold grpR at h2
   rw[h1,if_pos rfl] at h2
   refine⟨h2,?_⟩
   unfold grpE at h1
   by_cases hs:Script l a.length b.length
   ·refine⟨hs,?_⟩
    rw[chk_ok hs] at h1
    by_cases hx:ctx<0∨100<ctx
    ·simp[hx] at h1
    ·omega
   ·rw[chk_no hs] at h1
    simp at h1)
  have hctx:=HE.out.2.2
  have hGl:G.length≤1099511627776:=(by
   have h1:=congrArg List.length HGM.out
   have h2:(grp ctx l).length≤l.length:=(by
    have key:∀ l:List Ch,(grp ctx l).length≤l.length:=by
     intro l
     induction l with
     | nil=>simp[grp]
     | cons c l ih =>
      cases l with
      | nil=>simp[grp,gcons]
      | cons d l =>
       obtain⟨g,gs,p1,p2⟩:=grp_cons2 ctx c d l
       rw[p2]
       rw[p1] at ih
       split<;>simp at ih ⊢<;>omega
    exact key l)
   rw[HE.out.1] at h2
   simp at h1
   omega)
  clear HZ HGR
  go_wp2
  go_loopw [12,30] (fun ov iv wr=>∃ (i:Nat) (P:List (Hk × Value)),i≤G.length∧iv=.int .i64 (i:Int)∧(∃ oo oc,ov=.slice oo i oc)∧Hs W ov P wr∧Hid (P.length=i∧P.map (·.1)=(GR.take i).map (oneH a b ctx))) (fun _ iv _=>G.length-(intOf iv).toNat)
  case atStart=>exact⟨0,[],Nat.zero_le _,by go_num,⟨_,_,rfl⟩,Hs.nil W,⟨rfl,rfl⟩⟩
  case round =>
   obtain⟨i,P,hi,rfl,⟨oo,oc,rfl⟩,hS,HP⟩:=hrel
   by_cases hlt:i<G.length
   ·obtain⟨g,gv,hgi⟩:∃ g gv,G[i]=(g,gv):=⟨_,_,rfl⟩
    obtain⟨q,rfl,hcell,hch⟩:=hG.at hS.low hlt hgi
    have hGRl:GR.length=G.length:=by rw[← HGM.out];simp
    have hGRi:GR[i]'(by omega)=g:=by
     have h1:GR[i]?=some g:=by rw[← HGM.out];simp[hlt,hgi]
     exact (List.getElem?_eq_some_iff.1 h1).2
    have hsp:GR=GR.take i++g::GR.drop (i+1):=by
     rw[← hGRi,← List.drop_eq_getElem_cons (by omega),List.take_append_drop]
    have hgne:g≠[]:=grp_ne ctx l g (by rw[HE.out.1,← hGRi];exact List.getElem_mem _)
    obtain⟨f,g',rfl⟩:∃ f g',g=f::g':=by
     cases g with
     | nil=>exact absurd rfl hgne
     | cons f g'=>exact⟨f,g',rfl⟩
    obtain⟨hR1,hR2,hR3,hR4⟩:=script_at hctx.1 HE.out.2.1 (HE.out.1.trans hsp)
    have hnums:=right_nums hR1
    have hgl:g'.length≤1099511627776:=(by
     have h1:=congrArg List.length (grp_flatten ctx l)
     rw[HE.out.1,hsp] at h1
     simp only[List.flatten_append,List.flatten_cons,List.length_append,List.length_cons] at h1
     omega)
    obtain⟨H,hH⟩:∃ H,oneH a b ctx (f::g')=H:=⟨_,rfl⟩
    have HH:Hid (oneH a b ctx (f::g')=H):=hH
    rw[hH] at hR4
    have hBw:Below w.heap.size w wr:=hG.low.trans (hS.low.mono hG.low.size)
    have ha':=HS.keep ha hBw (Nat.le_refl _)
    have hb':=HS.keep hb hBw (Nat.le_refl _)
    obtain⟨ho,hc,rfl⟩:=Holds.form hch
    have HP2:∀ y:Value,Hid ((P++[(H,y)]).length=i+1∧(P++[(H,y)]).map (·.1)=(GR.take (i+1)).map (oneH a b ctx)):=fun y=>(by
     refine⟨by rw[List.length_append,HP.out.1];rfl,?_⟩
     rw[List.map_append,HP.out.2,List.take_succ_eq_append_getElem (by omega),List.map_append,hGRi]
     simp[hH])
    have i1:0≤(i:Int):=by omega
    have i2:(i:Int)<(G.length:Int):=by omega
    clear hsp hGRi hGRl hgne hgi hH
    go_wp2_with fail
    refine (haround_f g' (GR.drop (i+1)).flatten f a b ctx _ _ _ wr hch ha' hb' (by omega) (by omega) hgl hctx hR1 hR3 (fun c hc=>by have:=(numB_iff c).1 (hnums c (by simp at hc ⊢;rcases hc with hc | hc;exact .inl hc;exact .inr (.inl hc)));omega) H HH (by omega)).mono ?_
    rintro e wr1 ⟨v1,rfl,hown1,hB1⟩
    obtain⟨ro,rc,rfl⟩:=(holds_of hown1).form
    have hS1:Hs W (.slice oo i oc) P wr1:=⟨hS.low.trans (hB1.mono hS.low.size),owns_keep hS.own hB1,fun x hx=>owns_keep (hS.ins x hx) hB1⟩
    have hown1':=own_base hown1 hS.low.size
    have hS5:=hS1.alloc (hkO H (.slice ro H.ls.length rc))
    have hrow5:=one_row wr1 H (.slice ro H.ls.length rc)
    have hown5:=hown1'.alloc (hkO H (.slice ro H.ls.length rc))
    have hl4:=hS1.low.size
    have hW5:wr1.alloc (Obj.cells #[Value.int IntKind.i64 H.A,Value.int IntKind.i64 H.AN,Value.int IntKind.i64 H.B,Value.int IntKind.i64 H.BN,.slice ro H.ls.length rc] 59)=wr1.alloc (hkO H (.slice ro H.ls.length rc)):=rfl
    have HS5:Hid ((wr1.alloc (hkO H (.slice ro H.ls.length rc))).heap.size=wr1.heap.size+1):=(by show _=_;simp)
    have hownP:=hS5.own
    rw[HP.out.1] at hownP
    unfold hkV
    clear hB1 hown1 hR1 hnums hch hcell
    go_wp2_with (at_builtin;refine wpList_append_w _ (by kernel_rfl) (.tmp 34) (.tmp 40) 34 59 (.agg #[.int .i64 0,.int .i64 0,.int .i64 0,.int .i64 0,.slice none 0 0]) 5 56 rfl Tryz.underlying34 infoHk rfl (by decide) (by decide) W.heap.size _ _ _ rfl hownP _ 1 (hkC H (.slice ro H.ls.length rc)) rfl hrow5 rfl (hkC_one _) (by omega) (by have:=HS5.out;omega) ?_)
    intro v6 W6 hown6 hg6 _
    have hS6:=hS5.more hown5 hg6 (ov':=v6) (by rw[HP.out.1];exact hown6)
    obtain⟨ro6,rc6,rfl⟩:=(holds_of hown6).form
    clear hg6 hown6 hownP hrow5
    go_wp2
    exact⟨⟨i+1,P++[(H,.slice ro H.ls.length rc)],by omega,by go_num,⟨_,_,rfl⟩,hS6,HP2 _⟩,by simp[intOf];omega⟩
   ·have hend:decide ((i:Int)<(G.length:Int))=false:=decide_eq_false (by omega)
    have HF:Hid (P.map (·.1)=R):=(by
     have hGRl:GR.length=G.length:=by rw[← HGM.out];simp
     show _=_
     rw[HP.out.2,List.take_of_length_le (by omega)]
     exact HR1.out)
    go_wp2
    go_ret2
    exact⟨_,P,rfl,hS.base hG.low,HF.out⟩
 ·have hz1:(z != 0)=true:=by simpa using hz
  have HRN:Hid (R=[]):=(by
   show _=_
   rw[← HR1.out,← HGR.out]
   unfold grpR
   rw[HZ.out,if_neg hz]
   rfl)
  clear HZ HGR hz
  go_wp2
  go_ret2
  rw[HRN.out]
  exact⟨_,[],rfl,⟨hG.low,hnil_row _ _ _ _,fun _ h=>by cases h⟩,rfl⟩
end

section
open Go.RowKit
end

section
def lc:List Int→List Int→Nat
 | [],_=>0
 | _::_,[]=>0
 | a::x,b::y=>if a=b then lc x y+1 else max (lc x (b::y)) (lc (a::x) y)
theorem lc_nil_left (y:List Int):lc [] y=0:=by rw[lc]
theorem lc_nil_right (x:List Int):lc x []=0:=by cases x<;>rw[lc]
theorem lc_cons (a b:Int) (x y:List Int):lc (a::x) (b::y)=if a=b then lc x y+1 else max (lc x (b::y)) (lc (a::x) y):=by rw[lc]
theorem lc_ex (x y:List Int):∃ s:List Int,s.Sublist x∧s.Sublist y∧s.length=lc x y:=by
 induction x generalizing y with
 | nil=>exact⟨[],List.Sublist.refl _,List.nil_sublist _,by rw[lc_nil_left];rfl⟩
 | cons a x ih =>
  induction y with
  | nil=>exact⟨[],List.nil_sublist _,List.Sublist.refl _,by rw[lc_nil_right];rfl⟩
  | cons b y ihy =>
   rw[lc_cons]
   by_cases h:a=b
   ·subst h
    obtain⟨s,h1,h2,h3⟩:=ih y
    exact⟨a::s,h1.cons_cons a,h2.cons_cons a,by rw[if_pos rfl];simp[h3]⟩
   ·rw[if_neg h]
    obtain⟨s,h1,h2,h3⟩:=ih (b::y)
    obtain⟨t,k1,k2,k3⟩:=ihy
    by_cases hm:lc x (b::y)≤lc (a::x) y
    ·exact⟨t,k1,k2.cons b,by omega⟩
    ·exact⟨s,h1.cons a,h2,by omega⟩
theorem lc_left (x y:List Int):lc x y≤x.length:=by
 obtain⟨s,h1,_,h3⟩:=lc_ex x y
 rw[← h3];exact h1.length_le
def gr:List Int→List Int→Nat
 | [],_=>0
 | _::_,[]=>0
 | a::x,b::y=>if a=b then gr x y+1 else gr (a::x) y
def kp (b:Int):List Int→List Int→List Int
 | [],_=>[]
 | _::x,[]=>-1::kp b x []
 | a::x,c::y=>if a=c then b::kp (b+1) x y else if lc (a::x) y≤lc x (c::y) then -1::kp b x (c::y) else kp (b+1) (a::x) y
theorem kp_nil (b:Int) (y:List Int):kp b [] y=[]:=by rw[kp]
theorem kp_none (b:Int) (x:List Int):kp b x []=List.replicate x.length (-1):=by
 induction x with
 | nil=>rw[kp];rfl
 | cons a x ih=>rw[kp,ih];rfl
theorem kp_cons (b a c:Int) (x y:List Int):kp b (a::x) (c::y)=if a=c then b::kp (b+1) x y else if lc (a::x) y≤lc x (c::y) then -1::kp b x (c::y) else kp (b+1) (a::x) y:=by rw[kp]
theorem kp_length (b:Int) (x y:List Int):(kp b x y).length=x.length:=by
 induction x generalizing y b with
 | nil=>rw[kp_nil]
 | cons a x ih =>
  induction y generalizing b with
  | nil=>rw[kp_none];simp
  | cons c y ihy =>
   rw[kp_cons]
   split
   ·simp[ih]
   split
   ·simp[ih]
   ·exact ihy _
theorem Vk.up {a b m:Int} {K:List Int} (h:Vk b m K) (hab:a≤b):Vk a m K:=by
 induction K with
 | nil=>trivial
 | cons z t ih =>
  rcases h with ⟨h1,h2⟩ | ⟨h1,h2,h3⟩
  ·exact .inl ⟨h1,ih h2⟩
  ·exact .inr ⟨h1,by omega,h3⟩
theorem Vk.none (b m:Int) (k:Nat):Vk b m (List.replicate k (-1)):=by
 induction k with
 | zero=>trivial
 | succ k ih=>exact .inl ⟨rfl,ih⟩
theorem kp_vk (b:Int) (x y:List Int) (hb:0≤b):Vk b (b+y.length) (kp b x y):=by
 induction x generalizing y b with
 | nil=>rw[kp_nil];trivial
 | cons a x ih =>
  induction y generalizing b with
  | nil=>rw[kp_none];exact Vk.none _ _ _
  | cons c y ihy =>
   rw[kp_cons]
   split
   ·refine .inr ⟨by omega,by omega,by simp;omega,?_⟩
    have:=ih (b+1) y (by omega)
    rw[show b+((c::y).length:Int)=b+1+(y.length:Int) by simp;omega]
    exact this
   split
   ·exact .inl ⟨rfl,ih b (c::y) hb⟩
   ·have:=ihy (b+1) (by omega)
    rw[show b+((c::y).length:Int)=b+1+(y.length:Int) by simp;omega]
    exact this.up (by omega)
theorem kp_same (b:Int) (x y:List Int) (hb:0≤b) (i:Nat) (z:Int) (h:(kp b x y)[i]?=some z) (hz:0≤z):b≤z∧∃ c,x[i]?=some c∧y[(z-b).toNat]?=some c:=by
 induction x generalizing y b i with
 | nil=>rw[kp_nil] at h;simp at h
 | cons a x ih =>
  induction y generalizing b i with
  | nil =>
   rw[kp_none] at h
   have:=List.eq_of_mem_replicate (List.mem_of_getElem? h)
   omega
  | cons c y ihy =>
   rw[kp_cons] at h
   by_cases e:a=c
   ·subst e
    rw[if_pos rfl] at h
    cases i with
    | zero =>
     simp at h
     subst h
     exact⟨Int.le_refl _,a,by simp,by simp⟩
    | succ i =>
     obtain⟨h1,d,h2,h3⟩:=ih (b+1) y (by omega) i (by simpa using h)
     refine⟨by omega,d,by simpa using h2,?_⟩
     rw[show (z-b).toNat=(z-(b+1)).toNat+1 by omega]
     simpa using h3
   ·rw[if_neg e] at h
    split at h
    ·cases i with
     | zero=>simp at h;omega
     | succ i =>
      obtain⟨h1,d,h2,h3⟩:=ih b (c::y) hb i (by simpa using h)
      exact⟨h1,d,by simpa using h2,h3⟩
    ·obtain⟨h1,d,h2,h3⟩:=ihy (b+1) (by omega) i h
     refine⟨by omega,d,h2,?_⟩
     rw[show (z-b).toNat=(z-(b+1)).toNat+1 by omega]
     simpa using h3
def fr:List Int→List Int→Nat
 | a::x,b::y=>if a=b then fr x y+1 else 0
 | _,_=>0
theorem fr_le (x y:List Int):fr x y≤x.length∧fr x y≤y.length:=by
 induction x generalizing y with
 | nil=>simp[fr]
 | cons a x ih =>
  cases y with
  | nil=>simp[fr]
  | cons b y =>
   have:=ih y
   rw[fr]
   split<;>simp<;>omega
theorem fr_at (x y:List Int) (i:Nat) (h:i<fr x y):x[i]?=y[i]?:=by
 induction x generalizing y i with
 | nil=>simp[fr] at h
 | cons a x ih =>
  cases y with
  | nil=>simp[fr] at h
  | cons b y =>
   rw[fr] at h
   split at h
   ·rename_i e
    subst e
    cases i with
    | zero=>simp
    | succ i=>simpa using ih y i (by omega)
   ·omega
theorem fr_step (x y:List Int) (i:Nat) (hx:i<x.length) (hy:i<y.length):fr (x.drop i) (y.drop i)=if x[i]=y[i] then fr (x.drop (i+1)) (y.drop (i+1))+1 else 0:=by
 rw[List.drop_eq_getElem_cons hx,List.drop_eq_getElem_cons hy,fr]
def ln (x y:List Int) (i j:Nat):Nat:=lc (x.drop i) (y.drop j)
theorem ln_end (x y:List Int) (i j:Nat) (h:x.length≤i∨y.length≤j):ln x y i j=0:=by
 rcases h with h | h
 ·rw[ln,List.drop_of_length_le h,lc_nil_left]
 ·rw[ln,List.drop_of_length_le h,lc_nil_right]
theorem ln_step (x y:List Int) (i j:Nat) (hx:i<x.length) (hy:j<y.length):ln x y i j=if x[i]=y[j] then ln x y (i+1) (j+1)+1 else max (ln x y (i+1) j) (ln x y i (j+1)):=by
 unfold ln
 rw[List.drop_eq_getElem_cons hx,List.drop_eq_getElem_cons hy,lc_cons]
theorem ln_le (x y:List Int) (i j:Nat):ln x y i j≤x.length:=by
 have:=lc_left (x.drop i) (y.drop j)
 simp at this
 unfold ln
 omega
theorem kp_step (b:Int) (x y:List Int) (i j:Nat) (hx:i<x.length) (hy:j<y.length):kp b (x.drop i) (y.drop j)=if x[i]=y[j] then b::kp (b+1) (x.drop (i+1)) (y.drop (j+1)) else if ln x y i (j+1)≤ln x y (i+1) j then -1::kp b (x.drop (i+1)) (y.drop j) else kp (b+1) (x.drop i) (y.drop (j+1)):=by
 unfold ln
 rw[List.drop_eq_getElem_cons hx,List.drop_eq_getElem_cons hy,kp_cons]
theorem kp_same_front (b:Int) (x y:List Int) (i:Nat) (h:i<fr x y):kp b (x.drop i) (y.drop i)=b::kp (b+1) (x.drop (i+1)) (y.drop (i+1)):=by
 have h1:=fr_le x y
 rw[kp_step b x y i i (by omega) (by omega),if_pos]
 have:=fr_at x y i h
 rw[List.getElem?_eq_getElem (by omega),List.getElem?_eq_getElem (by omega)] at this
 simpa using this
end

section
open Go.RowKit
theorem info16:(Tryz.prog.info? 305).map (fun i=>(i.zero,i.size,i.bytes))=some (some (.int .i16 0),1,2):=by kernel_rfl
def tabV (W g N:Nat):Value:=.agg #[.int .i64 (W:Int),.slice (some ⟨g,0,none⟩) N N]
theorem run_row (g N p q:Nat) (hpq:p≤q) (hq:q≤N) (hp:p<N) (u:World) :
  (Instr.slice 275 (.slice (some ⟨g,0,none⟩) N N) (some (.int .i64 (p:Int))) (some (.int .i64 (q:Int))) none).run Tryz.prog u=.ok (.slice (some ⟨g,p,none⟩) (q-p) (N-p)) u:=by
 rw[run_slice_lh (P:=Tryz.prog) u 275 (some ⟨g,0,none⟩) N N (by kernel_rfl) .i64 .i64 p q (by omega) (by omega) (by omega)]
 have:(sizeOf (Tryz.prog.elem 275)).run Tryz.prog u=.ok 1 u:=by kernel_rfl
 rw[this]
 simp[Result.andThen,sliced,add_none]
 omega
theorem row_f (W g N p q L:Nat) (hL:q-p=L) (z:Int) (w:World) (h1:z * (W:Int)=(p:Int)) (h2:(z+1) * (W:Int)=(q:Int)) (hpq:p≤q) (hq:q≤N) (hp:p<N) (hN:N≤1099511627776) (hi0:0≤z) (hi:z≤1099511627776) :
  Calls Tryz.prog 250 #[tabV W g N,.int .i64 z] w fun e w'=>e=.returned (.slice (some ⟨g,p,none⟩) L (N-p))∧Below w.heap.size w w':=by
 have hr:=run_row g N p q hpq hq hp
 rw[hL] at hr
 clear hL
 unfold tabV
 go_enter Tryz.func250,Tryz.ntmps250
 go_wp2
 go_ret
 exact⟨rfl,(Below.refl _ w).alloc (Nat.le_refl _) _⟩
theorem at_n (W g N i j p q:Nat) (x:Int) (w:World) (h1:(i:Int) * (W:Int)=(p:Int)) (h2:(p:Int)+(j:Int)=(q:Int)) (hN:N≤1099511627776) (hpj:q<N) (hx:w.cell? ⟨g,q,none⟩=some (.int .i16 x)) (hx0:0≤x) (hx1:x≤4096) :
  Calls Tryz.prog 231 #[tabV W g N,.int .i64 (i:Int),.int .i64 (j:Int)] w fun e w'=>e=.returned (.int .i64 x)∧Below w.heap.size w w':=by
 have hg:=World.block_lt_of_cell? w _ hx
 have hx':(w.alloc (Obj.cells #[Value.int IntKind.i64 (W:Int),Value.slice (some ⟨g,0,none⟩) N N] 277)).cell? ⟨g,q,none⟩=some (.int .i16 x):=by
  rw[World.cell?_of_block (w:=w) (Below.heap_alloc _ _ _ hg)];exact hx
 have i1:0≤(q:Int):=by omega
 have i2:(q:Int)<(N:Int):=by omega
 unfold tabV
 go_enter Tryz.func231,Tryz.ntmps231
 go_wp2
 go_ret
 exact⟨rfl,(Below.refl _ w).alloc (Nat.le_refl _) _⟩
theorem at_f (W g N p q:Nat) (i j x:Int) (w:World) (hi:0≤i) (hj:0≤j) (h1:i * (W:Int)=(p:Int)) (h2:(p:Int)+j=(q:Int)) (hN:N≤1099511627776) (hpj:q<N) (hx:w.cell? ⟨g,q,none⟩=some (.int .i16 x)) (hx0:0≤x) (hx1:x≤4096) :
  Calls Tryz.prog 231 #[tabV W g N,.int .i64 i,.int .i64 j] w fun e w'=>e=.returned (.int .i64 x)∧Below w.heap.size w w':=by
 obtain⟨a,rfl⟩:=Int.eq_ofNat_of_zero_le hi
 obtain⟨b,rfl⟩:=Int.eq_ofNat_of_zero_le hj
 exact at_n W g N a b p q x w h1 h2 hN hpj hx hx0 hx1
end

section
open Go.RowKit
theorem idx_inj {W i j i' j':Nat} (hj:j<W) (hj':j'<W) (h:i * W+j=i' * W+j'):i=i'∧j=j':=by
 have h1:(i * W+j) / W=i:=by rw[Nat.mul_comm,Nat.mul_add_div (by omega),Nat.div_eq_of_lt hj,Nat.add_zero]
 have h2:(i' * W+j') / W=i':=by rw[Nat.mul_comm,Nat.mul_add_div (by omega),Nat.div_eq_of_lt hj',Nat.add_zero]
 have h3:i=i':=by rw[← h1,← h2,h]
 subst h3
 exact⟨rfl,by omega⟩
theorem idx_lt {W i j n:Nat} (hj:j<W) (hi:i≤n):i * W+j<(n+1) * W:=by
 have:i * W≤n * W:=Nat.mul_le_mul_right _ hi
 rw[Nat.succ_mul]
 omega
def Done (x y:List Int) (k c:Nat) (Y:List Value):Prop:=∀ i j,i≤x.length→j≤y.length→(k<i∨(i=k∧c≤j)∨j=y.length)→Y[i * (y.length+1)+j]?=some (.int .i16 ((ln x y i j:Nat):Int))
theorem Done.start (x y:List Int) (N:Nat) (hN:N=(x.length+1) * (y.length+1)):Done x y x.length 0 (List.replicate N (.int .i16 0)):=by
 intro i j hi hj h
 rw[ln_end x y i j (by omega),List.getElem?_replicate,if_pos (by rw[hN];exact idx_lt (by omega) hi)]
 rfl
theorem Done.next {x y:List Int} {i:Nat} {Y:List Value} (h:Done x y (i+1) 0 Y):Done x y i y.length Y:=by
 intro i' j' hi hj hc
 exact h i' j' hi hj (by omega)
theorem Done.set {x y : List Int} {i j : Nat} {Y : List Value} (h : Done x y i (j + 1) Y) (hi : i ≤ x.length) (hj : j < y.length) (hY : Y.length = (x.length + 1) * (y.length + 1)) (p : Nat) (hp : p = i * (y.length + 1) + j) (v : Int) (hv : v = ((ln x y i j : Nat) : Int)) : Done x y i j (Y.set p (.int .i16 v)) := by
  intro i' j' hi' hj' hc
  subst hp hv
  by_cases e : i' * (y.length + 1) + j' = i * (y.length + 1) + j
  · obtain ⟨rfl, rfl⟩ := idx_inj (by omega) (by omega) e
    rw [List.getElem?_set_self]
    rw [hY]
    exact idx_lt (by omega) hi
  · rw [List.getElem?_set_ne (fun h => e h.symm)]
    refine h i' j' hi' hj' ?_
    rcases hc with hc | ⟨rfl, hc⟩ | hc
    · exact .inl hc
    · exact .inr (.inl ⟨rfl, by by_cases q : j' = j; · subst q; exact absurd rfl e
                                · omega⟩)
    · exact .inr (.inr hc)
structure Bx (b W g N:Nat) (wr w:World):Prop where
 box:w.heap[b]?=some (Obj.cells #[.int .i64 (W:Int),.slice (some ⟨g,0,none⟩) N N] 277 (0,0))
 low:Below wr.heap.size wr w
theorem Bx.cells {b W g N:Nat} {wr w:World} (h:Bx b W g N wr w):w.cell? ⟨b,0,none⟩=some (.int .i64 (W:Int))∧w.cell? ⟨b,1,none⟩=some (.slice (some ⟨g,0,none⟩) N N):=⟨by rw[Lib.cell_of_heap h.box];rfl,by rw[Lib.cell_of_heap h.box];rfl⟩
theorem bx_drew (b W g N:Nat) (wr w:World):Bx b W g N wr w.drew↔Bx b W g N wr w:=⟨fun h=>⟨h.box,⟨h.low.os,h.low.tape,h.low.output,h.low.size,h.low.block⟩⟩,fun h=>⟨h.box,Below.dN h.low 1⟩⟩
theorem Bx.keep {b W g N:Nat} {wr w w':World} (h:Bx b W g N wr w) (hb:Below w.heap.size w w'):Bx b W g N wr w':=⟨(hb.block b (Array.getElem?_eq_some_iff.1 h.box).1).trans h.box,h.low.trans (hb.mono h.low.size)⟩
theorem bx_stay {P:Program} {f:FuncId} {args:Array Value} {v:Value} {w:World} (h:Calls P f args w fun e w'=>e=.returned v∧Below w.heap.size w w') (b W g N:Nat) (wr:World) (hS:Bx b W g N wr w) :
  Calls P f args w fun e w'=>e=.returned v∧w'.cell? ⟨b,0,none⟩=some (.int .i64 (W:Int))∧w'.cell? ⟨b,1,none⟩=some (.slice (some ⟨g,0,none⟩) N N)∧Bx b W g N wr w':=by
 refine h.mono ?_
 rintro e w' ⟨rfl,hb⟩
 have hS':=hS.keep hb
 exact⟨rfl,hS'.cells.1,hS'.cells.2,hS'⟩
attribute [local simp] bx_drew
theorem run_make16 (N:Nat) (hN:N≤1099511627776) (W:World) :
  (Instr.makeSlice 275 (.int .i64 (N:Int)) (.int .i64 (N:Int))).run Tryz.prog W=.ok (.slice (some ⟨W.heap.size,0,none⟩) N N) (W.alloc (.cells (madeCells #[.int .i16 0] N) 305)):=by
 obtain⟨i0,hi,hz0,hzs,hz2⟩:=info_parts info16
 have h1:i0.bytes * N≤2 * 1099511627776:=by rw[hz2];exact Nat.mul_le_mul_left _ hN
 have hr:=run_make (P:=Tryz.prog) W 275 305 i0 _ Tryz.underlying275 hi hz0 .i64 .i64 (N:Int) (N:Int) (by omega) (Int.le_refl _) (by
  have:((i0.bytes * N:Nat):Int)≤281474976710656:=by omega
  rwa [Int.natCast_mul] at this) (by omega)
 simpa [hzs,Value.cells] using hr
theorem made16 (N:Nat):(madeCells #[.int .i16 0] N).toList=List.replicate N (.int .i16 0):=by
 apply List.ext_getElem
 ·simp[madeCells]
 ·intro i h1 h2
  simp[madeCells,Nat.mod_one]
theorem set_fst {W:World} {b:Nat} {t:TypeId} {a0 a1:Value} (h:W.heap[b]?=some (Obj.cells #[a0,a1] t (0,0))) (v:Value):(W.setCell ⟨b,0,none⟩ v).heap[b]?=some (Obj.cells #[v,a1] t (0,0)):=by
 obtain⟨hlt,hk⟩:=Array.getElem?_eq_some_iff.1 h
 show (W.heap.modify b _)[b]?=_
 rw[Array.getElem?_eq_getElem (by rw[Array.size_modify];exact hlt),Array.getElem_modify_self,hk]
 rfl
theorem set_snd {W:World} {b:Nat} {t:TypeId} {a0 a1:Value} (h:W.heap[b]?=some (Obj.cells #[a0,a1] t (0,0))) (v:Value):(W.setCell ⟨b,1,none⟩ v).heap[b]?=some (Obj.cells #[a0,v] t (0,0)):=by
 obtain⟨hlt,hk⟩:=Array.getElem?_eq_some_iff.1 h
 show (W.heap.modify b _)[b]?=_
 rw[Array.getElem?_eq_getElem (by rw[Array.size_modify];exact hlt),Array.getElem_modify_self,hk]
 rfl
theorem grownBy_set1 (W:World) (b:Nat) (v:Value):W.grownBy (W.setCell ⟨b,1,none⟩ v) (some b) :=
 ⟨rfl,rfl,rfl,by show W.heap.size≤(W.heap.modify b _).size;simp,fun i hi hne=>by
  show (W.heap.modify b _)[i]?=_
  rw[Array.getElem?_modify,if_neg (fun e=>hne (by rw[e]))]⟩
structure Ms (w:World) (M N:Nat) (Y:List Value) (wr:World):Prop where
 low:Below w.heap.size w wr
 res:wr.heap[w.heap.size]?=some (Obj.cells #[Value.int IntKind.i64 0,Value.slice none 0 0] 277 (0,0))
 own:wr.ownsRow w.heap.size 305 1 (.slice (some ⟨w.heap.size+1,0,none⟩) N N) N Y
 box:wr.heap[w.heap.size+1+1]?=some (Obj.cells #[.int .i64 (M:Int),.slice (some ⟨w.heap.size+1,0,none⟩) N N] 277 (0,0))
theorem Ms.keep {w:World} {M N:Nat} {Y:List Value} {wr w':World} (h:Ms w M N Y wr) (hb:Below wr.heap.size wr w'):Ms w M N Y w' :=
 ⟨h.low.trans (hb.mono h.low.size),(hb.block _ (Array.getElem?_eq_some_iff.1 h.res).1).trans h.res,owns_keep h.own hb,(hb.block _ (Array.getElem?_eq_some_iff.1 h.box).1).trans h.box⟩
theorem Ms.bx {w:World} {M N:Nat} {Y:List Value} {wr:World} (h:Ms w M N Y wr):Bx (w.heap.size+1+1) M (w.heap.size+1) N wr wr:=⟨h.box,Below.refl _ _⟩
theorem Ms.store {w:World} {M N:Nat} {Y:List Value} {wr:World} (h:Ms w M N Y wr) (p:Nat) (v:Value):Ms w M N (Y.set p v) (wr.setCell ⟨w.heap.size+1,p,none⟩ v):=by
 obtain⟨p1,g1⟩:=h.own.stored p v
 refine⟨h.low.grown g1 h.low.size (fun j hj=>by cases hj;omega),?_,p1,?_⟩
 ·exact (g1.block _ (Array.getElem?_eq_some_iff.1 h.res).1 (fun e=>by have:=Option.some.inj e;omega)).trans h.res
 ·exact (g1.block _ (Array.getElem?_eq_some_iff.1 h.box).1 (fun e=>by have:=Option.some.inj e;omega)).trans h.box
theorem Ms.drewN {w:World} {M N:Nat} {Y:List Value} {wr:World} (h:Ms w M N Y wr) (n:Nat):Ms w M N Y (wr.drewN n):=⟨Below.dN h.low n,h.res,h.own,h.box⟩
theorem Ms.at {w:World} {M N:Nat} {Y:List Value} {wr:World} (h:Ms w M N Y wr) {x y:List Int} {k c i j p:Nat} (hd:Done x y k c Y) (hM:M=y.length+1) (hN:N=(x.length+1) * M) (hi:i≤x.length) (hj:j≤y.length) (hc:k<i∨(i=k∧c≤j)∨j=y.length) (hp:p=i * M):wr.cell? ⟨w.heap.size+1,p+j,none⟩=some (.int .i16 ((ln x y i j:Nat):Int)):=by
 have:=h.own.cellAt (p+j) (by rw[hp,hN,Nat.mul_one];exact idx_lt (by omega) hi)
 rw[this,hp,hM]
 exact hd i j hi hj hc
theorem measure_f (x y:List Int) (vx vy:Value) (w:World) (hx:HI w vx x) (hy:HI w vy y) (hxl:x.length≤4096) (hyl:y.length≤4096) (N M:Nat) (hM:Hid (M=y.length+1)) (hN:Hid (N=(x.length+1) * M)) :
  Calls Tryz.prog 230 #[vx,vy] w fun e w'=>∃ g Y,e=.returned (tabV M g N)∧w'.ownsRow w.heap.size 305 1 (.slice (some ⟨g,0,none⟩) N N) N Y∧Done x y 0 0 Y∧Below w.heap.size w w':=by
 obtain⟨xo,xc,rfl⟩:=Holds.form hx
 obtain⟨yo,yc,rfl⟩:=Holds.form hy
 have hNb:N≤4097 * 4097:=by rw[hN.out,hM.out];exact Nat.mul_le_mul (by omega) (by omega)
 have hMb:M≤4097:=by rw[hM.out];omega
 have hmk:=run_make16 N (by omega)
 have hmul:((x.length:Int)+1) * (M:Int)=(N:Int):=by rw[hN.out];simp
 have hMi:(y.length:Int)+1=(M:Int):=by rw[hM.out];simp
 have hrow:=World.ownsRow_lit (base:=w.heap.size) (e:=305) (size:=1) (w.alloc (Obj.cells #[Value.int IntKind.i64 0,Value.slice none 0 0] 277)) (madeCells #[Value.int IntKind.i16 0] N) N (by simp) (by unfold maxLen;omega) (by rw[size_madeCells];omega)
 rw[made16,World.size_alloc] at hrow
 go_enter Tryz.func230,Tryz.ntmps230
 go_wp2
 go_loopw [7] (fun iv wr=>∃ (k:Nat) (z:Int) (Y:List Value),k≤x.length∧iv=.int .i64 z∧z+1=k∧Ms w M N Y wr∧Hid (Done x y k 0 Y)) (fun iv _=>(intOf iv+1).toNat)
 case atStart =>
  refine⟨x.length,(x.length:Int)-1,_,Nat.le_refl _,by go_num,by omega,⟨?_,?_,?_,?_⟩,Done.start x y N (by rw[hN.out,hM.out])⟩
  ·exact (((Below.refl _ w).alloc (Nat.le_refl _) _).alloc (by simp) _).alloc (by simp;omega) _
  ·exact (Below.heap_alloc _ _ _ (by simp;omega)).trans ((Below.heap_alloc _ _ _ (by simp)).trans (_root_.Go.heap_alloc_new w _))
  ·exact hrow.alloc _
  ·have:=_root_.Go.heap_alloc_new ((w.alloc (Obj.cells #[Value.int IntKind.i64 0,Value.slice none 0 0] 277)).alloc (Obj.cells (madeCells #[Value.int IntKind.i16 0] N) 305)) (Obj.cells #[Value.int IntKind.i64 (M:Int),Value.slice (some ⟨w.heap.size+1,0,none⟩) N N] 277)
   rw[World.size_alloc,World.size_alloc] at this
   exact this
 case round =>
  obtain⟨k,z,Y,hk,rfl,hz,hS,hD⟩:=hrel
  have HMI:Hid ((y.length:Int)+1=(M:Int)):=hMi
  clear hMi hmul hmk hrow
  cases k with
  | zero =>
   obtain rfl:z=-1:=by omega
   have d0:=hS.bx.cells.1
   have d1:=hS.bx.cells.2
   have g0:wr.cell? ⟨w.heap.size,0,none⟩=some (.int .i64 0):=by rw[Lib.cell_of_heap hS.res];rfl
   have g1:wr.cell? ⟨w.heap.size,1,none⟩=some (.slice none 0 0):=by rw[Lib.cell_of_heap hS.res];rfl
   have f0:wr.frozen? ⟨w.heap.size,0,none⟩=false:=Lib.frozen_of_heap hS.res 0
   have f1:wr.frozen? ⟨w.heap.size,1,none⟩=false:=Lib.frozen_of_heap hS.res 1
   go_wp2
   have q1:=set_snd (set_fst hS.res (Value.int IntKind.i64 (M:Int))) (Value.slice (some ⟨w.heap.size+1,0,none⟩) N N)
   have G1:=grownBy_setCell' wr w.heap.size (Value.int IntKind.i64 (M:Int))
   have hG:∀ u:World,Ms w M N Y wr→wr.grownBy u (some w.heap.size)→u.ownsRow w.heap.size 305 1 (.slice (some ⟨w.heap.size+1,0,none⟩) N N) N Y∧Below w.heap.size w u:=fun u h g=>⟨h.own.kept g (.inr (by simp[Value.ownBlock])),h.low.grown g h.low.size (fun j hj=>by cases hj;exact Nat.le_refl _)⟩
   refine bodyPost_ret (v:=tabV M (w.heap.size+1) N) ?_ rfl ⟨w.heap.size+1,Y,rfl,?_,hD.out,?_⟩
   ·exact results_cell_row rfl _ _ w.heap.size 277 #[Value.int IntKind.i64 (M:Int),Value.slice (some ⟨w.heap.size+1,0,none⟩) N N] (0,0) _ rfl q1 Tryz.underlying277 rfl (by kernel_rfl)
   ·exact (hG _ hS (G1.trans (grownBy_set1 _ _ _))).1
   ·exact (hG _ hS (G1.trans (grownBy_set1 _ _ _))).2
  | succ i =>
   obtain rfl:z=(i:Int):=by omega
   clear hz
   have hX:=hS.bx
   obtain⟨c0,c1⟩:=hX.cells
   obtain⟨p,hp⟩:∃ p,p=i * M:=⟨_,rfl⟩
   obtain⟨q,hq⟩:∃ q,q=p+M:=⟨_,rfl⟩
   have hpi:(i:Int) * (M:Int)=(p:Int):=by rw[hp];simp
   have hqi:((i:Int)+1) * (M:Int)=(q:Int):=by rw[hq,Int.add_mul,hpi];simp
   have hM0:0<M:=by rw[hM.out];omega
   have hqN:q≤N:=by
    rw[hq,hp,hN.out]
    have:=Nat.mul_le_mul_right M (show i+1≤x.length+1 by omega)
    rw[Nat.succ_mul] at this
    exact this
   have hqN2:q+M≤N:=by
    rw[hq,hp,hN.out]
    have:=Nat.mul_le_mul_right M (show i+2≤x.length+1 by omega)
    rw[Nat.succ_mul,Nat.succ_mul] at this
    exact this
   have hq2:((i:Int)+1+1) * (M:Int)=((q+M:Nat):Int):=by rw[Int.add_mul,hqi];simp
   have hw1:IntKind.i64.wrap ((i:Int)+1)=(i:Int)+1:=by rw[IntKind.wrap_i64];omega
   have HP:Hid (p=i * M):=hp
   have HQ:Hid (q=p+M):=hq
   clear hp hq
   go_wp2_with fail
   go_region_held3 (fun w'=>w'.cell? ⟨w.heap.size+1+1,0,none⟩=some (.int .i64 (M:Int))∧w'.cell? ⟨w.heap.size+1+1,1,none⟩=some (.slice (some ⟨w.heap.size+1,0,none⟩) N N)∧Bx (w.heap.size+1+1) M (w.heap.size+1) N wr w') (go_keep)
    (first | (go_at_call_has 250 (Value.int IntKind.i64 (i:Int));refine (bx_stay (row_f M (w.heap.size+1) N p q M (by have:=HQ.out;omega) (i:Int) _ hpi hqi (by have:=HQ.out;omega) hqN (by have:=HQ.out;omega) (by omega) (by omega) (by omega)) (w.heap.size+1+1) M (w.heap.size+1) N wr (by first | assumption | (rw[bx_drew];assumption))).mono ?_;rintro e w' ⟨rfl,e0,e1,hbS⟩) | (go_at_call_has 250 (Value.int IntKind.i64 ((i:Int)+1));refine (bx_stay (row_f M (w.heap.size+1) N q (q+M) M (by omega) ((i:Int)+1) _ hqi hq2 (by omega) hqN2 (by omega) (by omega) (by omega) (by omega)) (w.heap.size+1+1) M (w.heap.size+1) N wr (by first | assumption | (rw[bx_drew];assumption))).mono ?_;rintro e w' ⟨rfl,e0,e1,hbS⟩))
   have hS1:=hS.keep hbS.low
   have HD:=hD.out.next
   clear hD hw1 hpi hqi hq2 hX c0 c1 e0 e1
   go_wp2
   go_loopw [10] (fun jv wi=>∃ (c:Nat) (z:Int) (Y':List Value),c≤y.length∧jv=.int .i64 z∧z+1=c∧Ms w M N Y' wi∧Hid (Done x y i c Y')) (fun jv _=>(intOf jv+1).toNat)
   case atStart=>exact⟨y.length,(y.length:Int)-1,Y,Nat.le_refl _,by go_num,by omega,hS1,HD⟩
   case round =>
    obtain⟨c,z,Y',hc,rfl,hz,hS2,hD2⟩:=hrel
    cases c with
    | zero =>
     obtain rfl:z=-1:=by omega
     go_wp2
     go_roundw
     case rel=>exact⟨i,(i:Int)-1,Y',by omega,by go_num,by omega,hS2,hD2⟩
     case measure=>simp[intOf]
    | succ j =>
     obtain rfl:z=(j:Int):=by omega
     clear hz
     obtain⟨bx,ox,rfl,_,hcx⟩:=HI.at (HI.keep hx hS2.low (Nat.le_refl _)) (by omega)
     obtain⟨by',oy,rfl,_,hcy⟩:=HI.at (HI.keep hy hS2.low (Nat.le_refl _)) (by omega)
     have d1:=hcx i (by omega)
     have d2:=hcy j (by omega)
     have hln:=ln_step x y i j (by omega) (by omega)
     obtain⟨xi,hxi⟩:∃ z,x[i]=z:=⟨_,rfl⟩
     obtain⟨yj,hyj⟩:∃ z,y[j]=z:=⟨_,rfl⟩
     rw[hxi] at d1 hln
     rw[hyj] at d2 hln
     clear hcx hcy hxi hyj
     have r1:=hS2.at hD2.out hM.out hN.out (i:=i+1) (j:=j+1) (p:=q) (by omega) (by omega) (by omega) (by rw[HQ.out,HP.out,Nat.succ_mul])
     have r2:=hS2.at hD2.out hM.out hN.out (i:=i+1) (j:=j) (p:=q) (by omega) (by omega) (by omega) (by rw[HQ.out,HP.out,Nat.succ_mul])
     have r3:=hS2.at hD2.out hM.out hN.out (i:=i) (j:=j+1) (p:=p) (by omega) (by omega) (by omega) HP.out
     have HLN:Hid (ln x y i j=if xi=yj then ln x y (i+1) (j+1)+1 else max (ln x y (i+1) j) (ln x y i (j+1))):=hln
     have b1:=ln_le x y (i+1) (j+1)
     have b2:=ln_le x y (i+1) j
     have b3:=ln_le x y i (j+1)
     clear hln
     have i1:0≤(i:Int):=by omega
     have i2:(i:Int)<(x.length:Int):=by omega
     have i3:0≤(j:Int):=by omega
     have i4:(j:Int)<(y.length:Int):=by omega
     have hMy:M=y.length+1:=hM.out
     have i5:(j:Int)<(M:Int):=by omega
     have i6:(j:Int)+1<(M:Int):=by omega
     clear hMy
     have hpN:p+j<N:=by have:=HQ.out;have:=hM.out;omega
     have hYl:Y'.length=N:=by rw[hS2.own.1,Nat.mul_one]
     have f0:=hS2.own.frozenAt (p+j)
     have y0:=hS2.own.cellAt (p+j) (by omega)
     rw[List.getElem?_eq_getElem (by omega)] at y0
     obtain⟨z0,hz0⟩:∃ z,Y'[p+j]'(by omega)=z:=⟨_,rfl⟩
     rw[hz0] at y0
     clear hz0
     have HYL:Hid (Y'.length=(x.length+1) * (y.length+1)):=(by show _=_;rw[hYl,hN.out,hM.out])
     clear hYl
     have HPJ:Hid (p+j=i * (y.length+1)+j):=(by show _=_;rw[HP.out,hM.out])
     by_cases hxy:xi=yj
     ·have HL:Hid (ln x y i j=ln x y (i+1) (j+1)+1):=(by show _=_;rw[HLN.out,if_pos hxy])
      clear HLN r2 r3 b2 b3
      generalize ln x y (i+1) (j+1)=a1 at *
      go_wp2_with fail
      go_quiet (fail)
      go_wp2
      go_roundw
      case rel=>exact⟨j,(j:Int)-1,_,by omega,by go_num,by omega,(hS2.drewN _).store (p+j) (.int .i16 ((a1:Int)+1)),hD2.out.set (by omega) (by omega) HYL.out (p+j) HPJ.out ((a1:Int)+1) (by rw[HL.out];simp)⟩
      case measure=>simp[intOf]
     ·have HL:Hid (ln x y i j=max (ln x y (i+1) j) (ln x y i (j+1))):=(by show _=_;rw[HLN.out,if_neg hxy])
      clear HLN r1 b1
      have hxy':decide (xi=yj)=false:=decide_eq_false hxy
      generalize ln x y (i+1) j=a1 at *
      generalize ln x y i (j+1)=a2 at *
      go_wp2_with fail
      go_quiet (fail)
      go_wp2_with fail
      go_region
      go_wp2
      exact⟨⟨j,(j:Int)-1,_,by omega,by go_num,by omega,(hS2.drewN _).store (p+j) _,hD2.out.set (by omega) (by omega) HYL.out (p+j) HPJ.out _ (by rw[HL.out];first | (split<;>omega) | omega)⟩,by simp[intOf]⟩
end

section
open Go.RowKit
theorem front_f (x y:List Int) (r:Nat) (vx vy:Value) (w:World) (hx:HI w vx x) (hy:HI w vy y) (hxl:x.length≤1048576) (hyl:y.length≤1048576) (hr:Hid (fr x y=r)) :
  Calls Tryz.prog 229 #[vx,vy] w fun e w'=>e=.returned (.int .i64 (r:Int))∧Below w.heap.size w w':=by
 obtain⟨xo,xc,rfl⟩:=Holds.form hx
 obtain⟨yo,yc,rfl⟩:=Holds.form hy
 obtain⟨m,hm⟩:∃ m:Nat,m=min x.length y.length:=⟨_,rfl⟩
 have hmi:(if y.length<x.length then (y.length:Int) else (x.length:Int))=(m:Int):=by split<;>omega
 have HM:Hid (m=min x.length y.length):=hm
 clear hm
 go_enter Tryz.func229,Tryz.ntmps229
 go_wp2
 clear hmi
 go_loopw [13] (fun iv wr=>∃ (k n:Nat),k≤m∧iv=.int .i64 (k:Int)∧wr=w.drewN n∧Hid (k+fr (x.drop k) (y.drop k)=r)) (fun iv _=>m-(intOf iv).toNat)
 case atStart=>exact⟨0,0,Nat.zero_le _,rfl,rfl,(by show _=_;rw[← hr.out];simp)⟩
 case round =>
  obtain⟨k,n,hk,rfl,rfl,hR⟩:=hrel
  by_cases hlt:k<m
  ·have hkx:k<x.length:=by have:=HM.out;omega
   have hky:k<y.length:=by have:=HM.out;omega
   obtain⟨bx,ox,rfl,_,hcx⟩:=HI.at hx (by omega)
   obtain⟨by',oy,rfl,_,hcy⟩:=HI.at hy (by omega)
   have d1:=hcx k hkx
   have d2:=hcy k hky
   have hR':=hR.out
   rw[fr_step x y k hkx hky] at hR'
   obtain⟨xi,hxi⟩:∃ z,x[k]=z:=⟨_,rfl⟩
   obtain⟨yj,hyj⟩:∃ z,y[k]=z:=⟨_,rfl⟩
   rw[hxi] at d1 hR'
   rw[hyj] at d2 hR'
   clear hcx hcy hxi hyj hR
   have i1:0≤(k:Int):=by omega
   have i2:(k:Int)<(x.length:Int):=by omega
   have i3:(k:Int)<(y.length:Int):=by omega
   have i4:(k:Int)<(m:Int):=by omega
   by_cases hxy:xi=yj
   ·rw[if_pos hxy] at hR'
    have HR:Hid (k+1+fr (x.drop (k+1)) (y.drop (k+1))=r):=(by show _=_;omega)
    clear hR'
    go_wp2_with fail
    go_quiet (fail)
    go_wp2
    go_roundw
    case rel=>exact⟨k+1,_,by omega,by go_num,rfl,HR⟩
    case measure=>simp[intOf];omega
   ·rw[if_neg hxy] at hR'
    have hxy':decide (xi=yj)=false:=decide_eq_false hxy
    obtain rfl:k=r:=by omega
    clear hR'
    go_wp2_with fail
    go_quiet (fail)
    go_wp2
    go_ret
    exact⟨rfl,Below.dN (Below.dN (Below.refl _ w) _) _⟩
  ·obtain rfl:k=m:=by omega
   go_wp2
   go_ret
   refine⟨ret_int ?_,Below.dN (Below.refl _ w) _⟩
   have h:=hR.out
   have hm:=HM.out
   have:fr (x.drop k) (y.drop k)=0:=by
    have:=fr_le (x.drop k) (y.drop k)
    simp at this
    omega
   omega
theorem tooLong_any (x y:List Int) (vx vy:Value) (w:World) (hx:HI w vx x) (hy:HI w vy y) (b:Bool) (hb:Hid (b=(decide (4096<x.length) || decide (4096<y.length)))) :
  Calls Tryz.prog 178 #[vx,vy] w fun e w'=>e=.returned (.bool b)∧w=w':=by
 obtain⟨xo,xc,rfl⟩:=Holds.form hx
 obtain⟨yo,yc,rfl⟩:=Holds.form hy
 have e1:decide (4096<x.length)=decide ((4096:Int)<(x.length:Int)):=decide_eq_decide.2 (by omega)
 have e2:decide (4096<y.length)=decide ((4096:Int)<(y.length:Int)):=decide_eq_decide.2 (by omega)
 have e3:=hb.out
 rw[e1,e2] at e3
 subst e3
 clear hb e1 e2
 go_enter Tryz.func178,Tryz.ntmps178
 go_wp2
 all_goals
  go_ret
  exact⟨by first | rfl | simp[*],rfl⟩
theorem run_from (X:List Int) (ao:Option Addr) (cap k:Nat) (w:World) (hk:k≤X.length) (hX:HI w (.slice ao X.length cap) X) :
  ∃ vo vc,(∀ u:World,(Instr.slice 71 (.slice ao X.length cap) (some (.int .i64 (k:Int))) none none).run Tryz.prog u=.ok (.slice vo (X.length-k) vc) u)∧(∀ u:World,HI u (.slice ao X.length cap) X→HI u (.slice vo (X.length-k) vc) (X.drop k)):=by
 have hnc:X.length≤cap:=by
  rcases hX with ⟨h,_,h3⟩ | ⟨ad,c,h,h3,_⟩
  ·simp at h;simp[h]
  ·cases h;exact h3
 refine⟨if cap=k then ao else ao.map (·.add k),cap-k,fun u=>?_,fun u hu=>?_⟩
 ·rw[run_slice_l (P:=Tryz.prog) u 71 ao X.length cap (by kernel_rfl) .i64 k (by omega) (by omega)]
  have:(sizeOf (Tryz.prog.elem 71)).run Tryz.prog u=.ok 1 u:=by kernel_rfl
  rw[this]
  simp[Result.andThen,sliced]
 ·have hl:(X.drop k).length=X.length-k:=by simp
  unfold HI
  rw[hl]
  rcases hu with ⟨h,h3,h4⟩ | ⟨ad,c,h,h3,hc⟩
  ·have e:X=[]:=by simpa [icells] using h4
   subst e
   simp at h
   obtain⟨rfl,rfl⟩:=h
   simp at hk
   subst hk
   exact .inl ⟨by simp,by simp,by simp[icells]⟩
  ·cases h
   refine .inr ⟨if cap=k then ad else ad.add k,cap-k,by split<;>simp,by omega,fun j x hj=>?_⟩
   have hj':(icells X)[k+j]?=some x:=by
    simp only[icells,List.map_drop,List.getElem?_drop] at hj ⊢
    exact hj
   have hlt:=(List.getElem?_eq_some_iff.1 hj').1
   rw[icells_length] at hlt
   rw[if_neg (by omega)]
   have h0:=hc 0 _ (List.getElem?_eq_getElem (by rw[icells_length];omega))
   obtain⟨b,off,rfl⟩:=addr_of h0
   have:=hc _ _ hj'
   rw[add_none] at this
   rw[add_none,add_none,Nat.add_assoc]
   exact this
end

section
open Go.RowKit
attribute [local simp] low_drew
theorem Low.then {W w w':World} (h:Low W w) (hb:Below w.heap.size w w'):Low W w':=Below.trans h (hb.mono (Below.size h))
theorem done_cell {w:World} {base:Nat} {g N:Nat} {Y:List Value} (hO:w.ownsRow base 305 1 (.slice (some ⟨g,0,none⟩) N N) N Y) {x y:List Int} (hD:Done x y 0 0 Y) {M:Nat} (hM:M=y.length+1) (hN:N=(x.length+1) * M) (i j q:Nat) (hi:i≤x.length) (hj:j≤y.length) (hq:q=i * M+j):w.cell? ⟨g,q,none⟩=some (.int .i16 ((ln x y i j:Nat):Int)):=by
 have:=hO.cellAt q (by rw[hq,hN,Nat.mul_one];exact idx_lt (by omega) hi)
 rw[this,hq,hM]
 exact hD i j hi hj (by omega)
end

section
open Go.RowKit
attribute [local simp] low_drew
theorem Mul64_one (n:Nat) (hn:n≤1048576) (w:World) :
  Calls Tryz.prog 277 #[.int .u64 1,.int .u64 (n:Int)] w fun e w'=>e=.returned (.tuple #[.int .u64 0,.int .u64 (n:Int)])∧w=w':=by
 have b1:bits BinOp.and IntKind.u64 1 4294967295=1:=by decide
 have b0:bits BinOp.and IntKind.u64 0 4294967295=0:=by decide
 have b2:bits BinOp.and IntKind.u64 (n:Int) 4294967295=(n:Int):=by
  have h:=bits_and_u64_nat n 4294967295 (by omega) (by omega)
  have e:n &&& 4294967295=n % 4294967296:=Nat.and_two_pow_sub_one_eq_mod n 32
  rw[e,Nat.mod_eq_of_lt (by omega)] at h
  exact h
 have d1:(n:Int) / 4294967296=0:=by omega
 go_enter Tryz.func277,Tryz.ntmps277
 go_wp2
 go_ret2
 exact⟨rfl,rfl⟩
theorem Mul_one (n:Nat) (hn:n≤1048576) (w:World) :
  Calls Tryz.prog 249 #[.int .u64 1,.int .u64 (n:Int)] w fun e w'=>e=.returned (.tuple #[.int .u64 0,.int .u64 (n:Int)])∧w=w':=by
 go_enter Tryz.func249,Tryz.ntmps249
 go_wp2_with fail
 refine (Mul64_one n hn w).mono ?_
 rintro e w' ⟨rfl,rfl⟩
 go_wp2
 go_ret2
 exact⟨rfl,rfl⟩
theorem run_makeI (N:Nat) (hN:N≤1099511627776) (W:World) :
  (Instr.makeSlice 71 (.int .i64 (N:Int)) (.int .i64 (N:Int))).run Tryz.prog W=.ok (.slice (some ⟨W.heap.size,0,none⟩) N N) (W.alloc (.cells (madeCells #[.int .i64 0] N) 3)):=by
 obtain⟨i0,hi,hz0,hzs,hz2⟩:=info_parts infoInt
 have h1:i0.bytes * N≤8 * 1099511627776:=by rw[hz2];exact Nat.mul_le_mul_left _ hN
 have hr:=run_make (P:=Tryz.prog) W 71 3 i0 _ Tryz.underlying71 hi hz0 .i64 .i64 (N:Int) (N:Int) (by omega) (Int.le_refl _) (by
  have:((i0.bytes * N:Nat):Int)≤281474976710656:=by omega
  rwa [Int.natCast_mul] at this) (by omega)
 simpa [hzs,Value.cells] using hr
theorem madeI (N:Nat):madeCells #[.int .i64 0] N=(List.replicate N (Value.int .i64 0)).toArray:=by
 apply Array.toList_inj.1
 apply List.ext_getElem
 ·simp[madeCells]
 ·intro i h1 h2
  simp[madeCells,Nat.mod_one]
theorem run_low (g N k:Nat) (hk:k<N) (u:World):(Instr.slice 71 (.slice (some ⟨g,0,none⟩) N N) (some (.int .i64 (k:Int))) none none).run Tryz.prog u=.ok (.slice (some ⟨g,k,none⟩) (N-k) (N-k)) u:=by
 rw[run_slice_l (P:=Tryz.prog) u 71 (some ⟨g,0,none⟩) N N (by kernel_rfl) .i64 k (by omega) (by omega)]
 have:(sizeOf (Tryz.prog.elem 71)).run Tryz.prog u=.ok 1 u:=by kernel_rfl
 rw[this]
 simp[Result.andThen,sliced,add_none]
 omega
theorem run_high (g N k:Nat) (hk:k≤N) (u:World):(Instr.slice 71 (.slice (some ⟨g,0,none⟩) N N) none (some (.int .i64 (k:Int))) none).run Tryz.prog u=.ok (.slice (some ⟨g,0,none⟩) k N) u:=by
 rw[run_slice_h (P:=Tryz.prog) u 71 (some ⟨g,0,none⟩) N N (by kernel_rfl) .i64 k (by omega) (by omega)]
 have:(sizeOf (Tryz.prog.elem 71)).run Tryz.prog u=.ok 1 u:=by kernel_rfl
 rw[this]
 simp[Result.andThen,sliced,add_none]
theorem size1:(Tryz.prog.info? 3).map (·.size)=some 1:=by kernel_rfl
def Ones (cur:List Value) (N k:Nat):Prop:=cur.length=N∧cur.take k=icells (List.replicate k (-1))
theorem Ones.more {cur:List Value} {N k d:Nat} (h:Ones cur N k) (hk:k+d≤N):Ones (splice cur k (icells (List.replicate d (-1)))) N (k+d):=by
 refine⟨?_,?_⟩
 ·rw[length_splice _ _ _ (by rw[icells_length,h.1];simpa using hk),h.1]
 ·have h1:(cur.take k).length=k:=by rw[List.length_take,h.1];omega
  rw[splice,← List.append_assoc,List.take_left' (by rw[List.length_append,h1,icells_length,List.length_replicate]),h.2,← icells_append,List.replicate_append_replicate]
theorem Ones.cell {cur:List Value} {N k:Nat} (h:Ones cur N k) (j:Nat) (hj:j<k):cur[j]?=some (.int .i64 (-1)):=by
 have:(cur.take k)[j]?=some (.int .i64 (-1)):=by rw[h.2];simp[icells,hj]
 rw[List.getElem?_take] at this
 simpa [hj] using this
theorem Repeat_f (N:Nat) (hN:N≤1048576) (v:Value) (w:World) (hv:HI w v [-1]) :
  Calls Tryz.prog 228 #[v,.int .i64 (N:Int)] w fun e w'=>∃ g,e=.returned (.slice (some ⟨g,0,none⟩) N N)∧w'.ownsRow w.heap.size 3 1 (.slice (some ⟨g,0,none⟩) N N) N (icells (List.replicate N (-1)))∧Below w.heap.size w w':=by
 obtain⟨ao,ca,rfl⟩:=Holds.form hv
 obtain⟨b,off,rfl,hb,hc⟩:=HI.at hv (by decide)
 have c0:w.cell? ⟨b,off,none⟩=some (.int .i64 (-1)):=hc 0 (by decide)
 clear hc hv
 have hmk:=run_makeI N (by omega)
 rw[madeI] at hmk
 obtain⟨d,hd⟩:∃ d,d=Nat.min 1 N:=⟨_,rfl⟩
 have hd':d≤1∧d≤N∧(0<N→d=1):=by
  rw[hd]
  show min 1 N≤1∧min 1 N≤N∧(0<N→min 1 N=1)
  omega
 have HDn:Hid ((icells (List.replicate d (-1))).length=Nat.min 1 N):=(by show _=_;rw[icells_length,List.length_replicate,hd])
 clear hd
 simp only[List.length_singleton] at *
 go_enter Tryz.func228,Tryz.ntmps228
 go_wp2_with fail
 refine (Mul_one N hN w).mono ?_
 rintro e w0 ⟨rfl,rfl⟩
 have hcb:(w.alloc (Obj.cells (List.replicate N (Value.int .i64 0)).toArray 3)).cell? ⟨b,off,none⟩=some (.int .i64 (-1)):=by
  rw[World.cell?_of_block (w:=w) (Below.heap_alloc _ _ _ hb)];exact c0
 have hsrc:∀ j v,(icells (List.replicate d (-1)))[j]?=some v→(w.alloc (Obj.cells (List.replicate N (Value.int .i64 0)).toArray 3)).cell? ((⟨b,off,none⟩:Addr).add j)=some v:=by
  intro j v hj
  have hl:=(List.getElem?_eq_some_iff.1 hj).1
  rw[icells_length,List.length_replicate] at hl
  obtain rfl:j=0:=by omega
  simp[icells,hl] at hj
  rw[add_none,Nat.add_zero,hcb,hj]
 have hfit:0+(icells (List.replicate d (-1))).length≤(List.replicate N (Value.int .i64 0)).length:=by rw[icells_length];simp;omega
 go_wp2_with (refine wpList_copy_splice (o:=⟨some 33,_,_,_,_,none⟩) rfl (.tmp 31) (.tmp 32) 71 71 rfl 3 Tryz.underlying71 (by kernel_rfl) _ _ _ _ _ _ rfl rfl w.heap.size 0 (List.replicate N (Value.int .i64 0)) 3 (_root_.Go.heap_alloc_new w _) (icells (List.replicate d (-1))) HDn.out (fun _=>⟨rfl,_,rfl,hsrc⟩) hfit (icells_one _) w.heap.size w ((Below.refl _ w).alloc (Nat.le_refl _) _) (Nat.le_refl _) ?_)
 intro w1 hg1 hB1
 have hlen0:((icells (List.replicate d (-1))).length:Int)=(d:Int):=by rw[icells_length,List.length_replicate]
 simp only[hlen0]
 have hOn:Ones (splice (List.replicate N (Value.int .i64 0)) 0 (icells (List.replicate d (-1)))) N (0+d):=Ones.more ⟨by simp,by simp[icells]⟩ (by omega)
 rw[Nat.zero_add] at hOn
 generalize splice (List.replicate N (Value.int .i64 0)) 0 (icells (List.replicate d (-1)))=cur1 at *
 clear hsrc hfit hcb HDn hmk hlen0
 go_wp2
 go_loopw [8] (fun nv wr=>∃ (k:Nat) (cur:List Value),k≤N∧(0<N→0<k)∧nv=.int .i64 (k:Int)∧Below w.heap.size w wr∧Hid (wr.heap[w.heap.size]?=some (.cells cur.toArray 3 (0,0)))∧Hid (Ones cur N k)) (fun nv _=>N-(intOf nv).toNat)
 case atStart=>exact⟨d,cur1,by omega,by omega,rfl,hB1,hg1,hOn⟩
 case round =>
  obtain⟨k,cur,hk,hk0,rfl,hB,hg,hO⟩:=hrel
  by_cases hlt:k<N
  ·have s1:=run_low w.heap.size N k hlt
   have s2:=run_high w.heap.size N k (by omega)
   obtain⟨d,hd⟩:∃ d,d=Nat.min k (N-k):=⟨_,rfl⟩
   have hd':d≤k∧d≤N-k∧0<d:=by
    rw[hd]
    show min k (N-k)≤k∧min k (N-k)≤N-k∧0<min k (N-k)
    have:=hk0 (by omega)
    omega
   have HDn:Hid ((icells (List.replicate d (-1))).length=Nat.min k (N-k)):=(by show _=_;rw[icells_length,List.length_replicate,hd])
   clear hd
   have hlen0:((icells (List.replicate d (-1))).length:Int)=(d:Int):=by rw[icells_length,List.length_replicate]
   have hw1:IntKind.i64.wrap ((k:Int)+(d:Int))=((k+d:Nat):Int):=by rw[IntKind.wrap_i64];omega
   have hsrc:∀ u:World,u.heap=wr.heap→∀ j v,(icells (List.replicate d (-1)))[j]?=some v→u.cell? ((⟨w.heap.size,0,none⟩:Addr).add j)=some v:=by
    intro u hu j v hj
    have hl:=(List.getElem?_eq_some_iff.1 hj).1
    rw[icells_length,List.length_replicate] at hl
    simp[icells,hl] at hj
    have hgu:u.heap[w.heap.size]?=some (.cells cur.toArray 3 (0,0)):=by rw[hu];exact hg.out
    rw[add_none,Nat.zero_add,Lib.cell_of_heap hgu,← hj]
    have:=hO.out.cell j (by omega)
    simpa using this
   have hfit:k+(icells (List.replicate d (-1))).length≤cur.length:=by rw[icells_length,hO.out.1];simp;omega
   have hi1:(0:Int)≤(k:Int):=by omega
   have hi2:(k:Int)≤(N:Int):=by omega
   go_wp2_with fail
   have hlow:Low w wr:=hB
   go_region_held3 (fun u=>Low w u) (go_keep)
    (first | (refine step_copy_splice (P:=Tryz.prog) rfl (.tmp 41) (.tmp 44) 71 71 rfl 3 Tryz.underlying71 size1 (some ⟨w.heap.size,k,none⟩) (some ⟨w.heap.size,0,none⟩) (N-k) (N-k) k N rfl rfl w.heap.size k cur 3 hg.out (icells (List.replicate d (-1))) HDn.out (fun _=>⟨rfl,_,rfl,hsrc _ rfl⟩) hfit (icells_one _) w.heap.size w (Below.dN hB 1) (Nat.le_refl _) ?_;intro w2 hg2 hB2;have hlow2:Low w w2:=hB2;simp only[goInt,hlen0]))
   go_wp2
   go_roundw
   case rel=>exact⟨k+d,_,by omega,by omega,by go_num,hB2,hg2,hO.out.more (by omega)⟩
   case measure=>simp[intOf];omega
  ·obtain rfl:k=N:=by omega
   go_wp2
   go_ret
   have hL:=hO.out.2
   rw[List.take_of_length_le (by rw[hO.out.1];omega)] at hL
   refine⟨w.heap.size,rfl,?_,hB⟩
   refine⟨by rw[icells_length];simp,.inr ⟨w.heap.size,k,cur.toArray,rfl,Nat.le_refl _,hg.out,Nat.le_refl _,by unfold maxLen;omega,?_,?_⟩⟩
   ·simp[hO.out.1]
   ·rw[hL,List.take_of_length_le (by rw[icells_length];simp)]
end

section
open Go.RowKit
def Pt (K Z:List Int) (n a:Nat) (b:Int) (X Y:List Int):Prop:=∃ P:List Int,P.length=a∧a≤n∧Z=P++List.replicate (n-a) (-1)∧P++kp b X Y=K
theorem Pt.start (x y:List Int):Pt (kp 0 x y) (List.replicate x.length (-1)) x.length 0 0 x y:=⟨[],rfl,Nat.zero_le _,by simp,by simp⟩
theorem Pt.len {K Z:List Int} {n a:Nat} {b:Int} {X Y:List Int} (h:Pt K Z n a b X Y):Z.length=n:=by
 obtain⟨P,h1,h2,h3,_⟩:=h
 rw[h3,List.length_append,h1,List.length_replicate]
 omega
theorem Pt.pair {K Z:List Int} {n a:Nat} {b:Int} {X Y X' Y':List Int} (h:Pt K Z n a b X Y) (hn:a<n) (hk:kp b X Y=b::kp (b+1) X' Y'):Pt K (Z.set a b) n (a+1) (b+1) X' Y':=by
 obtain⟨P,h1,h2,h3,h4⟩:=h
 refine⟨P++[b],by simp[h1],hn,?_,by rw[← h4,hk];simp⟩
 rw[h3,show n-a=(n-(a+1))+1 by omega,List.replicate_succ,List.set_append_right _ _ (by omega),h1]
 simp
theorem Pt.out {K Z:List Int} {n a:Nat} {b:Int} {X Y X':List Int} (h:Pt K Z n a b X Y) (hn:a<n) (hk:kp b X Y=-1::kp b X' Y):Pt K Z n (a+1) b X' Y:=by
 obtain⟨P,h1,h2,h3,h4⟩:=h
 refine⟨P++[-1],by simp[h1],hn,?_,by rw[← h4,hk];simp⟩
 rw[h3,show n-a=(n-(a+1))+1 by omega,List.replicate_succ]
 simp
theorem Pt.skip {K Z:List Int} {n a:Nat} {b:Int} {X Y Y':List Int} (h:Pt K Z n a b X Y) (hk:kp b X Y=kp (b+1) X Y'):Pt K Z n a (b+1) X Y':=by
 obtain⟨P,h1,h2,h3,h4⟩:=h
 exact⟨P,h1,h2,h3,by rw[← h4,hk]⟩
theorem Pt.done {K Z:List Int} {n a:Nat} {b:Int} {X Y:List Int} (h:Pt K Z n a b X Y) (hX:X.length=n-a) (he:X=[]∨Y=[]):Z=K:=by
 obtain⟨P,h1,h2,h3,h4⟩:=h
 rcases he with rfl | rfl
 ·rw[kp_nil,List.append_nil] at h4
  simp at hX
  rw[h3,← hX,← h4]
  simp
 ·rw[kp_none,hX] at h4
  rw[h3,h4]
structure Kst (w:World) (g gt bx n M N:Nat) (Z:List Int) (T:List Value) (wr:World):Prop where
 low:Below w.heap.size w wr
 own:wr.ownsRow w.heap.size 3 1 (.slice (some ⟨g,0,none⟩) n n) n (icells Z)
 tab:wr.ownsRow w.heap.size 305 1 (.slice (some ⟨gt,0,none⟩) N N) N T
 box:wr.heap[bx]?=some (Obj.cells #[.int .i64 (M:Int),.slice (some ⟨gt,0,none⟩) N N] 277 (0,0))
section
variable {w:World} {g gt bx n M N:Nat} {Z:List Int} {T:List Value} {wr:World}
theorem Kst.keep {w':World} (h:Kst w g gt bx n M N Z T wr) (hb:Below wr.heap.size wr w'):Kst w g gt bx n M N Z T w' :=
 ⟨h.low.trans (hb.mono h.low.size),owns_keep h.own hb,owns_keep h.tab hb,(hb.block _ (Array.getElem?_eq_some_iff.1 h.box).1).trans h.box⟩
theorem Kst.drewN (h:Kst w g gt bx n M N Z T wr) (k:Nat):Kst w g gt bx n M N Z T (wr.drewN k):=⟨Below.dN h.low k,h.own,h.tab,h.box⟩
theorem Kst.bx' (h:Kst w g gt bx n M N Z T wr):Bx bx M gt N wr wr:=⟨h.box,Below.refl _ _⟩
theorem own_at {base:Nat} {e:TypeId} {s:Nat} {g n c:Nat} {xs:List Value} (h:wr.ownsRow base e s (.slice (some ⟨g,0,none⟩) n c) n xs):base≤g∧∃ cur,wr.heap[g]?=some (.cells cur e (0,0)):=by
 rcases h.2 with ⟨h,_⟩ | ⟨g',cap,cur,h,hb,hc,_⟩
 ·cases h
 ·cases h
  exact⟨hb,cur,hc⟩
theorem Kst.store (h:Kst w g gt bx n M N Z T wr) (p:Nat) (v:Int):Kst w g gt bx n M N (Z.set p v) T (wr.setCell ⟨g,p,none⟩ (.int .i64 v)):=by
 obtain⟨p1,g1⟩:=h.own.stored p (.int .i64 v)
 obtain⟨hgb,cur,hg⟩:=own_at h.own
 obtain⟨_,cur',hgt⟩:=own_at h.tab
 have e:(icells Z).set p (.int .i64 v)=icells (Z.set p v):=by simp[icells,List.map_set]
 rw[e] at p1
 refine⟨h.low.grown g1 h.low.size (fun j hj=>by have:=Option.some.inj hj;omega),p1,?_,?_⟩
 ·refine h.tab.kept g1 (.inr ?_)
  intro q
  have:gt=g:=by simpa [Value.ownBlock] using q
  subst this
  rw[hg] at hgt
  cases hgt
 ·refine (g1.block _ (Array.getElem?_eq_some_iff.1 h.box).1 (fun q=>?_)).trans h.box
  have:bx=g:=by simpa using q
  subst this
  have:=h.box
  rw[hg] at this
  cases this
end
theorem Bx.cell {b W g N:Nat} {wr w:World} (h:Bx b W g N wr w) {a:Addr} {v:Value} (hc:wr.cell? a=some v):w.cell? a=some v:=by
 rw[World.cell?_of_block (w:=wr) (h.low.block _ (World.block_lt_of_cell? wr _ hc))];exact hc
end

section
open Go.RowKit
attribute [local simp] bx_drew
theorem kept_f (x y:List Int) (vx vy:Value) (w:World) (hx:HI w vx x) (hy:HI w vy y) (hxl:x.length≤4096) (hyl:y.length≤4096) (K:List Int) (hK:Hid (kp 0 x y=K)) :
  Calls Tryz.prog 180 #[vx,vy] w fun e w'=>∃ v,e=.returned v∧HI w' v K∧Below w.heap.size w w':=by
 obtain⟨xo,xc,rfl⟩:=Holds.form hx
 obtain⟨yo,yc,rfl⟩:=Holds.form hy
 go_enter Tryz.func180,Tryz.ntmps180
 go_wp2_with fail
 have hB0:Below w.heap.size w (w.alloc (Obj.cells #[Value.int IntKind.i64 (-1)] 3)):=(Below.refl _ w).alloc (Nat.le_refl _) _
 refine (Repeat_f x.length (by omega) _ _ (show HI _ _ [-1] from new_holds w _ _ _ _ (by decide))).mono ?_
 rintro e w1 ⟨g,rfl,hO1,hB1⟩
 have hB01:=hB0.trans (hB1.mono hB0.size)
 have hO1':w1.ownsRow w.heap.size 3 1 (.slice (some ⟨g,0,none⟩) x.length x.length) x.length (icells (List.replicate x.length (-1))):=by
  refine⟨hO1.1,?_⟩
  rcases hO1.2 with h | ⟨g',cap,cur,q1,q2,q3⟩
  ·exact .inl h
  ·exact .inr ⟨g',cap,cur,q1,Nat.le_trans (by simp) q2,q3⟩
 clear hB0 hB1 hO1
 have hx1:=HI.keep hx hB01 (Nat.le_refl _)
 have hy1:=HI.keep hy hB01 (Nat.le_refl _)
 go_wp2_with fail
 obtain⟨f,hf⟩:∃ f,fr x y=f:=⟨_,rfl⟩
 have hfl:=fr_le x y
 rw[hf] at hfl
 refine (front_f x y f _ _ _ hx1 hy1 (by omega) (by omega) hf).mono ?_
 rintro e w2 ⟨rfl,hB2⟩
 have hB02:=hB01.trans (hB2.mono hB01.size)
 have hO2:=owns_keep hO1' hB2
 have HF:Hid (fr x y=f):=hf
 clear hf hB01 hO1' hB2 hx1 hy1
 obtain⟨hfx,hfy⟩:=hfl
 go_wp2
 go_loopw [19] (fun iv wr=>∃ (k:Nat) (Z:List Int),k≤f∧iv=.int .i64 (k:Int)∧Below w.heap.size w wr∧wr.ownsRow w.heap.size 3 1 (.slice (some ⟨g,0,none⟩) x.length x.length) x.length (icells Z)∧Hid (Pt K Z x.length k k (x.drop k) (y.drop k))) (fun iv _=>f-(intOf iv).toNat)
 case atStart=>exact⟨0,_,Nat.zero_le _,rfl,hB02,hO2,(by rw[← hK.out];exact Pt.start x y)⟩
 case round =>
  obtain⟨k,Z,hk,rfl,hB,hO,hP⟩:=hrel
  by_cases hlt:k<f
  ·have hkx:k<x.length:=by omega
   have f0:=hO.frozenAt k
   have hZl:=hP.out.len
   have y0:=hO.cellAt k (by omega)
   rw[List.getElem?_eq_getElem (by rw[icells_length];omega)] at y0
   obtain⟨z0,hz0⟩:∃ z,(icells Z)[k]'(by rw[icells_length];omega)=z:=⟨_,rfl⟩
   rw[hz0] at y0
   clear hz0 hZl
   obtain⟨p1,g1⟩:=hO.stored k (.int .i64 (k:Int))
   rw[show (icells Z).set k (.int .i64 (k:Int))=icells (Z.set k (k:Int)) by simp[icells,List.map_set]] at p1
   have hB1:=hB.grown g1 hB.size (fun j hj=>by have:=Option.some.inj hj;have:=(own_at hO).1;omega)
   clear g1
   have i1:0≤(k:Int):=by omega
   have i2:(k:Int)<(x.length:Int):=by omega
   have i3:(k:Int)<(f:Int):=by omega
   have HP2:Hid (Pt K (Z.set k (k:Int)) x.length (k+1) ((k+1:Nat):Int) (x.drop (k+1)) (y.drop (k+1))):=hP.out.pair hkx (kp_same_front k x y k (by rw[HF.out];exact hlt))
   go_wp2
   go_roundw
   case rel=>exact⟨k+1,_,by omega,by go_num,hB1,p1,HP2⟩
   case measure=>simp[intOf];omega
  ·obtain rfl:k=f:=by omega
   obtain⟨vox,vcx,hsx,hhx⟩:=run_from x xo xc k w hfx hx
   obtain⟨voy,vcy,hsy,hhy⟩:=run_from y yo yc k w hfy hy
   have hX:=hhx w hx
   have hY:=hhy w hy
   have hlx:(x.drop k).length=x.length-k:=by simp
   have hly:(y.drop k).length=y.length-k:=by simp
   have HP:=hP.out
   have i1:(0:Int)≤(k:Int):=by omega
   have i2:(k:Int)≤(x.length:Int):=by omega
   have i3:(k:Int)≤(y.length:Int):=by omega
   go_wp2_with fail
   go_quiet (fail)
   go_wp2_with fail
   have hwq:Below w.heap.size w (wr.drewN nq):=Below.dN hB nq
   have hoq:(wr.drewN nq).ownsRow w.heap.size 3 1 (.slice (some ⟨g,0,none⟩) x.length x.length) x.length (icells Z):=hO
   generalize wr.drewN nq=wq at *
   rw[← hlx] at hX ⊢
   rw[← hly] at hY ⊢
   clear hsx hsy hhx hhy hP hO hB hO2 hB02 HF
   generalize x.drop k=X at *
   generalize y.drop k=Y at *
   have HXL:Hid (X.length=x.length-k):=hlx
   have hXb:X.length≤4096:=by omega
   have hYb:Y.length≤4096:=by omega
   have hkX:k+X.length=x.length:=by omega
   clear hlx hly
   obtain⟨M,hM⟩:∃ M,M=Y.length+1:=⟨_,rfl⟩
   obtain⟨N,hN⟩:∃ N,N=(X.length+1) * M:=⟨_,rfl⟩
   have HM:Hid (M=Y.length+1):=hM
   have HN:Hid (N=(X.length+1) * M):=hN
   clear hM hN
   refine (measure_f X Y _ _ _ (HI.keep hX hwq (Nat.le_refl _)) (HI.keep hY hwq (Nat.le_refl _)) hXb hYb N M HM HN).mono ?_
   rintro e w3 ⟨gt,T,rfl,hT,hD,hB3⟩
   have hB03:=hwq.trans (hB3.mono hwq.size)
   have hO3:=owns_keep hoq hB3
   have hT':w3.ownsRow w.heap.size 305 1 (.slice (some ⟨gt,0,none⟩) N N) N T:=by
    refine⟨hT.1,?_⟩
    rcases hT.2 with h | ⟨g',cap,cur,q1,q2,q3⟩
    ·exact .inl h
    ·exact .inr ⟨g',cap,cur,q1,Nat.le_trans hwq.size q2,q3⟩
   have hS0:Kst w g gt w3.heap.size x.length M N Z T (w3.alloc (Obj.cells #[.int .i64 (M:Int),.slice (some ⟨gt,0,none⟩) N N] 277)):=⟨hB03.alloc hB03.size _,hO3.alloc _,hT'.alloc _,_root_.Go.heap_alloc_new w3 _⟩
   obtain⟨bx,hbx⟩:∃ bx,bx=w3.heap.size:=⟨_,rfl⟩
   have HD:Hid (Done X Y 0 0 T):=hD
   have HP0:Hid (Pt K Z x.length k (k:Int) X Y):=HP
   clear hT hB3 hwq hoq hT' hO3 hB03 hD HP
   unfold tabV
   go_wp2
   go_loopw [9,10] (fun iv jv wi=>∃ (i j:Nat) (Z':List Int),i≤X.length∧j≤Y.length∧iv=.int .i64 (i:Int)∧jv=.int .i64 (j:Int)∧Kst w g gt w3.heap.size x.length M N Z' T wi∧Hid (Pt K Z' x.length (k+i) ((k:Int)+(j:Int)) (X.drop i) (Y.drop j))) (fun iv jv _=>X.length-(intOf iv).toNat+(Y.length-(intOf jv).toNat))
   case atStart=>exact⟨0,0,Z,Nat.zero_le _,Nat.zero_le _,rfl,rfl,hS0,(by show Pt _ _ _ _ _ _ _;simpa using HP0.out)⟩
   case round =>
    obtain⟨i,j,Z',hi,hj,rfl,rfl,hS,hP⟩:=hrel
    clear hS0 HP0
    by_cases hix:i<X.length
    ·by_cases hjy:j<Y.length
     ·obtain⟨bX,oX,rfl,_,hcx⟩:=HI.at (HI.keep hX hS.low (Nat.le_refl _)) (by omega)
      obtain⟨bY,oY,rfl,_,hcy⟩:=HI.at (HI.keep hY hS.low (Nat.le_refl _)) (by omega)
      have d1:=hcx i hix
      have d2:=hcy j hjy
      have hkp:=kp_step ((k:Int)+(j:Int)) X Y i j hix hjy
      obtain⟨xi,hxi⟩:∃ z,X[i]=z:=⟨_,rfl⟩
      obtain⟨yj,hyj⟩:∃ z,Y[j]=z:=⟨_,rfl⟩
      rw[hxi] at d1 hkp
      rw[hyj] at d2 hkp
      clear hcx hcy hxi hyj
      have i1:0≤(i:Int):=by omega
      have i2:(i:Int)<(X.length:Int):=by omega
      have i3:0≤(j:Int):=by omega
      have i4:(j:Int)<(Y.length:Int):=by omega
      by_cases hxy:xi=yj
      ·rw[if_pos hxy] at hkp
       have HKP:=hP.out.pair (by omega) hkp
       have HP2:Hid (Pt K (Z'.set (k+i) ((k:Int)+(j:Int))) x.length (k+(i+1)) ((k:Int)+((j+1:Nat):Int)) (X.drop (i+1)) (Y.drop (j+1))):=(by
        show Pt _ _ _ _ _ _ _
        rw[show k+(i+1)=k+i+1 by omega,show (k:Int)+((j+1:Nat):Int)=(k:Int)+(j:Int)+1 by omega]
        exact HKP)
       clear hkp HKP
       have f0:=hS.own.frozenAt (k+i)
       have hZl:=hP.out.len
       have y0:=hS.own.cellAt (k+i) (by omega)
       rw[List.getElem?_eq_getElem (by rw[icells_length];omega)] at y0
       obtain⟨z0,hz0⟩:∃ z,(icells Z')[k+i]'(by rw[icells_length];omega)=z:=⟨_,rfl⟩
       rw[hz0] at y0
       have i5:(k:Int)+(i:Int)<(x.length:Int):=by omega
       have i6:0≤(k:Int)+(i:Int):=by omega
       have i7:((k:Int)+(i:Int)).toNat=k+i:=by omega
       have HkX:Hid (k+X.length=x.length):=hkX
       clear hz0 hZl hkX
       go_wp2_with fail
       go_quiet (fail)
       go_wp2
       go_roundw
       case rel=>exact⟨i+1,j+1,_,by omega,by omega,by go_num,by go_num,(hS.drewN _).store (k+i) ((k:Int)+(j:Int)),HP2⟩
       case measure=>simp[intOf];omega
      ·have hxy':decide (xi=yj)=false:=decide_eq_false hxy
       rw[if_neg hxy] at hkp
       have HkX:Hid (k+X.length=x.length):=hkX
       obtain⟨a1,ha1⟩:∃ a,ln X Y (i+1) j=a:=⟨_,rfl⟩
       obtain⟨a2,ha2⟩:∃ a,ln X Y i (j+1)=a:=⟨_,rfl⟩
       obtain⟨p0,hp0⟩:∃ p,p=i * M:=⟨_,rfl⟩
       have hpi:(i:Int) * (M:Int)=(p0:Int):=by rw[hp0];simp
       have hpi1:((i:Int)+1) * (M:Int)=((p0+M:Nat):Int):=by rw[Int.add_mul,hpi];simp
       have t1:=done_cell hS.tab HD.out HM.out HN.out (i+1) j (p0+M+j) (by omega) (by omega) (by rw[hp0,Nat.succ_mul])
       have t2:=done_cell hS.tab HD.out HM.out HN.out i (j+1) (p0+(j+1)) (by omega) (by omega) (by rw[hp0])
       have b1:=ln_le X Y (i+1) j
       have b2:=ln_le X Y i (j+1)
       rw[ha1] at t1 b1 hkp
       rw[ha2] at t2 b2 hkp
       have hNb:N≤1099511627776:=by
        have h1:=HN.out
        have h2:=HM.out
        rw[h1,h2]
        exact Nat.le_trans (Nat.mul_le_mul (show X.length+1≤4097 by omega) (show Y.length+1≤4097 by omega)) (by decide)
       have hq1:p0+M+j<N:=by rw[HN.out,hp0,← Nat.succ_mul];exact idx_lt (by have:=HM.out;omega) (by omega)
       have hq2:p0+(j+1)<N:=by rw[HN.out,hp0];exact idx_lt (by have:=HM.out;omega) (by omega)
       have c1:((p0+M:Nat):Int)+(j:Int)=((p0+M+j:Nat):Int):=by omega
       have c2:(p0:Int)+((j:Int)+1)=((p0+(j+1):Nat):Int):=by omega
       have n1:(0:Int)≤(a1:Int):=by omega
       have n2:(a1:Int)≤4096:=by omega
       have n3:(0:Int)≤(a2:Int):=by omega
       have n4:(a2:Int)≤4096:=by omega
       have e1:(0:Int)≤(i:Int)+1:=by omega
       have e2:(0:Int)≤(j:Int)+1:=by omega
       have hw1:IntKind.i64.wrap ((i:Int)+1)=(i:Int)+1:=by rw[IntKind.wrap_i64];omega
       have hw2:IntKind.i64.wrap ((j:Int)+1)=(j:Int)+1:=by rw[IntKind.wrap_i64];omega
       clear ha1 ha2 hp0 hkX
       go_wp2_with fail
       go_quiet (fail)
       go_wp2_with fail
       have hSq:=hS.drewN nq
       have t1q:(wr.drewN nq).cell? ⟨gt,p0+M+j,none⟩=some (.int .i16 (a1:Int)):=t1
       have t2q:(wr.drewN nq).cell? ⟨gt,p0+(j+1),none⟩=some (.int .i16 (a2:Int)):=t2
       clear t1 t2 d1 d2 hS
       generalize wr.drewN nq=wq at *
       have hbS:=hSq.bx'
       obtain⟨q0,q1⟩:=hbS.cells
       go_region_held3 (fun u=>u.cell? ⟨w3.heap.size,0,none⟩=some (.int .i64 (M:Int))∧u.cell? ⟨w3.heap.size,1,none⟩=some (.slice (some ⟨gt,0,none⟩) N N)∧Bx w3.heap.size M gt N wq u) (go_keep)
        (first | (go_at_call_has 231 (Value.int IntKind.i64 ((i:Int)+1));refine (bx_stay (at_f M gt N (p0+M) (p0+M+j) ((i:Int)+1) (j:Int) (a1:Int) _ e1 i3 hpi1 c1 hNb hq1 (Bx.cell (show Bx w3.heap.size M gt N wq _ from (by first | assumption | (rw[bx_drew];assumption))) t1q) n1 n2) w3.heap.size M gt N wq (by first | assumption | (rw[bx_drew];assumption))).mono ?_;rintro e w' ⟨rfl,e0,e1,hbS1⟩) | (go_at_call_has 231 (Value.int IntKind.i64 ((j:Int)+1));refine (bx_stay (at_f M gt N p0 (p0+(j+1)) (i:Int) ((j:Int)+1) (a2:Int) _ i1 e2 hpi c2 hNb hq2 (Bx.cell (show Bx w3.heap.size M gt N wq _ from (by first | assumption | (rw[bx_drew];assumption))) t2q) n3 n4) w3.heap.size M gt N wq (by first | assumption | (rw[bx_drew];assumption))).mono ?_;rintro e w' ⟨rfl,e0,e1,hbS2⟩))
       have hSn:=hSq.keep hbS2.low
       clear hbS hbS1 hbS2 hSq t1q t2q q0 q1 e0 e1 hpi hpi1 c1 c2 hw1 hw2
       by_cases hle:a2≤a1
       ·rw[if_pos hle] at hkp
        have hle':(a2:Int)≤(a1:Int):=by omega
        have HP2:Hid (Pt K Z' x.length (k+(i+1)) ((k:Int)+(j:Int)) (X.drop (i+1)) (Y.drop j)):=(by
         show Pt _ _ _ _ _ _ _
         rw[show k+(i+1)=k+i+1 by omega]
         exact hP.out.out (by have:=HkX.out;omega) hkp)
        clear hkp
        go_wp2
        go_roundw
        case rel=>exact⟨i+1,j,Z',by omega,by omega,by go_num,rfl,hSn,HP2⟩
        case measure=>simp[intOf];omega
       ·rw[if_neg hle] at hkp
        have hle':¬ (a2:Int)≤(a1:Int):=by omega
        have HP2:Hid (Pt K Z' x.length (k+i) ((k:Int)+((j+1:Nat):Int)) (X.drop i) (Y.drop (j+1))):=(by
         show Pt _ _ _ _ _ _ _
         rw[show (k:Int)+((j+1:Nat):Int)=(k:Int)+(j:Int)+1 by omega]
         exact hP.out.skip hkp)
        clear hkp
        go_wp2
        go_roundw
        case rel=>exact⟨i,j+1,Z',by omega,by omega,rfl,by go_num,hSn,HP2⟩
        case measure=>simp[intOf];omega
     ·have hZ:Z'=K:=hP.out.done (by simp;omega) (.inr (List.drop_of_length_le (by omega)))
      have hj':¬ (j:Int)<(Y.length:Int):=by omega
      have hi':(i:Int)<(X.length:Int):=by omega
      subst hZ
      have hl:=hP.out.len
      go_wp2
      go_ret
      refine⟨_,rfl,?_,hS.low⟩
      unfold HI
      rw[hl]
      exact holds_of hS.own
    ·have hZ:Z'=K:=hP.out.done (by simp;omega) (.inl (List.drop_of_length_le (by omega)))
     have hi':¬ (i:Int)<(X.length:Int):=by omega
     subst hZ
     have hl:=hP.out.len
     go_wp2
     go_ret
     refine⟨_,rfl,?_,hS.low⟩
     unfold HI
     rw[hl]
     exact holds_of hS.own
end

end Go.Proofs.YtgiojkhmkeocfaaGreatDoor
