/-
  Texts that belong together, joined: UpB, UpC, QtE, QtF, PsJ, CpW, CpY, UpW, UpY, UpZ, PatchsetPrintsW, CrE, CrO, PsO, QtG.
-/
import Derived.Test.YtcniomgjikienaaGreatDoorVpA14

set_option maxHeartbeats 16000000
set_option maxRecDepth 100000
namespace Go.Proofs.YtcniomgjikienaaGreatDoor

section
open Go.RowKit Go.Proofs.YtcniomgjikienaaGreatDoor.Tx
theorem ZAP (B b:Nat) (v:Value) (h:Hk) (y:Value) (acc Z:List UInt8) (w:World) (hP:Bu B b v acc w) (hBw:B≤w.heap.size) (hll:h.ls.length≤1099511627776) (HTx:Hid (∀ m∈h.ls,m.tx.length≤1099511627776)) (HC:Hid (chkH h=0))
  (HL:Hid (∀ u,Below B w u→HMk u y h.ls)) (HT:Hid (∀ u,Below B w u→Tab10 u)) (HZ:Hid (acc++(uhL h).flatten=Z)) (hZ:Z.length≤70368744177664) :
  Calls Tryz.prog 173 #[.pointer (some ⟨b,0,none⟩),hkV h y] w fun e w'=>e=.returned (.tuple #[])∧∃ v',Bu B b v' Z w'∧Wr B b v v' w w':=by
 obtain⟨lo,lc,rfl⟩:=HMk.form (HL.out w (Below.refl _ _))
 have HSg:Hid (∀ m∈h.ls,okS m.sg=true):=ZtZ HC.out
 have hr:=(ZtX HC.out).1
 obtain⟨r1,r2,r3,r4,r5,r6,rx⟩:=ZzK hr
 clear rx
 obtain⟨r7,r8⟩:=ZzI hr
 have s3:=ZAB r1 r2 r3 r7
 have s4:=ZAB r4 r5 r6 r8
 obtain⟨A,AN,Bn,BN,ls⟩:=h
 dsimp only at hll r1 r2 r3 r4 r5 r6 r7 r8 s3 s4 HTx HSg HL
 obtain⟨T1,hT1⟩:∃ T,ucT A AN=T:=⟨_,rfl⟩
 obtain⟨T2,hT2⟩:∃ T,ucT Bn BN=T:=⟨_,rfl⟩
 rw[hT1] at s3
 rw[hT2] at s4
 obtain⟨U1,hU1⟩:∃ T,[64,64,32,45]++T1=T:=⟨_,rfl⟩
 obtain⟨U2,hU2⟩:∃ T,U1++[32,43]=T:=⟨_,rfl⟩
 obtain⟨U3,hU3⟩:∃ T,U2++T2=T:=⟨_,rfl⟩
 obtain⟨U4,hU4⟩:∃ T,U3++[32,64,64]=T:=⟨_,rfl⟩
 obtain⟨U5,hU5⟩:∃ T,U4++[10]=T:=⟨_,rfl⟩
 have n1:=congrArg List.length hU1
 have n2:=congrArg List.length hU2
 have n3:=congrArg List.length hU3
 have n4:=congrArg List.length hU4
 have n5:=congrArg List.length hU5
 simp only[List.length_append,List.length_cons,List.length_nil] at n1 n2 n3 n4 n5
 have q1:=Zsl (x:=[64,64,32,45]) (y:=T1) (by unfold Fits;simp only[List.length_cons,List.length_nil];omega) Tryz.prog
 have q2:=Zsl (x:=U1) (y:=[32,43]) (by unfold Fits;simp only[List.length_cons,List.length_nil];omega) Tryz.prog
 have q3:=Zsl (x:=U2) (y:=T2) (by unfold Fits;omega) Tryz.prog
 have q4:=Zsl (x:=U3) (y:=[32,64,64]) (by unfold Fits;simp only[List.length_cons,List.length_nil];omega) Tryz.prog
 have q5:=Zsl (x:=U4) (y:=[10]) (by unfold Fits;simp only[List.length_cons,List.length_nil];omega) Tryz.prog
 rw[hU1] at q1
 rw[hU2] at q2
 rw[hU3] at q3
 rw[hU4] at q4
 rw[hU5] at q5
 obtain⟨Z1,hZ1⟩:∃ T,acc++U5=T:=⟨_,rfl⟩
 have HZ1:Hid (acc++U5=Z1):=hZ1
 have HE:Hid (Z1++((ls.drop 0).flatMap umL).flatten=Z):=(by
  show _=_
  rw[← HZ.out,← hZ1,← hU5,← hU4,← hU3,← hU2,← hU1,← hT1,← hT2,List.drop_zero]
  simp[uhL,uhT])
 have hZ1l:Z1.length≤70368744177664:=(by have h:=congrArg List.length HE.out;rw[List.length_append] at h;omega)
 have HT1:Hid (ucT A AN=T1):=hT1
 have HT2:Hid (ucT Bn BN=T2):=hT2
 clear HZ hZ1 hU1 hU2 hU3 hU4 hU5 hT1 hT2 n1 n2 n3 n4 n5 hr
 have hBm:Below w.heap.size w (w.alloc (hkO ⟨A,AN,Bn,BN,ls⟩ (.slice lo ls.length lc))):=(Below.refl _ w).alloc (Nat.le_refl _) _
 have hMx:=Hx.new w ⟨A,AN,Bn,BN,ls⟩ (.slice lo ls.length lc)
 have hPm:=hP.low hBm
 have hWm:Wr B b v v w (w.alloc (hkO ⟨A,AN,Bn,BN,ls⟩ (.slice lo ls.length lc))):=Wr.low hBm hBw
 have hOff:Off w.heap.size b v:=⟨by have:=Bld.lt hP;omega,fun e=>by have:=(hP.2.2.1.lt _ e).2;omega⟩
 have e:hkV ⟨A,AN,Bn,BN,ls⟩ (.slice lo ls.length lc)=.agg #[.int .i64 A,.int .i64 AN,.int .i64 Bn,.int .i64 BN,.slice lo ls.length lc]:=rfl
 rw[e]
 unfold hkO at hBm hMx hPm hWm
 dsimp only at hBm hMx hPm hWm
 clear e hP
 go_enter Tryz.func173,Tryz.ntmps173
 go_upto_region 1 with fail
 generalize w.alloc (.cells #[.int .i64 A,.int .i64 AN,.int .i64 Bn,.int .i64 BN,.slice lo ls.length lc] 45)=Wm at hBm hMx hPm hWm ⊢
 generalize w.heap.size=M at hMx hOff ⊢
 refine wp_region_noPanic ?_
 have hwd:Below Wm.heap.size Wm Wm.drew:=(Below.refl _ Wm).drew
 refine wp_region_held_drew (S:=fun u=>Hx u M ⟨A,AN,Bn,BN,ls⟩ (.slice lo ls.length lc)) (by kernel_rfl) (hMx.low hwd) (fun hHeld=>?_)
 generalize Wm.drew=wd at hHeld hwd ⊢
 have cellsOf:=fun u (hu:Hx u M ⟨A,AN,Bn,BN,ls⟩ (.slice lo ls.length lc))=>hu.cells
 dsimp only at cellsOf
 refine Y_t 0 6 _ (.pointer (some ⟨b,0,none⟩)) rfl (Or.inl ⟨by kernel_rfl,fun u hu=>by kernel_rfl⟩) hHeld ?_
 simp only[Act.put,Y_a,Y_b,Y_c]
 refine Y_t 1 7 _ (.pointer (some ⟨M,0,none⟩)) rfl (Or.inl ⟨by kernel_rfl,fun u hu=>by kernel_rfl⟩) hHeld ?_
 simp only[Act.put,Y_a,Y_b,Y_c]
 refine Y_t 2 8 _ (.int .i64 A) rfl (Or.inl ⟨by kernel_rfl,fun u hu=>ZuC (cellsOf u hu).1 (.tmp 7) (by kernel_rfl) (by kernel_rfl)⟩) hHeld ?_
 simp only[Act.put,Y_a,Y_b,Y_c]
 refine Y_t 3 9 _ (.pointer (some ⟨M,1,none⟩)) rfl (Or.inl ⟨by kernel_rfl,fun u hu=>by kernel_rfl⟩) hHeld ?_
 simp only[Act.put,Y_a,Y_b,Y_c]
 refine Y_t 4 10 _ (.int .i64 AN) rfl (Or.inl ⟨by kernel_rfl,fun u hu=>ZuC (cellsOf u hu).2.1 (.tmp 9) (by kernel_rfl) (by kernel_rfl)⟩) hHeld ?_
 simp only[Act.put,Y_a,Y_b,Y_c]
 refine Y_t 8 14 _ (.pointer (some ⟨M,2,none⟩)) rfl (Or.inl ⟨by kernel_rfl,fun u hu=>by kernel_rfl⟩) hHeld ?_
 simp only[Act.put,Y_a,Y_b,Y_c]
 refine Y_t 9 15 _ (.int .i64 Bn) rfl (Or.inl ⟨by kernel_rfl,fun u hu=>ZuC (cellsOf u hu).2.2.1 (.tmp 14) (by kernel_rfl) (by kernel_rfl)⟩) hHeld ?_
 simp only[Act.put,Y_a,Y_b,Y_c]
 refine Y_t 10 16 _ (.pointer (some ⟨M,3,none⟩)) rfl (Or.inl ⟨by kernel_rfl,fun u hu=>by kernel_rfl⟩) hHeld ?_
 simp only[Act.put,Y_a,Y_b,Y_c]
 refine Y_t 11 17 _ (.int .i64 BN) rfl (Or.inl ⟨by kernel_rfl,fun u hu=>ZuC (cellsOf u hu).2.2.2.1 (.tmp 16) (by kernel_rfl) (by kernel_rfl)⟩) hHeld ?_
 simp only[Act.put,Y_a,Y_b,Y_c]
 have hBBm:∀ u,Below Wm.heap.size Wm u→Below B w u:=fun u hu=>hWm.below.trans (hu.mono (Nat.le_trans hBw hWm.size))
 refine Y_e 5 11 _ rfl 208 (.func 208) #[.tmp 8,.tmp 10] #[3,3] (by kernel_rfl) #[] (by kernel_rfl) #[.int .i64 A,.int .i64 AN] (by kernel_rfl) (enters_of Tryz.func208 (by kernel_rfl) rfl) (fun v2 u=>v2=.string ⟨T1.toArray⟩∧Below Wm.heap.size Wm u) ?_ ?_
 ·refine (ZAF A AN r1 (by omega) r3 (by omega) wd (HT.out wd (hBBm wd hwd)) T1 HT1).mono ?_
  rintro e u ⟨rfl,hu⟩
  exact⟨_,rfl,hHeld.low hu,rfl,hwd.trans (hu.mono hwd.size)⟩
 rintro _ w2 hw2 ⟨rfl,hb2⟩
 simp only[Act.put,Y_a,Y_b,Y_c]
 refine Y_t 6 12 _ (.string ⟨U1.toArray⟩) rfl (Or.inl ⟨by kernel_rfl,fun u hu=>ZuA q1 (.const (.string ⟨#[64,64,32,45]⟩)) (.tmp 11) (by kernel_rfl) (by kernel_rfl) (by kernel_rfl)⟩) hw2 ?_
 simp only[Act.put,Y_a,Y_b,Y_c]
 refine Y_t 7 13 _ (.string ⟨U2.toArray⟩) rfl (Or.inl ⟨by kernel_rfl,fun u hu=>ZuA q2 (.tmp 12) (.const (.string ⟨#[32,43]⟩)) (by kernel_rfl) (by kernel_rfl) (by kernel_rfl)⟩) hw2 ?_
 simp only[Act.put,Y_a,Y_b,Y_c]
 refine Y_e 12 18 _ rfl 208 (.func 208) #[.tmp 15,.tmp 17] #[3,3] (by kernel_rfl) #[] (by kernel_rfl) #[.int .i64 Bn,.int .i64 BN] (by kernel_rfl) (enters_of Tryz.func208 (by kernel_rfl) rfl) (fun v2 u=>v2=.string ⟨T2.toArray⟩∧Below Wm.heap.size Wm u) ?_ ?_
 ·refine (ZAF Bn BN r4 (by omega) r6 (by omega) w2 (HT.out w2 (hBBm w2 hb2)) T2 HT2).mono ?_
  rintro e u ⟨rfl,hu⟩
  exact⟨_,rfl,hw2.low hu,rfl,hb2.trans (hu.mono hb2.size)⟩
 rintro _ w3 hw3 ⟨rfl,hb3⟩
 simp only[Act.put,Y_a,Y_b,Y_c]
 refine Y_t 13 19 _ (.string ⟨U3.toArray⟩) rfl (Or.inl ⟨by kernel_rfl,fun u hu=>ZuA q3 (.tmp 13) (.tmp 18) (by kernel_rfl) (by kernel_rfl) (by kernel_rfl)⟩) hw3 ?_
 simp only[Act.put,Y_a,Y_b,Y_c]
 refine Y_t 14 20 _ (.string ⟨U4.toArray⟩) rfl (Or.inl ⟨by kernel_rfl,fun u hu=>ZuA q4 (.tmp 19) (.const (.string ⟨#[32,64,64]⟩)) (by kernel_rfl) (by kernel_rfl) (by kernel_rfl)⟩) hw3 ?_
 simp only[Act.put,Y_a,Y_b,Y_c]
 refine Y_t 15 21 _ (.string ⟨U5.toArray⟩) rfl (Or.inl ⟨by kernel_rfl,fun u hu=>ZuA q5 (.tmp 20) (.const (.string ⟨#[10]⟩)) (by kernel_rfl) (by kernel_rfl) (by kernel_rfl)⟩) hw3 ?_
 simp only[Act.put,Y_a,Y_b,Y_c]
 have hP3:=hPm.low hb3
 have hW3:Wr B b v v w w3:=hWm.trans (Wr.low hb3 (Nat.le_trans hBw hWm.size))
 refine Y_e 16 22 _ rfl 39 (.func 39) #[.tmp 6,.tmp 21] #[82,9] (by kernel_rfl) #[] (by kernel_rfl) #[.pointer (some ⟨b,0,none⟩),.string ⟨U5.toArray⟩] (by kernel_rfl) (enters_of Tryz.func39 (by kernel_rfl) rfl) (fun _ w4=>∃ v',Bu B b v' Z1 w4∧Wr B b v v' w w4) ?_ ?_
 ·refine (hP3.str (Nat.le_trans hBw hW3.size) HZ1.out hZ1l).mono ?_
  rintro e w4 ⟨⟨z,rfl⟩,v4,q4',hw4⟩
  exact⟨_,rfl,(hw3.wr hw4 hOff).1,v4,q4',hW3.trans hw4⟩
 rintro _ w4 hw4 ⟨v4,hP4,hW4⟩
 simp only[Act.put,Y_a,Y_b,Y_c]
 refine wpAnyH_done (by kernel_rfl) ?_ _
 refine NoPanic.normal ?_
 obtain⟨d0,d1,d2,d3,d4⟩:=hw4.cells
 clear q1 q2 q3 q4 q5 hHeld hwd cellsOf hb2 hw2 hb3 hP3 hW3 hPm hWm hMx hBm hOff hBBm HZ1 HT1 HT2 HT
 go_wp2
 clear d0 d1 d2 d3 d4
 go_loopw [26] (fun i wr=>∃ (k:Nat) (v1:Value) (ac:List UInt8),k≤ls.length∧i=.int .i64 k∧Bu B b v1 ac wr∧Wr B b v v1 w wr∧Hid (ac++((ls.drop k).flatMap umL).flatten=Z)) (fun i _=>ls.length-(intOf i).toNat)
 case atStart=>exact⟨0,v4,Z1,Nat.zero_le _,by go_num,hP4,hW4,HE⟩
 case round =>
 clear HE hP4 hW4 hw4
 obtain⟨k,v1,ac,hk,rfl,hP,hW,HI⟩:=hrel
 have hacl:ac.length≤70368744177664:=(by
  have h1:=congrArg List.length HI.out
  rw[List.length_append] at h1
  omega)
 by_cases hlt:k<ls.length
 ·have hml:=HL.out wr hW.below
  obtain⟨bk,off,rfl,hbk,hcl⟩:=HMk.at hml (by omega)
  obtain⟨m,hm⟩:∃ m,ls[k]=m:=⟨_,rfl⟩
  obtain⟨c0,c1⟩:=Low.mk (Below.refl _ wr) hml k hlt hm
  clear hcl
  have htx:=HTx.out m (by rw[← hm];exact List.getElem_mem hlt)
  have hsg:=ZAf (HSg.out m (by rw[← hm];exact List.getElem_mem hlt))
  have h0:0≤m.sg:=by omega
  have h1:m.sg<256:=by omega
  have i1:(0:Int)≤(k:Int):=by omega
  have i2:(k:Int)<(ls.length:Int):=by omega
  obtain⟨T,hT⟩:∃ T,plT m.tx=T:=⟨_,rfl⟩
  have HTT:Hid (plT m.tx=T):=hT
  obtain⟨A1,hA1⟩:∃ Y,ac++[UInt8.ofNat m.sg.toNat]=Y:=⟨_,rfl⟩
  obtain⟨A2,hA2⟩:∃ Y,A1++T=Y:=⟨_,rfl⟩
  have HI2:Hid (A2++((ls.drop (k+1)).flatMap umL).flatten=Z):=(by
   show _=_
   rw[← HI.out,← hA2,← hA1,List.drop_eq_getElem_cons hlt,hm,List.flatMap_cons,List.flatten_append,ZAI,hT]
   simp)
  have hA2l:A2.length≤70368744177664:=(by have h:=congrArg List.length HI2.out;rw[List.length_append] at h;omega)
  have HA2:Hid (A1++T=A2):=hA2
  have HA1:Hid (Lib.byteCells ac++[.int .u8 m.sg]=Lib.byteCells A1):=(by
   show _=_
   rw[← hA1,Lib.byteCells_append,ZtE h0 h1])
  have hBm:Below wr.heap.size wr (wr.alloc (.cells #[.int .u8 m.sg,.string ⟨m.tx.toArray⟩] 47)):=(Below.refl _ wr).alloc (Nat.le_refl _) _
  have hMb:=heap_alloc_new wr (.cells #[.int .u8 m.sg,.string ⟨m.tx.toArray⟩] 47)
  have hOff:Off wr.heap.size b v1:=⟨by have:=Bld.lt hP;omega,fun e=>by have:=(hP.2.2.1.lt _ e).2;omega⟩
  have hPm:=hP.low hBm
  have hWm:=hW.trans (Wr.low hBm (Nat.le_trans hBw hW.size))
  have hbl:=Ztl ac
  clear hT hA1 hA2 hm HI hP hW hBm hml
  have hsz:B≤(wr.alloc (.cells #[.int .u8 m.sg,.string ⟨m.tx.toArray⟩] 47)).heap.size:=Nat.le_trans hBw hWm.size
  have hlen:(Lib.byteCells ac).length+1≤140737488355328:=by omega
  have hPb:Bld 85 5 B b v1 (Lib.byteCells ac) (wr.alloc (.cells #[.int .u8 m.sg,.string ⟨m.tx.toArray⟩] 47)):=hPm
  have hcb:=Ztx ZwG B b v1 (Lib.byteCells ac) m.sg _ hPb hlen hsz
  clear hPb hsz hlen
  go_wp2_with fail
  refine hcb.mono ?_
  rintro e w5 ⟨rfl,v5,q5,hw5⟩
  have hP5:Bu B b v5 A1 w5:=(by unfold Bu;rw[← HA1.out];exact q5)
  have hW5:=hWm.trans hw5
  obtain⟨hM5,hO5⟩:=hw5.block hMb hOff
  have m1:w5.cell? ⟨wr.heap.size,1,none⟩=some (.string ⟨m.tx.toArray⟩):=(by rw[Lib.cell_of_heap hM5];rfl)
  clear q5 hw5 hWm hPm hMb hOff c0 c1 hcb
  go_wp2_with fail
  refine (Zyx m.tx w5 htx T HTT).mono ?_
  rintro e w6 ⟨rfl,rfl⟩
  go_wp2_with fail
  refine (hP5.str (Nat.le_trans hBw hW5.size) HA2.out hA2l).mono ?_
  rintro e w7 ⟨⟨z,rfl⟩,v7,hP7,hw7⟩
  have hW7:=hW5.trans hw7
  clear m1 hP5 hW5 hw7 hM5 hO5
  go_wp2
  exact⟨⟨k+1,v7,A2,by omega,by go_num,hP7,hW7,HI2⟩,by simp[intOf];omega⟩
 ·have hend:decide ((k:Int)<(ls.length:Int))=false:=decide_eq_false (by omega)
  have HE:Hid (ac=Z):=(by
   have h:=HI.out
   rw[List.drop_of_length_le (by omega)] at h
   show _=_
   simpa using h)
  clear HI
  go_wp2
  first
   | go_end0
   | refine bodyPost_ret (results_none rfl _ _ _) rfl ?_
   | refine bodyPost_end (results_none rfl _ _ _) rfl ?_
  exact⟨rfl,v1,by rw[← HE.out];exact hP,hW⟩
end

section
open Go.RowKit Go.Proofs.YtcniomgjikienaaGreatDoor.Tx
theorem ZAz (p:Pth) (q:List (Hk × Value)) (HQ:Hid (q.map (·.1)=p.hs)) (v:Value) (w:World) (hv:HHp w v q) (hok:HOk q) (ho:p.old.length≤1099511627776) (hn:p.new.length≤1099511627776) (HT:Hid (Tab10 w)) (Z:List UInt8) (r:Int) (HR:Hid (wrgP p=r)) (HZ:Hid (upT p=Z)) (hZ:Z.length≤70368744177664) :
  Calls Tryz.prog 141 #[ptV p v] w fun e w'=>e=.returned (.tuple #[.string ⟨Z.toArray⟩,.int .i64 r])∧Below w.heap.size w w':=by
 obtain⟨lo,lc,rfl⟩:=Holds.form hv.row
 have HO:=fun h=>(ZAT (p:=p) h)
 obtain⟨old,new,hs⟩:=p
 dsimp only at HQ ho hn
 have hql:hs.length=q.length:=(by rw[← HQ.out,List.length_map])
 have hZZ:=HZ.out
 unfold upT at hZZ
 rw[HR.out] at hZZ
 have hBm:Below w.heap.size w (w.alloc (.cells #[.string ⟨old.toArray⟩,.string ⟨new.toArray⟩,.slice lo q.length lc] 42)):=(Below.refl _ w).alloc (Nat.le_refl _) _
 have hMx:Px (w.alloc (.cells #[.string ⟨old.toArray⟩,.string ⟨new.toArray⟩,.slice lo q.length lc] 42)) w.heap.size ⟨old,new,hs⟩ (.slice lo q.length lc):=heap_alloc_new w _
 have hvm:=hv.keep hBm (Nat.le_refl _)
 have hc:=ZtB ⟨old,new,hs⟩ q HQ (.slice lo q.length lc) _ hvm hok ho hn r HR
 have e:ptV ⟨old,new,hs⟩ (.slice lo q.length lc)=.agg #[.string ⟨old.toArray⟩,.string ⟨new.toArray⟩,.slice lo q.length lc]:=rfl
 rw[e] at hc ⊢
 obtain⟨d0,d1,d2⟩:=hMx.cells
 clear e hvm
 by_cases hr0:r=0
 ·subst hr0
  rw[if_pos rfl] at hZZ
  obtain⟨o1,o2,o3,o4⟩:=HO HR.out
  dsimp only at o1 o2 o3 o4
  have HCh:Hid (∀ x∈hs,chkH x=0):=o4
  clear o4 HO
  by_cases hq0:q.length=0
  ·have HE:Hid ([]=Z):=(by
    show _=_
    rw[← hZZ]
    have:hs=[]:=List.eq_nil_of_length_eq_zero (by omega)
    rw[this]
    rfl)
   have i1:((q.length:Int) == 0)=true:=(by rw[hq0];rfl)
   clear hZZ HZ hq0 hql
   go_enter Tryz.func141,Tryz.ntmps141
   go_wp2_with fail
   refine hc.mono ?_
   rintro e w1 ⟨rfl,hB1⟩
   have hM1:=hMx.low hB1
   clear d0 d1 d2
   obtain⟨d0,d1,d2⟩:=hM1.cells
   go_wp2
   go_ret2
   exact⟨by rw[← HE.out];rfl,hBm.trans (hB1.mono hBm.size)⟩
  ·have hne:hs≠[]:=(by intro e;rw[e] at hql;simp at hql;omega)
   rw[ZAN (p:=⟨old,new,hs⟩) hne] at hZZ
   dsimp only at hZZ
   obtain⟨N1,hN1⟩:∃ Y,nameT old=Y:=⟨_,rfl⟩
   obtain⟨N2,hN2⟩:∃ Y,nameT new=Y:=⟨_,rfl⟩
   obtain⟨U1,hU1⟩:∃ Y,[45,45,45,32]++N1=Y:=⟨_,rfl⟩
   obtain⟨U2,hU2⟩:∃ Y,[43,43,43,32]++N2=Y:=⟨_,rfl⟩
   obtain⟨V1,hV1⟩:∃ Y,U1++[10]=Y:=⟨_,rfl⟩
   obtain⟨V2,hV2⟩:∃ Y,U2++[10]=Y:=⟨_,rfl⟩
   obtain⟨Z1,hZ1⟩:∃ Y,[]++V1=Y:=⟨_,rfl⟩
   obtain⟨Z2,hZ2⟩:∃ Y,Z1++V2=Y:=⟨_,rfl⟩
   have HE:Hid (Z2++(((q.map (·.1)).drop 0).flatMap uhL).flatten=Z):=(by
    show _=_
    rw[← hZZ,← hZ2,← hZ1,← hV1,← hV2,← hU1,← hU2,hN1,hN2,HQ.out,List.drop_zero]
    simp)
   have hE:=congrArg List.length HE.out
   have l2:=congrArg List.length hZ2
   have l1:=congrArg List.length hZ1
   simp only[List.length_append] at hE l2 l1
   have b2:Z2.length≤70368744177664:=by omega
   have b1:Z1.length≤70368744177664:=by omega
   have n1:=Zxk old
   have n2:=Zxk new
   rw[hN1] at n1
   rw[hN2] at n2
   have q1:=Zsl (x:=[45,45,45,32]) (y:=N1) (by unfold Fits;simp only[List.length_cons,List.length_nil];omega) Tryz.prog
   have q2:=Zsl (x:=[43,43,43,32]) (y:=N2) (by unfold Fits;simp only[List.length_cons,List.length_nil];omega) Tryz.prog
   rw[hU1] at q1
   rw[hU2] at q2
   have u1:=congrArg List.length hU1
   have u2:=congrArg List.length hU2
   simp only[List.length_append,List.length_cons,List.length_nil] at u1 u2
   have q3:=Zsl (x:=U1) (y:=[10]) (by unfold Fits;simp only[List.length_cons,List.length_nil];omega) Tryz.prog
   have q4:=Zsl (x:=U2) (y:=[10]) (by unfold Fits;simp only[List.length_cons,List.length_nil];omega) Tryz.prog
   rw[hV1] at q3
   rw[hV2] at q4
   have HN1:Hid (nameT old=N1):=hN1
   have HN2:Hid (nameT new=N2):=hN2
   have HZ1:Hid ([]++V1=Z1):=hZ1
   have HZ2:Hid (Z1++V2=Z2):=hZ2
   have HZne:Hid (Z≠[]):=(by
    intro e
    have h:=congrArg List.length e
    have h2:=congrArg List.length hV1
    simp only[List.length_append,List.length_cons,List.length_nil] at h h2
    omega)
   have i1:((q.length:Int) == 0)=false:=beq_eq_false_iff_ne.2 (by omega)
   have hq4:q.length≤4096:=by omega
   clear hZZ HZ hq0 hql hE l1 l2 n1 n2 hN1 hN2 hU1 hU2 hV1 hV2 hZ1 hZ2 hne o3 u1 u2
   go_enter Tryz.func141,Tryz.ntmps141
   go_wp2_with fail
   refine hc.mono ?_
   rintro e w1 ⟨rfl,hB1⟩
   have hM1:=hMx.low hB1
   have hBw1:=hBm.trans (hB1.mono hBm.size)
   clear d0 d1 d2 hBm hMx hB1 hc
   have hM2:=hM1.low ((Below.refl _ w1).alloc (Nat.le_refl _) (.cells #[.pointer none,.slice none 0 0] 85))
   have hBw2:=hBw1.alloc hBw1.size (.cells #[.pointer none,.slice none 0 0] 85)
   have hP2:Bu w.heap.size w1.heap.size (.slice none 0 0) [] (w1.alloc (.cells #[.pointer none,.slice none 0 0] 85)):=⟨hBw1.size,⟨_,.inl rfl,heap_alloc_new w1 _⟩,World.ownsRowF_nil _ _ _ _,by simp[Value.ownBlock]⟩
   have hO2:Off w.heap.size w1.heap.size (.slice none 0 0):=⟨by have:=hM1.lt;omega,by simp[Value.ownBlock]⟩
   obtain⟨f0,f1,f2⟩:=hM1.cells
   obtain⟨d0,d1,d2⟩:=hM2.cells
   go_wp2_with fail
   refine (ZAL old _ ho N1 HN1).mono ?_
   generalize w1.alloc (.cells #[.pointer none,.slice none 0 0] 85)=W2 at hM2 hBw2 hP2 d0 d1 d2 ⊢
   generalize w1.heap.size=b at hP2 hO2 ⊢
   rintro e w3 ⟨rfl,hB3⟩
   have hM3:=hM2.low hB3
   have hP3:=hP2.low hB3
   have hBw3:=hBw2.trans (hB3.mono hBw2.size)
   clear d0 d1 d2 f0 f1 f2 hM2 hP2 hBw2 hB3 hM1 hBw1
   go_wp2_with fail
   refine (hP3.str hBw3.size HZ1.out b1).mono ?_
   rintro e w4 ⟨⟨z4,rfl⟩,v4,hP4,hW4⟩
   obtain⟨hM4,hO4⟩:=hM3.wr hW4 hO2
   have hBw4:=hBw3.trans hW4.below
   obtain⟨d0,d1,d2⟩:=hM4.cells
   clear hM3 hP3 hBw3 hO2 hW4
   go_wp2_with fail
   refine (ZAL new _ hn N2 HN2).mono ?_
   rintro e w5 ⟨rfl,hB5⟩
   have hM5:=hM4.low hB5
   have hP5:=hP4.low hB5
   have hBw5:=hBw4.trans (hB5.mono hBw4.size)
   clear d0 d1 d2 hM4 hP4 hBw4 hB5
   go_wp2_with fail
   refine (hP5.str hBw5.size HZ2.out b2).mono ?_
   rintro e w6 ⟨⟨z6,rfl⟩,v6,hP6,hW6⟩
   obtain⟨hM6,hO6⟩:=hM5.wr hW6 hO4
   have hBw6:=hBw5.trans hW6.below
   obtain⟨d0,d1,d2⟩:=hM6.cells
   clear hM5 hP5 hBw5 hO4 hW6 q1 q2 q3 q4 HZ1 HZ2 HN1 HN2
   go_wp2
   go_loopw [32] (fun i wr=>∃ (k:Nat) (v1:Value) (ac:List UInt8),k≤q.length∧i=.int .i64 k∧Bu w.heap.size b v1 ac wr∧Below w.heap.size w wr∧Hid (ac++(((q.map (·.1)).drop k).flatMap uhL).flatten=Z)) (fun i _=>q.length-(intOf i).toNat)
   case atStart=>exact⟨0,v6,Z2,Nat.zero_le _,by go_num,hP6,hBw6,HE⟩
   case round =>
   clear HE hP6 hBw6 hM6 hO6 d0 d1 d2
   obtain⟨k,v1,ac,hk,rfl,hP,hB,HI⟩:=hrel
   by_cases hlt:k<q.length
   ·obtain⟨bk,off,rfl,hbk,_⟩:=hv.at (by omega)
    obtain⟨h,y,hx⟩:∃ h y,q[k]=(h,y):=⟨_,_,rfl⟩
    obtain⟨⟨c0,c1,c2,c3,c4⟩,hm⟩:=HHp.take hv hB k hlt hx
    obtain⟨x1,x2⟩:=hok.2 q[k] (List.getElem_mem hlt)
    have hins:=hv.ins q[k] (List.getElem_mem hlt)
    have hch:=HCh.out q[k].1 (by rw[← HQ.out];exact List.mem_map_of_mem (List.getElem_mem hlt))
    rw[hx] at x1 x2 hins hch
    dsimp only at x1 x2 hins hch
    have HI2:=HI.out
    rw[List.drop_eq_getElem_cons (show k<(q.map (·.1)).length by rw[List.length_map];exact hlt),List.getElem_map,hx,List.flatMap_cons,List.flatten_append,← List.append_assoc] at HI2
    dsimp only at HI2
    obtain⟨A2,hA2⟩:∃ Y,ac++(uhL h).flatten=Y:=⟨_,rfl⟩
    rw[hA2] at HI2
    have HI3:Hid (A2++(((q.map (·.1)).drop (k+1)).flatMap uhL).flatten=Z):=HI2
    have hAl:A2.length≤70368744177664:=(by have:=congrArg List.length HI2;rw[List.length_append] at this;omega)
    have i4:(0:Int)≤(k:Int):=by omega
    have i5:(k:Int)<(q.length:Int):=by omega
    have hBn:Below wr.heap.size wr (wr.alloc (.cells #[.int .i64 h.A,.int .i64 h.AN,.int .i64 h.B,.int .i64 h.BN,y] 45)):=(Below.refl _ wr).alloc (Nat.le_refl _) _
    have hBm:=hB.trans (hBn.mono hB.size)
    have hPm:=hP.low hBn
    have hc:=ZAP w.heap.size b v1 h y ac A2 _ hPm hBm.size x1 x2 hch (fun u hu=>hins.keep (hBm.trans hu) (Nat.le_refl _)) (fun u hu=>HT.out.on (hBm.trans hu)) hA2 hAl
    obtain⟨yo,yc,rfl⟩:=HMk.form hm
    have e:hkV h (.slice yo h.ls.length yc)=.agg #[.int .i64 h.A,.int .i64 h.AN,.int .i64 h.B,.int .i64 h.BN,.slice yo h.ls.length yc]:=rfl
    rw[e] at hc
    clear e HI HI2 hx hm hins hch hA2
    go_wp2_with fail
    refine hc.mono ?_
    rintro e w7 ⟨rfl,v7,hP7,hW7⟩
    go_wp2
    exact⟨⟨k+1,v7,A2,by omega,by go_num,hP7,hBm.trans hW7.below,HI3⟩,by simp[intOf];omega⟩
   ·have hend:decide ((k:Int)<(q.length:Int))=false:=decide_eq_false (by omega)
    have hE:ac=Z:=(by
     have h:=HI.out
     rw[List.drop_of_length_le (by rw[List.length_map];omega)] at h
     simpa using h)
    subst hE
    clear HI
    go_wp2_with fail
    refine (ZtA w.heap.size b v1 ac HZne.out wr hP).mono ?_
    rintro e w7 ⟨rfl,hB7⟩
    go_wp2
    go_ret2
    exact⟨rfl,hB.trans hB7⟩
 ·rw[if_neg hr0] at hZZ
  have HE:Hid ([]=Z):=hZZ
  have e1:(r != 0)=true:=bne_iff_ne.2 hr0
  clear hZZ HZ HO hr0
  go_enter Tryz.func141,Tryz.ntmps141
  go_wp2_with fail
  refine hc.mono ?_
  rintro e w1 ⟨rfl,hB1⟩
  go_wp2
  go_ret2
  exact⟨by rw[← HE.out];rfl,hBm.trans (hB1.mono hBm.size)⟩
end

section
open Go.RowKit Go.Proofs.YtcniomgjikienaaGreatDoor.Tx
attribute [local go_sem] Zhc
def rwZ (f:Int) (p:Pth):List UInt8:=if wrgP p=0 then rowP f p else []
def mstK:Nat→Int
 | 0=>64
 | 1=>64
 | _=>1
theorem pr_f {B:Nat} {k:Nat} (hk:k<3):∃ (b F H:Nat) (c:Array Value),fmA (bgV B) (bgV (B+1)) k=#[.int .i64 (fmNo k),.func (.func b) #[] c,.int .i64 (mstK k),.func (.func F) #[] #[],.func (.func H) #[] #[]]∧(∀ args w,(callFunc H args).run Tryz.prog w=.ok (.enter H args) w) ∧
  ∀ (p:Pth) (q:List (Hk × Value)) (v:Value) (w:World),q.map (·.1)=p.hs→HHp w v q→HOk q→(∀ x∈q,x.1.ls.length≤137438953472)→p.old.length≤1099511627776→p.new.length≤1099511627776→Hid (Tab10 w)→∀ (Z:List UInt8) (r:Int),Hid (wrgP p=r)→Hid (rwZ (fmNo k) p=Z)→Z.length≤70368744177664→Calls Tryz.prog H #[ptV p v] w fun e w'=>e=.returned (.tuple #[.string ⟨Z.toArray⟩,.int .i64 r])∧Below w.heap.size w w':=by
 rcases (by omega:k=0∨k=1∨k=2) with rfl | rfl | rfl
 ·exact⟨_,_,_,_,rfl,enters_of Tryz.func141 (by kernel_rfl) rfl,fun p q v w h1 h2 h3 _ h5 h6 h7 Z r hr hz hZ=>ZAz p q h1 v w h2 h3 h5 h6 h7 Z r hr (by show upT p=Z;rw[← hz.out];rfl) hZ⟩
 ·exact⟨_,_,_,_,rfl,enters_of Tryz.func143 (by kernel_rfl) rfl,fun p q v w h1 h2 h3 _ h5 h6 h7 Z r hr hz hZ=>Zty p q h1 v w h2 h3 h5 h6 h7 Z r hr (by show ptT p=Z;rw[← hz.out];rfl) hZ⟩
 ·exact⟨_,_,_,_,rfl,enters_of Tryz.func146 (by kernel_rfl) rfl,fun p q v w h1 h2 h3 h4 h5 h6 h7 Z r hr hz hZ=>Zyi p q h1 v w h2 h3 h4 h5 h6 h7 Z r hr (by show nmT p=Z;rw[← hz.out];rfl) hZ⟩
theorem ZwB {f:Int} (h:¬ (f=1∨f=2∨f=3)):¬ kOf f<3:=by
 unfold kOf
 rw[if_neg (by omega),if_neg (by omega),if_neg (by omega)]
 omega
theorem ZwC {f:Int} (h:f=1∨f=2∨f=3):kOf f<3∧fmNo (kOf f)=f∧(mstK (kOf f)=if f=1 then 1 else 64):=by
 rcases h with rfl | rfl | rfl<;>exact⟨by decide,rfl,rfl⟩
theorem Zyh (F:List Pfd) (v:Value) (w:World) (hv:HPp w v F) (f:Int) (hFl:F.length≤1099511627776) (HOF:Hid (∀ x∈F,HOk x.hs∧(∀ y∈x.hs,y.1.ls.length≤137438953472)∧x.x.old.length≤1099511627776∧x.x.new.length≤1099511627776)) (HM:Hid (∀ x∈F,(rwZ f x.x).length≤1099511627776)) (HT:Hid (Tab10 w)) (r:Int) (T:List UInt8) (HR:Hid (rowE f (F.map (·.x))=r)) (HTT:Hid (rowT f (F.map (·.x))=T)) :
  Calls Tryz.prog 15 #[v,.int .i64 f] w fun e w'=>e=.returned (.tuple #[.string ⟨T.toArray⟩,.int .i64 r])∧Below w.heap.size w w':=by
 obtain⟨lo,lc,rfl⟩:=Holds.form hv.row
 have hR:=HR.out
 have hT:=HTT.out
 clear HTT HR
 by_cases hf:f=1∨f=2∨f=3
 ·obtain⟨hk3,hno,hms⟩:=ZwC hf
  obtain⟨k,hk⟩:∃ k,kOf f=k:=⟨_,rfl⟩
  have hfn:=Zvb f w k hk
  rw[hk] at hk3 hno hms
  have hdk:decide (k<3)=true:=decide_eq_true hk3
  obtain⟨ms,hmse⟩:∃ m,mstK k=m:=⟨_,rfl⟩
  rw[hmse] at hms
  by_cases hl:ms<(F.length:Int)
  ·have hbig:64<(F.map (·.x)).length∨(f=1∧1<(F.map (·.x)).length):=(by
    rw[List.length_map]
    by_cases h1:f=1
    ·rw[if_pos h1] at hms;right;exact⟨h1,by omega⟩
    ·rw[if_neg h1] at hms;left;omega)
   have hre:rowE f (F.map (·.x))=9:=by unfold rowE;rw[if_neg (fun q=>q hf),if_pos hbig]
   rw[hre] at hR
   subst hR
   have hte:T=[]:=by rw[← hT];unfold rowT;rw[hre,if_neg (by decide)]
   subst hte
   clear hT hre hbig hms hf
   go_enter Tryz.func15,Tryz.ntmps15
   go_wp2_with fail
   refine hfn.mono ?_
   rintro e w1 ⟨B,rfl,hB1⟩
   obtain⟨fb,fF,fH,fc,hfv,_⟩:=pr_f (B:=B) hk3
   rw[hfv,hdk,hmse]
   clear hfv hdk hmse hk hno hfn
   have hbx:Bx5 (w1.alloc (.cells #[.int .i64 (fmNo k),.func (.func fb) #[] fc,.int .i64 ms,.func (.func fF) #[] #[],.func (.func fH) #[] #[]] 70)) w1.heap.size (.int .i64 (fmNo k)) (.func (.func fb) #[] fc) (.int .i64 ms) (.func (.func fF) #[] #[]) (.func (.func fH) #[] #[]):=_root_.Go.heap_alloc_new w1 _
   have hB2:=hB1.alloc hB1.size (.cells #[.int .i64 (fmNo k),.func (.func fb) #[] fc,.int .i64 ms,.func (.func fF) #[] #[],.func (.func fH) #[] #[]] 70)
   obtain⟨x0,x1,x2,x3,x4⟩:=hbx.cells
   have hd:decide (ms<(F.length:Int))=true:=decide_eq_true hl
   clear hB1 hbx
   go_wp2
   go_ret2
   exact⟨rfl,hB2⟩
  ·have hl64:F.length≤64:=(by split at hms<;>omega)
   have hst:=ZzW (L:=F.map (·.x)) hf (by rw[List.length_map];omega) (fun h1=>by rw[if_pos h1] at hms;rw[List.length_map];omega) hR hT
   have H0:Hid (RwS f ((F.map (·.x)).drop 0) [] T r):=hst
   clear hR hT hst hms hf
   go_enter Tryz.func15,Tryz.ntmps15
   go_wp2_with fail
   refine hfn.mono ?_
   rintro e w1 ⟨B,rfl,hB1⟩
   obtain⟨fb,fF,fH,fc,hfv,hen,hcon⟩:=pr_f (B:=B) hk3
   rw[hno] at hfv hcon
   rw[hfv,hdk,hmse]
   clear hfv hdk hmse hk hno hfn
   have hbx:Bx5 (w1.alloc (.cells #[.int .i64 f,.func (.func fb) #[] fc,.int .i64 ms,.func (.func fF) #[] #[],.func (.func fH) #[] #[]] 70)) w1.heap.size (.int .i64 f) (.func (.func fb) #[] fc) (.int .i64 ms) (.func (.func fF) #[] #[]) (.func (.func fH) #[] #[]):=_root_.Go.heap_alloc_new w1 _
   have hB2:=hB1.alloc hB1.size (.cells #[.int .i64 f,.func (.func fb) #[] fc,.int .i64 ms,.func (.func fF) #[] #[],.func (.func fH) #[] #[]] 70)
   obtain⟨x0,x1,x2,x3,x4⟩:=hbx.cells
   have hd:decide (ms<(F.length:Int))=false:=decide_eq_false (by omega)
   have HCON:Hid _:=hcon
   clear hB1 hcon
   go_upto_region 6 with fail
   generalize hWf:w1.alloc (.cells #[.int .i64 f,.func (.func fb) #[] fc,.int .i64 ms,.func (.func fF) #[] #[],.func (.func fH) #[] #[]] 70)=w2 at *
   clear hWf
   have hv2:=hv.keep hB2
   have HT2:Hid (Tab10 w2):=HT.out.on hB2
   have hF0:=Zwt w2
   have hBw:Below w2.heap.size w2 (w2.alloc (.cells #[.pointer none,.slice none 0 0] 85)):=(Below.refl _ w2).alloc (Nat.le_refl _) _
   have hfbl:w1.heap.size<w2.heap.size:=(Array.getElem?_eq_some_iff.1 hbx).1
   clear x0 x1 x2 x3 x4 hv HT
   go_wp2
   go_loopw [27] (fun iv wr=>∃ (k:Nat) (P:List UInt8),k≤F.length∧iv=.int .i64 (k:Int)∧Lib.IsBuilderF 85 5 w2.heap.size w2.heap.size (Lib.byteCells P) wr∧Below w2.heap.size w2 wr∧Hid (RwS f ((F.map (·.x)).drop k) P T r)∧P.length≤k * 1099511627776) (fun iv _=>F.length-(intOf iv).toNat)
   case atStart=>exact⟨0,[],Nat.zero_le _,by go_num,hF0,hBw,H0,by simp⟩
   case round =>
   clear hF0 hBw H0
   obtain⟨i,P,hi,rfl,hBr,hbr,HI,hPl⟩:=hrel
   by_cases hlt:i<F.length
   ·have hvk:=hv2.keep hbr
    obtain⟨b1,o1,rfl,hb1,hc1⟩:=HPp.at hvk (by omega)
    obtain⟨c0,c1,c2⟩:=hc1 i hlt
    obtain⟨hhs,hhp⟩:=hvk.ins F[i] (List.getElem_mem hlt)
    obtain⟨hok,hok2,hol,hnl⟩:=HOF.out F[i] (List.getElem_mem hlt)
    have m1:=HM.out F[i] (List.getElem_mem hlt)
    have hI:=HI.out
    rw[List.drop_eq_getElem_cons (show i<(F.map (·.x)).length by rw[List.length_map];exact hlt),List.getElem_map] at hI
    obtain⟨g,hg⟩:∃ g,F[i]=g:=⟨_,rfl⟩
    rw[hg] at c0 c1 c2 hhs hhp hok hok2 hol hnl m1 hI
    obtain⟨p,pv,q⟩:=g
    dsimp only at c0 c1 c2 hhs hhp hok hok2 hol hnl m1 hI
    obtain⟨po,pc,rfl⟩:=Holds.form hhp.row
    have i1:(0:Int)≤(i:Int):=by omega
    have i2:(i:Int)<(F.length:Int):=by omega
    have HLT:Hid (i<F.length):=hlt
    obtain⟨z,hz⟩:∃ z,wrgP p=z:=⟨_,rfl⟩
    obtain⟨X,hX⟩:∃ X,rwZ f p=X:=⟨_,rfl⟩
    rw[hX] at m1
    have hA:Below wr.heap.size wr (wr.alloc (ptO p (.slice po q.length pc))):=(Below.refl _ wr).alloc (Nat.le_refl _) _
    have hPx:Px (wr.alloc (ptO p (.slice po q.length pc))) wr.heap.size p (.slice po q.length pc):=_root_.Go.heap_alloc_new wr _
    have hBa:=Zwu hBr hA
    have hba:=hbr.trans (hA.mono hbr.size)
    have hpr:=HCON.out p q (.slice po q.length pc) _ hhs (hhp.keep hA (Nat.le_refl _)) hok hok2 hol hnl (HT2.out.on hba) X z hz hX (by omega)
    have hbxa:=(hba.block _ hfbl).trans hbx
    have hWk:wr.alloc (Obj.cells #[.string ⟨p.old.toArray⟩,.string ⟨p.new.toArray⟩,.slice po q.length pc] 42)=wr.alloc (ptO p (.slice po q.length pc)):=rfl
    have hPl2:P.length≤70368744177664:=by omega
    have hPX:P.length+X.length≤(i+1) * 1099511627776:=by omega
    unfold ptV at hpr
    clear hc1 hg HI hvk hhp hok hok2 hol hnl hBr hA
    go_upto_region 10 with fail
    generalize wr.alloc (ptO p (.slice po q.length pc))=Wa at *
    clear hWk c0 c1 c2 hbr
    obtain⟨d0,d1,d2⟩:=hPx.cells
    obtain⟨x0,x1,x2,x3,x4⟩:=Bx5.cells hbxa
    by_cases hz0:z=0
    ·subst hz0
     have hZ:rowP f p=X:=(by rw[← hX];unfold rwZ;rw[hz,if_pos rfl])
     obtain⟨P1,hP1⟩:∃ Q,P++X=Q:=⟨_,rfl⟩
     have HI2:Hid (RwS f ((F.map (·.x)).drop (i+1)) P1 T r):=ZzX hI hz hZ hP1
     have hl1:P1.length≤(i+1) * 1099511627776:=by rw[← hP1,List.length_append];exact hPX
     clear hI hz hZ hX hhs
     go_wp2_with (go_at_fn fH;refine hpr.mono ?_;rintro e w5 ⟨rfl,hL5⟩)
     have hB5:=Zwu hBa hL5
     have hb5:=hba.trans (hL5.mono hba.size)
     have hz5:=hb5.size
     clear hpr hBa hba hL5 d0 d1 d2 x0 x1 x2 x3 x4 hbxa hPx
     go_wp2_with fail
     refine (Tryz.WriteString_h w2.heap.size w2.heap.size _ ⟨X.toArray⟩ w5 hB5 (by rw[Ztl];show P.length+X.length≤_;omega) hz5).mono ?_
     rintro e w6 ⟨rfl,hB6,hb6,ho6⟩
     have hB7:Lib.IsBuilderF 85 5 w2.heap.size w2.heap.size (Lib.byteCells P1) w6:=.inr (by rw[← hP1,Lib.byteCells_append];exact hB6)
     have hlt3:=HLT.out
     have hb7:=hb5.trans hb6
     clear hB6 hb6 ho6 hB5 hb5 hz5 hP1
     go_wp2
     exact⟨⟨i+1,P1,hlt3,by go_num,hB7,hb7,HI2,hl1⟩,by simp[intOf];omega⟩
    ·obtain⟨hre,hte⟩:=ZzV hI (by rw[hz];exact hz0)
     rw[hz] at hre
     subst hre
     subst hte
     have hne:(r != 0)=true:=by simpa using hz0
     have hXe:X=[]:=(by rw[← hX];unfold rwZ;rw[hz,if_neg hz0])
     clear hI hz hX hhs
     go_wp2_with (go_at_fn fH;refine hpr.mono ?_;rintro e w5 ⟨rfl,hL5⟩)
     have hfin:=hB2.trans ((hba.trans (hL5.mono hba.size)).mono hB2.size)
     clear hpr hBa hba hL5
     go_wp2
     go_ret2
     exact⟨rfl,hfin⟩
   ·have hI:=HI.out
    rw[List.drop_of_length_le (by rw[List.length_map];omega)] at hI
    obtain⟨hr0,hPT⟩:=ZzU hI
    subst hr0
    subst hPT
    have hend:¬ (i:Int)<(F.length:Int):=by omega
    have hz:=hbr.size
    clear HI hI
    go_wp2_with fail
    refine (Tryz.Builder_String_any_k w2.heap.size w2.heap.size P wr hBr hz).mono ?_
    rintro e w5 ⟨rfl,-,hb5,-⟩
    have hfin:=hB2.trans ((hbr.trans hb5).mono hB2.size)
    go_wp2
    go_ret2
    exact⟨rfl,hfin⟩
 ·have hfn:=Zvb f w _ rfl
  have hk3:=ZwB hf
  have hdk:decide (kOf f<3)=false:=decide_eq_false hk3
  have hre:rowE f (F.map (·.x))=5:=by unfold rowE;rw[if_pos hf]
  rw[hre] at hR
  subst hR
  have hte:T=[]:=by rw[← hT];unfold rowT;rw[hre,if_neg (by decide)]
  subst hte
  clear hT hre hf
  go_enter Tryz.func15,Tryz.ntmps15
  go_wp2_with fail
  refine hfn.mono ?_
  rintro e w1 ⟨B,rfl,hB1⟩
  rcases Zdr B (kOf f) with ⟨z,m,fF,c,G,H,hk,hfv⟩ | ⟨_,hfv⟩
  ·exact absurd hk hk3
  ·rw[hfv,hdk]
   have hB2:=hB1.alloc hB1.size (.cells #[.int .i64 0,.nilFunc,.int .i64 0,.nilFunc,.nilFunc] 70)
   clear hfv hdk hk3 hfn hB1
   go_wp2
   go_ret2
   exact⟨rfl,hB2⟩
end

section
open Go.RowKit Go.Proofs.YtcniomgjikienaaGreatDoor.Tx
attribute [local go_sem] Zhc
theorem Zyf (F:List Pfd) (v:Value) (w:World) (hv:HPp w v F) (hl:F.length≤1099511627776) (HOF:Hid (∀ x∈F,x.hs.length≤1099511627776∧∀ y∈x.hs,y.1.ls.length≤549755813888)) (L:List Pth) (HL:Hid ((F.map fun x=>invP x.x)=L)) :
  Calls Tryz.prog 17 #[v] w fun e w'=>∃ v' G,e=.returned v'∧Pw w v' G w'∧G.map (·.x)=L:=by
 obtain⟨lo,lc,rfl⟩:=Holds.form hv.row
 have hP00:Pw w (.slice none 0 0) [] w:=⟨Below.refl _ _,Zen _ _ _ _,fun _ h=>by cases h⟩
 have HL0:Hid (([]:List Pfd).map (·.x)++((F.drop 0).map fun x=>invP x.x)=L):=HL
 clear HL
 go_enter Tryz.func17,Tryz.ntmps17
 go_wp2
 go_loopw [3,11] (fun ov iv wr=>∃ (k:Nat) (G:List Pfd) (oo:Option Addr) (oc:Nat),k≤F.length∧ov=.slice oo G.length oc∧iv=.int .i64 (k:Int)∧Pw w ov G wr∧Hid (G.length=k)∧Hid (G.map (·.x)++((F.drop k).map fun x=>invP x.x)=L)) (fun _ iv _=>F.length-(intOf iv).toNat)
 case atStart=>exact⟨0,[],none,0,Nat.zero_le _,rfl,by go_num,hP00,(rfl:([]:List Pfd).length=0),HL0⟩
 case round =>
 clear hP00 HL0
 obtain⟨k,G,oo,oc,hk,rfl,rfl,hPw,hGk,HI⟩:=hrel
 by_cases hlt:k<F.length
 ·have hvk:=hv.keep hPw.low
  obtain⟨b1,o1,rfl,hb1,hc1⟩:=HPp.at hvk (by omega)
  obtain⟨x0,x1,x2⟩:=hc1 k hlt
  obtain⟨hhs,hhp⟩:=hvk.ins F[k] (List.getElem_mem hlt)
  obtain⟨hol,hoy⟩:=HOF.out F[k] (List.getElem_mem hlt)
  have hI:=HI.out
  rw[List.drop_eq_getElem_cons hlt,List.map_cons] at hI
  obtain⟨g,hg⟩:∃ g,F[k]=g:=⟨_,rfl⟩
  rw[hg] at x0 x1 x2 hhs hhp hol hoy hI
  obtain⟨p,pv,q⟩:=g
  dsimp only at x0 x1 x2 hhs hhp hol hoy hI
  have HOY:Hid (∀ y∈q,y.1.ls.length≤549755813888):=hoy
  obtain⟨po,pc,rfl⟩:=Holds.form hhp.row
  have i1:(0:Int)≤(k:Int):=by omega
  have i2:(k:Int)<(F.length:Int):=by omega
  have HI2:Hid (∀ hv:Value,∀ P:List (Hk × Value),P.map (·.1)=q.map (fun y=>invH y.1)→(G++[(⟨⟨p.new,p.old,P.map (·.1)⟩,hv,P⟩:Pfd)]).map (·.x)++((F.drop (k+1)).map fun x=>invP x.x)=L):=(fun hv P hP=>by
   rw[← hI,List.map_append,hP]
   have e:q.map (fun y=>invH y.1)=p.hs.map invH:=by rw[← hhs,List.map_map];rfl
   rw[e]
   simp[invP])
  have HQ0:Hid (([]:List (Hk × Value)).map (·.1)++((q.drop 0).map fun y=>invH y.1)=q.map fun y=>invH y.1):=(by show _=_;simp)
  have HG:Hid (G.length=k):=hGk
  have HK1:Hid (k+1≤F.length∧F.length≤1099511627776):=⟨hlt,hl⟩
  clear hc1 hg hI hvk hoy hhs HI hv hGk
  have hA1:Below wr.heap.size wr (wr.alloc (ptO p (.slice po q.length pc))):=(Below.refl _ wr).alloc (Nat.le_refl _) _
  have hPx:Px (wr.alloc (ptO p (.slice po q.length pc))) wr.heap.size p (.slice po q.length pc):=_root_.Go.heap_alloc_new wr _
  have hW1:wr.alloc (Obj.cells #[.string ⟨p.old.toArray⟩,.string ⟨p.new.toArray⟩,.slice po q.length pc] 42)=wr.alloc (ptO p (.slice po q.length pc)):=rfl
  go_upto_region 5 with fail
  have hPwA:=ZiO hPw hA1
  have hhpA:=hhp.keep hA1 (Nat.le_refl _)
  clear hPw hhp x0 x1 x2
  generalize wr.alloc (ptO p (.slice po q.length pc))=W4 at *
  clear hW1 hA1
  obtain⟨d0,d1,d2⟩:=hPx.cells
  have hPv:Pv W4 W4.heap.size p.new p.old (.slice none 0 0) [] (W4.alloc (Obj.cells #[Value.string ⟨p.new.toArray⟩,Value.string ⟨p.old.toArray⟩,Value.slice none 0 0] 42)):=⟨(Below.refl _ W4).alloc (Nat.le_refl _) _,heap_alloc_new W4 _,Zen _ _ _ _,fun x hx=>(by cases hx),Nat.le_refl _⟩
  have hPx5:=hPx.low ((Below.refl _ W4).alloc (Nat.le_refl _) (Obj.cells #[Value.string ⟨p.new.toArray⟩,Value.string ⟨p.old.toArray⟩,Value.slice none 0 0] 42))
  go_upto_region 6 with fail
  generalize (W4.alloc (Obj.cells #[Value.string ⟨p.new.toArray⟩,Value.string ⟨p.old.toArray⟩,Value.slice none 0 0] 42))=W5 at *
  clear d0 d1 d2
  obtain⟨d0,d1,d2⟩:=hPx5.cells
  obtain⟨S,hS⟩:∃ S,W4.heap.size=S:=⟨_,rfl⟩
  have hPv2:Pv W4 S p.new p.old (.slice none 0 0) [] W5:=(by rw[← hS];exact hPv)
  simp only[hS]
  obtain⟨n1,hn1⟩:∃ n,p.new=n:=⟨_,rfl⟩
  obtain⟨n2,hn2⟩:∃ n,p.old=n:=⟨_,rfl⟩
  rw[hn1,hn2] at hPv2 HI2
  clear hPv hS
  go_wp2
  clear d0 d1 d2 hn1 hn2 hPx hPx5
  generalize hWO:W4=wo at *
  clear hWO
  go_loopw [23] (fun iv wr=>∃ (j:Nat) (P:List (Hk × Value)) (ho:Option Addr) (hc:Nat),j≤q.length∧iv=.int .i64 (j:Int)∧Pv wo S n1 n2 (.slice ho P.length hc) P wr∧Hid (P.length=j)∧Hid (P.map (·.1)++((q.drop j).map fun y=>invH y.1)=q.map fun y=>invH y.1)) (fun iv _=>q.length-(intOf iv).toNat)
  case atStart=>exact⟨0,[],none,0,Nat.zero_le _,by go_num,hPv2,(rfl:([]:List (Hk × Value)).length=0),HQ0⟩
  case round =>
  clear hPv2 HQ0
  obtain⟨j,P,ho,hc,hj,rfl,hP,hPj,HQ⟩:=hrel
  by_cases hjl:j<q.length
  ·obtain⟨b2,o2,rfl,hb2,hc2⟩:=hhpA.at (by omega)
   have hin:=hhpA.ins q[j] (List.getElem_mem hjl)
   have hl1:=HOY.out q[j] (List.getElem_mem hjl)
   have hat:=hc2 j hjl
   have hQ:=HQ.out
   rw[List.drop_eq_getElem_cons hjl,List.map_cons] at hQ
   obtain⟨hk1,hv1,hx⟩:∃ h y,q[j]=(h,y):=⟨_,_,rfl⟩
   rw[hx] at hin hl1 hat hQ
   dsimp only at hin hl1 hat hQ
   obtain⟨yo,yc,rfl⟩:=HMk.form hin
   have hat:HkAt wo b2 (o2+j * 5) hk1 (.slice yo hk1.ls.length yc):=hat
   have HQ2:Hid (P.map (·.1)++[invH hk1]++((q.drop (j+1)).map fun y=>invH y.1)=q.map fun y=>invH y.1):=(by
    show _=_
    rw[← hQ]
    simp)
   have hPl:P.length+1≤1099511627776:=(by have:=hPj.out;omega)
   have j1:(0:Int)≤(j:Int):=by omega
   have j2:(j:Int)<(q.length:Int):=by omega
   obtain⟨Rr,hRr⟩:∃ Rr:Value→World→Prop,(fun v u=>∃ (vo:Option Addr) (vc:Nat),v=hkV (invH hk1) (.slice vo (invH hk1).ls.length vc)∧Pv wo S n1 n2 (.slice ho P.length hc) P u∧u.ownsRow wo.heap.size 47 2 (.slice vo (invH hk1).ls.length vc) (invH hk1).ls.length (mkcells (invH hk1).ls))=Rr:=⟨_,rfl⟩
   have HRr:Hid (_=Rr):=hRr
   clear hRr hx hQ HQ hc2
   have hA8:Below wr.heap.size wr (wr.alloc (hkO hk1 (.slice yo hk1.ls.length yc))):=(Below.refl _ wr).alloc (Nat.le_refl _) _
   have hX8:=Hx.new wr hk1 (.slice yo hk1.ls.length yc)
   have hP8:=hP.keep hA8
   have hne8:(Value.slice ho P.length hc).ownBlock≠some wr.heap.size:=fun e=>by have:=(hP.own.lt _ e).2;omega
   have hneS:S≠wr.heap.size:=by have:=(Array.getElem?_eq_some_iff.1 hP.box).1;omega
   have hat8:=hat.low hP.low
   obtain⟨g0,g1,g2,g3,g4⟩:=hat8
   have hWk:wr.alloc (Obj.cells #[.int .i64 hk1.A,.int .i64 hk1.AN,.int .i64 hk1.B,.int .i64 hk1.BN,.slice yo hk1.ls.length yc] 45)=wr.alloc (hkO hk1 (.slice yo hk1.ls.length yc)):=rfl
   go_upto_region 9 with fail
   clear g0 g1 g2 g3 g4 hat
   generalize wr.alloc (hkO hk1 (.slice yo hk1.ls.length yc))=W8 at *
   obtain⟨hb,hhb⟩:∃ hb,wr.heap.size=hb:=⟨_,rfl⟩
   simp only[hhb] at hX8 hne8 hneS ⊢
   clear hWk hA8 hP hhb
   refine wp_region_held_drew (S:=fun u=>Below wo.heap.size wo u∧Hx u hb hk1 (.slice yo hk1.ls.length yc)) (by kernel_rfl) ⟨(hP8.keep (Below.drew (Below.refl _ _))).low,hX8⟩ (fun HS=>?_)
   have hZd:=hP8.keep (Below.drew (Below.refl _ _))
   generalize W8.drew=wd at hZd HS ⊢
   have c2d:=hZd.cells.2.2
   have hcall:Calls Tryz.prog 44 (#[hkV hk1 (.slice yo hk1.ls.length yc)]++#[]) wd fun e w'=>(∃ v,e=.returned v∧(Below wo.heap.size wo w'∧Hx w' hb hk1 (.slice yo hk1.ls.length yc))∧Rr v w')∨(∃ c,e=.panicked c∧False):=(by
    refine (ZvD hk1 _ wd (HMk.keep hin HS.1 (Nat.le_refl _)) hl1 (invH hk1).ls rfl).mono ?_
    rintro e w' ⟨v',rfl,hown,hgr⟩
    rw[← HRr.out]
    obtain⟨vo,vc,rfl⟩:=(Zeo hown).form
    exact .inl ⟨_,rfl,⟨(hZd.keep hgr).low,HS.2.low hgr⟩,vo,vc,rfl,hZd.keep hgr,ZhC hown hZd.low.size⟩)
   refine Y_t 0 27 _ (.pointer (some ⟨S,2,none⟩)) rfl (Or.inl ⟨by kernel_rfl,fun u hu=>by kernel_rfl⟩) HS ?_
   simp only[Act.put,Y_a,Y_b,Y_c]
   refine Y_t 2 29 _ (hkV hk1 (.slice yo hk1.ls.length yc)) rfl (Or.inl ⟨by kernel_rfl,fun u hu=>ZwM hu.2 (.tmp 8) (by kernel_rfl) (by kernel_rfl)⟩) HS ?_
   simp only[Act.put,Y_a,Y_b,Y_c]
   refine ZdM 1 28 _ 3 30 _ rfl (by kernel_rfl) rfl (by kernel_rfl) (by kernel_rfl) (by kernel_rfl) (by kernel_rfl) (.slice ho P.length hc) wd (ZfJ c2d (.tmp 27) (by kernel_rfl) (by kernel_rfl)) HS 44 (.func 44) #[.tmp 29] #[45] (by kernel_rfl) #[] (by kernel_rfl) #[hkV hk1 (.slice yo hk1.ls.length yc)] (by kernel_rfl) (enters_of Tryz.func44 (by kernel_rfl) rfl) Rr (fun _ _=>False) (fun _ _ h=>h.elim) hcall ?_ ?_
   ·simp only[Act.put,Y_a,Y_b,Y_c]
    refine ZdF 3 30 _ rfl (by kernel_rfl) (by kernel_rfl) (by kernel_rfl) 44 (.func 44) #[.tmp 29] #[45] (by kernel_rfl) #[] (by kernel_rfl) #[hkV hk1 (.slice yo hk1.ls.length yc)] (by kernel_rfl) (enters_of Tryz.func44 (by kernel_rfl) rfl) Rr (fun _ _=>False) (fun _ _ h=>h.elim) hcall ?_
    intro v0 u1 hS1 hq
    rw[← HRr.out] at hq
    obtain⟨vo,vc,rfl,hR1,hown1⟩:=hq
    have c1u:=hR1.cells.2.2
    have hRA:=hR1.keep ((Below.refl _ u1).alloc (Nat.le_refl _) (hkO (invH hk1) (.slice vo (invH hk1).ls.length vc)))
    have hXA:=hS1.2.low ((Below.refl _ u1).alloc (Nat.le_refl _) (hkO (invH hk1) (.slice vo (invH hk1).ls.length vc)))
    have c2u:=hRA.cells.2.2
    have hSA:Below wo.heap.size wo _∧Hx _ hb hk1 (.slice yo hk1.ls.length yc):=⟨hRA.low,hXA⟩
    simp only[Act.put,Y_a,Y_b,Y_c]
    refine Y_v 4 31 _ rfl (.slice (some ⟨u1.heap.size,0,none⟩) 1 1) (u1.alloc (hkO (invH hk1) (.slice vo (invH hk1).ls.length vc))) (by kernel_rfl) hSA ?_
    simp only[Act.put,Y_a,Y_b,Y_c]
    have hownA:=hown1.alloc (hkO (invH hk1) (.slice vo (invH hk1).ls.length vc))
    obtain⟨v3,u3,hr3,hown3,hg3,_⟩:=ZjJ (u1.alloc (hkO (invH hk1) (.slice vo (invH hk1).ls.length vc))) 40 45 40 (.agg #[.int .i64 0,.int .i64 0,.int .i64 0,.int .i64 0,.slice none 0 0]) 5 56 Tryz.underlying40 infoHk rfl (by decide) (by decide) wo.heap.size _ _ _ hRA.own _ 1 (hkC (invH hk1) (.slice vo (invH hk1).ls.length vc)) (Zhz u1 (invH hk1) (.slice vo (invH hk1).ls.length vc)) rfl (fun u hu=>by simp[hkC] at hu;rcases hu with rfl | rfl | rfl | rfl | rfl<;>rfl) (by omega) hRA.low.size
    have hR3:=hRA.more hownA hg3 hown3
    have hX3:=hXA.keep hg3 (fun e=>hne8 e.symm)
    obtain⟨o3,k3,rfl⟩:=(Zeo hown3).form
    refine Y_v 5 32 _ rfl (.slice o3 (P.length+1) k3) u3 (ZcT (.tmp 28) (.tmp 31) (by kernel_rfl) (by kernel_rfl) (by kernel_rfl) hr3) ⟨hR3.2.2.2,hX3⟩ ?_
    simp only[Act.put,Y_a,Y_b,Y_c]
    have HS:Below wo.heap.size wo u3∧Hx u3 hb hk1 (.slice yo hk1.ls.length yc):=⟨hR3.2.2.2,hX3⟩
    refine Y_t 6 33 _ (.pointer (some ⟨S,2,none⟩)) rfl (Or.inl ⟨by kernel_rfl,fun u hu=>by kernel_rfl⟩) HS ?_
    simp only[Act.put,Y_a,Y_b,Y_c]
    refine Y_s 7 _ rfl (u3.setCell ⟨S,2,none⟩ (.slice o3 (P.length+1) k3)) (ZcZ hR3.2.1 hR3.2.2.1 (.tmp 33) (.tmp 32) (by kernel_rfl) (by kernel_rfl) (by kernel_rfl)) ⟨hR3.1.low,hX3.keep (ZdS u3 S 2 _) (fun e=>hneS (Option.some.inj e).symm)⟩ ?_
    refine wpAnyH_done (by kernel_rfl) ?_ _
    have hR4:=hR3.1
    go_wp2
    exact⟨⟨j+1,P++[(invH hk1,.slice vo (invH hk1).ls.length vc)],o3,k3,by omega,by go_num,by rw[List.length_append];exact hR4,by show _=_;rw[List.length_append,hPj.out];rfl,by have h:=HQ2.out;show _=_;rw[← h];simp⟩,by simp[intOf];omega⟩
   ·intro v0 u1 hS1 hq
    rw[← HRr.out] at hq
    obtain⟨vo,vc,rfl,hR1,hown1⟩:=hq
    have c1u:=hR1.cells.2.2
    have hRA:=hR1.keep ((Below.refl _ u1).alloc (Nat.le_refl _) (hkO (invH hk1) (.slice vo (invH hk1).ls.length vc)))
    have hXA:=hS1.2.low ((Below.refl _ u1).alloc (Nat.le_refl _) (hkO (invH hk1) (.slice vo (invH hk1).ls.length vc)))
    have c2u:=hRA.cells.2.2
    have hSA:Below wo.heap.size wo _∧Hx _ hb hk1 (.slice yo hk1.ls.length yc):=⟨hRA.low,hXA⟩
    simp only[Act.put,Y_a,Y_b,Y_c]
    refine ZdJ 1 28 _ 4 31 _ rfl (by kernel_rfl) rfl (by kernel_rfl) (by kernel_rfl) (by kernel_rfl) (by kernel_rfl) (.slice ho P.length hc) u1 (ZfJ c1u (.tmp 27) (by kernel_rfl) (by kernel_rfl)) hS1 (.slice (some ⟨u1.heap.size,0,none⟩) 1 1) (u1.alloc (hkO (invH hk1) (.slice vo (invH hk1).ls.length vc))) (by kernel_rfl) hSA ?_ ?_
    ·simp only[Act.put,Y_a,Y_b,Y_c]
     refine Y_v 4 31 _ rfl (.slice (some ⟨u1.heap.size,0,none⟩) 1 1) (u1.alloc (hkO (invH hk1) (.slice vo (invH hk1).ls.length vc))) (by kernel_rfl) hSA ?_
     simp only[Act.put,Y_a,Y_b,Y_c]
     have hownA:=hown1.alloc (hkO (invH hk1) (.slice vo (invH hk1).ls.length vc))
     obtain⟨v3,u3,hr3,hown3,hg3,_⟩:=ZjJ (u1.alloc (hkO (invH hk1) (.slice vo (invH hk1).ls.length vc))) 40 45 40 (.agg #[.int .i64 0,.int .i64 0,.int .i64 0,.int .i64 0,.slice none 0 0]) 5 56 Tryz.underlying40 infoHk rfl (by decide) (by decide) wo.heap.size _ _ _ hRA.own _ 1 (hkC (invH hk1) (.slice vo (invH hk1).ls.length vc)) (Zhz u1 (invH hk1) (.slice vo (invH hk1).ls.length vc)) rfl (fun u hu=>by simp[hkC] at hu;rcases hu with rfl | rfl | rfl | rfl | rfl<;>rfl) (by omega) hRA.low.size
     have hR3:=hRA.more hownA hg3 hown3
     have hX3:=hXA.keep hg3 (fun e=>hne8 e.symm)
     obtain⟨o3,k3,rfl⟩:=(Zeo hown3).form
     refine Y_v 5 32 _ rfl (.slice o3 (P.length+1) k3) u3 (ZcT (.tmp 28) (.tmp 31) (by kernel_rfl) (by kernel_rfl) (by kernel_rfl) hr3) ⟨hR3.2.2.2,hX3⟩ ?_
     simp only[Act.put,Y_a,Y_b,Y_c]
     have HS:Below wo.heap.size wo u3∧Hx u3 hb hk1 (.slice yo hk1.ls.length yc):=⟨hR3.2.2.2,hX3⟩
     refine Y_t 6 33 _ (.pointer (some ⟨S,2,none⟩)) rfl (Or.inl ⟨by kernel_rfl,fun u hu=>by kernel_rfl⟩) HS ?_
     simp only[Act.put,Y_a,Y_b,Y_c]
     refine Y_s 7 _ rfl (u3.setCell ⟨S,2,none⟩ (.slice o3 (P.length+1) k3)) (ZcZ hR3.2.1 hR3.2.2.1 (.tmp 33) (.tmp 32) (by kernel_rfl) (by kernel_rfl) (by kernel_rfl)) ⟨hR3.1.low,hX3.keep (ZdS u3 S 2 _) (fun e=>hneS (Option.some.inj e).symm)⟩ ?_
     refine wpAnyH_done (by kernel_rfl) ?_ _
     have hR4:=hR3.1
     go_wp2
     exact⟨⟨j+1,P++[(invH hk1,.slice vo (invH hk1).ls.length vc)],o3,k3,by omega,by go_num,by rw[List.length_append];exact hR4,by show _=_;rw[List.length_append,hPj.out];rfl,by have h:=HQ2.out;show _=_;rw[← h];simp⟩,by simp[intOf];omega⟩
    ·simp only[Act.put,Y_a,Y_b,Y_c]
     refine Y_v 1 28 _ rfl (.slice ho P.length hc) (u1.alloc (hkO (invH hk1) (.slice vo (invH hk1).ls.length vc))) (ZfJ c2u (.tmp 27) (by kernel_rfl) (by kernel_rfl)) hSA ?_
     simp only[Act.put,Y_a,Y_b,Y_c]
     have hownA:=hown1.alloc (hkO (invH hk1) (.slice vo (invH hk1).ls.length vc))
     obtain⟨v3,u3,hr3,hown3,hg3,_⟩:=ZjJ (u1.alloc (hkO (invH hk1) (.slice vo (invH hk1).ls.length vc))) 40 45 40 (.agg #[.int .i64 0,.int .i64 0,.int .i64 0,.int .i64 0,.slice none 0 0]) 5 56 Tryz.underlying40 infoHk rfl (by decide) (by decide) wo.heap.size _ _ _ hRA.own _ 1 (hkC (invH hk1) (.slice vo (invH hk1).ls.length vc)) (Zhz u1 (invH hk1) (.slice vo (invH hk1).ls.length vc)) rfl (fun u hu=>by simp[hkC] at hu;rcases hu with rfl | rfl | rfl | rfl | rfl<;>rfl) (by omega) hRA.low.size
     have hR3:=hRA.more hownA hg3 hown3
     have hX3:=hXA.keep hg3 (fun e=>hne8 e.symm)
     obtain⟨o3,k3,rfl⟩:=(Zeo hown3).form
     refine Y_v 5 32 _ rfl (.slice o3 (P.length+1) k3) u3 (ZcT (.tmp 28) (.tmp 31) (by kernel_rfl) (by kernel_rfl) (by kernel_rfl) hr3) ⟨hR3.2.2.2,hX3⟩ ?_
     simp only[Act.put,Y_a,Y_b,Y_c]
     have HS:Below wo.heap.size wo u3∧Hx u3 hb hk1 (.slice yo hk1.ls.length yc):=⟨hR3.2.2.2,hX3⟩
     refine Y_t 6 33 _ (.pointer (some ⟨S,2,none⟩)) rfl (Or.inl ⟨by kernel_rfl,fun u hu=>by kernel_rfl⟩) HS ?_
     simp only[Act.put,Y_a,Y_b,Y_c]
     refine Y_s 7 _ rfl (u3.setCell ⟨S,2,none⟩ (.slice o3 (P.length+1) k3)) (ZcZ hR3.2.1 hR3.2.2.1 (.tmp 33) (.tmp 32) (by kernel_rfl) (by kernel_rfl) (by kernel_rfl)) ⟨hR3.1.low,hX3.keep (ZdS u3 S 2 _) (fun e=>hneS (Option.some.inj e).symm)⟩ ?_
     refine wpAnyH_done (by kernel_rfl) ?_ _
     have hR4:=hR3.1
     go_wp2
     exact⟨⟨j+1,P++[(invH hk1,.slice vo (invH hk1).ls.length vc)],o3,k3,by omega,by go_num,by rw[List.length_append];exact hR4,by show _=_;rw[List.length_append,hPj.out];rfl,by have h:=HQ2.out;show _=_;rw[← h];simp⟩,by simp[intOf];omega⟩
  ·have jend:¬ (j:Int)<(q.length:Int):=by omega
   have hQ:=HQ.out
   rw[List.drop_of_length_le (by omega),List.map_nil,List.append_nil] at hQ
   have HL2:Hid ((G++[(⟨⟨n1,n2,P.map (·.1)⟩,.slice ho P.length hc,P⟩:Pfd)]).map (·.x)++((F.drop (k+1)).map fun x=>invP x.x)=L):=HI2.out (.slice ho P.length hc) P hQ
   clear HQ hQ HI2
   go_upto_region 11 with fail
   obtain⟨hRq,hPq⟩:=ZyH hPwA hP
   obtain⟨t0,t1,t2⟩:=hP.cells
   have hRA:=ZiO hRq ((Below.refl _ wr).alloc (Nat.le_refl _) (pxO ⟨⟨n1,n2,P.map (·.1)⟩,.slice ho P.length hc,P⟩))
   have hPA:=hPq.keep ((Below.refl _ wr).alloc (Nat.le_refl _) (pxO ⟨⟨n1,n2,P.map (·.1)⟩,.slice ho P.length hc,P⟩))
   have hownA:=hRA.own
   have hbase:=hRA.low.size
   have hrow:Holds _ _ 1 (pxC ⟨⟨n1,n2,P.map (·.1)⟩,.slice ho P.length hc,P⟩):=Zhx wr ⟨⟨n1,n2,P.map (·.1)⟩,.slice ho P.length hc,P⟩
   have hGl:G.length+1≤2199023255552:=(by have:=HG.out;have:=HK1.out;omega)
   have HK2:=HK1.out.1
   clear hRq hPq hP
   unfold pxO at hRA hPA hownA hbase hrow
   dsimp only at hRA hPA hownA hbase hrow
   go_wp2_with (at_builtin;refine Zmi _ (by kernel_rfl) (.tmp 35) (.tmp 37) 22 42 (.agg #[.string ⟨#[]⟩,.string ⟨#[]⟩,.slice none 0 0]) 3 56 rfl Tryz.underlying22 infoPx rfl (by decide) (by decide) w.heap.size _ _ _ rfl hownA _ 1 (pxC ⟨⟨n1,n2,P.map (·.1)⟩,.slice ho P.length hc,P⟩) rfl hrow rfl (fun u hu=>by simp[pxC] at hu;rcases hu with rfl | rfl | rfl<;>rfl) hGl hbase ?_)
   intro v9 u9 ho9 hg9 _
   have hR9:=ZyI hRA hPA hg9 ho9
   obtain⟨o9,c9,rfl⟩:=(Zeo ho9).form
   clear hRA hPA hownA hbase hrow ho9 hg9 t0 t1 t2
   go_wp2
   exact⟨⟨k+1,G++[⟨⟨n1,n2,P.map (·.1)⟩,.slice ho P.length hc,P⟩],o9,c9,HK2,by rw[List.length_append];rfl,by go_num,hR9,by show _=_;rw[List.length_append,HG.out];rfl,HL2⟩,by simp[intOf];omega⟩
 ·have hend:¬ (k:Int)<(F.length:Int):=by omega
  have hI:=HI.out
  rw[List.drop_of_length_le (by omega),List.map_nil,List.append_nil] at hI
  clear HI
  go_wp2
  go_ret
  exact⟨_,rfl,G,hPw,hI⟩
end

section
open Go.RowKit Go.Proofs.YtcniomgjikienaaGreatDoor.Tx
attribute [local go_sem] Zhc
theorem ZyG {wo u5 u:World} {S:Nat} {n1 n2:List UInt8} {z v':Value} {P:List (Hk × Value)} (hb:u.heap[S]?=some (.cells #[.string ⟨n1.toArray⟩,.string ⟨n2.toArray⟩,z] 42)) (hlow:Below wo.heap.size wo u5) (h:Hs u5 v' P u) (ge:wo.heap.size≤S):Pv wo S n1 n2 v' P (u.setCell ⟨S,2,none⟩ v'):=by
 have hg2:=ZdS u S 2 v'
 refine⟨(hlow.trans (h.low.mono hlow.size)).setCell ge _,heap_setCell_same u S 2 _ _ v' hb,?_,fun x hx=>?_,ge⟩
 ·have:=ZhC h.own hlow.size
  exact this.kept hg2 (.inr (ZhE this hb (by decide)))
 ·have:=ZhC (h.ins x hx) hlow.size
  exact this.kept hg2 (.inr (ZhE this hb (by decide)))
theorem ZyN (F:List Pfd) (v:Value) (w:World) (hv:HPp w v F) (hl:F.length≤1099511627776) (HOF:Hid (∀ x∈F,HOk x.hs)) (L:List Pth) (HL:Hid ((F.map (·.x))=L)) :
  Calls Tryz.prog 37 #[v] w fun e w'=>∃ v' G,e=.returned v'∧Pw w v' G w'∧G.map (·.x)=L:=by
 obtain⟨lo,lc,rfl⟩:=Holds.form hv.row
 have hP00:Pw w (.slice none 0 0) [] w:=⟨Below.refl _ _,Zen _ _ _ _,fun _ h=>by cases h⟩
 have HL0:Hid (([]:List Pfd).map (·.x)++((F.drop 0).map (·.x))=L):=HL
 clear HL
 go_enter Tryz.func37,Tryz.ntmps37
 go_wp2
 go_loopw [3,4] (fun ov iv wr=>∃ (k:Nat) (G:List Pfd) (oo:Option Addr) (oc:Nat),k≤F.length∧ov=.slice oo G.length oc∧iv=.int .i64 (k:Int)∧Pw w ov G wr∧Hid (G.length=k)∧Hid (G.map (·.x)++((F.drop k).map (·.x))=L)) (fun _ iv _=>F.length-(intOf iv).toNat)
 case atStart=>exact⟨0,[],none,0,Nat.zero_le _,rfl,by go_num,hP00,(rfl:([]:List Pfd).length=0),HL0⟩
 case round =>
 clear hP00 HL0
 obtain⟨k,G,oo,oc,hk,rfl,rfl,hPw,hGk,HI⟩:=hrel
 by_cases hlt:k<F.length
 ·have hvk:=hv.keep hPw.low
  obtain⟨b1,o1,rfl,hb1,hc1⟩:=HPp.at hvk (by omega)
  obtain⟨x0,x1,x2⟩:=hc1 k hlt
  obtain⟨hhs,hhp⟩:=hvk.ins F[k] (List.getElem_mem hlt)
  have hok:=HOF.out F[k] (List.getElem_mem hlt)
  have hI:=HI.out
  rw[List.drop_eq_getElem_cons hlt,List.map_cons] at hI
  obtain⟨g,hg⟩:∃ g,F[k]=g:=⟨_,rfl⟩
  rw[hg] at x0 x1 x2 hhs hhp hok hI
  obtain⟨p,pv,q⟩:=g
  dsimp only at x0 x1 x2 hhs hhp hok hI
  obtain⟨po,pc,rfl⟩:=Holds.form hhp.row
  have i1:(0:Int)≤(k:Int):=by omega
  have i2:(k:Int)<(F.length:Int):=by omega
  have HI2:Hid (∀ hv:Value,∀ P:List (Hk × Value),P.map (·.1)=q.map (·.1)→(G++[(⟨⟨p.old,p.new,P.map (·.1)⟩,hv,P⟩:Pfd)]).map (·.x)++((F.drop (k+1)).map (·.x))=L):=(fun hv P hP=>by
   rw[← hI,List.map_append,hP,hhs]
   simp)
  have hbA:=heap_alloc_new wr (.cells #[.string ⟨p.old.toArray⟩,.string ⟨p.new.toArray⟩,.slice po q.length pc] 42)
  have hlA:Below wr.heap.size wr (wr.alloc (.cells #[.string ⟨p.old.toArray⟩,.string ⟨p.new.toArray⟩,.slice po q.length pc] 42)):=(Below.refl _ wr).alloc (Nat.le_refl _) _
  have hszA:wr.heap.size<(wr.alloc (.cells #[.string ⟨p.old.toArray⟩,.string ⟨p.new.toArray⟩,.slice po q.length pc] 42)).heap.size:=(by simp)
  have hcp:=ZyO q (.slice po q.length pc) _ (hhp.keep hlA (Nat.le_refl _)) hok
  have HG:=hGk
  have HK1:Hid (k+1≤F.length∧F.length≤1099511627776):=⟨hlt,hl⟩
  clear hc1 hg hI hvk hok hhs HI hv hGk hhp
  go_upto_region 6 with fail
  clear x0 x1 x2
  generalize (wr.alloc (.cells #[.string ⟨p.old.toArray⟩,.string ⟨p.new.toArray⟩,.slice po q.length pc] 42))=w5 at hbA hlA hszA hcp ⊢
  obtain⟨S,hS⟩:∃ S,wr.heap.size=S:=⟨_,rfl⟩
  rw[hS] at hbA hszA
  simp only[hS]
  have y2:w5.cell? ⟨S,2,none⟩=some (.slice po q.length pc):=(by rw[Lib.cell_of_heap hbA];rfl)
  obtain⟨n1,hn1⟩:∃ n,p.old=n:=⟨_,rfl⟩
  obtain⟨n2,hn2⟩:∃ n,p.new=n:=⟨_,rfl⟩
  rw[hn1,hn2] at hbA HI2
  clear hn1 hn2
  go_wp2_with fail
  refine hcp.mono ?_
  rintro e w6 ⟨v',P,rfl,hHs,hPm⟩
  have hb6:=(hHs.low.block S hszA).trans hbA
  have hP:=ZyG hb6 hlA hHs (Nat.le_of_eq hS)
  obtain⟨ho,hc,rfl⟩:=(Zeo hHs.own).form
  have z2:w6.cell? ⟨S,2,none⟩=some (.slice po q.length pc):=(by rw[Lib.cell_of_heap hb6];rfl)
  have zf:=Lib.frozen_of_heap hb6 2
  have HL2:Hid ((G++[(⟨⟨n1,n2,P.map (·.1)⟩,.slice ho P.length hc,P⟩:Pfd)]).map (·.x)++((F.drop (k+1)).map (·.x))=L):=HI2.out (.slice ho P.length hc) P hPm
  clear hcp y2 hb6 hHs hbA hlA hszA HI2 hPm
  go_upto_region 7 with fail
  generalize w6.setCell ⟨S,2,none⟩ (.slice ho P.length hc)=w7 at hP ⊢
  clear z2 zf
  obtain⟨hRq,hPq⟩:=ZyH hPw hP
  obtain⟨t0,t1,t2⟩:=hP.cells
  have hRA:=ZiO hRq ((Below.refl _ w7).alloc (Nat.le_refl _) (pxO ⟨⟨n1,n2,P.map (·.1)⟩,.slice ho P.length hc,P⟩))
  have hPA:=hPq.keep ((Below.refl _ w7).alloc (Nat.le_refl _) (pxO ⟨⟨n1,n2,P.map (·.1)⟩,.slice ho P.length hc,P⟩))
  have hownA:=hRA.own
  have hbase:=hRA.low.size
  have hrow:Holds _ _ 1 (pxC ⟨⟨n1,n2,P.map (·.1)⟩,.slice ho P.length hc,P⟩):=Zhx w7 ⟨⟨n1,n2,P.map (·.1)⟩,.slice ho P.length hc,P⟩
  have hGl:G.length+1≤2199023255552:=(by have:=HG.out;have:=HK1.out;omega)
  have HK2:=HK1.out.1
  clear hRq hPq hP
  unfold pxO at hRA hPA hownA hbase hrow
  dsimp only at hRA hPA hownA hbase hrow
  go_wp2_with (at_builtin;refine Zmi _ (by kernel_rfl) (.tmp 20) (.tmp 22) 22 42 (.agg #[.string ⟨#[]⟩,.string ⟨#[]⟩,.slice none 0 0]) 3 56 rfl Tryz.underlying22 infoPx rfl (by decide) (by decide) w.heap.size _ _ _ rfl hownA _ 1 (pxC ⟨⟨n1,n2,P.map (·.1)⟩,.slice ho P.length hc,P⟩) rfl hrow rfl (fun u hu=>by simp[pxC] at hu;rcases hu with rfl | rfl | rfl<;>rfl) hGl hbase ?_)
  intro v9 u9 ho9 hg9 _
  have hR9:=ZyI hRA hPA hg9 ho9
  obtain⟨o9,c9,rfl⟩:=(Zeo ho9).form
  clear hRA hPA hownA hbase hrow ho9 hg9 t0 t1 t2
  go_wp2
  exact⟨⟨k+1,G++[⟨⟨n1,n2,P.map (·.1)⟩,.slice ho P.length hc,P⟩],o9,c9,HK2,by rw[List.length_append];rfl,by go_num,hR9,by show _=_;rw[List.length_append,HG.out];rfl,HL2⟩,by simp[intOf];omega⟩
 ·have hend:¬ (k:Int)<(F.length:Int):=by omega
  have hI:=HI.out
  rw[List.drop_of_length_le (by omega),List.map_nil,List.append_nil] at hI
  clear HI
  go_wp2
  go_ret
  exact⟨_,rfl,G,hPw,hI⟩
theorem ZyM (F:List Pfd) (v:Value) (w:World) (hv:HPp w v F) (hl:F.length≤1099511627776) (HOF:Hid (∀ x∈F,HOk x.hs)) (L:List Pth) (HL:Hid ((F.map (·.x))=L)) :
  Calls Tryz.prog 14 #[v] w fun e w'=>∃ v' G,e=.returned v'∧Pw w v' G w'∧G.map (·.x)=L:=by
 obtain⟨lo,lc,rfl⟩:=Holds.form hv.row
 have hc:=ZyN F _ w hv hl HOF L HL
 clear HL HOF
 go_enter Tryz.func14,Tryz.ntmps14
 go_wp2_with fail
 refine hc.mono ?_
 rintro e w1 ⟨v',G,rfl,hP,hG⟩
 obtain⟨o,c,rfl⟩:=(Zeo hP.own).form
 go_wp2
 go_ret
 exact⟨_,G,rfl,hP,hG⟩
end

section
open Ln
end

section
open Go.RowKit
end

section
open Ln
end

section
open Go.RowKit
end

section
open Go.RowKit
theorem Zqg (F G:List Pfd) (va vb:Value) (w:World) (ha:HPp w va F) (hb:HPp w vb G) (HE:Hid (F.map (·.x)=G.map (·.x))) (HO:Hid (∀ f∈F,HOw f.hs)) (hl:F.length≤1099511627776) :
  Calls Tryz.prog 11 #[va,vb] w fun e w'=>e=.returned (.bool true)∧Below w.heap.size w w':=by
 have hc:=Zqh F G va vb w ha hb HE HO hl
 obtain⟨lo,lc,rfl⟩:=Holds.form ha.row
 obtain⟨mo,mc,rfl⟩:=Holds.form hb.row
 go_enter Tryz.func11,Tryz.ntmps11
 go_wp2_with fail
 refine hc.mono ?_
 rintro e w1 ⟨rfl,hB1⟩
 go_wp2
 go_ret
 exact⟨rfl,hB1⟩
end

section
open Go.RowKit Go.Proofs.YtcniomgjikienaaGreatDoor.Tx
attribute [local go_sem] Zhc
theorem Zya {w:World} {B:Nat} {e:TypeId} {s:Nat} {ao:Option Addr} {n c:Nat} {xs:List Value} (h:w.ownsRow B e s (.slice ao n c) n xs) (h0:0<n):∃ g,ao=some ⟨g,0,none⟩:=by
 rcases h.2 with ⟨_,q⟩ | ⟨g,cap,cur,q,_⟩
 ·omega
 ·cases q
  exact⟨g,rfl⟩
theorem ZvU (P:List (Hk × Value)):∀ (k:Nat) (hk:k<P.length),(hkcells P)[k * 5+4]?=some P[k].2:=by
 induction P with
 | nil=>intro k hk;cases hk
 | cons a P ih =>
  intro k hk
  have e:hkcells (a::P)=hkC a.1 a.2++hkcells P:=rfl
  rw[e]
  cases k with
  | zero=>rfl
  | succ k =>
   have l5:(hkC a.1 a.2).length=5:=rfl
   have h1:=ih k (by simpa using hk)
   rw[List.getElem?_append_right (by rw[l5];omega),l5,show (k+1) * 5+4-5=k * 5+4 by omega]
   exact h1
theorem Zwe {p q:List (Hk × Value)} (h:p.map (·.1)=q.map (·.1)) (hp:HOk p):HOk q:=by
 refine⟨?_,fun x hx=>?_⟩
 ·have:=congrArg List.length h
  simp only[List.length_map] at this
  rw[← this]
  exact hp.1
 ·have hm:x.1∈p.map (·.1):=by rw[h];exact List.mem_map_of_mem hx
  obtain⟨y,hy,e⟩:=List.mem_map.1 hm
  have:=hp.2 y hy
  rw[e] at this
  exact this
theorem Zws (l:List Mk):∀ x,(invG x l).length=x.length+l.length:=by
 induction l with
 | nil=>intro x;simp[invG]
 | cons m l ih =>
  intro x
  simp only[invG]
  split
  ·rw[List.length_cons,ih,List.length_cons];omega
  ·split
   ·rw[ih,List.length_append];simp only[List.length_cons,List.length_nil];omega
   ·rw[List.length_append,List.length_cons,ih];simp only[List.length_cons,List.length_nil];omega
structure Spo (w:World) (vi:Value) (G:List Pfd) (u:World):Prop where
 low:Below w.heap.size w u
 row:u.ownsRow w.heap.size 42 3 vi G.length (pxcells G)
 hks:∀ f∈G,u.ownsRow w.heap.size 45 5 f.v f.hs.length (hkcells f.hs)
 mks:∀ f∈G,∀ y∈f.hs,∃ xs,u.ownsRow w.heap.size 47 2 y.2 y.1.ls.length xs
theorem Spo.start {w:World} {vi:Value} {G:List Pfd} {u:World} (h:Pw w vi G u):Spo w vi G u:=⟨h.low,h.own,fun f hf=>(h.ins f hf).own,fun f hf y hy=>⟨_,(h.ins f hf).ins y hy⟩⟩
theorem Spo.keep {w:World} {vi:Value} {G:List Pfd} {u u':World} (h:Spo w vi G u) (hb:Below u.heap.size u u'):Spo w vi G u':=⟨h.low.trans (hb.mono h.low.size),ZhK h.row hb,fun f hf=>ZhK (h.hks f hf) hb,fun f hf y hy=>by obtain⟨xs,q⟩:=h.mks f hf y hy;exact⟨xs,ZhK q hb⟩⟩
theorem Spo.put {w:World} {vi:Value} {G:List Pfd} {u:World} (h:Spo w vi G u) {g n c j:Nat} {xs:List Value} (z:Value) (ho:u.ownsRow w.heap.size 47 2 (.slice (some ⟨g,0,none⟩) n c) n xs):Spo w vi G (u.setCell ⟨g,j,none⟩ z):=by
 have hg:=ZdS u g j z
 have hge:w.heap.size≤g:=ZhJ ho rfl
 refine⟨h.low.setCell hge _,ZjA h.row ho (by decide) hg,fun f hf=>ZjA (h.hks f hf) ho (by decide) hg,fun f hf y hy=>?_⟩
 obtain⟨ys,q⟩:=h.mks f hf y hy
 by_cases e:y.2.ownBlock=some g
 ·rcases q.2 with ⟨q1,q2⟩ | ⟨g',c',cur,e',_⟩
  ·rw[q1] at e
   simp[Value.ownBlock] at e
  ·rw[e'] at q e ⊢
   simp[Value.ownBlock] at e
   subst e
   exact⟨_,(q.stored j z).1⟩
 ·exact⟨ys,q.kept hg (.inr e)⟩
theorem Zyz (F:List Pfd) (v:Value) (f n:Int) (nm:List UInt8) (w:World) (hv:HPp w v F) (hl:F.length≤1099511627776) (hn:-9223372036854775808≤n∧n≤9223372036854775807) (hnm:nm.length≤1099511627776)
  (HOF:Hid (∀ x∈F,HOk x.hs∧(∀ y∈x.hs,y.1.ls.length≤137438953472)∧x.x.old.length≤1099511627776∧x.x.new.length≤1099511627776))
  (HM:Hid (∀ x∈F,(upT x.x).length≤70368744177664∧(ptT x.x).length≤70368744177664∧(∀ y∈x.x.hs,(wrgP x.x=0→(nrmT y).length≤70368744177664)∧∀ sg,(sidL sg false false y.ls).flatten.length≤70368744177664)∧(wrgP x.x=0→(x.x.hs.flatMap nrmH).flatten.length≤70368744177664)))
  (HM8:Hid (∀ x∈F,(rwZ f x.x).length≤1099511627776)) (HTb:Hid (Tab10 w)) :
  Calls Tryz.prog 4 #[v,.int .i64 f,.string ⟨nm.toArray⟩,.int .i64 n] w fun e w'=>e=.returned (.bool true)∧Below w.heap.size w w':=by
 obtain⟨lo,lc,rfl⟩:=Holds.form hv.row
 obtain⟨r,hr⟩:∃ r,rowE f (F.map (·.x))=r:=⟨_,rfl⟩
 obtain⟨T,hT⟩:∃ T,rowT f (F.map (·.x))=T:=⟨_,rfl⟩
 obtain⟨Z,hZ⟩:∃ Z,strp n.toNat nm=Z:=⟨_,rfl⟩
 have hcp:=ZyM F (.slice lo F.length lc) w hv hl (fun x hx=>(HOF.out x hx).1) _ rfl
 have hst:=fun u=>ZhT nm n hnm hn u Z hZ
 have hsr:=fun u=>Zzi nm n hnm hn u Z hZ
 have HR:Hid (rowE f (F.map (·.x))=r):=hr
 have HT:Hid (rowT f (F.map (·.x))=T):=hT
 clear hr hT hZ
 go_enter Tryz.func4,Tryz.ntmps4
 go_wp2_with fail
 refine hcp.mono ?_
 rintro e w1 ⟨v1,G1,rfl,hP1,hG1⟩
 have hh1:=hP1.holds
 have hB1:=hP1.low
 have HG1:Hid (G1.map (·.x)=F.map (·.x)):=hG1
 have HFo:Hid (∀ g∈G1,∃ x∈F,x.x=g.x∧x.hs.map (·.1)=g.hs.map (·.1)):=(by
  intro g hg
  have hm:g.x∈F.map (·.x):=by rw[← hG1];exact List.mem_map_of_mem hg
  obtain⟨x,hx,e⟩:=List.mem_map.1 hm
  refine⟨x,hx,e,?_⟩
  rw[(hv.ins x hx).1,(hh1.ins g hg).1,e])
 have HOF1:Hid (∀ x∈G1,HOk x.hs∧(∀ y∈x.hs,y.1.ls.length≤137438953472)∧x.x.old.length≤1099511627776∧x.x.new.length≤1099511627776):=(by
  intro g hg
  obtain⟨x,hx,e1,e2⟩:=HFo.out g hg
  obtain⟨q1,q2,q3,q4⟩:=HOF.out x hx
  refine⟨Zwe e2 q1,fun y hy=>?_,by rw[← e1];exact q3,by rw[← e1];exact q4⟩
  have hm:y.1∈x.hs.map (·.1):=by rw[e2];exact List.mem_map_of_mem hy
  obtain⟨z,hz,ez⟩:=List.mem_map.1 hm
  rw[← ez]
  exact q2 z hz)
 have HM81:Hid (∀ x∈G1,(rwZ f x.x).length≤1099511627776):=(by
  intro g hg
  obtain⟨x,hx,e1,_⟩:=HFo.out g hg
  rw[← e1]
  exact HM8.out x hx)
 have HLEN:Hid (G1.length=F.length):=(by show _=_;have:=congrArg List.length hG1;simpa using this)
 have hl1:G1.length≤1099511627776:=by rw[HLEN.out];exact hl
 have hpr:=Zyh G1 v1 w1 hh1 f hl1 HOF1 HM81 (HTb.out.on hB1) r T (by rw[hG1];exact HR.out) (by rw[hG1];exact HT.out)
 obtain⟨go1,gc1,rfl⟩:=hh1.row.form
 clear hcp hG1 HM8 HM81
 go_wp2_with fail
 refine hpr.mono ?_
 rintro e w2 ⟨rfl,hB12⟩
 have hB2:=hB1.trans (hB12.mono hB1.size)
 have hv2:=hv.keep hB2
 have hrp:=Zzd F (.slice lo F.length lc) w2 hv2 f (fun x hx=>⟨(HOF.out x hx).1,(HOF.out x hx).2.2⟩) HM r T HR HT
 clear hpr hB1
 go_wp2_with fail
 refine hrp.mono ?_
 rintro e w3 ⟨rfl,hB23⟩
 have hB3:=hB2.trans (hB23.mono hB2.size)
 have hB13:=hB12.trans (hB23.mono hB12.size)
 have hh3:=hh1.keep hB13
 have hiv:=Zyf G1 _ w3 hh3 hl1 (fun x hx=>⟨(HOF1.out x hx).1.1,fun y hy=>by have:=(HOF1.out x hx).2.1 y hy;omega⟩) _ rfl
 clear hrp hB2 hB23 hv2
 go_wp2_with fail
 refine hiv.mono ?_
 rintro e w4 ⟨vi,G2,rfl,hP4,hG2⟩
 have hB34:=hP4.low
 have hB4:=hB3.trans (hB34.mono hB3.size)
 have hv4:=hv.keep hB4
 have HB14:Hid (Below w1.heap.size w1 w4):=hB13.trans (hB34.mono hB13.size)
 obtain⟨gi,ci,rfl⟩:=hP4.holds.row.form
 have hri:=ZyP F (.slice lo F.length lc) w4 hv4 hl (fun x hx=>⟨(HOF.out x hx).1.1,fun y hy=>by have:=(HOF.out x hx).2.1 y hy;omega⟩) _ rfl
 have HG2:Hid (G2.map (·.x)=F.map fun x=>invP x.x):=(by
  show _=_
  rw[hG2]
  have e1:(G1.map fun x=>invP x.x)=(G1.map (·.x)).map invP:=by rw[List.map_map];rfl
  have e2:(F.map fun x=>invP x.x)=(F.map (·.x)).map invP:=by rw[List.map_map];rfl
  rw[e1,e2,HG1.out])
 have HOW2:Hid (∀ g∈G2,HOw g.hs):=(by
  intro g hg
  have hm:g.x∈F.map fun x=>invP x.x:=by rw[← HG2.out];exact List.mem_map_of_mem hg
  obtain⟨x,hx,e⟩:=List.mem_map.1 hm
  have hgh:=(hP4.holds.ins g hg).1
  rw[← e] at hgh
  have hxx:=(hv.ins x hx).1
  obtain⟨q1,q2,_⟩:=HOF.out x hx
  have e3:g.hs.map (·.1)=x.hs.map fun y=>invH y.1:=by
   rw[hgh]
   show (invP x.x).hs=_
   unfold invP
   dsimp only
   rw[← hxx,List.map_map]
   rfl
  refine⟨?_,fun y hy=>?_⟩
  ·have:=congrArg List.length e3
   simp only[List.length_map] at this
   rw[this]
   exact q1.1
  ·have hm2:y.1∈g.hs.map (·.1):=List.mem_map_of_mem hy
   rw[e3] at hm2
   obtain⟨z,hz,ez⟩:=List.mem_map.1 hm2
   rw[← ez]
   show (invG [] z.1.ls).length≤_
   rw[Zws]
   have:=q2 z hz
   simp only[List.length_nil]
   omega)
 have HL2:Hid (G2.length≤1099511627776):=(by
  have:=congrArg List.length HG2.out
  simp only[List.length_map] at this
  show G2.length≤_
  rw[this]
  exact hl)
 have hS4:=Spo.start hP4
 have hh4:=hP4.holds
 clear hiv hG2 hP4 hh3 hv4
 have hne1:(T != T)=false:=by simp
 go_wp2_with fail
 refine hri.mono ?_
 rintro e w5 ⟨v5,G3,rfl,hP5,hG3⟩
 obtain⟨g5,c5,rfl⟩:=hP5.holds.row.form
 have hB45:=hP5.low
 have hsa:=Zqg G2 G3 _ _ w5 (hh4.keep hB45) hP5.holds (by show _=_;rw[HG2.out,hG3]) HOW2.out HL2.out
 have hB5:=hB4.trans (hB45.mono hB4.size)
 have hS5:=hS4.keep hB45
 clear hri hP5 hG3 hh4 hS4 hB4
 go_wp2_with fail
 refine hsa.mono ?_
 rintro e w6 ⟨rfl,hB56⟩
 have hB6:=hB5.trans (hB56.mono hB5.size)
 have hS6:=hS5.keep hB56
 clear hsa hS5 hB5
 go_wp2_with fail
 refine (hst _).mono ?_
 rintro e w7 ⟨rfl,hB67⟩
 have hB7:=hB6.trans (hB67.mono hB6.size)
 have hS7:=hS6.keep hB67
 clear hst hS6 hB6
 go_wp2_with fail
 refine (hsr _).mono ?_
 rintro e w8 ⟨rfl,rfl⟩
 clear hsr
 have HB13:Hid (Below w1.heap.size w1 w3):=hB13
 clear hB7 hB12 hB13 hB34 hB45 hB56 hB67 hne1
 go_wp2
 go_loopw [15] (fun kv wr=>∃ k:Nat,k≤G2.length∧kv=.int .i64 (k:Int)∧Spo w3 (.slice gi G2.length ci) G2 wr) (fun kv _=>G2.length-(intOf kv).toNat)
 case atStart=>exact⟨0,Nat.zero_le _,by go_num,hS7⟩
 case round =>
 clear hS7
 obtain⟨k,hk,rfl,hS⟩:=hrel
 by_cases hlt:k<G2.length
 ·obtain⟨g,rfl⟩:=Zya hS.row (by omega)
  have i1:(0:Int)≤(k:Int):=by omega
  have i2:(k:Int)<(G2.length:Int):=by omega
  have hG2l:=HL2.out
  have hfm:G2[k]∈G2:=List.getElem_mem hlt
  have hpx:=(ZiP G2 k hlt).2.2
  obtain⟨x,hx⟩:∃ x,G2[k]=x:=⟨_,rfl⟩
  rw[hx] at hfm hpx
  have hcp:∀ u:World,Spo w3 (.slice (some ⟨g,0,none⟩) G2.length ci) G2 u→u.cell? ⟨g,k * 3+2,none⟩=some x.v:=fun u hu=>(hu.row.cellAt (k * 3+2) (by omega)).trans hpx
  have HCP:Hid (∀ u:World,Spo w3 (.slice (some ⟨g,0,none⟩) G2.length ci) G2 u→u.cell? ⟨g,k * 3+2,none⟩=some x.v):=hcp
  have HLT:Hid (k<G2.length):=hlt
  have hol:=(HOW2.out x hfm).1
  have HOL:Hid (∀ y∈x.hs,y.1.ls.length≤1099511627776):=(HOW2.out x hfm).2
  obtain⟨xo,xc,hxv⟩:∃ xo xc,x.v=.slice xo x.hs.length xc:=by
   obtain⟨a,b,q⟩:=(Zeo (hS.hks x hfm)).form
   exact⟨a,b,q⟩
  rw[hxv] at HCP
  clear hcp hpx hx
  obtain⟨wk,rfl⟩:∃ z,z=wr:=⟨_,rfl⟩
  go_wp2
  go_loopw [16] (fun jv wr=>∃ j:Nat,j≤x.hs.length∧jv=.int .i64 (j:Int)∧Spo w3 (.slice (some ⟨g,0,none⟩) G2.length ci) G2 wr) (fun jv _=>x.hs.length-(intOf jv).toNat)
  case atStart=>exact⟨0,Nat.zero_le _,by go_num,hS⟩
  case round =>
  clear hS
  obtain⟨j,hj,rfl,hS⟩:=hrel
  have c0:=HCP.out _ hS
  by_cases hlt2:j<x.hs.length
  ·have hhk:=hS.hks x hfm
   rw[hxv] at hhk
   obtain⟨h,rfl⟩:=Zya hhk (by omega)
   have j1:(0:Int)≤(j:Int):=by omega
   have j2:(j:Int)<(x.hs.length:Int):=by omega
   have hym:x.hs[j]∈x.hs:=List.getElem_mem hlt2
   have hkx:=ZvU x.hs j hlt2
   obtain⟨y,hy⟩:∃ y,x.hs[j]=y:=⟨_,rfl⟩
   rw[hy] at hym hkx
   obtain⟨yo,yc,hyv⟩:∃ yo yc,y.2=.slice yo y.1.ls.length yc:=by
    obtain⟨xs,q⟩:=hS.mks x hfm y hym
    obtain⟨a,b,q2⟩:=(Zeo q).form
    exact⟨a,b,q2⟩
   have HCH:Hid (∀ u:World,Spo w3 (.slice (some ⟨g,0,none⟩) G2.length ci) G2 u→u.cell? ⟨h,j * 5+4,none⟩=some (.slice yo y.1.ls.length yc)):=fun u hu=>by
    have q:=hu.hks x hfm
    rw[hxv] at q
    exact (q.cellAt (j * 5+4) (by omega)).trans (by rw[hkx,hyv])
   have HLT2:Hid (j<x.hs.length):=hlt2
   have hyl:=HOL.out y hym
   clear hkx hy hhk
   obtain⟨wj,rfl⟩:∃ z,z=wr:=⟨_,rfl⟩
   go_wp2
   go_loopw [17] (fun qv wr=>∃ q:Nat,q≤y.1.ls.length∧qv=.int .i64 (q:Int)∧Spo w3 (.slice (some ⟨g,0,none⟩) G2.length ci) G2 wr) (fun qv _=>y.1.ls.length-(intOf qv).toNat)
   case atStart=>exact⟨0,Nat.zero_le _,by go_num,hS⟩
   case round =>
   clear hS c0
   obtain⟨q,hq,rfl,hS⟩:=hrel
   have c0:=HCP.out _ hS
   have c1:=HCH.out _ hS
   by_cases hlt3:q<y.1.ls.length
   ·obtain⟨xs,hmk⟩:=hS.mks x hfm y hym
    rw[hyv] at hmk
    obtain⟨m,rfl⟩:=Zya hmk (by omega)
    have l1:(0:Int)≤(q:Int):=by omega
    have l2:(q:Int)<(y.1.ls.length:Int):=by omega
    obtain⟨z0,hz0⟩:∃ z,wr.cell? ⟨m,q * 2+1,none⟩=some z:=by
     rw[hmk.cellAt (q * 2+1) (by omega)]
     exact⟨_,List.getElem?_eq_getElem (by rw[hmk.1];omega)⟩
    have hfz:=hmk.frozenAt (q * 2+1)
    have hput:=hS.put (j:=q * 2+1) (.string ⟨#[115,112,111,105,108,116]⟩) hmk
    have HPUT:Hid (Spo w3 (.slice (some ⟨g,0,none⟩) G2.length ci) G2 (wr.setCell ⟨m,q * 2+1,none⟩ (.string ⟨#[115,112,111,105,108,116]⟩))):=hput
    clear hput hmk hS
    go_wp2
    exact⟨⟨q+1,by omega,by go_num,HPUT.out⟩,by simp[intOf];omega⟩
   ·have l2:¬ (q:Int)<(y.1.ls.length:Int):=by omega
    have hj1:=HLT2.out
    go_wp2
    exact⟨⟨j+1,hj1,by go_num,hS⟩,by simp[intOf];omega⟩
  ·have j2:¬ (j:Int)<(x.hs.length:Int):=by omega
   have hk1:=HLT.out
   go_wp2
   exact⟨⟨k+1,hk1,by go_num,hS⟩,by simp[intOf];omega⟩
 ·have i2:¬ (k:Int)<(G2.length:Int):=by omega
  have hB9:=hB3.trans (hS.low.mono hB3.size)
  have hB19:=HB13.out.trans (hS.low.mono HB13.out.size)
  have hsz:=Zqg G1 F _ _ wr (hh1.keep hB19) (hv.keep hB9) HG1.out (fun x hx=>⟨(HOF1.out x hx).1.1,fun y hy=>((HOF1.out x hx).1.2 y hy).1⟩) hl1
  clear hS
  go_wp2_with fail
  refine hsz.mono ?_
  rintro e w9 ⟨rfl,hB99⟩
  have hfin:=hB9.trans (hB99.mono hB9.size)
  go_wp2
  go_ret
  exact⟨rfl,hfin⟩
end

section
open Go.RowKit
end

section
open Go.RowKit
theorem cellsHks:Tryz.prog.cellsOf 40=1:=by kernel_rfl
theorem cellsPt:Tryz.prog.cellsOf 42=3:=by kernel_rfl
theorem ZAv (l:List Mk):txS l+l.length≤mb l:=by
 induction l with
 | nil=>simp[txS,mb]
 | cons m l ih=>simp only[txS,mb,List.length_cons];omega
theorem Zwh (l:List Hk):hsS l≤264 * hbk l:=by
 induction l with
 | nil=>simp[hsS,hbk]
 | cons h l ih =>
  have:=ZAv h.ls
  simp only[hsS,hbk]
  omega
theorem Zwd {q:List (Hk × Value)} {n:Nat} (h:hbk (q.map (·.1))≤n) (hn:n≤1099511627776):HOk q:=by
 refine⟨?_,fun x hx=>⟨?_,fun m hm=>?_⟩⟩
 ·have:=ZvO (q.map (·.1))
  rw[List.length_map] at this
  omega
 ·have h1:=ZvP (q.map (·.1)) x.1 (List.mem_map_of_mem hx)
  have h2:=ZwW x.1.ls
  omega
 ·have h1:=ZvP (q.map (·.1)) x.1 (List.mem_map_of_mem hx)
  have h2:=ZwX x.1.ls m hm
  omega
theorem ZAm {l:List Hk} {n:Nat} (h:hbk l≤n):∀ x∈l,∀ sg,(sidL sg false false x.ls).flatten.length≤32 * n:=by
 intro x hx sg
 have h1:=ZvP l x hx
 have h2:=ZAn sg x.ls false false
 have h3:=ZAv x.ls
 omega
end

section
open Go.RowKit
theorem ZxT {H:Type} {enc:TypeId × Value→H} {W:World} {fuel:Nat} {cs:List Value} {d:DataW H} {p:List MemPlace}
  (h:DataW.trod enc Tryz.prog W 0 (fun _=>true) true fuel 42 cs=some (d,p)) :
  ∃ (old new:List UInt8) (q:List (Hk × Value)) (y:Value),cs=[.string ⟨old.toArray⟩,.string ⟨new.toArray⟩,y]∧HHp W y q∧old.length+new.length+hbk (q.map (·.1))+1≤Rows.uptoBulk d:=by
 obtain⟨xs,k,hk,hxy,hlen,hxl,hf⟩:=DataW.trod_struct Tryz.underlying42 h
 rw[cellsPt] at hlen
 match xs,hxl,cs,hlen with
 | [y0,y1,y2],_,[v0,v1,v2],_ =>
  have g0:=hf 0 _ rfl
  have g1:=hf 1 _ rfl
  have g2:=hf 2 _ rfl
  simp[cellsStr,cellsHks] at g0 g1 g2
  obtain⟨z0,e0,q0,_⟩:=DataW.trod_string Tryz.underlying9 g0
  obtain⟨z1,e1,q1,_⟩:=DataW.trod_string Tryz.underlying9 g1
  obtain⟨y2d,y2p⟩:=y2
  obtain⟨ao,n,c,rfl⟩:∃ ao n c,v2=.slice ao n c:=by
   rcases Go.Deep.open_slice Tryz.underlying40 g2 with ⟨hcs,_⟩ | ⟨a,l,c,m,n,D,Pl,hcs,_⟩
   ·simp at hcs
    exact⟨_,_,_,hcs⟩
   ·simp at hcs
    exact⟨_,_,_,hcs⟩
  obtain⟨l,hl,hb,_⟩:=ZxR g2
  cases e0
  cases e1
  simp only[Prod.mk.injEq] at hxy
  refine⟨z0.data.toList,z1.data.toList,l,.slice ao n c,by simp,hl,?_⟩
  rw[hxy.1,q0,q1]
  simp[Rows.uptoBulk,Rows.uptoBulkAll]
  omega
def ptb:List Pfd→Nat
 | []=>0
 | f::F=>f.x.old.length+f.x.new.length+hbk f.x.hs+1+ptb F
theorem ZyC (F:List Pfd):F.length≤ptb F:=by
 induction F with
 | nil=>simp
 | cons m l ih=>simp only[ptb,List.length_cons];omega
theorem ZyD (F:List Pfd):∀ f∈F,f.x.old.length+f.x.new.length+hbk f.x.hs≤ptb F:=by
 induction F with
 | nil=>intro m hm;cases hm
 | cons x l ih =>
  intro m hm
  simp only[ptb]
  rcases List.mem_cons.1 hm with rfl | hm
  ·omega
  ·have:=ih m hm
   omega
theorem ZyE (f:Nat→Pfd) (n:Nat):ptb ((List.range n).map f)=((List.range n).map fun i=>(f i).x.old.length+(f i).x.new.length+hbk (f i).x.hs+1).sum:=by
 have key:∀ l:List Pfd,ptb l=(l.map fun f=>f.x.old.length+f.x.new.length+hbk f.x.hs+1).sum:=by
  intro l
  induction l with
  | nil=>rfl
  | cons m l ih=>simp only[ptb,ih,List.map_cons,List.sum_cons]
 rw[key,List.map_map]
 rfl
theorem ZyJ (F:List Pfd):∀ (k:Nat) (hk:k<F.length) (j:Nat),j<3→(pxcells F)[3 * k+j]?=(pxC F[k])[j]?:=by
 induction F with
 | nil=>intro k hk;cases hk
 | cons f F ih =>
  intro k hk j hj
  have e:pxcells (f::F)=pxC f++pxcells F:=rfl
  have l3:(pxC f).length=3:=rfl
  cases k with
  | zero=>rw[e,List.getElem?_append_left (by omega),Nat.mul_zero,Nat.zero_add];rfl
  | succ k =>
   rw[e,List.getElem?_append_right (by omega),show 3 * (k+1)+j-(pxC f).length=3 * k+j by omega,ih k (by simpa using hk) j hj]
   rfl
theorem ZxU {H:Type} {enc:TypeId × Value→H} {W:World} {fuel:Nat} {ao:Option Addr} {len cap:Nat} {d:DataW H} {p:List MemPlace}
  (h:DataW.trod enc Tryz.prog W 0 (fun _=>true) true fuel 22 [.slice ao len cap]=some (d,p)) :
  ∃ F:List Pfd,HPp W (.slice ao len cap) F∧ptb F≤Rows.uptoBulk d:=by
 rcases Go.Deep.open_slice Tryz.underlying22 h with ⟨hcs,hx⟩ | ⟨a,l,c,m,n,D,Pl,hcs,_,hl,hm,hmm,hx,hel⟩
 ·simp at hcs
  obtain⟨rfl,rfl,rfl⟩:=hcs
  exact⟨[],⟨.inl ⟨rfl,rfl,rfl⟩,by simp⟩,by simp[ptb]⟩
 ·simp at hcs
  obtain⟨rfl,rfl,rfl⟩:=hcs
  simp only[Prod.mk.injEq] at hx
  obtain⟨rfl,_⟩:=hx
  have hlm:len≤m:=by rw[hmm];split<;>omega
  have each:∀ i,i<len→∃ c:Pfd,(∀ j,j<3→W.cell? (a.add (i * 3+j))=(pxC c)[j]?)∧c.hs.map (·.1)=c.x.hs∧HHp W c.v c.hs∧c.x.old.length+c.x.new.length+hbk c.x.hs+1≤Rows.uptoBulk (D i):=by
   intro i hi
   obtain⟨cs',h1,h2⟩:=hel i (by omega)
   rw[cellsPt] at h1
   obtain⟨_,hlen,hcell⟩:=World.cells?_some h1
   obtain⟨old,new,q,y,rfl,hq,hb⟩:=ZxT h2
   refine⟨⟨⟨old,new,q.map (·.1)⟩,y,q⟩,fun j hj=>?_,rfl,hq,hb⟩
   have:=hcell j (by simpa using hj)
   rw[Go.Deep.add_add] at this
   rw[this]
   rfl
  have:Inhabited Pfd:=⟨⟨⟨[],[],[]⟩,.slice none 0 0,[]⟩⟩
  obtain⟨f,hf⟩:=Go.Deep.choose_lt each
  have hlen:((List.range len).map f).length=len:=by simp
  refine⟨(List.range len).map f,⟨.inr ⟨a,cap,by rw[hlen],by rw[hlen];exact hl,fun j u hj=>?_⟩,?_⟩,?_⟩
  ·have hj':j<len * 3:=by
    have:=(List.getElem?_eq_some_iff.1 hj).1
    rw[ZiQ,hlen] at this
    exact this
   have h0:=ZyJ ((List.range len).map f) (j / 3) (by rw[hlen];omega) (j % 3) (by omega)
   have hfj:=(hf (j / 3) (by omega)).1 (j % 3) (by omega)
   simp only[List.getElem_map,List.getElem_range] at h0
   rw[show 3 * (j / 3)+j % 3=j by omega] at h0
   rw[show j / 3 * 3+j % 3=j by omega] at hfj
   rw[hfj,← h0]
   exact hj
  ·intro x hx
   simp only[List.mem_map,List.mem_range] at hx
   obtain⟨i,hi,rfl⟩:=hx
   exact⟨(hf i hi).2.1,(hf i hi).2.2.1⟩
  ·rw[ZyE,Rows.uptoBulk]
   have:=Ztw D (fun i=>(f i).x.old.length+(f i).x.new.length+hbk (f i).x.hs+1) len fun i hi=>(hf i hi).2.2.2
   omega
end

section
open Ln
theorem ZzM {p n:Int} (h0:0≤p) (h1:p≤4611686018427387904) (h2:0≤n) (h3:p+n≤4611686018427387904):(rngT p n).length≤43:=by
 have l1:=Zwz (p+1) (by omega) (by omega)
 have l2:=Zwz (p+n) (by omega) (by omega)
 unfold rngT
 split
 ·omega
 ·simp only[List.length_append,List.length_cons]
  omega
theorem Zxx (ah:List UInt8) (l:List (List UInt8)):(l.flatMap (lnL ah)).flatten.length≤(ah.length+29) * l.length+l.flatten.length:=by
 induction l with
 | nil=>simp
 | cons s l ih =>
  have h1:=Zui ah s
  simp only[List.flatMap_cons,List.flatten_append,List.flatten_cons,List.length_append,List.length_cons,Nat.mul_add,Nat.mul_one]
  omega
theorem ZxH (c:Ch):(sepL c).flatten.length≤4:=by
 unfold sepL
 split<;>simp
theorem Zyl {a b:Int} {o n:List (List UInt8)} (a0:0≤a) (a1:a+o.length≤4611686018427387904) (b0:0≤b) (b1:b+n.length≤4611686018427387904) :
  (pieL a b o n).flatten.length≤130 * (o.length+n.length)+o.flatten.length+n.flatten.length:=by
 have la:=ZzM a0 (by omega) (Int.natCast_nonneg o.length) a1
 have lb:=ZzM b0 (by omega) (Int.natCast_nonneg n.length) b1
 have ia:=Zwz a (by omega) (by omega)
 have ib:=Zwz b (by omega) (by omega)
 have lc:(cmdT ⟨a,o.length,b,n.length⟩).length≤87:=by
  unfold cmdT
  dsimp only
  split
  ·simp only[List.length_append,List.length_cons]
   omega
  ·split
   ·simp only[List.length_append,List.length_cons]
    omega
   ·simp only[List.length_append,List.length_cons]
    omega
 have lo:=Zxx [60,32] o
 have ln:=Zxx [62,32] n
 have ls:=ZxH ⟨a,o.length,b,n.length⟩
 simp only[List.length_cons,List.length_nil] at lo ln
 unfold pieL
 split
 ·exact Nat.zero_le _
 ·rename_i h
  have:1≤o.length+n.length:=by
   rcases o with _ | ⟨x,o⟩
   ·rcases n with _ | ⟨x,n⟩
    ·exact absurd ⟨rfl,rfl⟩ h
    ·simp only[List.length_cons]
     omega
   ·simp only[List.length_cons]
    omega
  simp only[List.flatten_cons,List.flatten_append,List.length_append,List.length_cons,List.length_nil]
  omega
theorem ZxG (l:List Mk):∀ (a b:Int) (o n:List (List UInt8)),0≤a→a+o.length+l.length≤4611686018427387904→0≤b→b+n.length+l.length≤4611686018427387904 →
  (nrmL a b o n l).flatten.length≤130 * (o.length+n.length+l.length)+o.flatten.length+n.flatten.length+txS l:=by
 induction l with
 | nil =>
  intro a b o n a0 a1 b0 b1
  simp only[List.length_nil] at a1 b1
  have:=Zyl (o:=o) (n:=n) a0 (by omega) b0 (by omega)
  simp only[nrmL,txS,List.length_nil]
  omega
 | cons m l ih =>
  intro a b o n a0 a1 b0 b1
  simp only[List.length_cons] at a1 b1
  simp only[nrmL,txS,List.length_cons]
  split
  ·have h1:=Zyl (o:=o) (n:=n) a0 (by omega) b0 (by omega)
   have h2:=ih (a+o.length+1) (b+n.length+1) [] [] (by omega) (by simp only[List.length_nil];omega) (by omega) (by simp only[List.length_nil];omega)
   simp only[List.length_nil,List.flatten_nil] at h2
   simp only[List.flatten_append,List.length_append]
   omega
  ·split
   ·have h2:=ih a b (o++[m.tx]) n a0 (by simp only[List.length_append,List.length_cons,List.length_nil];omega) b0 (by omega)
    simp only[List.flatten_append,List.length_append,List.length_cons,List.length_nil,List.flatten_cons,List.flatten_nil] at h2
    omega
   ·have h2:=ih a b o (n++[m.tx]) a0 (by omega) b0 (by simp only[List.length_append,List.length_cons,List.length_nil];omega)
    simp only[List.flatten_append,List.length_append,List.length_cons,List.length_nil,List.flatten_cons,List.flatten_nil] at h2
    omega
theorem ZxE {h:Hk} (hc:chkH h=0) (hl:h.ls.length≤1099511627776):(nrmH h).flatten.length≤130 * h.ls.length+txS h.ls:=by
 obtain⟨c1,_⟩:=ZtX hc
 obtain⟨r1,r2,r3,r4,r5,r6,_⟩:=ZzK c1
 obtain⟨r7,r8⟩:=ZzI c1
 have ha:0≤atA h∧atA h≤2147483647:=by
  have hr:=c1
  simp[rngB,nat31] at hr
  unfold atA
  split<;>omega
 have hb:0≤atB h∧atB h≤2147483647:=by
  have hr:=c1
  simp[rngB,nat31] at hr
  unfold atB
  split<;>omega
 have:=ZxG h.ls (atA h) (atB h) [] [] ha.1 (by simp only[List.length_nil];omega) hb.1 (by simp only[List.length_nil];omega)
 simp only[List.length_nil,List.flatten_nil] at this
 unfold nrmH
 omega
theorem ZxF {l:List Hk} (hc:∀ x∈l,chkH x=0) (hl:hbk l≤1099511627776):(l.flatMap nrmH).flatten.length≤130 * hbk l:=by
 induction l with
 | nil=>exact Nat.zero_le _
 | cons h l ih =>
  simp only[hbk] at hl
  have h1:=ih (fun y hy=>hc y (by simp[hy])) (by omega)
  have h0:=ZwW h.ls
  have h2:=ZxE (hc h (by simp)) (by omega)
  have h3:=ZAv h.ls
  simp only[List.flatMap_cons,List.flatten_append,List.length_append,hbk]
  omega
theorem Zyy {W:World} {v:Value} {F:List Pfd} (hv:HPp W v F) (hb:ptb F≤1048576) (f:Int) :
  F.length≤1099511627776 ∧
  (∀ x∈F,HOk x.hs∧(∀ y∈x.hs,y.1.ls.length≤137438953472)∧x.x.old.length≤1099511627776∧x.x.new.length≤1099511627776) ∧
  (∀ x∈F,(upT x.x).length≤70368744177664∧(ptT x.x).length≤70368744177664∧(∀ y∈x.x.hs,(wrgP x.x=0→(nrmT y).length≤70368744177664)∧∀ sg,(sidL sg false false y.ls).flatten.length≤70368744177664)∧(wrgP x.x=0→(x.x.hs.flatMap nrmH).flatten.length≤70368744177664)) ∧
  (∀ x∈F,(rwZ f x.x).length≤1099511627776):=by
 have hm:=ZyD F
 refine⟨by have:=ZyC F;omega,fun x hx=>?_,fun x hx=>?_,fun x hx=>?_⟩
 ·have h1:=hm x hx
  have e:=(hv.ins x hx).1
  refine⟨Zwd (n:=1048576) (by rw[e];omega) (by omega),fun y hy=>?_,by omega,by omega⟩
  have h2:=ZvP x.x.hs y.1 (by rw[← e];exact List.mem_map_of_mem hy)
  have h3:=ZwW y.1.ls
  omega
 ·have h1:=hm x hx
  have h2:=ZAM x.x
  have h3:=ZyA x.x
  have h4:=Zwh x.x.hs
  refine⟨by omega,by omega,fun y hy=>⟨fun hw=>?_,fun sg=>?_⟩,fun hw=>?_⟩
  ·obtain⟨_,_,_,w4⟩:=ZAT hw
   have h5:=ZvP x.x.hs y hy
   have h6:=ZwW y.ls
   have h7:=ZxE (w4 y hy) (by omega)
   have h8:=ZAv y.ls
   unfold nrmT
   omega
  ·have:=ZAm (Nat.le_refl (hbk x.x.hs)) y hy sg
   omega
  ·obtain⟨_,_,_,w4⟩:=ZAT hw
   have:=ZxF w4 (by omega)
   omega
 ·have h1:=hm x hx
  have h2:=ZAM x.x
  have h3:=ZyA x.x
  have h4:=Zwh x.x.hs
  unfold rwZ
  split
  ·rename_i hw
   unfold upT at h2
   unfold ptT at h3
   rw[if_pos hw] at h2 h3
   unfold rowP
   split
   ·omega
   ·split
    ·omega
    ·obtain⟨_,_,_,w4⟩:=ZAT hw
     have:=ZxF w4 (by omega)
     omega
  ·exact Nat.zero_le _
end

end Go.Proofs.YtcniomgjikienaaGreatDoor
