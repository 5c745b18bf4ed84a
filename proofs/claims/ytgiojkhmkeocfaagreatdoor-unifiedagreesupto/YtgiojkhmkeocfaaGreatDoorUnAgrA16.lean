/-
  Texts that belong together, joined: CwI, NpT, CrS, CpQ, CpW, CpX, CpY, UnMath, UnM2, UnM3, UnLen, UpA, UpB, UpC, UpW.
-/
import Derived.Test.YtgiojkhmkeocfaaGreatDoorUnAgrA15

set_option maxHeartbeats 16000000
set_option maxRecDepth 100000
namespace Go.Proofs.YtgiojkhmkeocfaaGreatDoor

section
open Go.RowKit Go.Proofs.YtgiojkhmkeocfaaGreatDoor.Tx
def ptV (p:Pth) (v:Value):Value:=.agg #[.string ⟨p.old.toArray⟩,.string ⟨p.new.toArray⟩,v]
def ptO (p:Pth) (v:Value):Obj:=.cells #[.string ⟨p.old.toArray⟩,.string ⟨p.new.toArray⟩,v] 55
def Px (u:World) (b:Nat) (p:Pth) (v:Value):Prop:=u.heap[b]?=some (ptO p v)
theorem Px.cells {u:World} {b:Nat} {p:Pth} {v:Value} (q:Px u b p v):u.cell? ⟨b,0,none⟩=some (.string ⟨p.old.toArray⟩)∧u.cell? ⟨b,1,none⟩=some (.string ⟨p.new.toArray⟩)∧u.cell? ⟨b,2,none⟩=some v:=by
 unfold Px ptO at q
 refine⟨?_,?_,?_⟩<;>rw[Lib.cell_of_heap q]<;>rfl
theorem Px.lt {u:World} {b:Nat} {p:Pth} {v:Value} (q:Px u b p v):b<u.heap.size:=(Array.getElem?_eq_some_iff.1 q).1
theorem Px.low {u u':World} {b:Nat} {p:Pth} {v:Value} (q:Px u b p v) (hg:Below u.heap.size u u'):Px u' b p v:=(hg.block b q.lt).trans q
theorem Px.wr {B b:Nat} {v v':Value} {w w':World} {M:Nat} {p:Pth} {y:Value} (q:Px w M p y) (hw:Wr B b v v' w w') (ho:Off M b v):Px w' M p y∧Off M b v':=hw.block q ho
theorem Zcj (p:Pth) (q:List (Hk × Value)) (HQ:Hid (q.map (·.1)=p.hs)) (v:Value) (w:World) (hv:HHp w v q) (hok:HOk q) (ho:p.old.length≤1099511627776) (hn:p.new.length≤1099511627776) (r:Int) (HR:Hid (wrgP p=r)) :
  Calls Tryz.prog 64 #[ptV p v] w fun e w'=>e=.returned (.int .i64 r)∧Below w.heap.size w w':=by
 obtain⟨lo,lc,rfl⟩:=Holds.form hv.row
 obtain⟨old,new,hs⟩:=p
 dsimp only at HQ ho hn
 have hql:hs.length=q.length:=(by rw[← HQ.out,List.length_map])
 have HRR:=HR.out
 unfold wrgP at HRR
 dsimp only at HRR
 have hBm:Below w.heap.size w (w.alloc (.cells #[.string ⟨old.toArray⟩,.string ⟨new.toArray⟩,.slice lo q.length lc] 55)):=(Below.refl _ w).alloc (Nat.le_refl _) _
 have e:ptV ⟨old,new,hs⟩ (.slice lo q.length lc)=.agg #[.string ⟨old.toArray⟩,.string ⟨new.toArray⟩,.slice lo q.length lc]:=rfl
 rw[e]
 clear e HR
 by_cases h1:64<old.length∨64<new.length
 ·rw[if_pos h1] at HRR
  have HE:Hid (253=r):=HRR
  clear HRR hql
  by_cases h2:64<old.length
  ·have i1:(64:Int)<(old.length:Int):=by omega
   go_enter Tryz.func64,Tryz.ntmps64
   go_wp2
   go_ret
   exact⟨by rw[← HE.out];rfl,hBm⟩
  ·have i1:¬ (64:Int)<(old.length:Int):=by omega
   have i2:(64:Int)<(new.length:Int):=by omega
   go_enter Tryz.func64,Tryz.ntmps64
   go_wp2
   go_ret
   exact⟨by rw[← HE.out];rfl,hBm⟩
 ·rw[if_neg h1] at HRR
  have i1:¬ (64:Int)<(old.length:Int):=by omega
  have i2:¬ (64:Int)<(new.length:Int):=by omega
  by_cases h2:4096<hs.length
  ·rw[if_pos h2] at HRR
   have HE:Hid (9=r):=HRR
   have i3:(4096:Int)<(q.length:Int):=by omega
   clear HRR hql
   go_enter Tryz.func64,Tryz.ntmps64
   go_wp2
   go_ret
   exact⟨by rw[← HE.out];rfl,hBm⟩
  ·rw[if_neg h2] at HRR
   have HE:Hid (errs ((q.map (·.1)).drop 0)=r):=(by show _=_;rw[HQ.out,List.drop_zero];exact HRR)
   have i3:¬ (4096:Int)<(q.length:Int):=by omega
   have hq4:q.length≤4096:=by omega
   clear HRR hql h1 h2
   go_enter Tryz.func64,Tryz.ntmps64
   go_wp2
   go_loopw [23] (fun i wr=>∃ k:Nat,k≤q.length∧i=.int .i64 k∧Below w.heap.size w wr∧Hid (errs ((q.map (·.1)).drop k)=r)) (fun i _=>q.length-(intOf i).toNat)
   case atStart=>exact⟨0,Nat.zero_le _,by go_num,hBm,HE⟩
   case round =>
   clear HE hBm
   obtain⟨k,hk,rfl,hB,HI⟩:=hrel
   by_cases hlt:k<q.length
   ·obtain⟨bk,off,rfl,hbk,_⟩:=hv.at (by omega)
    obtain⟨h,y,hx⟩:∃ h y,q[k]=(h,y):=⟨_,_,rfl⟩
    obtain⟨⟨c0,c1,c2,c3,c4⟩,hm⟩:=HHp.take hv hB k hlt hx
    obtain⟨o1,o2⟩:=hok.2 q[k] (List.getElem_mem hlt)
    rw[hx] at o1 o2
    dsimp only at o1 o2
    have HI2:=HI.out
    rw[Zfv (by rw[List.length_map];exact hlt),List.getElem_map,hx] at HI2
    dsimp only at HI2
    have i4:(0:Int)≤(k:Int):=by omega
    have i5:(k:Int)<(q.length:Int):=by omega
    obtain⟨z,hz⟩:∃ z,chkH h=z:=⟨_,rfl⟩
    rw[hz] at HI2
    have hBm:=hB.alloc hB.size (.cells #[.int .i64 h.A,.int .i64 h.AN,.int .i64 h.B,.int .i64 h.BN,y] 59)
    have hmm:=hm.keep ((Below.refl _ wr).alloc (Nat.le_refl _) (.cells #[.int .i64 h.A,.int .i64 h.AN,.int .i64 h.B,.int .i64 h.BN,y] 59)) (Nat.le_refl _)
    have hc:=Zhs h y _ hmm o1 o2 z hz
    obtain⟨yo,yc,rfl⟩:=HMk.form hm
    have e:hkV h (.slice yo h.ls.length yc)=.agg #[.int .i64 h.A,.int .i64 h.AN,.int .i64 h.B,.int .i64 h.BN,.slice yo h.ls.length yc]:=rfl
    rw[e] at hc
    clear e hz HI hx hm hmm
    by_cases hz0:z=0
    ·subst hz0
     rw[if_neg (by decide)] at HI2
     have HI3:Hid (errs ((q.map (·.1)).drop (k+1))=r):=HI2
     clear HI2
     go_wp2_with fail
     refine hc.mono ?_
     rintro e w1 ⟨rfl,hB1⟩
     go_wp2
     exact⟨⟨k+1,by omega,by go_num,hBm.trans (hB1.mono hBm.size),HI3⟩,by simp[intOf];omega⟩
    ·rw[if_pos hz0] at HI2
     have HI3:Hid (z=r):=HI2
     have e1:(z != 0)=true:=bne_iff_ne.2 hz0
     clear HI2 hz0
     go_wp2_with fail
     refine hc.mono ?_
     rintro e w1 ⟨rfl,hB1⟩
     go_wp2
     go_ret
     exact⟨by rw[← HI3.out];rfl,hBm.trans (hB1.mono hBm.size)⟩
   ·have hend:decide ((k:Int)<(q.length:Int))=false:=decide_eq_false (by omega)
    have HE:Hid (0=r):=(by
     have h:=HI.out
     rw[List.drop_of_length_le (by rw[List.length_map];omega)] at h
     exact h)
    clear HI
    go_wp2
    go_ret
    exact⟨by rw[← HE.out];rfl,hB⟩
theorem ZbR (p:Pth) (q:List (Hk × Value)) (HQ:Hid (q.map (·.1)=p.hs)) (v:Value) (w:World) (hv:HHp w v q) (hok:HOk q) (ho:p.old.length≤1099511627776) (hn:p.new.length≤1099511627776) (HT:Hid (Tab10 w)) (Z:List UInt8) (r:Int) (HR:Hid (wrgP p=r)) (HZ:Hid (ptT p=Z)) (hZ:Z.length≤70368744177664) :
  Calls Tryz.prog 25 #[ptV p v] w fun e w'=>e=.returned (.tuple #[.string ⟨Z.toArray⟩,.int .i64 r])∧Below w.heap.size w w':=by
 obtain⟨lo,lc,rfl⟩:=Holds.form hv.row
 have HO:=fun h=>(Zvf (p:=p) h)
 obtain⟨old,new,hs⟩:=p
 dsimp only at HQ ho hn
 have hql:hs.length=q.length:=(by rw[← HQ.out,List.length_map])
 have hZZ:=HZ.out
 unfold ptT at hZZ
 rw[HR.out] at hZZ
 have hBm:Below w.heap.size w (w.alloc (.cells #[.string ⟨old.toArray⟩,.string ⟨new.toArray⟩,.slice lo q.length lc] 55)):=(Below.refl _ w).alloc (Nat.le_refl _) _
 have hMx:Px (w.alloc (.cells #[.string ⟨old.toArray⟩,.string ⟨new.toArray⟩,.slice lo q.length lc] 55)) w.heap.size ⟨old,new,hs⟩ (.slice lo q.length lc):=heap_alloc_new w _
 have hvm:=hv.keep hBm (Nat.le_refl _)
 have hc:=Zcj ⟨old,new,hs⟩ q HQ (.slice lo q.length lc) _ hvm hok ho hn r HR
 have e:ptV ⟨old,new,hs⟩ (.slice lo q.length lc)=.agg #[.string ⟨old.toArray⟩,.string ⟨new.toArray⟩,.slice lo q.length lc]:=rfl
 rw[e] at hc ⊢
 obtain⟨d0,d1,d2⟩:=hMx.cells
 clear e hvm
 by_cases hr0:r=0
 ·subst hr0
  rw[if_pos rfl] at hZZ
  obtain⟨o1,o2,o3,o4⟩:=HO HR.out
  dsimp only at o1 o2 o3 o4
  have HCh:Hid (∀ x∈hs,chkH x=0):=o4
  clear o4 HO
  by_cases hq0:q.length=0
  ·have HE:Hid ([]=Z):=(by
    show _=_
    rw[← hZZ]
    have:hs=[]:=List.eq_nil_of_length_eq_zero (by omega)
    rw[this]
    rfl)
   have i1:((q.length:Int) == 0)=true:=(by rw[hq0];rfl)
   clear hZZ HZ hq0 hql
   go_enter Tryz.func25,Tryz.ntmps25
   go_wp2_with fail
   refine hc.mono ?_
   rintro e w1 ⟨rfl,hB1⟩
   have hM1:=hMx.low hB1
   clear d0 d1 d2
   obtain⟨d0,d1,d2⟩:=hM1.cells
   go_wp2
   go_ret2
   exact⟨by rw[← HE.out];rfl,hBm.trans (hB1.mono hBm.size)⟩
  ·have hne:hs≠[]:=(by intro e;rw[e] at hql;simp at hql;omega)
   rw[ZoT (p:=⟨old,new,hs⟩) hne] at hZZ
   dsimp only at hZZ
   obtain⟨N1,hN1⟩:∃ Y,nameT old=Y:=⟨_,rfl⟩
   obtain⟨N2,hN2⟩:∃ Y,nameT new=Y:=⟨_,rfl⟩
   obtain⟨U1,hU1⟩:∃ Y,[42,42,42,32]++N1=Y:=⟨_,rfl⟩
   obtain⟨U2,hU2⟩:∃ Y,[45,45,45,32]++N2=Y:=⟨_,rfl⟩
   obtain⟨Z1,hZ1⟩:∃ Y,[]++U1++[10]=Y:=⟨_,rfl⟩
   obtain⟨Z2,hZ2⟩:∃ Y,Z1++U2++[10]=Y:=⟨_,rfl⟩
   have HE:Hid (Z2++(((q.map (·.1)).drop 0).flatMap hkL).flatten=Z):=(by
    show _=_
    rw[← hZZ,← hZ2,← hZ1,← hU1,← hU2,hN1,hN2,HQ.out,List.drop_zero]
    simp)
   have hE:=congrArg List.length HE.out
   have l2:=congrArg List.length hZ2
   have l1:=congrArg List.length hZ1
   simp only[List.length_append] at hE l2 l1
   have b2:Z2.length≤70368744177664:=by omega
   have b1:Z1.length≤70368744177664:=by omega
   have n1:=Zmd old
   have n2:=Zmd new
   rw[hN1] at n1
   rw[hN2] at n2
   have q1:=ZaJ (x:=[42,42,42,32]) (y:=N1) (by unfold Fits;simp only[List.length_cons,List.length_nil];omega) Tryz.prog
   have q2:=ZaJ (x:=[45,45,45,32]) (y:=N2) (by unfold Fits;simp only[List.length_cons,List.length_nil];omega) Tryz.prog
   rw[hU1] at q1
   rw[hU2] at q2
   have HN1:Hid (nameT old=N1):=hN1
   have HN2:Hid (nameT new=N2):=hN2
   have HZ1:Hid ([]++U1++[10]=Z1):=hZ1
   have HZ2:Hid (Z1++U2++[10]=Z2):=hZ2
   have HZne:Hid (Z≠[]):=(by
    intro e
    have h:=congrArg List.length e
    have h2:=congrArg List.length hU1
    simp only[List.length_append,List.length_cons,List.length_nil] at h h2
    omega)
   have i1:((q.length:Int) == 0)=false:=beq_eq_false_iff_ne.2 (by omega)
   have hq4:q.length≤4096:=by omega
   clear hZZ HZ hq0 hql hE l1 l2 n1 n2 hN1 hN2 hU1 hU2 hZ1 hZ2 hne o3
   go_enter Tryz.func25,Tryz.ntmps25
   go_wp2_with fail
   refine hc.mono ?_
   rintro e w1 ⟨rfl,hB1⟩
   have hM1:=hMx.low hB1
   have hBw1:=hBm.trans (hB1.mono hBm.size)
   clear d0 d1 d2 hBm hMx hB1 hc
   have hM2:=hM1.low ((Below.refl _ w1).alloc (Nat.le_refl _) (.cells #[.pointer none,.slice none 0 0] 121))
   have hBw2:=hBw1.alloc hBw1.size (.cells #[.pointer none,.slice none 0 0] 121)
   have hP2:Pg w.heap.size w1.heap.size (.slice none 0 0) [] (w1.alloc (.cells #[.pointer none,.slice none 0 0] 121)):=⟨hBw1.size,⟨_,.inl rfl,heap_alloc_new w1 _⟩,World.ownsRowF_nil _ _ _ _,by simp[Value.ownBlock]⟩
   have hO2:Off w.heap.size w1.heap.size (.slice none 0 0):=⟨by have:=hM1.lt;omega,by simp[Value.ownBlock]⟩
   obtain⟨f0,f1,f2⟩:=hM1.cells
   obtain⟨d0,d1,d2⟩:=hM2.cells
   go_wp2_with fail
   refine (ZdG old _ ho N1 HN1).mono ?_
   generalize w1.alloc (.cells #[.pointer none,.slice none 0 0] 121)=W2 at hM2 hBw2 hP2 d0 d1 d2 ⊢
   generalize w1.heap.size=b at hP2 hO2 ⊢
   rintro e w3 ⟨rfl,hB3⟩
   have hM3:=hM2.low hB3
   have hP3:=hP2.low hB3
   have hBw3:=hBw2.trans (hB3.mono hBw2.size)
   clear d0 d1 d2 f0 f1 f2 hM2 hP2 hBw2 hB3 hM1 hBw1
   go_wp2_with fail
   refine (Zed w.heap.size b (.slice none 0 0) [] U1 Z1 w3 hP3 hBw3.size HZ1 b1).mono ?_
   rintro e w4 ⟨rfl,v4,hP4,hW4⟩
   obtain⟨hM4,hO4⟩:=hM3.wr hW4 hO2
   have hBw4:=hBw3.trans hW4.below
   obtain⟨d0,d1,d2⟩:=hM4.cells
   clear hM3 hP3 hBw3 hO2 hW4
   go_wp2_with fail
   refine (ZdG new _ hn N2 HN2).mono ?_
   rintro e w5 ⟨rfl,hB5⟩
   have hM5:=hM4.low hB5
   have hP5:=hP4.low hB5
   have hBw5:=hBw4.trans (hB5.mono hBw4.size)
   clear d0 d1 d2 hM4 hP4 hBw4 hB5
   go_wp2_with fail
   refine (Zed w.heap.size b v4 Z1 U2 Z2 w5 hP5 hBw5.size HZ2 b2).mono ?_
   rintro e w6 ⟨rfl,v6,hP6,hW6⟩
   obtain⟨hM6,hO6⟩:=hM5.wr hW6 hO4
   have hBw6:=hBw5.trans hW6.below
   obtain⟨d0,d1,d2⟩:=hM6.cells
   clear hM5 hP5 hBw5 hO4 hW6 q1 q2 HZ1 HZ2 HN1 HN2
   go_wp2
   go_loopw [30] (fun i wr=>∃ (k:Nat) (v1:Value) (ac:List UInt8),k≤q.length∧i=.int .i64 k∧Pg w.heap.size b v1 ac wr∧Below w.heap.size w wr∧Hid (ac++(((q.map (·.1)).drop k).flatMap hkL).flatten=Z)) (fun i _=>q.length-(intOf i).toNat)
   case atStart=>exact⟨0,v6,Z2,Nat.zero_le _,by go_num,hP6,hBw6,HE⟩
   case round =>
   clear HE hP6 hBw6 hM6 hO6 d0 d1 d2
   obtain⟨k,v1,ac,hk,rfl,hP,hB,HI⟩:=hrel
   by_cases hlt:k<q.length
   ·obtain⟨bk,off,rfl,hbk,_⟩:=hv.at (by omega)
    obtain⟨h,y,hx⟩:∃ h y,q[k]=(h,y):=⟨_,_,rfl⟩
    obtain⟨⟨c0,c1,c2,c3,c4⟩,hm⟩:=HHp.take hv hB k hlt hx
    obtain⟨x1,x2⟩:=hok.2 q[k] (List.getElem_mem hlt)
    have hins:=hv.ins q[k] (List.getElem_mem hlt)
    have hch:=HCh.out q[k].1 (by rw[← HQ.out];exact List.mem_map_of_mem (List.getElem_mem hlt))
    rw[hx] at x1 x2 hins hch
    dsimp only at x1 x2 hins hch
    have HI2:=HI.out
    rw[List.drop_eq_getElem_cons (show k<(q.map (·.1)).length by rw[List.length_map];exact hlt),List.getElem_map,hx,List.flatMap_cons,List.flatten_append,← List.append_assoc] at HI2
    dsimp only at HI2
    obtain⟨A2,hA2⟩:∃ Y,ac++(hkL h).flatten=Y:=⟨_,rfl⟩
    rw[hA2] at HI2
    have HI3:Hid (A2++(((q.map (·.1)).drop (k+1)).flatMap hkL).flatten=Z):=HI2
    have hAl:A2.length≤70368744177664:=(by have:=congrArg List.length HI2;rw[List.length_append] at this;omega)
    have i4:(0:Int)≤(k:Int):=by omega
    have i5:(k:Int)<(q.length:Int):=by omega
    have hBn:Below wr.heap.size wr (wr.alloc (.cells #[.int .i64 h.A,.int .i64 h.AN,.int .i64 h.B,.int .i64 h.BN,y] 59)):=(Below.refl _ wr).alloc (Nat.le_refl _) _
    have hBm:=hB.trans (hBn.mono hB.size)
    have hPm:=hP.low hBn
    have hc:=Zda w.heap.size b v1 h y ac A2 _ hPm hBm.size x1 x2 hch (fun u hu=>hins.keep (hBm.trans hu) (Nat.le_refl _)) (fun u hu=>HT.out.on (hBm.trans hu)) hA2 hAl
    obtain⟨yo,yc,rfl⟩:=HMk.form hm
    have e:hkV h (.slice yo h.ls.length yc)=.agg #[.int .i64 h.A,.int .i64 h.AN,.int .i64 h.B,.int .i64 h.BN,.slice yo h.ls.length yc]:=rfl
    rw[e] at hc
    clear e HI HI2 hx hm hins hch hA2
    go_wp2_with fail
    refine hc.mono ?_
    rintro e w7 ⟨rfl,v7,hP7,hW7⟩
    go_wp2
    exact⟨⟨k+1,v7,A2,by omega,by go_num,hP7,hBm.trans hW7.below,HI3⟩,by simp[intOf];omega⟩
   ·have hend:decide ((k:Int)<(q.length:Int))=false:=decide_eq_false (by omega)
    have hE:ac=Z:=(by
     have h:=HI.out
     rw[List.drop_of_length_le (by rw[List.length_map];omega)] at h
     simpa using h)
    subst hE
    clear HI
    go_wp2_with fail
    refine (ZbT w.heap.size b v1 ac HZne.out wr hP).mono ?_
    rintro e w7 ⟨rfl,hB7⟩
    go_wp2
    go_ret2
    exact⟨rfl,hB.trans hB7⟩
 ·rw[if_neg hr0] at hZZ
  have HE:Hid ([]=Z):=hZZ
  have e1:(r != 0)=true:=bne_iff_ne.2 hr0
  clear hZZ HZ HO hr0
  go_enter Tryz.func25,Tryz.ntmps25
  go_wp2_with fail
  refine hc.mono ?_
  rintro e w1 ⟨rfl,hB1⟩
  go_wp2
  go_ret2
  exact⟨by rw[← HE.out];rfl,hBm.trans (hB1.mono hBm.size)⟩
end

section
open Go.RowKit
def HOw (p:List (Hk × Value)):Prop:=p.length≤1099511627776∧∀ x∈p,x.1.ls.length≤1099511627776
theorem ZhT {A1 N1 B1 M1 A2 N2 B2 M2:Int} {l1 l2:List Mk}:(⟨A1,N1,B1,M1,l1⟩:Hk)=⟨A2,N2,B2,M2,l2⟩↔A1=A2∧N1=N2∧B1=B2∧M1=M2∧l1=l2:=by
 constructor
 ·rintro h
  cases h
  exact⟨rfl,rfl,rfl,rfl,rfl⟩
 ·rintro⟨rfl,rfl,rfl,rfl,rfl⟩
  rfl
theorem Zpk (h1 h2:Hk) (v1 v2:Value) (w:World) (hv1:HMk w v1 h1.ls) (hv2:HMk w v2 h2.ls) (hl1:h1.ls.length≤1099511627776) (r:Bool) (HR:Hid (r=true↔h1=h2)):Calls Tryz.prog 46 #[hkV h1 v1,hkV h2 v2] w fun e w'=>e=.returned (.bool r)∧Below w.heap.size w w':=by
 obtain⟨A1,N1,B1,M1,l1⟩:=h1
 obtain⟨A2,N2,B2,M2,l2⟩:=h2
 dsimp only at hv1 hv2 hl1
 obtain⟨o1,c1,rfl⟩:=HMk.form hv1
 obtain⟨o2,c2,rfl⟩:=HMk.form hv2
 have hx1:=Hx.new w ⟨A1,N1,B1,M1,l1⟩ (.slice o1 l1.length c1)
 have hB1:Below w.heap.size w (w.alloc (hkO ⟨A1,N1,B1,M1,l1⟩ (.slice o1 l1.length c1))):=(Below.refl _ w).alloc (Nat.le_refl _) _
 have hx2:Hx ((w.alloc (hkO ⟨A1,N1,B1,M1,l1⟩ (.slice o1 l1.length c1))).alloc (hkO ⟨A2,N2,B2,M2,l2⟩ (.slice o2 l2.length c2))) (w.heap.size+1) ⟨A2,N2,B2,M2,l2⟩ (.slice o2 l2.length c2):=ZaX w _ _
 have hB2:Below w.heap.size w ((w.alloc (hkO ⟨A1,N1,B1,M1,l1⟩ (.slice o1 l1.length c1))).alloc (hkO ⟨A2,N2,B2,M2,l2⟩ (.slice o2 l2.length c2))):=hB1.alloc (by simp) _
 have hx1':=hx1.low ((Below.refl _ (w.alloc (hkO ⟨A1,N1,B1,M1,l1⟩ (.slice o1 l1.length c1)))).alloc (Nat.le_refl _) (hkO ⟨A2,N2,B2,M2,l2⟩ (.slice o2 l2.length c2)))
 have hm1:=HMk.keep hv1 hB2 (Nat.le_refl _)
 have hm2:=HMk.keep hv2 hB2 (Nat.le_refl _)
 obtain⟨x0,x1,x2,x3,x4⟩:=hx1'.cells
 obtain⟨y0,y1,y2,y3,y4⟩:=hx2.cells
 unfold hkV
 dsimp only at x0 x1 x2 x3 x4 y0 y1 y2 y3 y4 ⊢
 have hW0:(w.alloc (hkO ⟨A1,N1,B1,M1,l1⟩ (.slice o1 l1.length c1))).alloc (hkO ⟨A2,N2,B2,M2,l2⟩ (.slice o2 l2.length c2))=(w.alloc (Obj.cells #[Value.int IntKind.i64 A1,Value.int IntKind.i64 N1,Value.int IntKind.i64 B1,Value.int IntKind.i64 M1,.slice o1 l1.length c1] 59)).alloc (Obj.cells #[Value.int IntKind.i64 A2,Value.int IntKind.i64 N2,Value.int IntKind.i64 B2,Value.int IntKind.i64 M2,.slice o2 l2.length c2] 59):=rfl
 clear hx1 hx2 hx1' hB1 hv1 hv2
 generalize (w.alloc (hkO ⟨A1,N1,B1,M1,l1⟩ (.slice o1 l1.length c1))).alloc (hkO ⟨A2,N2,B2,M2,l2⟩ (.slice o2 l2.length c2))=W at *
 have hW:=hW0.symm
 clear hW0
 have HN:Hid (¬ (A1=A2∧N1=N2∧B1=B2∧M1=M2∧l1.length=l2.length)→r=false):=(by
  intro h
  cases hr:r with
  | false=>rfl
  | true=>exact absurd (ZhT.1 (HR.out.1 hr)) (fun e=>h ⟨e.1,e.2.1,e.2.2.1,e.2.2.2.1,congrArg List.length e.2.2.2.2⟩))
 have HR2:Hid (A1=A2∧N1=N2∧B1=B2∧M1=M2→(r=true↔l1=l2)):=(by
  rintro⟨rfl,rfl,rfl,rfl⟩
  rw[HR.out,ZhT]
  simp)
 clear HR
 go_enter Tryz.func46,Tryz.ntmps46
 by_cases hA:A1=A2
 ·by_cases hN:N1=N2
  ·by_cases hB:B1=B2
   ·by_cases hM:M1=M2
    ·have HR3:Hid (r=true↔l1=l2):=HR2.out ⟨hA,hN,hB,hM⟩
     clear HR2
     subst hA hN hB hM
     by_cases hL:l1.length=l2.length
     ·rw[← hL] at y4 hm2 hW ⊢
      have HL:Hid (l1.length=l2.length):=hL
      clear hL HN
      go_wp2
      clear hW
      go_loopw [5] (fun iv wr=>∃ k m:Nat,k≤l1.length∧iv=.int .i64 (k:Int)∧wr=W.drewN m∧Hid (r=true↔l1.drop k=l2.drop k)) (fun iv _=>l1.length-(intOf iv).toNat)
      case atStart=>exact⟨0,0,Nat.zero_le _,by go_num,rfl,HR3⟩
      case round =>
       clear HR3
       obtain⟨k,m,hk,rfl,rfl,HD⟩:=hrel
       have x4':(W.drewN m).cell? ⟨w.heap.size,4,none⟩=some (.slice o1 l1.length c1):=x4
       have y4':(W.drewN m).cell? ⟨w.heap.size+1,4,none⟩=some (.slice o2 l1.length c2):=y4
       by_cases hlt:k<l1.length
       ·have hlt2:k<l2.length:=by have:=HL.out;omega
        obtain⟨b1,f1,rfl,_,hc1⟩:=HMk.at hm1 (by omega)
        obtain⟨b2,f2,rfl,_,hc2⟩:=HMk.at hm2 (by omega)
        obtain⟨s0,s1⟩:=hc1 k hlt
        obtain⟨t0,t1⟩:=hc2 k hlt2
        have hD:=HD.out
        rw[List.drop_eq_getElem_cons hlt,List.drop_eq_getElem_cons hlt2,List.cons.injEq] at hD
        obtain⟨q,hq⟩:∃ q,l1[k]=q:=⟨_,rfl⟩
        obtain⟨p,hp⟩:∃ p,l2[k]=p:=⟨_,rfl⟩
        rw[hq] at s0 s1 hD
        rw[hp] at t0 t1 hD
        obtain⟨sg,tx⟩:=q
        obtain⟨sg2,tx2⟩:=p
        dsimp only at s0 s1 t0 t1
        have HD2:Hid (r=true↔(⟨sg,tx⟩:Mk)=⟨sg2,tx2⟩∧l1.drop (k+1)=l2.drop (k+1)):=hD
        clear hc1 hc2 hq hp hD HD
        have i1:0≤(k:Int):=by omega
        have i2:(k:Int)<(l1.length:Int):=by omega
        by_cases hs:sg=sg2
        ·subst hs
         by_cases ht:tx=tx2
         ·subst ht
          have HD3:Hid (r=true↔l1.drop (k+1)=l2.drop (k+1)):=(by show _↔_;rw[HD2.out];simp)
          clear HD2
          go_wp2_with fail
          go_quiet (fail)
          go_wp2
          go_roundw
          case rel=>exact⟨k+1,_,by omega,by go_num,rfl,HD3⟩
          case measure=>simp[intOf];omega
         ·have r0:r=false:=(by
           cases hr:r with
           | false=>rfl
           | true=>exact absurd (HD2.out.1 hr).1 (fun e=>ht (by cases e;rfl)))
          subst r0
          have e2:(tx == tx2)=false:=beq_eq_false_iff_ne.2 ht
          clear HD2
          go_wp2_with fail
          go_quiet (fail)
          go_wp2
          go_ret
          exact⟨rfl,Below.dN (Below.dN hB2 _) _⟩
        ·have r0:r=false:=(by
          cases hr:r with
          | false=>rfl
          | true=>exact absurd (HD2.out.1 hr).1 (fun e=>hs (by cases e;rfl)))
         subst r0
         have e1:(sg == sg2)=false:=beq_eq_false_iff_ne.2 hs
         clear HD2
         go_wp2_with fail
         go_quiet (fail)
         go_wp2
         go_ret
         exact⟨rfl,Below.dN (Below.dN hB2 _) _⟩
       ·have hend:decide ((k:Int)<(l1.length:Int))=false:=decide_eq_false (by omega)
        have r1:r=true:=HD.out.2 (by rw[List.drop_eq_nil_of_le (by omega),List.drop_eq_nil_of_le (by have:=HL.out;omega)])
        subst r1
        go_wp2
        go_ret
        exact⟨rfl,Below.dN hB2 _⟩
     ·have r0:=HN.out (fun e=>hL e.2.2.2.2)
      subst r0
      have e5:((l1.length:Int) == (l2.length:Int))=false:=beq_eq_false_iff_ne.2 (by omega)
      go_wp2
      go_ret
      exact⟨rfl,hB2⟩
    ·have r0:=HN.out (fun e=>hM e.2.2.2.1)
     subst hA hN hB r0
     have e4:(M1 == M2)=false:=beq_eq_false_iff_ne.2 hM
     go_wp2
     go_ret
     exact⟨rfl,hB2⟩
   ·have r0:=HN.out (fun e=>hB e.2.2.1)
    subst hA hN r0
    have e3:(B1 == B2)=false:=beq_eq_false_iff_ne.2 hB
    go_wp2
    go_ret
    exact⟨rfl,hB2⟩
  ·have r0:=HN.out (fun e=>hN e.2.1)
   subst hA r0
   have e2:(N1 == N2)=false:=beq_eq_false_iff_ne.2 hN
   go_wp2
   go_ret
   exact⟨rfl,hB2⟩
 ·have r0:=HN.out (fun e=>hA e.1)
  subst r0
  have e1:(A1 == A2)=false:=beq_eq_false_iff_ne.2 hA
  go_wp2
  go_ret
  exact⟨rfl,hB2⟩
theorem Zip {h1 h2:Hk} {v1 v2:Value} {W u:World} {r:Bool} (hv1:HMk W v1 h1.ls) (hv2:HMk W v2 h2.ls) (hl:h1.ls.length≤1099511627776) (HR:Hid (r=true↔h1=h2)) (hL:Low W u):Calls Tryz.prog 46 (#[hkV h1 v1,hkV h2 v2]++#[]) u fun e w'=>∃ x,e=.returned x∧Low W w'∧x=.bool r:=by
 refine (Zpk h1 h2 v1 v2 u (HMk.keep hv1 hL (Nat.le_refl _)) (HMk.keep hv2 hL (Nat.le_refl _)) hl r HR).mono ?_
 rintro e w' ⟨rfl,hB⟩
 exact⟨_,rfl,hL.trans (hB.mono hL.size),rfl⟩
theorem Zpl (p1 p2:List (Hk × Value)) (v1 v2:Value) (w:World) (hv1:HHp w v1 p1) (hv2:HHp w v2 p2) (hok:HOw p1) (r:Bool) (HR:Hid (r=true↔p1.map (·.1)=p2.map (·.1))):Calls Tryz.prog 18 #[v1,v2] w fun e w'=>e=.returned (.bool r)∧Below w.heap.size w w':=by
 obtain⟨o1,c1,rfl⟩:=Holds.form hv1.row
 obtain⟨o2,c2,rfl⟩:=Holds.form hv2.row
 have hpl:p1.length≤1099511627776:=hok.1
 have HOK:Hid (HOw p1):=hok
 clear hok
 by_cases hl12:p2.length=p1.length
 ·have HL:Hid (p2.length=p1.length):=hl12
  rw[hl12] at hv2 ⊢
  clear hl12
  go_enter Tryz.func18,Tryz.ntmps18
  go_wp2
  go_loopw [5] (fun iv wr=>∃ k:Nat,k≤p1.length∧iv=.int .i64 (k:Int)∧Below w.heap.size w wr∧Hid (r=true↔(p1.map (·.1)).drop k=(p2.map (·.1)).drop k)) (fun iv _=>p1.length-(intOf iv).toNat)
  case atStart=>exact⟨0,Nat.zero_le _,by go_num,Below.refl _ _,HR⟩
  case round =>
   clear HR
   obtain⟨k,hk,rfl,hB,HD⟩:=hrel
   by_cases hlt:k<p1.length
   ·obtain⟨b1,f1,rfl,_,_⟩:=hv1.at (by omega)
    obtain⟨b2,f2,rfl,_,_⟩:=hv2.at (by have:=HL.out;omega)
    obtain⟨x,y,hxy⟩:∃ x y,p1[k]=(x,y):=⟨_,_,rfl⟩
    obtain⟨x',z,hxz⟩:∃ x z,p2[k]'(by have:=HL.out;omega)=(x,z):=⟨_,_,rfl⟩
    have hD:=HD.out
    have hlt2:k<p2.length:=(by have:=HL.out;omega)
    rw[List.drop_eq_getElem_cons (show k<(p1.map (·.1)).length by simpa using hlt),List.drop_eq_getElem_cons (show k<(p2.map (·.1)).length by simpa using hlt2),List.cons.injEq,List.getElem_map,List.getElem_map,hxy,hxz] at hD
    dsimp only at hD
    obtain⟨r2,HR2⟩:∃ r2:Bool,Hid (r2=true↔x=x'):=(by
     rcases Classical.em (x=x') with h | h
     ·exact⟨true,⟨fun _=>h,fun _=>rfl⟩⟩
     ·exact⟨false,⟨fun e=>absurd e (by simp),fun e=>absurd e h⟩⟩)
    have HD2:Hid (r=true↔x=x'∧(p1.map (·.1)).drop (k+1)=(p2.map (·.1)).drop (k+1)):=hD
    clear hD HD
    obtain⟨r1,hm1⟩:=hv1.take hB k hlt hxy
    obtain⟨r2,hm2⟩:=hv2.take hB k (by have:=HL.out;omega) hxz
    have hbd:=HOK.out.2 _ (List.getElem_mem hlt)
    rw[hxy] at hbd
    dsimp only at hbd
    obtain⟨yo,yc,rfl⟩:=hm1.form
    obtain⟨zo,zc,rfl⟩:=hm2.form
    have hr1:∀ u:World,Low wr u→HkAt u b1 (f1+k * 5) x (.slice yo x.ls.length yc):=fun u hu=>HkAt.low r1 hu
    have hr2:∀ u:World,Low wr u→HkAt u b2 (f2+k * 5) x' (.slice zo x'.ls.length zc):=fun u hu=>HkAt.low r2 hu
    have i1:0≤(k:Int):=by omega
    have i2:(k:Int)<(p1.length:Int):=by omega
    clear hxy hxz r1 r2
    go_wp2_with fail
    refine wp_region_noPanic ?_
    refine wp_region_held_drew (S:=fun u=>Low wr u) (by kernel_rfl) (Below.dN (Below.refl _ wr) 1) (fun hHeld=>?_)
    refine Y_t 0 17 _ (.slice (some ⟨b1,f1,none⟩) p1.length c1) rfl (Or.inl ⟨by kernel_rfl,fun u hu=>by kernel_rfl⟩) hHeld ?_
    simp only[Act.put,Y_a,Y_b,Y_c]
    refine Y_t 1 18 _ (.int .i64 (k:Int)) rfl (Or.inl ⟨by kernel_rfl,fun u hu=>by kernel_rfl⟩) hHeld ?_
    simp only[Act.put,Y_a,Y_b,Y_c]
    refine Y_t 2 19 _ (.pointer (some ⟨b1,f1+k * 5,none⟩)) rfl (Or.inl ⟨by kernel_rfl,fun u hu=>ZfB (c:=c1) hlt (.tmp 17) (.tmp 18) (by kernel_rfl) (by kernel_rfl) (by kernel_rfl)⟩) hHeld ?_
    simp only[Act.put,Y_a,Y_b,Y_c]
    refine Y_t 3 20 _ (hkV x (.slice yo x.ls.length yc)) rfl (Or.inl ⟨by kernel_rfl,fun u hu=>Zkx (hr1 u hu) (.tmp 19) (by kernel_rfl) (by kernel_rfl)⟩) hHeld ?_
    simp only[Act.put,Y_a,Y_b,Y_c]
    refine Y_t 4 21 _ (.slice (some ⟨b2,f2,none⟩) p1.length c2) rfl (Or.inl ⟨by kernel_rfl,fun u hu=>by kernel_rfl⟩) hHeld ?_
    simp only[Act.put,Y_a,Y_b,Y_c]
    refine Y_t 5 22 _ (.int .i64 (k:Int)) rfl (Or.inl ⟨by kernel_rfl,fun u hu=>by kernel_rfl⟩) hHeld ?_
    simp only[Act.put,Y_a,Y_b,Y_c]
    refine Y_t 6 23 _ (.pointer (some ⟨b2,f2+k * 5,none⟩)) rfl (Or.inl ⟨by kernel_rfl,fun u hu=>ZfB (c:=c2) hlt (.tmp 21) (.tmp 22) (by kernel_rfl) (by kernel_rfl) (by kernel_rfl)⟩) hHeld ?_
    simp only[Act.put,Y_a,Y_b,Y_c]
    refine Y_t 7 24 _ (hkV x' (.slice zo x'.ls.length zc)) rfl (Or.inl ⟨by kernel_rfl,fun u hu=>Zkx (hr2 u hu) (.tmp 23) (by kernel_rfl) (by kernel_rfl)⟩) hHeld ?_
    simp only[Act.put,Y_a,Y_b,Y_c]
    refine Y_e 8 25 _ rfl 46 (.func 46) #[.tmp 20,.tmp 24] #[59,59] (by kernel_rfl) #[] (by kernel_rfl) #[hkV x (.slice yo x.ls.length yc),hkV x' (.slice zo x'.ls.length zc)] (by kernel_rfl) (enters_of Tryz.func46 (by kernel_rfl) rfl) _ (Zip hm1 hm2 hbd HR2 hHeld) ?_
    rintro _ u8 hHeld rfl
    simp only[Act.put,Y_a,Y_b,Y_c]
    refine Y_t 9 26 _ (.bool (!r2)) rfl (Or.inl ⟨by kernel_rfl,fun u hu=>by kernel_rfl⟩) hHeld ?_
    simp only[Act.put,Y_a,Y_b,Y_c]
    refine wpAnyH_done (by kernel_rfl) ?_ _
    refine NoPanic.normal ?_
    have hB2:=hB.trans (Below.mono hHeld hB.size)
    cases hr2:r2 with
    | true =>
     have HD3:Hid (r=true↔(p1.map (·.1)).drop (k+1)=(p2.map (·.1)).drop (k+1)):=(by show _↔_;rw[HD2.out];simp[HR2.out.1 hr2])
     clear HD2 HR2
     subst hr2
     go_wp2
     exact⟨⟨k+1,by omega,by go_num,hB2,HD3⟩,by simp[intOf];omega⟩
    | false =>
     have r0:r=false:=(by
      cases hr:r with
      | false=>rfl
      | true=>exact absurd (HR2.out.2 (HD2.out.1 hr).1) (by simp[hr2]))
     clear HD2 HR2
     subst hr2 r0
     go_wp2
     go_ret
     exact⟨rfl,hB2⟩
   ·have hend:decide ((k:Int)<(p1.length:Int))=false:=decide_eq_false (by omega)
    have r1:r=true:=HD.out.2 (by rw[List.drop_eq_nil_of_le (by simp;omega),List.drop_eq_nil_of_le (by have:=HL.out;simp;omega)])
    subst r1
    go_wp2
    go_ret
    exact⟨rfl,hB⟩
 ·have r0:r=false:=(by
   cases hr:r with
   | false=>rfl
   | true=>exact absurd (by have:=congrArg List.length (HR.out.1 hr);simpa using this.symm) hl12)
  subst r0
  have e1:((p1.length:Int) == (p2.length:Int))=false:=beq_eq_false_iff_ne.2 (by omega)
  go_enter Tryz.func18,Tryz.ntmps18
  go_wp2
  go_ret
  exact⟨rfl,Below.refl _ _⟩
end

section
open Go.RowKit
theorem ZoU {a b c d:List UInt8} {x y:List Hk}:(⟨a,b,x⟩:Pth)=⟨c,d,y⟩↔a=c∧b=d∧x=y:=by
 constructor
 ·intro h
  injection h with h1 h2 h3
  exact⟨h1,h2,h3⟩
 ·rintro⟨rfl,rfl,rfl⟩
  rfl
theorem Zpm (p1 p2:Pth) (q1 q2:List (Hk × Value)) (H1:Hid (q1.map (·.1)=p1.hs)) (H2:Hid (q2.map (·.1)=p2.hs)) (v1 v2:Value) (w:World) (hv1:HHp w v1 q1) (hv2:HHp w v2 q2) (hok:HOw q1) (r:Bool) (HR:Hid (r=true↔p1=p2)) :
  Calls Tryz.prog 58 #[ptV p1 v1,ptV p2 v2] w fun e w'=>e=.returned (.bool r)∧Below w.heap.size w w':=by
 obtain⟨o1,n1,s1⟩:=p1
 obtain⟨o2,n2,s2⟩:=p2
 dsimp only at H1 H2
 obtain⟨lo1,lc1,rfl⟩:=Holds.form hv1.row
 obtain⟨lo2,lc2,rfl⟩:=Holds.form hv2.row
 rw[ZoU] at HR
 have hBa:Below w.heap.size w (w.alloc (.cells #[.string ⟨o1.toArray⟩,.string ⟨n1.toArray⟩,.slice lo1 q1.length lc1] 55)):=(Below.refl _ w).alloc (Nat.le_refl _) _
 have hBb:=hBa.alloc hBa.size (.cells #[.string ⟨o2.toArray⟩,.string ⟨n2.toArray⟩,.slice lo2 q2.length lc2] 55)
 have e1:ptV ⟨o1,n1,s1⟩ (.slice lo1 q1.length lc1)=.agg #[.string ⟨o1.toArray⟩,.string ⟨n1.toArray⟩,.slice lo1 q1.length lc1]:=rfl
 have e2:ptV ⟨o2,n2,s2⟩ (.slice lo2 q2.length lc2)=.agg #[.string ⟨o2.toArray⟩,.string ⟨n2.toArray⟩,.slice lo2 q2.length lc2]:=rfl
 rw[e1,e2]
 clear e1 e2
 by_cases h1:o1=o2
 ·subst h1
  by_cases h2:n1=n2
  ·subst h2
   have HRR:Hid (r=true↔q1.map (·.1)=q2.map (·.1)):=(by
    show (_↔_)
    rw[H1.out,H2.out]
    have h:=HR.out
    simpa using h)
   have hc:=Zpl q1 q2 _ _ _ (hv1.keep hBb (Nat.le_refl _)) (hv2.keep hBb (Nat.le_refl _)) hok r HRR
   clear HR HRR
   go_enter Tryz.func58,Tryz.ntmps58
   go_wp2_with fail
   refine hc.mono ?_
   rintro e w1 ⟨rfl,hB1⟩
   go_wp2
   go_ret
   exact⟨rfl,hBb.trans (hB1.mono hBb.size)⟩
  ·have HE:Hid (false=r):=(by
    cases r with
    | false=>rfl
    | true=>exact absurd (HR.out.1 rfl).2.1 h2)
   have j1:(n1 == n2)=false:=beq_eq_false_iff_ne.2 h2
   clear HR h2
   go_enter Tryz.func58,Tryz.ntmps58
   go_wp2
   go_ret
   exact⟨by rw[← HE.out];rfl,hBb⟩
 ·have HE:Hid (false=r):=(by
   cases r with
   | false=>rfl
   | true=>exact absurd (HR.out.1 rfl).1 h1)
  have j1:(o1 == o2)=false:=beq_eq_false_iff_ne.2 h1
  clear HR h1
  go_enter Tryz.func58,Tryz.ntmps58
  go_wp2
  go_ret
  exact⟨by rw[← HE.out];rfl,hBb⟩
end

section
open Go.RowKit
structure HPp (w:World) (v:Value) (F:List Pfd):Prop where
 row:Holds w v F.length (pxcells F)
 ins:∀ f∈F,f.hs.map (·.1)=f.x.hs∧HHp w f.v f.hs
theorem Pw.holds {w u:World} {v:Value} {F:List Pfd} (h:Pw w v F u):HPp u v F:=⟨holds_of h.own,fun f hf=>⟨(h.ins f hf).eq.symm,holds_of (h.ins f hf).own,fun y hy=>holds_of ((h.ins f hf).ins y hy)⟩⟩
theorem HPp.keep {w u:World} {v:Value} {F:List Pfd} (h:HPp w v F) (hb:Below w.heap.size w u):HPp u v F:=⟨Holds.keep h.row fun k hk=>hb.block k hk,fun f hf=>⟨(h.ins f hf).1,(h.ins f hf).2.keep hb (Nat.le_refl _)⟩⟩
theorem Zpc (F:List Pfd):(pxcells F).length=F.length * 3:=by
 induction F with
 | nil=>rfl
 | cons f F ih =>
  simp only[pxcells,List.flatMap_cons,List.length_append,List.length_cons] at ih ⊢
  rw[ih]
  simp[pxC]
  omega
theorem Zpb (F:List Pfd):∀ (k:Nat) (hk:k<F.length),(pxcells F)[k * 3]?=some (.string ⟨F[k].x.old.toArray⟩)∧(pxcells F)[k * 3+1]?=some (.string ⟨F[k].x.new.toArray⟩)∧(pxcells F)[k * 3+2]?=some F[k].v:=by
 induction F with
 | nil=>intro k hk;cases hk
 | cons f F ih =>
  intro k hk
  have e:pxcells (f::F)=pxC f++pxcells F:=by simp[pxcells]
  rw[e]
  cases k with
  | zero=>exact⟨rfl,rfl,rfl⟩
  | succ k =>
   obtain⟨h1,h2,h3⟩:=ih k (by simpa using hk)
   have e0:(k+1) * 3=3+k * 3:=by omega
   have l3:(pxC f).length=3:=rfl
   refine⟨?_,?_,?_⟩
   ·rw[e0,List.getElem?_append_right (by rw[l3];omega),l3,show 3+k * 3-3=k * 3 by omega];exact h1
   ·rw[e0,List.getElem?_append_right (by rw[l3];omega),l3,show 3+k * 3+1-3=k * 3+1 by omega];exact h2
   ·rw[e0,List.getElem?_append_right (by rw[l3];omega),l3,show 3+k * 3+2-3=k * 3+2 by omega];exact h3
theorem HPp.at {w:World} {ao:Option Addr} {n c:Nat} {F:List Pfd} (h:HPp w (.slice ao n c) F) (h0:0<F.length):∃ b off,ao=some ⟨b,off,none⟩∧b<w.heap.size ∧
  ∀ k (hk:k<F.length),w.cell? ⟨b,off+k * 3,none⟩=some (.string ⟨F[k].x.old.toArray⟩)∧w.cell? ⟨b,off+k * 3+1,none⟩=some (.string ⟨F[k].x.new.toArray⟩)∧w.cell? ⟨b,off+k * 3+2,none⟩=some F[k].v:=by
 obtain⟨b,off,c',hv,hb,hc⟩:=Holds.at h.row (by rw[Zpc];omega)
 cases hv
 refine⟨b,off,rfl,hb,fun k hk=>?_⟩
 obtain⟨h1,h2,h3⟩:=Zpb F k hk
 have hcc:∀ j u,(pxcells F)[j]?=some u→w.cell? ⟨b,off+j,none⟩=some u:=fun j u hj=>by
  obtain⟨hj1,hj2⟩:=List.getElem?_eq_some_iff.1 hj
  rw[hc j hj1,hj2]
 exact⟨hcc _ _ h1,by rw[Nat.add_assoc];exact hcc _ _ h2,by rw[Nat.add_assoc];exact hcc _ _ h3⟩
end

section
open Ln
theorem ZuL:Lib.itoa 1=[49]:=by
 simp[Lib.itoa]
 rw[Lib.decDigits]
 simp
end

section
open Ln
end

section
open Go.RowKit
theorem ZuN {F:List Pfd} {p0:Pth} (h:F.map (·.x)=[p0]):∃ f,F=[f]∧f.x=p0:=by
 match F,h with
 | [f],h =>
  simp at h
  exact⟨f,rfl,h⟩
theorem ZkB {u:World} {b f:Nat} {a0 a1:ByteArray} {o:Option Addr} {n c:Nat} (h0:u.cell? ⟨b,f,none⟩=some (.string a0)) (h1:u.cell? ⟨b,f+1,none⟩=some (.string a1)) (h2:u.cell? ⟨b,f+2,none⟩=some (.slice o n c)) {op:Oper} (x:Operand) (ho:op.op=.load 55 x) {ev:Operand→Value} (hx:ev x=.pointer (some ⟨b,f,none⟩)) :
  (execOp ev op).run Tryz.prog u=.ok (.value (.agg #[.string a0,.string a1,.slice o n c])) u:=by
 simp only[execOp,ho,hx]
 go_simp
end

section
open Ln
def ucT (p n:Int):List UInt8:=if n=1 then Lib.itoa p else Lib.itoa p++44::Lib.itoa n
def uhT (h:Hk):List UInt8:=[64,64,32,45]++(ucT h.A h.AN++([32,43]++(ucT h.B h.BN++[32,64,64])))
def umL (m:Mk):List (List UInt8):=lnL [UInt8.ofNat m.sg.toNat] m.tx
def uhL (h:Hk):List (List UInt8):=(uhT h++[10])::h.ls.flatMap umL
def upL (p:Pth):List (List UInt8):=if p.hs=[] then [] else ([45,45,45,32]++nameT p.old++[10])::([43,43,43,32]++nameT p.new++[10])::p.hs.flatMap uhL
def upT (p:Pth):List UInt8:=if wrgP p=0 then (upL p).flatten else []
def cutS (x:List UInt8):List UInt8→Option (List UInt8 × List UInt8)
 | []=>if x.isPrefixOf []=true then some ([],[]) else none
 | c::t=>if x.isPrefixOf (c::t)=true then some ([],(c::t).drop x.length) else match cutS x t with
  | none=>none
  | some (a,b)=>some (c::a,b)
def cntP (s:List UInt8):Option (Int × Int):=match spB isK s with
 | some (x,_,y)=>if Pn.parseE x=0∧Pn.parseE y=0 then some (Pn.parseV x,Pn.parseV y) else none
 | none=>if Pn.parseE s=0 then some (Pn.parseV s,1) else none
def tlB:List UInt8→Bool
 | []=>true
 | c::_=>c == 32
def uhdP (s:List UInt8):Option (Int × Int × Int × Int) :=
 if ([64,64,32,45]:List UInt8).isPrefixOf s=true then match cutS [32,43] (s.drop 4) with
  | none=>none
  | some (o,r)=>match cutS [32,64,64] r with
   | none=>none
   | some (f,t)=>if tlB t=true then match cntP o,cntP f with
    | some (A,AN),some (B,BN)=>some (A,AN,B,BN)
    | _,_=>none else none
 else none
def tkO (c:UInt8):Nat:=if c=43 then 0 else 1
def tkN (c:UInt8):Nat:=if c=45 then 0 else 1
def okC (c:UInt8):Bool:=c == 32 || c == 45 || c == 43
def uendB (c:UInt8) (a b:Nat):Bool:=(c == 43 || a == 0) && (c == 45 || b == 0)
def ulnP (a b p:Nat) (ls:List (List UInt8)):Except (Nat × Int) (Mk × Nat × List (List UInt8)) :=
 match nxt p ls with
 | .error e=>.error e
 | .ok ([],_)=>.error (p+1,3)
 | .ok (c::t,r)=>if okC c=true∧tkO c≤a∧tkN c≤b then
   if uendB c (a-tkO c) (b-tkN c)=true∧t≠[]∧pkM r=true then .ok (⟨c.toNat,t⟩,p+2,r.tail) else .ok (⟨c.toNat,t++[10]⟩,p+1,r)
  else .error (p+1,3)
def sgO (m:Mk):Nat:=if m.sg=43 then 0 else 1
def sgN (m:Mk):Nat:=if m.sg=45 then 0 else 1
def urdP:Nat→Nat→Nat→Nat→List (List UInt8)→Except (Nat × Int) (List Mk × Nat × List (List UInt8))
 | 0,_,_,p,ls=>.ok ([],p,ls)
 | n+1,a,b,p,ls=>if a+b=0 then .ok ([],p,ls) else match ulnP a b p ls with
  | .error e=>.error e
  | .ok (m,p1,r)=>match urdP n (a-sgO m) (b-sgN m) p1 r with
   | .error e=>.error e
   | .ok (l,p2,r2)=>.ok (m::l,p2,r2)
def smB (l:List Mk):Bool:=l.all fun m=>decide (m.sg=32)
def uhkP (k p:Nat) (ls:List (List UInt8)):Except (Nat × Int) (Hk × Nat × List (List UInt8)) :=
 match nxt p ls with
 | .error e=>.error e
 | .ok (s,r)=>match uhdP s with
  | none=>.error (p+1,3)
  | some (A,AN,B,BN)=>if 4096≤k then .error (p+1,9) else if A=0∧0<AN∨B=0∧0<BN then .error (p+1,2) else
   match urdP (AN.toNat+BN.toNat) AN.toNat BN.toNat (p+1) r with
   | .error e=>.error e
   | .ok (l,p1,r1)=>if smB l=true then .error (p+1,50) else .ok (⟨A,AN,B,BN,l⟩,p1,r1)
def pkU (x:List UInt8):List (List UInt8)→Bool
 | []=>false
 | s::_=>x.isPrefixOf s
def uhsP (x:List UInt8):Nat→Nat→Nat→List (List UInt8)→Except (Nat × Int) (List Hk × Nat × List (List UInt8))
 | 0,_,p,_=>.error (p+1,1)
 | f+1,k,p,ls=>match uhkP k p ls with
  | .error e=>.error e
  | .ok (h,p1,r)=>if pkU x r=true then match uhsP x f (k+1) p1 r with
    | .error e=>.error e
    | .ok (l,p2,r2)=>.ok (h::l,p2,r2)
   else .ok ([h],p1,r)
def upsP (x:List UInt8):Nat→Nat→Nat→List (List UInt8)→Except (Nat × Int) (List Pth)
 | 0,_,_,_=>.ok []
 | f+1,k,p,ls=>if ls=[] then .ok [] else match namP [45,45,45,32] p ls with
  | .error e=>.error e
  | .ok (n1,r1)=>if 64≤k then .error (p+1,9) else match namP [43,43,43,32] (p+1) r1 with
   | .error e=>.error e
   | .ok (n2,r2)=>match uhsP x (r2.length+1) 0 (p+2) r2 with
    | .error e=>.error e
    | .ok (hs,p3,r3)=>match upsP x f (k+1) p3 r3 with
     | .error e=>.error e
     | .ok l=>.ok (⟨n1,n2,hs⟩::l)
def unT (x t:List UInt8):Except (Nat × Int) (List Pth):=if 1048576<t.length then .error (0,9) else upsP x (splitL t).length 0 0 (splitL t)
def atR:List UInt8:=[64,64]
def atC:List UInt8:=[64,64,32,45]
end

section
open Ln
theorem Zet {d:UInt8} {x o:List UInt8} (ho:∀ c∈o,c≠d) (r:List UInt8):cutS (d::x) (o++((d::x)++r))=some (o,r):=by
 induction o with
 | nil =>
  show cutS (d::x) (d::(x++r))=some ([],r)
  unfold cutS
  rw[if_pos (by rw[List.isPrefixOf_iff_prefix];exact List.prefix_append (d::x) r)]
  simp
 | cons c o ih =>
  have hi:=ih fun y hy=>ho y (by simp[hy])
  show cutS (d::x) (c::(o++((d::x)++r)))=some (c::o,r)
  unfold cutS
  rw[if_neg,hi]
  have hc:=ho c (by simp)
  simp only[List.isPrefixOf,Bool.and_eq_true,beq_iff_eq]
  exact fun q=>hc q.1.symm
theorem Zte {p n:Int} (hp:0≤p) (hn:0≤n):∀ c∈ucT p n,numC c=true:=by
 unfold ucT
 split
 ·intro c hc
  simp[numC,Zja hp c hc]
 ·intro c hc
  rcases List.mem_append.1 hc with hc | hc
  ·simp[numC,Zja hp c hc]
  ·rcases List.mem_cons.1 hc with rfl | hc
   ·decide
   ·simp[numC,Zja hn c hc]
theorem ZmQ {c:UInt8} (h:numC c=true):c≠32:=by
 intro e
 subst e
 exact absurd h (by decide)
theorem ZdJ {p n:Int} (hp:0≤p) (hb:p≤2147483647) (hn:0≤n) (hm:n≤2147483647):cntP (ucT p n)=some (p,n):=by
 obtain⟨e1,e2⟩:=ZnZ hp hb
 obtain⟨e3,e4⟩:=ZnZ hn hm
 unfold ucT cntP
 by_cases h:n=1
 ·rw[if_pos h,ZrW fun c hc=>(Zff (Zja hp c hc)).2.1]
  simp only
  rw[if_pos e2,e1,h]
 ·rw[if_neg h,ZrV (fun c hc=>(Zff (Zja hp c hc)).2.1) rfl]
  simp only
  rw[if_pos ⟨e2,e4⟩,e1,e3]
theorem Zqa {h:Hk} (hr:rngB h=true):h.AN≤2147483647∧h.BN≤2147483647:=by
 simp[rngB,nat31] at hr
 omega
theorem Ztn {h:Hk} (hr:rngB h=true):uhdP (uhT h)=some (h.A,h.AN,h.B,h.BN):=by
 obtain⟨r1,r2,r3,r4,r5,r6,_⟩:=Zqd hr
 obtain⟨r7,r8⟩:=Zqa hr
 unfold uhdP
 have e:uhT h=[64,64,32,45]++(ucT h.A h.AN++([32,43]++(ucT h.B h.BN++[32,64,64]))):=rfl
 rw[if_pos (by rw[e,List.isPrefixOf_iff_prefix];exact List.prefix_append _ _)]
 have e4:(uhT h).drop 4=ucT h.A h.AN++([32,43]++(ucT h.B h.BN++[32,64,64])):=rfl
 rw[e4,Zet (fun c hc=>ZmQ (Zte r1 r3 c hc))]
 simp only
 have e5:ucT h.B h.BN++[32,64,64]=ucT h.B h.BN++([32,64,64]++[]):=by simp
 rw[e5,Zet (fun c hc=>ZmQ (Zte r4 r6 c hc))]
 simp only
 rw[if_pos (show tlB []=true from rfl),ZdJ r1 r2 r3 r7,ZdJ r4 r5 r6 r8]
theorem Zru {s:Int} (h:okS s=true):s=32∨s=45∨s=43:=by
 simp[okS] at h
 omega
theorem ZtM (l:List Mk) (hl:∀ m∈l,okS m.sg=true) {rest:List (List UInt8)} (hr:pkM rest=false):pkM (l.flatMap umL++rest)=false:=by
 cases l with
 | nil=>exact hr
 | cons m l =>
  have h:UInt8.ofNat m.sg.toNat≠92:=by
   rcases Zru (hl m (by simp)) with e | e | e<;>rw[e]<;>decide
  simp only[List.flatMap_cons,umL,lnL]
  split
  ·exact Zoo rfl h
  ·exact Zoo rfl h
theorem Zos {m:Mk} (h:okS m.sg=true) (l:List Mk):(pkL 43 (m::l)).length=sgO m+(pkL 43 l).length:=by
 unfold sgO
 simp only[pkL]
 by_cases e:m.sg=43
 ·rw[if_neg (fun q=>q.1 e),if_pos e]
  omega
 ·rw[if_pos ⟨e,h⟩,if_neg e,List.length_cons]
  omega
theorem Zot {m:Mk} (h:okS m.sg=true) (l:List Mk):(pkL 45 (m::l)).length=sgN m+(pkL 45 l).length:=by
 unfold sgN
 simp only[pkL]
 by_cases e:m.sg=45
 ·rw[if_neg (fun q=>q.1 e),if_pos e]
  omega
 ·rw[if_pos ⟨e,h⟩,if_neg e,List.length_cons]
  omega
theorem ZaC {m:Mk} {l:List Mk} (h:okS m.sg=true) (ha:abl (pkL 43 (m::l))=true):abl (pkL 43 l)=true∧(fdB m.tx=false→m.sg=43∨(pkL 43 l).length=0):=by
 simp only[pkL] at ha
 by_cases e:m.sg=43
 ·rw[if_neg (fun q=>q.1 e)] at ha
  exact⟨ha,fun _=>.inl e⟩
 ·rw[if_pos ⟨e,h⟩] at ha
  simp only[abl,Bool.and_eq_true,Bool.or_eq_true] at ha
  refine⟨ha.2,fun hf=>.inr ?_⟩
  rcases ha.1 with q | q
  ·simpa using q
  ·rw[hf] at q
   cases q
theorem ZaD {m:Mk} {l:List Mk} (h:okS m.sg=true) (ha:abl (pkL 45 (m::l))=true):abl (pkL 45 l)=true∧(fdB m.tx=false→m.sg=45∨(pkL 45 l).length=0):=by
 simp only[pkL] at ha
 by_cases e:m.sg=45
 ·rw[if_neg (fun q=>q.1 e)] at ha
  exact⟨ha,fun _=>.inl e⟩
 ·rw[if_pos ⟨e,h⟩] at ha
  simp only[abl,Bool.and_eq_true,Bool.or_eq_true] at ha
  refine⟨ha.2,fun hf=>.inr ?_⟩
  rcases ha.1 with q | q
  ·simpa using q
  ·rw[hf] at q
   cases q
theorem Zrv {m:Mk} (h:okS m.sg=true):okC (UInt8.ofNat m.sg.toNat)=true∧tkO (UInt8.ofNat m.sg.toNat)=sgO m∧tkN (UInt8.ofNat m.sg.toNat)=sgN m∧(((UInt8.ofNat m.sg.toNat).toNat:Nat):Int)=m.sg∧((UInt8.ofNat m.sg.toNat == 43)=decide (m.sg=43))∧((UInt8.ofNat m.sg.toNat == 45)=decide (m.sg=45))∧UInt8.ofNat m.sg.toNat≠10:=by
 unfold sgO sgN
 rcases Zru h with e | e | e<;>rw[e]<;>decide
theorem ZtI {m:Mk} (hl:linB m.tx=true) (hs:okS m.sg=true) {a b:Nat} (h43:fdB m.tx=false→m.sg=43∨a=0) (h45:fdB m.tx=false→m.sg=45∨b=0) (p:Nat) {R:List (List UInt8)} (hR:pkM R=false):ulnP (sgO m+a) (sgN m+b) p (umL m++R)=.ok (m,p+(umL m).length,R):=by
 obtain⟨t1,t2,t3,t4,t5,t6,_⟩:=Zrv hs
 obtain⟨l1,l2⟩:=Zkb hl
 unfold umL lnL ulnP
 generalize UInt8.ofNat m.sg.toNat=c at t1 t2 t3 t4 t5 t6 ⊢
 by_cases hf:fdB m.tx=true
 ·rw[if_pos hf]
  have e1:=ZfQ hf
  have e2:nxt p ([[c]++m.tx]++R)=.ok (c::m.tx.dropLast,R):=by
   have:=Znc (s:=c::m.tx.dropLast) p R
   rw[List.cons_append,← e1] at this
   exact this
  rw[e2]
  simp only
  rw[if_pos ⟨t1,by omega,by omega⟩,if_neg (fun q=>by rw[hR] at q;exact absurd q.2.2 (by decide)),← e1]
  have e3:(⟨(c.toNat:Int),m.tx⟩:Mk)=m:=by rw[t4]
  rw[e3]
  rfl
 ·rw[if_neg hf]
  have hf':fdB m.tx=false:=by simpa using hf
  have e2:nxt p ([[c]++m.tx++[10],markT]++R)=.ok (c::m.tx,markT::R):=Znc (s:=c::m.tx) p (markT::R)
  rw[e2]
  simp only
  have e4:uendB c (sgO m+a-tkO c) (sgN m+b-tkN c)=true:=by
   rw[t2,t3,Nat.add_sub_cancel_left,Nat.add_sub_cancel_left]
   unfold uendB
   rw[t5,t6]
   simp only[Bool.and_eq_true,Bool.or_eq_true,decide_eq_true_eq,beq_iff_eq]
   exact⟨h43 hf',h45 hf'⟩
  rw[if_pos ⟨t1,by omega,by omega⟩,if_pos ⟨e4,l1,rfl⟩]
  have e3:(⟨(c.toNat:Int),m.tx⟩:Mk)=m:=by rw[t4]
  rw[e3]
  rfl
theorem Zuk (l:List Mk):∀ (n p:Nat) (rest:List (List UInt8)),(∀ m∈l,linB m.tx=true∧okS m.sg=true)→abl (pkL 43 l)=true→abl (pkL 45 l)=true→(pkL 43 l).length+(pkL 45 l).length≤n→pkM rest=false→urdP n (pkL 43 l).length (pkL 45 l).length p (l.flatMap umL++rest)=.ok (l,p+(l.flatMap umL).length,rest):=by
 induction l with
 | nil =>
  intro n p rest _ _ _ _ _
  cases n with
  | zero=>rfl
  | succ n=>rfl
 | cons m l ih =>
  intro n p rest hl h43 h45 hn hr
  obtain⟨m1,m2⟩:=hl m (by simp)
  have hl2:∀ x∈l,linB x.tx=true∧okS x.sg=true:=fun x hx=>hl x (by simp[hx])
  obtain⟨a1,a2⟩:=ZaC m2 h43
  obtain⟨b1,b2⟩:=ZaD m2 h45
  have k43:=Zos m2 l
  have k45:=Zot m2 l
  have hs:1≤sgO m+sgN m:=by
   unfold sgO sgN
   by_cases e:m.sg=43
   ·rw[if_neg (by omega:¬ m.sg=45)]
    omega
   ·rw[if_neg e]
    omega
  cases n with
  | zero=>omega
  | succ n =>
   rw[k43,k45] at hn ⊢
   simp only[urdP,List.flatMap_cons,List.append_assoc]
   rw[if_neg (by omega),ZtI m1 m2 a2 b2 p (ZtM l (fun x hx=>(hl2 x hx).2) hr)]
   simp only
   rw[Nat.add_sub_cancel_left,Nat.add_sub_cancel_left,ih n _ rest hl2 a1 b1 (by omega) hr]
   simp only[List.length_append]
   congr 3
   omega
theorem ZcZ {h:Hk} (hc:chkH h=0):smB h.ls=false:=(ZcW hc).2.2.2.2
theorem Ztr {h:Hk} (hc:chkH h=0) {k:Nat} (hk:k<4096) (p:Nat) {rest:List (List UInt8)} (hr:pkM rest=false):uhkP k p (uhL h++rest)=.ok (h,p+(uhL h).length,rest):=by
 obtain⟨c1,c2,c3,c4,c5⟩:=ZcW hc
 obtain⟨r1,r2,r3,r4,r5,r6,r7,r8⟩:=Zqd c1
 obtain⟨f1,f2,f3⟩:=(Zgy h.ls).1 c2
 unfold uhkP uhL
 rw[List.cons_append,Znc]
 simp only
 rw[Ztn c1]
 simp only
 rw[if_neg (by omega),if_neg (by omega)]
 have e1:h.AN.toNat=(pkL 43 h.ls).length:=by
  have:h.AN=((pkL 43 h.ls).length:Int):=c3
  omega
 have e2:h.BN.toNat=(pkL 45 h.ls).length:=by
  have:h.BN=((pkL 45 h.ls).length:Int):=c4
  omega
 rw[e1,e2,Zuk h.ls _ (p+1) rest f1 f2 f3 (Nat.le_refl _) hr]
 simp only
 rw[if_neg (by rw[ZcZ hc];decide)]
 simp only[List.length_cons]
 congr 3
 omega
structure Gu (p:Pth):Prop where
 ne:p.hs≠[]
 old:p.old.length≤64
 new:p.new.length≤64
 few:p.hs.length≤4096
 gd:∀ h∈p.hs,chkH h=0
def Shw (x:List UInt8):Prop:=x=atR∨x=atC
theorem Ztl (h:Hk) (r:List (List UInt8)):pkM (uhL h++r)=false:=Zoo (c:=64) rfl (by decide)
theorem Ztm {x:List UInt8} (hx:Shw x) (h:Hk) (r:List (List UInt8)):pkU x (uhL h++r)=true:=by
 rcases hx with rfl | rfl<;>rfl
theorem Ztx {x:List UInt8} (hx:Shw x) (hs:List Hk):∀ (f k p:Nat) (rest:List (List UInt8)),hs≠[]→(∀ h∈hs,chkH h=0)→k+hs.length≤4096→hs.length≤f→pkM rest=false→pkU x rest=false→uhsP x f k p (hs.flatMap uhL++rest)=.ok (hs,p+(hs.flatMap uhL).length,rest):=by
 induction hs with
 | nil=>intro f k p rest h;exact absurd rfl h
 | cons h hs ih =>
  intro f k p rest _ hg hk hf hb hr
  cases f with
  | zero=>exact absurd hf (by simp)
  | succ f =>
   simp only[List.length_cons] at hk hf
   have hgh:=hg h (by simp)
   simp only[List.flatMap_cons,List.append_assoc,uhsP]
   cases hs with
   | nil =>
    simp only[List.flatMap_nil,List.nil_append,List.append_nil]
    rw[Ztr hgh (by omega) p hb]
    simp only
    rw[if_neg (by rw[hr];decide)]
   | cons h2 hs =>
    have hi:=ih f (k+1) (p+(uhL h).length) rest (by simp) (fun y hy=>hg y (by simp[hy])) (by omega) (by omega) hb hr
    have hb2:pkM ((h2::hs).flatMap uhL++rest)=false:=by
     rw[List.flatMap_cons,List.append_assoc]
     exact Ztl h2 _
    rw[Ztr hgh (by omega) p hb2]
    simp only
    have hp:pkU x ((h2::hs).flatMap uhL++rest)=true:=by
     rw[List.flatMap_cons,List.append_assoc]
     exact Ztm hx h2 _
    rw[if_pos hp,hi]
    simp only[List.length_append]
    congr 3
    omega
theorem ZtY {p:Pth} (h:p.hs≠[]):upL p=([45,45,45,32]++nameT p.old++[10])::([43,43,43,32]++nameT p.new++[10])::p.hs.flatMap uhL:=by
 unfold upL
 rw[if_neg h]
theorem Zue {x:List UInt8} (hx:Shw x) {L:List Pth} (h:∀ p∈L,Gu p):pkM (L.flatMap upL)=false∧pkU x (L.flatMap upL)=false:=by
 cases L with
 | nil=>exact⟨rfl,rfl⟩
 | cons p L =>
  rw[List.flatMap_cons,ZtY (h p (by simp)).ne]
  refine⟨rfl,?_⟩
  rcases hx with rfl | rfl<;>rfl
theorem Ztu (hs:List Hk):hs.length≤(hs.flatMap uhL).length:=by
 induction hs with
 | nil=>exact Nat.le_refl _
 | cons h hs ih =>
  simp only[List.flatMap_cons,List.length_append,List.length_cons]
  have:1≤(uhL h).length:=by simp[uhL]
  omega
theorem Zud {x:List UInt8} (hx:Shw x) (L:List Pth):∀ (f k p:Nat),(∀ q∈L,Gu q)→k+L.length≤64→L.length≤f→upsP x f k p (L.flatMap upL)=.ok L:=by
 induction L with
 | nil =>
  intro f k p _ _ _
  cases f with
  | zero=>rfl
  | succ f=>rfl
 | cons q L ih =>
  intro f k p hg hk hf
  cases f with
  | zero=>exact absurd hf (by simp)
  | succ f =>
   have g:=hg q (by simp)
   have hg2:∀ y∈L,Gu y:=fun y hy=>hg y (by simp[hy])
   simp only[List.length_cons] at hk hf
   simp only[List.flatMap_cons,upsP]
   rw[ZtY g.ne]
   rw[if_neg (by simp)]
   simp only[List.cons_append]
   have n1:=Zmc (ah:=[45,45,45,32]) g.old rfl p (([43,43,43,32]++nameT q.new++[10])::(q.hs.flatMap uhL++L.flatMap upL))
   have n2:=Zmc (ah:=[43,43,43,32]) g.new rfl (p+1) (q.hs.flatMap uhL++L.flatMap upL)
   simp only[List.cons_append,List.nil_append] at n1 n2 ⊢
   rw[n1]
   simp only
   rw[if_neg (by omega),n2]
   simp only
   obtain⟨b1,b2⟩:=Zue hx hg2
   rw[Ztx hx q.hs _ 0 (p+2) _ g.ne g.gd (by have:=g.few;omega) (by have:=Ztu q.hs;simp only[List.length_append];omega) b1 b2]
   simp only
   rw[ih f (k+1) _ hg2 (by omega) (by omega)]
theorem Zgc {h:Hk} (hc:chkH h=0):Fed (uhL h):=by
 obtain⟨c1,c2,c3,c4,c5⟩:=ZcW hc
 obtain⟨r1,r2,r3,r4,r5,r6,r7,r8⟩:=Zqd c1
 have f1:=((Zgy h.ls).1 c2).1
 unfold uhL
 refine ZfU ?_ ?_
 ·intro c hc
  unfold uhT at hc
  simp only[List.mem_append,List.mem_cons,List.not_mem_nil,or_false] at hc
  rcases hc with (rfl | rfl | rfl | rfl) | hc | (rfl | rfl) | hc | rfl | rfl | rfl
  all_goals first
   | decide
   | exact (ZmR (Zte r1 r3 c hc)).2.1
   | exact (ZmR (Zte r4 r6 c hc)).2.1
 ·intro s hs
  obtain⟨m,hm,hs⟩:=List.mem_flatMap.1 hs
  obtain⟨g1,g2⟩:=f1 m hm
  refine ZfW ?_ g1 s hs
  intro c hc
  rw[List.mem_singleton.1 hc]
  exact (Zrv g2).2.2.2.2.2.2
theorem Zgd {L:List Pth} (h:∀ p∈L,Gu p):Fed (L.flatMap upL):=by
 intro s hs
 obtain⟨p,hp,hs⟩:=List.mem_flatMap.1 hs
 have g:=h p hp
 rw[ZtY g.ne] at hs
 refine ZfU ?_ (ZfU ?_ ?_) s hs
 ·intro c hc
  rcases List.mem_append.1 hc with hc | hc
  ·exact (by decide:∀ c∈([45,45,45,32]:List UInt8),c≠10) c hc
  ·exact Zme _ c hc
 ·intro c hc
  rcases List.mem_append.1 hc with hc | hc
  ·exact (by decide:∀ c∈([43,43,43,32]:List UInt8),c≠10) c hc
  ·exact Zme _ c hc
 ·intro y hy
  obtain⟨k,hk,hy⟩:=List.mem_flatMap.1 hy
  exact Zgc (g.gd k hk) y hy
theorem ZtR {x:List UInt8} (hx:Shw x) {L:List Pth} (h:∀ p∈L,Gu p) (hn:L.length≤64) (hl:((L.flatMap upL).flatten).length≤1048576):unT x (L.flatMap upL).flatten=.ok L:=by
 unfold unT
 rw[if_neg (by omega),ZpN _ (ZfT (Zgd h))]
 refine Zud hx L _ 0 0 h (by omega) ?_
 clear hn hl
 induction L with
 | nil=>exact Nat.le_refl _
 | cons p L ih =>
  have:=ih fun y hy=>h y (by simp[hy])
  simp only[List.flatMap_cons,List.length_append,List.length_cons]
  rw[ZtY (h p (by simp)).ne]
  simp only[List.length_cons]
  omega
end

section
open Ln
theorem Znm {c:UInt8} (h:okC c=true):c=32∨c=45∨c=43:=by
 simp only[okC,Bool.or_eq_true,beq_iff_eq] at h
 rcases h with (h | h) | h
 ·exact .inl h
 ·exact .inr (.inl h)
 ·exact .inr (.inr h)
theorem ZsL {c:UInt8} (h:okC c=true) (t:List UInt8):okS (⟨c.toNat,t⟩:Mk).sg=true∧sgO ⟨c.toNat,t⟩=tkO c∧sgN ⟨c.toNat,t⟩=tkN c∧((c == 43)=decide (((c.toNat:Nat):Int)=43))∧((c == 45)=decide (((c.toNat:Nat):Int)=45)):=by
 unfold sgO sgN
 rcases Znm h with rfl | rfl | rfl<;>exact⟨rfl,rfl,rfl,rfl,rfl⟩
theorem ZtL {a b p p1:Nat} {ls r:List (List UInt8)} {m:Mk} (hP:Plain ls) (h:ulnP a b p ls=.ok (m,p1,r)):linB m.tx=true∧okS m.sg=true∧sgO m≤a∧sgN m≤b∧(fdB m.tx=false→(m.sg=43∨a-sgO m=0)∧(m.sg=45∨b-sgN m=0))∧Plain r∧ls.length+p=r.length+p1∧r.length<ls.length:=by
 unfold ulnP at h
 split at h
 ·cases h
 ·cases h
 ·rename_i c t r0 hn
  have hls:=Zne hn
  obtain⟨a1,a2⟩:=Znd hP hn
  have hct:∀ d∈t,d≠10:=by
   have h0:=hP ((c::t)++[10]) (by rw[hls];simp)
   rw[List.dropLast_concat] at h0
   exact fun d hd=>h0 d (by simp[hd])
  split at h
  ·rename_i hc
   obtain⟨hc1,hc2,hc3⟩:=hc
   split at h
   ·rename_i he
    cases h
    obtain⟨s1,s2,s3,s4,s5⟩:=ZsL hc1 t
    obtain⟨he1,he2,he3⟩:=he
    have hlen:r0.tail.length+1=r0.length:=by
     cases r0 with
     | nil=>exact absurd he3 (by decide)
     | cons=>simp
    refine⟨ZjZ hct he2,s1,by rw[s2];exact hc2,by rw[s3];exact hc3,fun _=>?_,fun y hy=>a2 y (List.mem_of_mem_tail hy),by omega,by omega⟩
    unfold uendB at he1
    rw[s4,s5] at he1
    simp only[Bool.and_eq_true,Bool.or_eq_true,decide_eq_true_eq,beq_iff_eq] at he1
    rw[s2,s3]
    exact he1
   ·cases h
    obtain⟨s1,s2,s3,s4,s5⟩:=ZsL hc1 (t++[10])
    refine⟨Zka hct,s1,by rw[s2];exact hc2,by rw[s3];exact hc3,fun hf=>?_,a2,by omega,by omega⟩
    rw[ZfR] at hf
    cases hf
  ·cases h
theorem Zum (n:Nat):∀ {a b p p1:Nat} {ls r:List (List UInt8)} {l:List Mk},Plain ls→a+b≤n→urdP n a b p ls=.ok (l,p1,r)→(∀ m∈l,linB m.tx=true∧okS m.sg=true)∧(pkL 43 l).length=a∧(pkL 45 l).length=b∧abl (pkL 43 l)=true∧abl (pkL 45 l)=true∧Plain r∧ls.length+p=r.length+p1∧r.length≤ls.length:=by
 induction n with
 | zero =>
  intro a b p p1 ls r l hP hn h
  simp only[urdP] at h
  cases h
  refine⟨fun m hm=>(by cases hm),?_,?_,rfl,rfl,hP,rfl,Nat.le_refl _⟩
  ·simp only[pkL,List.length_nil];omega
  ·simp only[pkL,List.length_nil];omega
 | succ n ih =>
  intro a b p p1 ls r l hP hn h
  simp only[urdP] at h
  split at h
  ·cases h
   refine⟨fun m hm=>(by cases hm),?_,?_,rfl,rfl,hP,rfl,Nat.le_refl _⟩
   ·simp only[pkL,List.length_nil];omega
   ·simp only[pkL,List.length_nil];omega
  ·split at h
   ·cases h
   ·rename_i m q1 r1 h1
    obtain⟨a1,a2,a3,a4,a5,a6,a7,a8⟩:=ZtL hP h1
    split at h
    ·cases h
    ·rename_i l2 q2 r2 h2
     have hs:1≤sgO m+sgN m:=by
      unfold sgO sgN
      by_cases e:m.sg=43
      ·rw[if_neg (by omega:¬ m.sg=45)]
       omega
      ·rw[if_neg e]
       omega
     obtain⟨b1,b2,b3,b4,b5,b6,b7,b8⟩:=ih a6 (by omega) h2
     cases h
     have k43:=Zos a2 l2
     have k45:=Zot a2 l2
     refine⟨?_,by omega,by omega,?_,?_,b6,by omega,by omega⟩
     ·intro x hx
      rcases List.mem_cons.1 hx with rfl | hx
      ·exact⟨a1,a2⟩
      ·exact b1 x hx
     ·simp only[pkL]
      split
      ·rename_i hq
       simp only[abl,Bool.and_eq_true,Bool.or_eq_true]
       refine⟨?_,b4⟩
       cases hf:fdB m.tx with
       | true=>exact .inr rfl
       | false =>
        rcases (a5 hf).1 with e | e
        ·exact absurd e hq.1
        ·left
         have:(pkL 43 l2).length=0:=by omega
         simpa using this
      ·exact b4
     ·simp only[pkL]
      split
      ·rename_i hq
       simp only[abl,Bool.and_eq_true,Bool.or_eq_true]
       refine⟨?_,b5⟩
       cases hf:fdB m.tx with
       | true=>exact .inr rfl
       | false =>
        rcases (a5 hf).2 with e | e
        ·exact absurd e hq.1
        ·left
         have:(pkL 45 l2).length=0:=by omega
         simpa using this
      ·exact b5
theorem ZdM {s:List UInt8} {q n:Int} (h:cntP s=some (q,n)):0≤q∧q≤2147483647∧0≤n∧n≤2147483647:=by
 unfold cntP at h
 split at h
 ·rename_i x c y _
  split at h
  ·cases h
   have h1:=ZoN (s:=x)
   have h2:=ZoN (s:=y)
   omega
  ·cases h
 ·split at h
  ·cases h
   have h1:=ZoN (s:=s)
   omega
  ·cases h
theorem Ztp {s:List UInt8} {A AN B BN:Int} (h:uhdP s=some (A,AN,B,BN)):(0≤A∧A≤2147483647∧0≤AN∧AN≤2147483647)∧(0≤B∧B≤2147483647∧0≤BN∧BN≤2147483647):=by
 unfold uhdP at h
 split at h
 ·split at h
  ·cases h
  ·split at h
   ·cases h
   ·split at h
    ·split at h
     ·rename_i h1 h2
      cases h
      exact⟨ZdM h1,ZdM h2⟩
     ·cases h
    ·cases h
 ·cases h
theorem Ztv {k p p1:Nat} {ls r:List (List UInt8)} {h:Hk} (hP:Plain ls) (hh:uhkP k p ls=.ok (h,p1,r)):chkH h=0∧Plain r∧ls.length+p=r.length+p1∧r.length<ls.length∧k<4096:=by
 unfold uhkP at hh
 split at hh
 ·cases hh
 ·rename_i s r0 hn
  obtain⟨a1,a2⟩:=Znd hP hn
  split at hh
  ·cases hh
  ·rename_i A AN B BN hd
   obtain⟨d1,d2⟩:=Ztp hd
   split at hh
   ·cases hh
   ·rename_i hk
    split at hh
    ·cases hh
    ·rename_i hz
     split at hh
     ·cases hh
     ·rename_i l q1 r1 h1
      obtain⟨b1,b2,b3,b4,b5,b6,b7,b8⟩:=Zum _ a2 (Nat.le_refl _) h1
      split at hh
      ·cases hh
      ·rename_i hs
       cases hh
       refine⟨?_,b6,by omega,by omega,by omega⟩
       have hfld:fldB l=true:=(Zgy l).2 ⟨b1,b4,b5⟩
       have hrng:rngB ⟨A,AN,B,BN,l⟩=true:=by
        simp only[rngB,nat31,Bool.and_eq_true,Bool.not_eq_true',Bool.and_eq_false_iff,decide_eq_true_eq,decide_eq_false_iff_not]
        omega
       unfold chkH
       rw[if_neg (by rw[hrng];decide),if_neg (by rw[hfld];decide),if_neg,if_neg (show ¬ ((l.all fun m=>decide (m.sg=32))=true) from hs)]
       show ¬ (AN≠((pkL 43 l).length:Int)∨BN≠((pkL 45 l).length:Int))
       omega
theorem Zuu {p:Pth} (g:Gu p):wrgP p=0:=by
 unfold wrgP
 have:=g.old
 have:=g.new
 have:=g.few
 rw[if_neg (by omega),if_neg (by omega)]
 exact ZeO g.gd
theorem Zug {L:List Pth} (h:∀ q∈L,Gu q):L.flatMap upT=(L.flatMap upL).flatten:=by
 induction L with
 | nil=>rfl
 | cons p L ih =>
  rw[List.flatMap_cons,List.flatMap_cons,List.flatten_append,ih fun x hx=>h x (by simp[hx])]
  unfold upT
  rw[if_pos (Zuu (h p (by simp)))]
/- by two bytes, or by four -/
end

section
open Ln
theorem Ztf {p n:Int} (hp:0≤p) (hb:p≤2147483647) (hn:0≤n) (hm:n≤2147483647):(ucT p n).length≤61:=by
 have r1:=Zjd p (by omega) (by omega)
 have r2:=Zjd n (by omega) (by omega)
 unfold ucT
 split
 ·omega
 ·simp only[List.length_append,List.length_cons]
  omega
theorem ZtO (l:List Mk):(l.flatMap umL).flatten.length≤31 * l.length+txS l:=by
 induction l with
 | nil=>exact Nat.le_refl _
 | cons m l ih =>
  have h1:=Zdr [UInt8.ofNat m.sg.toNat] m.tx
  simp only[List.flatMap_cons,List.flatten_append,List.length_append,List.length_cons,List.length_nil,txS,umL] at h1 ih ⊢
  omega
theorem Ztw {h:Hk} (hc:chkH h=0):(uhL h).flatten.length≤200+62 * h.ls.length+2 * txS h.ls:=by
 obtain⟨c1,_⟩:=ZcW hc
 obtain⟨r1,r2,r3,r4,r5,r6,_⟩:=Zqd c1
 obtain⟨r7,r8⟩:=Zqa c1
 have s1:=ZtO h.ls
 have s3:=Ztf r1 r2 r3 r7
 have s4:=Ztf r4 r5 r6 r8
 simp only[uhL,uhT,List.flatten_cons,List.length_append,List.length_cons,List.length_nil]
 omega
theorem Ztz {l:List Hk} (h:∀ x∈l,chkH x=0):(l.flatMap uhL).flatten.length≤hsS l:=by
 induction l with
 | nil=>exact Nat.le_refl _
 | cons x l ih =>
  have h1:=ih fun y hy=>h y (by simp[hy])
  have h2:=Ztw (h x (by simp))
  simp only[List.flatMap_cons,List.flatten_append,List.length_append,hsS]
  omega
theorem Zub {p:Pth} (h:∀ x∈p.hs,chkH x=0):(upL p).flatten.length≤32+3 * p.old.length+3 * p.new.length+hsS p.hs:=by
 unfold upL
 split
 ·exact Nat.zero_le _
 ·have h1:=Ztz h
  have h2:=Zmd p.old
  have h3:=Zmd p.new
  simp only[List.flatten_cons,List.length_append,List.length_cons,List.length_nil]
  omega
theorem ZtX (p:Pth):(upT p).length≤416+hsS p.hs:=by
 unfold upT
 split
 ·rename_i h
  obtain⟨h1,h2,_,h4⟩:=Zvf h
  have:=Zub h4
  omega
 ·exact Nat.zero_le _
end

section
open Go.RowKit Go.Proofs.YtgiojkhmkeocfaaGreatDoor.Tx
theorem Ztj (A N:Int) (h0:0≤A) (h1:A≤4611686018427387904) (h2:0≤N) (h3:N≤4611686018427387900) (w:World) (HT:Hid (Tab10 w)) (T:List UInt8) (HR:Hid (ucT A N=T)) :
  Calls Tryz.prog 121 #[.int .i64 A,.int .i64 N] w fun e w'=>e=.returned (.string ⟨T.toArray⟩)∧Below w.heap.size w w':=by
 have l1:=Zjd A (by omega) (by omega)
 have l2:=Zjd N (by omega) (by omega)
 by_cases hN:N=1
 ·have HE1:Hid (Lib.itoa A=T):=(by have h:=HR.out;unfold ucT at h;rw[if_pos hN] at h;exact h)
  have e1:(N == 1)=true:=beq_iff_eq.2 hN
  clear HR hN
  go_enter Tryz.func121,Tryz.ntmps121
  go_wp2_with fail
  refine (ZlY A (by omega) (by omega) _ HT).mono ?_
  rintro e w1 ⟨rfl,hb1⟩
  go_wp2
  go_ret
  exact⟨by rw[← HE1.out];rfl,hb1⟩
 ·have HE:Hid (Lib.itoa A++44::Lib.itoa N=T):=(by have h:=HR.out;unfold ucT at h;rw[if_neg hN] at h;exact h)
  have e1:(N == 1)=false:=beq_eq_false_iff_ne.2 hN
  clear HR hN
  have q1:=ZaJ (x:=Lib.itoa A) (y:=[44]) (by unfold Fits;simp only[List.length_cons,List.length_nil];omega) Tryz.prog
  have q2:=ZaJ (x:=Lib.itoa A++[44]) (y:=Lib.itoa N) (by unfold Fits;simp only[List.length_append,List.length_cons,List.length_nil];omega) Tryz.prog
  go_enter Tryz.func121,Tryz.ntmps121
  go_wp2_with fail
  refine (ZlY A (by omega) (by omega) _ HT).mono ?_
  rintro e w1 ⟨rfl,hb1⟩
  have HT1:Hid (Tab10 w1):=HT.out.on hb1
  go_wp2_with fail
  refine (ZlY N (by omega) (by omega) _ HT1).mono ?_
  rintro e w2 ⟨rfl,hb2⟩
  go_wp2
  go_ret
  exact⟨by rw[← HE.out];rfl,hb1.trans (hb2.mono hb1.size)⟩
theorem ZtT (l:List UInt8) (w:World) (hl:l.length≤1099511627776) (t:List UInt8) (HT:Hid (nameT l=t)) :
  Calls Tryz.prog 73 #[.string ⟨l.toArray⟩] w fun e w'=>e=.returned (.string ⟨t.toArray⟩)∧Below w.heap.size w w':=by
 go_enter Tryz.func73,Tryz.ntmps73
 go_wp2_with fail
 refine (ZdG l w hl t HT).mono ?_
 rintro e w1 ⟨rfl,hB⟩
 go_wp2
 go_ret
 exact⟨rfl,hB⟩
def Bu (B b:Nat) (v:Value) (acc:List UInt8) (w:World):Prop:=Bld 77 5 B b v (Lib.byteCells acc) w
theorem Bu.low {B b:Nat} {v:Value} {acc:List UInt8} {w w':World} (h:Bu B b v acc w) (hb:Below w.heap.size w w'):Bu B b v acc w':=Bld.kept h hb.block
theorem Bu.str {B b:Nat} {v:Value} {acc s Z:List UInt8} {w:World} (h:Bu B b v acc w) (hBw:B≤w.heap.size) (hZ:acc++s=Z) (hl:Z.length≤70368744177664) :
  Calls Tryz.prog 34 #[.pointer (some ⟨b,0,none⟩),.string ⟨s.toArray⟩] w fun e w'=>(∃ z,e=.returned (.tuple #[z,.nilIface]))∧∃ v',Bu B b v' Z w'∧Wr B b v v' w w':=by
 have hll:acc.length+s.length≤70368744177664:=by rw[← hZ,List.length_append] at hl;exact hl
 refine (ZbS ZjN B b v _ s w h (by rw[Zbk];omega) hBw).mono ?_
 rintro e w' ⟨rfl,v',q,hw⟩
 exact⟨⟨_,rfl⟩,v',by unfold Bu;rw[← hZ,Lib.byteCells_append];exact q,hw⟩
theorem ZeF {u:World} {a:Addr} {z:Int} (h:u.cell? a=some (.int .i64 z)) {op:Oper} (x:Operand) (ho:op.op=.load 3 x) {ev:Operand→Value} (hx:ev x=.pointer (some a)) :
  (execOp ev op).run Tryz.prog u=.ok (.value (.int .i64 z)) u:=by
 simp only[execOp,ho,hx]
 go_simp
theorem ZeE {x y z:List UInt8} (h:∀ u:World,(Op.stringOp .add ⟨x.toArray⟩ ⟨y.toArray⟩).run Tryz.prog u=.ok (.string ⟨z.toArray⟩) u) {u:World} {op:Oper} (a b:Operand) (ho:op.op=.binOp .add 9 a b 9) {ev:Operand→Value} (ha:ev a=.string ⟨x.toArray⟩) (hb:ev b=.string ⟨y.toArray⟩) :
  (execOp ev op).run Tryz.prog u=.ok (.value (.string ⟨z.toArray⟩)) u:=by
 simp only[execOp,ho,ha,hb]
 go_simp
theorem ZtN (m:Mk):(umL m).flatten=UInt8.ofNat m.sg.toNat::plT m.tx:=by
 unfold umL
 rw[ZoB]
 rfl
end

section
open Go.RowKit Go.Proofs.YtgiojkhmkeocfaaGreatDoor.Tx
theorem Zuv (B b:Nat) (v:Value) (h:Hk) (y:Value) (acc Z:List UInt8) (w:World) (hP:Bu B b v acc w) (hBw:B≤w.heap.size) (hll:h.ls.length≤1099511627776) (HTx:Hid (∀ m∈h.ls,m.tx.length≤1099511627776)) (HC:Hid (chkH h=0))
  (HL:Hid (∀ u,Below B w u→HMk u y h.ls)) (HT:Hid (∀ u,Below B w u→Tab10 u)) (HZ:Hid (acc++(uhL h).flatten=Z)) (hZ:Z.length≤70368744177664) :
  Calls Tryz.prog 74 #[.pointer (some ⟨b,0,none⟩),hkV h y] w fun e w'=>e=.returned (.tuple #[])∧∃ v',Bu B b v' Z w'∧Wr B b v v' w w':=by
 obtain⟨lo,lc,rfl⟩:=HMk.form (HL.out w (Below.refl _ _))
 have HSg:Hid (∀ m∈h.ls,okS m.sg=true):=ZcY HC.out
 have hr:=(ZcW HC.out).1
 obtain⟨r1,r2,r3,r4,r5,r6,rx⟩:=Zqd hr
 clear rx
 obtain⟨r7,r8⟩:=Zqa hr
 have s3:=Ztf r1 r2 r3 r7
 have s4:=Ztf r4 r5 r6 r8
 obtain⟨A,AN,Bn,BN,ls⟩:=h
 dsimp only at hll r1 r2 r3 r4 r5 r6 r7 r8 s3 s4 HTx HSg HL
 obtain⟨T1,hT1⟩:∃ T,ucT A AN=T:=⟨_,rfl⟩
 obtain⟨T2,hT2⟩:∃ T,ucT Bn BN=T:=⟨_,rfl⟩
 rw[hT1] at s3
 rw[hT2] at s4
 obtain⟨U1,hU1⟩:∃ T,[64,64,32,45]++T1=T:=⟨_,rfl⟩
 obtain⟨U2,hU2⟩:∃ T,U1++[32,43]=T:=⟨_,rfl⟩
 obtain⟨U3,hU3⟩:∃ T,U2++T2=T:=⟨_,rfl⟩
 obtain⟨U4,hU4⟩:∃ T,U3++[32,64,64]=T:=⟨_,rfl⟩
 obtain⟨U5,hU5⟩:∃ T,U4++[10]=T:=⟨_,rfl⟩
 have n1:=congrArg List.length hU1
 have n2:=congrArg List.length hU2
 have n3:=congrArg List.length hU3
 have n4:=congrArg List.length hU4
 have n5:=congrArg List.length hU5
 simp only[List.length_append,List.length_cons,List.length_nil] at n1 n2 n3 n4 n5
 have q1:=ZaJ (x:=[64,64,32,45]) (y:=T1) (by unfold Fits;simp only[List.length_cons,List.length_nil];omega) Tryz.prog
 have q2:=ZaJ (x:=U1) (y:=[32,43]) (by unfold Fits;simp only[List.length_cons,List.length_nil];omega) Tryz.prog
 have q3:=ZaJ (x:=U2) (y:=T2) (by unfold Fits;omega) Tryz.prog
 have q4:=ZaJ (x:=U3) (y:=[32,64,64]) (by unfold Fits;simp only[List.length_cons,List.length_nil];omega) Tryz.prog
 have q5:=ZaJ (x:=U4) (y:=[10]) (by unfold Fits;simp only[List.length_cons,List.length_nil];omega) Tryz.prog
 rw[hU1] at q1
 rw[hU2] at q2
 rw[hU3] at q3
 rw[hU4] at q4
 rw[hU5] at q5
 obtain⟨Z1,hZ1⟩:∃ T,acc++U5=T:=⟨_,rfl⟩
 have HZ1:Hid (acc++U5=Z1):=hZ1
 have HE:Hid (Z1++((ls.drop 0).flatMap umL).flatten=Z):=(by
  show _=_
  rw[← HZ.out,← hZ1,← hU5,← hU4,← hU3,← hU2,← hU1,← hT1,← hT2,List.drop_zero]
  simp[uhL,uhT])
 have hZ1l:Z1.length≤70368744177664:=(by have h:=congrArg List.length HE.out;rw[List.length_append] at h;omega)
 have HT1:Hid (ucT A AN=T1):=hT1
 have HT2:Hid (ucT Bn BN=T2):=hT2
 clear HZ hZ1 hU1 hU2 hU3 hU4 hU5 hT1 hT2 n1 n2 n3 n4 n5 hr
 have hBm:Below w.heap.size w (w.alloc (hkO ⟨A,AN,Bn,BN,ls⟩ (.slice lo ls.length lc))):=(Below.refl _ w).alloc (Nat.le_refl _) _
 have hMx:=Hx.new w ⟨A,AN,Bn,BN,ls⟩ (.slice lo ls.length lc)
 have hPm:=hP.low hBm
 have hWm:Wr B b v v w (w.alloc (hkO ⟨A,AN,Bn,BN,ls⟩ (.slice lo ls.length lc))):=Wr.low hBm hBw
 have hOff:Off w.heap.size b v:=⟨by have:=Bld.lt hP;omega,fun e=>by have:=(hP.2.2.1.lt _ e).2;omega⟩
 have e:hkV ⟨A,AN,Bn,BN,ls⟩ (.slice lo ls.length lc)=.agg #[.int .i64 A,.int .i64 AN,.int .i64 Bn,.int .i64 BN,.slice lo ls.length lc]:=rfl
 rw[e]
 unfold hkO at hBm hMx hPm hWm
 dsimp only at hBm hMx hPm hWm
 clear e hP
 go_enter Tryz.func74,Tryz.ntmps74
 go_upto_region 1 with fail
 generalize w.alloc (.cells #[.int .i64 A,.int .i64 AN,.int .i64 Bn,.int .i64 BN,.slice lo ls.length lc] 59)=Wm at hBm hMx hPm hWm ⊢
 generalize w.heap.size=M at hMx hOff ⊢
 refine wp_region_noPanic ?_
 have hwd:Below Wm.heap.size Wm Wm.drew:=(Below.refl _ Wm).drew
 refine wp_region_held_drew (S:=fun u=>Hx u M ⟨A,AN,Bn,BN,ls⟩ (.slice lo ls.length lc)) (by kernel_rfl) (hMx.low hwd) (fun hHeld=>?_)
 generalize Wm.drew=wd at hHeld hwd ⊢
 have cellsOf:=fun u (hu:Hx u M ⟨A,AN,Bn,BN,ls⟩ (.slice lo ls.length lc))=>hu.cells
 dsimp only at cellsOf
 refine Y_t 0 6 _ (.pointer (some ⟨b,0,none⟩)) rfl (Or.inl ⟨by kernel_rfl,fun u hu=>by kernel_rfl⟩) hHeld ?_
 simp only[Act.put,Y_a,Y_b,Y_c]
 refine Y_t 1 7 _ (.pointer (some ⟨M,0,none⟩)) rfl (Or.inl ⟨by kernel_rfl,fun u hu=>by kernel_rfl⟩) hHeld ?_
 simp only[Act.put,Y_a,Y_b,Y_c]
 refine Y_t 2 8 _ (.int .i64 A) rfl (Or.inl ⟨by kernel_rfl,fun u hu=>ZeF (cellsOf u hu).1 (.tmp 7) (by kernel_rfl) (by kernel_rfl)⟩) hHeld ?_
 simp only[Act.put,Y_a,Y_b,Y_c]
 refine Y_t 3 9 _ (.pointer (some ⟨M,1,none⟩)) rfl (Or.inl ⟨by kernel_rfl,fun u hu=>by kernel_rfl⟩) hHeld ?_
 simp only[Act.put,Y_a,Y_b,Y_c]
 refine Y_t 4 10 _ (.int .i64 AN) rfl (Or.inl ⟨by kernel_rfl,fun u hu=>ZeF (cellsOf u hu).2.1 (.tmp 9) (by kernel_rfl) (by kernel_rfl)⟩) hHeld ?_
 simp only[Act.put,Y_a,Y_b,Y_c]
 refine Y_t 8 14 _ (.pointer (some ⟨M,2,none⟩)) rfl (Or.inl ⟨by kernel_rfl,fun u hu=>by kernel_rfl⟩) hHeld ?_
 simp only[Act.put,Y_a,Y_b,Y_c]
 refine Y_t 9 15 _ (.int .i64 Bn) rfl (Or.inl ⟨by kernel_rfl,fun u hu=>ZeF (cellsOf u hu).2.2.1 (.tmp 14) (by kernel_rfl) (by kernel_rfl)⟩) hHeld ?_
 simp only[Act.put,Y_a,Y_b,Y_c]
 refine Y_t 10 16 _ (.pointer (some ⟨M,3,none⟩)) rfl (Or.inl ⟨by kernel_rfl,fun u hu=>by kernel_rfl⟩) hHeld ?_
 simp only[Act.put,Y_a,Y_b,Y_c]
 refine Y_t 11 17 _ (.int .i64 BN) rfl (Or.inl ⟨by kernel_rfl,fun u hu=>ZeF (cellsOf u hu).2.2.2.1 (.tmp 16) (by kernel_rfl) (by kernel_rfl)⟩) hHeld ?_
 simp only[Act.put,Y_a,Y_b,Y_c]
 have hBBm:∀ u,Below Wm.heap.size Wm u→Below B w u:=fun u hu=>hWm.below.trans (hu.mono (Nat.le_trans hBw hWm.size))
 refine Y_e 5 11 _ rfl 121 (.func 121) #[.tmp 8,.tmp 10] #[3,3] (by kernel_rfl) #[] (by kernel_rfl) #[.int .i64 A,.int .i64 AN] (by kernel_rfl) (enters_of Tryz.func121 (by kernel_rfl) rfl) (fun v2 u=>v2=.string ⟨T1.toArray⟩∧Below Wm.heap.size Wm u) ?_ ?_
 ·refine (Ztj A AN r1 (by omega) r3 (by omega) wd (HT.out wd (hBBm wd hwd)) T1 HT1).mono ?_
  rintro e u ⟨rfl,hu⟩
  exact⟨_,rfl,hHeld.low hu,rfl,hwd.trans (hu.mono hwd.size)⟩
 rintro _ w2 hw2 ⟨rfl,hb2⟩
 simp only[Act.put,Y_a,Y_b,Y_c]
 refine Y_t 6 12 _ (.string ⟨U1.toArray⟩) rfl (Or.inl ⟨by kernel_rfl,fun u hu=>ZeE q1 (.const (.string ⟨#[64,64,32,45]⟩)) (.tmp 11) (by kernel_rfl) (by kernel_rfl) (by kernel_rfl)⟩) hw2 ?_
 simp only[Act.put,Y_a,Y_b,Y_c]
 refine Y_t 7 13 _ (.string ⟨U2.toArray⟩) rfl (Or.inl ⟨by kernel_rfl,fun u hu=>ZeE q2 (.tmp 12) (.const (.string ⟨#[32,43]⟩)) (by kernel_rfl) (by kernel_rfl) (by kernel_rfl)⟩) hw2 ?_
 simp only[Act.put,Y_a,Y_b,Y_c]
 refine Y_e 12 18 _ rfl 121 (.func 121) #[.tmp 15,.tmp 17] #[3,3] (by kernel_rfl) #[] (by kernel_rfl) #[.int .i64 Bn,.int .i64 BN] (by kernel_rfl) (enters_of Tryz.func121 (by kernel_rfl) rfl) (fun v2 u=>v2=.string ⟨T2.toArray⟩∧Below Wm.heap.size Wm u) ?_ ?_
 ·refine (Ztj Bn BN r4 (by omega) r6 (by omega) w2 (HT.out w2 (hBBm w2 hb2)) T2 HT2).mono ?_
  rintro e u ⟨rfl,hu⟩
  exact⟨_,rfl,hw2.low hu,rfl,hb2.trans (hu.mono hb2.size)⟩
 rintro _ w3 hw3 ⟨rfl,hb3⟩
 simp only[Act.put,Y_a,Y_b,Y_c]
 refine Y_t 13 19 _ (.string ⟨U3.toArray⟩) rfl (Or.inl ⟨by kernel_rfl,fun u hu=>ZeE q3 (.tmp 13) (.tmp 18) (by kernel_rfl) (by kernel_rfl) (by kernel_rfl)⟩) hw3 ?_
 simp only[Act.put,Y_a,Y_b,Y_c]
 refine Y_t 14 20 _ (.string ⟨U4.toArray⟩) rfl (Or.inl ⟨by kernel_rfl,fun u hu=>ZeE q4 (.tmp 19) (.const (.string ⟨#[32,64,64]⟩)) (by kernel_rfl) (by kernel_rfl) (by kernel_rfl)⟩) hw3 ?_
 simp only[Act.put,Y_a,Y_b,Y_c]
 refine Y_t 15 21 _ (.string ⟨U5.toArray⟩) rfl (Or.inl ⟨by kernel_rfl,fun u hu=>ZeE q5 (.tmp 20) (.const (.string ⟨#[10]⟩)) (by kernel_rfl) (by kernel_rfl) (by kernel_rfl)⟩) hw3 ?_
 simp only[Act.put,Y_a,Y_b,Y_c]
 have hP3:=hPm.low hb3
 have hW3:Wr B b v v w w3:=hWm.trans (Wr.low hb3 (Nat.le_trans hBw hWm.size))
 refine Y_e 16 22 _ rfl 34 (.func 34) #[.tmp 6,.tmp 21] #[74,9] (by kernel_rfl) #[] (by kernel_rfl) #[.pointer (some ⟨b,0,none⟩),.string ⟨U5.toArray⟩] (by kernel_rfl) (enters_of Tryz.func34 (by kernel_rfl) rfl) (fun _ w4=>∃ v',Bu B b v' Z1 w4∧Wr B b v v' w w4) ?_ ?_
 ·refine (hP3.str (Nat.le_trans hBw hW3.size) HZ1.out hZ1l).mono ?_
  rintro e w4 ⟨⟨z,rfl⟩,v4,q4',hw4⟩
  exact⟨_,rfl,(hw3.wr hw4 hOff).1,v4,q4',hW3.trans hw4⟩
 rintro _ w4 hw4 ⟨v4,hP4,hW4⟩
 simp only[Act.put,Y_a,Y_b,Y_c]
 refine wpAnyH_done (by kernel_rfl) ?_ _
 refine NoPanic.normal ?_
 obtain⟨d0,d1,d2,d3,d4⟩:=hw4.cells
 clear q1 q2 q3 q4 q5 hHeld hwd cellsOf hb2 hw2 hb3 hP3 hW3 hPm hWm hMx hBm hOff hBBm HZ1 HT1 HT2 HT
 go_wp2
 clear d0 d1 d2 d3 d4
 go_loopw [26] (fun i wr=>∃ (k:Nat) (v1:Value) (ac:List UInt8),k≤ls.length∧i=.int .i64 k∧Bu B b v1 ac wr∧Wr B b v v1 w wr∧Hid (ac++((ls.drop k).flatMap umL).flatten=Z)) (fun i _=>ls.length-(intOf i).toNat)
 case atStart=>exact⟨0,v4,Z1,Nat.zero_le _,by go_num,hP4,hW4,HE⟩
 case round =>
 clear HE hP4 hW4 hw4
 obtain⟨k,v1,ac,hk,rfl,hP,hW,HI⟩:=hrel
 have hacl:ac.length≤70368744177664:=(by
  have h1:=congrArg List.length HI.out
  rw[List.length_append] at h1
  omega)
 by_cases hlt:k<ls.length
 ·have hml:=HL.out wr hW.below
  obtain⟨bk,off,rfl,hbk,hcl⟩:=HMk.at hml (by omega)
  obtain⟨m,hm⟩:∃ m,ls[k]=m:=⟨_,rfl⟩
  obtain⟨c0,c1⟩:=Low.mk (Below.refl _ wr) hml k hlt hm
  clear hcl
  have htx:=HTx.out m (by rw[← hm];exact List.getElem_mem hlt)
  have hsg:=Zru (HSg.out m (by rw[← hm];exact List.getElem_mem hlt))
  have h0:0≤m.sg:=by omega
  have h1:m.sg<256:=by omega
  have i1:(0:Int)≤(k:Int):=by omega
  have i2:(k:Int)<(ls.length:Int):=by omega
  obtain⟨T,hT⟩:∃ T,plT m.tx=T:=⟨_,rfl⟩
  have HTT:Hid (plT m.tx=T):=hT
  obtain⟨A1,hA1⟩:∃ Y,ac++[UInt8.ofNat m.sg.toNat]=Y:=⟨_,rfl⟩
  obtain⟨A2,hA2⟩:∃ Y,A1++T=Y:=⟨_,rfl⟩
  have HI2:Hid (A2++((ls.drop (k+1)).flatMap umL).flatten=Z):=(by
   show _=_
   rw[← HI.out,← hA2,← hA1,List.drop_eq_getElem_cons hlt,hm,List.flatMap_cons,List.flatten_append,ZtN,hT]
   simp)
  have hA2l:A2.length≤70368744177664:=(by have h:=congrArg List.length HI2.out;rw[List.length_append] at h;omega)
  have HA2:Hid (A1++T=A2):=hA2
  have HA1:Hid (Lib.byteCells ac++[.int .u8 m.sg]=Lib.byteCells A1):=(by
   show _=_
   rw[← hA1,Lib.byteCells_append,Zcq h0 h1])
  have hBm:Below wr.heap.size wr (wr.alloc (.cells #[.int .u8 m.sg,.string ⟨m.tx.toArray⟩] 103)):=(Below.refl _ wr).alloc (Nat.le_refl _) _
  have hMb:=heap_alloc_new wr (.cells #[.int .u8 m.sg,.string ⟨m.tx.toArray⟩] 103)
  have hOff:Off wr.heap.size b v1:=⟨by have:=Bld.lt hP;omega,fun e=>by have:=(hP.2.2.1.lt _ e).2;omega⟩
  have hPm:=hP.low hBm
  have hWm:=hW.trans (Wr.low hBm (Nat.le_trans hBw hW.size))
  have hbl:=Zbk ac
  clear hT hA1 hA2 hm HI hP hW hBm hml
  have hsz:B≤(wr.alloc (.cells #[.int .u8 m.sg,.string ⟨m.tx.toArray⟩] 103)).heap.size:=Nat.le_trans hBw hWm.size
  have hlen:(Lib.byteCells ac).length+1≤140737488355328:=by omega
  have hPb:Bld 77 5 B b v1 (Lib.byteCells ac) (wr.alloc (.cells #[.int .u8 m.sg,.string ⟨m.tx.toArray⟩] 103)):=hPm
  have hcb:=ZbL ZjN B b v1 (Lib.byteCells ac) m.sg _ hPb hlen hsz
  clear hPb hsz hlen
  go_wp2_with fail
  refine hcb.mono ?_
  rintro e w5 ⟨rfl,v5,q5,hw5⟩
  have hP5:Bu B b v5 A1 w5:=(by unfold Bu;rw[← HA1.out];exact q5)
  have hW5:=hWm.trans hw5
  obtain⟨hM5,hO5⟩:=hw5.block hMb hOff
  have m1:w5.cell? ⟨wr.heap.size,1,none⟩=some (.string ⟨m.tx.toArray⟩):=(by rw[Lib.cell_of_heap hM5];rfl)
  clear q5 hw5 hWm hPm hMb hOff c0 c1 hcb
  go_wp2_with fail
  refine (ZoF m.tx w5 htx T HTT).mono ?_
  rintro e w6 ⟨rfl,rfl⟩
  go_wp2_with fail
  refine (hP5.str (Nat.le_trans hBw hW5.size) HA2.out hA2l).mono ?_
  rintro e w7 ⟨⟨z,rfl⟩,v7,hP7,hw7⟩
  have hW7:=hW5.trans hw7
  clear m1 hP5 hW5 hw7 hM5 hO5
  go_wp2
  exact⟨⟨k+1,v7,A2,by omega,by go_num,hP7,hW7,HI2⟩,by simp[intOf];omega⟩
 ·have hend:decide ((k:Int)<(ls.length:Int))=false:=decide_eq_false (by omega)
  have HE:Hid (ac=Z):=(by
   have h:=HI.out
   rw[List.drop_of_length_le (by omega)] at h
   show _=_
   simpa using h)
  clear HI
  go_wp2
  first
   | go_end0
   | refine bodyPost_ret (results_none rfl _ _ _) rfl ?_
   | refine bodyPost_end (results_none rfl _ _ _) rfl ?_
  exact⟨rfl,v1,by rw[← HE.out];exact hP,hW⟩
end

section
open Go.RowKit Go.Proofs.YtgiojkhmkeocfaaGreatDoor.Tx
theorem Zta (p:Pth) (q:List (Hk × Value)) (HQ:Hid (q.map (·.1)=p.hs)) (v:Value) (w:World) (hv:HHp w v q) (hok:HOk q) (ho:p.old.length≤1099511627776) (hn:p.new.length≤1099511627776) (HT:Hid (Tab10 w)) (Z:List UInt8) (r:Int) (HR:Hid (wrgP p=r)) (HZ:Hid (upT p=Z)) (hZ:Z.length≤70368744177664) :
  Calls Tryz.prog 30 #[ptV p v] w fun e w'=>e=.returned (.tuple #[.string ⟨Z.toArray⟩,.int .i64 r])∧Below w.heap.size w w':=by
 obtain⟨lo,lc,rfl⟩:=Holds.form hv.row
 have HO:=fun h=>(Zvf (p:=p) h)
 obtain⟨old,new,hs⟩:=p
 dsimp only at HQ ho hn
 have hql:hs.length=q.length:=(by rw[← HQ.out,List.length_map])
 have hZZ:=HZ.out
 unfold upT at hZZ
 rw[HR.out] at hZZ
 have hBm:Below w.heap.size w (w.alloc (.cells #[.string ⟨old.toArray⟩,.string ⟨new.toArray⟩,.slice lo q.length lc] 55)):=(Below.refl _ w).alloc (Nat.le_refl _) _
 have hMx:Px (w.alloc (.cells #[.string ⟨old.toArray⟩,.string ⟨new.toArray⟩,.slice lo q.length lc] 55)) w.heap.size ⟨old,new,hs⟩ (.slice lo q.length lc):=heap_alloc_new w _
 have hvm:=hv.keep hBm (Nat.le_refl _)
 have hc:=Zcj ⟨old,new,hs⟩ q HQ (.slice lo q.length lc) _ hvm hok ho hn r HR
 have e:ptV ⟨old,new,hs⟩ (.slice lo q.length lc)=.agg #[.string ⟨old.toArray⟩,.string ⟨new.toArray⟩,.slice lo q.length lc]:=rfl
 rw[e] at hc ⊢
 obtain⟨d0,d1,d2⟩:=hMx.cells
 clear e hvm
 by_cases hr0:r=0
 ·subst hr0
  rw[if_pos rfl] at hZZ
  obtain⟨o1,o2,o3,o4⟩:=HO HR.out
  dsimp only at o1 o2 o3 o4
  have HCh:Hid (∀ x∈hs,chkH x=0):=o4
  clear o4 HO
  by_cases hq0:q.length=0
  ·have HE:Hid ([]=Z):=(by
    show _=_
    rw[← hZZ]
    have:hs=[]:=List.eq_nil_of_length_eq_zero (by omega)
    rw[this]
    rfl)
   have i1:((q.length:Int) == 0)=true:=(by rw[hq0];rfl)
   clear hZZ HZ hq0 hql
   go_enter Tryz.func30,Tryz.ntmps30
   go_wp2_with fail
   refine hc.mono ?_
   rintro e w1 ⟨rfl,hB1⟩
   have hM1:=hMx.low hB1
   clear d0 d1 d2
   obtain⟨d0,d1,d2⟩:=hM1.cells
   go_wp2
   go_ret2
   exact⟨by rw[← HE.out];rfl,hBm.trans (hB1.mono hBm.size)⟩
  ·have hne:hs≠[]:=(by intro e;rw[e] at hql;simp at hql;omega)
   rw[ZtY (p:=⟨old,new,hs⟩) hne] at hZZ
   dsimp only at hZZ
   obtain⟨N1,hN1⟩:∃ Y,nameT old=Y:=⟨_,rfl⟩
   obtain⟨N2,hN2⟩:∃ Y,nameT new=Y:=⟨_,rfl⟩
   obtain⟨U1,hU1⟩:∃ Y,[45,45,45,32]++N1=Y:=⟨_,rfl⟩
   obtain⟨U2,hU2⟩:∃ Y,[43,43,43,32]++N2=Y:=⟨_,rfl⟩
   obtain⟨V1,hV1⟩:∃ Y,U1++[10]=Y:=⟨_,rfl⟩
   obtain⟨V2,hV2⟩:∃ Y,U2++[10]=Y:=⟨_,rfl⟩
   obtain⟨Z1,hZ1⟩:∃ Y,[]++V1=Y:=⟨_,rfl⟩
   obtain⟨Z2,hZ2⟩:∃ Y,Z1++V2=Y:=⟨_,rfl⟩
   have HE:Hid (Z2++(((q.map (·.1)).drop 0).flatMap uhL).flatten=Z):=(by
    show _=_
    rw[← hZZ,← hZ2,← hZ1,← hV1,← hV2,← hU1,← hU2,hN1,hN2,HQ.out,List.drop_zero]
    simp)
   have hE:=congrArg List.length HE.out
   have l2:=congrArg List.length hZ2
   have l1:=congrArg List.length hZ1
   simp only[List.length_append] at hE l2 l1
   have b2:Z2.length≤70368744177664:=by omega
   have b1:Z1.length≤70368744177664:=by omega
   have n1:=Zmd old
   have n2:=Zmd new
   rw[hN1] at n1
   rw[hN2] at n2
   have q1:=ZaJ (x:=[45,45,45,32]) (y:=N1) (by unfold Fits;simp only[List.length_cons,List.length_nil];omega) Tryz.prog
   have q2:=ZaJ (x:=[43,43,43,32]) (y:=N2) (by unfold Fits;simp only[List.length_cons,List.length_nil];omega) Tryz.prog
   rw[hU1] at q1
   rw[hU2] at q2
   have u1:=congrArg List.length hU1
   have u2:=congrArg List.length hU2
   simp only[List.length_append,List.length_cons,List.length_nil] at u1 u2
   have q3:=ZaJ (x:=U1) (y:=[10]) (by unfold Fits;simp only[List.length_cons,List.length_nil];omega) Tryz.prog
   have q4:=ZaJ (x:=U2) (y:=[10]) (by unfold Fits;simp only[List.length_cons,List.length_nil];omega) Tryz.prog
   rw[hV1] at q3
   rw[hV2] at q4
   have HN1:Hid (nameT old=N1):=hN1
   have HN2:Hid (nameT new=N2):=hN2
   have HZ1:Hid ([]++V1=Z1):=hZ1
   have HZ2:Hid (Z1++V2=Z2):=hZ2
   have HZne:Hid (Z≠[]):=(by
    intro e
    have h:=congrArg List.length e
    have h2:=congrArg List.length hV1
    simp only[List.length_append,List.length_cons,List.length_nil] at h h2
    omega)
   have i1:((q.length:Int) == 0)=false:=beq_eq_false_iff_ne.2 (by omega)
   have hq4:q.length≤4096:=by omega
   clear hZZ HZ hq0 hql hE l1 l2 n1 n2 hN1 hN2 hU1 hU2 hV1 hV2 hZ1 hZ2 hne o3 u1 u2
   go_enter Tryz.func30,Tryz.ntmps30
   go_wp2_with fail
   refine hc.mono ?_
   rintro e w1 ⟨rfl,hB1⟩
   have hM1:=hMx.low hB1
   have hBw1:=hBm.trans (hB1.mono hBm.size)
   clear d0 d1 d2 hBm hMx hB1 hc
   have hM2:=hM1.low ((Below.refl _ w1).alloc (Nat.le_refl _) (.cells #[.pointer none,.slice none 0 0] 77))
   have hBw2:=hBw1.alloc hBw1.size (.cells #[.pointer none,.slice none 0 0] 77)
   have hP2:Bu w.heap.size w1.heap.size (.slice none 0 0) [] (w1.alloc (.cells #[.pointer none,.slice none 0 0] 77)):=⟨hBw1.size,⟨_,.inl rfl,heap_alloc_new w1 _⟩,World.ownsRowF_nil _ _ _ _,by simp[Value.ownBlock]⟩
   have hO2:Off w.heap.size w1.heap.size (.slice none 0 0):=⟨by have:=hM1.lt;omega,by simp[Value.ownBlock]⟩
   obtain⟨f0,f1,f2⟩:=hM1.cells
   obtain⟨d0,d1,d2⟩:=hM2.cells
   go_wp2_with fail
   refine (ZtT old _ ho N1 HN1).mono ?_
   generalize w1.alloc (.cells #[.pointer none,.slice none 0 0] 77)=W2 at hM2 hBw2 hP2 d0 d1 d2 ⊢
   generalize w1.heap.size=b at hP2 hO2 ⊢
   rintro e w3 ⟨rfl,hB3⟩
   have hM3:=hM2.low hB3
   have hP3:=hP2.low hB3
   have hBw3:=hBw2.trans (hB3.mono hBw2.size)
   clear d0 d1 d2 f0 f1 f2 hM2 hP2 hBw2 hB3 hM1 hBw1
   go_wp2_with fail
   refine (hP3.str hBw3.size HZ1.out b1).mono ?_
   rintro e w4 ⟨⟨z4,rfl⟩,v4,hP4,hW4⟩
   obtain⟨hM4,hO4⟩:=hM3.wr hW4 hO2
   have hBw4:=hBw3.trans hW4.below
   obtain⟨d0,d1,d2⟩:=hM4.cells
   clear hM3 hP3 hBw3 hO2 hW4
   go_wp2_with fail
   refine (ZtT new _ hn N2 HN2).mono ?_
   rintro e w5 ⟨rfl,hB5⟩
   have hM5:=hM4.low hB5
   have hP5:=hP4.low hB5
   have hBw5:=hBw4.trans (hB5.mono hBw4.size)
   clear d0 d1 d2 hM4 hP4 hBw4 hB5
   go_wp2_with fail
   refine (hP5.str hBw5.size HZ2.out b2).mono ?_
   rintro e w6 ⟨⟨z6,rfl⟩,v6,hP6,hW6⟩
   obtain⟨hM6,hO6⟩:=hM5.wr hW6 hO4
   have hBw6:=hBw5.trans hW6.below
   obtain⟨d0,d1,d2⟩:=hM6.cells
   clear hM5 hP5 hBw5 hO4 hW6 q1 q2 q3 q4 HZ1 HZ2 HN1 HN2
   go_wp2
   go_loopw [32] (fun i wr=>∃ (k:Nat) (v1:Value) (ac:List UInt8),k≤q.length∧i=.int .i64 k∧Bu w.heap.size b v1 ac wr∧Below w.heap.size w wr∧Hid (ac++(((q.map (·.1)).drop k).flatMap uhL).flatten=Z)) (fun i _=>q.length-(intOf i).toNat)
   case atStart=>exact⟨0,v6,Z2,Nat.zero_le _,by go_num,hP6,hBw6,HE⟩
   case round =>
   clear HE hP6 hBw6 hM6 hO6 d0 d1 d2
   obtain⟨k,v1,ac,hk,rfl,hP,hB,HI⟩:=hrel
   by_cases hlt:k<q.length
   ·obtain⟨bk,off,rfl,hbk,_⟩:=hv.at (by omega)
    obtain⟨h,y,hx⟩:∃ h y,q[k]=(h,y):=⟨_,_,rfl⟩
    obtain⟨⟨c0,c1,c2,c3,c4⟩,hm⟩:=HHp.take hv hB k hlt hx
    obtain⟨x1,x2⟩:=hok.2 q[k] (List.getElem_mem hlt)
    have hins:=hv.ins q[k] (List.getElem_mem hlt)
    have hch:=HCh.out q[k].1 (by rw[← HQ.out];exact List.mem_map_of_mem (List.getElem_mem hlt))
    rw[hx] at x1 x2 hins hch
    dsimp only at x1 x2 hins hch
    have HI2:=HI.out
    rw[List.drop_eq_getElem_cons (show k<(q.map (·.1)).length by rw[List.length_map];exact hlt),List.getElem_map,hx,List.flatMap_cons,List.flatten_append,← List.append_assoc] at HI2
    dsimp only at HI2
    obtain⟨A2,hA2⟩:∃ Y,ac++(uhL h).flatten=Y:=⟨_,rfl⟩
    rw[hA2] at HI2
    have HI3:Hid (A2++(((q.map (·.1)).drop (k+1)).flatMap uhL).flatten=Z):=HI2
    have hAl:A2.length≤70368744177664:=(by have:=congrArg List.length HI2;rw[List.length_append] at this;omega)
    have i4:(0:Int)≤(k:Int):=by omega
    have i5:(k:Int)<(q.length:Int):=by omega
    have hBn:Below wr.heap.size wr (wr.alloc (.cells #[.int .i64 h.A,.int .i64 h.AN,.int .i64 h.B,.int .i64 h.BN,y] 59)):=(Below.refl _ wr).alloc (Nat.le_refl _) _
    have hBm:=hB.trans (hBn.mono hB.size)
    have hPm:=hP.low hBn
    have hc:=Zuv w.heap.size b v1 h y ac A2 _ hPm hBm.size x1 x2 hch (fun u hu=>hins.keep (hBm.trans hu) (Nat.le_refl _)) (fun u hu=>HT.out.on (hBm.trans hu)) hA2 hAl
    obtain⟨yo,yc,rfl⟩:=HMk.form hm
    have e:hkV h (.slice yo h.ls.length yc)=.agg #[.int .i64 h.A,.int .i64 h.AN,.int .i64 h.B,.int .i64 h.BN,.slice yo h.ls.length yc]:=rfl
    rw[e] at hc
    clear e HI HI2 hx hm hins hch hA2
    go_wp2_with fail
    refine hc.mono ?_
    rintro e w7 ⟨rfl,v7,hP7,hW7⟩
    go_wp2
    exact⟨⟨k+1,v7,A2,by omega,by go_num,hP7,hBm.trans hW7.below,HI3⟩,by simp[intOf];omega⟩
   ·have hend:decide ((k:Int)<(q.length:Int))=false:=decide_eq_false (by omega)
    have hE:ac=Z:=(by
     have h:=HI.out
     rw[List.drop_of_length_le (by rw[List.length_map];omega)] at h
     simpa using h)
    subst hE
    clear HI
    go_wp2_with fail
    refine (ZbT w.heap.size b v1 ac HZne.out wr hP).mono ?_
    rintro e w7 ⟨rfl,hB7⟩
    go_wp2
    go_ret2
    exact⟨rfl,hB.trans hB7⟩
 ·rw[if_neg hr0] at hZZ
  have HE:Hid ([]=Z):=hZZ
  have e1:(r != 0)=true:=bne_iff_ne.2 hr0
  clear hZZ HZ HO hr0
  go_enter Tryz.func30,Tryz.ntmps30
  go_wp2_with fail
  refine hc.mono ?_
  rintro e w1 ⟨rfl,hB1⟩
  go_wp2
  go_ret2
  exact⟨by rw[← HE.out];rfl,hBm.trans (hB1.mono hBm.size)⟩
end

section
open Ln
def wkP6:Pth:=⟨[97],[98],[⟨1,2,1,1,[⟨32,[49,10]⟩,⟨45,[50]⟩]⟩]⟩
def wkT6:List UInt8:=[45,45,45,32,97,10,43,43,43,32,98,10,64,64,32,45,49,44,50,32,43,49,32,64,64,10,32,49,10,45,50,10,92,32,78,111,32,110,101,119,108,105,110,101,32,97,116,32,101,110,100,32,111,102,32,102,105,108,101,10]
theorem ZuI:wrgP wkP6=0:=by decide
theorem ZuM:Lib.itoa 2=[50]:=by
 simp[Lib.itoa]
 rw[Lib.decDigits]
 simp
theorem ZuH:upT wkP6=wkT6:=by
 have h1:ucT 1 2=[49,44,50]:=by
  unfold ucT
  rw[if_neg (by decide),ZuL,ZuM]
  rfl
 have h2:ucT 1 1=[49]:=by
  unfold ucT
  rw[if_pos rfl,ZuL]
 unfold upT
 rw[if_pos ZuI]
 unfold upL
 rw[if_neg (by decide)]
 have hn:∀ c:UInt8,c=97∨c=98→nameT [c]=[c]:=by
  rintro c (rfl | rfl)<;>decide
 have hk:∀ h:Hk,uhL h=(uhT h++[10])::h.ls.flatMap umL:=fun _=>rfl
 have ht:∀ h:Hk,uhT h=[64,64,32,45]++(ucT h.A h.AN++([32,43]++(ucT h.B h.BN++[32,64,64]))):=fun _=>rfl
 show List.flatten (([45,45,45,32]++nameT [97]++[10])::([43,43,43,32]++nameT [98]++[10])::(uhL ⟨1,2,1,1,[⟨32,[49,10]⟩,⟨45,[50]⟩]⟩++[]))=wkT6
 rw[hn 97 (.inl rfl),hn 98 (.inr rfl),hk,ht]
 dsimp only
 rw[h1,h2]
 decide
theorem ZuF:Gu wkP6:=by
 refine⟨by decide,by decide,by decide,by decide,?_⟩
 intro h hh
 rw[List.mem_singleton.1 hh]
 decide
theorem ZuG:unT atC wkT6=.ok [wkP6]:=by
 have hl:[wkP6].flatMap upT=wkT6:=by
  show upT wkP6++[]=wkT6
  rw[List.append_nil,ZuH]
 have h1:∀ q∈[wkP6],Gu q:=fun q hq=>by rw[List.mem_singleton.1 hq];exact ZuF
 rw[Zug h1] at hl
 have:=ZtR (.inr rfl) h1 (by simp) (by rw[hl];decide)
 rw[hl] at this
 exact this
end

end Go.Proofs.YtgiojkhmkeocfaaGreatDoor
