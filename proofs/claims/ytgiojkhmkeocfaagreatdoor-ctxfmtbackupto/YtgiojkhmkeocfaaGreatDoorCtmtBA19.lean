/-
  Texts that belong together, joined: CwI, NpT, CrS, CpQ, CpW, CpX, CpY, HuC3, HuWk, NpV, NpW.
-/
import Derived.Test.YtgiojkhmkeocfaaGreatDoorCtmtBA18
import Derived.Test.YtgiojkhmkeocfaaGreatDoorCtmtBA4
import Derived.Test.YtgiojkhmkeocfaaGreatDoorCtmtBA12
import Derived.Test.YtgiojkhmkeocfaaGreatDoorCtmtBA13
import Derived.Test.YtgiojkhmkeocfaaGreatDoorCtmtBA5
import Derived.Test.YtgiojkhmkeocfaaGreatDoorCtmtBA6
import Derived.Test.YtgiojkhmkeocfaaGreatDoorProg
import Derived.WalkKit
import Derived.LaidEql
import Derived.Stop.Asserts
import Derived.RowKitTokens

set_option maxHeartbeats 16000000
set_option maxRecDepth 100000
namespace Go.Proofs.YtgiojkhmkeocfaaGreatDoor

section
open Go.RowKit Go.Proofs.YtgiojkhmkeocfaaGreatDoor.Tx
def ptV (p:Pth) (v:Value):Value:=.agg #[.string ⟨p.old.toArray⟩,.string ⟨p.new.toArray⟩,v]
def ptO (p:Pth) (v:Value):Obj:=.cells #[.string ⟨p.old.toArray⟩,.string ⟨p.new.toArray⟩,v] 55
def Px (u:World) (b:Nat) (p:Pth) (v:Value):Prop:=u.heap[b]?=some (ptO p v)
theorem Px.cells {u:World} {b:Nat} {p:Pth} {v:Value} (q:Px u b p v):u.cell? ⟨b,0,none⟩=some (.string ⟨p.old.toArray⟩)∧u.cell? ⟨b,1,none⟩=some (.string ⟨p.new.toArray⟩)∧u.cell? ⟨b,2,none⟩=some v:=by
 unfold Px ptO at q
 refine⟨?_,?_,?_⟩<;>rw[Lib.cell_of_heap q]<;>rfl
theorem Px.lt {u:World} {b:Nat} {p:Pth} {v:Value} (q:Px u b p v):b<u.heap.size:=(Array.getElem?_eq_some_iff.1 q).1
theorem Px.low {u u':World} {b:Nat} {p:Pth} {v:Value} (q:Px u b p v) (hg:Below u.heap.size u u'):Px u' b p v:=(hg.block b q.lt).trans q
theorem Px.wr {B b:Nat} {v v':Value} {w w':World} {M:Nat} {p:Pth} {y:Value} (q:Px w M p y) (hw:Wr B b v v' w w') (ho:Off M b v):Px w' M p y∧Off M b v':=hw.block q ho
theorem ccheckP_f (p:Pth) (q:List (Hk × Value)) (HQ:Hid (q.map (·.1)=p.hs)) (v:Value) (w:World) (hv:HHp w v q) (hok:HOk q) (ho:p.old.length≤1099511627776) (hn:p.new.length≤1099511627776) (r:Int) (HR:Hid (wrgP p=r)) :
  Calls Tryz.prog 64 #[ptV p v] w fun e w'=>e=.returned (.int .i64 r)∧Below w.heap.size w w':=by
 obtain⟨lo,lc,rfl⟩:=Holds.form hv.row
 obtain⟨old,new,hs⟩:=p
 dsimp only at HQ ho hn
 have hql:hs.length=q.length:=(by rw[← HQ.out,List.length_map])
 have HRR:=HR.out
 unfold wrgP at HRR
 dsimp only at HRR
 have hBm:Below w.heap.size w (w.alloc (.cells #[.string ⟨old.toArray⟩,.string ⟨new.toArray⟩,.slice lo q.length lc] 55)):=(Below.refl _ w).alloc (Nat.le_refl _) _
 have e:ptV ⟨old,new,hs⟩ (.slice lo q.length lc)=.agg #[.string ⟨old.toArray⟩,.string ⟨new.toArray⟩,.slice lo q.length lc]:=rfl
 rw[e]
 clear e HR
 by_cases h1:64<old.length∨64<new.length
 ·rw[if_pos h1] at HRR
  have HE:Hid (253=r):=HRR
  clear HRR hql
  by_cases h2:64<old.length
  ·have i1:(64:Int)<(old.length:Int):=by omega
   go_enter Tryz.func64,Tryz.ntmps64
   go_wp2
   go_ret
   exact⟨by rw[← HE.out];rfl,hBm⟩
  ·have i1:¬ (64:Int)<(old.length:Int):=by omega
   have i2:(64:Int)<(new.length:Int):=by omega
   go_enter Tryz.func64,Tryz.ntmps64
   go_wp2
   go_ret
   exact⟨by rw[← HE.out];rfl,hBm⟩
 ·rw[if_neg h1] at HRR
  have i1:¬ (64:Int)<(old.length:Int):=by omega
  have i2:¬ (64:Int)<(new.length:Int):=by omega
  by_cases h2:4096<hs.length
  ·rw[if_pos h2] at HRR
   have HE:Hid (9=r):=HRR
   have i3:(4096:Int)<(q.length:Int):=by omega
   clear HRR hql
   go_enter Tryz.func64,Tryz.ntmps64
   go_wp2
   go_ret
   exact⟨by rw[← HE.out];rfl,hBm⟩
  ·rw[if_neg h2] at HRR
   have HE:Hid (errs ((q.map (·.1)).drop 0)=r):=(by show _=_;rw[HQ.out,List.drop_zero];exact HRR)
   have i3:¬ (4096:Int)<(q.length:Int):=by omega
   have hq4:q.length≤4096:=by omega
   clear HRR hql h1 h2
   go_enter Tryz.func64,Tryz.ntmps64
   go_wp2
   go_loopw [23] (fun i wr=>∃ k:Nat,k≤q.length∧i=.int .i64 k∧Below w.heap.size w wr∧Hid (errs ((q.map (·.1)).drop k)=r)) (fun i _=>q.length-(intOf i).toNat)
   case atStart=>exact⟨0,Nat.zero_le _,by go_num,hBm,HE⟩
   case round =>
   clear HE hBm
   obtain⟨k,hk,rfl,hB,HI⟩:=hrel
   by_cases hlt:k<q.length
   ·obtain⟨bk,off,rfl,hbk,_⟩:=hv.at (by omega)
    obtain⟨h,y,hx⟩:∃ h y,q[k]=(h,y):=⟨_,_,rfl⟩
    obtain⟨⟨c0,c1,c2,c3,c4⟩,hm⟩:=HHp.take hv hB k hlt hx
    obtain⟨o1,o2⟩:=hok.2 q[k] (List.getElem_mem hlt)
    rw[hx] at o1 o2
    dsimp only at o1 o2
    have HI2:=HI.out
    rw[errs_drop (by rw[List.length_map];exact hlt),List.getElem_map,hx] at HI2
    dsimp only at HI2
    have i4:(0:Int)≤(k:Int):=by omega
    have i5:(k:Int)<(q.length:Int):=by omega
    obtain⟨z,hz⟩:∃ z,chkH h=z:=⟨_,rfl⟩
    rw[hz] at HI2
    have hBm:=hB.alloc hB.size (.cells #[.int .i64 h.A,.int .i64 h.AN,.int .i64 h.B,.int .i64 h.BN,y] 59)
    have hmm:=hm.keep ((Below.refl _ wr).alloc (Nat.le_refl _) (.cells #[.int .i64 h.A,.int .i64 h.AN,.int .i64 h.B,.int .i64 h.BN,y] 59)) (Nat.le_refl _)
    have hc:=hCheck_f h y _ hmm o1 o2 z hz
    obtain⟨yo,yc,rfl⟩:=HMk.form hm
    have e:hkV h (.slice yo h.ls.length yc)=.agg #[.int .i64 h.A,.int .i64 h.AN,.int .i64 h.B,.int .i64 h.BN,.slice yo h.ls.length yc]:=rfl
    rw[e] at hc
    clear e hz HI hx hm hmm
    by_cases hz0:z=0
    ·subst hz0
     rw[if_neg (by decide)] at HI2
     have HI3:Hid (errs ((q.map (·.1)).drop (k+1))=r):=HI2
     clear HI2
     go_wp2_with fail
     refine hc.mono ?_
     rintro e w1 ⟨rfl,hB1⟩
     go_wp2
     exact⟨⟨k+1,by omega,by go_num,hBm.trans (hB1.mono hBm.size),HI3⟩,by simp[intOf];omega⟩
    ·rw[if_pos hz0] at HI2
     have HI3:Hid (z=r):=HI2
     have e1:(z != 0)=true:=bne_iff_ne.2 hz0
     clear HI2 hz0
     go_wp2_with fail
     refine hc.mono ?_
     rintro e w1 ⟨rfl,hB1⟩
     go_wp2
     go_ret
     exact⟨by rw[← HI3.out];rfl,hBm.trans (hB1.mono hBm.size)⟩
   ·have hend:decide ((k:Int)<(q.length:Int))=false:=decide_eq_false (by omega)
    have HE:Hid (0=r):=(by
     have h:=HI.out
     rw[List.drop_of_length_le (by rw[List.length_map];omega)] at h
     exact h)
    clear HI
    go_wp2
    go_ret
    exact⟨by rw[← HE.out];rfl,hB⟩
theorem cPrint_f (p:Pth) (q:List (Hk × Value)) (HQ:Hid (q.map (·.1)=p.hs)) (v:Value) (w:World) (hv:HHp w v q) (hok:HOk q) (ho:p.old.length≤1099511627776) (hn:p.new.length≤1099511627776) (HT:Hid (Tab10 w)) (Z:List UInt8) (r:Int) (HR:Hid (wrgP p=r)) (HZ:Hid (ptT p=Z)) (hZ:Z.length≤70368744177664) :
  Calls Tryz.prog 25 #[ptV p v] w fun e w'=>e=.returned (.tuple #[.string ⟨Z.toArray⟩,.int .i64 r])∧Below w.heap.size w w':=by
 obtain⟨lo,lc,rfl⟩:=Holds.form hv.row
 have HO:=fun h=>(wrg_out (p:=p) h)
 obtain⟨old,new,hs⟩:=p
 dsimp only at HQ ho hn
 have hql:hs.length=q.length:=(by rw[← HQ.out,List.length_map])
 have hZZ:=HZ.out
 unfold ptT at hZZ
 rw[HR.out] at hZZ
 have hBm:Below w.heap.size w (w.alloc (.cells #[.string ⟨old.toArray⟩,.string ⟨new.toArray⟩,.slice lo q.length lc] 55)):=(Below.refl _ w).alloc (Nat.le_refl _) _
 have hMx:Px (w.alloc (.cells #[.string ⟨old.toArray⟩,.string ⟨new.toArray⟩,.slice lo q.length lc] 55)) w.heap.size ⟨old,new,hs⟩ (.slice lo q.length lc):=heap_alloc_new w _
 have hvm:=hv.keep hBm (Nat.le_refl _)
 have hc:=ccheckP_f ⟨old,new,hs⟩ q HQ (.slice lo q.length lc) _ hvm hok ho hn r HR
 have e:ptV ⟨old,new,hs⟩ (.slice lo q.length lc)=.agg #[.string ⟨old.toArray⟩,.string ⟨new.toArray⟩,.slice lo q.length lc]:=rfl
 rw[e] at hc ⊢
 obtain⟨d0,d1,d2⟩:=hMx.cells
 clear e hvm
 by_cases hr0:r=0
 ·subst hr0
  rw[if_pos rfl] at hZZ
  obtain⟨o1,o2,o3,o4⟩:=HO HR.out
  dsimp only at o1 o2 o3 o4
  have HCh:Hid (∀ x∈hs,chkH x=0):=o4
  clear o4 HO
  by_cases hq0:q.length=0
  ·have HE:Hid ([]=Z):=(by
    show _=_
    rw[← hZZ]
    have:hs=[]:=List.eq_nil_of_length_eq_zero (by omega)
    rw[this]
    rfl)
   have i1:((q.length:Int) == 0)=true:=(by rw[hq0];rfl)
   clear hZZ HZ hq0 hql
   go_enter Tryz.func25,Tryz.ntmps25
   go_wp2_with fail
   refine hc.mono ?_
   rintro e w1 ⟨rfl,hB1⟩
   have hM1:=hMx.low hB1
   clear d0 d1 d2
   obtain⟨d0,d1,d2⟩:=hM1.cells
   go_wp2
   go_ret2
   exact⟨by rw[← HE.out];rfl,hBm.trans (hB1.mono hBm.size)⟩
  ·have hne:hs≠[]:=(by intro e;rw[e] at hql;simp at hql;omega)
   rw[pt_lines (p:=⟨old,new,hs⟩) hne] at hZZ
   dsimp only at hZZ
   obtain⟨N1,hN1⟩:∃ Y,nameT old=Y:=⟨_,rfl⟩
   obtain⟨N2,hN2⟩:∃ Y,nameT new=Y:=⟨_,rfl⟩
   obtain⟨U1,hU1⟩:∃ Y,[42,42,42,32]++N1=Y:=⟨_,rfl⟩
   obtain⟨U2,hU2⟩:∃ Y,[45,45,45,32]++N2=Y:=⟨_,rfl⟩
   obtain⟨Z1,hZ1⟩:∃ Y,[]++U1++[10]=Y:=⟨_,rfl⟩
   obtain⟨Z2,hZ2⟩:∃ Y,Z1++U2++[10]=Y:=⟨_,rfl⟩
   have HE:Hid (Z2++(((q.map (·.1)).drop 0).flatMap hkL).flatten=Z):=(by
    show _=_
    rw[← hZZ,← hZ2,← hZ1,← hU1,← hU2,hN1,hN2,HQ.out,List.drop_zero]
    simp)
   have hE:=congrArg List.length HE.out
   have l2:=congrArg List.length hZ2
   have l1:=congrArg List.length hZ1
   simp only[List.length_append] at hE l2 l1
   have b2:Z2.length≤70368744177664:=by omega
   have b1:Z1.length≤70368744177664:=by omega
   have n1:=name_len old
   have n2:=name_len new
   rw[hN1] at n1
   rw[hN2] at n2
   have q1:=add_fits (x:=[42,42,42,32]) (y:=N1) (by unfold Fits;simp only[List.length_cons,List.length_nil];omega) Tryz.prog
   have q2:=add_fits (x:=[45,45,45,32]) (y:=N2) (by unfold Fits;simp only[List.length_cons,List.length_nil];omega) Tryz.prog
   rw[hU1] at q1
   rw[hU2] at q2
   have HN1:Hid (nameT old=N1):=hN1
   have HN2:Hid (nameT new=N2):=hN2
   have HZ1:Hid ([]++U1++[10]=Z1):=hZ1
   have HZ2:Hid (Z1++U2++[10]=Z2):=hZ2
   have HZne:Hid (Z≠[]):=(by
    intro e
    have h:=congrArg List.length e
    have h2:=congrArg List.length hU1
    simp only[List.length_append,List.length_cons,List.length_nil] at h h2
    omega)
   have i1:((q.length:Int) == 0)=false:=beq_eq_false_iff_ne.2 (by omega)
   have hq4:q.length≤4096:=by omega
   clear hZZ HZ hq0 hql hE l1 l2 n1 n2 hN1 hN2 hU1 hU2 hZ1 hZ2 hne o3
   go_enter Tryz.func25,Tryz.ntmps25
   go_wp2_with fail
   refine hc.mono ?_
   rintro e w1 ⟨rfl,hB1⟩
   have hM1:=hMx.low hB1
   have hBw1:=hBm.trans (hB1.mono hBm.size)
   clear d0 d1 d2 hBm hMx hB1 hc
   have hM2:=hM1.low ((Below.refl _ w1).alloc (Nat.le_refl _) (.cells #[.pointer none,.slice none 0 0] 121))
   have hBw2:=hBw1.alloc hBw1.size (.cells #[.pointer none,.slice none 0 0] 121)
   have hP2:Pg w.heap.size w1.heap.size (.slice none 0 0) [] (w1.alloc (.cells #[.pointer none,.slice none 0 0] 121)):=⟨hBw1.size,⟨_,.inl rfl,heap_alloc_new w1 _⟩,World.ownsRowF_nil _ _ _ _,by simp[Value.ownBlock]⟩
   have hO2:Off w.heap.size w1.heap.size (.slice none 0 0):=⟨by have:=hM1.lt;omega,by simp[Value.ownBlock]⟩
   obtain⟨f0,f1,f2⟩:=hM1.cells
   obtain⟨d0,d1,d2⟩:=hM2.cells
   go_wp2_with fail
   refine (cname_f old _ ho N1 HN1).mono ?_
   generalize w1.alloc (.cells #[.pointer none,.slice none 0 0] 121)=W2 at hM2 hBw2 hP2 d0 d1 d2 ⊢
   generalize w1.heap.size=b at hP2 hO2 ⊢
   rintro e w3 ⟨rfl,hB3⟩
   have hM3:=hM2.low hB3
   have hP3:=hP2.low hB3
   have hBw3:=hBw2.trans (hB3.mono hBw2.size)
   clear d0 d1 d2 f0 f1 f2 hM2 hP2 hBw2 hB3 hM1 hBw1
   go_wp2_with fail
   refine (crow_f w.heap.size b (.slice none 0 0) [] U1 Z1 w3 hP3 hBw3.size HZ1 b1).mono ?_
   rintro e w4 ⟨rfl,v4,hP4,hW4⟩
   obtain⟨hM4,hO4⟩:=hM3.wr hW4 hO2
   have hBw4:=hBw3.trans hW4.below
   obtain⟨d0,d1,d2⟩:=hM4.cells
   clear hM3 hP3 hBw3 hO2 hW4
   go_wp2_with fail
   refine (cname_f new _ hn N2 HN2).mono ?_
   rintro e w5 ⟨rfl,hB5⟩
   have hM5:=hM4.low hB5
   have hP5:=hP4.low hB5
   have hBw5:=hBw4.trans (hB5.mono hBw4.size)
   clear d0 d1 d2 hM4 hP4 hBw4 hB5
   go_wp2_with fail
   refine (crow_f w.heap.size b v4 Z1 U2 Z2 w5 hP5 hBw5.size HZ2 b2).mono ?_
   rintro e w6 ⟨rfl,v6,hP6,hW6⟩
   obtain⟨hM6,hO6⟩:=hM5.wr hW6 hO4
   have hBw6:=hBw5.trans hW6.below
   obtain⟨d0,d1,d2⟩:=hM6.cells
   clear hM5 hP5 hBw5 hO4 hW6 q1 q2 HZ1 HZ2 HN1 HN2
   go_wp2
   go_loopw [30] (fun i wr=>∃ (k:Nat) (v1:Value) (ac:List UInt8),k≤q.length∧i=.int .i64 k∧Pg w.heap.size b v1 ac wr∧Below w.heap.size w wr∧Hid (ac++(((q.map (·.1)).drop k).flatMap hkL).flatten=Z)) (fun i _=>q.length-(intOf i).toNat)
   case atStart=>exact⟨0,v6,Z2,Nat.zero_le _,by go_num,hP6,hBw6,HE⟩
   case round =>
   clear HE hP6 hBw6 hM6 hO6 d0 d1 d2
   obtain⟨k,v1,ac,hk,rfl,hP,hB,HI⟩:=hrel
   by_cases hlt:k<q.length
   ·obtain⟨bk,off,rfl,hbk,_⟩:=hv.at (by omega)
    obtain⟨h,y,hx⟩:∃ h y,q[k]=(h,y):=⟨_,_,rfl⟩
    obtain⟨⟨c0,c1,c2,c3,c4⟩,hm⟩:=HHp.take hv hB k hlt hx
    obtain⟨x1,x2⟩:=hok.2 q[k] (List.getElem_mem hlt)
    have hins:=hv.ins q[k] (List.getElem_mem hlt)
    have hch:=HCh.out q[k].1 (by rw[← HQ.out];exact List.mem_map_of_mem (List.getElem_mem hlt))
    rw[hx] at x1 x2 hins hch
    dsimp only at x1 x2 hins hch
    have HI2:=HI.out
    rw[List.drop_eq_getElem_cons (show k<(q.map (·.1)).length by rw[List.length_map];exact hlt),List.getElem_map,hx,List.flatMap_cons,List.flatten_append,← List.append_assoc] at HI2
    dsimp only at HI2
    obtain⟨A2,hA2⟩:∃ Y,ac++(hkL h).flatten=Y:=⟨_,rfl⟩
    rw[hA2] at HI2
    have HI3:Hid (A2++(((q.map (·.1)).drop (k+1)).flatMap hkL).flatten=Z):=HI2
    have hAl:A2.length≤70368744177664:=(by have:=congrArg List.length HI2;rw[List.length_append] at this;omega)
    have i4:(0:Int)≤(k:Int):=by omega
    have i5:(k:Int)<(q.length:Int):=by omega
    have hBn:Below wr.heap.size wr (wr.alloc (.cells #[.int .i64 h.A,.int .i64 h.AN,.int .i64 h.B,.int .i64 h.BN,y] 59)):=(Below.refl _ wr).alloc (Nat.le_refl _) _
    have hBm:=hB.trans (hBn.mono hB.size)
    have hPm:=hP.low hBn
    have hc:=chunk_f w.heap.size b v1 h y ac A2 _ hPm hBm.size x1 x2 hch (fun u hu=>hins.keep (hBm.trans hu) (Nat.le_refl _)) (fun u hu=>HT.out.on (hBm.trans hu)) hA2 hAl
    obtain⟨yo,yc,rfl⟩:=HMk.form hm
    have e:hkV h (.slice yo h.ls.length yc)=.agg #[.int .i64 h.A,.int .i64 h.AN,.int .i64 h.B,.int .i64 h.BN,.slice yo h.ls.length yc]:=rfl
    rw[e] at hc
    clear e HI HI2 hx hm hins hch hA2
    go_wp2_with fail
    refine hc.mono ?_
    rintro e w7 ⟨rfl,v7,hP7,hW7⟩
    go_wp2
    exact⟨⟨k+1,v7,A2,by omega,by go_num,hP7,hBm.trans hW7.below,HI3⟩,by simp[intOf];omega⟩
   ·have hend:decide ((k:Int)<(q.length:Int))=false:=decide_eq_false (by omega)
    have hE:ac=Z:=(by
     have h:=HI.out
     rw[List.drop_of_length_le (by rw[List.length_map];omega)] at h
     simpa using h)
    subst hE
    clear HI
    go_wp2_with fail
    refine (cString_f w.heap.size b v1 ac HZne.out wr hP).mono ?_
    rintro e w7 ⟨rfl,hB7⟩
    go_wp2
    go_ret2
    exact⟨rfl,hB.trans hB7⟩
 ·rw[if_neg hr0] at hZZ
  have HE:Hid ([]=Z):=hZZ
  have e1:(r != 0)=true:=bne_iff_ne.2 hr0
  clear hZZ HZ HO hr0
  go_enter Tryz.func25,Tryz.ntmps25
  go_wp2_with fail
  refine hc.mono ?_
  rintro e w1 ⟨rfl,hB1⟩
  go_wp2
  go_ret2
  exact⟨by rw[← HE.out];rfl,hBm.trans (hB1.mono hBm.size)⟩
end

section
open Go.RowKit
def HOw (p:List (Hk × Value)):Prop:=p.length≤1099511627776∧∀ x∈p,x.1.ls.length≤1099511627776
theorem hk_ext {A1 N1 B1 M1 A2 N2 B2 M2:Int} {l1 l2:List Mk}:(⟨A1,N1,B1,M1,l1⟩:Hk)=⟨A2,N2,B2,M2,l2⟩↔A1=A2∧N1=N2∧B1=B2∧M1=M2∧l1=l2:=by
 constructor
 ·rintro h
  cases h
  exact⟨rfl,rfl,rfl,rfl,rfl⟩
 ·rintro⟨rfl,rfl,rfl,rfl,rfl⟩
  rfl
theorem rSameG_f (h1 h2:Hk) (v1 v2:Value) (w:World) (hv1:HMk w v1 h1.ls) (hv2:HMk w v2 h2.ls) (hl1:h1.ls.length≤1099511627776) (r:Bool) (HR:Hid (r=true↔h1=h2)):Calls Tryz.prog 46 #[hkV h1 v1,hkV h2 v2] w fun e w'=>e=.returned (.bool r)∧Below w.heap.size w w':=by
 obtain⟨A1,N1,B1,M1,l1⟩:=h1
 obtain⟨A2,N2,B2,M2,l2⟩:=h2
 dsimp only at hv1 hv2 hl1
 obtain⟨o1,c1,rfl⟩:=HMk.form hv1
 obtain⟨o2,c2,rfl⟩:=HMk.form hv2
 have hx1:=Hx.new w ⟨A1,N1,B1,M1,l1⟩ (.slice o1 l1.length c1)
 have hB1:Below w.heap.size w (w.alloc (hkO ⟨A1,N1,B1,M1,l1⟩ (.slice o1 l1.length c1))):=(Below.refl _ w).alloc (Nat.le_refl _) _
 have hx2:Hx ((w.alloc (hkO ⟨A1,N1,B1,M1,l1⟩ (.slice o1 l1.length c1))).alloc (hkO ⟨A2,N2,B2,M2,l2⟩ (.slice o2 l2.length c2))) (w.heap.size+1) ⟨A2,N2,B2,M2,l2⟩ (.slice o2 l2.length c2):=alloc_second w _ _
 have hB2:Below w.heap.size w ((w.alloc (hkO ⟨A1,N1,B1,M1,l1⟩ (.slice o1 l1.length c1))).alloc (hkO ⟨A2,N2,B2,M2,l2⟩ (.slice o2 l2.length c2))):=hB1.alloc (by simp) _
 have hx1':=hx1.low ((Below.refl _ (w.alloc (hkO ⟨A1,N1,B1,M1,l1⟩ (.slice o1 l1.length c1)))).alloc (Nat.le_refl _) (hkO ⟨A2,N2,B2,M2,l2⟩ (.slice o2 l2.length c2)))
 have hm1:=HMk.keep hv1 hB2 (Nat.le_refl _)
 have hm2:=HMk.keep hv2 hB2 (Nat.le_refl _)
 obtain⟨x0,x1,x2,x3,x4⟩:=hx1'.cells
 obtain⟨y0,y1,y2,y3,y4⟩:=hx2.cells
 unfold hkV
 dsimp only at x0 x1 x2 x3 x4 y0 y1 y2 y3 y4 ⊢
 have hW0:(w.alloc (hkO ⟨A1,N1,B1,M1,l1⟩ (.slice o1 l1.length c1))).alloc (hkO ⟨A2,N2,B2,M2,l2⟩ (.slice o2 l2.length c2))=(w.alloc (Obj.cells #[Value.int IntKind.i64 A1,Value.int IntKind.i64 N1,Value.int IntKind.i64 B1,Value.int IntKind.i64 M1,.slice o1 l1.length c1] 59)).alloc (Obj.cells #[Value.int IntKind.i64 A2,Value.int IntKind.i64 N2,Value.int IntKind.i64 B2,Value.int IntKind.i64 M2,.slice o2 l2.length c2] 59):=rfl
 clear hx1 hx2 hx1' hB1 hv1 hv2
 generalize (w.alloc (hkO ⟨A1,N1,B1,M1,l1⟩ (.slice o1 l1.length c1))).alloc (hkO ⟨A2,N2,B2,M2,l2⟩ (.slice o2 l2.length c2))=W at *
 have hW:=hW0.symm
 clear hW0
 have HN:Hid (¬ (A1=A2∧N1=N2∧B1=B2∧M1=M2∧l1.length=l2.length)→r=false):=(by
  intro h
  cases hr:r with
  | false=>rfl
  | true=>exact absurd (hk_ext.1 (HR.out.1 hr)) (fun e=>h ⟨e.1,e.2.1,e.2.2.1,e.2.2.2.1,congrArg List.length e.2.2.2.2⟩))
 have HR2:Hid (A1=A2∧N1=N2∧B1=B2∧M1=M2→(r=true↔l1=l2)):=(by
  rintro⟨rfl,rfl,rfl,rfl⟩
  rw[HR.out,hk_ext]
  simp)
 clear HR
 go_enter Tryz.func46,Tryz.ntmps46
 by_cases hA:A1=A2
 ·by_cases hN:N1=N2
  ·by_cases hB:B1=B2
   ·by_cases hM:M1=M2
    ·have HR3:Hid (r=true↔l1=l2):=HR2.out ⟨hA,hN,hB,hM⟩
     clear HR2
     subst hA hN hB hM
     by_cases hL:l1.length=l2.length
     ·rw[← hL] at y4 hm2 hW ⊢
      have HL:Hid (l1.length=l2.length):=hL
      clear hL HN
      go_wp2
      clear hW
      go_loopw [5] (fun iv wr=>∃ k m:Nat,k≤l1.length∧iv=.int .i64 (k:Int)∧wr=W.drewN m∧Hid (r=true↔l1.drop k=l2.drop k)) (fun iv _=>l1.length-(intOf iv).toNat)
      case atStart=>exact⟨0,0,Nat.zero_le _,by go_num,rfl,HR3⟩
      case round =>
       clear HR3
       obtain⟨k,m,hk,rfl,rfl,HD⟩:=hrel
       have x4':(W.drewN m).cell? ⟨w.heap.size,4,none⟩=some (.slice o1 l1.length c1):=x4
       have y4':(W.drewN m).cell? ⟨w.heap.size+1,4,none⟩=some (.slice o2 l1.length c2):=y4
       by_cases hlt:k<l1.length
       ·have hlt2:k<l2.length:=by have:=HL.out;omega
        obtain⟨b1,f1,rfl,_,hc1⟩:=HMk.at hm1 (by omega)
        obtain⟨b2,f2,rfl,_,hc2⟩:=HMk.at hm2 (by omega)
        obtain⟨s0,s1⟩:=hc1 k hlt
        obtain⟨t0,t1⟩:=hc2 k hlt2
        have hD:=HD.out
        rw[List.drop_eq_getElem_cons hlt,List.drop_eq_getElem_cons hlt2,List.cons.injEq] at hD
        obtain⟨q,hq⟩:∃ q,l1[k]=q:=⟨_,rfl⟩
        obtain⟨p,hp⟩:∃ p,l2[k]=p:=⟨_,rfl⟩
        rw[hq] at s0 s1 hD
        rw[hp] at t0 t1 hD
        obtain⟨sg,tx⟩:=q
        obtain⟨sg2,tx2⟩:=p
        dsimp only at s0 s1 t0 t1
        have HD2:Hid (r=true↔(⟨sg,tx⟩:Mk)=⟨sg2,tx2⟩∧l1.drop (k+1)=l2.drop (k+1)):=hD
        clear hc1 hc2 hq hp hD HD
        have i1:0≤(k:Int):=by omega
        have i2:(k:Int)<(l1.length:Int):=by omega
        by_cases hs:sg=sg2
        ·subst hs
         by_cases ht:tx=tx2
         ·subst ht
          have HD3:Hid (r=true↔l1.drop (k+1)=l2.drop (k+1)):=(by show _↔_;rw[HD2.out];simp)
          clear HD2
          go_wp2_with fail
          go_quiet (fail)
          go_wp2
          go_roundw
          case rel=>exact⟨k+1,_,by omega,by go_num,rfl,HD3⟩
          case measure=>simp[intOf];omega
         ·have r0:r=false:=(by
           cases hr:r with
           | false=>rfl
           | true=>exact absurd (HD2.out.1 hr).1 (fun e=>ht (by cases e;rfl)))
          subst r0
          have e2:(tx == tx2)=false:=beq_eq_false_iff_ne.2 ht
          clear HD2
          go_wp2_with fail
          go_quiet (fail)
          go_wp2
          go_ret
          exact⟨rfl,Below.dN (Below.dN hB2 _) _⟩
        ·have r0:r=false:=(by
          cases hr:r with
          | false=>rfl
          | true=>exact absurd (HD2.out.1 hr).1 (fun e=>hs (by cases e;rfl)))
         subst r0
         have e1:(sg == sg2)=false:=beq_eq_false_iff_ne.2 hs
         clear HD2
         go_wp2_with fail
         go_quiet (fail)
         go_wp2
         go_ret
         exact⟨rfl,Below.dN (Below.dN hB2 _) _⟩
       ·have hend:decide ((k:Int)<(l1.length:Int))=false:=decide_eq_false (by omega)
        have r1:r=true:=HD.out.2 (by rw[List.drop_eq_nil_of_le (by omega),List.drop_eq_nil_of_le (by have:=HL.out;omega)])
        subst r1
        go_wp2
        go_ret
        exact⟨rfl,Below.dN hB2 _⟩
     ·have r0:=HN.out (fun e=>hL e.2.2.2.2)
      subst r0
      have e5:((l1.length:Int) == (l2.length:Int))=false:=beq_eq_false_iff_ne.2 (by omega)
      go_wp2
      go_ret
      exact⟨rfl,hB2⟩
    ·have r0:=HN.out (fun e=>hM e.2.2.2.1)
     subst hA hN hB r0
     have e4:(M1 == M2)=false:=beq_eq_false_iff_ne.2 hM
     go_wp2
     go_ret
     exact⟨rfl,hB2⟩
   ·have r0:=HN.out (fun e=>hB e.2.2.1)
    subst hA hN r0
    have e3:(B1 == B2)=false:=beq_eq_false_iff_ne.2 hB
    go_wp2
    go_ret
    exact⟨rfl,hB2⟩
  ·have r0:=HN.out (fun e=>hN e.2.1)
   subst hA r0
   have e2:(N1 == N2)=false:=beq_eq_false_iff_ne.2 hN
   go_wp2
   go_ret
   exact⟨rfl,hB2⟩
 ·have r0:=HN.out (fun e=>hA e.1)
  subst r0
  have e1:(A1 == A2)=false:=beq_eq_false_iff_ne.2 hA
  go_wp2
  go_ret
  exact⟨rfl,hB2⟩
theorem hsameG_held {h1 h2:Hk} {v1 v2:Value} {W u:World} {r:Bool} (hv1:HMk W v1 h1.ls) (hv2:HMk W v2 h2.ls) (hl:h1.ls.length≤1099511627776) (HR:Hid (r=true↔h1=h2)) (hL:Low W u):Calls Tryz.prog 46 (#[hkV h1 v1,hkV h2 v2]++#[]) u fun e w'=>∃ x,e=.returned x∧Low W w'∧x=.bool r:=by
 refine (rSameG_f h1 h2 v1 v2 u (HMk.keep hv1 hL (Nat.le_refl _)) (HMk.keep hv2 hL (Nat.le_refl _)) hl r HR).mono ?_
 rintro e w' ⟨rfl,hB⟩
 exact⟨_,rfl,hL.trans (hB.mono hL.size),rfl⟩
theorem rSameHunksG_f (p1 p2:List (Hk × Value)) (v1 v2:Value) (w:World) (hv1:HHp w v1 p1) (hv2:HHp w v2 p2) (hok:HOw p1) (r:Bool) (HR:Hid (r=true↔p1.map (·.1)=p2.map (·.1))):Calls Tryz.prog 18 #[v1,v2] w fun e w'=>e=.returned (.bool r)∧Below w.heap.size w w':=by
 obtain⟨o1,c1,rfl⟩:=Holds.form hv1.row
 obtain⟨o2,c2,rfl⟩:=Holds.form hv2.row
 have hpl:p1.length≤1099511627776:=hok.1
 have HOK:Hid (HOw p1):=hok
 clear hok
 by_cases hl12:p2.length=p1.length
 ·have HL:Hid (p2.length=p1.length):=hl12
  rw[hl12] at hv2 ⊢
  clear hl12
  go_enter Tryz.func18,Tryz.ntmps18
  go_wp2
  go_loopw [5] (fun iv wr=>∃ k:Nat,k≤p1.length∧iv=.int .i64 (k:Int)∧Below w.heap.size w wr∧Hid (r=true↔(p1.map (·.1)).drop k=(p2.map (·.1)).drop k)) (fun iv _=>p1.length-(intOf iv).toNat)
  case atStart=>exact⟨0,Nat.zero_le _,by go_num,Below.refl _ _,HR⟩
  case round =>
   clear HR
   obtain⟨k,hk,rfl,hB,HD⟩:=hrel
   by_cases hlt:k<p1.length
   ·obtain⟨b1,f1,rfl,_,_⟩:=hv1.at (by omega)
    obtain⟨b2,f2,rfl,_,_⟩:=hv2.at (by have:=HL.out;omega)
    obtain⟨x,y,hxy⟩:∃ x y,p1[k]=(x,y):=⟨_,_,rfl⟩
    obtain⟨x',z,hxz⟩:∃ x z,p2[k]'(by have:=HL.out;omega)=(x,z):=⟨_,_,rfl⟩
    have hD:=HD.out
    have hlt2:k<p2.length:=(by have:=HL.out;omega)
    rw[List.drop_eq_getElem_cons (show k<(p1.map (·.1)).length by simpa using hlt),List.drop_eq_getElem_cons (show k<(p2.map (·.1)).length by simpa using hlt2),List.cons.injEq,List.getElem_map,List.getElem_map,hxy,hxz] at hD
    dsimp only at hD
    obtain⟨r2,HR2⟩:∃ r2:Bool,Hid (r2=true↔x=x'):=(by
     rcases Classical.em (x=x') with h | h
     ·exact⟨true,⟨fun _=>h,fun _=>rfl⟩⟩
     ·exact⟨false,⟨fun e=>absurd e (by simp),fun e=>absurd e h⟩⟩)
    have HD2:Hid (r=true↔x=x'∧(p1.map (·.1)).drop (k+1)=(p2.map (·.1)).drop (k+1)):=hD
    clear hD HD
    obtain⟨r1,hm1⟩:=hv1.take hB k hlt hxy
    obtain⟨r2,hm2⟩:=hv2.take hB k (by have:=HL.out;omega) hxz
    have hbd:=HOK.out.2 _ (List.getElem_mem hlt)
    rw[hxy] at hbd
    dsimp only at hbd
    obtain⟨yo,yc,rfl⟩:=hm1.form
    obtain⟨zo,zc,rfl⟩:=hm2.form
    have hr1:∀ u:World,Low wr u→HkAt u b1 (f1+k * 5) x (.slice yo x.ls.length yc):=fun u hu=>HkAt.low r1 hu
    have hr2:∀ u:World,Low wr u→HkAt u b2 (f2+k * 5) x' (.slice zo x'.ls.length zc):=fun u hu=>HkAt.low r2 hu
    have i1:0≤(k:Int):=by omega
    have i2:(k:Int)<(p1.length:Int):=by omega
    clear hxy hxz r1 r2
    go_wp2_with fail
    refine wp_region_noPanic ?_
    refine wp_region_held_drew (S:=fun u=>Low wr u) (by kernel_rfl) (Below.dN (Below.refl _ wr) 1) (fun hHeld=>?_)
    refine go_take 0 17 _ (.slice (some ⟨b1,f1,none⟩) p1.length c1) rfl (by kernel_rfl) (by kernel_rfl) (by kernel_rfl) (by kernel_rfl) (fun _ _ _ h=>h) (Or.inl ⟨by kernel_rfl,fun u hu=>by kernel_rfl⟩) hHeld ?_
    simp only[Act.put,List.setIfInBounds_toArray,List.set_cons_zero,List.set_cons_succ]
    refine go_take 1 18 _ (.int .i64 (k:Int)) rfl (by kernel_rfl) (by kernel_rfl) (by kernel_rfl) (by kernel_rfl) (fun _ _ _ h=>h) (Or.inl ⟨by kernel_rfl,fun u hu=>by kernel_rfl⟩) hHeld ?_
    simp only[Act.put,List.setIfInBounds_toArray,List.set_cons_zero,List.set_cons_succ]
    refine go_take 2 19 _ (.pointer (some ⟨b1,f1+k * 5,none⟩)) rfl (by kernel_rfl) (by kernel_rfl) (by kernel_rfl) (by kernel_rfl) (fun _ _ _ h=>h) (Or.inl ⟨by kernel_rfl,fun u hu=>exec_ixH (c:=c1) hlt (.tmp 17) (.tmp 18) (by kernel_rfl) (by kernel_rfl) (by kernel_rfl)⟩) hHeld ?_
    simp only[Act.put,List.setIfInBounds_toArray,List.set_cons_zero,List.set_cons_succ]
    refine go_take 3 20 _ (hkV x (.slice yo x.ls.length yc)) rfl (by kernel_rfl) (by kernel_rfl) (by kernel_rfl) (by kernel_rfl) (fun _ _ _ h=>h) (Or.inl ⟨by kernel_rfl,fun u hu=>load_hkR (hr1 u hu) (.tmp 19) (by kernel_rfl) (by kernel_rfl)⟩) hHeld ?_
    simp only[Act.put,List.setIfInBounds_toArray,List.set_cons_zero,List.set_cons_succ]
    refine go_take 4 21 _ (.slice (some ⟨b2,f2,none⟩) p1.length c2) rfl (by kernel_rfl) (by kernel_rfl) (by kernel_rfl) (by kernel_rfl) (fun _ _ _ h=>h) (Or.inl ⟨by kernel_rfl,fun u hu=>by kernel_rfl⟩) hHeld ?_
    simp only[Act.put,List.setIfInBounds_toArray,List.set_cons_zero,List.set_cons_succ]
    refine go_take 5 22 _ (.int .i64 (k:Int)) rfl (by kernel_rfl) (by kernel_rfl) (by kernel_rfl) (by kernel_rfl) (fun _ _ _ h=>h) (Or.inl ⟨by kernel_rfl,fun u hu=>by kernel_rfl⟩) hHeld ?_
    simp only[Act.put,List.setIfInBounds_toArray,List.set_cons_zero,List.set_cons_succ]
    refine go_take 6 23 _ (.pointer (some ⟨b2,f2+k * 5,none⟩)) rfl (by kernel_rfl) (by kernel_rfl) (by kernel_rfl) (by kernel_rfl) (fun _ _ _ h=>h) (Or.inl ⟨by kernel_rfl,fun u hu=>exec_ixH (c:=c2) hlt (.tmp 21) (.tmp 22) (by kernel_rfl) (by kernel_rfl) (by kernel_rfl)⟩) hHeld ?_
    simp only[Act.put,List.setIfInBounds_toArray,List.set_cons_zero,List.set_cons_succ]
    refine go_take 7 24 _ (hkV x' (.slice zo x'.ls.length zc)) rfl (by kernel_rfl) (by kernel_rfl) (by kernel_rfl) (by kernel_rfl) (fun _ _ _ h=>h) (Or.inl ⟨by kernel_rfl,fun u hu=>load_hkR (hr2 u hu) (.tmp 23) (by kernel_rfl) (by kernel_rfl)⟩) hHeld ?_
    simp only[Act.put,List.setIfInBounds_toArray,List.set_cons_zero,List.set_cons_succ]
    refine go_callE 8 25 _ rfl (by kernel_rfl) (by kernel_rfl) (by kernel_rfl) 46 (.func 46) #[.tmp 20,.tmp 24] #[59,59] (by kernel_rfl) #[] (by kernel_rfl) #[hkV x (.slice yo x.ls.length yc),hkV x' (.slice zo x'.ls.length zc)] (by kernel_rfl) (enters_of Tryz.func46 (by kernel_rfl) rfl) _ (hsameG_held hm1 hm2 hbd HR2 hHeld) ?_
    rintro _ u8 hHeld rfl
    simp only[Act.put,List.setIfInBounds_toArray,List.set_cons_zero,List.set_cons_succ]
    refine go_take 9 26 _ (.bool (!r2)) rfl (by kernel_rfl) (by kernel_rfl) (by kernel_rfl) (by kernel_rfl) (fun _ _ _ h=>h) (Or.inl ⟨by kernel_rfl,fun u hu=>by kernel_rfl⟩) hHeld ?_
    simp only[Act.put,List.setIfInBounds_toArray,List.set_cons_zero,List.set_cons_succ]
    refine wpAnyH_done (by kernel_rfl) ?_ _
    refine NoPanic.normal ?_
    have hB2:=hB.trans (Below.mono hHeld hB.size)
    cases hr2:r2 with
    | true =>
     have HD3:Hid (r=true↔(p1.map (·.1)).drop (k+1)=(p2.map (·.1)).drop (k+1)):=(by show _↔_;rw[HD2.out];simp[HR2.out.1 hr2])
     clear HD2 HR2
     subst hr2
     go_wp2
     exact⟨⟨k+1,by omega,by go_num,hB2,HD3⟩,by simp[intOf];omega⟩
    | false =>
     have r0:r=false:=(by
      cases hr:r with
      | false=>rfl
      | true=>exact absurd (HR2.out.2 (HD2.out.1 hr).1) (by simp[hr2]))
     clear HD2 HR2
     subst hr2 r0
     go_wp2
     go_ret
     exact⟨rfl,hB2⟩
   ·have hend:decide ((k:Int)<(p1.length:Int))=false:=decide_eq_false (by omega)
    have r1:r=true:=HD.out.2 (by rw[List.drop_eq_nil_of_le (by simp;omega),List.drop_eq_nil_of_le (by have:=HL.out;simp;omega)])
    subst r1
    go_wp2
    go_ret
    exact⟨rfl,hB⟩
 ·have r0:r=false:=(by
   cases hr:r with
   | false=>rfl
   | true=>exact absurd (by have:=congrArg List.length (HR.out.1 hr);simpa using this.symm) hl12)
  subst r0
  have e1:((p1.length:Int) == (p2.length:Int))=false:=beq_eq_false_iff_ne.2 (by omega)
  go_enter Tryz.func18,Tryz.ntmps18
  go_wp2
  go_ret
  exact⟨rfl,Below.refl _ _⟩
end

section
open Go.RowKit
theorem pth_ext {a b c d:List UInt8} {x y:List Hk}:(⟨a,b,x⟩:Pth)=⟨c,d,y⟩↔a=c∧b=d∧x=y:=by
 constructor
 ·intro h
  injection h with h1 h2 h3
  exact⟨h1,h2,h3⟩
 ·rintro⟨rfl,rfl,rfl⟩
  rfl
theorem rSamePt_f (p1 p2:Pth) (q1 q2:List (Hk × Value)) (H1:Hid (q1.map (·.1)=p1.hs)) (H2:Hid (q2.map (·.1)=p2.hs)) (v1 v2:Value) (w:World) (hv1:HHp w v1 q1) (hv2:HHp w v2 q2) (hok:HOw q1) (r:Bool) (HR:Hid (r=true↔p1=p2)) :
  Calls Tryz.prog 58 #[ptV p1 v1,ptV p2 v2] w fun e w'=>e=.returned (.bool r)∧Below w.heap.size w w':=by
 obtain⟨o1,n1,s1⟩:=p1
 obtain⟨o2,n2,s2⟩:=p2
 dsimp only at H1 H2
 obtain⟨lo1,lc1,rfl⟩:=Holds.form hv1.row
 obtain⟨lo2,lc2,rfl⟩:=Holds.form hv2.row
 rw[pth_ext] at HR
 have hBa:Below w.heap.size w (w.alloc (.cells #[.string ⟨o1.toArray⟩,.string ⟨n1.toArray⟩,.slice lo1 q1.length lc1] 55)):=(Below.refl _ w).alloc (Nat.le_refl _) _
 have hBb:=hBa.alloc hBa.size (.cells #[.string ⟨o2.toArray⟩,.string ⟨n2.toArray⟩,.slice lo2 q2.length lc2] 55)
 have e1:ptV ⟨o1,n1,s1⟩ (.slice lo1 q1.length lc1)=.agg #[.string ⟨o1.toArray⟩,.string ⟨n1.toArray⟩,.slice lo1 q1.length lc1]:=rfl
 have e2:ptV ⟨o2,n2,s2⟩ (.slice lo2 q2.length lc2)=.agg #[.string ⟨o2.toArray⟩,.string ⟨n2.toArray⟩,.slice lo2 q2.length lc2]:=rfl
 rw[e1,e2]
 clear e1 e2
 by_cases h1:o1=o2
 ·subst h1
  by_cases h2:n1=n2
  ·subst h2
   have HRR:Hid (r=true↔q1.map (·.1)=q2.map (·.1)):=(by
    show (_↔_)
    rw[H1.out,H2.out]
    have h:=HR.out
    simpa using h)
   have hc:=rSameHunksG_f q1 q2 _ _ _ (hv1.keep hBb (Nat.le_refl _)) (hv2.keep hBb (Nat.le_refl _)) hok r HRR
   clear HR HRR
   go_enter Tryz.func58,Tryz.ntmps58
   go_wp2_with fail
   refine hc.mono ?_
   rintro e w1 ⟨rfl,hB1⟩
   go_wp2
   go_ret
   exact⟨rfl,hBb.trans (hB1.mono hBb.size)⟩
  ·have HE:Hid (false=r):=(by
    cases r with
    | false=>rfl
    | true=>exact absurd (HR.out.1 rfl).2.1 h2)
   have j1:(n1 == n2)=false:=beq_eq_false_iff_ne.2 h2
   clear HR h2
   go_enter Tryz.func58,Tryz.ntmps58
   go_wp2
   go_ret
   exact⟨by rw[← HE.out];rfl,hBb⟩
 ·have HE:Hid (false=r):=(by
   cases r with
   | false=>rfl
   | true=>exact absurd (HR.out.1 rfl).1 h1)
  have j1:(o1 == o2)=false:=beq_eq_false_iff_ne.2 h1
  clear HR h1
  go_enter Tryz.func58,Tryz.ntmps58
  go_wp2
  go_ret
  exact⟨by rw[← HE.out];rfl,hBb⟩
end

section
open Go.RowKit
structure HPp (w:World) (v:Value) (F:List Pfd):Prop where
 row:Holds w v F.length (pxcells F)
 ins:∀ f∈F,f.hs.map (·.1)=f.x.hs∧HHp w f.v f.hs
theorem Pw.holds {w u:World} {v:Value} {F:List Pfd} (h:Pw w v F u):HPp u v F:=⟨holds_of h.own,fun f hf=>⟨(h.ins f hf).eq.symm,holds_of (h.ins f hf).own,fun y hy=>holds_of ((h.ins f hf).ins y hy)⟩⟩
theorem HPp.keep {w u:World} {v:Value} {F:List Pfd} (h:HPp w v F) (hb:Below w.heap.size w u):HPp u v F:=⟨Holds.keep h.row fun k hk=>hb.block k hk,fun f hf=>⟨(h.ins f hf).1,(h.ins f hf).2.keep hb (Nat.le_refl _)⟩⟩
theorem pxcells_length (F:List Pfd):(pxcells F).length=F.length * 3:=by
 induction F with
 | nil=>rfl
 | cons f F ih =>
  simp only[pxcells,List.flatMap_cons,List.length_append,List.length_cons] at ih ⊢
  rw[ih]
  simp[pxC]
  omega
theorem pxcells_at (F:List Pfd):∀ (k:Nat) (hk:k<F.length),(pxcells F)[k * 3]?=some (.string ⟨F[k].x.old.toArray⟩)∧(pxcells F)[k * 3+1]?=some (.string ⟨F[k].x.new.toArray⟩)∧(pxcells F)[k * 3+2]?=some F[k].v:=by
 induction F with
 | nil=>intro k hk;cases hk
 | cons f F ih =>
  intro k hk
  have e:pxcells (f::F)=pxC f++pxcells F:=by simp[pxcells]
  rw[e]
  cases k with
  | zero=>exact⟨rfl,rfl,rfl⟩
  | succ k =>
   obtain⟨h1,h2,h3⟩:=ih k (by simpa using hk)
   have e0:(k+1) * 3=3+k * 3:=by omega
   have l3:(pxC f).length=3:=rfl
   refine⟨?_,?_,?_⟩
   ·rw[e0,List.getElem?_append_right (by rw[l3];omega),l3,show 3+k * 3-3=k * 3 by omega];exact h1
   ·rw[e0,List.getElem?_append_right (by rw[l3];omega),l3,show 3+k * 3+1-3=k * 3+1 by omega];exact h2
   ·rw[e0,List.getElem?_append_right (by rw[l3];omega),l3,show 3+k * 3+2-3=k * 3+2 by omega];exact h3
theorem HPp.at {w:World} {ao:Option Addr} {n c:Nat} {F:List Pfd} (h:HPp w (.slice ao n c) F) (h0:0<F.length):∃ b off,ao=some ⟨b,off,none⟩∧b<w.heap.size ∧
  ∀ k (hk:k<F.length),w.cell? ⟨b,off+k * 3,none⟩=some (.string ⟨F[k].x.old.toArray⟩)∧w.cell? ⟨b,off+k * 3+1,none⟩=some (.string ⟨F[k].x.new.toArray⟩)∧w.cell? ⟨b,off+k * 3+2,none⟩=some F[k].v:=by
 obtain⟨b,off,c',hv,hb,hc⟩:=Holds.at h.row (by rw[pxcells_length];omega)
 cases hv
 refine⟨b,off,rfl,hb,fun k hk=>?_⟩
 obtain⟨h1,h2,h3⟩:=pxcells_at F k hk
 have hcc:∀ j u,(pxcells F)[j]?=some u→w.cell? ⟨b,off+j,none⟩=some u:=fun j u hj=>by
  obtain⟨hj1,hj2⟩:=List.getElem?_eq_some_iff.1 hj
  rw[hc j hj1,hj2]
 exact⟨hcc _ _ h1,by rw[Nat.add_assoc];exact hcc _ _ h2,by rw[Nat.add_assoc];exact hcc _ _ h3⟩
end

section
open Ln
def wkP:Pth:=⟨[97],[98],[⟨1,3,1,3,[⟨32,[49,10]⟩,⟨45,[50,10]⟩,⟨43,[120,10]⟩,⟨32,[51,10]⟩]⟩]⟩
def wkT:List UInt8:=[42,42,42,32,97,10,45,45,45,32,98,10,42,42,42,42,42,42,42,42,42,42,42,42,42,42,42,10,42,42,42,32,49,44,51,32,42,42,42,42,10,32,32,49,10,33,32,50,10,32,32,51,10,45,45,45,32,49,44,51,32,45,45,45,45,10,32,32,49,10,33,32,120,10,32,32,51,10]
theorem wk_wrg:wrgP wkP=0:=by decide
theorem wk_it1:Lib.itoa 1=[49]:=by
 simp[Lib.itoa]
 rw[Lib.decDigits]
 simp
theorem wk_it3:Lib.itoa 3=[51]:=by
 simp[Lib.itoa]
 rw[Lib.decDigits]
 simp
theorem wk_text:ptT wkP=wkT:=by
 have h:spanT 1 3=[49,44,51]:=by
  unfold spanT
  rw[if_neg (by decide),show (1+3-1:Int)=3 by decide,wk_it1,wk_it3]
  rfl
 unfold ptT
 rw[if_pos wk_wrg]
 unfold ptL
 rw[if_neg (by decide)]
 have hn:∀ c:UInt8,c=97∨c=98→nameT [c]=[c]:=by
  rintro c (rfl | rfl)<;>decide
 have hk:∀ h:Hk,hkL h=(starsT++[10])::rlT 42 h.A h.AN::(sideL 45 h.ls++rlT 45 h.B h.BN::sideL 43 h.ls):=fun _=>rfl
 have hr:∀ e:UInt8,rlT e 1 3=[e,e,e,32]++[49,44,51]++[32,e,e,e,e,10]:=by
  intro e
  unfold rlT
  rw[h]
 show List.flatten (([42,42,42,32]++nameT [97]++[10])::([45,45,45,32]++nameT [98]++[10])::(hkL ⟨1,3,1,3,[⟨32,[49,10]⟩,⟨45,[50,10]⟩,⟨43,[120,10]⟩,⟨32,[51,10]⟩]⟩++[]))=wkT
 rw[hn 97 (.inl rfl),hn 98 (.inr rfl),hk]
 dsimp only
 rw[hr,hr]
 decide
theorem wk_read (hg:Gp wkP):cxT wkT=.ok [wkP]:=by
 have hl:[wkP].flatMap ptT=wkT:=by
  show ptT wkP++[]=wkT
  rw[List.append_nil,wk_text]
 have h1:∀ q∈[wkP],Gp q:=fun q hq=>by rw[List.mem_singleton.1 hq];exact hg
 rw[pts_text h1] at hl
 have:=cx_back h1 (by simp) (by rw[hl];decide)
 rw[hl] at this
 exact this
theorem wk_gp:Gp wkP:=by
 refine⟨by decide,by decide,by decide,by decide,?_⟩
 intro h hh
 rw[List.mem_singleton.1 hh]
 exact⟨by decide,by simp[Nf],by decide,by decide⟩
end

section
open Ln
end

section
open Go.RowKit
def wkM:Obj:=.cells #[.int .u8 32,.string ⟨#[49,10]⟩,.int .u8 45,.string ⟨#[50,10]⟩,.int .u8 43,.string ⟨#[120,10]⟩,.int .u8 32,.string ⟨#[51,10]⟩] 103
def wkH (b:Nat):Obj:=.cells #[.int .i64 1,.int .i64 3,.int .i64 1,.int .i64 3,.slice (some ⟨b,0,none⟩) 4 4] 59
def wkK:Hk:=⟨1,3,1,3,[⟨32,[49,10]⟩,⟨45,[50,10]⟩,⟨43,[120,10]⟩,⟨32,[51,10]⟩]⟩
theorem wk_hh (w:World) (n m:Nat) (hn:w.heap.size=n) (hm:n+1=m):HHp ((w.alloc wkM).alloc (wkH n)) (.slice (some ⟨m,0,none⟩) 1 1) [(wkK,.slice (some ⟨n,0,none⟩) 4 4)]:=by
 have hz:(w.alloc wkM).heap.size=m:=by rw[← hm,← hn];simp
 refine⟨?_,?_⟩
 ·exact new_holds_at (w.alloc wkM) m hz #[.int .i64 1,.int .i64 3,.int .i64 1,.int .i64 3,.slice (some ⟨n,0,none⟩) 4 4] 59 1 1 (by simp)
 ·intro y hy
  rw[List.mem_singleton.1 hy]
  have h:=new_holds_at w n hn #[.int .u8 32,.string ⟨#[49,10]⟩,.int .u8 45,.string ⟨#[50,10]⟩,.int .u8 43,.string ⟨#[120,10]⟩,.int .u8 32,.string ⟨#[51,10]⟩] 103 4 4 (by decide)
  have h2:HMk (w.alloc wkM) (.slice (some ⟨n,0,none⟩) 4 4) wkK.ls:=h
  exact h2.keep ((Below.refl _ _).alloc (Nat.le_refl _) _) (Nat.le_refl _)
theorem wk_one {F:List Pfd} {p0:Pth} (h:F.map (·.x)=[p0]):∃ f,F=[f]∧f.x=p0:=by
 match F,h with
 | [f],h =>
  simp at h
  exact⟨f,rfl,h⟩
theorem wk_hok (v:Value):HOk [(wkK,v)]:=by
 refine⟨show 1≤_ by decide,fun x hx=>?_⟩
 rw[List.mem_singleton.1 hx]
 exact⟨show wkK.ls.length≤_ by decide,show ∀ m∈wkK.ls,m.tx.length≤1099511627776 by decide⟩
theorem load_ptc {u:World} {b f:Nat} {a0 a1:ByteArray} {o:Option Addr} {n c:Nat} (h0:u.cell? ⟨b,f,none⟩=some (.string a0)) (h1:u.cell? ⟨b,f+1,none⟩=some (.string a1)) (h2:u.cell? ⟨b,f+2,none⟩=some (.slice o n c)) {op:Oper} (x:Operand) (ho:op.op=.load 55 x) {ev:Operand→Value} (hx:ev x=.pointer (some ⟨b,f,none⟩)) :
  (execOp ev op).run Tryz.prog u=.ok (.value (.agg #[.string a0,.string a1,.slice o n c])) u:=by
 simp only[execOp,ho,hx]
 go_simp
theorem cworks_f (w:World) (HTb:Hid (Tab10 w)):Calls Tryz.prog 24 #[] w fun e w'=>e=.returned (.bool true)∧Below w.heap.size w w':=by
 have hh:=wk_hh w w.heap.size (w.heap.size+1) rfl rfl
 have hB1:Below w.heap.size w ((w.alloc wkM).alloc (wkH w.heap.size)):=((Below.refl _ w).alloc (Nat.le_refl _) _).alloc (by simp) _
 have hz1:((w.alloc wkM).alloc (wkH w.heap.size)).heap.size=w.heap.size+1+1:=by simp
 have hW:(w.alloc (.cells #[.int .u8 32,.string ⟨#[49,10]⟩,.int .u8 45,.string ⟨#[50,10]⟩,.int .u8 43,.string ⟨#[120,10]⟩,.int .u8 32,.string ⟨#[51,10]⟩] 103)).alloc (.cells #[.int .i64 1,.int .i64 3,.int .i64 1,.int .i64 3,.slice (some ⟨w.heap.size,0,none⟩) 4 4] 59)=(w.alloc wkM).alloc (wkH w.heap.size):=rfl
 go_enter Tryz.func24,Tryz.ntmps24
 go_wp2_with fail
 have hA:Below ((w.alloc wkM).alloc (wkH w.heap.size)).heap.size ((w.alloc wkM).alloc (wkH w.heap.size)) (((w.alloc wkM).alloc (wkH w.heap.size)).alloc (.cells #[.string ⟨#[97]⟩,.string ⟨#[98]⟩,.slice (some ⟨w.heap.size+1,0,none⟩) 1 1] 55)):=(Below.refl _ _).alloc (Nat.le_refl _) _
 have hx2:(((w.alloc wkM).alloc (wkH w.heap.size)).alloc (.cells #[.string ⟨#[97]⟩,.string ⟨#[98]⟩,.slice (some ⟨w.heap.size+1,0,none⟩) 1 1] 55)).heap[w.heap.size+1+1]?=some (.cells #[.string ⟨#[97]⟩,.string ⟨#[98]⟩,.slice (some ⟨w.heap.size+1,0,none⟩) 1 1] 55):=(by rw[← hz1];exact heap_alloc_new _ _)
 have hh2:=hh.keep hA (Nat.le_refl _)
 have hB2:=hB1.trans (hA.mono hB1.size)
 clear hh hB1 hz1 hW hA
 generalize ((w.alloc wkM).alloc (wkH w.heap.size)).alloc (.cells #[.string ⟨#[97]⟩,.string ⟨#[98]⟩,.slice (some ⟨w.heap.size+1,0,none⟩) 1 1] 55)=W2 at hh2 hB2 hx2 ⊢
 have HTb2:Hid (Tab10 W2):=HTb.out.on hB2
 have hcall:=cPrint_f wkP [(wkK,.slice (some ⟨w.heap.size,0,none⟩) 4 4)] (show Hid _ from rfl) (.slice (some ⟨w.heap.size+1,0,none⟩) 1 1) W2 hh2 (wk_hok _) (by decide) (by decide) HTb2 wkT 0 wk_wrg wk_text (by decide)
 refine hcall.mono ?_
 rintro e w3 ⟨rfl,hB3⟩
 have hB03:=hB2.trans (hB3.mono hB2.size)
 have hh3:=hh2.keep hB3 (Nat.le_refl _)
 have hx3:=(hB3.block _ (Array.getElem?_eq_some_iff.1 hx2).1).trans hx2
 have HX:Hid (cxT wkT=.ok [wkP]):=wk_read wk_gp
 have hTl:wkT.length≤1099511627776:=(by decide)
 clear hcall hh2 hx2 hB2 hB3 HTb2 HTb
 go_wp2_with fail
 refine (cParse_f wkT w3 _ HX hTl).mono ?_
 rintro e w4 ⟨v4,F,rfl,hPw,hFm⟩
 obtain⟨f,rfl,hfx⟩:=wk_one hFm
 have hv4:=hPw.holds
 obtain⟨o4,c4,rfl⟩:=Holds.form hv4.row
 have hB04:=hB03.trans (hPw.low.mono hB03.size)
 have hh4:=hh3.keep hPw.low (Nat.le_refl _)
 have hx4:=(hPw.low.block _ (Array.getElem?_eq_some_iff.1 hx3).1).trans hx3
 have hp4:=(Array.getElem?_eq_some_iff.1 hx4).1
 obtain⟨b4,f4,rfl,hb4,hc4⟩:=HPp.at hv4 (by simp)
 obtain⟨d0,d1,d2⟩:=hc4 0 (by simp)
 obtain⟨g1,g2⟩:=hv4.ins f (by simp)
 have hov:HOw f.hs:=(by
  have h0:f.hs.map (·.1)=[wkK]:=by rw[g1,hfx];rfl
  refine⟨?_,fun z hz=>?_⟩
  ·have:=congrArg List.length h0
   rw[List.length_map] at this
   rw[this]
   decide
  ·have h2:z.1∈[wkK]:=by rw[← h0];exact List.mem_map_of_mem hz
   rw[List.mem_singleton.1 h2]
   decide)
 have hcall:=fun u (hu:Below w4.heap.size w4 u)=>rSamePt_f f.x wkP f.hs [(wkK,.slice (some ⟨w.heap.size,0,none⟩) 4 4)] g1 (show Hid _ from rfl) f.v (.slice (some ⟨w.heap.size+1,0,none⟩) 1 1) u (g2.keep hu (Nat.le_refl _)) (hh4.keep hu (Nat.le_refl _)) hov true (show Hid (true=true↔f.x=wkP) from ⟨fun _=>hfx,fun _=>rfl⟩)
 obtain⟨fo,fc,hfv⟩:=Holds.form g2.row
 have e0:w4.cell? ⟨b4,f4,none⟩=some (.string ⟨f.x.old.toArray⟩):=(by simpa using d0)
 have e4:w4.cell? ⟨b4,f4+1,none⟩=some (.string ⟨f.x.new.toArray⟩):=(by simpa using d1)
 have e5:w4.cell? ⟨b4,f4+2,none⟩=some (.slice fo f.hs.length fc):=(by rw[← hfv];simpa using d2)
 have p0:w4.cell? ⟨w.heap.size+1+1,0,none⟩=some (.string ⟨#[97]⟩):=(by rw[Lib.cell_of_heap hx4];rfl)
 have p1:w4.cell? ⟨w.heap.size+1+1,1,none⟩=some (.string ⟨#[98]⟩):=(by rw[Lib.cell_of_heap hx4];rfl)
 have p2:w4.cell? ⟨w.heap.size+1+1,2,none⟩=some (.slice (some ⟨w.heap.size+1,0,none⟩) 1 1):=(by rw[Lib.cell_of_heap hx4];rfl)
 unfold ptV at hcall
 rw[hfv] at hcall
 have hcall2:∀ u,Below w4.heap.size w4 u→Calls Tryz.prog 58 #[.agg #[.string ⟨f.x.old.toArray⟩,.string ⟨f.x.new.toArray⟩,.slice fo f.hs.length fc],.agg #[.string ⟨#[97]⟩,.string ⟨#[98]⟩,.slice (some ⟨w.heap.size+1,0,none⟩) 1 1]] u fun e w'=>e=.returned (.bool true)∧Below u.heap.size u w':=hcall
 have hlo:=Below.refl w4.heap.size w4
 clear hcall hPw hFm HX hv4 hc4 d0 d1 d2 g1 g2 hfx hfv hh3 hh4 hx3 hx4 hB03 hov hTl
 generalize f.x.old=fold at *
 generalize f.x.new=fnew at *
 have HC:Hid (∀ u,Below w4.heap.size w4 u→u.cell? ⟨b4,f4,none⟩=some (.string ⟨fold.toArray⟩)∧u.cell? ⟨b4,f4+1,none⟩=some (.string ⟨fnew.toArray⟩)∧u.cell? ⟨b4,f4+2,none⟩=some (.slice fo f.hs.length fc)∧u.cell? ⟨w.heap.size+1+1,0,none⟩=some (.string ⟨#[97]⟩)∧u.cell? ⟨w.heap.size+1+1,1,none⟩=some (.string ⟨#[98]⟩)∧u.cell? ⟨w.heap.size+1+1,2,none⟩=some (.slice (some ⟨w.heap.size+1,0,none⟩) 1 1)):=fun u hu =>
  ⟨(World.cell?_of_block (hu.block b4 hb4)).trans e0,(World.cell?_of_block (hu.block b4 hb4)).trans e4,(World.cell?_of_block (hu.block b4 hb4)).trans e5,(World.cell?_of_block (hu.block _ hp4)).trans p0,(World.cell?_of_block (hu.block _ hp4)).trans p1,(World.cell?_of_block (hu.block _ hp4)).trans p2⟩
 clear e0 e4 e5 p0 p1 p2
 simp only[List.length_cons,List.length_nil,Nat.zero_add]
 go_upto_region 4 with fail
 refine wp_region_noPanic ?_
 refine wp_region_held_drew (S:=fun u=>Below w4.heap.size w4 u) (by kernel_rfl) (Below.refl _ w4).drew (fun hHeld=>?_)
 generalize w4.drew=wd at hHeld ⊢
 refine go_take 0 24 _ (.int .i64 0) rfl (by kernel_rfl) (by kernel_rfl) (by kernel_rfl) (by kernel_rfl) (fun _ _ _ h=>h) (Or.inl ⟨by kernel_rfl,fun u hu=>by kernel_rfl⟩) hHeld ?_
 simp only[Act.put,List.setIfInBounds_toArray,List.set_cons_zero,List.set_cons_succ]
 refine go_take 1 25 _ (.bool true) rfl (by kernel_rfl) (by kernel_rfl) (by kernel_rfl) (by kernel_rfl) (fun _ _ _ h=>h) (Or.inl ⟨by kernel_rfl,fun u hu=>by kernel_rfl⟩) hHeld ?_
 simp only[Act.put,List.setIfInBounds_toArray,List.set_cons_zero,List.set_cons_succ]
 refine go_take 2 26 _ (.bool true) rfl (by kernel_rfl) (by kernel_rfl) (by kernel_rfl) (by kernel_rfl) (fun _ _ _ h=>h) (Or.inl ⟨by kernel_rfl,fun u hu=>by kernel_rfl⟩) hHeld ?_
 simp only[Act.put,List.setIfInBounds_toArray,List.set_cons_zero,List.set_cons_succ]
 refine go_take 3 27 _ (.string ⟨wkT.toArray⟩) rfl (by kernel_rfl) (by kernel_rfl) (by kernel_rfl) (by kernel_rfl) (fun _ _ _ h=>h) (Or.inl ⟨by kernel_rfl,fun u hu=>by kernel_rfl⟩) hHeld ?_
 simp only[Act.put,List.setIfInBounds_toArray,List.set_cons_zero,List.set_cons_succ]
 refine go_take 4 28 _ (.bool true) rfl (by kernel_rfl) (by kernel_rfl) (by kernel_rfl) (by kernel_rfl) (fun _ _ _ h=>h) (Or.inl ⟨by kernel_rfl,fun u hu=>by kernel_rfl⟩) hHeld ?_
 simp only[Act.put,List.setIfInBounds_toArray,List.set_cons_zero,List.set_cons_succ]
 refine go_take 5 29 _ (.bool true) rfl (by kernel_rfl) (by kernel_rfl) (by kernel_rfl) (by kernel_rfl) (fun _ _ _ h=>h) (Or.inl ⟨by kernel_rfl,fun u hu=>by kernel_rfl⟩) hHeld ?_
 simp only[Act.put,List.setIfInBounds_toArray,List.set_cons_zero,List.set_cons_succ]
 refine go_take 6 30 _ (.bool true) rfl (by kernel_rfl) (by kernel_rfl) (by kernel_rfl) (by kernel_rfl) (fun _ _ _ h=>h) (Or.inl ⟨by kernel_rfl,fun u hu=>by kernel_rfl⟩) hHeld ?_
 simp only[Act.put,List.setIfInBounds_toArray,List.set_cons_zero,List.set_cons_succ]
 refine go_take 7 31 _ (.nilIface) rfl (by kernel_rfl) (by kernel_rfl) (by kernel_rfl) (by kernel_rfl) (fun _ _ _ h=>h) (Or.inl ⟨by kernel_rfl,fun u hu=>by kernel_rfl⟩) hHeld ?_
 simp only[Act.put,List.setIfInBounds_toArray,List.set_cons_zero,List.set_cons_succ]
 refine go_take 8 32 _ (.bool true) rfl (by kernel_rfl) (by kernel_rfl) (by kernel_rfl) (by kernel_rfl) (fun _ _ _ h=>h) (Or.inl ⟨by kernel_rfl,fun u hu=>by kernel_rfl⟩) hHeld ?_
 simp only[Act.put,List.setIfInBounds_toArray,List.set_cons_zero,List.set_cons_succ]
 refine go_take 9 33 _ (.bool true) rfl (by kernel_rfl) (by kernel_rfl) (by kernel_rfl) (by kernel_rfl) (fun _ _ _ h=>h) (Or.inl ⟨by kernel_rfl,fun u hu=>by kernel_rfl⟩) hHeld ?_
 simp only[Act.put,List.setIfInBounds_toArray,List.set_cons_zero,List.set_cons_succ]
 refine go_take 10 34 _ (.bool true) rfl (by kernel_rfl) (by kernel_rfl) (by kernel_rfl) (by kernel_rfl) (fun _ _ _ h=>h) (Or.inl ⟨by kernel_rfl,fun u hu=>by kernel_rfl⟩) hHeld ?_
 simp only[Act.put,List.setIfInBounds_toArray,List.set_cons_zero,List.set_cons_succ]
 refine go_take 11 35 _ (.slice (some ⟨b4,f4,none⟩) 1 c4) rfl (by kernel_rfl) (by kernel_rfl) (by kernel_rfl) (by kernel_rfl) (fun _ _ _ h=>h) (Or.inl ⟨by kernel_rfl,fun u hu=>by kernel_rfl⟩) hHeld ?_
 simp only[Act.put,List.setIfInBounds_toArray,List.set_cons_zero,List.set_cons_succ]
 refine go_take 12 36 _ (.int .i64 1) rfl (by kernel_rfl) (by kernel_rfl) (by kernel_rfl) (by kernel_rfl) (fun _ _ _ h=>h) (Or.inl ⟨by kernel_rfl,fun u hu=>by kernel_rfl⟩) hHeld ?_
 simp only[Act.put,List.setIfInBounds_toArray,List.set_cons_zero,List.set_cons_succ]
 refine go_take 13 37 _ (.bool true) rfl (by kernel_rfl) (by kernel_rfl) (by kernel_rfl) (by kernel_rfl) (fun _ _ _ h=>h) (Or.inl ⟨by kernel_rfl,fun u hu=>by kernel_rfl⟩) hHeld ?_
 simp only[Act.put,List.setIfInBounds_toArray,List.set_cons_zero,List.set_cons_succ]
 refine go_take 14 38 _ (.bool true) rfl (by kernel_rfl) (by kernel_rfl) (by kernel_rfl) (by kernel_rfl) (fun _ _ _ h=>h) (Or.inl ⟨by kernel_rfl,fun u hu=>by kernel_rfl⟩) hHeld ?_
 simp only[Act.put,List.setIfInBounds_toArray,List.set_cons_zero,List.set_cons_succ]
 refine go_take 15 39 _ (.bool true) rfl (by kernel_rfl) (by kernel_rfl) (by kernel_rfl) (by kernel_rfl) (fun _ _ _ h=>h) (Or.inl ⟨by kernel_rfl,fun u hu=>by kernel_rfl⟩) hHeld ?_
 simp only[Act.put,List.setIfInBounds_toArray,List.set_cons_zero,List.set_cons_succ]
 refine go_take 16 40 _ (.slice (some ⟨b4,f4,none⟩) 1 c4) rfl (by kernel_rfl) (by kernel_rfl) (by kernel_rfl) (by kernel_rfl) (fun _ _ _ h=>h) (Or.inl ⟨by kernel_rfl,fun u hu=>by kernel_rfl⟩) hHeld ?_
 simp only[Act.put,List.setIfInBounds_toArray,List.set_cons_zero,List.set_cons_succ]
 refine go_take 17 41 _ (.pointer (some ⟨b4,f4,none⟩)) rfl (by kernel_rfl) (by kernel_rfl) (by kernel_rfl) (by kernel_rfl) (fun _ _ _ h=>h) (Or.inl ⟨by kernel_rfl,fun u hu=>by kernel_rfl⟩) hHeld ?_
 simp only[Act.put,List.setIfInBounds_toArray,List.set_cons_zero,List.set_cons_succ]
 refine go_take 18 42 _ (.agg #[.string ⟨fold.toArray⟩,.string ⟨fnew.toArray⟩,.slice fo f.hs.length fc]) rfl (by kernel_rfl) (by kernel_rfl) (by kernel_rfl) (by kernel_rfl) (fun _ _ _ h=>h) (Or.inl ⟨by kernel_rfl,fun u hu=>load_ptc (HC.out u hu).1 (HC.out u hu).2.1 (HC.out u hu).2.2.1 (.tmp 41) (by kernel_rfl) (by kernel_rfl)⟩) hHeld ?_
 simp only[Act.put,List.setIfInBounds_toArray,List.set_cons_zero,List.set_cons_succ]
 refine go_take 19 43 _ (.agg #[.string ⟨#[97]⟩,.string ⟨#[98]⟩,.slice (some ⟨w.heap.size+1,0,none⟩) 1 1]) rfl (by kernel_rfl) (by kernel_rfl) (by kernel_rfl) (by kernel_rfl) (fun _ _ _ h=>h) (Or.inl ⟨by kernel_rfl,fun u hu=>load_ptc (HC.out u hu).2.2.2.1 (HC.out u hu).2.2.2.2.1 (HC.out u hu).2.2.2.2.2 (.tmp 1) (by kernel_rfl) (by kernel_rfl)⟩) hHeld ?_
 simp only[Act.put,List.setIfInBounds_toArray,List.set_cons_zero,List.set_cons_succ]
 refine go_callE 20 44 _ rfl (by kernel_rfl) (by kernel_rfl) (by kernel_rfl) 58 (.func 58) #[.tmp 42,.tmp 43] #[55,55] (by kernel_rfl) #[] (by kernel_rfl) #[.agg #[.string ⟨fold.toArray⟩,.string ⟨fnew.toArray⟩,.slice fo f.hs.length fc],.agg #[.string ⟨#[97]⟩,.string ⟨#[98]⟩,.slice (some ⟨w.heap.size+1,0,none⟩) 1 1]] (by kernel_rfl) (enters_of Tryz.func58 (by kernel_rfl) rfl) (fun v _=>v=.bool true) ?_ ?_
 ·refine (hcall2 wd hHeld).mono ?_
  rintro e w5 ⟨rfl,hB5⟩
  exact⟨_,rfl,hHeld.trans (hB5.mono hHeld.size),rfl⟩
 clear hHeld
 rintro v w5 hHeld rfl
 simp only[Act.put,List.setIfInBounds_toArray,List.set_cons_zero,List.set_cons_succ]
 refine go_take 21 45 _ (.bool true) rfl (by kernel_rfl) (by kernel_rfl) (by kernel_rfl) (by kernel_rfl) (fun _ _ _ h=>h) (Or.inl ⟨by kernel_rfl,fun u hu=>by kernel_rfl⟩) hHeld ?_
 simp only[Act.put,List.setIfInBounds_toArray,List.set_cons_zero,List.set_cons_succ]
 refine go_take 22 0 _ (.bool true) rfl (by kernel_rfl) (by kernel_rfl) (by kernel_rfl) (by kernel_rfl) (fun _ _ _ h=>h) (Or.inl ⟨by kernel_rfl,fun u hu=>by kernel_rfl⟩) hHeld ?_
 simp only[Act.put,List.setIfInBounds_toArray,List.set_cons_zero]
 refine wpAnyH_done (by kernel_rfl) ?_ _
 refine NoPanic.normal ?_
 have hB6:=hB04.trans (hHeld.mono hB04.size)
 go_wp2
 go_ret
 exact⟨rfl,hB6⟩
end

section
open Go.RowKit
end

section
open Go.RowKit
end

end Go.Proofs.YtgiojkhmkeocfaaGreatDoor

namespace Go.Proofs.YtgiojkhmkeocfaaGreatDoor.Es

section
open Go.RowKit Go.Extern.Stop Go.Stop Go.Extern
theorem mKind (h : Value) (w : World) : (Go.method 486 193 (.agg #[h]) "Kind").run Tryz.prog w = .ok (329, h) w := by kernel_rfl
theorem mElem (h : Value) (w : World) : (Go.method 486 193 (.agg #[h]) "Elem").run Tryz.prog w = .ok (342, .agg #[h]) w := by kernel_rfl
theorem mImplements (h : Value) (w : World) : (Go.method 486 193 (.agg #[h]) "Implements").run Tryz.prog w = .ok (343, .agg #[h]) w := by kernel_rfl
theorem mAssignableTo (h : Value) (w : World) : (Go.method 486 193 (.agg #[h]) "AssignableTo").run Tryz.prog w = .ok (340, .agg #[h]) w := by kernel_rfl
theorem Ef.valueOfP (t:Addr) (w:World):(ReflectliteValue.unpack (.iface 95 (.pointer (some t)))).run Tryz.prog w
  = .ok (.agg #[.pointer (some ⟨7,95,none⟩),.pointer (some ⟨w.heap.size,0,none⟩),.int .u64 150]) (w.alloc (.cells #[.pointer (some t)] 95)):=by kernel_rfl
theorem Ef.typeP (a : Addr) (w : World) : (ReflectliteValue.methodAny (ReflectliteValue.valueError "reflectlite.Value.Type" 0) (fun t _ _ _ => ReflectliteType.toType t) #[.agg #[.pointer (some ⟨7, 95, none⟩), .pointer (some a), .int .u64 150]]).run Tryz.prog w
  = .ok (.iface 193 (.agg #[.pointer (some ⟨7,95,none⟩)])) w:=by kernel_rfl
theorem Ef.kindP (w:World):((ReflectliteType.abiMethod fun t=>Functor.map (fun a:Nat=>Value.int IntKind.u8 (a:Int)) (Rtype.kind t)) #[.pointer (some ⟨7,95,none⟩)]).run Tryz.prog w=.ok (.int .u8 22) w:=by kernel_rfl
theorem Ef.kindE (w:World):((ReflectliteType.abiMethod fun t=>Functor.map (fun a:Nat=>Value.int IntKind.u8 (a:Int)) (Rtype.kind t)) #[.pointer (some ⟨7,86,none⟩)]).run Tryz.prog w=.ok (.int .u8 22) w:=by kernel_rfl
theorem Ef.partsP (a:Addr) (w:World):(ReflectliteValue.parts (.agg #[.pointer (some ⟨7,95,none⟩),.pointer (some a),.int .u64 150])).run Tryz.prog w=.ok (some (95,a,150)) w:=by kernel_rfl
theorem Ef.isNilP (a p:Addr) (W:World) (ha:W.cell? a=some (.pointer (some p))) :
  (ReflectliteValue.method (ReflectliteValue.valueError "reflectlite.Value.IsNil" 0) ReflectliteValue.isNil #[.agg #[.pointer (some ⟨7, 95, none⟩), .pointer (some a), .int .u64 150]]).run Tryz.prog W = .ok (.bool false) W := by
 show Sem.run Tryz.prog (ReflectliteValue.parts (.agg #[.pointer (some ⟨7,95,none⟩),.pointer (some a),.int .u64 150]) >>= _) W=_
 simp only[Sem.run_bind,Ef.partsP,Result.andThen]
 simp[ReflectliteValue.isNil,loadVar,isAgg,underlying,Tryz.underlying95,ha,Result.andThen]
theorem Ef.elemP (w:World):(ReflectliteType.method ReflectliteType.elem #[.agg #[.pointer (some ⟨7,95,none⟩)]]).run Tryz.prog w=.ok (.iface 193 (.agg #[.pointer (some ⟨7,86,none⟩)])) w:=by kernel_rfl
theorem Ef.implementsE (w : World) : (ReflectliteType.relation "Implements" ReflectliteType.implements_ #[.agg #[.pointer (some ⟨7, 86, none⟩)], .iface 193 (.agg #[.pointer (some ⟨7, 36, none⟩)])]).run Tryz.prog w = .ok (.bool true) w := by kernel_rfl
theorem Ef.typeOfE (v:Value) (w:World):(ReflectliteType.typeOf #[.iface 86 v]).run Tryz.prog w=.ok (.iface 193 (.agg #[.pointer (some ⟨7,86,none⟩)])) w:=by kernel_rfl
theorem Ef.assignableE (w : World) : (ReflectliteType.relation "AssignableTo" ReflectliteType.assignableTo #[.agg #[.pointer (some ⟨7, 86, none⟩)], .iface 193 (.agg #[.pointer (some ⟨7, 86, none⟩)])]).run Tryz.prog w = .ok (.bool true) w := by kernel_rfl
theorem Ef.valueOfE (e:Addr) (w:World):(ReflectliteValue.unpack (.iface 86 (.pointer (some e)))).run Tryz.prog w
  = .ok (.agg #[.pointer (some ⟨7,86,none⟩),.pointer (some ⟨w.heap.size,0,none⟩),.int .u64 150]) (w.alloc (.cells #[.pointer (some e)] 86)):=by kernel_rfl
theorem Ef.elemOfP (w:World):(Rtype.elem? 95).run Tryz.prog w=.ok (some 86) w:=by kernel_rfl
theorem Ef.mkE (p:Addr) (w:World):(ReflectliteValue.mk 86 p ReflectliteValue.flagAddr).run Tryz.prog w=.ok (.agg #[.pointer (some ⟨7,86,none⟩),.pointer (some p),.int .u64 406]) w:=by kernel_rfl
theorem Ef.elemVP (a p:Addr) (W:World) (ha:W.cell? a=some (.pointer (some p))) :
  (ReflectliteValue.method (ReflectliteValue.valueError "reflectlite.Value.Elem" 0) ReflectliteValue.elem #[.agg #[.pointer (some ⟨7, 95, none⟩), .pointer (some a), .int .u64 150]]).run Tryz.prog W
   = .ok (.agg #[.pointer (some ⟨7,86,none⟩),.pointer (some p),.int .u64 406]) W:=by
 show Sem.run Tryz.prog (ReflectliteValue.parts (.agg #[.pointer (some ⟨7,95,none⟩),.pointer (some a),.int .u64 150]) >>= _) W=_
 simp only[Sem.run_bind,Ef.partsP,Result.andThen]
 simp[ReflectliteValue.elem,loadVar,isAgg,underlying,Tryz.underlying95,ha,Result.andThen,Ef.elemOfP,Ef.mkE]
theorem Ef.partsEa (a:Addr) (w:World):(ReflectliteValue.parts (.agg #[.pointer (some ⟨7,86,none⟩),.pointer (some a),.int .u64 406])).run Tryz.prog w=.ok (some (86,a,406)) w:=by kernel_rfl
theorem Ef.partsE (a:Addr) (w:World):(ReflectliteValue.parts (.agg #[.pointer (some ⟨7,86,none⟩),.pointer (some a),.int .u64 150])).run Tryz.prog w=.ok (some (86,a,150)) w:=by kernel_rfl
theorem Ef.directE (w:World):(Rtype.directlyAssignable 86 86).run Tryz.prog w=.ok true w:=by kernel_rfl
theorem Ef.setE (ta b:Addr) (e:Addr) (old:Value) (W:World) (hb:W.cell? b=some (.pointer (some e))) (ht:W.cell? ta=some old) (hf:W.frozen? ta=false) :
  (ReflectliteValue.set #[.agg #[.pointer (some ⟨7,86,none⟩),.pointer (some ta),.int .u64 406],.agg #[.pointer (some ⟨7,86,none⟩),.pointer (some b),.int .u64 150]]).run Tryz.prog W
   = .ok (.tuple #[]) (W.setCell ta (.pointer (some e))):=by
 show Sem.run Tryz.prog (ReflectliteValue.parts (.agg #[.pointer (some ⟨7,86,none⟩),.pointer (some ta),.int .u64 406]) >>= fun p=>ReflectliteValue.parts (.agg #[.pointer (some ⟨7,86,none⟩),.pointer (some b),.int .u64 150]) >>= fun q=>_) W=_
 simp only[Sem.run_bind,Ef.partsEa,Ef.partsE,Result.andThen]
 simp[ReflectliteValue.flagAddr,loadVar,isAgg,underlying,Tryz.underlying86,hb,Result.andThen,Ef.directE,storeVar,Value.cells,storeCells,Addr.add]
 rw[run_store Tryz.prog W ta _ _ (by rfl)]
 simp[ht,hf]
theorem Ef.as_hit (e:Addr) (t:Addr) (old:Value) (w:World) (hg:w.cell? ⟨0,0,none⟩=some (.iface 193 (.agg #[.pointer (some ⟨7,36,none⟩)]))) (ht0:w.cell? t=some old) (hf0:w.frozen? t=false) :
  Calls Tryz.prog 45 #[.iface 86 (.pointer (some e)),.iface 95 (.pointer (some t))] w fun ev w'=>ev=.returned (.bool true)∧w'=((((w.alloc (.cells #[.pointer (some t)] 95)).alloc (.cells #[.pointer (some ⟨7,95,none⟩),.pointer (some ⟨w.heap.size,0,none⟩),.int .u64 150] 146)).alloc (.cells #[.pointer (some ⟨7,95,none⟩),.pointer (some ⟨w.heap.size,0,none⟩),.int .u64 150] 146)).alloc (.cells #[.pointer (some e)] 86)).setCell t (.pointer (some e)):=by
 have h6:=@run_callFunc_extern Tryz.prog 89 _ (fun args=>ReflectliteValue.unpack (args.getD 0 (.tuple #[]))) Tryz.func89 (by kernel_rfl) (by kernel_rfl) (by kernel_rfl) (by kernel_rfl)
 have h7 := @run_callFunc_extern Tryz.prog 90 _ (ReflectliteValue.methodAny (ReflectliteValue.valueError "reflectlite.Value.Type" 0) (fun t _ _ _ => ReflectliteType.toType t)) Tryz.func90 (by kernel_rfl) (by kernel_rfl) (by kernel_rfl) (by kernel_rfl)
 have h8 := @run_callFunc_extern Tryz.prog 91 _ (ReflectliteValue.method (ReflectliteValue.valueError "reflectlite.Value.IsNil" 0) ReflectliteValue.isNil) Tryz.func91 (by kernel_rfl) (by kernel_rfl) (by kernel_rfl) (by kernel_rfl)
 have h27:=@run_callFunc_extern Tryz.prog 329 _ (ReflectliteType.abiMethod fun t=>do pure (.int .u8 (← Rtype.kind t))) Tryz.func329 (by kernel_rfl) (by kernel_rfl) (by kernel_rfl) (by kernel_rfl)
 have h37:=@run_callFunc_extern Tryz.prog 342 _ (ReflectliteType.method ReflectliteType.elem) Tryz.func342 (by kernel_rfl) (by kernel_rfl) (by kernel_rfl) (by kernel_rfl)
 have h38 := @run_callFunc_extern Tryz.prog 343 _ (ReflectliteType.relation "Implements" ReflectliteType.implements_) Tryz.func343 (by kernel_rfl) (by kernel_rfl) (by kernel_rfl) (by kernel_rfl)
 have h10:=@run_callFunc_extern Tryz.prog 143 _ ReflectliteType.typeOf Tryz.func143 (by kernel_rfl) (by kernel_rfl) (by kernel_rfl) (by kernel_rfl)
 have h35 := @run_callFunc_extern Tryz.prog 340 _ (ReflectliteType.relation "AssignableTo" ReflectliteType.assignableTo) Tryz.func340 (by kernel_rfl) (by kernel_rfl) (by kernel_rfl) (by kernel_rfl)
 have h11 := @run_callFunc_extern Tryz.prog 144 _ (ReflectliteValue.method (ReflectliteValue.valueError "reflectlite.Value.Elem" 0) ReflectliteValue.elem) Tryz.func144 (by kernel_rfl) (by kernel_rfl) (by kernel_rfl) (by kernel_rfl)
 have h12:=@run_callFunc_extern Tryz.prog 145 _ ReflectliteValue.set Tryz.func145 (by kernel_rfl) (by kernel_rfl) (by kernel_rfl) (by kernel_rfl)
 have tO:=Ef.typeOfE
 have mA:=mAssignableTo
 have a25:=Ef.assignableE
 have v25:=Ef.valueOfE
 have f6:=Ef.valueOfP
 have f7:=Ef.typeP
 have mK:=mKind
 have mE:=mElem
 have mI:=mImplements
 have k27:=Ef.kindP
 have k25:=Ef.kindE
 have e27:=Ef.elemP
 have i25:=Ef.implementsE
 have n8:=Ef.isNilP ⟨w.heap.size,0,none⟩ t ((w.alloc (.cells #[.pointer (some t)] 95)).alloc (.cells #[.pointer (some ⟨7,95,none⟩),.pointer (some ⟨w.heap.size,0,none⟩),.int .u64 150] 146)) (by simp)
 have hlt:0<w.heap.size:=by
  rcases Nat.lt_or_ge 0 w.heap.size with h | h
  ·exact h
  ·simp[World.cell?,Array.getElem?_eq_none h] at hg
 have hg2:((w.alloc (.cells #[.pointer (some t)] 95)).alloc (.cells #[.pointer (some ⟨7,95,none⟩),.pointer (some ⟨w.heap.size,0,none⟩),.int .u64 150] 146)).cell? ⟨0,0,none⟩=some (.iface 193 (.agg #[.pointer (some ⟨7,36,none⟩)])):=by
  rw[World.cell?_alloc_lt _ _ ⟨0,0,none⟩ (by simp<;>omega),World.cell?_alloc_lt _ _ ⟨0,0,none⟩ hlt];exact hg
 have htl:t.block<w.heap.size:=by
  rcases Nat.lt_or_ge t.block w.heap.size with h | h
  ·exact h
  ·simp[World.cell?,Array.getElem?_eq_none h] at ht0
 have el:=Ef.elemVP ⟨w.heap.size,0,none⟩ t (((w.alloc (.cells #[.pointer (some t)] 95)).alloc (.cells #[.pointer (some ⟨7,95,none⟩),.pointer (some ⟨w.heap.size,0,none⟩),.int .u64 150] 146)).alloc (.cells #[.pointer (some ⟨7,95,none⟩),.pointer (some ⟨w.heap.size,0,none⟩),.int .u64 150] 146)) (by rw[World.cell?_alloc_lt _ _ ⟨w.heap.size,0,none⟩ (by simp;omega)];simp)
 have st:=Ef.setE t ⟨w.heap.size+1+1+1,0,none⟩ e old ((((w.alloc (.cells #[.pointer (some t)] 95)).alloc (.cells #[.pointer (some ⟨7,95,none⟩),.pointer (some ⟨w.heap.size,0,none⟩),.int .u64 150] 146)).alloc (.cells #[.pointer (some ⟨7,95,none⟩),.pointer (some ⟨w.heap.size,0,none⟩),.int .u64 150] 146)).alloc (.cells #[.pointer (some e)] 86))
  (by rw[World.cell?_alloc_at _ _ _ _ (by simp)];rfl)
  (by rw[World.cell?_alloc_lt _ _ t (by simp;omega),World.cell?_alloc_lt _ _ t (by simp;omega),World.cell?_alloc_lt _ _ t (by simp;omega),World.cell?_alloc_lt _ _ t htl];exact ht0)
  (by rw[World.frozen?_alloc_old _ _ t (by simp;omega),World.frozen?_alloc_old _ _ t (by simp;omega),World.frozen?_alloc_old _ _ t (by simp;omega),World.frozen?_alloc_old _ _ t (Nat.ne_of_lt htl)];exact hf0)
 go_enter Tryz.func45,Tryz.ntmps45
 go_wp2
 refine wp_loop_rounds 1 ?_
 rw[rounds_succ]
 go_wp2
 go_ret
 exact⟨rfl,rfl⟩
theorem En.valueOfP (t:Addr) (w:World):(ReflectliteValue.unpack (.iface 96 (.pointer (some t)))).run Tryz.prog w
  = .ok (.agg #[.pointer (some ⟨7,96,none⟩),.pointer (some ⟨w.heap.size,0,none⟩),.int .u64 150]) (w.alloc (.cells #[.pointer (some t)] 96)):=by kernel_rfl
theorem En.typeP (a : Addr) (w : World) : (ReflectliteValue.methodAny (ReflectliteValue.valueError "reflectlite.Value.Type" 0) (fun t _ _ _ => ReflectliteType.toType t) #[.agg #[.pointer (some ⟨7, 96, none⟩), .pointer (some a), .int .u64 150]]).run Tryz.prog w
  = .ok (.iface 193 (.agg #[.pointer (some ⟨7,96,none⟩)])) w:=by kernel_rfl
theorem En.kindP (w:World):((ReflectliteType.abiMethod fun t=>Functor.map (fun a:Nat=>Value.int IntKind.u8 (a:Int)) (Rtype.kind t)) #[.pointer (some ⟨7,96,none⟩)]).run Tryz.prog w=.ok (.int .u8 22) w:=by kernel_rfl
theorem En.kindE (w:World):((ReflectliteType.abiMethod fun t=>Functor.map (fun a:Nat=>Value.int IntKind.u8 (a:Int)) (Rtype.kind t)) #[.pointer (some ⟨7,26,none⟩)]).run Tryz.prog w=.ok (.int .u8 2) w:=by kernel_rfl
theorem En.partsP (a:Addr) (w:World):(ReflectliteValue.parts (.agg #[.pointer (some ⟨7,96,none⟩),.pointer (some a),.int .u64 150])).run Tryz.prog w=.ok (some (96,a,150)) w:=by kernel_rfl
theorem En.isNilP (a p:Addr) (W:World) (ha:W.cell? a=some (.pointer (some p))) :
  (ReflectliteValue.method (ReflectliteValue.valueError "reflectlite.Value.IsNil" 0) ReflectliteValue.isNil #[.agg #[.pointer (some ⟨7, 96, none⟩), .pointer (some a), .int .u64 150]]).run Tryz.prog W = .ok (.bool false) W := by
 show Sem.run Tryz.prog (ReflectliteValue.parts (.agg #[.pointer (some ⟨7,96,none⟩),.pointer (some a),.int .u64 150]) >>= _) W=_
 simp only[Sem.run_bind,En.partsP,Result.andThen]
 simp[ReflectliteValue.isNil,loadVar,isAgg,underlying,Tryz.underlying96,ha,Result.andThen]
theorem En.elemP (w:World):(ReflectliteType.method ReflectliteType.elem #[.agg #[.pointer (some ⟨7,96,none⟩)]]).run Tryz.prog w=.ok (.iface 193 (.agg #[.pointer (some ⟨7,26,none⟩)])) w:=by kernel_rfl
theorem En.implementsE (w : World) : (ReflectliteType.relation "Implements" ReflectliteType.implements_ #[.agg #[.pointer (some ⟨7, 26, none⟩)], .iface 193 (.agg #[.pointer (some ⟨7, 36, none⟩)])]).run Tryz.prog w = .ok (.bool true) w := by kernel_rfl
theorem En.typeOfE (v:Value) (w:World):(ReflectliteType.typeOf #[.iface 26 v]).run Tryz.prog w=.ok (.iface 193 (.agg #[.pointer (some ⟨7,26,none⟩)])) w:=by kernel_rfl
theorem En.assignableE (w : World) : (ReflectliteType.relation "AssignableTo" ReflectliteType.assignableTo #[.agg #[.pointer (some ⟨7, 26, none⟩)], .iface 193 (.agg #[.pointer (some ⟨7, 26, none⟩)])]).run Tryz.prog w = .ok (.bool true) w := by kernel_rfl
theorem En.valueOfE (z:Int) (w:World):(ReflectliteValue.unpack (.iface 26 (.int .i64 z))).run Tryz.prog w
  = .ok (.agg #[.pointer (some ⟨7,26,none⟩),.pointer (some ⟨w.heap.size,0,none⟩),.int .u64 130]) (w.alloc (.cells #[.int .i64 z] 26)):=by kernel_rfl
theorem En.elemOfP (w:World):(Rtype.elem? 96).run Tryz.prog w=.ok (some 26) w:=by kernel_rfl
theorem En.mkE (p:Addr) (w:World):(ReflectliteValue.mk 26 p ReflectliteValue.flagAddr).run Tryz.prog w=.ok (.agg #[.pointer (some ⟨7,26,none⟩),.pointer (some p),.int .u64 386]) w:=by kernel_rfl
theorem En.elemVP (a p:Addr) (W:World) (ha:W.cell? a=some (.pointer (some p))) :
  (ReflectliteValue.method (ReflectliteValue.valueError "reflectlite.Value.Elem" 0) ReflectliteValue.elem #[.agg #[.pointer (some ⟨7, 96, none⟩), .pointer (some a), .int .u64 150]]).run Tryz.prog W
   = .ok (.agg #[.pointer (some ⟨7,26,none⟩),.pointer (some p),.int .u64 386]) W:=by
 show Sem.run Tryz.prog (ReflectliteValue.parts (.agg #[.pointer (some ⟨7,96,none⟩),.pointer (some a),.int .u64 150]) >>= _) W=_
 simp only[Sem.run_bind,En.partsP,Result.andThen]
 simp[ReflectliteValue.elem,loadVar,isAgg,underlying,Tryz.underlying96,ha,Result.andThen,En.elemOfP,En.mkE]
theorem En.partsEa (a:Addr) (w:World):(ReflectliteValue.parts (.agg #[.pointer (some ⟨7,26,none⟩),.pointer (some a),.int .u64 386])).run Tryz.prog w=.ok (some (26,a,386)) w:=by kernel_rfl
theorem En.partsE (a:Addr) (w:World):(ReflectliteValue.parts (.agg #[.pointer (some ⟨7,26,none⟩),.pointer (some a),.int .u64 130])).run Tryz.prog w=.ok (some (26,a,130)) w:=by kernel_rfl
theorem En.directE (w:World):(Rtype.directlyAssignable 26 26).run Tryz.prog w=.ok true w:=by kernel_rfl
theorem En.setE (ta b:Addr) (z:Int) (old:Value) (W:World) (hb:W.cell? b=some (.int .i64 z)) (ht:W.cell? ta=some old) (hf:W.frozen? ta=false) :
  (ReflectliteValue.set #[.agg #[.pointer (some ⟨7,26,none⟩),.pointer (some ta),.int .u64 386],.agg #[.pointer (some ⟨7,26,none⟩),.pointer (some b),.int .u64 130]]).run Tryz.prog W
   = .ok (.tuple #[]) (W.setCell ta (.int .i64 z)):=by
 show Sem.run Tryz.prog (ReflectliteValue.parts (.agg #[.pointer (some ⟨7,26,none⟩),.pointer (some ta),.int .u64 386]) >>= fun p=>ReflectliteValue.parts (.agg #[.pointer (some ⟨7,26,none⟩),.pointer (some b),.int .u64 130]) >>= fun q=>_) W=_
 simp only[Sem.run_bind,En.partsEa,En.partsE,Result.andThen]
 simp[ReflectliteValue.flagAddr,loadVar,isAgg,underlying,Tryz.underlying26,hb,Result.andThen,En.directE,storeVar,Value.cells,storeCells,Addr.add]
 rw[run_store Tryz.prog W ta _ _ (by rfl)]
 simp[ht,hf]
theorem En.as_hit (z:Int) (t:Addr) (old:Value) (w:World) (hg:w.cell? ⟨0,0,none⟩=some (.iface 193 (.agg #[.pointer (some ⟨7,36,none⟩)]))) (ht0:w.cell? t=some old) (hf0:w.frozen? t=false) :
  Calls Tryz.prog 45 #[.iface 26 (.int .i64 z),.iface 96 (.pointer (some t))] w fun ev w'=>ev=.returned (.bool true)∧w'=((((w.alloc (.cells #[.pointer (some t)] 96)).alloc (.cells #[.pointer (some ⟨7,96,none⟩),.pointer (some ⟨w.heap.size,0,none⟩),.int .u64 150] 146)).alloc (.cells #[.pointer (some ⟨7,96,none⟩),.pointer (some ⟨w.heap.size,0,none⟩),.int .u64 150] 146)).alloc (.cells #[.int .i64 z] 26)).setCell t (.int .i64 z):=by
 have h6:=@run_callFunc_extern Tryz.prog 89 _ (fun args=>ReflectliteValue.unpack (args.getD 0 (.tuple #[]))) Tryz.func89 (by kernel_rfl) (by kernel_rfl) (by kernel_rfl) (by kernel_rfl)
 have h7 := @run_callFunc_extern Tryz.prog 90 _ (ReflectliteValue.methodAny (ReflectliteValue.valueError "reflectlite.Value.Type" 0) (fun t _ _ _ => ReflectliteType.toType t)) Tryz.func90 (by kernel_rfl) (by kernel_rfl) (by kernel_rfl) (by kernel_rfl)
 have h8 := @run_callFunc_extern Tryz.prog 91 _ (ReflectliteValue.method (ReflectliteValue.valueError "reflectlite.Value.IsNil" 0) ReflectliteValue.isNil) Tryz.func91 (by kernel_rfl) (by kernel_rfl) (by kernel_rfl) (by kernel_rfl)
 have h27:=@run_callFunc_extern Tryz.prog 329 _ (ReflectliteType.abiMethod fun t=>do pure (.int .u8 (← Rtype.kind t))) Tryz.func329 (by kernel_rfl) (by kernel_rfl) (by kernel_rfl) (by kernel_rfl)
 have h37:=@run_callFunc_extern Tryz.prog 342 _ (ReflectliteType.method ReflectliteType.elem) Tryz.func342 (by kernel_rfl) (by kernel_rfl) (by kernel_rfl) (by kernel_rfl)
 have h38 := @run_callFunc_extern Tryz.prog 343 _ (ReflectliteType.relation "Implements" ReflectliteType.implements_) Tryz.func343 (by kernel_rfl) (by kernel_rfl) (by kernel_rfl) (by kernel_rfl)
 have h10:=@run_callFunc_extern Tryz.prog 143 _ ReflectliteType.typeOf Tryz.func143 (by kernel_rfl) (by kernel_rfl) (by kernel_rfl) (by kernel_rfl)
 have h35 := @run_callFunc_extern Tryz.prog 340 _ (ReflectliteType.relation "AssignableTo" ReflectliteType.assignableTo) Tryz.func340 (by kernel_rfl) (by kernel_rfl) (by kernel_rfl) (by kernel_rfl)
 have h11 := @run_callFunc_extern Tryz.prog 144 _ (ReflectliteValue.method (ReflectliteValue.valueError "reflectlite.Value.Elem" 0) ReflectliteValue.elem) Tryz.func144 (by kernel_rfl) (by kernel_rfl) (by kernel_rfl) (by kernel_rfl)
 have h12:=@run_callFunc_extern Tryz.prog 145 _ ReflectliteValue.set Tryz.func145 (by kernel_rfl) (by kernel_rfl) (by kernel_rfl) (by kernel_rfl)
 have tO:=En.typeOfE
 have mA:=mAssignableTo
 have a25:=En.assignableE
 have v25:=En.valueOfE
 have f6:=En.valueOfP
 have f7:=En.typeP
 have mK:=mKind
 have mE:=mElem
 have mI:=mImplements
 have k27:=En.kindP
 have k25:=En.kindE
 have e27:=En.elemP
 have i25:=En.implementsE
 have n8:=En.isNilP ⟨w.heap.size,0,none⟩ t ((w.alloc (.cells #[.pointer (some t)] 96)).alloc (.cells #[.pointer (some ⟨7,96,none⟩),.pointer (some ⟨w.heap.size,0,none⟩),.int .u64 150] 146)) (by simp)
 have hlt:0<w.heap.size:=by
  rcases Nat.lt_or_ge 0 w.heap.size with h | h
  ·exact h
  ·simp[World.cell?,Array.getElem?_eq_none h] at hg
 have hg2:((w.alloc (.cells #[.pointer (some t)] 96)).alloc (.cells #[.pointer (some ⟨7,96,none⟩),.pointer (some ⟨w.heap.size,0,none⟩),.int .u64 150] 146)).cell? ⟨0,0,none⟩=some (.iface 193 (.agg #[.pointer (some ⟨7,36,none⟩)])):=by
  rw[World.cell?_alloc_lt _ _ ⟨0,0,none⟩ (by simp<;>omega),World.cell?_alloc_lt _ _ ⟨0,0,none⟩ hlt];exact hg
 have htl:t.block<w.heap.size:=by
  rcases Nat.lt_or_ge t.block w.heap.size with h | h
  ·exact h
  ·simp[World.cell?,Array.getElem?_eq_none h] at ht0
 have el:=En.elemVP ⟨w.heap.size,0,none⟩ t (((w.alloc (.cells #[.pointer (some t)] 96)).alloc (.cells #[.pointer (some ⟨7,96,none⟩),.pointer (some ⟨w.heap.size,0,none⟩),.int .u64 150] 146)).alloc (.cells #[.pointer (some ⟨7,96,none⟩),.pointer (some ⟨w.heap.size,0,none⟩),.int .u64 150] 146)) (by rw[World.cell?_alloc_lt _ _ ⟨w.heap.size,0,none⟩ (by simp;omega)];simp)
 have st:=En.setE t ⟨w.heap.size+1+1+1,0,none⟩ z old ((((w.alloc (.cells #[.pointer (some t)] 96)).alloc (.cells #[.pointer (some ⟨7,96,none⟩),.pointer (some ⟨w.heap.size,0,none⟩),.int .u64 150] 146)).alloc (.cells #[.pointer (some ⟨7,96,none⟩),.pointer (some ⟨w.heap.size,0,none⟩),.int .u64 150] 146)).alloc (.cells #[.int .i64 z] 26))
  (by rw[World.cell?_alloc_at _ _ _ _ (by simp)];rfl)
  (by rw[World.cell?_alloc_lt _ _ t (by simp;omega),World.cell?_alloc_lt _ _ t (by simp;omega),World.cell?_alloc_lt _ _ t (by simp;omega),World.cell?_alloc_lt _ _ t htl];exact ht0)
  (by rw[World.frozen?_alloc_old _ _ t (by simp;omega),World.frozen?_alloc_old _ _ t (by simp;omega),World.frozen?_alloc_old _ _ t (by simp;omega),World.frozen?_alloc_old _ _ t (Nat.ne_of_lt htl)];exact hf0)
 go_enter Tryz.func45,Tryz.ntmps45
 go_wp2
 refine wp_loop_rounds 1 ?_
 rw[rounds_succ]
 go_wp2
 go_ret
 exact⟨rfl,rfl⟩
end

end Go.Proofs.YtgiojkhmkeocfaaGreatDoor.Es

namespace Go.Proofs.YtgiojkhmkeocfaaGreatDoor

section
open Go.RowKit
def ErrT (w:World):Prop:=w.cell? ⟨0,0,none⟩=some (.iface 193 (.agg #[.pointer (some ⟨7,36,none⟩)]))
theorem ErrT.lt {w:World} (h:ErrT w):0<w.heap.size:=World.block_lt_of_cell? w _ h
theorem ErrT.low {w u:World} {N:Nat} (h:ErrT w) (hb:Below N w u) (hN:w.heap.size≤N):ErrT u:=(World.cell?_of_block (w:=w) (hb.block _ (Nat.lt_of_lt_of_le h.lt hN))).trans h
theorem grown_alc {w u:World} {r:Option Nat} (h:w.grownBy u r) (o:Obj):w.grownBy (u.alloc o) r:=grown_two h (World.grownBy_alloc u o r)
theorem as_fault (g b:Nat) (old:Value) (w:World) (hE:ErrT w) (hb:w.heap[b]?=some (.cells #[old] 86)) :
  Calls Tryz.prog 45 #[.iface 86 (.pointer (some ⟨g,0,none⟩)),.iface 95 (.pointer (some ⟨b,0,none⟩))] w fun e w'=>e=.returned (.bool true)∧w'.heap[b]?=some (.cells #[.pointer (some ⟨g,0,none⟩)] 86)∧w.grownBy w' (some b):=by
 refine (Es.Ef.as_hit ⟨g,0,none⟩ ⟨b,0,none⟩ old w hE (by rw[Lib.cell_of_heap hb];rfl) (Lib.frozen_of_heap hb 0)).mono ?_
 rintro e w' ⟨rfl,rfl⟩
 have hl:=(Array.getElem?_eq_some_iff.1 hb).1
 refine⟨rfl,?_,grown_two (grown_alc (grown_alc (grown_alc (World.grownBy_alloc w _ _) _) _) _) (grown_set _ b 0 _)⟩
 refine (heap_setCell_same _ b 0 #[old] _ _ ?_).trans rfl
 rw[Lib.alloc_old _ _ _ (by simp;omega),Lib.alloc_old _ _ _ (by simp;omega),Lib.alloc_old _ _ _ (by simp;omega),Lib.alloc_old _ _ _ hl]
 exact hb
theorem as_errno (z:Int) (b:Nat) (old:Value) (w:World) (hE:ErrT w) (hb:w.heap[b]?=some (.cells #[old] 26)) :
  Calls Tryz.prog 45 #[.iface 26 (.int .i64 z),.iface 96 (.pointer (some ⟨b,0,none⟩))] w fun e w'=>e=.returned (.bool true)∧w'.heap[b]?=some (.cells #[.int .i64 z] 26)∧w.grownBy w' (some b):=by
 refine (Es.En.as_hit z ⟨b,0,none⟩ old w hE (by rw[Lib.cell_of_heap hb];rfl) (Lib.frozen_of_heap hb 0)).mono ?_
 rintro e w' ⟨rfl,rfl⟩
 have hl:=(Array.getElem?_eq_some_iff.1 hb).1
 refine⟨rfl,?_,grown_two (grown_alc (grown_alc (grown_alc (World.grownBy_alloc w _ _) _) _) _) (grown_set _ b 0 _)⟩
 refine (heap_setCell_same _ b 0 #[old] _ _ ?_).trans rfl
 rw[Lib.alloc_old _ _ _ (by simp;omega),Lib.alloc_old _ _ _ (by simp;omega),Lib.alloc_old _ _ _ (by simp;omega),Lib.alloc_old _ _ _ hl]
 exact hb
def fvO (a z:Int):Obj:=.cells #[.int .i64 a,.int .i64 z] 42
theorem seen_flt (g:Nat) (a z:Int) (w:World) (hE:ErrT w) (hg:w.heap[g]?=some (fltO a z)):Calls Tryz.prog 17 #[.iface 86 (.pointer (some ⟨g,0,none⟩))] w fun e w'=>e=.returned (.agg #[.int .i64 a,.int .i64 z])∧Below w.heap.size w w':=by
 have hgl:=(Array.getElem?_eq_some_iff.1 hg).1
 have z1:(w.alloc (fvO 0 0)).heap.size=w.heap.size+1:=by simp
 have z2:((w.alloc (fvO 0 0)).alloc (.cells #[.pointer none] 86)).heap.size=w.heap.size+1+1:=by simp
 have a0:=heap_alloc_new w (fvO 0 0)
 have a1:=heap_alloc_new (w.alloc (fvO 0 0)) (.cells #[.pointer none] 86)
 have a2:=heap_alloc_new ((w.alloc (fvO 0 0)).alloc (.cells #[.pointer none] 86)) (.cells #[.int .i64 0] 26)
 rw[z1] at a1
 rw[z2] at a2
 have hb1:Below w.heap.size w (w.alloc (fvO 0 0)):=(Below.refl _ w).alloc (Nat.le_refl _) _
 have hb2:=hb1.alloc hb1.size (.cells #[.pointer none] 86)
 have hb3:=hb2.alloc hb2.size (.cells #[.int .i64 0] 26)
 have e1:=(Lib.alloc_old _ (.cells #[.int .i64 0] 26) _ (by rw[z2];omega)).trans a1
 have e0:=(Lib.alloc_old _ (.cells #[.int .i64 0] 26) _ (by rw[z2];omega)).trans ((Lib.alloc_old _ (.cells #[.pointer none] 86) _ (by rw[z1];omega)).trans a0)
 have hg3:=(hb3.block g hgl).trans hg
 have hE3:=hE.low hb3 (Nat.le_refl _)
 have hW:((w.alloc (.cells #[.int .i64 0,.int .i64 0] 42)).alloc (.cells #[.pointer none] 86)).alloc (.cells #[.int .i64 0] 26)=((w.alloc (fvO 0 0)).alloc (.cells #[.pointer none] 86)).alloc (.cells #[.int .i64 0] 26):=rfl
 have hEl:0<w.heap.size:=hE.lt
 clear hb1 hb2 a0 a1 z1 z2 hE hg
 go_enter Tryz.func17,Tryz.ntmps17
 go_wp2_with fail
 clear hW
 generalize ((w.alloc (fvO 0 0)).alloc (.cells #[.pointer none] 86)).alloc (.cells #[.int .i64 0] 26)=W at *
 refine (as_fault g (w.heap.size+1) (.pointer none) W hE3 e1).mono ?_
 rintro e W1 ⟨rfl,e1',hgr⟩
 have kp:∀ (k:Nat) (x:Obj),k≠w.heap.size+1→W.heap[k]?=some x→W1.heap[k]?=some x:=fun k x hk hx=>(hgr.block k (Array.getElem?_eq_some_iff.1 hx).1 (fun e=>hk (Option.some.inj e))).trans hx
 have i0:=kp _ _ (by omega) e0
 have i2:=kp _ _ (by omega) a2
 have ig:=kp _ _ (by omega) hg3
 have hb4:=hb3.grown hgr hb3.size (fun k e=>by cases e;omega)
 have hE4:ErrT W1:=(World.cell?_of_block (w:=W) (hgr.block _ hE3.lt (fun e=>by have h1:0=w.heap.size+1:=Option.some.inj e;omega))).trans hE3
 have c1:W1.cell? ⟨w.heap.size+1,0,none⟩=some (.pointer (some ⟨g,0,none⟩)):=by rw[Lib.cell_of_heap e1'];rfl
 have cg1:W1.cell? ⟨g,1,none⟩=some (.iface 26 (.int .i64 z)):=by unfold fltO at ig;rw[Lib.cell_of_heap ig];rfl
 clear kp e0 e1 a2 hg3 hb3 hE3 hgr
 go_wp2_with fail
 clear c1 cg1
 refine (as_errno z (w.heap.size+1+1) (.int .i64 0) W1 hE4 i2).mono ?_
 rintro e W2 ⟨rfl,i2',hgr⟩
 have kp:∀ (k:Nat) (x:Obj),k≠w.heap.size+1+1→W1.heap[k]?=some x→W2.heap[k]?=some x:=fun k x hk hx=>(hgr.block k (Array.getElem?_eq_some_iff.1 hx).1 (fun e=>hk (Option.some.inj e))).trans hx
 have j0:=kp _ _ (by omega) i0
 have j1:=kp _ _ (by omega) e1'
 have jg:=kp _ _ (by omega) ig
 have hb5:=hb4.grown hgr hb4.size (fun k e=>by cases e;omega)
 have s0:=heap_setCell_same W2 w.heap.size 0 _ _ (.int .i64 a) j0
 have s1:=heap_setCell_same _ w.heap.size 1 _ _ (.int .i64 z) s0
 have hb6:Below w.heap.size w ((W2.setCell ⟨w.heap.size,0,none⟩ (.int .i64 a)).setCell ⟨w.heap.size,1,none⟩ (.int .i64 z)):=(hb5.setCell (Nat.le_refl _) _).setCell (Nat.le_refl _) _
 have c1:W2.cell? ⟨w.heap.size+1,0,none⟩=some (.pointer (some ⟨g,0,none⟩)):=by rw[Lib.cell_of_heap j1];rfl
 have c2:W2.cell? ⟨w.heap.size+1+1,0,none⟩=some (.int .i64 z):=by rw[Lib.cell_of_heap i2'];rfl
 have cg0:W2.cell? ⟨g,0,none⟩=some (.int .i64 a):=by unfold fltO at jg;rw[Lib.cell_of_heap jg];rfl
 have t0:W2.cell? ⟨w.heap.size,0,none⟩=some (.int .i64 0):=by unfold fvO at j0;rw[Lib.cell_of_heap j0];rfl
 have t1:W2.cell? ⟨w.heap.size,1,none⟩=some (.int .i64 0):=by unfold fvO at j0;rw[Lib.cell_of_heap j0];rfl
 have t2:=Lib.frozen_of_heap j0 0
 have t3:=Lib.frozen_of_heap j0 1
 clear kp i0 e1' ig hb4 hE4 i2 i2' hgr j0 j1 jg hb5 s0
 go_wp2_with fail
 go_region
 have s2:((W2.setCell ⟨w.heap.size,0,none⟩ (.int .i64 a)).setCell ⟨w.heap.size,1,none⟩ (.int .i64 z)).drew.heap[w.heap.size]?=some (.cells #[.int .i64 a,.int .i64 z] 42):=s1
 have hb7:=hb6.drew
 clear s1 hb6 c1 c2 cg0 t0 t1 t2 t3
 generalize ((W2.setCell ⟨w.heap.size,0,none⟩ (.int .i64 a)).setCell ⟨w.heap.size,1,none⟩ (.int .i64 z)).drew=W3 at *
 go_wp2
 exact bodyPost_ret (v:=.agg #[.int .i64 a,.int .i64 z]) (results_cell_row rfl _ _ w.heap.size 42 #[.int .i64 a,.int .i64 z] (0,0) _ rfl s2 Tryz.underlying42 rfl (by kernel_rfl)) rfl ⟨rfl,hb7⟩
end

end Go.Proofs.YtgiojkhmkeocfaaGreatDoor
