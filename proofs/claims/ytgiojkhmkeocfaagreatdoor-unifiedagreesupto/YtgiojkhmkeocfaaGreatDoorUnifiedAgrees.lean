/-
  For every number and every two texts of together at most 1048576 letters and values, the law UnifiedAgrees returns true and leaves its arguments as they were: the normal form and the unified form without context say the same hunks of two texts, and the context form and the unified form say the same. The conditions are the statement's own bound and the card's: the library's tables hold what the program's text lays.
-/
import Derived.Test.YtgiojkhmkeocfaaGreatDoorCards
import Derived.Test.YtgiojkhmkeocfaaGreatDoorTie
import Derived.Test.YtgiojkhmkeocfaaGreatDoorUnAgrA19
import Derived.Test.YtgiojkhmkeocfaaGreatDoorUnAgrA21
import Derived.Test.YtgiojkhmkeocfaaGreatDoorUnAgrA16
import Derived.Test.YtgiojkhmkeocfaaGreatDoorUnAgrA15
import Derived.Test.YtgiojkhmkeocfaaGreatDoorUnAgrA20
import Derived.Test.YtgiojkhmkeocfaaGreatDoorUnAgrA6
import Derived.Test.YtgiojkhmkeocfaaGreatDoorUnAgrA8
import Derived.Test.YtgiojkhmkeocfaaGreatDoorUnAgrA22
import Derived.Test.YtgiojkhmkeocfaaGreatDoorUnAgrA5
import Derived.ProofKit
import Derived.OpenShut
import Derived.ShutString
import Derived.JoinedCond
import Derived.Deep.DeepHandedRow
import Derived.Lib.LaidTab
import Derived.LaidSub
set_option maxRecDepth 20000
namespace Go.Proofs.YtgiojkhmkeocfaaGreatDoor.unifiedAgrees
open Go.ChangeShapes Go.WideShapes Go.ChangeAt Go.RowKit
open Go.ChangeMaps (open_string shut_string)
theorem Zlj {l:List (List UInt8)} {s:List UInt8} (h:s∈l):s.length≤l.flatten.length:=by
 induction l with
 | nil=>cases h
 | cons x l ih =>
  rw[List.flatten_cons,List.length_append]
  rcases List.mem_cons.1 h with rfl | h
  ·omega
  ·have:=ih h
   omega
theorem Zrw {t:List UInt8} {M:Nat} (h:t.length≤M):∀ s∈Ln.splitL t,s.length≤M:=by
 intro s hs
 have h1:=congrArg List.length (Ln.split_join t)
 have h2:=Zlj hs
 omega
theorem Zim {q P:List (Hk × Value)} (h:HOk P) (e:q.map (·.1)=P.map (·.1)):HOw q:=by
 refine⟨?_,fun z hz=>?_⟩
 ·have:=congrArg List.length e
  rw[List.length_map,List.length_map] at this
  rw[this]
  exact h.1
 ·have h2:z.1∈P.map (·.1):=by rw[← e];exact List.mem_map_of_mem hz
  obtain⟨z2,h3,h4⟩:=List.mem_map.1 h2
  rw[← h4]
  exact (h.2 z2 h3).1
set_option maxRecDepth 20000 in
set_option maxHeartbeats 16000000 in
theorem walk (s t:List UInt8) (k0:Int) (w:World) (hl:s.length+t.length≤1048576) (HTb0:Tab10 w) (hmx:Mxl w) :
  Calls Tryz.prog 10 #[.string ⟨s.toArray⟩,.string ⟨t.toArray⟩,.int .i64 k0] w fun e w'=>e=.returned (.bool true)∧Below w.heap.size w w':=by
 have HTb:Hid (Tab10 w):=HTb0
 clear HTb0
 obtain⟨x,hx⟩:∃ x,Ln.splitL s=x:=⟨_,rfl⟩
 obtain⟨y,hy⟩:∃ y,Ln.splitL t=y:=⟨_,rfl⟩
 have HXs:Hid (Ln.splitL s=x):=hx
 have HYs:Hid (Ln.splitL t=y):=hy
 have HSx:Hid (∀ u∈x,u.length≤1048576):=(by rw[← hx];exact Zrw (by omega))
 have HSy:Hid (∀ u∈y,u.length≤1048576):=(by rw[← hy];exact Zrw (by omega))
 have hsx:=fun w=>ZlX s w (by omega)
 have hsy:=fun w=>ZlX t w (by omega)
 rw[hx] at hsx
 rw[hy] at hsy
 clear hx hy
 go_enter Tryz.func10,Tryz.ntmps10
 go_wp2_with fail
 refine (Zut w HTb hmx).mono ?_
 rintro e w0 ⟨rfl,hB0⟩
 go_wp2_with fail
 refine (hsx w0).mono ?_
 rintro e w1 ⟨v1,rfl,hown1,hB1⟩
 have ha1:HS w1 v1 x:=holds_of hown1
 obtain⟨ao,ac,rfl⟩:=Holds.form ha1
 clear hown1
 go_wp2_with fail
 refine (hsy w1).mono ?_
 rintro e w2 ⟨v2,rfl,hown2,hB2⟩
 have hb2:HS w2 v2 y:=holds_of hown2
 obtain⟨bo,bc,rfl⟩:=Holds.form hb2
 have ha2:=HS.keep ha1 hB2 (Nat.le_refl _)
 have hB01:=hB0.trans (hB1.mono hB0.size)
 have hB02:=hB01.trans (hB2.mono hB01.size)
 clear hown2 hsx hsy ha1 hB0 hB1 hB2 hB01
 by_cases hsm:x.length≤150∧y.length≤150∧s.length+t.length≤100000
 ·obtain⟨hxl,hyl,hnl⟩:=hsm
  obtain⟨c,hc,hcb⟩:=Zeo k0 6 (by omega) (by omega)
  obtain⟨L,hL⟩:∃ L,mkL (eng 1 (clx ig0 x y) (cly ig0 x y)) y.length=L:=⟨_,rfl⟩
  have HL:Hid (mkL (eng 1 (clx ig0 x y) (cly ig0 x y)) y.length=L):=hL
  obtain⟨Q0,Q,hag⟩:=ZaQ 1 s t (by rw[HXs.out];exact hxl) (by rw[HYs.out];exact hyl) hnl (ctx:=c) (L:=L) (by omega) (by rw[HXs.out,HYs.out];exact hL)
  clear hL
  have i1:¬ (150:Int)<(x.length:Int):=by omega
  have i2:¬ (150:Int)<(y.length:Int):=by omega
  have i3:¬ (100000:Int)<(s.length:Int)+(t.length:Int):=by omega
  obtain⟨hscr,hfew,hg0,hg1,hw1,hw2,hln,hlu,hlv,hlc,hrn,hru,hrv,hrc,htwo⟩:=hag
  rw[HXs.out,HYs.out] at hscr hg0 hg1 hw1 hw2 hln hlu hlv hlc hrn hru hrv hrc htwo
  rw[HXs.out] at hfew
  obtain⟨M0,hM0⟩:∃ M0,mkR L x y 0=M0:=⟨_,rfl⟩
  obtain⟨M,hM⟩:∃ M,mkR L x y c=M:=⟨_,rfl⟩
  obtain⟨T,hT⟩:∃ T,prtT L x y=T:=⟨_,rfl⟩
  rw[hM0] at hw1 hlu hrn hru htwo
  rw[hM] at hw2 hlv hlc hrv hrc htwo
  rw[hT] at hln hrn
  obtain⟨U,hU⟩:∃ U,upT ⟨[97],[98],M0⟩=U:=⟨_,rfl⟩
  obtain⟨V,hV⟩:∃ V,upT ⟨[97],[98],M⟩=V:=⟨_,rfl⟩
  obtain⟨C,hC⟩:∃ C,ptT ⟨[97],[98],M⟩=C:=⟨_,rfl⟩
  rw[hU] at hlu hru
  rw[hV] at hlv hrv
  rw[hC] at hlc hrc
  have HM0:Hid (mkR L x y 0=M0):=hM0
  have HM:Hid (mkR L x y c=M):=hM
  have HT:Hid ((if (0:Int)=0 then prtT L x y else [])=T):=(by show _=_;rw[if_pos rfl];exact hT)
  have HR:Hid (chk L x.length y.length=0):=(by show _=_;rw[← Zhf];exact hg0)
  have HU:Hid (upT ⟨[97],[98],M0⟩=U):=hU
  have HV:Hid (upT ⟨[97],[98],M⟩=V):=hV
  have HC:Hid (ptT ⟨[97],[98],M⟩=C):=hC
  have HG0:Hid (grpE L x.length y.length 0=0):=hg0
  have HG1:Hid (grpE L x.length y.length c=0):=hg1
  have HW1:Hid (wrgP ⟨[97],[98],M0⟩=0):=hw1
  have HW2:Hid (wrgP ⟨[97],[98],M⟩=0):=hw2
  have HSC:Hid (Script L x.length y.length):=hscr
  have HRN:Hid (prsT T=.ok M0):=hrn
  have HRU:Hid (unT atC U=.ok Q0):=hru
  have HRV:Hid (unT atC V=.ok Q):=hrv
  have HRC:Hid (cxT C=.ok Q):=hrc
  have HTW:Hid ((Q0=[]∧Q=[]∧M0=[])∨(Q0=[⟨[97],[98],M0⟩]∧Q=[⟨[97],[98],M⟩])):=htwo
  clear hscr hg0 hg1 hw1 hw2 hrn hru hrv hrc htwo hM0 hM hT hU hV hC
  go_wp2_with fail
  refine (Zai ig0 x y _ _ w2 ha2 hb2 (by omega) (by omega) (fun u hu=>Nat.le_trans (HSx.out u hu) (by omega)) (fun u hu=>Nat.le_trans (HSy.out u hu) (by omega)) L HL).mono ?_
  rintro e w3 ⟨v3,rfl,hv3,hB3⟩
  obtain⟨o3,c3,rfl⟩:=Holds.form hv3
  have hB03:=hB02.trans (hB3.mono hB02.size)
  have ha3:=HS.keep ha2 hB3 (Nat.le_refl _)
  have hb3:=HS.keep hb2 hB3 (Nat.le_refl _)
  clear ha2 hb2 hB02 hB3 i1 i2 i3 HL
  go_wp2_with fail
  refine (ZhA L x y 0 _ _ _ w3 hv3 ha3 hb3 (by omega) (by omega) (by omega) 0 HG0 M0 HM0).mono ?_
  rintro e w4 ⟨v4,P0,rfl,hP0,hPm0⟩
  obtain⟨o4,c4,rfl⟩:=(holds_of hP0.own).form
  have hB4:=hP0.low
  have hB04:=hB03.trans (hB4.mono hB03.size)
  have hh4:=hP0.holds
  have ha4:=HS.keep ha3 hB4 (Nat.le_refl _)
  have hb4:=HS.keep hb3 hB4 (Nat.le_refl _)
  have hv4:=HCh.keep hv3 hB4 (Nat.le_refl _)
  have HPM0:Hid (P0.map (·.1)=M0):=hPm0
  have HOK0:Hid (HOk P0):=ZkU (ctx:=0) HSC.out (by omega) (by omega) (by omega) (fun u hu=>Nat.le_trans (HSx.out u hu) (by omega)) (fun u hu=>Nat.le_trans (HSy.out u hu) (by omega)) (by rw[HPM0.out,HM0.out])
  clear ha3 hb3 hv3 hB4 hB03 hP0 hPm0 HG0
  go_wp2_with fail
  rw[hc]
  clear hc
  refine (ZhA L x y c _ _ _ w4 hv4 ha4 hb4 (by omega) (by omega) (by omega) 0 HG1 M HM).mono ?_
  rintro e w5 ⟨v5,P,rfl,hP,hPm⟩
  obtain⟨o5,c5,rfl⟩:=(holds_of hP.own).form
  have hB5:=hP.low
  have hB05:=hB04.trans (hB5.mono hB04.size)
  have hh5:=hP.holds
  have ha5:=HS.keep ha4 hB5 (Nat.le_refl _)
  have hb5:=HS.keep hb4 hB5 (Nat.le_refl _)
  have hv5:=HCh.keep hv4 hB5 (Nat.le_refl _)
  have hh45:=hh4.keep hB5 (Nat.le_refl _)
  have HPM:Hid (P.map (·.1)=M):=hPm
  have HOK:Hid (HOk P):=ZkU (ctx:=c) HSC.out (by omega) (by omega) (by omega) (fun u hu=>Nat.le_trans (HSx.out u hu) (by omega)) (fun u hu=>Nat.le_trans (HSy.out u hu) (by omega)) (by rw[HPM.out,HM.out])
  have HTb5:Hid (Tab10 w5):=HTb.out.on hB05
  clear ha4 hb4 hv4 hB5 hB04 hP hPm HG1 hh4
  go_wp2_with fail
  refine (ZlW L _ _ _ x y w5 hv5 ha5 hb5 (by omega) (by omega) (by omega) (fun u hu=>Nat.le_trans (HSx.out u hu) (by omega)) (fun u hu=>Nat.le_trans (HSy.out u hu) (by omega)) HTb5 0 HR T HT (by omega)).mono ?_
  rintro e w6 ⟨rfl,hB6⟩
  have hB06:=hB05.trans (hB6.mono hB05.size)
  have hh46:=hh45.keep hB6 (Nat.le_refl _)
  have hh56:=hh5.keep hB6 (Nat.le_refl _)
  have HTb6:Hid (Tab10 w6):=HTb.out.on hB06
  have hcall:=Zta ⟨[97],[98],M0⟩ P0 HPM0 (.slice o4 P0.length c4) w6 hh46 HOK0.out (by show 1≤_;omega) (by show 1≤_;omega) HTb6 U 0 HW1 HU (by omega)
  unfold ptV at hcall
  dsimp only at hcall
  clear ha5 hb5 hv5 hB6 hB05 HTb5 HT HR hh45 hh5 HU HW1 HTb6
  go_wp2_with fail
  refine hcall.mono ?_
  rintro e w7 ⟨rfl,hB7⟩
  have hB07:=hB06.trans (hB7.mono hB06.size)
  have hh57:=hh56.keep hB7 (Nat.le_refl _)
  have HTb7:Hid (Tab10 w7):=HTb.out.on hB07
  clear hcall hh46 hh56 hB06 hB7
  have hcall:=Zta ⟨[97],[98],M⟩ P HPM (.slice o5 P.length c5) w7 hh57 HOK.out (by show 1≤_;omega) (by show 1≤_;omega) HTb7 V 0 HW2 HV (by omega)
  unfold ptV at hcall
  dsimp only at hcall
  clear HV HTb7
  go_wp2_with fail
  refine hcall.mono ?_
  rintro e w8 ⟨rfl,hB8⟩
  have hB08:=hB07.trans (hB8.mono hB07.size)
  have hh58:=hh57.keep hB8 (Nat.le_refl _)
  have HTb8:Hid (Tab10 w8):=HTb.out.on hB08
  clear hcall hh57 hB07 hB8
  have hcall:=ZbR ⟨[97],[98],M⟩ P HPM (.slice o5 P.length c5) w8 hh58 HOK.out (by show 1≤_;omega) (by show 1≤_;omega) HTb8 C 0 HW2 HC (by omega)
  unfold ptV at hcall
  dsimp only at hcall
  clear HC HTb8
  go_wp2_with fail
  refine hcall.mono ?_
  rintro e w9 ⟨rfl,hB9⟩
  have hB09:=hB08.trans (hB9.mono hB08.size)
  clear hcall hh58 hB08 hB9
  go_wp2_with fail
  refine (ZlU T w9 (by omega) _ HRN).mono ?_
  rintro e w10 ⟨v10,P5,rfl,hP5,hPm5⟩
  obtain⟨o10,c10,rfl⟩:=(holds_of hP5.own).form
  have hB010:=hB09.trans (hP5.low.mono hB09.size)
  have hh10:=hP5.holds
  have HP5:Hid (P5.map (·.1)=M0):=hPm5
  have HOW5:Hid (HOw P5):=Zim HOK0.out (by rw[HP5.out,HPM0.out])
  clear hP5 hPm5 hB09 HRN
  go_wp2_with fail
  refine (ZsZ U w10 _ HRU (by omega) (hmx.low hB010)).mono ?_
  rintro e w11 ⟨v11,F0,rfl,hPw0,hFm0⟩
  obtain⟨o11,c11,rfl⟩:=(holds_of hPw0.own).form
  have hB011:=hB010.trans (hPw0.low.mono hB010.size)
  have hh11:=hh10.keep hPw0.low (Nat.le_refl _)
  have hF11:=hPw0.holds
  have HF0:Hid (F0.map (·.x)=Q0):=hFm0
  clear hPw0 hFm0 hB010 HRU hh10
  go_wp2_with fail
  refine (ZsZ V w11 _ HRV (by omega) (hmx.low hB011)).mono ?_
  rintro e w12 ⟨v12,F1,rfl,hPw1,hFm1⟩
  obtain⟨o12,c12,rfl⟩:=(holds_of hPw1.own).form
  have hB012:=hB011.trans (hPw1.low.mono hB011.size)
  have hh12:=hh11.keep hPw1.low (Nat.le_refl _)
  have hF012:=hF11.keep hPw1.low
  have hF112:=hPw1.holds
  have HF1:Hid (F1.map (·.x)=Q):=hFm1
  clear hPw1 hFm1 hB011 HRV hh11 hF11
  go_wp2_with fail
  refine (ZbQ C w12 _ HRC (by omega)).mono ?_
  rintro e w13 ⟨v13,F2,rfl,hPw2,hFm2⟩
  obtain⟨o13,c13,rfl⟩:=(holds_of hPw2.own).form
  have hB013:=hB012.trans (hPw2.low.mono hB012.size)
  have hh13:=hh12.keep hPw2.low (Nat.le_refl _)
  have hF013:=hF012.keep hPw2.low
  have hF113:=hF112.keep hPw2.low
  have hF213:=hPw2.holds
  have HF2:Hid (F2.map (·.x)=Q):=hFm2
  clear hPw2 hFm2 hB012 HRC hh12 hF012 hF112
  rcases HTW.out with ⟨q1,q2,q3⟩ | ⟨q1,q2⟩
  ·subst q1
   subst q2
   subst q3
   obtain rfl:F0=[]:=List.map_eq_nil_iff.1 HF0.out
   obtain rfl:F1=[]:=List.map_eq_nil_iff.1 HF1.out
   obtain rfl:F2=[]:=List.map_eq_nil_iff.1 HF2.out
   obtain rfl:P5=[]:=List.map_eq_nil_iff.1 HP5.out
   clear hh13 hF013 hF113 hF213
   simp only[List.length_nil]
   go_wp2_with fail
   go_quiet (fail)
   go_wp2
   go_ret
   exact⟨ret_bool (by simp),Below.dN hB013 _⟩
  ·subst q1
   subst q2
   obtain⟨f0,rfl,hf0⟩:=ZuN HF0.out
   obtain⟨f1,rfl,hf1⟩:=ZuN HF1.out
   obtain⟨f2,rfl,hf2⟩:=ZuN HF2.out
   obtain⟨b0,a0,rfl,_,hc0⟩:=HPp.at hF013 (by simp)
   obtain⟨b1,a1,rfl,_,hc1⟩:=HPp.at hF113 (by simp)
   obtain⟨b2,a2,rfl,_,hc2⟩:=HPp.at hF213 (by simp)
   obtain⟨_,_,d0⟩:=hc0 0 (by simp)
   obtain⟨_,_,d1⟩:=hc1 0 (by simp)
   obtain⟨_,_,d2⟩:=hc2 0 (by simp)
   obtain⟨g01,g02⟩:=hF013.ins f0 (by simp)
   obtain⟨g11,g12⟩:=hF113.ins f1 (by simp)
   obtain⟨g21,g22⟩:=hF213.ins f2 (by simp)
   obtain⟨fo0,fc0,hfv0⟩:=Holds.form g02.row
   obtain⟨fo1,fc1,hfv1⟩:=Holds.form g12.row
   obtain⟨fo2,fc2,hfv2⟩:=Holds.form g22.row
   have HR1:Hid (true=true↔P5.map (·.1)=f0.hs.map (·.1)):=⟨fun _=>by rw[g01,hf0,HP5.out],fun _=>rfl⟩
   have HR2:Hid (true=true↔f1.hs.map (·.1)=f2.hs.map (·.1)):=⟨fun _=>by rw[g11,g21,hf1,hf2],fun _=>rfl⟩
   have HOW1:Hid (HOw f1.hs):=Zim HOK.out (by rw[g11,hf1,HPM.out])
   have e0:w13.cell? ⟨b0,a0+2,none⟩=some (.slice fo0 f0.hs.length fc0):=(by rw[← hfv0];simpa using d0)
   have e1:w13.cell? ⟨b1,a1+2,none⟩=some (.slice fo1 f1.hs.length fc1):=(by rw[← hfv1];simpa using d1)
   have e2:w13.cell? ⟨b2,a2+2,none⟩=some (.slice fo2 f2.hs.length fc2):=(by rw[← hfv2];simpa using d2)
   rw[hfv0] at g02
   rw[hfv1] at g12
   rw[hfv2] at g22
   have hcall:=fun u (hu:Below w13.heap.size w13 u)=>Zpl P5 f0.hs (.slice o10 P5.length c10) (.slice fo0 f0.hs.length fc0) u (hh13.keep hu (Nat.le_refl _)) (g02.keep hu (Nat.le_refl _)) HOW5.out true HR1
   have hcall2:=fun u (hu:Below w13.heap.size w13 u)=>Zpl f1.hs f2.hs (.slice fo1 f1.hs.length fc1) (.slice fo2 f2.hs.length fc2) u (g12.keep hu (Nat.le_refl _)) (g22.keep hu (Nat.le_refl _)) HOW1.out true HR2
   have hR0:Below w13.heap.size w13 w13:=Below.refl _ _
   clear hh13 hF013 hF113 hF213 hc0 hc1 hc2 d0 d1 d2 hfv0 hfv1 hfv2
   have HC:Hid (∀ u,Below w13.heap.size w13 u→u.cell? ⟨b0,a0+2,none⟩=some (.slice fo0 f0.hs.length fc0)∧u.cell? ⟨b1,a1+2,none⟩=some (.slice fo1 f1.hs.length fc1)∧u.cell? ⟨b2,a2+2,none⟩=some (.slice fo2 f2.hs.length fc2)):=fun u hu =>
    ⟨(World.cell?_of_block (w:=w13) (hu.block _ (World.block_lt_of_cell? _ _ e0))).trans e0,(World.cell?_of_block (w:=w13) (hu.block _ (World.block_lt_of_cell? _ _ e1))).trans e1,(World.cell?_of_block (w:=w13) (hu.block _ (World.block_lt_of_cell? _ _ e2))).trans e2⟩
   clear e0 e1 e2 g02 g12 g22 g01 g11 g21 hf0 hf1 hf2 hR0
   simp only[List.length_cons,List.length_nil,Nat.zero_add]
   go_upto_region 23 with fail
   refine wp_region_noPanic ?_
   refine wp_region_held_drew (S:=fun u=>Below w13.heap.size w13 u) (by kernel_rfl) (Below.refl _ w13).drew (fun hHeld=>?_)
   generalize w13.drew=wd at hHeld ⊢
   refine Y_t 0 172 _ (.slice (some ⟨b0,a0,none⟩) 1 c11) rfl (Or.inl ⟨by kernel_rfl,fun u hu=>by kernel_rfl⟩) hHeld ?_
   simp only[Act.put,Y_a,Y_b,Y_c]
   refine Y_t 1 173 _ (.int .i64 1) rfl (Or.inl ⟨by kernel_rfl,fun u hu=>by kernel_rfl⟩) hHeld ?_
   simp only[Act.put,Y_a,Y_b,Y_c]
   refine Y_t 2 174 _ (.bool false) rfl (Or.inl ⟨by kernel_rfl,fun u hu=>by kernel_rfl⟩) hHeld ?_
   simp only[Act.put,Y_a,Y_b,Y_c]
   refine Y_t 3 175 _ (.bool false) rfl (Or.inl ⟨by kernel_rfl,fun u hu=>by kernel_rfl⟩) hHeld ?_
   simp only[Act.put,Y_a,Y_b,Y_c]
   refine Y_t 4 176 _ undef rfl (Or.inr ⟨by kernel_rfl,rfl⟩) hHeld ?_
   simp only[Act.put,Y_a,Y_b,Y_c]
   refine Y_t 5 177 _ undef rfl (Or.inr ⟨by kernel_rfl,rfl⟩) hHeld ?_
   simp only[Act.put,Y_a,Y_b,Y_c]
   refine Y_t 6 178 _ undef rfl (Or.inr ⟨by kernel_rfl,rfl⟩) hHeld ?_
   simp only[Act.put,Y_a,Y_b,Y_c]
   refine Y_t 7 179 _ (.bool false) rfl (Or.inl ⟨by kernel_rfl,fun u hu=>by kernel_rfl⟩) hHeld ?_
   simp only[Act.put,Y_a,Y_b,Y_c]
   refine Y_t 8 180 _ (.bool false) rfl (Or.inl ⟨by kernel_rfl,fun u hu=>by kernel_rfl⟩) hHeld ?_
   simp only[Act.put,Y_a,Y_b,Y_c]
   refine Y_t 9 181 _ (.slice (some ⟨b0,a0,none⟩) 1 c11) rfl (Or.inl ⟨by kernel_rfl,fun u hu=>by kernel_rfl⟩) hHeld ?_
   simp only[Act.put,Y_a,Y_b,Y_c]
   refine Y_t 10 182 _ (.int .i64 1) rfl (Or.inl ⟨by kernel_rfl,fun u hu=>by kernel_rfl⟩) hHeld ?_
   simp only[Act.put,Y_a,Y_b,Y_c]
   refine Y_t 11 183 _ (.bool true) rfl (Or.inl ⟨by kernel_rfl,fun u hu=>by kernel_rfl⟩) hHeld ?_
   simp only[Act.put,Y_a,Y_b,Y_c]
   refine Y_t 12 184 _ (.bool true) rfl (Or.inl ⟨by kernel_rfl,fun u hu=>by kernel_rfl⟩) hHeld ?_
   simp only[Act.put,Y_a,Y_b,Y_c]
   refine Y_t 13 185 _ (.slice o10 P5.length c10) rfl (Or.inl ⟨by kernel_rfl,fun u hu=>by kernel_rfl⟩) hHeld ?_
   simp only[Act.put,Y_a,Y_b,Y_c]
   refine Y_t 14 186 _ (.slice (some ⟨b0,a0,none⟩) 1 c11) rfl (Or.inl ⟨by kernel_rfl,fun u hu=>by kernel_rfl⟩) hHeld ?_
   simp only[Act.put,Y_a,Y_b,Y_c]
   refine Y_t 15 187 _ (.pointer (some ⟨b0,a0,none⟩)) rfl (Or.inl ⟨by kernel_rfl,fun u hu=>by kernel_rfl⟩) hHeld ?_
   simp only[Act.put,Y_a,Y_b,Y_c]
   refine Y_t 16 188 _ (.pointer (some ⟨b0,a0+2,none⟩)) rfl (Or.inl ⟨by kernel_rfl,fun u hu=>by kernel_rfl⟩) hHeld ?_
   simp only[Act.put,Y_a,Y_b,Y_c]
   refine Y_t 17 189 _ (.slice fo0 f0.hs.length fc0) rfl (Or.inl ⟨by kernel_rfl,fun u hu=>Zky (HC.out u hu).1 (.tmp 188) (by kernel_rfl) (by kernel_rfl)⟩) hHeld ?_
   simp only[Act.put,Y_a,Y_b,Y_c]
   refine Y_e 18 190 _ rfl 18 (.func 18) #[.tmp 185,.tmp 189] #[34,34] (by kernel_rfl) #[] (by kernel_rfl) #[.slice o10 P5.length c10,.slice fo0 f0.hs.length fc0] (by kernel_rfl) (enters_of Tryz.func18 (by kernel_rfl) rfl) (fun v _=>v=.bool true) ?_ ?_
   ·refine (hcall wd hHeld).mono ?_
    rintro e wq ⟨rfl,hBq⟩
    exact⟨_,rfl,hHeld.trans (hBq.mono hHeld.size),rfl⟩
   clear hHeld
   rintro v we hHeld rfl
   simp only[Act.put,Y_a,Y_b,Y_c]
   refine Y_t 19 191 _ (.bool true) rfl (Or.inl ⟨by kernel_rfl,fun u hu=>by kernel_rfl⟩) hHeld ?_
   simp only[Act.put,Y_a,Y_b,Y_c]
   refine Y_t 20 192 _ (.bool true) rfl (Or.inl ⟨by kernel_rfl,fun u hu=>by kernel_rfl⟩) hHeld ?_
   simp only[Act.put,Y_a,Y_b,Y_c]
   refine Y_t 21 193 _ (.slice (some ⟨b1,a1,none⟩) 1 c12) rfl (Or.inl ⟨by kernel_rfl,fun u hu=>by kernel_rfl⟩) hHeld ?_
   simp only[Act.put,Y_a,Y_b,Y_c]
   refine Y_t 22 194 _ (.pointer (some ⟨b1,a1,none⟩)) rfl (Or.inl ⟨by kernel_rfl,fun u hu=>by kernel_rfl⟩) hHeld ?_
   simp only[Act.put,Y_a,Y_b,Y_c]
   refine Y_t 23 195 _ (.pointer (some ⟨b1,a1+2,none⟩)) rfl (Or.inl ⟨by kernel_rfl,fun u hu=>by kernel_rfl⟩) hHeld ?_
   simp only[Act.put,Y_a,Y_b,Y_c]
   refine Y_t 24 196 _ (.slice fo1 f1.hs.length fc1) rfl (Or.inl ⟨by kernel_rfl,fun u hu=>Zky (HC.out u hu).2.1 (.tmp 195) (by kernel_rfl) (by kernel_rfl)⟩) hHeld ?_
   simp only[Act.put,Y_a,Y_b,Y_c]
   refine Y_t 25 197 _ (.slice (some ⟨b2,a2,none⟩) 1 c13) rfl (Or.inl ⟨by kernel_rfl,fun u hu=>by kernel_rfl⟩) hHeld ?_
   simp only[Act.put,Y_a,Y_b,Y_c]
   refine Y_t 26 198 _ (.pointer (some ⟨b2,a2,none⟩)) rfl (Or.inl ⟨by kernel_rfl,fun u hu=>by kernel_rfl⟩) hHeld ?_
   simp only[Act.put,Y_a,Y_b,Y_c]
   refine Y_t 27 199 _ (.pointer (some ⟨b2,a2+2,none⟩)) rfl (Or.inl ⟨by kernel_rfl,fun u hu=>by kernel_rfl⟩) hHeld ?_
   simp only[Act.put,Y_a,Y_b,Y_c]
   refine Y_t 28 200 _ (.slice fo2 f2.hs.length fc2) rfl (Or.inl ⟨by kernel_rfl,fun u hu=>Zky (HC.out u hu).2.2 (.tmp 199) (by kernel_rfl) (by kernel_rfl)⟩) hHeld ?_
   simp only[Act.put,Y_a,Y_b,Y_c]
   refine Y_e 29 201 _ rfl 18 (.func 18) #[.tmp 196,.tmp 200] #[34,34] (by kernel_rfl) #[] (by kernel_rfl) #[.slice fo1 f1.hs.length fc1,.slice fo2 f2.hs.length fc2] (by kernel_rfl) (enters_of Tryz.func18 (by kernel_rfl) rfl) (fun v _=>v=.bool true) ?_ ?_
   ·refine (hcall2 we hHeld).mono ?_
    rintro e wq ⟨rfl,hBq⟩
    exact⟨_,rfl,hHeld.trans (hBq.mono hHeld.size),rfl⟩
   clear hHeld
   rintro v wf hHeld rfl
   simp only[Act.put,Y_a,Y_b,Y_c]
   refine Y_t 30 202 _ (.bool true) rfl (Or.inl ⟨by kernel_rfl,fun u hu=>by kernel_rfl⟩) hHeld ?_
   simp only[Act.put,Y_a,Y_b,Y_c]
   refine Y_t 31 203 _ (.bool true) rfl (Or.inl ⟨by kernel_rfl,fun u hu=>by kernel_rfl⟩) hHeld ?_
   simp only[Act.put,Y_a,Y_b,Y_c]
   refine Y_t 32 6 _ (.bool true) rfl (Or.inl ⟨by kernel_rfl,fun u hu=>by kernel_rfl⟩) hHeld ?_
   simp only[Act.put,Y_a,Y_b,Y_c]
   refine wpAnyH_done (by kernel_rfl) ?_ _
   refine NoPanic.normal ?_
   have hB015:=hB013.trans (hHeld.mono hB013.size)
   go_wp2
   go_ret
   exact⟨rfl,hB015⟩
 ·by_cases h1:(150:Int)<(x.length:Int)
  ·go_wp2
   go_ret
   exact⟨rfl,hB02⟩
  ·by_cases h2:(150:Int)<(y.length:Int)
   ·go_wp2
    go_ret
    exact⟨rfl,hB02⟩
   ·have h3:(100000:Int)<(s.length:Int)+(t.length:Int):=by omega
    go_wp2
    go_ret
    exact⟨rfl,hB02⟩
set_option maxRecDepth 100000 in
theorem contract (H:Type) (enc:TypeId × Value→H) (W:World) (base:Nat) (args:Array Value) (ds gs:List (DataW H)) (before:List MemPlace)
  (hval:∀ (j:Nat) t v,Tryz.f10.params[j]?=some t→args[j]?=some v→Value.okWide Tryz.prog W .any base t v)
  (hW:DataW.Whole enc Tryz.prog Tryz.f10.params.toList Rows.unifiedAgreesSpec.vars false W args.toList ds gs before) (hL:laidMetH Tryz.prog Rows.unifiedAgreesUptoRow.laid W) (hSh:W.ShapedOpen Tryz.prog) (hk:Rows.uptoSmall H (ds++gs)=true) :
  Calls Tryz.prog 10 args W fun e W'=>∃ v,e=.returned v∧Rows.unifiedAgreesSpec.post enc Tryz.prog Tryz.f10 false true false false W args v W':=by
 have hW':=hW
 obtain⟨p,q,hA0,hV,rfl,hfz,hnd⟩:=hW
 have hA:DataW.TrodAll enc Tryz.prog W 0 (fun _=>true) true Tryz.f10.params.toList args.toList ds p:=hA0
 rw[Tryz.params10] at hA hval
 obtain⟨v0,vs0,d0,ds0,p0,q0,hargs,rfl,rfl,h0,r0⟩:=trodAll_cons hA
 obtain⟨v1,vs1,d1,ds1,p1,q1,rfl,rfl,rfl,h1,r1⟩:=trodAll_cons r0
 obtain⟨v2,vs2,d2,ds2,p2,q2,rfl,rfl,rfl,h2,r2⟩:=trodAll_cons r1
 obtain⟨rfl,rfl,rfl⟩:=trodAll_nil r2
 obtain rfl:args=#[v0,v1,v2]:=by cases args;simp_all
 obtain⟨rfl,rfl⟩:=trodVars_none hV
 obtain⟨n2,rfl,rfl,rfl,wn2⟩:=open_int Tryz.underlying3 (hval 2 3 v2 rfl rfl) h2
 obtain⟨a0,rfl,rfl,rfl,wt0⟩:=open_string Tryz.underlying9 (hval 0 9 v0 rfl rfl) h0
 obtain⟨a1,rfl,rfl,rfl,wt1⟩:=open_string Tryz.underlying9 (hval 1 9 v1 rfl rfl) h1
 clear hA0
 simp only[List.append_nil] at hk
 have hbk:Rows.uptoBulkAll [.lit (.string a0.data.toList),.lit (.string a1.data.toList),.lit (.int .i64 n2)]≤1048576:=of_decide_eq_true hk
 simp only[Rows.uptoBulkAll] at hbk
 have ht:=Tb.tab_of Rows.unifiedAgreesUptoRow.laid rfl hL
 have hw:=walk a0.data.toList a1.data.toList n2  W (by simp only[Rows.uptoBulk] at hbk;omega) (fun u hu=>var?_below hu Tb.gTab (Tb.tab_lt ht) ht) (ZlS hSh)
 refine hw.mono fun e W' ⟨he,bel⟩=>?_
 subst he
 exact⟨_,rfl,_,_,_,[],_,[],hW',trodAll_mk1 (shut_bool Tryz.underlying4 _),trodAll_cons_mk (shut_string Tryz.underlying9 wt0) (trodAll_cons_mk (shut_string Tryz.underlying9 wt1) (trodAll_cons_mk (shut_int Tryz.underlying3 wn2) trodAll_mk0)),rfl,bel.frame _,fun h=>by cases h⟩
theorem ZjJ (os:Os):laidMet Tryz.prog Rows.unifiedAgreesUptoRow.laid ((Tt.laidOn (World.holding Tryz.prog os ⟨#[],#[],[]⟩)).forCall (fun _ _=>0) ⟨#[],#[.string .empty,.string .empty,.int .i64 0],[]⟩).memory :=
 laidMet_of_run' 8 (by kernel_rfl) (by kernel_rfl)
theorem reads (os:Os) {H:Type} (enc:TypeId × Value→H):∃ places,DataW.whole enc Tryz.prog ((Tt.laidOn (World.holding Tryz.prog os ⟨#[],#[],[]⟩)).forCall (fun _ _=>0) ⟨#[],#[.string .empty,.string .empty,.int .i64 0],[]⟩).memory Tryz.f10.params.toList Rows.unifiedAgreesSpec.vars false #[Value.string .empty,Value.string .empty,Value.int .i64 0].toList 8=some ([.lit (.string []),.lit (.string []),.lit (.int .i64 0)],[],places) :=
 ⟨[],by kernel_rfl⟩
set_option maxRecDepth 100000 in
theorem lifted (os:Os) (started:os.Started) (H:Type) (enc:TypeId × Value→H) (F:Stop.Interp) :
  ReturnsInHanded {} Tryz.checked os 10 .any ((Rows.OpenSpec.upto Rows.unifiedAgreesSpec).preRow enc Tryz.prog Tryz.f10 Rows.unifiedAgreesUptoRow.domain false Rows.unifiedAgreesUptoRow.laid) (((Rows.OpenSpec.upto Rows.unifiedAgreesSpec).at F).post enc Tryz.prog Tryz.f10 false true false false):=by
 obtain⟨places,hx⟩:=reads os enc
 refine returnsInHanded_of_row (C:=Tryz.checked) (s:=Rows.OpenSpec.upto Rows.unifiedAgreesSpec) own started (by kernel_rfl) Tryz.func10
  (witness_row_at (enc:=enc) (C:=Tryz.checked) false (Tt.laidOn (World.holding Tryz.prog os ⟨#[],#[],[]⟩)) #[.string .empty,.string .empty,.int .i64 0] rfl (by kernel_rfl) (by kernel_rfl) (by kernel_rfl)
   (OpenSpec.preRow_of_cond 8 hx (by kernel_rfl) (fun k hk=>by cases hk;kernel_rfl) (by kernel_rfl) (ZjJ os))) ?_
 intro W base args ds gs before hval hW _ hcond _ hL hSh _
 exact contract H enc W base args ds gs before hval hW hL hSh (hcond _ rfl)
set_option maxHeartbeats 4000000 in
theorem said:Rows.UnifiedAgreesUptoSaid :=
 OpenClaim.holds_of_cond 10 Tryz.f10 rfl rfl rfl rfl rfl rfl rfl ⟨rfl,rfl,rfl,rfl,rfl⟩ rfl rfl rfl rfl rfl (by kernel_rfl) Tryz.func10 (by simp only[joinedFacts,Bool.and_eq_true];(repeat' apply And.intro)<;>as_aux_lemma=>kernel_rfl)
  (of_decide_eq_true (by kernel_rfl)) (by unfold Func.isWrapper;first | (rw[if_pos (by decide +kernel)];kernel_rfl) | (rw[if_neg (by decide +kernel)];exact⟨rfl,rfl⟩))
  (fun os started H enc _ F=>by rw[OpenClaim.pre_eq_preRow];exact lifted os started H enc F)
theorem plain (f : FuncId) (fn : Func) (hf : Tryz.pinned.checked.prog.funcNamed "redline/redlinelaw16.UnifiedAgrees" = some f) (hfn : Tryz.pinned.checked.prog.funcs[f]? = some fn) :
  true=Tryz.pinned.checked.prog.looks []∧∀ (j:Nat) t,fn.params[j]?=some t→Tryz.pinned.checked.prog.wantsStandIn t=false:=by
 obtain rfl : f = 10 := Option.some.inj ((show Tryz.prog.funcNamed "redline/redlinelaw16.UnifiedAgrees" = some 10 by kernel_rfl).symm.trans hf) |>.symm
 obtain rfl:fn=Tryz.f10:=(Option.some.inj (Tryz.func10.symm.trans hfn)).symm
 refine⟨by kernel_rfl,fun j t ht=>?_⟩
 rw[Tryz.params10] at ht
 have hm:t=9∨t=9∨t=3:=by simpa using Array.mem_of_getElem? ht
 rcases hm with rfl | rfl | rfl
 ·exact (show Tryz.prog.wantsStandIn 9=false by kernel_rfl)
 ·exact (show Tryz.prog.wantsStandIn 9=false by kernel_rfl)
 ·exact (show Tryz.prog.wantsStandIn 3=false by kernel_rfl)
theorem card:Rows.UnifiedAgreesUptoCardSaid :=
 Claim7.holds_tied_plain_at .later [] _ _ _ _ said (fun _ h=>by cases h) (by kernel_rfl) (fun _ h=>by cases h) unifiedAgreesUpto_row_tie rfl ⟨rfl,rfl⟩ (by kernel_rfl) rfl plain (by kernel_rfl)
#print axioms card
end Go.Proofs.YtgiojkhmkeocfaaGreatDoor.unifiedAgrees
