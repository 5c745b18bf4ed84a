/-
  Texts that belong together, joined: NpT, CrS, CpQ, CpX, UnLen, UqA, UqB, PsF, PsG, PsH, CrJ, CrF, CqS, CrG, NoLs, CrK, CrM, CrN, CrV, CrH, CrZ, PgM, CrX, CrY, PgS, CrL, CrQ, CrR, CrU, PgT, CrP, CrT, CrW, PrA, UrA, UrB, UkD, UnD, UkE.
-/
import Derived.Test.YtcniomgjikienaaGreatDoorVkA10
import Derived.Deep.QuietTactic
import Derived.BigQuiet
import Derived.Deep.CutBlock
import Derived.Deep.CutRange
import Derived.ChangeKeysEq
import Derived.Laws.StructEq

set_option maxHeartbeats 16000000
set_option maxRecDepth 100000
namespace Go.Proofs.YtcniomgjikienaaGreatDoor

section
open Go.RowKit
def HOw (p:List (Hk × Value)):Prop:=p.length≤1099511627776∧∀ x∈p,x.1.ls.length≤1099511627776
theorem ZnF (l:List Hk):l.length≤hksC l∧∀ x∈l,x.ls.length≤hksC l:=by
 induction l with
 | nil=>exact⟨Nat.le_refl _,fun x hx=>by cases hx⟩
 | cons h l ih =>
  simp only[hksC,hkC1,List.length_cons]
  refine⟨by omega,fun x hx=>?_⟩
  rcases List.mem_cons.1 hx with rfl | hx
  ·omega
  ·have:=ih.2 x hx
   omega
theorem Zpf {t:List UInt8} {l:List Hk} (h:prsT t=.ok l):l.length≤t.length∧∀ x∈l,x.ls.length≤t.length:=by
 have h1:=Zpe h
 have h2:=Ln.split_len t
 obtain⟨h3,h4⟩:=ZnF l
 exact⟨by omega,fun x hx=>by have:=h4 x hx;omega⟩
theorem ZnL {t:List UInt8} {p:List (Hk × Value)} (h:prsT t=.ok (p.map (·.1))) (ht:t.length≤1099511627776):HOw p:=by
 obtain⟨h1,h2⟩:=Zpf h
 rw[List.length_map] at h1
 exact⟨by omega,fun x hx=>by have:=h2 x.1 (List.mem_map_of_mem hx);omega⟩
theorem ZnE {A1 N1 B1 M1 A2 N2 B2 M2:Int} {l1 l2:List Mk}:(⟨A1,N1,B1,M1,l1⟩:Hk)=⟨A2,N2,B2,M2,l2⟩↔A1=A2∧N1=N2∧B1=B2∧M1=M2∧l1=l2:=by
 constructor
 ·rintro h
  cases h
  exact⟨rfl,rfl,rfl,rfl,rfl⟩
 ·rintro⟨rfl,rfl,rfl,rfl,rfl⟩
  rfl
theorem Zqi (h1 h2:Hk) (v1 v2:Value) (w:World) (hv1:HMk w v1 h1.ls) (hv2:HMk w v2 h2.ls) (hl1:h1.ls.length≤1099511627776) (r:Bool) (HR:Hid (r=true↔h1=h2)):Calls Tryz.prog 153 #[hkV h1 v1,hkV h2 v2] w fun e w'=>e=.returned (.bool r)∧Below w.heap.size w w':=by
 obtain⟨A1,N1,B1,M1,l1⟩:=h1
 obtain⟨A2,N2,B2,M2,l2⟩:=h2
 dsimp only at hv1 hv2 hl1
 obtain⟨o1,c1,rfl⟩:=HMk.form hv1
 obtain⟨o2,c2,rfl⟩:=HMk.form hv2
 have hx1:=Hx.new w ⟨A1,N1,B1,M1,l1⟩ (.slice o1 l1.length c1)
 have hB1:Below w.heap.size w (w.alloc (hkO ⟨A1,N1,B1,M1,l1⟩ (.slice o1 l1.length c1))):=(Below.refl _ w).alloc (Nat.le_refl _) _
 have hx2:Hx ((w.alloc (hkO ⟨A1,N1,B1,M1,l1⟩ (.slice o1 l1.length c1))).alloc (hkO ⟨A2,N2,B2,M2,l2⟩ (.slice o2 l2.length c2))) (w.heap.size+1) ⟨A2,N2,B2,M2,l2⟩ (.slice o2 l2.length c2):=Zmu w _ _
 have hB2:Below w.heap.size w ((w.alloc (hkO ⟨A1,N1,B1,M1,l1⟩ (.slice o1 l1.length c1))).alloc (hkO ⟨A2,N2,B2,M2,l2⟩ (.slice o2 l2.length c2))):=hB1.alloc (by simp) _
 have hx1':=hx1.low ((Below.refl _ (w.alloc (hkO ⟨A1,N1,B1,M1,l1⟩ (.slice o1 l1.length c1)))).alloc (Nat.le_refl _) (hkO ⟨A2,N2,B2,M2,l2⟩ (.slice o2 l2.length c2)))
 have hm1:=HMk.keep hv1 hB2 (Nat.le_refl _)
 have hm2:=HMk.keep hv2 hB2 (Nat.le_refl _)
 obtain⟨x0,x1,x2,x3,x4⟩:=hx1'.cells
 obtain⟨y0,y1,y2,y3,y4⟩:=hx2.cells
 unfold hkV
 dsimp only at x0 x1 x2 x3 x4 y0 y1 y2 y3 y4 ⊢
 have hW0:(w.alloc (hkO ⟨A1,N1,B1,M1,l1⟩ (.slice o1 l1.length c1))).alloc (hkO ⟨A2,N2,B2,M2,l2⟩ (.slice o2 l2.length c2))=(w.alloc (Obj.cells #[Value.int IntKind.i64 A1,Value.int IntKind.i64 N1,Value.int IntKind.i64 B1,Value.int IntKind.i64 M1,.slice o1 l1.length c1] 45)).alloc (Obj.cells #[Value.int IntKind.i64 A2,Value.int IntKind.i64 N2,Value.int IntKind.i64 B2,Value.int IntKind.i64 M2,.slice o2 l2.length c2] 45):=rfl
 clear hx1 hx2 hx1' hB1 hv1 hv2
 generalize (w.alloc (hkO ⟨A1,N1,B1,M1,l1⟩ (.slice o1 l1.length c1))).alloc (hkO ⟨A2,N2,B2,M2,l2⟩ (.slice o2 l2.length c2))=W at *
 have hW:=hW0.symm
 clear hW0
 have HN:Hid (¬ (A1=A2∧N1=N2∧B1=B2∧M1=M2∧l1.length=l2.length)→r=false):=(by
  intro h
  cases hr:r with
  | false=>rfl
  | true=>exact absurd (ZnE.1 (HR.out.1 hr)) (fun e=>h ⟨e.1,e.2.1,e.2.2.1,e.2.2.2.1,congrArg List.length e.2.2.2.2⟩))
 have HR2:Hid (A1=A2∧N1=N2∧B1=B2∧M1=M2→(r=true↔l1=l2)):=(by
  rintro⟨rfl,rfl,rfl,rfl⟩
  rw[HR.out,ZnE]
  simp)
 clear HR
 go_enter Tryz.func153,Tryz.ntmps153
 by_cases hA:A1=A2
 ·by_cases hN:N1=N2
  ·by_cases hB:B1=B2
   ·by_cases hM:M1=M2
    ·have HR3:Hid (r=true↔l1=l2):=HR2.out ⟨hA,hN,hB,hM⟩
     clear HR2
     subst hA hN hB hM
     by_cases hL:l1.length=l2.length
     ·rw[← hL] at y4 hm2 hW ⊢
      have HL:Hid (l1.length=l2.length):=hL
      clear hL HN
      go_wp2
      clear hW
      go_loopw [5] (fun iv wr=>∃ k m:Nat,k≤l1.length∧iv=.int .i64 (k:Int)∧wr=W.drewN m∧Hid (r=true↔l1.drop k=l2.drop k)) (fun iv _=>l1.length-(intOf iv).toNat)
      case atStart=>exact⟨0,0,Nat.zero_le _,by go_num,rfl,HR3⟩
      case round =>
       clear HR3
       obtain⟨k,m,hk,rfl,rfl,HD⟩:=hrel
       have x4':(W.drewN m).cell? ⟨w.heap.size,4,none⟩=some (.slice o1 l1.length c1):=x4
       have y4':(W.drewN m).cell? ⟨w.heap.size+1,4,none⟩=some (.slice o2 l1.length c2):=y4
       by_cases hlt:k<l1.length
       ·have hlt2:k<l2.length:=by have:=HL.out;omega
        obtain⟨b1,f1,rfl,_,hc1⟩:=HMk.at hm1 (by omega)
        obtain⟨b2,f2,rfl,_,hc2⟩:=HMk.at hm2 (by omega)
        obtain⟨s0,s1⟩:=hc1 k hlt
        obtain⟨t0,t1⟩:=hc2 k hlt2
        have hD:=HD.out
        rw[List.drop_eq_getElem_cons hlt,List.drop_eq_getElem_cons hlt2,List.cons.injEq] at hD
        obtain⟨q,hq⟩:∃ q,l1[k]=q:=⟨_,rfl⟩
        obtain⟨p,hp⟩:∃ p,l2[k]=p:=⟨_,rfl⟩
        rw[hq] at s0 s1 hD
        rw[hp] at t0 t1 hD
        obtain⟨sg,tx⟩:=q
        obtain⟨sg2,tx2⟩:=p
        dsimp only at s0 s1 t0 t1
        have HD2:Hid (r=true↔(⟨sg,tx⟩:Mk)=⟨sg2,tx2⟩∧l1.drop (k+1)=l2.drop (k+1)):=hD
        clear hc1 hc2 hq hp hD HD
        have i1:0≤(k:Int):=by omega
        have i2:(k:Int)<(l1.length:Int):=by omega
        by_cases hs:sg=sg2
        ·subst hs
         by_cases ht:tx=tx2
         ·subst ht
          have HD3:Hid (r=true↔l1.drop (k+1)=l2.drop (k+1)):=(by show _↔_;rw[HD2.out];simp)
          clear HD2
          go_wp2_with fail
          go_quiet (fail)
          go_wp2
          go_roundw
          case rel=>exact⟨k+1,_,by omega,by go_num,rfl,HD3⟩
          case measure=>simp[intOf];omega
         ·have r0:r=false:=(by
           cases hr:r with
           | false=>rfl
           | true=>exact absurd (HD2.out.1 hr).1 (fun e=>ht (by cases e;rfl)))
          subst r0
          have e2:(tx == tx2)=false:=beq_eq_false_iff_ne.2 ht
          clear HD2
          go_wp2_with fail
          go_quiet (fail)
          go_wp2
          go_ret
          exact⟨rfl,Below.dN (Below.dN hB2 _) _⟩
        ·have r0:r=false:=(by
          cases hr:r with
          | false=>rfl
          | true=>exact absurd (HD2.out.1 hr).1 (fun e=>hs (by cases e;rfl)))
         subst r0
         have e1:(sg == sg2)=false:=beq_eq_false_iff_ne.2 hs
         clear HD2
         go_wp2_with fail
         go_quiet (fail)
         go_wp2
         go_ret
         exact⟨rfl,Below.dN (Below.dN hB2 _) _⟩
       ·have hend:decide ((k:Int)<(l1.length:Int))=false:=decide_eq_false (by omega)
        have r1:r=true:=HD.out.2 (by rw[List.drop_eq_nil_of_le (by omega),List.drop_eq_nil_of_le (by have:=HL.out;omega)])
        subst r1
        go_wp2
        go_ret
        exact⟨rfl,Below.dN hB2 _⟩
     ·have r0:=HN.out (fun e=>hL e.2.2.2.2)
      subst r0
      have e5:((l1.length:Int) == (l2.length:Int))=false:=beq_eq_false_iff_ne.2 (by omega)
      go_wp2
      go_ret
      exact⟨rfl,hB2⟩
    ·have r0:=HN.out (fun e=>hM e.2.2.2.1)
     subst hA hN hB r0
     have e4:(M1 == M2)=false:=beq_eq_false_iff_ne.2 hM
     go_wp2
     go_ret
     exact⟨rfl,hB2⟩
   ·have r0:=HN.out (fun e=>hB e.2.2.1)
    subst hA hN r0
    have e3:(B1 == B2)=false:=beq_eq_false_iff_ne.2 hB
    go_wp2
    go_ret
    exact⟨rfl,hB2⟩
  ·have r0:=HN.out (fun e=>hN e.2.1)
   subst hA r0
   have e2:(N1 == N2)=false:=beq_eq_false_iff_ne.2 hN
   go_wp2
   go_ret
   exact⟨rfl,hB2⟩
 ·have r0:=HN.out (fun e=>hA e.1)
  subst r0
  have e1:(A1 == A2)=false:=beq_eq_false_iff_ne.2 hA
  go_wp2
  go_ret
  exact⟨rfl,hB2⟩
theorem ZnP {h1 h2:Hk} {v1 v2:Value} {W u:World} {r:Bool} (hv1:HMk W v1 h1.ls) (hv2:HMk W v2 h2.ls) (hl:h1.ls.length≤1099511627776) (HR:Hid (r=true↔h1=h2)) (hL:Low W u):Calls Tryz.prog 153 (#[hkV h1 v1,hkV h2 v2]++#[]) u fun e w'=>∃ x,e=.returned x∧Low W w'∧x=.bool r:=by
 refine (Zqi h1 h2 v1 v2 u (HMk.keep hv1 hL (Nat.le_refl _)) (HMk.keep hv2 hL (Nat.le_refl _)) hl r HR).mono ?_
 rintro e w' ⟨rfl,hB⟩
 exact⟨_,rfl,hL.trans (hB.mono hL.size),rfl⟩
theorem Zqj (p1 p2:List (Hk × Value)) (v1 v2:Value) (w:World) (hv1:HHp w v1 p1) (hv2:HHp w v2 p2) (hok:HOw p1) (r:Bool) (HR:Hid (r=true↔p1.map (·.1)=p2.map (·.1))):Calls Tryz.prog 113 #[v1,v2] w fun e w'=>e=.returned (.bool r)∧Below w.heap.size w w':=by
 obtain⟨o1,c1,rfl⟩:=Holds.form hv1.row
 obtain⟨o2,c2,rfl⟩:=Holds.form hv2.row
 have hpl:p1.length≤1099511627776:=hok.1
 have HOK:Hid (HOw p1):=hok
 clear hok
 by_cases hl12:p2.length=p1.length
 ·have HL:Hid (p2.length=p1.length):=hl12
  rw[hl12] at hv2 ⊢
  clear hl12
  go_enter Tryz.func113,Tryz.ntmps113
  go_wp2
  go_loopw [5] (fun iv wr=>∃ k:Nat,k≤p1.length∧iv=.int .i64 (k:Int)∧Below w.heap.size w wr∧Hid (r=true↔(p1.map (·.1)).drop k=(p2.map (·.1)).drop k)) (fun iv _=>p1.length-(intOf iv).toNat)
  case atStart=>exact⟨0,Nat.zero_le _,by go_num,Below.refl _ _,HR⟩
  case round =>
   clear HR
   obtain⟨k,hk,rfl,hB,HD⟩:=hrel
   by_cases hlt:k<p1.length
   ·obtain⟨b1,f1,rfl,_,_⟩:=hv1.at (by omega)
    obtain⟨b2,f2,rfl,_,_⟩:=hv2.at (by have:=HL.out;omega)
    obtain⟨x,y,hxy⟩:∃ x y,p1[k]=(x,y):=⟨_,_,rfl⟩
    obtain⟨x',z,hxz⟩:∃ x z,p2[k]'(by have:=HL.out;omega)=(x,z):=⟨_,_,rfl⟩
    have hD:=HD.out
    have hlt2:k<p2.length:=(by have:=HL.out;omega)
    rw[List.drop_eq_getElem_cons (show k<(p1.map (·.1)).length by simpa using hlt),List.drop_eq_getElem_cons (show k<(p2.map (·.1)).length by simpa using hlt2),List.cons.injEq,List.getElem_map,List.getElem_map,hxy,hxz] at hD
    dsimp only at hD
    obtain⟨r2,HR2⟩:∃ r2:Bool,Hid (r2=true↔x=x'):=(by
     rcases Classical.em (x=x') with h | h
     ·exact⟨true,⟨fun _=>h,fun _=>rfl⟩⟩
     ·exact⟨false,⟨fun e=>absurd e (by simp),fun e=>absurd e h⟩⟩)
    have HD2:Hid (r=true↔x=x'∧(p1.map (·.1)).drop (k+1)=(p2.map (·.1)).drop (k+1)):=hD
    clear hD HD
    obtain⟨r1,hm1⟩:=hv1.take hB k hlt hxy
    obtain⟨r2,hm2⟩:=hv2.take hB k (by have:=HL.out;omega) hxz
    have hbd:=HOK.out.2 _ (List.getElem_mem hlt)
    rw[hxy] at hbd
    dsimp only at hbd
    obtain⟨yo,yc,rfl⟩:=hm1.form
    obtain⟨zo,zc,rfl⟩:=hm2.form
    have hr1:∀ u:World,Low wr u→HkAt u b1 (f1+k * 5) x (.slice yo x.ls.length yc):=fun u hu=>HkAt.low r1 hu
    have hr2:∀ u:World,Low wr u→HkAt u b2 (f2+k * 5) x' (.slice zo x'.ls.length zc):=fun u hu=>HkAt.low r2 hu
    have i1:0≤(k:Int):=by omega
    have i2:(k:Int)<(p1.length:Int):=by omega
    clear hxy hxz r1 r2
    go_wp2_with fail
    refine wp_region_noPanic ?_
    refine wp_region_held_drew (S:=fun u=>Low wr u) (by kernel_rfl) (Below.dN (Below.refl _ wr) 1) (fun hHeld=>?_)
    refine Y_t 0 17 _ (.slice (some ⟨b1,f1,none⟩) p1.length c1) rfl (Or.inl ⟨by kernel_rfl,fun u hu=>by kernel_rfl⟩) hHeld ?_
    simp only[Act.put,Y_a,Y_b,Y_c]
    refine Y_t 1 18 _ (.int .i64 (k:Int)) rfl (Or.inl ⟨by kernel_rfl,fun u hu=>by kernel_rfl⟩) hHeld ?_
    simp only[Act.put,Y_a,Y_b,Y_c]
    refine Y_t 2 19 _ (.pointer (some ⟨b1,f1+k * 5,none⟩)) rfl (Or.inl ⟨by kernel_rfl,fun u hu=>ZmZ (c:=c1) hlt (.tmp 17) (.tmp 18) (by kernel_rfl) (by kernel_rfl) (by kernel_rfl)⟩) hHeld ?_
    simp only[Act.put,Y_a,Y_b,Y_c]
    refine Y_t 3 20 _ (hkV x (.slice yo x.ls.length yc)) rfl (Or.inl ⟨by kernel_rfl,fun u hu=>Zom (hr1 u hu) (.tmp 19) (by kernel_rfl) (by kernel_rfl)⟩) hHeld ?_
    simp only[Act.put,Y_a,Y_b,Y_c]
    refine Y_t 4 21 _ (.slice (some ⟨b2,f2,none⟩) p1.length c2) rfl (Or.inl ⟨by kernel_rfl,fun u hu=>by kernel_rfl⟩) hHeld ?_
    simp only[Act.put,Y_a,Y_b,Y_c]
    refine Y_t 5 22 _ (.int .i64 (k:Int)) rfl (Or.inl ⟨by kernel_rfl,fun u hu=>by kernel_rfl⟩) hHeld ?_
    simp only[Act.put,Y_a,Y_b,Y_c]
    refine Y_t 6 23 _ (.pointer (some ⟨b2,f2+k * 5,none⟩)) rfl (Or.inl ⟨by kernel_rfl,fun u hu=>ZmZ (c:=c2) hlt (.tmp 21) (.tmp 22) (by kernel_rfl) (by kernel_rfl) (by kernel_rfl)⟩) hHeld ?_
    simp only[Act.put,Y_a,Y_b,Y_c]
    refine Y_t 7 24 _ (hkV x' (.slice zo x'.ls.length zc)) rfl (Or.inl ⟨by kernel_rfl,fun u hu=>Zom (hr2 u hu) (.tmp 23) (by kernel_rfl) (by kernel_rfl)⟩) hHeld ?_
    simp only[Act.put,Y_a,Y_b,Y_c]
    refine Y_e 8 25 _ rfl 153 (.func 153) #[.tmp 20,.tmp 24] #[45,45] (by kernel_rfl) #[] (by kernel_rfl) #[hkV x (.slice yo x.ls.length yc),hkV x' (.slice zo x'.ls.length zc)] (by kernel_rfl) (enters_of Tryz.func153 (by kernel_rfl) rfl) _ (ZnP hm1 hm2 hbd HR2 hHeld) ?_
    rintro _ u8 hHeld rfl
    simp only[Act.put,Y_a,Y_b,Y_c]
    refine Y_t 9 26 _ (.bool (!r2)) rfl (Or.inl ⟨by kernel_rfl,fun u hu=>by kernel_rfl⟩) hHeld ?_
    simp only[Act.put,Y_a,Y_b,Y_c]
    refine wpAnyH_done (by kernel_rfl) ?_ _
    refine NoPanic.normal ?_
    have hB2:=hB.trans (Below.mono hHeld hB.size)
    cases hr2:r2 with
    | true =>
     have HD3:Hid (r=true↔(p1.map (·.1)).drop (k+1)=(p2.map (·.1)).drop (k+1)):=(by show _↔_;rw[HD2.out];simp[HR2.out.1 hr2])
     clear HD2 HR2
     subst hr2
     go_wp2
     exact⟨⟨k+1,by omega,by go_num,hB2,HD3⟩,by simp[intOf];omega⟩
    | false =>
     have r0:r=false:=(by
      cases hr:r with
      | false=>rfl
      | true=>exact absurd (HR2.out.2 (HD2.out.1 hr).1) (by simp[hr2]))
     clear HD2 HR2
     subst hr2 r0
     go_wp2
     go_ret
     exact⟨rfl,hB2⟩
   ·have hend:decide ((k:Int)<(p1.length:Int))=false:=decide_eq_false (by omega)
    have r1:r=true:=HD.out.2 (by rw[List.drop_eq_nil_of_le (by simp;omega),List.drop_eq_nil_of_le (by have:=HL.out;simp;omega)])
    subst r1
    go_wp2
    go_ret
    exact⟨rfl,hB⟩
 ·have r0:r=false:=(by
   cases hr:r with
   | false=>rfl
   | true=>exact absurd (by have:=congrArg List.length (HR.out.1 hr);simpa using this.symm) hl12)
  subst r0
  have e1:((p1.length:Int) == (p2.length:Int))=false:=beq_eq_false_iff_ne.2 (by omega)
  go_enter Tryz.func113,Tryz.ntmps113
  go_wp2
  go_ret
  exact⟨rfl,Below.refl _ _⟩
end

section
open Go.RowKit
theorem Zpm {a b c d:List UInt8} {x y:List Hk}:(⟨a,b,x⟩:Pth)=⟨c,d,y⟩↔a=c∧b=d∧x=y:=by
 constructor
 ·intro h
  injection h with h1 h2 h3
  exact⟨h1,h2,h3⟩
 ·rintro⟨rfl,rfl,rfl⟩
  rfl
theorem Zqk (p1 p2:Pth) (q1 q2:List (Hk × Value)) (H1:Hid (q1.map (·.1)=p1.hs)) (H2:Hid (q2.map (·.1)=p2.hs)) (v1 v2:Value) (w:World) (hv1:HHp w v1 q1) (hv2:HHp w v2 q2) (hok:HOw q1) (r:Bool) (HR:Hid (r=true↔p1=p2)) :
  Calls Tryz.prog 69 #[ptV p1 v1,ptV p2 v2] w fun e w'=>e=.returned (.bool r)∧Below w.heap.size w w':=by
 obtain⟨o1,n1,s1⟩:=p1
 obtain⟨o2,n2,s2⟩:=p2
 dsimp only at H1 H2
 obtain⟨lo1,lc1,rfl⟩:=Holds.form hv1.row
 obtain⟨lo2,lc2,rfl⟩:=Holds.form hv2.row
 rw[Zpm] at HR
 have hBa:Below w.heap.size w (w.alloc (.cells #[.string ⟨o1.toArray⟩,.string ⟨n1.toArray⟩,.slice lo1 q1.length lc1] 42)):=(Below.refl _ w).alloc (Nat.le_refl _) _
 have hBb:=hBa.alloc hBa.size (.cells #[.string ⟨o2.toArray⟩,.string ⟨n2.toArray⟩,.slice lo2 q2.length lc2] 42)
 have e1:ptV ⟨o1,n1,s1⟩ (.slice lo1 q1.length lc1)=.agg #[.string ⟨o1.toArray⟩,.string ⟨n1.toArray⟩,.slice lo1 q1.length lc1]:=rfl
 have e2:ptV ⟨o2,n2,s2⟩ (.slice lo2 q2.length lc2)=.agg #[.string ⟨o2.toArray⟩,.string ⟨n2.toArray⟩,.slice lo2 q2.length lc2]:=rfl
 rw[e1,e2]
 clear e1 e2
 by_cases h1:o1=o2
 ·subst h1
  by_cases h2:n1=n2
  ·subst h2
   have HRR:Hid (r=true↔q1.map (·.1)=q2.map (·.1)):=(by
    show (_↔_)
    rw[H1.out,H2.out]
    have h:=HR.out
    simpa using h)
   have hc:=Zqj q1 q2 _ _ _ (hv1.keep hBb (Nat.le_refl _)) (hv2.keep hBb (Nat.le_refl _)) hok r HRR
   clear HR HRR
   go_enter Tryz.func69,Tryz.ntmps69
   go_wp2_with fail
   refine hc.mono ?_
   rintro e w1 ⟨rfl,hB1⟩
   go_wp2
   go_ret
   exact⟨rfl,hBb.trans (hB1.mono hBb.size)⟩
  ·have HE:Hid (false=r):=(by
    cases r with
    | false=>rfl
    | true=>exact absurd (HR.out.1 rfl).2.1 h2)
   have j1:(n1 == n2)=false:=beq_eq_false_iff_ne.2 h2
   clear HR h2
   go_enter Tryz.func69,Tryz.ntmps69
   go_wp2
   go_ret
   exact⟨by rw[← HE.out];rfl,hBb⟩
 ·have HE:Hid (false=r):=(by
   cases r with
   | false=>rfl
   | true=>exact absurd (HR.out.1 rfl).1 h1)
  have j1:(o1 == o2)=false:=beq_eq_false_iff_ne.2 h1
  clear HR h1
  go_enter Tryz.func69,Tryz.ntmps69
  go_wp2
  go_ret
  exact⟨by rw[← HE.out];rfl,hBb⟩
end

section
open Go.RowKit
structure HPp (w:World) (v:Value) (F:List Pfd):Prop where
 row:Holds w v F.length (pxcells F)
 ins:∀ f∈F,f.hs.map (·.1)=f.x.hs∧HHp w f.v f.hs
theorem Pw.holds {w u:World} {v:Value} {F:List Pfd} (h:Pw w v F u):HPp u v F:=⟨Zeo h.own,fun f hf=>⟨(h.ins f hf).eq.symm,Zeo (h.ins f hf).own,fun y hy=>Zeo ((h.ins f hf).ins y hy)⟩⟩
theorem HPp.keep {w u:World} {v:Value} {F:List Pfd} (h:HPp w v F) (hb:Below w.heap.size w u):HPp u v F:=⟨Holds.keep h.row fun k hk=>hb.block k hk,fun f hf=>⟨(h.ins f hf).1,(h.ins f hf).2.keep hb (Nat.le_refl _)⟩⟩
theorem ZiQ (F:List Pfd):(pxcells F).length=F.length * 3:=by
 induction F with
 | nil=>rfl
 | cons f F ih =>
  simp only[pxcells,List.flatMap_cons,List.length_append,List.length_cons] at ih ⊢
  rw[ih]
  simp[pxC]
  omega
theorem ZiP (F:List Pfd):∀ (k:Nat) (hk:k<F.length),(pxcells F)[k * 3]?=some (.string ⟨F[k].x.old.toArray⟩)∧(pxcells F)[k * 3+1]?=some (.string ⟨F[k].x.new.toArray⟩)∧(pxcells F)[k * 3+2]?=some F[k].v:=by
 induction F with
 | nil=>intro k hk;cases hk
 | cons f F ih =>
  intro k hk
  have e:pxcells (f::F)=pxC f++pxcells F:=by simp[pxcells]
  rw[e]
  cases k with
  | zero=>exact⟨rfl,rfl,rfl⟩
  | succ k =>
   obtain⟨h1,h2,h3⟩:=ih k (by simpa using hk)
   have e0:(k+1) * 3=3+k * 3:=by omega
   have l3:(pxC f).length=3:=rfl
   refine⟨?_,?_,?_⟩
   ·rw[e0,List.getElem?_append_right (by rw[l3];omega),l3,show 3+k * 3-3=k * 3 by omega];exact h1
   ·rw[e0,List.getElem?_append_right (by rw[l3];omega),l3,show 3+k * 3+1-3=k * 3+1 by omega];exact h2
   ·rw[e0,List.getElem?_append_right (by rw[l3];omega),l3,show 3+k * 3+2-3=k * 3+2 by omega];exact h3
theorem HPp.at {w:World} {ao:Option Addr} {n c:Nat} {F:List Pfd} (h:HPp w (.slice ao n c) F) (h0:0<F.length):∃ b off,ao=some ⟨b,off,none⟩∧b<w.heap.size ∧
  ∀ k (hk:k<F.length),w.cell? ⟨b,off+k * 3,none⟩=some (.string ⟨F[k].x.old.toArray⟩)∧w.cell? ⟨b,off+k * 3+1,none⟩=some (.string ⟨F[k].x.new.toArray⟩)∧w.cell? ⟨b,off+k * 3+2,none⟩=some F[k].v:=by
 obtain⟨b,off,c',hv,hb,hc⟩:=Holds.at h.row (by rw[ZiQ];omega)
 cases hv
 refine⟨b,off,rfl,hb,fun k hk=>?_⟩
 obtain⟨h1,h2,h3⟩:=ZiP F k hk
 have hcc:∀ j u,(pxcells F)[j]?=some u→w.cell? ⟨b,off+j,none⟩=some u:=fun j u hj=>by
  obtain⟨hj1,hj2⟩:=List.getElem?_eq_some_iff.1 hj
  rw[hc j hj1,hj2]
 exact⟨hcc _ _ h1,by rw[Nat.add_assoc];exact hcc _ _ h2,by rw[Nat.add_assoc];exact hcc _ _ h3⟩
theorem Zqh (F G:List Pfd) (va vb:Value) (w:World) (ha:HPp w va F) (hb:HPp w vb G) (HE:Hid (F.map (·.x)=G.map (·.x))) (HO:Hid (∀ f∈F,HOw f.hs)) (hl:F.length≤1099511627776) :
  Calls Tryz.prog 36 #[va,vb] w fun e w'=>e=.returned (.bool true)∧Below w.heap.size w w':=by
 obtain⟨ao,ac,rfl⟩:=Holds.form ha.row
 obtain⟨bo,bc,rfl⟩:=Holds.form hb.row
 have hlen:F.length=G.length:=(by have:=congrArg List.length HE.out;simpa using this)
 have hne:((F.length:Int) != (G.length:Int))=false:=(by rw[hlen];simp)
 go_enter Tryz.func36,Tryz.ntmps36
 go_wp2
 go_loopw [5] (fun i wr=>∃ k:Nat,k≤F.length∧i=.int .i64 k∧Below w.heap.size w wr) (fun i _=>F.length-(intOf i).toNat)
 case atStart=>exact⟨0,Nat.zero_le _,by go_num,Below.refl _ _⟩
 case round =>
 obtain⟨k,hk,rfl,hB⟩:=hrel
 by_cases hlt:k<F.length
 ·have hak:=ha.keep hB
  have hbk:=hb.keep hB
  obtain⟨b1,o1,rfl,hb1,hc1⟩:=HPp.at hak (by omega)
  obtain⟨b2,o2,rfl,hb2,hc2⟩:=HPp.at hbk (by omega)
  obtain⟨x0,x1,x2⟩:=hc1 k hlt
  obtain⟨y0,y1,y2⟩:=hc2 k (by omega)
  have i1:(0:Int)≤(k:Int):=by omega
  have i2:(k:Int)<(F.length:Int):=by omega
  have i3:(k:Int)<(G.length:Int):=by omega
  have i4:(k:Int).toNat=k:=by omega
  obtain⟨f,hf⟩:∃ f,F[k]=f:=⟨_,rfl⟩
  obtain⟨g,hg⟩:∃ g,G[k]'(by omega)=g:=⟨_,rfl⟩
  have hfm:f∈F:=(by rw[← hf];exact List.getElem_mem _)
  have hgm:g∈G:=(by rw[← hg];exact List.getElem_mem _)
  have hxe:f.x=g.x:=(by
   have h1:(F.map (·.x))[k]?=(G.map (·.x))[k]?:=by rw[HE.out]
   rw[List.getElem?_map,List.getElem?_map,List.getElem?_eq_getElem hlt,List.getElem?_eq_getElem (by omega),hf,hg] at h1
   simpa using h1)
  rw[hf] at x0 x1 x2
  rw[hg] at y0 y1 y2
  have hcall:=fun u (hu:Below w.heap.size w u)=>Zqk f.x g.x f.hs g.hs (ha.ins f hfm).1 (hb.ins g hgm).1 f.v g.v u ((ha.ins f hfm).2.keep hu (Nat.le_refl _)) ((hb.ins g hgm).2.keep hu (Nat.le_refl _)) (HO.out f hfm) true (show Hid (true=true↔f.x=g.x) from ⟨fun _=>hxe,fun _=>rfl⟩)
  obtain⟨fo,fc,hfv⟩:=Holds.form ((ha.ins f hfm).2).row
  obtain⟨go,gc,hgv⟩:=Holds.form ((hb.ins g hgm).2).row
  unfold ptV at hcall
  rw[hfv] at x2 hcall
  rw[hgv] at y2 hcall
  clear hc1 hc2 hak hbk hxe hf hg hfm hgm hfv hgv
  go_wp2_with fail
  go_region_with (go_at_call 69;refine (hcall _ hB.drew).mono ?_;rintro e w2 ⟨rfl,hB2⟩)
  all_goals (
   have hB3:=hB.drew.trans (hB2.mono hB.drew.size)
   first
   | exact⟨⟨k+1,by omega,by go_num,hB3⟩,by simp[intOf];omega⟩
   | (go_wp2;exact⟨⟨k+1,by omega,by go_num,hB3⟩,by simp[intOf];omega⟩))
 ·have hend:decide ((k:Int)<(F.length:Int))=false:=decide_eq_false (by omega)
  go_wp2
  go_ret
  exact⟨rfl,hB⟩
end

section
open Ln
def szL:List (List UInt8)→Nat
 | []=>0
 | s::r=>s.length+1+szL r
theorem ZrB (l:List (List UInt8)):szL l.tail≤szL l:=by
 cases l with
 | nil=>exact Nat.le_refl _
 | cons s r=>simp only[List.tail_cons,szL];omega
theorem ZrA (l:List (List UInt8)):szL l=l.flatten.length+l.length:=by
 induction l with
 | nil=>rfl
 | cons s r ih =>
  simp only[szL,List.flatten_cons,List.length_append,List.length_cons,ih]
  omega
def szS (x:Sde):Nat:=szL (x.map (·.2))
theorem ZrC (y:UInt8 × List UInt8) (x:Sde):szS (y::x)=y.2.length+1+szS x:=rfl
theorem ZrD (x:Sde):szS (keptS x)≤szS x:=by
 induction x with
 | nil=>exact Nat.le_refl _
 | cons y x ih =>
  unfold keptS at ih ⊢
  rw[List.filter_cons]
  split
  ·rw[ZrC,ZrC]
   omega
  ·rw[ZrC]
   omega
theorem Zqs {sg:UInt8} (ls:List (List UInt8)):∀ {p p1:Nat} {r:List (List UInt8)} {x:Sde},rdS sg p ls=.ok (x,p1,r)→szS x+szL r≤szL ls:=by
 induction ls with
 | nil =>
  intro p p1 r x h
  simp only[rdS] at h
  cases h
  exact Nat.le_refl _
 | cons s ls ih =>
  intro p p1 r x h
  simp only[rdS] at h
  split at h
  ·split at h
   ·split at h
    ·cases h
     have:=ZrB ls
     rw[ZrC]
     simp only[szL,szS,List.map_nil,List.length_dropLast,List.length_drop]
     omega
    ·split at h
     ·cases h
     ·rename_i hr
      have:=ih hr
      cases h
      rw[ZrC]
      simp only[szL,List.length_drop]
      omega
   ·cases h
  ·cases h
   show 0+_≤_
   omega
theorem ZoH {p:Nat} {ls r:List (List UInt8)} {s:List UInt8} (h:nxt p ls=.ok (s,r)):szL r+1≤szL ls:=by
 cases ls with
 | nil=>cases h
 | cons t l =>
  simp only[nxt] at h
  split at h
  ·cases h
   simp only[szL]
   omega
  ·cases h
theorem Zrc {e:UInt8} {p:Nat} {ls r:List (List UInt8)} {q:Int × Int} (h:rngP e p ls=.ok (q,r)):szL r+1≤szL ls:=by
 unfold rngP at h
 split at h
 ·cases h
 ·rename_i hn
  split at h
  ·cases h
  ·split at h
   ·cases h
   ·cases h
    exact ZoH hn
theorem Zot {l:List Mk} (h:∀ m∈l,okS m.sg=true):l.length+txS l≤szL (pkL 43 l)+szL (pkL 45 l):=by
 induction l with
 | nil=>exact Nat.le_refl _
 | cons m l ih =>
  have h1:=ih fun x hx=>h x (by simp[hx])
  have h2:=h m (by simp)
  simp only[pkL,txS,List.length_cons]
  by_cases h3:m.sg=43
  ·rw[if_neg (by simp[h3]),if_pos ⟨by rw[h3];decide,h2⟩]
   simp only[szL]
   omega
  ·rw[if_pos ⟨h3,h2⟩]
   split
   ·simp only[szL]
    omega
   ·simp only[szL]
    omega
theorem Zng {a0 a1 a2:Nat} {po no pw nw:Int} {o w:Sde} {h:Hk} (hf:finH a0 a1 a2 po no pw nw o w=.ok h):h.ls.length+txS h.ls≤2 * (szS o+szS w):=by
 unfold finH at hf
 split at hf
 ·cases hf
 split at hf
 ·cases hf
 split at hf
 ·cases hf
 split at hf
 ·cases hf
 split at hf
 ·cases hf
 split at hf
 ·cases hf
 ·rename_i l hj
  cases hf
  obtain⟨_,b,c,d,_⟩:=ZeY _ hj
  have:=Zot b
  rw[c,d] at this
  have e1:szL ((oldF o w).map (·.2))≤szS o+szS w:=by
   show szS (oldF o w)≤_
   unfold oldF
   split
   ·have:=ZrD w
    omega
   ·omega
  have e2:szL ((newF o w).map (·.2))≤szS o+szS w:=by
   show szS (newF o w)≤_
   unfold newF
   split
   ·have:=ZrD o
    omega
   ·omega
  dsimp only
  omega
theorem ZmP {k p p1:Nat} {ls r:List (List UInt8)} {h:Hk} (hh:cxH k p ls=.ok (h,p1,r)):h.ls.length+txS h.ls+2 * szL r+6≤2 * szL ls:=by
 unfold cxH at hh
 split at hh
 ·cases hh
 ·rename_i s r0 hn
  have a1:=ZoH hn
  split at hh
  ·split at hh
   ·cases hh
   ·split at hh
    ·cases hh
    ·rename_i po no r1 h1
     have b1:=Zrc h1
     split at hh
     ·cases hh
     ·rename_i o p2 r2 h2
      have c1:=Zqs _ h2
      split at hh
      ·cases hh
      ·rename_i pw nw r3 h3
       have d1:=Zrc h3
       split at hh
       ·cases hh
       ·rename_i w p4 r4 h4
        have e1:=Zqs _ h4
        split at hh
        ·cases hh
        ·rename_i h5 hf
         cases hh
         have:=Zng hf
         omega
  ·cases hh
theorem ZmR (f:Nat):∀ {k p p1:Nat} {ls r:List (List UInt8)} {hs:List Hk},cxHs f k p ls=.ok (hs,p1,r)→hsS hs+208 * szL r≤208 * szL ls:=by
 induction f with
 | zero=>intro k p p1 ls r hs h;cases h
 | succ f ih =>
  intro k p p1 ls r hs h
  simp only[cxHs] at h
  split at h
  ·cases h
  ·rename_i h0 q1 r1 h1
   have a:=ZmP h1
   split at h
   ·split at h
    ·cases h
    ·rename_i l q2 r2 h2
     have b:=ih h2
     cases h
     simp only[hsS]
     omega
   ·cases h
    simp only[hsS]
    omega
def ptM:List Pth→Nat
 | []=>0
 | p::L=>416+hsS p.hs+ptM L
theorem Zoy {ah n:List UInt8} {p:Nat} {ls r:List (List UInt8)} (h:namP ah p ls=.ok (n,r)):szL r+1≤szL ls:=by
 unfold namP at h
 split at h
 ·cases h
 ·rename_i s r0 hn
  have:=ZoH hn
  split at h
  ·split at h
   ·cases h
   ·cases h
    exact this
  ·cases h
theorem ZmT (f:Nat):∀ {k p:Nat} {ls:List (List UInt8)} {L:List Pth},cxPs f k p ls=.ok L→ptM L≤208 * szL ls:=by
 induction f with
 | zero =>
  intro k p ls L h
  simp only[cxPs] at h
  cases h
  exact Nat.zero_le _
 | succ f ih =>
  intro k p ls L h
  simp only[cxPs] at h
  split at h
  ·cases h
   exact Nat.zero_le _
  ·split at h
   ·cases h
   ·rename_i n1 r1 h1
    have a1:=Zoy h1
    split at h
    ·cases h
    ·split at h
     ·cases h
     ·rename_i n2 r2 h2
      have b1:=Zoy h2
      split at h
      ·cases h
      ·rename_i hs p3 r3 h3
       have c1:=ZmR _ h3
       split at h
       ·cases h
       ·rename_i l h4
        have d1:=ih h4
        cases h
        simp only[ptM]
        omega
theorem ZmN {t:List UInt8} {L:List Pth} (h:cxT t=.ok L):ptM L≤436207616:=by
 unfold cxT at h
 split at h
 ·cases h
 ·rename_i hl
  have:=ZmT _ h
  rw[ZrA,split_join] at this
  have h2:=split_len t
  omega
theorem Zpl {L:List Pth} {p:Pth} (h:p∈L):416+hsS p.hs≤ptM L:=by
 induction L with
 | nil=>cases h
 | cons q L ih =>
  simp only[ptM]
  rcases List.mem_cons.1 h with rfl | h
  ·omega
  ·have:=ih h
   omega
theorem ZnN {l:List Hk} {x:Hk} (h:x∈l):x.ls.length+txS x.ls≤hsS l:=by
 induction l with
 | nil=>cases h
 | cons q l ih =>
  simp only[hsS]
  rcases List.mem_cons.1 h with rfl | h
  ·omega
  ·have:=ih h
   omega
theorem ZnM (l:List Hk):l.length≤hsS l:=by
 induction l with
 | nil=>exact Nat.le_refl _
 | cons q l ih =>
  simp only[hsS,List.length_cons]
  omega
theorem ZrH {l:List Mk} {m:Mk} (h:m∈l):m.tx.length≤txS l:=by
 induction l with
 | nil=>cases h
 | cons q l ih =>
  simp only[txS]
  rcases List.mem_cons.1 h with rfl | h
  ·omega
  ·have:=ih h
   omega
theorem ZnK {p:List (Hk × Value)} (h:hsS (p.map (·.1))≤436207616):HOk p:=by
 refine⟨?_,fun x hx=>?_⟩
 ·have:=ZnM (p.map (·.1))
  rw[List.length_map] at this
  omega
 ·have:=ZnN (List.mem_map_of_mem (f:=(·.1)) hx)
  refine⟨by omega,fun m hm=>?_⟩
  have:=ZrH hm
  omega
end

section
open Ln
theorem ZoI {p:Nat} {ls r:List (List UInt8)} {s:List UInt8} (h:nxt p ls=.ok (s,r)):s.length+2+szL r≤szL ls:=by
 have:=Zhp h
 subst this
 simp only[szL,List.length_append,List.length_cons,List.length_nil]
 omega
theorem ZrV {a b p p1:Nat} {ls r:List (List UInt8)} {m:Mk} (h:ulnP a b p ls=.ok (m,p1,r)):m.tx.length+1+szL r≤szL ls:=by
 unfold ulnP at h
 split at h
 ·cases h
 ·cases h
 ·rename_i c t r0 hn
  have:=ZoI hn
  have ht:=ZrB r0
  simp only[List.length_cons] at this
  split at h
  ·split at h
   ·cases h
    dsimp only
    omega
   ·cases h
    simp only[List.length_append,List.length_cons,List.length_nil]
    omega
  ·cases h
theorem Zsg (n:Nat):∀ {a b p p1:Nat} {ls r:List (List UInt8)} {l:List Mk},urdP n a b p ls=.ok (l,p1,r)→l.length+txS l+szL r≤szL ls:=by
 induction n with
 | zero =>
  intro a b p p1 ls r l h
  simp only[urdP] at h
  cases h
  simp only[txS,List.length_nil]
  omega
 | succ n ih =>
  intro a b p p1 ls r l h
  simp only[urdP] at h
  split at h
  ·cases h
   simp only[txS,List.length_nil]
   omega
  ·split at h
   ·cases h
   ·rename_i h1
    have a1:=ZrV h1
    split at h
    ·cases h
    ·rename_i h2
     have b1:=ih h2
     cases h
     simp only[txS,List.length_cons]
     omega
theorem ZrR {k p p1:Nat} {ls r:List (List UInt8)} {h:Hk} (hh:uhkP k p ls=.ok (h,p1,r)):h.ls.length+txS h.ls+szL r+1≤szL ls:=by
 unfold uhkP at hh
 split at hh
 ·cases hh
 ·rename_i s r0 hn
  have a1:=ZoH hn
  split at hh
  ·cases hh
  ·split at hh
   ·cases hh
   ·split at hh
    ·cases hh
    ·split at hh
     ·cases hh
     ·rename_i h1
      have b1:=Zsg _ h1
      split at hh
      ·cases hh
      ·cases hh
       dsimp only
       omega
theorem ZrU {x:List UInt8} (f:Nat):∀ {k p p1:Nat} {ls r:List (List UInt8)} {hs:List Hk},uhsP x f k p ls=.ok (hs,p1,r)→hsS hs+208 * szL r≤208 * szL ls:=by
 induction f with
 | zero=>intro k p p1 ls r hs h;cases h
 | succ f ih =>
  intro k p p1 ls r hs h
  simp only[uhsP] at h
  split at h
  ·cases h
  ·rename_i h0 q1 r1 h1
   have a:=ZrR h1
   split at h
   ·split at h
    ·cases h
    ·rename_i l q2 r2 h2
     have b:=ih h2
     cases h
     simp only[hsS]
     omega
   ·cases h
    simp only[hsS]
    omega
theorem Zsf {x:List UInt8} (f:Nat):∀ {k p:Nat} {ls:List (List UInt8)} {L:List Pth},upsP x f k p ls=.ok L→ptM L≤208 * szL ls:=by
 induction f with
 | zero =>
  intro k p ls L h
  simp only[upsP] at h
  cases h
  exact Nat.zero_le _
 | succ f ih =>
  intro k p ls L h
  simp only[upsP] at h
  split at h
  ·cases h
   exact Nat.zero_le _
  ·split at h
   ·cases h
   ·rename_i n1 r1 h1
    have a1:=Zoy h1
    split at h
    ·cases h
    ·split at h
     ·cases h
     ·rename_i n2 r2 h2
      have b1:=Zoy h2
      split at h
      ·cases h
      ·rename_i hs p3 r3 h3
       have c1:=ZrU _ h3
       split at h
       ·cases h
       ·rename_i l h4
        have d1:=ih h4
        cases h
        simp only[ptM]
        omega
theorem Zsa {x t:List UInt8} {L:List Pth} (h:unT x t=.ok L):ptM L≤436207616:=by
 unfold unT at h
 split at h
 ·cases h
 ·rename_i hl
  have:=Zsf _ h
  rw[ZrA,split_join] at this
  have h2:=split_len t
  omega
end

section
open Go.RowKit
end

section
open Go.RowKit
end

section
open Go.RowKit Go.Proofs.YtcniomgjikienaaGreatDoor.Tx
attribute [local go_sem] Zhc
end

section
open Go.RowKit Go.Proofs.YtcniomgjikienaaGreatDoor.Tx
attribute [local go_sem] Zhc
end

section
open Go.RowKit Go.Proofs.YtcniomgjikienaaGreatDoor.Tx
attribute [local go_sem] Zhc
structure Pv (wb:World) (S:Nat) (n1 n2:List UInt8) (hv:Value) (P:List (Hk × Value)) (u:World):Prop where
 low:Below wb.heap.size wb u
 box:u.heap[S]?=some (.cells #[.string ⟨n1.toArray⟩,.string ⟨n2.toArray⟩,hv] 42)
 own:u.ownsRow wb.heap.size 45 5 hv P.length (hkcells P)
 ins:∀ x∈P,u.ownsRow wb.heap.size 47 2 x.2 x.1.ls.length (mkcells x.1.ls)
 ge:wb.heap.size≤S
section
variable {wb u u':World} {S:Nat} {hv:Value} {n1 n2:List UInt8} {P:List (Hk × Value)}
theorem Pv.keep (h:Pv wb S n1 n2 hv P u) (hb:Below u.heap.size u u'):Pv wb S n1 n2 hv P u':=⟨h.low.trans (hb.mono h.low.size),(hb.block S (Array.getElem?_eq_some_iff.1 h.box).1).trans h.box,ZhK h.own hb,fun x hx=>ZhK (h.ins x hx) hb,h.ge⟩
theorem Pv.cells (h:Pv wb S n1 n2 hv P u):u.cell? ⟨S,0,none⟩=some (.string ⟨n1.toArray⟩)∧u.cell? ⟨S,1,none⟩=some (.string ⟨n2.toArray⟩)∧u.cell? ⟨S,2,none⟩=some hv:=by
 refine⟨?_,?_,?_⟩<;>rw[Lib.cell_of_heap h.box]<;>rfl
theorem Pv.more (h:Pv wb S n1 n2 hv P u) {x:Hk} {y hv':Value} (hy:u.ownsRow wb.heap.size 47 2 y x.ls.length (mkcells x.ls)) (hg:u.grownBy u' hv.ownBlock) (ho:u'.ownsRow wb.heap.size 45 5 hv' (P.length+1) (hkcells P++hkC x y)) :
  Pv wb S n1 n2 hv' (P++[(x,y)]) (u'.setCell ⟨S,2,none⟩ hv')∧u'.cell? ⟨S,2,none⟩=some hv∧u'.frozen? ⟨S,2,none⟩=false∧Below wb.heap.size wb u':=by
 have hge:∀ j,hv.ownBlock=some j→wb.heap.size≤j:=fun j hj=>ZhJ h.own hj
 have hb:u'.heap[S]?=some (.cells #[.string ⟨n1.toArray⟩,.string ⟨n2.toArray⟩,hv] 42):=(hg.block S (Array.getElem?_eq_some_iff.1 h.box).1 (fun e=>ZhE h.own h.box (by decide) e.symm)).trans h.box
 have hlow:Below wb.heap.size wb u':=h.low.grown hg h.low.size hge
 have key:∀ {v:Value} {n:Nat} {xs:List Value},u.ownsRow wb.heap.size 47 2 v n xs→u'.ownsRow wb.heap.size 47 2 v n xs:=by
  intro v n xs hv2
  exact ZjA hv2 h.own (by decide) hg
 have hg2:=ZdS u' S 2 hv'
 have hkc:hkcells (P++[(x,y)])=hkcells P++hkC x y:=by rw[Zeh];simp[hkcells,hkC]
 refine⟨⟨hlow.setCell h.ge _,heap_setCell_same u' S 2 _ _ hv' hb,?_,?_,h.ge⟩,by rw[Lib.cell_of_heap hb];rfl,Lib.frozen_of_heap hb 2,hlow⟩
 ·rw[List.length_append,hkc]
  exact ho.kept hg2 (.inr (ZhE ho hb (by decide)))
 ·intro z hz
  rcases List.mem_append.1 hz with hz | hz
  ·exact (key (h.ins z hz)).kept hg2 (.inr (ZhE (key (h.ins z hz)) hb (by decide)))
  ·rw[List.mem_singleton.1 hz]
   exact (key hy).kept hg2 (.inr (ZhE (key hy) hb (by decide)))
end
section
variable {w u u':World} {ov:Value} {F:List Pfd}
theorem ZiO (h:Pw w ov F u) (hb:Below u.heap.size u u'):Pw w ov F u':=⟨h.low.trans (hb.mono h.low.size),ZhK h.own hb,fun f hf=>(h.ins f hf).keep hb⟩
end
end

section
open Ln
section
variable {o w:Sde} {i j f:Nat}
end
end

section
open Go.RowKit
attribute [local go_sem] ByteArray.extract_mk Zhc
def RdZ (u:World) (R:Nat) (vL:Value):Except (Nat × Int) Nat→Prop
 | .ok p=>Rx u R vL (p:Int) 0 0
 | .error (a,z)=>(∃ p':Nat,Rx u R vL (p':Int) (a:Int) z)∧z≠0
theorem RdZ.keep {u u':World} {R:Nat} {vL:Value} {st:Except (Nat × Int) Nat} (h:RdZ u R vL st) (hk:∀ {p fa fe:Int},Rx u R vL p fa fe→Rx u' R vL p fa fe):RdZ u' R vL st:=by
 match st,h with
 | .ok _,h=>exact hk h
 | .error (_,_),⟨⟨p',h⟩,h2⟩=>exact⟨⟨p',hk h⟩,h2⟩
theorem RdZ.low {u u':World} {R:Nat} {vL:Value} {st:Except (Nat × Int) Nat} (h:RdZ u R vL st) (hb:Below u.heap.size u u'):RdZ u' R vL st:=h.keep fun q=>(hb.block R q.lt).trans q
theorem RdZ.off {u u':World} {R:Nat} {vL:Value} {st:Except (Nat × Int) Nat} {g:Option Nat} (h:RdZ u R vL st) (hg:u.grownBy u' g) (hr:some R≠g):RdZ u' R vL st:=h.keep fun q=>(hg.block R q.lt hr).trans q
theorem RdZ.dN {u:World} {R:Nat} {vL:Value} {st:Except (Nat × Int) Nat} (h:RdZ u R vL st) (n:Nat):RdZ (u.drewN n) R vL st:=h.keep fun q=>q.dN n
theorem RdZ.lt {u:World} {R:Nat} {vL:Value} {st:Except (Nat × Int) Nat} (h:RdZ u R vL st):R<u.heap.size:=by
 match st,h with
 | .ok _,h=>exact Rx.lt h
 | .error (_,_),⟨⟨_,h⟩,_⟩=>exact Rx.lt h
def feS:Except (Nat × Int) Nat→Int
 | .ok _=>0
 | .error (_,z)=>z
theorem RdZ.fe {u:World} {R:Nat} {vL:Value} {st:Except (Nat × Int) Nat} (h:RdZ u R vL st):u.cell? ⟨R,3,none⟩=some (.int .i64 (feS st)):=by
 match st,h with
 | .ok _,h=>exact (Rx.cells h).2.2.2
 | .error (_,_),⟨⟨_,h⟩,_⟩=>exact (Rx.cells h).2.2.2
def NxQ (R:Nat) (vL:Value) (Z:Except (Nat × Int) (List UInt8 × Nat)) (x:Ending) (w':World):Prop :=
 match Z with
 | .error e=>x=.returned (.string ⟨#[]⟩)∧RdZ w' R vL (.error e)
 | .ok (s,p1)=>x=.returned (.string ⟨s.toArray⟩)∧RdZ w' R vL (.ok p1)
end

section
open Q Go.RowKit Go.Proofs.YtcniomgjikienaaGreatDoor.Tx Go.Shelf
attribute [local go_sem] ZaB ByteArray.extract_mk
end

section
open Go.RowKit Go.Proofs.YtcniomgjikienaaGreatDoor.Tx
attribute [local go_sem] ByteArray.extract_mk Zhc
end

section
open Go.RowKit
attribute [local go_sem] ByteArray.extract_mk Zhc
theorem Zkq {q:UInt8→Bool}:∀ (s:List UInt8) (i:Nat) (hi:i<s.length),q s[i]=true→(∀ j (hj:j<i),q (s[j]'(by omega))=false)→spB q s=some (s.take i,s[i],s.drop (i+1))
 | [],_,hi,_,_=>by simp at hi
 | c::t,0,_,hq,_=>by
  simp only[List.getElem_cons_zero] at hq
  simp[spB,hq]
 | c::t,i+1,hi,hq,h=>by
  have h0:=h 0 (by omega)
  simp only[List.getElem_cons_zero] at h0
  have ih:=Zkq t i (by simpa using hi) (by simpa using hq) (fun j hj=>by have:=h (j+1) (by omega);simpa using this)
  simp[spB,h0,ih]
theorem Zkr {q:UInt8→Bool}:∀ (s:List UInt8),(∀ j (hj:j<s.length),q s[j]=false)→spB q s=none
 | [],_=>rfl
 | c::t,h=>by
  have h0:=h 0 (by simp)
  simp only[List.getElem_cons_zero] at h0
  have ih:=Zkr t (fun j hj=>by have:=h (j+1) (by simp;omega);simpa using this)
  simp[spB,h0,ih]
def LnsP (s:List UInt8) (x:Ending):Prop :=
 match lnsP s with
 | some (A,N)=>x=.returned (.tuple #[.int .i64 A,.int .i64 N,.bool true])
 | none=>∃ A N,x=.returned (.tuple #[.int .i64 A,.int .i64 N,.bool false])
theorem LnsP.mk0 {s:List UInt8} (h2:∀ j (hj:j<s.length),isK s[j]=false) {b:Bool} (hb:(decide (Pn.parseE s=0) && decide (1≤Pn.parseV s))=b) :
  LnsP s (.returned (.tuple #[.int .i64 (Pn.parseV s),.int .i64 1,.bool b])):=by
 unfold LnsP lnsP
 rw[Zkr s h2]
 dsimp only
 cases b with
 | true =>
  simp only[Bool.and_eq_true,decide_eq_true_eq] at hb
  rw[if_pos hb]
 | false =>
  rw[if_neg (by intro hq;simp[hq] at hb)]
  exact⟨_,_,rfl⟩
end

section
open Go.RowKit
attribute [local go_sem] ByteArray.extract_mk Zhc
abbrev ptO5 (a p n:Int) (vk vl:Value):Obj:=.cells #[.int .i64 a,.int .i64 p,.int .i64 n,vk,vl] 176
def Bp5 (u:World) (b:Nat) (a p n:Int) (vk vl:Value):Prop:=u.heap[b]?=some (ptO5 a p n vk vl)
section
variable {u u':World} {b:Nat} {a p n:Int} {vk vl:Value}
theorem Bp5.cells (q:Bp5 u b a p n vk vl):u.cell? ⟨b,0,none⟩=some (.int .i64 a)∧u.cell? ⟨b,1,none⟩=some (.int .i64 p)∧u.cell? ⟨b,2,none⟩=some (.int .i64 n)∧u.cell? ⟨b,3,none⟩=some vk∧u.cell? ⟨b,4,none⟩=some vl:=by
 unfold Bp5 ptO5 at q
 refine⟨?_,?_,?_,?_,?_⟩<;>rw[Lib.cell_of_heap q]<;>rfl
theorem Bp5.frozen (q:Bp5 u b a p n vk vl) (j:Nat):u.frozen? ⟨b,j,none⟩=false:=Lib.frozen_of_heap q j
theorem Bp5.lt (q:Bp5 u b a p n vk vl):b<u.heap.size:=(Array.getElem?_eq_some_iff.1 q).1
theorem Bp5.off (q:Bp5 u b a p n vk vl) {g:Option Nat} (hg:u.grownBy u' g) (hr:some b≠g):Bp5 u' b a p n vk vl:=(hg.block b q.lt hr).trans q
theorem Bp5.low (q:Bp5 u b a p n vk vl) (hb:Below u.heap.size u u'):Bp5 u' b a p n vk vl:=(hb.block b q.lt).trans q
end
def RgR (R:Nat) (vL:Value) (Z:Except (Nat × Int) ((Int × Int) × Nat)) (a p n:Int) (w':World):Prop :=
 match Z with
 | .error x=>RdZ w' R vL (.error x)
 | .ok (q,p1)=>a=(p1:Int)∧p=q.1∧n=q.2∧RdZ w' R vL (.ok p1)
theorem RdZ.at {u:World} {R:Nat} {vL:Value} {st:Except (Nat × Int) Nat} (h:RdZ u R vL st):∃ p':Nat,u.cell? ⟨R,1,none⟩=some (.int .i64 (p':Int))∧∀ p,st=.ok p→p'=p:=by
 match st,h with
 | .ok p,h=>exact⟨p,(Rx.cells h).2.1,fun _ q=>by cases q;rfl⟩
 | .error (_,_),⟨⟨p',h⟩,_⟩=>exact⟨p',(Rx.cells h).2.1,fun _ q=>by cases q⟩
end

section
open Go.RowKit
def kcells (x:Sde):List Value:=x.map fun y=>.int .u8 (y.1.toNat:Int)
def HK (w:World) (v:Value) (x:Sde):Prop:=Holds w v x.length (kcells x)
theorem Zfg (x:Sde):(kcells x).length=x.length:=by simp[kcells]
theorem HK.at {w:World} {ao:Option Addr} {n c:Nat} {x:Sde} (h:HK w (.slice ao n c) x) (h0:0<x.length):∃ b off,ao=some ⟨b,off,none⟩∧b<w.heap.size∧∀ k (hk:k<x.length),w.cell? ⟨b,off+k,none⟩=some (.int .u8 (x[k].1.toNat:Int)):=by
 obtain⟨b,off,c',hv,hb,hc⟩:=Holds.at h (by rw[Zfg];exact h0)
 cases hv
 refine⟨b,off,rfl,hb,fun k hk=>?_⟩
 have:=hc k (by rw[Zfg];exact hk)
 simpa [kcells] using this
theorem HK.keep {w w':World} {v:Value} {x:Sde} (h:HK w v x) (hb:Below w.heap.size w w'):HK w' v x:=Holds.keep h fun k hk=>hb.block k hk
structure Hsd (w:World) (vk vl:Value) (x:Sde):Prop where
 k:HK w vk x
 l:HS w vl (x.map (·.2))
theorem Hsd.keep {w w':World} {vk vl:Value} {x:Sde} (h:Hsd w vk vl x) (hb:Below w.heap.size w w'):Hsd w' vk vl x:=⟨h.k.keep hb,HS.keep h.l hb (Nat.le_refl _)⟩
theorem Hsd.form {w:World} {vk vl:Value} {x:Sde} (h:Hsd w vk vl x):∃ ko kc lo lc,vk=.slice ko x.length kc∧vl=.slice lo x.length lc:=by
 obtain⟨ko,kc,h1⟩:=Holds.form h.k
 obtain⟨lo,lc,h2⟩:=Holds.form h.l
 rw[List.length_map] at h2
 exact⟨ko,kc,lo,lc,h1,h2⟩
end

section
open Go.RowKit
def bcs (ks:List UInt8):List Value:=ks.map fun c=>.int .u8 (c.toNat:Int)
structure Lx (w:World) (R X:Nat) (a p n:Int) (vk vl:Value) (ks:List UInt8) (ts:List (List UInt8)) (u:World):Prop where
 os:u.os=w.os
 tape:u.tape=w.tape
 output:u.output=w.output
 size:w.heap.size≤u.heap.size
 block:∀ k,k<w.heap.size→k≠R→k≠X→u.heap[k]?=w.heap[k]?
 box:Bp5 u X a p n vk vl
 ok:u.ownsRow w.heap.size 5 1 vk ks.length (bcs ks)
 ol:u.ownsRow w.heap.size 9 1 vl ts.length (scells ts)
section
variable {w u u':World} {R X:Nat} {a p n:Int} {vk vl:Value} {ks:List UInt8} {ts:List (List UInt8)}
theorem Lx.low (h:Lx w R X a p n vk vl ks ts u) (hb:Below u.heap.size u u'):Lx w R X a p n vk vl ks ts u' :=
 ⟨hb.os.trans h.os,hb.tape.trans h.tape,hb.output.trans h.output,Nat.le_trans h.size hb.size,fun k h1 h2 h3=>(hb.block k (Nat.lt_of_lt_of_le h1 h.size)).trans (h.block k h1 h2 h3),h.box.low hb,ZhK h.ok hb,ZhK h.ol hb⟩
theorem Lx.call (h:Lx w R X a p n vk vl ks ts u) (hg:u.grownBy u' (some R)) (hR:R<w.heap.size) (hX:X≠R):Lx w R X a p n vk vl ks ts u' :=
 ⟨hg.os.trans h.os,hg.tape.trans h.tape,hg.output.trans h.output,Nat.le_trans h.size hg.size,fun k h1 h2 h3=>(hg.block k (Nat.lt_of_lt_of_le h1 h.size) (fun e=>h2 (Option.some.inj e))).trans (h.block k h1 h2 h3),h.box.off hg (fun e=>hX (Option.some.inj e)),ZhI h.ok hg hR,ZhI h.ol hg hR⟩
end
def thenS (x:Sde) (Y:Except (Nat × Int) (Sde × Nat)):Except (Nat × Int) (Sde × Nat) :=
 match Y with
 | .error e=>.error e
 | .ok (l,p)=>.ok (x++l,p)
def LnQ5 (R:Nat) (vL:Value) (Z:Except (Nat × Int) (Sde × Nat)) (x:Sde) (w':World):Prop :=
 match Z with
 | .error e=>RdZ w' R vL (.error e)
 | .ok (x0,p1)=>x=x0∧RdZ w' R vL (.ok p1)
end

section
open Ln
def stP {α:Type}:Except (Nat × Int) (α × Nat)→Except (Nat × Int) Nat
 | .error e=>.error e
 | .ok (_,p)=>.ok p
end

section
open Go.RowKit Go.Proofs.YtcniomgjikienaaGreatDoor.Tx
attribute [local go_sem] ByteArray.extract_mk Zhc
end

section
open Ln
end

section
open Ln
/- layer 15 -/
end

section
open Go.RowKit
end

section
open Go.RowKit
end

section
open Go.RowKit Go.Proofs.YtcniomgjikienaaGreatDoor.Tx
theorem RdZ.blk {u:World} {R:Nat} {vL:Value} {st:Except (Nat × Int) Nat} (h:RdZ u R vL st):∃ cs,u.heap[R]?=some (.cells cs 123):=by
 match st,h with
 | .ok _,h=>exact⟨_,h⟩
 | .error (_,_),⟨⟨_,h⟩,_⟩=>exact⟨_,h⟩
def nmN (Z:Except (Nat × Int) (List UInt8 × Nat)):List UInt8:=match Z with
 | .error _=>[]
 | .ok (n,_)=>n
theorem NxQ.st {R:Nat} {vL:Value} {Z:Except (Nat × Int) (List UInt8 × Nat)} {x:Ending} {w':World} (h:NxQ R vL Z x w'):x=.returned (.string ⟨(nmN Z).toArray⟩)∧RdZ w' R vL (stP Z):=by
 rcases Z with e | ⟨n,p1⟩
 ·exact h
 ·exact h
structure Pzr (wb:World) (R S:Nat) (vL:Value) (n1 n2:List UInt8) (hv:Value) (P:List (Hk × Value)) (st:Except (Nat × Int) Nat) (u:World):Prop where
 gr:wb.grownBy u (some R)
 box:u.heap[S]?=some (.cells #[.string ⟨n1.toArray⟩,.string ⟨n2.toArray⟩,hv] 42)
 own:u.ownsRow wb.heap.size 45 5 hv P.length (hkcells P)
 ins:∀ x∈P,u.ownsRow wb.heap.size 47 2 x.2 x.1.ls.length (mkcells x.1.ls)
 rd:RdZ u R vL st
 ge:wb.heap.size≤S
 rl:R<wb.heap.size
section
variable {wb u u':World} {R S:Nat} {vL hv:Value} {n1 n2:List UInt8} {P:List (Hk × Value)} {st st':Except (Nat × Int) Nat}
theorem Pzr.keep (h:Pzr wb R S vL n1 n2 hv P st u) (hb:Below u.heap.size u u'):Pzr wb R S vL n1 n2 hv P st u':=⟨ZdT h.gr (ZfO hb _),(hb.block S (Array.getElem?_eq_some_iff.1 h.box).1).trans h.box,ZhK h.own hb,fun x hx=>ZhK (h.ins x hx) hb,h.rd.low hb,h.ge,h.rl⟩
theorem Pzr.ne (h:Pzr wb R S vL n1 n2 hv P st u):R≠S:=by have h1:=h.ge;have h2:=h.rl;omega
theorem Pzr.call (h:Pzr wb R S vL n1 n2 hv P st u) (hg:u.grownBy u' (some R)) (q:RdZ u' R vL st'):Pzr wb R S vL n1 n2 hv P st' u':=⟨ZdT h.gr hg,(hg.block S (Array.getElem?_eq_some_iff.1 h.box).1 (fun e=>h.ne (Option.some.inj e).symm)).trans h.box,ZhI h.own hg h.rl,fun x hx=>ZhI (h.ins x hx) hg h.rl,q,h.ge,h.rl⟩
theorem Pzr.cells (h:Pzr wb R S vL n1 n2 hv P st u):u.cell? ⟨S,0,none⟩=some (.string ⟨n1.toArray⟩)∧u.cell? ⟨S,1,none⟩=some (.string ⟨n2.toArray⟩)∧u.cell? ⟨S,2,none⟩=some hv:=by
 refine⟨?_,?_,?_⟩<;>rw[Lib.cell_of_heap h.box]<;>rfl
theorem Pzr.frozen (h:Pzr wb R S vL n1 n2 hv P st u) (j:Nat):u.frozen? ⟨S,j,none⟩=false:=Lib.frozen_of_heap h.box j
theorem Pzr.put (h:Pzr wb R S vL n1 n2 hv P st u) (j:Nat) (z:Value) {m1 m2:List UInt8} {hv':Value} (hc:#[Value.string ⟨n1.toArray⟩,.string ⟨n2.toArray⟩,hv].setIfInBounds j z=#[.string ⟨m1.toArray⟩,.string ⟨m2.toArray⟩,hv']) (ho:u.ownsRow wb.heap.size 45 5 hv' P.length (hkcells P)):Pzr wb R S vL m1 m2 hv' P st (u.setCell ⟨S,j,none⟩ z):=by
 have hg:=ZdS u S j z
 refine⟨ZdR h.gr h.ge j z,?_,ho.kept hg (.inr (ZhE ho h.box (by decide))),fun x hx=>(h.ins x hx).kept hg (.inr (ZhE (h.ins x hx) h.box (by decide))),h.rd.off hg (fun e=>h.ne (Option.some.inj e)),h.ge,h.rl⟩
 have:=heap_setCell_same u S j _ _ z h.box
 rw[hc] at this
 exact this
theorem Pzr.more (h:Pzr wb R S vL n1 n2 hv P st u) {x:Hk} {y hv':Value} (hy:u.ownsRow wb.heap.size 47 2 y x.ls.length (mkcells x.ls)) (hg:u.grownBy u' hv.ownBlock) (ho:u'.ownsRow wb.heap.size 45 5 hv' (P.length+1) (hkcells P++hkC x y)) :
  Pzr wb R S vL n1 n2 hv' (P++[(x,y)]) st (u'.setCell ⟨S,2,none⟩ hv')∧u'.cell? ⟨S,2,none⟩=some hv∧u'.frozen? ⟨S,2,none⟩=false:=by
 have hge:∀ j,hv.ownBlock=some j→wb.heap.size≤j:=fun j hj=>ZhJ h.own hj
 have hb:u'.heap[S]?=some (.cells #[.string ⟨n1.toArray⟩,.string ⟨n2.toArray⟩,hv] 42):=(hg.block S (Array.getElem?_eq_some_iff.1 h.box).1 (fun e=>ZhE h.own h.box (by decide) e.symm)).trans h.box
 have hgR:wb.grownBy u' (some R):=⟨hg.os.trans h.gr.os,hg.tape.trans h.gr.tape,hg.output.trans h.gr.output,Nat.le_trans h.gr.size hg.size,fun k h1 h2=>(hg.block k (Nat.lt_of_lt_of_le h1 h.gr.size) (fun e=>by have:=hge k e.symm;omega)).trans (h.gr.block k h1 h2)⟩
 have hck:RdZ u' R vL st:=h.rd.off hg (fun e=>by have:=hge R e.symm;have:=h.rl;omega)
 have key:∀ {v:Value} {n:Nat} {xs:List Value},u.ownsRow wb.heap.size 47 2 v n xs→u'.ownsRow wb.heap.size 47 2 v n xs:=by
  intro v n xs hv2
  refine⟨hv2.1,?_⟩
  rcases hv2.2 with q | ⟨b,cap,cur,rfl,q2,q3,q4⟩
  ·exact .inl q
  ·refine .inr ⟨b,cap,cur,rfl,q2,?_,q4⟩
   rw[hg.block b (Array.getElem?_eq_some_iff.1 q3).1 (fun e=>ZhE h.own q3 (by decide) e.symm)]
   exact q3
 have hg2:=ZdS u' S 2 hv'
 have hkc:hkcells (P++[(x,y)])=hkcells P++hkC x y:=by rw[Zeh];simp[hkcells,hkC]
 refine⟨⟨ZdR hgR h.ge 2 hv',heap_setCell_same u' S 2 _ _ hv' hb,?_,?_,hck.off hg2 (fun e=>h.ne (Option.some.inj e)),h.ge,h.rl⟩,by rw[Lib.cell_of_heap hb];rfl,Lib.frozen_of_heap hb 2⟩
 ·rw[List.length_append,hkc]
  exact ho.kept hg2 (.inr (ZhE ho hb (by decide)))
 ·intro z hz
  rcases List.mem_append.1 hz with hz | hz
  ·exact (key (h.ins z hz)).kept hg2 (.inr (ZhE (key (h.ins z hz)) hb (by decide)))
  ·rw[List.mem_singleton.1 hz]
   exact (key hy).kept hg2 (.inr (ZhE (key hy) hb (by decide)))
end
structure Rg (w:World) (R:Nat) (L:List (List UInt8)) (vL ov:Value) (F:List Pfd) (st:Except (Nat × Int) Nat) (u:World):Prop where
 pw:Pw w ov F u
 f0:u.heap[w.heap.size]?=some (.cells #[.int .i64 0,.int .i64 0] 29)
 rd:RdZ u R vL st
 rl:w.heap.size<R
 ln:u.ownsRow w.heap.size 9 1 vL L.length (scells L)
section
variable {w u u':World} {R:Nat} {L:List (List UInt8)} {vL ov:Value} {F:List Pfd} {st st':Except (Nat × Int) Nat}
theorem Rg.keep (h:Rg w R L vL ov F st u) (hb:Below u.heap.size u u'):Rg w R L vL ov F st u':=⟨⟨h.pw.low.trans (hb.mono h.pw.low.size),ZhK h.pw.own hb,fun f hf=>(h.pw.ins f hf).keep hb⟩,(hb.block _ (Array.getElem?_eq_some_iff.1 h.f0).1).trans h.f0,h.rd.low hb,h.rl,ZhK h.ln hb⟩
theorem Rg.call (h:Rg w R L vL ov F st u) (hg:u.grownBy u' (some R)) (q:RdZ u' R vL st'):Rg w R L vL ov F st' u':=by
 have hk:∀ k x,k≠R→u.heap[k]?=some x→u'.heap[k]?=some x:=fun k _ hk hx=>(hg.block k (Array.getElem?_eq_some_iff.1 hx).1 (fun e=>hk (Option.some.inj e))).trans hx
 obtain⟨cs,hb⟩:=h.rd.blk
 have hr:=h.rl
 exact⟨⟨h.pw.low.grown hg h.pw.low.size (fun k e=>by cases e;omega),h.pw.own.kept hg (.inr (ZhE h.pw.own hb (by decide))),fun f hf=>(h.pw.ins f hf).box hb (by decide) (by decide) hg⟩,hk _ _ (by omega) h.f0,q,h.rl,h.ln.kept hg (.inr (ZhE h.ln hb (by decide)))⟩
theorem Rg.lines (h:Rg w R L vL ov F st u) (hg:u.grownBy u' (some R)):HS u' vL L:=by
 obtain⟨cs,hb⟩:=h.rd.blk
 exact Zeo (h.ln.kept hg (.inr (ZhE h.ln hb (by decide))))
theorem Rg.ne (h:Rg w R L vL ov F st u) {lo:Option Addr} {n c:Nat} (hv:vL=.slice lo n c):∀ a,lo=some a→a.block≠R:=by
 obtain⟨cs,hb⟩:=h.rd.blk
 intro a ha e
 subst hv
 subst ha
 rcases h.ln.2 with ⟨q,_⟩ | ⟨b,cap,cur,q1,q2,q3,q4⟩
 ·cases q
 ·cases q1
  dsimp only at e
  subst e
  rw[hb] at q3
  cases q3
theorem Rg.more (h:Rg w R L vL ov F st u) {f:Pfd} {ov':Value} (hy:Pown w.heap.size u f) (hg:u.grownBy u' ov.ownBlock) (ho:u'.ownsRow w.heap.size 42 3 ov' (F.length+1) (pxcells F++pxC f)):Rg w R L vL ov' (F++[f]) st u':=by
 have hk:∀ (k:Nat) (cs:Array Value) (t:TypeId) (fr:Nat × Nat),t≠42→u.heap[k]?=some (Obj.cells cs t fr)→u'.heap[k]?=some (Obj.cells cs t fr):=fun k cs t fr ht hx=>(hg.block k (Array.getElem?_eq_some_iff.1 hx).1 (fun e=>ZhE h.pw.own hx ht.symm e.symm)).trans hx
 obtain⟨cs,hb⟩:=h.rd.blk
 have hne:some R≠ov.ownBlock:=fun e=>ZhE h.pw.own hb (by decide) e.symm
 have hin:∀ g,Pown w.heap.size u g→Pown w.heap.size u' g:=fun g hp=>⟨hp.eq,ZjA hp.own h.pw.own (by decide) hg,fun y hy=>ZjA (hp.ins y hy) h.pw.own (by decide) hg⟩
 have hlow:=h.pw.low.grown hg h.pw.low.size (fun k e=>ZhJ h.pw.own e)
 refine⟨⟨hlow,?_,?_⟩,hk _ _ _ _ (by decide) h.f0,h.rd.off hg hne,h.rl,ZjA h.ln h.pw.own (by decide) hg⟩
 ·have e1:pxcells (F++[f])=pxcells F++pxC f:=by simp[pxcells]
  rw[List.length_append,e1]
  exact ho
 ·intro g hgm
  rcases List.mem_append.1 hgm with hm | hm
  ·exact hin g (h.pw.ins g hm)
  ·rw[List.mem_singleton.1 hm];exact hin f hy
theorem Rg.cells (h:Rg w R L vL ov F st u):u.cell? ⟨w.heap.size,0,none⟩=some (.int .i64 0)∧u.cell? ⟨w.heap.size,1,none⟩=some (.int .i64 0)∧∀ j,u.frozen? ⟨w.heap.size,j,none⟩=false:=⟨by rw[Lib.cell_of_heap h.f0];rfl,by rw[Lib.cell_of_heap h.f0];rfl,fun j=>Lib.frozen_of_heap h.f0 j⟩
theorem Rg.fin (h:Rg w R L vL ov F st u) (a z:Int):((u.setCell ⟨w.heap.size,0,none⟩ (.int .i64 a)).setCell ⟨w.heap.size,1,none⟩ (.int .i64 z)).heap[w.heap.size]?=some (.cells #[.int .i64 a,.int .i64 z] 29)∧Pw w ov F ((u.setCell ⟨w.heap.size,0,none⟩ (.int .i64 a)).setCell ⟨w.heap.size,1,none⟩ (.int .i64 z)):=by
 have s0:=heap_setCell_same u _ 0 _ _ (.int .i64 a) h.f0
 have g0:=ZdS u w.heap.size 0 (.int .i64 a)
 have g1:=ZdS (u.setCell ⟨w.heap.size,0,none⟩ (.int .i64 a)) w.heap.size 1 (.int .i64 z)
 refine⟨heap_setCell_same _ _ 1 _ _ (.int .i64 z) s0,(h.pw.low.setCell (Nat.le_refl _) _).setCell (Nat.le_refl _) _,?_,fun f hf=>?_⟩
 ·have:=h.pw.own.kept g0 (.inr (ZhE h.pw.own h.f0 (by decide)))
  exact this.kept g1 (.inr (ZhE this s0 (by decide)))
 ·exact ((h.pw.ins f hf).box h.f0 (by decide) (by decide) g0).box s0 (by decide) (by decide) g1
end
end

section
open Go.RowKit
attribute [local go_sem] ByteArray.extract_mk Zhc
end

section
open Go.RowKit
end

section
open Go.RowKit
attribute [local go_sem] ByteArray.extract_mk Zhc
end

section
open Go.RowKit
abbrev hxO (A AN B BN:Int) (v:Value):Obj:=.cells #[.int .i64 A,.int .i64 AN,.int .i64 B,.int .i64 BN,v] 45
def Bh (u:World) (b:Nat):Prop:=u.heap[b]?=some (hxO 0 0 0 0 (.slice none 0 0))
structure H2 (w:World) (R O V:Nat) (a p n:Int) (vk vl:Value) (o:Sde) (a2 p2 n2:Int) (uk ul:Value) (v:Sde) (u:World):Prop where
 gr:w.grownBy u (some R)
 q:Bh u w.heap.size
 bo:Bp5 u O a p n vk vl
 bv:Bp5 u V a2 p2 n2 uk ul
 o1:u.ownsRow w.heap.size 5 1 vk o.length (kcells o)
 o2:u.ownsRow w.heap.size 9 1 vl o.length (scells (o.map (·.2)))
 v1:u.ownsRow w.heap.size 5 1 uk v.length (kcells v)
 v2:u.ownsRow w.heap.size 9 1 ul v.length (scells (v.map (·.2)))
 r1:R<w.heap.size
 r2:w.heap.size<O
 r3:O<V
theorem H2.low {w u u':World} {R O V:Nat} {a p n:Int} {vk vl:Value} {o:Sde} {a2 p2 n2:Int} {uk ul:Value} {v:Sde} (h:H2 w R O V a p n vk vl o a2 p2 n2 uk ul v u) (hb:Below u.heap.size u u'):H2 w R O V a p n vk vl o a2 p2 n2 uk ul v u' :=
 ⟨ZdT h.gr (ZfO hb _),(hb.block _ (Array.getElem?_eq_some_iff.1 h.q).1).trans h.q,h.bo.low hb,h.bv.low hb,ZhK h.o1 hb,ZhK h.o2 hb,ZhK h.v1 hb,ZhK h.v2 hb,h.r1,h.r2,h.r3⟩
theorem Zeq {u:World} {B B2:Nat} {vk vl:Value} {x:Sde} (hk:u.ownsRow B 5 1 vk x.length (kcells x)) (hl:u.ownsRow B2 9 1 vl x.length (scells (x.map (·.2)))):Hsd u vk vl x:=⟨Zeo hk,by have:=Zeo hl;unfold HS;rw[List.length_map];exact this⟩
theorem H2.ho {w u:World} {R O V:Nat} {a p n:Int} {vk vl:Value} {o:Sde} {a2 p2 n2:Int} {uk ul:Value} {v:Sde} (h:H2 w R O V a p n vk vl o a2 p2 n2 uk ul v u):Hsd u vk vl o:=Zeq h.o1 h.o2
theorem H2.hv {w u:World} {R O V:Nat} {a p n:Int} {vk vl:Value} {o:Sde} {a2 p2 n2:Int} {uk ul:Value} {v:Sde} (h:H2 w R O V a p n vk vl o a2 p2 n2 uk ul v u):Hsd u uk ul v:=Zeq h.v1 h.v2
theorem H2.rd {w u u':World} {R O V:Nat} {a p n:Int} {vk vl:Value} {o:Sde} {a2 p2 n2:Int} {uk ul:Value} {v:Sde} (h:H2 w R O V a p n vk vl o a2 p2 n2 uk ul v u) (hg:u.grownBy u' (some R)):H2 w R O V a p n vk vl o a2 p2 n2 uk ul v u':=by
 have h1:=h.r1
 have h2:=h.r2
 have h3:=h.r3
 exact⟨ZdT h.gr hg,(hg.block _ (Array.getElem?_eq_some_iff.1 h.q).1 (fun e=>by have:=Option.some.inj e;omega)).trans h.q,h.bo.off hg (fun e=>by have:=Option.some.inj e;omega),h.bv.off hg (fun e=>by have:=Option.some.inj e;omega),ZhI h.o1 hg h1,ZhI h.o2 hg h1,ZhI h.v1 hg h1,ZhI h.v2 hg h1,h.r1,h.r2,h.r3⟩
theorem RgR.st {R:Nat} {vL:Value} {Z:Except (Nat × Int) ((Int × Int) × Nat)} {a p n:Int} {w':World} (h:RgR R vL Z a p n w'):RdZ w' R vL (stP Z):=by
 rcases Z with e | ⟨q,p1⟩
 ·exact h
 ·exact h.2.2.2
theorem LnQ5.st {R:Nat} {vL:Value} {Z:Except (Nat × Int) (Sde × Nat)} {x:Sde} {w':World} (h:LnQ5 R vL Z x w'):RdZ w' R vL (stP Z):=by
 rcases Z with e | ⟨q,p1⟩
 ·exact h
 ·exact h.2
end

section
open Go.RowKit Go.Proofs.YtcniomgjikienaaGreatDoor.Tx
end

section
open Go.RowKit
attribute [local go_sem] ByteArray.extract_mk Zhc
end

section
open Go.RowKit
end

section
open Go.RowKit
attribute [local go_sem] ByteArray.extract_mk Zhc
theorem Lx.grown {w0 w u:World} {R X:Nat} {a p n:Int} {vk vl:Value} {ks:List UInt8} {ts:List (List UInt8)} (h:Lx w R X a p n vk vl ks ts u) (hg:w0.grownBy w (some R)) (hX:w0.heap.size≤X):w0.grownBy u (some R) :=
 ⟨h.os.trans hg.os,h.tape.trans hg.tape,h.output.trans hg.output,Nat.le_trans hg.size h.size,fun k h1 h2=>(h.block k (Nat.lt_of_lt_of_le h1 hg.size) (fun e=>h2 (congrArg some e)) (by omega)).trans (hg.block k h1 h2)⟩
theorem Bh.cells {u:World} {b:Nat} (q:Bh u b):u.cell? ⟨b,0,none⟩=some (.int .i64 0)∧u.cell? ⟨b,1,none⟩=some (.int .i64 0)∧u.cell? ⟨b,2,none⟩=some (.int .i64 0)∧u.cell? ⟨b,3,none⟩=some (.int .i64 0)∧u.cell? ⟨b,4,none⟩=some (.slice none 0 0):=by
 unfold Bh hxO at q
 refine⟨?_,?_,?_,?_,?_⟩<;>rw[Lib.cell_of_heap q]<;>rfl
theorem Bh.frozen {u:World} {b:Nat} (q:Bh u b) (j:Nat):u.frozen? ⟨b,j,none⟩=false:=Lib.frozen_of_heap q j
end

section
open Go.RowKit Go.Proofs.YtcniomgjikienaaGreatDoor.Tx
attribute [local go_sem] ByteArray.extract_mk Zhc
end

section
open Go.RowKit Go.Proofs.YtcniomgjikienaaGreatDoor.Tx
attribute [local go_sem] ByteArray.extract_mk Zhc
end

section
open Go.RowKit Go.Proofs.YtcniomgjikienaaGreatDoor.Tx
attribute [local go_sem] ByteArray.extract_mk Zhc
end

section
open Go.RowKit Go.Proofs.YtcniomgjikienaaGreatDoor.Tx
attribute [local go_sem] ByteArray.extract_mk Zhc
def ctV (a b:Int):Value:=.agg #[.int .i64 a,.int .i64 b]
def ctO (a b:Int):Obj:=.cells #[.int .i64 a,.int .i64 b] 300
theorem Zcg (x y a b:Int) (u:World):(Op.equalIn 10000 300 (.agg #[.int .i64 x,.int .i64 y]) (.agg #[.int .i64 a,.int .i64 b])).run Tryz.prog u=.ok (x == a && y == b) u:=by
 have hu:Tryz.prog.underlying 300=some (.array 2 3):=by kernel_rfl
 have h0:(Tryz.prog.info? 3).isSome=true:=by kernel_rfl
 obtain⟨i,hi⟩:=Option.isSome_iff_exists.1 h0
 rw[run_equalIn_array u 9999 _ _ hu hi]
 have hc:Tryz.prog.cellsOf 3=1:=by kernel_rfl
 have hr:List.range 2=[0,1]:=rfl
 rw[hc,hr]
 have p0:∀ (x y:Int) (u:World),(part 3 #[.int .i64 x,.int .i64 y] (0 * 1)).run Tryz.prog u=.ok (.int .i64 x) u:=fun _ _ _=>by kernel_rfl
 have p1:∀ (x y:Int) (u:World),(part 3 #[.int .i64 x,.int .i64 y] (1 * 1)).run Tryz.prog u=.ok (.int .i64 y) u:=fun _ _ _=>by kernel_rfl
 have q1:=run_equalIn_int (P:=Tryz.prog) u 9998 3 .i64 .i64 x a Tryz.underlying3
 have q2:=run_equalIn_int (P:=Tryz.prog) u 9998 3 .i64 .i64 y b Tryz.underlying3
 simp only[Op.eqItems,Sem.run_bind,p0,p1,q1,q2,Result.andThen_ok,Sem.run_ite,Sem.run_pure]
 cases x == a<;>cases y == b<;>rfl
theorem Zch (x y a b:Int) (u:World):(binOp .eql 300 (.agg #[.int .i64 x,.int .i64 y]) (.agg #[.int .i64 a,.int .i64 b])).run Tryz.prog u=.ok (.bool (x == a && y == b)) u:=by
 rw[run_eql_struct,Zcg]
 rfl
theorem Zci (x y a b:Int) (u:World):(binOp .neq 300 (.agg #[.int .i64 x,.int .i64 y]) (.agg #[.int .i64 a,.int .i64 b])).run Tryz.prog u=.ok (.bool (!(x == a && y == b))) u:=by
 rw[run_neq_struct,Zcg]
 rfl
def cO (c:UInt8):Int:=if okC c=true then (tkO c:Int) else 0
def cN (c:UInt8):Int:=if okC c=true then (tkN c:Int) else 0
theorem Zlc (c:UInt8) (w:World) :
  Calls Tryz.prog 295 #[.int .u8 (c.toNat:Int)] w fun e w'=>e=.returned (ctV (cO c) (cN c))∧Below w.heap.size w w':=by
 have hcn:=c.toNat_lt
 have hE:∀ (x y:Int),cO c=x→cN c=y→ctV (cO c) (cN c)=.agg #[.int .i64 x,.int .i64 y]:=(by intro x y h1 h2;rw[h1,h2];rfl)
 by_cases h1:c=32
 ·have i1:((c.toNat:Int) == 32)=true:=(by rw[h1];rfl)
  have he:=hE 1 1 (by rw[h1];rfl) (by rw[h1];rfl)
  rw[he]
  clear h1 hE
  go_enter Tryz.func295,Tryz.ntmps295
  go_wp2
  refine bodyPost_ret (v:=.agg #[.int .i64 1,.int .i64 1]) (results_cell_row rfl _ _ w.heap.size 300 #[.int .i64 1,.int .i64 1] (0,0) _ rfl (heap_alloc_new w _) Tryz.underlying300 rfl (by kernel_rfl)) rfl ⟨rfl,(Below.refl _ w).alloc (Nat.le_refl _) _⟩
 ·have i1:((c.toNat:Int) == 32)=false:=beq_eq_false_iff_ne.2 (fun e=>h1 (by rw[← UInt8.toNat_inj];show c.toNat=32;omega))
  by_cases h2:c=45
  ·have i2:((c.toNat:Int) == 45)=true:=(by rw[h2];rfl)
   have he:=hE 1 0 (by rw[h2];rfl) (by rw[h2];rfl)
   rw[he]
   clear h1 h2 hE
   go_enter Tryz.func295,Tryz.ntmps295
   go_wp2
   refine bodyPost_ret (v:=.agg #[.int .i64 1,.int .i64 0]) (results_cell_row rfl _ _ w.heap.size 300 #[.int .i64 1,.int .i64 0] (0,0) _ rfl (heap_alloc_new w _) Tryz.underlying300 rfl (by kernel_rfl)) rfl ⟨rfl,(Below.refl _ w).alloc (Nat.le_refl _) _⟩
  ·have i2:((c.toNat:Int) == 45)=false:=beq_eq_false_iff_ne.2 (fun e=>h2 (by rw[← UInt8.toNat_inj];show c.toNat=45;omega))
   by_cases h3:c=43
   ·have i3:((c.toNat:Int) == 43)=true:=(by rw[h3];rfl)
    have he:=hE 0 1 (by rw[h3];rfl) (by rw[h3];rfl)
    rw[he]
    clear h1 h2 h3 hE
    go_enter Tryz.func295,Tryz.ntmps295
    go_wp2
    refine bodyPost_ret (v:=.agg #[.int .i64 0,.int .i64 1]) (results_cell_row rfl _ _ w.heap.size 300 #[.int .i64 0,.int .i64 1] (0,0) _ rfl (heap_alloc_new w _) Tryz.underlying300 rfl (by kernel_rfl)) rfl ⟨rfl,(Below.refl _ w).alloc (Nat.le_refl _) _⟩
   ·have i3:((c.toNat:Int) == 43)=false:=beq_eq_false_iff_ne.2 (fun e=>h3 (by rw[← UInt8.toNat_inj];show c.toNat=43;omega))
    have hk:okC c=false:=(by unfold okC;simp[h1,h2,h3])
    have he:=hE 0 0 (by unfold cO;rw[hk];rfl) (by unfold cN;rw[hk];rfl)
    rw[he]
    clear h1 h2 h3 hk hE
    go_enter Tryz.func295,Tryz.ntmps295
    go_wp2
    refine bodyPost_ret (v:=.agg #[.int .i64 0,.int .i64 0]) (results_cell_row rfl _ _ w.heap.size 300 #[.int .i64 0,.int .i64 0] (0,0) _ rfl (heap_alloc_new w _) Tryz.underlying300 rfl (by kernel_rfl)) rfl ⟨rfl,(Below.refl _ w).alloc (Nat.le_refl _) _⟩
theorem Zlq (x y a b:Int) (w:World) (r:Bool) (HR:Hid (((x == 0 || a == 0) && (y == 0 || b == 0))=r)) :
  Calls Tryz.prog 296 #[.agg #[.int .i64 x,.int .i64 y],.agg #[.int .i64 a,.int .i64 b]] w fun e w'=>e=.returned (.bool r)∧Below w.heap.size w w':=by
 have hB:Below w.heap.size w ((w.alloc (ctO x y)).alloc (ctO a b)):=((Below.refl _ w).alloc (Nat.le_refl _) _).alloc (by simp) _
 unfold ctO at hB
 cases h1:x == 0 with
 | true =>
  cases h2:y == 0 with
  | true =>
   have HE:Hid (true=r):=(by show _=_;rw[← HR.out,h1,h2];rfl)
   clear HR
   go_enter Tryz.func296,Tryz.ntmps296
   go_wp2
   go_ret
   exact⟨by rw[← HE.out];rfl,hB⟩
  | false =>
   have HE:Hid ((b == 0)=r):=(by show _=_;rw[← HR.out,h1,h2];rfl)
   clear HR
   go_enter Tryz.func296,Tryz.ntmps296
   go_wp2
   go_ret
   exact⟨by rw[← HE.out];rfl,hB⟩
 | false =>
  cases h3:a == 0 with
  | true =>
   cases h2:y == 0 with
   | true =>
    have HE:Hid (true=r):=(by show _=_;rw[← HR.out,h1,h2,h3];rfl)
    clear HR
    go_enter Tryz.func296,Tryz.ntmps296
    go_wp2
    go_ret
    exact⟨by rw[← HE.out];rfl,hB⟩
   | false =>
    have HE:Hid ((b == 0)=r):=(by show _=_;rw[← HR.out,h1,h2,h3];rfl)
    clear HR
    go_enter Tryz.func296,Tryz.ntmps296
    go_wp2
    go_ret
    exact⟨by rw[← HE.out];rfl,hB⟩
  | false =>
   have HE:Hid (false=r):=(by show _=_;rw[← HR.out,h1,h3];rfl)
   clear HR
   go_enter Tryz.func296,Tryz.ntmps296
   go_wp2
   go_ret
   exact⟨by rw[← HE.out];rfl,hB⟩
theorem ZlY {R:Nat} {L:List (List UInt8)} {lo:Option Addr} {lc:Nat} {p:Nat} (w:World) (q:Uk w R (.slice lo L.length lc) p) (hL:HS w (.slice lo L.length lc) L) (hPl:Plain L) (hLl:L.length≤2199023255552)
  (t:List UInt8) (r:Bool) (HR:Hid ((t != [10] && pkM (L.drop p))=r)) :
  Calls Tryz.prog 297 #[.pointer (some ⟨R,0,none⟩),.string ⟨t.toArray⟩] w fun x w'=>x=.returned (.bool r)∧∃ n,w'=w.drewN n:=by
 obtain⟨c0,c1⟩:=q.cells
 by_cases ht:t=[10]
 ·have HE:Hid (false=r):=(by show _=_;rw[← HR.out,ht];rfl)
  subst ht
  clear HR hL q
  go_enter Tryz.func297,Tryz.ntmps297
  go_wp2_with fail
  go_quiet (fail)
  go_wp2
  go_ret
  exact⟨by rw[← HE.out];rfl,_,rfl⟩
 ·have e1:(t == [10])=false:=beq_eq_false_iff_ne.2 ht
  have e1b:(t != [10])=true:=bne_iff_ne.2 ht
  by_cases hlt:p<L.length
  ·have HE:Hid ((L[p] == markT)=r):=(by
    have h:=HR.out
    rw[Zim hPl hlt,e1b,Bool.true_and] at h
    exact h)
   obtain⟨bk,off,rfl,hbk,hcl⟩:=HS.at hL (by omega)
   have d4:=hcl p hlt
   generalize L[p]=s at d4 HE
   have HE2:Hid ((s == [92,32,78,111,32,110,101,119,108,105,110,101,32,97,116,32,101,110,100,32,111,102,32,102,105,108,101,10])=r):=HE
   have hd:decide ((p:Int)<(L.length:Int))=true:=decide_eq_true (by omega)
   clear HR hL q hcl hPl HE ht
   have i1:(0:Int)≤(p:Int):=by omega
   have i2:(p:Int)<(L.length:Int):=by omega
   have i3:(p:Int).toNat=p:=by omega
   go_enter Tryz.func297,Tryz.ntmps297
   go_wp2_with fail
   go_quiet (fail)
   go_wp2
   go_ret
   exact⟨by rw[← HE2.out];rfl,_,rfl⟩
  ·have HE:Hid (false=r):=(by
    have h:=HR.out
    rw[List.drop_of_length_le (by omega),e1b] at h
    exact h)
   have hd:decide ((p:Int)<(L.length:Int))=false:=decide_eq_false (by omega)
   clear HR hL q hPl ht
   go_enter Tryz.func297,Tryz.ntmps297
   go_wp2_with fail
   go_quiet (fail)
   go_wp2
   go_ret
   exact⟨by rw[← HE.out];rfl,_,rfl⟩
end

section
open Ln
theorem Zkp (s:List UInt8):∃ c t,s++[10]=c::t:=by
 cases s with
 | nil=>exact⟨10,[],rfl⟩
 | cons c t=>exact⟨c,t++[10],rfl⟩
theorem Zlv {a b p:Nat} {ls r:List (List UInt8)} {s t:List UInt8} {c:UInt8} (hn:nxt p ls=.ok (s,r)) (hs:s++[10]=c::t):ulnP a b p ls=if okC c=true∧tkO c≤a∧tkN c≤b then (if (uendB c (a-tkO c) (b-tkN c) && (t != [10] && pkM r))=true then .ok (⟨c.toNat,t.dropLast⟩,p+2,r.tail) else .ok (⟨c.toNat,t⟩,p+1,r)) else .error (p+1,3):=by
 unfold ulnP
 rw[hn]
 cases s with
 | nil =>
  simp only[List.nil_append,List.cons.injEq] at hs
  obtain⟨rfl,_⟩:=hs
  rfl
 | cons d u =>
  simp only[List.cons_append,List.cons.injEq] at hs
  obtain⟨rfl,rfl⟩:=hs
  dsimp only
  split
  ·rw[List.dropLast_concat]
   have e:(u++[10] != [10])=decide (u≠[]):=by
    cases u with
    | nil=>rfl
    | cons x y =>
     have h1:¬ (x::y++[10]=[10]):=by
      intro h
      have:=congrArg List.length h
      simp at this
     rw[bne_iff_ne.2 h1]
     rfl
   rw[e]
   by_cases h1:uendB d (a-tkO d) (b-tkN d)=true
   ·by_cases h2:u=[]
    ·rw[if_neg (fun q=>q.2.1 h2),if_neg (by simp[h2])]
    ·by_cases h3:pkM r=true
     ·rw[if_pos ⟨h1,h2,h3⟩,if_pos (by simp[h1,h2,h3])]
     ·rw[if_neg (fun q=>h3 q.2.2),if_neg (by simp[h3])]
   ·rw[if_neg (fun q=>h1 q.1),if_neg (by simp[h1])]
  ·rfl
theorem ZaV {c:UInt8} (h:okC c=true):cO c=(tkO c:Int)∧cN c=(tkN c:Int)∧((cO c == 0)=(c == 43))∧((cN c == 0)=(c == 45))∧(cO c == 0 && cN c == 0)=false∧0≤cO c∧cO c≤1∧0≤cN c∧cN c≤1:=by
 rcases Zhw h with rfl | rfl | rfl<;>exact⟨rfl,rfl,rfl,rfl,rfl,by decide,by decide,by decide,by decide⟩
theorem ZaU {c:UInt8} (h:okC c=false):cO c=0∧cN c=0:=by
 unfold cO cN
 rw[h]
 exact⟨rfl,rfl⟩
theorem ZcQ {c:UInt8} (h:okC c=true) {a b:Nat} {a' b':Int} (ha:a'=a) (hb:b'=b):((cO c == 0 || a' == 0) && (cN c == 0 || b' == 0))=uendB c a b:=by
 obtain⟨_,_,h1,h2,_⟩:=ZaV h
 have e1:(a' == 0)=(a == 0):=by rw[ha,Bool.eq_iff_iff,beq_iff_eq,beq_iff_eq];omega
 have e2:(b' == 0)=(b == 0):=by rw[hb,Bool.eq_iff_iff,beq_iff_eq,beq_iff_eq];omega
 unfold uendB
 rw[h1,h2,e1,e2]
theorem Zfw {c:UInt8} (h:okC c=true) (t:List UInt8):sgO ⟨c.toNat,t⟩=tkO c∧sgN ⟨c.toNat,t⟩=tkN c:=⟨(ZkR h t).2.1,(ZkR h t).2.2.1⟩
end

section
open Go.RowKit Go.Proofs.YtcniomgjikienaaGreatDoor.Tx
def mk0:Obj:=.cells #[.int .u8 0,.string ⟨#[]⟩] 47
structure Mz (w:World) (R:Nat) (vL:Value) (T:Nat) (p:Nat) (a b x y:Int) (u:World):Prop where
 gr:w.grownBy u (some R)
 b1:u.heap[w.heap.size]?=some (ctO a b)
 b2:u.heap[w.heap.size+1]?=some mk0
 b3:u.heap[w.heap.size+2]?=some (ctO 0 0)
 bt:u.heap[T]?=some (ctO x y)
 ck:Uk u R vL (p:Int)
 tl:w.heap.size+2<T
 rl:R<w.heap.size
section
variable {w u u':World} {R T p:Nat} {vL:Value} {a b x y:Int}
theorem Mz.low (h:Mz w R vL T p a b x y u) (hb:Below u.heap.size u u'):Mz w R vL T p a b x y u' :=
 ⟨ZdT h.gr (ZfO hb _),(hb.block _ (Array.getElem?_eq_some_iff.1 h.b1).1).trans h.b1,(hb.block _ (Array.getElem?_eq_some_iff.1 h.b2).1).trans h.b2,(hb.block _ (Array.getElem?_eq_some_iff.1 h.b3).1).trans h.b3,(hb.block _ (Array.getElem?_eq_some_iff.1 h.bt).1).trans h.bt,h.ck.low hb,h.tl,h.rl⟩
theorem Mz.other (h:Mz w R vL T p a b x y u) {g:Nat} (j:Nat) (z:Value) (h0:w.heap.size+2<g) (h1:g≠T):Mz w R vL T p a b x y (u.setCell ⟨g,j,none⟩ z):=by
 have hs:=h.rl
 have k:∀ (i:Nat) (o:Obj),i≠g→u.heap[i]?=some o→(u.setCell ⟨g,j,none⟩ z).heap[i]?=some o:=fun i o hi ho=>(Below.heap_setCell _ _ _ i hi).trans ho
 exact⟨ZdR h.gr (by omega) j z,k _ _ (by omega) h.b1,k _ _ (by omega) h.b2,k _ _ (by omega) h.b3,k _ _ (fun e=>h1 e.symm) h.bt,k _ _ (by omega) h.ck,h.tl,h.rl⟩
theorem Mz.setA (h:Mz w R vL T p a b x y u) (z:Int):Mz w R vL T p z b x y (u.setCell ⟨w.heap.size,0,none⟩ (.int .i64 z)):=by
 have hs:=h.rl
 have ht:=h.tl
 have k:∀ (i:Nat) (o:Obj),i≠w.heap.size→u.heap[i]?=some o→(u.setCell ⟨w.heap.size,0,none⟩ (.int .i64 z)).heap[i]?=some o:=fun i o hi ho=>(Below.heap_setCell _ _ _ i hi).trans ho
 exact⟨ZdR h.gr (Nat.le_refl _) 0 _,heap_setCell_same u _ 0 _ _ _ h.b1,k _ _ (by omega) h.b2,k _ _ (by omega) h.b3,k _ _ (by omega) h.bt,k _ _ (by omega) h.ck,h.tl,h.rl⟩
theorem Mz.setB (h:Mz w R vL T p a b x y u) (z:Int):Mz w R vL T p a z x y (u.setCell ⟨w.heap.size,1,none⟩ (.int .i64 z)):=by
 have hs:=h.rl
 have ht:=h.tl
 have k:∀ (i:Nat) (o:Obj),i≠w.heap.size→u.heap[i]?=some o→(u.setCell ⟨w.heap.size,1,none⟩ (.int .i64 z)).heap[i]?=some o:=fun i o hi ho=>(Below.heap_setCell _ _ _ i hi).trans ho
 exact⟨ZdR h.gr (Nat.le_refl _) 1 _,heap_setCell_same u _ 1 _ _ _ h.b1,k _ _ (by omega) h.b2,k _ _ (by omega) h.b3,k _ _ (by omega) h.bt,k _ _ (by omega) h.ck,h.tl,h.rl⟩
theorem Mz.next (h:Mz w R vL T p a b x y u):Mz w R vL T (p+1) a b x y (u.setCell ⟨R,1,none⟩ (.int .i64 ((p:Int)+1))):=by
 have hs:=h.rl
 have ht:=h.tl
 have k:∀ (i:Nat) (o:Obj),i≠R→u.heap[i]?=some o→(u.setCell ⟨R,1,none⟩ (.int .i64 ((p:Int)+1))).heap[i]?=some o:=fun i o hi ho=>(Below.heap_setCell _ _ _ i hi).trans ho
 exact⟨ZdT h.gr (ZdS u R 1 _),k _ _ (by omega) h.b1,k _ _ (by omega) h.b2,k _ _ (by omega) h.b3,k _ _ (by omega) h.bt,by have:=h.ck.at ((p:Int)+1);simpa using this,h.tl,h.rl⟩
theorem Mz.left (h:Mz w R vL T p a b x y u):u.cell? ⟨w.heap.size,0,none⟩=some (.int .i64 a)∧u.cell? ⟨w.heap.size,1,none⟩=some (.int .i64 b)∧u.frozen? ⟨w.heap.size,0,none⟩=false∧u.frozen? ⟨w.heap.size,1,none⟩=false:=by
 have e:u.heap[w.heap.size]?=some (.cells #[.int .i64 a,.int .i64 b] 300):=h.b1
 exact⟨by rw[Lib.cell_of_heap e];rfl,by rw[Lib.cell_of_heap e];rfl,Lib.frozen_of_heap e 0,Lib.frozen_of_heap e 1⟩
theorem Mz.taken (h:Mz w R vL T p a b x y u):u.cell? ⟨T,0,none⟩=some (.int .i64 x)∧u.cell? ⟨T,1,none⟩=some (.int .i64 y):=by
 have e:u.heap[T]?=some (.cells #[.int .i64 x,.int .i64 y] 300):=h.bt
 exact⟨by rw[Lib.cell_of_heap e];rfl,by rw[Lib.cell_of_heap e];rfl⟩
theorem Mz.res (h:Mz w R vL T p a b x y u):(∀ j,u.frozen? ⟨w.heap.size+1,j,none⟩=false)∧(∀ j,u.frozen? ⟨w.heap.size+1+1,j,none⟩=false)∧u.cell? ⟨w.heap.size+1,0,none⟩=some (.int .u8 0)∧u.cell? ⟨w.heap.size+1,1,none⟩=some (.string ⟨#[]⟩)∧u.cell? ⟨w.heap.size+1+1,0,none⟩=some (.int .i64 0)∧u.cell? ⟨w.heap.size+1+1,1,none⟩=some (.int .i64 0):=by
 have e:u.heap[w.heap.size+1]?=some (.cells #[.int .u8 0,.string ⟨#[]⟩] 47):=h.b2
 have e2:u.heap[w.heap.size+1+1]?=some (.cells #[.int .i64 0,.int .i64 0] 300):=h.b3
 exact⟨fun j=>Lib.frozen_of_heap e j,fun j=>Lib.frozen_of_heap e2 j,by rw[Lib.cell_of_heap e];rfl,by rw[Lib.cell_of_heap e];rfl,by rw[Lib.cell_of_heap e2];rfl,by rw[Lib.cell_of_heap e2];rfl⟩
theorem Mz.fin (h:Mz w R vL T p a b x y u) (z:Int) (tx:List UInt8) :
  ((((u.setCell ⟨w.heap.size+1,0,none⟩ (.int .u8 z)).setCell ⟨w.heap.size+1,1,none⟩ (.string ⟨tx.toArray⟩)).setCell ⟨w.heap.size+1+1,0,none⟩ (.int .i64 a)).setCell ⟨w.heap.size+1+1,1,none⟩ (.int .i64 b)).drew.heap[w.heap.size+1]?=some (.cells #[.int .u8 z,.string ⟨tx.toArray⟩] 47) ∧
  ((((u.setCell ⟨w.heap.size+1,0,none⟩ (.int .u8 z)).setCell ⟨w.heap.size+1,1,none⟩ (.string ⟨tx.toArray⟩)).setCell ⟨w.heap.size+1+1,0,none⟩ (.int .i64 a)).setCell ⟨w.heap.size+1+1,1,none⟩ (.int .i64 b)).drew.heap[w.heap.size+1+1]?=some (.cells #[.int .i64 a,.int .i64 b] 300) ∧
  Uk ((((u.setCell ⟨w.heap.size+1,0,none⟩ (.int .u8 z)).setCell ⟨w.heap.size+1,1,none⟩ (.string ⟨tx.toArray⟩)).setCell ⟨w.heap.size+1+1,0,none⟩ (.int .i64 a)).setCell ⟨w.heap.size+1+1,1,none⟩ (.int .i64 b)).drew R vL (p:Int) ∧
  w.grownBy ((((u.setCell ⟨w.heap.size+1,0,none⟩ (.int .u8 z)).setCell ⟨w.heap.size+1,1,none⟩ (.string ⟨tx.toArray⟩)).setCell ⟨w.heap.size+1+1,0,none⟩ (.int .i64 a)).setCell ⟨w.heap.size+1+1,1,none⟩ (.int .i64 b)).drew (some R):=by
 have hr:=h.rl
 have e1:=heap_setCell_same _ _ 1 _ _ (.string ⟨tx.toArray⟩) (heap_setCell_same u _ 0 _ _ (.int .u8 z) h.b2)
 have e2:((u.setCell ⟨w.heap.size+1,0,none⟩ (.int .u8 z)).setCell ⟨w.heap.size+1,1,none⟩ (.string ⟨tx.toArray⟩)).heap[w.heap.size+1+1]?=some (ctO 0 0):=(Below.heap_setCell _ _ _ _ (show w.heap.size+1+1≠w.heap.size+1 by omega)).trans ((Below.heap_setCell _ _ _ _ (show w.heap.size+1+1≠w.heap.size+1 by omega)).trans h.b3)
 have e3:=heap_setCell_same _ _ 1 _ _ (.int .i64 b) (heap_setCell_same _ _ 0 _ _ (.int .i64 a) e2)
 refine⟨?_,e3,?_,?_⟩
 ·exact (Below.heap_setCell _ _ _ _ (show w.heap.size+1≠w.heap.size+1+1 by omega)).trans ((Below.heap_setCell _ _ _ _ (show w.heap.size+1≠w.heap.size+1+1 by omega)).trans e1)
 ·exact (Below.heap_setCell _ _ _ _ (show R≠w.heap.size+1+1 by omega)).trans ((Below.heap_setCell _ _ _ _ (show R≠w.heap.size+1+1 by omega)).trans ((Below.heap_setCell _ _ _ _ (show R≠w.heap.size+1 by omega)).trans ((Below.heap_setCell _ _ _ _ (show R≠w.heap.size+1 by omega)).trans h.ck)))
 ·exact ZdP (ZdR (ZdR (ZdR (ZdR h.gr (by omega) 0 _) (by omega) 1 _) (by omega) 0 _) (by omega) 1 _) 1
end
def UlX (R:Nat) (vL:Value) (a b:Nat) (X:Except (Nat × Int) (Mk × Nat × List (List UInt8))) (w:World) (e:Ending) (w':World):Prop :=
 match X with
 | .error (z,k)=>Thr (z:Int) k e w'∧w.grownBy w' (some R)
 | .ok (m,p1,_)=>e=.returned (.tuple #[.agg #[.int .u8 m.sg,.string ⟨m.tx.toArray⟩],.agg #[.int .i64 ((a-sgO m:Nat):Int),.int .i64 ((b-sgN m:Nat):Int)]])∧Uk w' R vL (p1:Int)∧w.grownBy w' (some R)
theorem Zjl {P:Program} {fn:Func} {p q:Tmp} {ty tz:TypeId} (h:fn.results=#[.cell p ty,.cell q tz]) (tmps:Array Value) (w:World) (g g':Nat) (t t':TypeId) (cs ds:Array Value) (fr fr':Nat × Nat) (d d':TypeDesc)
  (hp:tmps.getD p undef=.pointer (some ⟨g,0,none⟩)) (hg:w.heap[g]?=some (.cells cs t fr)) (hu:P.underlying ty=some d) (hd:(match d with | .struct _ | .array _ _=>true | _=>false)=true) (hi:(P.info? ty).map (·.size)=some cs.size)
  (hq:tmps.getD q undef=.pointer (some ⟨g',0,none⟩)) (hg':w.heap[g']?=some (.cells ds t' fr')) (hu':P.underlying tz=some d') (hd':(match d' with | .struct _ | .array _ _=>true | _=>false)=true) (hi':(P.info? tz).map (·.size)=some ds.size) :
  (results fn tmps).run P w=.ok (.tuple #[.agg cs,.agg ds]) w:=by
 have hp':tmps[p]?.getD undef=.pointer (some ⟨g,0,none⟩):=by simpa using hp
 have hq':tmps[q]?.getD undef=.pointer (some ⟨g',0,none⟩):=by simpa using hq
 simp[results,h,hp',hq',asAddr,run_loadVar_row w g t ty cs fr d hg hu hd hi,run_loadVar_row w g' t' tz ds fr' d' hg' hu' hd' hi',Result.andThen]
end

end Go.Proofs.YtcniomgjikienaaGreatDoor
