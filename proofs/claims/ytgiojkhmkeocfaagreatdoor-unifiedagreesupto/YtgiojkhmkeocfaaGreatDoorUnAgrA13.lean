/-
  Texts that belong together, joined: CwE, CwF, CpF, CpG, CpH, CpI.
-/
import Derived.Test.YtgiojkhmkeocfaaGreatDoorUnAgrA12
import Derived.Laws.StructEq
import Derived.BigQuiet

set_option maxHeartbeats 16000000
set_option maxRecDepth 100000
namespace Go.Proofs.YtgiojkhmkeocfaaGreatDoor

section
open Go.RowKit Go.Proofs.YtgiojkhmkeocfaaGreatDoor.Tx
theorem ZjO:LaysB 121:=⟨by kernel_rfl,by decide⟩
def Pg (B b:Nat) (v:Value) (acc:List UInt8) (w:World):Prop:=Bld 121 5 B b v (Lib.byteCells acc) w
theorem Pg.low {B b:Nat} {v:Value} {acc:List UInt8} {w w':World} (h:Pg B b v acc w) (hb:Below w.heap.size w w'):Pg B b v acc w':=Bld.kept h hb.block
theorem Zed (B b:Nat) (v:Value) (acc s Z:List UInt8) (w:World) (h:Pg B b v acc w) (hBw:B≤w.heap.size) (HZ:Hid (acc++s++[10]=Z)) (hZ:Z.length≤70368744177664) :
  Calls Tryz.prog 65 #[.pointer (some ⟨b,0,none⟩),.string ⟨s.toArray⟩] w fun e w'=>e=.returned (.tuple #[])∧∃ v',Pg B b v' Z w'∧Wr B b v v' w w':=by
 have hl:=congrArg List.length HZ.out
 simp only[List.length_append,List.length_cons,List.length_nil] at hl
 go_enter Tryz.func65,Tryz.ntmps65
 go_wp2_with fail
 refine (ZbS ZjO B b v _ s _ h (by rw[Zbk];omega) hBw).mono ?_
 rintro e w1 ⟨rfl,v1,h1,hw1⟩
 go_wp2_with fail
 refine (ZbS ZjO B b v1 _ [10] _ h1 (by rw[List.length_append,Zbk,Zbk];simp;omega) (Nat.le_trans hBw hw1.size)).mono ?_
 rintro e w2 ⟨rfl,v2,h2,hw2⟩
 go_wp2
 first
  | go_end0
  | refine bodyPost_ret (results_none rfl _ _ _) rfl ?_
  | refine bodyPost_end (results_none rfl _ _ _) rfl ?_
 refine⟨rfl,v2,?_,hw1.trans hw2⟩
 rw[← HZ.out]
 unfold Pg
 rw[Lib.byteCells_append,Lib.byteCells_append]
 exact h2
theorem Zcq {c:Int} (h0:0≤c) (h1:c<256):Lib.byteCells [UInt8.ofNat c.toNat]=[.int .u8 c]:=by
 have:((UInt8.ofNat c.toNat).toNat:Int)=c:=by
  rw[UInt8.toNat_ofNat']
  omega
 simp only[Lib.byteCells,List.map_cons,List.map_nil,this]
theorem Zdq (B b:Nat) (v:Value) (c:Int) (h0:0≤c) (h1:c<256) (acc s Z:List UInt8) (w:World) (h:Pg B b v acc w) (hBw:B≤w.heap.size) (HZ:Hid (acc++(lnL [UInt8.ofNat c.toNat,32] s).flatten=Z)) (hZ:Z.length≤70368744177664) (hs:s.length≤1099511627776) :
  Calls Tryz.prog 166 #[.pointer (some ⟨b,0,none⟩),.int .u8 c,.string ⟨s.toArray⟩] w fun e w'=>e=.returned (.tuple #[])∧∃ v',Pg B b v' Z w'∧Wr B b v v' w w':=by
 obtain⟨T,hT⟩:∃ T,plT s=T:=⟨_,rfl⟩
 have HT:Hid (plT s=T):=hT
 have HE:Hid (acc++([UInt8.ofNat c.toNat,32]++T)=Z):=(by
  show _=_
  rw[← HZ.out,ZoB,hT])
 have hl:=congrArg List.length HE.out
 simp only[List.length_append,List.length_cons,List.length_nil] at hl
 have hA:Hid (Lib.byteCells acc++[.int .u8 c]++[.int .u8 32]++Lib.byteCells T=Lib.byteCells Z):=(by
  show _=_
  rw[← HE.out,Lib.byteCells_append,Lib.byteCells_append]
  have:Lib.byteCells [UInt8.ofNat c.toNat,32]=[.int .u8 c]++[.int .u8 32]:=(by
   have h:=Zcq h0 h1
   simp only[Lib.byteCells,List.map_cons,List.map_nil] at h ⊢
   rw[List.cons_eq_cons.1 h |>.1]
   rfl)
  rw[this]
  simp only[List.append_assoc])
 have hbl:=Zbk acc
 have hsl:=Zbk T
 clear HZ HE hT
 go_enter Tryz.func166,Tryz.ntmps166
 go_wp2_with fail
 refine (ZbL ZjO B b v _ c _ h (by omega) hBw).mono ?_
 rintro e w1 ⟨rfl,v1,q1,hw1⟩
 go_wp2_with fail
 refine (ZbL ZjO B b v1 _ 32 _ q1 (by rw[List.length_append];simp;omega) (Nat.le_trans hBw hw1.size)).mono ?_
 rintro e w2 ⟨rfl,v2,q2,hw2⟩
 have hw12:=hw1.trans hw2
 have q2d:Bld 121 5 B b v2 _ w2.drew:=Bld.kept q2 ((Below.refl _ w2).drew).block
 have hwd:Wr B b v v2 w w2.drew:=hw12.trans (Wr.low ((Below.refl _ w2).drew) (by have:=hw12.size;omega))
 have hszd:B≤w2.drew.heap.size:=Nat.le_trans hBw hwd.size
 clear q1 q2 hw1 hw2 hw12 h
 go_upto_region 2 with fail
 refine wp_region_noPanic ?_
 refine wp_region_held_drew (S:=fun _=>True) (by kernel_rfl) trivial (fun hHeld=>?_)
 generalize w2.drew=wd at q2d hwd hszd ⊢
 refine Y_t 0 15 _ (.pointer (some ⟨b,0,none⟩)) rfl (Or.inl ⟨by kernel_rfl,fun u hu=>by kernel_rfl⟩) hHeld ?_
 simp only[Act.put,Y_a,Y_b,Y_c]
 refine Y_t 1 16 _ (.pointer (some ⟨b,0,none⟩)) rfl (Or.inl ⟨by kernel_rfl,fun u hu=>by kernel_rfl⟩) hHeld ?_
 simp only[Act.put,Y_a,Y_b,Y_c]
 refine Y_t 2 17 _ (.pointer (some ⟨b,0,none⟩)) rfl (Or.inl ⟨by kernel_rfl,fun u hu=>by kernel_rfl⟩) hHeld ?_
 simp only[Act.put,Y_a,Y_b,Y_c]
 refine Y_t 3 18 _ (.string ⟨s.toArray⟩) rfl (Or.inl ⟨by kernel_rfl,fun u hu=>by kernel_rfl⟩) hHeld ?_
 simp only[Act.put,Y_a,Y_b,Y_c]
 refine Y_e 4 19 _ rfl 82 (.func 82) #[.tmp 18] #[9] (by kernel_rfl) #[] (by kernel_rfl) #[.string ⟨s.toArray⟩] (by kernel_rfl) (enters_of Tryz.func82 (by kernel_rfl) rfl) (fun v3 w3=>v3=.string ⟨T.toArray⟩∧w3=wd) ?_ ?_
 ·refine (ZoF s wd hs T HT).mono ?_
  rintro e w3 ⟨rfl,rfl⟩
  exact⟨_,rfl,trivial,rfl,rfl⟩
 rintro _ w3 _ ⟨rfl,rfl⟩
 simp only[Act.put,Y_a,Y_b,Y_c]
 refine Y_e 5 20 _ rfl 34 (.func 34) #[.tmp 17,.tmp 19] #[77,9] (by kernel_rfl) #[] (by kernel_rfl) #[.pointer (some ⟨b,0,none⟩),.string ⟨T.toArray⟩] (by kernel_rfl) (enters_of Tryz.func34 (by kernel_rfl) rfl) (fun _ w4=>∃ v',Pg B b v' Z w4∧Wr B b v v' w w4) ?_ ?_
 ·refine (ZbS ZjO B b v2 _ T _ q2d (by rw[List.length_append,List.length_append];simp;omega) hszd).mono ?_
  rintro e w4 ⟨rfl,v4,q4,hw4⟩
  exact⟨_,rfl,trivial,v4,by unfold Pg;rw[← hA.out];exact q4,hwd.trans hw4⟩
 rintro _ w4 _ ⟨v4,q4,hw4⟩
 simp only[Act.put,Y_a,Y_b,Y_c]
 refine wpAnyH_done (by kernel_rfl) ?_ _
 refine NoPanic.normal ?_
 go_wp2
 first
  | go_end0
  | refine bodyPost_ret (results_none rfl _ _ _) rfl ?_
  | refine bodyPost_end (results_none rfl _ _ _) rfl ?_
 exact⟨rfl,v4,q4,hw4⟩
theorem ZdX (A N:Int) (h0:0≤A) (h1:A≤4611686018427387904) (h2:0≤N) (h3:N≤4611686018427387900) (w:World) (HT:Hid (Tab10 w)) (T:List UInt8) (HR:Hid (spanT A N=T)) :
  Calls Tryz.prog 112 #[.int .i64 A,.int .i64 N] w fun e w'=>e=.returned (.string ⟨T.toArray⟩)∧Below w.heap.size w w':=by
 have l1:=Zjd A (by omega) (by omega)
 have l2:=Zjd (A+N-1) (by omega) (by omega)
 by_cases hN:N≤1
 ·have HE1:Hid (Lib.itoa A=T):=(by have h:=HR.out;unfold spanT at h;rw[if_pos hN] at h;exact h)
  clear HR
  go_enter Tryz.func112,Tryz.ntmps112
  go_wp2_with fail
  refine (ZlY A (by omega) (by omega) _ HT).mono ?_
  rintro e w1 ⟨rfl,hb1⟩
  go_wp2
  go_ret
  exact⟨by rw[← HE1.out];rfl,hb1⟩
 ·have HE:Hid (Lib.itoa A++44::Lib.itoa (A+N-1)=T):=(by have h:=HR.out;unfold spanT at h;rw[if_neg hN] at h;exact h)
  clear HR
  have q1:=ZaJ (x:=Lib.itoa A) (y:=[44]) (by unfold Fits;simp only[List.length_cons,List.length_nil];omega) Tryz.prog
  have q2:=ZaJ (x:=Lib.itoa A++[44]) (y:=Lib.itoa (A+N-1)) (by unfold Fits;simp only[List.length_append,List.length_cons,List.length_nil];omega) Tryz.prog
  go_enter Tryz.func112,Tryz.ntmps112
  go_wp2_with fail
  refine (ZlY A (by omega) (by omega) _ HT).mono ?_
  rintro e w1 ⟨rfl,hb1⟩
  have HT1:Hid (Tab10 w1):=HT.out.on hb1
  go_wp2_with fail
  refine (ZlY (A+N-1) (by omega) (by omega) _ HT1).mono ?_
  rintro e w2 ⟨rfl,hb2⟩
  go_wp2
  go_ret
  exact⟨by rw[← HE.out];rfl,hb1.trans (hb2.mono hb1.size)⟩
end

section
open Go.RowKit
def ucells (l:List Int):List Value:=l.map fun n=>.int .u8 n
theorem Zth (l:List Int):(ucells l).length=l.length:=by simp[ucells]
theorem Ztg (a b:List Int):ucells (a++b)=ucells a++ucells b:=by simp[ucells]
theorem Zti (l:List Int):∀ u∈ucells l,u.oneCell'=true:=by
 intro u hu
 simp only[ucells,List.mem_map] at hu
 obtain⟨n,_,rfl⟩:=hu
 rfl
theorem infoU:(Tryz.prog.info? 5).map (fun i=>(i.zero,i.size,i.bytes))=some (some (.int .u8 0),1,1):=by kernel_rfl
theorem Ztb (w:World) (c:Int):Holds (w.alloc (.cells #[.int .u8 c] 5)) (.slice (some ⟨w.heap.size,0,none⟩) 1 1) 1 (ucells [c]):=Zmn w #[.int .u8 c] 5 1 1 (by decide)
def lenW:Value→Nat
 | .slice _ n _=>n
 | _=>0
theorem Zls (c:List Mk):(mixM c).length=c.length:=by simp[mixM]
theorem Zlr (c:List Mk) (mx:Bool) (HM:(hasM 45 c && hasM 43 c)=mx) (k:Nat) (hk:k<c.length):(mixM c).drop k=(if mx=true then 33 else c[k].sg)::(mixM c).drop (k+1):=by
 have hl:k<(mixM c).length:=by rw[Zls];exact hk
 rw[List.drop_eq_getElem_cons hl]
 congr 1
 simp only[mixM,List.getElem_map,HM]
theorem Zef (l:List Mk) (v:Value) (w:World) (hv:HMk w v l) (hl:l.length≤1099511627776) (R:List Int) (HR:Hid (shwL false false l=R)) :
  Calls Tryz.prog 111 #[v] w fun e w'=>∃ v',e=.returned v'∧w'.ownsRow w.heap.size 5 1 v' R.length (ucells R)∧Below w.heap.size w w':=by
 obtain⟨lo,lc,rfl⟩:=HMk.form hv
 have hnc:=Zlq hv
 have HR0:Hid (([]:List Int)++shwL false false (l.drop 0)=R):=(by show _=_;simp only[List.nil_append,List.drop_zero];exact HR.out)
 have hown0:w.ownsRow w.heap.size 5 1 (.slice none 0 0) 0 (ucells []):=Zii _ _ _ _
 clear HR
 go_enter Tryz.func111,Tryz.ntmps111
 go_wp2
 go_loopw [3] (fun sv wr=>∃ (acc:List Int) (N:Nat),N≤l.length∧(∃ o c,sv=.slice o N c)∧wr.ownsRow w.heap.size 5 1 sv N (ucells acc)∧Below w.heap.size w wr∧Hid (acc.length=N)∧Hid (acc++shwL false false (l.drop N)=R)) (fun sv _=>l.length-lenW sv)
 case atStart=>exact⟨[],0,Nat.zero_le _,⟨none,0,rfl⟩,hown0,Below.refl _ _,rfl,HR0⟩
 case round =>
 obtain⟨acc,N,hN,⟨o,c,rfl⟩,hown,hB,HLn,HI⟩:=hrel
 clear HR0 hown0
 by_cases hlt:N<l.length
 ·have hsub:=Zlw hv N hN
  have hs:=ZqF lo l.length lc N hN hnc
  have HST:=HI.out
  rw[ZrC] at HST
  have hll:(l.drop N).length=l.length-N:=List.length_drop
  obtain⟨D,hD⟩:∃ D,l.drop N=D:=⟨_,rfl⟩
  have HDr:Hid (l.drop N=D):=hD
  rw[hD] at hll hsub HST
  rw[← hll] at hsub hs
  clear hD HI
  generalize mslF lo lc N=ao2 at hs hsub
  generalize lc-N=c2 at hs hsub
  obtain⟨n,hn⟩:∃ n,(chgM D).length=n:=⟨_,rfl⟩
  have hnD:n≤D.length:=(by rw[← hn];exact ZcL D)
  have hp:=ZdW D ao2 c2 wr (hsub.keep hB (Nat.le_refl _)) (by omega) n hn
  have hto:=ZlF hsub n hnD
  have hct:D.take n=chgM D:=(by rw[← hn];exact ZcP D)
  rw[hct] at hto
  obtain⟨T,hT⟩:∃ T,tlM (rstM D)=T:=⟨_,rfl⟩
  rw[hT] at HST
  have HTl:Hid ((n=D.length∧T=[])∨(n<D.length∧T=32::shwL false false (l.drop (N+n+1)))):=(by
   have h1:=congrArg List.length (ZcO D)
   rw[List.length_append,hn] at h1
   cases hr:rstM D with
   | nil =>
    rw[hr] at hT h1
    exact .inl ⟨by simpa using h1,hT.symm⟩
   | cons x t =>
    rw[hr] at hT h1
    refine .inr ⟨by simp at h1;omega,?_⟩
    rw[← hT]
    have h2:l.drop (N+n+1)=t:=(by
     rw[← List.drop_drop,← List.drop_drop,HDr.out]
     have h3:=ZcO D
     rw[hr] at h3
     have h4:D.drop n=x::t:=(by rw[← h3,← hn,List.drop_left])
     rw[h4]
     rfl)
    rw[h2]
    rfl)
  have HS:Hid (acc++(mixM (chgM D)++T)=R):=HST
  have hhas:=fun k u hu r HR=>Zcz k (chgM D) (.slice ao2 n c2) u ((hto.keep hB (Nat.le_refl _)).keep hu (Nat.le_refl _)) (by rw[hn];omega) r HR
  obtain⟨mx,hmx⟩:∃ b,(hasM 45 (chgM D) && hasM 43 (chgM D))=b:=⟨_,rfl⟩
  have HMX:Hid ((hasM 45 (chgM D) && hasM 43 (chgM D))=mx):=hmx
  have h45:=fun u hu=>hhas 45 u hu _ rfl
  have h43:=fun u hu=>hhas 43 u hu _ rfl
  have HCn:Hid ((chgM D).length=n):=hn
  have HDl:Hid (D.length=l.length-N):=hll
  have hn2:n≤1099511627776:=by omega
  clear HST hT hsub hct hhas hn HDr hll hmx
  generalize chgM D=C at hto HS h45 h43 HMX HCn
  go_wp2_with fail
  refine hp.mono ?_
  rintro e w1 ⟨rfl,hB1⟩
  go_upto_region 4 with fail
  go_cut [5] from 9 to 46 (fun mv wz=>mv=.bool mx∧Below wr.heap.size wr wz)
  case first =>
   cases h1:hasM 45 C with
   | true =>
    rw[h1] at h45
    go_wp2_with fail
    refine (h45 w1 hB1).mono ?_
    rintro e w2 ⟨rfl,hB2⟩
    have hB12:=hB1.trans (hB2.mono hB1.size)
    have HE:Hid (hasM 43 C=mx):=(by have h:=HMX.out;rw[h1,Bool.true_and] at h;exact h)
    go_wp2_with fail
    refine (h43 w2 hB12).mono ?_
    rintro e w3 ⟨rfl,hB3⟩
    go_wp2
    go_meet
    case rel=>exact⟨by rw[HE.out],hB12.trans (hB3.mono hB12.size)⟩
   | false =>
    rw[h1] at h45
    have HE:Hid (false=mx):=(by have h:=HMX.out;rw[h1,Bool.false_and] at h;exact h)
    go_wp2_with fail
    refine (h45 w1 hB1).mono ?_
    rintro e w2 ⟨rfl,hB2⟩
    go_wp2
    go_meet
    case rel=>exact⟨by rw[HE.out],hB1.trans (hB2.mono hB1.size)⟩
  case rest =>
  obtain⟨rfl,hBc⟩:=hcut
  clear hp h45 h43 hs hB1
  have hown2:wc.ownsRow w.heap.size 5 1 (.slice o N c) N (ucells acc):=ZnI hown hBc
  have hB2:=hB.trans (hBc.mono hB.size)
  clear hown hB hBc
  generalize wc=W2 at hown2 hB2 ⊢
  have HS0:Hid (acc++((mixM C).drop 0++T)=R):=(by show _=_;rw[List.drop_zero];exact HS.out)
  have HL0:Hid (acc.length=N∧N=N+0):=⟨HLn.out,rfl⟩
  clear HS HLn
  go_wp2
  go_loopw [3,27] (fun sv i wr=>∃ (k:Nat) (ac:List Int) (N2:Nat),k≤n∧i=.int .i64 k∧N2≤l.length∧(∃ o c,sv=.slice o N2 c)∧wr.ownsRow w.heap.size 5 1 sv N2 (ucells ac)∧Below w.heap.size w wr∧Hid (ac.length=N2∧N2=N+k)∧Hid (ac++((mixM C).drop k++T)=R)) (fun _ i _=>n-(intOf i).toNat)
  case atStart=>exact⟨0,acc,N,Nat.zero_le _,by go_num,hN,⟨o,c,rfl⟩,hown2,hB2,HL0,HS0⟩
  case round =>
  clear HS0 HL0 hown2
  obtain⟨k,ac,N2,hk,rfl,hN2,⟨o2,c2',rfl⟩,hown3,hB3,HL3,HI3⟩:=hrel
  have hsz3:=hB3.size
  by_cases hkn:k<n
  ·obtain⟨bk,off,rfl,hbk,_⟩:=HMk.at hto (by have:=HCn.out;omega)
   have hkC:k<C.length:=(by have:=HCn.out;omega)
   obtain⟨m,hm⟩:∃ m,C[k]=m:=⟨_,rfl⟩
   obtain⟨c0,c1⟩:=Low.mk hB3 hto k hkC hm
   have i1:(0:Int)≤(k:Int):=by omega
   have i2:(k:Int)<(n:Int):=by omega
   obtain⟨S,hS⟩:∃ S:Int,(if mx=true then 33 else m.sg)=S:=⟨_,rfl⟩
   have HI4:Hid ((ac++[S])++((mixM C).drop (k+1)++T)=R):=(by
    show _=_
    have h:=HI3.out
    rw[Zlr C _ HMX.out k hkC,hm,hS] at h
    rw[← h]
    simp)
   have HL4:Hid ((ac++[S]).length=N2+1∧N2+1=N+(k+1)∧N2+1≤l.length∧k+1≤n):=⟨by rw[List.length_append,HL3.out.1];rfl,by have:=HL3.out.2;omega,by have:=HL3.out.2;have:=HDl.out;omega,by omega⟩
   have hownM:=hown3.alloc (.cells #[.int .u8 m.sg,.string ⟨m.tx.toArray⟩] 103)
   have hBM:=hB3.alloc hB3.size (.cells #[.int .u8 m.sg,.string ⟨m.tx.toArray⟩] 103)
   have HS2:Hid ((if mx=true then 33 else m.sg)=S):=hS
   clear HI3 HMX hto hS hown3 hB3
   go_upto_region 8 with fail
   go_cut [8] from 28 to 38 (fun sv wz=>sv=.int .u8 m.sg∧wz=wr.alloc (.cells #[.int .u8 m.sg,.string ⟨m.tx.toArray⟩] 103))
   case first =>
    go_wp2
    go_meet
    case rel=>exact⟨rfl,rfl⟩
   case rest =>
   obtain⟨rfl,rfl⟩:=hcut
   go_upto_if 33 with fail
   go_cut [8] from 28 to 38 (fun sv wz=>sv=.int .u8 S∧wz=wr.alloc (.cells #[.int .u8 m.sg,.string ⟨m.tx.toArray⟩] 103))
   case first =>
    cases mx with
    | true =>
     have HE:Hid (33=S):=(by have h:=HS2.out;rw[if_pos rfl] at h;exact h)
     go_wp2
     go_meet
     case rel=>exact⟨by rw[HE.out],rfl⟩
    | false =>
     have HE:Hid (m.sg=S):=(by have h:=HS2.out;rw[if_neg (by decide)] at h;exact h)
     go_wp2
     go_meet
     case rel=>exact⟨by rw[HE.out],rfl⟩
   case rest =>
   obtain⟨rfl,rfl⟩:=hcut
   clear c0 c1 HS2
   generalize wr.alloc (.cells #[.int .u8 m.sg,.string ⟨m.tx.toArray⟩] 103)=Wm at hownM hBM ⊢
   have hszM:w.heap.size≤Wm.heap.size:=hBM.size
   have hrow:=Ztb Wm S
   have hownA:=hownM.alloc (.cells #[.int .u8 S] 5)
   have hszA:Wm.heap.size≤(Wm.alloc (.cells #[.int .u8 S] 5)).heap.size:=by simp
   go_wp2_with (at_builtin;refine ZuZ _ (by kernel_rfl) (.tmp 34) (.tmp 36) 75 5 (.int .u8 0) 1 1 rfl Tryz.underlying75 infoU rfl (by decide) (by decide) w.heap.size _ _ _ rfl hownA _ 1 (ucells [S]) rfl hrow (Zth _) (Zti _) (by omega) (by omega) ?_)
   intro v3 u3 hown4 hg4 _
   rw[← Ztg] at hown4
   have hB4:Below w.heap.size w u3:=((hBM.alloc hBM.size _).grown hg4 (hBM.alloc hBM.size _).size (fun j hj=>ZnH hownA hj))
   obtain⟨o4,c4,rfl⟩:=(holds_of hown4).form
   clear hrow hownA hg4 hszA hownM hBM
   go_wp2
   exact⟨⟨k+1,_,N2+1,HL4.out.2.2.2,by go_num,HL4.out.2.2.1,⟨o4,c4,rfl⟩,hown4,hB4,⟨HL4.out.1,HL4.out.2.1⟩,HI4⟩,by have:=HL4.out.2.2.2;simp[intOf];omega⟩
  ·have hend:decide ((k:Int)<(n:Int))=false:=decide_eq_false (by omega)
   have hkk:k=n:=by omega
   subst hkk
   have HI4:Hid (ac++T=R):=(by
    have h:=HI3.out
    rw[List.drop_of_length_le (by rw[Zls,HCn.out];omega),List.nil_append] at h
    exact h)
   have HNk:Hid (N2=N+k):=HL3.out.2
   have HAl:Hid (ac.length=N2):=HL3.out.1
   clear HI3 HL3 HMX hto
   by_cases hfull:k<D.length
   ·have HT:Hid (T=32::shwL false false (l.drop (N2+1))):=(by
     rcases HTl.out with h | h
     ·omega
     ·show _=_
      rw[HNk.out]
      exact h.2)
    have j1:(N2:Int)<(l.length:Int):=(by have:=HNk.out;have:=HDl.out;omega)
    have HI5:Hid ((ac++[32])++shwL false false (l.drop (N2+1))=R):=(by
     show _=_
     rw[← HI4.out,HT.out]
     simp)
    have HL5:Hid ((ac++[(32:Int)]).length=N2+1):=(by show _=_;rw[List.length_append,HAl.out];rfl)
    have hdec:l.length-(N2+1)<l.length-N:=(by have:=HNk.out;omega)
    have hownM:=hown3
    have hBM:=hB3
    clear HI4 HT HTl
    have hszA:(wr).heap.size≤((wr).alloc (.cells #[.int .u8 (32)] 5)).heap.size:=by simp
    have hrow:=Ztb (wr) (32)
    have hownA:=hownM.alloc (.cells #[.int .u8 (32)] 5)
    go_wp2_with (at_builtin;refine ZuZ _ (by kernel_rfl) (.tmp 44) (.tmp 45) 75 5 (.int .u8 0) 1 1 rfl Tryz.underlying75 infoU rfl (by decide) (by decide) w.heap.size _ _ _ rfl hownA _ 1 (ucells [32]) rfl hrow (Zth _) (Zti _) (by omega) (by omega) ?_)
    intro v3 u3 hown4 hg4 _
    rw[← Ztg] at hown4
    have hB4:Below w.heap.size w u3:=((hBM.alloc hBM.size _).grown hg4 (hBM.alloc hBM.size _).size (fun j hj=>ZnH hownA hj))
    obtain⟨o4,c4,rfl⟩:=(holds_of hown4).form
    clear hrow hownA hg4 hszA
    go_wp2
    exact⟨⟨_,N2+1,by omega,⟨o4,c4,rfl⟩,hown4,hB4,HL5,HI5⟩,hdec⟩
   ·have HT:Hid (T=[]):=(by
     rcases HTl.out with h | h
     ·exact h.2
     ·omega)
    have j1:¬ (N2:Int)<(l.length:Int):=(by have:=HNk.out;have:=HDl.out;omega)
    have HI5:Hid (ac++shwL false false (l.drop N2)=R):=(by
     show _=_
     rw[← HI4.out,HT.out,List.drop_of_length_le (by omega)]
     rfl)
    have hdec:l.length-N2<l.length-N:=(by have:=HNk.out;have:=HDl.out;omega)
    clear HI4 HT HTl
    go_wp2
    exact⟨⟨ac,N2,hN2,⟨o2,c2',rfl⟩,hown3,hB3,HAl,HI5⟩,hdec⟩
 ·have hend:¬ (N:Int)<(l.length:Int):=by omega
  have HE:Hid (acc=R∧R.length=N):=(by
   have h:=HI.out
   rw[List.drop_of_length_le (by omega)] at h
   have h2:acc=R:=(by rw[← h];simp[shwL])
   exact⟨h2,by rw[← h2];exact HLn.out⟩)
  clear HI HLn
  go_wp2
  go_ret
  obtain⟨h1,h2⟩:=HE.out
  subst h1
  exact⟨_,rfl,by rw[h2];exact hown,hB⟩
end

section
open Go.RowKit
structure Ly (W:World) (X:Nat) (lv:Value) (acc:List Mk) (u:World):Prop where
 low:Below W.heap.size W u
 box:u.heap[X]?=some (.cells #[lv] 57)
 own:u.ownsRow W.heap.size 103 2 lv acc.length (mkcells acc)
 ge:W.heap.size≤X
section
variable {W u u':World} {X:Nat} {lv:Value} {acc:List Mk}
theorem Ly.keep (h:Ly W X lv acc u) (hb:Below u.heap.size u u'):Ly W X lv acc u':=⟨h.low.trans (hb.mono h.low.size),(hb.block X (Array.getElem?_eq_some_iff.1 h.box).1).trans h.box,ZnI h.own hb,h.ge⟩
theorem Ly.cell (h:Ly W X lv acc u):u.cell? ⟨X,0,none⟩=some lv:=by rw[Lib.cell_of_heap h.box];rfl
theorem ZnB {B:Nat} {e t:TypeId} {s:Nat} {v:Value} {n k:Nat} {xs:List Value} {cs:Array Value} {fr:Nat × Nat} (h:u.ownsRow B e s v n xs) (hb:u.heap[k]?=some (.cells cs t fr)) (he:e≠t):v.ownBlock≠some k:=by
 intro hg
 rcases h.2 with ⟨rfl,_⟩ | ⟨g,cap,cur,rfl,_,hg2,_⟩
 ·cases hg
 ·simp[Value.ownBlock] at hg
  subst hg
  rw[hb] at hg2
  simp at hg2
  exact he hg2.2.1.symm
theorem Ly.more (h:Ly W X lv acc u) {m:Mk} {lv':Value} {n:Nat} (hg:u.grownBy u' lv.ownBlock) (ho:u'.ownsRow W.heap.size 103 2 lv' n (mkcells (acc++[m]))) (hn:n=(acc++[m]).length):Ly W X lv' (acc++[m]) (u'.setCell ⟨X,0,none⟩ lv')∧u'.cell? ⟨X,0,none⟩=some lv∧u'.frozen? ⟨X,0,none⟩=false:=by
 subst hn
 have hb:u'.heap[X]?=some (.cells #[lv] 57):=(hg.block X (Array.getElem?_eq_some_iff.1 h.box).1 (fun e=>ZnB h.own h.box (by decide) e.symm)).trans h.box
 have hlow:Below W.heap.size W u':=h.low.grown hg h.low.size (fun j hj=>ZnH h.own hj)
 refine⟨⟨hlow.setCell h.ge _,heap_setCell_same u' X 0 _ _ lv' hb,?_,h.ge⟩,by rw[Lib.cell_of_heap hb];rfl,Lib.frozen_of_heap hb 0⟩
 have hg2:=Zhd u' X 0 lv'
 refine⟨ho.1,?_⟩
 rcases ho.2 with q | ⟨g,cap,cur,rfl,q2,q3,q4⟩
 ·exact .inl q
 ·refine .inr ⟨g,cap,cur,rfl,q2,?_,q4⟩
  rw[hg2.block g (Array.getElem?_eq_some_iff.1 q3).1 (fun e=>by
   cases e
   rw[hb] at q3
   simp at q3)]
  exact q3
end
theorem Zdp (sg:Int) (l acc:List Mk) (W:World) (X:Nat) (lv v:Value) (w:World) (hy:Ly W X lv acc w) (hv:HMk W v l) (hl:l.length≤1099511627776) (ha:acc.length≤1099511627776) (R:List Mk) (HR:Hid (acc++l.map (fun m=>⟨sg,m.tx⟩)=R)) :
  Calls Tryz.prog 215 #[.int .u8 sg,v,.pointer (some ⟨X,0,none⟩)] w fun e w'=>e=.returned (.tuple #[])∧∃ lv',Ly W X lv' R w':=by
 obtain⟨lo,lc,rfl⟩:=HMk.form hv
 have HR0:Hid (acc++(l.drop 0).map (fun m=>(⟨sg,m.tx⟩:Mk))=R∧acc.length=acc.length+0):=⟨by rw[List.drop_zero];exact HR.out,rfl⟩
 clear HR
 go_enter Tryz.func215,Tryz.ntmps215
 go_wp2
 go_loopw [9] (fun i wr=>∃ (k:Nat) (lv':Value) (ac:List Mk),k≤l.length∧i=.int .i64 k∧Ly W X lv' ac wr∧Hid (ac++(l.drop k).map (fun m=>(⟨sg,m.tx⟩:Mk))=R∧ac.length=acc.length+k)) (fun i _=>l.length-(intOf i).toNat)
 case atStart=>exact⟨0,lv,acc,Nat.zero_le _,by go_num,hy,HR0⟩
 case round =>
 clear HR0 hy
 obtain⟨k,lv1,ac,hk,rfl,hy,HI⟩:=hrel
 by_cases hlt:k<l.length
 ·obtain⟨bk,off,rfl,hbk,_⟩:=HMk.at hv (by omega)
  obtain⟨m,hm⟩:∃ m,l[k]=m:=⟨_,rfl⟩
  obtain⟨c0,c1⟩:=Low.mk hy.low hv k hlt hm
  have i1:(0:Int)≤(k:Int):=by omega
  have i2:(k:Int)<(l.length:Int):=by omega
  have HI2:Hid ((ac++[⟨sg,m.tx⟩])++(l.drop (k+1)).map (fun m=>(⟨sg,m.tx⟩:Mk))=R∧(ac++[(⟨sg,m.tx⟩:Mk)]).length=acc.length+(k+1)):=(by
   have h:=HI.out
   rw[List.drop_eq_getElem_cons hlt,hm] at h
   refine⟨?_,?_⟩
   ·rw[← h.1];simp
   ·rw[List.length_append,h.2];simp;omega)
  have hal:ac.length≤2199023255551:=(by have:=HI.out.2;omega)
  have hBa:Below wr.heap.size wr (wr.alloc (.cells #[.int .u8 m.sg,.string ⟨m.tx.toArray⟩] 103)):=(Below.refl _ wr).alloc (Nat.le_refl _) _
  have hya:=hy.keep hBa
  have hBb:Below (wr.alloc (.cells #[.int .u8 m.sg,.string ⟨m.tx.toArray⟩] 103)).heap.size (wr.alloc (.cells #[.int .u8 m.sg,.string ⟨m.tx.toArray⟩] 103)) ((wr.alloc (.cells #[.int .u8 m.sg,.string ⟨m.tx.toArray⟩] 103)).alloc (mkO ⟨sg,m.tx⟩)):=(Below.refl _ _).alloc (Nat.le_refl _) _
  have hyb:=hya.keep hBb
  have hrow:=ZlD (wr.alloc (.cells #[.int .u8 m.sg,.string ⟨m.tx.toArray⟩] 103)) ⟨sg,m.tx⟩
  rw[show (wr.alloc (.cells #[.int .u8 m.sg,.string ⟨m.tx.toArray⟩] 103)).heap.size=wr.heap.size+1 by simp] at hrow
  have hx0:=hya.cell
  have hx1:=hy.cell
  have hW:(wr.alloc (.cells #[.int .u8 m.sg,.string ⟨m.tx.toArray⟩] 103)).alloc (.cells #[.int .u8 sg,.string ⟨m.tx.toArray⟩] 103)=(wr.alloc (.cells #[.int .u8 m.sg,.string ⟨m.tx.toArray⟩] 103)).alloc (mkO ⟨sg,m.tx⟩):=rfl
  have hownb:=hyb.own
  have hlow:=hyb.low.size
  obtain⟨o1,n1,c1',rfl⟩:∃ o n c,lv1=.slice o n c:=(by obtain⟨o,c,h⟩:=(holds_of hy.own).form;exact⟨o,_,c,h⟩)
  clear HI hm hBa hBb hya hy
  go_wp2_with (at_builtin;refine ZuZ _ (by kernel_rfl) (.tmp 13) (.tmp 18) 57 103 (.agg #[.int .u8 0,.string ⟨#[]⟩]) 2 24 rfl Tryz.underlying57 infoMk rfl (by decide) (by decide) W.heap.size _ _ _ rfl hownb _ 1 (mkcells [⟨sg,m.tx⟩]) rfl hrow (ZlK _) (ZlL _) (by omega) hlow ?_)
  intro v3 u3 hown3 hg3 _
  rw[← ZlH] at hown3
  obtain⟨hy3,x1,x2⟩:=hyb.more hg3 hown3 (by rw[List.length_append];rfl)
  obtain⟨o3,c3,rfl⟩:=(holds_of hown3).form
  clear hW hrow hownb hown3 hg3 hyb hx0 hx1 c0 c1
  go_wp2
  exact⟨⟨k+1,_,_,by omega,by go_num,hy3,HI2⟩,by simp[intOf];omega⟩
 ·have hend:decide ((k:Int)<(l.length:Int))=false:=decide_eq_false (by omega)
  have hE:ac=R:=(by
   have h:=HI.out.1
   rw[List.drop_of_length_le (by omega)] at h
   simpa using h)
  subst hE
  clear HI
  go_wp2
  first
   | go_end0
   | refine bodyPost_ret (results_none rfl _ _ _) rfl ?_
   | refine bodyPost_end (results_none rfl _ _ _) rfl ?_
  exact⟨rfl,lv1,hy⟩
theorem Zlz (s t:List UInt8) (r:Bool) (h:(s != t)=r) (u:World):(binOp .neq 103 (.agg #[.int .u8 32,.string ⟨s.toArray⟩]) (.agg #[.int .u8 32,.string ⟨t.toArray⟩])).run Tryz.prog u=.ok (.bool r) u:=by
 have hst:Tryz.prog.underlying 103=some (.struct (Tryz.prog.fieldsOf 103)):=by kernel_rfl
 have hsi:Tryz.prog.stoodInHeld 103=false:=by kernel_rfl
 have hff : (Tryz.prog.fieldsOf 103).toList = [⟨"Sign", 5, 0, false, "", "", 0⟩, ⟨"Text", 9, 1, false, "", "", 8⟩] := by kernel_rfl
 rw[run_neq_struct,run_equalIn_agg u 9999 _ _ _ hst hsi,hff]
 have p1:∀ (x y:Value) (u:World),(part 5 #[.int .u8 32,y] 0).run Tryz.prog u=.ok (.int .u8 32) u:=fun _ _ _=>by kernel_rfl
 have p2:∀ (z:ByteArray) (u:World),(part 9 #[.int .u8 32,.string z] 1).run Tryz.prog u=.ok (.string z) u:=fun _ _=>by kernel_rfl
 have q1:=run_equalIn_int (P:=Tryz.prog) u 9998 5 .u8 .u8 32 32 Tryz.underlying5
 have q2:=run_equalIn_string (P:=Tryz.prog) u 9998 9 ⟨s.toArray⟩ ⟨t.toArray⟩ Tryz.underlying9
 have e1:(⟨s.toArray⟩:ByteArray).toList=s:=by rw[ByteArray.toList_eq]
 have e2:(⟨t.toArray⟩:ByteArray).toList=t:=by rw[ByteArray.toList_eq]
 rw[e1,e2] at q2
 have n1 : ("Sign" : String) ≠ "_" := by decide
 have n2 : ("Text" : String) ≠ "_" := by decide
 simp only[Op.eqFields,n1,n2,ne_eq,not_false_eq_true,if_true,Sem.run_bind,p1 .nilIface,p2,q1,q2,Result.andThen_ok,Sem.run_ite]
 rw[← h]
 cases hst2:(s == t)<;>simp[bne,hst2]
theorem Zqq (l:List Mk):l.drop (chgM l).length=rstM l:=by
 have h:=ZcO l
 have h2:(chgM l++rstM l).drop (chgM l).length=rstM l:=List.drop_left
 rw[h] at h2
 exact h2
def thenJ (a:List Mk) (X:Option (List Mk)):Option (List Mk):=X.map (a++·)
def LdQ (w:World) (X:Option (List Mk)) (e:Ending) (w':World):Prop:=∃ v r,e=.returned (.tuple #[v,.bool r])∧Below w.heap.size w w'∧match X with
 | none=>r=false
 | some l=>r=true∧w'.ownsRow w.heap.size 103 2 v l.length (mkcells l)
theorem Zdn (o v:Sde) (vo vv:Value) (w:World) (ho:HMk w vo (kM o)) (hv:HMk w vv (kM v)) (hol:o.length≤137438953472) (hvl:v.length≤137438953472) (Y:Option (List Mk)) (HY:Hid (jnX o v=Y)) :
  Calls Tryz.prog 155 #[vo,vv] w fun e w'=>LdQ w Y e w':=by
 have hX0:Ly w w.heap.size (.slice none 0 0) [] (w.alloc (.cells #[.slice none 0 0] 57)):=⟨(Below.refl _ w).alloc (Nat.le_refl _) _,heap_alloc_new w _,Zii _ _ _ _,Nat.le_refl _⟩
 have HI0:Hid (thenJ [] (jnX o v)=Y∧([]:List Mk).length+o.length+v.length≤o.length+v.length):=⟨by rw[← HY.out];unfold thenJ;cases jnX o v<;>rfl,by simp⟩
 obtain⟨T,hT⟩:∃ T,o.length+v.length=T:=⟨_,rfl⟩
 rw[hT] at HI0
 have hTl:T≤274877906944:=by omega
 obtain⟨ao,ac,rfl⟩:=HMk.form ho
 obtain⟨bo,bc,rfl⟩:=HMk.form hv
 clear HY hT
 have hmf:∀ (fn:Fn) (first cap:Array Value) (w:World),(Instr.makeFunc fn first cap).run Tryz.prog w=.ok (.func fn first cap) w:=fun _ _ _ _=>rfl
 go_enter Tryz.func155,Tryz.ntmps155
 go_wp2
 generalize hX:w.heap.size=X at hX0 ⊢
 have HX:Hid (w.heap.size=X):=hX
 clear hX
 go_loopw [0,1] (fun ov nv wr=>∃ (o v:Sde) (lv:Value) (acc:List Mk) (ao bo:Option Addr) (ac bc:Nat),ov=.slice ao (kM o).length ac∧nv=.slice bo (kM v).length bc∧HMk w (.slice ao (kM o).length ac) (kM o)∧HMk w (.slice bo (kM v).length bc) (kM v)∧Ly w X lv acc wr∧Hid (thenJ acc (jnX o v)=Y∧acc.length+o.length+v.length≤T)) (fun ov _ _=>lenW ov)
 case atStart=>exact⟨o,v,_,[],ao,bo,ac,bc,rfl,rfl,ho,hv,hX0,HI0⟩
 case round =>
 clear HI0 hX0 ho hv hol hvl
 obtain⟨o,v,lv,acc,ao,bo,ac,bc,rfl,rfl,ho,hv,hy,HI⟩:=hrel
 have hoT:o.length≤274877906944:=(by have:=HI.out.2;omega)
 obtain⟨n1,hn1⟩:∃ n,(chgM (kM o)).length=n:=⟨_,rfl⟩
 obtain⟨n2,hn2⟩:∃ n,(chgM (kM v)).length=n:=⟨_,rfl⟩
 have le1:n1≤(kM o).length:=(by rw[← hn1];exact ZcL _)
 have le2:n2≤(kM v).length:=(by rw[← hn2];exact ZcL _)
 have g1:=ZlF ho n1 le1
 have g2:=ZlF hv n2 le2
 rw[show (kM o).take n1=chgM (kM o) by rw[← hn1];exact ZcP _] at g1
 rw[show (kM v).take n2=chgM (kM v) by rw[← hn2];exact ZcP _] at g2
 have d1:=Zlw ho n1 le1
 have d2:=Zlw hv n2 le2
 have s1:=ZqF ao (kM o).length ac n1 le1 (Zlq ho)
 have s2:=ZqF bo (kM v).length bc n2 le2 (Zlq hv)
 rw[show (kM o).drop n1=kM (rstS o) by rw[← hn1,Zqq,Zqs]] at d1
 rw[show (kM v).drop n2=kM (rstS v) by rw[← hn2,Zqq,Zqs]] at d2
 have x1:(kM o).length-n1=(kM (rstS o)).length:=(by rw[← Zqs,← Zqq,hn1,List.length_drop])
 have x2:(kM v).length-n2=(kM (rstS v)).length:=(by rw[← Zqs,← Zqq,hn2,List.length_drop])
 rw[x1] at d1 s1
 rw[x2] at d2 s2
 clear x1 x2
 have HLen:Hid (acc.length+o.length+v.length≤T∧n1+(rstS o).length=o.length∧n2+(rstS v).length=v.length):=⟨HI.out.2,by
  have h:=congrArg List.length (ZcN o)
  rw[List.length_append] at h
  rw[← hn1,ZcK,Zjk]
  exact h,by
  have h:=congrArg List.length (ZcN v)
  rw[List.length_append] at h
  rw[← hn2,ZcK,Zjk]
  exact h⟩
 obtain⟨mr,hmr⟩:∃ r,mtM (chgM (kM o)) (chgM (kM v))=r:=⟨_,rfl⟩
 have hokr:okJ (chgS o) (chgS v)=mr:=(by rw[← hmr,ZcK,ZcK,ZlR])
 have HJ:=HI.out.1
 rw[Zje,hokr] at HJ
 obtain⟨A1,hA1⟩:∃ Z,acc++(chgM (kM o)).map (fun m=>(⟨45,m.tx⟩:Mk))=Z:=⟨_,rfl⟩
 obtain⟨A2,hA2⟩:∃ Z,A1++(chgM (kM v)).map (fun m=>(⟨43,m.tx⟩:Mk))=Z:=⟨_,rfl⟩
 have HA:Hid (acc++(mkS 45 (chgS o)++mkS 43 (chgS v))=A2):=(by
  show _=_
  rw[← hA2,← hA1,Zlu,Zlu,← ZcK,← ZcK,List.append_assoc])
 have HAl:Hid (acc.length≤274877906944∧A1.length=acc.length+n1∧A2.length=acc.length+n1+n2):=(by
  have h1:=congrArg List.length hA1
  have h2:=congrArg List.length hA2
  simp only[List.length_append,List.length_map,hn1,hn2] at h1 h2
  have:=HLen.out.1
  exact⟨by omega,by omega,by omega⟩)
 have cp1:=fun u hu=>ZdW (kM o) ao ac u (ho.keep hu (Nat.le_refl _)) (by have:=HLen.out;rw[Zjk];omega) n1 hn1
 have cp2:=fun u hu=>ZdW (kM v) bo bc u (hv.keep hu (Nat.le_refl _)) (by have:=HLen.out;rw[Zjk];omega) n2 hn2
 have cm:=fun u hu=>ZdA (chgM (kM o)) (chgM (kM v)) (.slice ao n1 ac) (.slice bo n2 bc) u (g1.keep hu (Nat.le_refl _)) (g2.keep hu (Nat.le_refl _)) (by have:=HLen.out;rw[hn1];omega) (by have:=HLen.out;rw[hn2];omega) mr hmr
 generalize mslF ao ac n1=ao2 at d1 s1
 generalize ac-n1=ac2 at d1 s1
 generalize mslF bo bc n2=bo2 at d2 s2
 generalize bc-n2=bc2 at d2 s2
 clear hmr hokr HI
 go_wp2_with fail
 refine (cp1 wr hy.low).mono ?_
 rintro e w1 ⟨rfl,hB1⟩
 have hy1:=hy.keep hB1
 go_wp2_with fail
 refine (cp2 w1 hy1.low).mono ?_
 rintro e w2 ⟨rfl,hB2⟩
 have hy2:=hy1.keep hB2
 go_wp2_with fail
 refine (cm w2 hy2.low).mono ?_
 rintro e w3 ⟨rfl,hB3⟩
 have hy3:=hy2.keep hB3
 clear hy hy1 hy2 hB1 hB2 hB3 cp1 cp2 cm
 cases mr with
 | false =>
  rw[if_neg (by decide)] at HJ
  have HE:Hid (none=Y):=HJ
  clear HJ
  go_wp2
  go_ret2
  exact⟨_,_,rfl,hy3.low,by rw[← HE.out]⟩
 | true =>
  rw[if_pos rfl] at HJ
  have cl1:=fun lv u (hy:Ly w X lv acc u)=>Zdp 45 (chgM (kM o)) acc w X lv (.slice ao n1 ac) u hy g1 (by have:=HLen.out;rw[hn1];omega) (by have:=HAl.out;omega) A1 hA1
  have cl2:=fun lv u (hy:Ly w X lv A1 u)=>Zdp 43 (chgM (kM v)) A1 w X lv (.slice bo n2 bc) u hy g2 (by have:=HLen.out;rw[hn2];omega) (by have:=HAl.out;have:=HLen.out;omega) A2 hA2
  have HJ2:Hid (thenJ acc (match rstS o,rstS v with
   | [],[]=>some (mkS 45 (chgS o)++mkS 43 (chgS v))
   | (_,s)::o2,(_,t)::w2=>if s=t then match jnX o2 w2 with
    | none=>none
    | some l=>some (mkS 45 (chgS o)++(mkS 43 (chgS v)++⟨32,s⟩::l)) else none
   | _,_=>none)=Y):=HJ
  have HF:Hid ((∀ y x2,rstS o=y::x2→y.1=32)∧(∀ y x2,rstS v=y::x2→y.1=32)):=⟨fun y x2 h=>Zqr h,fun y x2 h=>Zqr h⟩
  clear HJ hA1 hA2 g1 g2 hn1 hn2 ho hv
  go_wp2_with fail
  refine (cl1 _ _ hy3).mono ?_
  rintro e w4 ⟨rfl,lv4,hy4⟩
  clear hy3 cl1
  go_wp2_with fail
  refine (cl2 _ _ hy4).mono ?_
  rintro e w5 ⟨rfl,lv5,hy5⟩
  clear hy4 cl2
  go_wp2_with fail
  go_quiet (fail)
  have hyd:Ly w X lv5 A2 (w5.drewN nq):=hy5.keep (below_drewN (Below.refl _ _) nq)
  clear hy5 s1 s2
  generalize w5.drewN nq=w6 at hyd ⊢
  have hYc:=hyd.cell
  generalize rstS o=O at d1 HJ2 HF HLen ⊢
  generalize rstS v=V at d2 HJ2 HF HLen ⊢
  have HR:Hid (ac2+bc2+n1+n2+n1+n2 ≥ 0):=Nat.zero_le _
  cases O with
  | nil =>
   have e0:(kM ([]:Sde)).length=0:=rfl
   rw[e0]
   cases V with
   | nil =>
    rw[e0]
    have HE:Hid (some A2=Y):=(by rw[← HJ2.out];show _=thenJ acc (some _);show _=some (acc++_);rw[HA.out])
    clear HJ2 HF d1 d2
    go_wp2
    go_ret2
    exact⟨_,_,rfl,hyd.low,by rw[← HE.out];exact⟨rfl,hyd.own⟩⟩
   | cons z v3 =>
    have f2:(((0:Nat):Int) == ((kM (z::v3)).length:Int))=false:=(by simp[kM];omega)
    have HE:Hid (none=Y):=HJ2.out
    clear HJ2 HF d1 d2
    generalize (kM (z::v3)).length=L2 at f2 ⊢
    go_wp2
    go_ret2
    exact⟨_,_,rfl,hyd.low,by rw[← HE.out];exact f2⟩
  | cons y o3 =>
   have f1:(((kM (y::o3)).length:Int) == 0)=false:=(by simp[kM];omega)
   cases V with
   | nil =>
    have e0:(kM ([]:Sde)).length=0:=rfl
    rw[e0]
    have HE:Hid (none=Y):=HJ2.out
    clear HJ2 HF d1 d2
    generalize (kM (y::o3)).length=L1 at f1 ⊢
    go_wp2
    go_ret2
    exact⟨_,_,rfl,hyd.low,by rw[← HE.out]⟩
   | cons z v3 =>
    have f2:(((kM (z::v3)).length:Int) == 0)=false:=(by simp[kM];omega)
    obtain⟨yk,ys⟩:=y
    obtain⟨zk,zs⟩:=z
    obtain rfl:yk=32:=HF.out.1 _ _ rfl
    obtain rfl:zk=32:=HF.out.2 _ _ rfl
    obtain⟨L1,hL1⟩:∃ n,(kM ((32,ys)::o3)).length=n:=⟨_,rfl⟩
    obtain⟨L2,hL2⟩:∃ n,(kM ((32,zs)::v3)).length=n:=⟨_,rfl⟩
    have p1:0<L1:=(by rw[← hL1,Zjj];exact Nat.succ_pos _)
    have p2:0<L2:=(by rw[← hL2,Zjj];exact Nat.succ_pos _)
    have k1:=Zlq d1
    have k2:=Zlq d2
    obtain⟨ob,oo,rfl,hob,_⟩:=HMk.at d1 (by rw[hL1];exact p1)
    obtain⟨vb,vo,rfl,hvb,_⟩:=HMk.at d2 (by rw[hL2];exact p2)
    obtain⟨y1,y2⟩:=Low.mk hyd.low d1 0 (by rw[hL1];exact p1) (x:=⟨32,ys⟩) rfl
    obtain⟨z1,z2⟩:=Low.mk hyd.low d2 0 (by rw[hL2];exact p2) (x:=⟨32,zs⟩) rfl
    have s1:=ZqF (some ⟨ob,oo,none⟩) L1 ac2 1 (by omega) (by omega)
    have s2:=ZqF (some ⟨vb,vo,none⟩) L2 bc2 1 (by omega) (by omega)
    have t1:=ZqG (some ⟨ob,oo,none⟩) L1 ac2 1 (by omega) (by omega)
    have r1:=Zlw d1 1 (by omega)
    have r2:=Zlw d2 1 (by omega)
    have ra:=ZlF d1 1 (by omega)
    rw[hL1] at r1 f1
    rw[hL2] at r2 f2
    rw[hL1,hL2]
    have hg1:L1-1=(kM o3).length:=(by rw[← hL1,Zjj];rfl)
    have hg2:L2-1=(kM v3).length:=(by rw[← hL2,Zjj];rfl)
    rw[hg1] at r1 s1
    rw[hg2] at r2 s2
    have hr1:HMk w (.slice (mslF (some ⟨ob,oo,none⟩) ac2 1) (kM o3).length (ac2-1)) (kM o3):=r1
    have hr2:HMk w (.slice (mslF (some ⟨vb,vo,none⟩) bc2 1) (kM v3).length (bc2-1)) (kM v3):=r2
    have hra:HMk w (.slice (some ⟨ob,oo,none⟩) 1 ac2) [⟨32,ys⟩]:=ra
    clear r1 r2 ra d1 d2
    obtain⟨ao4,hao4⟩:∃ x,mslF (some ⟨ob,oo,none⟩) ac2 1=x:=⟨_,rfl⟩
    rw[hao4] at s1 hr1
    have HA4:Hid ((if ac2=1 then some (⟨ob,oo,none⟩:Addr) else some ⟨ob,oo+2,none⟩)=ao4):=(by
     show _=_
     rw[← hao4,mslF]
     split<;>rfl)
    clear hao4
    obtain⟨bo4,hbo4⟩:∃ x,mslF (some ⟨vb,vo,none⟩) bc2 1=x:=⟨_,rfl⟩
    rw[hbo4] at s2 hr2
    have HB:Hid ((if bc2=1 then some (⟨vb,vo,none⟩:Addr) else some ⟨vb,vo+2,none⟩)=bo4):=(by
     show _=_
     rw[← hbo4,mslF]
     split<;>rfl)
    clear hbo4
    rw[Nat.zero_mul,Nat.add_zero] at y1 y2 z1 z2
    obtain⟨r,hr⟩:∃ r,(ys != zs)=r:=⟨_,rfl⟩
    have hne:=Zlz ys zs r hr
    have hg:Tryz.prog.eqGuardType Tryz.prog.depth 103=false:=by kernel_rfl
    clear hmf
    have HLen2:Hid (A2.length+1+o3.length+v3.length≤T):=(by
     have h1:=HLen.out
     have h2:=HAl.out
     simp only[List.length_cons] at h1
     show _≤_
     omega)
    have cl:=fun lv u (hy:Ly w X lv A2 u)=>Zdp 32 [⟨32,ys⟩] A2 w X lv (.slice (some ⟨ob,oo,none⟩) 1 ac2) u hy hra (by simp) (by have:=HLen2.out;omega) (A2++[(⟨32,ys⟩:Mk)]) (by show _=_;rfl)
    have i1:(0:Int)<(L1:Int):=by omega
    have i2:(0:Int)<(L2:Int):=by omega
    go_wp2_with fail
    go_quiet (fail)
    have hye:=hyd.keep (below_drewN (Below.refl _ _) nq)
    clear hyd hYc y1 y2 z1 z2 hne i1 i2 hg f1 f2
    generalize w6.drewN nq=w7 at hye ⊢
    cases r with
    | true =>
     have hne2:ys≠zs:=(by intro e;subst e;simp at hr)
     have HE:Hid (none=Y):=(by
      have h:=HJ2.out
      rw[if_neg hne2] at h
      exact h)
     clear HJ2
     go_wp2
     go_ret2
     exact⟨_,_,rfl,hye.low,by rw[← HE.out]⟩
    | false =>
     have he2:ys=zs:=(by simpa using hr)
     have HE:Hid (thenJ (A2++[⟨32,ys⟩]) (jnX o3 v3)=Y):=(by
      have h:=HJ2.out
      rw[if_pos he2] at h
      show _=_
      rw[← h,← HA.out]
      cases jnX o3 v3 with
      | none=>rfl
      | some l=>simp[thenJ])
     clear HJ2 HF hr
     go_wp2_with fail
     refine (cl _ _ hye).mono ?_
     rintro e w8 ⟨rfl,lv8,hy8⟩
     clear hye cl
     go_wp2_with fail
     go_quiet (fail)
     have hy9:=hy8.keep (below_drewN (Below.refl _ _) nq)
     clear hy8
     go_wp2
     refine⟨⟨o3,v3,lv8,_,ao4,bo4,ac2-1,bc2-1,by first | rfl | rw[HA4.out],by first | rfl | rw[HB.out],hr1,hr2,hy9,⟨HE.out,?_⟩⟩,?_⟩
     ·have h:=HLen2.out
      rw[List.length_append]
      simp only[List.length_singleton]
      omega
     ·have h:=HLen.out.2.1
      simp only[List.length_cons] at h
      simp only[lenW,Zjk]
      omega
end

section
open Go.RowKit
def cntR (a b:Int) (n:Nat):Bool:=decide ((n:Int)=b-a+1) || (decide ((n:Int)=0) && decide (b-a+1=1))
theorem Zco (x a b:Int) (lo:Option Addr) (n c:Nat) (w:World) (ha:0≤a) (hb:b≤2147483647) (hab:a≤b) (_hn:n≤1099511627776) (r:Bool) (HR:Hid (cntR a b n=r)) :
  Calls Tryz.prog 214 #[.agg #[.int .i64 x,.int .i64 a,.int .i64 b,.slice lo n c]] w fun e w'=>e=.returned (.bool r)∧Below w.heap.size w w':=by
 have hBl:Below w.heap.size w (w.alloc (.cells #[.int .i64 x,.int .i64 a,.int .i64 b,.slice lo n c] 208)):=(Below.refl _ w).alloc (Nat.le_refl _) _
 have HR2:=HR.out
 unfold cntR at HR2
 clear HR
 go_enter Tryz.func214,Tryz.ntmps214
 by_cases h1:(n:Int)=b-a+1
 ·have f1:((n:Int) == b-a+1)=true:=beq_iff_eq.2 h1
  rw[decide_eq_true h1,Bool.true_or] at HR2
  subst HR2
  clear h1
  go_wp2
  go_ret
  exact⟨rfl,hBl⟩
 ·have f1:((n:Int) == b-a+1)=false:=beq_eq_false_iff_ne.2 h1
  rw[decide_eq_false h1,Bool.false_or] at HR2
  clear h1
  by_cases h2:(n:Int)=0
  ·have f2:((n:Int) == 0)=true:=beq_iff_eq.2 h2
   rw[decide_eq_true h2,Bool.true_and] at HR2
   have f3:(b-a+1 == 1)=r:=(by rw[← HR2,Bool.eq_iff_iff,beq_iff_eq,decide_eq_true_eq])
   clear h2 HR2
   go_wp2
   go_ret
   exact⟨rfl,hBl⟩
  ·have f2:((n:Int) == 0)=false:=beq_eq_false_iff_ne.2 h2
   rw[decide_eq_false h2,Bool.false_and] at HR2
   subst HR2
   clear h2
   go_wp2
   go_ret
   exact⟨rfl,hBl⟩
def rgX (r0 r1 z0 z1:Bool) (x0 x1:Int):Option (Int × Int) :=
 if r0=false then some (x0,120) else if r1=false then some (x1,120) else if z0=true then some (x0,2) else if z1=true then some (x1,2) else none
def RgQ (w:World) (Y:Option (Int × Int)) (e:Ending) (w':World):Prop:=Below w.heap.size w w'∧match Y with
 | none=>e=.returned (.tuple #[])
 | some (a,z)=>Thr a z e w'
theorem Zck (x0 a0 b0 x1 a1 b1:Int) (l0 l1:Option Addr) (n0 c0 n1 c1:Nat) (w:World) (ha0:0≤a0) (hb0:b0≤2147483647) (hab0:a0≤b0) (hn0:n0≤1099511627776) (ha1:0≤a1) (hb1:b1≤2147483647) (hab1:a1≤b1) (hn1:n1≤1099511627776) (Y:Option (Int × Int))
  (HY:Hid (rgX (cntR a0 b0 n0) (cntR a1 b1 n1) (decide (a0=0) && decide (0<n0)) (decide (a1=0) && decide (0<n1)) x0 x1=Y)) :
  Calls Tryz.prog 154 #[.agg #[.int .i64 x0,.int .i64 a0,.int .i64 b0,.slice l0 n0 c0],.agg #[.int .i64 x1,.int .i64 a1,.int .i64 b1,.slice l1 n1 c1]] w fun e w'=>RgQ w Y e w':=by
 obtain⟨r0,hr0⟩:∃ r,cntR a0 b0 n0=r:=⟨_,rfl⟩
 obtain⟨r1,hr1⟩:∃ r,cntR a1 b1 n1=r:=⟨_,rfl⟩
 obtain⟨z0,hz0⟩:∃ r,(decide (a0=0) && decide (0<n0))=r:=⟨_,rfl⟩
 obtain⟨z1,hz1⟩:∃ r,(decide (a1=0) && decide (0<n1))=r:=⟨_,rfl⟩
 rw[hr0,hr1,hz0,hz1] at HY
 have cc0:=fun u=>Zco x0 a0 b0 l0 n0 c0 u ha0 hb0 hab0 hn0 r0 hr0
 have cc1:=fun u=>Zco x1 a1 b1 l1 n1 c1 u ha1 hb1 hab1 hn1 r1 hr1
 have hB0:Below w.heap.size w (((w.alloc (.cells #[.int .i64 x0,.int .i64 a0,.int .i64 b0,.slice l0 n0 c0] 208)).alloc (.cells #[.int .i64 x1,.int .i64 a1,.int .i64 b1,.slice l1 n1 c1] 208)).alloc (.cells #[.int .i64 x0,.int .i64 a0,.int .i64 b0,.slice l0 n0 c0,.int .i64 x1,.int .i64 a1,.int .i64 b1,.slice l1 n1 c1] 208)):=(((Below.refl _ w).alloc (Nat.le_refl _) _).alloc (by simp) _).alloc (by simp;omega) _
 have hblk:=heap_alloc_new ((w.alloc (.cells #[.int .i64 x0,.int .i64 a0,.int .i64 b0,.slice l0 n0 c0] 208)).alloc (.cells #[.int .i64 x1,.int .i64 a1,.int .i64 b1,.slice l1 n1 c1] 208)) (.cells #[.int .i64 x0,.int .i64 a0,.int .i64 b0,.slice l0 n0 c0,.int .i64 x1,.int .i64 a1,.int .i64 b1,.slice l1 n1 c1] 208)
 have hsz:((w.alloc (.cells #[.int .i64 x0,.int .i64 a0,.int .i64 b0,.slice l0 n0 c0] 208)).alloc (.cells #[.int .i64 x1,.int .i64 a1,.int .i64 b1,.slice l1 n1 c1] 208)).heap.size=w.heap.size+2:=by simp
 rw[hsz] at hblk
 clear hr0 hr1 hsz
 go_enter Tryz.func154,Tryz.ntmps154
 go_wp2
 generalize ((w.alloc (.cells #[.int .i64 x0,.int .i64 a0,.int .i64 b0,.slice l0 n0 c0] 208)).alloc (.cells #[.int .i64 x1,.int .i64 a1,.int .i64 b1,.slice l1 n1 c1] 208)).alloc (.cells #[.int .i64 x0,.int .i64 a0,.int .i64 b0,.slice l0 n0 c0,.int .i64 x1,.int .i64 a1,.int .i64 b1,.slice l1 n1 c1] 208)=w0 at hB0 hblk ⊢
 go_loopw [14] (fun i wr=>∃ k:Nat,i=.int .i64 k∧(k=0∨k=1∧r0=true∨k=2∧r0=true∧r1=true)∧Below w.heap.size w wr∧wr.heap[w.heap.size+2]?=some (.cells #[.int .i64 x0,.int .i64 a0,.int .i64 b0,.slice l0 n0 c0,.int .i64 x1,.int .i64 a1,.int .i64 b1,.slice l1 n1 c1] 208)) (fun i _=>2-(intOf i).toNat)
 case atStart=>exact⟨0,by go_num,.inl rfl,hB0,hblk⟩
 case round =>
 clear hB0 hblk
 obtain⟨k,rfl,hk,hB,hbl⟩:=hrel
 have hAl:∀ O,Below w.heap.size w (wr.alloc O)∧(wr.alloc O).heap[w.heap.size+2]?=some (.cells #[.int .i64 x0,.int .i64 a0,.int .i64 b0,.slice l0 n0 c0,.int .i64 x1,.int .i64 a1,.int .i64 b1,.slice l1 n1 c1] 208):=fun O=>⟨hB.alloc hB.size _,(((Below.refl _ wr).alloc (Nat.le_refl _) O).block _ (Array.getElem?_eq_some_iff.1 hbl).1).trans hbl⟩
 rcases hk with rfl | ⟨rfl,h0⟩ | ⟨rfl,h0,h1⟩
 ·have e0:wr.cell? ⟨w.heap.size+2,0,none⟩=some (.int .i64 x0):=(by rw[Lib.cell_of_heap hbl];rfl)
  have e1:wr.cell? ⟨w.heap.size+2,1,none⟩=some (.int .i64 a0):=(by rw[Lib.cell_of_heap hbl];rfl)
  have e2:wr.cell? ⟨w.heap.size+2,2,none⟩=some (.int .i64 b0):=(by rw[Lib.cell_of_heap hbl];rfl)
  have e3:wr.cell? ⟨w.heap.size+2,3,none⟩=some (.slice l0 n0 c0):=(by rw[Lib.cell_of_heap hbl];rfl)
  obtain⟨hB1,hb1⟩:=hAl (.cells #[.int .i64 x0,.int .i64 a0,.int .i64 b0,.slice l0 n0 c0] 208)
  clear hAl hB hbl
  go_wp2_with fail
  refine (cc0 _).mono ?_
  rintro e w2 ⟨rfl,hC⟩
  have hB2:=hB1.trans (hC.mono hB1.size)
  have hb2:=(hC.block _ (Array.getElem?_eq_some_iff.1 hb1).1).trans hb1
  have e4:w2.cell? ⟨wr.heap.size,0,none⟩=some (.int .i64 x0):=(by rw[World.cell?_of_block (hC.block wr.heap.size (by simp))];simp)
  clear hC hB1 hb1
  cases r0 with
  | false =>
   have HE:Hid (some (x0,120)=Y):=HY
   go_wp2_with fail
   refine (Zen x0 120 w2).mono ?_
   rintro e w3 ⟨⟨g,rfl,hg⟩,hC⟩
   go_wp2
   exact⟨rfl,hB2.trans (hC.mono hB2.size),by rw[← HE.out];exact⟨_,rfl,hg⟩⟩
  | true =>
   go_wp2
   exact⟨⟨1,by go_num,.inr (.inl ⟨rfl,trivial⟩),hB2,hb2⟩,by simp[intOf]⟩
 ·have e0:wr.cell? ⟨w.heap.size+2,4,none⟩=some (.int .i64 x1):=(by rw[Lib.cell_of_heap hbl];rfl)
  have e1:wr.cell? ⟨w.heap.size+2,5,none⟩=some (.int .i64 a1):=(by rw[Lib.cell_of_heap hbl];rfl)
  have e2:wr.cell? ⟨w.heap.size+2,6,none⟩=some (.int .i64 b1):=(by rw[Lib.cell_of_heap hbl];rfl)
  have e3:wr.cell? ⟨w.heap.size+2,7,none⟩=some (.slice l1 n1 c1):=(by rw[Lib.cell_of_heap hbl];rfl)
  obtain⟨hB1,hb1⟩:=hAl (.cells #[.int .i64 x1,.int .i64 a1,.int .i64 b1,.slice l1 n1 c1] 208)
  clear hAl hB hbl
  go_wp2_with fail
  refine (cc1 _).mono ?_
  rintro e w2 ⟨rfl,hC⟩
  have hB2:=hB1.trans (hC.mono hB1.size)
  have hb2:=(hC.block _ (Array.getElem?_eq_some_iff.1 hb1).1).trans hb1
  have e4:w2.cell? ⟨wr.heap.size,0,none⟩=some (.int .i64 x1):=(by rw[World.cell?_of_block (hC.block wr.heap.size (by simp))];simp)
  clear hC hB1 hb1
  cases r1 with
  | false =>
   have HE:Hid (some (x1,120)=Y):=(by have:=HY.out;rw[h0] at this;exact this)
   go_wp2_with fail
   refine (Zen x1 120 w2).mono ?_
   rintro e w3 ⟨⟨g,rfl,hg⟩,hC⟩
   go_wp2
   exact⟨rfl,hB2.trans (hC.mono hB2.size),by rw[← HE.out];exact⟨_,rfl,hg⟩⟩
  | true =>
   go_wp2
   exact⟨⟨2,by go_num,.inr (.inr ⟨rfl,h0,trivial⟩),hB2,hb2⟩,by simp[intOf]⟩
 ·have HY2:Hid ((if z0=true then some (x0,2) else if z1=true then some (x1,2) else none)=Y):=(by have:=HY.out;rw[h0,h1] at this;exact this)
  clear HY h0 h1 hAl cc0 cc1
  go_wp2
  go_loopw [27] (fun i wr=>∃ k:Nat,i=.int .i64 k∧(k=0∨k=1∧z0=false∨k=2∧z0=false∧z1=false)∧Below w.heap.size w wr∧wr.heap[w.heap.size+2]?=some (.cells #[.int .i64 x0,.int .i64 a0,.int .i64 b0,.slice l0 n0 c0,.int .i64 x1,.int .i64 a1,.int .i64 b1,.slice l1 n1 c1] 208)) (fun i _=>2-(intOf i).toNat)
  case atStart=>exact⟨0,by go_num,.inl rfl,hB,hbl⟩
  case round =>
  clear hB hbl
  obtain⟨k,rfl,hk,hB,hbl⟩:=hrel
  have hAl:∀ O,Below w.heap.size w (wr.alloc O)∧(wr.alloc O).heap[w.heap.size+2]?=some (.cells #[.int .i64 x0,.int .i64 a0,.int .i64 b0,.slice l0 n0 c0,.int .i64 x1,.int .i64 a1,.int .i64 b1,.slice l1 n1 c1] 208):=fun O=>⟨hB.alloc hB.size _,(((Below.refl _ wr).alloc (Nat.le_refl _) O).block _ (Array.getElem?_eq_some_iff.1 hbl).1).trans hbl⟩
  rcases hk with rfl | ⟨rfl,h0⟩ | ⟨rfl,h0,h1⟩
  ·have e0:wr.cell? ⟨w.heap.size+2,0,none⟩=some (.int .i64 x0):=(by rw[Lib.cell_of_heap hbl];rfl)
   have e1:wr.cell? ⟨w.heap.size+2,1,none⟩=some (.int .i64 a0):=(by rw[Lib.cell_of_heap hbl];rfl)
   have e2:wr.cell? ⟨w.heap.size+2,2,none⟩=some (.int .i64 b0):=(by rw[Lib.cell_of_heap hbl];rfl)
   have e3:wr.cell? ⟨w.heap.size+2,3,none⟩=some (.slice l0 n0 c0):=(by rw[Lib.cell_of_heap hbl];rfl)
   obtain⟨hB1,hb1⟩:=hAl (.cells #[.int .i64 x0,.int .i64 a0,.int .i64 b0,.slice l0 n0 c0] 208)
   clear hAl hB hbl
   by_cases q1:a0=0
   ·have f1:(a0 == 0)=true:=beq_iff_eq.2 q1
    by_cases q2:0<n0
    ·have H:z0=true:=(by rw[← hz0,decide_eq_true q1,decide_eq_true q2];rfl)
     have f2:decide ((0:Int)<(n0:Int))=true:=decide_eq_true (by omega)
     have f3:(0:Int)<(n0:Int):=by omega
     have HE:Hid (some (x0,2)=Y):=(by have:=HY2.out;rw[H] at this;exact this)
     clear q1 q2 hz0 hz1 H
     go_wp2_with fail
     refine (Zen x0 2 _).mono ?_
     rintro e w3 ⟨⟨g,rfl,hg⟩,hC⟩
     go_wp2
     exact⟨rfl,hB1.trans (hC.mono hB1.size),by rw[← HE.out];exact⟨_,rfl,hg⟩⟩
    ·have H:z0=false:=(by rw[← hz0,decide_eq_true q1,decide_eq_false q2];rfl)
     have f2:decide ((0:Int)<(n0:Int))=false:=decide_eq_false (by omega)
     have f3:¬ (0:Int)<(n0:Int):=by omega
     have HN:Hid (z0=false):=H
     clear q1 q2 hz0 hz1 H
     go_wp2
     have H:=HN.out
     exact⟨⟨1,by go_num,.inr (.inl ⟨rfl,H⟩),hB1,hb1⟩,by simp[intOf]⟩
   ·have f1:(a0 == 0)=false:=beq_eq_false_iff_ne.2 q1
    have HN:Hid (z0=false):=(by show _=_;rw[← hz0,decide_eq_false q1,Bool.false_and])
    clear q1 hz0 hz1
    go_wp2
    have H:=HN.out
    exact⟨⟨1,by go_num,.inr (.inl ⟨rfl,H⟩),hB1,hb1⟩,by simp[intOf]⟩
  ·have e0:wr.cell? ⟨w.heap.size+2,4,none⟩=some (.int .i64 x1):=(by rw[Lib.cell_of_heap hbl];rfl)
   have e1:wr.cell? ⟨w.heap.size+2,5,none⟩=some (.int .i64 a1):=(by rw[Lib.cell_of_heap hbl];rfl)
   have e2:wr.cell? ⟨w.heap.size+2,6,none⟩=some (.int .i64 b1):=(by rw[Lib.cell_of_heap hbl];rfl)
   have e3:wr.cell? ⟨w.heap.size+2,7,none⟩=some (.slice l1 n1 c1):=(by rw[Lib.cell_of_heap hbl];rfl)
   obtain⟨hB1,hb1⟩:=hAl (.cells #[.int .i64 x1,.int .i64 a1,.int .i64 b1,.slice l1 n1 c1] 208)
   clear hAl hB hbl
   by_cases q1:a1=0
   ·have f1:(a1 == 0)=true:=beq_iff_eq.2 q1
    by_cases q2:0<n1
    ·have H:z1=true:=(by rw[← hz1,decide_eq_true q1,decide_eq_true q2];rfl)
     have f2:decide ((0:Int)<(n1:Int))=true:=decide_eq_true (by omega)
     have f3:(0:Int)<(n1:Int):=by omega
     have HE:Hid (some (x1,2)=Y):=(by have:=HY2.out;rw[h0,H] at this;exact this)
     clear q1 q2 hz0 hz1 H
     go_wp2_with fail
     refine (Zen x1 2 _).mono ?_
     rintro e w3 ⟨⟨g,rfl,hg⟩,hC⟩
     go_wp2
     exact⟨rfl,hB1.trans (hC.mono hB1.size),by rw[← HE.out];exact⟨_,rfl,hg⟩⟩
    ·have H:z1=false:=(by rw[← hz1,decide_eq_true q1,decide_eq_false q2];rfl)
     have f2:decide ((0:Int)<(n1:Int))=false:=decide_eq_false (by omega)
     have f3:¬ (0:Int)<(n1:Int):=by omega
     have HN:Hid (z1=false):=H
     clear q1 q2 hz0 hz1 H
     go_wp2
     have H:=HN.out
     exact⟨⟨2,by go_num,.inr (.inr ⟨rfl,h0,H⟩),hB1,hb1⟩,by simp[intOf]⟩
   ·have f1:(a1 == 0)=false:=beq_eq_false_iff_ne.2 q1
    have HN:Hid (z1=false):=(by show _=_;rw[← hz1,decide_eq_false q1,Bool.false_and])
    clear q1 hz0 hz1
    go_wp2
    have H:=HN.out
    exact⟨⟨2,by go_num,.inr (.inr ⟨rfl,h0,H⟩),hB1,hb1⟩,by simp[intOf]⟩
  ·have HE:Hid (none=Y):=(by have:=HY2.out;rw[h0,h1] at this;exact this)
   clear hz0 hz1 hAl
   go_wp2
   first
    | go_end0
    | refine bodyPost_ret (results_none rfl _ _ _) rfl ?_
    | refine bodyPost_end (results_none rfl _ _ _) rfl ?_
   exact⟨hB,by rw[← HE.out]⟩
end

section
open Go.RowKit
def rngC (e:UInt8) (p:Nat) (ls:List (List UInt8)):Except (Nat × Int) ((Int × Int) × List (List UInt8)) :=
 match barP [e,e,e,32] p ls with
 | .error x=>.error x
 | .ok (s,r)=>if Lib.hasSuffix s [32,e,e,e,e]=true then match nmC (s.take (s.length-5)) with
  | none=>.error (p+1,3)
  | some q=>.ok (q,r) else .error (p+1,3)
theorem ZpX (e:UInt8) (p:Nat) (ls:List (List UInt8)):rngP e p ls=match rngC e p ls with
  | .error x=>.error x
  | .ok (q,r)=>.ok (sayC q,r):=by
 unfold rngP rngC barP
 cases nxt p ls with
 | error x=>rfl
 | ok z =>
  obtain⟨s,r⟩:=z
  dsimp only
  rw[ZiP]
  by_cases h1:[e,e,e,32].isPrefixOf s=true
  ·rw[if_pos h1,if_pos h1]
   have e4:([e,e,e,32]:List UInt8).length=4:=rfl
   rw[e4]
   dsimp only
   by_cases h2:Lib.hasSuffix (s.drop 4) [32,e,e,e,e]=true
   ·rw[if_pos h2,if_pos h2]
    dsimp only
    rw[ZpY]
    cases nmC ((s.drop 4).take ((s.drop 4).length-5))<;>rfl
   ·rw[if_neg h2,if_neg h2]
  ·rw[if_neg h1,if_neg h1]
def sidX (e sg:UInt8) (p:Nat) (ls:List (List UInt8)):Except (Nat × Int) ((Int × Int) × List Mk × Nat × List (List UInt8)) :=
 match rngC e p ls with
 | .error x=>.error x
 | .ok (q,r)=>match sdE sg (p+1) r with
  | .error x=>.error x
  | .ok (l,p1,r1)=>.ok (q,l,p1,r1)
theorem Zpp {sg:UInt8} {p:Nat} {L:List (List UInt8)} (h:∀ h:p<L.length,isSd sg L[p]=false):rdC sg p (L.drop p)=.ok ([],p,L.drop p):=by
 by_cases hp:p<L.length
 ·rw[List.drop_eq_getElem_cons hp]
  simp only[rdC]
  rw[if_neg (by rw[h hp];decide)]
 ·rw[List.drop_eq_nil_of_le (by omega)]
  simp only[rdC]
theorem Zpn {sg:UInt8} {p:Nat} {L:List (List UInt8)} (hp:p<L.length) (h:isSd sg L[p]=true) (m:List Mk):thenL m (rdC sg p (L.drop p))=if fdB L[p]=true then thenL (m++[⟨((L[p].headD 0).toNat:Int),L[p].drop 2⟩]) (rdC sg (p+1) (L.drop (p+1))) else .error (p+1,3):=by
 rw[List.drop_eq_getElem_cons hp]
 simp only[rdC]
 rw[if_pos h]
 split
 ·cases rdC sg (p+1) (L.drop (p+1)) with
  | error e=>rfl
  | ok z=>simp[thenL]
 ·rfl
theorem ZmZ {p:Nat} {L:List (List UInt8)} (hp:p<L.length):nxt p (L.drop p)=if fdB L[p]=true then .ok (L[p].dropLast,L.drop (p+1)) else .error (p+1,3):=by
 rw[List.drop_eq_getElem_cons hp]
 rfl
def Fx (m:List Mk):Prop:=∀ x∈m,fdB x.tx=true∧x.tx.length≤1099511627776
theorem Zrl {sg:UInt8} {s:List UInt8} (h:isSd sg s=true) (hf:fdB s=true):∃ a b c t,s=a::b::c::t∧fdB (c::t)=true:=by
 match s,h,hf with
 | [a,b],h,hf =>
  simp only[isSd,Bool.and_eq_true,beq_iff_eq] at h
  obtain⟨_,rfl⟩:=h
  exact absurd hf (by simp[fdB])
 | a::b::c::t,_,hf =>
  refine⟨a,b,c,t,rfl,?_⟩
  simpa [fdB] using hf
structure Sxc (w:World) (R S:Nat) (vL:Value) (x a b:Int) (v:Value) (m:List Mk) (p:Nat) (u:World):Prop where
 gr:w.grownBy u (some R)
 box:u.heap[S]?=some (.cells #[.int .i64 x,.int .i64 a,.int .i64 b,v] 208)
 own:u.ownsRow w.heap.size 103 2 v m.length (mkcells m)
 ck:Ck u R vL (p:Int)
 ge:w.heap.size≤S
 rl:R<w.heap.size
 nil:m=[]→v=.slice none 0 0
section
variable {w u u':World} {R S:Nat} {vL v:Value} {x a b:Int} {m:List Mk} {p:Nat}
theorem Sxc.keep (h:Sxc w R S vL x a b v m p u) (hb:Below u.heap.size u u'):Sxc w R S vL x a b v m p u':=⟨Zhe h.gr (ZkI hb _),(hb.block S (Array.getElem?_eq_some_iff.1 h.box).1).trans h.box,ZnI h.own hb,h.ck.low hb,h.ge,h.rl,h.nil⟩
theorem Sxc.cells (h:Sxc w R S vL x a b v m p u):u.cell? ⟨S,0,none⟩=some (.int .i64 x)∧u.cell? ⟨S,1,none⟩=some (.int .i64 a)∧u.cell? ⟨S,2,none⟩=some (.int .i64 b)∧u.cell? ⟨S,3,none⟩=some v:=by
 refine⟨?_,?_,?_,?_⟩<;>rw[Lib.cell_of_heap h.box]<;>rfl
theorem Sxc.ne (h:Sxc w R S vL x a b v m p u):R≠S:=by have h1:=h.ge;have h2:=h.rl;omega
theorem Sxc.next (h:Sxc w R S vL x a b v m p u):Sxc w R S vL x a b v m (p+1) (u.setCell ⟨R,1,none⟩ (.int .i64 ((p:Int)+1))):=by
 have hg:=Zhd u R 1 (.int .i64 ((p:Int)+1))
 exact⟨Zhe h.gr hg,(hg.block S (Array.getElem?_eq_some_iff.1 h.box).1 (fun e=>h.ne (Option.some.inj e).symm)).trans h.box,ZnG h.own hg h.rl,by have:=h.ck.at ((p:Int)+1);simpa using this,h.ge,h.rl,h.nil⟩
theorem Sxc.more (h:Sxc w R S vL x a b v m p u) {y:Mk} {v':Value} {n:Nat} (hg:u.grownBy u' v.ownBlock) (ho:u'.ownsRow w.heap.size 103 2 v' n (mkcells (m++[y]))) (hn:n=(m++[y]).length):Sxc w R S vL x a b v' (m++[y]) p (u'.setCell ⟨S,3,none⟩ v')∧u'.heap[S]?=some (.cells #[.int .i64 x,.int .i64 a,.int .i64 b,v] 208):=by
 subst hn
 have hb:u'.heap[S]?=some (.cells #[.int .i64 x,.int .i64 a,.int .i64 b,v] 208):=(hg.block S (Array.getElem?_eq_some_iff.1 h.box).1 (fun e=>ZnB h.own h.box (by decide) e.symm)).trans h.box
 have hgR:w.grownBy u' (some R):=⟨hg.os.trans h.gr.os,hg.tape.trans h.gr.tape,hg.output.trans h.gr.output,Nat.le_trans h.gr.size hg.size,fun k h1 h2=>(hg.block k (Nat.lt_of_lt_of_le h1 h.gr.size) (fun e=>by have:=ZnH h.own e.symm;omega)).trans (h.gr.block k h1 h2)⟩
 have hg2:=Zhd u' S 3 v'
 have hck:Ck u' R vL (p:Int):=h.ck.keep hg (fun e=>by have:=ZnH h.own e.symm;have:=h.rl;omega)
 refine⟨⟨⟨hg2.os.trans hgR.os,hg2.tape.trans hgR.tape,hg2.output.trans hgR.output,Nat.le_trans hgR.size hg2.size,fun k h1 h2=>(hg2.block k (Nat.lt_of_lt_of_le h1 hgR.size) (fun e=>by cases e;have:=h.ge;omega)).trans (hgR.block k h1 h2)⟩,heap_setCell_same u' S 3 _ _ v' hb,?_,hck.keep hg2 (fun e=>h.ne (Option.some.inj e)),h.ge,h.rl,fun e=>by simp at e⟩,hb⟩
 refine⟨ho.1,?_⟩
 rcases ho.2 with q | ⟨g,cap,cur,rfl,q2,q3,q4⟩
 ·exact .inl q
 ·refine .inr ⟨g,cap,cur,rfl,q2,?_,q4⟩
  rw[hg2.block g (Array.getElem?_eq_some_iff.1 q3).1 (fun e=>by
   cases e
   rw[hb] at q3
   simp at q3)]
  exact q3
end
def SdX (R:Nat) (vL:Value) (p:Nat) (X:Except (Nat × Int) ((Int × Int) × List Mk × Nat × List (List UInt8))) (w:World) (e:Ending) (w':World):Prop :=
 match X with
 | .error (a,z)=>Thr (a:Int) z e w'∧w.grownBy w' (some R)
 | .ok (q,l,p1,_)=>∃ v',e=.returned (.agg #[.int .i64 ((p:Int)+1),.int .i64 q.1,.int .i64 q.2,v'])∧w'.ownsRow w.heap.size 103 2 v' l.length (mkcells l)∧(l=[]→v'=.slice none 0 0)∧Ck w' R vL (p1:Int)∧w.grownBy w' (some R)
end

section
open Go.RowKit
attribute [local go_sem] ByteArray.extract_mk ZvA
def zsO:Obj:=.cells #[.int .i64 0,.int .i64 0,.int .i64 0,.slice none 0 0] 208
def ckN (u:World) (R:Nat):Nat:=match u.cell? ⟨R,1,none⟩ with
 | some v=>(intOf v).toNat
 | none=>0
theorem Zdf {u:World} {R:Nat} {vL:Value} {p:Nat} (h:Ck u R vL (p:Int)):ckN u R=p:=by
 unfold ckN
 rw[h.cells.2]
 simp[intOf]
theorem ZgZ {w u:World} {R:Nat} (O:Obj) (h:(w.alloc O).grownBy u (some R)):w.grownBy u (some R):=Zhe (World.grownBy_alloc w O _) h
theorem ZrG {e sg:UInt8} {p:Nat} {ls:List (List UInt8)} {x:Nat × Int} (h:rngC e p ls=.error x):sidX e sg p ls=.error x:=by
 unfold sidX
 rw[h]
theorem ZrI {e sg:UInt8} {p:Nat} {ls r:List (List UInt8)} {q:Int × Int} (h:rngC e p ls=.ok (q,r)):sidX e sg p ls=match rdC sg (p+1) r with
  | .error x=>.error x
  | .ok (l,p1,r1)=>if (!l.isEmpty && endK l r1)=true then .ok (q,cutL l,p1+1,r1.tail) else .ok (q,l,p1,r1):=by
 unfold sidX
 rw[h]
 dsimp only
 unfold sdE
 cases rdC sg (p+1) r with
 | error x=>rfl
 | ok z =>
  obtain⟨l,p1,r1⟩:=z
  dsimp only
  by_cases hb:(!l.isEmpty && endK l r1)=true
  ·rw[if_pos hb,if_pos hb]
  ·rw[if_neg hb,if_neg hb]
def four (u:World) (Q:Nat) (x a b:Int) (v:Value):World:=(((u.setCell ⟨Q,0,none⟩ (.int .i64 x)).setCell ⟨Q,1,none⟩ (.int .i64 a)).setCell ⟨Q,2,none⟩ (.int .i64 b)).setCell ⟨Q,3,none⟩ v
theorem ZgC {w wa u:World} {R S:Nat} {vL v:Value} {x a b:Int} {m:List Mk} {p:Nat} (h:Sxc wa R S vL x a b v m p u) (hG:∀ u,wa.grownBy u (some R)→w.grownBy u (some R)) (hZ:wa.heap[w.heap.size]?=some zsO∧w.heap.size<wa.heap.size∧w.heap.size≠R) :
  (four u w.heap.size x a b v).heap[w.heap.size]?=some (.cells #[.int .i64 x,.int .i64 a,.int .i64 b,v] 208)∧(four u w.heap.size x a b v).ownsRow w.heap.size 103 2 v m.length (mkcells m)∧Ck (four u w.heap.size x a b v) R vL (p:Int)∧w.grownBy (four u w.heap.size x a b v) (some R):=by
 obtain⟨h1,h2,h3⟩:=hZ
 have hb:u.heap[w.heap.size]?=some zsO:=(h.gr.block _ h2 (fun e=>h3 (Option.some.inj e))).trans h1
 have hg:u.grownBy (four u w.heap.size x a b v) (some w.heap.size):=Zhe (Zhe (Zhe (Zhd u _ 0 _) (Zhd _ _ 1 _)) (Zhd _ _ 2 _)) (Zhd _ _ 3 _)
 refine⟨?_,Znz (ZnG h.own hg h2) (by omega),h.ck.keep hg (fun e=>h3 (Option.some.inj e).symm),?_⟩
 ·have s0:=heap_setCell_same u w.heap.size 0 _ _ (.int .i64 x) hb
  have s1:=heap_setCell_same _ w.heap.size 1 _ _ (.int .i64 a) s0
  have s2:=heap_setCell_same _ w.heap.size 2 _ _ (.int .i64 b) s1
  exact heap_setCell_same _ w.heap.size 3 _ _ v s2
 ·exact Zhc (Zhc (Zhc (Zhc (hG _ h.gr) (Nat.le_refl _) 0 _) (Nat.le_refl _) 1 _) (Nat.le_refl _) 2 _) (Nat.le_refl _) 3 _
theorem ZgB {w wa u:World} {R S:Nat} {vL v:Value} {x a b:Int} {m:List Mk} {p:Nat} (h:Sxc wa R S vL x a b v m p u) (hZ:wa.heap[w.heap.size]?=some zsO∧w.heap.size<wa.heap.size∧w.heap.size≠R) (Q:Nat) (hQ:w.heap.size=Q) :
  u.cell? ⟨Q,0,none⟩=some (.int .i64 0)∧u.cell? ⟨Q,1,none⟩=some (.int .i64 0)∧u.cell? ⟨Q,2,none⟩=some (.int .i64 0)∧u.cell? ⟨Q,3,none⟩=some (.slice none 0 0)∧∀ j,u.frozen? ⟨Q,j,none⟩=false:=by
 obtain⟨h1,h2,h3⟩:=hZ
 have hb:u.heap[w.heap.size]?=some (.cells #[.int .i64 0,.int .i64 0,.int .i64 0,.slice none 0 0] 208):=(h.gr.block _ h2 (fun e=>h3 (Option.some.inj e))).trans h1
 rw[hQ] at hb
 refine⟨?_,?_,?_,?_,fun j=>Lib.frozen_of_heap hb j⟩<;>rw[Lib.cell_of_heap hb]<;>rfl
theorem Sxc.cut {w u:World} {R S:Nat} {vL v:Value} {x a b:Int} {m m':List Mk} {p:Nat} (h:Sxc w R S vL x a b v m p u) {g j:Nat} {z:Value} (hv:v.ownBlock=some g) (ho:(u.setCell ⟨g,j,none⟩ z).ownsRow w.heap.size 103 2 v m'.length (mkcells m')) (hn:m'≠[]):Sxc w R S vL x a b v m' p (u.setCell ⟨g,j,none⟩ z):=by
 have hg:=Zhd u g j z
 have hge:=ZnH h.own hv
 have hSg:some S≠some g:=fun e=>ZnB h.own h.box (by decide) (hv.trans e.symm)
 refine⟨Zhc h.gr hge j z,(hg.block S (Array.getElem?_eq_some_iff.1 h.box).1 hSg).trans h.box,ho,h.ck.keep hg (fun e=>by cases e;have:=h.rl;omega),h.ge,h.rl,fun e=>absurd e hn⟩
theorem Zfq {m:List Mk} (h:m≠[]):∃ m1 y,m=m1++[y]:=⟨m.dropLast,m.getLast h,(List.dropLast_concat_getLast h).symm⟩
theorem Zee {R:Nat} {L:List (List UInt8)} {lo:Option Addr} {lc:Nat} {p:Nat} (e sg:UInt8) (w:World) (q:Ck w R (.slice lo L.length lc) p) (HL:Hid (∀ u,w.grownBy u (some R)→HS u (.slice lo L.length lc) L)) (HPl:Hid (Plain L)) (hp:p≤L.length) (hLl:L.length≤1099511627776) (HSl:Hid (∀ s∈L,s.length≤1099511627776))
  (X:Except (Nat × Int) ((Int × Int) × List Mk × Nat × List (List UInt8))) (HX:Hid (sidX e sg p (L.drop p)=X)) :
  Calls Tryz.prog 151 #[.pointer (some ⟨R,0,none⟩),.string ⟨#[e,e,e,32]⟩,.string ⟨#[32,e,e,e,e]⟩,.int .u8 (sg.toNat:Int)] w fun x w'=>SdX R (.slice lo L.length lc) p X w x w':=by
 have q1:Ck (w.alloc zsO) R (.slice lo L.length lc) p:=q.low ((Below.refl _ w).alloc (Nat.le_refl _) _)
 have hL1:=HL.out _ (World.grownBy_alloc w zsO (some R))
 have HG:Hid (∀ u,(w.alloc zsO).grownBy u (some R)→w.grownBy u (some R)):=fun u hu=>ZgZ zsO hu
 have hRl:=q.lt
 obtain⟨Y,hY⟩:∃ Y,barP [e,e,e,32] p (L.drop p)=Y:=⟨_,rfl⟩
 have hb:=Zci [e,e,e,32] (w.alloc zsO) q1 hL1 hp (by omega) HSl.out Y hY
 have hW:w.alloc (.cells #[.int .i64 0,.int .i64 0,.int .i64 0,.slice none 0 0] 208)=w.alloc zsO:=rfl
 cases Y with
 | error z =>
  obtain⟨a,z⟩:=z
  have hXe:X=.error (a,z):=(by
   rw[← HX.out]
   apply ZrG
   unfold rngC
   rw[hY])
  subst hXe
  clear HX hY
  go_enter Tryz.func151,Tryz.ntmps151
  go_wp2_with fail
  refine hb.mono ?_
  rintro x w1 ⟨⟨g,rfl,hg⟩,hgr⟩
  go_wp2
  exact⟨rfl,⟨_,rfl,hg⟩,HG.out _ hgr⟩
 | ok z =>
  obtain⟨s,r⟩:=z
  have hb2:Calls Tryz.prog 147 #[.pointer (some ⟨R,0,none⟩),.string ⟨#[e,e,e,32]⟩] (w.alloc zsO) fun x w'=>x=.returned (.string ⟨s.toArray⟩)∧∃ n,w'=(w.alloc zsO).drewN n:=hb
  have HBar:=hY
  unfold barP at hY
  cases hn:nxt p (L.drop p) with
  | error z2=>rw[hn] at hY;cases hY
  | ok z2 =>
  obtain⟨s0,r0⟩:=z2
  rw[hn] at hY
  dsimp only at hY
  split at hY
  ·obtain⟨hr,hpl,_,hLp⟩:=Znf hn
   have hsl:=HSl.out L[p] (List.getElem_mem hpl)
   rw[hLp,List.length_append] at hsl
   have hs0:s.length≤s0.length:=(by injection hY with h;injection h with h1 h2;rw[← h1,List.length_drop];omega)
   have hrr:r=L.drop (p+1):=(by injection hY with h;injection h with h1 h2;rw[← h2,hr])
   have hsl2:s.length≤1099511627776:=(by omega)
   subst hrr
   have HXR:Hid (∀ z,rngC e p (L.drop p)=.error z→X=.error z):=fun z hz=>HX.out.symm.trans (ZrG hz)
   have HXK:Hid (∀ q,rngC e p (L.drop p)=.ok (q,L.drop (p+1))→X=match rdC sg (p+1) (L.drop (p+1)) with
    | .error x=>.error x
    | .ok (l,p1,r1)=>if (!l.isEmpty && endK l r1)=true then .ok (q,cutL l,p1+1,r1.tail) else .ok (q,l,p1,r1)):=fun z hz=>HX.out.symm.trans (ZrI hz)
   have hRng:rngC e p (L.drop p)=if Lib.hasSuffix s [32,e,e,e,e]=true then match nmC (s.take (s.length-5)) with
    | none=>.error (p+1,3)
    | some q=>.ok (q,L.drop (p+1)) else .error (p+1,3):=(by unfold rngC;first | (rw[HBar];done) | (rw[HBar];rfl))
   clear HX hY hn hb hs0 hsl hLp hr HBar
   have hc:=fun u=>Tryz.strings_CutSuffix ⟨s.toArray⟩ ⟨#[32,e,e,e,e]⟩ u (by show s.length≤_;omega)
   have hcs:Lib.hasSuffix (⟨s.toArray⟩:ByteArray).data.toList (⟨#[32,e,e,e,e]⟩:ByteArray).data.toList=Lib.hasSuffix s [32,e,e,e,e]:=rfl
   have hct:Lib.trimSuffix (⟨s.toArray⟩:ByteArray).data.toList (⟨#[32,e,e,e,e]⟩:ByteArray).data.toList=Lib.trimSuffix s [32,e,e,e,e]:=rfl
   rw[hcs,hct] at hc
   go_enter Tryz.func151,Tryz.ntmps151
   go_wp2_with fail
   refine hb2.mono ?_
   rintro x w1 ⟨rfl,nn,rfl⟩
   have q2:=q1.dN nn
   have g2:=Zha (ZkI (Below.refl (w.alloc zsO).heap.size (w.alloc zsO)) (some R)) nn
   clear hb2 q1 hL1
   have hRl1:R<(w.alloc zsO).heap.size:=(by simp;omega)
   have HZ:Hid ((w.alloc zsO).heap[w.heap.size]?=some zsO∧w.heap.size<(w.alloc zsO).heap.size∧w.heap.size≠R):=⟨heap_alloc_new w _,by simp,by omega⟩
   clear hW
   generalize (w.alloc zsO).drewN nn=W0 at q2 g2 ⊢
   generalize w.alloc zsO=wa at g2 HG HZ hRl1
   by_cases hsuf:Lib.hasSuffix s [32,e,e,e,e]=true
   ·rw[if_pos hsuf] at hRng
    have htr:Lib.trimSuffix s [32,e,e,e,e]=s.take (s.length-5):=(by unfold Lib.trimSuffix;rw[if_pos hsuf];rfl)
    rw[htr,hsuf] at hc
    have hDl:(s.take (s.length-5)).length≤1099511627776:=(by rw[List.length_take];omega)
    generalize s.take (s.length-5)=D at hc hDl hRng
    clear htr
    go_wp2_with fail
    refine (hc _).mono ?_
    rintro x w2 ⟨rfl,rfl⟩
    go_wp2_with fail
    refine (ZdO D _ hDl).mono ?_
    rintro x w3 ⟨a,b,rr,rfl,hnm,hB3⟩
    have q3:=q2.low hB3
    have g3:=Zhe g2 (ZkI hB3 (some R))
    clear q2 g2 hB3 hc
    rw[hnm] at hRng
    cases rr with
    | false =>
     have hXe:=HXR.out _ hRng
     subst hXe
     clear hRng HXR HXK hnm
     go_wp2_with fail
     refine (ZdY 3 _ q3 (by omega)).mono ?_
     rintro x w4 ⟨⟨g,rfl,hg⟩,hgr⟩
     go_wp2
     exact⟨rfl,⟨_,rfl,by simpa using hg⟩,HG.out _ (Zhe g3 hgr)⟩
    | true =>
     have hXk:=HXK.out _ hRng
     have hok:=Zmz hnm
     clear hRng HXR HXK hnm
     obtain⟨c0,c1⟩:=q3.cells
     have f1:=q3.frozen 1
     have q4:=q3.at ((p:Int)+1)
     have g4:=Zhe g3 (Zhd w3 R 1 (.int .i64 ((p:Int)+1)))
     have hS0:Sxc wa R w3.heap.size (.slice lo L.length lc) ((p:Int)+1) a b (.slice none 0 0) [] (p+1) ((w3.setCell ⟨R,1,none⟩ (.int .i64 ((p:Int)+1))).alloc (.cells #[.int .i64 ((p:Int)+1),.int .i64 a,.int .i64 b,.slice none 0 0] 208)):=(by
      have hsz:(w3.setCell ⟨R,1,none⟩ (.int .i64 ((p:Int)+1))).heap.size=w3.heap.size:=by simp
      refine⟨Zhe g4 (World.grownBy_alloc _ _ _),?_,Zii _ _ _ _,?_,?_,hRl1,fun _=>rfl⟩
      ·rw[← hsz];exact heap_alloc_new _ _
      ·have:=q4.low ((Below.refl _ _).alloc (Nat.le_refl _) (.cells #[.int .i64 ((p:Int)+1),.int .i64 a,.int .i64 b,.slice none 0 0] 208))
       simpa using this
      ·exact g3.size)
     clear q3 g3 q4 g4
     obtain⟨Y,hY⟩:∃ Y,rdC sg (p+1) (L.drop (p+1))=Y:=⟨_,rfl⟩
     rw[hY] at hXk
     have HXe:Hid (∀ z,Y=.error z→X=.error z):=(by intro z hz;rw[hXk,hz])
     have HXo:Hid (∀ l p1 r1,Y=.ok (l,p1,r1)→X=if (!l.isEmpty && endK l r1)=true then .ok ((a,b),cutL l,p1+1,r1.tail) else .ok ((a,b),l,p1,r1)):=(by intro l p1 r1 hz;rw[hXk,hz])
     have HY0:Hid (thenL [] (rdC sg (p+1) (L.drop (p+1)))=Y):=(by show _=_;rw[ZsG,hY])
     clear hXk hY
     go_wp2
     generalize ((w3.setCell ⟨R,1,none⟩ (.int .i64 ((p:Int)+1))).alloc (.cells #[.int .i64 ((p:Int)+1),.int .i64 a,.int .i64 b,.slice none 0 0] 208))=w5 at hS0 ⊢
     generalize w3.heap.size=S at hS0 ⊢
     clear c0 c1 f1 q
     go_loopw [15] (fun _ wr=>∃ (m:List Mk) (p':Nat) (v:Value),Sxc wa R S (.slice lo L.length lc) ((p:Int)+1) a b v m p' wr∧p'≤L.length∧Hid (m.length≤p'∧Fx m)∧Hid (thenL m (rdC sg p' (L.drop p'))=Y)) (fun _ u=>L.length-ckN u R)
     case atStart=>exact⟨[],p+1,_,hS0,by omega,⟨Nat.zero_le _,fun x hx=>by cases hx⟩,HY0⟩
     case round =>
     clear hS0 HY0
     obtain⟨m,p',v,hS,hp',HM,HI⟩:=hrel
     have hLr:=HL.out wr (HG.out _ hS.gr)
     have hml:=HM.out.1
     have HK:Hid (ckN wr R=p'):=Zdf hS.ck
     obtain⟨vo,vc,rfl⟩:=(holds_of hS.own).form
     obtain⟨c0,c1⟩:=hS.ck.cells
     by_cases hlt:p'<L.length
     ·obtain⟨bk,off,rfl,hbk,hcl⟩:=HS.at hLr (by omega)
      have d4:=hcl p' hlt
      clear hcl
      have hd:decide ((p':Int)<(L.length:Int))=true:=decide_eq_true (by omega)
      have i1:(0:Int)≤(p':Int):=by omega
      have i2:(p':Int)<(L.length:Int):=by omega
      have i3:(p':Int).toNat=p':=by omega
      have hsl:=HSl.out L[p'] (List.getElem_mem hlt)
      obtain⟨rs,hrs⟩:∃ r,isSd sg L[p']=r:=⟨_,rfl⟩
      have his:=fun u=>Zde L[p'] sg u hsl rs hrs
      cases rs with
      | true =>
       have hgo:=Zpn hlt hrs m
       rw[HI.out] at hgo
       have hnx:=ZmZ hlt
       obtain⟨s1,hs1⟩:∃ s,L[p']=s:=⟨_,rfl⟩
       rw[hs1] at d4 hsl his hrs hgo hnx
       go_wp2_with fail
       go_quiet ((go_at_call 207;exact Calls.quiet_of_same (his _)))
       have hSq:=hS.keep (below_drewN (Below.refl _ _) nq)
       have hLq:=HL.out _ (HG.out _ hSq.gr)
       clear hS hLr c0 c1 his
       generalize wr.drewN nq=w6 at hSq hLq ⊢
       by_cases hfd:fdB s1=true
       ·rw[if_pos hfd] at hgo hnx
        have hln:=Zec w6 hSq.ck hLq hp' (by omega) HSl.out _ hnx
        obtain⟨a0,b0,c0,t,rfl,hfd2⟩:=Zrl hrs hfd
        have hln2:Calls Tryz.prog 203 #[.pointer (some ⟨R,0,none⟩)] w6 fun x w'=>x=.returned (.string ⟨(a0::b0::c0::t).toArray⟩)∧∃ n,w'=w6.drewN n:=(by
         refine hln.mono ?_
         rintro x w' ⟨h1,h2⟩
         rw[Zfj hfd] at h1
         exact⟨h1,h2⟩)
        have HI2:Hid (thenL (m++[⟨(a0.toNat:Int),c0::t⟩]) (rdC sg (p'+1) (L.drop (p'+1)))=Y):=hgo.symm
        have HM2:Hid ((m++[(⟨(a0.toNat:Int),c0::t⟩:Mk)]).length≤p'+1∧Fx (m++[⟨(a0.toNat:Int),c0::t⟩])):=⟨by rw[List.length_append];simp;omega,by
         intro x hx
         rcases List.mem_append.1 hx with hx | hx
         ·exact HM.out.2 x hx
         ·rw[List.mem_singleton.1 hx]
          refine⟨hfd2,?_⟩
          simp only[List.length_cons] at hsl ⊢
          omega⟩
        clear hln hnx hgo HXe HXo HI HM hfd hfd2 hLq hrs hs1 d4
        go_wp2_with fail
        refine hln2.mono ?_
        rintro x w7 ⟨rfl,nn,rfl⟩
        have hS7:=hSq.keep (below_drewN (Below.refl _ _) nn)
        clear hSq hln2
        generalize w6.drewN nn=w7 at hS7 ⊢
        have hS8:=hS7.keep ((Below.refl _ w7).alloc (Nat.le_refl _) (.cells #[.int .u8 (a0.toNat:Int),.string ⟨(c0::t).toArray⟩] 103))
        have hS9:=hS8.keep (Below.drew (Below.refl _ _))
        obtain⟨_,_,_,k3⟩:=hS7.cells
        obtain⟨_,_,_,k3a⟩:=hS8.cells
        obtain⟨_,_,_,k3b⟩:=hS9.cells
        have hrow0:=ZlD w7 ⟨(a0.toNat:Int),c0::t⟩
        have hrow:Holds ((w7.alloc (.cells #[.int .u8 (a0.toNat:Int),.string ⟨(c0::t).toArray⟩] 103)).drew) (.slice (some ⟨w7.heap.size,0,none⟩) 1 1) 1 (mkcells [⟨(a0.toNat:Int),c0::t⟩]):=hrow0
        have hown:=hS9.own
        have hbase:=hS9.gr.size
        have hxb:m.length+1≤4398046511104:=by omega
        clear hrow0
        have j1:(0:Int)<(t.length:Int)+1+1+1:=by omega
        have j2:(2:Int)≤(t.length:Int)+1+1+1:=by omega
        have j3:(t.length:Int).toNat=t.length:=by omega
        go_wp2_with fail
        go_region_law (refine Zsp _ rfl (.tmp 79) (.tmp 85) 57 103 (.agg #[.int .u8 0,.string ⟨#[]⟩]) 2 24 rfl Tryz.underlying57 infoMk rfl (by decide) (by decide) wa.heap.size _ _ _ rfl hown _ 1 (mkcells [⟨(a0.toNat:Int),c0::t⟩]) rfl hrow (ZlK _) (ZlL _) hxb hbase ?_;intro v8 u8 hown8 hg8;rw[← ZlH] at hown8;obtain⟨hS10,hbx⟩:=hS9.more hg8 hown8 (by rw[List.length_append];rfl);have kc:u8.cell? ⟨S,3,none⟩=some (.slice vo m.length vc):=(by rw[Lib.cell_of_heap hbx];rfl);have kf:u8.frozen? ⟨S,3,none⟩=false:=Lib.frozen_of_heap hbx 3;obtain⟨o8,c8,rfl⟩:=(holds_of hown8).form;obtain⟨d0,d1⟩:=hS10.ck.cells;have f1:=hS10.ck.frozen 1)
        all_goals (
         have hS11:=hS10.next
         first
         | exact⟨⟨_,p'+1,_,hS11,by omega,HM2,HI2⟩,by rw[Zdf hS11.ck,HK.out];omega⟩
         | (go_wp2;exact⟨⟨_,p'+1,_,hS11,by omega,HM2,HI2⟩,by rw[Zdf hS11.ck,HK.out];omega⟩))
       ·rw[if_neg hfd] at hgo hnx
        have hXe:=HXe.out _ hgo
        subst hXe
        have hln:=Zec w6 hSq.ck hLq hp' (by omega) HSl.out _ hnx
        clear hgo hnx HXe HXo HI
        go_wp2_with fail
        refine hln.mono ?_
        rintro x w7 ⟨⟨g,rfl,hg⟩,hgr⟩
        go_wp2
        exact⟨rfl,⟨_,rfl,by simpa using hg⟩,HG.out _ (Zhe hSq.gr hgr)⟩
      | false =>
       have hYv:Y=.ok (m,p',L.drop p'):=(by
        rw[← HI.out,Zpp (fun _=>hrs)]
        simp[thenL])
       have hXv:=HXo.out m p' (L.drop p') hYv
       clear HXe HXo HI hYv
       go_wp2_with fail
       go_quiet ((go_at_call 207;exact Calls.quiet_of_same (his _)))
       have hSq:=hS.keep (below_drewN (Below.refl _ _) nq)
       have hLq:=HL.out _ (HG.out _ hSq.gr)
       clear hS hLr c0 c1
       generalize wr.drewN nq=w6 at hSq hLq ⊢
       by_cases hm0:m=[]
       ·subst hm0
        have hv0:=hSq.nil rfl
        injection hv0 with e1 e2 e3
        subst e1 e3
        have hXv2:X=.ok ((a,b),[],p',L.drop p'):=hXv
        subst hXv2
        clear hXv
        obtain⟨k0,k1,k2,k3⟩:=hSq.cells
        obtain⟨q0,q1,q2,q3,qf⟩:=ZgB hSq HZ.out _ rfl
        obtain⟨fh,fo,fq,fg⟩:=ZgC hSq HG.out HZ.out
        have qf0:=qf 0
        have qf1:=qf 1
        have qf2:=qf 2
        have qf3:=qf 3
        clear hSq qf
        go_wp2
        refine bodyPost_ret (v:=.agg #[.int .i64 ((p:Int)+1),.int .i64 a,.int .i64 b,.slice none 0 0]) (results_cell_row rfl _ _ w.heap.size 208 #[.int .i64 ((p:Int)+1),.int .i64 a,.int .i64 b,.slice none 0 0] (0,0) _ rfl fh Tryz.underlying208 rfl (by kernel_rfl)) rfl ⟨_,rfl,fo,fun _=>rfl,fq,fg⟩
       ·obtain⟨m1,y,rfl⟩:=Zfq hm0
        have hne:(!(m1++[y]).isEmpty)=true:=(by cases m1<;>rfl)
        have hfd:=HM.out.2 y (by simp)
        rw[hne,Bool.true_and] at hXv
        unfold endK at hXv
        rw[ZjL,Zes] at hXv
        obtain⟨N1,hN1⟩:∃ N1,m1.length=N1:=⟨_,rfl⟩
        have hlen:(m1++[y]).length=N1+1:=(by rw[List.length_append,hN1];rfl)
        have hown:=hSq.own
        have hown':=hown
        rw[List.length_append] at hown'
        obtain⟨g,cap,hvv,hBg,hgs,d1,df,hset⟩:=ZnJ hown'
        rw[hN1] at d1 df hset
        injection hvv with hv1 hv2 hv3
        subst hv1 hv3
        have hgR:R≠g:=(by omega)
        clear hown' hv2 HM
        have hml2:N1+1≤p':=(by rw[hlen] at hml;exact hml)
        have j0:(0:Int)<((N1+1:Nat):Int):=by omega
        have j1:(0:Int)≤(N1:Int):=by omega
        have j2:(N1:Int)<(N1:Int)+1:=by omega
        have j3:(N1:Int)+1-1=(N1:Int):=by omega
        obtain⟨k0,k1,k2,k3⟩:=hSq.cells
        rw[hlen] at k3
        have HNm:Hid (∀ x:Mk,(m1++[x]).length=N1+1):=(by intro x;rw[← hN1];simp)
        cases hb:(y.tx != [10] && pkM (L.drop p')) with
        | false =>
         rw[hb,if_neg (by decide)] at hXv
         subst hXv
         have he:=ZdZ (g:=g) (o:=N1 * 2) w6 hSq.ck hLq HPl.out hp' (by omega) y.tx d1 hb
         clear hb hset df hfd hown
         go_wp2_with fail
         refine he.mono ?_
         rintro x w7 ⟨rfl,nn,rfl⟩
         have hSr:=hSq.keep (below_drewN (Below.refl _ _) nn)
         clear he hSq k0 k1 k2 k3 d1
         generalize w6.drewN nn=w7 at hSr ⊢
         obtain⟨k0,k1,k2,k3⟩:=hSr.cells
         rw[hlen] at k3
         obtain⟨q0,q1,q2,q3,qf⟩:=ZgB hSr HZ.out _ rfl
         obtain⟨fh,fo,fq,fg⟩:=ZgC hSr HG.out HZ.out
         rw[hlen] at fh fo fq fg
         have qf0:=qf 0
         have qf1:=qf 1
         have qf2:=qf 2
         have qf3:=qf 3
         clear hSr qf
         go_wp2
         refine bodyPost_ret (v:=.agg #[.int .i64 ((p:Int)+1),.int .i64 a,.int .i64 b,.slice (some ⟨g,0,none⟩) (N1+1) vc]) (results_cell_row rfl _ _ w.heap.size 208 #[.int .i64 ((p:Int)+1),.int .i64 a,.int .i64 b,.slice (some ⟨g,0,none⟩) (N1+1) vc] (0,0) _ rfl fh Tryz.underlying208 rfl (by kernel_rfl)) rfl ⟨_,rfl,by rw[HNm.out];exact fo,fun e=>by simp at e,fq,fg⟩
        | true =>
         rw[hb,if_pos rfl] at hXv
         subst hXv
         have HTt:Hid (y.tx=y.tx.dropLast++[10]):=ZfQ hfd.1
         have he:=Zea (g:=g) (o:=N1 * 2) w6 hSq.ck hLq HPl.out (by omega) hgR y.tx y.tx.dropLast HTt hfd.2 d1 df hb
         have hs2:=fun nn=>hset (w6.drewN nn) y.tx.dropLast rfl
         clear hb hset df hfd hown
         go_wp2_with fail
         refine he.mono ?_
         rintro x w7 ⟨rfl,nn,rfl⟩
         have hSr0:=hSq.keep (below_drewN (Below.refl _ _) nn)
         have hSr1:=hSr0.cut (g:=g) (j:=N1 * 2+1) (z:=.string ⟨y.tx.dropLast.toArray⟩) (m':=m1++[⟨y.sg,y.tx.dropLast⟩]) rfl (by rw[HNm.out ⟨y.sg,y.tx.dropLast⟩];rw[hlen];exact hs2 nn) (by simp)
         have hSr:=hSr1.next
         clear he hSq k0 k1 k2 k3 d1 hSr0 hSr1 hs2
         generalize ((w6.drewN nn).setCell ⟨g,N1 * 2+1,none⟩ (.string ⟨y.tx.dropLast.toArray⟩)).setCell ⟨R,1,none⟩ (.int .i64 ((p':Int)+1))=w7 at hSr ⊢
         obtain⟨k0,k1,k2,k3⟩:=hSr.cells
         rw[hlen] at k3
         obtain⟨q0,q1,q2,q3,qf⟩:=ZgB hSr HZ.out _ rfl
         obtain⟨fh,fo,fq,fg⟩:=ZgC hSr HG.out HZ.out
         rw[hlen] at fh fo fq fg
         have qf0:=qf 0
         have qf1:=qf 1
         have qf2:=qf 2
         have qf3:=qf 3
         clear hSr qf
         go_wp2
         refine bodyPost_ret (v:=.agg #[.int .i64 ((p:Int)+1),.int .i64 a,.int .i64 b,.slice (some ⟨g,0,none⟩) (N1+1) vc]) (results_cell_row rfl _ _ w.heap.size 208 #[.int .i64 ((p:Int)+1),.int .i64 a,.int .i64 b,.slice (some ⟨g,0,none⟩) (N1+1) vc] (0,0) _ rfl fh Tryz.underlying208 rfl (by kernel_rfl)) rfl ⟨_,rfl,by rw[HNm.out ⟨y.sg,y.tx.dropLast⟩] at fo ⊢;exact fo,fun e=>by simp at e,fq,fg⟩
     ·have hd:decide ((p':Int)<(L.length:Int))=false:=decide_eq_false (by omega)
      have hYv:Y=.ok (m,p',L.drop p'):=(by
       rw[← HI.out,Zpp (fun h=>absurd h hlt)]
       simp[thenL])
      have hXv:=HXo.out m p' (L.drop p') hYv
      clear HXe HXo HI hYv
      go_wp2_with fail
      go_quiet (fail)
      have hSq:=hS.keep (below_drewN (Below.refl _ _) nq)
      have hLq:=HL.out _ (HG.out _ hSq.gr)
      clear hS hLr c0 c1
      generalize wr.drewN nq=w6 at hSq hLq ⊢
      by_cases hm0:m=[]
      ·subst hm0
       have hv0:=hSq.nil rfl
       injection hv0 with e1 e2 e3
       subst e1 e3
       have hXv2:X=.ok ((a,b),[],p',L.drop p'):=hXv
       subst hXv2
       clear hXv
       obtain⟨k0,k1,k2,k3⟩:=hSq.cells
       obtain⟨q0,q1,q2,q3,qf⟩:=ZgB hSq HZ.out _ rfl
       obtain⟨fh,fo,fq,fg⟩:=ZgC hSq HG.out HZ.out
       have qf0:=qf 0
       have qf1:=qf 1
       have qf2:=qf 2
       have qf3:=qf 3
       clear hSq qf
       go_wp2
       refine bodyPost_ret (v:=.agg #[.int .i64 ((p:Int)+1),.int .i64 a,.int .i64 b,.slice none 0 0]) (results_cell_row rfl _ _ w.heap.size 208 #[.int .i64 ((p:Int)+1),.int .i64 a,.int .i64 b,.slice none 0 0] (0,0) _ rfl fh Tryz.underlying208 rfl (by kernel_rfl)) rfl ⟨_,rfl,fo,fun _=>rfl,fq,fg⟩
      ·obtain⟨m1,y,rfl⟩:=Zfq hm0
       have hne:(!(m1++[y]).isEmpty)=true:=(by cases m1<;>rfl)
       have hfd:=HM.out.2 y (by simp)
       rw[hne,Bool.true_and] at hXv
       unfold endK at hXv
       rw[ZjL,Zes] at hXv
       obtain⟨N1,hN1⟩:∃ N1,m1.length=N1:=⟨_,rfl⟩
       have hlen:(m1++[y]).length=N1+1:=(by rw[List.length_append,hN1];rfl)
       have hown:=hSq.own
       have hown':=hown
       rw[List.length_append] at hown'
       obtain⟨g,cap,hvv,hBg,hgs,d1,df,hset⟩:=ZnJ hown'
       rw[hN1] at d1 df hset
       injection hvv with hv1 hv2 hv3
       subst hv1 hv3
       have hgR:R≠g:=(by omega)
       clear hown' hv2 HM
       have hml2:N1+1≤p':=(by rw[hlen] at hml;exact hml)
       have j0:(0:Int)<((N1+1:Nat):Int):=by omega
       have j1:(0:Int)≤(N1:Int):=by omega
       have j2:(N1:Int)<(N1:Int)+1:=by omega
       have j3:(N1:Int)+1-1=(N1:Int):=by omega
       obtain⟨k0,k1,k2,k3⟩:=hSq.cells
       rw[hlen] at k3
       have HNm:Hid (∀ x:Mk,(m1++[x]).length=N1+1):=(by intro x;rw[← hN1];simp)
       cases hb:(y.tx != [10] && pkM (L.drop p')) with
       | false =>
        rw[hb,if_neg (by decide)] at hXv
        subst hXv
        have he:=ZdZ (g:=g) (o:=N1 * 2) w6 hSq.ck hLq HPl.out hp' (by omega) y.tx d1 hb
        clear hb hset df hfd hown
        go_wp2_with fail
        refine he.mono ?_
        rintro x w7 ⟨rfl,nn,rfl⟩
        have hSr:=hSq.keep (below_drewN (Below.refl _ _) nn)
        clear he hSq k0 k1 k2 k3 d1
        generalize w6.drewN nn=w7 at hSr ⊢
        obtain⟨k0,k1,k2,k3⟩:=hSr.cells
        rw[hlen] at k3
        obtain⟨q0,q1,q2,q3,qf⟩:=ZgB hSr HZ.out _ rfl
        obtain⟨fh,fo,fq,fg⟩:=ZgC hSr HG.out HZ.out
        rw[hlen] at fh fo fq fg
        have qf0:=qf 0
        have qf1:=qf 1
        have qf2:=qf 2
        have qf3:=qf 3
        clear hSr qf
        go_wp2
        refine bodyPost_ret (v:=.agg #[.int .i64 ((p:Int)+1),.int .i64 a,.int .i64 b,.slice (some ⟨g,0,none⟩) (N1+1) vc]) (results_cell_row rfl _ _ w.heap.size 208 #[.int .i64 ((p:Int)+1),.int .i64 a,.int .i64 b,.slice (some ⟨g,0,none⟩) (N1+1) vc] (0,0) _ rfl fh Tryz.underlying208 rfl (by kernel_rfl)) rfl ⟨_,rfl,by rw[HNm.out];exact fo,fun e=>by simp at e,fq,fg⟩
       | true =>
        rw[hb,if_pos rfl] at hXv
        subst hXv
        have HTt:Hid (y.tx=y.tx.dropLast++[10]):=ZfQ hfd.1
        have he:=Zea (g:=g) (o:=N1 * 2) w6 hSq.ck hLq HPl.out (by omega) hgR y.tx y.tx.dropLast HTt hfd.2 d1 df hb
        have hs2:=fun nn=>hset (w6.drewN nn) y.tx.dropLast rfl
        clear hb hset df hfd hown
        go_wp2_with fail
        refine he.mono ?_
        rintro x w7 ⟨rfl,nn,rfl⟩
        have hSr0:=hSq.keep (below_drewN (Below.refl _ _) nn)
        have hSr1:=hSr0.cut (g:=g) (j:=N1 * 2+1) (z:=.string ⟨y.tx.dropLast.toArray⟩) (m':=m1++[⟨y.sg,y.tx.dropLast⟩]) rfl (by rw[HNm.out ⟨y.sg,y.tx.dropLast⟩];rw[hlen];exact hs2 nn) (by simp)
        have hSr:=hSr1.next
        clear he hSq k0 k1 k2 k3 d1 hSr0 hSr1 hs2
        generalize ((w6.drewN nn).setCell ⟨g,N1 * 2+1,none⟩ (.string ⟨y.tx.dropLast.toArray⟩)).setCell ⟨R,1,none⟩ (.int .i64 ((p':Int)+1))=w7 at hSr ⊢
        obtain⟨k0,k1,k2,k3⟩:=hSr.cells
        rw[hlen] at k3
        obtain⟨q0,q1,q2,q3,qf⟩:=ZgB hSr HZ.out _ rfl
        obtain⟨fh,fo,fq,fg⟩:=ZgC hSr HG.out HZ.out
        rw[hlen] at fh fo fq fg
        have qf0:=qf 0
        have qf1:=qf 1
        have qf2:=qf 2
        have qf3:=qf 3
        clear hSr qf
        go_wp2
        refine bodyPost_ret (v:=.agg #[.int .i64 ((p:Int)+1),.int .i64 a,.int .i64 b,.slice (some ⟨g,0,none⟩) (N1+1) vc]) (results_cell_row rfl _ _ w.heap.size 208 #[.int .i64 ((p:Int)+1),.int .i64 a,.int .i64 b,.slice (some ⟨g,0,none⟩) (N1+1) vc] (0,0) _ rfl fh Tryz.underlying208 rfl (by kernel_rfl)) rfl ⟨_,rfl,by rw[HNm.out ⟨y.sg,y.tx.dropLast⟩] at fo ⊢;exact fo,fun e=>by simp at e,fq,fg⟩
   ·rw[if_neg hsuf] at hRng
    have hXe:=HXR.out _ hRng
    subst hXe
    have hDl:(Lib.trimSuffix s [32,e,e,e,e]).length≤1099511627776:=(by
     unfold Lib.trimSuffix
     rw[if_neg hsuf]
     exact hsl2)
    rw[Bool.eq_false_iff.2 hsuf] at hc
    generalize Lib.trimSuffix s [32,e,e,e,e]=D at hc hDl
    clear hRng HXR HXK
    go_wp2_with fail
    refine (hc _).mono ?_
    rintro x w2 ⟨rfl,rfl⟩
    go_wp2_with fail
    refine (ZdO D _ hDl).mono ?_
    rintro x w3 ⟨a,b,rr,rfl,_,hB3⟩
    have q3:=q2.low hB3
    have g3:=Zhe g2 (ZkI hB3 (some R))
    clear q2 g2 hB3 hc
    go_wp2_with fail
    refine (ZdY 3 _ q3 (by omega)).mono ?_
    rintro x w4 ⟨⟨g,rfl,hg⟩,hgr⟩
    go_wp2
    exact⟨rfl,⟨_,rfl,by simpa using hg⟩,HG.out _ (Zhe g3 hgr)⟩
  ·cases hY
end

end Go.Proofs.YtgiojkhmkeocfaaGreatDoor
