/-
  Texts that belong together, joined: PsF, QtD, QsA, QsC, QsD, PsG, PsH, CrJ, CrF, CqS, CrG, NoLs, CrK, CrM.
-/
import Derived.Test.YtcniomgjikienaaGreatDoorVpA12
import Derived.Deep.CutBlock
import Derived.Laws.EntriesVeiled
import Derived.Deep.DeepRowAt
import Derived.Deep.QuietTactic
import Derived.BigQuiet

set_option maxHeartbeats 16000000
set_option maxRecDepth 100000
namespace Go.Proofs.YtcniomgjikienaaGreatDoor

section
open Go.RowKit Go.Proofs.YtcniomgjikienaaGreatDoor.Tx
attribute [local go_sem] Zhc
theorem ZzO {p:Pth} (h:wrgP p=0):∀ x∈p.hs,chkH x=0:=by
 obtain⟨o1,o2,o3,o4⟩:=ZAT h
 exact o4
def RwS (f:Int) (L:List Pth) (P T:List UInt8) (r:Int):Prop:=fstE L=r∧(r=0→P++(L.map (rowP f)).flatten=T)∧(r≠0→T=[])
theorem ZuY (q:List (Hk × Value)):((q.map (·.1)).flatMap nrmH).flatten=(q.map fun x=>nrmT x.1).flatten:=by
 induction q with
 | nil=>rfl
 | cons a q ih=>simp only[List.map_cons,List.flatten_cons,List.flatMap_cons,List.flatten_append,ih];rfl
theorem ZzV {f:Int} {p:Pth} {L:List Pth} {P T:List UInt8} {r:Int} (h:RwS f (p::L) P T r) (hw:wrgP p≠0):r=wrgP p∧T=[]:=by
 obtain⟨h1,_,h3⟩:=h
 simp only[fstE] at h1
 rw[if_pos hw] at h1
 exact⟨h1.symm,h3 (by rw[← h1];exact hw)⟩
theorem ZzX {f:Int} {p:Pth} {L:List Pth} {P T Z P1:List UInt8} {r:Int} (h:RwS f (p::L) P T r) (hw:wrgP p=0) (hZ:rowP f p=Z) (hP:P++Z=P1):RwS f L P1 T r:=by
 obtain⟨h1,h2,h3⟩:=h
 simp only[fstE] at h1
 rw[if_neg (by rw[hw];simp)] at h1
 refine⟨h1,fun q=>?_,h3⟩
 rw[← h2 q,← hP,← hZ]
 simp
theorem ZzU {f:Int} {P T:List UInt8} {r:Int} (h:RwS f [] P T r):r=0∧P=T:=by
 obtain⟨h1,h2,_⟩:=h
 have h1:(0:Int)=r:=h1
 exact⟨h1.symm,by simpa using h2 h1.symm⟩
theorem ZzW {f:Int} {L:List Pth} {T:List UInt8} {r:Int} (hf:f=1∨f=2∨f=3) (hl:L.length≤64) (h1:f=1→L.length≤1) (HR:rowE f L=r) (HT:rowT f L=T):RwS f L [] T r:=by
 have e:rowE f L=fstE L:=by unfold rowE;rw[if_neg (fun q=>q hf),if_neg (by omega)]
 unfold rowT at HT
 rw[e] at HR HT
 rw[HR] at HT
 refine⟨HR,fun q=>?_,fun q=>?_⟩
 ·rw[if_pos q] at HT
  exact HT
 ·rw[if_neg q] at HT
  exact HT.symm
theorem Zzc (F:List Pfd) (v:Value) (w:World) (hv:HPp w v F) (hl:F.length≤64) (HOF:Hid (∀ x∈F,HOk x.hs∧x.x.old.length≤1099511627776∧x.x.new.length≤1099511627776)) (HM:Hid (∀ x∈F,(upT x.x).length≤70368744177664∧(ptT x.x).length≤70368744177664∧(∀ y∈x.x.hs,(wrgP x.x=0→(nrmT y).length≤70368744177664)∧∀ sg,(sidL sg false false y.ls).flatten.length≤70368744177664)∧(wrgP x.x=0→(x.x.hs.flatMap nrmH).flatten.length≤70368744177664))) (r:Int) (T:List UInt8) (HS:Hid (RwS 3 (F.map (·.x)) [] T r)) :
  Calls Tryz.prog 16 #[v,.int .i64 3] w fun e w'=>e=.returned (.tuple #[.string ⟨T.toArray⟩,.int .i64 r])∧Below w.heap.size w w':=by
 obtain⟨lo,lc,rfl⟩:=Holds.form hv.row
 have H0:Hid (RwS 3 ((F.map (·.x)).drop 0) [] T r):=HS.out
 clear HS
 go_enter Tryz.func16,Tryz.ntmps16
 have i64:¬ (64:Int)<(F.length:Int):=by omega
 go_wp2
 go_loopw [6,7] (fun s i wr=>∃ (k:Nat) (P:List UInt8),k≤F.length∧s=.string ⟨P.toArray⟩∧i=.int .i64 (k:Int)∧Below w.heap.size w wr∧Hid (RwS 3 ((F.map (·.x)).drop k) P T r)∧P.length≤k * 70368744177664) (fun _ i _=>F.length-(intOf i).toNat)
 case atStart=>exact⟨0,[],Nat.zero_le _,rfl,by go_num,Below.refl _ _,H0,by simp⟩
 case round =>
 clear H0 i64
 obtain⟨k,P,hk,rfl,rfl,hB,HI,hPl⟩:=hrel
 by_cases hlt:k<F.length
 ·have hvk:=hv.keep hB
  obtain⟨b1,o1,rfl,hb1,hc1⟩:=HPp.at hvk (by omega)
  obtain⟨x0,x1,x2⟩:=hc1 k hlt
  obtain⟨hhs,hhp⟩:=hvk.ins F[k] (List.getElem_mem hlt)
  obtain⟨hok,hol,hnl⟩:=HOF.out F[k] (List.getElem_mem hlt)
  obtain⟨m1,m2,m3,m4⟩:=HM.out F[k] (List.getElem_mem hlt)
  have hI:=HI.out
  rw[List.drop_eq_getElem_cons (show k<(F.map (·.x)).length by rw[List.length_map];exact hlt),List.getElem_map] at hI
  obtain⟨g,hg⟩:∃ g,F[k]=g:=⟨_,rfl⟩
  rw[hg] at x0 x1 x2 hhs hhp hok hol hnl m1 m2 m3 m4 hI
  obtain⟨p,pv,q⟩:=g
  dsimp only at x0 x1 x2 hhs hhp hok hol hnl m1 m2 m3 m4 hI
  obtain⟨po,pc,rfl⟩:=Holds.form hhp.row
  have i1:(0:Int)≤(k:Int):=by omega
  have i2:(k:Int)<(F.length:Int):=by omega
  obtain⟨z,hz⟩:∃ z,wrgP p=z:=⟨_,rfl⟩
  obtain⟨X,hX⟩:∃ X,upT p=X:=⟨_,rfl⟩
  rw[hX] at m1
  have hp6:=fun u (hu:Below wr.heap.size wr u)=>Zzg p q hhs (.slice po q.length pc) u (hhp.keep hu (Nat.le_refl _)) hok hol hnl X z hz hX m1
  unfold ptV at hp6
  clear hc1 hg HI hvk
  by_cases hz0:z=0
  ·subst hz0
   have hZ:rowP 3 p=X:=(by rw[← hX];unfold rowP upT;rw[if_pos rfl,hz,if_pos rfl])
   obtain⟨P1,hP1⟩:∃ Q,P++X=Q:=⟨_,rfl⟩
   have HI2:Hid (RwS 3 ((F.map (·.x)).drop (k+1)) P1 T r):=ZzX hI hz hZ hP1
   have lP:=congrArg List.length hP1
   rw[List.length_append] at lP
   have q1:=Zsl (x:=P) (y:=X) (by unfold Fits;omega) Tryz.prog
   rw[hP1] at q1
   clear hI hz hZ hP1 hX hhs hok hol hnl m2 m3 m4
   go_wp2_with fail
   refine (hp6 _ (Below.refl _ _)).mono ?_
   rintro e w1 ⟨rfl,hB1⟩
   have hBw:=hB.trans (hB1.mono hB.size)
   clear hp6 hB hB1 x0 x1 x2 hhp
   go_wp2
   exact⟨⟨k+1,P1,by omega,by first | rfl | simp,by go_num,hBw,HI2,by omega⟩,by simp[intOf];omega⟩
  ·obtain⟨hr,hT⟩:=ZzV hI (by rw[hz];exact hz0)
   rw[hz] at hr
   subst hr
   subst hT
   have hzb:(r != 0)=true:=bne_iff_ne.2 hz0
   clear hI hz hX hhs hok hol hnl m2 m3 m4
   go_wp2_with fail
   refine (hp6 _ (Below.refl _ _)).mono ?_
   rintro e w1 ⟨rfl,hB1⟩
   have hBw:=hB.trans (hB1.mono hB.size)
   clear hp6 hB hB1 x0 x1 x2 hhp
   go_wp2
   go_ret2
   exact⟨rfl,hBw⟩
 ·have hend:¬ (k:Int)<(F.length:Int):=by omega
  have hI:=HI.out
  rw[List.drop_of_length_le (by rw[List.length_map];omega)] at hI
  obtain⟨hr,hP⟩:=ZzU hI
  subst hr
  subst hP
  clear HI hI
  go_wp2
  go_ret2
  exact⟨rfl,hB⟩
theorem Zzb (F:List Pfd) (v:Value) (w:World) (hv:HPp w v F) (hl:F.length≤64) (HOF:Hid (∀ x∈F,HOk x.hs∧x.x.old.length≤1099511627776∧x.x.new.length≤1099511627776)) (HM:Hid (∀ x∈F,(upT x.x).length≤70368744177664∧(ptT x.x).length≤70368744177664∧(∀ y∈x.x.hs,(wrgP x.x=0→(nrmT y).length≤70368744177664)∧∀ sg,(sidL sg false false y.ls).flatten.length≤70368744177664)∧(wrgP x.x=0→(x.x.hs.flatMap nrmH).flatten.length≤70368744177664))) (r:Int) (T:List UInt8) (HS:Hid (RwS 2 (F.map (·.x)) [] T r)) :
  Calls Tryz.prog 16 #[v,.int .i64 2] w fun e w'=>e=.returned (.tuple #[.string ⟨T.toArray⟩,.int .i64 r])∧Below w.heap.size w w':=by
 obtain⟨lo,lc,rfl⟩:=Holds.form hv.row
 have H0:Hid (RwS 2 ((F.map (·.x)).drop 0) [] T r):=HS.out
 clear HS
 go_enter Tryz.func16,Tryz.ntmps16
 have i64:¬ (64:Int)<(F.length:Int):=by omega
 go_wp2
 go_loopw [6,7] (fun s i wr=>∃ (k:Nat) (P:List UInt8),k≤F.length∧s=.string ⟨P.toArray⟩∧i=.int .i64 (k:Int)∧Below w.heap.size w wr∧Hid (RwS 2 ((F.map (·.x)).drop k) P T r)∧P.length≤k * 70368744177664) (fun _ i _=>F.length-(intOf i).toNat)
 case atStart=>exact⟨0,[],Nat.zero_le _,rfl,by go_num,Below.refl _ _,H0,by simp⟩
 case round =>
 clear H0 i64
 obtain⟨k,P,hk,rfl,rfl,hB,HI,hPl⟩:=hrel
 by_cases hlt:k<F.length
 ·have hvk:=hv.keep hB
  obtain⟨b1,o1,rfl,hb1,hc1⟩:=HPp.at hvk (by omega)
  obtain⟨x0,x1,x2⟩:=hc1 k hlt
  obtain⟨hhs,hhp⟩:=hvk.ins F[k] (List.getElem_mem hlt)
  obtain⟨hok,hol,hnl⟩:=HOF.out F[k] (List.getElem_mem hlt)
  obtain⟨m1,m2,m3,m4⟩:=HM.out F[k] (List.getElem_mem hlt)
  have hI:=HI.out
  rw[List.drop_eq_getElem_cons (show k<(F.map (·.x)).length by rw[List.length_map];exact hlt),List.getElem_map] at hI
  obtain⟨g,hg⟩:∃ g,F[k]=g:=⟨_,rfl⟩
  rw[hg] at x0 x1 x2 hhs hhp hok hol hnl m1 m2 m3 m4 hI
  obtain⟨p,pv,q⟩:=g
  dsimp only at x0 x1 x2 hhs hhp hok hol hnl m1 m2 m3 m4 hI
  obtain⟨po,pc,rfl⟩:=Holds.form hhp.row
  have i1:(0:Int)≤(k:Int):=by omega
  have i2:(k:Int)<(F.length:Int):=by omega
  obtain⟨z,hz⟩:∃ z,wrgP p=z:=⟨_,rfl⟩
  obtain⟨X,hX⟩:∃ X,upT p=X:=⟨_,rfl⟩
  rw[hX] at m1
  have hp6:=fun u (hu:Below wr.heap.size wr u)=>Zzg p q hhs (.slice po q.length pc) u (hhp.keep hu (Nat.le_refl _)) hok hol hnl X z hz hX m1
  unfold ptV at hp6
  clear hc1 hg HI hvk
  by_cases hz0:z=0
  ·subst hz0
   obtain⟨Y,hY⟩:∃ Y,ptT p=Y:=⟨_,rfl⟩
   rw[hY] at m2
   have hp5:=fun u (hu:Below wr.heap.size wr u)=>ZyZ p q hhs (.slice po q.length pc) u (hhp.keep hu (Nat.le_refl _)) hok hol hnl Y 0 hz hY m2 (fun y hy sg=>(m3 y hy).2 sg)
   unfold ptV at hp5
   have hZ:rowP 2 p=Y:=(by rw[← hY];unfold rowP ptT;rw[if_neg (by decide),if_pos rfl,hz,if_pos rfl])
   obtain⟨P1,hP1⟩:∃ Q,P++Y=Q:=⟨_,rfl⟩
   have HI2:Hid (RwS 2 ((F.map (·.x)).drop (k+1)) P1 T r):=ZzX hI hz hZ hP1
   have lP:=congrArg List.length hP1
   rw[List.length_append] at lP
   have q1:=Zsl (x:=P) (y:=Y) (by unfold Fits;omega) Tryz.prog
   rw[hP1] at q1
   clear hI hz hZ hP1 hX hY hhs hok hol hnl m3 m4
   go_wp2_with fail
   refine (hp6 _ (Below.refl _ _)).mono ?_
   rintro e w1 ⟨rfl,hB1⟩
   have y0:=(World.cell?_of_block (hB1.block b1 hb1)).trans x0
   have y1:=(World.cell?_of_block (hB1.block b1 hb1)).trans x1
   have y2:=(World.cell?_of_block (hB1.block b1 hb1)).trans x2
   clear hp6 x0 x1 x2
   go_wp2_with fail
   refine (hp5 _ hB1).mono ?_
   rintro e w2 ⟨rfl,hB2⟩
   have hBw:=hB.trans ((hB1.trans (hB2.mono hB1.size)).mono hB.size)
   clear hp5 hB hB1 hB2 y0 y1 y2 hhp
   go_wp2
   exact⟨⟨k+1,P1,by omega,by first | rfl | simp,by go_num,hBw,HI2,by omega⟩,by simp[intOf];omega⟩
  ·obtain⟨hr,hT⟩:=ZzV hI (by rw[hz];exact hz0)
   rw[hz] at hr
   subst hr
   subst hT
   have hzb:(r != 0)=true:=bne_iff_ne.2 hz0
   clear hI hz hX hhs hok hol hnl m2 m3 m4
   go_wp2_with fail
   refine (hp6 _ (Below.refl _ _)).mono ?_
   rintro e w1 ⟨rfl,hB1⟩
   have hBw:=hB.trans (hB1.mono hB.size)
   clear hp6 hB hB1 x0 x1 x2 hhp
   go_wp2
   go_ret2
   exact⟨rfl,hBw⟩
 ·have hend:¬ (k:Int)<(F.length:Int):=by omega
  have hI:=HI.out
  rw[List.drop_of_length_le (by rw[List.length_map];omega)] at hI
  obtain⟨hr,hP⟩:=ZzU hI
  subst hr
  subst hP
  clear HI hI
  go_wp2
  go_ret2
  exact⟨rfl,hB⟩
theorem Zza (F:List Pfd) (v:Value) (w:World) (hv:HPp w v F) (hl:F.length≤64) (HOF:Hid (∀ x∈F,HOk x.hs∧x.x.old.length≤1099511627776∧x.x.new.length≤1099511627776)) (HM:Hid (∀ x∈F,(upT x.x).length≤70368744177664∧(ptT x.x).length≤70368744177664∧(∀ y∈x.x.hs,(wrgP x.x=0→(nrmT y).length≤70368744177664)∧∀ sg,(sidL sg false false y.ls).flatten.length≤70368744177664)∧(wrgP x.x=0→(x.x.hs.flatMap nrmH).flatten.length≤70368744177664))) (r:Int) (T:List UInt8) (h1:F.length≤1) (HS:Hid (RwS 1 (F.map (·.x)) [] T r)) :
  Calls Tryz.prog 16 #[v,.int .i64 1] w fun e w'=>e=.returned (.tuple #[.string ⟨T.toArray⟩,.int .i64 r])∧Below w.heap.size w w':=by
 obtain⟨lo,lc,rfl⟩:=Holds.form hv.row
 have H0:Hid (RwS 1 ((F.map (·.x)).drop 0) [] T r):=HS.out
 clear HS
 go_enter Tryz.func16,Tryz.ntmps16
 have i64:¬ (64:Int)<(F.length:Int):=by omega
 have i65:¬ (1:Int)<(F.length:Int):=by omega
 go_wp2
 go_loopw [6,7] (fun s i wr=>∃ (k:Nat) (P:List UInt8),k≤F.length∧s=.string ⟨P.toArray⟩∧i=.int .i64 (k:Int)∧Below w.heap.size w wr∧Hid (RwS 1 ((F.map (·.x)).drop k) P T r)∧P.length≤k * 70368744177664) (fun _ i _=>F.length-(intOf i).toNat)
 case atStart=>exact⟨0,[],Nat.zero_le _,rfl,by go_num,Below.refl _ _,H0,by simp⟩
 case round =>
 clear H0 i64
 obtain⟨k,P,hk,rfl,rfl,hB,HI,hPl⟩:=hrel
 by_cases hlt:k<F.length
 ·have hvk:=hv.keep hB
  obtain⟨b1,o1,rfl,hb1,hc1⟩:=HPp.at hvk (by omega)
  obtain⟨x0,x1,x2⟩:=hc1 k hlt
  obtain⟨hhs,hhp⟩:=hvk.ins F[k] (List.getElem_mem hlt)
  obtain⟨hok,hol,hnl⟩:=HOF.out F[k] (List.getElem_mem hlt)
  obtain⟨m1,m2,m3,m4⟩:=HM.out F[k] (List.getElem_mem hlt)
  have hI:=HI.out
  rw[List.drop_eq_getElem_cons (show k<(F.map (·.x)).length by rw[List.length_map];exact hlt),List.getElem_map] at hI
  obtain⟨g,hg⟩:∃ g,F[k]=g:=⟨_,rfl⟩
  rw[hg] at x0 x1 x2 hhs hhp hok hol hnl m1 m2 m3 m4 hI
  obtain⟨p,pv,q⟩:=g
  dsimp only at x0 x1 x2 hhs hhp hok hol hnl m1 m2 m3 m4 hI
  obtain⟨po,pc,rfl⟩:=Holds.form hhp.row
  have i1:(0:Int)≤(k:Int):=by omega
  have i2:(k:Int)<(F.length:Int):=by omega
  obtain⟨z,hz⟩:∃ z,wrgP p=z:=⟨_,rfl⟩
  obtain⟨X,hX⟩:∃ X,upT p=X:=⟨_,rfl⟩
  rw[hX] at m1
  have hp6:=fun u (hu:Below wr.heap.size wr u)=>Zzg p q hhs (.slice po q.length pc) u (hhp.keep hu (Nat.le_refl _)) hok hol hnl X z hz hX m1
  unfold ptV at hp6
  clear hc1 hg HI hvk
  by_cases hz0:z=0
  ·subst hz0
   obtain⟨Y,hY⟩:∃ Y,(p.hs.flatMap nrmH).flatten=Y:=⟨_,rfl⟩
   have m4:=m4 hz
   rw[hY] at m4
   have hZ:rowP 1 p=Y:=(by rw[← hY];unfold rowP;rw[if_neg (by decide),if_neg (by decide)])
   obtain⟨P1,hP1⟩:∃ Q,P++Y=Q:=⟨_,rfl⟩
   have HI2:Hid (RwS 1 ((F.map (·.x)).drop (k+1)) P1 T r):=ZzX hI hz hZ hP1
   have lP:=congrArg List.length hP1
   rw[List.length_append] at lP
   have q1:=Zsl (x:=P) (y:=Y) (by unfold Fits;omega) Tryz.prog
   rw[hP1] at q1
   have hqn:=hok.1
   have HCK:Hid (∀ x∈q,chkH x.1=0):=(fun x hx=>ZzO hz x.1 (by rw[← hhs];exact List.mem_map_of_mem hx))
   have HNX:Hid (∀ x∈q,(nrmT x.1).length≤70368744177664):=(fun x hx=>(m3 x.1 (by rw[← hhs];exact List.mem_map_of_mem hx)).1 hz)
   have H1:Hid (([]:List UInt8)++((q.drop 0).map fun x=>nrmT x.1).flatten=Y):=(by
    show _=_
    rw[← hY,← hhs,List.drop_zero,List.nil_append,ZuY])
   clear hI hz hZ hP1 hX hY hhs hol hnl m2 m3
   go_wp2_with fail
   refine (hp6 _ (Below.refl _ _)).mono ?_
   rintro e w1 ⟨rfl,hB1⟩
   have y2:=(World.cell?_of_block (hB1.block b1 hb1)).trans x2
   have hhp1:=hhp.keep hB1 (Nat.le_refl _)
   have hb1':b1<w1.heap.size:=Nat.lt_of_lt_of_le hb1 hB1.size
   have hBw:=hB.trans (hB1.mono hB.size)
   clear hp6 x0 x1 x2 hhp hB hB1
   have hL0:Low w1 w1:=Below.refl _ _
   go_wp2
   go_loopw [8,10] (fun s i wr=>∃ (j:Nat) (Q:List UInt8),j≤q.length∧s=.string ⟨Q.toArray⟩∧i=.int .i64 (j:Int)∧Low w1 wr∧Hid (Q++((q.drop j).map fun x=>nrmT x.1).flatten=Y)) (fun _ i _=>q.length-(intOf i).toNat)
   case atStart=>exact⟨0,[],Nat.zero_le _,rfl,by go_num,hL0,H1⟩
   case round =>
   clear H1 hL0
   obtain⟨j,Q,hj,rfl,rfl,hLq,HQ⟩:=hrel
   have y2':=(World.cell?_of_block (Below.block hLq b1 hb1')).trans y2
   by_cases hjl:j<q.length
   ·obtain⟨hk1,hv1,hx⟩:∃ h y,q[j]=(h,y):=⟨_,_,rfl⟩
    have hhq:=hhp1.keep hLq (Nat.le_refl _)
    obtain⟨b2,o2,rfl,hb2,hc2⟩:=hhq.at (by omega)
    have hch:=HCK.out q[j] (List.getElem_mem hjl)
    have hnx:=HNX.out q[j] (List.getElem_mem hjl)
    have hok1:=hok.2 q[j] (List.getElem_mem hjl)
    have hin:=hhq.ins q[j] (List.getElem_mem hjl)
    have hQ:=HQ.out
    rw[List.drop_eq_getElem_cons hjl,List.map_cons,List.flatten_cons,← List.append_assoc] at hQ
    have hcj:=hc2 j hjl
    rw[hx] at hch hnx hok1 hin hQ hcj
    dsimp only at hch hnx hok1 hin hQ hcj
    obtain⟨ho,hcc,rfl⟩:=Holds.form hin
    obtain⟨Z,hZ⟩:∃ Z,nrmT hk1=Z:=⟨_,rfl⟩
    rw[hZ] at hQ hnx
    have hnm:=ZyU hk1 ho hcc wr hin hch hok1.1 hok1.2 Z hZ (by omega)
    obtain⟨Q1,hQ1⟩:∃ A,Q++Z=A:=⟨_,rfl⟩
    rw[hQ1] at hQ
    have HQ2:Hid (Q1++((q.drop (j+1)).map fun x=>nrmT x.1).flatten=Y):=hQ
    have lQ:Q1.length≤Y.length:=(by rw[← hQ,List.length_append];omega)
    have lQ1:=congrArg List.length hQ1
    rw[List.length_append] at lQ1
    have q2:=Zsl (x:=Q) (y:=Z) (by unfold Fits;omega) Tryz.prog
    rw[hQ1] at q2
    have j1:(0:Int)≤(j:Int):=by omega
    have j2:(j:Int)<(q.length:Int):=by omega
    obtain⟨A,AN,B,BN,ls⟩:=hk1
    unfold hkV at hnm
    obtain⟨e0,e1,e2,e3,e4⟩:=hcj
    dsimp only at hnm e0 e1 e2 e3 e4
    clear hch hnx hok1 hin hZ hQ1 hQ HQ hx hc2 hhq q1
    go_wp2_with fail
    refine hnm.mono ?_
    rintro e w2 ⟨rfl,hB2⟩
    have hL2:Low w1 w2:=Below.trans hLq (hB2.mono hLq.size)
    clear hnm hB2 hLq e0 e1 e2 e3 e4 y2'
    go_wp2
    exact⟨⟨j+1,Q1,by omega,by first | rfl | simp,by go_num,hL2,HQ2⟩,by simp[intOf];omega⟩
   ·have jend:¬ (j:Int)<(q.length:Int):=by omega
    have hQ:=HQ.out
    rw[List.drop_of_length_le (by omega),List.map_nil,List.flatten_nil,List.append_nil] at hQ
    subst hQ
    have hBz:=hBw.trans (hLq.mono hBw.size)
    clear HQ hLq hBw hhp1 y2
    go_wp2
    exact⟨⟨k+1,P1,by omega,by first | rfl | simp,by go_num,hBz,HI2,by omega⟩,by simp[intOf];omega⟩
  ·obtain⟨hr,hT⟩:=ZzV hI (by rw[hz];exact hz0)
   rw[hz] at hr
   subst hr
   subst hT
   have hzb:(r != 0)=true:=bne_iff_ne.2 hz0
   clear hI hz hX hhs hok hol hnl m2 m3 m4
   go_wp2_with fail
   refine (hp6 _ (Below.refl _ _)).mono ?_
   rintro e w1 ⟨rfl,hB1⟩
   have hBw:=hB.trans (hB1.mono hB.size)
   clear hp6 hB hB1 x0 x1 x2 hhp
   go_wp2
   go_ret2
   exact⟨rfl,hBw⟩
 ·have hend:¬ (k:Int)<(F.length:Int):=by omega
  have hI:=HI.out
  rw[List.drop_of_length_le (by rw[List.length_map];omega)] at hI
  obtain⟨hr,hP⟩:=ZzU hI
  subst hr
  subst hP
  clear HI hI
  go_wp2
  go_ret2
  exact⟨rfl,hB⟩
end

section
open Go.RowKit Go.Proofs.YtcniomgjikienaaGreatDoor.Tx
attribute [local go_sem] Zhc
def nmT (p:Pth):List UInt8:=if wrgP p=0 then (p.hs.flatMap nrmH).flatten else []
theorem Zyc {B b:Nat} {e:TypeId} {s:Nat} {v:Value} {n:Nat} {xs:List Value} {w u:World} (h:w.ownsRow B e s v n xs) (hk:Lib.OthersKept 5 (some b) w u) (hne:e≠5) (hb:∀ g,v.ownBlock=some g→g≠b):u.ownsRow B e s v n xs:=by
 refine⟨h.1,?_⟩
 rcases h.2 with q | ⟨g,cap,cur,rfl,q2,q3,q4⟩
 ·exact .inl q
 ·refine .inr ⟨g,cap,cur,rfl,q2,hk g _ q3 (fun e=>hb g rfl (Option.some.inj e)) (fun c fz e=>?_),q4⟩
  injection e with _ e2 _
  exact hne e2
theorem Zwi {b:Nat} {W u u':World} {ov:Value} {P:List (Hk × Value)} (h:Hs W ov P u) (ho:Lib.OthersKept 5 (some b) u u') (hb:b<W.heap.size):HHp u' ov P :=
 ⟨Zeo (Zyc h.own ho (by decide) (fun g hg=>by have:=ZhJ h.own hg;omega)),fun x hx=>Zeo (Zyc (h.ins x hx) ho (by decide) (fun g hg=>by have:=ZhJ (h.ins x hx) hg;omega))⟩
theorem Zyi (p:Pth) (q:List (Hk × Value)) (HQ:Hid (q.map (·.1)=p.hs)) (v:Value) (w:World) (hv:HHp w v q) (hok:HOk q) (hok2:∀ x∈q,x.1.ls.length≤137438953472) (ho:p.old.length≤1099511627776) (hn:p.new.length≤1099511627776) (HT:Hid (Tab10 w)) (Z:List UInt8) (r:Int) (HR:Hid (wrgP p=r)) (HZ:Hid (nmT p=Z)) (hZ:Z.length≤70368744177664) :
  Calls Tryz.prog 146 #[ptV p v] w fun e w'=>e=.returned (.tuple #[.string ⟨Z.toArray⟩,.int .i64 r])∧Below w.heap.size w w':=by
 have hL1:Below w.heap.size w (w.alloc (ptO p v)):=(Below.refl _ w).alloc (Nat.le_refl _) _
 have hx1:Px (w.alloc (ptO p v)) w.heap.size p v:=_root_.Go.heap_alloc_new w _
 have hv1:=hv.keep hL1 (Nat.le_refl _)
 have hchk:=ZtB p q HQ v _ hv1 hok ho hn r HR
 have HT1:Hid (Tab10 (w.alloc (ptO p v))):=HT.out.on hL1
 have hz1:(w.alloc (ptO p v)).heap.size=w.heap.size+1:=by simp
 have HW:Hid (∀ h:wrgP p=0,((q.map fun x=>nrmT x.1)).flatten=Z∧∀ x∈q,chkH x.1=0):=(by
  intro h
  have hz:=HZ.out
  unfold nmT at hz
  rw[if_pos h,← HQ.out,ZuY] at hz
  refine⟨hz,fun x hx=>?_⟩
  refine (ZAT h).2.2.2 x.1 ?_
  rw[← HQ.out]
  exact List.mem_map_of_mem hx)
 have HZ0:Hid (r≠0→Z=[]):=(by
  intro h
  have hz:=HZ.out
  unfold nmT at hz
  rw[if_neg (by rw[HR.out];exact h)] at hz
  exact hz.symm)
 obtain⟨vo,vc,rfl⟩:=Holds.form hv.row
 have hV:ptV p (.slice vo q.length vc)=.agg #[.string ⟨p.old.toArray⟩,.string ⟨p.new.toArray⟩,.slice vo q.length vc]:=rfl
 have hW:w.alloc (Obj.cells #[.string ⟨p.old.toArray⟩,.string ⟨p.new.toArray⟩,.slice vo q.length vc] 42)=w.alloc (ptO p (.slice vo q.length vc)):=rfl
 rw[hV] at hchk ⊢
 clear hV hv HT HZ
 go_enter Tryz.func146,Tryz.ntmps146
 go_upto_region 1 with fail
 generalize w.alloc (ptO p (.slice vo q.length vc))=w1 at *
 clear hW
 obtain⟨d0,d1,d2⟩:=hx1.cells
 go_wp2_with fail
 refine hchk.mono ?_
 rintro e w2 ⟨rfl,hB12⟩
 have hx2:=hx1.low hB12
 have hv2:=hv1.keep hB12 (Nat.le_refl _)
 have hB2:=hL1.trans (hB12.mono hL1.size)
 have HT2:Hid (Tab10 w2):=HT1.out.on hB12
 clear hchk d0 d1 d2 hx1 hv1 HT1 hB12 hL1 hz1
 by_cases hr:r=0
 ·subst hr
  obtain⟨hzf,hck⟩:=HW.out HR.out
  have HCK:Hid (∀ x∈q,chkH x.1=0):=hck
  have HOK:Hid (∀ x∈q,x.1.ls.length≤137438953472∧∀ m∈x.1.ls,m.tx.length≤1099511627776):=fun x hx=>⟨hok2 x hx,(hok.2 x hx).2⟩
  have H0:Hid (([]:List UInt8)++((q.drop 0).map fun x=>nrmT x.1).flatten=Z):=hzf
  have hql:=hok.1
  have hF0:=Zwt w2
  have hBw:Below w2.heap.size w2 (w2.alloc (.cells #[.pointer none,.slice none 0 0] 85)):=(Below.refl _ w2).alloc (Nat.le_refl _) _
  obtain⟨d0,d1,d2⟩:=(hx2.low hBw).cells
  clear hzf hck hok hok2 HW HZ0 HR ho hn
  go_wp2
  go_loopw [18] (fun iv wr=>∃ (k:Nat) (acc:List UInt8),k≤q.length∧iv=.int .i64 (k:Int)∧Lib.IsBuilderF 85 5 w2.heap.size w2.heap.size (Lib.byteCells acc) wr∧Below w2.heap.size w2 wr∧Hid (acc++((q.drop k).map fun x=>nrmT x.1).flatten=Z)) (fun iv _=>q.length-(intOf iv).toNat)
  case atStart=>exact⟨0,[],Nat.zero_le _,by go_num,hF0,hBw,H0⟩
  case round =>
  clear hF0 hBw H0 d0 d1 d2
  obtain⟨k,acc,hk,rfl,hBr,hbr,HI⟩:=hrel
  by_cases hlt:k<q.length
  ·obtain⟨⟨x,y⟩,hxy⟩:∃ z,q[k]=z:=⟨_,rfl⟩
   obtain⟨bk,off,rfl,hbk,_⟩:=HHp.at hv2 (by omega)
   obtain⟨⟨c0,c1,c2,c3,c4⟩,hml2⟩:=HHp.take hv2 hbr k hlt hxy
   obtain⟨yo,yc,rfl⟩:=HMk.form hml2
   have hcx:=HCK.out q[k] (List.getElem_mem hlt)
   have hox:=HOK.out q[k] (List.getElem_mem hlt)
   rw[hxy] at hcx hox
   dsimp only at hcx hox
   have hI:=HI.out
   rw[List.drop_eq_getElem_cons hlt,hxy,List.map_cons,List.flatten_cons] at hI
   obtain⟨acc2,ha2⟩:∃ a,acc++nrmT x=a:=⟨_,rfl⟩
   rw[← List.append_assoc,ha2] at hI
   have HI2:Hid (acc2++((q.drop (k+1)).map fun x=>nrmT x.1).flatten=Z):=hI
   have hal:acc2.length≤70368744177664:=(by
    have h:=congrArg List.length hI
    rw[List.length_append] at h
    omega)
   have i1:0≤(k:Int):=by omega
   have i2:(k:Int)<(q.length:Int):=by omega
   have HPC:Hid (((pcsH x).map nrT).flatten=nrmT x):=Zxv hcx
   have HPO:Hid (∀ z∈pcsH x,(0≤z.A∧z.A≤4611686018427387904∧0≤z.AN∧z.AN≤4611686018427387900∧0≤z.B∧z.B≤4611686018427387904∧0≤z.BN∧z.BN≤4611686018427387900)∧z.ls.length≤1099511627776∧∀ m∈z.ls,m.tx.length≤1099511627776):=Zym hcx hox.1 hox.2
   have HA2:Hid (acc++nrmT x=acc2):=ha2
   have HPL:Hid ((pcsH x).length≤137438953472):=(by
    show (pcsH x).length≤137438953472
    unfold pcsH
    rw[List.length_map]
    have:=Zvf hcx rfl
    omega)
   have hAl:Below wr.heap.size wr (wr.alloc (hkO x (.slice yo x.ls.length yc))):=(Below.refl _ wr).alloc (Nat.le_refl _) _
   have hX3:=Hx.new wr x (.slice yo x.ls.length yc)
   have hB3:=Zwu hBr hAl
   have hbr3:=hbr.trans (hAl.mono hbr.size)
   have hml3:=hml2.keep hAl (Nat.le_refl _)
   have hpc:=fun (u:World) (hm:HMk u (.slice yo x.ls.length yc) x.ls)=>Zye x yo yc u hm hcx hox.1 hox.2 (pcsH x) rfl
   have hWk:wr.alloc (Obj.cells #[.int .i64 x.A,.int .i64 x.AN,.int .i64 x.B,.int .i64 x.BN,.slice yo x.ls.length yc] 45)=wr.alloc (hkO x (.slice yo x.ls.length yc)):=rfl
   clear hxy hcx hox hI HI ha2 hml2
   go_upto_region 8 with fail
   generalize wr.alloc (hkO x (.slice yo x.ls.length yc))=W3 at *
   clear hWk c0 c1 c2 c3 c4 hBr hbr hAl
   obtain⟨d0,d1,d2,d3,d4⟩:=hX3.cells
   go_wp2_with fail
   have hpc3:=hpc W3 hml3
   unfold hkV at hpc3
   refine hpc3.mono ?_
   rintro e w4 ⟨v2,P,rfl,hs4,hPM⟩
   obtain⟨lo,lc,rfl⟩:=hs4.holds.1.form
   have hB4:=Zwu hB3 hs4.low
   have hbr4:=hbr3.trans (hs4.low.mono hbr3.size)
   have hPs:P.length≤137438953472:=(by
    have h:=congrArg List.length hPM
    rw[List.length_map] at h
    rw[h]
    exact HPL.out)
   have hbW:w2.heap.size<W3.heap.size:=Zwv hB3
   have J0:Hid (acc++((P.drop 0).map fun z=>nrT z.1).flatten=acc2):=(by
    show _=_
    rw[← HA2.out,← HPC.out,← hPM,List.map_map]
    rfl)
   have HPO2:Hid (∀ z∈P,(0≤z.1.A∧z.1.A≤4611686018427387904∧0≤z.1.AN∧z.1.AN≤4611686018427387900∧0≤z.1.B∧z.1.B≤4611686018427387904∧0≤z.1.BN∧z.1.BN≤4611686018427387900)∧z.1.ls.length≤1099511627776∧∀ m∈z.1.ls,m.tx.length≤1099511627776):=fun z hz=>HPO.out z.1 (by rw[← hPM];exact List.mem_map_of_mem hz)
   clear hpc hpc3 hPM HPC HPO HA2 d0 d1 d2 d3 d4 hB3 hbr3 hml3 hX3
   go_wp2
   go_loopw [25] (fun jv wz=>∃ (j:Nat) (ac:List UInt8),j≤P.length∧jv=.int .i64 (j:Int)∧Lib.IsBuilderF 85 5 w2.heap.size w2.heap.size (Lib.byteCells ac) wz∧Below w2.heap.size w2 wz∧Lib.OthersKept 5 (some w2.heap.size) w4 wz∧Hid (ac++((P.drop j).map fun z=>nrT z.1).flatten=acc2)) (fun jv _=>P.length-(intOf jv).toNat)
   case atStart=>exact⟨0,acc,Nat.zero_le _,by go_num,hB4,hbr4,Lib.OthersKept.refl _ _ _,J0⟩
   case round =>
   clear hB4 hbr4 J0
   obtain⟨j,ac,hj,rfl,hBz,hbz,hoz,JI⟩:=hrel
   have hhz:=Zwi hs4 hoz hbW
   by_cases hlt2:j<P.length
   ·obtain⟨⟨z,zy⟩,hz⟩:∃ u,P[j]=u:=⟨_,rfl⟩
    obtain⟨bl,offl,rfl,hbl,hcl⟩:=HHp.at hhz (by omega)
    clear hcl
    obtain⟨⟨c0,c1,c2,c3,c4⟩,hmz⟩:=HHp.take hhz (Below.refl _ wr) j hlt2 hz
    obtain⟨zo,zc,rfl⟩:=HMk.form hmz
    obtain⟨hzb,hzl,hzt⟩:=HPO2.out P[j] (List.getElem_mem hlt2)
    rw[hz] at hzb hzl hzt
    dsimp only at hzb hzl hzt
    obtain⟨T1,hT1⟩:∃ T,nrT z=T:=⟨_,rfl⟩
    have hJ:=JI.out
    rw[List.drop_eq_getElem_cons hlt2,hz,List.map_cons,List.flatten_cons] at hJ
    dsimp only at hJ
    rw[hT1,← List.append_assoc] at hJ
    have JI2:Hid ((ac++T1)++((P.drop (j+1)).map fun z=>nrT z.1).flatten=acc2):=hJ
    have hTl:ac.length+T1.length≤70368744177664:=(by
     have h:=congrArg List.length hJ
     rw[List.length_append,List.length_append] at h
     omega)
    have j1:0≤(j:Int):=by omega
    have j2:(j:Int)<(P.length:Int):=by omega
    have hAz:Below wr.heap.size wr (wr.alloc (hkO z (.slice zo z.ls.length zc))):=(Below.refl _ wr).alloc (Nat.le_refl _) _
    have hXz:=Hx.new wr z (.slice zo z.ls.length zc)
    have hBa:=Zwu hBz hAz
    have hba:=hbz.trans (hAz.mono hbz.size)
    have hoa:=hoz.trans (ZxZ hAz)
    have hmza:=hmz.keep hAz (Nat.le_refl _)
    have hnm:=fun (u:World) (hm:HMk u (.slice zo z.ls.length zc) z.ls) (ht:Hid (Tab10 u))=>Zyg z zo zc u hm hzb hzl hzt ht T1 hT1 (by omega)
    have hWz:wr.alloc (Obj.cells #[.int .i64 z.A,.int .i64 z.AN,.int .i64 z.B,.int .i64 z.BN,.slice zo z.ls.length zc] 45)=wr.alloc (hkO z (.slice zo z.ls.length zc)):=rfl
    have HLT2:Hid (j<P.length):=hlt2
    clear hz hzb hzl hzt hT1 hJ JI hmz hhz
    go_upto_region 11 with fail
    generalize wr.alloc (hkO z (.slice zo z.ls.length zc))=Wa at *
    clear hWz c0 c1 c2 c3 c4 hBz hbz hoz hAz
    obtain⟨d0,d1,d2,d3,d4⟩:=hXz.cells
    have hnm3:=hnm Wa hmza (HT2.out.on hba)
    unfold hkV at hnm3
    go_wp2_with fail
    refine hnm3.mono ?_
    rintro e w5 ⟨rfl,hL5⟩
    have hB5:=Zwu hBa hL5
    have hb5:=hba.trans (hL5.mono hba.size)
    have ho5:=hoa.trans (ZxZ hL5)
    have hz5:=hb5.size
    clear hnm hnm3 d0 d1 d2 d3 d4 hXz hBa hba hoa hmza hL5
    go_wp2_with fail
    refine (Tryz.WriteString_h w2.heap.size w2.heap.size _ ⟨T1.toArray⟩ w5 hB5 (by rw[Ztl];show ac.length+T1.length≤_;omega) hz5).mono ?_
    rintro e w6 ⟨rfl,hB6,hb6,ho6⟩
    have hB7:Lib.IsBuilderF 85 5 w2.heap.size w2.heap.size (Lib.byteCells (ac++T1)) w6:=.inr (by rw[Lib.byteCells_append];exact hB6)
    have hlt3:=HLT2.out
    have hb7:=hb5.trans hb6
    have ho7:=ho5.trans ho6
    clear hB6 hb6 ho6 hB5 hb5 ho5 hz5
    go_wp2
    exact⟨⟨j+1,ac++T1,hlt3,by go_num,hB7,hb7,ho7,JI2⟩,by simp[intOf];omega⟩
   ·have hend2:¬ (j:Int)<(P.length:Int):=by omega
    have hje:=JI.out
    rw[List.drop_of_length_le (by omega)] at hje
    have hje:ac=acc2:=by simpa using hje
    subst hje
    have hkl:=hlt
    clear JI hhz hoz hs4
    go_wp2
    exact⟨⟨k+1,ac,hkl,by go_num,hBz,hbz,HI2⟩,by simp[intOf];omega⟩
  ·have HE:Hid (acc=Z):=(by
    have h:=HI.out
    rw[List.drop_of_length_le (by omega)] at h
    show acc=Z
    simpa using h)
   have hend:¬ (k:Int)<(q.length:Int):=by omega
   have hz:=hbr.size
   clear HI
   go_wp2_with fail
   refine (Tryz.Builder_String_any_k w2.heap.size w2.heap.size acc wr hBr hz).mono ?_
   rintro e w5 ⟨rfl,-,hb5,-⟩
   have hfin:=hB2.trans ((hbr.trans hb5).mono hB2.size)
   go_wp2
   go_ret2
   have hE:=HE.out
   subst hE
   exact⟨rfl,hfin⟩
 ·have hz:=HZ0.out hr
  subst hz
  have hne:(r != 0)=true:=by simpa using hr
  clear HW HZ0 HR HT2
  go_wp2
  go_ret2
  exact⟨rfl,hB2⟩
end

section
open Go.RowKit Go.Proofs.YtcniomgjikienaaGreatDoor.Tx
attribute [local go_sem] ByteArray.extract_mk Zhc
def cQ (x c:UInt8):Bool:=c == x
def cA (x:UInt8) (l:List UInt8):List UInt8:=match spB (cQ x) l with | none=>l | some (a,_,_)=>a
def cB (x:UInt8) (l:List UInt8):List UInt8:=match spB (cQ x) l with | none=>[] | some (_,_,b)=>b
def cS (x:UInt8) (l:List UInt8):Bool:=match spB (cQ x) l with | none=>false | some _=>true
theorem ZaN (x:UInt8) (l:List UInt8):(spB (cQ x) l=none∧Lib.indexByte l x=-1)∨(∃ k:Nat,∃ h:k<l.length,Lib.indexByte l x=k∧spB (cQ x) l=some (l.take k,l[k],l.drop (k+1))):=by
 induction l with
 | nil=>exact .inl ⟨rfl,rfl⟩
 | cons c l ih =>
  unfold Lib.indexByte
  simp only[spB]
  have e:(c == x)=cQ x c:=rfl
  rw[e]
  cases hc:cQ x c with
  | true =>
   right
   exact⟨0,by simp,by simp,by simp⟩
  | false =>
   rw[if_neg (by decide),if_neg (by decide)]
   rcases ih with ⟨h1,h2⟩ | ⟨k,hk,h1,h2⟩
   ·left
    rw[h1,h2]
    exact⟨rfl,rfl⟩
   ·right
    refine⟨k+1,by simpa using hk,?_,?_⟩
    ·rw[h1,if_neg (by simp)]
     omega
    ·rw[h2]
     rfl
theorem ZiW {n:Int} (h0:-9223372036854775808≤n) (h1:n≤9223372036854775807):IntKind.i64.wrap n=n:=by
 simp[IntKind.wrap,IntKind.bits,IntKind.signed]
 split<;>omega
theorem Zkn (x:UInt8) (l:List UInt8) (w:World) (hl:l.length≤1099511627776) :
  Calls Tryz.prog 87 #[.string ⟨l.toArray⟩,.string ⟨#[x]⟩] w fun e w'=>e=.returned (.tuple #[.string ⟨(cA x l).toArray⟩,.string ⟨(cB x l).toArray⟩,.bool (cS x l)])∧∃ n,w'=w.drewN n:=by
 rcases ZaN x l with ⟨h1,h2⟩ | ⟨k,hk,h1,h2⟩
 ·have HA:Hid (cA x l=l∧cB x l=[]∧cS x l=false):=(by unfold cA cB cS;rw[h1];exact⟨rfl,rfl,rfl⟩)
  have HI:Hid (Lib.indexByte l x=-1):=h2
  clear h1 h2
  go_enter Tryz.func87,Tryz.ntmps87
  go_wp2_with fail
  refine (Tryz.stringslite_Index_one ⟨l.toArray⟩ x w).mono ?_
  rintro e w1 ⟨rfl,rfl⟩
  have e1:Lib.indexByte (⟨l.toArray⟩:ByteArray).data.toList x=-1:=HI.out
  rw[e1]
  clear e1
  go_wp2
  go_ret3
  obtain⟨a1,a2,a3⟩:=HA.out
  rw[a1,a2,a3]
  exact⟨rfl,0,rfl⟩
 ·have HA:Hid (cA x l=l.take k∧cB x l=l.drop (k+1)∧cS x l=true):=(by unfold cA cB cS;rw[h2];exact⟨rfl,rfl,rfl⟩)
  have HI:Hid (Lib.indexByte l x=(k:Int)):=h1
  clear h1 h2
  go_enter Tryz.func87,Tryz.ntmps87
  go_wp2_with fail
  refine (Tryz.stringslite_Index_one ⟨l.toArray⟩ x w).mono ?_
  rintro e w1 ⟨rfl,rfl⟩
  have e1:Lib.indexByte (⟨l.toArray⟩:ByteArray).data.toList x=(k:Int):=HI.out
  rw[e1]
  clear e1
  have i1:(0:Int)≤(k:Int):=by omega
  have i2:(k:Int)≤(l.length:Int):=by omega
  have i3:(k:Int)+1≤(l.length:Int):=by omega
  have i4:(0:Int)≤(k:Int)+1:=by omega
  have i5:IntKind.i64.wrap ((k:Int)+1)=(k:Int)+1:=ZiW (by omega) (by omega)
  have i6:((k:Int)+1).toNat=k+1:=by omega
  go_wp2_with fail
  go_quiet (fail)
  go_wp2
  go_ret3
  obtain⟨a1,a2,a3⟩:=HA.out
  rw[a1,a2,a3]
  have k5:(l.drop (k+1)).take (l.length-(k+1))=l.drop (k+1):=List.take_of_length_le (by simp)
  exact⟨by simp[k5],_,rfl⟩
theorem Zcr (x:UInt8) (l:List UInt8) (w:World) (hl:l.length≤1099511627776) :
  Calls Tryz.prog 46 #[.string ⟨l.toArray⟩,.string ⟨#[x]⟩] w fun e w'=>e=.returned (.tuple #[.string ⟨(cA x l).toArray⟩,.string ⟨(cB x l).toArray⟩,.bool (cS x l)])∧∃ n,w'=w.drewN n:=by
 go_enter Tryz.func46,Tryz.ntmps46
 go_wp2_with fail
 refine (Zkn x l w hl).mono ?_
 rintro e w1 ⟨rfl,n,rfl⟩
 go_wp2
 go_ret3
 exact⟨rfl,n,rfl⟩
theorem Zcv (l:List UInt8):cutSl l=if cS 47 l=true then some (cB 47 l) else none:=by
 induction l with
 | nil=>rfl
 | cons c t ih =>
  simp only[cutSl]
  unfold cS cB cQ at ih ⊢
  simp only[spB]
  by_cases h:c=47
  ·simp[h]
  ·rw[if_neg h,ih]
   have hc:(c == 47)=false:=by simpa using h
   simp only[hc]
   cases spB (fun c=>c == 47) t with
   | none=>rfl
   | some z=>rfl
theorem ZaO (l:List UInt8):(cB 47 l).length≤l.length:=by
 rcases ZaN 47 l with ⟨h1,_⟩ | ⟨k,hk,_,h⟩
 ·unfold cB;rw[h1];simp
 ·unfold cB;rw[h];simp
theorem ZhT (s:List UInt8) (n:Int) (hs:s.length≤1099511627776) (hn:-9223372036854775808≤n∧n≤9223372036854775807) (w:World) (R:List UInt8) (HR:Hid (strp n.toNat s=R)) :
  Calls Tryz.prog 19 #[.string ⟨s.toArray⟩,.int .i64 n] w fun e w'=>e=.returned (.string ⟨R.toArray⟩)∧Below w.heap.size w w':=by
 go_enter Tryz.func19,Tryz.ntmps19
 go_wp2
 go_loopw [0,9] (fun sv iv wr=>∃ (u:List UInt8) (k:Nat),u.length≤s.length∧(k:Int)≤max n 0∧sv=.string ⟨u.toArray⟩∧iv=.int .i64 (k:Int)∧Below w.heap.size w wr∧Hid (strp (n.toNat-k) u=R)) (fun _ iv _=>n.toNat-(intOf iv).toNat)
 case atStart=>exact⟨s,0,Nat.le_refl _,by omega,rfl,by go_num,Below.refl _ _,HR⟩
 case round =>
 clear HR
 obtain⟨u,k,hu,hk,rfl,rfl,hB,HI⟩:=hrel
 by_cases hlt:(k:Int)<n
 ·have hI:=HI.out
  have hc:=Zcr 47 u wr (by omega)
  have he:=Zcv u
  have hle:=ZaO u
  rw[show n.toNat-k=(n.toNat-(k+1))+1 by omega] at hI
  simp only[strp] at hI
  cases hS:cS 47 u with
  | false =>
   rw[hS] at hc he
   rw[he,if_neg (by decide)] at hI
   have hI:u=R:=hI
   subst hI
   clear HI he
   go_wp2_with fail
   refine hc.mono ?_
   rintro e w2 ⟨rfl,m,rfl⟩
   go_wp2
   go_ret
   exact⟨rfl,Below.dN hB m⟩
  | true =>
   rw[hS] at hc he
   rw[he,if_pos rfl] at hI
   have HI2:Hid (strp (n.toNat-(k+1)) (cB 47 u)=R):=hI
   clear HI he hI
   go_wp2_with fail
   refine hc.mono ?_
   rintro e w2 ⟨rfl,m,rfl⟩
   go_wp2
   exact⟨⟨cB 47 u,k+1,by omega,by omega,rfl,by go_num,Below.dN hB m,HI2⟩,by simp[intOf];omega⟩
 ·have hI:=HI.out
  rw[show n.toNat-k=0 by omega] at hI
  have hI:u=R:=hI
  subst hI
  clear HI
  go_wp2
  go_ret
  exact⟨rfl,hB⟩
end

section
open Go.RowKit Go.Proofs.YtcniomgjikienaaGreatDoor.Tx
attribute [local go_sem] Zhc
def bgV (B:Nat):Value:=.func (.func 138) #[] #[.pointer (some ⟨B,0,none⟩)]
def fmA (p q:Value):Nat→Array Value
 | 0=>#[.int .i64 3,p,.int .i64 64,.func (.func 140) #[] #[],.func (.func 141) #[] #[]]
 | 1=>#[.int .i64 2,q,.int .i64 64,.func (.func 142) #[] #[],.func (.func 143) #[] #[]]
 | 2=>#[.int .i64 1,.func (.func 144) #[] #[],.int .i64 1,.func (.func 145) #[] #[],.func (.func 146) #[] #[]]
 | _=>#[.int .i64 0,.nilFunc,.int .i64 0,.nilFunc,.nilFunc]
def stO (s:List UInt8):Obj:=.cells #[.string ⟨s.toArray⟩] 9
def dashT:List UInt8:=[45,45,45,32]
def starT:List UInt8:=[42,42,42,32]
def frO (p q:Value):Obj:=.cells #[.int .i64 3,p,.int .i64 64,.func (.func 140) #[] #[],.func (.func 141) #[] #[],.int .i64 2,q,.int .i64 64,.func (.func 142) #[] #[],.func (.func 143) #[] #[],.int .i64 1,.func (.func 144) #[] #[],.int .i64 1,.func (.func 145) #[] #[],.func (.func 146) #[] #[]] 70
theorem Zii (s:List UInt8) (w:World):Calls Tryz.prog 137 #[.string ⟨s.toArray⟩] w fun e w'=>e=.returned (bgV w.heap.size)∧w'=w.alloc (stO s):=by
 go_enter Tryz.func137,Tryz.ntmps137
 go_wp2
 go_ret
 exact⟨rfl,rfl⟩
theorem Zdw (w:World):Calls Tryz.prog 95 #[] w fun e w'=>e=.returned (.slice (some ⟨w.heap.size+1+1,0,none⟩) 3 3)∧w'=((w.alloc (stO dashT)).alloc (stO starT)).alloc (frO (bgV w.heap.size) (bgV (w.heap.size+1))):=by
 go_enter Tryz.func95,Tryz.ntmps95
 go_wp2_with (go_at_fn 137;refine (Zii dashT _).mono ?_;rintro e w' ⟨rfl,rfl⟩)
 go_wp2_with (go_at_fn 137;refine (Zii starT _).mono ?_;rintro e w' ⟨rfl,rfl⟩)
 go_wp2
 go_ret
 refine⟨?_,?_⟩<;>simp[bgV,stO,dashT,starT,frO]
def kfs (b:Nat→Bool):Nat:=if b 0=true then 0 else if b 1=true then 1 else if b 2=true then 2 else 3
def kfI (k:Nat):Int:=if k<3 then (k:Int) else -1
theorem Zdz {u:World} {R:Nat} {p q:Value} (h:u.heap[R]?=some (frO p q)) (j:Nat) (v:Value) (hj:(fmA p q 0++fmA p q 1++fmA p q 2)[j]?=some v):u.cell? ⟨R,j,none⟩=some v:=by
 unfold frO at h
 rw[Lib.cell_of_heap h]
 exact hj
theorem Zdc (g:Nat) (cap p q:Value) (b:Nat→Bool) (R:Nat) (w:World) (hR:w.heap[R]?=some (frO p q)) (eg:∀ args w,(callFunc g args).run Tryz.prog w=.ok (.enter g args) w)
  (hf:Hid (∀ j:Nat,j<3→∀ u,Below w.heap.size w u→Calls Tryz.prog g (#[.agg (fmA p q j)]++#[cap]) u fun e u'=>e=.returned (.bool (b j))∧Below u.heap.size u u')) (k:Nat) (HK:Hid (kfs b=k)) :
  Calls Tryz.prog 96 #[.slice (some ⟨R,0,none⟩) 3 3,.func (.func g) #[] #[cap]] w fun e w'=>e=.returned (.int .i64 (kfI k))∧Below w.heap.size w w':=by
 have hlt:R<w.heap.size:=(Array.getElem?_eq_some_iff.1 hR).1
 go_enter Tryz.func96,Tryz.ntmps96
 go_wp2
 go_loopw [5,8] (fun _ i wr=>∃ n:Nat,n≤3∧i=.int .i64 (n:Int)∧Below w.heap.size w wr∧Hid (∀ j:Nat,j<n→b j=false)) (fun _ i _=>3-(intOf i).toNat)
 case atStart=>exact⟨0,by omega,by go_num,Below.refl _ _,fun j hj=>by omega⟩
 case round =>
 obtain⟨n,hn,rfl,hB,HN⟩:=hrel
 have hT:=(hB.block R hlt).trans hR
 rcases (by omega:n=0∨n=1∨n=2∨n=3) with rfl | rfl | rfl | rfl
 ·have hc:Calls Tryz.prog g (#[.agg #[.int .i64 3,p,.int .i64 64,.func (.func 140) #[] #[],.func (.func 141) #[] #[]]]++#[cap]) wr fun e u'=>e=.returned (.bool (b 0))∧Below wr.heap.size wr u':=hf.out 0 (by omega) wr hB
  have c0:=Zdz hT 0 (.int .i64 3) rfl
  have c1:=Zdz hT 1 (p) rfl
  have c2:=Zdz hT 2 (.int .i64 64) rfl
  have c3:=Zdz hT 3 (.func (.func 140) #[] #[]) rfl
  have c4:=Zdz hT 4 (.func (.func 141) #[] #[]) rfl
  obtain⟨z,hz⟩:∃ z,b 0=z:=⟨_,rfl⟩
  rw[hz] at hc
  clear hT hf
  cases z with
  | true =>
   have hk:kfI k=0:=(by
    rw[← HK.out]
    unfold kfs
    rw[hz]
    rfl)
   clear HN HK hz
   go_wp2_with (go_at_fn g;refine hc.mono ?_;rintro e w' ⟨rfl,hB1⟩)
   go_ret
   exact⟨by rw[hk];try rfl,hB.trans (hB1.mono hB.size)⟩
  | false =>
   have HN2:Hid (∀ j:Nat,j<1→b j=false):=(by
    intro j hj
    by_cases h:j<0
    ·exact HN.out j h
    ·obtain rfl:j=0:=by omega
     exact hz)
   clear HN HK hz
   go_wp2_with (go_at_fn g;refine hc.mono ?_;rintro e w' ⟨rfl,hB1⟩)
   exact⟨⟨1,by omega,by go_num,hB.trans (hB1.mono hB.size),HN2⟩,by simp[intOf]⟩
 ·have hc:Calls Tryz.prog g (#[.agg #[.int .i64 2,q,.int .i64 64,.func (.func 142) #[] #[],.func (.func 143) #[] #[]]]++#[cap]) wr fun e u'=>e=.returned (.bool (b 1))∧Below wr.heap.size wr u':=hf.out 1 (by omega) wr hB
  have c0:=Zdz hT 5 (.int .i64 2) rfl
  have c1:=Zdz hT 6 (q) rfl
  have c2:=Zdz hT 7 (.int .i64 64) rfl
  have c3:=Zdz hT 8 (.func (.func 142) #[] #[]) rfl
  have c4:=Zdz hT 9 (.func (.func 143) #[] #[]) rfl
  obtain⟨z,hz⟩:∃ z,b 1=z:=⟨_,rfl⟩
  rw[hz] at hc
  clear hT hf
  cases z with
  | true =>
   have hk:kfI k=1:=(by
    rw[← HK.out]
    unfold kfs
    rw[HN.out 0 (by omega),if_neg (by decide)]
    rw[hz]
    rfl)
   clear HN HK hz
   go_wp2_with (go_at_fn g;refine hc.mono ?_;rintro e w' ⟨rfl,hB1⟩)
   go_ret
   exact⟨by rw[hk];try rfl,hB.trans (hB1.mono hB.size)⟩
  | false =>
   have HN2:Hid (∀ j:Nat,j<2→b j=false):=(by
    intro j hj
    by_cases h:j<1
    ·exact HN.out j h
    ·obtain rfl:j=1:=by omega
     exact hz)
   clear HN HK hz
   go_wp2_with (go_at_fn g;refine hc.mono ?_;rintro e w' ⟨rfl,hB1⟩)
   exact⟨⟨2,by omega,by go_num,hB.trans (hB1.mono hB.size),HN2⟩,by simp[intOf]⟩
 ·have hc:Calls Tryz.prog g (#[.agg #[.int .i64 1,.func (.func 144) #[] #[],.int .i64 1,.func (.func 145) #[] #[],.func (.func 146) #[] #[]]]++#[cap]) wr fun e u'=>e=.returned (.bool (b 2))∧Below wr.heap.size wr u':=hf.out 2 (by omega) wr hB
  have c0:=Zdz hT 10 (.int .i64 1) rfl
  have c1:=Zdz hT 11 (.func (.func 144) #[] #[]) rfl
  have c2:=Zdz hT 12 (.int .i64 1) rfl
  have c3:=Zdz hT 13 (.func (.func 145) #[] #[]) rfl
  have c4:=Zdz hT 14 (.func (.func 146) #[] #[]) rfl
  obtain⟨z,hz⟩:∃ z,b 2=z:=⟨_,rfl⟩
  rw[hz] at hc
  clear hT hf
  cases z with
  | true =>
   have hk:kfI k=2:=(by
    rw[← HK.out]
    unfold kfs
    rw[HN.out 0 (by omega),if_neg (by decide)]
    rw[HN.out 1 (by omega),if_neg (by decide)]
    rw[hz]
    rfl)
   clear HN HK hz
   go_wp2_with (go_at_fn g;refine hc.mono ?_;rintro e w' ⟨rfl,hB1⟩)
   go_ret
   exact⟨by rw[hk];try rfl,hB.trans (hB1.mono hB.size)⟩
  | false =>
   have HN2:Hid (∀ j:Nat,j<3→b j=false):=(by
    intro j hj
    by_cases h:j<2
    ·exact HN.out j h
    ·obtain rfl:j=2:=by omega
     exact hz)
   clear HN HK hz
   go_wp2_with (go_at_fn g;refine hc.mono ?_;rintro e w' ⟨rfl,hB1⟩)
   exact⟨⟨3,by omega,by go_num,hB.trans (hB1.mono hB.size),HN2⟩,by simp[intOf]⟩
 ·have hk:kfI k=-1:=(by
   have h0:=HN.out 0 (by omega)
   have h1:=HN.out 1 (by omega)
   have h2:=HN.out 2 (by omega)
   rw[← HK.out]
   unfold kfs
   rw[h0,h1,h2]
   rfl)
  clear HN HK hT hf
  go_wp2
  go_ret
  exact⟨by rw[hk];rfl,hB⟩
end

section
open Go.RowKit Go.Proofs.YtcniomgjikienaaGreatDoor.Tx
open Ln
attribute [local go_sem] Zhc
def Bx5 (u:World) (B:Nat) (v0 v1 v2 v3 v4:Value):Prop:=u.heap[B]?=some (.cells #[v0,v1,v2,v3,v4] 70 (0,0))
theorem Bx5.put {u:World} {B:Nat} {v0 v1 v2 v3 v4:Value} (h:Bx5 u B v0 v1 v2 v3 v4) (z0 z1 z2 z3 z4:Value):Bx5 (((((u.setCell ⟨B,0,none⟩ z0).setCell ⟨B,1,none⟩ z1).setCell ⟨B,2,none⟩ z2).setCell ⟨B,3,none⟩ z3).setCell ⟨B,4,none⟩ z4) B z0 z1 z2 z3 z4:=by
 have s1:=heap_setCell_same u B 0 _ _ z0 h
 have s2:=heap_setCell_same _ B 1 _ _ z1 s1
 have s3:=heap_setCell_same _ B 2 _ _ z2 s2
 have s4:=heap_setCell_same _ B 3 _ _ z3 s3
 exact heap_setCell_same _ B 4 _ _ z4 s4
theorem ZaA {N:Nat} {w u:World} {B:Nat} (h:Below N w u) (hB:N≤B) (z0 z1 z2 z3 z4:Value):Below N w (((((u.setCell ⟨B,0,none⟩ z0).setCell ⟨B,1,none⟩ z1).setCell ⟨B,2,none⟩ z2).setCell ⟨B,3,none⟩ z3).setCell ⟨B,4,none⟩ z4) :=
 ((((h.setCell hB _).setCell hB _).setCell hB _).setCell hB _).setCell hB _
theorem Bx5.cells {u:World} {B:Nat} {v0 v1 v2 v3 v4:Value} (h:Bx5 u B v0 v1 v2 v3 v4):u.cell? ⟨B,0,none⟩=some v0∧u.cell? ⟨B,1,none⟩=some v1∧u.cell? ⟨B,2,none⟩=some v2∧u.cell? ⟨B,3,none⟩=some v3∧u.cell? ⟨B,4,none⟩=some v4:=by
 unfold Bx5 at h
 refine⟨?_,?_,?_,?_,?_⟩<;>(rw[Lib.cell_of_heap h];rfl)
theorem ZdA (tmps:Array Value) (u:World) (B:Nat) (v0 v1 v2 v3 v4:Value) (h:Bx5 u B v0 v1 v2 v3 v4) {b:Value} (h2:tmps.getD 2 undef=.pointer (some ⟨B,0,none⟩)) (h3:tmps.getD 3 undef=b) :
  (results Tryz.f53 tmps).run Tryz.prog u=.ok (.tuple #[.agg #[v0,v1,v2,v3,v4],b]) u:=by
 rw[_root_.Go.results_cell_tmp rfl,h2,h3]
 have hL:(loadVar 70 ⟨B,0,none⟩).run Tryz.prog u=.ok (.agg #[v0,v1,v2,v3,v4]) u:=run_loadVar_row u B _ _ _ _ _ h Tryz.underlying70 rfl (by kernel_rfl)
 simp[asAddr,hL,Result.andThen]
theorem Zva (tmps:Array Value) (u:World) (B:Nat) (v0 v1 v2 v3 v4:Value) (h:Bx5 u B v0 v1 v2 v3 v4) {b:Value} (h2:tmps.getD 2 undef=.pointer (some ⟨B,0,none⟩)) (h3:tmps.getD 3 undef=b) :
  (results Tryz.f38 tmps).run Tryz.prog u=.ok (.tuple #[.agg #[v0,v1,v2,v3,v4],b]) u:=by
 rw[_root_.Go.results_cell_tmp rfl,h2,h3]
 have hL:(loadVar 70 ⟨B,0,none⟩).run Tryz.prog u=.ok (.agg #[v0,v1,v2,v3,v4]) u:=run_loadVar_row u B _ _ _ _ _ h Tryz.underlying70 rfl (by kernel_rfl)
 simp[asAddr,hL,Result.andThen]
def Ask (w:World) (g:Nat) (cap:Value) (b:Nat→Bool):Prop:=∀ (B:Nat) (u:World),u.heap[B]?=some (stO dashT)→u.heap[B+1]?=some (stO starT)→Below w.heap.size w u→∀ j:Nat,j<3→Calls Tryz.prog g (#[.agg (fmA (bgV B) (bgV (B+1)) j)]++#[cap]) u fun e u'=>e=.returned (.bool (b j))∧Below u.heap.size u u'
def FmQ (w:World) (k:Nat) (e:Ending) (w':World):Prop:=∃ B,e=.returned (.tuple #[.agg (fmA (bgV B) (bgV (B+1)) k),.bool (decide (k<3))])∧Below w.heap.size w w'
theorem Zdv (g:Nat) (cap:Value) (b:Nat→Bool) (w:World) (eg:∀ args w,(callFunc g args).run Tryz.prog w=.ok (.enter g args) w) (hf:Hid (Ask w g cap b)) (k:Nat) (HK:Hid (kfs b=k)) :
  Calls Tryz.prog 53 #[.func (.func g) #[] #[cap]] w fun e w'=>FmQ w k e w':=by
 have hx0:Bx5 (w.alloc (.cells #[.int .i64 0,.nilFunc,.int .i64 0,.nilFunc,.nilFunc] 70)) w.heap.size (.int .i64 0) .nilFunc (.int .i64 0) .nilFunc .nilFunc:=_root_.Go.heap_alloc_new w _
 have hb0:Below w.heap.size w (w.alloc (.cells #[.int .i64 0,.nilFunc,.int .i64 0,.nilFunc,.nilFunc] 70)):=(Below.refl _ w).alloc (Nat.le_refl _) _
 have hz0:(w.alloc (.cells #[.int .i64 0,.nilFunc,.int .i64 0,.nilFunc,.nilFunc] 70)).heap.size=w.heap.size+1:=by simp
 go_enter Tryz.func53,Tryz.ntmps53
 go_wp2_with fail
 refine (Zdw _).mono ?_
 rintro e w1 ⟨rfl,hw1⟩
 generalize hW0:w.alloc (.cells #[.int .i64 0,.nilFunc,.int .i64 0,.nilFunc,.nilFunc] 70)=W0 at hx0 hb0 hz0 hw1 ⊢
 clear hW0
 obtain⟨B,hBe⟩:∃ B,W0.heap.size=B:=⟨_,rfl⟩
 have hb1:Below W0.heap.size W0 w1:=by rw[hw1];exact (((Below.refl _ W0).alloc (Nat.le_refl _) _).alloc (by simp) _).alloc (by simp;omega) _
 have hs1:w1.heap[B]?=some (stO dashT):=by
  rw[hw1,← hBe]
  have h1:=_root_.Go.heap_alloc_new W0 (stO dashT)
  have h2:=(((Below.refl (W0.alloc (stO dashT)).heap.size (W0.alloc (stO dashT))).alloc (Nat.le_refl _) (stO starT)).alloc (by simp) (frO (bgV W0.heap.size) (bgV (W0.heap.size+1)))).block W0.heap.size (by simp)
  exact h2.trans h1
 have hs2:w1.heap[B+1]?=some (stO starT):=by
  rw[hw1,← hBe]
  have h1:=_root_.Go.heap_alloc_new (W0.alloc (stO dashT)) (stO starT)
  have h2:=((Below.refl ((W0.alloc (stO dashT)).alloc (stO starT)).heap.size ((W0.alloc (stO dashT)).alloc (stO starT))).alloc (Nat.le_refl _) (frO (bgV W0.heap.size) (bgV (W0.heap.size+1)))).block (W0.heap.size+1) (by simp)
  refine h2.trans ?_
  simpa using h1
 have hs3:w1.heap[B+1+1]?=some (frO (bgV B) (bgV (B+1))):=by
  rw[hw1,← hBe]
  have h1:=_root_.Go.heap_alloc_new ((W0.alloc (stO dashT)).alloc (stO starT)) (frO (bgV W0.heap.size) (bgV (W0.heap.size+1)))
  simpa using h1
 rw[hBe]
 have hx1:Bx5 w1 w.heap.size (.int .i64 0) .nilFunc (.int .i64 0) .nilFunc .nilFunc:=(hb1.block _ (by omega)).trans hx0
 have hB1:Below w.heap.size w w1:=hb0.trans (hb1.mono (by omega))
 have hask:Hid (∀ j:Nat,j<3→∀ u,Below w1.heap.size w1 u→Calls Tryz.prog g (#[.agg (fmA (bgV B) (bgV (B+1)) j)]++#[cap]) u fun e u'=>e=.returned (.bool (b j))∧Below u.heap.size u u'):=by
  intro j hj u hu
  exact hf.out B u ((hu.block _ (Array.getElem?_eq_some_iff.1 hs1).1).trans hs1) ((hu.block _ (Array.getElem?_eq_some_iff.1 hs2).1).trans hs2) (hB1.trans (hu.mono hB1.size)) j hj
 have hI:=Zdc g cap (bgV B) (bgV (B+1)) b (B+1+1) w1 hs3 eg hask k HK
 have hk3:k≤3:=(by rw[← HK.out];unfold kfs;split;omega;split;omega;split<;>omega)
 clear hf hask hw1 hs1 hs2 hx0 hb0 HK
 go_wp2_with fail
 refine hI.mono ?_
 rintro e w2 ⟨rfl,hb2⟩
 have hx2:Bx5 w2 w.heap.size _ _ _ _ _:=(hb2.block _ (by have:=(Array.getElem?_eq_some_iff.1 hx1).1;exact this)).trans hx1
 have hT:=(hb2.block _ (Array.getElem?_eq_some_iff.1 hs3).1).trans hs3
 have hB2:Below w.heap.size w w2:=hB1.trans (hb2.mono hB1.size)
 clear hI hx1 hs3 hb1 hB1 hb2
 obtain⟨r0,r1,r2,r3,r4⟩:=hx2.cells
 have g00:=Lib.frozen_of_heap hx2 0
 have g01:=Lib.frozen_of_heap hx2 1
 have g02:=Lib.frozen_of_heap hx2 2
 have g03:=Lib.frozen_of_heap hx2 3
 have g04:=Lib.frozen_of_heap hx2 4
 rcases (by omega:k=0∨k=1∨k=2∨k=3) with rfl | rfl | rfl | rfl
 ·have hz:kfI 0=0:=rfl
  have c0:=Zdz hT 0 (.int .i64 3) rfl
  have c1:=Zdz hT 1 (.func (.func 138) #[] #[.pointer (some ⟨B,0,none⟩)]) rfl
  have c2:=Zdz hT 2 (.int .i64 64) rfl
  have c3:=Zdz hT 3 (.func (.func 140) #[] #[]) rfl
  have c4:=Zdz hT 4 (.func (.func 141) #[] #[]) rfl
  have hP:=hx2.put (.int .i64 3) (.func (.func 138) #[] #[.pointer (some ⟨B,0,none⟩)]) (.int .i64 64) (.func (.func 140) #[] #[]) (.func (.func 141) #[] #[])
  have hL:=ZaA hB2 (Nat.le_refl _) (.int .i64 3) (.func (.func 138) #[] #[.pointer (some ⟨B,0,none⟩)]) (.int .i64 64) (.func (.func 140) #[] #[]) (.func (.func 141) #[] #[])
  clear hT hx2 hB2
  rw[hz]
  go_wp2
  exact bodyPost_ret (ZdA _ _ _ _ _ _ _ _ hP rfl rfl) rfl ⟨B,rfl,hL⟩
 ·have hz:kfI 1=1:=rfl
  have c0:=Zdz hT 5 (.int .i64 2) rfl
  have c1:=Zdz hT 6 (.func (.func 138) #[] #[.pointer (some ⟨B+1,0,none⟩)]) rfl
  have c2:=Zdz hT 7 (.int .i64 64) rfl
  have c3:=Zdz hT 8 (.func (.func 142) #[] #[]) rfl
  have c4:=Zdz hT 9 (.func (.func 143) #[] #[]) rfl
  have hP:=hx2.put (.int .i64 2) (.func (.func 138) #[] #[.pointer (some ⟨B+1,0,none⟩)]) (.int .i64 64) (.func (.func 142) #[] #[]) (.func (.func 143) #[] #[])
  have hL:=ZaA hB2 (Nat.le_refl _) (.int .i64 2) (.func (.func 138) #[] #[.pointer (some ⟨B+1,0,none⟩)]) (.int .i64 64) (.func (.func 142) #[] #[]) (.func (.func 143) #[] #[])
  clear hT hx2 hB2
  rw[hz]
  go_wp2
  exact bodyPost_ret (ZdA _ _ _ _ _ _ _ _ hP rfl rfl) rfl ⟨B,rfl,hL⟩
 ·have hz:kfI 2=2:=rfl
  have c0:=Zdz hT 10 (.int .i64 1) rfl
  have c1:=Zdz hT 11 (.func (.func 144) #[] #[]) rfl
  have c2:=Zdz hT 12 (.int .i64 1) rfl
  have c3:=Zdz hT 13 (.func (.func 145) #[] #[]) rfl
  have c4:=Zdz hT 14 (.func (.func 146) #[] #[]) rfl
  have hP:=hx2.put (.int .i64 1) (.func (.func 144) #[] #[]) (.int .i64 1) (.func (.func 145) #[] #[]) (.func (.func 146) #[] #[])
  have hL:=ZaA hB2 (Nat.le_refl _) (.int .i64 1) (.func (.func 144) #[] #[]) (.int .i64 1) (.func (.func 145) #[] #[]) (.func (.func 146) #[] #[])
  clear hT hx2 hB2
  rw[hz]
  go_wp2
  exact bodyPost_ret (ZdA _ _ _ _ _ _ _ _ hP rfl rfl) rfl ⟨B,rfl,hL⟩
 ·have hz:kfI 3=-1:=rfl
  have hP:=hx2.put (.int .i64 0) .nilFunc (.int .i64 0) .nilFunc .nilFunc
  have hL:=ZaA hB2 (Nat.le_refl _) (.int .i64 0) .nilFunc (.int .i64 0) .nilFunc .nilFunc
  clear hT hx2 hB2
  rw[hz]
  go_wp2
  exact bodyPost_ret (ZdA _ _ _ _ _ _ _ _ hP rfl rfl) rfl ⟨B,rfl,hL⟩
def kOf (f:Int):Nat:=if f=3 then 0 else if f=2 then 1 else if f=1 then 2 else 3
theorem ZwD (n:Int):kfs (fun j=>((if j=0 then 3 else if j=1 then 2 else 1:Int) == n))=kOf n:=by
 unfold kfs kOf
 by_cases h3:n=3
 ·subst h3;rfl
 ·by_cases h2:n=2
  ·subst h2;rfl
  ·by_cases h1:n=1
   ·subst h1;rfl
   ·have e3:((3:Int) == n)=false:=by simpa using fun h=>h3 h.symm
    have e2:((2:Int) == n)=false:=by simpa using fun h=>h2 h.symm
    have e1:((1:Int) == n)=false:=by simpa using fun h=>h1 h.symm
    rw[if_neg h3,if_neg h2,if_neg h1]
    simp[e3,e2,e1]
def nuB (n:Int) (j:Nat):Bool:=(if j=0 then 3 else if j=1 then 2 else 1:Int) == n
theorem Zwx (z0 n:Int) (v1 v2 v3 v4:Value) (LB:Nat) (u:World) (l0:u.cell? ⟨LB,0,none⟩=some (.int .i64 n)) (ll:LB<u.heap.size) :
  Calls Tryz.prog 71 (#[.agg #[.int .i64 z0,v1,v2,v3,v4]]++#[.pointer (some ⟨LB,0,none⟩)]) u fun e u'=>e=.returned (.bool (z0 == n))∧Below u.heap.size u u':=by
 have hA:Below u.heap.size u (u.alloc (.cells #[.int .i64 z0,v1,v2,v3,v4] 70)):=(Below.refl _ u).alloc (Nat.le_refl _) _
 have l1:=(World.cell?_of_block (hA.block LB ll)).trans l0
 have x0:(u.alloc (.cells #[.int .i64 z0,v1,v2,v3,v4] 70)).cell? ⟨u.heap.size,0,none⟩=some (.int .i64 z0):=by rw[Lib.cell_of_heap (_root_.Go.heap_alloc_new u _)];rfl
 go_enter Tryz.func71,Tryz.ntmps71
 go_wp2
 go_ret
 exact⟨rfl,hA⟩
theorem Zth (LB:Nat) (n:Int) (w:World) (hL:w.heap[LB]?=some (.cells #[.int .i64 n] 3)):Ask w 71 (.pointer (some ⟨LB,0,none⟩)) (nuB n):=by
 intro B u hD hS hu j hj
 have hL2:=(hu.block _ (Array.getElem?_eq_some_iff.1 hL).1).trans hL
 have l0:u.cell? ⟨LB,0,none⟩=some (.int .i64 n):=by rw[Lib.cell_of_heap hL2];rfl
 have ll:LB<u.heap.size:=(Array.getElem?_eq_some_iff.1 hL2).1
 rcases (by omega:j=0∨j=1∨j=2) with rfl | rfl | rfl
 ·exact Zwx _ _ _ _ _ _ LB u l0 ll
 ·exact Zwx _ _ _ _ _ _ LB u l0 ll
 ·exact Zwx _ _ _ _ _ _ LB u l0 ll
theorem Zdr (B:Nat) (k:Nat):(∃ z m F c G H,k<3∧fmA (bgV B) (bgV (B+1)) k=#[.int .i64 z,.func (.func F) #[] c,.int .i64 m,.func (.func G) #[] #[],.func (.func H) #[] #[]])∨(¬ k<3∧fmA (bgV B) (bgV (B+1)) k=#[.int .i64 0,.nilFunc,.int .i64 0,.nilFunc,.nilFunc]):=by
 match k with
 | 0=>exact .inl ⟨_,_,_,_,_,_,by decide,rfl⟩
 | 1=>exact .inl ⟨_,_,_,_,_,_,by decide,rfl⟩
 | 2=>exact .inl ⟨_,_,_,_,_,_,by decide,rfl⟩
 | (_+3)=>exact .inr ⟨by omega,rfl⟩
theorem Zvb (n:Int) (w:World) (k:Nat) (HK:Hid (kOf n=k)) :
  Calls Tryz.prog 38 #[.int .i64 n] w fun e w'=>FmQ w k e w':=by
 have hL0:(w.alloc (.cells #[.int .i64 n] 3)).heap[w.heap.size]?=some (.cells #[.int .i64 n] 3):=_root_.Go.heap_alloc_new w _
 have hz0:(w.alloc (.cells #[.int .i64 n] 3)).heap.size=w.heap.size+1:=by simp
 have hb0:Below w.heap.size w (w.alloc (.cells #[.int .i64 n] 3)):=(Below.refl _ w).alloc (Nat.le_refl _) _
 have hx0:Bx5 ((w.alloc (.cells #[.int .i64 n] 3)).alloc (.cells #[.int .i64 0,.nilFunc,.int .i64 0,.nilFunc,.nilFunc] 70)) (w.heap.size+1) (.int .i64 0) .nilFunc (.int .i64 0) .nilFunc .nilFunc:=(by rw[← hz0];exact _root_.Go.heap_alloc_new _ _)
 have hb1:Below (w.heap.size+1) (w.alloc (.cells #[.int .i64 n] 3)) ((w.alloc (.cells #[.int .i64 n] 3)).alloc (.cells #[.int .i64 0,.nilFunc,.int .i64 0,.nilFunc,.nilFunc] 70)):=by rw[← hz0];exact (Below.refl _ _).alloc (Nat.le_refl _) _
 have hL1:=(hb1.block w.heap.size (by omega)).trans hL0
 have hB1:=hb0.trans (hb1.mono (by omega))
 have hask:=Zth w.heap.size n _ hL1
 have hth:=Zdv 71 (.pointer (some ⟨w.heap.size,0,none⟩)) (nuB n) _ (enters_of Tryz.func71 (by kernel_rfl) rfl) hask k (by show _=_;rw[← HK.out];exact ZwD n)
 clear hask hL0 hL1 hb0 hb1 HK hz0
 go_enter Tryz.func38,Tryz.ntmps38
 go_wp2_with fail
 refine hth.mono ?_
 generalize (w.alloc (.cells #[.int .i64 n] 3)).alloc (.cells #[.int .i64 0,.nilFunc,.int .i64 0,.nilFunc,.nilFunc] 70)=W1 at *
 rintro e w2 ⟨B,rfl,hb2⟩
 have hx2:Bx5 w2 (w.heap.size+1) _ _ _ _ _:=(hb2.block _ (Array.getElem?_eq_some_iff.1 hx0).1).trans hx0
 have hB2:Below w.heap.size w w2:=hB1.trans (hb2.mono hB1.size)
 clear hth hx0 hB1 hb2
 obtain⟨r0,r1,r2,r3,r4⟩:=hx2.cells
 have g00:=Lib.frozen_of_heap hx2 0
 have g01:=Lib.frozen_of_heap hx2 1
 have g02:=Lib.frozen_of_heap hx2 2
 have g03:=Lib.frozen_of_heap hx2 3
 have g04:=Lib.frozen_of_heap hx2 4
 rcases Zdr B k with ⟨z,m,F,c,G,H,hk,hv⟩ | ⟨hk,hv⟩
 ·have hP:=hx2.put (.int .i64 z) (.func (.func F) #[] c) (.int .i64 m) (.func (.func G) #[] #[]) (.func (.func H) #[] #[])
  have hL:=ZaA hB2 (by omega:w.heap.size≤w.heap.size+1) (.int .i64 z) (.func (.func F) #[] c) (.int .i64 m) (.func (.func G) #[] #[]) (.func (.func H) #[] #[])
  have HV:Hid (fmA (bgV B) (bgV (B+1)) k=#[.int .i64 z,.func (.func F) #[] c,.int .i64 m,.func (.func G) #[] #[],.func (.func H) #[] #[]]):=hv
  have hdk:decide (k<3)=true:=decide_eq_true hk
  have HBB:Hid (decide (k<3)=true):=hdk
  rw[hv,hdk]
  clear hx2 hB2 hv hdk hk
  go_wp2
  refine bodyPost_ret (Zva _ _ _ _ _ _ _ _ hP rfl rfl) rfl ⟨B,?_,hL⟩
  rw[HV.out,HBB.out]
  rfl
 ·have hP:=hx2.put (.int .i64 0) .nilFunc (.int .i64 0) .nilFunc .nilFunc
  have hL:=ZaA hB2 (by omega:w.heap.size≤w.heap.size+1) (.int .i64 0) .nilFunc (.int .i64 0) .nilFunc .nilFunc
  have HV:Hid (fmA (bgV B) (bgV (B+1)) k=#[.int .i64 0,.nilFunc,.int .i64 0,.nilFunc,.nilFunc]):=hv
  have hdk:decide (k<3)=false:=decide_eq_false hk
  have HBB:Hid (decide (k<3)=false):=hdk
  rw[hv,hdk]
  clear hx2 hB2 hv hdk hk
  go_wp2
  refine bodyPost_ret (Zva _ _ _ _ _ _ _ _ hP rfl rfl) rfl ⟨B,?_,hL⟩
  rw[HV.out,HBB.out]
  rfl
end

section
open Go.RowKit Go.Proofs.YtcniomgjikienaaGreatDoor.Tx
attribute [local go_sem] Zhc
theorem Zze (v:Value) (w:World) (f:Int) (hf:¬ (f=1∨f=2∨f=3)) :
  Calls Tryz.prog 16 #[v,.int .i64 f] w fun e w'=>e=.returned (.tuple #[.string ⟨#[]⟩,.int .i64 5])∧Below w.heap.size w w':=by
 have f1:¬ f=1:=fun h=>hf (Or.inl h)
 have f2:¬ f=2:=fun h=>hf (Or.inr (Or.inl h))
 have f3:¬ f=3:=fun h=>hf (Or.inr (Or.inr h))
 have g1:(f != 1)=true:=bne_iff_ne.2 f1
 have g2:(f != 2)=true:=bne_iff_ne.2 f2
 have g3:(f != 3)=true:=bne_iff_ne.2 f3
 clear hf
 go_enter Tryz.func16,Tryz.ntmps16
 go_wp2
 go_ret2
 exact⟨rfl,Below.refl _ _⟩
theorem Zzf (F:List Pfd) (v:Value) (w:World) (hv:HPp w v F) (f:Int) (hf:f=1∨f=2∨f=3) (hl:64<F.length∨(f=1∧1<F.length)) :
  Calls Tryz.prog 16 #[v,.int .i64 f] w fun e w'=>e=.returned (.tuple #[.string ⟨#[]⟩,.int .i64 9])∧Below w.heap.size w w':=by
 obtain⟨lo,lc,rfl⟩:=Holds.form hv.row
 by_cases h:64<F.length
 ·have h64:(64:Int)<(F.length:Int):=by omega
  clear hl
  rcases hf with rfl | rfl | rfl
  all_goals
   go_enter Tryz.func16,Tryz.ntmps16
   go_wp2
   go_ret2
   exact⟨rfl,Below.refl _ _⟩
 ·obtain⟨rfl,h1⟩:=hl.resolve_left h
  have h64:¬ (64:Int)<(F.length:Int):=by omega
  have h11:(1:Int)<(F.length:Int):=by omega
  clear hf hl
  go_enter Tryz.func16,Tryz.ntmps16
  go_wp2
  go_ret2
  exact⟨rfl,Below.refl _ _⟩
theorem Zzd (F:List Pfd) (v:Value) (w:World) (hv:HPp w v F) (f:Int) (HOF:Hid (∀ x∈F,HOk x.hs∧x.x.old.length≤1099511627776∧x.x.new.length≤1099511627776)) (HM:Hid (∀ x∈F,(upT x.x).length≤70368744177664∧(ptT x.x).length≤70368744177664∧(∀ y∈x.x.hs,(wrgP x.x=0→(nrmT y).length≤70368744177664)∧∀ sg,(sidL sg false false y.ls).flatten.length≤70368744177664)∧(wrgP x.x=0→(x.x.hs.flatMap nrmH).flatten.length≤70368744177664))) (r:Int) (T:List UInt8) (HR:Hid (rowE f (F.map (·.x))=r)) (HT:Hid (rowT f (F.map (·.x))=T)) :
  Calls Tryz.prog 16 #[v,.int .i64 f] w fun e w'=>e=.returned (.tuple #[.string ⟨T.toArray⟩,.int .i64 r])∧Below w.heap.size w w':=by
 have hR:=HR.out
 have hT:=HT.out
 by_cases hf:f=1∨f=2∨f=3
 ·by_cases hl:64<F.length∨(f=1∧1<F.length)
  ·have e:rowE f (F.map (·.x))=9:=by unfold rowE;rw[if_neg (fun q=>q hf),if_pos (by simpa using hl)]
   unfold rowT at hT
   rw[e] at hR hT
   subst hR
   rw[if_neg (by decide)] at hT
   subst hT
   exact Zzf F v w hv f hf hl
  ·have hn:F.length≤64:=by omega
   have hs:Hid (RwS f (F.map (·.x)) [] T r):=ZzW hf (by rw[List.length_map];exact hn) (by rw[List.length_map];omega) hR hT
   rcases hf with rfl | rfl | rfl
   ·exact Zza F v w hv hn HOF HM r T (by omega) hs
   ·exact Zzb F v w hv hn HOF HM r T hs
   ·exact Zzc F v w hv hn HOF HM r T hs
 ·have e:rowE f (F.map (·.x))=5:=by unfold rowE;rw[if_pos hf]
  unfold rowT at hT
  rw[e] at hR hT
  subst hR
  rw[if_neg (by decide)] at hT
  subst hT
  exact Zze v w f hf
end

section
open Go.RowKit Go.Proofs.YtcniomgjikienaaGreatDoor.Tx
attribute [local go_sem] Zhc
structure Pv (wb:World) (S:Nat) (n1 n2:List UInt8) (hv:Value) (P:List (Hk × Value)) (u:World):Prop where
 low:Below wb.heap.size wb u
 box:u.heap[S]?=some (.cells #[.string ⟨n1.toArray⟩,.string ⟨n2.toArray⟩,hv] 42)
 own:u.ownsRow wb.heap.size 45 5 hv P.length (hkcells P)
 ins:∀ x∈P,u.ownsRow wb.heap.size 47 2 x.2 x.1.ls.length (mkcells x.1.ls)
 ge:wb.heap.size≤S
section
variable {wb u u':World} {S:Nat} {hv:Value} {n1 n2:List UInt8} {P:List (Hk × Value)}
theorem Pv.keep (h:Pv wb S n1 n2 hv P u) (hb:Below u.heap.size u u'):Pv wb S n1 n2 hv P u':=⟨h.low.trans (hb.mono h.low.size),(hb.block S (Array.getElem?_eq_some_iff.1 h.box).1).trans h.box,ZhK h.own hb,fun x hx=>ZhK (h.ins x hx) hb,h.ge⟩
theorem Pv.cells (h:Pv wb S n1 n2 hv P u):u.cell? ⟨S,0,none⟩=some (.string ⟨n1.toArray⟩)∧u.cell? ⟨S,1,none⟩=some (.string ⟨n2.toArray⟩)∧u.cell? ⟨S,2,none⟩=some hv:=by
 refine⟨?_,?_,?_⟩<;>rw[Lib.cell_of_heap h.box]<;>rfl
theorem Pv.more (h:Pv wb S n1 n2 hv P u) {x:Hk} {y hv':Value} (hy:u.ownsRow wb.heap.size 47 2 y x.ls.length (mkcells x.ls)) (hg:u.grownBy u' hv.ownBlock) (ho:u'.ownsRow wb.heap.size 45 5 hv' (P.length+1) (hkcells P++hkC x y)) :
  Pv wb S n1 n2 hv' (P++[(x,y)]) (u'.setCell ⟨S,2,none⟩ hv')∧u'.cell? ⟨S,2,none⟩=some hv∧u'.frozen? ⟨S,2,none⟩=false∧Below wb.heap.size wb u':=by
 have hge:∀ j,hv.ownBlock=some j→wb.heap.size≤j:=fun j hj=>ZhJ h.own hj
 have hb:u'.heap[S]?=some (.cells #[.string ⟨n1.toArray⟩,.string ⟨n2.toArray⟩,hv] 42):=(hg.block S (Array.getElem?_eq_some_iff.1 h.box).1 (fun e=>ZhE h.own h.box (by decide) e.symm)).trans h.box
 have hlow:Below wb.heap.size wb u':=h.low.grown hg h.low.size hge
 have key:∀ {v:Value} {n:Nat} {xs:List Value},u.ownsRow wb.heap.size 47 2 v n xs→u'.ownsRow wb.heap.size 47 2 v n xs:=by
  intro v n xs hv2
  exact ZjA hv2 h.own (by decide) hg
 have hg2:=ZdS u' S 2 hv'
 have hkc:hkcells (P++[(x,y)])=hkcells P++hkC x y:=by rw[Zeh];simp[hkcells,hkC]
 refine⟨⟨hlow.setCell h.ge _,heap_setCell_same u' S 2 _ _ hv' hb,?_,?_,h.ge⟩,by rw[Lib.cell_of_heap hb];rfl,Lib.frozen_of_heap hb 2,hlow⟩
 ·rw[List.length_append,hkc]
  exact ho.kept hg2 (.inr (ZhE ho hb (by decide)))
 ·intro z hz
  rcases List.mem_append.1 hz with hz | hz
  ·exact (key (h.ins z hz)).kept hg2 (.inr (ZhE (key (h.ins z hz)) hb (by decide)))
  ·rw[List.mem_singleton.1 hz]
   exact (key hy).kept hg2 (.inr (ZhE (key hy) hb (by decide)))
end
section
variable {w u u':World} {ov:Value} {F:List Pfd}
theorem ZiO (h:Pw w ov F u) (hb:Below u.heap.size u u'):Pw w ov F u':=⟨h.low.trans (hb.mono h.low.size),ZhK h.own hb,fun f hf=>(h.ins f hf).keep hb⟩
theorem ZyI (h:Pw w ov F u) {f:Pfd} {ov':Value} (hy:Pown w.heap.size u f) (hg:u.grownBy u' ov.ownBlock) (ho:u'.ownsRow w.heap.size 42 3 ov' (F.length+1) (pxcells F++pxC f)):Pw w ov' (F++[f]) u':=by
 have hin:∀ g,Pown w.heap.size u g→Pown w.heap.size u' g:=fun g hp=>⟨hp.eq,ZjA hp.own h.own (by decide) hg,fun y hy=>ZjA (hp.ins y hy) h.own (by decide) hg⟩
 refine⟨h.low.grown hg h.low.size (fun k e=>ZhJ h.own e),?_,?_⟩
 ·have e1:pxcells (F++[f])=pxcells F++pxC f:=by simp[pxcells]
  rw[List.length_append,e1]
  exact ho
 ·intro g hgm
  rcases List.mem_append.1 hgm with hm | hm
  ·exact hin g (h.ins g hm)
  ·rw[List.mem_singleton.1 hm];exact hin f hy
theorem ZyH {wb:World} {S:Nat} {hv:Value} {n1 n2:List UInt8} {P:List (Hk × Value)} (h:Pw w ov F wb) (hz:Pv wb S n1 n2 hv P u):Pw w ov F u∧Pown w.heap.size u ⟨⟨n1,n2,P.map (·.1)⟩,hv,P⟩:=⟨ZiO h hz.low,rfl,ZhC hz.own h.low.size,fun y hy=>ZhC (hz.ins y hy) h.low.size⟩
end
theorem ZuR {u:World} {b off n c i:Nat} (hi:i<n) {op:Oper} (x y:Operand) (ho:op.op=.indexAddr 22 x y) {ev:Operand→Value} (hx:ev x=.slice (some ⟨b,off,none⟩) n c) (hy:ev y=.int .i64 (i:Int)) :
  (execOp ev op).run Tryz.prog u=.ok (.value (.pointer (some ⟨b,off+i * 3,none⟩))) u:=by
 have i1:0≤(i:Int):=by omega
 have i2:(i:Int)<(n:Int):=by omega
 simp only[execOp,ho,hx,hy]
 go_simp
theorem ZyP (F:List Pfd) (v:Value) (w:World) (hv:HPp w v F) (hl:F.length≤1099511627776) (HOF:Hid (∀ x∈F,x.hs.length≤1099511627776∧∀ y∈x.hs,y.1.ls.length≤549755813888)) (L:List Pth) (HL:Hid ((F.map fun x=>invP x.x)=L)) :
  Calls Tryz.prog 18 #[v] w fun e w'=>∃ v' G,e=.returned v'∧Pw w v' G w'∧G.map (·.x)=L:=by
 obtain⟨lo,lc,rfl⟩:=Holds.form hv.row
 have hP00:Pw w (.slice none 0 0) [] w:=⟨Below.refl _ _,Zen _ _ _ _,fun _ h=>by cases h⟩
 have HL0:Hid (([]:List Pfd).map (·.x)++((F.drop 0).map fun x=>invP x.x)=L):=HL
 clear HL
 go_enter Tryz.func18,Tryz.ntmps18
 go_wp2
 go_loopw [3,4] (fun ov iv wr=>∃ (k:Nat) (G:List Pfd) (oo:Option Addr) (oc:Nat),k≤F.length∧ov=.slice oo G.length oc∧iv=.int .i64 (k:Int)∧Pw w ov G wr∧Hid (G.length=k)∧Hid (G.map (·.x)++((F.drop k).map fun x=>invP x.x)=L)) (fun _ iv _=>F.length-(intOf iv).toNat)
 case atStart=>exact⟨0,[],none,0,Nat.zero_le _,rfl,by go_num,hP00,(rfl:([]:List Pfd).length=0),HL0⟩
 case round =>
 clear hP00 HL0
 obtain⟨k,G,oo,oc,hk,rfl,rfl,hPw,hGk,HI⟩:=hrel
 by_cases hlt:k<F.length
 ·have hvk:=hv.keep hPw.low
  obtain⟨b1,o1,rfl,hb1,hc1⟩:=HPp.at hvk (by omega)
  obtain⟨x0,x1,x2⟩:=hc1 k hlt
  obtain⟨hhs,hhp⟩:=hvk.ins F[k] (List.getElem_mem hlt)
  obtain⟨hol,hoy⟩:=HOF.out F[k] (List.getElem_mem hlt)
  have hI:=HI.out
  rw[List.drop_eq_getElem_cons hlt,List.map_cons] at hI
  obtain⟨g,hg⟩:∃ g,F[k]=g:=⟨_,rfl⟩
  rw[hg] at x0 x1 x2 hhs hhp hol hoy hI
  obtain⟨p,pv,q⟩:=g
  dsimp only at x0 x1 x2 hhs hhp hol hoy hI
  have HOY:Hid (∀ y∈q,y.1.ls.length≤549755813888):=hoy
  obtain⟨po,pc,rfl⟩:=Holds.form hhp.row
  have i1:(0:Int)≤(k:Int):=by omega
  have i2:(k:Int)<(F.length:Int):=by omega
  have HI2:Hid (∀ hv:Value,∀ P:List (Hk × Value),P.map (·.1)=q.map (fun y=>invH y.1)→(G++[(⟨⟨p.new,p.old,P.map (·.1)⟩,hv,P⟩:Pfd)]).map (·.x)++((F.drop (k+1)).map fun x=>invP x.x)=L):=(fun hv P hP=>by
   rw[← hI,List.map_append,hP]
   have e:q.map (fun y=>invH y.1)=p.hs.map invH:=by rw[← hhs,List.map_map];rfl
   rw[e]
   simp[invP])
  have HQ0:Hid (([]:List (Hk × Value)).map (·.1)++((q.drop 0).map fun y=>invH y.1)=q.map fun y=>invH y.1):=(by show _=_;simp)
  have HG:Hid (G.length=k):=hGk
  have HK1:Hid (k+1≤F.length∧F.length≤1099511627776):=⟨hlt,hl⟩
  clear hc1 hg hI hvk hoy hhs HI hv hGk
  go_wp2_with fail
  go_region
  have hPv:Pv wr wr.heap.size p.new p.old (.slice none 0 0) [] ((wr.alloc (Obj.cells #[Value.string ⟨p.new.toArray⟩,Value.string ⟨p.old.toArray⟩,Value.slice none 0 0] 42)).drew):=⟨((Below.refl _ wr).alloc (Nat.le_refl _) _).drew,heap_alloc_new wr _,Zen _ _ _ _,fun x hx=>(by cases hx),Nat.le_refl _⟩
  generalize (wr.alloc (Obj.cells #[Value.string ⟨p.new.toArray⟩,Value.string ⟨p.old.toArray⟩,Value.slice none 0 0] 42)).drew=W5 at hPv ⊢
  obtain⟨S,hS⟩:∃ S,wr.heap.size=S:=⟨_,rfl⟩
  have hPv2:Pv wr S p.new p.old (.slice none 0 0) [] W5:=(by rw[← hS];exact hPv)
  simp only[hS]
  obtain⟨n1,hn1⟩:∃ n,p.new=n:=⟨_,rfl⟩
  obtain⟨n2,hn2⟩:∃ n,p.old=n:=⟨_,rfl⟩
  rw[hn1,hn2] at hPv2 HI2
  simp only[hn1,hn2]
  clear hPv hS hn1 hn2 x0 x1
  obtain⟨wo,rfl⟩:∃ x,x=wr:=⟨_,rfl⟩
  go_wp2
  go_loopw [6] (fun iv wr=>∃ (j:Nat) (P:List (Hk × Value)) (ho:Option Addr) (hc:Nat),j≤q.length∧iv=.int .i64 (j:Int)∧Pv wo S n1 n2 (.slice ho P.length hc) P wr∧Hid (P.length=j)∧Hid (P.map (·.1)++((q.drop j).map fun y=>invH y.1)=q.map fun y=>invH y.1)) (fun iv _=>q.length-(intOf iv).toNat)
  case atStart=>exact⟨0,[],none,0,Nat.zero_le _,by go_num,hPv2,(rfl:([]:List (Hk × Value)).length=0),HQ0⟩
  case round =>
  clear hPv2 HQ0
  obtain⟨j,P,ho,hc,hj,rfl,hP,hPj,HQ⟩:=hrel
  have x2w:=(World.cell?_of_block (hP.low.block b1 hb1)).trans x2
  by_cases hjl:j<q.length
  ·obtain⟨b2,o2,rfl,hb2,hc2⟩:=hhp.at (by omega)
   have hin:=hhp.ins q[j] (List.getElem_mem hjl)
   have hl1:=HOY.out q[j] (List.getElem_mem hjl)
   have hat:=hc2 j hjl
   have hQ:=HQ.out
   rw[List.drop_eq_getElem_cons hjl,List.map_cons] at hQ
   obtain⟨hk1,hv1,hx⟩:∃ h y,q[j]=(h,y):=⟨_,_,rfl⟩
   rw[hx] at hin hl1 hat hQ
   dsimp only at hin hl1 hat hQ
   obtain⟨yo,yc,rfl⟩:=HMk.form hin
   have hat:HkAt wo b2 (o2+j * 5) hk1 (.slice yo hk1.ls.length yc):=hat
   have HQ2:Hid (P.map (·.1)++[invH hk1]++((q.drop (j+1)).map fun y=>invH y.1)=q.map fun y=>invH y.1):=(by
    show _=_
    rw[← hQ]
    simp)
   have hPl:P.length+1≤1099511627776:=(by have:=hPj.out;omega)
   have j1:(0:Int)≤(j:Int):=by omega
   have j2:(j:Int)<(q.length:Int):=by omega
   obtain⟨Rr,hRr⟩:∃ Rr:Value→World→Prop,(fun v u=>∃ (vo:Option Addr) (vc:Nat),v=hkV (invH hk1) (.slice vo (invH hk1).ls.length vc)∧Pv wo S n1 n2 (.slice ho P.length hc) P u∧u.ownsRow wo.heap.size 47 2 (.slice vo (invH hk1).ls.length vc) (invH hk1).ls.length (mkcells (invH hk1).ls))=Rr:=⟨_,rfl⟩
   have HRr:Hid (_=Rr):=hRr
   clear hRr hx hQ HQ hc2
   go_upto_region 9 with fail
   refine wp_region_held_drew (S:=fun u=>Below wo.heap.size wo u) (by kernel_rfl) (hP.keep (Below.drew (Below.refl _ _))).low (fun HS=>?_)
   have hZd:=hP.keep (Below.drew (Below.refl _ _))
   generalize wr.drew=wd at hZd HS ⊢
   have c2d:=hZd.cells.2.2
   have hcall:Calls Tryz.prog 45 (#[hkV hk1 (.slice yo hk1.ls.length yc)]++#[]) wd fun e w'=>(∃ v,e=.returned v∧Below wo.heap.size wo w'∧Rr v w')∨(∃ c,e=.panicked c∧False):=(by
    refine (Zzu hk1 _ wd (HMk.keep hin HS (Nat.le_refl _)) hl1 (invH hk1).ls rfl).mono ?_
    rintro e w' ⟨v',rfl,hown,hgr⟩
    rw[← HRr.out]
    obtain⟨vo,vc,rfl⟩:=(Zeo hown).form
    exact .inl ⟨_,rfl,(hZd.keep hgr).low,vo,vc,rfl,hZd.keep hgr,ZhC hown hZd.low.size⟩)
   refine Y_t 0 34 _ (.pointer (some ⟨S,2,none⟩)) rfl (Or.inl ⟨by kernel_rfl,fun u hu=>by kernel_rfl⟩) HS ?_
   simp only[Act.put,Y_a,Y_b,Y_c]
   refine Y_t 2 36 _ (.slice (some ⟨b1,o1,none⟩) F.length lc) rfl (Or.inl ⟨by kernel_rfl,fun u hu=>by kernel_rfl⟩) HS ?_
   simp only[Act.put,Y_a,Y_b,Y_c]
   refine Y_t 3 37 _ (.int .i64 (k:Int)) rfl (Or.inl ⟨by kernel_rfl,fun u hu=>by kernel_rfl⟩) HS ?_
   simp only[Act.put,Y_a,Y_b,Y_c]
   refine Y_t 4 38 _ (.pointer (some ⟨b1,o1+k * 3,none⟩)) rfl (Or.inl ⟨by kernel_rfl,fun u hu=>ZuR (c:=lc) hlt (.tmp 36) (.tmp 37) (by kernel_rfl) (by kernel_rfl) (by kernel_rfl)⟩) HS ?_
   simp only[Act.put,Y_a,Y_b,Y_c]
   refine Y_t 5 39 _ (.pointer (some ⟨b1,o1+k * 3+2,none⟩)) rfl (Or.inl ⟨by kernel_rfl,fun u hu=>by kernel_rfl⟩) HS ?_
   simp only[Act.put,Y_a,Y_b,Y_c]
   refine Y_t 6 40 _ (.slice (some ⟨b2,o2,none⟩) q.length pc) rfl (Or.inl ⟨by kernel_rfl,fun u hu=>ZfJ ((World.cell?_of_block (hu.block b1 hb1)).trans x2) (.tmp 39) (by kernel_rfl) (by kernel_rfl)⟩) HS ?_
   simp only[Act.put,Y_a,Y_b,Y_c]
   refine Y_t 7 41 _ (.int .i64 (j:Int)) rfl (Or.inl ⟨by kernel_rfl,fun u hu=>by kernel_rfl⟩) HS ?_
   simp only[Act.put,Y_a,Y_b,Y_c]
   refine Y_t 8 42 _ (.pointer (some ⟨b2,o2+j * 5,none⟩)) rfl (Or.inl ⟨by kernel_rfl,fun u hu=>ZmZ (c:=pc) hjl (.tmp 40) (.tmp 41) (by kernel_rfl) (by kernel_rfl) (by kernel_rfl)⟩) HS ?_
   simp only[Act.put,Y_a,Y_b,Y_c]
   refine Y_t 9 43 _ (hkV hk1 (.slice yo hk1.ls.length yc)) rfl (Or.inl ⟨by kernel_rfl,fun u hu=>Zom (hat.low hu) (.tmp 42) (by kernel_rfl) (by kernel_rfl)⟩) HS ?_
   simp only[Act.put,Y_a,Y_b,Y_c]
   refine ZdM 1 35 _ 10 44 _ rfl (by kernel_rfl) rfl (by kernel_rfl) (by kernel_rfl) (by kernel_rfl) (by kernel_rfl) (.slice ho P.length hc) wd (ZfJ c2d (.tmp 34) (by kernel_rfl) (by kernel_rfl)) HS 45 (.func 45) #[.tmp 43] #[45] (by kernel_rfl) #[] (by kernel_rfl) #[hkV hk1 (.slice yo hk1.ls.length yc)] (by kernel_rfl) (enters_of Tryz.func45 (by kernel_rfl) rfl) Rr (fun _ _=>False) (fun _ _ h=>h.elim) hcall ?_ ?_
   ·simp only[Act.put,Y_a,Y_b,Y_c]
    refine ZdF 10 44 _ rfl (by kernel_rfl) (by kernel_rfl) (by kernel_rfl) 45 (.func 45) #[.tmp 43] #[45] (by kernel_rfl) #[] (by kernel_rfl) #[hkV hk1 (.slice yo hk1.ls.length yc)] (by kernel_rfl) (enters_of Tryz.func45 (by kernel_rfl) rfl) Rr (fun _ _=>False) (fun _ _ h=>h.elim) hcall ?_
    intro v0 u1 hS1 hq
    rw[← HRr.out] at hq
    obtain⟨vo,vc,rfl,hR1,hown1⟩:=hq
    have c1u:=hR1.cells.2.2
    have hRA:=hR1.keep ((Below.refl _ u1).alloc (Nat.le_refl _) (hkO (invH hk1) (.slice vo (invH hk1).ls.length vc)))
    have c2u:=hRA.cells.2.2
    have hSA:=hRA.low
    simp only[Act.put,Y_a,Y_b,Y_c]
    refine Y_v 11 45 _ rfl (.slice (some ⟨u1.heap.size,0,none⟩) 1 1) (u1.alloc (hkO (invH hk1) (.slice vo (invH hk1).ls.length vc))) (by kernel_rfl) hSA ?_
    simp only[Act.put,Y_a,Y_b,Y_c]
    have hownA:=hown1.alloc (hkO (invH hk1) (.slice vo (invH hk1).ls.length vc))
    obtain⟨v3,u3,hr3,hown3,hg3,_⟩:=ZjJ (u1.alloc (hkO (invH hk1) (.slice vo (invH hk1).ls.length vc))) 40 45 40 (.agg #[.int .i64 0,.int .i64 0,.int .i64 0,.int .i64 0,.slice none 0 0]) 5 56 Tryz.underlying40 infoHk rfl (by decide) (by decide) wo.heap.size _ _ _ hRA.own _ 1 (hkC (invH hk1) (.slice vo (invH hk1).ls.length vc)) (Zhz u1 (invH hk1) (.slice vo (invH hk1).ls.length vc)) rfl (fun u hu=>by simp[hkC] at hu;rcases hu with rfl | rfl | rfl | rfl | rfl<;>rfl) (by omega) hRA.low.size
    have hR3:=hRA.more hownA hg3 hown3
    obtain⟨o3,k3,rfl⟩:=(Zeo hown3).form
    refine Y_v 12 46 _ rfl (.slice o3 (P.length+1) k3) u3 (ZcT (.tmp 35) (.tmp 45) (by kernel_rfl) (by kernel_rfl) (by kernel_rfl) hr3) hR3.2.2.2 ?_
    simp only[Act.put,Y_a,Y_b,Y_c]
    have HS:=hR3.2.2.2
    refine Y_t 13 47 _ (.pointer (some ⟨S,2,none⟩)) rfl (Or.inl ⟨by kernel_rfl,fun u hu=>by kernel_rfl⟩) HS ?_
    simp only[Act.put,Y_a,Y_b,Y_c]
    refine Y_s 14 _ rfl (u3.setCell ⟨S,2,none⟩ (.slice o3 (P.length+1) k3)) (ZcZ hR3.2.1 hR3.2.2.1 (.tmp 47) (.tmp 46) (by kernel_rfl) (by kernel_rfl) (by kernel_rfl)) hR3.1.low ?_
    refine wpAnyH_done (by kernel_rfl) ?_ _
    have hR4:=hR3.1
    go_wp2
    exact⟨⟨j+1,P++[(invH hk1,.slice vo (invH hk1).ls.length vc)],o3,k3,by omega,by go_num,by rw[List.length_append];exact hR4,by show _=_;rw[List.length_append,hPj.out];rfl,by have h:=HQ2.out;show _=_;rw[← h];simp⟩,by simp[intOf];omega⟩
   ·intro v0 u1 hS1 hq
    rw[← HRr.out] at hq
    obtain⟨vo,vc,rfl,hR1,hown1⟩:=hq
    have c1u:=hR1.cells.2.2
    have hRA:=hR1.keep ((Below.refl _ u1).alloc (Nat.le_refl _) (hkO (invH hk1) (.slice vo (invH hk1).ls.length vc)))
    have c2u:=hRA.cells.2.2
    have hSA:=hRA.low
    simp only[Act.put,Y_a,Y_b,Y_c]
    refine ZdJ 1 35 _ 11 45 _ rfl (by kernel_rfl) rfl (by kernel_rfl) (by kernel_rfl) (by kernel_rfl) (by kernel_rfl) (.slice ho P.length hc) u1 (ZfJ c1u (.tmp 34) (by kernel_rfl) (by kernel_rfl)) hS1 (.slice (some ⟨u1.heap.size,0,none⟩) 1 1) (u1.alloc (hkO (invH hk1) (.slice vo (invH hk1).ls.length vc))) (by kernel_rfl) hSA ?_ ?_
    ·simp only[Act.put,Y_a,Y_b,Y_c]
     refine Y_v 11 45 _ rfl (.slice (some ⟨u1.heap.size,0,none⟩) 1 1) (u1.alloc (hkO (invH hk1) (.slice vo (invH hk1).ls.length vc))) (by kernel_rfl) hSA ?_
     simp only[Act.put,Y_a,Y_b,Y_c]
     have hownA:=hown1.alloc (hkO (invH hk1) (.slice vo (invH hk1).ls.length vc))
     obtain⟨v3,u3,hr3,hown3,hg3,_⟩:=ZjJ (u1.alloc (hkO (invH hk1) (.slice vo (invH hk1).ls.length vc))) 40 45 40 (.agg #[.int .i64 0,.int .i64 0,.int .i64 0,.int .i64 0,.slice none 0 0]) 5 56 Tryz.underlying40 infoHk rfl (by decide) (by decide) wo.heap.size _ _ _ hRA.own _ 1 (hkC (invH hk1) (.slice vo (invH hk1).ls.length vc)) (Zhz u1 (invH hk1) (.slice vo (invH hk1).ls.length vc)) rfl (fun u hu=>by simp[hkC] at hu;rcases hu with rfl | rfl | rfl | rfl | rfl<;>rfl) (by omega) hRA.low.size
     have hR3:=hRA.more hownA hg3 hown3
     obtain⟨o3,k3,rfl⟩:=(Zeo hown3).form
     refine Y_v 12 46 _ rfl (.slice o3 (P.length+1) k3) u3 (ZcT (.tmp 35) (.tmp 45) (by kernel_rfl) (by kernel_rfl) (by kernel_rfl) hr3) hR3.2.2.2 ?_
     simp only[Act.put,Y_a,Y_b,Y_c]
     have HS:=hR3.2.2.2
     refine Y_t 13 47 _ (.pointer (some ⟨S,2,none⟩)) rfl (Or.inl ⟨by kernel_rfl,fun u hu=>by kernel_rfl⟩) HS ?_
     simp only[Act.put,Y_a,Y_b,Y_c]
     refine Y_s 14 _ rfl (u3.setCell ⟨S,2,none⟩ (.slice o3 (P.length+1) k3)) (ZcZ hR3.2.1 hR3.2.2.1 (.tmp 47) (.tmp 46) (by kernel_rfl) (by kernel_rfl) (by kernel_rfl)) hR3.1.low ?_
     refine wpAnyH_done (by kernel_rfl) ?_ _
     have hR4:=hR3.1
     go_wp2
     exact⟨⟨j+1,P++[(invH hk1,.slice vo (invH hk1).ls.length vc)],o3,k3,by omega,by go_num,by rw[List.length_append];exact hR4,by show _=_;rw[List.length_append,hPj.out];rfl,by have h:=HQ2.out;show _=_;rw[← h];simp⟩,by simp[intOf];omega⟩
    ·simp only[Act.put,Y_a,Y_b,Y_c]
     refine Y_v 1 35 _ rfl (.slice ho P.length hc) (u1.alloc (hkO (invH hk1) (.slice vo (invH hk1).ls.length vc))) (ZfJ c2u (.tmp 34) (by kernel_rfl) (by kernel_rfl)) hSA ?_
     simp only[Act.put,Y_a,Y_b,Y_c]
     have hownA:=hown1.alloc (hkO (invH hk1) (.slice vo (invH hk1).ls.length vc))
     obtain⟨v3,u3,hr3,hown3,hg3,_⟩:=ZjJ (u1.alloc (hkO (invH hk1) (.slice vo (invH hk1).ls.length vc))) 40 45 40 (.agg #[.int .i64 0,.int .i64 0,.int .i64 0,.int .i64 0,.slice none 0 0]) 5 56 Tryz.underlying40 infoHk rfl (by decide) (by decide) wo.heap.size _ _ _ hRA.own _ 1 (hkC (invH hk1) (.slice vo (invH hk1).ls.length vc)) (Zhz u1 (invH hk1) (.slice vo (invH hk1).ls.length vc)) rfl (fun u hu=>by simp[hkC] at hu;rcases hu with rfl | rfl | rfl | rfl | rfl<;>rfl) (by omega) hRA.low.size
     have hR3:=hRA.more hownA hg3 hown3
     obtain⟨o3,k3,rfl⟩:=(Zeo hown3).form
     refine Y_v 12 46 _ rfl (.slice o3 (P.length+1) k3) u3 (ZcT (.tmp 35) (.tmp 45) (by kernel_rfl) (by kernel_rfl) (by kernel_rfl) hr3) hR3.2.2.2 ?_
     simp only[Act.put,Y_a,Y_b,Y_c]
     have HS:=hR3.2.2.2
     refine Y_t 13 47 _ (.pointer (some ⟨S,2,none⟩)) rfl (Or.inl ⟨by kernel_rfl,fun u hu=>by kernel_rfl⟩) HS ?_
     simp only[Act.put,Y_a,Y_b,Y_c]
     refine Y_s 14 _ rfl (u3.setCell ⟨S,2,none⟩ (.slice o3 (P.length+1) k3)) (ZcZ hR3.2.1 hR3.2.2.1 (.tmp 47) (.tmp 46) (by kernel_rfl) (by kernel_rfl) (by kernel_rfl)) hR3.1.low ?_
     refine wpAnyH_done (by kernel_rfl) ?_ _
     have hR4:=hR3.1
     go_wp2
     exact⟨⟨j+1,P++[(invH hk1,.slice vo (invH hk1).ls.length vc)],o3,k3,by omega,by go_num,by rw[List.length_append];exact hR4,by show _=_;rw[List.length_append,hPj.out];rfl,by have h:=HQ2.out;show _=_;rw[← h];simp⟩,by simp[intOf];omega⟩
  ·have jend:¬ (j:Int)<(q.length:Int):=by omega
   have hQ:=HQ.out
   rw[List.drop_of_length_le (by omega),List.map_nil,List.append_nil] at hQ
   have HL2:Hid ((G++[(⟨⟨n1,n2,P.map (·.1)⟩,.slice ho P.length hc,P⟩:Pfd)]).map (·.x)++((F.drop (k+1)).map fun x=>invP x.x)=L):=HI2.out (.slice ho P.length hc) P hQ
   clear HQ hQ HI2
   go_upto_region 10 with fail
   obtain⟨hRq,hPq⟩:=ZyH hPw hP
   obtain⟨t0,t1,t2⟩:=hP.cells
   have hRA:=ZiO hRq ((Below.refl _ wr).alloc (Nat.le_refl _) (pxO ⟨⟨n1,n2,P.map (·.1)⟩,.slice ho P.length hc,P⟩))
   have hPA:=hPq.keep ((Below.refl _ wr).alloc (Nat.le_refl _) (pxO ⟨⟨n1,n2,P.map (·.1)⟩,.slice ho P.length hc,P⟩))
   have hownA:=hRA.own
   have hbase:=hRA.low.size
   have hrow:Holds _ _ 1 (pxC ⟨⟨n1,n2,P.map (·.1)⟩,.slice ho P.length hc,P⟩):=Zhx wr ⟨⟨n1,n2,P.map (·.1)⟩,.slice ho P.length hc,P⟩
   have hGl:G.length+1≤2199023255552:=(by have:=HG.out;have:=HK1.out;omega)
   have HK2:=HK1.out.1
   clear hRq hPq hP x2w
   unfold pxO at hRA hPA hownA hbase hrow
   dsimp only at hRA hPA hownA hbase hrow
   go_wp2_with (at_builtin;refine Zmi _ (by kernel_rfl) (.tmp 48) (.tmp 50) 22 42 (.agg #[.string ⟨#[]⟩,.string ⟨#[]⟩,.slice none 0 0]) 3 56 rfl Tryz.underlying22 infoPx rfl (by decide) (by decide) w.heap.size _ _ _ rfl hownA _ 1 (pxC ⟨⟨n1,n2,P.map (·.1)⟩,.slice ho P.length hc,P⟩) rfl hrow rfl (fun u hu=>by simp[pxC] at hu;rcases hu with rfl | rfl | rfl<;>rfl) hGl hbase ?_)
   intro v9 u9 ho9 hg9 _
   have hR9:=ZyI hRA hPA hg9 ho9
   obtain⟨o9,c9,rfl⟩:=(Zeo ho9).form
   clear hRA hPA hownA hbase hrow ho9 hg9 t0 t1 t2
   go_wp2
   exact⟨⟨k+1,G++[⟨⟨n1,n2,P.map (·.1)⟩,.slice ho P.length hc,P⟩],o9,c9,HK2,by rw[List.length_append];rfl,by go_num,hR9,by show _=_;rw[List.length_append,HG.out];rfl,HL2⟩,by simp[intOf];omega⟩
 ·have hend:¬ (k:Int)<(F.length:Int):=by omega
  have hI:=HI.out
  rw[List.drop_of_length_le (by omega),List.map_nil,List.append_nil] at hI
  clear HI
  go_wp2
  go_ret
  exact⟨_,rfl,G,hPw,hI⟩
end

section
open Ln
section
variable {o w:Sde} {i j f:Nat}
end
end

section
open Go.RowKit
attribute [local go_sem] ByteArray.extract_mk Zhc
def RdZ (u:World) (R:Nat) (vL:Value):Except (Nat × Int) Nat→Prop
 | .ok p=>Rx u R vL (p:Int) 0 0
 | .error (a,z)=>(∃ p':Nat,Rx u R vL (p':Int) (a:Int) z)∧z≠0
theorem RdZ.keep {u u':World} {R:Nat} {vL:Value} {st:Except (Nat × Int) Nat} (h:RdZ u R vL st) (hk:∀ {p fa fe:Int},Rx u R vL p fa fe→Rx u' R vL p fa fe):RdZ u' R vL st:=by
 match st,h with
 | .ok _,h=>exact hk h
 | .error (_,_),⟨⟨p',h⟩,h2⟩=>exact⟨⟨p',hk h⟩,h2⟩
theorem RdZ.low {u u':World} {R:Nat} {vL:Value} {st:Except (Nat × Int) Nat} (h:RdZ u R vL st) (hb:Below u.heap.size u u'):RdZ u' R vL st:=h.keep fun q=>(hb.block R q.lt).trans q
theorem RdZ.off {u u':World} {R:Nat} {vL:Value} {st:Except (Nat × Int) Nat} {g:Option Nat} (h:RdZ u R vL st) (hg:u.grownBy u' g) (hr:some R≠g):RdZ u' R vL st:=h.keep fun q=>(hg.block R q.lt hr).trans q
theorem RdZ.dN {u:World} {R:Nat} {vL:Value} {st:Except (Nat × Int) Nat} (h:RdZ u R vL st) (n:Nat):RdZ (u.drewN n) R vL st:=h.keep fun q=>q.dN n
theorem RdZ.lt {u:World} {R:Nat} {vL:Value} {st:Except (Nat × Int) Nat} (h:RdZ u R vL st):R<u.heap.size:=by
 match st,h with
 | .ok _,h=>exact Rx.lt h
 | .error (_,_),⟨⟨_,h⟩,_⟩=>exact Rx.lt h
def feS:Except (Nat × Int) Nat→Int
 | .ok _=>0
 | .error (_,z)=>z
theorem RdZ.fe {u:World} {R:Nat} {vL:Value} {st:Except (Nat × Int) Nat} (h:RdZ u R vL st):u.cell? ⟨R,3,none⟩=some (.int .i64 (feS st)):=by
 match st,h with
 | .ok _,h=>exact (Rx.cells h).2.2.2
 | .error (_,_),⟨⟨_,h⟩,_⟩=>exact (Rx.cells h).2.2.2
def NxQ (R:Nat) (vL:Value) (Z:Except (Nat × Int) (List UInt8 × Nat)) (x:Ending) (w':World):Prop :=
 match Z with
 | .error e=>x=.returned (.string ⟨#[]⟩)∧RdZ w' R vL (.error e)
 | .ok (s,p1)=>x=.returned (.string ⟨s.toArray⟩)∧RdZ w' R vL (.ok p1)
end

section
open Q Go.RowKit Go.Proofs.YtcniomgjikienaaGreatDoor.Tx Go.Shelf
attribute [local go_sem] ZaB ByteArray.extract_mk
end

section
open Go.RowKit Go.Proofs.YtcniomgjikienaaGreatDoor.Tx
attribute [local go_sem] ByteArray.extract_mk Zhc
end

section
open Go.RowKit
attribute [local go_sem] ByteArray.extract_mk Zhc
theorem Zkq {q:UInt8→Bool}:∀ (s:List UInt8) (i:Nat) (hi:i<s.length),q s[i]=true→(∀ j (hj:j<i),q (s[j]'(by omega))=false)→spB q s=some (s.take i,s[i],s.drop (i+1))
 | [],_,hi,_,_=>by simp at hi
 | c::t,0,_,hq,_=>by
  simp only[List.getElem_cons_zero] at hq
  simp[spB,hq]
 | c::t,i+1,hi,hq,h=>by
  have h0:=h 0 (by omega)
  simp only[List.getElem_cons_zero] at h0
  have ih:=Zkq t i (by simpa using hi) (by simpa using hq) (fun j hj=>by have:=h (j+1) (by omega);simpa using this)
  simp[spB,h0,ih]
theorem Zkr {q:UInt8→Bool}:∀ (s:List UInt8),(∀ j (hj:j<s.length),q s[j]=false)→spB q s=none
 | [],_=>rfl
 | c::t,h=>by
  have h0:=h 0 (by simp)
  simp only[List.getElem_cons_zero] at h0
  have ih:=Zkr t (fun j hj=>by have:=h (j+1) (by simp;omega);simpa using this)
  simp[spB,h0,ih]
def LnsP (s:List UInt8) (x:Ending):Prop :=
 match lnsP s with
 | some (A,N)=>x=.returned (.tuple #[.int .i64 A,.int .i64 N,.bool true])
 | none=>∃ A N,x=.returned (.tuple #[.int .i64 A,.int .i64 N,.bool false])
theorem LnsP.mk0 {s:List UInt8} (h2:∀ j (hj:j<s.length),isK s[j]=false) {b:Bool} (hb:(decide (Pn.parseE s=0) && decide (1≤Pn.parseV s))=b) :
  LnsP s (.returned (.tuple #[.int .i64 (Pn.parseV s),.int .i64 1,.bool b])):=by
 unfold LnsP lnsP
 rw[Zkr s h2]
 dsimp only
 cases b with
 | true =>
  simp only[Bool.and_eq_true,decide_eq_true_eq] at hb
  rw[if_pos hb]
 | false =>
  rw[if_neg (by intro hq;simp[hq] at hb)]
  exact⟨_,_,rfl⟩
end

section
open Go.RowKit
attribute [local go_sem] ByteArray.extract_mk Zhc
abbrev ptO5 (a p n:Int) (vk vl:Value):Obj:=.cells #[.int .i64 a,.int .i64 p,.int .i64 n,vk,vl] 176
def Bp5 (u:World) (b:Nat) (a p n:Int) (vk vl:Value):Prop:=u.heap[b]?=some (ptO5 a p n vk vl)
section
variable {u u':World} {b:Nat} {a p n:Int} {vk vl:Value}
theorem Bp5.cells (q:Bp5 u b a p n vk vl):u.cell? ⟨b,0,none⟩=some (.int .i64 a)∧u.cell? ⟨b,1,none⟩=some (.int .i64 p)∧u.cell? ⟨b,2,none⟩=some (.int .i64 n)∧u.cell? ⟨b,3,none⟩=some vk∧u.cell? ⟨b,4,none⟩=some vl:=by
 unfold Bp5 ptO5 at q
 refine⟨?_,?_,?_,?_,?_⟩<;>rw[Lib.cell_of_heap q]<;>rfl
theorem Bp5.frozen (q:Bp5 u b a p n vk vl) (j:Nat):u.frozen? ⟨b,j,none⟩=false:=Lib.frozen_of_heap q j
theorem Bp5.lt (q:Bp5 u b a p n vk vl):b<u.heap.size:=(Array.getElem?_eq_some_iff.1 q).1
theorem Bp5.off (q:Bp5 u b a p n vk vl) {g:Option Nat} (hg:u.grownBy u' g) (hr:some b≠g):Bp5 u' b a p n vk vl:=(hg.block b q.lt hr).trans q
theorem Bp5.low (q:Bp5 u b a p n vk vl) (hb:Below u.heap.size u u'):Bp5 u' b a p n vk vl:=(hb.block b q.lt).trans q
end
def RgR (R:Nat) (vL:Value) (Z:Except (Nat × Int) ((Int × Int) × Nat)) (a p n:Int) (w':World):Prop :=
 match Z with
 | .error x=>RdZ w' R vL (.error x)
 | .ok (q,p1)=>a=(p1:Int)∧p=q.1∧n=q.2∧RdZ w' R vL (.ok p1)
theorem RdZ.at {u:World} {R:Nat} {vL:Value} {st:Except (Nat × Int) Nat} (h:RdZ u R vL st):∃ p':Nat,u.cell? ⟨R,1,none⟩=some (.int .i64 (p':Int))∧∀ p,st=.ok p→p'=p:=by
 match st,h with
 | .ok p,h=>exact⟨p,(Rx.cells h).2.1,fun _ q=>by cases q;rfl⟩
 | .error (_,_),⟨⟨p',h⟩,_⟩=>exact⟨p',(Rx.cells h).2.1,fun _ q=>by cases q⟩
end

section
open Go.RowKit
def kcells (x:Sde):List Value:=x.map fun y=>.int .u8 (y.1.toNat:Int)
def HK (w:World) (v:Value) (x:Sde):Prop:=Holds w v x.length (kcells x)
theorem Zfg (x:Sde):(kcells x).length=x.length:=by simp[kcells]
theorem HK.at {w:World} {ao:Option Addr} {n c:Nat} {x:Sde} (h:HK w (.slice ao n c) x) (h0:0<x.length):∃ b off,ao=some ⟨b,off,none⟩∧b<w.heap.size∧∀ k (hk:k<x.length),w.cell? ⟨b,off+k,none⟩=some (.int .u8 (x[k].1.toNat:Int)):=by
 obtain⟨b,off,c',hv,hb,hc⟩:=Holds.at h (by rw[Zfg];exact h0)
 cases hv
 refine⟨b,off,rfl,hb,fun k hk=>?_⟩
 have:=hc k (by rw[Zfg];exact hk)
 simpa [kcells] using this
theorem HK.keep {w w':World} {v:Value} {x:Sde} (h:HK w v x) (hb:Below w.heap.size w w'):HK w' v x:=Holds.keep h fun k hk=>hb.block k hk
structure Hsd (w:World) (vk vl:Value) (x:Sde):Prop where
 k:HK w vk x
 l:HS w vl (x.map (·.2))
theorem Hsd.keep {w w':World} {vk vl:Value} {x:Sde} (h:Hsd w vk vl x) (hb:Below w.heap.size w w'):Hsd w' vk vl x:=⟨h.k.keep hb,HS.keep h.l hb (Nat.le_refl _)⟩
theorem Hsd.form {w:World} {vk vl:Value} {x:Sde} (h:Hsd w vk vl x):∃ ko kc lo lc,vk=.slice ko x.length kc∧vl=.slice lo x.length lc:=by
 obtain⟨ko,kc,h1⟩:=Holds.form h.k
 obtain⟨lo,lc,h2⟩:=Holds.form h.l
 rw[List.length_map] at h2
 exact⟨ko,kc,lo,lc,h1,h2⟩
end

end Go.Proofs.YtcniomgjikienaaGreatDoor
