/-
  For every two numbers and every two texts, together at most 1048576 letters, the law ViewsRows returns true and leaves its arguments as they were: side by side there are as many rows as the script says, and no row is too long.
-/
import Derived.Test.YtcnjephlmcnodaaGreatDoorVzA14
import Derived.Test.YtcnjephlmcnodaaGreatDoorVzA12
import Derived.Test.YtcnjephlmcnodaaGreatDoorVzA11
import Derived.Test.YtcnjephlmcnodaaGreatDoorVzA15
import Derived.Test.YtcnjephlmcnodaaGreatDoorCards
import Derived.Test.YtcnjephlmcnodaaGreatDoorTie
import Derived.Test.YtcnjephlmcnodaaGreatDoorVzA2
import Derived.Test.YtcnjephlmcnodaaGreatDoorVzA7
import Derived.ProofKit
import Derived.OpenShut
import Derived.ShutString
import Derived.JoinedCond
import Derived.Deep.DeepHandedRow
import Derived.Lib.LaidTab
import Derived.LaidSub
set_option maxRecDepth 20000
namespace Go.Proofs.YtcnjephlmcnodaaGreatDoor.viewsRows
open Go.RowKit Go.Proofs.YtcnjephlmcnodaaGreatDoor.Tx
attribute [local go_sem] ZhN
theorem Zjt (k:Int) (m:Int) (h0:0<m) (h1:m≤1000):∃ c,wrap64 ((IntKind.u64.wrap k).tmod m)=c∧0≤c∧c<m:=by
 refine⟨_,rfl,?_⟩
 have h:0≤IntKind.u64.wrap k:=by simp[IntKind.wrap,IntKind.bits,IntKind.signed];omega
 generalize IntKind.u64.wrap k=z at h ⊢
 rw[Int.tmod_eq_emod_of_nonneg h]
 have h2:=Int.emod_nonneg z (by omega:m≠0)
 have h3:=Int.emod_lt_of_pos z h0
 unfold wrap64
 omega
theorem Znq (a b:List Ch):vsN (a++b)=vsN a+vsN b:=by
 induction a with
 | nil=>simp[vsN]
 | cons c a ih=>simp only[List.cons_append,vsN,ih];omega
theorem Zns {l:List Ch} {k:Nat} (hk:k<l.length):vsN (l.take (k+1))=vsN (l.take k)+(max l[k].AN l[k].BN-l[k].AN):=by
 rw[List.take_succ_eq_append_getElem hk,Znq]
 simp[vsN]
theorem Znt {l:List Ch} {M:Int} (h:∀ c∈l,0≤c.AN∧c.AN≤M∧0≤c.BN∧c.BN≤M) (_:0≤M):0≤vsN l∧vsN l≤l.length * M:=by
 induction l with
 | nil=>simp[vsN]
 | cons c l ih =>
  have h1:=h c (by simp)
  have h2:=ih fun x hx=>h x (by simp[hx])
  have e:((c::l).length:Int) * M=(l.length:Int) * M+M:=by
   rw[List.length_cons]
   push_cast
   rw[Int.add_mul]
   omega
  simp only[vsN]
  omega
/-- a row as a walk reads it -/
theorem ZjP {W:Nat} {u:List UInt8} (h:RowB W u):0<u.length∧u.length≤2 * W+4∧(∀ h0:u.length-1<u.length,u[u.length-1]=10)∧(∀ h0:u.length-2<u.length,1<u.length→u[u.length-2]≠32):=by
 obtain⟨h1,t,rfl,h2,h3⟩:=h
 refine⟨by simp,h1,fun h0=>?_,fun h0 hl=>?_⟩
 ·simp
 ·have ht:t≠[]:=by rintro rfl;simp at hl
  have:=h3 _ (List.getLast?_eq_some_getLast ht)
  rw[List.getLast_eq_getElem] at this
  have e:(t++[10])[(t++[10]).length-2]'h0=t[t.length-1]'(by have:=List.length_pos_iff.2 ht;omega):=by
   have hp:=List.length_pos_iff.2 ht
   rw[List.getElem_append_left (by simp;omega)]
   congr 1
   simp
  rw[e]
  exact this
theorem Znn {u:World} {p q r:Int} (h:IntKind.i64.wrap (p * q)=r) {op:Oper} (x l:Operand) (ho:op.op=.binOp .mul 3 x l 3) {ev:Operand→Value} (hx:ev x=.int .i64 p) (hl:ev l=.int .i64 q) :
  (execOp ev op).run Tryz.prog u=.ok (.value (.int .i64 r)) u:=by
 subst h
 simp only[execOp,ho,hx,hl]
 go_simp
theorem Znm {u:World} {p q:Int} {b:Bool} (h:decide (q<p)=b) {op:Oper} (x l:Operand) (ho:op.op=.binOp .gtr 3 x l 3) {ev:Operand→Value} (hx:ev x=.int .i64 p) (hl:ev l=.int .i64 q) :
  (execOp ev op).run Tryz.prog u=.ok (.value (.bool b)) u:=by
 subst h
 simp only[execOp,ho,hx,hl]
 go_simp
theorem Znl {u:World} {s:List UInt8} (h10:s=[10]) {op:Oper} (p q:Operand) (ho:op.op=.index 9 p q) {ev:Operand→Value} (h1:ev p=.string ⟨s.toArray⟩) (h2:ev q=.int .i64 0) :
  (execOp ev op).run Tryz.prog u=.ok (.value (.int .u8 10)) u:=by
 subst h10
 simp only[execOp,ho,h1,h2]
 go_simp
set_option maxRecDepth 20000 in
set_option maxHeartbeats 8000000 in
theorem walk (k0:Int) (s t:List UInt8) (n0:Int) (w:World) (hl:s.length+t.length≤1048576) :
  Calls Tryz.prog 4 #[.int .i64 k0,.string ⟨s.toArray⟩,.string ⟨t.toArray⟩,.int .i64 n0] w fun e w'=>e=.returned (.bool true)∧Below w.heap.size w w':=by
 have hsx:=fun u=>ZhK s u (by omega)
 have hsy:=fun u=>ZhK t u (by omega)
 have hflx:(Ln.splitL s).flatten.length=s.length:=congrArg List.length (Ln.split_join s)
 have hfly:(Ln.splitL t).flatten.length=t.length:=congrArg List.length (Ln.split_join t)
 have HBK:Hid (∀ (W:Nat) (l:List Ch),Script l (Ln.splitL s).length (Ln.splitL t).length→Ln.splitL (vsL W l (Ln.splitL s) (Ln.splitL t)).flatten=vsL W l (Ln.splitL s) (Ln.splitL t)∧((vsL W l (Ln.splitL s) (Ln.splitL t)).length:Int)=(Ln.splitL s).length+vsN l∧∀ r∈vsL W l (Ln.splitL s) (Ln.splitL t),RowB W r):=fun W l h=>Znx h
 obtain⟨x,hx⟩:∃ x,Ln.splitL s=x:=⟨_,rfl⟩
 obtain⟨y,hy⟩:∃ y,Ln.splitL t=y:=⟨_,rfl⟩
 rw[hx] at hsx hflx
 rw[hy] at hsy hfly
 rw[hx,hy] at HBK
 clear hx hy
 go_enter Tryz.func4,Tryz.ntmps4
 go_wp2_with fail
 refine (ZnC w).mono ?_
 rintro e w0 ⟨rfl,hB0⟩
 go_wp2_with fail
 refine (hsx w0).mono ?_
 rintro e w1 ⟨v1,rfl,hown1,hB1⟩
 have ha1:HS w1 v1 x:=holds_of hown1
 obtain⟨ao,ac,rfl⟩:=Holds.form ha1
 clear hown1 hsx
 go_wp2_with fail
 refine (hsy w1).mono ?_
 rintro e w2 ⟨v2,rfl,hown2,hB2⟩
 have hb2:HS w2 v2 y:=holds_of hown2
 obtain⟨bo,bc,rfl⟩:=Holds.form hb2
 have ha2:=HS.keep ha1 hB2 (Nat.le_refl _)
 have hB01:=hB0.trans (hB1.mono hB0.size)
 have hB02:=hB01.trans (hB2.mono hB01.size)
 clear hown2 hsy ha1 hB0 hB1 hB2 hB01
 by_cases h1:200<x.length
 ·have i1:(200:Int)<(x.length:Int):=by omega
  go_wp2
  go_ret
  exact⟨rfl,hB02⟩
 have i1:¬ (200:Int)<(x.length:Int):=by omega
 by_cases h2:200<y.length
 ·have i2:(200:Int)<(y.length:Int):=by omega
  go_wp2
  go_ret
  exact⟨rfl,hB02⟩
 have i2:¬ (200:Int)<(y.length:Int):=by omega
 have HTX:Hid (∀ u∈x,u.length≤1048576):=fun u hu=>Zhv hu (by omega)
 have HTY:Hid (∀ u∈y,u.length≤1048576):=fun u hu=>Zhv hu (by omega)
 obtain⟨c,hc,hc0,hc1⟩:=Zdf k0 4 (by decide) (by decide)
 obtain⟨K,hK⟩:∃ K,1+c=K:=⟨_,rfl⟩
 have wK:IntKind.i64.wrap K=K:=wrap_small _ (by omega) (by omega)
 obtain⟨d,hd,hd0,hd1⟩:=Zjt n0 200 (by decide) (by decide)
 obtain⟨W,hW⟩:∃ W:Nat,1+d=(W:Int):=⟨(1+d).toNat,by omega⟩
 have hW2:1≤W∧W≤200:=by omega
 have wW:IntKind.i64.wrap (W:Int)=(W:Int):=wrap_small _ (by omega) (by omega)
 obtain⟨L,hL⟩:∃ L,mkL (eng K (clx ig0 x y) (cly ig0 x y)) y.length=L:=⟨_,rfl⟩
 have HL:Hid (mkL (eng K (clx ig0 x y) (cly ig0 x y)) y.length=L):=hL
 obtain⟨hS,hU,hLl⟩:=Zdx K x y (by omega) (by omega) hL
 obtain⟨b1,b2,b3⟩:=HBK.out W L hS
 have hmem:=Zjv hS.2.2
 have hsx2:∀ q∈L,q.AN≤(x.length:Int):=(by
  intro q hq
  obtain⟨m1,m2,m3⟩:=hmem q hq
  rw[ZhO] at m1
  omega)
 have hsm:∀ q∈L,0≤q.AN∧q.AN≤200∧0≤q.BN∧q.BN≤200:=(by
  intro q hq
  obtain⟨m1,m2,m3⟩:=hmem q hq
  rw[ZhO] at m1
  omega)
 obtain⟨R,hR⟩:∃ R,vsL W L x y=R:=⟨_,rfl⟩
 obtain⟨S,hSS⟩:∃ S,(vsL W L x y).flatten=S:=⟨_,rfl⟩
 have lS:S.length≤1099511627776:=(by
  rw[← hSS]
  have hs:=Znp W L x y
  have h3:(2 * x.length+y.length) * (2 * W+4)≤600 * 404:=Nat.mul_le_mul (by omega) (by omega)
  have h4:(L.length+1) * ((2 * x.length+y.length) * (2 * W+4))≤202 * (600 * 404):=Nat.mul_le_mul (by omega) h3
  omega)
 have hn0:=En_f K ig0 x y _ _ w2 ha2 hb2 (by omega) (by omega) (by omega) (fun u hu=>by have:=HTX.out u hu;omega) (fun u hu=>by have:=HTY.out u hu;omega) L HL
 have hsd:=fun v vL (h3:HCh v vL L) (h4:HS v (.slice ao x.length ac) x) (h5:HS v (.slice bo y.length bc) y)=>ZmS L x y (W:Int) vL _ _ v h3 h4 h5 (by omega) (by omega) (by omega) (fun u hu=>by have:=HTX.out u hu;omega) (fun u hu=>by have:=HTY.out u hu;omega) 0 (by show _=_;unfold vsE;rw[Zcj hS,if_neg (by simp),if_pos (by omega)]) S (by show _=_;rw[if_pos rfl,show ((W:Int)).toNat=W by omega];exact hSS)
 have hrows:=fun u=>ZhK S u (by omega)
 rw[hSS,hR] at b1
 rw[b1] at hrows
 rw[hR] at b2 b3
 have HRB:Hid (∀ r∈R,RowB W r):=b3
 have HSX:Hid (∀ q∈L,q.AN≤(x.length:Int)):=hsx2
 have HSM:Hid (∀ q∈L,0≤q.AN∧q.AN≤200∧0≤q.BN∧q.BN≤200):=hsm
 have HRN:Hid ((R.length:Int)=x.length+vsN L):=b2
 have hRl:R.length≤1000000:=(by
  have hv:=Znt (l:=L) (M:=200) hsm (by decide)
  have h5:((L.length:Int)) * 200≤201 * 200:=by omega
  omega)
 clear HBK HTX HTY hL HL hS hU b1 b2 b3 hR hSS hmem hsm hsx2
 go_wp2_with fail
 refine hn0.mono ?_
 rintro e w3 ⟨v3,rfl,hv3,hB3⟩
 obtain⟨o3,c3,rfl⟩:=Holds.form hv3
 have ha3:=HS.keep ha2 hB3 (Nat.le_refl _)
 have hb3:=HS.keep hb2 hB3 (Nat.le_refl _)
 have hB03:=hB02.trans (hB3.mono hB02.size)
 clear hn0 ha2 hb2 hB3 hB02
 go_wp2_with fail
 refine (hsd w3 _ hv3 ha3 hb3).mono ?_
 rintro e w4 ⟨rfl,hB4⟩
 have hv4:=HCh.keep hv3 hB4 (Nat.le_refl _)
 have hB04:=hB03.trans (hB4.mono hB03.size)
 clear hsd hv3 ha3 hb3 hB4 hB03
 go_wp2_with fail
 refine (hrows w4).mono ?_
 rintro e w5 ⟨v5,rfl,hown5,hB5⟩
 have hr5:HS w5 v5 R:=holds_of hown5
 obtain⟨ro,rc,rfl⟩:=Holds.form hr5
 have hv5:=HCh.keep hv4 hB5 (Nat.le_refl _)
 have hB05:=hB04.trans (hB5.mono hB04.size)
 clear hrows hown5 hv4 hB5 hB04
 have hLw:Low w5 w5:=Below.refl _ _
 go_wp2
 go_loopw [16,17] (fun nv iv wr=>∃ k:Nat,k≤L.length∧nv=.int .i64 ((x.length:Int)+vsN (L.take k))∧iv=.int .i64 (k:Int)∧Low w5 wr) (fun _ iv _=>L.length-(intOf iv).toNat)
 case atStart=>exact⟨0,Nat.zero_le _,by simp[vsN],rfl,hLw⟩
 case round =>
 clear hLw
 obtain⟨k,hk,rfl,rfl,hLr⟩:=hrel
 have hsz:=Znt (l:=L.take k) (M:=200) (fun q hq=>HSM.out q (List.mem_of_mem_take hq)) (by decide)
 have hsz2:((L.take k).length:Int) * 200≤201 * 200:=by rw[List.length_take];omega
 by_cases hlt:k<L.length
 ·obtain⟨bk,off,rfl,hbk,hcc⟩:=HCh.at (HCh.keep hv5 hLr (Nat.le_refl _)) (by omega)
  obtain⟨_,q1,_,q3⟩:=hcc k hlt
  have hm:=HSM.out L[k] (List.getElem_mem hlt)
  have hmx:=HSX.out L[k] (List.getElem_mem hlt)
  have HN:Hid (vsN (L.take (k+1))=vsN (L.take k)+(max L[k].AN L[k].BN-L[k].AN)):=Zns hlt
  obtain⟨g,hg⟩:∃ g,L[k]=g:=⟨_,rfl⟩
  rw[hg] at q1 q3 hm hmx HN
  obtain⟨gA,gN,gB,gM⟩:=g
  dsimp only at q1 q3 hm hmx HN
  obtain⟨N,hN⟩:∃ N,vsN (L.take k)=N:=⟨_,rfl⟩
  rw[hN] at hsz HN ⊢
  obtain⟨M,hM⟩:∃ M,max gN gM=M:=⟨_,rfl⟩
  rw[hM] at HN
  have i3:(0:Int)≤(k:Int):=by omega
  have i4:(k:Int)<(L.length:Int):=by omega
  have z1:IntKind.i64.wrap ((x.length:Int)+N-gN)=(x.length:Int)+N-gN:=wrap_small _ (by omega) (by omega)
  have z2:IntKind.i64.wrap ((x.length:Int)+N-gN+M)=(x.length:Int)+N-gN+M:=wrap_small _ (by omega) (by omega)
  clear hcc hg hN hsz hsz2
  go_wp2_with fail
  go_quiet (fail)
  have hLz:Low w5 (wr.drewN nq):=Below.dN hLr nq
  clear hLr
  generalize wr.drewN nq=W6 at hLz ⊢
  go_wp2
  go_roundw
  case rel=>exact⟨k+1,by omega,by rw[HN.out];first | rfl | (congr 1;omega) | (simp;omega),by go_num,hLz⟩
  case measure=>simp[intOf];omega
 ·have hend:¬ (k:Int)<(L.length:Int):=by omega
  have hfin:(x.length:Int)+vsN (L.take k)=(R.length:Int):=by rw[List.take_of_length_le (by omega),HRN.out]
  have hr6:=HS.keep hr5 hLr (Nat.le_refl _)
  have hB06:=hB05.trans (hLr.mono hB05.size)
  clear hr5 hv5 hB05 hsz hsz2 hLr
  rw[hfin]
  clear hfin
  generalize wr=W6 at *
  have hLw:Low W6 W6:=Below.refl _ _
  go_wp2
  go_loopw [18] (fun iv wr=>∃ j:Nat,j≤R.length∧iv=.int .i64 (j:Int)∧Low W6 wr) (fun iv _=>R.length-(intOf iv).toNat)
  case atStart=>exact⟨0,Nat.zero_le _,rfl,hLw⟩
  case round =>
  clear hLw
  obtain⟨j,hj,rfl,hLr⟩:=hrel
  by_cases hjl:j<R.length
  ·obtain⟨bk,off,rfl,hbk,hcc⟩:=HS.at (HS.keep hr6 hLr (Nat.le_refl _)) (by omega)
   have c0:=hcc j hjl
   have hrw:=HRB.out R[j] (List.getElem_mem hjl)
   obtain⟨u,hu⟩:∃ u,R[j]=u:=⟨_,rfl⟩
   rw[hu] at c0 hrw
   obtain⟨p0,p1,p2,p3⟩:=ZjP hrw
   clear hrw
   have i3:(0:Int)≤(j:Int):=by omega
   have i4:(j:Int)<(R.length:Int):=by omega
   have j0:¬ 2 * (W:Int)+4<(u.length:Int):=by omega
   have z1:IntKind.i64.wrap (2 * (W:Int))=2 * (W:Int):=wrap_small _ (by omega) (by omega)
   have z2:IntKind.i64.wrap (2 * (W:Int)+4)=2 * (W:Int)+4:=wrap_small _ (by omega) (by omega)
   have z3:IntKind.i64.wrap ((u.length:Int)-1)=(u.length:Int)-1:=wrap_small _ (by omega) (by omega)
   have j1:(0:Int)≤(u.length:Int)-1:=by omega
   have j1b:(1:Int)≤(u.length:Int):=by omega
   have j2:(u.length:Int)-1<(u.length:Int):=by omega
   have j3:((u.length:Int)-1).toNat=u.length-1:=by omega
   have j4:(((u[u.length-1]'(by omega)).toNat:Int) != 10)=false:=by rw[p2 (by omega)];rfl
   have p2b:=p2 (by omega)
   clear hcc p2
   by_cases hlong:1<u.length
   ·have z4:IntKind.i64.wrap ((u.length:Int)-2)=(u.length:Int)-2:=wrap_small _ (by omega) (by omega)
    have k0:(1:Int)<(u.length:Int):=by omega
    have k1:(0:Int)≤(u.length:Int)-2:=by omega
    have k1b:(2:Int)≤(u.length:Int):=by omega
    have k2:(u.length:Int)-2<(u.length:Int):=by omega
    have k3:((u.length:Int)-2).toNat=u.length-2:=by omega
    have k4:(((u[u.length-2]'(by omega)).toNat:Int) == 32)=false:=(by
     rw[beq_eq_false_iff_ne]
     intro hq
     exact p3 (by omega) hlong (UInt8.toNat_inj.1 (by show _=32;omega)))
    clear p3 p2b hu
    go_wp2_with fail
    go_quiet (fail)
    have hLz:Low W6 (wr.drewN nq):=Below.dN hLr nq
    clear hLr
    generalize wr.drewN nq=W7 at hLz ⊢
    go_wp2
    go_roundw
    case rel=>exact⟨j+1,by omega,by go_num,hLz⟩
    case measure=>simp[intOf];omega
   ·have k0:¬ (1:Int)<(u.length:Int):=by omega
    have k5:decide ((1:Int)<(u.length:Int))=false:=decide_eq_false k0
    have j0d:decide (2 * (W:Int)+4<(u.length:Int))=false:=decide_eq_false j0
    have z5:(u.length:Int)-1=0:=by omega
    have hu1:u.length=1:=by omega
    have hu10:u=[10]:=(by
     have h:=p2b
     cases u with
     | nil=>cases hu1
     | cons a r =>
      cases r with
      | nil =>
       have h:a=10:=h
       rw[h]
      | cons _ _=>simp at hu1)
    have HC:Hid (∀ v,Low W6 v→v.cell? ⟨bk,off+j,none⟩=some (.string ⟨u.toArray⟩)):=(fun v hv=>by
     have h:=Zfo (HS.keep hr6 hv (Nat.le_refl _)) hjl
     rw[hu] at h
     exact h)
    clear p3 p2b hu
    go_wp2_with fail
    refine wp_region_noPanic ?_
    refine wp_region_held_drew (S:=fun v=>Low W6 v) (by kernel_rfl) hLr.drew (fun hHeld=>?_)
    refine Y_t 0 99 _ (.slice (some ⟨bk,off,none⟩) R.length rc) rfl (Or.inl ⟨by kernel_rfl,fun u9 hu9=>by kernel_rfl⟩) hHeld ?_
    simp only[Act.put,Y_a,Y_b,Y_c]
    refine Y_t 1 100 _ (.int .i64 (j:Int)) rfl (Or.inl ⟨by kernel_rfl,fun u9 hu9=>by kernel_rfl⟩) hHeld ?_
    simp only[Act.put,Y_a,Y_b,Y_c]
    refine Y_t 2 101 _ (.pointer (some ⟨bk,off+j,none⟩)) rfl (Or.inl ⟨by kernel_rfl,fun u9 hu9=>Znc (c:=rc) (i:=j) hjl (.tmp 99) (.tmp 100) (by kernel_rfl) (by kernel_rfl) (by kernel_rfl)⟩) hHeld ?_
    simp only[Act.put,Y_a,Y_b,Y_c]
    refine Y_t 3 102 _ (.string ⟨u.toArray⟩) rfl (Or.inl ⟨by kernel_rfl,fun u9 hu9=>Zne (a:=⟨bk,off+j,none⟩) (HC.out u9 hu9) (.tmp 101) (by kernel_rfl) (by kernel_rfl)⟩) hHeld ?_
    simp only[Act.put,Y_a,Y_b,Y_c]
    refine Y_t 4 103 _ (.int .i64 (u.length:Int)) rfl (Or.inl ⟨by kernel_rfl,fun u9 hu9=>by kernel_rfl⟩) hHeld ?_
    simp only[Act.put,Y_a,Y_b,Y_c]
    refine Y_t 5 104 _ (.int .i64 (W:Int)) rfl (Or.inl ⟨by kernel_rfl,fun u9 hu9=>by kernel_rfl⟩) hHeld ?_
    simp only[Act.put,Y_a,Y_b,Y_c]
    refine Y_t 6 105 _ (.int .i64 (2 * (W:Int))) rfl (Or.inl ⟨by kernel_rfl,fun u9 hu9=>Znn z1 (.const (.int .i64 2)) (.tmp 104) (by kernel_rfl) (by kernel_rfl) (by kernel_rfl)⟩) hHeld ?_
    simp only[Act.put,Y_a,Y_b,Y_c]
    refine Y_t 7 106 _ (.int .i64 (2 * (W:Int)+4)) rfl (Or.inl ⟨by kernel_rfl,fun u9 hu9=>ZmY z2 (.tmp 105) (.const (.int .i64 4)) (by kernel_rfl) (by kernel_rfl) (by kernel_rfl)⟩) hHeld ?_
    simp only[Act.put,Y_a,Y_b,Y_c]
    refine Y_t 8 107 _ (.bool false) rfl (Or.inl ⟨by kernel_rfl,fun u9 hu9=>Znm j0d (.tmp 103) (.tmp 106) (by kernel_rfl) (by kernel_rfl) (by kernel_rfl)⟩) hHeld ?_
    simp only[Act.put,Y_a,Y_b,Y_c]
    refine Y_t 9 108 _ (.bool false) rfl (Or.inl ⟨by kernel_rfl,fun u9 hu9=>by kernel_rfl⟩) hHeld ?_
    simp only[Act.put,Y_a,Y_b,Y_c]
    refine Y_t 10 109 _ (.slice (some ⟨bk,off,none⟩) R.length rc) rfl (Or.inl ⟨by kernel_rfl,fun u9 hu9=>by kernel_rfl⟩) hHeld ?_
    simp only[Act.put,Y_a,Y_b,Y_c]
    refine Y_t 11 110 _ (.int .i64 (j:Int)) rfl (Or.inl ⟨by kernel_rfl,fun u9 hu9=>by kernel_rfl⟩) hHeld ?_
    simp only[Act.put,Y_a,Y_b,Y_c]
    refine Y_t 12 111 _ (.pointer (some ⟨bk,off+j,none⟩)) rfl (Or.inl ⟨by kernel_rfl,fun u9 hu9=>Znc (c:=rc) (i:=j) hjl (.tmp 109) (.tmp 110) (by kernel_rfl) (by kernel_rfl) (by kernel_rfl)⟩) hHeld ?_
    simp only[Act.put,Y_a,Y_b,Y_c]
    refine Y_t 13 112 _ (.string ⟨u.toArray⟩) rfl (Or.inl ⟨by kernel_rfl,fun u9 hu9=>Zne (a:=⟨bk,off+j,none⟩) (HC.out u9 hu9) (.tmp 111) (by kernel_rfl) (by kernel_rfl)⟩) hHeld ?_
    simp only[Act.put,Y_a,Y_b,Y_c]
    refine Y_t 14 113 _ (.slice (some ⟨bk,off,none⟩) R.length rc) rfl (Or.inl ⟨by kernel_rfl,fun u9 hu9=>by kernel_rfl⟩) hHeld ?_
    simp only[Act.put,Y_a,Y_b,Y_c]
    refine Y_t 15 114 _ (.int .i64 (j:Int)) rfl (Or.inl ⟨by kernel_rfl,fun u9 hu9=>by kernel_rfl⟩) hHeld ?_
    simp only[Act.put,Y_a,Y_b,Y_c]
    refine Y_t 16 115 _ (.pointer (some ⟨bk,off+j,none⟩)) rfl (Or.inl ⟨by kernel_rfl,fun u9 hu9=>Znc (c:=rc) (i:=j) hjl (.tmp 113) (.tmp 114) (by kernel_rfl) (by kernel_rfl) (by kernel_rfl)⟩) hHeld ?_
    simp only[Act.put,Y_a,Y_b,Y_c]
    refine Y_t 17 116 _ (.string ⟨u.toArray⟩) rfl (Or.inl ⟨by kernel_rfl,fun u9 hu9=>Zne (a:=⟨bk,off+j,none⟩) (HC.out u9 hu9) (.tmp 115) (by kernel_rfl) (by kernel_rfl)⟩) hHeld ?_
    simp only[Act.put,Y_a,Y_b,Y_c]
    refine Y_t 18 117 _ (.int .i64 (u.length:Int)) rfl (Or.inl ⟨by kernel_rfl,fun u9 hu9=>by kernel_rfl⟩) hHeld ?_
    simp only[Act.put,Y_a,Y_b,Y_c]
    refine Y_t 19 118 _ (.int .i64 ((u.length:Int)-1)) rfl (Or.inl ⟨by kernel_rfl,fun u9 hu9=>Znf z3 (.tmp 117) (.const (.int .i64 1)) (by kernel_rfl) (by kernel_rfl) (by kernel_rfl)⟩) hHeld ?_
    simp only[Act.put,Y_a,Y_b,Y_c]
    refine Y_t 20 119 _ (.int .u8 10) rfl (Or.inl ⟨by kernel_rfl,fun u9 hu9=>Znl hu10 (.tmp 112) (.tmp 118) (by kernel_rfl) (by kernel_rfl) (congrArg (Value.int IntKind.i64) z5)⟩) hHeld ?_
    simp only[Act.put,Y_a,Y_b,Y_c]
    refine Y_t 21 120 _ (.bool false) rfl (Or.inl ⟨by kernel_rfl,fun u9 hu9=>by kernel_rfl⟩) hHeld ?_
    simp only[Act.put,Y_a,Y_b,Y_c]
    refine Y_t 22 121 _ (.bool false) rfl (Or.inl ⟨by kernel_rfl,fun u9 hu9=>by kernel_rfl⟩) hHeld ?_
    simp only[Act.put,Y_a,Y_b,Y_c]
    refine Y_t 23 122 _ (.bool false) rfl (Or.inl ⟨by kernel_rfl,fun u9 hu9=>by kernel_rfl⟩) hHeld ?_
    simp only[Act.put,Y_a,Y_b,Y_c]
    refine Y_t 24 123 _ (.slice (some ⟨bk,off,none⟩) R.length rc) rfl (Or.inl ⟨by kernel_rfl,fun u9 hu9=>by kernel_rfl⟩) hHeld ?_
    simp only[Act.put,Y_a,Y_b,Y_c]
    refine Y_t 25 124 _ (.int .i64 (j:Int)) rfl (Or.inl ⟨by kernel_rfl,fun u9 hu9=>by kernel_rfl⟩) hHeld ?_
    simp only[Act.put,Y_a,Y_b,Y_c]
    refine Y_t 26 125 _ (.pointer (some ⟨bk,off+j,none⟩)) rfl (Or.inl ⟨by kernel_rfl,fun u9 hu9=>Znc (c:=rc) (i:=j) hjl (.tmp 123) (.tmp 124) (by kernel_rfl) (by kernel_rfl) (by kernel_rfl)⟩) hHeld ?_
    simp only[Act.put,Y_a,Y_b,Y_c]
    refine Y_t 27 126 _ (.string ⟨u.toArray⟩) rfl (Or.inl ⟨by kernel_rfl,fun u9 hu9=>Zne (a:=⟨bk,off+j,none⟩) (HC.out u9 hu9) (.tmp 125) (by kernel_rfl) (by kernel_rfl)⟩) hHeld ?_
    simp only[Act.put,Y_a,Y_b,Y_c]
    refine Y_t 28 127 _ (.int .i64 (u.length:Int)) rfl (Or.inl ⟨by kernel_rfl,fun u9 hu9=>by kernel_rfl⟩) hHeld ?_
    simp only[Act.put,Y_a,Y_b,Y_c]
    refine Y_t 29 128 _ (.bool false) rfl (Or.inl ⟨by kernel_rfl,fun u9 hu9=>Znm k5 (.tmp 127) (.const (.int .i64 1)) (by kernel_rfl) (by kernel_rfl) (by kernel_rfl)⟩) hHeld ?_
    simp only[Act.put,Y_a,Y_b,Y_c]
    refine Y_t 30 129 _ (.bool false) rfl (Or.inl ⟨by kernel_rfl,fun u9 hu9=>by kernel_rfl⟩) hHeld ?_
    simp only[Act.put,Y_a,Y_b,Y_c]
    refine Y_t 31 130 _ undef rfl (Or.inr ⟨by kernel_rfl,rfl⟩) hHeld ?_
    simp only[Act.put,Y_a,Y_b,Y_c]
    refine Y_t 32 131 _ undef rfl (Or.inr ⟨by kernel_rfl,rfl⟩) hHeld ?_
    simp only[Act.put,Y_a,Y_b,Y_c]
    refine Y_t 33 132 _ undef rfl (Or.inr ⟨by kernel_rfl,rfl⟩) hHeld ?_
    simp only[Act.put,Y_a,Y_b,Y_c]
    refine Y_t 34 133 _ undef rfl (Or.inr ⟨by kernel_rfl,rfl⟩) hHeld ?_
    simp only[Act.put,Y_a,Y_b,Y_c]
    refine Y_t 35 134 _ undef rfl (Or.inr ⟨by kernel_rfl,rfl⟩) hHeld ?_
    simp only[Act.put,Y_a,Y_b,Y_c]
    refine Y_t 36 135 _ undef rfl (Or.inr ⟨by kernel_rfl,rfl⟩) hHeld ?_
    simp only[Act.put,Y_a,Y_b,Y_c]
    refine Y_t 37 136 _ undef rfl (Or.inr ⟨by kernel_rfl,rfl⟩) hHeld ?_
    simp only[Act.put,Y_a,Y_b,Y_c]
    refine Y_t 38 137 _ undef rfl (Or.inr ⟨by kernel_rfl,rfl⟩) hHeld ?_
    simp only[Act.put,Y_a,Y_b,Y_c]
    refine Y_t 39 138 _ undef rfl (Or.inr ⟨by kernel_rfl,rfl⟩) hHeld ?_
    simp only[Act.put,Y_a,Y_b,Y_c]
    refine Y_t 40 139 _ undef rfl (Or.inr ⟨by kernel_rfl,rfl⟩) hHeld ?_
    simp only[Act.put,Y_a,Y_b,Y_c]
    refine Y_t 41 140 _ undef rfl (Or.inr ⟨by kernel_rfl,rfl⟩) hHeld ?_
    simp only[Act.put,Y_a,Y_b,Y_c]
    refine Y_t 42 141 _ undef rfl (Or.inr ⟨by kernel_rfl,rfl⟩) hHeld ?_
    simp only[Act.put,Y_a,Y_b,Y_c]
    refine Y_t 43 142 _ (.bool false) rfl (Or.inl ⟨by kernel_rfl,fun u9 hu9=>by kernel_rfl⟩) hHeld ?_
    simp only[Act.put,Y_a,Y_b,Y_c]
    refine Y_t 44 143 _ (.bool false) rfl (Or.inl ⟨by kernel_rfl,fun u9 hu9=>by kernel_rfl⟩) hHeld ?_
    simp only[Act.put,Y_a,Y_b,Y_c]
    refine wpAnyH_done (by kernel_rfl) ?_ _
    refine NoPanic.normal ?_
    have hLz:=hLr.drew
    generalize wr.drew=W7 at hLz ⊢
    clear hLr hHeld
    go_wp2
    exact⟨⟨j+1,by omega,by go_num,hLz⟩,by simp[intOf];omega⟩
  ·have hend2:¬ (j:Int)<(R.length:Int):=by omega
   have hB07:=hB06.trans (hLr.mono hB06.size)
   go_wp2
   go_ret
   exact⟨by simp,hB07⟩
open Go.ChangeShapes Go.WideShapes Go.ChangeAt
open Go.ChangeMaps (open_string shut_string)
set_option maxRecDepth 100000 in
theorem contract (H:Type) (enc:TypeId × Value→H) (W:World) (base:Nat) (args:Array Value) (ds gs:List (DataW H)) (before:List MemPlace)
  (hval:∀ (j:Nat) t v,Tryz.f4.params[j]?=some t→args[j]?=some v→Value.okWide Tryz.prog W .any base t v)
  (hW:DataW.Whole enc Tryz.prog Tryz.f4.params.toList Rows.viewsRowsSpec.vars false W args.toList ds gs before) (hk:Rows.uptoSmall H (ds++gs)=true) :
  Calls Tryz.prog 4 args W fun e W'=>∃ v,e=.returned v∧Rows.viewsRowsSpec.post enc Tryz.prog Tryz.f4 false true false false W args v W':=by
 have hW':=hW
 obtain⟨p,q,hA0,hV,rfl,hfz,hnd⟩:=hW
 have hA:DataW.TrodAll enc Tryz.prog W 0 (fun _=>true) true Tryz.f4.params.toList args.toList ds p:=hA0
 rw[Tryz.params4] at hA hval
 obtain⟨v0,vs0,d0,ds0,p0,q0,hargs,rfl,rfl,h0,r0⟩:=trodAll_cons hA
 obtain⟨v1,vs1,d1,ds1,p1,q1,rfl,rfl,rfl,h1,r1⟩:=trodAll_cons r0
 obtain⟨v2,vs2,d2,ds2,p2,q2,rfl,rfl,rfl,h2,r2⟩:=trodAll_cons r1
 obtain⟨v3,vs3,d3,ds3,p3,q3,rfl,rfl,rfl,h3,r3⟩:=trodAll_cons r2
 obtain⟨rfl,rfl,rfl⟩:=trodAll_nil r3
 obtain rfl:args=#[v0,v1,v2,v3]:=by cases args;simp_all
 obtain⟨rfl,rfl⟩:=trodVars_none hV
 obtain⟨n0,rfl,rfl,rfl,wn0⟩:=open_int Tryz.underlying3 (hval 0 3 v0 rfl rfl) h0
 obtain⟨n3,rfl,rfl,rfl,wn3⟩:=open_int Tryz.underlying3 (hval 3 3 v3 rfl rfl) h3
 obtain⟨a1,rfl,rfl,rfl,wt1⟩:=open_string Tryz.underlying9 (hval 1 9 v1 rfl rfl) h1
 obtain⟨a2,rfl,rfl,rfl,wt2⟩:=open_string Tryz.underlying9 (hval 2 9 v2 rfl rfl) h2
 clear hA0
 simp only[List.append_nil] at hk
 have hbk:Rows.uptoBulkAll [.lit (.int .i64 n0),.lit (.string a1.data.toList),.lit (.string a2.data.toList),.lit (.int .i64 n3)]≤1048576:=of_decide_eq_true hk
 simp only[Rows.uptoBulkAll] at hbk
 have hw:=walk n0 a1.data.toList a2.data.toList n3  W (by simp only[Rows.uptoBulk] at hbk;omega)
 refine hw.mono fun e W' ⟨he,bel⟩=>?_
 subst he
 exact⟨_,rfl,_,_,_,[],_,[],hW',trodAll_mk1 (shut_bool Tryz.underlying4 _),trodAll_cons_mk (shut_int Tryz.underlying3 wn0) (trodAll_cons_mk (shut_string Tryz.underlying9 wt1) (trodAll_cons_mk (shut_string Tryz.underlying9 wt2) (trodAll_cons_mk (shut_int Tryz.underlying3 wn3) trodAll_mk0))),rfl,bel.frame _,fun h=>by cases h⟩
theorem laid_met (os:Os):laidMet Tryz.prog Rows.viewsRowsUptoRow.laid ((laidOnU (World.holding Tryz.prog os ⟨#[],#[],[]⟩)).forCall (fun _ _=>0) ⟨#[],#[.int .i64 0,.string .empty,.string .empty,.int .i64 0],[]⟩).memory :=
 laidMet_of_run' 8 (by kernel_rfl) (by kernel_rfl)
theorem reads (os:Os) {H:Type} (enc:TypeId × Value→H):∃ places,DataW.whole enc Tryz.prog ((laidOnU (World.holding Tryz.prog os ⟨#[],#[],[]⟩)).forCall (fun _ _=>0) ⟨#[],#[.int .i64 0,.string .empty,.string .empty,.int .i64 0],[]⟩).memory Tryz.f4.params.toList Rows.viewsRowsSpec.vars false #[Value.int .i64 0,Value.string .empty,Value.string .empty,Value.int .i64 0].toList 8=some ([.lit (.int .i64 0),.lit (.string []),.lit (.string []),.lit (.int .i64 0)],[],places) :=
 ⟨[],by kernel_rfl⟩
set_option maxRecDepth 100000 in
theorem lifted (os:Os) (started:os.Started) (H:Type) (enc:TypeId × Value→H) (F:Stop.Interp) :
  ReturnsInHanded {} Tryz.checked os 4 .any ((Rows.OpenSpec.upto Rows.viewsRowsSpec).preRow enc Tryz.prog Tryz.f4 Rows.viewsRowsUptoRow.domain false Rows.viewsRowsUptoRow.laid) (((Rows.OpenSpec.upto Rows.viewsRowsSpec).at F).post enc Tryz.prog Tryz.f4 false true false false):=by
 obtain⟨places,hx⟩:=reads os enc
 refine returnsInHanded_of_row (C:=Tryz.checked) (s:=Rows.OpenSpec.upto Rows.viewsRowsSpec) own started (by kernel_rfl) Tryz.func4
  (witness_row_at (enc:=enc) (C:=Tryz.checked) false (laidOnU (World.holding Tryz.prog os ⟨#[],#[],[]⟩)) #[.int .i64 0,.string .empty,.string .empty,.int .i64 0] rfl (by kernel_rfl) (by kernel_rfl) (by kernel_rfl)
   (OpenSpec.preRow_of_cond 8 hx (by kernel_rfl) (fun k hk=>by cases hk;kernel_rfl) (by kernel_rfl) (laid_met os))) ?_
 intro W base args ds gs before hval hW _ hcond _ _ _ _
 exact contract H enc W base args ds gs before hval hW (hcond _ rfl)
theorem said:Rows.ViewsRowsUptoSaid :=
 OpenClaim.holds_of_cond 4 Tryz.f4 rfl rfl rfl rfl rfl rfl rfl ⟨rfl,rfl,rfl,rfl,rfl⟩ rfl rfl rfl rfl rfl (by kernel_rfl) Tryz.func4 (by kernel_rfl)
  (of_decide_eq_true (by kernel_rfl)) (by unfold Func.isWrapper;first | (rw[if_pos (by decide +kernel)];kernel_rfl) | (rw[if_neg (by decide +kernel)];exact⟨rfl,rfl⟩))
  (fun os started H enc _ F=>by rw[OpenClaim.pre_eq_preRow];exact lifted os started H enc F)
theorem plain (f : FuncId) (fn : Func) (hf : Tryz.pinned.checked.prog.funcNamed "redline/redlinelaw17.ViewsRows" = some f) (hfn : Tryz.pinned.checked.prog.funcs[f]? = some fn) :
  false=Tryz.pinned.checked.prog.looks []∧∀ (j:Nat) t,fn.params[j]?=some t→Tryz.pinned.checked.prog.wantsStandIn t=false:=by
 obtain rfl : f = 4 := Option.some.inj ((show Tryz.prog.funcNamed "redline/redlinelaw17.ViewsRows" = some 4 by kernel_rfl).symm.trans hf) |>.symm
 obtain rfl:fn=Tryz.f4:=(Option.some.inj (Tryz.func4.symm.trans hfn)).symm
 refine⟨by kernel_rfl,fun j t ht=>?_⟩
 rw[Tryz.params4] at ht
 have hm:t=3∨t=9∨t=9∨t=3:=by simpa using Array.mem_of_getElem? ht
 rcases hm with rfl | rfl | rfl | rfl
 ·exact (show Tryz.prog.wantsStandIn 3=false by kernel_rfl)
 ·exact (show Tryz.prog.wantsStandIn 9=false by kernel_rfl)
 ·exact (show Tryz.prog.wantsStandIn 9=false by kernel_rfl)
 ·exact (show Tryz.prog.wantsStandIn 3=false by kernel_rfl)
theorem card:Rows.ViewsRowsUptoCardSaid :=
 Claim7.holds_tied_plain_at .later [] _ _ _ _ said (fun _ h=>by cases h) (by kernel_rfl) (fun _ h=>by cases h) viewsRowsUpto_row_tie rfl ⟨rfl,rfl⟩ (by kernel_rfl) rfl plain (by kernel_rfl)
#print axioms card
end Go.Proofs.YtcnjephlmcnodaaGreatDoor.viewsRows
