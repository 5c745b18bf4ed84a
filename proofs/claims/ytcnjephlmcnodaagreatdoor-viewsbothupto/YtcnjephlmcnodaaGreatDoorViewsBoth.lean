/-
  For every number and every two texts, together at most 1048576 letters, the law ViewsBoth returns true and leaves its arguments as they were: out of the text into which two were laid each of the two is had again.
-/
import Derived.Test.YtcnjephlmcnodaaGreatDoorVzA14
import Derived.Test.YtcnjephlmcnodaaGreatDoorVzA12
import Derived.Test.YtcnjephlmcnodaaGreatDoorVzA11
import Derived.Test.YtcnjephlmcnodaaGreatDoorVzA15
import Derived.Test.YtcnjephlmcnodaaGreatDoorCards
import Derived.Test.YtcnjephlmcnodaaGreatDoorTie
import Derived.Test.YtcnjephlmcnodaaGreatDoorVzA2
import Derived.Test.YtcnjephlmcnodaaGreatDoorVzA7
import Derived.ProofKit
import Derived.OpenShut
import Derived.ShutString
import Derived.JoinedCond
import Derived.Deep.DeepHandedRow
import Derived.Lib.LaidTab
import Derived.LaidSub
set_option maxRecDepth 20000
namespace Go.Proofs.YtcnjephlmcnodaaGreatDoor.viewsBoth
open Go.RowKit Go.Proofs.YtcnjephlmcnodaaGreatDoor.Tx
attribute [local go_sem] ZhN
/-- a line with a line feed is its text with one -/
theorem ZnG {s:List UInt8} (h:s≠[]):whT s=bareT s++[10]:=by
 have h0:0<s.length:=List.length_pos_iff.2 h
 by_cases hc:s[s.length-1]=10
 ·rw[ZnD h0 hc,ZmV (Zby h0 hc).2]
 ·rw[ZnE h0 hc,(Zbx h0 hc).1]
theorem ZgH {s t:List UInt8} (h:t∈Ln.splitL s):t≠[]:=by
 have h1:=ZgI (Ln.split_right s) t h
 rintro rfl
 cases h1
theorem ZnP {A:List (List UInt8)} {nm:List UInt8} (hne:∀ t∈A,t≠[]) (h:∀ t∈A,cmK nm (whT t)=0):∀ x∈wlL A,cmK nm x=0:=by
 intro x hx
 obtain⟨u,hu,rfl⟩:=List.mem_map.1 hx
 have:=h u hu
 rw[ZnG (hne u hu)] at this
 exact this
theorem Zbp {p:List UInt8→Prop} {x:List (List UInt8)} {k:Nat} (hk:k<x.length) (h:∀ t∈x.take k,p t) (h2:p x[k]):∀ t∈x.take (k+1),p t:=by
 rw[List.take_succ_eq_append_getElem hk]
 intro t ht
 rcases List.mem_append.1 ht with ht | ht
 ·exact h t ht
 ·rw[List.mem_singleton.1 ht];exact h2
theorem ZnF (s:List UInt8):(whT s).length≤s.length+1:=by
 unfold whT
 split
 ·omega
 ·simp
set_option maxRecDepth 20000 in
set_option maxHeartbeats 8000000 in
theorem walk (k0:Int) (s t:List UInt8) (w:World) (hl:s.length+t.length≤1048576) :
  Calls Tryz.prog 3 #[.int .i64 k0,.string ⟨s.toArray⟩,.string ⟨t.toArray⟩] w fun e w'=>e=.returned (.bool true)∧Below w.heap.size w w':=by
 have hsx:=fun u=>ZhK s u (by omega)
 have hsy:=fun u=>ZhK t u (by omega)
 have hflx:(Ln.splitL s).flatten.length=s.length:=congrArg List.length (Ln.split_join s)
 have hfly:(Ln.splitL t).flatten.length=t.length:=congrArg List.length (Ln.split_join t)
 have HNX:Hid (∀ u∈Ln.splitL s,u≠[]):=fun u hu=>ZgH hu
 have HNY:Hid (∀ u∈Ln.splitL t,u≠[]):=fun u hu=>ZgH hu
 have HBK:Hid (∀ l:List Ch,Script l (Ln.splitL s).length (Ln.splitL t).length→(∀ r∈U 0 0 (Ln.splitL s).length (Ln.splitL t).length l,(Ln.splitL s)[r.a.toNat]?=(Ln.splitL t)[r.b.toNat]?)→(∀ x∈wlL (Ln.splitL s),cmK [78] x=0)→(∀ x∈wlL (Ln.splitL t),cmK [78] x=0)→rsT (ifL [78] l (Ln.splitL s) (Ln.splitL t)).flatten [78] true=.ok (whT t)∧rsT (ifL [78] l (Ln.splitL s) (Ln.splitL t)).flatten [78] false=.ok (whT s)):=fun l h1 h2 h3 h4=>Zkg rfl h1 h2 h3 h4
 have HFD:Hid (∀ l:List Ch,∀ u∈Ln.splitL (ifL [78] l (Ln.splitL s) (Ln.splitL t)).flatten,fdB u=true):=fun l=>ZdN (ZfC (by decide) (ZgI (Ln.split_right s)) (ZgI (Ln.split_right t)))
 obtain⟨x,hx⟩:∃ x,Ln.splitL s=x:=⟨_,rfl⟩
 obtain⟨y,hy⟩:∃ y,Ln.splitL t=y:=⟨_,rfl⟩
 rw[hx] at hsx hflx HNX
 rw[hy] at hsy hfly HNY
 rw[hx,hy] at HBK HFD
 clear hx hy
 go_enter Tryz.func3,Tryz.ntmps3
 go_wp2_with fail
 refine (ZnC w).mono ?_
 rintro e w0 ⟨rfl,hB0⟩
 go_wp2_with fail
 refine (hsx w0).mono ?_
 rintro e w1 ⟨v1,rfl,hown1,hB1⟩
 have ha1:HS w1 v1 x:=holds_of hown1
 obtain⟨ao,ac,rfl⟩:=Holds.form ha1
 clear hown1 hsx
 go_wp2_with fail
 refine (hsy w1).mono ?_
 rintro e w2 ⟨v2,rfl,hown2,hB2⟩
 have hb2:HS w2 v2 y:=holds_of hown2
 obtain⟨bo,bc,rfl⟩:=Holds.form hb2
 have ha2:=HS.keep ha1 hB2 (Nat.le_refl _)
 have hB01:=hB0.trans (hB1.mono hB0.size)
 have hB02:=hB01.trans (hB2.mono hB01.size)
 clear hown2 hsy ha1 hB0 hB1 hB2 hB01
 by_cases h1:200<x.length
 ·have i1:(200:Int)<(x.length:Int):=by omega
  go_wp2
  go_ret
  exact⟨rfl,hB02⟩
 have i1:¬ (200:Int)<(x.length:Int):=by omega
 by_cases h2:200<y.length
 ·have i2:(200:Int)<(y.length:Int):=by omega
  go_wp2
  go_ret
  exact⟨rfl,hB02⟩
 have i2:¬ (200:Int)<(y.length:Int):=by omega
 have wxy:IntKind.i64.wrap ((x.length:Int)+(y.length:Int))=(x.length:Int)+(y.length:Int):=wrap_small _ (by omega) (by omega)
 have HTX:Hid (∀ u∈x,u.length≤1048576):=fun u hu=>Zhv hu (by omega)
 have HTY:Hid (∀ u∈y,u.length≤1048576):=fun u hu=>Zhv hu (by omega)
 have hzx:=ZnU x
 have hzy:=ZnU y
 go_wp2
 go_loopw [9] (fun iv wr=>∃ k:Nat,k≤x.length+y.length∧iv=.int .i64 (k:Int)∧wr=w2∧Hid ((∀ u∈x.take k,cmK [78] (whT u)=0)∧(∀ u∈y.take (k-x.length),cmK [78] (whT u)=0))) (fun iv _=>x.length+y.length-(intOf iv).toNat)
 case atStart=>exact⟨0,Nat.zero_le _,rfl,rfl,⟨by intro u hu;simp at hu,by intro u hu;simp at hu⟩⟩
 case round =>
 obtain⟨k,hk,rfl,rfl,HC⟩:=hrel
 by_cases hlt:k<x.length+y.length
 ·have i3:(k:Int)<(x.length:Int)+(y.length:Int):=by omega
  have i4:(0:Int)≤(k:Int):=by omega
  by_cases hkx:k<x.length
  ·obtain⟨bk,off,rfl,hbk,hcc⟩:=HS.at ha2 (by omega)
   have c0:=hcc k hkx
   have lu:=HTX.out x[k] (List.getElem_mem hkx)
   have HN:Hid (cmK [78] (whT x[k])=0→(∀ u∈x.take (k+1),cmK [78] (whT u)=0)∧(∀ u∈y.take (k+1-x.length),cmK [78] (whT u)=0)):=fun h=>⟨Zbp hkx HC.out.1 h,by rw[show k+1-x.length=0 by omega];intro u hu;simp at hu⟩
   obtain⟨u,hu⟩:∃ u,x[k]=u:=⟨_,rfl⟩
   rw[hu] at c0 lu HN
   have i5:(k:Int)<(x.length:Int):=by omega
   have hw:=fun v=>Zhg u v (by omega)
   have lw:=ZnF u
   obtain⟨q,hq⟩:∃ q,whT u=q:=⟨_,rfl⟩
   rw[hq] at hw lw HN
   obtain⟨r,hr⟩:∃ r,cmK [78] q=r:=⟨_,rfl⟩
   have hc:=fun v=>Zjk q [78] v (by decide) r hr
   rw[hr] at HN
   clear hcc hu hq hr HC
   go_wp2_with fail
   refine (hw _).mono ?_
   rintro e w3 ⟨rfl,rfl⟩
   clear hw
   go_wp2_with fail
   refine (hc _).mono ?_
   rintro e w4 ⟨rfl,rfl⟩
   clear hc
   by_cases hr0:r=0
   ·subst hr0
    have HN2:=HN.out rfl
    have HN3:Hid ((∀ u∈x.take (k+1),cmK [78] (whT u)=0)∧(∀ u∈y.take (k+1-x.length),cmK [78] (whT u)=0)):=HN2
    clear HN2 HN
    go_wp2
    go_roundw
    case rel=>exact⟨k+1,by omega,by go_num,by first | rfl | trivial,HN3⟩
    case measure=>simp[intOf];omega
   ·have hrb:((r:Int) != 0)=true:=bne_iff_ne.2 (by omega)
    clear HN
    go_wp2
    go_ret
    exact⟨rfl,hB02⟩
  ·obtain⟨j,hj⟩:∃ j,k=x.length+j:=⟨k-x.length,by omega⟩
   have hjy:j<y.length:=by omega
   obtain⟨bk,off,rfl,hbk,hcc⟩:=HS.at hb2 (by omega)
   have c0:=hcc j hjy
   have lu:=HTY.out y[j] (List.getElem_mem hjy)
   have HN:Hid (cmK [78] (whT y[j])=0→(∀ u∈x.take (k+1),cmK [78] (whT u)=0)∧(∀ u∈y.take (k+1-x.length),cmK [78] (whT u)=0)):=fun h=>⟨(by
    have h3:=HC.out.1
    rw[List.take_of_length_le (by omega)] at h3
    rw[List.take_of_length_le (by omega)]
    exact h3),(by
    have h3:=HC.out.2
    rw[show k-x.length=j by omega] at h3
    rw[show k+1-x.length=j+1 by omega]
    exact Zbp hjy h3 h)⟩
   obtain⟨u,hu⟩:∃ u,y[j]=u:=⟨_,rfl⟩
   rw[hu] at c0 lu HN
   have i5:¬ (k:Int)<(x.length:Int):=by omega
   have i6:(k:Int)-(x.length:Int)=(j:Int):=by omega
   have wj:IntKind.i64.wrap (j:Int)=(j:Int):=wrap_small _ (by omega) (by omega)
   have i7:(0:Int)≤(j:Int):=by omega
   have i8:(j:Int)<(y.length:Int):=by omega
   have hw:=fun v=>Zhg u v (by omega)
   have lw:=ZnF u
   obtain⟨q,hq⟩:∃ q,whT u=q:=⟨_,rfl⟩
   rw[hq] at hw lw HN
   obtain⟨r,hr⟩:∃ r,cmK [78] q=r:=⟨_,rfl⟩
   have hc:=fun v=>Zjk q [78] v (by decide) r hr
   rw[hr] at HN
   clear hcc hu hq hr HC
   go_wp2_with fail
   refine (hw _).mono ?_
   rintro e w3 ⟨rfl,rfl⟩
   clear hw
   go_wp2_with fail
   refine (hc _).mono ?_
   rintro e w4 ⟨rfl,rfl⟩
   clear hc
   by_cases hr0:r=0
   ·subst hr0
    have HN2:=HN.out rfl
    have HN3:Hid ((∀ u∈x.take (k+1),cmK [78] (whT u)=0)∧(∀ u∈y.take (k+1-x.length),cmK [78] (whT u)=0)):=HN2
    clear HN2 HN
    go_wp2
    go_roundw
    case rel=>exact⟨k+1,by omega,by go_num,by first | rfl | trivial,HN3⟩
    case measure=>simp[intOf];omega
   ·have hrb:((r:Int) != 0)=true:=bne_iff_ne.2 (by omega)
    clear HN
    go_wp2
    go_ret
    exact⟨rfl,hB02⟩
 ·have hend:¬ (k:Int)<(x.length:Int)+(y.length:Int):=by omega
  have hcx:∀ u∈x,cmK [78] (whT u)=0:=(by
   have h3:=HC.out.1
   rw[List.take_of_length_le (by omega)] at h3
   exact h3)
  have hcy:∀ u∈y,cmK [78] (whT u)=0:=(by
   have h3:=HC.out.2
   rw[List.take_of_length_le (by omega)] at h3
   exact h3)
  obtain⟨c,hc,hc0,hc1⟩:=Zdf k0 4 (by decide) (by decide)
  obtain⟨K,hK⟩:∃ K,1+c=K:=⟨_,rfl⟩
  have wK:IntKind.i64.wrap K=K:=wrap_small _ (by omega) (by omega)
  obtain⟨L,hL⟩:∃ L,mkL (eng K (clx ig0 x y) (cly ig0 x y)) y.length=L:=⟨_,rfl⟩
  have HL:Hid (mkL (eng K (clx ig0 x y) (cly ig0 x y)) y.length=L):=hL
  obtain⟨hS,hU,hLl⟩:=Zdx K x y (by omega) (by omega) hL
  obtain⟨b1,b2⟩:=HBK.out L hS hU (ZnP HNX.out hcx) (ZnP HNY.out hcy)
  obtain⟨T,hT⟩:∃ T,(ifL [78] L x y).flatten=T:=⟨_,rfl⟩
  have HFT:Hid (∀ u∈Ln.splitL T,fdB u=true):=(by rw[← hT];exact HFD.out L)
  rw[hT] at b1 b2
  have lT:T.length≤1099511627776:=(by
   rw[← hT]
   have hs:=Zfz [78] L x y
   have h2:(L.length+1) * (2 * (wlL x).flatten.length+(wlL y).flatten.length+3 * ([78]:List UInt8).length+48)≤202 * 5000000:=Nat.mul_le_mul (by omega) (by simp only[List.length_cons,List.length_nil];omega)
   omega)
  have hn0:=En_f K ig0 x y _ _ wr ha2 hb2 (by omega) (by omega) (by omega) (fun u hu=>by have:=HTX.out u hu;omega) (fun u hu=>by have:=HTY.out u hu;omega) L HL
  have hif:=fun v vL (h3:HCh v vL L) (h4:HS v (.slice ao x.length ac) x) (h5:HS v (.slice bo y.length bc) y)=>ZmH L x y [78] vL _ _ v h3 h4 h5 (by omega) (by omega) (by omega) (fun u hu=>by have:=HTX.out u hu;omega) (fun u hu=>by have:=HTY.out u hu;omega) 0 (by show _=_;unfold ifE;rw[Zcj hS,if_neg (by simp),if_pos (by rfl)]) T (by show _=_;rw[if_pos rfl];exact hT) (by omega)
  have hr1:=fun v=>ZmP T [78] true v (by omega) (by decide) (whT t) HFT b1
  have hr2:=fun v=>ZmP T [78] false v (by omega) (by decide) (whT s) HFT b2
  have hws:=fun v=>Zhg s v (by omega)
  have hwt:=fun v=>Zhg t v (by omega)
  obtain⟨ps,hps⟩:∃ q,whT s=q:=⟨_,rfl⟩
  obtain⟨pt,hpt⟩:∃ q,whT t=q:=⟨_,rfl⟩
  rw[hps] at hr2 hws
  rw[hpt] at hr1 hwt
  clear HC hcx hcy HBK HFD HNX HNY HTX HTY hL HL hS hU b1 b2 hT hzx hzy hps hpt
  go_wp2_with fail
  refine hn0.mono ?_
  rintro e w3 ⟨v3,rfl,hv3,hB3⟩
  obtain⟨o3,c3,rfl⟩:=Holds.form hv3
  have ha3:=HS.keep ha2 hB3 (Nat.le_refl _)
  have hb3:=HS.keep hb2 hB3 (Nat.le_refl _)
  have hB03:=hB02.trans (hB3.mono hB02.size)
  clear hn0 ha2 hb2 hB3 hB02
  go_wp2_with fail
  refine (hif w3 _ hv3 ha3 hb3).mono ?_
  rintro e w4 ⟨rfl,hB4⟩
  have hB04:=hB03.trans (hB4.mono hB03.size)
  clear hif hv3 ha3 hb3 hB4 hB03
  go_wp2_with fail
  refine (hr1 w4).mono ?_
  rintro e w5 ⟨rfl,hB5⟩
  have hB05:=hB04.trans (hB5.mono hB04.size)
  clear hr1 hB5 hB04
  go_wp2_with fail
  refine (hr2 w5).mono ?_
  rintro e w6 ⟨rfl,hB6⟩
  have hB06:=hB05.trans (hB6.mono hB05.size)
  clear hr2 hB6 hB05
  go_wp2_with fail
  refine (hwt w6).mono ?_
  rintro e w7 ⟨rfl,rfl⟩
  clear hwt
  go_wp2_with fail
  refine (hws _).mono ?_
  rintro e w8 ⟨rfl,rfl⟩
  clear hws
  go_wp2
  go_ret
  exact⟨by simp,hB06⟩
open Go.ChangeShapes Go.WideShapes Go.ChangeAt
open Go.ChangeMaps (open_string shut_string)
set_option maxRecDepth 100000 in
theorem contract (H:Type) (enc:TypeId × Value→H) (W:World) (base:Nat) (args:Array Value) (ds gs:List (DataW H)) (before:List MemPlace)
  (hval:∀ (j:Nat) t v,Tryz.f3.params[j]?=some t→args[j]?=some v→Value.okWide Tryz.prog W .any base t v)
  (hW:DataW.Whole enc Tryz.prog Tryz.f3.params.toList Rows.viewsBothSpec.vars false W args.toList ds gs before) (hk:Rows.uptoSmall H (ds++gs)=true) :
  Calls Tryz.prog 3 args W fun e W'=>∃ v,e=.returned v∧Rows.viewsBothSpec.post enc Tryz.prog Tryz.f3 false true false false W args v W':=by
 have hW':=hW
 obtain⟨p,q,hA0,hV,rfl,hfz,hnd⟩:=hW
 have hA:DataW.TrodAll enc Tryz.prog W 0 (fun _=>true) true Tryz.f3.params.toList args.toList ds p:=hA0
 rw[Tryz.params3] at hA hval
 obtain⟨v0,vs0,d0,ds0,p0,q0,hargs,rfl,rfl,h0,r0⟩:=trodAll_cons hA
 obtain⟨v1,vs1,d1,ds1,p1,q1,rfl,rfl,rfl,h1,r1⟩:=trodAll_cons r0
 obtain⟨v2,vs2,d2,ds2,p2,q2,rfl,rfl,rfl,h2,r2⟩:=trodAll_cons r1
 obtain⟨rfl,rfl,rfl⟩:=trodAll_nil r2
 obtain rfl:args=#[v0,v1,v2]:=by cases args;simp_all
 obtain⟨rfl,rfl⟩:=trodVars_none hV
 obtain⟨n0,rfl,rfl,rfl,wn0⟩:=open_int Tryz.underlying3 (hval 0 3 v0 rfl rfl) h0
 obtain⟨a1,rfl,rfl,rfl,wt1⟩:=open_string Tryz.underlying9 (hval 1 9 v1 rfl rfl) h1
 obtain⟨a2,rfl,rfl,rfl,wt2⟩:=open_string Tryz.underlying9 (hval 2 9 v2 rfl rfl) h2
 clear hA0
 simp only[List.append_nil] at hk
 have hbk:Rows.uptoBulkAll [.lit (.int .i64 n0),.lit (.string a1.data.toList),.lit (.string a2.data.toList)]≤1048576:=of_decide_eq_true hk
 simp only[Rows.uptoBulkAll] at hbk
 have hw:=walk n0 a1.data.toList a2.data.toList  W (by simp only[Rows.uptoBulk] at hbk;omega)
 refine hw.mono fun e W' ⟨he,bel⟩=>?_
 subst he
 exact⟨_,rfl,_,_,_,[],_,[],hW',trodAll_mk1 (shut_bool Tryz.underlying4 _),trodAll_cons_mk (shut_int Tryz.underlying3 wn0) (trodAll_cons_mk (shut_string Tryz.underlying9 wt1) (trodAll_cons_mk (shut_string Tryz.underlying9 wt2) trodAll_mk0)),rfl,bel.frame _,fun h=>by cases h⟩
theorem laid_met (os:Os):laidMet Tryz.prog Rows.viewsBothUptoRow.laid ((laidOnU (World.holding Tryz.prog os ⟨#[],#[],[]⟩)).forCall (fun _ _=>0) ⟨#[],#[.int .i64 0,.string .empty,.string .empty],[]⟩).memory :=
 laidMet_of_run' 8 (by kernel_rfl) (by kernel_rfl)
theorem reads (os:Os) {H:Type} (enc:TypeId × Value→H):∃ places,DataW.whole enc Tryz.prog ((laidOnU (World.holding Tryz.prog os ⟨#[],#[],[]⟩)).forCall (fun _ _=>0) ⟨#[],#[.int .i64 0,.string .empty,.string .empty],[]⟩).memory Tryz.f3.params.toList Rows.viewsBothSpec.vars false #[Value.int .i64 0,Value.string .empty,Value.string .empty].toList 8=some ([.lit (.int .i64 0),.lit (.string []),.lit (.string [])],[],places) :=
 ⟨[],by kernel_rfl⟩
set_option maxRecDepth 100000 in
theorem lifted (os:Os) (started:os.Started) (H:Type) (enc:TypeId × Value→H) (F:Stop.Interp) :
  ReturnsInHanded {} Tryz.checked os 3 .any ((Rows.OpenSpec.upto Rows.viewsBothSpec).preRow enc Tryz.prog Tryz.f3 Rows.viewsBothUptoRow.domain false Rows.viewsBothUptoRow.laid) (((Rows.OpenSpec.upto Rows.viewsBothSpec).at F).post enc Tryz.prog Tryz.f3 false true false false):=by
 obtain⟨places,hx⟩:=reads os enc
 refine returnsInHanded_of_row (C:=Tryz.checked) (s:=Rows.OpenSpec.upto Rows.viewsBothSpec) own started (by kernel_rfl) Tryz.func3
  (witness_row_at (enc:=enc) (C:=Tryz.checked) false (laidOnU (World.holding Tryz.prog os ⟨#[],#[],[]⟩)) #[.int .i64 0,.string .empty,.string .empty] rfl (by kernel_rfl) (by kernel_rfl) (by kernel_rfl)
   (OpenSpec.preRow_of_cond 8 hx (by kernel_rfl) (fun k hk=>by cases hk;kernel_rfl) (by kernel_rfl) (laid_met os))) ?_
 intro W base args ds gs before hval hW _ hcond _ _ _ _
 exact contract H enc W base args ds gs before hval hW (hcond _ rfl)
theorem said:Rows.ViewsBothUptoSaid :=
 OpenClaim.holds_of_cond 3 Tryz.f3 rfl rfl rfl rfl rfl rfl rfl ⟨rfl,rfl,rfl,rfl,rfl⟩ rfl rfl rfl rfl rfl (by kernel_rfl) Tryz.func3 (by kernel_rfl)
  (of_decide_eq_true (by kernel_rfl)) (by unfold Func.isWrapper;first | (rw[if_pos (by decide +kernel)];kernel_rfl) | (rw[if_neg (by decide +kernel)];exact⟨rfl,rfl⟩))
  (fun os started H enc _ F=>by rw[OpenClaim.pre_eq_preRow];exact lifted os started H enc F)
theorem plain (f : FuncId) (fn : Func) (hf : Tryz.pinned.checked.prog.funcNamed "redline/redlinelaw17.ViewsBoth" = some f) (hfn : Tryz.pinned.checked.prog.funcs[f]? = some fn) :
  false=Tryz.pinned.checked.prog.looks []∧∀ (j:Nat) t,fn.params[j]?=some t→Tryz.pinned.checked.prog.wantsStandIn t=false:=by
 obtain rfl : f = 3 := Option.some.inj ((show Tryz.prog.funcNamed "redline/redlinelaw17.ViewsBoth" = some 3 by kernel_rfl).symm.trans hf) |>.symm
 obtain rfl:fn=Tryz.f3:=(Option.some.inj (Tryz.func3.symm.trans hfn)).symm
 refine⟨by kernel_rfl,fun j t ht=>?_⟩
 rw[Tryz.params3] at ht
 have hm:t=3∨t=9∨t=9:=by simpa using Array.mem_of_getElem? ht
 rcases hm with rfl | rfl | rfl
 ·exact (show Tryz.prog.wantsStandIn 3=false by kernel_rfl)
 ·exact (show Tryz.prog.wantsStandIn 9=false by kernel_rfl)
 ·exact (show Tryz.prog.wantsStandIn 9=false by kernel_rfl)
theorem card:Rows.ViewsBothUptoCardSaid :=
 Claim7.holds_tied_plain_at .later [] _ _ _ _ said (fun _ h=>by cases h) (by kernel_rfl) (fun _ h=>by cases h) viewsBothUpto_row_tie rfl ⟨rfl,rfl⟩ (by kernel_rfl) rfl plain (by kernel_rfl)
#print axioms card
end Go.Proofs.YtcnjephlmcnodaaGreatDoor.viewsBoth
