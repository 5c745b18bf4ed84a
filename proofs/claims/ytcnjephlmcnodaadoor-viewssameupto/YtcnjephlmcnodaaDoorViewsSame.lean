/-
  For every text and every number, together at most 1048576 letters and values, the law ViewsSame returns true and leaves its arguments as they were: a text beside itself has a row for each line, with no sign; laid into one with itself it is itself, and resolved it is that again.
-/
import Derived.Test.YtcnjephlmcnodaaDoorCards
import Derived.Test.YtcnjephlmcnodaaDoorTie
import Derived.Test.YtcnjephlmcnodaaDoorVdC1
import Derived.Test.YtcnjephlmcnodaaDoorVdA3
import Derived.Test.YtcnjephlmcnodaaDoorVdA2
import Derived.ProofKit
import Derived.OpenShut
import Derived.ShutString
import Derived.JoinedCond
import Derived.Test.YtcnjephlmcnodaaDoorVdA1
import Derived.Deep.DeepHandedRow
import Derived.Lib.LaidTab
import Derived.LaidSub
namespace Go.Proofs.YtcnjephlmcnodaaDoor.viewsSame
open Go.ChangeShapes Go.WideShapes Go.ChangeAt Go.RowKit Go.Proofs.YtcnjephlmcnodaaDoor.Tx
open Go.ChangeMaps (open_string shut_string)
attribute [local go_sem] ZcE
theorem ZcY (k:Int) (m:Int) (h0:0<m) (h1:m≤1000):∃ c,wrap64 ((IntKind.u64.wrap k).tmod m)=c∧0≤c∧c<m:=by
 refine⟨_,rfl,?_⟩
 have h:0≤IntKind.u64.wrap k:=by simp[IntKind.wrap,IntKind.bits,IntKind.signed];omega
 generalize IntKind.u64.wrap k=z at h ⊢
 rw[Int.tmod_eq_emod_of_nonneg h]
 have h2:=Int.emod_nonneg z (by omega:m≠0)
 have h3:=Int.emod_lt_of_pos z h0
 unfold wrap64
 omega
/-- does a line begin as a command may? -/
def opnB (s:List UInt8):Bool:=decide (3<s.length) && (s.head? == some 35)
theorem ZcL {s:List UInt8} (h:opnB s=false):s.length≤3∨s.head?≠some 35:=by
 unfold opnB at h
 rw[Bool.and_eq_false_iff] at h
 rcases h with h | h
 ·left
  have:=of_decide_eq_false h
  omega
 ·exact .inr (by simpa using h)
/-- a text that is laid into one with itself is resolved to itself -/
theorem Zdw {s:List UInt8} (h:∀ t∈Ln.splitL s,opnB t=false) (d:Bool):rsT (wlL (Ln.splitL s)).flatten [78,57] d=.ok (wlL (Ln.splitL s)).flatten:=by
 refine Zdk rfl fun t ht=>?_
 rw[Zbs (Zfm (Zcs (Ln.split_right s)))] at ht
 obtain⟨u,hu,rfl⟩:=List.mem_map.1 ht
 exact ZcF (ZcL (h u hu))
/-- what is shown of a text beside itself -/
theorem Zdx (w:Nat) (s:List UInt8):Ln.splitL (krT w (Ln.splitL s) (Ln.splitL s)).flatten=krT w (Ln.splitL s) (Ln.splitL s):=by
 have h:=(ZeV (w:=w) (s:=s) (t:=s) (l:=[]) (Zdt _)).1
 rw[ZeW] at h
 exact h
theorem Zah {p:List UInt8→Bool} {x:List (List UInt8)} {k:Nat} (hk:k<x.length) (h:∀ t∈x.take k,p t=false) (h2:p x[k]=false):∀ t∈x.take (k+1),p t=false:=by
 rw[List.take_succ_eq_append_getElem hk]
 intro t ht
 rcases List.mem_append.1 ht with ht | ht
 ·exact h t ht
 ·rw[List.mem_singleton.1 ht];exact h2
set_option maxRecDepth 20000 in
set_option maxHeartbeats 8000000 in
theorem walk (s:List UInt8) (n0:Int) (w:World) (hl:s.length≤1048576) :
  Calls Tryd.prog 5 #[.string ⟨s.toArray⟩,.int .i64 n0] w fun e w'=>e=.returned (.bool true)∧Below w.heap.size w w':=by
 have hsp:=fun u=>ZcA s u (by omega)
 have hsl:=Ln.split_len s
 have hfl:(Ln.splitL s).flatten.length=s.length:=congrArg List.length (Ln.split_join s)
 have HSB:=fun d (h:∀ t∈Ln.splitL s,opnB t=false)=>Zdw h d
 have HSR:Hid (∀ W,Ln.splitL (krT W (Ln.splitL s) (Ln.splitL s)).flatten=krT W (Ln.splitL s) (Ln.splitL s)):=fun W=>Zdx W s
 have HWS:Hid ((wlL (Ln.splitL s)).flatten=whT s):=Zfo s
 have HFD:Hid (∀ u∈Ln.splitL (wlL (Ln.splitL s)).flatten,fdB u=true):=Zbr (Zfm (Zcs (Ln.split_right s)))
 obtain⟨x,hx⟩:∃ x,Ln.splitL s=x:=⟨_,rfl⟩
 rw[hx] at hsp hsl hfl HSB HSR HWS HFD
 have HSB2:Hid (∀ d,(∀ t∈x,opnB t=false)→rsT (wlL x).flatten [78,57] d=.ok (wlL x).flatten):=HSB
 clear hx HSB
 go_enter Tryd.func5,Tryd.ntmps5
 go_wp2_with fail
 refine (Zff w).mono ?_
 rintro e w0 ⟨rfl,hB0⟩
 go_wp2_with fail
 refine (hsp w0).mono ?_
 rintro e w1 ⟨v1,rfl,hown1,hB1⟩
 have ha1:HS w1 v1 x:=ZbG hown1
 obtain⟨ao,ac,rfl⟩:=Holds.form ha1
 have hB01:=hB0.trans (hB1.mono hB0.size)
 clear hown1 hsp hB0 hB1
 by_cases hsm:x.length≤200∧s.length≤20000
 ·obtain⟨hxl,hsl2⟩:=hsm
  have i1:¬ (200:Int)<(x.length:Int):=by omega
  have i2:¬ (20000:Int)<(s.length:Int):=by omega
  obtain⟨c,hc,hc0,hc1⟩:=ZcY n0 200 (by decide) (by decide)
  obtain⟨W,hW⟩:∃ W:Nat,1+c=(W:Int):=⟨(1+c).toNat,by omega⟩
  have hW2:1≤W∧W≤200:=by omega
  have wW:IntKind.i64.wrap (W:Int)=(W:Int):=wrap_small _ (by omega) (by omega)
  have hta:∀ t∈x,t.length≤1099511627776:=fun t ht=>Zcy ht (by omega)
  have hzl:=Zfn x
  obtain⟨S,hS⟩:∃ S,(krT W x x).flatten=S:=⟨_,rfl⟩
  obtain⟨T,hT⟩:∃ T,(wlL x).flatten=T:=⟨_,rfl⟩
  have lS:S.length≤1099511627776:=(by
   rw[← hS]
   have:=ZbV W x x
   have h2:x.length * (2 * W+4)≤200 * 404:=Nat.mul_le_mul hxl (by omega)
   omega)
  have lT:T.length≤1099511627776:=by rw[← hT];omega
  have hcs:=fun u (hu:HS u (.slice ao x.length ac) x)=>Zet [] x x (W:Int) (.slice none 0 0) _ _ u (Holds.nil u) hu hu (by decide) (by omega) (by omega) hta hta 0 (by show _=_;unfold vsE;rw[Zaw (Zdt x.length),if_neg (by simp),if_pos (by omega)]) S (by show _=_;rw[if_pos rfl,ZeW,show ((W:Int)).toNat=W by omega];exact hS)
  have hci:=fun u (hu:HS u (.slice ao x.length ac) x)=>Zei [] x x [78,57] (.slice none 0 0) _ _ u (Holds.nil u) hu hu (by decide) (by omega) (by omega) hta hta 0 (by show _=_;unfold ifE;rw[Zaw (Zdt x.length),if_neg (by simp),if_pos (by rfl)]) T (by show _=_;rw[if_pos rfl,ZbR];exact hT) (by omega)
  have hrows:=fun u=>ZcA S u (by omega)
  rw[← hS,HSR.out W] at hrows
  have HKS:Hid (∀ t∈krT W x x,W+2<t.length→t[W+1]?=some 32):=fun t ht=>Zci t ht
  have HKL:(krT W x x).length=x.length:=Zca W x
  obtain⟨R,hR⟩:∃ R,krT W x x=R:=⟨_,rfl⟩
  rw[hR] at hrows HKS HKL hS
  rw[hS] at hrows
  have hwh:=fun u=>Zcv s u (by omega)
  have hTs:T=whT s:=by rw[← hT];exact HWS.out
  rw[← hTs] at hwh
  have HFT:Hid (∀ u∈Ln.splitL T,fdB u=true):=(by rw[← hT];exact HFD.out)
  have HRB:Hid (∀ d,(∀ t∈x,opnB t=false)→rsT T [78,57] d=.ok T):=(by rw[← hT];exact HSB2.out)
  clear hta hzl hT hR hS HSR HWS HSB2 hTs HFD
  go_wp2_with fail
  refine (hcs w1 ha1).mono ?_
  rintro e w2 ⟨rfl,hB2⟩
  have ha2:=ha1.keep hB2 (Nat.le_refl _)
  have hB02:=hB01.trans (hB2.mono hB01.size)
  clear hcs ha1 hB01 hB2
  go_wp2_with fail
  refine (hci w2 ha2).mono ?_
  rintro e w3 ⟨rfl,hB3⟩
  have ha3:=ha2.keep hB3 (Nat.le_refl _)
  have hB03:=hB02.trans (hB3.mono hB02.size)
  clear hci ha2 hB02 hB3
  go_wp2_with fail
  refine (hwh w3).mono ?_
  rintro e w4 ⟨rfl,rfl⟩
  clear hwh
  go_wp2_with fail
  refine (hrows _).mono ?_
  rintro e w5 ⟨v5,rfl,hown5,hB5⟩
  have hr5:HS w5 v5 R:=ZbG hown5
  obtain⟨ro,rc,rfl⟩:=Holds.form hr5
  have ha5:=ha3.keep hB5 (Nat.le_refl _)
  have hB05:=hB03.trans (hB5.mono hB03.size)
  clear hrows hown5 ha3 hB03 hB5
  have e1:((R.length:Int) != (x.length:Int))=false:=by rw[HKL];simp
  go_wp2
  go_loopw [11] (fun i wr=>∃ k:Nat,k≤R.length∧i=.int .i64 (k:Int)∧wr=w5) (fun i _=>R.length-(intOf i).toNat)
  case atStart=>exact⟨0,Nat.zero_le _,rfl,rfl⟩
  case round =>
  obtain⟨k,hk,rfl,rfl⟩:=hrel
  by_cases hlt:k<R.length
  ·obtain⟨bk,off,rfl,hbk,hcc⟩:=HS.at hr5 (by omega)
   have c0:=hcc k hlt
   have hkk:=HKS.out R[k] (List.getElem_mem hlt)
   obtain⟨t,ht⟩:∃ t,R[k]=t:=⟨_,rfl⟩
   rw[ht] at c0 hkk
   have i3:(0:Int)≤(k:Int):=by omega
   have i4:(k:Int)<(R.length:Int):=by omega
   have w2:IntKind.i64.wrap ((W:Int)+2)=(W:Int)+2:=wrap_small _ (by omega) (by omega)
   have w3:IntKind.i64.wrap ((W:Int)+1)=(W:Int)+1:=wrap_small _ (by omega) (by omega)
   clear hcc ht HKS
   by_cases hlong:W+2<t.length
   ·have hg:=hkk hlong
    rw[List.getElem?_eq_getElem (by omega)] at hg
    have hg2:=Option.some.inj hg
    have j1:(W:Int)+2<(t.length:Int):=by omega
    have j2:(0:Int)≤(W:Int)+1:=by omega
    have j3:(W:Int)+1<(t.length:Int):=by omega
    have j4:((W:Int)+1).toNat=W+1:=by omega
    have j5:((t[W+1].toNat:Int) != 32)=false:=by rw[hg2];rfl
    clear hg hg2 hkk
    go_wp2
    go_roundw
    case rel=>exact⟨k+1,by omega,by go_num,by trivial⟩
    case measure=>simp[intOf];omega
   ·have j1:¬ (W:Int)+2<(t.length:Int):=by omega
    clear hkk
    go_wp2
    go_roundw
    case rel=>exact⟨k+1,by omega,by go_num,by trivial⟩
    case measure=>simp[intOf];omega
  ·have hend:¬ (k:Int)<(R.length:Int):=by omega
   clear HKS hr5
   generalize wr=W5 at *
   go_wp2
   go_loopw [12] (fun i wr=>∃ k:Nat,k≤x.length∧i=.int .i64 (k:Int)∧wr=W5∧Hid (∀ t∈x.take k,opnB t=false)) (fun i _=>x.length-(intOf i).toNat)
   case atStart=>exact⟨0,Nat.zero_le _,rfl,by first | rfl | trivial,by intro t ht;simp at ht⟩
   case round =>
   obtain⟨j,hj,rfl,rfl,HO⟩:=hrel
   by_cases hjl:j<x.length
   ·obtain⟨bk,off,rfl,hbk,hcc⟩:=HS.at ha5 (by omega)
    have c0:=hcc j hjl
    have HN:Hid (opnB x[j]=false→∀ t∈x.take (j+1),opnB t=false):=fun h=>Zah hjl HO.out h
    obtain⟨t,ht⟩:∃ t,x[j]=t:=⟨_,rfl⟩
    rw[ht] at c0 HN
    have i3:(0:Int)≤(j:Int):=by omega
    have i4:(j:Int)<(x.length:Int):=by omega
    clear hcc ht HO
    by_cases hlong:3<t.length
    ·have j1:(3:Int)<(t.length:Int):=by omega
     have j2:(0:Int)<(t.length:Int):=by omega
     by_cases hh:t[0]=35
     ·have j5:((t[0].toNat:Int) == 35)=true:=by rw[hh];rfl
      clear hh HN
      go_wp2
      go_ret
      exact⟨rfl,hB05⟩
     ·have j5:((t[0].toNat:Int) == 35)=false:=(by
       rw[beq_eq_false_iff_ne]
       intro hq
       exact hh (UInt8.toNat_inj.1 (by show _=35;omega)))
      have HN2:Hid (∀ t∈x.take (j+1),opnB t=false):=HN.out (by
       unfold opnB
       rw[Bool.and_eq_false_iff]
       right
       cases t with
       | nil=>cases hlong
       | cons c r=>simpa using hh)
      clear hh HN
      go_wp2
      go_roundw
      case rel=>exact⟨j+1,by omega,by go_num,by first | rfl | trivial,HN2⟩
      case measure=>simp[intOf];omega
    ·have j1:¬ (3:Int)<(t.length:Int):=by omega
     have HN2:Hid (∀ t∈x.take (j+1),opnB t=false):=HN.out (by
      unfold opnB
      rw[decide_eq_false hlong]
      rfl)
     clear HN
     go_wp2
     go_roundw
     case rel=>exact⟨j+1,by omega,by go_num,by first | rfl | trivial,HN2⟩
     case measure=>simp[intOf];omega
   ·have hend2:¬ (j:Int)<(x.length:Int):=by omega
    have hall:∀ t∈x,opnB t=false:=(by
     have h:=HO.out
     rw[List.take_of_length_le (by omega)] at h
     exact h)
    have hq1:=HRB.out true hall
    have hq2:=HRB.out false hall
    have hr1:=fun u=>Zeq T [78,57] true u (by omega) (by decide) T HFT hq1
    have hr2:=fun u=>Zeq T [78,57] false u (by omega) (by decide) T HFT hq2
    clear HO hall HRB hq1 hq2
    go_wp2_with fail
    refine (hr1 _).mono ?_
    rintro e w6 ⟨rfl,hB6⟩
    have hB06:=hB05.trans (hB6.mono hB05.size)
    clear hr1 hB6 hB05
    go_wp2_with fail
    refine (hr2 _).mono ?_
    rintro e w7 ⟨rfl,hB7⟩
    have hB07:=hB06.trans (hB7.mono hB06.size)
    clear hr2 hB7 hB06
    go_wp2
    go_ret
    exact⟨by simp,hB07⟩
 ·by_cases hx2:200<x.length
  ·have i1:(200:Int)<(x.length:Int):=by omega
   go_wp2
   go_ret
   exact⟨rfl,hB01⟩
  ·have i1:¬ (200:Int)<(x.length:Int):=by omega
   have i2:(20000:Int)<(s.length:Int):=by omega
   go_wp2
   go_ret
   exact⟨rfl,hB01⟩
set_option maxRecDepth 100000 in
theorem contract (H:Type) (enc:TypeId × Value→H) (W:World) (base:Nat) (args:Array Value) (ds gs:List (DataW H)) (before:List MemPlace)
  (hval:∀ (j:Nat) t v,Tryd.f5.params[j]?=some t→args[j]?=some v→Value.okWide Tryd.prog W .any base t v)
  (hW:DataW.Whole enc Tryd.prog Tryd.f5.params.toList Rows.viewsSameSpec.vars false W args.toList ds gs before) (hk:Rows.uptoSmall H (ds++gs)=true) :
  Calls Tryd.prog 5 args W fun e W'=>∃ v,e=.returned v∧Rows.viewsSameSpec.post enc Tryd.prog Tryd.f5 false true false false W args v W':=by
 have hW':=hW
 obtain⟨p,q,hA0,hV,rfl,hfz,hnd⟩:=hW
 have hA:DataW.TrodAll enc Tryd.prog W 0 (fun _=>true) true Tryd.f5.params.toList args.toList ds p:=hA0
 rw[Tryd.params5] at hA hval
 obtain⟨v0,vs0,d0,ds0,p0,q0,hargs,rfl,rfl,h0,r0⟩:=trodAll_cons hA
 obtain⟨v1,vs1,d1,ds1,p1,q1,rfl,rfl,rfl,h1,r1⟩:=trodAll_cons r0
 obtain⟨rfl,rfl,rfl⟩:=trodAll_nil r1
 obtain rfl:args=#[v0,v1]:=by cases args;simp_all
 obtain⟨rfl,rfl⟩:=trodVars_none hV
 obtain⟨n1,rfl,rfl,rfl,wn1⟩:=open_int Tryd.underlying3 (hval 1 3 v1 rfl rfl) h1
 obtain⟨a0,rfl,rfl,rfl,wt0⟩:=open_string Tryd.underlying9 (hval 0 9 v0 rfl rfl) h0
 clear hA0
 simp only[List.append_nil] at hk
 have hbk:Rows.uptoBulkAll [.lit (.string a0.data.toList),.lit (.int .i64 n1)]≤1048576:=of_decide_eq_true hk
 simp only[Rows.uptoBulkAll] at hbk
 have hw:=walk a0.data.toList n1  W (by simp only[Rows.uptoBulk] at hbk;omega)
 refine hw.mono fun e W' ⟨he,bel⟩=>?_
 subst he
 exact⟨_,rfl,_,_,_,[],_,[],hW',trodAll_mk1 (shut_bool Tryd.underlying4 _),trodAll_cons_mk (shut_string Tryd.underlying9 wt0) (trodAll_cons_mk (shut_int Tryd.underlying3 wn1) trodAll_mk0),rfl,bel.frame _,fun h=>by cases h⟩
theorem laid_met (os:Os):laidMet Tryd.prog Rows.viewsSameUptoRow.laid ((laidOnU (World.holding Tryd.prog os ⟨#[],#[],[]⟩)).forCall (fun _ _=>0) ⟨#[],#[.string .empty,.int .i64 0],[]⟩).memory :=
 laidMet_of_run' 8 (by kernel_rfl) (by kernel_rfl)
theorem reads (os:Os) {H:Type} (enc:TypeId × Value→H):∃ places,DataW.whole enc Tryd.prog ((laidOnU (World.holding Tryd.prog os ⟨#[],#[],[]⟩)).forCall (fun _ _=>0) ⟨#[],#[.string .empty,.int .i64 0],[]⟩).memory Tryd.f5.params.toList Rows.viewsSameSpec.vars false #[Value.string .empty,Value.int .i64 0].toList 8=some ([.lit (.string []),.lit (.int .i64 0)],[],places) :=
 ⟨[],by kernel_rfl⟩
set_option maxRecDepth 100000 in
theorem lifted (os:Os) (started:os.Started) (H:Type) (enc:TypeId × Value→H) (F:Stop.Interp) :
  ReturnsInHanded {} Tryd.checked os 5 .any ((Rows.OpenSpec.upto Rows.viewsSameSpec).preRow enc Tryd.prog Tryd.f5 Rows.viewsSameUptoRow.domain false Rows.viewsSameUptoRow.laid) (((Rows.OpenSpec.upto Rows.viewsSameSpec).at F).post enc Tryd.prog Tryd.f5 false true false false):=by
 obtain⟨places,hx⟩:=reads os enc
 refine returnsInHanded_of_row (C:=Tryd.checked) (s:=Rows.OpenSpec.upto Rows.viewsSameSpec) own started (by kernel_rfl) Tryd.func5
  (witness_row_at (enc:=enc) (C:=Tryd.checked) false (laidOnU (World.holding Tryd.prog os ⟨#[],#[],[]⟩)) #[.string .empty,.int .i64 0] rfl (by kernel_rfl) (by kernel_rfl) (by kernel_rfl)
   (OpenSpec.preRow_of_cond 8 hx (by kernel_rfl) (fun k hk=>by cases hk;kernel_rfl) (by kernel_rfl) (laid_met os))) ?_
 intro W base args ds gs before hval hW _ hcond _ _ _ _
 exact contract H enc W base args ds gs before hval hW (hcond _ rfl)
theorem said:Rows.ViewsSameUptoSaid :=
 OpenClaim.holds_of_cond 5 Tryd.f5 rfl rfl rfl rfl rfl rfl rfl ⟨rfl,rfl,rfl,rfl,rfl⟩ rfl rfl rfl rfl rfl (by kernel_rfl) Tryd.func5 (by kernel_rfl)
  (of_decide_eq_true (by kernel_rfl)) (by unfold Func.isWrapper;first | (rw[if_pos (by decide +kernel)];kernel_rfl) | (rw[if_neg (by decide +kernel)];exact⟨rfl,rfl⟩))
  (fun os started H enc _ F=>by rw[OpenClaim.pre_eq_preRow];exact lifted os started H enc F)
theorem plain (f : FuncId) (fn : Func) (hf : Tryd.pinned.checked.prog.funcNamed "redline/redlinelaw17.ViewsSame" = some f) (hfn : Tryd.pinned.checked.prog.funcs[f]? = some fn) :
  true=Tryd.pinned.checked.prog.looks []∧∀ (j:Nat) t,fn.params[j]?=some t→Tryd.pinned.checked.prog.wantsStandIn t=false:=by
 obtain rfl : f = 5 := Option.some.inj ((show Tryd.prog.funcNamed "redline/redlinelaw17.ViewsSame" = some 5 by kernel_rfl).symm.trans hf) |>.symm
 obtain rfl:fn=Tryd.f5:=(Option.some.inj (Tryd.func5.symm.trans hfn)).symm
 refine⟨by kernel_rfl,fun j t ht=>?_⟩
 rw[Tryd.params5] at ht
 have hm:t=9∨t=3:=by simpa using Array.mem_of_getElem? ht
 rcases hm with rfl | rfl
 ·exact (show Tryd.prog.wantsStandIn 9=false by kernel_rfl)
 ·exact (show Tryd.prog.wantsStandIn 3=false by kernel_rfl)
theorem card:Rows.ViewsSameUptoCardSaid :=
 Claim7.holds_tied_plain_at .later [] _ _ _ _ said (fun _ h=>by cases h) (by kernel_rfl) (fun _ h=>by cases h) viewsSameUpto_row_tie rfl ⟨rfl,rfl⟩ (by kernel_rfl) rfl plain (by kernel_rfl)
#print axioms card
end Go.Proofs.YtcnjephlmcnodaaDoor.viewsSame
