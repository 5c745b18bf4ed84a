/-
  For every number and every two texts of together at most 1048576 letters, the law EdfmtBack returns true and leaves its arguments as they were: the commands that are written of the two texts, by whatever engine, make the second one of the first. The conditions are the statement's own bound and the card's: the library's tables, and errors.errorType, hold what the program's text lays.
-/
import Derived.Test.YtkiaenncemfkcaaGreatDoorCards
import Derived.Test.YtkiaenncemfkcaaGreatDoorTie
import Derived.Test.YtkiaenncemfkcaaGreatDoorRcsE1
import Derived.Test.YtkiaenncemfkcaaGreatDoorRcsA11
import Derived.Test.YtkiaenncemfkcaaGreatDoorRcsA12
import Derived.Test.YtkiaenncemfkcaaGreatDoorRcsA10
import Derived.Test.YtkiaenncemfkcaaGreatDoorRcsB1
import Derived.Test.YtkiaenncemfkcaaGreatDoorRcsA13
import Derived.Test.YtkiaenncemfkcaaGreatDoorRcsA7
import Derived.ProofKit
import Derived.OpenShut
import Derived.ShutString
import Derived.JoinedCond
import Derived.Deep.DeepHandedRow
import Derived.Lib.LaidTab
import Derived.LaidSub
set_option maxRecDepth 20000
namespace Go.Proofs.YtkiaenncemfkcaaGreatDoor.edfmtBack
open Go.ChangeShapes Go.WideShapes Go.ChangeAt Go.RowKit
open Go.ChangeMaps (open_string shut_string)
theorem short_of {t:List UInt8} {M:Nat} (h:t.length≤M):∀ s∈Ln.splitL t,s.length≤M:=by
 intro s hs
 have h1:=congrArg List.length (Ln.split_join t)
 have h2:=ZiR hs
 omega
set_option maxRecDepth 20000 in
set_option maxHeartbeats 16000000 in
theorem walk (k0:Int) (s t:List UInt8) (w:World) (hl:s.length+t.length≤1048576) (HTb0:Tab10 w) (hE:ErrT w) :
  Calls Tryz.prog 3 #[.int .i64 k0,.string ⟨s.toArray⟩,.string ⟨t.toArray⟩] w fun e w'=>e=.returned (.bool true)∧Below w.heap.size w w':=by
 have HTb:Hid (Tab10 w):=HTb0
 have HE:Hid (ErrT w):=hE
 clear HTb0 hE
 have hyl0:=Ln.split_len t
 have hyf:(Ln.splitL t).flatten=t:=Ln.split_join t
 have hyc:=Ln.split_right t
 obtain⟨x,hx⟩:∃ x,Ln.splitL s=x:=⟨_,rfl⟩
 obtain⟨y,hy⟩:∃ y,Ln.splitL t=y:=⟨_,rfl⟩
 have HSx:Hid (∀ u∈x,u.length≤1048576):=(by rw[← hx];exact short_of (by omega))
 have HSy:Hid (∀ u∈y,u.length≤1048576):=(by rw[← hy];exact short_of (by omega))
 have hsx:=fun w=>ZpV s w (by omega)
 have hsy:=fun w=>ZpV t w (by omega)
 rw[hx] at hsx
 rw[hy] at hsy hyl0 hyf hyc
 have HYF:Hid (y.flatten=t):=hyf
 have HYC:Hid (Ln.checkB y=true):=hyc
 clear hx hy hyf hyc
 go_enter Tryz.func3,Tryz.ntmps3
 go_wp2_with fail
 refine (ZhE w HTb).mono ?_
 rintro e w0 ⟨rfl,hB0⟩
 go_wp2_with fail
 refine (hsx w0).mono ?_
 rintro e w1 ⟨v1,rfl,hown1,hB1⟩
 have ha1:HS w1 v1 x:=holds_of hown1
 obtain⟨ao,ac,rfl⟩:=Holds.form ha1
 clear hown1
 go_wp2_with fail
 refine (hsy w1).mono ?_
 rintro e w2 ⟨v2,rfl,hown2,hB2⟩
 have hb2:HS w2 v2 y:=holds_of hown2
 obtain⟨bo,bc,rfl⟩:=Holds.form hb2
 have ha2:=HS.keep ha1 hB2 (Nat.le_refl _)
 have hB01:=hB0.trans (hB1.mono hB0.size)
 have hB02:=hB01.trans (hB2.mono hB01.size)
 clear hown2 hsx hsy ha1 hB0 hB1 hB2 hB01
 by_cases hsm:x.length≤200∧y.length≤200
 ·obtain⟨hxl,hyl⟩:=hsm
  obtain⟨K,hK,hkk⟩:=ZmP k0
  obtain⟨L,hL⟩:∃ L,mkL (eng K (clx ig0 x y) (cly ig0 x y)) y.length=L:=⟨_,rfl⟩
  have HL:Hid (mkL (eng K (clx ig0 x y) (cly ig0 x y)) y.length=L):=hL
  obtain⟨hscr,hsame,hLl⟩:=Zhr K x y (by omega) (by omega) hL
  obtain⟨T,hT⟩:∃ T,epT L y=T:=⟨_,rfl⟩
  have HRD:Hid (edR T x=if 1048576<T.length then .error (0,9) else .ok y):=(by
   show _=_
   rw[← hT]
   exact ZgD hscr HYC.out (by omega) hsame)
  have hTl:T.length≤1099511627776:=(by
   have hm:=Zvs hscr.2.2
   have h1:=ZsX y (by rw[HYF.out];omega) L.reverse (fun c hc=>by have:=hm c (List.mem_reverse.1 hc);exact⟨this.1,this.2.2⟩)
   rw[List.length_reverse] at h1
   have h2:L.length * 33554432≤201 * 33554432:=Nat.mul_le_mul_right _ (by omega)
   have h3:T.length=(prA y L.reverse).length+(endL y).flatten.length:=by rw[← hT];unfold epT epL prA;rw[List.flatten_append,List.length_append]
   have h4:(endL y).flatten.length≤28:=by unfold endL;split<;>simp[markT]
   omega)
  have HR:Hid (chk L x.length y.length=0):=Zel hscr
  have HT:Hid ((if (0:Int)=0 then epT L y else [])=T):=(by show _=_;rw[if_pos rfl];exact hT)
  clear hL hscr hsame hT
  have i1:¬ (200:Int)<(x.length:Int):=by omega
  have i2:¬ (200:Int)<(y.length:Int):=by omega
  go_wp2_with fail
  rw[hK]
  clear hK
  refine (En_f K ig0 x y _ _ w2 ha2 hb2 hkk (by omega) (by omega) (fun u hu=>Nat.le_trans (HSx.out u hu) (by omega)) (fun u hu=>Nat.le_trans (HSy.out u hu) (by omega)) L HL).mono ?_
  rintro e w3 ⟨v3,rfl,hv3,hB3⟩
  obtain⟨o3,c3,rfl⟩:=Holds.form hv3
  have hB03:=hB02.trans (hB3.mono hB02.size)
  have ha3:=HS.keep ha2 hB3 (Nat.le_refl _)
  have hb3:=HS.keep hb2 hB3 (Nat.le_refl _)
  have HTb3:Hid (Tab10 w3):=HTb.out.on hB03
  have HSy2:Hid (∀ u∈y,u.length≤1099511627776):=fun u hu=>Nat.le_trans (HSy.out u hu) (by omega)
  have HSx2:Hid (∀ u∈x,u.length≤1099511627776):=fun u hu=>Nat.le_trans (HSx.out u hu) (by omega)
  clear hB02 hB3 ha2 hb2 i1 i2
  go_wp2_with fail
  refine (Zgx L _ _ _ x y w3 hv3 ha3 hb3 (by omega) (by omega) (by rw[HYF.out];omega) HSy2 HTb3 0 HR T HT (by omega)).mono ?_
  rintro e w4 ⟨rfl,hB4⟩
  have hB04:=hB03.trans (hB4.mono hB03.size)
  have ha4:=HS.keep ha3 hB4 (Nat.le_refl _)
  clear hv3 ha3 hb3 hB4 hB03 HTb3 HT HR
  by_cases hlong:1048576<T.length
  ·have HX:Hid (edR T x=.error (0,9)):=(by show _=_;rw[HRD.out,if_pos hlong])
   have j1:(1048576:Int)<(T.length:Int):=by omega
   go_wp2_with fail
   refine (Zbc T x _ w4 ha4 (by omega) (by omega) HSx2 _ HX).mono ?_
   rintro e w5 ⟨g,rfl,hg5,hB5⟩
   have hB05:=hB04.trans (hB5.mono hB04.size)
   have hE5:=HE.out.low hB05 (Nat.le_refl _)
   clear ha4 hB5 hB04
   go_wp2_with fail
   refine (ZxR g 0 9 w5 hE5 hg5).mono ?_
   rintro e w6 ⟨rfl,hB6⟩
   have hB06:=hB05.trans (hB6.mono hB05.size)
   go_wp2
   go_ret
   exact⟨rfl,hB06⟩
  ·have HX:Hid (edR T x=.ok y):=(by show _=_;rw[HRD.out,if_neg hlong])
   have j1:¬ (1048576:Int)<(T.length:Int):=by omega
   go_wp2_with fail
   refine (Zbc T x _ w4 ha4 (by omega) (by omega) HSx2 _ HX).mono ?_
   rintro e w5 ⟨v5,rfl,hv5,hB5⟩
   obtain⟨o5,c5,rfl⟩:=Holds.form hv5
   have hB05:=hB04.trans (hB5.mono hB04.size)
   clear ha4 hB5 hB04
   go_wp2_with fail
   refine (Znl _ y w5 (by omega) (by rw[HYF.out];omega) hv5).mono ?_
   rw[HYF.out]
   rintro e w6 ⟨rfl,hB6⟩
   have hB06:=hB05.trans (hB6.mono hB05.size)
   go_wp2
   go_ret
   exact⟨rfl,hB06⟩
 ·by_cases hx2:x.length≤200
  ·have i1:¬ (200:Int)<(x.length:Int):=by omega
   have i2:(200:Int)<(y.length:Int):=by omega
   go_wp2
   go_ret
   exact⟨rfl,hB02⟩
  ·have i1:(200:Int)<(x.length:Int):=by omega
   go_wp2
   go_ret
   exact⟨rfl,hB02⟩
set_option maxRecDepth 100000 in
theorem contract (H:Type) (enc:TypeId × Value→H) (W:World) (base:Nat) (args:Array Value) (ds gs:List (DataW H)) (before:List MemPlace)
  (hval:∀ (j:Nat) t v,Tryz.f3.params[j]?=some t→args[j]?=some v→Value.okWide Tryz.prog W .any base t v)
  (hW:DataW.Whole enc Tryz.prog Tryz.f3.params.toList Rows.edfmtBackSpec.vars false W args.toList ds gs before) (hL:laidMetH Tryz.prog Rows.edfmtBackUptoRow.laid W) (hk:Rows.uptoSmall H (ds++gs)=true) :
  Calls Tryz.prog 3 args W fun e W'=>∃ v,e=.returned v∧Rows.edfmtBackSpec.post enc Tryz.prog Tryz.f3 false true false false W args v W':=by
 have hW':=hW
 obtain⟨p,q,hA0,hV,rfl,hfz,hnd⟩:=hW
 have hA:DataW.TrodAll enc Tryz.prog W 0 (fun _=>true) true Tryz.f3.params.toList args.toList ds p:=hA0
 rw[Tryz.params3] at hA hval
 obtain⟨v0,vs0,d0,ds0,p0,q0,hargs,rfl,rfl,h0,r0⟩:=trodAll_cons hA
 obtain⟨v1,vs1,d1,ds1,p1,q1,rfl,rfl,rfl,h1,r1⟩:=trodAll_cons r0
 obtain⟨v2,vs2,d2,ds2,p2,q2,rfl,rfl,rfl,h2,r2⟩:=trodAll_cons r1
 obtain⟨rfl,rfl,rfl⟩:=trodAll_nil r2
 obtain rfl:args=#[v0,v1,v2]:=by cases args;simp_all
 obtain⟨rfl,rfl⟩:=trodVars_none hV
 obtain⟨n0,rfl,rfl,rfl,wn0⟩:=open_int Tryz.underlying3 (hval 0 3 v0 rfl rfl) h0
 obtain⟨a1,rfl,rfl,rfl,wt1⟩:=open_string Tryz.underlying9 (hval 1 9 v1 rfl rfl) h1
 obtain⟨a2,rfl,rfl,rfl,wt2⟩:=open_string Tryz.underlying9 (hval 2 9 v2 rfl rfl) h2
 clear hA0
 simp only[List.append_nil] at hk
 have hbk:Rows.uptoBulkAll [.lit (.int .i64 n0),.lit (.string a1.data.toList),.lit (.string a2.data.toList)]≤1048576:=of_decide_eq_true hk
 simp only[Rows.uptoBulkAll] at hbk
 have ht:=Tb.tab_of Rows.edfmtBackUptoRow.laid rfl hL
 have hw:=walk n0 a1.data.toList a2.data.toList  W (by simp only[Rows.uptoBulk] at hbk;omega) (fun u hu=>var?_below hu Tb.gTab (Tb.tab_lt ht) ht) (Et.met Rows.edfmtBackUptoRow.laid rfl hL)
 refine hw.mono fun e W' ⟨he,bel⟩=>?_
 subst he
 exact⟨_,rfl,_,_,_,[],_,[],hW',trodAll_mk1 (shut_bool Tryz.underlying4 _),trodAll_cons_mk (shut_int Tryz.underlying3 wn0) (trodAll_cons_mk (shut_string Tryz.underlying9 wt1) (trodAll_cons_mk (shut_string Tryz.underlying9 wt2) trodAll_mk0)),rfl,bel.frame _,fun h=>by cases h⟩
theorem laid_met (os:Os):laidMetH Tryz.prog Rows.edfmtBackUptoRow.laid ((Tt.laidOn (World.holding Tryz.prog os ⟨#[],#[],[]⟩)).forCall (fun _ _=>0) ⟨#[],#[.int .i64 0,.string .empty,.string .empty],[]⟩).memory :=
 laidMetH_of_parts (laidMet_of_run' 8 (by kernel_rfl) (by kernel_rfl)) (by kernel_rfl)
theorem reads (os:Os) {H:Type} (enc:TypeId × Value→H):∃ places,DataW.whole enc Tryz.prog ((Tt.laidOn (World.holding Tryz.prog os ⟨#[],#[],[]⟩)).forCall (fun _ _=>0) ⟨#[],#[.int .i64 0,.string .empty,.string .empty],[]⟩).memory Tryz.f3.params.toList Rows.edfmtBackSpec.vars false #[Value.int .i64 0,Value.string .empty,Value.string .empty].toList 8=some ([.lit (.int .i64 0),.lit (.string []),.lit (.string [])],[],places) :=
 ⟨[],by kernel_rfl⟩
set_option maxRecDepth 100000 in
theorem lifted (os:Os) (started:os.Started) (H:Type) (enc:TypeId × Value→H) (F:Stop.Interp) :
  ReturnsInHanded {} Tryz.checked os 3 .any ((Rows.OpenSpec.upto Rows.edfmtBackSpec).preRow enc Tryz.prog Tryz.f3 Rows.edfmtBackUptoRow.domain false Rows.edfmtBackUptoRow.laid) (((Rows.OpenSpec.upto Rows.edfmtBackSpec).at F).post enc Tryz.prog Tryz.f3 false true false false):=by
 obtain⟨places,hx⟩:=reads os enc
 refine returnsInHanded_of_row (C:=Tryz.checked) (s:=Rows.OpenSpec.upto Rows.edfmtBackSpec) own started (by kernel_rfl) Tryz.func3
  (witness_row_at (enc:=enc) (C:=Tryz.checked) false (Tt.laidOn (World.holding Tryz.prog os ⟨#[],#[],[]⟩)) #[.int .i64 0,.string .empty,.string .empty] rfl (by kernel_rfl) (by kernel_rfl) (by kernel_rfl)
   (OpenSpec.preRow_of_cond 8 hx (by kernel_rfl) (fun k hk=>by cases hk;kernel_rfl) (by kernel_rfl) (laid_met os))) ?_
 intro W base args ds gs before hval hW _ hcond _ hL _ _
 exact contract H enc W base args ds gs before hval hW hL (hcond _ rfl)
theorem said:Rows.EdfmtBackUptoSaid :=
 OpenClaim.holds_of_cond 3 Tryz.f3 rfl rfl rfl rfl rfl rfl rfl ⟨rfl,rfl,rfl,rfl,rfl⟩ rfl rfl rfl rfl rfl (by kernel_rfl) Tryz.func3 (by kernel_rfl)
  (of_decide_eq_true (by kernel_rfl)) (by unfold Func.isWrapper;first | (rw[if_pos (by decide +kernel)];kernel_rfl) | (rw[if_neg (by decide +kernel)];exact⟨rfl,rfl⟩))
  (fun os started H enc _ F=>by rw[OpenClaim.pre_eq_preRow];exact lifted os started H enc F)
theorem plain (f : FuncId) (fn : Func) (hf : Tryz.pinned.checked.prog.funcNamed "redline/redlinelaw13.EdfmtBack" = some f) (hfn : Tryz.pinned.checked.prog.funcs[f]? = some fn) :
  true=Tryz.pinned.checked.prog.looks []∧∀ (j:Nat) t,fn.params[j]?=some t→Tryz.pinned.checked.prog.wantsStandIn t=false:=by
 obtain rfl : f = 3 := Option.some.inj ((show Tryz.prog.funcNamed "redline/redlinelaw13.EdfmtBack" = some 3 by kernel_rfl).symm.trans hf) |>.symm
 obtain rfl:fn=Tryz.f3:=(Option.some.inj (Tryz.func3.symm.trans hfn)).symm
 refine⟨by kernel_rfl,fun j t ht=>?_⟩
 rw[Tryz.params3] at ht
 have hm:t=3∨t=9∨t=9:=by simpa using Array.mem_of_getElem? ht
 rcases hm with rfl | rfl | rfl
 ·exact (show Tryz.prog.wantsStandIn 3=false by kernel_rfl)
 ·exact (show Tryz.prog.wantsStandIn 9=false by kernel_rfl)
 ·exact (show Tryz.prog.wantsStandIn 9=false by kernel_rfl)
theorem card:Rows.EdfmtBackUptoCardSaid :=
 Claim7.holds_tied_plain_at .later [] _ _ _ _ said (fun _ h=>by cases h) (by kernel_rfl) (fun _ h=>by cases h) edfmtBackUpto_row_tie rfl ⟨rfl,rfl⟩ (by kernel_rfl) rfl plain (by kernel_rfl)
#print axioms card
end Go.Proofs.YtkiaenncemfkcaaGreatDoor.edfmtBack
