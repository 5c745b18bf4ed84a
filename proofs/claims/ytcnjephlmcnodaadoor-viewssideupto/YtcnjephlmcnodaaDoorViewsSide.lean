/-
  For every script, every two lists of lines and every width, together at most 1048576 letters and values, the law ViewsSide returns true and leaves its arguments as they were: views.Side answers the rows of the two texts side by side, or the error, that the chapter says.
-/
import Derived.Test.YtcnjephlmcnodaaDoorCards
import Derived.Test.YtcnjephlmcnodaaDoorTie
import Derived.Test.YtcnjephlmcnodaaDoorVdA5
import Derived.Test.YtcnjephlmcnodaaDoorVdA2
import Derived.Test.YtcnjephlmcnodaaDoorVdB1
import Derived.ProofKit
import Derived.OpenShut
import Derived.ShutString
import Derived.JoinedCond
import Derived.Test.YtcnjephlmcnodaaDoorVdA1
import Derived.Deep.DeepHandedRow
import Derived.Lib.LaidTab
import Derived.LaidSub
namespace Go.Proofs.YtcnjephlmcnodaaDoor.viewsSide
open Go.ChangeShapes Go.WideShapes Go.ChangeAt Go.RowKit Go.Proofs.YtcnjephlmcnodaaDoor.Tx
open Go.ChangeMaps (open_string shut_string)
set_option maxRecDepth 20000 in
set_option maxHeartbeats 4000000 in
theorem walk (l:List Ch) (a b:List (List UInt8)) (wd:Int) (vl va vb:Value) (w:World) (hll:l.length≤1048576) (hla:a.length+a.flatten.length≤1048576) (hlb:b.length+b.flatten.length≤1048576) (hwd:-9223372036854775808≤wd∧wd≤9223372036854775807) (hl:HCh w vl l) (ha:HS w va a) (hb:HS w vb b) :
  Calls Tryd.prog 3 #[vl,va,vb,.int .i64 wd] w fun e w'=>e=.returned (.bool true)∧Below w.heap.size w w':=by
 obtain⟨ao,ca,rfl⟩:=Holds.form hl
 obtain⟨aa,caa,rfl⟩:=Holds.form ha
 obtain⟨ab,cab,rfl⟩:=Holds.form hb
 obtain⟨r,HR⟩:∃ r,Hid (vsE l a.length b.length wd=r):=⟨_,rfl⟩
 obtain⟨T,HT⟩:∃ T,Hid ((if r=0 then (vsL wd.toNat l a b).flatten else [])=T):=⟨_,rfl⟩
 have hT:T.length≤1152921504606846976:=(by
  rw[← HT.out]
  split
  ·rename_i h0
   have h:=HR.out
   rw[h0] at h
   have hw:=ZeY h
   have hs:=ZeO wd.toNat l a b
   have h1:(2 * a.length+b.length) * (2 * wd.toNat+4)≤3145728 * 404:=Nat.mul_le_mul (by omega) (by omega)
   have h2:(l.length+1) * ((2 * a.length+b.length) * (2 * wd.toNat+4))≤1048577 * (3145728 * 404):=Nat.mul_le_mul (by omega) h1
   omega
  ·simp)
 have hta:∀ s∈a,s.length≤1099511627776:=fun s hs=>Zcy hs (by omega)
 have htb:∀ s∈b,s.length≤1099511627776:=fun s hs=>Zcy hs (by omega)
 have hc:=Zet l a b wd _ _ _ w hl ha hb hll (by omega) (by omega) hta htb r HR T HT
 have hc2:=fun u (hB:Below w.heap.size w u)=>ZcW l a b wd _ _ _ u (hl.keep hB (Nat.le_refl _)) (ha.keep hB (Nat.le_refl _)) (hb.keep hB (Nat.le_refl _)) hll (by omega) (by omega) hta htb hwd r HR T HT hT
 clear HR HT hT hta htb hl ha hb
 go_enter Tryd.func3,Tryd.ntmps3
 go_wp2_with fail
 refine hc.mono ?_
 rintro e w1 ⟨rfl,hB1⟩
 clear hc
 go_wp2_with fail
 refine (hc2 _ hB1).mono ?_
 rintro e w2 ⟨rfl,hB2⟩
 have hB:=hB1.trans (hB2.mono hB1.size)
 clear hc2
 go_wp2
 go_ret
 exact⟨by simp,hB⟩
set_option maxRecDepth 100000 in
theorem contract (H:Type) (enc:TypeId × Value→H) (W:World) (base:Nat) (args:Array Value) (ds gs:List (DataW H)) (before:List MemPlace)
  (hval:∀ (j:Nat) t v,Tryd.f3.params[j]?=some t→args[j]?=some v→Value.okWide Tryd.prog W .any base t v)
  (hW:DataW.Whole enc Tryd.prog Tryd.f3.params.toList Rows.viewsSideSpec.vars false W args.toList ds gs before) (hk:Rows.uptoSmall H (ds++gs)=true) :
  Calls Tryd.prog 3 args W fun e W'=>∃ v,e=.returned v∧Rows.viewsSideSpec.post enc Tryd.prog Tryd.f3 false true false false W args v W':=by
 have hW':=hW
 obtain⟨p,q,hA0,hV,rfl,hfz,hnd⟩:=hW
 have hA:DataW.TrodAll enc Tryd.prog W 0 (fun _=>true) true Tryd.f3.params.toList args.toList ds p:=hA0
 rw[Tryd.params3] at hA hval
 obtain⟨v0,vs0,d0,ds0,p0,q0,hargs,rfl,rfl,h0,r0⟩:=trodAll_cons hA
 obtain⟨v1,vs1,d1,ds1,p1,q1,rfl,rfl,rfl,h1,r1⟩:=trodAll_cons r0
 obtain⟨v2,vs2,d2,ds2,p2,q2,rfl,rfl,rfl,h2,r2⟩:=trodAll_cons r1
 obtain⟨v3,vs3,d3,ds3,p3,q3,rfl,rfl,rfl,h3,r3⟩:=trodAll_cons r2
 obtain⟨rfl,rfl,rfl⟩:=trodAll_nil r3
 obtain rfl:args=#[v0,v1,v2,v3]:=by cases args;simp_all
 obtain⟨rfl,rfl⟩:=trodVars_none hV
 obtain⟨a0,len0,cap0,rfl⟩:=okWide_slice Tryd.underlying22 (hval 0 22 v0 rfl rfl)
 have k0:=h0
 have lt0:∀ x∈p0,x.block<W.heap.size:=by obtain⟨m,hm⟩:=k0;exact DataW.trod_lt m _ _ _ hm
 obtain⟨a1,len1,cap1,rfl⟩:=okWide_slice Tryd.underlying23 (hval 1 23 v1 rfl rfl)
 have k1:=h1
 have lt1:∀ x∈p1,x.block<W.heap.size:=by obtain⟨m,hm⟩:=k1;exact DataW.trod_lt m _ _ _ hm
 obtain⟨a2,len2,cap2,rfl⟩:=okWide_slice Tryd.underlying23 (hval 2 23 v2 rfl rfl)
 have k2:=h2
 have lt2:∀ x∈p2,x.block<W.heap.size:=by obtain⟨m,hm⟩:=k2;exact DataW.trod_lt m _ _ _ hm
 obtain⟨n3,rfl,rfl,rfl,wn3⟩:=open_int Tryd.underlying3 (hval 3 3 v3 rfl rfl) h3
 clear hA0
 simp only[List.append_nil] at hk
 have hbk:Rows.uptoBulkAll [d0,d1,d2,.lit (.int .i64 n3)]≤1048576:=of_decide_eq_true hk
 simp only[Rows.uptoBulkAll] at hbk
 obtain⟨f0,hf0⟩:=h0
 obtain⟨ws0,hv0,hwl0,_⟩:=ZcJ (by simpa [Value.cells] using hf0)
 obtain⟨f1,hf1⟩:=h1
 obtain⟨ws1,hv1,hwl1⟩:=ZcK (by simpa [Value.cells] using hf1)
 obtain⟨f2,hf2⟩:=h2
 obtain⟨ws2,hv2,hwl2⟩:=ZcK (by simpa [Value.cells] using hf2)
 have hw:=walk ws0 ws1 ws2 n3 (.slice a0 len0 cap0) (.slice a1 len1 cap1) (.slice a2 len2 cap2) W (by omega) (by omega) (by omega) (bounds_i64 wn3) hv0 hv1 hv2
 refine hw.mono fun e W' ⟨he,bel⟩=>?_
 subst he
 exact⟨_,rfl,_,_,_,[],_,[],hW',trodAll_mk1 (shut_bool Tryd.underlying4 _),trodAll_cons_mk (Below.trod laidOut (by kernel_rfl) (of_decide_eq_true (by kernel_rfl)) k0 bel lt0) (trodAll_cons_mk (Below.trod laidOut (by kernel_rfl) (of_decide_eq_true (by kernel_rfl)) k1 bel lt1) (trodAll_cons_mk (Below.trod laidOut (by kernel_rfl) (of_decide_eq_true (by kernel_rfl)) k2 bel lt2) (trodAll_cons_mk (shut_int Tryd.underlying3 wn3) trodAll_mk0))),rfl,bel.frame _,fun h=>by cases h⟩
theorem laid_met (os:Os):laidMet Tryd.prog Rows.viewsSideUptoRow.laid ((laidOnU (World.holding Tryd.prog os ⟨#[],#[],[]⟩)).forCall (fun _ _=>0) ⟨#[],#[.slice none 0 0,.slice none 0 0,.slice none 0 0,.int .i64 0],[]⟩).memory :=
 laidMet_of_run' 8 (by kernel_rfl) (by kernel_rfl)
theorem reads (os:Os) {H:Type} (enc:TypeId × Value→H):∃ places,DataW.whole enc Tryd.prog ((laidOnU (World.holding Tryd.prog os ⟨#[],#[],[]⟩)).forCall (fun _ _=>0) ⟨#[],#[.slice none 0 0,.slice none 0 0,.slice none 0 0,.int .i64 0],[]⟩).memory Tryd.f3.params.toList Rows.viewsSideSpec.vars false #[Value.slice none 0 0,Value.slice none 0 0,Value.slice none 0 0,Value.int .i64 0].toList 8=some ([.nil,.nil,.nil,.lit (.int .i64 0)],[],places) :=
 ⟨[],by kernel_rfl⟩
set_option maxRecDepth 100000 in
theorem lifted (os:Os) (started:os.Started) (H:Type) (enc:TypeId × Value→H) (F:Stop.Interp) :
  ReturnsInHanded {} Tryd.checked os 3 .any ((Rows.OpenSpec.upto Rows.viewsSideSpec).preRow enc Tryd.prog Tryd.f3 Rows.viewsSideUptoRow.domain false Rows.viewsSideUptoRow.laid) (((Rows.OpenSpec.upto Rows.viewsSideSpec).at F).post enc Tryd.prog Tryd.f3 false true false false):=by
 obtain⟨places,hx⟩:=reads os enc
 refine returnsInHanded_of_row (C:=Tryd.checked) (s:=Rows.OpenSpec.upto Rows.viewsSideSpec) own started (by kernel_rfl) Tryd.func3
  (witness_row_at (enc:=enc) (C:=Tryd.checked) false (laidOnU (World.holding Tryd.prog os ⟨#[],#[],[]⟩)) #[.slice none 0 0,.slice none 0 0,.slice none 0 0,.int .i64 0] rfl (by kernel_rfl) (by kernel_rfl) (by kernel_rfl)
   (OpenSpec.preRow_of_cond 8 hx (by kernel_rfl) (fun k hk=>by cases hk;kernel_rfl) (by kernel_rfl) (laid_met os))) ?_
 intro W base args ds gs before hval hW _ hcond _ _ _ _
 exact contract H enc W base args ds gs before hval hW (hcond _ rfl)
theorem said:Rows.ViewsSideUptoSaid :=
 OpenClaim.holds_of_cond 3 Tryd.f3 rfl rfl rfl rfl rfl rfl rfl ⟨rfl,rfl,rfl,rfl,rfl⟩ rfl rfl rfl rfl rfl (by kernel_rfl) Tryd.func3 (by kernel_rfl)
  (of_decide_eq_true (by kernel_rfl)) (by unfold Func.isWrapper;first | (rw[if_pos (by decide +kernel)];kernel_rfl) | (rw[if_neg (by decide +kernel)];exact⟨rfl,rfl⟩))
  (fun os started H enc _ F=>by rw[OpenClaim.pre_eq_preRow];exact lifted os started H enc F)
theorem plain (f : FuncId) (fn : Func) (hf : Tryd.pinned.checked.prog.funcNamed "redline/redlinelaw17.ViewsSide" = some f) (hfn : Tryd.pinned.checked.prog.funcs[f]? = some fn) :
  true=Tryd.pinned.checked.prog.looks []∧∀ (j:Nat) t,fn.params[j]?=some t→Tryd.pinned.checked.prog.wantsStandIn t=false:=by
 obtain rfl : f = 3 := Option.some.inj ((show Tryd.prog.funcNamed "redline/redlinelaw17.ViewsSide" = some 3 by kernel_rfl).symm.trans hf) |>.symm
 obtain rfl:fn=Tryd.f3:=(Option.some.inj (Tryd.func3.symm.trans hfn)).symm
 refine⟨by kernel_rfl,fun j t ht=>?_⟩
 rw[Tryd.params3] at ht
 have hm:t=22∨t=23∨t=23∨t=3:=by simpa using Array.mem_of_getElem? ht
 rcases hm with rfl | rfl | rfl | rfl
 ·exact (show Tryd.prog.wantsStandIn 22=false by kernel_rfl)
 ·exact (show Tryd.prog.wantsStandIn 23=false by kernel_rfl)
 ·exact (show Tryd.prog.wantsStandIn 23=false by kernel_rfl)
 ·exact (show Tryd.prog.wantsStandIn 3=false by kernel_rfl)
theorem card:Rows.ViewsSideUptoCardSaid :=
 Claim7.holds_tied_plain_at .later [] _ _ _ _ said (fun _ h=>by cases h) (by kernel_rfl) (fun _ h=>by cases h) viewsSideUpto_row_tie rfl ⟨rfl,rfl⟩ (by kernel_rfl) rfl plain (by kernel_rfl)
#print axioms card
end Go.Proofs.YtcnjephlmcnodaaDoor.viewsSide
