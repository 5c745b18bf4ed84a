/-
  For every script, every two lists of lines and every name, together at most 1048576 letters and values, the law ViewsIfdef returns true and leaves its arguments as they were: views.Ifdef answers the two texts laid into one, or the error, that the chapter says.
-/
import Derived.Test.YtcnjephlmcnodaaRows
import Derived.Test.YtcnjephlmcnodaaVwA4
import Derived.Test.YtcnjephlmcnodaaVwA2
import Derived.ProofKit
import Derived.OpenShut
import Derived.ShutString
import Derived.JoinedCond
namespace Go.Proofs.Ytcnjephlmcnodaa.viewsIfdef
open Go.ChangeShapes Go.WideShapes Go.ChangeAt Go.RowKit Go.Proofs.Ytcnjephlmcnodaa.Tx
open Go.ChangeMaps (open_string shut_string)
set_option maxRecDepth 20000 in
set_option maxHeartbeats 4000000 in
theorem walk (l:List Ch) (a b:List (List UInt8)) (nm:List UInt8) (vl va vb:Value) (w:World) (hll:l.length≤1048576) (hla:a.length+a.flatten.length≤1048576) (hlb:b.length+b.flatten.length≤1048576) (hn:nm.length≤1048576) (hl:HCh w vl l) (ha:HS w va a) (hb:HS w vb b) :
  Calls Try.prog 3 #[vl,va,vb,.string ⟨nm.toArray⟩] w fun e w'=>e=.returned (.bool true)∧Below w.heap.size w w':=by
 obtain⟨ao,ca,rfl⟩:=Holds.form hl
 obtain⟨aa,caa,rfl⟩:=Holds.form ha
 obtain⟨ab,cab,rfl⟩:=Holds.form hb
 obtain⟨r,HR⟩:∃ r,Hid (ifE l a.length b.length nm=r):=⟨_,rfl⟩
 obtain⟨T,HT⟩:∃ T,Hid ((if r=0 then (ifL nm l a b).flatten else [])=T):=⟨_,rfl⟩
 have za:=Zcn a
 have zb:=Zcn b
 have hT:T.length≤70368744177664:=(by
  rw[← HT.out]
  split
  ·have hs:=ZaY nm l a b
   have h2:(l.length+1) * (2 * (wlL a).flatten.length+(wlL b).flatten.length+3 * nm.length+48)≤1048577 * 10000000:=Nat.mul_le_mul (by omega) (by omega)
   omega
  ·simp)
 have hta:∀ s∈a,s.length≤1099511627776:=fun s hs=>Zbj hs (by omega)
 have htb:∀ s∈b,s.length≤1099511627776:=fun s hs=>Zbj hs (by omega)
 have hc:=ZbX l a b nm _ _ _ w hl ha hb (by omega) (by omega) (by omega) hta htb r HR T HT hT
 have hc2:=fun u (hB:Below w.heap.size w u)=>Zbx l a b nm _ _ _ u (hl.keep hB (Nat.le_refl _)) (ha.keep hB (Nat.le_refl _)) (hb.keep hB (Nat.le_refl _)) (by omega) (by omega) (by omega) (by omega) hta htb (by omega) (by omega) r HR T HT (by omega)
 clear HR HT hT hta htb hl ha hb za zb
 go_enter Try.func3,Try.ntmps3
 go_wp2_with fail
 refine hc.mono ?_
 rintro e w1 ⟨rfl,hB1⟩
 clear hc
 go_wp2_with fail
 refine (hc2 _ hB1).mono ?_
 rintro e w2 ⟨rfl,hB2⟩
 have hB:=hB1.trans (hB2.mono hB1.size)
 clear hc2
 go_wp2
 go_ret
 exact⟨by simp,hB⟩
set_option maxRecDepth 20000 in
theorem contract (H:Type) (enc:TypeId × Value→H) (W:World) (base:Nat) (args:Array Value) (ds gs:List (DataW H)) (before:List MemPlace)
  (hval:∀ (j:Nat) t v,Try.f3.params[j]?=some t→args[j]?=some v→Value.okWide Try.prog W .any base t v)
  (hW:DataW.Whole enc Try.prog Try.f3.params.toList Rows.viewsIfdefSpec.vars false W args.toList ds gs before) (hk:Rows.uptoSmall H (ds++gs)=true) :
  Calls Try.prog 3 args W fun e W'=>∃ v,e=.returned v∧Rows.viewsIfdefSpec.post enc Try.prog Try.f3 false true false false W args v W':=by
 have hW':=hW
 obtain⟨p,q,hA0,hV,rfl,hfz,hnd⟩:=hW
 have hA:DataW.TrodAll enc Try.prog W 0 (fun _=>true) true Try.f3.params.toList args.toList ds p:=hA0
 rw[Try.params3] at hA hval
 obtain⟨v0,vs0,d0,ds0,p0,q0,hargs,rfl,rfl,h0,r0⟩:=trodAll_cons hA
 obtain⟨v1,vs1,d1,ds1,p1,q1,rfl,rfl,rfl,h1,r1⟩:=trodAll_cons r0
 obtain⟨v2,vs2,d2,ds2,p2,q2,rfl,rfl,rfl,h2,r2⟩:=trodAll_cons r1
 obtain⟨v3,vs3,d3,ds3,p3,q3,rfl,rfl,rfl,h3,r3⟩:=trodAll_cons r2
 obtain⟨rfl,rfl,rfl⟩:=trodAll_nil r3
 obtain rfl:args=#[v0,v1,v2,v3]:=by cases args;simp_all
 obtain⟨rfl,rfl⟩:=trodVars_none hV
 obtain⟨a0,len0,cap0,rfl⟩:=okWide_slice Try.underlying22 (hval 0 22 v0 rfl rfl)
 have k0:=h0
 have lt0:∀ x∈p0,x.block<W.heap.size:=by obtain⟨m,hm⟩:=k0;exact DataW.trod_lt m _ _ _ hm
 obtain⟨a1,len1,cap1,rfl⟩:=okWide_slice Try.underlying23 (hval 1 23 v1 rfl rfl)
 have k1:=h1
 have lt1:∀ x∈p1,x.block<W.heap.size:=by obtain⟨m,hm⟩:=k1;exact DataW.trod_lt m _ _ _ hm
 obtain⟨a2,len2,cap2,rfl⟩:=okWide_slice Try.underlying23 (hval 2 23 v2 rfl rfl)
 have k2:=h2
 have lt2:∀ x∈p2,x.block<W.heap.size:=by obtain⟨m,hm⟩:=k2;exact DataW.trod_lt m _ _ _ hm
 obtain⟨a3,rfl,rfl,rfl,wt3⟩:=open_string Try.underlying9 (hval 3 9 v3 rfl rfl) h3
 clear hA0
 simp only[List.append_nil] at hk
 have hbk:Rows.uptoBulkAll [d0,d1,d2,.lit (.string a3.data.toList)]≤1048576:=of_decide_eq_true hk
 simp only[Rows.uptoBulkAll,Rows.uptoBulk] at hbk
 obtain⟨f0,hf0⟩:=h0
 obtain⟨ws0,hv0,hwl0,hwf0⟩:=Zbq (by simpa [Value.cells] using hf0)
 obtain⟨f1,hf1⟩:=h1
 obtain⟨ws1,hv1,hwl1⟩:=Zbr (by simpa [Value.cells] using hf1)
 obtain⟨f2,hf2⟩:=h2
 obtain⟨ws2,hv2,hwl2⟩:=Zbr (by simpa [Value.cells] using hf2)
 have hw:=walk ws0 ws1 ws2 a3.data.toList (.slice a0 len0 cap0) (.slice a1 len1 cap1) (.slice a2 len2 cap2) W (by omega) (by omega) (by omega) (by omega) hv0 hv1 hv2
 refine hw.mono fun e W' ⟨he,bel⟩=>?_
 subst he
 exact⟨_,rfl,_,_,_,[],_,[],hW',trodAll_mk1 (shut_bool Try.underlying4 _),trodAll_cons_mk (Below.trod laidOut (by kernel_rfl) (of_decide_eq_true (by kernel_rfl)) k0 bel lt0) (trodAll_cons_mk (Below.trod laidOut (by kernel_rfl) (of_decide_eq_true (by kernel_rfl)) k1 bel lt1) (trodAll_cons_mk (Below.trod laidOut (by kernel_rfl) (of_decide_eq_true (by kernel_rfl)) k2 bel lt2) (trodAll_cons_mk (shut_string Try.underlying9 wt3) trodAll_mk0))),rfl,bel.frame _,fun h=>by cases h⟩
set_option maxRecDepth 100000 in
theorem lifted (os:Os) (started:os.Started) (H:Type) (enc:TypeId × Value→H) (F:Stop.Interp) :
  ReturnsInHanded {} Try.checked os 3 .any ((Rows.OpenSpec.upto Rows.viewsIfdefSpec).pre6 enc Try.prog Try.f3 Rows.viewsIfdefUptoRow.domain false) (((Rows.OpenSpec.upto Rows.viewsIfdefSpec).at F).post enc Try.prog Try.f3 false true false false):=by
 refine returnsInHanded_of_cond (C:=Try.checked) (s:=Rows.OpenSpec.upto Rows.viewsIfdefSpec) (k:=Rows.uptoSmall) rfl own started (by kernel_rfl) Try.func3
  (OpenSpec.witness (enc:=enc) (C:=Try.checked) (s:=Rows.OpenSpec.upto Rows.viewsIfdefSpec) (k:=Rows.uptoSmall) rfl false ⟨#[],#[.slice none 0 0,.slice none 0 0,.slice none 0 0,.string .empty],[]⟩ 8 (by kernel_rfl) (by kernel_rfl) (by kernel_rfl)
   (x:=([.nil,.nil,.nil,.lit (.string [])],[],[])) (by kernel_rfl) rfl (by kernel_rfl)) ?_
 intro W base args ds gs before hval hW _ hk _
 exact contract H enc W base args ds gs before hval hW hk
theorem proved:Rows.ViewsIfdefUptoSaid :=
 OpenClaim.holds_of_cond 3 Try.f3 rfl rfl rfl rfl rfl rfl rfl ⟨rfl,rfl,rfl,rfl,rfl⟩ rfl rfl rfl rfl rfl (by kernel_rfl) Try.func3 (by kernel_rfl)
  (of_decide_eq_true (by kernel_rfl)) (by unfold Func.isWrapper;first | (rw[if_pos (by decide +kernel)];kernel_rfl) | (rw[if_neg (by decide +kernel)];exact⟨rfl,rfl⟩))
  (fun os started H enc _ F=>lifted os started H enc F)
#print axioms proved
end Go.Proofs.Ytcnjephlmcnodaa.viewsIfdef
