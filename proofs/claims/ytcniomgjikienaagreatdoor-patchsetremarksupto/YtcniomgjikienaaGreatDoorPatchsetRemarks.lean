/-
  For every text, every row of texts and every row of numbers of together at most 1048576 letters and values, the law PatchsetRemarks returns true and leaves its arguments as they were: remarks that stand between the lines of a patch change nothing of what patchset.Parse reads, and nothing of why it refuses. The conditions are the statement's own bound and the card's: the library's tables hold what the program's text lays.
-/
import Derived.Test.YtcniomgjikienaaGreatDoorCards
import Derived.Test.YtcniomgjikienaaGreatDoorTie
import Derived.Test.YtcniomgjikienaaGreatDoorVkA16
import Derived.Test.YtcniomgjikienaaGreatDoorVkA17
import Derived.Test.YtcniomgjikienaaGreatDoorVkA3
import Derived.ProofKit
import Derived.OpenShut
import Derived.ShutString
import Derived.JoinedCond
import Derived.Deep.DeepHandedRow
import Derived.Lib.LaidTab
import Derived.LaidSub
set_option maxRecDepth 20000
namespace Go.Proofs.YtcniomgjikienaaGreatDoor.patchsetRemarks
open Go.ChangeShapes Go.WideShapes Go.ChangeAt Go.RowKit
open Go.ChangeMaps (open_string shut_string)
theorem Zsq {l:List (List UInt8)} {s:List UInt8} (h:s∈l):s.length≤l.flatten.length:=by
 induction l with
 | nil=>cases h
 | cons x l ih =>
  simp only[List.flatten_cons,List.length_append]
  rcases List.mem_cons.1 h with rfl | h
  ·omega
  ·have:=ih h
   omega
theorem walk (t:List UInt8) (rs:List (List UInt8)) (A:List Int) (vr va:Value) (w:World) (hl:t.length≤1048576) (hrl:rs.length+rs.flatten.length≤1048576) (hAl:A.length≤1048576) (hR:HS w vr rs) (hA:HI w va A) (hE:ErrT w) (hM:Mxl w) :
  Calls Tryz.prog 6 #[.string ⟨t.toArray⟩,vr,va] w fun e w'=>e=.returned (.bool true)∧Below w.heap.size w w' :=
 ZsF t rs A vr va w hl hR hA (by omega) (fun s hs=>by have:=Zsq hs;omega) hAl hE hM
set_option maxRecDepth 100000 in
theorem contract (H:Type) (enc:TypeId × Value→H) (W:World) (base:Nat) (args:Array Value) (ds gs:List (DataW H)) (before:List MemPlace)
  (hval:∀ (j:Nat) t v,Tryz.f6.params[j]?=some t→args[j]?=some v→Value.okWide Tryz.prog W .any base t v)
  (hW:DataW.Whole enc Tryz.prog Tryz.f6.params.toList Rows.patchsetRemarksSpec.vars false W args.toList ds gs before) (hL:laidMetH Tryz.prog Rows.patchsetRemarksUptoRow.laid W) (hSh:W.ShapedOpen Tryz.prog) (hk:Rows.uptoSmall H (ds++gs)=true) :
  Calls Tryz.prog 6 args W fun e W'=>∃ v,e=.returned v∧Rows.patchsetRemarksSpec.post enc Tryz.prog Tryz.f6 false true false false W args v W':=by
 have hW':=hW
 obtain⟨p,q,hA0,hV,rfl,hfz,hnd⟩:=hW
 have hA:DataW.TrodAll enc Tryz.prog W 0 (fun _=>true) true Tryz.f6.params.toList args.toList ds p:=hA0
 rw[Tryz.params6] at hA hval
 obtain⟨v0,vs0,d0,ds0,p0,q0,hargs,rfl,rfl,h0,r0⟩:=trodAll_cons hA
 obtain⟨v1,vs1,d1,ds1,p1,q1,rfl,rfl,rfl,h1,r1⟩:=trodAll_cons r0
 obtain⟨v2,vs2,d2,ds2,p2,q2,rfl,rfl,rfl,h2,r2⟩:=trodAll_cons r1
 obtain⟨rfl,rfl,rfl⟩:=trodAll_nil r2
 obtain rfl:args=#[v0,v1,v2]:=by cases args;simp_all
 obtain⟨rfl,rfl⟩:=trodVars_none hV
 obtain⟨a1,len1,cap1,rfl⟩:=okWide_slice Tryz.underlying49 (hval 1 49 v1 rfl rfl)
 have k1:=h1
 have lt1:∀ x∈p1,x.block<W.heap.size:=by obtain⟨m,hm⟩:=k1;exact DataW.trod_lt m _ _ _ hm
 obtain⟨a2,len2,cap2,rfl⟩:=okWide_slice Tryz.underlying55 (hval 2 55 v2 rfl rfl)
 have k2:=h2
 have lt2:∀ x∈p2,x.block<W.heap.size:=by obtain⟨m,hm⟩:=k2;exact DataW.trod_lt m _ _ _ hm
 obtain⟨a0,rfl,rfl,rfl,wt0⟩:=open_string Tryz.underlying9 (hval 0 9 v0 rfl rfl) h0
 clear hA0
 simp only[List.append_nil] at hk
 have hbk:Rows.uptoBulkAll [.lit (.string a0.data.toList),d1,d2]≤1048576:=of_decide_eq_true hk
 simp only[Rows.uptoBulkAll] at hbk
 obtain⟨f1,hf1⟩:=h1
 obtain⟨ws1,hv1,hwl1⟩:=ZsD (by simpa [Value.cells] using hf1)
 obtain⟨f2,hf2⟩:=h2
 obtain⟨ws2,hv2,hwl2,_⟩:=ZsC (by simpa [Value.cells] using hf2)
 have hw:=walk a0.data.toList ws1 ws2 (.slice a1 len1 cap1) (.slice a2 len2 cap2) W (by simp only[Rows.uptoBulk] at hbk;omega) (by omega) (by omega) hv1 hv2 (Et.met Rows.patchsetRemarksUptoRow.laid rfl hL) (Zgz hSh)
 refine hw.mono fun e W' ⟨he,bel⟩=>?_
 subst he
 exact⟨_,rfl,_,_,_,[],_,[],hW',trodAll_mk1 (shut_bool Tryz.underlying4 _),trodAll_cons_mk (shut_string Tryz.underlying9 wt0) (trodAll_cons_mk (Below.trod laidOut (by kernel_rfl) (of_decide_eq_true (by kernel_rfl)) k1 bel lt1) (trodAll_cons_mk (Below.trod laidOut (by kernel_rfl) (of_decide_eq_true (by kernel_rfl)) k2 bel lt2) trodAll_mk0)),rfl,bel.frame _,fun h=>by cases h⟩
theorem Zfq (os:Os):laidMetH Tryz.prog Rows.patchsetRemarksUptoRow.laid ((Tt.laidOn (World.holding Tryz.prog os ⟨#[],#[],[]⟩)).forCall (fun _ _=>0) ⟨#[],#[.string .empty,.slice none 0 0,.slice none 0 0],[]⟩).memory :=
 laidMetH_of_parts (laidMet_of_run' 8 (by kernel_rfl) (by kernel_rfl)) (by kernel_rfl)
theorem reads (os:Os) {H:Type} (enc:TypeId × Value→H):∃ places,DataW.whole enc Tryz.prog ((Tt.laidOn (World.holding Tryz.prog os ⟨#[],#[],[]⟩)).forCall (fun _ _=>0) ⟨#[],#[.string .empty,.slice none 0 0,.slice none 0 0],[]⟩).memory Tryz.f6.params.toList Rows.patchsetRemarksSpec.vars false #[Value.string .empty,Value.slice none 0 0,Value.slice none 0 0].toList 8=some ([.lit (.string []),.nil,.nil],[],places) :=
 ⟨[],by kernel_rfl⟩
set_option maxRecDepth 100000 in
theorem lifted (os:Os) (started:os.Started) (H:Type) (enc:TypeId × Value→H) (F:Stop.Interp) :
  ReturnsInHanded {} Tryz.checked os 6 .any ((Rows.OpenSpec.upto Rows.patchsetRemarksSpec).preRow enc Tryz.prog Tryz.f6 Rows.patchsetRemarksUptoRow.domain false Rows.patchsetRemarksUptoRow.laid) (((Rows.OpenSpec.upto Rows.patchsetRemarksSpec).at F).post enc Tryz.prog Tryz.f6 false true false false):=by
 obtain⟨places,hx⟩:=reads os enc
 refine returnsInHanded_of_row (C:=Tryz.checked) (s:=Rows.OpenSpec.upto Rows.patchsetRemarksSpec) own started (by kernel_rfl) Tryz.func6
  (witness_row_at (enc:=enc) (C:=Tryz.checked) false (Tt.laidOn (World.holding Tryz.prog os ⟨#[],#[],[]⟩)) #[.string .empty,.slice none 0 0,.slice none 0 0] rfl (by kernel_rfl) (by kernel_rfl) (by kernel_rfl)
   (OpenSpec.preRow_of_cond 8 hx (by kernel_rfl) (fun k hk=>by cases hk;kernel_rfl) (by kernel_rfl) (Zfq os))) ?_
 intro W base args ds gs before hval hW _ hcond _ hL hSh _
 exact contract H enc W base args ds gs before hval hW hL hSh (hcond _ rfl)
set_option maxHeartbeats 4000000 in
theorem said:Rows.PatchsetRemarksUptoSaid :=
 OpenClaim.holds_of_cond 6 Tryz.f6 rfl rfl rfl rfl rfl rfl rfl ⟨rfl,rfl,rfl,rfl,rfl⟩ rfl rfl rfl rfl rfl (by kernel_rfl) Tryz.func6 (by simp only[joinedFacts,Bool.and_eq_true];(repeat' apply And.intro)<;>as_aux_lemma=>kernel_rfl)
  (of_decide_eq_true (by kernel_rfl)) (by unfold Func.isWrapper;first | (rw[if_pos (by decide +kernel)];kernel_rfl) | (rw[if_neg (by decide +kernel)];exact⟨rfl,rfl⟩))
  (fun os started H enc _ F=>by rw[OpenClaim.pre_eq_preRow];exact lifted os started H enc F)
theorem plain (f : FuncId) (fn : Func) (hf : Tryz.pinned.checked.prog.funcNamed "redline/redlinelaw18.PatchsetRemarks" = some f) (hfn : Tryz.pinned.checked.prog.funcs[f]? = some fn) :
  true=Tryz.pinned.checked.prog.looks []∧∀ (j:Nat) t,fn.params[j]?=some t→Tryz.pinned.checked.prog.wantsStandIn t=false:=by
 obtain rfl : f = 6 := Option.some.inj ((show Tryz.prog.funcNamed "redline/redlinelaw18.PatchsetRemarks" = some 6 by kernel_rfl).symm.trans hf) |>.symm
 obtain rfl:fn=Tryz.f6:=(Option.some.inj (Tryz.func6.symm.trans hfn)).symm
 refine⟨by kernel_rfl,fun j t ht=>?_⟩
 rw[Tryz.params6] at ht
 have hm:t=9∨t=49∨t=55:=by simpa using Array.mem_of_getElem? ht
 rcases hm with rfl | rfl | rfl
 ·exact (show Tryz.prog.wantsStandIn 9=false by kernel_rfl)
 ·exact (show Tryz.prog.wantsStandIn 49=false by kernel_rfl)
 ·exact (show Tryz.prog.wantsStandIn 55=false by kernel_rfl)
theorem card:Rows.PatchsetRemarksUptoCardSaid :=
 Claim7.holds_tied_plain_at .later [] _ _ _ _ said (fun _ h=>by cases h) (by kernel_rfl) (fun _ h=>by cases h) patchsetRemarksUpto_row_tie rfl ⟨rfl,rfl⟩ (by kernel_rfl) rfl plain (by kernel_rfl)
#print axioms card
end Go.Proofs.YtcniomgjikienaaGreatDoor.patchsetRemarks
