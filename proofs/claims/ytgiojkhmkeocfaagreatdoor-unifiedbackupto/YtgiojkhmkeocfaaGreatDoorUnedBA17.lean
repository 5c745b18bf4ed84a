/-
  Texts that belong together, joined: UkP, UpY, HuC3, HuWk, UkS, NpV, NpW.
-/
import Derived.Test.YtgiojkhmkeocfaaGreatDoorUnedBA16
import Derived.Test.YtgiojkhmkeocfaaGreatDoorUnedBA13
import Derived.Test.YtgiojkhmkeocfaaGreatDoorUnedBA14
import Derived.Test.YtgiojkhmkeocfaaGreatDoorUnedBA15
import Derived.Test.YtgiojkhmkeocfaaGreatDoorUnedBA4
import Derived.Test.YtgiojkhmkeocfaaGreatDoorUnedBA7
import Derived.Shelf.Vars
import Derived.Test.YtgiojkhmkeocfaaGreatDoorProg
import Derived.WalkKit
import Derived.LaidEql
import Derived.Stop.Asserts
import Derived.RowKitTokens
import Derived.Test.YtgiojkhmkeocfaaGreatDoorUnedBA11

set_option maxHeartbeats 16000000
set_option maxRecDepth 100000
/- The code's Parse of layer 16, walked. -/
namespace Go.Proofs.YtgiojkhmkeocfaaGreatDoor
open Go.RowKit
open Ln
theorem Mxl.lt {w:World} (h:Mxl w):1<w.heap.size:=by
 obtain⟨m,h⟩:=h
 exact block_lt_of_cell h
theorem catch_idleU (p q:Addr) (w:World) :
  CallsD Tryz.prog 68 #[.pointer (some p),.pointer (some q)] .returning w fun e u' w'=>e=.returned (.tuple #[])∧u'=.returning∧w'=w:=by
 refine callsD_of_wpS Tryz.func68 rfl fun c₀ cs hu=>?_
 apply wpS_seq
 apply wpS_region
 simp[wpOpsS,go_sem,recoverD,hu,Tryz.ntmps68,Exit.thenS]
 apply wpS_seq
 apply wpS_region
 simp[wpOpsS,go_sem,Exit.thenS]
 refine wpS_cond (t:=false) (by simp[Act.eval,Array.replicate]) ?_
 simp only[Bool.false_eq_true,if_false]
 refine wpS_of_wp (wp_skip ?_)
 cases c₀
 simp_all [bodyPostS,results,Tryz.results68]
theorem catch_faultU (F0 F1 g:Nat) (v0 v1:Value) (older:List PanicEntry) (w:World) (h01:F0≠F1) (c0:w.cell? ⟨F0,0,none⟩=some v0) (f0:w.frozen? ⟨F0,0,none⟩=false) (c1:w.cell? ⟨F1,0,none⟩=some v1) (f1:w.frozen? ⟨F1,0,none⟩=false) :
  CallsD Tryz.prog 68 #[.pointer (some ⟨F0,0,none⟩),.pointer (some ⟨F1,0,none⟩)] (.panicking ({ v:=.iface 86 (.pointer (some ⟨g,0,none⟩)),recovered:=false }::older)) w fun e u' w'=>e=.returned (.tuple #[])∧u'=.panicking ({ v:=.iface 86 (.pointer (some ⟨g,0,none⟩)),recovered:=true }::older)∧w'=((w.setCell ⟨F0,0,none⟩ (.slice none 0 0)).setCell ⟨F1,0,none⟩ (.iface 86 (.pointer (some ⟨g,0,none⟩)))).drew:=by
 refine callsD_of_wpS Tryz.func68 rfl fun c₀ cs hu=>?_
 apply wpS_seq
 apply wpS_region
 simp[wpOpsS,go_sem,recoverD,hu,Tryz.ntmps68,Exit.thenS]
 apply wpS_seq
 apply wpS_region
 simp[wpOpsS,go_sem,Exit.thenS]
 refine wpS_cond (t:=true) (by simp[Act.eval,Array.replicate]) ?_
 simp only[if_true]
 refine wpS_of_wp ?_
 have hta:∀ (v:Value) (u:World),(Instr.typeAssert (.iface 86 v) 20 86 false).run Tryz.prog u=.ok v u:=fun _ _=>by kernel_rfl
 generalize hA:({ tmps:=_,defers:=[] }:Act)=A
 have hA2:A={ tmps:=#[.pointer (some ⟨F0,0,none⟩),.pointer (some ⟨F1,0,none⟩),.iface 86 (.pointer (some ⟨g,0,none⟩)),.iface 86 (.pointer (some ⟨g,0,none⟩)),.iface 86 (.pointer (some ⟨g,0,none⟩)),.bool true,undef,undef,undef],defers:=[] }:=hA.symm.trans rfl
 subst hA2
 clear hA
 go_region
 cases c₀
 simp_all [bodyPostS,results,Tryz.results68]
theorem rd_resultsU (tmps:Array Value) (u:World) (F0 F1 n c:Nat) (o:Option Addr) (v1:Value) (h2:tmps.getD 2 undef=.pointer (some ⟨F0,0,none⟩)) (h3:tmps.getD 3 undef=.pointer (some ⟨F1,0,none⟩)) (c0:u.cell? ⟨F0,0,none⟩=some (.slice o n c)) (c1:u.cell? ⟨F1,0,none⟩=some v1) :
  (results Tryz.f26 tmps).run Tryz.prog u=.ok (.tuple #[.slice o n c,v1]) u:=by
 have hL0:(loadVar 48 ⟨F0,0,none⟩).run Tryz.prog u=.ok (.slice o n c) u:=by
  simp[loadVar,isAgg,underlying,Tryz.underlying48,c0,Result.andThen]
 have hL1:(loadVar 36 ⟨F1,0,none⟩).run Tryz.prog u=.ok v1 u:=by
  simp[loadVar,isAgg,underlying,Tryz.underlying36,c1,Result.andThen]
 have e2:tmps[2]?.getD undef=.pointer (some ⟨F0,0,none⟩):=by rw[← h2];simp
 have e3:tmps[3]?.getD undef=.pointer (some ⟨F1,0,none⟩):=by rw[← h3];simp
 simp[results,Tryz.results26,e2,e3,asAddr,hL0,hL1,Result.andThen]
structure RdU (w:World) (R:Nat) (L:List (List UInt8)) (vL ov:Value) (F:List Pfd) (p:Nat) (u:World):Prop where
 pw:Pw w ov F u
 f0:u.heap[w.heap.size]?=some (.cells #[ov] 48)
 f1:u.heap[w.heap.size+1]?=some (.cells #[.nilIface] 36)
 ck:Uk u R vL (p:Int)
 rl:w.heap.size+1<R
 ln:u.ownsRow w.heap.size 9 1 vL L.length (scells L)
section
variable {w u u':World} {R:Nat} {L:List (List UInt8)} {vL ov:Value} {F:List Pfd} {p p':Nat}
theorem RdU.c0 (h:RdU w R L vL ov F p u):u.cell? ⟨w.heap.size,0,none⟩=some ov:=by rw[Lib.cell_of_heap h.f0];rfl
theorem RdU.keep (h:RdU w R L vL ov F p u) (hb:Below u.heap.size u u'):RdU w R L vL ov F p u':=⟨⟨h.pw.low.trans (hb.mono h.pw.low.size),owns_keep h.pw.own hb,fun f hf=>(h.pw.ins f hf).keep hb⟩,(hb.block _ (Array.getElem?_eq_some_iff.1 h.f0).1).trans h.f0,(hb.block _ (Array.getElem?_eq_some_iff.1 h.f1).1).trans h.f1,h.ck.low hb,h.rl,owns_keep h.ln hb⟩
theorem RdU.call (h:RdU w R L vL ov F p u) (hg:u.grownBy u' (some R)) (q:Uk u' R vL (p':Int)):RdU w R L vL ov F p' u':=by
 have hk:∀ k x,k≠R→u.heap[k]?=some x→u'.heap[k]?=some x:=fun k _ hk hx=>(hg.block k (Array.getElem?_eq_some_iff.1 hx).1 (fun e=>hk (Option.some.inj e))).trans hx
 have hb:u.heap[R]?=some (.cells #[vL,.int .i64 (p:Int)] 126):=h.ck
 have hr:=h.rl
 exact⟨⟨h.pw.low.grown hg h.pw.low.size (fun k e=>by cases e;omega),h.pw.own.kept hg (.inr (own_box2 h.pw.own hb (by decide))),fun f hf=>(h.pw.ins f hf).box hb (by decide) (by decide) hg⟩,hk _ _ (by omega) h.f0,hk _ _ (by omega) h.f1,q,h.rl,h.ln.kept hg (.inr (own_box2 h.ln hb (by decide)))⟩
theorem RdU.lines (h:RdU w R L vL ov F p u) (hg:u.grownBy u' (some R)):HS u' vL L:=by
 have hb:u.heap[R]?=some (.cells #[vL,.int .i64 (p:Int)] 126):=h.ck
 exact holds_of (h.ln.kept hg (.inr (own_box2 h.ln hb (by decide))))
theorem RdU.more (h:RdU w R L vL ov F p u) {f:Pfd} {ov':Value} (hy:Pown w.heap.size u f) (hg:u.grownBy u' ov.ownBlock) (ho:u'.ownsRow w.heap.size 55 3 ov' (F.length+1) (pxcells F++pxC f)) :
  RdU w R L vL ov' (F++[f]) p (u'.setCell ⟨w.heap.size,0,none⟩ ov')∧u'.cell? ⟨w.heap.size,0,none⟩=some ov∧u'.frozen? ⟨w.heap.size,0,none⟩=false:=by
 have hk:∀ (k:Nat) (cs:Array Value) (t:TypeId) (fr:Nat × Nat),t≠55→u.heap[k]?=some (Obj.cells cs t fr)→u'.heap[k]?=some (Obj.cells cs t fr):=fun k cs t fr ht hx=>(hg.block k (Array.getElem?_eq_some_iff.1 hx).1 (fun e=>own_box2 h.pw.own hx ht.symm e.symm)).trans hx
 have f0:=hk _ _ _ _ (by decide) h.f0
 have f1:=hk _ _ _ _ (by decide) h.f1
 have ck:Uk u' R vL (p:Int):=hk _ _ _ _ (by decide) h.ck
 have hg2:=grown_set u' w.heap.size 0 ov'
 have hin:∀ g,Pown w.heap.size u g→Pown w.heap.size u' g:=fun g hp=>⟨hp.eq,row_other hp.own h.pw.own (by decide) hg,fun y hy=>row_other (hp.ins y hy) h.pw.own (by decide) hg⟩
 have hlow:=h.pw.low.grown hg h.pw.low.size (fun k e=>owns_ge h.pw.own e)
 have hr:=h.rl
 refine⟨⟨⟨hlow.setCell (Nat.le_refl _) _,?_,?_⟩,heap_setCell_same u' _ 0 _ _ ov' f0,(Below.heap_setCell _ _ _ _ (by simp)).trans f1,ck.keep hg2 (fun e=>by have:=Option.some.inj e;omega),h.rl,(row_other h.ln h.pw.own (by decide) hg).kept hg2 (.inr (own_box2 (row_other h.ln h.pw.own (by decide) hg) f0 (by decide)))⟩,by rw[Lib.cell_of_heap f0];rfl,Lib.frozen_of_heap f0 0⟩
 ·have e1:pxcells (F++[f])=pxcells F++pxC f:=by simp[pxcells]
  rw[List.length_append,e1]
  exact ho.kept hg2 (.inr (own_box2 ho f0 (by decide)))
 ·intro g hgm
  have hP:Pown w.heap.size u' g:=by
   rcases List.mem_append.1 hgm with hm | hm
   ·exact hin g (h.pw.ins g hm)
   ·rw[List.mem_singleton.1 hm];exact hin f hy
  exact hP.box f0 (by decide) (by decide) hg2
end
theorem patU_drop {k p:Nat} {L r:List (List UInt8)} {x:Pth} {p1:Nat} (h:patU k p (L.drop p)=.ok (x,p1,r)):k<64:=by
 unfold patU at h
 cases hn:namP [45,45,45,32] p (L.drop p) with
 | error e=>rw[hn] at h;cases h
 | ok z =>
  rw[hn] at h
  dsimp only at h
  split at h
  ·cases h
  ·omega
theorem uhs_drop (f:Nat):∀ {k p:Nat} {L r:List (List UInt8)} {hs:List Hk} {p1:Nat},Plain L→uhsP atC f k p (L.drop p)=.ok (hs,p1,r)→r=L.drop p1∧p<p1∧p1≤L.length:=by
 induction f with
 | zero =>
  intro k p L r hs p1 _ h
  simp only[uhsP] at h
  cases h
 | succ f ih =>
  intro k p L r hs p1 hk h
  simp only[uhsP] at h
  cases hh:uhkP k p (L.drop p) with
  | error e=>rw[hh] at h;cases h
  | ok z =>
   obtain⟨x,p2,r2⟩:=z
   obtain⟨rfl,b2,b3,b4⟩:=uhk_drop hk hh
   rw[hh] at h
   dsimp only at h
   split at h
   ·cases h2:uhsP atC f (k+1) p2 (L.drop p2) with
    | error e=>rw[h2] at h;cases h
    | ok z =>
     obtain⟨l,p3,r3⟩:=z
     rw[h2] at h
     injection h with h
     injection h with e1 e2
     injection e2 with e2 e3
     subst e2 e3
     obtain⟨c1,c2,c3⟩:=ih hk h2
     exact⟨c1,by omega,c3⟩
   ·injection h with h
    injection h with e1 e2
    injection e2 with e2 e3
    subst e2 e3
    exact⟨rfl,b2,b3⟩
theorem upat_drop {k p:Nat} {L r:List (List UInt8)} {x:Pth} {p1:Nat} (hP:Plain L) (h:patU k p (L.drop p)=.ok (x,p1,r)):r=L.drop p1∧p<p1∧p1≤L.length∧k<64:=by
 have hk:=patU_drop h
 unfold patU at h
 cases hn:namP [45,45,45,32] p (L.drop p) with
 | error e=>rw[hn] at h;cases h
 | ok z =>
  obtain⟨n1,r1⟩:=z
  obtain⟨rfl,b1⟩:=nam_drop hn
  rw[hn] at h
  dsimp only at h
  rw[if_neg (by omega)] at h
  cases hn2:namP [43,43,43,32] (p+1) (L.drop (p+1)) with
  | error e=>rw[hn2] at h;cases h
  | ok z =>
   obtain⟨n2,r2⟩:=z
   obtain⟨rfl,b2⟩:=nam_drop hn2
   rw[hn2] at h
   dsimp only at h
   cases hh:uhsP atC ((L.drop (p+1+1)).length+1) 0 (p+2) (L.drop (p+1+1)) with
   | error e=>rw[hh] at h;cases h
   | ok z =>
    obtain⟨hs,p3,r3⟩:=z
    rw[hh] at h
    injection h with h
    injection h with e1 e2
    injection e2 with e2 e3
    subst e2 e3
    obtain⟨c1,c2,c3⟩:=uhs_drop _ (L:=L) (p:=p+2) (by omega) hh
    exact⟨c1,by omega,c3,hk⟩
theorem upnp_done {w:World} {X:Except (Nat × Int) (List Pth)}:∀ c (a:Act) u,PnP w X c u→a.tmps.getD 2 undef=.pointer (some ⟨w.heap.size,0,none⟩)→a.tmps.getD 3 undef=.pointer (some ⟨w.heap.size+1,0,none⟩)→a.defers=[{ target:=.fn (.func 68) #[.pointer (some ⟨w.heap.size,0,none⟩),.pointer (some ⟨w.heap.size+1,0,none⟩)],args:=#[] }]→bodyPostD Tryz.prog Tryz.f26 (fun e w'=>PrQ w X e w') (.panic c) a u:=by
 rintro c a u ⟨g,pa,z,v0,rfl,hg,rfl,hlow,f0,f1⟩ h2 h3 hd
 show Leaves Tryz.prog Tryz.f26 a.tmps (fun e w'=>PrQ w (.error (pa,z)) e w') a.defers _ u
 rw[hd]
 have g0:g≠w.heap.size:=(by rintro rfl;rw[f0] at hg;unfold fltO at hg;simp at hg)
 have g1:g≠w.heap.size+1:=(by rintro rfl;rw[f1] at hg;unfold fltO at hg;simp at hg)
 refine leaves_cons (f:=68) (args:=#[.pointer (some ⟨w.heap.size,0,none⟩),.pointer (some ⟨w.heap.size+1,0,none⟩)]) (by simp) (by simp[go_sem]) ?_
 refine (catch_faultU w.heap.size (w.heap.size+1) g v0 .nilIface [] u (by omega) (by rw[Lib.cell_of_heap f0];rfl) (Lib.frozen_of_heap f0 0) (by rw[Lib.cell_of_heap f1];rfl) (Lib.frozen_of_heap f1 0)).mono ?_
 rintro e u' w'' ⟨rfl,rfl,rfl⟩
 have s0:=heap_setCell_same u w.heap.size 0 _ _ (.slice none 0 0) f0
 have s1:(u.setCell ⟨w.heap.size,0,none⟩ (.slice none 0 0)).heap[w.heap.size+1]?=some (.cells #[.nilIface] 36):=(Below.heap_setCell _ _ _ _ (by simp)).trans f1
 have s2:=heap_setCell_same _ (w.heap.size+1) 0 _ _ (.iface 86 (.pointer (some ⟨g,0,none⟩))) s1
 have s3:((u.setCell ⟨w.heap.size,0,none⟩ (.slice none 0 0)).setCell ⟨w.heap.size+1,0,none⟩ (.iface 86 (.pointer (some ⟨g,0,none⟩)))).heap[w.heap.size]?=some (.cells #[.slice none 0 0] 48):=(Below.heap_setCell _ _ _ _ (by simp)).trans s0
 have s4:((u.setCell ⟨w.heap.size,0,none⟩ (.slice none 0 0)).setCell ⟨w.heap.size+1,0,none⟩ (.iface 86 (.pointer (some ⟨g,0,none⟩)))).heap[g]?=some (fltO (pa:Int) z):=((Below.heap_setCell _ _ _ _ (by simpa using g1)).trans (Below.heap_setCell _ _ _ _ (by simpa using g0))).trans hg
 have hl:Below w.heap.size w ((u.setCell ⟨w.heap.size,0,none⟩ (.slice none 0 0)).setCell ⟨w.heap.size+1,0,none⟩ (.iface 86 (.pointer (some ⟨g,0,none⟩)))).drew:=((hlow.setCell (Nat.le_refl _) _).setCell (by show w.heap.size≤w.heap.size+1;omega) _).drew
 generalize (u.setCell ⟨w.heap.size,0,none⟩ (.slice none 0 0)).setCell ⟨w.heap.size+1,0,none⟩ (.iface 86 (.pointer (some ⟨g,0,none⟩)))=W at *
 exact⟨_,rd_resultsU a.tmps W.drew w.heap.size (w.heap.size+1) 0 0 none _ h2 h3 (by rw[Lib.cell_of_heap (w:=W.drew) s3];rfl) (by rw[Lib.cell_of_heap (w:=W.drew) s2];rfl),g,rfl,s4,hl⟩
theorem uParse_f (t:List UInt8) (w:World) (X:Except (Nat × Int) (List Pth)) (HX:Hid (unT atC t=X)) (hl:t.length≤1099511627776) (hmx:Mxl w) :
  Calls Tryz.prog 26 #[.string ⟨t.toArray⟩] w fun e w'=>PrQ w X e w':=by
 have hmf:∀ (fn:Fn) (first cap:Array Value) (w:World),(Instr.makeFunc fn first cap).run Tryz.prog w=.ok (.func fn first cap) w:=fun _ _ _ _=>rfl
 have HX2:=HX.out
 unfold unT at HX2
 clear HX
 by_cases hlong:1048576<t.length
 ·rw[if_pos hlong] at HX2
  have hXe:=HX2.symm
  subst hXe
  clear HX2
  have hbig:(1048576:Int)<(t.length:Int):=by omega
  go_enter_defers Tryz.func26,Tryz.ntmps26
  have z1:(w.alloc (.cells #[.slice none 0 0] 48)).heap.size=w.heap.size+1:=by simp
  have z2:((w.alloc (.cells #[.slice none 0 0] 48)).alloc (.cells #[.iface 86 (.pointer (some ⟨w.heap.size+1+1,0,none⟩))] 36)).heap.size=w.heap.size+1+1:=by simp
  have a1:=heap_alloc_new w (.cells #[.slice none 0 0] 48)
  have a2:=heap_alloc_new (w.alloc (.cells #[.slice none 0 0] 48)) (.cells #[.iface 86 (.pointer (some ⟨w.heap.size+1+1,0,none⟩))] 36)
  have a3:=heap_alloc_new ((w.alloc (.cells #[.slice none 0 0] 48)).alloc (.cells #[.iface 86 (.pointer (some ⟨w.heap.size+1+1,0,none⟩))] 36)) (fltO 0 9)
  rw[z1] at a2
  rw[z2] at a3
  have b1:=(Lib.alloc_old _ (fltO 0 9) _ (by rw[z2];omega)).trans ((Lib.alloc_old _ (.cells #[.iface 86 (.pointer (some ⟨w.heap.size+1+1,0,none⟩))] 36) _ (by rw[z1];omega)).trans a1)
  have b2:=(Lib.alloc_old _ (fltO 0 9) _ (by rw[z2];omega)).trans a2
  have hlow:Below w.heap.size w (((w.alloc (.cells #[.slice none 0 0] 48)).alloc (.cells #[.iface 86 (.pointer (some ⟨w.heap.size+1+1,0,none⟩))] 36)).alloc (fltO 0 9)):=(((Below.refl _ w).alloc (Nat.le_refl _) _).alloc (by rw[z1];omega) _).alloc (by rw[z2];omega) _
  have HA:Hid ((((w.alloc (.cells #[.slice none 0 0] 48)).alloc (.cells #[.iface 86 (.pointer (some ⟨w.heap.size+1+1,0,none⟩))] 36)).alloc (fltO 0 9)).cell? ⟨w.heap.size,0,none⟩=some (.slice none 0 0)∧(((w.alloc (.cells #[.slice none 0 0] 48)).alloc (.cells #[.iface 86 (.pointer (some ⟨w.heap.size+1+1,0,none⟩))] 36)).alloc (fltO 0 9)).cell? ⟨w.heap.size+1,0,none⟩=some (.iface 86 (.pointer (some ⟨w.heap.size+1+1,0,none⟩)))):=⟨by rw[Lib.cell_of_heap b1];rfl,by rw[Lib.cell_of_heap b2];rfl⟩
  have HB:Hid ((((w.alloc (.cells #[.slice none 0 0] 48)).alloc (.cells #[.iface 86 (.pointer (some ⟨w.heap.size+1+1,0,none⟩))] 36)).alloc (fltO 0 9)).heap[w.heap.size+1+1]?=some (fltO 0 9)):=a3
  clear a1 a2 a3 b1 b2 z1 z2
  go_wp2
  exact⟨_,rd_resultsU _ _ w.heap.size (w.heap.size+1) 0 0 none (.iface 86 (.pointer (some ⟨w.heap.size+1+1,0,none⟩))) rfl rfl HA.out.1 HA.out.2,w.heap.size+1+1,rfl,HB.out,hlow⟩
 ·rw[if_neg hlong] at HX2
  obtain⟨L,hL⟩:∃ L,splitL t=L:=⟨_,rfl⟩
  rw[hL] at HX2
  have hshort:¬ (1048576:Int)<(t.length:Int):=by omega
  obtain⟨Pn,hPnd⟩:∃ Pn,PnP w X=Pn:=⟨_,rfl⟩
  have HPn:Hid (∀ c (a:Act) u,Pn c u→a.tmps.getD 2 undef=.pointer (some ⟨w.heap.size,0,none⟩)→a.tmps.getD 3 undef=.pointer (some ⟨w.heap.size+1,0,none⟩)→a.defers=[{ target:=.fn (.func 68) #[.pointer (some ⟨w.heap.size,0,none⟩),.pointer (some ⟨w.heap.size+1,0,none⟩)],args:=#[] }]→bodyPostD Tryz.prog Tryz.f26 (fun e w'=>PrQ w X e w') (.panic c) a u):=(by rw[← hPnd];exact upnp_done)
  have HPd:Hid (PnP w X=Pn):=hPnd
  clear hPnd
  have hs:=fun u=>nSplit_f t u hl
  rw[hL] at hs
  have HPl:Hid (Plain L):=(by rw[← hL];exact split_plain t)
  have HSl:Hid (∀ s∈L,s.length≤1099511627):=(by
   intro s hs
   rw[← hL] at hs
   have:=split_shortC (M:=1048576) (t:=t) (by omega) s hs
   omega)
  have hLl:L.length≤137438953472:=(by
   rw[← hL]
   have:=split_len t
   omega)
  clear hL
  go_enter_defers Tryz.func26,Tryz.ntmps26
  go_wp2_with fail
  refine (hs _).mono ?_
  rintro e w1 ⟨vL,rfl,hown,hB1⟩
  obtain⟨lo,lc,rfl⟩:=(holds_of hown).form
  obtain⟨wA,hwA⟩:∃ u,(w.alloc (.cells #[.slice none 0 0] 48)).alloc (.cells #[.nilIface] 36)=u:=⟨_,rfl⟩
  have a1:=heap_alloc_new w (.cells #[.slice none 0 0] 48)
  have a2:=heap_alloc_new (w.alloc (.cells #[.slice none 0 0] 48)) (.cells #[.nilIface] 36)
  have z1:(w.alloc (.cells #[.slice none 0 0] 48)).heap.size=w.heap.size+1:=by simp
  have z2:wA.heap.size=w.heap.size+1+1:=(by rw[← hwA];simp)
  rw[z1] at a2
  have a3:=(Lib.alloc_old (w.alloc (.cells #[.slice none 0 0] 48)) (.cells #[.nilIface] 36) w.heap.size (by rw[z1];omega)).trans a1
  rw[hwA] at a2 a3 hown hB1
  have b1:Below w.heap.size w wA:=(by rw[← hwA];exact ((Below.refl _ w).alloc (Nat.le_refl _) _).alloc (by rw[z1];omega) _)
  have hR0:RdU w w1.heap.size L (.slice lo L.length lc) (.slice none 0 0) [] 0 (w1.alloc (.cells #[.slice lo L.length lc,.int .i64 0] 126)):=(by
   have hsz:=hB1.size
   have hB2:Below w1.heap.size w1 (w1.alloc (.cells #[.slice lo L.length lc,.int .i64 0] 126)):=(Below.refl _ w1).alloc (Nat.le_refl _) _
   refine⟨⟨(b1.trans (hB1.mono (by omega))).trans (hB2.mono (by omega)),hnil_row _ _ _ _,fun f hf=>(by cases hf)⟩,?_,?_,heap_alloc_new _ _,by omega,owns_keep (own_base hown (by omega)) hB2⟩
   ·exact (hB2.block _ (by omega)).trans ((hB1.block _ (by omega)).trans a3)
   ·exact (hB2.block _ (by omega)).trans ((hB1.block _ (by omega)).trans a2))
  have HX0:Hid (thenPs (([]:List Pfd).map (·.x)) (upsP atC L.length ([]:List Pfd).length 0 (L.drop 0))=X):=(by
   show _=_
   rw[← HX2]
   simp only[List.map_nil,List.drop_zero,List.length_nil]
   cases upsP atC L.length 0 0 L<;>rfl)
  clear HX2 hs hown hB1 hwA a1 a2 a3 b1 z1 z2
  go_wp2
  generalize w1.alloc (.cells #[.slice lo L.length lc,.int .i64 0] 126)=w2 at hR0 ⊢
  generalize w1.heap.size=R at hR0 ⊢
  go_loopw [] (fun wr=>∃ (ov:Value) (F:List Pfd) (p f:Nat),(∃ o c,ov=.slice o F.length c)∧RdU w R L (.slice lo L.length lc) ov F p wr∧p≤L.length∧F.length≤64∧Hid ((L.drop p).length≤f)∧Hid (thenPs (F.map (·.x)) (upsP atC f F.length p (L.drop p))=X)) (fun wr=>L.length-ukN wr R)
  case atStart=>exact⟨_,[],0,L.length,⟨none,0,rfl⟩,hR0,Nat.zero_le _,Nat.zero_le _,(by show _≤_;simp),HX0⟩
  case round =>
  clear hR0 HX0
  obtain⟨ov,F,p,f,⟨o,c,rfl⟩,hR,hp,hFl,HF,HI⟩:=hrel
  obtain⟨d0,d1⟩:=hR.ck.cells
  have HK:Hid (ukN wr R=p):=ukN_of hR.ck
  by_cases hlt:p<L.length
  ·have hf:=HF.out
   have hfl:0<f:=(by rw[List.length_drop] at hf;omega)
   obtain⟨f',rfl⟩:∃ f',f=f'+1:=⟨f-1,by omega⟩
   have hne:L.drop p≠[]:=(by intro h;have:=congrArg List.length h;rw[List.length_drop] at this;simp at this;omega)
   have HIe:Hid (∀ e,patU F.length p (L.drop p)=.error e→X=.error e):=(by
    intro e he
    rw[← HI.out,ups_step,if_neg hne,he]
    rfl)
   have HN:Hid (∀ x p2 r,patU F.length p (L.drop p)=.ok (x,p2,r)→p2≤L.length∧p<p2∧Hid ((L.drop p2).length≤f')∧F.length<64∧r=L.drop p2):=(by
    intro x p2 r hk
    obtain⟨b1,b2,b3,b4⟩:=upat_drop HPl.out hk
    rw[List.length_drop] at hf
    exact⟨b3,b2,(by show _≤_;rw[List.length_drop];omega),b4,b1⟩)
   have HN2:Hid (∀ x p2 r v H,patU F.length p (L.drop p)=.ok (x,p2,r)→Hid (thenPs ((F++[(⟨x,v,H⟩:Pfd)]).map (·.x)) (upsP atC f' (F++[(⟨x,v,H⟩:Pfd)]).length p2 (L.drop p2))=X)):=(by
    intro x p2 r v H hk
    show _=_
    have hr:=(HN.out x p2 r hk).2.2.2.2
    rw[← HI.out,ups_step,if_neg hne,hk]
    dsimp only
    rw[hr,List.length_append,List.map_append]
    show thenPs (F.map (·.x)++[x]) (upsP atC f' (F.length+1) p2 (L.drop p2))=_
    cases upsP atC f' (F.length+1) p2 (L.drop p2) with
    | error e=>rfl
    | ok m=>simp[thenPs])
   have hRd:=hR.keep (Below.drew (Below.refl _ _))
   obtain⟨Rr,hRr⟩:∃ Rr:Value→World→Prop,(fun v u=>∃ x p2 r vo vc H,patU F.length p (L.drop p)=.ok (x,p2,r)∧v=.agg #[.string ⟨x.old.toArray⟩,.string ⟨x.new.toArray⟩,.slice vo H.length vc]∧RdU w R L (.slice lo L.length lc) (.slice o F.length c) F p2 u∧Pown w.heap.size u ⟨x,.slice vo H.length vc,H⟩)=Rr:=⟨_,rfl⟩
   have hcall:Calls Tryz.prog 69 (#[.pointer (some ⟨R,0,none⟩),.int .i64 (F.length:Int)]++#[]) wr.drew fun e w'=>(∃ v,e=.returned v∧True∧Rr v w')∨(∃ c,e=.panicked c∧Pn c w'):=(by
    obtain⟨Y,hY⟩:∃ Y,patU F.length p (L.drop p)=Y:=⟨_,rfl⟩
    have hsz:=hRd.pw.low.size
    have hrl:=hRd.rl
    refine (upatch_f hFl wr.drew hRd.ck (fun u hu=>hRd.lines hu) HPl hp hLl HSl (hmx.low hRd.pw.low) (Nat.lt_of_lt_of_le (Nat.lt_of_lt_of_le hmx.lt (by omega)) (Nat.le_of_lt hRd.rl)) Y hY).mono ?_
    intro e w' hq
    cases Y with
    | error z =>
     obtain⟨a,z⟩:=z
     obtain⟨⟨g,rfl,hg⟩,hgr⟩:=hq
     right
     refine⟨_,rfl,?_⟩
     rw[← HPd.out]
     have hk:∀ k x,k≠R→wr.drew.heap[k]?=some x→w'.heap[k]?=some x:=fun k _ hk hx=>(hgr.block k (Array.getElem?_eq_some_iff.1 hx).1 (fun e=>hk (Option.some.inj e))).trans hx
     exact⟨g,a,z,_,rfl,hg,HIe.out _ hY,hRd.pw.low.grown hgr hsz (fun k e=>by cases e;omega),hk _ _ (by omega) hRd.f0,hk _ _ (by omega) hRd.f1⟩
    | ok z =>
     obtain⟨x,p2,r⟩:=z
     obtain⟨hv,H,rfl,hxe,hown,hins,q,hgr⟩:=hq
     obtain⟨vo,vc,rfl⟩:=(holds_of hown).form
     left
     rw[← hRr]
     exact⟨_,rfl,trivial,x,p2,r,vo,vc,H,hY,rfl,hRd.call hgr q,⟨hxe,own_base hown hsz,fun y hy=>own_base (hins y hy) hsz⟩⟩)
   have i1:(p:Int)<(L.length:Int):=by omega
   have HRr:Hid (_=Rr):=hRr
   clear hRr HI
   go_upto_region 6 with fail
   refine wp_region_panC Pn (.pointer (some ⟨w.heap.size,0,none⟩)) (.pointer (some ⟨w.heap.size+1,0,none⟩)) [{ target:=.fn (.func 68) #[.pointer (some ⟨w.heap.size,0,none⟩),.pointer (some ⟨w.heap.size+1,0,none⟩)],args:=#[] }] (fun c a u h1 h2 h3 h4=>HPn.out c a u h1 h2 h3 h4) ?_
   refine wp_region_held_drew (S:=fun _=>True) (by kernel_rfl) trivial (fun _=>?_)
   generalize wr.drew=wd at hRd hcall ⊢
   have c0d:=hRd.c0
   refine go_two 0 22 _ 1 23 _ rfl (by kernel_rfl) rfl (by kernel_rfl) (by kernel_rfl) (by kernel_rfl) (by kernel_rfl) (.slice o F.length c) wd (load_pxs c0d (.tmp 2) (by kernel_rfl) (by kernel_rfl)) trivial (.slice o F.length c) wd (load_pxs c0d (.tmp 2) (by kernel_rfl) (by kernel_rfl)) trivial ?_ ?_
   ·simp only[Act.put,List.setIfInBounds_toArray,List.set_cons_zero,List.set_cons_succ]
    refine go_val 1 23 _ rfl (by kernel_rfl) (by kernel_rfl) (by kernel_rfl) (.slice o F.length c) wd (load_pxs c0d (.tmp 2) (by kernel_rfl) (by kernel_rfl)) trivial ?_
    simp only[Act.put,List.setIfInBounds_toArray,List.set_cons_zero,List.set_cons_succ]
    refine go_take 2 24 _ (.int .i64 (F.length:Int)) rfl (by kernel_rfl) (by kernel_rfl) (by kernel_rfl) (by kernel_rfl) (panC_put (by decide) (by decide)) (Or.inl ⟨by kernel_rfl,fun u hu=>by kernel_rfl⟩) trivial ?_
    simp only[Act.put,List.setIfInBounds_toArray,List.set_cons_zero,List.set_cons_succ]
    refine go_callR 3 25 _ rfl (by kernel_rfl) (by kernel_rfl) (by kernel_rfl) 69 (.func 69) #[.tmp 4,.tmp 24] #[126,3] (by kernel_rfl) #[] (by kernel_rfl) #[.pointer (some ⟨R,0,none⟩),.int .i64 (F.length:Int)] (by kernel_rfl) (enters_of Tryz.func69 (by kernel_rfl) rfl) Rr Pn (fun c u h=>⟨h,rfl,rfl,rfl⟩) ?_ ?_
    ·exact hcall
    intro v0 u1 _ hq
    rw[← HRr.out] at hq
    obtain⟨x,p2,r,vo,vc,H,hk2,rfl,hR1,hown1⟩:=hq
    have c1u:=hR1.c0
    have hRA:=hR1.keep ((Below.refl _ u1).alloc (Nat.le_refl _) (pxO ⟨x,.slice vo H.length vc,H⟩))
    have c2u:=hRA.c0
    simp only[Act.put,List.setIfInBounds_toArray,List.set_cons_zero,List.set_cons_succ]
    refine go_val 4 26 _ rfl (by kernel_rfl) (by kernel_rfl) (by kernel_rfl) (.slice (some ⟨u1.heap.size,0,none⟩) 1 1) (u1.alloc (pxO ⟨x,.slice vo H.length vc,H⟩)) (by kernel_rfl) trivial ?_
    simp only[Act.put,List.setIfInBounds_toArray,List.set_cons_zero,List.set_cons_succ]
    have hlt2:=HN.out x p2 r hk2
    have hownA:=hown1.keep ((Below.refl _ u1).alloc (Nat.le_refl _) (pxO ⟨x,.slice vo H.length vc,H⟩))
    obtain⟨v3,u3,hr3,hown3,hg3,_⟩:=run_append_w (u1.alloc (pxO ⟨x,.slice vo H.length vc,H⟩)) 48 55 48 (.agg #[.string ⟨#[]⟩,.string ⟨#[]⟩,.slice none 0 0]) 3 56 Tryz.underlying48 infoPx rfl (by decide) (by decide) w.heap.size _ _ _ hRA.pw.own _ 1 (pxC ⟨x,.slice vo H.length vc,H⟩) (one_px u1 ⟨x,.slice vo H.length vc,H⟩) rfl (fun u hu=>by simp[pxC] at hu;rcases hu with rfl | rfl | rfl<;>rfl) (by omega) hRA.pw.low.size
    have hR3:=hRA.more hownA hg3 hown3
    obtain⟨o3,k3,rfl⟩:=(holds_of hown3).form
    refine go_val 5 27 _ rfl (by kernel_rfl) (by kernel_rfl) (by kernel_rfl) (.slice o3 (F.length+1) k3) u3 (exec_app (.tmp 22) (.tmp 26) (by kernel_rfl) (by kernel_rfl) (by kernel_rfl) hr3) trivial ?_
    simp only[Act.put,List.setIfInBounds_toArray,List.set_cons_zero,List.set_cons_succ]
    refine go_skip 6 _ rfl (by kernel_rfl) (by kernel_rfl) (by kernel_rfl) (u3.setCell ⟨w.heap.size,0,none⟩ (.slice o3 (F.length+1) k3)) (exec_storePx hR3.2.1 hR3.2.2 (.tmp 2) (.tmp 27) (by kernel_rfl) (by kernel_rfl) (by kernel_rfl)) trivial ?_
    refine wpAnyH_done (by kernel_rfl) ?_ _
    refine PanC.normal ?_
    have hR4:=hR3.1
    go_wp2
    refine⟨⟨_,F++[⟨x,.slice vo H.length vc,H⟩],p2,f',⟨o3,k3,by rw[List.length_append];rfl⟩,hR4,hlt2.1,by rw[List.length_append];simp;omega,hlt2.2.2.1,HN2.out x p2 r _ _ hk2⟩,?_⟩
    rw[ukN_of hR4.ck,HK.out]
    omega
   ·simp only[Act.put,List.setIfInBounds_toArray,List.set_cons_zero,List.set_cons_succ]
    refine go_take 2 24 _ (.int .i64 (F.length:Int)) rfl (by kernel_rfl) (by kernel_rfl) (by kernel_rfl) (by kernel_rfl) (panC_put (by decide) (by decide)) (Or.inl ⟨by kernel_rfl,fun u hu=>by kernel_rfl⟩) trivial ?_
    simp only[Act.put,List.setIfInBounds_toArray,List.set_cons_zero,List.set_cons_succ]
    refine go_valCallR 0 22 _ 3 25 _ rfl (by kernel_rfl) rfl (by kernel_rfl) (by kernel_rfl) (by kernel_rfl) (by kernel_rfl) (.slice o F.length c) wd (load_pxs c0d (.tmp 2) (by kernel_rfl) (by kernel_rfl)) trivial 69 (.func 69) #[.tmp 4,.tmp 24] #[126,3] (by kernel_rfl) #[] (by kernel_rfl) #[.pointer (some ⟨R,0,none⟩),.int .i64 (F.length:Int)] (by kernel_rfl) (enters_of Tryz.func69 (by kernel_rfl) rfl) Rr Pn (fun c u h=>⟨h,rfl,rfl,rfl⟩) ?_ ?_ ?_
    ·exact hcall
    ·simp only[Act.put,List.setIfInBounds_toArray,List.set_cons_zero,List.set_cons_succ]
     refine go_callR 3 25 _ rfl (by kernel_rfl) (by kernel_rfl) (by kernel_rfl) 69 (.func 69) #[.tmp 4,.tmp 24] #[126,3] (by kernel_rfl) #[] (by kernel_rfl) #[.pointer (some ⟨R,0,none⟩),.int .i64 (F.length:Int)] (by kernel_rfl) (enters_of Tryz.func69 (by kernel_rfl) rfl) Rr Pn (fun c u h=>⟨h,rfl,rfl,rfl⟩) ?_ ?_
     ·exact hcall
     intro v0 u1 _ hq
     rw[← HRr.out] at hq
     obtain⟨x,p2,r,vo,vc,H,hk2,rfl,hR1,hown1⟩:=hq
     have c1u:=hR1.c0
     have hRA:=hR1.keep ((Below.refl _ u1).alloc (Nat.le_refl _) (pxO ⟨x,.slice vo H.length vc,H⟩))
     have c2u:=hRA.c0
     simp only[Act.put,List.setIfInBounds_toArray,List.set_cons_zero,List.set_cons_succ]
     refine go_val 4 26 _ rfl (by kernel_rfl) (by kernel_rfl) (by kernel_rfl) (.slice (some ⟨u1.heap.size,0,none⟩) 1 1) (u1.alloc (pxO ⟨x,.slice vo H.length vc,H⟩)) (by kernel_rfl) trivial ?_
     simp only[Act.put,List.setIfInBounds_toArray,List.set_cons_zero,List.set_cons_succ]
     have hlt2:=HN.out x p2 r hk2
     have hownA:=hown1.keep ((Below.refl _ u1).alloc (Nat.le_refl _) (pxO ⟨x,.slice vo H.length vc,H⟩))
     obtain⟨v3,u3,hr3,hown3,hg3,_⟩:=run_append_w (u1.alloc (pxO ⟨x,.slice vo H.length vc,H⟩)) 48 55 48 (.agg #[.string ⟨#[]⟩,.string ⟨#[]⟩,.slice none 0 0]) 3 56 Tryz.underlying48 infoPx rfl (by decide) (by decide) w.heap.size _ _ _ hRA.pw.own _ 1 (pxC ⟨x,.slice vo H.length vc,H⟩) (one_px u1 ⟨x,.slice vo H.length vc,H⟩) rfl (fun u hu=>by simp[pxC] at hu;rcases hu with rfl | rfl | rfl<;>rfl) (by omega) hRA.pw.low.size
     have hR3:=hRA.more hownA hg3 hown3
     obtain⟨o3,k3,rfl⟩:=(holds_of hown3).form
     refine go_val 5 27 _ rfl (by kernel_rfl) (by kernel_rfl) (by kernel_rfl) (.slice o3 (F.length+1) k3) u3 (exec_app (.tmp 22) (.tmp 26) (by kernel_rfl) (by kernel_rfl) (by kernel_rfl) hr3) trivial ?_
     simp only[Act.put,List.setIfInBounds_toArray,List.set_cons_zero,List.set_cons_succ]
     refine go_skip 6 _ rfl (by kernel_rfl) (by kernel_rfl) (by kernel_rfl) (u3.setCell ⟨w.heap.size,0,none⟩ (.slice o3 (F.length+1) k3)) (exec_storePx hR3.2.1 hR3.2.2 (.tmp 2) (.tmp 27) (by kernel_rfl) (by kernel_rfl) (by kernel_rfl)) trivial ?_
     refine wpAnyH_done (by kernel_rfl) ?_ _
     refine PanC.normal ?_
     have hR4:=hR3.1
     go_wp2
     refine⟨⟨_,F++[⟨x,.slice vo H.length vc,H⟩],p2,f',⟨o3,k3,by rw[List.length_append];rfl⟩,hR4,hlt2.1,by rw[List.length_append];simp;omega,hlt2.2.2.1,HN2.out x p2 r _ _ hk2⟩,?_⟩
     rw[ukN_of hR4.ck,HK.out]
     omega
    ·intro v0 u1 _ hq
     rw[← HRr.out] at hq
     obtain⟨x,p2,r,vo,vc,H,hk2,rfl,hR1,hown1⟩:=hq
     have c1u:=hR1.c0
     have hRA:=hR1.keep ((Below.refl _ u1).alloc (Nat.le_refl _) (pxO ⟨x,.slice vo H.length vc,H⟩))
     have c2u:=hRA.c0
     simp only[Act.put,List.setIfInBounds_toArray,List.set_cons_zero,List.set_cons_succ]
     refine go_two 0 22 _ 4 26 _ rfl (by kernel_rfl) rfl (by kernel_rfl) (by kernel_rfl) (by kernel_rfl) (by kernel_rfl) (.slice o F.length c) u1 (load_pxs c1u (.tmp 2) (by kernel_rfl) (by kernel_rfl)) trivial (.slice (some ⟨u1.heap.size,0,none⟩) 1 1) (u1.alloc (pxO ⟨x,.slice vo H.length vc,H⟩)) (by kernel_rfl) trivial ?_ ?_
     ·simp only[Act.put,List.setIfInBounds_toArray,List.set_cons_zero,List.set_cons_succ]
      refine go_val 4 26 _ rfl (by kernel_rfl) (by kernel_rfl) (by kernel_rfl) (.slice (some ⟨u1.heap.size,0,none⟩) 1 1) (u1.alloc (pxO ⟨x,.slice vo H.length vc,H⟩)) (by kernel_rfl) trivial ?_
      simp only[Act.put,List.setIfInBounds_toArray,List.set_cons_zero,List.set_cons_succ]
      have hlt2:=HN.out x p2 r hk2
      have hownA:=hown1.keep ((Below.refl _ u1).alloc (Nat.le_refl _) (pxO ⟨x,.slice vo H.length vc,H⟩))
      obtain⟨v3,u3,hr3,hown3,hg3,_⟩:=run_append_w (u1.alloc (pxO ⟨x,.slice vo H.length vc,H⟩)) 48 55 48 (.agg #[.string ⟨#[]⟩,.string ⟨#[]⟩,.slice none 0 0]) 3 56 Tryz.underlying48 infoPx rfl (by decide) (by decide) w.heap.size _ _ _ hRA.pw.own _ 1 (pxC ⟨x,.slice vo H.length vc,H⟩) (one_px u1 ⟨x,.slice vo H.length vc,H⟩) rfl (fun u hu=>by simp[pxC] at hu;rcases hu with rfl | rfl | rfl<;>rfl) (by omega) hRA.pw.low.size
      have hR3:=hRA.more hownA hg3 hown3
      obtain⟨o3,k3,rfl⟩:=(holds_of hown3).form
      refine go_val 5 27 _ rfl (by kernel_rfl) (by kernel_rfl) (by kernel_rfl) (.slice o3 (F.length+1) k3) u3 (exec_app (.tmp 22) (.tmp 26) (by kernel_rfl) (by kernel_rfl) (by kernel_rfl) hr3) trivial ?_
      simp only[Act.put,List.setIfInBounds_toArray,List.set_cons_zero,List.set_cons_succ]
      refine go_skip 6 _ rfl (by kernel_rfl) (by kernel_rfl) (by kernel_rfl) (u3.setCell ⟨w.heap.size,0,none⟩ (.slice o3 (F.length+1) k3)) (exec_storePx hR3.2.1 hR3.2.2 (.tmp 2) (.tmp 27) (by kernel_rfl) (by kernel_rfl) (by kernel_rfl)) trivial ?_
      refine wpAnyH_done (by kernel_rfl) ?_ _
      refine PanC.normal ?_
      have hR4:=hR3.1
      go_wp2
      refine⟨⟨_,F++[⟨x,.slice vo H.length vc,H⟩],p2,f',⟨o3,k3,by rw[List.length_append];rfl⟩,hR4,hlt2.1,by rw[List.length_append];simp;omega,hlt2.2.2.1,HN2.out x p2 r _ _ hk2⟩,?_⟩
      rw[ukN_of hR4.ck,HK.out]
      omega
     ·simp only[Act.put,List.setIfInBounds_toArray,List.set_cons_zero,List.set_cons_succ]
      refine go_val 0 22 _ rfl (by kernel_rfl) (by kernel_rfl) (by kernel_rfl) (.slice o F.length c) (u1.alloc (pxO ⟨x,.slice vo H.length vc,H⟩)) (load_pxs c2u (.tmp 2) (by kernel_rfl) (by kernel_rfl)) trivial ?_
      simp only[Act.put,List.setIfInBounds_toArray,List.set_cons_zero,List.set_cons_succ]
      have hlt2:=HN.out x p2 r hk2
      have hownA:=hown1.keep ((Below.refl _ u1).alloc (Nat.le_refl _) (pxO ⟨x,.slice vo H.length vc,H⟩))
      obtain⟨v3,u3,hr3,hown3,hg3,_⟩:=run_append_w (u1.alloc (pxO ⟨x,.slice vo H.length vc,H⟩)) 48 55 48 (.agg #[.string ⟨#[]⟩,.string ⟨#[]⟩,.slice none 0 0]) 3 56 Tryz.underlying48 infoPx rfl (by decide) (by decide) w.heap.size _ _ _ hRA.pw.own _ 1 (pxC ⟨x,.slice vo H.length vc,H⟩) (one_px u1 ⟨x,.slice vo H.length vc,H⟩) rfl (fun u hu=>by simp[pxC] at hu;rcases hu with rfl | rfl | rfl<;>rfl) (by omega) hRA.pw.low.size
      have hR3:=hRA.more hownA hg3 hown3
      obtain⟨o3,k3,rfl⟩:=(holds_of hown3).form
      refine go_val 5 27 _ rfl (by kernel_rfl) (by kernel_rfl) (by kernel_rfl) (.slice o3 (F.length+1) k3) u3 (exec_app (.tmp 22) (.tmp 26) (by kernel_rfl) (by kernel_rfl) (by kernel_rfl) hr3) trivial ?_
      simp only[Act.put,List.setIfInBounds_toArray,List.set_cons_zero,List.set_cons_succ]
      refine go_skip 6 _ rfl (by kernel_rfl) (by kernel_rfl) (by kernel_rfl) (u3.setCell ⟨w.heap.size,0,none⟩ (.slice o3 (F.length+1) k3)) (exec_storePx hR3.2.1 hR3.2.2 (.tmp 2) (.tmp 27) (by kernel_rfl) (by kernel_rfl) (by kernel_rfl)) trivial ?_
      refine wpAnyH_done (by kernel_rfl) ?_ _
      refine PanC.normal ?_
      have hR4:=hR3.1
      go_wp2
      refine⟨⟨_,F++[⟨x,.slice vo H.length vc,H⟩],p2,f',⟨o3,k3,by rw[List.length_append];rfl⟩,hR4,hlt2.1,by rw[List.length_append];simp;omega,hlt2.2.2.1,HN2.out x p2 r _ _ hk2⟩,?_⟩
      rw[ukN_of hR4.ck,HK.out]
      omega
  ·have hend:decide ((p:Int)<(L.length:Int))=false:=decide_eq_false (by omega)
   have hXv:X=.ok (F.map (·.x)):=(by
    rw[← HI.out,List.drop_eq_nil_of_le (by omega)]
    cases f with
    | zero=>simp[upsP,thenPs]
    | succ f=>simp[upsP,thenPs])
   have c0:=hR.c0
   have c1:wr.cell? ⟨w.heap.size+1,0,none⟩=some .nilIface:=by rw[Lib.cell_of_heap hR.f1];rfl
   have z0:=Lib.frozen_of_heap hR.f0 0
   have z1:=Lib.frozen_of_heap hR.f1 0
   have g0:=grown_set wr w.heap.size 0 (.slice o F.length c)
   have s0:=heap_setCell_same wr w.heap.size 0 _ _ (.slice o F.length c) hR.f0
   have h1:Pw w (.slice o F.length c) F (wr.setCell ⟨w.heap.size,0,none⟩ (.slice o F.length c)):=⟨hR.pw.low.setCell (Nat.le_refl _) _,hR.pw.own.kept g0 (.inr (own_box2 hR.pw.own hR.f0 (by decide))),fun f hf=>(hR.pw.ins f hf).box hR.f0 (by decide) (by decide) g0⟩
   have t1:(wr.setCell ⟨w.heap.size,0,none⟩ (.slice o F.length c)).heap[w.heap.size+1]?=some (.cells #[.nilIface] 36):=(Below.heap_setCell _ _ _ _ (by simp)).trans hR.f1
   have g1:=grown_set (wr.setCell ⟨w.heap.size,0,none⟩ (.slice o F.length c)) (w.heap.size+1) 0 .nilIface
   have s1:=heap_setCell_same _ (w.heap.size+1) 0 _ _ .nilIface t1
   have s2:((wr.setCell ⟨w.heap.size,0,none⟩ (.slice o F.length c)).setCell ⟨w.heap.size+1,0,none⟩ .nilIface).heap[w.heap.size]?=_:=(Below.heap_setCell _ _ _ _ (by simp)).trans s0
   have h2:Pw w (.slice o F.length c) F ((wr.setCell ⟨w.heap.size,0,none⟩ (.slice o F.length c)).setCell ⟨w.heap.size+1,0,none⟩ .nilIface):=⟨h1.low.setCell (by show w.heap.size≤w.heap.size+1;omega) _,h1.own.kept g1 (.inr (own_box2 h1.own t1 (by decide))),fun f hf=>(h1.ins f hf).box t1 (by decide) (by decide) g1⟩
   have c1':(wr.setCell ⟨w.heap.size,0,none⟩ (.slice o F.length c)).cell? ⟨w.heap.size+1,0,none⟩=some .nilIface:=by rw[Lib.cell_of_heap t1];rfl
   have z1':=Lib.frozen_of_heap t1 0
   have e0:((wr.setCell ⟨w.heap.size,0,none⟩ (.slice o F.length c)).setCell ⟨w.heap.size+1,0,none⟩ .nilIface).cell? ⟨w.heap.size,0,none⟩=some (.slice o F.length c):=by rw[Lib.cell_of_heap s2];rfl
   have e1:((wr.setCell ⟨w.heap.size,0,none⟩ (.slice o F.length c)).setCell ⟨w.heap.size+1,0,none⟩ .nilIface).cell? ⟨w.heap.size+1,0,none⟩=some .nilIface:=by rw[Lib.cell_of_heap s1];rfl
   subst hXv
   clear HI HPn HPd hR h1 g0 g1 s0 s1 s2 t1
   go_wp2
   refine leaves_cons (f:=68) (args:=#[.pointer (some ⟨w.heap.size,0,none⟩),.pointer (some ⟨w.heap.size+1,0,none⟩)]) (by simp) (by simp[go_sem]) ?_
   refine (catch_idleU _ _ _).mono ?_
   rintro e u' w'' ⟨rfl,rfl,rfl⟩
   exact⟨_,rd_resultsU _ _ w.heap.size (w.heap.size+1) F.length c o .nilIface rfl rfl e0 e1,_,F,rfl,h2,rfl⟩
end Go.Proofs.YtgiojkhmkeocfaaGreatDoor

/- The laws' own works of layer 16, walked. -/
namespace Go.Proofs.YtgiojkhmkeocfaaGreatDoor
open Go.RowKit
theorem rSame6_f (p1 p2:Pth) (q1 q2:List (Hk × Value)) (H1:Hid (q1.map (·.1)=p1.hs)) (H2:Hid (q2.map (·.1)=p2.hs)) (v1 v2:Value) (w:World) (hv1:HHp w v1 q1) (hv2:HHp w v2 q2) (hok:HOw q1) (r:Bool) (HR:Hid (r=true↔p1=p2)) :
  Calls Tryz.prog 72 #[ptV p1 v1,ptV p2 v2] w fun e w'=>e=.returned (.bool r)∧Below w.heap.size w w':=by
 obtain⟨lo,lc,rfl⟩:=Holds.form hv1.row
 obtain⟨mo,mc,rfl⟩:=Holds.form hv2.row
 have hB:Below w.heap.size w ((w.alloc (ptO p1 (.slice lo q1.length lc))).alloc (ptO p2 (.slice mo q2.length mc))):=((Below.refl _ w).alloc (Nat.le_refl _) _).alloc (by simp) _
 have hc:=rSamePt_f p1 p2 q1 q2 H1 H2 (.slice lo q1.length lc) (.slice mo q2.length mc) _ (hv1.keep hB (Nat.le_refl _)) (hv2.keep hB (Nat.le_refl _)) hok r HR
 unfold ptO ptV at hc
 unfold ptV
 unfold ptO at hB
 go_enter Tryz.func72,Tryz.ntmps72
 go_wp2_with fail
 refine hc.mono ?_
 rintro e w1 ⟨rfl,hB1⟩
 go_wp2
 go_ret
 exact⟨rfl,hB.trans (hB1.mono hB.size)⟩
def wkM6:Obj:=.cells #[.int .u8 32,.string ⟨#[49,10]⟩,.int .u8 45,.string ⟨#[50]⟩] 103
def wkH6 (b:Nat):Obj:=.cells #[.int .i64 1,.int .i64 2,.int .i64 1,.int .i64 1,.slice (some ⟨b,0,none⟩) 2 2] 59
def wkK6:Hk:=⟨1,2,1,1,[⟨32,[49,10]⟩,⟨45,[50]⟩]⟩
theorem wk_hh6 (w:World) (n m:Nat) (hn:w.heap.size=n) (hm:n+1=m):HHp ((w.alloc wkM6).alloc (wkH6 n)) (.slice (some ⟨m,0,none⟩) 1 1) [(wkK6,.slice (some ⟨n,0,none⟩) 2 2)]:=by
 have hz:(w.alloc wkM6).heap.size=m:=by rw[← hm,← hn];simp
 refine⟨?_,?_⟩
 ·exact new_holds_at (w.alloc wkM6) m hz #[.int .i64 1,.int .i64 2,.int .i64 1,.int .i64 1,.slice (some ⟨n,0,none⟩) 2 2] 59 1 1 (by simp)
 ·intro y hy
  rw[List.mem_singleton.1 hy]
  have h:=new_holds_at w n hn #[.int .u8 32,.string ⟨#[49,10]⟩,.int .u8 45,.string ⟨#[50]⟩] 103 2 2 (by decide)
  have h2:HMk (w.alloc wkM6) (.slice (some ⟨n,0,none⟩) 2 2) wkK6.ls:=h
  exact h2.keep ((Below.refl _ _).alloc (Nat.le_refl _) _) (Nat.le_refl _)
theorem wk_hok6 (v:Value):HOk [(wkK6,v)]:=by
 refine⟨show 1≤_ by decide,fun x hx=>?_⟩
 rw[List.mem_singleton.1 hx]
 exact⟨show wkK6.ls.length≤_ by decide,show ∀ m∈wkK6.ls,m.tx.length≤1099511627776 by decide⟩
theorem uworks_f (w:World) (HTb:Hid (Tab10 w)) (hmx:Mxl w):Calls Tryz.prog 29 #[] w fun e w'=>e=.returned (.bool true)∧Below w.heap.size w w':=by
 have hh:=wk_hh6 w w.heap.size (w.heap.size+1) rfl rfl
 have hB1:Below w.heap.size w ((w.alloc wkM6).alloc (wkH6 w.heap.size)):=((Below.refl _ w).alloc (Nat.le_refl _) _).alloc (by simp) _
 have hz1:((w.alloc wkM6).alloc (wkH6 w.heap.size)).heap.size=w.heap.size+1+1:=by simp
 have hW:(w.alloc (.cells #[.int .u8 32,.string ⟨#[49,10]⟩,.int .u8 45,.string ⟨#[50]⟩] 103)).alloc (.cells #[.int .i64 1,.int .i64 2,.int .i64 1,.int .i64 1,.slice (some ⟨w.heap.size,0,none⟩) 2 2] 59)=(w.alloc wkM6).alloc (wkH6 w.heap.size):=rfl
 go_enter Tryz.func29,Tryz.ntmps29
 go_wp2_with fail
 have hA:Below ((w.alloc wkM6).alloc (wkH6 w.heap.size)).heap.size ((w.alloc wkM6).alloc (wkH6 w.heap.size)) (((w.alloc wkM6).alloc (wkH6 w.heap.size)).alloc (.cells #[.string ⟨#[97]⟩,.string ⟨#[98]⟩,.slice (some ⟨w.heap.size+1,0,none⟩) 1 1] 55)):=(Below.refl _ _).alloc (Nat.le_refl _) _
 have hx2:(((w.alloc wkM6).alloc (wkH6 w.heap.size)).alloc (.cells #[.string ⟨#[97]⟩,.string ⟨#[98]⟩,.slice (some ⟨w.heap.size+1,0,none⟩) 1 1] 55)).heap[w.heap.size+1+1]?=some (.cells #[.string ⟨#[97]⟩,.string ⟨#[98]⟩,.slice (some ⟨w.heap.size+1,0,none⟩) 1 1] 55):=(by rw[← hz1];exact heap_alloc_new _ _)
 have hh2:=hh.keep hA (Nat.le_refl _)
 have hB2:=hB1.trans (hA.mono hB1.size)
 clear hh hB1 hz1 hW hA
 generalize ((w.alloc wkM6).alloc (wkH6 w.heap.size)).alloc (.cells #[.string ⟨#[97]⟩,.string ⟨#[98]⟩,.slice (some ⟨w.heap.size+1,0,none⟩) 1 1] 55)=W2 at hh2 hB2 hx2 ⊢
 have HTb2:Hid (Tab10 W2):=HTb.out.on hB2
 have hcall:=uPrint_f wkP6 [(wkK6,.slice (some ⟨w.heap.size,0,none⟩) 2 2)] (show Hid _ from rfl) (.slice (some ⟨w.heap.size+1,0,none⟩) 1 1) W2 hh2 (wk_hok6 _) (by decide) (by decide) HTb2 wkT6 0 wk6_wrg wk6_text (by decide)
 refine hcall.mono ?_
 rintro e w3 ⟨rfl,hB3⟩
 have hB03:=hB2.trans (hB3.mono hB2.size)
 have hh3:=hh2.keep hB3 (Nat.le_refl _)
 have hx3:=(hB3.block _ (Array.getElem?_eq_some_iff.1 hx2).1).trans hx2
 have HX:Hid (unT atC wkT6=.ok [wkP6]):=wk6_read
 have hTl:wkT6.length≤1099511627776:=(by decide)
 clear hcall hh2 hx2 hB2 hB3 HTb2 HTb
 go_wp2_with fail
 refine (uParse_f wkT6 w3 _ HX hTl (hmx.low hB03)).mono ?_
 rintro e w4 ⟨v4,F,rfl,hPw,hFm⟩
 obtain⟨f,rfl,hfx⟩:=wk_one hFm
 have hv4:=hPw.holds
 obtain⟨o4,c4,rfl⟩:=Holds.form hv4.row
 have hB04:=hB03.trans (hPw.low.mono hB03.size)
 have hh4:=hh3.keep hPw.low (Nat.le_refl _)
 have hx4:=(hPw.low.block _ (Array.getElem?_eq_some_iff.1 hx3).1).trans hx3
 have hp4:=(Array.getElem?_eq_some_iff.1 hx4).1
 obtain⟨b4,f4,rfl,hb4,hc4⟩:=HPp.at hv4 (by simp)
 obtain⟨d0,d1,d2⟩:=hc4 0 (by simp)
 obtain⟨g1,g2⟩:=hv4.ins f (by simp)
 have hov:HOw f.hs:=(by
  have h0:f.hs.map (·.1)=[wkK6]:=by rw[g1,hfx];rfl
  refine⟨?_,fun z hz=>?_⟩
  ·have:=congrArg List.length h0
   rw[List.length_map] at this
   rw[this]
   decide
  ·have h2:z.1∈[wkK6]:=by rw[← h0];exact List.mem_map_of_mem hz
   rw[List.mem_singleton.1 h2]
   decide)
 have hcall:=fun u (hu:Below w4.heap.size w4 u)=>rSame6_f f.x wkP6 f.hs [(wkK6,.slice (some ⟨w.heap.size,0,none⟩) 2 2)] g1 (show Hid _ from rfl) f.v (.slice (some ⟨w.heap.size+1,0,none⟩) 1 1) u (g2.keep hu (Nat.le_refl _)) (hh4.keep hu (Nat.le_refl _)) hov true (show Hid (true=true↔f.x=wkP6) from ⟨fun _=>hfx,fun _=>rfl⟩)
 obtain⟨fo,fc,hfv⟩:=Holds.form g2.row
 have e0:w4.cell? ⟨b4,f4,none⟩=some (.string ⟨f.x.old.toArray⟩):=(by simpa using d0)
 have e4:w4.cell? ⟨b4,f4+1,none⟩=some (.string ⟨f.x.new.toArray⟩):=(by simpa using d1)
 have e5:w4.cell? ⟨b4,f4+2,none⟩=some (.slice fo f.hs.length fc):=(by rw[← hfv];simpa using d2)
 have p0:w4.cell? ⟨w.heap.size+1+1,0,none⟩=some (.string ⟨#[97]⟩):=(by rw[Lib.cell_of_heap hx4];rfl)
 have p1:w4.cell? ⟨w.heap.size+1+1,1,none⟩=some (.string ⟨#[98]⟩):=(by rw[Lib.cell_of_heap hx4];rfl)
 have p2:w4.cell? ⟨w.heap.size+1+1,2,none⟩=some (.slice (some ⟨w.heap.size+1,0,none⟩) 1 1):=(by rw[Lib.cell_of_heap hx4];rfl)
 unfold ptV at hcall
 rw[hfv] at hcall
 have hcall2:∀ u,Below w4.heap.size w4 u→Calls Tryz.prog 72 #[.agg #[.string ⟨f.x.old.toArray⟩,.string ⟨f.x.new.toArray⟩,.slice fo f.hs.length fc],.agg #[.string ⟨#[97]⟩,.string ⟨#[98]⟩,.slice (some ⟨w.heap.size+1,0,none⟩) 1 1]] u fun e w'=>e=.returned (.bool true)∧Below u.heap.size u w':=hcall
 have hlo:=Below.refl w4.heap.size w4
 clear hcall hPw hFm HX hv4 hc4 d0 d1 d2 g1 g2 hfx hfv hh3 hh4 hx3 hx4 hB03 hov hTl
 generalize f.x.old=fold at *
 generalize f.x.new=fnew at *
 have HC:Hid (∀ u,Below w4.heap.size w4 u→u.cell? ⟨b4,f4,none⟩=some (.string ⟨fold.toArray⟩)∧u.cell? ⟨b4,f4+1,none⟩=some (.string ⟨fnew.toArray⟩)∧u.cell? ⟨b4,f4+2,none⟩=some (.slice fo f.hs.length fc)∧u.cell? ⟨w.heap.size+1+1,0,none⟩=some (.string ⟨#[97]⟩)∧u.cell? ⟨w.heap.size+1+1,1,none⟩=some (.string ⟨#[98]⟩)∧u.cell? ⟨w.heap.size+1+1,2,none⟩=some (.slice (some ⟨w.heap.size+1,0,none⟩) 1 1)):=fun u hu =>
  ⟨(World.cell?_of_block (hu.block b4 hb4)).trans e0,(World.cell?_of_block (hu.block b4 hb4)).trans e4,(World.cell?_of_block (hu.block b4 hb4)).trans e5,(World.cell?_of_block (hu.block _ hp4)).trans p0,(World.cell?_of_block (hu.block _ hp4)).trans p1,(World.cell?_of_block (hu.block _ hp4)).trans p2⟩
 clear e0 e4 e5 p0 p1 p2
 simp only[List.length_cons,List.length_nil,Nat.zero_add]
 go_upto_region 4 with fail
 refine wp_region_noPanic ?_
 refine wp_region_held_drew (S:=fun u=>Below w4.heap.size w4 u) (by kernel_rfl) (Below.refl _ w4).drew (fun hHeld=>?_)
 generalize w4.drew=wd at hHeld ⊢
 refine go_take 0 22 _ (.int .i64 0) rfl (by kernel_rfl) (by kernel_rfl) (by kernel_rfl) (by kernel_rfl) (fun _ _ _ h=>h) (Or.inl ⟨by kernel_rfl,fun u hu=>by kernel_rfl⟩) hHeld ?_
 simp only[Act.put,List.setIfInBounds_toArray,List.set_cons_zero,List.set_cons_succ]
 refine go_take 1 23 _ (.bool true) rfl (by kernel_rfl) (by kernel_rfl) (by kernel_rfl) (by kernel_rfl) (fun _ _ _ h=>h) (Or.inl ⟨by kernel_rfl,fun u hu=>by kernel_rfl⟩) hHeld ?_
 simp only[Act.put,List.setIfInBounds_toArray,List.set_cons_zero,List.set_cons_succ]
 refine go_take 2 24 _ (.bool true) rfl (by kernel_rfl) (by kernel_rfl) (by kernel_rfl) (by kernel_rfl) (fun _ _ _ h=>h) (Or.inl ⟨by kernel_rfl,fun u hu=>by kernel_rfl⟩) hHeld ?_
 simp only[Act.put,List.setIfInBounds_toArray,List.set_cons_zero,List.set_cons_succ]
 refine go_take 3 25 _ (.string ⟨wkT6.toArray⟩) rfl (by kernel_rfl) (by kernel_rfl) (by kernel_rfl) (by kernel_rfl) (fun _ _ _ h=>h) (Or.inl ⟨by kernel_rfl,fun u hu=>by kernel_rfl⟩) hHeld ?_
 simp only[Act.put,List.setIfInBounds_toArray,List.set_cons_zero,List.set_cons_succ]
 refine go_take 4 26 _ (.bool true) rfl (by kernel_rfl) (by kernel_rfl) (by kernel_rfl) (by kernel_rfl) (fun _ _ _ h=>h) (Or.inl ⟨by kernel_rfl,fun u hu=>by kernel_rfl⟩) hHeld ?_
 simp only[Act.put,List.setIfInBounds_toArray,List.set_cons_zero,List.set_cons_succ]
 refine go_take 5 27 _ (.bool true) rfl (by kernel_rfl) (by kernel_rfl) (by kernel_rfl) (by kernel_rfl) (fun _ _ _ h=>h) (Or.inl ⟨by kernel_rfl,fun u hu=>by kernel_rfl⟩) hHeld ?_
 simp only[Act.put,List.setIfInBounds_toArray,List.set_cons_zero,List.set_cons_succ]
 refine go_take 6 28 _ (.bool true) rfl (by kernel_rfl) (by kernel_rfl) (by kernel_rfl) (by kernel_rfl) (fun _ _ _ h=>h) (Or.inl ⟨by kernel_rfl,fun u hu=>by kernel_rfl⟩) hHeld ?_
 simp only[Act.put,List.setIfInBounds_toArray,List.set_cons_zero,List.set_cons_succ]
 refine go_take 7 29 _ (.nilIface) rfl (by kernel_rfl) (by kernel_rfl) (by kernel_rfl) (by kernel_rfl) (fun _ _ _ h=>h) (Or.inl ⟨by kernel_rfl,fun u hu=>by kernel_rfl⟩) hHeld ?_
 simp only[Act.put,List.setIfInBounds_toArray,List.set_cons_zero,List.set_cons_succ]
 refine go_take 8 30 _ (.bool true) rfl (by kernel_rfl) (by kernel_rfl) (by kernel_rfl) (by kernel_rfl) (fun _ _ _ h=>h) (Or.inl ⟨by kernel_rfl,fun u hu=>by kernel_rfl⟩) hHeld ?_
 simp only[Act.put,List.setIfInBounds_toArray,List.set_cons_zero,List.set_cons_succ]
 refine go_take 9 31 _ (.bool true) rfl (by kernel_rfl) (by kernel_rfl) (by kernel_rfl) (by kernel_rfl) (fun _ _ _ h=>h) (Or.inl ⟨by kernel_rfl,fun u hu=>by kernel_rfl⟩) hHeld ?_
 simp only[Act.put,List.setIfInBounds_toArray,List.set_cons_zero,List.set_cons_succ]
 refine go_take 10 32 _ (.bool true) rfl (by kernel_rfl) (by kernel_rfl) (by kernel_rfl) (by kernel_rfl) (fun _ _ _ h=>h) (Or.inl ⟨by kernel_rfl,fun u hu=>by kernel_rfl⟩) hHeld ?_
 simp only[Act.put,List.setIfInBounds_toArray,List.set_cons_zero,List.set_cons_succ]
 refine go_take 11 33 _ (.slice (some ⟨b4,f4,none⟩) 1 c4) rfl (by kernel_rfl) (by kernel_rfl) (by kernel_rfl) (by kernel_rfl) (fun _ _ _ h=>h) (Or.inl ⟨by kernel_rfl,fun u hu=>by kernel_rfl⟩) hHeld ?_
 simp only[Act.put,List.setIfInBounds_toArray,List.set_cons_zero,List.set_cons_succ]
 refine go_take 12 34 _ (.int .i64 1) rfl (by kernel_rfl) (by kernel_rfl) (by kernel_rfl) (by kernel_rfl) (fun _ _ _ h=>h) (Or.inl ⟨by kernel_rfl,fun u hu=>by kernel_rfl⟩) hHeld ?_
 simp only[Act.put,List.setIfInBounds_toArray,List.set_cons_zero,List.set_cons_succ]
 refine go_take 13 35 _ (.bool true) rfl (by kernel_rfl) (by kernel_rfl) (by kernel_rfl) (by kernel_rfl) (fun _ _ _ h=>h) (Or.inl ⟨by kernel_rfl,fun u hu=>by kernel_rfl⟩) hHeld ?_
 simp only[Act.put,List.setIfInBounds_toArray,List.set_cons_zero,List.set_cons_succ]
 refine go_take 14 36 _ (.bool true) rfl (by kernel_rfl) (by kernel_rfl) (by kernel_rfl) (by kernel_rfl) (fun _ _ _ h=>h) (Or.inl ⟨by kernel_rfl,fun u hu=>by kernel_rfl⟩) hHeld ?_
 simp only[Act.put,List.setIfInBounds_toArray,List.set_cons_zero,List.set_cons_succ]
 refine go_take 15 37 _ (.bool true) rfl (by kernel_rfl) (by kernel_rfl) (by kernel_rfl) (by kernel_rfl) (fun _ _ _ h=>h) (Or.inl ⟨by kernel_rfl,fun u hu=>by kernel_rfl⟩) hHeld ?_
 simp only[Act.put,List.setIfInBounds_toArray,List.set_cons_zero,List.set_cons_succ]
 refine go_take 16 38 _ (.slice (some ⟨b4,f4,none⟩) 1 c4) rfl (by kernel_rfl) (by kernel_rfl) (by kernel_rfl) (by kernel_rfl) (fun _ _ _ h=>h) (Or.inl ⟨by kernel_rfl,fun u hu=>by kernel_rfl⟩) hHeld ?_
 simp only[Act.put,List.setIfInBounds_toArray,List.set_cons_zero,List.set_cons_succ]
 refine go_take 17 39 _ (.pointer (some ⟨b4,f4,none⟩)) rfl (by kernel_rfl) (by kernel_rfl) (by kernel_rfl) (by kernel_rfl) (fun _ _ _ h=>h) (Or.inl ⟨by kernel_rfl,fun u hu=>by kernel_rfl⟩) hHeld ?_
 simp only[Act.put,List.setIfInBounds_toArray,List.set_cons_zero,List.set_cons_succ]
 refine go_take 18 40 _ (.agg #[.string ⟨fold.toArray⟩,.string ⟨fnew.toArray⟩,.slice fo f.hs.length fc]) rfl (by kernel_rfl) (by kernel_rfl) (by kernel_rfl) (by kernel_rfl) (fun _ _ _ h=>h) (Or.inl ⟨by kernel_rfl,fun u hu=>load_ptc (HC.out u hu).1 (HC.out u hu).2.1 (HC.out u hu).2.2.1 (.tmp 39) (by kernel_rfl) (by kernel_rfl)⟩) hHeld ?_
 simp only[Act.put,List.setIfInBounds_toArray,List.set_cons_zero,List.set_cons_succ]
 refine go_take 19 41 _ (.agg #[.string ⟨#[97]⟩,.string ⟨#[98]⟩,.slice (some ⟨w.heap.size+1,0,none⟩) 1 1]) rfl (by kernel_rfl) (by kernel_rfl) (by kernel_rfl) (by kernel_rfl) (fun _ _ _ h=>h) (Or.inl ⟨by kernel_rfl,fun u hu=>load_ptc (HC.out u hu).2.2.2.1 (HC.out u hu).2.2.2.2.1 (HC.out u hu).2.2.2.2.2 (.tmp 1) (by kernel_rfl) (by kernel_rfl)⟩) hHeld ?_
 simp only[Act.put,List.setIfInBounds_toArray,List.set_cons_zero,List.set_cons_succ]
 refine go_callE 20 42 _ rfl (by kernel_rfl) (by kernel_rfl) (by kernel_rfl) 72 (.func 72) #[.tmp 40,.tmp 41] #[55,55] (by kernel_rfl) #[] (by kernel_rfl) #[.agg #[.string ⟨fold.toArray⟩,.string ⟨fnew.toArray⟩,.slice fo f.hs.length fc],.agg #[.string ⟨#[97]⟩,.string ⟨#[98]⟩,.slice (some ⟨w.heap.size+1,0,none⟩) 1 1]] (by kernel_rfl) (enters_of Tryz.func72 (by kernel_rfl) rfl) (fun v _=>v=.bool true) ?_ ?_
 ·refine (hcall2 wd hHeld).mono ?_
  rintro e w5 ⟨rfl,hB5⟩
  exact⟨_,rfl,hHeld.trans (hB5.mono hHeld.size),rfl⟩
 clear hHeld
 rintro v w5 hHeld rfl
 simp only[Act.put,List.setIfInBounds_toArray,List.set_cons_zero,List.set_cons_succ]
 refine go_take 21 43 _ (.bool true) rfl (by kernel_rfl) (by kernel_rfl) (by kernel_rfl) (by kernel_rfl) (fun _ _ _ h=>h) (Or.inl ⟨by kernel_rfl,fun u hu=>by kernel_rfl⟩) hHeld ?_
 simp only[Act.put,List.setIfInBounds_toArray,List.set_cons_zero,List.set_cons_succ]
 refine go_take 22 0 _ (.bool true) rfl (by kernel_rfl) (by kernel_rfl) (by kernel_rfl) (by kernel_rfl) (fun _ _ _ h=>h) (Or.inl ⟨by kernel_rfl,fun u hu=>by kernel_rfl⟩) hHeld ?_
 simp only[Act.put,List.setIfInBounds_toArray,List.set_cons_zero]
 refine wpAnyH_done (by kernel_rfl) ?_ _
 refine NoPanic.normal ?_
 have hB6:=hB04.trans (hHeld.mono hB04.size)
 go_wp2
 go_ret
 exact⟨rfl,hB6⟩
end Go.Proofs.YtgiojkhmkeocfaaGreatDoor

/- The code's Order of layer 11, walked. -/
namespace Go.Proofs.YtgiojkhmkeocfaaGreatDoor
open Go.RowKit
end Go.Proofs.YtgiojkhmkeocfaaGreatDoor

/- The laws' own works of layer 11, walked: the chapter's first case. -/
namespace Go.Proofs.YtgiojkhmkeocfaaGreatDoor
open Go.RowKit
end Go.Proofs.YtgiojkhmkeocfaaGreatDoor

/- The world that a claim speaks of holds a number in internal/bytealg.MaxLen. -/
namespace Go.Proofs.YtgiojkhmkeocfaaGreatDoor
theorem mxu_of {W:World} (h:W.ShapedOpen Tryz.prog):Mxl W:=Go.Proofs.cell_of_shapedOpen_int (zero:=#[.int .i64 0]) (t:=3) h (of_decide_eq_true (by kernel_rfl)) (by kernel_rfl) rfl (by kernel_rfl) (by kernel_rfl) Tryz.underlying3
end Go.Proofs.YtgiojkhmkeocfaaGreatDoor

/- errors.As at two concrete targets, walked over Go's own text: an error that is a fault's pointer, an error that is a number. The model's entries for internal/reflectlite at this program: closed facts, and three small laws on those that read or write memory. -/
namespace Go.Proofs.YtgiojkhmkeocfaaGreatDoor.Es
open Go.RowKit Go.Extern.Stop Go.Stop Go.Extern
theorem mKind (h : Value) (w : World) : (Go.method 486 193 (.agg #[h]) "Kind").run Tryz.prog w = .ok (329, h) w := by kernel_rfl
theorem mElem (h : Value) (w : World) : (Go.method 486 193 (.agg #[h]) "Elem").run Tryz.prog w = .ok (342, .agg #[h]) w := by kernel_rfl
theorem mImplements (h : Value) (w : World) : (Go.method 486 193 (.agg #[h]) "Implements").run Tryz.prog w = .ok (343, .agg #[h]) w := by kernel_rfl
theorem mAssignableTo (h : Value) (w : World) : (Go.method 486 193 (.agg #[h]) "AssignableTo").run Tryz.prog w = .ok (340, .agg #[h]) w := by kernel_rfl
theorem Ef.valueOfP (t:Addr) (w:World):(ReflectliteValue.unpack (.iface 95 (.pointer (some t)))).run Tryz.prog w
  = .ok (.agg #[.pointer (some ⟨7,95,none⟩),.pointer (some ⟨w.heap.size,0,none⟩),.int .u64 150]) (w.alloc (.cells #[.pointer (some t)] 95)):=by kernel_rfl
theorem Ef.typeP (a : Addr) (w : World) : (ReflectliteValue.methodAny (ReflectliteValue.valueError "reflectlite.Value.Type" 0) (fun t _ _ _ => ReflectliteType.toType t) #[.agg #[.pointer (some ⟨7, 95, none⟩), .pointer (some a), .int .u64 150]]).run Tryz.prog w
  = .ok (.iface 193 (.agg #[.pointer (some ⟨7,95,none⟩)])) w:=by kernel_rfl
theorem Ef.kindP (w:World):((ReflectliteType.abiMethod fun t=>Functor.map (fun a:Nat=>Value.int IntKind.u8 (a:Int)) (Rtype.kind t)) #[.pointer (some ⟨7,95,none⟩)]).run Tryz.prog w=.ok (.int .u8 22) w:=by kernel_rfl
theorem Ef.kindE (w:World):((ReflectliteType.abiMethod fun t=>Functor.map (fun a:Nat=>Value.int IntKind.u8 (a:Int)) (Rtype.kind t)) #[.pointer (some ⟨7,86,none⟩)]).run Tryz.prog w=.ok (.int .u8 22) w:=by kernel_rfl
theorem Ef.partsP (a:Addr) (w:World):(ReflectliteValue.parts (.agg #[.pointer (some ⟨7,95,none⟩),.pointer (some a),.int .u64 150])).run Tryz.prog w=.ok (some (95,a,150)) w:=by kernel_rfl
theorem Ef.isNilP (a p:Addr) (W:World) (ha:W.cell? a=some (.pointer (some p))) :
  (ReflectliteValue.method (ReflectliteValue.valueError "reflectlite.Value.IsNil" 0) ReflectliteValue.isNil #[.agg #[.pointer (some ⟨7, 95, none⟩), .pointer (some a), .int .u64 150]]).run Tryz.prog W = .ok (.bool false) W := by
 show Sem.run Tryz.prog (ReflectliteValue.parts (.agg #[.pointer (some ⟨7,95,none⟩),.pointer (some a),.int .u64 150]) >>= _) W=_
 simp only[Sem.run_bind,Ef.partsP,Result.andThen]
 simp[ReflectliteValue.isNil,loadVar,isAgg,underlying,Tryz.underlying95,ha,Result.andThen]
theorem Ef.elemP (w:World):(ReflectliteType.method ReflectliteType.elem #[.agg #[.pointer (some ⟨7,95,none⟩)]]).run Tryz.prog w=.ok (.iface 193 (.agg #[.pointer (some ⟨7,86,none⟩)])) w:=by kernel_rfl
theorem Ef.implementsE (w : World) : (ReflectliteType.relation "Implements" ReflectliteType.implements_ #[.agg #[.pointer (some ⟨7, 86, none⟩)], .iface 193 (.agg #[.pointer (some ⟨7, 36, none⟩)])]).run Tryz.prog w = .ok (.bool true) w := by kernel_rfl
theorem Ef.typeOfE (v:Value) (w:World):(ReflectliteType.typeOf #[.iface 86 v]).run Tryz.prog w=.ok (.iface 193 (.agg #[.pointer (some ⟨7,86,none⟩)])) w:=by kernel_rfl
theorem Ef.assignableE (w : World) : (ReflectliteType.relation "AssignableTo" ReflectliteType.assignableTo #[.agg #[.pointer (some ⟨7, 86, none⟩)], .iface 193 (.agg #[.pointer (some ⟨7, 86, none⟩)])]).run Tryz.prog w = .ok (.bool true) w := by kernel_rfl
theorem Ef.valueOfE (e:Addr) (w:World):(ReflectliteValue.unpack (.iface 86 (.pointer (some e)))).run Tryz.prog w
  = .ok (.agg #[.pointer (some ⟨7,86,none⟩),.pointer (some ⟨w.heap.size,0,none⟩),.int .u64 150]) (w.alloc (.cells #[.pointer (some e)] 86)):=by kernel_rfl
theorem Ef.elemOfP (w:World):(Rtype.elem? 95).run Tryz.prog w=.ok (some 86) w:=by kernel_rfl
theorem Ef.mkE (p:Addr) (w:World):(ReflectliteValue.mk 86 p ReflectliteValue.flagAddr).run Tryz.prog w=.ok (.agg #[.pointer (some ⟨7,86,none⟩),.pointer (some p),.int .u64 406]) w:=by kernel_rfl
theorem Ef.elemVP (a p:Addr) (W:World) (ha:W.cell? a=some (.pointer (some p))) :
  (ReflectliteValue.method (ReflectliteValue.valueError "reflectlite.Value.Elem" 0) ReflectliteValue.elem #[.agg #[.pointer (some ⟨7, 95, none⟩), .pointer (some a), .int .u64 150]]).run Tryz.prog W
   = .ok (.agg #[.pointer (some ⟨7,86,none⟩),.pointer (some p),.int .u64 406]) W:=by
 show Sem.run Tryz.prog (ReflectliteValue.parts (.agg #[.pointer (some ⟨7,95,none⟩),.pointer (some a),.int .u64 150]) >>= _) W=_
 simp only[Sem.run_bind,Ef.partsP,Result.andThen]
 simp[ReflectliteValue.elem,loadVar,isAgg,underlying,Tryz.underlying95,ha,Result.andThen,Ef.elemOfP,Ef.mkE]
theorem Ef.partsEa (a:Addr) (w:World):(ReflectliteValue.parts (.agg #[.pointer (some ⟨7,86,none⟩),.pointer (some a),.int .u64 406])).run Tryz.prog w=.ok (some (86,a,406)) w:=by kernel_rfl
theorem Ef.partsE (a:Addr) (w:World):(ReflectliteValue.parts (.agg #[.pointer (some ⟨7,86,none⟩),.pointer (some a),.int .u64 150])).run Tryz.prog w=.ok (some (86,a,150)) w:=by kernel_rfl
theorem Ef.directE (w:World):(Rtype.directlyAssignable 86 86).run Tryz.prog w=.ok true w:=by kernel_rfl
theorem Ef.setE (ta b:Addr) (e:Addr) (old:Value) (W:World) (hb:W.cell? b=some (.pointer (some e))) (ht:W.cell? ta=some old) (hf:W.frozen? ta=false) :
  (ReflectliteValue.set #[.agg #[.pointer (some ⟨7,86,none⟩),.pointer (some ta),.int .u64 406],.agg #[.pointer (some ⟨7,86,none⟩),.pointer (some b),.int .u64 150]]).run Tryz.prog W
   = .ok (.tuple #[]) (W.setCell ta (.pointer (some e))):=by
 show Sem.run Tryz.prog (ReflectliteValue.parts (.agg #[.pointer (some ⟨7,86,none⟩),.pointer (some ta),.int .u64 406]) >>= fun p=>ReflectliteValue.parts (.agg #[.pointer (some ⟨7,86,none⟩),.pointer (some b),.int .u64 150]) >>= fun q=>_) W=_
 simp only[Sem.run_bind,Ef.partsEa,Ef.partsE,Result.andThen]
 simp[ReflectliteValue.flagAddr,loadVar,isAgg,underlying,Tryz.underlying86,hb,Result.andThen,Ef.directE,storeVar,Value.cells,storeCells,Addr.add]
 rw[run_store Tryz.prog W ta _ _ (by rfl)]
 simp[ht,hf]
theorem Ef.as_hit (e:Addr) (t:Addr) (old:Value) (w:World) (hg:w.cell? ⟨0,0,none⟩=some (.iface 193 (.agg #[.pointer (some ⟨7,36,none⟩)]))) (ht0:w.cell? t=some old) (hf0:w.frozen? t=false) :
  Calls Tryz.prog 45 #[.iface 86 (.pointer (some e)),.iface 95 (.pointer (some t))] w fun ev w'=>ev=.returned (.bool true)∧w'=((((w.alloc (.cells #[.pointer (some t)] 95)).alloc (.cells #[.pointer (some ⟨7,95,none⟩),.pointer (some ⟨w.heap.size,0,none⟩),.int .u64 150] 146)).alloc (.cells #[.pointer (some ⟨7,95,none⟩),.pointer (some ⟨w.heap.size,0,none⟩),.int .u64 150] 146)).alloc (.cells #[.pointer (some e)] 86)).setCell t (.pointer (some e)):=by
 have h6:=@run_callFunc_extern Tryz.prog 89 _ (fun args=>ReflectliteValue.unpack (args.getD 0 (.tuple #[]))) Tryz.func89 (by kernel_rfl) (by kernel_rfl) (by kernel_rfl) (by kernel_rfl)
 have h7 := @run_callFunc_extern Tryz.prog 90 _ (ReflectliteValue.methodAny (ReflectliteValue.valueError "reflectlite.Value.Type" 0) (fun t _ _ _ => ReflectliteType.toType t)) Tryz.func90 (by kernel_rfl) (by kernel_rfl) (by kernel_rfl) (by kernel_rfl)
 have h8 := @run_callFunc_extern Tryz.prog 91 _ (ReflectliteValue.method (ReflectliteValue.valueError "reflectlite.Value.IsNil" 0) ReflectliteValue.isNil) Tryz.func91 (by kernel_rfl) (by kernel_rfl) (by kernel_rfl) (by kernel_rfl)
 have h27:=@run_callFunc_extern Tryz.prog 329 _ (ReflectliteType.abiMethod fun t=>do pure (.int .u8 (← Rtype.kind t))) Tryz.func329 (by kernel_rfl) (by kernel_rfl) (by kernel_rfl) (by kernel_rfl)
 have h37:=@run_callFunc_extern Tryz.prog 342 _ (ReflectliteType.method ReflectliteType.elem) Tryz.func342 (by kernel_rfl) (by kernel_rfl) (by kernel_rfl) (by kernel_rfl)
 have h38 := @run_callFunc_extern Tryz.prog 343 _ (ReflectliteType.relation "Implements" ReflectliteType.implements_) Tryz.func343 (by kernel_rfl) (by kernel_rfl) (by kernel_rfl) (by kernel_rfl)
 have h10:=@run_callFunc_extern Tryz.prog 143 _ ReflectliteType.typeOf Tryz.func143 (by kernel_rfl) (by kernel_rfl) (by kernel_rfl) (by kernel_rfl)
 have h35 := @run_callFunc_extern Tryz.prog 340 _ (ReflectliteType.relation "AssignableTo" ReflectliteType.assignableTo) Tryz.func340 (by kernel_rfl) (by kernel_rfl) (by kernel_rfl) (by kernel_rfl)
 have h11 := @run_callFunc_extern Tryz.prog 144 _ (ReflectliteValue.method (ReflectliteValue.valueError "reflectlite.Value.Elem" 0) ReflectliteValue.elem) Tryz.func144 (by kernel_rfl) (by kernel_rfl) (by kernel_rfl) (by kernel_rfl)
 have h12:=@run_callFunc_extern Tryz.prog 145 _ ReflectliteValue.set Tryz.func145 (by kernel_rfl) (by kernel_rfl) (by kernel_rfl) (by kernel_rfl)
 have tO:=Ef.typeOfE
 have mA:=mAssignableTo
 have a25:=Ef.assignableE
 have v25:=Ef.valueOfE
 have f6:=Ef.valueOfP
 have f7:=Ef.typeP
 have mK:=mKind
 have mE:=mElem
 have mI:=mImplements
 have k27:=Ef.kindP
 have k25:=Ef.kindE
 have e27:=Ef.elemP
 have i25:=Ef.implementsE
 have n8:=Ef.isNilP ⟨w.heap.size,0,none⟩ t ((w.alloc (.cells #[.pointer (some t)] 95)).alloc (.cells #[.pointer (some ⟨7,95,none⟩),.pointer (some ⟨w.heap.size,0,none⟩),.int .u64 150] 146)) (by simp)
 have hlt:0<w.heap.size:=by
  rcases Nat.lt_or_ge 0 w.heap.size with h | h
  ·exact h
  ·simp[World.cell?,Array.getElem?_eq_none h] at hg
 have hg2:((w.alloc (.cells #[.pointer (some t)] 95)).alloc (.cells #[.pointer (some ⟨7,95,none⟩),.pointer (some ⟨w.heap.size,0,none⟩),.int .u64 150] 146)).cell? ⟨0,0,none⟩=some (.iface 193 (.agg #[.pointer (some ⟨7,36,none⟩)])):=by
  rw[World.cell?_alloc_lt _ _ ⟨0,0,none⟩ (by simp<;>omega),World.cell?_alloc_lt _ _ ⟨0,0,none⟩ hlt];exact hg
 have htl:t.block<w.heap.size:=by
  rcases Nat.lt_or_ge t.block w.heap.size with h | h
  ·exact h
  ·simp[World.cell?,Array.getElem?_eq_none h] at ht0
 have el:=Ef.elemVP ⟨w.heap.size,0,none⟩ t (((w.alloc (.cells #[.pointer (some t)] 95)).alloc (.cells #[.pointer (some ⟨7,95,none⟩),.pointer (some ⟨w.heap.size,0,none⟩),.int .u64 150] 146)).alloc (.cells #[.pointer (some ⟨7,95,none⟩),.pointer (some ⟨w.heap.size,0,none⟩),.int .u64 150] 146)) (by rw[World.cell?_alloc_lt _ _ ⟨w.heap.size,0,none⟩ (by simp;omega)];simp)
 have st:=Ef.setE t ⟨w.heap.size+1+1+1,0,none⟩ e old ((((w.alloc (.cells #[.pointer (some t)] 95)).alloc (.cells #[.pointer (some ⟨7,95,none⟩),.pointer (some ⟨w.heap.size,0,none⟩),.int .u64 150] 146)).alloc (.cells #[.pointer (some ⟨7,95,none⟩),.pointer (some ⟨w.heap.size,0,none⟩),.int .u64 150] 146)).alloc (.cells #[.pointer (some e)] 86))
  (by rw[World.cell?_alloc_at _ _ _ _ (by simp)];rfl)
  (by rw[World.cell?_alloc_lt _ _ t (by simp;omega),World.cell?_alloc_lt _ _ t (by simp;omega),World.cell?_alloc_lt _ _ t (by simp;omega),World.cell?_alloc_lt _ _ t htl];exact ht0)
  (by rw[World.frozen?_alloc_old _ _ t (by simp;omega),World.frozen?_alloc_old _ _ t (by simp;omega),World.frozen?_alloc_old _ _ t (by simp;omega),World.frozen?_alloc_old _ _ t (Nat.ne_of_lt htl)];exact hf0)
 go_enter Tryz.func45,Tryz.ntmps45
 go_wp2
 refine wp_loop_rounds 1 ?_
 rw[rounds_succ]
 go_wp2
 go_ret
 exact⟨rfl,rfl⟩
theorem En.valueOfP (t:Addr) (w:World):(ReflectliteValue.unpack (.iface 96 (.pointer (some t)))).run Tryz.prog w
  = .ok (.agg #[.pointer (some ⟨7,96,none⟩),.pointer (some ⟨w.heap.size,0,none⟩),.int .u64 150]) (w.alloc (.cells #[.pointer (some t)] 96)):=by kernel_rfl
theorem En.typeP (a : Addr) (w : World) : (ReflectliteValue.methodAny (ReflectliteValue.valueError "reflectlite.Value.Type" 0) (fun t _ _ _ => ReflectliteType.toType t) #[.agg #[.pointer (some ⟨7, 96, none⟩), .pointer (some a), .int .u64 150]]).run Tryz.prog w
  = .ok (.iface 193 (.agg #[.pointer (some ⟨7,96,none⟩)])) w:=by kernel_rfl
theorem En.kindP (w:World):((ReflectliteType.abiMethod fun t=>Functor.map (fun a:Nat=>Value.int IntKind.u8 (a:Int)) (Rtype.kind t)) #[.pointer (some ⟨7,96,none⟩)]).run Tryz.prog w=.ok (.int .u8 22) w:=by kernel_rfl
theorem En.kindE (w:World):((ReflectliteType.abiMethod fun t=>Functor.map (fun a:Nat=>Value.int IntKind.u8 (a:Int)) (Rtype.kind t)) #[.pointer (some ⟨7,26,none⟩)]).run Tryz.prog w=.ok (.int .u8 2) w:=by kernel_rfl
theorem En.partsP (a:Addr) (w:World):(ReflectliteValue.parts (.agg #[.pointer (some ⟨7,96,none⟩),.pointer (some a),.int .u64 150])).run Tryz.prog w=.ok (some (96,a,150)) w:=by kernel_rfl
theorem En.isNilP (a p:Addr) (W:World) (ha:W.cell? a=some (.pointer (some p))) :
  (ReflectliteValue.method (ReflectliteValue.valueError "reflectlite.Value.IsNil" 0) ReflectliteValue.isNil #[.agg #[.pointer (some ⟨7, 96, none⟩), .pointer (some a), .int .u64 150]]).run Tryz.prog W = .ok (.bool false) W := by
 show Sem.run Tryz.prog (ReflectliteValue.parts (.agg #[.pointer (some ⟨7,96,none⟩),.pointer (some a),.int .u64 150]) >>= _) W=_
 simp only[Sem.run_bind,En.partsP,Result.andThen]
 simp[ReflectliteValue.isNil,loadVar,isAgg,underlying,Tryz.underlying96,ha,Result.andThen]
theorem En.elemP (w:World):(ReflectliteType.method ReflectliteType.elem #[.agg #[.pointer (some ⟨7,96,none⟩)]]).run Tryz.prog w=.ok (.iface 193 (.agg #[.pointer (some ⟨7,26,none⟩)])) w:=by kernel_rfl
theorem En.implementsE (w : World) : (ReflectliteType.relation "Implements" ReflectliteType.implements_ #[.agg #[.pointer (some ⟨7, 26, none⟩)], .iface 193 (.agg #[.pointer (some ⟨7, 36, none⟩)])]).run Tryz.prog w = .ok (.bool true) w := by kernel_rfl
theorem En.typeOfE (v:Value) (w:World):(ReflectliteType.typeOf #[.iface 26 v]).run Tryz.prog w=.ok (.iface 193 (.agg #[.pointer (some ⟨7,26,none⟩)])) w:=by kernel_rfl
theorem En.assignableE (w : World) : (ReflectliteType.relation "AssignableTo" ReflectliteType.assignableTo #[.agg #[.pointer (some ⟨7, 26, none⟩)], .iface 193 (.agg #[.pointer (some ⟨7, 26, none⟩)])]).run Tryz.prog w = .ok (.bool true) w := by kernel_rfl
theorem En.valueOfE (z:Int) (w:World):(ReflectliteValue.unpack (.iface 26 (.int .i64 z))).run Tryz.prog w
  = .ok (.agg #[.pointer (some ⟨7,26,none⟩),.pointer (some ⟨w.heap.size,0,none⟩),.int .u64 130]) (w.alloc (.cells #[.int .i64 z] 26)):=by kernel_rfl
theorem En.elemOfP (w:World):(Rtype.elem? 96).run Tryz.prog w=.ok (some 26) w:=by kernel_rfl
theorem En.mkE (p:Addr) (w:World):(ReflectliteValue.mk 26 p ReflectliteValue.flagAddr).run Tryz.prog w=.ok (.agg #[.pointer (some ⟨7,26,none⟩),.pointer (some p),.int .u64 386]) w:=by kernel_rfl
theorem En.elemVP (a p:Addr) (W:World) (ha:W.cell? a=some (.pointer (some p))) :
  (ReflectliteValue.method (ReflectliteValue.valueError "reflectlite.Value.Elem" 0) ReflectliteValue.elem #[.agg #[.pointer (some ⟨7, 96, none⟩), .pointer (some a), .int .u64 150]]).run Tryz.prog W
   = .ok (.agg #[.pointer (some ⟨7,26,none⟩),.pointer (some p),.int .u64 386]) W:=by
 show Sem.run Tryz.prog (ReflectliteValue.parts (.agg #[.pointer (some ⟨7,96,none⟩),.pointer (some a),.int .u64 150]) >>= _) W=_
 simp only[Sem.run_bind,En.partsP,Result.andThen]
 simp[ReflectliteValue.elem,loadVar,isAgg,underlying,Tryz.underlying96,ha,Result.andThen,En.elemOfP,En.mkE]
theorem En.partsEa (a:Addr) (w:World):(ReflectliteValue.parts (.agg #[.pointer (some ⟨7,26,none⟩),.pointer (some a),.int .u64 386])).run Tryz.prog w=.ok (some (26,a,386)) w:=by kernel_rfl
theorem En.partsE (a:Addr) (w:World):(ReflectliteValue.parts (.agg #[.pointer (some ⟨7,26,none⟩),.pointer (some a),.int .u64 130])).run Tryz.prog w=.ok (some (26,a,130)) w:=by kernel_rfl
theorem En.directE (w:World):(Rtype.directlyAssignable 26 26).run Tryz.prog w=.ok true w:=by kernel_rfl
theorem En.setE (ta b:Addr) (z:Int) (old:Value) (W:World) (hb:W.cell? b=some (.int .i64 z)) (ht:W.cell? ta=some old) (hf:W.frozen? ta=false) :
  (ReflectliteValue.set #[.agg #[.pointer (some ⟨7,26,none⟩),.pointer (some ta),.int .u64 386],.agg #[.pointer (some ⟨7,26,none⟩),.pointer (some b),.int .u64 130]]).run Tryz.prog W
   = .ok (.tuple #[]) (W.setCell ta (.int .i64 z)):=by
 show Sem.run Tryz.prog (ReflectliteValue.parts (.agg #[.pointer (some ⟨7,26,none⟩),.pointer (some ta),.int .u64 386]) >>= fun p=>ReflectliteValue.parts (.agg #[.pointer (some ⟨7,26,none⟩),.pointer (some b),.int .u64 130]) >>= fun q=>_) W=_
 simp only[Sem.run_bind,En.partsEa,En.partsE,Result.andThen]
 simp[ReflectliteValue.flagAddr,loadVar,isAgg,underlying,Tryz.underlying26,hb,Result.andThen,En.directE,storeVar,Value.cells,storeCells,Addr.add]
 rw[run_store Tryz.prog W ta _ _ (by rfl)]
 simp[ht,hf]
theorem En.as_hit (z:Int) (t:Addr) (old:Value) (w:World) (hg:w.cell? ⟨0,0,none⟩=some (.iface 193 (.agg #[.pointer (some ⟨7,36,none⟩)]))) (ht0:w.cell? t=some old) (hf0:w.frozen? t=false) :
  Calls Tryz.prog 45 #[.iface 26 (.int .i64 z),.iface 96 (.pointer (some t))] w fun ev w'=>ev=.returned (.bool true)∧w'=((((w.alloc (.cells #[.pointer (some t)] 96)).alloc (.cells #[.pointer (some ⟨7,96,none⟩),.pointer (some ⟨w.heap.size,0,none⟩),.int .u64 150] 146)).alloc (.cells #[.pointer (some ⟨7,96,none⟩),.pointer (some ⟨w.heap.size,0,none⟩),.int .u64 150] 146)).alloc (.cells #[.int .i64 z] 26)).setCell t (.int .i64 z):=by
 have h6:=@run_callFunc_extern Tryz.prog 89 _ (fun args=>ReflectliteValue.unpack (args.getD 0 (.tuple #[]))) Tryz.func89 (by kernel_rfl) (by kernel_rfl) (by kernel_rfl) (by kernel_rfl)
 have h7 := @run_callFunc_extern Tryz.prog 90 _ (ReflectliteValue.methodAny (ReflectliteValue.valueError "reflectlite.Value.Type" 0) (fun t _ _ _ => ReflectliteType.toType t)) Tryz.func90 (by kernel_rfl) (by kernel_rfl) (by kernel_rfl) (by kernel_rfl)
 have h8 := @run_callFunc_extern Tryz.prog 91 _ (ReflectliteValue.method (ReflectliteValue.valueError "reflectlite.Value.IsNil" 0) ReflectliteValue.isNil) Tryz.func91 (by kernel_rfl) (by kernel_rfl) (by kernel_rfl) (by kernel_rfl)
 have h27:=@run_callFunc_extern Tryz.prog 329 _ (ReflectliteType.abiMethod fun t=>do pure (.int .u8 (← Rtype.kind t))) Tryz.func329 (by kernel_rfl) (by kernel_rfl) (by kernel_rfl) (by kernel_rfl)
 have h37:=@run_callFunc_extern Tryz.prog 342 _ (ReflectliteType.method ReflectliteType.elem) Tryz.func342 (by kernel_rfl) (by kernel_rfl) (by kernel_rfl) (by kernel_rfl)
 have h38 := @run_callFunc_extern Tryz.prog 343 _ (ReflectliteType.relation "Implements" ReflectliteType.implements_) Tryz.func343 (by kernel_rfl) (by kernel_rfl) (by kernel_rfl) (by kernel_rfl)
 have h10:=@run_callFunc_extern Tryz.prog 143 _ ReflectliteType.typeOf Tryz.func143 (by kernel_rfl) (by kernel_rfl) (by kernel_rfl) (by kernel_rfl)
 have h35 := @run_callFunc_extern Tryz.prog 340 _ (ReflectliteType.relation "AssignableTo" ReflectliteType.assignableTo) Tryz.func340 (by kernel_rfl) (by kernel_rfl) (by kernel_rfl) (by kernel_rfl)
 have h11 := @run_callFunc_extern Tryz.prog 144 _ (ReflectliteValue.method (ReflectliteValue.valueError "reflectlite.Value.Elem" 0) ReflectliteValue.elem) Tryz.func144 (by kernel_rfl) (by kernel_rfl) (by kernel_rfl) (by kernel_rfl)
 have h12:=@run_callFunc_extern Tryz.prog 145 _ ReflectliteValue.set Tryz.func145 (by kernel_rfl) (by kernel_rfl) (by kernel_rfl) (by kernel_rfl)
 have tO:=En.typeOfE
 have mA:=mAssignableTo
 have a25:=En.assignableE
 have v25:=En.valueOfE
 have f6:=En.valueOfP
 have f7:=En.typeP
 have mK:=mKind
 have mE:=mElem
 have mI:=mImplements
 have k27:=En.kindP
 have k25:=En.kindE
 have e27:=En.elemP
 have i25:=En.implementsE
 have n8:=En.isNilP ⟨w.heap.size,0,none⟩ t ((w.alloc (.cells #[.pointer (some t)] 96)).alloc (.cells #[.pointer (some ⟨7,96,none⟩),.pointer (some ⟨w.heap.size,0,none⟩),.int .u64 150] 146)) (by simp)
 have hlt:0<w.heap.size:=by
  rcases Nat.lt_or_ge 0 w.heap.size with h | h
  ·exact h
  ·simp[World.cell?,Array.getElem?_eq_none h] at hg
 have hg2:((w.alloc (.cells #[.pointer (some t)] 96)).alloc (.cells #[.pointer (some ⟨7,96,none⟩),.pointer (some ⟨w.heap.size,0,none⟩),.int .u64 150] 146)).cell? ⟨0,0,none⟩=some (.iface 193 (.agg #[.pointer (some ⟨7,36,none⟩)])):=by
  rw[World.cell?_alloc_lt _ _ ⟨0,0,none⟩ (by simp<;>omega),World.cell?_alloc_lt _ _ ⟨0,0,none⟩ hlt];exact hg
 have htl:t.block<w.heap.size:=by
  rcases Nat.lt_or_ge t.block w.heap.size with h | h
  ·exact h
  ·simp[World.cell?,Array.getElem?_eq_none h] at ht0
 have el:=En.elemVP ⟨w.heap.size,0,none⟩ t (((w.alloc (.cells #[.pointer (some t)] 96)).alloc (.cells #[.pointer (some ⟨7,96,none⟩),.pointer (some ⟨w.heap.size,0,none⟩),.int .u64 150] 146)).alloc (.cells #[.pointer (some ⟨7,96,none⟩),.pointer (some ⟨w.heap.size,0,none⟩),.int .u64 150] 146)) (by rw[World.cell?_alloc_lt _ _ ⟨w.heap.size,0,none⟩ (by simp;omega)];simp)
 have st:=En.setE t ⟨w.heap.size+1+1+1,0,none⟩ z old ((((w.alloc (.cells #[.pointer (some t)] 96)).alloc (.cells #[.pointer (some ⟨7,96,none⟩),.pointer (some ⟨w.heap.size,0,none⟩),.int .u64 150] 146)).alloc (.cells #[.pointer (some ⟨7,96,none⟩),.pointer (some ⟨w.heap.size,0,none⟩),.int .u64 150] 146)).alloc (.cells #[.int .i64 z] 26))
  (by rw[World.cell?_alloc_at _ _ _ _ (by simp)];rfl)
  (by rw[World.cell?_alloc_lt _ _ t (by simp;omega),World.cell?_alloc_lt _ _ t (by simp;omega),World.cell?_alloc_lt _ _ t (by simp;omega),World.cell?_alloc_lt _ _ t htl];exact ht0)
  (by rw[World.frozen?_alloc_old _ _ t (by simp;omega),World.frozen?_alloc_old _ _ t (by simp;omega),World.frozen?_alloc_old _ _ t (by simp;omega),World.frozen?_alloc_old _ _ t (Nat.ne_of_lt htl)];exact hf0)
 go_enter Tryz.func45,Tryz.ntmps45
 go_wp2
 refine wp_loop_rounds 1 ?_
 rw[rounds_succ]
 go_wp2
 go_ret
 exact⟨rfl,rfl⟩
end Go.Proofs.YtgiojkhmkeocfaaGreatDoor.Es

/- The law's Seen, walked: which fault an error is. -/
namespace Go.Proofs.YtgiojkhmkeocfaaGreatDoor
open Go.RowKit
def ErrT (w:World):Prop:=w.cell? ⟨0,0,none⟩=some (.iface 193 (.agg #[.pointer (some ⟨7,36,none⟩)]))
theorem ErrT.lt {w:World} (h:ErrT w):0<w.heap.size:=World.block_lt_of_cell? w _ h
theorem ErrT.low {w u:World} {N:Nat} (h:ErrT w) (hb:Below N w u) (hN:w.heap.size≤N):ErrT u:=(World.cell?_of_block (w:=w) (hb.block _ (Nat.lt_of_lt_of_le h.lt hN))).trans h
theorem grown_alc {w u:World} {r:Option Nat} (h:w.grownBy u r) (o:Obj):w.grownBy (u.alloc o) r:=grown_two h (World.grownBy_alloc u o r)
theorem as_fault (g b:Nat) (old:Value) (w:World) (hE:ErrT w) (hb:w.heap[b]?=some (.cells #[old] 86)) :
  Calls Tryz.prog 45 #[.iface 86 (.pointer (some ⟨g,0,none⟩)),.iface 95 (.pointer (some ⟨b,0,none⟩))] w fun e w'=>e=.returned (.bool true)∧w'.heap[b]?=some (.cells #[.pointer (some ⟨g,0,none⟩)] 86)∧w.grownBy w' (some b):=by
 refine (Es.Ef.as_hit ⟨g,0,none⟩ ⟨b,0,none⟩ old w hE (by rw[Lib.cell_of_heap hb];rfl) (Lib.frozen_of_heap hb 0)).mono ?_
 rintro e w' ⟨rfl,rfl⟩
 have hl:=(Array.getElem?_eq_some_iff.1 hb).1
 refine⟨rfl,?_,grown_two (grown_alc (grown_alc (grown_alc (World.grownBy_alloc w _ _) _) _) _) (grown_set _ b 0 _)⟩
 refine (heap_setCell_same _ b 0 #[old] _ _ ?_).trans rfl
 rw[Lib.alloc_old _ _ _ (by simp;omega),Lib.alloc_old _ _ _ (by simp;omega),Lib.alloc_old _ _ _ (by simp;omega),Lib.alloc_old _ _ _ hl]
 exact hb
theorem as_errno (z:Int) (b:Nat) (old:Value) (w:World) (hE:ErrT w) (hb:w.heap[b]?=some (.cells #[old] 26)) :
  Calls Tryz.prog 45 #[.iface 26 (.int .i64 z),.iface 96 (.pointer (some ⟨b,0,none⟩))] w fun e w'=>e=.returned (.bool true)∧w'.heap[b]?=some (.cells #[.int .i64 z] 26)∧w.grownBy w' (some b):=by
 refine (Es.En.as_hit z ⟨b,0,none⟩ old w hE (by rw[Lib.cell_of_heap hb];rfl) (Lib.frozen_of_heap hb 0)).mono ?_
 rintro e w' ⟨rfl,rfl⟩
 have hl:=(Array.getElem?_eq_some_iff.1 hb).1
 refine⟨rfl,?_,grown_two (grown_alc (grown_alc (grown_alc (World.grownBy_alloc w _ _) _) _) _) (grown_set _ b 0 _)⟩
 refine (heap_setCell_same _ b 0 #[old] _ _ ?_).trans rfl
 rw[Lib.alloc_old _ _ _ (by simp;omega),Lib.alloc_old _ _ _ (by simp;omega),Lib.alloc_old _ _ _ (by simp;omega),Lib.alloc_old _ _ _ hl]
 exact hb
def fvO (a z:Int):Obj:=.cells #[.int .i64 a,.int .i64 z] 42
theorem seen_flt (g:Nat) (a z:Int) (w:World) (hE:ErrT w) (hg:w.heap[g]?=some (fltO a z)):Calls Tryz.prog 17 #[.iface 86 (.pointer (some ⟨g,0,none⟩))] w fun e w'=>e=.returned (.agg #[.int .i64 a,.int .i64 z])∧Below w.heap.size w w':=by
 have hgl:=(Array.getElem?_eq_some_iff.1 hg).1
 have z1:(w.alloc (fvO 0 0)).heap.size=w.heap.size+1:=by simp
 have z2:((w.alloc (fvO 0 0)).alloc (.cells #[.pointer none] 86)).heap.size=w.heap.size+1+1:=by simp
 have a0:=heap_alloc_new w (fvO 0 0)
 have a1:=heap_alloc_new (w.alloc (fvO 0 0)) (.cells #[.pointer none] 86)
 have a2:=heap_alloc_new ((w.alloc (fvO 0 0)).alloc (.cells #[.pointer none] 86)) (.cells #[.int .i64 0] 26)
 rw[z1] at a1
 rw[z2] at a2
 have hb1:Below w.heap.size w (w.alloc (fvO 0 0)):=(Below.refl _ w).alloc (Nat.le_refl _) _
 have hb2:=hb1.alloc hb1.size (.cells #[.pointer none] 86)
 have hb3:=hb2.alloc hb2.size (.cells #[.int .i64 0] 26)
 have e1:=(Lib.alloc_old _ (.cells #[.int .i64 0] 26) _ (by rw[z2];omega)).trans a1
 have e0:=(Lib.alloc_old _ (.cells #[.int .i64 0] 26) _ (by rw[z2];omega)).trans ((Lib.alloc_old _ (.cells #[.pointer none] 86) _ (by rw[z1];omega)).trans a0)
 have hg3:=(hb3.block g hgl).trans hg
 have hE3:=hE.low hb3 (Nat.le_refl _)
 have hW:((w.alloc (.cells #[.int .i64 0,.int .i64 0] 42)).alloc (.cells #[.pointer none] 86)).alloc (.cells #[.int .i64 0] 26)=((w.alloc (fvO 0 0)).alloc (.cells #[.pointer none] 86)).alloc (.cells #[.int .i64 0] 26):=rfl
 have hEl:0<w.heap.size:=hE.lt
 clear hb1 hb2 a0 a1 z1 z2 hE hg
 go_enter Tryz.func17,Tryz.ntmps17
 go_wp2_with fail
 clear hW
 generalize ((w.alloc (fvO 0 0)).alloc (.cells #[.pointer none] 86)).alloc (.cells #[.int .i64 0] 26)=W at *
 refine (as_fault g (w.heap.size+1) (.pointer none) W hE3 e1).mono ?_
 rintro e W1 ⟨rfl,e1',hgr⟩
 have kp:∀ (k:Nat) (x:Obj),k≠w.heap.size+1→W.heap[k]?=some x→W1.heap[k]?=some x:=fun k x hk hx=>(hgr.block k (Array.getElem?_eq_some_iff.1 hx).1 (fun e=>hk (Option.some.inj e))).trans hx
 have i0:=kp _ _ (by omega) e0
 have i2:=kp _ _ (by omega) a2
 have ig:=kp _ _ (by omega) hg3
 have hb4:=hb3.grown hgr hb3.size (fun k e=>by cases e;omega)
 have hE4:ErrT W1:=(World.cell?_of_block (w:=W) (hgr.block _ hE3.lt (fun e=>by have h1:0=w.heap.size+1:=Option.some.inj e;omega))).trans hE3
 have c1:W1.cell? ⟨w.heap.size+1,0,none⟩=some (.pointer (some ⟨g,0,none⟩)):=by rw[Lib.cell_of_heap e1'];rfl
 have cg1:W1.cell? ⟨g,1,none⟩=some (.iface 26 (.int .i64 z)):=by unfold fltO at ig;rw[Lib.cell_of_heap ig];rfl
 clear kp e0 e1 a2 hg3 hb3 hE3 hgr
 go_wp2_with fail
 clear c1 cg1
 refine (as_errno z (w.heap.size+1+1) (.int .i64 0) W1 hE4 i2).mono ?_
 rintro e W2 ⟨rfl,i2',hgr⟩
 have kp:∀ (k:Nat) (x:Obj),k≠w.heap.size+1+1→W1.heap[k]?=some x→W2.heap[k]?=some x:=fun k x hk hx=>(hgr.block k (Array.getElem?_eq_some_iff.1 hx).1 (fun e=>hk (Option.some.inj e))).trans hx
 have j0:=kp _ _ (by omega) i0
 have j1:=kp _ _ (by omega) e1'
 have jg:=kp _ _ (by omega) ig
 have hb5:=hb4.grown hgr hb4.size (fun k e=>by cases e;omega)
 have s0:=heap_setCell_same W2 w.heap.size 0 _ _ (.int .i64 a) j0
 have s1:=heap_setCell_same _ w.heap.size 1 _ _ (.int .i64 z) s0
 have hb6:Below w.heap.size w ((W2.setCell ⟨w.heap.size,0,none⟩ (.int .i64 a)).setCell ⟨w.heap.size,1,none⟩ (.int .i64 z)):=(hb5.setCell (Nat.le_refl _) _).setCell (Nat.le_refl _) _
 have c1:W2.cell? ⟨w.heap.size+1,0,none⟩=some (.pointer (some ⟨g,0,none⟩)):=by rw[Lib.cell_of_heap j1];rfl
 have c2:W2.cell? ⟨w.heap.size+1+1,0,none⟩=some (.int .i64 z):=by rw[Lib.cell_of_heap i2'];rfl
 have cg0:W2.cell? ⟨g,0,none⟩=some (.int .i64 a):=by unfold fltO at jg;rw[Lib.cell_of_heap jg];rfl
 have t0:W2.cell? ⟨w.heap.size,0,none⟩=some (.int .i64 0):=by unfold fvO at j0;rw[Lib.cell_of_heap j0];rfl
 have t1:W2.cell? ⟨w.heap.size,1,none⟩=some (.int .i64 0):=by unfold fvO at j0;rw[Lib.cell_of_heap j0];rfl
 have t2:=Lib.frozen_of_heap j0 0
 have t3:=Lib.frozen_of_heap j0 1
 clear kp i0 e1' ig hb4 hE4 i2 i2' hgr j0 j1 jg hb5 s0
 go_wp2_with fail
 go_region
 have s2:((W2.setCell ⟨w.heap.size,0,none⟩ (.int .i64 a)).setCell ⟨w.heap.size,1,none⟩ (.int .i64 z)).drew.heap[w.heap.size]?=some (.cells #[.int .i64 a,.int .i64 z] 42):=s1
 have hb7:=hb6.drew
 clear s1 hb6 c1 c2 cg0 t0 t1 t2 t3
 generalize ((W2.setCell ⟨w.heap.size,0,none⟩ (.int .i64 a)).setCell ⟨w.heap.size,1,none⟩ (.int .i64 z)).drew=W3 at *
 go_wp2
 exact bodyPost_ret (v:=.agg #[.int .i64 a,.int .i64 z]) (results_cell_row rfl _ _ w.heap.size 42 #[.int .i64 a,.int .i64 z] (0,0) _ rfl s2 Tryz.underlying42 rfl (by kernel_rfl)) rfl ⟨rfl,hb7⟩
end Go.Proofs.YtgiojkhmkeocfaaGreatDoor
