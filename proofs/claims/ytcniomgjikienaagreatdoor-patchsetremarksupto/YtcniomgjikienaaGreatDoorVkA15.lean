/-
  Texts that belong together, joined: UkP, EfJo, QsE, QsF, QsG, CpW, CpY, CpZ, PgV, QsH, UpA, UpB, UpC, UpW, UpY, UpZ, PsM7, QsI, PatchsetStripsW.
-/
import Derived.Test.YtcniomgjikienaaGreatDoorVkA14
import Derived.Lib.AppendStr

set_option maxHeartbeats 16000000
set_option maxRecDepth 100000
namespace Go.Proofs.YtcniomgjikienaaGreatDoor

section
open Go.RowKit
open Ln
theorem Mxl.lt {w:World} (h:Mxl w):1<w.heap.size:=by
 obtain⟨m,h⟩:=h
 exact block_lt_of_cell h
theorem Zbg (p q:Addr) (w:World) :
  CallsD Tryz.prog 169 #[.pointer (some p),.pointer (some q)] .returning w fun e u' w'=>e=.returned (.tuple #[])∧u'=.returning∧w'=w:=by
 refine callsD_of_wpS Tryz.func169 rfl fun c₀ cs hu=>?_
 apply wpS_seq
 apply wpS_region
 simp[wpOpsS,go_sem,recoverD,hu,Tryz.ntmps169,Exit.thenS]
 apply wpS_seq
 apply wpS_region
 simp[wpOpsS,go_sem,Exit.thenS]
 refine wpS_cond (t:=false) (by simp[Act.eval,Array.replicate]) ?_
 simp only[Bool.false_eq_true,if_false]
 refine wpS_of_wp (wp_skip ?_)
 cases c₀
 simp_all [bodyPostS,results,Tryz.results169]
theorem Zbd (F0 F1 g:Nat) (v0 v1:Value) (older:List PanicEntry) (w:World) (h01:F0≠F1) (c0:w.cell? ⟨F0,0,none⟩=some v0) (f0:w.frozen? ⟨F0,0,none⟩=false) (c1:w.cell? ⟨F1,0,none⟩=some v1) (f1:w.frozen? ⟨F1,0,none⟩=false) :
  CallsD Tryz.prog 169 #[.pointer (some ⟨F0,0,none⟩),.pointer (some ⟨F1,0,none⟩)] (.panicking ({ v:=.iface 62 (.pointer (some ⟨g,0,none⟩)),recovered:=false }::older)) w fun e u' w'=>e=.returned (.tuple #[])∧u'=.panicking ({ v:=.iface 62 (.pointer (some ⟨g,0,none⟩)),recovered:=true }::older)∧w'=((w.setCell ⟨F0,0,none⟩ (.slice none 0 0)).setCell ⟨F1,0,none⟩ (.iface 62 (.pointer (some ⟨g,0,none⟩)))).drew:=by
 refine callsD_of_wpS Tryz.func169 rfl fun c₀ cs hu=>?_
 apply wpS_seq
 apply wpS_region
 simp[wpOpsS,go_sem,recoverD,hu,Tryz.ntmps169,Exit.thenS]
 apply wpS_seq
 apply wpS_region
 simp[wpOpsS,go_sem,Exit.thenS]
 refine wpS_cond (t:=true) (by simp[Act.eval,Array.replicate]) ?_
 simp only[if_true]
 refine wpS_of_wp ?_
 have hta:∀ (v:Value) (u:World),(Instr.typeAssert (.iface 62 v) 20 62 false).run Tryz.prog u=.ok v u:=fun _ _=>by kernel_rfl
 generalize hA:({ tmps:=_,defers:=[] }:Act)=A
 have hA2:A={ tmps:=#[.pointer (some ⟨F0,0,none⟩),.pointer (some ⟨F1,0,none⟩),.iface 62 (.pointer (some ⟨g,0,none⟩)),.iface 62 (.pointer (some ⟨g,0,none⟩)),.iface 62 (.pointer (some ⟨g,0,none⟩)),.bool true,undef,undef,undef],defers:=[] }:=hA.symm.trans rfl
 subst hA2
 clear hA
 go_region
 cases c₀
 simp_all [bodyPostS,results,Tryz.results169]
theorem Zjk (tmps:Array Value) (u:World) (F0 F1 n c:Nat) (o:Option Addr) (v1:Value) (h2:tmps.getD 2 undef=.pointer (some ⟨F0,0,none⟩)) (h3:tmps.getD 3 undef=.pointer (some ⟨F1,0,none⟩)) (c0:u.cell? ⟨F0,0,none⟩=some (.slice o n c)) (c1:u.cell? ⟨F1,0,none⟩=some v1) :
  (results Tryz.f140 tmps).run Tryz.prog u=.ok (.tuple #[.slice o n c,v1]) u:=by
 have hL0:(loadVar 22 ⟨F0,0,none⟩).run Tryz.prog u=.ok (.slice o n c) u:=by
  simp[loadVar,isAgg,underlying,Tryz.underlying22,c0,Result.andThen]
 have hL1:(loadVar 24 ⟨F1,0,none⟩).run Tryz.prog u=.ok v1 u:=by
  simp[loadVar,isAgg,underlying,Tryz.underlying24,c1,Result.andThen]
 have e2:tmps[2]?.getD undef=.pointer (some ⟨F0,0,none⟩):=by rw[← h2];simp
 have e3:tmps[3]?.getD undef=.pointer (some ⟨F1,0,none⟩):=by rw[← h3];simp
 simp[results,Tryz.results140,e2,e3,asAddr,hL0,hL1,Result.andThen]
structure RdU (w:World) (R:Nat) (L:List (List UInt8)) (vL ov:Value) (F:List Pfd) (p:Nat) (u:World):Prop where
 pw:Pw w ov F u
 f0:u.heap[w.heap.size]?=some (.cells #[ov] 22)
 f1:u.heap[w.heap.size+1]?=some (.cells #[.nilIface] 24)
 ck:Uk u R vL (p:Int)
 rl:w.heap.size+1<R
 ln:u.ownsRow w.heap.size 9 1 vL L.length (scells L)
section
variable {w u u':World} {R:Nat} {L:List (List UInt8)} {vL ov:Value} {F:List Pfd} {p p':Nat}
theorem RdU.c0 (h:RdU w R L vL ov F p u):u.cell? ⟨w.heap.size,0,none⟩=some ov:=by rw[Lib.cell_of_heap h.f0];rfl
theorem RdU.keep (h:RdU w R L vL ov F p u) (hb:Below u.heap.size u u'):RdU w R L vL ov F p u':=⟨⟨h.pw.low.trans (hb.mono h.pw.low.size),ZhK h.pw.own hb,fun f hf=>(h.pw.ins f hf).keep hb⟩,(hb.block _ (Array.getElem?_eq_some_iff.1 h.f0).1).trans h.f0,(hb.block _ (Array.getElem?_eq_some_iff.1 h.f1).1).trans h.f1,h.ck.low hb,h.rl,ZhK h.ln hb⟩
theorem RdU.call (h:RdU w R L vL ov F p u) (hg:u.grownBy u' (some R)) (q:Uk u' R vL (p':Int)):RdU w R L vL ov F p' u':=by
 have hk:∀ k x,k≠R→u.heap[k]?=some x→u'.heap[k]?=some x:=fun k _ hk hx=>(hg.block k (Array.getElem?_eq_some_iff.1 hx).1 (fun e=>hk (Option.some.inj e))).trans hx
 have hb:u.heap[R]?=some (.cells #[vL,.int .i64 (p:Int)] 229):=h.ck
 have hr:=h.rl
 exact⟨⟨h.pw.low.grown hg h.pw.low.size (fun k e=>by cases e;omega),h.pw.own.kept hg (.inr (ZhE h.pw.own hb (by decide))),fun f hf=>(h.pw.ins f hf).box hb (by decide) (by decide) hg⟩,hk _ _ (by omega) h.f0,hk _ _ (by omega) h.f1,q,h.rl,h.ln.kept hg (.inr (ZhE h.ln hb (by decide)))⟩
theorem RdU.lines (h:RdU w R L vL ov F p u) (hg:u.grownBy u' (some R)):HS u' vL L:=by
 have hb:u.heap[R]?=some (.cells #[vL,.int .i64 (p:Int)] 229):=h.ck
 exact Zeo (h.ln.kept hg (.inr (ZhE h.ln hb (by decide))))
theorem RdU.more (h:RdU w R L vL ov F p u) {f:Pfd} {ov':Value} (hy:Pown w.heap.size u f) (hg:u.grownBy u' ov.ownBlock) (ho:u'.ownsRow w.heap.size 42 3 ov' (F.length+1) (pxcells F++pxC f)) :
  RdU w R L vL ov' (F++[f]) p (u'.setCell ⟨w.heap.size,0,none⟩ ov')∧u'.cell? ⟨w.heap.size,0,none⟩=some ov∧u'.frozen? ⟨w.heap.size,0,none⟩=false:=by
 have hk:∀ (k:Nat) (cs:Array Value) (t:TypeId) (fr:Nat × Nat),t≠42→u.heap[k]?=some (Obj.cells cs t fr)→u'.heap[k]?=some (Obj.cells cs t fr):=fun k cs t fr ht hx=>(hg.block k (Array.getElem?_eq_some_iff.1 hx).1 (fun e=>ZhE h.pw.own hx ht.symm e.symm)).trans hx
 have f0:=hk _ _ _ _ (by decide) h.f0
 have f1:=hk _ _ _ _ (by decide) h.f1
 have ck:Uk u' R vL (p:Int):=hk _ _ _ _ (by decide) h.ck
 have hg2:=ZdS u' w.heap.size 0 ov'
 have hin:∀ g,Pown w.heap.size u g→Pown w.heap.size u' g:=fun g hp=>⟨hp.eq,ZjA hp.own h.pw.own (by decide) hg,fun y hy=>ZjA (hp.ins y hy) h.pw.own (by decide) hg⟩
 have hlow:=h.pw.low.grown hg h.pw.low.size (fun k e=>ZhJ h.pw.own e)
 have hr:=h.rl
 refine⟨⟨⟨hlow.setCell (Nat.le_refl _) _,?_,?_⟩,heap_setCell_same u' _ 0 _ _ ov' f0,(Below.heap_setCell _ _ _ _ (by simp)).trans f1,ck.keep hg2 (fun e=>by have:=Option.some.inj e;omega),h.rl,(ZjA h.ln h.pw.own (by decide) hg).kept hg2 (.inr (ZhE (ZjA h.ln h.pw.own (by decide) hg) f0 (by decide)))⟩,by rw[Lib.cell_of_heap f0];rfl,Lib.frozen_of_heap f0 0⟩
 ·have e1:pxcells (F++[f])=pxcells F++pxC f:=by simp[pxcells]
  rw[List.length_append,e1]
  exact ho.kept hg2 (.inr (ZhE ho f0 (by decide)))
 ·intro g hgm
  have hP:Pown w.heap.size u' g:=by
   rcases List.mem_append.1 hgm with hm | hm
   ·exact hin g (h.pw.ins g hm)
   ·rw[List.mem_singleton.1 hm];exact hin f hy
  exact hP.box f0 (by decide) (by decide) hg2
end
theorem Zie {k p:Nat} {L r:List (List UInt8)} {x:Pth} {p1:Nat} (h:patU k p (L.drop p)=.ok (x,p1,r)):k<64:=by
 unfold patU at h
 cases hn:namP [45,45,45,32] p (L.drop p) with
 | error e=>rw[hn] at h;cases h
 | ok z =>
  rw[hn] at h
  dsimp only at h
  split at h
  ·cases h
  ·omega
theorem Zlk (f:Nat):∀ {k p:Nat} {L r:List (List UInt8)} {hs:List Hk} {p1:Nat},Plain L→uhsP atC f k p (L.drop p)=.ok (hs,p1,r)→r=L.drop p1∧p<p1∧p1≤L.length:=by
 induction f with
 | zero =>
  intro k p L r hs p1 _ h
  simp only[uhsP] at h
  cases h
 | succ f ih =>
  intro k p L r hs p1 hk h
  simp only[uhsP] at h
  cases hh:uhkP k p (L.drop p) with
  | error e=>rw[hh] at h;cases h
  | ok z =>
   obtain⟨x,p2,r2⟩:=z
   obtain⟨rfl,b2,b3,b4⟩:=Zlh hk hh
   rw[hh] at h
   dsimp only at h
   split at h
   ·cases h2:uhsP atC f (k+1) p2 (L.drop p2) with
    | error e=>rw[h2] at h;cases h
    | ok z =>
     obtain⟨l,p3,r3⟩:=z
     rw[h2] at h
     injection h with h
     injection h with e1 e2
     injection e2 with e2 e3
     subst e2 e3
     obtain⟨c1,c2,c3⟩:=ih hk h2
     exact⟨c1,by omega,c3⟩
   ·injection h with h
    injection h with e1 e2
    injection e2 with e2 e3
    subst e2 e3
    exact⟨rfl,b2,b3⟩
theorem ZlG {k p:Nat} {L r:List (List UInt8)} {x:Pth} {p1:Nat} (hP:Plain L) (h:patU k p (L.drop p)=.ok (x,p1,r)):r=L.drop p1∧p<p1∧p1≤L.length∧k<64:=by
 have hk:=Zie h
 unfold patU at h
 cases hn:namP [45,45,45,32] p (L.drop p) with
 | error e=>rw[hn] at h;cases h
 | ok z =>
  obtain⟨n1,r1⟩:=z
  obtain⟨rfl,b1⟩:=ZgG hn
  rw[hn] at h
  dsimp only at h
  rw[if_neg (by omega)] at h
  cases hn2:namP [43,43,43,32] (p+1) (L.drop (p+1)) with
  | error e=>rw[hn2] at h;cases h
  | ok z =>
   obtain⟨n2,r2⟩:=z
   obtain⟨rfl,b2⟩:=ZgG hn2
   rw[hn2] at h
   dsimp only at h
   cases hh:uhsP atC ((L.drop (p+1+1)).length+1) 0 (p+2) (L.drop (p+1+1)) with
   | error e=>rw[hh] at h;cases h
   | ok z =>
    obtain⟨hs,p3,r3⟩:=z
    rw[hh] at h
    injection h with h
    injection h with e1 e2
    injection e2 with e2 e3
    subst e2 e3
    obtain⟨c1,c2,c3⟩:=Zlk _ (L:=L) (p:=p+2) (by omega) hh
    exact⟨c1,by omega,c3,hk⟩
theorem ZlI {w:World} {X:Except (Nat × Int) (List Pth)}:∀ c (a:Act) u,PnP w X c u→a.tmps.getD 2 undef=.pointer (some ⟨w.heap.size,0,none⟩)→a.tmps.getD 3 undef=.pointer (some ⟨w.heap.size+1,0,none⟩)→a.defers=[{ target:=.fn (.func 169) #[.pointer (some ⟨w.heap.size,0,none⟩),.pointer (some ⟨w.heap.size+1,0,none⟩)],args:=#[] }]→bodyPostD Tryz.prog Tryz.f140 (fun e w'=>PrQ w X e w') (.panic c) a u:=by
 rintro c a u ⟨g,pa,z,v0,rfl,hg,rfl,hlow,f0,f1⟩ h2 h3 hd
 show Leaves Tryz.prog Tryz.f140 a.tmps (fun e w'=>PrQ w (.error (pa,z)) e w') a.defers _ u
 rw[hd]
 have g0:g≠w.heap.size:=(by rintro rfl;rw[f0] at hg;unfold fltO at hg;simp at hg)
 have g1:g≠w.heap.size+1:=(by rintro rfl;rw[f1] at hg;unfold fltO at hg;simp at hg)
 refine leaves_cons (f:=169) (args:=#[.pointer (some ⟨w.heap.size,0,none⟩),.pointer (some ⟨w.heap.size+1,0,none⟩)]) (by simp) (by simp[go_sem]) ?_
 refine (Zbd w.heap.size (w.heap.size+1) g v0 .nilIface [] u (by omega) (by rw[Lib.cell_of_heap f0];rfl) (Lib.frozen_of_heap f0 0) (by rw[Lib.cell_of_heap f1];rfl) (Lib.frozen_of_heap f1 0)).mono ?_
 rintro e u' w'' ⟨rfl,rfl,rfl⟩
 have s0:=heap_setCell_same u w.heap.size 0 _ _ (.slice none 0 0) f0
 have s1:(u.setCell ⟨w.heap.size,0,none⟩ (.slice none 0 0)).heap[w.heap.size+1]?=some (.cells #[.nilIface] 24):=(Below.heap_setCell _ _ _ _ (by simp)).trans f1
 have s2:=heap_setCell_same _ (w.heap.size+1) 0 _ _ (.iface 62 (.pointer (some ⟨g,0,none⟩))) s1
 have s3:((u.setCell ⟨w.heap.size,0,none⟩ (.slice none 0 0)).setCell ⟨w.heap.size+1,0,none⟩ (.iface 62 (.pointer (some ⟨g,0,none⟩)))).heap[w.heap.size]?=some (.cells #[.slice none 0 0] 22):=(Below.heap_setCell _ _ _ _ (by simp)).trans s0
 have s4:((u.setCell ⟨w.heap.size,0,none⟩ (.slice none 0 0)).setCell ⟨w.heap.size+1,0,none⟩ (.iface 62 (.pointer (some ⟨g,0,none⟩)))).heap[g]?=some (fltO (pa:Int) z):=((Below.heap_setCell _ _ _ _ (by simpa using g1)).trans (Below.heap_setCell _ _ _ _ (by simpa using g0))).trans hg
 have hl:Below w.heap.size w ((u.setCell ⟨w.heap.size,0,none⟩ (.slice none 0 0)).setCell ⟨w.heap.size+1,0,none⟩ (.iface 62 (.pointer (some ⟨g,0,none⟩)))).drew:=((hlow.setCell (Nat.le_refl _) _).setCell (by show w.heap.size≤w.heap.size+1;omega) _).drew
 generalize (u.setCell ⟨w.heap.size,0,none⟩ (.slice none 0 0)).setCell ⟨w.heap.size+1,0,none⟩ (.iface 62 (.pointer (some ⟨g,0,none⟩)))=W at *
 exact⟨_,Zjk a.tmps W.drew w.heap.size (w.heap.size+1) 0 0 none _ h2 h3 (by rw[Lib.cell_of_heap (w:=W.drew) s3];rfl) (by rw[Lib.cell_of_heap (w:=W.drew) s2];rfl),g,rfl,s4,hl⟩
theorem ZkZ (t:List UInt8) (w:World) (X:Except (Nat × Int) (List Pth)) (HX:Hid (unT atC t=X)) (hl:t.length≤1099511627776) (hmx:Mxl w) :
  Calls Tryz.prog 140 #[.string ⟨t.toArray⟩] w fun e w'=>PrQ w X e w':=by
 have hmf:∀ (fn:Fn) (first cap:Array Value) (w:World),(Instr.makeFunc fn first cap).run Tryz.prog w=.ok (.func fn first cap) w:=fun _ _ _ _=>rfl
 have HX2:=HX.out
 unfold unT at HX2
 clear HX
 by_cases hlong:1048576<t.length
 ·rw[if_pos hlong] at HX2
  have hXe:=HX2.symm
  subst hXe
  clear HX2
  have hbig:(1048576:Int)<(t.length:Int):=by omega
  go_enter_defers Tryz.func140,Tryz.ntmps140
  have z1:(w.alloc (.cells #[.slice none 0 0] 22)).heap.size=w.heap.size+1:=by simp
  have z2:((w.alloc (.cells #[.slice none 0 0] 22)).alloc (.cells #[.iface 62 (.pointer (some ⟨w.heap.size+1+1,0,none⟩))] 24)).heap.size=w.heap.size+1+1:=by simp
  have a1:=heap_alloc_new w (.cells #[.slice none 0 0] 22)
  have a2:=heap_alloc_new (w.alloc (.cells #[.slice none 0 0] 22)) (.cells #[.iface 62 (.pointer (some ⟨w.heap.size+1+1,0,none⟩))] 24)
  have a3:=heap_alloc_new ((w.alloc (.cells #[.slice none 0 0] 22)).alloc (.cells #[.iface 62 (.pointer (some ⟨w.heap.size+1+1,0,none⟩))] 24)) (fltO 0 9)
  rw[z1] at a2
  rw[z2] at a3
  have b1:=(Lib.alloc_old _ (fltO 0 9) _ (by rw[z2];omega)).trans ((Lib.alloc_old _ (.cells #[.iface 62 (.pointer (some ⟨w.heap.size+1+1,0,none⟩))] 24) _ (by rw[z1];omega)).trans a1)
  have b2:=(Lib.alloc_old _ (fltO 0 9) _ (by rw[z2];omega)).trans a2
  have hlow:Below w.heap.size w (((w.alloc (.cells #[.slice none 0 0] 22)).alloc (.cells #[.iface 62 (.pointer (some ⟨w.heap.size+1+1,0,none⟩))] 24)).alloc (fltO 0 9)):=(((Below.refl _ w).alloc (Nat.le_refl _) _).alloc (by rw[z1];omega) _).alloc (by rw[z2];omega) _
  have HA:Hid ((((w.alloc (.cells #[.slice none 0 0] 22)).alloc (.cells #[.iface 62 (.pointer (some ⟨w.heap.size+1+1,0,none⟩))] 24)).alloc (fltO 0 9)).cell? ⟨w.heap.size,0,none⟩=some (.slice none 0 0)∧(((w.alloc (.cells #[.slice none 0 0] 22)).alloc (.cells #[.iface 62 (.pointer (some ⟨w.heap.size+1+1,0,none⟩))] 24)).alloc (fltO 0 9)).cell? ⟨w.heap.size+1,0,none⟩=some (.iface 62 (.pointer (some ⟨w.heap.size+1+1,0,none⟩)))):=⟨by rw[Lib.cell_of_heap b1];rfl,by rw[Lib.cell_of_heap b2];rfl⟩
  have HB:Hid ((((w.alloc (.cells #[.slice none 0 0] 22)).alloc (.cells #[.iface 62 (.pointer (some ⟨w.heap.size+1+1,0,none⟩))] 24)).alloc (fltO 0 9)).heap[w.heap.size+1+1]?=some (fltO 0 9)):=a3
  clear a1 a2 a3 b1 b2 z1 z2
  go_wp2
  exact⟨_,Zjk _ _ w.heap.size (w.heap.size+1) 0 0 none (.iface 62 (.pointer (some ⟨w.heap.size+1+1,0,none⟩))) rfl rfl HA.out.1 HA.out.2,w.heap.size+1+1,rfl,HB.out,hlow⟩
 ·rw[if_neg hlong] at HX2
  obtain⟨L,hL⟩:∃ L,splitL t=L:=⟨_,rfl⟩
  rw[hL] at HX2
  have hshort:¬ (1048576:Int)<(t.length:Int):=by omega
  obtain⟨Pn,hPnd⟩:∃ Pn,PnP w X=Pn:=⟨_,rfl⟩
  have HPn:Hid (∀ c (a:Act) u,Pn c u→a.tmps.getD 2 undef=.pointer (some ⟨w.heap.size,0,none⟩)→a.tmps.getD 3 undef=.pointer (some ⟨w.heap.size+1,0,none⟩)→a.defers=[{ target:=.fn (.func 169) #[.pointer (some ⟨w.heap.size,0,none⟩),.pointer (some ⟨w.heap.size+1,0,none⟩)],args:=#[] }]→bodyPostD Tryz.prog Tryz.f140 (fun e w'=>PrQ w X e w') (.panic c) a u):=(by rw[← hPnd];exact ZlI)
  have HPd:Hid (PnP w X=Pn):=hPnd
  clear hPnd
  have hs:=fun u=>ZgE t u hl
  rw[hL] at hs
  have HPl:Hid (Plain L):=(by rw[← hL];exact Zkx t)
  have HSl:Hid (∀ s∈L,s.length≤1099511627):=(by
   intro s hs
   rw[← hL] at hs
   have:=Zkz (M:=1048576) (t:=t) (by omega) s hs
   omega)
  have hLl:L.length≤137438953472:=(by
   rw[← hL]
   have:=split_len t
   omega)
  clear hL
  go_enter_defers Tryz.func140,Tryz.ntmps140
  go_wp2_with fail
  refine (hs _).mono ?_
  rintro e w1 ⟨vL,rfl,hown,hB1⟩
  obtain⟨lo,lc,rfl⟩:=(Zeo hown).form
  obtain⟨wA,hwA⟩:∃ u,(w.alloc (.cells #[.slice none 0 0] 22)).alloc (.cells #[.nilIface] 24)=u:=⟨_,rfl⟩
  have a1:=heap_alloc_new w (.cells #[.slice none 0 0] 22)
  have a2:=heap_alloc_new (w.alloc (.cells #[.slice none 0 0] 22)) (.cells #[.nilIface] 24)
  have z1:(w.alloc (.cells #[.slice none 0 0] 22)).heap.size=w.heap.size+1:=by simp
  have z2:wA.heap.size=w.heap.size+1+1:=(by rw[← hwA];simp)
  rw[z1] at a2
  have a3:=(Lib.alloc_old (w.alloc (.cells #[.slice none 0 0] 22)) (.cells #[.nilIface] 24) w.heap.size (by rw[z1];omega)).trans a1
  rw[hwA] at a2 a3 hown hB1
  have b1:Below w.heap.size w wA:=(by rw[← hwA];exact ((Below.refl _ w).alloc (Nat.le_refl _) _).alloc (by rw[z1];omega) _)
  have hR0:RdU w w1.heap.size L (.slice lo L.length lc) (.slice none 0 0) [] 0 (w1.alloc (.cells #[.slice lo L.length lc,.int .i64 0] 229)):=(by
   have hsz:=hB1.size
   have hB2:Below w1.heap.size w1 (w1.alloc (.cells #[.slice lo L.length lc,.int .i64 0] 229)):=(Below.refl _ w1).alloc (Nat.le_refl _) _
   refine⟨⟨(b1.trans (hB1.mono (by omega))).trans (hB2.mono (by omega)),Zen _ _ _ _,fun f hf=>(by cases hf)⟩,?_,?_,heap_alloc_new _ _,by omega,ZhK (ZhC hown (by omega)) hB2⟩
   ·exact (hB2.block _ (by omega)).trans ((hB1.block _ (by omega)).trans a3)
   ·exact (hB2.block _ (by omega)).trans ((hB1.block _ (by omega)).trans a2))
  have HX0:Hid (thenPs (([]:List Pfd).map (·.x)) (upsP atC L.length ([]:List Pfd).length 0 (L.drop 0))=X):=(by
   show _=_
   rw[← HX2]
   simp only[List.map_nil,List.drop_zero,List.length_nil]
   cases upsP atC L.length 0 0 L<;>rfl)
  clear HX2 hs hown hB1 hwA a1 a2 a3 b1 z1 z2
  go_wp2
  generalize w1.alloc (.cells #[.slice lo L.length lc,.int .i64 0] 229)=w2 at hR0 ⊢
  generalize w1.heap.size=R at hR0 ⊢
  go_loopw [] (fun wr=>∃ (ov:Value) (F:List Pfd) (p f:Nat),(∃ o c,ov=.slice o F.length c)∧RdU w R L (.slice lo L.length lc) ov F p wr∧p≤L.length∧F.length≤64∧Hid ((L.drop p).length≤f)∧Hid (thenPs (F.map (·.x)) (upsP atC f F.length p (L.drop p))=X)) (fun wr=>L.length-ukN wr R)
  case atStart=>exact⟨_,[],0,L.length,⟨none,0,rfl⟩,hR0,Nat.zero_le _,Nat.zero_le _,(by show _≤_;simp),HX0⟩
  case round =>
  clear hR0 HX0
  obtain⟨ov,F,p,f,⟨o,c,rfl⟩,hR,hp,hFl,HF,HI⟩:=hrel
  obtain⟨d0,d1⟩:=hR.ck.cells
  have HK:Hid (ukN wr R=p):=Zlr hR.ck
  by_cases hlt:p<L.length
  ·have hf:=HF.out
   have hfl:0<f:=(by rw[List.length_drop] at hf;omega)
   obtain⟨f',rfl⟩:∃ f',f=f'+1:=⟨f-1,by omega⟩
   have hne:L.drop p≠[]:=(by intro h;have:=congrArg List.length h;rw[List.length_drop] at this;simp at this;omega)
   have HIe:Hid (∀ e,patU F.length p (L.drop p)=.error e→X=.error e):=(by
    intro e he
    rw[← HI.out,ZlK,if_neg hne,he]
    rfl)
   have HN:Hid (∀ x p2 r,patU F.length p (L.drop p)=.ok (x,p2,r)→p2≤L.length∧p<p2∧Hid ((L.drop p2).length≤f')∧F.length<64∧r=L.drop p2):=(by
    intro x p2 r hk
    obtain⟨b1,b2,b3,b4⟩:=ZlG HPl.out hk
    rw[List.length_drop] at hf
    exact⟨b3,b2,(by show _≤_;rw[List.length_drop];omega),b4,b1⟩)
   have HN2:Hid (∀ x p2 r v H,patU F.length p (L.drop p)=.ok (x,p2,r)→Hid (thenPs ((F++[(⟨x,v,H⟩:Pfd)]).map (·.x)) (upsP atC f' (F++[(⟨x,v,H⟩:Pfd)]).length p2 (L.drop p2))=X)):=(by
    intro x p2 r v H hk
    show _=_
    have hr:=(HN.out x p2 r hk).2.2.2.2
    rw[← HI.out,ZlK,if_neg hne,hk]
    dsimp only
    rw[hr,List.length_append,List.map_append]
    show thenPs (F.map (·.x)++[x]) (upsP atC f' (F.length+1) p2 (L.drop p2))=_
    cases upsP atC f' (F.length+1) p2 (L.drop p2) with
    | error e=>rfl
    | ok m=>simp[thenPs])
   have hRd:=hR.keep (Below.drew (Below.refl _ _))
   obtain⟨Rr,hRr⟩:∃ Rr:Value→World→Prop,(fun v u=>∃ x p2 r vo vc H,patU F.length p (L.drop p)=.ok (x,p2,r)∧v=.agg #[.string ⟨x.old.toArray⟩,.string ⟨x.new.toArray⟩,.slice vo H.length vc]∧RdU w R L (.slice lo L.length lc) (.slice o F.length c) F p2 u∧Pown w.heap.size u ⟨x,.slice vo H.length vc,H⟩)=Rr:=⟨_,rfl⟩
   have hcall:Calls Tryz.prog 170 (#[.pointer (some ⟨R,0,none⟩),.int .i64 (F.length:Int)]++#[]) wr.drew fun e w'=>(∃ v,e=.returned v∧True∧Rr v w')∨(∃ c,e=.panicked c∧Pn c w'):=(by
    obtain⟨Y,hY⟩:∃ Y,patU F.length p (L.drop p)=Y:=⟨_,rfl⟩
    have hsz:=hRd.pw.low.size
    have hrl:=hRd.rl
    refine (ZlH hFl wr.drew hRd.ck (fun u hu=>hRd.lines hu) HPl hp hLl HSl (hmx.low hRd.pw.low) (Nat.lt_of_lt_of_le (Nat.lt_of_lt_of_le hmx.lt (by omega)) (Nat.le_of_lt hRd.rl)) Y hY).mono ?_
    intro e w' hq
    cases Y with
    | error z =>
     obtain⟨a,z⟩:=z
     obtain⟨⟨g,rfl,hg⟩,hgr⟩:=hq
     right
     refine⟨_,rfl,?_⟩
     rw[← HPd.out]
     have hk:∀ k x,k≠R→wr.drew.heap[k]?=some x→w'.heap[k]?=some x:=fun k _ hk hx=>(hgr.block k (Array.getElem?_eq_some_iff.1 hx).1 (fun e=>hk (Option.some.inj e))).trans hx
     exact⟨g,a,z,_,rfl,hg,HIe.out _ hY,hRd.pw.low.grown hgr hsz (fun k e=>by cases e;omega),hk _ _ (by omega) hRd.f0,hk _ _ (by omega) hRd.f1⟩
    | ok z =>
     obtain⟨x,p2,r⟩:=z
     obtain⟨hv,H,rfl,hxe,hown,hins,q,hgr⟩:=hq
     obtain⟨vo,vc,rfl⟩:=(Zeo hown).form
     left
     rw[← hRr]
     exact⟨_,rfl,trivial,x,p2,r,vo,vc,H,hY,rfl,hRd.call hgr q,⟨hxe,ZhC hown hsz,fun y hy=>ZhC (hins y hy) hsz⟩⟩)
   have i1:(p:Int)<(L.length:Int):=by omega
   have HRr:Hid (_=Rr):=hRr
   clear hRr HI
   go_upto_region 6 with fail
   refine Zmk Pn (.pointer (some ⟨w.heap.size,0,none⟩)) (.pointer (some ⟨w.heap.size+1,0,none⟩)) [{ target:=.fn (.func 169) #[.pointer (some ⟨w.heap.size,0,none⟩),.pointer (some ⟨w.heap.size+1,0,none⟩)],args:=#[] }] (fun c a u h1 h2 h3 h4=>HPn.out c a u h1 h2 h3 h4) ?_
   refine wp_region_held_drew (S:=fun _=>True) (by kernel_rfl) trivial (fun _=>?_)
   generalize wr.drew=wd at hRd hcall ⊢
   have c0d:=hRd.c0
   refine ZdJ 0 22 _ 1 23 _ rfl (by kernel_rfl) rfl (by kernel_rfl) (by kernel_rfl) (by kernel_rfl) (by kernel_rfl) (.slice o F.length c) wd (ZfL c0d (.tmp 2) (by kernel_rfl) (by kernel_rfl)) trivial (.slice o F.length c) wd (ZfL c0d (.tmp 2) (by kernel_rfl) (by kernel_rfl)) trivial ?_ ?_
   ·simp only[Act.put,Y_a,Y_b,Y_c]
    refine Y_v 1 23 _ rfl (.slice o F.length c) wd (ZfL c0d (.tmp 2) (by kernel_rfl) (by kernel_rfl)) trivial ?_
    simp only[Act.put,Y_a,Y_b,Y_c]
    refine ZdI 2 24 _ (.int .i64 (F.length:Int)) rfl (by kernel_rfl) (by kernel_rfl) (by kernel_rfl) (by kernel_rfl) (ZhZ (by decide) (by decide)) (Or.inl ⟨by kernel_rfl,fun u hu=>by kernel_rfl⟩) trivial ?_
    simp only[Act.put,Y_a,Y_b,Y_c]
    refine ZdF 3 25 _ rfl (by kernel_rfl) (by kernel_rfl) (by kernel_rfl) 170 (.func 170) #[.tmp 4,.tmp 24] #[229,3] (by kernel_rfl) #[] (by kernel_rfl) #[.pointer (some ⟨R,0,none⟩),.int .i64 (F.length:Int)] (by kernel_rfl) (enters_of Tryz.func170 (by kernel_rfl) rfl) Rr Pn (fun c u h=>⟨h,rfl,rfl,rfl⟩) ?_ ?_
    ·exact hcall
    intro v0 u1 _ hq
    rw[← HRr.out] at hq
    obtain⟨x,p2,r,vo,vc,H,hk2,rfl,hR1,hown1⟩:=hq
    have c1u:=hR1.c0
    have hRA:=hR1.keep ((Below.refl _ u1).alloc (Nat.le_refl _) (pxO ⟨x,.slice vo H.length vc,H⟩))
    have c2u:=hRA.c0
    simp only[Act.put,Y_a,Y_b,Y_c]
    refine Y_v 4 26 _ rfl (.slice (some ⟨u1.heap.size,0,none⟩) 1 1) (u1.alloc (pxO ⟨x,.slice vo H.length vc,H⟩)) (by kernel_rfl) trivial ?_
    simp only[Act.put,Y_a,Y_b,Y_c]
    have hlt2:=HN.out x p2 r hk2
    have hownA:=hown1.keep ((Below.refl _ u1).alloc (Nat.le_refl _) (pxO ⟨x,.slice vo H.length vc,H⟩))
    obtain⟨v3,u3,hr3,hown3,hg3,_⟩:=ZjJ (u1.alloc (pxO ⟨x,.slice vo H.length vc,H⟩)) 22 42 22 (.agg #[.string ⟨#[]⟩,.string ⟨#[]⟩,.slice none 0 0]) 3 56 Tryz.underlying22 infoPx rfl (by decide) (by decide) w.heap.size _ _ _ hRA.pw.own _ 1 (pxC ⟨x,.slice vo H.length vc,H⟩) (Zhx u1 ⟨x,.slice vo H.length vc,H⟩) rfl (fun u hu=>by simp[pxC] at hu;rcases hu with rfl | rfl | rfl<;>rfl) (by omega) hRA.pw.low.size
    have hR3:=hRA.more hownA hg3 hown3
    obtain⟨o3,k3,rfl⟩:=(Zeo hown3).form
    refine Y_v 5 27 _ rfl (.slice o3 (F.length+1) k3) u3 (ZcT (.tmp 22) (.tmp 26) (by kernel_rfl) (by kernel_rfl) (by kernel_rfl) hr3) trivial ?_
    simp only[Act.put,Y_a,Y_b,Y_c]
    refine Y_s 6 _ rfl (u3.setCell ⟨w.heap.size,0,none⟩ (.slice o3 (F.length+1) k3)) (Zda hR3.2.1 hR3.2.2 (.tmp 2) (.tmp 27) (by kernel_rfl) (by kernel_rfl) (by kernel_rfl)) trivial ?_
    refine wpAnyH_done (by kernel_rfl) ?_ _
    refine PanC.normal ?_
    have hR4:=hR3.1
    go_wp2
    refine⟨⟨_,F++[⟨x,.slice vo H.length vc,H⟩],p2,f',⟨o3,k3,by rw[List.length_append];rfl⟩,hR4,hlt2.1,by rw[List.length_append];simp;omega,hlt2.2.2.1,HN2.out x p2 r _ _ hk2⟩,?_⟩
    rw[Zlr hR4.ck,HK.out]
    omega
   ·simp only[Act.put,Y_a,Y_b,Y_c]
    refine ZdI 2 24 _ (.int .i64 (F.length:Int)) rfl (by kernel_rfl) (by kernel_rfl) (by kernel_rfl) (by kernel_rfl) (ZhZ (by decide) (by decide)) (Or.inl ⟨by kernel_rfl,fun u hu=>by kernel_rfl⟩) trivial ?_
    simp only[Act.put,Y_a,Y_b,Y_c]
    refine ZdM 0 22 _ 3 25 _ rfl (by kernel_rfl) rfl (by kernel_rfl) (by kernel_rfl) (by kernel_rfl) (by kernel_rfl) (.slice o F.length c) wd (ZfL c0d (.tmp 2) (by kernel_rfl) (by kernel_rfl)) trivial 170 (.func 170) #[.tmp 4,.tmp 24] #[229,3] (by kernel_rfl) #[] (by kernel_rfl) #[.pointer (some ⟨R,0,none⟩),.int .i64 (F.length:Int)] (by kernel_rfl) (enters_of Tryz.func170 (by kernel_rfl) rfl) Rr Pn (fun c u h=>⟨h,rfl,rfl,rfl⟩) ?_ ?_ ?_
    ·exact hcall
    ·simp only[Act.put,Y_a,Y_b,Y_c]
     refine ZdF 3 25 _ rfl (by kernel_rfl) (by kernel_rfl) (by kernel_rfl) 170 (.func 170) #[.tmp 4,.tmp 24] #[229,3] (by kernel_rfl) #[] (by kernel_rfl) #[.pointer (some ⟨R,0,none⟩),.int .i64 (F.length:Int)] (by kernel_rfl) (enters_of Tryz.func170 (by kernel_rfl) rfl) Rr Pn (fun c u h=>⟨h,rfl,rfl,rfl⟩) ?_ ?_
     ·exact hcall
     intro v0 u1 _ hq
     rw[← HRr.out] at hq
     obtain⟨x,p2,r,vo,vc,H,hk2,rfl,hR1,hown1⟩:=hq
     have c1u:=hR1.c0
     have hRA:=hR1.keep ((Below.refl _ u1).alloc (Nat.le_refl _) (pxO ⟨x,.slice vo H.length vc,H⟩))
     have c2u:=hRA.c0
     simp only[Act.put,Y_a,Y_b,Y_c]
     refine Y_v 4 26 _ rfl (.slice (some ⟨u1.heap.size,0,none⟩) 1 1) (u1.alloc (pxO ⟨x,.slice vo H.length vc,H⟩)) (by kernel_rfl) trivial ?_
     simp only[Act.put,Y_a,Y_b,Y_c]
     have hlt2:=HN.out x p2 r hk2
     have hownA:=hown1.keep ((Below.refl _ u1).alloc (Nat.le_refl _) (pxO ⟨x,.slice vo H.length vc,H⟩))
     obtain⟨v3,u3,hr3,hown3,hg3,_⟩:=ZjJ (u1.alloc (pxO ⟨x,.slice vo H.length vc,H⟩)) 22 42 22 (.agg #[.string ⟨#[]⟩,.string ⟨#[]⟩,.slice none 0 0]) 3 56 Tryz.underlying22 infoPx rfl (by decide) (by decide) w.heap.size _ _ _ hRA.pw.own _ 1 (pxC ⟨x,.slice vo H.length vc,H⟩) (Zhx u1 ⟨x,.slice vo H.length vc,H⟩) rfl (fun u hu=>by simp[pxC] at hu;rcases hu with rfl | rfl | rfl<;>rfl) (by omega) hRA.pw.low.size
     have hR3:=hRA.more hownA hg3 hown3
     obtain⟨o3,k3,rfl⟩:=(Zeo hown3).form
     refine Y_v 5 27 _ rfl (.slice o3 (F.length+1) k3) u3 (ZcT (.tmp 22) (.tmp 26) (by kernel_rfl) (by kernel_rfl) (by kernel_rfl) hr3) trivial ?_
     simp only[Act.put,Y_a,Y_b,Y_c]
     refine Y_s 6 _ rfl (u3.setCell ⟨w.heap.size,0,none⟩ (.slice o3 (F.length+1) k3)) (Zda hR3.2.1 hR3.2.2 (.tmp 2) (.tmp 27) (by kernel_rfl) (by kernel_rfl) (by kernel_rfl)) trivial ?_
     refine wpAnyH_done (by kernel_rfl) ?_ _
     refine PanC.normal ?_
     have hR4:=hR3.1
     go_wp2
     refine⟨⟨_,F++[⟨x,.slice vo H.length vc,H⟩],p2,f',⟨o3,k3,by rw[List.length_append];rfl⟩,hR4,hlt2.1,by rw[List.length_append];simp;omega,hlt2.2.2.1,HN2.out x p2 r _ _ hk2⟩,?_⟩
     rw[Zlr hR4.ck,HK.out]
     omega
    ·intro v0 u1 _ hq
     rw[← HRr.out] at hq
     obtain⟨x,p2,r,vo,vc,H,hk2,rfl,hR1,hown1⟩:=hq
     have c1u:=hR1.c0
     have hRA:=hR1.keep ((Below.refl _ u1).alloc (Nat.le_refl _) (pxO ⟨x,.slice vo H.length vc,H⟩))
     have c2u:=hRA.c0
     simp only[Act.put,Y_a,Y_b,Y_c]
     refine ZdJ 0 22 _ 4 26 _ rfl (by kernel_rfl) rfl (by kernel_rfl) (by kernel_rfl) (by kernel_rfl) (by kernel_rfl) (.slice o F.length c) u1 (ZfL c1u (.tmp 2) (by kernel_rfl) (by kernel_rfl)) trivial (.slice (some ⟨u1.heap.size,0,none⟩) 1 1) (u1.alloc (pxO ⟨x,.slice vo H.length vc,H⟩)) (by kernel_rfl) trivial ?_ ?_
     ·simp only[Act.put,Y_a,Y_b,Y_c]
      refine Y_v 4 26 _ rfl (.slice (some ⟨u1.heap.size,0,none⟩) 1 1) (u1.alloc (pxO ⟨x,.slice vo H.length vc,H⟩)) (by kernel_rfl) trivial ?_
      simp only[Act.put,Y_a,Y_b,Y_c]
      have hlt2:=HN.out x p2 r hk2
      have hownA:=hown1.keep ((Below.refl _ u1).alloc (Nat.le_refl _) (pxO ⟨x,.slice vo H.length vc,H⟩))
      obtain⟨v3,u3,hr3,hown3,hg3,_⟩:=ZjJ (u1.alloc (pxO ⟨x,.slice vo H.length vc,H⟩)) 22 42 22 (.agg #[.string ⟨#[]⟩,.string ⟨#[]⟩,.slice none 0 0]) 3 56 Tryz.underlying22 infoPx rfl (by decide) (by decide) w.heap.size _ _ _ hRA.pw.own _ 1 (pxC ⟨x,.slice vo H.length vc,H⟩) (Zhx u1 ⟨x,.slice vo H.length vc,H⟩) rfl (fun u hu=>by simp[pxC] at hu;rcases hu with rfl | rfl | rfl<;>rfl) (by omega) hRA.pw.low.size
      have hR3:=hRA.more hownA hg3 hown3
      obtain⟨o3,k3,rfl⟩:=(Zeo hown3).form
      refine Y_v 5 27 _ rfl (.slice o3 (F.length+1) k3) u3 (ZcT (.tmp 22) (.tmp 26) (by kernel_rfl) (by kernel_rfl) (by kernel_rfl) hr3) trivial ?_
      simp only[Act.put,Y_a,Y_b,Y_c]
      refine Y_s 6 _ rfl (u3.setCell ⟨w.heap.size,0,none⟩ (.slice o3 (F.length+1) k3)) (Zda hR3.2.1 hR3.2.2 (.tmp 2) (.tmp 27) (by kernel_rfl) (by kernel_rfl) (by kernel_rfl)) trivial ?_
      refine wpAnyH_done (by kernel_rfl) ?_ _
      refine PanC.normal ?_
      have hR4:=hR3.1
      go_wp2
      refine⟨⟨_,F++[⟨x,.slice vo H.length vc,H⟩],p2,f',⟨o3,k3,by rw[List.length_append];rfl⟩,hR4,hlt2.1,by rw[List.length_append];simp;omega,hlt2.2.2.1,HN2.out x p2 r _ _ hk2⟩,?_⟩
      rw[Zlr hR4.ck,HK.out]
      omega
     ·simp only[Act.put,Y_a,Y_b,Y_c]
      refine Y_v 0 22 _ rfl (.slice o F.length c) (u1.alloc (pxO ⟨x,.slice vo H.length vc,H⟩)) (ZfL c2u (.tmp 2) (by kernel_rfl) (by kernel_rfl)) trivial ?_
      simp only[Act.put,Y_a,Y_b,Y_c]
      have hlt2:=HN.out x p2 r hk2
      have hownA:=hown1.keep ((Below.refl _ u1).alloc (Nat.le_refl _) (pxO ⟨x,.slice vo H.length vc,H⟩))
      obtain⟨v3,u3,hr3,hown3,hg3,_⟩:=ZjJ (u1.alloc (pxO ⟨x,.slice vo H.length vc,H⟩)) 22 42 22 (.agg #[.string ⟨#[]⟩,.string ⟨#[]⟩,.slice none 0 0]) 3 56 Tryz.underlying22 infoPx rfl (by decide) (by decide) w.heap.size _ _ _ hRA.pw.own _ 1 (pxC ⟨x,.slice vo H.length vc,H⟩) (Zhx u1 ⟨x,.slice vo H.length vc,H⟩) rfl (fun u hu=>by simp[pxC] at hu;rcases hu with rfl | rfl | rfl<;>rfl) (by omega) hRA.pw.low.size
      have hR3:=hRA.more hownA hg3 hown3
      obtain⟨o3,k3,rfl⟩:=(Zeo hown3).form
      refine Y_v 5 27 _ rfl (.slice o3 (F.length+1) k3) u3 (ZcT (.tmp 22) (.tmp 26) (by kernel_rfl) (by kernel_rfl) (by kernel_rfl) hr3) trivial ?_
      simp only[Act.put,Y_a,Y_b,Y_c]
      refine Y_s 6 _ rfl (u3.setCell ⟨w.heap.size,0,none⟩ (.slice o3 (F.length+1) k3)) (Zda hR3.2.1 hR3.2.2 (.tmp 2) (.tmp 27) (by kernel_rfl) (by kernel_rfl) (by kernel_rfl)) trivial ?_
      refine wpAnyH_done (by kernel_rfl) ?_ _
      refine PanC.normal ?_
      have hR4:=hR3.1
      go_wp2
      refine⟨⟨_,F++[⟨x,.slice vo H.length vc,H⟩],p2,f',⟨o3,k3,by rw[List.length_append];rfl⟩,hR4,hlt2.1,by rw[List.length_append];simp;omega,hlt2.2.2.1,HN2.out x p2 r _ _ hk2⟩,?_⟩
      rw[Zlr hR4.ck,HK.out]
      omega
  ·have hend:decide ((p:Int)<(L.length:Int))=false:=decide_eq_false (by omega)
   have hXv:X=.ok (F.map (·.x)):=(by
    rw[← HI.out,List.drop_eq_nil_of_le (by omega)]
    cases f with
    | zero=>simp[upsP,thenPs]
    | succ f=>simp[upsP,thenPs])
   have c0:=hR.c0
   have c1:wr.cell? ⟨w.heap.size+1,0,none⟩=some .nilIface:=by rw[Lib.cell_of_heap hR.f1];rfl
   have z0:=Lib.frozen_of_heap hR.f0 0
   have z1:=Lib.frozen_of_heap hR.f1 0
   have g0:=ZdS wr w.heap.size 0 (.slice o F.length c)
   have s0:=heap_setCell_same wr w.heap.size 0 _ _ (.slice o F.length c) hR.f0
   have h1:Pw w (.slice o F.length c) F (wr.setCell ⟨w.heap.size,0,none⟩ (.slice o F.length c)):=⟨hR.pw.low.setCell (Nat.le_refl _) _,hR.pw.own.kept g0 (.inr (ZhE hR.pw.own hR.f0 (by decide))),fun f hf=>(hR.pw.ins f hf).box hR.f0 (by decide) (by decide) g0⟩
   have t1:(wr.setCell ⟨w.heap.size,0,none⟩ (.slice o F.length c)).heap[w.heap.size+1]?=some (.cells #[.nilIface] 24):=(Below.heap_setCell _ _ _ _ (by simp)).trans hR.f1
   have g1:=ZdS (wr.setCell ⟨w.heap.size,0,none⟩ (.slice o F.length c)) (w.heap.size+1) 0 .nilIface
   have s1:=heap_setCell_same _ (w.heap.size+1) 0 _ _ .nilIface t1
   have s2:((wr.setCell ⟨w.heap.size,0,none⟩ (.slice o F.length c)).setCell ⟨w.heap.size+1,0,none⟩ .nilIface).heap[w.heap.size]?=_:=(Below.heap_setCell _ _ _ _ (by simp)).trans s0
   have h2:Pw w (.slice o F.length c) F ((wr.setCell ⟨w.heap.size,0,none⟩ (.slice o F.length c)).setCell ⟨w.heap.size+1,0,none⟩ .nilIface):=⟨h1.low.setCell (by show w.heap.size≤w.heap.size+1;omega) _,h1.own.kept g1 (.inr (ZhE h1.own t1 (by decide))),fun f hf=>(h1.ins f hf).box t1 (by decide) (by decide) g1⟩
   have c1':(wr.setCell ⟨w.heap.size,0,none⟩ (.slice o F.length c)).cell? ⟨w.heap.size+1,0,none⟩=some .nilIface:=by rw[Lib.cell_of_heap t1];rfl
   have z1':=Lib.frozen_of_heap t1 0
   have e0:((wr.setCell ⟨w.heap.size,0,none⟩ (.slice o F.length c)).setCell ⟨w.heap.size+1,0,none⟩ .nilIface).cell? ⟨w.heap.size,0,none⟩=some (.slice o F.length c):=by rw[Lib.cell_of_heap s2];rfl
   have e1:((wr.setCell ⟨w.heap.size,0,none⟩ (.slice o F.length c)).setCell ⟨w.heap.size+1,0,none⟩ .nilIface).cell? ⟨w.heap.size+1,0,none⟩=some .nilIface:=by rw[Lib.cell_of_heap s1];rfl
   subst hXv
   clear HI HPn HPd hR h1 g0 g1 s0 s1 s2 t1
   go_wp2
   refine leaves_cons (f:=169) (args:=#[.pointer (some ⟨w.heap.size,0,none⟩),.pointer (some ⟨w.heap.size+1,0,none⟩)]) (by simp) (by simp[go_sem]) ?_
   refine (Zbg _ _ _).mono ?_
   rintro e u' w'' ⟨rfl,rfl,rfl⟩
   exact⟨_,Zjk _ _ w.heap.size (w.heap.size+1) F.length c o .nilIface rfl rfl e0 e1,_,F,rfl,h2,rfl⟩
end

section
open Ln Go.RowKit
def efbas (ws:List (List UInt8)):List ByteArray:=ws.map fun a=>⟨a.toArray⟩
theorem ZcO (ws:List (List UInt8)):(efbas ws).length=ws.length:=by simp[efbas]
theorem ZcN (ws:List (List UInt8)):(efbas ws).map (fun s=>s.data.toList)=ws:=by simp[efbas,Function.comp_def]
theorem Zfp (v:Value) (ws:List (List UInt8)) (w:World) (hl:ws.length≤1099511627776) (hf:ws.flatten.length≤1099511627776) (hv:HS w v ws) :
  Calls Tryz.prog 25 #[v] w fun e w'=>e=.returned (.string ⟨ws.flatten.toArray⟩)∧Below w.heap.size w w':=by
 by_cases h0:0<ws.length
 ·obtain⟨vo,vc,rfl⟩:=Holds.form hv
  have hcap:ws.length≤vc:=(by
   rcases hv with ⟨h,h1,_⟩ | ⟨ad,c',h,h3,_⟩
   ·omega
   ·cases h;exact h3)
  obtain⟨b1,o1,rfl,hb1,hc1⟩:=HS.at hv h0
  have hj:(Lib.join ((efbas ws).map fun s=>s.data.toList) (⟨#[]⟩:ByteArray).data.toList)=ws.flatten:=by rw[ZcN];exact ZeZ ws
  have hJ:=Tryz.strings_Join b1 o1 vc (efbas ws) ⟨#[]⟩ w (by
   intro j y hy
   have hjl:j<ws.length:=by have:=(List.getElem?_eq_some_iff.1 hy).1;simpa [efbas] using this
   rw[hc1 j hjl]
   simp[efbas,hjl] at hy
   rw[hy]) hb1 (by rw[ZcO];omega) (by rw[ZcO];exact hcap) (by rw[hj];omega)
  rw[hj,ZcO] at hJ
  clear hc1 hj hv
  go_enter Tryz.func25,Tryz.ntmps25
  go_wp2_with fail
  refine hJ.mono ?_
  rintro e w1 ⟨rfl,hb⟩
  go_wp2
  go_ret
  exact⟨rfl,hb⟩
 ·obtain rfl:=List.eq_nil_of_length_eq_zero (by omega:ws.length=0)
  obtain⟨vo,vc,rfl⟩:=Holds.form hv
  go_enter Tryz.func25,Tryz.ntmps25
  go_wp2_with fail
  refine (Tryz.strings_Join_none vo vc ⟨#[]⟩ _).mono ?_
  rintro e w1 ⟨rfl,rfl⟩
  go_wp2
  go_ret
  exact⟨rfl,Below.refl _ _⟩
end

section
open Go.RowKit Go.Proofs.YtcniomgjikienaaGreatDoor.Tx
open Ln
attribute [local go_sem] Zhc
theorem Zaw (a:Addr) (w:World):Calls Tryz.prog 28 #[.nilIface,.iface 75 (.pointer (some a))] w fun e w'=>e=.returned (.bool false)∧w'=w:=by
 go_enter Tryz.func28,Tryz.ntmps28
 go_wp2
 go_ret
 exact⟨rfl,rfl⟩
theorem Zig (w:World) (B:Nat) (f:Pfd) (hB:B≤w.heap.size):(w.alloc (pxO f)).ownsRow B 42 3 (.slice (some ⟨w.heap.size,0,none⟩) 1 1) 1 (pxC f):=by
 refine⟨rfl,.inr ⟨_,1,#[.string ⟨f.x.old.toArray⟩,.string ⟨f.x.new.toArray⟩,f.v],rfl,hB,_root_.Go.heap_alloc_new w _,Nat.le_refl _,by decide,rfl,rfl⟩⟩
theorem ZhQ (t:List UInt8) (w:World) (hl:t.length≤1099511627776) (X:Except (Nat × Int) (List Pth)) (HX:Hid (bareP (prsT t)=X)) :
  Calls Tryz.prog 145 #[.string ⟨t.toArray⟩] w fun e w'=>PrQ w X e w':=by
 have hX:=HX.out
 obtain⟨Y,hY⟩:∃ Y,prsT t=Y:=⟨_,rfl⟩
 rw[hY] at hX
 have hp:=ZgC t w hl Y hY
 clear HX hY
 cases Y with
 | error y =>
  obtain⟨a,z⟩:=y
  have hX:Except.error (a,z)=X:=hX
  subst hX
  go_enter Tryz.func145,Tryz.ntmps145
  go_wp2_with fail
  refine hp.mono ?_
  rintro e w1 ⟨g,rfl,hg,hB⟩
  go_wp2
  go_ret2
  exact⟨g,rfl,hg,hB⟩
 | ok l =>
  have hX:Except.ok [⟨[],[],l⟩]=X:=hX
  subst hX
  go_enter Tryz.func145,Tryz.ntmps145
  go_wp2_with fail
  refine hp.mono ?_
  rintro e w1 ⟨v',P,rfl,hs,hPl⟩
  obtain⟨lo,lc,rfl⟩:=hs.holds.1.form
  have HP:Hid (Pw w (.slice (some ⟨w1.heap.size,0,none⟩) 1 1) [⟨⟨[],[],l⟩,.slice lo P.length lc,P⟩] (w1.alloc (pxO ⟨⟨[],[],l⟩,.slice lo P.length lc,P⟩))):=by
   have hb:Below w1.heap.size w1 (w1.alloc (pxO ⟨⟨[],[],l⟩,.slice lo P.length lc,P⟩)):=(Below.refl _ w1).alloc (Nat.le_refl _) _
   refine⟨hs.low.trans (hb.mono hs.low.size),Zig w1 _ ⟨⟨[],[],l⟩,.slice lo P.length lc,P⟩ hs.low.size,fun f hf=>?_⟩
   obtain rfl:f=⟨⟨[],[],l⟩,.slice lo P.length lc,P⟩:=by simpa using hf
   exact⟨hPl.symm,ZhK hs.own hb,fun y hy=>ZhK (hs.ins y hy) hb⟩
  clear hs hPl
  go_wp2
  go_ret2
  exact⟨_,_,rfl,HP.out,rfl⟩
def fmNo:Nat→Int
 | 0=>3
 | 1=>2
 | 2=>1
 | _=>0
theorem Zds (s:List (List UInt8)):fmNo (kOf (fmL s))=fmL s:=by
 cases s with
 | nil=>rfl
 | cons x r =>
  show fmNo (kOf (fmS x))=fmS x
  unfold fmS
  split
  ·rfl
  ·split
   ·rfl
   ·split<;>rfl
theorem in_f {B:Nat} {k:Nat} (hk:k<3):∃ (b F H:Nat) (c:Array Value) (m:Int),fmA (bgV B) (bgV (B+1)) k=#[.int .i64 (fmNo k),.func (.func b) #[] c,.int .i64 m,.func (.func F) #[] #[],.func (.func H) #[] #[]]∧(∀ args w,(callFunc F args).run Tryz.prog w=.ok (.enter F args) w) ∧
  ∀ (t:List UInt8) (w:World) (X:Except (Nat × Int) (List Pth)),t.length≤1099511627776→Mxl w→Hid (inP atC (fmNo k) t=X)→Calls Tryz.prog F #[.string ⟨t.toArray⟩] w fun e w'=>PrQ w X e w':=by
 rcases (by omega:k=0∨k=1∨k=2) with rfl | rfl | rfl
 ·exact⟨_,_,_,_,_,rfl,enters_of Tryz.func140 (by kernel_rfl) rfl,fun t w X hl hm HX=>ZkZ t w X HX hl hm⟩
 ·exact⟨_,_,_,_,_,rfl,enters_of Tryz.func142 (by kernel_rfl) rfl,fun t w X hl _ HX=>ZaT t w X HX hl⟩
 ·exact⟨_,_,_,_,_,rfl,enters_of Tryz.func145 (by kernel_rfl) rfl,fun t w X hl _ HX=>ZhQ t w hl X HX⟩
theorem ZhP (t:List UInt8) (w:World) (h:t.length≤1099511627776) (r:Int) (HR:Hid (frmT t=r)) :
  Calls Tryz.prog 12 #[.string ⟨t.toArray⟩] w fun e w'=>e=.returned (.int .i64 r)∧Below w.heap.size w w':=by
 obtain⟨ls,hls⟩:∃ ls,splitL t=ls:=⟨_,rfl⟩
 have hco:=ZhO t w h ls hls
 have hR0:=HR.out
 unfold frmT at hR0
 have hne:∀ s∈ntR (splitL t),s≠[]:=by
  intro s hs
  unfold ntR at hs
  exact ZiJ (List.mem_filter.1 hs).1
 rw[hls] at hR0 hne
 obtain⟨R,hR⟩:∃ R,ntR ls=R:=⟨_,rfl⟩
 unfold CoQ at hco
 rw[hR] at hco hR0 hne
 have HNE:Hid (∀ s∈R,s≠[]):=hne
 obtain⟨k,hk⟩:∃ k,kOf (fmL R)=k:=⟨_,rfl⟩
 have hfn:=Zds R
 rw[hk,hR0] at hfn
 have HK:Hid (kOf (fmL R)=k):=hk
 clear hls HR hR hne hR0 hk
 go_enter Tryz.func12,Tryz.ntmps12
 go_wp2_with fail
 refine hco.mono ?_
 rintro e w1 ⟨xo,yo,xc,yc,rfl,hSq⟩
 clear hco
 have hfo:=Zdu yo yc R w1 (Zeo hSq.rest) HNE k HK
 have hB1:=hSq.low
 clear hSq HNE HK
 go_wp2_with fail
 refine hfo.mono ?_
 rintro e w2 ⟨B,rfl,hb2⟩
 have hB2:=hB1.trans (hb2.mono hB1.size)
 clear hfo hB1 hb2
 rcases Zdr B k with ⟨z,m,F,c,G,H,hk,hv⟩ | ⟨hk,hv⟩
 ·have hz:z=r:=(by
   rw[← hfn]
   obtain⟨b',F',H',c',m',hv',_⟩:=in_f (B:=B) hk
   rw[hv] at hv'
   simp at hv'
   exact hv'.1)
  have hdk:decide (k<3)=true:=decide_eq_true hk
  subst hz
  rw[hv,hdk]
  have hA:Below w.heap.size w (w2.alloc (.cells #[.int .i64 z,.func (.func F) #[] c,.int .i64 m,.func (.func G) #[] #[],.func (.func H) #[] #[]] 70)):=hB2.alloc hB2.size _
  have x0:(w2.alloc (.cells #[.int .i64 z,.func (.func F) #[] c,.int .i64 m,.func (.func G) #[] #[],.func (.func H) #[] #[]] 70)).cell? ⟨w2.heap.size,0,none⟩=some (.int .i64 z):=by rw[Lib.cell_of_heap (_root_.Go.heap_alloc_new w2 _)];rfl
  clear hB2 hv hk hdk hfn
  go_wp2
  go_ret
  exact⟨rfl,hA⟩
 ·have hz:0=r:=(by
   rw[← hfn]
   have:∃ m,k=m+3:=⟨k-3,by omega⟩
   obtain⟨m,rfl⟩:=this
   rfl)
  have hdk:decide (k<3)=false:=decide_eq_false hk
  subst hz
  rw[hv,hdk]
  have hA:Below w.heap.size w (w2.alloc (.cells #[.int .i64 0,.nilFunc,.int .i64 0,.nilFunc,.nilFunc] 70)):=hB2.alloc hB2.size _
  have x0:(w2.alloc (.cells #[.int .i64 0,.nilFunc,.int .i64 0,.nilFunc,.nilFunc] 70)).cell? ⟨w2.heap.size,0,none⟩=some (.int .i64 0):=by rw[Lib.cell_of_heap (_root_.Go.heap_alloc_new w2 _)];rfl
  clear hB2 hv hk hdk hfn
  go_wp2
  go_ret
  exact⟨rfl,hA⟩
end

section
open Go.RowKit Go.Proofs.YtcniomgjikienaaGreatDoor.Tx
open Ln
attribute [local go_sem] Zhc
def PqQ (w:World) (X:Except (Nat × Int) (Int × List Pth)) (e:Ending) (w':World):Prop :=
 match X with
 | .error (a,z)=>∃ g,e=.returned (.tuple #[.slice none 0 0,.int .i64 0,.iface 62 (.pointer (some ⟨g,0,none⟩))])∧w'.heap[g]?=some (fltO (a:Int) z)∧Below w.heap.size w w'
 | .ok (f,l)=>∃ v' F,e=.returned (.tuple #[v',.int .i64 f,.nilIface])∧Pw w v' F w'∧F.map (·.x)=l
theorem ZfK {u:World} {a:Addr} {n:Nat} {c:Array Value} (h:u.cell? a=some (.func (.func n) #[] c)) {op:Oper} (x:Operand) (ho:op.op=.load 67 x) {ev:Operand→Value} (hx:ev x=.pointer (some a)) :
  (execOp ev op).run Tryz.prog u=.ok (.value (.func (.func n) #[] c)) u:=by
 simp only[execOp,ho,hx]
 go_simp
theorem ZoR (t:List UInt8) (w:World) (h:1048576<t.length) (hl:t.length≤1099511627776) :
  Calls Tryz.prog 8 #[.string ⟨t.toArray⟩] w fun e w'=>PqQ w (.error (0,9)) e w':=by
 have h1:(1048576:Int)<(t.length:Int):=by omega
 have hf0:(w.alloc (fltO 0 9)).heap[w.heap.size]?=some (fltO 0 9):=heap_alloc_new w _
 have hb0:Below w.heap.size w (w.alloc (fltO 0 9)):=(Below.refl _ w).alloc (Nat.le_refl _) _
 have HF:Hid ((w.alloc (fltO 0 9)).heap[w.heap.size]?=some (fltO 0 9)∧Below w.heap.size w (w.alloc (fltO 0 9))):=⟨hf0,hb0⟩
 clear h hf0 hb0
 go_enter Tryz.func8,Tryz.ntmps8
 go_wp2
 go_ret3
 exact⟨_,rfl,HF.out⟩
theorem ZhR (t:List UInt8) (w:World) (h:t.length≤1048576) (hE:ErrT w) (hM:Mxl w) (X:Except (Nat × Int) (Int × List Pth)) (HX:Hid (psT atC t=X)) :
  Calls Tryz.prog 8 #[.string ⟨t.toArray⟩] w fun e w'=>PqQ w X e w':=by
 have h1:¬ (1048576:Int)<(t.length:Int):=by omega
 obtain⟨ls,hls⟩:∃ ls,splitL t=ls:=⟨_,rfl⟩
 have hco:=ZhO t w (by omega) ls hls
 have hnl:=Zhg t
 have hR0:=HX.out
 unfold psT at hR0
 rw[if_neg (by omega)] at hR0
 have HIN:Hid (∀ e:Nat × Int,inP atC (frmT t) (ntR (splitL t)).flatten=.error e→1≤e.1∧e.1-1<(atL (splitL t)).length∧e.2≠0):=fun e he=>ZeG h he
 have hne:∀ s∈ntR (splitL t),s≠[]:=by
  intro s hs
  unfold ntR at hs
  exact ZiJ (List.mem_filter.1 hs).1
 unfold frmT at hR0 HIN
 have hatl:=Zay ls
 have hsl:=split_len t
 rw[hls] at hR0 HIN hne hnl hsl
 obtain⟨R,hR⟩:∃ R,ntR ls=R:=⟨_,rfl⟩
 obtain⟨A,hA⟩:∃ A,atL ls=A:=⟨_,rfl⟩
 unfold CoQ at hco
 rw[hR,hA] at hco
 rw[hR,hA] at hR0 HIN hatl
 rw[hR] at hne hnl
 obtain⟨PA,hPA⟩:∃ PA,0::A=PA:=⟨_,rfl⟩
 rw[hPA] at hco
 have hPl:PA.length=A.length+1:=by rw[← hPA];rfl
 have HPA:Hid (0::A=PA):=hPA
 clear hPA
 have HNE:Hid (∀ s∈R,s≠[]):=hne
 have hlR:R.flatten.length≤1099511627776:=by omega
 have hRls:R.length≤ls.length:=by rw[← hR];unfold ntR;exact List.length_filter_le _ _
 have hRl:R.length≤1048576:=by omega
 have hA1:1≤A.length:=by omega
 clear hne hnl hls HX hR hA hsl hRls hatl
 go_enter Tryz.func8,Tryz.ntmps8
 go_wp2_with fail
 refine hco.mono ?_
 rintro e w1 ⟨xo,yo,xc,yc,rfl,hSq⟩
 clear hco
 have hB1:=hSq.low
 by_cases h0:R=[]
 ·subst h0
  rw[if_pos rfl] at hR0
  subst hR0
  have HP:Hid (Pw w (.slice none 0 0) [] w1):=⟨hB1,Zen _ _ _ _,fun f hf=>by cases hf⟩
  clear hSq HIN HNE hB1
  go_wp2
  go_ret3
  exact⟨_,_,rfl,HP.out,rfl⟩
 ·rw[if_neg h0] at hR0
  have hRp:(0:Int)<(R.length:Int):=by have:=List.length_pos_iff.2 h0;omega
  have hR0':((R.length:Int) == 0)=false:=by rw[beq_eq_false_iff_ne];omega
  have hRH:HS w1 (.slice yo R.length yc) R:=Zeo hSq.rest
  obtain⟨k,hk⟩:∃ k,kOf (fmL R)=k:=⟨_,rfl⟩
  have hfo:=Zdu yo yc R w1 hRH HNE k hk
  have hfn:=Zds R
  rw[hk] at hfn
  rw[← hfn] at hR0 HIN
  clear hfn hk HNE h0
  go_wp2_with fail
  refine hfo.mono ?_
  rintro e w2 ⟨B,rfl,hb2⟩
  clear hfo
  have hS2:=hSq.keep hb2
  clear hSq hRH hb2
  by_cases hk3:k<3
  ·have hdk:decide (k<3)=true:=decide_eq_true hk3
   rw[hdk]
   clear hdk
   obtain⟨fb,F,fh,fc,fm,hv,hen,hcon⟩:=in_f (B:=B) hk3
   rw[hv]
   clear hv
   go_upto_region 9 with fail
   obtain⟨FB,hFB⟩:∃ FB,w2.heap.size=FB:=⟨_,rfl⟩
   have hx3:Bx5 (w2.alloc (.cells #[.int .i64 (fmNo k),.func (.func fb) #[] fc,.int .i64 fm,.func (.func F) #[] #[],.func (.func fh) #[] #[]] 70)) FB (.int .i64 (fmNo k)) (.func (.func fb) #[] fc) (.int .i64 fm) (.func (.func F) #[] #[]) (.func (.func fh) #[] #[]):=by rw[← hFB];exact _root_.Go.heap_alloc_new w2 _
   have hS3:=hS2.keep ((Below.refl _ w2).alloc (Nat.le_refl _) (.cells #[.int .i64 (fmNo k),.func (.func fb) #[] fc,.int .i64 fm,.func (.func F) #[] #[],.func (.func fh) #[] #[]] 70))
   simp only[hFB]
   generalize w2.alloc (.cells #[.int .i64 (fmNo k),.func (.func fb) #[] fc,.int .i64 fm,.func (.func F) #[] #[],.func (.func fh) #[] #[]] 70)=W3 at hx3 hS3 ⊢
   clear hS2 hFB
   have hc3:=hx3.cells.2.2.2.1
   have hFBl:FB<W3.heap.size:=(Array.getElem?_eq_some_iff.1 hx3).1
   have hR3:HS W3 (.slice yo R.length yc) R:=Zeo hS3.rest
   have hM3:Mxl W3:=hM.low hS3.low
   have hE3:ErrT W3:=hE.low hS3.low (Nat.le_refl _)
   obtain⟨Y,hY⟩:∃ Y,inP atC (fmNo k) R.flatten=Y:=⟨_,rfl⟩
   refine wp_region_noPanic ?_
   refine wp_region_held_drew (S:=fun u=>Below W3.heap.size W3 u) (by kernel_rfl) (Below.drew (Below.refl _ _)) (fun hHeld=>?_)
   refine Y_t 0 42 _ (.pointer (some ⟨FB,3,none⟩)) rfl (Or.inl ⟨by kernel_rfl,fun u hu=>by kernel_rfl⟩) hHeld ?_
   simp only[Act.put,Y_a,Y_b,Y_c]
   refine Y_t 1 43 _ (.func (.func F) #[] #[]) rfl (Or.inl ⟨by kernel_rfl,fun u hu=>ZfK ((World.cell?_of_block (hu.block FB hFBl)).trans hc3) (.tmp 42) (by kernel_rfl) (by kernel_rfl)⟩) hHeld ?_
   simp only[Act.put,Y_a,Y_b,Y_c]
   refine Y_t 2 44 _ (.slice yo R.length yc) rfl (Or.inl ⟨by kernel_rfl,fun u hu=>by kernel_rfl⟩) hHeld ?_
   simp only[Act.put,Y_a,Y_b,Y_c]
   refine Y_e 3 45 _ rfl 25 (.func 25) #[.tmp 44] #[49] (by kernel_rfl) #[] (by kernel_rfl) #[.slice yo R.length yc] (by kernel_rfl) (enters_of Tryz.func25 (by kernel_rfl) rfl) (fun v u=>v=.string ⟨R.flatten.toArray⟩∧Below W3.heap.size W3 u) ((Zfp (.slice yo R.length yc) R _ (by omega) hlR (Holds.keep hR3 fun k hk=>hHeld.block k hk)).mono (fun _ q hq=>⟨_,hq.1,hHeld.trans (hq.2.mono hHeld.size),rfl,hHeld.trans (hq.2.mono hHeld.size)⟩)) ?_
   rintro _ u1 hH1 ⟨rfl,_⟩
   simp only[Act.put,Y_a,Y_b,Y_c]
   have hM1:Mxl u1:=hM3.low hH1
   refine Y_e 4 46 _ rfl F (.tmp 43) #[.tmp 45] #[9] (by kernel_rfl) #[] (by kernel_rfl) #[.string ⟨R.flatten.toArray⟩] (by kernel_rfl) hen (fun v u=>PrQ u1 Y (.returned v) u) ((hcon R.flatten u1 Y hlR hM1 hY).mono (fun e q hq=>?_)) ?_
   ·cases Y with
    | error y =>
     obtain⟨a,z⟩:=y
     obtain⟨g,rfl,hg,hb⟩:=hq
     exact⟨_,rfl,hH1.trans (hb.mono hH1.size),g,rfl,hg,hb⟩
    | ok l =>
     obtain⟨v',G,rfl,hp,hl⟩:=hq
     exact⟨_,rfl,hH1.trans (hp.low.mono hH1.size),v',G,rfl,hp,hl⟩
   intro v u2 hH2 hq
   cases Y with
   | error y =>
    obtain⟨a,z⟩:=y
    obtain⟨g,hve,hg,hb2⟩:=hq
    obtain rfl:v=.tuple #[.slice none 0 0,.iface 62 (.pointer (some ⟨g,0,none⟩))]:=by injection hve
    simp only[Act.put,Y_a,Y_b,Y_c]
    refine Y_t 5 41 _ (.tuple #[.slice none 0 0,.iface 62 (.pointer (some ⟨g,0,none⟩))]) rfl (Or.inl ⟨by kernel_rfl,fun u hu=>by kernel_rfl⟩) hH2 ?_
    simp only[Act.put,Y_a,Y_b,Y_c]
    refine Y_t 6 47 _ (.slice none 0 0) rfl (Or.inl ⟨by kernel_rfl,fun u hu=>by kernel_rfl⟩) hH2 ?_
    simp only[Act.put,Y_a,Y_b,Y_c]
    refine Y_t 7 48 _ (.iface 62 (.pointer (some ⟨g,0,none⟩))) rfl (Or.inl ⟨by kernel_rfl,fun u hu=>by kernel_rfl⟩) hH2 ?_
    simp only[Act.put,Y_a,Y_b,Y_c]
    refine Y_t 8 9 _ (.slice none 0 0) rfl (Or.inl ⟨by kernel_rfl,fun u hu=>by kernel_rfl⟩) hH2 ?_
    simp only[Act.put,Y_a,Y_b,Y_c]
    refine Y_t 9 10 _ (.iface 62 (.pointer (some ⟨g,0,none⟩))) rfl (Or.inl ⟨by kernel_rfl,fun u hu=>by kernel_rfl⟩) hH2 ?_
    simp only[Act.put,Y_a,Y_b,Y_c]
    refine wpAnyH_done (by kernel_rfl) ?_ _
    refine NoPanic.normal ?_
    rw[hY] at hR0
    dsimp only at hR0
    obtain⟨g1,g2,g3⟩:=HIN.out (a,z) hY
    dsimp only at g1 g2 g3
    have hSu:=hS3.keep hH2
    obtain⟨xb,xoff,rfl,hxb,hxc⟩:=Zaz (A:=PA) (Zeo hSu.ats) (by omega)
    obtain⟨n,hn⟩:∃ n,A[a-1]=n:=⟨_,rfl⟩
    have hxn:=hxc a (by omega)
    have hp1:PA[a]'(by omega)=n:=(by
     have h:=HPA.out
     subst h
     rw[← hn,List.getElem_cons]
     rw[dif_neg (by omega)])
    rw[hp1] at hxn
    have hXe:X=.error (n,z):=(by
     rw[← hR0]
     show Except.error (renP A (a,z))=_
     unfold renP
     dsimp only
     rw[if_neg (by omega),List.getD_eq_getElem?_getD,List.getElem?_eq_getElem g2,Option.getD_some,hn])
    subst hXe
    have hA4:Below u2.heap.size u2 (u2.alloc (.cells #[.pointer none] 62)):=(Below.refl _ u2).alloc (Nat.le_refl _) _
    have hbx:(u2.alloc (.cells #[.pointer none] 62)).heap[u2.heap.size]?=some (.cells #[.pointer none] 62):=heap_alloc_new u2 _
    have hz4:(u2.alloc (.cells #[.pointer none] 62)).heap.size=u2.heap.size+1:=by simp
    have hE4:ErrT (u2.alloc (.cells #[.pointer none] 62)):=hE3.low (hH2.trans (hA4.mono hH2.size)) (Nat.le_refl _)
    have hBu:=hSu.low
    clear hHeld hH1 hH2 hb2 hM1 hcon hen hxc hSu hS3 hx3 hc3 hR3 hp1 hR0 HIN HPA hn hY
    go_wp2_with fail
    refine (Zav g u2.heap.size (.pointer none) _ hE4 hbx).mono ?_
    rintro e w5 ⟨rfl,hb5,hg5⟩
    have hk5:∀ k,k<u2.heap.size→w5.heap[k]?=u2.heap[k]?:=fun k hk=>(hg5.block k (by omega) (fun e=>by have:=Option.some.inj e;omega)).trans (hA4.block k hk)
    have hgl:=(Array.getElem?_eq_some_iff.1 hg).1
    have hg6:=(hk5 g hgl).trans hg
    have hw5:w.heap.size≤u2.heap.size:=hBu.size
    have hB5:Below w.heap.size w w5:=⟨hg5.os.trans (hA4.os.trans hBu.os),hg5.tape.trans (hA4.tape.trans hBu.tape),hg5.output.trans (hA4.output.trans hBu.output),Nat.le_trans hw5 (Nat.le_trans (by omega) hg5.size),fun k hk=>(hk5 k (by omega)).trans (hBu.block k hk)⟩
    have q0:w5.cell? ⟨u2.heap.size,0,none⟩=some (.pointer (some ⟨g,0,none⟩)):=by rw[Lib.cell_of_heap hb5];rfl
    have q1:w5.cell? ⟨g,0,none⟩=some (.int .i64 (a:Int)):=by unfold fltO at hg6;rw[Lib.cell_of_heap hg6];rfl
    have q2:w5.cell? ⟨g,1,none⟩=some (.iface 27 (.int .i64 z)):=by unfold fltO at hg6;rw[Lib.cell_of_heap hg6];rfl
    have q3:=(World.cell?_of_block (hk5 xb hxb)).trans hxn
    have j1:(0:Int)≤(a:Int):=by omega
    have j2:(a:Int)<(PA.length:Int):=by omega
    clear hxn hg hg6 hgl hk5 hg5 hE4 hbx hA4 hb5 hBu hw5
    go_wp2_with fail
    go_region
    go_wp2
    go_ret3
    refine⟨_,rfl,?_,?_⟩
    ·exact heap_alloc_new w5 _
    ·exact Below.drew (hB5.alloc hB5.size _)
   | ok l =>
    obtain⟨v',G,hve,hp,hl⟩:=hq
    obtain⟨o',c',rfl⟩:=hp.holds.row.form
    obtain rfl:v=.tuple #[.slice o' G.length c',.nilIface]:=by injection hve
    simp only[Act.put,Y_a,Y_b,Y_c]
    refine Y_t 5 41 _ (.tuple #[.slice o' G.length c',.nilIface]) rfl (Or.inl ⟨by kernel_rfl,fun u hu=>by kernel_rfl⟩) hH2 ?_
    simp only[Act.put,Y_a,Y_b,Y_c]
    refine Y_t 6 47 _ (.slice o' G.length c') rfl (Or.inl ⟨by kernel_rfl,fun u hu=>by kernel_rfl⟩) hH2 ?_
    simp only[Act.put,Y_a,Y_b,Y_c]
    refine Y_t 7 48 _ (.nilIface) rfl (Or.inl ⟨by kernel_rfl,fun u hu=>by kernel_rfl⟩) hH2 ?_
    simp only[Act.put,Y_a,Y_b,Y_c]
    refine Y_t 8 9 _ (.slice o' G.length c') rfl (Or.inl ⟨by kernel_rfl,fun u hu=>by kernel_rfl⟩) hH2 ?_
    simp only[Act.put,Y_a,Y_b,Y_c]
    refine Y_t 9 10 _ (.nilIface) rfl (Or.inl ⟨by kernel_rfl,fun u hu=>by kernel_rfl⟩) hH2 ?_
    simp only[Act.put,Y_a,Y_b,Y_c]
    refine wpAnyH_done (by kernel_rfl) ?_ _
    refine NoPanic.normal ?_
    rw[hY] at hR0
    dsimp only at hR0
    subst hR0
    have hA4:Below u2.heap.size u2 (u2.alloc (.cells #[.pointer none] 62)):=(Below.refl _ u2).alloc (Nat.le_refl _) _
    have hB4:=hH2.trans (hA4.mono hH2.size)
    have q0:(u2.alloc (.cells #[.pointer none] 62)).cell? ⟨FB,0,none⟩=some (.int .i64 (fmNo k)):=(World.cell?_of_block (hB4.block FB hFBl)).trans hx3.cells.1
    have hP:=ZiO (ZiN hp (hS3.low.trans (hH2.mono hS3.low.size)) (Nat.le_trans hS3.low.size hH1.size)) hA4
    clear hHeld hH1 hH2 hM1 hcon hen hS3 hx3 hc3 hFBl hR3 HIN HPA hY hp hA4 hB4
    go_wp2_with fail
    refine (Zaw _ _).mono ?_
    rintro e w5 ⟨rfl,rfl⟩
    go_wp2_with fail
    generalize u2.alloc (.cells #[.pointer none] 62)=W4 at *
    go_quiet (fail)
    go_wp2
    go_ret3
    exact⟨_,G,rfl,ZiO hP (Below.dN (Below.refl _ _) _),hl⟩
  ·have hk4:∃ m,k=m+3:=⟨k-3,by omega⟩
   obtain⟨m,rfl⟩:=hk4
   have hdk:decide (m+3<3)=false:=decide_eq_false hk3
   rw[hdk,show fmA (bgV B) (bgV (B+1)) (m+3)=#[.int .i64 0,.nilFunc,.int .i64 0,.nilFunc,.nilFunc] from rfl]
   obtain⟨n,hn⟩:∃ n,A[0]'(by omega)=n:=⟨_,rfl⟩
   have hXe:X=.error (n,180):=(by
    rw[← hR0]
    show Except.error (renP A (1,180))=_
    unfold renP
    dsimp only
    rw[if_neg (by decide),List.getD_eq_getElem?_getD,List.getElem?_eq_getElem (by omega:1-1<A.length),Option.getD_some]
    exact congrArg (fun x=>Except.error (x,(180:Int))) hn)
   subst hXe
   have hS3:=hS2.keep ((Below.refl _ w2).alloc (Nat.le_refl _) (.cells #[.int .i64 0,.nilFunc,.int .i64 0,.nilFunc,.nilFunc] 70))
   have hB3:=hS3.low
   obtain⟨xb,xoff,rfl,hxb,hxc⟩:=Zaz (A:=PA) (Zeo hS3.ats) (by omega)
   have hxn:=hxc 1 (by omega)
   have hp1:PA[1]'(by omega)=n:=(by
    have h:=HPA.out
    subst h
    exact hn)
   rw[hp1] at hxn
   have j2:(1:Int)<(PA.length:Int):=by omega
   clear hxc hR0 HIN hS2 hp1 hS3 hn HPA
   go_wp2_with fail
   generalize w2.alloc (.cells #[.int .i64 0,.nilFunc,.int .i64 0,.nilFunc,.nilFunc] 70)=W3 at *
   go_region
   go_wp2
   go_ret3
   refine⟨_,rfl,?_,?_⟩
   ·exact heap_alloc_new W3 _
   ·exact Below.drew (hB3.alloc hB3.size _)
end

section
open Go.RowKit Go.Proofs.YtcniomgjikienaaGreatDoor.Tx
open Ln
attribute [local go_sem] Zhc
def wk8:List UInt8:=[100,105,102,102,32,45,117,32,97,32,98,10,45,45,45,32,97,10,43,43,43,32,98,10,64,64,32,45,49,32,43,49,32,64,64,10,45,120,10,43,121,10]
def wkP8:Pth:=⟨[97],[98],[⟨1,1,1,1,[⟨45,[120,10]⟩,⟨43,[121,10]⟩]⟩]⟩
theorem Zme:psT atC wk8=.ok (3,[wkP8]):=by rfl
theorem Zmd:frmT [49,100,48,10]=1:=by rfl
theorem Zmf:strp (1:Int).toNat [97,47,98,47,99]=[98,47,99]:=by rfl
theorem Zih {F:List Pfd} {p0:Pth} (h:F.map (·.x)=[p0]):∃ f,F=[f]∧f.x=p0:=by
 match F,h with
 | [f],h =>
  simp at h
  exact⟨f,rfl,h⟩
theorem ZiI (w:World) (hE:ErrT w) (hM:Mxl w):Calls Tryz.prog 21 #[] w fun e w'=>e=.returned (.bool true)∧Below w.heap.size w w':=by
 have hp:=ZhR wk8 w (by decide) hE hM _ Zme
 have hs:=fun u=>ZhT [97,47,98,47,99] 1 (by decide) (by decide) u [98,47,99] Zmf
 have hf:=fun u=>ZhP [49,100,48,10] u (by decide) 1 Zmd
 go_enter Tryz.func21,Tryz.ntmps21
 go_wp2_with fail
 refine hp.mono ?_
 rintro e w1 ⟨v',F,rfl,hP,hFx⟩
 obtain⟨f,rfl,hx⟩:=Zih hFx
 have hH:=hP.holds
 obtain⟨o,c,rfl⟩:=hH.row.form
 obtain⟨b,off,rfl,hb,hc⟩:=hH.at (by simp)
 obtain⟨c0,c1,c2⟩:=hc 0 (by simp)
 have hin:=hH.ins f (by simp)
 obtain⟨ho,hcc,hv⟩:=hin.2.1.form
 have hl:f.hs.length=1:=by have:=congrArg List.length hin.1;rw[hx] at this;simpa [wkP8] using this
 have e0:f.x.old=[97]:=by rw[hx];rfl
 simp only[List.getElem_cons_zero] at c0 c2
 rw[e0] at c0
 simp only[Nat.zero_mul,Nat.add_zero] at c0 c2
 rw[hv,hl] at c2
 have hB:=hP.low
 clear hp hFx hP hH hc hin hx hv e0 c1
 go_wp2_with fail
 refine (hs _).mono ?_
 rintro e w2 ⟨rfl,hB2⟩
 clear hs
 go_wp2_with fail
 refine (hf _).mono ?_
 rintro e w3 ⟨rfl,hB3⟩
 go_wp2
 go_ret
 exact⟨rfl,hB.trans ((hB2.trans (hB3.mono hB2.size)).mono hB.size)⟩
end

section
open Ln
end

section
open Go.RowKit
end

section
open Go.RowKit
end

section
open Go.RowKit
theorem Zne {L:List Pth} {F:List Pfd} (hF:F.map (·.x)=L) (hi:∀ f∈F,f.hs.map (·.1)=f.x.hs) (h1:∀ q∈L,q.hs≠[]∧∀ h∈q.hs,chkH h=0) (h2:L.length≤64) (h3:ptM L≤436207616):F.length≤64∧∀ f∈F,f.hs.length≠0∧(∀ y∈f.hs,chkH y.1=0)∧HOk f.hs:=by
 refine⟨by rw[← hF,List.length_map] at h2;exact h2,fun f hf=>?_⟩
 have hm:f.x∈L:=by rw[← hF];exact List.mem_map_of_mem hf
 obtain⟨h4,h5⟩:=h1 _ hm
 have h6:=hi f hf
 refine⟨fun e=>h4 ?_,fun y hy=>h5 _ ?_,ZnK ?_⟩
 ·rw[← h6,List.eq_nil_of_length_eq_zero e]
  rfl
 ·rw[← h6]
  exact List.mem_map_of_mem hy
 ·have h7:=Zpl hm
  rw[h6]
  omega
theorem Znd {F:List Pfd} (hF:F.map (·.x)=[]):F.length≤64∧∀ f∈F,f.hs.length≠0∧(∀ y∈f.hs,chkH y.1=0)∧HOk f.hs:=by
 have:F=[]:=by simpa using hF
 subst this
 exact⟨by simp,fun f hf=>by cases hf⟩
theorem ZmL {t:List UInt8} {X:Except (Nat × Int) (List Pth)} (h:cxT t=X) {F:List Pfd} (hF:F.map (·.x)=okP X) (hi:∀ f∈F,f.hs.map (·.1)=f.x.hs):F.length≤64∧∀ f∈F,f.hs.length≠0∧(∀ y∈f.hs,chkH y.1=0)∧HOk f.hs:=by
 cases X with
 | error e=>exact Znd hF
 | ok L=>exact Zne hF hi (fun q hq=>⟨((ZmM h).1 q hq).ne,fun x hx=>(((ZmM h).1 q hq).gd x hx).chk⟩) (ZmM h).2 (ZmN h)
theorem ZrY {x t:List UInt8} {X:Except (Nat × Int) (List Pth)} (h:unT x t=X) {F:List Pfd} (hF:F.map (·.x)=okP X) (hi:∀ f∈F,f.hs.map (·.1)=f.x.hs):F.length≤64∧∀ f∈F,f.hs.length≠0∧(∀ y∈f.hs,chkH y.1=0)∧HOk f.hs:=by
 cases X with
 | error e=>exact Znd hF
 | ok L=>exact Zne hF hi (fun q hq=>⟨((ZrZ h).1 q hq).ne,((ZrZ h).1 q hq).gd⟩) (ZrZ h).2 (Zsa h)
end

section
open Go.RowKit Go.Proofs.YtcniomgjikienaaGreatDoor.Tx
open Ln
def ok8 (X:Except (Nat × Int) (Int × List Pth)):List Pth:=match X with
 | .error _=>[]
 | .ok l=>l.2
def fm8 (X:Except (Nat × Int) (Int × List Pth)):Int:=match X with
 | .error _=>0
 | .ok l=>l.1
def fa8 (X:Except (Nat × Int) (Int × List Pth)):Int × Int:=match X with
 | .error (a,z)=>((a:Int),z)
 | .ok _=>(0,0)
def PuQ8 (w:World) (X:Except (Nat × Int) (Int × List Pth)) (e:Ending) (w':World):Prop:=∃ o c F ev,e=.returned (.tuple #[.slice o F.length c,.int .i64 (fm8 X),ev])∧Pw w (.slice o F.length c) F w'∧F.map (·.x)=ok8 X∧∀ u:World,Below w'.heap.size w' u→ErrT u→Calls Tryz.prog 10 #[ev] u fun e u'=>e=.returned (.agg #[.int .i64 (fa8 X).1,.int .i64 (fa8 X).2])∧Below u.heap.size u u'
theorem Zpd {w:World} {X:Except (Nat × Int) (Int × List Pth)} {e:Ending} {w':World} (hq:PqQ w X e w'):PuQ8 w X e w':=by
 cases X with
 | error z =>
  obtain⟨a,z⟩:=z
  obtain⟨g,rfl,hg,hb⟩:=hq
  exact⟨none,0,[],_,rfl,⟨hb,Zen _ _ _ _,fun x hx=>by cases hx⟩,rfl,fun u hu hE=>Zrl g (a:Int) z u hE ((hu.block g (Array.getElem?_eq_some_iff.1 hg).1).trans hg)⟩
 | ok l =>
  obtain⟨f,l⟩:=l
  obtain⟨v,F,rfl,hP,hPm⟩:=hq
  obtain⟨o,c,rfl⟩:=(Zeo hP.own).form
  exact⟨o,c,F,_,rfl,hP,hPm,fun u _ _=>Zrm u⟩
theorem ZoQ (t:List UInt8) (w:World) (hl:t.length≤1099511627776) (hE:ErrT w) (hM:Mxl w) (X:Except (Nat × Int) (Int × List Pth)) (HX:Hid (psT atC t=X)) :
  Calls Tryz.prog 8 #[.string ⟨t.toArray⟩] w fun e w'=>PqQ w X e w':=by
 by_cases h:1048576<t.length
 ·have hX:=HX.out
  unfold psT at hX
  rw[if_pos h] at hX
  subst hX
  exact ZoR t w h hl
 ·exact ZhR t w (by omega) hE hM X HX
theorem ZnR {f:Int} {u:List UInt8} (hu:u.length≤1099511627776) {L:List Pth} (h:inP atC f u=.ok L) {F:List Pfd} (hF:F.map (·.x)=L) (hi:∀ f∈F,f.hs.map (·.1)=f.x.hs):F.length≤64∧∀ f∈F,HOw f.hs:=by
 unfold inP at h
 split at h
 ·obtain⟨h1,h2⟩:=ZrY h (F:=F) (by rw[hF];rfl) hi
  exact⟨h1,fun f hf=>⟨(h2 f hf).2.2.1,fun x hx=>((h2 f hf).2.2.2 x hx).1⟩⟩
 ·split at h
  ·obtain⟨h1,h2⟩:=ZmL h (F:=F) (by rw[hF];rfl) hi
   exact⟨h1,fun f hf=>⟨(h2 f hf).2.2.1,fun x hx=>((h2 f hf).2.2.2 x hx).1⟩⟩
  ·split at h
   ·cases hp:prsT u with
    | error e=>rw[hp] at h;cases h
    | ok l =>
     rw[hp] at h
     have hL:[⟨[],[],l⟩]=L:=by injection h
     subst hL
     obtain⟨g,rfl,hg⟩:=Zih hF
     refine⟨by simp,fun f hf=>?_⟩
     obtain rfl:f=g:=by simpa using hf
     have h1:=hi f (by simp)
     rw[hg] at h1
     exact ZnL (by rw[h1];exact hp) hu
   ·cases h
theorem Zpj {t:List UInt8} (ht:t.length≤1099511627776) {X:Except (Nat × Int) (Int × List Pth)} (h:psT atC t=X) {F:List Pfd} (hF:F.map (·.x)=ok8 X) (hi:∀ f∈F,f.hs.map (·.1)=f.x.hs):F.length≤64∧∀ f∈F,HOw f.hs:=by
 have hnil:ok8 X=[]→F.length≤64∧∀ f∈F,HOw f.hs:=by
  intro h0
  rw[h0] at hF
  have:F=[]:=by simpa using hF
  subst this
  exact⟨by simp,fun f hf=>by cases hf⟩
 unfold psT at h
 split at h
 ·subst h;exact hnil rfl
 ·split at h
  ·subst h;exact hnil rfl
  ·cases hp:inP atC (frmT t) (ntR (splitL t)).flatten with
   | error e=>rw[hp] at h;subst h;exact hnil rfl
   | ok L =>
    rw[hp] at h
    subst h
    exact ZnR (by have:=Zhg t;omega) hp hF hi
end

section
open Go.RowKit Go.Proofs.YtcniomgjikienaaGreatDoor.Tx
def Bu (B b:Nat) (v:Value) (acc:List UInt8) (w:World):Prop:=Bld 85 5 B b v (Lib.byteCells acc) w
theorem Bu.low {B b:Nat} {v:Value} {acc:List UInt8} {w w':World} (h:Bu B b v acc w) (hb:Below w.heap.size w w'):Bu B b v acc w':=Bld.kept h hb.block
end

section
open Go.RowKit Go.Proofs.YtcniomgjikienaaGreatDoor.Tx
end

section
open Go.RowKit Go.Proofs.YtcniomgjikienaaGreatDoor.Tx
end

section
open Ln
end

section
open Go.RowKit
end

section
open Go.RowKit
theorem Zqg (F G:List Pfd) (va vb:Value) (w:World) (ha:HPp w va F) (hb:HPp w vb G) (HE:Hid (F.map (·.x)=G.map (·.x))) (HO:Hid (∀ f∈F,HOw f.hs)) (hl:F.length≤1099511627776) :
  Calls Tryz.prog 11 #[va,vb] w fun e w'=>e=.returned (.bool true)∧Below w.heap.size w w':=by
 have hc:=Zqh F G va vb w ha hb HE HO hl
 obtain⟨lo,lc,rfl⟩:=Holds.form ha.row
 obtain⟨mo,mc,rfl⟩:=Holds.form hb.row
 go_enter Tryz.func11,Tryz.ntmps11
 go_wp2_with fail
 refine hc.mono ?_
 rintro e w1 ⟨rfl,hB1⟩
 go_wp2
 go_ret
 exact⟨rfl,hB1⟩
end

section
open Ln
def rmC (k:Nat) (s:List UInt8):List UInt8:=(s.take k).filter fun c=>c != 10
def rmL (s:List UInt8):List UInt8:=[35,32]++rmC 100 s++[10]
theorem ZsI {k:Nat} {s:List UInt8} (h:k<s.length):rmC (k+1) s=rmC k s++(if s[k]=10 then [] else [s[k]]):=by
 unfold rmC
 rw[List.take_succ_eq_append_getElem h,List.filter_append]
 congr 1
 by_cases e:s[k]=10
 ·rw[if_pos e];simp[e]
 ·rw[if_neg e];simp[e]
theorem ZsH (k:Nat) (s:List UInt8):(rmC k s).length≤k:=by
 unfold rmC
 have h1:=List.length_filter_le (fun c:UInt8=>c != 10) (s.take k)
 have h2:(s.take k).length≤k:=by rw[List.length_take];omega
 omega
theorem ZsG {k:Nat} {s:List UInt8} (h:k=s.length∨k=100) (hk:k≤100):rmC k s=rmC 100 s:=by
 rcases h with h | h
 ·unfold rmC
  rw[List.take_of_length_le (by omega),List.take_of_length_le (by omega)]
 ·rw[h]
theorem ZsK (s:List UInt8):(rmL s).length≤103:=by
 have:=ZsH 100 s
 unfold rmL
 simp only[List.length_append,List.length_cons,List.length_nil]
 omega
theorem ZsJ (s:List UInt8):∃ t,rmL s=t++[10]∧∀ c∈t,c≠10:=by
 refine⟨[35,32]++rmC 100 s,rfl,fun c hc=>?_⟩
 rcases List.mem_append.1 hc with h | h
 ·simp at h
  rcases h with rfl | rfl<;>decide
 ·unfold rmC at h
  simpa using (List.mem_filter.1 h).2
theorem ZsL (s:List UInt8):rmkB (rmL s)=true:=rfl
structure RmI (L:List (List UInt8)) (i n:Nat) (S:List (List UInt8)):Prop where
 fed:Fed S
 nt:ntR S=ntR (L.take n)
 le:n≤L.length
 sz:S.flatten.length+(L.drop n).flatten.length≤L.flatten.length+103 * i
theorem ZsB (a b:List (List UInt8)):ntR (a++b)=ntR a++ntR b:=List.filter_append ..
theorem ZsS (L:List (List UInt8)) {n m:Nat} (h:n≤m):L.take n++cut L n ((m:Int)-n)=L.take m:=by
 unfold cut
 rw[show ((n:Int)).toNat=n by omega,show ((m:Int)-n).toNat=m-n by omega]
 have e:m=n+(m-n):=by omega
 conv=>rhs;rw[e,List.take_add]
theorem Zsn {L:List (List UInt8)} (h:Fed L) (i n:Int):Fed (cut L i n):=fun s hs=>h s (List.mem_of_mem_drop (List.mem_of_mem_take hs))
theorem RmI.nil (L:List (List UInt8)):RmI L 0 0 []:=⟨fun s hs=>by (cases hs),by simp[ntR],Nat.zero_le _,by simp⟩
theorem Zsp (L:List (List UInt8)) {n m:Nat} (h:n≤m):(cut L n ((m:Int)-n)).flatten.length+(L.drop m).flatten.length=(L.drop n).flatten.length:=by
 have e:L.drop n=cut L n ((m:Int)-n)++L.drop m:=by
  unfold cut
  rw[show ((n:Int)).toNat=n by omega,show ((m:Int)-n).toNat=m-n by omega]
  conv=>lhs;rw[← List.take_append_drop (m-n) (L.drop n)]
  rw[List.drop_drop,show n+(m-n)=m by omega]
 rw[e,List.flatten_append,List.length_append]
theorem RmI.step {L S:List (List UInt8)} {i n m:Nat} (h:RmI L i n S) (hL:Fed L) (hm:n≤m) (hml:m≤L.length) (s:List UInt8):RmI L (i+1) m (S++cut L n ((m:Int)-n)++[rmL s]):=by
 refine⟨fun x hx=>?_,?_,hml,?_⟩
 ·rcases List.mem_append.1 hx with hx | hx
  ·rcases List.mem_append.1 hx with hx | hx
   ·exact h.fed x hx
   ·exact Zsn hL _ _ x hx
  ·rw[List.mem_singleton.1 hx]
   exact ZsJ s
 ·rw[ZsB,ZsB,h.nt,← ZsB,ZsS L hm]
  show _++ntR [rmL s]=_
  have:ntR [rmL s]=[]:=by
   unfold ntR
   rw[List.filter_cons,ZsL]
   rfl
  rw[this,List.append_nil]
 ·have h1:=h.sz
  have h2:=Zsp L hm
  have h3:=ZsK s
  simp only[List.flatten_append,List.flatten_cons,List.flatten_nil,List.length_append,List.append_nil]
  omega
theorem RmI.done {L S:List (List UInt8)} {i n:Nat} (h:RmI L i n S) (hL:Fed L):ntR (splitL (S++cut L n ((L.length:Int)-n)).flatten)=ntR L:=by
 rw[Zjr _ (Zss (fun x hx=>?_)),ZsB,h.nt,← ZsB,ZsS L h.le,List.take_length]
 rcases List.mem_append.1 hx with hx | hx
 ·exact h.fed x hx
 ·exact Zsn hL _ _ x hx
end

section
open Go.RowKit
theorem ZsT (s:List UInt8):Lib.trimSuffix s [10]=bareT s:=by
 unfold Lib.trimSuffix bareT
 rw[ZkK,List.dropLast_eq_take]
 rfl
theorem Zsz (l:List UInt8) (w:World) (hl:l.length≤9223372036854775807) :
  Calls Tryz.prog 24 #[.string ⟨l.toArray⟩] w fun e w'=>e=.returned (.tuple #[.string ⟨(bareT l).toArray⟩,.bool (fdB l)])∧w=w':=by
 go_enter Tryz.func24,Tryz.ntmps24
 go_wp2_with fail
 refine (Tryz.strings_CutSuffix ⟨l.toArray⟩ ⟨#[10]⟩ _ hl).mono ?_
 rintro e w1 ⟨rfl,rfl⟩
 go_wp2
 go_ret2
 rw[← ZsT,← ZkK]
 exact⟨rfl,rfl⟩
end

section
open Go.RowKit Go.Proofs.YtcniomgjikienaaGreatDoor.Tx
attribute [local go_sem] Zhc ByteArray.extract_mk
theorem mod18 (k:Int) (m:Int) (h0:0<m) (h1:m≤100):∃ c,wrap64 ((IntKind.u64.wrap k).tmod m)=c∧0≤c∧c<m:=by
 refine⟨_,rfl,?_⟩
 have h:0≤IntKind.u64.wrap k:=by simp[IntKind.wrap,IntKind.bits,IntKind.signed];omega
 generalize IntKind.u64.wrap k=z at h ⊢
 rw[Int.tmod_eq_emod_of_nonneg h]
 have h2:=Int.emod_nonneg z (by omega:m≠0)
 have h3:=Int.emod_lt_of_pos z h0
 unfold wrap64
 omega
end

end Go.Proofs.YtcniomgjikienaaGreatDoor
