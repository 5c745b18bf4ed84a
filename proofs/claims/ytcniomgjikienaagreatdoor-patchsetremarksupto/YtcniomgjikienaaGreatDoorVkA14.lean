/-
  Texts that belong together, joined: NpO, NpRs, NpP, NpRp, NpRq, NpRh, NpRr, RcMath, RcRj, PsI, QsB, UkM.
-/
import Derived.Test.YtcniomgjikienaaGreatDoorVkA13
import Derived.Lib.AppendStr
import Derived.BigQuiet

set_option maxHeartbeats 16000000
set_option maxRecDepth 100000
namespace Go.Proofs.YtcniomgjikienaaGreatDoor

section
open Go.RowKit
theorem ZhD {u:World} {B:Nat} {e t:TypeId} {s:Nat} {v:Value} {n k:Nat} {xs:List Value} {cs:Array Value} {fr:Nat × Nat} (h:u.ownsRow B e s v n xs) (hb:u.heap[k]?=some (.cells cs t fr)) (he:e≠t):v.ownBlock≠some k:=by
 intro hg
 rcases h.2 with ⟨rfl,_⟩ | ⟨g,cap,cur,rfl,_,hg2,_⟩
 ·cases hg
 ·simp[Value.ownBlock] at hg
  subst hg
  rw[hb] at hg2
  simp at hg2
  exact he hg2.2.1.symm
def ryAt (u:World) (R:Nat):Nat:=match u.heap[R]? with
 | some (.cells cs _ _)=>match cs[1]? with
  | some (Value.int _ p)=>p.toNat
  | _=>0
 | _=>0
theorem ZjN {u:World} {R:Nat} {vL:Value} {p:Nat} (h:Ry u R vL (p:Int)):ryAt u R=p:=by
 unfold Ry ryO at h
 unfold ryAt
 rw[h]
 simp
structure RdS (w:World) (vL:Value) (ov:Value) (P:List (Hk × Value)) (p:Int) (u:World):Prop where
 hs:Hs w ov P u
 f0:u.heap[w.heap.size]?=some (.cells #[ov] 40)
 f1:u.heap[w.heap.size+1]?=some (.cells #[.nilIface] 24)
 ry:Ry u (w.heap.size+1+1) vL p
section
variable {w u u':World} {vL ov:Value} {P:List (Hk × Value)} {p p':Int}
theorem RdS.c0 (h:RdS w vL ov P p u):u.cell? ⟨w.heap.size,0,none⟩=some ov:=by rw[Lib.cell_of_heap h.f0];rfl
theorem RdS.drew (h:RdS w vL ov P p u):RdS w vL ov P p u.drew:=⟨⟨h.hs.low.drew,h.hs.own,h.hs.ins⟩,h.f0,h.f1,h.ry⟩
theorem RdS.alloc (h:RdS w vL ov P p u) (o:Obj):RdS w vL ov P p (u.alloc o) :=
 have hl:∀ k x,u.heap[k]?=some x→(u.alloc o).heap[k]?=some x:=fun k _ hk=>(Lib.alloc_old u o k (Array.getElem?_eq_some_iff.1 hk).1).trans hk
 ⟨h.hs.alloc o,hl _ _ h.f0,hl _ _ h.f1,hl _ _ h.ry⟩
theorem RdS.alloc_c0 (h:RdS w vL ov P p u) (o:Obj):(u.alloc o).cell? ⟨w.heap.size,0,none⟩=some ov:=(h.alloc o).c0
theorem RdS.call (h:RdS w vL ov P p u) (hg:u.grownBy u' (some (w.heap.size+1+1))) (q:Ry u' (w.heap.size+1+1) vL p'):RdS w vL ov P p' u':=by
 have hk:∀ k x,k≠w.heap.size+1+1→u.heap[k]?=some x→u'.heap[k]?=some x:=fun k _ hk hx=>(hg.block k (Array.getElem?_eq_some_iff.1 hx).1 (fun e=>hk (Option.some.inj e))).trans hx
 refine⟨h.hs.grown hg (fun k e=>by cases e;omega) (fun k e=>by cases e;exact ZhD h.hs.own h.ry (by decide)) (fun x hx k e=>by cases e;exact ZhD (h.hs.ins x hx) h.ry (by decide)),hk _ _ (by omega) h.f0,hk _ _ (by omega) h.f1,q⟩
theorem RdS.more (h:RdS w vL ov P p u) {x:Hk} {y ov':Value} (hy:u.ownsRow w.heap.size 47 2 y x.ls.length (mkcells x.ls)) (hg:u.grownBy u' ov.ownBlock) (ho:u'.ownsRow w.heap.size 45 5 ov' (P.length+1) (hkcells P++hkC x y)) :
  RdS w vL ov' (P++[(x,y)]) p (u'.setCell ⟨w.heap.size,0,none⟩ ov')∧u'.cell? ⟨w.heap.size,0,none⟩=some ov∧u'.frozen? ⟨w.heap.size,0,none⟩=false:=by
 have hs:=h.hs.more hy hg ho
 have hk:∀ (k:Nat) (cs:Array Value) (t:TypeId) (fr:Nat × Nat),t≠45→u.heap[k]?=some (Obj.cells cs t fr)→u'.heap[k]?=some (Obj.cells cs t fr):=fun k cs t fr ht hx=>(hg.block k (Array.getElem?_eq_some_iff.1 hx).1 (fun e=>ZhD h.hs.own hx ht.symm e.symm)).trans hx
 have f0:=hk _ _ _ _ (by decide) h.f0
 have f1:=hk _ _ _ _ (by decide) h.f1
 have ry:Ry u' (w.heap.size+1+1) vL p:=hk _ _ _ _ (by decide) h.ry
 have hg2:=ZdS u' w.heap.size 0 ov'
 refine⟨⟨hs.grown hg2 (fun k e=>by cases e;omega) (fun k e=>by cases e;exact ZhD hs.own f0 (by decide)) (fun x hx k e=>by cases e;exact ZhD (hs.ins x hx) f0 (by decide)),heap_setCell_same u' _ 0 _ _ ov' f0,?_,ry.keep hg2 (fun e=>by have:=Option.some.inj e;omega)⟩,by rw[Lib.cell_of_heap f0];rfl,Lib.frozen_of_heap f0 0⟩
 exact (Below.heap_setCell _ _ _ _ (by simp)).trans f1
end
theorem ZfI {u:World} {a:Addr} {o:Option Addr} {n c:Nat} (h:u.cell? a=some (.slice o n c)) {op:Oper} (x:Operand) (ho:op.op=.load 40 x) {ev:Operand→Value} (hx:ev x=.pointer (some a)) :
  (execOp ev op).run Tryz.prog u=.ok (.value (.slice o n c)) u:=by
 simp only[execOp,ho,hx]
 go_simp
theorem ZcY {u:World} {a:Addr} {v0:Value} (hc:u.cell? a=some v0) (hf:u.frozen? a=false) {o:Option Addr} {n c:Nat} {op:Oper} (x y:Operand) (ho:op.op=.store 40 x y) {ev:Operand→Value} (hx:ev x=.pointer (some a)) (hy:ev y=.slice o n c) :
  (execOp ev op).run Tryz.prog u=.ok .skip (u.setCell a (.slice o n c)):=by
 simp only[execOp,ho,hx,hy]
 go_simp
def thenH (l:List Hk) (X:Except (Nat × Int) (List Hk)):Except (Nat × Int) (List Hk) :=
 match X with
 | .error e=>.error e
 | .ok m=>.ok (l++m)
def RdQ (w:World) (X:Except (Nat × Int) (List Hk)) (e:Ending) (w':World):Prop :=
 match X with
 | .error (a,z)=>∃ g,e=.returned (.tuple #[.slice none 0 0,.iface 62 (.pointer (some ⟨g,0,none⟩))])∧w'.heap[g]?=some (fltO (a:Int) z)∧Below w.heap.size w w'
 | .ok l=>∃ v' P,e=.returned (.tuple #[v',.nilIface])∧Hs w v' P w'∧P.map (·.1)=l
def PnQ (w:World) (X:Except (Nat × Int) (List Hk)) (c:List PanicEntry) (u:World):Prop :=
 ∃ (g a:Nat) (z:Int) (v0:Value),c=[{ v:=.iface 62 (.pointer (some ⟨g,0,none⟩)),recovered:=false }]∧u.heap[g]?=some (fltO (a:Int) z)∧X=.error (a,z)∧Below w.heap.size w u∧u.heap[w.heap.size]?=some (.cells #[v0] 40)∧u.heap[w.heap.size+1]?=some (.cells #[.nilIface] 24)
theorem Ziy {w:World} {X:Except (Nat × Int) (List Hk)}:∀ c (a:Act) u,PnQ w X c u→a.tmps.getD 2 undef=.pointer (some ⟨w.heap.size,0,none⟩)→a.tmps.getD 3 undef=.pointer (some ⟨w.heap.size+1,0,none⟩)→a.defers=[{ target:=.fn (.func 267) #[.pointer (some ⟨w.heap.size,0,none⟩),.pointer (some ⟨w.heap.size+1,0,none⟩)],args:=#[] }]→bodyPostD Tryz.prog Tryz.f221 (fun e w'=>RdQ w X e w') (.panic c) a u:=by
 rintro c a u ⟨g,pa,z,v0,rfl,hg,rfl,hlow,f0,f1⟩ h2 h3 hd
 show Leaves Tryz.prog Tryz.f221 a.tmps (fun e w'=>RdQ w (.error (pa,z)) e w') a.defers _ u
 rw[hd]
 have g0:g≠w.heap.size:=(by rintro rfl;rw[f0] at hg;unfold fltO at hg;simp at hg)
 have g1:g≠w.heap.size+1:=(by rintro rfl;rw[f1] at hg;unfold fltO at hg;simp at hg)
 refine leaves_cons (f:=267) (args:=#[.pointer (some ⟨w.heap.size,0,none⟩),.pointer (some ⟨w.heap.size+1,0,none⟩)]) (by simp) (by simp[go_sem]) ?_
 refine (Zbb w.heap.size (w.heap.size+1) g v0 .nilIface [] u (by omega) (by rw[Lib.cell_of_heap f0];rfl) (Lib.frozen_of_heap f0 0) (by rw[Lib.cell_of_heap f1];rfl) (Lib.frozen_of_heap f1 0)).mono ?_
 rintro e u' w'' ⟨rfl,rfl,rfl⟩
 have s0:=heap_setCell_same u w.heap.size 0 _ _ (.slice none 0 0) f0
 have s1:(u.setCell ⟨w.heap.size,0,none⟩ (.slice none 0 0)).heap[w.heap.size+1]?=some (.cells #[.nilIface] 24):=(Below.heap_setCell _ _ _ _ (by simp)).trans f1
 have s2:=heap_setCell_same _ (w.heap.size+1) 0 _ _ (.iface 62 (.pointer (some ⟨g,0,none⟩))) s1
 have s3:((u.setCell ⟨w.heap.size,0,none⟩ (.slice none 0 0)).setCell ⟨w.heap.size+1,0,none⟩ (.iface 62 (.pointer (some ⟨g,0,none⟩)))).heap[w.heap.size]?=some (.cells #[.slice none 0 0] 40):=(Below.heap_setCell _ _ _ _ (by simp)).trans s0
 have s4:((u.setCell ⟨w.heap.size,0,none⟩ (.slice none 0 0)).setCell ⟨w.heap.size+1,0,none⟩ (.iface 62 (.pointer (some ⟨g,0,none⟩)))).heap[g]?=some (fltO (pa:Int) z):=((Below.heap_setCell _ _ _ _ (by simpa using g1)).trans (Below.heap_setCell _ _ _ _ (by simpa using g0))).trans hg
 have hl:Below w.heap.size w ((u.setCell ⟨w.heap.size,0,none⟩ (.slice none 0 0)).setCell ⟨w.heap.size+1,0,none⟩ (.iface 62 (.pointer (some ⟨g,0,none⟩)))).drew:=((hlow.setCell (Nat.le_refl _) _).setCell (by show w.heap.size≤w.heap.size+1;omega) _).drew
 generalize (u.setCell ⟨w.heap.size,0,none⟩ (.slice none 0 0)).setCell ⟨w.heap.size+1,0,none⟩ (.iface 62 (.pointer (some ⟨g,0,none⟩)))=W at *
 exact⟨_,Zji a.tmps W.drew w.heap.size (w.heap.size+1) 0 0 none _ h2 h3 (by rw[Lib.cell_of_heap (w:=W.drew) s3];rfl) (by rw[Lib.cell_of_heap (w:=W.drew) s2];rfl),g,rfl,s4,hl⟩
theorem Zhd (L:List (List UInt8)) (lo:Option Addr) (lc:Nat) (w:World) (hL:HS w (.slice lo L.length lc) L) (HPl:Hid (Plain L)) (hLl:L.length≤1048576) (HSl:Hid (∀ s∈L,s.length≤1048576)) (X:Except (Nat × Int) (List Hk)) (HX:Hid (hksK L.length 0 0 L=X)) :
  Calls Tryz.prog 221 #[.slice lo L.length lc] w fun e w'=>RdQ w X e w':=by
 have hmf:∀ (fn:Fn) (first cap:Array Value) (w:World),(Instr.makeFunc fn first cap).run Tryz.prog w=.ok (.func fn first cap) w:=fun _ _ _ _=>rfl
 obtain⟨Pn,hPnd⟩:∃ Pn,PnQ w X=Pn:=⟨_,rfl⟩
 have HPn:Hid (∀ c (a:Act) u,Pn c u→a.tmps.getD 2 undef=.pointer (some ⟨w.heap.size,0,none⟩)→a.tmps.getD 3 undef=.pointer (some ⟨w.heap.size+1,0,none⟩)→a.defers=[{ target:=.fn (.func 267) #[.pointer (some ⟨w.heap.size,0,none⟩),.pointer (some ⟨w.heap.size+1,0,none⟩)],args:=#[] }]→bodyPostD Tryz.prog Tryz.f221 (fun e w'=>RdQ w X e w') (.panic c) a u):=(by rw[← hPnd];exact Ziy)
 have HPd:Hid (PnQ w X=Pn):=hPnd
 clear hPnd
 have hR0:RdS w (.slice lo L.length lc) (.slice none 0 0) [] ((0:Nat):Int) (((w.alloc (.cells #[.slice none 0 0] 40)).alloc (.cells #[.nilIface] 24)).alloc (.cells #[.slice lo L.length lc,.int .i64 0] 317)):=(by
  have a1:=heap_alloc_new w (.cells #[.slice none 0 0] 40)
  have a2:=heap_alloc_new (w.alloc (.cells #[.slice none 0 0] 40)) (.cells #[.nilIface] 24)
  have a3:=heap_alloc_new ((w.alloc (.cells #[.slice none 0 0] 40)).alloc (.cells #[.nilIface] 24)) (.cells #[.slice lo L.length lc,.int .i64 0] 317)
  have z1:(w.alloc (.cells #[.slice none 0 0] 40)).heap.size=w.heap.size+1:=by simp
  have z2:((w.alloc (.cells #[.slice none 0 0] 40)).alloc (.cells #[.nilIface] 24)).heap.size=w.heap.size+1+1:=by simp
  rw[z1] at a2
  rw[z2] at a3
  have hb1:Below w.heap.size w (w.alloc (.cells #[.slice none 0 0] 40)):=(Below.refl _ w).alloc (Nat.le_refl _) _
  have hb2:=hb1.alloc hb1.size (.cells #[.nilIface] 24)
  have hb3:=hb2.alloc hb2.size (.cells #[.slice lo L.length lc,.int .i64 0] 317)
  refine⟨⟨hb3,Zen _ _ _ _,fun x hx=>by cases hx⟩,?_,?_,a3⟩
  ·exact (Lib.alloc_old _ _ _ (by rw[z2];omega)).trans ((Lib.alloc_old _ _ _ (by rw[z1];omega)).trans a1)
  ·exact (Lib.alloc_old _ _ _ (by rw[z2];omega)).trans a2)
 have HX0:Hid (thenH (([]:List (Hk × Value)).map (·.1)) (hksK L.length ([]:List (Hk × Value)).length 0 (L.drop 0))=X):=(by
  show _=_
  rw[← HX.out]
  simp only[List.map_nil,List.drop_zero,List.length_nil]
  cases hksK L.length 0 0 L<;>rfl)
 clear HX
 go_enter_defers Tryz.func221,Tryz.ntmps221
 go_wp2
 go_loopw [] (fun wr=>∃ (ov:Value) (P:List (Hk × Value)) (p f:Nat),(∃ o c,ov=.slice o P.length c)∧RdS w (.slice lo L.length lc) ov P (p:Int) wr∧p≤L.length∧P.length≤4096∧(L.drop p).length≤f∧Hid (thenH (P.map (·.1)) (hksK f P.length p (L.drop p))=X)) (fun wr=>L.length-ryAt wr (w.heap.size+1+1))
 case atStart=>exact⟨_,[],0,L.length,⟨none,0,rfl⟩,hR0,Nat.zero_le _,Nat.zero_le _,by simp,HX0⟩
 case round =>
 clear hR0 HX0
 obtain⟨ov,P,p,f,⟨o,c,rfl⟩,hR,hp,hPl,hf,HI⟩:=hrel
 obtain⟨d0,d1⟩:=hR.ry.cells
 by_cases hlt:p<L.length
 ·have hfl:0<f:=(by rw[List.length_drop] at hf;omega)
  obtain⟨f',rfl⟩:∃ f',f=f'+1:=⟨f-1,by omega⟩
  have hne:L.drop p≠[]:=(by intro h;have:=congrArg List.length h;rw[List.length_drop] at this;simp at this;omega)
  have HIe:Hid (∀ e,hkK P.length p (L.drop p)=.error e→X=.error e):=(by
   intro e he
   rw[← HI.out]
   simp only[hksK]
   rw[if_neg hne,he]
   rfl)
  have HN:Hid (∀ h p2 r,hkK P.length p (L.drop p)=.ok (h,p2,r)→p2≤L.length∧p<p2∧(L.drop p2).length≤f'∧P.length<4096∧r=L.drop p2):=(by
   intro h p2 r hk
   obtain⟨j,b1,b2,b3,b4,b5⟩:=Zec hk
   rw[List.length_drop] at b4 hf
   rw[List.drop_drop] at b1
   refine⟨by omega,by omega,by rw[List.length_drop];omega,by omega,by rw[b1,b2]⟩)
  have HN2:Hid (∀ h p2 r y,hkK P.length p (L.drop p)=.ok (h,p2,r)→Hid (thenH ((P++[(h,y)]).map (·.1)) (hksK f' (P++[(h,y)]).length p2 (L.drop p2))=X)):=(by
   intro h p2 r y hk
   show _=_
   have hr:=(HN.out h p2 r hk).2.2.2.2
   rw[← HI.out]
   simp only[hksK]
   rw[if_neg hne,hk]
   dsimp only
   rw[hr,List.length_append,List.map_append]
   show thenH (P.map (·.1)++[h]) (hksK f' (P.length+1) p2 (L.drop p2))=_
   cases hksK f' (P.length+1) p2 (L.drop p2) with
   | error e=>rfl
   | ok m=>simp[thenH])
  have hRd:=hR.drew
  obtain⟨Rr,hRr⟩:∃ Rr:Value→World→Prop,(fun v u=>∃ h p2 r vo vc,hkK P.length p (L.drop p)=.ok (h,p2,r)∧v=hkV h (.slice vo h.ls.length vc)∧RdS w (.slice lo L.length lc) (.slice o P.length c) P ((p2:Nat):Int) u∧u.ownsRow w.heap.size 47 2 (.slice vo h.ls.length vc) h.ls.length (mkcells h.ls))=Rr:=⟨_,rfl⟩
  have hcall:Calls Tryz.prog 268 (#[.pointer (some ⟨w.heap.size+1+1,0,none⟩),.int .i64 (P.length:Int)]++#[]) wr.drew fun e w'=>(∃ v,e=.returned v∧True∧Rr v w')∨(∃ c,e=.panicked c∧Pn c w'):=(by
   obtain⟨Y,hY⟩:∃ Y,hkK P.length p (L.drop p)=Y:=⟨_,rfl⟩
   have hsz:=hRd.hs.low.size
   refine (ZgU wr.drew hRd.ry (fun u hu=>HS.keep hL (hRd.hs.low.trans ⟨hu.os,hu.tape,hu.output,hu.size,fun k hk=>hu.block k (Nat.lt_of_lt_of_le hk hsz) (fun e=>by cases e;omega)⟩) (Nat.le_refl _)) HPl hp hLl HSl P.length hPl Y hY).mono ?_
   intro e w' hq
   cases Y with
   | error z =>
    obtain⟨a,z⟩:=z
    obtain⟨⟨g,rfl,hg⟩,hgr⟩:=hq
    right
    refine⟨_,rfl,?_⟩
    rw[← HPd.out]
    have hk:∀ k x,k≠w.heap.size+1+1→wr.drew.heap[k]?=some x→w'.heap[k]?=some x:=fun k _ hk hx=>(hgr.block k (Array.getElem?_eq_some_iff.1 hx).1 (fun e=>hk (Option.some.inj e))).trans hx
    exact⟨g,a,z,_,rfl,hg,HIe.out _ hY,hRd.hs.low.trans ⟨hgr.os,hgr.tape,hgr.output,hgr.size,fun k hk=>hgr.block k (Nat.lt_of_lt_of_le hk hsz) (fun e=>by cases e;omega)⟩,hk _ _ (by omega) hRd.f0,hk _ _ (by omega) hRd.f1⟩
   | ok z =>
    obtain⟨h,p2,r⟩:=z
    obtain⟨v',rfl,hown,q,hgr⟩:=hq
    obtain⟨vo,vc,rfl⟩:=(Zeo hown).form
    left
    rw[← hRr]
    exact⟨_,rfl,trivial,h,p2,r,vo,vc,hY,rfl,hRd.call hgr q,ZhM hown hsz⟩)
  have i1:(p:Int)<(L.length:Int):=by omega
  have HRr:Hid (_=Rr):=hRr
  clear hRr
  go_upto_region 4 with fail
  refine Zml Pn (.pointer (some ⟨w.heap.size,0,none⟩)) (.pointer (some ⟨w.heap.size+1,0,none⟩)) [{ target:=.fn (.func 267) #[.pointer (some ⟨w.heap.size,0,none⟩),.pointer (some ⟨w.heap.size+1,0,none⟩)],args:=#[] }] (fun c a u h1 h2 h3 h4=>HPn.out c a u h1 h2 h3 h4) ?_
  refine wp_region_held_drew (S:=fun _=>True) (by kernel_rfl) trivial (fun _=>?_)
  generalize wr.drew=wd at hRd hcall ⊢
  have c0d:=hRd.c0
  refine ZdJ 0 13 _ 1 14 _ rfl (by kernel_rfl) rfl (by kernel_rfl) (by kernel_rfl) (by kernel_rfl) (by kernel_rfl) (.slice o P.length c) wd (ZfI c0d (.tmp 2) (by kernel_rfl) (by kernel_rfl)) trivial (.slice o P.length c) wd (ZfI c0d (.tmp 2) (by kernel_rfl) (by kernel_rfl)) trivial ?_ ?_
  ·simp only[Act.put,Y_a,Y_b,Y_c]
   refine Y_v 1 14 _ rfl (.slice o P.length c) wd (ZfI c0d (.tmp 2) (by kernel_rfl) (by kernel_rfl)) trivial ?_
   simp only[Act.put,Y_a,Y_b,Y_c]
   refine ZdI 2 15 _ (.int .i64 (P.length:Int)) rfl (by kernel_rfl) (by kernel_rfl) (by kernel_rfl) (by kernel_rfl) (Zia (by decide) (by decide)) (Or.inl ⟨by kernel_rfl,fun u hu=>by kernel_rfl⟩) trivial ?_
   simp only[Act.put,Y_a,Y_b,Y_c]
   refine ZdE 3 16 _ rfl (by kernel_rfl) (by kernel_rfl) (by kernel_rfl) 268 (.func 268) #[.tmp 4,.tmp 15] #[317,3] (by kernel_rfl) #[] (by kernel_rfl) #[.pointer (some ⟨w.heap.size+1+1,0,none⟩),.int .i64 (P.length:Int)] (by kernel_rfl) (enters_of Tryz.func268 (by kernel_rfl) rfl) (Rr) (Pn) (fun c u h=>⟨h,rfl,rfl,rfl⟩) ?_ ?_
   ·exact hcall
   intro v0 u1 _ hq
   rw[← HRr.out] at hq
   obtain⟨h,p2,r,vo,vc,hk,rfl,hR1,hown1⟩:=hq
   have c1u:=hR1.c0
   have c2u:=hR1.alloc_c0 (hkO h (.slice vo h.ls.length vc))
   simp only[Act.put,Y_a,Y_b,Y_c]
   refine Y_v 4 17 _ rfl (.slice (some ⟨u1.heap.size,0,none⟩) 1 1) (u1.alloc (hkO h (.slice vo h.ls.length vc))) (by kernel_rfl) trivial ?_
   simp only[Act.put,Y_a,Y_b,Y_c]
   have hlt2:=HN.out h p2 r hk
   have hRA:=hR1.alloc (hkO h (.slice vo h.ls.length vc))
   have hownA:=hown1.alloc (hkO h (.slice vo h.ls.length vc))
   obtain⟨v3,u3,hr3,hown3,hg3,_⟩:=ZjJ (u1.alloc (hkO h (.slice vo h.ls.length vc))) 40 45 40 (.agg #[.int .i64 0,.int .i64 0,.int .i64 0,.int .i64 0,.slice none 0 0]) 5 56 Tryz.underlying40 infoHk rfl (by decide) (by decide) w.heap.size _ _ _ hRA.hs.own _ 1 (hkC h (.slice vo h.ls.length vc)) (Zhz u1 h (.slice vo h.ls.length vc)) rfl (Zeb _) (by omega) (Nat.le_trans hRA.hs.low.size (Nat.le_refl _))
   have hR3:=hRA.more hownA hg3 hown3
   obtain⟨o3,k3,rfl⟩:=(Zeo hown3).form
   refine Y_v 5 18 _ rfl (.slice o3 (P.length+1) k3) u3 (ZcT (.tmp 13) (.tmp 17) (by kernel_rfl) (by kernel_rfl) (by kernel_rfl) hr3) trivial ?_
   simp only[Act.put,Y_a,Y_b,Y_c]
   refine Y_s 6 _ rfl (u3.setCell ⟨w.heap.size,0,none⟩ (.slice o3 (P.length+1) k3)) (ZcY hR3.2.1 hR3.2.2 (.tmp 2) (.tmp 18) (by kernel_rfl) (by kernel_rfl) (by kernel_rfl)) trivial ?_
   refine wpAnyH_done (by kernel_rfl) ?_ _
   refine PanQ.normal ?_
   have hR4:=hR3.1
   go_wp2
   refine⟨⟨_,P++[(h,.slice vo h.ls.length vc)],p2,f',⟨o3,k3,by rw[List.length_append];rfl⟩,hR4,hlt2.1,by simp;omega,hlt2.2.2.1,HN2.out h p2 r _ hk⟩,?_⟩
   rw[ZjN hR4.ry,ZjN hR.ry]
   omega
  ·simp only[Act.put,Y_a,Y_b,Y_c]
   refine ZdI 2 15 _ (.int .i64 (P.length:Int)) rfl (by kernel_rfl) (by kernel_rfl) (by kernel_rfl) (by kernel_rfl) (Zia (by decide) (by decide)) (Or.inl ⟨by kernel_rfl,fun u hu=>by kernel_rfl⟩) trivial ?_
   simp only[Act.put,Y_a,Y_b,Y_c]
   refine ZdL 0 13 _ 3 16 _ rfl (by kernel_rfl) rfl (by kernel_rfl) (by kernel_rfl) (by kernel_rfl) (by kernel_rfl) (.slice o P.length c) wd (ZfI c0d (.tmp 2) (by kernel_rfl) (by kernel_rfl)) trivial 268 (.func 268) #[.tmp 4,.tmp 15] #[317,3] (by kernel_rfl) #[] (by kernel_rfl) #[.pointer (some ⟨w.heap.size+1+1,0,none⟩),.int .i64 (P.length:Int)] (by kernel_rfl) (enters_of Tryz.func268 (by kernel_rfl) rfl) (Rr) (Pn) (fun c u h=>⟨h,rfl,rfl,rfl⟩) ?_ ?_ ?_
   ·exact hcall
   ·simp only[Act.put,Y_a,Y_b,Y_c]
    refine ZdE 3 16 _ rfl (by kernel_rfl) (by kernel_rfl) (by kernel_rfl) 268 (.func 268) #[.tmp 4,.tmp 15] #[317,3] (by kernel_rfl) #[] (by kernel_rfl) #[.pointer (some ⟨w.heap.size+1+1,0,none⟩),.int .i64 (P.length:Int)] (by kernel_rfl) (enters_of Tryz.func268 (by kernel_rfl) rfl) (Rr) (Pn) (fun c u h=>⟨h,rfl,rfl,rfl⟩) ?_ ?_
    ·exact hcall
    intro v0 u1 _ hq
    rw[← HRr.out] at hq
    obtain⟨h,p2,r,vo,vc,hk,rfl,hR1,hown1⟩:=hq
    have c1u:=hR1.c0
    have c2u:=hR1.alloc_c0 (hkO h (.slice vo h.ls.length vc))
    simp only[Act.put,Y_a,Y_b,Y_c]
    refine Y_v 4 17 _ rfl (.slice (some ⟨u1.heap.size,0,none⟩) 1 1) (u1.alloc (hkO h (.slice vo h.ls.length vc))) (by kernel_rfl) trivial ?_
    simp only[Act.put,Y_a,Y_b,Y_c]
    have hlt2:=HN.out h p2 r hk
    have hRA:=hR1.alloc (hkO h (.slice vo h.ls.length vc))
    have hownA:=hown1.alloc (hkO h (.slice vo h.ls.length vc))
    obtain⟨v3,u3,hr3,hown3,hg3,_⟩:=ZjJ (u1.alloc (hkO h (.slice vo h.ls.length vc))) 40 45 40 (.agg #[.int .i64 0,.int .i64 0,.int .i64 0,.int .i64 0,.slice none 0 0]) 5 56 Tryz.underlying40 infoHk rfl (by decide) (by decide) w.heap.size _ _ _ hRA.hs.own _ 1 (hkC h (.slice vo h.ls.length vc)) (Zhz u1 h (.slice vo h.ls.length vc)) rfl (Zeb _) (by omega) (Nat.le_trans hRA.hs.low.size (Nat.le_refl _))
    have hR3:=hRA.more hownA hg3 hown3
    obtain⟨o3,k3,rfl⟩:=(Zeo hown3).form
    refine Y_v 5 18 _ rfl (.slice o3 (P.length+1) k3) u3 (ZcT (.tmp 13) (.tmp 17) (by kernel_rfl) (by kernel_rfl) (by kernel_rfl) hr3) trivial ?_
    simp only[Act.put,Y_a,Y_b,Y_c]
    refine Y_s 6 _ rfl (u3.setCell ⟨w.heap.size,0,none⟩ (.slice o3 (P.length+1) k3)) (ZcY hR3.2.1 hR3.2.2 (.tmp 2) (.tmp 18) (by kernel_rfl) (by kernel_rfl) (by kernel_rfl)) trivial ?_
    refine wpAnyH_done (by kernel_rfl) ?_ _
    refine PanQ.normal ?_
    have hR4:=hR3.1
    go_wp2
    refine⟨⟨_,P++[(h,.slice vo h.ls.length vc)],p2,f',⟨o3,k3,by rw[List.length_append];rfl⟩,hR4,hlt2.1,by simp;omega,hlt2.2.2.1,HN2.out h p2 r _ hk⟩,?_⟩
    rw[ZjN hR4.ry,ZjN hR.ry]
    omega
   ·intro v0 u1 _ hq
    rw[← HRr.out] at hq
    obtain⟨h,p2,r,vo,vc,hk,rfl,hR1,hown1⟩:=hq
    have c1u:=hR1.c0
    have c2u:=hR1.alloc_c0 (hkO h (.slice vo h.ls.length vc))
    simp only[Act.put,Y_a,Y_b,Y_c]
    refine ZdJ 0 13 _ 4 17 _ rfl (by kernel_rfl) rfl (by kernel_rfl) (by kernel_rfl) (by kernel_rfl) (by kernel_rfl) (.slice o P.length c) u1 (ZfI c1u (.tmp 2) (by kernel_rfl) (by kernel_rfl)) trivial (.slice (some ⟨u1.heap.size,0,none⟩) 1 1) (u1.alloc (hkO h (.slice vo h.ls.length vc))) (by kernel_rfl) trivial ?_ ?_
    ·simp only[Act.put,Y_a,Y_b,Y_c]
     refine Y_v 4 17 _ rfl (.slice (some ⟨u1.heap.size,0,none⟩) 1 1) (u1.alloc (hkO h (.slice vo h.ls.length vc))) (by kernel_rfl) trivial ?_
     simp only[Act.put,Y_a,Y_b,Y_c]
     have hlt2:=HN.out h p2 r hk
     have hRA:=hR1.alloc (hkO h (.slice vo h.ls.length vc))
     have hownA:=hown1.alloc (hkO h (.slice vo h.ls.length vc))
     obtain⟨v3,u3,hr3,hown3,hg3,_⟩:=ZjJ (u1.alloc (hkO h (.slice vo h.ls.length vc))) 40 45 40 (.agg #[.int .i64 0,.int .i64 0,.int .i64 0,.int .i64 0,.slice none 0 0]) 5 56 Tryz.underlying40 infoHk rfl (by decide) (by decide) w.heap.size _ _ _ hRA.hs.own _ 1 (hkC h (.slice vo h.ls.length vc)) (Zhz u1 h (.slice vo h.ls.length vc)) rfl (Zeb _) (by omega) (Nat.le_trans hRA.hs.low.size (Nat.le_refl _))
     have hR3:=hRA.more hownA hg3 hown3
     obtain⟨o3,k3,rfl⟩:=(Zeo hown3).form
     refine Y_v 5 18 _ rfl (.slice o3 (P.length+1) k3) u3 (ZcT (.tmp 13) (.tmp 17) (by kernel_rfl) (by kernel_rfl) (by kernel_rfl) hr3) trivial ?_
     simp only[Act.put,Y_a,Y_b,Y_c]
     refine Y_s 6 _ rfl (u3.setCell ⟨w.heap.size,0,none⟩ (.slice o3 (P.length+1) k3)) (ZcY hR3.2.1 hR3.2.2 (.tmp 2) (.tmp 18) (by kernel_rfl) (by kernel_rfl) (by kernel_rfl)) trivial ?_
     refine wpAnyH_done (by kernel_rfl) ?_ _
     refine PanQ.normal ?_
     have hR4:=hR3.1
     go_wp2
     refine⟨⟨_,P++[(h,.slice vo h.ls.length vc)],p2,f',⟨o3,k3,by rw[List.length_append];rfl⟩,hR4,hlt2.1,by simp;omega,hlt2.2.2.1,HN2.out h p2 r _ hk⟩,?_⟩
     rw[ZjN hR4.ry,ZjN hR.ry]
     omega
    ·simp only[Act.put,Y_a,Y_b,Y_c]
     refine Y_v 0 13 _ rfl (.slice o P.length c) (u1.alloc (hkO h (.slice vo h.ls.length vc))) (ZfI c2u (.tmp 2) (by kernel_rfl) (by kernel_rfl)) trivial ?_
     simp only[Act.put,Y_a,Y_b,Y_c]
     have hlt2:=HN.out h p2 r hk
     have hRA:=hR1.alloc (hkO h (.slice vo h.ls.length vc))
     have hownA:=hown1.alloc (hkO h (.slice vo h.ls.length vc))
     obtain⟨v3,u3,hr3,hown3,hg3,_⟩:=ZjJ (u1.alloc (hkO h (.slice vo h.ls.length vc))) 40 45 40 (.agg #[.int .i64 0,.int .i64 0,.int .i64 0,.int .i64 0,.slice none 0 0]) 5 56 Tryz.underlying40 infoHk rfl (by decide) (by decide) w.heap.size _ _ _ hRA.hs.own _ 1 (hkC h (.slice vo h.ls.length vc)) (Zhz u1 h (.slice vo h.ls.length vc)) rfl (Zeb _) (by omega) (Nat.le_trans hRA.hs.low.size (Nat.le_refl _))
     have hR3:=hRA.more hownA hg3 hown3
     obtain⟨o3,k3,rfl⟩:=(Zeo hown3).form
     refine Y_v 5 18 _ rfl (.slice o3 (P.length+1) k3) u3 (ZcT (.tmp 13) (.tmp 17) (by kernel_rfl) (by kernel_rfl) (by kernel_rfl) hr3) trivial ?_
     simp only[Act.put,Y_a,Y_b,Y_c]
     refine Y_s 6 _ rfl (u3.setCell ⟨w.heap.size,0,none⟩ (.slice o3 (P.length+1) k3)) (ZcY hR3.2.1 hR3.2.2 (.tmp 2) (.tmp 18) (by kernel_rfl) (by kernel_rfl) (by kernel_rfl)) trivial ?_
     refine wpAnyH_done (by kernel_rfl) ?_ _
     refine PanQ.normal ?_
     have hR4:=hR3.1
     go_wp2
     refine⟨⟨_,P++[(h,.slice vo h.ls.length vc)],p2,f',⟨o3,k3,by rw[List.length_append];rfl⟩,hR4,hlt2.1,by simp;omega,hlt2.2.2.1,HN2.out h p2 r _ hk⟩,?_⟩
     rw[ZjN hR4.ry,ZjN hR.ry]
     omega
 ·have hend:decide ((p:Int)<(L.length:Int))=false:=decide_eq_false (by omega)
  have hXv:X=.ok (P.map (·.1)):=(by
   rw[← HI.out,List.drop_eq_nil_of_le (by omega)]
   cases f with
   | zero=>simp[hksK,thenH]
   | succ f=>simp[hksK,thenH])
  have c0:=hR.c0
  have c1:wr.cell? ⟨w.heap.size+1,0,none⟩=some .nilIface:=by rw[Lib.cell_of_heap hR.f1];rfl
  have z0:=Lib.frozen_of_heap hR.f0 0
  have z1:=Lib.frozen_of_heap hR.f1 0
  have g0:=ZdS wr w.heap.size 0 (.slice o P.length c)
  have s0:=heap_setCell_same wr w.heap.size 0 _ _ (.slice o P.length c) hR.f0
  have h1:=hR.hs.grown g0 (fun k e=>by cases e;omega) (fun k e=>by cases e;exact ZhD hR.hs.own hR.f0 (by decide)) (fun x hx k e=>by cases e;exact ZhD (hR.hs.ins x hx) hR.f0 (by decide))
  have t1:(wr.setCell ⟨w.heap.size,0,none⟩ (.slice o P.length c)).heap[w.heap.size+1]?=some (.cells #[.nilIface] 24):=(Below.heap_setCell _ _ _ _ (by simp)).trans hR.f1
  have g1:=ZdS (wr.setCell ⟨w.heap.size,0,none⟩ (.slice o P.length c)) (w.heap.size+1) 0 .nilIface
  have s1:=heap_setCell_same _ (w.heap.size+1) 0 _ _ .nilIface t1
  have s2:((wr.setCell ⟨w.heap.size,0,none⟩ (.slice o P.length c)).setCell ⟨w.heap.size+1,0,none⟩ .nilIface).heap[w.heap.size]?=_:=(Below.heap_setCell _ _ _ _ (by simp)).trans s0
  have h2:=h1.grown g1 (fun k e=>by cases e;omega) (fun k e=>by cases e;exact ZhD h1.own t1 (by decide)) (fun x hx k e=>by cases e;exact ZhD (h1.ins x hx) t1 (by decide))
  have c1':(wr.setCell ⟨w.heap.size,0,none⟩ (.slice o P.length c)).cell? ⟨w.heap.size+1,0,none⟩=some .nilIface:=by rw[Lib.cell_of_heap t1];rfl
  have z1':=Lib.frozen_of_heap t1 0
  have e0:((wr.setCell ⟨w.heap.size,0,none⟩ (.slice o P.length c)).setCell ⟨w.heap.size+1,0,none⟩ .nilIface).cell? ⟨w.heap.size,0,none⟩=some (.slice o P.length c):=by rw[Lib.cell_of_heap s2];rfl
  have e1:((wr.setCell ⟨w.heap.size,0,none⟩ (.slice o P.length c)).setCell ⟨w.heap.size+1,0,none⟩ .nilIface).cell? ⟨w.heap.size+1,0,none⟩=some .nilIface:=by rw[Lib.cell_of_heap s1];rfl
  subst hXv
  clear HI HPn HPd hR h1 g0 g1 s0 s1 s2 t1
  go_wp2
  refine leaves_cons (f:=267) (args:=#[.pointer (some ⟨w.heap.size,0,none⟩),.pointer (some ⟨w.heap.size+1,0,none⟩)]) (by simp) (by simp[go_sem]) ?_
  refine (Zbe _ _ _).mono ?_
  rintro e u' w'' ⟨rfl,rfl,rfl⟩
  exact⟨_,Zji _ _ w.heap.size (w.heap.size+1) P.length c o .nilIface rfl rfl e0 e1,_,P,rfl,h2,rfl⟩
end

section
open Go.RowKit
structure Sb (w:World) (R H:Nat) (A AN B BN:Int) (m:List Mk) (ov:Value) (u:World):Prop where
 gr:w.grownBy u (some R)
 hx:Hx u H ⟨A,AN,B,BN,m⟩ ov
 rb:Hx u w.heap.size ⟨0,0,0,0,[]⟩ (.slice none 0 0)
 own:u.ownsRow w.heap.size 47 2 ov m.length (mkcells m)
 hR:R<w.heap.size
 hH:w.heap.size<H
section
variable {w u u':World} {R H:Nat} {A AN B BN:Int} {m:List Mk} {ov:Value} {vL:Value} {p fa fe:Int}
theorem Rx.low (q:Rx u R vL p fa fe) (hb:Below u.heap.size u u'):Rx u' R vL p fa fe:=(hb.block R q.lt).trans q
theorem Rx.keep (q:Rx u R vL p fa fe) {g:Option Nat} (hg:u.grownBy u' g) (hr:some R≠g):Rx u' R vL p fa fe:=(hg.block R q.lt hr).trans q
theorem Sb.call (h:Sb w R H A AN B BN m ov u) (hg:u.grownBy u' (some R)):Sb w R H A AN B BN m ov u' :=
 have h1:=h.hR
 have h2:=h.hH
 ⟨ZdT h.gr hg,h.hx.keep hg (fun e=>by have:=Option.some.inj e;omega),h.rb.keep hg (fun e=>by have:=Option.some.inj e;omega),ZhI h.own hg h.hR,h.hR,h.hH⟩
theorem Sb.low (h:Sb w R H A AN B BN m ov u) (hb:Below u.heap.size u u'):Sb w R H A AN B BN m ov u':=h.call (ZfO hb _)
theorem Sb.drew (h:Sb w R H A AN B BN m ov u):Sb w R H A AN B BN m ov u.drew:=h.low (Below.refl _ u).drew
theorem Sb.alloc (h:Sb w R H A AN B BN m ov u) (o:Obj):Sb w R H A AN B BN m ov (u.alloc o):=h.low ((Below.refl _ u).alloc (Nat.le_refl _) o)
theorem Sb.c1 (h:Sb w R H A AN B BN m ov u):u.cell? ⟨H,1,none⟩=some (.int .i64 AN):=h.hx.cells.2.1
theorem Sb.c3 (h:Sb w R H A AN B BN m ov u):u.cell? ⟨H,3,none⟩=some (.int .i64 BN):=h.hx.cells.2.2.2.1
theorem Sb.c4 (h:Sb w R H A AN B BN m ov u):u.cell? ⟨H,4,none⟩=some ov:=h.hx.cells.2.2.2.2
theorem Sb.more (h:Sb w R H A AN B BN m ov u) {x:Mk} {ov':Value} (hg:u.grownBy u' ov.ownBlock) (ho:u'.ownsRow w.heap.size 47 2 ov' (m.length+1) (mkcells m++mkcells [x])) :
  Sb w R H A AN B BN (m++[x]) ov' (u'.setCell ⟨H,4,none⟩ ov')∧u'.cell? ⟨H,4,none⟩=some ov∧u'.frozen? ⟨H,4,none⟩=false∧u'.cell? ⟨H,1,none⟩=some (.int .i64 AN)∧u'.cell? ⟨H,3,none⟩=some (.int .i64 BN)∧(∀ {vL:Value} {p fa fe:Int},Rx u R vL p fa fe→Rx (u'.setCell ⟨H,4,none⟩ ov') R vL p fa fe):=by
 have h1:=h.hR
 have h2:=h.hH
 have hne:∀ k:Nat,(∃ cs t fr,u.heap[k]?=some (Obj.cells cs t fr)∧47≠t)→some k≠ov.ownBlock:=fun k ⟨cs,t,fr,hk,ht⟩ e=>ZhD h.own hk ht e.symm
 have hxu:Hx u' H ⟨A,AN,B,BN,m⟩ ov:=h.hx.keep hg (hne H ⟨_,_,_,h.hx,by decide⟩)
 have rbu:Hx u' w.heap.size ⟨0,0,0,0,[]⟩ (.slice none 0 0):=h.rb.keep hg (hne _ ⟨_,_,_,h.rb,by decide⟩)
 have g4:=ZdS u' H 4 ov'
 have hneR:∀ {vL:Value} {p fa fe:Int},Rx u R vL p fa fe→some R≠ov.ownBlock:=fun q=>hne R ⟨_,_,_,q,by decide⟩
 refine⟨⟨?_,hxu.put4 _ _,rbu.keep g4 (fun e=>by have:=Option.some.inj e;omega),?_,h.hR,h.hH⟩,hxu.cells.2.2.2.2,hxu.frozen 4,hxu.cells.2.1,hxu.cells.2.2.2.1,fun q=>(q.keep hg (hneR q)).keep g4 (fun e=>by have:=Option.some.inj e;omega)⟩
 ·refine⟨(g4.os.trans hg.os).trans h.gr.os,(g4.tape.trans hg.tape).trans h.gr.tape,(g4.output.trans hg.output).trans h.gr.output,Nat.le_trans h.gr.size (Nat.le_trans hg.size g4.size),fun k hk hr=>?_⟩
  rw[g4.block k (Nat.lt_of_lt_of_le hk (Nat.le_trans h.gr.size hg.size)) (fun e=>by have:=Option.some.inj e;omega),hg.block k (Nat.lt_of_lt_of_le hk h.gr.size) (fun e=>by have:=ZhJ h.own e.symm;omega)]
  exact h.gr.block k hk hr
 ·have e1:(m++[x]).length=m.length+1:=by simp
  rw[e1,Zgl]
  exact ho.kept g4 (.inr (ZhD ho hxu (by decide)))
end
def AlR (R:Nat) (vL:Value) (L:List (List UInt8)) (fa:Int) (sg:List UInt8) (S:Int) (Y:Except (Nat × Int) (List Mk × Nat × List (List UInt8))) (b n:Nat) (m:List Mk) (u:World):Prop :=
 (∃ pn:Nat,Rx u R vL (pn:Int) fa 0∧pn≤b∧thenL m (rdN sg S n pn (L.drop pn))=Y)∨(∃ (p':Int) (a:Nat) (fe:Int),Rx u R vL p' (a:Int) fe∧fe≠0∧Y=.error (a,fe))
def NxR (R:Nat) (vL:Value) (L:List (List UInt8)) (fa:Int) (sg:List UInt8) (S:Int) (Y:Except (Nat × Int) (List Mk × Nat × List (List UInt8))) (b n:Nat) (m:List Mk) (t:List UInt8) (u:World):Prop:=AlR R vL L fa sg S Y b n (m++[⟨S,t⟩]) u
theorem NxR.on {R:Nat} {vL:Value} {L:List (List UInt8)} {fa:Int} {sg:List UInt8} {S:Int} {Y:Except (Nat × Int) (List Mk × Nat × List (List UInt8))} {b n:Nat} {m:List Mk} {t:List UInt8} {u u':World} (h:NxR R vL L fa sg S Y b n m t u) (hk:∀ {vL:Value} {p fa fe:Int},Rx u R vL p fa fe→Rx u' R vL p fa fe):AlR R vL L fa sg S Y b n (m++[⟨S,t⟩]) u':=by
 rcases h with ⟨pn,h1,h2,h3⟩ | ⟨p',a,fe,h1,h2,h3⟩
 ·exact .inl ⟨pn,hk h1,h2,h3⟩
 ·exact .inr ⟨p',a,fe,hk h1,h2,h3⟩
def put5 (u:World) (b:Nat) (A AN B BN:Int) (v:Value):World:=((((u.setCell ⟨b,0,none⟩ (.int .i64 A)).setCell ⟨b,1,none⟩ (.int .i64 AN)).setCell ⟨b,2,none⟩ (.int .i64 B)).setCell ⟨b,3,none⟩ (.int .i64 BN)).setCell ⟨b,4,none⟩ v
theorem Sb.done {w u:World} {R H:Nat} {A AN B BN:Int} {m:List Mk} {ov:Value} (h:Sb w R H A AN B BN m ov u) :
  (put5 u w.heap.size A AN B BN ov).heap[w.heap.size]?=some (.cells #[.int .i64 A,.int .i64 AN,.int .i64 B,.int .i64 BN,ov] 45)∧(put5 u w.heap.size A AN B BN ov).ownsRow w.heap.size 47 2 ov m.length (mkcells m)∧w.grownBy (put5 u w.heap.size A AN B BN ov) (some R)∧∀ {vL:Value} {p fa fe:Int},Rx u R vL p fa fe→Rx (put5 u w.heap.size A AN B BN ov) R vL p fa fe:=by
 have h1:=h.hR
 have hn:(some R:Option Nat)≠some w.heap.size:=fun e=>by have:=Option.some.inj e;omega
 refine⟨h.rb.putH5 A AN B BN m ov,Zdn h.own (b:=w.heap.size) (ZhD h.own h.rb (by decide)) A AN B BN ov,?_,fun q=>((((q.keep (ZdS _ _ 0 _) hn).keep (ZdS _ _ 1 _) hn).keep (ZdS _ _ 2 _) hn).keep (ZdS _ _ 3 _) hn).keep (ZdS _ _ 4 _) hn⟩
 exact ((((ZdR h.gr (B:=w.heap.size) (Nat.le_refl _) 0 (.int .i64 A)) |> fun h=>ZdR h (B:=w.heap.size) (Nat.le_refl _) 1 (.int .i64 AN)) |> fun h=>ZdR h (B:=w.heap.size) (Nat.le_refl _) 2 (.int .i64 B)) |> fun h=>ZdR h (B:=w.heap.size) (Nat.le_refl _) 3 (.int .i64 BN)) |> fun h=>ZdR h (B:=w.heap.size) (Nat.le_refl _) 4 ov
end

section
open Go.RowKit
theorem ZfZ {a:List (List UInt8)} {t:List UInt8} (h:t∈a):t.length≤a.flatten.length:=by
 induction a with
 | nil=>cases h
 | cons s a ih =>
  rw[List.flatten_cons,List.length_append]
  rcases List.mem_cons.1 h with rfl | h
  ·omega
  ·have:=ih h
   omega
theorem Zky {t:List UInt8} {M:Nat} (h:t.length≤M):∀ s∈Ln.splitL t,s.length≤M:=by
 intro s hs
 have h1:=congrArg List.length (Ln.split_join t)
 have h2:=ZfZ hs
 omega
theorem RdQ.base {w W:World} {X:Except (Nat × Int) (List Hk)} {e:Ending} {w':World} (hB:Below w.heap.size w W) (h:RdQ W X e w'):RdQ w X e w':=by
 unfold RdQ at h ⊢
 rcases X with ⟨a,z⟩ | l
 ·obtain⟨g,h1,h2,h3⟩:=h
  exact⟨g,h1,h2,hB.trans (h3.mono hB.size)⟩
 ·obtain⟨v,P,h1,h2,h3⟩:=h
  exact⟨v,P,h1,h2.base hB,h3⟩
theorem ZgC (t:List UInt8) (w:World) (hl:t.length≤1099511627776) (X:Except (Nat × Int) (List Hk)) (HX:Hid (prsT t=X)) :
  Calls Tryz.prog 179 #[.string ⟨t.toArray⟩] w fun e w'=>RdQ w X e w':=by
 have hX:=HX.out
 clear HX
 rw[ZiF] at hX
 by_cases hlong:1048576<t.length
 ·rw[if_pos hlong] at hX
  subst hX
  have HA:Hid ((w.alloc (fltO ((0:Nat):Int) 9)).heap[w.heap.size]?=some (fltO ((0:Nat):Int) 9)∧Below w.heap.size w (w.alloc (fltO ((0:Nat):Int) 9))):=⟨heap_alloc_new w _,(Below.refl _ w).alloc (Nat.le_refl _) _⟩
  have i1:(1048576:Int)<(t.length:Int):=by omega
  go_enter Tryz.func179,Tryz.ntmps179
  go_wp2
  go_ret2
  exact⟨_,rfl,HA.out.1,HA.out.2⟩
 ·rw[if_neg hlong] at hX
  have HX2:Hid (hksK (Ln.splitL t).length 0 0 (Ln.splitL t)=X):=hX
  have hsl:=Ln.split_len t
  have HSl:Hid (∀ s∈Ln.splitL t,s.length≤1048576):=Zky (by omega)
  have HPl:Hid (Plain (Ln.splitL t)):=Zkx t
  have hs:=ZgE t w hl
  have i1:¬ (1048576:Int)<(t.length:Int):=by omega
  clear hX
  generalize Ln.splitL t=L at *
  go_enter Tryz.func179,Tryz.ntmps179
  go_wp2_with fail
  refine hs.mono ?_
  rintro e w1 ⟨v,rfl,hown,hb⟩
  have hL:HS w1 v L:=Zeo hown
  obtain⟨lo,lc,rfl⟩:=Holds.form hL
  go_wp2_with fail
  refine (Zhd L lo lc w1 hL HPl (by omega) HSl X HX2).mono ?_
  intro e w2 hq
  have hq2:=RdQ.base hb hq
  clear hq
  cases X with
  | error z =>
   obtain⟨a,z⟩:=z
   obtain⟨g,rfl,h1,h2⟩:=hq2
   go_wp2
   go_ret2
   exact⟨g,rfl,h1,h2⟩
  | ok l =>
   obtain⟨v',P,rfl,h1,h2⟩:=hq2
   obtain⟨o,c,rfl⟩:=(Zeo h1.own).form
   go_wp2
   go_ret2
   exact⟨_,P,rfl,h1,h2⟩
end

section
open Go.RowKit
end

section
open Go.RowKit
structure Rpr (w:World) (R:Nat) (ov:Value) (P:List (Hk × Value)) (u:World):Prop where
 hs:Hs w ov P u
 fb:u.heap[w.heap.size]?=some (.cells #[.int .i64 0,.int .i64 0] 29)
 hR:w.heap.size<R
section
variable {w u u':World} {R:Nat} {ov:Value} {P:List (Hk × Value)}
theorem Rpr.call (h:Rpr w R ov P u) {vL:Value} {p fa fe:Int} (q:Rx u R vL p fa fe) (hg:u.grownBy u' (some R)):Rpr w R ov P u':=by
 have h1:=h.hR
 refine⟨h.hs.grown hg (fun k e=>by cases e;omega) (fun k e=>by cases e;exact ZhD h.hs.own q (by decide)) (fun x hx k e=>by cases e;exact ZhD (h.hs.ins x hx) q (by decide)),?_,h.hR⟩
 exact (hg.block _ (Array.getElem?_eq_some_iff.1 h.fb).1 (fun e=>by have:=Option.some.inj e;omega)).trans h.fb
theorem Rpr.dN (h:Rpr w R ov P u) (n:Nat):Rpr w R ov P (u.drewN n):=⟨h.hs.drewN n,h.fb,h.hR⟩
theorem Rpr.alloc (h:Rpr w R ov P u) (o:Obj):Rpr w R ov P (u.alloc o):=⟨h.hs.alloc o,(Lib.alloc_old u o _ (Array.getElem?_eq_some_iff.1 h.fb).1).trans h.fb,h.hR⟩
theorem Rpr.more (h:Rpr w R ov P u) {x:Hk} {y ov':Value} (hy:u.ownsRow w.heap.size 47 2 y x.ls.length (mkcells x.ls)) (hg:u.grownBy u' ov.ownBlock) (ho:u'.ownsRow w.heap.size 45 5 ov' (P.length+1) (hkcells P++hkC x y)) :
  Rpr w R ov' (P++[(x,y)]) u'∧∀ {vL:Value} {p fa fe:Int},Rx u R vL p fa fe→Rx u' R vL p fa fe :=
 ⟨⟨h.hs.more hy hg ho,(hg.block _ (Array.getElem?_eq_some_iff.1 h.fb).1 (fun e=>ZhD h.hs.own h.fb (by decide) e.symm)).trans h.fb,h.hR⟩,fun q=>q.keep hg (fun e=>ZhD h.hs.own q (by decide) e.symm)⟩
end
end

section
open Go.RowKit
end

section
open Go.RowKit
end

section
open Ln
def isW (c:UInt8):Bool:=c == 32
def rcmP:List UInt8→Option (Bool × Nat × Nat)
 | []=>none
 | c::t=>match spB isW t with
  | none=>none
  | some (x,_,y)=>if Pn.parseE x=0∧Pn.parseE y=0∧0<Pn.parseV y then if c=97 then some (true,(Pn.parseV x).toNat,(Pn.parseV y).toNat) else if c=100∧0<Pn.parseV x then some (false,(Pn.parseV x-1).toNat,(Pn.parseV y).toNat) else none else none
def rcmF (s:List UInt8):Option (Bool × Nat × Nat):=if fdB s=true then rcmP s.dropLast else none
def rcS (a:List (List UInt8)) (p:Nat) (s:List UInt8) (r out:List (List UInt8)) (dn:Nat) (fl:Bool):Except (Nat × Int) (List (List UInt8) × Nat × Bool × Nat × List (List UInt8)) :=
 match rcmF s with
 | none=>.error (p+1,3)
 | some (ad,ah,n)=>if ah<dn∨(ah=dn∧ad=true∧fl=true) then .error (p+1,121)
  else if a.length<ah+(if ad=true then 0 else n) then .error (p+1,2)
  else if ad=true then if r.length<n then .error (p+1+r.length+1,1) else .ok (out++(a.drop dn).take (ah-dn)++r.take n,ah,true,p+1+n,r.drop n)
  else .ok (out++(a.drop dn).take (ah-dn),ah+n,false,p+1,r)
def rcF (p:Nat) (l:List (List UInt8)):Except (Nat × Int) (List (List UInt8)):=if checkB l=true then .ok l else .error (p+1,6)
def rcE (a:List (List UInt8)):Nat→Nat→List (List UInt8)→List (List UInt8)→Nat→Bool→Except (Nat × Int) (List (List UInt8))
 | 0,p,_,out,dn,_=>rcF p (out++a.drop dn)
 | _+1,p,[],out,dn,_=>rcF p (out++a.drop dn)
 | f+1,p,s::r,out,dn,fl=>match rcS a p s r out dn fl with
  | .error e=>.error e
  | .ok (o,d,g,q,r2)=>rcE a f q r2 o d g
def RcRuns (a:List (List UInt8)) (p:Nat) (ls out:List (List UInt8)) (dn:Nat) (fl:Bool) (p':Nat) (ls' out':List (List UInt8)) (dn':Nat) (fl':Bool):Prop :=
 ∀ f,ls.length≤f→∃ f',ls'.length≤f'∧rcE a f p ls out dn fl=rcE a f' p' ls' out' dn' fl'
theorem RcRuns.refl (a:List (List UInt8)) (p:Nat) (ls out:List (List UInt8)) (dn:Nat) (fl:Bool):RcRuns a p ls out dn fl p ls out dn fl:=fun f hf=>⟨f,hf,rfl⟩
theorem RcRuns.trans {a:List (List UInt8)} {p p1 p2:Nat} {ls ls1 ls2 o o1 o2:List (List UInt8)} {d d1 d2:Nat} {g g1 g2:Bool} (h:RcRuns a p ls o d g p1 ls1 o1 d1 g1) (k:RcRuns a p1 ls1 o1 d1 g1 p2 ls2 o2 d2 g2):RcRuns a p ls o d g p2 ls2 o2 d2 g2:=fun f hf=>by
 obtain⟨f1,h1,e1⟩:=h f hf
 obtain⟨f2,h2,e2⟩:=k f1 h1
 exact⟨f2,h2,e1.trans e2⟩
theorem RcRuns.step {a:List (List UInt8)} {p q:Nat} {s:List UInt8} {r r2 o o1:List (List UInt8)} {d d1:Nat} {g g1:Bool} (h:rcS a p s r o d g=.ok (o1,d1,g1,q,r2)) (hl:r2.length≤r.length):RcRuns a p (s::r) o d g q r2 o1 d1 g1:=fun f hf=>by
 cases f with
 | zero=>simp at hf
 | succ f =>
  refine⟨f,by simp only[List.length_cons] at hf;omega,?_⟩
  rw[rcE,h]
end

section
open Ln Go.RowKit
attribute [local go_sem] Zhc ByteArray.extract_mk
end

section
open Go.RowKit Go.Proofs.YtcniomgjikienaaGreatDoor.Tx
open Ln
attribute [local go_sem] Zhc
def natC (A:List Nat):List Value:=icells (A.map fun (n:Nat)=>(n:Int))
theorem ZgM (A:List Nat) (k:Nat):natC (A++[k])=natC A++icells [(k:Int)]:=by unfold natC icells;simp
structure Sq (W:World) (av:Value) (A:List Nat) (rv:Value) (R:List (List UInt8)) (u:World):Prop where
 low:Below W.heap.size W u
 ats:u.ownsRow W.heap.size 3 1 av A.length (natC A)
 rest:u.ownsRow W.heap.size 9 1 rv R.length (scells R)
section
variable {W u u':World} {av rv av' rv':Value} {A:List Nat} {R:List (List UInt8)}
theorem Sq.keep (h:Sq W av A rv R u) (hb:Below u.heap.size u u'):Sq W av A rv R u':=⟨h.low.trans (hb.mono h.low.size),ZhK h.ats hb,ZhK h.rest hb⟩
theorem Sq.more1 (h:Sq W av A rv R u) {k:Nat} (hg:u.grownBy u' av.ownBlock) (ho:u'.ownsRow W.heap.size 3 1 av' (A.length+1) (natC A++icells [(k:Int)])):Sq W av' (A++[k]) rv R u':=by
 refine⟨h.low.grown hg h.low.size (fun k e=>ZhJ h.ats e),?_,ZjA h.rest h.ats (by decide) hg⟩
 rw[ZgM,List.length_append]
 exact ho
theorem Sq.more2 (h:Sq W av A rv R u) {s:List UInt8} (hg:u.grownBy u' rv.ownBlock) (ho:u'.ownsRow W.heap.size 9 1 rv' (R.length+1) (scells R++scells [s])):Sq W av A rv' (R++[s]) u':=by
 refine⟨h.low.grown hg h.low.size (fun k e=>ZhJ h.rest e),ZjA h.ats h.rest (by decide) hg,?_⟩
 rw[List.length_append]
 have e:scells (R++[s])=scells R++scells [s]:=by unfold scells;simp
 rw[e]
 exact ho
end
theorem Zaz {u:World} {xo:Option Addr} {xc:Nat} {A:List Nat} (h:Holds u (.slice xo A.length xc) A.length (natC A)) (h0:0<A.length):∃ b off,xo=some ⟨b,off,none⟩∧b<u.heap.size∧∀ k (hk:k<A.length),u.cell? ⟨b,off+k,none⟩=some (.int .i64 ((A[k]:Nat):Int)):=by
 have h2:HI u (.slice xo A.length xc) (A.map fun (n:Nat)=>(n:Int)):=by unfold HI;rw[List.length_map];exact h
 obtain⟨b,off,e,hb,hc⟩:=HI.at h2 (by rw[List.length_map];exact h0)
 refine⟨b,off,e,hb,fun k hk=>?_⟩
 rw[hc k (by rw[List.length_map];exact hk),List.getElem_map]
theorem ZiN {w w7 u:World} {v:Value} {F:List Pfd} (h:Pw w7 v F u) (hlow:Below w.heap.size w u) (hs:w.heap.size≤w7.heap.size):Pw w v F u:=⟨hlow,ZhC h.own hs,fun f hf=>⟨(h.ins f hf).eq,ZhC (h.ins f hf).own hs,fun y hy=>ZhC ((h.ins f hf).ins y hy) hs⟩⟩
end

section
open Go.RowKit Go.Proofs.YtcniomgjikienaaGreatDoor.Tx
open Ln
attribute [local go_sem] Zhc
def CoQ (w:World) (ls:List (List UInt8)) (e:Ending) (w':World):Prop:=∃ xo yo xc yc,e=.returned (.tuple #[.slice yo (ntR ls).length yc,.slice xo (0::atL ls).length xc])∧Sq w (.slice xo (0::atL ls).length xc) (0::atL ls) (.slice yo (ntR ls).length yc) (ntR ls) w'
theorem Zmr (w:World) (B:Nat) (hB:B≤w.heap.size):(w.alloc (.cells #[.int .i64 0] 3)).ownsRow B 3 1 (.slice (some ⟨w.heap.size,0,none⟩) 1 1) 1 (natC [0]):=by
 refine⟨rfl,.inr ⟨_,1,#[.int .i64 0],rfl,hB,_root_.Go.heap_alloc_new w _,Nat.le_refl _,by decide,rfl,rfl⟩⟩
theorem Sq.base {w W u:World} {av rv:Value} {A:List Nat} {R:List (List UInt8)} (h:Sq W av A rv R u) (hb:Below w.heap.size w u) (hs:w.heap.size≤W.heap.size):Sq w av A rv R u:=⟨hb,ZhC h.ats hs,ZhC h.rest hs⟩
theorem ZhO (t:List UInt8) (w:World) (h:t.length≤1099511627776) (ls:List (List UInt8)) (HLs:Hid (splitL t=ls)) :
  Calls Tryz.prog 26 #[.string ⟨t.toArray⟩] w fun e w'=>CoQ w ls e w':=by
 have hsp:=ZgE t w (by omega)
 have hsl:=split_len t
 have HNE:Hid (∀ s∈splitL t,s≠[]):=fun s hs=>ZiJ hs
 rw[HLs.out] at hsp hsl HNE
 clear HLs
 have HA0:Hid (([0]:List Nat)++plR 0 (ls.drop 0)=0::plR 0 ls∧([]:List (List UInt8))++ntR (ls.drop 0)=ntR ls∧([0]:List Nat).length=([]:List (List UInt8)).length+1∧([0]:List Nat).length≤1):=⟨rfl,rfl,rfl,Nat.le_refl _⟩
 have hLl:ls.length≤1099511627776:=by omega
 clear hsl h
 go_enter Tryz.func26,Tryz.ntmps26
 go_wp2_with fail
 refine hsp.mono ?_
 rintro e w1 ⟨v,rfl,hown,hB⟩
 have ha:HS w1 v ls:=Zeo hown
 obtain⟨ao,ac,rfl⟩:=Holds.form ha
 have hS0:Sq w1 (.slice (some ⟨w1.heap.size,0,none⟩) 1 1) [0] (.slice none 0 0) [] (w1.alloc (.cells #[.int .i64 0] 3)):=⟨(Below.refl _ w1).alloc (Nat.le_refl _) _,Zmr w1 _ (Nat.le_refl _),Zen _ _ _ _⟩
 clear hsp hown
 go_wp2
 go_loopw [5,6,14] (fun rv av iv wr=>∃ (k:Nat) (A:List Nat) (R:List (List UInt8)) (xo yo:Option Addr) (xc yc:Nat),k≤ls.length∧av=.slice xo A.length xc∧rv=.slice yo R.length yc∧iv=.int .i64 (k:Int)∧Sq w1 (.slice xo A.length xc) A (.slice yo R.length yc) R wr∧Hid (A++plR k (ls.drop k)=0::plR 0 ls∧R++ntR (ls.drop k)=ntR ls∧A.length=R.length+1∧A.length≤k+1)) (fun _ _ iv _=>ls.length-(intOf iv).toNat)
 case atStart=>exact⟨0,[0],[],_,none,_,0,Nat.zero_le _,rfl,rfl,by go_num,hS0,HA0⟩
 case round =>
 clear hS0 HA0
 obtain⟨k,A,R,xo,yo,xc,yc,hk,rfl,rfl,rfl,hSq,HI⟩:=hrel
 by_cases hlt:k<ls.length
 ·obtain⟨bk,off,rfl,hbk,hc⟩:=HS.at ha (by omega)
  have c0:=(World.cell?_of_block (hSq.low.block bk hbk)).trans (hc k hlt)
  obtain⟨i1,i2,i3,i4⟩:=HI.out
  have hne:=HNE.out ls[k] (List.getElem_mem hlt)
  rw[List.drop_eq_getElem_cons hlt,Zhf] at i2
  rw[List.drop_eq_getElem_cons hlt] at i1
  simp only[plR] at i1
  obtain⟨s,hs⟩:∃ s,ls[k]=s:=⟨_,rfl⟩
  rw[hs] at c0 i1 i2 hne
  obtain⟨b,hb⟩:∃ b,rmkB s=b:=⟨_,rfl⟩
  have hrm:=fun u=>ZhS s hne u b hb
  rw[hb] at i1 i2
  have j1:(0:Int)≤(k:Int):=by omega
  have j2:(k:Int)<(ls.length:Int):=by omega
  have hAl:A.length+1≤4398046511104:=by omega
  have hRl:R.length+1≤4398046511104:=by omega
  clear hc hs hb HI
  cases b with
  | true =>
   rw[if_pos rfl] at i1 i2
   have HI2:Hid (A++plR (k+1) (ls.drop (k+1))=0::plR 0 ls∧R++ntR (ls.drop (k+1))=ntR ls∧A.length=R.length+1∧A.length≤k+1+1):=⟨i1,i2,i3,by omega⟩
   clear i1 i2 i3 i4 hAl hRl
   go_wp2_with fail
   refine (hrm _).mono ?_
   rintro e w2 ⟨rfl,rfl⟩
   clear hrm
   go_wp2
   exact⟨⟨k+1,A,R,xo,yo,xc,yc,by omega,by first | rfl | simp,by first | rfl | simp,by go_num,hSq,HI2⟩,by simp[intOf];omega⟩
  | false =>
   rw[if_neg (by decide)] at i1 i2
   have HI2:Hid ((A++[k+1])++plR (k+1) (ls.drop (k+1))=0::plR 0 ls∧(R++[s])++ntR (ls.drop (k+1))=ntR ls∧(A++[k+1]).length=(R++[s]).length+1∧(A++[k+1]).length≤k+1+1):=⟨by rw[← i1];simp,by rw[← i2];simp,by simp[i3],by simp;omega⟩
   clear i1 i2 i3 i4
   go_wp2_with fail
   refine (hrm _).mono ?_
   rintro e w2 ⟨rfl,rfl⟩
   clear hrm
   have hSb:=hSq.keep ((Below.refl _ wr).alloc (Nat.le_refl _) (.cells #[.string ⟨s.toArray⟩] 9))
   have hzb:=hSb.low.size
   have hob:=hSb.rest
   have hrb:Holds _ _ 1 _:=ZgR wr #[.string ⟨s.toArray⟩] 9 1 1 (by decide)
   go_wp2_with (at_builtin;refine Zmg _ (by kernel_rfl) (.tmp 22) (.tmp 24) 49 9 (.string ⟨#[]⟩) 1 16 rfl Tryz.underlying49 infoStr rfl (by decide) (by decide) w1.heap.size _ _ _ rfl hob _ 1 (scells [s]) rfl hrb rfl (ZjU _) hRl hzb ?_)
   intro v3 u3 ho3 hg3
   have hS3:=hSb.more2 hg3 ho3
   obtain⟨x3,y3,rfl⟩:=(Zeo ho3).form
   clear hSb hzb hob hrb ho3 hg3 c0
   have hSa:=hS3.keep ((Below.refl _ u3).alloc (Nat.le_refl _) (.cells #[.int .i64 ((k:Int)+1)] 3))
   have hza:=hSa.low.size
   have hoa:=hSa.ats
   have hra:Holds _ _ 1 _:=ZgR u3 #[.int .i64 ((k:Int)+1)] 3 1 1 (by decide)
   go_wp2_with (at_builtin;refine Zmg _ (by kernel_rfl) (.tmp 26) (.tmp 29) 55 3 (.int .i64 0) 1 8 rfl Tryz.underlying55 infoInt rfl (by decide) (by decide) w1.heap.size _ _ _ rfl hoa _ 1 (icells [((k+1:Nat):Int)]) rfl hra rfl (Zet _) hAl hza ?_)
   intro v4 u4 ho4 hg4
   have hS4:=hSa.more1 (k:=k+1) hg4 ho4
   obtain⟨x4,y4,rfl⟩:=(Zeo ho4).form
   clear hSa hza hoa hra ho4 hg4 hS3
   go_wp2
   exact⟨⟨k+1,A++[k+1],R++[s],x4,x3,y4,y3,by omega,by rw[List.length_append];rfl,by rw[List.length_append];rfl,by go_num,by rw[List.length_append,List.length_append];exact hS4,HI2⟩,by simp[intOf];omega⟩
 ·have hend:¬ (k:Int)<(ls.length:Int):=by omega
  obtain⟨i1,i2,i3,i4⟩:=HI.out
  rw[List.drop_of_length_le (by omega)] at i1 i2
  have HAe:Hid (A=0::plR 0 ls∧R=ntR ls∧A.length≤k+1):=⟨by simpa [plR] using i1,by simpa [ntR] using i2,i4⟩
  have hAl:A.length+1≤4398046511104:=by omega
  clear HI i1 i2 i3 i4
  have hSa:=hSq.keep ((Below.refl _ wr).alloc (Nat.le_refl _) (.cells #[.int .i64 ((ls.length:Int)+1)] 3))
  have hza:=hSa.low.size
  have hoa:=hSa.ats
  have hra:Holds _ _ 1 _:=ZgR wr #[.int .i64 ((ls.length:Int)+1)] 3 1 1 (by decide)
  go_wp2_with (at_builtin;refine Zmg _ (by kernel_rfl) (.tmp 33) (.tmp 37) 55 3 (.int .i64 0) 1 8 rfl Tryz.underlying55 infoInt rfl (by decide) (by decide) w1.heap.size _ _ _ rfl hoa _ 1 (icells [((ls.length+1:Nat):Int)]) rfl hra rfl (Zet _) hAl hza ?_)
  intro v3 u4 ho3 hg3
  have hS4:=hSa.more1 (k:=ls.length+1) hg3 ho3
  obtain⟨x3,y3,rfl⟩:=(Zeo ho3).form
  clear hSa hza hoa hra ho3 hg3 hSq
  obtain⟨rfl,a2,_⟩:=HAe.out
  obtain rfl:R=ntR ls:=a2
  have e2:(0::plR 0 ls)++[ls.length+1]=0::atL ls:=rfl
  rw[e2] at hS4
  have e3:(0::plR 0 ls).length+1=(0::atL ls).length:=by rw[← e2,List.length_append];rfl
  rw[e3] at hS4 ⊢
  have hS5:=hS4.base (hB.trans (hS4.low.mono hB.size)) hB.size
  clear HAe hend hlt hk hS4
  go_wp2
  go_ret2
  exact⟨_,_,_,_,rfl,hS5⟩
end

section
open Go.RowKit
theorem Zls {P:List (Hk × Value)} {f p:Nat} {r:List (List UInt8)} (h:(decide (P=[]) || pkU atC r)=true):lefU P (f+1) p r=match uhkP P.length p r with
  | .error e=>.error e
  | .ok (x,p1,r1)=>thenX (P.map (·.1)++[x]) (conU f (P.length+1) p1 r1):=by
 unfold lefU
 by_cases hP:P=[]
 ·rw[if_pos hP,Zln,hP]
  rfl
 ·rw[if_neg hP]
  have hk:pkU atC r=true:=by simpa [hP] using h
  unfold conU
  rw[if_pos hk,Zln]
  rfl
theorem Zlu {P:List (Hk × Value)} {f p:Nat} {r:List (List UInt8)} (h:(decide (P=[]) || pkU atC r)=false):lefU P f p r=.ok (P.map (·.1),p,r):=by
 rw[Bool.or_eq_false_iff,decide_eq_false_iff_not] at h
 unfold lefU conU
 rw[if_neg h.1,if_neg (by rw[h.2];decide)]
 simp[thenX]
theorem Zlt {P:List (Hk × Value)} {f p:Nat} {r:List (List UInt8)} (x:Hk) (y:Value):lefU (P++[(x,y)]) f p r=thenX (P.map (·.1)++[x]) (conU f (P.length+1) p r):=by
 unfold lefU
 rw[if_neg (by simp),List.map_append,List.length_append]
 rfl
def PtU (R:Nat) (vL:Value) (X:Except (Nat × Int) (Pth × Nat × List (List UInt8))) (w:World) (e:Ending) (w':World):Prop :=
 match X with
 | .error (a,z)=>Thr (a:Int) z e w'∧w.grownBy w' (some R)
 | .ok (x,p1,_)=>∃ hv P,e=.returned (.agg #[.string ⟨x.old.toArray⟩,.string ⟨x.new.toArray⟩,hv])∧x.hs=P.map (·.1)∧w'.ownsRow w.heap.size 45 5 hv P.length (hkcells P)∧(∀ y∈P,w'.ownsRow w.heap.size 47 2 y.2 y.1.ls.length (mkcells y.1.ls))∧Uk w' R vL (p1:Int)∧w.grownBy w' (some R)
theorem ZlW {w wb u:World} {R S:Nat} {vL hv:Value} {n1 n2:List UInt8} {P:List (Hk × Value)} {p:Nat} (h:Pzu wb R S vL n1 n2 hv P p u) (hG:∀ u,wb.grownBy u (some R)→w.grownBy u (some R)) (hZ:wb.heap[w.heap.size]?=some zpO∧w.heap.size<wb.heap.size∧w.heap.size≠R) :
  (three u w.heap.size n1 n2 hv).heap[w.heap.size]?=some (.cells #[.string ⟨n1.toArray⟩,.string ⟨n2.toArray⟩,hv] 42)∧(three u w.heap.size n1 n2 hv).ownsRow w.heap.size 45 5 hv P.length (hkcells P)∧(∀ y∈P,(three u w.heap.size n1 n2 hv).ownsRow w.heap.size 47 2 y.2 y.1.ls.length (mkcells y.1.ls))∧Uk (three u w.heap.size n1 n2 hv) R vL (p:Int)∧w.grownBy (three u w.heap.size n1 n2 hv) (some R):=by
 obtain⟨h1,h2,h3⟩:=hZ
 have hb:u.heap[w.heap.size]?=some zpO:=(h.gr.block _ h2 (fun e=>h3 (Option.some.inj e))).trans h1
 have hg:u.grownBy (three u w.heap.size n1 n2 hv) (some w.heap.size):=ZdT (ZdT (ZdS u _ 0 _) (ZdS _ _ 1 _)) (ZdS _ _ 2 _)
 refine⟨?_,ZhC (ZhI h.own hg h2) (by omega),fun y hy=>ZhC (ZhI (h.ins y hy) hg h2) (by omega),h.ck.keep hg (fun e=>h3 (Option.some.inj e).symm),?_⟩
 ·have s0:=heap_setCell_same u w.heap.size 0 _ _ (.string ⟨n1.toArray⟩) hb
  have s1:=heap_setCell_same _ w.heap.size 1 _ _ (.string ⟨n2.toArray⟩) s0
  exact heap_setCell_same _ w.heap.size 2 _ _ hv s1
 ·exact ZdR (ZdR (ZdR (hG _ h.gr) (Nat.le_refl _) 0 _) (Nat.le_refl _) 1 _) (Nat.le_refl _) 2 _
theorem ZlH {R:Nat} {L:List (List UInt8)} {lo:Option Addr} {lc:Nat} {p k:Nat} (hk:k≤64) (w:World) (q:Uk w R (.slice lo L.length lc) p) (HL:Hid (∀ u,w.grownBy u (some R)→HS u (.slice lo L.length lc) L)) (HPl:Hid (Plain L)) (hp:p≤L.length) (hLl:L.length≤137438953472) (HSl:Hid (∀ s∈L,s.length≤1099511627)) (hmx:Mxl w) (hR1:1<R)
  (X:Except (Nat × Int) (Pth × Nat × List (List UInt8))) (HX:Hid (patU k p (L.drop p)=X)) :
  Calls Tryz.prog 170 #[.pointer (some ⟨R,0,none⟩),.int .i64 (k:Int)] w fun e w'=>PtU R (.slice lo L.length lc) X w e w':=by
 have HG:Hid (∀ u,(w.alloc zpO).grownBy u (some R)→w.grownBy u (some R)):=fun u hu=>ZdO _ hu
 have hRl:=q.lt
 have HX2:=HX.out
 have hRl1:R<(w.alloc zpO).heap.size:=(by simp;omega)
 have HZ:Hid ((w.alloc zpO).heap[w.heap.size]?=some zpO∧w.heap.size<(w.alloc zpO).heap.size∧w.heap.size≠R):=⟨heap_alloc_new w _,by simp,by omega⟩
 have hP0:Pzu (w.alloc zpO) R (w.heap.size+1) (.slice lo L.length lc) [] [] (.slice none 0 0) [] p ((w.alloc zpO).alloc zpO):=(by
  have hsz:(w.alloc zpO).heap.size=w.heap.size+1:=by simp
  refine⟨World.grownBy_alloc _ _ _,?_,Zen _ _ _ _,fun x hx=>(by cases hx),(q.low ((Below.refl _ w).alloc (Nat.le_refl _) _)).low ((Below.refl _ _).alloc (Nat.le_refl _) _),by omega,hRl1⟩
  rw[← hsz]
  exact heap_alloc_new _ _)
 have hW:(w.alloc (.cells #[.string ⟨#[]⟩,.string ⟨#[]⟩,.slice none 0 0] 42)).alloc (.cells #[.string ⟨#[]⟩,.string ⟨#[]⟩,.slice none 0 0] 42)=(w.alloc zpO).alloc zpO:=rfl
 obtain⟨Y,hY⟩:∃ Y,namP [45,45,45,32] p (L.drop p)=Y:=⟨_,rfl⟩
 unfold patU at HX2
 rw[hY] at HX2
 have hn1:=ZlC [45,45,45,32] rfl _ hP0.ck (HL.out _ (HG.out _ hP0.gr)) hp (by omega) (fun s h=>by have:=HSl.out s h;omega) Y hY
 clear HX q
 generalize hwb:w.alloc zpO=wb at *
 clear hwb
 go_enter Tryz.func170,Tryz.ntmps170
 go_wp2_with fail
 clear hW
 generalize w.heap.size+1=S at hP0 ⊢
 generalize wb.alloc zpO=w0 at hP0 hn1 ⊢
 refine hn1.mono ?_
 clear hn1
 cases Y with
 | error z =>
  obtain⟨a,z⟩:=z
  rintro e w1 ⟨⟨g,rfl,hg⟩,hgr⟩
  have hXe:X=.error (a,z):=HX2.symm
  subst hXe
  go_wp2
  exact⟨rfl,⟨_,rfl,hg⟩,HG.out _ (ZdT hP0.gr hgr)⟩
 | ok z =>
  obtain⟨n1,r1⟩:=z
  rintro e w1 ⟨rfl,hB1⟩
  obtain⟨rfl,hpl⟩:=ZgG hY
  dsimp only at HX2
  have hP1:=hP0.keep hB1
  clear hY hP0 hB1
  obtain⟨c0,c1,c2⟩:=hP1.cells
  have f0:=hP1.frozen 0
  have hP2:=hP1.put 0 (.string ⟨n1.toArray⟩) (m1:=n1) (m2:=[]) (hv':=.slice none 0 0) rfl hP1.own
  clear hP1
  by_cases h64:64≤k
  ·rw[if_pos h64] at HX2
   have hXe:=HX2.symm
   subst hXe
   have e1:((k:Int) == 64)=true:=beq_iff_eq.2 (by omega)
   go_wp2_with fail
   refine (ZlU 9 _ hP2.ck (by omega)).mono ?_
   rintro e w2 ⟨⟨g,rfl,hg⟩,hgr⟩
   go_wp2
   exact⟨rfl,⟨_,rfl,by simpa using hg⟩,HG.out _ (ZdT hP2.gr hgr)⟩
  ·rw[if_neg h64] at HX2
   have e1:((k:Int) == 64)=false:=beq_eq_false_iff_ne.2 (by omega)
   go_upto_region 3 with fail
   clear c0 c1 c2 f0
   generalize w1.setCell ⟨S,0,none⟩ (.string ⟨n1.toArray⟩)=w2 at hP2 ⊢
   obtain⟨d0,d1⟩:=hP2.ck.cells
   have f1:=hP2.ck.frozen 1
   have hP3:=hP2.next
   obtain⟨Y2,hY2⟩:∃ Y,namP [43,43,43,32] (p+1) (L.drop (p+1))=Y:=⟨_,rfl⟩
   rw[hY2] at HX2
   have hn2:=ZlC [43,43,43,32] rfl _ hP3.ck (HL.out _ (HG.out _ hP3.gr)) (by omega) (by omega) (fun s h=>by have:=HSl.out s h;omega) Y2 hY2
   go_wp2_with fail
   refine hn2.mono ?_
   clear hn2 hP2 d0 d1 f1
   cases Y2 with
   | error z =>
    obtain⟨a,z⟩:=z
    rintro e w3 ⟨⟨g,rfl,hg⟩,hgr⟩
    have hXe:X=.error (a,z):=HX2.symm
    subst hXe
    go_wp2
    exact⟨rfl,⟨_,rfl,hg⟩,HG.out _ (ZdT hP3.gr hgr)⟩
   | ok z =>
    obtain⟨n2,r2⟩:=z
    rintro e w3 ⟨rfl,hB3⟩
    obtain⟨rfl,hpl2⟩:=ZgG hY2
    dsimp only at HX2
    have hP4:=hP3.keep hB3
    clear hY2 hP3 hB3
    obtain⟨c0,c1,c2⟩:=hP4.cells
    have f1:=hP4.frozen 1
    have hP5:=hP4.put 1 (.string ⟨n2.toArray⟩) (m1:=n1) (m2:=n2) (hv':=.slice none 0 0) rfl hP4.own
    clear hP4
    go_upto_region 7 with fail
    clear c0 c1 c2 f1
    generalize w3.setCell ⟨S,1,none⟩ (.string ⟨n2.toArray⟩)=w4 at hP5 ⊢
    obtain⟨d0,d1⟩:=hP5.ck.cells
    have f1:=hP5.ck.frozen 1
    have hP6:=hP5.next
    clear hP5
    obtain⟨Y3,hY3⟩:∃ Y,uhsP atC ((L.drop (p+1+1)).length+1) 0 (p+1+1) (L.drop (p+1+1))=Y:=⟨_,rfl⟩
    have HX3:Hid (mkP n1 n2 Y3=X):=(by show _=_;rw[← hY3];exact HX2)
    have HY0:Hid (lefU [] ((L.drop (p+1+1)).length+1) (p+1+1) (L.drop (p+1+1))=Y3):=(by show _=_;unfold lefU;rw[if_pos rfl,List.map_nil,ZkO];exact hY3)
    clear hY3 HX2
    go_wp2
    rw[show (((p+1:Nat):Int)+1)=(p:Int)+1+1 by omega] at hP6
    generalize w4.setCell ⟨R,1,none⟩ (.int .i64 ((p:Int)+1+1))=w5 at hP6 ⊢
    clear d0 d1 f1
    go_loopw [] (fun wr=>∃ (hv:Value) (P:List (Hk × Value)) (p' f:Nat),(∃ o c,hv=.slice o P.length c)∧Pzu wb R S (.slice lo L.length lc) n1 n2 hv P p' wr∧p'≤L.length∧P.length≤4096∧Hid ((L.drop p').length+1≤f)∧Hid (lefU P f p' (L.drop p')=Y3)) (fun wr=>L.length-ukN wr R)
    case atStart=>exact⟨_,[],p+1+1,_,⟨none,0,rfl⟩,hP6,by omega,Nat.zero_le _,Nat.le_refl _,HY0⟩
    case round =>
    clear hP6 HY0
    obtain⟨hv,P,p',f,⟨ho,hc,rfl⟩,hZ,hp',hPl,HF,HI⟩:=hrel
    obtain⟨c0,c1,c2⟩:=hZ.cells
    have hLr:=HL.out _ (HG.out _ hZ.gr)
    have HK:Hid (ukN wr R=p'):=Zlr hZ.ck
    obtain⟨gd,hgd⟩:∃ g,(decide (P=[]) || pkU atC (L.drop p'))=g:=⟨_,rfl⟩
    go_upto_region 8 with fail
    go_cut [37] from 30 to 47 (fun cv wz=>cv=.bool gd∧Pzu wb R S (.slice lo L.length lc) n1 n2 (.slice ho P.length hc) P p' wz)
    case first =>
     by_cases hP0:P=[]
     ·have z1:((P.length:Int) == 0)=true:=(by rw[hP0];rfl)
      have HE:Hid (true=gd):=(by rw[decide_eq_true hP0,Bool.true_or] at hgd;exact hgd)
      clear hP0 hgd
      go_wp2
      go_meet
      case rel=>exact⟨by rw[← HE.out],hZ⟩
     ·have z1:((P.length:Int) == 0)=false:=(by rw[beq_eq_false_iff_ne];intro e;exact hP0 (List.eq_nil_of_length_eq_zero (by omega)))
      have hat:=Zla wr hZ.ck hLr hp' (by omega) gd (show Hid (pkU atC (L.drop p')=gd) by show _=_;rw[← hgd,decide_eq_false hP0,Bool.false_or])
      clear hP0 hgd
      go_wp2_with fail
      refine hat.mono ?_
      rintro e w6 ⟨rfl,nn,rfl⟩
      have hZ2:=hZ.keep (below_drewN (Below.refl _ _) nn)
      go_wp2
      go_meet
      case rel=>exact⟨rfl,hZ2⟩
    case rest =>
    obtain⟨rfl,hZ2⟩:=hcut
    clear hZ c0 c1 c2 hLr
    obtain⟨c0,c1,c2⟩:=hZ2.cells
    have hLr:=HL.out _ (HG.out _ hZ2.gr)
    cases gd with
    | false =>
     have hYe:Y3=.ok (P.map (·.1),p',L.drop p'):=(by rw[← HI.out];exact Zlu hgd)
     have hXe:X=.ok (⟨n1,n2,P.map (·.1)⟩,p',L.drop p'):=(by rw[← HX3.out,hYe];rfl)
     subst hXe
     clear hYe hgd HI HX3 hLr
     obtain⟨y0,y1,y2,yf⟩:=ZkP hZ2.gr HZ.out _ rfl
     obtain⟨fh,fo,fi,fq,fg⟩:=ZlW hZ2 HG.out HZ.out
     have yf0:=yf 0
     have yf1:=yf 1
     have yf2:=yf 2
     clear yf hZ2
     go_wp2
     exact bodyPost_ret (v:=.agg #[.string ⟨n1.toArray⟩,.string ⟨n2.toArray⟩,.slice ho P.length hc]) (results_cell_row rfl _ _ w.heap.size 42 #[.string ⟨n1.toArray⟩,.string ⟨n2.toArray⟩,.slice ho P.length hc] (0,0) _ rfl fh Tryz.underlying42 rfl (by kernel_rfl)) rfl ⟨_,P,rfl,rfl,fo,fi,fq,fg⟩
    | true =>
     have hf0:=HF.out
     obtain⟨f',rfl⟩:∃ f',f=f'+1:=⟨f-1,by omega⟩
     have hgo:=Zls (f:=f') (p:=p') hgd
     rw[HI.out] at hgo
     obtain⟨Yh,hYh⟩:∃ Y,uhkP P.length p' (L.drop p')=Y:=⟨_,rfl⟩
     rw[hYh] at hgo
     have hZd:=hZ2.keep (Below.drew (Below.refl _ _))
     have hch:=Zlo hPl _ hZd.ck (fun u hu=>HL.out u (HG.out _ (ZdT hZd.gr hu))) HPl hp' hLl HSl (hmx.keep (HG.out _ hZd.gr) hR1) Yh hYh
     have HYe:Hid (∀ e,Yh=.error e→X=.error e):=(by
      intro e he
      rw[← HX3.out,hgo,he]
      rfl)
     have HN:Hid (∀ h p2 r,Yh=.ok (h,p2,r)→p2≤L.length∧p'<p2∧Hid ((L.drop p2).length+1≤f')∧P.length<4096∧r=L.drop p2):=(by
      intro h p2 r he
      obtain⟨b1,b2,b3,b4⟩:=Zlh HPl.out (hYh.trans he)
      have:=HF.out
      rw[List.length_drop] at this
      exact⟨b3,b2,(by show _≤_;rw[List.length_drop];omega),b4,b1⟩)
     have HN2:Hid (∀ h p2 r y,Yh=.ok (h,p2,r)→Hid (lefU (P++[(h,y)]) f' p2 (L.drop p2)=Y3)):=(by
      intro h p2 r y he
      show _=_
      rw[Zlt,← (HN.out h p2 r he).2.2.2.2,hgo,he])
     obtain⟨Pn,hPnd⟩:∃ Pn:List PanicEntry→World→Prop,(fun c u=>∃ (g a:Nat) (z:Int),c=[{ v:=.iface 62 (.pointer (some ⟨g,0,none⟩)),recovered:=false }]∧u.heap[g]?=some (fltO (a:Int) z)∧X=.error (a,z)∧w.grownBy u (some R))=Pn:=⟨_,rfl⟩
     obtain⟨Rr,hRr⟩:∃ Rr:Value→World→Prop,(fun v u=>∃ h p2 r vo vc,Yh=.ok (h,p2,r)∧v=hkV h (.slice vo h.ls.length vc)∧Pzu wb R S (.slice lo L.length lc) n1 n2 (.slice ho P.length hc) P p2 u∧u.ownsRow wb.heap.size 47 2 (.slice vo h.ls.length vc) h.ls.length (mkcells h.ls))=Rr:=⟨_,rfl⟩
     have hcall:Calls Tryz.prog 206 (#[.pointer (some ⟨R,0,none⟩),.int .i64 (P.length:Int)]++#[]) wc.drew fun e w'=>(∃ v,e=.returned v∧True∧Rr v w')∨(∃ c,e=.panicked c∧Pn c w'):=(by
      refine hch.mono ?_
      intro e w' hq
      rw[← hPnd,← hRr]
      cases Yh with
      | error z =>
       obtain⟨a,z⟩:=z
       obtain⟨⟨g,rfl,hg⟩,hgr⟩:=hq
       exact .inr ⟨_,rfl,g,a,z,rfl,hg,HYe.out _ rfl,HG.out _ (ZdT hZd.gr hgr)⟩
      | ok z =>
       obtain⟨h,p2,r⟩:=z
       obtain⟨v',rfl,hown,q,hgr⟩:=hq
       obtain⟨vo,vc,rfl⟩:=(Zeo hown).form
       exact .inl ⟨_,rfl,trivial,h,p2,r,vo,vc,rfl,rfl,hZd.call hgr q,ZhC hown hZd.gr.size⟩)
     have HRr:Hid (_=Rr):=hRr
     have HPd:Hid (_=Pn):=hPnd
     clear hRr hPnd hch hgo hYh HI hgd hLr
     go_upto_region 9 with fail
     clear c0 c1 c2
     refine wp_region_held_drew (S:=fun _=>True) (by kernel_rfl) trivial (fun _=>?_)
     generalize wc.drew=wd at hZd hcall ⊢
     have c2d:=hZd.cells.2.2
     refine Y_t 0 38 _ (.pointer (some ⟨S,2,none⟩)) rfl (Or.inl ⟨by kernel_rfl,fun u hu=>by kernel_rfl⟩) trivial ?_
     simp only[Act.put,Y_a,Y_b,Y_c]
     refine Y_t 2 40 _ (.pointer (some ⟨R,0,none⟩)) rfl (Or.inl ⟨by kernel_rfl,fun u hu=>by kernel_rfl⟩) trivial ?_
     simp only[Act.put,Y_a,Y_b,Y_c]
     refine Y_t 3 41 _ (.pointer (some ⟨S,2,none⟩)) rfl (Or.inl ⟨by kernel_rfl,fun u hu=>by kernel_rfl⟩) trivial ?_
     simp only[Act.put,Y_a,Y_b,Y_c]
     refine ZdJ 1 39 _ 4 42 _ rfl (by kernel_rfl) rfl (by kernel_rfl) (by kernel_rfl) (by kernel_rfl) (by kernel_rfl) (.slice ho P.length hc) wd (ZfJ c2d (.tmp 38) (by kernel_rfl) (by kernel_rfl)) trivial (.slice ho P.length hc) wd (ZfJ c2d (.tmp 41) (by kernel_rfl) (by kernel_rfl)) trivial ?_ ?_
     ·simp only[Act.put,Y_a,Y_b,Y_c]
      refine Y_v 4 42 _ rfl (.slice ho P.length hc) wd (ZfJ c2d (.tmp 41) (by kernel_rfl) (by kernel_rfl)) trivial ?_
      simp only[Act.put,Y_a,Y_b,Y_c]
      refine Y_t 5 43 _ (.int .i64 (P.length:Int)) rfl (Or.inl ⟨by kernel_rfl,fun u hu=>by kernel_rfl⟩) trivial ?_
      simp only[Act.put,Y_a,Y_b,Y_c]
      refine ZdF 6 44 _ rfl (by kernel_rfl) (by kernel_rfl) (by kernel_rfl) 206 (.func 206) #[.tmp 40,.tmp 43] #[264,3] (by kernel_rfl) #[] (by kernel_rfl) #[.pointer (some ⟨R,0,none⟩),.int .i64 (P.length:Int)] (by kernel_rfl) (enters_of Tryz.func206 (by kernel_rfl) rfl) Rr Pn (fun c u h=>by rw[← HPd.out] at h;obtain⟨g,a,z,rfl,hg,hXe,hgr⟩:=h;subst hXe;exact⟨rfl,⟨_,rfl,hg⟩,hgr⟩) ?_ ?_
      ·exact hcall
      intro v0 u1 _ hq
      rw[← HRr.out] at hq
      obtain⟨h,p2,r,vo,vc,hk2,rfl,hR1,hown1⟩:=hq
      have c1u:=hR1.cells.2.2
      have hRA:=hR1.keep ((Below.refl _ u1).alloc (Nat.le_refl _) (hkO h (.slice vo h.ls.length vc)))
      have c2u:=hRA.cells.2.2
      simp only[Act.put,Y_a,Y_b,Y_c]
      refine Y_v 7 45 _ rfl (.slice (some ⟨u1.heap.size,0,none⟩) 1 1) (u1.alloc (hkO h (.slice vo h.ls.length vc))) (by kernel_rfl) trivial ?_
      simp only[Act.put,Y_a,Y_b,Y_c]
      have hlt2:=HN.out h p2 r hk2
      have hownA:=hown1.alloc (hkO h (.slice vo h.ls.length vc))
      obtain⟨v3,u3,hr3,hown3,hg3,_⟩:=ZjJ (u1.alloc (hkO h (.slice vo h.ls.length vc))) 40 45 40 (.agg #[.int .i64 0,.int .i64 0,.int .i64 0,.int .i64 0,.slice none 0 0]) 5 56 Tryz.underlying40 infoHk rfl (by decide) (by decide) wb.heap.size _ _ _ hRA.own _ 1 (hkC h (.slice vo h.ls.length vc)) (Zhz u1 h (.slice vo h.ls.length vc)) rfl (fun u hu=>by simp[hkC] at hu;rcases hu with rfl | rfl | rfl | rfl | rfl<;>rfl) (by omega) hRA.gr.size
      have hR3:=hRA.more hownA hg3 hown3
      obtain⟨o3,k3,rfl⟩:=(Zeo hown3).form
      refine Y_v 8 46 _ rfl (.slice o3 (P.length+1) k3) u3 (ZcT (.tmp 39) (.tmp 45) (by kernel_rfl) (by kernel_rfl) (by kernel_rfl) hr3) trivial ?_
      simp only[Act.put,Y_a,Y_b,Y_c]
      refine Y_t 9 47 _ (.pointer (some ⟨S,2,none⟩)) rfl (Or.inl ⟨by kernel_rfl,fun u hu=>by kernel_rfl⟩) trivial ?_
      simp only[Act.put,Y_a,Y_b,Y_c]
      refine Y_s 10 _ rfl (u3.setCell ⟨S,2,none⟩ (.slice o3 (P.length+1) k3)) (ZcZ hR3.2.1 hR3.2.2 (.tmp 47) (.tmp 46) (by kernel_rfl) (by kernel_rfl) (by kernel_rfl)) trivial ?_
      refine wpAnyH_done (by kernel_rfl) ?_ _
      have hR4:=hR3.1
      go_wp2
      refine⟨⟨_,P++[(h,.slice vo h.ls.length vc)],p2,f',⟨o3,k3,by rw[List.length_append];rfl⟩,hR4,hlt2.1,by rw[List.length_append];simp;omega,hlt2.2.2.1,HN2.out h p2 r _ hk2⟩,?_⟩
      rw[Zlr hR4.ck,HK.out]
      omega
     ·simp only[Act.put,Y_a,Y_b,Y_c]
      refine Y_t 5 43 _ (.int .i64 (P.length:Int)) rfl (Or.inl ⟨by kernel_rfl,fun u hu=>by kernel_rfl⟩) trivial ?_
      simp only[Act.put,Y_a,Y_b,Y_c]
      refine ZdM 1 39 _ 6 44 _ rfl (by kernel_rfl) rfl (by kernel_rfl) (by kernel_rfl) (by kernel_rfl) (by kernel_rfl) (.slice ho P.length hc) wd (ZfJ c2d (.tmp 38) (by kernel_rfl) (by kernel_rfl)) trivial 206 (.func 206) #[.tmp 40,.tmp 43] #[264,3] (by kernel_rfl) #[] (by kernel_rfl) #[.pointer (some ⟨R,0,none⟩),.int .i64 (P.length:Int)] (by kernel_rfl) (enters_of Tryz.func206 (by kernel_rfl) rfl) Rr Pn (fun c u h=>by rw[← HPd.out] at h;obtain⟨g,a,z,rfl,hg,hXe,hgr⟩:=h;subst hXe;exact⟨rfl,⟨_,rfl,hg⟩,hgr⟩) ?_ ?_ ?_
      ·exact hcall
      ·simp only[Act.put,Y_a,Y_b,Y_c]
       refine ZdF 6 44 _ rfl (by kernel_rfl) (by kernel_rfl) (by kernel_rfl) 206 (.func 206) #[.tmp 40,.tmp 43] #[264,3] (by kernel_rfl) #[] (by kernel_rfl) #[.pointer (some ⟨R,0,none⟩),.int .i64 (P.length:Int)] (by kernel_rfl) (enters_of Tryz.func206 (by kernel_rfl) rfl) Rr Pn (fun c u h=>by rw[← HPd.out] at h;obtain⟨g,a,z,rfl,hg,hXe,hgr⟩:=h;subst hXe;exact⟨rfl,⟨_,rfl,hg⟩,hgr⟩) ?_ ?_
       ·exact hcall
       intro v0 u1 _ hq
       rw[← HRr.out] at hq
       obtain⟨h,p2,r,vo,vc,hk2,rfl,hR1,hown1⟩:=hq
       have c1u:=hR1.cells.2.2
       have hRA:=hR1.keep ((Below.refl _ u1).alloc (Nat.le_refl _) (hkO h (.slice vo h.ls.length vc)))
       have c2u:=hRA.cells.2.2
       simp only[Act.put,Y_a,Y_b,Y_c]
       refine Y_v 7 45 _ rfl (.slice (some ⟨u1.heap.size,0,none⟩) 1 1) (u1.alloc (hkO h (.slice vo h.ls.length vc))) (by kernel_rfl) trivial ?_
       simp only[Act.put,Y_a,Y_b,Y_c]
       have hlt2:=HN.out h p2 r hk2
       have hownA:=hown1.alloc (hkO h (.slice vo h.ls.length vc))
       obtain⟨v3,u3,hr3,hown3,hg3,_⟩:=ZjJ (u1.alloc (hkO h (.slice vo h.ls.length vc))) 40 45 40 (.agg #[.int .i64 0,.int .i64 0,.int .i64 0,.int .i64 0,.slice none 0 0]) 5 56 Tryz.underlying40 infoHk rfl (by decide) (by decide) wb.heap.size _ _ _ hRA.own _ 1 (hkC h (.slice vo h.ls.length vc)) (Zhz u1 h (.slice vo h.ls.length vc)) rfl (fun u hu=>by simp[hkC] at hu;rcases hu with rfl | rfl | rfl | rfl | rfl<;>rfl) (by omega) hRA.gr.size
       have hR3:=hRA.more hownA hg3 hown3
       obtain⟨o3,k3,rfl⟩:=(Zeo hown3).form
       refine Y_v 8 46 _ rfl (.slice o3 (P.length+1) k3) u3 (ZcT (.tmp 39) (.tmp 45) (by kernel_rfl) (by kernel_rfl) (by kernel_rfl) hr3) trivial ?_
       simp only[Act.put,Y_a,Y_b,Y_c]
       refine Y_t 9 47 _ (.pointer (some ⟨S,2,none⟩)) rfl (Or.inl ⟨by kernel_rfl,fun u hu=>by kernel_rfl⟩) trivial ?_
       simp only[Act.put,Y_a,Y_b,Y_c]
       refine Y_s 10 _ rfl (u3.setCell ⟨S,2,none⟩ (.slice o3 (P.length+1) k3)) (ZcZ hR3.2.1 hR3.2.2 (.tmp 47) (.tmp 46) (by kernel_rfl) (by kernel_rfl) (by kernel_rfl)) trivial ?_
       refine wpAnyH_done (by kernel_rfl) ?_ _
       have hR4:=hR3.1
       go_wp2
       refine⟨⟨_,P++[(h,.slice vo h.ls.length vc)],p2,f',⟨o3,k3,by rw[List.length_append];rfl⟩,hR4,hlt2.1,by rw[List.length_append];simp;omega,hlt2.2.2.1,HN2.out h p2 r _ hk2⟩,?_⟩
       rw[Zlr hR4.ck,HK.out]
       omega
      ·intro v0 u1 _ hq
       rw[← HRr.out] at hq
       obtain⟨h,p2,r,vo,vc,hk2,rfl,hR1,hown1⟩:=hq
       have c1u:=hR1.cells.2.2
       have hRA:=hR1.keep ((Below.refl _ u1).alloc (Nat.le_refl _) (hkO h (.slice vo h.ls.length vc)))
       have c2u:=hRA.cells.2.2
       simp only[Act.put,Y_a,Y_b,Y_c]
       refine ZdJ 1 39 _ 7 45 _ rfl (by kernel_rfl) rfl (by kernel_rfl) (by kernel_rfl) (by kernel_rfl) (by kernel_rfl) (.slice ho P.length hc) u1 (ZfJ c1u (.tmp 38) (by kernel_rfl) (by kernel_rfl)) trivial (.slice (some ⟨u1.heap.size,0,none⟩) 1 1) (u1.alloc (hkO h (.slice vo h.ls.length vc))) (by kernel_rfl) trivial ?_ ?_
       ·simp only[Act.put,Y_a,Y_b,Y_c]
        refine Y_v 7 45 _ rfl (.slice (some ⟨u1.heap.size,0,none⟩) 1 1) (u1.alloc (hkO h (.slice vo h.ls.length vc))) (by kernel_rfl) trivial ?_
        simp only[Act.put,Y_a,Y_b,Y_c]
        have hlt2:=HN.out h p2 r hk2
        have hownA:=hown1.alloc (hkO h (.slice vo h.ls.length vc))
        obtain⟨v3,u3,hr3,hown3,hg3,_⟩:=ZjJ (u1.alloc (hkO h (.slice vo h.ls.length vc))) 40 45 40 (.agg #[.int .i64 0,.int .i64 0,.int .i64 0,.int .i64 0,.slice none 0 0]) 5 56 Tryz.underlying40 infoHk rfl (by decide) (by decide) wb.heap.size _ _ _ hRA.own _ 1 (hkC h (.slice vo h.ls.length vc)) (Zhz u1 h (.slice vo h.ls.length vc)) rfl (fun u hu=>by simp[hkC] at hu;rcases hu with rfl | rfl | rfl | rfl | rfl<;>rfl) (by omega) hRA.gr.size
        have hR3:=hRA.more hownA hg3 hown3
        obtain⟨o3,k3,rfl⟩:=(Zeo hown3).form
        refine Y_v 8 46 _ rfl (.slice o3 (P.length+1) k3) u3 (ZcT (.tmp 39) (.tmp 45) (by kernel_rfl) (by kernel_rfl) (by kernel_rfl) hr3) trivial ?_
        simp only[Act.put,Y_a,Y_b,Y_c]
        refine Y_t 9 47 _ (.pointer (some ⟨S,2,none⟩)) rfl (Or.inl ⟨by kernel_rfl,fun u hu=>by kernel_rfl⟩) trivial ?_
        simp only[Act.put,Y_a,Y_b,Y_c]
        refine Y_s 10 _ rfl (u3.setCell ⟨S,2,none⟩ (.slice o3 (P.length+1) k3)) (ZcZ hR3.2.1 hR3.2.2 (.tmp 47) (.tmp 46) (by kernel_rfl) (by kernel_rfl) (by kernel_rfl)) trivial ?_
        refine wpAnyH_done (by kernel_rfl) ?_ _
        have hR4:=hR3.1
        go_wp2
        refine⟨⟨_,P++[(h,.slice vo h.ls.length vc)],p2,f',⟨o3,k3,by rw[List.length_append];rfl⟩,hR4,hlt2.1,by rw[List.length_append];simp;omega,hlt2.2.2.1,HN2.out h p2 r _ hk2⟩,?_⟩
        rw[Zlr hR4.ck,HK.out]
        omega
       ·simp only[Act.put,Y_a,Y_b,Y_c]
        refine Y_v 1 39 _ rfl (.slice ho P.length hc) (u1.alloc (hkO h (.slice vo h.ls.length vc))) (ZfJ c2u (.tmp 38) (by kernel_rfl) (by kernel_rfl)) trivial ?_
        simp only[Act.put,Y_a,Y_b,Y_c]
        have hlt2:=HN.out h p2 r hk2
        have hownA:=hown1.alloc (hkO h (.slice vo h.ls.length vc))
        obtain⟨v3,u3,hr3,hown3,hg3,_⟩:=ZjJ (u1.alloc (hkO h (.slice vo h.ls.length vc))) 40 45 40 (.agg #[.int .i64 0,.int .i64 0,.int .i64 0,.int .i64 0,.slice none 0 0]) 5 56 Tryz.underlying40 infoHk rfl (by decide) (by decide) wb.heap.size _ _ _ hRA.own _ 1 (hkC h (.slice vo h.ls.length vc)) (Zhz u1 h (.slice vo h.ls.length vc)) rfl (fun u hu=>by simp[hkC] at hu;rcases hu with rfl | rfl | rfl | rfl | rfl<;>rfl) (by omega) hRA.gr.size
        have hR3:=hRA.more hownA hg3 hown3
        obtain⟨o3,k3,rfl⟩:=(Zeo hown3).form
        refine Y_v 8 46 _ rfl (.slice o3 (P.length+1) k3) u3 (ZcT (.tmp 39) (.tmp 45) (by kernel_rfl) (by kernel_rfl) (by kernel_rfl) hr3) trivial ?_
        simp only[Act.put,Y_a,Y_b,Y_c]
        refine Y_t 9 47 _ (.pointer (some ⟨S,2,none⟩)) rfl (Or.inl ⟨by kernel_rfl,fun u hu=>by kernel_rfl⟩) trivial ?_
        simp only[Act.put,Y_a,Y_b,Y_c]
        refine Y_s 10 _ rfl (u3.setCell ⟨S,2,none⟩ (.slice o3 (P.length+1) k3)) (ZcZ hR3.2.1 hR3.2.2 (.tmp 47) (.tmp 46) (by kernel_rfl) (by kernel_rfl) (by kernel_rfl)) trivial ?_
        refine wpAnyH_done (by kernel_rfl) ?_ _
        have hR4:=hR3.1
        go_wp2
        refine⟨⟨_,P++[(h,.slice vo h.ls.length vc)],p2,f',⟨o3,k3,by rw[List.length_append];rfl⟩,hR4,hlt2.1,by rw[List.length_append];simp;omega,hlt2.2.2.1,HN2.out h p2 r _ hk2⟩,?_⟩
        rw[Zlr hR4.ck,HK.out]
        omega
end

end Go.Proofs.YtcniomgjikienaaGreatDoor
