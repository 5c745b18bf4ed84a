/-
  Texts that belong together, joined: NpO, NpP, UkS, NpV, NpW.
-/
import Derived.Test.YtgiojkhmkeocfaaGreatDoorUnAgrA19
import Derived.Shelf.Vars
import Derived.Test.YtgiojkhmkeocfaaGreatDoorProg
import Derived.WalkKit
import Derived.LaidEql
import Derived.Stop.Asserts
import Derived.RowKitTokens

set_option maxHeartbeats 16000000
set_option maxRecDepth 100000
namespace Go.Proofs.YtgiojkhmkeocfaaGreatDoor

section
open Go.RowKit
theorem ZnA {u:World} {B:Nat} {e t:TypeId} {s:Nat} {v:Value} {n k:Nat} {xs:List Value} {cs:Array Value} {fr:Nat × Nat} (h:u.ownsRow B e s v n xs) (hb:u.heap[k]?=some (.cells cs t fr)) (he:e≠t):v.ownBlock≠some k:=by
 intro hg
 rcases h.2 with ⟨rfl,_⟩ | ⟨g,cap,cur,rfl,_,hg2,_⟩
 ·cases hg
 ·simp[Value.ownBlock] at hg
  subst hg
  rw[hb] at hg2
  simp at hg2
  exact he hg2.2.1.symm
def ryAt (u:World) (R:Nat):Nat:=match u.heap[R]? with
 | some (.cells cs _ _)=>match cs[1]? with
  | some (Value.int _ p)=>p.toNat
  | _=>0
 | _=>0
theorem ZqL {u:World} {R:Nat} {vL:Value} {p:Nat} (h:Ry u R vL (p:Int)):ryAt u R=p:=by
 unfold Ry ryO at h
 unfold ryAt
 rw[h]
 simp
structure RdS (w:World) (vL:Value) (ov:Value) (P:List (Hk × Value)) (p:Int) (u:World):Prop where
 hs:Hs w ov P u
 f0:u.heap[w.heap.size]?=some (.cells #[ov] 34)
 f1:u.heap[w.heap.size+1]?=some (.cells #[.nilIface] 36)
 ry:Ry u (w.heap.size+1+1) vL p
section
variable {w u u':World} {vL ov:Value} {P:List (Hk × Value)} {p p':Int}
theorem RdS.c0 (h:RdS w vL ov P p u):u.cell? ⟨w.heap.size,0,none⟩=some ov:=by rw[Lib.cell_of_heap h.f0];rfl
theorem RdS.drew (h:RdS w vL ov P p u):RdS w vL ov P p u.drew:=⟨⟨h.hs.low.drew,h.hs.own,h.hs.ins⟩,h.f0,h.f1,h.ry⟩
theorem RdS.alloc (h:RdS w vL ov P p u) (o:Obj):RdS w vL ov P p (u.alloc o) :=
 have hl:∀ k x,u.heap[k]?=some x→(u.alloc o).heap[k]?=some x:=fun k _ hk=>(Lib.alloc_old u o k (Array.getElem?_eq_some_iff.1 hk).1).trans hk
 ⟨h.hs.alloc o,hl _ _ h.f0,hl _ _ h.f1,hl _ _ h.ry⟩
theorem RdS.alloc_c0 (h:RdS w vL ov P p u) (o:Obj):(u.alloc o).cell? ⟨w.heap.size,0,none⟩=some ov:=(h.alloc o).c0
theorem RdS.call (h:RdS w vL ov P p u) (hg:u.grownBy u' (some (w.heap.size+1+1))) (q:Ry u' (w.heap.size+1+1) vL p'):RdS w vL ov P p' u':=by
 have hk:∀ k x,k≠w.heap.size+1+1→u.heap[k]?=some x→u'.heap[k]?=some x:=fun k _ hk hx=>(hg.block k (Array.getElem?_eq_some_iff.1 hx).1 (fun e=>hk (Option.some.inj e))).trans hx
 refine⟨h.hs.grown hg (fun k e=>by cases e;omega) (fun k e=>by cases e;exact ZnA h.hs.own h.ry (by decide)) (fun x hx k e=>by cases e;exact ZnA (h.hs.ins x hx) h.ry (by decide)),hk _ _ (by omega) h.f0,hk _ _ (by omega) h.f1,q⟩
theorem RdS.more (h:RdS w vL ov P p u) {x:Hk} {y ov':Value} (hy:u.ownsRow w.heap.size 103 2 y x.ls.length (mkcells x.ls)) (hg:u.grownBy u' ov.ownBlock) (ho:u'.ownsRow w.heap.size 59 5 ov' (P.length+1) (hkcells P++hkC x y)) :
  RdS w vL ov' (P++[(x,y)]) p (u'.setCell ⟨w.heap.size,0,none⟩ ov')∧u'.cell? ⟨w.heap.size,0,none⟩=some ov∧u'.frozen? ⟨w.heap.size,0,none⟩=false:=by
 have hs:=h.hs.more hy hg ho
 have hk:∀ (k:Nat) (cs:Array Value) (t:TypeId) (fr:Nat × Nat),t≠59→u.heap[k]?=some (Obj.cells cs t fr)→u'.heap[k]?=some (Obj.cells cs t fr):=fun k cs t fr ht hx=>(hg.block k (Array.getElem?_eq_some_iff.1 hx).1 (fun e=>ZnA h.hs.own hx ht.symm e.symm)).trans hx
 have f0:=hk _ _ _ _ (by decide) h.f0
 have f1:=hk _ _ _ _ (by decide) h.f1
 have ry:Ry u' (w.heap.size+1+1) vL p:=hk _ _ _ _ (by decide) h.ry
 have hg2:=Zhd u' w.heap.size 0 ov'
 refine⟨⟨hs.grown hg2 (fun k e=>by cases e;omega) (fun k e=>by cases e;exact ZnA hs.own f0 (by decide)) (fun x hx k e=>by cases e;exact ZnA (hs.ins x hx) f0 (by decide)),heap_setCell_same u' _ 0 _ _ ov' f0,?_,ry.keep hg2 (fun e=>by have:=Option.some.inj e;omega)⟩,by rw[Lib.cell_of_heap f0];rfl,Lib.frozen_of_heap f0 0⟩
 exact (Below.heap_setCell _ _ _ _ (by simp)).trans f1
end
theorem Zky {u:World} {a:Addr} {o:Option Addr} {n c:Nat} (h:u.cell? a=some (.slice o n c)) {op:Oper} (x:Operand) (ho:op.op=.load 34 x) {ev:Operand→Value} (hx:ev x=.pointer (some a)) :
  (execOp ev op).run Tryz.prog u=.ok (.value (.slice o n c)) u:=by
 simp only[execOp,ho,hx]
 go_simp
theorem ZfH {u:World} {a:Addr} {v0:Value} (hc:u.cell? a=some v0) (hf:u.frozen? a=false) {o:Option Addr} {n c:Nat} {op:Oper} (x y:Operand) (ho:op.op=.store 34 x y) {ev:Operand→Value} (hx:ev x=.pointer (some a)) (hy:ev y=.slice o n c) :
  (execOp ev op).run Tryz.prog u=.ok .skip (u.setCell a (.slice o n c)):=by
 simp only[execOp,ho,hx,hy]
 go_simp
def thenH (l:List Hk) (X:Except (Nat × Int) (List Hk)):Except (Nat × Int) (List Hk) :=
 match X with
 | .error e=>.error e
 | .ok m=>.ok (l++m)
def RdQ (w:World) (X:Except (Nat × Int) (List Hk)) (e:Ending) (w':World):Prop :=
 match X with
 | .error (a,z)=>∃ g,e=.returned (.tuple #[.slice none 0 0,.iface 86 (.pointer (some ⟨g,0,none⟩))])∧w'.heap[g]?=some (fltO (a:Int) z)∧Below w.heap.size w w'
 | .ok l=>∃ v' P,e=.returned (.tuple #[v',.nilIface])∧Hs w v' P w'∧P.map (·.1)=l
def PnQ (w:World) (X:Except (Nat × Int) (List Hk)) (c:List PanicEntry) (u:World):Prop :=
 ∃ (g a:Nat) (z:Int) (v0:Value),c=[{ v:=.iface 86 (.pointer (some ⟨g,0,none⟩)),recovered:=false }]∧u.heap[g]?=some (fltO (a:Int) z)∧X=.error (a,z)∧Below w.heap.size w u∧u.heap[w.heap.size]?=some (.cells #[v0] 34)∧u.heap[w.heap.size+1]?=some (.cells #[.nilIface] 36)
theorem ZoH {w:World} {X:Except (Nat × Int) (List Hk)}:∀ c (a:Act) u,PnQ w X c u→a.tmps.getD 2 undef=.pointer (some ⟨w.heap.size,0,none⟩)→a.tmps.getD 3 undef=.pointer (some ⟨w.heap.size+1,0,none⟩)→a.defers=[{ target:=.fn (.func 84) #[.pointer (some ⟨w.heap.size,0,none⟩),.pointer (some ⟨w.heap.size+1,0,none⟩)],args:=#[] }]→bodyPostD Tryz.prog Tryz.f42 (fun e w'=>RdQ w X e w') (.panic c) a u:=by
 rintro c a u ⟨g,pa,z,v0,rfl,hg,rfl,hlow,f0,f1⟩ h2 h3 hd
 show Leaves Tryz.prog Tryz.f42 a.tmps (fun e w'=>RdQ w (.error (pa,z)) e w') a.defers _ u
 rw[hd]
 have g0:g≠w.heap.size:=(by rintro rfl;rw[f0] at hg;unfold fltO at hg;simp at hg)
 have g1:g≠w.heap.size+1:=(by rintro rfl;rw[f1] at hg;unfold fltO at hg;simp at hg)
 refine leaves_cons (f:=84) (args:=#[.pointer (some ⟨w.heap.size,0,none⟩),.pointer (some ⟨w.heap.size+1,0,none⟩)]) (by simp) (by simp[go_sem]) ?_
 refine (Zcc w.heap.size (w.heap.size+1) g v0 .nilIface [] u (by omega) (by rw[Lib.cell_of_heap f0];rfl) (Lib.frozen_of_heap f0 0) (by rw[Lib.cell_of_heap f1];rfl) (Lib.frozen_of_heap f1 0)).mono ?_
 rintro e u' w'' ⟨rfl,rfl,rfl⟩
 have s0:=heap_setCell_same u w.heap.size 0 _ _ (.slice none 0 0) f0
 have s1:(u.setCell ⟨w.heap.size,0,none⟩ (.slice none 0 0)).heap[w.heap.size+1]?=some (.cells #[.nilIface] 36):=(Below.heap_setCell _ _ _ _ (by simp)).trans f1
 have s2:=heap_setCell_same _ (w.heap.size+1) 0 _ _ (.iface 86 (.pointer (some ⟨g,0,none⟩))) s1
 have s3:((u.setCell ⟨w.heap.size,0,none⟩ (.slice none 0 0)).setCell ⟨w.heap.size+1,0,none⟩ (.iface 86 (.pointer (some ⟨g,0,none⟩)))).heap[w.heap.size]?=some (.cells #[.slice none 0 0] 34):=(Below.heap_setCell _ _ _ _ (by simp)).trans s0
 have s4:((u.setCell ⟨w.heap.size,0,none⟩ (.slice none 0 0)).setCell ⟨w.heap.size+1,0,none⟩ (.iface 86 (.pointer (some ⟨g,0,none⟩)))).heap[g]?=some (fltO (pa:Int) z):=((Below.heap_setCell _ _ _ _ (by simpa using g1)).trans (Below.heap_setCell _ _ _ _ (by simpa using g0))).trans hg
 have hl:Below w.heap.size w ((u.setCell ⟨w.heap.size,0,none⟩ (.slice none 0 0)).setCell ⟨w.heap.size+1,0,none⟩ (.iface 86 (.pointer (some ⟨g,0,none⟩)))).drew:=((hlow.setCell (Nat.le_refl _) _).setCell (by show w.heap.size≤w.heap.size+1;omega) _).drew
 generalize (u.setCell ⟨w.heap.size,0,none⟩ (.slice none 0 0)).setCell ⟨w.heap.size+1,0,none⟩ (.iface 86 (.pointer (some ⟨g,0,none⟩)))=W at *
 exact⟨_,Zpu a.tmps W.drew w.heap.size (w.heap.size+1) 0 0 none _ h2 h3 (by rw[Lib.cell_of_heap (w:=W.drew) s3];rfl) (by rw[Lib.cell_of_heap (w:=W.drew) s2];rfl),g,rfl,s4,hl⟩
theorem ZmI (L:List (List UInt8)) (lo:Option Addr) (lc:Nat) (w:World) (hL:HS w (.slice lo L.length lc) L) (HPl:Hid (Plain L)) (hLl:L.length≤1048576) (HSl:Hid (∀ s∈L,s.length≤1048576)) (X:Except (Nat × Int) (List Hk)) (HX:Hid (hksK L.length 0 0 L=X)) :
  Calls Tryz.prog 42 #[.slice lo L.length lc] w fun e w'=>RdQ w X e w':=by
 have hmf:∀ (fn:Fn) (first cap:Array Value) (w:World),(Instr.makeFunc fn first cap).run Tryz.prog w=.ok (.func fn first cap) w:=fun _ _ _ _=>rfl
 obtain⟨Pn,hPnd⟩:∃ Pn,PnQ w X=Pn:=⟨_,rfl⟩
 have HPn:Hid (∀ c (a:Act) u,Pn c u→a.tmps.getD 2 undef=.pointer (some ⟨w.heap.size,0,none⟩)→a.tmps.getD 3 undef=.pointer (some ⟨w.heap.size+1,0,none⟩)→a.defers=[{ target:=.fn (.func 84) #[.pointer (some ⟨w.heap.size,0,none⟩),.pointer (some ⟨w.heap.size+1,0,none⟩)],args:=#[] }]→bodyPostD Tryz.prog Tryz.f42 (fun e w'=>RdQ w X e w') (.panic c) a u):=(by rw[← hPnd];exact ZoH)
 have HPd:Hid (PnQ w X=Pn):=hPnd
 clear hPnd
 have hR0:RdS w (.slice lo L.length lc) (.slice none 0 0) [] ((0:Nat):Int) (((w.alloc (.cells #[.slice none 0 0] 34)).alloc (.cells #[.nilIface] 36)).alloc (.cells #[.slice lo L.length lc,.int .i64 0] 138)):=(by
  have a1:=heap_alloc_new w (.cells #[.slice none 0 0] 34)
  have a2:=heap_alloc_new (w.alloc (.cells #[.slice none 0 0] 34)) (.cells #[.nilIface] 36)
  have a3:=heap_alloc_new ((w.alloc (.cells #[.slice none 0 0] 34)).alloc (.cells #[.nilIface] 36)) (.cells #[.slice lo L.length lc,.int .i64 0] 138)
  have z1:(w.alloc (.cells #[.slice none 0 0] 34)).heap.size=w.heap.size+1:=by simp
  have z2:((w.alloc (.cells #[.slice none 0 0] 34)).alloc (.cells #[.nilIface] 36)).heap.size=w.heap.size+1+1:=by simp
  rw[z1] at a2
  rw[z2] at a3
  have hb1:Below w.heap.size w (w.alloc (.cells #[.slice none 0 0] 34)):=(Below.refl _ w).alloc (Nat.le_refl _) _
  have hb2:=hb1.alloc hb1.size (.cells #[.nilIface] 36)
  have hb3:=hb2.alloc hb2.size (.cells #[.slice lo L.length lc,.int .i64 0] 138)
  refine⟨⟨hb3,Zii _ _ _ _,fun x hx=>by cases hx⟩,?_,?_,a3⟩
  ·exact (Lib.alloc_old _ _ _ (by rw[z2];omega)).trans ((Lib.alloc_old _ _ _ (by rw[z1];omega)).trans a1)
  ·exact (Lib.alloc_old _ _ _ (by rw[z2];omega)).trans a2)
 have HX0:Hid (thenH (([]:List (Hk × Value)).map (·.1)) (hksK L.length ([]:List (Hk × Value)).length 0 (L.drop 0))=X):=(by
  show _=_
  rw[← HX.out]
  simp only[List.map_nil,List.drop_zero,List.length_nil]
  cases hksK L.length 0 0 L<;>rfl)
 clear HX
 go_enter_defers Tryz.func42,Tryz.ntmps42
 go_wp2
 go_loopw [] (fun wr=>∃ (ov:Value) (P:List (Hk × Value)) (p f:Nat),(∃ o c,ov=.slice o P.length c)∧RdS w (.slice lo L.length lc) ov P (p:Int) wr∧p≤L.length∧P.length≤4096∧(L.drop p).length≤f∧Hid (thenH (P.map (·.1)) (hksK f P.length p (L.drop p))=X)) (fun wr=>L.length-ryAt wr (w.heap.size+1+1))
 case atStart=>exact⟨_,[],0,L.length,⟨none,0,rfl⟩,hR0,Nat.zero_le _,Nat.zero_le _,by simp,HX0⟩
 case round =>
 clear hR0 HX0
 obtain⟨ov,P,p,f,⟨o,c,rfl⟩,hR,hp,hPl,hf,HI⟩:=hrel
 obtain⟨d0,d1⟩:=hR.ry.cells
 by_cases hlt:p<L.length
 ·have hfl:0<f:=(by rw[List.length_drop] at hf;omega)
  obtain⟨f',rfl⟩:∃ f',f=f'+1:=⟨f-1,by omega⟩
  have hne:L.drop p≠[]:=(by intro h;have:=congrArg List.length h;rw[List.length_drop] at this;simp at this;omega)
  have HIe:Hid (∀ e,hkK P.length p (L.drop p)=.error e→X=.error e):=(by
   intro e he
   rw[← HI.out]
   simp only[hksK]
   rw[if_neg hne,he]
   rfl)
  have HN:Hid (∀ h p2 r,hkK P.length p (L.drop p)=.ok (h,p2,r)→p2≤L.length∧p<p2∧(L.drop p2).length≤f'∧P.length<4096∧r=L.drop p2):=(by
   intro h p2 r hk
   obtain⟨j,b1,b2,b3,b4,b5⟩:=ZhP hk
   rw[List.length_drop] at b4 hf
   rw[List.drop_drop] at b1
   refine⟨by omega,by omega,by rw[List.length_drop];omega,by omega,by rw[b1,b2]⟩)
  have HN2:Hid (∀ h p2 r y,hkK P.length p (L.drop p)=.ok (h,p2,r)→Hid (thenH ((P++[(h,y)]).map (·.1)) (hksK f' (P++[(h,y)]).length p2 (L.drop p2))=X)):=(by
   intro h p2 r y hk
   show _=_
   have hr:=(HN.out h p2 r hk).2.2.2.2
   rw[← HI.out]
   simp only[hksK]
   rw[if_neg hne,hk]
   dsimp only
   rw[hr,List.length_append,List.map_append]
   show thenH (P.map (·.1)++[h]) (hksK f' (P.length+1) p2 (L.drop p2))=_
   cases hksK f' (P.length+1) p2 (L.drop p2) with
   | error e=>rfl
   | ok m=>simp[thenH])
  have hRd:=hR.drew
  obtain⟨Rr,hRr⟩:∃ Rr:Value→World→Prop,(fun v u=>∃ h p2 r vo vc,hkK P.length p (L.drop p)=.ok (h,p2,r)∧v=hkV h (.slice vo h.ls.length vc)∧RdS w (.slice lo L.length lc) (.slice o P.length c) P ((p2:Nat):Int) u∧u.ownsRow w.heap.size 103 2 (.slice vo h.ls.length vc) h.ls.length (mkcells h.ls))=Rr:=⟨_,rfl⟩
  have hcall:Calls Tryz.prog 85 (#[.pointer (some ⟨w.heap.size+1+1,0,none⟩),.int .i64 (P.length:Int)]++#[]) wr.drew fun e w'=>(∃ v,e=.returned v∧True∧Rr v w')∨(∃ c,e=.panicked c∧Pn c w'):=(by
   obtain⟨Y,hY⟩:∃ Y,hkK P.length p (L.drop p)=Y:=⟨_,rfl⟩
   have hsz:=hRd.hs.low.size
   refine (Zmr wr.drew hRd.ry (fun u hu=>HS.keep hL (hRd.hs.low.trans ⟨hu.os,hu.tape,hu.output,hu.size,fun k hk=>hu.block k (Nat.lt_of_lt_of_le hk hsz) (fun e=>by cases e;omega)⟩) (Nat.le_refl _)) HPl hp hLl HSl P.length hPl Y hY).mono ?_
   intro e w' hq
   cases Y with
   | error z =>
    obtain⟨a,z⟩:=z
    obtain⟨⟨g,rfl,hg⟩,hgr⟩:=hq
    right
    refine⟨_,rfl,?_⟩
    rw[← HPd.out]
    have hk:∀ k x,k≠w.heap.size+1+1→wr.drew.heap[k]?=some x→w'.heap[k]?=some x:=fun k _ hk hx=>(hgr.block k (Array.getElem?_eq_some_iff.1 hx).1 (fun e=>hk (Option.some.inj e))).trans hx
    exact⟨g,a,z,_,rfl,hg,HIe.out _ hY,hRd.hs.low.trans ⟨hgr.os,hgr.tape,hgr.output,hgr.size,fun k hk=>hgr.block k (Nat.lt_of_lt_of_le hk hsz) (fun e=>by cases e;omega)⟩,hk _ _ (by omega) hRd.f0,hk _ _ (by omega) hRd.f1⟩
   | ok z =>
    obtain⟨h,p2,r⟩:=z
    obtain⟨v',rfl,hown,q,hgr⟩:=hq
    obtain⟨vo,vc,rfl⟩:=(holds_of hown).form
    left
    rw[← hRr]
    exact⟨_,rfl,trivial,h,p2,r,vo,vc,hY,rfl,hRd.call hgr q,ZnK hown hsz⟩)
  have i1:(p:Int)<(L.length:Int):=by omega
  have HRr:Hid (_=Rr):=hRr
  clear hRr
  go_upto_region 4 with fail
  refine Zvc Pn (.pointer (some ⟨w.heap.size,0,none⟩)) (.pointer (some ⟨w.heap.size+1,0,none⟩)) [{ target:=.fn (.func 84) #[.pointer (some ⟨w.heap.size,0,none⟩),.pointer (some ⟨w.heap.size+1,0,none⟩)],args:=#[] }] (fun c a u h1 h2 h3 h4=>HPn.out c a u h1 h2 h3 h4) ?_
  refine wp_region_held_drew (S:=fun _=>True) (by kernel_rfl) trivial (fun _=>?_)
  generalize wr.drew=wd at hRd hcall ⊢
  have c0d:=hRd.c0
  refine ZgT 0 13 _ 1 14 _ rfl (by kernel_rfl) rfl (by kernel_rfl) (by kernel_rfl) (by kernel_rfl) (by kernel_rfl) (.slice o P.length c) wd (Zky c0d (.tmp 2) (by kernel_rfl) (by kernel_rfl)) trivial (.slice o P.length c) wd (Zky c0d (.tmp 2) (by kernel_rfl) (by kernel_rfl)) trivial ?_ ?_
  ·simp only[Act.put,Y_a,Y_b,Y_c]
   refine Y_v 1 14 _ rfl (.slice o P.length c) wd (Zky c0d (.tmp 2) (by kernel_rfl) (by kernel_rfl)) trivial ?_
   simp only[Act.put,Y_a,Y_b,Y_c]
   refine ZgS 2 15 _ (.int .i64 (P.length:Int)) rfl (by kernel_rfl) (by kernel_rfl) (by kernel_rfl) (by kernel_rfl) (ZnX (by decide) (by decide)) (Or.inl ⟨by kernel_rfl,fun u hu=>by kernel_rfl⟩) trivial ?_
   simp only[Act.put,Y_a,Y_b,Y_c]
   refine ZgP 3 16 _ rfl (by kernel_rfl) (by kernel_rfl) (by kernel_rfl) 85 (.func 85) #[.tmp 4,.tmp 15] #[138,3] (by kernel_rfl) #[] (by kernel_rfl) #[.pointer (some ⟨w.heap.size+1+1,0,none⟩),.int .i64 (P.length:Int)] (by kernel_rfl) (enters_of Tryz.func85 (by kernel_rfl) rfl) (Rr) (Pn) (fun c u h=>⟨h,rfl,rfl,rfl⟩) ?_ ?_
   ·exact hcall
   intro v0 u1 _ hq
   rw[← HRr.out] at hq
   obtain⟨h,p2,r,vo,vc,hk,rfl,hR1,hown1⟩:=hq
   have c1u:=hR1.c0
   have c2u:=hR1.alloc_c0 (hkO h (.slice vo h.ls.length vc))
   simp only[Act.put,Y_a,Y_b,Y_c]
   refine Y_v 4 17 _ rfl (.slice (some ⟨u1.heap.size,0,none⟩) 1 1) (u1.alloc (hkO h (.slice vo h.ls.length vc))) (by kernel_rfl) trivial ?_
   simp only[Act.put,Y_a,Y_b,Y_c]
   have hlt2:=HN.out h p2 r hk
   have hRA:=hR1.alloc (hkO h (.slice vo h.ls.length vc))
   have hownA:=hown1.alloc (hkO h (.slice vo h.ls.length vc))
   obtain⟨v3,u3,hr3,hown3,hg3,_⟩:=Zqx (u1.alloc (hkO h (.slice vo h.ls.length vc))) 34 59 34 (.agg #[.int .i64 0,.int .i64 0,.int .i64 0,.int .i64 0,.slice none 0 0]) 5 56 Tryz.underlying34 infoHk rfl (by decide) (by decide) w.heap.size _ _ _ hRA.hs.own _ 1 (hkC h (.slice vo h.ls.length vc)) (Znr u1 h (.slice vo h.ls.length vc)) rfl (ZhO _) (by omega) (Nat.le_trans hRA.hs.low.size (Nat.le_refl _))
   have hR3:=hRA.more hownA hg3 hown3
   obtain⟨o3,k3,rfl⟩:=(holds_of hown3).form
   refine Y_v 5 18 _ rfl (.slice o3 (P.length+1) k3) u3 (Zfz (.tmp 13) (.tmp 17) (by kernel_rfl) (by kernel_rfl) (by kernel_rfl) hr3) trivial ?_
   simp only[Act.put,Y_a,Y_b,Y_c]
   refine Y_s 6 _ rfl (u3.setCell ⟨w.heap.size,0,none⟩ (.slice o3 (P.length+1) k3)) (ZfH hR3.2.1 hR3.2.2 (.tmp 2) (.tmp 18) (by kernel_rfl) (by kernel_rfl) (by kernel_rfl)) trivial ?_
   refine wpAnyH_done (by kernel_rfl) ?_ _
   refine PanQ.normal ?_
   have hR4:=hR3.1
   go_wp2
   refine⟨⟨_,P++[(h,.slice vo h.ls.length vc)],p2,f',⟨o3,k3,by rw[List.length_append];rfl⟩,hR4,hlt2.1,by simp;omega,hlt2.2.2.1,HN2.out h p2 r _ hk⟩,?_⟩
   rw[ZqL hR4.ry,ZqL hR.ry]
   omega
  ·simp only[Act.put,Y_a,Y_b,Y_c]
   refine ZgS 2 15 _ (.int .i64 (P.length:Int)) rfl (by kernel_rfl) (by kernel_rfl) (by kernel_rfl) (by kernel_rfl) (ZnX (by decide) (by decide)) (Or.inl ⟨by kernel_rfl,fun u hu=>by kernel_rfl⟩) trivial ?_
   simp only[Act.put,Y_a,Y_b,Y_c]
   refine ZgV 0 13 _ 3 16 _ rfl (by kernel_rfl) rfl (by kernel_rfl) (by kernel_rfl) (by kernel_rfl) (by kernel_rfl) (.slice o P.length c) wd (Zky c0d (.tmp 2) (by kernel_rfl) (by kernel_rfl)) trivial 85 (.func 85) #[.tmp 4,.tmp 15] #[138,3] (by kernel_rfl) #[] (by kernel_rfl) #[.pointer (some ⟨w.heap.size+1+1,0,none⟩),.int .i64 (P.length:Int)] (by kernel_rfl) (enters_of Tryz.func85 (by kernel_rfl) rfl) (Rr) (Pn) (fun c u h=>⟨h,rfl,rfl,rfl⟩) ?_ ?_ ?_
   ·exact hcall
   ·simp only[Act.put,Y_a,Y_b,Y_c]
    refine ZgP 3 16 _ rfl (by kernel_rfl) (by kernel_rfl) (by kernel_rfl) 85 (.func 85) #[.tmp 4,.tmp 15] #[138,3] (by kernel_rfl) #[] (by kernel_rfl) #[.pointer (some ⟨w.heap.size+1+1,0,none⟩),.int .i64 (P.length:Int)] (by kernel_rfl) (enters_of Tryz.func85 (by kernel_rfl) rfl) (Rr) (Pn) (fun c u h=>⟨h,rfl,rfl,rfl⟩) ?_ ?_
    ·exact hcall
    intro v0 u1 _ hq
    rw[← HRr.out] at hq
    obtain⟨h,p2,r,vo,vc,hk,rfl,hR1,hown1⟩:=hq
    have c1u:=hR1.c0
    have c2u:=hR1.alloc_c0 (hkO h (.slice vo h.ls.length vc))
    simp only[Act.put,Y_a,Y_b,Y_c]
    refine Y_v 4 17 _ rfl (.slice (some ⟨u1.heap.size,0,none⟩) 1 1) (u1.alloc (hkO h (.slice vo h.ls.length vc))) (by kernel_rfl) trivial ?_
    simp only[Act.put,Y_a,Y_b,Y_c]
    have hlt2:=HN.out h p2 r hk
    have hRA:=hR1.alloc (hkO h (.slice vo h.ls.length vc))
    have hownA:=hown1.alloc (hkO h (.slice vo h.ls.length vc))
    obtain⟨v3,u3,hr3,hown3,hg3,_⟩:=Zqx (u1.alloc (hkO h (.slice vo h.ls.length vc))) 34 59 34 (.agg #[.int .i64 0,.int .i64 0,.int .i64 0,.int .i64 0,.slice none 0 0]) 5 56 Tryz.underlying34 infoHk rfl (by decide) (by decide) w.heap.size _ _ _ hRA.hs.own _ 1 (hkC h (.slice vo h.ls.length vc)) (Znr u1 h (.slice vo h.ls.length vc)) rfl (ZhO _) (by omega) (Nat.le_trans hRA.hs.low.size (Nat.le_refl _))
    have hR3:=hRA.more hownA hg3 hown3
    obtain⟨o3,k3,rfl⟩:=(holds_of hown3).form
    refine Y_v 5 18 _ rfl (.slice o3 (P.length+1) k3) u3 (Zfz (.tmp 13) (.tmp 17) (by kernel_rfl) (by kernel_rfl) (by kernel_rfl) hr3) trivial ?_
    simp only[Act.put,Y_a,Y_b,Y_c]
    refine Y_s 6 _ rfl (u3.setCell ⟨w.heap.size,0,none⟩ (.slice o3 (P.length+1) k3)) (ZfH hR3.2.1 hR3.2.2 (.tmp 2) (.tmp 18) (by kernel_rfl) (by kernel_rfl) (by kernel_rfl)) trivial ?_
    refine wpAnyH_done (by kernel_rfl) ?_ _
    refine PanQ.normal ?_
    have hR4:=hR3.1
    go_wp2
    refine⟨⟨_,P++[(h,.slice vo h.ls.length vc)],p2,f',⟨o3,k3,by rw[List.length_append];rfl⟩,hR4,hlt2.1,by simp;omega,hlt2.2.2.1,HN2.out h p2 r _ hk⟩,?_⟩
    rw[ZqL hR4.ry,ZqL hR.ry]
    omega
   ·intro v0 u1 _ hq
    rw[← HRr.out] at hq
    obtain⟨h,p2,r,vo,vc,hk,rfl,hR1,hown1⟩:=hq
    have c1u:=hR1.c0
    have c2u:=hR1.alloc_c0 (hkO h (.slice vo h.ls.length vc))
    simp only[Act.put,Y_a,Y_b,Y_c]
    refine ZgT 0 13 _ 4 17 _ rfl (by kernel_rfl) rfl (by kernel_rfl) (by kernel_rfl) (by kernel_rfl) (by kernel_rfl) (.slice o P.length c) u1 (Zky c1u (.tmp 2) (by kernel_rfl) (by kernel_rfl)) trivial (.slice (some ⟨u1.heap.size,0,none⟩) 1 1) (u1.alloc (hkO h (.slice vo h.ls.length vc))) (by kernel_rfl) trivial ?_ ?_
    ·simp only[Act.put,Y_a,Y_b,Y_c]
     refine Y_v 4 17 _ rfl (.slice (some ⟨u1.heap.size,0,none⟩) 1 1) (u1.alloc (hkO h (.slice vo h.ls.length vc))) (by kernel_rfl) trivial ?_
     simp only[Act.put,Y_a,Y_b,Y_c]
     have hlt2:=HN.out h p2 r hk
     have hRA:=hR1.alloc (hkO h (.slice vo h.ls.length vc))
     have hownA:=hown1.alloc (hkO h (.slice vo h.ls.length vc))
     obtain⟨v3,u3,hr3,hown3,hg3,_⟩:=Zqx (u1.alloc (hkO h (.slice vo h.ls.length vc))) 34 59 34 (.agg #[.int .i64 0,.int .i64 0,.int .i64 0,.int .i64 0,.slice none 0 0]) 5 56 Tryz.underlying34 infoHk rfl (by decide) (by decide) w.heap.size _ _ _ hRA.hs.own _ 1 (hkC h (.slice vo h.ls.length vc)) (Znr u1 h (.slice vo h.ls.length vc)) rfl (ZhO _) (by omega) (Nat.le_trans hRA.hs.low.size (Nat.le_refl _))
     have hR3:=hRA.more hownA hg3 hown3
     obtain⟨o3,k3,rfl⟩:=(holds_of hown3).form
     refine Y_v 5 18 _ rfl (.slice o3 (P.length+1) k3) u3 (Zfz (.tmp 13) (.tmp 17) (by kernel_rfl) (by kernel_rfl) (by kernel_rfl) hr3) trivial ?_
     simp only[Act.put,Y_a,Y_b,Y_c]
     refine Y_s 6 _ rfl (u3.setCell ⟨w.heap.size,0,none⟩ (.slice o3 (P.length+1) k3)) (ZfH hR3.2.1 hR3.2.2 (.tmp 2) (.tmp 18) (by kernel_rfl) (by kernel_rfl) (by kernel_rfl)) trivial ?_
     refine wpAnyH_done (by kernel_rfl) ?_ _
     refine PanQ.normal ?_
     have hR4:=hR3.1
     go_wp2
     refine⟨⟨_,P++[(h,.slice vo h.ls.length vc)],p2,f',⟨o3,k3,by rw[List.length_append];rfl⟩,hR4,hlt2.1,by simp;omega,hlt2.2.2.1,HN2.out h p2 r _ hk⟩,?_⟩
     rw[ZqL hR4.ry,ZqL hR.ry]
     omega
    ·simp only[Act.put,Y_a,Y_b,Y_c]
     refine Y_v 0 13 _ rfl (.slice o P.length c) (u1.alloc (hkO h (.slice vo h.ls.length vc))) (Zky c2u (.tmp 2) (by kernel_rfl) (by kernel_rfl)) trivial ?_
     simp only[Act.put,Y_a,Y_b,Y_c]
     have hlt2:=HN.out h p2 r hk
     have hRA:=hR1.alloc (hkO h (.slice vo h.ls.length vc))
     have hownA:=hown1.alloc (hkO h (.slice vo h.ls.length vc))
     obtain⟨v3,u3,hr3,hown3,hg3,_⟩:=Zqx (u1.alloc (hkO h (.slice vo h.ls.length vc))) 34 59 34 (.agg #[.int .i64 0,.int .i64 0,.int .i64 0,.int .i64 0,.slice none 0 0]) 5 56 Tryz.underlying34 infoHk rfl (by decide) (by decide) w.heap.size _ _ _ hRA.hs.own _ 1 (hkC h (.slice vo h.ls.length vc)) (Znr u1 h (.slice vo h.ls.length vc)) rfl (ZhO _) (by omega) (Nat.le_trans hRA.hs.low.size (Nat.le_refl _))
     have hR3:=hRA.more hownA hg3 hown3
     obtain⟨o3,k3,rfl⟩:=(holds_of hown3).form
     refine Y_v 5 18 _ rfl (.slice o3 (P.length+1) k3) u3 (Zfz (.tmp 13) (.tmp 17) (by kernel_rfl) (by kernel_rfl) (by kernel_rfl) hr3) trivial ?_
     simp only[Act.put,Y_a,Y_b,Y_c]
     refine Y_s 6 _ rfl (u3.setCell ⟨w.heap.size,0,none⟩ (.slice o3 (P.length+1) k3)) (ZfH hR3.2.1 hR3.2.2 (.tmp 2) (.tmp 18) (by kernel_rfl) (by kernel_rfl) (by kernel_rfl)) trivial ?_
     refine wpAnyH_done (by kernel_rfl) ?_ _
     refine PanQ.normal ?_
     have hR4:=hR3.1
     go_wp2
     refine⟨⟨_,P++[(h,.slice vo h.ls.length vc)],p2,f',⟨o3,k3,by rw[List.length_append];rfl⟩,hR4,hlt2.1,by simp;omega,hlt2.2.2.1,HN2.out h p2 r _ hk⟩,?_⟩
     rw[ZqL hR4.ry,ZqL hR.ry]
     omega
 ·have hend:decide ((p:Int)<(L.length:Int))=false:=decide_eq_false (by omega)
  have hXv:X=.ok (P.map (·.1)):=(by
   rw[← HI.out,List.drop_eq_nil_of_le (by omega)]
   cases f with
   | zero=>simp[hksK,thenH]
   | succ f=>simp[hksK,thenH])
  have c0:=hR.c0
  have c1:wr.cell? ⟨w.heap.size+1,0,none⟩=some .nilIface:=by rw[Lib.cell_of_heap hR.f1];rfl
  have z0:=Lib.frozen_of_heap hR.f0 0
  have z1:=Lib.frozen_of_heap hR.f1 0
  have g0:=Zhd wr w.heap.size 0 (.slice o P.length c)
  have s0:=heap_setCell_same wr w.heap.size 0 _ _ (.slice o P.length c) hR.f0
  have h1:=hR.hs.grown g0 (fun k e=>by cases e;omega) (fun k e=>by cases e;exact ZnA hR.hs.own hR.f0 (by decide)) (fun x hx k e=>by cases e;exact ZnA (hR.hs.ins x hx) hR.f0 (by decide))
  have t1:(wr.setCell ⟨w.heap.size,0,none⟩ (.slice o P.length c)).heap[w.heap.size+1]?=some (.cells #[.nilIface] 36):=(Below.heap_setCell _ _ _ _ (by simp)).trans hR.f1
  have g1:=Zhd (wr.setCell ⟨w.heap.size,0,none⟩ (.slice o P.length c)) (w.heap.size+1) 0 .nilIface
  have s1:=heap_setCell_same _ (w.heap.size+1) 0 _ _ .nilIface t1
  have s2:((wr.setCell ⟨w.heap.size,0,none⟩ (.slice o P.length c)).setCell ⟨w.heap.size+1,0,none⟩ .nilIface).heap[w.heap.size]?=_:=(Below.heap_setCell _ _ _ _ (by simp)).trans s0
  have h2:=h1.grown g1 (fun k e=>by cases e;omega) (fun k e=>by cases e;exact ZnA h1.own t1 (by decide)) (fun x hx k e=>by cases e;exact ZnA (h1.ins x hx) t1 (by decide))
  have c1':(wr.setCell ⟨w.heap.size,0,none⟩ (.slice o P.length c)).cell? ⟨w.heap.size+1,0,none⟩=some .nilIface:=by rw[Lib.cell_of_heap t1];rfl
  have z1':=Lib.frozen_of_heap t1 0
  have e0:((wr.setCell ⟨w.heap.size,0,none⟩ (.slice o P.length c)).setCell ⟨w.heap.size+1,0,none⟩ .nilIface).cell? ⟨w.heap.size,0,none⟩=some (.slice o P.length c):=by rw[Lib.cell_of_heap s2];rfl
  have e1:((wr.setCell ⟨w.heap.size,0,none⟩ (.slice o P.length c)).setCell ⟨w.heap.size+1,0,none⟩ .nilIface).cell? ⟨w.heap.size+1,0,none⟩=some .nilIface:=by rw[Lib.cell_of_heap s1];rfl
  subst hXv
  clear HI HPn HPd hR h1 g0 g1 s0 s1 s2 t1
  go_wp2
  refine leaves_cons (f:=84) (args:=#[.pointer (some ⟨w.heap.size,0,none⟩),.pointer (some ⟨w.heap.size+1,0,none⟩)]) (by simp) (by simp[go_sem]) ?_
  refine (Zcf _ _ _).mono ?_
  rintro e u' w'' ⟨rfl,rfl,rfl⟩
  exact⟨_,Zpu _ _ w.heap.size (w.heap.size+1) P.length c o .nilIface rfl rfl e0 e1,_,P,rfl,h2,rfl⟩
end

section
open Go.RowKit
theorem Zll {a:List (List UInt8)} {t:List UInt8} (h:t∈a):t.length≤a.flatten.length:=by
 induction a with
 | nil=>cases h
 | cons s a ih =>
  rw[List.flatten_cons,List.length_append]
  rcases List.mem_cons.1 h with rfl | h
  ·omega
  ·have:=ih h
   omega
theorem Zsj {t:List UInt8} {M:Nat} (h:t.length≤M):∀ s∈Ln.splitL t,s.length≤M:=by
 intro s hs
 have h1:=congrArg List.length (Ln.split_join t)
 have h2:=Zll hs
 omega
theorem RdQ.base {w W:World} {X:Except (Nat × Int) (List Hk)} {e:Ending} {w':World} (hB:Below w.heap.size w W) (h:RdQ W X e w'):RdQ w X e w':=by
 unfold RdQ at h ⊢
 rcases X with ⟨a,z⟩ | l
 ·obtain⟨g,h1,h2,h3⟩:=h
  exact⟨g,h1,h2,hB.trans (h3.mono hB.size)⟩
 ·obtain⟨v,P,h1,h2,h3⟩:=h
  exact⟨v,P,h1,h2.base hB,h3⟩
theorem ZlU (t:List UInt8) (w:World) (hl:t.length≤1099511627776) (X:Except (Nat × Int) (List Hk)) (HX:Hid (prsT t=X)) :
  Calls Tryz.prog 15 #[.string ⟨t.toArray⟩] w fun e w'=>RdQ w X e w':=by
 have hX:=HX.out
 clear HX
 rw[ZoM] at hX
 by_cases hlong:1048576<t.length
 ·rw[if_pos hlong] at hX
  subst hX
  have HA:Hid ((w.alloc (fltO ((0:Nat):Int) 9)).heap[w.heap.size]?=some (fltO ((0:Nat):Int) 9)∧Below w.heap.size w (w.alloc (fltO ((0:Nat):Int) 9))):=⟨heap_alloc_new w _,(Below.refl _ w).alloc (Nat.le_refl _) _⟩
  have i1:(1048576:Int)<(t.length:Int):=by omega
  go_enter Tryz.func15,Tryz.ntmps15
  go_wp2
  go_ret2
  exact⟨_,rfl,HA.out.1,HA.out.2⟩
 ·rw[if_neg hlong] at hX
  have HX2:Hid (hksK (Ln.splitL t).length 0 0 (Ln.splitL t)=X):=hX
  have hsl:=Ln.split_len t
  have HSl:Hid (∀ s∈Ln.splitL t,s.length≤1048576):=Zsj (by omega)
  have HPl:Hid (Plain (Ln.splitL t)):=Zsg t
  have hs:=ZlX t w hl
  have i1:¬ (1048576:Int)<(t.length:Int):=by omega
  clear hX
  generalize Ln.splitL t=L at *
  go_enter Tryz.func15,Tryz.ntmps15
  go_wp2_with fail
  refine hs.mono ?_
  rintro e w1 ⟨v,rfl,hown,hb⟩
  have hL:HS w1 v L:=holds_of hown
  obtain⟨lo,lc,rfl⟩:=Holds.form hL
  go_wp2_with fail
  refine (ZmI L lo lc w1 hL HPl (by omega) HSl X HX2).mono ?_
  intro e w2 hq
  have hq2:=RdQ.base hb hq
  clear hq
  cases X with
  | error z =>
   obtain⟨a,z⟩:=z
   obtain⟨g,rfl,h1,h2⟩:=hq2
   go_wp2
   go_ret2
   exact⟨g,rfl,h1,h2⟩
  | ok l =>
   obtain⟨v',P,rfl,h1,h2⟩:=hq2
   obtain⟨o,c,rfl⟩:=(holds_of h1.own).form
   go_wp2
   go_ret2
   exact⟨_,P,rfl,h1,h2⟩
end

section
theorem ZlS {W:World} (h:W.ShapedOpen Tryz.prog):Mxl W:=Go.Proofs.cell_of_shapedOpen_int (zero:=#[.int .i64 0]) (t:=3) h (of_decide_eq_true (by kernel_rfl)) (by kernel_rfl) rfl (by kernel_rfl) (by kernel_rfl) Tryz.underlying3
end

end Go.Proofs.YtgiojkhmkeocfaaGreatDoor

namespace Go.Proofs.YtgiojkhmkeocfaaGreatDoor.Es

section
open Go.RowKit Go.Extern.Stop Go.Stop Go.Extern
end

end Go.Proofs.YtgiojkhmkeocfaaGreatDoor.Es

namespace Go.Proofs.YtgiojkhmkeocfaaGreatDoor

section
open Go.RowKit
def ErrT (w:World):Prop:=w.cell? ⟨0,0,none⟩=some (.iface 193 (.agg #[.pointer (some ⟨7,36,none⟩)]))
theorem ErrT.lt {w:World} (h:ErrT w):0<w.heap.size:=World.block_lt_of_cell? w _ h
end

end Go.Proofs.YtgiojkhmkeocfaaGreatDoor
