/-
  Texts that belong together, joined: NpO, NpS, NpP, NpY, HuLn, HuC2, HuC3, HuWk.
-/
import Derived.Test.YtgiojkhmkeocfaaGreatDoorNoalBA15
import Derived.Test.YtgiojkhmkeocfaaGreatDoorNoalBA13
import Derived.Test.YtgiojkhmkeocfaaGreatDoorNoalBA3
import Derived.BigQuiet
import Derived.Test.YtgiojkhmkeocfaaGreatDoorNoalBA14
import Derived.Test.YtgiojkhmkeocfaaGreatDoorNoalBA5
import Derived.Test.YtgiojkhmkeocfaaGreatDoorNoalBA4

set_option maxHeartbeats 16000000
set_option maxRecDepth 100000
/- The code's read of layer 12, walked: the hunks of all lines, or what was thrown. -/
namespace Go.Proofs.YtgiojkhmkeocfaaGreatDoor
open Go.RowKit
theorem own_box {u:World} {B:Nat} {e t:TypeId} {s:Nat} {v:Value} {n k:Nat} {xs:List Value} {cs:Array Value} {fr:Nat × Nat} (h:u.ownsRow B e s v n xs) (hb:u.heap[k]?=some (.cells cs t fr)) (he:e≠t):v.ownBlock≠some k:=by
 intro hg
 rcases h.2 with ⟨rfl,_⟩ | ⟨g,cap,cur,rfl,_,hg2,_⟩
 ·cases hg
 ·simp[Value.ownBlock] at hg
  subst hg
  rw[hb] at hg2
  simp at hg2
  exact he hg2.2.1.symm
def ryAt (u:World) (R:Nat):Nat:=match u.heap[R]? with
 | some (.cells cs _ _)=>match cs[1]? with
  | some (Value.int _ p)=>p.toNat
  | _=>0
 | _=>0
theorem ryAt_eq {u:World} {R:Nat} {vL:Value} {p:Nat} (h:Ry u R vL (p:Int)):ryAt u R=p:=by
 unfold Ry ryO at h
 unfold ryAt
 rw[h]
 simp
structure RdS (w:World) (vL:Value) (ov:Value) (P:List (Hk × Value)) (p:Int) (u:World):Prop where
 hs:Hs w ov P u
 f0:u.heap[w.heap.size]?=some (.cells #[ov] 34)
 f1:u.heap[w.heap.size+1]?=some (.cells #[.nilIface] 36)
 ry:Ry u (w.heap.size+1+1) vL p
section
variable {w u u':World} {vL ov:Value} {P:List (Hk × Value)} {p p':Int}
theorem RdS.c0 (h:RdS w vL ov P p u):u.cell? ⟨w.heap.size,0,none⟩=some ov:=by rw[Lib.cell_of_heap h.f0];rfl
theorem RdS.drew (h:RdS w vL ov P p u):RdS w vL ov P p u.drew:=⟨⟨h.hs.low.drew,h.hs.own,h.hs.ins⟩,h.f0,h.f1,h.ry⟩
theorem RdS.alloc (h:RdS w vL ov P p u) (o:Obj):RdS w vL ov P p (u.alloc o) :=
 have hl:∀ k x,u.heap[k]?=some x→(u.alloc o).heap[k]?=some x:=fun k _ hk=>(Lib.alloc_old u o k (Array.getElem?_eq_some_iff.1 hk).1).trans hk
 ⟨h.hs.alloc o,hl _ _ h.f0,hl _ _ h.f1,hl _ _ h.ry⟩
theorem RdS.alloc_c0 (h:RdS w vL ov P p u) (o:Obj):(u.alloc o).cell? ⟨w.heap.size,0,none⟩=some ov:=(h.alloc o).c0
theorem RdS.call (h:RdS w vL ov P p u) (hg:u.grownBy u' (some (w.heap.size+1+1))) (q:Ry u' (w.heap.size+1+1) vL p'):RdS w vL ov P p' u':=by
 have hk:∀ k x,k≠w.heap.size+1+1→u.heap[k]?=some x→u'.heap[k]?=some x:=fun k _ hk hx=>(hg.block k (Array.getElem?_eq_some_iff.1 hx).1 (fun e=>hk (Option.some.inj e))).trans hx
 refine⟨h.hs.grown hg (fun k e=>by cases e;omega) (fun k e=>by cases e;exact own_box h.hs.own h.ry (by decide)) (fun x hx k e=>by cases e;exact own_box (h.hs.ins x hx) h.ry (by decide)),hk _ _ (by omega) h.f0,hk _ _ (by omega) h.f1,q⟩
theorem RdS.more (h:RdS w vL ov P p u) {x:Hk} {y ov':Value} (hy:u.ownsRow w.heap.size 103 2 y x.ls.length (mkcells x.ls)) (hg:u.grownBy u' ov.ownBlock) (ho:u'.ownsRow w.heap.size 59 5 ov' (P.length+1) (hkcells P++hkC x y)) :
  RdS w vL ov' (P++[(x,y)]) p (u'.setCell ⟨w.heap.size,0,none⟩ ov')∧u'.cell? ⟨w.heap.size,0,none⟩=some ov∧u'.frozen? ⟨w.heap.size,0,none⟩=false:=by
 have hs:=h.hs.more hy hg ho
 have hk:∀ (k:Nat) (cs:Array Value) (t:TypeId) (fr:Nat × Nat),t≠59→u.heap[k]?=some (Obj.cells cs t fr)→u'.heap[k]?=some (Obj.cells cs t fr):=fun k cs t fr ht hx=>(hg.block k (Array.getElem?_eq_some_iff.1 hx).1 (fun e=>own_box h.hs.own hx ht.symm e.symm)).trans hx
 have f0:=hk _ _ _ _ (by decide) h.f0
 have f1:=hk _ _ _ _ (by decide) h.f1
 have ry:Ry u' (w.heap.size+1+1) vL p:=hk _ _ _ _ (by decide) h.ry
 have hg2:=grown_set u' w.heap.size 0 ov'
 refine⟨⟨hs.grown hg2 (fun k e=>by cases e;omega) (fun k e=>by cases e;exact own_box hs.own f0 (by decide)) (fun x hx k e=>by cases e;exact own_box (hs.ins x hx) f0 (by decide)),heap_setCell_same u' _ 0 _ _ ov' f0,?_,ry.keep hg2 (fun e=>by have:=Option.some.inj e;omega)⟩,by rw[Lib.cell_of_heap f0];rfl,Lib.frozen_of_heap f0 0⟩
 exact (Below.heap_setCell _ _ _ _ (by simp)).trans f1
end
theorem load_hks {u:World} {a:Addr} {o:Option Addr} {n c:Nat} (h:u.cell? a=some (.slice o n c)) {op:Oper} (x:Operand) (ho:op.op=.load 34 x) {ev:Operand→Value} (hx:ev x=.pointer (some a)) :
  (execOp ev op).run Tryz.prog u=.ok (.value (.slice o n c)) u:=by
 simp only[execOp,ho,hx]
 go_simp
theorem exec_storeH {u:World} {a:Addr} {v0:Value} (hc:u.cell? a=some v0) (hf:u.frozen? a=false) {o:Option Addr} {n c:Nat} {op:Oper} (x y:Operand) (ho:op.op=.store 34 x y) {ev:Operand→Value} (hx:ev x=.pointer (some a)) (hy:ev y=.slice o n c) :
  (execOp ev op).run Tryz.prog u=.ok .skip (u.setCell a (.slice o n c)):=by
 simp only[execOp,ho,hx,hy]
 go_simp
def thenH (l:List Hk) (X:Except (Nat × Int) (List Hk)):Except (Nat × Int) (List Hk) :=
 match X with
 | .error e=>.error e
 | .ok m=>.ok (l++m)
def RdQ (w:World) (X:Except (Nat × Int) (List Hk)) (e:Ending) (w':World):Prop :=
 match X with
 | .error (a,z)=>∃ g,e=.returned (.tuple #[.slice none 0 0,.iface 86 (.pointer (some ⟨g,0,none⟩))])∧w'.heap[g]?=some (fltO (a:Int) z)∧Below w.heap.size w w'
 | .ok l=>∃ v' P,e=.returned (.tuple #[v',.nilIface])∧Hs w v' P w'∧P.map (·.1)=l
def PnQ (w:World) (X:Except (Nat × Int) (List Hk)) (c:List PanicEntry) (u:World):Prop :=
 ∃ (g a:Nat) (z:Int) (v0:Value),c=[{ v:=.iface 86 (.pointer (some ⟨g,0,none⟩)),recovered:=false }]∧u.heap[g]?=some (fltO (a:Int) z)∧X=.error (a,z)∧Below w.heap.size w u∧u.heap[w.heap.size]?=some (.cells #[v0] 34)∧u.heap[w.heap.size+1]?=some (.cells #[.nilIface] 36)
theorem pn_done {w:World} {X:Except (Nat × Int) (List Hk)}:∀ c (a:Act) u,PnQ w X c u→a.tmps.getD 2 undef=.pointer (some ⟨w.heap.size,0,none⟩)→a.tmps.getD 3 undef=.pointer (some ⟨w.heap.size+1,0,none⟩)→a.defers=[{ target:=.fn (.func 84) #[.pointer (some ⟨w.heap.size,0,none⟩),.pointer (some ⟨w.heap.size+1,0,none⟩)],args:=#[] }]→bodyPostD Tryz.prog Tryz.f42 (fun e w'=>RdQ w X e w') (.panic c) a u:=by
 rintro c a u ⟨g,pa,z,v0,rfl,hg,rfl,hlow,f0,f1⟩ h2 h3 hd
 show Leaves Tryz.prog Tryz.f42 a.tmps (fun e w'=>RdQ w (.error (pa,z)) e w') a.defers _ u
 rw[hd]
 have g0:g≠w.heap.size:=(by rintro rfl;rw[f0] at hg;unfold fltO at hg;simp at hg)
 have g1:g≠w.heap.size+1:=(by rintro rfl;rw[f1] at hg;unfold fltO at hg;simp at hg)
 refine leaves_cons (f:=84) (args:=#[.pointer (some ⟨w.heap.size,0,none⟩),.pointer (some ⟨w.heap.size+1,0,none⟩)]) (by simp) (by simp[go_sem]) ?_
 refine (catch_fault w.heap.size (w.heap.size+1) g v0 .nilIface [] u (by omega) (by rw[Lib.cell_of_heap f0];rfl) (Lib.frozen_of_heap f0 0) (by rw[Lib.cell_of_heap f1];rfl) (Lib.frozen_of_heap f1 0)).mono ?_
 rintro e u' w'' ⟨rfl,rfl,rfl⟩
 have s0:=heap_setCell_same u w.heap.size 0 _ _ (.slice none 0 0) f0
 have s1:(u.setCell ⟨w.heap.size,0,none⟩ (.slice none 0 0)).heap[w.heap.size+1]?=some (.cells #[.nilIface] 36):=(Below.heap_setCell _ _ _ _ (by simp)).trans f1
 have s2:=heap_setCell_same _ (w.heap.size+1) 0 _ _ (.iface 86 (.pointer (some ⟨g,0,none⟩))) s1
 have s3:((u.setCell ⟨w.heap.size,0,none⟩ (.slice none 0 0)).setCell ⟨w.heap.size+1,0,none⟩ (.iface 86 (.pointer (some ⟨g,0,none⟩)))).heap[w.heap.size]?=some (.cells #[.slice none 0 0] 34):=(Below.heap_setCell _ _ _ _ (by simp)).trans s0
 have s4:((u.setCell ⟨w.heap.size,0,none⟩ (.slice none 0 0)).setCell ⟨w.heap.size+1,0,none⟩ (.iface 86 (.pointer (some ⟨g,0,none⟩)))).heap[g]?=some (fltO (pa:Int) z):=((Below.heap_setCell _ _ _ _ (by simpa using g1)).trans (Below.heap_setCell _ _ _ _ (by simpa using g0))).trans hg
 have hl:Below w.heap.size w ((u.setCell ⟨w.heap.size,0,none⟩ (.slice none 0 0)).setCell ⟨w.heap.size+1,0,none⟩ (.iface 86 (.pointer (some ⟨g,0,none⟩)))).drew:=((hlow.setCell (Nat.le_refl _) _).setCell (by show w.heap.size≤w.heap.size+1;omega) _).drew
 generalize (u.setCell ⟨w.heap.size,0,none⟩ (.slice none 0 0)).setCell ⟨w.heap.size+1,0,none⟩ (.iface 86 (.pointer (some ⟨g,0,none⟩)))=W at *
 exact⟨_,rd_results a.tmps W.drew w.heap.size (w.heap.size+1) 0 0 none _ h2 h3 (by rw[Lib.cell_of_heap (w:=W.drew) s3];rfl) (by rw[Lib.cell_of_heap (w:=W.drew) s2];rfl),g,rfl,s4,hl⟩
theorem nread_f (L:List (List UInt8)) (lo:Option Addr) (lc:Nat) (w:World) (hL:HS w (.slice lo L.length lc) L) (HPl:Hid (Plain L)) (hLl:L.length≤1048576) (HSl:Hid (∀ s∈L,s.length≤1048576)) (X:Except (Nat × Int) (List Hk)) (HX:Hid (hksK L.length 0 0 L=X)) :
  Calls Tryz.prog 42 #[.slice lo L.length lc] w fun e w'=>RdQ w X e w':=by
 have hmf:∀ (fn:Fn) (first cap:Array Value) (w:World),(Instr.makeFunc fn first cap).run Tryz.prog w=.ok (.func fn first cap) w:=fun _ _ _ _=>rfl
 obtain⟨Pn,hPnd⟩:∃ Pn,PnQ w X=Pn:=⟨_,rfl⟩
 have HPn:Hid (∀ c (a:Act) u,Pn c u→a.tmps.getD 2 undef=.pointer (some ⟨w.heap.size,0,none⟩)→a.tmps.getD 3 undef=.pointer (some ⟨w.heap.size+1,0,none⟩)→a.defers=[{ target:=.fn (.func 84) #[.pointer (some ⟨w.heap.size,0,none⟩),.pointer (some ⟨w.heap.size+1,0,none⟩)],args:=#[] }]→bodyPostD Tryz.prog Tryz.f42 (fun e w'=>RdQ w X e w') (.panic c) a u):=(by rw[← hPnd];exact pn_done)
 have HPd:Hid (PnQ w X=Pn):=hPnd
 clear hPnd
 have hR0:RdS w (.slice lo L.length lc) (.slice none 0 0) [] ((0:Nat):Int) (((w.alloc (.cells #[.slice none 0 0] 34)).alloc (.cells #[.nilIface] 36)).alloc (.cells #[.slice lo L.length lc,.int .i64 0] 138)):=(by
  have a1:=heap_alloc_new w (.cells #[.slice none 0 0] 34)
  have a2:=heap_alloc_new (w.alloc (.cells #[.slice none 0 0] 34)) (.cells #[.nilIface] 36)
  have a3:=heap_alloc_new ((w.alloc (.cells #[.slice none 0 0] 34)).alloc (.cells #[.nilIface] 36)) (.cells #[.slice lo L.length lc,.int .i64 0] 138)
  have z1:(w.alloc (.cells #[.slice none 0 0] 34)).heap.size=w.heap.size+1:=by simp
  have z2:((w.alloc (.cells #[.slice none 0 0] 34)).alloc (.cells #[.nilIface] 36)).heap.size=w.heap.size+1+1:=by simp
  rw[z1] at a2
  rw[z2] at a3
  have hb1:Below w.heap.size w (w.alloc (.cells #[.slice none 0 0] 34)):=(Below.refl _ w).alloc (Nat.le_refl _) _
  have hb2:=hb1.alloc hb1.size (.cells #[.nilIface] 36)
  have hb3:=hb2.alloc hb2.size (.cells #[.slice lo L.length lc,.int .i64 0] 138)
  refine⟨⟨hb3,hnil_row _ _ _ _,fun x hx=>by cases hx⟩,?_,?_,a3⟩
  ·exact (Lib.alloc_old _ _ _ (by rw[z2];omega)).trans ((Lib.alloc_old _ _ _ (by rw[z1];omega)).trans a1)
  ·exact (Lib.alloc_old _ _ _ (by rw[z2];omega)).trans a2)
 have HX0:Hid (thenH (([]:List (Hk × Value)).map (·.1)) (hksK L.length ([]:List (Hk × Value)).length 0 (L.drop 0))=X):=(by
  show _=_
  rw[← HX.out]
  simp only[List.map_nil,List.drop_zero,List.length_nil]
  cases hksK L.length 0 0 L<;>rfl)
 clear HX
 go_enter_defers Tryz.func42,Tryz.ntmps42
 go_wp2
 go_loopw [] (fun wr=>∃ (ov:Value) (P:List (Hk × Value)) (p f:Nat),(∃ o c,ov=.slice o P.length c)∧RdS w (.slice lo L.length lc) ov P (p:Int) wr∧p≤L.length∧P.length≤4096∧(L.drop p).length≤f∧Hid (thenH (P.map (·.1)) (hksK f P.length p (L.drop p))=X)) (fun wr=>L.length-ryAt wr (w.heap.size+1+1))
 case atStart=>exact⟨_,[],0,L.length,⟨none,0,rfl⟩,hR0,Nat.zero_le _,Nat.zero_le _,by simp,HX0⟩
 case round =>
 clear hR0 HX0
 obtain⟨ov,P,p,f,⟨o,c,rfl⟩,hR,hp,hPl,hf,HI⟩:=hrel
 obtain⟨d0,d1⟩:=hR.ry.cells
 by_cases hlt:p<L.length
 ·have hfl:0<f:=(by rw[List.length_drop] at hf;omega)
  obtain⟨f',rfl⟩:∃ f',f=f'+1:=⟨f-1,by omega⟩
  have hne:L.drop p≠[]:=(by intro h;have:=congrArg List.length h;rw[List.length_drop] at this;simp at this;omega)
  have HIe:Hid (∀ e,hkK P.length p (L.drop p)=.error e→X=.error e):=(by
   intro e he
   rw[← HI.out]
   simp only[hksK]
   rw[if_neg hne,he]
   rfl)
  have HN:Hid (∀ h p2 r,hkK P.length p (L.drop p)=.ok (h,p2,r)→p2≤L.length∧p<p2∧(L.drop p2).length≤f'∧P.length<4096∧r=L.drop p2):=(by
   intro h p2 r hk
   obtain⟨j,b1,b2,b3,b4,b5⟩:=hkK_drop hk
   rw[List.length_drop] at b4 hf
   rw[List.drop_drop] at b1
   refine⟨by omega,by omega,by rw[List.length_drop];omega,by omega,by rw[b1,b2]⟩)
  have HN2:Hid (∀ h p2 r y,hkK P.length p (L.drop p)=.ok (h,p2,r)→Hid (thenH ((P++[(h,y)]).map (·.1)) (hksK f' (P++[(h,y)]).length p2 (L.drop p2))=X)):=(by
   intro h p2 r y hk
   show _=_
   have hr:=(HN.out h p2 r hk).2.2.2.2
   rw[← HI.out]
   simp only[hksK]
   rw[if_neg hne,hk]
   dsimp only
   rw[hr,List.length_append,List.map_append]
   show thenH (P.map (·.1)++[h]) (hksK f' (P.length+1) p2 (L.drop p2))=_
   cases hksK f' (P.length+1) p2 (L.drop p2) with
   | error e=>rfl
   | ok m=>simp[thenH])
  have hRd:=hR.drew
  obtain⟨Rr,hRr⟩:∃ Rr:Value→World→Prop,(fun v u=>∃ h p2 r vo vc,hkK P.length p (L.drop p)=.ok (h,p2,r)∧v=hkV h (.slice vo h.ls.length vc)∧RdS w (.slice lo L.length lc) (.slice o P.length c) P ((p2:Nat):Int) u∧u.ownsRow w.heap.size 103 2 (.slice vo h.ls.length vc) h.ls.length (mkcells h.ls))=Rr:=⟨_,rfl⟩
  have hcall:Calls Tryz.prog 85 (#[.pointer (some ⟨w.heap.size+1+1,0,none⟩),.int .i64 (P.length:Int)]++#[]) wr.drew fun e w'=>(∃ v,e=.returned v∧True∧Rr v w')∨(∃ c,e=.panicked c∧Pn c w'):=(by
   obtain⟨Y,hY⟩:∃ Y,hkK P.length p (L.drop p)=Y:=⟨_,rfl⟩
   have hsz:=hRd.hs.low.size
   refine (nhunk_f wr.drew hRd.ry (fun u hu=>HS.keep hL (hRd.hs.low.trans ⟨hu.os,hu.tape,hu.output,hu.size,fun k hk=>hu.block k (Nat.lt_of_lt_of_le hk hsz) (fun e=>by cases e;omega)⟩) (Nat.le_refl _)) HPl hp hLl HSl P.length hPl Y hY).mono ?_
   intro e w' hq
   cases Y with
   | error z =>
    obtain⟨a,z⟩:=z
    obtain⟨⟨g,rfl,hg⟩,hgr⟩:=hq
    right
    refine⟨_,rfl,?_⟩
    rw[← HPd.out]
    have hk:∀ k x,k≠w.heap.size+1+1→wr.drew.heap[k]?=some x→w'.heap[k]?=some x:=fun k _ hk hx=>(hgr.block k (Array.getElem?_eq_some_iff.1 hx).1 (fun e=>hk (Option.some.inj e))).trans hx
    exact⟨g,a,z,_,rfl,hg,HIe.out _ hY,hRd.hs.low.trans ⟨hgr.os,hgr.tape,hgr.output,hgr.size,fun k hk=>hgr.block k (Nat.lt_of_lt_of_le hk hsz) (fun e=>by cases e;omega)⟩,hk _ _ (by omega) hRd.f0,hk _ _ (by omega) hRd.f1⟩
   | ok z =>
    obtain⟨h,p2,r⟩:=z
    obtain⟨v',rfl,hown,q,hgr⟩:=hq
    obtain⟨vo,vc,rfl⟩:=(holds_of hown).form
    left
    rw[← hRr]
    exact⟨_,rfl,trivial,h,p2,r,vo,vc,hY,rfl,hRd.call hgr q,owns_less hown hsz⟩)
  have i1:(p:Int)<(L.length:Int):=by omega
  have HRr:Hid (_=Rr):=hRr
  clear hRr
  go_upto_region 4 with fail
  refine wp_region_panQ Pn (.pointer (some ⟨w.heap.size,0,none⟩)) (.pointer (some ⟨w.heap.size+1,0,none⟩)) [{ target:=.fn (.func 84) #[.pointer (some ⟨w.heap.size,0,none⟩),.pointer (some ⟨w.heap.size+1,0,none⟩)],args:=#[] }] (fun c a u h1 h2 h3 h4=>HPn.out c a u h1 h2 h3 h4) ?_
  refine wp_region_held_drew (S:=fun _=>True) (by kernel_rfl) trivial (fun _=>?_)
  generalize wr.drew=wd at hRd hcall ⊢
  have c0d:=hRd.c0
  refine go_two 0 13 _ 1 14 _ rfl (by kernel_rfl) rfl (by kernel_rfl) (by kernel_rfl) (by kernel_rfl) (by kernel_rfl) (.slice o P.length c) wd (load_hks c0d (.tmp 2) (by kernel_rfl) (by kernel_rfl)) trivial (.slice o P.length c) wd (load_hks c0d (.tmp 2) (by kernel_rfl) (by kernel_rfl)) trivial ?_ ?_
  ·simp only[Act.put,List.setIfInBounds_toArray,List.set_cons_zero,List.set_cons_succ]
   refine go_val 1 14 _ rfl (by kernel_rfl) (by kernel_rfl) (by kernel_rfl) (.slice o P.length c) wd (load_hks c0d (.tmp 2) (by kernel_rfl) (by kernel_rfl)) trivial ?_
   simp only[Act.put,List.setIfInBounds_toArray,List.set_cons_zero,List.set_cons_succ]
   refine go_take 2 15 _ (.int .i64 (P.length:Int)) rfl (by kernel_rfl) (by kernel_rfl) (by kernel_rfl) (by kernel_rfl) (panQ_put (by decide) (by decide)) (Or.inl ⟨by kernel_rfl,fun u hu=>by kernel_rfl⟩) trivial ?_
   simp only[Act.put,List.setIfInBounds_toArray,List.set_cons_zero,List.set_cons_succ]
   refine go_callP 3 16 _ rfl (by kernel_rfl) (by kernel_rfl) (by kernel_rfl) 85 (.func 85) #[.tmp 4,.tmp 15] #[138,3] (by kernel_rfl) #[] (by kernel_rfl) #[.pointer (some ⟨w.heap.size+1+1,0,none⟩),.int .i64 (P.length:Int)] (by kernel_rfl) (enters_of Tryz.func85 (by kernel_rfl) rfl) (Rr) (Pn) (fun c u h=>⟨h,rfl,rfl,rfl⟩) ?_ ?_
   ·exact hcall
   intro v0 u1 _ hq
   rw[← HRr.out] at hq
   obtain⟨h,p2,r,vo,vc,hk,rfl,hR1,hown1⟩:=hq
   have c1u:=hR1.c0
   have c2u:=hR1.alloc_c0 (hkO h (.slice vo h.ls.length vc))
   simp only[Act.put,List.setIfInBounds_toArray,List.set_cons_zero,List.set_cons_succ]
   refine go_val 4 17 _ rfl (by kernel_rfl) (by kernel_rfl) (by kernel_rfl) (.slice (some ⟨u1.heap.size,0,none⟩) 1 1) (u1.alloc (hkO h (.slice vo h.ls.length vc))) (by kernel_rfl) trivial ?_
   simp only[Act.put,List.setIfInBounds_toArray,List.set_cons_zero,List.set_cons_succ]
   have hlt2:=HN.out h p2 r hk
   have hRA:=hR1.alloc (hkO h (.slice vo h.ls.length vc))
   have hownA:=hown1.alloc (hkO h (.slice vo h.ls.length vc))
   obtain⟨v3,u3,hr3,hown3,hg3,_⟩:=run_append_w (u1.alloc (hkO h (.slice vo h.ls.length vc))) 34 59 34 (.agg #[.int .i64 0,.int .i64 0,.int .i64 0,.int .i64 0,.slice none 0 0]) 5 56 Tryz.underlying34 infoHk rfl (by decide) (by decide) w.heap.size _ _ _ hRA.hs.own _ 1 (hkC h (.slice vo h.ls.length vc)) (one_row u1 h (.slice vo h.ls.length vc)) rfl (hkC_one _) (by omega) (Nat.le_trans hRA.hs.low.size (Nat.le_refl _))
   have hR3:=hRA.more hownA hg3 hown3
   obtain⟨o3,k3,rfl⟩:=(holds_of hown3).form
   refine go_val 5 18 _ rfl (by kernel_rfl) (by kernel_rfl) (by kernel_rfl) (.slice o3 (P.length+1) k3) u3 (exec_app (.tmp 13) (.tmp 17) (by kernel_rfl) (by kernel_rfl) (by kernel_rfl) hr3) trivial ?_
   simp only[Act.put,List.setIfInBounds_toArray,List.set_cons_zero,List.set_cons_succ]
   refine go_skip 6 _ rfl (by kernel_rfl) (by kernel_rfl) (by kernel_rfl) (u3.setCell ⟨w.heap.size,0,none⟩ (.slice o3 (P.length+1) k3)) (exec_storeH hR3.2.1 hR3.2.2 (.tmp 2) (.tmp 18) (by kernel_rfl) (by kernel_rfl) (by kernel_rfl)) trivial ?_
   refine wpAnyH_done (by kernel_rfl) ?_ _
   refine PanQ.normal ?_
   have hR4:=hR3.1
   go_wp2
   refine⟨⟨_,P++[(h,.slice vo h.ls.length vc)],p2,f',⟨o3,k3,by rw[List.length_append];rfl⟩,hR4,hlt2.1,by simp;omega,hlt2.2.2.1,HN2.out h p2 r _ hk⟩,?_⟩
   rw[ryAt_eq hR4.ry,ryAt_eq hR.ry]
   omega
  ·simp only[Act.put,List.setIfInBounds_toArray,List.set_cons_zero,List.set_cons_succ]
   refine go_take 2 15 _ (.int .i64 (P.length:Int)) rfl (by kernel_rfl) (by kernel_rfl) (by kernel_rfl) (by kernel_rfl) (panQ_put (by decide) (by decide)) (Or.inl ⟨by kernel_rfl,fun u hu=>by kernel_rfl⟩) trivial ?_
   simp only[Act.put,List.setIfInBounds_toArray,List.set_cons_zero,List.set_cons_succ]
   refine go_valCallP 0 13 _ 3 16 _ rfl (by kernel_rfl) rfl (by kernel_rfl) (by kernel_rfl) (by kernel_rfl) (by kernel_rfl) (.slice o P.length c) wd (load_hks c0d (.tmp 2) (by kernel_rfl) (by kernel_rfl)) trivial 85 (.func 85) #[.tmp 4,.tmp 15] #[138,3] (by kernel_rfl) #[] (by kernel_rfl) #[.pointer (some ⟨w.heap.size+1+1,0,none⟩),.int .i64 (P.length:Int)] (by kernel_rfl) (enters_of Tryz.func85 (by kernel_rfl) rfl) (Rr) (Pn) (fun c u h=>⟨h,rfl,rfl,rfl⟩) ?_ ?_ ?_
   ·exact hcall
   ·simp only[Act.put,List.setIfInBounds_toArray,List.set_cons_zero,List.set_cons_succ]
    refine go_callP 3 16 _ rfl (by kernel_rfl) (by kernel_rfl) (by kernel_rfl) 85 (.func 85) #[.tmp 4,.tmp 15] #[138,3] (by kernel_rfl) #[] (by kernel_rfl) #[.pointer (some ⟨w.heap.size+1+1,0,none⟩),.int .i64 (P.length:Int)] (by kernel_rfl) (enters_of Tryz.func85 (by kernel_rfl) rfl) (Rr) (Pn) (fun c u h=>⟨h,rfl,rfl,rfl⟩) ?_ ?_
    ·exact hcall
    intro v0 u1 _ hq
    rw[← HRr.out] at hq
    obtain⟨h,p2,r,vo,vc,hk,rfl,hR1,hown1⟩:=hq
    have c1u:=hR1.c0
    have c2u:=hR1.alloc_c0 (hkO h (.slice vo h.ls.length vc))
    simp only[Act.put,List.setIfInBounds_toArray,List.set_cons_zero,List.set_cons_succ]
    refine go_val 4 17 _ rfl (by kernel_rfl) (by kernel_rfl) (by kernel_rfl) (.slice (some ⟨u1.heap.size,0,none⟩) 1 1) (u1.alloc (hkO h (.slice vo h.ls.length vc))) (by kernel_rfl) trivial ?_
    simp only[Act.put,List.setIfInBounds_toArray,List.set_cons_zero,List.set_cons_succ]
    have hlt2:=HN.out h p2 r hk
    have hRA:=hR1.alloc (hkO h (.slice vo h.ls.length vc))
    have hownA:=hown1.alloc (hkO h (.slice vo h.ls.length vc))
    obtain⟨v3,u3,hr3,hown3,hg3,_⟩:=run_append_w (u1.alloc (hkO h (.slice vo h.ls.length vc))) 34 59 34 (.agg #[.int .i64 0,.int .i64 0,.int .i64 0,.int .i64 0,.slice none 0 0]) 5 56 Tryz.underlying34 infoHk rfl (by decide) (by decide) w.heap.size _ _ _ hRA.hs.own _ 1 (hkC h (.slice vo h.ls.length vc)) (one_row u1 h (.slice vo h.ls.length vc)) rfl (hkC_one _) (by omega) (Nat.le_trans hRA.hs.low.size (Nat.le_refl _))
    have hR3:=hRA.more hownA hg3 hown3
    obtain⟨o3,k3,rfl⟩:=(holds_of hown3).form
    refine go_val 5 18 _ rfl (by kernel_rfl) (by kernel_rfl) (by kernel_rfl) (.slice o3 (P.length+1) k3) u3 (exec_app (.tmp 13) (.tmp 17) (by kernel_rfl) (by kernel_rfl) (by kernel_rfl) hr3) trivial ?_
    simp only[Act.put,List.setIfInBounds_toArray,List.set_cons_zero,List.set_cons_succ]
    refine go_skip 6 _ rfl (by kernel_rfl) (by kernel_rfl) (by kernel_rfl) (u3.setCell ⟨w.heap.size,0,none⟩ (.slice o3 (P.length+1) k3)) (exec_storeH hR3.2.1 hR3.2.2 (.tmp 2) (.tmp 18) (by kernel_rfl) (by kernel_rfl) (by kernel_rfl)) trivial ?_
    refine wpAnyH_done (by kernel_rfl) ?_ _
    refine PanQ.normal ?_
    have hR4:=hR3.1
    go_wp2
    refine⟨⟨_,P++[(h,.slice vo h.ls.length vc)],p2,f',⟨o3,k3,by rw[List.length_append];rfl⟩,hR4,hlt2.1,by simp;omega,hlt2.2.2.1,HN2.out h p2 r _ hk⟩,?_⟩
    rw[ryAt_eq hR4.ry,ryAt_eq hR.ry]
    omega
   ·intro v0 u1 _ hq
    rw[← HRr.out] at hq
    obtain⟨h,p2,r,vo,vc,hk,rfl,hR1,hown1⟩:=hq
    have c1u:=hR1.c0
    have c2u:=hR1.alloc_c0 (hkO h (.slice vo h.ls.length vc))
    simp only[Act.put,List.setIfInBounds_toArray,List.set_cons_zero,List.set_cons_succ]
    refine go_two 0 13 _ 4 17 _ rfl (by kernel_rfl) rfl (by kernel_rfl) (by kernel_rfl) (by kernel_rfl) (by kernel_rfl) (.slice o P.length c) u1 (load_hks c1u (.tmp 2) (by kernel_rfl) (by kernel_rfl)) trivial (.slice (some ⟨u1.heap.size,0,none⟩) 1 1) (u1.alloc (hkO h (.slice vo h.ls.length vc))) (by kernel_rfl) trivial ?_ ?_
    ·simp only[Act.put,List.setIfInBounds_toArray,List.set_cons_zero,List.set_cons_succ]
     refine go_val 4 17 _ rfl (by kernel_rfl) (by kernel_rfl) (by kernel_rfl) (.slice (some ⟨u1.heap.size,0,none⟩) 1 1) (u1.alloc (hkO h (.slice vo h.ls.length vc))) (by kernel_rfl) trivial ?_
     simp only[Act.put,List.setIfInBounds_toArray,List.set_cons_zero,List.set_cons_succ]
     have hlt2:=HN.out h p2 r hk
     have hRA:=hR1.alloc (hkO h (.slice vo h.ls.length vc))
     have hownA:=hown1.alloc (hkO h (.slice vo h.ls.length vc))
     obtain⟨v3,u3,hr3,hown3,hg3,_⟩:=run_append_w (u1.alloc (hkO h (.slice vo h.ls.length vc))) 34 59 34 (.agg #[.int .i64 0,.int .i64 0,.int .i64 0,.int .i64 0,.slice none 0 0]) 5 56 Tryz.underlying34 infoHk rfl (by decide) (by decide) w.heap.size _ _ _ hRA.hs.own _ 1 (hkC h (.slice vo h.ls.length vc)) (one_row u1 h (.slice vo h.ls.length vc)) rfl (hkC_one _) (by omega) (Nat.le_trans hRA.hs.low.size (Nat.le_refl _))
     have hR3:=hRA.more hownA hg3 hown3
     obtain⟨o3,k3,rfl⟩:=(holds_of hown3).form
     refine go_val 5 18 _ rfl (by kernel_rfl) (by kernel_rfl) (by kernel_rfl) (.slice o3 (P.length+1) k3) u3 (exec_app (.tmp 13) (.tmp 17) (by kernel_rfl) (by kernel_rfl) (by kernel_rfl) hr3) trivial ?_
     simp only[Act.put,List.setIfInBounds_toArray,List.set_cons_zero,List.set_cons_succ]
     refine go_skip 6 _ rfl (by kernel_rfl) (by kernel_rfl) (by kernel_rfl) (u3.setCell ⟨w.heap.size,0,none⟩ (.slice o3 (P.length+1) k3)) (exec_storeH hR3.2.1 hR3.2.2 (.tmp 2) (.tmp 18) (by kernel_rfl) (by kernel_rfl) (by kernel_rfl)) trivial ?_
     refine wpAnyH_done (by kernel_rfl) ?_ _
     refine PanQ.normal ?_
     have hR4:=hR3.1
     go_wp2
     refine⟨⟨_,P++[(h,.slice vo h.ls.length vc)],p2,f',⟨o3,k3,by rw[List.length_append];rfl⟩,hR4,hlt2.1,by simp;omega,hlt2.2.2.1,HN2.out h p2 r _ hk⟩,?_⟩
     rw[ryAt_eq hR4.ry,ryAt_eq hR.ry]
     omega
    ·simp only[Act.put,List.setIfInBounds_toArray,List.set_cons_zero,List.set_cons_succ]
     refine go_val 0 13 _ rfl (by kernel_rfl) (by kernel_rfl) (by kernel_rfl) (.slice o P.length c) (u1.alloc (hkO h (.slice vo h.ls.length vc))) (load_hks c2u (.tmp 2) (by kernel_rfl) (by kernel_rfl)) trivial ?_
     simp only[Act.put,List.setIfInBounds_toArray,List.set_cons_zero,List.set_cons_succ]
     have hlt2:=HN.out h p2 r hk
     have hRA:=hR1.alloc (hkO h (.slice vo h.ls.length vc))
     have hownA:=hown1.alloc (hkO h (.slice vo h.ls.length vc))
     obtain⟨v3,u3,hr3,hown3,hg3,_⟩:=run_append_w (u1.alloc (hkO h (.slice vo h.ls.length vc))) 34 59 34 (.agg #[.int .i64 0,.int .i64 0,.int .i64 0,.int .i64 0,.slice none 0 0]) 5 56 Tryz.underlying34 infoHk rfl (by decide) (by decide) w.heap.size _ _ _ hRA.hs.own _ 1 (hkC h (.slice vo h.ls.length vc)) (one_row u1 h (.slice vo h.ls.length vc)) rfl (hkC_one _) (by omega) (Nat.le_trans hRA.hs.low.size (Nat.le_refl _))
     have hR3:=hRA.more hownA hg3 hown3
     obtain⟨o3,k3,rfl⟩:=(holds_of hown3).form
     refine go_val 5 18 _ rfl (by kernel_rfl) (by kernel_rfl) (by kernel_rfl) (.slice o3 (P.length+1) k3) u3 (exec_app (.tmp 13) (.tmp 17) (by kernel_rfl) (by kernel_rfl) (by kernel_rfl) hr3) trivial ?_
     simp only[Act.put,List.setIfInBounds_toArray,List.set_cons_zero,List.set_cons_succ]
     refine go_skip 6 _ rfl (by kernel_rfl) (by kernel_rfl) (by kernel_rfl) (u3.setCell ⟨w.heap.size,0,none⟩ (.slice o3 (P.length+1) k3)) (exec_storeH hR3.2.1 hR3.2.2 (.tmp 2) (.tmp 18) (by kernel_rfl) (by kernel_rfl) (by kernel_rfl)) trivial ?_
     refine wpAnyH_done (by kernel_rfl) ?_ _
     refine PanQ.normal ?_
     have hR4:=hR3.1
     go_wp2
     refine⟨⟨_,P++[(h,.slice vo h.ls.length vc)],p2,f',⟨o3,k3,by rw[List.length_append];rfl⟩,hR4,hlt2.1,by simp;omega,hlt2.2.2.1,HN2.out h p2 r _ hk⟩,?_⟩
     rw[ryAt_eq hR4.ry,ryAt_eq hR.ry]
     omega
 ·have hend:decide ((p:Int)<(L.length:Int))=false:=decide_eq_false (by omega)
  have hXv:X=.ok (P.map (·.1)):=(by
   rw[← HI.out,List.drop_eq_nil_of_le (by omega)]
   cases f with
   | zero=>simp[hksK,thenH]
   | succ f=>simp[hksK,thenH])
  have c0:=hR.c0
  have c1:wr.cell? ⟨w.heap.size+1,0,none⟩=some .nilIface:=by rw[Lib.cell_of_heap hR.f1];rfl
  have z0:=Lib.frozen_of_heap hR.f0 0
  have z1:=Lib.frozen_of_heap hR.f1 0
  have g0:=grown_set wr w.heap.size 0 (.slice o P.length c)
  have s0:=heap_setCell_same wr w.heap.size 0 _ _ (.slice o P.length c) hR.f0
  have h1:=hR.hs.grown g0 (fun k e=>by cases e;omega) (fun k e=>by cases e;exact own_box hR.hs.own hR.f0 (by decide)) (fun x hx k e=>by cases e;exact own_box (hR.hs.ins x hx) hR.f0 (by decide))
  have t1:(wr.setCell ⟨w.heap.size,0,none⟩ (.slice o P.length c)).heap[w.heap.size+1]?=some (.cells #[.nilIface] 36):=(Below.heap_setCell _ _ _ _ (by simp)).trans hR.f1
  have g1:=grown_set (wr.setCell ⟨w.heap.size,0,none⟩ (.slice o P.length c)) (w.heap.size+1) 0 .nilIface
  have s1:=heap_setCell_same _ (w.heap.size+1) 0 _ _ .nilIface t1
  have s2:((wr.setCell ⟨w.heap.size,0,none⟩ (.slice o P.length c)).setCell ⟨w.heap.size+1,0,none⟩ .nilIface).heap[w.heap.size]?=_:=(Below.heap_setCell _ _ _ _ (by simp)).trans s0
  have h2:=h1.grown g1 (fun k e=>by cases e;omega) (fun k e=>by cases e;exact own_box h1.own t1 (by decide)) (fun x hx k e=>by cases e;exact own_box (h1.ins x hx) t1 (by decide))
  have c1':(wr.setCell ⟨w.heap.size,0,none⟩ (.slice o P.length c)).cell? ⟨w.heap.size+1,0,none⟩=some .nilIface:=by rw[Lib.cell_of_heap t1];rfl
  have z1':=Lib.frozen_of_heap t1 0
  have e0:((wr.setCell ⟨w.heap.size,0,none⟩ (.slice o P.length c)).setCell ⟨w.heap.size+1,0,none⟩ .nilIface).cell? ⟨w.heap.size,0,none⟩=some (.slice o P.length c):=by rw[Lib.cell_of_heap s2];rfl
  have e1:((wr.setCell ⟨w.heap.size,0,none⟩ (.slice o P.length c)).setCell ⟨w.heap.size+1,0,none⟩ .nilIface).cell? ⟨w.heap.size+1,0,none⟩=some .nilIface:=by rw[Lib.cell_of_heap s1];rfl
  subst hXv
  clear HI HPn HPd hR h1 g0 g1 s0 s1 s2 t1
  go_wp2
  refine leaves_cons (f:=84) (args:=#[.pointer (some ⟨w.heap.size,0,none⟩),.pointer (some ⟨w.heap.size+1,0,none⟩)]) (by simp) (by simp[go_sem]) ?_
  refine (catch_idle _ _ _).mono ?_
  rintro e u' w'' ⟨rfl,rfl,rfl⟩
  exact⟨_,rd_results _ _ w.heap.size (w.heap.size+1) P.length c o .nilIface rfl rfl e0 e1,_,P,rfl,h2,rfl⟩
end Go.Proofs.YtgiojkhmkeocfaaGreatDoor

/- The lines of a text: Split of layer lines and of the reference, walked anew over the normal form's texts. -/
namespace Go.Proofs.YtgiojkhmkeocfaaGreatDoor
open Ln Go.RowKit
attribute [local go_sem] no_at ByteArray.extract_mk
theorem sc_snoc (ws:List (List UInt8)) (a:List UInt8):scells (ws++[a])=scells ws++[.string ⟨a.toArray⟩]:=by simp[scells]
theorem sp_one (a:ByteArray):∀ u∈[Value.string a],u.oneCell'=true:=by intro u hu;simp at hu;subst hu;rfl
theorem sp_cells (w:World) (C:List Value) (t:TypeId):∀ j u,C[j]?=some u→(w.alloc (.cells C.toArray t)).cell? ((⟨w.heap.size,0,none⟩:Addr).add j)=some u:=by
 intro j u hj
 have hadd:(⟨w.heap.size,0,none⟩:Addr).add j=⟨w.heap.size,j,none⟩:=by unfold Addr.add;split<;>simp_all
 rw[hadd,cell_of_row _ w.heap.size j C.toArray t (0,0) (_root_.Go.heap_alloc_new w _)]
 simpa using hj
def sizeT:Value→Nat
 | .string s=>s.size
 | _=>0
theorem sizeT_mk (r:List UInt8):sizeT (.string ⟨r.toArray⟩)=r.length:=rfl
theorem acc_le {acc:List (List UInt8)} {r l:List UInt8} (h:acc++splitL r=splitL l):acc.length≤l.length:=by
 have h1:=congrArg List.length h
 have h2:=split_len l
 rw[List.length_append] at h1
 omega
theorem nSplit_f (l:List UInt8) (w:World) (hl:l.length≤1099511627776) :
  Calls Tryz.prog 12 #[.string ⟨l.toArray⟩] w fun e w'=>∃ v,e=.returned v∧w'.ownsRow w.heap.size 9 1 v (splitL l).length (scells (splitL l))∧Below w.heap.size w w':=by
 obtain⟨i0,hi,hz0,hz1,hz2⟩:=info_parts infoStr
 go_enter Tryz.func12,Tryz.ntmps12
 go_wp2
 go_loopw [0,3,4] (fun s acc _ wr=>∃ (xs:List (List UInt8)) (r:List UInt8),s=.string ⟨r.toArray⟩∧wr.ownsRow w.heap.size 9 1 acc xs.length (scells xs)∧Below w.heap.size w wr∧r.length≤l.length∧xs++splitL r=splitL l) (fun s _ _ _=>sizeT s)
 case atStart=>exact⟨[],l,rfl,World.ownsRow_nil _ _ _ _,Below.refl _ _,Nat.le_refl _,rfl⟩
 case round =>
  obtain⟨acc,r,rfl,hown,hbr,hrl,hw⟩:=hrel
  have hacc:=acc_le hw
  have HW:Hid (acc++splitL r=splitL l):=hw
  clear hw
  have hbz:=hbr.size
  obtain⟨ao,cap,rfl⟩:=(holds_of hown).form
  rcases Int.lt_or_le (Lib.indexByte r 10) 0 with hq | hq
  ·obtain⟨q1,q2⟩:=index_none hq
   clear hq
   cases r with
   | nil =>
    have HE:Hid (splitL l=acc):=by have:=HW.out;show _=_;simpa [splitL] using this.symm
    go_wp2_with fail
    refine (Tryz.strings_Index_one ⟨([]:List UInt8).toArray⟩ 10 _).mono ?_
    rintro e w1 ⟨rfl,rfl⟩
    go_wp2
    go_ret
    rw[HE.out]
    exact⟨_,rfl,hown,hbr⟩
   | cons c t =>
    have HE:Hid (splitL l=acc++[c::t]):=by
     have:=HW.out
     rw[split_one _ q2 (by simp)] at this
     exact this.symm
    clear q2
    go_wp2_with fail
    refine (Tryz.strings_Index_one ⟨(c::t).toArray⟩ 10 _).mono ?_
    rintro e w1 ⟨rfl,rfl⟩
    have hi2:Lib.indexByte (⟨(c::t).toArray⟩:ByteArray).data.toList 10=-1:=q1
    rw[hi2]
    go_wp2_with (at_builtin;refine wpList_append_own _ rfl _ _ 23 rfl w.heap.size 9 i0 (.string ⟨#[]⟩) 1 16 Tryz.underlying23 hi hz0 hz1 hz2 rfl (by decide) _ _ _ rfl (hown.alloc _) ⟨w1.heap.size,0,none⟩ 1 1 [.string ⟨(c::t).toArray⟩] rfl rfl (sp_cells _ _ _) (sp_one _) ?c3 ?c4 ?c5 ?_)
    case c3=>unfold maxLen;omega
    case c4=>omega
    case c5=>simp;omega
    intro v' w3 hown3 hgrow hfr
    have hbr3:=(hbr.alloc hbz (.cells #[.string ⟨(c::t).toArray⟩] 9)).grown hgrow (by simp;omega) (fun j hj=>(hown.lt j hj).1)
    go_wp2
    go_ret
    rw[HE.out,sc_snoc]
    exact⟨_,rfl,by simpa using hown3,hbr3⟩
  ·obtain⟨a,b,rfl,hn,he⟩:=index_some hq
   have HE:Hid (acc++[a++[10]]++splitL b=splitL l):=by
    have:=HW.out
    rw[split_cut a b hn] at this
    show _=_
    simpa using this
   clear hn hq
   have hlen:(a++10::b).length=a.length+1+b.length:=by simp;omega
   have ht:(a++10::b).take (a.length+1)=a++[10]:=by
    rw[show a++10::b=(a++[10])++b by simp,List.take_left' (by simp)]
   have hd:(a++10::b).drop (a.length+1)=b:=by
    rw[show a++10::b=(a++[10])++b by simp,List.drop_left' (by simp)]
   generalize a++10::b=r at *
   have i1:0≤(a.length:Int)+1:=by omega
   have i2:(a.length:Int)+1≤(r.length:Int):=by omega
   have i3:((a.length:Int)+1).toNat=a.length+1:=by omega
   go_wp2_with fail
   refine (Tryz.strings_Index_one ⟨r.toArray⟩ 10 _).mono ?_
   rintro e w1 ⟨rfl,rfl⟩
   have hi2:Lib.indexByte (⟨r.toArray⟩:ByteArray).data.toList 10=a.length:=he
   rw[hi2]
   go_wp2_with (at_builtin;refine wpList_append_own _ rfl _ _ 23 rfl w.heap.size 9 i0 (.string ⟨#[]⟩) 1 16 Tryz.underlying23 hi hz0 hz1 hz2 rfl (by decide) _ _ _ rfl (hown.alloc _) ⟨w1.heap.size,0,none⟩ 1 1 [.string ⟨(a++[10]).toArray⟩] rfl rfl (sp_cells _ _ _) (sp_one _) ?c3 ?c4 ?c5 ?_)
   case c3=>unfold maxLen;omega
   case c4=>omega
   case c5=>simp;omega
   intro v' w3 hown3 hgrow hfr
   have hbr3:=(hbr.alloc hbz (.cells #[.string ⟨(a++[10]).toArray⟩] 9)).grown hgrow (by simp;omega) (fun j hj=>(hown.lt j hj).1)
   go_wp2
   go_roundw
   case rel=>exact⟨acc++[a++[10]],b,rfl,by rw[sc_snoc];simpa using hown3,hbr3,by omega,HE.out⟩
   case measure=>rw[sizeT_mk,sizeT_mk];omega
end Go.Proofs.YtgiojkhmkeocfaaGreatDoor

/- The code's Parse of the normal form, walked. -/
namespace Go.Proofs.YtgiojkhmkeocfaaGreatDoor
open Go.RowKit
theorem mem_flatP {a:List (List UInt8)} {t:List UInt8} (h:t∈a):t.length≤a.flatten.length:=by
 induction a with
 | nil=>cases h
 | cons s a ih =>
  rw[List.flatten_cons,List.length_append]
  rcases List.mem_cons.1 h with rfl | h
  ·omega
  ·have:=ih h
   omega
theorem split_short {t:List UInt8} {M:Nat} (h:t.length≤M):∀ s∈Ln.splitL t,s.length≤M:=by
 intro s hs
 have h1:=congrArg List.length (Ln.split_join t)
 have h2:=mem_flatP hs
 omega
theorem RdQ.base {w W:World} {X:Except (Nat × Int) (List Hk)} {e:Ending} {w':World} (hB:Below w.heap.size w W) (h:RdQ W X e w'):RdQ w X e w':=by
 unfold RdQ at h ⊢
 rcases X with ⟨a,z⟩ | l
 ·obtain⟨g,h1,h2,h3⟩:=h
  exact⟨g,h1,h2,hB.trans (h3.mono hB.size)⟩
 ·obtain⟨v,P,h1,h2,h3⟩:=h
  exact⟨v,P,h1,h2.base hB,h3⟩
theorem nPars_f (t:List UInt8) (w:World) (hl:t.length≤1099511627776) (X:Except (Nat × Int) (List Hk)) (HX:Hid (prsT t=X)) :
  Calls Tryz.prog 15 #[.string ⟨t.toArray⟩] w fun e w'=>RdQ w X e w':=by
 have hX:=HX.out
 clear HX
 rw[prs_code] at hX
 by_cases hlong:1048576<t.length
 ·rw[if_pos hlong] at hX
  subst hX
  have HA:Hid ((w.alloc (fltO ((0:Nat):Int) 9)).heap[w.heap.size]?=some (fltO ((0:Nat):Int) 9)∧Below w.heap.size w (w.alloc (fltO ((0:Nat):Int) 9))):=⟨heap_alloc_new w _,(Below.refl _ w).alloc (Nat.le_refl _) _⟩
  have i1:(1048576:Int)<(t.length:Int):=by omega
  go_enter Tryz.func15,Tryz.ntmps15
  go_wp2
  go_ret2
  exact⟨_,rfl,HA.out.1,HA.out.2⟩
 ·rw[if_neg hlong] at hX
  have HX2:Hid (hksK (Ln.splitL t).length 0 0 (Ln.splitL t)=X):=hX
  have hsl:=Ln.split_len t
  have HSl:Hid (∀ s∈Ln.splitL t,s.length≤1048576):=split_short (by omega)
  have HPl:Hid (Plain (Ln.splitL t)):=split_plain t
  have hs:=nSplit_f t w hl
  have i1:¬ (1048576:Int)<(t.length:Int):=by omega
  clear hX
  generalize Ln.splitL t=L at *
  go_enter Tryz.func15,Tryz.ntmps15
  go_wp2_with fail
  refine hs.mono ?_
  rintro e w1 ⟨v,rfl,hown,hb⟩
  have hL:HS w1 v L:=holds_of hown
  obtain⟨lo,lc,rfl⟩:=Holds.form hL
  go_wp2_with fail
  refine (nread_f L lo lc w1 hL HPl (by omega) HSl X HX2).mono ?_
  intro e w2 hq
  have hq2:=RdQ.base hb hq
  clear hq
  cases X with
  | error z =>
   obtain⟨a,z⟩:=z
   obtain⟨g,rfl,h1,h2⟩:=hq2
   go_wp2
   go_ret2
   exact⟨g,rfl,h1,h2⟩
  | ok l =>
   obtain⟨v',P,rfl,h1,h2⟩:=hq2
   obtain⟨o,c,rfl⟩:=(holds_of h1.own).form
   go_wp2
   go_ret2
   exact⟨_,P,rfl,h1,h2⟩
end Go.Proofs.YtgiojkhmkeocfaaGreatDoor

/- The laws' own works of layer 12, walked: the chapter's first case. -/
namespace Go.Proofs.YtgiojkhmkeocfaaGreatDoor
open Go.RowKit
def eyA:List (List UInt8):=[[49,10],[50,10],[51,10]]
def eyB:List (List UInt8):=[[49,10],[120,10],[51,10],[52]]
def eyL:List Ch:=[⟨1,1,1,1⟩,⟨3,0,3,1⟩]
def eyT:List UInt8:=[50,99,50,10,60,32,50,10,45,45,45,10,62,32,120,10,51,97,52,10,62,32,52,10,92,32,78,111,32,110,101,119,108,105,110,101,32,97,116,32,101,110,100,32,111,102,32,102,105,108,101,10]
def eyH:Hk:=⟨1,1,0,0,[⟨45,[97,10]⟩]⟩
theorem ey_chk:chk eyL eyA.length eyB.length=0:=by decide +kernel
theorem ey_prt:prtT eyL eyA eyB=eyT:=by decide +kernel
theorem ey_prs:prsT [49,100,48,10,60,32,97,10]=.ok [eyH]:=by kernel_rfl
theorem ey_one {P:List (Hk × Value)} {h0:Hk} (h:P.map (·.1)=[h0]):∃ y0,P=[(h0,y0)]:=by
 match P,h with
 | [(x0,y0)],h =>
  simp at h
  subst h
  exact⟨y0,rfl⟩
theorem nworks_f (w:World) (HTb:Hid (Tab10 w)):Calls Tryz.prog 11 #[] w fun e w'=>e=.returned (.bool true)∧Below w.heap.size w w':=by
 have hB0:=((Below.refl _ w).alloc (Nat.le_refl w.heap.size) (.cells #[.string ⟨#[49,10]⟩,.string ⟨#[50,10]⟩,.string ⟨#[51,10]⟩] 9)).alloc (by simp) (.cells #[.string ⟨#[49,10]⟩,.string ⟨#[120,10]⟩,.string ⟨#[51,10]⟩,.string ⟨#[52]⟩] 9)
 have ha:HS ((w.alloc (.cells #[.string ⟨#[49,10]⟩,.string ⟨#[50,10]⟩,.string ⟨#[51,10]⟩] 9)).alloc (.cells #[.string ⟨#[49,10]⟩,.string ⟨#[120,10]⟩,.string ⟨#[51,10]⟩,.string ⟨#[52]⟩] 9)) (.slice (some ⟨w.heap.size,0,none⟩) 3 3) eyA :=
  HS.keep (new_holds w #[.string ⟨#[49,10]⟩,.string ⟨#[50,10]⟩,.string ⟨#[51,10]⟩] 9 3 3 (by decide)) ((Below.refl _ _).alloc (Nat.le_refl _) _) (Nat.le_refl _)
 have hb:HS ((w.alloc (.cells #[.string ⟨#[49,10]⟩,.string ⟨#[50,10]⟩,.string ⟨#[51,10]⟩] 9)).alloc (.cells #[.string ⟨#[49,10]⟩,.string ⟨#[120,10]⟩,.string ⟨#[51,10]⟩,.string ⟨#[52]⟩] 9)) (.slice (some ⟨w.heap.size+1,0,none⟩) 4 4) eyB :=
  new_holds_at _ (w.heap.size+1) (by simp) #[.string ⟨#[49,10]⟩,.string ⟨#[120,10]⟩,.string ⟨#[51,10]⟩,.string ⟨#[52]⟩] 9 4 4 (by decide)
 have HX:Hid (prsT [49,100,48,10,60,32,97,10]=.ok [eyH]):=ey_prs
 have hz:((w.alloc (.cells #[.string ⟨#[49,10]⟩,.string ⟨#[50,10]⟩,.string ⟨#[51,10]⟩] 9)).alloc (.cells #[.string ⟨#[49,10]⟩,.string ⟨#[120,10]⟩,.string ⟨#[51,10]⟩,.string ⟨#[52]⟩] 9)).heap.size=w.heap.size+1+1:=by simp
 have HR:Hid (chk eyL eyA.length eyB.length=0):=ey_chk
 have HT:Hid ((if (0:Int)=0 then prtT eyL eyA eyB else [])=eyT):=(by show _=_;rw[if_pos rfl];exact ey_prt)
 go_enter Tryz.func11,Tryz.ntmps11
 go_wp2_with fail
 generalize (w.alloc (.cells #[.string ⟨#[49,10]⟩,.string ⟨#[50,10]⟩,.string ⟨#[51,10]⟩] 9)).alloc (.cells #[.string ⟨#[49,10]⟩,.string ⟨#[120,10]⟩,.string ⟨#[51,10]⟩,.string ⟨#[52]⟩] 9)=W0 at ha hb hB0 hz ⊢
 have hl:HCh (W0.alloc (.cells #[.int .i64 1,.int .i64 1,.int .i64 1,.int .i64 1,.int .i64 3,.int .i64 0,.int .i64 3,.int .i64 1] 64)) (.slice (some ⟨w.heap.size+1+1,0,none⟩) 2 2) eyL:=new_holds_at W0 _ hz #[.int .i64 1,.int .i64 1,.int .i64 1,.int .i64 1,.int .i64 3,.int .i64 0,.int .i64 3,.int .i64 1] 64 2 2 (by decide)
 have hA:Below W0.heap.size W0 (W0.alloc (.cells #[.int .i64 1,.int .i64 1,.int .i64 1,.int .i64 1,.int .i64 3,.int .i64 0,.int .i64 3,.int .i64 1] 64)):=(Below.refl _ W0).alloc (Nat.le_refl _) _
 have ha1:=HS.keep ha hA (Nat.le_refl _)
 have hb1:=HS.keep hb hA (Nat.le_refl _)
 have hB1:=hB0.trans (hA.mono hB0.size)
 clear ha hb hB0 hA hz
 generalize W0.alloc (.cells #[.int .i64 1,.int .i64 1,.int .i64 1,.int .i64 1,.int .i64 3,.int .i64 0,.int .i64 3,.int .i64 1] 64)=W1 at *
 have HTb1:Hid (Tab10 W1):=HTb.out.on hB1
 refine (nPrint_f eyL _ _ _ eyA eyB W1 hl ha1 hb1 (by decide) (by decide) (by decide) (by decide +kernel) (by decide +kernel) HTb1 0 HR eyT HT (by decide +kernel)).mono ?_
 rintro e w2 ⟨rfl,hB2⟩
 have hB02:=hB1.trans (hB2.mono hB1.size)
 clear hl ha1 hb1 hB1 hB2 HTb1 HT HR HTb
 unfold eyT
 go_wp2_with fail
 refine (nPars_f [49,100,48,10,60,32,97,10] w2 (by decide) (.ok [eyH]) HX).mono ?_
 rintro e w3 ⟨v',P,rfl,hP,hPm⟩
 obtain⟨y0,rfl⟩:=ey_one hPm
 have hB03:=hB02.trans (hP.low.mono hB02.size)
 obtain⟨o3,c3,hv3⟩:=(holds_of hP.own).form
 subst hv3
 obtain⟨b3,f3,rfl,_,hc3⟩:=hP.holds.at (by simp)
 obtain⟨d0,d1,d2,_,_⟩:=hc3 0 (by simp)
 have c0:w3.cell? ⟨b3,f3,none⟩=some (.int .i64 1):=(by simpa [eyH] using d0)
 have c1:w3.cell? ⟨b3,f3+1,none⟩=some (.int .i64 1):=(by simpa [eyH] using d1)
 have c2:w3.cell? ⟨b3,f3+2,none⟩=some (.int .i64 0):=(by simpa [eyH] using d2)
 clear hPm HX hB02 hP hc3 d0 d1 d2
 simp only[List.length_cons,List.length_nil,Nat.zero_add]
 go_wp2
 go_ret
 exact⟨ret_bool (by simp),hB03⟩
end Go.Proofs.YtgiojkhmkeocfaaGreatDoor

/- Check of layer lines, walked at rows of texts; slices.ContainsFunc, walked at lines with signs. -/
namespace Go.Proofs.YtgiojkhmkeocfaaGreatDoor
open Ln Go.RowKit
theorem isLine_any (l:List UInt8) (last:Bool) (w:World) (hl:l.length≤1099511627776) (r:Bool) (HR:Hid (lineB l last=r)) :
  Calls Tryz.prog 107 #[.string ⟨l.toArray⟩,.bool last] w fun e w'=>e=.returned (.bool r)∧w=w':=by
 rcases Int.lt_or_le (Lib.indexByte l 10) 0 with hq | hq
 ·obtain⟨q1,q2⟩:=index_none hq
  have HE:Hid ((last && !l.isEmpty)=r):=(by show _=_;rw[← HR.out];exact (lineB_all q2 last).symm)
  clear hq q2 HR
  go_enter Tryz.func107,Tryz.ntmps107
  go_wp2_with fail
  refine (Tryz.strings_Index_one ⟨l.toArray⟩ 10 _).mono ?_
  rintro e w1 ⟨rfl,rfl⟩
  have hi2:Lib.indexByte (⟨l.toArray⟩:ByteArray).data.toList 10=-1:=q1
  rw[hi2]
  cases last with
  | false =>
   go_wp2
   go_ret
   rw[← HE.out]
   exact⟨rfl,rfl⟩
  | true =>
   cases l with
   | nil =>
    go_wp2
    go_ret
    rw[← HE.out]
    exact⟨rfl,rfl⟩
   | cons c t =>
    go_wp2
    go_ret
    rw[← HE.out]
    exact⟨rfl,rfl⟩
 ·obtain⟨a,b,he,hn,hi⟩:=index_some hq
  have HE:Hid (b.isEmpty=r):=(by
   show _=_
   rw[← HR.out,he]
   exact (lineB_cut hn last).symm)
  have hlen:l.length=a.length+1+b.length:=by rw[he];simp;omega
  clear hn hq he HR
  go_enter Tryz.func107,Tryz.ntmps107
  go_wp2_with fail
  refine (Tryz.strings_Index_one ⟨l.toArray⟩ 10 _).mono ?_
  rintro e w1 ⟨rfl,rfl⟩
  have hi2:Lib.indexByte (⟨l.toArray⟩:ByteArray).data.toList 10=a.length:=hi
  rw[hi2]
  cases b with
  | nil =>
   have hb:((a.length:Int) == (l.length:Int)-1)=true:=by simp at hlen;simp;omega
   clear hlen
   go_wp2
   go_ret
   rw[← HE.out]
   exact⟨rfl,rfl⟩
  | cons c t =>
   have hb:((a.length:Int) == (l.length:Int)-1)=false:=by simp at hlen;rw[beq_eq_false_iff_ne];omega
   clear hlen
   go_wp2
   go_ret
   rw[← HE.out]
   exact⟨rfl,rfl⟩
theorem hlCheck_f (v:Value) (ws:List (List UInt8)) (w:World) (hl:ws.length≤1099511627776) (he:∀ a∈ws,a.length≤1099511627776) (hv:HS w v ws) (r:Bool) (HR:Hid (checkB ws=r)) (z:Int) (HZ:Hid (z=if r=true then 0 else 6)) :
  Calls Tryz.prog 62 #[v] w fun e w'=>e=.returned (.int .i64 z)∧w=w':=by
 obtain⟨ao,c,rfl⟩:=Holds.form hv
 have HL:Hid (∀ a∈ws,a.length≤1099511627776):=he
 clear he
 go_enter Tryz.func62,Tryz.ntmps62
 go_wp2
 go_loopw [3,4,7] (fun _ _ i wr=>∃ k:Nat,k≤ws.length∧i=.int .i64 k∧wr=w∧Hid (checkB (ws.drop k)=r)) (fun _ _ i _=>ws.length-(intOf i).toNat)
 case atStart=>exact⟨0,Nat.zero_le _,rfl,rfl,HR⟩
 case round =>
  obtain⟨k,hk,rfl,rfl,HI⟩:=hrel
  clear HR
  by_cases hlt:k<ws.length
  ·obtain⟨b,off,rfl,_,hc⟩:=HS.at hv (by omega)
   have d1:=hc k hlt
   have hxl:=HL.out ws[k] (List.getElem_mem hlt)
   have i1:0≤(k:Int):=by omega
   have i2:(k:Int)<(ws.length:Int):=by omega
   have HM:(ws.drop (k+1)).isEmpty=((k:Int) == (ws.length:Int)-1):=by
    rw[Bool.eq_iff_iff,List.isEmpty_iff,List.drop_eq_nil_iff,beq_iff_eq];omega
   have HD:Hid ((lineB ws[k] (ws.drop (k+1)).isEmpty && checkB (ws.drop (k+1)))=r):=(by
    have h:=HI.out
    rw[List.drop_eq_getElem_cons hlt] at h
    exact h)
   rw[HM] at HD
   generalize hq:((k:Int) == (ws.length:Int)-1)=q at *
   generalize ws[k]=x at *
   obtain⟨r1,hr1⟩:∃ r1,lineB x q=r1:=⟨_,rfl⟩
   have HR1:Hid (lineB x q=r1):=hr1
   rw[hr1] at HD
   clear hr1 HI HM hc
   go_wp2_with fail
   refine (isLine_any x q _ hxl r1 HR1).mono ?_
   rintro e w1 ⟨rfl,rfl⟩
   cases r1 with
   | false =>
    have HZ2:Hid (z=6):=(by
     have h:=HD.out
     rw[Bool.false_and] at h
     show _=_
     rw[HZ.out,← h]
     rfl)
    clear HZ
    go_wp2
    go_ret
    rw[HZ2.out]
    exact⟨rfl,rfl⟩
   | true =>
    have HE:Hid (checkB (ws.drop (k+1))=r):=(by have h:=HD.out;rw[Bool.true_and] at h;exact h)
    go_wp2
    go_roundw
    case rel=>exact⟨k+1,by omega,by go_num,by trivial,HE⟩
    case measure=>simp[intOf];omega
  ·have HZ2:Hid (z=0):=(by
    have h:=HI.out
    rw[List.drop_of_length_le (by omega)] at h
    show _=_
    rw[HZ.out,← h]
    rfl)
   clear HZ HI
   have hend:decide ((k:Int)<(ws.length:Int))=false:=decide_eq_false (by omega)
   go_wp2
   go_ret
   rw[HZ2.out]
   exact⟨rfl,rfl⟩
theorem idx_any {l:List Mk} {p:Mk→Bool} {k:Nat} (hk:k<l.length):(l.drop k).any p=(p l[k] || (l.drop (k+1)).any p):=by
 rw[List.drop_eq_getElem_cons hk,List.any_cons]
theorem hIndexFunc_f (g:Nat) (l:List Mk) (p:Mk→Bool) (v:Value) (w:World) (hv:HMk w v l) (hl:l.length≤1099511627776) (eg:∀ args w,(callFunc g args).run Tryz.prog w=.ok (.enter g args) w)
  (hf:Hid (∀ m∈l,∀ u:World,Calls Tryz.prog g (#[.agg #[.int .u8 m.sg,.string ⟨m.tx.toArray⟩]]++#[]) u fun e u'=>e=.returned (.bool (p m))∧Below u.heap.size u u')) (r:Bool) (HR:Hid (l.any p=r)) :
  Calls Tryz.prog 106 #[v,.func (.func g) #[] #[]] w fun e w'=>∃ z:Int,e=.returned (.int .i64 z)∧decide (0≤z)=r∧Below w.heap.size w w':=by
 obtain⟨lo,lc,rfl⟩:=HMk.form hv
 go_enter Tryz.func106,Tryz.ntmps106
 go_wp2
 go_loopw [5,8] (fun _ i wr=>∃ k:Nat,k≤l.length∧i=.int .i64 k∧Below w.heap.size w wr∧Hid ((l.drop k).any p=r)) (fun _ i _=>l.length-(intOf i).toNat)
 case atStart=>exact⟨0,Nat.zero_le _,rfl,Below.refl _ _,HR⟩
 case round =>
  obtain⟨k,hk,rfl,hB,HI⟩:=hrel
  clear HR
  by_cases hlt:k<l.length
  ·obtain⟨b,off,rfl,hb,_⟩:=HMk.at hv (by omega)
   obtain⟨m,hm⟩:∃ m,l[k]=m:=⟨_,rfl⟩
   obtain⟨c0,c1⟩:=Low.mk hB hv k hlt hm
   have hc:=hf.out m (by rw[← hm];exact List.getElem_mem hlt) wr
   have i1:0≤(k:Int):=by omega
   have i2:(k:Int)<(l.length:Int):=by omega
   have HI2:Hid ((p m || (l.drop (k+1)).any p)=r):=(by
    have h:=HI.out
    rw[idx_any hlt,hm] at h
    exact h)
   obtain⟨q,hq⟩:∃ q,p m=q:=⟨_,rfl⟩
   rw[hq] at hc HI2
   clear HI hm hq
   cases q with
   | true =>
    have HE:Hid (true=r):=(by have h:=HI2.out;rw[Bool.true_or] at h;exact h)
    clear HI2
    go_wp2_with (go_at_fn g;refine hc.mono ?_;rintro e w' ⟨rfl,hB1⟩)
    go_ret
    exact⟨_,rfl,by rw[← HE.out];exact decide_eq_true (by omega),hB.trans (hB1.mono hB.size)⟩
   | false =>
    have HE:Hid ((l.drop (k+1)).any p=r):=(by have h:=HI2.out;rw[Bool.false_or] at h;exact h)
    clear HI2
    go_wp2_with (go_at_fn g;refine hc.mono ?_;rintro e w' ⟨rfl,hB1⟩)
    exact⟨⟨k+1,by omega,by go_num,hB.trans (hB1.mono hB.size),HE⟩,by simp[intOf];omega⟩
  ·have HE:Hid (false=r):=(by
    have h:=HI.out
    rw[List.drop_of_length_le (by omega)] at h
    exact h)
   clear HI
   have hend:decide ((k:Int)<(l.length:Int))=false:=decide_eq_false (by omega)
   go_wp2
   go_ret
   exact⟨_,rfl,HE.out,hB⟩
theorem hContains_f (g:Nat) (l:List Mk) (p:Mk→Bool) (v:Value) (w:World) (hv:HMk w v l) (hl:l.length≤1099511627776) (eg:∀ args w,(callFunc g args).run Tryz.prog w=.ok (.enter g args) w)
  (hf:Hid (∀ m∈l,∀ u:World,Calls Tryz.prog g (#[.agg #[.int .u8 m.sg,.string ⟨m.tx.toArray⟩]]++#[]) u fun e u'=>e=.returned (.bool (p m))∧Below u.heap.size u u')) (r:Bool) (HR:Hid (l.any p=r)) :
  Calls Tryz.prog 60 #[v,.func (.func g) #[] #[]] w fun e w'=>e=.returned (.bool r)∧Below w.heap.size w w':=by
 have HC:=hIndexFunc_f g l p v w hv hl eg hf r HR
 obtain⟨lo,lc,rfl⟩:=HMk.form hv
 go_enter Tryz.func60,Tryz.ntmps60
 go_wp2_with fail
 refine HC.mono ?_
 rintro e w1 ⟨z,rfl,hz,hB⟩
 go_wp2
 go_ret
 exact⟨rfl,hB⟩
end Go.Proofs.YtgiojkhmkeocfaaGreatDoor

/- The code's Check of layer 11, walked. -/
namespace Go.Proofs.YtgiojkhmkeocfaaGreatDoor
open Ln Go.RowKit
theorem rng_nm (h:Hk):rngB h=(nmB h.A h.AN && nmB h.B h.BN):=by
 unfold rngB nmB
 cases nat31 h.A<;>cases nat31 h.AN<;>cases nat31 h.B<;>cases nat31 h.BN<;>cases decide (h.A=0)<;>cases decide (0<h.AN)<;>cases decide (h.B=0)<;>cases decide (0<h.BN)<;>rfl
theorem pk_mem {no:Int} {l:List Mk} {a:List UInt8} (h:a∈pkL no l):∃ m∈l,m.tx=a:=by
 induction l with
 | nil=>cases h
 | cons m l ih =>
  simp only[pkL] at h
  split at h
  ·rcases List.mem_cons.1 h with rfl | h
   ·exact⟨m,by simp,rfl⟩
   ·obtain⟨x,hx,e⟩:=ih h
    exact⟨x,by simp[hx],e⟩
  ·obtain⟨x,hx,e⟩:=ih h
   exact⟨x,by simp[hx],e⟩
theorem chk_rng {h:Hk} (hq:rngB h=false):chkH h=2:=by
 unfold chkH
 rw[if_pos hq]
theorem chk_fld {h:Hk} (h1:rngB h=true) (hq:fldB h.ls=false):chkH h=6:=by
 unfold chkH
 rw[if_neg (by rw[h1];decide),if_pos hq]
theorem chk_cnt {h:Hk} (h1:rngB h=true) (h2:fldB h.ls=true) (hq:h.AN≠(oldL h).length∨h.BN≠(newL h).length):chkH h=120:=by
 unfold chkH
 rw[if_neg (by rw[h1];decide),if_neg (by rw[h2];decide),if_pos hq]
theorem all_chg {l:List Mk} (ha:allB l=true):l.all (fun m=>decide (m.sg=32))=!l.any chgB:=by
 induction l with
 | nil=>rfl
 | cons m l ih =>
  simp only[allB,List.all_cons,Bool.and_eq_true] at ha
  simp only[List.all_cons,List.any_cons]
  rw[ih ha.2]
  have hm:=ha.1
  simp only[okS,Bool.or_eq_true,decide_eq_true_eq] at hm
  unfold chgB
  rcases hm with (hm | hm) | hm<;>rw[hm]<;>simp
theorem chk_end {h:Hk} (h1:rngB h=true) (h2:fldB h.ls=true) (h3:h.AN=(oldL h).length) (h4:h.BN=(newL h).length) {q:Bool} (hq:h.ls.any chgB=q):chkH h=if q=true then 0 else 50:=by
 unfold chkH
 rw[if_neg (by rw[h1];decide),if_neg (by rw[h2];decide),if_neg (fun k=>by rcases k with k | k<;>contradiction)]
 have ha:allB h.ls=true:=by
  have:=fld_code h.ls
  rw[h2] at this
  simp only[Bool.true_eq,Bool.and_eq_true] at this
  exact this.1.1
 rw[all_chg ha,hq]
 cases q<;>rfl
theorem any_strange (l:List Mk):l.any (fun m=>!okS m.sg)=!allB l:=by
 induction l with
 | nil=>rfl
 | cons m l ih =>
  simp only[List.any_cons,allB,List.all_cons,Bool.not_and] at ih ⊢
  rw[ih]
theorem hold_held {h:Hk} {v:Value} {W u:World} (hv:HMk W v h.ls) (hl:h.ls.length≤1099511627776) {R:List (List UInt8)} (HR:Hid (oldL h=R)) (hL:Low W u):Calls Tryz.prog 38 (#[hkV h v]++#[]) u fun e w'=>∃ x,e=.returned x∧Low W w'∧(HS w' x R∧Below u.heap.size u w'):=by
 refine (hOld_f h v u (HMk.keep hv hL (Nat.le_refl _)) hl R HR).mono ?_
 rintro e w' ⟨x,rfl,hx,hB⟩
 exact⟨_,rfl,hL.trans (hB.mono hL.size),hx,hB⟩
theorem hnew_held {h:Hk} {v:Value} {W u:World} (hv:HMk W v h.ls) (hl:h.ls.length≤1099511627776) {R:List (List UInt8)} (HR:Hid (newL h=R)) (hL:Low W u):Calls Tryz.prog 40 (#[hkV h v]++#[]) u fun e w'=>∃ x,e=.returned x∧Low W w'∧(HS w' x R∧Below u.heap.size u w'):=by
 refine (hNew_f h v u (HMk.keep hv hL (Nat.le_refl _)) hl R HR).mono ?_
 rintro e w' ⟨x,rfl,hx,hB⟩
 exact⟨_,rfl,hL.trans (hB.mono hL.size),hx,hB⟩
theorem hCheck_f (h:Hk) (v:Value) (w:World) (hv:HMk w v h.ls) (hl:h.ls.length≤1099511627776) (htx:∀ m∈h.ls,m.tx.length≤1099511627776) (r:Int) (HR:Hid (chkH h=r)):Calls Tryz.prog 23 #[hkV h v] w fun e w'=>e=.returned (.int .i64 r)∧Below w.heap.size w w':=by
 obtain⟨A,AN,B,BN,ls⟩:=h
 dsimp only at hv hl htx
 obtain⟨lo,lc,rfl⟩:=HMk.form hv
 have hx:=Hx.new w ⟨A,AN,B,BN,ls⟩ (.slice lo ls.length lc)
 have hBl:Below w.heap.size w (w.alloc (hkO ⟨A,AN,B,BN,ls⟩ (.slice lo ls.length lc))):=(Below.refl _ w).alloc (Nat.le_refl _) _
 have hv1:=HMk.keep hv hBl (Nat.le_refl _)
 have HTX:Hid (∀ m∈ls,m.tx.length≤1099511627776):=htx
 clear htx hv
 obtain⟨x0,x1,x2,x3,x4⟩:=hx.cells
 unfold hkV
 dsimp only at x0 x1 x2 x3 x4 ⊢
 have hW0:w.alloc (hkO ⟨A,AN,B,BN,ls⟩ (.slice lo ls.length lc))=w.alloc (Obj.cells #[Value.int IntKind.i64 A,Value.int IntKind.i64 AN,Value.int IntKind.i64 B,Value.int IntKind.i64 BN,.slice lo ls.length lc] 59):=rfl
 generalize w.alloc (hkO ⟨A,AN,B,BN,ls⟩ (.slice lo ls.length lc))=W at *
 have hW:=hW0.symm
 clear hW0
 obtain⟨p1,hp1⟩:∃ p,nmB A AN=p:=⟨_,rfl⟩
 obtain⟨p2,hp2⟩:∃ p,nmB B BN=p:=⟨_,rfl⟩
 have HG:Hid (rngB ⟨A,AN,B,BN,ls⟩=(p1 && p2)):=(by show _=_;rw[rng_nm,← hp1,← hp2])
 have HP1:Hid (nmB A AN=p1):=hp1
 have HP2:Hid (nmB B BN=p2):=hp2
 clear hp1 hp2
 go_enter Tryz.func23,Tryz.ntmps23
 go_wp2_with fail
 refine (hnumbered_f A AN W p1 HP1).mono ?_
 rintro e w1 ⟨rfl,rfl⟩
 clear hW HP1
 cases p1 with
 | false =>
  have HE:Hid (2=r):=(by show _=_;rw[← HR.out,chk_rng (by rw[HG.out];rfl)])
  clear HR HG
  go_wp2
  go_ret
  exact⟨by rw[← HE.out];rfl,hBl⟩
 | true =>
 go_wp2_with fail
 refine (hnumbered_f B BN w1 p2 HP2).mono ?_
 rintro e W ⟨rfl,rfl⟩
 clear HP2
 cases p2 with
 | false =>
  have HE:Hid (2=r):=(by show _=_;rw[← HR.out,chk_rng (by rw[HG.out];rfl)])
  clear HR HG
  go_wp2
  go_ret
  exact⟨by rw[← HE.out];rfl,hBl⟩
 | true =>
  obtain⟨RO,hRO⟩:∃ r,oldL ⟨A,AN,B,BN,ls⟩=r:=⟨_,rfl⟩
  obtain⟨RN,hRN⟩:∃ r,newL ⟨A,AN,B,BN,ls⟩=r:=⟨_,rfl⟩
  have HO:Hid (oldL ⟨A,AN,B,BN,ls⟩=RO):=hRO
  have HN:Hid (newL ⟨A,AN,B,BN,ls⟩=RN):=hRN
  have HF:Hid (fldB ls=(allB ls && checkB RO && checkB RN)):=(by show _=_;rw[← hRO,← hRN];exact fld_code ls)
  have hROl:RO.length≤1099511627776:=by rw[← hRO];have:=pkL_length 43 ls;simp only[oldL];omega
  have hRNl:RN.length≤1099511627776:=by rw[← hRN];have:=pkL_length 45 ls;simp only[newL];omega
  have HROm:Hid (∀ a∈RO,a.length≤1099511627776):=(by
   intro a ha
   rw[← hRO] at ha
   obtain⟨m,hm,rfl⟩:=pk_mem ha
   exact HTX.out m hm)
  have HRNm:Hid (∀ a∈RN,a.length≤1099511627776):=(by
   intro a ha
   rw[← hRN] at ha
   obtain⟨m,hm,rfl⟩:=pk_mem ha
   exact HTX.out m hm)
  clear hRO hRN HTX
  have hxx:∀ u:World,Low W u→Hx u w.heap.size ⟨A,AN,B,BN,ls⟩ (.slice lo ls.length lc):=fun u hu=>hx.low hu
  go_upto_region 3 with fail
  go_cut [3,4] from 5 to 51 (fun a b wz=>∃ oo oc no nc,a=.slice oo RO.length oc∧b=.slice no RN.length nc∧HS wz a RO∧HS wz b RN∧Below W.heap.size W wz)
  case first =>
   have hlow:Low W (W.drewN 1):=Below.dN (Below.refl _ W) 1
   refine wp_region_noPanic ?_
   refine wp_region_held_drew (S:=fun u=>Low W u) (by kernel_rfl) hlow (fun hHeld=>?_)
   refine go_take 0 19 _ (hkV ⟨A,AN,B,BN,ls⟩ (.slice lo ls.length lc)) rfl (by kernel_rfl) (by kernel_rfl) (by kernel_rfl) (by kernel_rfl) (fun _ _ _ h=>h) (Or.inl ⟨by kernel_rfl,fun u hu=>load_hk (hxx u hu) (.tmp 1) (by kernel_rfl) (by kernel_rfl)⟩) hHeld ?_
   simp only[Act.put,List.setIfInBounds_toArray,List.set_cons_zero,List.set_cons_succ]
   refine go_take 2 21 _ (hkV ⟨A,AN,B,BN,ls⟩ (.slice lo ls.length lc)) rfl (by kernel_rfl) (by kernel_rfl) (by kernel_rfl) (by kernel_rfl) (fun _ _ _ h=>h) (Or.inl ⟨by kernel_rfl,fun u hu=>load_hk (hxx u hu) (.tmp 1) (by kernel_rfl) (by kernel_rfl)⟩) hHeld ?_
   simp only[Act.put,List.setIfInBounds_toArray,List.set_cons_zero,List.set_cons_succ]
   refine go_callE 1 20 _ rfl (by kernel_rfl) (by kernel_rfl) (by kernel_rfl) 38 (.func 38) #[.tmp 19] #[59] (by kernel_rfl) #[] (by kernel_rfl) #[hkV ⟨A,AN,B,BN,ls⟩ (.slice lo ls.length lc)] (by kernel_rfl) (enters_of Tryz.func38 (by kernel_rfl) rfl) _ (hold_held hv1 hl HO hHeld) ?_
   rintro vo w1 hHeld1 ⟨hvo,hBo⟩
   obtain⟨oo,oc,rfl⟩:=Holds.form hvo
   simp only[Act.put,List.setIfInBounds_toArray,List.set_cons_zero,List.set_cons_succ]
   refine go_callE 3 22 _ rfl (by kernel_rfl) (by kernel_rfl) (by kernel_rfl) 40 (.func 40) #[.tmp 21] #[59] (by kernel_rfl) #[] (by kernel_rfl) #[hkV ⟨A,AN,B,BN,ls⟩ (.slice lo ls.length lc)] (by kernel_rfl) (enters_of Tryz.func40 (by kernel_rfl) rfl) _ (hnew_held hv1 hl HN hHeld1) ?_
   rintro vn w2 hHeld ⟨hvn,hBn⟩
   obtain⟨no,nc,rfl⟩:=Holds.form hvn
   simp only[Act.put,List.setIfInBounds_toArray,List.set_cons_zero,List.set_cons_succ]
   refine go_take 4 3 _ (.slice oo RO.length oc) rfl (by kernel_rfl) (by kernel_rfl) (by kernel_rfl) (by kernel_rfl) (fun _ _ _ h=>h) (Or.inl ⟨by kernel_rfl,fun u hu=>by kernel_rfl⟩) hHeld ?_
   simp only[Act.put,List.setIfInBounds_toArray,List.set_cons_zero,List.set_cons_succ]
   refine go_take 5 4 _ (.slice no RN.length nc) rfl (by kernel_rfl) (by kernel_rfl) (by kernel_rfl) (by kernel_rfl) (fun _ _ _ h=>h) (Or.inl ⟨by kernel_rfl,fun u hu=>by kernel_rfl⟩) hHeld ?_
   simp only[Act.put,List.setIfInBounds_toArray,List.set_cons_zero,List.set_cons_succ]
   refine wpAnyH_done (by kernel_rfl) ?_ _
   refine NoPanic.normal ?_
   go_wp2_with fail
   go_meet
   case rel=>exact⟨_,_,_,_,rfl,rfl,HS.keep hvo hBn (Nat.le_refl _),hvn,hHeld⟩
  case rest =>
   obtain⟨oo,oc,no,nc,rfl,rfl,hvo,hvn,hBz⟩:=hcut
   have hB2:=hBl.trans (hBz.mono hBl.size)
   obtain⟨y0,y1,y2,y3,y4⟩:=(hxx _ hBz).cells
   dsimp only at y0 y1 y2 y3 y4
   have hv2:=HMk.keep hv1 hBz (Nat.le_refl _)
   generalize wc=w2 at *
   clear x0 x1 x2 x3 x4
   obtain⟨s,hs⟩:∃ s,allB ls=s:=⟨_,rfl⟩
   have HS1:Hid (ls.any (fun m=>!okS m.sg)=!s):=(by show _=_;rw[any_strange,hs])
   have HF2:Hid (fldB ls=(s && checkB RO && checkB RN)):=(by have h:=HF.out;rw[hs] at h;exact h)
   clear HF hs
   go_wp2_with fail
   refine (hContains_f 61 ls (fun m=>!okS m.sg) _ w2 hv2 hl (enters_of Tryz.func61 (by kernel_rfl) rfl) (fun m _ u=>hstrange_f m u) (!s) HS1).mono ?_
   rintro e w3 ⟨rfl,hB3⟩
   have hx3:=(hxx _ hBz).low hB3
   have hvo3:=HS.keep hvo hB3 (Nat.le_refl _)
   have hvn3:=HS.keep hvn hB3 (Nat.le_refl _)
   have hv3:=HMk.keep hv2 hB3 (Nat.le_refl _)
   have hB4:=hB2.trans (hB3.mono hB2.size)
   obtain⟨z0,z1,z2,z3,z4⟩:=hx3.cells
   dsimp only at z0 z1 z2 z3 z4
   clear y0 y1 y2 y3 y4 HS1
   cases s with
   | false =>
    have HE:Hid (6=r):=(by show _=_;rw[← HR.out,chk_fld HG.out (by rw[HF2.out];rfl)])
    clear HR HG HF2
    go_wp2
    go_ret
    exact⟨by rw[← HE.out];rfl,hB4⟩
   | true =>
   obtain⟨q1,hq1⟩:∃ q,checkB RO=q:=⟨_,rfl⟩
   obtain⟨q2,hq2⟩:∃ q,checkB RN=q:=⟨_,rfl⟩
   have HQ1:Hid (checkB RO=q1):=hq1
   have HQ2:Hid (checkB RN=q2):=hq2
   have HF3:Hid (fldB ls=(q1 && q2)):=(by have h:=HF2.out;rw[hq1,hq2,Bool.true_and] at h;exact h)
   clear HF2 hq1 hq2
   cases q1 with
   | false =>
    have HE:Hid (6=r):=(by show _=_;rw[← HR.out,chk_fld HG.out (by rw[HF3.out];rfl)])
    clear HR HG HF3
    go_wp2_with fail
    refine (hlCheck_f _ RO w3 hROl HROm.out hvo3 false HQ1 6 rfl).mono ?_
    rintro e w4 ⟨rfl,rfl⟩
    go_wp2
    go_ret
    exact⟨by rw[← HE.out];rfl,hB4⟩
   | true =>
   go_wp2_with fail
   refine (hlCheck_f _ RO w3 hROl HROm.out hvo3 true HQ1 0 rfl).mono ?_
   rintro e w4 ⟨rfl,rfl⟩
   cases q2 with
   | false =>
    have HE:Hid (6=r):=(by show _=_;rw[← HR.out,chk_fld HG.out (by rw[HF3.out];rfl)])
    clear HR HG HF3
    go_wp2_with fail
    refine (hlCheck_f _ RN w3 hRNl HRNm.out hvn3 false HQ2 6 rfl).mono ?_
    rintro e w4 ⟨rfl,rfl⟩
    go_wp2
    go_ret
    exact⟨by rw[← HE.out];rfl,hB4⟩
   | true =>
   go_wp2_with fail
   refine (hlCheck_f _ RN w3 hRNl HRNm.out hvn3 true HQ2 0 rfl).mono ?_
   rintro e w4 ⟨rfl,rfl⟩
   have HFT:Hid (fldB ls=true):=(by have h:=HF3.out;exact h)
   clear HF3 HQ1 HQ2
   by_cases ha:(RO.length:Int)=AN
   ·have ea:((RO.length:Int) != AN)=false:=by simpa using ha
    by_cases hb:(RN.length:Int)=BN
    ·have eb:((RN.length:Int) != BN)=false:=by simpa using hb
     obtain⟨q,hq⟩:∃ q,ls.any chgB=q:=⟨_,rfl⟩
     have HQ:Hid (ls.any chgB=q):=hq
     have HE:Hid ((if q=true then 0 else 50)=r):=(by
      show _=_
      rw[← HR.out,chk_end (h:=⟨A,AN,B,BN,ls⟩) HG.out HFT.out (by rw[HO.out,ha]) (by rw[HN.out,hb]) hq])
     clear HR HG HFT hq ha hb
     go_wp2_with fail
     refine (hContains_f 63 ls chgB _ w3 hv3 hl (enters_of Tryz.func63 (by kernel_rfl) rfl) (fun m _ u=>hchanged_f m u) q HQ).mono ?_
     rintro e w5 ⟨rfl,hB5⟩
     have hB6:=hB4.trans (hB5.mono hB4.size)
     cases q with
     | false =>
      go_wp2
      go_ret
      exact⟨by rw[← HE.out];rfl,hB6⟩
     | true =>
      go_wp2
      go_ret
      exact⟨by rw[← HE.out];rfl,hB6⟩
    ·have eb:((RN.length:Int) != BN)=true:=by simpa using hb
     have HE:Hid (120=r):=(by
      show _=_
      rw[← HR.out,chk_cnt (h:=⟨A,AN,B,BN,ls⟩) HG.out HFT.out (.inr (by rw[HN.out];exact fun k=>hb k.symm))])
     clear HR HG HFT ha hb
     go_wp2
     go_ret
     exact⟨by rw[← HE.out];rfl,hB4⟩
   ·have ea:((RO.length:Int) != AN)=true:=by simpa using ha
    have HE:Hid (120=r):=(by
     show _=_
     rw[← HR.out,chk_cnt (h:=⟨A,AN,B,BN,ls⟩) HG.out HFT.out (.inl (by rw[HO.out];exact fun k=>ha k.symm))])
    clear HR HG HFT ha
    go_wp2
    go_ret
    exact⟨by rw[← HE.out];rfl,hB4⟩
end Go.Proofs.YtgiojkhmkeocfaaGreatDoor

/- The code's Order of layer 11, walked. -/
namespace Go.Proofs.YtgiojkhmkeocfaaGreatDoor
open Go.RowKit
theorem hOrder_f (p:List (Hk × Value)) (v:Value) (w:World) (hv:HHp w v p) (hok:HOk p) (r:Int) (HR:Hid (ordH (p.map (·.1))=r)):Calls Tryz.prog 47 #[v] w fun e w'=>e=.returned (.int .i64 r)∧Below w.heap.size w w':=by
 obtain⟨vo,vc,rfl⟩:=Holds.form hv.row
 have hpl:p.length≤1099511627776:=hok.1
 have HOK:Hid (HOk p):=hok
 obtain⟨l,hl⟩:∃ l,p.map (·.1)=l:=⟨_,rfl⟩
 have hll:p.length=l.length:=by rw[← hl];simp
 have HL:Hid (p.map (·.1)=l):=hl
 have HLL:Hid (p.length=l.length):=hll
 rw[hl] at HR
 clear hl hll hok
 go_enter Tryz.func47,Tryz.ntmps47
 go_wp2
 go_loopw [14] (fun iv wr=>∃ (k:Nat),k≤p.length∧iv=.int .i64 (k:Int)∧Below w.heap.size w wr∧Hid (errs l=errs (l.drop k))) (fun iv _=>p.length-(intOf iv).toNat)
 case atStart=>exact⟨0,Nat.zero_le _,by go_num,Below.refl _ _,rfl⟩
 case round =>
  obtain⟨k,hk,rfl,hB,HI⟩:=hrel
  by_cases hlt:k<p.length
  ·obtain⟨b,off,rfl,hb,_⟩:=hv.at (by omega)
   obtain⟨x,y,hxy⟩:∃ x y,p[k]=(x,y):=⟨_,_,rfl⟩
   obtain⟨⟨c0,c1,c2,c3,c4⟩,hm⟩:=hv.take hB k hlt hxy
   have hmem:(x,y)∈p:=by rw[← hxy];exact List.getElem_mem hlt
   have hbd:=HOK.out.2 _ hmem
   have hlk:l[k]'(by have:=HLL.out;omega)=x:=by
    have hz:l[k]?=some x:=by rw[← HL.out];simp[hlt,hxy]
    exact (List.getElem?_eq_some_iff.1 hz).2
   have HI2:Hid (errs l=if chkH x≠0 then chkH x else errs (l.drop (k+1))):=(by
    show _=_
    rw[HI.out,errs_drop (by have:=HLL.out;omega),hlk])
   obtain⟨yo,yc,rfl⟩:=hm.form
   have i1:0≤(k:Int):=by omega
   have i2:(k:Int)<(p.length:Int):=by omega
   obtain⟨z,hz⟩:∃ z,chkH x=z:=⟨_,rfl⟩
   have HZ:Hid (chkH x=z):=hz
   have hBx:Below wr.heap.size wr (wr.alloc (hkO x (.slice yo x.ls.length yc))):=(Below.refl _ wr).alloc (Nat.le_refl _) _
   have hm1:=HMk.keep hm hBx (Nat.le_refl _)
   have hB1:=hB.trans (hBx.mono hB.size)
   obtain⟨x0,x1,x2,x3,x4⟩:=(Hx.new wr x (.slice yo x.ls.length yc)).cells
   have hW:wr.alloc (Obj.cells #[Value.int IntKind.i64 x.A,Value.int IntKind.i64 x.AN,Value.int IntKind.i64 x.B,Value.int IntKind.i64 x.BN,.slice yo x.ls.length yc] 59)=wr.alloc (hkO x (.slice yo x.ls.length yc)):=rfl
   clear HI hlk hz hxy hmem
   generalize wr.alloc (hkO x (.slice yo x.ls.length yc))=w1 at *
   go_wp2_with fail
   refine (hCheck_f x _ _ hm1 hbd.1 hbd.2 z HZ).mono ?_
   rintro e w2 ⟨rfl,hB2⟩
   have hB02:=hB1.trans (hB2.mono hB1.size)
   by_cases hz0:z=0
   ·subst hz0
    have HI3:Hid (errs l=errs (l.drop (k+1))):=(by
     show _=_
     rw[HI2.out,HZ.out]
     simp)
    clear HI2 HZ
    go_wp2
    exact⟨⟨k+1,by omega,by go_num,hB02,HI3⟩,by simp[intOf];omega⟩
   ·have hz1:(z != 0)=true:=by simpa using hz0
    have HE:Hid (r=z):=(by
     have h1:errs l=z:=by rw[HI2.out,HZ.out,if_pos hz0]
     show _=_
     rw[← HR.out]
     exact ord_err h1 hz0)
    clear HI2 HZ HR
    go_wp2
    go_ret
    exact⟨ret_int HE.out.symm,hB02⟩
  ·have HE0:Hid (errs l=0):=(by
    show _=_
    rw[HI.out,List.drop_of_length_le (by have:=HLL.out;omega)]
    rfl)
   have HE:Hid ((if ordB 0 0 l=true then (0:Int) else 121)=r):=(by
    show _=_
    rw[← HR.out]
    exact (ord_ok HE0.out).symm)
   have hend:decide ((k:Int)<(p.length:Int))=false:=decide_eq_false (by omega)
   clear HI HR
   go_wp2
   go_loopw [6,7,26] (fun uv vv iv wr=>∃ (k:Nat) (u v:Int),k≤p.length∧uv=.int .i64 u∧vv=.int .i64 v∧iv=.int .i64 (k:Int)∧(-1≤u∧u≤8589934592)∧(-1≤v∧v≤8589934592)∧Below w.heap.size w wr∧Hid ((if ordB u v (l.drop k)=true then (0:Int) else 121)=r)) (fun _ _ iv _=>p.length-(intOf iv).toNat)
   case atStart=>exact⟨0,0,0,Nat.zero_le _,by go_num,by go_num,by go_num,by omega,by omega,hB,HE⟩
   case round =>
    obtain⟨k,u,v,hk,rfl,rfl,rfl,hu,hv',hB,HI⟩:=hrel
    by_cases hlt:k<p.length
    ·obtain⟨b,off,rfl,hb,_⟩:=hv.at (by omega)
     obtain⟨x,y,hxy⟩:∃ x y,p[k]=(x,y):=⟨_,_,rfl⟩
     obtain⟨⟨c0,c1,c2,c3,c4⟩,hm⟩:=hv.take hB k hlt hxy
     have hlk:l[k]'(by have:=HLL.out;omega)=x:=by
      have hz:l[k]?=some x:=by rw[← HL.out];simp[hlt,hxy]
      exact (List.getElem?_eq_some_iff.1 hz).2
     have hck:chkH x=0:=errs_ok HE0.out x (by rw[← hlk];exact List.getElem_mem _)
     have hn:=chk_num hck
     obtain⟨X,hX⟩:∃ X,atA x=X:=⟨_,rfl⟩
     obtain⟨Y,hY⟩:∃ Y,atB x=Y:=⟨_,rfl⟩
     have ha:=at_num hck
     rw[hX,hY] at ha
     have HX:Hid ((if 0<x.AN then x.A-1 else x.A)=X):=hX
     have HY:Hid ((if 0<x.BN then x.B-1 else x.B)=Y):=hY
     obtain⟨yo,yc,rfl⟩:=hm.form
     have i1:0≤(k:Int):=by omega
     have i2:(k:Int)<(p.length:Int):=by omega
     have HI2:Hid ((if (decide (u≤X) && decide (X-u=Y-v) && ordB (X+x.AN) (Y+x.BN) (l.drop (k+1)))=true then (0:Int) else 121)=r):=(by
      show _=_
      have e:ordB u v (x::l.drop (k+1))=(decide (u≤X) && decide (X-u=Y-v) && ordB (X+x.AN) (Y+x.BN) (l.drop (k+1))):=by
       simp only[ordB]
       rw[hX,hY]
      rw[← HI.out,List.drop_eq_getElem_cons (l:=l) (i:=k) (by have:=HLL.out;omega),hlk,e])
     have hBx:Below wr.heap.size wr (wr.alloc (hkO x (.slice yo x.ls.length yc))):=(Below.refl _ wr).alloc (Nat.le_refl _) _
     have hB1:=hB.trans (hBx.mono hB.size)
     have hx1:=Hx.new wr x (.slice yo x.ls.length yc)
     have hW:wr.alloc (Obj.cells #[Value.int IntKind.i64 x.A,Value.int IntKind.i64 x.AN,Value.int IntKind.i64 x.B,Value.int IntKind.i64 x.BN,.slice yo x.ls.length yc] 59)=wr.alloc (hkO x (.slice yo x.ls.length yc)):=rfl
     clear HI hlk hck hxy hX hY HE
     generalize wr.alloc (hkO x (.slice yo x.ls.length yc))=w1 at *
     go_upto_region 12 with fail
     clear hW c0 c1 c2 c3 c4
     generalize hBX:wr.heap.size=BX at *
     have hxx:∀ u:World,Low w1 u→Hx u BX x (.slice yo x.ls.length yc):=fun u hu=>hx1.low hu
     have hlow:Low w1 (w1.drewN 1):=Below.dN (Below.refl _ w1) 1
     refine wp_region_noPanic ?_
     refine wp_region_held_drew (S:=fun u=>Low w1 u) (by kernel_rfl) hlow (fun hHeld=>?_)
     refine go_take 0 30 _ (.pointer (some ⟨BX,0,none⟩)) rfl (by kernel_rfl) (by kernel_rfl) (by kernel_rfl) (by kernel_rfl) (fun _ _ _ h=>h) (Or.inl ⟨by kernel_rfl,fun u hu=>by kernel_rfl⟩) hHeld ?_
     simp only[Act.put,List.setIfInBounds_toArray,List.set_cons_zero,List.set_cons_succ]
     refine go_take 1 31 _ (.int .i64 x.A) rfl (by kernel_rfl) (by kernel_rfl) (by kernel_rfl) (by kernel_rfl) (fun _ _ _ h=>h) (Or.inl ⟨by kernel_rfl,fun u hu=>load_int (hxx u hu).cells.1 (.tmp 30) (by kernel_rfl) (by kernel_rfl)⟩) hHeld ?_
     simp only[Act.put,List.setIfInBounds_toArray,List.set_cons_zero,List.set_cons_succ]
     refine go_take 2 32 _ (.pointer (some ⟨BX,1,none⟩)) rfl (by kernel_rfl) (by kernel_rfl) (by kernel_rfl) (by kernel_rfl) (fun _ _ _ h=>h) (Or.inl ⟨by kernel_rfl,fun u hu=>by kernel_rfl⟩) hHeld ?_
     simp only[Act.put,List.setIfInBounds_toArray,List.set_cons_zero,List.set_cons_succ]
     refine go_take 3 33 _ (.int .i64 x.AN) rfl (by kernel_rfl) (by kernel_rfl) (by kernel_rfl) (by kernel_rfl) (fun _ _ _ h=>h) (Or.inl ⟨by kernel_rfl,fun u hu=>load_int (hxx u hu).cells.2.1 (.tmp 32) (by kernel_rfl) (by kernel_rfl)⟩) hHeld ?_
     simp only[Act.put,List.setIfInBounds_toArray,List.set_cons_zero,List.set_cons_succ]
     refine go_take 5 35 _ (.pointer (some ⟨BX,2,none⟩)) rfl (by kernel_rfl) (by kernel_rfl) (by kernel_rfl) (by kernel_rfl) (fun _ _ _ h=>h) (Or.inl ⟨by kernel_rfl,fun u hu=>by kernel_rfl⟩) hHeld ?_
     simp only[Act.put,List.setIfInBounds_toArray,List.set_cons_zero,List.set_cons_succ]
     refine go_take 6 36 _ (.int .i64 x.B) rfl (by kernel_rfl) (by kernel_rfl) (by kernel_rfl) (by kernel_rfl) (fun _ _ _ h=>h) (Or.inl ⟨by kernel_rfl,fun u hu=>load_int (hxx u hu).cells.2.2.1 (.tmp 35) (by kernel_rfl) (by kernel_rfl)⟩) hHeld ?_
     simp only[Act.put,List.setIfInBounds_toArray,List.set_cons_zero,List.set_cons_succ]
     refine go_take 7 37 _ (.pointer (some ⟨BX,3,none⟩)) rfl (by kernel_rfl) (by kernel_rfl) (by kernel_rfl) (by kernel_rfl) (fun _ _ _ h=>h) (Or.inl ⟨by kernel_rfl,fun u hu=>by kernel_rfl⟩) hHeld ?_
     simp only[Act.put,List.setIfInBounds_toArray,List.set_cons_zero,List.set_cons_succ]
     refine go_take 8 38 _ (.int .i64 x.BN) rfl (by kernel_rfl) (by kernel_rfl) (by kernel_rfl) (by kernel_rfl) (fun _ _ _ h=>h) (Or.inl ⟨by kernel_rfl,fun u hu=>load_int (hxx u hu).cells.2.2.2.1 (.tmp 37) (by kernel_rfl) (by kernel_rfl)⟩) hHeld ?_
     simp only[Act.put,List.setIfInBounds_toArray,List.set_cons_zero,List.set_cons_succ]
     refine go_callH 4 34 _ rfl (by kernel_rfl) (by kernel_rfl) (by kernel_rfl) 49 #[.tmp 31,.tmp 33] #[3,3] (by kernel_rfl) #[.int .i64 x.A,.int .i64 x.AN] (by kernel_rfl) (enters_of Tryz.func49 (by kernel_rfl) rfl) (.int .i64 X) ((hplaceOf_f x.A x.AN _ (by omega) (by omega) X HX).mono (fun _ _ h=>⟨h.1,by rw[h.2];exact hHeld⟩)) ?_
     intro w1 hHeld
     simp only[Act.put,List.setIfInBounds_toArray,List.set_cons_zero,List.set_cons_succ]
     refine go_callH 9 39 _ rfl (by kernel_rfl) (by kernel_rfl) (by kernel_rfl) 49 #[.tmp 36,.tmp 38] #[3,3] (by kernel_rfl) #[.int .i64 x.B,.int .i64 x.BN] (by kernel_rfl) (enters_of Tryz.func49 (by kernel_rfl) rfl) (.int .i64 Y) ((hplaceOf_f x.B x.BN _ (by omega) (by omega) Y HY).mono (fun _ _ h=>⟨h.1,by rw[h.2];exact hHeld⟩)) ?_
     intro w2 hHeld
     simp only[Act.put,List.setIfInBounds_toArray,List.set_cons_zero,List.set_cons_succ]
     refine go_take 10 10 _ (.int .i64 X) rfl (by kernel_rfl) (by kernel_rfl) (by kernel_rfl) (by kernel_rfl) (fun _ _ _ h=>h) (Or.inl ⟨by kernel_rfl,fun u hu=>by kernel_rfl⟩) hHeld ?_
     simp only[Act.put,List.setIfInBounds_toArray,List.set_cons_zero,List.set_cons_succ]
     refine go_take 11 11 _ (.int .i64 Y) rfl (by kernel_rfl) (by kernel_rfl) (by kernel_rfl) (by kernel_rfl) (fun _ _ _ h=>h) (Or.inl ⟨by kernel_rfl,fun u hu=>by kernel_rfl⟩) hHeld ?_
     simp only[Act.put,List.setIfInBounds_toArray,List.set_cons_zero,List.set_cons_succ]
     refine wpAnyH_done (by kernel_rfl) ?_ _
     refine NoPanic.normal ?_
     obtain⟨d0,d1,d2,d3,d4⟩:=(hxx w2 hHeld).cells
     have hB01:=hB1.trans (Below.mono hHeld hB1.size)
     generalize w2=w4 at *
     by_cases h1:X<u
     ·have HE3:Hid (r=121):=(by
       show _=_
       rw[← HI2.out]
       simp[show ¬ u≤X by omega])
      clear HI2 HX HY
      go_wp2
      go_ret
      exact⟨ret_int HE3.out.symm,hB01⟩
     ·have h1':decide (X<u)=false:=decide_eq_false h1
      by_cases h2:X-u=Y-v
      ·have h2':(X-u != Y-v)=false:=by simpa using h2
       have HI3:Hid ((if ordB (X+x.AN) (Y+x.BN) (l.drop (k+1))=true then (0:Int) else 121)=r):=(by
        show _=_
        rw[← HI2.out]
        simp[show u≤X by omega,h2])
       clear HI2 HX HY h2
       go_upto_region 15 with fail
       go_quiet (fail)
       go_wp2
       exact⟨⟨k+1,X+x.AN,Y+x.BN,by omega,by go_num,by go_num,by go_num,by omega,by omega,Below.dN hB01 _,HI3⟩,by simp[intOf];omega⟩
      ·have h2':(X-u != Y-v)=true:=by simpa using h2
       have HE3:Hid (r=121):=(by
        show _=_
        rw[← HI2.out]
        simp[h2])
       clear HI2 HX HY h2
       go_wp2
       go_ret
       exact⟨ret_int HE3.out.symm,hB01⟩
    ·have HE3:Hid (r=0):=(by
      show _=_
      rw[← HI.out,List.drop_of_length_le (by have:=HLL.out;omega)]
      rfl)
     have hend2:decide ((k:Int)<(p.length:Int))=false:=decide_eq_false (by omega)
     clear HI HE
     go_wp2
     go_ret
     exact⟨ret_int HE3.out.symm,hB⟩
end Go.Proofs.YtgiojkhmkeocfaaGreatDoor

/- The laws' own works of layer 11, walked: the chapter's first case. -/
namespace Go.Proofs.YtgiojkhmkeocfaaGreatDoor
open Go.RowKit
end Go.Proofs.YtgiojkhmkeocfaaGreatDoor
