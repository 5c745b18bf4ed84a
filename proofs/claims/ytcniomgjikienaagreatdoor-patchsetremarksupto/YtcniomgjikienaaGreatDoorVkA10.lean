/-
  Texts that belong together, joined: CpL, CpM, CpN, CpO, CpP.
-/
import Derived.Test.YtcniomgjikienaaGreatDoorVkA9
import Derived.Defers
import Derived.Recover

set_option maxHeartbeats 16000000
set_option maxRecDepth 100000
namespace Go.Proofs.YtcniomgjikienaaGreatDoor

section
open Go.RowKit
theorem Zcw {k p:Nat} {L r:List (List UInt8)} {h:Hk} {p1:Nat} (hk:k≤4096) (hh:cxH k p (L.drop p)=.ok (h,p1,r)):r=L.drop p1∧p<p1∧p1≤L.length∧k<4096:=by
 rw[Zeg] at hh
 cases hs:starsP k p (L.drop p) with
 | error e=>rw[hs] at hh;cases hh
 | ok r0 =>
  obtain⟨rfl,hp⟩:=ZkC hs
  rw[hs] at hh
  dsimp only at hh
  have hk2:k<4096:=by
   unfold starsP at hs
   cases hn:nxt p (L.drop p) with
   | error x=>rw[hn] at hs;cases hs
   | ok z =>
    obtain⟨s,r1⟩:=z
    rw[hn] at hs
    dsimp only at hs
    split at hs
    ·split at hs
     ·cases hs
     ·omega
    ·cases hs
  cases h1:sidR 42 45 (p+1) (L.drop (p+1)) with
  | error e=>rw[h1] at hh;cases hh
  | ok z =>
   obtain⟨q1,o,p2,r2⟩:=z
   obtain⟨rfl,b1,_,b2,_⟩:=Zkg h1
   rw[h1] at hh
   dsimp only at hh
   cases h2:sidR 45 43 p2 (L.drop p2) with
   | error e=>rw[h2] at hh;cases hh
   | ok z =>
    obtain⟨q2,w,p4,r4⟩:=z
    obtain⟨rfl,c1,_,c2,_⟩:=Zkg h2
    rw[h2] at hh
    dsimp only at hh
    unfold finR at hh
    split at hh
    ·cases hh
    ·injection hh with hh
     injection hh with e1 e2
     injection e2 with e2 e3
     subst e2 e3
     exact⟨rfl,by omega,c1,hk2⟩
def thenX (l:List Hk) (X:Except (Nat × Int) (List Hk × Nat × List (List UInt8))):Except (Nat × Int) (List Hk × Nat × List (List UInt8)) :=
 match X with
 | .error e=>.error e
 | .ok (m,p,r)=>.ok (l++m,p,r)
theorem ZkO (X:Except (Nat × Int) (List Hk × Nat × List (List UInt8))):thenX [] X=X:=by
 rcases X with e | ⟨l,p,r⟩<;>rfl
def conH (f k p:Nat) (r:List (List UInt8)):Except (Nat × Int) (List Hk × Nat × List (List UInt8)):=if pkS r=true then cxHs f k p r else .ok ([],p,r)
theorem Zcy (f k p:Nat) (ls:List (List UInt8)) (l:List Hk):thenX l (cxHs (f+1) k p ls)=match cxH k p ls with
  | .error e=>.error e
  | .ok (h,p1,r)=>thenX (l++[h]) (conH f (k+1) p1 r):=by
 simp only[cxHs]
 cases cxH k p ls with
 | error e=>rfl
 | ok z =>
  obtain⟨h,p1,r⟩:=z
  dsimp only
  unfold conH
  split
  ·cases cxHs f (k+1) p1 r with
   | error e=>rfl
   | ok z=>simp[thenX]
  ·simp[thenX]
def lefH (P:List (Hk × Value)) (f p:Nat) (r:List (List UInt8)):Except (Nat × Int) (List Hk × Nat × List (List UInt8)):=thenX (P.map (·.1)) (if P=[] then cxHs f 0 p r else conH f P.length p r)
def patP (k p:Nat) (ls:List (List UInt8)):Except (Nat × Int) (Pth × Nat × List (List UInt8)) :=
 match namP [42,42,42,32] p ls with
 | .error e=>.error e
 | .ok (n1,r1)=>if 64≤k then .error (p+1,9) else match namP [45,45,45,32] (p+1) r1 with
  | .error e=>.error e
  | .ok (n2,r2)=>match cxHs (r2.length+1) 0 (p+2) r2 with
   | .error e=>.error e
   | .ok (hs,p3,r3)=>.ok (⟨n1,n2,hs⟩,p3,r3)
theorem Zcz (f k p:Nat) (ls:List (List UInt8)):cxPs (f+1) k p ls=if ls=[] then .ok [] else match patP k p ls with
  | .error e=>.error e
  | .ok (x,p3,r3)=>match cxPs f (k+1) p3 r3 with
   | .error e=>.error e
   | .ok l=>.ok (x::l):=by
 simp only[cxPs]
 split
 ·rfl
 ·unfold patP
  cases namP [42,42,42,32] p ls with
  | error e=>rfl
  | ok z =>
   obtain⟨n1,r1⟩:=z
   dsimp only
   split
   ·rfl
   ·cases namP [45,45,45,32] (p+1) r1 with
    | error e=>rfl
    | ok z =>
     obtain⟨n2,r2⟩:=z
     dsimp only
     cases cxHs (r2.length+1) 0 (p+2) r2 with
     | error e=>rfl
     | ok z=>rfl
theorem ZgG {hd:List UInt8} {p:Nat} {L r:List (List UInt8)} {n:List UInt8} (h:namP hd p (L.drop p)=.ok (n,r)):r=L.drop (p+1)∧p<L.length:=by
 unfold namP at h
 cases hn:nxt p (L.drop p) with
 | error x=>rw[hn] at h;cases h
 | ok z =>
  obtain⟨s,r0⟩:=z
  rw[hn] at h
  obtain⟨h1,h2,_⟩:=Zhr hn
  dsimp only at h
  split at h
  ·split at h
   ·cases h
   ·injection h with h
    injection h with e1 e2
    exact⟨by rw[← e2,h1],h2⟩
  ·cases h
structure Pzc (wb:World) (R S:Nat) (vL:Value) (n1 n2:List UInt8) (hv:Value) (P:List (Hk × Value)) (p:Nat) (u:World):Prop where
 gr:wb.grownBy u (some R)
 box:u.heap[S]?=some (.cells #[.string ⟨n1.toArray⟩,.string ⟨n2.toArray⟩,hv] 42)
 own:u.ownsRow wb.heap.size 45 5 hv P.length (hkcells P)
 ins:∀ x∈P,u.ownsRow wb.heap.size 47 2 x.2 x.1.ls.length (mkcells x.1.ls)
 ck:Ck u R vL (p:Int)
 ge:wb.heap.size≤S
 rl:R<wb.heap.size
section
variable {wb u u':World} {R S:Nat} {vL hv:Value} {n1 n2:List UInt8} {P:List (Hk × Value)} {p p':Nat}
theorem Pzc.keep (h:Pzc wb R S vL n1 n2 hv P p u) (hb:Below u.heap.size u u'):Pzc wb R S vL n1 n2 hv P p u':=⟨ZdT h.gr (ZfO hb _),(hb.block S (Array.getElem?_eq_some_iff.1 h.box).1).trans h.box,ZhK h.own hb,fun x hx=>ZhK (h.ins x hx) hb,h.ck.low hb,h.ge,h.rl⟩
theorem Pzc.ne (h:Pzc wb R S vL n1 n2 hv P p u):R≠S:=by have h1:=h.ge;have h2:=h.rl;omega
theorem Pzc.call (h:Pzc wb R S vL n1 n2 hv P p u) (hg:u.grownBy u' (some R)) (q:Ck u' R vL (p':Int)):Pzc wb R S vL n1 n2 hv P p' u':=⟨ZdT h.gr hg,(hg.block S (Array.getElem?_eq_some_iff.1 h.box).1 (fun e=>h.ne (Option.some.inj e).symm)).trans h.box,ZhI h.own hg h.rl,fun x hx=>ZhI (h.ins x hx) hg h.rl,q,h.ge,h.rl⟩
theorem Pzc.next (h:Pzc wb R S vL n1 n2 hv P p u):Pzc wb R S vL n1 n2 hv P (p+1) (u.setCell ⟨R,1,none⟩ (.int .i64 ((p:Int)+1))):=h.call (ZdS u R 1 _) (by have:=h.ck.at ((p:Int)+1);simpa using this)
theorem Pzc.cells (h:Pzc wb R S vL n1 n2 hv P p u):u.cell? ⟨S,0,none⟩=some (.string ⟨n1.toArray⟩)∧u.cell? ⟨S,1,none⟩=some (.string ⟨n2.toArray⟩)∧u.cell? ⟨S,2,none⟩=some hv:=by
 refine⟨?_,?_,?_⟩<;>rw[Lib.cell_of_heap h.box]<;>rfl
theorem Pzc.frozen (h:Pzc wb R S vL n1 n2 hv P p u) (j:Nat):u.frozen? ⟨S,j,none⟩=false:=Lib.frozen_of_heap h.box j
theorem Pzc.put (h:Pzc wb R S vL n1 n2 hv P p u) (j:Nat) (z:Value) {m1 m2:List UInt8} {hv':Value} (hc:#[Value.string ⟨n1.toArray⟩,.string ⟨n2.toArray⟩,hv].setIfInBounds j z=#[.string ⟨m1.toArray⟩,.string ⟨m2.toArray⟩,hv']) (ho:u.ownsRow wb.heap.size 45 5 hv' P.length (hkcells P)):Pzc wb R S vL m1 m2 hv' P p (u.setCell ⟨S,j,none⟩ z):=by
 have hg:=ZdS u S j z
 refine⟨ZdR h.gr h.ge j z,?_,ho.kept hg (.inr (ZhE ho h.box (by decide))),fun x hx=>(h.ins x hx).kept hg (.inr (ZhE (h.ins x hx) h.box (by decide))),h.ck.keep hg (fun e=>h.ne (Option.some.inj e)),h.ge,h.rl⟩
 have:=heap_setCell_same u S j _ _ z h.box
 rw[hc] at this
 exact this
theorem Pzc.more (h:Pzc wb R S vL n1 n2 hv P p u) {x:Hk} {y hv':Value} (hy:u.ownsRow wb.heap.size 47 2 y x.ls.length (mkcells x.ls)) (hg:u.grownBy u' hv.ownBlock) (ho:u'.ownsRow wb.heap.size 45 5 hv' (P.length+1) (hkcells P++hkC x y)) :
  Pzc wb R S vL n1 n2 hv' (P++[(x,y)]) p (u'.setCell ⟨S,2,none⟩ hv')∧u'.cell? ⟨S,2,none⟩=some hv∧u'.frozen? ⟨S,2,none⟩=false:=by
 have hge:∀ j,hv.ownBlock=some j→wb.heap.size≤j:=fun j hj=>ZhJ h.own hj
 have hb:u'.heap[S]?=some (.cells #[.string ⟨n1.toArray⟩,.string ⟨n2.toArray⟩,hv] 42):=(hg.block S (Array.getElem?_eq_some_iff.1 h.box).1 (fun e=>ZhE h.own h.box (by decide) e.symm)).trans h.box
 have hgR:wb.grownBy u' (some R):=⟨hg.os.trans h.gr.os,hg.tape.trans h.gr.tape,hg.output.trans h.gr.output,Nat.le_trans h.gr.size hg.size,fun k h1 h2=>(hg.block k (Nat.lt_of_lt_of_le h1 h.gr.size) (fun e=>by have:=hge k e.symm;omega)).trans (h.gr.block k h1 h2)⟩
 have hck:Ck u' R vL (p:Int):=h.ck.keep hg (fun e=>by have:=hge R e.symm;have:=h.rl;omega)
 have key:∀ {v:Value} {n:Nat} {xs:List Value},u.ownsRow wb.heap.size 47 2 v n xs→u'.ownsRow wb.heap.size 47 2 v n xs:=by
  intro v n xs hv2
  refine⟨hv2.1,?_⟩
  rcases hv2.2 with q | ⟨b,cap,cur,rfl,q2,q3,q4⟩
  ·exact .inl q
  ·refine .inr ⟨b,cap,cur,rfl,q2,?_,q4⟩
   rw[hg.block b (Array.getElem?_eq_some_iff.1 q3).1 (fun e=>ZhE h.own q3 (by decide) e.symm)]
   exact q3
 have hg2:=ZdS u' S 2 hv'
 have hkc:hkcells (P++[(x,y)])=hkcells P++hkC x y:=by rw[Zeh];simp[hkcells,hkC]
 refine⟨⟨ZdR hgR h.ge 2 hv',heap_setCell_same u' S 2 _ _ hv' hb,?_,?_,hck.keep hg2 (fun e=>h.ne (Option.some.inj e)),h.ge,h.rl⟩,by rw[Lib.cell_of_heap hb];rfl,Lib.frozen_of_heap hb 2⟩
 ·rw[List.length_append,hkc]
  exact ho.kept hg2 (.inr (ZhE ho hb (by decide)))
 ·intro z hz
  rcases List.mem_append.1 hz with hz | hz
  ·exact (key (h.ins z hz)).kept hg2 (.inr (ZhE (key (h.ins z hz)) hb (by decide)))
  ·rw[List.mem_singleton.1 hz]
   exact (key hy).kept hg2 (.inr (ZhE (key hy) hb (by decide)))
end
end

section
open Go.RowKit
theorem ZaY {P:Program} {A:Act} {op:Oper} {w:World} {F:Nat} {x:Operand} {xs:Array Operand} {ts:Array TypeId} (ho:op.op=.call { callee:=.value x,args:=xs,argTypes:=ts }) {cap:Array Value} (hxv:A.eval x=.func (.func F) #[] cap) {args:Array Value} (hx:xs.map A.eval=args) (hen:∀ args w,(callFunc F args).run P w=.ok (.enter F args) w):(execOp A.eval op).run P w=.ok (.enter F (args++cap)) w:=by
 have h1:=hen (args++cap) w
 simp only[execOp,ho,resolve,invoke]
 simp only[hxv,Deferred.ofValue,Sem.run_bind,Sem.run_pure,Result.andThen_ok,hx,Array.empty_append]
 exact h1
theorem ZdF {P:Program} {S:World→Prop} {md:Region.Mode} {ops:Array Oper} {Q:Exit→Act→World→Prop} {fuel:Nat} {listed:Array Bool} {A:Act} {w:World}
  (i d:Nat) (op:Oper) (hi:ops[i]?=some op) (hd:op.dst=some d) (hr:Region.ready md ops listed=[i]) (hwt:Region.wanted op (yielded ops A.tmps)=true)
  (F:Nat) (x:Operand) (xs:Array Operand) (ts:Array TypeId) (ho:op.op=.call { callee:=.value x,args:=xs,argTypes:=ts })
  (cap:Array Value) (hxv:A.eval x=.func (.func F) #[] cap) (args:Array Value) (hx:xs.map A.eval=args) (hen:∀ args w,(callFunc F args).run P w=.ok (.enter F args) w) (R:Value→World→Prop) (Pn:List PanicEntry→World→Prop)
  (hp:∀ c w',Pn c w'→Q (.panic c) A w')
  (hc:Calls P F (args++cap) w fun e w'=>(∃ v,e=.returned v∧S w'∧R v w')∨(∃ c,e=.panicked c∧Pn c w'))
  (h:∀ v w',S w'→R v w'→wpAnyH P md ops Q S fuel (listed.setIfInBounds i true) (A.put (some d) v) w') :
  wpAnyH P md ops Q S (fuel+1) listed A w:=by
 refine wpAnyH_ready hr (by simp) (AllReadyH.cons hi (fun K hK=>?_) AllReadyH.nil)
 refine ZkF hwt ?_
 unfold Oper.wp
 rw[ZaY ho hxv hx hen,Oper.upon_enter]
 refine hc.mono ?_
 rintro e w' (⟨v,rfl,hb,hR⟩ | ⟨c,rfl,hpn⟩)
 ·exact hK.out _ _ hb (fun hu=>by rw[hd];exact h v w' hu hR)
 ·exact hp c w' hpn
theorem ZdM {P:Program} {S:World→Prop} {md:Region.Mode} {ops:Array Oper} {Q:Exit→Act→World→Prop} {fuel:Nat} {listed:Array Bool} {A:Act} {w:World}
  (j e:Nat) (oq:Oper) (i d:Nat) (op:Oper) (hj:ops[j]?=some oq) (he:oq.dst=some e) (hi:ops[i]?=some op) (hd:op.dst=some d) (hr:Region.ready md ops listed=[j,i]) (hwq:Region.wanted oq (yielded ops A.tmps)=true) (hwt:Region.wanted op (yielded ops A.tmps)=true)
  (vq:Value) (wq:World) (hq:(execOp A.eval oq).run P w=.ok (.value vq) wq) (hS:S wq)
  (F:Nat) (x:Operand) (xs:Array Operand) (ts:Array TypeId) (ho:op.op=.call { callee:=.value x,args:=xs,argTypes:=ts })
  (cap:Array Value) (hxv:A.eval x=.func (.func F) #[] cap) (args:Array Value) (hx:xs.map A.eval=args) (hen:∀ args w,(callFunc F args).run P w=.ok (.enter F args) w) (R:Value→World→Prop) (Pn:List PanicEntry→World→Prop)
  (hp:∀ c w',Pn c w'→Q (.panic c) A w')
  (hc:Calls P F (args++cap) w fun e w'=>(∃ v,e=.returned v∧S w'∧R v w')∨(∃ c,e=.panicked c∧Pn c w'))
  (h2:wpAnyH P md ops Q S fuel (listed.setIfInBounds j true) (A.put (some e) vq) wq)
  (h:∀ v w',S w'→R v w'→wpAnyH P md ops Q S fuel (listed.setIfInBounds i true) (A.put (some d) v) w') :
  wpAnyH P md ops Q S (fuel+1) listed A w:=by
 refine wpAnyH_ready hr (by simp) (AllReadyH.cons hj (fun K hK=>?_) (AllReadyH.cons hi (fun K hK=>?_) AllReadyH.nil))
 ·refine ZkF hwq ?_
  unfold Oper.wp
  rw[hq,Oper.upon_value]
  exact hK.out _ _ hS (fun _=>by rw[he];exact h2)
 ·refine ZkF hwt ?_
  unfold Oper.wp
  rw[ZaY ho hxv hx hen,Oper.upon_enter]
  refine hc.mono ?_
  rintro e w' (⟨v,rfl,hb,hR⟩ | ⟨c,rfl,hpn⟩)
  ·exact hK.out _ _ hb (fun hu=>by rw[hd];exact h v w' hu hR)
  ·exact hp c w' hpn
theorem ZfJ {u:World} {a:Addr} {o:Option Addr} {n c:Nat} (h:u.cell? a=some (.slice o n c)) {op:Oper} (x:Operand) (ho:op.op=.load 40 x) {ev:Operand→Value} (hx:ev x=.pointer (some a)) :
  (execOp ev op).run Tryz.prog u=.ok (.value (.slice o n c)) u:=by
 simp only[execOp,ho,hx]
 go_simp
theorem ZcZ {u:World} {a:Addr} {v0:Value} (hc:u.cell? a=some v0) (hf:u.frozen? a=false) {o:Option Addr} {n c:Nat} {op:Oper} (x y:Operand) (ho:op.op=.store 40 x y) {ev:Operand→Value} (hx:ev x=.pointer (some a)) (hy:ev y=.slice o n c) :
  (execOp ev op).run Tryz.prog u=.ok .skip (u.setCell a (.slice o n c)):=by
 simp only[execOp,ho,hx,hy]
 go_simp
def zpO:Obj:=.cells #[.string ⟨#[]⟩,.string ⟨#[]⟩,.slice none 0 0] 42
def mkP (n1 n2:List UInt8) (Y:Except (Nat × Int) (List Hk × Nat × List (List UInt8))):Except (Nat × Int) (Pth × Nat × List (List UInt8)) :=
 match Y with
 | .error e=>.error e
 | .ok (hs,p3,r3)=>.ok (⟨n1,n2,hs⟩,p3,r3)
theorem Zft {P:List (Hk × Value)} {f p:Nat} {r:List (List UInt8)} (h:(decide (P=[]) || pkS r)=true):lefH P (f+1) p r=match cxH P.length p r with
  | .error e=>.error e
  | .ok (x,p1,r1)=>thenX (P.map (·.1)++[x]) (conH f (P.length+1) p1 r1):=by
 unfold lefH
 by_cases hP:P=[]
 ·rw[if_pos hP,Zcy,hP]
  rfl
 ·rw[if_neg hP]
  have hk:pkS r=true:=by simpa [hP] using h
  unfold conH
  rw[if_pos hk,Zcy]
  rfl
theorem Zfv {P:List (Hk × Value)} {f p:Nat} {r:List (List UInt8)} (h:(decide (P=[]) || pkS r)=false):lefH P f p r=.ok (P.map (·.1),p,r):=by
 rw[Bool.or_eq_false_iff,decide_eq_false_iff_not] at h
 unfold lefH conH
 rw[if_neg h.1,if_neg (by rw[h.2];decide)]
 simp[thenX]
theorem Zfu {P:List (Hk × Value)} {f p:Nat} {r:List (List UInt8)} (x:Hk) (y:Value):lefH (P++[(x,y)]) f p r=thenX (P.map (·.1)++[x]) (conH f (P.length+1) p r):=by
 unfold lefH
 rw[if_neg (by simp),List.map_append,List.length_append]
 rfl
def PtX (R:Nat) (vL:Value) (X:Except (Nat × Int) (Pth × Nat × List (List UInt8))) (w:World) (e:Ending) (w':World):Prop :=
 match X with
 | .error (a,z)=>Thr (a:Int) z e w'∧w.grownBy w' (some R)
 | .ok (x,p1,_)=>∃ hv P,e=.returned (.agg #[.string ⟨x.old.toArray⟩,.string ⟨x.new.toArray⟩,hv])∧x.hs=P.map (·.1)∧w'.ownsRow w.heap.size 45 5 hv P.length (hkcells P)∧(∀ y∈P,w'.ownsRow w.heap.size 47 2 y.2 y.1.ls.length (mkcells y.1.ls))∧Ck w' R vL (p1:Int)∧w.grownBy w' (some R)
def three (u:World) (Q:Nat) (n1 n2:List UInt8) (v:Value):World:=((u.setCell ⟨Q,0,none⟩ (.string ⟨n1.toArray⟩)).setCell ⟨Q,1,none⟩ (.string ⟨n2.toArray⟩)).setCell ⟨Q,2,none⟩ v
theorem ZkP {w wb u:World} {R:Nat} (hg:wb.grownBy u (some R)) (hZ:wb.heap[w.heap.size]?=some zpO∧w.heap.size<wb.heap.size∧w.heap.size≠R) (Q:Nat) (hQ:w.heap.size=Q) :
  u.cell? ⟨Q,0,none⟩=some (.string ⟨#[]⟩)∧u.cell? ⟨Q,1,none⟩=some (.string ⟨#[]⟩)∧u.cell? ⟨Q,2,none⟩=some (.slice none 0 0)∧∀ j,u.frozen? ⟨Q,j,none⟩=false:=by
 obtain⟨h1,h2,h3⟩:=hZ
 have hb:u.heap[w.heap.size]?=some (.cells #[.string ⟨#[]⟩,.string ⟨#[]⟩,.slice none 0 0] 42):=(hg.block _ h2 (fun e=>h3 (Option.some.inj e))).trans h1
 rw[hQ] at hb
 refine⟨?_,?_,?_,fun j=>Lib.frozen_of_heap hb j⟩<;>rw[Lib.cell_of_heap hb]<;>rfl
theorem ZkQ {w wb u:World} {R S:Nat} {vL hv:Value} {n1 n2:List UInt8} {P:List (Hk × Value)} {p:Nat} (h:Pzc wb R S vL n1 n2 hv P p u) (hG:∀ u,wb.grownBy u (some R)→w.grownBy u (some R)) (hZ:wb.heap[w.heap.size]?=some zpO∧w.heap.size<wb.heap.size∧w.heap.size≠R) :
  (three u w.heap.size n1 n2 hv).heap[w.heap.size]?=some (.cells #[.string ⟨n1.toArray⟩,.string ⟨n2.toArray⟩,hv] 42)∧(three u w.heap.size n1 n2 hv).ownsRow w.heap.size 45 5 hv P.length (hkcells P)∧(∀ y∈P,(three u w.heap.size n1 n2 hv).ownsRow w.heap.size 47 2 y.2 y.1.ls.length (mkcells y.1.ls))∧Ck (three u w.heap.size n1 n2 hv) R vL (p:Int)∧w.grownBy (three u w.heap.size n1 n2 hv) (some R):=by
 obtain⟨h1,h2,h3⟩:=hZ
 have hb:u.heap[w.heap.size]?=some zpO:=(h.gr.block _ h2 (fun e=>h3 (Option.some.inj e))).trans h1
 have hg:u.grownBy (three u w.heap.size n1 n2 hv) (some w.heap.size):=ZdT (ZdT (ZdS u _ 0 _) (ZdS _ _ 1 _)) (ZdS _ _ 2 _)
 refine⟨?_,ZhC (ZhI h.own hg h2) (by omega),fun y hy=>ZhC (ZhI (h.ins y hy) hg h2) (by omega),h.ck.keep hg (fun e=>h3 (Option.some.inj e).symm),?_⟩
 ·have s0:=heap_setCell_same u w.heap.size 0 _ _ (.string ⟨n1.toArray⟩) hb
  have s1:=heap_setCell_same _ w.heap.size 1 _ _ (.string ⟨n2.toArray⟩) s0
  exact heap_setCell_same _ w.heap.size 2 _ _ hv s1
 ·exact ZdR (ZdR (ZdR (hG _ h.gr) (Nat.le_refl _) 0 _) (Nat.le_refl _) 1 _) (Nat.le_refl _) 2 _
theorem ZbW {R:Nat} {L:List (List UInt8)} {lo:Option Addr} {lc:Nat} {p k:Nat} (hk:k≤64) (w:World) (q:Ck w R (.slice lo L.length lc) p) (HL:Hid (∀ u,w.grownBy u (some R)→HS u (.slice lo L.length lc) L)) (HPl:Hid (Plain L)) (hp:p≤L.length) (hLl:L.length≤137438953472) (HSl:Hid (∀ s∈L,s.length≤1099511627776))
  (X:Except (Nat × Int) (Pth × Nat × List (List UInt8))) (HX:Hid (patP k p (L.drop p)=X)) :
  Calls Tryz.prog 175 #[.pointer (some ⟨R,0,none⟩),.int .i64 (k:Int)] w fun e w'=>PtX R (.slice lo L.length lc) X w e w':=by
 have HG:Hid (∀ u,(w.alloc zpO).grownBy u (some R)→w.grownBy u (some R)):=fun u hu=>ZdO _ hu
 have hRl:=q.lt
 have HX2:=HX.out
 have hRl1:R<(w.alloc zpO).heap.size:=(by simp;omega)
 have HZ:Hid ((w.alloc zpO).heap[w.heap.size]?=some zpO∧w.heap.size<(w.alloc zpO).heap.size∧w.heap.size≠R):=⟨heap_alloc_new w _,by simp,by omega⟩
 have hP0:Pzc (w.alloc zpO) R (w.heap.size+1) (.slice lo L.length lc) [] [] (.slice none 0 0) [] p ((w.alloc zpO).alloc zpO):=(by
  have hsz:(w.alloc zpO).heap.size=w.heap.size+1:=by simp
  refine⟨World.grownBy_alloc _ _ _,?_,Zen _ _ _ _,fun x hx=>(by cases hx),(q.low ((Below.refl _ w).alloc (Nat.le_refl _) _)).low ((Below.refl _ _).alloc (Nat.le_refl _) _),by omega,hRl1⟩
  rw[← hsz]
  exact heap_alloc_new _ _)
 have hW:(w.alloc (.cells #[.string ⟨#[]⟩,.string ⟨#[]⟩,.slice none 0 0] 42)).alloc (.cells #[.string ⟨#[]⟩,.string ⟨#[]⟩,.slice none 0 0] 42)=(w.alloc zpO).alloc zpO:=rfl
 obtain⟨Y,hY⟩:∃ Y,namP [42,42,42,32] p (L.drop p)=Y:=⟨_,rfl⟩
 unfold patP at HX2
 rw[hY] at HX2
 have hn1:=ZbL [42,42,42,32] rfl _ hP0.ck (HL.out _ (HG.out _ hP0.gr)) hp (by omega) HSl.out Y hY
 clear HX q
 generalize hwb:w.alloc zpO=wb at *
 clear hwb
 go_enter Tryz.func175,Tryz.ntmps175
 go_wp2_with fail
 clear hW
 generalize w.heap.size+1=S at hP0 ⊢
 generalize wb.alloc zpO=w0 at hP0 hn1 ⊢
 refine hn1.mono ?_
 clear hn1
 cases Y with
 | error z =>
  obtain⟨a,z⟩:=z
  rintro e w1 ⟨⟨g,rfl,hg⟩,hgr⟩
  have hXe:X=.error (a,z):=HX2.symm
  subst hXe
  go_wp2
  exact⟨rfl,⟨_,rfl,hg⟩,HG.out _ (ZdT hP0.gr hgr)⟩
 | ok z =>
  obtain⟨n1,r1⟩:=z
  rintro e w1 ⟨rfl,hB1⟩
  obtain⟨rfl,hpl⟩:=ZgG hY
  dsimp only at HX2
  have hP1:=hP0.keep hB1
  clear hY hP0 hB1
  obtain⟨c0,c1,c2⟩:=hP1.cells
  have f0:=hP1.frozen 0
  have hP2:=hP1.put 0 (.string ⟨n1.toArray⟩) (m1:=n1) (m2:=[]) (hv':=.slice none 0 0) rfl hP1.own
  clear hP1
  by_cases h64:64≤k
  ·rw[if_pos h64] at HX2
   have hXe:=HX2.symm
   subst hXe
   have e1:((k:Int) == 64)=true:=beq_iff_eq.2 (by omega)
   go_wp2_with fail
   refine (ZbY 9 _ hP2.ck (by omega)).mono ?_
   rintro e w2 ⟨⟨g,rfl,hg⟩,hgr⟩
   go_wp2
   exact⟨rfl,⟨_,rfl,by simpa using hg⟩,HG.out _ (ZdT hP2.gr hgr)⟩
  ·rw[if_neg h64] at HX2
   have e1:((k:Int) == 64)=false:=beq_eq_false_iff_ne.2 (by omega)
   go_upto_region 3 with fail
   clear c0 c1 c2 f0
   generalize w1.setCell ⟨S,0,none⟩ (.string ⟨n1.toArray⟩)=w2 at hP2 ⊢
   obtain⟨d0,d1⟩:=hP2.ck.cells
   have f1:=hP2.ck.frozen 1
   have hP3:=hP2.next
   obtain⟨Y2,hY2⟩:∃ Y,namP [45,45,45,32] (p+1) (L.drop (p+1))=Y:=⟨_,rfl⟩
   rw[hY2] at HX2
   have hn2:=ZbL [45,45,45,32] rfl _ hP3.ck (HL.out _ (HG.out _ hP3.gr)) (by omega) (by omega) HSl.out Y2 hY2
   go_wp2_with fail
   refine hn2.mono ?_
   clear hn2 hP2 d0 d1 f1
   cases Y2 with
   | error z =>
    obtain⟨a,z⟩:=z
    rintro e w3 ⟨⟨g,rfl,hg⟩,hgr⟩
    have hXe:X=.error (a,z):=HX2.symm
    subst hXe
    go_wp2
    exact⟨rfl,⟨_,rfl,hg⟩,HG.out _ (ZdT hP3.gr hgr)⟩
   | ok z =>
    obtain⟨n2,r2⟩:=z
    rintro e w3 ⟨rfl,hB3⟩
    obtain⟨rfl,hpl2⟩:=ZgG hY2
    dsimp only at HX2
    have hP4:=hP3.keep hB3
    clear hY2 hP3 hB3
    obtain⟨c0,c1,c2⟩:=hP4.cells
    have f1:=hP4.frozen 1
    have hP5:=hP4.put 1 (.string ⟨n2.toArray⟩) (m1:=n1) (m2:=n2) (hv':=.slice none 0 0) rfl hP4.own
    clear hP4
    go_upto_region 7 with fail
    clear c0 c1 c2 f1
    generalize w3.setCell ⟨S,1,none⟩ (.string ⟨n2.toArray⟩)=w4 at hP5 ⊢
    obtain⟨d0,d1⟩:=hP5.ck.cells
    have f1:=hP5.ck.frozen 1
    have hP6:=hP5.next
    clear hP5
    obtain⟨Y3,hY3⟩:∃ Y,cxHs ((L.drop (p+1+1)).length+1) 0 (p+1+1) (L.drop (p+1+1))=Y:=⟨_,rfl⟩
    have HX3:Hid (mkP n1 n2 Y3=X):=(by show _=_;rw[← hY3];exact HX2)
    have HY0:Hid (lefH [] ((L.drop (p+1+1)).length+1) (p+1+1) (L.drop (p+1+1))=Y3):=(by show _=_;unfold lefH;rw[if_pos rfl,List.map_nil,ZkO];exact hY3)
    clear hY3 HX2
    go_wp2
    rw[show (((p+1:Nat):Int)+1)=(p:Int)+1+1 by omega] at hP6
    generalize w4.setCell ⟨R,1,none⟩ (.int .i64 ((p:Int)+1+1))=w5 at hP6 ⊢
    clear d0 d1 f1
    go_loopw [] (fun wr=>∃ (hv:Value) (P:List (Hk × Value)) (p' f:Nat),(∃ o c,hv=.slice o P.length c)∧Pzc wb R S (.slice lo L.length lc) n1 n2 hv P p' wr∧p'≤L.length∧P.length≤4096∧Hid ((L.drop p').length+1≤f)∧Hid (lefH P f p' (L.drop p')=Y3)) (fun wr=>L.length-ckN wr R)
    case atStart=>exact⟨_,[],p+1+1,_,⟨none,0,rfl⟩,hP6,by omega,Nat.zero_le _,Nat.le_refl _,HY0⟩
    case round =>
    clear hP6 HY0
    obtain⟨hv,P,p',f,⟨ho,hc,rfl⟩,hZ,hp',hPl,HF,HI⟩:=hrel
    obtain⟨c0,c1,c2⟩:=hZ.cells
    have hLr:=HL.out _ (HG.out _ hZ.gr)
    have HK:Hid (ckN wr R=p'):=ZbB hZ.ck
    obtain⟨gd,hgd⟩:∃ g,(decide (P=[]) || pkS (L.drop p'))=g:=⟨_,rfl⟩
    go_upto_region 8 with fail
    go_cut [37] from 30 to 47 (fun cv wz=>cv=.bool gd∧Pzc wb R S (.slice lo L.length lc) n1 n2 (.slice ho P.length hc) P p' wz)
    case first =>
     by_cases hP0:P=[]
     ·have z1:((P.length:Int) == 0)=true:=(by rw[hP0];rfl)
      have HE:Hid (true=gd):=(by rw[decide_eq_true hP0,Bool.true_or] at hgd;exact hgd)
      clear hP0 hgd
      go_wp2
      go_meet
      case rel=>exact⟨by rw[← HE.out],hZ⟩
     ·have z1:((P.length:Int) == 0)=false:=(by rw[beq_eq_false_iff_ne];intro e;exact hP0 (List.eq_nil_of_length_eq_zero (by omega)))
      have hat:=Zba wr hZ.ck hLr hp' (by omega) gd (show Hid (pkS (L.drop p')=gd) by show _=_;rw[← hgd,decide_eq_false hP0,Bool.false_or])
      clear hP0 hgd
      go_wp2_with fail
      refine hat.mono ?_
      rintro e w6 ⟨rfl,nn,rfl⟩
      have hZ2:=hZ.keep (below_drewN (Below.refl _ _) nn)
      go_wp2
      go_meet
      case rel=>exact⟨rfl,hZ2⟩
    case rest =>
    obtain⟨rfl,hZ2⟩:=hcut
    clear hZ c0 c1 c2 hLr
    obtain⟨c0,c1,c2⟩:=hZ2.cells
    have hLr:=HL.out _ (HG.out _ hZ2.gr)
    cases gd with
    | false =>
     have hYe:Y3=.ok (P.map (·.1),p',L.drop p'):=(by rw[← HI.out];exact Zfv hgd)
     have hXe:X=.ok (⟨n1,n2,P.map (·.1)⟩,p',L.drop p'):=(by rw[← HX3.out,hYe];rfl)
     subst hXe
     clear hYe hgd HI HX3 hLr
     obtain⟨y0,y1,y2,yf⟩:=ZkP hZ2.gr HZ.out _ rfl
     obtain⟨fh,fo,fi,fq,fg⟩:=ZkQ hZ2 HG.out HZ.out
     have yf0:=yf 0
     have yf1:=yf 1
     have yf2:=yf 2
     clear yf hZ2
     go_wp2
     exact bodyPost_ret (v:=.agg #[.string ⟨n1.toArray⟩,.string ⟨n2.toArray⟩,.slice ho P.length hc]) (results_cell_row rfl _ _ w.heap.size 42 #[.string ⟨n1.toArray⟩,.string ⟨n2.toArray⟩,.slice ho P.length hc] (0,0) _ rfl fh Tryz.underlying42 rfl (by kernel_rfl)) rfl ⟨_,P,rfl,rfl,fo,fi,fq,fg⟩
    | true =>
     have hf0:=HF.out
     obtain⟨f',rfl⟩:∃ f',f=f'+1:=⟨f-1,by omega⟩
     have hgo:=Zft (f:=f') (p:=p') hgd
     rw[HI.out] at hgo
     obtain⟨Yh,hYh⟩:∃ Y,cxH P.length p' (L.drop p')=Y:=⟨_,rfl⟩
     rw[hYh] at hgo
     have hZd:=hZ2.keep (Below.drew (Below.refl _ _))
     have hch:=Zcb hPl _ hZd.ck (fun u hu=>HL.out u (HG.out _ (ZdT hZd.gr hu))) HPl hp' hLl HSl Yh hYh
     have HYe:Hid (∀ e,Yh=.error e→X=.error e):=(by
      intro e he
      rw[← HX3.out,hgo,he]
      rfl)
     have HN:Hid (∀ h p2 r,Yh=.ok (h,p2,r)→p2≤L.length∧p'<p2∧Hid ((L.drop p2).length+1≤f')∧P.length<4096∧r=L.drop p2):=(by
      intro h p2 r he
      obtain⟨b1,b2,b3,b4⟩:=Zcw hPl (hYh.trans he)
      have:=HF.out
      rw[List.length_drop] at this
      exact⟨b3,b2,(by show _≤_;rw[List.length_drop];omega),b4,b1⟩)
     have HN2:Hid (∀ h p2 r y,Yh=.ok (h,p2,r)→Hid (lefH (P++[(h,y)]) f' p2 (L.drop p2)=Y3)):=(by
      intro h p2 r y he
      show _=_
      rw[Zfu,← (HN.out h p2 r he).2.2.2.2,hgo,he])
     obtain⟨Pn,hPnd⟩:∃ Pn:List PanicEntry→World→Prop,(fun c u=>∃ (g a:Nat) (z:Int),c=[{ v:=.iface 62 (.pointer (some ⟨g,0,none⟩)),recovered:=false }]∧u.heap[g]?=some (fltO (a:Int) z)∧X=.error (a,z)∧w.grownBy u (some R))=Pn:=⟨_,rfl⟩
     obtain⟨Rr,hRr⟩:∃ Rr:Value→World→Prop,(fun v u=>∃ h p2 r vo vc,Yh=.ok (h,p2,r)∧v=hkV h (.slice vo h.ls.length vc)∧Pzc wb R S (.slice lo L.length lc) n1 n2 (.slice ho P.length hc) P p2 u∧u.ownsRow wb.heap.size 47 2 (.slice vo h.ls.length vc) h.ls.length (mkcells h.ls))=Rr:=⟨_,rfl⟩
     have hcall:Calls Tryz.prog 214 (#[.pointer (some ⟨R,0,none⟩),.int .i64 (P.length:Int)]++#[]) wc.drew fun e w'=>(∃ v,e=.returned v∧True∧Rr v w')∨(∃ c,e=.panicked c∧Pn c w'):=(by
      refine hch.mono ?_
      intro e w' hq
      rw[← hPnd,← hRr]
      cases Yh with
      | error z =>
       obtain⟨a,z⟩:=z
       obtain⟨⟨g,rfl,hg⟩,hgr⟩:=hq
       exact .inr ⟨_,rfl,g,a,z,rfl,hg,HYe.out _ rfl,HG.out _ (ZdT hZd.gr hgr)⟩
      | ok z =>
       obtain⟨h,p2,r⟩:=z
       obtain⟨v',rfl,hown,q,hgr⟩:=hq
       obtain⟨vo,vc,rfl⟩:=(Zeo hown).form
       exact .inl ⟨_,rfl,trivial,h,p2,r,vo,vc,rfl,rfl,hZd.call hgr q,ZhC hown hZd.gr.size⟩)
     have HRr:Hid (_=Rr):=hRr
     have HPd:Hid (_=Pn):=hPnd
     clear hRr hPnd hch hgo hYh HI hgd hLr
     go_upto_region 9 with fail
     clear c0 c1 c2
     refine wp_region_held_drew (S:=fun _=>True) (by kernel_rfl) trivial (fun _=>?_)
     generalize wc.drew=wd at hZd hcall ⊢
     have c2d:=hZd.cells.2.2
     refine Y_t 0 38 _ (.pointer (some ⟨S,2,none⟩)) rfl (Or.inl ⟨by kernel_rfl,fun u hu=>by kernel_rfl⟩) trivial ?_
     simp only[Act.put,Y_a,Y_b,Y_c]
     refine Y_t 2 40 _ (.pointer (some ⟨R,0,none⟩)) rfl (Or.inl ⟨by kernel_rfl,fun u hu=>by kernel_rfl⟩) trivial ?_
     simp only[Act.put,Y_a,Y_b,Y_c]
     refine Y_t 3 41 _ (.pointer (some ⟨S,2,none⟩)) rfl (Or.inl ⟨by kernel_rfl,fun u hu=>by kernel_rfl⟩) trivial ?_
     simp only[Act.put,Y_a,Y_b,Y_c]
     refine ZdJ 1 39 _ 4 42 _ rfl (by kernel_rfl) rfl (by kernel_rfl) (by kernel_rfl) (by kernel_rfl) (by kernel_rfl) (.slice ho P.length hc) wd (ZfJ c2d (.tmp 38) (by kernel_rfl) (by kernel_rfl)) trivial (.slice ho P.length hc) wd (ZfJ c2d (.tmp 41) (by kernel_rfl) (by kernel_rfl)) trivial ?_ ?_
     ·simp only[Act.put,Y_a,Y_b,Y_c]
      refine Y_v 4 42 _ rfl (.slice ho P.length hc) wd (ZfJ c2d (.tmp 41) (by kernel_rfl) (by kernel_rfl)) trivial ?_
      simp only[Act.put,Y_a,Y_b,Y_c]
      refine Y_t 5 43 _ (.int .i64 (P.length:Int)) rfl (Or.inl ⟨by kernel_rfl,fun u hu=>by kernel_rfl⟩) trivial ?_
      simp only[Act.put,Y_a,Y_b,Y_c]
      refine ZdF 6 44 _ rfl (by kernel_rfl) (by kernel_rfl) (by kernel_rfl) 214 (.func 214) #[.tmp 40,.tmp 43] #[266,3] (by kernel_rfl) #[] (by kernel_rfl) #[.pointer (some ⟨R,0,none⟩),.int .i64 (P.length:Int)] (by kernel_rfl) (enters_of Tryz.func214 (by kernel_rfl) rfl) Rr Pn (fun c u h=>by rw[← HPd.out] at h;obtain⟨g,a,z,rfl,hg,hXe,hgr⟩:=h;subst hXe;exact⟨rfl,⟨_,rfl,hg⟩,hgr⟩) ?_ ?_
      ·exact hcall
      intro v0 u1 _ hq
      rw[← HRr.out] at hq
      obtain⟨h,p2,r,vo,vc,hk2,rfl,hR1,hown1⟩:=hq
      have c1u:=hR1.cells.2.2
      have hRA:=hR1.keep ((Below.refl _ u1).alloc (Nat.le_refl _) (hkO h (.slice vo h.ls.length vc)))
      have c2u:=hRA.cells.2.2
      simp only[Act.put,Y_a,Y_b,Y_c]
      refine Y_v 7 45 _ rfl (.slice (some ⟨u1.heap.size,0,none⟩) 1 1) (u1.alloc (hkO h (.slice vo h.ls.length vc))) (by kernel_rfl) trivial ?_
      simp only[Act.put,Y_a,Y_b,Y_c]
      have hlt2:=HN.out h p2 r hk2
      have hownA:=hown1.alloc (hkO h (.slice vo h.ls.length vc))
      obtain⟨v3,u3,hr3,hown3,hg3,_⟩:=ZjJ (u1.alloc (hkO h (.slice vo h.ls.length vc))) 40 45 40 (.agg #[.int .i64 0,.int .i64 0,.int .i64 0,.int .i64 0,.slice none 0 0]) 5 56 Tryz.underlying40 infoHk rfl (by decide) (by decide) wb.heap.size _ _ _ hRA.own _ 1 (hkC h (.slice vo h.ls.length vc)) (Zhz u1 h (.slice vo h.ls.length vc)) rfl (fun u hu=>by simp[hkC] at hu;rcases hu with rfl | rfl | rfl | rfl | rfl<;>rfl) (by omega) hRA.gr.size
      have hR3:=hRA.more hownA hg3 hown3
      obtain⟨o3,k3,rfl⟩:=(Zeo hown3).form
      refine Y_v 8 46 _ rfl (.slice o3 (P.length+1) k3) u3 (ZcT (.tmp 39) (.tmp 45) (by kernel_rfl) (by kernel_rfl) (by kernel_rfl) hr3) trivial ?_
      simp only[Act.put,Y_a,Y_b,Y_c]
      refine Y_t 9 47 _ (.pointer (some ⟨S,2,none⟩)) rfl (Or.inl ⟨by kernel_rfl,fun u hu=>by kernel_rfl⟩) trivial ?_
      simp only[Act.put,Y_a,Y_b,Y_c]
      refine Y_s 10 _ rfl (u3.setCell ⟨S,2,none⟩ (.slice o3 (P.length+1) k3)) (ZcZ hR3.2.1 hR3.2.2 (.tmp 47) (.tmp 46) (by kernel_rfl) (by kernel_rfl) (by kernel_rfl)) trivial ?_
      refine wpAnyH_done (by kernel_rfl) ?_ _
      have hR4:=hR3.1
      go_wp2
      refine⟨⟨_,P++[(h,.slice vo h.ls.length vc)],p2,f',⟨o3,k3,by rw[List.length_append];rfl⟩,hR4,hlt2.1,by rw[List.length_append];simp;omega,hlt2.2.2.1,HN2.out h p2 r _ hk2⟩,?_⟩
      rw[ZbB hR4.ck,HK.out]
      omega
     ·simp only[Act.put,Y_a,Y_b,Y_c]
      refine Y_t 5 43 _ (.int .i64 (P.length:Int)) rfl (Or.inl ⟨by kernel_rfl,fun u hu=>by kernel_rfl⟩) trivial ?_
      simp only[Act.put,Y_a,Y_b,Y_c]
      refine ZdM 1 39 _ 6 44 _ rfl (by kernel_rfl) rfl (by kernel_rfl) (by kernel_rfl) (by kernel_rfl) (by kernel_rfl) (.slice ho P.length hc) wd (ZfJ c2d (.tmp 38) (by kernel_rfl) (by kernel_rfl)) trivial 214 (.func 214) #[.tmp 40,.tmp 43] #[266,3] (by kernel_rfl) #[] (by kernel_rfl) #[.pointer (some ⟨R,0,none⟩),.int .i64 (P.length:Int)] (by kernel_rfl) (enters_of Tryz.func214 (by kernel_rfl) rfl) Rr Pn (fun c u h=>by rw[← HPd.out] at h;obtain⟨g,a,z,rfl,hg,hXe,hgr⟩:=h;subst hXe;exact⟨rfl,⟨_,rfl,hg⟩,hgr⟩) ?_ ?_ ?_
      ·exact hcall
      ·simp only[Act.put,Y_a,Y_b,Y_c]
       refine ZdF 6 44 _ rfl (by kernel_rfl) (by kernel_rfl) (by kernel_rfl) 214 (.func 214) #[.tmp 40,.tmp 43] #[266,3] (by kernel_rfl) #[] (by kernel_rfl) #[.pointer (some ⟨R,0,none⟩),.int .i64 (P.length:Int)] (by kernel_rfl) (enters_of Tryz.func214 (by kernel_rfl) rfl) Rr Pn (fun c u h=>by rw[← HPd.out] at h;obtain⟨g,a,z,rfl,hg,hXe,hgr⟩:=h;subst hXe;exact⟨rfl,⟨_,rfl,hg⟩,hgr⟩) ?_ ?_
       ·exact hcall
       intro v0 u1 _ hq
       rw[← HRr.out] at hq
       obtain⟨h,p2,r,vo,vc,hk2,rfl,hR1,hown1⟩:=hq
       have c1u:=hR1.cells.2.2
       have hRA:=hR1.keep ((Below.refl _ u1).alloc (Nat.le_refl _) (hkO h (.slice vo h.ls.length vc)))
       have c2u:=hRA.cells.2.2
       simp only[Act.put,Y_a,Y_b,Y_c]
       refine Y_v 7 45 _ rfl (.slice (some ⟨u1.heap.size,0,none⟩) 1 1) (u1.alloc (hkO h (.slice vo h.ls.length vc))) (by kernel_rfl) trivial ?_
       simp only[Act.put,Y_a,Y_b,Y_c]
       have hlt2:=HN.out h p2 r hk2
       have hownA:=hown1.alloc (hkO h (.slice vo h.ls.length vc))
       obtain⟨v3,u3,hr3,hown3,hg3,_⟩:=ZjJ (u1.alloc (hkO h (.slice vo h.ls.length vc))) 40 45 40 (.agg #[.int .i64 0,.int .i64 0,.int .i64 0,.int .i64 0,.slice none 0 0]) 5 56 Tryz.underlying40 infoHk rfl (by decide) (by decide) wb.heap.size _ _ _ hRA.own _ 1 (hkC h (.slice vo h.ls.length vc)) (Zhz u1 h (.slice vo h.ls.length vc)) rfl (fun u hu=>by simp[hkC] at hu;rcases hu with rfl | rfl | rfl | rfl | rfl<;>rfl) (by omega) hRA.gr.size
       have hR3:=hRA.more hownA hg3 hown3
       obtain⟨o3,k3,rfl⟩:=(Zeo hown3).form
       refine Y_v 8 46 _ rfl (.slice o3 (P.length+1) k3) u3 (ZcT (.tmp 39) (.tmp 45) (by kernel_rfl) (by kernel_rfl) (by kernel_rfl) hr3) trivial ?_
       simp only[Act.put,Y_a,Y_b,Y_c]
       refine Y_t 9 47 _ (.pointer (some ⟨S,2,none⟩)) rfl (Or.inl ⟨by kernel_rfl,fun u hu=>by kernel_rfl⟩) trivial ?_
       simp only[Act.put,Y_a,Y_b,Y_c]
       refine Y_s 10 _ rfl (u3.setCell ⟨S,2,none⟩ (.slice o3 (P.length+1) k3)) (ZcZ hR3.2.1 hR3.2.2 (.tmp 47) (.tmp 46) (by kernel_rfl) (by kernel_rfl) (by kernel_rfl)) trivial ?_
       refine wpAnyH_done (by kernel_rfl) ?_ _
       have hR4:=hR3.1
       go_wp2
       refine⟨⟨_,P++[(h,.slice vo h.ls.length vc)],p2,f',⟨o3,k3,by rw[List.length_append];rfl⟩,hR4,hlt2.1,by rw[List.length_append];simp;omega,hlt2.2.2.1,HN2.out h p2 r _ hk2⟩,?_⟩
       rw[ZbB hR4.ck,HK.out]
       omega
      ·intro v0 u1 _ hq
       rw[← HRr.out] at hq
       obtain⟨h,p2,r,vo,vc,hk2,rfl,hR1,hown1⟩:=hq
       have c1u:=hR1.cells.2.2
       have hRA:=hR1.keep ((Below.refl _ u1).alloc (Nat.le_refl _) (hkO h (.slice vo h.ls.length vc)))
       have c2u:=hRA.cells.2.2
       simp only[Act.put,Y_a,Y_b,Y_c]
       refine ZdJ 1 39 _ 7 45 _ rfl (by kernel_rfl) rfl (by kernel_rfl) (by kernel_rfl) (by kernel_rfl) (by kernel_rfl) (.slice ho P.length hc) u1 (ZfJ c1u (.tmp 38) (by kernel_rfl) (by kernel_rfl)) trivial (.slice (some ⟨u1.heap.size,0,none⟩) 1 1) (u1.alloc (hkO h (.slice vo h.ls.length vc))) (by kernel_rfl) trivial ?_ ?_
       ·simp only[Act.put,Y_a,Y_b,Y_c]
        refine Y_v 7 45 _ rfl (.slice (some ⟨u1.heap.size,0,none⟩) 1 1) (u1.alloc (hkO h (.slice vo h.ls.length vc))) (by kernel_rfl) trivial ?_
        simp only[Act.put,Y_a,Y_b,Y_c]
        have hlt2:=HN.out h p2 r hk2
        have hownA:=hown1.alloc (hkO h (.slice vo h.ls.length vc))
        obtain⟨v3,u3,hr3,hown3,hg3,_⟩:=ZjJ (u1.alloc (hkO h (.slice vo h.ls.length vc))) 40 45 40 (.agg #[.int .i64 0,.int .i64 0,.int .i64 0,.int .i64 0,.slice none 0 0]) 5 56 Tryz.underlying40 infoHk rfl (by decide) (by decide) wb.heap.size _ _ _ hRA.own _ 1 (hkC h (.slice vo h.ls.length vc)) (Zhz u1 h (.slice vo h.ls.length vc)) rfl (fun u hu=>by simp[hkC] at hu;rcases hu with rfl | rfl | rfl | rfl | rfl<;>rfl) (by omega) hRA.gr.size
        have hR3:=hRA.more hownA hg3 hown3
        obtain⟨o3,k3,rfl⟩:=(Zeo hown3).form
        refine Y_v 8 46 _ rfl (.slice o3 (P.length+1) k3) u3 (ZcT (.tmp 39) (.tmp 45) (by kernel_rfl) (by kernel_rfl) (by kernel_rfl) hr3) trivial ?_
        simp only[Act.put,Y_a,Y_b,Y_c]
        refine Y_t 9 47 _ (.pointer (some ⟨S,2,none⟩)) rfl (Or.inl ⟨by kernel_rfl,fun u hu=>by kernel_rfl⟩) trivial ?_
        simp only[Act.put,Y_a,Y_b,Y_c]
        refine Y_s 10 _ rfl (u3.setCell ⟨S,2,none⟩ (.slice o3 (P.length+1) k3)) (ZcZ hR3.2.1 hR3.2.2 (.tmp 47) (.tmp 46) (by kernel_rfl) (by kernel_rfl) (by kernel_rfl)) trivial ?_
        refine wpAnyH_done (by kernel_rfl) ?_ _
        have hR4:=hR3.1
        go_wp2
        refine⟨⟨_,P++[(h,.slice vo h.ls.length vc)],p2,f',⟨o3,k3,by rw[List.length_append];rfl⟩,hR4,hlt2.1,by rw[List.length_append];simp;omega,hlt2.2.2.1,HN2.out h p2 r _ hk2⟩,?_⟩
        rw[ZbB hR4.ck,HK.out]
        omega
       ·simp only[Act.put,Y_a,Y_b,Y_c]
        refine Y_v 1 39 _ rfl (.slice ho P.length hc) (u1.alloc (hkO h (.slice vo h.ls.length vc))) (ZfJ c2u (.tmp 38) (by kernel_rfl) (by kernel_rfl)) trivial ?_
        simp only[Act.put,Y_a,Y_b,Y_c]
        have hlt2:=HN.out h p2 r hk2
        have hownA:=hown1.alloc (hkO h (.slice vo h.ls.length vc))
        obtain⟨v3,u3,hr3,hown3,hg3,_⟩:=ZjJ (u1.alloc (hkO h (.slice vo h.ls.length vc))) 40 45 40 (.agg #[.int .i64 0,.int .i64 0,.int .i64 0,.int .i64 0,.slice none 0 0]) 5 56 Tryz.underlying40 infoHk rfl (by decide) (by decide) wb.heap.size _ _ _ hRA.own _ 1 (hkC h (.slice vo h.ls.length vc)) (Zhz u1 h (.slice vo h.ls.length vc)) rfl (fun u hu=>by simp[hkC] at hu;rcases hu with rfl | rfl | rfl | rfl | rfl<;>rfl) (by omega) hRA.gr.size
        have hR3:=hRA.more hownA hg3 hown3
        obtain⟨o3,k3,rfl⟩:=(Zeo hown3).form
        refine Y_v 8 46 _ rfl (.slice o3 (P.length+1) k3) u3 (ZcT (.tmp 39) (.tmp 45) (by kernel_rfl) (by kernel_rfl) (by kernel_rfl) hr3) trivial ?_
        simp only[Act.put,Y_a,Y_b,Y_c]
        refine Y_t 9 47 _ (.pointer (some ⟨S,2,none⟩)) rfl (Or.inl ⟨by kernel_rfl,fun u hu=>by kernel_rfl⟩) trivial ?_
        simp only[Act.put,Y_a,Y_b,Y_c]
        refine Y_s 10 _ rfl (u3.setCell ⟨S,2,none⟩ (.slice o3 (P.length+1) k3)) (ZcZ hR3.2.1 hR3.2.2 (.tmp 47) (.tmp 46) (by kernel_rfl) (by kernel_rfl) (by kernel_rfl)) trivial ?_
        refine wpAnyH_done (by kernel_rfl) ?_ _
        have hR4:=hR3.1
        go_wp2
        refine⟨⟨_,P++[(h,.slice vo h.ls.length vc)],p2,f',⟨o3,k3,by rw[List.length_append];rfl⟩,hR4,hlt2.1,by rw[List.length_append];simp;omega,hlt2.2.2.1,HN2.out h p2 r _ hk2⟩,?_⟩
        rw[ZbB hR4.ck,HK.out]
        omega
end

section
open Go.RowKit
theorem Zbf (p q:Addr) (w:World) :
  CallsD Tryz.prog 174 #[.pointer (some p),.pointer (some q)] .returning w fun e u' w'=>e=.returned (.tuple #[])∧u'=.returning∧w'=w:=by
 refine callsD_of_wpS Tryz.func174 rfl fun c₀ cs hu=>?_
 apply wpS_seq
 apply wpS_region
 simp[wpOpsS,go_sem,recoverD,hu,Tryz.ntmps174,Exit.thenS]
 apply wpS_seq
 apply wpS_region
 simp[wpOpsS,go_sem,Exit.thenS]
 refine wpS_cond (t:=false) (by simp[Act.eval,Array.replicate]) ?_
 simp only[Bool.false_eq_true,if_false]
 refine wpS_of_wp (wp_skip ?_)
 cases c₀
 simp_all [bodyPostS,results,Tryz.results174]
theorem Zbc (F0 F1 g:Nat) (v0 v1:Value) (older:List PanicEntry) (w:World) (h01:F0≠F1) (c0:w.cell? ⟨F0,0,none⟩=some v0) (f0:w.frozen? ⟨F0,0,none⟩=false) (c1:w.cell? ⟨F1,0,none⟩=some v1) (f1:w.frozen? ⟨F1,0,none⟩=false) :
  CallsD Tryz.prog 174 #[.pointer (some ⟨F0,0,none⟩),.pointer (some ⟨F1,0,none⟩)] (.panicking ({ v:=.iface 62 (.pointer (some ⟨g,0,none⟩)),recovered:=false }::older)) w fun e u' w'=>e=.returned (.tuple #[])∧u'=.panicking ({ v:=.iface 62 (.pointer (some ⟨g,0,none⟩)),recovered:=true }::older)∧w'=((w.setCell ⟨F0,0,none⟩ (.slice none 0 0)).setCell ⟨F1,0,none⟩ (.iface 62 (.pointer (some ⟨g,0,none⟩)))).drew:=by
 refine callsD_of_wpS Tryz.func174 rfl fun c₀ cs hu=>?_
 apply wpS_seq
 apply wpS_region
 simp[wpOpsS,go_sem,recoverD,hu,Tryz.ntmps174,Exit.thenS]
 apply wpS_seq
 apply wpS_region
 simp[wpOpsS,go_sem,Exit.thenS]
 refine wpS_cond (t:=true) (by simp[Act.eval,Array.replicate]) ?_
 simp only[if_true]
 refine wpS_of_wp ?_
 have hta:∀ (v:Value) (u:World),(Instr.typeAssert (.iface 62 v) 20 62 false).run Tryz.prog u=.ok v u:=fun _ _=>by kernel_rfl
 generalize hA:({ tmps:=_,defers:=[] }:Act)=A
 have hA2:A={ tmps:=#[.pointer (some ⟨F0,0,none⟩),.pointer (some ⟨F1,0,none⟩),.iface 62 (.pointer (some ⟨g,0,none⟩)),.iface 62 (.pointer (some ⟨g,0,none⟩)),.iface 62 (.pointer (some ⟨g,0,none⟩)),.bool true,undef,undef,undef],defers:=[] }:=hA.symm.trans rfl
 subst hA2
 clear hA
 go_region
 cases c₀
 simp_all [bodyPostS,results,Tryz.results174]
def PanC (Q:Exit→Act→World→Prop) (Pn:List PanicEntry→World→Prop) (p2 p3:Value) (ds:List Deferred):Exit→Act→World→Prop
 | .panic c,a,w=>Pn c w∧a.tmps.getD 2 undef=p2∧a.tmps.getD 3 undef=p3∧a.defers=ds
 | .normal,a,w=>Q .normal a w
 | _,_,_=>False
theorem PanC.normal {Q:Exit→Act→World→Prop} {Pn:List PanicEntry→World→Prop} {p2 p3:Value} {ds:List Deferred} {a:Act} {w:World} (h:Q .normal a w):PanC Q Pn p2 p3 ds .normal a w:=h
theorem Zmk {P:Program} {id:Nat} {ops:Array Oper} {b:Bool} {Q:Exit→Act→World→Prop} {a:Act} {w:World} (Pn:List PanicEntry→World→Prop) (p2 p3:Value) (ds:List Deferred) (hP:∀ c a w,Pn c w→a.tmps.getD 2 undef=p2→a.tmps.getD 3 undef=p3→a.defers=ds→Q (.panic c) a w) (h:(Code.region id ops b).wp P (PanC Q Pn p2 p3 ds) a w):(Code.region id ops b).wp P Q a w:=by
 refine Code.wp_mono (fun e a w h=>?_) h
 cases e with
 | panic c=>exact hP c a w h.1 h.2.1 h.2.2.1 h.2.2.2
 | normal=>exact h
 | _=>exact (h:False).elim
theorem ZhZ {Q:Exit→Act→World→Prop} {Pn:List PanicEntry→World→Prop} {p2 p3:Value} {ds:List Deferred} {d:Nat} {v:Value} (h2:d≠2) (h3:d≠3):∀ c a w,PanC Q Pn p2 p3 ds (.panic c) (a.put (some d) v) w→PanC Q Pn p2 p3 ds (.panic c) a w:=by
 rintro c a w ⟨x1,x2,x3,x4⟩
 refine⟨x1,?_,?_,x4⟩
 ·rw[← x2]
  simp[Act.put,Array.getD_eq_getD_getElem?,Array.getElem?_setIfInBounds_ne h2]
 ·rw[← x3]
  simp[Act.put,Array.getD_eq_getD_getElem?,Array.getElem?_setIfInBounds_ne h3]
theorem Zjj (tmps:Array Value) (u:World) (F0 F1 n c:Nat) (o:Option Addr) (v1:Value) (h2:tmps.getD 2 undef=.pointer (some ⟨F0,0,none⟩)) (h3:tmps.getD 3 undef=.pointer (some ⟨F1,0,none⟩)) (c0:u.cell? ⟨F0,0,none⟩=some (.slice o n c)) (c1:u.cell? ⟨F1,0,none⟩=some v1) :
  (results Tryz.f142 tmps).run Tryz.prog u=.ok (.tuple #[.slice o n c,v1]) u:=by
 have hL0:(loadVar 22 ⟨F0,0,none⟩).run Tryz.prog u=.ok (.slice o n c) u:=by
  simp[loadVar,isAgg,underlying,Tryz.underlying22,c0,Result.andThen]
 have hL1:(loadVar 24 ⟨F1,0,none⟩).run Tryz.prog u=.ok v1 u:=by
  simp[loadVar,isAgg,underlying,Tryz.underlying24,c1,Result.andThen]
 have e2:tmps[2]?.getD undef=.pointer (some ⟨F0,0,none⟩):=by rw[← h2];simp
 have e3:tmps[3]?.getD undef=.pointer (some ⟨F1,0,none⟩):=by rw[← h3];simp
 simp[results,Tryz.results142,e2,e3,asAddr,hL0,hL1,Result.andThen]
end

section
open Go.RowKit
theorem infoPx:(Tryz.prog.info? 42).map (fun i=>(i.zero,i.size,i.bytes))=some (some (.agg #[.string ⟨#[]⟩,.string ⟨#[]⟩,.slice none 0 0]),3,56):=by kernel_rfl
structure Pfd where
 x:Pth
 v:Value
 hs:List (Hk × Value)
def pxC (f:Pfd):List Value:=[.string ⟨f.x.old.toArray⟩,.string ⟨f.x.new.toArray⟩,f.v]
def pxcells (F:List Pfd):List Value:=F.flatMap pxC
def pxO (f:Pfd):Obj:=.cells #[.string ⟨f.x.old.toArray⟩,.string ⟨f.x.new.toArray⟩,f.v] 42
structure Pown (B:Nat) (u:World) (f:Pfd):Prop where
 eq:f.x.hs=f.hs.map (·.1)
 own:u.ownsRow B 45 5 f.v f.hs.length (hkcells f.hs)
 ins:∀ y∈f.hs,u.ownsRow B 47 2 y.2 y.1.ls.length (mkcells y.1.ls)
structure Pw (w:World) (ov:Value) (F:List Pfd) (u:World):Prop where
 low:Below w.heap.size w u
 own:u.ownsRow w.heap.size 42 3 ov F.length (pxcells F)
 ins:∀ f∈F,Pown w.heap.size u f
theorem Pown.kept {B k:Nat} {u u':World} {f:Pfd} (h:Pown B u f) (hg:u.grownBy u' (some k)) (h1:f.v.ownBlock≠some k) (h2:∀ y∈f.hs,y.2.ownBlock≠some k):Pown B u' f:=⟨h.eq,h.own.kept hg (.inr h1),fun y hy=>(h.ins y hy).kept hg (.inr (h2 y hy))⟩
theorem Pown.keep {B:Nat} {u u':World} {f:Pfd} (h:Pown B u f) (hb:Below u.heap.size u u'):Pown B u' f:=⟨h.eq,ZhK h.own hb,fun y hy=>ZhK (h.ins y hy) hb⟩
theorem Pown.box {B k:Nat} {u u':World} {f:Pfd} {cs:Array Value} {t:TypeId} {fr:Nat × Nat} (h:Pown B u f) (hb:u.heap[k]?=some (.cells cs t fr)) (h1:45≠t) (h2:47≠t) (hg:u.grownBy u' (some k)):Pown B u' f:=h.kept hg (ZhE h.own hb h1) (fun y hy=>ZhE (h.ins y hy) hb h2)
theorem ZjA {B:Nat} {u u':World} {e e':TypeId} {s s':Nat} {v v':Value} {n n':Nat} {xs xs':List Value} (h:u.ownsRow B e s v n xs) (ho:u.ownsRow B e' s' v' n' xs') (hne:e'≠e) (hg:u.grownBy u' v'.ownBlock):u'.ownsRow B e s v n xs:=by
 refine⟨h.1,?_⟩
 rcases h.2 with q | ⟨b,cap,cur,rfl,q2,q3,q4⟩
 ·exact .inl q
 ·refine .inr ⟨b,cap,cur,rfl,q2,?_,q4⟩
  rw[hg.block b (Array.getElem?_eq_some_iff.1 q3).1 (fun e=>ZhE ho q3 hne e.symm)]
  exact q3
structure RdP (w:World) (R:Nat) (L:List (List UInt8)) (vL ov:Value) (F:List Pfd) (p:Nat) (u:World):Prop where
 pw:Pw w ov F u
 f0:u.heap[w.heap.size]?=some (.cells #[ov] 22)
 f1:u.heap[w.heap.size+1]?=some (.cells #[.nilIface] 24)
 ck:Ck u R vL (p:Int)
 rl:w.heap.size+1<R
 ln:u.ownsRow w.heap.size 9 1 vL L.length (scells L)
section
variable {w u u':World} {R:Nat} {L:List (List UInt8)} {vL ov:Value} {F:List Pfd} {p p':Nat}
theorem RdP.c0 (h:RdP w R L vL ov F p u):u.cell? ⟨w.heap.size,0,none⟩=some ov:=by rw[Lib.cell_of_heap h.f0];rfl
theorem RdP.keep (h:RdP w R L vL ov F p u) (hb:Below u.heap.size u u'):RdP w R L vL ov F p u':=⟨⟨h.pw.low.trans (hb.mono h.pw.low.size),ZhK h.pw.own hb,fun f hf=>(h.pw.ins f hf).keep hb⟩,(hb.block _ (Array.getElem?_eq_some_iff.1 h.f0).1).trans h.f0,(hb.block _ (Array.getElem?_eq_some_iff.1 h.f1).1).trans h.f1,h.ck.low hb,h.rl,ZhK h.ln hb⟩
theorem RdP.call (h:RdP w R L vL ov F p u) (hg:u.grownBy u' (some R)) (q:Ck u' R vL (p':Int)):RdP w R L vL ov F p' u':=by
 have hk:∀ k x,k≠R→u.heap[k]?=some x→u'.heap[k]?=some x:=fun k _ hk hx=>(hg.block k (Array.getElem?_eq_some_iff.1 hx).1 (fun e=>hk (Option.some.inj e))).trans hx
 have hb:u.heap[R]?=some (.cells #[vL,.int .i64 (p:Int)] 233):=h.ck
 have hr:=h.rl
 exact⟨⟨h.pw.low.grown hg h.pw.low.size (fun k e=>by cases e;omega),h.pw.own.kept hg (.inr (ZhE h.pw.own hb (by decide))),fun f hf=>(h.pw.ins f hf).box hb (by decide) (by decide) hg⟩,hk _ _ (by omega) h.f0,hk _ _ (by omega) h.f1,q,h.rl,h.ln.kept hg (.inr (ZhE h.ln hb (by decide)))⟩
theorem RdP.lines (h:RdP w R L vL ov F p u) (hg:u.grownBy u' (some R)):HS u' vL L:=by
 have hb:u.heap[R]?=some (.cells #[vL,.int .i64 (p:Int)] 233):=h.ck
 exact Zeo (h.ln.kept hg (.inr (ZhE h.ln hb (by decide))))
theorem RdP.more (h:RdP w R L vL ov F p u) {f:Pfd} {ov':Value} (hy:Pown w.heap.size u f) (hg:u.grownBy u' ov.ownBlock) (ho:u'.ownsRow w.heap.size 42 3 ov' (F.length+1) (pxcells F++pxC f)) :
  RdP w R L vL ov' (F++[f]) p (u'.setCell ⟨w.heap.size,0,none⟩ ov')∧u'.cell? ⟨w.heap.size,0,none⟩=some ov∧u'.frozen? ⟨w.heap.size,0,none⟩=false:=by
 have hk:∀ (k:Nat) (cs:Array Value) (t:TypeId) (fr:Nat × Nat),t≠42→u.heap[k]?=some (Obj.cells cs t fr)→u'.heap[k]?=some (Obj.cells cs t fr):=fun k cs t fr ht hx=>(hg.block k (Array.getElem?_eq_some_iff.1 hx).1 (fun e=>ZhE h.pw.own hx ht.symm e.symm)).trans hx
 have f0:=hk _ _ _ _ (by decide) h.f0
 have f1:=hk _ _ _ _ (by decide) h.f1
 have ck:Ck u' R vL (p:Int):=hk _ _ _ _ (by decide) h.ck
 have hg2:=ZdS u' w.heap.size 0 ov'
 have hin:∀ g,Pown w.heap.size u g→Pown w.heap.size u' g:=fun g hp=>⟨hp.eq,ZjA hp.own h.pw.own (by decide) hg,fun y hy=>ZjA (hp.ins y hy) h.pw.own (by decide) hg⟩
 have hlow:=h.pw.low.grown hg h.pw.low.size (fun k e=>ZhJ h.pw.own e)
 have hr:=h.rl
 refine⟨⟨⟨hlow.setCell (Nat.le_refl _) _,?_,?_⟩,heap_setCell_same u' _ 0 _ _ ov' f0,(Below.heap_setCell _ _ _ _ (by simp)).trans f1,ck.keep hg2 (fun e=>by have:=Option.some.inj e;omega),h.rl,(ZjA h.ln h.pw.own (by decide) hg).kept hg2 (.inr (ZhE (ZjA h.ln h.pw.own (by decide) hg) f0 (by decide)))⟩,by rw[Lib.cell_of_heap f0];rfl,Lib.frozen_of_heap f0 0⟩
 ·have e1:pxcells (F++[f])=pxcells F++pxC f:=by simp[pxcells]
  rw[List.length_append,e1]
  exact ho.kept hg2 (.inr (ZhE ho f0 (by decide)))
 ·intro g hgm
  have hP:Pown w.heap.size u' g:=by
   rcases List.mem_append.1 hgm with hm | hm
   ·exact hin g (h.pw.ins g hm)
   ·rw[List.mem_singleton.1 hm];exact hin f hy
  exact hP.box f0 (by decide) (by decide) hg2
end
theorem Zhx (w:World) (f:Pfd):Holds (w.alloc (pxO f)) (.slice (some ⟨w.heap.size,0,none⟩) 1 1) 1 (pxC f):=by
 refine .inr ⟨⟨w.heap.size,0,none⟩,1,rfl,Nat.le_refl _,?_⟩
 intro j u hj
 have hb:=heap_alloc_new w (pxO f)
 match j,hj with
 | 0,hj=>rw[show ((⟨w.heap.size,0,none⟩:Addr).add 0)=⟨w.heap.size,0,none⟩ from rfl,Lib.cell_of_heap hb];exact hj
 | 1,hj=>rw[show ((⟨w.heap.size,0,none⟩:Addr).add 1)=⟨w.heap.size,1,none⟩ from rfl,Lib.cell_of_heap hb];exact hj
 | 2,hj=>rw[show ((⟨w.heap.size,0,none⟩:Addr).add 2)=⟨w.heap.size,2,none⟩ from rfl,Lib.cell_of_heap hb];exact hj
 | n+3,hj=>simp[pxC] at hj
theorem Zid {k p:Nat} {L r:List (List UInt8)} {x:Pth} {p1:Nat} (h:patP k p (L.drop p)=.ok (x,p1,r)):k<64:=by
 unfold patP at h
 cases hn:namP [42,42,42,32] p (L.drop p) with
 | error e=>rw[hn] at h;cases h
 | ok z =>
  rw[hn] at h
  dsimp only at h
  split at h
  ·cases h
  ·omega
def thenPs (l:List Pth) (X:Except (Nat × Int) (List Pth)):Except (Nat × Int) (List Pth) :=
 match X with
 | .error e=>.error e
 | .ok m=>.ok (l++m)
def PrQ (w:World) (X:Except (Nat × Int) (List Pth)) (e:Ending) (w':World):Prop :=
 match X with
 | .error (a,z)=>∃ g,e=.returned (.tuple #[.slice none 0 0,.iface 62 (.pointer (some ⟨g,0,none⟩))])∧w'.heap[g]?=some (fltO (a:Int) z)∧Below w.heap.size w w'
 | .ok l=>∃ v' F,e=.returned (.tuple #[v',.nilIface])∧Pw w v' F w'∧F.map (·.x)=l
end

section
open Go.RowKit
open Ln
theorem Zcx (f:Nat):∀ {k p:Nat} {L r:List (List UInt8)} {hs:List Hk} {p1:Nat},k≤4096→cxHs f k p (L.drop p)=.ok (hs,p1,r)→r=L.drop p1∧p<p1∧p1≤L.length:=by
 induction f with
 | zero =>
  intro k p L r hs p1 _ h
  simp only[cxHs] at h
  cases h
 | succ f ih =>
  intro k p L r hs p1 hk h
  simp only[cxHs] at h
  cases hh:cxH k p (L.drop p) with
  | error e=>rw[hh] at h;cases h
  | ok z =>
   obtain⟨x,p2,r2⟩:=z
   obtain⟨rfl,b2,b3,b4⟩:=Zcw hk hh
   rw[hh] at h
   dsimp only at h
   split at h
   ·cases h2:cxHs f (k+1) p2 (L.drop p2) with
    | error e=>rw[h2] at h;cases h
    | ok z =>
     obtain⟨l,p3,r3⟩:=z
     rw[h2] at h
     injection h with h
     injection h with e1 e2
     injection e2 with e2 e3
     subst e2 e3
     obtain⟨c1,c2,c3⟩:=ih (by omega) h2
     exact⟨c1,by omega,c3⟩
   ·injection h with h
    injection h with e1 e2
    injection e2 with e2 e3
    subst e2 e3
    exact⟨rfl,b2,b3⟩
theorem Zif {k p:Nat} {L r:List (List UInt8)} {x:Pth} {p1:Nat} (h:patP k p (L.drop p)=.ok (x,p1,r)):r=L.drop p1∧p<p1∧p1≤L.length∧k<64:=by
 have hk:=Zid h
 unfold patP at h
 cases hn:namP [42,42,42,32] p (L.drop p) with
 | error e=>rw[hn] at h;cases h
 | ok z =>
  obtain⟨n1,r1⟩:=z
  obtain⟨rfl,b1⟩:=ZgG hn
  rw[hn] at h
  dsimp only at h
  rw[if_neg (by omega)] at h
  cases hn2:namP [45,45,45,32] (p+1) (L.drop (p+1)) with
  | error e=>rw[hn2] at h;cases h
  | ok z =>
   obtain⟨n2,r2⟩:=z
   obtain⟨rfl,b2⟩:=ZgG hn2
   rw[hn2] at h
   dsimp only at h
   cases hh:cxHs ((L.drop (p+1+1)).length+1) 0 (p+2) (L.drop (p+1+1)) with
   | error e=>rw[hh] at h;cases h
   | ok z =>
    obtain⟨hs,p3,r3⟩:=z
    rw[hh] at h
    injection h with h
    injection h with e1 e2
    injection e2 with e2 e3
    subst e2 e3
    obtain⟨c1,c2,c3⟩:=Zcx _ (L:=L) (p:=p+2) (by omega) hh
    exact⟨c1,by omega,c3,hk⟩
theorem ZfY (l:List (List UInt8)):∀ s∈l,s.length≤l.flatten.length:=by
 induction l with
 | nil=>intro s hs;cases hs
 | cons a l ih =>
  intro s hs
  rw[List.flatten_cons,List.length_append]
  rcases List.mem_cons.1 hs with rfl | h
  ·omega
  ·have:=ih s h
   omega
theorem Zkz {t:List UInt8} {M:Nat} (h:t.length≤M):∀ s∈Ln.splitL t,s.length≤M:=by
 intro s hs
 have h1:=congrArg List.length (Ln.split_join t)
 have h2:=ZfY _ s hs
 omega
theorem ZfL {u:World} {a:Addr} {o:Option Addr} {n c:Nat} (h:u.cell? a=some (.slice o n c)) {op:Oper} (x:Operand) (ho:op.op=.load 22 x) {ev:Operand→Value} (hx:ev x=.pointer (some a)) :
  (execOp ev op).run Tryz.prog u=.ok (.value (.slice o n c)) u:=by
 simp only[execOp,ho,hx]
 go_simp
theorem Zda {u:World} {a:Addr} {v0:Value} (hc:u.cell? a=some v0) (hf:u.frozen? a=false) {o:Option Addr} {n c:Nat} {op:Oper} (x y:Operand) (ho:op.op=.store 22 x y) {ev:Operand→Value} (hx:ev x=.pointer (some a)) (hy:ev y=.slice o n c) :
  (execOp ev op).run Tryz.prog u=.ok .skip (u.setCell a (.slice o n c)):=by
 simp only[execOp,ho,hx,hy]
 go_simp
def PnP (w:World) (X:Except (Nat × Int) (List Pth)) (c:List PanicEntry) (u:World):Prop :=
 ∃ (g a:Nat) (z:Int) (v0:Value),c=[{ v:=.iface 62 (.pointer (some ⟨g,0,none⟩)),recovered:=false }]∧u.heap[g]?=some (fltO (a:Int) z)∧X=.error (a,z)∧Below w.heap.size w u∧u.heap[w.heap.size]?=some (.cells #[v0] 22)∧u.heap[w.heap.size+1]?=some (.cells #[.nilIface] 24)
theorem ZiB {w:World} {X:Except (Nat × Int) (List Pth)}:∀ c (a:Act) u,PnP w X c u→a.tmps.getD 2 undef=.pointer (some ⟨w.heap.size,0,none⟩)→a.tmps.getD 3 undef=.pointer (some ⟨w.heap.size+1,0,none⟩)→a.defers=[{ target:=.fn (.func 174) #[.pointer (some ⟨w.heap.size,0,none⟩),.pointer (some ⟨w.heap.size+1,0,none⟩)],args:=#[] }]→bodyPostD Tryz.prog Tryz.f142 (fun e w'=>PrQ w X e w') (.panic c) a u:=by
 rintro c a u ⟨g,pa,z,v0,rfl,hg,rfl,hlow,f0,f1⟩ h2 h3 hd
 show Leaves Tryz.prog Tryz.f142 a.tmps (fun e w'=>PrQ w (.error (pa,z)) e w') a.defers _ u
 rw[hd]
 have g0:g≠w.heap.size:=(by rintro rfl;rw[f0] at hg;unfold fltO at hg;simp at hg)
 have g1:g≠w.heap.size+1:=(by rintro rfl;rw[f1] at hg;unfold fltO at hg;simp at hg)
 refine leaves_cons (f:=174) (args:=#[.pointer (some ⟨w.heap.size,0,none⟩),.pointer (some ⟨w.heap.size+1,0,none⟩)]) (by simp) (by simp[go_sem]) ?_
 refine (Zbc w.heap.size (w.heap.size+1) g v0 .nilIface [] u (by omega) (by rw[Lib.cell_of_heap f0];rfl) (Lib.frozen_of_heap f0 0) (by rw[Lib.cell_of_heap f1];rfl) (Lib.frozen_of_heap f1 0)).mono ?_
 rintro e u' w'' ⟨rfl,rfl,rfl⟩
 have s0:=heap_setCell_same u w.heap.size 0 _ _ (.slice none 0 0) f0
 have s1:(u.setCell ⟨w.heap.size,0,none⟩ (.slice none 0 0)).heap[w.heap.size+1]?=some (.cells #[.nilIface] 24):=(Below.heap_setCell _ _ _ _ (by simp)).trans f1
 have s2:=heap_setCell_same _ (w.heap.size+1) 0 _ _ (.iface 62 (.pointer (some ⟨g,0,none⟩))) s1
 have s3:((u.setCell ⟨w.heap.size,0,none⟩ (.slice none 0 0)).setCell ⟨w.heap.size+1,0,none⟩ (.iface 62 (.pointer (some ⟨g,0,none⟩)))).heap[w.heap.size]?=some (.cells #[.slice none 0 0] 22):=(Below.heap_setCell _ _ _ _ (by simp)).trans s0
 have s4:((u.setCell ⟨w.heap.size,0,none⟩ (.slice none 0 0)).setCell ⟨w.heap.size+1,0,none⟩ (.iface 62 (.pointer (some ⟨g,0,none⟩)))).heap[g]?=some (fltO (pa:Int) z):=((Below.heap_setCell _ _ _ _ (by simpa using g1)).trans (Below.heap_setCell _ _ _ _ (by simpa using g0))).trans hg
 have hl:Below w.heap.size w ((u.setCell ⟨w.heap.size,0,none⟩ (.slice none 0 0)).setCell ⟨w.heap.size+1,0,none⟩ (.iface 62 (.pointer (some ⟨g,0,none⟩)))).drew:=((hlow.setCell (Nat.le_refl _) _).setCell (by show w.heap.size≤w.heap.size+1;omega) _).drew
 generalize (u.setCell ⟨w.heap.size,0,none⟩ (.slice none 0 0)).setCell ⟨w.heap.size+1,0,none⟩ (.iface 62 (.pointer (some ⟨g,0,none⟩)))=W at *
 exact⟨_,Zjj a.tmps W.drew w.heap.size (w.heap.size+1) 0 0 none _ h2 h3 (by rw[Lib.cell_of_heap (w:=W.drew) s3];rfl) (by rw[Lib.cell_of_heap (w:=W.drew) s2];rfl),g,rfl,s4,hl⟩
theorem ZaT (t:List UInt8) (w:World) (X:Except (Nat × Int) (List Pth)) (HX:Hid (cxT t=X)) (hl:t.length≤1099511627776) :
  Calls Tryz.prog 142 #[.string ⟨t.toArray⟩] w fun e w'=>PrQ w X e w':=by
 have hmf:∀ (fn:Fn) (first cap:Array Value) (w:World),(Instr.makeFunc fn first cap).run Tryz.prog w=.ok (.func fn first cap) w:=fun _ _ _ _=>rfl
 have HX2:=HX.out
 unfold cxT at HX2
 clear HX
 by_cases hlong:1048576<t.length
 ·rw[if_pos hlong] at HX2
  have hXe:=HX2.symm
  subst hXe
  clear HX2
  have hbig:(1048576:Int)<(t.length:Int):=by omega
  go_enter_defers Tryz.func142,Tryz.ntmps142
  have z1:(w.alloc (.cells #[.slice none 0 0] 22)).heap.size=w.heap.size+1:=by simp
  have z2:((w.alloc (.cells #[.slice none 0 0] 22)).alloc (.cells #[.iface 62 (.pointer (some ⟨w.heap.size+1+1,0,none⟩))] 24)).heap.size=w.heap.size+1+1:=by simp
  have a1:=heap_alloc_new w (.cells #[.slice none 0 0] 22)
  have a2:=heap_alloc_new (w.alloc (.cells #[.slice none 0 0] 22)) (.cells #[.iface 62 (.pointer (some ⟨w.heap.size+1+1,0,none⟩))] 24)
  have a3:=heap_alloc_new ((w.alloc (.cells #[.slice none 0 0] 22)).alloc (.cells #[.iface 62 (.pointer (some ⟨w.heap.size+1+1,0,none⟩))] 24)) (fltO 0 9)
  rw[z1] at a2
  rw[z2] at a3
  have b1:=(Lib.alloc_old _ (fltO 0 9) _ (by rw[z2];omega)).trans ((Lib.alloc_old _ (.cells #[.iface 62 (.pointer (some ⟨w.heap.size+1+1,0,none⟩))] 24) _ (by rw[z1];omega)).trans a1)
  have b2:=(Lib.alloc_old _ (fltO 0 9) _ (by rw[z2];omega)).trans a2
  have hlow:Below w.heap.size w (((w.alloc (.cells #[.slice none 0 0] 22)).alloc (.cells #[.iface 62 (.pointer (some ⟨w.heap.size+1+1,0,none⟩))] 24)).alloc (fltO 0 9)):=(((Below.refl _ w).alloc (Nat.le_refl _) _).alloc (by rw[z1];omega) _).alloc (by rw[z2];omega) _
  have HA:Hid ((((w.alloc (.cells #[.slice none 0 0] 22)).alloc (.cells #[.iface 62 (.pointer (some ⟨w.heap.size+1+1,0,none⟩))] 24)).alloc (fltO 0 9)).cell? ⟨w.heap.size,0,none⟩=some (.slice none 0 0)∧(((w.alloc (.cells #[.slice none 0 0] 22)).alloc (.cells #[.iface 62 (.pointer (some ⟨w.heap.size+1+1,0,none⟩))] 24)).alloc (fltO 0 9)).cell? ⟨w.heap.size+1,0,none⟩=some (.iface 62 (.pointer (some ⟨w.heap.size+1+1,0,none⟩)))):=⟨by rw[Lib.cell_of_heap b1];rfl,by rw[Lib.cell_of_heap b2];rfl⟩
  have HB:Hid ((((w.alloc (.cells #[.slice none 0 0] 22)).alloc (.cells #[.iface 62 (.pointer (some ⟨w.heap.size+1+1,0,none⟩))] 24)).alloc (fltO 0 9)).heap[w.heap.size+1+1]?=some (fltO 0 9)):=a3
  clear a1 a2 a3 b1 b2 z1 z2
  go_wp2
  exact⟨_,Zjj _ _ w.heap.size (w.heap.size+1) 0 0 none (.iface 62 (.pointer (some ⟨w.heap.size+1+1,0,none⟩))) rfl rfl HA.out.1 HA.out.2,w.heap.size+1+1,rfl,HB.out,hlow⟩
 ·rw[if_neg hlong] at HX2
  obtain⟨L,hL⟩:∃ L,splitL t=L:=⟨_,rfl⟩
  rw[hL] at HX2
  have hshort:¬ (1048576:Int)<(t.length:Int):=by omega
  obtain⟨Pn,hPnd⟩:∃ Pn,PnP w X=Pn:=⟨_,rfl⟩
  have HPn:Hid (∀ c (a:Act) u,Pn c u→a.tmps.getD 2 undef=.pointer (some ⟨w.heap.size,0,none⟩)→a.tmps.getD 3 undef=.pointer (some ⟨w.heap.size+1,0,none⟩)→a.defers=[{ target:=.fn (.func 174) #[.pointer (some ⟨w.heap.size,0,none⟩),.pointer (some ⟨w.heap.size+1,0,none⟩)],args:=#[] }]→bodyPostD Tryz.prog Tryz.f142 (fun e w'=>PrQ w X e w') (.panic c) a u):=(by rw[← hPnd];exact ZiB)
  have HPd:Hid (PnP w X=Pn):=hPnd
  clear hPnd
  have hs:=fun u=>ZgE t u hl
  rw[hL] at hs
  have HPl:Hid (Plain L):=(by rw[← hL];exact Zkx t)
  have HSl:Hid (∀ s∈L,s.length≤1099511627776):=(by
   intro s hs
   rw[← hL] at hs
   have:=Zkz (M:=1048576) (t:=t) (by omega) s hs
   omega)
  have hLl:L.length≤137438953472:=(by
   rw[← hL]
   have:=split_len t
   omega)
  clear hL
  go_enter_defers Tryz.func142,Tryz.ntmps142
  go_wp2_with fail
  refine (hs _).mono ?_
  rintro e w1 ⟨vL,rfl,hown,hB1⟩
  obtain⟨lo,lc,rfl⟩:=(Zeo hown).form
  obtain⟨wA,hwA⟩:∃ u,(w.alloc (.cells #[.slice none 0 0] 22)).alloc (.cells #[.nilIface] 24)=u:=⟨_,rfl⟩
  have a1:=heap_alloc_new w (.cells #[.slice none 0 0] 22)
  have a2:=heap_alloc_new (w.alloc (.cells #[.slice none 0 0] 22)) (.cells #[.nilIface] 24)
  have z1:(w.alloc (.cells #[.slice none 0 0] 22)).heap.size=w.heap.size+1:=by simp
  have z2:wA.heap.size=w.heap.size+1+1:=(by rw[← hwA];simp)
  rw[z1] at a2
  have a3:=(Lib.alloc_old (w.alloc (.cells #[.slice none 0 0] 22)) (.cells #[.nilIface] 24) w.heap.size (by rw[z1];omega)).trans a1
  rw[hwA] at a2 a3 hown hB1
  have b1:Below w.heap.size w wA:=(by rw[← hwA];exact ((Below.refl _ w).alloc (Nat.le_refl _) _).alloc (by rw[z1];omega) _)
  have hR0:RdP w w1.heap.size L (.slice lo L.length lc) (.slice none 0 0) [] 0 (w1.alloc (.cells #[.slice lo L.length lc,.int .i64 0] 233)):=(by
   have hsz:=hB1.size
   have hB2:Below w1.heap.size w1 (w1.alloc (.cells #[.slice lo L.length lc,.int .i64 0] 233)):=(Below.refl _ w1).alloc (Nat.le_refl _) _
   refine⟨⟨(b1.trans (hB1.mono (by omega))).trans (hB2.mono (by omega)),Zen _ _ _ _,fun f hf=>(by cases hf)⟩,?_,?_,heap_alloc_new _ _,by omega,ZhK (ZhC hown (by omega)) hB2⟩
   ·exact (hB2.block _ (by omega)).trans ((hB1.block _ (by omega)).trans a3)
   ·exact (hB2.block _ (by omega)).trans ((hB1.block _ (by omega)).trans a2))
  have HX0:Hid (thenPs (([]:List Pfd).map (·.x)) (cxPs L.length ([]:List Pfd).length 0 (L.drop 0))=X):=(by
   show _=_
   rw[← HX2]
   simp only[List.map_nil,List.drop_zero,List.length_nil]
   cases cxPs L.length 0 0 L<;>rfl)
  clear HX2 hs hown hB1 hwA a1 a2 a3 b1 z1 z2
  go_wp2
  generalize w1.alloc (.cells #[.slice lo L.length lc,.int .i64 0] 233)=w2 at hR0 ⊢
  generalize w1.heap.size=R at hR0 ⊢
  go_loopw [] (fun wr=>∃ (ov:Value) (F:List Pfd) (p f:Nat),(∃ o c,ov=.slice o F.length c)∧RdP w R L (.slice lo L.length lc) ov F p wr∧p≤L.length∧F.length≤64∧Hid ((L.drop p).length≤f)∧Hid (thenPs (F.map (·.x)) (cxPs f F.length p (L.drop p))=X)) (fun wr=>L.length-ckN wr R)
  case atStart=>exact⟨_,[],0,L.length,⟨none,0,rfl⟩,hR0,Nat.zero_le _,Nat.zero_le _,(by show _≤_;simp),HX0⟩
  case round =>
  clear hR0 HX0
  obtain⟨ov,F,p,f,⟨o,c,rfl⟩,hR,hp,hFl,HF,HI⟩:=hrel
  obtain⟨d0,d1⟩:=hR.ck.cells
  have HK:Hid (ckN wr R=p):=ZbB hR.ck
  by_cases hlt:p<L.length
  ·have hf:=HF.out
   have hfl:0<f:=(by rw[List.length_drop] at hf;omega)
   obtain⟨f',rfl⟩:∃ f',f=f'+1:=⟨f-1,by omega⟩
   have hne:L.drop p≠[]:=(by intro h;have:=congrArg List.length h;rw[List.length_drop] at this;simp at this;omega)
   have HIe:Hid (∀ e,patP F.length p (L.drop p)=.error e→X=.error e):=(by
    intro e he
    rw[← HI.out,Zcz,if_neg hne,he]
    rfl)
   have HN:Hid (∀ x p2 r,patP F.length p (L.drop p)=.ok (x,p2,r)→p2≤L.length∧p<p2∧Hid ((L.drop p2).length≤f')∧F.length<64∧r=L.drop p2):=(by
    intro x p2 r hk
    obtain⟨b1,b2,b3,b4⟩:=Zif hk
    rw[List.length_drop] at hf
    exact⟨b3,b2,(by show _≤_;rw[List.length_drop];omega),b4,b1⟩)
   have HN2:Hid (∀ x p2 r v H,patP F.length p (L.drop p)=.ok (x,p2,r)→Hid (thenPs ((F++[(⟨x,v,H⟩:Pfd)]).map (·.x)) (cxPs f' (F++[(⟨x,v,H⟩:Pfd)]).length p2 (L.drop p2))=X)):=(by
    intro x p2 r v H hk
    show _=_
    have hr:=(HN.out x p2 r hk).2.2.2.2
    rw[← HI.out,Zcz,if_neg hne,hk]
    dsimp only
    rw[hr,List.length_append,List.map_append]
    show thenPs (F.map (·.x)++[x]) (cxPs f' (F.length+1) p2 (L.drop p2))=_
    cases cxPs f' (F.length+1) p2 (L.drop p2) with
    | error e=>rfl
    | ok m=>simp[thenPs])
   have hRd:=hR.keep (Below.drew (Below.refl _ _))
   obtain⟨Rr,hRr⟩:∃ Rr:Value→World→Prop,(fun v u=>∃ x p2 r vo vc H,patP F.length p (L.drop p)=.ok (x,p2,r)∧v=.agg #[.string ⟨x.old.toArray⟩,.string ⟨x.new.toArray⟩,.slice vo H.length vc]∧RdP w R L (.slice lo L.length lc) (.slice o F.length c) F p2 u∧Pown w.heap.size u ⟨x,.slice vo H.length vc,H⟩)=Rr:=⟨_,rfl⟩
   have hcall:Calls Tryz.prog 175 (#[.pointer (some ⟨R,0,none⟩),.int .i64 (F.length:Int)]++#[]) wr.drew fun e w'=>(∃ v,e=.returned v∧True∧Rr v w')∨(∃ c,e=.panicked c∧Pn c w'):=(by
    obtain⟨Y,hY⟩:∃ Y,patP F.length p (L.drop p)=Y:=⟨_,rfl⟩
    have hsz:=hRd.pw.low.size
    have hrl:=hRd.rl
    refine (ZbW hFl wr.drew hRd.ck (fun u hu=>hRd.lines hu) HPl hp hLl HSl Y hY).mono ?_
    intro e w' hq
    cases Y with
    | error z =>
     obtain⟨a,z⟩:=z
     obtain⟨⟨g,rfl,hg⟩,hgr⟩:=hq
     right
     refine⟨_,rfl,?_⟩
     rw[← HPd.out]
     have hk:∀ k x,k≠R→wr.drew.heap[k]?=some x→w'.heap[k]?=some x:=fun k _ hk hx=>(hgr.block k (Array.getElem?_eq_some_iff.1 hx).1 (fun e=>hk (Option.some.inj e))).trans hx
     exact⟨g,a,z,_,rfl,hg,HIe.out _ hY,hRd.pw.low.grown hgr hsz (fun k e=>by cases e;omega),hk _ _ (by omega) hRd.f0,hk _ _ (by omega) hRd.f1⟩
    | ok z =>
     obtain⟨x,p2,r⟩:=z
     obtain⟨hv,H,rfl,hxe,hown,hins,q,hgr⟩:=hq
     obtain⟨vo,vc,rfl⟩:=(Zeo hown).form
     left
     rw[← hRr]
     exact⟨_,rfl,trivial,x,p2,r,vo,vc,H,hY,rfl,hRd.call hgr q,⟨hxe,ZhC hown hsz,fun y hy=>ZhC (hins y hy) hsz⟩⟩)
   have i1:(p:Int)<(L.length:Int):=by omega
   have HRr:Hid (_=Rr):=hRr
   clear hRr HI
   go_upto_region 6 with fail
   refine Zmk Pn (.pointer (some ⟨w.heap.size,0,none⟩)) (.pointer (some ⟨w.heap.size+1,0,none⟩)) [{ target:=.fn (.func 174) #[.pointer (some ⟨w.heap.size,0,none⟩),.pointer (some ⟨w.heap.size+1,0,none⟩)],args:=#[] }] (fun c a u h1 h2 h3 h4=>HPn.out c a u h1 h2 h3 h4) ?_
   refine wp_region_held_drew (S:=fun _=>True) (by kernel_rfl) trivial (fun _=>?_)
   generalize wr.drew=wd at hRd hcall ⊢
   have c0d:=hRd.c0
   refine ZdJ 0 22 _ 1 23 _ rfl (by kernel_rfl) rfl (by kernel_rfl) (by kernel_rfl) (by kernel_rfl) (by kernel_rfl) (.slice o F.length c) wd (ZfL c0d (.tmp 2) (by kernel_rfl) (by kernel_rfl)) trivial (.slice o F.length c) wd (ZfL c0d (.tmp 2) (by kernel_rfl) (by kernel_rfl)) trivial ?_ ?_
   ·simp only[Act.put,Y_a,Y_b,Y_c]
    refine Y_v 1 23 _ rfl (.slice o F.length c) wd (ZfL c0d (.tmp 2) (by kernel_rfl) (by kernel_rfl)) trivial ?_
    simp only[Act.put,Y_a,Y_b,Y_c]
    refine ZdI 2 24 _ (.int .i64 (F.length:Int)) rfl (by kernel_rfl) (by kernel_rfl) (by kernel_rfl) (by kernel_rfl) (ZhZ (by decide) (by decide)) (Or.inl ⟨by kernel_rfl,fun u hu=>by kernel_rfl⟩) trivial ?_
    simp only[Act.put,Y_a,Y_b,Y_c]
    refine ZdF 3 25 _ rfl (by kernel_rfl) (by kernel_rfl) (by kernel_rfl) 175 (.func 175) #[.tmp 4,.tmp 24] #[233,3] (by kernel_rfl) #[] (by kernel_rfl) #[.pointer (some ⟨R,0,none⟩),.int .i64 (F.length:Int)] (by kernel_rfl) (enters_of Tryz.func175 (by kernel_rfl) rfl) Rr Pn (fun c u h=>⟨h,rfl,rfl,rfl⟩) ?_ ?_
    ·exact hcall
    intro v0 u1 _ hq
    rw[← HRr.out] at hq
    obtain⟨x,p2,r,vo,vc,H,hk2,rfl,hR1,hown1⟩:=hq
    have c1u:=hR1.c0
    have hRA:=hR1.keep ((Below.refl _ u1).alloc (Nat.le_refl _) (pxO ⟨x,.slice vo H.length vc,H⟩))
    have c2u:=hRA.c0
    simp only[Act.put,Y_a,Y_b,Y_c]
    refine Y_v 4 26 _ rfl (.slice (some ⟨u1.heap.size,0,none⟩) 1 1) (u1.alloc (pxO ⟨x,.slice vo H.length vc,H⟩)) (by kernel_rfl) trivial ?_
    simp only[Act.put,Y_a,Y_b,Y_c]
    have hlt2:=HN.out x p2 r hk2
    have hownA:=hown1.keep ((Below.refl _ u1).alloc (Nat.le_refl _) (pxO ⟨x,.slice vo H.length vc,H⟩))
    obtain⟨v3,u3,hr3,hown3,hg3,_⟩:=ZjJ (u1.alloc (pxO ⟨x,.slice vo H.length vc,H⟩)) 22 42 22 (.agg #[.string ⟨#[]⟩,.string ⟨#[]⟩,.slice none 0 0]) 3 56 Tryz.underlying22 infoPx rfl (by decide) (by decide) w.heap.size _ _ _ hRA.pw.own _ 1 (pxC ⟨x,.slice vo H.length vc,H⟩) (Zhx u1 ⟨x,.slice vo H.length vc,H⟩) rfl (fun u hu=>by simp[pxC] at hu;rcases hu with rfl | rfl | rfl<;>rfl) (by omega) hRA.pw.low.size
    have hR3:=hRA.more hownA hg3 hown3
    obtain⟨o3,k3,rfl⟩:=(Zeo hown3).form
    refine Y_v 5 27 _ rfl (.slice o3 (F.length+1) k3) u3 (ZcT (.tmp 22) (.tmp 26) (by kernel_rfl) (by kernel_rfl) (by kernel_rfl) hr3) trivial ?_
    simp only[Act.put,Y_a,Y_b,Y_c]
    refine Y_s 6 _ rfl (u3.setCell ⟨w.heap.size,0,none⟩ (.slice o3 (F.length+1) k3)) (Zda hR3.2.1 hR3.2.2 (.tmp 2) (.tmp 27) (by kernel_rfl) (by kernel_rfl) (by kernel_rfl)) trivial ?_
    refine wpAnyH_done (by kernel_rfl) ?_ _
    refine PanC.normal ?_
    have hR4:=hR3.1
    go_wp2
    refine⟨⟨_,F++[⟨x,.slice vo H.length vc,H⟩],p2,f',⟨o3,k3,by rw[List.length_append];rfl⟩,hR4,hlt2.1,by rw[List.length_append];simp;omega,hlt2.2.2.1,HN2.out x p2 r _ _ hk2⟩,?_⟩
    rw[ZbB hR4.ck,HK.out]
    omega
   ·simp only[Act.put,Y_a,Y_b,Y_c]
    refine ZdI 2 24 _ (.int .i64 (F.length:Int)) rfl (by kernel_rfl) (by kernel_rfl) (by kernel_rfl) (by kernel_rfl) (ZhZ (by decide) (by decide)) (Or.inl ⟨by kernel_rfl,fun u hu=>by kernel_rfl⟩) trivial ?_
    simp only[Act.put,Y_a,Y_b,Y_c]
    refine ZdM 0 22 _ 3 25 _ rfl (by kernel_rfl) rfl (by kernel_rfl) (by kernel_rfl) (by kernel_rfl) (by kernel_rfl) (.slice o F.length c) wd (ZfL c0d (.tmp 2) (by kernel_rfl) (by kernel_rfl)) trivial 175 (.func 175) #[.tmp 4,.tmp 24] #[233,3] (by kernel_rfl) #[] (by kernel_rfl) #[.pointer (some ⟨R,0,none⟩),.int .i64 (F.length:Int)] (by kernel_rfl) (enters_of Tryz.func175 (by kernel_rfl) rfl) Rr Pn (fun c u h=>⟨h,rfl,rfl,rfl⟩) ?_ ?_ ?_
    ·exact hcall
    ·simp only[Act.put,Y_a,Y_b,Y_c]
     refine ZdF 3 25 _ rfl (by kernel_rfl) (by kernel_rfl) (by kernel_rfl) 175 (.func 175) #[.tmp 4,.tmp 24] #[233,3] (by kernel_rfl) #[] (by kernel_rfl) #[.pointer (some ⟨R,0,none⟩),.int .i64 (F.length:Int)] (by kernel_rfl) (enters_of Tryz.func175 (by kernel_rfl) rfl) Rr Pn (fun c u h=>⟨h,rfl,rfl,rfl⟩) ?_ ?_
     ·exact hcall
     intro v0 u1 _ hq
     rw[← HRr.out] at hq
     obtain⟨x,p2,r,vo,vc,H,hk2,rfl,hR1,hown1⟩:=hq
     have c1u:=hR1.c0
     have hRA:=hR1.keep ((Below.refl _ u1).alloc (Nat.le_refl _) (pxO ⟨x,.slice vo H.length vc,H⟩))
     have c2u:=hRA.c0
     simp only[Act.put,Y_a,Y_b,Y_c]
     refine Y_v 4 26 _ rfl (.slice (some ⟨u1.heap.size,0,none⟩) 1 1) (u1.alloc (pxO ⟨x,.slice vo H.length vc,H⟩)) (by kernel_rfl) trivial ?_
     simp only[Act.put,Y_a,Y_b,Y_c]
     have hlt2:=HN.out x p2 r hk2
     have hownA:=hown1.keep ((Below.refl _ u1).alloc (Nat.le_refl _) (pxO ⟨x,.slice vo H.length vc,H⟩))
     obtain⟨v3,u3,hr3,hown3,hg3,_⟩:=ZjJ (u1.alloc (pxO ⟨x,.slice vo H.length vc,H⟩)) 22 42 22 (.agg #[.string ⟨#[]⟩,.string ⟨#[]⟩,.slice none 0 0]) 3 56 Tryz.underlying22 infoPx rfl (by decide) (by decide) w.heap.size _ _ _ hRA.pw.own _ 1 (pxC ⟨x,.slice vo H.length vc,H⟩) (Zhx u1 ⟨x,.slice vo H.length vc,H⟩) rfl (fun u hu=>by simp[pxC] at hu;rcases hu with rfl | rfl | rfl<;>rfl) (by omega) hRA.pw.low.size
     have hR3:=hRA.more hownA hg3 hown3
     obtain⟨o3,k3,rfl⟩:=(Zeo hown3).form
     refine Y_v 5 27 _ rfl (.slice o3 (F.length+1) k3) u3 (ZcT (.tmp 22) (.tmp 26) (by kernel_rfl) (by kernel_rfl) (by kernel_rfl) hr3) trivial ?_
     simp only[Act.put,Y_a,Y_b,Y_c]
     refine Y_s 6 _ rfl (u3.setCell ⟨w.heap.size,0,none⟩ (.slice o3 (F.length+1) k3)) (Zda hR3.2.1 hR3.2.2 (.tmp 2) (.tmp 27) (by kernel_rfl) (by kernel_rfl) (by kernel_rfl)) trivial ?_
     refine wpAnyH_done (by kernel_rfl) ?_ _
     refine PanC.normal ?_
     have hR4:=hR3.1
     go_wp2
     refine⟨⟨_,F++[⟨x,.slice vo H.length vc,H⟩],p2,f',⟨o3,k3,by rw[List.length_append];rfl⟩,hR4,hlt2.1,by rw[List.length_append];simp;omega,hlt2.2.2.1,HN2.out x p2 r _ _ hk2⟩,?_⟩
     rw[ZbB hR4.ck,HK.out]
     omega
    ·intro v0 u1 _ hq
     rw[← HRr.out] at hq
     obtain⟨x,p2,r,vo,vc,H,hk2,rfl,hR1,hown1⟩:=hq
     have c1u:=hR1.c0
     have hRA:=hR1.keep ((Below.refl _ u1).alloc (Nat.le_refl _) (pxO ⟨x,.slice vo H.length vc,H⟩))
     have c2u:=hRA.c0
     simp only[Act.put,Y_a,Y_b,Y_c]
     refine ZdJ 0 22 _ 4 26 _ rfl (by kernel_rfl) rfl (by kernel_rfl) (by kernel_rfl) (by kernel_rfl) (by kernel_rfl) (.slice o F.length c) u1 (ZfL c1u (.tmp 2) (by kernel_rfl) (by kernel_rfl)) trivial (.slice (some ⟨u1.heap.size,0,none⟩) 1 1) (u1.alloc (pxO ⟨x,.slice vo H.length vc,H⟩)) (by kernel_rfl) trivial ?_ ?_
     ·simp only[Act.put,Y_a,Y_b,Y_c]
      refine Y_v 4 26 _ rfl (.slice (some ⟨u1.heap.size,0,none⟩) 1 1) (u1.alloc (pxO ⟨x,.slice vo H.length vc,H⟩)) (by kernel_rfl) trivial ?_
      simp only[Act.put,Y_a,Y_b,Y_c]
      have hlt2:=HN.out x p2 r hk2
      have hownA:=hown1.keep ((Below.refl _ u1).alloc (Nat.le_refl _) (pxO ⟨x,.slice vo H.length vc,H⟩))
      obtain⟨v3,u3,hr3,hown3,hg3,_⟩:=ZjJ (u1.alloc (pxO ⟨x,.slice vo H.length vc,H⟩)) 22 42 22 (.agg #[.string ⟨#[]⟩,.string ⟨#[]⟩,.slice none 0 0]) 3 56 Tryz.underlying22 infoPx rfl (by decide) (by decide) w.heap.size _ _ _ hRA.pw.own _ 1 (pxC ⟨x,.slice vo H.length vc,H⟩) (Zhx u1 ⟨x,.slice vo H.length vc,H⟩) rfl (fun u hu=>by simp[pxC] at hu;rcases hu with rfl | rfl | rfl<;>rfl) (by omega) hRA.pw.low.size
      have hR3:=hRA.more hownA hg3 hown3
      obtain⟨o3,k3,rfl⟩:=(Zeo hown3).form
      refine Y_v 5 27 _ rfl (.slice o3 (F.length+1) k3) u3 (ZcT (.tmp 22) (.tmp 26) (by kernel_rfl) (by kernel_rfl) (by kernel_rfl) hr3) trivial ?_
      simp only[Act.put,Y_a,Y_b,Y_c]
      refine Y_s 6 _ rfl (u3.setCell ⟨w.heap.size,0,none⟩ (.slice o3 (F.length+1) k3)) (Zda hR3.2.1 hR3.2.2 (.tmp 2) (.tmp 27) (by kernel_rfl) (by kernel_rfl) (by kernel_rfl)) trivial ?_
      refine wpAnyH_done (by kernel_rfl) ?_ _
      refine PanC.normal ?_
      have hR4:=hR3.1
      go_wp2
      refine⟨⟨_,F++[⟨x,.slice vo H.length vc,H⟩],p2,f',⟨o3,k3,by rw[List.length_append];rfl⟩,hR4,hlt2.1,by rw[List.length_append];simp;omega,hlt2.2.2.1,HN2.out x p2 r _ _ hk2⟩,?_⟩
      rw[ZbB hR4.ck,HK.out]
      omega
     ·simp only[Act.put,Y_a,Y_b,Y_c]
      refine Y_v 0 22 _ rfl (.slice o F.length c) (u1.alloc (pxO ⟨x,.slice vo H.length vc,H⟩)) (ZfL c2u (.tmp 2) (by kernel_rfl) (by kernel_rfl)) trivial ?_
      simp only[Act.put,Y_a,Y_b,Y_c]
      have hlt2:=HN.out x p2 r hk2
      have hownA:=hown1.keep ((Below.refl _ u1).alloc (Nat.le_refl _) (pxO ⟨x,.slice vo H.length vc,H⟩))
      obtain⟨v3,u3,hr3,hown3,hg3,_⟩:=ZjJ (u1.alloc (pxO ⟨x,.slice vo H.length vc,H⟩)) 22 42 22 (.agg #[.string ⟨#[]⟩,.string ⟨#[]⟩,.slice none 0 0]) 3 56 Tryz.underlying22 infoPx rfl (by decide) (by decide) w.heap.size _ _ _ hRA.pw.own _ 1 (pxC ⟨x,.slice vo H.length vc,H⟩) (Zhx u1 ⟨x,.slice vo H.length vc,H⟩) rfl (fun u hu=>by simp[pxC] at hu;rcases hu with rfl | rfl | rfl<;>rfl) (by omega) hRA.pw.low.size
      have hR3:=hRA.more hownA hg3 hown3
      obtain⟨o3,k3,rfl⟩:=(Zeo hown3).form
      refine Y_v 5 27 _ rfl (.slice o3 (F.length+1) k3) u3 (ZcT (.tmp 22) (.tmp 26) (by kernel_rfl) (by kernel_rfl) (by kernel_rfl) hr3) trivial ?_
      simp only[Act.put,Y_a,Y_b,Y_c]
      refine Y_s 6 _ rfl (u3.setCell ⟨w.heap.size,0,none⟩ (.slice o3 (F.length+1) k3)) (Zda hR3.2.1 hR3.2.2 (.tmp 2) (.tmp 27) (by kernel_rfl) (by kernel_rfl) (by kernel_rfl)) trivial ?_
      refine wpAnyH_done (by kernel_rfl) ?_ _
      refine PanC.normal ?_
      have hR4:=hR3.1
      go_wp2
      refine⟨⟨_,F++[⟨x,.slice vo H.length vc,H⟩],p2,f',⟨o3,k3,by rw[List.length_append];rfl⟩,hR4,hlt2.1,by rw[List.length_append];simp;omega,hlt2.2.2.1,HN2.out x p2 r _ _ hk2⟩,?_⟩
      rw[ZbB hR4.ck,HK.out]
      omega
  ·have hend:decide ((p:Int)<(L.length:Int))=false:=decide_eq_false (by omega)
   have hXv:X=.ok (F.map (·.x)):=(by
    rw[← HI.out,List.drop_eq_nil_of_le (by omega)]
    cases f with
    | zero=>simp[cxPs,thenPs]
    | succ f=>simp[cxPs,thenPs])
   have c0:=hR.c0
   have c1:wr.cell? ⟨w.heap.size+1,0,none⟩=some .nilIface:=by rw[Lib.cell_of_heap hR.f1];rfl
   have z0:=Lib.frozen_of_heap hR.f0 0
   have z1:=Lib.frozen_of_heap hR.f1 0
   have g0:=ZdS wr w.heap.size 0 (.slice o F.length c)
   have s0:=heap_setCell_same wr w.heap.size 0 _ _ (.slice o F.length c) hR.f0
   have h1:Pw w (.slice o F.length c) F (wr.setCell ⟨w.heap.size,0,none⟩ (.slice o F.length c)):=⟨hR.pw.low.setCell (Nat.le_refl _) _,hR.pw.own.kept g0 (.inr (ZhE hR.pw.own hR.f0 (by decide))),fun f hf=>(hR.pw.ins f hf).box hR.f0 (by decide) (by decide) g0⟩
   have t1:(wr.setCell ⟨w.heap.size,0,none⟩ (.slice o F.length c)).heap[w.heap.size+1]?=some (.cells #[.nilIface] 24):=(Below.heap_setCell _ _ _ _ (by simp)).trans hR.f1
   have g1:=ZdS (wr.setCell ⟨w.heap.size,0,none⟩ (.slice o F.length c)) (w.heap.size+1) 0 .nilIface
   have s1:=heap_setCell_same _ (w.heap.size+1) 0 _ _ .nilIface t1
   have s2:((wr.setCell ⟨w.heap.size,0,none⟩ (.slice o F.length c)).setCell ⟨w.heap.size+1,0,none⟩ .nilIface).heap[w.heap.size]?=_:=(Below.heap_setCell _ _ _ _ (by simp)).trans s0
   have h2:Pw w (.slice o F.length c) F ((wr.setCell ⟨w.heap.size,0,none⟩ (.slice o F.length c)).setCell ⟨w.heap.size+1,0,none⟩ .nilIface):=⟨h1.low.setCell (by show w.heap.size≤w.heap.size+1;omega) _,h1.own.kept g1 (.inr (ZhE h1.own t1 (by decide))),fun f hf=>(h1.ins f hf).box t1 (by decide) (by decide) g1⟩
   have c1':(wr.setCell ⟨w.heap.size,0,none⟩ (.slice o F.length c)).cell? ⟨w.heap.size+1,0,none⟩=some .nilIface:=by rw[Lib.cell_of_heap t1];rfl
   have z1':=Lib.frozen_of_heap t1 0
   have e0:((wr.setCell ⟨w.heap.size,0,none⟩ (.slice o F.length c)).setCell ⟨w.heap.size+1,0,none⟩ .nilIface).cell? ⟨w.heap.size,0,none⟩=some (.slice o F.length c):=by rw[Lib.cell_of_heap s2];rfl
   have e1:((wr.setCell ⟨w.heap.size,0,none⟩ (.slice o F.length c)).setCell ⟨w.heap.size+1,0,none⟩ .nilIface).cell? ⟨w.heap.size+1,0,none⟩=some .nilIface:=by rw[Lib.cell_of_heap s1];rfl
   subst hXv
   clear HI HPn HPd hR h1 g0 g1 s0 s1 s2 t1
   go_wp2
   refine leaves_cons (f:=174) (args:=#[.pointer (some ⟨w.heap.size,0,none⟩),.pointer (some ⟨w.heap.size+1,0,none⟩)]) (by simp) (by simp[go_sem]) ?_
   refine (Zbf _ _ _).mono ?_
   rintro e u' w'' ⟨rfl,rfl,rfl⟩
   exact⟨_,Zjj _ _ w.heap.size (w.heap.size+1) F.length c o .nilIface rfl rfl e0 e1,_,F,rfl,h2,rfl⟩
end

end Go.Proofs.YtcniomgjikienaaGreatDoor
