/-
  Texts that belong together, joined: NoLs, CrK, CrM, CrN, CrV, CrH, CrZ, PgM, CrX, CrY, PgS, CrL, CrQ, CrR, CrU, PgT, CrP, CrT, CrW, PrA, UrA, UrB, UkD, UnD, UkE, UkF, UkG, UrC, UrD, UkH.
-/
import Derived.Test.YtcniomgjikienaaGreatDoorVsA10
import Derived.Deep.CutBlock
import Derived.Deep.CutRange
import Derived.ChangeKeysEq
import Derived.Laws.StructEq

set_option maxHeartbeats 16000000
set_option maxRecDepth 100000
namespace Go.Proofs.YtcniomgjikienaaGreatDoor

section
open Go.RowKit
attribute [local go_sem] ByteArray.extract_mk Zhc
theorem Zkq {q:UInt8→Bool}:∀ (s:List UInt8) (i:Nat) (hi:i<s.length),q s[i]=true→(∀ j (hj:j<i),q (s[j]'(by omega))=false)→spB q s=some (s.take i,s[i],s.drop (i+1))
 | [],_,hi,_,_=>by simp at hi
 | c::t,0,_,hq,_=>by
  simp only[List.getElem_cons_zero] at hq
  simp[spB,hq]
 | c::t,i+1,hi,hq,h=>by
  have h0:=h 0 (by omega)
  simp only[List.getElem_cons_zero] at h0
  have ih:=Zkq t i (by simpa using hi) (by simpa using hq) (fun j hj=>by have:=h (j+1) (by omega);simpa using this)
  simp[spB,h0,ih]
theorem Zkr {q:UInt8→Bool}:∀ (s:List UInt8),(∀ j (hj:j<s.length),q s[j]=false)→spB q s=none
 | [],_=>rfl
 | c::t,h=>by
  have h0:=h 0 (by simp)
  simp only[List.getElem_cons_zero] at h0
  have ih:=Zkr t (fun j hj=>by have:=h (j+1) (by simp;omega);simpa using this)
  simp[spB,h0,ih]
def LnsP (s:List UInt8) (x:Ending):Prop :=
 match lnsP s with
 | some (A,N)=>x=.returned (.tuple #[.int .i64 A,.int .i64 N,.bool true])
 | none=>∃ A N,x=.returned (.tuple #[.int .i64 A,.int .i64 N,.bool false])
theorem LnsP.mk0 {s:List UInt8} (h2:∀ j (hj:j<s.length),isK s[j]=false) {b:Bool} (hb:(decide (Pn.parseE s=0) && decide (1≤Pn.parseV s))=b) :
  LnsP s (.returned (.tuple #[.int .i64 (Pn.parseV s),.int .i64 1,.bool b])):=by
 unfold LnsP lnsP
 rw[Zkr s h2]
 dsimp only
 cases b with
 | true =>
  simp only[Bool.and_eq_true,decide_eq_true_eq] at hb
  rw[if_pos hb]
 | false =>
  rw[if_neg (by intro hq;simp[hq] at hb)]
  exact⟨_,_,rfl⟩
end

section
open Go.RowKit
attribute [local go_sem] ByteArray.extract_mk Zhc
abbrev ptO5 (a p n:Int) (vk vl:Value):Obj:=.cells #[.int .i64 a,.int .i64 p,.int .i64 n,vk,vl] 176
def Bp5 (u:World) (b:Nat) (a p n:Int) (vk vl:Value):Prop:=u.heap[b]?=some (ptO5 a p n vk vl)
section
variable {u u':World} {b:Nat} {a p n:Int} {vk vl:Value}
theorem Bp5.cells (q:Bp5 u b a p n vk vl):u.cell? ⟨b,0,none⟩=some (.int .i64 a)∧u.cell? ⟨b,1,none⟩=some (.int .i64 p)∧u.cell? ⟨b,2,none⟩=some (.int .i64 n)∧u.cell? ⟨b,3,none⟩=some vk∧u.cell? ⟨b,4,none⟩=some vl:=by
 unfold Bp5 ptO5 at q
 refine⟨?_,?_,?_,?_,?_⟩<;>rw[Lib.cell_of_heap q]<;>rfl
theorem Bp5.frozen (q:Bp5 u b a p n vk vl) (j:Nat):u.frozen? ⟨b,j,none⟩=false:=Lib.frozen_of_heap q j
theorem Bp5.lt (q:Bp5 u b a p n vk vl):b<u.heap.size:=(Array.getElem?_eq_some_iff.1 q).1
theorem Bp5.off (q:Bp5 u b a p n vk vl) {g:Option Nat} (hg:u.grownBy u' g) (hr:some b≠g):Bp5 u' b a p n vk vl:=(hg.block b q.lt hr).trans q
theorem Bp5.low (q:Bp5 u b a p n vk vl) (hb:Below u.heap.size u u'):Bp5 u' b a p n vk vl:=(hb.block b q.lt).trans q
end
def RgR (R:Nat) (vL:Value) (Z:Except (Nat × Int) ((Int × Int) × Nat)) (a p n:Int) (w':World):Prop :=
 match Z with
 | .error x=>RdZ w' R vL (.error x)
 | .ok (q,p1)=>a=(p1:Int)∧p=q.1∧n=q.2∧RdZ w' R vL (.ok p1)
theorem RdZ.at {u:World} {R:Nat} {vL:Value} {st:Except (Nat × Int) Nat} (h:RdZ u R vL st):∃ p':Nat,u.cell? ⟨R,1,none⟩=some (.int .i64 (p':Int))∧∀ p,st=.ok p→p'=p:=by
 match st,h with
 | .ok p,h=>exact⟨p,(Rx.cells h).2.1,fun _ q=>by cases q;rfl⟩
 | .error (_,_),⟨⟨p',h⟩,_⟩=>exact⟨p',(Rx.cells h).2.1,fun _ q=>by cases q⟩
end

section
open Go.RowKit
def kcells (x:Sde):List Value:=x.map fun y=>.int .u8 (y.1.toNat:Int)
def HK (w:World) (v:Value) (x:Sde):Prop:=Holds w v x.length (kcells x)
theorem Zfg (x:Sde):(kcells x).length=x.length:=by simp[kcells]
theorem HK.at {w:World} {ao:Option Addr} {n c:Nat} {x:Sde} (h:HK w (.slice ao n c) x) (h0:0<x.length):∃ b off,ao=some ⟨b,off,none⟩∧b<w.heap.size∧∀ k (hk:k<x.length),w.cell? ⟨b,off+k,none⟩=some (.int .u8 (x[k].1.toNat:Int)):=by
 obtain⟨b,off,c',hv,hb,hc⟩:=Holds.at h (by rw[Zfg];exact h0)
 cases hv
 refine⟨b,off,rfl,hb,fun k hk=>?_⟩
 have:=hc k (by rw[Zfg];exact hk)
 simpa [kcells] using this
theorem HK.keep {w w':World} {v:Value} {x:Sde} (h:HK w v x) (hb:Below w.heap.size w w'):HK w' v x:=Holds.keep h fun k hk=>hb.block k hk
structure Hsd (w:World) (vk vl:Value) (x:Sde):Prop where
 k:HK w vk x
 l:HS w vl (x.map (·.2))
theorem Hsd.keep {w w':World} {vk vl:Value} {x:Sde} (h:Hsd w vk vl x) (hb:Below w.heap.size w w'):Hsd w' vk vl x:=⟨h.k.keep hb,HS.keep h.l hb (Nat.le_refl _)⟩
theorem Hsd.form {w:World} {vk vl:Value} {x:Sde} (h:Hsd w vk vl x):∃ ko kc lo lc,vk=.slice ko x.length kc∧vl=.slice lo x.length lc:=by
 obtain⟨ko,kc,h1⟩:=Holds.form h.k
 obtain⟨lo,lc,h2⟩:=Holds.form h.l
 rw[List.length_map] at h2
 exact⟨ko,kc,lo,lc,h1,h2⟩
end

section
open Go.RowKit
def bcs (ks:List UInt8):List Value:=ks.map fun c=>.int .u8 (c.toNat:Int)
structure Lx (w:World) (R X:Nat) (a p n:Int) (vk vl:Value) (ks:List UInt8) (ts:List (List UInt8)) (u:World):Prop where
 os:u.os=w.os
 tape:u.tape=w.tape
 output:u.output=w.output
 size:w.heap.size≤u.heap.size
 block:∀ k,k<w.heap.size→k≠R→k≠X→u.heap[k]?=w.heap[k]?
 box:Bp5 u X a p n vk vl
 ok:u.ownsRow w.heap.size 5 1 vk ks.length (bcs ks)
 ol:u.ownsRow w.heap.size 9 1 vl ts.length (scells ts)
section
variable {w u u':World} {R X:Nat} {a p n:Int} {vk vl:Value} {ks:List UInt8} {ts:List (List UInt8)}
theorem Lx.low (h:Lx w R X a p n vk vl ks ts u) (hb:Below u.heap.size u u'):Lx w R X a p n vk vl ks ts u' :=
 ⟨hb.os.trans h.os,hb.tape.trans h.tape,hb.output.trans h.output,Nat.le_trans h.size hb.size,fun k h1 h2 h3=>(hb.block k (Nat.lt_of_lt_of_le h1 h.size)).trans (h.block k h1 h2 h3),h.box.low hb,ZhK h.ok hb,ZhK h.ol hb⟩
theorem Lx.call (h:Lx w R X a p n vk vl ks ts u) (hg:u.grownBy u' (some R)) (hR:R<w.heap.size) (hX:X≠R):Lx w R X a p n vk vl ks ts u' :=
 ⟨hg.os.trans h.os,hg.tape.trans h.tape,hg.output.trans h.output,Nat.le_trans h.size hg.size,fun k h1 h2 h3=>(hg.block k (Nat.lt_of_lt_of_le h1 h.size) (fun e=>h2 (Option.some.inj e))).trans (h.block k h1 h2 h3),h.box.off hg (fun e=>hX (Option.some.inj e)),ZhI h.ok hg hR,ZhI h.ol hg hR⟩
end
def thenS (x:Sde) (Y:Except (Nat × Int) (Sde × Nat)):Except (Nat × Int) (Sde × Nat) :=
 match Y with
 | .error e=>.error e
 | .ok (l,p)=>.ok (x++l,p)
def LnQ5 (R:Nat) (vL:Value) (Z:Except (Nat × Int) (Sde × Nat)) (x:Sde) (w':World):Prop :=
 match Z with
 | .error e=>RdZ w' R vL (.error e)
 | .ok (x0,p1)=>x=x0∧RdZ w' R vL (.ok p1)
end

section
open Ln
def stP {α:Type}:Except (Nat × Int) (α × Nat)→Except (Nat × Int) Nat
 | .error e=>.error e
 | .ok (_,p)=>.ok p
end

section
open Go.RowKit Go.Proofs.YtcniomgjikienaaGreatDoor.Tx
attribute [local go_sem] ByteArray.extract_mk Zhc
end

section
open Ln
end

section
open Ln
/- layer 15 -/
end

section
open Go.RowKit
end

section
open Go.RowKit
end

section
open Go.RowKit Go.Proofs.YtcniomgjikienaaGreatDoor.Tx
theorem RdZ.blk {u:World} {R:Nat} {vL:Value} {st:Except (Nat × Int) Nat} (h:RdZ u R vL st):∃ cs,u.heap[R]?=some (.cells cs 123):=by
 match st,h with
 | .ok _,h=>exact⟨_,h⟩
 | .error (_,_),⟨⟨_,h⟩,_⟩=>exact⟨_,h⟩
def nmN (Z:Except (Nat × Int) (List UInt8 × Nat)):List UInt8:=match Z with
 | .error _=>[]
 | .ok (n,_)=>n
theorem NxQ.st {R:Nat} {vL:Value} {Z:Except (Nat × Int) (List UInt8 × Nat)} {x:Ending} {w':World} (h:NxQ R vL Z x w'):x=.returned (.string ⟨(nmN Z).toArray⟩)∧RdZ w' R vL (stP Z):=by
 rcases Z with e | ⟨n,p1⟩
 ·exact h
 ·exact h
structure Pzr (wb:World) (R S:Nat) (vL:Value) (n1 n2:List UInt8) (hv:Value) (P:List (Hk × Value)) (st:Except (Nat × Int) Nat) (u:World):Prop where
 gr:wb.grownBy u (some R)
 box:u.heap[S]?=some (.cells #[.string ⟨n1.toArray⟩,.string ⟨n2.toArray⟩,hv] 42)
 own:u.ownsRow wb.heap.size 45 5 hv P.length (hkcells P)
 ins:∀ x∈P,u.ownsRow wb.heap.size 47 2 x.2 x.1.ls.length (mkcells x.1.ls)
 rd:RdZ u R vL st
 ge:wb.heap.size≤S
 rl:R<wb.heap.size
section
variable {wb u u':World} {R S:Nat} {vL hv:Value} {n1 n2:List UInt8} {P:List (Hk × Value)} {st st':Except (Nat × Int) Nat}
theorem Pzr.keep (h:Pzr wb R S vL n1 n2 hv P st u) (hb:Below u.heap.size u u'):Pzr wb R S vL n1 n2 hv P st u':=⟨ZdT h.gr (ZfO hb _),(hb.block S (Array.getElem?_eq_some_iff.1 h.box).1).trans h.box,ZhK h.own hb,fun x hx=>ZhK (h.ins x hx) hb,h.rd.low hb,h.ge,h.rl⟩
theorem Pzr.ne (h:Pzr wb R S vL n1 n2 hv P st u):R≠S:=by have h1:=h.ge;have h2:=h.rl;omega
theorem Pzr.call (h:Pzr wb R S vL n1 n2 hv P st u) (hg:u.grownBy u' (some R)) (q:RdZ u' R vL st'):Pzr wb R S vL n1 n2 hv P st' u':=⟨ZdT h.gr hg,(hg.block S (Array.getElem?_eq_some_iff.1 h.box).1 (fun e=>h.ne (Option.some.inj e).symm)).trans h.box,ZhI h.own hg h.rl,fun x hx=>ZhI (h.ins x hx) hg h.rl,q,h.ge,h.rl⟩
theorem Pzr.cells (h:Pzr wb R S vL n1 n2 hv P st u):u.cell? ⟨S,0,none⟩=some (.string ⟨n1.toArray⟩)∧u.cell? ⟨S,1,none⟩=some (.string ⟨n2.toArray⟩)∧u.cell? ⟨S,2,none⟩=some hv:=by
 refine⟨?_,?_,?_⟩<;>rw[Lib.cell_of_heap h.box]<;>rfl
theorem Pzr.frozen (h:Pzr wb R S vL n1 n2 hv P st u) (j:Nat):u.frozen? ⟨S,j,none⟩=false:=Lib.frozen_of_heap h.box j
theorem Pzr.put (h:Pzr wb R S vL n1 n2 hv P st u) (j:Nat) (z:Value) {m1 m2:List UInt8} {hv':Value} (hc:#[Value.string ⟨n1.toArray⟩,.string ⟨n2.toArray⟩,hv].setIfInBounds j z=#[.string ⟨m1.toArray⟩,.string ⟨m2.toArray⟩,hv']) (ho:u.ownsRow wb.heap.size 45 5 hv' P.length (hkcells P)):Pzr wb R S vL m1 m2 hv' P st (u.setCell ⟨S,j,none⟩ z):=by
 have hg:=ZdS u S j z
 refine⟨ZdR h.gr h.ge j z,?_,ho.kept hg (.inr (ZhE ho h.box (by decide))),fun x hx=>(h.ins x hx).kept hg (.inr (ZhE (h.ins x hx) h.box (by decide))),h.rd.off hg (fun e=>h.ne (Option.some.inj e)),h.ge,h.rl⟩
 have:=heap_setCell_same u S j _ _ z h.box
 rw[hc] at this
 exact this
theorem Pzr.more (h:Pzr wb R S vL n1 n2 hv P st u) {x:Hk} {y hv':Value} (hy:u.ownsRow wb.heap.size 47 2 y x.ls.length (mkcells x.ls)) (hg:u.grownBy u' hv.ownBlock) (ho:u'.ownsRow wb.heap.size 45 5 hv' (P.length+1) (hkcells P++hkC x y)) :
  Pzr wb R S vL n1 n2 hv' (P++[(x,y)]) st (u'.setCell ⟨S,2,none⟩ hv')∧u'.cell? ⟨S,2,none⟩=some hv∧u'.frozen? ⟨S,2,none⟩=false:=by
 have hge:∀ j,hv.ownBlock=some j→wb.heap.size≤j:=fun j hj=>ZhJ h.own hj
 have hb:u'.heap[S]?=some (.cells #[.string ⟨n1.toArray⟩,.string ⟨n2.toArray⟩,hv] 42):=(hg.block S (Array.getElem?_eq_some_iff.1 h.box).1 (fun e=>ZhE h.own h.box (by decide) e.symm)).trans h.box
 have hgR:wb.grownBy u' (some R):=⟨hg.os.trans h.gr.os,hg.tape.trans h.gr.tape,hg.output.trans h.gr.output,Nat.le_trans h.gr.size hg.size,fun k h1 h2=>(hg.block k (Nat.lt_of_lt_of_le h1 h.gr.size) (fun e=>by have:=hge k e.symm;omega)).trans (h.gr.block k h1 h2)⟩
 have hck:RdZ u' R vL st:=h.rd.off hg (fun e=>by have:=hge R e.symm;have:=h.rl;omega)
 have key:∀ {v:Value} {n:Nat} {xs:List Value},u.ownsRow wb.heap.size 47 2 v n xs→u'.ownsRow wb.heap.size 47 2 v n xs:=by
  intro v n xs hv2
  refine⟨hv2.1,?_⟩
  rcases hv2.2 with q | ⟨b,cap,cur,rfl,q2,q3,q4⟩
  ·exact .inl q
  ·refine .inr ⟨b,cap,cur,rfl,q2,?_,q4⟩
   rw[hg.block b (Array.getElem?_eq_some_iff.1 q3).1 (fun e=>ZhE h.own q3 (by decide) e.symm)]
   exact q3
 have hg2:=ZdS u' S 2 hv'
 have hkc:hkcells (P++[(x,y)])=hkcells P++hkC x y:=by rw[Zeh];simp[hkcells,hkC]
 refine⟨⟨ZdR hgR h.ge 2 hv',heap_setCell_same u' S 2 _ _ hv' hb,?_,?_,hck.off hg2 (fun e=>h.ne (Option.some.inj e)),h.ge,h.rl⟩,by rw[Lib.cell_of_heap hb];rfl,Lib.frozen_of_heap hb 2⟩
 ·rw[List.length_append,hkc]
  exact ho.kept hg2 (.inr (ZhE ho hb (by decide)))
 ·intro z hz
  rcases List.mem_append.1 hz with hz | hz
  ·exact (key (h.ins z hz)).kept hg2 (.inr (ZhE (key (h.ins z hz)) hb (by decide)))
  ·rw[List.mem_singleton.1 hz]
   exact (key hy).kept hg2 (.inr (ZhE (key hy) hb (by decide)))
end
structure Rg (w:World) (R:Nat) (L:List (List UInt8)) (vL ov:Value) (F:List Pfd) (st:Except (Nat × Int) Nat) (u:World):Prop where
 pw:Pw w ov F u
 f0:u.heap[w.heap.size]?=some (.cells #[.int .i64 0,.int .i64 0] 29)
 rd:RdZ u R vL st
 rl:w.heap.size<R
 ln:u.ownsRow w.heap.size 9 1 vL L.length (scells L)
section
variable {w u u':World} {R:Nat} {L:List (List UInt8)} {vL ov:Value} {F:List Pfd} {st st':Except (Nat × Int) Nat}
theorem Rg.keep (h:Rg w R L vL ov F st u) (hb:Below u.heap.size u u'):Rg w R L vL ov F st u':=⟨⟨h.pw.low.trans (hb.mono h.pw.low.size),ZhK h.pw.own hb,fun f hf=>(h.pw.ins f hf).keep hb⟩,(hb.block _ (Array.getElem?_eq_some_iff.1 h.f0).1).trans h.f0,h.rd.low hb,h.rl,ZhK h.ln hb⟩
theorem Rg.call (h:Rg w R L vL ov F st u) (hg:u.grownBy u' (some R)) (q:RdZ u' R vL st'):Rg w R L vL ov F st' u':=by
 have hk:∀ k x,k≠R→u.heap[k]?=some x→u'.heap[k]?=some x:=fun k _ hk hx=>(hg.block k (Array.getElem?_eq_some_iff.1 hx).1 (fun e=>hk (Option.some.inj e))).trans hx
 obtain⟨cs,hb⟩:=h.rd.blk
 have hr:=h.rl
 exact⟨⟨h.pw.low.grown hg h.pw.low.size (fun k e=>by cases e;omega),h.pw.own.kept hg (.inr (ZhE h.pw.own hb (by decide))),fun f hf=>(h.pw.ins f hf).box hb (by decide) (by decide) hg⟩,hk _ _ (by omega) h.f0,q,h.rl,h.ln.kept hg (.inr (ZhE h.ln hb (by decide)))⟩
theorem Rg.lines (h:Rg w R L vL ov F st u) (hg:u.grownBy u' (some R)):HS u' vL L:=by
 obtain⟨cs,hb⟩:=h.rd.blk
 exact Zeo (h.ln.kept hg (.inr (ZhE h.ln hb (by decide))))
theorem Rg.ne (h:Rg w R L vL ov F st u) {lo:Option Addr} {n c:Nat} (hv:vL=.slice lo n c):∀ a,lo=some a→a.block≠R:=by
 obtain⟨cs,hb⟩:=h.rd.blk
 intro a ha e
 subst hv
 subst ha
 rcases h.ln.2 with ⟨q,_⟩ | ⟨b,cap,cur,q1,q2,q3,q4⟩
 ·cases q
 ·cases q1
  dsimp only at e
  subst e
  rw[hb] at q3
  cases q3
theorem Rg.more (h:Rg w R L vL ov F st u) {f:Pfd} {ov':Value} (hy:Pown w.heap.size u f) (hg:u.grownBy u' ov.ownBlock) (ho:u'.ownsRow w.heap.size 42 3 ov' (F.length+1) (pxcells F++pxC f)):Rg w R L vL ov' (F++[f]) st u':=by
 have hk:∀ (k:Nat) (cs:Array Value) (t:TypeId) (fr:Nat × Nat),t≠42→u.heap[k]?=some (Obj.cells cs t fr)→u'.heap[k]?=some (Obj.cells cs t fr):=fun k cs t fr ht hx=>(hg.block k (Array.getElem?_eq_some_iff.1 hx).1 (fun e=>ZhE h.pw.own hx ht.symm e.symm)).trans hx
 obtain⟨cs,hb⟩:=h.rd.blk
 have hne:some R≠ov.ownBlock:=fun e=>ZhE h.pw.own hb (by decide) e.symm
 have hin:∀ g,Pown w.heap.size u g→Pown w.heap.size u' g:=fun g hp=>⟨hp.eq,ZjA hp.own h.pw.own (by decide) hg,fun y hy=>ZjA (hp.ins y hy) h.pw.own (by decide) hg⟩
 have hlow:=h.pw.low.grown hg h.pw.low.size (fun k e=>ZhJ h.pw.own e)
 refine⟨⟨hlow,?_,?_⟩,hk _ _ _ _ (by decide) h.f0,h.rd.off hg hne,h.rl,ZjA h.ln h.pw.own (by decide) hg⟩
 ·have e1:pxcells (F++[f])=pxcells F++pxC f:=by simp[pxcells]
  rw[List.length_append,e1]
  exact ho
 ·intro g hgm
  rcases List.mem_append.1 hgm with hm | hm
  ·exact hin g (h.pw.ins g hm)
  ·rw[List.mem_singleton.1 hm];exact hin f hy
theorem Rg.cells (h:Rg w R L vL ov F st u):u.cell? ⟨w.heap.size,0,none⟩=some (.int .i64 0)∧u.cell? ⟨w.heap.size,1,none⟩=some (.int .i64 0)∧∀ j,u.frozen? ⟨w.heap.size,j,none⟩=false:=⟨by rw[Lib.cell_of_heap h.f0];rfl,by rw[Lib.cell_of_heap h.f0];rfl,fun j=>Lib.frozen_of_heap h.f0 j⟩
theorem Rg.fin (h:Rg w R L vL ov F st u) (a z:Int):((u.setCell ⟨w.heap.size,0,none⟩ (.int .i64 a)).setCell ⟨w.heap.size,1,none⟩ (.int .i64 z)).heap[w.heap.size]?=some (.cells #[.int .i64 a,.int .i64 z] 29)∧Pw w ov F ((u.setCell ⟨w.heap.size,0,none⟩ (.int .i64 a)).setCell ⟨w.heap.size,1,none⟩ (.int .i64 z)):=by
 have s0:=heap_setCell_same u _ 0 _ _ (.int .i64 a) h.f0
 have g0:=ZdS u w.heap.size 0 (.int .i64 a)
 have g1:=ZdS (u.setCell ⟨w.heap.size,0,none⟩ (.int .i64 a)) w.heap.size 1 (.int .i64 z)
 refine⟨heap_setCell_same _ _ 1 _ _ (.int .i64 z) s0,(h.pw.low.setCell (Nat.le_refl _) _).setCell (Nat.le_refl _) _,?_,fun f hf=>?_⟩
 ·have:=h.pw.own.kept g0 (.inr (ZhE h.pw.own h.f0 (by decide)))
  exact this.kept g1 (.inr (ZhE this s0 (by decide)))
 ·exact ((h.pw.ins f hf).box h.f0 (by decide) (by decide) g0).box s0 (by decide) (by decide) g1
end
end

section
open Go.RowKit
attribute [local go_sem] ByteArray.extract_mk Zhc
end

section
open Go.RowKit
end

section
open Go.RowKit
attribute [local go_sem] ByteArray.extract_mk Zhc
end

section
open Go.RowKit
abbrev hxO (A AN B BN:Int) (v:Value):Obj:=.cells #[.int .i64 A,.int .i64 AN,.int .i64 B,.int .i64 BN,v] 45
def Bh (u:World) (b:Nat):Prop:=u.heap[b]?=some (hxO 0 0 0 0 (.slice none 0 0))
structure H2 (w:World) (R O V:Nat) (a p n:Int) (vk vl:Value) (o:Sde) (a2 p2 n2:Int) (uk ul:Value) (v:Sde) (u:World):Prop where
 gr:w.grownBy u (some R)
 q:Bh u w.heap.size
 bo:Bp5 u O a p n vk vl
 bv:Bp5 u V a2 p2 n2 uk ul
 o1:u.ownsRow w.heap.size 5 1 vk o.length (kcells o)
 o2:u.ownsRow w.heap.size 9 1 vl o.length (scells (o.map (·.2)))
 v1:u.ownsRow w.heap.size 5 1 uk v.length (kcells v)
 v2:u.ownsRow w.heap.size 9 1 ul v.length (scells (v.map (·.2)))
 r1:R<w.heap.size
 r2:w.heap.size<O
 r3:O<V
theorem H2.low {w u u':World} {R O V:Nat} {a p n:Int} {vk vl:Value} {o:Sde} {a2 p2 n2:Int} {uk ul:Value} {v:Sde} (h:H2 w R O V a p n vk vl o a2 p2 n2 uk ul v u) (hb:Below u.heap.size u u'):H2 w R O V a p n vk vl o a2 p2 n2 uk ul v u' :=
 ⟨ZdT h.gr (ZfO hb _),(hb.block _ (Array.getElem?_eq_some_iff.1 h.q).1).trans h.q,h.bo.low hb,h.bv.low hb,ZhK h.o1 hb,ZhK h.o2 hb,ZhK h.v1 hb,ZhK h.v2 hb,h.r1,h.r2,h.r3⟩
theorem Zeq {u:World} {B B2:Nat} {vk vl:Value} {x:Sde} (hk:u.ownsRow B 5 1 vk x.length (kcells x)) (hl:u.ownsRow B2 9 1 vl x.length (scells (x.map (·.2)))):Hsd u vk vl x:=⟨Zeo hk,by have:=Zeo hl;unfold HS;rw[List.length_map];exact this⟩
theorem H2.ho {w u:World} {R O V:Nat} {a p n:Int} {vk vl:Value} {o:Sde} {a2 p2 n2:Int} {uk ul:Value} {v:Sde} (h:H2 w R O V a p n vk vl o a2 p2 n2 uk ul v u):Hsd u vk vl o:=Zeq h.o1 h.o2
theorem H2.hv {w u:World} {R O V:Nat} {a p n:Int} {vk vl:Value} {o:Sde} {a2 p2 n2:Int} {uk ul:Value} {v:Sde} (h:H2 w R O V a p n vk vl o a2 p2 n2 uk ul v u):Hsd u uk ul v:=Zeq h.v1 h.v2
theorem H2.rd {w u u':World} {R O V:Nat} {a p n:Int} {vk vl:Value} {o:Sde} {a2 p2 n2:Int} {uk ul:Value} {v:Sde} (h:H2 w R O V a p n vk vl o a2 p2 n2 uk ul v u) (hg:u.grownBy u' (some R)):H2 w R O V a p n vk vl o a2 p2 n2 uk ul v u':=by
 have h1:=h.r1
 have h2:=h.r2
 have h3:=h.r3
 exact⟨ZdT h.gr hg,(hg.block _ (Array.getElem?_eq_some_iff.1 h.q).1 (fun e=>by have:=Option.some.inj e;omega)).trans h.q,h.bo.off hg (fun e=>by have:=Option.some.inj e;omega),h.bv.off hg (fun e=>by have:=Option.some.inj e;omega),ZhI h.o1 hg h1,ZhI h.o2 hg h1,ZhI h.v1 hg h1,ZhI h.v2 hg h1,h.r1,h.r2,h.r3⟩
theorem RgR.st {R:Nat} {vL:Value} {Z:Except (Nat × Int) ((Int × Int) × Nat)} {a p n:Int} {w':World} (h:RgR R vL Z a p n w'):RdZ w' R vL (stP Z):=by
 rcases Z with e | ⟨q,p1⟩
 ·exact h
 ·exact h.2.2.2
theorem LnQ5.st {R:Nat} {vL:Value} {Z:Except (Nat × Int) (Sde × Nat)} {x:Sde} {w':World} (h:LnQ5 R vL Z x w'):RdZ w' R vL (stP Z):=by
 rcases Z with e | ⟨q,p1⟩
 ·exact h
 ·exact h.2
end

section
open Go.RowKit Go.Proofs.YtcniomgjikienaaGreatDoor.Tx
end

section
open Go.RowKit
attribute [local go_sem] ByteArray.extract_mk Zhc
end

section
open Go.RowKit
end

section
open Go.RowKit
attribute [local go_sem] ByteArray.extract_mk Zhc
theorem Lx.grown {w0 w u:World} {R X:Nat} {a p n:Int} {vk vl:Value} {ks:List UInt8} {ts:List (List UInt8)} (h:Lx w R X a p n vk vl ks ts u) (hg:w0.grownBy w (some R)) (hX:w0.heap.size≤X):w0.grownBy u (some R) :=
 ⟨h.os.trans hg.os,h.tape.trans hg.tape,h.output.trans hg.output,Nat.le_trans hg.size h.size,fun k h1 h2=>(h.block k (Nat.lt_of_lt_of_le h1 hg.size) (fun e=>h2 (congrArg some e)) (by omega)).trans (hg.block k h1 h2)⟩
theorem Bh.cells {u:World} {b:Nat} (q:Bh u b):u.cell? ⟨b,0,none⟩=some (.int .i64 0)∧u.cell? ⟨b,1,none⟩=some (.int .i64 0)∧u.cell? ⟨b,2,none⟩=some (.int .i64 0)∧u.cell? ⟨b,3,none⟩=some (.int .i64 0)∧u.cell? ⟨b,4,none⟩=some (.slice none 0 0):=by
 unfold Bh hxO at q
 refine⟨?_,?_,?_,?_,?_⟩<;>rw[Lib.cell_of_heap q]<;>rfl
theorem Bh.frozen {u:World} {b:Nat} (q:Bh u b) (j:Nat):u.frozen? ⟨b,j,none⟩=false:=Lib.frozen_of_heap q j
end

section
open Go.RowKit Go.Proofs.YtcniomgjikienaaGreatDoor.Tx
attribute [local go_sem] ByteArray.extract_mk Zhc
end

section
open Go.RowKit Go.Proofs.YtcniomgjikienaaGreatDoor.Tx
attribute [local go_sem] ByteArray.extract_mk Zhc
end

section
open Go.RowKit Go.Proofs.YtcniomgjikienaaGreatDoor.Tx
attribute [local go_sem] ByteArray.extract_mk Zhc
end

section
open Go.RowKit Go.Proofs.YtcniomgjikienaaGreatDoor.Tx
attribute [local go_sem] ByteArray.extract_mk Zhc
def ctV (a b:Int):Value:=.agg #[.int .i64 a,.int .i64 b]
def ctO (a b:Int):Obj:=.cells #[.int .i64 a,.int .i64 b] 300
theorem Zcg (x y a b:Int) (u:World):(Op.equalIn 10000 300 (.agg #[.int .i64 x,.int .i64 y]) (.agg #[.int .i64 a,.int .i64 b])).run Tryz.prog u=.ok (x == a && y == b) u:=by
 have hu:Tryz.prog.underlying 300=some (.array 2 3):=by kernel_rfl
 have h0:(Tryz.prog.info? 3).isSome=true:=by kernel_rfl
 obtain⟨i,hi⟩:=Option.isSome_iff_exists.1 h0
 rw[run_equalIn_array u 9999 _ _ hu hi]
 have hc:Tryz.prog.cellsOf 3=1:=by kernel_rfl
 have hr:List.range 2=[0,1]:=rfl
 rw[hc,hr]
 have p0:∀ (x y:Int) (u:World),(part 3 #[.int .i64 x,.int .i64 y] (0 * 1)).run Tryz.prog u=.ok (.int .i64 x) u:=fun _ _ _=>by kernel_rfl
 have p1:∀ (x y:Int) (u:World),(part 3 #[.int .i64 x,.int .i64 y] (1 * 1)).run Tryz.prog u=.ok (.int .i64 y) u:=fun _ _ _=>by kernel_rfl
 have q1:=run_equalIn_int (P:=Tryz.prog) u 9998 3 .i64 .i64 x a Tryz.underlying3
 have q2:=run_equalIn_int (P:=Tryz.prog) u 9998 3 .i64 .i64 y b Tryz.underlying3
 simp only[Op.eqItems,Sem.run_bind,p0,p1,q1,q2,Result.andThen_ok,Sem.run_ite,Sem.run_pure]
 cases x == a<;>cases y == b<;>rfl
theorem Zch (x y a b:Int) (u:World):(binOp .eql 300 (.agg #[.int .i64 x,.int .i64 y]) (.agg #[.int .i64 a,.int .i64 b])).run Tryz.prog u=.ok (.bool (x == a && y == b)) u:=by
 rw[run_eql_struct,Zcg]
 rfl
theorem Zci (x y a b:Int) (u:World):(binOp .neq 300 (.agg #[.int .i64 x,.int .i64 y]) (.agg #[.int .i64 a,.int .i64 b])).run Tryz.prog u=.ok (.bool (!(x == a && y == b))) u:=by
 rw[run_neq_struct,Zcg]
 rfl
def cO (c:UInt8):Int:=if okC c=true then (tkO c:Int) else 0
def cN (c:UInt8):Int:=if okC c=true then (tkN c:Int) else 0
theorem Zlc (c:UInt8) (w:World) :
  Calls Tryz.prog 295 #[.int .u8 (c.toNat:Int)] w fun e w'=>e=.returned (ctV (cO c) (cN c))∧Below w.heap.size w w':=by
 have hcn:=c.toNat_lt
 have hE:∀ (x y:Int),cO c=x→cN c=y→ctV (cO c) (cN c)=.agg #[.int .i64 x,.int .i64 y]:=(by intro x y h1 h2;rw[h1,h2];rfl)
 by_cases h1:c=32
 ·have i1:((c.toNat:Int) == 32)=true:=(by rw[h1];rfl)
  have he:=hE 1 1 (by rw[h1];rfl) (by rw[h1];rfl)
  rw[he]
  clear h1 hE
  go_enter Tryz.func295,Tryz.ntmps295
  go_wp2
  refine bodyPost_ret (v:=.agg #[.int .i64 1,.int .i64 1]) (results_cell_row rfl _ _ w.heap.size 300 #[.int .i64 1,.int .i64 1] (0,0) _ rfl (heap_alloc_new w _) Tryz.underlying300 rfl (by kernel_rfl)) rfl ⟨rfl,(Below.refl _ w).alloc (Nat.le_refl _) _⟩
 ·have i1:((c.toNat:Int) == 32)=false:=beq_eq_false_iff_ne.2 (fun e=>h1 (by rw[← UInt8.toNat_inj];show c.toNat=32;omega))
  by_cases h2:c=45
  ·have i2:((c.toNat:Int) == 45)=true:=(by rw[h2];rfl)
   have he:=hE 1 0 (by rw[h2];rfl) (by rw[h2];rfl)
   rw[he]
   clear h1 h2 hE
   go_enter Tryz.func295,Tryz.ntmps295
   go_wp2
   refine bodyPost_ret (v:=.agg #[.int .i64 1,.int .i64 0]) (results_cell_row rfl _ _ w.heap.size 300 #[.int .i64 1,.int .i64 0] (0,0) _ rfl (heap_alloc_new w _) Tryz.underlying300 rfl (by kernel_rfl)) rfl ⟨rfl,(Below.refl _ w).alloc (Nat.le_refl _) _⟩
  ·have i2:((c.toNat:Int) == 45)=false:=beq_eq_false_iff_ne.2 (fun e=>h2 (by rw[← UInt8.toNat_inj];show c.toNat=45;omega))
   by_cases h3:c=43
   ·have i3:((c.toNat:Int) == 43)=true:=(by rw[h3];rfl)
    have he:=hE 0 1 (by rw[h3];rfl) (by rw[h3];rfl)
    rw[he]
    clear h1 h2 h3 hE
    go_enter Tryz.func295,Tryz.ntmps295
    go_wp2
    refine bodyPost_ret (v:=.agg #[.int .i64 0,.int .i64 1]) (results_cell_row rfl _ _ w.heap.size 300 #[.int .i64 0,.int .i64 1] (0,0) _ rfl (heap_alloc_new w _) Tryz.underlying300 rfl (by kernel_rfl)) rfl ⟨rfl,(Below.refl _ w).alloc (Nat.le_refl _) _⟩
   ·have i3:((c.toNat:Int) == 43)=false:=beq_eq_false_iff_ne.2 (fun e=>h3 (by rw[← UInt8.toNat_inj];show c.toNat=43;omega))
    have hk:okC c=false:=(by unfold okC;simp[h1,h2,h3])
    have he:=hE 0 0 (by unfold cO;rw[hk];rfl) (by unfold cN;rw[hk];rfl)
    rw[he]
    clear h1 h2 h3 hk hE
    go_enter Tryz.func295,Tryz.ntmps295
    go_wp2
    refine bodyPost_ret (v:=.agg #[.int .i64 0,.int .i64 0]) (results_cell_row rfl _ _ w.heap.size 300 #[.int .i64 0,.int .i64 0] (0,0) _ rfl (heap_alloc_new w _) Tryz.underlying300 rfl (by kernel_rfl)) rfl ⟨rfl,(Below.refl _ w).alloc (Nat.le_refl _) _⟩
theorem Zlq (x y a b:Int) (w:World) (r:Bool) (HR:Hid (((x == 0 || a == 0) && (y == 0 || b == 0))=r)) :
  Calls Tryz.prog 296 #[.agg #[.int .i64 x,.int .i64 y],.agg #[.int .i64 a,.int .i64 b]] w fun e w'=>e=.returned (.bool r)∧Below w.heap.size w w':=by
 have hB:Below w.heap.size w ((w.alloc (ctO x y)).alloc (ctO a b)):=((Below.refl _ w).alloc (Nat.le_refl _) _).alloc (by simp) _
 unfold ctO at hB
 cases h1:x == 0 with
 | true =>
  cases h2:y == 0 with
  | true =>
   have HE:Hid (true=r):=(by show _=_;rw[← HR.out,h1,h2];rfl)
   clear HR
   go_enter Tryz.func296,Tryz.ntmps296
   go_wp2
   go_ret
   exact⟨by rw[← HE.out];rfl,hB⟩
  | false =>
   have HE:Hid ((b == 0)=r):=(by show _=_;rw[← HR.out,h1,h2];rfl)
   clear HR
   go_enter Tryz.func296,Tryz.ntmps296
   go_wp2
   go_ret
   exact⟨by rw[← HE.out];rfl,hB⟩
 | false =>
  cases h3:a == 0 with
  | true =>
   cases h2:y == 0 with
   | true =>
    have HE:Hid (true=r):=(by show _=_;rw[← HR.out,h1,h2,h3];rfl)
    clear HR
    go_enter Tryz.func296,Tryz.ntmps296
    go_wp2
    go_ret
    exact⟨by rw[← HE.out];rfl,hB⟩
   | false =>
    have HE:Hid ((b == 0)=r):=(by show _=_;rw[← HR.out,h1,h2,h3];rfl)
    clear HR
    go_enter Tryz.func296,Tryz.ntmps296
    go_wp2
    go_ret
    exact⟨by rw[← HE.out];rfl,hB⟩
  | false =>
   have HE:Hid (false=r):=(by show _=_;rw[← HR.out,h1,h3];rfl)
   clear HR
   go_enter Tryz.func296,Tryz.ntmps296
   go_wp2
   go_ret
   exact⟨by rw[← HE.out];rfl,hB⟩
theorem ZlY {R:Nat} {L:List (List UInt8)} {lo:Option Addr} {lc:Nat} {p:Nat} (w:World) (q:Uk w R (.slice lo L.length lc) p) (hL:HS w (.slice lo L.length lc) L) (hPl:Plain L) (hLl:L.length≤2199023255552)
  (t:List UInt8) (r:Bool) (HR:Hid ((t != [10] && pkM (L.drop p))=r)) :
  Calls Tryz.prog 297 #[.pointer (some ⟨R,0,none⟩),.string ⟨t.toArray⟩] w fun x w'=>x=.returned (.bool r)∧∃ n,w'=w.drewN n:=by
 obtain⟨c0,c1⟩:=q.cells
 by_cases ht:t=[10]
 ·have HE:Hid (false=r):=(by show _=_;rw[← HR.out,ht];rfl)
  subst ht
  clear HR hL q
  go_enter Tryz.func297,Tryz.ntmps297
  go_wp2_with fail
  go_quiet (fail)
  go_wp2
  go_ret
  exact⟨by rw[← HE.out];rfl,_,rfl⟩
 ·have e1:(t == [10])=false:=beq_eq_false_iff_ne.2 ht
  have e1b:(t != [10])=true:=bne_iff_ne.2 ht
  by_cases hlt:p<L.length
  ·have HE:Hid ((L[p] == markT)=r):=(by
    have h:=HR.out
    rw[Zim hPl hlt,e1b,Bool.true_and] at h
    exact h)
   obtain⟨bk,off,rfl,hbk,hcl⟩:=HS.at hL (by omega)
   have d4:=hcl p hlt
   generalize L[p]=s at d4 HE
   have HE2:Hid ((s == [92,32,78,111,32,110,101,119,108,105,110,101,32,97,116,32,101,110,100,32,111,102,32,102,105,108,101,10])=r):=HE
   have hd:decide ((p:Int)<(L.length:Int))=true:=decide_eq_true (by omega)
   clear HR hL q hcl hPl HE ht
   have i1:(0:Int)≤(p:Int):=by omega
   have i2:(p:Int)<(L.length:Int):=by omega
   have i3:(p:Int).toNat=p:=by omega
   go_enter Tryz.func297,Tryz.ntmps297
   go_wp2_with fail
   go_quiet (fail)
   go_wp2
   go_ret
   exact⟨by rw[← HE2.out];rfl,_,rfl⟩
  ·have HE:Hid (false=r):=(by
    have h:=HR.out
    rw[List.drop_of_length_le (by omega),e1b] at h
    exact h)
   have hd:decide ((p:Int)<(L.length:Int))=false:=decide_eq_false (by omega)
   clear HR hL q hPl ht
   go_enter Tryz.func297,Tryz.ntmps297
   go_wp2_with fail
   go_quiet (fail)
   go_wp2
   go_ret
   exact⟨by rw[← HE.out];rfl,_,rfl⟩
end

section
open Ln
theorem Zkp (s:List UInt8):∃ c t,s++[10]=c::t:=by
 cases s with
 | nil=>exact⟨10,[],rfl⟩
 | cons c t=>exact⟨c,t++[10],rfl⟩
theorem Zlv {a b p:Nat} {ls r:List (List UInt8)} {s t:List UInt8} {c:UInt8} (hn:nxt p ls=.ok (s,r)) (hs:s++[10]=c::t):ulnP a b p ls=if okC c=true∧tkO c≤a∧tkN c≤b then (if (uendB c (a-tkO c) (b-tkN c) && (t != [10] && pkM r))=true then .ok (⟨c.toNat,t.dropLast⟩,p+2,r.tail) else .ok (⟨c.toNat,t⟩,p+1,r)) else .error (p+1,3):=by
 unfold ulnP
 rw[hn]
 cases s with
 | nil =>
  simp only[List.nil_append,List.cons.injEq] at hs
  obtain⟨rfl,_⟩:=hs
  rfl
 | cons d u =>
  simp only[List.cons_append,List.cons.injEq] at hs
  obtain⟨rfl,rfl⟩:=hs
  dsimp only
  split
  ·rw[List.dropLast_concat]
   have e:(u++[10] != [10])=decide (u≠[]):=by
    cases u with
    | nil=>rfl
    | cons x y =>
     have h1:¬ (x::y++[10]=[10]):=by
      intro h
      have:=congrArg List.length h
      simp at this
     rw[bne_iff_ne.2 h1]
     rfl
   rw[e]
   by_cases h1:uendB d (a-tkO d) (b-tkN d)=true
   ·by_cases h2:u=[]
    ·rw[if_neg (fun q=>q.2.1 h2),if_neg (by simp[h2])]
    ·by_cases h3:pkM r=true
     ·rw[if_pos ⟨h1,h2,h3⟩,if_pos (by simp[h1,h2,h3])]
     ·rw[if_neg (fun q=>h3 q.2.2),if_neg (by simp[h3])]
   ·rw[if_neg (fun q=>h1 q.1),if_neg (by simp[h1])]
  ·rfl
theorem ZaV {c:UInt8} (h:okC c=true):cO c=(tkO c:Int)∧cN c=(tkN c:Int)∧((cO c == 0)=(c == 43))∧((cN c == 0)=(c == 45))∧(cO c == 0 && cN c == 0)=false∧0≤cO c∧cO c≤1∧0≤cN c∧cN c≤1:=by
 rcases Zhw h with rfl | rfl | rfl<;>exact⟨rfl,rfl,rfl,rfl,rfl,by decide,by decide,by decide,by decide⟩
theorem ZaU {c:UInt8} (h:okC c=false):cO c=0∧cN c=0:=by
 unfold cO cN
 rw[h]
 exact⟨rfl,rfl⟩
theorem ZcQ {c:UInt8} (h:okC c=true) {a b:Nat} {a' b':Int} (ha:a'=a) (hb:b'=b):((cO c == 0 || a' == 0) && (cN c == 0 || b' == 0))=uendB c a b:=by
 obtain⟨_,_,h1,h2,_⟩:=ZaV h
 have e1:(a' == 0)=(a == 0):=by rw[ha,Bool.eq_iff_iff,beq_iff_eq,beq_iff_eq];omega
 have e2:(b' == 0)=(b == 0):=by rw[hb,Bool.eq_iff_iff,beq_iff_eq,beq_iff_eq];omega
 unfold uendB
 rw[h1,h2,e1,e2]
theorem Zfw {c:UInt8} (h:okC c=true) (t:List UInt8):sgO ⟨c.toNat,t⟩=tkO c∧sgN ⟨c.toNat,t⟩=tkN c:=⟨(ZkR h t).2.1,(ZkR h t).2.2.1⟩
end

section
open Go.RowKit Go.Proofs.YtcniomgjikienaaGreatDoor.Tx
def mk0:Obj:=.cells #[.int .u8 0,.string ⟨#[]⟩] 47
structure Mz (w:World) (R:Nat) (vL:Value) (T:Nat) (p:Nat) (a b x y:Int) (u:World):Prop where
 gr:w.grownBy u (some R)
 b1:u.heap[w.heap.size]?=some (ctO a b)
 b2:u.heap[w.heap.size+1]?=some mk0
 b3:u.heap[w.heap.size+2]?=some (ctO 0 0)
 bt:u.heap[T]?=some (ctO x y)
 ck:Uk u R vL (p:Int)
 tl:w.heap.size+2<T
 rl:R<w.heap.size
section
variable {w u u':World} {R T p:Nat} {vL:Value} {a b x y:Int}
theorem Mz.low (h:Mz w R vL T p a b x y u) (hb:Below u.heap.size u u'):Mz w R vL T p a b x y u' :=
 ⟨ZdT h.gr (ZfO hb _),(hb.block _ (Array.getElem?_eq_some_iff.1 h.b1).1).trans h.b1,(hb.block _ (Array.getElem?_eq_some_iff.1 h.b2).1).trans h.b2,(hb.block _ (Array.getElem?_eq_some_iff.1 h.b3).1).trans h.b3,(hb.block _ (Array.getElem?_eq_some_iff.1 h.bt).1).trans h.bt,h.ck.low hb,h.tl,h.rl⟩
theorem Mz.other (h:Mz w R vL T p a b x y u) {g:Nat} (j:Nat) (z:Value) (h0:w.heap.size+2<g) (h1:g≠T):Mz w R vL T p a b x y (u.setCell ⟨g,j,none⟩ z):=by
 have hs:=h.rl
 have k:∀ (i:Nat) (o:Obj),i≠g→u.heap[i]?=some o→(u.setCell ⟨g,j,none⟩ z).heap[i]?=some o:=fun i o hi ho=>(Below.heap_setCell _ _ _ i hi).trans ho
 exact⟨ZdR h.gr (by omega) j z,k _ _ (by omega) h.b1,k _ _ (by omega) h.b2,k _ _ (by omega) h.b3,k _ _ (fun e=>h1 e.symm) h.bt,k _ _ (by omega) h.ck,h.tl,h.rl⟩
theorem Mz.setA (h:Mz w R vL T p a b x y u) (z:Int):Mz w R vL T p z b x y (u.setCell ⟨w.heap.size,0,none⟩ (.int .i64 z)):=by
 have hs:=h.rl
 have ht:=h.tl
 have k:∀ (i:Nat) (o:Obj),i≠w.heap.size→u.heap[i]?=some o→(u.setCell ⟨w.heap.size,0,none⟩ (.int .i64 z)).heap[i]?=some o:=fun i o hi ho=>(Below.heap_setCell _ _ _ i hi).trans ho
 exact⟨ZdR h.gr (Nat.le_refl _) 0 _,heap_setCell_same u _ 0 _ _ _ h.b1,k _ _ (by omega) h.b2,k _ _ (by omega) h.b3,k _ _ (by omega) h.bt,k _ _ (by omega) h.ck,h.tl,h.rl⟩
theorem Mz.setB (h:Mz w R vL T p a b x y u) (z:Int):Mz w R vL T p a z x y (u.setCell ⟨w.heap.size,1,none⟩ (.int .i64 z)):=by
 have hs:=h.rl
 have ht:=h.tl
 have k:∀ (i:Nat) (o:Obj),i≠w.heap.size→u.heap[i]?=some o→(u.setCell ⟨w.heap.size,1,none⟩ (.int .i64 z)).heap[i]?=some o:=fun i o hi ho=>(Below.heap_setCell _ _ _ i hi).trans ho
 exact⟨ZdR h.gr (Nat.le_refl _) 1 _,heap_setCell_same u _ 1 _ _ _ h.b1,k _ _ (by omega) h.b2,k _ _ (by omega) h.b3,k _ _ (by omega) h.bt,k _ _ (by omega) h.ck,h.tl,h.rl⟩
theorem Mz.next (h:Mz w R vL T p a b x y u):Mz w R vL T (p+1) a b x y (u.setCell ⟨R,1,none⟩ (.int .i64 ((p:Int)+1))):=by
 have hs:=h.rl
 have ht:=h.tl
 have k:∀ (i:Nat) (o:Obj),i≠R→u.heap[i]?=some o→(u.setCell ⟨R,1,none⟩ (.int .i64 ((p:Int)+1))).heap[i]?=some o:=fun i o hi ho=>(Below.heap_setCell _ _ _ i hi).trans ho
 exact⟨ZdT h.gr (ZdS u R 1 _),k _ _ (by omega) h.b1,k _ _ (by omega) h.b2,k _ _ (by omega) h.b3,k _ _ (by omega) h.bt,by have:=h.ck.at ((p:Int)+1);simpa using this,h.tl,h.rl⟩
theorem Mz.left (h:Mz w R vL T p a b x y u):u.cell? ⟨w.heap.size,0,none⟩=some (.int .i64 a)∧u.cell? ⟨w.heap.size,1,none⟩=some (.int .i64 b)∧u.frozen? ⟨w.heap.size,0,none⟩=false∧u.frozen? ⟨w.heap.size,1,none⟩=false:=by
 have e:u.heap[w.heap.size]?=some (.cells #[.int .i64 a,.int .i64 b] 300):=h.b1
 exact⟨by rw[Lib.cell_of_heap e];rfl,by rw[Lib.cell_of_heap e];rfl,Lib.frozen_of_heap e 0,Lib.frozen_of_heap e 1⟩
theorem Mz.taken (h:Mz w R vL T p a b x y u):u.cell? ⟨T,0,none⟩=some (.int .i64 x)∧u.cell? ⟨T,1,none⟩=some (.int .i64 y):=by
 have e:u.heap[T]?=some (.cells #[.int .i64 x,.int .i64 y] 300):=h.bt
 exact⟨by rw[Lib.cell_of_heap e];rfl,by rw[Lib.cell_of_heap e];rfl⟩
theorem Mz.res (h:Mz w R vL T p a b x y u):(∀ j,u.frozen? ⟨w.heap.size+1,j,none⟩=false)∧(∀ j,u.frozen? ⟨w.heap.size+1+1,j,none⟩=false)∧u.cell? ⟨w.heap.size+1,0,none⟩=some (.int .u8 0)∧u.cell? ⟨w.heap.size+1,1,none⟩=some (.string ⟨#[]⟩)∧u.cell? ⟨w.heap.size+1+1,0,none⟩=some (.int .i64 0)∧u.cell? ⟨w.heap.size+1+1,1,none⟩=some (.int .i64 0):=by
 have e:u.heap[w.heap.size+1]?=some (.cells #[.int .u8 0,.string ⟨#[]⟩] 47):=h.b2
 have e2:u.heap[w.heap.size+1+1]?=some (.cells #[.int .i64 0,.int .i64 0] 300):=h.b3
 exact⟨fun j=>Lib.frozen_of_heap e j,fun j=>Lib.frozen_of_heap e2 j,by rw[Lib.cell_of_heap e];rfl,by rw[Lib.cell_of_heap e];rfl,by rw[Lib.cell_of_heap e2];rfl,by rw[Lib.cell_of_heap e2];rfl⟩
theorem Mz.fin (h:Mz w R vL T p a b x y u) (z:Int) (tx:List UInt8) :
  ((((u.setCell ⟨w.heap.size+1,0,none⟩ (.int .u8 z)).setCell ⟨w.heap.size+1,1,none⟩ (.string ⟨tx.toArray⟩)).setCell ⟨w.heap.size+1+1,0,none⟩ (.int .i64 a)).setCell ⟨w.heap.size+1+1,1,none⟩ (.int .i64 b)).drew.heap[w.heap.size+1]?=some (.cells #[.int .u8 z,.string ⟨tx.toArray⟩] 47) ∧
  ((((u.setCell ⟨w.heap.size+1,0,none⟩ (.int .u8 z)).setCell ⟨w.heap.size+1,1,none⟩ (.string ⟨tx.toArray⟩)).setCell ⟨w.heap.size+1+1,0,none⟩ (.int .i64 a)).setCell ⟨w.heap.size+1+1,1,none⟩ (.int .i64 b)).drew.heap[w.heap.size+1+1]?=some (.cells #[.int .i64 a,.int .i64 b] 300) ∧
  Uk ((((u.setCell ⟨w.heap.size+1,0,none⟩ (.int .u8 z)).setCell ⟨w.heap.size+1,1,none⟩ (.string ⟨tx.toArray⟩)).setCell ⟨w.heap.size+1+1,0,none⟩ (.int .i64 a)).setCell ⟨w.heap.size+1+1,1,none⟩ (.int .i64 b)).drew R vL (p:Int) ∧
  w.grownBy ((((u.setCell ⟨w.heap.size+1,0,none⟩ (.int .u8 z)).setCell ⟨w.heap.size+1,1,none⟩ (.string ⟨tx.toArray⟩)).setCell ⟨w.heap.size+1+1,0,none⟩ (.int .i64 a)).setCell ⟨w.heap.size+1+1,1,none⟩ (.int .i64 b)).drew (some R):=by
 have hr:=h.rl
 have e1:=heap_setCell_same _ _ 1 _ _ (.string ⟨tx.toArray⟩) (heap_setCell_same u _ 0 _ _ (.int .u8 z) h.b2)
 have e2:((u.setCell ⟨w.heap.size+1,0,none⟩ (.int .u8 z)).setCell ⟨w.heap.size+1,1,none⟩ (.string ⟨tx.toArray⟩)).heap[w.heap.size+1+1]?=some (ctO 0 0):=(Below.heap_setCell _ _ _ _ (show w.heap.size+1+1≠w.heap.size+1 by omega)).trans ((Below.heap_setCell _ _ _ _ (show w.heap.size+1+1≠w.heap.size+1 by omega)).trans h.b3)
 have e3:=heap_setCell_same _ _ 1 _ _ (.int .i64 b) (heap_setCell_same _ _ 0 _ _ (.int .i64 a) e2)
 refine⟨?_,e3,?_,?_⟩
 ·exact (Below.heap_setCell _ _ _ _ (show w.heap.size+1≠w.heap.size+1+1 by omega)).trans ((Below.heap_setCell _ _ _ _ (show w.heap.size+1≠w.heap.size+1+1 by omega)).trans e1)
 ·exact (Below.heap_setCell _ _ _ _ (show R≠w.heap.size+1+1 by omega)).trans ((Below.heap_setCell _ _ _ _ (show R≠w.heap.size+1+1 by omega)).trans ((Below.heap_setCell _ _ _ _ (show R≠w.heap.size+1 by omega)).trans ((Below.heap_setCell _ _ _ _ (show R≠w.heap.size+1 by omega)).trans h.ck)))
 ·exact ZdP (ZdR (ZdR (ZdR (ZdR h.gr (by omega) 0 _) (by omega) 1 _) (by omega) 0 _) (by omega) 1 _) 1
end
def UlX (R:Nat) (vL:Value) (a b:Nat) (X:Except (Nat × Int) (Mk × Nat × List (List UInt8))) (w:World) (e:Ending) (w':World):Prop :=
 match X with
 | .error (z,k)=>Thr (z:Int) k e w'∧w.grownBy w' (some R)
 | .ok (m,p1,_)=>e=.returned (.tuple #[.agg #[.int .u8 m.sg,.string ⟨m.tx.toArray⟩],.agg #[.int .i64 ((a-sgO m:Nat):Int),.int .i64 ((b-sgN m:Nat):Int)]])∧Uk w' R vL (p1:Int)∧w.grownBy w' (some R)
theorem Zjl {P:Program} {fn:Func} {p q:Tmp} {ty tz:TypeId} (h:fn.results=#[.cell p ty,.cell q tz]) (tmps:Array Value) (w:World) (g g':Nat) (t t':TypeId) (cs ds:Array Value) (fr fr':Nat × Nat) (d d':TypeDesc)
  (hp:tmps.getD p undef=.pointer (some ⟨g,0,none⟩)) (hg:w.heap[g]?=some (.cells cs t fr)) (hu:P.underlying ty=some d) (hd:(match d with | .struct _ | .array _ _=>true | _=>false)=true) (hi:(P.info? ty).map (·.size)=some cs.size)
  (hq:tmps.getD q undef=.pointer (some ⟨g',0,none⟩)) (hg':w.heap[g']?=some (.cells ds t' fr')) (hu':P.underlying tz=some d') (hd':(match d' with | .struct _ | .array _ _=>true | _=>false)=true) (hi':(P.info? tz).map (·.size)=some ds.size) :
  (results fn tmps).run P w=.ok (.tuple #[.agg cs,.agg ds]) w:=by
 have hp':tmps[p]?.getD undef=.pointer (some ⟨g,0,none⟩):=by simpa using hp
 have hq':tmps[q]?.getD undef=.pointer (some ⟨g',0,none⟩):=by simpa using hq
 simp[results,h,hp',hq',asAddr,run_loadVar_row w g t ty cs fr d hg hu hd hi,run_loadVar_row w g' t' tz ds fr' d' hg' hu' hd' hi',Result.andThen]
end

section
open Go.RowKit Go.Proofs.YtcniomgjikienaaGreatDoor.Tx
attribute [local go_sem] ByteArray.extract_mk Zhc
theorem Zlz {R:Nat} {L:List (List UInt8)} {lo:Option Addr} {lc:Nat} {p:Nat} (a b:Nat) (w:World) (q:Uk w R (.slice lo L.length lc) p) (HLs:Hid (∀ u,w.grownBy u (some R)→HS u (.slice lo L.length lc) L)) (hPl:Plain L) (hp:p≤L.length) (hLl:L.length≤2199023255552) (hs:∀ s∈L,s.length≤1099511627776) (ha:a≤2147483647) (hb:b≤2147483647)
  (X:Except (Nat × Int) (Mk × Nat × List (List UInt8))) (HX:Hid (ulnP a b p (L.drop p)=X)) :
  Calls Tryz.prog 244 #[.pointer (some ⟨R,0,none⟩),.agg #[.int .i64 (a:Int),.int .i64 (b:Int)]] w fun e w'=>UlX R (.slice lo L.length lc) a b X w e w':=by
 have hRl:=q.lt
 obtain⟨W0,hW0⟩:∃ u,((w.alloc (ctO a b)).alloc mk0).alloc (ctO 0 0)=u:=⟨_,rfl⟩
 have hB0:Below w.heap.size w W0:=(by rw[← hW0];exact (((Below.refl _ w).alloc (Nat.le_refl _) _).alloc (by simp) _).alloc (by simp;omega) _)
 have k1:W0.heap[w.heap.size]?=some (ctO a b):=(by
  rw[← hW0,Below.heap_alloc _ _ _ (by simp;omega),Below.heap_alloc _ _ _ (by simp)]
  exact heap_alloc_new w _)
 have k2:W0.heap[w.heap.size+1]?=some mk0:=(by
  rw[← hW0,Below.heap_alloc _ _ _ (by simp)]
  have:=heap_alloc_new (w.alloc (ctO a b)) mk0
  simpa using this)
 have k3:W0.heap[w.heap.size+2]?=some (ctO 0 0):=(by
  rw[← hW0]
  have:=heap_alloc_new ((w.alloc (ctO a b)).alloc mk0) (ctO 0 0)
  simpa using this)
 have q0:=q.low hB0
 have hL0:=HLs.out W0 (ZfO hB0 _)
 obtain⟨Y,hY⟩:∃ Y,nxt p (L.drop p)=Y:=⟨_,rfl⟩
 have hl:=ZlV W0 q0 hL0 hp hLl hs Y hY
 have hX:=HX.out
 clear HX
 unfold ctO mk0 at hW0
 cases Y with
 | error z =>
  obtain⟨z1,e1⟩:=z
  have hX2:X=.error (z1,e1):=(by rw[← hX];unfold ulnP;rw[hY])
  subst hX2
  clear hX k1 k2 k3
  go_enter Tryz.func244,Tryz.ntmps244
  go_wp2_with fail
  refine hl.mono ?_
  rintro x w1 ⟨⟨g,rfl,hg⟩,hgr⟩
  go_wp2
  exact⟨rfl,⟨_,rfl,hg⟩,ZdT (ZfO hB0 _) hgr⟩
 | ok z =>
  obtain⟨s,r⟩:=z
  obtain⟨c,st,hst⟩:=Zkp s
  have hl2:Calls Tryz.prog 240 #[.pointer (some ⟨R,0,none⟩)] W0 fun x w'=>x=.returned (.string ⟨(s++[10]).toArray⟩)∧∃ n,w'=W0.drewN n:=hl
  rw[hst] at hl2
  have hr:=(Zhr hY).1
  have hsl:(c::st).length≤1099511627777:=(by
   obtain⟨_,hpl,_,hLp⟩:=Zhr hY
   have hsl:=hs L[p] (List.getElem_mem hpl)
   rw[hLp] at hsl
   rw[← hst]
   omega)
  rw[Zlv hY hst] at hX
  simp only[List.length_cons] at hsl
  obtain⟨x,hx⟩:∃ x,cO c=x:=⟨_,rfl⟩
  obtain⟨y,hy⟩:∃ y,cN c=y:=⟨_,rfl⟩
  have hcn:=c.toNat_lt
  have hco:∀ u:World,Calls Tryz.prog 295 #[.int .u8 (c.toNat:Int)] u fun e w'=>e=.returned (.agg #[.int .i64 x,.int .i64 y])∧Below u.heap.size u w':=(by
   intro u
   have h:=Zlc c u
   rw[hx,hy] at h
   exact h)
  have hxy:0≤x∧x≤1∧0≤y∧y≤1:=(by
   rw[← hx,← hy]
   cases h:okC c with
   | true =>
    have:=(ZaV h).2.2.2.2.2
    exact⟨this.1,this.2.1,this.2.2.1,this.2.2.2⟩
   | false =>
    obtain⟨h1,h2⟩:=ZaU h
    rw[h1,h2]
    decide)
  have i1:(0:Int)<(st.length:Int)+1:=by omega
  clear hl
  go_enter Tryz.func244,Tryz.ntmps244
  go_wp2_with fail
  refine hl2.mono ?_
  rintro e W1 ⟨rfl,n1,rfl⟩
  have hB1:Below w.heap.size w (W0.drewN n1):=Below.dN hB0 n1
  have k1':(W0.drewN n1).heap[w.heap.size]?=some (ctO a b):=k1
  have k2':(W0.drewN n1).heap[w.heap.size+1]?=some mk0:=k2
  have k3':(W0.drewN n1).heap[w.heap.size+2]?=some (ctO 0 0):=k3
  have q1:=q0.dN n1
  generalize W0.drewN n1=W1 at hB1 k1' k2' k3' q1 ⊢
  clear hW0 hB0 k1 k2 k3 q0 hL0 hl2
  go_wp2_with fail
  refine (hco _).mono ?_
  rintro e W2 ⟨rfl,hB2⟩
  have hM3:Mz w R (.slice lo L.length lc) W2.heap.size p a b x y (W2.alloc (ctO x y)):=(by
   have hB3:Below W1.heap.size W1 (W2.alloc (ctO x y)):=hB2.alloc hB2.size _
   have e1:=Array.getElem?_eq_some_iff.1 k3'
   have e2:=hB2.size
   exact⟨ZfO (hB1.trans (hB3.mono hB1.size)) _,(hB3.block _ (Array.getElem?_eq_some_iff.1 k1').1).trans k1',(hB3.block _ (Array.getElem?_eq_some_iff.1 k2').1).trans k2',(hB3.block _ e1.1).trans k3',heap_alloc_new W2 _,q1.low hB3,by have:=e1.1;omega,hRl⟩)
  clear hB1 k1' k2' k3' q1 hB2 hco
  unfold ctO at hM3
  go_upto_region 3 with fail
  generalize W2.alloc (.cells #[.int .i64 x,.int .i64 y] 300)=W3 at hM3 ⊢
  generalize W2.heap.size=T at hM3 ⊢
  obtain⟨l0,l1,f0,f1⟩:=hM3.left
  obtain⟨t0,t1⟩:=hM3.taken
  have hM4:=hM3.setA ((a:Int)-x)
  have hM5:=hM4.setB ((b:Int)-y)
  obtain⟨l0',l1',f0',f1'⟩:=hM4.left
  obtain⟨t0',t1'⟩:=hM4.taken
  go_upto_region 5 with fail
  clear l0 l1 f0 f1 t0 t1 l0' l1' f0' f1' t0' t1' hM3 hM4
  generalize (W3.setCell ⟨w.heap.size,0,none⟩ (.int .i64 ((a:Int)-x))).setCell ⟨w.heap.size,1,none⟩ (.int .i64 ((b:Int)-y))=W5 at hM5 ⊢
  generalize hva:(a:Int)-x=va at hM5 ⊢
  generalize hvb:(b:Int)-y=vb at hM5 ⊢
  obtain⟨l0,l1,f0,f1⟩:=hM5.left
  obtain⟨t0,t1⟩:=hM5.taken
  have heq:=Zch x y 0 0
  have hgd:Tryz.prog.eqGuardType Tryz.prog.depth 300=false:=by kernel_rfl
  by_cases hgood:okC c=true∧tkO c≤a∧tkN c≤b
  ·rw[if_pos hgood] at hX
   obtain⟨g1,g2,g3⟩:=hgood
   obtain⟨u1,u2,u3,u4,u5,_⟩:=ZaV g1
   rw[hx,hy] at u5
   rw[u5] at heq
   rw[hx] at u1
   rw[hy] at u2
   have HV:Hid (va=((a-tkO c:Nat):Int)∧vb=((b-tkN c:Nat):Int)):=⟨by omega,by omega⟩
   have d1:decide (va<0)=false:=decide_eq_false (by omega)
   have d2:decide (vb<0)=false:=decide_eq_false (by omega)
   have HXY:Hid (cO c=x∧cN c=y):=⟨hx,hy⟩
   have hM7:=hM5.next
   clear u1 u2 u3 u4 u5 hva hvb hx hy
   obtain⟨r0,r1⟩:=hM5.ck.cells
   have rf1:=hM5.ck.frozen 1
   go_upto_region 8 with fail
   clear r0 r1 rf1 l0 l1 f0 f1 t0 t1 d1 d2 heq hM5
   generalize W5.setCell ⟨R,1,none⟩ (.int .i64 ((p:Int)+1))=W7 at hM7 ⊢
   have HS1:Hid (T<W7.heap.size):=(Array.getElem?_eq_some_iff.1 hM7.bt).1
   have hB8:Below W7.heap.size W7 (W7.alloc (.cells #[.int .u8 (c.toNat:Int),.string ⟨st.toArray⟩] 47)).drew:=((Below.refl _ W7).alloc (Nat.le_refl _) _).drew
   have hM8:=hM7.low hB8
   have hm8:(W7.alloc (.cells #[.int .u8 (c.toNat:Int),.string ⟨st.toArray⟩] 47)).drew.heap[W7.heap.size]?=some (.cells #[.int .u8 (c.toNat:Int),.string ⟨st.toArray⟩] 47):=heap_alloc_new W7 _
   go_region
   clear hM7 hB8
   generalize (W7.alloc (.cells #[.int .u8 (c.toNat:Int),.string ⟨st.toArray⟩] 47)).drew=W8 at hM8 hm8 ⊢
   generalize W7.heap.size=S at HS1 hm8 ⊢
   obtain⟨r1,hr1⟩:∃ z,uendB c (a-tkO c) (b-tkN c)=z:=⟨_,rfl⟩
   obtain⟨r2,hr2⟩:∃ z,(st != [10] && pkM r)=z:=⟨_,rfl⟩
   rw[hr1,hr2] at hX
   have HR1:Hid (((x == 0 || va == 0) && (y == 0 || vb == 0))=r1):=(by
    show _=_
    rw[← hr1,← HXY.out.1,← HXY.out.2]
    exact ZcQ g1 HV.out.1 HV.out.2)
   have HR2:Hid ((st != [10] && pkM (L.drop (p+1)))=r2):=(by show _=_;rw[← hr,hr2])
   have HXX:Hid ((if (r1 && r2)=true then Except.ok ((⟨(c.toNat:Int),st.dropLast⟩:Mk),p+2,r.tail) else Except.ok (⟨(c.toNat:Int),st⟩,p+1,r))=X):=hX
   have Hr:Hid (r=L.drop (p+1)):=hr
   have HST:Hid (s++[10]=c::st):=hst
   have HOK:Hid (okC c=true):=g1
   clear hX hr1 hr2 hr hst hY g1 g2 g3
   go_upto_region 9 with fail
   go_cut [61] (fun bv wz=>bv=.bool (r1 && r2)∧Mz w R (.slice lo L.length lc) T (p+1) va vb x y wz∧wz.heap[S]?=some (.cells #[.int .u8 (c.toNat:Int),.string ⟨st.toArray⟩] 47))
   case first =>
    obtain⟨l0,l1,f0,f1⟩:=hM8.left
    obtain⟨t0,t1⟩:=hM8.taken
    go_wp2_with fail
    refine (Zlq x y va vb _ r1 HR1).mono ?_
    rintro e W9 ⟨rfl,hB9⟩
    have hM9:=hM8.low hB9
    have hm9:W9.heap[S]?=_:=(hB9.block S (Array.getElem?_eq_some_iff.1 hm8).1).trans hm8
    clear hM8 hm8 l0 l1 f0 f1 t0 t1 hB9
    cases r1 with
    | false =>
     go_wp2
     go_meet
     case rel=>exact⟨rfl,hM9,hm9⟩
    | true =>
     have m1:W9.cell? ⟨S,1,none⟩=some (.string ⟨st.toArray⟩):=(by rw[Lib.cell_of_heap hm9];rfl)
     go_wp2_with fail
     refine (ZlY W9 hM9.ck (HLs.out W9 hM9.gr) hPl hLl st r2 HR2).mono ?_
     rintro e W10 ⟨rfl,n10,rfl⟩
     have hM10:=hM9.low (Below.dN (Below.refl _ W9) n10)
     have hm10:(W9.drewN n10).heap[S]?=_:=hm9
     go_wp2
     go_meet
     case rel=>exact⟨by simp,hM10,hm10⟩
   case rest =>
   obtain⟨rfl,hM11,hm11⟩:=hcut
   clear hM8 hm8 HR1 HR2
   go_upto_if 61 with fail
   go_cut [] (fun wz=>∃ (tx:List UInt8) (pn:Nat),Mz w R (.slice lo L.length lc) T pn va vb x y wz∧wz.heap[S]?=some (.cells #[.int .u8 (c.toNat:Int),.string ⟨tx.toArray⟩] 47)∧Hid (Except.ok ((⟨(c.toNat:Int),tx⟩:Mk),pn,L.drop pn)=X))
   case first =>
    cases hb:(r1 && r2) with
    | false =>
     have HE:Hid (Except.ok ((⟨(c.toNat:Int),st⟩:Mk),p+1,L.drop (p+1))=X):=(by have h:=HXX.out;rw[hb,if_neg (by decide),Hr.out] at h;exact h)
     clear HXX
     go_wp2
     go_meet
     case rel=>exact⟨st,p+1,hM11,hm11,HE⟩
    | true =>
     have HE:Hid (Except.ok ((⟨(c.toNat:Int),st.dropLast⟩:Mk),p+2,L.drop (p+2))=X):=(by
      have h:=HXX.out
      rw[hb,if_pos rfl,Hr.out,List.tail_drop] at h
      exact h)
     obtain⟨u,hu⟩:∃ u,st=u++[10]:=(by
      have h:=HST.out
      cases s with
      | nil =>
       simp only[List.nil_append,List.cons.injEq] at h
       have:=HOK.out
       rw[← h.1] at this
       cases this
      | cons d u =>
       simp only[List.cons_append,List.cons.injEq] at h
       exact⟨u,h.2.symm⟩)
     have hts:Lib.trimSuffix st [10]=st.dropLast:=(by rw[hu,ZkV,List.dropLast_concat])
     obtain⟨sd,hsd⟩:∃ z,st.dropLast=z:=⟨_,rfl⟩
     rw[hsd] at hts HE
     have HTr:Hid (∀ u,Calls Tryz.prog 239 #[.string ⟨st.toArray⟩,.string ⟨#[10]⟩] u fun e w'=>e=.returned (.string ⟨sd.toArray⟩)∧w'=u):=(by
      intro u
      refine (Tryz.strings_TrimSuffix ⟨st.toArray⟩ ⟨#[10]⟩ u (by show st.length≤_;omega)).mono ?_
      rintro e w' ⟨rfl,rfl⟩
      have e1:Lib.trimSuffix (⟨st.toArray⟩:ByteArray).data.toList (⟨#[10]⟩:ByteArray).data.toList=sd:=hts
      rw[e1]
      exact⟨rfl,rfl⟩)
     clear HXX hu hts hsd
     have m1:wc.cell? ⟨S,1,none⟩=some (.string ⟨st.toArray⟩):=(by rw[Lib.cell_of_heap hm11];rfl)
     have mf1:wc.frozen? ⟨S,1,none⟩=false:=Lib.frozen_of_heap hm11 1
     have hST:=HS1.out
     have htl:=hM11.tl
     have hM12:=hM11.other (g:=S) 1 (.string ⟨sd.toArray⟩) (by omega) (by omega)
     have hm12:(wc.setCell ⟨S,1,none⟩ (.string ⟨sd.toArray⟩)).heap[S]?=some (.cells #[.int .u8 (c.toNat:Int),.string ⟨sd.toArray⟩] 47):=heap_setCell_same _ S 1 _ _ _ hm11
     have hM13:=hM12.next
     have hm13:((wc.setCell ⟨S,1,none⟩ (.string ⟨sd.toArray⟩)).setCell ⟨R,1,none⟩ (.int .i64 (((p+1:Nat):Int)+1))).heap[S]?=some (.cells #[.int .u8 (c.toNat:Int),.string ⟨sd.toArray⟩] 47):=(Below.heap_setCell _ _ _ S (show S≠R by omega)).trans hm12
     obtain⟨r0,r1'⟩:=hM12.ck.cells
     have rf1:=hM12.ck.frozen 1
     have e2:((p+1:Nat):Int)=(p:Int)+1:=by omega
     rw[e2] at r1' hM13 hm13
     clear hST htl e2
     go_wp2_with fail
     refine (HTr.out _).mono ?_
     rintro e w2 ⟨rfl,rfl⟩
     go_wp2
     go_meet
     case rel=>exact⟨sd,p+1+1,hM13,hm13,HE⟩
   case rest =>
   obtain⟨tx,pn,hM14,hm14,HE⟩:=hcut
   clear hM11 hm11 HXX
   have hXe:=HE.out
   subst hXe
   obtain⟨l0,l1,f0,f1⟩:=hM14.left
   obtain⟨yf1,yf2,y0,y1,y2,y3⟩:=hM14.res
   have zf0:=yf1 0
   have zf1:=yf1 1
   have zf2:=yf2 0
   have zf3:=yf2 1
   have m0:wc.cell? ⟨S,0,none⟩=some (.int .u8 (c.toNat:Int)):=(by rw[Lib.cell_of_heap hm14];rfl)
   have m1:wc.cell? ⟨S,1,none⟩=some (.string ⟨tx.toArray⟩):=(by rw[Lib.cell_of_heap hm14];rfl)
   clear yf1 yf2
   go_upto_region 12 with fail
   obtain⟨k1,k2,k3,k4⟩:=hM14.fin (c.toNat:Int) tx
   go_region
   clear y0 y1 y2 y3 zf0 zf1 zf2 zf3 m0 m1 l0 l1 f0 f1 hM14 hm14
   go_wp2
   refine bodyPost_ret (v:=.tuple #[.agg #[.int .u8 (c.toNat:Int),.string ⟨tx.toArray⟩],.agg #[.int .i64 va,.int .i64 vb]]) (Zjl rfl _ _ (w.heap.size+1) (w.heap.size+1+1) 47 300 #[.int .u8 (c.toNat:Int),.string ⟨tx.toArray⟩] #[.int .i64 va,.int .i64 vb] (0,0) (0,0) _ _ rfl k1 Tryz.underlying47 rfl (by kernel_rfl) rfl k2 Tryz.underlying300 rfl (by kernel_rfl)) rfl ⟨?_,k3,k4⟩
   rw[(Zfw HOK.out tx).1,(Zfw HOK.out tx).2,← HV.out.1,← HV.out.2]
  ·rw[if_neg hgood] at hX
   subst hX
   have hbad:¬ (x == 0 && y == 0)=true→¬ va<0→vb<0:=(by
    intro n1 n2
    cases ho:okC c with
    | false =>
     obtain⟨h1,h2⟩:=ZaU ho
     rw[hx] at h1
     rw[hy] at h2
     exact absurd (by rw[h1,h2];rfl) n1
    | true =>
     obtain⟨u1,u2,_⟩:=ZaV ho
     rw[hx] at u1
     rw[hy] at u2
     have n3:¬ (tkO c≤a∧tkN c≤b):=fun z=>hgood ⟨ho,z⟩
     omega)
   have hck:=hM5.ck
   have hgr5:=hM5.gr
   by_cases e0:(x == 0 && y == 0)=true
   ·rw[e0] at heq
    clear hbad hM5 hgood hx hy
    go_wp2_with fail
    refine (ZlU 3 _ hck (by omega)).mono ?_
    rintro e w3 ⟨⟨g,rfl,hg⟩,hgr⟩
    go_wp2
    exact⟨rfl,⟨_,rfl,by simpa using hg⟩,ZdT hgr5 hgr⟩
   ·have e0':(x == 0 && y == 0)=false:=by simpa using e0
    rw[e0'] at heq
    by_cases e1:va<0
    ·have d1:decide (va<0)=true:=decide_eq_true e1
     clear hbad hM5 hgood hx hy e0 e0'
     go_wp2_with fail
     refine (ZlU 3 _ hck (by omega)).mono ?_
     rintro e w3 ⟨⟨g,rfl,hg⟩,hgr⟩
     go_wp2
     exact⟨rfl,⟨_,rfl,by simpa using hg⟩,ZdT hgr5 hgr⟩
    ·have d1:decide (va<0)=false:=decide_eq_false e1
     have d2:decide (vb<0)=true:=decide_eq_true (hbad e0 e1)
     clear hbad hM5 hgood hx hy e0 e0'
     go_wp2_with fail
     refine (ZlU 3 _ hck (by omega)).mono ?_
     rintro e w3 ⟨⟨g,rfl,hg⟩,hgr⟩
     go_wp2
     exact⟨rfl,⟨_,rfl,by simpa using hg⟩,ZdT hgr5 hgr⟩
end

section
open Go.RowKit Go.Proofs.YtcniomgjikienaaGreatDoor.Tx
attribute [local go_sem] ByteArray.extract_mk Zhc
def uheadP (k p:Nat) (ls:List (List UInt8)):Except (Nat × Int) ((Int × Int × Int × Int) × List (List UInt8)) :=
 match nxt p ls with
 | .error e=>.error e
 | .ok (s,r)=>match uhdP s with
  | none=>.error (p+1,3)
  | some (A,AN,B,BN)=>if 4096≤k then .error (p+1,9) else if A=0∧0<AN∨B=0∧0<BN then .error (p+1,2) else .ok ((A,AN,B,BN),r)
theorem Zlg (k p:Nat) (ls:List (List UInt8)):uhkP k p ls=match uheadP k p ls with
  | .error e=>.error e
  | .ok ((A,AN,B,BN),r)=>match urdP (AN.toNat+BN.toNat) AN.toNat BN.toNat (p+1) r with
   | .error e=>.error e
   | .ok (l,p1,r1)=>if smB l=true then .error (p+1,50) else .ok (⟨A,AN,B,BN,l⟩,p1,r1):=by
 unfold uhkP uheadP
 cases nxt p ls with
 | error e=>rfl
 | ok z =>
  obtain⟨s,r⟩:=z
  dsimp only
  cases uhdP s with
  | none=>rfl
  | some z =>
   obtain⟨A,AN,B,BN⟩:=z
   dsimp only
   split
   ·rfl
   ·split
    ·rfl
    ·rfl
def HdX (R:Nat) (vL:Value) (p:Nat) (X:Except (Nat × Int) ((Int × Int × Int × Int) × List (List UInt8))) (w:World) (e:Ending) (w':World):Prop :=
 match X with
 | .error (z,k)=>Thr (z:Int) k e w'∧w.grownBy w' (some R)
 | .ok ((A,AN,B,BN),_)=>e=.returned (hk0 A AN B BN)∧Uk w' R vL ((p+1:Nat):Int)∧w.grownBy w' (some R)
theorem Zdp {u:World} {R b:Nat} {vL:Value} {p:Int} (q:Uk u R vL p) (hb:R≠b) (A AN B BN:Int) (z:Value):Uk (five u b A AN B BN z) R vL p :=
 (Below.heap_setCell _ _ _ _ (show R≠b from hb)).trans ((Below.heap_setCell _ _ _ _ (show R≠b from hb)).trans ((Below.heap_setCell _ _ _ _ (show R≠b from hb)).trans ((Below.heap_setCell _ _ _ _ (show R≠b from hb)).trans ((Below.heap_setCell _ _ _ _ (show R≠b from hb)).trans q))))
theorem Zdl {w u:World} {R b:Nat} (h:w.grownBy u (some R)) (hb:w.heap.size≤b) (A AN B BN:Int) (z:Value):w.grownBy (five u b A AN B BN z) (some R):=ZdR (ZdR (ZdR (ZdR (ZdR h hb 0 _) hb 1 _) hb 2 _) hb 3 _) hb 4 _
theorem Zdm {u:World} {b:Nat} {h:Hk} {v:Value} (p:Hx u b h v) (A AN B BN:Int) (z:Value):(five u b A AN B BN z).heap[b]?=some (.cells #[.int .i64 A,.int .i64 AN,.int .i64 B,.int .i64 BN,z] 45 (0,0)):=p.put5 _ _ _ _ _
theorem Zlf {R:Nat} {L:List (List UInt8)} {lo:Option Addr} {lc:Nat} {p k:Nat} (hk:k≤4096) (w:World) (q:Uk w R (.slice lo L.length lc) p) (HLs:Hid (∀ u,w.grownBy u (some R)→HS u (.slice lo L.length lc) L)) (hp:p≤L.length) (hLl:L.length≤2199023255552) (HSl:Hid (∀ s∈L,s.length≤1099511627)) (hm:Mxl w)
  (X:Except (Nat × Int) ((Int × Int × Int × Int) × List (List UInt8))) (HX:Hid (uheadP k p (L.drop p)=X)) :
  Calls Tryz.prog 243 #[.pointer (some ⟨R,0,none⟩),.int .i64 (k:Int)] w fun e w'=>HdX R (.slice lo L.length lc) p X w e w':=by
 have hRl:=q.lt
 obtain⟨W0,hW0⟩:∃ u,w.alloc (hkO zhk (.slice none 0 0))=u:=⟨_,rfl⟩
 have hB0:Below w.heap.size w W0:=(by rw[← hW0];exact (Below.refl _ w).alloc (Nat.le_refl _) _)
 have hx0:Hx W0 w.heap.size zhk (.slice none 0 0):=(by rw[← hW0];exact Hx.new w _ _)
 have q0:=q.low hB0
 have hm0:=hm.low hB0
 obtain⟨Y,hY⟩:∃ Y,nxt p (L.drop p)=Y:=⟨_,rfl⟩
 have hl:=ZlV W0 q0 (HLs.out W0 (ZfO hB0 _)) hp hLl (fun s h=>by have:=HSl.out s h;omega) Y hY
 have hX:=HX.out
 unfold uheadP at hX
 rw[hY] at hX
 clear HX hm
 unfold hkO zhk at hW0
 dsimp only at hW0
 cases Y with
 | error z =>
  obtain⟨z1,e1⟩:=z
  dsimp only at hX
  subst hX
  go_enter Tryz.func243,Tryz.ntmps243
  go_wp2_with fail
  refine hl.mono ?_
  rintro x w1 ⟨⟨g,rfl,hg⟩,hgr⟩
  go_wp2
  exact⟨rfl,⟨_,rfl,hg⟩,ZdT (ZfO hB0 _) hgr⟩
 | ok z =>
  obtain⟨s,r⟩:=z
  dsimp only at hX
  have hl2:Calls Tryz.prog 240 #[.pointer (some ⟨R,0,none⟩)] W0 fun x w'=>x=.returned (.string ⟨(s++[10]).toArray⟩)∧∃ n,w'=W0.drewN n:=hl
  have hsl:s.length≤1099511627:=(by
   obtain⟨_,hpl,_,hLp⟩:=Zhr hY
   have hsl:=HSl.out L[p] (List.getElem_mem hpl)
   rw[hLp,List.length_append] at hsl
   omega)
  obtain⟨sf,hsf⟩:∃ t,s++[10]=t:=⟨_,rfl⟩
  have hsfl:sf.length≤1099511628:=(by rw[← hsf,List.length_append];simp only[List.length_cons,List.length_nil];omega)
  have hts:Lib.trimSuffix sf [10]=s:=(by rw[← hsf];exact ZkV s)
  rw[hsf] at hl2
  have HTr:Hid (∀ u,Calls Tryz.prog 239 #[.string ⟨sf.toArray⟩,.string ⟨#[10]⟩] u fun e w'=>e=.returned (.string ⟨s.toArray⟩)∧w'=u):=(by
   intro u
   refine (Tryz.strings_TrimSuffix ⟨sf.toArray⟩ ⟨#[10]⟩ u (by show sf.length≤_;omega)).mono ?_
   rintro e w' ⟨rfl,rfl⟩
   have e1:Lib.trimSuffix (⟨sf.toArray⟩:ByteArray).data.toList (⟨#[10]⟩:ByteArray).data.toList=s:=hts
   rw[e1]
   exact⟨rfl,rfl⟩)
  have HBg:Hid (∀ u,Mxl u→Calls Tryz.prog 294 #[.string ⟨s.toArray⟩] u fun e w'=>BgQ u s e w'):=fun u hu=>Zlb s u hsl hu
  clear hl hsf hsfl hts
  go_enter Tryz.func243,Tryz.ntmps243
  go_wp2_with fail
  refine hl2.mono ?_
  rintro e W1 ⟨rfl,n1,rfl⟩
  have hB1:Below w.heap.size w (W0.drewN n1):=Below.dN hB0 n1
  have hx1:=hx0.row n1
  have q1:=q0.dN n1
  have hm1:=hm0.low (Below.dN (Below.refl _ W0) n1)
  generalize W0.drewN n1=W1 at hB1 hx1 q1 hm1 ⊢
  clear hW0 hB0 hx0 q0 hm0 hl2
  go_wp2_with fail
  refine (HTr.out _).mono ?_
  rintro e W1' ⟨rfl,rfl⟩
  go_wp2_with fail
  refine (HBg.out _ hm1).mono ?_
  rintro e W2 ⟨A,AN,B,BN,ok,rfl,hU,hB2⟩
  rw[hU] at hX
  have hB2w:=hB1.trans (hB2.mono hB1.size)
  have hx2:=hx1.low hB2
  have q2:=q1.low hB2
  clear hx1 q1 hB1 hB2 hm1 HTr HBg hU
  have hB3:Below W2.heap.size W2 (W2.alloc (hkO ⟨A,AN,B,BN,[]⟩ (.slice none 0 0))):=(Below.refl _ W2).alloc (Nat.le_refl _) _
  have hB3w:=hB2w.trans (hB3.mono hB2w.size)
  have hx3:=hx2.low hB3
  have q3:=q2.low hB3
  have hh3:=Hx.new W2 ⟨A,AN,B,BN,[]⟩ (.slice none 0 0)
  unfold hkO at hB3 hB3w hx3 q3 hh3
  dsimp only at hB3 hB3w hx3 q3 hh3
  have e0:hk0 A AN B BN=.agg #[.int .i64 A,.int .i64 AN,.int .i64 B,.int .i64 BN,.slice none 0 0]:=rfl
  rw[e0]
  clear e0
  go_upto_region 2 with fail
  have HT:Hid (w.heap.size<W2.heap.size):=hx2.lt
  generalize W2.alloc (.cells #[.int .i64 A,.int .i64 AN,.int .i64 B,.int .i64 BN,.slice none 0 0] 45)=W3 at hB3 hB3w hx3 q3 hh3 ⊢
  generalize W2.heap.size=T at hB3 hh3 HT ⊢
  clear hB3 hB2w hx2 q2
  cases ok with
  | false =>
   rw[if_neg (by decide)] at hX
   dsimp only at hX
   subst hX
   go_wp2_with fail
   refine (ZlU 3 _ q3 (by omega)).mono ?_
   rintro e w3 ⟨⟨g,rfl,hg⟩,hgr⟩
   go_wp2
   exact⟨rfl,⟨_,rfl,by simpa using hg⟩,ZdT (ZfO hB3w _) hgr⟩
  | true =>
   rw[if_pos rfl] at hX
   dsimp only at hX
   by_cases hk4:4096≤k
   ·rw[if_pos hk4] at hX
    subst hX
    have e1:((k:Int) == 4096)=true:=beq_iff_eq.2 (by omega)
    go_wp2_with fail
    refine (ZlU 9 _ q3 (by omega)).mono ?_
    rintro e w3 ⟨⟨g,rfl,hg⟩,hgr⟩
    go_wp2
    exact⟨rfl,⟨_,rfl,by simpa using hg⟩,ZdT (ZfO hB3w _) hgr⟩
   ·rw[if_neg hk4] at hX
    have e1:((k:Int) == 4096)=false:=beq_eq_false_iff_ne.2 (by omega)
    obtain⟨z0,z1,z2,z3,z4⟩:=hh3.cells
    dsimp only at z0 z1 z2 z3
    go_upto_region 6 with fail
    obtain⟨rg,hrg⟩:∃ b,((A == 0 && decide (0<AN)) || (B == 0 && decide (0<BN)))=b:=⟨_,rfl⟩
    have HRG:Hid (((A == 0 && decide (0<AN)) || (B == 0 && decide (0<BN)))=rg):=hrg
    have HX4:Hid ((if rg=true then Except.error (p+1,2) else Except.ok ((A,AN,B,BN),r))=X):=(by
     show _=_
     rw[← hX,← hrg]
     simp)
    clear hX hrg
    go_cut [39] (fun bv wz=>bv=.bool rg∧wz=W3)
    case first =>
     have HR2:=HRG.out
     clear HRG HX4
     cases a1:A == 0 with
     | false =>
      rw[a1,Bool.false_and,Bool.false_or] at HR2
      cases b1:B == 0 with
      | false =>
       rw[b1,Bool.false_and] at HR2
       subst HR2
       go_wp2
       go_meet
       case rel=>exact⟨rfl,rfl⟩
      | true =>
       rw[b1,Bool.true_and] at HR2
       have HE:Hid (decide (0<BN)=rg):=HR2
       clear HR2
       go_wp2
       go_meet
       case rel=>exact⟨by rw[← HE.out],rfl⟩
     | true =>
      rw[a1,Bool.true_and] at HR2
      cases a2:decide (0<AN) with
      | true =>
       rw[a2,Bool.true_or] at HR2
       subst HR2
       go_wp2
       go_meet
       case rel=>exact⟨rfl,rfl⟩
      | false =>
       rw[a2,Bool.false_or] at HR2
       cases b1:B == 0 with
       | false =>
        rw[b1,Bool.false_and] at HR2
        subst HR2
        go_wp2
        go_meet
        case rel=>exact⟨rfl,rfl⟩
       | true =>
        rw[b1,Bool.true_and] at HR2
        have HE:Hid (decide (0<BN)=rg):=HR2
        clear HR2
        go_wp2
        go_meet
        case rel=>exact⟨by rw[← HE.out],rfl⟩
    case rest =>
    obtain⟨rfl,hwc⟩:=hcut
    subst hwc
    clear HRG
    cases rg with
    | true =>
     have hX5:=HX4.out
     rw[if_pos rfl] at hX5
     subst hX5
     clear HX4
     go_wp2_with fail
     refine (ZlU 2 _ q3 (by omega)).mono ?_
     rintro e w3 ⟨⟨g,rfl,hg⟩,hgr⟩
     go_wp2
     exact⟨rfl,⟨_,rfl,by simpa using hg⟩,ZdT (ZfO hB3w _) hgr⟩
    | false =>
     have hX5:=HX4.out
     rw[if_neg (by decide)] at hX5
     subst hX5
     clear HX4
     obtain⟨r0,r1⟩:=q3.cells
     have rf1:=q3.frozen 1
     have hne:=HT.out
     go_upto_region 9 with fail
     have q5:Uk (wc.setCell ⟨R,1,none⟩ (.int .i64 ((p:Int)+1))) R (.slice lo L.length lc) (((p+1:Nat)):Int):=(by have:=q3.at ((p:Int)+1);simpa using this)
     have g5:=ZdT (ZfO hB3w (some R)) (ZdS wc R 1 (.int .i64 ((p:Int)+1)))
     have hx5:=hx3.keep (ZdS wc R 1 (.int .i64 ((p:Int)+1))) (fun e=>by have:=Option.some.inj e;omega)
     have hh5:=hh3.keep (ZdS wc R 1 (.int .i64 ((p:Int)+1))) (fun e=>by have:=Option.some.inj e;omega)
     clear z0 z1 z2 z3 z4 r0 r1 rf1 q3 hx3 hh3 hB3w
     generalize wc.setCell ⟨R,1,none⟩ (.int .i64 ((p:Int)+1))=W5 at q5 g5 hx5 hh5 ⊢
     obtain⟨z0,z1,z2,z3,z4⟩:=hh5.cells
     dsimp only at z0 z1 z2 z3
     obtain⟨y0,y1,y2,y3,y4⟩:=hx5.cells
     dsimp only[zhk] at y0 y1 y2 y3
     have yf0:=hx5.frozen 0
     have yf1:=hx5.frozen 1
     have yf2:=hx5.frozen 2
     have yf3:=hx5.frozen 3
     have yf4:=hx5.frozen 4
     have fh:=Zdm hx5 A AN B BN (.slice none 0 0)
     have fq:=Zdp q5 (by omega:R≠w.heap.size) A AN B BN (.slice none 0 0)
     have fg:=Zdl g5 (Nat.le_refl _) A AN B BN (.slice none 0 0)
     unfold five at fh fq fg
     clear q5 g5 hx5 hh5 hne
     go_wp2
     exact bodyPost_ret (v:=hk0 A AN B BN) (results_cell_row rfl _ _ w.heap.size 45 #[.int .i64 A,.int .i64 AN,.int .i64 B,.int .i64 BN,.slice none 0 0] (0,0) _ rfl fh Tryz.underlying45 rfl (by kernel_rfl)) rfl ⟨rfl,fq,fg⟩
end

section
open Go.RowKit Go.Proofs.YtcniomgjikienaaGreatDoor.Tx
attribute [local go_sem] ByteArray.extract_mk Zhc
structure Hd2 (w:World) (A AN B BN:Int) (u:World):Prop where
 low:Below w.heap.size w u
 b0:Hx u w.heap.size ⟨0,0,0,0,[]⟩ (.slice none 0 0)
 b1:Hx u (w.heap.size+1) ⟨A,AN,B,BN,[]⟩ (.slice none 0 0)
section
variable {w u u':World} {A AN B BN:Int}
theorem Hd2.keep (h:Hd2 w A AN B BN u) (hb:Below u.heap.size u u'):Hd2 w A AN B BN u':=⟨h.low.trans (hb.mono h.low.size),h.b0.low hb,h.b1.low hb⟩
theorem Hd2.setA (h:Hd2 w A AN B BN u) (z y:Int):Hd2 w z y B BN ((u.setCell ⟨w.heap.size+1,0,none⟩ (.int .i64 z)).setCell ⟨w.heap.size+1,1,none⟩ (.int .i64 y)):=⟨(h.low.setCell (p:=⟨w.heap.size+1,0,none⟩) (by show w.heap.size≤w.heap.size+1;omega) _).setCell (p:=⟨w.heap.size+1,1,none⟩) (by show w.heap.size≤w.heap.size+1;omega) _,(Below.heap_setCell _ _ _ _ (show w.heap.size≠w.heap.size+1 by omega)).trans ((Below.heap_setCell _ _ _ _ (show w.heap.size≠w.heap.size+1 by omega)).trans h.b0),heap_setCell_same _ _ 1 _ _ _ (heap_setCell_same _ _ 0 _ _ _ h.b1)⟩
theorem Hd2.setB (h:Hd2 w A AN B BN u) (z y:Int):Hd2 w A AN z y ((u.setCell ⟨w.heap.size+1,2,none⟩ (.int .i64 z)).setCell ⟨w.heap.size+1,3,none⟩ (.int .i64 y)):=⟨(h.low.setCell (p:=⟨w.heap.size+1,2,none⟩) (by show w.heap.size≤w.heap.size+1;omega) _).setCell (p:=⟨w.heap.size+1,3,none⟩) (by show w.heap.size≤w.heap.size+1;omega) _,(Below.heap_setCell _ _ _ _ (show w.heap.size≠w.heap.size+1 by omega)).trans ((Below.heap_setCell _ _ _ _ (show w.heap.size≠w.heap.size+1 by omega)).trans h.b0),heap_setCell_same _ _ 3 _ _ _ (heap_setCell_same _ _ 2 _ _ _ h.b1)⟩
theorem Hd2.fin (h:Hd2 w A AN B BN u):(five u w.heap.size A AN B BN (.slice none 0 0)).heap[w.heap.size]?=some (.cells #[.int .i64 A,.int .i64 AN,.int .i64 B,.int .i64 BN,.slice none 0 0] 45 (0,0))∧Below w.heap.size w (five u w.heap.size A AN B BN (.slice none 0 0)):=⟨h.b0.put5 _ _ _ _ _,ZiK h.low (Nat.le_refl _) _ _ _ _ _⟩
theorem Hd2.new (w:World):Hd2 w 0 0 0 0 ((w.alloc (hkO ⟨0,0,0,0,[]⟩ (.slice none 0 0))).alloc (hkO ⟨0,0,0,0,[]⟩ (.slice none 0 0))):=by
 have hz:(w.alloc (hkO ⟨0,0,0,0,[]⟩ (.slice none 0 0))).heap.size=w.heap.size+1:=by simp
 refine⟨((Below.refl _ w).alloc (Nat.le_refl _) _).alloc (by rw[hz];omega) _,(Below.heap_alloc _ _ _ (by rw[hz];omega)).trans (Hx.new w _ _),?_⟩
 have:=Hx.new (w.alloc (hkO ⟨0,0,0,0,[]⟩ (.slice none 0 0))) ⟨0,0,0,0,[]⟩ (.slice none 0 0)
 rw[hz] at this
 exact this
end
end

section
open Go.RowKit Go.Proofs.YtcniomgjikienaaGreatDoor.Tx
attribute [local go_sem] ByteArray.extract_mk Zhc
structure Ml (w:World) (R:Nat) (vL:Value) (st:Except (Nat × Int) Nat) (u:World):Prop where
 gr:w.grownBy u (some R)
 b0:u.heap[w.heap.size]?=some (.cells #[.int .u8 0,.string ⟨#[]⟩] 47)
 rd:RdZ u R vL st
 rl:R<w.heap.size
section
variable {w u u':World} {R M:Nat} {vL:Value} {st st':Except (Nat × Int) Nat}
theorem Ml.low (h:Ml w R vL st u) (hb:Below u.heap.size u u'):Ml w R vL st u':=⟨ZdT h.gr (ZfO hb _),(hb.block _ (Array.getElem?_eq_some_iff.1 h.b0).1).trans h.b0,h.rd.low hb,h.rl⟩
theorem Ml.call (h:Ml w R vL st u) (hg:u.grownBy u' (some R)) (q:RdZ u' R vL st'):Ml w R vL st' u':=⟨ZdT h.gr hg,(hg.block _ (Array.getElem?_eq_some_iff.1 h.b0).1 (fun e=>by have:=Option.some.inj e;have:=h.rl;omega)).trans h.b0,q,h.rl⟩
theorem Ml.other (h:Ml w R vL st u) (j:Nat) (z:Value) (hM:w.heap.size<M):Ml w R vL st (u.setCell ⟨M,j,none⟩ z):=⟨ZdR h.gr (by omega) j z,(Below.heap_setCell _ _ _ _ (by show w.heap.size≠M;omega)).trans h.b0,h.rd.off (ZdS u M j z) (fun e=>by have:=Option.some.inj e;have:=h.rl;omega),h.rl⟩
theorem Ml.cells (h:Ml w R vL st u):u.cell? ⟨w.heap.size,0,none⟩=some (.int .u8 0)∧u.cell? ⟨w.heap.size,1,none⟩=some (.string ⟨#[]⟩)∧(∀ j,u.frozen? ⟨w.heap.size,j,none⟩=false):=⟨by rw[Lib.cell_of_heap h.b0];rfl,by rw[Lib.cell_of_heap h.b0];rfl,fun j=>Lib.frozen_of_heap h.b0 j⟩
theorem Ml.fin (h:Ml w R vL st u) (z:Int) (tx:List UInt8) :
  ((u.setCell ⟨w.heap.size,0,none⟩ (.int .u8 z)).setCell ⟨w.heap.size,1,none⟩ (.string ⟨tx.toArray⟩)).heap[w.heap.size]?=some (.cells #[.int .u8 z,.string ⟨tx.toArray⟩] 47)∧RdZ ((u.setCell ⟨w.heap.size,0,none⟩ (.int .u8 z)).setCell ⟨w.heap.size,1,none⟩ (.string ⟨tx.toArray⟩)) R vL st∧w.grownBy ((u.setCell ⟨w.heap.size,0,none⟩ (.int .u8 z)).setCell ⟨w.heap.size,1,none⟩ (.string ⟨tx.toArray⟩)) (some R):=by
 have hr:=h.rl
 refine⟨heap_setCell_same _ _ 1 _ _ (.string ⟨tx.toArray⟩) (heap_setCell_same u _ 0 _ _ (.int .u8 z) h.b0),(h.rd.off (ZdS u _ 0 _) (fun e=>by have:=Option.some.inj e;omega)).off (ZdS _ _ 1 _) (fun e=>by have:=Option.some.inj e;omega),ZdR (ZdR h.gr (Nat.le_refl _) 0 _) (Nat.le_refl _) 1 _⟩
end
end

section
open Go.RowKit Go.Proofs.YtcniomgjikienaaGreatDoor.Tx
def thenM (l:List Mk) (X:Except (Nat × Int) (List Mk × Nat × List (List UInt8))):Except (Nat × Int) (List Mk × Nat × List (List UInt8)) :=
 match X with
 | .error e=>.error e
 | .ok (m,p,r)=>.ok (l++m,p,r)
theorem ZkN (X:Except (Nat × Int) (List Mk × Nat × List (List UInt8))):thenM [] X=X:=by
 rcases X with e | ⟨l,p,r⟩<;>rfl
theorem ZlQ (n:Nat) {a b:Nat} (h:a+b=0) (p:Nat) (ls:List (List UInt8)) (l:List Mk):thenM l (urdP n a b p ls)=.ok (l,p,ls):=by
 cases n with
 | zero=>simp[urdP,thenM]
 | succ n =>
  simp only[urdP]
  rw[if_pos h]
  simp[thenM]
theorem ZlT (n:Nat) {a b:Nat} (h:¬ a+b=0) (p:Nat) (ls:List (List UInt8)) (l:List Mk):thenM l (urdP (n+1) a b p ls)=match ulnP a b p ls with
  | .error e=>.error e
  | .ok (m,p1,r)=>thenM (l++[m]) (urdP n (a-sgO m) (b-sgN m) p1 r):=by
 simp only[urdP]
 rw[if_neg h]
 cases ulnP a b p ls with
 | error e=>rfl
 | ok z =>
  obtain⟨m,p1,r⟩:=z
  dsimp only
  cases urdP n (a-sgO m) (b-sgN m) p1 r with
  | error e=>rfl
  | ok z=>simp[thenM]
theorem Zlw {a b p p1:Nat} {L r:List (List UInt8)} {m:Mk} (hP:Plain L) (h:ulnP a b p (L.drop p)=.ok (m,p1,r)):r=L.drop p1∧p<p1∧p1≤L.length∧sgO m≤a∧sgN m≤b∧1≤sgO m+sgN m:=by
 have hP2:Plain (L.drop p):=fun s hs=>hP s (List.mem_of_mem_drop hs)
 obtain⟨_,a2,a3,a4,_,_,a7,a8⟩:=Zlx hP2 h
 have hs:1≤sgO m+sgN m:=by
  unfold sgO sgN
  by_cases e:m.sg=43
  ·rw[if_neg (by omega:¬ m.sg=45)]
   omega
  ·rw[if_neg e]
   omega
 have hr:r=L.drop p1:=by
  unfold ulnP at h
  split at h
  ·cases h
  ·cases h
  ·rename_i c t r0 hn
   obtain⟨h1,_⟩:=Zhr hn
   split at h
   ·split at h
    ·cases h
     rw[h1,List.tail_drop]
    ·cases h
     exact h1
   ·cases h
 rw[List.length_drop] at a7 a8
 refine⟨hr,by omega,?_,a3,a4,hs⟩
 by_cases hp:p≤L.length
 ·omega
 ·omega
def ukN (u:World) (R:Nat):Nat:=match u.cell? ⟨R,1,none⟩ with
 | some v=>(intOf v).toNat
 | none=>0
theorem Zlr {u:World} {R:Nat} {vL:Value} {p:Nat} (h:Uk u R vL (p:Int)):ukN u R=p:=by
 unfold ukN
 rw[h.cells.2]
 simp[intOf]
structure Uz (w:World) (R T C:Nat) (vL:Value) (A AN B BN:Int) (v:Value) (l:List Mk) (a b p:Nat) (u:World):Prop where
 gr:w.grownBy u (some R)
 bg:Hx u w.heap.size zhk (.slice none 0 0)
 bh:Hx u T ⟨A,AN,B,BN,l⟩ v
 bl:u.heap[C]?=some (ctO a b)
 own:u.ownsRow w.heap.size 47 2 v l.length (mkcells l)
 ck:Uk u R vL (p:Int)
 tl:w.heap.size<T
 cl:T<C
 rl:R<w.heap.size
section
variable {w u u':World} {R T C:Nat} {vL v:Value} {A AN B BN:Int} {l:List Mk} {a b p p':Nat}
theorem Uz.keep (h:Uz w R T C vL A AN B BN v l a b p u) (hb:Below u.heap.size u u'):Uz w R T C vL A AN B BN v l a b p u' :=
 ⟨ZdT h.gr (ZfO hb _),h.bg.low hb,h.bh.low hb,(hb.block _ (Array.getElem?_eq_some_iff.1 h.bl).1).trans h.bl,ZhK h.own hb,h.ck.low hb,h.tl,h.cl,h.rl⟩
theorem Uz.call (h:Uz w R T C vL A AN B BN v l a b p u) (hg:u.grownBy u' (some R)) (q:Uk u' R vL (p':Int)):Uz w R T C vL A AN B BN v l a b p' u':=by
 have h1:=h.tl
 have h2:=h.cl
 have h3:=h.rl
 exact⟨ZdT h.gr hg,h.bg.keep hg (fun e=>by have:=Option.some.inj e;omega),h.bh.keep hg (fun e=>by have:=Option.some.inj e;omega),(hg.block C (Array.getElem?_eq_some_iff.1 h.bl).1 (fun e=>by have:=Option.some.inj e;omega)).trans h.bl,ZhI h.own hg h.rl,q,h.tl,h.cl,h.rl⟩
theorem Uz.other (h:Uz w R T C vL A AN B BN v l a b p u) {S:Nat} {cs:Array Value} {t:TypeId} (hS:u.heap[S]?=some (.cells cs t)) (ht:47≠t∨v.ownBlock≠some S) (h0:C<S) (j:Nat) (z:Value):Uz w R T C vL A AN B BN v l a b p (u.setCell ⟨S,j,none⟩ z):=by
 have h1:=h.tl
 have h2:=h.cl
 have h3:=h.rl
 have hg:=ZdS u S j z
 refine⟨ZdR h.gr (by omega) j z,h.bg.keep hg (fun e=>by have:=Option.some.inj e;omega),h.bh.keep hg (fun e=>by have:=Option.some.inj e;omega),(Below.heap_setCell _ _ _ _ (show C≠S by omega)).trans h.bl,h.own.kept hg (.inr ?_),h.ck.keep hg (fun e=>by have:=Option.some.inj e;omega),h.tl,h.cl,h.rl⟩
 rcases ht with ht | ht
 ·exact ZhE h.own hS ht
 ·exact ht
theorem Uz.setA (h:Uz w R T C vL A AN B BN v l a b p u) (z:Nat):Uz w R T C vL A AN B BN v l z b p (u.setCell ⟨C,0,none⟩ (.int .i64 (z:Int))):=by
 have h1:=h.tl
 have h2:=h.cl
 have h3:=h.rl
 have hg:=ZdS u C 0 (.int .i64 (z:Int))
 exact⟨ZdR h.gr (by omega) 0 _,h.bg.keep hg (fun e=>by have:=Option.some.inj e;omega),h.bh.keep hg (fun e=>by have:=Option.some.inj e;omega),heap_setCell_same u C 0 _ _ _ h.bl,h.own.kept hg (.inr (ZhE h.own h.bl (by decide))),h.ck.keep hg (fun e=>by have:=Option.some.inj e;omega),h.tl,h.cl,h.rl⟩
theorem Uz.setB (h:Uz w R T C vL A AN B BN v l a b p u) (z:Nat):Uz w R T C vL A AN B BN v l a z p (u.setCell ⟨C,1,none⟩ (.int .i64 (z:Int))):=by
 have h1:=h.tl
 have h2:=h.cl
 have h3:=h.rl
 have hg:=ZdS u C 1 (.int .i64 (z:Int))
 exact⟨ZdR h.gr (by omega) 1 _,h.bg.keep hg (fun e=>by have:=Option.some.inj e;omega),h.bh.keep hg (fun e=>by have:=Option.some.inj e;omega),heap_setCell_same u C 1 _ _ _ h.bl,h.own.kept hg (.inr (ZhE h.own h.bl (by decide))),h.ck.keep hg (fun e=>by have:=Option.some.inj e;omega),h.tl,h.cl,h.rl⟩
theorem Uz.left (h:Uz w R T C vL A AN B BN v l a b p u):u.cell? ⟨C,0,none⟩=some (.int .i64 (a:Int))∧u.cell? ⟨C,1,none⟩=some (.int .i64 (b:Int))∧u.frozen? ⟨C,0,none⟩=false∧u.frozen? ⟨C,1,none⟩=false:=by
 have e:u.heap[C]?=some (.cells #[.int .i64 (a:Int),.int .i64 (b:Int)] 300):=h.bl
 exact⟨by rw[Lib.cell_of_heap e];rfl,by rw[Lib.cell_of_heap e];rfl,Lib.frozen_of_heap e 0,Lib.frozen_of_heap e 1⟩
theorem Uz.more (h:Uz w R T C vL A AN B BN v l a b p u) {m:Mk} {v':Value} (hg:u.grownBy u' v.ownBlock) (ho:u'.ownsRow w.heap.size 47 2 v' (l.length+1) (mkcells l++mkcells [m])) :
  Uz w R T C vL A AN B BN v' (l++[m]) a b p (u'.setCell ⟨T,4,none⟩ v')∧u'.cell? ⟨T,4,none⟩=some v∧u'.frozen? ⟨T,4,none⟩=false:=by
 have h1:=h.tl
 have h2:=h.cl
 have h3:=h.rl
 have hge:∀ j,v.ownBlock=some j→w.heap.size≤j:=fun j hj=>ZhJ h.own hj
 have kb:∀ (i:Nat) (cs:Array Value) (t:TypeId),47≠t→u.heap[i]?=some (.cells cs t)→u'.heap[i]?=some (.cells cs t):=fun i cs t ht hi=>(hg.block i (Array.getElem?_eq_some_iff.1 hi).1 (fun e=>ZhE h.own hi ht e.symm)).trans hi
 have bh:Hx u' T ⟨A,AN,B,BN,l⟩ v:=kb _ _ _ (by decide) h.bh
 have bg:Hx u' w.heap.size zhk (.slice none 0 0):=kb _ _ _ (by decide) h.bg
 have bl:u'.heap[C]?=some (ctO a b):=kb _ _ _ (by decide) h.bl
 have hgR:w.grownBy u' (some R):=⟨hg.os.trans h.gr.os,hg.tape.trans h.gr.tape,hg.output.trans h.gr.output,Nat.le_trans h.gr.size hg.size,fun k h1 h2=>(hg.block k (Nat.lt_of_lt_of_le h1 h.gr.size) (fun e=>by have:=hge k e.symm;omega)).trans (h.gr.block k h1 h2)⟩
 have hck:Uk u' R vL (p:Int):=h.ck.keep hg (fun e=>by have:=hge R e.symm;omega)
 have hg2:=ZdS u' T 4 v'
 refine⟨⟨ZdR hgR (by omega) 4 v',bg.keep hg2 (fun e=>by have:=Option.some.inj e;omega),heap_setCell_same u' T 4 _ _ v' bh,(Below.heap_setCell _ _ _ _ (show C≠T by omega)).trans bl,?_,hck.keep hg2 (fun e=>by have:=Option.some.inj e;omega),h.tl,h.cl,h.rl⟩,bh.cells.2.2.2.2,bh.frozen 4⟩
 rw[Zgl,List.length_append]
 exact ho.kept hg2 (.inr (ZhE ho bh (by decide)))
end
theorem ZhN {u:World} {B:Nat} {e:TypeId} {s:Nat} {v:Value} {n j:Nat} {xs:List Value} (h:u.ownsRow B e s v n xs) (hj:v.ownBlock=some j):j<u.heap.size:=by
 rcases h.2 with ⟨rfl,_⟩ | ⟨b,cap,cur,rfl,_,q3,_⟩
 ·cases hj
 ·have e1:b=j:=Option.some.inj hj
  rw[← e1]
  exact (Array.getElem?_eq_some_iff.1 q3).1
def outU (p:Nat) (A AN B BN:Int) (Y:Except (Nat × Int) (List Mk × Nat × List (List UInt8))):Except (Nat × Int) (Hk × Nat × List (List UInt8)) :=
 match Y with
 | .error e=>.error e
 | .ok (l,p1,r1)=>if smB l=true then .error (p+1,50) else .ok (⟨A,AN,B,BN,l⟩,p1,r1)
def HkY (R:Nat) (vL:Value) (X:Except (Nat × Int) (Hk × Nat × List (List UInt8))) (w:World) (e:Ending) (w':World):Prop :=
 match X with
 | .error (a,z)=>Thr (a:Int) z e w'∧w.grownBy w' (some R)
 | .ok (h,p1,_)=>∃ v',e=.returned (hkV h v')∧w'.ownsRow w.heap.size 47 2 v' h.ls.length (mkcells h.ls)∧Uk w' R vL (p1:Int)∧w.grownBy w' (some R)
theorem Zlp (m:Mk) (w:World):Calls Tryz.prog 246 #[.agg #[.int .u8 m.sg,.string ⟨m.tx.toArray⟩]] w fun e w'=>e=.returned (.bool (m.sg != 32))∧Below w.heap.size w w':=by
 have hBl:Below w.heap.size w (w.alloc (.cells #[.int .u8 m.sg,.string ⟨m.tx.toArray⟩] 47)):=(Below.refl _ w).alloc (Nat.le_refl _) _
 go_enter Tryz.func246,Tryz.ntmps246
 go_wp2
 go_ret
 exact⟨rfl,hBl⟩
theorem Zau (l:List Mk):(l.any fun m=>m.sg != 32)=!smB l:=by
 unfold smB
 induction l with
 | nil=>rfl
 | cons m l ih =>
  rw[List.any_cons,List.all_cons,ih]
  by_cases h:m.sg=32
  ·simp[h]
  ·simp[h]
end

end Go.Proofs.YtcniomgjikienaaGreatDoor
