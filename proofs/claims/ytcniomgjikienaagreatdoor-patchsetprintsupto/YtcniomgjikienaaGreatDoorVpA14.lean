/-
  Texts that belong together, joined: CrN, CrV, CrH, CrZ, PgM, CrX, CrY, PgS, CrL, CrQ, CrR, CrU, PgT, CrP, CrT, CrW, PrA, UrA, UrB, UkD, UnD, UkE, UkF, UkG, UrC, UrD, UkH, UkI, UkJ, UrE, NpV, NpW, PgU, PrC, PrB, PrD, NpI, NoCm, NpD, NpJ, NpK, NpL, NpO, NpRs, NpP, NpRp, NpRq, NpRh, NpRr, RcMath, RcRj, PsI, QsB, UkM, UkP, EfJo, QsE, UpA.
-/
import Derived.Test.YtcniomgjikienaaGreatDoorVpA13
import Derived.Deep.CutBlock
import Derived.Deep.CutRange
import Derived.ChangeKeysEq
import Derived.Laws.StructEq
import Derived.Test.YtcniomgjikienaaGreatDoorProg
import Derived.WalkKit
import Derived.LaidEql
import Derived.Stop.Asserts
import Derived.RowKitTokens
import Derived.Defers
import Derived.Recover
import Derived.Lib.AppendStr
import Derived.BigQuiet

set_option maxHeartbeats 16000000
set_option maxRecDepth 100000
namespace Go.Proofs.YtcniomgjikienaaGreatDoor

section
open Go.RowKit
def bcs (ks:List UInt8):List Value:=ks.map fun c=>.int .u8 (c.toNat:Int)
structure Lx (w:World) (R X:Nat) (a p n:Int) (vk vl:Value) (ks:List UInt8) (ts:List (List UInt8)) (u:World):Prop where
 os:u.os=w.os
 tape:u.tape=w.tape
 output:u.output=w.output
 size:w.heap.size≤u.heap.size
 block:∀ k,k<w.heap.size→k≠R→k≠X→u.heap[k]?=w.heap[k]?
 box:Bp5 u X a p n vk vl
 ok:u.ownsRow w.heap.size 5 1 vk ks.length (bcs ks)
 ol:u.ownsRow w.heap.size 9 1 vl ts.length (scells ts)
section
variable {w u u':World} {R X:Nat} {a p n:Int} {vk vl:Value} {ks:List UInt8} {ts:List (List UInt8)}
theorem Lx.start (h:Bp5 w X a p n (.slice none 0 0) (.slice none 0 0)):Lx w R X a p n (.slice none 0 0) (.slice none 0 0) [] [] w:=⟨rfl,rfl,rfl,Nat.le_refl _,fun _ _ _ _=>rfl,h,World.ownsRow_nil _ _ _ _,World.ownsRow_nil _ _ _ _⟩
theorem Lx.low (h:Lx w R X a p n vk vl ks ts u) (hb:Below u.heap.size u u'):Lx w R X a p n vk vl ks ts u' :=
 ⟨hb.os.trans h.os,hb.tape.trans h.tape,hb.output.trans h.output,Nat.le_trans h.size hb.size,fun k h1 h2 h3=>(hb.block k (Nat.lt_of_lt_of_le h1 h.size)).trans (h.block k h1 h2 h3),h.box.low hb,ZhK h.ok hb,ZhK h.ol hb⟩
theorem Lx.call (h:Lx w R X a p n vk vl ks ts u) (hg:u.grownBy u' (some R)) (hR:R<w.heap.size) (hX:X≠R):Lx w R X a p n vk vl ks ts u' :=
 ⟨hg.os.trans h.os,hg.tape.trans h.tape,hg.output.trans h.output,Nat.le_trans h.size hg.size,fun k h1 h2 h3=>(hg.block k (Nat.lt_of_lt_of_le h1 h.size) (fun e=>h2 (Option.some.inj e))).trans (h.block k h1 h2 h3),h.box.off hg (fun e=>hX (Option.some.inj e)),ZhI h.ok hg hR,ZhI h.ol hg hR⟩
end
def LnQ5 (R:Nat) (vL:Value) (Z:Except (Nat × Int) (Sde × Nat)) (x:Sde) (w':World):Prop :=
 match Z with
 | .error e=>RdZ w' R vL (.error e)
 | .ok (x0,p1)=>x=x0∧RdZ w' R vL (.ok p1)
end

section
open Ln
def stP {α:Type}:Except (Nat × Int) (α × Nat)→Except (Nat × Int) Nat
 | .error e=>.error e
 | .ok (_,p)=>.ok p
end

section
open Go.RowKit Go.Proofs.YtcniomgjikienaaGreatDoor.Tx
attribute [local go_sem] ByteArray.extract_mk Zhc
end

section
open Ln
end

section
open Ln
/- layer 15 -/
end

section
open Go.RowKit
end

section
open Go.RowKit
end

section
open Go.RowKit Go.Proofs.YtcniomgjikienaaGreatDoor.Tx
theorem RdZ.blk {u:World} {R:Nat} {vL:Value} {st:Except (Nat × Int) Nat} (h:RdZ u R vL st):∃ cs,u.heap[R]?=some (.cells cs 123):=by
 match st,h with
 | .ok _,h=>exact⟨_,h⟩
 | .error (_,_),⟨⟨_,h⟩,_⟩=>exact⟨_,h⟩
def nmN (Z:Except (Nat × Int) (List UInt8 × Nat)):List UInt8:=match Z with
 | .error _=>[]
 | .ok (n,_)=>n
theorem NxQ.st {R:Nat} {vL:Value} {Z:Except (Nat × Int) (List UInt8 × Nat)} {x:Ending} {w':World} (h:NxQ R vL Z x w'):x=.returned (.string ⟨(nmN Z).toArray⟩)∧RdZ w' R vL (stP Z):=by
 rcases Z with e | ⟨n,p1⟩
 ·exact h
 ·exact h
structure Pzr (wb:World) (R S:Nat) (vL:Value) (n1 n2:List UInt8) (hv:Value) (P:List (Hk × Value)) (st:Except (Nat × Int) Nat) (u:World):Prop where
 gr:wb.grownBy u (some R)
 box:u.heap[S]?=some (.cells #[.string ⟨n1.toArray⟩,.string ⟨n2.toArray⟩,hv] 42)
 own:u.ownsRow wb.heap.size 45 5 hv P.length (hkcells P)
 ins:∀ x∈P,u.ownsRow wb.heap.size 47 2 x.2 x.1.ls.length (mkcells x.1.ls)
 rd:RdZ u R vL st
 ge:wb.heap.size≤S
 rl:R<wb.heap.size
section
variable {wb u u':World} {R S:Nat} {vL hv:Value} {n1 n2:List UInt8} {P:List (Hk × Value)} {st st':Except (Nat × Int) Nat}
theorem Pzr.keep (h:Pzr wb R S vL n1 n2 hv P st u) (hb:Below u.heap.size u u'):Pzr wb R S vL n1 n2 hv P st u':=⟨ZdT h.gr (ZfO hb _),(hb.block S (Array.getElem?_eq_some_iff.1 h.box).1).trans h.box,ZhK h.own hb,fun x hx=>ZhK (h.ins x hx) hb,h.rd.low hb,h.ge,h.rl⟩
theorem Pzr.ne (h:Pzr wb R S vL n1 n2 hv P st u):R≠S:=by have h1:=h.ge;have h2:=h.rl;omega
theorem Pzr.call (h:Pzr wb R S vL n1 n2 hv P st u) (hg:u.grownBy u' (some R)) (q:RdZ u' R vL st'):Pzr wb R S vL n1 n2 hv P st' u':=⟨ZdT h.gr hg,(hg.block S (Array.getElem?_eq_some_iff.1 h.box).1 (fun e=>h.ne (Option.some.inj e).symm)).trans h.box,ZhI h.own hg h.rl,fun x hx=>ZhI (h.ins x hx) hg h.rl,q,h.ge,h.rl⟩
theorem Pzr.cells (h:Pzr wb R S vL n1 n2 hv P st u):u.cell? ⟨S,0,none⟩=some (.string ⟨n1.toArray⟩)∧u.cell? ⟨S,1,none⟩=some (.string ⟨n2.toArray⟩)∧u.cell? ⟨S,2,none⟩=some hv:=by
 refine⟨?_,?_,?_⟩<;>rw[Lib.cell_of_heap h.box]<;>rfl
theorem Pzr.frozen (h:Pzr wb R S vL n1 n2 hv P st u) (j:Nat):u.frozen? ⟨S,j,none⟩=false:=Lib.frozen_of_heap h.box j
theorem Pzr.put (h:Pzr wb R S vL n1 n2 hv P st u) (j:Nat) (z:Value) {m1 m2:List UInt8} {hv':Value} (hc:#[Value.string ⟨n1.toArray⟩,.string ⟨n2.toArray⟩,hv].setIfInBounds j z=#[.string ⟨m1.toArray⟩,.string ⟨m2.toArray⟩,hv']) (ho:u.ownsRow wb.heap.size 45 5 hv' P.length (hkcells P)):Pzr wb R S vL m1 m2 hv' P st (u.setCell ⟨S,j,none⟩ z):=by
 have hg:=ZdS u S j z
 refine⟨ZdR h.gr h.ge j z,?_,ho.kept hg (.inr (ZhE ho h.box (by decide))),fun x hx=>(h.ins x hx).kept hg (.inr (ZhE (h.ins x hx) h.box (by decide))),h.rd.off hg (fun e=>h.ne (Option.some.inj e)),h.ge,h.rl⟩
 have:=heap_setCell_same u S j _ _ z h.box
 rw[hc] at this
 exact this
theorem Pzr.more (h:Pzr wb R S vL n1 n2 hv P st u) {x:Hk} {y hv':Value} (hy:u.ownsRow wb.heap.size 47 2 y x.ls.length (mkcells x.ls)) (hg:u.grownBy u' hv.ownBlock) (ho:u'.ownsRow wb.heap.size 45 5 hv' (P.length+1) (hkcells P++hkC x y)) :
  Pzr wb R S vL n1 n2 hv' (P++[(x,y)]) st (u'.setCell ⟨S,2,none⟩ hv')∧u'.cell? ⟨S,2,none⟩=some hv∧u'.frozen? ⟨S,2,none⟩=false:=by
 have hge:∀ j,hv.ownBlock=some j→wb.heap.size≤j:=fun j hj=>ZhJ h.own hj
 have hb:u'.heap[S]?=some (.cells #[.string ⟨n1.toArray⟩,.string ⟨n2.toArray⟩,hv] 42):=(hg.block S (Array.getElem?_eq_some_iff.1 h.box).1 (fun e=>ZhE h.own h.box (by decide) e.symm)).trans h.box
 have hgR:wb.grownBy u' (some R):=⟨hg.os.trans h.gr.os,hg.tape.trans h.gr.tape,hg.output.trans h.gr.output,Nat.le_trans h.gr.size hg.size,fun k h1 h2=>(hg.block k (Nat.lt_of_lt_of_le h1 h.gr.size) (fun e=>by have:=hge k e.symm;omega)).trans (h.gr.block k h1 h2)⟩
 have hck:RdZ u' R vL st:=h.rd.off hg (fun e=>by have:=hge R e.symm;have:=h.rl;omega)
 have key:∀ {v:Value} {n:Nat} {xs:List Value},u.ownsRow wb.heap.size 47 2 v n xs→u'.ownsRow wb.heap.size 47 2 v n xs:=by
  intro v n xs hv2
  refine⟨hv2.1,?_⟩
  rcases hv2.2 with q | ⟨b,cap,cur,rfl,q2,q3,q4⟩
  ·exact .inl q
  ·refine .inr ⟨b,cap,cur,rfl,q2,?_,q4⟩
   rw[hg.block b (Array.getElem?_eq_some_iff.1 q3).1 (fun e=>ZhE h.own q3 (by decide) e.symm)]
   exact q3
 have hg2:=ZdS u' S 2 hv'
 have hkc:hkcells (P++[(x,y)])=hkcells P++hkC x y:=by rw[Zeh];simp[hkcells,hkC]
 refine⟨⟨ZdR hgR h.ge 2 hv',heap_setCell_same u' S 2 _ _ hv' hb,?_,?_,hck.off hg2 (fun e=>h.ne (Option.some.inj e)),h.ge,h.rl⟩,by rw[Lib.cell_of_heap hb];rfl,Lib.frozen_of_heap hb 2⟩
 ·rw[List.length_append,hkc]
  exact ho.kept hg2 (.inr (ZhE ho hb (by decide)))
 ·intro z hz
  rcases List.mem_append.1 hz with hz | hz
  ·exact (key (h.ins z hz)).kept hg2 (.inr (ZhE (key (h.ins z hz)) hb (by decide)))
  ·rw[List.mem_singleton.1 hz]
   exact (key hy).kept hg2 (.inr (ZhE (key hy) hb (by decide)))
end
structure Rg (w:World) (R:Nat) (L:List (List UInt8)) (vL ov:Value) (F:List Pfd) (st:Except (Nat × Int) Nat) (u:World):Prop where
 pw:Pw w ov F u
 f0:u.heap[w.heap.size]?=some (.cells #[.int .i64 0,.int .i64 0] 29)
 rd:RdZ u R vL st
 rl:w.heap.size<R
 ln:u.ownsRow w.heap.size 9 1 vL L.length (scells L)
section
variable {w u u':World} {R:Nat} {L:List (List UInt8)} {vL ov:Value} {F:List Pfd} {st st':Except (Nat × Int) Nat}
theorem Rg.keep (h:Rg w R L vL ov F st u) (hb:Below u.heap.size u u'):Rg w R L vL ov F st u':=⟨⟨h.pw.low.trans (hb.mono h.pw.low.size),ZhK h.pw.own hb,fun f hf=>(h.pw.ins f hf).keep hb⟩,(hb.block _ (Array.getElem?_eq_some_iff.1 h.f0).1).trans h.f0,h.rd.low hb,h.rl,ZhK h.ln hb⟩
theorem Rg.call (h:Rg w R L vL ov F st u) (hg:u.grownBy u' (some R)) (q:RdZ u' R vL st'):Rg w R L vL ov F st' u':=by
 have hk:∀ k x,k≠R→u.heap[k]?=some x→u'.heap[k]?=some x:=fun k _ hk hx=>(hg.block k (Array.getElem?_eq_some_iff.1 hx).1 (fun e=>hk (Option.some.inj e))).trans hx
 obtain⟨cs,hb⟩:=h.rd.blk
 have hr:=h.rl
 exact⟨⟨h.pw.low.grown hg h.pw.low.size (fun k e=>by cases e;omega),h.pw.own.kept hg (.inr (ZhE h.pw.own hb (by decide))),fun f hf=>(h.pw.ins f hf).box hb (by decide) (by decide) hg⟩,hk _ _ (by omega) h.f0,q,h.rl,h.ln.kept hg (.inr (ZhE h.ln hb (by decide)))⟩
theorem Rg.lines (h:Rg w R L vL ov F st u) (hg:u.grownBy u' (some R)):HS u' vL L:=by
 obtain⟨cs,hb⟩:=h.rd.blk
 exact Zeo (h.ln.kept hg (.inr (ZhE h.ln hb (by decide))))
theorem Rg.ne (h:Rg w R L vL ov F st u) {lo:Option Addr} {n c:Nat} (hv:vL=.slice lo n c):∀ a,lo=some a→a.block≠R:=by
 obtain⟨cs,hb⟩:=h.rd.blk
 intro a ha e
 subst hv
 subst ha
 rcases h.ln.2 with ⟨q,_⟩ | ⟨b,cap,cur,q1,q2,q3,q4⟩
 ·cases q
 ·cases q1
  dsimp only at e
  subst e
  rw[hb] at q3
  cases q3
theorem Rg.more (h:Rg w R L vL ov F st u) {f:Pfd} {ov':Value} (hy:Pown w.heap.size u f) (hg:u.grownBy u' ov.ownBlock) (ho:u'.ownsRow w.heap.size 42 3 ov' (F.length+1) (pxcells F++pxC f)):Rg w R L vL ov' (F++[f]) st u':=by
 have hk:∀ (k:Nat) (cs:Array Value) (t:TypeId) (fr:Nat × Nat),t≠42→u.heap[k]?=some (Obj.cells cs t fr)→u'.heap[k]?=some (Obj.cells cs t fr):=fun k cs t fr ht hx=>(hg.block k (Array.getElem?_eq_some_iff.1 hx).1 (fun e=>ZhE h.pw.own hx ht.symm e.symm)).trans hx
 obtain⟨cs,hb⟩:=h.rd.blk
 have hne:some R≠ov.ownBlock:=fun e=>ZhE h.pw.own hb (by decide) e.symm
 have hin:∀ g,Pown w.heap.size u g→Pown w.heap.size u' g:=fun g hp=>⟨hp.eq,ZjA hp.own h.pw.own (by decide) hg,fun y hy=>ZjA (hp.ins y hy) h.pw.own (by decide) hg⟩
 have hlow:=h.pw.low.grown hg h.pw.low.size (fun k e=>ZhJ h.pw.own e)
 refine⟨⟨hlow,?_,?_⟩,hk _ _ _ _ (by decide) h.f0,h.rd.off hg hne,h.rl,ZjA h.ln h.pw.own (by decide) hg⟩
 ·have e1:pxcells (F++[f])=pxcells F++pxC f:=by simp[pxcells]
  rw[List.length_append,e1]
  exact ho
 ·intro g hgm
  rcases List.mem_append.1 hgm with hm | hm
  ·exact hin g (h.pw.ins g hm)
  ·rw[List.mem_singleton.1 hm];exact hin f hy
theorem Rg.cells (h:Rg w R L vL ov F st u):u.cell? ⟨w.heap.size,0,none⟩=some (.int .i64 0)∧u.cell? ⟨w.heap.size,1,none⟩=some (.int .i64 0)∧∀ j,u.frozen? ⟨w.heap.size,j,none⟩=false:=⟨by rw[Lib.cell_of_heap h.f0];rfl,by rw[Lib.cell_of_heap h.f0];rfl,fun j=>Lib.frozen_of_heap h.f0 j⟩
theorem Rg.fin (h:Rg w R L vL ov F st u) (a z:Int):((u.setCell ⟨w.heap.size,0,none⟩ (.int .i64 a)).setCell ⟨w.heap.size,1,none⟩ (.int .i64 z)).heap[w.heap.size]?=some (.cells #[.int .i64 a,.int .i64 z] 29)∧Pw w ov F ((u.setCell ⟨w.heap.size,0,none⟩ (.int .i64 a)).setCell ⟨w.heap.size,1,none⟩ (.int .i64 z)):=by
 have s0:=heap_setCell_same u _ 0 _ _ (.int .i64 a) h.f0
 have g0:=ZdS u w.heap.size 0 (.int .i64 a)
 have g1:=ZdS (u.setCell ⟨w.heap.size,0,none⟩ (.int .i64 a)) w.heap.size 1 (.int .i64 z)
 refine⟨heap_setCell_same _ _ 1 _ _ (.int .i64 z) s0,(h.pw.low.setCell (Nat.le_refl _) _).setCell (Nat.le_refl _) _,?_,fun f hf=>?_⟩
 ·have:=h.pw.own.kept g0 (.inr (ZhE h.pw.own h.f0 (by decide)))
  exact this.kept g1 (.inr (ZhE this s0 (by decide)))
 ·exact ((h.pw.ins f hf).box h.f0 (by decide) (by decide) g0).box s0 (by decide) (by decide) g1
end
end

section
open Go.RowKit
attribute [local go_sem] ByteArray.extract_mk Zhc
end

section
open Go.RowKit
end

section
open Go.RowKit
attribute [local go_sem] ByteArray.extract_mk Zhc
end

section
open Go.RowKit
abbrev hxO (A AN B BN:Int) (v:Value):Obj:=.cells #[.int .i64 A,.int .i64 AN,.int .i64 B,.int .i64 BN,v] 45
def Bh (u:World) (b:Nat):Prop:=u.heap[b]?=some (hxO 0 0 0 0 (.slice none 0 0))
structure H2 (w:World) (R O V:Nat) (a p n:Int) (vk vl:Value) (o:Sde) (a2 p2 n2:Int) (uk ul:Value) (v:Sde) (u:World):Prop where
 gr:w.grownBy u (some R)
 q:Bh u w.heap.size
 bo:Bp5 u O a p n vk vl
 bv:Bp5 u V a2 p2 n2 uk ul
 o1:u.ownsRow w.heap.size 5 1 vk o.length (kcells o)
 o2:u.ownsRow w.heap.size 9 1 vl o.length (scells (o.map (·.2)))
 v1:u.ownsRow w.heap.size 5 1 uk v.length (kcells v)
 v2:u.ownsRow w.heap.size 9 1 ul v.length (scells (v.map (·.2)))
 r1:R<w.heap.size
 r2:w.heap.size<O
 r3:O<V
theorem H2.low {w u u':World} {R O V:Nat} {a p n:Int} {vk vl:Value} {o:Sde} {a2 p2 n2:Int} {uk ul:Value} {v:Sde} (h:H2 w R O V a p n vk vl o a2 p2 n2 uk ul v u) (hb:Below u.heap.size u u'):H2 w R O V a p n vk vl o a2 p2 n2 uk ul v u' :=
 ⟨ZdT h.gr (ZfO hb _),(hb.block _ (Array.getElem?_eq_some_iff.1 h.q).1).trans h.q,h.bo.low hb,h.bv.low hb,ZhK h.o1 hb,ZhK h.o2 hb,ZhK h.v1 hb,ZhK h.v2 hb,h.r1,h.r2,h.r3⟩
theorem Zeq {u:World} {B B2:Nat} {vk vl:Value} {x:Sde} (hk:u.ownsRow B 5 1 vk x.length (kcells x)) (hl:u.ownsRow B2 9 1 vl x.length (scells (x.map (·.2)))):Hsd u vk vl x:=⟨Zeo hk,by have:=Zeo hl;unfold HS;rw[List.length_map];exact this⟩
theorem H2.ho {w u:World} {R O V:Nat} {a p n:Int} {vk vl:Value} {o:Sde} {a2 p2 n2:Int} {uk ul:Value} {v:Sde} (h:H2 w R O V a p n vk vl o a2 p2 n2 uk ul v u):Hsd u vk vl o:=Zeq h.o1 h.o2
theorem H2.hv {w u:World} {R O V:Nat} {a p n:Int} {vk vl:Value} {o:Sde} {a2 p2 n2:Int} {uk ul:Value} {v:Sde} (h:H2 w R O V a p n vk vl o a2 p2 n2 uk ul v u):Hsd u uk ul v:=Zeq h.v1 h.v2
theorem H2.rd {w u u':World} {R O V:Nat} {a p n:Int} {vk vl:Value} {o:Sde} {a2 p2 n2:Int} {uk ul:Value} {v:Sde} (h:H2 w R O V a p n vk vl o a2 p2 n2 uk ul v u) (hg:u.grownBy u' (some R)):H2 w R O V a p n vk vl o a2 p2 n2 uk ul v u':=by
 have h1:=h.r1
 have h2:=h.r2
 have h3:=h.r3
 exact⟨ZdT h.gr hg,(hg.block _ (Array.getElem?_eq_some_iff.1 h.q).1 (fun e=>by have:=Option.some.inj e;omega)).trans h.q,h.bo.off hg (fun e=>by have:=Option.some.inj e;omega),h.bv.off hg (fun e=>by have:=Option.some.inj e;omega),ZhI h.o1 hg h1,ZhI h.o2 hg h1,ZhI h.v1 hg h1,ZhI h.v2 hg h1,h.r1,h.r2,h.r3⟩
theorem RgR.st {R:Nat} {vL:Value} {Z:Except (Nat × Int) ((Int × Int) × Nat)} {a p n:Int} {w':World} (h:RgR R vL Z a p n w'):RdZ w' R vL (stP Z):=by
 rcases Z with e | ⟨q,p1⟩
 ·exact h
 ·exact h.2.2.2
theorem LnQ5.st {R:Nat} {vL:Value} {Z:Except (Nat × Int) (Sde × Nat)} {x:Sde} {w':World} (h:LnQ5 R vL Z x w'):RdZ w' R vL (stP Z):=by
 rcases Z with e | ⟨q,p1⟩
 ·exact h
 ·exact h.2
end

section
open Go.RowKit Go.Proofs.YtcniomgjikienaaGreatDoor.Tx
end

section
open Go.RowKit
attribute [local go_sem] ByteArray.extract_mk Zhc
end

section
open Go.RowKit
end

section
open Go.RowKit
attribute [local go_sem] ByteArray.extract_mk Zhc
theorem Lx.grown {w0 w u:World} {R X:Nat} {a p n:Int} {vk vl:Value} {ks:List UInt8} {ts:List (List UInt8)} (h:Lx w R X a p n vk vl ks ts u) (hg:w0.grownBy w (some R)) (hX:w0.heap.size≤X):w0.grownBy u (some R) :=
 ⟨h.os.trans hg.os,h.tape.trans hg.tape,h.output.trans hg.output,Nat.le_trans hg.size h.size,fun k h1 h2=>(h.block k (Nat.lt_of_lt_of_le h1 hg.size) (fun e=>h2 (congrArg some e)) (by omega)).trans (hg.block k h1 h2)⟩
theorem Bh.cells {u:World} {b:Nat} (q:Bh u b):u.cell? ⟨b,0,none⟩=some (.int .i64 0)∧u.cell? ⟨b,1,none⟩=some (.int .i64 0)∧u.cell? ⟨b,2,none⟩=some (.int .i64 0)∧u.cell? ⟨b,3,none⟩=some (.int .i64 0)∧u.cell? ⟨b,4,none⟩=some (.slice none 0 0):=by
 unfold Bh hxO at q
 refine⟨?_,?_,?_,?_,?_⟩<;>rw[Lib.cell_of_heap q]<;>rfl
theorem Bh.frozen {u:World} {b:Nat} (q:Bh u b) (j:Nat):u.frozen? ⟨b,j,none⟩=false:=Lib.frozen_of_heap q j
end

section
open Go.RowKit Go.Proofs.YtcniomgjikienaaGreatDoor.Tx
attribute [local go_sem] ByteArray.extract_mk Zhc
end

section
open Go.RowKit Go.Proofs.YtcniomgjikienaaGreatDoor.Tx
attribute [local go_sem] ByteArray.extract_mk Zhc
end

section
open Go.RowKit Go.Proofs.YtcniomgjikienaaGreatDoor.Tx
attribute [local go_sem] ByteArray.extract_mk Zhc
end

section
open Go.RowKit Go.Proofs.YtcniomgjikienaaGreatDoor.Tx
attribute [local go_sem] ByteArray.extract_mk Zhc
def ctO (a b:Int):Obj:=.cells #[.int .i64 a,.int .i64 b] 300
def cN (c:UInt8):Int:=if okC c=true then (tkN c:Int) else 0
end

section
open Ln
end

section
open Go.RowKit Go.Proofs.YtcniomgjikienaaGreatDoor.Tx
def mk0:Obj:=.cells #[.int .u8 0,.string ⟨#[]⟩] 47
structure Mz (w:World) (R:Nat) (vL:Value) (T:Nat) (p:Nat) (a b x y:Int) (u:World):Prop where
 gr:w.grownBy u (some R)
 b1:u.heap[w.heap.size]?=some (ctO a b)
 b2:u.heap[w.heap.size+1]?=some mk0
 b3:u.heap[w.heap.size+2]?=some (ctO 0 0)
 bt:u.heap[T]?=some (ctO x y)
 ck:Uk u R vL (p:Int)
 tl:w.heap.size+2<T
 rl:R<w.heap.size
section
variable {w u u':World} {R T p:Nat} {vL:Value} {a b x y:Int}
theorem Mz.low (h:Mz w R vL T p a b x y u) (hb:Below u.heap.size u u'):Mz w R vL T p a b x y u' :=
 ⟨ZdT h.gr (ZfO hb _),(hb.block _ (Array.getElem?_eq_some_iff.1 h.b1).1).trans h.b1,(hb.block _ (Array.getElem?_eq_some_iff.1 h.b2).1).trans h.b2,(hb.block _ (Array.getElem?_eq_some_iff.1 h.b3).1).trans h.b3,(hb.block _ (Array.getElem?_eq_some_iff.1 h.bt).1).trans h.bt,h.ck.low hb,h.tl,h.rl⟩
theorem Mz.other (h:Mz w R vL T p a b x y u) {g:Nat} (j:Nat) (z:Value) (h0:w.heap.size+2<g) (h1:g≠T):Mz w R vL T p a b x y (u.setCell ⟨g,j,none⟩ z):=by
 have hs:=h.rl
 have k:∀ (i:Nat) (o:Obj),i≠g→u.heap[i]?=some o→(u.setCell ⟨g,j,none⟩ z).heap[i]?=some o:=fun i o hi ho=>(Below.heap_setCell _ _ _ i hi).trans ho
 exact⟨ZdR h.gr (by omega) j z,k _ _ (by omega) h.b1,k _ _ (by omega) h.b2,k _ _ (by omega) h.b3,k _ _ (fun e=>h1 e.symm) h.bt,k _ _ (by omega) h.ck,h.tl,h.rl⟩
theorem Mz.setA (h:Mz w R vL T p a b x y u) (z:Int):Mz w R vL T p z b x y (u.setCell ⟨w.heap.size,0,none⟩ (.int .i64 z)):=by
 have hs:=h.rl
 have ht:=h.tl
 have k:∀ (i:Nat) (o:Obj),i≠w.heap.size→u.heap[i]?=some o→(u.setCell ⟨w.heap.size,0,none⟩ (.int .i64 z)).heap[i]?=some o:=fun i o hi ho=>(Below.heap_setCell _ _ _ i hi).trans ho
 exact⟨ZdR h.gr (Nat.le_refl _) 0 _,heap_setCell_same u _ 0 _ _ _ h.b1,k _ _ (by omega) h.b2,k _ _ (by omega) h.b3,k _ _ (by omega) h.bt,k _ _ (by omega) h.ck,h.tl,h.rl⟩
theorem Mz.setB (h:Mz w R vL T p a b x y u) (z:Int):Mz w R vL T p a z x y (u.setCell ⟨w.heap.size,1,none⟩ (.int .i64 z)):=by
 have hs:=h.rl
 have ht:=h.tl
 have k:∀ (i:Nat) (o:Obj),i≠w.heap.size→u.heap[i]?=some o→(u.setCell ⟨w.heap.size,1,none⟩ (.int .i64 z)).heap[i]?=some o:=fun i o hi ho=>(Below.heap_setCell _ _ _ i hi).trans ho
 exact⟨ZdR h.gr (Nat.le_refl _) 1 _,heap_setCell_same u _ 1 _ _ _ h.b1,k _ _ (by omega) h.b2,k _ _ (by omega) h.b3,k _ _ (by omega) h.bt,k _ _ (by omega) h.ck,h.tl,h.rl⟩
theorem Mz.next (h:Mz w R vL T p a b x y u):Mz w R vL T (p+1) a b x y (u.setCell ⟨R,1,none⟩ (.int .i64 ((p:Int)+1))):=by
 have hs:=h.rl
 have ht:=h.tl
 have k:∀ (i:Nat) (o:Obj),i≠R→u.heap[i]?=some o→(u.setCell ⟨R,1,none⟩ (.int .i64 ((p:Int)+1))).heap[i]?=some o:=fun i o hi ho=>(Below.heap_setCell _ _ _ i hi).trans ho
 exact⟨ZdT h.gr (ZdS u R 1 _),k _ _ (by omega) h.b1,k _ _ (by omega) h.b2,k _ _ (by omega) h.b3,k _ _ (by omega) h.bt,by have:=h.ck.at ((p:Int)+1);simpa using this,h.tl,h.rl⟩
theorem Mz.left (h:Mz w R vL T p a b x y u):u.cell? ⟨w.heap.size,0,none⟩=some (.int .i64 a)∧u.cell? ⟨w.heap.size,1,none⟩=some (.int .i64 b)∧u.frozen? ⟨w.heap.size,0,none⟩=false∧u.frozen? ⟨w.heap.size,1,none⟩=false:=by
 have e:u.heap[w.heap.size]?=some (.cells #[.int .i64 a,.int .i64 b] 300):=h.b1
 exact⟨by rw[Lib.cell_of_heap e];rfl,by rw[Lib.cell_of_heap e];rfl,Lib.frozen_of_heap e 0,Lib.frozen_of_heap e 1⟩
theorem Mz.taken (h:Mz w R vL T p a b x y u):u.cell? ⟨T,0,none⟩=some (.int .i64 x)∧u.cell? ⟨T,1,none⟩=some (.int .i64 y):=by
 have e:u.heap[T]?=some (.cells #[.int .i64 x,.int .i64 y] 300):=h.bt
 exact⟨by rw[Lib.cell_of_heap e];rfl,by rw[Lib.cell_of_heap e];rfl⟩
theorem Mz.res (h:Mz w R vL T p a b x y u):(∀ j,u.frozen? ⟨w.heap.size+1,j,none⟩=false)∧(∀ j,u.frozen? ⟨w.heap.size+1+1,j,none⟩=false)∧u.cell? ⟨w.heap.size+1,0,none⟩=some (.int .u8 0)∧u.cell? ⟨w.heap.size+1,1,none⟩=some (.string ⟨#[]⟩)∧u.cell? ⟨w.heap.size+1+1,0,none⟩=some (.int .i64 0)∧u.cell? ⟨w.heap.size+1+1,1,none⟩=some (.int .i64 0):=by
 have e:u.heap[w.heap.size+1]?=some (.cells #[.int .u8 0,.string ⟨#[]⟩] 47):=h.b2
 have e2:u.heap[w.heap.size+1+1]?=some (.cells #[.int .i64 0,.int .i64 0] 300):=h.b3
 exact⟨fun j=>Lib.frozen_of_heap e j,fun j=>Lib.frozen_of_heap e2 j,by rw[Lib.cell_of_heap e];rfl,by rw[Lib.cell_of_heap e];rfl,by rw[Lib.cell_of_heap e2];rfl,by rw[Lib.cell_of_heap e2];rfl⟩
theorem Mz.fin (h:Mz w R vL T p a b x y u) (z:Int) (tx:List UInt8) :
  ((((u.setCell ⟨w.heap.size+1,0,none⟩ (.int .u8 z)).setCell ⟨w.heap.size+1,1,none⟩ (.string ⟨tx.toArray⟩)).setCell ⟨w.heap.size+1+1,0,none⟩ (.int .i64 a)).setCell ⟨w.heap.size+1+1,1,none⟩ (.int .i64 b)).drew.heap[w.heap.size+1]?=some (.cells #[.int .u8 z,.string ⟨tx.toArray⟩] 47) ∧
  ((((u.setCell ⟨w.heap.size+1,0,none⟩ (.int .u8 z)).setCell ⟨w.heap.size+1,1,none⟩ (.string ⟨tx.toArray⟩)).setCell ⟨w.heap.size+1+1,0,none⟩ (.int .i64 a)).setCell ⟨w.heap.size+1+1,1,none⟩ (.int .i64 b)).drew.heap[w.heap.size+1+1]?=some (.cells #[.int .i64 a,.int .i64 b] 300) ∧
  Uk ((((u.setCell ⟨w.heap.size+1,0,none⟩ (.int .u8 z)).setCell ⟨w.heap.size+1,1,none⟩ (.string ⟨tx.toArray⟩)).setCell ⟨w.heap.size+1+1,0,none⟩ (.int .i64 a)).setCell ⟨w.heap.size+1+1,1,none⟩ (.int .i64 b)).drew R vL (p:Int) ∧
  w.grownBy ((((u.setCell ⟨w.heap.size+1,0,none⟩ (.int .u8 z)).setCell ⟨w.heap.size+1,1,none⟩ (.string ⟨tx.toArray⟩)).setCell ⟨w.heap.size+1+1,0,none⟩ (.int .i64 a)).setCell ⟨w.heap.size+1+1,1,none⟩ (.int .i64 b)).drew (some R):=by
 have hr:=h.rl
 have e1:=heap_setCell_same _ _ 1 _ _ (.string ⟨tx.toArray⟩) (heap_setCell_same u _ 0 _ _ (.int .u8 z) h.b2)
 have e2:((u.setCell ⟨w.heap.size+1,0,none⟩ (.int .u8 z)).setCell ⟨w.heap.size+1,1,none⟩ (.string ⟨tx.toArray⟩)).heap[w.heap.size+1+1]?=some (ctO 0 0):=(Below.heap_setCell _ _ _ _ (show w.heap.size+1+1≠w.heap.size+1 by omega)).trans ((Below.heap_setCell _ _ _ _ (show w.heap.size+1+1≠w.heap.size+1 by omega)).trans h.b3)
 have e3:=heap_setCell_same _ _ 1 _ _ (.int .i64 b) (heap_setCell_same _ _ 0 _ _ (.int .i64 a) e2)
 refine⟨?_,e3,?_,?_⟩
 ·exact (Below.heap_setCell _ _ _ _ (show w.heap.size+1≠w.heap.size+1+1 by omega)).trans ((Below.heap_setCell _ _ _ _ (show w.heap.size+1≠w.heap.size+1+1 by omega)).trans e1)
 ·exact (Below.heap_setCell _ _ _ _ (show R≠w.heap.size+1+1 by omega)).trans ((Below.heap_setCell _ _ _ _ (show R≠w.heap.size+1+1 by omega)).trans ((Below.heap_setCell _ _ _ _ (show R≠w.heap.size+1 by omega)).trans ((Below.heap_setCell _ _ _ _ (show R≠w.heap.size+1 by omega)).trans h.ck)))
 ·exact ZdP (ZdR (ZdR (ZdR (ZdR h.gr (by omega) 0 _) (by omega) 1 _) (by omega) 0 _) (by omega) 1 _) 1
end
end

section
open Go.RowKit Go.Proofs.YtcniomgjikienaaGreatDoor.Tx
attribute [local go_sem] ByteArray.extract_mk Zhc
end

section
open Go.RowKit Go.Proofs.YtcniomgjikienaaGreatDoor.Tx
attribute [local go_sem] ByteArray.extract_mk Zhc
theorem Zdl {w u:World} {R b:Nat} (h:w.grownBy u (some R)) (hb:w.heap.size≤b) (A AN B BN:Int) (z:Value):w.grownBy (five u b A AN B BN z) (some R):=ZdR (ZdR (ZdR (ZdR (ZdR h hb 0 _) hb 1 _) hb 2 _) hb 3 _) hb 4 _
theorem Zdm {u:World} {b:Nat} {h:Hk} {v:Value} (p:Hx u b h v) (A AN B BN:Int) (z:Value):(five u b A AN B BN z).heap[b]?=some (.cells #[.int .i64 A,.int .i64 AN,.int .i64 B,.int .i64 BN,z] 45 (0,0)):=p.put5 _ _ _ _ _
end

section
open Go.RowKit Go.Proofs.YtcniomgjikienaaGreatDoor.Tx
attribute [local go_sem] ByteArray.extract_mk Zhc
structure Hd2 (w:World) (A AN B BN:Int) (u:World):Prop where
 low:Below w.heap.size w u
 b0:Hx u w.heap.size ⟨0,0,0,0,[]⟩ (.slice none 0 0)
 b1:Hx u (w.heap.size+1) ⟨A,AN,B,BN,[]⟩ (.slice none 0 0)
section
variable {w u u':World} {A AN B BN:Int}
theorem Hd2.keep (h:Hd2 w A AN B BN u) (hb:Below u.heap.size u u'):Hd2 w A AN B BN u':=⟨h.low.trans (hb.mono h.low.size),h.b0.low hb,h.b1.low hb⟩
theorem Hd2.setA (h:Hd2 w A AN B BN u) (z y:Int):Hd2 w z y B BN ((u.setCell ⟨w.heap.size+1,0,none⟩ (.int .i64 z)).setCell ⟨w.heap.size+1,1,none⟩ (.int .i64 y)):=⟨(h.low.setCell (p:=⟨w.heap.size+1,0,none⟩) (by show w.heap.size≤w.heap.size+1;omega) _).setCell (p:=⟨w.heap.size+1,1,none⟩) (by show w.heap.size≤w.heap.size+1;omega) _,(Below.heap_setCell _ _ _ _ (show w.heap.size≠w.heap.size+1 by omega)).trans ((Below.heap_setCell _ _ _ _ (show w.heap.size≠w.heap.size+1 by omega)).trans h.b0),heap_setCell_same _ _ 1 _ _ _ (heap_setCell_same _ _ 0 _ _ _ h.b1)⟩
theorem Hd2.setB (h:Hd2 w A AN B BN u) (z y:Int):Hd2 w A AN z y ((u.setCell ⟨w.heap.size+1,2,none⟩ (.int .i64 z)).setCell ⟨w.heap.size+1,3,none⟩ (.int .i64 y)):=⟨(h.low.setCell (p:=⟨w.heap.size+1,2,none⟩) (by show w.heap.size≤w.heap.size+1;omega) _).setCell (p:=⟨w.heap.size+1,3,none⟩) (by show w.heap.size≤w.heap.size+1;omega) _,(Below.heap_setCell _ _ _ _ (show w.heap.size≠w.heap.size+1 by omega)).trans ((Below.heap_setCell _ _ _ _ (show w.heap.size≠w.heap.size+1 by omega)).trans h.b0),heap_setCell_same _ _ 3 _ _ _ (heap_setCell_same _ _ 2 _ _ _ h.b1)⟩
theorem Hd2.fin (h:Hd2 w A AN B BN u):(five u w.heap.size A AN B BN (.slice none 0 0)).heap[w.heap.size]?=some (.cells #[.int .i64 A,.int .i64 AN,.int .i64 B,.int .i64 BN,.slice none 0 0] 45 (0,0))∧Below w.heap.size w (five u w.heap.size A AN B BN (.slice none 0 0)):=⟨h.b0.put5 _ _ _ _ _,ZiK h.low (Nat.le_refl _) _ _ _ _ _⟩
theorem Hd2.new (w:World):Hd2 w 0 0 0 0 ((w.alloc (hkO ⟨0,0,0,0,[]⟩ (.slice none 0 0))).alloc (hkO ⟨0,0,0,0,[]⟩ (.slice none 0 0))):=by
 have hz:(w.alloc (hkO ⟨0,0,0,0,[]⟩ (.slice none 0 0))).heap.size=w.heap.size+1:=by simp
 refine⟨((Below.refl _ w).alloc (Nat.le_refl _) _).alloc (by rw[hz];omega) _,(Below.heap_alloc _ _ _ (by rw[hz];omega)).trans (Hx.new w _ _),?_⟩
 have:=Hx.new (w.alloc (hkO ⟨0,0,0,0,[]⟩ (.slice none 0 0))) ⟨0,0,0,0,[]⟩ (.slice none 0 0)
 rw[hz] at this
 exact this
end
end

section
open Go.RowKit Go.Proofs.YtcniomgjikienaaGreatDoor.Tx
attribute [local go_sem] ByteArray.extract_mk Zhc
structure Ml (w:World) (R:Nat) (vL:Value) (st:Except (Nat × Int) Nat) (u:World):Prop where
 gr:w.grownBy u (some R)
 b0:u.heap[w.heap.size]?=some (.cells #[.int .u8 0,.string ⟨#[]⟩] 47)
 rd:RdZ u R vL st
 rl:R<w.heap.size
section
variable {w u u':World} {R M:Nat} {vL:Value} {st st':Except (Nat × Int) Nat}
theorem Ml.low (h:Ml w R vL st u) (hb:Below u.heap.size u u'):Ml w R vL st u':=⟨ZdT h.gr (ZfO hb _),(hb.block _ (Array.getElem?_eq_some_iff.1 h.b0).1).trans h.b0,h.rd.low hb,h.rl⟩
theorem Ml.call (h:Ml w R vL st u) (hg:u.grownBy u' (some R)) (q:RdZ u' R vL st'):Ml w R vL st' u':=⟨ZdT h.gr hg,(hg.block _ (Array.getElem?_eq_some_iff.1 h.b0).1 (fun e=>by have:=Option.some.inj e;have:=h.rl;omega)).trans h.b0,q,h.rl⟩
theorem Ml.other (h:Ml w R vL st u) (j:Nat) (z:Value) (hM:w.heap.size<M):Ml w R vL st (u.setCell ⟨M,j,none⟩ z):=⟨ZdR h.gr (by omega) j z,(Below.heap_setCell _ _ _ _ (by show w.heap.size≠M;omega)).trans h.b0,h.rd.off (ZdS u M j z) (fun e=>by have:=Option.some.inj e;have:=h.rl;omega),h.rl⟩
theorem Ml.cells (h:Ml w R vL st u):u.cell? ⟨w.heap.size,0,none⟩=some (.int .u8 0)∧u.cell? ⟨w.heap.size,1,none⟩=some (.string ⟨#[]⟩)∧(∀ j,u.frozen? ⟨w.heap.size,j,none⟩=false):=⟨by rw[Lib.cell_of_heap h.b0];rfl,by rw[Lib.cell_of_heap h.b0];rfl,fun j=>Lib.frozen_of_heap h.b0 j⟩
theorem Ml.fin (h:Ml w R vL st u) (z:Int) (tx:List UInt8) :
  ((u.setCell ⟨w.heap.size,0,none⟩ (.int .u8 z)).setCell ⟨w.heap.size,1,none⟩ (.string ⟨tx.toArray⟩)).heap[w.heap.size]?=some (.cells #[.int .u8 z,.string ⟨tx.toArray⟩] 47)∧RdZ ((u.setCell ⟨w.heap.size,0,none⟩ (.int .u8 z)).setCell ⟨w.heap.size,1,none⟩ (.string ⟨tx.toArray⟩)) R vL st∧w.grownBy ((u.setCell ⟨w.heap.size,0,none⟩ (.int .u8 z)).setCell ⟨w.heap.size,1,none⟩ (.string ⟨tx.toArray⟩)) (some R):=by
 have hr:=h.rl
 refine⟨heap_setCell_same _ _ 1 _ _ (.string ⟨tx.toArray⟩) (heap_setCell_same u _ 0 _ _ (.int .u8 z) h.b0),(h.rd.off (ZdS u _ 0 _) (fun e=>by have:=Option.some.inj e;omega)).off (ZdS _ _ 1 _) (fun e=>by have:=Option.some.inj e;omega),ZdR (ZdR h.gr (Nat.le_refl _) 0 _) (Nat.le_refl _) 1 _⟩
end
end

section
open Go.RowKit Go.Proofs.YtcniomgjikienaaGreatDoor.Tx
structure Uz (w:World) (R T C:Nat) (vL:Value) (A AN B BN:Int) (v:Value) (l:List Mk) (a b p:Nat) (u:World):Prop where
 gr:w.grownBy u (some R)
 bg:Hx u w.heap.size zhk (.slice none 0 0)
 bh:Hx u T ⟨A,AN,B,BN,l⟩ v
 bl:u.heap[C]?=some (ctO a b)
 own:u.ownsRow w.heap.size 47 2 v l.length (mkcells l)
 ck:Uk u R vL (p:Int)
 tl:w.heap.size<T
 cl:T<C
 rl:R<w.heap.size
section
variable {w u u':World} {R T C:Nat} {vL v:Value} {A AN B BN:Int} {l:List Mk} {a b p p':Nat}
theorem Uz.keep (h:Uz w R T C vL A AN B BN v l a b p u) (hb:Below u.heap.size u u'):Uz w R T C vL A AN B BN v l a b p u' :=
 ⟨ZdT h.gr (ZfO hb _),h.bg.low hb,h.bh.low hb,(hb.block _ (Array.getElem?_eq_some_iff.1 h.bl).1).trans h.bl,ZhK h.own hb,h.ck.low hb,h.tl,h.cl,h.rl⟩
theorem Uz.call (h:Uz w R T C vL A AN B BN v l a b p u) (hg:u.grownBy u' (some R)) (q:Uk u' R vL (p':Int)):Uz w R T C vL A AN B BN v l a b p' u':=by
 have h1:=h.tl
 have h2:=h.cl
 have h3:=h.rl
 exact⟨ZdT h.gr hg,h.bg.keep hg (fun e=>by have:=Option.some.inj e;omega),h.bh.keep hg (fun e=>by have:=Option.some.inj e;omega),(hg.block C (Array.getElem?_eq_some_iff.1 h.bl).1 (fun e=>by have:=Option.some.inj e;omega)).trans h.bl,ZhI h.own hg h.rl,q,h.tl,h.cl,h.rl⟩
theorem Uz.other (h:Uz w R T C vL A AN B BN v l a b p u) {S:Nat} {cs:Array Value} {t:TypeId} (hS:u.heap[S]?=some (.cells cs t)) (ht:47≠t∨v.ownBlock≠some S) (h0:C<S) (j:Nat) (z:Value):Uz w R T C vL A AN B BN v l a b p (u.setCell ⟨S,j,none⟩ z):=by
 have h1:=h.tl
 have h2:=h.cl
 have h3:=h.rl
 have hg:=ZdS u S j z
 refine⟨ZdR h.gr (by omega) j z,h.bg.keep hg (fun e=>by have:=Option.some.inj e;omega),h.bh.keep hg (fun e=>by have:=Option.some.inj e;omega),(Below.heap_setCell _ _ _ _ (show C≠S by omega)).trans h.bl,h.own.kept hg (.inr ?_),h.ck.keep hg (fun e=>by have:=Option.some.inj e;omega),h.tl,h.cl,h.rl⟩
 rcases ht with ht | ht
 ·exact ZhE h.own hS ht
 ·exact ht
theorem Uz.setA (h:Uz w R T C vL A AN B BN v l a b p u) (z:Nat):Uz w R T C vL A AN B BN v l z b p (u.setCell ⟨C,0,none⟩ (.int .i64 (z:Int))):=by
 have h1:=h.tl
 have h2:=h.cl
 have h3:=h.rl
 have hg:=ZdS u C 0 (.int .i64 (z:Int))
 exact⟨ZdR h.gr (by omega) 0 _,h.bg.keep hg (fun e=>by have:=Option.some.inj e;omega),h.bh.keep hg (fun e=>by have:=Option.some.inj e;omega),heap_setCell_same u C 0 _ _ _ h.bl,h.own.kept hg (.inr (ZhE h.own h.bl (by decide))),h.ck.keep hg (fun e=>by have:=Option.some.inj e;omega),h.tl,h.cl,h.rl⟩
theorem Uz.setB (h:Uz w R T C vL A AN B BN v l a b p u) (z:Nat):Uz w R T C vL A AN B BN v l a z p (u.setCell ⟨C,1,none⟩ (.int .i64 (z:Int))):=by
 have h1:=h.tl
 have h2:=h.cl
 have h3:=h.rl
 have hg:=ZdS u C 1 (.int .i64 (z:Int))
 exact⟨ZdR h.gr (by omega) 1 _,h.bg.keep hg (fun e=>by have:=Option.some.inj e;omega),h.bh.keep hg (fun e=>by have:=Option.some.inj e;omega),heap_setCell_same u C 1 _ _ _ h.bl,h.own.kept hg (.inr (ZhE h.own h.bl (by decide))),h.ck.keep hg (fun e=>by have:=Option.some.inj e;omega),h.tl,h.cl,h.rl⟩
theorem Uz.left (h:Uz w R T C vL A AN B BN v l a b p u):u.cell? ⟨C,0,none⟩=some (.int .i64 (a:Int))∧u.cell? ⟨C,1,none⟩=some (.int .i64 (b:Int))∧u.frozen? ⟨C,0,none⟩=false∧u.frozen? ⟨C,1,none⟩=false:=by
 have e:u.heap[C]?=some (.cells #[.int .i64 (a:Int),.int .i64 (b:Int)] 300):=h.bl
 exact⟨by rw[Lib.cell_of_heap e];rfl,by rw[Lib.cell_of_heap e];rfl,Lib.frozen_of_heap e 0,Lib.frozen_of_heap e 1⟩
theorem Uz.more (h:Uz w R T C vL A AN B BN v l a b p u) {m:Mk} {v':Value} (hg:u.grownBy u' v.ownBlock) (ho:u'.ownsRow w.heap.size 47 2 v' (l.length+1) (mkcells l++mkcells [m])) :
  Uz w R T C vL A AN B BN v' (l++[m]) a b p (u'.setCell ⟨T,4,none⟩ v')∧u'.cell? ⟨T,4,none⟩=some v∧u'.frozen? ⟨T,4,none⟩=false:=by
 have h1:=h.tl
 have h2:=h.cl
 have h3:=h.rl
 have hge:∀ j,v.ownBlock=some j→w.heap.size≤j:=fun j hj=>ZhJ h.own hj
 have kb:∀ (i:Nat) (cs:Array Value) (t:TypeId),47≠t→u.heap[i]?=some (.cells cs t)→u'.heap[i]?=some (.cells cs t):=fun i cs t ht hi=>(hg.block i (Array.getElem?_eq_some_iff.1 hi).1 (fun e=>ZhE h.own hi ht e.symm)).trans hi
 have bh:Hx u' T ⟨A,AN,B,BN,l⟩ v:=kb _ _ _ (by decide) h.bh
 have bg:Hx u' w.heap.size zhk (.slice none 0 0):=kb _ _ _ (by decide) h.bg
 have bl:u'.heap[C]?=some (ctO a b):=kb _ _ _ (by decide) h.bl
 have hgR:w.grownBy u' (some R):=⟨hg.os.trans h.gr.os,hg.tape.trans h.gr.tape,hg.output.trans h.gr.output,Nat.le_trans h.gr.size hg.size,fun k h1 h2=>(hg.block k (Nat.lt_of_lt_of_le h1 h.gr.size) (fun e=>by have:=hge k e.symm;omega)).trans (h.gr.block k h1 h2)⟩
 have hck:Uk u' R vL (p:Int):=h.ck.keep hg (fun e=>by have:=hge R e.symm;omega)
 have hg2:=ZdS u' T 4 v'
 refine⟨⟨ZdR hgR (by omega) 4 v',bg.keep hg2 (fun e=>by have:=Option.some.inj e;omega),heap_setCell_same u' T 4 _ _ v' bh,(Below.heap_setCell _ _ _ _ (show C≠T by omega)).trans bl,?_,hck.keep hg2 (fun e=>by have:=Option.some.inj e;omega),h.tl,h.cl,h.rl⟩,bh.cells.2.2.2.2,bh.frozen 4⟩
 rw[Zgl,List.length_append]
 exact ho.kept hg2 (.inr (ZhE ho bh (by decide)))
end
end

section
open Go.RowKit Go.Proofs.YtcniomgjikienaaGreatDoor.Tx
attribute [local go_sem] ByteArray.extract_mk Zhc
end

section
open Go.RowKit
structure Pzu (wb:World) (R S:Nat) (vL:Value) (n1 n2:List UInt8) (hv:Value) (P:List (Hk × Value)) (p:Nat) (u:World):Prop where
 gr:wb.grownBy u (some R)
 box:u.heap[S]?=some (.cells #[.string ⟨n1.toArray⟩,.string ⟨n2.toArray⟩,hv] 42)
 own:u.ownsRow wb.heap.size 45 5 hv P.length (hkcells P)
 ins:∀ x∈P,u.ownsRow wb.heap.size 47 2 x.2 x.1.ls.length (mkcells x.1.ls)
 ck:Uk u R vL (p:Int)
 ge:wb.heap.size≤S
 rl:R<wb.heap.size
section
variable {wb u u':World} {R S:Nat} {vL hv:Value} {n1 n2:List UInt8} {P:List (Hk × Value)} {p p':Nat}
theorem Pzu.keep (h:Pzu wb R S vL n1 n2 hv P p u) (hb:Below u.heap.size u u'):Pzu wb R S vL n1 n2 hv P p u':=⟨ZdT h.gr (ZfO hb _),(hb.block S (Array.getElem?_eq_some_iff.1 h.box).1).trans h.box,ZhK h.own hb,fun x hx=>ZhK (h.ins x hx) hb,h.ck.low hb,h.ge,h.rl⟩
theorem Pzu.ne (h:Pzu wb R S vL n1 n2 hv P p u):R≠S:=by have h1:=h.ge;have h2:=h.rl;omega
theorem Pzu.call (h:Pzu wb R S vL n1 n2 hv P p u) (hg:u.grownBy u' (some R)) (q:Uk u' R vL (p':Int)):Pzu wb R S vL n1 n2 hv P p' u':=⟨ZdT h.gr hg,(hg.block S (Array.getElem?_eq_some_iff.1 h.box).1 (fun e=>h.ne (Option.some.inj e).symm)).trans h.box,ZhI h.own hg h.rl,fun x hx=>ZhI (h.ins x hx) hg h.rl,q,h.ge,h.rl⟩
theorem Pzu.next (h:Pzu wb R S vL n1 n2 hv P p u):Pzu wb R S vL n1 n2 hv P (p+1) (u.setCell ⟨R,1,none⟩ (.int .i64 ((p:Int)+1))):=h.call (ZdS u R 1 _) (by have:=h.ck.at ((p:Int)+1);simpa using this)
theorem Pzu.cells (h:Pzu wb R S vL n1 n2 hv P p u):u.cell? ⟨S,0,none⟩=some (.string ⟨n1.toArray⟩)∧u.cell? ⟨S,1,none⟩=some (.string ⟨n2.toArray⟩)∧u.cell? ⟨S,2,none⟩=some hv:=by
 refine⟨?_,?_,?_⟩<;>rw[Lib.cell_of_heap h.box]<;>rfl
theorem Pzu.frozen (h:Pzu wb R S vL n1 n2 hv P p u) (j:Nat):u.frozen? ⟨S,j,none⟩=false:=Lib.frozen_of_heap h.box j
theorem Pzu.put (h:Pzu wb R S vL n1 n2 hv P p u) (j:Nat) (z:Value) {m1 m2:List UInt8} {hv':Value} (hc:#[Value.string ⟨n1.toArray⟩,.string ⟨n2.toArray⟩,hv].setIfInBounds j z=#[.string ⟨m1.toArray⟩,.string ⟨m2.toArray⟩,hv']) (ho:u.ownsRow wb.heap.size 45 5 hv' P.length (hkcells P)):Pzu wb R S vL m1 m2 hv' P p (u.setCell ⟨S,j,none⟩ z):=by
 have hg:=ZdS u S j z
 refine⟨ZdR h.gr h.ge j z,?_,ho.kept hg (.inr (ZhE ho h.box (by decide))),fun x hx=>(h.ins x hx).kept hg (.inr (ZhE (h.ins x hx) h.box (by decide))),h.ck.keep hg (fun e=>h.ne (Option.some.inj e)),h.ge,h.rl⟩
 have:=heap_setCell_same u S j _ _ z h.box
 rw[hc] at this
 exact this
theorem Pzu.more (h:Pzu wb R S vL n1 n2 hv P p u) {x:Hk} {y hv':Value} (hy:u.ownsRow wb.heap.size 47 2 y x.ls.length (mkcells x.ls)) (hg:u.grownBy u' hv.ownBlock) (ho:u'.ownsRow wb.heap.size 45 5 hv' (P.length+1) (hkcells P++hkC x y)) :
  Pzu wb R S vL n1 n2 hv' (P++[(x,y)]) p (u'.setCell ⟨S,2,none⟩ hv')∧u'.cell? ⟨S,2,none⟩=some hv∧u'.frozen? ⟨S,2,none⟩=false:=by
 have hge:∀ j,hv.ownBlock=some j→wb.heap.size≤j:=fun j hj=>ZhJ h.own hj
 have hb:u'.heap[S]?=some (.cells #[.string ⟨n1.toArray⟩,.string ⟨n2.toArray⟩,hv] 42):=(hg.block S (Array.getElem?_eq_some_iff.1 h.box).1 (fun e=>ZhE h.own h.box (by decide) e.symm)).trans h.box
 have hgR:wb.grownBy u' (some R):=⟨hg.os.trans h.gr.os,hg.tape.trans h.gr.tape,hg.output.trans h.gr.output,Nat.le_trans h.gr.size hg.size,fun k h1 h2=>(hg.block k (Nat.lt_of_lt_of_le h1 h.gr.size) (fun e=>by have:=hge k e.symm;omega)).trans (h.gr.block k h1 h2)⟩
 have hck:Uk u' R vL (p:Int):=h.ck.keep hg (fun e=>by have:=hge R e.symm;have:=h.rl;omega)
 have key:∀ {v:Value} {n:Nat} {xs:List Value},u.ownsRow wb.heap.size 47 2 v n xs→u'.ownsRow wb.heap.size 47 2 v n xs:=by
  intro v n xs hv2
  refine⟨hv2.1,?_⟩
  rcases hv2.2 with q | ⟨b,cap,cur,rfl,q2,q3,q4⟩
  ·exact .inl q
  ·refine .inr ⟨b,cap,cur,rfl,q2,?_,q4⟩
   rw[hg.block b (Array.getElem?_eq_some_iff.1 q3).1 (fun e=>ZhE h.own q3 (by decide) e.symm)]
   exact q3
 have hg2:=ZdS u' S 2 hv'
 have hkc:hkcells (P++[(x,y)])=hkcells P++hkC x y:=by rw[Zeh];simp[hkcells,hkC]
 refine⟨⟨ZdR hgR h.ge 2 hv',heap_setCell_same u' S 2 _ _ hv' hb,?_,?_,hck.keep hg2 (fun e=>h.ne (Option.some.inj e)),h.ge,h.rl⟩,by rw[Lib.cell_of_heap hb];rfl,Lib.frozen_of_heap hb 2⟩
 ·rw[List.length_append,hkc]
  exact ho.kept hg2 (.inr (ZhE ho hb (by decide)))
 ·intro z hz
  rcases List.mem_append.1 hz with hz | hz
  ·exact (key (h.ins z hz)).kept hg2 (.inr (ZhE (key (h.ins z hz)) hb (by decide)))
  ·rw[List.mem_singleton.1 hz]
   exact (key hy).kept hg2 (.inr (ZhE (key hy) hb (by decide)))
end
end

section
open Go.RowKit Go.Proofs.YtcniomgjikienaaGreatDoor.Tx
attribute [local go_sem] ByteArray.extract_mk Zhc
structure Uy (w:World) (R T:Nat) (vL:Value) (A AN B BN:Int) (v:Value) (l:List Mk) (st:Except (Nat × Int) Nat) (u:World):Prop where
 gr:w.grownBy u (some R)
 bg:Hx u w.heap.size zhk (.slice none 0 0)
 bh:Hx u T ⟨A,AN,B,BN,l⟩ v
 own:u.ownsRow w.heap.size 47 2 v l.length (mkcells l)
 rd:RdZ u R vL st
 tl:w.heap.size<T
 rl:R<w.heap.size
section
variable {w u u':World} {R T:Nat} {vL v:Value} {A AN B BN:Int} {l:List Mk} {st st':Except (Nat × Int) Nat}
theorem Uy.keep (h:Uy w R T vL A AN B BN v l st u) (hb:Below u.heap.size u u'):Uy w R T vL A AN B BN v l st u' :=
 ⟨ZdT h.gr (ZfO hb _),h.bg.low hb,h.bh.low hb,ZhK h.own hb,h.rd.low hb,h.tl,h.rl⟩
theorem Uy.call (h:Uy w R T vL A AN B BN v l st u) (hg:u.grownBy u' (some R)) (q:RdZ u' R vL st'):Uy w R T vL A AN B BN v l st' u':=by
 have h1:=h.tl
 have h3:=h.rl
 exact⟨ZdT h.gr hg,h.bg.keep hg (fun e=>by have:=Option.some.inj e;omega),h.bh.keep hg (fun e=>by have:=Option.some.inj e;omega),ZhI h.own hg h.rl,q,h.tl,h.rl⟩
theorem Uy.other (h:Uy w R T vL A AN B BN v l st u) {S:Nat} (ht:v.ownBlock≠some S) (h0:T<S) (j:Nat) (z:Value):Uy w R T vL A AN B BN v l st (u.setCell ⟨S,j,none⟩ z):=by
 have h1:=h.tl
 have h3:=h.rl
 have hg:=ZdS u S j z
 exact⟨ZdR h.gr (by omega) j z,h.bg.keep hg (fun e=>by have:=Option.some.inj e;omega),h.bh.keep hg (fun e=>by have:=Option.some.inj e;omega),h.own.kept hg (.inr ht),h.rd.off hg (fun e=>by have:=Option.some.inj e;omega),h.tl,h.rl⟩
theorem Uy.more (h:Uy w R T vL A AN B BN v l st u) {m:Mk} {v':Value} (hg:u.grownBy u' v.ownBlock) (ho:u'.ownsRow w.heap.size 47 2 v' (l.length+1) (mkcells l++mkcells [m])) :
  Uy w R T vL A AN B BN v' (l++[m]) st (u'.setCell ⟨T,4,none⟩ v')∧u'.cell? ⟨T,4,none⟩=some v∧u'.frozen? ⟨T,4,none⟩=false:=by
 have h1:=h.tl
 have h3:=h.rl
 have hge:∀ j,v.ownBlock=some j→w.heap.size≤j:=fun j hj=>ZhJ h.own hj
 have kb:∀ (i:Nat) (cs:Array Value) (t:TypeId),47≠t→u.heap[i]?=some (.cells cs t)→u'.heap[i]?=some (.cells cs t):=fun i cs t ht hi=>(hg.block i (Array.getElem?_eq_some_iff.1 hi).1 (fun e=>ZhE h.own hi ht e.symm)).trans hi
 have bh:Hx u' T ⟨A,AN,B,BN,l⟩ v:=kb _ _ _ (by decide) h.bh
 have bg:Hx u' w.heap.size zhk (.slice none 0 0):=kb _ _ _ (by decide) h.bg
 have hgR:w.grownBy u' (some R):=⟨hg.os.trans h.gr.os,hg.tape.trans h.gr.tape,hg.output.trans h.gr.output,Nat.le_trans h.gr.size hg.size,fun k h1 h2=>(hg.block k (Nat.lt_of_lt_of_le h1 h.gr.size) (fun e=>by have:=hge k e.symm;omega)).trans (h.gr.block k h1 h2)⟩
 have hck:RdZ u' R vL st:=h.rd.off hg (fun e=>by have:=hge R e.symm;omega)
 have hg2:=ZdS u' T 4 v'
 refine⟨⟨ZdR hgR (by omega) 4 v',bg.keep hg2 (fun e=>by have:=Option.some.inj e;omega),heap_setCell_same u' T 4 _ _ v' bh,?_,hck.off hg2 (fun e=>by have:=Option.some.inj e;omega),h.tl,h.rl⟩,bh.cells.2.2.2.2,bh.frozen 4⟩
 rw[Zgl,List.length_append]
 exact ho.kept hg2 (.inr (ZhE ho bh (by decide)))
theorem Uy.fin (h:Uy w R T vL A AN B BN v l st u):(five u w.heap.size A AN B BN v).heap[w.heap.size]?=some (.cells #[.int .i64 A,.int .i64 AN,.int .i64 B,.int .i64 BN,v] 45 (0,0))∧(five u w.heap.size A AN B BN v).ownsRow w.heap.size 47 2 v l.length (mkcells l)∧RdZ (five u w.heap.size A AN B BN v) R vL st∧w.grownBy (five u w.heap.size A AN B BN v) (some R):=by
 have h3:=h.rl
 have hvb:v.ownBlock≠some w.heap.size:=ZhE h.own h.bg (by decide)
 have hR:∀ {u:World} (q:RdZ u R vL st) (j:Nat) (z:Value),RdZ (u.setCell ⟨w.heap.size,j,none⟩ z) R vL st:=fun q j z=>q.off (ZdS _ _ j z) (fun e=>by have:=Option.some.inj e;omega)
 exact⟨Zdm h.bg A AN B BN v,((((h.own.kept (ZdS _ _ 0 _) (.inr hvb)).kept (ZdS _ _ 1 _) (.inr hvb)).kept (ZdS _ _ 2 _) (.inr hvb)).kept (ZdS _ _ 3 _) (.inr hvb)).kept (ZdS _ _ 4 _) (.inr hvb),hR (hR (hR (hR (hR h.rd 0 _) 1 _) 2 _) 3 _) 4 _,Zdl h.gr (Nat.le_refl _) A AN B BN v⟩
end
end

end Go.Proofs.YtcniomgjikienaaGreatDoor

namespace Go.Proofs.YtcniomgjikienaaGreatDoor.Es

section
open Go.RowKit Go.Extern.Stop Go.Stop Go.Extern
end

end Go.Proofs.YtcniomgjikienaaGreatDoor.Es

namespace Go.Proofs.YtcniomgjikienaaGreatDoor

section
open Go.RowKit
def ErrT (w:World):Prop:=w.cell? ⟨0,0,none⟩=some (.iface 157 (.agg #[.pointer (some ⟨7,24,none⟩)]))
theorem ErrT.lt {w:World} (h:ErrT w):0<w.heap.size:=World.block_lt_of_cell? w _ h
theorem ErrT.low {w u:World} {N:Nat} (h:ErrT w) (hb:Below N w u) (hN:w.heap.size≤N):ErrT u:=(World.cell?_of_block (w:=w) (hb.block _ (Nat.lt_of_lt_of_le h.lt hN))).trans h
end

section
open Go.RowKit
open Ln
end

section
open Go.RowKit
open Ln
end

section
open Go.RowKit Go.Proofs.YtcniomgjikienaaGreatDoor.Tx
attribute [local go_sem] ByteArray.extract_mk Zhc
end

section
open Go.RowKit
open Ln
end

section
open Go.RowKit
attribute [local go_sem] ByteArray.extract_mk Zhc
end

section
open Go.RowKit
attribute [local go_sem] ByteArray.extract_mk Zhc
theorem LnsP.out {s:List UInt8} {x:Ending} (h:LnsP s x):∃ A N b,x=.returned (.tuple #[.int .i64 A,.int .i64 N,.bool b])∧lnsP s=if b=true then some (A,N) else none:=by
 unfold LnsP at h
 cases hl:lnsP s with
 | none =>
  rw[hl] at h
  obtain⟨A,N,rfl⟩:=h
  exact⟨A,N,false,rfl,rfl⟩
 | some z =>
  obtain⟨A,N⟩:=z
  rw[hl] at h
  exact⟨A,N,true,h,rfl⟩
def CmdP (s:List UInt8) (x:Ending):Prop :=
 match cmdP s with
 | some (A,AN,B,BN)=>x=.returned (.tuple #[hkV ⟨A,AN,B,BN,[]⟩ (.slice none 0 0),.bool true])
 | none=>∃ A AN B BN,x=.returned (.tuple #[hkV ⟨A,AN,B,BN,[]⟩ (.slice none 0 0),.bool false])
theorem CmdP.off {s:List UInt8} (h:∀ j (hj:j<s.length),isC s[j]=false):CmdP s (.returned (.tuple #[hkV ⟨0,0,0,0,[]⟩ (.slice none 0 0),.bool false])):=by
 unfold CmdP cmdP
 rw[Zkr s h]
 exact⟨0,0,0,0,rfl⟩
section
variable {u:World} {b:Nat} {h:Hk} {v:Value}
theorem Hx.putH5 (q:Hx u b h v) (A AN B BN:Int) (l:List Mk) (z:Value):Hx (((((u.setCell ⟨b,0,none⟩ (.int .i64 A)).setCell ⟨b,1,none⟩ (.int .i64 AN)).setCell ⟨b,2,none⟩ (.int .i64 B)).setCell ⟨b,3,none⟩ (.int .i64 BN)).setCell ⟨b,4,none⟩ z) b ⟨A,AN,B,BN,l⟩ z:=by
 have s1:=heap_setCell_same u b 0 _ _ (.int .i64 A) q
 have s2:=heap_setCell_same _ b 1 _ _ (.int .i64 AN) s1
 have s3:=heap_setCell_same _ b 2 _ _ (.int .i64 B) s2
 have s4:=heap_setCell_same _ b 3 _ _ (.int .i64 BN) s3
 exact heap_setCell_same _ b 4 _ _ z s4
theorem Hx.off (q:Hx u b h v) {c j:Nat} (hc:b≠c) (z:Value):Hx (u.setCell ⟨c,j,none⟩ z) b h v:=(Below.heap_setCell _ _ _ b hc).trans q
end
theorem CmdP.mk {s:List UInt8} {k:Nat} {c:UInt8} (hk:k<s.length) (hc:s[k]=c) (h1:isC c=true) (h2:∀ j (hj:j<k),isC (s[j]'(by omega))=false) {x y:List UInt8} (hx:s.take k=x) (hy:s.drop (k+1)=y)
  {A AN B BN:Int} {b1 b2 b:Bool} (hA:(if c=97 then oneP x else lnsP x)=if b1=true then some (A,AN) else none) (hB:(if c=100 then oneP y else lnsP y)=if b2=true then some (B,BN) else none) (hb:(b1 && b2)=b) :
  CmdP s (.returned (.tuple #[hkV ⟨A,AN,B,BN,[]⟩ (.slice none 0 0),.bool b])):=by
 unfold CmdP cmdP
 rw[Zkq s k hk (by rw[hc];exact h1) h2]
 dsimp only
 rw[hx,hy,hc,hA,hB]
 cases b1<;>cases b2<;>cases hb
 ·exact⟨_,_,_,_,rfl⟩
 ·exact⟨_,_,_,_,rfl⟩
 ·exact⟨_,_,_,_,rfl⟩
 ·rfl
end

section
open Go.RowKit
attribute [local go_sem] ByteArray.extract_mk Zhc
end

section
open Go.RowKit
attribute [local go_sem] ByteArray.extract_mk Zhc
theorem Hx.fr {u u':World} {b B R:Nat} {h:Hk} {v:Value} (q:Hx u b h v) (hf:Fr B R u u') (hb:b<B) (hR:b≠R):Hx u' b h v:=(hf.block b hb hR).trans q
theorem Hx.put4 {u:World} {b:Nat} {h:Hk} {v:Value} (q:Hx u b h v) (l:List Mk) (z:Value):Hx (u.setCell ⟨b,4,none⟩ z) b ⟨h.A,h.AN,h.B,h.BN,l⟩ z:=heap_setCell_same u b 4 _ _ z q
theorem Zdn {w:World} {B:Nat} {v:Value} {n:Nat} {xs:List Value} (h:w.ownsRow B 47 2 v n xs) {b:Nat} (hne:v.ownBlock≠some b) (A AN C CN:Int) (z:Value):(((((w.setCell ⟨b,0,none⟩ (.int .i64 A)).setCell ⟨b,1,none⟩ (.int .i64 AN)).setCell ⟨b,2,none⟩ (.int .i64 C)).setCell ⟨b,3,none⟩ (.int .i64 CN)).setCell ⟨b,4,none⟩ z).ownsRow B 47 2 v n xs :=
 ((((h.kept (ZdS _ b 0 _) (.inr hne)).kept (ZdS _ b 1 _) (.inr hne)).kept (ZdS _ b 2 _) (.inr hne)).kept (ZdS _ b 3 _) (.inr hne)).kept (ZdS _ b 4 _) (.inr hne)
end

section
open Go.RowKit
end

section
open Go.RowKit
def PanQ (Q:Exit→Act→World→Prop) (Pn:List PanicEntry→World→Prop) (p2 p3:Value) (ds:List Deferred):Exit→Act→World→Prop
 | .panic c,a,w=>Pn c w∧a.tmps.getD 2 undef=p2∧a.tmps.getD 3 undef=p3∧a.defers=ds
 | .normal,a,w=>Q .normal a w
 | _,_,_=>False
theorem PanQ.normal {Q:Exit→Act→World→Prop} {Pn:List PanicEntry→World→Prop} {p2 p3:Value} {ds:List Deferred} {a:Act} {w:World} (h:Q .normal a w):PanQ Q Pn p2 p3 ds .normal a w:=h
end

section
open Go.RowKit
theorem ZhD {u:World} {B:Nat} {e t:TypeId} {s:Nat} {v:Value} {n k:Nat} {xs:List Value} {cs:Array Value} {fr:Nat × Nat} (h:u.ownsRow B e s v n xs) (hb:u.heap[k]?=some (.cells cs t fr)) (he:e≠t):v.ownBlock≠some k:=by
 intro hg
 rcases h.2 with ⟨rfl,_⟩ | ⟨g,cap,cur,rfl,_,hg2,_⟩
 ·cases hg
 ·simp[Value.ownBlock] at hg
  subst hg
  rw[hb] at hg2
  simp at hg2
  exact he hg2.2.1.symm
structure RdS (w:World) (vL:Value) (ov:Value) (P:List (Hk × Value)) (p:Int) (u:World):Prop where
 hs:Hs w ov P u
 f0:u.heap[w.heap.size]?=some (.cells #[ov] 40)
 f1:u.heap[w.heap.size+1]?=some (.cells #[.nilIface] 24)
 ry:Ry u (w.heap.size+1+1) vL p
section
variable {w u u':World} {vL ov:Value} {P:List (Hk × Value)} {p p':Int}
theorem RdS.c0 (h:RdS w vL ov P p u):u.cell? ⟨w.heap.size,0,none⟩=some ov:=by rw[Lib.cell_of_heap h.f0];rfl
theorem RdS.drew (h:RdS w vL ov P p u):RdS w vL ov P p u.drew:=⟨⟨h.hs.low.drew,h.hs.own,h.hs.ins⟩,h.f0,h.f1,h.ry⟩
theorem RdS.alloc (h:RdS w vL ov P p u) (o:Obj):RdS w vL ov P p (u.alloc o) :=
 have hl:∀ k x,u.heap[k]?=some x→(u.alloc o).heap[k]?=some x:=fun k _ hk=>(Lib.alloc_old u o k (Array.getElem?_eq_some_iff.1 hk).1).trans hk
 ⟨h.hs.alloc o,hl _ _ h.f0,hl _ _ h.f1,hl _ _ h.ry⟩
theorem RdS.call (h:RdS w vL ov P p u) (hg:u.grownBy u' (some (w.heap.size+1+1))) (q:Ry u' (w.heap.size+1+1) vL p'):RdS w vL ov P p' u':=by
 have hk:∀ k x,k≠w.heap.size+1+1→u.heap[k]?=some x→u'.heap[k]?=some x:=fun k _ hk hx=>(hg.block k (Array.getElem?_eq_some_iff.1 hx).1 (fun e=>hk (Option.some.inj e))).trans hx
 refine⟨h.hs.grown hg (fun k e=>by cases e;omega) (fun k e=>by cases e;exact ZhD h.hs.own h.ry (by decide)) (fun x hx k e=>by cases e;exact ZhD (h.hs.ins x hx) h.ry (by decide)),hk _ _ (by omega) h.f0,hk _ _ (by omega) h.f1,q⟩
theorem RdS.more (h:RdS w vL ov P p u) {x:Hk} {y ov':Value} (hy:u.ownsRow w.heap.size 47 2 y x.ls.length (mkcells x.ls)) (hg:u.grownBy u' ov.ownBlock) (ho:u'.ownsRow w.heap.size 45 5 ov' (P.length+1) (hkcells P++hkC x y)) :
  RdS w vL ov' (P++[(x,y)]) p (u'.setCell ⟨w.heap.size,0,none⟩ ov')∧u'.cell? ⟨w.heap.size,0,none⟩=some ov∧u'.frozen? ⟨w.heap.size,0,none⟩=false:=by
 have hs:=h.hs.more hy hg ho
 have hk:∀ (k:Nat) (cs:Array Value) (t:TypeId) (fr:Nat × Nat),t≠45→u.heap[k]?=some (Obj.cells cs t fr)→u'.heap[k]?=some (Obj.cells cs t fr):=fun k cs t fr ht hx=>(hg.block k (Array.getElem?_eq_some_iff.1 hx).1 (fun e=>ZhD h.hs.own hx ht.symm e.symm)).trans hx
 have f0:=hk _ _ _ _ (by decide) h.f0
 have f1:=hk _ _ _ _ (by decide) h.f1
 have ry:Ry u' (w.heap.size+1+1) vL p:=hk _ _ _ _ (by decide) h.ry
 have hg2:=ZdS u' w.heap.size 0 ov'
 refine⟨⟨hs.grown hg2 (fun k e=>by cases e;omega) (fun k e=>by cases e;exact ZhD hs.own f0 (by decide)) (fun x hx k e=>by cases e;exact ZhD (hs.ins x hx) f0 (by decide)),heap_setCell_same u' _ 0 _ _ ov' f0,?_,ry.keep hg2 (fun e=>by have:=Option.some.inj e;omega)⟩,by rw[Lib.cell_of_heap f0];rfl,Lib.frozen_of_heap f0 0⟩
 exact (Below.heap_setCell _ _ _ _ (by simp)).trans f1
end
def RdQ (w:World) (X:Except (Nat × Int) (List Hk)) (e:Ending) (w':World):Prop :=
 match X with
 | .error (a,z)=>∃ g,e=.returned (.tuple #[.slice none 0 0,.iface 62 (.pointer (some ⟨g,0,none⟩))])∧w'.heap[g]?=some (fltO (a:Int) z)∧Below w.heap.size w w'
 | .ok l=>∃ v' P,e=.returned (.tuple #[v',.nilIface])∧Hs w v' P w'∧P.map (·.1)=l
end

section
open Go.RowKit
structure Sb (w:World) (R H:Nat) (A AN B BN:Int) (m:List Mk) (ov:Value) (u:World):Prop where
 gr:w.grownBy u (some R)
 hx:Hx u H ⟨A,AN,B,BN,m⟩ ov
 rb:Hx u w.heap.size ⟨0,0,0,0,[]⟩ (.slice none 0 0)
 own:u.ownsRow w.heap.size 47 2 ov m.length (mkcells m)
 hR:R<w.heap.size
 hH:w.heap.size<H
section
variable {w u u':World} {R H:Nat} {A AN B BN:Int} {m:List Mk} {ov:Value} {vL:Value} {p fa fe:Int}
theorem Rx.low (q:Rx u R vL p fa fe) (hb:Below u.heap.size u u'):Rx u' R vL p fa fe:=(hb.block R q.lt).trans q
theorem Rx.keep (q:Rx u R vL p fa fe) {g:Option Nat} (hg:u.grownBy u' g) (hr:some R≠g):Rx u' R vL p fa fe:=(hg.block R q.lt hr).trans q
theorem Sb.call (h:Sb w R H A AN B BN m ov u) (hg:u.grownBy u' (some R)):Sb w R H A AN B BN m ov u' :=
 have h1:=h.hR
 have h2:=h.hH
 ⟨ZdT h.gr hg,h.hx.keep hg (fun e=>by have:=Option.some.inj e;omega),h.rb.keep hg (fun e=>by have:=Option.some.inj e;omega),ZhI h.own hg h.hR,h.hR,h.hH⟩
theorem Sb.low (h:Sb w R H A AN B BN m ov u) (hb:Below u.heap.size u u'):Sb w R H A AN B BN m ov u':=h.call (ZfO hb _)
theorem Sb.drew (h:Sb w R H A AN B BN m ov u):Sb w R H A AN B BN m ov u.drew:=h.low (Below.refl _ u).drew
theorem Sb.alloc (h:Sb w R H A AN B BN m ov u) (o:Obj):Sb w R H A AN B BN m ov (u.alloc o):=h.low ((Below.refl _ u).alloc (Nat.le_refl _) o)
theorem Sb.c1 (h:Sb w R H A AN B BN m ov u):u.cell? ⟨H,1,none⟩=some (.int .i64 AN):=h.hx.cells.2.1
theorem Sb.c3 (h:Sb w R H A AN B BN m ov u):u.cell? ⟨H,3,none⟩=some (.int .i64 BN):=h.hx.cells.2.2.2.1
theorem Sb.c4 (h:Sb w R H A AN B BN m ov u):u.cell? ⟨H,4,none⟩=some ov:=h.hx.cells.2.2.2.2
theorem Sb.more (h:Sb w R H A AN B BN m ov u) {x:Mk} {ov':Value} (hg:u.grownBy u' ov.ownBlock) (ho:u'.ownsRow w.heap.size 47 2 ov' (m.length+1) (mkcells m++mkcells [x])) :
  Sb w R H A AN B BN (m++[x]) ov' (u'.setCell ⟨H,4,none⟩ ov')∧u'.cell? ⟨H,4,none⟩=some ov∧u'.frozen? ⟨H,4,none⟩=false∧u'.cell? ⟨H,1,none⟩=some (.int .i64 AN)∧u'.cell? ⟨H,3,none⟩=some (.int .i64 BN)∧(∀ {vL:Value} {p fa fe:Int},Rx u R vL p fa fe→Rx (u'.setCell ⟨H,4,none⟩ ov') R vL p fa fe):=by
 have h1:=h.hR
 have h2:=h.hH
 have hne:∀ k:Nat,(∃ cs t fr,u.heap[k]?=some (Obj.cells cs t fr)∧47≠t)→some k≠ov.ownBlock:=fun k ⟨cs,t,fr,hk,ht⟩ e=>ZhD h.own hk ht e.symm
 have hxu:Hx u' H ⟨A,AN,B,BN,m⟩ ov:=h.hx.keep hg (hne H ⟨_,_,_,h.hx,by decide⟩)
 have rbu:Hx u' w.heap.size ⟨0,0,0,0,[]⟩ (.slice none 0 0):=h.rb.keep hg (hne _ ⟨_,_,_,h.rb,by decide⟩)
 have g4:=ZdS u' H 4 ov'
 have hneR:∀ {vL:Value} {p fa fe:Int},Rx u R vL p fa fe→some R≠ov.ownBlock:=fun q=>hne R ⟨_,_,_,q,by decide⟩
 refine⟨⟨?_,hxu.put4 _ _,rbu.keep g4 (fun e=>by have:=Option.some.inj e;omega),?_,h.hR,h.hH⟩,hxu.cells.2.2.2.2,hxu.frozen 4,hxu.cells.2.1,hxu.cells.2.2.2.1,fun q=>(q.keep hg (hneR q)).keep g4 (fun e=>by have:=Option.some.inj e;omega)⟩
 ·refine⟨(g4.os.trans hg.os).trans h.gr.os,(g4.tape.trans hg.tape).trans h.gr.tape,(g4.output.trans hg.output).trans h.gr.output,Nat.le_trans h.gr.size (Nat.le_trans hg.size g4.size),fun k hk hr=>?_⟩
  rw[g4.block k (Nat.lt_of_lt_of_le hk (Nat.le_trans h.gr.size hg.size)) (fun e=>by have:=Option.some.inj e;omega),hg.block k (Nat.lt_of_lt_of_le hk h.gr.size) (fun e=>by have:=ZhJ h.own e.symm;omega)]
  exact h.gr.block k hk hr
 ·have e1:(m++[x]).length=m.length+1:=by simp
  rw[e1,Zgl]
  exact ho.kept g4 (.inr (ZhD ho hxu (by decide)))
end
def AlR (R:Nat) (vL:Value) (L:List (List UInt8)) (fa:Int) (sg:List UInt8) (S:Int) (Y:Except (Nat × Int) (List Mk × Nat × List (List UInt8))) (b n:Nat) (m:List Mk) (u:World):Prop :=
 (∃ pn:Nat,Rx u R vL (pn:Int) fa 0∧pn≤b∧thenL m (rdN sg S n pn (L.drop pn))=Y)∨(∃ (p':Int) (a:Nat) (fe:Int),Rx u R vL p' (a:Int) fe∧fe≠0∧Y=.error (a,fe))
def NxR (R:Nat) (vL:Value) (L:List (List UInt8)) (fa:Int) (sg:List UInt8) (S:Int) (Y:Except (Nat × Int) (List Mk × Nat × List (List UInt8))) (b n:Nat) (m:List Mk) (t:List UInt8) (u:World):Prop:=AlR R vL L fa sg S Y b n (m++[⟨S,t⟩]) u
theorem NxR.on {R:Nat} {vL:Value} {L:List (List UInt8)} {fa:Int} {sg:List UInt8} {S:Int} {Y:Except (Nat × Int) (List Mk × Nat × List (List UInt8))} {b n:Nat} {m:List Mk} {t:List UInt8} {u u':World} (h:NxR R vL L fa sg S Y b n m t u) (hk:∀ {vL:Value} {p fa fe:Int},Rx u R vL p fa fe→Rx u' R vL p fa fe):AlR R vL L fa sg S Y b n (m++[⟨S,t⟩]) u':=by
 rcases h with ⟨pn,h1,h2,h3⟩ | ⟨p',a,fe,h1,h2,h3⟩
 ·exact .inl ⟨pn,hk h1,h2,h3⟩
 ·exact .inr ⟨p',a,fe,hk h1,h2,h3⟩
def put5 (u:World) (b:Nat) (A AN B BN:Int) (v:Value):World:=((((u.setCell ⟨b,0,none⟩ (.int .i64 A)).setCell ⟨b,1,none⟩ (.int .i64 AN)).setCell ⟨b,2,none⟩ (.int .i64 B)).setCell ⟨b,3,none⟩ (.int .i64 BN)).setCell ⟨b,4,none⟩ v
theorem Sb.done {w u:World} {R H:Nat} {A AN B BN:Int} {m:List Mk} {ov:Value} (h:Sb w R H A AN B BN m ov u) :
  (put5 u w.heap.size A AN B BN ov).heap[w.heap.size]?=some (.cells #[.int .i64 A,.int .i64 AN,.int .i64 B,.int .i64 BN,ov] 45)∧(put5 u w.heap.size A AN B BN ov).ownsRow w.heap.size 47 2 ov m.length (mkcells m)∧w.grownBy (put5 u w.heap.size A AN B BN ov) (some R)∧∀ {vL:Value} {p fa fe:Int},Rx u R vL p fa fe→Rx (put5 u w.heap.size A AN B BN ov) R vL p fa fe:=by
 have h1:=h.hR
 have hn:(some R:Option Nat)≠some w.heap.size:=fun e=>by have:=Option.some.inj e;omega
 refine⟨h.rb.putH5 A AN B BN m ov,Zdn h.own (b:=w.heap.size) (ZhD h.own h.rb (by decide)) A AN B BN ov,?_,fun q=>((((q.keep (ZdS _ _ 0 _) hn).keep (ZdS _ _ 1 _) hn).keep (ZdS _ _ 2 _) hn).keep (ZdS _ _ 3 _) hn).keep (ZdS _ _ 4 _) hn⟩
 exact ((((ZdR h.gr (B:=w.heap.size) (Nat.le_refl _) 0 (.int .i64 A)) |> fun h=>ZdR h (B:=w.heap.size) (Nat.le_refl _) 1 (.int .i64 AN)) |> fun h=>ZdR h (B:=w.heap.size) (Nat.le_refl _) 2 (.int .i64 B)) |> fun h=>ZdR h (B:=w.heap.size) (Nat.le_refl _) 3 (.int .i64 BN)) |> fun h=>ZdR h (B:=w.heap.size) (Nat.le_refl _) 4 ov
end

section
open Go.RowKit
theorem RdQ.base {w W:World} {X:Except (Nat × Int) (List Hk)} {e:Ending} {w':World} (hB:Below w.heap.size w W) (h:RdQ W X e w'):RdQ w X e w':=by
 unfold RdQ at h ⊢
 rcases X with ⟨a,z⟩ | l
 ·obtain⟨g,h1,h2,h3⟩:=h
  exact⟨g,h1,h2,hB.trans (h3.mono hB.size)⟩
 ·obtain⟨v,P,h1,h2,h3⟩:=h
  exact⟨v,P,h1,h2.base hB,h3⟩
end

section
open Go.RowKit
end

section
open Go.RowKit
structure Rpr (w:World) (R:Nat) (ov:Value) (P:List (Hk × Value)) (u:World):Prop where
 hs:Hs w ov P u
 fb:u.heap[w.heap.size]?=some (.cells #[.int .i64 0,.int .i64 0] 29)
 hR:w.heap.size<R
section
variable {w u u':World} {R:Nat} {ov:Value} {P:List (Hk × Value)}
theorem Rpr.call (h:Rpr w R ov P u) {vL:Value} {p fa fe:Int} (q:Rx u R vL p fa fe) (hg:u.grownBy u' (some R)):Rpr w R ov P u':=by
 have h1:=h.hR
 refine⟨h.hs.grown hg (fun k e=>by cases e;omega) (fun k e=>by cases e;exact ZhD h.hs.own q (by decide)) (fun x hx k e=>by cases e;exact ZhD (h.hs.ins x hx) q (by decide)),?_,h.hR⟩
 exact (hg.block _ (Array.getElem?_eq_some_iff.1 h.fb).1 (fun e=>by have:=Option.some.inj e;omega)).trans h.fb
theorem Rpr.dN (h:Rpr w R ov P u) (n:Nat):Rpr w R ov P (u.drewN n):=⟨h.hs.drewN n,h.fb,h.hR⟩
theorem Rpr.alloc (h:Rpr w R ov P u) (o:Obj):Rpr w R ov P (u.alloc o):=⟨h.hs.alloc o,(Lib.alloc_old u o _ (Array.getElem?_eq_some_iff.1 h.fb).1).trans h.fb,h.hR⟩
theorem Rpr.more (h:Rpr w R ov P u) {x:Hk} {y ov':Value} (hy:u.ownsRow w.heap.size 47 2 y x.ls.length (mkcells x.ls)) (hg:u.grownBy u' ov.ownBlock) (ho:u'.ownsRow w.heap.size 45 5 ov' (P.length+1) (hkcells P++hkC x y)) :
  Rpr w R ov' (P++[(x,y)]) u'∧∀ {vL:Value} {p fa fe:Int},Rx u R vL p fa fe→Rx u' R vL p fa fe :=
 ⟨⟨h.hs.more hy hg ho,(hg.block _ (Array.getElem?_eq_some_iff.1 h.fb).1 (fun e=>ZhD h.hs.own h.fb (by decide) e.symm)).trans h.fb,h.hR⟩,fun q=>q.keep hg (fun e=>ZhD h.hs.own q (by decide) e.symm)⟩
end
end

section
open Go.RowKit
end

section
open Go.RowKit
end

section
open Ln
def isW (c:UInt8):Bool:=c == 32
def rcmP:List UInt8→Option (Bool × Nat × Nat)
 | []=>none
 | c::t=>match spB isW t with
  | none=>none
  | some (x,_,y)=>if Pn.parseE x=0∧Pn.parseE y=0∧0<Pn.parseV y then if c=97 then some (true,(Pn.parseV x).toNat,(Pn.parseV y).toNat) else if c=100∧0<Pn.parseV x then some (false,(Pn.parseV x-1).toNat,(Pn.parseV y).toNat) else none else none
def rcmF (s:List UInt8):Option (Bool × Nat × Nat):=if fdB s=true then rcmP s.dropLast else none
def rcS (a:List (List UInt8)) (p:Nat) (s:List UInt8) (r out:List (List UInt8)) (dn:Nat) (fl:Bool):Except (Nat × Int) (List (List UInt8) × Nat × Bool × Nat × List (List UInt8)) :=
 match rcmF s with
 | none=>.error (p+1,3)
 | some (ad,ah,n)=>if ah<dn∨(ah=dn∧ad=true∧fl=true) then .error (p+1,121)
  else if a.length<ah+(if ad=true then 0 else n) then .error (p+1,2)
  else if ad=true then if r.length<n then .error (p+1+r.length+1,1) else .ok (out++(a.drop dn).take (ah-dn)++r.take n,ah,true,p+1+n,r.drop n)
  else .ok (out++(a.drop dn).take (ah-dn),ah+n,false,p+1,r)
def rcF (p:Nat) (l:List (List UInt8)):Except (Nat × Int) (List (List UInt8)):=if checkB l=true then .ok l else .error (p+1,6)
def rcE (a:List (List UInt8)):Nat→Nat→List (List UInt8)→List (List UInt8)→Nat→Bool→Except (Nat × Int) (List (List UInt8))
 | 0,p,_,out,dn,_=>rcF p (out++a.drop dn)
 | _+1,p,[],out,dn,_=>rcF p (out++a.drop dn)
 | f+1,p,s::r,out,dn,fl=>match rcS a p s r out dn fl with
  | .error e=>.error e
  | .ok (o,d,g,q,r2)=>rcE a f q r2 o d g
def RcRuns (a:List (List UInt8)) (p:Nat) (ls out:List (List UInt8)) (dn:Nat) (fl:Bool) (p':Nat) (ls' out':List (List UInt8)) (dn':Nat) (fl':Bool):Prop :=
 ∀ f,ls.length≤f→∃ f',ls'.length≤f'∧rcE a f p ls out dn fl=rcE a f' p' ls' out' dn' fl'
theorem RcRuns.refl (a:List (List UInt8)) (p:Nat) (ls out:List (List UInt8)) (dn:Nat) (fl:Bool):RcRuns a p ls out dn fl p ls out dn fl:=fun f hf=>⟨f,hf,rfl⟩
theorem RcRuns.trans {a:List (List UInt8)} {p p1 p2:Nat} {ls ls1 ls2 o o1 o2:List (List UInt8)} {d d1 d2:Nat} {g g1 g2:Bool} (h:RcRuns a p ls o d g p1 ls1 o1 d1 g1) (k:RcRuns a p1 ls1 o1 d1 g1 p2 ls2 o2 d2 g2):RcRuns a p ls o d g p2 ls2 o2 d2 g2:=fun f hf=>by
 obtain⟨f1,h1,e1⟩:=h f hf
 obtain⟨f2,h2,e2⟩:=k f1 h1
 exact⟨f2,h2,e1.trans e2⟩
theorem RcRuns.step {a:List (List UInt8)} {p q:Nat} {s:List UInt8} {r r2 o o1:List (List UInt8)} {d d1:Nat} {g g1:Bool} (h:rcS a p s r o d g=.ok (o1,d1,g1,q,r2)) (hl:r2.length≤r.length):RcRuns a p (s::r) o d g q r2 o1 d1 g1:=fun f hf=>by
 cases f with
 | zero=>simp at hf
 | succ f =>
  refine⟨f,by simp only[List.length_cons] at hf;omega,?_⟩
  rw[rcE,h]
end

section
open Ln Go.RowKit
attribute [local go_sem] Zhc ByteArray.extract_mk
end

section
open Go.RowKit Go.Proofs.YtcniomgjikienaaGreatDoor.Tx
open Ln
attribute [local go_sem] Zhc
def natC (A:List Nat):List Value:=icells (A.map fun (n:Nat)=>(n:Int))
structure Sq (W:World) (av:Value) (A:List Nat) (rv:Value) (R:List (List UInt8)) (u:World):Prop where
 low:Below W.heap.size W u
 ats:u.ownsRow W.heap.size 3 1 av A.length (natC A)
 rest:u.ownsRow W.heap.size 9 1 rv R.length (scells R)
section
variable {W u u':World} {av rv av' rv':Value} {A:List Nat} {R:List (List UInt8)}
theorem Sq.keep (h:Sq W av A rv R u) (hb:Below u.heap.size u u'):Sq W av A rv R u':=⟨h.low.trans (hb.mono h.low.size),ZhK h.ats hb,ZhK h.rest hb⟩
end
end

section
open Go.RowKit Go.Proofs.YtcniomgjikienaaGreatDoor.Tx
open Ln
attribute [local go_sem] Zhc
theorem Sq.base {w W u:World} {av rv:Value} {A:List Nat} {R:List (List UInt8)} (h:Sq W av A rv R u) (hb:Below w.heap.size w u) (hs:w.heap.size≤W.heap.size):Sq w av A rv R u:=⟨hb,ZhC h.ats hs,ZhC h.rest hs⟩
end

section
open Go.RowKit
end

section
open Go.RowKit
open Ln
theorem Mxl.lt {w:World} (h:Mxl w):1<w.heap.size:=by
 obtain⟨m,h⟩:=h
 exact block_lt_of_cell h
structure RdU (w:World) (R:Nat) (L:List (List UInt8)) (vL ov:Value) (F:List Pfd) (p:Nat) (u:World):Prop where
 pw:Pw w ov F u
 f0:u.heap[w.heap.size]?=some (.cells #[ov] 22)
 f1:u.heap[w.heap.size+1]?=some (.cells #[.nilIface] 24)
 ck:Uk u R vL (p:Int)
 rl:w.heap.size+1<R
 ln:u.ownsRow w.heap.size 9 1 vL L.length (scells L)
section
variable {w u u':World} {R:Nat} {L:List (List UInt8)} {vL ov:Value} {F:List Pfd} {p p':Nat}
theorem RdU.c0 (h:RdU w R L vL ov F p u):u.cell? ⟨w.heap.size,0,none⟩=some ov:=by rw[Lib.cell_of_heap h.f0];rfl
theorem RdU.keep (h:RdU w R L vL ov F p u) (hb:Below u.heap.size u u'):RdU w R L vL ov F p u':=⟨⟨h.pw.low.trans (hb.mono h.pw.low.size),ZhK h.pw.own hb,fun f hf=>(h.pw.ins f hf).keep hb⟩,(hb.block _ (Array.getElem?_eq_some_iff.1 h.f0).1).trans h.f0,(hb.block _ (Array.getElem?_eq_some_iff.1 h.f1).1).trans h.f1,h.ck.low hb,h.rl,ZhK h.ln hb⟩
theorem RdU.call (h:RdU w R L vL ov F p u) (hg:u.grownBy u' (some R)) (q:Uk u' R vL (p':Int)):RdU w R L vL ov F p' u':=by
 have hk:∀ k x,k≠R→u.heap[k]?=some x→u'.heap[k]?=some x:=fun k _ hk hx=>(hg.block k (Array.getElem?_eq_some_iff.1 hx).1 (fun e=>hk (Option.some.inj e))).trans hx
 have hb:u.heap[R]?=some (.cells #[vL,.int .i64 (p:Int)] 229):=h.ck
 have hr:=h.rl
 exact⟨⟨h.pw.low.grown hg h.pw.low.size (fun k e=>by cases e;omega),h.pw.own.kept hg (.inr (ZhE h.pw.own hb (by decide))),fun f hf=>(h.pw.ins f hf).box hb (by decide) (by decide) hg⟩,hk _ _ (by omega) h.f0,hk _ _ (by omega) h.f1,q,h.rl,h.ln.kept hg (.inr (ZhE h.ln hb (by decide)))⟩
theorem RdU.lines (h:RdU w R L vL ov F p u) (hg:u.grownBy u' (some R)):HS u' vL L:=by
 have hb:u.heap[R]?=some (.cells #[vL,.int .i64 (p:Int)] 229):=h.ck
 exact Zeo (h.ln.kept hg (.inr (ZhE h.ln hb (by decide))))
theorem RdU.more (h:RdU w R L vL ov F p u) {f:Pfd} {ov':Value} (hy:Pown w.heap.size u f) (hg:u.grownBy u' ov.ownBlock) (ho:u'.ownsRow w.heap.size 42 3 ov' (F.length+1) (pxcells F++pxC f)) :
  RdU w R L vL ov' (F++[f]) p (u'.setCell ⟨w.heap.size,0,none⟩ ov')∧u'.cell? ⟨w.heap.size,0,none⟩=some ov∧u'.frozen? ⟨w.heap.size,0,none⟩=false:=by
 have hk:∀ (k:Nat) (cs:Array Value) (t:TypeId) (fr:Nat × Nat),t≠42→u.heap[k]?=some (Obj.cells cs t fr)→u'.heap[k]?=some (Obj.cells cs t fr):=fun k cs t fr ht hx=>(hg.block k (Array.getElem?_eq_some_iff.1 hx).1 (fun e=>ZhE h.pw.own hx ht.symm e.symm)).trans hx
 have f0:=hk _ _ _ _ (by decide) h.f0
 have f1:=hk _ _ _ _ (by decide) h.f1
 have ck:Uk u' R vL (p:Int):=hk _ _ _ _ (by decide) h.ck
 have hg2:=ZdS u' w.heap.size 0 ov'
 have hin:∀ g,Pown w.heap.size u g→Pown w.heap.size u' g:=fun g hp=>⟨hp.eq,ZjA hp.own h.pw.own (by decide) hg,fun y hy=>ZjA (hp.ins y hy) h.pw.own (by decide) hg⟩
 have hlow:=h.pw.low.grown hg h.pw.low.size (fun k e=>ZhJ h.pw.own e)
 have hr:=h.rl
 refine⟨⟨⟨hlow.setCell (Nat.le_refl _) _,?_,?_⟩,heap_setCell_same u' _ 0 _ _ ov' f0,(Below.heap_setCell _ _ _ _ (by simp)).trans f1,ck.keep hg2 (fun e=>by have:=Option.some.inj e;omega),h.rl,(ZjA h.ln h.pw.own (by decide) hg).kept hg2 (.inr (ZhE (ZjA h.ln h.pw.own (by decide) hg) f0 (by decide)))⟩,by rw[Lib.cell_of_heap f0];rfl,Lib.frozen_of_heap f0 0⟩
 ·have e1:pxcells (F++[f])=pxcells F++pxC f:=by simp[pxcells]
  rw[List.length_append,e1]
  exact ho.kept hg2 (.inr (ZhE ho f0 (by decide)))
 ·intro g hgm
  have hP:Pown w.heap.size u' g:=by
   rcases List.mem_append.1 hgm with hm | hm
   ·exact hin g (h.pw.ins g hm)
   ·rw[List.mem_singleton.1 hm];exact hin f hy
  exact hP.box f0 (by decide) (by decide) hg2
end
end

section
open Ln Go.RowKit
end

section
open Go.RowKit Go.Proofs.YtcniomgjikienaaGreatDoor.Tx
open Ln
attribute [local go_sem] Zhc
def fmNo:Nat→Int
 | 0=>3
 | 1=>2
 | 2=>1
 | _=>0
end

section
open Go.RowKit Go.Proofs.YtcniomgjikienaaGreatDoor.Tx
theorem ZAF (A N:Int) (h0:0≤A) (h1:A≤4611686018427387904) (h2:0≤N) (h3:N≤4611686018427387900) (w:World) (HT:Hid (Tab10 w)) (T:List UInt8) (HR:Hid (ucT A N=T)) :
  Calls Tryz.prog 208 #[.int .i64 A,.int .i64 N] w fun e w'=>e=.returned (.string ⟨T.toArray⟩)∧Below w.heap.size w w':=by
 have l1:=Zwz A (by omega) (by omega)
 have l2:=Zwz N (by omega) (by omega)
 by_cases hN:N=1
 ·have HE1:Hid (Lib.itoa A=T):=(by have h:=HR.out;unfold ucT at h;rw[if_pos hN] at h;exact h)
  have e1:(N == 1)=true:=beq_iff_eq.2 hN
  clear HR hN
  go_enter Tryz.func208,Tryz.ntmps208
  go_wp2_with fail
  refine (Zxj A (by omega) (by omega) _ HT).mono ?_
  rintro e w1 ⟨rfl,hb1⟩
  go_wp2
  go_ret
  exact⟨by rw[← HE1.out];rfl,hb1⟩
 ·have HE:Hid (Lib.itoa A++44::Lib.itoa N=T):=(by have h:=HR.out;unfold ucT at h;rw[if_neg hN] at h;exact h)
  have e1:(N == 1)=false:=beq_eq_false_iff_ne.2 hN
  clear HR hN
  have q1:=Zsl (x:=Lib.itoa A) (y:=[44]) (by unfold Fits;simp only[List.length_cons,List.length_nil];omega) Tryz.prog
  have q2:=Zsl (x:=Lib.itoa A++[44]) (y:=Lib.itoa N) (by unfold Fits;simp only[List.length_append,List.length_cons,List.length_nil];omega) Tryz.prog
  go_enter Tryz.func208,Tryz.ntmps208
  go_wp2_with fail
  refine (Zxj A (by omega) (by omega) _ HT).mono ?_
  rintro e w1 ⟨rfl,hb1⟩
  have HT1:Hid (Tab10 w1):=HT.out.on hb1
  go_wp2_with fail
  refine (Zxj N (by omega) (by omega) _ HT1).mono ?_
  rintro e w2 ⟨rfl,hb2⟩
  go_wp2
  go_ret
  exact⟨by rw[← HE.out];rfl,hb1.trans (hb2.mono hb1.size)⟩
theorem ZAL (l:List UInt8) (w:World) (hl:l.length≤1099511627776) (t:List UInt8) (HT:Hid (nameT l=t)) :
  Calls Tryz.prog 172 #[.string ⟨l.toArray⟩] w fun e w'=>e=.returned (.string ⟨t.toArray⟩)∧Below w.heap.size w w':=by
 go_enter Tryz.func172,Tryz.ntmps172
 go_wp2_with fail
 refine (ZbJ l w hl t HT).mono ?_
 rintro e w1 ⟨rfl,hB⟩
 go_wp2
 go_ret
 exact⟨rfl,hB⟩
def Bu (B b:Nat) (v:Value) (acc:List UInt8) (w:World):Prop:=Bld 85 5 B b v (Lib.byteCells acc) w
theorem Bu.low {B b:Nat} {v:Value} {acc:List UInt8} {w w':World} (h:Bu B b v acc w) (hb:Below w.heap.size w w'):Bu B b v acc w':=Bld.kept h hb.block
theorem Bu.str {B b:Nat} {v:Value} {acc s Z:List UInt8} {w:World} (h:Bu B b v acc w) (hBw:B≤w.heap.size) (hZ:acc++s=Z) (hl:Z.length≤70368744177664) :
  Calls Tryz.prog 39 #[.pointer (some ⟨b,0,none⟩),.string ⟨s.toArray⟩] w fun e w'=>(∃ z,e=.returned (.tuple #[z,.nilIface]))∧∃ v',Bu B b v' Z w'∧Wr B b v v' w w':=by
 have hll:acc.length+s.length≤70368744177664:=by rw[← hZ,List.length_append] at hl;exact hl
 refine (Ztz ZwG B b v _ s w h (by rw[Ztl];omega) hBw).mono ?_
 rintro e w' ⟨rfl,v',q,hw⟩
 exact⟨⟨_,rfl⟩,v',by unfold Bu;rw[← hZ,Lib.byteCells_append];exact q,hw⟩
theorem ZuC {u:World} {a:Addr} {z:Int} (h:u.cell? a=some (.int .i64 z)) {op:Oper} (x:Operand) (ho:op.op=.load 3 x) {ev:Operand→Value} (hx:ev x=.pointer (some a)) :
  (execOp ev op).run Tryz.prog u=.ok (.value (.int .i64 z)) u:=by
 simp only[execOp,ho,hx]
 go_simp
theorem ZuA {x y z:List UInt8} (h:∀ u:World,(Op.stringOp .add ⟨x.toArray⟩ ⟨y.toArray⟩).run Tryz.prog u=.ok (.string ⟨z.toArray⟩) u) {u:World} {op:Oper} (a b:Operand) (ho:op.op=.binOp .add 9 a b 9) {ev:Operand→Value} (ha:ev a=.string ⟨x.toArray⟩) (hb:ev b=.string ⟨y.toArray⟩) :
  (execOp ev op).run Tryz.prog u=.ok (.value (.string ⟨z.toArray⟩)) u:=by
 simp only[execOp,ho,ha,hb]
 go_simp
theorem ZAI (m:Mk):(umL m).flatten=UInt8.ofNat m.sg.toNat::plT m.tx:=by
 unfold umL
 rw[Zyw]
 rfl
end

end Go.Proofs.YtcniomgjikienaaGreatDoor
