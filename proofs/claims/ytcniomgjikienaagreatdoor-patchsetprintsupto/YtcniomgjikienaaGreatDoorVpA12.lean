/-
  Texts that belong together, joined: CpO, QtB, QtC, CpP, NpT, CrS, CpQ, CpX, UnLen, UqA, UqB.
-/
import Derived.Test.YtcniomgjikienaaGreatDoorVpA11
import Derived.Laws.OwnMore

set_option maxHeartbeats 16000000
set_option maxRecDepth 100000
namespace Go.Proofs.YtcniomgjikienaaGreatDoor

section
open Go.RowKit
theorem infoPx:(Tryz.prog.info? 42).map (fun i=>(i.zero,i.size,i.bytes))=some (some (.agg #[.string ⟨#[]⟩,.string ⟨#[]⟩,.slice none 0 0]),3,56):=by kernel_rfl
structure Pfd where
 x:Pth
 v:Value
 hs:List (Hk × Value)
def pxC (f:Pfd):List Value:=[.string ⟨f.x.old.toArray⟩,.string ⟨f.x.new.toArray⟩,f.v]
def pxcells (F:List Pfd):List Value:=F.flatMap pxC
def pxO (f:Pfd):Obj:=.cells #[.string ⟨f.x.old.toArray⟩,.string ⟨f.x.new.toArray⟩,f.v] 42
structure Pown (B:Nat) (u:World) (f:Pfd):Prop where
 eq:f.x.hs=f.hs.map (·.1)
 own:u.ownsRow B 45 5 f.v f.hs.length (hkcells f.hs)
 ins:∀ y∈f.hs,u.ownsRow B 47 2 y.2 y.1.ls.length (mkcells y.1.ls)
structure Pw (w:World) (ov:Value) (F:List Pfd) (u:World):Prop where
 low:Below w.heap.size w u
 own:u.ownsRow w.heap.size 42 3 ov F.length (pxcells F)
 ins:∀ f∈F,Pown w.heap.size u f
theorem Pown.kept {B k:Nat} {u u':World} {f:Pfd} (h:Pown B u f) (hg:u.grownBy u' (some k)) (h1:f.v.ownBlock≠some k) (h2:∀ y∈f.hs,y.2.ownBlock≠some k):Pown B u' f:=⟨h.eq,h.own.kept hg (.inr h1),fun y hy=>(h.ins y hy).kept hg (.inr (h2 y hy))⟩
theorem Pown.keep {B:Nat} {u u':World} {f:Pfd} (h:Pown B u f) (hb:Below u.heap.size u u'):Pown B u' f:=⟨h.eq,ZhK h.own hb,fun y hy=>ZhK (h.ins y hy) hb⟩
theorem Pown.box {B k:Nat} {u u':World} {f:Pfd} {cs:Array Value} {t:TypeId} {fr:Nat × Nat} (h:Pown B u f) (hb:u.heap[k]?=some (.cells cs t fr)) (h1:45≠t) (h2:47≠t) (hg:u.grownBy u' (some k)):Pown B u' f:=h.kept hg (ZhE h.own hb h1) (fun y hy=>ZhE (h.ins y hy) hb h2)
theorem ZjA {B:Nat} {u u':World} {e e':TypeId} {s s':Nat} {v v':Value} {n n':Nat} {xs xs':List Value} (h:u.ownsRow B e s v n xs) (ho:u.ownsRow B e' s' v' n' xs') (hne:e'≠e) (hg:u.grownBy u' v'.ownBlock):u'.ownsRow B e s v n xs:=by
 refine⟨h.1,?_⟩
 rcases h.2 with q | ⟨b,cap,cur,rfl,q2,q3,q4⟩
 ·exact .inl q
 ·refine .inr ⟨b,cap,cur,rfl,q2,?_,q4⟩
  rw[hg.block b (Array.getElem?_eq_some_iff.1 q3).1 (fun e=>ZhE ho q3 hne e.symm)]
  exact q3
structure RdP (w:World) (R:Nat) (L:List (List UInt8)) (vL ov:Value) (F:List Pfd) (p:Nat) (u:World):Prop where
 pw:Pw w ov F u
 f0:u.heap[w.heap.size]?=some (.cells #[ov] 22)
 f1:u.heap[w.heap.size+1]?=some (.cells #[.nilIface] 24)
 ck:Ck u R vL (p:Int)
 rl:w.heap.size+1<R
 ln:u.ownsRow w.heap.size 9 1 vL L.length (scells L)
section
variable {w u u':World} {R:Nat} {L:List (List UInt8)} {vL ov:Value} {F:List Pfd} {p p':Nat}
theorem RdP.c0 (h:RdP w R L vL ov F p u):u.cell? ⟨w.heap.size,0,none⟩=some ov:=by rw[Lib.cell_of_heap h.f0];rfl
theorem RdP.keep (h:RdP w R L vL ov F p u) (hb:Below u.heap.size u u'):RdP w R L vL ov F p u':=⟨⟨h.pw.low.trans (hb.mono h.pw.low.size),ZhK h.pw.own hb,fun f hf=>(h.pw.ins f hf).keep hb⟩,(hb.block _ (Array.getElem?_eq_some_iff.1 h.f0).1).trans h.f0,(hb.block _ (Array.getElem?_eq_some_iff.1 h.f1).1).trans h.f1,h.ck.low hb,h.rl,ZhK h.ln hb⟩
theorem RdP.call (h:RdP w R L vL ov F p u) (hg:u.grownBy u' (some R)) (q:Ck u' R vL (p':Int)):RdP w R L vL ov F p' u':=by
 have hk:∀ k x,k≠R→u.heap[k]?=some x→u'.heap[k]?=some x:=fun k _ hk hx=>(hg.block k (Array.getElem?_eq_some_iff.1 hx).1 (fun e=>hk (Option.some.inj e))).trans hx
 have hb:u.heap[R]?=some (.cells #[vL,.int .i64 (p:Int)] 233):=h.ck
 have hr:=h.rl
 exact⟨⟨h.pw.low.grown hg h.pw.low.size (fun k e=>by cases e;omega),h.pw.own.kept hg (.inr (ZhE h.pw.own hb (by decide))),fun f hf=>(h.pw.ins f hf).box hb (by decide) (by decide) hg⟩,hk _ _ (by omega) h.f0,hk _ _ (by omega) h.f1,q,h.rl,h.ln.kept hg (.inr (ZhE h.ln hb (by decide)))⟩
theorem RdP.lines (h:RdP w R L vL ov F p u) (hg:u.grownBy u' (some R)):HS u' vL L:=by
 have hb:u.heap[R]?=some (.cells #[vL,.int .i64 (p:Int)] 233):=h.ck
 exact Zeo (h.ln.kept hg (.inr (ZhE h.ln hb (by decide))))
theorem RdP.more (h:RdP w R L vL ov F p u) {f:Pfd} {ov':Value} (hy:Pown w.heap.size u f) (hg:u.grownBy u' ov.ownBlock) (ho:u'.ownsRow w.heap.size 42 3 ov' (F.length+1) (pxcells F++pxC f)) :
  RdP w R L vL ov' (F++[f]) p (u'.setCell ⟨w.heap.size,0,none⟩ ov')∧u'.cell? ⟨w.heap.size,0,none⟩=some ov∧u'.frozen? ⟨w.heap.size,0,none⟩=false:=by
 have hk:∀ (k:Nat) (cs:Array Value) (t:TypeId) (fr:Nat × Nat),t≠42→u.heap[k]?=some (Obj.cells cs t fr)→u'.heap[k]?=some (Obj.cells cs t fr):=fun k cs t fr ht hx=>(hg.block k (Array.getElem?_eq_some_iff.1 hx).1 (fun e=>ZhE h.pw.own hx ht.symm e.symm)).trans hx
 have f0:=hk _ _ _ _ (by decide) h.f0
 have f1:=hk _ _ _ _ (by decide) h.f1
 have ck:Ck u' R vL (p:Int):=hk _ _ _ _ (by decide) h.ck
 have hg2:=ZdS u' w.heap.size 0 ov'
 have hin:∀ g,Pown w.heap.size u g→Pown w.heap.size u' g:=fun g hp=>⟨hp.eq,ZjA hp.own h.pw.own (by decide) hg,fun y hy=>ZjA (hp.ins y hy) h.pw.own (by decide) hg⟩
 have hlow:=h.pw.low.grown hg h.pw.low.size (fun k e=>ZhJ h.pw.own e)
 have hr:=h.rl
 refine⟨⟨⟨hlow.setCell (Nat.le_refl _) _,?_,?_⟩,heap_setCell_same u' _ 0 _ _ ov' f0,(Below.heap_setCell _ _ _ _ (by simp)).trans f1,ck.keep hg2 (fun e=>by have:=Option.some.inj e;omega),h.rl,(ZjA h.ln h.pw.own (by decide) hg).kept hg2 (.inr (ZhE (ZjA h.ln h.pw.own (by decide) hg) f0 (by decide)))⟩,by rw[Lib.cell_of_heap f0];rfl,Lib.frozen_of_heap f0 0⟩
 ·have e1:pxcells (F++[f])=pxcells F++pxC f:=by simp[pxcells]
  rw[List.length_append,e1]
  exact ho.kept hg2 (.inr (ZhE ho f0 (by decide)))
 ·intro g hgm
  have hP:Pown w.heap.size u' g:=by
   rcases List.mem_append.1 hgm with hm | hm
   ·exact hin g (h.pw.ins g hm)
   ·rw[List.mem_singleton.1 hm];exact hin f hy
  exact hP.box f0 (by decide) (by decide) hg2
end
theorem Zhx (w:World) (f:Pfd):Holds (w.alloc (pxO f)) (.slice (some ⟨w.heap.size,0,none⟩) 1 1) 1 (pxC f):=by
 refine .inr ⟨⟨w.heap.size,0,none⟩,1,rfl,Nat.le_refl _,?_⟩
 intro j u hj
 have hb:=heap_alloc_new w (pxO f)
 match j,hj with
 | 0,hj=>rw[show ((⟨w.heap.size,0,none⟩:Addr).add 0)=⟨w.heap.size,0,none⟩ from rfl,Lib.cell_of_heap hb];exact hj
 | 1,hj=>rw[show ((⟨w.heap.size,0,none⟩:Addr).add 1)=⟨w.heap.size,1,none⟩ from rfl,Lib.cell_of_heap hb];exact hj
 | 2,hj=>rw[show ((⟨w.heap.size,0,none⟩:Addr).add 2)=⟨w.heap.size,2,none⟩ from rfl,Lib.cell_of_heap hb];exact hj
 | n+3,hj=>simp[pxC] at hj
end

section
open Go.RowKit Go.Proofs.YtcniomgjikienaaGreatDoor.Tx
attribute [local go_sem] Zhc
theorem Zvd {h:Hk} (hc:chkH h=0):(chR [frnH h]).length≤h.ls.length:=by
 obtain⟨_,_,_,a4⟩:=Zvc hc
 unfold chR
 rw[a4,if_pos rfl,List.length_reverse]
 simp only[chHs]
 have:=ZtG (frnH h).ls (atA (frnH h)) (atB (frnH h)) []
 simpa [frnH] using this
theorem Zvf {h:Hk} (hc:chkH h=0) {M:List Hk} (hM:mkR (chR [frnH h]) (oldL h) (newL h) 0=M):M.length≤h.ls.length:=by
 rw[← hM,Zxe (Zvh hc),List.length_map]
 exact Zvd hc
theorem Zve {h:Hk} (hc:chkH h=0) {M:List Hk} (hM:mkR (chR [frnH h]) (oldL h) (newL h) 0=M):∀ x∈M,0≤x.A∧x.A≤2147483648∧0≤x.B∧x.B≤2147483648:=by
 have hs:=Zvh hc
 intro x hx
 rw[← hM,Zxe hs] at hx
 obtain⟨c,hcm,rfl⟩:=List.mem_map.1 hx
 obtain⟨q1,q2,q3⟩:=Zzz hs.2.2 c hcm
 rw[ZxP q1 q2 q3]
 have hn:=(Zhj c).1 q1
 unfold noA
 dsimp only
 refine⟨?_,?_,?_,?_⟩<;>split<;>omega
def Bh5 (u:World) (B:Nat) (A AN C CN:Int) (v:Value):Prop:=u.heap[B]?=some (.cells #[.int .i64 A,.int .i64 AN,.int .i64 C,.int .i64 CN,v] 45 (0,0))
theorem Bh5.low {u u':World} {B:Nat} {A AN C CN:Int} {v:Value} (h:Bh5 u B A AN C CN v) (hb:Below u.heap.size u u'):Bh5 u' B A AN C CN v:=(hb.block B (Array.getElem?_eq_some_iff.1 h).1).trans h
theorem Bh5.cells {u:World} {B:Nat} {A AN C CN:Int} {v:Value} (h:Bh5 u B A AN C CN v):u.cell? ⟨B,0,none⟩=some (.int .i64 A)∧u.cell? ⟨B,1,none⟩=some (.int .i64 AN)∧u.cell? ⟨B,2,none⟩=some (.int .i64 C)∧u.cell? ⟨B,3,none⟩=some (.int .i64 CN)∧u.cell? ⟨B,4,none⟩=some v:=by
 unfold Bh5 at h
 refine⟨?_,?_,?_,?_,?_⟩<;>(rw[Lib.cell_of_heap h];rfl)
theorem ld8 {u:World} {B:Nat} {A AN C CN:Int} {o:Option Addr} {n c:Nat} (q:Bh5 u B A AN C CN (.slice o n c)) {op:Oper} (x:Operand) (ho:op.op=.load 45 x) {ev:Operand→Value} (hx:ev x=.pointer (some ⟨B,0,none⟩)) :
  (execOp ev op).run Tryz.prog u=.ok (.value (.agg #[.int .i64 A,.int .i64 AN,.int .i64 C,.int .i64 CN,.slice o n c])) u:=by
 obtain⟨c0,c1,c2,c3,c4⟩:=q.cells
 simp only[execOp,ho,hx]
 go_simp
def mvP (h:Hk) (x:Hk × Value):Hk × Value:=(movH h x.1,x.2)
def mvR (h:Hk) (P:List (Hk × Value)) (k:Nat):List (Hk × Value):=(P.take k).map (mvP h)++P.drop k
theorem Zvm (l:List Ch) (n m:Int):grpE l n m 0=chk l n m:=by
 unfold grpE
 split
 ·rfl
 ·rename_i h
  rw[if_neg (by omega)]
  omega
theorem ZvT (x:Hk × Value) (Q:List (Hk × Value)):hkcells (x::Q)=hkC x.1 x.2++hkcells Q:=rfl
theorem Zxi (h:Hk) (P:List (Hk × Value)) (k:Nat) (hk:k<P.length) :
  (hkcells (mvR h P k))[k * 5]?=some (.int .i64 P[k].1.A)∧(hkcells (mvR h P k))[k * 5+2]?=some (.int .i64 P[k].1.B) ∧
  ((hkcells (mvR h P k)).set (k * 5) (.int .i64 (P[k].1.A+(h.A-min h.AN 1)))).set (k * 5+2) (.int .i64 (P[k].1.B+(h.B-min h.BN 1)))=hkcells (mvR h P (k+1)):=by
 obtain⟨x,hx⟩:∃ x,P[k]=x:=⟨_,rfl⟩
 have e1:mvR h P k=(P.take k).map (mvP h)++x::P.drop (k+1):=by unfold mvR;rw[List.drop_eq_getElem_cons hk,hx]
 have e2:mvR h P (k+1)=(P.take k).map (mvP h)++mvP h x::P.drop (k+1):=by
  unfold mvR
  rw[List.take_succ_eq_append_getElem hk,hx,List.map_append,List.append_assoc]
  rfl
 have l1:(hkcells ((P.take k).map (mvP h))).length=k * 5:=by
  rw[Zej,List.length_map,List.length_take,Nat.min_eq_left (by omega)]
 rw[e1,e2,Zeh,Zeh,ZvT,ZvT,hx]
 refine⟨?_,?_,?_⟩
 ·rw[List.getElem?_append_right (by omega),l1,Nat.sub_self];rfl
 ·rw[List.getElem?_append_right (by omega),l1,show k * 5+2-k * 5=2 by omega];rfl
 ·rw[List.set_append_right _ _ (by omega),l1,Nat.sub_self,List.set_append_right _ _ (by omega),l1,show k * 5+2-k * 5=2 by omega]
  rfl
structure Mw (w:World) (h:Hk) (P:List (Hk × Value)) (ov:Value) (k:Nat) (u:World):Prop where
 low:Below w.heap.size w u
 own:u.ownsRow w.heap.size 45 5 ov P.length (hkcells (mvR h P k))
 ins:∀ x∈P,u.ownsRow w.heap.size 47 2 x.2 x.1.ls.length (mkcells x.1.ls)
theorem Mw.start {w:World} {h:Hk} {P:List (Hk × Value)} {ov:Value} {u:World} (q:Hs w ov P u):Mw w h P ov 0 u:=by
 refine⟨q.low,?_,q.ins⟩
 have e:mvR h P 0=P:=by unfold mvR;simp
 rw[e]
 exact q.own
theorem Mw.done {w:World} {h:Hk} {P:List (Hk × Value)} {ov:Value} {u:World} (q:Mw w h P ov P.length u):Hs w ov (P.map (mvP h)) u:=by
 have e:mvR h P P.length=P.map (mvP h):=by unfold mvR;simp
 refine⟨q.low,?_,fun x hx=>?_⟩
 ·have:=q.own
  rw[e] at this
  rw[List.length_map]
  exact this
 ·obtain⟨y,hy,rfl⟩:=List.mem_map.1 hx
  exact q.ins y hy
theorem Mw.low2 {w:World} {h:Hk} {P:List (Hk × Value)} {ov:Value} {k:Nat} {u u':World} (q:Mw w h P ov k u) (hb:Below u.heap.size u u'):Mw w h P ov k u':=⟨q.low.trans (hb.mono q.low.size),ZhK q.own hb,fun x hx=>ZhK (q.ins x hx) hb⟩
theorem Mw.step {w:World} {h:Hk} {P:List (Hk × Value)} {g c:Nat} {k:Nat} {u:World} (q:Mw w h P (.slice (some ⟨g,0,none⟩) P.length c) k u) (hk:k<P.length) :
  Mw w h P (.slice (some ⟨g,0,none⟩) P.length c) (k+1) ((u.setCell ⟨g,k * 5,none⟩ (.int .i64 (P[k].1.A+(h.A-min h.AN 1)))).setCell ⟨g,k * 5+2,none⟩ (.int .i64 (P[k].1.B+(h.B-min h.BN 1)))) ∧
  u.grownBy ((u.setCell ⟨g,k * 5,none⟩ (.int .i64 (P[k].1.A+(h.A-min h.AN 1)))).setCell ⟨g,k * 5+2,none⟩ (.int .i64 (P[k].1.B+(h.B-min h.BN 1)))) (some g):=by
 obtain⟨_,_,e3⟩:=Zxi h P k hk
 obtain⟨s1,g1⟩:=q.own.stored (k * 5) (.int .i64 (P[k].1.A+(h.A-min h.AN 1)))
 obtain⟨s2,g2⟩:=s1.stored (k * 5+2) (.int .i64 (P[k].1.B+(h.B-min h.BN 1)))
 rw[e3] at s2
 have gg:=ZdT g1 g2
 have hge:w.heap.size≤g:=ZhJ q.own rfl
 refine⟨⟨q.low.grown gg q.low.size (fun j e=>by cases e;exact hge),s2,fun x hx=>ZjA (q.ins x hx) q.own (by decide) gg⟩,gg⟩
theorem Zye (h:Hk) (ao:Option Addr) (ac:Nat) (w:World) (hv:HMk w (.slice ao h.ls.length ac) h.ls) (hc:chkH h=0) (hl:h.ls.length≤137438953472) (htx:∀ m∈h.ls,m.tx.length≤1099511627776) (R:List Hk) (HR:Hid ((mkR (chR [frnH h]) (oldL h) (newL h) 0).map (movH h)=R)) :
  Calls Tryz.prog 180 #[hkV h (.slice ao h.ls.length ac)] w fun e w'=>∃ v' P,e=.returned v'∧Hs w v' P w'∧P.map (·.1)=R:=by
 obtain⟨rA,rAN,rB,rBN,_,_⟩:=ZzH hc
 obtain⟨a1,a2,a3,a4⟩:=Zvc hc
 obtain⟨L,hL⟩:∃ L,chR [frnH h]=L:=⟨_,rfl⟩
 have hLl:=Zvd hc
 have hgr:grpE L (oldL h).length (newL h).length 0=0:=(by
  rw[Zvm,← hL]
  exact ZtW (Zvh hc))
 obtain⟨O,hO⟩:∃ O,oldL h=O:=⟨_,rfl⟩
 obtain⟨N,hN⟩:∃ N,newL h=N:=⟨_,rfl⟩
 have hOl:O.length≤h.ls.length:=(by rw[← hO];exact Zyn _ _)
 have hNl:N.length≤h.ls.length:=(by rw[← hN];exact Zyn _ _)
 obtain⟨M,hM⟩:∃ M,mkR L O N 0=M:=⟨_,rfl⟩
 rw[hL,hO,hN,hM] at HR
 rw[hL] at hLl
 rw[hO,hN] at hgr
 have HMB:Hid (∀ x∈M,0≤x.A∧x.A≤2147483648∧0≤x.B∧x.B≤2147483648):=Zve hc (by rw[hL,hO,hN];exact hM)
 have hMl:M.length≤h.ls.length:=Zvf hc (by rw[hL,hO,hN];exact hM)
 have hch:=fun (u:World) (v:Value) (q:HHp u v [(frnH h,.slice ao h.ls.length ac)])=>Zvy [(frnH h,.slice ao h.ls.length ac)] v u q ⟨by simp,fun x hx=>by rw[List.mem_singleton.1 hx];exact⟨by dsimp only[frnH];omega,htx⟩⟩ (by simp only[List.map_cons,List.map_nil,tot];dsimp only[frnH];omega) 0 a4 L hL
 have hold:=fun (u:World) (q:HMk u (.slice ao h.ls.length ac) h.ls)=>ZvH h (.slice ao h.ls.length ac) u q (by omega) O hO
 have hnew:=fun (u:World) (q:HMk u (.slice ao h.ls.length ac) h.ls)=>ZvF h (.slice ao h.ls.length ac) u q (by omega) N hN
 have hmk:=fun (u:World) (v va vb:Value) (q1:HCh u v L) (q2:HS u va O) (q3:HS u vb N)=>ZvE L O N 0 v va vb u q1 q2 q3 (by omega) (by omega) (by omega) 0 hgr M hM
 clear hL hO hN hM a1 a2 a3 a4 hgr htx hc
 obtain⟨n,hn⟩:∃ n,h.ls.length=n:=⟨_,rfl⟩
 obtain⟨A,hA⟩:∃ A,h.A=A:=⟨_,rfl⟩
 obtain⟨AN,hAN⟩:∃ A,h.AN=A:=⟨_,rfl⟩
 obtain⟨B,hB⟩:∃ A,h.B=A:=⟨_,rfl⟩
 obtain⟨BN,hBN⟩:∃ A,h.BN=A:=⟨_,rfl⟩
 have hfr:Hid (∀ v,hkO (frnH h) v=.cells #[.int .i64 (min AN 1),.int .i64 AN,.int .i64 (min BN 1),.int .i64 BN,v] 45):=(by intro v;rw[← hAN,← hBN];rfl)
 have hho:∀ v,hkO h v=.cells #[.int .i64 A,.int .i64 AN,.int .i64 B,.int .i64 BN,v] 45:=(by intro v;rw[← hA,← hAN,← hB,← hBN];rfl)
 have hV:hkV h (.slice ao h.ls.length ac)=.agg #[.int .i64 A,.int .i64 AN,.int .i64 B,.int .i64 BN,.slice ao n ac]:=(by rw[← hA,← hAN,← hB,← hBN,← hn];rfl)
 have HMV:Hid (∀ x:Hk,movH h x=⟨x.A+(A-min AN 1),x.AN,x.B+(B-min BN 1),x.BN,x.ls⟩):=(by intro x;rw[← hA,← hAN,← hB,← hBN];rfl)
 have HDA:Hid (h.A-min h.AN 1=A-min AN 1∧h.B-min h.BN 1=B-min BN 1):=(by rw[hA,hAN,hB,hBN];exact⟨rfl,rfl⟩)
 have hx0:Bh5 (w.alloc (.cells #[.int .i64 A,.int .i64 AN,.int .i64 B,.int .i64 BN,.slice ao n ac] 45)) w.heap.size A AN B BN (.slice ao n ac):=_root_.Go.heap_alloc_new w _
 have hb0:Below w.heap.size w (w.alloc (.cells #[.int .i64 A,.int .i64 AN,.int .i64 B,.int .i64 BN,.slice ao n ac] 45)):=(Below.refl _ w).alloc (Nat.le_refl _) _
 have hv0:=HMk.keep hv hb0 (Nat.le_refl _)
 rw[hn] at hv hv0
 rw[hn] at hch hold hnew
 have hold:=fun (u:World) (q:HMk u (.slice ao n ac) h.ls)=>hold u q
 rw[hV]
 rw[show hkV h (.slice ao n ac)=.agg #[.int .i64 A,.int .i64 AN,.int .i64 B,.int .i64 BN,.slice ao n ac] by rw[← hA,← hAN,← hB,← hBN];rfl] at hold hnew
 rw[hA] at rA
 rw[hAN] at rAN
 rw[hB] at rB
 rw[hBN] at rBN
 have hnl:n≤137438953472:=by omega
 have hMl:M.length≤137438953472:=by omega
 clear hA hAN hB hBN hV hho hn
 go_enter Tryz.func180,Tryz.ntmps180
 go_upto_region 1 with fail
 generalize w.alloc (.cells #[.int .i64 A,.int .i64 AN,.int .i64 B,.int .i64 BN,.slice ao n ac] 45)=w1 at *
 obtain⟨d0,d1,d2,d3,d4⟩:=hx0.cells
 have hlt0:w.heap.size<w1.heap.size:=(Array.getElem?_eq_some_iff.1 hx0).1
 have hy2:Bh5 (w1.alloc (.cells #[.int .i64 A,.int .i64 AN,.int .i64 B,.int .i64 BN,.slice ao n ac] 45)) w1.heap.size A AN B BN (.slice ao n ac):=_root_.Go.heap_alloc_new w1 _
 have hb1:Below w1.heap.size w1 (w1.alloc (.cells #[.int .i64 A,.int .i64 AN,.int .i64 B,.int .i64 BN,.slice ao n ac] 45)):=(Below.refl _ w1).alloc (Nat.le_refl _) _
 go_upto_region 2 with fail
 generalize w1.alloc (.cells #[.int .i64 A,.int .i64 AN,.int .i64 B,.int .i64 BN,.slice ao n ac] 45)=w2 at *
 have hx2:=hx0.low hb1
 have hv2:=HMk.keep hv0 hb1 (Nat.le_refl _)
 have hB2:=hb0.trans (hb1.mono (Nat.le_of_lt hlt0))
 clear d0 d1 d2 d3 d4
 obtain⟨d0,d1,d2,d3,d4⟩:=hx2.cells
 obtain⟨e0,e1,e2,e3,e4⟩:=hy2.cells
 have z0:=Lib.frozen_of_heap hy2 0
 have z2:=Lib.frozen_of_heap hy2 2
 obtain⟨mA,hmA⟩:∃ m,min AN 1=m:=⟨_,rfl⟩
 obtain⟨mB,hmB⟩:∃ m,min BN 1=m:=⟨_,rfl⟩
 have hmA2:0≤mA∧mA≤1:=by omega
 have hmB2:0≤mB∧mB≤1:=by omega
 have hyA:Bh5 ((w2.setCell ⟨w1.heap.size,0,none⟩ (.int .i64 mA)).setCell ⟨w1.heap.size,2,none⟩ (.int .i64 mB)).drew w1.heap.size mA AN mB BN (.slice ao n ac):=by
  have s1:=heap_setCell_same w2 w1.heap.size 0 _ _ (.int .i64 mA) hy2
  exact heap_setCell_same _ w1.heap.size 2 _ _ (.int .i64 mB) s1
 have hxA:Bh5 ((w2.setCell ⟨w1.heap.size,0,none⟩ (.int .i64 mA)).setCell ⟨w1.heap.size,2,none⟩ (.int .i64 mB)).drew w.heap.size A AN B BN (.slice ao n ac):=by
  refine (heap_setCell_other _ _ _ _ ?_).trans ((heap_setCell_other _ _ _ _ ?_).trans hx2)
  ·exact Nat.ne_of_lt hlt0
  ·exact Nat.ne_of_lt hlt0
 have hBA:Below w.heap.size w ((w2.setCell ⟨w1.heap.size,0,none⟩ (.int .i64 mA)).setCell ⟨w1.heap.size,2,none⟩ (.int .i64 mB)).drew:=((hB2.setCell (Nat.le_of_lt hlt0) _).setCell (Nat.le_of_lt hlt0) _).drew
 have HMV2:Hid (∀ x:Hk,movH h x=⟨x.A+(A-mA),x.AN,x.B+(B-mB),x.BN,x.ls⟩):=(by intro x;rw[HMV.out,hmA,hmB])
 have HDA2:Hid (h.A-min h.AN 1=A-mA∧h.B-min h.BN 1=B-mB):=(by rw[HDA.out.1,HDA.out.2,hmA,hmB];exact⟨rfl,rfl⟩)
 have hfr2:Hid (∀ v,hkO (frnH h) v=.cells #[.int .i64 mA,.int .i64 AN,.int .i64 mB,.int .i64 BN,v] 45):=(by intro v;rw[hfr.out,hmA,hmB])
 go_region
 generalize ((w2.setCell ⟨w1.heap.size,0,none⟩ (.int .i64 mA)).setCell ⟨w1.heap.size,2,none⟩ (.int .i64 mB)).drew=wA at *
 clear d0 d1 d2 d3 d4 e0 e1 e2 e3 e4 z0 z2 hx2 hy2 hB2 hv2 hb1 hb0 hx0 hv0 hmA hmB HMV HDA hfr
 have hvA:=HMk.keep hv hBA (Nat.le_refl _)
 have hq:HHp (wA.alloc (.cells #[.int .i64 mA,.int .i64 AN,.int .i64 mB,.int .i64 BN,.slice ao n ac] 45)) (.slice (some ⟨wA.heap.size,0,none⟩) 1 1) [(frnH h,.slice ao n ac)]:=by
  rw[← hfr2.out (.slice ao n ac)]
  refine⟨?_,fun x hx=>?_⟩
  ·have:=Zhz wA (frnH h) (.slice ao n ac)
   simpa [hkcells] using this
  ·rw[List.mem_singleton.1 hx]
   exact HMk.keep hvA ((Below.refl _ wA).alloc (Nat.le_refl _) _) (Nat.le_refl _)
 have hbA:Below wA.heap.size wA (wA.alloc (.cells #[.int .i64 mA,.int .i64 AN,.int .i64 mB,.int .i64 BN,.slice ao n ac] 45)):=(Below.refl _ wA).alloc (Nat.le_refl _) _
 obtain⟨e0,e1,e2,e3,e4⟩:=hyA.cells
 go_wp2_with fail
 refine (hch _ _ hq).mono ?_
 rintro e w3 ⟨vL,rfl,hL3,hB3⟩
 have hb3:Below wA.heap.size wA w3:=hbA.trans (hB3.mono hbA.size)
 have hx3:=hxA.low hb3
 have hy3:=hyA.low hb3
 have hv3:=HMk.keep hvA hb3 (Nat.le_refl _)
 have hBw3:=hBA.trans (hb3.mono hBA.size)
 have hl1:w1.heap.size<w3.heap.size:=(Array.getElem?_eq_some_iff.1 hy3).1
 clear hch hq hbA hB3 hb3 hxA hyA hvA e0 e1 e2 e3 e4 hBA hfr2
 obtain⟨lo',lc',rfl⟩:=Holds.form hL3
 go_upto_region 4 with fail
 refine wp_region_noPanic ?_
 refine wp_region_held_drew (S:=fun u=>Low w3 u) (by kernel_rfl) ((Below.refl _ w3).drew) (fun hHeld=>?_)
 refine Y_t 0 25 _ (.slice lo' L.length lc') rfl (Or.inl ⟨by kernel_rfl,fun u hu=>by kernel_rfl⟩) hHeld ?_
 simp only[Act.put,Y_a,Y_b,Y_c]
 refine Y_t 1 26 _ (.agg #[.int .i64 A,.int .i64 AN,.int .i64 B,.int .i64 BN,.slice ao n ac]) rfl (Or.inl ⟨by kernel_rfl,fun u hu=>ld8 (hx3.low hu) (.tmp 1) (by kernel_rfl) (by kernel_rfl)⟩) hHeld ?_
 simp only[Act.put,Y_a,Y_b,Y_c]
 refine Y_t 3 28 _ (.agg #[.int .i64 A,.int .i64 AN,.int .i64 B,.int .i64 BN,.slice ao n ac]) rfl (Or.inl ⟨by kernel_rfl,fun u hu=>ld8 (hx3.low hu) (.tmp 1) (by kernel_rfl) (by kernel_rfl)⟩) hHeld ?_
 simp only[Act.put,Y_a,Y_b,Y_c]
 refine Y_e 2 27 _ rfl 223 (.func 223) #[.tmp 26] #[45] (by kernel_rfl) #[] (by kernel_rfl) #[.agg #[.int .i64 A,.int .i64 AN,.int .i64 B,.int .i64 BN,.slice ao n ac]] (by kernel_rfl) (enters_of Tryz.func223 (by kernel_rfl) rfl) (fun v u=>HS u v O∧Low w3 u) ((hold _ (HMk.keep hv3 hHeld (Nat.le_refl _))).mono (fun _ q hq=>by obtain⟨v1,e1,h1,h2⟩:=hq;exact⟨v1,e1,hHeld.trans (h2.mono (Below.size hHeld)),h1,hHeld.trans (h2.mono (Below.size hHeld))⟩)) ?_
 rintro vO w4 hHeld ⟨hO4,hB34⟩
 simp only[Act.put,Y_a,Y_b,Y_c]
 refine Y_e 4 29 _ rfl 224 (.func 224) #[.tmp 28] #[45] (by kernel_rfl) #[] (by kernel_rfl) #[.agg #[.int .i64 A,.int .i64 AN,.int .i64 B,.int .i64 BN,.slice ao n ac]] (by kernel_rfl) (enters_of Tryz.func224 (by kernel_rfl) rfl) (fun v u=>HS u v N∧HS u vO O) ((hnew _ (HMk.keep hv3 hHeld (Nat.le_refl _))).mono (fun _ q hq=>by obtain⟨v1,e1,h1,h2⟩:=hq;exact⟨v1,e1,hHeld.trans (h2.mono (Below.size hHeld)),h1,Holds.keep hO4 fun k hk=>h2.block k hk⟩)) ?_
 rintro vN w5 hHeld ⟨hN5,hO5⟩
 simp only[Act.put,Y_a,Y_b,Y_c]
 refine Y_e 5 30 _ rfl 48 (.func 48) #[.tmp 25,.tmp 27,.tmp 29,.const (.int .i64 0)] #[93,49,49,3] (by kernel_rfl) #[] (by kernel_rfl) #[.slice lo' L.length lc',vO,vN,.int .i64 0] (by kernel_rfl) (enters_of Tryz.func48 (by kernel_rfl) rfl) (fun v u=>∃ v2 P,v=.tuple #[v2,.int .i64 0]∧Hs w5 v2 P u∧P.map (·.1)=M) ((hmk _ _ vO vN (HCh.keep hL3 hHeld (Nat.le_refl _)) hO5 hN5).mono (fun _ q hq=>by obtain⟨v1,P,e1,h1,h2⟩:=hq;exact⟨_,e1,hHeld.trans (h1.low.mono (Below.size hHeld)),v1,P,rfl,h1,h2⟩)) ?_
 rintro _ w6 hHeld6 ⟨v2,P,rfl,hs6,hPM⟩
 obtain⟨lo,lc,rfl⟩:=hs6.holds.1.form
 simp only[Act.put,Y_a,Y_b,Y_c]
 refine Y_t 6 24 _ (.tuple #[.slice lo P.length lc,.int .i64 0]) rfl (Or.inl ⟨by kernel_rfl,fun u hu=>by kernel_rfl⟩) hHeld6 ?_
 simp only[Act.put,Y_a,Y_b,Y_c]
 refine Y_t 7 31 _ (.slice lo P.length lc) rfl (Or.inl ⟨by kernel_rfl,fun u hu=>by kernel_rfl⟩) hHeld6 ?_
 simp only[Act.put,Y_a,Y_b,Y_c]
 refine Y_t 8 32 _ (.int .i64 0) rfl (Or.inl ⟨by kernel_rfl,fun u hu=>by kernel_rfl⟩) hHeld6 ?_
 simp only[Act.put,Y_a,Y_b,Y_c]
 refine Y_t 9 6 _ (.slice lo P.length lc) rfl (Or.inl ⟨by kernel_rfl,fun u hu=>by kernel_rfl⟩) hHeld6 ?_
 simp only[Act.put,Y_a,Y_b,Y_c]
 refine Y_t 10 7 _ (.int .i64 0) rfl (Or.inl ⟨by kernel_rfl,fun u hu=>by kernel_rfl⟩) hHeld6 ?_
 simp only[Act.put,Y_a,Y_b,Y_c]
 refine wpAnyH_done (by kernel_rfl) ?_ _
 refine NoPanic.normal ?_
 have hP5:=Below.size hHeld
 have hx5:=hx3.low hHeld
 have hy5:=hy3.low hHeld
 have hBw5:=hBw3.trans (hHeld.mono hBw3.size)
 have hM0:=Mw.start (h:=h) hs6
 have HMB2:Hid (∀ x∈P,0≤x.1.A∧x.1.A≤2147483648∧0≤x.1.B∧x.1.B≤2147483648):=(by
  intro x hx
  exact HMB.out x.1 (by rw[← hPM];exact List.mem_map_of_mem hx))
 have HPM:Hid (P.map (·.1)=M):=hPM
 have hPl:P.length≤137438953472:=(by have q:=congrArg List.length hPM;rw[List.length_map] at q;omega)
 clear hPM hs6 hHeld6 hHeld hold hnew hmk hL3 hO4 hO5 hN5 hx3 hy3 hv3 hBw3 hB34
 go_wp2
 go_loopw [8,35] (fun _ iv wr=>∃ k:Nat,k≤P.length∧iv=.int .i64 (k:Int)∧Mw w5 h P (.slice lo P.length lc) k wr) (fun _ iv _=>P.length-(intOf iv).toNat)
 case atStart=>exact⟨0,Nat.zero_le _,by go_num,hM0⟩
 case round =>
 clear hM0
 obtain⟨k,hk,rfl,hMw⟩:=hrel
 by_cases hlt:k<P.length
 ·have i1:(0:Int)≤(k:Int):=by omega
  have i2:(k:Int)<(P.length:Int):=by omega
  obtain⟨g,cap,hgc⟩:∃ g cap,Value.slice lo P.length lc=.slice (some ⟨g,0,none⟩) P.length cap:=by
   rcases hMw.own.2 with ⟨_,q⟩ | ⟨g,cap,cur,e,_⟩
   ·omega
   ·exact⟨g,cap,e⟩
  cases hgc
  obtain⟨m1,m2,m3⟩:=Zxi h P k hlt
  obtain⟨b1,b2,b3,b4⟩:=HMB2.out P[k] (List.getElem_mem hlt)
  have c0:=(hMw.own.cellAt (k * 5) (by omega)).trans m1
  have c2:=(hMw.own.cellAt (k * 5+2) (by omega)).trans m2
  have z0:=hMw.own.frozenAt (k * 5)
  have hst:=hMw.step hlt
  rw[HDA2.out.1,HDA2.out.2] at hst m3
  obtain⟨pA,hpA⟩:∃ a,P[k].1.A=a:=⟨_,rfl⟩
  obtain⟨pB,hpB⟩:∃ a,P[k].1.B=a:=⟨_,rfl⟩
  rw[hpA] at c0 b1 b2 hst
  rw[hpB] at c2 b3 b4 hst
  have hge:w5.heap.size≤g:=ZhJ hMw.own rfl
  obtain⟨x0,x1,x2,x3,x4⟩:=(hx5.low hMw.low).cells
  obtain⟨y0,y1,y2,y3,y4⟩:=(hy5.low hMw.low).cells
  have HLT:Hid (k<P.length):=hlt
  have hs1:=(hMw.own.stored (k * 5) (.int .i64 (pA+(A-mA)))).1
  have c2b:(wr.setCell ⟨g,k * 5,none⟩ (.int .i64 (pA+(A-mA)))).drew.cell? ⟨g,k * 5+2,none⟩=some (.int .i64 pB):=by
   have q:=hs1.cellAt (k * 5+2) (by omega)
   rw[List.getElem?_set_ne (by omega)] at q
   rw[hpB] at m2
   exact q.trans m2
  have z2b:(wr.setCell ⟨g,k * 5,none⟩ (.int .i64 (pA+(A-mA)))).drew.frozen? ⟨g,k * 5+2,none⟩=false:=hs1.frozenAt (k * 5+2)
  have hBb:Below w5.heap.size w5 (wr.setCell ⟨g,k * 5,none⟩ (.int .i64 (pA+(A-mA)))).drew:=(hMw.low.setCell hge _).drew
  have hfin:=hst.1.low2 (Below.drew (Below.drew (Below.refl _ _)))
  have HFin:Hid (Mw w5 h P (.slice (some ⟨g,0,none⟩) P.length lc) (k+1) (((wr.setCell ⟨g,k * 5,none⟩ (.int .i64 (pA+(A-mA)))).drew.setCell ⟨g,k * 5+2,none⟩ (.int .i64 (pB+(B-mB)))).drew)):=hfin
  clear hst hfin hs1 m1 m2 m3 hpA hpB hMw
  go_upto_region 8 with fail
  go_region
  generalize (wr.setCell ⟨g,k * 5,none⟩ (.int .i64 (pA+(A-mA)))).drew=wB at *
  clear c0 c2 z0 x0 x1 x2 x3 x4 y0 y1 y2 y3 y4
  obtain⟨x0,x1,x2,x3,x4⟩:=(hx5.low hBb).cells
  obtain⟨y0,y1,y2,y3,y4⟩:=(hy5.low hBb).cells
  go_upto_region 9 with fail
  go_region
  go_wp2
  have hlt3:=HLT.out
  exact⟨⟨k+1,hlt3,by go_num,HFin.out⟩,by simp[intOf];omega⟩
 ·have hend:¬ (k:Int)<(P.length:Int):=by omega
  obtain rfl:k=P.length:=by omega
  have hD:=hMw.done
  have HFin:Hid (Hs w (.slice lo P.length lc) (P.map (mvP h)) wr∧(P.map (mvP h)).map (·.1)=R):=by
   refine⟨⟨hBw5.trans (hD.low.mono hBw5.size),ZhC hD.own hBw5.size,fun x hx=>ZhC (hD.ins x hx) hBw5.size⟩,?_⟩
   rw[← HR.out,← HPM.out,List.map_map,List.map_map]
   rfl
  clear hD hMw
  go_wp2
  go_ret
  first | exact⟨_,_,rfl,HFin.out⟩ | exact⟨_,rfl,_,HFin.out⟩
end

section
open Go.RowKit
theorem Zzs {p n:Int} (h:1≤n):rgx (p+1) n=rngT p n:=by
 unfold rgx rngT
 by_cases h1:n=1
 ·rw[if_pos (by omega),if_pos h1]
 ·rw[if_neg (by omega),if_neg h1]
  have e:p+1+n-1=p+n:=by omega
  rw[e]
theorem Zuj {c:Ch} (h1:0≤c.AN) (h2:0≤c.BN) (h3:0<c.AN∨0<c.BN):rgx (noA c.A c.AN) c.AN++ltrT c.AN c.BN++rgx (noA c.B c.BN) c.BN=cmdT c:=by
 unfold ltrT cmdT noA
 by_cases g1:c.AN=0
 ·have e1:rgx c.A c.AN=Lib.itoa c.A:=by unfold rgx;rw[if_pos (by omega)]
  rw[if_pos g1,if_pos g1,if_neg (by omega),if_pos (by omega),Zzs (by omega),e1]
  simp
 ·rw[if_neg g1,if_neg g1,if_pos (by omega),Zzs (by omega)]
  by_cases g2:c.BN=0
  ·have e1:rgx c.B c.BN=Lib.itoa c.B:=by unfold rgx;rw[if_pos (by omega)]
   rw[if_pos g2,if_pos g2,if_neg (by omega),e1]
   simp
  ·rw[if_neg g2,if_neg g2,if_pos (by omega),Zzs (by omega)]
   simp
theorem ZAW (X Y:List (List UInt8)):pkL 43 (mks 45 X++mks 43 Y)=X:=by
 rw[Zil,Zxs,Zxs,if_pos (by decide),if_neg (by decide)]
 simp
theorem ZAV (X Y:List (List UInt8)):pkL 45 (mks 45 X++mks 43 Y)=Y:=by
 rw[Zil,Zxs,Zxs,if_neg (by decide),if_pos (by decide)]
 simp
def pcsH (h:Hk):List Hk:=(mkR (chR [frnH h]) (oldL h) (newL h) 0).map (movH h)
theorem Zyj {h:Hk} (hc:chkH h=0):pcsH h=(chR [frnH h]).map fun c=>movH h (oneH (oldL h) (newL h) 0 [c]):=by
 unfold pcsH
 rw[Zxe (Zvh hc),List.map_map]
 rfl
theorem Zxq (a p n:Int):noA p n+a=noA (a+p) n:=by
 unfold noA
 split<;>omega
theorem Zxu {h:Hk} (hc:chkH h=0) {c:Ch} (hm:c∈chR [frnH h]):nrT (movH h (oneH (oldL h) (newL h) 0 [c]))=(relL 0 (atA h) (atB h) (oldL h) (newL h) c).flatten:=by
 obtain⟨q1,q2,q3⟩:=Zzz (Zvh hc).2.2 c hm
 obtain⟨m1,m2,_⟩:=Zxh hc
 have hn:=(Zhj c).1 q1
 rw[ZxP q1 q2 q3]
 unfold movH nrT oldL newL dvT
 dsimp only
 rw[ZAW,ZAV,m1,m2,Zxq,Zxq]
 have hcmd:=Zuj (c:=⟨atA h+c.A,c.AN,atB h+c.B,c.BN⟩) hn.2.1.1 hn.2.2.2.1.1 hn.2.2.2.2
 dsimp only at hcmd
 rw[hcmd]
 unfold relL sepL
 simp only[Int.sub_zero,List.flatten_cons,List.flatten_append,List.append_assoc]
 have e:(if c.AN=0 then [] else if c.BN=0 then [] else [45,45,45,10])=(if 0<c.AN∧0<c.BN then [[45,45,45,10]] else ([]:List (List UInt8))).flatten:=by
  by_cases g1:c.AN=0
  ·rw[if_pos g1,if_neg (by omega)];rfl
  ·rw[if_neg g1]
   by_cases g2:c.BN=0
   ·rw[if_pos g2,if_neg (by omega)];rfl
   ·rw[if_neg g2,if_pos (by omega)];rfl
 rw[e]
theorem Zxv {h:Hk} (hc:chkH h=0):((pcsH h).map nrT).flatten=nrmT h:=by
 rw[Zyj hc,List.map_map]
 have e:(chR [frnH h]).map (nrT ∘ fun c=>movH h (oneH (oldL h) (newL h) 0 [c]))=(chR [frnH h]).map fun c=>(relL 0 (atA h) (atB h) (oldL h) (newL h) c).flatten:=List.map_congr_left fun c hm=>Zxu hc hm
 rw[e]
 unfold nrmT
 rw[← Zvg hc]
 generalize chR [frnH h]=L
 induction L with
 | nil=>rfl
 | cons c L ih=>rw[List.map_cons,List.flatten_cons,ih,List.flatMap_cons,List.flatten_append]
theorem Zym {h:Hk} (hc:chkH h=0) (hl:h.ls.length≤137438953472) (htx:∀ m∈h.ls,m.tx.length≤1099511627776):∀ x∈pcsH h,(0≤x.A∧x.A≤4611686018427387904∧0≤x.AN∧x.AN≤4611686018427387900∧0≤x.B∧x.B≤4611686018427387904∧0≤x.BN∧x.BN≤4611686018427387900)∧x.ls.length≤1099511627776∧∀ m∈x.ls,m.tx.length≤1099511627776:=by
 intro x hx
 rw[Zyj hc] at hx
 obtain⟨c,hm,rfl⟩:=List.mem_map.1 hx
 obtain⟨q1,q2,q3⟩:=Zzz (Zvh hc).2.2 c hm
 obtain⟨m1,m2,m3,m4,m5,m6⟩:=Zxh hc
 have hn:=(Zhj c).1 q1
 have l1:(oldL h).length≤h.ls.length:=Zyn _ _
 have l2:(newL h).length≤h.ls.length:=Zyn _ _
 rw[ZxP q1 q2 q3]
 unfold movH
 dsimp only
 rw[m1,m2]
 refine⟨?_,?_,fun m hmm=>?_⟩
 ·unfold noA
  refine⟨?_,?_,by omega,by omega,?_,?_,by omega,by omega⟩<;>split<;>omega
 ·rw[List.length_append]
  unfold mks cut
  simp only[List.length_map,List.length_take,List.length_drop]
  omega
 ·rcases List.mem_append.1 hmm with q | q
  ·obtain⟨s,hs,rfl⟩:=List.mem_map.1 q
   obtain⟨y,hy,e⟩:=Zyp (Zxa hs)
   dsimp only
   rw[← e]
   exact htx y hy
  ·obtain⟨s,hs,rfl⟩:=List.mem_map.1 q
   obtain⟨y,hy,e⟩:=Zyp (Zxa hs)
   dsimp only
   rw[← e]
   exact htx y hy
end

section
open Go.RowKit
open Ln
end

section
open Go.RowKit
def HOw (p:List (Hk × Value)):Prop:=p.length≤1099511627776∧∀ x∈p,x.1.ls.length≤1099511627776
theorem ZnE {A1 N1 B1 M1 A2 N2 B2 M2:Int} {l1 l2:List Mk}:(⟨A1,N1,B1,M1,l1⟩:Hk)=⟨A2,N2,B2,M2,l2⟩↔A1=A2∧N1=N2∧B1=B2∧M1=M2∧l1=l2:=by
 constructor
 ·rintro h
  cases h
  exact⟨rfl,rfl,rfl,rfl,rfl⟩
 ·rintro⟨rfl,rfl,rfl,rfl,rfl⟩
  rfl
theorem Zqi (h1 h2:Hk) (v1 v2:Value) (w:World) (hv1:HMk w v1 h1.ls) (hv2:HMk w v2 h2.ls) (hl1:h1.ls.length≤1099511627776) (r:Bool) (HR:Hid (r=true↔h1=h2)):Calls Tryz.prog 153 #[hkV h1 v1,hkV h2 v2] w fun e w'=>e=.returned (.bool r)∧Below w.heap.size w w':=by
 obtain⟨A1,N1,B1,M1,l1⟩:=h1
 obtain⟨A2,N2,B2,M2,l2⟩:=h2
 dsimp only at hv1 hv2 hl1
 obtain⟨o1,c1,rfl⟩:=HMk.form hv1
 obtain⟨o2,c2,rfl⟩:=HMk.form hv2
 have hx1:=Hx.new w ⟨A1,N1,B1,M1,l1⟩ (.slice o1 l1.length c1)
 have hB1:Below w.heap.size w (w.alloc (hkO ⟨A1,N1,B1,M1,l1⟩ (.slice o1 l1.length c1))):=(Below.refl _ w).alloc (Nat.le_refl _) _
 have hx2:Hx ((w.alloc (hkO ⟨A1,N1,B1,M1,l1⟩ (.slice o1 l1.length c1))).alloc (hkO ⟨A2,N2,B2,M2,l2⟩ (.slice o2 l2.length c2))) (w.heap.size+1) ⟨A2,N2,B2,M2,l2⟩ (.slice o2 l2.length c2):=Zmu w _ _
 have hB2:Below w.heap.size w ((w.alloc (hkO ⟨A1,N1,B1,M1,l1⟩ (.slice o1 l1.length c1))).alloc (hkO ⟨A2,N2,B2,M2,l2⟩ (.slice o2 l2.length c2))):=hB1.alloc (by simp) _
 have hx1':=hx1.low ((Below.refl _ (w.alloc (hkO ⟨A1,N1,B1,M1,l1⟩ (.slice o1 l1.length c1)))).alloc (Nat.le_refl _) (hkO ⟨A2,N2,B2,M2,l2⟩ (.slice o2 l2.length c2)))
 have hm1:=HMk.keep hv1 hB2 (Nat.le_refl _)
 have hm2:=HMk.keep hv2 hB2 (Nat.le_refl _)
 obtain⟨x0,x1,x2,x3,x4⟩:=hx1'.cells
 obtain⟨y0,y1,y2,y3,y4⟩:=hx2.cells
 unfold hkV
 dsimp only at x0 x1 x2 x3 x4 y0 y1 y2 y3 y4 ⊢
 have hW0:(w.alloc (hkO ⟨A1,N1,B1,M1,l1⟩ (.slice o1 l1.length c1))).alloc (hkO ⟨A2,N2,B2,M2,l2⟩ (.slice o2 l2.length c2))=(w.alloc (Obj.cells #[Value.int IntKind.i64 A1,Value.int IntKind.i64 N1,Value.int IntKind.i64 B1,Value.int IntKind.i64 M1,.slice o1 l1.length c1] 45)).alloc (Obj.cells #[Value.int IntKind.i64 A2,Value.int IntKind.i64 N2,Value.int IntKind.i64 B2,Value.int IntKind.i64 M2,.slice o2 l2.length c2] 45):=rfl
 clear hx1 hx2 hx1' hB1 hv1 hv2
 generalize (w.alloc (hkO ⟨A1,N1,B1,M1,l1⟩ (.slice o1 l1.length c1))).alloc (hkO ⟨A2,N2,B2,M2,l2⟩ (.slice o2 l2.length c2))=W at *
 have hW:=hW0.symm
 clear hW0
 have HN:Hid (¬ (A1=A2∧N1=N2∧B1=B2∧M1=M2∧l1.length=l2.length)→r=false):=(by
  intro h
  cases hr:r with
  | false=>rfl
  | true=>exact absurd (ZnE.1 (HR.out.1 hr)) (fun e=>h ⟨e.1,e.2.1,e.2.2.1,e.2.2.2.1,congrArg List.length e.2.2.2.2⟩))
 have HR2:Hid (A1=A2∧N1=N2∧B1=B2∧M1=M2→(r=true↔l1=l2)):=(by
  rintro⟨rfl,rfl,rfl,rfl⟩
  rw[HR.out,ZnE]
  simp)
 clear HR
 go_enter Tryz.func153,Tryz.ntmps153
 by_cases hA:A1=A2
 ·by_cases hN:N1=N2
  ·by_cases hB:B1=B2
   ·by_cases hM:M1=M2
    ·have HR3:Hid (r=true↔l1=l2):=HR2.out ⟨hA,hN,hB,hM⟩
     clear HR2
     subst hA hN hB hM
     by_cases hL:l1.length=l2.length
     ·rw[← hL] at y4 hm2 hW ⊢
      have HL:Hid (l1.length=l2.length):=hL
      clear hL HN
      go_wp2
      clear hW
      go_loopw [5] (fun iv wr=>∃ k m:Nat,k≤l1.length∧iv=.int .i64 (k:Int)∧wr=W.drewN m∧Hid (r=true↔l1.drop k=l2.drop k)) (fun iv _=>l1.length-(intOf iv).toNat)
      case atStart=>exact⟨0,0,Nat.zero_le _,by go_num,rfl,HR3⟩
      case round =>
       clear HR3
       obtain⟨k,m,hk,rfl,rfl,HD⟩:=hrel
       have x4':(W.drewN m).cell? ⟨w.heap.size,4,none⟩=some (.slice o1 l1.length c1):=x4
       have y4':(W.drewN m).cell? ⟨w.heap.size+1,4,none⟩=some (.slice o2 l1.length c2):=y4
       by_cases hlt:k<l1.length
       ·have hlt2:k<l2.length:=by have:=HL.out;omega
        obtain⟨b1,f1,rfl,_,hc1⟩:=HMk.at hm1 (by omega)
        obtain⟨b2,f2,rfl,_,hc2⟩:=HMk.at hm2 (by omega)
        obtain⟨s0,s1⟩:=hc1 k hlt
        obtain⟨t0,t1⟩:=hc2 k hlt2
        have hD:=HD.out
        rw[List.drop_eq_getElem_cons hlt,List.drop_eq_getElem_cons hlt2,List.cons.injEq] at hD
        obtain⟨q,hq⟩:∃ q,l1[k]=q:=⟨_,rfl⟩
        obtain⟨p,hp⟩:∃ p,l2[k]=p:=⟨_,rfl⟩
        rw[hq] at s0 s1 hD
        rw[hp] at t0 t1 hD
        obtain⟨sg,tx⟩:=q
        obtain⟨sg2,tx2⟩:=p
        dsimp only at s0 s1 t0 t1
        have HD2:Hid (r=true↔(⟨sg,tx⟩:Mk)=⟨sg2,tx2⟩∧l1.drop (k+1)=l2.drop (k+1)):=hD
        clear hc1 hc2 hq hp hD HD
        have i1:0≤(k:Int):=by omega
        have i2:(k:Int)<(l1.length:Int):=by omega
        by_cases hs:sg=sg2
        ·subst hs
         by_cases ht:tx=tx2
         ·subst ht
          have HD3:Hid (r=true↔l1.drop (k+1)=l2.drop (k+1)):=(by show _↔_;rw[HD2.out];simp)
          clear HD2
          go_wp2_with fail
          go_quiet (fail)
          go_wp2
          go_roundw
          case rel=>exact⟨k+1,_,by omega,by go_num,rfl,HD3⟩
          case measure=>simp[intOf];omega
         ·have r0:r=false:=(by
           cases hr:r with
           | false=>rfl
           | true=>exact absurd (HD2.out.1 hr).1 (fun e=>ht (by cases e;rfl)))
          subst r0
          have e2:(tx == tx2)=false:=beq_eq_false_iff_ne.2 ht
          clear HD2
          go_wp2_with fail
          go_quiet (fail)
          go_wp2
          go_ret
          exact⟨rfl,Below.dN (Below.dN hB2 _) _⟩
        ·have r0:r=false:=(by
          cases hr:r with
          | false=>rfl
          | true=>exact absurd (HD2.out.1 hr).1 (fun e=>hs (by cases e;rfl)))
         subst r0
         have e1:(sg == sg2)=false:=beq_eq_false_iff_ne.2 hs
         clear HD2
         go_wp2_with fail
         go_quiet (fail)
         go_wp2
         go_ret
         exact⟨rfl,Below.dN (Below.dN hB2 _) _⟩
       ·have hend:decide ((k:Int)<(l1.length:Int))=false:=decide_eq_false (by omega)
        have r1:r=true:=HD.out.2 (by rw[List.drop_eq_nil_of_le (by omega),List.drop_eq_nil_of_le (by have:=HL.out;omega)])
        subst r1
        go_wp2
        go_ret
        exact⟨rfl,Below.dN hB2 _⟩
     ·have r0:=HN.out (fun e=>hL e.2.2.2.2)
      subst r0
      have e5:((l1.length:Int) == (l2.length:Int))=false:=beq_eq_false_iff_ne.2 (by omega)
      go_wp2
      go_ret
      exact⟨rfl,hB2⟩
    ·have r0:=HN.out (fun e=>hM e.2.2.2.1)
     subst hA hN hB r0
     have e4:(M1 == M2)=false:=beq_eq_false_iff_ne.2 hM
     go_wp2
     go_ret
     exact⟨rfl,hB2⟩
   ·have r0:=HN.out (fun e=>hB e.2.2.1)
    subst hA hN r0
    have e3:(B1 == B2)=false:=beq_eq_false_iff_ne.2 hB
    go_wp2
    go_ret
    exact⟨rfl,hB2⟩
  ·have r0:=HN.out (fun e=>hN e.2.1)
   subst hA r0
   have e2:(N1 == N2)=false:=beq_eq_false_iff_ne.2 hN
   go_wp2
   go_ret
   exact⟨rfl,hB2⟩
 ·have r0:=HN.out (fun e=>hA e.1)
  subst r0
  have e1:(A1 == A2)=false:=beq_eq_false_iff_ne.2 hA
  go_wp2
  go_ret
  exact⟨rfl,hB2⟩
theorem ZnP {h1 h2:Hk} {v1 v2:Value} {W u:World} {r:Bool} (hv1:HMk W v1 h1.ls) (hv2:HMk W v2 h2.ls) (hl:h1.ls.length≤1099511627776) (HR:Hid (r=true↔h1=h2)) (hL:Low W u):Calls Tryz.prog 153 (#[hkV h1 v1,hkV h2 v2]++#[]) u fun e w'=>∃ x,e=.returned x∧Low W w'∧x=.bool r:=by
 refine (Zqi h1 h2 v1 v2 u (HMk.keep hv1 hL (Nat.le_refl _)) (HMk.keep hv2 hL (Nat.le_refl _)) hl r HR).mono ?_
 rintro e w' ⟨rfl,hB⟩
 exact⟨_,rfl,hL.trans (hB.mono hL.size),rfl⟩
theorem Zqj (p1 p2:List (Hk × Value)) (v1 v2:Value) (w:World) (hv1:HHp w v1 p1) (hv2:HHp w v2 p2) (hok:HOw p1) (r:Bool) (HR:Hid (r=true↔p1.map (·.1)=p2.map (·.1))):Calls Tryz.prog 113 #[v1,v2] w fun e w'=>e=.returned (.bool r)∧Below w.heap.size w w':=by
 obtain⟨o1,c1,rfl⟩:=Holds.form hv1.row
 obtain⟨o2,c2,rfl⟩:=Holds.form hv2.row
 have hpl:p1.length≤1099511627776:=hok.1
 have HOK:Hid (HOw p1):=hok
 clear hok
 by_cases hl12:p2.length=p1.length
 ·have HL:Hid (p2.length=p1.length):=hl12
  rw[hl12] at hv2 ⊢
  clear hl12
  go_enter Tryz.func113,Tryz.ntmps113
  go_wp2
  go_loopw [5] (fun iv wr=>∃ k:Nat,k≤p1.length∧iv=.int .i64 (k:Int)∧Below w.heap.size w wr∧Hid (r=true↔(p1.map (·.1)).drop k=(p2.map (·.1)).drop k)) (fun iv _=>p1.length-(intOf iv).toNat)
  case atStart=>exact⟨0,Nat.zero_le _,by go_num,Below.refl _ _,HR⟩
  case round =>
   clear HR
   obtain⟨k,hk,rfl,hB,HD⟩:=hrel
   by_cases hlt:k<p1.length
   ·obtain⟨b1,f1,rfl,_,_⟩:=hv1.at (by omega)
    obtain⟨b2,f2,rfl,_,_⟩:=hv2.at (by have:=HL.out;omega)
    obtain⟨x,y,hxy⟩:∃ x y,p1[k]=(x,y):=⟨_,_,rfl⟩
    obtain⟨x',z,hxz⟩:∃ x z,p2[k]'(by have:=HL.out;omega)=(x,z):=⟨_,_,rfl⟩
    have hD:=HD.out
    have hlt2:k<p2.length:=(by have:=HL.out;omega)
    rw[List.drop_eq_getElem_cons (show k<(p1.map (·.1)).length by simpa using hlt),List.drop_eq_getElem_cons (show k<(p2.map (·.1)).length by simpa using hlt2),List.cons.injEq,List.getElem_map,List.getElem_map,hxy,hxz] at hD
    dsimp only at hD
    obtain⟨r2,HR2⟩:∃ r2:Bool,Hid (r2=true↔x=x'):=(by
     rcases Classical.em (x=x') with h | h
     ·exact⟨true,⟨fun _=>h,fun _=>rfl⟩⟩
     ·exact⟨false,⟨fun e=>absurd e (by simp),fun e=>absurd e h⟩⟩)
    have HD2:Hid (r=true↔x=x'∧(p1.map (·.1)).drop (k+1)=(p2.map (·.1)).drop (k+1)):=hD
    clear hD HD
    obtain⟨r1,hm1⟩:=hv1.take hB k hlt hxy
    obtain⟨r2,hm2⟩:=hv2.take hB k (by have:=HL.out;omega) hxz
    have hbd:=HOK.out.2 _ (List.getElem_mem hlt)
    rw[hxy] at hbd
    dsimp only at hbd
    obtain⟨yo,yc,rfl⟩:=hm1.form
    obtain⟨zo,zc,rfl⟩:=hm2.form
    have hr1:∀ u:World,Low wr u→HkAt u b1 (f1+k * 5) x (.slice yo x.ls.length yc):=fun u hu=>HkAt.low r1 hu
    have hr2:∀ u:World,Low wr u→HkAt u b2 (f2+k * 5) x' (.slice zo x'.ls.length zc):=fun u hu=>HkAt.low r2 hu
    have i1:0≤(k:Int):=by omega
    have i2:(k:Int)<(p1.length:Int):=by omega
    clear hxy hxz r1 r2
    go_wp2_with fail
    refine wp_region_noPanic ?_
    refine wp_region_held_drew (S:=fun u=>Low wr u) (by kernel_rfl) (Below.dN (Below.refl _ wr) 1) (fun hHeld=>?_)
    refine Y_t 0 17 _ (.slice (some ⟨b1,f1,none⟩) p1.length c1) rfl (Or.inl ⟨by kernel_rfl,fun u hu=>by kernel_rfl⟩) hHeld ?_
    simp only[Act.put,Y_a,Y_b,Y_c]
    refine Y_t 1 18 _ (.int .i64 (k:Int)) rfl (Or.inl ⟨by kernel_rfl,fun u hu=>by kernel_rfl⟩) hHeld ?_
    simp only[Act.put,Y_a,Y_b,Y_c]
    refine Y_t 2 19 _ (.pointer (some ⟨b1,f1+k * 5,none⟩)) rfl (Or.inl ⟨by kernel_rfl,fun u hu=>ZmZ (c:=c1) hlt (.tmp 17) (.tmp 18) (by kernel_rfl) (by kernel_rfl) (by kernel_rfl)⟩) hHeld ?_
    simp only[Act.put,Y_a,Y_b,Y_c]
    refine Y_t 3 20 _ (hkV x (.slice yo x.ls.length yc)) rfl (Or.inl ⟨by kernel_rfl,fun u hu=>Zom (hr1 u hu) (.tmp 19) (by kernel_rfl) (by kernel_rfl)⟩) hHeld ?_
    simp only[Act.put,Y_a,Y_b,Y_c]
    refine Y_t 4 21 _ (.slice (some ⟨b2,f2,none⟩) p1.length c2) rfl (Or.inl ⟨by kernel_rfl,fun u hu=>by kernel_rfl⟩) hHeld ?_
    simp only[Act.put,Y_a,Y_b,Y_c]
    refine Y_t 5 22 _ (.int .i64 (k:Int)) rfl (Or.inl ⟨by kernel_rfl,fun u hu=>by kernel_rfl⟩) hHeld ?_
    simp only[Act.put,Y_a,Y_b,Y_c]
    refine Y_t 6 23 _ (.pointer (some ⟨b2,f2+k * 5,none⟩)) rfl (Or.inl ⟨by kernel_rfl,fun u hu=>ZmZ (c:=c2) hlt (.tmp 21) (.tmp 22) (by kernel_rfl) (by kernel_rfl) (by kernel_rfl)⟩) hHeld ?_
    simp only[Act.put,Y_a,Y_b,Y_c]
    refine Y_t 7 24 _ (hkV x' (.slice zo x'.ls.length zc)) rfl (Or.inl ⟨by kernel_rfl,fun u hu=>Zom (hr2 u hu) (.tmp 23) (by kernel_rfl) (by kernel_rfl)⟩) hHeld ?_
    simp only[Act.put,Y_a,Y_b,Y_c]
    refine Y_e 8 25 _ rfl 153 (.func 153) #[.tmp 20,.tmp 24] #[45,45] (by kernel_rfl) #[] (by kernel_rfl) #[hkV x (.slice yo x.ls.length yc),hkV x' (.slice zo x'.ls.length zc)] (by kernel_rfl) (enters_of Tryz.func153 (by kernel_rfl) rfl) _ (ZnP hm1 hm2 hbd HR2 hHeld) ?_
    rintro _ u8 hHeld rfl
    simp only[Act.put,Y_a,Y_b,Y_c]
    refine Y_t 9 26 _ (.bool (!r2)) rfl (Or.inl ⟨by kernel_rfl,fun u hu=>by kernel_rfl⟩) hHeld ?_
    simp only[Act.put,Y_a,Y_b,Y_c]
    refine wpAnyH_done (by kernel_rfl) ?_ _
    refine NoPanic.normal ?_
    have hB2:=hB.trans (Below.mono hHeld hB.size)
    cases hr2:r2 with
    | true =>
     have HD3:Hid (r=true↔(p1.map (·.1)).drop (k+1)=(p2.map (·.1)).drop (k+1)):=(by show _↔_;rw[HD2.out];simp[HR2.out.1 hr2])
     clear HD2 HR2
     subst hr2
     go_wp2
     exact⟨⟨k+1,by omega,by go_num,hB2,HD3⟩,by simp[intOf];omega⟩
    | false =>
     have r0:r=false:=(by
      cases hr:r with
      | false=>rfl
      | true=>exact absurd (HR2.out.2 (HD2.out.1 hr).1) (by simp[hr2]))
     clear HD2 HR2
     subst hr2 r0
     go_wp2
     go_ret
     exact⟨rfl,hB2⟩
   ·have hend:decide ((k:Int)<(p1.length:Int))=false:=decide_eq_false (by omega)
    have r1:r=true:=HD.out.2 (by rw[List.drop_eq_nil_of_le (by simp;omega),List.drop_eq_nil_of_le (by have:=HL.out;simp;omega)])
    subst r1
    go_wp2
    go_ret
    exact⟨rfl,hB⟩
 ·have r0:r=false:=(by
   cases hr:r with
   | false=>rfl
   | true=>exact absurd (by have:=congrArg List.length (HR.out.1 hr);simpa using this.symm) hl12)
  subst r0
  have e1:((p1.length:Int) == (p2.length:Int))=false:=beq_eq_false_iff_ne.2 (by omega)
  go_enter Tryz.func113,Tryz.ntmps113
  go_wp2
  go_ret
  exact⟨rfl,Below.refl _ _⟩
end

section
open Go.RowKit
theorem Zpm {a b c d:List UInt8} {x y:List Hk}:(⟨a,b,x⟩:Pth)=⟨c,d,y⟩↔a=c∧b=d∧x=y:=by
 constructor
 ·intro h
  injection h with h1 h2 h3
  exact⟨h1,h2,h3⟩
 ·rintro⟨rfl,rfl,rfl⟩
  rfl
theorem Zqk (p1 p2:Pth) (q1 q2:List (Hk × Value)) (H1:Hid (q1.map (·.1)=p1.hs)) (H2:Hid (q2.map (·.1)=p2.hs)) (v1 v2:Value) (w:World) (hv1:HHp w v1 q1) (hv2:HHp w v2 q2) (hok:HOw q1) (r:Bool) (HR:Hid (r=true↔p1=p2)) :
  Calls Tryz.prog 69 #[ptV p1 v1,ptV p2 v2] w fun e w'=>e=.returned (.bool r)∧Below w.heap.size w w':=by
 obtain⟨o1,n1,s1⟩:=p1
 obtain⟨o2,n2,s2⟩:=p2
 dsimp only at H1 H2
 obtain⟨lo1,lc1,rfl⟩:=Holds.form hv1.row
 obtain⟨lo2,lc2,rfl⟩:=Holds.form hv2.row
 rw[Zpm] at HR
 have hBa:Below w.heap.size w (w.alloc (.cells #[.string ⟨o1.toArray⟩,.string ⟨n1.toArray⟩,.slice lo1 q1.length lc1] 42)):=(Below.refl _ w).alloc (Nat.le_refl _) _
 have hBb:=hBa.alloc hBa.size (.cells #[.string ⟨o2.toArray⟩,.string ⟨n2.toArray⟩,.slice lo2 q2.length lc2] 42)
 have e1:ptV ⟨o1,n1,s1⟩ (.slice lo1 q1.length lc1)=.agg #[.string ⟨o1.toArray⟩,.string ⟨n1.toArray⟩,.slice lo1 q1.length lc1]:=rfl
 have e2:ptV ⟨o2,n2,s2⟩ (.slice lo2 q2.length lc2)=.agg #[.string ⟨o2.toArray⟩,.string ⟨n2.toArray⟩,.slice lo2 q2.length lc2]:=rfl
 rw[e1,e2]
 clear e1 e2
 by_cases h1:o1=o2
 ·subst h1
  by_cases h2:n1=n2
  ·subst h2
   have HRR:Hid (r=true↔q1.map (·.1)=q2.map (·.1)):=(by
    show (_↔_)
    rw[H1.out,H2.out]
    have h:=HR.out
    simpa using h)
   have hc:=Zqj q1 q2 _ _ _ (hv1.keep hBb (Nat.le_refl _)) (hv2.keep hBb (Nat.le_refl _)) hok r HRR
   clear HR HRR
   go_enter Tryz.func69,Tryz.ntmps69
   go_wp2_with fail
   refine hc.mono ?_
   rintro e w1 ⟨rfl,hB1⟩
   go_wp2
   go_ret
   exact⟨rfl,hBb.trans (hB1.mono hBb.size)⟩
  ·have HE:Hid (false=r):=(by
    cases r with
    | false=>rfl
    | true=>exact absurd (HR.out.1 rfl).2.1 h2)
   have j1:(n1 == n2)=false:=beq_eq_false_iff_ne.2 h2
   clear HR h2
   go_enter Tryz.func69,Tryz.ntmps69
   go_wp2
   go_ret
   exact⟨by rw[← HE.out];rfl,hBb⟩
 ·have HE:Hid (false=r):=(by
   cases r with
   | false=>rfl
   | true=>exact absurd (HR.out.1 rfl).1 h1)
  have j1:(o1 == o2)=false:=beq_eq_false_iff_ne.2 h1
  clear HR h1
  go_enter Tryz.func69,Tryz.ntmps69
  go_wp2
  go_ret
  exact⟨by rw[← HE.out];rfl,hBb⟩
end

section
open Go.RowKit
structure HPp (w:World) (v:Value) (F:List Pfd):Prop where
 row:Holds w v F.length (pxcells F)
 ins:∀ f∈F,f.hs.map (·.1)=f.x.hs∧HHp w f.v f.hs
theorem Pw.holds {w u:World} {v:Value} {F:List Pfd} (h:Pw w v F u):HPp u v F:=⟨Zeo h.own,fun f hf=>⟨(h.ins f hf).eq.symm,Zeo (h.ins f hf).own,fun y hy=>Zeo ((h.ins f hf).ins y hy)⟩⟩
theorem HPp.keep {w u:World} {v:Value} {F:List Pfd} (h:HPp w v F) (hb:Below w.heap.size w u):HPp u v F:=⟨Holds.keep h.row fun k hk=>hb.block k hk,fun f hf=>⟨(h.ins f hf).1,(h.ins f hf).2.keep hb (Nat.le_refl _)⟩⟩
theorem ZiQ (F:List Pfd):(pxcells F).length=F.length * 3:=by
 induction F with
 | nil=>rfl
 | cons f F ih =>
  simp only[pxcells,List.flatMap_cons,List.length_append,List.length_cons] at ih ⊢
  rw[ih]
  simp[pxC]
  omega
theorem ZiP (F:List Pfd):∀ (k:Nat) (hk:k<F.length),(pxcells F)[k * 3]?=some (.string ⟨F[k].x.old.toArray⟩)∧(pxcells F)[k * 3+1]?=some (.string ⟨F[k].x.new.toArray⟩)∧(pxcells F)[k * 3+2]?=some F[k].v:=by
 induction F with
 | nil=>intro k hk;cases hk
 | cons f F ih =>
  intro k hk
  have e:pxcells (f::F)=pxC f++pxcells F:=by simp[pxcells]
  rw[e]
  cases k with
  | zero=>exact⟨rfl,rfl,rfl⟩
  | succ k =>
   obtain⟨h1,h2,h3⟩:=ih k (by simpa using hk)
   have e0:(k+1) * 3=3+k * 3:=by omega
   have l3:(pxC f).length=3:=rfl
   refine⟨?_,?_,?_⟩
   ·rw[e0,List.getElem?_append_right (by rw[l3];omega),l3,show 3+k * 3-3=k * 3 by omega];exact h1
   ·rw[e0,List.getElem?_append_right (by rw[l3];omega),l3,show 3+k * 3+1-3=k * 3+1 by omega];exact h2
   ·rw[e0,List.getElem?_append_right (by rw[l3];omega),l3,show 3+k * 3+2-3=k * 3+2 by omega];exact h3
theorem HPp.at {w:World} {ao:Option Addr} {n c:Nat} {F:List Pfd} (h:HPp w (.slice ao n c) F) (h0:0<F.length):∃ b off,ao=some ⟨b,off,none⟩∧b<w.heap.size ∧
  ∀ k (hk:k<F.length),w.cell? ⟨b,off+k * 3,none⟩=some (.string ⟨F[k].x.old.toArray⟩)∧w.cell? ⟨b,off+k * 3+1,none⟩=some (.string ⟨F[k].x.new.toArray⟩)∧w.cell? ⟨b,off+k * 3+2,none⟩=some F[k].v:=by
 obtain⟨b,off,c',hv,hb,hc⟩:=Holds.at h.row (by rw[ZiQ];omega)
 cases hv
 refine⟨b,off,rfl,hb,fun k hk=>?_⟩
 obtain⟨h1,h2,h3⟩:=ZiP F k hk
 have hcc:∀ j u,(pxcells F)[j]?=some u→w.cell? ⟨b,off+j,none⟩=some u:=fun j u hj=>by
  obtain⟨hj1,hj2⟩:=List.getElem?_eq_some_iff.1 hj
  rw[hc j hj1,hj2]
 exact⟨hcc _ _ h1,by rw[Nat.add_assoc];exact hcc _ _ h2,by rw[Nat.add_assoc];exact hcc _ _ h3⟩
theorem Zqh (F G:List Pfd) (va vb:Value) (w:World) (ha:HPp w va F) (hb:HPp w vb G) (HE:Hid (F.map (·.x)=G.map (·.x))) (HO:Hid (∀ f∈F,HOw f.hs)) (hl:F.length≤1099511627776) :
  Calls Tryz.prog 36 #[va,vb] w fun e w'=>e=.returned (.bool true)∧Below w.heap.size w w':=by
 obtain⟨ao,ac,rfl⟩:=Holds.form ha.row
 obtain⟨bo,bc,rfl⟩:=Holds.form hb.row
 have hlen:F.length=G.length:=(by have:=congrArg List.length HE.out;simpa using this)
 have hne:((F.length:Int) != (G.length:Int))=false:=(by rw[hlen];simp)
 go_enter Tryz.func36,Tryz.ntmps36
 go_wp2
 go_loopw [5] (fun i wr=>∃ k:Nat,k≤F.length∧i=.int .i64 k∧Below w.heap.size w wr) (fun i _=>F.length-(intOf i).toNat)
 case atStart=>exact⟨0,Nat.zero_le _,by go_num,Below.refl _ _⟩
 case round =>
 obtain⟨k,hk,rfl,hB⟩:=hrel
 by_cases hlt:k<F.length
 ·have hak:=ha.keep hB
  have hbk:=hb.keep hB
  obtain⟨b1,o1,rfl,hb1,hc1⟩:=HPp.at hak (by omega)
  obtain⟨b2,o2,rfl,hb2,hc2⟩:=HPp.at hbk (by omega)
  obtain⟨x0,x1,x2⟩:=hc1 k hlt
  obtain⟨y0,y1,y2⟩:=hc2 k (by omega)
  have i1:(0:Int)≤(k:Int):=by omega
  have i2:(k:Int)<(F.length:Int):=by omega
  have i3:(k:Int)<(G.length:Int):=by omega
  have i4:(k:Int).toNat=k:=by omega
  obtain⟨f,hf⟩:∃ f,F[k]=f:=⟨_,rfl⟩
  obtain⟨g,hg⟩:∃ g,G[k]'(by omega)=g:=⟨_,rfl⟩
  have hfm:f∈F:=(by rw[← hf];exact List.getElem_mem _)
  have hgm:g∈G:=(by rw[← hg];exact List.getElem_mem _)
  have hxe:f.x=g.x:=(by
   have h1:(F.map (·.x))[k]?=(G.map (·.x))[k]?:=by rw[HE.out]
   rw[List.getElem?_map,List.getElem?_map,List.getElem?_eq_getElem hlt,List.getElem?_eq_getElem (by omega),hf,hg] at h1
   simpa using h1)
  rw[hf] at x0 x1 x2
  rw[hg] at y0 y1 y2
  have hcall:=fun u (hu:Below w.heap.size w u)=>Zqk f.x g.x f.hs g.hs (ha.ins f hfm).1 (hb.ins g hgm).1 f.v g.v u ((ha.ins f hfm).2.keep hu (Nat.le_refl _)) ((hb.ins g hgm).2.keep hu (Nat.le_refl _)) (HO.out f hfm) true (show Hid (true=true↔f.x=g.x) from ⟨fun _=>hxe,fun _=>rfl⟩)
  obtain⟨fo,fc,hfv⟩:=Holds.form ((ha.ins f hfm).2).row
  obtain⟨go,gc,hgv⟩:=Holds.form ((hb.ins g hgm).2).row
  unfold ptV at hcall
  rw[hfv] at x2 hcall
  rw[hgv] at y2 hcall
  clear hc1 hc2 hak hbk hxe hf hg hfm hgm hfv hgv
  go_wp2_with fail
  go_region_with (go_at_call 69;refine (hcall _ hB.drew).mono ?_;rintro e w2 ⟨rfl,hB2⟩)
  all_goals (
   have hB3:=hB.drew.trans (hB2.mono hB.drew.size)
   first
   | exact⟨⟨k+1,by omega,by go_num,hB3⟩,by simp[intOf];omega⟩
   | (go_wp2;exact⟨⟨k+1,by omega,by go_num,hB3⟩,by simp[intOf];omega⟩))
 ·have hend:decide ((k:Int)<(F.length:Int))=false:=decide_eq_false (by omega)
  go_wp2
  go_ret
  exact⟨rfl,hB⟩
end

section
open Ln
end

section
open Ln
theorem ZAB {p n:Int} (hp:0≤p) (hb:p≤2147483647) (hn:0≤n) (hm:n≤2147483647):(ucT p n).length≤61:=by
 have r1:=Zwz p (by omega) (by omega)
 have r2:=Zwz n (by omega) (by omega)
 unfold ucT
 split
 ·omega
 ·simp only[List.length_append,List.length_cons]
  omega
theorem ZAJ (l:List Mk):(l.flatMap umL).flatten.length≤31 * l.length+txS l:=by
 induction l with
 | nil=>exact Nat.le_refl _
 | cons m l ih =>
  have h1:=Zui [UInt8.ofNat m.sg.toNat] m.tx
  simp only[List.flatMap_cons,List.flatten_append,List.length_append,List.length_cons,List.length_nil,txS,umL] at h1 ih ⊢
  omega
theorem ZAG {h:Hk} (hc:chkH h=0):(uhL h).flatten.length≤200+62 * h.ls.length+2 * txS h.ls:=by
 obtain⟨c1,_⟩:=ZtX hc
 obtain⟨r1,r2,r3,r4,r5,r6,_⟩:=ZzK c1
 obtain⟨r7,r8⟩:=ZzI c1
 have s1:=ZAJ h.ls
 have s3:=ZAB r1 r2 r3 r7
 have s4:=ZAB r4 r5 r6 r8
 simp only[uhL,uhT,List.flatten_cons,List.length_append,List.length_cons,List.length_nil]
 omega
theorem ZAH {l:List Hk} (h:∀ x∈l,chkH x=0):(l.flatMap uhL).flatten.length≤hsS l:=by
 induction l with
 | nil=>exact Nat.le_refl _
 | cons x l ih =>
  have h1:=ih fun y hy=>h y (by simp[hy])
  have h2:=ZAG (h x (by simp))
  simp only[List.flatMap_cons,List.flatten_append,List.length_append,hsS]
  omega
theorem ZAO {p:Pth} (h:∀ x∈p.hs,chkH x=0):(upL p).flatten.length≤32+3 * p.old.length+3 * p.new.length+hsS p.hs:=by
 unfold upL
 split
 ·exact Nat.zero_le _
 ·have h1:=ZAH h
  have h2:=Zxk p.old
  have h3:=Zxk p.new
  simp only[List.flatten_cons,List.length_append,List.length_cons,List.length_nil]
  omega
theorem ZAM (p:Pth):(upT p).length≤416+hsS p.hs:=by
 unfold upT
 split
 ·rename_i h
  obtain⟨h1,h2,_,h4⟩:=ZAT h
  have:=ZAO h4
  omega
 ·exact Nat.zero_le _
end

section
open Go.RowKit
theorem ZyS (l:List UInt8) (w:World) (hl:l.length≤1099511627776) (t:List UInt8) (HT:Hid (nameT l=t)) :
  Calls Tryz.prog 74 #[.string ⟨l.toArray⟩] w fun e w'=>e=.returned (.string ⟨t.toArray⟩)∧Below w.heap.size w w':=by
 go_enter Tryz.func74,Tryz.ntmps74
 go_wp2_with fail
 refine (ZpJ l _ hl t HT).mono ?_
 rintro e w1 ⟨rfl,hb⟩
 go_wp2
 go_ret
 exact⟨rfl,hb⟩
theorem Zzk (p:Pth) (q:List (Hk × Value)) (HQ:Hid (q.map (·.1)=p.hs)) (v:Value) (w:World) (hv:HHp w v q) (hok:HOk q) (ho:p.old.length≤1099511627776) (hn:p.new.length≤1099511627776) (r:Int) (HR:Hid (wrgP p=r)) :
  Calls Tryz.prog 73 #[ptV p v] w fun e w'=>e=.returned (.int .i64 r)∧Below w.heap.size w w':=by
 obtain⟨lo,lc,rfl⟩:=Holds.form hv.row
 have hB:Below w.heap.size w (w.alloc (.cells #[.string ⟨p.old.toArray⟩,.string ⟨p.new.toArray⟩,.slice lo q.length lc] 42)):=(Below.refl _ w).alloc (Nat.le_refl _) _
 have hc:=Zzl p q HQ (.slice lo q.length lc) _ (hv.keep hB (Nat.le_refl _)) hok ho hn r HR
 unfold ptV at hc ⊢
 go_enter Tryz.func73,Tryz.ntmps73
 go_wp2_with fail
 refine hc.mono ?_
 rintro e w1 ⟨rfl,hB1⟩
 go_wp2
 go_ret
 exact⟨rfl,hB.trans (hB1.mono hB.size)⟩
theorem Zzn (A N:Int) (h0:0≤A) (h1:A≤4611686018427387904) (h2:0≤N) (h3:N≤4611686018427387900) (w:World) (T:List UInt8) (HR:Hid (ucT A N=T)) :
  Calls Tryz.prog 75 #[.int .i64 A,.int .i64 N] w fun e w'=>e=.returned (.string ⟨T.toArray⟩)∧Below w.heap.size w w':=by
 have l1:=Zwz A (by omega) (by omega)
 have l2:=Zwz N (by omega) (by omega)
 by_cases hN:N=1
 ·have HE1:Hid (Lib.itoa A=T):=(by have h:=HR.out;unfold ucT at h;rw[if_pos hN] at h;exact h)
  have e1:(N == 1)=true:=beq_iff_eq.2 hN
  clear HR hN
  go_enter Tryz.func75,Tryz.ntmps75
  go_wp2_with fail
  refine (Zzj A (by omega) (by omega) _).mono ?_
  rintro e w1 ⟨rfl,hb1⟩
  go_wp2
  go_ret
  exact⟨by rw[← HE1.out];rfl,hb1⟩
 ·have HE:Hid (Lib.itoa A++44::Lib.itoa N=T):=(by have h:=HR.out;unfold ucT at h;rw[if_neg hN] at h;exact h)
  have e1:(N == 1)=false:=beq_eq_false_iff_ne.2 hN
  clear HR hN
  have q1:=Zsl (x:=Lib.itoa A) (y:=[44]) (by unfold Fits;simp only[List.length_cons,List.length_nil];omega) Tryz.prog
  have q2:=Zsl (x:=Lib.itoa A++[44]) (y:=Lib.itoa N) (by unfold Fits;simp only[List.length_append,List.length_cons,List.length_nil];omega) Tryz.prog
  go_enter Tryz.func75,Tryz.ntmps75
  go_wp2_with fail
  refine (Zzj A (by omega) (by omega) _).mono ?_
  rintro e w1 ⟨rfl,hb1⟩
  go_wp2_with fail
  refine (Zzj N (by omega) (by omega) _).mono ?_
  rintro e w2 ⟨rfl,hb2⟩
  go_wp2
  go_ret
  exact⟨by rw[← HE.out];rfl,hb1.trans (hb2.mono hb1.size)⟩
theorem Zuk {x y z:List UInt8} (h:∀ u:World,(Op.stringOp .add ⟨x.toArray⟩ ⟨y.toArray⟩).run Tryz.prog u=.ok (.string ⟨z.toArray⟩) u) {u:World} {op:Oper} (a b:Operand) (ho:op.op=.binOp .add 9 a b 9) {ev:Operand→Value} (ha:ev a=.string ⟨x.toArray⟩) (hb:ev b=.string ⟨y.toArray⟩) :
  (execOp ev op).run Tryz.prog u=.ok (.value (.string ⟨z.toArray⟩)) u:=by
 simp only[execOp,ho,ha,hb]
 go_simp
theorem Zum {u:World} {b off n c i:Nat} (hi:i<n) {op:Oper} (x y:Operand) (ho:op.op=.indexAddr 43 x y) {ev:Operand→Value} (hx:ev x=.slice (some ⟨b,off,none⟩) n c) (hy:ev y=.int .i64 (i:Int)) :
  (execOp ev op).run Tryz.prog u=.ok (.value (.pointer (some ⟨b,off+i * 2,none⟩))) u:=by
 have i1:0≤(i:Int):=by omega
 have i2:(i:Int)<(n:Int):=by omega
 simp only[execOp,ho,hx,hy]
 go_simp
theorem Zun {u:World} {a:Addr} {o:Option Addr} {n c:Nat} (h:u.cell? a=some (.slice o n c)) {op:Oper} (x:Operand) (ho:op.op=.load 43 x) {ev:Operand→Value} (hx:ev x=.pointer (some a)) :
  (execOp ev op).run Tryz.prog u=.ok (.value (.slice o n c)) u:=by
 simp only[execOp,ho,hx]
 go_simp
theorem Zul {x:Int} (h0:0≤x) (h1:x<256) {u:World} {op:Oper} (a:Operand) (ho:op.op=.convert 83 9 a) {ev:Operand→Value} (ha:ev a=.slice (some ⟨u.heap.size,0,none⟩) 1 1) :
  (execOp ev op).run Tryz.prog (u.alloc (.cells #[.int .u8 x] 5))=.ok (.value (.string ⟨#[UInt8.ofNat x.toNat]⟩)) (u.alloc (.cells #[.int .u8 x] 5)):=by
 have h:=ZAw (P:=Tryz.prog) 83 9 5 Tryz.underlying83 Tryz.underlying5 Tryz.underlying9 u x h0 h1
 simp only[execOp,ho,ha,Sem.run_bind,Sem.run_pure,Result.andThen_ok,h]
end

section
open Go.RowKit
theorem Zzg (p:Pth) (q:List (Hk × Value)) (HQ:Hid (q.map (·.1)=p.hs)) (v:Value) (w:World) (hv:HHp w v q) (hok:HOk q) (ho:p.old.length≤1099511627776) (hn:p.new.length≤1099511627776) (Z:List UInt8) (r:Int) (HR:Hid (wrgP p=r)) (HZ:Hid (upT p=Z)) (hZ:Z.length≤70368744177664) :
  Calls Tryz.prog 41 #[ptV p v] w fun e w'=>e=.returned (.tuple #[.string ⟨Z.toArray⟩,.int .i64 r])∧Below w.heap.size w w':=by
 obtain⟨lo,lc,rfl⟩:=Holds.form hv.row
 have HO:=fun h=>(ZAT (p:=p) h)
 obtain⟨old,new,hs⟩:=p
 dsimp only at HQ ho hn
 have hql:hs.length=q.length:=(by rw[← HQ.out,List.length_map])
 have hZZ:=HZ.out
 unfold upT at hZZ
 rw[HR.out] at hZZ
 have hBm:Below w.heap.size w (w.alloc (.cells #[.string ⟨old.toArray⟩,.string ⟨new.toArray⟩,.slice lo q.length lc] 42)):=(Below.refl _ w).alloc (Nat.le_refl _) _
 have hMx:Px (w.alloc (.cells #[.string ⟨old.toArray⟩,.string ⟨new.toArray⟩,.slice lo q.length lc] 42)) w.heap.size ⟨old,new,hs⟩ (.slice lo q.length lc):=heap_alloc_new w _
 have hvm:=hv.keep hBm (Nat.le_refl _)
 have hc:=Zzk ⟨old,new,hs⟩ q HQ (.slice lo q.length lc) _ hvm hok ho hn r HR
 have e:ptV ⟨old,new,hs⟩ (.slice lo q.length lc)=.agg #[.string ⟨old.toArray⟩,.string ⟨new.toArray⟩,.slice lo q.length lc]:=rfl
 rw[e] at hc ⊢
 obtain⟨d0,d1,d2⟩:=hMx.cells
 clear e hvm
 by_cases hr0:r=0
 ·subst hr0
  rw[if_pos rfl] at hZZ
  obtain⟨o1,o2,o3,o4⟩:=HO HR.out
  dsimp only at o1 o2 o3 o4
  have HCh:Hid (∀ x∈hs,chkH x=0):=o4
  clear o4 HO
  by_cases hq0:q.length=0
  ·have HE:Hid ([]=Z):=(by
    show _=_
    rw[← hZZ]
    have:hs=[]:=List.eq_nil_of_length_eq_zero (by omega)
    rw[this]
    rfl)
   have i1:((q.length:Int) == 0)=true:=(by rw[hq0];rfl)
   clear hZZ HZ hq0 hql
   go_enter Tryz.func41,Tryz.ntmps41
   go_wp2_with fail
   refine hc.mono ?_
   rintro e w1 ⟨rfl,hB1⟩
   have hM1:=hMx.low hB1
   clear d0 d1 d2
   obtain⟨d0,d1,d2⟩:=hM1.cells
   go_wp2
   go_ret2
   exact⟨by rw[← HE.out];rfl,hBm.trans (hB1.mono hBm.size)⟩
  ·have hne:hs≠[]:=(by intro e;rw[e] at hql;simp at hql;omega)
   rw[ZAN (p:=⟨old,new,hs⟩) hne] at hZZ
   dsimp only at hZZ
   obtain⟨N1,hN1⟩:∃ Y,nameT old=Y:=⟨_,rfl⟩
   obtain⟨N2,hN2⟩:∃ Y,nameT new=Y:=⟨_,rfl⟩
   obtain⟨U1,hU1⟩:∃ Y,[45,45,45,32]++N1=Y:=⟨_,rfl⟩
   obtain⟨U2,hU2⟩:∃ Y,U1++[10,43,43,43,32]=Y:=⟨_,rfl⟩
   obtain⟨U3,hU3⟩:∃ Y,U2++N2=Y:=⟨_,rfl⟩
   obtain⟨Z2,hZ2⟩:∃ Y,U3++[10]=Y:=⟨_,rfl⟩
   have HE:Hid (Z2++(((q.map (·.1)).drop 0).flatMap uhL).flatten=Z):=(by
    show _=_
    rw[← hZZ,← hZ2,← hU3,← hU2,← hU1,hN1,hN2,HQ.out,List.drop_zero]
    simp)
   have n1:=Zxk old
   have n2:=Zxk new
   rw[hN1] at n1
   rw[hN2] at n2
   have u1:=congrArg List.length hU1
   have u2:=congrArg List.length hU2
   have u3:=congrArg List.length hU3
   simp only[List.length_append,List.length_cons,List.length_nil] at u1 u2 u3
   have q1:=Zsl (x:=[45,45,45,32]) (y:=N1) (by unfold Fits;simp only[List.length_cons,List.length_nil];omega) Tryz.prog
   have q2:=Zsl (x:=U1) (y:=[10,43,43,43,32]) (by unfold Fits;simp only[List.length_cons,List.length_nil];omega) Tryz.prog
   have q3:=Zsl (x:=U2) (y:=N2) (by unfold Fits;omega) Tryz.prog
   have q4:=Zsl (x:=U3) (y:=[10]) (by unfold Fits;simp only[List.length_cons,List.length_nil];omega) Tryz.prog
   rw[hU1] at q1
   rw[hU2] at q2
   rw[hU3] at q3
   rw[hZ2] at q4
   have i1:((q.length:Int) == 0)=false:=beq_eq_false_iff_ne.2 (by omega)
   have hq4:q.length≤4096:=by omega
   have HN1:Hid (nameT old=N1):=hN1
   have HN2:Hid (nameT new=N2):=hN2
   clear hZZ HZ hq0 hql n1 n2 hN1 hN2 hU1 hU2 hU3 hZ2 hne o3 u1 u2 u3
   go_enter Tryz.func41,Tryz.ntmps41
   go_wp2_with fail
   refine hc.mono ?_
   rintro e W1 ⟨rfl,hB1⟩
   have hPx:=hMx.low hB1
   have hBw1:=hBm.trans (hB1.mono hBm.size)
   clear d0 d1 d2 hBm hMx hB1 hc
   generalize w.heap.size=M at hPx ⊢
   obtain⟨d0,d1,d2⟩:=hPx.cells
   have HCn1:Hid (∀ u,Below W1.heap.size W1 u→Calls Tryz.prog 74 (#[.string ⟨old.toArray⟩]++#[]) u fun e w2=>∃ v2,e=.returned v2∧Below W1.heap.size W1 w2∧v2=.string ⟨N1.toArray⟩):=(by
    intro u hu
    refine (ZyS old u ho N1 HN1).mono ?_
    rintro e w2 ⟨rfl,h⟩
    exact⟨_,rfl,hu.trans (h.mono hu.size),rfl⟩)
   have HCn2:Hid (∀ u,Below W1.heap.size W1 u→Calls Tryz.prog 74 (#[.string ⟨new.toArray⟩]++#[]) u fun e w2=>∃ v2,e=.returned v2∧Below W1.heap.size W1 w2∧v2=.string ⟨N2.toArray⟩):=(by
    intro u hu
    refine (ZyS new u hn N2 HN2).mono ?_
    rintro e w2 ⟨rfl,h⟩
    exact⟨_,rfl,hu.trans (h.mono hu.size),rfl⟩)
   go_upto_region 4 with fail
   refine wp_region_noPanic ?_
   refine wp_region_held_drew (S:=fun u=>Below W1.heap.size W1 u) (by kernel_rfl) ((Below.refl _ W1).drew) (fun hHeld=>?_)
   generalize W1.drew=wd at hHeld ⊢
   refine Y_t 0 20 _ (.pointer (some ⟨M,0,none⟩)) rfl (Or.inl ⟨by kernel_rfl,fun u hu=>by kernel_rfl⟩) hHeld ?_
   simp only[Act.put,Y_a,Y_b,Y_c]
   refine Y_t 1 21 _ (.string ⟨old.toArray⟩) rfl (Or.inl ⟨by kernel_rfl,fun u hu=>ZuE (hPx.low hu).cells.1 (.tmp 20) (by kernel_rfl) (by kernel_rfl)⟩) hHeld ?_
   simp only[Act.put,Y_a,Y_b,Y_c]
   refine Y_t 5 25 _ (.pointer (some ⟨M,1,none⟩)) rfl (Or.inl ⟨by kernel_rfl,fun u hu=>by kernel_rfl⟩) hHeld ?_
   simp only[Act.put,Y_a,Y_b,Y_c]
   refine Y_t 6 26 _ (.string ⟨new.toArray⟩) rfl (Or.inl ⟨by kernel_rfl,fun u hu=>ZuE (hPx.low hu).cells.2.1 (.tmp 25) (by kernel_rfl) (by kernel_rfl)⟩) hHeld ?_
   simp only[Act.put,Y_a,Y_b,Y_c]
   refine Y_e 2 22 _ rfl 74 (.func 74) #[.tmp 21] #[9] (by kernel_rfl) #[] (by kernel_rfl) #[.string ⟨old.toArray⟩] (by kernel_rfl) (enters_of Tryz.func74 (by kernel_rfl) rfl) (fun v2 _=>v2=.string ⟨N1.toArray⟩) ?_ ?_
   ·exact HCn1.out wd hHeld
   rintro _ w2 hw2 rfl
   simp only[Act.put,Y_a,Y_b,Y_c]
   refine Y_t 3 23 _ (.string ⟨U1.toArray⟩) rfl (Or.inl ⟨by kernel_rfl,fun u hu=>Zuk q1 (.const (.string ⟨#[45,45,45,32]⟩)) (.tmp 22) (by kernel_rfl) (by kernel_rfl) (by kernel_rfl)⟩) hw2 ?_
   simp only[Act.put,Y_a,Y_b,Y_c]
   refine Y_t 4 24 _ (.string ⟨U2.toArray⟩) rfl (Or.inl ⟨by kernel_rfl,fun u hu=>Zuk q2 (.tmp 23) (.const (.string ⟨#[10,43,43,43,32]⟩)) (by kernel_rfl) (by kernel_rfl) (by kernel_rfl)⟩) hw2 ?_
   simp only[Act.put,Y_a,Y_b,Y_c]
   refine Y_e 7 27 _ rfl 74 (.func 74) #[.tmp 26] #[9] (by kernel_rfl) #[] (by kernel_rfl) #[.string ⟨new.toArray⟩] (by kernel_rfl) (enters_of Tryz.func74 (by kernel_rfl) rfl) (fun v2 _=>v2=.string ⟨N2.toArray⟩) ?_ ?_
   ·exact HCn2.out w2 hw2
   rintro _ w3 hw3 rfl
   simp only[Act.put,Y_a,Y_b,Y_c]
   refine Y_t 8 28 _ (.string ⟨U3.toArray⟩) rfl (Or.inl ⟨by kernel_rfl,fun u hu=>Zuk q3 (.tmp 24) (.tmp 27) (by kernel_rfl) (by kernel_rfl) (by kernel_rfl)⟩) hw3 ?_
   simp only[Act.put,Y_a,Y_b,Y_c]
   refine Y_t 9 29 _ (.string ⟨Z2.toArray⟩) rfl (Or.inl ⟨by kernel_rfl,fun u hu=>Zuk q4 (.tmp 28) (.const (.string ⟨#[10]⟩)) (by kernel_rfl) (by kernel_rfl) (by kernel_rfl)⟩) hw3 ?_
   simp only[Act.put,Y_a,Y_b,Y_c]
   refine Y_t 10 5 _ (.string ⟨Z2.toArray⟩) rfl (Or.inl ⟨by kernel_rfl,fun u hu=>by kernel_rfl⟩) hw3 ?_
   simp only[Act.put,Y_a,Y_b,Y_c]
   refine wpAnyH_done (by kernel_rfl) ?_ _
   refine NoPanic.normal ?_
   clear q1 q2 q3 q4 HCn1 HCn2 hHeld hw2 d0 d1 d2
   go_wp2
   go_loopw [5,6] (fun s i wr=>∃ (k:Nat) (ac:List UInt8),k≤q.length∧i=.int .i64 k∧s=.string ⟨ac.toArray⟩∧Below W1.heap.size W1 wr∧Hid (ac++(((q.map (·.1)).drop k).flatMap uhL).flatten=Z)) (fun _ i _=>q.length-(intOf i).toNat)
   case atStart=>exact⟨0,Z2,Nat.zero_le _,rfl,rfl,hw3,HE⟩
   case round =>
   clear HE hw3
   obtain⟨k,ac,hk,rfl,rfl,hB,HI⟩:=hrel
   obtain⟨d0,d1,d2⟩:=(hPx.low hB).cells
   by_cases hlt:k<q.length
   ·have hv1:=hv.keep hBw1 (Nat.le_refl _)
    obtain⟨bk,off,rfl,hbk,_⟩:=hv1.at (by omega)
    obtain⟨h,y,hx⟩:∃ h y,q[k]=(h,y):=⟨_,_,rfl⟩
    obtain⟨⟨c0,c1,c2,c3,c4⟩,hm⟩:=HHp.take hv1 hB k hlt hx
    obtain⟨x1,x2⟩:=hok.2 q[k] (List.getElem_mem hlt)
    have hmem:h∈hs:=(by rw[← HQ.out];have h2:=List.mem_map_of_mem (f:=(·.1)) (List.getElem_mem hlt);rw[hx] at h2;exact h2)
    have hch:=HCh.out h hmem
    rw[hx] at x1 x2
    dsimp only at x1 x2
    have hsg:=ZtZ hch
    have hr:=(ZtX hch).1
    obtain⟨r1,r2,r3,r4,r5,r6,rx⟩:=ZzK hr
    obtain⟨r7,r8⟩:=ZtS hr
    have HI2:=HI.out
    rw[List.drop_eq_getElem_cons (show k<(q.map (·.1)).length by rw[List.length_map];exact hlt),List.getElem_map,hx,List.flatMap_cons,List.flatten_append,← List.append_assoc] at HI2
    dsimp only at HI2
    obtain⟨yo,yc,rfl⟩:=HMk.form hm
    obtain⟨A,AN,Bn,BN,ls⟩:=h
    dsimp only at x1 x2 c0 c1 c2 c3 c4 hm r1 r2 r3 r4 r5 r6 r7 r8 hsg
    clear rx hr hch hmem hx HI
    obtain⟨T1,hT1⟩:∃ T,ucT A AN=T:=⟨_,rfl⟩
    obtain⟨T2,hT2⟩:∃ T,ucT Bn BN=T:=⟨_,rfl⟩
    have t1:=ZAB (p:=A) (n:=AN) r1 r2 r3 r7
    have t2:=ZAB (p:=Bn) (n:=BN) r4 r5 r6 r8
    rw[hT1] at t1
    rw[hT2] at t2
    obtain⟨a1,e1⟩:∃ Y,ac++[64,64,32,45]=Y:=⟨_,rfl⟩
    obtain⟨a2,e2⟩:∃ Y,a1++T1=Y:=⟨_,rfl⟩
    obtain⟨a3,e3⟩:∃ Y,a2++[32,43]=Y:=⟨_,rfl⟩
    obtain⟨a4,e4⟩:∃ Y,a3++T2=Y:=⟨_,rfl⟩
    obtain⟨a5,e5⟩:∃ Y,a4++[32,64,64,10]=Y:=⟨_,rfl⟩
    obtain⟨a9,e9⟩:∃ Y,a5++(ls.flatMap umL).flatten=Y:=⟨_,rfl⟩
    have HI3:Hid (a9++(((q.map (·.1)).drop (k+1)).flatMap uhL).flatten=Z):=(by
     show _=_
     rw[← HI2,← e9,← e5,← e4,← e3,← e2,← e1,← hT1,← hT2]
     simp[uhL,uhT])
    have HI5:Hid (a5++((ls.drop 0).flatMap umL).flatten=a9):=(by show _=_;rw[List.drop_zero];exact e9)
    have l9:=congrArg List.length HI3.out
    have m9:=congrArg List.length e9
    have m5:=congrArg List.length e5
    have m4:=congrArg List.length e4
    have m3:=congrArg List.length e3
    have m2:=congrArg List.length e2
    have m1:=congrArg List.length e1
    simp only[List.length_append] at l9 m9 m5 m4 m3 m2 m1
    have ha9:a9.length≤70368744177664:=by omega
    have q1:=Zsl (x:=ac) (y:=[64,64,32,45]) (by unfold Fits;omega) Tryz.prog
    have q2:=Zsl (x:=a1) (y:=T1) (by unfold Fits;omega) Tryz.prog
    have q3:=Zsl (x:=a2) (y:=[32,43]) (by unfold Fits;omega) Tryz.prog
    have q4:=Zsl (x:=a3) (y:=T2) (by unfold Fits;omega) Tryz.prog
    have q5:=Zsl (x:=a4) (y:=[32,64,64,10]) (by unfold Fits;omega) Tryz.prog
    rw[e1] at q1
    rw[e2] at q2
    rw[e3] at q3
    rw[e4] at q4
    rw[e5] at q5
    have hBn:Below wr.heap.size wr (wr.alloc (.cells #[.int .i64 A,.int .i64 AN,.int .i64 Bn,.int .i64 BN,.slice yo ls.length yc] 45)):=(Below.refl _ wr).alloc (Nat.le_refl _) _
    have hHx:Hx (wr.alloc (.cells #[.int .i64 A,.int .i64 AN,.int .i64 Bn,.int .i64 BN,.slice yo ls.length yc] 45)) wr.heap.size ⟨A,AN,Bn,BN,ls⟩ (.slice yo ls.length yc):=heap_alloc_new wr _
    have hmm:=hm.keep hBn (Nat.le_refl _)
    have hBm:=hB.trans (hBn.mono hB.size)
    have i4:(0:Int)≤(k:Int):=by omega
    have i5:(k:Int)<(q.length:Int):=by omega
    clear l9 m9 m5 m4 m3 m2 m1 e1 e2 e3 e4 e5 e9 HI2 hm
    go_upto_region 9 with fail
    generalize wr.alloc (.cells #[.int .i64 A,.int .i64 AN,.int .i64 Bn,.int .i64 BN,.slice yo ls.length yc] 45)=Wm at hHx hmm hBm hBn ⊢
    generalize wr.heap.size=Mh at hHx ⊢
    have HC1:Hid (∀ u,Below Wm.heap.size Wm u→Calls Tryz.prog 75 (#[.int .i64 A,.int .i64 AN]++#[]) u fun e w2=>∃ v2,e=.returned v2∧Below Wm.heap.size Wm w2∧v2=.string ⟨T1.toArray⟩):=(by
     intro u hu
     refine (Zzn A AN r1 (by omega) r3 (by omega) u T1 hT1).mono ?_
     rintro e w2 ⟨rfl,h⟩
     exact⟨_,rfl,hu.trans (h.mono hu.size),rfl⟩)
    have HC3:Hid (∀ u,Below Wm.heap.size Wm u→Calls Tryz.prog 75 (#[.int .i64 Bn,.int .i64 BN]++#[]) u fun e w2=>∃ v2,e=.returned v2∧Below Wm.heap.size Wm w2∧v2=.string ⟨T2.toArray⟩):=(by
     intro u hu
     refine (Zzn Bn BN r4 (by omega) r6 (by omega) u T2 hT2).mono ?_
     rintro e w2 ⟨rfl,h⟩
     exact⟨_,rfl,hu.trans (h.mono hu.size),rfl⟩)
    have HSG:Hid (∀ m∈ls,okS m.sg=true):=hsg
    clear hT1 hT2 c0 c1 c2 c3 c4 d0 d1 d2 hsg r1 r2 r3 r4 r5 r6 r7 r8 t1 t2
    refine wp_region_noPanic ?_
    refine wp_region_held_drew (S:=fun u=>Below Wm.heap.size Wm u) (by kernel_rfl) ((Below.refl _ Wm).drew) (fun hHeld=>?_)
    generalize Wm.drew=wd at hHeld ⊢
    refine Y_t 0 42 _ (.string ⟨ac.toArray⟩) rfl (Or.inl ⟨by kernel_rfl,fun u hu=>by kernel_rfl⟩) hHeld ?_
    simp only[Act.put,Y_a,Y_b,Y_c]
    refine Y_t 1 43 _ (.string ⟨a1.toArray⟩) rfl (Or.inl ⟨by kernel_rfl,fun u hu=>Zuk q1 (.tmp 42) (.const (.string ⟨#[64,64,32,45]⟩)) (by kernel_rfl) (by kernel_rfl) (by kernel_rfl)⟩) hHeld ?_
    simp only[Act.put,Y_a,Y_b,Y_c]
    refine Y_t 2 44 _ (.pointer (some ⟨Mh,0,none⟩)) rfl (Or.inl ⟨by kernel_rfl,fun u hu=>by kernel_rfl⟩) hHeld ?_
    simp only[Act.put,Y_a,Y_b,Y_c]
    refine Y_t 3 45 _ (.int .i64 A) rfl (Or.inl ⟨by kernel_rfl,fun u hu=>Zon (hHx.low hu).cells.1 (.tmp 44) (by kernel_rfl) (by kernel_rfl)⟩) hHeld ?_
    simp only[Act.put,Y_a,Y_b,Y_c]
    refine Y_t 4 46 _ (.pointer (some ⟨Mh,1,none⟩)) rfl (Or.inl ⟨by kernel_rfl,fun u hu=>by kernel_rfl⟩) hHeld ?_
    simp only[Act.put,Y_a,Y_b,Y_c]
    refine Y_t 5 47 _ (.int .i64 AN) rfl (Or.inl ⟨by kernel_rfl,fun u hu=>Zon (hHx.low hu).cells.2.1 (.tmp 46) (by kernel_rfl) (by kernel_rfl)⟩) hHeld ?_
    simp only[Act.put,Y_a,Y_b,Y_c]
    refine Y_t 9 51 _ (.pointer (some ⟨Mh,2,none⟩)) rfl (Or.inl ⟨by kernel_rfl,fun u hu=>by kernel_rfl⟩) hHeld ?_
    simp only[Act.put,Y_a,Y_b,Y_c]
    refine Y_t 10 52 _ (.int .i64 Bn) rfl (Or.inl ⟨by kernel_rfl,fun u hu=>Zon (hHx.low hu).cells.2.2.1 (.tmp 51) (by kernel_rfl) (by kernel_rfl)⟩) hHeld ?_
    simp only[Act.put,Y_a,Y_b,Y_c]
    refine Y_t 11 53 _ (.pointer (some ⟨Mh,3,none⟩)) rfl (Or.inl ⟨by kernel_rfl,fun u hu=>by kernel_rfl⟩) hHeld ?_
    simp only[Act.put,Y_a,Y_b,Y_c]
    refine Y_t 12 54 _ (.int .i64 BN) rfl (Or.inl ⟨by kernel_rfl,fun u hu=>Zon (hHx.low hu).cells.2.2.2.1 (.tmp 53) (by kernel_rfl) (by kernel_rfl)⟩) hHeld ?_
    simp only[Act.put,Y_a,Y_b,Y_c]
    refine Y_e 6 48 _ rfl 75 (.func 75) #[.tmp 45,.tmp 47] #[3,3] (by kernel_rfl) #[] (by kernel_rfl) #[.int .i64 A,.int .i64 AN] (by kernel_rfl) (enters_of Tryz.func75 (by kernel_rfl) rfl) (fun v2 _=>v2=.string ⟨T1.toArray⟩) ?_ ?_
    ·exact HC1.out wd hHeld
    rintro _ w2 hw2 rfl
    simp only[Act.put,Y_a,Y_b,Y_c]
    refine Y_t 7 49 _ (.string ⟨a2.toArray⟩) rfl (Or.inl ⟨by kernel_rfl,fun u hu=>Zuk q2 (.tmp 43) (.tmp 48) (by kernel_rfl) (by kernel_rfl) (by kernel_rfl)⟩) hw2 ?_
    simp only[Act.put,Y_a,Y_b,Y_c]
    refine Y_t 8 50 _ (.string ⟨a3.toArray⟩) rfl (Or.inl ⟨by kernel_rfl,fun u hu=>Zuk q3 (.tmp 49) (.const (.string ⟨#[32,43]⟩)) (by kernel_rfl) (by kernel_rfl) (by kernel_rfl)⟩) hw2 ?_
    simp only[Act.put,Y_a,Y_b,Y_c]
    refine Y_e 13 55 _ rfl 75 (.func 75) #[.tmp 52,.tmp 54] #[3,3] (by kernel_rfl) #[] (by kernel_rfl) #[.int .i64 Bn,.int .i64 BN] (by kernel_rfl) (enters_of Tryz.func75 (by kernel_rfl) rfl) (fun v2 _=>v2=.string ⟨T2.toArray⟩) ?_ ?_
    ·exact HC3.out w2 hw2
    rintro _ w3 hw3 rfl
    simp only[Act.put,Y_a,Y_b,Y_c]
    refine Y_t 14 56 _ (.string ⟨a4.toArray⟩) rfl (Or.inl ⟨by kernel_rfl,fun u hu=>Zuk q4 (.tmp 50) (.tmp 55) (by kernel_rfl) (by kernel_rfl) (by kernel_rfl)⟩) hw3 ?_
    simp only[Act.put,Y_a,Y_b,Y_c]
    refine Y_t 15 57 _ (.string ⟨a5.toArray⟩) rfl (Or.inl ⟨by kernel_rfl,fun u hu=>Zuk q5 (.tmp 56) (.const (.string ⟨#[32,64,64,10]⟩)) (by kernel_rfl) (by kernel_rfl) (by kernel_rfl)⟩) hw3 ?_
    simp only[Act.put,Y_a,Y_b,Y_c]
    refine Y_t 16 5 _ (.string ⟨a5.toArray⟩) rfl (Or.inl ⟨by kernel_rfl,fun u hu=>by kernel_rfl⟩) hw3 ?_
    simp only[Act.put,Y_a,Y_b,Y_c]
    refine wpAnyH_done (by kernel_rfl) ?_ _
    refine NoPanic.normal ?_
    have hHx3:=hHx.low hw3
    have hmm3:=hmm.keep hw3 (Nat.le_refl _)
    have hBm3:=hBm.trans (hw3.mono hBm.size)
    clear q1 q2 q3 q4 q5 HC1 HC3 hHeld hw2 hHx hmm hBm hw3
    go_wp2
    go_loopw [5,8] (fun s iv wz=>∃ (j:Nat) (al:List UInt8),j≤ls.length∧iv=.int .i64 j∧s=.string ⟨al.toArray⟩∧Below w3.heap.size w3 wz∧Hid (al++((ls.drop j).flatMap umL).flatten=a9)) (fun _ iv _=>ls.length-(intOf iv).toNat)
    case atStart=>exact⟨0,a5,Nat.zero_le _,by go_num,rfl,Below.refl _ _,HI5⟩
    case round =>
    clear HI5
    obtain⟨j,al,hj,rfl,rfl,hB2,HJ⟩:=hrel
    obtain⟨_,_,_,_,d4⟩:=(hHx3.low hB2).cells
    by_cases hlt2:j<ls.length
    ·obtain⟨bk2,off2,rfl,hbk2,_⟩:=HMk.at hmm3 (by omega)
     obtain⟨m,hm⟩:∃ m,ls[j]=m:=⟨_,rfl⟩
     obtain⟨m0,m1⟩:=Low.mk hB2 hmm3 j hlt2 hm
     have htx0:=x2 m (by rw[← hm];exact List.getElem_mem hlt2)
     have hs0:=ZAf (HSG.out m (by rw[← hm];exact List.getElem_mem hlt2))
     have hJ:=HJ.out
     rw[List.drop_eq_getElem_cons hlt2,hm,List.flatMap_cons,List.flatten_append,← List.append_assoc] at hJ
     obtain⟨sg,tx⟩:=m
     dsimp only at m0 m1 htx0 hs0
     have s0:0≤sg:=by omega
     have s1:sg<256:=by omega
     have htx:tx.length≤2305843009213693952:=by omega
     obtain⟨L1,hL1⟩:∃ Y,(lnL [UInt8.ofNat sg.toNat] tx).flatten=Y:=⟨_,rfl⟩
     obtain⟨al2,hal⟩:∃ Y,al++L1=Y:=⟨_,rfl⟩
     have HJ2:Hid (al2++((ls.drop (j+1)).flatMap umL).flatten=a9):=(by
      show _=_
      rw[← hJ,← hal,← hL1]
      rfl)
     have hll:=congrArg List.length HJ2.out
     have hl2:=congrArg List.length hal
     simp only[List.length_append] at hll hl2
     have qq:=Zsl (x:=al) (y:=L1) (by unfold Fits;omega) Tryz.prog
     rw[hal] at qq
     have j1:(0:Int)≤(j:Int):=by omega
     have j2:(j:Int)<(ls.length:Int):=by omega
     clear hm hJ hal hll hl2 htx0 hs0 HJ
     generalize wr=wr2 at hB2 m0 m1 d4 ⊢
     go_upto_region 13 with fail
     refine wp_region_noPanic ?_
     refine wp_region_held_drew (S:=fun u=>Below wr2.heap.size wr2 u) (by kernel_rfl) ((Below.refl _ wr2).drew) (fun hHeld=>?_)
     generalize wr2.drew=wd at hHeld ⊢
     refine Y_t 0 65 _ (.string ⟨al.toArray⟩) rfl (Or.inl ⟨by kernel_rfl,fun u hu=>by kernel_rfl⟩) hHeld ?_
     simp only[Act.put,Y_a,Y_b,Y_c]
     refine Y_t 1 66 _ (.pointer (some ⟨Mh,4,none⟩)) rfl (Or.inl ⟨by kernel_rfl,fun u hu=>by kernel_rfl⟩) hHeld ?_
     simp only[Act.put,Y_a,Y_b,Y_c]
     refine Y_t 2 67 _ (.slice (some ⟨bk2,off2,none⟩) ls.length yc) rfl (Or.inl ⟨by kernel_rfl,fun u hu=>Zun (ZdW hu d4) (.tmp 66) (by kernel_rfl) (by kernel_rfl)⟩) hHeld ?_
     simp only[Act.put,Y_a,Y_b,Y_c]
     refine Y_t 3 68 _ (.int .i64 (j:Int)) rfl (Or.inl ⟨by kernel_rfl,fun u hu=>by kernel_rfl⟩) hHeld ?_
     simp only[Act.put,Y_a,Y_b,Y_c]
     refine Y_t 4 69 _ (.pointer (some ⟨bk2,off2+j * 2,none⟩)) rfl (Or.inl ⟨by kernel_rfl,fun u hu=>Zum (c:=yc) hlt2 (.tmp 67) (.tmp 68) (by kernel_rfl) (by kernel_rfl) (by kernel_rfl)⟩) hHeld ?_
     simp only[Act.put,Y_a,Y_b,Y_c]
     refine Y_t 5 70 _ (.pointer (some ⟨bk2,off2+j * 2,none⟩)) rfl (Or.inl ⟨by kernel_rfl,fun u hu=>by kernel_rfl⟩) hHeld ?_
     simp only[Act.put,Y_a,Y_b,Y_c]
     refine Y_t 6 71 _ (.int .u8 sg) rfl (Or.inl ⟨by kernel_rfl,fun u hu=>ZuF (ZdW hu m0) (.tmp 70) (by kernel_rfl) (by kernel_rfl)⟩) hHeld ?_
     simp only[Act.put,Y_a,Y_b,Y_c]
     refine Y_t 9 74 _ (.pointer (some ⟨Mh,4,none⟩)) rfl (Or.inl ⟨by kernel_rfl,fun u hu=>by kernel_rfl⟩) hHeld ?_
     simp only[Act.put,Y_a,Y_b,Y_c]
     refine Y_t 10 75 _ (.slice (some ⟨bk2,off2,none⟩) ls.length yc) rfl (Or.inl ⟨by kernel_rfl,fun u hu=>Zun (ZdW hu d4) (.tmp 74) (by kernel_rfl) (by kernel_rfl)⟩) hHeld ?_
     simp only[Act.put,Y_a,Y_b,Y_c]
     refine Y_t 11 76 _ (.int .i64 (j:Int)) rfl (Or.inl ⟨by kernel_rfl,fun u hu=>by kernel_rfl⟩) hHeld ?_
     simp only[Act.put,Y_a,Y_b,Y_c]
     refine Y_t 12 77 _ (.pointer (some ⟨bk2,off2+j * 2,none⟩)) rfl (Or.inl ⟨by kernel_rfl,fun u hu=>Zum (c:=yc) hlt2 (.tmp 75) (.tmp 76) (by kernel_rfl) (by kernel_rfl) (by kernel_rfl)⟩) hHeld ?_
     simp only[Act.put,Y_a,Y_b,Y_c]
     refine Y_t 13 78 _ (.pointer (some ⟨bk2,off2+j * 2+1,none⟩)) rfl (Or.inl ⟨by kernel_rfl,fun u hu=>by kernel_rfl⟩) hHeld ?_
     simp only[Act.put,Y_a,Y_b,Y_c]
     refine Y_t 14 79 _ (.string ⟨tx.toArray⟩) rfl (Or.inl ⟨by kernel_rfl,fun u hu=>ZuE (ZdW hu m1) (.tmp 78) (by kernel_rfl) (by kernel_rfl)⟩) hHeld ?_
     simp only[Act.put,Y_a,Y_b,Y_c]
     have hwb:Below wr2.heap.size wr2 (wd.alloc (.cells #[.int .u8 sg] 5)):=hHeld.alloc hHeld.size _
     refine Y_v 7 72 _ rfl (.slice (some ⟨wd.heap.size,0,none⟩) 1 1) (wd.alloc (.cells #[.int .u8 sg] 5)) (by kernel_rfl) (hwb) ?_
     simp only[Act.put,Y_a,Y_b,Y_c]
     refine Y_v 8 73 _ rfl (.string ⟨#[UInt8.ofNat sg.toNat]⟩) (wd.alloc (.cells #[.int .u8 sg] 5)) (Zul s0 s1 (.tmp 72) (by kernel_rfl) (by kernel_rfl)) (hwb) ?_
     simp only[Act.put,Y_a,Y_b,Y_c]
     refine Y_e 15 80 _ rfl 76 (.func 76) #[.tmp 73,.tmp 79] #[9,9] (by kernel_rfl) #[] (by kernel_rfl) #[.string ⟨#[UInt8.ofNat sg.toNat]⟩,.string ⟨tx.toArray⟩] (by kernel_rfl) (enters_of Tryz.func76 (by kernel_rfl) rfl) (fun v2 _=>v2=.string ⟨L1.toArray⟩) ?_ ?_
     ·refine (ZyQ [UInt8.ofNat sg.toNat] tx _ (by simp) htx).mono ?_
      rintro e w5 ⟨rfl,rfl⟩
      exact⟨_,rfl,hwb,by rw[hL1]⟩
     rintro _ w5 hw5 rfl
     simp only[Act.put,Y_a,Y_b,Y_c]
     refine Y_t 16 81 _ (.string ⟨al2.toArray⟩) rfl (Or.inl ⟨by kernel_rfl,fun u hu=>Zuk qq (.tmp 65) (.tmp 80) (by kernel_rfl) (by kernel_rfl) (by kernel_rfl)⟩) hw5 ?_
     simp only[Act.put,Y_a,Y_b,Y_c]
     refine Y_t 17 5 _ (.string ⟨al2.toArray⟩) rfl (Or.inl ⟨by kernel_rfl,fun u hu=>by kernel_rfl⟩) hw5 ?_
     simp only[Act.put,Y_a,Y_b,Y_c]
     refine wpAnyH_done (by kernel_rfl) ?_ _
     refine NoPanic.normal ?_
     have hB5:=hB2.trans (hw5.mono hB2.size)
     clear qq hHeld hwb hw5 m0 m1 d4 hL1
     go_wp2
     exact⟨⟨j+1,al2,by omega,by go_num,rfl,hB5,HJ2⟩,by simp[intOf];omega⟩
    ·have hend2:¬ (j:Int)<(ls.length:Int):=by omega
     have hE2:al=a9:=(by
      have h:=HJ.out
      rw[List.drop_of_length_le (by omega)] at h
      simpa using h)
     subst hE2
     clear HJ
     go_wp2
     exact⟨⟨k+1,al,by omega,by go_num,rfl,hBm3.trans (hB2.mono hBm3.size),HI3⟩,by simp[intOf];omega⟩
   ·have hend:¬ (k:Int)<(q.length:Int):=by omega
    have hE:ac=Z:=(by
     have h:=HI.out
     rw[List.drop_of_length_le (by rw[List.length_map];omega)] at h
     simpa using h)
    subst hE
    clear HI
    go_wp2
    go_ret2
    exact⟨rfl,hBw1.trans (hB.mono hBw1.size)⟩
 ·rw[if_neg hr0] at hZZ
  have HE:Hid ([]=Z):=hZZ
  have e1:(r != 0)=true:=bne_iff_ne.2 hr0
  clear hZZ HZ HO hr0
  go_enter Tryz.func41,Tryz.ntmps41
  go_wp2_with fail
  refine hc.mono ?_
  rintro e w1 ⟨rfl,hB1⟩
  go_wp2
  go_ret2
  exact⟨by rw[← HE.out];rfl,hBm.trans (hB1.mono hBm.size)⟩
end

end Go.Proofs.YtcniomgjikienaaGreatDoor
