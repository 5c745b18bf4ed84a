/-
  Texts that belong together, joined: EdIter, EdOwn, EdKeep, EdWalk, EdDrew, EdRChk, HuRow, HuRf1, HuRf2, HuRf3, PcReg, HuRf4, HuRf5, HuRf6, HuRf7, PcLs, HuOwn, HuC1, EdReg, EdApp, EdSameS, HuIv, HuCn, HuOne, HuCh, HuGr, HuC7, EdRApp, HuC8, HuC9, HuMk, HuCa, HuLw, PaMath.
-/
import Derived.Test.YtkiaenncemfkcaaGreatDoorRcsA2
import Derived.RangeFuncNested
import Derived.RangeFuncBound
import Derived.RangeFuncCalls
import Derived.RangeFuncLeaves
import Derived.RangeFuncBox
import Derived.Shelf.Abstract
import Derived.Shelf.RegionOpen
import Derived.OwnWalkIn
import Derived.TacticsInMore
import Derived.LoopNIn
import Derived.LoopIn
import Derived.Maps.AppendAt
import Derived.Deep.RegionHeld3
import Derived.Deep.CutRange
import Derived.Deep.DeepCutAuto
import Derived.Laws.Rows

set_option maxHeartbeats 16000000
set_option maxRecDepth 100000
namespace Go.Proofs.YtkiaenncemfkcaaGreatDoor

section
open Go.RowKit Go.Shelf
attribute [local go_sem] Oper.semAt_some
structure Kp (n₀ lo:Nat) (W W':World):Prop where
 low:Below n₀ W W'
 box:∀ k,lo≤k→k<lo+3→W'.heap[k]?=W.heap[k]?
 chg:∀ (k:Nat) (cs:Array Value),W.heap[k]?=some (Obj.cells cs 45 (0,0))→W'.heap[k]?=some (Obj.cells cs 45 (0,0))
section
variable {n₀ lo:Nat} {A B C:World}
theorem Kp.refl (W:World):Kp n₀ lo W W:=⟨Below.refl _ _,fun _ _ _=>rfl,fun _ _ h=>h⟩
theorem Kp.trans (h:Kp n₀ lo A B) (k:Kp n₀ lo B C):Kp n₀ lo A C:=⟨h.low.trans k.low,fun j h1 h2=>(k.box j h1 h2).trans (h.box j h1 h2),fun j cs hj=>k.chg j cs (h.chg j cs hj)⟩
theorem Kp.alloc {W:World} (hn:n₀≤W.heap.size) (hl:lo+3≤W.heap.size) (o:Obj):Kp n₀ lo W (W.alloc o) :=
 ⟨(Below.refl _ W).alloc hn o,fun k _ hk=>Below.heap_alloc W o k (by omega),fun k cs hk=>(Below.heap_alloc W o k (Array.getElem?_eq_some_iff.1 hk).1).trans hk⟩
theorem Kp.putObj {w:World} (hn:n₀≤w.heap.size) (hl:lo+3≤w.heap.size) (W:World) (l:Nat) (o o':Obj) (hlw:w.heap.size≤l) (h:W.heap[l]?=some o) (hc:o.isCells=false) (hw:o.isWalk=false):Kp n₀ lo W (W.putObj l o'):=by
 have hne:∀ k,k≠l→(W.putObj l o').heap[k]?=W.heap[k]?:=fun k hk=>by simp[World.putObj,Ne.symm hk]
 refine⟨belowK_b hn W l o o' hlw h hc hw,fun k _ hk=>hne k (by omega),fun k cs hk=>(hne k ?_).trans hk⟩
 rintro rfl
 rw[h] at hk
 cases hk
 cases hc
theorem Kp.drewN (W:World) (k:Nat):Kp n₀ lo W (W.drewN k):=⟨Below.dN (Below.refl _ W) k,fun _ _ _=>rfl,fun _ _ h=>h⟩
end
abbrev Pie (n m:Int):={ x:Rn × Ch // Pc n m x }
theorem Zst (ao:Option Addr) (len c:Nat) (n m:Int) (w:World) :
  Calls Tryz.prog 141 #[.slice ao len c,.int .i64 n,.int .i64 m] w fun e w' =>
   e=.returned (.func (.func 163) #[] #[.pointer (some ⟨w.heap.size,0,none⟩),.pointer (some ⟨w.heap.size+1,0,none⟩),.pointer (some ⟨w.heap.size+1+1,0,none⟩)]) ∧
   w'=((w.alloc (.cells #[.slice ao len c] 25)).alloc (.cells #[.int .i64 n] 3)).alloc (.cells #[.int .i64 m] 3):=by
 go_enter Tryz.func141,Tryz.ntmps141
 go_wp2
 go_ret
 exact⟨rfl,rfl⟩
theorem Zbn {α:Type} {B0:Nat} {J:List α→World→Prop} (h:AbidesFrom B0 J) {s:List α} {W:World} (hJ:J s W) (o:Obj):J s (W.alloc o):=h s W _ none hJ (World.grownBy_alloc W o none) (fun r e=>by cases e)
theorem Zbo {α:Type} {B0:Nat} {J:List α→World→Prop} (h:AbidesFrom B0 J) {s:List α} {W:World} (hJ:J s W) (k:Nat):J s (W.drewN k):=h s W _ none hJ ⟨rfl,rfl,rfl,Nat.le_refl _,fun _ _ _=>rfl⟩ (fun r e=>by cases e)
theorem Zsr (N:Nat) (hN:1≤N) (lp lo n₀:Nat) (ao:Option Addr) (ca:Nat) (l:List Ch) (n m:Int) (hS:Hid (Script l n m)) (hn:n≤9223372036854775807) (hm:m≤9223372036854775807) (hlen:l.length≤1099511627776)
  (J Jx:List (Pie n m)→World→Prop) (W:World) (hJ:AbidesFrom W.heap.size J)
  (hY:∀ pre (x:Pie n m) W1,J pre W1→pre.length<l.length+1→YieldAt Fence.wide (N-1) Tryz.prog lp #[rnV x.1.1,chV x.1.2] W1 fun e W' =>
   (e=.returned (.bool true)∧J (pre++[x]) W'∧Kp n₀ lo W1 W')∨(e=.returned (.bool false)∧Jx (pre++[x]) W'))
  (hlo:n₀≤lo) (hsz:lo+3≤W.heap.size) (hb0:W.heap[lo]?=some (.cells #[.slice ao l.length ca] 25 (0,0))) (hb1:W.heap[lo+1]?=some (.cells #[.int .i64 n] 3 (0,0))) (hb2:W.heap[lo+1+1]?=some (.cells #[.int .i64 m] 3 (0,0)))
  (hl:HCh W (.slice ao l.length ca) l) (hb:∀ a,ao=some a→0<l.length→a.block<n₀) (h0:J [] W) :
  CallsIn Fence.wide N Tryz.prog 163 #[.func (.yield lp) #[] #[],.pointer (some ⟨lo,0,none⟩),.pointer (some ⟨lo+1,0,none⟩),.pointer (some ⟨lo+1+1,0,none⟩)] W fun e W'=>(∃ v,e=.returned v) ∧
   ((∃ ys,ys.map (·.1)=piecesL 0 0 n m l∧J ys W')∨(∃ pre,True∧Jx pre W')):=by
 have d0:W.cell? ⟨lo,0,none⟩=some (.slice ao l.length ca):=by rw[Lib.cell_of_heap hb0];rfl
 refine callsIn_of_wp Tryz.func163 rfl trivial ?_ rfl
 simp only[Tryz.ntmps163,List.size_toArray,List.length_cons,List.length_nil,Nat.reduceAdd,Nat.reduceSub,Array.replicate_succ,Array.replicate_zero,List.push_toArray,List.append_toArray,List.nil_append,List.cons_append]
 gi_wp2
 gi_loopw [5,6,11] (fun av bv iv wr=>∃ (k:Nat) (a b:Int) (pre:List (Pie n m)),k≤l.length∧pre.length=k∧av=.int .i64 a∧bv=.int .i64 b∧iv=.int .i64 k∧0≤a∧a≤n∧0≤b∧b≤m∧Kp n₀ lo W wr∧J pre wr∧Hid (Right (decide (k=0)) a b n m (l.drop k)∧pre.map (·.1)++piecesL a b n m (l.drop k)=piecesL 0 0 n m l)) (fun _ _ iv _=>l.length-(intOf iv).toNat)
 case atStart=>exact⟨0,0,0,[],Nat.zero_le _,rfl,rfl,rfl,rfl,by omega,hS.out.1,by omega,hS.out.2.1,Kp.refl W,h0,(⟨hS.out.2.2,rfl⟩:_∧_)⟩
 case round =>
  obtain⟨k,a,b,pre,hk,hpl,rfl,rfl,rfl,ha,han,hb',hbm,hK,hJr,hR⟩:=hrel
  have hszr:=hK.low.size
  by_cases hlt:k<l.length
  ·have hlr:HCh wr (.slice ao l.length ca) l:=by
    obtain⟨bk,off,rfl,hbk,hc⟩:=HCh.at hl (by omega)
    rcases hl with ⟨h,_⟩ | ⟨ad,c,he,hnc,hcells⟩
    ·cases h
    ·cases he
     refine .inr ⟨_,_,rfl,hnc,fun j u hj=>?_⟩
     have h1:=hcells j u hj
     rw[World.cell?_of_block (w:=W) (hK.low.block _ ?_)]
     ·exact h1
     ·have:=hb _ rfl (by omega)
      rw[add_none]
      exact this
   obtain⟨bk,off,rfl,hbk,hc⟩:=HCh.at hlr (by omega)
   obtain⟨c0,c1,c2,c3⟩:=hc k hlt
   have hR':=hR.out
   rw[List.drop_eq_getElem_cons hlt] at hR'
   obtain⟨c,hcd⟩:∃ c,l[k]=c:=⟨_,rfl⟩
   rw[hcd] at hR' c0 c1 c2 c3
   clear hc hcd hR
   have hnum:=hR'.1.1.1
   rw[Zqy] at hnum
   have hle:=hR'.1.2.le
   have HR:Hid (Right (decide (k=0)) a b n m (c::l.drop (k+1))∧pre.map (·.1)++piecesL a b n m (c::l.drop (k+1))=piecesL 0 0 n m l):=hR'
   have hpc:=hR'.1.pc ha hb'
   have hAa:=hR'.1.1.2.2.1
   clear hR'
   have i1:0≤(k:Int):=by omega
   have i2:(k:Int)<(l.length:Int):=by omega
   obtain⟨A,AN,B,BN⟩:=c
   dsimp only at c0 c1 c2 c3 hnum hle hAa
   obtain⟨⟨hA0,hA1⟩,⟨hAN0,hAN1⟩,⟨hB0,hB1⟩,⟨hBN0,hBN1⟩,hpos⟩:=hnum
   have hK1:Kp n₀ lo wr (wr.alloc (.cells #[.int .i64 A,.int .i64 AN,.int .i64 B,.int .i64 BN] 45)):=Kp.alloc (by omega) (by omega) _
   obtain⟨fn,tmps,assign,body,hy,hRd⟩:=hY pre ⟨(⟨a,b,A-a⟩,⟨A,AN,B,BN⟩),hpc⟩ (wr.alloc (.cells #[.int .i64 A,.int .i64 AN,.int .i64 B,.int .i64 BN] 45)) (Zbn hJ hJr _) (by omega)
   simp only[rnV,chV] at hy
   gi_wp2
   refine hRd.mono ?_
   rintro e W3 (⟨rfl,hJ3,hk3⟩ | ⟨rfl,hJx3⟩)
   ·have hbox:=hk3.chg wr.heap.size _ (_root_.Go.heap_alloc_new wr _)
    have e0:W3.cell? ⟨wr.heap.size,0,none⟩=some (.int .i64 A):=by rw[Lib.cell_of_heap hbox];rfl
    have e1:W3.cell? ⟨wr.heap.size,1,none⟩=some (.int .i64 AN):=by rw[Lib.cell_of_heap hbox];rfl
    have e2:W3.cell? ⟨wr.heap.size,2,none⟩=some (.int .i64 B):=by rw[Lib.cell_of_heap hbox];rfl
    have e3:W3.cell? ⟨wr.heap.size,3,none⟩=some (.int .i64 BN):=by rw[Lib.cell_of_heap hbox];rfl
    gi_wp2
    gi_region
    gi_wp2
    go_roundw
    case rel=>exact⟨k+1,A+AN,B+BN,pre++[⟨(⟨a,b,A-a⟩,⟨A,AN,B,BN⟩),hpc⟩],by omega,by simp;omega,by go_num,by go_num,by go_num,by omega,by omega,by omega,by omega,(hK.trans (hK1.trans hk3)).trans (Kp.drewN _ 1),Zbo hJ hJ3 1,(by
      have h:=HR.out
      have e:decide (k+1=0)=false:=by simp
      show _∧_
      rw[e]
      exact⟨h.1.2,by rw[← h.2];simp[piecesL]⟩)⟩
    case measure=>simp[intOf];omega
   ·gi_wp2
    refine bodyPost_ret (results_none rfl _ _ _) rfl ?_
    exact⟨⟨_,rfl⟩,.inr ⟨_,trivial,hJx3⟩⟩
  ·have hR':=hR.out
   rw[List.drop_of_length_le (by omega)] at hR'
   have HR:Hid (Right (decide (k=0)) a b n m []∧pre.map (·.1)++piecesL a b n m []=piecesL 0 0 n m l):=hR'
   have hpc:=hR'.1.pcEnd ha hb'
   clear hR hR'
   have hx1:=(hK.box (lo+1) (by omega) (by omega)).trans hb1
   have hx2:=(hK.box (lo+1+1) (by omega) (by omega)).trans hb2
   have e1:wr.cell? ⟨lo+1,0,none⟩=some (.int .i64 n):=by rw[Lib.cell_of_heap hx1];rfl
   have e2:wr.cell? ⟨lo+1+1,0,none⟩=some (.int .i64 m):=by rw[Lib.cell_of_heap hx2];rfl
   obtain⟨fn,tmps,assign,body,hy,hRd⟩:=hY pre ⟨(⟨a,b,n-a⟩,⟨n,0,m,0⟩),hpc⟩ wr hJr (by omega)
   simp only[rnV,chV] at hy
   gi_wp2
   refine hRd.mono ?_
   rintro e W3 (⟨rfl,hJ3,hk3⟩ | ⟨rfl,hJx3⟩)
   ·gi_wp2
    go_end0
    exact⟨⟨_,rfl⟩,.inl ⟨_,by have h:=HR.out.2;rw[← h];simp[piecesL],hJ3⟩⟩
   ·gi_wp2
    go_end0
    exact⟨⟨_,rfl⟩,.inr ⟨_,trivial,hJx3⟩⟩
theorem HCh.lt {w:World} {ao:Option Addr} {n c:Nat} {l:List Ch} (h:HCh w (.slice ao n c) l) (a:Addr) (ha:ao=some a) (h0:0<l.length):a.block<w.heap.size:=by
 obtain⟨b,off,hb,hlt,_⟩:=HCh.at h h0
 rw[ha] at hb
 cases hb
 exact hlt
theorem Zsu (N:Nat) (hN:1≤N) (lo n₀:Nat) (ao:Option Addr) (ca:Nat) (l:List Ch) (n m:Int) (hS:Script l n m) (hn:n≤9223372036854775807) (hm:m≤9223372036854775807) (hlen:l.length≤1099511627776) (w:World)
  (hlo:n₀≤lo) (hsz:lo+3≤w.heap.size) (hb0:w.heap[lo]?=some (.cells #[.slice ao l.length ca] 25 (0,0))) (hb1:w.heap[lo+1]?=some (.cells #[.int .i64 n] 3 (0,0))) (hb2:w.heap[lo+1+1]?=some (.cells #[.int .i64 m] 3 (0,0)))
  (hl:HCh w (.slice ao l.length ca) l) (hb:∀ a,ao=some a→0<l.length→a.block<n₀) :
  SeqStopsK Fence.wide N Tryz.prog 163 #[.pointer (some ⟨lo,0,none⟩),.pointer (some ⟨lo+1,0,none⟩),.pointer (some ⟨lo+1+1,0,none⟩)] (fun x:Pie n m=>#[rnV x.1.1,chV x.1.2]) (Kp n₀ lo) (fun ys=>ys.map (·.1)=piecesL 0 0 n m l) (fun _=>True) (l.length+1) w:=fun lp J Jx W hW hJ _ hY h0 =>
 Zsr N hN lp lo n₀ ao ca l n m hS hn hm hlen J Jx W hJ hY hlo (Nat.le_trans hsz hW.size) ((hW.block _ (by omega)).trans hb0) ((hW.block _ (by omega)).trans hb1) ((hW.block _ (by omega)).trans hb2) (HCh.keep hl hW (Nat.le_refl _)) hb h0
end

section
open Go.RowKit Go.Shelf
attribute [local go_sem] Oper.semAt_some
theorem ZBt {F:Fence} {n:Nat} (w:World) {ops:Array Oper} {rest:List Oper} {o:Oper} {a:Act} {Q:Exit→Act→World→Prop}
  (hg:o.guard=none) (s x:Operand) (T E:TypeId) (ho:o.op=Op.call { callee:=Callee.builtin Builtin.append,args:=#[s,x],argTypes:=#[T,T] })
  (z:Value) (size bytes:Nat) (hT:Tryz.prog.underlying T=some (.slice E)) (hinfo:(Tryz.prog.info? E).map (fun i=>(i.zero,i.size,i.bytes))=some (some z,size,bytes)) (hz1:z.cells.size=size) (hsz:0<size) (hby:bytes≤32)
  (base:Nat) (v:Value) (k:Nat) (xs:List Value) (hs:a.eval s=v) (hown:w.ownsRow base E size v k xs) (vx:Value) (m:Nat) (news:List Value) (hx:a.eval x=vx) (hh:Holds w vx m news) (hl:news.length=m * size)
  (h1:∀ u∈news,u.oneCell'=true) (hk:k+m≤4398046511104) (hbase:base≤w.heap.size)
  (h:∀ v' w',w'.ownsRow base E size v' (k+m) (xs++news)→w.grownBy w' v.ownBlock→(v'.ownBlock=v.ownBlock∨v'.ownBlock=some w.heap.size)→wpListIn F n Tryz.prog ops Q rest (a.put o.dst v') w') :
  wpListIn F n Tryz.prog ops Q (o::rest) a w:=by
 refine wpListIn_plain hg fun K hK'=>?_
 obtain⟨i0,hi,hz0,hzs,hz2⟩:=info_parts hinfo
 have hrun:∃ v' w',(Builtin.append_ #[T,T] o.type #[v,vx]).run Tryz.prog w=.ok v' w'∧w'.ownsRow base E size v' (k+m) (xs++news)∧w.grownBy w' v.ownBlock∧(v'.ownBlock=v.ownBlock∨v'.ownBlock=some w.heap.size):=by
  rcases hh with ⟨rfl,rfl,rfl⟩ | ⟨ad,c,rfl,_,hc⟩
  ·exact⟨v,w,run_append_owned_none (P:=Tryz.prog) (w:=w) base T o.type E i0 size hT hi v k xs hown,by simpa using hown,World.grownBy.refl _ _,.inl rfl⟩
  ·obtain⟨v',w',hr,h2,h3,_,h5⟩:=run_append_own_at (P:=Tryz.prog) w base T o.type E i0 z size bytes hT hi hz0 hzs hz2 hz1 hsz v k xs hown ad m c news hl hc h1 (by unfold maxLen;omega) (by
    have:(k+m) * bytes≤(k+m) * 32:=Nat.mul_le_mul_left _ hby
    omega) hbase
   exact⟨v',w',hr,h2,h3,h5⟩
 obtain⟨v',w',hrun,r1,r2,r3⟩:=hrun
 unfold Oper.wpIn
 refine⟨?_,?_⟩
 ·simp[Oper.about,ho,resolve,Target.leads,Sem.run_pure]
 ·rw[Oper.semAt_plain F _ _ (by rw[ho];intro c hc';cases hc')]
  simp[execOp,ho,resolve,invoke,builtin,hs,hx,hrun,Result.andThen]
  exact hK' _ _ (h v' w' r1 r2 r3)
theorem Zqa (W:World) (cs:Array Value) (e:TypeId) (k c:Nat) (hkc:k≤c):Holds (W.alloc (.cells cs e)) (.slice (some ⟨W.heap.size,0,none⟩) k c) k cs.toList:=by
 refine .inr ⟨_,_,rfl,hkc,fun j u hj=>?_⟩
 rw[add_none,Lib.cell_of_heap (_root_.Go.heap_alloc_new W _)]
 simpa using hj
structure OwnR (n₀ lo B:Nat) (t e:TypeId) (s:Nat) (v:Value) (k:Nat) (xs:List Value) (W:World):Prop where
 box:Boxed W B t v
 row:W.ownsRow n₀ e s v k xs
 far:∀ g,v.ownBlock=some g→g<lo∨lo+3≤g
section
variable {n₀ lo B:Nat} {t e:TypeId} {s:Nat} {v:Value} {k:Nat} {xs:List Value} {W:World}
theorem OwnR.alloc (h:OwnR n₀ lo B t e s v k xs W) (o:Obj):OwnR n₀ lo B t e s v k xs (W.alloc o):=⟨h.box.alloc o,h.row.alloc o,h.far⟩
theorem OwnR.appended {w1:World} {v':Value} {m:Nat} {ys:List Value} (h:OwnR n₀ lo B t e s v k xs W) (hte:t≠e) (htC:t≠45) (heC:e≠45) (hn:n₀≤B) (hB:B<lo) (hsz:lo+3≤W.heap.size)
  (hown':w1.ownsRow n₀ e s v' m ys) (hgrow:W.grownBy w1 v.ownBlock) (hp:v'.ownBlock=v.ownBlock∨v'.ownBlock=some W.heap.size) :
  Boxed w1 B t v∧OwnR n₀ lo B t e s v' m ys (w1.setCell ⟨B,0,none⟩ v')∧KeepsOthers W (w1.setCell ⟨B,0,none⟩ v')∧Kp n₀ lo W (w1.setCell ⟨B,0,none⟩ v') ∧
   ∀ (j:Nat) (cs:Array Value) (u:TypeId),W.heap[j]?=some (Obj.cells cs u (0,0))→u≠t→u≠e→(w1.setCell ⟨B,0,none⟩ v').heap[j]?=some (Obj.cells cs u (0,0)):=by
 have hv1:Boxed w1 B t v:=h.box.kept hgrow (h.box.not_row hte h.row)
 have hset:=grownBy_setCell' w1 B v'
 have hrow:∀ j,v.ownBlock=some j→∃ cur,W.heap[j]?=some (.cells cur e (0,0))∧n₀≤j:=by
  intro j ej
  rcases h.row.2 with ⟨rfl,_⟩ | ⟨g,cap,cur,rfl,hb,hgb,_⟩
  ·simp[Value.ownBlock] at ej
  ·obtain rfl:g=j:=by simpa [Value.ownBlock] using ej
   exact⟨cur,hgb,hb⟩
 have hall:∀ (j:Nat) (cs:Array Value) (u:TypeId),W.heap[j]?=some (Obj.cells cs u (0,0))→u≠t→u≠e→(w1.setCell ⟨B,0,none⟩ v').heap[j]?=some (Obj.cells cs u (0,0)):=by
  intro j cs u hj hut hue
  have hlt:=(Array.getElem?_eq_some_iff.1 hj).1
  have e1:w1.heap[j]?=W.heap[j]?:=hgrow.block j hlt (fun ej=>by
   obtain⟨cur,hc,_⟩:=hrow j ej.symm
   rw[hj] at hc
   cases hc
   exact hue rfl)
  refine (hset.block j (Nat.lt_of_lt_of_le hlt hgrow.size) (fun ej=>?_)).trans (e1.trans hj)
  cases ej
  have:=h.box
  unfold Boxed at this
  rw[hj] at this
  cases this
  exact hut rfl
 refine⟨hv1,⟨hv1.set v',hown'.kept hset (.inr (hv1.not_row hte hown').symm),fun g hg=>?_⟩,?_,⟨?_,?_,fun j cs hj=>hall j cs _ hj (Ne.symm htC) (Ne.symm heC)⟩,hall⟩
 ·rcases hp with hp | hp
  ·exact h.far g (hp ▸ hg)
  ·rw[hp] at hg
   cases hg
   exact .inr hsz
 ·refine (KeepsOthers.of_grownBy hgrow fun j o ej hj=>?_).trans (KeepsOthers.setCell _ _ _)
  obtain⟨cur,hc,_⟩:=hrow j ej
  rw[hc] at hj
  cases hj
  rfl
 ·refine ((Below.refl n₀ W).grown hgrow (by omega) fun j ej=>?_).setCell (p:=⟨B,0,none⟩) hn v'
  obtain⟨_,_,h2⟩:=hrow j ej
  exact h2
 ·intro j h1 h2
  have e1:W.heap[j]?=w1.heap[j]?:=(hgrow.block j (by omega) (fun ej=>by have:=h.far j ej.symm;omega)).symm
  rw[e1]
  exact hset.block j (Nat.lt_of_lt_of_le (by omega) hgrow.size) (fun ej=>by cases ej;omega)
theorem boxes3 (u:World) (x y z:Value) (W0:World) (h:((u.alloc (.cells #[x] 25)).alloc (.cells #[y] 3)).alloc (.cells #[z] 3)=W0) :
  W0.heap.size=u.heap.size+3∧Boxed W0 u.heap.size 25 x∧Boxed W0 (u.heap.size+1) 3 y∧Boxed W0 (u.heap.size+1+1) 3 z∧Below u.heap.size u W0:=by
 subst h
 have b1:=Boxed.new (u.alloc (.cells #[x] 25)) 3 y
 have b2:=Boxed.new ((u.alloc (.cells #[x] 25)).alloc (.cells #[y] 3)) 3 z
 rw[World.size_alloc] at b1
 rw[World.size_alloc,World.size_alloc] at b2
 exact⟨by simp,((Boxed.new u 25 x).alloc _).alloc _,b1.alloc _,b2,(((Below.refl _ u).alloc (Nat.le_refl _) _).alloc (by simp) _).alloc (by simp;omega) _⟩
theorem Zrj {β:Type} {A:Nat} {w0:World} (hn:n₀≤w0.heap.size) (hA:n₀≤A) (kk:β→Nat) (f:β→List Value):OwnFrom A (fun (x:β) W=>(∃ v,OwnR n₀ lo B t e s v (kk x) (f x) W)∧Below n₀ w0 W):=by
 refine OwnFrom.and (Own.from ?_ _) (ownFrom_below hn hA)
 have:=holdsRow_own (β:=β) n₀ B t e s kk f (fun _ v=>∀ g,v.ownBlock=some g→g<lo∨lo+3≤g)
 intro x A B row hs hg hr
 obtain⟨v,⟨h1,h2,h3⟩⟩:=hs
 obtain⟨v',q1,q2,q3⟩:=this x A B row ⟨v,h1,h2,h3⟩ hg hr
 exact⟨v',q1,q2,q3⟩
end
end

section
open Go.RowKit Go.Shelf
attribute [local go_sem] Oper.semAt_some
theorem ZwU {T E:TypeId} {z:Value} {bytes:Nat} (hT:Tryz.prog.underlying T=some (.slice E)) (hinfo:(Tryz.prog.info? E).map (fun i=>(i.zero,i.size,i.bytes))=some (some z,1,bytes)) (hby:bytes≤16) (N:Nat) (hN:N≤1099511627776) (W:World) :
  (Instr.makeSlice T (.int .i64 0) (.int .i64 (N:Int))).run Tryz.prog W=.ok (.slice (some ⟨W.heap.size,0,none⟩) 0 N) (W.alloc (.cells (madeCells z.cells N) E)):=by
 obtain⟨i0,hi,hz0,hzs,hz2⟩:=info_parts hinfo
 have h1:i0.bytes * N≤16 * 1099511627776:=by rw[hz2];exact Nat.mul_le_mul hby hN
 have hr:=run_make (P:=Tryz.prog) W T E i0 z hT hi hz0 .i64 .i64 0 (N:Int) (Int.le_refl _) (by omega) (by
  have:((i0.bytes * N:Nat):Int)≤281474976710656:=by omega
  rwa [Int.natCast_mul] at this) (by omega)
 simpa [hzs] using hr
theorem Zwj {E:TypeId} {z:Value} (N:Nat) (hN:N≤1099511627776) (W:World) {base:Nat} (hb:base≤W.heap.size):(W.alloc (.cells (madeCells z.cells N) E)).ownsRow base E 1 (.slice (some ⟨W.heap.size,0,none⟩) 0 N) 0 []:=by
 have:=World.ownsRow_made (size:=1) (e:=E) W (madeCells z.cells N) N hb (by unfold maxLen;omega) (by rw[size_madeCells,Nat.mul_one])
 exact this
theorem ZsA {n m:Int} (hn:n≤65536) (x:Pie n m):(pk x.1).length≤131072:=by
 obtain⟨x,h1,h2,h3,h4,h5,h6,h7,h8,h9,h10⟩:=x
 simp[pk]
 omega
theorem ZsJ {n m:Int} (hn:n≤65536) (pre:List (Pie n m)):(pre.flatMap fun x=>pk x.1).length≤pre.length * 131072:=by
 induction pre with
 | nil=>simp
 | cons x t ih=>have:=ZsA hn x;simp only[List.flatMap_cons,List.length_append,List.length_cons];omega
def IOwn (n₀ lo B:Nat) (v:Value) (Z:List Int) (W:World):Prop:=OwnR n₀ lo B 52 3 1 v Z.length (icells Z) W
theorem ZaQ (l:List Ch) (n m:Int) (v:Value) (w:World) (hl:HCh w v l) (hS:Script l n m) (hn:n≤65536) (hm:m≤9223372036854775807) (hlen:l.length≤1048576) :
  Calls Tryz.prog 129 #[v,.int .i64 n,.int .i64 m] w fun e w'=>∃ v' B,e=.returned (.tuple #[v',.int .i64 0])∧w.heap.size≤B∧w'.ownsRow B 3 1 v' (keepL l n m).length (icells (keepL l n m))∧Below w.heap.size w w':=by
 obtain⟨ao,ca,rfl⟩:=Holds.form hl
 have hn0:=hS.1
 have hm0:=hS.2.1
 have HS:Hid (Script l n m):=hS
 clear hS
 obtain⟨N,rfl⟩:∃ N:Nat,n=(N:Int):=⟨n.toNat,by omega⟩
 have hmk:=ZwU Tryz.underlying52 infoInt (by decide) N (by omega)
 refine (callsIn_wide (n:=3)).1 ?_
 refine callsIn_of_wp_marks Tryz.func129 rfl trivial ?_ rfl
 simp only[Tryz.ntmps129,List.size_toArray,List.length_cons,List.length_nil,Nat.reduceAdd,Nat.reduceSub,Array.replicate_succ,Array.replicate_zero,List.push_toArray,List.append_toArray,List.nil_append,List.cons_append]
 gi_wp2_with (first
  | (refine⟨trivial,?_⟩;gi_at_call 20;refine (callsIn_wide.2 (Zah l N m 0 _ w hl (by omega) (by omega) hm (Zel HS.out))).mono ?_;rintro e w1 ⟨rfl,hB1⟩)
  | (refine⟨trivial,?_⟩;gi_at_call 141;refine (callsIn_wide.2 (Zst _ _ _ _ _ _)).mono ?_;rintro e w' ⟨rfl,rfl⟩))
 obtain⟨W0,hW0⟩:∃ W0,(((((w1.alloc (Obj.cells (madeCells #[Value.int IntKind.i64 0] N) 3)).alloc (Obj.cells #[Value.slice (some { block:=w1.heap.size,off:=0 }) 0 N] 52)).alloc (Obj.cells #[Value.slice ao l.length ca] 25)).alloc (Obj.cells #[Value.int IntKind.i64 N] 3)).alloc (Obj.cells #[Value.int IntKind.i64 m] 3))=W0:=⟨_,rfl⟩
 obtain⟨hsz,b0,b1,b2,hB2⟩:=boxes3 _ _ _ _ W0 hW0
 have hsu:((w1.alloc (Obj.cells (madeCells #[Value.int IntKind.i64 0] N) 3)).alloc (Obj.cells #[Value.slice (some { block:=w1.heap.size,off:=0 }) 0 N] 52)).heap.size=w1.heap.size+1+1:=by simp
 have hrow:=Zwj (E:=3) (z:=.int .i64 0) N (by omega) w1 (Nat.le_refl w1.heap.size)
 have bK:=Boxed.new (w1.alloc (Obj.cells (madeCells #[Value.int IntKind.i64 0] N) 3)) 52 (Value.slice (some { block:=w1.heap.size,off:=0 }) 0 N)
 rw[World.size_alloc] at bK
 rw[hsu] at hsz b0 b1 b2 hB2
 have hBk:∀ k,k<w1.heap.size+1+1→W0.heap[k]?=((w1.alloc (Obj.cells (madeCells #[Value.int IntKind.i64 0] N) 3)).alloc (Obj.cells #[Value.slice (some { block:=w1.heap.size,off:=0 }) 0 N] 52)).heap[k]?:=hB2.block
 have bK0:Boxed W0 (w1.heap.size+1) 52 (Value.slice (some { block:=w1.heap.size,off:=0 }) 0 N):=(hBk _ (by omega)).trans bK
 have hrow0:W0.ownsRow w1.heap.size 3 1 (Value.slice (some { block:=w1.heap.size,off:=0 }) 0 N) 0 []:=by
  have hr1:=hrow.alloc (Obj.cells #[Value.slice (some { block:=w1.heap.size,off:=0 }) 0 N] 52)
  rw[← hW0]
  exact ((hr1.alloc _).alloc _).alloc _
 have hB0:Below w1.heap.size w1 W0:=(((Below.refl _ w1).alloc (Nat.le_refl _) _).alloc (by simp) _).trans (hB2.mono (by omega))
 clear hrow bK hBk hB2 hsu
 rw[hW0]
 refine wpIn_rangeFunc_ownH rfl (by omega) (gf:=163) (lb:=#[.pointer (some ⟨w1.heap.size+1+1,0,none⟩),.pointer (some ⟨w1.heap.size+1+1+1,0,none⟩),.pointer (some ⟨w1.heap.size+1+1+1+1,0,none⟩)]) rfl trivial (enters_of Tryz.func163 (by kernel_rfl) rfl)
  (Zsu 2 (by omega) (w1.heap.size+1+1) w1.heap.size ao ca l N m HS.out (by omega) hm (by omega) W0 (by omega) (by omega) b0 b1 b2 (HCh.keep (HCh.keep hl hB1 (Nat.le_refl _)) hB0 (Nat.le_refl _)) (fun a ha h0=>HCh.lt (HCh.keep hl hB1 (Nat.le_refl _)) a ha h0)) Kp.trans (Kp.putObj (by omega) (by omega)) (Below.refl _ _) (fun _=>rfl)
  (fun pre W=>(∃ v,OwnR w1.heap.size (w1.heap.size+1+1) (w1.heap.size+1) 52 3 1 v (pre.flatMap fun x=>pk x.1).length (icells (pre.flatMap fun x=>pk x.1)) W)∧Below w1.heap.size W0 W)
  (fun _ _ _=>False)
  (Zrj (by omega) (by omega) _ _)
  (fun _ _ _ _ _ hs _ _=>hs)
  ⟨⟨_,bK0,hrow0,fun g hg=>by simp[Value.ownBlock] at hg;omega⟩,Below.refl _ _⟩
  (fun x a' W=>∃ Bx Bc,W.heap[Bx]?=some (Obj.cells #[.int .i64 x.1.1.a,.int .i64 x.1.1.b,.int .i64 x.1.1.n] 205 (0,0))∧W.heap[Bc]?=some (Obj.cells #[.int .i64 x.1.2.A,.int .i64 x.1.2.AN,.int .i64 x.1.2.B,.int .i64 x.1.2.BN] 45 (0,0))∧a'={ tmps:=#[.slice ao l.length ca,.int .i64 N,.int .i64 m,undef,undef,undef,.slice none 0 0,.int .i64 0,.int .i64 0,.pointer (some ⟨w1.heap.size+1,0,none⟩),.pointer (some ⟨Bx,0,none⟩),.pointer (some ⟨Bc,0,none⟩),undef,.slice ao l.length ca,.int .i64 N,.int .i64 m,.int .i64 0,.int .i64 0,.bool false,undef,.int .i64 N,.bool (decide (2147483647<(N:Int))),.int .i64 N,.slice (some ⟨w1.heap.size,0,none⟩) 0 N,.slice ao l.length ca,.int .i64 N,.int .i64 m,.func (.func 163) #[] #[.pointer (some ⟨w1.heap.size+1+1,0,none⟩),.pointer (some ⟨w1.heap.size+1+1+1,0,none⟩),.pointer (some ⟨w1.heap.size+1+1+1+1,0,none⟩)],rnV x.1.1,chV x.1.2,undef,undef,undef,undef,undef,undef,undef,undef,undef,undef,undef,undef,undef,undef,undef,undef,undef,undef,undef,undef,undef,undef],defers:=[] })
  ?hAx ?assign ?body ?done ?stop
 case hAx =>
  rintro x a' _ A B row ⟨Bx,Bc,hx,hxc,rfl⟩ hg hr
  refine⟨Bx,Bc,(hg.block Bx (Array.getElem?_eq_some_iff.1 hx).1 (fun e=>?_)).trans hx,(hg.block Bc (Array.getElem?_eq_some_iff.1 hxc).1 (fun e=>?_)).trans hxc,rfl⟩
  ·obtain⟨_,o,ho,hc⟩:=hr Bx e.symm
   rw[hx] at ho
   cases ho
   cases hc
  ·obtain⟨_,o,ho,hc⟩:=hr Bc e.symm
   rw[hxc] at ho
   cases ho
   cases hc
 case assign =>
  rintro lp pre x W K ⟨⟨v,hO⟩,hB⟩ hK
  have hs:=hB.size
  simp only[rnV,chV]
  gi_wp2
  refine hK _ _ (((KeepsOthers.alloc _ _).trans (KeepsOthers.alloc _ _)).from _) ((Kp.alloc (by omega) (by omega) _).trans (Kp.alloc (by simp;omega) (by simp;omega) _)) ⟨⟨v,(hO.alloc _).alloc _⟩,(hB.alloc (by omega) _).alloc (by simp;omega) _⟩ ⟨W.heap.size,W.heap.size+1,(Below.heap_alloc _ _ _ (by simp)).trans (_root_.Go.heap_alloc_new W _),?_,rfl⟩
  have:=_root_.Go.heap_alloc_new (W.alloc (Obj.cells #[.int .i64 x.1.1.a,.int .i64 x.1.1.b,.int .i64 x.1.1.n] 205)) (Obj.cells #[.int .i64 x.1.2.A,.int .i64 x.1.2.AN,.int .i64 x.1.2.B,.int .i64 x.1.2.BN] 45)
  rw[World.size_alloc] at this
  exact this
 case body =>
  rintro lp pre x a' W hlp ⟨r,hr⟩ ⟨⟨v,hO⟩,hB⟩ ⟨Bx,Bc,hx,hxc,rfl⟩ hlt
  have hs:=hB.size
  have hbnd:=ZsJ hn pre
  obtain⟨q1,q2,q3,q4,q5,q6,q7,q8,q9,q10⟩:=x.2
  have HZ:Hid ((pre++[x]).flatMap (fun x=>pk x.1)=(pre.flatMap fun x=>pk x.1)++((List.range x.1.1.n.toNat).map (fun (i:Nat)=>x.1.1.b+(i:Int))++List.replicate x.1.2.AN.toNat (-1))):=(by show _=_;simp[pk])
  obtain⟨X,hX⟩:∃ X,(pre.flatMap fun x=>pk x.1)=X:=⟨_,rfl⟩
  rw[hX] at hO hbnd HZ
  obtain⟨cnt,hcnt⟩:∃ cnt:Nat,x.1.1.n=(cnt:Int):=⟨x.1.1.n.toNat,by omega⟩
  obtain⟨can,hcan⟩:∃ can:Nat,x.1.2.AN=(can:Int):=⟨x.1.2.AN.toNat,by omega⟩
  rw[hcnt] at hx
  rw[hcan] at hxc
  have hc:=hO.box.cell
  have x2:W.cell? ⟨Bx,2,none⟩=some (.int .i64 cnt):=by rw[Lib.cell_of_heap hx];rfl
  have hm2:x.1.1.b+x.1.1.n≤9223372036854775807:=by omega
  gi_wp2
  gi_loopw [32] (fun iv wr=>∃ (j:Nat) (v2:Value),j≤cnt∧iv=.int .i64 j∧IOwn w1.heap.size (w1.heap.size+1+1) (w1.heap.size+1) v2 (X++(List.range j).map (fun (i:Nat)=>x.1.1.b+(i:Int))) wr∧Kp w1.heap.size (w1.heap.size+1+1) W wr∧KeepsOthers W wr∧wr.heap[Bx]?=some (Obj.cells #[.int .i64 x.1.1.a,.int .i64 x.1.1.b,.int .i64 cnt] 205 (0,0))) (fun iv _=>cnt-(intOf iv).toNat)
  case atStart=>exact⟨0,v,Nat.zero_le _,rfl,by simpa [IOwn] using hO,Kp.refl _,KeepsOthers.refl _,hx⟩
  case round =>
   obtain⟨j,v2,hj,rfl,hO2,hkp,hko,hx'⟩:=hrel
   have hs2:=hkp.low.size
   unfold IOwn at hO2
   have hc2:=hO2.box.cell
   by_cases hjl:j<cnt
   ·have x1:wr.cell? ⟨Bx,1,none⟩=some (.int .i64 x.1.1.b):=by rw[Lib.cell_of_heap hx'];rfl
    have hln:(X++(List.range j).map (fun (i:Nat)=>x.1.1.b+(i:Int))).length=X.length+j:=by simp
    rw[hln] at hO2
    gi_wp2_with (gi_at_builtin;refine ZBt _ rfl (.tmp 35) (.tmp 40) 52 3 rfl (.int .i64 0) 1 8 Tryz.underlying52 infoInt rfl (by decide) (by decide) w1.heap.size v2 _ _ rfl (hO2.row.alloc _) _ 1 (icells [x.1.1.b+(j:Int)]) rfl (Zqa _ _ _ _ _ (by decide)) rfl (icells_one _) (by omega) (by simp;omega) ?_;intro v' u1 hown' hgrow hp;obtain⟨g',cap',rfl⟩:=ownsRow_succ hown';obtain⟨hv1,hO3,hk2,hp2,hal⟩:=(OwnR.alloc hO2 _).appended (by decide) (by decide) (by decide) (by omega) (by omega) (by simp;omega) hown' hgrow hp;have hc1:=hv1.cell;have hf1:=hv1.frozen)
    have hkp2:=hkp.trans ((Kp.alloc (W:=wr) (n₀:=w1.heap.size) (lo:=w1.heap.size+1+1) (by omega) (by omega) _).trans hp2)
    refine⟨⟨j+1,.slice (some ⟨g',0,none⟩) (X.length+j+1) cap',by omega,by go_num,?_,hkp2,hko.trans ((KeepsOthers.alloc wr _).trans hk2),hal _ _ _ ((Below.heap_alloc wr _ _ (Array.getElem?_eq_some_iff.1 hx').1).trans hx') (by decide) (by decide)⟩,by simp[intOf];omega⟩
    rw[← icells_append] at hO3
    unfold IOwn
    rw[List.range_succ,List.map_append,← List.append_assoc]
    simpa [Nat.add_assoc] using hO3
   ·obtain rfl:j=cnt:=by omega
    have hkc:wr.heap[Bc]?=_:=hkp.chg _ _ hxc
    have xc1:wr.cell? ⟨Bc,1,none⟩=some (.int .i64 can):=by rw[Lib.cell_of_heap hkc];rfl
    obtain⟨Y,hY⟩:∃ Y,X++(List.range j).map (fun (i:Nat)=>x.1.1.b+(i:Int))=Y:=⟨_,rfl⟩
    have hYl:Y.length≤X.length+j:=by rw[← hY];simp
    rw[hY] at hO2
    have HZ2:Hid ((pre++[x]).flatMap (fun x=>pk x.1)=Y++List.replicate can (-1)):=(by
     have h:=HZ.out
     rw[hcnt,hcan] at h
     simp only[Int.toNat_natCast] at h
     show _=_
     rw[h,← hY,List.append_assoc])
    clear HZ hY
    gi_wp2
    gi_loopw [45] (fun iv wr=>∃ (i:Nat) (v2:Value),i≤can∧iv=.int .i64 i∧IOwn w1.heap.size (w1.heap.size+1+1) (w1.heap.size+1) v2 (Y++List.replicate i (-1)) wr∧Kp w1.heap.size (w1.heap.size+1+1) W wr∧KeepsOthers W wr) (fun iv _=>can-(intOf iv).toNat)
    case atStart=>exact⟨0,v2,Nat.zero_le _,rfl,by simpa [IOwn] using hO2,hkp,hko⟩
    case round =>
     clear hO2 hc2 hs2 xc1 hkc
     obtain⟨i,v2,hi,rfl,hO2,hkp,hko⟩:=hrel
     have hs2:=hkp.low.size
     unfold IOwn at hO2
     have hc2:=hO2.box.cell
     by_cases hil:i<can
     ·have hln:(Y++List.replicate i (-1)).length=Y.length+i:=by simp
      rw[hln] at hO2
      gi_wp2_with (gi_at_builtin;refine ZBt _ rfl (.tmp 47) (.tmp 48) 52 3 rfl (.int .i64 0) 1 8 Tryz.underlying52 infoInt rfl (by decide) (by decide) w1.heap.size v2 _ _ rfl (hO2.row.alloc _) _ 1 (icells [-1]) rfl (Zqa _ _ _ _ _ (by decide)) rfl (icells_one _) (by omega) (by simp;omega) ?_;intro v' u1 hown' hgrow hp;obtain⟨g',cap',rfl⟩:=ownsRow_succ hown';obtain⟨hv1,hO3,hk2,hp2,hal⟩:=(OwnR.alloc hO2 _).appended (by decide) (by decide) (by decide) (by omega) (by omega) (by simp;omega) hown' hgrow hp;have hc1:=hv1.cell;have hf1:=hv1.frozen)
      have hkp2:=hkp.trans ((Kp.alloc (W:=wr) (n₀:=w1.heap.size) (lo:=w1.heap.size+1+1) (by omega) (by omega) _).trans hp2)
      refine⟨⟨i+1,.slice (some ⟨g',0,none⟩) (Y.length+i+1) cap',by omega,by go_num,?_,hkp2,hko.trans ((KeepsOthers.alloc wr _).trans hk2)⟩,by simp[intOf];omega⟩
      rw[← icells_append] at hO3
      unfold IOwn
      rw[List.replicate_succ',← List.append_assoc]
      simpa [Nat.add_assoc] using hO3
     ·obtain rfl:i=can:=by omega
      gi_wp2
      exact⟨hko.from _,hkp,⟨v2,by rw[HZ2.out];exact hO2⟩,hB.trans hkp.low⟩
 case done =>
  rintro D ys W hD hys ⟨⟨v,hO⟩,hB⟩ hK
  have hc:=hO.box.cell
  gi_wp2
  refine⟨by simp,.inl ⟨_,_,rfl,run_takeDeferred hK,?_⟩⟩
  have hfm:(ys.flatMap fun x=>pk x.1)=keepL l N m:=by
   unfold keepL
   rw[← hys,List.flatMap_map]
  have hrw:=ownsRow_putObj hO.row (Obj.deferred none) hK rfl
  rw[hfm] at hrw
  refine⟨_,results_tmp2 rfl _ _ _,v,w1.heap.size,rfl,hB1.size,hrw,hB1.trans (Below.mono ((hB0.trans hB).trans (belowK_b (w:=w1) (Nat.le_refl _) W D _ _ (by omega) hK rfl rfl)) hB1.size)⟩
 case stop =>
  rintro D c pre W _ _ h _
  exact h.elim
end

section
open Go.RowKit
theorem ZwD (w:World) (T E ty:TypeId) (z:Value) (size bytes:Nat) (hT:Tryz.prog.underlying T=some (.slice E)) (hinfo:(Tryz.prog.info? E).map (fun i=>(i.zero,i.size,i.bytes))=some (some z,size,bytes)) (hz1:z.cells.size=size) (hsz:0<size) (hby:bytes≤32)
  (base:Nat) (v:Value) (k:Nat) (xs:List Value) (hown:w.ownsRow base E size v k xs) (vx:Value) (m:Nat) (news:List Value) (hh:Holds w vx m news) (hl:news.length=m * size)
  (h1:∀ u∈news,u.oneCell'=true) (hk:k+m≤4398046511104) (hbase:base≤w.heap.size) :
  ∃ v' w',(Builtin.append_ #[T,T] ty #[v,vx]).run Tryz.prog w=.ok v' w'∧w'.ownsRow base E size v' (k+m) (xs++news)∧w.grownBy w' v.ownBlock∧(v'.ownBlock=v.ownBlock∨v'.ownBlock=some w.heap.size):=by
 obtain⟨i0,hi0,hz0,hzs,hz2⟩:=info_parts hinfo
 rcases hh with ⟨rfl,rfl,rfl⟩ | ⟨ad,c,rfl,_,hc⟩
 ·exact⟨v,w,run_append_owned_none (P:=Tryz.prog) (w:=w) base T ty E i0 size hT hi0 v k xs hown,by simpa using hown,World.grownBy.refl _ _,.inl rfl⟩
 ·obtain⟨v',w',hr,h2,h3,_,h5⟩:=run_append_own_at (P:=Tryz.prog) w base T ty E i0 z size bytes hT hi0 hz0 hzs hz2 hz1 hsz v k xs hown ad m c news hl hc h1 (by unfold maxLen;omega) (by
   have:(k+m) * bytes≤(k+m) * 32:=Nat.mul_le_mul_left _ hby
   omega) hbase
  exact⟨v',w',hr,h2,h3,h5⟩
theorem ZBv {ops:Array Oper} {rest:List Oper} {o:Oper} {a:Act} {Q:Exit→Act→World→Prop} (w:World) (hw:Region.wanted o (yielded ops a.tmps)=true) (s x:Operand) (T E:TypeId) (z:Value) (size bytes:Nat)
  (ho:o.op=.call { callee:=.builtin .append,args:=#[s,x],argTypes:=#[T,T] }) (hT:Tryz.prog.underlying T=some (.slice E)) (hinfo:(Tryz.prog.info? E).map (fun i=>(i.zero,i.size,i.bytes))=some (some z,size,bytes)) (hz1:z.cells.size=size) (hsz:0<size) (hby:bytes≤32)
  (base:Nat) (v:Value) (k:Nat) (xs:List Value) (hs:a.eval s=v) (hown:w.ownsRow base E size v k xs) (vx:Value) (m:Nat) (news:List Value) (hx:a.eval x=vx) (hh:Holds w vx m news) (hl:news.length=m * size)
  (h1:∀ u∈news,u.oneCell'=true) (hk:k+m≤4398046511104) (hbase:base≤w.heap.size)
  (h:∀ v' w',w'.ownsRow base E size v' (k+m) (xs++news)→w.grownBy w' v.ownBlock→wpList Tryz.prog ops Q rest (a.put o.dst v') w'):wpList Tryz.prog ops Q (o::rest) a w:=by
 refine wpList_step fun K hK=>?_
 rw[if_pos hw]
 obtain⟨v',w',hr,h2,h3,_⟩:=ZwD w T E o.type z size bytes hT hinfo hz1 hsz hby base v k xs hown vx m news hh hl h1 hk hbase
 unfold Oper.wp
 simp[execOp,ho,resolve,invoke,builtin,hs,hx,hr,Result.andThen]
 exact hK _ _ (h v' w' h2 h3)
theorem Zrx {w w':World} {base:Nat} {e:TypeId} {s:Nat} {v:Value} {n:Nat} {xs:List Value} (h:w.ownsRow base e s v n xs) (hk:Below w.heap.size w w'):w'.ownsRow base e s v n xs:=by
 refine⟨h.1,?_⟩
 rcases h.2 with h1 | ⟨g,cap,cur,q1,q2,q3,q4⟩
 ·exact .inl h1
 ·exact .inr ⟨g,cap,cur,q1,q2,(hk.block g (Array.getElem?_eq_some_iff.1 q3).1).trans q3,q4⟩
theorem owns_ge {w:World} {base:Nat} {e:TypeId} {s:Nat} {v:Value} {n:Nat} {xs:List Value} (h:w.ownsRow base e s v n xs) {j:Nat} (hj:v.ownBlock=some j):base≤j:=by
 rcases h.2 with ⟨rfl,_⟩ | ⟨g,cap,cur,rfl,hb,_⟩
 ·cases hj
 ·simp[Value.ownBlock] at hj;omega
def Low (W w:World):Prop:=Below W.heap.size W w
theorem Zou (W w:World):Low W w.drew↔Low W w:=⟨fun h=>⟨h.os,h.tape,h.output,h.size,h.block⟩,fun h=>Below.dN h 1⟩
theorem Zos {W w:World} (o:Obj) (h:Low W w):Low W (w.alloc o):=Below.alloc h (Below.size h) o
theorem Low.ch {W w:World} (h:Low W w) {b off n c:Nat} {l:List Ch} (hl:HCh W (.slice (some ⟨b,off,none⟩) n c) l) (k:Nat) (hk:k<l.length) {x:Ch} (hx:l[k]=x):w.cell? ⟨b,off+k * 4,none⟩=some (.int .i64 x.A)∧w.cell? ⟨b,off+k * 4+1,none⟩=some (.int .i64 x.AN)∧w.cell? ⟨b,off+k * 4+2,none⟩=some (.int .i64 x.B)∧w.cell? ⟨b,off+k * 4+3,none⟩=some (.int .i64 x.BN):=by
 obtain⟨b',off',e,_,hc⟩:=HCh.at (HCh.keep hl h (Nat.le_refl _)) (by omega)
 cases e
 rw[← hx]
 exact hc k hk
structure St (W:World) (e:TypeId) (s:Nat) (v:Value) (k:Nat) (xs:List Value) (w:World):Prop where
 own:w.ownsRow W.heap.size e s v k xs
 low:Below W.heap.size W w
theorem ZyT (W:World) (e:TypeId) (s:Nat) (v:Value) (k:Nat) (xs:List Value) (w:World):St W e s v k xs w.drew↔St W e s v k xs w :=
 ⟨fun h=>⟨h.own,⟨h.low.os,h.low.tape,h.low.output,h.low.size,h.low.block⟩⟩,fun h=>⟨h.own,Below.dN h.low 1⟩⟩
theorem St.grown {W:World} {e:TypeId} {s:Nat} {v v':Value} {k k':Nat} {xs xs':List Value} {w w':World} (h:St W e s v k xs w) (ho:w'.ownsRow W.heap.size e s v' k' xs') (hg:w.grownBy w' v.ownBlock):St W e s v' k' xs' w' :=
 ⟨ho,h.low.grown hg h.low.size (fun _ hj=>owns_ge h.own hj)⟩
end

section
open Go.RowKit
attribute [local simp] Zou
theorem ZbP (w:World) (o o2:Obj):((w.alloc o).alloc o2).heap[w.heap.size+1]?=some o2:=by
 have h:=_root_.Go.heap_alloc_new (w.alloc o) o2
 rw[World.size_alloc] at h
 exact h
end

section
open Go.RowKit
end

section
open Go.RowKit
def mkC (m:Mk):List Value:=[.int .u8 m.sg,.string ⟨m.tx.toArray⟩]
def mkcells (l:List Mk):List Value:=l.flatMap mkC
theorem ZpD (l:List Mk):(mkcells l).length=l.length * 2:=by
 induction l with
 | nil=>rfl
 | cons c l ih=>simp only[mkcells,List.flatMap_cons,List.length_append,List.length_cons] at ih ⊢;rw[ih];simp[mkC];omega
theorem ZpC (l:List Mk) (k:Nat) (hk:k<l.length):(mkcells l)[2 * k]?=some (.int .u8 l[k].sg)∧(mkcells l)[2 * k+1]?=some (.string ⟨l[k].tx.toArray⟩):=by
 induction l generalizing k with
 | nil=>simp at hk
 | cons c l ih =>
  cases k with
  | zero=>simp[mkcells,mkC]
  | succ k =>
   have h:=ih k (by simpa using hk)
   have e:∀ i,(mkcells (c::l))[2 * (k+1)+i]?=(mkcells l)[2 * k+i]?:=by
    intro i
    have:mkcells (c::l)=mkC c++mkcells l:=rfl
    rw[this,List.getElem?_append_right (by simp[mkC];omega)]
    congr 1
    simp[mkC];omega
   simp only[List.getElem_cons_succ]
   refine⟨by rw[← (h).1];exact e 0,by rw[← h.2];exact e 1⟩
def HMk (w:World) (v:Value) (l:List Mk):Prop:=Holds w v l.length (mkcells l)
theorem HMk.keep {w w':World} {v:Value} {l:List Mk} (h:HMk w v l) {N:Nat} (hk:Below N w w') (hN:w.heap.size≤N):HMk w' v l:=Holds.keep h fun k hk'=>hk.block k (by omega)
theorem HMk.at {w:World} {ao:Option Addr} {n c:Nat} {l:List Mk} (h:HMk w (.slice ao n c) l) (h0:0<l.length):∃ b off,ao=some ⟨b,off,none⟩∧b<w.heap.size ∧
  ∀ k (hk:k<l.length),w.cell? ⟨b,off+k * 2,none⟩=some (.int .u8 l[k].sg)∧w.cell? ⟨b,off+k * 2+1,none⟩=some (.string ⟨l[k].tx.toArray⟩):=by
 obtain⟨b,off,c',hv,hb,hc⟩:=Holds.at h (by rw[ZpD];omega)
 cases hv
 refine⟨b,off,rfl,hb,fun k hk=>?_⟩
 obtain⟨h0,h1⟩:=ZpC l k hk
 have hlen:=ZpD l
 have e:k * 2=2 * k:=by omega
 rw[e]
 refine⟨?_,?_⟩
 ·have:=hc (2 * k) (by omega)
  rw[← h0,this,List.getElem?_eq_getElem]
 ·have:=hc (2 * k+1) (by omega)
  rw[← h1,Nat.add_assoc,this,List.getElem?_eq_getElem]
theorem Low.mk {W w:World} (h:Low W w) {b off n c:Nat} {l:List Mk} (hl:HMk W (.slice (some ⟨b,off,none⟩) n c) l) (k:Nat) (hk:k<l.length) {x:Mk} (hx:l[k]=x):w.cell? ⟨b,off+k * 2,none⟩=some (.int .u8 x.sg)∧w.cell? ⟨b,off+k * 2+1,none⟩=some (.string ⟨x.tx.toArray⟩):=by
 obtain⟨b',off',e,_,hc⟩:=HMk.at (HMk.keep hl h (Nat.le_refl _)) (by omega)
 cases e
 rw[← hx]
 exact hc k hk
def hkC (h:Hk) (v:Value):List Value:=[.int .i64 h.A,.int .i64 h.AN,.int .i64 h.B,.int .i64 h.BN,v]
section
variable {u u':World} {b:Nat} {h:Hk} {v:Value}
end
def hkcells:List (Hk × Value)→List Value
 | []=>[]
 | (h,v)::l=>hkC h v++hkcells l
theorem ZkX (l:List (Hk × Value)):(hkcells l).length=l.length * 5:=by
 induction l with
 | nil=>rfl
 | cons c l ih =>
  obtain⟨h,v⟩:=c
  simp only[hkcells,List.length_append,List.length_cons]
  rw[ih]
  simp[hkC];omega
theorem ZkW (l:List (Hk × Value)) (k:Nat) (hk:k<l.length):(hkcells l)[5 * k]?=some (.int .i64 l[k].1.A)∧(hkcells l)[5 * k+1]?=some (.int .i64 l[k].1.AN)∧(hkcells l)[5 * k+2]?=some (.int .i64 l[k].1.B)∧(hkcells l)[5 * k+3]?=some (.int .i64 l[k].1.BN)∧(hkcells l)[5 * k+4]?=some l[k].2:=by
 induction l generalizing k with
 | nil=>simp at hk
 | cons c l ih =>
  obtain⟨x,y⟩:=c
  cases k with
  | zero=>simp[hkcells,hkC]
  | succ k =>
   have h:=ih k (by simpa using hk)
   have e:∀ i,(hkcells ((x,y)::l))[5 * (k+1)+i]?=(hkcells l)[5 * k+i]?:=by
    intro i
    have:hkcells ((x,y)::l)=hkC x y++hkcells l:=rfl
    rw[this,List.getElem?_append_right (by simp[hkC];omega)]
    congr 1
    simp[hkC];omega
   simp only[List.getElem_cons_succ]
   refine⟨by rw[← (h).1];exact e 0,by rw[← h.2.1];exact e 1,by rw[← h.2.2.1];exact e 2,by rw[← h.2.2.2.1];exact e 3,by rw[← h.2.2.2.2];exact e 4⟩
structure HHp (w:World) (v:Value) (p:List (Hk × Value)):Prop where
 row:Holds w v p.length (hkcells p)
 ins:∀ x∈p,HMk w x.2 x.1.ls
def HHk (w:World) (v:Value) (l:List Hk):Prop:=∃ p:List (Hk × Value),p.map (·.1)=l∧HHp w v p
theorem HHp.keep {w w':World} {v:Value} {p:List (Hk × Value)} (h:HHp w v p) {N:Nat} (hk:Below N w w') (hN:w.heap.size≤N):HHp w' v p :=
 ⟨Holds.keep h.row fun k hk'=>hk.block k (by omega),fun x hx=>HMk.keep (h.ins x hx) hk hN⟩
theorem HHk.keep {w w':World} {v:Value} {l:List Hk} (h:HHk w v l) {N:Nat} (hk:Below N w w') (hN:w.heap.size≤N):HHk w' v l:=by
 obtain⟨p,hp,h⟩:=h
 exact⟨p,hp,h.keep hk hN⟩
theorem HHp.at {w:World} {ao:Option Addr} {n c:Nat} {l:List (Hk × Value)} (h:HHp w (.slice ao n c) l) (h0:0<l.length):∃ b off,ao=some ⟨b,off,none⟩∧b<w.heap.size ∧
  ∀ k (hk:k<l.length),w.cell? ⟨b,off+k * 5,none⟩=some (.int .i64 l[k].1.A)∧w.cell? ⟨b,off+k * 5+1,none⟩=some (.int .i64 l[k].1.AN)∧w.cell? ⟨b,off+k * 5+2,none⟩=some (.int .i64 l[k].1.B)∧w.cell? ⟨b,off+k * 5+3,none⟩=some (.int .i64 l[k].1.BN)∧w.cell? ⟨b,off+k * 5+4,none⟩=some l[k].2:=by
 obtain⟨b,off,c',hv,hb,hc⟩:=Holds.at h.row (by rw[ZkX];omega)
 cases hv
 refine⟨b,off,rfl,hb,fun k hk=>?_⟩
 obtain⟨h0,h1,h2,h3,h4⟩:=ZkW l k hk
 have hlen:=ZkX l
 have e:k * 5=5 * k:=by omega
 rw[e]
 refine⟨?_,?_,?_,?_,?_⟩
 ·have:=hc (5 * k) (by omega)
  rw[← h0,this,List.getElem?_eq_getElem]
 ·have:=hc (5 * k+1) (by omega)
  rw[← h1,Nat.add_assoc,this,List.getElem?_eq_getElem]
 ·have:=hc (5 * k+2) (by omega)
  rw[← h2,Nat.add_assoc,this,List.getElem?_eq_getElem]
 ·have:=hc (5 * k+3) (by omega)
  rw[← h3,Nat.add_assoc,this,List.getElem?_eq_getElem]
 ·have:=hc (5 * k+4) (by omega)
  rw[← h4,Nat.add_assoc,this,List.getElem?_eq_getElem]
theorem HMk.form {w:World} {v:Value} {l:List Mk} (h:HMk w v l):∃ ao c,v=.slice ao l.length c:=Holds.form h
theorem Zlf (w:World) (base:Nat) (e:TypeId) (s:Nat):w.ownsRow base e s (.slice none 0 0) 0 []:=⟨by simp,.inl ⟨rfl,rfl⟩⟩
end

section
open Go.RowKit
end

section
open Go.RowKit
theorem bat (l:List UInt8) (k:Nat) (h:k<(⟨l.toArray⟩:ByteArray).size):(⟨l.toArray⟩:ByteArray)[k]'h=l[k]'(h):=rfl
attribute [local go_sem] bat ByteArray.extract_mk
theorem ZBH {n:Int} (h0:-9223372036854775808≤n) (h1:n≤9223372036854775807):IntKind.i64.wrap n=n:=by
 simp[IntKind.wrap,IntKind.bits,IntKind.signed]
 split<;>omega
end

section
open Go.RowKit
section
variable {u u':World} {b:Nat} {m:Mk}
end
end

section
open Go.RowKit
theorem Zzc {b:Bool} {X Y:Prop} (h:b=true) (hX:X):if b=true then X else Y:=by
 rw[if_pos h]
 exact hX
theorem ZjI {P:Program} {S:World→Prop} {md:Region.Mode} {ops:Array Oper} {Q:Exit→Act→World→Prop} {fuel:Nat} {listed:Array Bool} {A:Act} {w:World}
  (i d:Nat) (op:Oper) (v:Value) (hi:ops[i]?=some op) (hd:op.dst=some d) (hs:Region.noSelect ops=true) (hf:Region.free md ops listed i=true) (hr:(Region.ready md ops listed).contains i=true)
  (hQ:∀ c a w,Q (.panic c) (a.put op.dst v) w→Q (.panic c) a w) (hy:YieldsIf P ops S op v A) (hS:S w)
  (h:wpAnyH P md ops Q S fuel (listed.setIfInBounds i true) (A.put (some d) v) w):wpAnyH P md ops Q S (fuel+1) listed A w :=
 wpAnyH_take hi hs hf hr hQ hy hS (by rw[hd];exact h)
theorem ZjE {P:Program} {S:World→Prop} {md:Region.Mode} {ops:Array Oper} {Q:Exit→Act→World→Prop} {fuel:Nat} {listed:Array Bool} {A:Act} {w:World}
  (i d:Nat) (op:Oper) (hi:ops[i]?=some op) (hd:op.dst=some d) (hr:Region.ready md ops listed=[i]) (hwt:Region.wanted op (yielded ops A.tmps)=true)
  (F:Nat) (xs:Array Operand) (ts:Array TypeId) (ho:op.op=.call { callee:=.value (.func F),args:=xs,argTypes:=ts })
  (args:Array Value) (hx:xs.map A.eval=args) (hen:∀ args w,(callFunc F args).run P w=.ok (.enter F args) w) (v:Value)
  (hc:Calls P F args w fun e w'=>e=.returned v∧S w')
  (h:∀ w',S w'→wpAnyH P md ops Q S fuel (listed.setIfInBounds i true) (A.put (some d) v) w') :
  wpAnyH P md ops Q S (fuel+1) listed A w:=by
 refine wpAnyH_ready hr (by simp) (AllReadyH.cons hi (fun K hK=>?_) AllReadyH.nil)
 refine Zzc hwt ?_
 unfold Oper.wp
 have e:(execOp A.eval op).run P w=.ok (.enter F args) w:=by
  have h1:=hen args w
  simp only[execOp,ho,resolve,invoke]
  have h2:A.eval (.func F)=.func (.func F) #[] #[]:=rfl
  simp only[h2,Deferred.ofValue,Sem.run_bind,Sem.run_pure,Result.andThen_ok,hx,Array.append_empty,Array.empty_append]
  exact h1
 rw[e,Oper.upon_enter]
 refine hc.mono ?_
 rintro e w' ⟨rfl,hb⟩
 exact hK.out _ _ hb (fun hu=>by rw[hd];exact h w' hu)
theorem ZjD {P:Program} {S:World→Prop} {md:Region.Mode} {ops:Array Oper} {Q:Exit→Act→World→Prop} {fuel:Nat} {listed:Array Bool} {A:Act} {w:World}
  (i d:Nat) (op:Oper) (hi:ops[i]?=some op) (hd:op.dst=some d) (hr:Region.ready md ops listed=[i]) (hwt:Region.wanted op (yielded ops A.tmps)=true)
  (F:Nat) (x:Operand) (xs:Array Operand) (ts:Array TypeId) (ho:op.op=.call { callee:=.value x,args:=xs,argTypes:=ts })
  (cap:Array Value) (hxv:A.eval x=.func (.func F) #[] cap) (args:Array Value) (hx:xs.map A.eval=args) (hen:∀ args w,(callFunc F args).run P w=.ok (.enter F args) w) (R:Value→World→Prop)
  (hc:Calls P F (args++cap) w fun e w'=>∃ v,e=.returned v∧S w'∧R v w')
  (h:∀ v w',S w'→R v w'→wpAnyH P md ops Q S fuel (listed.setIfInBounds i true) (A.put (some d) v) w') :
  wpAnyH P md ops Q S (fuel+1) listed A w:=by
 refine wpAnyH_ready hr (by simp) (AllReadyH.cons hi (fun K hK=>?_) AllReadyH.nil)
 refine Zzc hwt ?_
 unfold Oper.wp
 have e:(execOp A.eval op).run P w=.ok (.enter F (args++cap)) w:=by
  have h1:=hen (args++cap) w
  simp only[execOp,ho,resolve,invoke]
  simp only[hxv,Deferred.ofValue,Sem.run_bind,Sem.run_pure,Result.andThen_ok,hx,Array.empty_append]
  exact h1
 rw[e,Oper.upon_enter]
 refine hc.mono ?_
 rintro e w' ⟨v,rfl,hb,hR⟩
 exact hK.out _ _ hb (fun hu=>by rw[hd];exact h v w' hu hR)
theorem ZjK {P:Program} {S:World→Prop} {md:Region.Mode} {ops:Array Oper} {Q:Exit→Act→World→Prop} {fuel:Nat} {listed:Array Bool} {A:Act} {w:World}
  (i d:Nat) (op:Oper) (hi:ops[i]?=some op) (hd:op.dst=some d) (hr:Region.ready md ops listed=[i]) (hwt:Region.wanted op (yielded ops A.tmps)=true)
  (v:Value) (w':World) (he:(execOp A.eval op).run P w=.ok (.value v) w') (hS:S w')
  (h:wpAnyH P md ops Q S fuel (listed.setIfInBounds i true) (A.put (some d) v) w') :
  wpAnyH P md ops Q S (fuel+1) listed A w:=by
 refine wpAnyH_ready hr (by simp) (AllReadyH.cons hi (fun K hK=>?_) AllReadyH.nil)
 refine Zzc hwt ?_
 unfold Oper.wp
 rw[he,Oper.upon_value]
 exact hK.out _ _ hS (fun _=>by rw[hd];exact h)
theorem ZjH {P:Program} {S:World→Prop} {md:Region.Mode} {ops:Array Oper} {Q:Exit→Act→World→Prop} {fuel:Nat} {listed:Array Bool} {A:Act} {w:World}
  (i:Nat) (op:Oper) (hi:ops[i]?=some op) (hd:op.dst=none) (hr:Region.ready md ops listed=[i]) (hwt:Region.wanted op (yielded ops A.tmps)=true)
  (w':World) (he:(execOp A.eval op).run P w=.ok .skip w') (hS:S w')
  (h:wpAnyH P md ops Q S fuel (listed.setIfInBounds i true) A w') :
  wpAnyH P md ops Q S (fuel+1) listed A w:=by
 refine wpAnyH_ready hr (by simp) (AllReadyH.cons hi (fun K hK=>?_) AllReadyH.nil)
 refine Zzc hwt ?_
 unfold Oper.wp
 rw[he,Oper.upon_skip]
 exact hK.out _ _ hS (fun _=>by rw[hd];exact h)
theorem Zok {u:World} {a:Addr} {z:Int} (h:u.cell? a=some (.int .i64 z)) {op:Oper} (x:Operand) (ho:op.op=.load 3 x) {ev:Operand→Value} (hx:ev x=.pointer (some a)) :
  (execOp ev op).run Tryz.prog u=.ok (.value (.int .i64 z)) u:=by
 simp only[execOp,ho,hx]
 go_simp
theorem Y_t {P:Program} {S:World→Prop} {md:Region.Mode} {ops:Array Oper} {Q:Exit→Act→World→Prop} {fuel:Nat} {listed:Array Bool} {A:Act} {w:World} (i d:Nat) (op:Oper) (v:Value) (hi:ops[i]?=some op) (hy:YieldsIf P ops S op v A) (hS:S w) (h:wpAnyH P md ops Q S fuel (listed.setIfInBounds i true) (A.put (some d) v) w) (hd:op.dst=some d:=by kernel_rfl) (hs:Region.noSelect ops=true:=by kernel_rfl) (hf:Region.free md ops listed i=true:=by kernel_rfl) (hr:(Region.ready md ops listed).contains i=true:=by kernel_rfl) (hQ:∀c a w,Q (.panic c) (a.put op.dst v) w→Q (.panic c) a w:=by exact fun _ _ _ h=>h):wpAnyH P md ops Q S (fuel+1) listed A w:=ZjI i d op v hi hd hs hf hr hQ hy hS h
theorem Y_v {P:Program} {S:World→Prop} {md:Region.Mode} {ops:Array Oper} {Q:Exit→Act→World→Prop} {fuel:Nat} {listed:Array Bool} {A:Act} {w:World} (i d:Nat) (op:Oper) (hi:ops[i]?=some op) (v:Value) (w':World) (he:(execOp A.eval op).run P w=.ok (.value v) w') (hS:S w') (h:wpAnyH P md ops Q S fuel (listed.setIfInBounds i true) (A.put (some d) v) w') (hd:op.dst=some d:=by kernel_rfl) (hr:Region.ready md ops listed=[i]:=by kernel_rfl) (hwt:Region.wanted op (yielded ops A.tmps)=true:=by kernel_rfl):wpAnyH P md ops Q S (fuel+1) listed A w:=ZjK i d op hi hd hr hwt v w' he hS h
theorem Y_e {P:Program} {S:World→Prop} {md:Region.Mode} {ops:Array Oper} {Q:Exit→Act→World→Prop} {fuel:Nat} {listed:Array Bool} {A:Act} {w:World} (i d:Nat) (op:Oper) (hi:ops[i]?=some op) (F:Nat) (x:Operand) (xs:Array Operand) (ts:Array TypeId) (ho:op.op=.call {callee:=.value x,args:=xs,argTypes:=ts}) (cap:Array Value) (hxv:A.eval x=.func (.func F) #[] cap) (args:Array Value) (hx:xs.map A.eval=args) (hen:∀args w,(callFunc F args).run P w=.ok (.enter F args) w) (R:Value→World→Prop) (hc:Calls P F (args++cap) w fun e w'=>∃v,e=.returned v∧S w'∧R v w') (h:∀v w',S w'→R v w'→wpAnyH P md ops Q S fuel (listed.setIfInBounds i true) (A.put (some d) v) w') (hd:op.dst=some d:=by kernel_rfl) (hr:Region.ready md ops listed=[i]:=by kernel_rfl) (hwt:Region.wanted op (yielded ops A.tmps)=true:=by kernel_rfl):wpAnyH P md ops Q S (fuel+1) listed A w:=ZjD i d op hi hd hr hwt F x xs ts ho cap hxv args hx hen R hc h
theorem Y_s {P:Program} {S:World→Prop} {md:Region.Mode} {ops:Array Oper} {Q:Exit→Act→World→Prop} {fuel:Nat} {listed:Array Bool} {A:Act} {w:World} (i:Nat) (op:Oper) (hi:ops[i]?=some op) (w':World) (he:(execOp A.eval op).run P w=.ok .skip w') (hS:S w') (h:wpAnyH P md ops Q S fuel (listed.setIfInBounds i true) A w') (hd:op.dst=none:=by kernel_rfl) (hr:Region.ready md ops listed=[i]:=by kernel_rfl) (hwt:Region.wanted op (yielded ops A.tmps)=true:=by kernel_rfl):wpAnyH P md ops Q S (fuel+1) listed A w:=ZjH i op hi hd hr hwt w' he hS h
end

section
open Go.RowKit
end

section
open Go.RowKit
theorem HHp.take {w W:World} {b off n c:Nat} {p:List (Hk × Value)} (h:HHp w (.slice (some ⟨b,off,none⟩) n c) p) (hB:Below w.heap.size w W) (k:Nat) (hk:k<p.length) {x:Hk} {y:Value} (hx:p[k]=(x,y)):(W.cell? ⟨b,off+k * 5,none⟩=some (.int .i64 x.A)∧W.cell? ⟨b,off+k * 5+1,none⟩=some (.int .i64 x.AN)∧W.cell? ⟨b,off+k * 5+2,none⟩=some (.int .i64 x.B)∧W.cell? ⟨b,off+k * 5+3,none⟩=some (.int .i64 x.BN)∧W.cell? ⟨b,off+k * 5+4,none⟩=some y)∧HMk W y x.ls:=by
 have h2:=h.keep hB (Nat.le_refl _)
 obtain⟨b',off',e,_,hc⟩:=h2.at (by omega)
 cases e
 have:=hc k hk
 rw[hx] at this
 refine⟨this,?_⟩
 have hi:=h2.ins p[k] (List.getElem_mem hk)
 rw[hx] at hi
 exact hi
end

section
open Go.RowKit
end

section
open Go.RowKit
def HkAt (u:World) (b o:Nat) (x:Hk) (y:Value):Prop:=u.cell? ⟨b,o,none⟩=some (.int .i64 x.A)∧u.cell? ⟨b,o+1,none⟩=some (.int .i64 x.AN)∧u.cell? ⟨b,o+2,none⟩=some (.int .i64 x.B)∧u.cell? ⟨b,o+3,none⟩=some (.int .i64 x.BN)∧u.cell? ⟨b,o+4,none⟩=some y
theorem HkAt.low {u u':World} {b o:Nat} {x:Hk} {y:Value} (h:HkAt u b o x y) (hB:Low u u'):HkAt u' b o x y:=by
 have key:∀ (q:Addr) (z:Value),u.cell? q=some z→u'.cell? q=some z:=fun q z hz=>(World.cell?_of_block (w:=u) (Below.block hB _ (World.block_lt_of_cell? _ _ hz))).trans hz
 exact⟨key _ _ h.1,key _ _ h.2.1,key _ _ h.2.2.1,key _ _ h.2.2.2.1,key _ _ h.2.2.2.2⟩
end

section
open Go.RowKit
structure Ls (w:World) (g n:Nat) (Z:List Int) (u:World):Prop where
 low:Below w.heap.size w u
 own:u.ownsRow w.heap.size 3 1 (.slice (some ⟨g,0,none⟩) n n) n (icells Z)
theorem Ls.drewN {w u:World} {g n:Nat} {Z:List Int} (h:Ls w g n Z u) (k:Nat):Ls w g n Z (u.drewN k):=⟨Below.dN h.low k,h.own⟩
theorem Ls.keep {w u u':World} {g n:Nat} {Z:List Int} (h:Ls w g n Z u) (hb:Below u.heap.size u u'):Ls w g n Z u':=⟨h.low.trans (hb.mono h.low.size),Zrx h.own hb⟩
theorem Ls.set {w u:World} {g n:Nat} {Z:List Int} (h:Ls w g n Z u) (k:Nat) (m:Int):Ls w g n (Z.set k m) (u.setCell ⟨g,k,none⟩ (.int .i64 m)):=by
 obtain⟨p1,g1⟩:=h.own.stored k (.int .i64 m)
 have e:(icells Z).set k (.int .i64 m)=icells (Z.set k m):=by simp[icells,List.map_set]
 rw[e] at p1
 exact⟨h.low.grown g1 h.low.size (fun j hj=>owns_ge h.own (by simpa [Value.ownBlock] using hj)),p1⟩
theorem Ls.len {w u:World} {g n:Nat} {Z:List Int} (h:Ls w g n Z u):Z.length=n:=by
 have:=h.own.1
 rw[icells_length,Nat.mul_one] at this
 exact this
theorem Ls.at {w u:World} {g n:Nat} {Z:List Int} (h:Ls w g n Z u) {k:Nat} {z:Int} (hz:Z[k]?=some z):u.cell? ⟨g,k,none⟩=some (.int .i64 z):=by
 have hl:=(List.getElem?_eq_some_iff.1 hz).1
 rw[h.len] at hl
 rw[h.own.cellAt k (by omega)]
 simp[icells,hz]
theorem Zow {w u:World} (h:Low w u) (r:Option Nat):w.grownBy u r:=⟨Below.os h,Below.tape h,Below.output h,Below.size h,fun k hk _=>Below.block h k hk⟩
theorem ZjW (u:World) (g j:Nat) (v:Value):u.grownBy (u.setCell ⟨g,j,none⟩ v) (some g):=⟨rfl,rfl,rfl,(KeepsWalks.setCell u _ v).size,fun k _ hk=>Below.heap_setCell _ _ _ k (fun e=>hk (by rw[e]))⟩
theorem ZoH {W0 u:World} {n:Nat} {K:List Int} {G:Nat} (h:Ls W0 G n K u) {g:Nat} (hg:G≠g) (hw:W0.heap.size≤g) (j:Nat) (v:Value):Ls W0 G n K (u.setCell ⟨g,j,none⟩ v) :=
 ⟨h.low.grown (ZjW u g j v) h.low.size (fun q hq=>by cases hq;exact hw),h.own.kept (ZjW u g j v) (.inr (fun e=>by simp[Value.ownBlock] at e;omega))⟩
theorem ZjV {w u:World} {r:Option Nat} (h:w.grownBy u r) {B:Nat} (hB:w.heap.size≤B) (j:Nat) (v:Value):w.grownBy (u.setCell ⟨B,j,none⟩ v) r :=
 ⟨h.os,h.tape,h.output,Nat.le_trans h.size (ZjW u B j v).size,fun k hk hn=>(heap_setCell_other u _ k _ (fun e=>by simp at e;omega)).trans (h.block k hk hn)⟩
theorem ZjU {w u:World} {r:Option Nat} (h:w.grownBy u r) (k:Nat):w.grownBy (u.drewN k) r:=⟨h.os,h.tape,h.output,h.size,h.block⟩
end

section
open Go.RowKit
theorem Zro {u:World} {base:Nat} {e:TypeId} {s:Nat} {v:Value} {n:Nat} {xs:List Value} (h:u.ownsRow base e s v n xs) {g:Nat} (hg:v.ownBlock=some g):g<u.heap.size:=by
 rcases h.2 with ⟨rfl,_⟩ | ⟨b,cap,cur,rfl,_,hb,_⟩
 ·cases hg
 ·simp[Value.ownBlock] at hg
  subst hg
  exact (Array.getElem?_eq_some_iff.1 hb).1
theorem Zrp {u:World} {base base':Nat} {e e':TypeId} {s s':Nat} {v v':Value} {n n':Nat} {xs xs':List Value} (h:u.ownsRow base e s v n xs) (h':u.ownsRow base' e' s' v' n' xs') (he:e≠e') {g:Nat} (hg:v.ownBlock=some g):v'.ownBlock≠some g:=by
 intro hg'
 rcases h.2 with ⟨rfl,_⟩ | ⟨b,cap,cur,rfl,_,hb,_⟩
 ·cases hg
 ·rcases h'.2 with ⟨rfl,_⟩ | ⟨b',cap',cur',rfl,_,hb',_⟩
  ·cases hg'
  ·simp[Value.ownBlock] at hg hg'
   subst hg hg'
   rw[hb] at hb'
   simp at hb'
   exact he hb'.2
end

section
open Go.RowKit
end

end Go.Proofs.YtkiaenncemfkcaaGreatDoor

/- A region that draws its order, in a round: ten operations that read, in whatever order, then the rest as the text has it. -/
namespace Go.Proofs.YtkiaenncemfkcaaGreatDoor
open Go.RowKit Go.Shelf
namespace R10
abbrev B10:=Fin 10→Bool
def lst (b:B10):Array Bool:=#[b 0,b 1,b 2,b 3,b 4,b 5,b 6,b 7,b 8,b 9,false,false]
def upd (b:B10) (i:Fin 10):B10:=fun j=>if j=i then true else b j
def one (c:Bool):Nat:=if c then 1 else 0
def cnt (b:B10):Nat:=one (b 0)+one (b 1)+one (b 2)+one (b 3)+one (b 4)+one (b 5)+one (b 6)+one (b 7)+one (b 8)+one (b 9)
theorem lst_upd (b:B10) (i:Fin 10):(lst b).setIfInBounds i.1 true=lst (upd b i):=by
 rcases i with ⟨i,hi⟩
 rcases (by omega:i=0∨i=1∨i=2∨i=3∨i=4∨i=5∨i=6∨i=7∨i=8∨i=9) with rfl | rfl | rfl | rfl | rfl | rfl | rfl | rfl | rfl | rfl<;>simp[lst,upd]
theorem cnt_upd (b:B10) (i:Fin 10) (h:b i=false):cnt (upd b i)=cnt b+1:=by
 rcases i with ⟨i,hi⟩
 rcases (by omega:i=0∨i=1∨i=2∨i=3∨i=4∨i=5∨i=6∨i=7∨i=8∨i=9) with rfl | rfl | rfl | rfl | rfl | rfl | rfl | rfl | rfl | rfl<;>(simp only[Fin.isValue,Fin.mk_zero,Fin.mk_one,Fin.reduceFinMk] at h;simp[cnt,upd,one,h];try omega)
theorem one_le (c:Bool):one c≤1:=by cases c<;>simp[one]
theorem cnt_le (b:B10):cnt b≤10:=by
 have:=fun i=>one_le (b i)
 have h0:=this 0;have h1:=this 1;have h2:=this 2;have h3:=this 3;have h4:=this 4;have h5:=this 5;have h6:=this 6;have h7:=this 7;have h8:=this 8;have h9:=this 9
 unfold cnt
 omega
def deps:Fin 10→List (Fin 10)
 | 3=>[2]
 | 5=>[4]
 | 7=>[6]
 | 8=>[5,7]
 | 9=>[1,3,8]
 | _=>[]
def closedB (b:B10):Bool:=(List.finRange 10).all fun i=>!(b i) || (deps i).all b
theorem closed_upd (b:B10) (i:Fin 10) (h:closedB b=true) (hd:∀ j∈deps i,b j=true):closedB (upd b i)=true:=by
 simp only[closedB,List.all_eq_true,List.mem_finRange,Bool.or_eq_true,Bool.not_eq_true',forall_const] at h ⊢
 intro k
 have hup:∀ j,b j=true→upd b i j=true:=fun j hj=>by unfold upd;split<;>simp_all
 by_cases hk:k=i
 ·exact .inr fun j hj=>hup j (hd j (hk ▸ hj))
 ·rcases h k with h1 | h1
  ·left
   unfold upd
   rw[if_neg hk]
   exact h1
  ·exact .inr fun j hj=>hup j (h1 j hj)
def chkReady (ops:Array Oper) (b:B10):Bool :=
 !(closedB b) || !(Region.ready .any ops (lst b)).isEmpty && (Region.ready .any ops (lst b)).all fun i =>
  if h:i<10 then !(b ⟨i,h⟩) && (deps ⟨i,h⟩).all b else i == 10 && (List.finRange 10).all b
theorem wpOpIn_yield {F:Fence} {n:Nat} {P:Program} {ops:Array Oper} {Q:Exit→Act→World→Prop} {i:Nat} {o:Oper} {K:Act→World→Prop} {a:Act} {w:World} {v:Value} (ho:ops[i]?=some o) (hg:o.guard=none) (hnd:∀ c,o.op≠.defer c)
  (hab:o.about P w a.eval=none) (hrun:(execOp a.eval o).run P w=.ok (.value v) w) (hK:K (a.put o.dst v) w):wpOpIn F n P ops Q i K a w:=by
 unfold wpOpIn
 simp only[ho]
 have hw:Region.wanted o (yielded ops a.tmps)=true:=by simp[Region.wanted,hg]
 rw[if_pos hw]
 refine⟨fun f hf=>(by rw[hab] at hf;cases hf),?_⟩
 rw[Oper.semAt_plain F _ _ hnd,hrun]
 exact hK
def mk10 (b0 b1 b2 b3 b4 b5 b6 b7 b8 b9:Bool):B10:=fun i=>match i with
 | 0=>b0 | 1=>b1 | 2=>b2 | 3=>b3 | 4=>b4 | 5=>b5 | 6=>b6 | 7=>b7 | 8=>b8 | 9=>b9
theorem Zpt (b:B10):b=mk10 (b 0) (b 1) (b 2) (b 3) (b 4) (b 5) (b 6) (b 7) (b 8) (b 9):=by
 funext ⟨i,hi⟩
 rcases (by omega:i=0∨i=1∨i=2∨i=3∨i=4∨i=5∨i=6∨i=7∨i=8∨i=9) with rfl | rfl | rfl | rfl | rfl | rfl | rfl | rfl | rfl | rfl<;>rfl
theorem chk_all {ops:Array Oper} (h:∀ b0 b1 b2 b3 b4 b5 b6 b7 b8 b9:Bool,chkReady ops (mk10 b0 b1 b2 b3 b4 b5 b6 b7 b8 b9)=true) (b:B10):chkReady ops b=true:=by
 rw[Zpt b]
 exact h _ _ _ _ _ _ _ _ _ _
end R10
end Go.Proofs.YtkiaenncemfkcaaGreatDoor

namespace Go.Proofs.YtkiaenncemfkcaaGreatDoor

section
open Go.RowKit Go.Shelf
open R10
attribute [local go_sem] Oper.semAt_some
theorem ZfO (A:List (List UInt8)) (i n:Int) (j:Nat) (u:Value) (h:(scells (cut A i n))[j]?=some u):(scells A)[i.toNat+j]?=some u∧j<n.toNat:=by
 simp only[scells,cut,List.getElem?_map,List.getElem?_take,List.getElem?_drop] at h ⊢
 split at h
 ·exact⟨h,by assumption⟩
 ·simp at h
theorem ZfV (A:List (List UInt8)) (i n:Int) (h0:0≤i) (h1:0≤n) (h2:i+n≤A.length):(cut A i n).length=n.toNat:=by
 simp[cut];omega
theorem ZwM (A:List (List UInt8)) (ao:Option Addr) (cap:Nat) (i n:Int) (h0:0≤i) (h1:0≤n) (h2:i+n≤A.length) (w:World) (hA:HS w (.slice ao A.length cap) A) :
  ∃ vs,(∀ u:World,(Instr.slice 23 (.slice ao A.length cap) (some (.int .i64 i)) (some (.int .i64 (i+n))) none).run Tryz.prog u=.ok vs u)∧(∀ u:World,HS u (.slice ao A.length cap) A→HS u vs (cut A i n)):=by
 have hnc:A.length≤cap∧(ao=none→A=[]):=by
  rcases hA with ⟨h,h3,_⟩ | ⟨ad,c,h,h3,_⟩
  ·exact⟨by omega,fun _=>List.eq_nil_of_length_eq_zero h3⟩
  ·cases h
   exact⟨h3,fun h=>by cases h⟩
 refine⟨.slice (if cap=i.toNat then ao else ao.map (·.add i.toNat)) n.toNat (cap-i.toNat),fun u=>?_,fun u hu=>?_⟩
 ·rw[run_slice_lh (P:=Tryz.prog) u 23 ao A.length cap (by kernel_rfl) .i64 .i64 i (i+n) h0 (by omega) (by omega)]
  have:(sizeOf (Tryz.prog.elem 23)).run Tryz.prog u=.ok 1 u:=by kernel_rfl
  rw[this]
  simp only[Result.andThen,sliced,Nat.mul_one]
  congr 2
  omega
 ·unfold HS
  rw[ZfV A i n h0 h1 h2]
  cases ao with
  | none =>
   have hA0:=hnc.2 rfl
   subst hA0
   have:i=0:=by simp at h2;omega
   subst this
   have:n=0:=by simp at h2;omega
   subst this
   refine .inl ⟨?_,rfl,by simp[cut,scells]⟩
   rcases hA with ⟨h,h3,_⟩ | ⟨ad,c,h,h3,_⟩
   ·cases h;simp
   ·cases h
  | some ad =>
   refine .inr ⟨if cap=i.toNat then ad else ad.add i.toNat,cap-i.toNat,by split<;>simp,by omega,fun j x hj=>?_⟩
   obtain⟨h4,h5⟩:=ZfO A i n j x hj
   rcases hu with ⟨h,_⟩ | ⟨ad',c,h,h3,hc⟩
   ·cases h
   ·cases h
    have:=hc _ _ h4
    rw[if_neg (by omega)]
    obtain⟨b,off,rfl⟩:=addr_of (hc 0 _ (List.getElem?_eq_getElem (by rw[scells_length];omega)))
    rw[add_none] at this
    rw[add_none,add_none,Nat.add_assoc]
    exact this
end

section
open Go.RowKit
theorem SameS_any (va vb:Value) (l:List (List UInt8)) (w:World) (hlen:l.length≤4398046511104) (ha:HS w va l) (hb:HS w vb l) :
  Calls Tryz.prog 16 #[va,vb] w fun e w'=>e=.returned (.bool true)∧Below w.heap.size w w':=by
 obtain⟨ao,ca,rfl⟩:=Holds.form ha
 obtain⟨bo,cb,rfl⟩:=Holds.form hb
 go_enter Tryz.func16,Tryz.ntmps16
 go_wp2
 go_loopw [5] (fun i wr=>∃ k m:Nat,k≤l.length∧i=.int .i64 k∧wr=w.drewN m) (fun i _=>l.length-(intOf i).toNat)
 case atStart=>exact⟨0,0,Nat.zero_le _,rfl,rfl⟩
 case round =>
  obtain⟨k,m,hk,rfl,rfl⟩:=hrel
  by_cases hlt:k<l.length
  ·obtain⟨b1,o1,rfl,_,hc1⟩:=HS.at ha (by omega)
   obtain⟨b2,o2,rfl,_,hc2⟩:=HS.at hb (by omega)
   have d1:=hc1 k hlt
   have d2:=hc2 k hlt
   clear hc1 hc2
   have i1:0≤(k:Int):=by omega
   have i2:(k:Int)<(l.length:Int):=by omega
   go_wp2_with fail
   go_quiet (fail)
   go_wp2
   go_roundw
   case rel=>exact⟨k+1,_,by omega,by go_num,rfl⟩
   case measure=>simp[intOf];omega
  ·go_wp2
   go_ret
   exact⟨rfl,Below.dN (Below.refl _ w) _⟩
end

section
open Go.RowKit
section
variable {w:World} {q:Hk} {ov ov' av av':Value} {x x' y y':List Mk} {u u':World}
theorem Zrn {e:TypeId} {s B:Nat} {v:Value} {n:Nat} {xs:List Value} (ho:u.ownsRow B e s v n xs) {g:Option Nat} (hg:u.grownBy u' g) (hne:∀ k,g=some k→v.ownBlock≠some k):u'.ownsRow B e s v n xs:=by
 refine⟨ho.1,?_⟩
 rcases ho.2 with q | ⟨b,cap,cur,rfl,q2,q3,q4⟩
 ·exact .inl q
 ·refine .inr ⟨b,cap,cur,rfl,q2,?_,q4⟩
  rw[hg.block b (Array.getElem?_eq_some_iff.1 q3).1 (fun e=>hne b e.symm rfl)]
  exact q3
end
end

section
open Go.RowKit
section
variable {u:World} {b:Nat} {A AN B BN:Int} {ls:List Mk} {v:Value}
end
end

section
open Go.RowKit
def chO (c:Ch):Obj:=.cells #[.int .i64 c.A,.int .i64 c.AN,.int .i64 c.B,.int .i64 c.BN] 45
def Cx (u:World) (b:Nat) (c:Ch):Prop:=u.heap[b]?=some (chO c)
section
variable {u u':World} {b:Nat} {c:Ch}
theorem Cx.cells (q:Cx u b c):u.cell? ⟨b,0,none⟩=some (.int .i64 c.A)∧u.cell? ⟨b,1,none⟩=some (.int .i64 c.AN)∧u.cell? ⟨b,2,none⟩=some (.int .i64 c.B)∧u.cell? ⟨b,3,none⟩=some (.int .i64 c.BN):=by
 unfold Cx chO at q
 refine⟨?_,?_,?_,?_⟩<;>rw[Lib.cell_of_heap q]<;>rfl
theorem Cx.lt (q:Cx u b c):b<u.heap.size:=(Array.getElem?_eq_some_iff.1 q).1
theorem Cx.low (q:Cx u b c) (hg:Below u.heap.size u u'):Cx u' b c:=(hg.block b q.lt).trans q
theorem Cx.new (w:World) (c:Ch):Cx (w.alloc (chO c)) w.heap.size c:=_root_.Go.heap_alloc_new w _
end
def ChAt (u:World) (b o:Nat) (x:Ch):Prop:=u.cell? ⟨b,o,none⟩=some (.int .i64 x.A)∧u.cell? ⟨b,o+1,none⟩=some (.int .i64 x.AN)∧u.cell? ⟨b,o+2,none⟩=some (.int .i64 x.B)∧u.cell? ⟨b,o+3,none⟩=some (.int .i64 x.BN)
theorem Zky {u u':World} (hB:Low u u') {q:Addr} {z:Value} (hz:u.cell? q=some z):u'.cell? q=some z:=(World.cell?_of_block (w:=u) (Below.block hB _ (World.block_lt_of_cell? _ _ hz))).trans hz
theorem ChAt.low {u u':World} {b o:Nat} {x:Ch} (h:ChAt u b o x) (hB:Low u u'):ChAt u' b o x:=⟨Zky hB h.1,Zky hB h.2.1,Zky hB h.2.2.1,Zky hB h.2.2.2⟩
theorem Cx.keep {u u':World} {b:Nat} {c:Ch} (q:Cx u b c) {g:Option Nat} (hg:u.grownBy u' g) (hr:some b≠g):Cx u' b c:=(hg.block b q.lt hr).trans q
end

section
open Go.RowKit
def tot:List Hk→Nat
 | []=>0
 | h::l=>h.ls.length+tot l
theorem Zlo {u:World} {B:Nat} {e:TypeId} {s:Nat} {oo:Option Addr} {n oc:Nat} {xs:List Value} (h:u.ownsRow B e s (.slice oo (n+1) oc) (n+1) xs):∃ g,oo=some ⟨g,0,none⟩:=by
 rcases h.2 with ⟨_,h0⟩ | ⟨g,cap,cur,e,_⟩
 ·omega
 ·cases e
  exact⟨g,rfl⟩
end

section
open Go.RowKit
structure Gr (w:World) (ov:Value) (G:List (List Ch × Value)) (u:World):Prop where
 low:Below w.heap.size w u
 own:u.ownsRow w.heap.size 25 1 ov G.length (G.map (·.2))
 ins:∀ x∈G,u.ownsRow w.heap.size 45 4 x.2 x.1.length (chcells x.1)
def Lst (G:List (List Ch × Value)):Prop:=∀ P x,G=P++[x]→∀ y∈P,∀ b,x.2.ownBlock=some b→y.2.ownBlock≠some b
section
variable {w u u':World} {ov ov':Value} {G P:List (List Ch × Value)}
theorem Gr.nil (w:World):Gr w (.slice none 0 0) [] w:=⟨Below.refl _ _,Zlf _ _ _ _,fun _ h=>by cases h⟩
theorem Gr.alloc (h:Gr w ov G u) (o:Obj):Gr w ov G (u.alloc o):=⟨h.low.alloc h.low.size o,h.own.alloc o,fun x hx=>(h.ins x hx).alloc o⟩
theorem Gr.drewN (h:Gr w ov G u) (n:Nat):Gr w ov G (u.drewN n):=⟨Below.dN h.low n,h.own,h.ins⟩
theorem Gr.keep (h:Gr w ov G u) (hk:Below u.heap.size u u'):Gr w ov G u':=⟨h.low.trans (hk.mono h.low.size),Zrx h.own hk,fun x hx=>Zrx (h.ins x hx) hk⟩
theorem Gr.more (h:Gr w ov G u) {g:List Ch} {gv:Value} (hgv:u.ownsRow w.heap.size 45 4 gv g.length (chcells g)) (hg:u.grownBy u' ov.ownBlock) (ho:u'.ownsRow w.heap.size 25 1 ov' (G.length+1) (G.map (·.2)++[gv])):Gr w ov' (G++[(g,gv)]) u':=by
 have key:∀ {v:Value} {n:Nat} {xs:List Value},u.ownsRow w.heap.size 45 4 v n xs→u'.ownsRow w.heap.size 45 4 v n xs:=fun hv=>Zrn hv hg (fun k hk=>Zrp h.own hv (by decide) hk)
 refine⟨h.low.grown hg h.low.size (fun j hj=>owns_ge h.own hj),?_,fun z hz=>?_⟩
 ·rw[List.length_append,List.map_append]
  exact ho
 ·rcases List.mem_append.1 hz with hz | hz
  ·exact key (h.ins z hz)
  ·rw[List.mem_singleton.1 hz]
   exact key hgv
theorem Gr.last {g g':List Ch} {gv gv':Value} (h:Gr w ov (P++[(g,gv)]) u) (hL:Lst (P++[(g,gv)])) (hg:u.grownBy u' gv.ownBlock) (ho:u'.ownsRow w.heap.size 45 4 gv' g'.length (chcells g')) (hb:gv'.ownBlock=gv.ownBlock∨gv'.ownBlock=some u.heap.size) :
  ∃ q cap,ov=.slice (some ⟨q,0,none⟩) (P.length+1) cap∧u'.cell? ⟨q,P.length,none⟩=some gv∧u'.frozen? ⟨q,P.length,none⟩=false∧Gr w ov (P++[(g',gv')]) (u'.setCell ⟨q,P.length,none⟩ gv')∧Lst (P++[(g',gv')]):=by
 have hown:=h.own
 rw[List.length_append,List.length_singleton] at hown
 have hgl:=h.ins (g,gv) (by simp)
 obtain⟨oo,oc,hov⟩:=(holds_of hown).form
 subst hov
 obtain⟨q,rfl⟩:=Zlo hown
 have hown':=Zrn hown hg (fun k hk=>Zrp hgl hown (by decide) hk)
 have hst:=hown'.stored P.length gv'
 have hset:((P++[(g,gv)]).map (·.2)).set P.length gv'=(P++[(g',gv')]).map (·.2):=by simp
 rw[hset] at hst
 have hlow:Below w.heap.size w u':=h.low.grown hg h.low.size (fun j hj=>owns_ge hgl hj)
 refine⟨q,oc,rfl,?_,hown'.frozenAt _,⟨hlow.grown hst.2 hlow.size (fun j hj=>by cases hj;exact owns_ge hown rfl),?_,?_⟩,?_⟩
 ·rw[hown'.cellAt P.length (by omega)]
  simp
 ·rw[List.length_append,List.length_singleton]
  exact hst.1
 ·intro x hx
  have hqx:∀ {v:Value} {n:Nat} {xs:List Value},u'.ownsRow w.heap.size 45 4 v n xs→(u'.setCell ⟨q,P.length,none⟩ gv').ownsRow w.heap.size 45 4 v n xs:=fun hv=>Zrn hv hst.2 (fun k hk=>Zrp hown' hv (by decide) hk)
  rcases List.mem_append.1 hx with hx | hx
  ·exact hqx (Zrn (h.ins x (List.mem_append_left _ hx)) hg (fun k hk=>hL P (g,gv) rfl x hx k hk))
  ·rw[List.mem_singleton.1 hx]
   exact hqx ho
 ·intro P' x' he y hy b' hb'
  have he2:=List.append_inj' he rfl
  obtain⟨rfl,hx'⟩:=he2
  have hx2:(g',gv')=x':=by simpa using hx'
  subst hx2
  rcases hb with hb | hb
  ·rw[hb] at hb'
   exact hL P (g,gv) rfl y hy b' hb'
  ·rw[hb] at hb'
   cases hb'
   intro e
   have:=Zro (h.ins y (List.mem_append_left _ hy)) e
   omega
end
end

section
open Go.RowKit
end

section
open Go.RowKit
attribute [local simp] ZyT Zou
theorem ZwO (A:List (List UInt8)) (ao:Option Addr) (cap:Nat) (i h:Int) (h0:0≤i) (h1:i≤h) (h2:h≤A.length) (w:World) (hA:HS w (.slice ao A.length cap) A) :
  ∃ vo vc,(∀ u:World,(Instr.slice 23 (.slice ao A.length cap) (some (.int .i64 i)) (some (.int .i64 h)) none).run Tryz.prog u=.ok (.slice vo (cut A i (h-i)).length vc) u)∧(∀ u:World,HS u (.slice ao A.length cap) A→HS u (.slice vo (cut A i (h-i)).length vc) (cut A i (h-i))):=by
 obtain⟨vs,h3,h4⟩:=ZwM A ao cap i (h-i) h0 (by omega) (by omega) w hA
 obtain⟨vo,vc,rfl⟩:=Holds.form (h4 w hA)
 have e:i+(h-i)=h:=by omega
 rw[e] at h3
 exact⟨vo,vc,h3,h4⟩
theorem ZwN (A:List (List UInt8)) (ao:Option Addr) (cap:Nat) (i:Int) (h0:0≤i) (h1:i≤A.length) (w:World) (hA:HS w (.slice ao A.length cap) A) :
  ∃ vo vc,(∀ u:World,(Instr.slice 23 (.slice ao A.length cap) (some (.int .i64 i)) none none).run Tryz.prog u=.ok (.slice vo (cut A i (A.length-i)).length vc) u)∧(∀ u:World,HS u (.slice ao A.length cap) A→HS u (.slice vo (cut A i (A.length-i)).length vc) (cut A i (A.length-i))):=by
 obtain⟨vo,vc,h3,h4⟩:=ZwO A ao cap i A.length h0 h1 (Int.le_refl _) w hA
 refine⟨vo,vc,fun u=>?_,h4⟩
 rw[← h3 u]
 have hcap:A.length≤cap:=by
  rcases hA with ⟨h,h3,_⟩ | ⟨ad,c,h,h3,_⟩
  ·omega
  ·cases h;exact h3
 rw[run_slice_l (P:=Tryz.prog) u 23 ao A.length cap (by kernel_rfl) .i64 i h0 h1,run_slice_lh (P:=Tryz.prog) u 23 ao A.length cap (by kernel_rfl) .i64 .i64 i A.length h0 h1 (by omega)]
 simp
end

section
open Go.RowKit
section
variable {w u u':World} {q:Hk} {ov ov':Value} {x':List Mk}
end
end

section
open Go.RowKit
end

section
open Go.RowKit
theorem Gr.at {w W u:World} {oo:Option Addr} {n oc:Nat} {G:List (List Ch × Value)} (h:Gr w (.slice oo n oc) G W) (hB:Below W.heap.size W u) {i:Nat} (hi:i<G.length) {g:List Ch} {gv:Value} (hg:G[i]=(g,gv)):∃ q,oo=some ⟨q,0,none⟩∧u.cell? ⟨q,i,none⟩=some gv∧HCh u gv g:=by
 have hh:=holds_of h.own
 obtain⟨b,off,c',hv,hb,hc⟩:=Holds.at hh (by simp;omega)
 rcases h.own.2 with ⟨_,h0⟩ | ⟨q,cap,cur,e,_⟩
 ·omega
 ·cases e
  cases hv
  refine⟨_,rfl,?_,?_⟩
  ·have h1:=hc i (by simpa using hi)
   rw[Nat.zero_add] at h1
   refine Zky hB ?_
   rw[h1]
   simp[hg]
  ·have hin:=h.ins (g,gv) (by rw[← hg];exact List.getElem_mem hi)
   exact HCh.keep (holds_of hin) hB (Nat.le_refl _)
end

section
open Go.RowKit
end

section
open Go.RowKit
end

section
structure Pr where
 X:Int
 Y:Int
abbrev ab (p q:Pr):Prop:=q.X<p.X∧q.Y<p.Y
theorem Zbm {p q r:Pr} (h:ab p q) (h':ab q r):ab p r:=⟨Int.lt_trans h'.1 h.1,Int.lt_trans h'.2 h.2⟩
def mxl (p:Pr):List Pr→List Nat→Nat
 | t::ts,n::ns=>if ab t p then max n (mxl p ts ns) else mxl p ts ns
 | _,_=>0
def rl:List Pr→List Nat
 | []=>[]
 | p::t=>(mxl p t (rl t)+1)::rl t
theorem ZvS (l:List Pr):(rl l).length=l.length:=by
 induction l with
 | nil=>rfl
 | cons p t ih=>simp[rl,ih]
theorem ZpM (p:Pr) (t:List Pr) (ns:List Nat) (k:Nat) (q:Pr) (n:Nat) (hq:t[k]?=some q) (hn:ns[k]?=some n) (ha:ab q p):n≤mxl p t ns:=by
 induction t generalizing ns k with
 | nil=>simp at hq
 | cons a t ih =>
  cases ns with
  | nil=>simp at hn
  | cons b ns =>
   rw[mxl]
   cases k with
   | zero =>
    simp at hq hn
    subst hq hn
    rw[if_pos ha]
    omega
   | succ k =>
    have:=ih ns k (by simpa using hq) (by simpa using hn)
    split<;>omega
theorem ZpL (p:Pr) (t:List Pr) (ns:List Nat) (h:0<mxl p t ns):∃ (k:Nat) (q:Pr),t[k]?=some q∧ns[k]?=some (mxl p t ns)∧ab q p:=by
 induction t generalizing ns with
 | nil=>simp[mxl] at h
 | cons a t ih =>
  cases ns with
  | nil=>simp[mxl] at h
  | cons b ns =>
   rw[mxl] at h ⊢
   by_cases ha:ab a p
   ·rw[if_pos ha] at h ⊢
    by_cases hb:mxl p t ns≤b
    ·exact⟨0,a,rfl,by simp;omega,ha⟩
    ·obtain⟨k,q,h1,h2,h3⟩:=ih ns (by omega)
     exact⟨k+1,q,by simpa using h1,by simp[h2];omega,h3⟩
   ·rw[if_neg ha] at h ⊢
    obtain⟨k,q,h1,h2,h3⟩:=ih ns h
    exact⟨k+1,q,by simpa using h1,by simpa using h2,h3⟩
def Hd (t:List Pr) (n:Nat) (p:Pr):Prop:=∃ (k:Nat) (q:Pr),t[k]?=some q∧(rl t)[k]?=some (n+1)∧ab q p
theorem Hd.down {t:List Pr} {n:Nat} {p:Pr} (h:Hd t (n+1) p):Hd t n p:=by
 obtain⟨k,q,h1,h2,h3⟩:=h
 induction t generalizing k with
 | nil=>simp at h1
 | cons a t ih =>
  cases k with
  | zero =>
   simp[rl] at h1 h2
   subst h1
   obtain⟨j,r,g1,g2,g3⟩:=ZpL a t (rl t) (by omega)
   exact⟨j+1,r,by simpa using g1,by simp[rl,g2,h2],Zbm g3 h3⟩
  | succ k =>
   obtain⟨j,r,g1,g2,g3⟩:=ih k (by simpa using h1) (by simpa [rl] using h2)
   exact⟨j+1,r,by simpa using g1,by simpa [rl] using g2,g3⟩
theorem Hd.downs {t : List Pr} {n m : Nat} {p : Pr} (h : Hd t n p) (hm : m ≤ n) : Hd t m p := by
  induction n with
  | zero => obtain rfl : m = 0 := by omega
            exact h
  | succ n ih =>
    by_cases e : m = n + 1
    · subst e; exact h
    · exact ih h.down (by omega)
def Stair (h:List Pr):Prop:=h.Pairwise fun a b=>b.X≤a.X∧a.Y≤b.Y
structure Hds (t:List Pr) (H:List (List Pr)):Prop where
 st:∀ h∈H,Stair h
 eq:∀ n h,H[n]?=some h→∀ p,(∃ a∈h,ab a p)↔Hd t n p
 top:∀ n∈rl t,n≤H.length
theorem Hds.start:Hds [] []:=⟨by simp,by simp,by simp[rl]⟩
theorem Hds.beyond {t:List Pr} {H:List (List Pr)} (h:Hds t H) {n:Nat} (hn:H.length≤n) (p:Pr):¬ Hd t n p:=by
 rintro⟨k,q,h1,h2,h3⟩
 have:=h.top (n+1) (List.mem_of_getElem? h2)
 omega
theorem ZpP {t:List Pr} {H:List (List Pr)} (_h:Hds t H) {p:Pr} {n:Nat} (h1:∀ m,m<n→Hd t m p) (h2:¬ Hd t n p):mxl p t (rl t)=n:=by
 have hle:mxl p t (rl t)≤n:=by
  by_cases hc:mxl p t (rl t)≤n
  ·exact hc
  ·exfalso
   obtain⟨k,q,g1,g2,g3⟩:=ZpL p t (rl t) (by omega)
   have:Hd t (mxl p t (rl t)-1) p:=⟨k,q,g1,by rw[g2];congr 1;omega,g3⟩
   exact h2 (this.downs (by omega))
 cases n with
 | zero=>omega
 | succ n =>
  obtain⟨k,q,g1,g2,g3⟩:=h1 n (Nat.lt_succ_self n)
  have:=ZpM p t (rl t) k q (n+1) g1 g2 g3
  omega
def upto (h:List Pr) (x:Int):Nat:=h.findIdx fun a=>decide (a.X≤x)
def grt (h:List Pr) (y:Int):Nat:=h.findIdx fun a=>decide (y<a.Y)
def ins (h:List Pr) (p:Pr):List Pr:=h.take (upto h p.X)++p::h.drop (grt h p.Y)
theorem ZAK (h:List Pr) (x:Int):upto h x≤h.length:=List.findIdx_le_length
theorem Zkn (h:List Pr) (y:Int):grt h y≤h.length:=List.findIdx_le_length
theorem ZAL {h:List Pr} {x:Int} {i:Nat} (hi:i<upto h x) (hl:i<h.length):x<h[i].X:=by
 have:=List.not_of_lt_findIdx (p:=fun a:Pr=>decide (a.X≤x)) (xs:=h) hi
 simpa using this
theorem ZAI {h:List Pr} (hs:Stair h) {x:Int} {i:Nat} (hi:upto h x≤i) (hl:i<h.length):h[i].X≤x:=by
 have h0:upto h x<h.length:=by omega
 have h1:h[upto h x].X≤x:=of_decide_eq_true (List.findIdx_getElem (p:=fun a:Pr=>decide (a.X≤x)) (xs:=h) (w:=h0))
 by_cases e:upto h x=i
 ·simpa [e] using h1
 ·have:=(List.pairwise_iff_getElem.1 hs) (upto h x) i h0 hl (by omega)
  omega
theorem Zko {h:List Pr} {y:Int} {i:Nat} (hi:i<grt h y) (hl:i<h.length):h[i].Y≤y:=by
 have:=List.not_of_lt_findIdx (p:=fun a:Pr=>decide (y<a.Y)) (xs:=h) hi
 simpa using this
theorem Zkm {h:List Pr} (hs:Stair h) {y:Int} {i:Nat} (hi:grt h y≤i) (hl:i<h.length):y<h[i].Y:=by
 have h0:grt h y<h.length:=by omega
 have h1:y<h[grt h y].Y:=of_decide_eq_true (List.findIdx_getElem (p:=fun a:Pr=>decide (y<a.Y)) (xs:=h) (w:=h0))
 by_cases e:grt h y=i
 ·simpa [e] using h1
 ·have:=(List.pairwise_iff_getElem.1 hs) (grt h y) i h0 hl (by omega)
  omega
theorem ZcA {h:List Pr} (hs:Stair h) (p:Pr):(∃ a∈h,ab a p)↔0<upto h p.X∧∃ a,h[upto h p.X-1]?=some a∧p.Y<a.Y:=by
 constructor
 ·rintro⟨a,ha,h1,h2⟩
  obtain⟨i,hi,rfl⟩:=List.getElem_of_mem ha
  have hlt:i<upto h p.X:=by
   by_cases c:i<upto h p.X
   ·exact c
   ·have:=ZAI hs (x:=p.X) (i:=i) (by omega) hi;omega
  have hle:=ZAK h p.X
  refine⟨by omega,h[upto h p.X-1],List.getElem?_eq_getElem (by omega),?_⟩
  by_cases e:i=upto h p.X-1
  ·simpa [← e] using h2
  ·have:=(List.pairwise_iff_getElem.1 hs) i (upto h p.X-1) hi (by omega) (by omega)
   omega
 ·rintro⟨h0,a,ha,h1⟩
  obtain⟨hl,rfl⟩:=List.getElem?_eq_some_iff.1 ha
  exact⟨_,List.getElem_mem _,ZAL (by omega) hl,h1⟩
theorem ZAJ {h:List Pr} (hs:Stair h) {p:Pr} (hn:¬ ∃ a∈h,ab a p):upto h p.X≤grt h p.Y:=by
 by_cases c:upto h p.X≤grt h p.Y
 ·exact c
 ·exfalso
  have hl:=ZAK h p.X
  exact hn ⟨h[grt h p.Y]'(by omega),List.getElem_mem _,ZAL (by omega) (by omega),Zkm hs (Nat.le_refl _) (by omega)⟩
theorem ZlP {h:List Pr} (hs:Stair h) {p:Pr} (hn:¬ ∃ a∈h,ab a p):Stair (ins h p):=by
 unfold ins Stair
 rw[List.pairwise_append]
 refine⟨hs.take,?_,?_⟩
 ·rw[List.pairwise_cons]
  refine⟨fun a ha=>?_,hs.drop⟩
  obtain⟨i,hi,rfl⟩:=List.getElem_of_mem ha
  rw[List.length_drop] at hi
  rw[List.getElem_drop]
  have hug:=ZAJ hs hn
  exact⟨ZAI hs (by omega) (by omega),Int.le_of_lt (Zkm hs (by omega) (by omega))⟩
 ·intro a ha b hb
  obtain⟨i,hi,rfl⟩:=List.getElem_of_mem ha
  rw[List.length_take] at hi
  rw[List.getElem_take]
  have h1:=ZAL (h:=h) (x:=p.X) (i:=i) (by omega) (by omega)
  rw[List.mem_cons] at hb
  rcases hb with hb | hb
  ·rw[hb]
   refine⟨Int.le_of_lt h1,?_⟩
   by_cases c:h[i].Y≤p.Y
   ·exact c
   ·exact absurd ⟨h[i],List.getElem_mem _,h1,by omega⟩ hn
  ·obtain⟨j,hj,rfl⟩:=List.getElem_of_mem hb
   rw[List.length_drop] at hj
   rw[List.getElem_drop]
   have hug:=ZAJ hs hn
   exact (List.pairwise_iff_getElem.1 hs) i (grt h p.Y+j) (by omega) (by omega) (by omega)
theorem ZlN {h:List Pr} (hs:Stair h) {p:Pr} (hn:¬ ∃ a∈h,ab a p) (q:Pr):(∃ a∈ins h p,ab a q)↔ab p q∨∃ a∈h,ab a q:=by
 constructor
 ·rintro⟨a,ha,hq⟩
  unfold ins at ha
  rw[List.mem_append,List.mem_cons] at ha
  rcases ha with ha | rfl | ha
  ·exact .inr ⟨a,List.mem_of_mem_take ha,hq⟩
  ·exact .inl hq
  ·exact .inr ⟨a,List.mem_of_mem_drop ha,hq⟩
 ·rintro (hq | ⟨a,ha,hq⟩)
  ·exact⟨p,by simp[ins],hq⟩
  ·obtain⟨i,hi,rfl⟩:=List.getElem_of_mem ha
   by_cases c1:i<upto h p.X
   ·refine⟨h[i],?_,hq⟩
    unfold ins
    rw[List.mem_append]
    left
    rw[List.mem_take_iff_getElem]
    exact⟨i,by omega,rfl⟩
   ·by_cases c2:i<grt h p.Y
    ·have h1:=ZAI hs (x:=p.X) (i:=i) (by omega) hi
     have h2:=Zko (y:=p.Y) (i:=i) c2 hi
     have:=hq.1
     have:=hq.2
     exact⟨p,by simp[ins],by unfold ab;omega⟩
    ·refine⟨h[i],?_,hq⟩
     unfold ins
     rw[List.mem_append,List.mem_cons]
     right;right
     rw[List.mem_drop_iff_getElem]
     exact⟨i-grt h p.Y,by omega,by congr 1;omega⟩
def room (H:List (List Pr)) (n:Nat):List (List Pr):=if n=H.length then H++[[]] else H
theorem Hds.step {t:List Pr} {H:List (List Pr)} (h:Hds t H) {p:Pr} {n:Nat} (hn:n≤H.length) (h1:∀ m,m<n→Hd t m p) (h2:¬ Hd t n p) (g:List Pr) (hg:(room H n)[n]?=some g) :
  Hds (p::t) ((room H n).set n (ins g p))∧rl (p::t)=(n+1)::rl t∧Stair g∧¬ ∃ a∈g,ab a p:=by
 have hm:=ZpP h h1 h2
 have hr:rl (p::t)=(n+1)::rl t:=by rw[rl,hm]
 have hgs:Stair g∧∀ q,(∃ a∈g,ab a q)↔Hd t n q:=by
  unfold room at hg
  by_cases e:n=H.length
  ·rw[if_pos e,e,List.getElem?_append_right (Nat.le_refl _)] at hg
   simp at hg
   subst hg
   exact⟨List.Pairwise.nil,fun q=>⟨by simp,fun hh=>absurd hh (h.beyond (by omega) q)⟩⟩
  ·rw[if_neg e] at hg
   exact⟨h.st g (List.mem_of_getElem? hg),h.eq n g hg⟩
 have hna:¬ ∃ a∈g,ab a p:=fun c=>h2 ((hgs.2 p).1 c)
 have hlen:H.length≤(room H n).length∧n<(room H n).length:=by unfold room;split<;>simp<;>omega
 refine⟨⟨?_,?_,?_⟩,hr,hgs.1,hna⟩
 ·intro k hk
  rcases List.mem_or_eq_of_mem_set hk with hk | rfl
  ·unfold room at hk
   split at hk
   ·rw[List.mem_append,List.mem_singleton] at hk
    rcases hk with hk | rfl
    ·exact h.st k hk
    ·exact List.Pairwise.nil
   ·exact h.st k hk
  ·exact ZlP hgs.1 hna
 ·intro m k hk q
  by_cases e:m=n
  ·subst e
   rw[List.getElem?_set_self hlen.2] at hk
   cases hk
   rw[ZlN hgs.1 hna,hgs.2]
   constructor
   ·rintro (hq | ⟨j,r,g1,g2,g3⟩)
    ·exact⟨0,p,rfl,by rw[hr];rfl,hq⟩
    ·exact⟨j+1,r,by simpa using g1,by rw[hr];simpa using g2,g3⟩
   ·rintro⟨j,r,g1,g2,g3⟩
    cases j with
    | zero=>simp at g1;subst g1;exact .inl g3
    | succ j=>exact .inr ⟨j,r,by simpa using g1,by rw[hr] at g2;simpa using g2,g3⟩
  ·rw[List.getElem?_set_ne (fun e'=>e e'.symm)] at hk
   have hk':H[m]?=some k:=by
    unfold room at hk
    split at hk
    ·by_cases hml:m<H.length
     ·rwa [List.getElem?_append_left hml] at hk
     ·have:=(List.getElem?_eq_some_iff.1 hk).1
      simp at this
      omega
    ·exact hk
   rw[h.eq m k hk']
   constructor
   ·rintro⟨j,r,g1,g2,g3⟩
    exact⟨j+1,r,by simpa using g1,by rw[hr];simpa using g2,g3⟩
   ·rintro⟨j,r,g1,g2,g3⟩
    cases j with
    | zero=>rw[hr] at g2;simp at g2;omega
    | succ j=>exact⟨j,r,by simpa using g1,by rw[hr] at g2;simpa using g2,g3⟩
 ·intro m hm'
  rw[hr,List.mem_cons] at hm'
  rw[List.length_set]
  rcases hm' with rfl | hm'
  ·omega
  ·have:=h.top m hm'
   omega
def pick:Nat→Option Pr→List Pr→List Nat→List Pr
 | left,last,p::l,n::ns=>if n=left∧(∀ q,last=some q→ab p q) then p::pick (left-1) (some p) l ns else pick left last l ns
 | _,_,_,_=>[]
def mxn:List Nat→Nat
 | []=>0
 | n::ns=>max n (mxn ns)
def lng (l:List Pr):List Pr:=pick (mxn (rl l)) none l (rl l)
end

end Go.Proofs.YtkiaenncemfkcaaGreatDoor
