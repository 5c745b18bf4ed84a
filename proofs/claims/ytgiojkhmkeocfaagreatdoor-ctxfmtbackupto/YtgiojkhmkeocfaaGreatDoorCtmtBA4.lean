/-
  Texts that belong together, joined: EdIter, EdOwn, EdKeep, EdWalk, PcLs, EdDrew, EdRChk, HuRow, HuRf1, HuRf2, HuRf3, PcReg, HuRf4, HuRf5, HuRf6, HuRf7, HuOwn, HuC1, HuIv.
-/
import Derived.Test.YtgiojkhmkeocfaaGreatDoorCtmtBA3
import Derived.RangeFuncNested
import Derived.RangeFuncBound
import Derived.RangeFuncCalls
import Derived.RangeFuncLeaves
import Derived.RangeFuncBox
import Derived.Shelf.Abstract
import Derived.Shelf.RegionOpen
import Derived.OwnWalkIn
import Derived.TacticsInMore
import Derived.LoopNIn
import Derived.LoopIn
import Derived.Maps.AppendAt
import Derived.Deep.RegionHeld3
import Derived.Laws.Rows
import Derived.Deep.CutRange
import Derived.Deep.DeepCutAuto

set_option maxHeartbeats 16000000
set_option maxRecDepth 100000
namespace Go.Proofs.YtgiojkhmkeocfaaGreatDoor

section
open Go.RowKit Go.Shelf
attribute [local go_sem] Oper.semAt_some
structure Kp (n₀ lo:Nat) (W W':World):Prop where
 low:Below n₀ W W'
 box:∀ k,lo≤k→k<lo+3→W'.heap[k]?=W.heap[k]?
 chg:∀ (k:Nat) (cs:Array Value),W.heap[k]?=some (Obj.cells cs 64 (0,0))→W'.heap[k]?=some (Obj.cells cs 64 (0,0))
section
variable {n₀ lo:Nat} {A B C:World}
theorem Kp.refl (W:World):Kp n₀ lo W W:=⟨Below.refl _ _,fun _ _ _=>rfl,fun _ _ h=>h⟩
theorem Kp.trans (h:Kp n₀ lo A B) (k:Kp n₀ lo B C):Kp n₀ lo A C:=⟨h.low.trans k.low,fun j h1 h2=>(k.box j h1 h2).trans (h.box j h1 h2),fun j cs hj=>k.chg j cs (h.chg j cs hj)⟩
theorem Kp.alloc {W:World} (hn:n₀≤W.heap.size) (hl:lo+3≤W.heap.size) (o:Obj):Kp n₀ lo W (W.alloc o) :=
 ⟨(Below.refl _ W).alloc hn o,fun k _ hk=>Below.heap_alloc W o k (by omega),fun k cs hk=>(Below.heap_alloc W o k (Array.getElem?_eq_some_iff.1 hk).1).trans hk⟩
theorem Kp.putObj {w:World} (hn:n₀≤w.heap.size) (hl:lo+3≤w.heap.size) (W:World) (l:Nat) (o o':Obj) (hlw:w.heap.size≤l) (h:W.heap[l]?=some o) (hc:o.isCells=false) (hw:o.isWalk=false):Kp n₀ lo W (W.putObj l o'):=by
 have hne:∀ k,k≠l→(W.putObj l o').heap[k]?=W.heap[k]?:=fun k hk=>by simp[World.putObj,Ne.symm hk]
 refine⟨belowK_b hn W l o o' hlw h hc hw,fun k _ hk=>hne k (by omega),fun k cs hk=>(hne k ?_).trans hk⟩
 rintro rfl
 rw[h] at hk
 cases hk
 cases hc
theorem Kp.drewN (W:World) (k:Nat):Kp n₀ lo W (W.drewN k):=⟨Below.dN (Below.refl _ W) k,fun _ _ _=>rfl,fun _ _ h=>h⟩
end
abbrev Pie (n m:Int):={ x:Rn × Ch // Pc n m x }
theorem pieces_any (ao:Option Addr) (len c:Nat) (n m:Int) (w:World) :
  Calls Tryz.prog 256 #[.slice ao len c,.int .i64 n,.int .i64 m] w fun e w' =>
   e=.returned (.func (.func 282) #[] #[.pointer (some ⟨w.heap.size,0,none⟩),.pointer (some ⟨w.heap.size+1,0,none⟩),.pointer (some ⟨w.heap.size+1+1,0,none⟩)]) ∧
   w'=((w.alloc (.cells #[.slice ao len c] 25)).alloc (.cells #[.int .i64 n] 3)).alloc (.cells #[.int .i64 m] 3):=by
 go_enter Tryz.func256,Tryz.ntmps256
 go_wp2
 go_ret
 exact⟨rfl,rfl⟩
theorem abides_alloc {α:Type} {B0:Nat} {J:List α→World→Prop} (h:AbidesFrom B0 J) {s:List α} {W:World} (hJ:J s W) (o:Obj):J s (W.alloc o):=h s W _ none hJ (World.grownBy_alloc W o none) (fun r e=>by cases e)
theorem abides_drewN {α:Type} {B0:Nat} {J:List α→World→Prop} (h:AbidesFrom B0 J) {s:List α} {W:World} (hJ:J s W) (k:Nat):J s (W.drewN k):=h s W _ none hJ ⟨rfl,rfl,rfl,Nat.le_refl _,fun _ _ _=>rfl⟩ (fun r e=>by cases e)
theorem pieces1_in (N:Nat) (hN:1≤N) (lp lo n₀:Nat) (ao:Option Addr) (ca:Nat) (l:List Ch) (n m:Int) (hS:Hid (Script l n m)) (hn:n≤9223372036854775807) (hm:m≤9223372036854775807) (hlen:l.length≤1099511627776)
  (J Jx:List (Pie n m)→World→Prop) (W:World) (hJ:AbidesFrom W.heap.size J)
  (hY:∀ pre (x:Pie n m) W1,J pre W1→pre.length<l.length+1→YieldAt Fence.wide (N-1) Tryz.prog lp #[rnV x.1.1,chV x.1.2] W1 fun e W' =>
   (e=.returned (.bool true)∧J (pre++[x]) W'∧Kp n₀ lo W1 W')∨(e=.returned (.bool false)∧Jx (pre++[x]) W'))
  (hlo:n₀≤lo) (hsz:lo+3≤W.heap.size) (hb0:W.heap[lo]?=some (.cells #[.slice ao l.length ca] 25 (0,0))) (hb1:W.heap[lo+1]?=some (.cells #[.int .i64 n] 3 (0,0))) (hb2:W.heap[lo+1+1]?=some (.cells #[.int .i64 m] 3 (0,0)))
  (hl:HCh W (.slice ao l.length ca) l) (hb:∀ a,ao=some a→0<l.length→a.block<n₀) (h0:J [] W) :
  CallsIn Fence.wide N Tryz.prog 282 #[.func (.yield lp) #[] #[],.pointer (some ⟨lo,0,none⟩),.pointer (some ⟨lo+1,0,none⟩),.pointer (some ⟨lo+1+1,0,none⟩)] W fun e W'=>(∃ v,e=.returned v) ∧
   ((∃ ys,ys.map (·.1)=piecesL 0 0 n m l∧J ys W')∨(∃ pre,True∧Jx pre W')):=by
 have d0:W.cell? ⟨lo,0,none⟩=some (.slice ao l.length ca):=by rw[Lib.cell_of_heap hb0];rfl
 refine callsIn_of_wp Tryz.func282 rfl trivial ?_ rfl
 simp only[Tryz.ntmps282,List.size_toArray,List.length_cons,List.length_nil,Nat.reduceAdd,Nat.reduceSub,Array.replicate_succ,Array.replicate_zero,List.push_toArray,List.append_toArray,List.nil_append,List.cons_append]
 gi_wp2
 gi_loopw [5,6,11] (fun av bv iv wr=>∃ (k:Nat) (a b:Int) (pre:List (Pie n m)),k≤l.length∧pre.length=k∧av=.int .i64 a∧bv=.int .i64 b∧iv=.int .i64 k∧0≤a∧a≤n∧0≤b∧b≤m∧Kp n₀ lo W wr∧J pre wr∧Hid (Right (decide (k=0)) a b n m (l.drop k)∧pre.map (·.1)++piecesL a b n m (l.drop k)=piecesL 0 0 n m l)) (fun _ _ iv _=>l.length-(intOf iv).toNat)
 case atStart=>exact⟨0,0,0,[],Nat.zero_le _,rfl,rfl,rfl,rfl,by omega,hS.out.1,by omega,hS.out.2.1,Kp.refl W,h0,(⟨hS.out.2.2,rfl⟩:_∧_)⟩
 case round =>
  obtain⟨k,a,b,pre,hk,hpl,rfl,rfl,rfl,ha,han,hb',hbm,hK,hJr,hR⟩:=hrel
  have hszr:=hK.low.size
  by_cases hlt:k<l.length
  ·have hlr:HCh wr (.slice ao l.length ca) l:=by
    obtain⟨bk,off,rfl,hbk,hc⟩:=HCh.at hl (by omega)
    rcases hl with ⟨h,_⟩ | ⟨ad,c,he,hnc,hcells⟩
    ·cases h
    ·cases he
     refine .inr ⟨_,_,rfl,hnc,fun j u hj=>?_⟩
     have h1:=hcells j u hj
     rw[World.cell?_of_block (w:=W) (hK.low.block _ ?_)]
     ·exact h1
     ·have:=hb _ rfl (by omega)
      rw[add_none]
      exact this
   obtain⟨bk,off,rfl,hbk,hc⟩:=HCh.at hlr (by omega)
   obtain⟨c0,c1,c2,c3⟩:=hc k hlt
   have hR':=hR.out
   rw[List.drop_eq_getElem_cons hlt] at hR'
   obtain⟨c,hcd⟩:∃ c,l[k]=c:=⟨_,rfl⟩
   rw[hcd] at hR' c0 c1 c2 c3
   clear hc hcd hR
   have hnum:=hR'.1.1.1
   rw[numB_iff] at hnum
   have hle:=hR'.1.2.le
   have HR:Hid (Right (decide (k=0)) a b n m (c::l.drop (k+1))∧pre.map (·.1)++piecesL a b n m (c::l.drop (k+1))=piecesL 0 0 n m l):=hR'
   have hpc:=hR'.1.pc ha hb'
   have hAa:=hR'.1.1.2.2.1
   clear hR'
   have i1:0≤(k:Int):=by omega
   have i2:(k:Int)<(l.length:Int):=by omega
   obtain⟨A,AN,B,BN⟩:=c
   dsimp only at c0 c1 c2 c3 hnum hle hAa
   obtain⟨⟨hA0,hA1⟩,⟨hAN0,hAN1⟩,⟨hB0,hB1⟩,⟨hBN0,hBN1⟩,hpos⟩:=hnum
   have hK1:Kp n₀ lo wr (wr.alloc (.cells #[.int .i64 A,.int .i64 AN,.int .i64 B,.int .i64 BN] 64)):=Kp.alloc (by omega) (by omega) _
   obtain⟨fn,tmps,assign,body,hy,hRd⟩:=hY pre ⟨(⟨a,b,A-a⟩,⟨A,AN,B,BN⟩),hpc⟩ (wr.alloc (.cells #[.int .i64 A,.int .i64 AN,.int .i64 B,.int .i64 BN] 64)) (abides_alloc hJ hJr _) (by omega)
   simp only[rnV,chV] at hy
   gi_wp2
   refine hRd.mono ?_
   rintro e W3 (⟨rfl,hJ3,hk3⟩ | ⟨rfl,hJx3⟩)
   ·have hbox:=hk3.chg wr.heap.size _ (_root_.Go.heap_alloc_new wr _)
    have e0:W3.cell? ⟨wr.heap.size,0,none⟩=some (.int .i64 A):=by rw[Lib.cell_of_heap hbox];rfl
    have e1:W3.cell? ⟨wr.heap.size,1,none⟩=some (.int .i64 AN):=by rw[Lib.cell_of_heap hbox];rfl
    have e2:W3.cell? ⟨wr.heap.size,2,none⟩=some (.int .i64 B):=by rw[Lib.cell_of_heap hbox];rfl
    have e3:W3.cell? ⟨wr.heap.size,3,none⟩=some (.int .i64 BN):=by rw[Lib.cell_of_heap hbox];rfl
    gi_wp2
    gi_region
    gi_wp2
    go_roundw
    case rel=>exact⟨k+1,A+AN,B+BN,pre++[⟨(⟨a,b,A-a⟩,⟨A,AN,B,BN⟩),hpc⟩],by omega,by simp;omega,by go_num,by go_num,by go_num,by omega,by omega,by omega,by omega,(hK.trans (hK1.trans hk3)).trans (Kp.drewN _ 1),abides_drewN hJ hJ3 1,(by
      have h:=HR.out
      have e:decide (k+1=0)=false:=by simp
      show _∧_
      rw[e]
      exact⟨h.1.2,by rw[← h.2];simp[piecesL]⟩)⟩
    case measure=>simp[intOf];omega
   ·gi_wp2
    refine bodyPost_ret (results_none rfl _ _ _) rfl ?_
    exact⟨⟨_,rfl⟩,.inr ⟨_,trivial,hJx3⟩⟩
  ·have hR':=hR.out
   rw[List.drop_of_length_le (by omega)] at hR'
   have HR:Hid (Right (decide (k=0)) a b n m []∧pre.map (·.1)++piecesL a b n m []=piecesL 0 0 n m l):=hR'
   have hpc:=hR'.1.pcEnd ha hb'
   clear hR hR'
   have hx1:=(hK.box (lo+1) (by omega) (by omega)).trans hb1
   have hx2:=(hK.box (lo+1+1) (by omega) (by omega)).trans hb2
   have e1:wr.cell? ⟨lo+1,0,none⟩=some (.int .i64 n):=by rw[Lib.cell_of_heap hx1];rfl
   have e2:wr.cell? ⟨lo+1+1,0,none⟩=some (.int .i64 m):=by rw[Lib.cell_of_heap hx2];rfl
   obtain⟨fn,tmps,assign,body,hy,hRd⟩:=hY pre ⟨(⟨a,b,n-a⟩,⟨n,0,m,0⟩),hpc⟩ wr hJr (by omega)
   simp only[rnV,chV] at hy
   gi_wp2
   refine hRd.mono ?_
   rintro e W3 (⟨rfl,hJ3,hk3⟩ | ⟨rfl,hJx3⟩)
   ·gi_wp2
    go_end0
    exact⟨⟨_,rfl⟩,.inl ⟨_,by have h:=HR.out.2;rw[← h];simp[piecesL],hJ3⟩⟩
   ·gi_wp2
    go_end0
    exact⟨⟨_,rfl⟩,.inr ⟨_,trivial,hJx3⟩⟩
theorem HCh.lt {w:World} {ao:Option Addr} {n c:Nat} {l:List Ch} (h:HCh w (.slice ao n c) l) (a:Addr) (ha:ao=some a) (h0:0<l.length):a.block<w.heap.size:=by
 obtain⟨b,off,hb,hlt,_⟩:=HCh.at h h0
 rw[ha] at hb
 cases hb
 exact hlt
theorem pieces_stops (N:Nat) (hN:1≤N) (lo n₀:Nat) (ao:Option Addr) (ca:Nat) (l:List Ch) (n m:Int) (hS:Script l n m) (hn:n≤9223372036854775807) (hm:m≤9223372036854775807) (hlen:l.length≤1099511627776) (w:World)
  (hlo:n₀≤lo) (hsz:lo+3≤w.heap.size) (hb0:w.heap[lo]?=some (.cells #[.slice ao l.length ca] 25 (0,0))) (hb1:w.heap[lo+1]?=some (.cells #[.int .i64 n] 3 (0,0))) (hb2:w.heap[lo+1+1]?=some (.cells #[.int .i64 m] 3 (0,0)))
  (hl:HCh w (.slice ao l.length ca) l) (hb:∀ a,ao=some a→0<l.length→a.block<n₀) :
  SeqStopsK Fence.wide N Tryz.prog 282 #[.pointer (some ⟨lo,0,none⟩),.pointer (some ⟨lo+1,0,none⟩),.pointer (some ⟨lo+1+1,0,none⟩)] (fun x:Pie n m=>#[rnV x.1.1,chV x.1.2]) (Kp n₀ lo) (fun ys=>ys.map (·.1)=piecesL 0 0 n m l) (fun _=>True) (l.length+1) w:=fun lp J Jx W hW hJ _ hY h0 =>
 pieces1_in N hN lp lo n₀ ao ca l n m hS hn hm hlen J Jx W hJ hY hlo (Nat.le_trans hsz hW.size) ((hW.block _ (by omega)).trans hb0) ((hW.block _ (by omega)).trans hb1) ((hW.block _ (by omega)).trans hb2) (HCh.keep hl hW (Nat.le_refl _)) hb h0
end

section
open Go.RowKit Go.Shelf
attribute [local go_sem] Oper.semAt_some
theorem wpListIn_append_h {F:Fence} {n:Nat} (w:World) {ops:Array Oper} {rest:List Oper} {o:Oper} {a:Act} {Q:Exit→Act→World→Prop}
  (hg:o.guard=none) (s x:Operand) (T E:TypeId) (ho:o.op=Op.call { callee:=Callee.builtin Builtin.append,args:=#[s,x],argTypes:=#[T,T] })
  (z:Value) (size bytes:Nat) (hT:Tryz.prog.underlying T=some (.slice E)) (hinfo:(Tryz.prog.info? E).map (fun i=>(i.zero,i.size,i.bytes))=some (some z,size,bytes)) (hz1:z.cells.size=size) (hsz:0<size) (hby:bytes≤32)
  (base:Nat) (v:Value) (k:Nat) (xs:List Value) (hs:a.eval s=v) (hown:w.ownsRow base E size v k xs) (vx:Value) (m:Nat) (news:List Value) (hx:a.eval x=vx) (hh:Holds w vx m news) (hl:news.length=m * size)
  (h1:∀ u∈news,u.oneCell'=true) (hk:k+m≤4398046511104) (hbase:base≤w.heap.size)
  (h:∀ v' w',w'.ownsRow base E size v' (k+m) (xs++news)→w.grownBy w' v.ownBlock→(v'.ownBlock=v.ownBlock∨v'.ownBlock=some w.heap.size)→wpListIn F n Tryz.prog ops Q rest (a.put o.dst v') w') :
  wpListIn F n Tryz.prog ops Q (o::rest) a w:=by
 refine wpListIn_plain hg fun K hK'=>?_
 obtain⟨i0,hi,hz0,hzs,hz2⟩:=info_parts hinfo
 have hrun:∃ v' w',(Builtin.append_ #[T,T] o.type #[v,vx]).run Tryz.prog w=.ok v' w'∧w'.ownsRow base E size v' (k+m) (xs++news)∧w.grownBy w' v.ownBlock∧(v'.ownBlock=v.ownBlock∨v'.ownBlock=some w.heap.size):=by
  rcases hh with ⟨rfl,rfl,rfl⟩ | ⟨ad,c,rfl,_,hc⟩
  ·exact⟨v,w,run_append_owned_none (P:=Tryz.prog) (w:=w) base T o.type E i0 size hT hi v k xs hown,by simpa using hown,World.grownBy.refl _ _,.inl rfl⟩
  ·obtain⟨v',w',hr,h2,h3,_,h5⟩:=run_append_own_at (P:=Tryz.prog) w base T o.type E i0 z size bytes hT hi hz0 hzs hz2 hz1 hsz v k xs hown ad m c news hl hc h1 (by unfold maxLen;omega) (by
    have:(k+m) * bytes≤(k+m) * 32:=Nat.mul_le_mul_left _ hby
    omega) hbase
   exact⟨v',w',hr,h2,h3,h5⟩
 obtain⟨v',w',hrun,r1,r2,r3⟩:=hrun
 unfold Oper.wpIn
 refine⟨?_,?_⟩
 ·simp[Oper.about,ho,resolve,Target.leads,Sem.run_pure]
 ·rw[Oper.semAt_plain F _ _ (by rw[ho];intro c hc';cases hc')]
  simp[execOp,ho,resolve,invoke,builtin,hs,hx,hrun,Result.andThen]
  exact hK' _ _ (h v' w' r1 r2 r3)
theorem new_holds (W:World) (cs:Array Value) (e:TypeId) (k c:Nat) (hkc:k≤c):Holds (W.alloc (.cells cs e)) (.slice (some ⟨W.heap.size,0,none⟩) k c) k cs.toList:=by
 refine .inr ⟨_,_,rfl,hkc,fun j u hj=>?_⟩
 rw[add_none,Lib.cell_of_heap (_root_.Go.heap_alloc_new W _)]
 simpa using hj
structure OwnR (n₀ lo B:Nat) (t e:TypeId) (s:Nat) (v:Value) (k:Nat) (xs:List Value) (W:World):Prop where
 box:Boxed W B t v
 row:W.ownsRow n₀ e s v k xs
 far:∀ g,v.ownBlock=some g→g<lo∨lo+3≤g
section
variable {n₀ lo B:Nat} {t e:TypeId} {s:Nat} {v:Value} {k:Nat} {xs:List Value} {W:World}
theorem OwnR.alloc (h:OwnR n₀ lo B t e s v k xs W) (o:Obj):OwnR n₀ lo B t e s v k xs (W.alloc o):=⟨h.box.alloc o,h.row.alloc o,h.far⟩
theorem OwnR.appended {w1:World} {v':Value} {m:Nat} {ys:List Value} (h:OwnR n₀ lo B t e s v k xs W) (hte:t≠e) (htC:t≠64) (heC:e≠64) (hn:n₀≤B) (hB:B<lo) (hsz:lo+3≤W.heap.size)
  (hown':w1.ownsRow n₀ e s v' m ys) (hgrow:W.grownBy w1 v.ownBlock) (hp:v'.ownBlock=v.ownBlock∨v'.ownBlock=some W.heap.size) :
  Boxed w1 B t v∧OwnR n₀ lo B t e s v' m ys (w1.setCell ⟨B,0,none⟩ v')∧KeepsOthers W (w1.setCell ⟨B,0,none⟩ v')∧Kp n₀ lo W (w1.setCell ⟨B,0,none⟩ v') ∧
   ∀ (j:Nat) (cs:Array Value) (u:TypeId),W.heap[j]?=some (Obj.cells cs u (0,0))→u≠t→u≠e→(w1.setCell ⟨B,0,none⟩ v').heap[j]?=some (Obj.cells cs u (0,0)):=by
 have hv1:Boxed w1 B t v:=h.box.kept hgrow (h.box.not_row hte h.row)
 have hset:=grownBy_setCell' w1 B v'
 have hrow:∀ j,v.ownBlock=some j→∃ cur,W.heap[j]?=some (.cells cur e (0,0))∧n₀≤j:=by
  intro j ej
  rcases h.row.2 with ⟨rfl,_⟩ | ⟨g,cap,cur,rfl,hb,hgb,_⟩
  ·simp[Value.ownBlock] at ej
  ·obtain rfl:g=j:=by simpa [Value.ownBlock] using ej
   exact⟨cur,hgb,hb⟩
 have hall:∀ (j:Nat) (cs:Array Value) (u:TypeId),W.heap[j]?=some (Obj.cells cs u (0,0))→u≠t→u≠e→(w1.setCell ⟨B,0,none⟩ v').heap[j]?=some (Obj.cells cs u (0,0)):=by
  intro j cs u hj hut hue
  have hlt:=(Array.getElem?_eq_some_iff.1 hj).1
  have e1:w1.heap[j]?=W.heap[j]?:=hgrow.block j hlt (fun ej=>by
   obtain⟨cur,hc,_⟩:=hrow j ej.symm
   rw[hj] at hc
   cases hc
   exact hue rfl)
  refine (hset.block j (Nat.lt_of_lt_of_le hlt hgrow.size) (fun ej=>?_)).trans (e1.trans hj)
  cases ej
  have:=h.box
  unfold Boxed at this
  rw[hj] at this
  cases this
  exact hut rfl
 refine⟨hv1,⟨hv1.set v',hown'.kept hset (.inr (hv1.not_row hte hown').symm),fun g hg=>?_⟩,?_,⟨?_,?_,fun j cs hj=>hall j cs _ hj (Ne.symm htC) (Ne.symm heC)⟩,hall⟩
 ·rcases hp with hp | hp
  ·exact h.far g (hp ▸ hg)
  ·rw[hp] at hg
   cases hg
   exact .inr hsz
 ·refine (KeepsOthers.of_grownBy hgrow fun j o ej hj=>?_).trans (KeepsOthers.setCell _ _ _)
  obtain⟨cur,hc,_⟩:=hrow j ej
  rw[hc] at hj
  cases hj
  rfl
 ·refine ((Below.refl n₀ W).grown hgrow (by omega) fun j ej=>?_).setCell (p:=⟨B,0,none⟩) hn v'
  obtain⟨_,_,h2⟩:=hrow j ej
  exact h2
 ·intro j h1 h2
  have e1:W.heap[j]?=w1.heap[j]?:=(hgrow.block j (by omega) (fun ej=>by have:=h.far j ej.symm;omega)).symm
  rw[e1]
  exact hset.block j (Nat.lt_of_lt_of_le (by omega) hgrow.size) (fun ej=>by cases ej;omega)
theorem boxes3 (u:World) (x y z:Value) (W0:World) (h:((u.alloc (.cells #[x] 25)).alloc (.cells #[y] 3)).alloc (.cells #[z] 3)=W0) :
  W0.heap.size=u.heap.size+3∧Boxed W0 u.heap.size 25 x∧Boxed W0 (u.heap.size+1) 3 y∧Boxed W0 (u.heap.size+1+1) 3 z∧Below u.heap.size u W0:=by
 subst h
 have b1:=Boxed.new (u.alloc (.cells #[x] 25)) 3 y
 have b2:=Boxed.new ((u.alloc (.cells #[x] 25)).alloc (.cells #[y] 3)) 3 z
 rw[World.size_alloc] at b1
 rw[World.size_alloc,World.size_alloc] at b2
 exact⟨by simp,((Boxed.new u 25 x).alloc _).alloc _,b1.alloc _,b2,(((Below.refl _ u).alloc (Nat.le_refl _) _).alloc (by simp) _).alloc (by simp;omega) _⟩
theorem ownR_own {β:Type} {A:Nat} {w0:World} (hn:n₀≤w0.heap.size) (hA:n₀≤A) (kk:β→Nat) (f:β→List Value):OwnFrom A (fun (x:β) W=>(∃ v,OwnR n₀ lo B t e s v (kk x) (f x) W)∧Below n₀ w0 W):=by
 refine OwnFrom.and (Own.from ?_ _) (ownFrom_below hn hA)
 have:=holdsRow_own (β:=β) n₀ B t e s kk f (fun _ v=>∀ g,v.ownBlock=some g→g<lo∨lo+3≤g)
 intro x A B row hs hg hr
 obtain⟨v,⟨h1,h2,h3⟩⟩:=hs
 obtain⟨v',q1,q2,q3⟩:=this x A B row ⟨v,h1,h2,h3⟩ hg hr
 exact⟨v',q1,q2,q3⟩
end
end

section
open Go.RowKit Go.Shelf
attribute [local go_sem] Oper.semAt_some
theorem run_make0 {T E:TypeId} {z:Value} {bytes:Nat} (hT:Tryz.prog.underlying T=some (.slice E)) (hinfo:(Tryz.prog.info? E).map (fun i=>(i.zero,i.size,i.bytes))=some (some z,1,bytes)) (hby:bytes≤16) (N:Nat) (hN:N≤1099511627776) (W:World) :
  (Instr.makeSlice T (.int .i64 0) (.int .i64 (N:Int))).run Tryz.prog W=.ok (.slice (some ⟨W.heap.size,0,none⟩) 0 N) (W.alloc (.cells (madeCells z.cells N) E)):=by
 obtain⟨i0,hi,hz0,hzs,hz2⟩:=info_parts hinfo
 have h1:i0.bytes * N≤16 * 1099511627776:=by rw[hz2];exact Nat.mul_le_mul hby hN
 have hr:=run_make (P:=Tryz.prog) W T E i0 z hT hi hz0 .i64 .i64 0 (N:Int) (Int.le_refl _) (by omega) (by
  have:((i0.bytes * N:Nat):Int)≤281474976710656:=by omega
  rwa [Int.natCast_mul] at this) (by omega)
 simpa [hzs] using hr
theorem row_made {E:TypeId} {z:Value} (N:Nat) (hN:N≤1099511627776) (W:World) {base:Nat} (hb:base≤W.heap.size):(W.alloc (.cells (madeCells z.cells N) E)).ownsRow base E 1 (.slice (some ⟨W.heap.size,0,none⟩) 0 N) 0 []:=by
 have:=World.ownsRow_made (size:=1) (e:=E) W (madeCells z.cells N) N hb (by unfold maxLen;omega) (by rw[size_madeCells,Nat.mul_one])
 exact this
theorem pk_length {n m:Int} (hn:n≤65536) (x:Pie n m):(pk x.1).length≤131072:=by
 obtain⟨x,h1,h2,h3,h4,h5,h6,h7,h8,h9,h10⟩:=x
 simp[pk]
 omega
theorem pks_length {n m:Int} (hn:n≤65536) (pre:List (Pie n m)):(pre.flatMap fun x=>pk x.1).length≤pre.length * 131072:=by
 induction pre with
 | nil=>simp
 | cons x t ih=>have:=pk_length hn x;simp only[List.flatMap_cons,List.length_append,List.length_cons];omega
def IOwn (n₀ lo B:Nat) (v:Value) (Z:List Int) (W:World):Prop:=OwnR n₀ lo B 71 3 1 v Z.length (icells Z) W
theorem Keep_own (l:List Ch) (n m:Int) (v:Value) (w:World) (hl:HCh w v l) (hS:Script l n m) (hn:n≤65536) (hm:m≤9223372036854775807) (hlen:l.length≤1048576) :
  Calls Tryz.prog 235 #[v,.int .i64 n,.int .i64 m] w fun e w'=>∃ v' B,e=.returned (.tuple #[v',.int .i64 0])∧w.heap.size≤B∧w'.ownsRow B 3 1 v' (keepL l n m).length (icells (keepL l n m))∧Below w.heap.size w w':=by
 obtain⟨ao,ca,rfl⟩:=Holds.form hl
 have hn0:=hS.1
 have hm0:=hS.2.1
 have HS:Hid (Script l n m):=hS
 clear hS
 obtain⟨N,rfl⟩:∃ N:Nat,n=(N:Int):=⟨n.toNat,by omega⟩
 have hmk:=run_make0 Tryz.underlying71 infoInt (by decide) N (by omega)
 refine (callsIn_wide (n:=3)).1 ?_
 refine callsIn_of_wp_marks Tryz.func235 rfl trivial ?_ rfl
 simp only[Tryz.ntmps235,List.size_toArray,List.length_cons,List.length_nil,Nat.reduceAdd,Nat.reduceSub,Array.replicate_succ,Array.replicate_zero,List.push_toArray,List.append_toArray,List.nil_append,List.cons_append]
 gi_wp2_with (first
  | (refine⟨trivial,?_⟩;gi_at_call 86;refine (callsIn_wide.2 (Check_f l N m 0 _ w hl (by omega) (by omega) hm (chk_ok HS.out))).mono ?_;rintro e w1 ⟨rfl,hB1⟩)
  | (refine⟨trivial,?_⟩;gi_at_call 256;refine (callsIn_wide.2 (pieces_any _ _ _ _ _ _)).mono ?_;rintro e w' ⟨rfl,rfl⟩))
 obtain⟨W0,hW0⟩:∃ W0,(((((w1.alloc (Obj.cells (madeCells #[Value.int IntKind.i64 0] N) 3)).alloc (Obj.cells #[Value.slice (some { block:=w1.heap.size,off:=0 }) 0 N] 71)).alloc (Obj.cells #[Value.slice ao l.length ca] 25)).alloc (Obj.cells #[Value.int IntKind.i64 N] 3)).alloc (Obj.cells #[Value.int IntKind.i64 m] 3))=W0:=⟨_,rfl⟩
 obtain⟨hsz,b0,b1,b2,hB2⟩:=boxes3 _ _ _ _ W0 hW0
 have hsu:((w1.alloc (Obj.cells (madeCells #[Value.int IntKind.i64 0] N) 3)).alloc (Obj.cells #[Value.slice (some { block:=w1.heap.size,off:=0 }) 0 N] 71)).heap.size=w1.heap.size+1+1:=by simp
 have hrow:=row_made (E:=3) (z:=.int .i64 0) N (by omega) w1 (Nat.le_refl w1.heap.size)
 have bK:=Boxed.new (w1.alloc (Obj.cells (madeCells #[Value.int IntKind.i64 0] N) 3)) 71 (Value.slice (some { block:=w1.heap.size,off:=0 }) 0 N)
 rw[World.size_alloc] at bK
 rw[hsu] at hsz b0 b1 b2 hB2
 have hBk:∀ k,k<w1.heap.size+1+1→W0.heap[k]?=((w1.alloc (Obj.cells (madeCells #[Value.int IntKind.i64 0] N) 3)).alloc (Obj.cells #[Value.slice (some { block:=w1.heap.size,off:=0 }) 0 N] 71)).heap[k]?:=hB2.block
 have bK0:Boxed W0 (w1.heap.size+1) 71 (Value.slice (some { block:=w1.heap.size,off:=0 }) 0 N):=(hBk _ (by omega)).trans bK
 have hrow0:W0.ownsRow w1.heap.size 3 1 (Value.slice (some { block:=w1.heap.size,off:=0 }) 0 N) 0 []:=by
  have hr1:=hrow.alloc (Obj.cells #[Value.slice (some { block:=w1.heap.size,off:=0 }) 0 N] 71)
  rw[← hW0]
  exact ((hr1.alloc _).alloc _).alloc _
 have hB0:Below w1.heap.size w1 W0:=(((Below.refl _ w1).alloc (Nat.le_refl _) _).alloc (by simp) _).trans (hB2.mono (by omega))
 clear hrow bK hBk hB2 hsu
 rw[hW0]
 refine wpIn_rangeFunc_ownH rfl (by omega) (gf:=282) (lb:=#[.pointer (some ⟨w1.heap.size+1+1,0,none⟩),.pointer (some ⟨w1.heap.size+1+1+1,0,none⟩),.pointer (some ⟨w1.heap.size+1+1+1+1,0,none⟩)]) rfl trivial (enters_of Tryz.func282 (by kernel_rfl) rfl)
  (pieces_stops 2 (by omega) (w1.heap.size+1+1) w1.heap.size ao ca l N m HS.out (by omega) hm (by omega) W0 (by omega) (by omega) b0 b1 b2 (HCh.keep (HCh.keep hl hB1 (Nat.le_refl _)) hB0 (Nat.le_refl _)) (fun a ha h0=>HCh.lt (HCh.keep hl hB1 (Nat.le_refl _)) a ha h0)) Kp.trans (Kp.putObj (by omega) (by omega)) (Below.refl _ _) (fun _=>rfl)
  (fun pre W=>(∃ v,OwnR w1.heap.size (w1.heap.size+1+1) (w1.heap.size+1) 71 3 1 v (pre.flatMap fun x=>pk x.1).length (icells (pre.flatMap fun x=>pk x.1)) W)∧Below w1.heap.size W0 W)
  (fun _ _ _=>False)
  (ownR_own (by omega) (by omega) _ _)
  (fun _ _ _ _ _ hs _ _=>hs)
  ⟨⟨_,bK0,hrow0,fun g hg=>by simp[Value.ownBlock] at hg;omega⟩,Below.refl _ _⟩
  (fun x a' W=>∃ Bx Bc,W.heap[Bx]?=some (Obj.cells #[.int .i64 x.1.1.a,.int .i64 x.1.1.b,.int .i64 x.1.1.n] 271 (0,0))∧W.heap[Bc]?=some (Obj.cells #[.int .i64 x.1.2.A,.int .i64 x.1.2.AN,.int .i64 x.1.2.B,.int .i64 x.1.2.BN] 64 (0,0))∧a'={ tmps:=#[.slice ao l.length ca,.int .i64 N,.int .i64 m,undef,undef,undef,.slice none 0 0,.int .i64 0,.int .i64 0,.pointer (some ⟨w1.heap.size+1,0,none⟩),.pointer (some ⟨Bx,0,none⟩),.pointer (some ⟨Bc,0,none⟩),undef,.slice ao l.length ca,.int .i64 N,.int .i64 m,.int .i64 0,.int .i64 0,.bool false,undef,.int .i64 N,.bool (decide (2147483647<(N:Int))),.int .i64 N,.slice (some ⟨w1.heap.size,0,none⟩) 0 N,.slice ao l.length ca,.int .i64 N,.int .i64 m,.func (.func 282) #[] #[.pointer (some ⟨w1.heap.size+1+1,0,none⟩),.pointer (some ⟨w1.heap.size+1+1+1,0,none⟩),.pointer (some ⟨w1.heap.size+1+1+1+1,0,none⟩)],rnV x.1.1,chV x.1.2,undef,undef,undef,undef,undef,undef,undef,undef,undef,undef,undef,undef,undef,undef,undef,undef,undef,undef,undef,undef,undef,undef],defers:=[] })
  ?hAx ?assign ?body ?done ?stop
 case hAx =>
  rintro x a' _ A B row ⟨Bx,Bc,hx,hxc,rfl⟩ hg hr
  refine⟨Bx,Bc,(hg.block Bx (Array.getElem?_eq_some_iff.1 hx).1 (fun e=>?_)).trans hx,(hg.block Bc (Array.getElem?_eq_some_iff.1 hxc).1 (fun e=>?_)).trans hxc,rfl⟩
  ·obtain⟨_,o,ho,hc⟩:=hr Bx e.symm
   rw[hx] at ho
   cases ho
   cases hc
  ·obtain⟨_,o,ho,hc⟩:=hr Bc e.symm
   rw[hxc] at ho
   cases ho
   cases hc
 case assign =>
  rintro lp pre x W K ⟨⟨v,hO⟩,hB⟩ hK
  have hs:=hB.size
  simp only[rnV,chV]
  gi_wp2
  refine hK _ _ (((KeepsOthers.alloc _ _).trans (KeepsOthers.alloc _ _)).from _) ((Kp.alloc (by omega) (by omega) _).trans (Kp.alloc (by simp;omega) (by simp;omega) _)) ⟨⟨v,(hO.alloc _).alloc _⟩,(hB.alloc (by omega) _).alloc (by simp;omega) _⟩ ⟨W.heap.size,W.heap.size+1,(Below.heap_alloc _ _ _ (by simp)).trans (_root_.Go.heap_alloc_new W _),?_,rfl⟩
  have:=_root_.Go.heap_alloc_new (W.alloc (Obj.cells #[.int .i64 x.1.1.a,.int .i64 x.1.1.b,.int .i64 x.1.1.n] 271)) (Obj.cells #[.int .i64 x.1.2.A,.int .i64 x.1.2.AN,.int .i64 x.1.2.B,.int .i64 x.1.2.BN] 64)
  rw[World.size_alloc] at this
  exact this
 case body =>
  rintro lp pre x a' W hlp ⟨r,hr⟩ ⟨⟨v,hO⟩,hB⟩ ⟨Bx,Bc,hx,hxc,rfl⟩ hlt
  have hs:=hB.size
  have hbnd:=pks_length hn pre
  obtain⟨q1,q2,q3,q4,q5,q6,q7,q8,q9,q10⟩:=x.2
  have HZ:Hid ((pre++[x]).flatMap (fun x=>pk x.1)=(pre.flatMap fun x=>pk x.1)++((List.range x.1.1.n.toNat).map (fun (i:Nat)=>x.1.1.b+(i:Int))++List.replicate x.1.2.AN.toNat (-1))):=(by show _=_;simp[pk])
  obtain⟨X,hX⟩:∃ X,(pre.flatMap fun x=>pk x.1)=X:=⟨_,rfl⟩
  rw[hX] at hO hbnd HZ
  obtain⟨cnt,hcnt⟩:∃ cnt:Nat,x.1.1.n=(cnt:Int):=⟨x.1.1.n.toNat,by omega⟩
  obtain⟨can,hcan⟩:∃ can:Nat,x.1.2.AN=(can:Int):=⟨x.1.2.AN.toNat,by omega⟩
  rw[hcnt] at hx
  rw[hcan] at hxc
  have hc:=hO.box.cell
  have x2:W.cell? ⟨Bx,2,none⟩=some (.int .i64 cnt):=by rw[Lib.cell_of_heap hx];rfl
  have hm2:x.1.1.b+x.1.1.n≤9223372036854775807:=by omega
  gi_wp2
  gi_loopw [32] (fun iv wr=>∃ (j:Nat) (v2:Value),j≤cnt∧iv=.int .i64 j∧IOwn w1.heap.size (w1.heap.size+1+1) (w1.heap.size+1) v2 (X++(List.range j).map (fun (i:Nat)=>x.1.1.b+(i:Int))) wr∧Kp w1.heap.size (w1.heap.size+1+1) W wr∧KeepsOthers W wr∧wr.heap[Bx]?=some (Obj.cells #[.int .i64 x.1.1.a,.int .i64 x.1.1.b,.int .i64 cnt] 271 (0,0))) (fun iv _=>cnt-(intOf iv).toNat)
  case atStart=>exact⟨0,v,Nat.zero_le _,rfl,by simpa [IOwn] using hO,Kp.refl _,KeepsOthers.refl _,hx⟩
  case round =>
   obtain⟨j,v2,hj,rfl,hO2,hkp,hko,hx'⟩:=hrel
   have hs2:=hkp.low.size
   unfold IOwn at hO2
   have hc2:=hO2.box.cell
   by_cases hjl:j<cnt
   ·have x1:wr.cell? ⟨Bx,1,none⟩=some (.int .i64 x.1.1.b):=by rw[Lib.cell_of_heap hx'];rfl
    have hln:(X++(List.range j).map (fun (i:Nat)=>x.1.1.b+(i:Int))).length=X.length+j:=by simp
    rw[hln] at hO2
    gi_wp2_with (gi_at_builtin;refine wpListIn_append_h _ rfl (.tmp 35) (.tmp 40) 71 3 rfl (.int .i64 0) 1 8 Tryz.underlying71 infoInt rfl (by decide) (by decide) w1.heap.size v2 _ _ rfl (hO2.row.alloc _) _ 1 (icells [x.1.1.b+(j:Int)]) rfl (new_holds _ _ _ _ _ (by decide)) rfl (icells_one _) (by omega) (by simp;omega) ?_;intro v' u1 hown' hgrow hp;obtain⟨g',cap',rfl⟩:=ownsRow_succ hown';obtain⟨hv1,hO3,hk2,hp2,hal⟩:=(OwnR.alloc hO2 _).appended (by decide) (by decide) (by decide) (by omega) (by omega) (by simp;omega) hown' hgrow hp;have hc1:=hv1.cell;have hf1:=hv1.frozen)
    have hkp2:=hkp.trans ((Kp.alloc (W:=wr) (n₀:=w1.heap.size) (lo:=w1.heap.size+1+1) (by omega) (by omega) _).trans hp2)
    refine⟨⟨j+1,.slice (some ⟨g',0,none⟩) (X.length+j+1) cap',by omega,by go_num,?_,hkp2,hko.trans ((KeepsOthers.alloc wr _).trans hk2),hal _ _ _ ((Below.heap_alloc wr _ _ (Array.getElem?_eq_some_iff.1 hx').1).trans hx') (by decide) (by decide)⟩,by simp[intOf];omega⟩
    rw[← icells_append] at hO3
    unfold IOwn
    rw[List.range_succ,List.map_append,← List.append_assoc]
    simpa [Nat.add_assoc] using hO3
   ·obtain rfl:j=cnt:=by omega
    have hkc:wr.heap[Bc]?=_:=hkp.chg _ _ hxc
    have xc1:wr.cell? ⟨Bc,1,none⟩=some (.int .i64 can):=by rw[Lib.cell_of_heap hkc];rfl
    obtain⟨Y,hY⟩:∃ Y,X++(List.range j).map (fun (i:Nat)=>x.1.1.b+(i:Int))=Y:=⟨_,rfl⟩
    have hYl:Y.length≤X.length+j:=by rw[← hY];simp
    rw[hY] at hO2
    have HZ2:Hid ((pre++[x]).flatMap (fun x=>pk x.1)=Y++List.replicate can (-1)):=(by
     have h:=HZ.out
     rw[hcnt,hcan] at h
     simp only[Int.toNat_natCast] at h
     show _=_
     rw[h,← hY,List.append_assoc])
    clear HZ hY
    gi_wp2
    gi_loopw [45] (fun iv wr=>∃ (i:Nat) (v2:Value),i≤can∧iv=.int .i64 i∧IOwn w1.heap.size (w1.heap.size+1+1) (w1.heap.size+1) v2 (Y++List.replicate i (-1)) wr∧Kp w1.heap.size (w1.heap.size+1+1) W wr∧KeepsOthers W wr) (fun iv _=>can-(intOf iv).toNat)
    case atStart=>exact⟨0,v2,Nat.zero_le _,rfl,by simpa [IOwn] using hO2,hkp,hko⟩
    case round =>
     clear hO2 hc2 hs2 xc1 hkc
     obtain⟨i,v2,hi,rfl,hO2,hkp,hko⟩:=hrel
     have hs2:=hkp.low.size
     unfold IOwn at hO2
     have hc2:=hO2.box.cell
     by_cases hil:i<can
     ·have hln:(Y++List.replicate i (-1)).length=Y.length+i:=by simp
      rw[hln] at hO2
      gi_wp2_with (gi_at_builtin;refine wpListIn_append_h _ rfl (.tmp 47) (.tmp 48) 71 3 rfl (.int .i64 0) 1 8 Tryz.underlying71 infoInt rfl (by decide) (by decide) w1.heap.size v2 _ _ rfl (hO2.row.alloc _) _ 1 (icells [-1]) rfl (new_holds _ _ _ _ _ (by decide)) rfl (icells_one _) (by omega) (by simp;omega) ?_;intro v' u1 hown' hgrow hp;obtain⟨g',cap',rfl⟩:=ownsRow_succ hown';obtain⟨hv1,hO3,hk2,hp2,hal⟩:=(OwnR.alloc hO2 _).appended (by decide) (by decide) (by decide) (by omega) (by omega) (by simp;omega) hown' hgrow hp;have hc1:=hv1.cell;have hf1:=hv1.frozen)
      have hkp2:=hkp.trans ((Kp.alloc (W:=wr) (n₀:=w1.heap.size) (lo:=w1.heap.size+1+1) (by omega) (by omega) _).trans hp2)
      refine⟨⟨i+1,.slice (some ⟨g',0,none⟩) (Y.length+i+1) cap',by omega,by go_num,?_,hkp2,hko.trans ((KeepsOthers.alloc wr _).trans hk2)⟩,by simp[intOf];omega⟩
      rw[← icells_append] at hO3
      unfold IOwn
      rw[List.replicate_succ',← List.append_assoc]
      simpa [Nat.add_assoc] using hO3
     ·obtain rfl:i=can:=by omega
      gi_wp2
      exact⟨hko.from _,hkp,⟨v2,by rw[HZ2.out];exact hO2⟩,hB.trans hkp.low⟩
 case done =>
  rintro D ys W hD hys ⟨⟨v,hO⟩,hB⟩ hK
  have hc:=hO.box.cell
  gi_wp2
  refine⟨by simp,.inl ⟨_,_,rfl,run_takeDeferred hK,?_⟩⟩
  have hfm:(ys.flatMap fun x=>pk x.1)=keepL l N m:=by
   unfold keepL
   rw[← hys,List.flatMap_map]
  have hrw:=ownsRow_putObj hO.row (Obj.deferred none) hK rfl
  rw[hfm] at hrw
  refine⟨_,results_tmp2 rfl _ _ _,v,w1.heap.size,rfl,hB1.size,hrw,hB1.trans (Below.mono ((hB0.trans hB).trans (belowK_b (w:=w1) (Nat.le_refl _) W D _ _ (by omega) hK rfl rfl)) hB1.size)⟩
 case stop =>
  rintro D c pre W _ _ h _
  exact h.elim
end

section
open Go.RowKit
theorem run_append_h (w:World) (T E ty:TypeId) (z:Value) (size bytes:Nat) (hT:Tryz.prog.underlying T=some (.slice E)) (hinfo:(Tryz.prog.info? E).map (fun i=>(i.zero,i.size,i.bytes))=some (some z,size,bytes)) (hz1:z.cells.size=size) (hsz:0<size) (hby:bytes≤32)
  (base:Nat) (v:Value) (k:Nat) (xs:List Value) (hown:w.ownsRow base E size v k xs) (vx:Value) (m:Nat) (news:List Value) (hh:Holds w vx m news) (hl:news.length=m * size)
  (h1:∀ u∈news,u.oneCell'=true) (hk:k+m≤4398046511104) (hbase:base≤w.heap.size) :
  ∃ v' w',(Builtin.append_ #[T,T] ty #[v,vx]).run Tryz.prog w=.ok v' w'∧w'.ownsRow base E size v' (k+m) (xs++news)∧w.grownBy w' v.ownBlock∧(v'.ownBlock=v.ownBlock∨v'.ownBlock=some w.heap.size):=by
 obtain⟨i0,hi0,hz0,hzs,hz2⟩:=info_parts hinfo
 rcases hh with ⟨rfl,rfl,rfl⟩ | ⟨ad,c,rfl,_,hc⟩
 ·exact⟨v,w,run_append_owned_none (P:=Tryz.prog) (w:=w) base T ty E i0 size hT hi0 v k xs hown,by simpa using hown,World.grownBy.refl _ _,.inl rfl⟩
 ·obtain⟨v',w',hr,h2,h3,_,h5⟩:=run_append_own_at (P:=Tryz.prog) w base T ty E i0 z size bytes hT hi0 hz0 hzs hz2 hz1 hsz v k xs hown ad m c news hl hc h1 (by unfold maxLen;omega) (by
   have:(k+m) * bytes≤(k+m) * 32:=Nat.mul_le_mul_left _ hby
   omega) hbase
  exact⟨v',w',hr,h2,h3,h5⟩
theorem wpList_append_h {ops:Array Oper} {rest:List Oper} {o:Oper} {a:Act} {Q:Exit→Act→World→Prop} (w:World) (hw:Region.wanted o (yielded ops a.tmps)=true) (s x:Operand) (T E:TypeId) (z:Value) (size bytes:Nat)
  (ho:o.op=.call { callee:=.builtin .append,args:=#[s,x],argTypes:=#[T,T] }) (hT:Tryz.prog.underlying T=some (.slice E)) (hinfo:(Tryz.prog.info? E).map (fun i=>(i.zero,i.size,i.bytes))=some (some z,size,bytes)) (hz1:z.cells.size=size) (hsz:0<size) (hby:bytes≤32)
  (base:Nat) (v:Value) (k:Nat) (xs:List Value) (hs:a.eval s=v) (hown:w.ownsRow base E size v k xs) (vx:Value) (m:Nat) (news:List Value) (hx:a.eval x=vx) (hh:Holds w vx m news) (hl:news.length=m * size)
  (h1:∀ u∈news,u.oneCell'=true) (hk:k+m≤4398046511104) (hbase:base≤w.heap.size)
  (h:∀ v' w',w'.ownsRow base E size v' (k+m) (xs++news)→w.grownBy w' v.ownBlock→wpList Tryz.prog ops Q rest (a.put o.dst v') w'):wpList Tryz.prog ops Q (o::rest) a w:=by
 refine wpList_step fun K hK=>?_
 rw[if_pos hw]
 obtain⟨v',w',hr,h2,h3,_⟩:=run_append_h w T E o.type z size bytes hT hinfo hz1 hsz hby base v k xs hown vx m news hh hl h1 hk hbase
 unfold Oper.wp
 simp[execOp,ho,resolve,invoke,builtin,hs,hx,hr,Result.andThen]
 exact hK _ _ (h v' w' h2 h3)
theorem step_append_h {ops:Array Oper} {o:Oper} {a:Act} {K:Act→World→Prop} {Q:Exit→Act→World→Prop} {X:Prop} (w:World) (hgd:o.guard=none) (s x:Operand) (T E:TypeId) (z:Value) (size bytes:Nat)
  (ho:o.op=.call { callee:=.builtin .append,args:=#[s,x],argTypes:=#[T,T] }) (hT:Tryz.prog.underlying T=some (.slice E)) (hinfo:(Tryz.prog.info? E).map (fun i=>(i.zero,i.size,i.bytes))=some (some z,size,bytes)) (hz1:z.cells.size=size) (hsz:0<size) (hby:bytes≤32)
  (base:Nat) (v:Value) (k:Nat) (xs:List Value) (hs:a.eval s=v) (hown:w.ownsRow base E size v k xs) (vx:Value) (m:Nat) (news:List Value) (hx:a.eval x=vx) (hh:Holds w vx m news) (hl:news.length=m * size)
  (h1:∀ u∈news,u.oneCell'=true) (hk:k+m≤4398046511104) (hbase:base≤w.heap.size)
  (h:∀ v' w',w'.ownsRow base E size v' (k+m) (xs++news)→w.grownBy w' v.ownBlock→K (a.put o.dst v') w') :
  if Region.wanted o (yielded ops a.tmps)=true then Oper.wp Tryz.prog o a w K Q else X:=by
 have hw:Region.wanted o (yielded ops a.tmps)=true:=by simp[Region.wanted,hgd]
 rw[if_pos hw]
 obtain⟨v',w',hr,h2,h3,_⟩:=run_append_h w T E o.type z size bytes hT hinfo hz1 hsz hby base v k xs hown vx m news hh hl h1 hk hbase
 unfold Oper.wp
 simp[execOp,ho,resolve,invoke,builtin,hs,hx,hr,Result.andThen]
 exact h v' w' h2 h3
theorem owns_keep {w w':World} {base:Nat} {e:TypeId} {s:Nat} {v:Value} {n:Nat} {xs:List Value} (h:w.ownsRow base e s v n xs) (hk:Below w.heap.size w w'):w'.ownsRow base e s v n xs:=by
 refine⟨h.1,?_⟩
 rcases h.2 with h1 | ⟨g,cap,cur,q1,q2,q3,q4⟩
 ·exact .inl h1
 ·exact .inr ⟨g,cap,cur,q1,q2,(hk.block g (Array.getElem?_eq_some_iff.1 q3).1).trans q3,q4⟩
theorem owns_ge {w:World} {base:Nat} {e:TypeId} {s:Nat} {v:Value} {n:Nat} {xs:List Value} (h:w.ownsRow base e s v n xs) {j:Nat} (hj:v.ownBlock=some j):base≤j:=by
 rcases h.2 with ⟨rfl,_⟩ | ⟨g,cap,cur,rfl,hb,_⟩
 ·cases hj
 ·simp[Value.ownBlock] at hj;omega
def Low (W w:World):Prop:=Below W.heap.size W w
theorem low_drew (W w:World):Low W w.drew↔Low W w:=⟨fun h=>⟨h.os,h.tape,h.output,h.size,h.block⟩,fun h=>Below.dN h 1⟩
theorem low_alloc {W w:World} (o:Obj) (h:Low W w):Low W (w.alloc o):=Below.alloc h (Below.size h) o
structure St (W:World) (e:TypeId) (s:Nat) (v:Value) (k:Nat) (xs:List Value) (w:World):Prop where
 own:w.ownsRow W.heap.size e s v k xs
 low:Below W.heap.size W w
theorem st_drew (W:World) (e:TypeId) (s:Nat) (v:Value) (k:Nat) (xs:List Value) (w:World):St W e s v k xs w.drew↔St W e s v k xs w :=
 ⟨fun h=>⟨h.own,⟨h.low.os,h.low.tape,h.low.output,h.low.size,h.low.block⟩⟩,fun h=>⟨h.own,Below.dN h.low 1⟩⟩
theorem st_alloc {W:World} {e:TypeId} {s:Nat} {v:Value} {k:Nat} {xs:List Value} {w:World} (o:Obj) (h:St W e s v k xs w):St W e s v k xs (w.alloc o):=⟨h.own.alloc o,h.low.alloc h.low.size o⟩
end

section
open Go.RowKit
structure Ls (w:World) (g n:Nat) (Z:List Int) (u:World):Prop where
 low:Below w.heap.size w u
 own:u.ownsRow w.heap.size 3 1 (.slice (some ⟨g,0,none⟩) n n) n (icells Z)
theorem Ls.drewN {w u:World} {g n:Nat} {Z:List Int} (h:Ls w g n Z u) (k:Nat):Ls w g n Z (u.drewN k):=⟨Below.dN h.low k,h.own⟩
theorem Ls.keep {w u u':World} {g n:Nat} {Z:List Int} (h:Ls w g n Z u) (hb:Below u.heap.size u u'):Ls w g n Z u':=⟨h.low.trans (hb.mono h.low.size),owns_keep h.own hb⟩
theorem Ls.set {w u:World} {g n:Nat} {Z:List Int} (h:Ls w g n Z u) (k:Nat) (m:Int):Ls w g n (Z.set k m) (u.setCell ⟨g,k,none⟩ (.int .i64 m)):=by
 obtain⟨p1,g1⟩:=h.own.stored k (.int .i64 m)
 have e:(icells Z).set k (.int .i64 m)=icells (Z.set k m):=by simp[icells,List.map_set]
 rw[e] at p1
 exact⟨h.low.grown g1 h.low.size (fun j hj=>owns_ge h.own (by simpa [Value.ownBlock] using hj)),p1⟩
theorem Ls.len {w u:World} {g n:Nat} {Z:List Int} (h:Ls w g n Z u):Z.length=n:=by
 have:=h.own.1
 rw[icells_length,Nat.mul_one] at this
 exact this
theorem Ls.at {w u:World} {g n:Nat} {Z:List Int} (h:Ls w g n Z u) {k:Nat} {z:Int} (hz:Z[k]?=some z):u.cell? ⟨g,k,none⟩=some (.int .i64 z):=by
 have hl:=(List.getElem?_eq_some_iff.1 hz).1
 rw[h.len] at hl
 rw[h.own.cellAt k (by omega)]
 simp[icells,hz]
theorem low_grown {w u:World} (h:Low w u) (r:Option Nat):w.grownBy u r:=⟨Below.os h,Below.tape h,Below.output h,Below.size h,fun k hk _=>Below.block h k hk⟩
theorem grown_set (u:World) (g j:Nat) (v:Value):u.grownBy (u.setCell ⟨g,j,none⟩ v) (some g):=⟨rfl,rfl,rfl,(KeepsWalks.setCell u _ v).size,fun k _ hk=>Below.heap_setCell _ _ _ k (fun e=>hk (by rw[e]))⟩
theorem ls_other {W0 u:World} {n:Nat} {K:List Int} {G:Nat} (h:Ls W0 G n K u) {g:Nat} (hg:G≠g) (hw:W0.heap.size≤g) (j:Nat) (v:Value):Ls W0 G n K (u.setCell ⟨g,j,none⟩ v) :=
 ⟨h.low.grown (grown_set u g j v) h.low.size (fun q hq=>by cases hq;exact hw),h.own.kept (grown_set u g j v) (.inr (fun e=>by simp[Value.ownBlock] at e;omega))⟩
theorem grown_new {w u:World} {r:Option Nat} (h:w.grownBy u r) {B:Nat} (hB:w.heap.size≤B) (j:Nat) (v:Value):w.grownBy (u.setCell ⟨B,j,none⟩ v) r :=
 ⟨h.os,h.tape,h.output,Nat.le_trans h.size (grown_set u B j v).size,fun k hk hn=>(heap_setCell_other u _ k _ (fun e=>by simp at e;omega)).trans (h.block k hk hn)⟩
theorem grown_drewN {w u:World} {r:Option Nat} (h:w.grownBy u r) (k:Nat):w.grownBy (u.drewN k) r:=⟨h.os,h.tape,h.output,h.size,h.block⟩
end

section
open Go.RowKit
attribute [local simp] low_drew
theorem alloc_second (w:World) (o o2:Obj):((w.alloc o).alloc o2).heap[w.heap.size+1]?=some o2:=by
 have h:=_root_.Go.heap_alloc_new (w.alloc o) o2
 rw[World.size_alloc] at h
 exact h
end

section
open Go.RowKit
end

section
open Go.RowKit
def mkC (m:Mk):List Value:=[.int .u8 m.sg,.string ⟨m.tx.toArray⟩]
def mkcells (l:List Mk):List Value:=l.flatMap mkC
theorem infoMk:(Tryz.prog.info? 103).map (fun i=>(i.zero,i.size,i.bytes))=some (some (.agg #[.int .u8 0,.string ⟨#[]⟩]),2,24):=by kernel_rfl
theorem infoHk:(Tryz.prog.info? 59).map (fun i=>(i.zero,i.size,i.bytes))=some (some (.agg #[.int .i64 0,.int .i64 0,.int .i64 0,.int .i64 0,.slice none 0 0]),5,56):=by kernel_rfl
theorem mkcells_length (l:List Mk):(mkcells l).length=l.length * 2:=by
 induction l with
 | nil=>rfl
 | cons c l ih=>simp only[mkcells,List.flatMap_cons,List.length_append,List.length_cons] at ih ⊢;rw[ih];simp[mkC];omega
theorem mkcells_append (a b:List Mk):mkcells (a++b)=mkcells a++mkcells b:=by simp[mkcells]
theorem mkcells_one (l:List Mk):∀ u∈mkcells l,u.oneCell'=true:=by
 intro u hu
 simp only[mkcells,List.mem_flatMap,mkC] at hu
 obtain⟨c,_,h⟩:=hu
 simp only[List.mem_cons,List.not_mem_nil,or_false] at h
 rcases h with rfl | rfl<;>rfl
theorem mkcells_at (l:List Mk) (k:Nat) (hk:k<l.length):(mkcells l)[2 * k]?=some (.int .u8 l[k].sg)∧(mkcells l)[2 * k+1]?=some (.string ⟨l[k].tx.toArray⟩):=by
 induction l generalizing k with
 | nil=>simp at hk
 | cons c l ih =>
  cases k with
  | zero=>simp[mkcells,mkC]
  | succ k =>
   have h:=ih k (by simpa using hk)
   have e:∀ i,(mkcells (c::l))[2 * (k+1)+i]?=(mkcells l)[2 * k+i]?:=by
    intro i
    have:mkcells (c::l)=mkC c++mkcells l:=rfl
    rw[this,List.getElem?_append_right (by simp[mkC];omega)]
    congr 1
    simp[mkC];omega
   simp only[List.getElem_cons_succ]
   refine⟨by rw[← (h).1];exact e 0,by rw[← h.2];exact e 1⟩
def HMk (w:World) (v:Value) (l:List Mk):Prop:=Holds w v l.length (mkcells l)
theorem HMk.keep {w w':World} {v:Value} {l:List Mk} (h:HMk w v l) {N:Nat} (hk:Below N w w') (hN:w.heap.size≤N):HMk w' v l:=Holds.keep h fun k hk'=>hk.block k (by omega)
theorem HMk.at {w:World} {ao:Option Addr} {n c:Nat} {l:List Mk} (h:HMk w (.slice ao n c) l) (h0:0<l.length):∃ b off,ao=some ⟨b,off,none⟩∧b<w.heap.size ∧
  ∀ k (hk:k<l.length),w.cell? ⟨b,off+k * 2,none⟩=some (.int .u8 l[k].sg)∧w.cell? ⟨b,off+k * 2+1,none⟩=some (.string ⟨l[k].tx.toArray⟩):=by
 obtain⟨b,off,c',hv,hb,hc⟩:=Holds.at h (by rw[mkcells_length];omega)
 cases hv
 refine⟨b,off,rfl,hb,fun k hk=>?_⟩
 obtain⟨h0,h1⟩:=mkcells_at l k hk
 have hlen:=mkcells_length l
 have e:k * 2=2 * k:=by omega
 rw[e]
 refine⟨?_,?_⟩
 ·have:=hc (2 * k) (by omega)
  rw[← h0,this,List.getElem?_eq_getElem]
 ·have:=hc (2 * k+1) (by omega)
  rw[← h1,Nat.add_assoc,this,List.getElem?_eq_getElem]
theorem Low.mk {W w:World} (h:Low W w) {b off n c:Nat} {l:List Mk} (hl:HMk W (.slice (some ⟨b,off,none⟩) n c) l) (k:Nat) (hk:k<l.length) {x:Mk} (hx:l[k]=x):w.cell? ⟨b,off+k * 2,none⟩=some (.int .u8 x.sg)∧w.cell? ⟨b,off+k * 2+1,none⟩=some (.string ⟨x.tx.toArray⟩):=by
 obtain⟨b',off',e,_,hc⟩:=HMk.at (HMk.keep hl h (Nat.le_refl _)) (by omega)
 cases e
 rw[← hx]
 exact hc k hk
def hkV (h:Hk) (v:Value):Value:=.agg #[.int .i64 h.A,.int .i64 h.AN,.int .i64 h.B,.int .i64 h.BN,v]
def hkC (h:Hk) (v:Value):List Value:=[.int .i64 h.A,.int .i64 h.AN,.int .i64 h.B,.int .i64 h.BN,v]
def hkO (h:Hk) (v:Value):Obj:=.cells #[.int .i64 h.A,.int .i64 h.AN,.int .i64 h.B,.int .i64 h.BN,v] 59
def Hx (u:World) (b:Nat) (h:Hk) (v:Value):Prop:=u.heap[b]?=some (hkO h v)
section
variable {u u':World} {b:Nat} {h:Hk} {v:Value}
theorem Hx.cells (q:Hx u b h v):u.cell? ⟨b,0,none⟩=some (.int .i64 h.A)∧u.cell? ⟨b,1,none⟩=some (.int .i64 h.AN)∧u.cell? ⟨b,2,none⟩=some (.int .i64 h.B)∧u.cell? ⟨b,3,none⟩=some (.int .i64 h.BN)∧u.cell? ⟨b,4,none⟩=some v:=by
 unfold Hx hkO at q
 refine⟨?_,?_,?_,?_,?_⟩<;>rw[Lib.cell_of_heap q]<;>rfl
theorem Hx.frozen (q:Hx u b h v) (j:Nat):u.frozen? ⟨b,j,none⟩=false:=Lib.frozen_of_heap q j
theorem Hx.lt (q:Hx u b h v):b<u.heap.size:=(Array.getElem?_eq_some_iff.1 q).1
theorem Hx.low (q:Hx u b h v) (hg:Below u.heap.size u u'):Hx u' b h v:=(hg.block b q.lt).trans q
theorem Hx.keep (q:Hx u b h v) {g:Option Nat} (hg:u.grownBy u' g) (hr:some b≠g):Hx u' b h v:=(hg.block b q.lt hr).trans q
theorem Hx.new (w:World) (h:Hk) (v:Value):Hx (w.alloc (hkO h v)) w.heap.size h v:=_root_.Go.heap_alloc_new w _
end
def hkcells:List (Hk × Value)→List Value
 | []=>[]
 | (h,v)::l=>hkC h v++hkcells l
theorem hkcells_length (l:List (Hk × Value)):(hkcells l).length=l.length * 5:=by
 induction l with
 | nil=>rfl
 | cons c l ih =>
  obtain⟨h,v⟩:=c
  simp only[hkcells,List.length_append,List.length_cons]
  rw[ih]
  simp[hkC];omega
theorem hkcells_append (a b:List (Hk × Value)):hkcells (a++b)=hkcells a++hkcells b:=by
 induction a with
 | nil=>rfl
 | cons c l ih =>
  obtain⟨h,v⟩:=c
  simp only[List.cons_append,hkcells,ih,List.append_assoc]
theorem hkcells_at (l:List (Hk × Value)) (k:Nat) (hk:k<l.length):(hkcells l)[5 * k]?=some (.int .i64 l[k].1.A)∧(hkcells l)[5 * k+1]?=some (.int .i64 l[k].1.AN)∧(hkcells l)[5 * k+2]?=some (.int .i64 l[k].1.B)∧(hkcells l)[5 * k+3]?=some (.int .i64 l[k].1.BN)∧(hkcells l)[5 * k+4]?=some l[k].2:=by
 induction l generalizing k with
 | nil=>simp at hk
 | cons c l ih =>
  obtain⟨x,y⟩:=c
  cases k with
  | zero=>simp[hkcells,hkC]
  | succ k =>
   have h:=ih k (by simpa using hk)
   have e:∀ i,(hkcells ((x,y)::l))[5 * (k+1)+i]?=(hkcells l)[5 * k+i]?:=by
    intro i
    have:hkcells ((x,y)::l)=hkC x y++hkcells l:=rfl
    rw[this,List.getElem?_append_right (by simp[hkC];omega)]
    congr 1
    simp[hkC];omega
   simp only[List.getElem_cons_succ]
   refine⟨by rw[← (h).1];exact e 0,by rw[← h.2.1];exact e 1,by rw[← h.2.2.1];exact e 2,by rw[← h.2.2.2.1];exact e 3,by rw[← h.2.2.2.2];exact e 4⟩
structure HHp (w:World) (v:Value) (p:List (Hk × Value)):Prop where
 row:Holds w v p.length (hkcells p)
 ins:∀ x∈p,HMk w x.2 x.1.ls
def HHk (w:World) (v:Value) (l:List Hk):Prop:=∃ p:List (Hk × Value),p.map (·.1)=l∧HHp w v p
theorem HHp.keep {w w':World} {v:Value} {p:List (Hk × Value)} (h:HHp w v p) {N:Nat} (hk:Below N w w') (hN:w.heap.size≤N):HHp w' v p :=
 ⟨Holds.keep h.row fun k hk'=>hk.block k (by omega),fun x hx=>HMk.keep (h.ins x hx) hk hN⟩
theorem HHk.keep {w w':World} {v:Value} {l:List Hk} (h:HHk w v l) {N:Nat} (hk:Below N w w') (hN:w.heap.size≤N):HHk w' v l:=by
 obtain⟨p,hp,h⟩:=h
 exact⟨p,hp,h.keep hk hN⟩
theorem HHp.at {w:World} {ao:Option Addr} {n c:Nat} {l:List (Hk × Value)} (h:HHp w (.slice ao n c) l) (h0:0<l.length):∃ b off,ao=some ⟨b,off,none⟩∧b<w.heap.size ∧
  ∀ k (hk:k<l.length),w.cell? ⟨b,off+k * 5,none⟩=some (.int .i64 l[k].1.A)∧w.cell? ⟨b,off+k * 5+1,none⟩=some (.int .i64 l[k].1.AN)∧w.cell? ⟨b,off+k * 5+2,none⟩=some (.int .i64 l[k].1.B)∧w.cell? ⟨b,off+k * 5+3,none⟩=some (.int .i64 l[k].1.BN)∧w.cell? ⟨b,off+k * 5+4,none⟩=some l[k].2:=by
 obtain⟨b,off,c',hv,hb,hc⟩:=Holds.at h.row (by rw[hkcells_length];omega)
 cases hv
 refine⟨b,off,rfl,hb,fun k hk=>?_⟩
 obtain⟨h0,h1,h2,h3,h4⟩:=hkcells_at l k hk
 have hlen:=hkcells_length l
 have e:k * 5=5 * k:=by omega
 rw[e]
 refine⟨?_,?_,?_,?_,?_⟩
 ·have:=hc (5 * k) (by omega)
  rw[← h0,this,List.getElem?_eq_getElem]
 ·have:=hc (5 * k+1) (by omega)
  rw[← h1,Nat.add_assoc,this,List.getElem?_eq_getElem]
 ·have:=hc (5 * k+2) (by omega)
  rw[← h2,Nat.add_assoc,this,List.getElem?_eq_getElem]
 ·have:=hc (5 * k+3) (by omega)
  rw[← h3,Nat.add_assoc,this,List.getElem?_eq_getElem]
 ·have:=hc (5 * k+4) (by omega)
  rw[← h4,Nat.add_assoc,this,List.getElem?_eq_getElem]
theorem HMk.form {w:World} {v:Value} {l:List Mk} (h:HMk w v l):∃ ao c,v=.slice ao l.length c:=Holds.form h
theorem run_append_w (w:World) (T E ty:TypeId) (z:Value) (size bytes:Nat) (hT:Tryz.prog.underlying T=some (.slice E)) (hinfo:(Tryz.prog.info? E).map (fun i=>(i.zero,i.size,i.bytes))=some (some z,size,bytes)) (hz1:z.cells.size=size) (hsz:0<size) (hby:bytes≤64)
  (base:Nat) (v:Value) (k:Nat) (xs:List Value) (hown:w.ownsRow base E size v k xs) (vx:Value) (m:Nat) (news:List Value) (hh:Holds w vx m news) (hl:news.length=m * size)
  (h1:∀ u∈news,u.oneCell'=true) (hk:k+m≤2199023255552) (hbase:base≤w.heap.size) :
  ∃ v' w',(Builtin.append_ #[T,T] ty #[v,vx]).run Tryz.prog w=.ok v' w'∧w'.ownsRow base E size v' (k+m) (xs++news)∧w.grownBy w' v.ownBlock∧(v'.ownBlock=v.ownBlock∨v'.ownBlock=some w.heap.size):=by
 obtain⟨i0,hi0,hz0,hzs,hz2⟩:=info_parts hinfo
 rcases hh with ⟨rfl,rfl,rfl⟩ | ⟨ad,c,rfl,_,hc⟩
 ·exact⟨v,w,run_append_owned_none (P:=Tryz.prog) (w:=w) base T ty E i0 size hT hi0 v k xs hown,by simpa using hown,World.grownBy.refl _ _,.inl rfl⟩
 ·obtain⟨v',w',hr,h2,h3,_,h5⟩:=run_append_own_at (P:=Tryz.prog) w base T ty E i0 z size bytes hT hi0 hz0 hzs hz2 hz1 hsz v k xs hown ad m c news hl hc h1 (by unfold maxLen;omega) (by
   have:(k+m) * bytes≤(k+m) * 64:=Nat.mul_le_mul_left _ hby
   omega) hbase
  exact⟨v',w',hr,h2,h3,h5⟩
theorem wpList_append_w {ops:Array Oper} {rest:List Oper} {o:Oper} {a:Act} {Q:Exit→Act→World→Prop} (w:World) (hw:Region.wanted o (yielded ops a.tmps)=true) (s x:Operand) (T E:TypeId) (z:Value) (size bytes:Nat)
  (ho:o.op=.call { callee:=.builtin .append,args:=#[s,x],argTypes:=#[T,T] }) (hT:Tryz.prog.underlying T=some (.slice E)) (hinfo:(Tryz.prog.info? E).map (fun i=>(i.zero,i.size,i.bytes))=some (some z,size,bytes)) (hz1:z.cells.size=size) (hsz:0<size) (hby:bytes≤64)
  (base:Nat) (v:Value) (k:Nat) (xs:List Value) (hs:a.eval s=v) (hown:w.ownsRow base E size v k xs) (vx:Value) (m:Nat) (news:List Value) (hx:a.eval x=vx) (hh:Holds w vx m news) (hl:news.length=m * size)
  (h1:∀ u∈news,u.oneCell'=true) (hk:k+m≤2199023255552) (hbase:base≤w.heap.size)
  (h:∀ v' w',w'.ownsRow base E size v' (k+m) (xs++news)→w.grownBy w' v.ownBlock→(v'.ownBlock=v.ownBlock∨v'.ownBlock=some w.heap.size)→wpList Tryz.prog ops Q rest (a.put o.dst v') w'):wpList Tryz.prog ops Q (o::rest) a w:=by
 refine wpList_step fun K hK=>?_
 rw[if_pos hw]
 obtain⟨v',w',hr,h2,h3,h4⟩:=run_append_w w T E o.type z size bytes hT hinfo hz1 hsz hby base v k xs hown vx m news hh hl h1 hk hbase
 unfold Oper.wp
 simp[execOp,ho,resolve,invoke,builtin,hs,hx,hr,Result.andThen]
 exact hK _ _ (h v' w' h2 h3 h4)
theorem hnil_row (w:World) (base:Nat) (e:TypeId) (s:Nat):w.ownsRow base e s (.slice none 0 0) 0 []:=⟨by simp,.inl ⟨rfl,rfl⟩⟩
end

section
open Go.RowKit
end

section
open Go.RowKit
theorem bat (l:List UInt8) (k:Nat) (h:k<(⟨l.toArray⟩:ByteArray).size):(⟨l.toArray⟩:ByteArray)[k]'h=l[k]'(h):=rfl
attribute [local go_sem] bat ByteArray.extract_mk
theorem wrap_s {n:Int} (h0:-9223372036854775808≤n) (h1:n≤9223372036854775807):IntKind.i64.wrap n=n:=by
 simp[IntKind.wrap,IntKind.bits,IntKind.signed]
 split<;>omega
end

section
open Go.RowKit
def mkO (m:Mk):Obj:=.cells #[.int .u8 m.sg,.string ⟨m.tx.toArray⟩] 103
def Mx (u:World) (b:Nat) (m:Mk):Prop:=u.heap[b]?=some (mkO m)
section
variable {u u':World} {b:Nat} {m:Mk}
theorem Mx.cells (q:Mx u b m):u.cell? ⟨b,0,none⟩=some (.int .u8 m.sg)∧u.cell? ⟨b,1,none⟩=some (.string ⟨m.tx.toArray⟩):=by
 unfold Mx mkO at q
 refine⟨?_,?_⟩<;>rw[Lib.cell_of_heap q]<;>rfl
theorem Mx.lt (q:Mx u b m):b<u.heap.size:=(Array.getElem?_eq_some_iff.1 q).1
theorem Mx.low (q:Mx u b m) (hg:Below u.heap.size u u'):Mx u' b m:=(hg.block b q.lt).trans q
theorem Mx.new (w:World) (m:Mk):Mx (w.alloc (mkO m)) w.heap.size m:=_root_.Go.heap_alloc_new w _
end
theorem Hx.row {W:World} {b:Nat} {h:Hk} {v:Value} (q:Hx W b h v) (n:Nat):Hx (W.drewN n) b h v:=q
end

section
open Go.RowKit
theorem step_want {b:Bool} {X Y:Prop} (h:b=true) (hX:X):if b=true then X else Y:=by
 rw[if_pos h]
 exact hX
theorem go_take {P:Program} {S:World→Prop} {md:Region.Mode} {ops:Array Oper} {Q:Exit→Act→World→Prop} {fuel:Nat} {listed:Array Bool} {A:Act} {w:World}
  (i d:Nat) (op:Oper) (v:Value) (hi:ops[i]?=some op) (hd:op.dst=some d) (hs:Region.noSelect ops=true) (hf:Region.free md ops listed i=true) (hr:(Region.ready md ops listed).contains i=true)
  (hQ:∀ c a w,Q (.panic c) (a.put op.dst v) w→Q (.panic c) a w) (hy:YieldsIf P ops S op v A) (hS:S w)
  (h:wpAnyH P md ops Q S fuel (listed.setIfInBounds i true) (A.put (some d) v) w):wpAnyH P md ops Q S (fuel+1) listed A w :=
 wpAnyH_take hi hs hf hr hQ hy hS (by rw[hd];exact h)
theorem go_callH {P:Program} {S:World→Prop} {md:Region.Mode} {ops:Array Oper} {Q:Exit→Act→World→Prop} {fuel:Nat} {listed:Array Bool} {A:Act} {w:World}
  (i d:Nat) (op:Oper) (hi:ops[i]?=some op) (hd:op.dst=some d) (hr:Region.ready md ops listed=[i]) (hwt:Region.wanted op (yielded ops A.tmps)=true)
  (F:Nat) (xs:Array Operand) (ts:Array TypeId) (ho:op.op=.call { callee:=.value (.func F),args:=xs,argTypes:=ts })
  (args:Array Value) (hx:xs.map A.eval=args) (hen:∀ args w,(callFunc F args).run P w=.ok (.enter F args) w) (v:Value)
  (hc:Calls P F args w fun e w'=>e=.returned v∧S w')
  (h:∀ w',S w'→wpAnyH P md ops Q S fuel (listed.setIfInBounds i true) (A.put (some d) v) w') :
  wpAnyH P md ops Q S (fuel+1) listed A w:=by
 refine wpAnyH_ready hr (by simp) (AllReadyH.cons hi (fun K hK=>?_) AllReadyH.nil)
 refine step_want hwt ?_
 unfold Oper.wp
 have e:(execOp A.eval op).run P w=.ok (.enter F args) w:=by
  have h1:=hen args w
  simp only[execOp,ho,resolve,invoke]
  have h2:A.eval (.func F)=.func (.func F) #[] #[]:=rfl
  simp only[h2,Deferred.ofValue,Sem.run_bind,Sem.run_pure,Result.andThen_ok,hx,Array.append_empty,Array.empty_append]
  exact h1
 rw[e,Oper.upon_enter]
 refine hc.mono ?_
 rintro e w' ⟨rfl,hb⟩
 exact hK.out _ _ hb (fun hu=>by rw[hd];exact h w' hu)
theorem go_callE {P:Program} {S:World→Prop} {md:Region.Mode} {ops:Array Oper} {Q:Exit→Act→World→Prop} {fuel:Nat} {listed:Array Bool} {A:Act} {w:World}
  (i d:Nat) (op:Oper) (hi:ops[i]?=some op) (hd:op.dst=some d) (hr:Region.ready md ops listed=[i]) (hwt:Region.wanted op (yielded ops A.tmps)=true)
  (F:Nat) (x:Operand) (xs:Array Operand) (ts:Array TypeId) (ho:op.op=.call { callee:=.value x,args:=xs,argTypes:=ts })
  (cap:Array Value) (hxv:A.eval x=.func (.func F) #[] cap) (args:Array Value) (hx:xs.map A.eval=args) (hen:∀ args w,(callFunc F args).run P w=.ok (.enter F args) w) (R:Value→World→Prop)
  (hc:Calls P F (args++cap) w fun e w'=>∃ v,e=.returned v∧S w'∧R v w')
  (h:∀ v w',S w'→R v w'→wpAnyH P md ops Q S fuel (listed.setIfInBounds i true) (A.put (some d) v) w') :
  wpAnyH P md ops Q S (fuel+1) listed A w:=by
 refine wpAnyH_ready hr (by simp) (AllReadyH.cons hi (fun K hK=>?_) AllReadyH.nil)
 refine step_want hwt ?_
 unfold Oper.wp
 have e:(execOp A.eval op).run P w=.ok (.enter F (args++cap)) w:=by
  have h1:=hen (args++cap) w
  simp only[execOp,ho,resolve,invoke]
  simp only[hxv,Deferred.ofValue,Sem.run_bind,Sem.run_pure,Result.andThen_ok,hx,Array.empty_append]
  exact h1
 rw[e,Oper.upon_enter]
 refine hc.mono ?_
 rintro e w' ⟨v,rfl,hb,hR⟩
 exact hK.out _ _ hb (fun hu=>by rw[hd];exact h v w' hu hR)
theorem go_val {P:Program} {S:World→Prop} {md:Region.Mode} {ops:Array Oper} {Q:Exit→Act→World→Prop} {fuel:Nat} {listed:Array Bool} {A:Act} {w:World}
  (i d:Nat) (op:Oper) (hi:ops[i]?=some op) (hd:op.dst=some d) (hr:Region.ready md ops listed=[i]) (hwt:Region.wanted op (yielded ops A.tmps)=true)
  (v:Value) (w':World) (he:(execOp A.eval op).run P w=.ok (.value v) w') (hS:S w')
  (h:wpAnyH P md ops Q S fuel (listed.setIfInBounds i true) (A.put (some d) v) w') :
  wpAnyH P md ops Q S (fuel+1) listed A w:=by
 refine wpAnyH_ready hr (by simp) (AllReadyH.cons hi (fun K hK=>?_) AllReadyH.nil)
 refine step_want hwt ?_
 unfold Oper.wp
 rw[he,Oper.upon_value]
 exact hK.out _ _ hS (fun _=>by rw[hd];exact h)
theorem go_skip {P:Program} {S:World→Prop} {md:Region.Mode} {ops:Array Oper} {Q:Exit→Act→World→Prop} {fuel:Nat} {listed:Array Bool} {A:Act} {w:World}
  (i:Nat) (op:Oper) (hi:ops[i]?=some op) (hd:op.dst=none) (hr:Region.ready md ops listed=[i]) (hwt:Region.wanted op (yielded ops A.tmps)=true)
  (w':World) (he:(execOp A.eval op).run P w=.ok .skip w') (hS:S w')
  (h:wpAnyH P md ops Q S fuel (listed.setIfInBounds i true) A w') :
  wpAnyH P md ops Q S (fuel+1) listed A w:=by
 refine wpAnyH_ready hr (by simp) (AllReadyH.cons hi (fun K hK=>?_) AllReadyH.nil)
 refine step_want hwt ?_
 unfold Oper.wp
 rw[he,Oper.upon_skip]
 exact hK.out _ _ hS (fun _=>by rw[hd];exact h)
theorem load_int {u:World} {a:Addr} {z:Int} (h:u.cell? a=some (.int .i64 z)) {op:Oper} (x:Operand) (ho:op.op=.load 3 x) {ev:Operand→Value} (hx:ev x=.pointer (some a)) :
  (execOp ev op).run Tryz.prog u=.ok (.value (.int .i64 z)) u:=by
 simp only[execOp,ho,hx]
 go_simp
end

section
open Go.RowKit
theorem load_hk {u:World} {b:Nat} {h:Hk} {v:Value} (q:Hx u b h v) {op:Oper} (x:Operand) (ho:op.op=.load 59 x) {ev:Operand→Value} (hx:ev x=.pointer (some ⟨b,0,none⟩)) :
  (execOp ev op).run Tryz.prog u=.ok (.value (hkV h v)) u:=by
 have hL:(loadVar 59 ⟨b,0,none⟩).run Tryz.prog u=.ok (hkV h v) u:=run_loadVar_row u b _ _ _ _ _ q Tryz.underlying59 rfl (by kernel_rfl)
 simp only[execOp,ho,hx,Instr.loadAt,Instr.sureAddr,Sem.run_bind,Sem.run_pure,Result.andThen_ok,hL]
end

section
open Go.RowKit
def HOk (p:List (Hk × Value)):Prop:=p.length≤1099511627776∧∀ x∈p,x.1.ls.length≤1099511627776∧∀ m∈x.1.ls,m.tx.length≤1099511627776
theorem HHp.take {w W:World} {b off n c:Nat} {p:List (Hk × Value)} (h:HHp w (.slice (some ⟨b,off,none⟩) n c) p) (hB:Below w.heap.size w W) (k:Nat) (hk:k<p.length) {x:Hk} {y:Value} (hx:p[k]=(x,y)):(W.cell? ⟨b,off+k * 5,none⟩=some (.int .i64 x.A)∧W.cell? ⟨b,off+k * 5+1,none⟩=some (.int .i64 x.AN)∧W.cell? ⟨b,off+k * 5+2,none⟩=some (.int .i64 x.B)∧W.cell? ⟨b,off+k * 5+3,none⟩=some (.int .i64 x.BN)∧W.cell? ⟨b,off+k * 5+4,none⟩=some y)∧HMk W y x.ls:=by
 have h2:=h.keep hB (Nat.le_refl _)
 obtain⟨b',off',e,_,hc⟩:=h2.at (by omega)
 cases e
 have:=hc k hk
 rw[hx] at this
 refine⟨this,?_⟩
 have hi:=h2.ins p[k] (List.getElem_mem hk)
 rw[hx] at hi
 exact hi
theorem errs_drop {l:List Hk} {k:Nat} (hk:k<l.length):errs (l.drop k)=if chkH l[k]≠0 then chkH l[k] else errs (l.drop (k+1)):=by
 rw[List.drop_eq_getElem_cons hk]
 rfl
end

section
open Go.RowKit
end

section
open Go.RowKit
theorem exec_ixH {u:World} {b off n c i:Nat} (hi:i<n) {op:Oper} (x y:Operand) (ho:op.op=.indexAddr 34 x y) {ev:Operand→Value} (hx:ev x=.slice (some ⟨b,off,none⟩) n c) (hy:ev y=.int .i64 (i:Int)) :
  (execOp ev op).run Tryz.prog u=.ok (.value (.pointer (some ⟨b,off+i * 5,none⟩))) u:=by
 have i1:0≤(i:Int):=by omega
 have i2:(i:Int)<(n:Int):=by omega
 simp only[execOp,ho,hx,hy]
 go_simp
def HkAt (u:World) (b o:Nat) (x:Hk) (y:Value):Prop:=u.cell? ⟨b,o,none⟩=some (.int .i64 x.A)∧u.cell? ⟨b,o+1,none⟩=some (.int .i64 x.AN)∧u.cell? ⟨b,o+2,none⟩=some (.int .i64 x.B)∧u.cell? ⟨b,o+3,none⟩=some (.int .i64 x.BN)∧u.cell? ⟨b,o+4,none⟩=some y
theorem HkAt.low {u u':World} {b o:Nat} {x:Hk} {y:Value} (h:HkAt u b o x y) (hB:Low u u'):HkAt u' b o x y:=by
 have key:∀ (q:Addr) (z:Value),u.cell? q=some z→u'.cell? q=some z:=fun q z hz=>(World.cell?_of_block (w:=u) (Below.block hB _ (World.block_lt_of_cell? _ _ hz))).trans hz
 exact⟨key _ _ h.1,key _ _ h.2.1,key _ _ h.2.2.1,key _ _ h.2.2.2.1,key _ _ h.2.2.2.2⟩
theorem load_hkR {u:World} {b o:Nat} {h:Hk} {yo:Option Addr} {n yc:Nat} (q:HkAt u b o h (.slice yo n yc)) {op:Oper} (x:Operand) (ho:op.op=.load 59 x) {ev:Operand→Value} (hx:ev x=.pointer (some ⟨b,o,none⟩)) :
  (execOp ev op).run Tryz.prog u=.ok (.value (hkV h (.slice yo n yc))) u:=by
 obtain⟨d0,d1,d2,d3,d4⟩:=q
 unfold hkV
 simp only[execOp,ho,hx]
 go_simp
end

section
open Go.RowKit
theorem own_lt {u:World} {base:Nat} {e:TypeId} {s:Nat} {v:Value} {n:Nat} {xs:List Value} (h:u.ownsRow base e s v n xs) {g:Nat} (hg:v.ownBlock=some g):g<u.heap.size:=by
 rcases h.2 with ⟨rfl,_⟩ | ⟨b,cap,cur,rfl,_,hb,_⟩
 ·cases hg
 ·simp[Value.ownBlock] at hg
  subst hg
  exact (Array.getElem?_eq_some_iff.1 hb).1
theorem own_ne {u:World} {base base':Nat} {e e':TypeId} {s s':Nat} {v v':Value} {n n':Nat} {xs xs':List Value} (h:u.ownsRow base e s v n xs) (h':u.ownsRow base' e' s' v' n' xs') (he:e≠e') {g:Nat} (hg:v.ownBlock=some g):v'.ownBlock≠some g:=by
 intro hg'
 rcases h.2 with ⟨rfl,_⟩ | ⟨b,cap,cur,rfl,_,hb,_⟩
 ·cases hg
 ·rcases h'.2 with ⟨rfl,_⟩ | ⟨b',cap',cur',rfl,_,hb',_⟩
  ·cases hg'
  ·simp[Value.ownBlock] at hg hg'
   subst hg hg'
   rw[hb] at hb'
   simp at hb'
   exact he hb'.2
structure Hs (w:World) (ov:Value) (P:List (Hk × Value)) (u:World):Prop where
 low:Below w.heap.size w u
 own:u.ownsRow w.heap.size 59 5 ov P.length (hkcells P)
 ins:∀ x∈P,u.ownsRow w.heap.size 103 2 x.2 x.1.ls.length (mkcells x.1.ls)
theorem Hs.nil (w:World):Hs w (.slice none 0 0) [] w:=⟨Below.refl _ _,hnil_row _ _ _ _,fun _ h=>by cases h⟩
theorem Hs.alloc {w:World} {ov:Value} {P:List (Hk × Value)} {u:World} (h:Hs w ov P u) (o:Obj):Hs w ov P (u.alloc o):=⟨h.low.alloc h.low.size o,h.own.alloc o,fun x hx=>(h.ins x hx).alloc o⟩
theorem Hs.drewN {w:World} {ov:Value} {P:List (Hk × Value)} {u:World} (h:Hs w ov P u) (n:Nat):Hs w ov P (u.drewN n):=⟨Below.dN h.low n,h.own,h.ins⟩
theorem Hs.lt {w:World} {ov:Value} {P:List (Hk × Value)} {u:World} (h:Hs w ov P u):(∀ k,ov.ownBlock=some k→k<u.heap.size)∧∀ x∈P,∀ k,x.2.ownBlock=some k→k<u.heap.size:=⟨fun _ hk=>own_lt h.own hk,fun x hx _ hk=>own_lt (h.ins x hx) hk⟩
theorem Hs.holds {w:World} {ov:Value} {P:List (Hk × Value)} {u:World} (h:Hs w ov P u):HHp u ov P:=⟨holds_of h.own,fun x hx=>holds_of (h.ins x hx)⟩
theorem Hs.more {w:World} {ov:Value} {P:List (Hk × Value)} {u u':World} (h:Hs w ov P u) {x:Hk} {y ov':Value} (hy:u.ownsRow w.heap.size 103 2 y x.ls.length (mkcells x.ls)) (hg:u.grownBy u' ov.ownBlock) (ho:u'.ownsRow w.heap.size 59 5 ov' (P.length+1) (hkcells P++hkC x y)):Hs w ov' (P++[(x,y)]) u':=by
 have key:∀ {v:Value} {n:Nat} {xs:List Value},u.ownsRow w.heap.size 103 2 v n xs→u'.ownsRow w.heap.size 103 2 v n xs:=by
  intro v n xs hv
  refine⟨hv.1,?_⟩
  rcases hv.2 with q | ⟨b,cap,cur,rfl,q2,q3,q4⟩
  ·exact .inl q
  ·refine .inr ⟨b,cap,cur,rfl,q2,?_,q4⟩
   rw[hg.block b (Array.getElem?_eq_some_iff.1 q3).1 (fun e=>own_ne h.own hv (by decide) e.symm rfl)]
   exact q3
 refine⟨h.low.grown hg h.low.size (fun j hj=>owns_ge h.own hj),?_,fun z hz=>?_⟩
 ·rw[hkcells_append,List.length_append]
  have e:hkcells [(x,y)]=hkC x y:=by simp[hkcells]
  rw[e]
  exact ho
 ·rcases List.mem_append.1 hz with hz | hz
  ·exact key (h.ins z hz)
  ·rw[List.mem_singleton.1 hz]
   exact key hy
theorem one_row (w:World) (x:Hk) (y:Value):Holds (w.alloc (hkO x y)) (.slice (some ⟨w.heap.size,0,none⟩) 1 1) 1 (hkC x y):=new_holds w #[.int .i64 x.A,.int .i64 x.AN,.int .i64 x.B,.int .i64 x.BN,y] 59 1 1 (by decide)
theorem hkC_one (x:Hk) {o:Option Addr} {n c:Nat}:∀ u∈hkC x (.slice o n c),u.oneCell'=true:=by
 intro u hu
 simp only[hkC,List.mem_cons,List.not_mem_nil,or_false] at hu
 rcases hu with rfl | rfl | rfl | rfl | rfl<;>rfl
theorem Hx.setl {u:World} {b:Nat} {h:Hk} {v:Value} (q:Hx u b h v) (z:Value):Hx (u.setCell ⟨b,4,none⟩ z) b h z:=heap_setCell_same u b 4 _ _ z q
end

section
open Go.RowKit
def Sd (sg no:Int):Prop:=sg=45∧no=43∨sg=43∧no=45
theorem sd_iff {sg no:Int} (h:Sd sg no) (s:Int):(s≠no∧okS s=true)↔(s=32∨s=sg):=by
 simp only[okS,Bool.or_eq_true,decide_eq_true_eq]
 rcases h with ⟨rfl,rfl⟩ | ⟨rfl,rfl⟩<;>omega
theorem pk_take {sg no:Int} (h:Sd sg no) {s:Int} (hs:s=32∨s=sg) {out R:List (List UInt8)} {tx:List UInt8} {l:List Mk} (hI:out++(if s≠no∧okS s=true then tx::pkL no l else pkL no l)=R):out++[tx]++pkL no l=R:=by
 rw[if_pos ((sd_iff h s).2 hs)] at hI
 rw[← hI]
 simp
theorem pk_pass {sg no:Int} (h:Sd sg no) {s:Int} (h1:s≠32) (h2:s≠sg) {out R:List (List UInt8)} {tx:List UInt8} {l:List Mk} (hI:out++(if s≠no∧okS s=true then tx::pkL no l else pkL no l)=R):out++pkL no l=R:=by
 rw[if_neg (fun q=>by rcases (sd_iff h s).1 q with q | q<;>contradiction)] at hI
 exact hI
theorem owns_less {u:World} {base base':Nat} {e:TypeId} {s:Nat} {v:Value} {n:Nat} {xs:List Value} (h:u.ownsRow base e s v n xs) (hb:base'≤base):u.ownsRow base' e s v n xs:=by
 refine⟨h.1,?_⟩
 rcases h.2 with q | ⟨b,cap,cur,rfl,q2,q3,q4⟩
 ·exact .inl q
 ·exact .inr ⟨b,cap,cur,rfl,Nat.le_trans hb q2,q3,q4⟩
theorem hside_o (h:Hk) (v:Value) (sd no:Int) (HSD:Hid (Sd sd no)) (w:World) (hv:HMk w v h.ls) (hl:h.ls.length≤1099511627776) (R:List (List UInt8)) (HR:Hid (pkL no h.ls=R)):Calls Tryz.prog 83 #[hkV h v,.int .u8 sd] w fun e w'=>∃ v',e=.returned v'∧w'.ownsRow w.heap.size 9 1 v' R.length (scells R)∧Below w.heap.size w w':=by
 obtain⟨A,AN,B,BN,ls⟩:=h
 dsimp only at hv hl HR
 obtain⟨lo,lc,rfl⟩:=HMk.form hv
 have hx:=Hx.new w ⟨A,AN,B,BN,ls⟩ (.slice lo ls.length lc)
 have hBl:Below w.heap.size w (w.alloc (hkO ⟨A,AN,B,BN,ls⟩ (.slice lo ls.length lc))):=(Below.refl _ w).alloc (Nat.le_refl _) _
 have hv1:=HMk.keep hv hBl (Nat.le_refl _)
 obtain⟨_,_,_,_,x4⟩:=hx.cells
 have hW:w.alloc (Obj.cells #[Value.int IntKind.i64 A,Value.int IntKind.i64 AN,Value.int IntKind.i64 B,Value.int IntKind.i64 BN,.slice lo ls.length lc] 59)=w.alloc (hkO ⟨A,AN,B,BN,ls⟩ (.slice lo ls.length lc)):=rfl
 have HSZ:Hid ((w.alloc (hkO ⟨A,AN,B,BN,ls⟩ (.slice lo ls.length lc))).heap.size=w.heap.size+1):=(by show _=_;simp)
 unfold hkV
 dsimp only
 clear hv hx
 generalize w.alloc (hkO ⟨A,AN,B,BN,ls⟩ (.slice lo ls.length lc))=W at *
 go_enter Tryz.func83,Tryz.ntmps83
 go_wp2
 clear hW x4
 go_loopw [5,11] (fun ov iv wr=>∃ (k:Nat) (out:List (List UInt8)),k≤ls.length∧out.length≤k∧iv=.int .i64 (k:Int)∧(∃ oo oc,ov=.slice oo out.length oc)∧St W 9 1 ov out.length (scells out) wr∧Hid (out++pkL no (ls.drop k)=R)) (fun _ iv _=>ls.length-(intOf iv).toNat)
 case atStart=>exact⟨0,[],Nat.zero_le _,Nat.le_refl _,by go_num,⟨_,_,rfl⟩,⟨hnil_row _ _ _ _,Below.refl _ _⟩,HR⟩
 case round =>
  obtain⟨k,out,hk,hok,rfl,⟨oo,oc,rfl⟩,hS,HI⟩:=hrel
  by_cases hlt:k<ls.length
  ·obtain⟨b,off,rfl,hb,_⟩:=HMk.at hv1 (by omega)
   obtain⟨m,hm⟩:∃ m,ls[k]=m:=⟨_,rfl⟩
   obtain⟨c0,c1⟩:=Low.mk hS.low hv1 k hlt hm
   have HI2:Hid (out++(if m.sg≠no∧okS m.sg=true then m.tx::pkL no (ls.drop (k+1)) else pkL no (ls.drop (k+1)))=R):=(by
    show _=_
    rw[← HI.out,List.drop_eq_getElem_cons hlt,hm]
    rfl)
   have i1:0≤(k:Int):=by omega
   have i2:(k:Int)<(ls.length:Int):=by omega
   obtain⟨m0,m1⟩:=(Mx.new wr m).cells
   have hS1:=st_alloc (mkO m) hS
   have hsS:=hS.low.size
   have HSM:Hid ((wr.alloc (mkO m)).heap.size=wr.heap.size+1):=(by show _=_;simp)
   have hW2:wr.alloc (Obj.cells #[Value.int IntKind.u8 m.sg,Value.string ⟨m.tx.toArray⟩] 103)=wr.alloc (mkO m):=rfl
   clear HI hm HR
   go_upto_region 5 with fail
   obtain⟨sg,tx⟩:=m
   dsimp only at m0 m1 c0 c1 HI2 hW2
   generalize hwr1:wr.alloc (mkO ⟨sg,tx⟩)=wr1 at *
   clear hW2
   have hs1:=hS1.low.size
   by_cases h1:sg=32
   ·subst h1
    have HI3:Hid (out++[tx]++pkL no (ls.drop (k+1))=R):=pk_take HSD.out (.inl rfl) HI2.out
    clear HI2
    go_wp2_with (at_builtin;refine wpList_append_h _ (by kernel_rfl) (.tmp 24) (.tmp 27) 23 9 (.string ⟨#[]⟩) 1 16 rfl Tryz.underlying23 infoStr rfl (by decide) (by decide) W.heap.size _ _ _ rfl (hS1.own.alloc _) _ 1 (scells [tx]) rfl (new_holds _ _ _ _ _ (by decide)) rfl (scells_one _) (by omega) (by simp;omega) ?_)
    intro v2 w2 hown2 hgrow2
    have hB2:Below W.heap.size W w2:=(hS1.low.alloc hS1.low.size _).grown hgrow2 (by simp;omega) (fun _ hj=>owns_ge hS1.own hj)
    rw[← scells_append] at hown2
    obtain⟨oo2,oc2,rfl⟩:=(holds_of hown2).form
    clear hgrow2
    go_wp2
    exact⟨⟨k+1,out++[tx],by omega,by simp;omega,by go_num,⟨_,_,by rw[List.length_append];rfl⟩,⟨by rw[List.length_append];exact hown2,hB2⟩,HI3⟩,by simp[intOf];omega⟩
   ·have e1:(sg == 32)=false:=by simpa using h1
    by_cases h2:sg=sd
    ·subst h2
     have HI3:Hid (out++[tx]++pkL no (ls.drop (k+1))=R):=pk_take HSD.out (.inr rfl) HI2.out
     clear HI2 h1
     go_wp2_with (at_builtin;refine wpList_append_h _ (by kernel_rfl) (.tmp 24) (.tmp 27) 23 9 (.string ⟨#[]⟩) 1 16 rfl Tryz.underlying23 infoStr rfl (by decide) (by decide) W.heap.size _ _ _ rfl (hS1.own.alloc _) _ 1 (scells [tx]) rfl (new_holds _ _ _ _ _ (by decide)) rfl (scells_one _) (by omega) (by simp;omega) ?_)
     intro v2 w2 hown2 hgrow2
     have hB2:Below W.heap.size W w2:=(hS1.low.alloc hS1.low.size _).grown hgrow2 (by simp;omega) (fun _ hj=>owns_ge hS1.own hj)
     rw[← scells_append] at hown2
     obtain⟨oo2,oc2,rfl⟩:=(holds_of hown2).form
     clear hgrow2
     go_wp2
     exact⟨⟨k+1,out++[tx],by omega,by simp;omega,by go_num,⟨_,_,by rw[List.length_append];rfl⟩,⟨by rw[List.length_append];exact hown2,hB2⟩,HI3⟩,by simp[intOf];omega⟩
    ·have e2:(sg == sd)=false:=by simpa using h2
     have HI3:Hid (out++pkL no (ls.drop (k+1))=R):=pk_pass HSD.out h1 h2 HI2.out
     clear HI2 h1 h2
     go_wp2
     exact⟨⟨k+1,out,by omega,by omega,by go_num,⟨_,_,rfl⟩,hS1,HI3⟩,by simp[intOf];omega⟩
  ·have HI3:Hid (out=R):=(by
    have h:=HI.out
    rw[List.drop_of_length_le (by omega)] at h
    show out=R
    simpa [pkL] using h)
   clear HI
   have hend:decide ((k:Int)<(ls.length:Int))=false:=decide_eq_false (by omega)
   go_wp2
   go_ret
   refine⟨_,rfl,?_,hBl.trans (hS.low.mono (by have:=HSZ.out;omega))⟩
   rw[← HI3.out]
   exact owns_less hS.own (by have:=HSZ.out;omega)
theorem hOld_o (h:Hk) (v:Value) (w:World) (hv:HMk w v h.ls) (hl:h.ls.length≤1099511627776) (R:List (List UInt8)) (HR:Hid (oldL h=R)):Calls Tryz.prog 38 #[hkV h v] w fun e w'=>∃ v',e=.returned v'∧w'.ownsRow w.heap.size 9 1 v' R.length (scells R)∧Below w.heap.size w w':=by
 have hBl:Below w.heap.size w (w.alloc (hkO h v)):=(Below.refl _ w).alloc (Nat.le_refl _) _
 have hv1:=HMk.keep hv hBl (Nat.le_refl _)
 obtain⟨c0,c1,c2,c3,c4⟩:=(Hx.new w h v).cells
 unfold hkO at c0 c1 c2 c3 c4 hBl hv1
 obtain⟨lo,lc,rfl⟩:=HMk.form hv
 have e:hkV h (.slice lo h.ls.length lc)=.agg #[.int .i64 h.A,.int .i64 h.AN,.int .i64 h.B,.int .i64 h.BN,.slice lo h.ls.length lc]:=rfl
 rw[e]
 go_enter Tryz.func38,Tryz.ntmps38
 go_wp2_with fail
 refine (hside_o h _ 45 43 (.inl ⟨rfl,rfl⟩) _ hv1 hl R HR).mono ?_
 rintro e w1 ⟨v1,rfl,hv1,hB1⟩
 obtain⟨vo,vc,rfl⟩:=Holds.form (holds_of hv1)
 go_wp2
 go_ret
 exact⟨_,rfl,owns_less hv1 hBl.size,hBl.trans (hB1.mono hBl.size)⟩
theorem hOld_f (h:Hk) (v:Value) (w:World) (hv:HMk w v h.ls) (hl:h.ls.length≤1099511627776) (R:List (List UInt8)) (HR:Hid (oldL h=R)):Calls Tryz.prog 38 #[hkV h v] w fun e w'=>∃ v',e=.returned v'∧HS w' v' R∧Below w.heap.size w w':=by
 refine (hOld_o h v w hv hl R HR).mono ?_
 rintro e w1 ⟨v1,rfl,h1,hB1⟩
 exact⟨v1,rfl,holds_of h1,hB1⟩
theorem hNew_o (h:Hk) (v:Value) (w:World) (hv:HMk w v h.ls) (hl:h.ls.length≤1099511627776) (R:List (List UInt8)) (HR:Hid (newL h=R)):Calls Tryz.prog 40 #[hkV h v] w fun e w'=>∃ v',e=.returned v'∧w'.ownsRow w.heap.size 9 1 v' R.length (scells R)∧Below w.heap.size w w':=by
 have hBl:Below w.heap.size w (w.alloc (hkO h v)):=(Below.refl _ w).alloc (Nat.le_refl _) _
 have hv1:=HMk.keep hv hBl (Nat.le_refl _)
 obtain⟨c0,c1,c2,c3,c4⟩:=(Hx.new w h v).cells
 unfold hkO at c0 c1 c2 c3 c4 hBl hv1
 obtain⟨lo,lc,rfl⟩:=HMk.form hv
 have e:hkV h (.slice lo h.ls.length lc)=.agg #[.int .i64 h.A,.int .i64 h.AN,.int .i64 h.B,.int .i64 h.BN,.slice lo h.ls.length lc]:=rfl
 rw[e]
 go_enter Tryz.func40,Tryz.ntmps40
 go_wp2_with fail
 refine (hside_o h _ 43 45 (.inr ⟨rfl,rfl⟩) _ hv1 hl R HR).mono ?_
 rintro e w1 ⟨v1,rfl,hv1,hB1⟩
 obtain⟨vo,vc,rfl⟩:=Holds.form (holds_of hv1)
 go_wp2
 go_ret
 exact⟨_,rfl,owns_less hv1 hBl.size,hBl.trans (hB1.mono hBl.size)⟩
theorem hNew_f (h:Hk) (v:Value) (w:World) (hv:HMk w v h.ls) (hl:h.ls.length≤1099511627776) (R:List (List UInt8)) (HR:Hid (newL h=R)):Calls Tryz.prog 40 #[hkV h v] w fun e w'=>∃ v',e=.returned v'∧HS w' v' R∧Below w.heap.size w w':=by
 refine (hNew_o h v w hv hl R HR).mono ?_
 rintro e w1 ⟨v1,rfl,h1,hB1⟩
 exact⟨v1,rfl,holds_of h1,hB1⟩
def nmB (a n:Int):Bool:=nat31 a && nat31 n && !(decide (a=0) && decide (0<n))
theorem hnumbered_f (a n:Int) (w:World) (r:Bool) (HR:Hid (nmB a n=r)):Calls Tryz.prog 59 #[.int .i64 a,.int .i64 n] w fun e w'=>e=.returned (.bool r)∧w'=w:=by
 have hr:r=true↔(0≤a∧a≤2147483647∧0≤n∧n≤2147483647∧(0<a∨n=0)):=by
  rw[← HR.out]
  unfold nmB nat31
  simp only[Bool.and_eq_true,decide_eq_true_eq,Bool.not_eq_true',Bool.and_eq_false_iff,decide_eq_false_iff_not]
  omega
 have HRR:Hid (r=true↔(0≤a∧a≤2147483647∧0≤n∧n≤2147483647∧(0<a∨n=0))):=hr
 clear hr HR
 have no:∀ {p:Prop},p→(p→¬ (0≤a∧a≤2147483647∧0≤n∧n≤2147483647∧(0<a∨n=0)))→Ending.returned (.bool false)=.returned (.bool r):=fun hp h=>by
  cases r with
  | false=>rfl
  | true=>exact absurd (HRR.out.1 rfl) (h hp)
 go_enter Tryz.func59,Tryz.ntmps59
 by_cases h1:a<0
 ·go_wp2
  go_ret
  exact⟨no h1 (fun _=>by omega),rfl⟩
 ·have e1:decide (a<0)=false:=decide_eq_false h1
  by_cases h2:2147483647<a
  ·go_wp2
   go_ret
   exact⟨no h2 (fun _=>by omega),rfl⟩
  ·have e2:decide (2147483647<a)=false:=decide_eq_false h2
   by_cases h3:n<0
   ·go_wp2
    go_ret
    exact⟨no h3 (fun _=>by omega),rfl⟩
   ·have e3:decide (n<0)=false:=decide_eq_false h3
    by_cases h4:2147483647<n
    ·go_wp2
     go_ret
     exact⟨no h4 (fun _=>by omega),rfl⟩
    ·have e4:decide (2147483647<n)=false:=decide_eq_false h4
     by_cases h5:0<a
     ·obtain rfl:r=true:=HRR.out.2 (by omega)
      go_wp2
      go_ret
      exact⟨rfl,rfl⟩
     ·have e5:decide (0<a)=false:=decide_eq_false h5
      by_cases h6:n=0
      ·obtain rfl:r=true:=HRR.out.2 (by omega)
       subst h6
       go_wp2
       go_ret
       exact⟨rfl,rfl⟩
      ·have e6:(n == 0)=false:=by simpa using h6
       go_wp2
       go_ret
       exact⟨no h6 (fun _=>by omega),rfl⟩
theorem hnumberOf_f (a n:Int) (w:World) (h1:-4611686018427387904≤a) (h2:a≤4611686018427387904) (r:Int) (HR:Hid ((if 0<n then a+1 else a)=r)):Calls Tryz.prog 88 #[.int .i64 a,.int .i64 n] w fun e w'=>e=.returned (.int .i64 r)∧w'=w:=by
 have hr:=HR.out
 clear HR
 go_enter Tryz.func88,Tryz.ntmps88
 by_cases h:0<n
 ·rw[if_pos h] at hr
  subst hr
  go_wp2
  go_ret
  exact⟨by go_num,rfl⟩
 ·rw[if_neg h] at hr
  subst hr
  have e:decide (0<n)=false:=decide_eq_false h
  go_wp2
  go_ret
  exact⟨rfl,rfl⟩
def chgB (m:Mk):Bool:=decide (m.sg=45) || decide (m.sg=43)
theorem hchanged_f (m:Mk) (w:World):Calls Tryz.prog 63 #[.agg #[.int .u8 m.sg,.string ⟨m.tx.toArray⟩]] w fun e w'=>e=.returned (.bool (chgB m))∧Below w.heap.size w w':=by
 obtain⟨sg,tx⟩:=m
 obtain⟨m0,m1⟩:=(Mx.new w ⟨sg,tx⟩).cells
 have hB:Below w.heap.size w (w.alloc (mkO ⟨sg,tx⟩)):=(Below.refl _ w).alloc (Nat.le_refl _) _
 unfold mkO at m0 m1 hB
 dsimp only at m0 m1 hB
 unfold chgB
 by_cases h1:sg=45
 ·subst h1
  go_enter Tryz.func63,Tryz.ntmps63
  go_wp2
  go_ret
  exact⟨rfl,hB⟩
 ·have e1:(sg == 45)=false:=by simpa using h1
  by_cases h2:sg=43
  ·subst h2
   go_enter Tryz.func63,Tryz.ntmps63
   go_wp2
   go_ret
   exact⟨rfl,hB⟩
  ·have e2:(sg == 43)=false:=by simpa using h2
   have HE:Hid ((decide (sg=45) || decide (sg=43))=false):=(by show _=_;simp[h1,h2])
   rw[HE.out]
   clear HE h1 h2
   go_enter Tryz.func63,Tryz.ntmps63
   go_wp2
   go_ret
   exact⟨rfl,hB⟩
theorem hstrange_f (m:Mk) (w:World):Calls Tryz.prog 61 #[.agg #[.int .u8 m.sg,.string ⟨m.tx.toArray⟩]] w fun e w'=>e=.returned (.bool (!okS m.sg))∧Below w.heap.size w w':=by
 obtain⟨m0,m1⟩:=(Mx.new w m).cells
 have hB:Below w.heap.size w (w.alloc (mkO m)):=(Below.refl _ w).alloc (Nat.le_refl _) _
 have hW:w.alloc (.cells #[.int .u8 m.sg,.string ⟨m.tx.toArray⟩] 103)=w.alloc (mkO m):=rfl
 generalize w.alloc (mkO m)=W at *
 by_cases h1:m.sg=32
 ·have HE:Hid (okS m.sg=true):=(by show _=_;rw[h1];rfl)
  rw[HE.out]
  have e1:(m.sg != 32)=false:=by simpa using h1
  clear HE h1
  go_enter Tryz.func61,Tryz.ntmps61
  go_wp2
  go_ret
  exact⟨rfl,hB⟩
 ·have e1:(m.sg != 32)=true:=by simpa using h1
  obtain⟨r,hr⟩:∃ r,chgB m=r:=⟨_,rfl⟩
  have HE:Hid (okS m.sg=r):=(by
   show _=_
   rw[← hr]
   unfold okS chgB
   simp[h1])
  have HC:=hchanged_f m W
  rw[hr] at HC
  rw[HE.out]
  clear HE h1 hr
  go_enter Tryz.func61,Tryz.ntmps61
  go_wp2_with fail
  refine HC.mono ?_
  rintro e w1 ⟨rfl,hB1⟩
  go_wp2
  go_ret
  exact⟨rfl,hB.trans (hB1.mono hB.size)⟩
end

section
open Go.RowKit
theorem go_two {P:Program} {S:World→Prop} {md:Region.Mode} {ops:Array Oper} {Q:Exit→Act→World→Prop} {fuel:Nat} {listed:Array Bool} {A:Act} {w:World}
  (i d:Nat) (op:Oper) (j e:Nat) (oq:Oper) (hi:ops[i]?=some op) (hd:op.dst=some d) (hj:ops[j]?=some oq) (he:oq.dst=some e) (hr:Region.ready md ops listed=[i,j]) (hwt:Region.wanted op (yielded ops A.tmps)=true) (hwq:Region.wanted oq (yielded ops A.tmps)=true)
  (vp:Value) (wp:World) (hp:(execOp A.eval op).run P w=.ok (.value vp) wp) (hSp:S wp)
  (vq:Value) (wq:World) (hq:(execOp A.eval oq).run P w=.ok (.value vq) wq) (hSq:S wq)
  (h:wpAnyH P md ops Q S fuel (listed.setIfInBounds i true) (A.put (some d) vp) wp)
  (h2:wpAnyH P md ops Q S fuel (listed.setIfInBounds j true) (A.put (some e) vq) wq) :
  wpAnyH P md ops Q S (fuel+1) listed A w:=by
 refine wpAnyH_ready hr (by simp) (AllReadyH.cons hi (fun K hK=>?_) (AllReadyH.cons hj (fun K hK=>?_) AllReadyH.nil))
 ·refine step_want hwt ?_
  unfold Oper.wp
  rw[hp,Oper.upon_value]
  exact hK.out _ _ hSp (fun _=>by rw[hd];exact h)
 ·refine step_want hwq ?_
  unfold Oper.wp
  rw[hq,Oper.upon_value]
  exact hK.out _ _ hSq (fun _=>by rw[he];exact h2)
theorem exec_app {w w':World} {T:TypeId} {v vx v':Value} {op:Oper} (x y:Operand) (ho:op.op=.call { callee:=.builtin .append,args:=#[x,y],argTypes:=#[T,T] }) {ev:Operand→Value} (hx:ev x=v) (hy:ev y=vx) (hr:(Builtin.append_ #[T,T] op.type #[v,vx]).run Tryz.prog w=.ok v' w') :
  (execOp ev op).run Tryz.prog w=.ok (.value v') w':=by
 simp[execOp,ho,resolve,invoke,builtin,hx,hy,hr,Result.andThen]
structure Iv (w:World) (q:Hk) (ov:Value) (x:List Mk) (av:Value) (y:List Mk) (u:World):Prop where
 low:Below w.heap.size w u
 box:Hx u w.heap.size q ov
 own:u.ownsRow (w.heap.size+1) 103 2 ov x.length (mkcells x)
 add:u.ownsRow (w.heap.size+1) 103 2 av y.length (mkcells y)
 ne:∀ g,ov.ownBlock=some g→av.ownBlock≠some g
section
variable {w:World} {q:Hk} {ov ov' av av':Value} {x x' y y':List Mk} {u u':World}
theorem Iv.alloc (h:Iv w q ov x av y u) (o:Obj):Iv w q ov x av y (u.alloc o) :=
 ⟨h.low.alloc h.low.size o,h.box.low ((Below.refl _ u).alloc (Nat.le_refl _) o),h.own.alloc o,h.add.alloc o,h.ne⟩
theorem Iv.drewN (h:Iv w q ov x av y u) (n:Nat):Iv w q ov x av y (u.drewN n):=⟨Below.dN h.low n,h.box,h.own,h.add,h.ne⟩
theorem own_kept {e:TypeId} {s B:Nat} {v:Value} {n:Nat} {xs:List Value} (ho:u.ownsRow B e s v n xs) {g:Option Nat} (hg:u.grownBy u' g) (hne:∀ k,g=some k→v.ownBlock≠some k):u'.ownsRow B e s v n xs:=by
 refine⟨ho.1,?_⟩
 rcases ho.2 with q | ⟨b,cap,cur,rfl,q2,q3,q4⟩
 ·exact .inl q
 ·refine .inr ⟨b,cap,cur,rfl,q2,?_,q4⟩
  rw[hg.block b (Array.getElem?_eq_some_iff.1 q3).1 (fun e=>hne b e.symm rfl)]
  exact q3
theorem Hx.put5 {b:Nat} {h:Hk} {v:Value} (p:Hx u b h v) (z0 z1 z2 z3 z4:Value):(((((u.setCell ⟨b,0,none⟩ z0).setCell ⟨b,1,none⟩ z1).setCell ⟨b,2,none⟩ z2).setCell ⟨b,3,none⟩ z3).setCell ⟨b,4,none⟩ z4).heap[b]?=some (.cells #[z0,z1,z2,z3,z4] 59 (0,0)):=by
 have s1:=heap_setCell_same u b 0 _ _ z0 p
 have s2:=heap_setCell_same _ b 1 _ _ z1 s1
 have s3:=heap_setCell_same _ b 2 _ _ z2 s2
 have s4:=heap_setCell_same _ b 3 _ _ z3 s3
 exact heap_setCell_same _ b 4 _ _ z4 s4
theorem own_base {e:TypeId} {s B B':Nat} {v:Value} {n:Nat} {xs:List Value} (ho:u.ownsRow B e s v n xs) (hB:B'≤B):u.ownsRow B' e s v n xs:=by
 refine⟨ho.1,?_⟩
 rcases ho.2 with q | ⟨b,cap,cur,rfl,q2,q3,q4⟩
 ·exact .inl q
 ·exact .inr ⟨b,cap,cur,rfl,by omega,q3,q4⟩
theorem Iv.none (h:Iv w q ov x av y u):Iv w q ov x (.slice none 0 0) [] u:=⟨h.low,h.box,h.own,hnil_row _ _ _ _,fun g _ e=>by cases e⟩
end
theorem mk_row (w:World) (m:Mk):Holds (w.alloc (mkO m)) (.slice (some ⟨w.heap.size,0,none⟩) 1 1) 1 (mkcells [m]):=new_holds w #[.int .u8 m.sg,.string ⟨m.tx.toArray⟩] 103 1 1 (by decide)
end

end Go.Proofs.YtgiojkhmkeocfaaGreatDoor
