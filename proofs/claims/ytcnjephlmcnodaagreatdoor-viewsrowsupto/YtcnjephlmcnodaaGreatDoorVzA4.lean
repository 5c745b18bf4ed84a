/-
  Texts that belong together, joined: PcReg, EdReg, EdApp, EdSameS, EdRChk, EdRApp, EdMk, EdRKp, PaMath, MiMath, MiLen, MiMs, MiFr, MiLc, MiRep, MiKp.
-/
import Derived.Test.YtcnjephlmcnodaaGreatDoorVzA3
import Derived.Deep.CutRange
import Derived.Sort.AtCall
import Derived.Laws.CopyOwn
import Derived.Laws.Bits64b

set_option maxHeartbeats 16000000
set_option maxRecDepth 100000
namespace Go.Proofs.YtcnjephlmcnodaaGreatDoor

section
open Go.RowKit
theorem Zlq {b:Bool} {X Y:Prop} (h:b=true) (hX:X):if b=true then X else Y:=by
 rw[if_pos h]
 exact hX
theorem Zlp {b:Bool} {X Y:Prop} (h:b=false) (hY:Y):if b=true then X else Y:=by
 rw[if_neg (by rw[h];exact Bool.false_ne_true)]
 exact hY
theorem ZeA {P:Program} {S:World→Prop} {md:Region.Mode} {ops:Array Oper} {Q:Exit→Act→World→Prop} {fuel:Nat} {listed:Array Bool} {A:Act} {w:World}
  (i d:Nat) (op:Oper) (v:Value) (hi:ops[i]?=some op) (hd:op.dst=some d) (hs:Region.noSelect ops=true) (hf:Region.free md ops listed i=true) (hr:(Region.ready md ops listed).contains i=true)
  (hQ:∀ c a w,Q (.panic c) (a.put op.dst v) w→Q (.panic c) a w) (hy:YieldsIf P ops S op v A) (hS:S w)
  (h:wpAnyH P md ops Q S fuel (listed.setIfInBounds i true) (A.put (some d) v) w):wpAnyH P md ops Q S (fuel+1) listed A w :=
 wpAnyH_take hi hs hf hr hQ hy hS (by rw[hd];exact h)
theorem Zey {P:Program} {S:World→Prop} {md:Region.Mode} {ops:Array Oper} {Q:Exit→Act→World→Prop} {fuel:Nat} {listed:Array Bool} {A:Act} {w:World}
  (i d:Nat) (op:Oper) (hi:ops[i]?=some op) (hd:op.dst=some d) (hr:Region.ready md ops listed=[i]) (hwt:Region.wanted op (yielded ops A.tmps)=false) (hS:S w)
  (h:wpAnyH P md ops Q S fuel (listed.setIfInBounds i true) (A.put (some d) undef) w) :
  wpAnyH P md ops Q S (fuel+1) listed A w:=by
 refine wpAnyH_ready hr (by simp) (AllReadyH.cons hi (fun K hK=>?_) AllReadyH.nil)
 refine Zlp hwt ?_
 exact hK.out _ _ hS (fun _=>by rw[hd];exact h)
theorem Zex {P:Program} {S:World→Prop} {md:Region.Mode} {ops:Array Oper} {Q:Exit→Act→World→Prop} {fuel:Nat} {listed:Array Bool} {A:Act} {w:World}
  (i d:Nat) (op:Oper) (hi:ops[i]?=some op) (hd:op.dst=some d) (hr:Region.ready md ops listed=[i]) (hwt:Region.wanted op (yielded ops A.tmps)=true)
  (F:Nat) (xs:Array Operand) (ts:Array TypeId) (ho:op.op=.call { callee:=.value (.func F),args:=xs,argTypes:=ts })
  (args:Array Value) (hx:xs.map A.eval=args) (hen:∀ args w,(callFunc F args).run P w=.ok (.enter F args) w) (v:Value)
  (hc:Calls P F args w fun e w'=>e=.returned v∧S w')
  (h:∀ w',S w'→wpAnyH P md ops Q S fuel (listed.setIfInBounds i true) (A.put (some d) v) w') :
  wpAnyH P md ops Q S (fuel+1) listed A w:=by
 refine wpAnyH_ready hr (by simp) (AllReadyH.cons hi (fun K hK=>?_) AllReadyH.nil)
 refine Zlq hwt ?_
 unfold Oper.wp
 have e:(execOp A.eval op).run P w=.ok (.enter F args) w:=by
  have h1:=hen args w
  simp only[execOp,ho,resolve,invoke]
  have h2:A.eval (.func F)=.func (.func F) #[] #[]:=rfl
  simp only[h2,Deferred.ofValue,Sem.run_bind,Sem.run_pure,Result.andThen_ok,hx,Array.append_empty,Array.empty_append]
  exact h1
 rw[e,Oper.upon_enter]
 refine hc.mono ?_
 rintro e w' ⟨rfl,hb⟩
 exact hK.out _ _ hb (fun hu=>by rw[hd];exact h w' hu)
theorem Zew {P:Program} {S:World→Prop} {md:Region.Mode} {ops:Array Oper} {Q:Exit→Act→World→Prop} {fuel:Nat} {listed:Array Bool} {A:Act} {w:World}
  (i d:Nat) (op:Oper) (hi:ops[i]?=some op) (hd:op.dst=some d) (hr:Region.ready md ops listed=[i]) (hwt:Region.wanted op (yielded ops A.tmps)=true)
  (F:Nat) (x:Operand) (xs:Array Operand) (ts:Array TypeId) (ho:op.op=.call { callee:=.value x,args:=xs,argTypes:=ts })
  (cap:Array Value) (hxv:A.eval x=.func (.func F) #[] cap) (args:Array Value) (hx:xs.map A.eval=args) (hen:∀ args w,(callFunc F args).run P w=.ok (.enter F args) w) (R:Value→World→Prop)
  (hc:Calls P F (args++cap) w fun e w'=>∃ v,e=.returned v∧S w'∧R v w')
  (h:∀ v w',S w'→R v w'→wpAnyH P md ops Q S fuel (listed.setIfInBounds i true) (A.put (some d) v) w') :
  wpAnyH P md ops Q S (fuel+1) listed A w:=by
 refine wpAnyH_ready hr (by simp) (AllReadyH.cons hi (fun K hK=>?_) AllReadyH.nil)
 refine Zlq hwt ?_
 unfold Oper.wp
 have e:(execOp A.eval op).run P w=.ok (.enter F (args++cap)) w:=by
  have h1:=hen (args++cap) w
  simp only[execOp,ho,resolve,invoke]
  simp only[hxv,Deferred.ofValue,Sem.run_bind,Sem.run_pure,Result.andThen_ok,hx,Array.empty_append]
  exact h1
 rw[e,Oper.upon_enter]
 refine hc.mono ?_
 rintro e w' ⟨v,rfl,hb,hR⟩
 exact hK.out _ _ hb (fun hu=>by rw[hd];exact h v w' hu hR)
theorem ZeB {P:Program} {S:World→Prop} {md:Region.Mode} {ops:Array Oper} {Q:Exit→Act→World→Prop} {fuel:Nat} {listed:Array Bool} {A:Act} {w:World}
  (i d:Nat) (op:Oper) (hi:ops[i]?=some op) (hd:op.dst=some d) (hr:Region.ready md ops listed=[i]) (hwt:Region.wanted op (yielded ops A.tmps)=true)
  (v:Value) (w':World) (he:(execOp A.eval op).run P w=.ok (.value v) w') (hS:S w')
  (h:wpAnyH P md ops Q S fuel (listed.setIfInBounds i true) (A.put (some d) v) w') :
  wpAnyH P md ops Q S (fuel+1) listed A w:=by
 refine wpAnyH_ready hr (by simp) (AllReadyH.cons hi (fun K hK=>?_) AllReadyH.nil)
 refine Zlq hwt ?_
 unfold Oper.wp
 rw[he,Oper.upon_value]
 exact hK.out _ _ hS (fun _=>by rw[hd];exact h)
theorem Zez {P:Program} {S:World→Prop} {md:Region.Mode} {ops:Array Oper} {Q:Exit→Act→World→Prop} {fuel:Nat} {listed:Array Bool} {A:Act} {w:World}
  (i:Nat) (op:Oper) (hi:ops[i]?=some op) (hd:op.dst=none) (hr:Region.ready md ops listed=[i]) (hwt:Region.wanted op (yielded ops A.tmps)=true)
  (w':World) (he:(execOp A.eval op).run P w=.ok .skip w') (hS:S w')
  (h:wpAnyH P md ops Q S fuel (listed.setIfInBounds i true) A w') :
  wpAnyH P md ops Q S (fuel+1) listed A w:=by
 refine wpAnyH_ready hr (by simp) (AllReadyH.cons hi (fun K hK=>?_) AllReadyH.nil)
 refine Zlq hwt ?_
 unfold Oper.wp
 rw[he,Oper.upon_skip]
 exact hK.out _ _ hS (fun _=>by rw[hd];exact h)
theorem ZgQ {u:World} {a:Addr} {z:Int} (h:u.cell? a=some (.int .i64 z)) {op:Oper} (x:Operand) (ho:op.op=.load 3 x) {ev:Operand→Value} (hx:ev x=.pointer (some a)) :
  (execOp ev op).run Tryz.prog u=.ok (.value (.int .i64 z)) u:=by
 simp only[execOp,ho,hx]
 go_simp
theorem Y_t {P:Program} {S:World→Prop} {md:Region.Mode} {ops:Array Oper} {Q:Exit→Act→World→Prop} {fuel:Nat} {listed:Array Bool} {A:Act} {w:World} (i d:Nat) (op:Oper) (v:Value) (hi:ops[i]?=some op) (hy:YieldsIf P ops S op v A) (hS:S w) (h:wpAnyH P md ops Q S fuel (listed.setIfInBounds i true) (A.put (some d) v) w) (hd:op.dst=some d:=by kernel_rfl) (hs:Region.noSelect ops=true:=by kernel_rfl) (hf:Region.free md ops listed i=true:=by kernel_rfl) (hr:(Region.ready md ops listed).contains i=true:=by kernel_rfl) (hQ:∀c a w,Q (.panic c) (a.put op.dst v) w→Q (.panic c) a w:=by exact fun _ _ _ h=>h):wpAnyH P md ops Q S (fuel+1) listed A w:=ZeA i d op v hi hd hs hf hr hQ hy hS h
theorem Y_v {P:Program} {S:World→Prop} {md:Region.Mode} {ops:Array Oper} {Q:Exit→Act→World→Prop} {fuel:Nat} {listed:Array Bool} {A:Act} {w:World} (i d:Nat) (op:Oper) (hi:ops[i]?=some op) (v:Value) (w':World) (he:(execOp A.eval op).run P w=.ok (.value v) w') (hS:S w') (h:wpAnyH P md ops Q S fuel (listed.setIfInBounds i true) (A.put (some d) v) w') (hd:op.dst=some d:=by kernel_rfl) (hr:Region.ready md ops listed=[i]:=by kernel_rfl) (hwt:Region.wanted op (yielded ops A.tmps)=true:=by kernel_rfl):wpAnyH P md ops Q S (fuel+1) listed A w:=ZeB i d op hi hd hr hwt v w' he hS h
theorem Y_e {P:Program} {S:World→Prop} {md:Region.Mode} {ops:Array Oper} {Q:Exit→Act→World→Prop} {fuel:Nat} {listed:Array Bool} {A:Act} {w:World} (i d:Nat) (op:Oper) (hi:ops[i]?=some op) (F:Nat) (x:Operand) (xs:Array Operand) (ts:Array TypeId) (ho:op.op=.call {callee:=.value x,args:=xs,argTypes:=ts}) (cap:Array Value) (hxv:A.eval x=.func (.func F) #[] cap) (args:Array Value) (hx:xs.map A.eval=args) (hen:∀args w,(callFunc F args).run P w=.ok (.enter F args) w) (R:Value→World→Prop) (hc:Calls P F (args++cap) w fun e w'=>∃v,e=.returned v∧S w'∧R v w') (h:∀v w',S w'→R v w'→wpAnyH P md ops Q S fuel (listed.setIfInBounds i true) (A.put (some d) v) w') (hd:op.dst=some d:=by kernel_rfl) (hr:Region.ready md ops listed=[i]:=by kernel_rfl) (hwt:Region.wanted op (yielded ops A.tmps)=true:=by kernel_rfl):wpAnyH P md ops Q S (fuel+1) listed A w:=Zew i d op hi hd hr hwt F x xs ts ho cap hxv args hx hen R hc h
theorem Y_s {P:Program} {S:World→Prop} {md:Region.Mode} {ops:Array Oper} {Q:Exit→Act→World→Prop} {fuel:Nat} {listed:Array Bool} {A:Act} {w:World} (i:Nat) (op:Oper) (hi:ops[i]?=some op) (w':World) (he:(execOp A.eval op).run P w=.ok .skip w') (hS:S w') (h:wpAnyH P md ops Q S fuel (listed.setIfInBounds i true) A w') (hd:op.dst=none:=by kernel_rfl) (hr:Region.ready md ops listed=[i]:=by kernel_rfl) (hwt:Region.wanted op (yielded ops A.tmps)=true:=by kernel_rfl):wpAnyH P md ops Q S (fuel+1) listed A w:=Zez i op hi hd hr hwt w' he hS h
end

end Go.Proofs.YtcnjephlmcnodaaGreatDoor

/- A region that draws its order, in a round: ten operations that read, in whatever order, then the rest as the text has it. -/
namespace Go.Proofs.YtcnjephlmcnodaaGreatDoor
open Go.RowKit Go.Shelf
namespace R10
abbrev B10:=Fin 10→Bool
def lst (b:B10):Array Bool:=#[b 0,b 1,b 2,b 3,b 4,b 5,b 6,b 7,b 8,b 9,false,false]
def upd (b:B10) (i:Fin 10):B10:=fun j=>if j=i then true else b j
def one (c:Bool):Nat:=if c then 1 else 0
def cnt (b:B10):Nat:=one (b 0)+one (b 1)+one (b 2)+one (b 3)+one (b 4)+one (b 5)+one (b 6)+one (b 7)+one (b 8)+one (b 9)
theorem lst_upd (b:B10) (i:Fin 10):(lst b).setIfInBounds i.1 true=lst (upd b i):=by
 rcases i with ⟨i,hi⟩
 rcases (by omega:i=0∨i=1∨i=2∨i=3∨i=4∨i=5∨i=6∨i=7∨i=8∨i=9) with rfl | rfl | rfl | rfl | rfl | rfl | rfl | rfl | rfl | rfl<;>simp[lst,upd]
theorem cnt_upd (b:B10) (i:Fin 10) (h:b i=false):cnt (upd b i)=cnt b+1:=by
 rcases i with ⟨i,hi⟩
 rcases (by omega:i=0∨i=1∨i=2∨i=3∨i=4∨i=5∨i=6∨i=7∨i=8∨i=9) with rfl | rfl | rfl | rfl | rfl | rfl | rfl | rfl | rfl | rfl<;>(simp only[Fin.isValue,Fin.mk_zero,Fin.mk_one,Fin.reduceFinMk] at h;simp[cnt,upd,one,h];try omega)
theorem one_le (c:Bool):one c≤1:=by cases c<;>simp[one]
theorem cnt_le (b:B10):cnt b≤10:=by
 have:=fun i=>one_le (b i)
 have h0:=this 0;have h1:=this 1;have h2:=this 2;have h3:=this 3;have h4:=this 4;have h5:=this 5;have h6:=this 6;have h7:=this 7;have h8:=this 8;have h9:=this 9
 unfold cnt
 omega
def deps:Fin 10→List (Fin 10)
 | 3=>[2]
 | 5=>[4]
 | 7=>[6]
 | 8=>[5,7]
 | 9=>[1,3,8]
 | _=>[]
def closedB (b:B10):Bool:=(List.finRange 10).all fun i=>!(b i) || (deps i).all b
theorem closed_upd (b:B10) (i:Fin 10) (h:closedB b=true) (hd:∀ j∈deps i,b j=true):closedB (upd b i)=true:=by
 simp only[closedB,List.all_eq_true,List.mem_finRange,Bool.or_eq_true,Bool.not_eq_true',forall_const] at h ⊢
 intro k
 have hup:∀ j,b j=true→upd b i j=true:=fun j hj=>by unfold upd;split<;>simp_all
 by_cases hk:k=i
 ·exact .inr fun j hj=>hup j (hd j (hk ▸ hj))
 ·rcases h k with h1 | h1
  ·left
   unfold upd
   rw[if_neg hk]
   exact h1
  ·exact .inr fun j hj=>hup j (h1 j hj)
def chkReady (ops:Array Oper) (b:B10):Bool :=
 !(closedB b) || !(Region.ready .any ops (lst b)).isEmpty && (Region.ready .any ops (lst b)).all fun i =>
  if h:i<10 then !(b ⟨i,h⟩) && (deps ⟨i,h⟩).all b else i == 10 && (List.finRange 10).all b
theorem wpOpIn_yield {F:Fence} {n:Nat} {P:Program} {ops:Array Oper} {Q:Exit→Act→World→Prop} {i:Nat} {o:Oper} {K:Act→World→Prop} {a:Act} {w:World} {v:Value} (ho:ops[i]?=some o) (hg:o.guard=none) (hnd:∀ c,o.op≠.defer c)
  (hab:o.about P w a.eval=none) (hrun:(execOp a.eval o).run P w=.ok (.value v) w) (hK:K (a.put o.dst v) w):wpOpIn F n P ops Q i K a w:=by
 unfold wpOpIn
 simp only[ho]
 have hw:Region.wanted o (yielded ops a.tmps)=true:=by simp[Region.wanted,hg]
 rw[if_pos hw]
 refine⟨fun f hf=>(by rw[hab] at hf;cases hf),?_⟩
 rw[Oper.semAt_plain F _ _ hnd,hrun]
 exact hK
def mk10 (b0 b1 b2 b3 b4 b5 b6 b7 b8 b9:Bool):B10:=fun i=>match i with
 | 0=>b0 | 1=>b1 | 2=>b2 | 3=>b3 | 4=>b4 | 5=>b5 | 6=>b6 | 7=>b7 | 8=>b8 | 9=>b9
theorem Zhx (b:B10):b=mk10 (b 0) (b 1) (b 2) (b 3) (b 4) (b 5) (b 6) (b 7) (b 8) (b 9):=by
 funext ⟨i,hi⟩
 rcases (by omega:i=0∨i=1∨i=2∨i=3∨i=4∨i=5∨i=6∨i=7∨i=8∨i=9) with rfl | rfl | rfl | rfl | rfl | rfl | rfl | rfl | rfl | rfl<;>rfl
theorem chk_all {ops:Array Oper} (h:∀ b0 b1 b2 b3 b4 b5 b6 b7 b8 b9:Bool,chkReady ops (mk10 b0 b1 b2 b3 b4 b5 b6 b7 b8 b9)=true) (b:B10):chkReady ops b=true:=by
 rw[Zhx b]
 exact h _ _ _ _ _ _ _ _ _ _
end R10
end Go.Proofs.YtcnjephlmcnodaaGreatDoor

namespace Go.Proofs.YtcnjephlmcnodaaGreatDoor

section
open Go.RowKit Go.Shelf
open R10
attribute [local go_sem] Oper.semAt_some
theorem Zdg (A:List (List UInt8)) (i n:Int) (j:Nat) (u:Value) (h:(scells (cut A i n))[j]?=some u):(scells A)[i.toNat+j]?=some u∧j<n.toNat:=by
 simp only[scells,cut,List.getElem?_map,List.getElem?_take,List.getElem?_drop] at h ⊢
 split at h
 ·exact⟨h,by assumption⟩
 ·simp at h
theorem Zdj (A:List (List UInt8)) (i n:Int) (h0:0≤i) (h1:0≤n) (h2:i+n≤A.length):(cut A i n).length=n.toNat:=by
 simp[cut];omega
theorem Zkq (A:List (List UInt8)) (ao:Option Addr) (cap:Nat) (i n:Int) (h0:0≤i) (h1:0≤n) (h2:i+n≤A.length) (w:World) (hA:HS w (.slice ao A.length cap) A) :
  ∃ vs,(∀ u:World,(Instr.slice 23 (.slice ao A.length cap) (some (.int .i64 i)) (some (.int .i64 (i+n))) none).run Tryz.prog u=.ok vs u)∧(∀ u:World,HS u (.slice ao A.length cap) A→HS u vs (cut A i n)):=by
 have hnc:A.length≤cap∧(ao=none→A=[]):=by
  rcases hA with ⟨h,h3,_⟩ | ⟨ad,c,h,h3,_⟩
  ·exact⟨by omega,fun _=>List.eq_nil_of_length_eq_zero h3⟩
  ·cases h
   exact⟨h3,fun h=>by cases h⟩
 refine⟨.slice (if cap=i.toNat then ao else ao.map (·.add i.toNat)) n.toNat (cap-i.toNat),fun u=>?_,fun u hu=>?_⟩
 ·rw[run_slice_lh (P:=Tryz.prog) u 23 ao A.length cap (by kernel_rfl) .i64 .i64 i (i+n) h0 (by omega) (by omega)]
  have:(sizeOf (Tryz.prog.elem 23)).run Tryz.prog u=.ok 1 u:=by kernel_rfl
  rw[this]
  simp only[Result.andThen,sliced,Nat.mul_one]
  congr 2
  omega
 ·unfold HS
  rw[Zdj A i n h0 h1 h2]
  cases ao with
  | none =>
   have hA0:=hnc.2 rfl
   subst hA0
   have:i=0:=by simp at h2;omega
   subst this
   have:n=0:=by simp at h2;omega
   subst this
   refine .inl ⟨?_,rfl,by simp[cut,scells]⟩
   rcases hA with ⟨h,h3,_⟩ | ⟨ad,c,h,h3,_⟩
   ·cases h;simp
   ·cases h
  | some ad =>
   refine .inr ⟨if cap=i.toNat then ad else ad.add i.toNat,cap-i.toNat,by split<;>simp,by omega,fun j x hj=>?_⟩
   obtain⟨h4,h5⟩:=Zdg A i n j x hj
   rcases hu with ⟨h,_⟩ | ⟨ad',c,h,h3,hc⟩
   ·cases h
   ·cases h
    have:=hc _ _ h4
    rw[if_neg (by omega)]
    obtain⟨b,off,rfl⟩:=addr_of (hc 0 _ (List.getElem?_eq_getElem (by rw[scells_length];omega)))
    rw[add_none] at this
    rw[add_none,add_none,Nat.add_assoc]
    exact this
end

section
open Go.RowKit
end

section
open Go.RowKit
end

section
open Go.RowKit
attribute [local simp] Zlm ZgX
theorem Zks (A:List (List UInt8)) (ao:Option Addr) (cap:Nat) (i h:Int) (h0:0≤i) (h1:i≤h) (h2:h≤A.length) (w:World) (hA:HS w (.slice ao A.length cap) A) :
  ∃ vo vc,(∀ u:World,(Instr.slice 23 (.slice ao A.length cap) (some (.int .i64 i)) (some (.int .i64 h)) none).run Tryz.prog u=.ok (.slice vo (cut A i (h-i)).length vc) u)∧(∀ u:World,HS u (.slice ao A.length cap) A→HS u (.slice vo (cut A i (h-i)).length vc) (cut A i (h-i))):=by
 obtain⟨vs,h3,h4⟩:=Zkq A ao cap i (h-i) h0 (by omega) (by omega) w hA
 obtain⟨vo,vc,rfl⟩:=Holds.form (h4 w hA)
 have e:i+(h-i)=h:=by omega
 rw[e] at h3
 exact⟨vo,vc,h3,h4⟩
theorem Zkr (A:List (List UInt8)) (ao:Option Addr) (cap:Nat) (i:Int) (h0:0≤i) (h1:i≤A.length) (w:World) (hA:HS w (.slice ao A.length cap) A) :
  ∃ vo vc,(∀ u:World,(Instr.slice 23 (.slice ao A.length cap) (some (.int .i64 i)) none none).run Tryz.prog u=.ok (.slice vo (cut A i (A.length-i)).length vc) u)∧(∀ u:World,HS u (.slice ao A.length cap) A→HS u (.slice vo (cut A i (A.length-i)).length vc) (cut A i (A.length-i))):=by
 obtain⟨vo,vc,h3,h4⟩:=Zks A ao cap i A.length h0 h1 (Int.le_refl _) w hA
 refine⟨vo,vc,fun u=>?_,h4⟩
 rw[← h3 u]
 have hcap:A.length≤cap:=by
  rcases hA with ⟨h,h3,_⟩ | ⟨ad,c,h,h3,_⟩
  ·omega
  ·cases h;exact h3
 rw[run_slice_l (P:=Tryz.prog) u 23 ao A.length cap (by kernel_rfl) .i64 i h0 h1,run_slice_lh (P:=Tryz.prog) u 23 ao A.length cap (by kernel_rfl) .i64 .i64 i A.length h0 h1 (by omega)]
 simp
theorem ZiI (a b n m:Int) (l:List Ch):(piecesL a b n m l).length=l.length+1:=by
 induction l generalizing a b with
 | nil=>rfl
 | cons c l ih=>simp[piecesL,ih]
end

section
open Go.RowKit
def sm (r:Rn):Prop:=0≤r.a∧r.a≤4294967296∧0≤r.b∧r.b≤4294967296∧0≤r.n∧r.n≤4294967296
theorem Zii {w w':World} {base base':Nat} {e e':TypeId} {s s':Nat} {v v':Value} {n n':Nat} {xs xs':List Value} (h:w.ownsRow base e s v n xs) (h':w.ownsRow base' e' s' v' n' xs') (hne:e≠e') (h0:0<n) (hg:w.grownBy w' v'.ownBlock):w'.ownsRow base e s v n xs:=by
 refine h.kept hg (.inr ?_)
 rcases h.2 with ⟨_,h1⟩ | ⟨g,cap,cur,rfl,_,hc,_⟩
 ·omega
 ·rcases h'.2 with ⟨rfl,_⟩ | ⟨g',cap',cur',rfl,_,hc',_⟩
  ·simp[Value.ownBlock]
  ·intro e1
   simp only[Value.ownBlock,Option.some.injEq] at e1
   subst e1
   rw[hc] at hc'
   cases hc'
   exact hne rfl
theorem ZhM (W:World) (g:Nat) (hg:W.heap.size=g) (cs:Array Value) (e:TypeId) (k c:Nat) (hkc:k≤c):Holds (W.alloc (.cells cs e)) (.slice (some ⟨g,0,none⟩) k c) k cs.toList:=by
 subst hg
 exact ZhL W cs e k c hkc
theorem ZbI (rs RS:List Rn) (L:List Ch) (n m:Int) (v:Value) (base:Nat) (w:World) (hbase:base≤w.heap.size) (hv:w.ownsRow base 145 3 v rs.length (rncells rs)) (hlen:rs.length≤1099511627776) (hRS:Hid (rs++[⟨n,m,0⟩]=RS)) (hL:Hid (betw 0 0 RS=L)) (hs:Hid (∀ r∈RS,sm r)) (hN:Hid (∀ c∈L,numB c=true)) :
  Calls Tryz.prog 101 #[v,.int .i64 n,.int .i64 m] w fun e w'=>∃ v',e=.returned (.tuple #[v',.int .i64 0])∧HCh w' v' L∧Below base w w':=by
 obtain⟨ao,ca,rfl⟩:=(holds_of hv).form
 go_enter Tryz.func101,Tryz.ntmps101
 go_wp2_with (at_builtin;refine Zoe _ (by kernel_rfl) (.tmp 15) (.tmp 19) 143 145 (.agg #[.int .i64 0,.int .i64 0,.int .i64 0]) 3 24 rfl Tryz.underlying143 infoRn rfl (by decide) (by decide) base _ _ _ rfl (hv.alloc _) _ 1 (rncells [⟨n,m,0⟩]) rfl (ZhL _ _ _ _ _ (by decide)) rfl (ZjG _) (by omega) (by simp;omega) ?_)
 intro v1 w1 hown1 hgrow1
 have hB1:Below base w w1:=((Below.refl base w).alloc hbase _).grown hgrow1 (by simp;omega) (fun _ hj=>owns_ge hv hj)
 have hsz1:=hB1.size
 rw[← ZjD,hRS.out] at hown1
 have hRl:RS.length=rs.length+1:=by rw[← hRS.out];simp
 obtain⟨N,hNe⟩:∃ N,rs.length+1=N:=⟨_,rfl⟩
 rw[hNe] at hown1 hRl
 have hN0:0<N:=by omega
 have hNl:N≤1099511627777:=by omega
 obtain⟨g1,cap1,rfl⟩:∃ g cap,v1=.slice (some ⟨g,0,none⟩) N cap:=by rw[← hNe] at hown1 ⊢;exact ownsRow_succ hown1
 clear hgrow1 hNe hv
 go_wp2
 go_loopw [8,9,10,22] (fun lv av bv iv wr=>∃ (k:Nat) (a b:Int) (X:List Ch),k≤N∧(∃ oo oc,lv=.slice oo X.length oc)∧av=.int .i64 a∧bv=.int .i64 b∧iv=.int .i64 k∧0≤a∧a≤8589934592∧0≤b∧b≤8589934592∧Below base w wr∧wr.ownsRow base 43 4 lv X.length (chcells X)∧X.length≤k∧wr.ownsRow base 145 3 (.slice (some ⟨g1,0,none⟩) N cap1) N (rncells RS)∧Hid (X++betw a b (RS.drop k)=L)) (fun _ _ _ iv _=>N-(intOf iv).toNat)
 case atStart=>exact⟨0,0,0,[],Nat.zero_le _,⟨_,_,rfl⟩,rfl,rfl,rfl,by omega,by omega,by omega,by omega,hB1,World.ownsRow_nil _ _ _ _,Nat.zero_le _,hown1,hL⟩
 case round =>
  obtain⟨k,a,b,X,hk,⟨oo,oc,rfl⟩,rfl,rfl,rfl,ha0,ha1,hb0,hb1,hB,hO,hX,hV,hR⟩:=hrel
  have hsz:=hB.size
  by_cases hlt:k<N
  ·have hV':HRn wr (.slice (some ⟨g1,0,none⟩) N cap1) RS:=by have:=holds_of hV;rw[← hRl] at this ⊢;exact this
   obtain⟨bk,off,hbe,hbk,hc⟩:=HRn.at hV' (by omega)
   cases hbe
   obtain⟨c0,c1,c2⟩:=hc k (by omega)
   have hR':=hR.out
   rw[List.drop_eq_getElem_cons (by omega)] at hR'
   obtain⟨r,hrd⟩:∃ r,RS[k]=r:=⟨_,rfl⟩
   have hsm:=hs.out r (by rw[← hrd];exact List.getElem_mem _)
   rw[hrd] at hR' c0 c1 c2
   clear hc hrd hR hV'
   have HR:Hid (X++betw a b (r::RS.drop (k+1))=L):=hR'
   clear hR'
   obtain⟨ra,rb,rn⟩:=r
   obtain⟨s1,s2,s3,s4,s5,s6⟩:=hsm
   dsimp only at c0 c1 c2 s1 s2 s3 s4 s5 s6
   rw[Nat.zero_add] at c0 c1 c2
   have i1:0≤(k:Int):=by omega
   have i2:(k:Int)<(N:Int):=by omega
   by_cases hea:a<ra
   ·go_wp2_with (at_builtin;refine Zoe _ (by kernel_rfl) (.tmp 36) (.tmp 48) 27 43 (.agg #[.int .i64 0,.int .i64 0,.int .i64 0,.int .i64 0]) 4 32 rfl Tryz.underlying27 infoCh rfl (by decide) (by decide) base _ _ _ rfl ((hO.alloc _).alloc _) _ 1 (chcells [⟨a,ra-a,b,rb-b⟩]) rfl (ZhM _ _ (by simp) _ _ _ _ (by decide)) rfl (Zch _) (by omega) (by simp;omega) ?_)
    intro v2 w2 hown2 hgrow2
    have hB2:Below base w w2:=((hB.alloc (by omega) _).alloc (by simp;omega) _).grown hgrow2 (by simp;omega) (fun _ hj=>owns_ge hO hj)
    have hsz2:=hB2.size
    have hV2:=Zii ((hV.alloc _).alloc _) ((hO.alloc _).alloc _) (by decide) hN0 hgrow2
    have hbx:w2.heap[wr.heap.size]?=some (Obj.cells #[Value.int IntKind.i64 ra,Value.int IntKind.i64 rb,Value.int IntKind.i64 rn] 145 (0,0)):=by
     rw[hgrow2.block wr.heap.size (by simp;omega) (fun e=>?_)]
     ·exact (Below.heap_alloc _ _ _ (by simp)).trans (_root_.Go.heap_alloc_new wr _)
     ·have h1:=hO.2
      rcases h1 with ⟨h1,_⟩ | ⟨g,cap,cur,h1,_,h3,_⟩
      ·rw[h1] at e;simp[Value.ownBlock] at e
      ·rw[h1] at e
       simp only[Value.ownBlock,Option.some.injEq] at e
       have:=(Array.getElem?_eq_some_iff.1 h3).1
       omega
    have d0:w2.cell? ⟨wr.heap.size,0,none⟩=some (.int .i64 ra):=by rw[Lib.cell_of_heap hbx];rfl
    have d1:w2.cell? ⟨wr.heap.size,1,none⟩=some (.int .i64 rb):=by rw[Lib.cell_of_heap hbx];rfl
    have d2:w2.cell? ⟨wr.heap.size,2,none⟩=some (.int .i64 rn):=by rw[Lib.cell_of_heap hbx];rfl
    rw[← Zce] at hown2
    obtain⟨oo2,oc2,rfl⟩:=(holds_of hown2).form
    clear hbx hgrow2 c0 c1 c2
    go_wp2_with fail
    go_quiet (fail)
    go_wp2
    go_roundw
    case rel=>exact⟨k+1,ra+rn,rb+rn,X++[⟨a,ra-a,b,rb-b⟩],by omega,⟨_,_,by rw[List.length_append];rfl⟩,by go_num,by go_num,by go_num,by omega,by omega,by omega,by omega,Below.dN hB2 _,by rw[List.length_append];exact hown2,by simp;omega,hV2,(by
      have h:=HR.out
      rw[betw] at h
      rw[if_pos (by dsimp only;omega)] at h
      show _=_
      rw[← h]
      simp)⟩
    case measure=>simp[intOf];omega
   by_cases heb:b<rb
   ·go_wp2_with (at_builtin;refine Zoe _ (by kernel_rfl) (.tmp 36) (.tmp 48) 27 43 (.agg #[.int .i64 0,.int .i64 0,.int .i64 0,.int .i64 0]) 4 32 rfl Tryz.underlying27 infoCh rfl (by decide) (by decide) base _ _ _ rfl ((hO.alloc _).alloc _) _ 1 (chcells [⟨a,ra-a,b,rb-b⟩]) rfl (ZhM _ _ (by simp) _ _ _ _ (by decide)) rfl (Zch _) (by omega) (by simp;omega) ?_)
    intro v2 w2 hown2 hgrow2
    have hB2:Below base w w2:=((hB.alloc (by omega) _).alloc (by simp;omega) _).grown hgrow2 (by simp;omega) (fun _ hj=>owns_ge hO hj)
    have hsz2:=hB2.size
    have hV2:=Zii ((hV.alloc _).alloc _) ((hO.alloc _).alloc _) (by decide) hN0 hgrow2
    have hbx:w2.heap[wr.heap.size]?=some (Obj.cells #[Value.int IntKind.i64 ra,Value.int IntKind.i64 rb,Value.int IntKind.i64 rn] 145 (0,0)):=by
     rw[hgrow2.block wr.heap.size (by simp;omega) (fun e=>?_)]
     ·exact (Below.heap_alloc _ _ _ (by simp)).trans (_root_.Go.heap_alloc_new wr _)
     ·have h1:=hO.2
      rcases h1 with ⟨h1,_⟩ | ⟨g,cap,cur,h1,_,h3,_⟩
      ·rw[h1] at e;simp[Value.ownBlock] at e
      ·rw[h1] at e
       simp only[Value.ownBlock,Option.some.injEq] at e
       have:=(Array.getElem?_eq_some_iff.1 h3).1
       omega
    have d0:w2.cell? ⟨wr.heap.size,0,none⟩=some (.int .i64 ra):=by rw[Lib.cell_of_heap hbx];rfl
    have d1:w2.cell? ⟨wr.heap.size,1,none⟩=some (.int .i64 rb):=by rw[Lib.cell_of_heap hbx];rfl
    have d2:w2.cell? ⟨wr.heap.size,2,none⟩=some (.int .i64 rn):=by rw[Lib.cell_of_heap hbx];rfl
    rw[← Zce] at hown2
    obtain⟨oo2,oc2,rfl⟩:=(holds_of hown2).form
    clear hbx hgrow2 c0 c1 c2
    go_wp2_with fail
    go_quiet (fail)
    go_wp2
    go_roundw
    case rel=>exact⟨k+1,ra+rn,rb+rn,X++[⟨a,ra-a,b,rb-b⟩],by omega,⟨_,_,by rw[List.length_append];rfl⟩,by go_num,by go_num,by go_num,by omega,by omega,by omega,by omega,Below.dN hB2 _,by rw[List.length_append];exact hown2,by simp;omega,hV2,(by
      have h:=HR.out
      rw[betw] at h
      rw[if_pos (by dsimp only;omega)] at h
      show _=_
      rw[← h]
      simp)⟩
    case measure=>simp[intOf];omega
   ·go_wp2_with fail
    go_quiet (fail)
    go_wp2
    go_roundw
    case rel=>exact⟨k+1,ra+rn,rb+rn,X,by omega,⟨_,_,rfl⟩,by go_num,by go_num,by go_num,by omega,by omega,by omega,by omega,Below.dN (hB.alloc (by omega) _) _,hO.alloc _,by omega,hV.alloc _,(by
      have h:=HR.out
      rw[betw] at h
      rw[if_neg (by dsimp only;omega)] at h
      exact h)⟩
    case measure=>simp[intOf];omega
  ·have hR':=hR.out
   rw[List.drop_of_length_le (by omega),betw,List.append_nil] at hR'
   subst hR'
   clear hR
   go_wp2
   go_loopw [63] (fun iv wr2=>∃ k:Nat,k≤X.length∧iv=.int .i64 k∧Below base w wr2∧HCh wr2 (.slice oo X.length oc) X) (fun iv _=>X.length-(intOf iv).toNat)
   case atStart=>exact⟨0,Nat.zero_le _,rfl,hB,holds_of hO⟩
   case round =>
    obtain⟨j,hj,rfl,hBj,hXj⟩:=hrel
    have hszj:=hBj.size
    by_cases hjl:j<X.length
    ·obtain⟨bk,off,rfl,hbk,hc⟩:=HCh.at hXj (by omega)
     obtain⟨c0,c1,c2,c3⟩:=hc j hjl
     obtain⟨c,hcd⟩:∃ c,X[j]=c:=⟨_,rfl⟩
     have hnc:=hN.out c (by rw[← hcd];exact List.getElem_mem _)
     rw[hcd] at c0 c1 c2 c3
     clear hc hcd
     obtain⟨A,AN,B,BN⟩:=c
     dsimp only at c0 c1 c2 c3
     have HQ:Hid (numB ⟨A,AN,B,BN⟩=true):=hnc
     clear hnc
     have i1:0≤(j:Int):=by omega
     have i2:(j:Int)<(X.length:Int):=by omega
     go_wp2_with fail
     refine (ZhV ⟨A,AN,B,BN⟩ _).mono ?_
     rintro e w3 ⟨rfl,hB3⟩
     rw[HQ.out]
     have hB4:=((Below.refl wr.heap.size wr).alloc (Nat.le_refl _) (Obj.cells #[Value.int IntKind.i64 A,Value.int IntKind.i64 AN,Value.int IntKind.i64 B,Value.int IntKind.i64 BN] 43)).trans (hB3.mono (by simp))
     clear c0 c1 c2 c3
     go_wp2
     go_roundw
     case rel=>exact⟨j+1,by omega,by go_num,hBj.trans (hB4.mono (by omega)),HCh.keep hXj hB4 (Nat.le_refl _)⟩
     case measure=>simp[intOf];omega
    ·go_wp2
     go_ret2
     exact⟨_,rfl,hXj,hBj⟩
theorem Right.num {f:Bool} {a b n m:Int} {l:List Ch} (h:Right f a b n m l):∀ c∈l,numB c=true:=by
 induction l generalizing f a b with
 | nil=>simp
 | cons c l ih =>
  intro d hd
  rw[List.mem_cons] at hd
  rcases hd with rfl | hd
  ·exact h.1.1
  ·exact ih h.2 d hd
theorem Vk.lt {nx m:Int} {K:List Int} (h:Vk nx m K):∀ z∈K,z=-1∨z<m:=by
 induction K generalizing nx with
 | nil=>simp
 | cons y t ih =>
  intro z hz
  rw[List.mem_cons] at hz
  rcases h with ⟨rfl,h⟩ | ⟨hy,h1,h2,h3⟩
  ·rcases hz with rfl | hz
   ·exact .inl rfl
   ·exact ih h z hz
  ·rcases hz with rfl | hz
   ·exact .inr h2
   ·exact ih h3 z hz
def mkL (K:List Int) (m:Int):List Ch:=betw 0 0 (keptR 0 K++[⟨K.length,m,0⟩])
theorem ZhB {K:List Int} {m:Int} (h:Vk 0 m K) (h0:0≤m) (hm:m≤2147483647) (hl:K.length≤1048576):Script (mkL K m) K.length m∧U 0 0 K.length m (mkL K m)=keptR 0 K:=by
 have hf:=h.fit h0 (i:=0)
 rw[Int.zero_add] at hf
 have:=Zea hf (Int.le_refl _) (Int.le_refl _) (by omega) hm
 exact⟨⟨by omega,h0,this.1⟩,this.2⟩
theorem ZfW {K:List Int} {m:Int} (h:Vk 0 m K) (h0:0≤m) (hm:m≤2147483647) (hl:K.length≤1048576):∀ r∈keptR 0 K++[⟨K.length,m,0⟩],sm r:=by
 intro r hr
 rw[List.mem_append,List.mem_singleton] at hr
 rcases hr with hr | rfl
 ·rw[Zhs] at hr
  obtain⟨h1,h2,h3,h4⟩:=hr
  have hlt:=(List.getElem?_eq_some_iff.1 h3).1
  have hz:=List.mem_of_getElem? h3
  have:=h.each (Int.le_refl _) _ hz
  have:=h.lt _ hz
  unfold sm
  omega
 ·unfold sm
  dsimp only
  omega
theorem ZfV (i:Int) (K:List Int):(keptR i K).length≤K.length:=by
 induction K generalizing i with
 | nil=>simp[keptR]
 | cons z t ih =>
  have:=ih (i+1)
  rw[keptR]
  split<;>simp<;>omega
theorem ZaG (K:List Int) (m:Int) (L:List Ch) (v:Value) (w:World) (hK:HI w v K) (hlen:K.length≤1048576) (hV:Hid (Vk 0 m K)) (hm0:0≤m) (hm:m≤2147483647) (hL:Hid (mkL K m=L)) :
  Calls Tryz.prog 79 #[v,.int .i64 m] w fun e w'=>∃ v',e=.returned (.tuple #[v',.int .i64 0])∧HCh w' v' L∧Below w.heap.size w w':=by
 obtain⟨ao,ca,rfl⟩:=Holds.form hK
 go_enter Tryz.func79,Tryz.ntmps79
 go_wp2
 go_loopw [6,7,14] (fun kv nv iv wr=>∃ (k:Nat) (nx:Int) (X:List Rn),k≤K.length∧(∃ oo oc,kv=.slice oo X.length oc)∧nv=.int .i64 nx∧iv=.int .i64 k∧0≤nx∧nx≤m∧Below w.heap.size w wr∧wr.ownsRow w.heap.size 145 3 kv X.length (rncells X)∧X.length≤k∧Hid (Vk nx m (K.drop k)∧X++keptR k (K.drop k)=keptR 0 K)) (fun _ _ iv _=>K.length-(intOf iv).toNat)
 case atStart=>exact⟨0,0,[],Nat.zero_le _,⟨_,_,rfl⟩,rfl,rfl,by omega,by omega,Below.refl _ w,World.ownsRow_nil _ _ _ _,Nat.zero_le _,(⟨hV.out,rfl⟩:_∧_)⟩
 case round =>
  obtain⟨k,nx,X,hk,⟨oo,oc,rfl⟩,rfl,rfl,hn0,hnm,hB,hO,hX,hR⟩:=hrel
  have hsz:=hB.size
  by_cases hlt:k<K.length
  ·obtain⟨bk,off,rfl,hbk,hc⟩:=HI.at (HI.keep hK hB (Nat.le_refl _)) (by omega)
   have c0:=hc k hlt
   have hR':=hR.out
   rw[List.drop_eq_getElem_cons hlt] at hR'
   obtain⟨z,hzd⟩:∃ z,K[k]=z:=⟨_,rfl⟩
   rw[hzd] at hR' c0
   clear hc hzd hR
   have i1:0≤(k:Int):=by omega
   have i2:(k:Int)<(K.length:Int):=by omega
   by_cases hz:z=-1
   ·subst hz
    have HR:Hid (Vk nx m (K.drop (k+1))∧X++keptR (k+1:Nat) (K.drop (k+1))=keptR 0 K):=(by
     obtain⟨h1,h2⟩:=hR'
     rw[keptR,if_pos rfl] at h2
     rcases h1 with ⟨_,h1⟩ | ⟨h1,_⟩
     ·exact⟨h1,h2⟩
     ·exact absurd rfl h1)
    clear hR'
    go_wp2
    go_roundw
    case rel=>exact⟨k+1,nx,X,by omega,⟨_,_,rfl⟩,rfl,by go_num,hn0,hnm,hB,hO,by omega,HR⟩
    case measure=>simp[intOf];omega
   ·have hq:nx≤z∧z<m∧Vk (z+1) m (K.drop (k+1)):=by
     rcases hR'.1 with ⟨h1,_⟩ | ⟨_,h1⟩
     ·exact absurd h1 hz
     ·exact h1
    obtain⟨q1,q2,q3⟩:=hq
    have HR:Hid (Vk (z+1) m (K.drop (k+1))∧X++[⟨k,z,1⟩]++keptR (k+1:Nat) (K.drop (k+1))=keptR 0 K):=(by
     obtain⟨_,h2⟩:=hR'
     rw[keptR,if_neg hz] at h2
     refine⟨q3,?_⟩
     rw[← h2,List.append_assoc]
     rfl)
    clear hR' q3
    have hz2:decide (z=-1)=false:=decide_eq_false hz
    go_wp2_with (at_builtin;refine Zoe _ (by kernel_rfl) (.tmp 29) (.tmp 33) 143 145 (.agg #[.int .i64 0,.int .i64 0,.int .i64 0]) 3 24 rfl Tryz.underlying143 infoRn rfl (by decide) (by decide) w.heap.size _ _ _ rfl (hO.alloc _) _ 1 (rncells [⟨k,z,1⟩]) rfl (ZhL _ _ _ _ _ (by decide)) rfl (ZjG _) (by omega) (by simp;omega) ?_)
    intro v2 w2 hown2 hgrow2
    have hB2:Below w.heap.size w w2:=(hB.alloc (by omega) _).grown hgrow2 (by simp;omega) (fun _ hj=>owns_ge hO hj)
    rw[← ZjD] at hown2
    obtain⟨oo2,oc2,rfl⟩:=(holds_of hown2).form
    clear hgrow2 c0
    go_wp2
    go_roundw
    case rel=>exact⟨k+1,z+1,X++[⟨k,z,1⟩],by omega,⟨_,_,by rw[List.length_append];rfl⟩,by go_num,by go_num,by omega,by omega,hB2,by rw[List.length_append];exact hown2,by simp;omega,HR⟩
    case measure=>simp[intOf];omega
  ·have hR':=hR.out
   rw[List.drop_of_length_le (by omega),keptR,List.append_nil] at hR'
   have hXe:=hR'.2
   subst hXe
   clear hR hR'
   go_wp2_with fail
   refine (ZbI _ _ L K.length m _ w.heap.size wr (by omega) hO (by have:=ZfV 0 K;omega) rfl hL (ZfW hV.out hm0 hm hlen) (by
    have h:=(ZhB hV.out hm0 hm hlen).1.2.2.num
    rw[hL.out] at h
    exact h)).mono ?_
   rintro e w2 ⟨v',rfl,hv',hB2⟩
   go_wp2
   go_ret2
   exact⟨_,rfl,hv',hB.trans hB2⟩
end

section
open Go.RowKit
end

section
structure Pr where
 X:Int
 Y:Int
abbrev ab (p q:Pr):Prop:=q.X<p.X∧q.Y<p.Y
theorem ZaY {p q r:Pr} (h:ab p q) (h':ab q r):ab p r:=⟨Int.lt_trans h'.1 h.1,Int.lt_trans h'.2 h.2⟩
def mxl (p:Pr):List Pr→List Nat→Nat
 | t::ts,n::ns=>if ab t p then max n (mxl p ts ns) else mxl p ts ns
 | _,_=>0
def rl:List Pr→List Nat
 | []=>[]
 | p::t=>(mxl p t (rl t)+1)::rl t
theorem ZjB (l:List Pr):(rl l).length=l.length:=by
 induction l with
 | nil=>rfl
 | cons p t ih=>simp[rl,ih]
theorem ZhF (p:Pr) (t:List Pr) (ns:List Nat) (k:Nat) (q:Pr) (n:Nat) (hq:t[k]?=some q) (hn:ns[k]?=some n) (ha:ab q p):n≤mxl p t ns:=by
 induction t generalizing ns k with
 | nil=>simp at hq
 | cons a t ih =>
  cases ns with
  | nil=>simp at hn
  | cons b ns =>
   rw[mxl]
   cases k with
   | zero =>
    simp at hq hn
    subst hq hn
    rw[if_pos ha]
    omega
   | succ k =>
    have:=ih ns k (by simpa using hq) (by simpa using hn)
    split<;>omega
theorem ZhE (p:Pr) (t:List Pr) (ns:List Nat) (h:0<mxl p t ns):∃ (k:Nat) (q:Pr),t[k]?=some q∧ns[k]?=some (mxl p t ns)∧ab q p:=by
 induction t generalizing ns with
 | nil=>simp[mxl] at h
 | cons a t ih =>
  cases ns with
  | nil=>simp[mxl] at h
  | cons b ns =>
   rw[mxl] at h ⊢
   by_cases ha:ab a p
   ·rw[if_pos ha] at h ⊢
    by_cases hb:mxl p t ns≤b
    ·exact⟨0,a,rfl,by simp;omega,ha⟩
    ·obtain⟨k,q,h1,h2,h3⟩:=ih ns (by omega)
     exact⟨k+1,q,by simpa using h1,by simp[h2];omega,h3⟩
   ·rw[if_neg ha] at h ⊢
    obtain⟨k,q,h1,h2,h3⟩:=ih ns h
    exact⟨k+1,q,by simpa using h1,by simpa using h2,h3⟩
def Hd (t:List Pr) (n:Nat) (p:Pr):Prop:=∃ (k:Nat) (q:Pr),t[k]?=some q∧(rl t)[k]?=some (n+1)∧ab q p
theorem Hd.down {t:List Pr} {n:Nat} {p:Pr} (h:Hd t (n+1) p):Hd t n p:=by
 obtain⟨k,q,h1,h2,h3⟩:=h
 induction t generalizing k with
 | nil=>simp at h1
 | cons a t ih =>
  cases k with
  | zero =>
   simp[rl] at h1 h2
   subst h1
   obtain⟨j,r,g1,g2,g3⟩:=ZhE a t (rl t) (by omega)
   exact⟨j+1,r,by simpa using g1,by simp[rl,g2,h2],ZaY g3 h3⟩
  | succ k =>
   obtain⟨j,r,g1,g2,g3⟩:=ih k (by simpa using h1) (by simpa [rl] using h2)
   exact⟨j+1,r,by simpa using g1,by simpa [rl] using g2,g3⟩
theorem Hd.downs {t : List Pr} {n m : Nat} {p : Pr} (h : Hd t n p) (hm : m ≤ n) : Hd t m p := by
  induction n with
  | zero => obtain rfl : m = 0 := by omega
            exact h
  | succ n ih =>
    by_cases e : m = n + 1
    · subst e; exact h
    · exact ih h.down (by omega)
def Stair (h:List Pr):Prop:=h.Pairwise fun a b=>b.X≤a.X∧a.Y≤b.Y
structure Hds (t:List Pr) (H:List (List Pr)):Prop where
 st:∀ h∈H,Stair h
 eq:∀ n h,H[n]?=some h→∀ p,(∃ a∈h,ab a p)↔Hd t n p
 top:∀ n∈rl t,n≤H.length
theorem Hds.start:Hds [] []:=⟨by simp,by simp,by simp[rl]⟩
theorem Hds.beyond {t:List Pr} {H:List (List Pr)} (h:Hds t H) {n:Nat} (hn:H.length≤n) (p:Pr):¬ Hd t n p:=by
 rintro⟨k,q,h1,h2,h3⟩
 have:=h.top (n+1) (List.mem_of_getElem? h2)
 omega
theorem ZhI {t:List Pr} {H:List (List Pr)} (_h:Hds t H) {p:Pr} {n:Nat} (h1:∀ m,m<n→Hd t m p) (h2:¬ Hd t n p):mxl p t (rl t)=n:=by
 have hle:mxl p t (rl t)≤n:=by
  by_cases hc:mxl p t (rl t)≤n
  ·exact hc
  ·exfalso
   obtain⟨k,q,g1,g2,g3⟩:=ZhE p t (rl t) (by omega)
   have:Hd t (mxl p t (rl t)-1) p:=⟨k,q,g1,by rw[g2];congr 1;omega,g3⟩
   exact h2 (this.downs (by omega))
 cases n with
 | zero=>omega
 | succ n =>
  obtain⟨k,q,g1,g2,g3⟩:=h1 n (Nat.lt_succ_self n)
  have:=ZhF p t (rl t) k q (n+1) g1 g2 g3
  omega
def upto (h:List Pr) (x:Int):Nat:=h.findIdx fun a=>decide (a.X≤x)
def grt (h:List Pr) (y:Int):Nat:=h.findIdx fun a=>decide (y<a.Y)
def ins (h:List Pr) (p:Pr):List Pr:=h.take (upto h p.X)++p::h.drop (grt h p.Y)
theorem Zmo (h:List Pr) (x:Int):upto h x≤h.length:=List.findIdx_le_length
theorem ZeM (h:List Pr) (y:Int):grt h y≤h.length:=List.findIdx_le_length
theorem Zmp {h:List Pr} {x:Int} {i:Nat} (hi:i<upto h x) (hl:i<h.length):x<h[i].X:=by
 have:=List.not_of_lt_findIdx (p:=fun a:Pr=>decide (a.X≤x)) (xs:=h) hi
 simpa using this
theorem Zmm {h:List Pr} (hs:Stair h) {x:Int} {i:Nat} (hi:upto h x≤i) (hl:i<h.length):h[i].X≤x:=by
 have h0:upto h x<h.length:=by omega
 have h1:h[upto h x].X≤x:=of_decide_eq_true (List.findIdx_getElem (p:=fun a:Pr=>decide (a.X≤x)) (xs:=h) (w:=h0))
 by_cases e:upto h x=i
 ·simpa [e] using h1
 ·have:=(List.pairwise_iff_getElem.1 hs) (upto h x) i h0 hl (by omega)
  omega
theorem ZeN {h:List Pr} {y:Int} {i:Nat} (hi:i<grt h y) (hl:i<h.length):h[i].Y≤y:=by
 have:=List.not_of_lt_findIdx (p:=fun a:Pr=>decide (y<a.Y)) (xs:=h) hi
 simpa using this
theorem ZeL {h:List Pr} (hs:Stair h) {y:Int} {i:Nat} (hi:grt h y≤i) (hl:i<h.length):y<h[i].Y:=by
 have h0:grt h y<h.length:=by omega
 have h1:y<h[grt h y].Y:=of_decide_eq_true (List.findIdx_getElem (p:=fun a:Pr=>decide (y<a.Y)) (xs:=h) (w:=h0))
 by_cases e:grt h y=i
 ·simpa [e] using h1
 ·have:=(List.pairwise_iff_getElem.1 hs) (grt h y) i h0 hl (by omega)
  omega
theorem ZbC {h:List Pr} (hs:Stair h) (p:Pr):(∃ a∈h,ab a p)↔0<upto h p.X∧∃ a,h[upto h p.X-1]?=some a∧p.Y<a.Y:=by
 constructor
 ·rintro⟨a,ha,h1,h2⟩
  obtain⟨i,hi,rfl⟩:=List.getElem_of_mem ha
  have hlt:i<upto h p.X:=by
   by_cases c:i<upto h p.X
   ·exact c
   ·have:=Zmm hs (x:=p.X) (i:=i) (by omega) hi;omega
  have hle:=Zmo h p.X
  refine⟨by omega,h[upto h p.X-1],List.getElem?_eq_getElem (by omega),?_⟩
  by_cases e:i=upto h p.X-1
  ·simpa [← e] using h2
  ·have:=(List.pairwise_iff_getElem.1 hs) i (upto h p.X-1) hi (by omega) (by omega)
   omega
 ·rintro⟨h0,a,ha,h1⟩
  obtain⟨hl,rfl⟩:=List.getElem?_eq_some_iff.1 ha
  exact⟨_,List.getElem_mem _,Zmp (by omega) hl,h1⟩
theorem Zmn {h:List Pr} (hs:Stair h) {p:Pr} (hn:¬ ∃ a∈h,ab a p):upto h p.X≤grt h p.Y:=by
 by_cases c:upto h p.X≤grt h p.Y
 ·exact c
 ·exfalso
  have hl:=Zmo h p.X
  exact hn ⟨h[grt h p.Y]'(by omega),List.getElem_mem _,Zmp (by omega) (by omega),ZeL hs (Nat.le_refl _) (by omega)⟩
theorem ZfJ {h:List Pr} (hs:Stair h) {p:Pr} (hn:¬ ∃ a∈h,ab a p):Stair (ins h p):=by
 unfold ins Stair
 rw[List.pairwise_append]
 refine⟨hs.take,?_,?_⟩
 ·rw[List.pairwise_cons]
  refine⟨fun a ha=>?_,hs.drop⟩
  obtain⟨i,hi,rfl⟩:=List.getElem_of_mem ha
  rw[List.length_drop] at hi
  rw[List.getElem_drop]
  have hug:=Zmn hs hn
  exact⟨Zmm hs (by omega) (by omega),Int.le_of_lt (ZeL hs (by omega) (by omega))⟩
 ·intro a ha b hb
  obtain⟨i,hi,rfl⟩:=List.getElem_of_mem ha
  rw[List.length_take] at hi
  rw[List.getElem_take]
  have h1:=Zmp (h:=h) (x:=p.X) (i:=i) (by omega) (by omega)
  rw[List.mem_cons] at hb
  rcases hb with hb | hb
  ·rw[hb]
   refine⟨Int.le_of_lt h1,?_⟩
   by_cases c:h[i].Y≤p.Y
   ·exact c
   ·exact absurd ⟨h[i],List.getElem_mem _,h1,by omega⟩ hn
  ·obtain⟨j,hj,rfl⟩:=List.getElem_of_mem hb
   rw[List.length_drop] at hj
   rw[List.getElem_drop]
   have hug:=Zmn hs hn
   exact (List.pairwise_iff_getElem.1 hs) i (grt h p.Y+j) (by omega) (by omega) (by omega)
theorem ZfH {h:List Pr} (hs:Stair h) {p:Pr} (hn:¬ ∃ a∈h,ab a p) (q:Pr):(∃ a∈ins h p,ab a q)↔ab p q∨∃ a∈h,ab a q:=by
 constructor
 ·rintro⟨a,ha,hq⟩
  unfold ins at ha
  rw[List.mem_append,List.mem_cons] at ha
  rcases ha with ha | rfl | ha
  ·exact .inr ⟨a,List.mem_of_mem_take ha,hq⟩
  ·exact .inl hq
  ·exact .inr ⟨a,List.mem_of_mem_drop ha,hq⟩
 ·rintro (hq | ⟨a,ha,hq⟩)
  ·exact⟨p,by simp[ins],hq⟩
  ·obtain⟨i,hi,rfl⟩:=List.getElem_of_mem ha
   by_cases c1:i<upto h p.X
   ·refine⟨h[i],?_,hq⟩
    unfold ins
    rw[List.mem_append]
    left
    rw[List.mem_take_iff_getElem]
    exact⟨i,by omega,rfl⟩
   ·by_cases c2:i<grt h p.Y
    ·have h1:=Zmm hs (x:=p.X) (i:=i) (by omega) hi
     have h2:=ZeN (y:=p.Y) (i:=i) c2 hi
     have:=hq.1
     have:=hq.2
     exact⟨p,by simp[ins],by unfold ab;omega⟩
    ·refine⟨h[i],?_,hq⟩
     unfold ins
     rw[List.mem_append,List.mem_cons]
     right;right
     rw[List.mem_drop_iff_getElem]
     exact⟨i-grt h p.Y,by omega,by congr 1;omega⟩
def room (H:List (List Pr)) (n:Nat):List (List Pr):=if n=H.length then H++[[]] else H
theorem Hds.step {t:List Pr} {H:List (List Pr)} (h:Hds t H) {p:Pr} {n:Nat} (hn:n≤H.length) (h1:∀ m,m<n→Hd t m p) (h2:¬ Hd t n p) (g:List Pr) (hg:(room H n)[n]?=some g) :
  Hds (p::t) ((room H n).set n (ins g p))∧rl (p::t)=(n+1)::rl t∧Stair g∧¬ ∃ a∈g,ab a p:=by
 have hm:=ZhI h h1 h2
 have hr:rl (p::t)=(n+1)::rl t:=by rw[rl,hm]
 have hgs:Stair g∧∀ q,(∃ a∈g,ab a q)↔Hd t n q:=by
  unfold room at hg
  by_cases e:n=H.length
  ·rw[if_pos e,e,List.getElem?_append_right (Nat.le_refl _)] at hg
   simp at hg
   subst hg
   exact⟨List.Pairwise.nil,fun q=>⟨by simp,fun hh=>absurd hh (h.beyond (by omega) q)⟩⟩
  ·rw[if_neg e] at hg
   exact⟨h.st g (List.mem_of_getElem? hg),h.eq n g hg⟩
 have hna:¬ ∃ a∈g,ab a p:=fun c=>h2 ((hgs.2 p).1 c)
 have hlen:H.length≤(room H n).length∧n<(room H n).length:=by unfold room;split<;>simp<;>omega
 refine⟨⟨?_,?_,?_⟩,hr,hgs.1,hna⟩
 ·intro k hk
  rcases List.mem_or_eq_of_mem_set hk with hk | rfl
  ·unfold room at hk
   split at hk
   ·rw[List.mem_append,List.mem_singleton] at hk
    rcases hk with hk | rfl
    ·exact h.st k hk
    ·exact List.Pairwise.nil
   ·exact h.st k hk
  ·exact ZfJ hgs.1 hna
 ·intro m k hk q
  by_cases e:m=n
  ·subst e
   rw[List.getElem?_set_self hlen.2] at hk
   cases hk
   rw[ZfH hgs.1 hna,hgs.2]
   constructor
   ·rintro (hq | ⟨j,r,g1,g2,g3⟩)
    ·exact⟨0,p,rfl,by rw[hr];rfl,hq⟩
    ·exact⟨j+1,r,by simpa using g1,by rw[hr];simpa using g2,g3⟩
   ·rintro⟨j,r,g1,g2,g3⟩
    cases j with
    | zero=>simp at g1;subst g1;exact .inl g3
    | succ j=>exact .inr ⟨j,r,by simpa using g1,by rw[hr] at g2;simpa using g2,g3⟩
  ·rw[List.getElem?_set_ne (fun e'=>e e'.symm)] at hk
   have hk':H[m]?=some k:=by
    unfold room at hk
    split at hk
    ·by_cases hml:m<H.length
     ·rwa [List.getElem?_append_left hml] at hk
     ·have:=(List.getElem?_eq_some_iff.1 hk).1
      simp at this
      omega
    ·exact hk
   rw[h.eq m k hk']
   constructor
   ·rintro⟨j,r,g1,g2,g3⟩
    exact⟨j+1,r,by simpa using g1,by rw[hr];simpa using g2,g3⟩
   ·rintro⟨j,r,g1,g2,g3⟩
    cases j with
    | zero=>rw[hr] at g2;simp at g2;omega
    | succ j=>exact⟨j,r,by simpa using g1,by rw[hr] at g2;simpa using g2,g3⟩
 ·intro m hm'
  rw[hr,List.mem_cons] at hm'
  rw[List.length_set]
  rcases hm' with rfl | hm'
  ·omega
  ·have:=h.top m hm'
   omega
def pick:Nat→Option Pr→List Pr→List Nat→List Pr
 | left,last,p::l,n::ns=>if n=left∧(∀ q,last=some q→ab p q) then p::pick (left-1) (some p) l ns else pick left last l ns
 | _,_,_,_=>[]
def mxn:List Nat→Nat
 | []=>0
 | n::ns=>max n (mxn ns)
def lng (l:List Pr):List Pr:=pick (mxn (rl l)) none l (rl l)
end

section
def lc:List Int→List Int→Nat
 | [],_=>0
 | _::_,[]=>0
 | a::x,b::y=>if a=b then lc x y+1 else max (lc x (b::y)) (lc (a::x) y)
theorem Zgx (y:List Int):lc [] y=0:=by rw[lc]
theorem Zgy (x:List Int):lc x []=0:=by cases x<;>rw[lc]
theorem Zgu (a b:Int) (x y:List Int):lc (a::x) (b::y)=if a=b then lc x y+1 else max (lc x (b::y)) (lc (a::x) y):=by rw[lc]
theorem Zgv (x y:List Int):∃ s:List Int,s.Sublist x∧s.Sublist y∧s.length=lc x y:=by
 induction x generalizing y with
 | nil=>exact⟨[],List.Sublist.refl _,List.nil_sublist _,by rw[Zgx];rfl⟩
 | cons a x ih =>
  induction y with
  | nil=>exact⟨[],List.nil_sublist _,List.Sublist.refl _,by rw[Zgy];rfl⟩
  | cons b y ihy =>
   rw[Zgu]
   by_cases h:a=b
   ·subst h
    obtain⟨s,h1,h2,h3⟩:=ih y
    exact⟨a::s,h1.cons_cons a,h2.cons_cons a,by rw[if_pos rfl];simp[h3]⟩
   ·rw[if_neg h]
    obtain⟨s,h1,h2,h3⟩:=ih (b::y)
    obtain⟨t,k1,k2,k3⟩:=ihy
    by_cases hm:lc x (b::y)≤lc (a::x) y
    ·exact⟨t,k1,k2.cons b,by omega⟩
    ·exact⟨s,h1.cons a,h2,by omega⟩
theorem Zgw (x y:List Int):lc x y≤x.length:=by
 obtain⟨s,h1,_,h3⟩:=Zgv x y
 rw[← h3];exact h1.length_le
def gr:List Int→List Int→Nat
 | [],_=>0
 | _::_,[]=>0
 | a::x,b::y=>if a=b then gr x y+1 else gr (a::x) y
def kp (b:Int):List Int→List Int→List Int
 | [],_=>[]
 | _::x,[]=>-1::kp b x []
 | a::x,c::y=>if a=c then b::kp (b+1) x y else if lc (a::x) y≤lc x (c::y) then -1::kp b x (c::y) else kp (b+1) (a::x) y
theorem Zge (b:Int) (y:List Int):kp b [] y=[]:=by rw[kp]
theorem Zgf (b:Int) (x:List Int):kp b x []=List.replicate x.length (-1):=by
 induction x with
 | nil=>rw[kp];rfl
 | cons a x ih=>rw[kp,ih];rfl
theorem Zgb (b a c:Int) (x y:List Int):kp b (a::x) (c::y)=if a=c then b::kp (b+1) x y else if lc (a::x) y≤lc x (c::y) then -1::kp b x (c::y) else kp (b+1) (a::x) y:=by rw[kp]
theorem Zgd (b:Int) (x y:List Int):(kp b x y).length=x.length:=by
 induction x generalizing y b with
 | nil=>rw[Zge]
 | cons a x ih =>
  induction y generalizing b with
  | nil=>rw[Zgf];simp
  | cons c y ihy =>
   rw[Zgb]
   split
   ·simp[ih]
   split
   ·simp[ih]
   ·exact ihy _
theorem Vk.up {a b m:Int} {K:List Int} (h:Vk b m K) (hab:a≤b):Vk a m K:=by
 induction K with
 | nil=>trivial
 | cons z t ih =>
  rcases h with ⟨h1,h2⟩ | ⟨h1,h2,h3⟩
  ·exact .inl ⟨h1,ih h2⟩
  ·exact .inr ⟨h1,by omega,h3⟩
theorem Vk.none (b m:Int) (k:Nat):Vk b m (List.replicate k (-1)):=by
 induction k with
 | zero=>trivial
 | succ k ih=>exact .inl ⟨rfl,ih⟩
theorem Zgj (b:Int) (x y:List Int) (hb:0≤b):Vk b (b+y.length) (kp b x y):=by
 induction x generalizing y b with
 | nil=>rw[Zge];trivial
 | cons a x ih =>
  induction y generalizing b with
  | nil=>rw[Zgf];exact Vk.none _ _ _
  | cons c y ihy =>
   rw[Zgb]
   split
   ·refine .inr ⟨by omega,by omega,by simp;omega,?_⟩
    have:=ih (b+1) y (by omega)
    rw[show b+((c::y).length:Int)=b+1+(y.length:Int) by simp;omega]
    exact this
   split
   ·exact .inl ⟨rfl,ih b (c::y) hb⟩
   ·have:=ihy (b+1) (by omega)
    rw[show b+((c::y).length:Int)=b+1+(y.length:Int) by simp;omega]
    exact this.up (by omega)
theorem Zgg (b:Int) (x y:List Int) (hb:0≤b) (i:Nat) (z:Int) (h:(kp b x y)[i]?=some z) (hz:0≤z):b≤z∧∃ c,x[i]?=some c∧y[(z-b).toNat]?=some c:=by
 induction x generalizing y b i with
 | nil=>rw[Zge] at h;simp at h
 | cons a x ih =>
  induction y generalizing b i with
  | nil =>
   rw[Zgf] at h
   have:=List.eq_of_mem_replicate (List.mem_of_getElem? h)
   omega
  | cons c y ihy =>
   rw[Zgb] at h
   by_cases e:a=c
   ·subst e
    rw[if_pos rfl] at h
    cases i with
    | zero =>
     simp at h
     subst h
     exact⟨Int.le_refl _,a,by simp,by simp⟩
    | succ i =>
     obtain⟨h1,d,h2,h3⟩:=ih (b+1) y (by omega) i (by simpa using h)
     refine⟨by omega,d,by simpa using h2,?_⟩
     rw[show (z-b).toNat=(z-(b+1)).toNat+1 by omega]
     simpa using h3
   ·rw[if_neg e] at h
    split at h
    ·cases i with
     | zero=>simp at h;omega
     | succ i =>
      obtain⟨h1,d,h2,h3⟩:=ih b (c::y) hb i (by simpa using h)
      exact⟨h1,d,by simpa using h2,h3⟩
    ·obtain⟨h1,d,h2,h3⟩:=ihy (b+1) (by omega) i h
     refine⟨by omega,d,h2,?_⟩
     rw[show (z-b).toNat=(z-(b+1)).toNat+1 by omega]
     simpa using h3
def fr:List Int→List Int→Nat
 | a::x,b::y=>if a=b then fr x y+1 else 0
 | _,_=>0
theorem Zek (x y:List Int):fr x y≤x.length∧fr x y≤y.length:=by
 induction x generalizing y with
 | nil=>simp[fr]
 | cons a x ih =>
  cases y with
  | nil=>simp[fr]
  | cons b y =>
   have:=ih y
   rw[fr]
   split<;>simp<;>omega
theorem Zej (x y:List Int) (i:Nat) (h:i<fr x y):x[i]?=y[i]?:=by
 induction x generalizing y i with
 | nil=>simp[fr] at h
 | cons a x ih =>
  cases y with
  | nil=>simp[fr] at h
  | cons b y =>
   rw[fr] at h
   split at h
   ·rename_i e
    subst e
    cases i with
    | zero=>simp
    | succ i=>simpa using ih y i (by omega)
   ·omega
theorem Zel (x y:List Int) (i:Nat) (hx:i<x.length) (hy:i<y.length):fr (x.drop i) (y.drop i)=if x[i]=y[i] then fr (x.drop (i+1)) (y.drop (i+1))+1 else 0:=by
 rw[List.drop_eq_getElem_cons hx,List.drop_eq_getElem_cons hy,fr]
def ln (x y:List Int) (i j:Nat):Nat:=lc (x.drop i) (y.drop j)
theorem ZgK (x y:List Int) (i j:Nat) (h:x.length≤i∨y.length≤j):ln x y i j=0:=by
 rcases h with h | h
 ·rw[ln,List.drop_of_length_le h,Zgx]
 ·rw[ln,List.drop_of_length_le h,Zgy]
theorem ZgM (x y:List Int) (i j:Nat) (hx:i<x.length) (hy:j<y.length):ln x y i j=if x[i]=y[j] then ln x y (i+1) (j+1)+1 else max (ln x y (i+1) j) (ln x y i (j+1)):=by
 unfold ln
 rw[List.drop_eq_getElem_cons hx,List.drop_eq_getElem_cons hy,Zgu]
theorem ZgL (x y:List Int) (i j:Nat):ln x y i j≤x.length:=by
 have:=Zgw (x.drop i) (y.drop j)
 simp at this
 unfold ln
 omega
theorem Zgi (b:Int) (x y:List Int) (i j:Nat) (hx:i<x.length) (hy:j<y.length):kp b (x.drop i) (y.drop j)=if x[i]=y[j] then b::kp (b+1) (x.drop (i+1)) (y.drop (j+1)) else if ln x y i (j+1)≤ln x y (i+1) j then -1::kp b (x.drop (i+1)) (y.drop j) else kp (b+1) (x.drop i) (y.drop (j+1)):=by
 unfold ln
 rw[List.drop_eq_getElem_cons hx,List.drop_eq_getElem_cons hy,Zgb]
theorem Zgh (b:Int) (x y:List Int) (i:Nat) (h:i<fr x y):kp b (x.drop i) (y.drop i)=b::kp (b+1) (x.drop (i+1)) (y.drop (i+1)):=by
 have h1:=Zek x y
 rw[Zgi b x y i i (by omega) (by omega),if_pos]
 have:=Zej x y i h
 rw[List.getElem?_eq_getElem (by omega),List.getElem?_eq_getElem (by omega)] at this
 simpa using this
end

section
open Go.RowKit
theorem info16:(Tryz.prog.info? 170).map (fun i=>(i.zero,i.size,i.bytes))=some (some (.int .i16 0),1,2):=by kernel_rfl
def tabV (W g N:Nat):Value:=.agg #[.int .i64 (W:Int),.slice (some ⟨g,0,none⟩) N N]
theorem ZkD (g N p q:Nat) (hpq:p≤q) (hq:q≤N) (hp:p<N) (u:World) :
  (Instr.slice 149 (.slice (some ⟨g,0,none⟩) N N) (some (.int .i64 (p:Int))) (some (.int .i64 (q:Int))) none).run Tryz.prog u=.ok (.slice (some ⟨g,p,none⟩) (q-p) (N-p)) u:=by
 rw[run_slice_lh (P:=Tryz.prog) u 149 (some ⟨g,0,none⟩) N N (by kernel_rfl) .i64 .i64 p q (by omega) (by omega) (by omega)]
 have:(sizeOf (Tryz.prog.elem 149)).run Tryz.prog u=.ok 1 u:=by kernel_rfl
 rw[this]
 simp[Result.andThen,sliced,add_none]
 omega
theorem ZjJ (W g N p q L:Nat) (hL:q-p=L) (z:Int) (w:World) (h1:z * (W:Int)=(p:Int)) (h2:(z+1) * (W:Int)=(q:Int)) (hpq:p≤q) (hq:q≤N) (hp:p<N) (hN:N≤1099511627776) (hi0:0≤z) (hi:z≤1099511627776) :
  Calls Tryz.prog 115 #[tabV W g N,.int .i64 z] w fun e w'=>e=.returned (.slice (some ⟨g,p,none⟩) L (N-p))∧Below w.heap.size w w':=by
 have hr:=ZkD g N p q hpq hq hp
 rw[hL] at hr
 clear hL
 unfold tabV
 go_enter Tryz.func115,Tryz.ntmps115
 go_wp2
 go_ret
 exact⟨rfl,(Below.refl _ w).alloc (Nat.le_refl _) _⟩
theorem at_n (W g N i j p q:Nat) (x:Int) (w:World) (h1:(i:Int) * (W:Int)=(p:Int)) (h2:(p:Int)+(j:Int)=(q:Int)) (hN:N≤1099511627776) (hpj:q<N) (hx:w.cell? ⟨g,q,none⟩=some (.int .i16 x)) (hx0:0≤x) (hx1:x≤4096) :
  Calls Tryz.prog 105 #[tabV W g N,.int .i64 (i:Int),.int .i64 (j:Int)] w fun e w'=>e=.returned (.int .i64 x)∧Below w.heap.size w w':=by
 have hg:=World.block_lt_of_cell? w _ hx
 have hx':(w.alloc (Obj.cells #[Value.int IntKind.i64 (W:Int),Value.slice (some ⟨g,0,none⟩) N N] 151)).cell? ⟨g,q,none⟩=some (.int .i16 x):=by
  rw[World.cell?_of_block (w:=w) (Below.heap_alloc _ _ _ hg)];exact hx
 have i1:0≤(q:Int):=by omega
 have i2:(q:Int)<(N:Int):=by omega
 unfold tabV
 go_enter Tryz.func105,Tryz.ntmps105
 go_wp2
 go_ret
 exact⟨rfl,(Below.refl _ w).alloc (Nat.le_refl _) _⟩
theorem at_f (W g N p q:Nat) (i j x:Int) (w:World) (hi:0≤i) (hj:0≤j) (h1:i * (W:Int)=(p:Int)) (h2:(p:Int)+j=(q:Int)) (hN:N≤1099511627776) (hpj:q<N) (hx:w.cell? ⟨g,q,none⟩=some (.int .i16 x)) (hx0:0≤x) (hx1:x≤4096) :
  Calls Tryz.prog 105 #[tabV W g N,.int .i64 i,.int .i64 j] w fun e w'=>e=.returned (.int .i64 x)∧Below w.heap.size w w':=by
 obtain⟨a,rfl⟩:=Int.eq_ofNat_of_zero_le hi
 obtain⟨b,rfl⟩:=Int.eq_ofNat_of_zero_le hj
 exact at_n W g N a b p q x w h1 h2 hN hpj hx hx0 hx1
end

section
open Go.RowKit
theorem Zfr {W i j i' j':Nat} (hj:j<W) (hj':j'<W) (h:i * W+j=i' * W+j'):i=i'∧j=j':=by
 have h1:(i * W+j) / W=i:=by rw[Nat.mul_comm,Nat.mul_add_div (by omega),Nat.div_eq_of_lt hj,Nat.add_zero]
 have h2:(i' * W+j') / W=i':=by rw[Nat.mul_comm,Nat.mul_add_div (by omega),Nat.div_eq_of_lt hj',Nat.add_zero]
 have h3:i=i':=by rw[← h1,← h2,h]
 subst h3
 exact⟨rfl,by omega⟩
theorem Zfs {W i j n:Nat} (hj:j<W) (hi:i≤n):i * W+j<(n+1) * W:=by
 have:i * W≤n * W:=Nat.mul_le_mul_right _ hi
 rw[Nat.succ_mul]
 omega
def Done (x y:List Int) (k c:Nat) (Y:List Value):Prop:=∀ i j,i≤x.length→j≤y.length→(k<i∨(i=k∧c≤j)∨j=y.length)→Y[i * (y.length+1)+j]?=some (.int .i16 ((ln x y i j:Nat):Int))
theorem Done.start (x y:List Int) (N:Nat) (hN:N=(x.length+1) * (y.length+1)):Done x y x.length 0 (List.replicate N (.int .i16 0)):=by
 intro i j hi hj h
 rw[ZgK x y i j (by omega),List.getElem?_replicate,if_pos (by rw[hN];exact Zfs (by omega) hi)]
 rfl
theorem Done.next {x y:List Int} {i:Nat} {Y:List Value} (h:Done x y (i+1) 0 Y):Done x y i y.length Y:=by
 intro i' j' hi hj hc
 exact h i' j' hi hj (by omega)
theorem Done.set {x y : List Int} {i j : Nat} {Y : List Value} (h : Done x y i (j + 1) Y) (hi : i ≤ x.length) (hj : j < y.length) (hY : Y.length = (x.length + 1) * (y.length + 1)) (p : Nat) (hp : p = i * (y.length + 1) + j) (v : Int) (hv : v = ((ln x y i j : Nat) : Int)) : Done x y i j (Y.set p (.int .i16 v)) := by
  intro i' j' hi' hj' hc
  subst hp hv
  by_cases e : i' * (y.length + 1) + j' = i * (y.length + 1) + j
  · obtain ⟨rfl, rfl⟩ := Zfr (by omega) (by omega) e
    rw [List.getElem?_set_self]
    rw [hY]
    exact Zfs (by omega) hi
  · rw [List.getElem?_set_ne (fun h => e h.symm)]
    refine h i' j' hi' hj' ?_
    rcases hc with hc | ⟨rfl, hc⟩ | hc
    · exact .inl hc
    · exact .inr (.inl ⟨rfl, by by_cases q : j' = j; · subst q; exact absurd rfl e
                                · omega⟩)
    · exact .inr (.inr hc)
structure Bx (b W g N:Nat) (wr w:World):Prop where
 box:w.heap[b]?=some (Obj.cells #[.int .i64 (W:Int),.slice (some ⟨g,0,none⟩) N N] 151 (0,0))
 low:Below wr.heap.size wr w
theorem Bx.cells {b W g N:Nat} {wr w:World} (h:Bx b W g N wr w):w.cell? ⟨b,0,none⟩=some (.int .i64 (W:Int))∧w.cell? ⟨b,1,none⟩=some (.slice (some ⟨g,0,none⟩) N N):=⟨by rw[Lib.cell_of_heap h.box];rfl,by rw[Lib.cell_of_heap h.box];rfl⟩
theorem ZbO (b W g N:Nat) (wr w:World):Bx b W g N wr w.drew↔Bx b W g N wr w:=⟨fun h=>⟨h.box,⟨h.low.os,h.low.tape,h.low.output,h.low.size,h.low.block⟩⟩,fun h=>⟨h.box,Below.dN h.low 1⟩⟩
theorem Bx.keep {b W g N:Nat} {wr w w':World} (h:Bx b W g N wr w) (hb:Below w.heap.size w w'):Bx b W g N wr w':=⟨(hb.block b (Array.getElem?_eq_some_iff.1 h.box).1).trans h.box,h.low.trans (hb.mono h.low.size)⟩
theorem ZbP {P:Program} {f:FuncId} {args:Array Value} {v:Value} {w:World} (h:Calls P f args w fun e w'=>e=.returned v∧Below w.heap.size w w') (b W g N:Nat) (wr:World) (hS:Bx b W g N wr w) :
  Calls P f args w fun e w'=>e=.returned v∧w'.cell? ⟨b,0,none⟩=some (.int .i64 (W:Int))∧w'.cell? ⟨b,1,none⟩=some (.slice (some ⟨g,0,none⟩) N N)∧Bx b W g N wr w':=by
 refine h.mono ?_
 rintro e w' ⟨rfl,hb⟩
 have hS':=hS.keep hb
 exact⟨rfl,hS'.cells.1,hS'.cells.2,hS'⟩
attribute [local simp] ZbO
theorem Zkz (N:Nat) (hN:N≤1099511627776) (W:World) :
  (Instr.makeSlice 149 (.int .i64 (N:Int)) (.int .i64 (N:Int))).run Tryz.prog W=.ok (.slice (some ⟨W.heap.size,0,none⟩) N N) (W.alloc (.cells (madeCells #[.int .i16 0] N) 170)):=by
 obtain⟨i0,hi,hz0,hzs,hz2⟩:=info_parts info16
 have h1:i0.bytes * N≤2 * 1099511627776:=by rw[hz2];exact Nat.mul_le_mul_left _ hN
 have hr:=run_make (P:=Tryz.prog) W 149 170 i0 _ Tryz.underlying149 hi hz0 .i64 .i64 (N:Int) (N:Int) (by omega) (Int.le_refl _) (by
  have:((i0.bytes * N:Nat):Int)≤281474976710656:=by omega
  rwa [Int.natCast_mul] at this) (by omega)
 simpa [hzs,Value.cells] using hr
theorem made16 (N:Nat):(madeCells #[.int .i16 0] N).toList=List.replicate N (.int .i16 0):=by
 apply List.ext_getElem
 ·simp[madeCells]
 ·intro i h1 h2
  simp[madeCells,Nat.mod_one]
theorem ZkP {W:World} {b:Nat} {t:TypeId} {a0 a1:Value} (h:W.heap[b]?=some (Obj.cells #[a0,a1] t (0,0))) (v:Value):(W.setCell ⟨b,0,none⟩ v).heap[b]?=some (Obj.cells #[v,a1] t (0,0)):=by
 obtain⟨hlt,hk⟩:=Array.getElem?_eq_some_iff.1 h
 show (W.heap.modify b _)[b]?=_
 rw[Array.getElem?_eq_getElem (by rw[Array.size_modify];exact hlt),Array.getElem_modify_self,hk]
 rfl
theorem ZkQ {W:World} {b:Nat} {t:TypeId} {a0 a1:Value} (h:W.heap[b]?=some (Obj.cells #[a0,a1] t (0,0))) (v:Value):(W.setCell ⟨b,1,none⟩ v).heap[b]?=some (Obj.cells #[a0,v] t (0,0)):=by
 obtain⟨hlt,hk⟩:=Array.getElem?_eq_some_iff.1 h
 show (W.heap.modify b _)[b]?=_
 rw[Array.getElem?_eq_getElem (by rw[Array.size_modify];exact hlt),Array.getElem_modify_self,hk]
 rfl
theorem ZeE (W:World) (b:Nat) (v:Value):W.grownBy (W.setCell ⟨b,1,none⟩ v) (some b) :=
 ⟨rfl,rfl,rfl,by show W.heap.size≤(W.heap.modify b _).size;simp,fun i hi hne=>by
  show (W.heap.modify b _)[i]?=_
  rw[Array.getElem?_modify,if_neg (fun e=>hne (by rw[e]))]⟩
structure Ms (w:World) (M N:Nat) (Y:List Value) (wr:World):Prop where
 low:Below w.heap.size w wr
 res:wr.heap[w.heap.size]?=some (Obj.cells #[Value.int IntKind.i64 0,Value.slice none 0 0] 151 (0,0))
 own:wr.ownsRow w.heap.size 170 1 (.slice (some ⟨w.heap.size+1,0,none⟩) N N) N Y
 box:wr.heap[w.heap.size+1+1]?=some (Obj.cells #[.int .i64 (M:Int),.slice (some ⟨w.heap.size+1,0,none⟩) N N] 151 (0,0))
theorem Ms.keep {w:World} {M N:Nat} {Y:List Value} {wr w':World} (h:Ms w M N Y wr) (hb:Below wr.heap.size wr w'):Ms w M N Y w' :=
 ⟨h.low.trans (hb.mono h.low.size),(hb.block _ (Array.getElem?_eq_some_iff.1 h.res).1).trans h.res,Zin h.own hb,(hb.block _ (Array.getElem?_eq_some_iff.1 h.box).1).trans h.box⟩
theorem Ms.bx {w:World} {M N:Nat} {Y:List Value} {wr:World} (h:Ms w M N Y wr):Bx (w.heap.size+1+1) M (w.heap.size+1) N wr wr:=⟨h.box,Below.refl _ _⟩
theorem Ms.store {w:World} {M N:Nat} {Y:List Value} {wr:World} (h:Ms w M N Y wr) (p:Nat) (v:Value):Ms w M N (Y.set p v) (wr.setCell ⟨w.heap.size+1,p,none⟩ v):=by
 obtain⟨p1,g1⟩:=h.own.stored p v
 refine⟨h.low.grown g1 h.low.size (fun j hj=>by cases hj;omega),?_,p1,?_⟩
 ·exact (g1.block _ (Array.getElem?_eq_some_iff.1 h.res).1 (fun e=>by have:=Option.some.inj e;omega)).trans h.res
 ·exact (g1.block _ (Array.getElem?_eq_some_iff.1 h.box).1 (fun e=>by have:=Option.some.inj e;omega)).trans h.box
theorem Ms.drewN {w:World} {M N:Nat} {Y:List Value} {wr:World} (h:Ms w M N Y wr) (n:Nat):Ms w M N Y (wr.drewN n):=⟨Below.dN h.low n,h.res,h.own,h.box⟩
theorem Ms.at {w:World} {M N:Nat} {Y:List Value} {wr:World} (h:Ms w M N Y wr) {x y:List Int} {k c i j p:Nat} (hd:Done x y k c Y) (hM:M=y.length+1) (hN:N=(x.length+1) * M) (hi:i≤x.length) (hj:j≤y.length) (hc:k<i∨(i=k∧c≤j)∨j=y.length) (hp:p=i * M):wr.cell? ⟨w.heap.size+1,p+j,none⟩=some (.int .i16 ((ln x y i j:Nat):Int)):=by
 have:=h.own.cellAt (p+j) (by rw[hp,hN,Nat.mul_one];exact Zfs (by omega) hi)
 rw[this,hp,hM]
 exact hd i j hi hj hc
theorem Zhm (x y:List Int) (vx vy:Value) (w:World) (hx:HI w vx x) (hy:HI w vy y) (hxl:x.length≤4096) (hyl:y.length≤4096) (N M:Nat) (hM:Hid (M=y.length+1)) (hN:Hid (N=(x.length+1) * M)) :
  Calls Tryz.prog 104 #[vx,vy] w fun e w'=>∃ g Y,e=.returned (tabV M g N)∧w'.ownsRow w.heap.size 170 1 (.slice (some ⟨g,0,none⟩) N N) N Y∧Done x y 0 0 Y∧Below w.heap.size w w':=by
 obtain⟨xo,xc,rfl⟩:=Holds.form hx
 obtain⟨yo,yc,rfl⟩:=Holds.form hy
 have hNb:N≤4097 * 4097:=by rw[hN.out,hM.out];exact Nat.mul_le_mul (by omega) (by omega)
 have hMb:M≤4097:=by rw[hM.out];omega
 have hmk:=Zkz N (by omega)
 have hmul:((x.length:Int)+1) * (M:Int)=(N:Int):=by rw[hN.out];simp
 have hMi:(y.length:Int)+1=(M:Int):=by rw[hM.out];simp
 have hrow:=World.ownsRow_lit (base:=w.heap.size) (e:=170) (size:=1) (w.alloc (Obj.cells #[Value.int IntKind.i64 0,Value.slice none 0 0] 151)) (madeCells #[Value.int IntKind.i16 0] N) N (by simp) (by unfold maxLen;omega) (by rw[size_madeCells];omega)
 rw[made16,World.size_alloc] at hrow
 go_enter Tryz.func104,Tryz.ntmps104
 go_wp2
 go_loopw [7] (fun iv wr=>∃ (k:Nat) (z:Int) (Y:List Value),k≤x.length∧iv=.int .i64 z∧z+1=k∧Ms w M N Y wr∧Hid (Done x y k 0 Y)) (fun iv _=>(intOf iv+1).toNat)
 case atStart =>
  refine⟨x.length,(x.length:Int)-1,_,Nat.le_refl _,by go_num,by omega,⟨?_,?_,?_,?_⟩,Done.start x y N (by rw[hN.out,hM.out])⟩
  ·exact (((Below.refl _ w).alloc (Nat.le_refl _) _).alloc (by simp) _).alloc (by simp;omega) _
  ·exact (Below.heap_alloc _ _ _ (by simp;omega)).trans ((Below.heap_alloc _ _ _ (by simp)).trans (_root_.Go.heap_alloc_new w _))
  ·exact hrow.alloc _
  ·have:=_root_.Go.heap_alloc_new ((w.alloc (Obj.cells #[Value.int IntKind.i64 0,Value.slice none 0 0] 151)).alloc (Obj.cells (madeCells #[Value.int IntKind.i16 0] N) 170)) (Obj.cells #[Value.int IntKind.i64 (M:Int),Value.slice (some ⟨w.heap.size+1,0,none⟩) N N] 151)
   rw[World.size_alloc,World.size_alloc] at this
   exact this
 case round =>
  obtain⟨k,z,Y,hk,rfl,hz,hS,hD⟩:=hrel
  have HMI:Hid ((y.length:Int)+1=(M:Int)):=hMi
  clear hMi hmul hmk hrow
  cases k with
  | zero =>
   obtain rfl:z=-1:=by omega
   have d0:=hS.bx.cells.1
   have d1:=hS.bx.cells.2
   have g0:wr.cell? ⟨w.heap.size,0,none⟩=some (.int .i64 0):=by rw[Lib.cell_of_heap hS.res];rfl
   have g1:wr.cell? ⟨w.heap.size,1,none⟩=some (.slice none 0 0):=by rw[Lib.cell_of_heap hS.res];rfl
   have f0:wr.frozen? ⟨w.heap.size,0,none⟩=false:=Lib.frozen_of_heap hS.res 0
   have f1:wr.frozen? ⟨w.heap.size,1,none⟩=false:=Lib.frozen_of_heap hS.res 1
   go_wp2
   have q1:=ZkQ (ZkP hS.res (Value.int IntKind.i64 (M:Int))) (Value.slice (some ⟨w.heap.size+1,0,none⟩) N N)
   have G1:=grownBy_setCell' wr w.heap.size (Value.int IntKind.i64 (M:Int))
   have hG:∀ u:World,Ms w M N Y wr→wr.grownBy u (some w.heap.size)→u.ownsRow w.heap.size 170 1 (.slice (some ⟨w.heap.size+1,0,none⟩) N N) N Y∧Below w.heap.size w u:=fun u h g=>⟨h.own.kept g (.inr (by simp[Value.ownBlock])),h.low.grown g h.low.size (fun j hj=>by cases hj;exact Nat.le_refl _)⟩
   refine bodyPost_ret (v:=tabV M (w.heap.size+1) N) ?_ rfl ⟨w.heap.size+1,Y,rfl,?_,hD.out,?_⟩
   ·exact results_cell_row rfl _ _ w.heap.size 151 #[Value.int IntKind.i64 (M:Int),Value.slice (some ⟨w.heap.size+1,0,none⟩) N N] (0,0) _ rfl q1 Tryz.underlying151 rfl (by kernel_rfl)
   ·exact (hG _ hS (G1.trans (ZeE _ _ _))).1
   ·exact (hG _ hS (G1.trans (ZeE _ _ _))).2
  | succ i =>
   obtain rfl:z=(i:Int):=by omega
   clear hz
   have hX:=hS.bx
   obtain⟨c0,c1⟩:=hX.cells
   obtain⟨p,hp⟩:∃ p,p=i * M:=⟨_,rfl⟩
   obtain⟨q,hq⟩:∃ q,q=p+M:=⟨_,rfl⟩
   have hpi:(i:Int) * (M:Int)=(p:Int):=by rw[hp];simp
   have hqi:((i:Int)+1) * (M:Int)=(q:Int):=by rw[hq,Int.add_mul,hpi];simp
   have hM0:0<M:=by rw[hM.out];omega
   have hqN:q≤N:=by
    rw[hq,hp,hN.out]
    have:=Nat.mul_le_mul_right M (show i+1≤x.length+1 by omega)
    rw[Nat.succ_mul] at this
    exact this
   have hqN2:q+M≤N:=by
    rw[hq,hp,hN.out]
    have:=Nat.mul_le_mul_right M (show i+2≤x.length+1 by omega)
    rw[Nat.succ_mul,Nat.succ_mul] at this
    exact this
   have hq2:((i:Int)+1+1) * (M:Int)=((q+M:Nat):Int):=by rw[Int.add_mul,hqi];simp
   have hw1:IntKind.i64.wrap ((i:Int)+1)=(i:Int)+1:=by rw[IntKind.wrap_i64];omega
   have HP:Hid (p=i * M):=hp
   have HQ:Hid (q=p+M):=hq
   clear hp hq
   go_wp2_with fail
   go_region_held3 (fun w'=>w'.cell? ⟨w.heap.size+1+1,0,none⟩=some (.int .i64 (M:Int))∧w'.cell? ⟨w.heap.size+1+1,1,none⟩=some (.slice (some ⟨w.heap.size+1,0,none⟩) N N)∧Bx (w.heap.size+1+1) M (w.heap.size+1) N wr w') (go_keep)
    (first | (go_at_call_has 115 (Value.int IntKind.i64 (i:Int));refine (ZbP (ZjJ M (w.heap.size+1) N p q M (by have:=HQ.out;omega) (i:Int) _ hpi hqi (by have:=HQ.out;omega) hqN (by have:=HQ.out;omega) (by omega) (by omega) (by omega)) (w.heap.size+1+1) M (w.heap.size+1) N wr (by first | assumption | (rw[ZbO];assumption))).mono ?_;rintro e w' ⟨rfl,e0,e1,hbS⟩) | (go_at_call_has 115 (Value.int IntKind.i64 ((i:Int)+1));refine (ZbP (ZjJ M (w.heap.size+1) N q (q+M) M (by omega) ((i:Int)+1) _ hqi hq2 (by omega) hqN2 (by omega) (by omega) (by omega) (by omega)) (w.heap.size+1+1) M (w.heap.size+1) N wr (by first | assumption | (rw[ZbO];assumption))).mono ?_;rintro e w' ⟨rfl,e0,e1,hbS⟩))
   have hS1:=hS.keep hbS.low
   have HD:=hD.out.next
   clear hD hw1 hpi hqi hq2 hX c0 c1 e0 e1
   go_wp2
   go_loopw [10] (fun jv wi=>∃ (c:Nat) (z:Int) (Y':List Value),c≤y.length∧jv=.int .i64 z∧z+1=c∧Ms w M N Y' wi∧Hid (Done x y i c Y')) (fun jv _=>(intOf jv+1).toNat)
   case atStart=>exact⟨y.length,(y.length:Int)-1,Y,Nat.le_refl _,by go_num,by omega,hS1,HD⟩
   case round =>
    obtain⟨c,z,Y',hc,rfl,hz,hS2,hD2⟩:=hrel
    cases c with
    | zero =>
     obtain rfl:z=-1:=by omega
     go_wp2
     go_roundw
     case rel=>exact⟨i,(i:Int)-1,Y',by omega,by go_num,by omega,hS2,hD2⟩
     case measure=>simp[intOf]
    | succ j =>
     obtain rfl:z=(j:Int):=by omega
     clear hz
     obtain⟨bx,ox,rfl,_,hcx⟩:=HI.at (HI.keep hx hS2.low (Nat.le_refl _)) (by omega)
     obtain⟨by',oy,rfl,_,hcy⟩:=HI.at (HI.keep hy hS2.low (Nat.le_refl _)) (by omega)
     have d1:=hcx i (by omega)
     have d2:=hcy j (by omega)
     have hln:=ZgM x y i j (by omega) (by omega)
     obtain⟨xi,hxi⟩:∃ z,x[i]=z:=⟨_,rfl⟩
     obtain⟨yj,hyj⟩:∃ z,y[j]=z:=⟨_,rfl⟩
     rw[hxi] at d1 hln
     rw[hyj] at d2 hln
     clear hcx hcy hxi hyj
     have r1:=hS2.at hD2.out hM.out hN.out (i:=i+1) (j:=j+1) (p:=q) (by omega) (by omega) (by omega) (by rw[HQ.out,HP.out,Nat.succ_mul])
     have r2:=hS2.at hD2.out hM.out hN.out (i:=i+1) (j:=j) (p:=q) (by omega) (by omega) (by omega) (by rw[HQ.out,HP.out,Nat.succ_mul])
     have r3:=hS2.at hD2.out hM.out hN.out (i:=i) (j:=j+1) (p:=p) (by omega) (by omega) (by omega) HP.out
     have HLN:Hid (ln x y i j=if xi=yj then ln x y (i+1) (j+1)+1 else max (ln x y (i+1) j) (ln x y i (j+1))):=hln
     have b1:=ZgL x y (i+1) (j+1)
     have b2:=ZgL x y (i+1) j
     have b3:=ZgL x y i (j+1)
     clear hln
     have i1:0≤(i:Int):=by omega
     have i2:(i:Int)<(x.length:Int):=by omega
     have i3:0≤(j:Int):=by omega
     have i4:(j:Int)<(y.length:Int):=by omega
     have hMy:M=y.length+1:=hM.out
     have i5:(j:Int)<(M:Int):=by omega
     have i6:(j:Int)+1<(M:Int):=by omega
     clear hMy
     have hpN:p+j<N:=by have:=HQ.out;have:=hM.out;omega
     have hYl:Y'.length=N:=by rw[hS2.own.1,Nat.mul_one]
     have f0:=hS2.own.frozenAt (p+j)
     have y0:=hS2.own.cellAt (p+j) (by omega)
     rw[List.getElem?_eq_getElem (by omega)] at y0
     obtain⟨z0,hz0⟩:∃ z,Y'[p+j]'(by omega)=z:=⟨_,rfl⟩
     rw[hz0] at y0
     clear hz0
     have HYL:Hid (Y'.length=(x.length+1) * (y.length+1)):=(by show _=_;rw[hYl,hN.out,hM.out])
     clear hYl
     have HPJ:Hid (p+j=i * (y.length+1)+j):=(by show _=_;rw[HP.out,hM.out])
     by_cases hxy:xi=yj
     ·have HL:Hid (ln x y i j=ln x y (i+1) (j+1)+1):=(by show _=_;rw[HLN.out,if_pos hxy])
      clear HLN r2 r3 b2 b3
      generalize ln x y (i+1) (j+1)=a1 at *
      go_wp2_with fail
      go_quiet (fail)
      go_wp2
      go_roundw
      case rel=>exact⟨j,(j:Int)-1,_,by omega,by go_num,by omega,(hS2.drewN _).store (p+j) (.int .i16 ((a1:Int)+1)),hD2.out.set (by omega) (by omega) HYL.out (p+j) HPJ.out ((a1:Int)+1) (by rw[HL.out];simp)⟩
      case measure=>simp[intOf]
     ·have HL:Hid (ln x y i j=max (ln x y (i+1) j) (ln x y i (j+1))):=(by show _=_;rw[HLN.out,if_neg hxy])
      clear HLN r1 b1
      have hxy':decide (xi=yj)=false:=decide_eq_false hxy
      generalize ln x y (i+1) j=a1 at *
      generalize ln x y i (j+1)=a2 at *
      go_wp2_with fail
      go_quiet (fail)
      go_wp2_with fail
      go_region
      go_wp2
      exact⟨⟨j,(j:Int)-1,_,by omega,by go_num,by omega,(hS2.drewN _).store (p+j) _,hD2.out.set (by omega) (by omega) HYL.out (p+j) HPJ.out _ (by rw[HL.out];first | (split<;>omega) | omega)⟩,by simp[intOf]⟩
end

section
open Go.RowKit
theorem Zen (x y:List Int) (r:Nat) (vx vy:Value) (w:World) (hx:HI w vx x) (hy:HI w vy y) (hxl:x.length≤1048576) (hyl:y.length≤1048576) (hr:Hid (fr x y=r)) :
  Calls Tryz.prog 103 #[vx,vy] w fun e w'=>e=.returned (.int .i64 (r:Int))∧Below w.heap.size w w':=by
 obtain⟨xo,xc,rfl⟩:=Holds.form hx
 obtain⟨yo,yc,rfl⟩:=Holds.form hy
 obtain⟨m,hm⟩:∃ m:Nat,m=min x.length y.length:=⟨_,rfl⟩
 have hmi:(if y.length<x.length then (y.length:Int) else (x.length:Int))=(m:Int):=by split<;>omega
 have HM:Hid (m=min x.length y.length):=hm
 clear hm
 go_enter Tryz.func103,Tryz.ntmps103
 go_wp2
 clear hmi
 go_loopw [13] (fun iv wr=>∃ (k n:Nat),k≤m∧iv=.int .i64 (k:Int)∧wr=w.drewN n∧Hid (k+fr (x.drop k) (y.drop k)=r)) (fun iv _=>m-(intOf iv).toNat)
 case atStart=>exact⟨0,0,Nat.zero_le _,rfl,rfl,(by show _=_;rw[← hr.out];simp)⟩
 case round =>
  obtain⟨k,n,hk,rfl,rfl,hR⟩:=hrel
  by_cases hlt:k<m
  ·have hkx:k<x.length:=by have:=HM.out;omega
   have hky:k<y.length:=by have:=HM.out;omega
   obtain⟨bx,ox,rfl,_,hcx⟩:=HI.at hx (by omega)
   obtain⟨by',oy,rfl,_,hcy⟩:=HI.at hy (by omega)
   have d1:=hcx k hkx
   have d2:=hcy k hky
   have hR':=hR.out
   rw[Zel x y k hkx hky] at hR'
   obtain⟨xi,hxi⟩:∃ z,x[k]=z:=⟨_,rfl⟩
   obtain⟨yj,hyj⟩:∃ z,y[k]=z:=⟨_,rfl⟩
   rw[hxi] at d1 hR'
   rw[hyj] at d2 hR'
   clear hcx hcy hxi hyj hR
   have i1:0≤(k:Int):=by omega
   have i2:(k:Int)<(x.length:Int):=by omega
   have i3:(k:Int)<(y.length:Int):=by omega
   have i4:(k:Int)<(m:Int):=by omega
   by_cases hxy:xi=yj
   ·rw[if_pos hxy] at hR'
    have HR:Hid (k+1+fr (x.drop (k+1)) (y.drop (k+1))=r):=(by show _=_;omega)
    clear hR'
    go_wp2_with fail
    go_quiet (fail)
    go_wp2
    go_roundw
    case rel=>exact⟨k+1,_,by omega,by go_num,rfl,HR⟩
    case measure=>simp[intOf];omega
   ·rw[if_neg hxy] at hR'
    have hxy':decide (xi=yj)=false:=decide_eq_false hxy
    obtain rfl:k=r:=by omega
    clear hR'
    go_wp2_with fail
    go_quiet (fail)
    go_wp2
    go_ret
    exact⟨rfl,Below.dN (Below.dN (Below.refl _ w) _) _⟩
  ·obtain rfl:k=m:=by omega
   go_wp2
   go_ret
   refine⟨ret_int ?_,Below.dN (Below.refl _ w) _⟩
   have h:=hR.out
   have hm:=HM.out
   have:fr (x.drop k) (y.drop k)=0:=by
    have:=Zek (x.drop k) (y.drop k)
    simp at this
    omega
   omega
theorem Zma (x y:List Int) (vx vy:Value) (w:World) (hx:HI w vx x) (hy:HI w vy y) (b:Bool) (hb:Hid (b=(decide (4096<x.length) || decide (4096<y.length)))) :
  Calls Tryz.prog 78 #[vx,vy] w fun e w'=>e=.returned (.bool b)∧w=w':=by
 obtain⟨xo,xc,rfl⟩:=Holds.form hx
 obtain⟨yo,yc,rfl⟩:=Holds.form hy
 have e1:decide (4096<x.length)=decide ((4096:Int)<(x.length:Int)):=decide_eq_decide.2 (by omega)
 have e2:decide (4096<y.length)=decide ((4096:Int)<(y.length:Int)):=decide_eq_decide.2 (by omega)
 have e3:=hb.out
 rw[e1,e2] at e3
 subst e3
 clear hb e1 e2
 go_enter Tryz.func78,Tryz.ntmps78
 go_wp2
 all_goals
  go_ret
  exact⟨by first | rfl | simp[*],rfl⟩
theorem Zkt (X:List Int) (ao:Option Addr) (cap k:Nat) (w:World) (hk:k≤X.length) (hX:HI w (.slice ao X.length cap) X) :
  ∃ vo vc,(∀ u:World,(Instr.slice 50 (.slice ao X.length cap) (some (.int .i64 (k:Int))) none none).run Tryz.prog u=.ok (.slice vo (X.length-k) vc) u)∧(∀ u:World,HI u (.slice ao X.length cap) X→HI u (.slice vo (X.length-k) vc) (X.drop k)):=by
 have hnc:X.length≤cap:=by
  rcases hX with ⟨h,_,h3⟩ | ⟨ad,c,h,h3,_⟩
  ·simp at h;simp[h]
  ·cases h;exact h3
 refine⟨if cap=k then ao else ao.map (·.add k),cap-k,fun u=>?_,fun u hu=>?_⟩
 ·rw[run_slice_l (P:=Tryz.prog) u 50 ao X.length cap (by kernel_rfl) .i64 k (by omega) (by omega)]
  have:(sizeOf (Tryz.prog.elem 50)).run Tryz.prog u=.ok 1 u:=by kernel_rfl
  rw[this]
  simp[Result.andThen,sliced]
 ·have hl:(X.drop k).length=X.length-k:=by simp
  unfold HI
  rw[hl]
  rcases hu with ⟨h,h3,h4⟩ | ⟨ad,c,h,h3,hc⟩
  ·have e:X=[]:=by simpa [icells] using h4
   subst e
   simp at h
   obtain⟨rfl,rfl⟩:=h
   simp at hk
   subst hk
   exact .inl ⟨by simp,by simp,by simp[icells]⟩
  ·cases h
   refine .inr ⟨if cap=k then ad else ad.add k,cap-k,by split<;>simp,by omega,fun j x hj=>?_⟩
   have hj':(icells X)[k+j]?=some x:=by
    simp only[icells,List.map_drop,List.getElem?_drop] at hj ⊢
    exact hj
   have hlt:=(List.getElem?_eq_some_iff.1 hj').1
   rw[icells_length] at hlt
   rw[if_neg (by omega)]
   have h0:=hc 0 _ (List.getElem?_eq_getElem (by rw[icells_length];omega))
   obtain⟨b,off,rfl⟩:=addr_of h0
   have:=hc _ _ hj'
   rw[add_none] at this
   rw[add_none,add_none,Nat.add_assoc]
   exact this
end

section
open Go.RowKit
attribute [local simp] ZgX
theorem Low.then {W w w':World} (h:Low W w) (hb:Below w.heap.size w w'):Low W w':=Below.trans h (hb.mono (Below.size h))
theorem Zdo {w:World} {base:Nat} {g N:Nat} {Y:List Value} (hO:w.ownsRow base 170 1 (.slice (some ⟨g,0,none⟩) N N) N Y) {x y:List Int} (hD:Done x y 0 0 Y) {M:Nat} (hM:M=y.length+1) (hN:N=(x.length+1) * M) (i j q:Nat) (hi:i≤x.length) (hj:j≤y.length) (hq:q=i * M+j):w.cell? ⟨g,q,none⟩=some (.int .i16 ((ln x y i j:Nat):Int)):=by
 have:=hO.cellAt q (by rw[hq,hN,Nat.mul_one];exact Zfs (by omega) hi)
 rw[this,hq,hM]
 exact hD i j hi hj (by omega)
end

section
open Go.RowKit
attribute [local simp] ZgX
theorem ZaH (n:Nat) (hn:n≤1048576) (w:World) :
  Calls Tryz.prog 70 #[.int .u64 1,.int .u64 (n:Int)] w fun e w'=>e=.returned (.tuple #[.int .u64 0,.int .u64 (n:Int)])∧w=w':=by
 have b1:bits BinOp.and IntKind.u64 1 4294967295=1:=by decide
 have b0:bits BinOp.and IntKind.u64 0 4294967295=0:=by decide
 have b2:bits BinOp.and IntKind.u64 (n:Int) 4294967295=(n:Int):=by
  have h:=bits_and_u64_nat n 4294967295 (by omega) (by omega)
  have e:n &&& 4294967295=n % 4294967296:=Nat.and_two_pow_sub_one_eq_mod n 32
  rw[e,Nat.mod_eq_of_lt (by omega)] at h
  exact h
 have d1:(n:Int) / 4294967296=0:=by omega
 go_enter Tryz.func70,Tryz.ntmps70
 go_wp2
 go_ret2
 exact⟨rfl,rfl⟩
theorem ZaI (n:Nat) (hn:n≤1048576) (w:World) :
  Calls Tryz.prog 48 #[.int .u64 1,.int .u64 (n:Int)] w fun e w'=>e=.returned (.tuple #[.int .u64 0,.int .u64 (n:Int)])∧w=w':=by
 go_enter Tryz.func48,Tryz.ntmps48
 go_wp2_with fail
 refine (ZaH n hn w).mono ?_
 rintro e w' ⟨rfl,rfl⟩
 go_wp2
 go_ret2
 exact⟨rfl,rfl⟩
theorem ZkA (N:Nat) (hN:N≤1099511627776) (W:World) :
  (Instr.makeSlice 50 (.int .i64 (N:Int)) (.int .i64 (N:Int))).run Tryz.prog W=.ok (.slice (some ⟨W.heap.size,0,none⟩) N N) (W.alloc (.cells (madeCells #[.int .i64 0] N) 3)):=by
 obtain⟨i0,hi,hz0,hzs,hz2⟩:=info_parts infoInt
 have h1:i0.bytes * N≤8 * 1099511627776:=by rw[hz2];exact Nat.mul_le_mul_left _ hN
 have hr:=run_make (P:=Tryz.prog) W 50 3 i0 _ Tryz.underlying50 hi hz0 .i64 .i64 (N:Int) (N:Int) (by omega) (Int.le_refl _) (by
  have:((i0.bytes * N:Nat):Int)≤281474976710656:=by omega
  rwa [Int.natCast_mul] at this) (by omega)
 simpa [hzs,Value.cells] using hr
theorem madeI (N:Nat):madeCells #[.int .i64 0] N=(List.replicate N (Value.int .i64 0)).toArray:=by
 apply Array.toList_inj.1
 apply List.ext_getElem
 ·simp[madeCells]
 ·intro i h1 h2
  simp[madeCells,Nat.mod_one]
theorem Zkx (g N k:Nat) (hk:k<N) (u:World):(Instr.slice 50 (.slice (some ⟨g,0,none⟩) N N) (some (.int .i64 (k:Int))) none none).run Tryz.prog u=.ok (.slice (some ⟨g,k,none⟩) (N-k) (N-k)) u:=by
 rw[run_slice_l (P:=Tryz.prog) u 50 (some ⟨g,0,none⟩) N N (by kernel_rfl) .i64 k (by omega) (by omega)]
 have:(sizeOf (Tryz.prog.elem 50)).run Tryz.prog u=.ok 1 u:=by kernel_rfl
 rw[this]
 simp[Result.andThen,sliced,add_none]
 omega
theorem Zkv (g N k:Nat) (hk:k≤N) (u:World):(Instr.slice 50 (.slice (some ⟨g,0,none⟩) N N) none (some (.int .i64 (k:Int))) none).run Tryz.prog u=.ok (.slice (some ⟨g,0,none⟩) k N) u:=by
 rw[run_slice_h (P:=Tryz.prog) u 50 (some ⟨g,0,none⟩) N N (by kernel_rfl) .i64 k (by omega) (by omega)]
 have:(sizeOf (Tryz.prog.elem 50)).run Tryz.prog u=.ok 1 u:=by kernel_rfl
 rw[this]
 simp[Result.andThen,sliced,add_none]
theorem size1:(Tryz.prog.info? 3).map (·.size)=some 1:=by kernel_rfl
def Ones (cur:List Value) (N k:Nat):Prop:=cur.length=N∧cur.take k=icells (List.replicate k (-1))
theorem Ones.more {cur:List Value} {N k d:Nat} (h:Ones cur N k) (hk:k+d≤N):Ones (splice cur k (icells (List.replicate d (-1)))) N (k+d):=by
 refine⟨?_,?_⟩
 ·rw[length_splice _ _ _ (by rw[icells_length,h.1];simpa using hk),h.1]
 ·have h1:(cur.take k).length=k:=by rw[List.length_take,h.1];omega
  rw[splice,← List.append_assoc,List.take_left' (by rw[List.length_append,h1,icells_length,List.length_replicate]),h.2,← icells_append,List.replicate_append_replicate]
theorem Ones.cell {cur:List Value} {N k:Nat} (h:Ones cur N k) (j:Nat) (hj:j<k):cur[j]?=some (.int .i64 (-1)):=by
 have:(cur.take k)[j]?=some (.int .i64 (-1)):=by rw[h.2];simp[icells,hj]
 rw[List.getElem?_take] at this
 simpa [hj] using this
theorem ZaK (N:Nat) (hN:N≤1048576) (v:Value) (w:World) (hv:HI w v [-1]) :
  Calls Tryz.prog 102 #[v,.int .i64 (N:Int)] w fun e w'=>∃ g,e=.returned (.slice (some ⟨g,0,none⟩) N N)∧w'.ownsRow w.heap.size 3 1 (.slice (some ⟨g,0,none⟩) N N) N (icells (List.replicate N (-1)))∧Below w.heap.size w w':=by
 obtain⟨ao,ca,rfl⟩:=Holds.form hv
 obtain⟨b,off,rfl,hb,hc⟩:=HI.at hv (by decide)
 have c0:w.cell? ⟨b,off,none⟩=some (.int .i64 (-1)):=hc 0 (by decide)
 clear hc hv
 have hmk:=ZkA N (by omega)
 rw[madeI] at hmk
 obtain⟨d,hd⟩:∃ d,d=Nat.min 1 N:=⟨_,rfl⟩
 have hd':d≤1∧d≤N∧(0<N→d=1):=by
  rw[hd]
  show min 1 N≤1∧min 1 N≤N∧(0<N→min 1 N=1)
  omega
 have HDn:Hid ((icells (List.replicate d (-1))).length=Nat.min 1 N):=(by show _=_;rw[icells_length,List.length_replicate,hd])
 clear hd
 simp only[List.length_singleton] at *
 go_enter Tryz.func102,Tryz.ntmps102
 go_wp2_with fail
 refine (ZaI N hN w).mono ?_
 rintro e w0 ⟨rfl,rfl⟩
 have hcb:(w.alloc (Obj.cells (List.replicate N (Value.int .i64 0)).toArray 3)).cell? ⟨b,off,none⟩=some (.int .i64 (-1)):=by
  rw[World.cell?_of_block (w:=w) (Below.heap_alloc _ _ _ hb)];exact c0
 have hsrc:∀ j v,(icells (List.replicate d (-1)))[j]?=some v→(w.alloc (Obj.cells (List.replicate N (Value.int .i64 0)).toArray 3)).cell? ((⟨b,off,none⟩:Addr).add j)=some v:=by
  intro j v hj
  have hl:=(List.getElem?_eq_some_iff.1 hj).1
  rw[icells_length,List.length_replicate] at hl
  obtain rfl:j=0:=by omega
  simp[icells,hl] at hj
  rw[add_none,Nat.add_zero,hcb,hj]
 have hfit:0+(icells (List.replicate d (-1))).length≤(List.replicate N (Value.int .i64 0)).length:=by rw[icells_length];simp;omega
 go_wp2_with (refine wpList_copy_splice (o:=⟨some 33,_,_,_,_,none⟩) rfl (.tmp 31) (.tmp 32) 50 50 rfl 3 Tryz.underlying50 (by kernel_rfl) _ _ _ _ _ _ rfl rfl w.heap.size 0 (List.replicate N (Value.int .i64 0)) 3 (_root_.Go.heap_alloc_new w _) (icells (List.replicate d (-1))) HDn.out (fun _=>⟨rfl,_,rfl,hsrc⟩) hfit (icells_one _) w.heap.size w ((Below.refl _ w).alloc (Nat.le_refl _) _) (Nat.le_refl _) ?_)
 intro w1 hg1 hB1
 have hlen0:((icells (List.replicate d (-1))).length:Int)=(d:Int):=by rw[icells_length,List.length_replicate]
 simp only[hlen0]
 have hOn:Ones (splice (List.replicate N (Value.int .i64 0)) 0 (icells (List.replicate d (-1)))) N (0+d):=Ones.more ⟨by simp,by simp[icells]⟩ (by omega)
 rw[Nat.zero_add] at hOn
 generalize splice (List.replicate N (Value.int .i64 0)) 0 (icells (List.replicate d (-1)))=cur1 at *
 clear hsrc hfit hcb HDn hmk hlen0
 go_wp2
 go_loopw [8] (fun nv wr=>∃ (k:Nat) (cur:List Value),k≤N∧(0<N→0<k)∧nv=.int .i64 (k:Int)∧Below w.heap.size w wr∧Hid (wr.heap[w.heap.size]?=some (.cells cur.toArray 3 (0,0)))∧Hid (Ones cur N k)) (fun nv _=>N-(intOf nv).toNat)
 case atStart=>exact⟨d,cur1,by omega,by omega,rfl,hB1,hg1,hOn⟩
 case round =>
  obtain⟨k,cur,hk,hk0,rfl,hB,hg,hO⟩:=hrel
  by_cases hlt:k<N
  ·have s1:=Zkx w.heap.size N k hlt
   have s2:=Zkv w.heap.size N k (by omega)
   obtain⟨d,hd⟩:∃ d,d=Nat.min k (N-k):=⟨_,rfl⟩
   have hd':d≤k∧d≤N-k∧0<d:=by
    rw[hd]
    show min k (N-k)≤k∧min k (N-k)≤N-k∧0<min k (N-k)
    have:=hk0 (by omega)
    omega
   have HDn:Hid ((icells (List.replicate d (-1))).length=Nat.min k (N-k)):=(by show _=_;rw[icells_length,List.length_replicate,hd])
   clear hd
   have hlen0:((icells (List.replicate d (-1))).length:Int)=(d:Int):=by rw[icells_length,List.length_replicate]
   have hw1:IntKind.i64.wrap ((k:Int)+(d:Int))=((k+d:Nat):Int):=by rw[IntKind.wrap_i64];omega
   have hsrc:∀ u:World,u.heap=wr.heap→∀ j v,(icells (List.replicate d (-1)))[j]?=some v→u.cell? ((⟨w.heap.size,0,none⟩:Addr).add j)=some v:=by
    intro u hu j v hj
    have hl:=(List.getElem?_eq_some_iff.1 hj).1
    rw[icells_length,List.length_replicate] at hl
    simp[icells,hl] at hj
    have hgu:u.heap[w.heap.size]?=some (.cells cur.toArray 3 (0,0)):=by rw[hu];exact hg.out
    rw[add_none,Nat.zero_add,Lib.cell_of_heap hgu,← hj]
    have:=hO.out.cell j (by omega)
    simpa using this
   have hfit:k+(icells (List.replicate d (-1))).length≤cur.length:=by rw[icells_length,hO.out.1];simp;omega
   have hi1:(0:Int)≤(k:Int):=by omega
   have hi2:(k:Int)≤(N:Int):=by omega
   go_wp2_with fail
   have hlow:Low w wr:=hB
   go_region_held3 (fun u=>Low w u) (go_keep)
    (first | (refine step_copy_splice (P:=Tryz.prog) rfl (.tmp 41) (.tmp 44) 50 50 rfl 3 Tryz.underlying50 size1 (some ⟨w.heap.size,k,none⟩) (some ⟨w.heap.size,0,none⟩) (N-k) (N-k) k N rfl rfl w.heap.size k cur 3 hg.out (icells (List.replicate d (-1))) HDn.out (fun _=>⟨rfl,_,rfl,hsrc _ rfl⟩) hfit (icells_one _) w.heap.size w (Below.dN hB 1) (Nat.le_refl _) ?_;intro w2 hg2 hB2;have hlow2:Low w w2:=hB2;simp only[goInt,hlen0]))
   go_wp2
   go_roundw
   case rel=>exact⟨k+d,_,by omega,by omega,by go_num,hB2,hg2,hO.out.more (by omega)⟩
   case measure=>simp[intOf];omega
  ·obtain rfl:k=N:=by omega
   go_wp2
   go_ret
   have hL:=hO.out.2
   rw[List.take_of_length_le (by rw[hO.out.1];omega)] at hL
   refine⟨w.heap.size,rfl,?_,hB⟩
   refine⟨by rw[icells_length];simp,.inr ⟨w.heap.size,k,cur.toArray,rfl,Nat.le_refl _,hg.out,Nat.le_refl _,by unfold maxLen;omega,?_,?_⟩⟩
   ·simp[hO.out.1]
   ·rw[hL,List.take_of_length_le (by rw[icells_length];simp)]
end

section
open Go.RowKit
def Pt (K Z:List Int) (n a:Nat) (b:Int) (X Y:List Int):Prop:=∃ P:List Int,P.length=a∧a≤n∧Z=P++List.replicate (n-a) (-1)∧P++kp b X Y=K
theorem Pt.start (x y:List Int):Pt (kp 0 x y) (List.replicate x.length (-1)) x.length 0 0 x y:=⟨[],rfl,Nat.zero_le _,by simp,by simp⟩
theorem Pt.len {K Z:List Int} {n a:Nat} {b:Int} {X Y:List Int} (h:Pt K Z n a b X Y):Z.length=n:=by
 obtain⟨P,h1,h2,h3,_⟩:=h
 rw[h3,List.length_append,h1,List.length_replicate]
 omega
theorem Pt.pair {K Z:List Int} {n a:Nat} {b:Int} {X Y X' Y':List Int} (h:Pt K Z n a b X Y) (hn:a<n) (hk:kp b X Y=b::kp (b+1) X' Y'):Pt K (Z.set a b) n (a+1) (b+1) X' Y':=by
 obtain⟨P,h1,h2,h3,h4⟩:=h
 refine⟨P++[b],by simp[h1],hn,?_,by rw[← h4,hk];simp⟩
 rw[h3,show n-a=(n-(a+1))+1 by omega,List.replicate_succ,List.set_append_right _ _ (by omega),h1]
 simp
theorem Pt.out {K Z:List Int} {n a:Nat} {b:Int} {X Y X':List Int} (h:Pt K Z n a b X Y) (hn:a<n) (hk:kp b X Y=-1::kp b X' Y):Pt K Z n (a+1) b X' Y:=by
 obtain⟨P,h1,h2,h3,h4⟩:=h
 refine⟨P++[-1],by simp[h1],hn,?_,by rw[← h4,hk];simp⟩
 rw[h3,show n-a=(n-(a+1))+1 by omega,List.replicate_succ]
 simp
theorem Pt.skip {K Z:List Int} {n a:Nat} {b:Int} {X Y Y':List Int} (h:Pt K Z n a b X Y) (hk:kp b X Y=kp (b+1) X Y'):Pt K Z n a (b+1) X Y':=by
 obtain⟨P,h1,h2,h3,h4⟩:=h
 exact⟨P,h1,h2,h3,by rw[← h4,hk]⟩
theorem Pt.done {K Z:List Int} {n a:Nat} {b:Int} {X Y:List Int} (h:Pt K Z n a b X Y) (hX:X.length=n-a) (he:X=[]∨Y=[]):Z=K:=by
 obtain⟨P,h1,h2,h3,h4⟩:=h
 rcases he with rfl | rfl
 ·rw[Zge,List.append_nil] at h4
  simp at hX
  rw[h3,← hX,← h4]
  simp
 ·rw[Zgf,hX] at h4
  rw[h3,h4]
structure Kst (w:World) (g gt bx n M N:Nat) (Z:List Int) (T:List Value) (wr:World):Prop where
 low:Below w.heap.size w wr
 own:wr.ownsRow w.heap.size 3 1 (.slice (some ⟨g,0,none⟩) n n) n (icells Z)
 tab:wr.ownsRow w.heap.size 170 1 (.slice (some ⟨gt,0,none⟩) N N) N T
 box:wr.heap[bx]?=some (Obj.cells #[.int .i64 (M:Int),.slice (some ⟨gt,0,none⟩) N N] 151 (0,0))
section
variable {w:World} {g gt bx n M N:Nat} {Z:List Int} {T:List Value} {wr:World}
theorem Kst.keep {w':World} (h:Kst w g gt bx n M N Z T wr) (hb:Below wr.heap.size wr w'):Kst w g gt bx n M N Z T w' :=
 ⟨h.low.trans (hb.mono h.low.size),Zin h.own hb,Zin h.tab hb,(hb.block _ (Array.getElem?_eq_some_iff.1 h.box).1).trans h.box⟩
theorem Kst.drewN (h:Kst w g gt bx n M N Z T wr) (k:Nat):Kst w g gt bx n M N Z T (wr.drewN k):=⟨Below.dN h.low k,h.own,h.tab,h.box⟩
theorem Kst.bx' (h:Kst w g gt bx n M N Z T wr):Bx bx M gt N wr wr:=⟨h.box,Below.refl _ _⟩
theorem Zie {base:Nat} {e:TypeId} {s:Nat} {g n c:Nat} {xs:List Value} (h:wr.ownsRow base e s (.slice (some ⟨g,0,none⟩) n c) n xs):base≤g∧∃ cur,wr.heap[g]?=some (.cells cur e (0,0)):=by
 rcases h.2 with ⟨h,_⟩ | ⟨g',cap,cur,h,hb,hc,_⟩
 ·cases h
 ·cases h
  exact⟨hb,cur,hc⟩
theorem Kst.store (h:Kst w g gt bx n M N Z T wr) (p:Nat) (v:Int):Kst w g gt bx n M N (Z.set p v) T (wr.setCell ⟨g,p,none⟩ (.int .i64 v)):=by
 obtain⟨p1,g1⟩:=h.own.stored p (.int .i64 v)
 obtain⟨hgb,cur,hg⟩:=Zie h.own
 obtain⟨_,cur',hgt⟩:=Zie h.tab
 have e:(icells Z).set p (.int .i64 v)=icells (Z.set p v):=by simp[icells,List.map_set]
 rw[e] at p1
 refine⟨h.low.grown g1 h.low.size (fun j hj=>by have:=Option.some.inj hj;omega),p1,?_,?_⟩
 ·refine h.tab.kept g1 (.inr ?_)
  intro q
  have:gt=g:=by simpa [Value.ownBlock] using q
  subst this
  rw[hg] at hgt
  cases hgt
 ·refine (g1.block _ (Array.getElem?_eq_some_iff.1 h.box).1 (fun q=>?_)).trans h.box
  have:bx=g:=by simpa using q
  subst this
  have:=h.box
  rw[hg] at this
  cases this
end
theorem Bx.cell {b W g N:Nat} {wr w:World} (h:Bx b W g N wr w) {a:Addr} {v:Value} (hc:wr.cell? a=some v):w.cell? a=some v:=by
 rw[World.cell?_of_block (w:=wr) (h.low.block _ (World.block_lt_of_cell? wr _ hc))];exact hc
end

end Go.Proofs.YtcnjephlmcnodaaGreatDoor
