/-
  Texts that belong together, joined: MiTb, PaRl, PaRg, PaRq, PaRt, PaRf, PaLg, EdOpen, PaPl, PaUn.
-/
import Derived.Test.YtcnjephlmcnodaaGreatDoorVzA6
import Derived.Test.YtcnjephlmcnodaaGreatDoorRows
import Derived.Test.YtcnjephlmcnodaaGreatDoorChecked
import Derived.ProofKit
import Derived.OpenShut
import Derived.ShutString
import Derived.ChangeOld
import Derived.Below
import Derived.SliceStrings
import Derived.ChangeSlices
import Derived.Deep.Slices
import Derived.Deep.SlicePairs
import Derived.JoinedCond
import Derived.Maps.OwnSet
import Derived.Carry

set_option maxHeartbeats 16000000
set_option maxRecDepth 100000
namespace Go.Proofs.YtcnjephlmcnodaaGreatDoor

section
open Go.RowKit
theorem ZkB {T E:TypeId} {z:Value} {bytes:Nat} (hT:Tryz.prog.underlying T=some (.slice E)) (hinfo:(Tryz.prog.info? E).map (fun i=>(i.zero,i.size,i.bytes))=some (some z,1,bytes)) (hby:bytes≤32) (n:Int) (N:Nat) (hn:n=(N:Int)) (hN:N≤1099511627776) (W:World) :
  (Instr.makeSlice T (.int .i64 n) (.int .i64 n)).run Tryz.prog W=.ok (.slice (some ⟨W.heap.size,0,none⟩) N N) (W.alloc (.cells (madeCells z.cells N) E)):=by
 subst hn
 obtain⟨i0,hi,hz0,hzs,hz2⟩:=info_parts hinfo
 have h1:i0.bytes * N≤32 * 1099511627776:=by rw[hz2];exact Nat.mul_le_mul hby hN
 have hr:=run_make (P:=Tryz.prog) W T E i0 z hT hi hz0 .i64 .i64 (N:Int) (N:Int) (by omega) (Int.le_refl _) (by
  have:((i0.bytes * N:Nat):Int)≤281474976710656:=by omega
  rwa [Int.natCast_mul] at this) (by omega)
 simpa [hzs] using hr
theorem madeL (z:Value) (N:Nat):(madeCells #[z] N).toList=List.replicate N z:=by
 apply List.ext_getElem
 ·simp[madeCells]
 ·intro i h1 h2
  simp[madeCells,Nat.mod_one]
def rowB (B X k:Nat):Nat:=B+1+(X-k)
def rowV (B X Y k:Nat):Value:=.slice (some ⟨rowB B X k,0,none⟩) (Y+1) (Y+1)
structure Tb (w:World) (x y:List Int) (i c:Nat) (TS:List Value) (u:World):Prop where
 low:Below w.heap.size w u
 size:u.heap.size=w.heap.size+1+(x.length+1-i)
 top:u.ownsRow w.heap.size 50 1 (.slice (some ⟨w.heap.size,0,none⟩) (x.length+1) (x.length+1)) (x.length+1) TS
 tops:∀ k,i≤k→k≤x.length→TS[k]?=some (rowV w.heap.size x.length y.length k)
 rows:∀ k,i≤k→k≤x.length→∃ R,u.ownsRow w.heap.size 3 1 (rowV w.heap.size x.length y.length k) (y.length+1) R∧∀ j,j≤y.length→(i<k∨c≤j∨j=y.length∨k=x.length)→R[j]?=some (.int .i64 ((ln x y k j:Nat):Int))
section
variable {w u:World} {x y:List Int} {i c:Nat} {TS:List Value}
theorem Tb.drewN (h:Tb w x y i c TS u) (n:Nat):Tb w x y i c TS (u.drewN n):=⟨Below.dN h.low n,h.size,h.top,h.tops,h.rows⟩
theorem Tb.top_len (h:Tb w x y i c TS u):TS.length=x.length+1:=by rw[h.top.1,Nat.mul_one]
theorem Tb.at (h:Tb w x y i c TS u) {k j:Nat} (hi:i≤k) (hk:k≤x.length) (hj:j≤y.length) (hc:i<k∨c≤j∨j=y.length∨k=x.length):u.cell? ⟨rowB w.heap.size x.length k,j,none⟩=some (.int .i64 ((ln x y k j:Nat):Int)):=by
 obtain⟨R,hR,hv⟩:=h.rows k hi hk
 unfold rowV at hR
 rw[hR.cellAt j (by omega)]
 exact hv j hj hc
theorem ZkW (W:World) (b o:Nat) (v:Value):(W.setCell ⟨b,o,none⟩ v).heap.size=W.heap.size:=by
 show (W.heap.modify b _).size=_
 simp
theorem Tb.skip (h:Tb w x y i (c+1) TS u) (hc:c=y.length∨i=x.length):Tb w x y i c TS u:=by
 refine⟨h.low,h.size,h.top,h.tops,fun k h1 h2=>?_⟩
 obtain⟨R,hR,hv⟩:=h.rows k h1 h2
 exact⟨R,hR,fun j hj hq=>hv j hj (by omega)⟩
theorem Tb.next (h:Tb w x y (i+1) 0 TS u) (hi:i≤x.length) (hY:y.length≤1048576):Tb w x y i (y.length+1) (TS.set i (rowV w.heap.size x.length y.length i)) ((u.alloc (.cells (madeCells #[.int .i64 0] (y.length+1)) 3)).setCell ⟨w.heap.size,i,none⟩ (rowV w.heap.size x.length y.length i)):=by
 have hsz:u.heap.size=rowB w.heap.size x.length i:=by rw[h.size];unfold rowB;omega
 obtain⟨p1,g1⟩:=(h.top.alloc (.cells (madeCells #[.int .i64 0] (y.length+1)) 3)).stored i (rowV w.heap.size x.length y.length i)
 refine⟨?_,?_,p1,fun k h1 h2=>?_,fun k h1 h2=>?_⟩
 ·exact (h.low.alloc h.low.size _).grown g1 (by rw[World.size_alloc];have:=h.low.size;omega) (fun j hj=>by cases hj;exact Nat.le_refl _)
 ·rw[ZkW,World.size_alloc,h.size]
  omega
 ·by_cases e:k=i
  ·subst e
   rw[List.getElem?_set_self (by rw[h.top_len];omega)]
  ·rw[List.getElem?_set_ne (fun q=>e q.symm)]
   exact h.tops k (by omega) h2
 ·by_cases e:k=i
  ·subst e
   have hn:=World.ownsRow_lit (base:=w.heap.size) (e:=3) (size:=1) u (madeCells #[.int .i64 0] (y.length+1)) (y.length+1) h.low.size (by unfold maxLen;omega) (by rw[size_madeCells];simp)
   rw[madeL,hsz] at hn
   refine⟨_,hn.kept g1 (.inr (by simp[Value.ownBlock,rowB];omega)),fun j hj hq=>?_⟩
   rw[List.getElem?_replicate,if_pos (by omega),ZgK x y k j (by omega)]
   rfl
  ·obtain⟨R,hR,hv⟩:=h.rows k (by omega) h2
   exact⟨R,(hR.alloc _).kept g1 (.inr (by unfold rowV rowB;simp[Value.ownBlock];omega)),fun j hj hq=>hv j hj (by omega)⟩
theorem Tb.set (h:Tb w x y i (c+1) TS u) (hi:i≤x.length) (hc:c≤y.length) (v:Int) (hv:v=((ln x y i c:Nat):Int)):Tb w x y i c TS (u.setCell ⟨rowB w.heap.size x.length i,c,none⟩ (.int .i64 v)):=by
 subst hv
 obtain⟨R,hR,hr⟩:=h.rows i (Nat.le_refl _) hi
 have hR':=hR
 unfold rowV at hR'
 obtain⟨p1,g1⟩:=hR'.stored c (.int .i64 ((ln x y i c:Nat):Int))
 have hl:R.length=y.length+1:=by rw[hR.1,Nat.mul_one]
 refine⟨?_,?_,?_,h.tops,fun k h1 h2=>?_⟩
 ·exact h.low.grown g1 h.low.size (fun j hj=>by cases hj;unfold rowB;omega)
 ·rw[ZkW,h.size]
 ·exact h.top.kept g1 (.inr (by simp[Value.ownBlock,rowB];omega))
 ·by_cases e:k=i
  ·subst e
   refine⟨_,p1,fun j hj hq=>?_⟩
   by_cases q:j=c
   ·subst q
    rw[List.getElem?_set_self (by omega)]
   ·rw[List.getElem?_set_ne (fun q'=>q q'.symm)]
    exact hr j hj (by omega)
  ·obtain⟨R2,hR2,hv2⟩:=h.rows k h1 h2
   exact⟨R2,hR2.kept g1 (.inr (by unfold rowV rowB;simp[Value.ownBlock];omega)),fun j hj hq=>hv2 j hj (by omega)⟩
end
theorem Tb.start (w:World) (x y:List Int) (hX:x.length≤1048576):Tb w x y (x.length+1) 0 (List.replicate (x.length+1) (.slice none 0 0)) (w.alloc (.cells (madeCells #[.slice none 0 0] (x.length+1)) 50)):=by
 have hn:=World.ownsRow_lit (base:=w.heap.size) (e:=50) (size:=1) w (madeCells #[.slice none 0 0] (x.length+1)) (x.length+1) (Nat.le_refl _) (by unfold maxLen;omega) (by rw[size_madeCells];simp)
 rw[madeL] at hn
 exact⟨(Below.refl _ w).alloc (Nat.le_refl _) _,by simp,hn,fun k h1 h2=>by omega,fun k h1 h2=>by omega⟩
structure Rd (B:Nat) (x y:List Int) (u:World):Prop where
 lt:B+1+x.length<u.heap.size
 top:∀ k,k≤x.length→u.cell? ⟨B,k,none⟩=some (rowV B x.length y.length k)
 at':∀ k j,k≤x.length→j≤y.length→u.cell? ⟨rowB B x.length k,j,none⟩=some (.int .i64 ((ln x y k j:Nat):Int))
theorem Zca {u u':World} (h:Below u.heap.size u u') {b o:Nat} {v:Value} (hb:b<u.heap.size) (hc:u.cell? ⟨b,o,none⟩=some v):u'.cell? ⟨b,o,none⟩=some v:=by
 rw[← hc]
 unfold World.cell?
 rw[h.block b hb]
theorem Rd.keep {B:Nat} {x y:List Int} {u u':World} (h:Rd B x y u) (hb:Below u.heap.size u u'):Rd B x y u':=by
 have:=h.lt
 refine⟨Nat.lt_of_lt_of_le h.lt hb.size,fun k hk=>Zca hb (by omega) (h.top k hk),fun k j hk hj=>Zca hb ?_ (h.at' k j hk hj)⟩
 unfold rowB
 omega
end

section
open Go.RowKit
theorem ZjC (l:List Pr):∀ n∈rl l,0<n:=by
 induction l with
 | nil=>simp[rl]
 | cons p t ih =>
  intro n hn
  rw[rl,List.mem_cons] at hn
  rcases hn with rfl | hn
  ·omega
  ·exact ih n hn
theorem ZhH (p:Pr) (t:List Pr) (ns:List Nat) (N:Nat) (h:∀ n∈ns,n≤N):mxl p t ns≤N:=by
 induction t generalizing ns with
 | nil=>simp[mxl]
 | cons a t ih =>
  cases ns with
  | nil=>simp[mxl]
  | cons n ns =>
   rw[mxl]
   have h1:=ih ns (fun m hm=>h m (List.mem_cons_of_mem _ hm))
   have h2:=h n (List.mem_cons_self ..)
   split<;>omega
theorem ZjA (l:List Pr):∀ n∈rl l,n≤l.length:=by
 induction l with
 | nil=>simp[rl]
 | cons p t ih =>
  intro n hn
  rw[rl,List.mem_cons] at hn
  rw[List.length_cons]
  rcases hn with rfl | hn
  ·have:=ZhH p t (rl t) t.length ih
   omega
  ·have:=ih n hn
   omega
theorem ZiC (left:Nat) (last:Option Pr) (l:List Pr) (ns:List Nat):(pick left last l ns).length≤l.length:=by
 induction l generalizing ns last left with
 | nil=>simp[pick]
 | cons p l ih =>
  cases ns with
  | nil=>simp[pick]
  | cons n ns =>
   rw[pick]
   split
   ·have:=ih (left-1) (some p) ns
    simp only[List.length_cons]
    omega
   ·have:=ih left last ns
    simp only[List.length_cons]
    omega
theorem ZiG (left:Nat) (last:Option Pr) (l:List Pr) (R:List Nat) (i:Nat) (hi:i<l.length) (hr:i<R.length):pick left last (l.drop i) (R.drop i)=if R[i]=left∧(∀ q,last=some q→ab l[i] q) then l[i]::pick (left-1) (some l[i]) (l.drop (i+1)) (R.drop (i+1)) else pick left last (l.drop (i+1)) (R.drop (i+1)):=by
 rw[List.drop_eq_getElem_cons hi,List.drop_eq_getElem_cons hr,pick]
def Dn (R:List Nat) (k:Nat) (Z:List Int):Prop:=Z.length=R.length∧∀ j (hj:j<R.length),k≤j→Z[j]?=some ((R[j]:Nat):Int)
theorem Dn.set {R:List Nat} {k:Nat} {Z:List Int} (h:Dn R (k+1) Z) (hk:k<R.length) {m:Int} (hm:m=((R[k]:Nat):Int)):Dn R k (Z.set k m):=by
 refine⟨by rw[List.length_set];exact h.1,fun j hj hkj=>?_⟩
 by_cases e:j=k
 ·subst e
  rw[List.getElem?_set_self (by rw[h.1];exact hj),hm]
 ·rw[List.getElem?_set_ne (fun q=>e q.symm)]
  exact h.2 j hj (by omega)
attribute [local simp] ZgX
end

end Go.Proofs.YtcnjephlmcnodaaGreatDoor

/- A region that draws its order, in a round: seven operations that read and a call, in whatever order, then the rest as the text has it. -/
namespace Go.Proofs.YtcnjephlmcnodaaGreatDoor
namespace R8
open Go.RowKit Go.Shelf
abbrev B8:=Fin 8→Bool
def lst (b:B8):Array Bool:=#[b 0,b 1,b 2,b 3,b 4,b 5,b 6,b 7,false,false]
def upd (b:B8) (i:Fin 8):B8:=fun j=>if j=i then true else b j
def one (c:Bool):Nat:=if c then 1 else 0
def cnt (b:B8):Nat:=one (b 0)+one (b 1)+one (b 2)+one (b 3)+one (b 4)+one (b 5)+one (b 6)+one (b 7)
theorem lst_upd (b:B8) (i:Fin 8):(lst b).setIfInBounds i.1 true=lst (upd b i):=by
 rcases i with ⟨i,hi⟩
 rcases (by omega:i=0∨i=1∨i=2∨i=3∨i=4∨i=5∨i=6∨i=7) with rfl | rfl | rfl | rfl | rfl | rfl | rfl | rfl<;>simp[lst,upd]
theorem cnt_upd (b:B8) (i:Fin 8) (h:b i=false):cnt (upd b i)=cnt b+1:=by
 rcases i with ⟨i,hi⟩
 rcases (by omega:i=0∨i=1∨i=2∨i=3∨i=4∨i=5∨i=6∨i=7) with rfl | rfl | rfl | rfl | rfl | rfl | rfl | rfl<;>(simp only[Fin.isValue,Fin.mk_zero,Fin.mk_one,Fin.reduceFinMk] at h;simp[cnt,upd,one,h];try omega)
theorem one_le (c:Bool):one c≤1:=by cases c<;>simp[one]
theorem cnt_le (b:B8):cnt b≤8:=by
 have:=fun i=>one_le (b i)
 have h0:=this 0;have h1:=this 1;have h2:=this 2;have h3:=this 3;have h4:=this 4;have h5:=this 5;have h6:=this 6;have h7:=this 7
 unfold cnt
 omega
def deps:Fin 8→List (Fin 8)
 | 4=>[2,3]
 | 5=>[4]
 | 7=>[5,6]
 | _=>[]
def closedB (b:B8):Bool:=(List.finRange 8).all fun i=>!(b i) || (deps i).all b
theorem closed_upd (b:B8) (i:Fin 8) (h:closedB b=true) (hd:∀ j∈deps i,b j=true):closedB (upd b i)=true:=by
 simp only[closedB,List.all_eq_true,List.mem_finRange,Bool.or_eq_true,Bool.not_eq_true',forall_const] at h ⊢
 intro k
 have hup:∀ j,b j=true→upd b i j=true:=fun j hj=>by unfold upd;split<;>simp_all
 by_cases hk:k=i
 ·exact .inr fun j hj=>hup j (hd j (hk ▸ hj))
 ·rcases h k with h1 | h1
  ·left
   unfold upd
   rw[if_neg hk]
   exact h1
  ·exact .inr fun j hj=>hup j (h1 j hj)
theorem Zcm (b:B8) (h:closedB b=true) (i:Fin 8) (hi:b i=true):∀ j∈deps i,b j=true:=by
 simp only[closedB,List.all_eq_true,List.mem_finRange,Bool.or_eq_true,Bool.not_eq_true',forall_const] at h
 rcases h i with h1 | h1
 ·rw[hi] at h1;cases h1
 ·exact h1
theorem closed_call (b:B8) (h:closedB b=true) (h7:b 7=true):b 2=true∧b 3=true∧b 4=true∧b 5=true∧b 6=true:=by
 have h5:=Zcm b h 7 h7 5 (by simp[deps])
 have h6:=Zcm b h 7 h7 6 (by simp[deps])
 have h4:=Zcm b h 5 h5 4 (by simp[deps])
 exact⟨Zcm b h 4 h4 2 (by simp[deps]),Zcm b h 4 h4 3 (by simp[deps]),h4,h5,h6⟩
def chkReady (ops:Array Oper) (b:B8):Bool :=
 !(closedB b) || !(Region.ready .any ops (lst b)).isEmpty && (Region.ready .any ops (lst b)).all fun i =>
  if h:i<8 then !(b ⟨i,h⟩) && (deps ⟨i,h⟩).all b else i == 8 && (List.finRange 8).all b
theorem any8 {F:Fence} {n:Nat} {P:Program} {ops:Array Oper} {Q:Exit→Act→World→Prop} {w:World} (act:B8→Value→Act) (Post:Value→World→Prop)
  (hr:∀ b,chkReady ops b=true)
  (hstep:∀ (b:B8) (i:Fin 8),i≠7→b i=false→(∀ j∈deps i,b j=true)→closedB b=true→∀ v u,((b 7=false∧u=w)∨(b 7=true∧Post v u))→∀ K:Act→World→Prop,K (act (upd b i) v) u→wpOpIn F n P ops Q i.1 K (act b v) u)
  (hcall:∀ (b:B8) v,b 7=false→b 5=true→b 6=true→∀ K:Act→World→Prop,(∀ v' u,Post v' u→K (act (upd b 7) v') u)→wpOpIn F n P ops Q 7 K (act b v) w)
  (hfin:∀ v u,Post v u→wpOpIn F n P ops Q 8 (wpAnyIn F n P .any ops Q 1 #[true,true,true,true,true,true,true,true,true,false]) (act (fun _=>true) v) u) (v0:Value) :
  wpAnyIn F n P .any ops Q 10 (lst fun _=>false) (act (fun _=>false) v0) w:=by
 have main:∀ (fuel:Nat) (b:B8) (v:Value) (u:World),closedB b=true→fuel+cnt b=10→((b 7=false∧u=w)∨(b 7=true∧Post v u))→wpAnyIn F n P .any ops Q fuel (lst b) (act b v) u:=by
  intro fuel
  induction fuel with
  | zero=>intro b _ _ _ h;have:=cnt_le b;omega
  | succ f ih =>
   intro b v u hcl h hst
   have hb:=hr b
   unfold chkReady at hb
   rw[hcl] at hb
   simp only[Bool.not_true,Bool.false_or] at hb
   simp only[Bool.and_eq_true,List.all_eq_true] at hb
   refine⟨fun h0=>?_,fun i hi=>?_⟩
   ·rw[h0] at hb
    simp at hb
   ·have h1:=hb.2 i hi
    split at h1
    ·rename_i hlt
     simp only[Bool.and_eq_true,Bool.not_eq_true',List.all_eq_true] at h1
     have e:=lst_upd b ⟨i,hlt⟩
     dsimp only at e
     by_cases h7:i=7
     ·subst h7
      rcases hst with ⟨q1,rfl⟩ | ⟨q1,_⟩
      ·refine hcall b v q1 (h1.2 5 (by simp[deps])) (h1.2 6 (by simp[deps])) _ (fun v' u' hp=>?_)
       rw[e]
       exact ih _ v' u' (closed_upd b 7 hcl h1.2) (by have:=cnt_upd b ⟨7,hlt⟩ q1;omega) (.inr ⟨by simp[upd],hp⟩)
      ·have:=h1.1
       rw[show (⟨7,hlt⟩:Fin 8)=7 from rfl,q1] at this
       cases this
     ·refine hstep b ⟨i,hlt⟩ (fun q=>h7 (congrArg Fin.val q)) h1.1 h1.2 hcl v u hst _ ?_
      rw[e]
      refine ih _ v u (closed_upd b ⟨i,hlt⟩ hcl h1.2) (by rw[cnt_upd b ⟨i,hlt⟩ h1.1];omega) ?_
      have hne:(7:Fin 8)≠⟨i,hlt⟩:=fun q=>h7 (congrArg Fin.val q).symm
      have hu:upd b ⟨i,hlt⟩ 7=b 7:=by unfold upd;rw[if_neg hne]
      rw[hu]
      exact hst
    ·simp only[Bool.and_eq_true,beq_iff_eq,List.all_eq_true,List.mem_finRange,forall_const] at h1
     obtain⟨rfl,hall⟩:=h1
     obtain rfl:b=fun _=>true:=funext hall
     obtain rfl:f=1:=by
      have:cnt (fun _=>true)=8:=rfl
      omega
     rcases hst with ⟨q1,_⟩ | ⟨_,hp⟩
     ·cases q1
     ·exact hfin v u hp
 exact main 10 _ v0 w rfl rfl (.inl ⟨rfl,rfl⟩)
def pk (c:Bool) (v:Value):Value:=cond c v undef
theorem pk_true {c:Bool} (h:c=true) (v:Value):pk c v=v:=by rw[h];rfl
theorem wpOpIn_yield {F:Fence} {n:Nat} {P:Program} {ops:Array Oper} {Q:Exit→Act→World→Prop} {i:Nat} {o:Oper} {K:Act→World→Prop} {a:Act} {w:World} {v:Value} (ho:ops[i]?=some o) (hg:o.guard=none) (hnd:∀ c,o.op≠.defer c)
  (hab:o.about P w a.eval=none) (hrun:(execOp a.eval o).run P w=.ok (.value v) w) (hK:K (a.put o.dst v) w):wpOpIn F n P ops Q i K a w:=by
 unfold wpOpIn
 simp only[ho]
 have hw:Region.wanted o (yielded ops a.tmps)=true:=by simp[Region.wanted,hg]
 rw[if_pos hw]
 refine⟨fun f hf=>(by rw[hab] at hf;cases hf),?_⟩
 rw[Oper.semAt_plain F _ _ hnd,hrun]
 exact hK
def mk8 (b0 b1 b2 b3 b4 b5 b6 b7:Bool):B8:=fun i=>match i with
 | 0=>b0 | 1=>b1 | 2=>b2 | 3=>b3 | 4=>b4 | 5=>b5 | 6=>b6 | 7=>b7
theorem Zhy (b:B8):b=mk8 (b 0) (b 1) (b 2) (b 3) (b 4) (b 5) (b 6) (b 7):=by
 funext ⟨i,hi⟩
 rcases (by omega:i=0∨i=1∨i=2∨i=3∨i=4∨i=5∨i=6∨i=7) with rfl | rfl | rfl | rfl | rfl | rfl | rfl | rfl<;>rfl
theorem chk_all {ops:Array Oper} (h:∀ b0 b1 b2 b3 b4 b5 b6 b7:Bool,chkReady ops (mk8 b0 b1 b2 b3 b4 b5 b6 b7)=true) (b:B8):chkReady ops b=true:=by
 rw[Zhy b]
 exact h _ _ _ _ _ _ _ _
end R8
end Go.Proofs.YtcnjephlmcnodaaGreatDoor

namespace Go.Proofs.YtcnjephlmcnodaaGreatDoor

section
open Go.RowKit Go.Shelf
attribute [local go_sem] Oper.semAt_some
theorem infoHd:(Tryz.prog.info? 176).map (fun i=>(i.zero,i.size,i.bytes))=some (some (.slice none 0 0),1,24):=by kernel_rfl
def lz (n:Nat):List (Nat × Pr)→List Int
 | []=>List.replicate n 0
 | x::r=>(lz n r).set x.1 ((mxl x.2 (r.map (·.2)) (rl (r.map (·.2)))+1:Nat):Int)
theorem Zhj (n:Nat) (r:List (Nat × Pr)):(lz n r).length=n:=by
 induction r with
 | nil=>simp[lz]
 | cons x r ih=>simp[lz,ih]
theorem Zhi (n k:Nat) (l:List Pr) (hk:k+l.length=n):∀ j (hj:j<(rl l).length),(lz n (en k l))[k+j]?=some (((rl l)[j]:Nat):Int):=by
 induction l generalizing k with
 | nil=>intro j hj;simp[rl] at hj
 | cons p t ih =>
  intro j hj
  have hl:=Zhj n (en (k+1) t)
  have e:lz n (en k (p::t))=(lz n (en (k+1) t)).set k ((mxl p t (rl t)+1:Nat):Int):=by rw[en,lz,Zdu]
  rw[e]
  cases j with
  | zero =>
   have hk2:k<(lz n (en (k+1) t)).length:=by rw[hl];simp at hk;omega
   show ((lz n (en (k+1) t)).set k ((mxl p t (rl t)+1:Nat):Int))[k]?=_
   rw[List.getElem?_set_self hk2]
   rfl
  | succ j =>
   rw[List.getElem?_set_ne (by omega),show k+(j+1)=k+1+j by omega]
   have:=ih (k+1) (by simp at hk;omega) j (by simpa [rl] using hj)
   simpa [rl] using this
theorem Zhh (l:List Pr):lz l.length (en 0 l)=(rl l).map (fun (n:Nat)=>(n:Int)):=by
 apply List.ext_getElem?
 intro j
 by_cases hj:j<(rl l).length
 ·have:=Zhi l.length 0 l (by omega) j hj
  rw[Nat.zero_add] at this
  rw[this]
  simp[hj]
 ·rw[List.getElem?_eq_none (by rw[Zhj];rw[ZjB] at hj;omega),List.getElem?_eq_none (by simpa using hj)]
structure Rs (w:World) (n:Nat) (r:List (Nat × Pr)) (va:Value) (vals:List Value) (H:List (List Pr)) (W:World):Prop where
 low:Below w.heap.size w W
 lbox:Boxed W (w.heap.size+1) 50 (.slice (some ⟨w.heap.size,0,none⟩) n n)
 lrow:W.ownsRow w.heap.size 3 1 (.slice (some ⟨w.heap.size,0,none⟩) n n) n (icells (lz n r))
 abox:Boxed W (w.heap.size+1+1) 171 va
 al:Al W w.heap.size va vals H
 hd:Hds (r.map (·.2)) H
 hl:H.length≤r.length
 hh:∀ h∈H,h.length≤r.length
theorem Zio {W W':World} {row:Option Nat} {base n:Nat} {e:TypeId} {s:Nat} {v:Value} {xs:List Value} (ho:W.ownsRow base e s v n xs) (hg:W.grownBy W' row) (hr:∀ r,row=some r→∃ o:Obj,W.heap[r]?=some o∧o.isCells=false):W'.ownsRow base e s v n xs:=by
 refine ho.kept hg ?_
 cases h:v.ownBlock with
 | none=>exact .inl rfl
 | some g =>
  right
  intro q
  obtain⟨cur,h1,_⟩:=Zil ho h
  obtain⟨o,h2,h3⟩:=hr g q.symm
  rw[h1] at h2
  cases h2
  cases h3
theorem ZbM {W W':World} {row:Option Nat} {B:Nat} {t:TypeId} {v:Value} (h:Boxed W B t v) (hg:W.grownBy W' row) (hr:∀ r,row=some r→∃ o:Obj,W.heap[r]?=some o∧o.isCells=false):Boxed W' B t v:=by
 refine h.kept hg (fun q=>?_)
 obtain⟨o,h2,h3⟩:=hr B q.symm
 unfold Boxed at h
 rw[h] at h2
 cases h2
 cases h3
theorem Rs.own {w:World} {n:Nat} {r:List (Nat × Pr)} {va:Value} {vals:List Value} {H:List (List Pr)} {W W':World} (h:Rs w n r va vals H W) {row:Option Nat} (hg:W.grownBy W' row) (hr:∀ r,row=some r→w.heap.size≤r∧∃ o:Obj,W.heap[r]?=some o∧o.isCells=false):Rs w n r va vals H W' :=
 ⟨h.low.grown hg h.low.size (fun j hj=>(hr j hj).1),ZbM h.lbox hg (fun r e=>(hr r e).2),Zio h.lrow hg (fun r e=>(hr r e).2),ZbM h.abox hg (fun r e=>(hr r e).2),
  ⟨Zio h.al.row hg (fun r e=>(hr r e).2),h.al.len,fun m v k h1 h2=>Zio (h.al.own m v k h1 h2) hg (fun r e=>(hr r e).2),h.al.apart⟩,h.hd,h.hl,h.hh⟩
theorem Rs.keep {w:World} {n:Nat} {r:List (Nat × Pr)} {va:Value} {vals:List Value} {H:List (List Pr)} {W W':World} (h:Rs w n r va vals H W) (hb:Low W W'):Rs w n r va vals H W' :=
 h.own (ZgY hb none) (fun r e=>by cases e)
def Ty (W:World) (row:Option Nat) (e:TypeId):Prop:=∀ g,row=some g→∃ cur,W.heap[g]?=some (.cells cur e (0,0))
theorem Zme {W:World} {base n:Nat} {e:TypeId} {s:Nat} {v:Value} {xs:List Value} (ho:W.ownsRow base e s v n xs):Ty W v.ownBlock e:=fun g hg=>by
 obtain⟨cur,h,_⟩:=Zil ho hg
 exact⟨cur,h⟩
section
variable {W W':World} {row:Option Nat} {e:TypeId}
theorem ZbQ {B:Nat} {t:TypeId} {v:Value} (h:Boxed W B t v) (hg:W.grownBy W' row) (hy:Ty W row e) (hne:t≠e):Boxed W' B t v:=by
 refine h.kept hg (fun q=>?_)
 obtain⟨cur,h2⟩:=hy B q.symm
 unfold Boxed at h
 rw[h] at h2
 cases h2
 exact hne rfl
theorem Zic {base n:Nat} {t:TypeId} {s:Nat} {v:Value} {xs:List Value} (h:W.ownsRow base t s v n xs) (hg:W.grownBy W' row) (hy:Ty W row e) (hne:t≠e):W'.ownsRow base t s v n xs:=by
 refine h.kept hg ?_
 cases hb:v.ownBlock with
 | none=>exact .inl rfl
 | some g =>
  right
  intro q
  obtain⟨cur,h1,_⟩:=Zil h hb
  obtain⟨cur',h2⟩:=hy g q.symm
  rw[h1] at h2
  cases h2
  exact hne rfl
theorem Zbo {base:Nat} {va:Value} {vals:List Value} {H:List (List Pr)} (h:Al W base va vals H) (hg:W.grownBy W' row) (hy:Ty W row e) (h1:176≠e) (h2:133≠e):Al W' base va vals H :=
 ⟨Zic h.row hg hy h1,h.len,fun n v k a b=>Zic (h.own n v k a b) hg hy h2,h.apart⟩
theorem Zga (hg:W.grownBy W' row) (hy:Ty W row e):KeepsOthers W W':=KeepsOthers.of_grownBy hg (fun j o ej hj=>by
 obtain⟨cur,h⟩:=hy j ej
 rw[h] at hj
 cases hj
 rfl)
theorem Zgl {n₀ lo:Nat} {v:Value} (hb:Boxed W lo 129 v) (hn:n₀≤W.heap.size) (hg:W.grownBy W' row) (hy:Ty W row e) (hne:129≠e) (hge:∀ g,row=some g→n₀≤g):Kq n₀ lo W W' :=
 ⟨(Below.refl n₀ W).grown hg hn (fun j ej=>hge j ej),(ZbQ hb hg hy hne).trans hb.symm⟩
end
theorem ZfZ {W W':World} (h:Low W W'):KeepsOthers W W':=⟨Below.size h,fun k _ hk _=>(Below.block h k (Array.getElem?_eq_some_iff.1 hk).1).trans hk⟩
theorem Zgk {n₀ lo:Nat} {W W':World} (hn:n₀≤W.heap.size) (hl:lo<W.heap.size) (h:Low W W'):Kq n₀ lo W W':=⟨Below.mono h hn,Below.block h lo hl⟩
theorem ZhG {t:List Pr} {H:List (List Pr)} (h:Hds t H) (p:Pr):(∀ m,m<mxl p t (rl t)→Hd t m p)∧¬ Hd t (mxl p t (rl t)) p∧mxl p t (rl t)≤H.length:=by
 refine⟨fun m hm=>?_,?_,ZhH p t (rl t) H.length h.top⟩
 ·obtain⟨k,q,g1,g2,g3⟩:=ZhE p t (rl t) (by omega)
  have:Hd t (mxl p t (rl t)-1) p:=⟨k,q,g1,by rw[g2];congr 1;omega,g3⟩
  exact this.downs (by omega)
 ·rintro⟨k,q,g1,g2,g3⟩
  have:=ZhF p t (rl t) k q _ g1 g2 g3
  omega
theorem ZfI (h:List Pr) (p:Pr) (hug:upto h p.X≤grt h p.Y):(ins h p).length≤h.length+1:=by
 unfold ins
 rw[List.length_append,List.length_cons,List.length_take,List.length_drop]
 have:=Zmo h p.X
 omega
structure Rp (w:World) (n:Nat) (Z:List Int) (va:Value) (vals:List Value) (H:List (List Pr)) (vl:Value) (W:World):Prop where
 low:Below w.heap.size w W
 lbox:Boxed W (w.heap.size+1) 50 (.slice (some ⟨w.heap.size,0,none⟩) n n)
 lrow:W.ownsRow w.heap.size 3 1 (.slice (some ⟨w.heap.size,0,none⟩) n n) n (icells Z)
 abox:Boxed W (w.heap.size+1+1) 171 va
 al:Al W w.heap.size va vals H
 ibox:Boxed W (w.heap.size+1+1+1) 129 vl
structure Stp (w W W':World):Prop where
 ko:KeepsOthers W W'
 kq:Kq w.heap.size (w.heap.size+1+1+1) W W'
theorem Stp.trans {w A B C:World} (h:Stp w A B) (k:Stp w B C):Stp w A C:=⟨h.ko.trans k.ko,h.kq.trans k.kq⟩
section
variable {w:World} {n:Nat} {Z:List Int} {va:Value} {vals:List Value} {H:List (List Pr)} {vl:Value} {W W':World}
theorem Rp.lo (h:Rp w n Z va vals H vl W) (hb:Low W W'):Rp w n Z va vals H vl W'∧Stp w W W':=by
 have hg:=ZgY hb none
 have hy:∀ e,Ty W none e:=fun e g q=>by cases q
 have h3:=h.ibox.lt
 exact⟨⟨h.low.trans (Below.mono hb h.low.size),ZbQ h.lbox hg (hy 0) (by decide),Zic h.lrow hg (hy 0) (by decide),ZbQ h.abox hg (hy 0) (by decide),Zbo h.al hg (hy 0) (by decide) (by decide),ZbQ h.ibox hg (hy 0) (by decide)⟩,ZfZ hb,Zgk h.low.size h3 hb⟩
theorem Rp.put {g k c m:Nat} {v1 v':Value} {L:List Pr} {W4:World} (h:Rp w n Z (.slice (some ⟨g,0,none⟩) k c) vals H vl W) (hO:W.ownsRow w.heap.size 133 2 v1 (H[m]?.getD []).length (prcells (H[m]?.getD []))) (hv:vals[m]?=some v1) (hG:Grows w.heap.size W v1 v' L W4) :
  Rp w n Z (.slice (some ⟨g,0,none⟩) k c) (vals.set m v') (H.set m L) vl (W4.setCell ⟨g,m,none⟩ v')∧Stp w W (W4.setCell ⟨g,m,none⟩ v'):=by
 obtain⟨g1,g2,g3⟩:=hG
 have y1:Ty W v1.ownBlock 133:=Zme hO
 have r4:=Zic h.al.row g2 y1 (by decide)
 have y2:Ty W4 (some g) 176:=Zme (v:=.slice (some ⟨g,0,none⟩) k c) r4
 have g5:W4.grownBy (W4.setCell ⟨g,m,none⟩ v') (some g):=by
  rcases r4.2 with ⟨q,_⟩ | ⟨g',cap,cur,q,_⟩
  ·cases q
  ·cases q
   exact (r4.stored m v').2
 have i4:=ZbQ h.ibox g2 y1 (by decide)
 have hb1:∀ q,v1.ownBlock=some q→w.heap.size≤q:=fun q hq=>(Zil hO hq).choose_spec.2
 have hb2:∀ q,some g=some q→w.heap.size≤q:=fun q hq=>(Zil r4 (by rw[← hq];rfl)).choose_spec.2
 have s4:=h.low.size
 have k1:=Zgl h.ibox s4 g2 y1 (by decide) hb1
 have s5:w.heap.size≤W4.heap.size:=Nat.le_trans s4 g2.size
 have k2:=Zgl i4 s5 g5 y2 (by decide) hb2
 refine⟨⟨h.low.trans (k1.trans k2).low,ZbQ (ZbQ h.lbox g2 y1 (by decide)) g5 y2 (by decide),Zic (Zic h.lrow g2 y1 (by decide)) g5 y2 (by decide),ZbQ (ZbQ h.abox g2 y1 (by decide)) g5 y2 (by decide),h.al.set hv ⟨g1,g2,g3⟩,ZbQ i4 g5 y2 (by decide)⟩,(Zga g2 y1).trans (Zga g5 y2),k1.trans k2⟩
theorem Rp.write (h:Rp w n Z va vals H vl W) (i:Nat) (z:Int):Rp w n (Z.set i z) va vals H vl (W.setCell ⟨w.heap.size,i,none⟩ (.int .i64 z))∧Stp w W (W.setCell ⟨w.heap.size,i,none⟩ (.int .i64 z)):=by
 obtain⟨p1,g1⟩:=h.lrow.stored i (.int .i64 z)
 have e:(icells Z).set i (.int .i64 z)=icells (Z.set i z):=by simp[icells,List.map_set]
 rw[e] at p1
 have y1:Ty W (some w.heap.size) 3:=Zme (v:=.slice (some ⟨w.heap.size,0,none⟩) n n) h.lrow
 have k1:=Zgl h.ibox h.low.size g1 y1 (by decide) (fun q hq=>by cases hq;exact Nat.le_refl _)
 exact⟨⟨h.low.trans k1.low,ZbQ h.lbox g1 y1 (by decide),p1,ZbQ h.abox g1 y1 (by decide),Zbo h.al g1 y1 (by decide) (by decide),ZbQ h.ibox g1 y1 (by decide)⟩,Zga g1 y1,k1⟩
theorem Rp.more {va':Value} {w1:World} (h:Rp w n Z va vals H vl W) (hO:w1.ownsRow w.heap.size 176 1 va' (vals.length+1) (vals++[.slice none 0 0])) (hg:W.grownBy w1 va.ownBlock) :
  Rp w n Z va' (vals++[.slice none 0 0]) (H++[[]]) vl (w1.setCell ⟨w.heap.size+1+1,0,none⟩ va')∧Stp w W (w1.setCell ⟨w.heap.size+1+1,0,none⟩ va'):=by
 have y1:Ty W va.ownBlock 176:=Zme h.al.row
 have a1:=ZbQ h.abox hg y1 (by decide)
 have y2:Ty w1 (some (w.heap.size+1+1)) 171:=fun q hq=>by cases hq;exact⟨_,a1⟩
 have g2:=grownBy_setCell' w1 (w.heap.size+1+1) va'
 have i1:=ZbQ h.ibox hg y1 (by decide)
 have s1:=h.low.size
 have k1:=Zgl h.ibox s1 hg y1 (by decide) (fun q hq=>(Zil h.al.row hq).choose_spec.2)
 have k2:=Zgl i1 (Nat.le_trans s1 hg.size) g2 y2 (by decide) (fun q hq=>by cases hq;omega)
 exact⟨⟨h.low.trans (k1.trans k2).low,ZbQ (ZbQ h.lbox hg y1 (by decide)) g2 y2 (by decide),Zic (Zic h.lrow hg y1 (by decide)) g2 y2 (by decide),a1.set va',Zbo (h.al.more hO hg) g2 y2 (by decide) (by decide),ZbQ i1 g2 y2 (by decide)⟩,(Zga hg y1).trans (Zga g2 y2),k1.trans k2⟩
end
end

section
open Go.RowKit Go.Shelf
attribute [local go_sem] Oper.semAt_some
theorem R8.wpOpIn_call {F:Fence} {m:Nat} {P:Program} {ops:Array Oper} {Q:Exit→Act→World→Prop} {i:Nat} {o:Oper} {K:Act→World→Prop} {a:Act} {w:World} {f:FuncId} {args:Array Value} (ho:ops[i]?=some o) (hg:o.guard=none) (hnd:∀ c,o.op≠.defer c)
  (hab:∀ f,F.fn f) (hdp:F.depth=none) (hrun:(execOp a.eval o).run P w=.ok (.enter f args) w) {R:Value→World→Prop} (hc:CallsIn F (m-1) P f args w fun e w'=>∃ v',e=.returned v'∧R v' w') (hK:∀ v' u,R v' u→K (a.put o.dst v') u):wpOpIn F m P ops Q i K a w:=by
 unfold wpOpIn
 simp only[ho]
 have hw:Region.wanted o (yielded ops a.tmps)=true:=by simp[Region.wanted,hg]
 rw[if_pos hw]
 refine⟨fun f _=>hab f,?_⟩
 rw[Oper.semAt_plain F _ _ hnd,hrun,Oper.uponIn_enter]
 refine⟨fun h=>(by rw[hdp] at h;cases h),hc.mono ?_⟩
 rintro e w' ⟨v',rfl,h⟩
 exact hK v' w' h
theorem ZjI {W:World} {base g k c m:Nat} {e:TypeId} {xs:List Value} (h:W.ownsRow base e 1 (.slice (some ⟨g,0,none⟩) k c) m xs) {n:Nat} {v:Value} (hv:xs[n]?=some v):W.cell? ⟨g,n,none⟩=some v∧W.frozen? ⟨g,n,none⟩=false:=by
 have hn:=(List.getElem?_eq_some_iff.1 hv).1
 obtain rfl:k=m:=by
  rcases h.2 with ⟨h1,_⟩ | ⟨g',cap,cur,q1,_⟩
  ·cases h1
  ·cases q1;rfl
 have hl:=h.1
 refine⟨by rw[h.cellAt n (by omega),hv],h.frozenAt n⟩
theorem Zjh {lp m:Nat} {Q:Exit→Act→World→Prop} {s0 s1 s2 s3 s5 s8 s9 s10 s11 s12 s13 s14 s15 s16 s17 s18 s19 s20 s21 s22 s23 s24 s25:Value} (w:World) (N:Nat) (Z:List Int) (vl:Value) (vals:List Value) (H:List (List Pr)) (B4 Bx n g k c:Nat) (X Y:Int) (U:World) (v1:Value) (h L:List Pr)
  (hB4:B4=w.heap.size+1+1) (hP:Rp w N Z (.slice (some ⟨g,0,none⟩) k c) vals H vl U) (hnk:n<k) (_hkl:k≤2097152) (hv:vals[n]?=some v1)
  (cX:U.cell? ⟨Bx,0,none⟩=some (.int .i64 X)) (cY:U.cell? ⟨Bx,1,none⟩=some (.int .i64 Y))
  (hO:U.ownsRow w.heap.size 133 2 v1 h.length (prcells h)) (hs:Hid (Stair h)) (hn:Hid (¬ ∃ a∈h,ab a ⟨X,Y⟩)) (hl:h.length≤1048576) (hL:Hid (ins h ⟨X,Y⟩=L))
  (hQ:∀ v' u,Grows w.heap.size U v1 v' L u→Q .normal { tmps:=#[s0,s1,s2,s3,.pointer (some ⟨B4,0,none⟩),s5,.pointer (some ⟨Bx,0,none⟩),.int .i64 (n:Int),s8,s9,s10,s11,s12,s13,s14,s15,s16,s17,s18,s19,s20,s21,s22,s23,s24,s25,(.slice (some ⟨g,0,none⟩) k c),(.int .i64 (n:Int)),(.slice (some ⟨g,0,none⟩) k c),(.int .i64 (n:Int)),(.pointer (some ⟨g,n,none⟩)),v1,(prV ⟨X,Y⟩),v',.pointer (some ⟨g,n,none⟩),undef,undef,undef,undef,undef,undef],defers:=[] } (u.setCell ⟨g,n,none⟩ v')) :
  Code.wpIn (Fence.wide.inRound lp) m Tryz.prog (Code.region 9 #[{ dst := some 26, op := Op.load 171 (Operand.tmp 4), type := 171, pos := "rising.go:40", after := #[], guard := none }, { dst := some 27, op := Op.move (Operand.tmp 7), type := 3, pos := "rising.go:40", after := #[], guard := none }, { dst := some 28, op := Op.load 171 (Operand.tmp 4), type := 171, pos := "rising.go:40", after := #[], guard := none }, { dst := some 29, op := Op.move (Operand.tmp 7), type := 3, pos := "rising.go:40", after := #[], guard := none }, { dst := some 30, op := Op.indexAddr 171 (Operand.tmp 28) (Operand.tmp 29), type := 0, pos := "rising.go:40", after := #[{ on := 2, ground := Ground.data }, { on := 3, ground := Ground.data }], guard := none }, { dst := some 31, op := Op.load 176 (Operand.tmp 30), type := 176, pos := "rising.go:40", after := #[{ on := 4, ground := Ground.data }], guard := none }, { dst := some 32, op := Op.load 133 (Operand.tmp 6), type := 133, pos := "rising.go:40", after := #[], guard := none }, { dst := some 33, op := Op.call { callee := Callee.value (Operand.func 120), args := #[Operand.tmp 31, Operand.tmp 32], argTypes := #[176, 133] }, type := 176, pos := "rising.go:40", after := #[{ on := 5, ground := Ground.data }, { on := 6, ground := Ground.data }], guard := none }, { dst := some 34, op := Op.indexAddr 171 (Operand.tmp 26) (Operand.tmp 27), type := 0, pos := "rising.go:40", after := #[{ on := 0, ground := Ground.data }, { on := 1, ground := Ground.data }, { on := 0, ground := Ground.phase }, { on := 1, ground := Ground.phase }, { on := 2, ground := Ground.phase }, { on := 3, ground := Ground.phase }, { on := 4, ground := Ground.phase }, { on := 5, ground := Ground.phase }, { on := 6, ground := Ground.phase }, { on := 7, ground := Ground.phase }], guard := none }, { dst := none, op := Op.store 176 (Operand.tmp 34) (Operand.tmp 33), type := 0, pos := "rising.go:40", after := #[{ on := 8, ground := Ground.data }, { on := 7, ground := Ground.data }, { on := 7, ground := Ground.chain }, { on := 0, ground := Ground.phase }, { on := 1, ground := Ground.phase }, { on := 2, ground := Ground.phase }, { on := 3, ground := Ground.phase }, { on := 4, ground := Ground.phase }, { on := 5, ground := Ground.phase }, { on := 6, ground := Ground.phase }, { on := 7, ground := Ground.phase }], guard := none }] true) Q { tmps := #[s0, s1, s2, s3, .pointer (some ⟨B4, 0, none⟩), s5, .pointer (some ⟨Bx, 0, none⟩), .int .i64 (n : Int), s8, s9, s10, s11, s12, s13, s14, s15, s16, s17, s18, s19, s20, s21, s22, s23, s24, s25, undef, undef, undef, undef, undef, undef, undef, undef, undef, undef, undef, undef, undef, undef, undef], defers := [] } U := by
 subst hB4
 have cA:=hP.abox.cell
 obtain⟨cv,fv⟩:=ZjI hP.al.row hv
 have hOd:U.drew.ownsRow w.heap.size 133 2 v1 h.length (prcells h):=hO
 have hbU:w.heap.size≤U.drew.heap.size:=hP.low.size
 have y1:Ty U.drew v1.ownBlock 133:=Zme hOd
 obtain⟨B4,hB4⟩:∃ B4,w.heap.size+1+1=B4:=⟨_,rfl⟩
 have hfar:∀ u,U.drew.grownBy u v1.ownBlock→u.cell? ⟨B4,0,none⟩=some (.slice (some ⟨g,0,none⟩) k c)∧u.cell? ⟨g,n,none⟩=some v1∧u.frozen? ⟨g,n,none⟩=false:=fun u hg=>by
  have hab:Boxed U.drew B4 171 (.slice (some ⟨g,0,none⟩) k c):=by rw[← hB4];exact hP.abox
  have hrow:U.drew.ownsRow w.heap.size 176 1 (.slice (some ⟨g,0,none⟩) k c) vals.length vals:=hP.al.row
  exact⟨(ZbQ hab hg y1 (by decide)).cell,ZjI (Zic hrow hg y1 (by decide)) hv⟩
 rw[hB4] at cA hQ ⊢
 obtain⟨ho1,hc1,rfl⟩:=(holds_of hO).form
 refine wpIn_region_any (by kernel_rfl) ?_
 refine R8.any8 (w:=U.drew) (fun b v=>{ tmps:=#[s0,s1,s2,s3,.pointer (some ⟨B4,0,none⟩),s5,.pointer (some ⟨Bx,0,none⟩),.int .i64 (n:Int),s8,s9,s10,s11,s12,s13,s14,s15,s16,s17,s18,s19,s20,s21,s22,s23,s24,s25,R8.pk (b 0) (.slice (some ⟨g,0,none⟩) k c),R8.pk (b 1) (.int .i64 (n:Int)),R8.pk (b 2) (.slice (some ⟨g,0,none⟩) k c),R8.pk (b 3) (.int .i64 (n:Int)),R8.pk (b 4) (.pointer (some ⟨g,n,none⟩)),R8.pk (b 5) (.slice ho1 h.length hc1),R8.pk (b 6) (prV ⟨X,Y⟩),R8.pk (b 7) v,undef,undef,undef,undef,undef,undef,undef],defers:=[] }) (fun v u=>Grows w.heap.size U.drew (.slice ho1 h.length hc1) v L u∧u.cell? ⟨B4,0,none⟩=some (.slice (some ⟨g,0,none⟩) k c)∧u.cell? ⟨g,n,none⟩=some (.slice ho1 h.length hc1)∧u.frozen? ⟨g,n,none⟩=false∧∃ ao' c',v=.slice ao' L.length c') (R8.chk_all (of_decide_eq_true (by kernel_rfl))) ?hstep ?hcall ?hfin undef
 case hstep =>
  rintro b ⟨i,hi⟩ h7 hbi hd hcl v u hst K hK
  have cA':u.cell? ⟨B4,0,none⟩=some (.slice (some ⟨g,0,none⟩) k c):=by
   rcases hst with ⟨_,rfl⟩ | ⟨_,hp⟩
   ·exact cA
   ·exact hp.2.1
  have hu:2≤i→u=U.drew:=fun h2=>by
   rcases hst with ⟨_,rfl⟩ | ⟨q7,_⟩
   ·rfl
   ·obtain⟨r2,r3,r4,r5,r6⟩:=R8.closed_call b hcl q7
    exfalso
    rcases (by omega:i=2∨i=3∨i=4∨i=5∨i=6∨i=7) with rfl | rfl | rfl | rfl | rfl | rfl
    ·exact absurd (r2.symm.trans hbi) (by decide)
    ·exact absurd (r3.symm.trans hbi) (by decide)
    ·exact absurd (r4.symm.trans hbi) (by decide)
    ·exact absurd (r5.symm.trans hbi) (by decide)
    ·exact absurd (r6.symm.trans hbi) (by decide)
    ·exact h7 rfl
  rcases (by omega:i=0∨i=1∨i=2∨i=3∨i=4∨i=5∨i=6∨i=7) with rfl | rfl | rfl | rfl | rfl | rfl | rfl | rfl
  ·refine R8.wpOpIn_yield (v:=.slice (some ⟨g,0,none⟩) k c) rfl rfl (fun _ h=>by cases h) rfl ?_ hK
   go_simp
  ·refine R8.wpOpIn_yield (v:=.int .i64 (n:Int)) rfl rfl (fun _ h=>by cases h) rfl ?_ hK
   go_simp
  ·refine R8.wpOpIn_yield (v:=.slice (some ⟨g,0,none⟩) k c) rfl rfl (fun _ h=>by cases h) rfl ?_ hK
   go_simp
  ·refine R8.wpOpIn_yield (v:=.int .i64 (n:Int)) rfl rfl (fun _ h=>by cases h) rfl ?_ hK
   go_simp
  ·have e2:=R8.pk_true (hd 2 (by simp[R8.deps])) (.slice (some ⟨g,0,none⟩) k c)
   have e3:=R8.pk_true (hd 3 (by simp[R8.deps])) (.int .i64 (n:Int))
   refine R8.wpOpIn_yield (v:=.pointer (some ⟨g,n,none⟩)) rfl rfl (fun _ h=>by cases h) rfl ?_ hK
   go_simp
  ·obtain rfl:=hu (by omega)
   have e4:=R8.pk_true (hd 4 (by simp[R8.deps])) (.pointer (some ⟨g,n,none⟩))
   refine R8.wpOpIn_yield (v:=.slice ho1 h.length hc1) rfl rfl (fun _ h=>by cases h) rfl ?_ hK
   go_simp
  ·obtain rfl:=hu (by omega)
   refine R8.wpOpIn_yield (v:=prV ⟨X,Y⟩) rfl rfl (fun _ h=>by cases h) rfl ?_ hK
   simp only[prV]
   go_simp
  ·exact absurd rfl h7
 case hcall =>
  intro b v h7 h5 h6 K hK
  have e5:=R8.pk_true h5 (.slice ho1 h.length hc1)
  have e6:=R8.pk_true h6 (prV ⟨X,Y⟩)
  refine R8.wpOpIn_call (f:=120) (args:=#[.slice ho1 h.length hc1,prV ⟨X,Y⟩]) (R:=fun v' u=>Grows w.heap.size U.drew (.slice ho1 h.length hc1) v' L u) rfl rfl (fun _ h=>by cases h) (fun _=>trivial) rfl ?_ (CallsIn.inRound lp (callsIn_wide.2 (ZnJ h ⟨X,Y⟩ w.heap.size _ U.drew hOd hbU hs hn hl L hL))) ?_
  ·go_simp
   exact⟨rfl,rfl⟩
  ·intro v' u hG
   obtain⟨ao',c',rfl⟩:=(holds_of hG.1).form
   obtain⟨f1,f2,f3⟩:=hfar u hG.2.1
   exact hK _ u ⟨hG,f1,f2,f3,ao',c',rfl⟩
 case hfin =>
  rintro _ u ⟨hG,f1,f2,f3,ao',c',rfl⟩
  have eT:∀ v,R8.pk true v=v:=fun _=>rfl
  simp only[eT]
  refine R8.wpOpIn_yield (v:=.pointer (some ⟨g,n,none⟩)) rfl rfl (fun _ h=>by cases h) rfl ?_ ?_
  ·go_simp
  ·refine wpAnyIn_ready (rs:=[9]) (by kernel_rfl) (by simp) (AllReadyIn.cons rfl (fun K hK=>?_) AllReadyIn.nil)
   go_simp
   refine hK _ _ ⟨by kernel_rfl,?_⟩
   exact hQ _ u ⟨hG.1,(Zdp U _).trans hG.2.1,hG.2.2⟩
theorem ZeX {R:List (Nat × Pr)} {H H':List (List Pr)} {p:Pr} {n:Nat} (i:Nat) (hR:Hds (R.map (·.2)) H∧H.length≤R.length∧∀ h∈H,h.length≤R.length) (hn:n≤H.length) (hh:(∀ m,m<n→Hd (R.map (·.2)) m p)∧¬ Hd (R.map (·.2)) n p) (e:H'=room H n) :
  ∃ h,H'[n]?=some h∧Stair h∧(¬ ∃ a∈h,ab a p)∧h.length≤R.length∧Hds (((i,p)::R).map (·.2)) (H'.set n (ins h p))∧(H'.set n (ins h p)).length≤((i,p)::R).length∧∀ x∈H'.set n (ins h p),x.length≤((i,p)::R).length:=by
 have hm:∀ x∈H',x.length≤R.length:=fun x hx=>by
  rw[e] at hx
  unfold room at hx
  split at hx
  ·rcases List.mem_append.1 hx with q | q
   ·exact hR.2.2 x q
   ·simp at q
    simp[q]
  ·exact hR.2.2 x hx
 have hlen:H'.length≤H.length+1∧n<H'.length:=by
  rw[e]
  unfold room
  split
  ·simp;omega
  ·exact⟨by omega,by omega⟩
 have hg:H'[n]?=some H'[n]:=List.getElem?_eq_getElem hlen.2
 obtain⟨q1,_,q3,q4⟩:=hR.1.step hn hh.1 hh.2 (H'[n]) (by rw[← e];exact hg)
 rw[← e] at q1
 refine⟨_,hg,q3,q4,hm _ (List.getElem_mem _),q1,by have:=hR.2.1;simp;omega,fun x hx=>?_⟩
 rcases List.mem_or_eq_of_mem_set hx with q | q
 ·have:=hm x q
  simp
  omega
 ·rw[q]
  have h1:=ZfI (H'[n]) p (Zmn q3 q4)
  have h2:=hm _ (List.getElem_mem hlen.2)
  simp
  omega
theorem ZbL {W W':World} {row:Option Nat} {e:TypeId} {B:Nat} {t:TypeId} {cs:Array Value} (h:W.heap[B]?=some (.cells cs t (0,0))) (hg:W.grownBy W' row) (hy:Ty W row e) (hne:t≠e):W'.heap[B]?=some (.cells cs t (0,0)):=by
 refine (hg.block B (Array.getElem?_eq_some_iff.1 h).1 (fun q=>?_)).trans h
 obtain⟨cur,h2⟩:=hy B q.symm
 rw[h] at h2
 cases h2
 exact hne rfl
theorem Rp.more_blk {w:World} {n:Nat} {Z:List Int} {va va':Value} {vals:List Value} {H:List (List Pr)} {vl:Value} {W w1:World} (h:Rp w n Z va vals H vl W) (hg:W.grownBy w1 va.ownBlock) {B:Nat} {cs:Array Value} (hx:W.heap[B]?=some (.cells cs 133 (0,0))):(w1.setCell ⟨w.heap.size+1+1,0,none⟩ va').heap[B]?=some (.cells cs 133 (0,0)):=by
 have y1:Ty W va.ownBlock 176:=Zme h.al.row
 have a1:=ZbQ h.abox hg y1 (by decide)
 have y2:Ty w1 (some (w.heap.size+1+1)) 171:=fun q hq=>by cases hq;exact⟨_,a1⟩
 exact ZbL (ZbL hx hg y1 (by decide)) (grownBy_setCell' w1 (w.heap.size+1+1) va') y2 (by decide)
end

section
open Go.RowKit Go.Shelf
attribute [local go_sem] Oper.semAt_some
theorem ZgW {W W':World} (h:Low W W') {B:Nat} {o:Obj} (hx:W.heap[B]?=some o):W'.heap[B]?=some o:=(Below.block h B (Array.getElem?_eq_some_iff.1 hx).1).trans hx
theorem Zjy (l:List Pr) (v:Value) (w:World) (hl:HPr w v l) (hlen:l.length≤1048576) :
  Calls Tryz.prog 106 #[v] w fun e w'=>∃ v',e=.returned v'∧w'.ownsRow w.heap.size 3 1 v' l.length (icells ((rl l).map (fun (n:Nat)=>(n:Int))))∧Below w.heap.size w w':=by
 obtain⟨ao,ca,rfl⟩:=Holds.form hl
 have hmk:=ZkB (T:=50) Tryz.underlying50 infoInt (by decide) (l.length:Int) l.length rfl (by omega)
 have hrow:=World.ownsRow_lit (base:=w.heap.size) (e:=3) (size:=1) w (madeCells #[.int .i64 0] l.length) l.length (Nat.le_refl _) (by unfold maxLen;omega) (by rw[size_madeCells];simp)
 rw[madeL] at hrow
 refine (callsIn_wide (n:=3)).1 ?_
 refine callsIn_of_wp_marks Tryz.func106 rfl trivial ?_ rfl
 simp only[Tryz.ntmps106,List.size_toArray,List.length_cons,List.length_nil,Nat.reduceAdd,Nat.reduceSub,Array.replicate_succ,Array.replicate_zero,List.push_toArray,List.append_toArray,List.nil_append,List.cons_append]
 gi_wp2_with (refine⟨trivial,?_⟩;gi_at_call 116;refine (callsIn_wide.2 (Zaa _ _ _ _)).mono ?_;rintro e w' ⟨rfl,rfl⟩)
 obtain⟨W0,hW0⟩:∃ W0,((((w.alloc (Obj.cells (madeCells #[Value.int IntKind.i64 0] l.length) 3)).alloc (Obj.cells #[Value.slice (some { block:=w.heap.size,off:=0 }) l.length l.length] 50)).alloc (Obj.cells #[Value.slice none 0 0] 171)).alloc (Obj.cells #[Value.slice ao l.length ca] 129))=W0:=⟨_,rfl⟩
 have hsz:W0.heap.size=w.heap.size+4:=by rw[← hW0];simp
 have hB0:Below w.heap.size w W0:=by rw[← hW0];exact ((((Below.refl _ w).alloc (Nat.le_refl _) _).alloc (by simp) _).alloc (by simp;omega) _).alloc (by simp;omega) _
 have hrow0:W0.ownsRow w.heap.size 3 1 (.slice (some ⟨w.heap.size,0,none⟩) l.length l.length) l.length (icells (lz l.length [])):=by
  rw[← hW0,lz]
  have:=((hrow.alloc (Obj.cells #[Value.slice (some { block:=w.heap.size,off:=0 }) l.length l.length] 50)).alloc (Obj.cells #[Value.slice none 0 0] 171)).alloc (Obj.cells #[Value.slice ao l.length ca] 129)
  simpa [icells] using this
 have b1:Boxed W0 (w.heap.size+1) 50 (.slice (some ⟨w.heap.size,0,none⟩) l.length l.length):=by
  rw[← hW0]
  have:=Boxed.new (w.alloc (Obj.cells (madeCells #[Value.int IntKind.i64 0] l.length) 3)) 50 (.slice (some ⟨w.heap.size,0,none⟩) l.length l.length)
  rw[World.size_alloc] at this
  exact (this.alloc _).alloc _
 have b2:Boxed W0 (w.heap.size+1+1) 171 (.slice none 0 0):=by
  rw[← hW0]
  have:=Boxed.new ((w.alloc (Obj.cells (madeCells #[Value.int IntKind.i64 0] l.length) 3)).alloc (Obj.cells #[Value.slice (some { block:=w.heap.size,off:=0 }) l.length l.length] 50)) 171 (.slice none 0 0)
  rw[World.size_alloc,World.size_alloc] at this
  exact this.alloc _
 have b3:Boxed W0 (w.heap.size+1+1+1) 129 (.slice ao l.length ca):=by
  rw[← hW0]
  have:=Boxed.new (((w.alloc (Obj.cells (madeCells #[Value.int IntKind.i64 0] l.length) 3)).alloc (Obj.cells #[Value.slice (some { block:=w.heap.size,off:=0 }) l.length l.length] 50)).alloc (Obj.cells #[Value.slice none 0 0] 171)) 129 (.slice ao l.length ca)
  rw[World.size_alloc,World.size_alloc,World.size_alloc] at this
  exact this
 rw[hW0]
 clear hmk hrow
 refine wpIn_rangeFunc_ownH rfl (by omega) (gf:=132) (lb:=#[.pointer (some ⟨w.heap.size+1+1+1,0,none⟩)]) rfl trivial (enters_of Tryz.func132 (by kernel_rfl) rfl)
  (Zbw 2 (by omega) (w.heap.size+1+1+1) w.heap.size ao ca l hlen W0 (by omega) (by omega) b3 (HPr.keep hl hB0 (Nat.le_refl _)) (fun a ha h0=>HPr.lt hl a ha h0)) Kq.trans (Kq.putObj (by omega) (by omega)) (Below.refl _ _) (fun _=>rfl)
  (fun pre W=>∃ va vals H,Rs w l.length ((pre.map (·.1)).reverse) va vals H W∧Boxed W (w.heap.size+1+1+1) 129 (.slice ao l.length ca))
  (fun _ _ _=>False)
  (fun pre W W' row hI hg hr=>by
   obtain⟨va,vals,H,h1,h2⟩:=hI
   exact⟨va,vals,H,h1.own hg (fun r e=>⟨by have:=(hr r e).1;omega,(hr r e).2⟩),ZbM h2 hg (fun r e=>(hr r e).2)⟩)
  (fun _ _ _ _ _ hs _ _=>hs)
  ⟨.slice none 0 0,[],[],⟨hB0,b1,hrow0,b2,⟨World.ownsRow_nil _ _ _ _,rfl,fun n v h hv=>by simp at hv,fun i j v v' g _ hv=>by simp at hv⟩,Hds.start,Nat.le_refl _,fun h hh=>by simp at hh⟩,b3⟩
  (fun x a' W=>∃ Bx,W.heap[Bx]?=some (Obj.cells #[.int .i64 x.1.2.X,.int .i64 x.1.2.Y] 133 (0,0))∧a'={ tmps:=#[.slice ao l.length ca,undef,.slice none 0 0,.pointer (some ⟨w.heap.size+1,0,none⟩),.pointer (some ⟨w.heap.size+1+1,0,none⟩),.int .i64 (x.1.1:Int),.pointer (some ⟨Bx,0,none⟩),undef,.slice ao l.length ca,.int .i64 (l.length:Int),.slice (some ⟨w.heap.size,0,none⟩) l.length l.length,.slice ao l.length ca,.func (.func 132) #[] #[.pointer (some ⟨w.heap.size+1+1+1,0,none⟩)],.int .i64 (x.1.1:Int),prV x.1.2,undef,undef,undef,undef,undef,undef,undef,undef,undef,undef,undef,undef,undef,undef,undef,undef,undef,undef,undef,undef,undef,undef,undef,undef,undef,undef],defers:=[] })
  ?hAx ?assign ?body ?done ?stop
 case hAx =>
  rintro x a' _ A B row ⟨Bx,hx,rfl⟩ hg hr
  refine⟨Bx,(hg.block Bx (Array.getElem?_eq_some_iff.1 hx).1 (fun e=>?_)).trans hx,rfl⟩
  obtain⟨_,o,ho,hc⟩:=hr Bx e.symm
  rw[hx] at ho
  cases ho
  cases hc
 case assign =>
  rintro lp pre x W K ⟨va,vals,H,hR,hb⟩ hK
  have hs:=hR.low.size
  have hlt:=hb.lt
  simp only[prV]
  gi_wp2
  exact hK _ _ ((KeepsOthers.alloc _ _).from _) (Kq.alloc (by omega) (by omega) _) ⟨va,vals,H,hR.keep ((Below.refl _ W).alloc (Nat.le_refl _) _),hb.alloc _⟩ ⟨W.heap.size,_root_.Go.heap_alloc_new W _,rfl⟩
 case body =>
  rintro lp pre x a' W hlp ⟨r,hr⟩ ⟨va,vals,H,hR,hb⟩ ⟨Bx,hx,rfl⟩ hlt
  obtain⟨⟨i,X,Y⟩,hi⟩:=x
  dsimp only at hi hx
  have hs:=hR.low.size
  have HE:Hid (((pre++[(⟨(i,⟨X,Y⟩),hi⟩:Mp l.length)]).map (·.1)).reverse=(i,⟨X,Y⟩)::(pre.map (·.1)).reverse):=(by show _=_;simp)
  have hRl:((pre.map (·.1)).reverse).length=pre.length:=by simp
  generalize (pre.map (·.1)).reverse=R at hR HE hRl
  obtain⟨h1,h2,h3⟩:=ZhG hR.hd ⟨X,Y⟩
  obtain⟨n,hn⟩:∃ n,mxl ⟨X,Y⟩ (R.map (·.2)) (rl (R.map (·.2)))=n:=⟨_,rfl⟩
  rw[hn] at h1 h2 h3
  have HN:Hid (mxl ⟨X,Y⟩ (R.map (·.2)) (rl (R.map (·.2)))=n):=hn
  have HH:Hid ((∀ m,m<n→Hd (R.map (·.2)) m ⟨X,Y⟩)∧¬ Hd (R.map (·.2)) n ⟨X,Y⟩):=⟨h1,h2⟩
  clear h1 h2 hn
  have c4:=hR.abox.cell
  have HVL:Hid (vals.length=H.length):=hR.al.len
  have hHl:=hR.hl
  have cX:W.cell? ⟨Bx,0,none⟩=some (.int .i64 X):=by rw[Lib.cell_of_heap hx];rfl
  have cY:W.cell? ⟨Bx,1,none⟩=some (.int .i64 Y):=by rw[Lib.cell_of_heap hx];rfl
  have hbx:=(Array.getElem?_eq_some_iff.1 hx).1
  obtain⟨vo,vc,rfl⟩:=(holds_of hR.al.row).form
  have hst:Hid (∀ h∈H,Stair h∧h.length≤1048576):=fun h hh=>⟨hR.hd.st h hh,by have:=hR.hh h hh;omega⟩
  have hsr:Calls Tryz.prog 117 #[.int .i64 (vals.length:Int),.func (.func 118) #[] #[.pointer (some ⟨w.heap.size+1+1,0,none⟩),.pointer (some ⟨Bx,0,none⟩)]] W fun e w'=>e=.returned (.int .i64 (n:Int))∧Low W w' :=
   ZaQ 118 #[.pointer (some ⟨w.heap.size+1+1,0,none⟩),.pointer (some ⟨Bx,0,none⟩)] vals.length n (fun i=>!decide (i<n)) (fun u=>Low W u) W (Below.refl _ _) (enters_of Tryz.func118 (by kernel_rfl) rfl) (by have:=HVL.out;omega) (by have:=HVL.out;omega)
    (fun i hi u hu=>Zju H ⟨X,Y⟩ i (w.heap.size+1+1) Bx w.heap.size _ vals W u hu hR.al c4 hR.abox.lt cX cY hbx (by have:=HVL.out;omega) hst (by omega) (decide (i<n)) (by
     show _↔_
     have hiH:i<H.length:=(by have:=HVL.out;omega)
     rw[hR.hd.eq i H[i] (List.getElem?_eq_getElem hiH) ⟨X,Y⟩]
     constructor
     ·intro q
      exact HH.out.1 i (of_decide_eq_true q)
     ·intro q
      refine decide_eq_true ?_
      by_cases c:i<n
      ·exact c
      ·exact absurd (q.downs (by omega)) HH.out.2))
    (fun i hi=>by simp[hi]) (fun i hi _=>by simp;omega)
  have hRp:Rp w l.length (lz l.length R) (.slice vo vals.length vc) vals H (.slice ao l.length ca) W:=⟨hR.low,hR.lbox,hR.lrow,hR.abox,hR.al,hb⟩
  have HRest:Hid (Hds (R.map (·.2)) H∧H.length≤R.length∧∀ h∈H,h.length≤R.length):=⟨hR.hd,hR.hl,hR.hh⟩
  clear hR hb hst hHl
  by_cases hnl:n=vals.length
  ·have e1:((n:Int) == (vals.length:Int))=true:=by simp;omega
   have HNL:Hid (n=vals.length):=hnl
   have hvb:vals.length≤1048576:=by have:=HVL.out;have:=HRest.out.2.1;omega
   clear hnl
   gi_wp2_with (first
    | (refine⟨trivial,?_⟩;gi_at_call 117;refine (CallsIn.inRound lp (callsIn_wide.2 hsr)).mono ?_;rintro e W1 ⟨rfl,hL1⟩;obtain⟨hP1,hS1⟩:=hRp.lo hL1;have c4':=hP1.abox.cell;obtain⟨hP2,hS2⟩:=hP1.lo (W':=W1.alloc (Obj.cells #[.slice none 0 0] 176)) ((Below.refl _ W1).alloc (Nat.le_refl _) _))
    | (gi_at_builtin;refine Zoc _ rfl (.tmp 23) (.tmp 24) 171 176 rfl (.slice none 0 0) 1 24 Tryz.underlying171 infoHd rfl (by decide) (by decide) w.heap.size (.slice vo vals.length vc) vals.length vals rfl hP2.al.row _ 1 [.slice none 0 0] rfl (ZhL _ _ _ 1 1 (by decide)) rfl (by simp[Value.oneCell']) (by omega) (by simp;have:=hP1.low.size;omega) ?_;intro v3 u1 hown3 hgrow3 _;obtain⟨hP3,hS3⟩:=hP2.more hown3 hgrow3;have b3:=ZbQ hP2.abox hgrow3 (Zme hP2.al.row) (by decide);have c3:=b3.cell;have f3:=b3.frozen;obtain⟨g3,vc3,rfl⟩:=ownsRow_succ hown3))
   have hx3:=hP2.more_blk (va':=.slice (some ⟨g3,0,none⟩) (vals.length+1) vc3) hgrow3 (ZgW ((Below.refl _ W1).alloc (Nat.le_refl _) _) (ZgW hL1 hx))
   obtain⟨hd,hhd,hst,hno,hdl,hH1,hH2,hH3⟩:=ZeX i HRest.out h3 HH.out (H':=H++[[]]) (by unfold room;rw[if_pos (by have:=HVL.out;have:=HNL.out;omega)])
   have hvn:n<(vals++[Value.slice none 0 0]).length:=by have:=hP3.al.len;have:=(List.getElem?_eq_some_iff.1 hhd).1;omega
   obtain⟨v1,hv1⟩:∃ v1,(vals++[Value.slice none 0 0])[n]?=some v1:=⟨_,List.getElem?_eq_getElem hvn⟩
   have hOw:=hP3.al.own n v1 hd hv1 hhd
   have HD:Hid (Hds (((i,⟨X,Y⟩)::R).map (·.2)) ((H++[[]]).set n (ins hd ⟨X,Y⟩))∧((H++[[]]).set n (ins hd ⟨X,Y⟩)).length≤((i,(⟨X,Y⟩:Pr))::R).length∧∀ x∈(H++[[]]).set n (ins hd ⟨X,Y⟩),x.length≤((i,(⟨X,Y⟩:Pr))::R).length):=⟨hH1,hH2,hH3⟩
   clear hH1 hH2 hH3
   refine Zjh w l.length (lz l.length R) (.slice ao l.length ca) (vals++[Value.slice none 0 0]) (H++[[]]) _ Bx n g3 (vals.length+1) vc3 X Y _ v1 hd (ins hd ⟨X,Y⟩) rfl hP3 (by first | omega | (simp at hvn;omega)) (by have:=HVL.out;have:=HRest.out.2.1;omega) hv1 (by rw[Lib.cell_of_heap hx3];rfl) (by rw[Lib.cell_of_heap hx3];rfl) hOw hst hno (by omega) rfl ?_
   intro v' u hG
   obtain⟨hP5,hS5⟩:=hP3.put (m:=n) (by rw[hhd];exact hOw) hv1 hG
   have hS6:=((hS1.trans hS2).trans hS3).trans hS5
   generalize u.setCell ⟨g3,n,none⟩ v'=W5 at hP5 hS6 ⊢
   have cl:=hP5.lbox.cell
   have cw:W5.cell? ⟨w.heap.size,i,none⟩=some (.int .i64 ((lz l.length R)[i]'(by rw[Zhj];exact hi)))∧W5.frozen? ⟨w.heap.size,i,none⟩=false:=ZjI hP5.lrow (by simp[icells,Zhj,hi])
   obtain⟨cw1,cw2⟩:=cw
   have hnb:n≤1048576:=by have:=HRest.out.2.1;omega
   obtain⟨hP7,hS7⟩:=hP5.write i ((n+1:Nat):Int)
   have hS8:=hS6.trans hS7
   rw[Int.natCast_add,Int.natCast_one] at hP7 hS8
   clear hS7 hG hP5 hS5 hS6
   gi_wp2
   refine⟨hS8.ko.from _,hS8.kq,_,_,_,⟨hP7.low,hP7.lbox,?_,hP7.abox,hP7.al,?_,?_,?_⟩,hP7.ibox⟩
   ·rw[HE.out]
    show World.ownsRow _ _ _ _ _ _ (icells ((lz l.length R).set i ((mxl ⟨X,Y⟩ (R.map (·.2)) (rl (R.map (·.2)))+1:Nat):Int)))
    rw[HN.out,Int.natCast_add,Int.natCast_one]
    exact hP7.lrow
   ·rw[HE.out];exact HD.out.1
   ·rw[HE.out];exact HD.out.2.1
   ·rw[HE.out];exact HD.out.2.2
  ·have e1:((n:Int) == (vals.length:Int))=false:=by simp;omega
   have hnl2:n<vals.length:=by have:=HVL.out;omega
   clear hnl
   gi_wp2_with (refine⟨trivial,?_⟩;gi_at_call 117;refine (CallsIn.inRound lp (callsIn_wide.2 hsr)).mono ?_;rintro e W1 ⟨rfl,hL1⟩;obtain⟨hP1,hS1⟩:=hRp.lo hL1;have c4':=hP1.abox.cell)
   have hx1:=ZgW hL1 hx
   obtain⟨g1,rfl⟩:∃ g1,vo=some ⟨g1,0,none⟩:=by
    obtain⟨g1,q,_⟩:=hP1.al.cell (List.getElem?_eq_getElem hnl2)
    exact⟨g1,q⟩
   obtain⟨hd,hhd,hst,hno,hdl,hH1,hH2,hH3⟩:=ZeX i HRest.out h3 HH.out (H':=H) (by unfold room;rw[if_neg (by have:=HVL.out;omega)])
   have hvn:n<(vals).length:=by have:=hP1.al.len;have:=(List.getElem?_eq_some_iff.1 hhd).1;omega
   obtain⟨v1,hv1⟩:∃ v1,(vals)[n]?=some v1:=⟨_,List.getElem?_eq_getElem hvn⟩
   have hOw:=hP1.al.own n v1 hd hv1 hhd
   have HD:Hid (Hds (((i,⟨X,Y⟩)::R).map (·.2)) ((H).set n (ins hd ⟨X,Y⟩))∧((H).set n (ins hd ⟨X,Y⟩)).length≤((i,(⟨X,Y⟩:Pr))::R).length∧∀ x∈(H).set n (ins hd ⟨X,Y⟩),x.length≤((i,(⟨X,Y⟩:Pr))::R).length):=⟨hH1,hH2,hH3⟩
   clear hH1 hH2 hH3
   refine Zjh w l.length (lz l.length R) (.slice ao l.length ca) (vals) (H) _ Bx n g1 vals.length vc X Y _ v1 hd (ins hd ⟨X,Y⟩) rfl hP1 (by first | omega | (simp at hvn;omega)) (by have:=HVL.out;have:=HRest.out.2.1;omega) hv1 (by rw[Lib.cell_of_heap hx1];rfl) (by rw[Lib.cell_of_heap hx1];rfl) hOw hst hno (by omega) rfl ?_
   intro v' u hG
   obtain⟨hP5,hS5⟩:=hP1.put (m:=n) (by rw[hhd];exact hOw) hv1 hG
   have hS6:=hS1.trans hS5
   generalize u.setCell ⟨g1,n,none⟩ v'=W5 at hP5 hS6 ⊢
   have cl:=hP5.lbox.cell
   have cw:W5.cell? ⟨w.heap.size,i,none⟩=some (.int .i64 ((lz l.length R)[i]'(by rw[Zhj];exact hi)))∧W5.frozen? ⟨w.heap.size,i,none⟩=false:=ZjI hP5.lrow (by simp[icells,Zhj,hi])
   obtain⟨cw1,cw2⟩:=cw
   have hnb:n≤1048576:=by have:=HRest.out.2.1;omega
   obtain⟨hP7,hS7⟩:=hP5.write i ((n+1:Nat):Int)
   have hS8:=hS6.trans hS7
   rw[Int.natCast_add,Int.natCast_one] at hP7 hS8
   clear hS7 hG hP5 hS5 hS6
   gi_wp2
   refine⟨hS8.ko.from _,hS8.kq,_,_,_,⟨hP7.low,hP7.lbox,?_,hP7.abox,hP7.al,?_,?_,?_⟩,hP7.ibox⟩
   ·rw[HE.out]
    show World.ownsRow _ _ _ _ _ _ (icells ((lz l.length R).set i ((mxl ⟨X,Y⟩ (R.map (·.2)) (rl (R.map (·.2)))+1:Nat):Int)))
    rw[HN.out,Int.natCast_add,Int.natCast_one]
    exact hP7.lrow
   ·rw[HE.out];exact HD.out.1
   ·rw[HE.out];exact HD.out.2.1
   ·rw[HE.out];exact HD.out.2.2
 case done =>
  rintro D ys W hD hys ⟨va,vals,H,hR,hb⟩ hK
  have hc:=hR.lbox.cell
  gi_wp2
  refine⟨by simp,.inl ⟨_,_,rfl,run_takeDeferred hK,?_⟩⟩
  refine⟨_,results_tmp rfl _ _ _,.slice (some ⟨w.heap.size,0,none⟩) l.length l.length,rfl,?_,hR.low.trans (belowK_b (w:=w) (Nat.le_refl _) W D _ _ (by omega) hK rfl rfl)⟩
  have:=ownsRow_putObj hR.lrow (Obj.deferred none) hK rfl
  rw[hys,List.reverse_reverse,Zhh] at this
  exact this
 case stop =>
  rintro D c pre W _ _ h _
  exact h.elim
end

section
open Go.RowKit
attribute [local simp] ZgX ZgV
theorem Zij {W:World} {b b' n:Nat} {e:TypeId} {s:Nat} {v:Value} {xs:List Value} (h:W.ownsRow b' e s v n xs) (hb:b≤b'):W.ownsRow b e s v n xs :=
 ⟨h.1,h.2.imp id (fun ⟨g,cap,cur,q1,q2,q⟩=>⟨g,cap,cur,q1,Nat.le_trans hb q2,q⟩)⟩
theorem Zbc (p q:Pr) (r:Bool) (W u:World) (hr:Hid (decide (ab p q)=r)) (hL:Low W u) :
  Calls Tryz.prog 107 #[prV p,prV q] u fun e w'=>e=.returned (.bool r)∧Low W w':=by
 refine (Zbb p q r u hr).mono ?_
 rintro e w' ⟨rfl,h⟩
 exact⟨rfl,Below.trans hL (h.mono (Below.size hL))⟩
theorem ZaF (l:List Pr) (v:Value) (w:World) (hl:HPr w v l) (hll:l.length≤1048576) (L:List Pr) (hL:Hid (lng l=L)) :
  Calls Tryz.prog 84 #[v] w fun e w'=>∃ v',e=.returned v'∧w'.ownsRow w.heap.size 133 2 v' L.length (prcells L)∧Below w.heap.size w w':=by
 obtain⟨lo,lc,rfl⟩:=Holds.form hl
 obtain⟨R,hR⟩:∃ R,rl l=R:=⟨_,rfl⟩
 have hRl:R.length=l.length:=by rw[← hR];exact ZjB l
 have hLl:L.length≤l.length:=by rw[← hL.out];exact ZiC _ _ _ _
 have HR:Hid (R.length=l.length∧(∀ n∈R,0<n∧n≤l.length)):=⟨hRl,fun n hn=>by rw[← hR] at hn;exact⟨ZjC l n hn,ZjA l n hn⟩⟩
 have HLR:Hid (pick (mxn R) none l R=L):=(by show _=_;rw[← hL.out,← hR];rfl)
 have hrf:=Zjy l _ w hl hll
 rw[hR] at hrf
 clear hR hRl hL
 go_enter Tryz.func84,Tryz.ntmps84
 go_wp2_with fail
 refine hrf.mono ?_
 rintro e W1 ⟨v',rfl,hO1,hB1⟩
 have hI:HI W1 v' (R.map (fun (n:Nat)=>(n:Int))):=(by
  have:=holds_of hO1
  unfold HI
  rw[List.length_map,HR.out.1]
  exact this)
 obtain⟨go,gc,rfl⟩:=(holds_of hO1).form
 clear hrf hO1
 go_wp2
 go_loopw [4,14] (fun mv kv wr=>∃ (k m:Nat),k≤l.length∧m≤l.length∧mv=.int .i64 m∧kv=.int .i64 k∧wr=W1∧Hid (max m (mxn (R.drop k))=mxn R)) (fun _ kv _=>l.length-(intOf kv).toNat)
 case atStart=>exact⟨0,0,Nat.zero_le _,Nat.zero_le _,rfl,rfl,rfl,by show _=_;simp⟩
 case round =>
  obtain⟨k,m,hk,hm,rfl,rfl,rfl,HM⟩:=hrel
  by_cases hkl:k<l.length
  ·obtain⟨b,off,rfl,hbl,hc⟩:=HI.at hI (by rw[List.length_map];have:=HR.out.1;omega)
   have hkR:k<R.length:=by have:=HR.out.1;omega
   have c0:=hc k (by rw[List.length_map];exact hkR)
   rw[List.getElem_map] at c0
   obtain⟨rk,hrk⟩:∃ r,R[k]=r:=⟨_,rfl⟩
   have hrb:=(HR.out.2 _ (List.getElem_mem hkR)).2
   have HM2:Hid (max (max m rk) (mxn (R.drop (k+1)))=mxn R):=(by
    show _=_
    have:=HM.out
    rw[List.drop_eq_getElem_cons hkR,mxn,hrk] at this
    omega)
   rw[hrk] at c0 hrb
   clear hc hrk HM
   have k1:0≤(k:Int):=by omega
   have k2:(k:Int)<(l.length:Int):=by omega
   go_wp2
   go_roundw
   case rel=>exact⟨k+1,max m rk,by omega,by omega,by congr 1;first | (split<;>omega) | omega,by go_num,by first | trivial | rfl,HM2⟩
   case measure=>simp[intOf];omega
  ·obtain rfl:k=l.length:=by omega
   have HPK:Hid (pick m none l R=L):=(by
    show _=_
    have:=HM.out
    rw[← HR.out.1,List.drop_length,mxn,Nat.max_zero] at this
    rw[← HLR.out,this])
   clear HM HLR hk
   obtain⟨W1,rfl⟩:∃ W1,W1=wr:=⟨wr,rfl⟩
   go_wp2
   go_loopw [4,7,24] (fun mv ov iv wi=>∃ (i m:Nat) (X:List Pr) (oo:Option Addr) (oc:Nat),i≤l.length∧m≤l.length∧mv=.int .i64 m∧ov=.slice oo X.length oc∧iv=.int .i64 i∧Low W1 wi∧X.length≤L.length∧wi.ownsRow W1.heap.size 133 2 (.slice oo X.length oc) X.length (prcells X)∧Hid (X++pick m X.getLast? (l.drop i) (R.drop i)=L)) (fun _ _ iv _=>l.length-(intOf iv).toNat)
   case atStart=>exact⟨0,m,[],none,0,Nat.zero_le _,hm,rfl,rfl,rfl,Below.refl _ _,Nat.zero_le _,World.ownsRow_nil _ _ _ _,HPK⟩
   case round =>
    obtain⟨i,m,X,oo,oc,hi,hm,rfl,rfl,rfl,hLow,hXl,hO,HX⟩:=hrel
    by_cases hil:i<l.length
    ·have hiR:i<R.length:=by have:=HR.out.1;omega
     obtain⟨p,hp⟩:∃ p,l[i]=p:=⟨_,rfl⟩
     obtain⟨ri,hri⟩:∃ r,R[i]=r:=⟨_,rfl⟩
     have hrb:=HR.out.2 _ (List.getElem_mem hiR)
     rw[hri] at hrb
     have HXP:Hid (X++(if ri=m∧(∀ q,X.getLast?=some q→ab p q) then p::pick (m-1) (some p) (l.drop (i+1)) (R.drop (i+1)) else pick m X.getLast? (l.drop (i+1)) (R.drop (i+1)))=L):=(by
      have:=HX.out
      rw[ZiG _ _ l R i hil hiR,hp,hri] at this
      exact this)
     have hBi:Below w.heap.size w wr:=hB1.trans (Below.mono hLow hB1.size)
     obtain⟨b,off,rfl,hbl,hc⟩:=HPr.at (HPr.keep hl hBi (Nat.le_refl _)) (by omega)
     obtain⟨c0,c1⟩:=hc i hil
     rw[hp] at c0 c1
     obtain⟨gb,gf,rfl,hgb,hgc⟩:=HI.at (HI.keep hI hLow (Nat.le_refl _)) (by rw[List.length_map];omega)
     have y00:=hgc i (by rw[List.length_map];exact hiR)
     rw[List.getElem_map,hri] at y00
     obtain⟨W2,hW2⟩:∃ W2,wr.alloc (Obj.cells #[.int .i64 p.X,.int .i64 p.Y] 133)=W2:=⟨_,rfl⟩
     have hb2:Low wr W2:=by rw[← hW2];exact (Below.refl _ wr).alloc (Nat.le_refl _) _
     have hsz2:W2.heap.size=wr.heap.size+1:=by rw[← hW2];simp
     have k2:W2.heap[wr.heap.size]?=some (Obj.cells #[.int .i64 p.X,.int .i64 p.Y] 133 (0,0)):=by rw[← hW2];exact _root_.Go.heap_alloc_new wr _
     have a0:W2.cell? ⟨wr.heap.size,0,none⟩=some (.int .i64 p.X):=by rw[Lib.cell_of_heap k2];rfl
     have a1:W2.cell? ⟨wr.heap.size,1,none⟩=some (.int .i64 p.Y):=by rw[Lib.cell_of_heap k2];rfl
     have y0:=Zca hb2 hgb y00
     have hLow2:Low W1 W2:=Below.trans hLow (Below.mono hb2 (Below.size hLow))
     have hO2:=Zin hO hb2
     have i1:0≤(i:Int):=by omega
     have i2:(i:Int)<(l.length:Int):=by omega
     have hs0:=Below.size hLow2
     have hLb:X.length≤1048576:=by omega
     clear hc hgc hp hri HX y00 k2 hO
     by_cases hrm:ri=m
     ·subst hrm
      have e1:((ri:Int) == (ri:Int))=true:=by simp
      by_cases hXe:X=[]
      ·subst hXe
       have HX2:Hid (([]++[p])++pick (ri-1) (some p) (l.drop (i+1)) (R.drop (i+1))=L):=(by
        show _=_
        rw[← HXP.out,if_pos ⟨rfl,by simp⟩]
        rfl)
       have hXl2:1≤L.length:=by rw[← HX2.out];simp
       clear HXP
       go_wp2_with fail
       go_big_quiet (fail)
       have hOd:(W2.drewN nq).ownsRow W1.heap.size 133 2 (.slice oo 0 oc) 0 []:=hO2
       have hLd:Low W1 (W2.drewN nq):=Below.dN hLow2 nq
       have c0':(W2.drewN nq).cell? ⟨wr.heap.size,0,none⟩=some (.int .i64 p.X):=a0
       have c1':(W2.drewN nq).cell? ⟨wr.heap.size,1,none⟩=some (.int .i64 p.Y):=a1
       generalize W2.drewN nq=wd at hOd hLd c0' c1' ⊢
       have hsd:=Below.size hLd
       clear c0 c1 y0 a0 a1 hW2
       go_wp2_with (at_builtin;refine Zoe _ (by kernel_rfl) (.tmp 50) (.tmp 52) 129 133 (.agg #[.int .i64 0,.int .i64 0]) 2 16 rfl Tryz.underlying129 infoPr rfl (by decide) (by decide) W1.heap.size (.slice oo 0 oc) 0 [] (by kernel_rfl) (hOd.alloc _) (.slice (some ⟨wd.heap.size,0,none⟩) 1 1) 1 (prcells [p]) (by kernel_rfl) (ZhL wd _ _ 1 1 (by decide)) rfl (Zja _) (by omega) (by simp;omega) ?_)
       intro v3 w3 hown3 hgrow3
       have hB3:Low W1 w3:=(Below.alloc hLd (Below.size hLd) _).grown hgrow3 (by simp;omega) (fun _ hj=>owns_ge hOd hj)
       obtain⟨oo3,oc3,rfl⟩:=(holds_of hown3).form
       clear hgrow3
       go_wp2
       go_roundw
       case rel=>exact⟨i+1,ri-1,[p],oo3,oc3,by omega,by omega,by rw[show ((ri-1:Nat):Int)=(ri:Int)-1 by omega],rfl,by go_num,hB3,by simp;omega,by simpa using hown3,HX2⟩
       case measure=>simp[intOf];omega
      ·have hXp:0<X.length:=List.length_pos_iff.2 hXe
       obtain⟨N1,hN1⟩:∃ N1,X.length=N1+1:=⟨X.length-1,by omega⟩
       obtain⟨bo,fo,rfl,hbo,hco⟩:=HPr.at (holds_of hO2) hXp
       obtain⟨q,hq⟩:∃ q,X[N1]=q:=⟨_,rfl⟩
       obtain⟨o0,o1⟩:=hco N1 (by omega)
       rw[hq] at o0 o1
       have hlast:X.getLast?=some q:=by rw[List.getLast?_eq_getElem?,hN1,Nat.add_sub_cancel,List.getElem?_eq_getElem (by omega),hq]
       have HXQ:Hid (X++(if ab p q then p::pick (ri-1) (some p) (l.drop (i+1)) (R.drop (i+1)) else pick ri X.getLast? (l.drop (i+1)) (R.drop (i+1)))=L):=(by
        show _=_
        rw[← HXP.out]
        congr 1
        by_cases hpq:ab p q
        ·rw[if_pos hpq,if_pos ⟨rfl,fun q' h=>by rw[hlast] at h;cases h;exact hpq⟩]
        ·rw[if_neg hpq,if_neg (fun h=>hpq (h.2 q hlast))])
       have HN1:Hid (X.length=N1+1):=hN1
       rw[hN1] at hO2 hXl hLb ⊢
       have hcs:∀ u:World,Low W2 u→u.cell? ⟨wr.heap.size,0,none⟩=some (.int .i64 p.X)∧u.cell? ⟨wr.heap.size,1,none⟩=some (.int .i64 p.Y)∧u.cell? ⟨bo,fo+N1 * 2,none⟩=some (.int .i64 q.X)∧u.cell? ⟨bo,fo+N1 * 2+1,none⟩=some (.int .i64 q.Y)∧u.cell? ⟨gb,gf+i,none⟩=some (.int .i64 ri):=fun u hu=>⟨Zca hu (by omega) a0,Zca hu (by omega) a1,Zca hu hbo o0,Zca hu hbo o1,Zca hu (by omega) y0⟩
       have n1:0≤(N1:Int):=by omega
       have n2:(N1:Int)<(N1:Int)+1:=by omega
       have n3:((N1:Int)+1 == 0)=false:=by simp;omega
       have n4:IntKind.i64.wrap ((N1:Int)+1-1)=(N1:Int):=by rw[IntKind.wrap_i64];omega
       have n5:IntKind.i64.wrap (N1:Int)=(N1:Int):=by rw[IntKind.wrap_i64];omega
       have n6:(N1:Int)+1-1=(N1:Int):=by omega
       have n7:(N1:Int)<((N1+1:Nat):Int):=by omega
       have hLw:Low W2 W2:=Below.refl _ _
       clear HXP hXe hXp hN1 hco hq hlast
       by_cases hab:ab p q
       ·have HAB:Hid (decide (ab p q)=true):=decide_eq_true hab
        have HX2:Hid ((X++[p])++pick (ri-1) (some p) (l.drop (i+1)) (R.drop (i+1))=L):=(by
         show _=_
         rw[← HXQ.out,if_pos hab]
         simp)
        have hXl2:N1+1+1≤L.length:=by rw[← HX2.out,← HN1.out];simp
        clear HXQ hab
        go_wp2_with fail
        go_region_held3 (fun w'=>w'.cell? ⟨wr.heap.size,0,none⟩=some (.int .i64 p.X)∧w'.cell? ⟨wr.heap.size,1,none⟩=some (.int .i64 p.Y)∧w'.cell? ⟨bo,fo+N1 * 2,none⟩=some (.int .i64 q.X)∧w'.cell? ⟨bo,fo+N1 * 2+1,none⟩=some (.int .i64 q.Y)∧w'.cell? ⟨gb,gf+i,none⟩=some (.int .i64 ri)∧Low W2 w') (go_keep)
         (first | (go_at_call 107;refine (Zbc p q true W2 _ HAB (by first | assumption | (simp[*];done))).mono ?_;rintro e wd ⟨rfl,hlow⟩;obtain⟨g0,g1,g2,g3,g4⟩:=hcs wd hlow))
        have hOd:wd.ownsRow W1.heap.size 133 2 (.slice (some ⟨bo,fo,none⟩) (N1+1) oc) (N1+1) (prcells X):=Zin hO2 hlow
        have hLd:Low W1 wd:=Below.trans hLow2 (Below.mono hlow (Below.size hLow2))
        have hsd:=Below.size hLd
        clear c0 c1 o0 o1 y0 a0 a1 hcs g2 g3 g4 n1 n2 n3 n4 n5 n6 n7 hW2
        go_wp2_with (at_builtin;refine Zoe _ (by kernel_rfl) (.tmp 50) (.tmp 52) 129 133 (.agg #[.int .i64 0,.int .i64 0]) 2 16 rfl Tryz.underlying129 infoPr rfl (by decide) (by decide) W1.heap.size (.slice (some ⟨bo,fo,none⟩) (N1+1) oc) (N1+1) (prcells X) (by kernel_rfl) (hOd.alloc _) (.slice (some ⟨wd.heap.size,0,none⟩) 1 1) 1 (prcells [p]) (by kernel_rfl) (ZhL wd _ _ 1 1 (by decide)) rfl (Zja _) (by omega) (by simp;omega) ?_)
        intro v3 w3 hown3 hgrow3
        have hB3:Low W1 w3:=(Below.alloc hLd (Below.size hLd) _).grown hgrow3 (by simp;omega) (fun _ hj=>owns_ge hOd hj)
        rw[← ZiW] at hown3
        obtain⟨oo3,oc3,rfl⟩:=(holds_of hown3).form
        clear hgrow3
        go_wp2
        go_roundw
        case rel=>exact⟨i+1,ri-1,X++[p],oo3,oc3,by omega,by omega,by rw[show ((ri-1:Nat):Int)=(ri:Int)-1 by omega],by rw[List.length_append,HN1.out];rfl,by go_num,hB3,by rw[List.length_append,HN1.out];simp;omega,by rw[List.length_append,HN1.out];exact hown3,by rw[List.getLast?_concat];exact HX2⟩
        case measure=>simp[intOf];omega
       ·have HAB:Hid (decide (ab p q)=false):=decide_eq_false hab
        have HX2:Hid (X++pick ri X.getLast? (l.drop (i+1)) (R.drop (i+1))=L):=(by
         show _=_
         rw[← HXQ.out,if_neg hab])
        clear HXQ hab
        go_wp2_with fail
        go_region_held3 (fun w'=>w'.cell? ⟨wr.heap.size,0,none⟩=some (.int .i64 p.X)∧w'.cell? ⟨wr.heap.size,1,none⟩=some (.int .i64 p.Y)∧w'.cell? ⟨bo,fo+N1 * 2,none⟩=some (.int .i64 q.X)∧w'.cell? ⟨bo,fo+N1 * 2+1,none⟩=some (.int .i64 q.Y)∧w'.cell? ⟨gb,gf+i,none⟩=some (.int .i64 ri)∧Low W2 w') (go_keep)
         (first | (go_at_call 107;refine (Zbc p q false W2 _ HAB (by first | assumption | (simp[*];done))).mono ?_;rintro e wd ⟨rfl,hlow⟩;obtain⟨g0,g1,g2,g3,g4⟩:=hcs wd hlow))
        have hOd:wd.ownsRow W1.heap.size 133 2 (.slice (some ⟨bo,fo,none⟩) (N1+1) oc) (N1+1) (prcells X):=Zin hO2 hlow
        have hLd:Low W1 wd:=Below.trans hLow2 (Below.mono hlow (Below.size hLow2))
        clear c0 c1 o0 o1 y0 a0 a1 hcs g0 g1 g2 g3 g4 hW2
        go_wp2
        go_roundw
        case rel=>exact⟨i+1,ri,X,_,_,by omega,hm,rfl,by rw[HN1.out],by go_num,hLd,by rw[HN1.out];exact hXl,by rw[HN1.out];exact hOd,HX2⟩
        case measure=>simp[intOf];omega
     ·have e1:((ri:Int) == (m:Int))=false:=by simp;omega
      have HX2:Hid (X++pick m X.getLast? (l.drop (i+1)) (R.drop (i+1))=L):=(by
       show _=_
       rw[← HXP.out,if_neg (fun h=>hrm h.1)])
      clear HXP
      go_wp2_with fail
      go_big_quiet (fail)
      go_wp2
      go_roundw
      case rel=>exact⟨i+1,m,X,oo,oc,by omega,hm,rfl,rfl,by go_num,Below.dN hLow2 _,hXl,hO2,HX2⟩
      case measure=>simp[intOf];omega
    ·have e:X=L:=by
      have:=HX.out
      rw[show l.drop i=[] by rw[List.drop_eq_nil_iff];omega] at this
      simpa [pick] using this
     subst e
     go_wp2
     go_ret
     exact⟨_,rfl,Zij hO hB1.size,hB1.trans (Below.mono hLow hB1.size)⟩
end

section
open Go.ChangeShapes Go.WideShapes Go.ChangeAt Go.RowKit
theorem own:ownKnob Tryz.prog.godebug=none:=by kernel_rfl
def w64 (z:Int):Prop:=-9223372036854775808≤z∧z≤9223372036854775807
end

section
open Go.RowKit Go.Maps
theorem ZlV (c a:Int) (t:List Int):tm c (t++[a])=tm c t+if a=c then 1 else 0:=by
 induction t with
 | nil=>simp[tm]
 | cons b t ih=>rw[List.cons_append,tm,tm,ih];omega
theorem ZlX {c:Int} {t:List Int}:tm c t=0↔c∉t:=by
 induction t with
 | nil=>simp[tm]
 | cons b t ih =>
  rw[tm,List.mem_cons]
  by_cases h:b=c
  ·simp[h]
  ·rw[if_neg h,Nat.zero_add,ih]
   constructor
   ·rintro h1 (h2 | h2)
    ·exact h h2.symm
    ·exact h1 h2
   ·exact fun h1 h2=>h1 (.inr h2)
theorem Zjf {c i j:Int} {t:List Int} (h:tm c t=0):ps c i j t=[]:=List.eq_nil_of_length_eq_zero (by rw[Zjd,h])
theorem Zjg {c i j:Int} {t:List Int} (h:tm c t=1):ps c i j t=[⟨i,j+(t.idxOf c:Nat)⟩]:=by
 induction t generalizing j with
 | nil=>simp[tm] at h
 | cons b t ih =>
  rw[tm] at h
  rw[ps]
  by_cases e:b=c
  ·rw[if_pos e] at h ⊢
   rw[Zjf (by omega),e,List.idxOf_cons_self]
   simp
  ·rw[if_neg e] at h ⊢
   have eb:(b == c)=false:=by simpa using e
   rw[ih (by omega),List.idxOf_cons,eb]
   simp
   omega
theorem ZlU {x:List Int} {i:Nat} (hi:i<x.length):0<tm x[i] x:=by
 rcases Nat.eq_zero_or_pos (tm x[i] x) with h | h
 ·exact absurd (List.getElem_mem hi) (ZlX.1 h)
 ·exact h
theorem ZlW {c:Int} {t:List Int} {i j:Nat} (hij:i<j) (hj:j<t.length) (h1:t[i]=c) (h2:t[j]=c):2≤tm c t:=by
 induction t generalizing i j with
 | nil=>simp at hj
 | cons b t ih =>
  rw[tm]
  cases j with
  | zero=>omega
  | succ j =>
   cases i with
   | zero =>
    have h3:t[j]'(by simpa using hj)=c:=by simpa using h2
    have:=ZlU (x:=t) (i:=j) (by simpa using hj)
    rw[h3] at this
    rw[if_pos (by simpa using h1)]
    omega
   | succ i =>
    have:=ih (i:=i) (j:=j) (by omega) (by simpa using hj) (by simpa using h1) (by simpa using h2)
    omega
theorem Zft {x:List Int} {i:Nat} (hi:i<x.length) (h:tm x[i] x=1):x.idxOf x[i]=i:=by
 have hk:x.idxOf x[i]<x.length:=List.idxOf_lt_length_of_mem (List.getElem_mem hi)
 have hv:x[x.idxOf x[i]]=x[i]:=List.getElem_idxOf hk
 rcases Nat.lt_trichotomy (x.idxOf x[i]) i with q | q | q
 ·have:=ZlW q hi hv rfl
  omega
 ·exact q
 ·have:=ZlW q hk rfl hv
  omega
def pf (t:List Int) (c:Int):Option Int:=if tm c t=0 then none else if tm c t=1 then some (t.idxOf c:Nat) else some (-1)
theorem Zix (t:List Int) (a c:Int):pf (t++[a]) c=if a=c then some (if (pf t a).isSome then -1 else (t.length:Int)) else pf t c:=by
 unfold pf
 rw[ZlV]
 by_cases e:a=c
 ·subst e
  rw[if_pos rfl,if_pos rfl,if_neg (by omega)]
  by_cases h0:tm a t=0
  ·rw[if_pos (by omega),if_pos h0,List.idxOf_append,if_neg (ZlX.1 h0)]
   simp
  ·rw[if_neg (by omega),if_neg h0]
   split<;>simp
 ·rw[if_neg e,if_neg e,Nat.add_zero]
  by_cases h0:tm c t=0
  ·rw[if_pos h0,if_pos h0]
  ·have hm:c∈t:=by
    by_cases q:c∈t
    ·exact q
    ·exact absurd (ZlX.2 q) h0
   rw[if_neg h0,if_neg h0,List.idxOf_append,if_pos hm]
structure Plc {H:Type} (D:DataW H) (t:List Int):Prop where
 tidy:Tidy D
 has:∀ c,Maps.has D (.int .i64 c)=(pf t c).isSome
 at_:∀ c,D.atKey (.int .i64 c) (.lit (.int .i64 0))=.lit (.int .i64 ((pf t c).getD 0))
theorem Plc.nil {H:Type}:Plc (H:=H) (.map []) []:=⟨tidy_empty,fun _=>rfl,fun _=>by rw[atKey_of_not_has rfl];rfl⟩
theorem Plc.put {H:Type} {D:DataW H} {t:List Int} (h:Plc D t) (a:Int):Plc (D.put (.int .i64 a) (.lit (.int .i64 (if (pf t a).isSome then -1 else (t.length:Int))))) (t++[a]):=by
 have hk:WideAt.IsKeyLit (.int .i64 a):=trivial
 have hne:∀ {g:Int},a≠g→(Lit.int .i64 g)≠.int .i64 a:=fun hg e=>hg (by cases e;rfl)
 refine⟨h.tidy.put hk _,fun c=>?_,fun c=>?_⟩
 ·rw[Zix]
  by_cases e:a=c
  ·subst e
   rw[has_put_same h.tidy.isMap hk,if_pos rfl];rfl
  ·rw[has_put_other (hne e),h.has,if_neg e]
 ·rw[Zix]
  by_cases e:a=c
  ·subst e
   rw[atKey_put_same h.tidy.isMap hk,if_pos rfl];rfl
  ·rw[atKey_put_other (hne e),h.at_,if_neg e]
theorem intKeyed:Keyed Tryz.prog 3:=int_keyed Tryz.underlying3
theorem zeroI2 (w:World):(zeroValue 3).run Tryz.prog w=.ok (.int .i64 0) w:=by kernel_rfl
def Mo (t:List Int) (B:Nat) (w:World):Prop:=∃ D:DataW Unit,w.ownsMap Tryz.prog 3 (plainElem Tryz.prog 3) B t.length D∧Plc D t
section
variable {t:List Int} {B:Nat} {w w':World}
theorem Mo.lt (h:Mo t B w):B<w.heap.size:=by obtain⟨D,hm,_⟩:=h;exact hm.lt
theorem Mo.keep (h:Mo t B w) (hb:w'.heap[B]?=w.heap[B]?):Mo t B w':=by
 obtain⟨D,⟨es,clock,hm,r⟩,hd⟩:=h
 exact⟨D,⟨es,clock,hb.trans hm,r⟩,hd⟩
theorem ZfX {c:Int} (hc:w64 c):keyOf Tryz.prog 3 (.int .i64 c)=some (.int .i64 c):=keyOf_int_mk Tryz.underlying3 (WalkArith.wf_i64 hc)
theorem Mo.look (h:Mo t B w) {c:Int} (hc:w64 c):(Instr.lookup 156 (.map (some B)) (.int .i64 c) true).run Tryz.prog w=.ok (.tuple #[.int .i64 ((pf t c).getD 0),.bool (pf t c).isSome]) w:=by
 obtain⟨D,hm,hd⟩:=h
 obtain⟨v,ps,hr,hv⟩:=hm.look_ok intKeyed Tryz.underlying156 (zeroI2 w) (plainElem_int Tryz.underlying3 (by decide)) (ZfX hc)
 obtain⟨d,rfl,hc',_⟩:=plainElem_int_inv Tryz.underlying3 hv
 have e:=congrArg Prod.fst hc'
 dsimp only at e
 rw[hd.at_] at e
 cases e
 rw[hr,hd.has]
theorem Mo.look1 (h:Mo t B w) {c:Int} (hc:w64 c):(Instr.lookup 156 (.map (some B)) (.int .i64 c) false).run Tryz.prog w=.ok (.int .i64 ((pf t c).getD 0)) w:=by
 obtain⟨D,hm,hd⟩:=h
 obtain⟨d,hr,e,_⟩:=hm.lookup_int intKeyed Tryz.underlying156 Tryz.underlying3 (zeroI2 w) (ZfX hc)
 rw[hd.at_] at e
 cases e
 exact hr
theorem Mo.store (h:Mo t B w) {a:Int} (ha:w64 a) (hl:t.length≤1099511627776) (z:Int) (hz:z=if (pf t a).isSome then -1 else (t.length:Int)) :
  ∃ w',(Instr.mapUpdate 156 (.map (some B)) (.int .i64 a) (.int .i64 z)).run Tryz.prog w=.ok () w'∧Mo (t++[a]) B w'∧w.grownBy w' (some B):=by
 obtain⟨D,hm,hd⟩:=h
 obtain⟨w',hr,ho,ht⟩:=hm.store (val:=.int .i64 z) intKeyed Tryz.underlying156 (by unfold maxLen;omega) (ZfX ha) (plainElem_int Tryz.underlying3 (WalkArith.wf_i64 (by subst hz;split<;>omega)))
 exact⟨w',hr,⟨_,by simpa using ho,by subst hz;exact hd.put a⟩,ht.grown⟩
end
theorem ZiS (x:List Int) (v:Value) (w:World) (hx:HI w v x) (hxl:x.length≤1048576) (hw:∀ c∈x,w64 c) :
  Calls Tryz.prog 108 #[v] w fun e w'=>∃ B,e=.returned (.map (some B))∧Mo x B w'∧w.heap.size≤B∧Below w.heap.size w w':=by
 obtain⟨xo,xc,rfl⟩:=Holds.form hx
 have hmm:=@run_makeMap Tryz.prog
 have HW:Hid (∀ c∈x,w64 c):=hw
 clear hw
 go_enter Tryz.func108,Tryz.ntmps108
 go_wp2
 go_loopw [11] (fun iv wr=>∃ (i:Nat),i≤x.length∧iv=.int .i64 i∧Mo (x.take i) w.heap.size wr∧Below w.heap.size w wr) (fun iv _=>x.length-(intOf iv).toNat)
 case atStart=>exact⟨0,Nat.zero_le _,rfl,⟨.map [],World.ownsMap_made w _ _ _,Plc.nil⟩,(Below.refl _ w).alloc (Nat.le_refl _) _⟩
 case round =>
  clear hmm
  obtain⟨i,hi,rfl,hM,hB⟩:=hrel
  have hs:=hB.size
  by_cases hil:i<x.length
  ·obtain⟨b,off,rfl,_,hc⟩:=HI.at (HI.keep hx hB (Nat.le_refl _)) (by omega)
   have c0:=hc i hil
   obtain⟨z,hz⟩:∃ z,x[i]=z:=⟨_,rfl⟩
   rw[hz] at c0
   have hzw:w64 z:=by rw[← hz];exact HW.out _ (List.getElem_mem hil)
   have htl:(x.take i).length=i:=by simp;omega
   have HT:Hid (x.take (i+1)=x.take i++[z]):=(by show _=_;rw[List.take_succ_eq_append_getElem hil,hz])
   have hlk:=hM.look hzw
   clear hc hz
   have i1:0≤(i:Int):=by omega
   have i2:(i:Int)<(x.length:Int):=by omega
   cases hp:pf (x.take i) z with
   | none =>
    obtain⟨w2,hst,hM2,hg2⟩:=hM.store hzw (by omega) (i:Int) (by rw[hp,htl];rfl)
    have hB2:Below w.heap.size w w2:=hB.grown hg2 hs (fun j hj=>by cases hj;exact Nat.le_refl _)
    rw[hp] at hlk
    simp only[Option.getD_none,Option.isSome_none] at hlk
    go_wp2
    go_roundw
    case rel=>exact⟨i+1,by omega,by go_num,by rw[HT.out];exact hM2,hB2⟩
    case measure=>simp[intOf];omega
   | some q =>
    obtain⟨w2,hst,hM2,hg2⟩:=hM.store hzw (by omega) (-1) (by rw[hp];rfl)
    have hB2:Below w.heap.size w w2:=hB.grown hg2 hs (fun j hj=>by cases hj;exact Nat.le_refl _)
    rw[hp] at hlk
    simp only[Option.getD_some,Option.isSome_some] at hlk
    go_wp2
    go_roundw
    case rel=>exact⟨i+1,by omega,by go_num,by rw[HT.out];exact hM2,hB2⟩
    case measure=>simp[intOf];omega
  ·obtain rfl:i=x.length:=by omega
   rw[List.take_length] at hM
   go_wp2
   go_ret
   exact⟨_,rfl,hM,Nat.le_refl _,hB⟩
end

section
open Go.RowKit Go.Maps
theorem Zmq (x y:List Int) (i:Nat) (hi:i<x.length):(if tm x[i] x=1∧tm x[i] y=1 then ps x[i] i 0 y else [])=match pf y x[i] with
  | none=>[]
  | some j=>if j≠-1∧(pf x x[i]).getD 0=(i:Int) then [⟨i,j⟩] else []:=by
 have h0:=ZlU hi
 have hx:(pf x x[i]).getD 0=(i:Int)↔tm x[i] x=1:=by
  unfold pf
  rw[if_neg (by omega)]
  by_cases h1:tm x[i] x=1
  ·rw[if_pos h1]
   simp[h1,Zft hi h1]
  ·rw[if_neg h1]
   simp[h1]
 simp only[hx]
 unfold pf
 by_cases h1:tm x[i] y=0
 ·rw[if_pos h1,if_neg (by omega)]
 ·rw[if_neg h1]
  by_cases h2:tm x[i] y=1
  ·rw[if_pos h2]
   dsimp only
   by_cases h3:tm x[i] x=1
   ·rw[if_pos ⟨h3,h2⟩,if_pos ⟨by omega,h3⟩,Zjg h2]
    simp
   ·rw[if_neg (fun h=>h3 h.1),if_neg (fun h=>h3 h.2)]
  ·rw[if_neg h2,if_neg (fun h=>h2 h.2)]
   simp
theorem ZaU (x y:List Int) (vx vy:Value) (w:World) (hx:HI w vx x) (hy:HI w vy y) (hxl:x.length≤1048576) (hyl:y.length≤1048576) (hwx:∀ c∈x,w64 c) (hwy:∀ c∈y,w64 c) (L:List Pr) (hL:Hid (unq x y=L)) :
  Calls Tryz.prog 85 #[vx,vy] w fun e w'=>∃ v',e=.returned v'∧HPr w' v' L∧Below w.heap.size w w':=by
 obtain⟨xo,xc,rfl⟩:=Holds.form hx
 obtain⟨yo,yc,rfl⟩:=Holds.form hy
 have hLl:L.length≤1048576:=by rw[← hL.out];exact Nat.le_trans (Zms x y 0 x) hxl
 have HWX:Hid (∀ c∈x,w64 c):=hwx
 have HWY:Hid (∀ c∈y,w64 c):=hwy
 clear hwx hwy
 go_enter Tryz.func85,Tryz.ntmps85
 go_wp2_with fail
 refine (ZiS x _ w hx hxl HWX.out).mono ?_
 rintro e w1 ⟨Bx,rfl,hMx,hbx,hB1⟩
 go_wp2_with fail
 refine (ZiS y _ w1 (HI.keep hy hB1 (Nat.le_refl _)) hyl HWY.out).mono ?_
 rintro e W1 ⟨By,rfl,hMy,hby,hB2⟩
 have hMx2:Mo x Bx W1:=hMx.keep (hB2.block Bx hMx.lt)
 have hBW:Below w.heap.size w W1:=hB1.trans (Below.mono hB2 hB1.size)
 have hsW:=hBW.size
 clear hMx hB1 hB2
 go_wp2
 go_loopw [7,18] (fun lv iv wr=>∃ (i:Nat) (Z:List Pr) (zo:Option Addr) (zc:Nat),i≤x.length∧iv=.int .i64 i∧lv=.slice zo Z.length zc∧Z.length≤L.length∧wr.ownsRow W1.heap.size 133 2 (.slice zo Z.length zc) Z.length (prcells Z)∧Low W1 wr∧Hid (Z++uq x y i (x.drop i)=L)) (fun _ iv _=>x.length-(intOf iv).toNat)
 case atStart=>exact⟨0,[],none,0,Nat.zero_le _,rfl,rfl,Nat.zero_le _,World.ownsRow_nil _ _ _ _,Below.refl _ _,hL⟩
 case round =>
  obtain⟨i,Z,zo,zc,hi,rfl,rfl,hZl,hO,hLow,HZ⟩:=hrel
  have hs:=Below.size hLow
  by_cases hil:i<x.length
  ·have hBr:Below w.heap.size w wr:=hBW.trans (Below.mono hLow hsW)
   obtain⟨b,off,rfl,_,hc⟩:=HI.at (HI.keep hx hBr (Nat.le_refl _)) (by omega)
   have c0:=hc i hil
   have hua:=Zmq x y i hil
   obtain⟨z,hz⟩:∃ z,x[i]=z:=⟨_,rfl⟩
   rw[hz] at c0 hua
   have hzw:w64 z:=by rw[← hz];exact HWX.out _ (List.getElem_mem hil)
   have HZ2:Hid (Z++((match pf y z with
    | none=>[]
    | some j=>if j≠-1∧(pf x z).getD 0=(i:Int) then [⟨i,j⟩] else [])++uq x y (i+1) (x.drop (i+1)))=L):=(by
    show _=_
    have:=HZ.out
    rw[List.drop_eq_getElem_cons hil,uq,hz] at this
    rw[← hua]
    exact this)
   have hlk:=(hMy.keep (Below.block hLow By hMy.lt)).look hzw
   have hlk1:=(hMx2.keep (Below.block hLow Bx hMx2.lt)).look1 hzw
   obtain⟨px,hpx⟩:∃ p,(pf x z).getD 0=p:=⟨_,rfl⟩
   rw[hpx] at HZ2 hlk1
   clear hc hz HZ hua hpx
   have i1:0≤(i:Int):=by omega
   have i2:(i:Int)<(x.length:Int):=by omega
   cases hp:pf y z with
   | none =>
    rw[hp] at hlk HZ2
    simp only[Option.getD_none,Option.isSome_none] at hlk
    have HZ3:Hid (Z++uq x y (i+1) (x.drop (i+1))=L):=HZ2
    clear HZ2 hp
    go_wp2
    go_roundw
    case rel=>exact⟨i+1,Z,zo,zc,by omega,by go_num,rfl,hZl,hO,hLow,by simpa using HZ3⟩
    case measure=>simp[intOf];omega
   | some j =>
    rw[hp] at hlk HZ2
    simp only[Option.getD_some,Option.isSome_some] at hlk
    dsimp only at HZ2
    clear hp
    by_cases hj:j=-1
    ·have e1:(j != -1)=false:=by simp[hj]
     have HZ3:Hid (Z++uq x y (i+1) (x.drop (i+1))=L):=(by
      show _=_
      have:=HZ2.out
      rw[if_neg (fun h=>h.1 hj)] at this
      exact this)
     clear HZ2 hj
     go_wp2
     go_roundw
     case rel=>exact⟨i+1,Z,zo,zc,by omega,by go_num,rfl,hZl,hO,hLow,by simpa using HZ3⟩
     case measure=>simp[intOf];omega
    ·have e1:(j != -1)=true:=by simp[hj]
     by_cases hpi:px=(i:Int)
     ·have e2:(px == (i:Int))=true:=by simp[hpi]
      have HZ3:Hid ((Z++[⟨i,j⟩])++uq x y (i+1) (x.drop (i+1))=L):=(by
       show _=_
       have:=HZ2.out
       rw[if_pos ⟨hj,hpi⟩] at this
       simpa using this)
      have hZl2:Z.length+1≤L.length:=by rw[← HZ3.out];simp
      clear HZ2 hj hpi
      go_wp2_with (at_builtin;refine Zoe _ (by kernel_rfl) (.tmp 41) (.tmp 45) 129 133 (.agg #[.int .i64 0,.int .i64 0]) 2 16 rfl Tryz.underlying129 infoPr rfl (by decide) (by decide) W1.heap.size (.slice zo Z.length zc) Z.length (prcells Z) (by kernel_rfl) (hO.alloc _) (.slice (some ⟨wr.heap.size,0,none⟩) 1 1) 1 (prcells [⟨i,j⟩]) (by kernel_rfl) (ZhL wr _ _ 1 1 (by decide)) rfl (Zja _) (by omega) (by simp;omega) ?_)
      intro v3 w3 hown3 hgrow3
      have hB3:Low W1 w3:=(Below.alloc hLow (Below.size hLow) _).grown hgrow3 (by simp;omega) (fun _ hj=>owns_ge hO hj)
      rw[← ZiW] at hown3
      obtain⟨oo3,oc3,rfl⟩:=(holds_of hown3).form
      clear hgrow3
      go_wp2
      go_roundw
      case rel=>exact⟨i+1,Z++[⟨i,j⟩],oo3,oc3,by omega,by go_num,by simp,by simp;omega,by simpa using hown3,hB3,by simpa using HZ3⟩
      case measure=>simp[intOf];omega
     ·have e2:(px == (i:Int))=false:=by simp[hpi]
      have HZ3:Hid (Z++uq x y (i+1) (x.drop (i+1))=L):=(by
       show _=_
       have:=HZ2.out
       rw[if_neg (fun h=>hpi h.2)] at this
       exact this)
      clear HZ2 hj
      go_wp2
      go_roundw
      case rel=>exact⟨i+1,Z,zo,zc,by omega,by go_num,rfl,hZl,hO,hLow,by simpa using HZ3⟩
      case measure=>simp[intOf];omega
  ·obtain rfl:i=x.length:=by omega
   have:Z=L:=by
    have:=HZ.out
    rw[List.drop_length] at this
    simpa [uq] using this
   subst this
   go_wp2
   go_ret
   exact⟨_,rfl,holds_of hO,hBW.trans (Below.mono hLow hsW)⟩
end

end Go.Proofs.YtcnjephlmcnodaaGreatDoor
