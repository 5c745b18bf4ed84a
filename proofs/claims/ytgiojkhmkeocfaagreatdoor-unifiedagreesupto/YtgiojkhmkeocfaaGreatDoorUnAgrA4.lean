/-
  Texts that belong together, joined: EdWalk, PcLs, EdDrew, EdRChk, HuRow, HuRf1, HuRf2, HuRf3, PcReg, HuRf4, HuRf5, HuRf6, HuRf7, HuOwn, HuC1, HuIv, PaMath, PaRow, PaCp, EdMk, MiMath, MiLen.
-/
import Derived.Test.YtgiojkhmkeocfaaGreatDoorUnAgrA3
import Derived.Deep.RegionHeld3
import Derived.Laws.Rows
import Derived.Deep.CutRange
import Derived.Deep.DeepCutAuto
import Derived.Laws.CopyOwn
import Derived.Lib.Overlaps
import Derived.Lib.AppendZerosOnto

set_option maxHeartbeats 16000000
set_option maxRecDepth 100000
namespace Go.Proofs.YtgiojkhmkeocfaaGreatDoor

section
open Go.RowKit
theorem Zqu (w:World) (T E ty:TypeId) (z:Value) (size bytes:Nat) (hT:Tryz.prog.underlying T=some (.slice E)) (hinfo:(Tryz.prog.info? E).map (fun i=>(i.zero,i.size,i.bytes))=some (some z,size,bytes)) (hz1:z.cells.size=size) (hsz:0<size) (hby:bytes≤32)
  (base:Nat) (v:Value) (k:Nat) (xs:List Value) (hown:w.ownsRow base E size v k xs) (vx:Value) (m:Nat) (news:List Value) (hh:Holds w vx m news) (hl:news.length=m * size)
  (h1:∀ u∈news,u.oneCell'=true) (hk:k+m≤4398046511104) (hbase:base≤w.heap.size) :
  ∃ v' w',(Builtin.append_ #[T,T] ty #[v,vx]).run Tryz.prog w=.ok v' w'∧w'.ownsRow base E size v' (k+m) (xs++news)∧w.grownBy w' v.ownBlock∧(v'.ownBlock=v.ownBlock∨v'.ownBlock=some w.heap.size):=by
 obtain⟨i0,hi0,hz0,hzs,hz2⟩:=info_parts hinfo
 rcases hh with ⟨rfl,rfl,rfl⟩ | ⟨ad,c,rfl,_,hc⟩
 ·exact⟨v,w,run_append_owned_none (P:=Tryz.prog) (w:=w) base T ty E i0 size hT hi0 v k xs hown,by simpa using hown,World.grownBy.refl _ _,.inl rfl⟩
 ·obtain⟨v',w',hr,h2,h3,_,h5⟩:=run_append_own_at (P:=Tryz.prog) w base T ty E i0 z size bytes hT hi0 hz0 hzs hz2 hz1 hsz v k xs hown ad m c news hl hc h1 (by unfold maxLen;omega) (by
   have:(k+m) * bytes≤(k+m) * 32:=Nat.mul_le_mul_left _ hby
   omega) hbase
  exact⟨v',w',hr,h2,h3,h5⟩
theorem ZuW {ops:Array Oper} {rest:List Oper} {o:Oper} {a:Act} {Q:Exit→Act→World→Prop} (w:World) (hw:Region.wanted o (yielded ops a.tmps)=true) (s x:Operand) (T E:TypeId) (z:Value) (size bytes:Nat)
  (ho:o.op=.call { callee:=.builtin .append,args:=#[s,x],argTypes:=#[T,T] }) (hT:Tryz.prog.underlying T=some (.slice E)) (hinfo:(Tryz.prog.info? E).map (fun i=>(i.zero,i.size,i.bytes))=some (some z,size,bytes)) (hz1:z.cells.size=size) (hsz:0<size) (hby:bytes≤32)
  (base:Nat) (v:Value) (k:Nat) (xs:List Value) (hs:a.eval s=v) (hown:w.ownsRow base E size v k xs) (vx:Value) (m:Nat) (news:List Value) (hx:a.eval x=vx) (hh:Holds w vx m news) (hl:news.length=m * size)
  (h1:∀ u∈news,u.oneCell'=true) (hk:k+m≤4398046511104) (hbase:base≤w.heap.size)
  (h:∀ v' w',w'.ownsRow base E size v' (k+m) (xs++news)→w.grownBy w' v.ownBlock→wpList Tryz.prog ops Q rest (a.put o.dst v') w'):wpList Tryz.prog ops Q (o::rest) a w:=by
 refine wpList_step fun K hK=>?_
 rw[if_pos hw]
 obtain⟨v',w',hr,h2,h3,_⟩:=Zqu w T E o.type z size bytes hT hinfo hz1 hsz hby base v k xs hown vx m news hh hl h1 hk hbase
 unfold Oper.wp
 simp[execOp,ho,resolve,invoke,builtin,hs,hx,hr,Result.andThen]
 exact hK _ _ (h v' w' h2 h3)
theorem Zsp {ops:Array Oper} {o:Oper} {a:Act} {K:Act→World→Prop} {Q:Exit→Act→World→Prop} {X:Prop} (w:World) (hgd:o.guard=none) (s x:Operand) (T E:TypeId) (z:Value) (size bytes:Nat)
  (ho:o.op=.call { callee:=.builtin .append,args:=#[s,x],argTypes:=#[T,T] }) (hT:Tryz.prog.underlying T=some (.slice E)) (hinfo:(Tryz.prog.info? E).map (fun i=>(i.zero,i.size,i.bytes))=some (some z,size,bytes)) (hz1:z.cells.size=size) (hsz:0<size) (hby:bytes≤32)
  (base:Nat) (v:Value) (k:Nat) (xs:List Value) (hs:a.eval s=v) (hown:w.ownsRow base E size v k xs) (vx:Value) (m:Nat) (news:List Value) (hx:a.eval x=vx) (hh:Holds w vx m news) (hl:news.length=m * size)
  (h1:∀ u∈news,u.oneCell'=true) (hk:k+m≤4398046511104) (hbase:base≤w.heap.size)
  (h:∀ v' w',w'.ownsRow base E size v' (k+m) (xs++news)→w.grownBy w' v.ownBlock→K (a.put o.dst v') w') :
  if Region.wanted o (yielded ops a.tmps)=true then Oper.wp Tryz.prog o a w K Q else X:=by
 have hw:Region.wanted o (yielded ops a.tmps)=true:=by simp[Region.wanted,hgd]
 rw[if_pos hw]
 obtain⟨v',w',hr,h2,h3,_⟩:=Zqu w T E o.type z size bytes hT hinfo hz1 hsz hby base v k xs hown vx m news hh hl h1 hk hbase
 unfold Oper.wp
 simp[execOp,ho,resolve,invoke,builtin,hs,hx,hr,Result.andThen]
 exact h v' w' h2 h3
theorem ZnI {w w':World} {base:Nat} {e:TypeId} {s:Nat} {v:Value} {n:Nat} {xs:List Value} (h:w.ownsRow base e s v n xs) (hk:Below w.heap.size w w'):w'.ownsRow base e s v n xs:=by
 refine⟨h.1,?_⟩
 rcases h.2 with h1 | ⟨g,cap,cur,q1,q2,q3,q4⟩
 ·exact .inl h1
 ·exact .inr ⟨g,cap,cur,q1,q2,(hk.block g (Array.getElem?_eq_some_iff.1 q3).1).trans q3,q4⟩
theorem ZnH {w:World} {base:Nat} {e:TypeId} {s:Nat} {v:Value} {n:Nat} {xs:List Value} (h:w.ownsRow base e s v n xs) {j:Nat} (hj:v.ownBlock=some j):base≤j:=by
 rcases h.2 with ⟨rfl,_⟩ | ⟨g,cap,cur,rfl,hb,_⟩
 ·cases hj
 ·simp[Value.ownBlock] at hj;omega
def Low (W w:World):Prop:=Below W.heap.size W w
theorem ZkG (W w:World):Low W w.drew↔Low W w:=⟨fun h=>⟨h.os,h.tape,h.output,h.size,h.block⟩,fun h=>Below.dN h 1⟩
theorem ZkF {W w:World} (o:Obj) (h:Low W w):Low W (w.alloc o):=Below.alloc h (Below.size h) o
structure St (W:World) (e:TypeId) (s:Nat) (v:Value) (k:Nat) (xs:List Value) (w:World):Prop where
 own:w.ownsRow W.heap.size e s v k xs
 low:Below W.heap.size W w
theorem ZvC (W:World) (e:TypeId) (s:Nat) (v:Value) (k:Nat) (xs:List Value) (w:World):St W e s v k xs w.drew↔St W e s v k xs w :=
 ⟨fun h=>⟨h.own,⟨h.low.os,h.low.tape,h.low.output,h.low.size,h.low.block⟩⟩,fun h=>⟨h.own,Below.dN h.low 1⟩⟩
theorem Zsl {W:World} {e:TypeId} {s:Nat} {v:Value} {k:Nat} {xs:List Value} {w:World} (o:Obj) (h:St W e s v k xs w):St W e s v k xs (w.alloc o):=⟨h.own.alloc o,h.low.alloc h.low.size o⟩
end

section
open Go.RowKit
structure Ls (w:World) (g n:Nat) (Z:List Int) (u:World):Prop where
 low:Below w.heap.size w u
 own:u.ownsRow w.heap.size 3 1 (.slice (some ⟨g,0,none⟩) n n) n (icells Z)
theorem ZkI {w u:World} (h:Low w u) (r:Option Nat):w.grownBy u r:=⟨Below.os h,Below.tape h,Below.output h,Below.size h,fun k hk _=>Below.block h k hk⟩
theorem Zhd (u:World) (g j:Nat) (v:Value):u.grownBy (u.setCell ⟨g,j,none⟩ v) (some g):=⟨rfl,rfl,rfl,(KeepsWalks.setCell u _ v).size,fun k _ hk=>Below.heap_setCell _ _ _ k (fun e=>hk (by rw[e]))⟩
theorem Zhc {w u:World} {r:Option Nat} (h:w.grownBy u r) {B:Nat} (hB:w.heap.size≤B) (j:Nat) (v:Value):w.grownBy (u.setCell ⟨B,j,none⟩ v) r :=
 ⟨h.os,h.tape,h.output,Nat.le_trans h.size (Zhd u B j v).size,fun k hk hn=>(heap_setCell_other u _ k _ (fun e=>by simp at e;omega)).trans (h.block k hk hn)⟩
theorem Zha {w u:World} {r:Option Nat} (h:w.grownBy u r) (k:Nat):w.grownBy (u.drewN k) r:=⟨h.os,h.tape,h.output,h.size,h.block⟩
end

section
open Go.RowKit
attribute [local simp] ZkG
theorem ZaX (w:World) (o o2:Obj):((w.alloc o).alloc o2).heap[w.heap.size+1]?=some o2:=by
 have h:=_root_.Go.heap_alloc_new (w.alloc o) o2
 rw[World.size_alloc] at h
 exact h
end

section
open Go.RowKit
end

section
open Go.RowKit
def mkC (m:Mk):List Value:=[.int .u8 m.sg,.string ⟨m.tx.toArray⟩]
def mkcells (l:List Mk):List Value:=l.flatMap mkC
theorem infoMk:(Tryz.prog.info? 103).map (fun i=>(i.zero,i.size,i.bytes))=some (some (.agg #[.int .u8 0,.string ⟨#[]⟩]),2,24):=by kernel_rfl
theorem infoHk:(Tryz.prog.info? 59).map (fun i=>(i.zero,i.size,i.bytes))=some (some (.agg #[.int .i64 0,.int .i64 0,.int .i64 0,.int .i64 0,.slice none 0 0]),5,56):=by kernel_rfl
theorem ZlK (l:List Mk):(mkcells l).length=l.length * 2:=by
 induction l with
 | nil=>rfl
 | cons c l ih=>simp only[mkcells,List.flatMap_cons,List.length_append,List.length_cons] at ih ⊢;rw[ih];simp[mkC];omega
theorem ZlH (a b:List Mk):mkcells (a++b)=mkcells a++mkcells b:=by simp[mkcells]
theorem ZlL (l:List Mk):∀ u∈mkcells l,u.oneCell'=true:=by
 intro u hu
 simp only[mkcells,List.mem_flatMap,mkC] at hu
 obtain⟨c,_,h⟩:=hu
 simp only[List.mem_cons,List.not_mem_nil,or_false] at h
 rcases h with rfl | rfl<;>rfl
theorem ZlI (l:List Mk) (k:Nat) (hk:k<l.length):(mkcells l)[2 * k]?=some (.int .u8 l[k].sg)∧(mkcells l)[2 * k+1]?=some (.string ⟨l[k].tx.toArray⟩):=by
 induction l generalizing k with
 | nil=>simp at hk
 | cons c l ih =>
  cases k with
  | zero=>simp[mkcells,mkC]
  | succ k =>
   have h:=ih k (by simpa using hk)
   have e:∀ i,(mkcells (c::l))[2 * (k+1)+i]?=(mkcells l)[2 * k+i]?:=by
    intro i
    have:mkcells (c::l)=mkC c++mkcells l:=rfl
    rw[this,List.getElem?_append_right (by simp[mkC];omega)]
    congr 1
    simp[mkC];omega
   simp only[List.getElem_cons_succ]
   refine⟨by rw[← (h).1];exact e 0,by rw[← h.2];exact e 1⟩
def HMk (w:World) (v:Value) (l:List Mk):Prop:=Holds w v l.length (mkcells l)
theorem HMk.keep {w w':World} {v:Value} {l:List Mk} (h:HMk w v l) {N:Nat} (hk:Below N w w') (hN:w.heap.size≤N):HMk w' v l:=Holds.keep h fun k hk'=>hk.block k (by omega)
theorem HMk.at {w:World} {ao:Option Addr} {n c:Nat} {l:List Mk} (h:HMk w (.slice ao n c) l) (h0:0<l.length):∃ b off,ao=some ⟨b,off,none⟩∧b<w.heap.size ∧
  ∀ k (hk:k<l.length),w.cell? ⟨b,off+k * 2,none⟩=some (.int .u8 l[k].sg)∧w.cell? ⟨b,off+k * 2+1,none⟩=some (.string ⟨l[k].tx.toArray⟩):=by
 obtain⟨b,off,c',hv,hb,hc⟩:=Holds.at h (by rw[ZlK];omega)
 cases hv
 refine⟨b,off,rfl,hb,fun k hk=>?_⟩
 obtain⟨h0,h1⟩:=ZlI l k hk
 have hlen:=ZlK l
 have e:k * 2=2 * k:=by omega
 rw[e]
 refine⟨?_,?_⟩
 ·have:=hc (2 * k) (by omega)
  rw[← h0,this,List.getElem?_eq_getElem]
 ·have:=hc (2 * k+1) (by omega)
  rw[← h1,Nat.add_assoc,this,List.getElem?_eq_getElem]
theorem Low.mk {W w:World} (h:Low W w) {b off n c:Nat} {l:List Mk} (hl:HMk W (.slice (some ⟨b,off,none⟩) n c) l) (k:Nat) (hk:k<l.length) {x:Mk} (hx:l[k]=x):w.cell? ⟨b,off+k * 2,none⟩=some (.int .u8 x.sg)∧w.cell? ⟨b,off+k * 2+1,none⟩=some (.string ⟨x.tx.toArray⟩):=by
 obtain⟨b',off',e,_,hc⟩:=HMk.at (HMk.keep hl h (Nat.le_refl _)) (by omega)
 cases e
 rw[← hx]
 exact hc k hk
def hkV (h:Hk) (v:Value):Value:=.agg #[.int .i64 h.A,.int .i64 h.AN,.int .i64 h.B,.int .i64 h.BN,v]
def hkC (h:Hk) (v:Value):List Value:=[.int .i64 h.A,.int .i64 h.AN,.int .i64 h.B,.int .i64 h.BN,v]
def hkO (h:Hk) (v:Value):Obj:=.cells #[.int .i64 h.A,.int .i64 h.AN,.int .i64 h.B,.int .i64 h.BN,v] 59
def Hx (u:World) (b:Nat) (h:Hk) (v:Value):Prop:=u.heap[b]?=some (hkO h v)
section
variable {u u':World} {b:Nat} {h:Hk} {v:Value}
theorem Hx.cells (q:Hx u b h v):u.cell? ⟨b,0,none⟩=some (.int .i64 h.A)∧u.cell? ⟨b,1,none⟩=some (.int .i64 h.AN)∧u.cell? ⟨b,2,none⟩=some (.int .i64 h.B)∧u.cell? ⟨b,3,none⟩=some (.int .i64 h.BN)∧u.cell? ⟨b,4,none⟩=some v:=by
 unfold Hx hkO at q
 refine⟨?_,?_,?_,?_,?_⟩<;>rw[Lib.cell_of_heap q]<;>rfl
theorem Hx.frozen (q:Hx u b h v) (j:Nat):u.frozen? ⟨b,j,none⟩=false:=Lib.frozen_of_heap q j
theorem Hx.lt (q:Hx u b h v):b<u.heap.size:=(Array.getElem?_eq_some_iff.1 q).1
theorem Hx.low (q:Hx u b h v) (hg:Below u.heap.size u u'):Hx u' b h v:=(hg.block b q.lt).trans q
theorem Hx.keep (q:Hx u b h v) {g:Option Nat} (hg:u.grownBy u' g) (hr:some b≠g):Hx u' b h v:=(hg.block b q.lt hr).trans q
theorem Hx.new (w:World) (h:Hk) (v:Value):Hx (w.alloc (hkO h v)) w.heap.size h v:=_root_.Go.heap_alloc_new w _
end
def hkcells:List (Hk × Value)→List Value
 | []=>[]
 | (h,v)::l=>hkC h v++hkcells l
theorem ZhX (l:List (Hk × Value)):(hkcells l).length=l.length * 5:=by
 induction l with
 | nil=>rfl
 | cons c l ih =>
  obtain⟨h,v⟩:=c
  simp only[hkcells,List.length_append,List.length_cons]
  rw[ih]
  simp[hkC];omega
theorem ZhV (a b:List (Hk × Value)):hkcells (a++b)=hkcells a++hkcells b:=by
 induction a with
 | nil=>rfl
 | cons c l ih =>
  obtain⟨h,v⟩:=c
  simp only[List.cons_append,hkcells,ih,List.append_assoc]
theorem ZhW (l:List (Hk × Value)) (k:Nat) (hk:k<l.length):(hkcells l)[5 * k]?=some (.int .i64 l[k].1.A)∧(hkcells l)[5 * k+1]?=some (.int .i64 l[k].1.AN)∧(hkcells l)[5 * k+2]?=some (.int .i64 l[k].1.B)∧(hkcells l)[5 * k+3]?=some (.int .i64 l[k].1.BN)∧(hkcells l)[5 * k+4]?=some l[k].2:=by
 induction l generalizing k with
 | nil=>simp at hk
 | cons c l ih =>
  obtain⟨x,y⟩:=c
  cases k with
  | zero=>simp[hkcells,hkC]
  | succ k =>
   have h:=ih k (by simpa using hk)
   have e:∀ i,(hkcells ((x,y)::l))[5 * (k+1)+i]?=(hkcells l)[5 * k+i]?:=by
    intro i
    have:hkcells ((x,y)::l)=hkC x y++hkcells l:=rfl
    rw[this,List.getElem?_append_right (by simp[hkC];omega)]
    congr 1
    simp[hkC];omega
   simp only[List.getElem_cons_succ]
   refine⟨by rw[← (h).1];exact e 0,by rw[← h.2.1];exact e 1,by rw[← h.2.2.1];exact e 2,by rw[← h.2.2.2.1];exact e 3,by rw[← h.2.2.2.2];exact e 4⟩
structure HHp (w:World) (v:Value) (p:List (Hk × Value)):Prop where
 row:Holds w v p.length (hkcells p)
 ins:∀ x∈p,HMk w x.2 x.1.ls
theorem HHp.keep {w w':World} {v:Value} {p:List (Hk × Value)} (h:HHp w v p) {N:Nat} (hk:Below N w w') (hN:w.heap.size≤N):HHp w' v p :=
 ⟨Holds.keep h.row fun k hk'=>hk.block k (by omega),fun x hx=>HMk.keep (h.ins x hx) hk hN⟩
theorem HHp.at {w:World} {ao:Option Addr} {n c:Nat} {l:List (Hk × Value)} (h:HHp w (.slice ao n c) l) (h0:0<l.length):∃ b off,ao=some ⟨b,off,none⟩∧b<w.heap.size ∧
  ∀ k (hk:k<l.length),w.cell? ⟨b,off+k * 5,none⟩=some (.int .i64 l[k].1.A)∧w.cell? ⟨b,off+k * 5+1,none⟩=some (.int .i64 l[k].1.AN)∧w.cell? ⟨b,off+k * 5+2,none⟩=some (.int .i64 l[k].1.B)∧w.cell? ⟨b,off+k * 5+3,none⟩=some (.int .i64 l[k].1.BN)∧w.cell? ⟨b,off+k * 5+4,none⟩=some l[k].2:=by
 obtain⟨b,off,c',hv,hb,hc⟩:=Holds.at h.row (by rw[ZhX];omega)
 cases hv
 refine⟨b,off,rfl,hb,fun k hk=>?_⟩
 obtain⟨h0,h1,h2,h3,h4⟩:=ZhW l k hk
 have hlen:=ZhX l
 have e:k * 5=5 * k:=by omega
 rw[e]
 refine⟨?_,?_,?_,?_,?_⟩
 ·have:=hc (5 * k) (by omega)
  rw[← h0,this,List.getElem?_eq_getElem]
 ·have:=hc (5 * k+1) (by omega)
  rw[← h1,Nat.add_assoc,this,List.getElem?_eq_getElem]
 ·have:=hc (5 * k+2) (by omega)
  rw[← h2,Nat.add_assoc,this,List.getElem?_eq_getElem]
 ·have:=hc (5 * k+3) (by omega)
  rw[← h3,Nat.add_assoc,this,List.getElem?_eq_getElem]
 ·have:=hc (5 * k+4) (by omega)
  rw[← h4,Nat.add_assoc,this,List.getElem?_eq_getElem]
theorem HMk.form {w:World} {v:Value} {l:List Mk} (h:HMk w v l):∃ ao c,v=.slice ao l.length c:=Holds.form h
theorem Zqx (w:World) (T E ty:TypeId) (z:Value) (size bytes:Nat) (hT:Tryz.prog.underlying T=some (.slice E)) (hinfo:(Tryz.prog.info? E).map (fun i=>(i.zero,i.size,i.bytes))=some (some z,size,bytes)) (hz1:z.cells.size=size) (hsz:0<size) (hby:bytes≤64)
  (base:Nat) (v:Value) (k:Nat) (xs:List Value) (hown:w.ownsRow base E size v k xs) (vx:Value) (m:Nat) (news:List Value) (hh:Holds w vx m news) (hl:news.length=m * size)
  (h1:∀ u∈news,u.oneCell'=true) (hk:k+m≤2199023255552) (hbase:base≤w.heap.size) :
  ∃ v' w',(Builtin.append_ #[T,T] ty #[v,vx]).run Tryz.prog w=.ok v' w'∧w'.ownsRow base E size v' (k+m) (xs++news)∧w.grownBy w' v.ownBlock∧(v'.ownBlock=v.ownBlock∨v'.ownBlock=some w.heap.size):=by
 obtain⟨i0,hi0,hz0,hzs,hz2⟩:=info_parts hinfo
 rcases hh with ⟨rfl,rfl,rfl⟩ | ⟨ad,c,rfl,_,hc⟩
 ·exact⟨v,w,run_append_owned_none (P:=Tryz.prog) (w:=w) base T ty E i0 size hT hi0 v k xs hown,by simpa using hown,World.grownBy.refl _ _,.inl rfl⟩
 ·obtain⟨v',w',hr,h2,h3,_,h5⟩:=run_append_own_at (P:=Tryz.prog) w base T ty E i0 z size bytes hT hi0 hz0 hzs hz2 hz1 hsz v k xs hown ad m c news hl hc h1 (by unfold maxLen;omega) (by
   have:(k+m) * bytes≤(k+m) * 64:=Nat.mul_le_mul_left _ hby
   omega) hbase
  exact⟨v',w',hr,h2,h3,h5⟩
theorem ZuZ {ops:Array Oper} {rest:List Oper} {o:Oper} {a:Act} {Q:Exit→Act→World→Prop} (w:World) (hw:Region.wanted o (yielded ops a.tmps)=true) (s x:Operand) (T E:TypeId) (z:Value) (size bytes:Nat)
  (ho:o.op=.call { callee:=.builtin .append,args:=#[s,x],argTypes:=#[T,T] }) (hT:Tryz.prog.underlying T=some (.slice E)) (hinfo:(Tryz.prog.info? E).map (fun i=>(i.zero,i.size,i.bytes))=some (some z,size,bytes)) (hz1:z.cells.size=size) (hsz:0<size) (hby:bytes≤64)
  (base:Nat) (v:Value) (k:Nat) (xs:List Value) (hs:a.eval s=v) (hown:w.ownsRow base E size v k xs) (vx:Value) (m:Nat) (news:List Value) (hx:a.eval x=vx) (hh:Holds w vx m news) (hl:news.length=m * size)
  (h1:∀ u∈news,u.oneCell'=true) (hk:k+m≤2199023255552) (hbase:base≤w.heap.size)
  (h:∀ v' w',w'.ownsRow base E size v' (k+m) (xs++news)→w.grownBy w' v.ownBlock→(v'.ownBlock=v.ownBlock∨v'.ownBlock=some w.heap.size)→wpList Tryz.prog ops Q rest (a.put o.dst v') w'):wpList Tryz.prog ops Q (o::rest) a w:=by
 refine wpList_step fun K hK=>?_
 rw[if_pos hw]
 obtain⟨v',w',hr,h2,h3,h4⟩:=Zqx w T E o.type z size bytes hT hinfo hz1 hsz hby base v k xs hown vx m news hh hl h1 hk hbase
 unfold Oper.wp
 simp[execOp,ho,resolve,invoke,builtin,hs,hx,hr,Result.andThen]
 exact hK _ _ (h v' w' h2 h3 h4)
theorem Zii (w:World) (base:Nat) (e:TypeId) (s:Nat):w.ownsRow base e s (.slice none 0 0) 0 []:=⟨by simp,.inl ⟨rfl,rfl⟩⟩
end

section
open Go.RowKit
end

section
open Go.RowKit
theorem bat (l:List UInt8) (k:Nat) (h:k<(⟨l.toArray⟩:ByteArray).size):(⟨l.toArray⟩:ByteArray)[k]'h=l[k]'(h):=rfl
attribute [local go_sem] bat ByteArray.extract_mk
theorem Zvd {n:Int} (h0:-9223372036854775808≤n) (h1:n≤9223372036854775807):IntKind.i64.wrap n=n:=by
 simp[IntKind.wrap,IntKind.bits,IntKind.signed]
 split<;>omega
end

section
open Go.RowKit
def mkO (m:Mk):Obj:=.cells #[.int .u8 m.sg,.string ⟨m.tx.toArray⟩] 103
def Mx (u:World) (b:Nat) (m:Mk):Prop:=u.heap[b]?=some (mkO m)
section
variable {u u':World} {b:Nat} {m:Mk}
theorem Mx.cells (q:Mx u b m):u.cell? ⟨b,0,none⟩=some (.int .u8 m.sg)∧u.cell? ⟨b,1,none⟩=some (.string ⟨m.tx.toArray⟩):=by
 unfold Mx mkO at q
 refine⟨?_,?_⟩<;>rw[Lib.cell_of_heap q]<;>rfl
theorem Mx.lt (q:Mx u b m):b<u.heap.size:=(Array.getElem?_eq_some_iff.1 q).1
theorem Mx.low (q:Mx u b m) (hg:Below u.heap.size u u'):Mx u' b m:=(hg.block b q.lt).trans q
theorem Mx.new (w:World) (m:Mk):Mx (w.alloc (mkO m)) w.heap.size m:=_root_.Go.heap_alloc_new w _
end
theorem Hx.row {W:World} {b:Nat} {h:Hk} {v:Value} (q:Hx W b h v) (n:Nat):Hx (W.drewN n) b h v:=q
end

section
open Go.RowKit
theorem Zsq {b:Bool} {X Y:Prop} (h:b=true) (hX:X):if b=true then X else Y:=by
 rw[if_pos h]
 exact hX
theorem ZgS {P:Program} {S:World→Prop} {md:Region.Mode} {ops:Array Oper} {Q:Exit→Act→World→Prop} {fuel:Nat} {listed:Array Bool} {A:Act} {w:World}
  (i d:Nat) (op:Oper) (v:Value) (hi:ops[i]?=some op) (hd:op.dst=some d) (hs:Region.noSelect ops=true) (hf:Region.free md ops listed i=true) (hr:(Region.ready md ops listed).contains i=true)
  (hQ:∀ c a w,Q (.panic c) (a.put op.dst v) w→Q (.panic c) a w) (hy:YieldsIf P ops S op v A) (hS:S w)
  (h:wpAnyH P md ops Q S fuel (listed.setIfInBounds i true) (A.put (some d) v) w):wpAnyH P md ops Q S (fuel+1) listed A w :=
 wpAnyH_take hi hs hf hr hQ hy hS (by rw[hd];exact h)
theorem ZgO {P:Program} {S:World→Prop} {md:Region.Mode} {ops:Array Oper} {Q:Exit→Act→World→Prop} {fuel:Nat} {listed:Array Bool} {A:Act} {w:World}
  (i d:Nat) (op:Oper) (hi:ops[i]?=some op) (hd:op.dst=some d) (hr:Region.ready md ops listed=[i]) (hwt:Region.wanted op (yielded ops A.tmps)=true)
  (F:Nat) (x:Operand) (xs:Array Operand) (ts:Array TypeId) (ho:op.op=.call { callee:=.value x,args:=xs,argTypes:=ts })
  (cap:Array Value) (hxv:A.eval x=.func (.func F) #[] cap) (args:Array Value) (hx:xs.map A.eval=args) (hen:∀ args w,(callFunc F args).run P w=.ok (.enter F args) w) (R:Value→World→Prop)
  (hc:Calls P F (args++cap) w fun e w'=>∃ v,e=.returned v∧S w'∧R v w')
  (h:∀ v w',S w'→R v w'→wpAnyH P md ops Q S fuel (listed.setIfInBounds i true) (A.put (some d) v) w') :
  wpAnyH P md ops Q S (fuel+1) listed A w:=by
 refine wpAnyH_ready hr (by simp) (AllReadyH.cons hi (fun K hK=>?_) AllReadyH.nil)
 refine Zsq hwt ?_
 unfold Oper.wp
 have e:(execOp A.eval op).run P w=.ok (.enter F (args++cap)) w:=by
  have h1:=hen (args++cap) w
  simp only[execOp,ho,resolve,invoke]
  simp only[hxv,Deferred.ofValue,Sem.run_bind,Sem.run_pure,Result.andThen_ok,hx,Array.empty_append]
  exact h1
 rw[e,Oper.upon_enter]
 refine hc.mono ?_
 rintro e w' ⟨v,rfl,hb,hR⟩
 exact hK.out _ _ hb (fun hu=>by rw[hd];exact h v w' hu hR)
theorem ZgU {P:Program} {S:World→Prop} {md:Region.Mode} {ops:Array Oper} {Q:Exit→Act→World→Prop} {fuel:Nat} {listed:Array Bool} {A:Act} {w:World}
  (i d:Nat) (op:Oper) (hi:ops[i]?=some op) (hd:op.dst=some d) (hr:Region.ready md ops listed=[i]) (hwt:Region.wanted op (yielded ops A.tmps)=true)
  (v:Value) (w':World) (he:(execOp A.eval op).run P w=.ok (.value v) w') (hS:S w')
  (h:wpAnyH P md ops Q S fuel (listed.setIfInBounds i true) (A.put (some d) v) w') :
  wpAnyH P md ops Q S (fuel+1) listed A w:=by
 refine wpAnyH_ready hr (by simp) (AllReadyH.cons hi (fun K hK=>?_) AllReadyH.nil)
 refine Zsq hwt ?_
 unfold Oper.wp
 rw[he,Oper.upon_value]
 exact hK.out _ _ hS (fun _=>by rw[hd];exact h)
theorem ZgR {P:Program} {S:World→Prop} {md:Region.Mode} {ops:Array Oper} {Q:Exit→Act→World→Prop} {fuel:Nat} {listed:Array Bool} {A:Act} {w:World}
  (i:Nat) (op:Oper) (hi:ops[i]?=some op) (hd:op.dst=none) (hr:Region.ready md ops listed=[i]) (hwt:Region.wanted op (yielded ops A.tmps)=true)
  (w':World) (he:(execOp A.eval op).run P w=.ok .skip w') (hS:S w')
  (h:wpAnyH P md ops Q S fuel (listed.setIfInBounds i true) A w') :
  wpAnyH P md ops Q S (fuel+1) listed A w:=by
 refine wpAnyH_ready hr (by simp) (AllReadyH.cons hi (fun K hK=>?_) AllReadyH.nil)
 refine Zsq hwt ?_
 unfold Oper.wp
 rw[he,Oper.upon_skip]
 exact hK.out _ _ hS (fun _=>by rw[hd];exact h)
theorem ZkA {u:World} {a:Addr} {z:Int} (h:u.cell? a=some (.int .i64 z)) {op:Oper} (x:Operand) (ho:op.op=.load 3 x) {ev:Operand→Value} (hx:ev x=.pointer (some a)) :
  (execOp ev op).run Tryz.prog u=.ok (.value (.int .i64 z)) u:=by
 simp only[execOp,ho,hx]
 go_simp
theorem Y_t {P:Program} {S:World→Prop} {md:Region.Mode} {ops:Array Oper} {Q:Exit→Act→World→Prop} {fuel:Nat} {listed:Array Bool} {A:Act} {w:World} (i d:Nat) (op:Oper) (v:Value) (hi:ops[i]?=some op) (hy:YieldsIf P ops S op v A) (hS:S w) (h:wpAnyH P md ops Q S fuel (listed.setIfInBounds i true) (A.put (some d) v) w) (hd:op.dst=some d:=by kernel_rfl) (hs:Region.noSelect ops=true:=by kernel_rfl) (hf:Region.free md ops listed i=true:=by kernel_rfl) (hr:(Region.ready md ops listed).contains i=true:=by kernel_rfl) (hQ:∀c a w,Q (.panic c) (a.put op.dst v) w→Q (.panic c) a w:=by exact fun _ _ _ h=>h):wpAnyH P md ops Q S (fuel+1) listed A w:=ZgS i d op v hi hd hs hf hr hQ hy hS h
theorem Y_v {P:Program} {S:World→Prop} {md:Region.Mode} {ops:Array Oper} {Q:Exit→Act→World→Prop} {fuel:Nat} {listed:Array Bool} {A:Act} {w:World} (i d:Nat) (op:Oper) (hi:ops[i]?=some op) (v:Value) (w':World) (he:(execOp A.eval op).run P w=.ok (.value v) w') (hS:S w') (h:wpAnyH P md ops Q S fuel (listed.setIfInBounds i true) (A.put (some d) v) w') (hd:op.dst=some d:=by kernel_rfl) (hr:Region.ready md ops listed=[i]:=by kernel_rfl) (hwt:Region.wanted op (yielded ops A.tmps)=true:=by kernel_rfl):wpAnyH P md ops Q S (fuel+1) listed A w:=ZgU i d op hi hd hr hwt v w' he hS h
theorem Y_e {P:Program} {S:World→Prop} {md:Region.Mode} {ops:Array Oper} {Q:Exit→Act→World→Prop} {fuel:Nat} {listed:Array Bool} {A:Act} {w:World} (i d:Nat) (op:Oper) (hi:ops[i]?=some op) (F:Nat) (x:Operand) (xs:Array Operand) (ts:Array TypeId) (ho:op.op=.call {callee:=.value x,args:=xs,argTypes:=ts}) (cap:Array Value) (hxv:A.eval x=.func (.func F) #[] cap) (args:Array Value) (hx:xs.map A.eval=args) (hen:∀args w,(callFunc F args).run P w=.ok (.enter F args) w) (R:Value→World→Prop) (hc:Calls P F (args++cap) w fun e w'=>∃v,e=.returned v∧S w'∧R v w') (h:∀v w',S w'→R v w'→wpAnyH P md ops Q S fuel (listed.setIfInBounds i true) (A.put (some d) v) w') (hd:op.dst=some d:=by kernel_rfl) (hr:Region.ready md ops listed=[i]:=by kernel_rfl) (hwt:Region.wanted op (yielded ops A.tmps)=true:=by kernel_rfl):wpAnyH P md ops Q S (fuel+1) listed A w:=ZgO i d op hi hd hr hwt F x xs ts ho cap hxv args hx hen R hc h
theorem Y_s {P:Program} {S:World→Prop} {md:Region.Mode} {ops:Array Oper} {Q:Exit→Act→World→Prop} {fuel:Nat} {listed:Array Bool} {A:Act} {w:World} (i:Nat) (op:Oper) (hi:ops[i]?=some op) (w':World) (he:(execOp A.eval op).run P w=.ok .skip w') (hS:S w') (h:wpAnyH P md ops Q S fuel (listed.setIfInBounds i true) A w') (hd:op.dst=none:=by kernel_rfl) (hr:Region.ready md ops listed=[i]:=by kernel_rfl) (hwt:Region.wanted op (yielded ops A.tmps)=true:=by kernel_rfl):wpAnyH P md ops Q S (fuel+1) listed A w:=ZgR i op hi hd hr hwt w' he hS h
end

section
open Go.RowKit
theorem Zkw {u:World} {b:Nat} {h:Hk} {v:Value} (q:Hx u b h v) {op:Oper} (x:Operand) (ho:op.op=.load 59 x) {ev:Operand→Value} (hx:ev x=.pointer (some ⟨b,0,none⟩)) :
  (execOp ev op).run Tryz.prog u=.ok (.value (hkV h v)) u:=by
 have hL:(loadVar 59 ⟨b,0,none⟩).run Tryz.prog u=.ok (hkV h v) u:=run_loadVar_row u b _ _ _ _ _ q Tryz.underlying59 rfl (by kernel_rfl)
 simp only[execOp,ho,hx,Instr.loadAt,Instr.sureAddr,Sem.run_bind,Sem.run_pure,Result.andThen_ok,hL]
end

section
open Go.RowKit
def HOk (p:List (Hk × Value)):Prop:=p.length≤1099511627776∧∀ x∈p,x.1.ls.length≤1099511627776∧∀ m∈x.1.ls,m.tx.length≤1099511627776
theorem HHp.take {w W:World} {b off n c:Nat} {p:List (Hk × Value)} (h:HHp w (.slice (some ⟨b,off,none⟩) n c) p) (hB:Below w.heap.size w W) (k:Nat) (hk:k<p.length) {x:Hk} {y:Value} (hx:p[k]=(x,y)):(W.cell? ⟨b,off+k * 5,none⟩=some (.int .i64 x.A)∧W.cell? ⟨b,off+k * 5+1,none⟩=some (.int .i64 x.AN)∧W.cell? ⟨b,off+k * 5+2,none⟩=some (.int .i64 x.B)∧W.cell? ⟨b,off+k * 5+3,none⟩=some (.int .i64 x.BN)∧W.cell? ⟨b,off+k * 5+4,none⟩=some y)∧HMk W y x.ls:=by
 have h2:=h.keep hB (Nat.le_refl _)
 obtain⟨b',off',e,_,hc⟩:=h2.at (by omega)
 cases e
 have:=hc k hk
 rw[hx] at this
 refine⟨this,?_⟩
 have hi:=h2.ins p[k] (List.getElem_mem hk)
 rw[hx] at hi
 exact hi
theorem Zfv {l:List Hk} {k:Nat} (hk:k<l.length):errs (l.drop k)=if chkH l[k]≠0 then chkH l[k] else errs (l.drop (k+1)):=by
 rw[List.drop_eq_getElem_cons hk]
 rfl
end

section
open Go.RowKit
end

section
open Go.RowKit
theorem ZfB {u:World} {b off n c i:Nat} (hi:i<n) {op:Oper} (x y:Operand) (ho:op.op=.indexAddr 34 x y) {ev:Operand→Value} (hx:ev x=.slice (some ⟨b,off,none⟩) n c) (hy:ev y=.int .i64 (i:Int)) :
  (execOp ev op).run Tryz.prog u=.ok (.value (.pointer (some ⟨b,off+i * 5,none⟩))) u:=by
 have i1:0≤(i:Int):=by omega
 have i2:(i:Int)<(n:Int):=by omega
 simp only[execOp,ho,hx,hy]
 go_simp
def HkAt (u:World) (b o:Nat) (x:Hk) (y:Value):Prop:=u.cell? ⟨b,o,none⟩=some (.int .i64 x.A)∧u.cell? ⟨b,o+1,none⟩=some (.int .i64 x.AN)∧u.cell? ⟨b,o+2,none⟩=some (.int .i64 x.B)∧u.cell? ⟨b,o+3,none⟩=some (.int .i64 x.BN)∧u.cell? ⟨b,o+4,none⟩=some y
theorem HkAt.low {u u':World} {b o:Nat} {x:Hk} {y:Value} (h:HkAt u b o x y) (hB:Low u u'):HkAt u' b o x y:=by
 have key:∀ (q:Addr) (z:Value),u.cell? q=some z→u'.cell? q=some z:=fun q z hz=>(World.cell?_of_block (w:=u) (Below.block hB _ (World.block_lt_of_cell? _ _ hz))).trans hz
 exact⟨key _ _ h.1,key _ _ h.2.1,key _ _ h.2.2.1,key _ _ h.2.2.2.1,key _ _ h.2.2.2.2⟩
theorem Zkx {u:World} {b o:Nat} {h:Hk} {yo:Option Addr} {n yc:Nat} (q:HkAt u b o h (.slice yo n yc)) {op:Oper} (x:Operand) (ho:op.op=.load 59 x) {ev:Operand→Value} (hx:ev x=.pointer (some ⟨b,o,none⟩)) :
  (execOp ev op).run Tryz.prog u=.ok (.value (hkV h (.slice yo n yc))) u:=by
 obtain⟨d0,d1,d2,d3,d4⟩:=q
 unfold hkV
 simp only[execOp,ho,hx]
 go_simp
end

section
open Go.RowKit
theorem ZnD {u:World} {base:Nat} {e:TypeId} {s:Nat} {v:Value} {n:Nat} {xs:List Value} (h:u.ownsRow base e s v n xs) {g:Nat} (hg:v.ownBlock=some g):g<u.heap.size:=by
 rcases h.2 with ⟨rfl,_⟩ | ⟨b,cap,cur,rfl,_,hb,_⟩
 ·cases hg
 ·simp[Value.ownBlock] at hg
  subst hg
  exact (Array.getElem?_eq_some_iff.1 hb).1
theorem ZnE {u:World} {base base':Nat} {e e':TypeId} {s s':Nat} {v v':Value} {n n':Nat} {xs xs':List Value} (h:u.ownsRow base e s v n xs) (h':u.ownsRow base' e' s' v' n' xs') (he:e≠e') {g:Nat} (hg:v.ownBlock=some g):v'.ownBlock≠some g:=by
 intro hg'
 rcases h.2 with ⟨rfl,_⟩ | ⟨b,cap,cur,rfl,_,hb,_⟩
 ·cases hg
 ·rcases h'.2 with ⟨rfl,_⟩ | ⟨b',cap',cur',rfl,_,hb',_⟩
  ·cases hg'
  ·simp[Value.ownBlock] at hg hg'
   subst hg hg'
   rw[hb] at hb'
   simp at hb'
   exact he hb'.2
structure Hs (w:World) (ov:Value) (P:List (Hk × Value)) (u:World):Prop where
 low:Below w.heap.size w u
 own:u.ownsRow w.heap.size 59 5 ov P.length (hkcells P)
 ins:∀ x∈P,u.ownsRow w.heap.size 103 2 x.2 x.1.ls.length (mkcells x.1.ls)
theorem Hs.nil (w:World):Hs w (.slice none 0 0) [] w:=⟨Below.refl _ _,Zii _ _ _ _,fun _ h=>by cases h⟩
theorem Hs.alloc {w:World} {ov:Value} {P:List (Hk × Value)} {u:World} (h:Hs w ov P u) (o:Obj):Hs w ov P (u.alloc o):=⟨h.low.alloc h.low.size o,h.own.alloc o,fun x hx=>(h.ins x hx).alloc o⟩
theorem Hs.grown {w:World} {ov:Value} {P:List (Hk × Value)} {u u':World} (h:Hs w ov P u) {g:Option Nat} (hg:u.grownBy u' g) (hb:∀ k,g=some k→w.heap.size≤k) (h1:∀ k,g=some k→ov.ownBlock≠some k) (h2:∀ x∈P,∀ k,g=some k→x.2.ownBlock≠some k):Hs w ov P u':=by
 have key:∀ {e:TypeId} {s:Nat} {v:Value} {n:Nat} {xs:List Value},u.ownsRow w.heap.size e s v n xs→(∀ k,g=some k→v.ownBlock≠some k)→u'.ownsRow w.heap.size e s v n xs:=by
  intro e s v n xs ho hne
  refine⟨ho.1,?_⟩
  rcases ho.2 with q | ⟨b,cap,cur,rfl,q2,q3,q4⟩
  ·exact .inl q
  ·refine .inr ⟨b,cap,cur,rfl,q2,?_,q4⟩
   rw[hg.block b (Array.getElem?_eq_some_iff.1 q3).1 (fun e=>hne b e.symm rfl)]
   exact q3
 exact⟨h.low.grown hg h.low.size (fun k hk=>hb k hk),key h.own h1,fun x hx=>key (h.ins x hx) (h2 x hx)⟩
theorem Hs.holds {w:World} {ov:Value} {P:List (Hk × Value)} {u:World} (h:Hs w ov P u):HHp u ov P:=⟨holds_of h.own,fun x hx=>holds_of (h.ins x hx)⟩
theorem Hs.more {w:World} {ov:Value} {P:List (Hk × Value)} {u u':World} (h:Hs w ov P u) {x:Hk} {y ov':Value} (hy:u.ownsRow w.heap.size 103 2 y x.ls.length (mkcells x.ls)) (hg:u.grownBy u' ov.ownBlock) (ho:u'.ownsRow w.heap.size 59 5 ov' (P.length+1) (hkcells P++hkC x y)):Hs w ov' (P++[(x,y)]) u':=by
 have key:∀ {v:Value} {n:Nat} {xs:List Value},u.ownsRow w.heap.size 103 2 v n xs→u'.ownsRow w.heap.size 103 2 v n xs:=by
  intro v n xs hv
  refine⟨hv.1,?_⟩
  rcases hv.2 with q | ⟨b,cap,cur,rfl,q2,q3,q4⟩
  ·exact .inl q
  ·refine .inr ⟨b,cap,cur,rfl,q2,?_,q4⟩
   rw[hg.block b (Array.getElem?_eq_some_iff.1 q3).1 (fun e=>ZnE h.own hv (by decide) e.symm rfl)]
   exact q3
 refine⟨h.low.grown hg h.low.size (fun j hj=>ZnH h.own hj),?_,fun z hz=>?_⟩
 ·rw[ZhV,List.length_append]
  have e:hkcells [(x,y)]=hkC x y:=by simp[hkcells]
  rw[e]
  exact ho
 ·rcases List.mem_append.1 hz with hz | hz
  ·exact key (h.ins z hz)
  ·rw[List.mem_singleton.1 hz]
   exact key hy
theorem Znr (w:World) (x:Hk) (y:Value):Holds (w.alloc (hkO x y)) (.slice (some ⟨w.heap.size,0,none⟩) 1 1) 1 (hkC x y):=Zmn w #[.int .i64 x.A,.int .i64 x.AN,.int .i64 x.B,.int .i64 x.BN,y] 59 1 1 (by decide)
theorem ZhO (x:Hk) {o:Option Addr} {n c:Nat}:∀ u∈hkC x (.slice o n c),u.oneCell'=true:=by
 intro u hu
 simp only[hkC,List.mem_cons,List.not_mem_nil,or_false] at hu
 rcases hu with rfl | rfl | rfl | rfl | rfl<;>rfl
theorem Hx.setl {u:World} {b:Nat} {h:Hk} {v:Value} (q:Hx u b h v) (z:Value):Hx (u.setCell ⟨b,4,none⟩ z) b h z:=heap_setCell_same u b 4 _ _ z q
end

section
open Go.RowKit
def Sd (sg no:Int):Prop:=sg=45∧no=43∨sg=43∧no=45
theorem Zrm {sg no:Int} (h:Sd sg no) (s:Int):(s≠no∧okS s=true)↔(s=32∨s=sg):=by
 simp only[okS,Bool.or_eq_true,decide_eq_true_eq]
 rcases h with ⟨rfl,rfl⟩ | ⟨rfl,rfl⟩<;>omega
theorem ZoA {sg no:Int} (h:Sd sg no) {s:Int} (hs:s=32∨s=sg) {out R:List (List UInt8)} {tx:List UInt8} {l:List Mk} (hI:out++(if s≠no∧okS s=true then tx::pkL no l else pkL no l)=R):out++[tx]++pkL no l=R:=by
 rw[if_pos ((Zrm h s).2 hs)] at hI
 rw[← hI]
 simp
theorem Zoy {sg no:Int} (h:Sd sg no) {s:Int} (h1:s≠32) (h2:s≠sg) {out R:List (List UInt8)} {tx:List UInt8} {l:List Mk} (hI:out++(if s≠no∧okS s=true then tx::pkL no l else pkL no l)=R):out++pkL no l=R:=by
 rw[if_neg (fun q=>by rcases (Zrm h s).1 q with q | q<;>contradiction)] at hI
 exact hI
theorem ZnK {u:World} {base base':Nat} {e:TypeId} {s:Nat} {v:Value} {n:Nat} {xs:List Value} (h:u.ownsRow base e s v n xs) (hb:base'≤base):u.ownsRow base' e s v n xs:=by
 refine⟨h.1,?_⟩
 rcases h.2 with q | ⟨b,cap,cur,rfl,q2,q3,q4⟩
 ·exact .inl q
 ·exact .inr ⟨b,cap,cur,rfl,Nat.le_trans hb q2,q3,q4⟩
theorem Ziq (h:Hk) (v:Value) (sd no:Int) (HSD:Hid (Sd sd no)) (w:World) (hv:HMk w v h.ls) (hl:h.ls.length≤1099511627776) (R:List (List UInt8)) (HR:Hid (pkL no h.ls=R)):Calls Tryz.prog 83 #[hkV h v,.int .u8 sd] w fun e w'=>∃ v',e=.returned v'∧w'.ownsRow w.heap.size 9 1 v' R.length (scells R)∧Below w.heap.size w w':=by
 obtain⟨A,AN,B,BN,ls⟩:=h
 dsimp only at hv hl HR
 obtain⟨lo,lc,rfl⟩:=HMk.form hv
 have hx:=Hx.new w ⟨A,AN,B,BN,ls⟩ (.slice lo ls.length lc)
 have hBl:Below w.heap.size w (w.alloc (hkO ⟨A,AN,B,BN,ls⟩ (.slice lo ls.length lc))):=(Below.refl _ w).alloc (Nat.le_refl _) _
 have hv1:=HMk.keep hv hBl (Nat.le_refl _)
 obtain⟨_,_,_,_,x4⟩:=hx.cells
 have hW:w.alloc (Obj.cells #[Value.int IntKind.i64 A,Value.int IntKind.i64 AN,Value.int IntKind.i64 B,Value.int IntKind.i64 BN,.slice lo ls.length lc] 59)=w.alloc (hkO ⟨A,AN,B,BN,ls⟩ (.slice lo ls.length lc)):=rfl
 have HSZ:Hid ((w.alloc (hkO ⟨A,AN,B,BN,ls⟩ (.slice lo ls.length lc))).heap.size=w.heap.size+1):=(by show _=_;simp)
 unfold hkV
 dsimp only
 clear hv hx
 generalize w.alloc (hkO ⟨A,AN,B,BN,ls⟩ (.slice lo ls.length lc))=W at *
 go_enter Tryz.func83,Tryz.ntmps83
 go_wp2
 clear hW x4
 go_loopw [5,11] (fun ov iv wr=>∃ (k:Nat) (out:List (List UInt8)),k≤ls.length∧out.length≤k∧iv=.int .i64 (k:Int)∧(∃ oo oc,ov=.slice oo out.length oc)∧St W 9 1 ov out.length (scells out) wr∧Hid (out++pkL no (ls.drop k)=R)) (fun _ iv _=>ls.length-(intOf iv).toNat)
 case atStart=>exact⟨0,[],Nat.zero_le _,Nat.le_refl _,by go_num,⟨_,_,rfl⟩,⟨Zii _ _ _ _,Below.refl _ _⟩,HR⟩
 case round =>
  obtain⟨k,out,hk,hok,rfl,⟨oo,oc,rfl⟩,hS,HI⟩:=hrel
  by_cases hlt:k<ls.length
  ·obtain⟨b,off,rfl,hb,_⟩:=HMk.at hv1 (by omega)
   obtain⟨m,hm⟩:∃ m,ls[k]=m:=⟨_,rfl⟩
   obtain⟨c0,c1⟩:=Low.mk hS.low hv1 k hlt hm
   have HI2:Hid (out++(if m.sg≠no∧okS m.sg=true then m.tx::pkL no (ls.drop (k+1)) else pkL no (ls.drop (k+1)))=R):=(by
    show _=_
    rw[← HI.out,List.drop_eq_getElem_cons hlt,hm]
    rfl)
   have i1:0≤(k:Int):=by omega
   have i2:(k:Int)<(ls.length:Int):=by omega
   obtain⟨m0,m1⟩:=(Mx.new wr m).cells
   have hS1:=Zsl (mkO m) hS
   have hsS:=hS.low.size
   have HSM:Hid ((wr.alloc (mkO m)).heap.size=wr.heap.size+1):=(by show _=_;simp)
   have hW2:wr.alloc (Obj.cells #[Value.int IntKind.u8 m.sg,Value.string ⟨m.tx.toArray⟩] 103)=wr.alloc (mkO m):=rfl
   clear HI hm HR
   go_upto_region 5 with fail
   obtain⟨sg,tx⟩:=m
   dsimp only at m0 m1 c0 c1 HI2 hW2
   generalize hwr1:wr.alloc (mkO ⟨sg,tx⟩)=wr1 at *
   clear hW2
   have hs1:=hS1.low.size
   by_cases h1:sg=32
   ·subst h1
    have HI3:Hid (out++[tx]++pkL no (ls.drop (k+1))=R):=ZoA HSD.out (.inl rfl) HI2.out
    clear HI2
    go_wp2_with (at_builtin;refine ZuW _ (by kernel_rfl) (.tmp 24) (.tmp 27) 23 9 (.string ⟨#[]⟩) 1 16 rfl Tryz.underlying23 infoStr rfl (by decide) (by decide) W.heap.size _ _ _ rfl (hS1.own.alloc _) _ 1 (scells [tx]) rfl (Zmn _ _ _ _ _ (by decide)) rfl (ZqY _) (by omega) (by simp;omega) ?_)
    intro v2 w2 hown2 hgrow2
    have hB2:Below W.heap.size W w2:=(hS1.low.alloc hS1.low.size _).grown hgrow2 (by simp;omega) (fun _ hj=>ZnH hS1.own hj)
    rw[← ZqX] at hown2
    obtain⟨oo2,oc2,rfl⟩:=(holds_of hown2).form
    clear hgrow2
    go_wp2
    exact⟨⟨k+1,out++[tx],by omega,by simp;omega,by go_num,⟨_,_,by rw[List.length_append];rfl⟩,⟨by rw[List.length_append];exact hown2,hB2⟩,HI3⟩,by simp[intOf];omega⟩
   ·have e1:(sg == 32)=false:=by simpa using h1
    by_cases h2:sg=sd
    ·subst h2
     have HI3:Hid (out++[tx]++pkL no (ls.drop (k+1))=R):=ZoA HSD.out (.inr rfl) HI2.out
     clear HI2 h1
     go_wp2_with (at_builtin;refine ZuW _ (by kernel_rfl) (.tmp 24) (.tmp 27) 23 9 (.string ⟨#[]⟩) 1 16 rfl Tryz.underlying23 infoStr rfl (by decide) (by decide) W.heap.size _ _ _ rfl (hS1.own.alloc _) _ 1 (scells [tx]) rfl (Zmn _ _ _ _ _ (by decide)) rfl (ZqY _) (by omega) (by simp;omega) ?_)
     intro v2 w2 hown2 hgrow2
     have hB2:Below W.heap.size W w2:=(hS1.low.alloc hS1.low.size _).grown hgrow2 (by simp;omega) (fun _ hj=>ZnH hS1.own hj)
     rw[← ZqX] at hown2
     obtain⟨oo2,oc2,rfl⟩:=(holds_of hown2).form
     clear hgrow2
     go_wp2
     exact⟨⟨k+1,out++[tx],by omega,by simp;omega,by go_num,⟨_,_,by rw[List.length_append];rfl⟩,⟨by rw[List.length_append];exact hown2,hB2⟩,HI3⟩,by simp[intOf];omega⟩
    ·have e2:(sg == sd)=false:=by simpa using h2
     have HI3:Hid (out++pkL no (ls.drop (k+1))=R):=Zoy HSD.out h1 h2 HI2.out
     clear HI2 h1 h2
     go_wp2
     exact⟨⟨k+1,out,by omega,by omega,by go_num,⟨_,_,rfl⟩,hS1,HI3⟩,by simp[intOf];omega⟩
  ·have HI3:Hid (out=R):=(by
    have h:=HI.out
    rw[List.drop_of_length_le (by omega)] at h
    show out=R
    simpa [pkL] using h)
   clear HI
   have hend:decide ((k:Int)<(ls.length:Int))=false:=decide_eq_false (by omega)
   go_wp2
   go_ret
   refine⟨_,rfl,?_,hBl.trans (hS.low.mono (by have:=HSZ.out;omega))⟩
   rw[← HI3.out]
   exact ZnK hS.own (by have:=HSZ.out;omega)
theorem ZhE (h:Hk) (v:Value) (w:World) (hv:HMk w v h.ls) (hl:h.ls.length≤1099511627776) (R:List (List UInt8)) (HR:Hid (oldL h=R)):Calls Tryz.prog 38 #[hkV h v] w fun e w'=>∃ v',e=.returned v'∧w'.ownsRow w.heap.size 9 1 v' R.length (scells R)∧Below w.heap.size w w':=by
 have hBl:Below w.heap.size w (w.alloc (hkO h v)):=(Below.refl _ w).alloc (Nat.le_refl _) _
 have hv1:=HMk.keep hv hBl (Nat.le_refl _)
 obtain⟨c0,c1,c2,c3,c4⟩:=(Hx.new w h v).cells
 unfold hkO at c0 c1 c2 c3 c4 hBl hv1
 obtain⟨lo,lc,rfl⟩:=HMk.form hv
 have e:hkV h (.slice lo h.ls.length lc)=.agg #[.int .i64 h.A,.int .i64 h.AN,.int .i64 h.B,.int .i64 h.BN,.slice lo h.ls.length lc]:=rfl
 rw[e]
 go_enter Tryz.func38,Tryz.ntmps38
 go_wp2_with fail
 refine (Ziq h _ 45 43 (.inl ⟨rfl,rfl⟩) _ hv1 hl R HR).mono ?_
 rintro e w1 ⟨v1,rfl,hv1,hB1⟩
 obtain⟨vo,vc,rfl⟩:=Holds.form (holds_of hv1)
 go_wp2
 go_ret
 exact⟨_,rfl,ZnK hv1 hBl.size,hBl.trans (hB1.mono hBl.size)⟩
theorem ZhD (h:Hk) (v:Value) (w:World) (hv:HMk w v h.ls) (hl:h.ls.length≤1099511627776) (R:List (List UInt8)) (HR:Hid (oldL h=R)):Calls Tryz.prog 38 #[hkV h v] w fun e w'=>∃ v',e=.returned v'∧HS w' v' R∧Below w.heap.size w w':=by
 refine (ZhE h v w hv hl R HR).mono ?_
 rintro e w1 ⟨v1,rfl,h1,hB1⟩
 exact⟨v1,rfl,holds_of h1,hB1⟩
theorem ZhC (h:Hk) (v:Value) (w:World) (hv:HMk w v h.ls) (hl:h.ls.length≤1099511627776) (R:List (List UInt8)) (HR:Hid (newL h=R)):Calls Tryz.prog 40 #[hkV h v] w fun e w'=>∃ v',e=.returned v'∧w'.ownsRow w.heap.size 9 1 v' R.length (scells R)∧Below w.heap.size w w':=by
 have hBl:Below w.heap.size w (w.alloc (hkO h v)):=(Below.refl _ w).alloc (Nat.le_refl _) _
 have hv1:=HMk.keep hv hBl (Nat.le_refl _)
 obtain⟨c0,c1,c2,c3,c4⟩:=(Hx.new w h v).cells
 unfold hkO at c0 c1 c2 c3 c4 hBl hv1
 obtain⟨lo,lc,rfl⟩:=HMk.form hv
 have e:hkV h (.slice lo h.ls.length lc)=.agg #[.int .i64 h.A,.int .i64 h.AN,.int .i64 h.B,.int .i64 h.BN,.slice lo h.ls.length lc]:=rfl
 rw[e]
 go_enter Tryz.func40,Tryz.ntmps40
 go_wp2_with fail
 refine (Ziq h _ 43 45 (.inr ⟨rfl,rfl⟩) _ hv1 hl R HR).mono ?_
 rintro e w1 ⟨v1,rfl,hv1,hB1⟩
 obtain⟨vo,vc,rfl⟩:=Holds.form (holds_of hv1)
 go_wp2
 go_ret
 exact⟨_,rfl,ZnK hv1 hBl.size,hBl.trans (hB1.mono hBl.size)⟩
theorem ZhB (h:Hk) (v:Value) (w:World) (hv:HMk w v h.ls) (hl:h.ls.length≤1099511627776) (R:List (List UInt8)) (HR:Hid (newL h=R)):Calls Tryz.prog 40 #[hkV h v] w fun e w'=>∃ v',e=.returned v'∧HS w' v' R∧Below w.heap.size w w':=by
 refine (ZhC h v w hv hl R HR).mono ?_
 rintro e w1 ⟨v1,rfl,h1,hB1⟩
 exact⟨v1,rfl,holds_of h1,hB1⟩
def nmB (a n:Int):Bool:=nat31 a && nat31 n && !(decide (a=0) && decide (0<n))
theorem Zik (a n:Int) (w:World) (r:Bool) (HR:Hid (nmB a n=r)):Calls Tryz.prog 59 #[.int .i64 a,.int .i64 n] w fun e w'=>e=.returned (.bool r)∧w'=w:=by
 have hr:r=true↔(0≤a∧a≤2147483647∧0≤n∧n≤2147483647∧(0<a∨n=0)):=by
  rw[← HR.out]
  unfold nmB nat31
  simp only[Bool.and_eq_true,decide_eq_true_eq,Bool.not_eq_true',Bool.and_eq_false_iff,decide_eq_false_iff_not]
  omega
 have HRR:Hid (r=true↔(0≤a∧a≤2147483647∧0≤n∧n≤2147483647∧(0<a∨n=0))):=hr
 clear hr HR
 have no:∀ {p:Prop},p→(p→¬ (0≤a∧a≤2147483647∧0≤n∧n≤2147483647∧(0<a∨n=0)))→Ending.returned (.bool false)=.returned (.bool r):=fun hp h=>by
  cases r with
  | false=>rfl
  | true=>exact absurd (HRR.out.1 rfl) (h hp)
 go_enter Tryz.func59,Tryz.ntmps59
 by_cases h1:a<0
 ·go_wp2
  go_ret
  exact⟨no h1 (fun _=>by omega),rfl⟩
 ·have e1:decide (a<0)=false:=decide_eq_false h1
  by_cases h2:2147483647<a
  ·go_wp2
   go_ret
   exact⟨no h2 (fun _=>by omega),rfl⟩
  ·have e2:decide (2147483647<a)=false:=decide_eq_false h2
   by_cases h3:n<0
   ·go_wp2
    go_ret
    exact⟨no h3 (fun _=>by omega),rfl⟩
   ·have e3:decide (n<0)=false:=decide_eq_false h3
    by_cases h4:2147483647<n
    ·go_wp2
     go_ret
     exact⟨no h4 (fun _=>by omega),rfl⟩
    ·have e4:decide (2147483647<n)=false:=decide_eq_false h4
     by_cases h5:0<a
     ·obtain rfl:r=true:=HRR.out.2 (by omega)
      go_wp2
      go_ret
      exact⟨rfl,rfl⟩
     ·have e5:decide (0<a)=false:=decide_eq_false h5
      by_cases h6:n=0
      ·obtain rfl:r=true:=HRR.out.2 (by omega)
       subst h6
       go_wp2
       go_ret
       exact⟨rfl,rfl⟩
      ·have e6:(n == 0)=false:=by simpa using h6
       go_wp2
       go_ret
       exact⟨no h6 (fun _=>by omega),rfl⟩
theorem Zij (a n:Int) (w:World) (h1:-4611686018427387904≤a) (h2:a≤4611686018427387904) (r:Int) (HR:Hid ((if 0<n then a+1 else a)=r)):Calls Tryz.prog 88 #[.int .i64 a,.int .i64 n] w fun e w'=>e=.returned (.int .i64 r)∧w'=w:=by
 have hr:=HR.out
 clear HR
 go_enter Tryz.func88,Tryz.ntmps88
 by_cases h:0<n
 ·rw[if_pos h] at hr
  subst hr
  go_wp2
  go_ret
  exact⟨by go_num,rfl⟩
 ·rw[if_neg h] at hr
  subst hr
  have e:decide (0<n)=false:=decide_eq_false h
  go_wp2
  go_ret
  exact⟨rfl,rfl⟩
def chgB (m:Mk):Bool:=decide (m.sg=45) || decide (m.sg=43)
theorem ZhH (m:Mk) (w:World):Calls Tryz.prog 63 #[.agg #[.int .u8 m.sg,.string ⟨m.tx.toArray⟩]] w fun e w'=>e=.returned (.bool (chgB m))∧Below w.heap.size w w':=by
 obtain⟨sg,tx⟩:=m
 obtain⟨m0,m1⟩:=(Mx.new w ⟨sg,tx⟩).cells
 have hB:Below w.heap.size w (w.alloc (mkO ⟨sg,tx⟩)):=(Below.refl _ w).alloc (Nat.le_refl _) _
 unfold mkO at m0 m1 hB
 dsimp only at m0 m1 hB
 unfold chgB
 by_cases h1:sg=45
 ·subst h1
  go_enter Tryz.func63,Tryz.ntmps63
  go_wp2
  go_ret
  exact⟨rfl,hB⟩
 ·have e1:(sg == 45)=false:=by simpa using h1
  by_cases h2:sg=43
  ·subst h2
   go_enter Tryz.func63,Tryz.ntmps63
   go_wp2
   go_ret
   exact⟨rfl,hB⟩
  ·have e2:(sg == 43)=false:=by simpa using h2
   have HE:Hid ((decide (sg=45) || decide (sg=43))=false):=(by show _=_;simp[h1,h2])
   rw[HE.out]
   clear HE h1 h2
   go_enter Tryz.func63,Tryz.ntmps63
   go_wp2
   go_ret
   exact⟨rfl,hB⟩
theorem Zit (m:Mk) (w:World):Calls Tryz.prog 61 #[.agg #[.int .u8 m.sg,.string ⟨m.tx.toArray⟩]] w fun e w'=>e=.returned (.bool (!okS m.sg))∧Below w.heap.size w w':=by
 obtain⟨m0,m1⟩:=(Mx.new w m).cells
 have hB:Below w.heap.size w (w.alloc (mkO m)):=(Below.refl _ w).alloc (Nat.le_refl _) _
 have hW:w.alloc (.cells #[.int .u8 m.sg,.string ⟨m.tx.toArray⟩] 103)=w.alloc (mkO m):=rfl
 generalize w.alloc (mkO m)=W at *
 by_cases h1:m.sg=32
 ·have HE:Hid (okS m.sg=true):=(by show _=_;rw[h1];rfl)
  rw[HE.out]
  have e1:(m.sg != 32)=false:=by simpa using h1
  clear HE h1
  go_enter Tryz.func61,Tryz.ntmps61
  go_wp2
  go_ret
  exact⟨rfl,hB⟩
 ·have e1:(m.sg != 32)=true:=by simpa using h1
  obtain⟨r,hr⟩:∃ r,chgB m=r:=⟨_,rfl⟩
  have HE:Hid (okS m.sg=r):=(by
   show _=_
   rw[← hr]
   unfold okS chgB
   simp[h1])
  have HC:=ZhH m W
  rw[hr] at HC
  rw[HE.out]
  clear HE h1 hr
  go_enter Tryz.func61,Tryz.ntmps61
  go_wp2_with fail
  refine HC.mono ?_
  rintro e w1 ⟨rfl,hB1⟩
  go_wp2
  go_ret
  exact⟨rfl,hB.trans (hB1.mono hB.size)⟩
end

section
open Go.RowKit
theorem ZgT {P:Program} {S:World→Prop} {md:Region.Mode} {ops:Array Oper} {Q:Exit→Act→World→Prop} {fuel:Nat} {listed:Array Bool} {A:Act} {w:World}
  (i d:Nat) (op:Oper) (j e:Nat) (oq:Oper) (hi:ops[i]?=some op) (hd:op.dst=some d) (hj:ops[j]?=some oq) (he:oq.dst=some e) (hr:Region.ready md ops listed=[i,j]) (hwt:Region.wanted op (yielded ops A.tmps)=true) (hwq:Region.wanted oq (yielded ops A.tmps)=true)
  (vp:Value) (wp:World) (hp:(execOp A.eval op).run P w=.ok (.value vp) wp) (hSp:S wp)
  (vq:Value) (wq:World) (hq:(execOp A.eval oq).run P w=.ok (.value vq) wq) (hSq:S wq)
  (h:wpAnyH P md ops Q S fuel (listed.setIfInBounds i true) (A.put (some d) vp) wp)
  (h2:wpAnyH P md ops Q S fuel (listed.setIfInBounds j true) (A.put (some e) vq) wq) :
  wpAnyH P md ops Q S (fuel+1) listed A w:=by
 refine wpAnyH_ready hr (by simp) (AllReadyH.cons hi (fun K hK=>?_) (AllReadyH.cons hj (fun K hK=>?_) AllReadyH.nil))
 ·refine Zsq hwt ?_
  unfold Oper.wp
  rw[hp,Oper.upon_value]
  exact hK.out _ _ hSp (fun _=>by rw[hd];exact h)
 ·refine Zsq hwq ?_
  unfold Oper.wp
  rw[hq,Oper.upon_value]
  exact hK.out _ _ hSq (fun _=>by rw[he];exact h2)
theorem Zfz {w w':World} {T:TypeId} {v vx v':Value} {op:Oper} (x y:Operand) (ho:op.op=.call { callee:=.builtin .append,args:=#[x,y],argTypes:=#[T,T] }) {ev:Operand→Value} (hx:ev x=v) (hy:ev y=vx) (hr:(Builtin.append_ #[T,T] op.type #[v,vx]).run Tryz.prog w=.ok v' w') :
  (execOp ev op).run Tryz.prog w=.ok (.value v') w':=by
 simp[execOp,ho,resolve,invoke,builtin,hx,hy,hr,Result.andThen]
structure Iv (w:World) (q:Hk) (ov:Value) (x:List Mk) (av:Value) (y:List Mk) (u:World):Prop where
 low:Below w.heap.size w u
 box:Hx u w.heap.size q ov
 own:u.ownsRow (w.heap.size+1) 103 2 ov x.length (mkcells x)
 add:u.ownsRow (w.heap.size+1) 103 2 av y.length (mkcells y)
 ne:∀ g,ov.ownBlock=some g→av.ownBlock≠some g
section
variable {w:World} {q:Hk} {ov ov' av av':Value} {x x' y y':List Mk} {u u':World}
theorem ZnC {e:TypeId} {s B:Nat} {v:Value} {n:Nat} {xs:List Value} (ho:u.ownsRow B e s v n xs) {g:Option Nat} (hg:u.grownBy u' g) (hne:∀ k,g=some k→v.ownBlock≠some k):u'.ownsRow B e s v n xs:=by
 refine⟨ho.1,?_⟩
 rcases ho.2 with q | ⟨b,cap,cur,rfl,q2,q3,q4⟩
 ·exact .inl q
 ·refine .inr ⟨b,cap,cur,rfl,q2,?_,q4⟩
  rw[hg.block b (Array.getElem?_eq_some_iff.1 q3).1 (fun e=>hne b e.symm rfl)]
  exact q3
theorem Hx.put5 {b:Nat} {h:Hk} {v:Value} (p:Hx u b h v) (z0 z1 z2 z3 z4:Value):(((((u.setCell ⟨b,0,none⟩ z0).setCell ⟨b,1,none⟩ z1).setCell ⟨b,2,none⟩ z2).setCell ⟨b,3,none⟩ z3).setCell ⟨b,4,none⟩ z4).heap[b]?=some (.cells #[z0,z1,z2,z3,z4] 59 (0,0)):=by
 have s1:=heap_setCell_same u b 0 _ _ z0 p
 have s2:=heap_setCell_same _ b 1 _ _ z1 s1
 have s3:=heap_setCell_same _ b 2 _ _ z2 s2
 have s4:=heap_setCell_same _ b 3 _ _ z3 s3
 exact heap_setCell_same _ b 4 _ _ z4 s4
theorem Znz {e:TypeId} {s B B':Nat} {v:Value} {n:Nat} {xs:List Value} (ho:u.ownsRow B e s v n xs) (hB:B'≤B):u.ownsRow B' e s v n xs:=by
 refine⟨ho.1,?_⟩
 rcases ho.2 with q | ⟨b,cap,cur,rfl,q2,q3,q4⟩
 ·exact .inl q
 ·exact .inr ⟨b,cap,cur,rfl,by omega,q3,q4⟩
end
theorem ZlD (w:World) (m:Mk):Holds (w.alloc (mkO m)) (.slice (some ⟨w.heap.size,0,none⟩) 1 1) 1 (mkcells [m]):=Zmn w #[.int .u8 m.sg,.string ⟨m.tx.toArray⟩] 103 1 1 (by decide)
end

section
structure Pr where
 X:Int
 Y:Int
abbrev ab (p q:Pr):Prop:=q.X<p.X∧q.Y<p.Y
theorem ZaB {p q r:Pr} (h:ab p q) (h':ab q r):ab p r:=⟨Int.lt_trans h'.1 h.1,Int.lt_trans h'.2 h.2⟩
def mxl (p:Pr):List Pr→List Nat→Nat
 | t::ts,n::ns=>if ab t p then max n (mxl p ts ns) else mxl p ts ns
 | _,_=>0
def rl:List Pr→List Nat
 | []=>[]
 | p::t=>(mxl p t (rl t)+1)::rl t
def Hd (t:List Pr) (n:Nat) (p:Pr):Prop:=∃ (k:Nat) (q:Pr),t[k]?=some q∧(rl t)[k]?=some (n+1)∧ab q p
def Stair (h:List Pr):Prop:=h.Pairwise fun a b=>b.X≤a.X∧a.Y≤b.Y
structure Hds (t:List Pr) (H:List (List Pr)):Prop where
 st:∀ h∈H,Stair h
 eq:∀ n h,H[n]?=some h→∀ p,(∃ a∈h,ab a p)↔Hd t n p
 top:∀ n∈rl t,n≤H.length
theorem Hds.start:Hds [] []:=⟨by simp,by simp,by simp[rl]⟩
def upto (h:List Pr) (x:Int):Nat:=h.findIdx fun a=>decide (a.X≤x)
def grt (h:List Pr) (y:Int):Nat:=h.findIdx fun a=>decide (y<a.Y)
def ins (h:List Pr) (p:Pr):List Pr:=h.take (upto h p.X)++p::h.drop (grt h p.Y)
def pick:Nat→Option Pr→List Pr→List Nat→List Pr
 | left,last,p::l,n::ns=>if n=left∧(∀ q,last=some q→ab p q) then p::pick (left-1) (some p) l ns else pick left last l ns
 | _,_,_,_=>[]
def mxn:List Nat→Nat
 | []=>0
 | n::ns=>max n (mxn ns)
def lng (l:List Pr):List Pr:=pick (mxn (rl l)) none l (rl l)
end

section
open Go.RowKit
def prC (p:Pr):List Value:=[.int .i64 p.X,.int .i64 p.Y]
def prcells (l:List Pr):List Value:=l.flatMap prC
end

section
open Go.RowKit
def Blk (w:World) (g:Nat) (cur:List Value):Prop:=w.heap[g]?=some (.cells cur.toArray 249 (0,0))
def spl (cur:List Value) (o:Nat) (cs:List Value):List Value:=cur.take o++cs++cur.drop (o+cs.length)
theorem Zsc {cur:List Value} {o:Nat} {cs:List Value} (h:o+cs.length≤cur.length):(spl cur o cs).length=cur.length:=by
 unfold spl
 simp
 omega
theorem Zrr (w:World) (g:Nat) (cs:Array Value):w.grownBy (w.setRow g cs) (some g) :=
 ⟨rfl,rfl,rfl,by simp[World.setRow],fun k _ hk=>setRow_other w g k cs (fun e=>hk (by rw[e]))⟩
theorem Zva {ops:Array Oper} {rest:List Oper} {o:Oper} {a:Act} {Q:Exit→Act→World→Prop} (w:World) (hw:Region.wanted o (yielded ops a.tmps)=true) (d:Operand) (T:TypeId)
  (ho:o.op=.call { callee:=.builtin .clear,args:=#[d],argTypes:=#[T] }) (v:Value) (hd:a.eval d=v) (v':Value) (w':World)
  (hr:(Builtin.clear_ #[T] o.type #[v]).run Tryz.prog w=.ok v' w') (h:wpList Tryz.prog ops Q rest (a.put o.dst v') w'):wpList Tryz.prog ops Q (o::rest) a w:=by
 refine wpList_step fun K hK=>?_
 rw[if_pos hw]
 unfold Oper.wp
 simp[execOp,ho,resolve,invoke,builtin,hd,hr,Result.andThen]
 exact hK _ _ h
end

section
open Go.RowKit
def sm (r:Rn):Prop:=0≤r.a∧r.a≤4294967296∧0≤r.b∧r.b≤4294967296∧0≤r.n∧r.n≤4294967296
theorem ZnF {w w':World} {base base':Nat} {e e':TypeId} {s s':Nat} {v v':Value} {n n':Nat} {xs xs':List Value} (h:w.ownsRow base e s v n xs) (h':w.ownsRow base' e' s' v' n' xs') (hne:e≠e') (h0:0<n) (hg:w.grownBy w' v'.ownBlock):w'.ownsRow base e s v n xs:=by
 refine h.kept hg (.inr ?_)
 rcases h.2 with ⟨_,h1⟩ | ⟨g,cap,cur,rfl,_,hc,_⟩
 ·omega
 ·rcases h'.2 with ⟨rfl,_⟩ | ⟨g',cap',cur',rfl,_,hc',_⟩
  ·simp[Value.ownBlock]
  ·intro e1
   simp only[Value.ownBlock,Option.some.injEq] at e1
   subst e1
   rw[hc] at hc'
   cases hc'
   exact hne rfl
theorem Zmo (W:World) (g:Nat) (hg:W.heap.size=g) (cs:Array Value) (e:TypeId) (k c:Nat) (hkc:k≤c):Holds (W.alloc (.cells cs e)) (.slice (some ⟨g,0,none⟩) k c) k cs.toList:=by
 subst hg
 exact Zmn W cs e k c hkc
theorem Zbp (rs RS:List Rn) (L:List Ch) (n m:Int) (v:Value) (base:Nat) (w:World) (hbase:base≤w.heap.size) (hv:w.ownsRow base 271 3 v rs.length (rncells rs)) (hlen:rs.length≤1099511627776) (hRS:Hid (rs++[⟨n,m,0⟩]=RS)) (hL:Hid (betw 0 0 RS=L)) (hs:Hid (∀ r∈RS,sm r)) (hN:Hid (∀ c∈L,numB c=true)) :
  Calls Tryz.prog 227 #[v,.int .i64 n,.int .i64 m] w fun e w'=>∃ v',e=.returned (.tuple #[v',.int .i64 0])∧HCh w' v' L∧Below base w w':=by
 obtain⟨ao,ca,rfl⟩:=(holds_of hv).form
 go_enter Tryz.func227,Tryz.ntmps227
 go_wp2_with (at_builtin;refine ZuW _ (by kernel_rfl) (.tmp 15) (.tmp 19) 269 271 (.agg #[.int .i64 0,.int .i64 0,.int .i64 0]) 3 24 rfl Tryz.underlying269 infoRn rfl (by decide) (by decide) base _ _ _ rfl (hv.alloc _) _ 1 (rncells [⟨n,m,0⟩]) rfl (Zmn _ _ _ _ _ (by decide)) rfl (ZpW _) (by omega) (by simp;omega) ?_)
 intro v1 w1 hown1 hgrow1
 have hB1:Below base w w1:=((Below.refl base w).alloc hbase _).grown hgrow1 (by simp;omega) (fun _ hj=>ZnH hv hj)
 have hsz1:=hB1.size
 rw[← ZpT,hRS.out] at hown1
 have hRl:RS.length=rs.length+1:=by rw[← hRS.out];simp
 obtain⟨N,hNe⟩:∃ N,rs.length+1=N:=⟨_,rfl⟩
 rw[hNe] at hown1 hRl
 have hN0:0<N:=by omega
 have hNl:N≤1099511627777:=by omega
 obtain⟨g1,cap1,rfl⟩:∃ g cap,v1=.slice (some ⟨g,0,none⟩) N cap:=by rw[← hNe] at hown1 ⊢;exact ownsRow_succ hown1
 clear hgrow1 hNe hv
 go_wp2
 go_loopw [8,9,10,22] (fun lv av bv iv wr=>∃ (k:Nat) (a b:Int) (X:List Ch),k≤N∧(∃ oo oc,lv=.slice oo X.length oc)∧av=.int .i64 a∧bv=.int .i64 b∧iv=.int .i64 k∧0≤a∧a≤8589934592∧0≤b∧b≤8589934592∧Below base w wr∧wr.ownsRow base 64 4 lv X.length (chcells X)∧X.length≤k∧wr.ownsRow base 271 3 (.slice (some ⟨g1,0,none⟩) N cap1) N (rncells RS)∧Hid (X++betw a b (RS.drop k)=L)) (fun _ _ _ iv _=>N-(intOf iv).toNat)
 case atStart=>exact⟨0,0,0,[],Nat.zero_le _,⟨_,_,rfl⟩,rfl,rfl,rfl,by omega,by omega,by omega,by omega,hB1,World.ownsRow_nil _ _ _ _,Nat.zero_le _,hown1,hL⟩
 case round =>
  obtain⟨k,a,b,X,hk,⟨oo,oc,rfl⟩,rfl,rfl,rfl,ha0,ha1,hb0,hb1,hB,hO,hX,hV,hR⟩:=hrel
  have hsz:=hB.size
  by_cases hlt:k<N
  ·have hV':HRn wr (.slice (some ⟨g1,0,none⟩) N cap1) RS:=by have:=holds_of hV;rw[← hRl] at this ⊢;exact this
   obtain⟨bk,off,hbe,hbk,hc⟩:=HRn.at hV' (by omega)
   cases hbe
   obtain⟨c0,c1,c2⟩:=hc k (by omega)
   have hR':=hR.out
   rw[List.drop_eq_getElem_cons (by omega)] at hR'
   obtain⟨r,hrd⟩:∃ r,RS[k]=r:=⟨_,rfl⟩
   have hsm:=hs.out r (by rw[← hrd];exact List.getElem_mem _)
   rw[hrd] at hR' c0 c1 c2
   clear hc hrd hR hV'
   have HR:Hid (X++betw a b (r::RS.drop (k+1))=L):=hR'
   clear hR'
   obtain⟨ra,rb,rn⟩:=r
   obtain⟨s1,s2,s3,s4,s5,s6⟩:=hsm
   dsimp only at c0 c1 c2 s1 s2 s3 s4 s5 s6
   rw[Nat.zero_add] at c0 c1 c2
   have i1:0≤(k:Int):=by omega
   have i2:(k:Int)<(N:Int):=by omega
   by_cases hea:a<ra
   ·go_wp2_with (at_builtin;refine ZuW _ (by kernel_rfl) (.tmp 36) (.tmp 48) 25 64 (.agg #[.int .i64 0,.int .i64 0,.int .i64 0,.int .i64 0]) 4 32 rfl Tryz.underlying25 infoCh rfl (by decide) (by decide) base _ _ _ rfl ((hO.alloc _).alloc _) _ 1 (chcells [⟨a,ra-a,b,rb-b⟩]) rfl (Zmo _ _ (by simp) _ _ _ _ (by decide)) rfl (ZcD _) (by omega) (by simp;omega) ?_)
    intro v2 w2 hown2 hgrow2
    have hB2:Below base w w2:=((hB.alloc (by omega) _).alloc (by simp;omega) _).grown hgrow2 (by simp;omega) (fun _ hj=>ZnH hO hj)
    have hsz2:=hB2.size
    have hV2:=ZnF ((hV.alloc _).alloc _) ((hO.alloc _).alloc _) (by decide) hN0 hgrow2
    have hbx:w2.heap[wr.heap.size]?=some (Obj.cells #[Value.int IntKind.i64 ra,Value.int IntKind.i64 rb,Value.int IntKind.i64 rn] 271 (0,0)):=by
     rw[hgrow2.block wr.heap.size (by simp;omega) (fun e=>?_)]
     ·exact (Below.heap_alloc _ _ _ (by simp)).trans (_root_.Go.heap_alloc_new wr _)
     ·have h1:=hO.2
      rcases h1 with ⟨h1,_⟩ | ⟨g,cap,cur,h1,_,h3,_⟩
      ·rw[h1] at e;simp[Value.ownBlock] at e
      ·rw[h1] at e
       simp only[Value.ownBlock,Option.some.injEq] at e
       have:=(Array.getElem?_eq_some_iff.1 h3).1
       omega
    have d0:w2.cell? ⟨wr.heap.size,0,none⟩=some (.int .i64 ra):=by rw[Lib.cell_of_heap hbx];rfl
    have d1:w2.cell? ⟨wr.heap.size,1,none⟩=some (.int .i64 rb):=by rw[Lib.cell_of_heap hbx];rfl
    have d2:w2.cell? ⟨wr.heap.size,2,none⟩=some (.int .i64 rn):=by rw[Lib.cell_of_heap hbx];rfl
    rw[← ZcA] at hown2
    obtain⟨oo2,oc2,rfl⟩:=(holds_of hown2).form
    clear hbx hgrow2 c0 c1 c2
    go_wp2_with fail
    go_quiet (fail)
    go_wp2
    go_roundw
    case rel=>exact⟨k+1,ra+rn,rb+rn,X++[⟨a,ra-a,b,rb-b⟩],by omega,⟨_,_,by rw[List.length_append];rfl⟩,by go_num,by go_num,by go_num,by omega,by omega,by omega,by omega,Below.dN hB2 _,by rw[List.length_append];exact hown2,by simp;omega,hV2,(by
      have h:=HR.out
      rw[betw] at h
      rw[if_pos (by dsimp only;omega)] at h
      show _=_
      rw[← h]
      simp)⟩
    case measure=>simp[intOf];omega
   by_cases heb:b<rb
   ·go_wp2_with (at_builtin;refine ZuW _ (by kernel_rfl) (.tmp 36) (.tmp 48) 25 64 (.agg #[.int .i64 0,.int .i64 0,.int .i64 0,.int .i64 0]) 4 32 rfl Tryz.underlying25 infoCh rfl (by decide) (by decide) base _ _ _ rfl ((hO.alloc _).alloc _) _ 1 (chcells [⟨a,ra-a,b,rb-b⟩]) rfl (Zmo _ _ (by simp) _ _ _ _ (by decide)) rfl (ZcD _) (by omega) (by simp;omega) ?_)
    intro v2 w2 hown2 hgrow2
    have hB2:Below base w w2:=((hB.alloc (by omega) _).alloc (by simp;omega) _).grown hgrow2 (by simp;omega) (fun _ hj=>ZnH hO hj)
    have hsz2:=hB2.size
    have hV2:=ZnF ((hV.alloc _).alloc _) ((hO.alloc _).alloc _) (by decide) hN0 hgrow2
    have hbx:w2.heap[wr.heap.size]?=some (Obj.cells #[Value.int IntKind.i64 ra,Value.int IntKind.i64 rb,Value.int IntKind.i64 rn] 271 (0,0)):=by
     rw[hgrow2.block wr.heap.size (by simp;omega) (fun e=>?_)]
     ·exact (Below.heap_alloc _ _ _ (by simp)).trans (_root_.Go.heap_alloc_new wr _)
     ·have h1:=hO.2
      rcases h1 with ⟨h1,_⟩ | ⟨g,cap,cur,h1,_,h3,_⟩
      ·rw[h1] at e;simp[Value.ownBlock] at e
      ·rw[h1] at e
       simp only[Value.ownBlock,Option.some.injEq] at e
       have:=(Array.getElem?_eq_some_iff.1 h3).1
       omega
    have d0:w2.cell? ⟨wr.heap.size,0,none⟩=some (.int .i64 ra):=by rw[Lib.cell_of_heap hbx];rfl
    have d1:w2.cell? ⟨wr.heap.size,1,none⟩=some (.int .i64 rb):=by rw[Lib.cell_of_heap hbx];rfl
    have d2:w2.cell? ⟨wr.heap.size,2,none⟩=some (.int .i64 rn):=by rw[Lib.cell_of_heap hbx];rfl
    rw[← ZcA] at hown2
    obtain⟨oo2,oc2,rfl⟩:=(holds_of hown2).form
    clear hbx hgrow2 c0 c1 c2
    go_wp2_with fail
    go_quiet (fail)
    go_wp2
    go_roundw
    case rel=>exact⟨k+1,ra+rn,rb+rn,X++[⟨a,ra-a,b,rb-b⟩],by omega,⟨_,_,by rw[List.length_append];rfl⟩,by go_num,by go_num,by go_num,by omega,by omega,by omega,by omega,Below.dN hB2 _,by rw[List.length_append];exact hown2,by simp;omega,hV2,(by
      have h:=HR.out
      rw[betw] at h
      rw[if_pos (by dsimp only;omega)] at h
      show _=_
      rw[← h]
      simp)⟩
    case measure=>simp[intOf];omega
   ·go_wp2_with fail
    go_quiet (fail)
    go_wp2
    go_roundw
    case rel=>exact⟨k+1,ra+rn,rb+rn,X,by omega,⟨_,_,rfl⟩,by go_num,by go_num,by go_num,by omega,by omega,by omega,by omega,Below.dN (hB.alloc (by omega) _) _,hO.alloc _,by omega,hV.alloc _,(by
      have h:=HR.out
      rw[betw] at h
      rw[if_neg (by dsimp only;omega)] at h
      exact h)⟩
    case measure=>simp[intOf];omega
  ·have hR':=hR.out
   rw[List.drop_of_length_le (by omega),betw,List.append_nil] at hR'
   subst hR'
   clear hR
   go_wp2
   go_loopw [63] (fun iv wr2=>∃ k:Nat,k≤X.length∧iv=.int .i64 k∧Below base w wr2∧HCh wr2 (.slice oo X.length oc) X) (fun iv _=>X.length-(intOf iv).toNat)
   case atStart=>exact⟨0,Nat.zero_le _,rfl,hB,holds_of hO⟩
   case round =>
    obtain⟨j,hj,rfl,hBj,hXj⟩:=hrel
    have hszj:=hBj.size
    by_cases hjl:j<X.length
    ·obtain⟨bk,off,rfl,hbk,hc⟩:=HCh.at hXj (by omega)
     obtain⟨c0,c1,c2,c3⟩:=hc j hjl
     obtain⟨c,hcd⟩:∃ c,X[j]=c:=⟨_,rfl⟩
     have hnc:=hN.out c (by rw[← hcd];exact List.getElem_mem _)
     rw[hcd] at c0 c1 c2 c3
     clear hc hcd
     obtain⟨A,AN,B,BN⟩:=c
     dsimp only at c0 c1 c2 c3
     have HQ:Hid (numB ⟨A,AN,B,BN⟩=true):=hnc
     clear hnc
     have i1:0≤(j:Int):=by omega
     have i2:(j:Int)<(X.length:Int):=by omega
     go_wp2_with fail
     refine (ZmW ⟨A,AN,B,BN⟩ _).mono ?_
     rintro e w3 ⟨rfl,hB3⟩
     rw[HQ.out]
     have hB4:=((Below.refl wr.heap.size wr).alloc (Nat.le_refl _) (Obj.cells #[Value.int IntKind.i64 A,Value.int IntKind.i64 AN,Value.int IntKind.i64 B,Value.int IntKind.i64 BN] 64)).trans (hB3.mono (by simp))
     clear c0 c1 c2 c3
     go_wp2
     go_roundw
     case rel=>exact⟨j+1,by omega,by go_num,hBj.trans (hB4.mono (by omega)),HCh.keep hXj hB4 (Nat.le_refl _)⟩
     case measure=>simp[intOf];omega
    ·go_wp2
     go_ret2
     exact⟨_,rfl,hXj,hBj⟩
theorem Right.num {f:Bool} {a b n m:Int} {l:List Ch} (h:Right f a b n m l):∀ c∈l,numB c=true:=by
 induction l generalizing f a b with
 | nil=>simp
 | cons c l ih =>
  intro d hd
  rw[List.mem_cons] at hd
  rcases hd with rfl | hd
  ·exact h.1.1
  ·exact ih h.2 d hd
theorem Vk.lt {nx m:Int} {K:List Int} (h:Vk nx m K):∀ z∈K,z=-1∨z<m:=by
 induction K generalizing nx with
 | nil=>simp
 | cons y t ih =>
  intro z hz
  rw[List.mem_cons] at hz
  rcases h with ⟨rfl,h⟩ | ⟨hy,h1,h2,h3⟩
  ·rcases hz with rfl | hz
   ·exact .inl rfl
   ·exact ih h z hz
  ·rcases hz with rfl | hz
   ·exact .inr h2
   ·exact ih h3 z hz
def mkL (K:List Int) (m:Int):List Ch:=betw 0 0 (keptR 0 K++[⟨K.length,m,0⟩])
theorem ZlE {K:List Int} {m:Int} (h:Vk 0 m K) (h0:0≤m) (hm:m≤2147483647) (hl:K.length≤1048576):Script (mkL K m) K.length m∧U 0 0 K.length m (mkL K m)=keptR 0 K:=by
 have hf:=h.fit h0 (i:=0)
 rw[Int.zero_add] at hf
 have:=Zgn hf (Int.le_refl _) (Int.le_refl _) (by omega) hm
 exact⟨⟨by omega,h0,this.1⟩,this.2⟩
theorem Zjw {K:List Int} {m:Int} (h:Vk 0 m K) (h0:0≤m) (hm:m≤2147483647) (hl:K.length≤1048576):∀ r∈keptR 0 K++[⟨K.length,m,0⟩],sm r:=by
 intro r hr
 rw[List.mem_append,List.mem_singleton] at hr
 rcases hr with hr | rfl
 ·rw[Zln] at hr
  obtain⟨h1,h2,h3,h4⟩:=hr
  have hlt:=(List.getElem?_eq_some_iff.1 h3).1
  have hz:=List.mem_of_getElem? h3
  have:=h.each (Int.le_refl _) _ hz
  have:=h.lt _ hz
  unfold sm
  omega
 ·unfold sm
  dsimp only
  omega
theorem Zju (i:Int) (K:List Int):(keptR i K).length≤K.length:=by
 induction K generalizing i with
 | nil=>simp[keptR]
 | cons z t ih =>
  have:=ih (i+1)
  rw[keptR]
  split<;>simp<;>omega
theorem Zap (K:List Int) (m:Int) (L:List Ch) (v:Value) (w:World) (hK:HI w v K) (hlen:K.length≤1048576) (hV:Hid (Vk 0 m K)) (hm0:0≤m) (hm:m≤2147483647) (hL:Hid (mkL K m=L)) :
  Calls Tryz.prog 179 #[v,.int .i64 m] w fun e w'=>∃ v',e=.returned (.tuple #[v',.int .i64 0])∧HCh w' v' L∧Below w.heap.size w w':=by
 obtain⟨ao,ca,rfl⟩:=Holds.form hK
 go_enter Tryz.func179,Tryz.ntmps179
 go_wp2
 go_loopw [6,7,14] (fun kv nv iv wr=>∃ (k:Nat) (nx:Int) (X:List Rn),k≤K.length∧(∃ oo oc,kv=.slice oo X.length oc)∧nv=.int .i64 nx∧iv=.int .i64 k∧0≤nx∧nx≤m∧Below w.heap.size w wr∧wr.ownsRow w.heap.size 271 3 kv X.length (rncells X)∧X.length≤k∧Hid (Vk nx m (K.drop k)∧X++keptR k (K.drop k)=keptR 0 K)) (fun _ _ iv _=>K.length-(intOf iv).toNat)
 case atStart=>exact⟨0,0,[],Nat.zero_le _,⟨_,_,rfl⟩,rfl,rfl,by omega,by omega,Below.refl _ w,World.ownsRow_nil _ _ _ _,Nat.zero_le _,(⟨hV.out,rfl⟩:_∧_)⟩
 case round =>
  obtain⟨k,nx,X,hk,⟨oo,oc,rfl⟩,rfl,rfl,hn0,hnm,hB,hO,hX,hR⟩:=hrel
  have hsz:=hB.size
  by_cases hlt:k<K.length
  ·obtain⟨bk,off,rfl,hbk,hc⟩:=HI.at (HI.keep hK hB (Nat.le_refl _)) (by omega)
   have c0:=hc k hlt
   have hR':=hR.out
   rw[List.drop_eq_getElem_cons hlt] at hR'
   obtain⟨z,hzd⟩:∃ z,K[k]=z:=⟨_,rfl⟩
   rw[hzd] at hR' c0
   clear hc hzd hR
   have i1:0≤(k:Int):=by omega
   have i2:(k:Int)<(K.length:Int):=by omega
   by_cases hz:z=-1
   ·subst hz
    have HR:Hid (Vk nx m (K.drop (k+1))∧X++keptR (k+1:Nat) (K.drop (k+1))=keptR 0 K):=(by
     obtain⟨h1,h2⟩:=hR'
     rw[keptR,if_pos rfl] at h2
     rcases h1 with ⟨_,h1⟩ | ⟨h1,_⟩
     ·exact⟨h1,h2⟩
     ·exact absurd rfl h1)
    clear hR'
    go_wp2
    go_roundw
    case rel=>exact⟨k+1,nx,X,by omega,⟨_,_,rfl⟩,rfl,by go_num,hn0,hnm,hB,hO,by omega,HR⟩
    case measure=>simp[intOf];omega
   ·have hq:nx≤z∧z<m∧Vk (z+1) m (K.drop (k+1)):=by
     rcases hR'.1 with ⟨h1,_⟩ | ⟨_,h1⟩
     ·exact absurd h1 hz
     ·exact h1
    obtain⟨q1,q2,q3⟩:=hq
    have HR:Hid (Vk (z+1) m (K.drop (k+1))∧X++[⟨k,z,1⟩]++keptR (k+1:Nat) (K.drop (k+1))=keptR 0 K):=(by
     obtain⟨_,h2⟩:=hR'
     rw[keptR,if_neg hz] at h2
     refine⟨q3,?_⟩
     rw[← h2,List.append_assoc]
     rfl)
    clear hR' q3
    have hz2:decide (z=-1)=false:=decide_eq_false hz
    go_wp2_with (at_builtin;refine ZuW _ (by kernel_rfl) (.tmp 29) (.tmp 33) 269 271 (.agg #[.int .i64 0,.int .i64 0,.int .i64 0]) 3 24 rfl Tryz.underlying269 infoRn rfl (by decide) (by decide) w.heap.size _ _ _ rfl (hO.alloc _) _ 1 (rncells [⟨k,z,1⟩]) rfl (Zmn _ _ _ _ _ (by decide)) rfl (ZpW _) (by omega) (by simp;omega) ?_)
    intro v2 w2 hown2 hgrow2
    have hB2:Below w.heap.size w w2:=(hB.alloc (by omega) _).grown hgrow2 (by simp;omega) (fun _ hj=>ZnH hO hj)
    rw[← ZpT] at hown2
    obtain⟨oo2,oc2,rfl⟩:=(holds_of hown2).form
    clear hgrow2 c0
    go_wp2
    go_roundw
    case rel=>exact⟨k+1,z+1,X++[⟨k,z,1⟩],by omega,⟨_,_,by rw[List.length_append];rfl⟩,by go_num,by go_num,by omega,by omega,hB2,by rw[List.length_append];exact hown2,by simp;omega,HR⟩
    case measure=>simp[intOf];omega
  ·have hR':=hR.out
   rw[List.drop_of_length_le (by omega),keptR,List.append_nil] at hR'
   have hXe:=hR'.2
   subst hXe
   clear hR hR'
   go_wp2_with fail
   refine (Zbp _ _ L K.length m _ w.heap.size wr (by omega) hO (by have:=Zju 0 K;omega) rfl hL (Zjw hV.out hm0 hm hlen) (by
    have h:=(ZlE hV.out hm0 hm hlen).1.2.2.num
    rw[hL.out] at h
    exact h)).mono ?_
   rintro e w2 ⟨v',rfl,hv',hB2⟩
   go_wp2
   go_ret2
   exact⟨_,rfl,hv',hB.trans hB2⟩
end

section
def lc:List Int→List Int→Nat
 | [],_=>0
 | _::_,[]=>0
 | a::x,b::y=>if a=b then lc x y+1 else max (lc x (b::y)) (lc (a::x) y)
theorem ZjS (y:List Int):lc [] y=0:=by rw[lc]
theorem ZjT (x:List Int):lc x []=0:=by cases x<;>rw[lc]
theorem ZjP (a b:Int) (x y:List Int):lc (a::x) (b::y)=if a=b then lc x y+1 else max (lc x (b::y)) (lc (a::x) y):=by rw[lc]
theorem ZjQ (x y:List Int):∃ s:List Int,s.Sublist x∧s.Sublist y∧s.length=lc x y:=by
 induction x generalizing y with
 | nil=>exact⟨[],List.Sublist.refl _,List.nil_sublist _,by rw[ZjS];rfl⟩
 | cons a x ih =>
  induction y with
  | nil=>exact⟨[],List.nil_sublist _,List.Sublist.refl _,by rw[ZjT];rfl⟩
  | cons b y ihy =>
   rw[ZjP]
   by_cases h:a=b
   ·subst h
    obtain⟨s,h1,h2,h3⟩:=ih y
    exact⟨a::s,h1.cons_cons a,h2.cons_cons a,by rw[if_pos rfl];simp[h3]⟩
   ·rw[if_neg h]
    obtain⟨s,h1,h2,h3⟩:=ih (b::y)
    obtain⟨t,k1,k2,k3⟩:=ihy
    by_cases hm:lc x (b::y)≤lc (a::x) y
    ·exact⟨t,k1,k2.cons b,by omega⟩
    ·exact⟨s,h1.cons a,h2,by omega⟩
theorem ZjR (x y:List Int):lc x y≤x.length:=by
 obtain⟨s,h1,_,h3⟩:=ZjQ x y
 rw[← h3];exact h1.length_le
def gr:List Int→List Int→Nat
 | [],_=>0
 | _::_,[]=>0
 | a::x,b::y=>if a=b then gr x y+1 else gr (a::x) y
def kp (b:Int):List Int→List Int→List Int
 | [],_=>[]
 | _::x,[]=>-1::kp b x []
 | a::x,c::y=>if a=c then b::kp (b+1) x y else if lc (a::x) y≤lc x (c::y) then -1::kp b x (c::y) else kp (b+1) (a::x) y
theorem ZjC (b:Int) (y:List Int):kp b [] y=[]:=by rw[kp]
theorem ZjD (b:Int) (x:List Int):kp b x []=List.replicate x.length (-1):=by
 induction x with
 | nil=>rw[kp];rfl
 | cons a x ih=>rw[kp,ih];rfl
theorem Zjz (b a c:Int) (x y:List Int):kp b (a::x) (c::y)=if a=c then b::kp (b+1) x y else if lc (a::x) y≤lc x (c::y) then -1::kp b x (c::y) else kp (b+1) (a::x) y:=by rw[kp]
theorem ZjB (b:Int) (x y:List Int):(kp b x y).length=x.length:=by
 induction x generalizing y b with
 | nil=>rw[ZjC]
 | cons a x ih =>
  induction y generalizing b with
  | nil=>rw[ZjD];simp
  | cons c y ihy =>
   rw[Zjz]
   split
   ·simp[ih]
   split
   ·simp[ih]
   ·exact ihy _
theorem Vk.up {a b m:Int} {K:List Int} (h:Vk b m K) (hab:a≤b):Vk a m K:=by
 induction K with
 | nil=>trivial
 | cons z t ih =>
  rcases h with ⟨h1,h2⟩ | ⟨h1,h2,h3⟩
  ·exact .inl ⟨h1,ih h2⟩
  ·exact .inr ⟨h1,by omega,h3⟩
theorem Vk.none (b m:Int) (k:Nat):Vk b m (List.replicate k (-1)):=by
 induction k with
 | zero=>trivial
 | succ k ih=>exact .inl ⟨rfl,ih⟩
theorem ZjI (b:Int) (x y:List Int) (hb:0≤b):Vk b (b+y.length) (kp b x y):=by
 induction x generalizing y b with
 | nil=>rw[ZjC];trivial
 | cons a x ih =>
  induction y generalizing b with
  | nil=>rw[ZjD];exact Vk.none _ _ _
  | cons c y ihy =>
   rw[Zjz]
   split
   ·refine .inr ⟨by omega,by omega,by simp;omega,?_⟩
    have:=ih (b+1) y (by omega)
    rw[show b+((c::y).length:Int)=b+1+(y.length:Int) by simp;omega]
    exact this
   split
   ·exact .inl ⟨rfl,ih b (c::y) hb⟩
   ·have:=ihy (b+1) (by omega)
    rw[show b+((c::y).length:Int)=b+1+(y.length:Int) by simp;omega]
    exact this.up (by omega)
theorem ZjE (b:Int) (x y:List Int) (hb:0≤b) (i:Nat) (z:Int) (h:(kp b x y)[i]?=some z) (hz:0≤z):b≤z∧∃ c,x[i]?=some c∧y[(z-b).toNat]?=some c:=by
 induction x generalizing y b i with
 | nil=>rw[ZjC] at h;simp at h
 | cons a x ih =>
  induction y generalizing b i with
  | nil =>
   rw[ZjD] at h
   have:=List.eq_of_mem_replicate (List.mem_of_getElem? h)
   omega
  | cons c y ihy =>
   rw[Zjz] at h
   by_cases e:a=c
   ·subst e
    rw[if_pos rfl] at h
    cases i with
    | zero =>
     simp at h
     subst h
     exact⟨Int.le_refl _,a,by simp,by simp⟩
    | succ i =>
     obtain⟨h1,d,h2,h3⟩:=ih (b+1) y (by omega) i (by simpa using h)
     refine⟨by omega,d,by simpa using h2,?_⟩
     rw[show (z-b).toNat=(z-(b+1)).toNat+1 by omega]
     simpa using h3
   ·rw[if_neg e] at h
    split at h
    ·cases i with
     | zero=>simp at h;omega
     | succ i =>
      obtain⟨h1,d,h2,h3⟩:=ih b (c::y) hb i (by simpa using h)
      exact⟨h1,d,by simpa using h2,h3⟩
    ·obtain⟨h1,d,h2,h3⟩:=ihy (b+1) (by omega) i h
     refine⟨by omega,d,h2,?_⟩
     rw[show (z-b).toNat=(z-(b+1)).toNat+1 by omega]
     simpa using h3
def fr:List Int→List Int→Nat
 | a::x,b::y=>if a=b then fr x y+1 else 0
 | _,_=>0
theorem ZgF (x y:List Int):fr x y≤x.length∧fr x y≤y.length:=by
 induction x generalizing y with
 | nil=>simp[fr]
 | cons a x ih =>
  cases y with
  | nil=>simp[fr]
  | cons b y =>
   have:=ih y
   rw[fr]
   split<;>simp<;>omega
theorem ZgE (x y:List Int) (i:Nat) (h:i<fr x y):x[i]?=y[i]?:=by
 induction x generalizing y i with
 | nil=>simp[fr] at h
 | cons a x ih =>
  cases y with
  | nil=>simp[fr] at h
  | cons b y =>
   rw[fr] at h
   split at h
   ·rename_i e
    subst e
    cases i with
    | zero=>simp
    | succ i=>simpa using ih y i (by omega)
   ·omega
theorem ZgG (x y:List Int) (i:Nat) (hx:i<x.length) (hy:i<y.length):fr (x.drop i) (y.drop i)=if x[i]=y[i] then fr (x.drop (i+1)) (y.drop (i+1))+1 else 0:=by
 rw[List.drop_eq_getElem_cons hx,List.drop_eq_getElem_cons hy,fr]
def ln (x y:List Int) (i j:Nat):Nat:=lc (x.drop i) (y.drop j)
theorem Zkm (x y:List Int) (i j:Nat) (h:x.length≤i∨y.length≤j):ln x y i j=0:=by
 rcases h with h | h
 ·rw[ln,List.drop_of_length_le h,ZjS]
 ·rw[ln,List.drop_of_length_le h,ZjT]
theorem Zko (x y:List Int) (i j:Nat) (hx:i<x.length) (hy:j<y.length):ln x y i j=if x[i]=y[j] then ln x y (i+1) (j+1)+1 else max (ln x y (i+1) j) (ln x y i (j+1)):=by
 unfold ln
 rw[List.drop_eq_getElem_cons hx,List.drop_eq_getElem_cons hy,ZjP]
theorem Zkn (x y:List Int) (i j:Nat):ln x y i j≤x.length:=by
 have:=ZjR (x.drop i) (y.drop j)
 simp at this
 unfold ln
 omega
theorem ZjH (b:Int) (x y:List Int) (i j:Nat) (hx:i<x.length) (hy:j<y.length):kp b (x.drop i) (y.drop j)=if x[i]=y[j] then b::kp (b+1) (x.drop (i+1)) (y.drop (j+1)) else if ln x y i (j+1)≤ln x y (i+1) j then -1::kp b (x.drop (i+1)) (y.drop j) else kp (b+1) (x.drop i) (y.drop (j+1)):=by
 unfold ln
 rw[List.drop_eq_getElem_cons hx,List.drop_eq_getElem_cons hy,Zjz]
theorem ZjF (b:Int) (x y:List Int) (i:Nat) (h:i<fr x y):kp b (x.drop i) (y.drop i)=b::kp (b+1) (x.drop (i+1)) (y.drop (i+1)):=by
 have h1:=ZgF x y
 rw[ZjH b x y i i (by omega) (by omega),if_pos]
 have:=ZgE x y i h
 rw[List.getElem?_eq_getElem (by omega),List.getElem?_eq_getElem (by omega)] at this
 simpa using this
end

section
open Go.RowKit
theorem info16:(Tryz.prog.info? 305).map (fun i=>(i.zero,i.size,i.bytes))=some (some (.int .i16 0),1,2):=by kernel_rfl
def tabV (W g N:Nat):Value:=.agg #[.int .i64 (W:Int),.slice (some ⟨g,0,none⟩) N N]
theorem ZqJ (g N p q:Nat) (hpq:p≤q) (hq:q≤N) (hp:p<N) (u:World) :
  (Instr.slice 275 (.slice (some ⟨g,0,none⟩) N N) (some (.int .i64 (p:Int))) (some (.int .i64 (q:Int))) none).run Tryz.prog u=.ok (.slice (some ⟨g,p,none⟩) (q-p) (N-p)) u:=by
 rw[run_slice_lh (P:=Tryz.prog) u 275 (some ⟨g,0,none⟩) N N (by kernel_rfl) .i64 .i64 p q (by omega) (by omega) (by omega)]
 have:(sizeOf (Tryz.prog.elem 275)).run Tryz.prog u=.ok 1 u:=by kernel_rfl
 rw[this]
 simp[Result.andThen,sliced,add_none]
 omega
theorem Zqf (W g N p q L:Nat) (hL:q-p=L) (z:Int) (w:World) (h1:z * (W:Int)=(p:Int)) (h2:(z+1) * (W:Int)=(q:Int)) (hpq:p≤q) (hq:q≤N) (hp:p<N) (hN:N≤1099511627776) (hi0:0≤z) (hi:z≤1099511627776) :
  Calls Tryz.prog 250 #[tabV W g N,.int .i64 z] w fun e w'=>e=.returned (.slice (some ⟨g,p,none⟩) L (N-p))∧Below w.heap.size w w':=by
 have hr:=ZqJ g N p q hpq hq hp
 rw[hL] at hr
 clear hL
 unfold tabV
 go_enter Tryz.func250,Tryz.ntmps250
 go_wp2
 go_ret
 exact⟨rfl,(Below.refl _ w).alloc (Nat.le_refl _) _⟩
theorem at_n (W g N i j p q:Nat) (x:Int) (w:World) (h1:(i:Int) * (W:Int)=(p:Int)) (h2:(p:Int)+(j:Int)=(q:Int)) (hN:N≤1099511627776) (hpj:q<N) (hx:w.cell? ⟨g,q,none⟩=some (.int .i16 x)) (hx0:0≤x) (hx1:x≤4096) :
  Calls Tryz.prog 231 #[tabV W g N,.int .i64 (i:Int),.int .i64 (j:Int)] w fun e w'=>e=.returned (.int .i64 x)∧Below w.heap.size w w':=by
 have hg:=World.block_lt_of_cell? w _ hx
 have hx':(w.alloc (Obj.cells #[Value.int IntKind.i64 (W:Int),Value.slice (some ⟨g,0,none⟩) N N] 277)).cell? ⟨g,q,none⟩=some (.int .i16 x):=by
  rw[World.cell?_of_block (w:=w) (Below.heap_alloc _ _ _ hg)];exact hx
 have i1:0≤(q:Int):=by omega
 have i2:(q:Int)<(N:Int):=by omega
 unfold tabV
 go_enter Tryz.func231,Tryz.ntmps231
 go_wp2
 go_ret
 exact⟨rfl,(Below.refl _ w).alloc (Nat.le_refl _) _⟩
theorem at_f (W g N p q:Nat) (i j x:Int) (w:World) (hi:0≤i) (hj:0≤j) (h1:i * (W:Int)=(p:Int)) (h2:(p:Int)+j=(q:Int)) (hN:N≤1099511627776) (hpj:q<N) (hx:w.cell? ⟨g,q,none⟩=some (.int .i16 x)) (hx0:0≤x) (hx1:x≤4096) :
  Calls Tryz.prog 231 #[tabV W g N,.int .i64 i,.int .i64 j] w fun e w'=>e=.returned (.int .i64 x)∧Below w.heap.size w w':=by
 obtain⟨a,rfl⟩:=Int.eq_ofNat_of_zero_le hi
 obtain⟨b,rfl⟩:=Int.eq_ofNat_of_zero_le hj
 exact at_n W g N a b p q x w h1 h2 hN hpj hx hx0 hx1
end

end Go.Proofs.YtgiojkhmkeocfaaGreatDoor
