/-
  Texts that belong together, joined: MiMs, MiFr, MiLc, MiRep, MiKp, MiKw, MiDf, MiKm, PcMath, HiMath, HiRuns, EdOpen, HiMp, PcSl, HiGr, HiCm, HiOd, HiBm, PaRow, PaCp, HuCh, HuCn, HuOne, HuGr, HuC7, EdReg, EdApp, EdSameS, EdRApp, HuC8, HuC9, HuMk, HuCa, EdOpenS.
-/
import Derived.Test.YtcniomgjikienaaGreatDoorVkA2
import Derived.Sort.AtCall
import Derived.Laws.CopyOwn
import Derived.Laws.Bits64b
import Derived.Test.YtcniomgjikienaaGreatDoorRows
import Derived.Test.YtcniomgjikienaaGreatDoorChecked
import Derived.ProofKit
import Derived.OpenShut
import Derived.ShutString
import Derived.ChangeOld
import Derived.Below
import Derived.SliceStrings
import Derived.ChangeSlices
import Derived.Deep.Slices
import Derived.Deep.SlicePairs
import Derived.JoinedCond
import Derived.Maps.OwnSet
import Derived.Carry
import Derived.Maps.OwnRows
import Derived.Maps.GroupsBeside
import Derived.Deep.CutRange
import Derived.Lib.Overlaps
import Derived.Lib.AppendZerosOnto

set_option maxHeartbeats 16000000
set_option maxRecDepth 100000
namespace Go.Proofs.YtcniomgjikienaaGreatDoor

section
open Go.RowKit
theorem ZeC {W i j i' j':Nat} (hj:j<W) (hj':j'<W) (h:i * W+j=i' * W+j'):i=i'∧j=j':=by
 have h1:(i * W+j) / W=i:=by rw[Nat.mul_comm,Nat.mul_add_div (by omega),Nat.div_eq_of_lt hj,Nat.add_zero]
 have h2:(i' * W+j') / W=i':=by rw[Nat.mul_comm,Nat.mul_add_div (by omega),Nat.div_eq_of_lt hj',Nat.add_zero]
 have h3:i=i':=by rw[← h1,← h2,h]
 subst h3
 exact⟨rfl,by omega⟩
theorem ZeD {W i j n:Nat} (hj:j<W) (hi:i≤n):i * W+j<(n+1) * W:=by
 have:i * W≤n * W:=Nat.mul_le_mul_right _ hi
 rw[Nat.succ_mul]
 omega
def Done (x y:List Int) (k c:Nat) (Y:List Value):Prop:=∀ i j,i≤x.length→j≤y.length→(k<i∨(i=k∧c≤j)∨j=y.length)→Y[i * (y.length+1)+j]?=some (.int .i16 ((ln x y i j:Nat):Int))
theorem Done.next {x y:List Int} {i:Nat} {Y:List Value} (h:Done x y (i+1) 0 Y):Done x y i y.length Y:=by
 intro i' j' hi hj hc
 exact h i' j' hi hj (by omega)
theorem Done.set {x y : List Int} {i j : Nat} {Y : List Value} (h : Done x y i (j + 1) Y) (hi : i ≤ x.length) (hj : j < y.length) (hY : Y.length = (x.length + 1) * (y.length + 1)) (p : Nat) (hp : p = i * (y.length + 1) + j) (v : Int) (hv : v = ((ln x y i j : Nat) : Int)) : Done x y i j (Y.set p (.int .i16 v)) := by
  intro i' j' hi' hj' hc
  subst hp hv
  by_cases e : i' * (y.length + 1) + j' = i * (y.length + 1) + j
  · obtain ⟨rfl, rfl⟩ := ZeC (by omega) (by omega) e
    rw [List.getElem?_set_self]
    rw [hY]
    exact ZeD (by omega) hi
  · rw [List.getElem?_set_ne (fun h => e h.symm)]
    refine h i' j' hi' hj' ?_
    rcases hc with hc | ⟨rfl, hc⟩ | hc
    · exact .inl hc
    · exact .inr (.inl ⟨rfl, by by_cases q : j' = j; · subst q; exact absurd rfl e
                                · omega⟩)
    · exact .inr (.inr hc)
structure Bx (b W g N:Nat) (wr w:World):Prop where
 box:w.heap[b]?=some (Obj.cells #[.int .i64 (W:Int),.slice (some ⟨g,0,none⟩) N N] 282 (0,0))
 low:Below wr.heap.size wr w
theorem Bx.cells {b W g N:Nat} {wr w:World} (h:Bx b W g N wr w):w.cell? ⟨b,0,none⟩=some (.int .i64 (W:Int))∧w.cell? ⟨b,1,none⟩=some (.slice (some ⟨g,0,none⟩) N N):=⟨by rw[Lib.cell_of_heap h.box];rfl,by rw[Lib.cell_of_heap h.box];rfl⟩
theorem ZaL (b W g N:Nat) (wr w:World):Bx b W g N wr w.drew↔Bx b W g N wr w:=⟨fun h=>⟨h.box,⟨h.low.os,h.low.tape,h.low.output,h.low.size,h.low.block⟩⟩,fun h=>⟨h.box,Below.dN h.low 1⟩⟩
theorem Bx.keep {b W g N:Nat} {wr w w':World} (h:Bx b W g N wr w) (hb:Below w.heap.size w w'):Bx b W g N wr w':=⟨(hb.block b (Array.getElem?_eq_some_iff.1 h.box).1).trans h.box,h.low.trans (hb.mono h.low.size)⟩
attribute [local simp] ZaL
structure Ms (w:World) (M N:Nat) (Y:List Value) (wr:World):Prop where
 low:Below w.heap.size w wr
 res:wr.heap[w.heap.size]?=some (Obj.cells #[Value.int IntKind.i64 0,Value.slice none 0 0] 282 (0,0))
 own:wr.ownsRow w.heap.size 323 1 (.slice (some ⟨w.heap.size+1,0,none⟩) N N) N Y
 box:wr.heap[w.heap.size+1+1]?=some (Obj.cells #[.int .i64 (M:Int),.slice (some ⟨w.heap.size+1,0,none⟩) N N] 282 (0,0))
theorem Ms.keep {w:World} {M N:Nat} {Y:List Value} {wr w':World} (h:Ms w M N Y wr) (hb:Below wr.heap.size wr w'):Ms w M N Y w' :=
 ⟨h.low.trans (hb.mono h.low.size),(hb.block _ (Array.getElem?_eq_some_iff.1 h.res).1).trans h.res,ZhK h.own hb,(hb.block _ (Array.getElem?_eq_some_iff.1 h.box).1).trans h.box⟩
theorem Ms.bx {w:World} {M N:Nat} {Y:List Value} {wr:World} (h:Ms w M N Y wr):Bx (w.heap.size+1+1) M (w.heap.size+1) N wr wr:=⟨h.box,Below.refl _ _⟩
theorem Ms.store {w:World} {M N:Nat} {Y:List Value} {wr:World} (h:Ms w M N Y wr) (p:Nat) (v:Value):Ms w M N (Y.set p v) (wr.setCell ⟨w.heap.size+1,p,none⟩ v):=by
 obtain⟨p1,g1⟩:=h.own.stored p v
 refine⟨h.low.grown g1 h.low.size (fun j hj=>by cases hj;omega),?_,p1,?_⟩
 ·exact (g1.block _ (Array.getElem?_eq_some_iff.1 h.res).1 (fun e=>by have:=Option.some.inj e;omega)).trans h.res
 ·exact (g1.block _ (Array.getElem?_eq_some_iff.1 h.box).1 (fun e=>by have:=Option.some.inj e;omega)).trans h.box
theorem Ms.drewN {w:World} {M N:Nat} {Y:List Value} {wr:World} (h:Ms w M N Y wr) (n:Nat):Ms w M N Y (wr.drewN n):=⟨Below.dN h.low n,h.res,h.own,h.box⟩
theorem Ms.at {w:World} {M N:Nat} {Y:List Value} {wr:World} (h:Ms w M N Y wr) {x y:List Int} {k c i j p:Nat} (hd:Done x y k c Y) (hM:M=y.length+1) (hN:N=(x.length+1) * M) (hi:i≤x.length) (hj:j≤y.length) (hc:k<i∨(i=k∧c≤j)∨j=y.length) (hp:p=i * M):wr.cell? ⟨w.heap.size+1,p+j,none⟩=some (.int .i16 ((ln x y i j:Nat):Int)):=by
 have:=h.own.cellAt (p+j) (by rw[hp,hN,Nat.mul_one];exact ZeD (by omega) hi)
 rw[this,hp,hM]
 exact hd i j hi hj hc
end

section
open Go.RowKit
end

section
open Go.RowKit
attribute [local simp] ZfM
theorem Low.then {W w w':World} (h:Low W w) (hb:Below w.heap.size w w'):Low W w':=Below.trans h (hb.mono (Below.size h))
end

section
open Go.RowKit
attribute [local simp] ZfM
def Ones (cur:List Value) (N k:Nat):Prop:=cur.length=N∧cur.take k=icells (List.replicate k (-1))
theorem Ones.more {cur:List Value} {N k d:Nat} (h:Ones cur N k) (hk:k+d≤N):Ones (splice cur k (icells (List.replicate d (-1)))) N (k+d):=by
 refine⟨?_,?_⟩
 ·rw[length_splice _ _ _ (by rw[Zes,h.1];simpa using hk),h.1]
 ·have h1:(cur.take k).length=k:=by rw[List.length_take,h.1];omega
  rw[splice,← List.append_assoc,List.take_left' (by rw[List.length_append,h1,Zes,List.length_replicate]),h.2,← Zer,List.replicate_append_replicate]
theorem Ones.cell {cur:List Value} {N k:Nat} (h:Ones cur N k) (j:Nat) (hj:j<k):cur[j]?=some (.int .i64 (-1)):=by
 have:(cur.take k)[j]?=some (.int .i64 (-1)):=by rw[h.2];simp[icells,hj]
 rw[List.getElem?_take] at this
 simpa [hj] using this
end

section
open Go.RowKit
def Pt (K Z:List Int) (n a:Nat) (b:Int) (X Y:List Int):Prop:=∃ P:List Int,P.length=a∧a≤n∧Z=P++List.replicate (n-a) (-1)∧P++kp b X Y=K
theorem Pt.len {K Z:List Int} {n a:Nat} {b:Int} {X Y:List Int} (h:Pt K Z n a b X Y):Z.length=n:=by
 obtain⟨P,h1,h2,h3,_⟩:=h
 rw[h3,List.length_append,h1,List.length_replicate]
 omega
theorem Pt.pair {K Z:List Int} {n a:Nat} {b:Int} {X Y X' Y':List Int} (h:Pt K Z n a b X Y) (hn:a<n) (hk:kp b X Y=b::kp (b+1) X' Y'):Pt K (Z.set a b) n (a+1) (b+1) X' Y':=by
 obtain⟨P,h1,h2,h3,h4⟩:=h
 refine⟨P++[b],by simp[h1],hn,?_,by rw[← h4,hk];simp⟩
 rw[h3,show n-a=(n-(a+1))+1 by omega,List.replicate_succ,List.set_append_right _ _ (by omega),h1]
 simp
theorem Pt.out {K Z:List Int} {n a:Nat} {b:Int} {X Y X':List Int} (h:Pt K Z n a b X Y) (hn:a<n) (hk:kp b X Y=-1::kp b X' Y):Pt K Z n (a+1) b X' Y:=by
 obtain⟨P,h1,h2,h3,h4⟩:=h
 refine⟨P++[-1],by simp[h1],hn,?_,by rw[← h4,hk];simp⟩
 rw[h3,show n-a=(n-(a+1))+1 by omega,List.replicate_succ]
 simp
theorem Pt.skip {K Z:List Int} {n a:Nat} {b:Int} {X Y Y':List Int} (h:Pt K Z n a b X Y) (hk:kp b X Y=kp (b+1) X Y'):Pt K Z n a (b+1) X Y':=by
 obtain⟨P,h1,h2,h3,h4⟩:=h
 exact⟨P,h1,h2,h3,by rw[← h4,hk]⟩
theorem Pt.done {K Z:List Int} {n a:Nat} {b:Int} {X Y:List Int} (h:Pt K Z n a b X Y) (hX:X.length=n-a) (he:X=[]∨Y=[]):Z=K:=by
 obtain⟨P,h1,h2,h3,h4⟩:=h
 rcases he with rfl | rfl
 ·rw[Zfn,List.append_nil] at h4
  simp at hX
  rw[h3,← hX,← h4]
  simp
 ·rw[Zfo,hX] at h4
  rw[h3,h4]
structure Kst (w:World) (g gt bx n M N:Nat) (Z:List Int) (T:List Value) (wr:World):Prop where
 low:Below w.heap.size w wr
 own:wr.ownsRow w.heap.size 3 1 (.slice (some ⟨g,0,none⟩) n n) n (icells Z)
 tab:wr.ownsRow w.heap.size 323 1 (.slice (some ⟨gt,0,none⟩) N N) N T
 box:wr.heap[bx]?=some (Obj.cells #[.int .i64 (M:Int),.slice (some ⟨gt,0,none⟩) N N] 282 (0,0))
section
variable {w:World} {g gt bx n M N:Nat} {Z:List Int} {T:List Value} {wr:World}
theorem Kst.keep {w':World} (h:Kst w g gt bx n M N Z T wr) (hb:Below wr.heap.size wr w'):Kst w g gt bx n M N Z T w' :=
 ⟨h.low.trans (hb.mono h.low.size),ZhK h.own hb,ZhK h.tab hb,(hb.block _ (Array.getElem?_eq_some_iff.1 h.box).1).trans h.box⟩
theorem Kst.drewN (h:Kst w g gt bx n M N Z T wr) (k:Nat):Kst w g gt bx n M N Z T (wr.drewN k):=⟨Below.dN h.low k,h.own,h.tab,h.box⟩
theorem ZhB {base:Nat} {e:TypeId} {s:Nat} {g n c:Nat} {xs:List Value} (h:wr.ownsRow base e s (.slice (some ⟨g,0,none⟩) n c) n xs):base≤g∧∃ cur,wr.heap[g]?=some (.cells cur e (0,0)):=by
 rcases h.2 with ⟨h,_⟩ | ⟨g',cap,cur,h,hb,hc,_⟩
 ·cases h
 ·cases h
  exact⟨hb,cur,hc⟩
theorem Kst.store (h:Kst w g gt bx n M N Z T wr) (p:Nat) (v:Int):Kst w g gt bx n M N (Z.set p v) T (wr.setCell ⟨g,p,none⟩ (.int .i64 v)):=by
 obtain⟨p1,g1⟩:=h.own.stored p (.int .i64 v)
 obtain⟨hgb,cur,hg⟩:=ZhB h.own
 obtain⟨_,cur',hgt⟩:=ZhB h.tab
 have e:(icells Z).set p (.int .i64 v)=icells (Z.set p v):=by simp[icells,List.map_set]
 rw[e] at p1
 refine⟨h.low.grown g1 h.low.size (fun j hj=>by have:=Option.some.inj hj;omega),p1,?_,?_⟩
 ·refine h.tab.kept g1 (.inr ?_)
  intro q
  have:gt=g:=by simpa [Value.ownBlock] using q
  subst this
  rw[hg] at hgt
  cases hgt
 ·refine (g1.block _ (Array.getElem?_eq_some_iff.1 h.box).1 (fun q=>?_)).trans h.box
  have:bx=g:=by simpa using q
  subst this
  have:=h.box
  rw[hg] at this
  cases this
end
theorem Bx.cell {b W g N:Nat} {wr w:World} (h:Bx b W g N wr w) {a:Addr} {v:Value} (hc:wr.cell? a=some v):w.cell? a=some v:=by
 rw[World.cell?_of_block (w:=wr) (h.low.block _ (World.block_lt_of_cell? wr _ hc))];exact hc
end

section
open Go.RowKit
attribute [local simp] ZaL
end

section
open Go.RowKit
end

section
theorem Right.many {f:Bool} {a b n m:Int} {l:List Ch} (h:Right f a b n m l):(l.length:Int)≤(n-a)+(m-b):=by
 induction l generalizing f a b with
 | nil=>have:=h.le;simp;omega
 | cons c l ih =>
  obtain⟨⟨h1,h2,h3,h4⟩,h5⟩:=h
  rw[Zhj] at h1
  have:=ih h5
  simp only[List.length_cons]
  omega
end

section
def tfN (x y:List Int):Nat→Nat→Nat→Nat
 | 0,_,_=>0
 | n+1,a,c=>if x[a]?=y[c]? then tfN x y n (a+1) (c+1)+1 else 0
def tf (x y:List Int) (a b c d:Nat):Nat:=tfN x y (min (b-a) (d-c)) a c
theorem ZkL (x y:List Int) (a b c d:Nat):tf x y a b c d=if a<b∧c<d∧x[a]?=y[c]? then tf x y (a+1) b (c+1) d+1 else 0:=by
 unfold tf
 by_cases h:a<b∧c<d
 ·rw[show min (b-a) (d-c)=min (b-(a+1)) (d-(c+1))+1 by omega,tfN]
  by_cases e:x[a]?=y[c]?
  ·rw[if_pos e,if_pos ⟨h.1,h.2,e⟩]
  ·rw[if_neg e,if_neg (fun q=>e q.2.2)]
 ·rw[show min (b-a) (d-c)=0 by omega,tfN,if_neg (fun q=>h ⟨q.1,q.2.1⟩)]
def tb (x y:List Int) (a b c d:Nat):Nat:=if a<b∧c<d∧x[b-1]?=y[d-1]? then tb x y a (b-1) c (d-1)+1 else 0
def fp (a c:Nat):Nat→List Pr
 | 0=>[]
 | k+1=>⟨a,c⟩::fp (a+1) (c+1) k
def bp (b d:Nat):Nat→List Pr
 | 0=>[]
 | k+1=>⟨(b-1:Nat),(d-1:Nat)⟩::bp (b-1) (d-1) k
def Wn (a b c d:Nat) (p:Pr):Prop:=(a:Int)≤p.X∧p.X<b∧(c:Int)≤p.Y∧p.Y<d
def ends (x y:List Int) (N:Nat→Nat→Nat→Nat→List Pr) (a b c d:Nat):List Pr :=
 fp a c (tf x y a b c d)++(bp b d (tb x y (a+tf x y a b c d) b (c+tf x y a b c d) d) ++
  (if a+tf x y a b c d<b-tb x y (a+tf x y a b c d) b (c+tf x y a b c d) d∧c+tf x y a b c d<d-tb x y (a+tf x y a b c d) b (c+tf x y a b c d) d then
   N (a+tf x y a b c d) (b-tb x y (a+tf x y a b c d) b (c+tf x y a b c d) d) (c+tf x y a b c d) (d-tb x y (a+tf x y a b c d) b (c+tf x y a b c d) d)
  else []))
def wrk (K:List Int) (l:List Pr):List Int:=l.foldl (fun K p=>K.set p.X.toNat p.Y) K
theorem Zmo (K:List Int) (p:Pr) (b:List Pr):wrk K (p::b)=wrk (K.set p.X.toNat p.Y) b:=rfl
theorem Zmq (K:List Int) (l:List Pr):(wrk K l).length=K.length:=by
 induction l generalizing K with
 | nil=>rfl
 | cons p l ih=>rw[Zmo,ih,List.length_set]
theorem Zmn (K:List Int) (l:List Pr) (u:Nat) (v:Int) (h:∀ p∈l,p.X.toNat≠u):wrk (K.set u v) l=(wrk K l).set u v:=by
 induction l generalizing K with
 | nil=>rfl
 | cons p l ih =>
  rw[Zmo,Zmo,List.set_comm _ _ (fun e=>h p (List.mem_cons_self ..) e.symm),ih _ (fun q hq=>h q (List.mem_cons_of_mem _ hq))]
def Ris (l:List Pr):Prop:=∀ p∈l,∀ q∈l,p=q∨ab q p∨ab p q
structure Okp (x y:List Int) (a b c d:Nat) (l:List Pr):Prop where
 wn:∀ p∈l,Wn a b c d p
 ris:Ris l
 eqs:∀ p∈l,x[p.X.toNat]?=y[p.Y.toNat]?
section
variable {x y:List Int}
theorem Okp.nil (a b c d:Nat):Okp x y a b c d []:=⟨fun p hp=>by simp at hp,fun p hp=>by simp at hp,fun p hp=>by simp at hp⟩
theorem Okp.mono {a b c d a' b' c' d':Nat} {l:List Pr} (h:Okp x y a b c d l) (ha:a'≤a) (hb:b≤b') (hc:c'≤c) (hd:d≤d'):Okp x y a' b' c' d' l:=⟨fun p hp=>by have:=h.wn p hp;unfold Wn at this ⊢;omega,h.ris,h.eqs⟩
theorem Okp.one {a c:Nat} (h:x[a]?=y[c]?):Okp x y a (a+1) c (c+1) [⟨a,c⟩]:=⟨fun p hp=>by simp at hp;subst hp;unfold Wn;dsimp only;omega,fun p hp q hq=>by simp at hp hq;subst hp;subst hq;exact .inl rfl,fun p hp=>by simp at hp;subst hp;simpa using h⟩
end
theorem Zmp (l:List Pr) (n:Nat) (hr:Ris l) (hw:∀ p∈l,0≤p.X∧p.X<n):∀ K:List Int,K.length=n→∀ p∈l,(wrk K l)[p.X.toNat]?=some p.Y:=by
 induction l with
 | nil=>intro K _ p hp;simp at hp
 | cons q l ih =>
  intro K hK p hp
  rw[Zmo]
  have ih':=ih (fun a ha b hb=>hr a (List.mem_cons_of_mem _ ha) b (List.mem_cons_of_mem _ hb)) (fun a ha=>hw a (List.mem_cons_of_mem _ ha)) (K.set q.X.toNat q.Y) (by rw[List.length_set];exact hK)
  by_cases h:p∈l
  ·exact ih' p h
  ·have e:p=q:=(List.mem_cons.1 hp).resolve_right h
   subst e
   have hb:=hw p (List.mem_cons_self ..)
   by_cases hx:∃ r∈l,r.X.toNat=p.X.toNat
   ·obtain⟨r,h1,h2⟩:=hx
    have hrb:=hw r (List.mem_cons_of_mem _ h1)
    rcases hr p (List.mem_cons_self ..) r (List.mem_cons_of_mem _ h1) with e | e | e
    ·subst e;exact ih' p h1
    ·have:=e.1;omega
    ·have:=e.1;omega
   ·rw[Zmn K l _ _ (fun r h1 h2=>hx ⟨r,h1,h2⟩),List.getElem?_set_self (by rw[Zmq];omega)]
structure Kpt (x y K:List Int):Prop where
 vk:Vk 0 y.length K
 len:K.length=x.length
 eqs:∀ (i q:Nat),K[i]?=some (q:Int)→x[i]?=y[q]?
theorem Okp.at {x y:List Int} {l:List Pr} (h:Okp x y 0 x.length 0 y.length l) {p:Pr} (hp:p∈l):(wrk (List.replicate x.length (-1)) l)[p.X.toNat]?=some p.Y :=
 Zmp l x.length h.ris (fun q hq=>by have:=h.wn q hq;unfold Wn at this;omega) _ (by simp) p hp
end

section
structure Hr where
 X:Nat
 Y:Nat
 N:Nat
 R:Nat
def cnt (x:List Int) (k:Nat):Nat:=match x[k]? with
 | some c=>x.count c
 | none=>x.length
def rar (x:List Int) (i:Nat):Nat→Nat
 | 0=>x.length
 | n+1=>min (rar x i n) (cnt x (i+n))
def tl (x y:List Int) (i j:Nat):Nat:=tf x y i x.length j y.length
def hd (x y:List Int) (i j:Nat):Nat:=tb x y 0 i 0 j
theorem ZkT (x y:List Int) (i j:Nat):tl x y i j=if i<x.length∧j<y.length∧x[i]?=y[j]? then tl x y (i+1) (j+1)+1 else 0:=by unfold tl;rw[ZkL]
structure IsRun (x y:List Int) (r:Hr):Prop where
 hx:r.X<x.length
 hy:r.Y<y.length
 same:x[r.X]?=y[r.Y]?
 fst:¬ (0<r.X∧0<r.Y∧x[r.X-1]?=y[r.Y-1]?)
 n:r.N=tl x y r.X r.Y
 r:r.R=rar x r.X r.N
def hlt (r b:Hr):Prop:=r.R<b.R∨(r.R=b.R∧(b.N<r.N∨(r.N=b.N∧(r.X<b.X∨(r.X=b.X∧r.Y<b.Y)))))
def Bst (x y:List Int) (b:Hr):Prop:=IsRun x y b∧∀ r,IsRun x y r→r=b∨hlt b r
theorem Bst.one {x y:List Int} {a b:Hr} (ha:Bst x y a) (hb:Bst x y b):a=b:=by
 rcases ha.2 b hb.1 with h | h
 ·exact h.symm
 ·rcases hb.2 a ha.1 with h' | h'
  ·exact h'
  ·unfold hlt at h h'
   omega
theorem IsRun.pos {x y:List Int} {r:Hr} (h:IsRun x y r):0<r.N:=by
 rw[h.n,ZkT,if_pos ⟨h.hx,h.hy,h.same⟩]
 omega
end

section
def rj (x y:List Int) (i j:Nat):List Hr:=if x[i]?=y[j]?∧¬ (0<i∧0<j∧x[i-1]?=y[j-1]?) then [⟨i,j,tl x y i j,rar x i (tl x y i j)⟩] else []
def rowR (x y:List Int) (i:Nat):List Hr:=(List.range' 0 y.length).flatMap (rj x y i)
def runs (x y:List Int):List Hr:=(List.range' 0 x.length).flatMap (rowR x y)
def runAt (x y:List Int) (i j R:Nat):Hr:=⟨i-hd x y i j,j-hd x y i j,hd x y i j+tl x y i j,R⟩
def skp (x:List Int) (R i t:Nat):Bool:=(List.range t).any fun s=>cnt x (i-(s+1)) == R
def pj (x y:List Int) (R i:Nat):List Nat:=if cnt x i=R then (List.range y.length).filter (fun j=>decide (y[j]?=x[i]?)) else []
def ck (x y:List Int) (R i j:Nat):List Hr:=if skp x R i (hd x y i j) then [] else [runAt x y i j R]
structure Rst (x y:List Int) (R:Nat):Prop where
 le:∀ i j,i<x.length→j<y.length→x[i]?=y[j]?→R≤cnt x i
 ex:∃ i j,i<x.length∧j<y.length∧x[i]?=y[j]?∧cnt x i=R
section
variable {x y:List Int} {R:Nat}
end
def rs (x:List Int):Nat→List Int→Nat
 | l,[]=>l
 | l,c::y=>rs x (if 0<x.count c∧(l=0∨x.count c<l) then x.count c else l) y
end

section
open Go.ChangeShapes Go.WideShapes Go.ChangeAt Go.RowKit
theorem own:ownKnob Tryz.prog.godebug=none:=by kernel_rfl
theorem laidOut:laidOutB Tryz.prog=true:=by kernel_rfl
theorem cellsInt:Tryz.prog.cellsOf 3=1:=by kernel_rfl
def w64 (z:Int):Prop:=-9223372036854775808≤z∧z≤9223372036854775807
theorem ZsU {z:Int} (h:(Lit.int .i64 z).wf=true):w64 z:=bounds_i64 h
theorem ZsA {H:Type} (l:List Int):l.length≤Rows.uptoBulkAll (lits (H:=H) .i64 l):=by
 induction l with
 | nil=>simp[lits,Rows.uptoBulkAll]
 | cons s t ih =>
  have e:lits (H:=H) .i64 (s::t)=.lit (.int .i64 s)::lits .i64 t:=rfl
  rw[e]
  simp only[Rows.uptoBulkAll,Rows.uptoBulk,List.length_cons]
  omega
theorem ZsC {H:Type} {enc:TypeId × Value→H} {W:World} {fuel:Nat} {ao:Option Addr} {len cap:Nat} {d:DataW H} {p:List MemPlace}
  (h:DataW.trod enc Tryz.prog W 0 (fun _=>true) true fuel 55 [.slice ao len cap]=some (d,p)) :
  ∃ zs:List Int,HI W (.slice ao len cap) zs∧zs.length≤Rows.uptoBulk d∧∀ z∈zs,w64 z:=by
 rcases open_ints Tryz.underlying55 Tryz.underlying3 cellsInt h with ⟨hcs,hx⟩ | ⟨a,l,c,zs,hcs,_,hl,hm,hz,hx,hcell,hwf⟩
 ·simp at hcs
  obtain⟨rfl,rfl,rfl⟩:=hcs
  exact⟨[],.inl ⟨rfl,rfl,rfl⟩,by simp,by simp⟩
 ·simp at hcs
  obtain⟨rfl,rfl,rfl⟩:=hcs
  simp at hz
  simp only[Prod.mk.injEq] at hx
  obtain⟨rfl,_⟩:=hx
  have hlen:(zs.take len).length=len:=by simp;omega
  refine⟨zs.take len,.inr ⟨a,cap,by rw[hlen],by omega,fun j u hj=>?_⟩,?_,fun z hz=>ZsU (hwf z (List.mem_of_mem_take hz))⟩
  ·have hj':j<len:=by
    have:=(List.getElem?_eq_some_iff.1 hj).1
    rw[Zes,hlen] at this
    exact this
   rw[hcell j (by omega)]
   have hjs:j<zs.length:=by omega
   simp[icells,hj',hjs] at hj
   simp[List.getD,hjs,← hj]
  ·have:=ZsA (H:=H) (zs.take len)
   rw[Rows.uptoBulk]
   omega
end

section
open Go.RowKit Go.Maps
structure Cnt {H:Type} (D:DataW H) (t:List Int):Prop where
 tidy:Tidy D
 at_:∀ c,D.atKey (.int .i64 c) (.lit (.int .i64 0))=.lit (.int .i64 (t.count c:Nat))
theorem Cnt.nil {H:Type}:Cnt (H:=H) (.map []) []:=⟨tidy_empty,fun _=>by rw[atKey_of_not_has rfl];rfl⟩
theorem Cnt.put {H:Type} {D:DataW H} {t:List Int} (h:Cnt D t) (a:Int):Cnt (D.put (.int .i64 a) (.lit (.int .i64 ((t.count a:Nat)+1)))) (t++[a]):=by
 have hk:WideAt.IsKeyLit (.int .i64 a):=trivial
 have hne:∀ {g:Int},a≠g→(Lit.int .i64 g)≠.int .i64 a:=fun hg e=>hg (by cases e;rfl)
 refine⟨h.tidy.put hk _,fun c=>?_⟩
 by_cases e:a=c
 ·subst e
  rw[atKey_put_same h.tidy.isMap hk,List.count_append,List.count_singleton_self]
  rfl
 ·rw[atKey_put_other (hne e),h.at_,List.count_append]
  have:[a].count c=0:=by rw[List.count_eq_zero];simp;exact fun q=>e q.symm
  rw[this,Nat.add_zero]
theorem hKeyed:Keyed Tryz.prog 3:=int_keyed Tryz.underlying3
theorem hKey {c:Int} (hc:w64 c):keyOf Tryz.prog 3 (.int .i64 c)=some (.int .i64 c):=keyOf_int_mk Tryz.underlying3 (WalkArith.wf_i64 hc)
def Mc (t:List Int) (B:Nat) (w:World):Prop:=∃ D:DataW Unit,w.ownsMap Tryz.prog 3 (plainElem Tryz.prog 3) B t.length D∧Cnt D t
section
variable {t:List Int} {B:Nat} {w w':World}
theorem Mc.lt (h:Mc t B w):B<w.heap.size:=by obtain⟨D,hm,_⟩:=h;exact hm.lt
theorem Mc.keep (h:Mc t B w) (hb:w'.heap[B]?=w.heap[B]?):Mc t B w':=by
 obtain⟨D,⟨es,clock,hm,r⟩,hd⟩:=h
 exact⟨D,⟨es,clock,hb.trans hm,r⟩,hd⟩
theorem Mc.low (h:Mc t B w) (hb:Below w.heap.size w w'):Mc t B w':=h.keep (hb.block B h.lt)
theorem Mc.store (h:Mc t B w) {a:Int} (ha:w64 a) (hl:t.length≤1099511627776) (z:Int) (hz:z=(t.count a:Nat)+1) :
  ∃ w',(Instr.mapUpdate 286 (.map (some B)) (.int .i64 a) (.int .i64 z)).run Tryz.prog w=.ok () w'∧Mc (t++[a]) B w'∧w.grownBy w' (some B):=by
 obtain⟨D,hm,hd⟩:=h
 have hcl:t.count a≤t.length:=List.count_le_length
 obtain⟨w',hr,ho,ht⟩:=hm.store (val:=.int .i64 z) hKeyed Tryz.underlying286 (by unfold maxLen;omega) (hKey ha) (plainElem_int Tryz.underlying3 (WalkArith.wf_i64 (by omega)))
 exact⟨w',hr,⟨_,by simpa using ho,by subst hz;exact hd.put a⟩,ht.grown⟩
end
end

section
open Go.RowKit
theorem Ls.lt {w u:World} {g n:Nat} {Z:List Int} (h:Ls w g n Z u):w.heap.size≤g∧g<u.heap.size:=by
 rcases h.own.2 with ⟨h1,_⟩ | ⟨g',cap,cur,h1,h2,h3,_⟩
 ·cases h1
 ·cases h1
  exact⟨h2,(Array.getElem?_eq_some_iff.1 h3).1⟩
end

section
open Go.RowKit Go.Maps
def pl (x:List Int) (R:Nat) (t:List Int) (c:Int):List Nat:=if x.count c=R then (List.range t.length).filter (fun j=>decide (t[j]?=some c)) else []
theorem Ziu (x:List Int) (R:Nat) (t:List Int) (a c:Int):pl x R (t++[a]) c=if x.count a=R∧a=c then pl x R t c++[t.length] else pl x R t c:=by
 unfold pl
 have hf:((List.range t.length).filter fun j=>decide ((t++[a])[j]?=some c))=(List.range t.length).filter fun j=>decide (t[j]?=some c):=by
  apply List.filter_congr
  intro j hj
  rw[List.mem_range] at hj
  rw[List.getElem?_append_left hj]
 by_cases h:x.count c=R
 ·rw[if_pos h,if_pos h,List.length_append,List.length_singleton,List.range_succ,List.filter_append,hf]
  by_cases e:a=c
  ·subst e
   rw[if_pos ⟨h,rfl⟩]
   congr 1
   simp
  ·rw[if_neg (fun q=>e q.2)]
   have:([t.length].filter fun j=>decide ((t++[a])[j]?=some c))=[]:=by simp[e]
   rw[this,List.append_nil]
 ·rw[if_neg h,if_neg h]
  by_cases e:a=c
  ·subst e
   rw[if_neg (fun q=>h q.1)]
  ·rw[if_neg (fun q=>e q.2)]
theorem Zit (x:List Int) (R:Nat) (c:Int):pl x R [] c=[]:=by simp[pl]
def nI (l:List Nat):List Int:=l.map fun (n:Nat)=>(n:Int)
theorem ZgB (a b:List Nat):nI (a++b)=nI a++nI b:=by simp[nI]
structure Gd (D:DataW Unit) (f:Int→List Nat):Prop where
 tidy:IsMap D
 at_:∀ c,D.atKey (.int .i64 c) .nil=if f c=[] then .nil else .slice (ChangeShapes.lits .i64 (nI (f c))) []
theorem ZfF {a b:List Int} (h:ChangeShapes.lits (H:=Unit) .i64 a=ChangeShapes.lits .i64 b):a=b:=by
 unfold ChangeShapes.lits at h
 exact (List.map_inj_right (fun u v huv=>by cases huv;rfl)).1 h
theorem Gd.zs {D:DataW Unit} {f:Int→List Nat} (h:Gd D f) {w:World} {base:Nat} {e:TypeId} {v:Value} {zs:List Int} {c:Int} (ho:w.ownsInts base e .i64 v zs) (ha:D.atKey (.int .i64 c) .nil=rowDatum .i64 v zs):zs=nI (f c):=by
 rw[h.at_] at ha
 rcases ho.datum (H:=Unit) with ⟨h1,h2⟩ | h1
 ·rw[h1] at ha
  by_cases e:f c=[]
  ·rw[h2,e];rfl
  ·rw[if_neg e] at ha;cases ha
 ·rw[h1] at ha
  by_cases e:f c=[]
  ·rw[if_pos e] at ha;cases ha
  ·rw[if_neg e] at ha
   injection ha with ha
   exact (ZfF ha).symm
theorem Gd.nil (x:List Int) (R:Nat):Gd (.map []) (pl x R []):=⟨isMap_empty,fun c=>by rw[atKey_of_not_has rfl,if_pos (Zit x R c)]⟩
theorem Gd.put {D:DataW Unit} {x:List Int} {R:Nat} {t:List Int} (h:Gd D (pl x R t)) {a:Int} (ha:x.count a=R):Gd (D.put (.int .i64 a) (.slice (ChangeShapes.lits .i64 (nI (pl x R t a)++[(t.length:Int)])) [])) (pl x R (t++[a])):=by
 have hk:WideAt.IsKeyLit (.int .i64 a):=trivial
 have hne:∀ {g:Int},a≠g→(Lit.int .i64 g)≠.int .i64 a:=fun hg e=>hg (by cases e;rfl)
 refine⟨h.tidy.put _ _,fun c=>?_⟩
 by_cases e:a=c
 ·subst e
  have e2:pl x R (t++[a]) a=pl x R t a++[t.length]:=by rw[Ziu,if_pos ⟨ha,rfl⟩]
  rw[atKey_put_same h.tidy hk,e2,if_neg (by simp),ZgB]
  rfl
 ·have e2:pl x R (t++[a]) c=pl x R t c:=by rw[Ziu,if_neg (fun q=>e q.2)]
  rw[atKey_put_other (hne e),h.at_,e2]
theorem Gd.skip {D:DataW Unit} {x:List Int} {R:Nat} {t:List Int} (h:Gd D (pl x R t)) {a:Int} (ha:x.count a≠R):Gd D (pl x R (t++[a])):=by
 refine⟨h.tidy,fun c=>?_⟩
 have e2:pl x R (t++[a]) c=pl x R t c:=by rw[Ziu,if_neg (fun q=>ha q.1)]
 rw[e2]
 exact h.at_ c
def Gm (x:List Int) (R:Nat) (t:List Int) (b base:Nat) (w:World):Prop:=∃ m D,m≤t.length∧w.ownsGroups Tryz.prog 3 base 3 .i64 b m D∧Gd D (pl x R t)
theorem Gm.low {x:List Int} {R:Nat} {t:List Int} {b base:Nat} {w w':World} (h:Gm x R t b base w) (hb:Below w.heap.size w w'):Gm x R t b base w':=by
 obtain⟨m,D,h1,h2,h3⟩:=h
 exact⟨m,D,h1,h2.kept (ZfO hb none) (by simp) (fun _ _ _ e _=>by cases e.val.ownBlock<;>simp),h3⟩
def Prt (x y:List Int) (R base k:Nat) (vs:List Value) (w:World):Prop:=vs.length=x.length∧∀ i,i<k→∃ v,vs[i]?=some v∧w.ownsInts base 3 .i64 v (nI (pj x y R i))
theorem ZeM {w:World} {base:Nat} {v:Value} {zs:List Int} (h:w.ownsInts base 3 .i64 v zs) {g:Nat} {cs:Array Value} {fz:Nat × Nat} (hg:w.heap[g]?=some (.cells cs 55 fz)) (j:Nat) (u:Value):(w.setCell ⟨g,j,none⟩ u).ownsInts base 3 .i64 v zs:=by
 refine h.kept (ZdS w g j u) ?_
 rcases h.1.2 with ⟨rfl,_⟩ | ⟨g',cap,cur,rfl,_,h2,_⟩
 ·exact .inl rfl
 ·right
  intro e
  simp[Value.ownBlock] at e
  subst e
  rw[h2] at hg
  cases hg
theorem Prt.set {x y:List Int} {R base k:Nat} {vs:List Value} {w:World} (h:Prt x y R base k vs w) (hk:k<x.length) {g:Nat} {cs:Array Value} {fz:Nat × Nat} (hg:w.heap[g]?=some (.cells cs 55 fz)) {v:Value} (hv:w.ownsInts base 3 .i64 v (nI (pj x y R k))):Prt x y R base (k+1) (vs.set k v) (w.setCell ⟨g,k,none⟩ v):=by
 refine⟨by rw[List.length_set];exact h.1,fun i hi=>?_⟩
 by_cases e:i=k
 ·subst e
  exact⟨v,List.getElem?_set_self (by rw[h.1];exact hk),ZeM hv hg _ _⟩
 ·obtain⟨u,h1,h2⟩:=h.2 i (by omega)
  exact⟨u,by rw[List.getElem?_set_ne (fun q=>e q.symm)];exact h1,ZeM h2 hg _ _⟩
theorem Prt.low {x y:List Int} {R base k:Nat} {vs:List Value} {w w':World} (h:Prt x y R base k vs w) (hb:Below w.heap.size w w'):Prt x y R base k vs w' :=
 ⟨h.1,fun i hi=>by obtain⟨v,h1,h2⟩:=h.2 i hi;exact⟨v,h1,h2.kept (ZfO hb none) (by cases v.ownBlock<;>simp)⟩⟩
end

section
open Go.RowKit
end

section
open Go.RowKit
def Hbx (u:World) (B:Nat) (r:Hr):Prop:=u.heap[B]?=some (.cells #[.int .i64 (r.X:Int),.int .i64 (r.Y:Int),.int .i64 (r.N:Int),.int .i64 (r.R:Int)] 291 (0,0))
section
variable {u u':World} {B:Nat} {r:Hr}
theorem Hbx.cells (h:Hbx u B r):u.cell? ⟨B,0,none⟩=some (.int .i64 (r.X:Int))∧u.cell? ⟨B,1,none⟩=some (.int .i64 (r.Y:Int))∧u.cell? ⟨B,2,none⟩=some (.int .i64 (r.N:Int))∧u.cell? ⟨B,3,none⟩=some (.int .i64 (r.R:Int)):=by
 refine⟨?_,?_,?_,?_⟩<;>rw[Lib.cell_of_heap h]<;>rfl
theorem Hbx.frozen (h:Hbx u B r) (j:Nat):u.frozen? ⟨B,j,none⟩=false:=by
 unfold World.frozen?
 rw[h]
 rfl
theorem Hbx.lt (h:Hbx u B r):B<u.heap.size:=(Array.getElem?_eq_some_iff.1 h).1
theorem Hbx.keep (h:Hbx u B r) {g:Option Nat} (hg:u.grownBy u' g) (hr:some B≠g):Hbx u' B r:=(hg.block B h.lt hr).trans h
theorem Hbx.low (h:Hbx u B r) (hg:Below u.heap.size u u'):Hbx u' B r:=(hg.block B h.lt).trans h
theorem Hbx.new (w:World) (r:Hr):Hbx (w.alloc (.cells #[.int .i64 (r.X:Int),.int .i64 (r.Y:Int),.int .i64 (r.N:Int),.int .i64 (r.R:Int)] 291)) w.heap.size r:=_root_.Go.heap_alloc_new w _
end
end

section
open Go.RowKit
theorem results_cell_tmp {P:Program} {fn:Func} {p q:Tmp} {ty:TypeId} (h:fn.results=#[.cell p ty,.tmp q]) (tmps:Array Value) (w:World) (g:Nat) (t:TypeId) (cs:Array Value) (fr:Nat × Nat) (d:TypeDesc)
  (hp:tmps.getD p undef=.pointer (some ⟨g,0,none⟩)) (hg:w.heap[g]?=some (.cells cs t fr))
  (hu:P.underlying ty=some d) (hd:(match d with | .struct _ | .array _ _=>true | _=>false)=true) (hi:(P.info? ty).map (·.size)=some cs.size) :
  (results fn tmps).run P w=.ok (.tuple #[.agg cs,tmps.getD q undef]) w:=by
 have hp':tmps[p]?.getD undef=.pointer (some ⟨g,0,none⟩):=by simpa using hp
 simp[results,h,hp',asAddr,run_loadVar_row w g t ty cs fr d hg hu hd hi]
end

section
open Go.RowKit
def prC (p:Pr):List Value:=[.int .i64 p.X,.int .i64 p.Y]
def prcells (l:List Pr):List Value:=l.flatMap prC
theorem ZiD (l:List Pr):(prcells l).length=l.length * 2:=by
 induction l with
 | nil=>rfl
 | cons p t ih=>simp only[prcells,List.flatMap_cons,List.length_append,List.length_cons,prC,List.length_nil] at ih ⊢;omega
theorem ZiC (l:List Pr) (k:Nat) (hk:k<l.length):(prcells l)[2 * k]?=some (.int .i64 l[k].X)∧(prcells l)[2 * k+1]?=some (.int .i64 l[k].Y):=by
 induction l generalizing k with
 | nil=>simp at hk
 | cons p t ih =>
  have e:prcells (p::t)=.int .i64 p.X::.int .i64 p.Y::prcells t:=rfl
  cases k with
  | zero=>rw[e];exact⟨rfl,rfl⟩
  | succ k =>
   have:=ih k (by simpa using hk)
   rw[e,show 2 * (k+1)=2 * k+1+1 by omega]
   simpa using this
def HPr (w:World) (v:Value) (l:List Pr):Prop:=Holds w v l.length (prcells l)
theorem HPr.keep {w w':World} {v:Value} {l:List Pr} (h:HPr w v l) {N:Nat} (hk:Below N w w') (hN:w.heap.size≤N):HPr w' v l:=Holds.keep h fun k hk'=>hk.block k (by omega)
theorem HPr.at {w:World} {ao:Option Addr} {n c:Nat} {l:List Pr} (h:HPr w (.slice ao n c) l) (h0:0<l.length):∃ b off,ao=some ⟨b,off,none⟩∧b<w.heap.size ∧
  ∀ k (hk:k<l.length),w.cell? ⟨b,off+k * 2,none⟩=some (.int .i64 l[k].X)∧w.cell? ⟨b,off+k * 2+1,none⟩=some (.int .i64 l[k].Y):=by
 obtain⟨b,off,c',hv,hb,hc⟩:=Holds.at h (by rw[ZiD];omega)
 cases hv
 refine⟨b,off,rfl,hb,fun k hk=>?_⟩
 obtain⟨h1,h2⟩:=ZiC l k hk
 obtain⟨l1,e1⟩:=List.getElem?_eq_some_iff.1 h1
 obtain⟨l2,e2⟩:=List.getElem?_eq_some_iff.1 h2
 have g1:=hc _ l1
 have g2:=hc _ l2
 rw[e1] at g1
 rw[e2] at g2
 rw[show k * 2=2 * k by omega,Nat.add_assoc]
 exact⟨g1,g2⟩
end

section
open Go.RowKit
def Blk (w:World) (g:Nat) (cur:List Value):Prop:=w.heap[g]?=some (.cells cur.toArray 256 (0,0))
def spl (cur:List Value) (o:Nat) (cs:List Value):List Value:=cur.take o++cs++cur.drop (o+cs.length)
theorem Zku {cur:List Value} {o:Nat} {cs:List Value} (h:o+cs.length≤cur.length):(spl cur o cs).length=cur.length:=by
 unfold spl
 simp
 omega
theorem Blk.cell {w:World} {g:Nat} {cur:List Value} (h:Blk w g cur) (j:Nat):w.cell? ⟨g,j,none⟩=cur[j]?:=by
 rw[cell_of_row w g j cur.toArray _ (0,0) h]
 simp
theorem Zke (w:World) (g:Nat) (cs:Array Value):w.grownBy (w.setRow g cs) (some g) :=
 ⟨rfl,rfl,rfl,by simp[World.setRow],fun k _ hk=>setRow_other w g k cs (fun e=>hk (by rw[e]))⟩
theorem Zmj {ops:Array Oper} {rest:List Oper} {o:Oper} {a:Act} {Q:Exit→Act→World→Prop} (w:World) (hw:Region.wanted o (yielded ops a.tmps)=true) (d:Operand) (T:TypeId)
  (ho:o.op=.call { callee:=.builtin .clear,args:=#[d],argTypes:=#[T] }) (v:Value) (hd:a.eval d=v) (v':Value) (w':World)
  (hr:(Builtin.clear_ #[T] o.type #[v]).run Tryz.prog w=.ok v' w') (h:wpList Tryz.prog ops Q rest (a.put o.dst v') w'):wpList Tryz.prog ops Q (o::rest) a w:=by
 refine wpList_step fun K hK=>?_
 rw[if_pos hw]
 unfold Oper.wp
 simp[execOp,ho,resolve,invoke,builtin,hd,hr,Result.andThen]
 exact hK _ _ h
end

section
open Go.RowKit
theorem Zep {u:World} {B:Nat} {e:TypeId} {s:Nat} {oo:Option Addr} {n oc:Nat} {xs:List Value} (h:u.ownsRow B e s (.slice oo (n+1) oc) (n+1) xs):∃ g,oo=some ⟨g,0,none⟩:=by
 rcases h.2 with ⟨_,h0⟩ | ⟨g,cap,cur,e,_⟩
 ·omega
 ·cases e
  exact⟨g,rfl⟩
end

section
open Go.RowKit
section
variable {u:World} {b:Nat} {A AN B BN:Int} {ls:List Mk} {v:Value}
theorem Hx.setA (q:Hx u b ⟨A,AN,B,BN,ls⟩ v) (z:Int):Hx (u.setCell ⟨b,0,none⟩ (.int .i64 z)) b ⟨z,AN,B,BN,ls⟩ v:=heap_setCell_same u b 0 _ _ _ q
theorem Hx.setB (q:Hx u b ⟨A,AN,B,BN,ls⟩ v) (z:Int):Hx (u.setCell ⟨b,2,none⟩ (.int .i64 z)) b ⟨A,AN,z,BN,ls⟩ v:=heap_setCell_same u b 2 _ _ _ q
theorem Hx.other (q:Hx u b ⟨A,AN,B,BN,ls⟩ v) {g:Nat} (hg:b≠g) (j:Nat) (z:Value):Hx (u.setCell ⟨g,j,none⟩ z) b ⟨A,AN,B,BN,ls⟩ v:=q.keep (ZdS u g j z) (fun e=>hg (Option.some.inj e))
end
end

section
open Go.RowKit
def chO (c:Ch):Obj:=.cells #[.int .i64 c.A,.int .i64 c.AN,.int .i64 c.B,.int .i64 c.BN] 139
def Cx (u:World) (b:Nat) (c:Ch):Prop:=u.heap[b]?=some (chO c)
section
variable {u u':World} {b:Nat} {c:Ch}
theorem Cx.cells (q:Cx u b c):u.cell? ⟨b,0,none⟩=some (.int .i64 c.A)∧u.cell? ⟨b,1,none⟩=some (.int .i64 c.AN)∧u.cell? ⟨b,2,none⟩=some (.int .i64 c.B)∧u.cell? ⟨b,3,none⟩=some (.int .i64 c.BN):=by
 unfold Cx chO at q
 refine⟨?_,?_,?_,?_⟩<;>rw[Lib.cell_of_heap q]<;>rfl
theorem Cx.lt (q:Cx u b c):b<u.heap.size:=(Array.getElem?_eq_some_iff.1 q).1
theorem Cx.low (q:Cx u b c) (hg:Below u.heap.size u u'):Cx u' b c:=(hg.block b q.lt).trans q
theorem Cx.new (w:World) (c:Ch):Cx (w.alloc (chO c)) w.heap.size c:=_root_.Go.heap_alloc_new w _
end
def ChAt (u:World) (b o:Nat) (x:Ch):Prop:=u.cell? ⟨b,o,none⟩=some (.int .i64 x.A)∧u.cell? ⟨b,o+1,none⟩=some (.int .i64 x.AN)∧u.cell? ⟨b,o+2,none⟩=some (.int .i64 x.B)∧u.cell? ⟨b,o+3,none⟩=some (.int .i64 x.BN)
theorem ZdW {u u':World} (hB:Low u u') {q:Addr} {z:Value} (hz:u.cell? q=some z):u'.cell? q=some z:=(World.cell?_of_block (w:=u) (Below.block hB _ (World.block_lt_of_cell? _ _ hz))).trans hz
theorem ChAt.low {u u':World} {b o:Nat} {x:Ch} (h:ChAt u b o x) (hB:Low u u'):ChAt u' b o x:=⟨ZdW hB h.1,ZdW hB h.2.1,ZdW hB h.2.2.1,ZdW hB h.2.2.2⟩
theorem Cx.keep {u u':World} {b:Nat} {c:Ch} (q:Cx u b c) {g:Option Nat} (hg:u.grownBy u' g) (hr:some b≠g):Cx u' b c:=(hg.block b q.lt hr).trans q
end

section
open Go.RowKit
structure Gr (w:World) (ov:Value) (G:List (List Ch × Value)) (u:World):Prop where
 low:Below w.heap.size w u
 own:u.ownsRow w.heap.size 93 1 ov G.length (G.map (·.2))
 ins:∀ x∈G,u.ownsRow w.heap.size 139 4 x.2 x.1.length (chcells x.1)
def Lst (G:List (List Ch × Value)):Prop:=∀ P x,G=P++[x]→∀ y∈P,∀ b,x.2.ownBlock=some b→y.2.ownBlock≠some b
section
variable {w u u':World} {ov ov':Value} {G P:List (List Ch × Value)}
theorem Gr.nil (w:World):Gr w (.slice none 0 0) [] w:=⟨Below.refl _ _,Zen _ _ _ _,fun _ h=>by cases h⟩
theorem Gr.alloc (h:Gr w ov G u) (o:Obj):Gr w ov G (u.alloc o):=⟨h.low.alloc h.low.size o,h.own.alloc o,fun x hx=>(h.ins x hx).alloc o⟩
theorem Gr.drewN (h:Gr w ov G u) (n:Nat):Gr w ov G (u.drewN n):=⟨Below.dN h.low n,h.own,h.ins⟩
theorem Gr.keep (h:Gr w ov G u) (hk:Below u.heap.size u u'):Gr w ov G u':=⟨h.low.trans (hk.mono h.low.size),ZhK h.own hk,fun x hx=>ZhK (h.ins x hx) hk⟩
theorem Gr.more (h:Gr w ov G u) {g:List Ch} {gv:Value} (hgv:u.ownsRow w.heap.size 139 4 gv g.length (chcells g)) (hg:u.grownBy u' ov.ownBlock) (ho:u'.ownsRow w.heap.size 93 1 ov' (G.length+1) (G.map (·.2)++[gv])):Gr w ov' (G++[(g,gv)]) u':=by
 have key:∀ {v:Value} {n:Nat} {xs:List Value},u.ownsRow w.heap.size 139 4 v n xs→u'.ownsRow w.heap.size 139 4 v n xs:=fun hv=>ZhF hv hg (fun k hk=>ZhH h.own hv (by decide) hk)
 refine⟨h.low.grown hg h.low.size (fun j hj=>ZhJ h.own hj),?_,fun z hz=>?_⟩
 ·rw[List.length_append,List.map_append]
  exact ho
 ·rcases List.mem_append.1 hz with hz | hz
  ·exact key (h.ins z hz)
  ·rw[List.mem_singleton.1 hz]
   exact key hgv
theorem Gr.last {g g':List Ch} {gv gv':Value} (h:Gr w ov (P++[(g,gv)]) u) (hL:Lst (P++[(g,gv)])) (hg:u.grownBy u' gv.ownBlock) (ho:u'.ownsRow w.heap.size 139 4 gv' g'.length (chcells g')) (hb:gv'.ownBlock=gv.ownBlock∨gv'.ownBlock=some u.heap.size) :
  ∃ q cap,ov=.slice (some ⟨q,0,none⟩) (P.length+1) cap∧u'.cell? ⟨q,P.length,none⟩=some gv∧u'.frozen? ⟨q,P.length,none⟩=false∧Gr w ov (P++[(g',gv')]) (u'.setCell ⟨q,P.length,none⟩ gv')∧Lst (P++[(g',gv')]):=by
 have hown:=h.own
 rw[List.length_append,List.length_singleton] at hown
 have hgl:=h.ins (g,gv) (by simp)
 obtain⟨oo,oc,hov⟩:=(Zeo hown).form
 subst hov
 obtain⟨q,rfl⟩:=Zep hown
 have hown':=ZhF hown hg (fun k hk=>ZhH hgl hown (by decide) hk)
 have hst:=hown'.stored P.length gv'
 have hset:((P++[(g,gv)]).map (·.2)).set P.length gv'=(P++[(g',gv')]).map (·.2):=by simp
 rw[hset] at hst
 have hlow:Below w.heap.size w u':=h.low.grown hg h.low.size (fun j hj=>ZhJ hgl hj)
 refine⟨q,oc,rfl,?_,hown'.frozenAt _,⟨hlow.grown hst.2 hlow.size (fun j hj=>by cases hj;exact ZhJ hown rfl),?_,?_⟩,?_⟩
 ·rw[hown'.cellAt P.length (by omega)]
  simp
 ·rw[List.length_append,List.length_singleton]
  exact hst.1
 ·intro x hx
  have hqx:∀ {v:Value} {n:Nat} {xs:List Value},u'.ownsRow w.heap.size 139 4 v n xs→(u'.setCell ⟨q,P.length,none⟩ gv').ownsRow w.heap.size 139 4 v n xs:=fun hv=>ZhF hv hst.2 (fun k hk=>ZhH hown' hv (by decide) hk)
  rcases List.mem_append.1 hx with hx | hx
  ·exact hqx (ZhF (h.ins x (List.mem_append_left _ hx)) hg (fun k hk=>hL P (g,gv) rfl x hx k hk))
  ·rw[List.mem_singleton.1 hx]
   exact hqx ho
 ·intro P' x' he y hy b' hb'
  have he2:=List.append_inj' he rfl
  obtain⟨rfl,hx'⟩:=he2
  have hx2:(g',gv')=x':=by simpa using hx'
  subst hx2
  rcases hb with hb | hb
  ·rw[hb] at hb'
   exact hL P (g,gv) rfl y hy b' hb'
  ·rw[hb] at hb'
   cases hb'
   intro e
   have:=ZhG (h.ins y (List.mem_append_left _ hy)) e
   omega
end
end

section
open Go.RowKit
end

end Go.Proofs.YtcniomgjikienaaGreatDoor

/- A region that draws its order, in a round: ten operations that read, in whatever order, then the rest as the text has it. -/
namespace Go.Proofs.YtcniomgjikienaaGreatDoor
open Go.RowKit Go.Shelf
namespace R10
abbrev B10:=Fin 10→Bool
def one (c:Bool):Nat:=if c then 1 else 0
def cnt (b:B10):Nat:=one (b 0)+one (b 1)+one (b 2)+one (b 3)+one (b 4)+one (b 5)+one (b 6)+one (b 7)+one (b 8)+one (b 9)
end R10
end Go.Proofs.YtcniomgjikienaaGreatDoor

namespace Go.Proofs.YtcniomgjikienaaGreatDoor

section
open Go.RowKit Go.Shelf
open R10
attribute [local go_sem] Oper.semAt_some
theorem Zsm (A:List (List UInt8)) (i n:Int) (j:Nat) (u:Value) (h:(scells (cut A i n))[j]?=some u):(scells A)[i.toNat+j]?=some u∧j<n.toNat:=by
 simp only[scells,cut,List.getElem?_map,List.getElem?_take,List.getElem?_drop] at h ⊢
 split at h
 ·exact⟨h,by assumption⟩
 ·simp at h
theorem Zso (A:List (List UInt8)) (i n:Int) (h0:0≤i) (h1:0≤n) (h2:i+n≤A.length):(cut A i n).length=n.toNat:=by
 simp[cut];omega
theorem ZsN (A:List (List UInt8)) (ao:Option Addr) (cap:Nat) (i n:Int) (h0:0≤i) (h1:0≤n) (h2:i+n≤A.length) (w:World) (hA:HS w (.slice ao A.length cap) A) :
  ∃ vs,(∀ u:World,(Instr.slice 49 (.slice ao A.length cap) (some (.int .i64 i)) (some (.int .i64 (i+n))) none).run Tryz.prog u=.ok vs u)∧(∀ u:World,HS u (.slice ao A.length cap) A→HS u vs (cut A i n)):=by
 have hnc:A.length≤cap∧(ao=none→A=[]):=by
  rcases hA with ⟨h,h3,_⟩ | ⟨ad,c,h,h3,_⟩
  ·exact⟨by omega,fun _=>List.eq_nil_of_length_eq_zero h3⟩
  ·cases h
   exact⟨h3,fun h=>by cases h⟩
 refine⟨.slice (if cap=i.toNat then ao else ao.map (·.add i.toNat)) n.toNat (cap-i.toNat),fun u=>?_,fun u hu=>?_⟩
 ·rw[run_slice_lh (P:=Tryz.prog) u 49 ao A.length cap (by kernel_rfl) .i64 .i64 i (i+n) h0 (by omega) (by omega)]
  have:(sizeOf (Tryz.prog.elem 49)).run Tryz.prog u=.ok 1 u:=by kernel_rfl
  rw[this]
  simp only[Result.andThen,sliced,Nat.mul_one]
  congr 2
  omega
 ·unfold HS
  rw[Zso A i n h0 h1 h2]
  cases ao with
  | none =>
   have hA0:=hnc.2 rfl
   subst hA0
   have:i=0:=by simp at h2;omega
   subst this
   have:n=0:=by simp at h2;omega
   subst this
   refine .inl ⟨?_,rfl,by simp[cut,scells]⟩
   rcases hA with ⟨h,h3,_⟩ | ⟨ad,c,h,h3,_⟩
   ·cases h;simp
   ·cases h
  | some ad =>
   refine .inr ⟨if cap=i.toNat then ad else ad.add i.toNat,cap-i.toNat,by split<;>simp,by omega,fun j x hj=>?_⟩
   obtain⟨h4,h5⟩:=Zsm A i n j x hj
   rcases hu with ⟨h,_⟩ | ⟨ad',c,h,h3,hc⟩
   ·cases h
   ·cases h
    have:=hc _ _ h4
    rw[if_neg (by omega)]
    obtain⟨b,off,rfl⟩:=Zap (hc 0 _ (List.getElem?_eq_getElem (by rw[ZjT];omega)))
    rw[Zao] at this
    rw[Zao,Zao,Nat.add_assoc]
    exact this
end

section
open Go.RowKit
end

section
open Go.RowKit
attribute [local simp] ZkA ZfM
theorem ZsP (A:List (List UInt8)) (ao:Option Addr) (cap:Nat) (i h:Int) (h0:0≤i) (h1:i≤h) (h2:h≤A.length) (w:World) (hA:HS w (.slice ao A.length cap) A) :
  ∃ vo vc,(∀ u:World,(Instr.slice 49 (.slice ao A.length cap) (some (.int .i64 i)) (some (.int .i64 h)) none).run Tryz.prog u=.ok (.slice vo (cut A i (h-i)).length vc) u)∧(∀ u:World,HS u (.slice ao A.length cap) A→HS u (.slice vo (cut A i (h-i)).length vc) (cut A i (h-i))):=by
 obtain⟨vs,h3,h4⟩:=ZsN A ao cap i (h-i) h0 (by omega) (by omega) w hA
 obtain⟨vo,vc,rfl⟩:=Holds.form (h4 w hA)
 have e:i+(h-i)=h:=by omega
 rw[e] at h3
 exact⟨vo,vc,h3,h4⟩
theorem ZsO (A:List (List UInt8)) (ao:Option Addr) (cap:Nat) (i:Int) (h0:0≤i) (h1:i≤A.length) (w:World) (hA:HS w (.slice ao A.length cap) A) :
  ∃ vo vc,(∀ u:World,(Instr.slice 49 (.slice ao A.length cap) (some (.int .i64 i)) none none).run Tryz.prog u=.ok (.slice vo (cut A i (A.length-i)).length vc) u)∧(∀ u:World,HS u (.slice ao A.length cap) A→HS u (.slice vo (cut A i (A.length-i)).length vc) (cut A i (A.length-i))):=by
 obtain⟨vo,vc,h3,h4⟩:=ZsP A ao cap i A.length h0 h1 (Int.le_refl _) w hA
 refine⟨vo,vc,fun u=>?_,h4⟩
 rw[← h3 u]
 have hcap:A.length≤cap:=by
  rcases hA with ⟨h,h3,_⟩ | ⟨ad,c,h,h3,_⟩
  ·omega
  ·cases h;exact h3
 rw[run_slice_l (P:=Tryz.prog) u 49 ao A.length cap (by kernel_rfl) .i64 i h0 h1,run_slice_lh (P:=Tryz.prog) u 49 ao A.length cap (by kernel_rfl) .i64 .i64 i A.length h0 h1 (by omega)]
 simp
end

section
open Go.RowKit
structure La (w:World) (q:Hk) (ov:Value) (u:World):Prop where
 low:Below w.heap.size w u
 box:Hx u w.heap.size q ov
 own:u.ownsRow (w.heap.size+1) 47 2 ov q.ls.length (mkcells q.ls)
def CK (u u':World):Prop:=∀ B c,Cx u B c→Cx u' B c
theorem ZcB {u:World} {b:Nat} {d:Ch} (h:Cx u b d) {B s n:Nat} {v:Value} {xs:List Value} (ho:u.ownsRow B 47 s v n xs):v.ownBlock≠some b:=by
 intro e
 rcases ho.2 with ⟨rfl,_⟩ | ⟨g,cap,cur,rfl,_,hg,_⟩
 ·cases e
 ·simp only[Value.ownBlock,Option.some.injEq] at e
  subst e
  unfold Cx chO at h
  rw[h] at hg
  simp at hg
theorem ZcA {u:World} {b b':Nat} {d:Ch} (h:Cx u b d) {q:Hk} {v:Value} (hx:Hx u b' q v):b≠b':=by
 rintro rfl
 unfold Cx chO at h
 unfold Hx hkO at hx
 rw[h] at hx
 simp at hx
section
variable {w u u':World} {q:Hk} {ov ov':Value} {x':List Mk}
theorem La.alloc (h:La w q ov u) (o:Obj):La w q ov (u.alloc o):=⟨h.low.alloc h.low.size o,h.box.low ((Below.refl _ u).alloc (Nat.le_refl _) o),h.own.alloc o⟩
theorem La.drewN (h:La w q ov u) (n:Nat):La w q ov (u.drewN n):=⟨Below.dN h.low n,h.box,h.own⟩
theorem La.keep (h:La w q ov u) (hk:Below u.heap.size u u'):La w q ov u':=⟨h.low.trans (hk.mono h.low.size),h.box.low hk,ZhK h.own hk⟩
theorem La.ck (h:La w q ov u) (j:Nat) (z:Value):CK u (u.setCell ⟨w.heap.size,j,none⟩ z):=fun _ _ p=>p.keep (ZdS u _ j z) (fun e=>ZcA p h.box (Option.some.inj e))
theorem La.grow (h:La w q ov u) (hg:u.grownBy u' ov.ownBlock) (ho:u'.ownsRow (w.heap.size+1) 47 2 ov' x'.length (mkcells x')):Hx u' w.heap.size q ov∧La w ⟨q.A,q.AN,q.B,q.BN,x'⟩ ov' (u'.setCell ⟨w.heap.size,4,none⟩ ov')∧CK u (u'.setCell ⟨w.heap.size,4,none⟩ ov'):=by
 have hbx:Hx u' w.heap.size q ov:=h.box.keep hg (fun e=>by have:=ZhJ h.own e.symm;omega)
 have hs:=ZdS u' w.heap.size 4 ov'
 have hlow:Below w.heap.size w u':=h.low.grown hg h.low.size (fun j hj=>by have:=ZhJ h.own hj;omega)
 refine⟨hbx,⟨hlow.grown hs hlow.size (fun j hj=>by cases hj;exact Nat.le_refl _),hbx.setl ov',ZhF ho hs ?_⟩,?_⟩
 ·intro k hk e
  cases hk
  have:=ZhJ ho e
  omega
 ·intro B c p
  have p1:=p.keep hg (fun e=>ZcB p h.own e.symm)
  exact p1.keep hs (fun e=>ZcA p1 hbx (Option.some.inj e))
theorem La.own_set (h:La w q ov u) (j:Nat) (z:Value):Below w.heap.size w (u.setCell ⟨w.heap.size,j,none⟩ z)∧(u.setCell ⟨w.heap.size,j,none⟩ z).ownsRow (w.heap.size+1) 47 2 ov q.ls.length (mkcells q.ls):=by
 have hs:=ZdS u w.heap.size j z
 refine⟨h.low.grown hs h.low.size (fun j hj=>by cases hj;exact Nat.le_refl _),ZhF h.own hs ?_⟩
 intro k hk e
 cases hk
 have:=ZhJ h.own e
 omega
theorem La.setA (h:La w q ov u) (z:Int):La w ⟨z,q.AN,q.B,q.BN,q.ls⟩ ov (u.setCell ⟨w.heap.size,0,none⟩ (.int .i64 z)):=⟨(h.own_set 0 _).1,heap_setCell_same u _ 0 _ _ _ h.box,(h.own_set 0 _).2⟩
theorem La.setB (h:La w q ov u) (z:Int):La w ⟨q.A,q.AN,z,q.BN,q.ls⟩ ov (u.setCell ⟨w.heap.size,2,none⟩ (.int .i64 z)):=⟨(h.own_set 2 _).1,heap_setCell_same u _ 2 _ _ _ h.box,(h.own_set 2 _).2⟩
end
end

section
open Go.RowKit
def Lb (w:World) (x:List Mk) (u:World):Prop:=∃ (ov:Value) (an bn:Int),La w ⟨0,an,0,bn,x⟩ ov u∧((pkL 43 x).length:Int)=an∧((pkL 45 x).length:Int)=bn
theorem Lb.alloc {w u:World} {x:List Mk} (h:Lb w x u) (o:Obj):Lb w x (u.alloc o):=by
 obtain⟨ov,an,bn,h1,h2⟩:=h
 exact⟨ov,an,bn,h1.alloc o,h2⟩
theorem Lb.low {w u:World} {x:List Mk} (h:Lb w x u):Below w.heap.size w u:=by
 obtain⟨ov,an,bn,h1,h2⟩:=h
 exact h1.low
end

section
open Go.RowKit
theorem Hs.base {w W u:World} {ov:Value} {P:List (Hk × Value)} (h:Hs W ov P u) (hB:Below w.heap.size w W):Hs w ov P u :=
 ⟨hB.trans (h.low.mono hB.size),ZhC h.own hB.size,fun x hx=>ZhC (h.ins x hx) hB.size⟩
theorem Gr.at {w W u:World} {oo:Option Addr} {n oc:Nat} {G:List (List Ch × Value)} (h:Gr w (.slice oo n oc) G W) (hB:Below W.heap.size W u) {i:Nat} (hi:i<G.length) {g:List Ch} {gv:Value} (hg:G[i]=(g,gv)):∃ q,oo=some ⟨q,0,none⟩∧u.cell? ⟨q,i,none⟩=some gv∧HCh u gv g:=by
 have hh:=Zeo h.own
 obtain⟨b,off,c',hv,hb,hc⟩:=Holds.at hh (by simp;omega)
 rcases h.own.2 with ⟨_,h0⟩ | ⟨q,cap,cur,e,_⟩
 ·omega
 ·cases e
  cases hv
  refine⟨_,rfl,?_,?_⟩
  ·have h1:=hc i (by simpa using hi)
   rw[Nat.zero_add] at h1
   refine ZdW hB ?_
   rw[h1]
   simp[hg]
  ·have hin:=h.ins (g,gv) (by rw[← hg];exact List.getElem_mem hi)
   exact HCh.keep (Zeo hin) hB (Nat.le_refl _)
end

section
open Go.RowKit
end

section
open Go.ChangeShapes Go.WideShapes Go.ChangeAt Go.RowKit
theorem cellsStr:Tryz.prog.cellsOf 9=1:=by kernel_rfl
theorem ZsR {H:Type} (l:List ByteArray):l.length+(l.map fun s=>s.data.toList).flatten.length≤Rows.uptoBulkAll (strs (H:=H) l):=by
 induction l with
 | nil=>simp[strs,Rows.uptoBulkAll]
 | cons s t ih =>
  have e:strs (H:=H) (s::t)=.lit (.string s.data.toList)::strs t:=rfl
  rw[e,Rows.uptoBulkAll,Rows.uptoBulk]
  simp only[List.length_cons,List.map_cons,List.flatten_cons,List.length_append] at ih ⊢
  omega
theorem ZsD {H:Type} {enc:TypeId × Value→H} {W:World} {fuel:Nat} {ao:Option Addr} {len cap:Nat} {d:DataW H} {p:List MemPlace}
  (h:DataW.trod enc Tryz.prog W 0 (fun _=>true) true fuel 49 [.slice ao len cap]=some (d,p)) :
  ∃ ws:List (List UInt8),HS W (.slice ao len cap) ws∧ws.length+ws.flatten.length≤Rows.uptoBulk d:=by
 rcases open_strings Tryz.underlying49 Tryz.underlying9 cellsStr h with ⟨hcs,hx⟩ | ⟨a,l,c,ss,hcs,_,hl,hm,hz,hx,hcell,_⟩
 ·simp at hcs
  obtain⟨rfl,rfl,rfl⟩:=hcs
  exact⟨[],.inl ⟨rfl,rfl,rfl⟩,by simp⟩
 ·simp at hcs
  obtain⟨rfl,rfl,rfl⟩:=hcs
  simp at hz
  simp only[Prod.mk.injEq] at hx
  obtain⟨rfl,_⟩:=hx
  have hlen:((ss.take len).map fun s=>s.data.toList).length=len:=by simp;omega
  refine⟨(ss.take len).map fun s=>s.data.toList,.inr ⟨a,cap,by rw[hlen],by omega,fun j u hj=>?_⟩,?_⟩
  ·have hj':j<len:=by
    have:=(List.getElem?_eq_some_iff.1 hj).1
    rw[ZjT,hlen] at this
    exact this
   rw[hcell j (by omega)]
   have hjs:j<ss.length:=by omega
   simp[scells,hj',hjs] at hj
   simp[List.getD,hjs,← hj]
  ·have:=ZsR (H:=H) (ss.take len)
   rw[Rows.uptoBulk]
   simp only[List.length_map] at this ⊢
   omega
end

end Go.Proofs.YtcniomgjikienaaGreatDoor
