/-
  Texts that belong together, joined: EdRow, EdMath, EdM2, EdM3, EdM4, EdM5, HuMath, HuM2, HuM3, HuM4, HuM5, HuM6, EdChk, EdIter, EdOwn, EdKeep, EdWalk, EdDrew, PcReg, EdReg, EdApp, EdSameS, EdRChk, EdRApp, EdMk, EdRKp, EdOpen.
-/
import Derived.Test.YtcnjephlmcnodaaDoorProg
import Derived.WalkKit
import Derived.WalkSpells
import Derived.WalkLawsBesides
import Derived.Deep.QuietTactic
import Derived.BigQuiet
import Derived.Laws.AppendOwnNone
import Derived.Below
import Derived.RangeFuncNested
import Derived.RangeFuncBound
import Derived.RangeFuncCalls
import Derived.RangeFuncLeaves
import Derived.RangeFuncBox
import Derived.Shelf.Abstract
import Derived.Shelf.RegionOpen
import Derived.OwnWalkIn
import Derived.TacticsInMore
import Derived.LoopNIn
import Derived.LoopIn
import Derived.Maps.AppendAt
import Derived.Deep.RegionHeld3
import Derived.Test.YtcnjephlmcnodaaDoorRows
import Derived.Test.YtcnjephlmcnodaaDoorChecked
import Derived.ProofKit
import Derived.OpenShut
import Derived.ShutString
import Derived.ChangeOld
import Derived.SliceStrings
import Derived.ChangeSlices
import Derived.Deep.Slices
import Derived.Deep.SlicePairs
import Derived.JoinedCond

set_option maxHeartbeats 16000000
set_option maxRecDepth 100000
namespace Go.Proofs.YtcnjephlmcnodaaDoor

section
open Go.RowKit
theorem Y_a {α:Type} (l:List α) (i:Nat) (a:α):l.toArray.setIfInBounds i a=(l.set i a).toArray:=List.setIfInBounds_toArray ..
theorem Y_b {α:Type} {a b:α} {l:List α}:(a::l).set 0 b=b::l:=rfl
theorem Y_c {α:Type} {a b:α} {l:List α} {n:Nat}:(a::l).set (n+1) b=a::l.set n b:=rfl
structure Ch where
 A:Int
 AN:Int
 B:Int
 BN:Int
structure Rn where
 a:Int
 b:Int
 n:Int
def chV (c:Ch):Value:=.agg #[.int .i64 c.A,.int .i64 c.AN,.int .i64 c.B,.int .i64 c.BN]
def chC (c:Ch):List Value:=[.int .i64 c.A,.int .i64 c.AN,.int .i64 c.B,.int .i64 c.BN]
def rnC (r:Rn):List Value:=[.int .i64 r.a,.int .i64 r.b,.int .i64 r.n]
def chcells (l:List Ch):List Value:=l.flatMap chC
def rncells (l:List Rn):List Value:=l.flatMap rnC
def icells (ns:List Int):List Value:=ns.map fun z=>.int .i64 z
def scells (ws:List (List UInt8)):List Value:=ws.map fun a=>.string ⟨a.toArray⟩
theorem infoStr:(Tryd.prog.info? 9).map (fun i=>(i.zero,i.size,i.bytes))=some (some (.string ⟨#[]⟩),1,16):=by kernel_rfl
theorem infoInt:(Tryd.prog.info? 3).map (fun i=>(i.zero,i.size,i.bytes))=some (some (.int .i64 0),1,8):=by kernel_rfl
theorem Zag {W:World} {a:Addr} {v:Value} (h:W.cell? (a.add 0)=some v):∃ b off,a=⟨b,off,none⟩:=by
 obtain⟨b,off,spot⟩:=a
 have hspot:spot=none:=by simpa [Addr.add] using World.cell?_spot h
 subst hspot
 exact⟨b,off,rfl⟩
theorem Zaf (b off j:Nat):(⟨b,off,none⟩:Addr).add j=⟨b,off+j,none⟩:=by unfold Addr.add;split<;>simp_all
theorem Below.dN {N:Nat} {w w1:World} (h:Below N w w1) (n:Nat):Below N w (w1.drewN n):=⟨h.os,h.tape,h.output,h.size,h.block⟩
def Holds (w:World) (v:Value) (n:Nat) (xs:List Value):Prop :=
 (v=.slice none 0 0∧n=0∧xs=[])∨∃ ad c,v=.slice (some ad) n c∧n≤c∧∀ j u,xs[j]?=some u→w.cell? (ad.add j)=some u
theorem ZbG {w:World} {B:Nat} {e:TypeId} {s:Nat} {v:Value} {n:Nat} {xs:List Value} (h:w.ownsRow B e s v n xs):Holds w v n xs:=by
 rcases h.2 with ⟨rfl,h0⟩ | ⟨g,cap,cur,rfl,_,_,hnc,_⟩
 ·exact .inl ⟨rfl,h0,List.eq_nil_of_length_eq_zero (by rw[h.1,h0,Nat.zero_mul])⟩
 ·exact .inr ⟨⟨g,0,none⟩,cap,rfl,hnc,h.cells (g:=g) rfl⟩
theorem Holds.keep {w w':World} {v:Value} {n:Nat} {xs:List Value} (h:Holds w v n xs) (hk:∀ k,k<w.heap.size→w'.heap[k]?=w.heap[k]?):Holds w' v n xs:=by
 rcases h with h | ⟨ad,c,hv,hnc,hc⟩
 ·exact .inl h
 ·refine .inr ⟨ad,c,hv,hnc,fun j u hj=>?_⟩
  have h1:=hc j u hj
  have hlt:=World.block_lt_of_cell? w _ h1
  rw[World.cell?_of_block (w:=w) (hk _ hlt)]
  exact h1
theorem Holds.form {w:World} {v:Value} {n:Nat} {xs:List Value} (h:Holds w v n xs):∃ ao c,v=.slice ao n c:=by
 rcases h with ⟨rfl,rfl,rfl⟩ | ⟨ad,c,rfl,_⟩
 ·exact⟨_,_,rfl⟩
 ·exact⟨_,_,rfl⟩
theorem Holds.at {w:World} {v:Value} {n:Nat} {xs:List Value} (h:Holds w v n xs) (h0:0<xs.length):∃ b off c,v=.slice (some ⟨b,off,none⟩) n c∧b<w.heap.size∧∀ j (hj:j<xs.length),w.cell? ⟨b,off+j,none⟩=some xs[j]:=by
 rcases h with ⟨_,_,rfl⟩ | ⟨ad,c,rfl,_,hc⟩
 ·simp at h0
 ·obtain⟨b,off,rfl⟩:=Zag (hc 0 _ (List.getElem?_eq_getElem h0))
  refine⟨b,off,c,rfl,World.block_lt_of_cell? w _ (hc 0 _ (List.getElem?_eq_getElem h0)),fun j hj=>?_⟩
  have:=hc j _ (List.getElem?_eq_getElem hj)
  rw[Zaf] at this
  exact this
theorem Holds.nil (w:World):Holds w (.slice none 0 0) 0 []:=.inl ⟨rfl,rfl,rfl⟩
theorem Zau (l:List Ch):(chcells l).length=l.length * 4:=by
 induction l with
 | nil=>rfl
 | cons c l ih=>simp only[chcells,List.flatMap_cons,List.length_append,List.length_cons] at ih ⊢;rw[ih];simp[chC];omega
theorem Zdb (l:List Rn):(rncells l).length=l.length * 3:=by
 induction l with
 | nil=>rfl
 | cons c l ih=>simp only[rncells,List.flatMap_cons,List.length_append,List.length_cons] at ih ⊢;rw[ih];simp[rnC];omega
theorem ZbK (l:List Int):(icells l).length=l.length:=by simp[icells]
theorem Zds (l:List (List UInt8)):(scells l).length=l.length:=by simp[scells]
theorem ZbJ (a b:List Int):icells (a++b)=icells a++icells b:=by simp[icells]
theorem ZbL (l:List Int):∀ u∈icells l,u.oneCell'=true:=by
 intro u hu
 simp only[icells,List.mem_map] at hu
 obtain⟨a,_,rfl⟩:=hu
 rfl
theorem Zat (l:List Ch) (k:Nat) (hk:k<l.length):(chcells l)[4 * k]?=some (.int .i64 l[k].A)∧(chcells l)[4 * k+1]?=some (.int .i64 l[k].AN)∧(chcells l)[4 * k+2]?=some (.int .i64 l[k].B)∧(chcells l)[4 * k+3]?=some (.int .i64 l[k].BN):=by
 induction l generalizing k with
 | nil=>simp at hk
 | cons c l ih =>
  cases k with
  | zero=>simp[chcells,chC]
  | succ k =>
   have h:=ih k (by simpa using hk)
   have e:∀ i,(chcells (c::l))[4 * (k+1)+i]?=(chcells l)[4 * k+i]?:=by
    intro i
    have:chcells (c::l)=chC c++chcells l:=rfl
    rw[this,List.getElem?_append_right (by simp[chC];omega)]
    congr 1
    simp[chC];omega
   simp only[List.getElem_cons_succ]
   refine⟨by rw[← (h).1];exact e 0,by rw[← h.2.1];exact e 1,by rw[← h.2.2.1];exact e 2,by rw[← h.2.2.2];exact e 3⟩
theorem Zda (l:List Rn) (k:Nat) (hk:k<l.length):(rncells l)[3 * k]?=some (.int .i64 l[k].a)∧(rncells l)[3 * k+1]?=some (.int .i64 l[k].b)∧(rncells l)[3 * k+2]?=some (.int .i64 l[k].n):=by
 induction l generalizing k with
 | nil=>simp at hk
 | cons c l ih =>
  cases k with
  | zero=>simp[rncells,rnC]
  | succ k =>
   have h:=ih k (by simpa using hk)
   have e:∀ i,(rncells (c::l))[3 * (k+1)+i]?=(rncells l)[3 * k+i]?:=by
    intro i
    have:rncells (c::l)=rnC c++rncells l:=rfl
    rw[this,List.getElem?_append_right (by simp[rnC];omega)]
    congr 1
    simp[rnC];omega
   simp only[List.getElem_cons_succ]
   refine⟨by rw[← (h).1];exact e 0,by rw[← h.2.1];exact e 1,by rw[← h.2.2];exact e 2⟩
def HCh (w:World) (v:Value) (l:List Ch):Prop:=Holds w v l.length (chcells l)
def HRn (w:World) (v:Value) (l:List Rn):Prop:=Holds w v l.length (rncells l)
def HI (w:World) (v:Value) (l:List Int):Prop:=Holds w v l.length (icells l)
def HS (w:World) (v:Value) (l:List (List UInt8)):Prop:=Holds w v l.length (scells l)
theorem HCh.keep {w w':World} {v:Value} {l:List Ch} (h:HCh w v l) {N:Nat} (hk:Below N w w') (hN:w.heap.size≤N):HCh w' v l:=Holds.keep h fun k hk'=>hk.block k (by omega)
theorem HRn.keep {w w':World} {v:Value} {l:List Rn} (h:HRn w v l) {N:Nat} (hk:Below N w w') (hN:w.heap.size≤N):HRn w' v l:=Holds.keep h fun k hk'=>hk.block k (by omega)
theorem HI.keep {w w':World} {v:Value} {l:List Int} (h:HI w v l) {N:Nat} (hk:Below N w w') (hN:w.heap.size≤N):HI w' v l:=Holds.keep h fun k hk'=>hk.block k (by omega)
theorem HS.keep {w w':World} {v:Value} {l:List (List UInt8)} (h:HS w v l) {N:Nat} (hk:Below N w w') (hN:w.heap.size≤N):HS w' v l:=Holds.keep h fun k hk'=>hk.block k (by omega)
theorem HCh.at {w:World} {ao:Option Addr} {n c:Nat} {l:List Ch} (h:HCh w (.slice ao n c) l) (h0:0<l.length):∃ b off,ao=some ⟨b,off,none⟩∧b<w.heap.size ∧
  ∀ k (hk:k<l.length),w.cell? ⟨b,off+k * 4,none⟩=some (.int .i64 l[k].A)∧w.cell? ⟨b,off+k * 4+1,none⟩=some (.int .i64 l[k].AN)∧w.cell? ⟨b,off+k * 4+2,none⟩=some (.int .i64 l[k].B)∧w.cell? ⟨b,off+k * 4+3,none⟩=some (.int .i64 l[k].BN):=by
 obtain⟨b,off,c',hv,hb,hc⟩:=Holds.at h (by rw[Zau];omega)
 cases hv
 refine⟨b,off,rfl,hb,fun k hk=>?_⟩
 obtain⟨h0,h1,h2,h3⟩:=Zat l k hk
 have hlen:=Zau l
 have e:k * 4=4 * k:=by omega
 rw[e]
 refine⟨?_,?_,?_,?_⟩
 ·have:=hc (4 * k) (by omega)
  rw[← h0,this,List.getElem?_eq_getElem]
 ·have:=hc (4 * k+1) (by omega)
  rw[← h1,Nat.add_assoc,this,List.getElem?_eq_getElem]
 ·have:=hc (4 * k+2) (by omega)
  rw[← h2,Nat.add_assoc,this,List.getElem?_eq_getElem]
 ·have:=hc (4 * k+3) (by omega)
  rw[← h3,Nat.add_assoc,this,List.getElem?_eq_getElem]
theorem HRn.at {w:World} {ao:Option Addr} {n c:Nat} {l:List Rn} (h:HRn w (.slice ao n c) l) (h0:0<l.length):∃ b off,ao=some ⟨b,off,none⟩∧b<w.heap.size ∧
  ∀ k (hk:k<l.length),w.cell? ⟨b,off+k * 3,none⟩=some (.int .i64 l[k].a)∧w.cell? ⟨b,off+k * 3+1,none⟩=some (.int .i64 l[k].b)∧w.cell? ⟨b,off+k * 3+2,none⟩=some (.int .i64 l[k].n):=by
 obtain⟨b,off,c',hv,hb,hc⟩:=Holds.at h (by rw[Zdb];omega)
 cases hv
 refine⟨b,off,rfl,hb,fun k hk=>?_⟩
 obtain⟨h0,h1,h2⟩:=Zda l k hk
 have hlen:=Zdb l
 have e:k * 3=3 * k:=by omega
 rw[e]
 refine⟨?_,?_,?_⟩
 ·have:=hc (3 * k) (by omega)
  rw[← h0,this,List.getElem?_eq_getElem]
 ·have:=hc (3 * k+1) (by omega)
  rw[← h1,Nat.add_assoc,this,List.getElem?_eq_getElem]
 ·have:=hc (3 * k+2) (by omega)
  rw[← h2,Nat.add_assoc,this,List.getElem?_eq_getElem]
theorem HI.at {w:World} {ao:Option Addr} {n c:Nat} {l:List Int} (h:HI w (.slice ao n c) l) (h0:0<l.length):∃ b off,ao=some ⟨b,off,none⟩∧b<w.heap.size ∧
  ∀ k (hk:k<l.length),w.cell? ⟨b,off+k,none⟩=some (.int .i64 l[k]):=by
 obtain⟨b,off,c',hv,hb,hc⟩:=Holds.at h (by rw[ZbK];omega)
 cases hv
 exact⟨b,off,rfl,hb,fun k hk=>by rw[hc k (by rw[ZbK];exact hk)];simp[icells]⟩
theorem HS.at {w:World} {ao:Option Addr} {n c:Nat} {l:List (List UInt8)} (h:HS w (.slice ao n c) l) (h0:0<l.length):∃ b off,ao=some ⟨b,off,none⟩∧b<w.heap.size ∧
  ∀ k (hk:k<l.length),w.cell? ⟨b,off+k,none⟩=some (.string ⟨l[k].toArray⟩):=by
 obtain⟨b,off,c',hv,hb,hc⟩:=Holds.at h (by rw[Zds];omega)
 cases hv
 exact⟨b,off,rfl,hb,fun k hk=>by rw[hc k (by rw[Zds];exact hk)];simp[scells]⟩
end

section
def nat31 (z:Int):Bool:=decide (0≤z) && decide (z≤2147483647)
def numB (c:Ch):Bool:=nat31 c.A && nat31 c.AN && nat31 c.B && nat31 c.BN && (decide (0<c.AN) || decide (0<c.BN))
theorem ZcG (c:Ch):numB c=true↔(0≤c.A∧c.A≤2147483647)∧(0≤c.AN∧c.AN≤2147483647)∧(0≤c.B∧c.B≤2147483647)∧(0≤c.BN∧c.BN≤2147483647)∧(0<c.AN∨0<c.BN):=by
 simp[numB,nat31,and_assoc]
def Right:Bool→Int→Int→Int→Int→List Ch→Prop
 | _,a,b,n,m,[]=>a≤n∧b≤m∧n-a=m-b
 | f,a,b,n,m,c::l=>(numB c=true∧c.A-a=c.B-b∧a≤c.A∧(f=true∨a<c.A))∧Right false (c.A+c.AN) (c.B+c.BN) n m l
def decRight:(f:Bool)→(a b n m:Int)→(l:List Ch)→Decidable (Right f a b n m l)
 | _,a,b,n,m,[]=>inferInstanceAs (Decidable (a≤n∧b≤m∧n-a=m-b))
 | f,a,b,n,m,c::l =>
  have _:=decRight false (c.A+c.AN) (c.B+c.BN) n m l
  inferInstanceAs (Decidable ((numB c=true∧c.A-a=c.B-b∧a≤c.A∧(f=true∨a<c.A))∧Right false (c.A+c.AN) (c.B+c.BN) n m l))
theorem Right.le {f:Bool} {a b n m:Int} {l:List Ch} (h:Right f a b n m l):a≤n∧b≤m∧n-a-(m-b)=n-a-(m-b):=by
 induction l generalizing f a b with
 | nil=>exact⟨h.1,h.2.1,rfl⟩
 | cons c l ih =>
  obtain⟨⟨h1,h2,h3,h4⟩,h5⟩:=h
  rw[ZcG] at h1
  have:=ih h5
  refine⟨by omega,by omega,rfl⟩
def Script (l:List Ch) (n m:Int):Prop:=0≤n∧0≤m∧Right true 0 0 n m l
def decScript (l:List Ch) (n m:Int):Decidable (Script l n m) :=
 have _:=decRight true 0 0 n m l
 inferInstanceAs (Decidable (0≤n∧0≤m∧Right true 0 0 n m l))
def chk (l:List Ch) (n m:Int):Int:=@ite Int (Script l n m) (decScript l n m) 0 50
theorem Zaw {l:List Ch} {n m:Int} (h:Script l n m):chk l n m=0:=if_pos h
theorem Zav {l:List Ch} {n m:Int} (h:¬ Script l n m):chk l n m=50:=if_neg h
def piecesL:Int→Int→Int→Int→List Ch→List (Rn × Ch)
 | a,b,n,m,[]=>[(⟨a,b,n-a⟩,⟨n,0,m,0⟩)]
 | a,b,n,m,c::l=>(⟨a,b,c.A-a⟩,c)::piecesL (c.A+c.AN) (c.B+c.BN) n m l
def Pc (n m:Int) (x:Rn × Ch):Prop :=
 0≤x.1.a∧0≤x.1.b∧0≤x.1.n∧x.1.a+x.1.n≤n∧x.1.b+x.1.n≤m∧0≤x.2.B∧0≤x.2.BN∧x.2.B+x.2.BN≤m∧0≤x.2.AN∧x.2.AN≤n
theorem Right.pc {f:Bool} {a b n m:Int} {c:Ch} {l:List Ch} (h:Right f a b n m (c::l)) (ha:0≤a) (hb:0≤b):Pc n m (⟨a,b,c.A-a⟩,c):=by
 obtain⟨⟨h1,h2,h3,h4⟩,h5⟩:=h
 rw[ZcG] at h1
 have:=h5.le
 refine⟨ha,hb,?_,?_,?_,?_,?_,?_,?_,?_⟩<;>dsimp only<;>omega
def pk (x:Rn × Ch):List Int:=(List.range x.1.n.toNat).map (fun (i:Nat)=>x.1.b+(i:Int))++List.replicate x.2.AN.toNat (-1)
def keepL (l:List Ch) (n m:Int):List Int:=(piecesL 0 0 n m l).flatMap pk
def cut (A:List (List UInt8)) (i n:Int):List (List UInt8):=(A.drop i.toNat).take n.toNat
end

section
def un (a b:Int):Nat→List Rn
 | 0=>[]
 | k+1=>⟨a,b,1⟩::un (a+1) (b+1) k
def ex (r:Rn):List Rn:=un r.a r.b r.n.toNat
def exs (rs:List Rn):List Rn:=rs.flatMap ex
theorem Zbo (r:Rn) (rs:List Rn):exs (r::rs)=ex r++exs rs:=rfl
theorem Zcz {a b:Int} {k:Nat} {r:Rn}:r∈un a b k↔r.n=1∧a≤r.a∧r.a<a+k∧r.b-r.a=b-a:=by
 induction k generalizing a b with
 | zero=>simp[un];omega
 | succ k ih =>
  rw[un,List.mem_cons,ih]
  constructor
  ·rintro (rfl | h)
   ·simp;omega
   ·omega
  ·rintro⟨h1,h2,h3,h4⟩
   by_cases h:r.a=a
   ·left
    obtain⟨x,y,z⟩:=r
    simp only at *
    subst h h1
    have:y=b:=by omega
    rw[this]
   ·right
    omega
theorem Zcx {p r:Rn}:r∈ex p↔r.n=1∧p.a≤r.a∧r.a<p.a+p.n.toNat∧r.b-r.a=p.b-p.a:=Zcz
def Chain:Int→Int→List Rn→Prop
 | _,_,[]=>True
 | a,b,r::rs=>a≤r.a∧b≤r.b∧0≤r.n∧Chain (r.a+r.n) (r.b+r.n) rs
theorem Chain.low {a b:Int} {rs:List Rn} (h:Chain a b rs):∀ r∈exs rs,r.n=1∧a≤r.a∧b≤r.b:=by
 induction rs generalizing a b with
 | nil=>simp[exs]
 | cons p rs ih =>
  obtain⟨h1,h2,h3,h4⟩:=h
  intro r hr
  rw[Zbo,List.mem_append,Zcx] at hr
  rcases hr with hr | hr
  ·omega
  ·have:=ih h4 r hr
   omega
theorem Chain.mono {a b a' b':Int} {rs:List Rn} (h:Chain a b rs) (ha:a'≤a) (hb:b'≤b):Chain a' b' rs:=by
 cases rs with
 | nil=>trivial
 | cons p rs=>exact⟨by have:=h.1;omega,by have:=h.2.1;omega,h.2.2⟩
def Up (l:List Rn):Prop:=l.Pairwise fun p q=>p.a<q.a∧p.b<q.b
theorem ZdT (a b:Int) (k:Nat):Up (un a b k):=by
 induction k generalizing a b with
 | zero=>exact List.Pairwise.nil
 | succ k ih =>
  refine List.Pairwise.cons (fun r hr=>?_) (ih _ _)
  rw[Zcz] at hr
  dsimp only
  omega
theorem Chain.up {a b:Int} {rs:List Rn} (h:Chain a b rs):Up (exs rs):=by
 induction rs generalizing a b with
 | nil=>exact List.Pairwise.nil
 | cons p rs ih =>
  obtain⟨h1,h2,h3,h4⟩:=h
  rw[Zbo]
  refine List.pairwise_append.2 ⟨ZdT _ _ _,ih h4,fun r hr q hq=>?_⟩
  rw[Zcx] at hr
  have:=h4.low q hq
  omega
def rns (a b n m:Int) (l:List Ch):List Rn:=(piecesL a b n m l).map (·.1)
def U (a b n m:Int) (l:List Ch):List Rn:=exs (rns a b n m l)
theorem Zac (a b n m:Int):U a b n m []=un a b (n-a).toNat:=by simp[U,rns,piecesL,exs,ex]
theorem Zab (a b n m:Int) (c:Ch) (l:List Ch):U a b n m (c::l)=un a b (c.A-a).toNat++U (c.A+c.AN) (c.B+c.BN) n m l:=by
 simp[U,rns,piecesL,exs,ex]
theorem Right.chain {f:Bool} {a b n m:Int} {l:List Ch} (h:Right f a b n m l):Chain a b (rns a b n m l):=by
 induction l generalizing f a b with
 | nil =>
  obtain⟨h1,h2,h3⟩:=h
  exact⟨Int.le_refl _,Int.le_refl _,by dsimp only;omega,trivial⟩
 | cons c l ih =>
  obtain⟨⟨h1,h2,h3,h4⟩,h5⟩:=h
  rw[ZcG] at h1
  refine⟨Int.le_refl _,Int.le_refl _,by dsimp only;omega,(ih h5).mono ?_ ?_⟩<;>dsimp only<;>omega
theorem Right.up {f:Bool} {a b n m:Int} {l:List Ch} (h:Right f a b n m l):Up (U a b n m l):=h.chain.up
theorem Right.first {a b n m:Int} {l:List Ch} (h:Right false a b n m l):∃ e t,U a b n m l++[⟨n,m,0⟩]=e::t∧e.a=a∧e.b=b:=by
 cases l with
 | nil =>
  obtain⟨h1,h2,h3⟩:=h
  rw[Zac]
  by_cases hn:n=a
  ·subst hn
   exact⟨⟨n,m,0⟩,[],by simp[un],rfl,by dsimp only;omega⟩
  ·obtain⟨k,hk⟩:∃ k:Nat,(n-a).toNat=k+1:=⟨(n-a).toNat-1,by omega⟩
   rw[hk,un]
   exact⟨_,_,rfl,rfl,rfl⟩
 | cons c l =>
  obtain⟨⟨h1,h2,h3,h4⟩,h5⟩:=h
  have hlt:a<c.A:=by simpa using h4
  rw[Zab]
  obtain⟨k,hk⟩:∃ k:Nat,(c.A-a).toNat=k+1:=⟨(c.A-a).toNat-1,by omega⟩
  rw[hk,un]
  exact⟨_,_,rfl,rfl,rfl⟩
end

section
def Fit:Int→Int→Int→Int→List Rn→Prop
 | a,b,n,m,[]=>a≤n∧b≤m
 | a,b,n,m,r::P=>a≤r.a∧b≤r.b∧r.n=1∧Fit (r.a+1) (r.b+1) n m P
theorem Fit.le {a b n m:Int} {P:List Rn} (h:Fit a b n m P):a≤n∧b≤m:=by
 induction P generalizing a b with
 | nil=>exact h
 | cons r P ih=>have:=ih h.2.2.2;have h1:=h.1;have h2:=h.2.1;omega
def UpA (l:List Rn):Prop:=l.Pairwise fun p q=>p.a<q.a
theorem Up.a {l:List Rn} (h:Up l):UpA l:=h.imp fun h=>h.1
def kr (a b n m:Int) (l:List Ch):List Int:=(piecesL a b n m l).flatMap pk
theorem Zcd (a b n m:Int):kr a b n m []=(List.range (n-a).toNat).map fun (j:Nat)=>b+(j:Int):=by simp[kr,piecesL,pk]
theorem ZbZ (a b n m:Int) (c:Ch) (l:List Ch):kr a b n m (c::l)=((List.range (c.A-a).toNat).map fun (j:Nat)=>b+(j:Int))++List.replicate c.AN.toNat (-1)++kr (c.A+c.AN) (c.B+c.BN) n m l:=by
 simp[kr,piecesL,pk]
theorem Zcb {f:Bool} {a b n m:Int} {l:List Ch} (h:Right f a b n m l):(kr a b n m l).length=(n-a).toNat:=by
 induction l generalizing f a b with
 | nil=>rw[Zcd];simp
 | cons c l ih =>
  obtain⟨⟨h1,h2,h3,h4⟩,h5⟩:=h
  rw[ZcG] at h1
  have hle:=h5.le
  rw[ZbZ]
  simp only[List.length_append,List.length_map,List.length_range,List.length_replicate,ih h5]
  omega
def Vk:Int→Int→List Int→Prop
 | _,_,[]=>True
 | nx,m,z::t=>(z=-1∧Vk nx m t)∨(z≠-1∧nx≤z∧z<m∧Vk (z+1) m t)
theorem Vk.each {nx m:Int} {K:List Int} (h:Vk nx m K) (h0:0≤nx):∀ z∈K,z=-1∨0≤z:=by
 induction K generalizing nx with
 | nil=>simp
 | cons y t ih =>
  intro z hz
  rw[List.mem_cons] at hz
  rcases h with ⟨rfl,h⟩ | ⟨hy,h1,h2,h3⟩
  ·rcases hz with rfl | hz
   ·exact .inl rfl
   ·exact ih h h0 z hz
  ·rcases hz with rfl | hz
   ·right;omega
   ·exact ih h3 (by omega) z hz
end

section
section
variable {x y:List Ch} {n m k:Int}
end
end

end Go.Proofs.YtcnjephlmcnodaaDoor

/- Going back, what a script costs, and what it reaches: plain mathematics. -/
namespace Go.Proofs.YtcnjephlmcnodaaDoor
end Go.Proofs.YtcnjephlmcnodaaDoor

namespace Go.Proofs.YtcnjephlmcnodaaDoor

section
structure Mk where
 sg:Int
 tx:List UInt8
structure Hk where
 A:Int
 AN:Int
 B:Int
 BN:Int
 ls:List Mk
def okS (s:Int):Bool:=decide (s=32) || decide (s=45) || decide (s=43)
def pkL (no:Int):List Mk→List (List UInt8)
 | []=>[]
 | m::l=>if m.sg≠no∧okS m.sg=true then m.tx::pkL no l else pkL no l
def oldL (h:Hk):List (List UInt8):=pkL 43 h.ls
def newL (h:Hk):List (List UInt8):=pkL 45 h.ls
def mks (s:Int) (x:List (List UInt8)):List Mk:=x.map fun t=>⟨s,t⟩
def bodyH (a b:List (List UInt8)) (e:Int):Int→List Ch→List Mk
 | p,[]=>mks 32 (cut a p (e-p))
 | p,c::g=>mks 32 (cut a p (c.A-p))++(mks 45 (cut a c.A c.AN)++(mks 43 (cut b c.B c.BN)++bodyH a b e (c.A+c.AN) g))
def cntH (a b:Int) (ls:List Mk):Hk:=⟨if 0<(pkL 43 ls).length then a+1 else a,(pkL 43 ls).length,if 0<(pkL 45 ls).length then b+1 else b,(pkL 45 ls).length,ls⟩
def endH (n ctx:Int):List Ch→Int
 | []=>0
 | [c]=>min n (c.A+c.AN+ctx)
 | _::d::g=>endH n ctx (d::g)
def oneH (a b:List (List UInt8)) (ctx:Int) (g:List Ch):Hk:=match g with
 | []=>⟨0,0,0,0,[]⟩
 | f::g=>cntH (f.A-min ctx f.A) (f.B-min ctx f.A) (bodyH a b (endH a.length ctx (f::g)) (f.A-min ctx f.A) (f::g))
def linB (s:List UInt8):Bool:=!s.isEmpty && s.dropLast.all fun c=>c != 10
def fdB (s:List UInt8):Bool:=s.getLast? == some 10
def lstB (sg:Int) (l:List Mk):Bool:=l.all fun m=>decide (m.sg≠sg) && decide (m.sg≠32)
def fldB:List Mk→Bool
 | []=>true
 | m::l=>linB m.tx && okS m.sg && (fdB m.tx || ((decide (m.sg=43) || lstB 45 l) && (decide (m.sg=45) || lstB 43 l))) && fldB l
def rngB (h:Hk):Bool:=nat31 h.A && nat31 h.AN && nat31 h.B && nat31 h.BN && !(decide (h.A=0) && decide (0<h.AN)) && !(decide (h.B=0) && decide (0<h.BN))
def chkH (h:Hk):Int:=if rngB h=false then 2 else if fldB h.ls=false then 6 else if h.AN≠(oldL h).length∨h.BN≠(newL h).length then 120 else if h.ls.all (fun m=>decide (m.sg=32))=true then 50 else 0
end

section
def AllS (s:Int) (x:List Mk):Prop:=∀ m∈x,m.sg=s
theorem AllS.nil (s:Int):AllS s []:=fun _ h=>by cases h
def Nf:Bool→List Mk→Prop
 | _,[]=>True
 | s,m::l=>if m.sg=45 then s=false∧Nf false l else if m.sg=43 then Nf true l else Nf false l
end

section
theorem ZbF {A:List (List UInt8)} {p k:Int} (hp:0≤p) (hk:0≤k) (h:p+k≤A.length):((cut A p k).length:Int)=k:=by
 simp only[cut,List.length_take,List.length_drop]
 omega
theorem ZaX {A:List (List UInt8)} {p i j:Int} (hp:0≤p) (hi:0≤i) (hj:0≤j):cut A p i++cut A (p+i) j=cut A p (i+j):=by
 simp only[cut]
 rw[show (p+i).toNat=p.toNat+i.toNat by omega,show (i+j).toNat=i.toNat+j.toNat by omega,← List.drop_drop,List.take_add]
def endA:Int→List Ch→Int
 | p,[]=>p
 | _,c::g=>endA (c.A+c.AN) g
def endB:Int→List Ch→Int
 | q,[]=>q
 | _,c::g=>endB (c.B+c.BN) g
structure OneF (a b:List (List UInt8)) (ctx:Int) (g:List Ch) (s t e:Int):Prop where
 s0:0≤s
 t0:0≤t
 en:e≤a.length
 em:endB 0 g+(e-endA 0 g)≤b.length
 le:endA 0 g≤e
 se:s≤e
 AN:(oneH a b ctx g).AN=e-s
 BN:(oneH a b ctx g).BN=endB 0 g+(e-endA 0 g)-t
 A:(oneH a b ctx g).A=if 0<e-s then s+1 else s
 B:(oneH a b ctx g).B=if 0<endB 0 g+(e-endA 0 g)-t then t+1 else t
 old:oldL (oneH a b ctx g)=cut a s (e-s)
 ls:(oneH a b ctx g).ls=bodyH a b e s g
end

end Go.Proofs.YtcnjephlmcnodaaDoor

/- Hunks that are made of two texts, further: in order, right, the script again, their kinds of lines; plain mathematics. -/
namespace Go.Proofs.YtcnjephlmcnodaaDoor
end Go.Proofs.YtcnjephlmcnodaaDoor

/- Each group of a right script, and its hunk; how many lines it has; plain mathematics. -/
namespace Go.Proofs.YtcnjephlmcnodaaDoor
end Go.Proofs.YtcnjephlmcnodaaDoor

/- What the statements on hunks of two texts ask, in plain terms. -/
namespace Go.Proofs.YtcnjephlmcnodaaDoor
end Go.Proofs.YtcnjephlmcnodaaDoor

namespace Go.Proofs.YtcnjephlmcnodaaDoor

section
open Go.RowKit
theorem ret_bool {a b:Bool} (h:a=b):Ending.returned (.bool a)=.returned (.bool b):=by rw[h]
theorem ret_int {k:IntKind} {a b:Int} (h:a=b):Ending.returned (.int k a)=.returned (.int k b):=by rw[h]
theorem ZcH (c:Ch) (w:World):Calls Tryd.prog 42 #[chV c] w fun e w'=>e=.returned (.bool (numB c))∧Below w.heap.size w w':=by
 obtain⟨A,AN,B,BN⟩:=c
 unfold chV
 dsimp only
 have hB:Below w.heap.size w (w.alloc (.cells #[.int .i64 A,.int .i64 AN,.int .i64 B,.int .i64 BN] 61)):=(Below.refl _ w).alloc (Nat.le_refl _) _
 obtain⟨b,hb⟩:∃ b,numB ⟨A,AN,B,BN⟩=b:=⟨_,rfl⟩
 rw[hb]
 have Hb:Hid (numB ⟨A,AN,B,BN⟩=b):=hb
 clear hb
 have i0:∀ w,(Instr.index 110 (.agg #[.int .i64 A,.int .i64 AN,.int .i64 B,.int .i64 BN]) (.int .i64 0)).run Tryd.prog w=.ok (.int .i64 A) w:=fun _=>by kernel_rfl
 have i1:∀ w,(Instr.index 110 (.agg #[.int .i64 A,.int .i64 AN,.int .i64 B,.int .i64 BN]) (.int .i64 1)).run Tryd.prog w=.ok (.int .i64 AN) w:=fun _=>by kernel_rfl
 have i2:∀ w,(Instr.index 110 (.agg #[.int .i64 A,.int .i64 AN,.int .i64 B,.int .i64 BN]) (.int .i64 2)).run Tryd.prog w=.ok (.int .i64 B) w:=fun _=>by kernel_rfl
 have i3:∀ w,(Instr.index 110 (.agg #[.int .i64 A,.int .i64 AN,.int .i64 B,.int .i64 BN]) (.int .i64 3)).run Tryd.prog w=.ok (.int .i64 BN) w:=fun _=>by kernel_rfl
 go_enter Tryd.func42,Tryd.ntmps42
 go_wp2
 go_loopw [14] (fun i wr=>∃ k:Nat,k≤4∧i=.int .i64 k∧wr=w.alloc (.cells #[.int .i64 A,.int .i64 AN,.int .i64 B,.int .i64 BN] 61)∧Hid ((0<k→(0≤A∧A≤2147483647))∧(1<k→(0≤AN∧AN≤2147483647))∧(2<k→(0≤B∧B≤2147483647))∧(3<k→(0≤BN∧BN≤2147483647)))) (fun i _=>4-(intOf i).toNat)
 case atStart=>exact⟨0,Nat.zero_le _,rfl,rfl,(⟨fun h=>absurd h (by omega),fun h=>absurd h (by omega),fun h=>absurd h (by omega),fun h=>absurd h (by omega)⟩)⟩
 case round =>
  obtain⟨k,hk,rfl,rfl,hok⟩:=hrel
  rcases (by omega:k=0∨k=1∨k=2∨k=3∨k=4) with rfl | rfl | rfl | rfl | rfl
  ·by_cases h0:A<0
   ·go_wp2
    go_ret
    refine⟨ret_bool ?_,hB⟩
    rw[← Hb.out]
    simp[numB,nat31]
    omega
   ·by_cases h1:2147483647<A
    ·go_wp2
     go_ret
     refine⟨ret_bool ?_,hB⟩
     rw[← Hb.out]
     simp[numB,nat31]
     omega
    ·go_wp2
     go_roundw
     case rel=>exact⟨1,by omega,by go_num,trivial,(by have:=hok.out;show _∧_∧_∧_;refine⟨?_,?_,?_,?_⟩<;>intro _<;>omega)⟩
     case measure=>simp[intOf]
  ·by_cases h0:AN<0
   ·go_wp2
    go_ret
    refine⟨ret_bool ?_,hB⟩
    rw[← Hb.out]
    simp[numB,nat31]
    omega
   ·by_cases h1:2147483647<AN
    ·go_wp2
     go_ret
     refine⟨ret_bool ?_,hB⟩
     rw[← Hb.out]
     simp[numB,nat31]
     omega
    ·go_wp2
     go_roundw
     case rel=>exact⟨2,by omega,by go_num,trivial,(by have:=hok.out;show _∧_∧_∧_;refine⟨?_,?_,?_,?_⟩<;>intro _<;>omega)⟩
     case measure=>simp[intOf]
  ·by_cases h0:B<0
   ·go_wp2
    go_ret
    refine⟨ret_bool ?_,hB⟩
    rw[← Hb.out]
    simp[numB,nat31]
    omega
   ·by_cases h1:2147483647<B
    ·go_wp2
     go_ret
     refine⟨ret_bool ?_,hB⟩
     rw[← Hb.out]
     simp[numB,nat31]
     omega
    ·go_wp2
     go_roundw
     case rel=>exact⟨3,by omega,by go_num,trivial,(by have:=hok.out;show _∧_∧_∧_;refine⟨?_,?_,?_,?_⟩<;>intro _<;>omega)⟩
     case measure=>simp[intOf]
  ·by_cases h0:BN<0
   ·go_wp2
    go_ret
    refine⟨ret_bool ?_,hB⟩
    rw[← Hb.out]
    simp[numB,nat31]
    omega
   ·by_cases h1:2147483647<BN
    ·go_wp2
     go_ret
     refine⟨ret_bool ?_,hB⟩
     rw[← Hb.out]
     simp[numB,nat31]
     omega
    ·go_wp2
     go_roundw
     case rel=>exact⟨4,by omega,by go_num,trivial,(by have:=hok.out;show _∧_∧_∧_;refine⟨?_,?_,?_,?_⟩<;>intro _<;>omega)⟩
     case measure=>simp[intOf]
  ·have hok':=hok.out
   by_cases h0:0<AN
   ·go_wp2
    go_ret
    refine⟨ret_bool ?_,hB⟩
    rw[← Hb.out]
    simp[numB,nat31]
    omega
   ·by_cases h1:0<BN
    ·go_wp2
     go_ret
     refine⟨ret_bool ?_,hB⟩
     rw[← Hb.out]
     simp[numB,nat31]
     omega
    ·go_wp2
     go_ret
     refine⟨ret_bool ?_,hB⟩
     rw[← Hb.out]
     simp[numB,nat31]
     omega
theorem Zaa (l:List Ch) (n m r:Int) (v:Value) (w:World) (hl:HCh w v l) (hlen:l.length≤1099511627776) (hn:n≤9223372036854775807) (hm:m≤9223372036854775807) (hr:Hid (chk l n m=r)) :
  Calls Tryd.prog 15 #[v,.int .i64 n,.int .i64 m] w fun e w'=>e=.returned (.int .i64 r)∧Below w.heap.size w w':=by
 obtain⟨ao,ca,rfl⟩:=Holds.form hl
 by_cases hn0:n<0
 ·go_enter Tryd.func15,Tryd.ntmps15
  go_wp2
  go_ret
  refine⟨ret_int ?_,Below.refl _ w⟩
  rw[← hr.out,Zav (fun h=>by have:=h.1;omega)]
 by_cases hm0:m<0
 ·go_enter Tryd.func15,Tryd.ntmps15
  go_wp2
  go_ret
  refine⟨ret_int ?_,Below.refl _ w⟩
  rw[← hr.out,Zav (fun h=>by have:=h.2.1;omega)]
 go_enter Tryd.func15,Tryd.ntmps15
 go_wp2
 go_loopw [7,8,19] (fun av bv iv wr=>∃ (k:Nat) (a b:Int),k≤l.length∧av=.int .i64 a∧bv=.int .i64 b∧iv=.int .i64 k∧0≤a∧a≤n∧0≤b∧b≤m∧Below w.heap.size w wr∧Hid (Script l n m↔Right (decide (k=0)) a b n m (l.drop k))) (fun _ _ iv _=>l.length-(intOf iv).toNat)
 case atStart=>exact⟨0,0,0,Nat.zero_le _,rfl,rfl,rfl,by omega,by omega,by omega,by omega,Below.refl _ w,(by show _↔_;simp only[Script,List.drop_zero,decide_true];constructor;exact fun h=>h.2.2;exact fun h=>⟨by omega,by omega,h⟩)⟩
 case round =>
  obtain⟨k,a,b,hk,rfl,rfl,rfl,ha,han,hb,hbm,hB,hR⟩:=hrel
  by_cases hlt:k<l.length
  ·obtain⟨bk,off,rfl,hbk,hc⟩:=HCh.at (HCh.keep hl hB (Nat.le_refl _)) (by omega)
   obtain⟨c0,c1,c2,c3⟩:=hc k hlt
   have hR':=hR.out
   rw[List.drop_eq_getElem_cons hlt] at hR'
   obtain⟨c,hcd⟩:∃ c,l[k]=c:=⟨_,rfl⟩
   rw[hcd] at hR' c0 c1 c2 c3
   clear hc hcd hR
   have HR:Hid (Script l n m↔Right (decide (k=0)) a b n m (c::l.drop (k+1))):=hR'
   clear hR'
   have i1:0≤(k:Int):=by omega
   have i2:(k:Int)<(l.length:Int):=by omega
   obtain⟨A,AN,B,BN⟩:=c
   dsimp only at c0 c1 c2 c3
   have hsz:=hB.size
   go_wp2_with fail
   have hB1:Below w.heap.size w (wr.alloc (Obj.cells #[Value.int IntKind.i64 A,Value.int IntKind.i64 AN,Value.int IntKind.i64 B,Value.int IntKind.i64 BN] 61)):=hB.alloc hsz _
   refine (ZcH ⟨A,AN,B,BN⟩ _).mono ?_
   rintro e w1 ⟨rfl,hb1⟩
   have hB2:Below w.heap.size w w1:=hB1.trans (hb1.mono (by simp;omega))
   have hbox:=hb1.block wr.heap.size (by simp)
   rw[_root_.Go.heap_alloc_new] at hbox
   have d0:w1.cell? ⟨wr.heap.size,0,none⟩=some (.int .i64 A):=by rw[Lib.cell_of_heap hbox];rfl
   have d1:w1.cell? ⟨wr.heap.size,1,none⟩=some (.int .i64 AN):=by rw[Lib.cell_of_heap hbox];rfl
   have d2:w1.cell? ⟨wr.heap.size,2,none⟩=some (.int .i64 B):=by rw[Lib.cell_of_heap hbox];rfl
   have d3:w1.cell? ⟨wr.heap.size,3,none⟩=some (.int .i64 BN):=by rw[Lib.cell_of_heap hbox];rfl
   clear hbox c0 c1 c2 c3 hb1 hB1 hB
   by_cases hq:numB ⟨A,AN,B,BN⟩=true
   ·rw[hq]
    have HQ:Hid (numB ⟨A,AN,B,BN⟩=true):=hq
    rw[ZcG] at hq
    dsimp only at hq
    obtain⟨⟨hA0,hA1⟩,⟨hAN0,hAN1⟩,⟨hB0,hB1⟩,⟨hBN0,hBN1⟩,hpos⟩:=hq
    by_cases h1:A-a=B-b
    ·by_cases h2:AN > n-A
     ·go_wp2_with fail
      go_ret
      refine⟨ret_int ?_,hB2⟩
      rw[← hr.out,Zav]
      exact fun h=>by have h5:=HR.out.1 h;obtain⟨⟨q1,q2,q3,q4⟩,q5⟩:=h5;have q6:=q5.le;dsimp only at q6;omega
     by_cases h3:BN > m-B
     ·go_wp2_with fail
      go_ret
      refine⟨ret_int ?_,hB2⟩
      rw[← hr.out,Zav]
      exact fun h=>by have h5:=HR.out.1 h;obtain⟨⟨q1,q2,q3,q4⟩,q5⟩:=h5;have q6:=q5.le;dsimp only at q6;omega
     by_cases h4:A<a
     ·go_wp2_with fail
      go_ret
      refine⟨ret_int ?_,hB2⟩
      rw[← hr.out,Zav]
      exact fun h=>by have h5:=HR.out.1 h;obtain⟨⟨q1,q2,q3,q4⟩,q5⟩:=h5;have q6:=q5.le;dsimp only at q3;omega
     by_cases h5:A=a
     ·by_cases h6:0<(k:Int)
      ·go_wp2_with fail
       go_ret
       refine⟨ret_int ?_,hB2⟩
       rw[← hr.out,Zav]
       exact fun h=>by
        obtain⟨⟨q1,q2,q3,q4⟩,q5⟩:=HR.out.1 h
        rcases q4 with q4 | q4
        ·have:=of_decide_eq_true q4;omega
        ·dsimp only at q4;omega
      ·go_wp2_with fail
       go_quiet (fail)
       go_wp2
       go_roundw
       case rel=>exact⟨k+1,A+AN,B+BN,by omega,by go_num,by go_num,by go_num,by omega,by omega,by omega,by omega,Below.dN hB2 _,(by
        show _↔_
        refine HR.out.trans ?_
        have:decide (k+1=0)=false:=by simp
        rw[this]
        exact⟨fun h=>h.2,fun h=>⟨⟨HQ.out,h1,by dsimp only;omega,.inl (decide_eq_true (by omega))⟩,h⟩⟩)⟩
       case measure=>simp[intOf];omega
     ·go_wp2_with fail
      go_quiet (fail)
      go_wp2
      go_roundw
      case rel=>exact⟨k+1,A+AN,B+BN,by omega,by go_num,by go_num,by go_num,by omega,by omega,by omega,by omega,Below.dN hB2 _,(by
        show _↔_
        refine HR.out.trans ?_
        have:decide (k+1=0)=false:=by simp
        rw[this]
        exact⟨fun h=>h.2,fun h=>⟨⟨HQ.out,h1,by dsimp only;omega,.inr (by dsimp only;omega)⟩,h⟩⟩)⟩
      case measure=>simp[intOf];omega
    ·go_wp2_with fail
     go_ret
     refine⟨ret_int ?_,hB2⟩
     rw[← hr.out,Zav]
     exact fun h=>by have h5:=HR.out.1 h;obtain⟨⟨q1,q2,q3,q4⟩,q5⟩:=h5;have q6:=q5.le;dsimp only at q2;omega
   ·have hq':numB ⟨A,AN,B,BN⟩=false:=by simpa using hq
    have HQ:Hid (numB ⟨A,AN,B,BN⟩=false):=hq'
    rw[hq']
    clear hq hq'
    go_wp2_with fail
    go_ret
    refine⟨ret_int ?_,hB2⟩
    rw[← hr.out,Zav]
    exact fun h=>by
     obtain⟨⟨q1,q2,q3,q4⟩,q5⟩:=HR.out.1 h
     rw[HQ.out] at q1
     cases q1
  ·by_cases he:n-a=m-b
   ·go_wp2
    go_ret
    refine⟨ret_int ?_,hB⟩
    rw[← hr.out,Zaw]
    have:=hR.out
    rw[List.drop_of_length_le (by omega)] at this
    exact this.2 ⟨han,hbm,he⟩
   ·go_wp2
    go_ret
    refine⟨ret_int ?_,hB⟩
    rw[← hr.out,Zav]
    have:=hR.out
    rw[List.drop_of_length_le (by omega)] at this
    exact fun h=>he (this.1 h).2.2
end

section
open Go.RowKit Go.Shelf
attribute [local go_sem] Oper.semAt_some
structure Kp (n₀ lo:Nat) (W W':World):Prop where
 low:Below n₀ W W'
 box:∀ k,lo≤k→k<lo+3→W'.heap[k]?=W.heap[k]?
 chg:∀ (k:Nat) (cs:Array Value),W.heap[k]?=some (Obj.cells cs 61 (0,0))→W'.heap[k]?=some (Obj.cells cs 61 (0,0))
section
variable {n₀ lo:Nat} {A B C:World}
theorem Kp.refl (W:World):Kp n₀ lo W W:=⟨Below.refl _ _,fun _ _ _=>rfl,fun _ _ h=>h⟩
theorem Kp.trans (h:Kp n₀ lo A B) (k:Kp n₀ lo B C):Kp n₀ lo A C:=⟨h.low.trans k.low,fun j h1 h2=>(k.box j h1 h2).trans (h.box j h1 h2),fun j cs hj=>k.chg j cs (h.chg j cs hj)⟩
theorem Kp.alloc {W:World} (hn:n₀≤W.heap.size) (hl:lo+3≤W.heap.size) (o:Obj):Kp n₀ lo W (W.alloc o) :=
 ⟨(Below.refl _ W).alloc hn o,fun k _ hk=>Below.heap_alloc W o k (by omega),fun k cs hk=>(Below.heap_alloc W o k (Array.getElem?_eq_some_iff.1 hk).1).trans hk⟩
theorem Kp.drewN (W:World) (k:Nat):Kp n₀ lo W (W.drewN k):=⟨Below.dN (Below.refl _ W) k,fun _ _ _=>rfl,fun _ _ h=>h⟩
end
theorem HCh.lt {w:World} {ao:Option Addr} {n c:Nat} {l:List Ch} (h:HCh w (.slice ao n c) l) (a:Addr) (ha:ao=some a) (h0:0<l.length):a.block<w.heap.size:=by
 obtain⟨b,off,hb,hlt,_⟩:=HCh.at h h0
 rw[ha] at hb
 cases hb
 exact hlt
end

section
open Go.RowKit Go.Shelf
attribute [local go_sem] Oper.semAt_some
theorem ZcC (W:World) (cs:Array Value) (e:TypeId) (k c:Nat) (hkc:k≤c):Holds (W.alloc (.cells cs e)) (.slice (some ⟨W.heap.size,0,none⟩) k c) k cs.toList:=by
 refine .inr ⟨_,_,rfl,hkc,fun j u hj=>?_⟩
 rw[Zaf,Lib.cell_of_heap (_root_.Go.heap_alloc_new W _)]
 simpa using hj
structure OwnR (n₀ lo B:Nat) (t e:TypeId) (s:Nat) (v:Value) (k:Nat) (xs:List Value) (W:World):Prop where
 box:Boxed W B t v
 row:W.ownsRow n₀ e s v k xs
 far:∀ g,v.ownBlock=some g→g<lo∨lo+3≤g
section
variable {n₀ lo B:Nat} {t e:TypeId} {s:Nat} {v:Value} {k:Nat} {xs:List Value} {W:World}
theorem OwnR.alloc (h:OwnR n₀ lo B t e s v k xs W) (o:Obj):OwnR n₀ lo B t e s v k xs (W.alloc o):=⟨h.box.alloc o,h.row.alloc o,h.far⟩
end
end

section
open Go.RowKit Go.Shelf
attribute [local go_sem] Oper.semAt_some
end

section
open Go.RowKit
theorem Zdl (w:World) (T E ty:TypeId) (z:Value) (size bytes:Nat) (hT:Tryd.prog.underlying T=some (.slice E)) (hinfo:(Tryd.prog.info? E).map (fun i=>(i.zero,i.size,i.bytes))=some (some z,size,bytes)) (hz1:z.cells.size=size) (hsz:0<size) (hby:bytes≤32)
  (base:Nat) (v:Value) (k:Nat) (xs:List Value) (hown:w.ownsRow base E size v k xs) (vx:Value) (m:Nat) (news:List Value) (hh:Holds w vx m news) (hl:news.length=m * size)
  (h1:∀ u∈news,u.oneCell'=true) (hk:k+m≤4398046511104) (hbase:base≤w.heap.size) :
  ∃ v' w',(Builtin.append_ #[T,T] ty #[v,vx]).run Tryd.prog w=.ok v' w'∧w'.ownsRow base E size v' (k+m) (xs++news)∧w.grownBy w' v.ownBlock∧(v'.ownBlock=v.ownBlock∨v'.ownBlock=some w.heap.size):=by
 obtain⟨i0,hi0,hz0,hzs,hz2⟩:=info_parts hinfo
 rcases hh with ⟨rfl,rfl,rfl⟩ | ⟨ad,c,rfl,_,hc⟩
 ·exact⟨v,w,run_append_owned_none (P:=Tryd.prog) (w:=w) base T ty E i0 size hT hi0 v k xs hown,by simpa using hown,World.grownBy.refl _ _,.inl rfl⟩
 ·obtain⟨v',w',hr,h2,h3,_,h5⟩:=run_append_own_at (P:=Tryd.prog) w base T ty E i0 z size bytes hT hi0 hz0 hzs hz2 hz1 hsz v k xs hown ad m c news hl hc h1 (by unfold maxLen;omega) (by
   have:(k+m) * bytes≤(k+m) * 32:=Nat.mul_le_mul_left _ hby
   omega) hbase
  exact⟨v',w',hr,h2,h3,h5⟩
theorem Zfq {ops:Array Oper} {rest:List Oper} {o:Oper} {a:Act} {Q:Exit→Act→World→Prop} (w:World) (hw:Region.wanted o (yielded ops a.tmps)=true) (s x:Operand) (T E:TypeId) (z:Value) (size bytes:Nat)
  (ho:o.op=.call { callee:=.builtin .append,args:=#[s,x],argTypes:=#[T,T] }) (hT:Tryd.prog.underlying T=some (.slice E)) (hinfo:(Tryd.prog.info? E).map (fun i=>(i.zero,i.size,i.bytes))=some (some z,size,bytes)) (hz1:z.cells.size=size) (hsz:0<size) (hby:bytes≤32)
  (base:Nat) (v:Value) (k:Nat) (xs:List Value) (hs:a.eval s=v) (hown:w.ownsRow base E size v k xs) (vx:Value) (m:Nat) (news:List Value) (hx:a.eval x=vx) (hh:Holds w vx m news) (hl:news.length=m * size)
  (h1:∀ u∈news,u.oneCell'=true) (hk:k+m≤4398046511104) (hbase:base≤w.heap.size)
  (h:∀ v' w',w'.ownsRow base E size v' (k+m) (xs++news)→w.grownBy w' v.ownBlock→wpList Tryd.prog ops Q rest (a.put o.dst v') w'):wpList Tryd.prog ops Q (o::rest) a w:=by
 refine wpList_step fun K hK=>?_
 rw[if_pos hw]
 obtain⟨v',w',hr,h2,h3,_⟩:=Zdl w T E o.type z size bytes hT hinfo hz1 hsz hby base v k xs hown vx m news hh hl h1 hk hbase
 unfold Oper.wp
 simp[execOp,ho,resolve,invoke,builtin,hs,hx,hr,Result.andThen]
 exact hK _ _ (h v' w' h2 h3)
theorem ZcM {w:World} {base:Nat} {e:TypeId} {s:Nat} {v:Value} {n:Nat} {xs:List Value} (h:w.ownsRow base e s v n xs) {j:Nat} (hj:v.ownBlock=some j):base≤j:=by
 rcases h.2 with ⟨rfl,_⟩ | ⟨g,cap,cur,rfl,hb,_⟩
 ·cases hj
 ·simp[Value.ownBlock] at hj;omega
def Low (W w:World):Prop:=Below W.heap.size W w
theorem Zcu (W w:World):Low W w.drew↔Low W w:=⟨fun h=>⟨h.os,h.tape,h.output,h.size,h.block⟩,fun h=>Below.dN h 1⟩
theorem Low.ch {W w:World} (h:Low W w) {b off n c:Nat} {l:List Ch} (hl:HCh W (.slice (some ⟨b,off,none⟩) n c) l) (k:Nat) (hk:k<l.length) {x:Ch} (hx:l[k]=x):w.cell? ⟨b,off+k * 4,none⟩=some (.int .i64 x.A)∧w.cell? ⟨b,off+k * 4+1,none⟩=some (.int .i64 x.AN)∧w.cell? ⟨b,off+k * 4+2,none⟩=some (.int .i64 x.B)∧w.cell? ⟨b,off+k * 4+3,none⟩=some (.int .i64 x.BN):=by
 obtain⟨b',off',e,_,hc⟩:=HCh.at (HCh.keep hl h (Nat.le_refl _)) (by omega)
 cases e
 rw[← hx]
 exact hc k hk
structure St (W:World) (e:TypeId) (s:Nat) (v:Value) (k:Nat) (xs:List Value) (w:World):Prop where
 own:w.ownsRow W.heap.size e s v k xs
 low:Below W.heap.size W w
theorem ZdF (W:World) (e:TypeId) (s:Nat) (v:Value) (k:Nat) (xs:List Value) (w:World):St W e s v k xs w.drew↔St W e s v k xs w :=
 ⟨fun h=>⟨h.own,⟨h.low.os,h.low.tape,h.low.output,h.low.size,h.low.block⟩⟩,fun h=>⟨h.own,Below.dN h.low 1⟩⟩
theorem St.grown {W:World} {e:TypeId} {s:Nat} {v v':Value} {k k':Nat} {xs xs':List Value} {w w':World} (h:St W e s v k xs w) (ho:w'.ownsRow W.heap.size e s v' k' xs') (hg:w.grownBy w' v.ownBlock):St W e s v' k' xs' w' :=
 ⟨ho,h.low.grown hg h.low.size (fun _ hj=>ZcM h.own hj)⟩
end

section
open Go.RowKit
attribute [local simp] Zcu
end

section
open Go.RowKit
theorem ZdH {b:Bool} {X Y:Prop} (h:b=true) (hX:X):if b=true then X else Y:=by
 rw[if_pos h]
 exact hX
theorem ZdG {b:Bool} {X Y:Prop} (h:b=false) (hY:Y):if b=true then X else Y:=by
 rw[if_neg (by rw[h];exact Bool.false_ne_true)]
 exact hY
theorem ZbD {P:Program} {S:World→Prop} {md:Region.Mode} {ops:Array Oper} {Q:Exit→Act→World→Prop} {fuel:Nat} {listed:Array Bool} {A:Act} {w:World}
  (i d:Nat) (op:Oper) (v:Value) (hi:ops[i]?=some op) (hd:op.dst=some d) (hs:Region.noSelect ops=true) (hf:Region.free md ops listed i=true) (hr:(Region.ready md ops listed).contains i=true)
  (hQ:∀ c a w,Q (.panic c) (a.put op.dst v) w→Q (.panic c) a w) (hy:YieldsIf P ops S op v A) (hS:S w)
  (h:wpAnyH P md ops Q S fuel (listed.setIfInBounds i true) (A.put (some d) v) w):wpAnyH P md ops Q S (fuel+1) listed A w :=
 wpAnyH_take hi hs hf hr hQ hy hS (by rw[hd];exact h)
theorem ZbB {P:Program} {S:World→Prop} {md:Region.Mode} {ops:Array Oper} {Q:Exit→Act→World→Prop} {fuel:Nat} {listed:Array Bool} {A:Act} {w:World}
  (i d:Nat) (op:Oper) (hi:ops[i]?=some op) (hd:op.dst=some d) (hr:Region.ready md ops listed=[i]) (hwt:Region.wanted op (yielded ops A.tmps)=false) (hS:S w)
  (h:wpAnyH P md ops Q S fuel (listed.setIfInBounds i true) (A.put (some d) undef) w) :
  wpAnyH P md ops Q S (fuel+1) listed A w:=by
 refine wpAnyH_ready hr (by simp) (AllReadyH.cons hi (fun K hK=>?_) AllReadyH.nil)
 refine ZdG hwt ?_
 exact hK.out _ _ hS (fun _=>by rw[hd];exact h)
theorem ZbA {P:Program} {S:World→Prop} {md:Region.Mode} {ops:Array Oper} {Q:Exit→Act→World→Prop} {fuel:Nat} {listed:Array Bool} {A:Act} {w:World}
  (i d:Nat) (op:Oper) (hi:ops[i]?=some op) (hd:op.dst=some d) (hr:Region.ready md ops listed=[i]) (hwt:Region.wanted op (yielded ops A.tmps)=true)
  (F:Nat) (xs:Array Operand) (ts:Array TypeId) (ho:op.op=.call { callee:=.value (.func F),args:=xs,argTypes:=ts })
  (args:Array Value) (hx:xs.map A.eval=args) (hen:∀ args w,(callFunc F args).run P w=.ok (.enter F args) w) (v:Value)
  (hc:Calls P F args w fun e w'=>e=.returned v∧S w')
  (h:∀ w',S w'→wpAnyH P md ops Q S fuel (listed.setIfInBounds i true) (A.put (some d) v) w') :
  wpAnyH P md ops Q S (fuel+1) listed A w:=by
 refine wpAnyH_ready hr (by simp) (AllReadyH.cons hi (fun K hK=>?_) AllReadyH.nil)
 refine ZdH hwt ?_
 unfold Oper.wp
 have e:(execOp A.eval op).run P w=.ok (.enter F args) w:=by
  have h1:=hen args w
  simp only[execOp,ho,resolve,invoke]
  have h2:A.eval (.func F)=.func (.func F) #[] #[]:=rfl
  simp only[h2,Deferred.ofValue,Sem.run_bind,Sem.run_pure,Result.andThen_ok,hx,Array.append_empty,Array.empty_append]
  exact h1
 rw[e,Oper.upon_enter]
 refine hc.mono ?_
 rintro e w' ⟨rfl,hb⟩
 exact hK.out _ _ hb (fun hu=>by rw[hd];exact h w' hu)
theorem Zbz {P:Program} {S:World→Prop} {md:Region.Mode} {ops:Array Oper} {Q:Exit→Act→World→Prop} {fuel:Nat} {listed:Array Bool} {A:Act} {w:World}
  (i d:Nat) (op:Oper) (hi:ops[i]?=some op) (hd:op.dst=some d) (hr:Region.ready md ops listed=[i]) (hwt:Region.wanted op (yielded ops A.tmps)=true)
  (F:Nat) (x:Operand) (xs:Array Operand) (ts:Array TypeId) (ho:op.op=.call { callee:=.value x,args:=xs,argTypes:=ts })
  (cap:Array Value) (hxv:A.eval x=.func (.func F) #[] cap) (args:Array Value) (hx:xs.map A.eval=args) (hen:∀ args w,(callFunc F args).run P w=.ok (.enter F args) w) (R:Value→World→Prop)
  (hc:Calls P F (args++cap) w fun e w'=>∃ v,e=.returned v∧S w'∧R v w')
  (h:∀ v w',S w'→R v w'→wpAnyH P md ops Q S fuel (listed.setIfInBounds i true) (A.put (some d) v) w') :
  wpAnyH P md ops Q S (fuel+1) listed A w:=by
 refine wpAnyH_ready hr (by simp) (AllReadyH.cons hi (fun K hK=>?_) AllReadyH.nil)
 refine ZdH hwt ?_
 unfold Oper.wp
 have e:(execOp A.eval op).run P w=.ok (.enter F (args++cap)) w:=by
  have h1:=hen (args++cap) w
  simp only[execOp,ho,resolve,invoke]
  simp only[hxv,Deferred.ofValue,Sem.run_bind,Sem.run_pure,Result.andThen_ok,hx,Array.empty_append]
  exact h1
 rw[e,Oper.upon_enter]
 refine hc.mono ?_
 rintro e w' ⟨v,rfl,hb,hR⟩
 exact hK.out _ _ hb (fun hu=>by rw[hd];exact h v w' hu hR)
theorem ZbE {P:Program} {S:World→Prop} {md:Region.Mode} {ops:Array Oper} {Q:Exit→Act→World→Prop} {fuel:Nat} {listed:Array Bool} {A:Act} {w:World}
  (i d:Nat) (op:Oper) (hi:ops[i]?=some op) (hd:op.dst=some d) (hr:Region.ready md ops listed=[i]) (hwt:Region.wanted op (yielded ops A.tmps)=true)
  (v:Value) (w':World) (he:(execOp A.eval op).run P w=.ok (.value v) w') (hS:S w')
  (h:wpAnyH P md ops Q S fuel (listed.setIfInBounds i true) (A.put (some d) v) w') :
  wpAnyH P md ops Q S (fuel+1) listed A w:=by
 refine wpAnyH_ready hr (by simp) (AllReadyH.cons hi (fun K hK=>?_) AllReadyH.nil)
 refine ZdH hwt ?_
 unfold Oper.wp
 rw[he,Oper.upon_value]
 exact hK.out _ _ hS (fun _=>by rw[hd];exact h)
theorem ZbC {P:Program} {S:World→Prop} {md:Region.Mode} {ops:Array Oper} {Q:Exit→Act→World→Prop} {fuel:Nat} {listed:Array Bool} {A:Act} {w:World}
  (i:Nat) (op:Oper) (hi:ops[i]?=some op) (hd:op.dst=none) (hr:Region.ready md ops listed=[i]) (hwt:Region.wanted op (yielded ops A.tmps)=true)
  (w':World) (he:(execOp A.eval op).run P w=.ok .skip w') (hS:S w')
  (h:wpAnyH P md ops Q S fuel (listed.setIfInBounds i true) A w') :
  wpAnyH P md ops Q S (fuel+1) listed A w:=by
 refine wpAnyH_ready hr (by simp) (AllReadyH.cons hi (fun K hK=>?_) AllReadyH.nil)
 refine ZdH hwt ?_
 unfold Oper.wp
 rw[he,Oper.upon_skip]
 exact hK.out _ _ hS (fun _=>by rw[hd];exact h)
theorem Zct {u:World} {a:Addr} {z:Int} (h:u.cell? a=some (.int .i64 z)) {op:Oper} (x:Operand) (ho:op.op=.load 3 x) {ev:Operand→Value} (hx:ev x=.pointer (some a)) :
  (execOp ev op).run Tryd.prog u=.ok (.value (.int .i64 z)) u:=by
 simp only[execOp,ho,hx]
 go_simp
theorem Y_t {P:Program} {S:World→Prop} {md:Region.Mode} {ops:Array Oper} {Q:Exit→Act→World→Prop} {fuel:Nat} {listed:Array Bool} {A:Act} {w:World} (i d:Nat) (op:Oper) (v:Value) (hi:ops[i]?=some op) (hy:YieldsIf P ops S op v A) (hS:S w) (h:wpAnyH P md ops Q S fuel (listed.setIfInBounds i true) (A.put (some d) v) w) (hd:op.dst=some d:=by kernel_rfl) (hs:Region.noSelect ops=true:=by kernel_rfl) (hf:Region.free md ops listed i=true:=by kernel_rfl) (hr:(Region.ready md ops listed).contains i=true:=by kernel_rfl) (hQ:∀c a w,Q (.panic c) (a.put op.dst v) w→Q (.panic c) a w:=by exact fun _ _ _ h=>h):wpAnyH P md ops Q S (fuel+1) listed A w:=ZbD i d op v hi hd hs hf hr hQ hy hS h
theorem Y_v {P:Program} {S:World→Prop} {md:Region.Mode} {ops:Array Oper} {Q:Exit→Act→World→Prop} {fuel:Nat} {listed:Array Bool} {A:Act} {w:World} (i d:Nat) (op:Oper) (hi:ops[i]?=some op) (v:Value) (w':World) (he:(execOp A.eval op).run P w=.ok (.value v) w') (hS:S w') (h:wpAnyH P md ops Q S fuel (listed.setIfInBounds i true) (A.put (some d) v) w') (hd:op.dst=some d:=by kernel_rfl) (hr:Region.ready md ops listed=[i]:=by kernel_rfl) (hwt:Region.wanted op (yielded ops A.tmps)=true:=by kernel_rfl):wpAnyH P md ops Q S (fuel+1) listed A w:=ZbE i d op hi hd hr hwt v w' he hS h
theorem Y_e {P:Program} {S:World→Prop} {md:Region.Mode} {ops:Array Oper} {Q:Exit→Act→World→Prop} {fuel:Nat} {listed:Array Bool} {A:Act} {w:World} (i d:Nat) (op:Oper) (hi:ops[i]?=some op) (F:Nat) (x:Operand) (xs:Array Operand) (ts:Array TypeId) (ho:op.op=.call {callee:=.value x,args:=xs,argTypes:=ts}) (cap:Array Value) (hxv:A.eval x=.func (.func F) #[] cap) (args:Array Value) (hx:xs.map A.eval=args) (hen:∀args w,(callFunc F args).run P w=.ok (.enter F args) w) (R:Value→World→Prop) (hc:Calls P F (args++cap) w fun e w'=>∃v,e=.returned v∧S w'∧R v w') (h:∀v w',S w'→R v w'→wpAnyH P md ops Q S fuel (listed.setIfInBounds i true) (A.put (some d) v) w') (hd:op.dst=some d:=by kernel_rfl) (hr:Region.ready md ops listed=[i]:=by kernel_rfl) (hwt:Region.wanted op (yielded ops A.tmps)=true:=by kernel_rfl):wpAnyH P md ops Q S (fuel+1) listed A w:=Zbz i d op hi hd hr hwt F x xs ts ho cap hxv args hx hen R hc h
theorem Y_s {P:Program} {S:World→Prop} {md:Region.Mode} {ops:Array Oper} {Q:Exit→Act→World→Prop} {fuel:Nat} {listed:Array Bool} {A:Act} {w:World} (i:Nat) (op:Oper) (hi:ops[i]?=some op) (w':World) (he:(execOp A.eval op).run P w=.ok .skip w') (hS:S w') (h:wpAnyH P md ops Q S fuel (listed.setIfInBounds i true) A w') (hd:op.dst=none:=by kernel_rfl) (hr:Region.ready md ops listed=[i]:=by kernel_rfl) (hwt:Region.wanted op (yielded ops A.tmps)=true:=by kernel_rfl):wpAnyH P md ops Q S (fuel+1) listed A w:=ZbC i op hi hd hr hwt w' he hS h
end

end Go.Proofs.YtcnjephlmcnodaaDoor

/- A region that draws its order, in a round: ten operations that read, in whatever order, then the rest as the text has it. -/
namespace Go.Proofs.YtcnjephlmcnodaaDoor
open Go.RowKit Go.Shelf
namespace R10
def one (c:Bool):Nat:=if c then 1 else 0
end R10
end Go.Proofs.YtcnjephlmcnodaaDoor

namespace Go.Proofs.YtcnjephlmcnodaaDoor

section
open Go.RowKit Go.Shelf
open R10
attribute [local go_sem] Oper.semAt_some
theorem ZaW (A:List (List UInt8)) (i n:Int) (j:Nat) (u:Value) (h:(scells (cut A i n))[j]?=some u):(scells A)[i.toNat+j]?=some u∧j<n.toNat:=by
 simp only[scells,cut,List.getElem?_map,List.getElem?_take,List.getElem?_drop] at h ⊢
 split at h
 ·exact⟨h,by assumption⟩
 ·simp at h
theorem Zbc (A:List (List UInt8)) (i n:Int) (h0:0≤i) (h1:0≤n) (h2:i+n≤A.length):(cut A i n).length=n.toNat:=by
 simp[cut];omega
theorem Zdo (A:List (List UInt8)) (ao:Option Addr) (cap:Nat) (i n:Int) (h0:0≤i) (h1:0≤n) (h2:i+n≤A.length) (w:World) (hA:HS w (.slice ao A.length cap) A) :
  ∃ vs,(∀ u:World,(Instr.slice 23 (.slice ao A.length cap) (some (.int .i64 i)) (some (.int .i64 (i+n))) none).run Tryd.prog u=.ok vs u)∧(∀ u:World,HS u (.slice ao A.length cap) A→HS u vs (cut A i n)):=by
 have hnc:A.length≤cap∧(ao=none→A=[]):=by
  rcases hA with ⟨h,h3,_⟩ | ⟨ad,c,h,h3,_⟩
  ·exact⟨by omega,fun _=>List.eq_nil_of_length_eq_zero h3⟩
  ·cases h
   exact⟨h3,fun h=>by cases h⟩
 refine⟨.slice (if cap=i.toNat then ao else ao.map (·.add i.toNat)) n.toNat (cap-i.toNat),fun u=>?_,fun u hu=>?_⟩
 ·rw[run_slice_lh (P:=Tryd.prog) u 23 ao A.length cap (by kernel_rfl) .i64 .i64 i (i+n) h0 (by omega) (by omega)]
  have:(sizeOf (Tryd.prog.elem 23)).run Tryd.prog u=.ok 1 u:=by kernel_rfl
  rw[this]
  simp only[Result.andThen,sliced,Nat.mul_one]
  congr 2
  omega
 ·unfold HS
  rw[Zbc A i n h0 h1 h2]
  cases ao with
  | none =>
   have hA0:=hnc.2 rfl
   subst hA0
   have:i=0:=by simp at h2;omega
   subst this
   have:n=0:=by simp at h2;omega
   subst this
   refine .inl ⟨?_,rfl,by simp[cut,scells]⟩
   rcases hA with ⟨h,h3,_⟩ | ⟨ad,c,h,h3,_⟩
   ·cases h;simp
   ·cases h
  | some ad =>
   refine .inr ⟨if cap=i.toNat then ad else ad.add i.toNat,cap-i.toNat,by split<;>simp,by omega,fun j x hj=>?_⟩
   obtain⟨h4,h5⟩:=ZaW A i n j x hj
   rcases hu with ⟨h,_⟩ | ⟨ad',c,h,h3,hc⟩
   ·cases h
   ·cases h
    have:=hc _ _ h4
    rw[if_neg (by omega)]
    obtain⟨b,off,rfl⟩:=Zag (hc 0 _ (List.getElem?_eq_getElem (by rw[Zds];omega)))
    rw[Zaf] at this
    rw[Zaf,Zaf,Nat.add_assoc]
    exact this
end

section
open Go.RowKit
end

section
open Go.RowKit
theorem ZaK (z:Int) (w:World):Calls Tryd.prog 74 #[.int .i64 z] w fun e w'=>e=.returned (.bool (nat31 z))∧w'=w:=by
 by_cases h0:0≤z
 ·by_cases h1:z≤2147483647
  ·go_enter Tryd.func74,Tryd.ntmps74
   go_wp2
   go_ret
   simp[nat31,h0,h1]
  ·go_enter Tryd.func74,Tryd.ntmps74
   go_wp2
   go_ret
   simp[nat31,h0,h1]
 ·go_enter Tryd.func74,Tryd.ntmps74
  go_wp2
  go_ret
  have:¬ 0≤z:=by omega
  simp[nat31,this]
theorem ZcR (l:List Ch) (n m r:Int) (v:Value) (w:World) (hl:HCh w v l) (hlen:l.length≤1099511627776) (hn:n≤9223372036854775807) (hm:m≤9223372036854775807) (hr:Hid (chk l n m=r)) :
  Calls Tryd.prog 54 #[v,.int .i64 n,.int .i64 m] w fun e w'=>e=.returned (.int .i64 r)∧Below w.heap.size w w':=by
 obtain⟨ao,ca,rfl⟩:=Holds.form hl
 by_cases hn0:n<0
 ·go_enter Tryd.func54,Tryd.ntmps54
  go_wp2
  go_ret
  refine⟨ret_int ?_,Below.refl _ w⟩
  rw[← hr.out,Zav (fun h=>by have:=h.1;omega)]
 by_cases hm0:m<0
 ·go_enter Tryd.func54,Tryd.ntmps54
  go_wp2
  go_ret
  refine⟨ret_int ?_,Below.refl _ w⟩
  rw[← hr.out,Zav (fun h=>by have:=h.2.1;omega)]
 go_enter Tryd.func54,Tryd.ntmps54
 go_wp2
 go_loopw [7,8,9] (fun av bv iv wr=>∃ (k:Nat) (a b:Int),k≤l.length∧av=.int .i64 a∧bv=.int .i64 b∧iv=.int .i64 k∧0≤a∧a≤4294967294∧0≤b∧b≤4294967294∧Below w.heap.size w wr∧Hid (Script l n m↔Right (decide (k=0)) a b n m (l.drop k))) (fun _ _ iv _=>l.length-(intOf iv).toNat)
 case atStart=>exact⟨0,0,0,Nat.zero_le _,rfl,rfl,rfl,by omega,by omega,by omega,by omega,Below.refl _ w,(by show _↔_;simp only[Script,List.drop_zero,decide_true];constructor;exact fun h=>h.2.2;exact fun h=>⟨by omega,by omega,h⟩)⟩
 case round =>
  obtain⟨k,a,b,hk,rfl,rfl,rfl,ha,han,hb,hbm,hB,hR⟩:=hrel
  by_cases hlt:k<l.length
  ·obtain⟨bk,off,rfl,hbk,hc⟩:=HCh.at (HCh.keep hl hB (Nat.le_refl _)) (by omega)
   obtain⟨c0,c1,c2,c3⟩:=hc k hlt
   have hR':=hR.out
   rw[List.drop_eq_getElem_cons hlt] at hR'
   obtain⟨c,hcd⟩:∃ c,l[k]=c:=⟨_,rfl⟩
   rw[hcd] at hR' c0 c1 c2 c3
   clear hc hcd hR
   have HR:Hid (Script l n m↔Right (decide (k=0)) a b n m (c::l.drop (k+1))):=hR'
   clear hR'
   have i1:0≤(k:Int):=by omega
   have i2:(k:Int)<(l.length:Int):=by omega
   obtain⟨A,AN,B,BN⟩:=c
   dsimp only at c0 c1 c2 c3
   have hsz:=hB.size
   have hB2:Below w.heap.size w (wr.alloc (Obj.cells #[Value.int IntKind.i64 A,Value.int IntKind.i64 AN,Value.int IntKind.i64 B,Value.int IntKind.i64 BN] 61)):=hB.alloc hsz _
   by_cases nA:nat31 A=true
   ·by_cases nAN:nat31 AN=true
    ·by_cases nB:nat31 B=true
     ·by_cases nBN:nat31 BN=true
      ·have pA:0≤A∧A≤2147483647:=by simpa [nat31] using nA
       have pAN:0≤AN∧AN≤2147483647:=by simpa [nat31] using nAN
       have pB:0≤B∧B≤2147483647:=by simpa [nat31] using nB
       have pBN:0≤BN∧BN≤2147483647:=by simpa [nat31] using nBN
       obtain⟨pA0,pA1⟩:=pA
       obtain⟨pAN0,pAN1⟩:=pAN
       obtain⟨pB0,pB1⟩:=pB
       obtain⟨pBN0,pBN1⟩:=pBN
       by_cases h0:AN+BN=0
       ·go_wp2_with (go_at_call 74;refine (ZaK _ _).mono ?_;rintro e w' ⟨rfl,rfl⟩)
        go_ret
        refine⟨ret_int ?_,hB2⟩
        rw[← hr.out,Zav]
        exact fun h=>by obtain⟨⟨q1,q2,q3,q4⟩,q5⟩:=HR.out.1 h;rw[ZcG] at q1;dsimp only at q1;omega
       have HQ:Hid (numB ⟨A,AN,B,BN⟩=true):=(by show _=_;rw[ZcG];dsimp only;omega)
       by_cases h1:A-a=B-b
       ·by_cases h4:A<a
        ·go_wp2_with (go_at_call 74;refine (ZaK _ _).mono ?_;rintro e w' ⟨rfl,rfl⟩)
         go_ret
         refine⟨ret_int ?_,hB2⟩
         rw[← hr.out,Zav]
         exact fun h=>by obtain⟨⟨q1,q2,q3,q4⟩,q5⟩:=HR.out.1 h;dsimp only at q3;omega
        by_cases h6:0<(k:Int)
        ·by_cases h5:A=a
         ·subst h5
          go_wp2_with (go_at_call 74;refine (ZaK _ _).mono ?_;rintro e w' ⟨rfl,rfl⟩)
          go_ret
          refine⟨ret_int ?_,hB2⟩
          rw[← hr.out,Zav]
          exact fun h=>by obtain⟨⟨q1,q2,q3,q4⟩,q5⟩:=HR.out.1 h;rcases q4 with q4 | q4;(have:=of_decide_eq_true q4;omega);(dsimp only at q4;omega)
         ·have h5a:a<A:=by omega
          have h5b:decide (A=a)=false:=decide_eq_false h5
          have h5c:(A == a)=false:=by simpa using h5
          go_wp2_with (go_at_call 74;refine (ZaK _ _).mono ?_;rintro e w' ⟨rfl,rfl⟩)
          go_roundw
          case rel=>exact⟨k+1,A+AN,B+BN,by omega,by go_num,by go_num,by go_num,by omega,by omega,by omega,by omega,hB2,(by
           show _↔_
           refine HR.out.trans ?_
           have:decide (k+1=0)=false:=by simp
           rw[this]
           exact⟨fun h=>h.2,fun h=>⟨⟨HQ.out,h1,by dsimp only;omega,.inr (by dsimp only;omega)⟩,h⟩⟩)⟩
          case measure=>simp[intOf];omega
        ·go_wp2_with (go_at_call 74;refine (ZaK _ _).mono ?_;rintro e w' ⟨rfl,rfl⟩)
         go_roundw
         case rel=>exact⟨k+1,A+AN,B+BN,by omega,by go_num,by go_num,by go_num,by omega,by omega,by omega,by omega,hB2,(by
          show _↔_
          refine HR.out.trans ?_
          have:decide (k+1=0)=false:=by simp
          rw[this]
          exact⟨fun h=>h.2,fun h=>⟨⟨HQ.out,h1,by dsimp only;omega,.inl (decide_eq_true (by omega))⟩,h⟩⟩)⟩
         case measure=>simp[intOf];omega
       ·go_wp2_with (go_at_call 74;refine (ZaK _ _).mono ?_;rintro e w' ⟨rfl,rfl⟩)
        go_ret
        refine⟨ret_int ?_,hB2⟩
        rw[← hr.out,Zav]
        exact fun h=>by obtain⟨⟨q1,q2,q3,q4⟩,q5⟩:=HR.out.1 h;dsimp only at q2;omega
      ·rw[Bool.not_eq_true] at nBN
       go_wp2_with (go_at_call 74;refine (ZaK _ _).mono ?_;rintro e w' ⟨rfl,rfl⟩)
       go_ret
       refine⟨ret_int ?_,hB2⟩
       rw[← hr.out,Zav]
       exact fun h=>by obtain⟨⟨q1,q2,q3,q4⟩,q5⟩:=HR.out.1 h;rw[ZcG] at q1;dsimp only at q1;simp[nat31] at nBN;omega
     ·rw[Bool.not_eq_true] at nB
      go_wp2_with (go_at_call 74;refine (ZaK _ _).mono ?_;rintro e w' ⟨rfl,rfl⟩)
      go_ret
      refine⟨ret_int ?_,hB2⟩
      rw[← hr.out,Zav]
      exact fun h=>by obtain⟨⟨q1,q2,q3,q4⟩,q5⟩:=HR.out.1 h;rw[ZcG] at q1;dsimp only at q1;simp[nat31] at nB;omega
    ·rw[Bool.not_eq_true] at nAN
     go_wp2_with (go_at_call 74;refine (ZaK _ _).mono ?_;rintro e w' ⟨rfl,rfl⟩)
     go_ret
     refine⟨ret_int ?_,hB2⟩
     rw[← hr.out,Zav]
     exact fun h=>by obtain⟨⟨q1,q2,q3,q4⟩,q5⟩:=HR.out.1 h;rw[ZcG] at q1;dsimp only at q1;simp[nat31] at nAN;omega
   ·rw[Bool.not_eq_true] at nA
    go_wp2_with (go_at_call 74;refine (ZaK _ _).mono ?_;rintro e w' ⟨rfl,rfl⟩)
    go_ret
    refine⟨ret_int ?_,hB2⟩
    rw[← hr.out,Zav]
    exact fun h=>by obtain⟨⟨q1,q2,q3,q4⟩,q5⟩:=HR.out.1 h;rw[ZcG] at q1;dsimp only at q1;simp[nat31] at nA;omega
  ·have hE:=hR.out
   rw[List.drop_of_length_le (by omega)] at hE
   have HE:Hid (Script l n m↔a≤n∧b≤m∧n-a=m-b):=hE
   clear hE hR
   by_cases e1:n<a
   ·go_wp2
    go_ret
    refine⟨ret_int ?_,hB⟩
    rw[← hr.out,Zav]
    exact fun h=>by have:=HE.out.1 h;omega
   by_cases e2:m<b
   ·go_wp2
    go_ret
    refine⟨ret_int ?_,hB⟩
    rw[← hr.out,Zav]
    exact fun h=>by have:=HE.out.1 h;omega
   by_cases he:n-a=m-b
   ·go_wp2
    go_ret
    refine⟨ret_int ?_,hB⟩
    rw[← hr.out,Zaw]
    exact HE.out.2 ⟨by omega,by omega,he⟩
   ·go_wp2
    go_ret
    refine⟨ret_int ?_,hB⟩
    rw[← hr.out,Zav]
    exact fun h=>he (HE.out.1 h).2.2
end

section
open Go.RowKit
attribute [local simp] ZdF Zcu
theorem Zdq (A:List (List UInt8)) (ao:Option Addr) (cap:Nat) (i h:Int) (h0:0≤i) (h1:i≤h) (h2:h≤A.length) (w:World) (hA:HS w (.slice ao A.length cap) A) :
  ∃ vo vc,(∀ u:World,(Instr.slice 23 (.slice ao A.length cap) (some (.int .i64 i)) (some (.int .i64 h)) none).run Tryd.prog u=.ok (.slice vo (cut A i (h-i)).length vc) u)∧(∀ u:World,HS u (.slice ao A.length cap) A→HS u (.slice vo (cut A i (h-i)).length vc) (cut A i (h-i))):=by
 obtain⟨vs,h3,h4⟩:=Zdo A ao cap i (h-i) h0 (by omega) (by omega) w hA
 obtain⟨vo,vc,rfl⟩:=Holds.form (h4 w hA)
 have e:i+(h-i)=h:=by omega
 rw[e] at h3
 exact⟨vo,vc,h3,h4⟩
theorem Zdp (A:List (List UInt8)) (ao:Option Addr) (cap:Nat) (i:Int) (h0:0≤i) (h1:i≤A.length) (w:World) (hA:HS w (.slice ao A.length cap) A) :
  ∃ vo vc,(∀ u:World,(Instr.slice 23 (.slice ao A.length cap) (some (.int .i64 i)) none none).run Tryd.prog u=.ok (.slice vo (cut A i (A.length-i)).length vc) u)∧(∀ u:World,HS u (.slice ao A.length cap) A→HS u (.slice vo (cut A i (A.length-i)).length vc) (cut A i (A.length-i))):=by
 obtain⟨vo,vc,h3,h4⟩:=Zdq A ao cap i A.length h0 h1 (Int.le_refl _) w hA
 refine⟨vo,vc,fun u=>?_,h4⟩
 rw[← h3 u]
 have hcap:A.length≤cap:=by
  rcases hA with ⟨h,h3,_⟩ | ⟨ad,c,h,h3,_⟩
  ·omega
  ·cases h;exact h3
 rw[run_slice_l (P:=Tryd.prog) u 23 ao A.length cap (by kernel_rfl) .i64 i h0 h1,run_slice_lh (P:=Tryd.prog) u 23 ao A.length cap (by kernel_rfl) .i64 .i64 i A.length h0 h1 (by omega)]
 simp
theorem ZcP (a b n m:Int) (l:List Ch):(piecesL a b n m l).length=l.length+1:=by
 induction l generalizing a b with
 | nil=>rfl
 | cons c l ih=>simp[piecesL,ih]
end

section
open Go.RowKit
theorem ZcD (W:World) (g:Nat) (hg:W.heap.size=g) (cs:Array Value) (e:TypeId) (k c:Nat) (hkc:k≤c):Holds (W.alloc (.cells cs e)) (.slice (some ⟨g,0,none⟩) k c) k cs.toList:=by
 subst hg
 exact ZcC W cs e k c hkc
theorem Vk.lt {nx m:Int} {K:List Int} (h:Vk nx m K):∀ z∈K,z=-1∨z<m:=by
 induction K generalizing nx with
 | nil=>simp
 | cons y t ih =>
  intro z hz
  rw[List.mem_cons] at hz
  rcases h with ⟨rfl,h⟩ | ⟨hy,h1,h2,h3⟩
  ·rcases hz with rfl | hz
   ·exact .inl rfl
   ·exact ih h z hz
  ·rcases hz with rfl | hz
   ·exact .inr h2
   ·exact ih h3 z hz
end

section
open Go.RowKit
theorem Zbj {Z:List Int} {j:Nat} {z:Int} (h:Z[j]?=some z):Z.drop j=z::Z.drop (j+1):=by
 obtain⟨hl,rfl⟩:=List.getElem?_eq_some_iff.1 h
 exact List.drop_eq_getElem_cons hl
theorem ZbX {a b n m:Int} {j:Nat} (h:(j:Int)<n-a):(kr a b n m [])[j]?=some (b+j):=by
 rw[Zcd,List.getElem?_map,List.getElem?_range (by omega)]
 rfl
theorem ZbW {a b n m:Int} {c:Ch} {l:List Ch} {j:Nat} (h:(j:Int)<c.A-a):(kr a b n m (c::l))[j]?=some (b+j):=by
 rw[ZbZ,List.append_assoc,List.getElem?_append_left (by simp;omega),List.getElem?_map,List.getElem?_range (by omega)]
 rfl
theorem ZbY {a b n m:Int} {c:Ch} {l:List Ch} {j:Nat} (h0:a≤c.A) (h:c.A-a≤(j:Int)) (h2:(j:Int)<c.A-a+c.AN):(kr a b n m (c::l))[j]?=some (-1):=by
 rw[ZbZ,List.append_assoc,List.getElem?_append_right (by simp;omega),List.getElem?_append_left (by simp;omega),List.getElem?_replicate_of_lt (by simp;omega)]
theorem Zcf {a b n m:Int} {c:Ch} {l:List Ch} {j:Nat} (h0:a≤c.A) (h1:0≤c.AN) (h:(j:Int)=c.A-a+c.AN):(kr a b n m (c::l)).drop j=kr (c.A+c.AN) (c.B+c.BN) n m l:=by
 rw[ZbZ,List.drop_append_of_le_length (by simp;omega),List.drop_of_length_le (by simp;omega),List.nil_append]
theorem ZcS (l:List Ch) (n m:Int) (v:Value) (w:World) (hl:HCh w v l) (hS:¬ Script l n m) (hn:n≤9223372036854775807) (hm:m≤9223372036854775807) (hlen:l.length≤1048576) :
  Calls Tryd.prog 25 #[v,.int .i64 n,.int .i64 m] w fun e w'=>e=.returned (.tuple #[.slice none 0 0,.int .i64 50])∧Below w.heap.size w w':=by
 obtain⟨ao,ca,rfl⟩:=Holds.form hl
 go_enter Tryd.func25,Tryd.ntmps25
 go_wp2_with fail
 refine (ZcR l n m 50 _ w hl (by omega) hn hm (Zav hS)).mono ?_
 rintro e w1 ⟨rfl,hB⟩
 go_wp2
 go_ret2
 exact⟨rfl,hB⟩
theorem ZcT (l:List Ch) (n m:Int) (v:Value) (w:World) (hl:HCh w v l) (hS:Script l n m) (hn:n≤2097152) (hm:m≤4611686018427387904) (hlen:l.length≤1048576) :
  Calls Tryd.prog 25 #[v,.int .i64 n,.int .i64 m] w fun e w'=>∃ v',e=.returned (.tuple #[v',.int .i64 0])∧HI w' v' (keepL l n m)∧Below w.heap.size w w':=by
 obtain⟨ao,ca,rfl⟩:=Holds.form hl
 have hn0:=hS.1
 have hm0:=hS.2.1
 have HS:Hid (Script l n m):=hS
 clear hS
 obtain⟨N,rfl⟩:∃ N:Nat,n=(N:Int):=⟨n.toNat,by omega⟩
 obtain⟨Z,hZ⟩:∃ Z,keepL l N m=Z:=⟨_,rfl⟩
 rw[hZ]
 have HZ:Hid (kr 0 0 N m l=Z):=hZ
 clear hZ
 go_enter Tryd.func25,Tryd.ntmps25
 go_wp2_with fail
 refine (ZcR l N m 0 _ w hl (by omega) (by omega) (by omega) (Zaw HS.out)).mono ?_
 rintro e w0 ⟨rfl,hB0⟩
 go_wp2
 go_loopw [8,9,10,11] (fun kv bv kk iv wr=>∃ (i k:Nat) (a0 b0 b:Int) (X:List Int),i≤N∧k≤l.length∧(∃ oo oc,kv=.slice oo X.length oc)∧bv=.int .i64 b∧kk=.int .i64 k∧iv=.int .i64 i∧0≤a0∧a0≤i∧0≤b0∧0≤b∧b≤4611686018427387904∧Below w.heap.size w wr∧wr.ownsRow w.heap.size 3 1 kv X.length (icells X)∧X.length≤i∧Hid (Right (decide (k=0)) a0 b0 N m (l.drop k)∧X++(kr a0 b0 N m (l.drop k)).drop (i-a0).toNat=Z∧(∀ c r,l.drop k=c::r→(i:Int)≤c.A+c.AN∧((i:Int)≤c.A→b=b0+(i-a0)))∧(l.drop k=[]→b=b0+(i-a0)))) (fun _ _ _ iv _=>N-(intOf iv).toNat)
 case atStart =>
  refine⟨0,0,0,0,0,[],Nat.zero_le _,Nat.zero_le _,⟨_,_,rfl⟩,rfl,rfl,rfl,by omega,by omega,by omega,by omega,by omega,hB0,World.ownsRow_nil _ _ _ _,Nat.zero_le _,(?_:_∧_∧_∧_)⟩
  refine⟨HS.out.2.2,by simpa using HZ.out,fun c r h=>?_,fun _=>by omega⟩
  have hR:=HS.out.2.2
  rw[List.drop_zero] at h
  rw[h] at hR
  have h1:=hR.1.1
  rw[ZcG] at h1
  exact⟨by omega,fun _=>by omega⟩
 case round =>
  obtain⟨i,k,a0,b0,b,X,hi,hk,⟨oo,oc,rfl⟩,rfl,rfl,rfl,ha0,hai,hb0,hb1,hb2,hB,hO,hX,hR⟩:=hrel
  have hsz:=hB.size
  by_cases hlt:i<N
  ·have j1:(i:Int)<(N:Int):=by omega
   by_cases hkl:k<l.length
   ·obtain⟨bk,off,rfl,hbk,hc⟩:=HCh.at (HCh.keep hl hB (Nat.le_refl _)) (by omega)
    obtain⟨c0,c1,c2,c3⟩:=hc k hkl
    have hR':=hR.out
    rw[List.drop_eq_getElem_cons hkl] at hR'
    obtain⟨c,hcd⟩:∃ c,l[k]=c:=⟨_,rfl⟩
    rw[hcd] at hR' c0 c1 c2 c3
    have HC:Hid (l[k]=c):=hcd
    obtain⟨q1,q2,q3,_⟩:=hR'
    obtain⟨q5,q6⟩:=q3 c _ rfl
    have hnum:=q1.1.1
    rw[ZcG] at hnum
    have hle:=q1.2.le
    have hgap:=q1.1.2.1
    have hAa:=q1.1.2.2.1
    clear hcd hR
    obtain⟨A,AN,B,BN⟩:=c
    dsimp only at c0 c1 c2 c3 q5 q6 hnum hle hgap hAa
    obtain⟨⟨hA0,hA1⟩,⟨hAN0,hAN1⟩,⟨hB0',hB1'⟩,⟨hBN0,hBN1⟩,hpos⟩:=hnum
    obtain⟨hle1,hle2,_⟩:=hle
    have j2:0≤(k:Int):=by omega
    have j3:(k:Int)<(l.length:Int):=by omega
    by_cases hin:(i:Int)<A+AN
    ·have hw1:IntKind.i64.wrap (A+AN)=A+AN:=wrap_small _ (by omega) (by omega)
     by_cases hge:A≤(i:Int)
     ·have HN:Hid (Right (decide (k=0)) a0 b0 N m (l.drop k)∧X++[-1]++(kr a0 b0 N m (l.drop k)).drop ((i+1:Nat)-a0).toNat=Z∧(∀ c r,l.drop k=c::r→((i+1:Nat):Int)≤c.A+c.AN∧(((i+1:Nat):Int)≤c.A→b=b0+(((i+1:Nat):Int)-a0)))∧(l.drop k=[]→b=b0+(((i+1:Nat):Int)-a0))):=(by
       rw[List.drop_eq_getElem_cons hkl,HC.out]
       refine⟨q1,?_,fun c r h=>(by cases h;exact⟨by dsimp only;omega,fun h=>by dsimp only at h;omega⟩),fun h=>by cases h⟩
       rw[← q2,Zbj (ZbY (b:=b0) (n:=N) (m:=m) (c:=⟨A,AN,B,BN⟩) (j:=((i:Int)-a0).toNat) hAa (by dsimp only;omega) (by dsimp only;omega)),List.append_assoc]
       rw[show ((i+1:Nat)-a0).toNat=((i:Int)-a0).toNat+1 by omega]
       rfl)
      clear q1 q2 q3 q5 q6 hc
      go_wp2_with fail
      refine wp_loop_rounds 1 ?_
      rw[rounds_succ]
      go_wp2_with fail
      go_quiet (fail)
      obtain⟨wq,hwq⟩:∃ wq,wr.drewN nq=wq:=⟨_,rfl⟩
      have hOq:wq.ownsRow w.heap.size 3 1 (.slice oo X.length oc) X.length (icells X):=by rw[← hwq];exact hO
      have hBq:Below w.heap.size w wq:=by rw[← hwq];exact Below.dN hB _
      have hsq:=hBq.size
      rw[hwq]
      have e0:wq.cell? ⟨bk,off+k * 4,none⟩=some (.int .i64 A):=by rw[← hwq];exact c0
      clear hwq
      go_wp2_with (at_builtin;refine Zfq _ (by kernel_rfl) (.tmp 67) (.tmp 68) 57 3 (.int .i64 0) 1 8 rfl Tryd.underlying57 infoInt rfl (by decide) (by decide) w.heap.size _ _ _ rfl (hOq.alloc _) _ 1 (icells [-1]) rfl (ZcC _ _ _ _ _ (by decide)) rfl (ZbL _) (by omega) (by simp;omega) ?_)
      intro v2 w2 hown2 hgrow2
      have hB2:Below w.heap.size w w2:=(hBq.alloc (by omega) _).grown hgrow2 (by simp;omega) (fun _ hj=>ZcM hO hj)
      rw[← ZbJ] at hown2
      obtain⟨oo2,oc2,rfl⟩:=(ZbG hown2).form
      clear hgrow2
      go_wp2
      go_roundw
      case rel=>exact⟨i+1,k,a0,b0,b,X++[-1],by omega,by omega,⟨_,_,by rw[List.length_append];rfl⟩,by go_num,by go_num,by go_num,by omega,by omega,by omega,by omega,by omega,hB2,by rw[List.length_append];exact hown2,by simp;omega,HN⟩
      case measure=>simp[intOf];omega
     ·have hbe:b=b0+((i:Int)-a0):=q6 (by omega)
      have hbm:b+1≤4611686018427387904:=by omega
      have HN:Hid (Right (decide (k=0)) a0 b0 N m (l.drop k)∧X++[b]++(kr a0 b0 N m (l.drop k)).drop ((i+1:Nat)-a0).toNat=Z∧(∀ c r,l.drop k=c::r→((i+1:Nat):Int)≤c.A+c.AN∧(((i+1:Nat):Int)≤c.A→b+1=b0+(((i+1:Nat):Int)-a0)))∧(l.drop k=[]→b+1=b0+(((i+1:Nat):Int)-a0))):=(by
       rw[List.drop_eq_getElem_cons hkl,HC.out]
       refine⟨q1,?_,fun c r h=>(by cases h;exact⟨by dsimp only;omega,fun h=>by omega⟩),fun h=>by cases h⟩
       rw[← q2,Zbj (ZbW (b:=b0) (n:=N) (m:=m) (c:=⟨A,AN,B,BN⟩) (j:=((i:Int)-a0).toNat) (by dsimp only;omega)),List.append_assoc]
       rw[show ((i+1:Nat)-a0).toNat=((i:Int)-a0).toNat+1 by omega,show b=b0+((((i:Int)-a0).toNat:Nat):Int) by omega]
       rfl)
      clear q1 q2 q3 q5 q6 hc hbe
      have hge':(i:Int)<A:=by omega
      go_wp2_with fail
      refine wp_loop_rounds 1 ?_
      rw[rounds_succ]
      go_wp2_with fail
      go_quiet (fail)
      obtain⟨wq,hwq⟩:∃ wq,wr.drewN nq=wq:=⟨_,rfl⟩
      have hOq:wq.ownsRow w.heap.size 3 1 (.slice oo X.length oc) X.length (icells X):=by rw[← hwq];exact hO
      have hBq:Below w.heap.size w wq:=by rw[← hwq];exact Below.dN hB _
      have hsq:=hBq.size
      rw[hwq]
      have e0:wq.cell? ⟨bk,off+k * 4,none⟩=some (.int .i64 A):=by rw[← hwq];exact c0
      clear hwq
      go_wp2_with (at_builtin;refine Zfq _ (by kernel_rfl) (.tmp 70) (.tmp 72) 57 3 (.int .i64 0) 1 8 rfl Tryd.underlying57 infoInt rfl (by decide) (by decide) w.heap.size _ _ _ rfl (hOq.alloc _) _ 1 (icells [b]) rfl (ZcC _ _ _ _ _ (by decide)) rfl (ZbL _) (by omega) (by simp;omega) ?_)
      intro v2 w2 hown2 hgrow2
      have hB2:Below w.heap.size w w2:=(hBq.alloc (by omega) _).grown hgrow2 (by simp;omega) (fun _ hj=>ZcM hO hj)
      rw[← ZbJ] at hown2
      obtain⟨oo2,oc2,rfl⟩:=(ZbG hown2).form
      clear hgrow2
      go_wp2
      go_roundw
      case rel=>exact⟨i+1,k,a0,b0,b+1,X++[b],by omega,by omega,⟨_,_,by rw[List.length_append];rfl⟩,by go_num,by go_num,by go_num,by omega,by omega,by omega,by omega,by omega,hB2,by rw[List.length_append];exact hown2,by simp;omega,HN⟩
      case measure=>simp[intOf];omega
    ·have hie:(i:Int)=A+AN:=by omega
     have h7:=q1.2
     dsimp only at h7
     have hw1:IntKind.i64.wrap (A+AN)=A+AN:=wrap_small _ (by omega) (by omega)
     have hw2:IntKind.i64.wrap (B+BN)=B+BN:=wrap_small _ (by omega) (by omega)
     have hw3:IntKind.i64.wrap ((k:Int)+1)=((k+1:Nat):Int):=by rw[wrap_small _ (by omega) (by omega)];omega
     have hZ1:X++kr (A+AN) (B+BN) N m (l.drop (k+1))=Z:=by
      rw[← q2,Zcf (c:=⟨A,AN,B,BN⟩) hAa hAN0 (by dsimp only;omega)]
     by_cases hk2:k+1<l.length
     ·obtain⟨d0,d1,_,_⟩:=hc (k+1) hk2
      rw[List.drop_eq_getElem_cons hk2] at h7 hZ1
      obtain⟨c',hcd'⟩:∃ c',l[k+1]=c':=⟨_,rfl⟩
      rw[hcd'] at h7 hZ1 d0 d1
      have HC':Hid (l[k+1]=c'):=hcd'
      clear hcd'
      have hnum':=h7.1.1
      rw[ZcG] at hnum'
      have hle':=h7.2.le
      have hgap':=h7.1.2.1
      have hlt':A+AN<c'.A:=by rcases h7.1.2.2.2 with h | h;cases h;exact h
      obtain⟨A',AN',B',BN'⟩:=c'
      dsimp only at d0 d1 hnum' hle' hgap' hlt'
      obtain⟨⟨hA0',hA1'⟩,⟨hAN0',hAN1'⟩,⟨hB2',hB3'⟩,⟨hBN0',hBN1'⟩,hpos'⟩:=hnum'
      obtain⟨hle1',hle2',_⟩:=hle'
      have hw4:IntKind.i64.wrap (A'+AN')=A'+AN':=wrap_small _ (by omega) (by omega)
      have hbm:B+BN+1≤4611686018427387904:=by omega
      have HN:Hid (Right (decide (k+1=0)) (A+AN) (B+BN) N m (l.drop (k+1))∧X++[B+BN]++(kr (A+AN) (B+BN) N m (l.drop (k+1))).drop ((i+1:Nat)-(A+AN)).toNat=Z∧(∀ c r,l.drop (k+1)=c::r→((i+1:Nat):Int)≤c.A+c.AN∧(((i+1:Nat):Int)≤c.A→B+BN+1=B+BN+(((i+1:Nat):Int)-(A+AN))))∧(l.drop (k+1)=[]→B+BN+1=B+BN+(((i+1:Nat):Int)-(A+AN)))):=(by
       rw[List.drop_eq_getElem_cons hk2,HC'.out]
       refine⟨h7,?_,fun c r h=>(by cases h;exact⟨by dsimp only;omega,fun h=>by omega⟩),fun h=>by cases h⟩
       have h0:=Zbj (ZbW (a:=A+AN) (b:=B+BN) (n:=N) (m:=m) (c:=⟨A',AN',B',BN'⟩) (l:=l.drop (k+1+1)) (j:=0) (by dsimp only;omega))
       rw[List.drop_zero] at h0
       rw[← hZ1,show ((i+1:Nat)-(A+AN)).toNat=1 by omega,List.append_assoc,h0]
       simp)
      clear q1 q2 q3 q5 q6 hc h7 hZ1
      have j4:(k:Int)+1<(l.length:Int):=by omega
      have j6:0≤(k:Int)+1:=by omega
      have j7:((k:Int)+1).toNat=k+1:=by omega
      have j8:(i:Int)<A'+AN':=by omega
      have j9:(i:Int)<A':=by omega
      have j5:A+AN≤(i:Int):=by omega
      have HI:Hid ((i:Int)=A+AN):=hie
      clear hie
      go_wp2_with fail
      refine wp_loop_rounds 2 ?_
      rw[rounds_succ]
      go_wp2_with fail
      go_quiet (fail)
      obtain⟨wp,hwp⟩:∃ wp,wr.drewN nq=wp:=⟨_,rfl⟩
      have hOp:wp.ownsRow w.heap.size 3 1 (.slice oo X.length oc) X.length (icells X):=by rw[← hwp];exact hO
      have hBp:Below w.heap.size w wp:=by rw[← hwp];exact Below.dN hB _
      have hsp:=hBp.size
      rw[hwp]
      have p2:wp.cell? ⟨bk,off+k * 4+2,none⟩=some (.int .i64 B):=by rw[← hwp];exact c2
      have p3:wp.cell? ⟨bk,off+k * 4+3,none⟩=some (.int .i64 BN):=by rw[← hwp];exact c3
      go_wp2_with fail
      go_quiet (fail)
      obtain⟨wo,hwo⟩:∃ wo,wp.drewN nq=wo:=⟨_,rfl⟩
      have hOo:wo.ownsRow w.heap.size 3 1 (.slice oo X.length oc) X.length (icells X):=by rw[← hwo];exact hOp
      have hBo:Below w.heap.size w wo:=by rw[← hwo];exact Below.dN hBp _
      have hso:=hBo.size
      rw[hwo]
      have o0:wo.cell? ⟨bk,off+(k+1) * 4,none⟩=some (.int .i64 A'):=by rw[← hwo,← hwp];exact d0
      have o1:wo.cell? ⟨bk,off+(k+1) * 4+1,none⟩=some (.int .i64 AN'):=by rw[← hwo,← hwp];exact d1
      clear hwo hwp
      go_wp2_with fail
      rw[rounds_succ]
      go_wp2_with fail
      go_quiet (fail)
      obtain⟨wq,hwq⟩:∃ wq,wo.drewN nq=wq:=⟨_,rfl⟩
      have hOq:wq.ownsRow w.heap.size 3 1 (.slice oo X.length oc) X.length (icells X):=by rw[← hwq];exact hOo
      have hBq:Below w.heap.size w wq:=by rw[← hwq];exact Below.dN hBo _
      have hsq:=hBq.size
      rw[hwq]
      have e0:wq.cell? ⟨bk,off+(k+1) * 4,none⟩=some (.int .i64 A'):=by rw[← hwq];exact o0
      clear hwq
      go_wp2_with (at_builtin;refine Zfq _ (by kernel_rfl) (.tmp 70) (.tmp 72) 57 3 (.int .i64 0) 1 8 rfl Tryd.underlying57 infoInt rfl (by decide) (by decide) w.heap.size _ _ _ rfl (hOq.alloc _) _ 1 (icells [B+BN]) rfl (ZcC _ _ _ _ _ (by decide)) rfl (ZbL _) (by omega) (by simp;omega) ?_)
      intro v2 w2 hown2 hgrow2
      have hB2:Below w.heap.size w w2:=(hBq.alloc (by omega) _).grown hgrow2 (by simp;omega) (fun _ hj=>ZcM hOq hj)
      rw[← ZbJ] at hown2
      obtain⟨oo2,oc2,rfl⟩:=(ZbG hown2).form
      clear hgrow2
      go_wp2
      go_roundw
      case rel=>exact⟨i+1,k+1,A+AN,B+BN,B+BN+1,X++[B+BN],by omega,by omega,⟨_,_,by rw[List.length_append];rfl⟩,by go_num,by go_num,by go_num,by omega,by omega,by omega,by omega,by omega,hB2,by rw[List.length_append];exact hown2,by simp;omega,HN⟩
      case measure=>simp[intOf];omega
     ·rw[List.drop_of_length_le (show l.length≤k+1 by omega)] at h7 hZ1
      have hbm:B+BN+1≤4611686018427387904:=by have:=h7.2.2;omega
      have HN:Hid (Right (decide (k+1=0)) (A+AN) (B+BN) N m (l.drop (k+1))∧X++[B+BN]++(kr (A+AN) (B+BN) N m (l.drop (k+1))).drop ((i+1:Nat)-(A+AN)).toNat=Z∧(∀ c r,l.drop (k+1)=c::r→((i+1:Nat):Int)≤c.A+c.AN∧(((i+1:Nat):Int)≤c.A→B+BN+1=B+BN+(((i+1:Nat):Int)-(A+AN))))∧(l.drop (k+1)=[]→B+BN+1=B+BN+(((i+1:Nat):Int)-(A+AN)))):=(by
       rw[List.drop_of_length_le (show l.length≤k+1 by omega)]
       refine⟨h7,?_,fun c r h=>(by cases h),fun _=>by omega⟩
       have h0:=Zbj (ZbX (a:=A+AN) (b:=B+BN) (n:=N) (m:=m) (j:=0) (by omega))
       rw[List.drop_zero] at h0
       rw[← hZ1,show ((i+1:Nat)-(A+AN)).toNat=1 by omega,List.append_assoc,h0]
       simp)
      clear q1 q2 q3 q5 q6 hc h7 hZ1
      have j4:¬ ((k:Int)+1<(l.length:Int)):=by omega
      have j6:decide ((k:Int)+1<(l.length:Int))=false:=decide_eq_false j4
      have j5:A+AN≤(i:Int):=by omega
      have HI:Hid ((i:Int)=A+AN):=hie
      clear hie
      go_wp2_with fail
      refine wp_loop_rounds 2 ?_
      rw[rounds_succ]
      go_wp2_with fail
      go_quiet (fail)
      obtain⟨wp,hwp⟩:∃ wp,wr.drewN nq=wp:=⟨_,rfl⟩
      have hOp:wp.ownsRow w.heap.size 3 1 (.slice oo X.length oc) X.length (icells X):=by rw[← hwp];exact hO
      have hBp:Below w.heap.size w wp:=by rw[← hwp];exact Below.dN hB _
      have hsp:=hBp.size
      rw[hwp]
      have p2:wp.cell? ⟨bk,off+k * 4+2,none⟩=some (.int .i64 B):=by rw[← hwp];exact c2
      have p3:wp.cell? ⟨bk,off+k * 4+3,none⟩=some (.int .i64 BN):=by rw[← hwp];exact c3
      go_wp2_with fail
      go_quiet (fail)
      obtain⟨wo,hwo⟩:∃ wo,wp.drewN nq=wo:=⟨_,rfl⟩
      have hOo:wo.ownsRow w.heap.size 3 1 (.slice oo X.length oc) X.length (icells X):=by rw[← hwo];exact hOp
      have hBo:Below w.heap.size w wo:=by rw[← hwo];exact Below.dN hBp _
      have hso:=hBo.size
      rw[hwo]
      clear hwo hwp
      go_wp2_with fail
      rw[rounds_succ]
      go_wp2_with fail
      go_quiet (fail)
      obtain⟨wq,hwq⟩:∃ wq,wo.drewN nq=wq:=⟨_,rfl⟩
      have hOq:wq.ownsRow w.heap.size 3 1 (.slice oo X.length oc) X.length (icells X):=by rw[← hwq];exact hOo
      have hBq:Below w.heap.size w wq:=by rw[← hwq];exact Below.dN hBo _
      have hsq:=hBq.size
      rw[hwq]
      clear hwq
      go_wp2_with (at_builtin;refine Zfq _ (by kernel_rfl) (.tmp 70) (.tmp 72) 57 3 (.int .i64 0) 1 8 rfl Tryd.underlying57 infoInt rfl (by decide) (by decide) w.heap.size _ _ _ rfl (hOq.alloc _) _ 1 (icells [B+BN]) rfl (ZcC _ _ _ _ _ (by decide)) rfl (ZbL _) (by omega) (by simp;omega) ?_)
      intro v2 w2 hown2 hgrow2
      have hB2:Below w.heap.size w w2:=(hBq.alloc (by omega) _).grown hgrow2 (by simp;omega) (fun _ hj=>ZcM hOq hj)
      rw[← ZbJ] at hown2
      obtain⟨oo2,oc2,rfl⟩:=(ZbG hown2).form
      clear hgrow2
      go_wp2
      go_roundw
      case rel=>exact⟨i+1,k+1,A+AN,B+BN,B+BN+1,X++[B+BN],by omega,by omega,⟨_,_,by rw[List.length_append];rfl⟩,by go_num,by go_num,by go_num,by omega,by omega,by omega,by omega,by omega,hB2,by rw[List.length_append];exact hown2,by simp;omega,HN⟩
      case measure=>simp[intOf];omega
   ·have hR':=hR.out
    rw[List.drop_of_length_le (by omega)] at hR'
    obtain⟨q1,q2,_,q4⟩:=hR'
    have hbe:=q4 rfl
    have hbm:b+1≤4611686018427387904:=by have:=q1.2.2;omega
    have HN:Hid (Right (decide (k=0)) a0 b0 N m (l.drop k)∧X++[b]++(kr a0 b0 N m (l.drop k)).drop ((i+1:Nat)-a0).toNat=Z∧(∀ c r,l.drop k=c::r→((i+1:Nat):Int)≤c.A+c.AN∧(((i+1:Nat):Int)≤c.A→b+1=b0+(((i+1:Nat):Int)-a0)))∧(l.drop k=[]→b+1=b0+(((i+1:Nat):Int)-a0))):=(by
     rw[List.drop_of_length_le (by omega)]
     refine⟨q1,?_,fun c r h=>(by cases h),fun _=>by omega⟩
     rw[← q2,Zbj (ZbX (b:=b0) (m:=m) (j:=((i:Int)-a0).toNat) (by have:=q1.1;omega)),List.append_assoc]
     rw[show ((i+1:Nat)-a0).toNat=((i:Int)-a0).toNat+1 by omega,show b=b0+((((i:Int)-a0).toNat:Nat):Int) by omega]
     rfl)
    clear hR q1 q2 q4 hbe
    have j2:(l.length:Int)≤(k:Int):=by omega
    go_wp2_with fail
    refine wp_loop_rounds 1 ?_
    rw[rounds_succ]
    go_wp2_with fail
    go_quiet (fail)
    obtain⟨wq,hwq⟩:∃ wq,wr.drewN nq=wq:=⟨_,rfl⟩
    have hOq:wq.ownsRow w.heap.size 3 1 (.slice oo X.length oc) X.length (icells X):=by rw[← hwq];exact hO
    have hBq:Below w.heap.size w wq:=by rw[← hwq];exact Below.dN hB _
    have hsq:=hBq.size
    rw[hwq]
    clear hwq
    go_wp2_with (at_builtin;refine Zfq _ (by kernel_rfl) (.tmp 70) (.tmp 72) 57 3 (.int .i64 0) 1 8 rfl Tryd.underlying57 infoInt rfl (by decide) (by decide) w.heap.size _ _ _ rfl (hOq.alloc _) _ 1 (icells [b]) rfl (ZcC _ _ _ _ _ (by decide)) rfl (ZbL _) (by omega) (by simp;omega) ?_)
    intro v2 w2 hown2 hgrow2
    have hB2:Below w.heap.size w w2:=(hBq.alloc (by omega) _).grown hgrow2 (by simp;omega) (fun _ hj=>ZcM hO hj)
    rw[← ZbJ] at hown2
    obtain⟨oo2,oc2,rfl⟩:=(ZbG hown2).form
    clear hgrow2
    go_wp2
    go_roundw
    case rel=>exact⟨i+1,k,a0,b0,b+1,X++[b],by omega,by omega,⟨_,_,by rw[List.length_append];rfl⟩,by go_num,by go_num,by go_num,by omega,by omega,by omega,by omega,by omega,hB2,by rw[List.length_append];exact hown2,by simp;omega,HN⟩
    case measure=>simp[intOf];omega
  ·have hR':=hR.out
   have hXZ:X=Z:=by
    have hlz:=Zcb hR'.1
    have:=hR'.2.1
    rw[List.drop_of_length_le (by omega),List.append_nil] at this
    exact this
   subst hXZ
   clear hR hR'
   have j1:(N:Int)≤(i:Int):=by omega
   go_wp2
   go_ret2
   exact⟨_,rfl,ZbG hO,hB⟩
end

section
open Go.ChangeShapes Go.WideShapes Go.ChangeAt Go.RowKit
theorem own:ownKnob Tryd.prog.godebug=none:=by kernel_rfl
theorem laidOut:laidOutB Tryd.prog=true:=by kernel_rfl
theorem cellsInt:Tryd.prog.cellsOf 3=1:=by kernel_rfl
theorem cellsCh:Tryd.prog.cellsOf 61=4:=by kernel_rfl
def w64 (z:Int):Prop:=-9223372036854775808≤z∧z≤9223372036854775807
theorem Zfg {z:Int} (h:(Lit.int .i64 z).wf=true):w64 z:=bounds_i64 h
def wCh (c:Ch):Prop:=w64 c.A∧w64 c.AN∧w64 c.B∧w64 c.BN
theorem Zan {H:Type} (D:Nat→DataW H) (n:Nat) (h:∀ i,i<n→1≤Rows.uptoBulk (D i)):n≤Rows.uptoBulkAll ((List.range n).map D):=by
 have hall:∀ l:List (DataW H),(∀ d∈l,1≤Rows.uptoBulk d)→l.length≤Rows.uptoBulkAll l:=by
  intro l
  induction l with
  | nil=>simp
  | cons d t ih =>
   intro hd
   have h1:=hd d (List.mem_cons_self ..)
   have h2:=ih fun x hx=>hd x (List.mem_cons_of_mem _ hx)
   rw[Rows.uptoBulkAll]
   simp only[List.length_cons]
   omega
 have:=hall ((List.range n).map D) (by
  intro d hd
  simp only[List.mem_map,List.mem_range] at hd
  obtain⟨i,hi,rfl⟩:=hd
  exact h i hi)
 simpa using this
theorem ZcJ {H:Type} {enc:TypeId × Value→H} {W:World} {fuel:Nat} {ao:Option Addr} {len cap:Nat} {d:DataW H} {p:List MemPlace}
  (h:DataW.trod enc Tryd.prog W 0 (fun _=>true) true fuel 22 [.slice ao len cap]=some (d,p)) :
  ∃ l:List Ch,HCh W (.slice ao len cap) l∧l.length≤Rows.uptoBulk d∧∀ c∈l,wCh c:=by
 rcases Go.Deep.open_slice Tryd.underlying22 h with ⟨hcs,hx⟩ | ⟨a,l,c,m,n,D,Pl,hcs,_,hl,hm,hmm,hx,hel⟩
 ·simp at hcs
  obtain⟨rfl,rfl,rfl⟩:=hcs
  exact⟨[],.inl ⟨rfl,rfl,rfl⟩,by simp,by simp⟩
 ·simp at hcs
  obtain⟨rfl,rfl,rfl⟩:=hcs
  simp only[Prod.mk.injEq] at hx
  obtain⟨rfl,_⟩:=hx
  have hlm:len≤m:=by rw[hmm];split<;>omega
  have each:∀ i,i<len→∃ c:Ch,wCh c∧W.cell? (a.add (i * 4))=some (.int .i64 c.A)∧W.cell? (a.add (i * 4+1))=some (.int .i64 c.AN)∧W.cell? (a.add (i * 4+2))=some (.int .i64 c.B)∧W.cell? (a.add (i * 4+3))=some (.int .i64 c.BN)∧1≤Rows.uptoBulk (D i):=by
   intro i hi
   obtain⟨cs',h1,h2⟩:=hel i (by omega)
   rw[cellsCh] at h1
   obtain⟨_,hlen,hcell⟩:=World.cells?_some h1
   obtain⟨xs,k,hk,hxy,_,hxl,hf⟩:=DataW.trod_struct Tryd.underlying61 h2
   match xs,hxl,cs',hlen with
   | [y0,y1,y2,y3],_,[v0,v1,v2,v3],_ =>
    have g0:=hf 0 _ rfl
    have g1:=hf 1 _ rfl
    have g2:=hf 2 _ rfl
    have g3:=hf 3 _ rfl
    simp[cellsInt] at g0 g1 g2 g3
    obtain⟨z0,e0,_,w0⟩:=DataW.trod_int Tryd.underlying3 g0
    obtain⟨z1,e1,_,w1⟩:=DataW.trod_int Tryd.underlying3 g1
    obtain⟨z2,e2,_,w2⟩:=DataW.trod_int Tryd.underlying3 g2
    obtain⟨z3,e3,_,w3⟩:=DataW.trod_int Tryd.underlying3 g3
    cases e0
    cases e1
    cases e2
    cases e3
    have c0:=hcell 0 (by omega)
    have c1:=hcell 1 (by omega)
    have c2:=hcell 2 (by omega)
    have c3:=hcell 3 (by omega)
    rw[Go.Deep.add_add] at c0 c1 c2 c3
    simp only[Prod.mk.injEq] at hxy
    refine⟨⟨z0,z1,z2,z3⟩,⟨Zfg w0,Zfg w1,Zfg w2,Zfg w3⟩,by simpa using c0,by simpa using c1,by simpa using c2,by simpa using c3,?_⟩
    rw[hxy.1,Rows.uptoBulk]
    omega
  have:Inhabited Ch:=⟨⟨0,0,0,0⟩⟩
  obtain⟨f,hf⟩:=Go.Deep.choose_lt each
  have hlen:((List.range len).map f).length=len:=by simp
  refine⟨(List.range len).map f,.inr ⟨a,cap,by rw[hlen],by rw[hlen];exact hl,fun j u hj=>?_⟩,?_,?_⟩
  ·have hj':j<len * 4:=by
    have:=(List.getElem?_eq_some_iff.1 hj).1
    rw[Zau,hlen] at this
    exact this
   obtain⟨h0,h1,h2,h3⟩:=Zat ((List.range len).map f) (j / 4) (by rw[hlen];omega)
   obtain⟨_,g0,g1,g2,g3,_⟩:=hf (j / 4) (by omega)
   simp only[List.getElem_map,List.getElem_range] at h0 h1 h2 h3
   rcases (by omega:j=4 * (j / 4)∨j=4 * (j / 4)+1∨j=4 * (j / 4)+2∨j=4 * (j / 4)+3) with e | e | e | e
   ·rw[e,h0] at hj
    rw[e,Nat.mul_comm,g0,hj]
   ·rw[e,h1] at hj
    rw[e,Nat.mul_comm,g1,hj]
   ·rw[e,h2] at hj
    rw[e,Nat.mul_comm,g2,hj]
   ·rw[e,h3] at hj
    rw[e,Nat.mul_comm,g3,hj]
  ·rw[hlen,Rows.uptoBulk]
   have:=Zan D len fun i hi=>(hf i hi).2.2.2.2.2
   omega
  ·intro c hc
   simp only[List.mem_map,List.mem_range] at hc
   obtain⟨i,hi,rfl⟩:=hc
   exact (hf i hi).1
end

end Go.Proofs.YtcnjephlmcnodaaDoor
