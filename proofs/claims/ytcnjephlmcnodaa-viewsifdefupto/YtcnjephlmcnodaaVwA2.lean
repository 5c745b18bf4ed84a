/-
  Texts that belong together, joined: EdRow, EdMath, EdM2, EdM3, EdM4, EdM5, HuMath, HuM2, HuM3, HuM4, HuM5, HuM6, EdChk, EdIter, EdOwn, EdKeep, EdWalk, EdDrew, PcReg, EdReg, EdApp, EdSameS, EdRChk, EdRApp, EdMk, EdRKp, EdOpen, EdOpenS.
-/
import Derived.Test.YtcnjephlmcnodaaProg
import Derived.WalkKit
import Derived.WalkSpells
import Derived.WalkLawsBesides
import Derived.Deep.QuietTactic
import Derived.BigQuiet
import Derived.Laws.AppendOwnNone
import Derived.Below
import Derived.RangeFuncNested
import Derived.RangeFuncBound
import Derived.RangeFuncCalls
import Derived.RangeFuncLeaves
import Derived.RangeFuncBox
import Derived.Shelf.Abstract
import Derived.Shelf.RegionOpen
import Derived.OwnWalkIn
import Derived.TacticsInMore
import Derived.LoopNIn
import Derived.LoopIn
import Derived.Maps.AppendAt
import Derived.Deep.RegionHeld3
import Derived.Test.YtcnjephlmcnodaaRows
import Derived.Test.YtcnjephlmcnodaaChecked
import Derived.ProofKit
import Derived.OpenShut
import Derived.ShutString
import Derived.ChangeOld
import Derived.SliceStrings
import Derived.ChangeSlices
import Derived.Deep.Slices
import Derived.Deep.SlicePairs
import Derived.JoinedCond

set_option maxHeartbeats 16000000
set_option maxRecDepth 100000
namespace Go.Proofs.Ytcnjephlmcnodaa

section
open Go.RowKit
theorem Y_a {α:Type} (l:List α) (i:Nat) (a:α):l.toArray.setIfInBounds i a=(l.set i a).toArray:=List.setIfInBounds_toArray ..
theorem Y_b {α:Type} {a b:α} {l:List α}:(a::l).set 0 b=b::l:=rfl
theorem Y_c {α:Type} {a b:α} {l:List α} {n:Nat}:(a::l).set (n+1) b=a::l.set n b:=rfl
structure Ch where
 A:Int
 AN:Int
 B:Int
 BN:Int
structure Rn where
 a:Int
 b:Int
 n:Int
def chV (c:Ch):Value:=.agg #[.int .i64 c.A,.int .i64 c.AN,.int .i64 c.B,.int .i64 c.BN]
def chC (c:Ch):List Value:=[.int .i64 c.A,.int .i64 c.AN,.int .i64 c.B,.int .i64 c.BN]
def rnC (r:Rn):List Value:=[.int .i64 r.a,.int .i64 r.b,.int .i64 r.n]
def chcells (l:List Ch):List Value:=l.flatMap chC
def rncells (l:List Rn):List Value:=l.flatMap rnC
def icells (ns:List Int):List Value:=ns.map fun z=>.int .i64 z
def scells (ws:List (List UInt8)):List Value:=ws.map fun a=>.string ⟨a.toArray⟩
theorem Zaf {W:World} {a:Addr} {v:Value} (h:W.cell? (a.add 0)=some v):∃ b off,a=⟨b,off,none⟩:=by
 obtain⟨b,off,spot⟩:=a
 have hspot:spot=none:=by simpa [Addr.add] using World.cell?_spot h
 subst hspot
 exact⟨b,off,rfl⟩
theorem Zae (b off j:Nat):(⟨b,off,none⟩:Addr).add j=⟨b,off+j,none⟩:=by unfold Addr.add;split<;>simp_all
theorem Below.dN {N:Nat} {w w1:World} (h:Below N w w1) (n:Nat):Below N w (w1.drewN n):=⟨h.os,h.tape,h.output,h.size,h.block⟩
def Holds (w:World) (v:Value) (n:Nat) (xs:List Value):Prop :=
 (v=.slice none 0 0∧n=0∧xs=[])∨∃ ad c,v=.slice (some ad) n c∧n≤c∧∀ j u,xs[j]?=some u→w.cell? (ad.add j)=some u
theorem Holds.keep {w w':World} {v:Value} {n:Nat} {xs:List Value} (h:Holds w v n xs) (hk:∀ k,k<w.heap.size→w'.heap[k]?=w.heap[k]?):Holds w' v n xs:=by
 rcases h with h | ⟨ad,c,hv,hnc,hc⟩
 ·exact .inl h
 ·refine .inr ⟨ad,c,hv,hnc,fun j u hj=>?_⟩
  have h1:=hc j u hj
  have hlt:=World.block_lt_of_cell? w _ h1
  rw[World.cell?_of_block (w:=w) (hk _ hlt)]
  exact h1
theorem Holds.form {w:World} {v:Value} {n:Nat} {xs:List Value} (h:Holds w v n xs):∃ ao c,v=.slice ao n c:=by
 rcases h with ⟨rfl,rfl,rfl⟩ | ⟨ad,c,rfl,_⟩
 ·exact⟨_,_,rfl⟩
 ·exact⟨_,_,rfl⟩
theorem Holds.at {w:World} {v:Value} {n:Nat} {xs:List Value} (h:Holds w v n xs) (h0:0<xs.length):∃ b off c,v=.slice (some ⟨b,off,none⟩) n c∧b<w.heap.size∧∀ j (hj:j<xs.length),w.cell? ⟨b,off+j,none⟩=some xs[j]:=by
 rcases h with ⟨_,_,rfl⟩ | ⟨ad,c,rfl,_,hc⟩
 ·simp at h0
 ·obtain⟨b,off,rfl⟩:=Zaf (hc 0 _ (List.getElem?_eq_getElem h0))
  refine⟨b,off,c,rfl,World.block_lt_of_cell? w _ (hc 0 _ (List.getElem?_eq_getElem h0)),fun j hj=>?_⟩
  have:=hc j _ (List.getElem?_eq_getElem hj)
  rw[Zae] at this
  exact this
theorem Holds.nil (w:World):Holds w (.slice none 0 0) 0 []:=.inl ⟨rfl,rfl,rfl⟩
theorem Zaq (l:List Ch):(chcells l).length=l.length * 4:=by
 induction l with
 | nil=>rfl
 | cons c l ih=>simp only[chcells,List.flatMap_cons,List.length_append,List.length_cons] at ih ⊢;rw[ih];simp[chC];omega
theorem ZbC (l:List Rn):(rncells l).length=l.length * 3:=by
 induction l with
 | nil=>rfl
 | cons c l ih=>simp only[rncells,List.flatMap_cons,List.length_append,List.length_cons] at ih ⊢;rw[ih];simp[rnC];omega
theorem ZaT (l:List Int):(icells l).length=l.length:=by simp[icells]
theorem ZbH (l:List (List UInt8)):(scells l).length=l.length:=by simp[scells]
theorem Zap (l:List Ch) (k:Nat) (hk:k<l.length):(chcells l)[4 * k]?=some (.int .i64 l[k].A)∧(chcells l)[4 * k+1]?=some (.int .i64 l[k].AN)∧(chcells l)[4 * k+2]?=some (.int .i64 l[k].B)∧(chcells l)[4 * k+3]?=some (.int .i64 l[k].BN):=by
 induction l generalizing k with
 | nil=>simp at hk
 | cons c l ih =>
  cases k with
  | zero=>simp[chcells,chC]
  | succ k =>
   have h:=ih k (by simpa using hk)
   have e:∀ i,(chcells (c::l))[4 * (k+1)+i]?=(chcells l)[4 * k+i]?:=by
    intro i
    have:chcells (c::l)=chC c++chcells l:=rfl
    rw[this,List.getElem?_append_right (by simp[chC];omega)]
    congr 1
    simp[chC];omega
   simp only[List.getElem_cons_succ]
   refine⟨by rw[← (h).1];exact e 0,by rw[← h.2.1];exact e 1,by rw[← h.2.2.1];exact e 2,by rw[← h.2.2.2];exact e 3⟩
theorem ZbB (l:List Rn) (k:Nat) (hk:k<l.length):(rncells l)[3 * k]?=some (.int .i64 l[k].a)∧(rncells l)[3 * k+1]?=some (.int .i64 l[k].b)∧(rncells l)[3 * k+2]?=some (.int .i64 l[k].n):=by
 induction l generalizing k with
 | nil=>simp at hk
 | cons c l ih =>
  cases k with
  | zero=>simp[rncells,rnC]
  | succ k =>
   have h:=ih k (by simpa using hk)
   have e:∀ i,(rncells (c::l))[3 * (k+1)+i]?=(rncells l)[3 * k+i]?:=by
    intro i
    have:rncells (c::l)=rnC c++rncells l:=rfl
    rw[this,List.getElem?_append_right (by simp[rnC];omega)]
    congr 1
    simp[rnC];omega
   simp only[List.getElem_cons_succ]
   refine⟨by rw[← (h).1];exact e 0,by rw[← h.2.1];exact e 1,by rw[← h.2.2];exact e 2⟩
def HCh (w:World) (v:Value) (l:List Ch):Prop:=Holds w v l.length (chcells l)
def HRn (w:World) (v:Value) (l:List Rn):Prop:=Holds w v l.length (rncells l)
def HI (w:World) (v:Value) (l:List Int):Prop:=Holds w v l.length (icells l)
def HS (w:World) (v:Value) (l:List (List UInt8)):Prop:=Holds w v l.length (scells l)
theorem HCh.keep {w w':World} {v:Value} {l:List Ch} (h:HCh w v l) {N:Nat} (hk:Below N w w') (hN:w.heap.size≤N):HCh w' v l:=Holds.keep h fun k hk'=>hk.block k (by omega)
theorem HRn.keep {w w':World} {v:Value} {l:List Rn} (h:HRn w v l) {N:Nat} (hk:Below N w w') (hN:w.heap.size≤N):HRn w' v l:=Holds.keep h fun k hk'=>hk.block k (by omega)
theorem HI.keep {w w':World} {v:Value} {l:List Int} (h:HI w v l) {N:Nat} (hk:Below N w w') (hN:w.heap.size≤N):HI w' v l:=Holds.keep h fun k hk'=>hk.block k (by omega)
theorem HS.keep {w w':World} {v:Value} {l:List (List UInt8)} (h:HS w v l) {N:Nat} (hk:Below N w w') (hN:w.heap.size≤N):HS w' v l:=Holds.keep h fun k hk'=>hk.block k (by omega)
theorem HCh.at {w:World} {ao:Option Addr} {n c:Nat} {l:List Ch} (h:HCh w (.slice ao n c) l) (h0:0<l.length):∃ b off,ao=some ⟨b,off,none⟩∧b<w.heap.size ∧
  ∀ k (hk:k<l.length),w.cell? ⟨b,off+k * 4,none⟩=some (.int .i64 l[k].A)∧w.cell? ⟨b,off+k * 4+1,none⟩=some (.int .i64 l[k].AN)∧w.cell? ⟨b,off+k * 4+2,none⟩=some (.int .i64 l[k].B)∧w.cell? ⟨b,off+k * 4+3,none⟩=some (.int .i64 l[k].BN):=by
 obtain⟨b,off,c',hv,hb,hc⟩:=Holds.at h (by rw[Zaq];omega)
 cases hv
 refine⟨b,off,rfl,hb,fun k hk=>?_⟩
 obtain⟨h0,h1,h2,h3⟩:=Zap l k hk
 have hlen:=Zaq l
 have e:k * 4=4 * k:=by omega
 rw[e]
 refine⟨?_,?_,?_,?_⟩
 ·have:=hc (4 * k) (by omega)
  rw[← h0,this,List.getElem?_eq_getElem]
 ·have:=hc (4 * k+1) (by omega)
  rw[← h1,Nat.add_assoc,this,List.getElem?_eq_getElem]
 ·have:=hc (4 * k+2) (by omega)
  rw[← h2,Nat.add_assoc,this,List.getElem?_eq_getElem]
 ·have:=hc (4 * k+3) (by omega)
  rw[← h3,Nat.add_assoc,this,List.getElem?_eq_getElem]
theorem HRn.at {w:World} {ao:Option Addr} {n c:Nat} {l:List Rn} (h:HRn w (.slice ao n c) l) (h0:0<l.length):∃ b off,ao=some ⟨b,off,none⟩∧b<w.heap.size ∧
  ∀ k (hk:k<l.length),w.cell? ⟨b,off+k * 3,none⟩=some (.int .i64 l[k].a)∧w.cell? ⟨b,off+k * 3+1,none⟩=some (.int .i64 l[k].b)∧w.cell? ⟨b,off+k * 3+2,none⟩=some (.int .i64 l[k].n):=by
 obtain⟨b,off,c',hv,hb,hc⟩:=Holds.at h (by rw[ZbC];omega)
 cases hv
 refine⟨b,off,rfl,hb,fun k hk=>?_⟩
 obtain⟨h0,h1,h2⟩:=ZbB l k hk
 have hlen:=ZbC l
 have e:k * 3=3 * k:=by omega
 rw[e]
 refine⟨?_,?_,?_⟩
 ·have:=hc (3 * k) (by omega)
  rw[← h0,this,List.getElem?_eq_getElem]
 ·have:=hc (3 * k+1) (by omega)
  rw[← h1,Nat.add_assoc,this,List.getElem?_eq_getElem]
 ·have:=hc (3 * k+2) (by omega)
  rw[← h2,Nat.add_assoc,this,List.getElem?_eq_getElem]
theorem HI.at {w:World} {ao:Option Addr} {n c:Nat} {l:List Int} (h:HI w (.slice ao n c) l) (h0:0<l.length):∃ b off,ao=some ⟨b,off,none⟩∧b<w.heap.size ∧
  ∀ k (hk:k<l.length),w.cell? ⟨b,off+k,none⟩=some (.int .i64 l[k]):=by
 obtain⟨b,off,c',hv,hb,hc⟩:=Holds.at h (by rw[ZaT];omega)
 cases hv
 exact⟨b,off,rfl,hb,fun k hk=>by rw[hc k (by rw[ZaT];exact hk)];simp[icells]⟩
theorem HS.at {w:World} {ao:Option Addr} {n c:Nat} {l:List (List UInt8)} (h:HS w (.slice ao n c) l) (h0:0<l.length):∃ b off,ao=some ⟨b,off,none⟩∧b<w.heap.size ∧
  ∀ k (hk:k<l.length),w.cell? ⟨b,off+k,none⟩=some (.string ⟨l[k].toArray⟩):=by
 obtain⟨b,off,c',hv,hb,hc⟩:=Holds.at h (by rw[ZbH];omega)
 cases hv
 exact⟨b,off,rfl,hb,fun k hk=>by rw[hc k (by rw[ZbH];exact hk)];simp[scells]⟩
end

section
def nat31 (z:Int):Bool:=decide (0≤z) && decide (z≤2147483647)
def numB (c:Ch):Bool:=nat31 c.A && nat31 c.AN && nat31 c.B && nat31 c.BN && (decide (0<c.AN) || decide (0<c.BN))
theorem Zbo (c:Ch):numB c=true↔(0≤c.A∧c.A≤2147483647)∧(0≤c.AN∧c.AN≤2147483647)∧(0≤c.B∧c.B≤2147483647)∧(0≤c.BN∧c.BN≤2147483647)∧(0<c.AN∨0<c.BN):=by
 simp[numB,nat31,and_assoc]
def Right:Bool→Int→Int→Int→Int→List Ch→Prop
 | _,a,b,n,m,[]=>a≤n∧b≤m∧n-a=m-b
 | f,a,b,n,m,c::l=>(numB c=true∧c.A-a=c.B-b∧a≤c.A∧(f=true∨a<c.A))∧Right false (c.A+c.AN) (c.B+c.BN) n m l
def decRight:(f:Bool)→(a b n m:Int)→(l:List Ch)→Decidable (Right f a b n m l)
 | _,a,b,n,m,[]=>inferInstanceAs (Decidable (a≤n∧b≤m∧n-a=m-b))
 | f,a,b,n,m,c::l =>
  have _:=decRight false (c.A+c.AN) (c.B+c.BN) n m l
  inferInstanceAs (Decidable ((numB c=true∧c.A-a=c.B-b∧a≤c.A∧(f=true∨a<c.A))∧Right false (c.A+c.AN) (c.B+c.BN) n m l))
theorem Right.le {f:Bool} {a b n m:Int} {l:List Ch} (h:Right f a b n m l):a≤n∧b≤m∧n-a-(m-b)=n-a-(m-b):=by
 induction l generalizing f a b with
 | nil=>exact⟨h.1,h.2.1,rfl⟩
 | cons c l ih =>
  obtain⟨⟨h1,h2,h3,h4⟩,h5⟩:=h
  rw[Zbo] at h1
  have:=ih h5
  refine⟨by omega,by omega,rfl⟩
def Script (l:List Ch) (n m:Int):Prop:=0≤n∧0≤m∧Right true 0 0 n m l
def decScript (l:List Ch) (n m:Int):Decidable (Script l n m) :=
 have _:=decRight true 0 0 n m l
 inferInstanceAs (Decidable (0≤n∧0≤m∧Right true 0 0 n m l))
def chk (l:List Ch) (n m:Int):Int:=@ite Int (Script l n m) (decScript l n m) 0 50
theorem Zas {l:List Ch} {n m:Int} (h:Script l n m):chk l n m=0:=if_pos h
theorem Zar {l:List Ch} {n m:Int} (h:¬ Script l n m):chk l n m=50:=if_neg h
def piecesL:Int→Int→Int→Int→List Ch→List (Rn × Ch)
 | a,b,n,m,[]=>[(⟨a,b,n-a⟩,⟨n,0,m,0⟩)]
 | a,b,n,m,c::l=>(⟨a,b,c.A-a⟩,c)::piecesL (c.A+c.AN) (c.B+c.BN) n m l
def Pc (n m:Int) (x:Rn × Ch):Prop :=
 0≤x.1.a∧0≤x.1.b∧0≤x.1.n∧x.1.a+x.1.n≤n∧x.1.b+x.1.n≤m∧0≤x.2.B∧0≤x.2.BN∧x.2.B+x.2.BN≤m∧0≤x.2.AN∧x.2.AN≤n
theorem Right.pc {f:Bool} {a b n m:Int} {c:Ch} {l:List Ch} (h:Right f a b n m (c::l)) (ha:0≤a) (hb:0≤b):Pc n m (⟨a,b,c.A-a⟩,c):=by
 obtain⟨⟨h1,h2,h3,h4⟩,h5⟩:=h
 rw[Zbo] at h1
 have:=h5.le
 refine⟨ha,hb,?_,?_,?_,?_,?_,?_,?_,?_⟩<;>dsimp only<;>omega
def cut (A:List (List UInt8)) (i n:Int):List (List UInt8):=(A.drop i.toNat).take n.toNat
end

section
def un (a b:Int):Nat→List Rn
 | 0=>[]
 | k+1=>⟨a,b,1⟩::un (a+1) (b+1) k
def ex (r:Rn):List Rn:=un r.a r.b r.n.toNat
def exs (rs:List Rn):List Rn:=rs.flatMap ex
theorem ZaM (r:Rn) (rs:List Rn):exs (r::rs)=ex r++exs rs:=rfl
theorem Zbk {a b:Int} {k:Nat} {r:Rn}:r∈un a b k↔r.n=1∧a≤r.a∧r.a<a+k∧r.b-r.a=b-a:=by
 induction k generalizing a b with
 | zero=>simp[un];omega
 | succ k ih =>
  rw[un,List.mem_cons,ih]
  constructor
  ·rintro (rfl | h)
   ·simp;omega
   ·omega
  ·rintro⟨h1,h2,h3,h4⟩
   by_cases h:r.a=a
   ·left
    obtain⟨x,y,z⟩:=r
    simp only at *
    subst h h1
    have:y=b:=by omega
    rw[this]
   ·right
    omega
theorem Zbi {p r:Rn}:r∈ex p↔r.n=1∧p.a≤r.a∧r.a<p.a+p.n.toNat∧r.b-r.a=p.b-p.a:=Zbk
def Chain:Int→Int→List Rn→Prop
 | _,_,[]=>True
 | a,b,r::rs=>a≤r.a∧b≤r.b∧0≤r.n∧Chain (r.a+r.n) (r.b+r.n) rs
theorem Chain.low {a b:Int} {rs:List Rn} (h:Chain a b rs):∀ r∈exs rs,r.n=1∧a≤r.a∧b≤r.b:=by
 induction rs generalizing a b with
 | nil=>simp[exs]
 | cons p rs ih =>
  obtain⟨h1,h2,h3,h4⟩:=h
  intro r hr
  rw[ZaM,List.mem_append,Zbi] at hr
  rcases hr with hr | hr
  ·omega
  ·have:=ih h4 r hr
   omega
theorem Chain.mono {a b a' b':Int} {rs:List Rn} (h:Chain a b rs) (ha:a'≤a) (hb:b'≤b):Chain a' b' rs:=by
 cases rs with
 | nil=>trivial
 | cons p rs=>exact⟨by have:=h.1;omega,by have:=h.2.1;omega,h.2.2⟩
def Up (l:List Rn):Prop:=l.Pairwise fun p q=>p.a<q.a∧p.b<q.b
theorem ZbP (a b:Int) (k:Nat):Up (un a b k):=by
 induction k generalizing a b with
 | zero=>exact List.Pairwise.nil
 | succ k ih =>
  refine List.Pairwise.cons (fun r hr=>?_) (ih _ _)
  rw[Zbk] at hr
  dsimp only
  omega
theorem Chain.up {a b:Int} {rs:List Rn} (h:Chain a b rs):Up (exs rs):=by
 induction rs generalizing a b with
 | nil=>exact List.Pairwise.nil
 | cons p rs ih =>
  obtain⟨h1,h2,h3,h4⟩:=h
  rw[ZaM]
  refine List.pairwise_append.2 ⟨ZbP _ _ _,ih h4,fun r hr q hq=>?_⟩
  rw[Zbi] at hr
  have:=h4.low q hq
  omega
def rns (a b n m:Int) (l:List Ch):List Rn:=(piecesL a b n m l).map (·.1)
def U (a b n m:Int) (l:List Ch):List Rn:=exs (rns a b n m l)
theorem Zac (a b n m:Int):U a b n m []=un a b (n-a).toNat:=by simp[U,rns,piecesL,exs,ex]
theorem Zab (a b n m:Int) (c:Ch) (l:List Ch):U a b n m (c::l)=un a b (c.A-a).toNat++U (c.A+c.AN) (c.B+c.BN) n m l:=by
 simp[U,rns,piecesL,exs,ex]
theorem Right.chain {f:Bool} {a b n m:Int} {l:List Ch} (h:Right f a b n m l):Chain a b (rns a b n m l):=by
 induction l generalizing f a b with
 | nil =>
  obtain⟨h1,h2,h3⟩:=h
  exact⟨Int.le_refl _,Int.le_refl _,by dsimp only;omega,trivial⟩
 | cons c l ih =>
  obtain⟨⟨h1,h2,h3,h4⟩,h5⟩:=h
  rw[Zbo] at h1
  refine⟨Int.le_refl _,Int.le_refl _,by dsimp only;omega,(ih h5).mono ?_ ?_⟩<;>dsimp only<;>omega
theorem Right.up {f:Bool} {a b n m:Int} {l:List Ch} (h:Right f a b n m l):Up (U a b n m l):=h.chain.up
theorem Right.first {a b n m:Int} {l:List Ch} (h:Right false a b n m l):∃ e t,U a b n m l++[⟨n,m,0⟩]=e::t∧e.a=a∧e.b=b:=by
 cases l with
 | nil =>
  obtain⟨h1,h2,h3⟩:=h
  rw[Zac]
  by_cases hn:n=a
  ·subst hn
   exact⟨⟨n,m,0⟩,[],by simp[un],rfl,by dsimp only;omega⟩
  ·obtain⟨k,hk⟩:∃ k:Nat,(n-a).toNat=k+1:=⟨(n-a).toNat-1,by omega⟩
   rw[hk,un]
   exact⟨_,_,rfl,rfl,rfl⟩
 | cons c l =>
  obtain⟨⟨h1,h2,h3,h4⟩,h5⟩:=h
  have hlt:a<c.A:=by simpa using h4
  rw[Zab]
  obtain⟨k,hk⟩:∃ k:Nat,(c.A-a).toNat=k+1:=⟨(c.A-a).toNat-1,by omega⟩
  rw[hk,un]
  exact⟨_,_,rfl,rfl,rfl⟩
end

section
def Fit:Int→Int→Int→Int→List Rn→Prop
 | a,b,n,m,[]=>a≤n∧b≤m
 | a,b,n,m,r::P=>a≤r.a∧b≤r.b∧r.n=1∧Fit (r.a+1) (r.b+1) n m P
theorem Fit.le {a b n m:Int} {P:List Rn} (h:Fit a b n m P):a≤n∧b≤m:=by
 induction P generalizing a b with
 | nil=>exact h
 | cons r P ih=>have:=ih h.2.2.2;have h1:=h.1;have h2:=h.2.1;omega
def UpA (l:List Rn):Prop:=l.Pairwise fun p q=>p.a<q.a
theorem Up.a {l:List Rn} (h:Up l):UpA l:=h.imp fun h=>h.1
def Vk:Int→Int→List Int→Prop
 | _,_,[]=>True
 | nx,m,z::t=>(z=-1∧Vk nx m t)∨(z≠-1∧nx≤z∧z<m∧Vk (z+1) m t)
theorem Vk.each {nx m:Int} {K:List Int} (h:Vk nx m K) (h0:0≤nx):∀ z∈K,z=-1∨0≤z:=by
 induction K generalizing nx with
 | nil=>simp
 | cons y t ih =>
  intro z hz
  rw[List.mem_cons] at hz
  rcases h with ⟨rfl,h⟩ | ⟨hy,h1,h2,h3⟩
  ·rcases hz with rfl | hz
   ·exact .inl rfl
   ·exact ih h h0 z hz
  ·rcases hz with rfl | hz
   ·right;omega
   ·exact ih h3 (by omega) z hz
end

section
section
variable {x y:List Ch} {n m k:Int}
end
end

end Go.Proofs.Ytcnjephlmcnodaa

/- Going back, what a script costs, and what it reaches: plain mathematics. -/
namespace Go.Proofs.Ytcnjephlmcnodaa
end Go.Proofs.Ytcnjephlmcnodaa

namespace Go.Proofs.Ytcnjephlmcnodaa

section
structure Mk where
 sg:Int
 tx:List UInt8
structure Hk where
 A:Int
 AN:Int
 B:Int
 BN:Int
 ls:List Mk
def okS (s:Int):Bool:=decide (s=32) || decide (s=45) || decide (s=43)
def pkL (no:Int):List Mk→List (List UInt8)
 | []=>[]
 | m::l=>if m.sg≠no∧okS m.sg=true then m.tx::pkL no l else pkL no l
def oldL (h:Hk):List (List UInt8):=pkL 43 h.ls
def newL (h:Hk):List (List UInt8):=pkL 45 h.ls
def mks (s:Int) (x:List (List UInt8)):List Mk:=x.map fun t=>⟨s,t⟩
def bodyH (a b:List (List UInt8)) (e:Int):Int→List Ch→List Mk
 | p,[]=>mks 32 (cut a p (e-p))
 | p,c::g=>mks 32 (cut a p (c.A-p))++(mks 45 (cut a c.A c.AN)++(mks 43 (cut b c.B c.BN)++bodyH a b e (c.A+c.AN) g))
def cntH (a b:Int) (ls:List Mk):Hk:=⟨if 0<(pkL 43 ls).length then a+1 else a,(pkL 43 ls).length,if 0<(pkL 45 ls).length then b+1 else b,(pkL 45 ls).length,ls⟩
def endH (n ctx:Int):List Ch→Int
 | []=>0
 | [c]=>min n (c.A+c.AN+ctx)
 | _::d::g=>endH n ctx (d::g)
def oneH (a b:List (List UInt8)) (ctx:Int) (g:List Ch):Hk:=match g with
 | []=>⟨0,0,0,0,[]⟩
 | f::g=>cntH (f.A-min ctx f.A) (f.B-min ctx f.A) (bodyH a b (endH a.length ctx (f::g)) (f.A-min ctx f.A) (f::g))
def linB (s:List UInt8):Bool:=!s.isEmpty && s.dropLast.all fun c=>c != 10
def fdB (s:List UInt8):Bool:=s.getLast? == some 10
def lstB (sg:Int) (l:List Mk):Bool:=l.all fun m=>decide (m.sg≠sg) && decide (m.sg≠32)
def fldB:List Mk→Bool
 | []=>true
 | m::l=>linB m.tx && okS m.sg && (fdB m.tx || ((decide (m.sg=43) || lstB 45 l) && (decide (m.sg=45) || lstB 43 l))) && fldB l
def rngB (h:Hk):Bool:=nat31 h.A && nat31 h.AN && nat31 h.B && nat31 h.BN && !(decide (h.A=0) && decide (0<h.AN)) && !(decide (h.B=0) && decide (0<h.BN))
def chkH (h:Hk):Int:=if rngB h=false then 2 else if fldB h.ls=false then 6 else if h.AN≠(oldL h).length∨h.BN≠(newL h).length then 120 else if h.ls.all (fun m=>decide (m.sg=32))=true then 50 else 0
end

section
def AllS (s:Int) (x:List Mk):Prop:=∀ m∈x,m.sg=s
theorem AllS.nil (s:Int):AllS s []:=fun _ h=>by cases h
def Nf:Bool→List Mk→Prop
 | _,[]=>True
 | s,m::l=>if m.sg=45 then s=false∧Nf false l else if m.sg=43 then Nf true l else Nf false l
end

section
theorem ZaR {A:List (List UInt8)} {p k:Int} (hp:0≤p) (hk:0≤k) (h:p+k≤A.length):((cut A p k).length:Int)=k:=by
 simp only[cut,List.length_take,List.length_drop]
 omega
def endA:Int→List Ch→Int
 | p,[]=>p
 | _,c::g=>endA (c.A+c.AN) g
def endB:Int→List Ch→Int
 | q,[]=>q
 | _,c::g=>endB (c.B+c.BN) g
structure OneF (a b:List (List UInt8)) (ctx:Int) (g:List Ch) (s t e:Int):Prop where
 s0:0≤s
 t0:0≤t
 en:e≤a.length
 em:endB 0 g+(e-endA 0 g)≤b.length
 le:endA 0 g≤e
 se:s≤e
 AN:(oneH a b ctx g).AN=e-s
 BN:(oneH a b ctx g).BN=endB 0 g+(e-endA 0 g)-t
 A:(oneH a b ctx g).A=if 0<e-s then s+1 else s
 B:(oneH a b ctx g).B=if 0<endB 0 g+(e-endA 0 g)-t then t+1 else t
 old:oldL (oneH a b ctx g)=cut a s (e-s)
 ls:(oneH a b ctx g).ls=bodyH a b e s g
end

end Go.Proofs.Ytcnjephlmcnodaa

/- Hunks that are made of two texts, further: in order, right, the script again, their kinds of lines; plain mathematics. -/
namespace Go.Proofs.Ytcnjephlmcnodaa
end Go.Proofs.Ytcnjephlmcnodaa

/- Each group of a right script, and its hunk; how many lines it has; plain mathematics. -/
namespace Go.Proofs.Ytcnjephlmcnodaa
end Go.Proofs.Ytcnjephlmcnodaa

/- What the statements on hunks of two texts ask, in plain terms. -/
namespace Go.Proofs.Ytcnjephlmcnodaa
end Go.Proofs.Ytcnjephlmcnodaa

namespace Go.Proofs.Ytcnjephlmcnodaa

section
open Go.RowKit
theorem ret_bool {a b:Bool} (h:a=b):Ending.returned (.bool a)=.returned (.bool b):=by rw[h]
theorem ret_int {k:IntKind} {a b:Int} (h:a=b):Ending.returned (.int k a)=.returned (.int k b):=by rw[h]
theorem Zbp (c:Ch) (w:World):Calls Try.prog 19 #[chV c] w fun e w'=>e=.returned (.bool (numB c))∧Below w.heap.size w w':=by
 obtain⟨A,AN,B,BN⟩:=c
 unfold chV
 dsimp only
 have hB:Below w.heap.size w (w.alloc (.cells #[.int .i64 A,.int .i64 AN,.int .i64 B,.int .i64 BN] 48)):=(Below.refl _ w).alloc (Nat.le_refl _) _
 obtain⟨b,hb⟩:∃ b,numB ⟨A,AN,B,BN⟩=b:=⟨_,rfl⟩
 rw[hb]
 have Hb:Hid (numB ⟨A,AN,B,BN⟩=b):=hb
 clear hb
 have i0:∀ w,(Instr.index 55 (.agg #[.int .i64 A,.int .i64 AN,.int .i64 B,.int .i64 BN]) (.int .i64 0)).run Try.prog w=.ok (.int .i64 A) w:=fun _=>by kernel_rfl
 have i1:∀ w,(Instr.index 55 (.agg #[.int .i64 A,.int .i64 AN,.int .i64 B,.int .i64 BN]) (.int .i64 1)).run Try.prog w=.ok (.int .i64 AN) w:=fun _=>by kernel_rfl
 have i2:∀ w,(Instr.index 55 (.agg #[.int .i64 A,.int .i64 AN,.int .i64 B,.int .i64 BN]) (.int .i64 2)).run Try.prog w=.ok (.int .i64 B) w:=fun _=>by kernel_rfl
 have i3:∀ w,(Instr.index 55 (.agg #[.int .i64 A,.int .i64 AN,.int .i64 B,.int .i64 BN]) (.int .i64 3)).run Try.prog w=.ok (.int .i64 BN) w:=fun _=>by kernel_rfl
 go_enter Try.func19,Try.ntmps19
 go_wp2
 go_loopw [14] (fun i wr=>∃ k:Nat,k≤4∧i=.int .i64 k∧wr=w.alloc (.cells #[.int .i64 A,.int .i64 AN,.int .i64 B,.int .i64 BN] 48)∧Hid ((0<k→(0≤A∧A≤2147483647))∧(1<k→(0≤AN∧AN≤2147483647))∧(2<k→(0≤B∧B≤2147483647))∧(3<k→(0≤BN∧BN≤2147483647)))) (fun i _=>4-(intOf i).toNat)
 case atStart=>exact⟨0,Nat.zero_le _,rfl,rfl,(⟨fun h=>absurd h (by omega),fun h=>absurd h (by omega),fun h=>absurd h (by omega),fun h=>absurd h (by omega)⟩)⟩
 case round =>
  obtain⟨k,hk,rfl,rfl,hok⟩:=hrel
  rcases (by omega:k=0∨k=1∨k=2∨k=3∨k=4) with rfl | rfl | rfl | rfl | rfl
  ·by_cases h0:A<0
   ·go_wp2
    go_ret
    refine⟨ret_bool ?_,hB⟩
    rw[← Hb.out]
    simp[numB,nat31]
    omega
   ·by_cases h1:2147483647<A
    ·go_wp2
     go_ret
     refine⟨ret_bool ?_,hB⟩
     rw[← Hb.out]
     simp[numB,nat31]
     omega
    ·go_wp2
     go_roundw
     case rel=>exact⟨1,by omega,by go_num,trivial,(by have:=hok.out;show _∧_∧_∧_;refine⟨?_,?_,?_,?_⟩<;>intro _<;>omega)⟩
     case measure=>simp[intOf]
  ·by_cases h0:AN<0
   ·go_wp2
    go_ret
    refine⟨ret_bool ?_,hB⟩
    rw[← Hb.out]
    simp[numB,nat31]
    omega
   ·by_cases h1:2147483647<AN
    ·go_wp2
     go_ret
     refine⟨ret_bool ?_,hB⟩
     rw[← Hb.out]
     simp[numB,nat31]
     omega
    ·go_wp2
     go_roundw
     case rel=>exact⟨2,by omega,by go_num,trivial,(by have:=hok.out;show _∧_∧_∧_;refine⟨?_,?_,?_,?_⟩<;>intro _<;>omega)⟩
     case measure=>simp[intOf]
  ·by_cases h0:B<0
   ·go_wp2
    go_ret
    refine⟨ret_bool ?_,hB⟩
    rw[← Hb.out]
    simp[numB,nat31]
    omega
   ·by_cases h1:2147483647<B
    ·go_wp2
     go_ret
     refine⟨ret_bool ?_,hB⟩
     rw[← Hb.out]
     simp[numB,nat31]
     omega
    ·go_wp2
     go_roundw
     case rel=>exact⟨3,by omega,by go_num,trivial,(by have:=hok.out;show _∧_∧_∧_;refine⟨?_,?_,?_,?_⟩<;>intro _<;>omega)⟩
     case measure=>simp[intOf]
  ·by_cases h0:BN<0
   ·go_wp2
    go_ret
    refine⟨ret_bool ?_,hB⟩
    rw[← Hb.out]
    simp[numB,nat31]
    omega
   ·by_cases h1:2147483647<BN
    ·go_wp2
     go_ret
     refine⟨ret_bool ?_,hB⟩
     rw[← Hb.out]
     simp[numB,nat31]
     omega
    ·go_wp2
     go_roundw
     case rel=>exact⟨4,by omega,by go_num,trivial,(by have:=hok.out;show _∧_∧_∧_;refine⟨?_,?_,?_,?_⟩<;>intro _<;>omega)⟩
     case measure=>simp[intOf]
  ·have hok':=hok.out
   by_cases h0:0<AN
   ·go_wp2
    go_ret
    refine⟨ret_bool ?_,hB⟩
    rw[← Hb.out]
    simp[numB,nat31]
    omega
   ·by_cases h1:0<BN
    ·go_wp2
     go_ret
     refine⟨ret_bool ?_,hB⟩
     rw[← Hb.out]
     simp[numB,nat31]
     omega
    ·go_wp2
     go_ret
     refine⟨ret_bool ?_,hB⟩
     rw[← Hb.out]
     simp[numB,nat31]
     omega
theorem Zaa (l:List Ch) (n m r:Int) (v:Value) (w:World) (hl:HCh w v l) (hlen:l.length≤1099511627776) (hn:n≤9223372036854775807) (hm:m≤9223372036854775807) (hr:Hid (chk l n m=r)) :
  Calls Try.prog 6 #[v,.int .i64 n,.int .i64 m] w fun e w'=>e=.returned (.int .i64 r)∧Below w.heap.size w w':=by
 obtain⟨ao,ca,rfl⟩:=Holds.form hl
 by_cases hn0:n<0
 ·go_enter Try.func6,Try.ntmps6
  go_wp2
  go_ret
  refine⟨ret_int ?_,Below.refl _ w⟩
  rw[← hr.out,Zar (fun h=>by have:=h.1;omega)]
 by_cases hm0:m<0
 ·go_enter Try.func6,Try.ntmps6
  go_wp2
  go_ret
  refine⟨ret_int ?_,Below.refl _ w⟩
  rw[← hr.out,Zar (fun h=>by have:=h.2.1;omega)]
 go_enter Try.func6,Try.ntmps6
 go_wp2
 go_loopw [7,8,19] (fun av bv iv wr=>∃ (k:Nat) (a b:Int),k≤l.length∧av=.int .i64 a∧bv=.int .i64 b∧iv=.int .i64 k∧0≤a∧a≤n∧0≤b∧b≤m∧Below w.heap.size w wr∧Hid (Script l n m↔Right (decide (k=0)) a b n m (l.drop k))) (fun _ _ iv _=>l.length-(intOf iv).toNat)
 case atStart=>exact⟨0,0,0,Nat.zero_le _,rfl,rfl,rfl,by omega,by omega,by omega,by omega,Below.refl _ w,(by show _↔_;simp only[Script,List.drop_zero,decide_true];constructor;exact fun h=>h.2.2;exact fun h=>⟨by omega,by omega,h⟩)⟩
 case round =>
  obtain⟨k,a,b,hk,rfl,rfl,rfl,ha,han,hb,hbm,hB,hR⟩:=hrel
  by_cases hlt:k<l.length
  ·obtain⟨bk,off,rfl,hbk,hc⟩:=HCh.at (HCh.keep hl hB (Nat.le_refl _)) (by omega)
   obtain⟨c0,c1,c2,c3⟩:=hc k hlt
   have hR':=hR.out
   rw[List.drop_eq_getElem_cons hlt] at hR'
   obtain⟨c,hcd⟩:∃ c,l[k]=c:=⟨_,rfl⟩
   rw[hcd] at hR' c0 c1 c2 c3
   clear hc hcd hR
   have HR:Hid (Script l n m↔Right (decide (k=0)) a b n m (c::l.drop (k+1))):=hR'
   clear hR'
   have i1:0≤(k:Int):=by omega
   have i2:(k:Int)<(l.length:Int):=by omega
   obtain⟨A,AN,B,BN⟩:=c
   dsimp only at c0 c1 c2 c3
   have hsz:=hB.size
   go_wp2_with fail
   have hB1:Below w.heap.size w (wr.alloc (Obj.cells #[Value.int IntKind.i64 A,Value.int IntKind.i64 AN,Value.int IntKind.i64 B,Value.int IntKind.i64 BN] 48)):=hB.alloc hsz _
   refine (Zbp ⟨A,AN,B,BN⟩ _).mono ?_
   rintro e w1 ⟨rfl,hb1⟩
   have hB2:Below w.heap.size w w1:=hB1.trans (hb1.mono (by simp;omega))
   have hbox:=hb1.block wr.heap.size (by simp)
   rw[_root_.Go.heap_alloc_new] at hbox
   have d0:w1.cell? ⟨wr.heap.size,0,none⟩=some (.int .i64 A):=by rw[Lib.cell_of_heap hbox];rfl
   have d1:w1.cell? ⟨wr.heap.size,1,none⟩=some (.int .i64 AN):=by rw[Lib.cell_of_heap hbox];rfl
   have d2:w1.cell? ⟨wr.heap.size,2,none⟩=some (.int .i64 B):=by rw[Lib.cell_of_heap hbox];rfl
   have d3:w1.cell? ⟨wr.heap.size,3,none⟩=some (.int .i64 BN):=by rw[Lib.cell_of_heap hbox];rfl
   clear hbox c0 c1 c2 c3 hb1 hB1 hB
   by_cases hq:numB ⟨A,AN,B,BN⟩=true
   ·rw[hq]
    have HQ:Hid (numB ⟨A,AN,B,BN⟩=true):=hq
    rw[Zbo] at hq
    dsimp only at hq
    obtain⟨⟨hA0,hA1⟩,⟨hAN0,hAN1⟩,⟨hB0,hB1⟩,⟨hBN0,hBN1⟩,hpos⟩:=hq
    by_cases h1:A-a=B-b
    ·by_cases h2:AN > n-A
     ·go_wp2_with fail
      go_ret
      refine⟨ret_int ?_,hB2⟩
      rw[← hr.out,Zar]
      exact fun h=>by have h5:=HR.out.1 h;obtain⟨⟨q1,q2,q3,q4⟩,q5⟩:=h5;have q6:=q5.le;dsimp only at q6;omega
     by_cases h3:BN > m-B
     ·go_wp2_with fail
      go_ret
      refine⟨ret_int ?_,hB2⟩
      rw[← hr.out,Zar]
      exact fun h=>by have h5:=HR.out.1 h;obtain⟨⟨q1,q2,q3,q4⟩,q5⟩:=h5;have q6:=q5.le;dsimp only at q6;omega
     by_cases h4:A<a
     ·go_wp2_with fail
      go_ret
      refine⟨ret_int ?_,hB2⟩
      rw[← hr.out,Zar]
      exact fun h=>by have h5:=HR.out.1 h;obtain⟨⟨q1,q2,q3,q4⟩,q5⟩:=h5;have q6:=q5.le;dsimp only at q3;omega
     by_cases h5:A=a
     ·by_cases h6:0<(k:Int)
      ·go_wp2_with fail
       go_ret
       refine⟨ret_int ?_,hB2⟩
       rw[← hr.out,Zar]
       exact fun h=>by
        obtain⟨⟨q1,q2,q3,q4⟩,q5⟩:=HR.out.1 h
        rcases q4 with q4 | q4
        ·have:=of_decide_eq_true q4;omega
        ·dsimp only at q4;omega
      ·go_wp2_with fail
       go_quiet (fail)
       go_wp2
       go_roundw
       case rel=>exact⟨k+1,A+AN,B+BN,by omega,by go_num,by go_num,by go_num,by omega,by omega,by omega,by omega,Below.dN hB2 _,(by
        show _↔_
        refine HR.out.trans ?_
        have:decide (k+1=0)=false:=by simp
        rw[this]
        exact⟨fun h=>h.2,fun h=>⟨⟨HQ.out,h1,by dsimp only;omega,.inl (decide_eq_true (by omega))⟩,h⟩⟩)⟩
       case measure=>simp[intOf];omega
     ·go_wp2_with fail
      go_quiet (fail)
      go_wp2
      go_roundw
      case rel=>exact⟨k+1,A+AN,B+BN,by omega,by go_num,by go_num,by go_num,by omega,by omega,by omega,by omega,Below.dN hB2 _,(by
        show _↔_
        refine HR.out.trans ?_
        have:decide (k+1=0)=false:=by simp
        rw[this]
        exact⟨fun h=>h.2,fun h=>⟨⟨HQ.out,h1,by dsimp only;omega,.inr (by dsimp only;omega)⟩,h⟩⟩)⟩
      case measure=>simp[intOf];omega
    ·go_wp2_with fail
     go_ret
     refine⟨ret_int ?_,hB2⟩
     rw[← hr.out,Zar]
     exact fun h=>by have h5:=HR.out.1 h;obtain⟨⟨q1,q2,q3,q4⟩,q5⟩:=h5;have q6:=q5.le;dsimp only at q2;omega
   ·have hq':numB ⟨A,AN,B,BN⟩=false:=by simpa using hq
    have HQ:Hid (numB ⟨A,AN,B,BN⟩=false):=hq'
    rw[hq']
    clear hq hq'
    go_wp2_with fail
    go_ret
    refine⟨ret_int ?_,hB2⟩
    rw[← hr.out,Zar]
    exact fun h=>by
     obtain⟨⟨q1,q2,q3,q4⟩,q5⟩:=HR.out.1 h
     rw[HQ.out] at q1
     cases q1
  ·by_cases he:n-a=m-b
   ·go_wp2
    go_ret
    refine⟨ret_int ?_,hB⟩
    rw[← hr.out,Zas]
    have:=hR.out
    rw[List.drop_of_length_le (by omega)] at this
    exact this.2 ⟨han,hbm,he⟩
   ·go_wp2
    go_ret
    refine⟨ret_int ?_,hB⟩
    rw[← hr.out,Zar]
    have:=hR.out
    rw[List.drop_of_length_le (by omega)] at this
    exact fun h=>he (this.1 h).2.2
end

section
open Go.RowKit Go.Shelf
attribute [local go_sem] Oper.semAt_some
structure Kp (n₀ lo:Nat) (W W':World):Prop where
 low:Below n₀ W W'
 box:∀ k,lo≤k→k<lo+3→W'.heap[k]?=W.heap[k]?
 chg:∀ (k:Nat) (cs:Array Value),W.heap[k]?=some (Obj.cells cs 48 (0,0))→W'.heap[k]?=some (Obj.cells cs 48 (0,0))
section
variable {n₀ lo:Nat} {A B C:World}
theorem Kp.refl (W:World):Kp n₀ lo W W:=⟨Below.refl _ _,fun _ _ _=>rfl,fun _ _ h=>h⟩
theorem Kp.trans (h:Kp n₀ lo A B) (k:Kp n₀ lo B C):Kp n₀ lo A C:=⟨h.low.trans k.low,fun j h1 h2=>(k.box j h1 h2).trans (h.box j h1 h2),fun j cs hj=>k.chg j cs (h.chg j cs hj)⟩
theorem Kp.alloc {W:World} (hn:n₀≤W.heap.size) (hl:lo+3≤W.heap.size) (o:Obj):Kp n₀ lo W (W.alloc o) :=
 ⟨(Below.refl _ W).alloc hn o,fun k _ hk=>Below.heap_alloc W o k (by omega),fun k cs hk=>(Below.heap_alloc W o k (Array.getElem?_eq_some_iff.1 hk).1).trans hk⟩
theorem Kp.drewN (W:World) (k:Nat):Kp n₀ lo W (W.drewN k):=⟨Below.dN (Below.refl _ W) k,fun _ _ _=>rfl,fun _ _ h=>h⟩
end
theorem HCh.lt {w:World} {ao:Option Addr} {n c:Nat} {l:List Ch} (h:HCh w (.slice ao n c) l) (a:Addr) (ha:ao=some a) (h0:0<l.length):a.block<w.heap.size:=by
 obtain⟨b,off,hb,hlt,_⟩:=HCh.at h h0
 rw[ha] at hb
 cases hb
 exact hlt
end

section
open Go.RowKit Go.Shelf
attribute [local go_sem] Oper.semAt_some
structure OwnR (n₀ lo B:Nat) (t e:TypeId) (s:Nat) (v:Value) (k:Nat) (xs:List Value) (W:World):Prop where
 box:Boxed W B t v
 row:W.ownsRow n₀ e s v k xs
 far:∀ g,v.ownBlock=some g→g<lo∨lo+3≤g
section
variable {n₀ lo B:Nat} {t e:TypeId} {s:Nat} {v:Value} {k:Nat} {xs:List Value} {W:World}
theorem OwnR.alloc (h:OwnR n₀ lo B t e s v k xs W) (o:Obj):OwnR n₀ lo B t e s v k xs (W.alloc o):=⟨h.box.alloc o,h.row.alloc o,h.far⟩
end
end

section
open Go.RowKit Go.Shelf
attribute [local go_sem] Oper.semAt_some
end

section
open Go.RowKit
theorem Zbs {w:World} {base:Nat} {e:TypeId} {s:Nat} {v:Value} {n:Nat} {xs:List Value} (h:w.ownsRow base e s v n xs) {j:Nat} (hj:v.ownBlock=some j):base≤j:=by
 rcases h.2 with ⟨rfl,_⟩ | ⟨g,cap,cur,rfl,hb,_⟩
 ·cases hj
 ·simp[Value.ownBlock] at hj;omega
def Low (W w:World):Prop:=Below W.heap.size W w
theorem Zbf (W w:World):Low W w.drew↔Low W w:=⟨fun h=>⟨h.os,h.tape,h.output,h.size,h.block⟩,fun h=>Below.dN h 1⟩
structure St (W:World) (e:TypeId) (s:Nat) (v:Value) (k:Nat) (xs:List Value) (w:World):Prop where
 own:w.ownsRow W.heap.size e s v k xs
 low:Below W.heap.size W w
theorem ZbI (W:World) (e:TypeId) (s:Nat) (v:Value) (k:Nat) (xs:List Value) (w:World):St W e s v k xs w.drew↔St W e s v k xs w :=
 ⟨fun h=>⟨h.own,⟨h.low.os,h.low.tape,h.low.output,h.low.size,h.low.block⟩⟩,fun h=>⟨h.own,Below.dN h.low 1⟩⟩
theorem St.grown {W:World} {e:TypeId} {s:Nat} {v v':Value} {k k':Nat} {xs xs':List Value} {w w':World} (h:St W e s v k xs w) (ho:w'.ownsRow W.heap.size e s v' k' xs') (hg:w.grownBy w' v.ownBlock):St W e s v' k' xs' w' :=
 ⟨ho,h.low.grown hg h.low.size (fun _ hj=>Zbs h.own hj)⟩
end

section
open Go.RowKit
attribute [local simp] Zbf
end

section
open Go.RowKit
theorem ZbJ {b:Bool} {X Y:Prop} (h:b=true) (hX:X):if b=true then X else Y:=by
 rw[if_pos h]
 exact hX
theorem Zct {b:Bool} {X Y:Prop} (h:b=false) (hY:Y):if b=true then X else Y:=by
 rw[if_neg (by rw[h];exact Bool.false_ne_true)]
 exact hY
theorem ZaQ {P:Program} {S:World→Prop} {md:Region.Mode} {ops:Array Oper} {Q:Exit→Act→World→Prop} {fuel:Nat} {listed:Array Bool} {A:Act} {w:World}
  (i d:Nat) (op:Oper) (v:Value) (hi:ops[i]?=some op) (hd:op.dst=some d) (hs:Region.noSelect ops=true) (hf:Region.free md ops listed i=true) (hr:(Region.ready md ops listed).contains i=true)
  (hQ:∀ c a w,Q (.panic c) (a.put op.dst v) w→Q (.panic c) a w) (hy:YieldsIf P ops S op v A) (hS:S w)
  (h:wpAnyH P md ops Q S fuel (listed.setIfInBounds i true) (A.put (some d) v) w):wpAnyH P md ops Q S (fuel+1) listed A w :=
 wpAnyH_take hi hs hf hr hQ hy hS (by rw[hd];exact h)
theorem Zcq {P:Program} {S:World→Prop} {md:Region.Mode} {ops:Array Oper} {Q:Exit→Act→World→Prop} {fuel:Nat} {listed:Array Bool} {A:Act} {w:World}
  (i d:Nat) (op:Oper) (hi:ops[i]?=some op) (hd:op.dst=some d) (hr:Region.ready md ops listed=[i]) (hwt:Region.wanted op (yielded ops A.tmps)=false) (hS:S w)
  (h:wpAnyH P md ops Q S fuel (listed.setIfInBounds i true) (A.put (some d) undef) w) :
  wpAnyH P md ops Q S (fuel+1) listed A w:=by
 refine wpAnyH_ready hr (by simp) (AllReadyH.cons hi (fun K hK=>?_) AllReadyH.nil)
 refine Zct hwt ?_
 exact hK.out _ _ hS (fun _=>by rw[hd];exact h)
theorem Zcp {P:Program} {S:World→Prop} {md:Region.Mode} {ops:Array Oper} {Q:Exit→Act→World→Prop} {fuel:Nat} {listed:Array Bool} {A:Act} {w:World}
  (i d:Nat) (op:Oper) (hi:ops[i]?=some op) (hd:op.dst=some d) (hr:Region.ready md ops listed=[i]) (hwt:Region.wanted op (yielded ops A.tmps)=true)
  (F:Nat) (xs:Array Operand) (ts:Array TypeId) (ho:op.op=.call { callee:=.value (.func F),args:=xs,argTypes:=ts })
  (args:Array Value) (hx:xs.map A.eval=args) (hen:∀ args w,(callFunc F args).run P w=.ok (.enter F args) w) (v:Value)
  (hc:Calls P F args w fun e w'=>e=.returned v∧S w')
  (h:∀ w',S w'→wpAnyH P md ops Q S fuel (listed.setIfInBounds i true) (A.put (some d) v) w') :
  wpAnyH P md ops Q S (fuel+1) listed A w:=by
 refine wpAnyH_ready hr (by simp) (AllReadyH.cons hi (fun K hK=>?_) AllReadyH.nil)
 refine ZbJ hwt ?_
 unfold Oper.wp
 have e:(execOp A.eval op).run P w=.ok (.enter F args) w:=by
  have h1:=hen args w
  simp only[execOp,ho,resolve,invoke]
  have h2:A.eval (.func F)=.func (.func F) #[] #[]:=rfl
  simp only[h2,Deferred.ofValue,Sem.run_bind,Sem.run_pure,Result.andThen_ok,hx,Array.append_empty,Array.empty_append]
  exact h1
 rw[e,Oper.upon_enter]
 refine hc.mono ?_
 rintro e w' ⟨rfl,hb⟩
 exact hK.out _ _ hb (fun hu=>by rw[hd];exact h w' hu)
theorem ZaP {P:Program} {S:World→Prop} {md:Region.Mode} {ops:Array Oper} {Q:Exit→Act→World→Prop} {fuel:Nat} {listed:Array Bool} {A:Act} {w:World}
  (i d:Nat) (op:Oper) (hi:ops[i]?=some op) (hd:op.dst=some d) (hr:Region.ready md ops listed=[i]) (hwt:Region.wanted op (yielded ops A.tmps)=true)
  (F:Nat) (x:Operand) (xs:Array Operand) (ts:Array TypeId) (ho:op.op=.call { callee:=.value x,args:=xs,argTypes:=ts })
  (cap:Array Value) (hxv:A.eval x=.func (.func F) #[] cap) (args:Array Value) (hx:xs.map A.eval=args) (hen:∀ args w,(callFunc F args).run P w=.ok (.enter F args) w) (R:Value→World→Prop)
  (hc:Calls P F (args++cap) w fun e w'=>∃ v,e=.returned v∧S w'∧R v w')
  (h:∀ v w',S w'→R v w'→wpAnyH P md ops Q S fuel (listed.setIfInBounds i true) (A.put (some d) v) w') :
  wpAnyH P md ops Q S (fuel+1) listed A w:=by
 refine wpAnyH_ready hr (by simp) (AllReadyH.cons hi (fun K hK=>?_) AllReadyH.nil)
 refine ZbJ hwt ?_
 unfold Oper.wp
 have e:(execOp A.eval op).run P w=.ok (.enter F (args++cap)) w:=by
  have h1:=hen (args++cap) w
  simp only[execOp,ho,resolve,invoke]
  simp only[hxv,Deferred.ofValue,Sem.run_bind,Sem.run_pure,Result.andThen_ok,hx,Array.empty_append]
  exact h1
 rw[e,Oper.upon_enter]
 refine hc.mono ?_
 rintro e w' ⟨v,rfl,hb,hR⟩
 exact hK.out _ _ hb (fun hu=>by rw[hd];exact h v w' hu hR)
theorem Zcs {P:Program} {S:World→Prop} {md:Region.Mode} {ops:Array Oper} {Q:Exit→Act→World→Prop} {fuel:Nat} {listed:Array Bool} {A:Act} {w:World}
  (i d:Nat) (op:Oper) (hi:ops[i]?=some op) (hd:op.dst=some d) (hr:Region.ready md ops listed=[i]) (hwt:Region.wanted op (yielded ops A.tmps)=true)
  (v:Value) (w':World) (he:(execOp A.eval op).run P w=.ok (.value v) w') (hS:S w')
  (h:wpAnyH P md ops Q S fuel (listed.setIfInBounds i true) (A.put (some d) v) w') :
  wpAnyH P md ops Q S (fuel+1) listed A w:=by
 refine wpAnyH_ready hr (by simp) (AllReadyH.cons hi (fun K hK=>?_) AllReadyH.nil)
 refine ZbJ hwt ?_
 unfold Oper.wp
 rw[he,Oper.upon_value]
 exact hK.out _ _ hS (fun _=>by rw[hd];exact h)
theorem Zcr {P:Program} {S:World→Prop} {md:Region.Mode} {ops:Array Oper} {Q:Exit→Act→World→Prop} {fuel:Nat} {listed:Array Bool} {A:Act} {w:World}
  (i:Nat) (op:Oper) (hi:ops[i]?=some op) (hd:op.dst=none) (hr:Region.ready md ops listed=[i]) (hwt:Region.wanted op (yielded ops A.tmps)=true)
  (w':World) (he:(execOp A.eval op).run P w=.ok .skip w') (hS:S w')
  (h:wpAnyH P md ops Q S fuel (listed.setIfInBounds i true) A w') :
  wpAnyH P md ops Q S (fuel+1) listed A w:=by
 refine wpAnyH_ready hr (by simp) (AllReadyH.cons hi (fun K hK=>?_) AllReadyH.nil)
 refine ZbJ hwt ?_
 unfold Oper.wp
 rw[he,Oper.upon_skip]
 exact hK.out _ _ hS (fun _=>by rw[hd];exact h)
theorem Zbe {u:World} {a:Addr} {z:Int} (h:u.cell? a=some (.int .i64 z)) {op:Oper} (x:Operand) (ho:op.op=.load 3 x) {ev:Operand→Value} (hx:ev x=.pointer (some a)) :
  (execOp ev op).run Try.prog u=.ok (.value (.int .i64 z)) u:=by
 simp only[execOp,ho,hx]
 go_simp
theorem Y_t {P:Program} {S:World→Prop} {md:Region.Mode} {ops:Array Oper} {Q:Exit→Act→World→Prop} {fuel:Nat} {listed:Array Bool} {A:Act} {w:World} (i d:Nat) (op:Oper) (v:Value) (hi:ops[i]?=some op) (hy:YieldsIf P ops S op v A) (hS:S w) (h:wpAnyH P md ops Q S fuel (listed.setIfInBounds i true) (A.put (some d) v) w) (hd:op.dst=some d:=by kernel_rfl) (hs:Region.noSelect ops=true:=by kernel_rfl) (hf:Region.free md ops listed i=true:=by kernel_rfl) (hr:(Region.ready md ops listed).contains i=true:=by kernel_rfl) (hQ:∀c a w,Q (.panic c) (a.put op.dst v) w→Q (.panic c) a w:=by exact fun _ _ _ h=>h):wpAnyH P md ops Q S (fuel+1) listed A w:=ZaQ i d op v hi hd hs hf hr hQ hy hS h
theorem Y_v {P:Program} {S:World→Prop} {md:Region.Mode} {ops:Array Oper} {Q:Exit→Act→World→Prop} {fuel:Nat} {listed:Array Bool} {A:Act} {w:World} (i d:Nat) (op:Oper) (hi:ops[i]?=some op) (v:Value) (w':World) (he:(execOp A.eval op).run P w=.ok (.value v) w') (hS:S w') (h:wpAnyH P md ops Q S fuel (listed.setIfInBounds i true) (A.put (some d) v) w') (hd:op.dst=some d:=by kernel_rfl) (hr:Region.ready md ops listed=[i]:=by kernel_rfl) (hwt:Region.wanted op (yielded ops A.tmps)=true:=by kernel_rfl):wpAnyH P md ops Q S (fuel+1) listed A w:=Zcs i d op hi hd hr hwt v w' he hS h
theorem Y_e {P:Program} {S:World→Prop} {md:Region.Mode} {ops:Array Oper} {Q:Exit→Act→World→Prop} {fuel:Nat} {listed:Array Bool} {A:Act} {w:World} (i d:Nat) (op:Oper) (hi:ops[i]?=some op) (F:Nat) (x:Operand) (xs:Array Operand) (ts:Array TypeId) (ho:op.op=.call {callee:=.value x,args:=xs,argTypes:=ts}) (cap:Array Value) (hxv:A.eval x=.func (.func F) #[] cap) (args:Array Value) (hx:xs.map A.eval=args) (hen:∀args w,(callFunc F args).run P w=.ok (.enter F args) w) (R:Value→World→Prop) (hc:Calls P F (args++cap) w fun e w'=>∃v,e=.returned v∧S w'∧R v w') (h:∀v w',S w'→R v w'→wpAnyH P md ops Q S fuel (listed.setIfInBounds i true) (A.put (some d) v) w') (hd:op.dst=some d:=by kernel_rfl) (hr:Region.ready md ops listed=[i]:=by kernel_rfl) (hwt:Region.wanted op (yielded ops A.tmps)=true:=by kernel_rfl):wpAnyH P md ops Q S (fuel+1) listed A w:=ZaP i d op hi hd hr hwt F x xs ts ho cap hxv args hx hen R hc h
theorem Y_s {P:Program} {S:World→Prop} {md:Region.Mode} {ops:Array Oper} {Q:Exit→Act→World→Prop} {fuel:Nat} {listed:Array Bool} {A:Act} {w:World} (i:Nat) (op:Oper) (hi:ops[i]?=some op) (w':World) (he:(execOp A.eval op).run P w=.ok .skip w') (hS:S w') (h:wpAnyH P md ops Q S fuel (listed.setIfInBounds i true) A w') (hd:op.dst=none:=by kernel_rfl) (hr:Region.ready md ops listed=[i]:=by kernel_rfl) (hwt:Region.wanted op (yielded ops A.tmps)=true:=by kernel_rfl):wpAnyH P md ops Q S (fuel+1) listed A w:=Zcr i op hi hd hr hwt w' he hS h
end

end Go.Proofs.Ytcnjephlmcnodaa

/- A region that draws its order, in a round: ten operations that read, in whatever order, then the rest as the text has it. -/
namespace Go.Proofs.Ytcnjephlmcnodaa
open Go.RowKit Go.Shelf
namespace R10
def one (c:Bool):Nat:=if c then 1 else 0
end R10
end Go.Proofs.Ytcnjephlmcnodaa

namespace Go.Proofs.Ytcnjephlmcnodaa

section
open Go.RowKit Go.Shelf
open R10
attribute [local go_sem] Oper.semAt_some
theorem ZaF (A:List (List UInt8)) (i n:Int) (j:Nat) (u:Value) (h:(scells (cut A i n))[j]?=some u):(scells A)[i.toNat+j]?=some u∧j<n.toNat:=by
 simp only[scells,cut,List.getElem?_map,List.getElem?_take,List.getElem?_drop] at h ⊢
 split at h
 ·exact⟨h,by assumption⟩
 ·simp at h
theorem ZaG (A:List (List UInt8)) (i n:Int) (h0:0≤i) (h1:0≤n) (h2:i+n≤A.length):(cut A i n).length=n.toNat:=by
 simp[cut];omega
theorem ZbE (A:List (List UInt8)) (ao:Option Addr) (cap:Nat) (i n:Int) (h0:0≤i) (h1:0≤n) (h2:i+n≤A.length) (w:World) (hA:HS w (.slice ao A.length cap) A) :
  ∃ vs,(∀ u:World,(Instr.slice 23 (.slice ao A.length cap) (some (.int .i64 i)) (some (.int .i64 (i+n))) none).run Try.prog u=.ok vs u)∧(∀ u:World,HS u (.slice ao A.length cap) A→HS u vs (cut A i n)):=by
 have hnc:A.length≤cap∧(ao=none→A=[]):=by
  rcases hA with ⟨h,h3,_⟩ | ⟨ad,c,h,h3,_⟩
  ·exact⟨by omega,fun _=>List.eq_nil_of_length_eq_zero h3⟩
  ·cases h
   exact⟨h3,fun h=>by cases h⟩
 refine⟨.slice (if cap=i.toNat then ao else ao.map (·.add i.toNat)) n.toNat (cap-i.toNat),fun u=>?_,fun u hu=>?_⟩
 ·rw[run_slice_lh (P:=Try.prog) u 23 ao A.length cap (by kernel_rfl) .i64 .i64 i (i+n) h0 (by omega) (by omega)]
  have:(sizeOf (Try.prog.elem 23)).run Try.prog u=.ok 1 u:=by kernel_rfl
  rw[this]
  simp only[Result.andThen,sliced,Nat.mul_one]
  congr 2
  omega
 ·unfold HS
  rw[ZaG A i n h0 h1 h2]
  cases ao with
  | none =>
   have hA0:=hnc.2 rfl
   subst hA0
   have:i=0:=by simp at h2;omega
   subst this
   have:n=0:=by simp at h2;omega
   subst this
   refine .inl ⟨?_,rfl,by simp[cut,scells]⟩
   rcases hA with ⟨h,h3,_⟩ | ⟨ad,c,h,h3,_⟩
   ·cases h;simp
   ·cases h
  | some ad =>
   refine .inr ⟨if cap=i.toNat then ad else ad.add i.toNat,cap-i.toNat,by split<;>simp,by omega,fun j x hj=>?_⟩
   obtain⟨h4,h5⟩:=ZaF A i n j x hj
   rcases hu with ⟨h,_⟩ | ⟨ad',c,h,h3,hc⟩
   ·cases h
   ·cases h
    have:=hc _ _ h4
    rw[if_neg (by omega)]
    obtain⟨b,off,rfl⟩:=Zaf (hc 0 _ (List.getElem?_eq_getElem (by rw[ZbH];omega)))
    rw[Zae] at this
    rw[Zae,Zae,Nat.add_assoc]
    exact this
end

section
open Go.RowKit
end

section
open Go.RowKit
theorem ZaD (z:Int) (w:World):Calls Try.prog 24 #[.int .i64 z] w fun e w'=>e=.returned (.bool (nat31 z))∧w'=w:=by
 by_cases h0:0≤z
 ·by_cases h1:z≤2147483647
  ·go_enter Try.func24,Try.ntmps24
   go_wp2
   go_ret
   simp[nat31,h0,h1]
  ·go_enter Try.func24,Try.ntmps24
   go_wp2
   go_ret
   simp[nat31,h0,h1]
 ·go_enter Try.func24,Try.ntmps24
  go_wp2
  go_ret
  have:¬ 0≤z:=by omega
  simp[nat31,this]
theorem Zbv (l:List Ch) (n m r:Int) (v:Value) (w:World) (hl:HCh w v l) (hlen:l.length≤1099511627776) (hn:n≤9223372036854775807) (hm:m≤9223372036854775807) (hr:Hid (chk l n m=r)) :
  Calls Try.prog 16 #[v,.int .i64 n,.int .i64 m] w fun e w'=>e=.returned (.int .i64 r)∧Below w.heap.size w w':=by
 obtain⟨ao,ca,rfl⟩:=Holds.form hl
 by_cases hn0:n<0
 ·go_enter Try.func16,Try.ntmps16
  go_wp2
  go_ret
  refine⟨ret_int ?_,Below.refl _ w⟩
  rw[← hr.out,Zar (fun h=>by have:=h.1;omega)]
 by_cases hm0:m<0
 ·go_enter Try.func16,Try.ntmps16
  go_wp2
  go_ret
  refine⟨ret_int ?_,Below.refl _ w⟩
  rw[← hr.out,Zar (fun h=>by have:=h.2.1;omega)]
 go_enter Try.func16,Try.ntmps16
 go_wp2
 go_loopw [7,8,9] (fun av bv iv wr=>∃ (k:Nat) (a b:Int),k≤l.length∧av=.int .i64 a∧bv=.int .i64 b∧iv=.int .i64 k∧0≤a∧a≤4294967294∧0≤b∧b≤4294967294∧Below w.heap.size w wr∧Hid (Script l n m↔Right (decide (k=0)) a b n m (l.drop k))) (fun _ _ iv _=>l.length-(intOf iv).toNat)
 case atStart=>exact⟨0,0,0,Nat.zero_le _,rfl,rfl,rfl,by omega,by omega,by omega,by omega,Below.refl _ w,(by show _↔_;simp only[Script,List.drop_zero,decide_true];constructor;exact fun h=>h.2.2;exact fun h=>⟨by omega,by omega,h⟩)⟩
 case round =>
  obtain⟨k,a,b,hk,rfl,rfl,rfl,ha,han,hb,hbm,hB,hR⟩:=hrel
  by_cases hlt:k<l.length
  ·obtain⟨bk,off,rfl,hbk,hc⟩:=HCh.at (HCh.keep hl hB (Nat.le_refl _)) (by omega)
   obtain⟨c0,c1,c2,c3⟩:=hc k hlt
   have hR':=hR.out
   rw[List.drop_eq_getElem_cons hlt] at hR'
   obtain⟨c,hcd⟩:∃ c,l[k]=c:=⟨_,rfl⟩
   rw[hcd] at hR' c0 c1 c2 c3
   clear hc hcd hR
   have HR:Hid (Script l n m↔Right (decide (k=0)) a b n m (c::l.drop (k+1))):=hR'
   clear hR'
   have i1:0≤(k:Int):=by omega
   have i2:(k:Int)<(l.length:Int):=by omega
   obtain⟨A,AN,B,BN⟩:=c
   dsimp only at c0 c1 c2 c3
   have hsz:=hB.size
   have hB2:Below w.heap.size w (wr.alloc (Obj.cells #[Value.int IntKind.i64 A,Value.int IntKind.i64 AN,Value.int IntKind.i64 B,Value.int IntKind.i64 BN] 48)):=hB.alloc hsz _
   by_cases nA:nat31 A=true
   ·by_cases nAN:nat31 AN=true
    ·by_cases nB:nat31 B=true
     ·by_cases nBN:nat31 BN=true
      ·have pA:0≤A∧A≤2147483647:=by simpa [nat31] using nA
       have pAN:0≤AN∧AN≤2147483647:=by simpa [nat31] using nAN
       have pB:0≤B∧B≤2147483647:=by simpa [nat31] using nB
       have pBN:0≤BN∧BN≤2147483647:=by simpa [nat31] using nBN
       obtain⟨pA0,pA1⟩:=pA
       obtain⟨pAN0,pAN1⟩:=pAN
       obtain⟨pB0,pB1⟩:=pB
       obtain⟨pBN0,pBN1⟩:=pBN
       by_cases h0:AN+BN=0
       ·go_wp2_with (go_at_call 24;refine (ZaD _ _).mono ?_;rintro e w' ⟨rfl,rfl⟩)
        go_ret
        refine⟨ret_int ?_,hB2⟩
        rw[← hr.out,Zar]
        exact fun h=>by obtain⟨⟨q1,q2,q3,q4⟩,q5⟩:=HR.out.1 h;rw[Zbo] at q1;dsimp only at q1;omega
       have HQ:Hid (numB ⟨A,AN,B,BN⟩=true):=(by show _=_;rw[Zbo];dsimp only;omega)
       by_cases h1:A-a=B-b
       ·by_cases h4:A<a
        ·go_wp2_with (go_at_call 24;refine (ZaD _ _).mono ?_;rintro e w' ⟨rfl,rfl⟩)
         go_ret
         refine⟨ret_int ?_,hB2⟩
         rw[← hr.out,Zar]
         exact fun h=>by obtain⟨⟨q1,q2,q3,q4⟩,q5⟩:=HR.out.1 h;dsimp only at q3;omega
        by_cases h6:0<(k:Int)
        ·by_cases h5:A=a
         ·subst h5
          go_wp2_with (go_at_call 24;refine (ZaD _ _).mono ?_;rintro e w' ⟨rfl,rfl⟩)
          go_ret
          refine⟨ret_int ?_,hB2⟩
          rw[← hr.out,Zar]
          exact fun h=>by obtain⟨⟨q1,q2,q3,q4⟩,q5⟩:=HR.out.1 h;rcases q4 with q4 | q4;(have:=of_decide_eq_true q4;omega);(dsimp only at q4;omega)
         ·have h5a:a<A:=by omega
          have h5b:decide (A=a)=false:=decide_eq_false h5
          have h5c:(A == a)=false:=by simpa using h5
          go_wp2_with (go_at_call 24;refine (ZaD _ _).mono ?_;rintro e w' ⟨rfl,rfl⟩)
          go_roundw
          case rel=>exact⟨k+1,A+AN,B+BN,by omega,by go_num,by go_num,by go_num,by omega,by omega,by omega,by omega,hB2,(by
           show _↔_
           refine HR.out.trans ?_
           have:decide (k+1=0)=false:=by simp
           rw[this]
           exact⟨fun h=>h.2,fun h=>⟨⟨HQ.out,h1,by dsimp only;omega,.inr (by dsimp only;omega)⟩,h⟩⟩)⟩
          case measure=>simp[intOf];omega
        ·go_wp2_with (go_at_call 24;refine (ZaD _ _).mono ?_;rintro e w' ⟨rfl,rfl⟩)
         go_roundw
         case rel=>exact⟨k+1,A+AN,B+BN,by omega,by go_num,by go_num,by go_num,by omega,by omega,by omega,by omega,hB2,(by
          show _↔_
          refine HR.out.trans ?_
          have:decide (k+1=0)=false:=by simp
          rw[this]
          exact⟨fun h=>h.2,fun h=>⟨⟨HQ.out,h1,by dsimp only;omega,.inl (decide_eq_true (by omega))⟩,h⟩⟩)⟩
         case measure=>simp[intOf];omega
       ·go_wp2_with (go_at_call 24;refine (ZaD _ _).mono ?_;rintro e w' ⟨rfl,rfl⟩)
        go_ret
        refine⟨ret_int ?_,hB2⟩
        rw[← hr.out,Zar]
        exact fun h=>by obtain⟨⟨q1,q2,q3,q4⟩,q5⟩:=HR.out.1 h;dsimp only at q2;omega
      ·rw[Bool.not_eq_true] at nBN
       go_wp2_with (go_at_call 24;refine (ZaD _ _).mono ?_;rintro e w' ⟨rfl,rfl⟩)
       go_ret
       refine⟨ret_int ?_,hB2⟩
       rw[← hr.out,Zar]
       exact fun h=>by obtain⟨⟨q1,q2,q3,q4⟩,q5⟩:=HR.out.1 h;rw[Zbo] at q1;dsimp only at q1;simp[nat31] at nBN;omega
     ·rw[Bool.not_eq_true] at nB
      go_wp2_with (go_at_call 24;refine (ZaD _ _).mono ?_;rintro e w' ⟨rfl,rfl⟩)
      go_ret
      refine⟨ret_int ?_,hB2⟩
      rw[← hr.out,Zar]
      exact fun h=>by obtain⟨⟨q1,q2,q3,q4⟩,q5⟩:=HR.out.1 h;rw[Zbo] at q1;dsimp only at q1;simp[nat31] at nB;omega
    ·rw[Bool.not_eq_true] at nAN
     go_wp2_with (go_at_call 24;refine (ZaD _ _).mono ?_;rintro e w' ⟨rfl,rfl⟩)
     go_ret
     refine⟨ret_int ?_,hB2⟩
     rw[← hr.out,Zar]
     exact fun h=>by obtain⟨⟨q1,q2,q3,q4⟩,q5⟩:=HR.out.1 h;rw[Zbo] at q1;dsimp only at q1;simp[nat31] at nAN;omega
   ·rw[Bool.not_eq_true] at nA
    go_wp2_with (go_at_call 24;refine (ZaD _ _).mono ?_;rintro e w' ⟨rfl,rfl⟩)
    go_ret
    refine⟨ret_int ?_,hB2⟩
    rw[← hr.out,Zar]
    exact fun h=>by obtain⟨⟨q1,q2,q3,q4⟩,q5⟩:=HR.out.1 h;rw[Zbo] at q1;dsimp only at q1;simp[nat31] at nA;omega
  ·have hE:=hR.out
   rw[List.drop_of_length_le (by omega)] at hE
   have HE:Hid (Script l n m↔a≤n∧b≤m∧n-a=m-b):=hE
   clear hE hR
   by_cases e1:n<a
   ·go_wp2
    go_ret
    refine⟨ret_int ?_,hB⟩
    rw[← hr.out,Zar]
    exact fun h=>by have:=HE.out.1 h;omega
   by_cases e2:m<b
   ·go_wp2
    go_ret
    refine⟨ret_int ?_,hB⟩
    rw[← hr.out,Zar]
    exact fun h=>by have:=HE.out.1 h;omega
   by_cases he:n-a=m-b
   ·go_wp2
    go_ret
    refine⟨ret_int ?_,hB⟩
    rw[← hr.out,Zas]
    exact HE.out.2 ⟨by omega,by omega,he⟩
   ·go_wp2
    go_ret
    refine⟨ret_int ?_,hB⟩
    rw[← hr.out,Zar]
    exact fun h=>he (HE.out.1 h).2.2
end

section
open Go.RowKit
attribute [local simp] ZbI Zbf
theorem ZbG (A:List (List UInt8)) (ao:Option Addr) (cap:Nat) (i h:Int) (h0:0≤i) (h1:i≤h) (h2:h≤A.length) (w:World) (hA:HS w (.slice ao A.length cap) A) :
  ∃ vo vc,(∀ u:World,(Instr.slice 23 (.slice ao A.length cap) (some (.int .i64 i)) (some (.int .i64 h)) none).run Try.prog u=.ok (.slice vo (cut A i (h-i)).length vc) u)∧(∀ u:World,HS u (.slice ao A.length cap) A→HS u (.slice vo (cut A i (h-i)).length vc) (cut A i (h-i))):=by
 obtain⟨vs,h3,h4⟩:=ZbE A ao cap i (h-i) h0 (by omega) (by omega) w hA
 obtain⟨vo,vc,rfl⟩:=Holds.form (h4 w hA)
 have e:i+(h-i)=h:=by omega
 rw[e] at h3
 exact⟨vo,vc,h3,h4⟩
theorem ZbF (A:List (List UInt8)) (ao:Option Addr) (cap:Nat) (i:Int) (h0:0≤i) (h1:i≤A.length) (w:World) (hA:HS w (.slice ao A.length cap) A) :
  ∃ vo vc,(∀ u:World,(Instr.slice 23 (.slice ao A.length cap) (some (.int .i64 i)) none none).run Try.prog u=.ok (.slice vo (cut A i (A.length-i)).length vc) u)∧(∀ u:World,HS u (.slice ao A.length cap) A→HS u (.slice vo (cut A i (A.length-i)).length vc) (cut A i (A.length-i))):=by
 obtain⟨vo,vc,h3,h4⟩:=ZbG A ao cap i A.length h0 h1 (Int.le_refl _) w hA
 refine⟨vo,vc,fun u=>?_,h4⟩
 rw[← h3 u]
 have hcap:A.length≤cap:=by
  rcases hA with ⟨h,h3,_⟩ | ⟨ad,c,h,h3,_⟩
  ·omega
  ·cases h;exact h3
 rw[run_slice_l (P:=Try.prog) u 23 ao A.length cap (by kernel_rfl) .i64 i h0 h1,run_slice_lh (P:=Try.prog) u 23 ao A.length cap (by kernel_rfl) .i64 .i64 i A.length h0 h1 (by omega)]
 simp
theorem Zbt (a b n m:Int) (l:List Ch):(piecesL a b n m l).length=l.length+1:=by
 induction l generalizing a b with
 | nil=>rfl
 | cons c l ih=>simp[piecesL,ih]
end

section
open Go.RowKit
theorem Vk.lt {nx m:Int} {K:List Int} (h:Vk nx m K):∀ z∈K,z=-1∨z<m:=by
 induction K generalizing nx with
 | nil=>simp
 | cons y t ih =>
  intro z hz
  rw[List.mem_cons] at hz
  rcases h with ⟨rfl,h⟩ | ⟨hy,h1,h2,h3⟩
  ·rcases hz with rfl | hz
   ·exact .inl rfl
   ·exact ih h z hz
  ·rcases hz with rfl | hz
   ·exact .inr h2
   ·exact ih h3 z hz
end

section
open Go.RowKit
end

section
open Go.ChangeShapes Go.WideShapes Go.ChangeAt Go.RowKit
theorem own:ownKnob Try.prog.godebug=none:=by kernel_rfl
theorem laidOut:laidOutB Try.prog=true:=by kernel_rfl
theorem cellsInt:Try.prog.cellsOf 3=1:=by kernel_rfl
theorem cellsCh:Try.prog.cellsOf 48=4:=by kernel_rfl
def w64 (z:Int):Prop:=-9223372036854775808≤z∧z≤9223372036854775807
theorem Zcj {z:Int} (h:(Lit.int .i64 z).wf=true):w64 z:=bounds_i64 h
def wCh (c:Ch):Prop:=w64 c.A∧w64 c.AN∧w64 c.B∧w64 c.BN
theorem Zal {H:Type} (D:Nat→DataW H) (n:Nat) (h:∀ i,i<n→1≤Rows.uptoBulk (D i)):n≤Rows.uptoBulkAll ((List.range n).map D):=by
 have hall:∀ l:List (DataW H),(∀ d∈l,1≤Rows.uptoBulk d)→l.length≤Rows.uptoBulkAll l:=by
  intro l
  induction l with
  | nil=>simp
  | cons d t ih =>
   intro hd
   have h1:=hd d (List.mem_cons_self ..)
   have h2:=ih fun x hx=>hd x (List.mem_cons_of_mem _ hx)
   rw[Rows.uptoBulkAll]
   simp only[List.length_cons]
   omega
 have:=hall ((List.range n).map D) (by
  intro d hd
  simp only[List.mem_map,List.mem_range] at hd
  obtain⟨i,hi,rfl⟩:=hd
  exact h i hi)
 simpa using this
theorem Zbq {H:Type} {enc:TypeId × Value→H} {W:World} {fuel:Nat} {ao:Option Addr} {len cap:Nat} {d:DataW H} {p:List MemPlace}
  (h:DataW.trod enc Try.prog W 0 (fun _=>true) true fuel 22 [.slice ao len cap]=some (d,p)) :
  ∃ l:List Ch,HCh W (.slice ao len cap) l∧l.length≤Rows.uptoBulk d∧∀ c∈l,wCh c:=by
 rcases Go.Deep.open_slice Try.underlying22 h with ⟨hcs,hx⟩ | ⟨a,l,c,m,n,D,Pl,hcs,_,hl,hm,hmm,hx,hel⟩
 ·simp at hcs
  obtain⟨rfl,rfl,rfl⟩:=hcs
  exact⟨[],.inl ⟨rfl,rfl,rfl⟩,by simp,by simp⟩
 ·simp at hcs
  obtain⟨rfl,rfl,rfl⟩:=hcs
  simp only[Prod.mk.injEq] at hx
  obtain⟨rfl,_⟩:=hx
  have hlm:len≤m:=by rw[hmm];split<;>omega
  have each:∀ i,i<len→∃ c:Ch,wCh c∧W.cell? (a.add (i * 4))=some (.int .i64 c.A)∧W.cell? (a.add (i * 4+1))=some (.int .i64 c.AN)∧W.cell? (a.add (i * 4+2))=some (.int .i64 c.B)∧W.cell? (a.add (i * 4+3))=some (.int .i64 c.BN)∧1≤Rows.uptoBulk (D i):=by
   intro i hi
   obtain⟨cs',h1,h2⟩:=hel i (by omega)
   rw[cellsCh] at h1
   obtain⟨_,hlen,hcell⟩:=World.cells?_some h1
   obtain⟨xs,k,hk,hxy,_,hxl,hf⟩:=DataW.trod_struct Try.underlying48 h2
   match xs,hxl,cs',hlen with
   | [y0,y1,y2,y3],_,[v0,v1,v2,v3],_ =>
    have g0:=hf 0 _ rfl
    have g1:=hf 1 _ rfl
    have g2:=hf 2 _ rfl
    have g3:=hf 3 _ rfl
    simp[cellsInt] at g0 g1 g2 g3
    obtain⟨z0,e0,_,w0⟩:=DataW.trod_int Try.underlying3 g0
    obtain⟨z1,e1,_,w1⟩:=DataW.trod_int Try.underlying3 g1
    obtain⟨z2,e2,_,w2⟩:=DataW.trod_int Try.underlying3 g2
    obtain⟨z3,e3,_,w3⟩:=DataW.trod_int Try.underlying3 g3
    cases e0
    cases e1
    cases e2
    cases e3
    have c0:=hcell 0 (by omega)
    have c1:=hcell 1 (by omega)
    have c2:=hcell 2 (by omega)
    have c3:=hcell 3 (by omega)
    rw[Go.Deep.add_add] at c0 c1 c2 c3
    simp only[Prod.mk.injEq] at hxy
    refine⟨⟨z0,z1,z2,z3⟩,⟨Zcj w0,Zcj w1,Zcj w2,Zcj w3⟩,by simpa using c0,by simpa using c1,by simpa using c2,by simpa using c3,?_⟩
    rw[hxy.1,Rows.uptoBulk]
    omega
  have:Inhabited Ch:=⟨⟨0,0,0,0⟩⟩
  obtain⟨f,hf⟩:=Go.Deep.choose_lt each
  have hlen:((List.range len).map f).length=len:=by simp
  refine⟨(List.range len).map f,.inr ⟨a,cap,by rw[hlen],by rw[hlen];exact hl,fun j u hj=>?_⟩,?_,?_⟩
  ·have hj':j<len * 4:=by
    have:=(List.getElem?_eq_some_iff.1 hj).1
    rw[Zaq,hlen] at this
    exact this
   obtain⟨h0,h1,h2,h3⟩:=Zap ((List.range len).map f) (j / 4) (by rw[hlen];omega)
   obtain⟨_,g0,g1,g2,g3,_⟩:=hf (j / 4) (by omega)
   simp only[List.getElem_map,List.getElem_range] at h0 h1 h2 h3
   rcases (by omega:j=4 * (j / 4)∨j=4 * (j / 4)+1∨j=4 * (j / 4)+2∨j=4 * (j / 4)+3) with e | e | e | e
   ·rw[e,h0] at hj
    rw[e,Nat.mul_comm,g0,hj]
   ·rw[e,h1] at hj
    rw[e,Nat.mul_comm,g1,hj]
   ·rw[e,h2] at hj
    rw[e,Nat.mul_comm,g2,hj]
   ·rw[e,h3] at hj
    rw[e,Nat.mul_comm,g3,hj]
  ·rw[hlen,Rows.uptoBulk]
   have:=Zal D len fun i hi=>(hf i hi).2.2.2.2.2
   omega
  ·intro c hc
   simp only[List.mem_map,List.mem_range] at hc
   obtain⟨i,hi,rfl⟩:=hc
   exact (hf i hi).1
end

section
open Go.ChangeShapes Go.WideShapes Go.ChangeAt Go.RowKit
theorem cellsStr:Try.prog.cellsOf 9=1:=by kernel_rfl
theorem ZbK {H:Type} (l:List ByteArray):l.length+(l.map fun s=>s.data.toList).flatten.length≤Rows.uptoBulkAll (strs (H:=H) l):=by
 induction l with
 | nil=>simp[strs,Rows.uptoBulkAll]
 | cons s t ih =>
  have e:strs (H:=H) (s::t)=.lit (.string s.data.toList)::strs t:=rfl
  rw[e,Rows.uptoBulkAll,Rows.uptoBulk]
  simp only[List.length_cons,List.map_cons,List.flatten_cons,List.length_append] at ih ⊢
  omega
theorem Zbr {H:Type} {enc:TypeId × Value→H} {W:World} {fuel:Nat} {ao:Option Addr} {len cap:Nat} {d:DataW H} {p:List MemPlace}
  (h:DataW.trod enc Try.prog W 0 (fun _=>true) true fuel 23 [.slice ao len cap]=some (d,p)) :
  ∃ ws:List (List UInt8),HS W (.slice ao len cap) ws∧ws.length+ws.flatten.length≤Rows.uptoBulk d:=by
 rcases open_strings Try.underlying23 Try.underlying9 cellsStr h with ⟨hcs,hx⟩ | ⟨a,l,c,ss,hcs,_,hl,hm,hz,hx,hcell,_⟩
 ·simp at hcs
  obtain⟨rfl,rfl,rfl⟩:=hcs
  exact⟨[],.inl ⟨rfl,rfl,rfl⟩,by simp⟩
 ·simp at hcs
  obtain⟨rfl,rfl,rfl⟩:=hcs
  simp at hz
  simp only[Prod.mk.injEq] at hx
  obtain⟨rfl,_⟩:=hx
  have hlen:((ss.take len).map fun s=>s.data.toList).length=len:=by simp;omega
  refine⟨(ss.take len).map fun s=>s.data.toList,.inr ⟨a,cap,by rw[hlen],by omega,fun j u hj=>?_⟩,?_⟩
  ·have hj':j<len:=by
    have:=(List.getElem?_eq_some_iff.1 hj).1
    rw[ZbH,hlen] at this
    exact this
   rw[hcell j (by omega)]
   have hjs:j<ss.length:=by omega
   simp[scells,hj',hjs] at hj
   simp[List.getD,hjs,← hj]
  ·have:=ZbK (H:=H) (ss.take len)
   rw[Rows.uptoBulk]
   simp only[List.length_map] at this ⊢
   omega
end

end Go.Proofs.Ytcnjephlmcnodaa
