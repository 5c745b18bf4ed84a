/-
  Texts that belong together, joined: EdRow, EdMath, EdM2, EdM3, EdM4, EdM5, HuMath, HuM2, HuM3, HuM4, HuM5, HuM6, EdChk, EdIter, EdOwn, EdKeep, EdWalk, EdDrew, PcReg, HuRow, HuRf1, PcLs, EdRChk, HuRf2, HuRf3, HuRf4, HuRf5, HuRf6, HuRf7, HuOwn, HuC1, HuIv, PaMath, MiMath, EdMk, MiLen.
-/
import Derived.Test.YtcniomgjikienaaGreatDoorProg
import Derived.WalkKit
import Derived.WalkSpells
import Derived.WalkLawsBesides
import Derived.Deep.QuietTactic
import Derived.BigQuiet
import Derived.Laws.AppendOwnNone
import Derived.Below
import Derived.RangeFuncNested
import Derived.RangeFuncBound
import Derived.RangeFuncCalls
import Derived.RangeFuncLeaves
import Derived.RangeFuncBox
import Derived.Shelf.Abstract
import Derived.Shelf.RegionOpen
import Derived.OwnWalkIn
import Derived.TacticsInMore
import Derived.LoopNIn
import Derived.LoopIn
import Derived.Maps.AppendAt
import Derived.Deep.RegionHeld3
import Derived.Laws.Rows
import Derived.Deep.CutRange
import Derived.Deep.DeepCutAuto

set_option maxHeartbeats 16000000
set_option maxRecDepth 100000
namespace Go.Proofs.YtcniomgjikienaaGreatDoor

section
open Go.RowKit
theorem Y_a {α:Type} (l:List α) (i:Nat) (a:α):l.toArray.setIfInBounds i a=(l.set i a).toArray:=List.setIfInBounds_toArray ..
theorem Y_b {α:Type} {a b:α} {l:List α}:(a::l).set 0 b=b::l:=rfl
theorem Y_c {α:Type} {a b:α} {l:List α} {n:Nat}:(a::l).set (n+1) b=a::l.set n b:=rfl
structure Ch where
 A:Int
 AN:Int
 B:Int
 BN:Int
structure Rn where
 a:Int
 b:Int
 n:Int
def chC (c:Ch):List Value:=[.int .i64 c.A,.int .i64 c.AN,.int .i64 c.B,.int .i64 c.BN]
def rnC (r:Rn):List Value:=[.int .i64 r.a,.int .i64 r.b,.int .i64 r.n]
def chcells (l:List Ch):List Value:=l.flatMap chC
def rncells (l:List Rn):List Value:=l.flatMap rnC
def icells (ns:List Int):List Value:=ns.map fun z=>.int .i64 z
def scells (ws:List (List UInt8)):List Value:=ws.map fun a=>.string ⟨a.toArray⟩
theorem infoStr:(Tryz.prog.info? 9).map (fun i=>(i.zero,i.size,i.bytes))=some (some (.string ⟨#[]⟩),1,16):=by kernel_rfl
theorem infoInt:(Tryz.prog.info? 3).map (fun i=>(i.zero,i.size,i.bytes))=some (some (.int .i64 0),1,8):=by kernel_rfl
theorem Zap {W:World} {a:Addr} {v:Value} (h:W.cell? (a.add 0)=some v):∃ b off,a=⟨b,off,none⟩:=by
 obtain⟨b,off,spot⟩:=a
 have hspot:spot=none:=by simpa [Addr.add] using World.cell?_spot h
 subst hspot
 exact⟨b,off,rfl⟩
theorem Zao (b off j:Nat):(⟨b,off,none⟩:Addr).add j=⟨b,off+j,none⟩:=by unfold Addr.add;split<;>simp_all
theorem Below.dN {N:Nat} {w w1:World} (h:Below N w w1) (n:Nat):Below N w (w1.drewN n):=⟨h.os,h.tape,h.output,h.size,h.block⟩
def Holds (w:World) (v:Value) (n:Nat) (xs:List Value):Prop :=
 (v=.slice none 0 0∧n=0∧xs=[])∨∃ ad c,v=.slice (some ad) n c∧n≤c∧∀ j u,xs[j]?=some u→w.cell? (ad.add j)=some u
theorem Zeo {w:World} {B:Nat} {e:TypeId} {s:Nat} {v:Value} {n:Nat} {xs:List Value} (h:w.ownsRow B e s v n xs):Holds w v n xs:=by
 rcases h.2 with ⟨rfl,h0⟩ | ⟨g,cap,cur,rfl,_,_,hnc,_⟩
 ·exact .inl ⟨rfl,h0,List.eq_nil_of_length_eq_zero (by rw[h.1,h0,Nat.zero_mul])⟩
 ·exact .inr ⟨⟨g,0,none⟩,cap,rfl,hnc,h.cells (g:=g) rfl⟩
theorem Holds.keep {w w':World} {v:Value} {n:Nat} {xs:List Value} (h:Holds w v n xs) (hk:∀ k,k<w.heap.size→w'.heap[k]?=w.heap[k]?):Holds w' v n xs:=by
 rcases h with h | ⟨ad,c,hv,hnc,hc⟩
 ·exact .inl h
 ·refine .inr ⟨ad,c,hv,hnc,fun j u hj=>?_⟩
  have h1:=hc j u hj
  have hlt:=World.block_lt_of_cell? w _ h1
  rw[World.cell?_of_block (w:=w) (hk _ hlt)]
  exact h1
theorem Holds.form {w:World} {v:Value} {n:Nat} {xs:List Value} (h:Holds w v n xs):∃ ao c,v=.slice ao n c:=by
 rcases h with ⟨rfl,rfl,rfl⟩ | ⟨ad,c,rfl,_⟩
 ·exact⟨_,_,rfl⟩
 ·exact⟨_,_,rfl⟩
theorem Holds.at {w:World} {v:Value} {n:Nat} {xs:List Value} (h:Holds w v n xs) (h0:0<xs.length):∃ b off c,v=.slice (some ⟨b,off,none⟩) n c∧b<w.heap.size∧∀ j (hj:j<xs.length),w.cell? ⟨b,off+j,none⟩=some xs[j]:=by
 rcases h with ⟨_,_,rfl⟩ | ⟨ad,c,rfl,_,hc⟩
 ·simp at h0
 ·obtain⟨b,off,rfl⟩:=Zap (hc 0 _ (List.getElem?_eq_getElem h0))
  refine⟨b,off,c,rfl,World.block_lt_of_cell? w _ (hc 0 _ (List.getElem?_eq_getElem h0)),fun j hj=>?_⟩
  have:=hc j _ (List.getElem?_eq_getElem hj)
  rw[Zao] at this
  exact this
theorem Holds.nil (w:World):Holds w (.slice none 0 0) 0 []:=.inl ⟨rfl,rfl,rfl⟩
theorem Zbn (l:List Ch):(chcells l).length=l.length * 4:=by
 induction l with
 | nil=>rfl
 | cons c l ih=>simp only[chcells,List.flatMap_cons,List.length_append,List.length_cons] at ih ⊢;rw[ih];simp[chC];omega
theorem Zju (l:List Rn):(rncells l).length=l.length * 3:=by
 induction l with
 | nil=>rfl
 | cons c l ih=>simp only[rncells,List.flatMap_cons,List.length_append,List.length_cons] at ih ⊢;rw[ih];simp[rnC];omega
theorem Zes (l:List Int):(icells l).length=l.length:=by simp[icells]
theorem ZjT (l:List (List UInt8)):(scells l).length=l.length:=by simp[scells]
theorem Zer (a b:List Int):icells (a++b)=icells a++icells b:=by simp[icells]
theorem Zet (l:List Int):∀ u∈icells l,u.oneCell'=true:=by
 intro u hu
 simp only[icells,List.mem_map] at hu
 obtain⟨a,_,rfl⟩:=hu
 rfl
theorem ZjU (l:List (List UInt8)):∀ u∈scells l,u.oneCell'=true:=by
 intro u hu
 simp only[scells,List.mem_map] at hu
 obtain⟨a,_,rfl⟩:=hu
 rfl
theorem Zbm (l:List Ch) (k:Nat) (hk:k<l.length):(chcells l)[4 * k]?=some (.int .i64 l[k].A)∧(chcells l)[4 * k+1]?=some (.int .i64 l[k].AN)∧(chcells l)[4 * k+2]?=some (.int .i64 l[k].B)∧(chcells l)[4 * k+3]?=some (.int .i64 l[k].BN):=by
 induction l generalizing k with
 | nil=>simp at hk
 | cons c l ih =>
  cases k with
  | zero=>simp[chcells,chC]
  | succ k =>
   have h:=ih k (by simpa using hk)
   have e:∀ i,(chcells (c::l))[4 * (k+1)+i]?=(chcells l)[4 * k+i]?:=by
    intro i
    have:chcells (c::l)=chC c++chcells l:=rfl
    rw[this,List.getElem?_append_right (by simp[chC];omega)]
    congr 1
    simp[chC];omega
   simp only[List.getElem_cons_succ]
   refine⟨by rw[← (h).1];exact e 0,by rw[← h.2.1];exact e 1,by rw[← h.2.2.1];exact e 2,by rw[← h.2.2.2];exact e 3⟩
theorem Zjt (l:List Rn) (k:Nat) (hk:k<l.length):(rncells l)[3 * k]?=some (.int .i64 l[k].a)∧(rncells l)[3 * k+1]?=some (.int .i64 l[k].b)∧(rncells l)[3 * k+2]?=some (.int .i64 l[k].n):=by
 induction l generalizing k with
 | nil=>simp at hk
 | cons c l ih =>
  cases k with
  | zero=>simp[rncells,rnC]
  | succ k =>
   have h:=ih k (by simpa using hk)
   have e:∀ i,(rncells (c::l))[3 * (k+1)+i]?=(rncells l)[3 * k+i]?:=by
    intro i
    have:rncells (c::l)=rnC c++rncells l:=rfl
    rw[this,List.getElem?_append_right (by simp[rnC];omega)]
    congr 1
    simp[rnC];omega
   simp only[List.getElem_cons_succ]
   refine⟨by rw[← (h).1];exact e 0,by rw[← h.2.1];exact e 1,by rw[← h.2.2];exact e 2⟩
def HCh (w:World) (v:Value) (l:List Ch):Prop:=Holds w v l.length (chcells l)
def HRn (w:World) (v:Value) (l:List Rn):Prop:=Holds w v l.length (rncells l)
def HI (w:World) (v:Value) (l:List Int):Prop:=Holds w v l.length (icells l)
def HS (w:World) (v:Value) (l:List (List UInt8)):Prop:=Holds w v l.length (scells l)
theorem HCh.keep {w w':World} {v:Value} {l:List Ch} (h:HCh w v l) {N:Nat} (hk:Below N w w') (hN:w.heap.size≤N):HCh w' v l:=Holds.keep h fun k hk'=>hk.block k (by omega)
theorem HRn.keep {w w':World} {v:Value} {l:List Rn} (h:HRn w v l) {N:Nat} (hk:Below N w w') (hN:w.heap.size≤N):HRn w' v l:=Holds.keep h fun k hk'=>hk.block k (by omega)
theorem HI.keep {w w':World} {v:Value} {l:List Int} (h:HI w v l) {N:Nat} (hk:Below N w w') (hN:w.heap.size≤N):HI w' v l:=Holds.keep h fun k hk'=>hk.block k (by omega)
theorem HS.keep {w w':World} {v:Value} {l:List (List UInt8)} (h:HS w v l) {N:Nat} (hk:Below N w w') (hN:w.heap.size≤N):HS w' v l:=Holds.keep h fun k hk'=>hk.block k (by omega)
theorem HCh.at {w:World} {ao:Option Addr} {n c:Nat} {l:List Ch} (h:HCh w (.slice ao n c) l) (h0:0<l.length):∃ b off,ao=some ⟨b,off,none⟩∧b<w.heap.size ∧
  ∀ k (hk:k<l.length),w.cell? ⟨b,off+k * 4,none⟩=some (.int .i64 l[k].A)∧w.cell? ⟨b,off+k * 4+1,none⟩=some (.int .i64 l[k].AN)∧w.cell? ⟨b,off+k * 4+2,none⟩=some (.int .i64 l[k].B)∧w.cell? ⟨b,off+k * 4+3,none⟩=some (.int .i64 l[k].BN):=by
 obtain⟨b,off,c',hv,hb,hc⟩:=Holds.at h (by rw[Zbn];omega)
 cases hv
 refine⟨b,off,rfl,hb,fun k hk=>?_⟩
 obtain⟨h0,h1,h2,h3⟩:=Zbm l k hk
 have hlen:=Zbn l
 have e:k * 4=4 * k:=by omega
 rw[e]
 refine⟨?_,?_,?_,?_⟩
 ·have:=hc (4 * k) (by omega)
  rw[← h0,this,List.getElem?_eq_getElem]
 ·have:=hc (4 * k+1) (by omega)
  rw[← h1,Nat.add_assoc,this,List.getElem?_eq_getElem]
 ·have:=hc (4 * k+2) (by omega)
  rw[← h2,Nat.add_assoc,this,List.getElem?_eq_getElem]
 ·have:=hc (4 * k+3) (by omega)
  rw[← h3,Nat.add_assoc,this,List.getElem?_eq_getElem]
theorem HRn.at {w:World} {ao:Option Addr} {n c:Nat} {l:List Rn} (h:HRn w (.slice ao n c) l) (h0:0<l.length):∃ b off,ao=some ⟨b,off,none⟩∧b<w.heap.size ∧
  ∀ k (hk:k<l.length),w.cell? ⟨b,off+k * 3,none⟩=some (.int .i64 l[k].a)∧w.cell? ⟨b,off+k * 3+1,none⟩=some (.int .i64 l[k].b)∧w.cell? ⟨b,off+k * 3+2,none⟩=some (.int .i64 l[k].n):=by
 obtain⟨b,off,c',hv,hb,hc⟩:=Holds.at h (by rw[Zju];omega)
 cases hv
 refine⟨b,off,rfl,hb,fun k hk=>?_⟩
 obtain⟨h0,h1,h2⟩:=Zjt l k hk
 have hlen:=Zju l
 have e:k * 3=3 * k:=by omega
 rw[e]
 refine⟨?_,?_,?_⟩
 ·have:=hc (3 * k) (by omega)
  rw[← h0,this,List.getElem?_eq_getElem]
 ·have:=hc (3 * k+1) (by omega)
  rw[← h1,Nat.add_assoc,this,List.getElem?_eq_getElem]
 ·have:=hc (3 * k+2) (by omega)
  rw[← h2,Nat.add_assoc,this,List.getElem?_eq_getElem]
theorem HI.at {w:World} {ao:Option Addr} {n c:Nat} {l:List Int} (h:HI w (.slice ao n c) l) (h0:0<l.length):∃ b off,ao=some ⟨b,off,none⟩∧b<w.heap.size ∧
  ∀ k (hk:k<l.length),w.cell? ⟨b,off+k,none⟩=some (.int .i64 l[k]):=by
 obtain⟨b,off,c',hv,hb,hc⟩:=Holds.at h (by rw[Zes];omega)
 cases hv
 exact⟨b,off,rfl,hb,fun k hk=>by rw[hc k (by rw[Zes];exact hk)];simp[icells]⟩
theorem HS.at {w:World} {ao:Option Addr} {n c:Nat} {l:List (List UInt8)} (h:HS w (.slice ao n c) l) (h0:0<l.length):∃ b off,ao=some ⟨b,off,none⟩∧b<w.heap.size ∧
  ∀ k (hk:k<l.length),w.cell? ⟨b,off+k,none⟩=some (.string ⟨l[k].toArray⟩):=by
 obtain⟨b,off,c',hv,hb,hc⟩:=Holds.at h (by rw[ZjT];omega)
 cases hv
 exact⟨b,off,rfl,hb,fun k hk=>by rw[hc k (by rw[ZjT];exact hk)];simp[scells]⟩
end

section
def nat31 (z:Int):Bool:=decide (0≤z) && decide (z≤2147483647)
def numB (c:Ch):Bool:=nat31 c.A && nat31 c.AN && nat31 c.B && nat31 c.BN && (decide (0<c.AN) || decide (0<c.BN))
theorem Zhj (c:Ch):numB c=true↔(0≤c.A∧c.A≤2147483647)∧(0≤c.AN∧c.AN≤2147483647)∧(0≤c.B∧c.B≤2147483647)∧(0≤c.BN∧c.BN≤2147483647)∧(0<c.AN∨0<c.BN):=by
 simp[numB,nat31,and_assoc]
def Right:Bool→Int→Int→Int→Int→List Ch→Prop
 | _,a,b,n,m,[]=>a≤n∧b≤m∧n-a=m-b
 | f,a,b,n,m,c::l=>(numB c=true∧c.A-a=c.B-b∧a≤c.A∧(f=true∨a<c.A))∧Right false (c.A+c.AN) (c.B+c.BN) n m l
def decRight:(f:Bool)→(a b n m:Int)→(l:List Ch)→Decidable (Right f a b n m l)
 | _,a,b,n,m,[]=>inferInstanceAs (Decidable (a≤n∧b≤m∧n-a=m-b))
 | f,a,b,n,m,c::l =>
  have _:=decRight false (c.A+c.AN) (c.B+c.BN) n m l
  inferInstanceAs (Decidable ((numB c=true∧c.A-a=c.B-b∧a≤c.A∧(f=true∨a<c.A))∧Right false (c.A+c.AN) (c.B+c.BN) n m l))
theorem Right.le {f:Bool} {a b n m:Int} {l:List Ch} (h:Right f a b n m l):a≤n∧b≤m∧n-a-(m-b)=n-a-(m-b):=by
 induction l generalizing f a b with
 | nil=>exact⟨h.1,h.2.1,rfl⟩
 | cons c l ih =>
  obtain⟨⟨h1,h2,h3,h4⟩,h5⟩:=h
  rw[Zhj] at h1
  have:=ih h5
  refine⟨by omega,by omega,rfl⟩
def Script (l:List Ch) (n m:Int):Prop:=0≤n∧0≤m∧Right true 0 0 n m l
def decScript (l:List Ch) (n m:Int):Decidable (Script l n m) :=
 have _:=decRight true 0 0 n m l
 inferInstanceAs (Decidable (0≤n∧0≤m∧Right true 0 0 n m l))
def chk (l:List Ch) (n m:Int):Int:=@ite Int (Script l n m) (decScript l n m) 0 50
def piecesL:Int→Int→Int→Int→List Ch→List (Rn × Ch)
 | a,b,n,m,[]=>[(⟨a,b,n-a⟩,⟨n,0,m,0⟩)]
 | a,b,n,m,c::l=>(⟨a,b,c.A-a⟩,c)::piecesL (c.A+c.AN) (c.B+c.BN) n m l
def cut (A:List (List UInt8)) (i n:Int):List (List UInt8):=(A.drop i.toNat).take n.toNat
def pa (A B:List (List UInt8)) (x:Rn × Ch):List (List UInt8):=cut A x.1.a x.1.n++cut B x.2.B x.2.BN
end

section
def un (a b:Int):Nat→List Rn
 | 0=>[]
 | k+1=>⟨a,b,1⟩::un (a+1) (b+1) k
def ex (r:Rn):List Rn:=un r.a r.b r.n.toNat
def exs (rs:List Rn):List Rn:=rs.flatMap ex
theorem Zdb (r:Rn) (rs:List Rn):exs (r::rs)=ex r++exs rs:=rfl
theorem Zga {a b:Int} {k:Nat} {r:Rn}:r∈un a b k↔r.n=1∧a≤r.a∧r.a<a+k∧r.b-r.a=b-a:=by
 induction k generalizing a b with
 | zero=>simp[un];omega
 | succ k ih =>
  rw[un,List.mem_cons,ih]
  constructor
  ·rintro (rfl | h)
   ·simp;omega
   ·omega
  ·rintro⟨h1,h2,h3,h4⟩
   by_cases h:r.a=a
   ·left
    obtain⟨x,y,z⟩:=r
    simp only at *
    subst h h1
    have:y=b:=by omega
    rw[this]
   ·right
    omega
theorem ZfX {p r:Rn}:r∈ex p↔r.n=1∧p.a≤r.a∧r.a<p.a+p.n.toNat∧r.b-r.a=p.b-p.a:=Zga
def Chain:Int→Int→List Rn→Prop
 | _,_,[]=>True
 | a,b,r::rs=>a≤r.a∧b≤r.b∧0≤r.n∧Chain (r.a+r.n) (r.b+r.n) rs
theorem Chain.low {a b:Int} {rs:List Rn} (h:Chain a b rs):∀ r∈exs rs,r.n=1∧a≤r.a∧b≤r.b:=by
 induction rs generalizing a b with
 | nil=>simp[exs]
 | cons p rs ih =>
  obtain⟨h1,h2,h3,h4⟩:=h
  intro r hr
  rw[Zdb,List.mem_append,ZfX] at hr
  rcases hr with hr | hr
  ·omega
  ·have:=ih h4 r hr
   omega
theorem Chain.mono {a b a' b':Int} {rs:List Rn} (h:Chain a b rs) (ha:a'≤a) (hb:b'≤b):Chain a' b' rs:=by
 cases rs with
 | nil=>trivial
 | cons p rs=>exact⟨by have:=h.1;omega,by have:=h.2.1;omega,h.2.2⟩
def Up (l:List Rn):Prop:=l.Pairwise fun p q=>p.a<q.a∧p.b<q.b
theorem ZlF (a b:Int) (k:Nat):Up (un a b k):=by
 induction k generalizing a b with
 | zero=>exact List.Pairwise.nil
 | succ k ih =>
  refine List.Pairwise.cons (fun r hr=>?_) (ih _ _)
  rw[Zga] at hr
  dsimp only
  omega
theorem Chain.up {a b:Int} {rs:List Rn} (h:Chain a b rs):Up (exs rs):=by
 induction rs generalizing a b with
 | nil=>exact List.Pairwise.nil
 | cons p rs ih =>
  obtain⟨h1,h2,h3,h4⟩:=h
  rw[Zdb]
  refine List.pairwise_append.2 ⟨ZlF _ _ _,ih h4,fun r hr q hq=>?_⟩
  rw[ZfX] at hr
  have:=h4.low q hq
  omega
def rns (a b n m:Int) (l:List Ch):List Rn:=(piecesL a b n m l).map (·.1)
def U (a b n m:Int) (l:List Ch):List Rn:=exs (rns a b n m l)
theorem Zah (a b n m:Int):U a b n m []=un a b (n-a).toNat:=by simp[U,rns,piecesL,exs,ex]
theorem Zag (a b n m:Int) (c:Ch) (l:List Ch):U a b n m (c::l)=un a b (c.A-a).toNat++U (c.A+c.AN) (c.B+c.BN) n m l:=by
 simp[U,rns,piecesL,exs,ex]
theorem Right.chain {f:Bool} {a b n m:Int} {l:List Ch} (h:Right f a b n m l):Chain a b (rns a b n m l):=by
 induction l generalizing f a b with
 | nil =>
  obtain⟨h1,h2,h3⟩:=h
  exact⟨Int.le_refl _,Int.le_refl _,by dsimp only;omega,trivial⟩
 | cons c l ih =>
  obtain⟨⟨h1,h2,h3,h4⟩,h5⟩:=h
  rw[Zhj] at h1
  refine⟨Int.le_refl _,Int.le_refl _,by dsimp only;omega,(ih h5).mono ?_ ?_⟩<;>dsimp only<;>omega
theorem Right.up {f:Bool} {a b n m:Int} {l:List Ch} (h:Right f a b n m l):Up (U a b n m l):=h.chain.up
theorem Right.first {a b n m:Int} {l:List Ch} (h:Right false a b n m l):∃ e t,U a b n m l++[⟨n,m,0⟩]=e::t∧e.a=a∧e.b=b:=by
 cases l with
 | nil =>
  obtain⟨h1,h2,h3⟩:=h
  rw[Zah]
  by_cases hn:n=a
  ·subst hn
   exact⟨⟨n,m,0⟩,[],by simp[un],rfl,by dsimp only;omega⟩
  ·obtain⟨k,hk⟩:∃ k:Nat,(n-a).toNat=k+1:=⟨(n-a).toNat-1,by omega⟩
   rw[hk,un]
   exact⟨_,_,rfl,rfl,rfl⟩
 | cons c l =>
  obtain⟨⟨h1,h2,h3,h4⟩,h5⟩:=h
  have hlt:a<c.A:=by simpa using h4
  rw[Zag]
  obtain⟨k,hk⟩:∃ k:Nat,(c.A-a).toNat=k+1:=⟨(c.A-a).toNat-1,by omega⟩
  rw[hk,un]
  exact⟨_,_,rfl,rfl,rfl⟩
end

section
def Fit:Int→Int→Int→Int→List Rn→Prop
 | a,b,n,m,[]=>a≤n∧b≤m
 | a,b,n,m,r::P=>a≤r.a∧b≤r.b∧r.n=1∧Fit (r.a+1) (r.b+1) n m P
theorem Fit.le {a b n m:Int} {P:List Rn} (h:Fit a b n m P):a≤n∧b≤m:=by
 induction P generalizing a b with
 | nil=>exact h
 | cons r P ih=>have:=ih h.2.2.2;have h1:=h.1;have h2:=h.2.1;omega
theorem Right.bounds {f:Bool} {a b n m:Int} {l:List Ch} (h:Right f a b n m l):∀ r∈U a b n m l,r.n=1∧a≤r.a∧r.a<n∧b≤r.b∧r.b<m:=by
 induction l generalizing f a b with
 | nil =>
  obtain⟨h1,h2,h3⟩:=h
  intro r hr
  rw[Zah,Zga] at hr
  omega
 | cons c l ih =>
  obtain⟨⟨h1,h2,h3,h4⟩,h5⟩:=h
  rw[Zhj] at h1
  have hle:=h5.le
  intro r hr
  rw[Zag,List.mem_append,Zga] at hr
  rcases hr with hr | hr
  ·omega
  ·have:=ih h5 r hr
   omega
def UpA (l:List Rn):Prop:=l.Pairwise fun p q=>p.a<q.a
theorem Up.a {l:List Rn} (h:Up l):UpA l:=h.imp fun h=>h.1
def Vk:Int→Int→List Int→Prop
 | _,_,[]=>True
 | nx,m,z::t=>(z=-1∧Vk nx m t)∨(z≠-1∧nx≤z∧z<m∧Vk (z+1) m t)
theorem Vk.each {nx m:Int} {K:List Int} (h:Vk nx m K) (h0:0≤nx):∀ z∈K,z=-1∨0≤z:=by
 induction K generalizing nx with
 | nil=>simp
 | cons y t ih =>
  intro z hz
  rw[List.mem_cons] at hz
  rcases h with ⟨rfl,h⟩ | ⟨hy,h1,h2,h3⟩
  ·rcases hz with rfl | hz
   ·exact .inl rfl
   ·exact ih h h0 z hz
  ·rcases hz with rfl | hz
   ·right;omega
   ·exact ih h3 (by omega) z hz
end

section
section
variable {x y:List Ch} {n m k:Int}
end
end

section
def mo (s z:Int):Int:=s+min (max z 0) (2147483647-s)
end

section
structure Mk where
 sg:Int
 tx:List UInt8
structure Hk where
 A:Int
 AN:Int
 B:Int
 BN:Int
 ls:List Mk
def okS (s:Int):Bool:=decide (s=32) || decide (s=45) || decide (s=43)
def pkL (no:Int):List Mk→List (List UInt8)
 | []=>[]
 | m::l=>if m.sg≠no∧okS m.sg=true then m.tx::pkL no l else pkL no l
def oldL (h:Hk):List (List UInt8):=pkL 43 h.ls
def newL (h:Hk):List (List UInt8):=pkL 45 h.ls
theorem Zil (no:Int) (x y:List Mk):pkL no (x++y)=pkL no x++pkL no y:=by
 induction x with
 | nil=>rfl
 | cons m x ih =>
  simp only[List.cons_append,pkL,ih]
  split<;>simp
def mks (s:Int) (x:List (List UInt8)):List Mk:=x.map fun t=>⟨s,t⟩
def bodyH (a b:List (List UInt8)) (e:Int):Int→List Ch→List Mk
 | p,[]=>mks 32 (cut a p (e-p))
 | p,c::g=>mks 32 (cut a p (c.A-p))++(mks 45 (cut a c.A c.AN)++(mks 43 (cut b c.B c.BN)++bodyH a b e (c.A+c.AN) g))
def cntH (a b:Int) (ls:List Mk):Hk:=⟨if 0<(pkL 43 ls).length then a+1 else a,(pkL 43 ls).length,if 0<(pkL 45 ls).length then b+1 else b,(pkL 45 ls).length,ls⟩
def endH (n ctx:Int):List Ch→Int
 | []=>0
 | [c]=>min n (c.A+c.AN+ctx)
 | _::d::g=>endH n ctx (d::g)
def oneH (a b:List (List UInt8)) (ctx:Int) (g:List Ch):Hk:=match g with
 | []=>⟨0,0,0,0,[]⟩
 | f::g=>cntH (f.A-min ctx f.A) (f.B-min ctx f.A) (bodyH a b (endH a.length ctx (f::g)) (f.A-min ctx f.A) (f::g))
def linB (s:List UInt8):Bool:=!s.isEmpty && s.dropLast.all fun c=>c != 10
def fdB (s:List UInt8):Bool:=s.getLast? == some 10
def lstB (sg:Int) (l:List Mk):Bool:=l.all fun m=>decide (m.sg≠sg) && decide (m.sg≠32)
def fldB:List Mk→Bool
 | []=>true
 | m::l=>linB m.tx && okS m.sg && (fdB m.tx || ((decide (m.sg=43) || lstB 45 l) && (decide (m.sg=45) || lstB 43 l))) && fldB l
def rngB (h:Hk):Bool:=nat31 h.A && nat31 h.AN && nat31 h.B && nat31 h.BN && !(decide (h.A=0) && decide (0<h.AN)) && !(decide (h.B=0) && decide (0<h.BN))
def chkH (h:Hk):Int:=if rngB h=false then 2 else if fldB h.ls=false then 6 else if h.AN≠(oldL h).length∨h.BN≠(newL h).length then 120 else if h.ls.all (fun m=>decide (m.sg=32))=true then 50 else 0
end

section
theorem Zij (no s:Int) (hs:no≠s) (ho:okS s=true) (x:List (List UInt8)):pkL no (mks s x)=x:=by
 induction x with
 | nil=>rfl
 | cons t x ih =>
  show pkL no (⟨s,t⟩::mks s x)=_
  simp only[pkL,ih]
  rw[if_pos ⟨by omega,ho⟩]
theorem Zik (s:Int) (x:List (List UInt8)):pkL s (mks s x)=[]:=by
 induction x with
 | nil=>rfl
 | cons t x ih =>
  show pkL s (⟨s,t⟩::mks s x)=_
  simp only[pkL,ih]
  simp
def AllS (s:Int) (x:List Mk):Prop:=∀ m∈x,m.sg=s
theorem AllS.nil (s:Int):AllS s []:=fun _ h=>by cases h
def Nf:Bool→List Mk→Prop
 | _,[]=>True
 | s,m::l=>if m.sg=45 then s=false∧Nf false l else if m.sg=43 then Nf true l else Nf false l
theorem ZgS {x:List Mk} (hx:AllS 43 x) (t:List Mk) (ht:∀ s,Nf s t):∀ s,Nf s (x++t):=by
 induction x with
 | nil=>exact ht
 | cons m x ih =>
  intro s
  have hm:=hx m (by simp)
  simp only[List.cons_append,Nf]
  rw[if_neg (by omega),if_pos hm]
  exact ih (fun q hq=>hx q (by simp[hq])) _
def abl:List (List UInt8)→Bool
 | []=>true
 | t::r=>(r.isEmpty || fdB t) && abl r
theorem ZfP {no s:Int} (hn:no=43∧s=45∨no=45∧s=43) {l:List Mk} (h:∀ m∈l,okS m.sg=true):lstB s l=(pkL no l).isEmpty:=by
 induction l with
 | nil=>rfl
 | cons m l ih =>
  have hm:=h m (by simp)
  have hi:=ih fun q hq=>h q (by simp[hq])
  simp only[lstB,List.all_cons,pkL] at hi ⊢
  rw[hi]
  have hcase:m.sg=32∨m.sg=45∨m.sg=43:=by simp[okS] at hm;omega
  by_cases hno:m.sg=no
  ·rw[if_neg (fun q=>q.1 hno)]
   have e1:decide (m.sg≠s)=true:=decide_eq_true (by omega)
   have e2:decide (m.sg≠32)=true:=decide_eq_true (by omega)
   rw[e1,e2]
   simp
  ·rw[if_pos ⟨hno,hm⟩]
   have e:(decide (m.sg≠s) && decide (m.sg≠32))=false:=by simp;omega
   rw[e]
   simp
theorem Zdq (l:List Mk):fldB l=true↔(∀ m∈l,linB m.tx=true∧okS m.sg=true)∧abl (pkL 43 l)=true∧abl (pkL 45 l)=true:=by
 induction l with
 | nil=>simp[fldB,pkL,abl]
 | cons m l ih =>
  simp only[fldB,Bool.and_eq_true,ih]
  constructor
  ·rintro⟨⟨⟨h1,h2⟩,h3⟩,h4,h5,h6⟩
   have hok:∀ q∈l,okS q.sg=true:=fun q hq=>(h4 q hq).2
   rw[ZfP (no:=43) (by omega) hok,ZfP (no:=45) (by omega) hok] at h3
   refine⟨?_,?_,?_⟩
   ·intro q hq
    simp at hq
    rcases hq with rfl | hq
    ·exact⟨h1,h2⟩
    ·exact h4 q hq
   ·simp only[pkL]
    by_cases hs:m.sg=43
    ·rw[if_neg (fun q=>q.1 hs)]
     exact h5
    ·rw[if_pos ⟨hs,h2⟩]
     simp only[abl,h5,Bool.and_true]
     simp[hs] at h3
     rcases h3 with h3 | h3
     ·simp[h3]
     ·simp[h3.1]
   ·simp only[pkL]
    by_cases hs:m.sg=45
    ·rw[if_neg (fun q=>q.1 hs)]
     exact h6
    ·rw[if_pos ⟨hs,h2⟩]
     simp only[abl,h6,Bool.and_true]
     simp[hs] at h3
     rcases h3 with h3 | h3
     ·simp[h3]
     ·simp[h3.2]
  ·rintro⟨h1,h2,h3⟩
   have hm:=h1 m (by simp)
   have h4:∀ q∈l,linB q.tx=true∧okS q.sg=true:=fun q hq=>h1 q (by simp[hq])
   have hok:∀ q∈l,okS q.sg=true:=fun q hq=>(h4 q hq).2
   rw[ZfP (no:=43) (by omega) hok,ZfP (no:=45) (by omega) hok]
   simp only[pkL] at h2 h3
   refine⟨⟨hm,?_⟩,h4,?_,?_⟩
   ·by_cases hs:m.sg=43
    ·rw[if_pos ⟨by omega,hm.2⟩] at h3
     simp only[abl,Bool.and_eq_true,Bool.or_eq_true] at h3
     rcases h3.1 with q | q
     ·simp[hs,q]
     ·simp[q]
    ·rw[if_pos ⟨hs,hm.2⟩] at h2
     simp only[abl,Bool.and_eq_true,Bool.or_eq_true] at h2
     by_cases hr:m.sg=45
     ·rcases h2.1 with q | q
      ·simp[hr,q]
      ·simp[q]
     ·rw[if_pos ⟨hr,hm.2⟩] at h3
      simp only[abl,Bool.and_eq_true,Bool.or_eq_true] at h3
      rcases h2.1 with q | q
      ·rcases h3.1 with q' | q'
       ·simp[q,q']
       ·simp[q']
      ·simp[q]
   ·by_cases hs:m.sg=43
    ·rw[if_neg (fun q=>q.1 hs)] at h2
     exact h2
    ·rw[if_pos ⟨hs,hm.2⟩] at h2
     simp only[abl,Bool.and_eq_true] at h2
     exact h2.2
   ·by_cases hs:m.sg=45
    ·rw[if_neg (fun q=>q.1 hs)] at h3
     exact h3
    ·rw[if_pos ⟨hs,hm.2⟩] at h3
     simp only[abl,Bool.and_eq_true] at h3
     exact h3.2
end

section
def endA:Int→List Ch→Int
 | p,[]=>p
 | _,c::g=>endA (c.A+c.AN) g
def endB:Int→List Ch→Int
 | q,[]=>q
 | _,c::g=>endB (c.B+c.BN) g
structure OneF (a b:List (List UInt8)) (ctx:Int) (g:List Ch) (s t e:Int):Prop where
 s0:0≤s
 t0:0≤t
 en:e≤a.length
 em:endB 0 g+(e-endA 0 g)≤b.length
 le:endA 0 g≤e
 se:s≤e
 AN:(oneH a b ctx g).AN=e-s
 BN:(oneH a b ctx g).BN=endB 0 g+(e-endA 0 g)-t
 A:(oneH a b ctx g).A=if 0<e-s then s+1 else s
 B:(oneH a b ctx g).B=if 0<endB 0 g+(e-endA 0 g)-t then t+1 else t
 old:oldL (oneH a b ctx g)=cut a s (e-s)
 ls:(oneH a b ctx g).ls=bodyH a b e s g
end

end Go.Proofs.YtcniomgjikienaaGreatDoor

/- Hunks that are made of two texts, further: in order, right, the script again, their kinds of lines; plain mathematics. -/
namespace Go.Proofs.YtcniomgjikienaaGreatDoor
end Go.Proofs.YtcniomgjikienaaGreatDoor

/- Each group of a right script, and its hunk; how many lines it has; plain mathematics. -/
namespace Go.Proofs.YtcniomgjikienaaGreatDoor
end Go.Proofs.YtcniomgjikienaaGreatDoor

/- What the statements on hunks of two texts ask, in plain terms. -/
namespace Go.Proofs.YtcniomgjikienaaGreatDoor
end Go.Proofs.YtcniomgjikienaaGreatDoor

namespace Go.Proofs.YtcniomgjikienaaGreatDoor

section
open Go.RowKit
theorem ret_bool {a b:Bool} (h:a=b):Ending.returned (.bool a)=.returned (.bool b):=by rw[h]
end

section
open Go.RowKit Go.Shelf
attribute [local go_sem] Oper.semAt_some
structure Kp (n₀ lo:Nat) (W W':World):Prop where
 low:Below n₀ W W'
 box:∀ k,lo≤k→k<lo+3→W'.heap[k]?=W.heap[k]?
 chg:∀ (k:Nat) (cs:Array Value),W.heap[k]?=some (Obj.cells cs 139 (0,0))→W'.heap[k]?=some (Obj.cells cs 139 (0,0))
section
variable {n₀ lo:Nat} {A B C:World}
theorem Kp.refl (W:World):Kp n₀ lo W W:=⟨Below.refl _ _,fun _ _ _=>rfl,fun _ _ h=>h⟩
theorem Kp.trans (h:Kp n₀ lo A B) (k:Kp n₀ lo B C):Kp n₀ lo A C:=⟨h.low.trans k.low,fun j h1 h2=>(k.box j h1 h2).trans (h.box j h1 h2),fun j cs hj=>k.chg j cs (h.chg j cs hj)⟩
theorem Kp.alloc {W:World} (hn:n₀≤W.heap.size) (hl:lo+3≤W.heap.size) (o:Obj):Kp n₀ lo W (W.alloc o) :=
 ⟨(Below.refl _ W).alloc hn o,fun k _ hk=>Below.heap_alloc W o k (by omega),fun k cs hk=>(Below.heap_alloc W o k (Array.getElem?_eq_some_iff.1 hk).1).trans hk⟩
theorem Kp.drewN (W:World) (k:Nat):Kp n₀ lo W (W.drewN k):=⟨Below.dN (Below.refl _ W) k,fun _ _ _=>rfl,fun _ _ h=>h⟩
end
theorem HCh.lt {w:World} {ao:Option Addr} {n c:Nat} {l:List Ch} (h:HCh w (.slice ao n c) l) (a:Addr) (ha:ao=some a) (h0:0<l.length):a.block<w.heap.size:=by
 obtain⟨b,off,hb,hlt,_⟩:=HCh.at h h0
 rw[ha] at hb
 cases hb
 exact hlt
end

section
open Go.RowKit Go.Shelf
attribute [local go_sem] Oper.semAt_some
theorem ZgR (W:World) (cs:Array Value) (e:TypeId) (k c:Nat) (hkc:k≤c):Holds (W.alloc (.cells cs e)) (.slice (some ⟨W.heap.size,0,none⟩) k c) k cs.toList:=by
 refine .inr ⟨_,_,rfl,hkc,fun j u hj=>?_⟩
 rw[Zao,Lib.cell_of_heap (_root_.Go.heap_alloc_new W _)]
 simpa using hj
structure OwnR (n₀ lo B:Nat) (t e:TypeId) (s:Nat) (v:Value) (k:Nat) (xs:List Value) (W:World):Prop where
 box:Boxed W B t v
 row:W.ownsRow n₀ e s v k xs
 far:∀ g,v.ownBlock=some g→g<lo∨lo+3≤g
section
variable {n₀ lo B:Nat} {t e:TypeId} {s:Nat} {v:Value} {k:Nat} {xs:List Value} {W:World}
theorem OwnR.alloc (h:OwnR n₀ lo B t e s v k xs W) (o:Obj):OwnR n₀ lo B t e s v k xs (W.alloc o):=⟨h.box.alloc o,h.row.alloc o,h.far⟩
end
end

section
open Go.RowKit Go.Shelf
attribute [local go_sem] Oper.semAt_some
end

section
open Go.RowKit
theorem ZjH (w:World) (T E ty:TypeId) (z:Value) (size bytes:Nat) (hT:Tryz.prog.underlying T=some (.slice E)) (hinfo:(Tryz.prog.info? E).map (fun i=>(i.zero,i.size,i.bytes))=some (some z,size,bytes)) (hz1:z.cells.size=size) (hsz:0<size) (hby:bytes≤32)
  (base:Nat) (v:Value) (k:Nat) (xs:List Value) (hown:w.ownsRow base E size v k xs) (vx:Value) (m:Nat) (news:List Value) (hh:Holds w vx m news) (hl:news.length=m * size)
  (h1:∀ u∈news,u.oneCell'=true) (hk:k+m≤4398046511104) (hbase:base≤w.heap.size) :
  ∃ v' w',(Builtin.append_ #[T,T] ty #[v,vx]).run Tryz.prog w=.ok v' w'∧w'.ownsRow base E size v' (k+m) (xs++news)∧w.grownBy w' v.ownBlock∧(v'.ownBlock=v.ownBlock∨v'.ownBlock=some w.heap.size):=by
 obtain⟨i0,hi0,hz0,hzs,hz2⟩:=info_parts hinfo
 rcases hh with ⟨rfl,rfl,rfl⟩ | ⟨ad,c,rfl,_,hc⟩
 ·exact⟨v,w,run_append_owned_none (P:=Tryz.prog) (w:=w) base T ty E i0 size hT hi0 v k xs hown,by simpa using hown,World.grownBy.refl _ _,.inl rfl⟩
 ·obtain⟨v',w',hr,h2,h3,_,h5⟩:=run_append_own_at (P:=Tryz.prog) w base T ty E i0 z size bytes hT hi0 hz0 hzs hz2 hz1 hsz v k xs hown ad m c news hl hc h1 (by unfold maxLen;omega) (by
   have:(k+m) * bytes≤(k+m) * 32:=Nat.mul_le_mul_left _ hby
   omega) hbase
  exact⟨v',w',hr,h2,h3,h5⟩
theorem Zmg {ops:Array Oper} {rest:List Oper} {o:Oper} {a:Act} {Q:Exit→Act→World→Prop} (w:World) (hw:Region.wanted o (yielded ops a.tmps)=true) (s x:Operand) (T E:TypeId) (z:Value) (size bytes:Nat)
  (ho:o.op=.call { callee:=.builtin .append,args:=#[s,x],argTypes:=#[T,T] }) (hT:Tryz.prog.underlying T=some (.slice E)) (hinfo:(Tryz.prog.info? E).map (fun i=>(i.zero,i.size,i.bytes))=some (some z,size,bytes)) (hz1:z.cells.size=size) (hsz:0<size) (hby:bytes≤32)
  (base:Nat) (v:Value) (k:Nat) (xs:List Value) (hs:a.eval s=v) (hown:w.ownsRow base E size v k xs) (vx:Value) (m:Nat) (news:List Value) (hx:a.eval x=vx) (hh:Holds w vx m news) (hl:news.length=m * size)
  (h1:∀ u∈news,u.oneCell'=true) (hk:k+m≤4398046511104) (hbase:base≤w.heap.size)
  (h:∀ v' w',w'.ownsRow base E size v' (k+m) (xs++news)→w.grownBy w' v.ownBlock→wpList Tryz.prog ops Q rest (a.put o.dst v') w'):wpList Tryz.prog ops Q (o::rest) a w:=by
 refine wpList_step fun K hK=>?_
 rw[if_pos hw]
 obtain⟨v',w',hr,h2,h3,_⟩:=ZjH w T E o.type z size bytes hT hinfo hz1 hsz hby base v k xs hown vx m news hh hl h1 hk hbase
 unfold Oper.wp
 simp[execOp,ho,resolve,invoke,builtin,hs,hx,hr,Result.andThen]
 exact hK _ _ (h v' w' h2 h3)
theorem ZkD {ops:Array Oper} {o:Oper} {a:Act} {K:Act→World→Prop} {Q:Exit→Act→World→Prop} {X:Prop} (w:World) (hgd:o.guard=none) (s x:Operand) (T E:TypeId) (z:Value) (size bytes:Nat)
  (ho:o.op=.call { callee:=.builtin .append,args:=#[s,x],argTypes:=#[T,T] }) (hT:Tryz.prog.underlying T=some (.slice E)) (hinfo:(Tryz.prog.info? E).map (fun i=>(i.zero,i.size,i.bytes))=some (some z,size,bytes)) (hz1:z.cells.size=size) (hsz:0<size) (hby:bytes≤32)
  (base:Nat) (v:Value) (k:Nat) (xs:List Value) (hs:a.eval s=v) (hown:w.ownsRow base E size v k xs) (vx:Value) (m:Nat) (news:List Value) (hx:a.eval x=vx) (hh:Holds w vx m news) (hl:news.length=m * size)
  (h1:∀ u∈news,u.oneCell'=true) (hk:k+m≤4398046511104) (hbase:base≤w.heap.size)
  (h:∀ v' w',w'.ownsRow base E size v' (k+m) (xs++news)→w.grownBy w' v.ownBlock→K (a.put o.dst v') w') :
  if Region.wanted o (yielded ops a.tmps)=true then Oper.wp Tryz.prog o a w K Q else X:=by
 have hw:Region.wanted o (yielded ops a.tmps)=true:=by simp[Region.wanted,hgd]
 rw[if_pos hw]
 obtain⟨v',w',hr,h2,h3,_⟩:=ZjH w T E o.type z size bytes hT hinfo hz1 hsz hby base v k xs hown vx m news hh hl h1 hk hbase
 unfold Oper.wp
 simp[execOp,ho,resolve,invoke,builtin,hs,hx,hr,Result.andThen]
 exact h v' w' h2 h3
theorem ZhK {w w':World} {base:Nat} {e:TypeId} {s:Nat} {v:Value} {n:Nat} {xs:List Value} (h:w.ownsRow base e s v n xs) (hk:Below w.heap.size w w'):w'.ownsRow base e s v n xs:=by
 refine⟨h.1,?_⟩
 rcases h.2 with h1 | ⟨g,cap,cur,q1,q2,q3,q4⟩
 ·exact .inl h1
 ·exact .inr ⟨g,cap,cur,q1,q2,(hk.block g (Array.getElem?_eq_some_iff.1 q3).1).trans q3,q4⟩
theorem ZhJ {w:World} {base:Nat} {e:TypeId} {s:Nat} {v:Value} {n:Nat} {xs:List Value} (h:w.ownsRow base e s v n xs) {j:Nat} (hj:v.ownBlock=some j):base≤j:=by
 rcases h.2 with ⟨rfl,_⟩ | ⟨g,cap,cur,rfl,hb,_⟩
 ·cases hj
 ·simp[Value.ownBlock] at hj;omega
def Low (W w:World):Prop:=Below W.heap.size W w
theorem ZfM (W w:World):Low W w.drew↔Low W w:=⟨fun h=>⟨h.os,h.tape,h.output,h.size,h.block⟩,fun h=>Below.dN h 1⟩
theorem Low.ch {W w:World} (h:Low W w) {b off n c:Nat} {l:List Ch} (hl:HCh W (.slice (some ⟨b,off,none⟩) n c) l) (k:Nat) (hk:k<l.length) {x:Ch} (hx:l[k]=x):w.cell? ⟨b,off+k * 4,none⟩=some (.int .i64 x.A)∧w.cell? ⟨b,off+k * 4+1,none⟩=some (.int .i64 x.AN)∧w.cell? ⟨b,off+k * 4+2,none⟩=some (.int .i64 x.B)∧w.cell? ⟨b,off+k * 4+3,none⟩=some (.int .i64 x.BN):=by
 obtain⟨b',off',e,_,hc⟩:=HCh.at (HCh.keep hl h (Nat.le_refl _)) (by omega)
 cases e
 rw[← hx]
 exact hc k hk
structure St (W:World) (e:TypeId) (s:Nat) (v:Value) (k:Nat) (xs:List Value) (w:World):Prop where
 own:w.ownsRow W.heap.size e s v k xs
 low:Below W.heap.size W w
theorem ZkA (W:World) (e:TypeId) (s:Nat) (v:Value) (k:Nat) (xs:List Value) (w:World):St W e s v k xs w.drew↔St W e s v k xs w :=
 ⟨fun h=>⟨h.own,⟨h.low.os,h.low.tape,h.low.output,h.low.size,h.low.block⟩⟩,fun h=>⟨h.own,Below.dN h.low 1⟩⟩
theorem St.grown {W:World} {e:TypeId} {s:Nat} {v v':Value} {k k':Nat} {xs xs':List Value} {w w':World} (h:St W e s v k xs w) (ho:w'.ownsRow W.heap.size e s v' k' xs') (hg:w.grownBy w' v.ownBlock):St W e s v' k' xs' w' :=
 ⟨ho,h.low.grown hg h.low.size (fun _ hj=>ZhJ h.own hj)⟩
end

section
open Go.RowKit
attribute [local simp] ZfM
theorem Zmu (w:World) (o o2:Obj):((w.alloc o).alloc o2).heap[w.heap.size+1]?=some o2:=by
 have h:=_root_.Go.heap_alloc_new (w.alloc o) o2
 rw[World.size_alloc] at h
 exact h
end

section
open Go.RowKit
theorem ZkF {b:Bool} {X Y:Prop} (h:b=true) (hX:X):if b=true then X else Y:=by
 rw[if_pos h]
 exact hX
theorem ZkE {b:Bool} {X Y:Prop} (h:b=false) (hY:Y):if b=true then X else Y:=by
 rw[if_neg (by rw[h];exact Bool.false_ne_true)]
 exact hY
theorem ZdI {P:Program} {S:World→Prop} {md:Region.Mode} {ops:Array Oper} {Q:Exit→Act→World→Prop} {fuel:Nat} {listed:Array Bool} {A:Act} {w:World}
  (i d:Nat) (op:Oper) (v:Value) (hi:ops[i]?=some op) (hd:op.dst=some d) (hs:Region.noSelect ops=true) (hf:Region.free md ops listed i=true) (hr:(Region.ready md ops listed).contains i=true)
  (hQ:∀ c a w,Q (.panic c) (a.put op.dst v) w→Q (.panic c) a w) (hy:YieldsIf P ops S op v A) (hS:S w)
  (h:wpAnyH P md ops Q S fuel (listed.setIfInBounds i true) (A.put (some d) v) w):wpAnyH P md ops Q S (fuel+1) listed A w :=
 wpAnyH_take hi hs hf hr hQ hy hS (by rw[hd];exact h)
theorem ZdG {P:Program} {S:World→Prop} {md:Region.Mode} {ops:Array Oper} {Q:Exit→Act→World→Prop} {fuel:Nat} {listed:Array Bool} {A:Act} {w:World}
  (i d:Nat) (op:Oper) (hi:ops[i]?=some op) (hd:op.dst=some d) (hr:Region.ready md ops listed=[i]) (hwt:Region.wanted op (yielded ops A.tmps)=false) (hS:S w)
  (h:wpAnyH P md ops Q S fuel (listed.setIfInBounds i true) (A.put (some d) undef) w) :
  wpAnyH P md ops Q S (fuel+1) listed A w:=by
 refine wpAnyH_ready hr (by simp) (AllReadyH.cons hi (fun K hK=>?_) AllReadyH.nil)
 refine ZkE hwt ?_
 exact hK.out _ _ hS (fun _=>by rw[hd];exact h)
theorem ZdD {P:Program} {S:World→Prop} {md:Region.Mode} {ops:Array Oper} {Q:Exit→Act→World→Prop} {fuel:Nat} {listed:Array Bool} {A:Act} {w:World}
  (i d:Nat) (op:Oper) (hi:ops[i]?=some op) (hd:op.dst=some d) (hr:Region.ready md ops listed=[i]) (hwt:Region.wanted op (yielded ops A.tmps)=true)
  (F:Nat) (xs:Array Operand) (ts:Array TypeId) (ho:op.op=.call { callee:=.value (.func F),args:=xs,argTypes:=ts })
  (args:Array Value) (hx:xs.map A.eval=args) (hen:∀ args w,(callFunc F args).run P w=.ok (.enter F args) w) (v:Value)
  (hc:Calls P F args w fun e w'=>e=.returned v∧S w')
  (h:∀ w',S w'→wpAnyH P md ops Q S fuel (listed.setIfInBounds i true) (A.put (some d) v) w') :
  wpAnyH P md ops Q S (fuel+1) listed A w:=by
 refine wpAnyH_ready hr (by simp) (AllReadyH.cons hi (fun K hK=>?_) AllReadyH.nil)
 refine ZkF hwt ?_
 unfold Oper.wp
 have e:(execOp A.eval op).run P w=.ok (.enter F args) w:=by
  have h1:=hen args w
  simp only[execOp,ho,resolve,invoke]
  have h2:A.eval (.func F)=.func (.func F) #[] #[]:=rfl
  simp only[h2,Deferred.ofValue,Sem.run_bind,Sem.run_pure,Result.andThen_ok,hx,Array.append_empty,Array.empty_append]
  exact h1
 rw[e,Oper.upon_enter]
 refine hc.mono ?_
 rintro e w' ⟨rfl,hb⟩
 exact hK.out _ _ hb (fun hu=>by rw[hd];exact h w' hu)
theorem ZdC {P:Program} {S:World→Prop} {md:Region.Mode} {ops:Array Oper} {Q:Exit→Act→World→Prop} {fuel:Nat} {listed:Array Bool} {A:Act} {w:World}
  (i d:Nat) (op:Oper) (hi:ops[i]?=some op) (hd:op.dst=some d) (hr:Region.ready md ops listed=[i]) (hwt:Region.wanted op (yielded ops A.tmps)=true)
  (F:Nat) (x:Operand) (xs:Array Operand) (ts:Array TypeId) (ho:op.op=.call { callee:=.value x,args:=xs,argTypes:=ts })
  (cap:Array Value) (hxv:A.eval x=.func (.func F) #[] cap) (args:Array Value) (hx:xs.map A.eval=args) (hen:∀ args w,(callFunc F args).run P w=.ok (.enter F args) w) (R:Value→World→Prop)
  (hc:Calls P F (args++cap) w fun e w'=>∃ v,e=.returned v∧S w'∧R v w')
  (h:∀ v w',S w'→R v w'→wpAnyH P md ops Q S fuel (listed.setIfInBounds i true) (A.put (some d) v) w') :
  wpAnyH P md ops Q S (fuel+1) listed A w:=by
 refine wpAnyH_ready hr (by simp) (AllReadyH.cons hi (fun K hK=>?_) AllReadyH.nil)
 refine ZkF hwt ?_
 unfold Oper.wp
 have e:(execOp A.eval op).run P w=.ok (.enter F (args++cap)) w:=by
  have h1:=hen (args++cap) w
  simp only[execOp,ho,resolve,invoke]
  simp only[hxv,Deferred.ofValue,Sem.run_bind,Sem.run_pure,Result.andThen_ok,hx,Array.empty_append]
  exact h1
 rw[e,Oper.upon_enter]
 refine hc.mono ?_
 rintro e w' ⟨v,rfl,hb,hR⟩
 exact hK.out _ _ hb (fun hu=>by rw[hd];exact h v w' hu hR)
theorem ZdK {P:Program} {S:World→Prop} {md:Region.Mode} {ops:Array Oper} {Q:Exit→Act→World→Prop} {fuel:Nat} {listed:Array Bool} {A:Act} {w:World}
  (i d:Nat) (op:Oper) (hi:ops[i]?=some op) (hd:op.dst=some d) (hr:Region.ready md ops listed=[i]) (hwt:Region.wanted op (yielded ops A.tmps)=true)
  (v:Value) (w':World) (he:(execOp A.eval op).run P w=.ok (.value v) w') (hS:S w')
  (h:wpAnyH P md ops Q S fuel (listed.setIfInBounds i true) (A.put (some d) v) w') :
  wpAnyH P md ops Q S (fuel+1) listed A w:=by
 refine wpAnyH_ready hr (by simp) (AllReadyH.cons hi (fun K hK=>?_) AllReadyH.nil)
 refine ZkF hwt ?_
 unfold Oper.wp
 rw[he,Oper.upon_value]
 exact hK.out _ _ hS (fun _=>by rw[hd];exact h)
theorem ZdH {P:Program} {S:World→Prop} {md:Region.Mode} {ops:Array Oper} {Q:Exit→Act→World→Prop} {fuel:Nat} {listed:Array Bool} {A:Act} {w:World}
  (i:Nat) (op:Oper) (hi:ops[i]?=some op) (hd:op.dst=none) (hr:Region.ready md ops listed=[i]) (hwt:Region.wanted op (yielded ops A.tmps)=true)
  (w':World) (he:(execOp A.eval op).run P w=.ok .skip w') (hS:S w')
  (h:wpAnyH P md ops Q S fuel (listed.setIfInBounds i true) A w') :
  wpAnyH P md ops Q S (fuel+1) listed A w:=by
 refine wpAnyH_ready hr (by simp) (AllReadyH.cons hi (fun K hK=>?_) AllReadyH.nil)
 refine ZkF hwt ?_
 unfold Oper.wp
 rw[he,Oper.upon_skip]
 exact hK.out _ _ hS (fun _=>by rw[hd];exact h)
theorem Y_t {P:Program} {S:World→Prop} {md:Region.Mode} {ops:Array Oper} {Q:Exit→Act→World→Prop} {fuel:Nat} {listed:Array Bool} {A:Act} {w:World} (i d:Nat) (op:Oper) (v:Value) (hi:ops[i]?=some op) (hy:YieldsIf P ops S op v A) (hS:S w) (h:wpAnyH P md ops Q S fuel (listed.setIfInBounds i true) (A.put (some d) v) w) (hd:op.dst=some d:=by kernel_rfl) (hs:Region.noSelect ops=true:=by kernel_rfl) (hf:Region.free md ops listed i=true:=by kernel_rfl) (hr:(Region.ready md ops listed).contains i=true:=by kernel_rfl) (hQ:∀c a w,Q (.panic c) (a.put op.dst v) w→Q (.panic c) a w:=by exact fun _ _ _ h=>h):wpAnyH P md ops Q S (fuel+1) listed A w:=ZdI i d op v hi hd hs hf hr hQ hy hS h
theorem Y_v {P:Program} {S:World→Prop} {md:Region.Mode} {ops:Array Oper} {Q:Exit→Act→World→Prop} {fuel:Nat} {listed:Array Bool} {A:Act} {w:World} (i d:Nat) (op:Oper) (hi:ops[i]?=some op) (v:Value) (w':World) (he:(execOp A.eval op).run P w=.ok (.value v) w') (hS:S w') (h:wpAnyH P md ops Q S fuel (listed.setIfInBounds i true) (A.put (some d) v) w') (hd:op.dst=some d:=by kernel_rfl) (hr:Region.ready md ops listed=[i]:=by kernel_rfl) (hwt:Region.wanted op (yielded ops A.tmps)=true:=by kernel_rfl):wpAnyH P md ops Q S (fuel+1) listed A w:=ZdK i d op hi hd hr hwt v w' he hS h
theorem Y_e {P:Program} {S:World→Prop} {md:Region.Mode} {ops:Array Oper} {Q:Exit→Act→World→Prop} {fuel:Nat} {listed:Array Bool} {A:Act} {w:World} (i d:Nat) (op:Oper) (hi:ops[i]?=some op) (F:Nat) (x:Operand) (xs:Array Operand) (ts:Array TypeId) (ho:op.op=.call {callee:=.value x,args:=xs,argTypes:=ts}) (cap:Array Value) (hxv:A.eval x=.func (.func F) #[] cap) (args:Array Value) (hx:xs.map A.eval=args) (hen:∀args w,(callFunc F args).run P w=.ok (.enter F args) w) (R:Value→World→Prop) (hc:Calls P F (args++cap) w fun e w'=>∃v,e=.returned v∧S w'∧R v w') (h:∀v w',S w'→R v w'→wpAnyH P md ops Q S fuel (listed.setIfInBounds i true) (A.put (some d) v) w') (hd:op.dst=some d:=by kernel_rfl) (hr:Region.ready md ops listed=[i]:=by kernel_rfl) (hwt:Region.wanted op (yielded ops A.tmps)=true:=by kernel_rfl):wpAnyH P md ops Q S (fuel+1) listed A w:=ZdC i d op hi hd hr hwt F x xs ts ho cap hxv args hx hen R hc h
theorem Y_s {P:Program} {S:World→Prop} {md:Region.Mode} {ops:Array Oper} {Q:Exit→Act→World→Prop} {fuel:Nat} {listed:Array Bool} {A:Act} {w:World} (i:Nat) (op:Oper) (hi:ops[i]?=some op) (w':World) (he:(execOp A.eval op).run P w=.ok .skip w') (hS:S w') (h:wpAnyH P md ops Q S fuel (listed.setIfInBounds i true) A w') (hd:op.dst=none:=by kernel_rfl) (hr:Region.ready md ops listed=[i]:=by kernel_rfl) (hwt:Region.wanted op (yielded ops A.tmps)=true:=by kernel_rfl):wpAnyH P md ops Q S (fuel+1) listed A w:=ZdH i op hi hd hr hwt w' he hS h
end

section
open Go.RowKit
def mkC (m:Mk):List Value:=[.int .u8 m.sg,.string ⟨m.tx.toArray⟩]
def mkcells (l:List Mk):List Value:=l.flatMap mkC
theorem infoMk:(Tryz.prog.info? 47).map (fun i=>(i.zero,i.size,i.bytes))=some (some (.agg #[.int .u8 0,.string ⟨#[]⟩]),2,24):=by kernel_rfl
theorem infoHk:(Tryz.prog.info? 45).map (fun i=>(i.zero,i.size,i.bytes))=some (some (.agg #[.int .i64 0,.int .i64 0,.int .i64 0,.int .i64 0,.slice none 0 0]),5,56):=by kernel_rfl
theorem Zgo (l:List Mk):(mkcells l).length=l.length * 2:=by
 induction l with
 | nil=>rfl
 | cons c l ih=>simp only[mkcells,List.flatMap_cons,List.length_append,List.length_cons] at ih ⊢;rw[ih];simp[mkC];omega
theorem Zgl (a b:List Mk):mkcells (a++b)=mkcells a++mkcells b:=by simp[mkcells]
theorem Zgp (l:List Mk):∀ u∈mkcells l,u.oneCell'=true:=by
 intro u hu
 simp only[mkcells,List.mem_flatMap,mkC] at hu
 obtain⟨c,_,h⟩:=hu
 simp only[List.mem_cons,List.not_mem_nil,or_false] at h
 rcases h with rfl | rfl<;>rfl
theorem Zgm (l:List Mk) (k:Nat) (hk:k<l.length):(mkcells l)[2 * k]?=some (.int .u8 l[k].sg)∧(mkcells l)[2 * k+1]?=some (.string ⟨l[k].tx.toArray⟩):=by
 induction l generalizing k with
 | nil=>simp at hk
 | cons c l ih =>
  cases k with
  | zero=>simp[mkcells,mkC]
  | succ k =>
   have h:=ih k (by simpa using hk)
   have e:∀ i,(mkcells (c::l))[2 * (k+1)+i]?=(mkcells l)[2 * k+i]?:=by
    intro i
    have:mkcells (c::l)=mkC c++mkcells l:=rfl
    rw[this,List.getElem?_append_right (by simp[mkC];omega)]
    congr 1
    simp[mkC];omega
   simp only[List.getElem_cons_succ]
   refine⟨by rw[← (h).1];exact e 0,by rw[← h.2];exact e 1⟩
def HMk (w:World) (v:Value) (l:List Mk):Prop:=Holds w v l.length (mkcells l)
theorem HMk.keep {w w':World} {v:Value} {l:List Mk} (h:HMk w v l) {N:Nat} (hk:Below N w w') (hN:w.heap.size≤N):HMk w' v l:=Holds.keep h fun k hk'=>hk.block k (by omega)
theorem HMk.at {w:World} {ao:Option Addr} {n c:Nat} {l:List Mk} (h:HMk w (.slice ao n c) l) (h0:0<l.length):∃ b off,ao=some ⟨b,off,none⟩∧b<w.heap.size ∧
  ∀ k (hk:k<l.length),w.cell? ⟨b,off+k * 2,none⟩=some (.int .u8 l[k].sg)∧w.cell? ⟨b,off+k * 2+1,none⟩=some (.string ⟨l[k].tx.toArray⟩):=by
 obtain⟨b,off,c',hv,hb,hc⟩:=Holds.at h (by rw[Zgo];omega)
 cases hv
 refine⟨b,off,rfl,hb,fun k hk=>?_⟩
 obtain⟨h0,h1⟩:=Zgm l k hk
 have hlen:=Zgo l
 have e:k * 2=2 * k:=by omega
 rw[e]
 refine⟨?_,?_⟩
 ·have:=hc (2 * k) (by omega)
  rw[← h0,this,List.getElem?_eq_getElem]
 ·have:=hc (2 * k+1) (by omega)
  rw[← h1,Nat.add_assoc,this,List.getElem?_eq_getElem]
theorem Low.mk {W w:World} (h:Low W w) {b off n c:Nat} {l:List Mk} (hl:HMk W (.slice (some ⟨b,off,none⟩) n c) l) (k:Nat) (hk:k<l.length) {x:Mk} (hx:l[k]=x):w.cell? ⟨b,off+k * 2,none⟩=some (.int .u8 x.sg)∧w.cell? ⟨b,off+k * 2+1,none⟩=some (.string ⟨x.tx.toArray⟩):=by
 obtain⟨b',off',e,_,hc⟩:=HMk.at (HMk.keep hl h (Nat.le_refl _)) (by omega)
 cases e
 rw[← hx]
 exact hc k hk
def hkV (h:Hk) (v:Value):Value:=.agg #[.int .i64 h.A,.int .i64 h.AN,.int .i64 h.B,.int .i64 h.BN,v]
def hkC (h:Hk) (v:Value):List Value:=[.int .i64 h.A,.int .i64 h.AN,.int .i64 h.B,.int .i64 h.BN,v]
def hkO (h:Hk) (v:Value):Obj:=.cells #[.int .i64 h.A,.int .i64 h.AN,.int .i64 h.B,.int .i64 h.BN,v] 45
def Hx (u:World) (b:Nat) (h:Hk) (v:Value):Prop:=u.heap[b]?=some (hkO h v)
section
variable {u u':World} {b:Nat} {h:Hk} {v:Value}
theorem Hx.cells (q:Hx u b h v):u.cell? ⟨b,0,none⟩=some (.int .i64 h.A)∧u.cell? ⟨b,1,none⟩=some (.int .i64 h.AN)∧u.cell? ⟨b,2,none⟩=some (.int .i64 h.B)∧u.cell? ⟨b,3,none⟩=some (.int .i64 h.BN)∧u.cell? ⟨b,4,none⟩=some v:=by
 unfold Hx hkO at q
 refine⟨?_,?_,?_,?_,?_⟩<;>rw[Lib.cell_of_heap q]<;>rfl
theorem Hx.frozen (q:Hx u b h v) (j:Nat):u.frozen? ⟨b,j,none⟩=false:=Lib.frozen_of_heap q j
theorem Hx.lt (q:Hx u b h v):b<u.heap.size:=(Array.getElem?_eq_some_iff.1 q).1
theorem Hx.low (q:Hx u b h v) (hg:Below u.heap.size u u'):Hx u' b h v:=(hg.block b q.lt).trans q
theorem Hx.keep (q:Hx u b h v) {g:Option Nat} (hg:u.grownBy u' g) (hr:some b≠g):Hx u' b h v:=(hg.block b q.lt hr).trans q
theorem Hx.new (w:World) (h:Hk) (v:Value):Hx (w.alloc (hkO h v)) w.heap.size h v:=_root_.Go.heap_alloc_new w _
end
def hkcells:List (Hk × Value)→List Value
 | []=>[]
 | (h,v)::l=>hkC h v++hkcells l
theorem Zej (l:List (Hk × Value)):(hkcells l).length=l.length * 5:=by
 induction l with
 | nil=>rfl
 | cons c l ih =>
  obtain⟨h,v⟩:=c
  simp only[hkcells,List.length_append,List.length_cons]
  rw[ih]
  simp[hkC];omega
theorem Zeh (a b:List (Hk × Value)):hkcells (a++b)=hkcells a++hkcells b:=by
 induction a with
 | nil=>rfl
 | cons c l ih =>
  obtain⟨h,v⟩:=c
  simp only[List.cons_append,hkcells,ih,List.append_assoc]
theorem Zei (l:List (Hk × Value)) (k:Nat) (hk:k<l.length):(hkcells l)[5 * k]?=some (.int .i64 l[k].1.A)∧(hkcells l)[5 * k+1]?=some (.int .i64 l[k].1.AN)∧(hkcells l)[5 * k+2]?=some (.int .i64 l[k].1.B)∧(hkcells l)[5 * k+3]?=some (.int .i64 l[k].1.BN)∧(hkcells l)[5 * k+4]?=some l[k].2:=by
 induction l generalizing k with
 | nil=>simp at hk
 | cons c l ih =>
  obtain⟨x,y⟩:=c
  cases k with
  | zero=>simp[hkcells,hkC]
  | succ k =>
   have h:=ih k (by simpa using hk)
   have e:∀ i,(hkcells ((x,y)::l))[5 * (k+1)+i]?=(hkcells l)[5 * k+i]?:=by
    intro i
    have:hkcells ((x,y)::l)=hkC x y++hkcells l:=rfl
    rw[this,List.getElem?_append_right (by simp[hkC];omega)]
    congr 1
    simp[hkC];omega
   simp only[List.getElem_cons_succ]
   refine⟨by rw[← (h).1];exact e 0,by rw[← h.2.1];exact e 1,by rw[← h.2.2.1];exact e 2,by rw[← h.2.2.2.1];exact e 3,by rw[← h.2.2.2.2];exact e 4⟩
structure HHp (w:World) (v:Value) (p:List (Hk × Value)):Prop where
 row:Holds w v p.length (hkcells p)
 ins:∀ x∈p,HMk w x.2 x.1.ls
def HHk (w:World) (v:Value) (l:List Hk):Prop:=∃ p:List (Hk × Value),p.map (·.1)=l∧HHp w v p
theorem HHp.keep {w w':World} {v:Value} {p:List (Hk × Value)} (h:HHp w v p) {N:Nat} (hk:Below N w w') (hN:w.heap.size≤N):HHp w' v p :=
 ⟨Holds.keep h.row fun k hk'=>hk.block k (by omega),fun x hx=>HMk.keep (h.ins x hx) hk hN⟩
theorem HHk.keep {w w':World} {v:Value} {l:List Hk} (h:HHk w v l) {N:Nat} (hk:Below N w w') (hN:w.heap.size≤N):HHk w' v l:=by
 obtain⟨p,hp,h⟩:=h
 exact⟨p,hp,h.keep hk hN⟩
theorem HHp.at {w:World} {ao:Option Addr} {n c:Nat} {l:List (Hk × Value)} (h:HHp w (.slice ao n c) l) (h0:0<l.length):∃ b off,ao=some ⟨b,off,none⟩∧b<w.heap.size ∧
  ∀ k (hk:k<l.length),w.cell? ⟨b,off+k * 5,none⟩=some (.int .i64 l[k].1.A)∧w.cell? ⟨b,off+k * 5+1,none⟩=some (.int .i64 l[k].1.AN)∧w.cell? ⟨b,off+k * 5+2,none⟩=some (.int .i64 l[k].1.B)∧w.cell? ⟨b,off+k * 5+3,none⟩=some (.int .i64 l[k].1.BN)∧w.cell? ⟨b,off+k * 5+4,none⟩=some l[k].2:=by
 obtain⟨b,off,c',hv,hb,hc⟩:=Holds.at h.row (by rw[Zej];omega)
 cases hv
 refine⟨b,off,rfl,hb,fun k hk=>?_⟩
 obtain⟨h0,h1,h2,h3,h4⟩:=Zei l k hk
 have hlen:=Zej l
 have e:k * 5=5 * k:=by omega
 rw[e]
 refine⟨?_,?_,?_,?_,?_⟩
 ·have:=hc (5 * k) (by omega)
  rw[← h0,this,List.getElem?_eq_getElem]
 ·have:=hc (5 * k+1) (by omega)
  rw[← h1,Nat.add_assoc,this,List.getElem?_eq_getElem]
 ·have:=hc (5 * k+2) (by omega)
  rw[← h2,Nat.add_assoc,this,List.getElem?_eq_getElem]
 ·have:=hc (5 * k+3) (by omega)
  rw[← h3,Nat.add_assoc,this,List.getElem?_eq_getElem]
 ·have:=hc (5 * k+4) (by omega)
  rw[← h4,Nat.add_assoc,this,List.getElem?_eq_getElem]
theorem HMk.form {w:World} {v:Value} {l:List Mk} (h:HMk w v l):∃ ao c,v=.slice ao l.length c:=Holds.form h
theorem ZjJ (w:World) (T E ty:TypeId) (z:Value) (size bytes:Nat) (hT:Tryz.prog.underlying T=some (.slice E)) (hinfo:(Tryz.prog.info? E).map (fun i=>(i.zero,i.size,i.bytes))=some (some z,size,bytes)) (hz1:z.cells.size=size) (hsz:0<size) (hby:bytes≤64)
  (base:Nat) (v:Value) (k:Nat) (xs:List Value) (hown:w.ownsRow base E size v k xs) (vx:Value) (m:Nat) (news:List Value) (hh:Holds w vx m news) (hl:news.length=m * size)
  (h1:∀ u∈news,u.oneCell'=true) (hk:k+m≤2199023255552) (hbase:base≤w.heap.size) :
  ∃ v' w',(Builtin.append_ #[T,T] ty #[v,vx]).run Tryz.prog w=.ok v' w'∧w'.ownsRow base E size v' (k+m) (xs++news)∧w.grownBy w' v.ownBlock∧(v'.ownBlock=v.ownBlock∨v'.ownBlock=some w.heap.size):=by
 obtain⟨i0,hi0,hz0,hzs,hz2⟩:=info_parts hinfo
 rcases hh with ⟨rfl,rfl,rfl⟩ | ⟨ad,c,rfl,_,hc⟩
 ·exact⟨v,w,run_append_owned_none (P:=Tryz.prog) (w:=w) base T ty E i0 size hT hi0 v k xs hown,by simpa using hown,World.grownBy.refl _ _,.inl rfl⟩
 ·obtain⟨v',w',hr,h2,h3,_,h5⟩:=run_append_own_at (P:=Tryz.prog) w base T ty E i0 z size bytes hT hi0 hz0 hzs hz2 hz1 hsz v k xs hown ad m c news hl hc h1 (by unfold maxLen;omega) (by
   have:(k+m) * bytes≤(k+m) * 64:=Nat.mul_le_mul_left _ hby
   omega) hbase
  exact⟨v',w',hr,h2,h3,h5⟩
theorem Zmi {ops:Array Oper} {rest:List Oper} {o:Oper} {a:Act} {Q:Exit→Act→World→Prop} (w:World) (hw:Region.wanted o (yielded ops a.tmps)=true) (s x:Operand) (T E:TypeId) (z:Value) (size bytes:Nat)
  (ho:o.op=.call { callee:=.builtin .append,args:=#[s,x],argTypes:=#[T,T] }) (hT:Tryz.prog.underlying T=some (.slice E)) (hinfo:(Tryz.prog.info? E).map (fun i=>(i.zero,i.size,i.bytes))=some (some z,size,bytes)) (hz1:z.cells.size=size) (hsz:0<size) (hby:bytes≤64)
  (base:Nat) (v:Value) (k:Nat) (xs:List Value) (hs:a.eval s=v) (hown:w.ownsRow base E size v k xs) (vx:Value) (m:Nat) (news:List Value) (hx:a.eval x=vx) (hh:Holds w vx m news) (hl:news.length=m * size)
  (h1:∀ u∈news,u.oneCell'=true) (hk:k+m≤2199023255552) (hbase:base≤w.heap.size)
  (h:∀ v' w',w'.ownsRow base E size v' (k+m) (xs++news)→w.grownBy w' v.ownBlock→(v'.ownBlock=v.ownBlock∨v'.ownBlock=some w.heap.size)→wpList Tryz.prog ops Q rest (a.put o.dst v') w'):wpList Tryz.prog ops Q (o::rest) a w:=by
 refine wpList_step fun K hK=>?_
 rw[if_pos hw]
 obtain⟨v',w',hr,h2,h3,h4⟩:=ZjJ w T E o.type z size bytes hT hinfo hz1 hsz hby base v k xs hown vx m news hh hl h1 hk hbase
 unfold Oper.wp
 simp[execOp,ho,resolve,invoke,builtin,hs,hx,hr,Result.andThen]
 exact hK _ _ (h v' w' h2 h3 h4)
theorem Zen (w:World) (base:Nat) (e:TypeId) (s:Nat):w.ownsRow base e s (.slice none 0 0) 0 []:=⟨by simp,.inl ⟨rfl,rfl⟩⟩
end

section
open Go.RowKit
end

section
open Go.RowKit
structure Ls (w:World) (g n:Nat) (Z:List Int) (u:World):Prop where
 low:Below w.heap.size w u
 own:u.ownsRow w.heap.size 3 1 (.slice (some ⟨g,0,none⟩) n n) n (icells Z)
theorem Ls.drewN {w u:World} {g n:Nat} {Z:List Int} (h:Ls w g n Z u) (k:Nat):Ls w g n Z (u.drewN k):=⟨Below.dN h.low k,h.own⟩
theorem Ls.keep {w u u':World} {g n:Nat} {Z:List Int} (h:Ls w g n Z u) (hb:Below u.heap.size u u'):Ls w g n Z u':=⟨h.low.trans (hb.mono h.low.size),ZhK h.own hb⟩
theorem Ls.set {w u:World} {g n:Nat} {Z:List Int} (h:Ls w g n Z u) (k:Nat) (m:Int):Ls w g n (Z.set k m) (u.setCell ⟨g,k,none⟩ (.int .i64 m)):=by
 obtain⟨p1,g1⟩:=h.own.stored k (.int .i64 m)
 have e:(icells Z).set k (.int .i64 m)=icells (Z.set k m):=by simp[icells,List.map_set]
 rw[e] at p1
 exact⟨h.low.grown g1 h.low.size (fun j hj=>ZhJ h.own (by simpa [Value.ownBlock] using hj)),p1⟩
theorem Ls.len {w u:World} {g n:Nat} {Z:List Int} (h:Ls w g n Z u):Z.length=n:=by
 have:=h.own.1
 rw[Zes,Nat.mul_one] at this
 exact this
theorem Ls.at {w u:World} {g n:Nat} {Z:List Int} (h:Ls w g n Z u) {k:Nat} {z:Int} (hz:Z[k]?=some z):u.cell? ⟨g,k,none⟩=some (.int .i64 z):=by
 have hl:=(List.getElem?_eq_some_iff.1 hz).1
 rw[h.len] at hl
 rw[h.own.cellAt k (by omega)]
 simp[icells,hz]
theorem ZfO {w u:World} (h:Low w u) (r:Option Nat):w.grownBy u r:=⟨Below.os h,Below.tape h,Below.output h,Below.size h,fun k hk _=>Below.block h k hk⟩
theorem ZdS (u:World) (g j:Nat) (v:Value):u.grownBy (u.setCell ⟨g,j,none⟩ v) (some g):=⟨rfl,rfl,rfl,(KeepsWalks.setCell u _ v).size,fun k _ hk=>Below.heap_setCell _ _ _ k (fun e=>hk (by rw[e]))⟩
theorem ZdR {w u:World} {r:Option Nat} (h:w.grownBy u r) {B:Nat} (hB:w.heap.size≤B) (j:Nat) (v:Value):w.grownBy (u.setCell ⟨B,j,none⟩ v) r :=
 ⟨h.os,h.tape,h.output,Nat.le_trans h.size (ZdS u B j v).size,fun k hk hn=>(heap_setCell_other u _ k _ (fun e=>by simp at e;omega)).trans (h.block k hk hn)⟩
theorem ZdP {w u:World} {r:Option Nat} (h:w.grownBy u r) (k:Nat):w.grownBy (u.drewN k) r:=⟨h.os,h.tape,h.output,h.size,h.block⟩
end

section
open Go.RowKit
end

section
open Go.RowKit
theorem bat (l:List UInt8) (k:Nat) (h:k<(⟨l.toArray⟩:ByteArray).size):(⟨l.toArray⟩:ByteArray)[k]'h=l[k]'(h):=rfl
attribute [local go_sem] bat ByteArray.extract_mk
theorem Zmm {n:Int} (h0:-9223372036854775808≤n) (h1:n≤9223372036854775807):IntKind.i64.wrap n=n:=by
 simp[IntKind.wrap,IntKind.bits,IntKind.signed]
 split<;>omega
end

section
open Go.RowKit
def mkO (m:Mk):Obj:=.cells #[.int .u8 m.sg,.string ⟨m.tx.toArray⟩] 47
def Mx (u:World) (b:Nat) (m:Mk):Prop:=u.heap[b]?=some (mkO m)
section
variable {u u':World} {b:Nat} {m:Mk}
theorem Mx.cells (q:Mx u b m):u.cell? ⟨b,0,none⟩=some (.int .u8 m.sg)∧u.cell? ⟨b,1,none⟩=some (.string ⟨m.tx.toArray⟩):=by
 unfold Mx mkO at q
 refine⟨?_,?_⟩<;>rw[Lib.cell_of_heap q]<;>rfl
theorem Mx.lt (q:Mx u b m):b<u.heap.size:=(Array.getElem?_eq_some_iff.1 q).1
theorem Mx.low (q:Mx u b m) (hg:Below u.heap.size u u'):Mx u' b m:=(hg.block b q.lt).trans q
theorem Mx.new (w:World) (m:Mk):Mx (w.alloc (mkO m)) w.heap.size m:=_root_.Go.heap_alloc_new w _
end
theorem Hx.row {W:World} {b:Nat} {h:Hk} {v:Value} (q:Hx W b h v) (n:Nat):Hx (W.drewN n) b h v:=q
end

section
open Go.RowKit
end

section
open Go.RowKit
def HOk (p:List (Hk × Value)):Prop:=p.length≤1099511627776∧∀ x∈p,x.1.ls.length≤1099511627776∧∀ m∈x.1.ls,m.tx.length≤1099511627776
theorem HHp.take {w W:World} {b off n c:Nat} {p:List (Hk × Value)} (h:HHp w (.slice (some ⟨b,off,none⟩) n c) p) (hB:Below w.heap.size w W) (k:Nat) (hk:k<p.length) {x:Hk} {y:Value} (hx:p[k]=(x,y)):(W.cell? ⟨b,off+k * 5,none⟩=some (.int .i64 x.A)∧W.cell? ⟨b,off+k * 5+1,none⟩=some (.int .i64 x.AN)∧W.cell? ⟨b,off+k * 5+2,none⟩=some (.int .i64 x.B)∧W.cell? ⟨b,off+k * 5+3,none⟩=some (.int .i64 x.BN)∧W.cell? ⟨b,off+k * 5+4,none⟩=some y)∧HMk W y x.ls:=by
 have h2:=h.keep hB (Nat.le_refl _)
 obtain⟨b',off',e,_,hc⟩:=h2.at (by omega)
 cases e
 have:=hc k hk
 rw[hx] at this
 refine⟨this,?_⟩
 have hi:=h2.ins p[k] (List.getElem_mem hk)
 rw[hx] at hi
 exact hi
end

section
open Go.RowKit
end

section
open Go.RowKit
theorem ZmZ {u:World} {b off n c i:Nat} (hi:i<n) {op:Oper} (x y:Operand) (ho:op.op=.indexAddr 40 x y) {ev:Operand→Value} (hx:ev x=.slice (some ⟨b,off,none⟩) n c) (hy:ev y=.int .i64 (i:Int)) :
  (execOp ev op).run Tryz.prog u=.ok (.value (.pointer (some ⟨b,off+i * 5,none⟩))) u:=by
 have i1:0≤(i:Int):=by omega
 have i2:(i:Int)<(n:Int):=by omega
 simp only[execOp,ho,hx,hy]
 go_simp
def HkAt (u:World) (b o:Nat) (x:Hk) (y:Value):Prop:=u.cell? ⟨b,o,none⟩=some (.int .i64 x.A)∧u.cell? ⟨b,o+1,none⟩=some (.int .i64 x.AN)∧u.cell? ⟨b,o+2,none⟩=some (.int .i64 x.B)∧u.cell? ⟨b,o+3,none⟩=some (.int .i64 x.BN)∧u.cell? ⟨b,o+4,none⟩=some y
theorem HkAt.low {u u':World} {b o:Nat} {x:Hk} {y:Value} (h:HkAt u b o x y) (hB:Low u u'):HkAt u' b o x y:=by
 have key:∀ (q:Addr) (z:Value),u.cell? q=some z→u'.cell? q=some z:=fun q z hz=>(World.cell?_of_block (w:=u) (Below.block hB _ (World.block_lt_of_cell? _ _ hz))).trans hz
 exact⟨key _ _ h.1,key _ _ h.2.1,key _ _ h.2.2.1,key _ _ h.2.2.2.1,key _ _ h.2.2.2.2⟩
theorem Zom {u:World} {b o:Nat} {h:Hk} {yo:Option Addr} {n yc:Nat} (q:HkAt u b o h (.slice yo n yc)) {op:Oper} (x:Operand) (ho:op.op=.load 45 x) {ev:Operand→Value} (hx:ev x=.pointer (some ⟨b,o,none⟩)) :
  (execOp ev op).run Tryz.prog u=.ok (.value (hkV h (.slice yo n yc))) u:=by
 obtain⟨d0,d1,d2,d3,d4⟩:=q
 unfold hkV
 simp only[execOp,ho,hx]
 go_simp
end

section
open Go.RowKit
theorem ZhG {u:World} {base:Nat} {e:TypeId} {s:Nat} {v:Value} {n:Nat} {xs:List Value} (h:u.ownsRow base e s v n xs) {g:Nat} (hg:v.ownBlock=some g):g<u.heap.size:=by
 rcases h.2 with ⟨rfl,_⟩ | ⟨b,cap,cur,rfl,_,hb,_⟩
 ·cases hg
 ·simp[Value.ownBlock] at hg
  subst hg
  exact (Array.getElem?_eq_some_iff.1 hb).1
theorem ZhH {u:World} {base base':Nat} {e e':TypeId} {s s':Nat} {v v':Value} {n n':Nat} {xs xs':List Value} (h:u.ownsRow base e s v n xs) (h':u.ownsRow base' e' s' v' n' xs') (he:e≠e') {g:Nat} (hg:v.ownBlock=some g):v'.ownBlock≠some g:=by
 intro hg'
 rcases h.2 with ⟨rfl,_⟩ | ⟨b,cap,cur,rfl,_,hb,_⟩
 ·cases hg
 ·rcases h'.2 with ⟨rfl,_⟩ | ⟨b',cap',cur',rfl,_,hb',_⟩
  ·cases hg'
  ·simp[Value.ownBlock] at hg hg'
   subst hg hg'
   rw[hb] at hb'
   simp at hb'
   exact he hb'.2
structure Hs (w:World) (ov:Value) (P:List (Hk × Value)) (u:World):Prop where
 low:Below w.heap.size w u
 own:u.ownsRow w.heap.size 45 5 ov P.length (hkcells P)
 ins:∀ x∈P,u.ownsRow w.heap.size 47 2 x.2 x.1.ls.length (mkcells x.1.ls)
theorem Hs.nil (w:World):Hs w (.slice none 0 0) [] w:=⟨Below.refl _ _,Zen _ _ _ _,fun _ h=>by cases h⟩
theorem Hs.alloc {w:World} {ov:Value} {P:List (Hk × Value)} {u:World} (h:Hs w ov P u) (o:Obj):Hs w ov P (u.alloc o):=⟨h.low.alloc h.low.size o,h.own.alloc o,fun x hx=>(h.ins x hx).alloc o⟩
theorem Hs.drewN {w:World} {ov:Value} {P:List (Hk × Value)} {u:World} (h:Hs w ov P u) (n:Nat):Hs w ov P (u.drewN n):=⟨Below.dN h.low n,h.own,h.ins⟩
theorem Hs.grown {w:World} {ov:Value} {P:List (Hk × Value)} {u u':World} (h:Hs w ov P u) {g:Option Nat} (hg:u.grownBy u' g) (hb:∀ k,g=some k→w.heap.size≤k) (h1:∀ k,g=some k→ov.ownBlock≠some k) (h2:∀ x∈P,∀ k,g=some k→x.2.ownBlock≠some k):Hs w ov P u':=by
 have key:∀ {e:TypeId} {s:Nat} {v:Value} {n:Nat} {xs:List Value},u.ownsRow w.heap.size e s v n xs→(∀ k,g=some k→v.ownBlock≠some k)→u'.ownsRow w.heap.size e s v n xs:=by
  intro e s v n xs ho hne
  refine⟨ho.1,?_⟩
  rcases ho.2 with q | ⟨b,cap,cur,rfl,q2,q3,q4⟩
  ·exact .inl q
  ·refine .inr ⟨b,cap,cur,rfl,q2,?_,q4⟩
   rw[hg.block b (Array.getElem?_eq_some_iff.1 q3).1 (fun e=>hne b e.symm rfl)]
   exact q3
 exact⟨h.low.grown hg h.low.size (fun k hk=>hb k hk),key h.own h1,fun x hx=>key (h.ins x hx) (h2 x hx)⟩
theorem Hs.lt {w:World} {ov:Value} {P:List (Hk × Value)} {u:World} (h:Hs w ov P u):(∀ k,ov.ownBlock=some k→k<u.heap.size)∧∀ x∈P,∀ k,x.2.ownBlock=some k→k<u.heap.size:=⟨fun _ hk=>ZhG h.own hk,fun x hx _ hk=>ZhG (h.ins x hx) hk⟩
theorem Hs.fresh {w:World} {ov:Value} {P:List (Hk × Value)} {u u1 u':World} (h:Hs w ov P u) (h1:Hs w ov P u1) {k:Nat} (hk:u.heap.size≤k) (hg:u1.grownBy u' (some k)):Hs w ov P u':=by
 have hl:=h.lt
 have hs:=h.low.size
 refine h1.grown hg (fun j hj=>by cases hj;omega) (fun j hj=>by cases hj;intro e;have:=hl.1 _ e;omega) (fun x hx j hj=>by cases hj;intro e;have:=hl.2 x hx _ e;omega)
theorem Hs.holds {w:World} {ov:Value} {P:List (Hk × Value)} {u:World} (h:Hs w ov P u):HHp u ov P:=⟨Zeo h.own,fun x hx=>Zeo (h.ins x hx)⟩
theorem Hs.more {w:World} {ov:Value} {P:List (Hk × Value)} {u u':World} (h:Hs w ov P u) {x:Hk} {y ov':Value} (hy:u.ownsRow w.heap.size 47 2 y x.ls.length (mkcells x.ls)) (hg:u.grownBy u' ov.ownBlock) (ho:u'.ownsRow w.heap.size 45 5 ov' (P.length+1) (hkcells P++hkC x y)):Hs w ov' (P++[(x,y)]) u':=by
 have key:∀ {v:Value} {n:Nat} {xs:List Value},u.ownsRow w.heap.size 47 2 v n xs→u'.ownsRow w.heap.size 47 2 v n xs:=by
  intro v n xs hv
  refine⟨hv.1,?_⟩
  rcases hv.2 with q | ⟨b,cap,cur,rfl,q2,q3,q4⟩
  ·exact .inl q
  ·refine .inr ⟨b,cap,cur,rfl,q2,?_,q4⟩
   rw[hg.block b (Array.getElem?_eq_some_iff.1 q3).1 (fun e=>ZhH h.own hv (by decide) e.symm rfl)]
   exact q3
 refine⟨h.low.grown hg h.low.size (fun j hj=>ZhJ h.own hj),?_,fun z hz=>?_⟩
 ·rw[Zeh,List.length_append]
  have e:hkcells [(x,y)]=hkC x y:=by simp[hkcells]
  rw[e]
  exact ho
 ·rcases List.mem_append.1 hz with hz | hz
  ·exact key (h.ins z hz)
  ·rw[List.mem_singleton.1 hz]
   exact key hy
theorem Zhz (w:World) (x:Hk) (y:Value):Holds (w.alloc (hkO x y)) (.slice (some ⟨w.heap.size,0,none⟩) 1 1) 1 (hkC x y):=ZgR w #[.int .i64 x.A,.int .i64 x.AN,.int .i64 x.B,.int .i64 x.BN,y] 45 1 1 (by decide)
theorem Zeb (x:Hk) {o:Option Addr} {n c:Nat}:∀ u∈hkC x (.slice o n c),u.oneCell'=true:=by
 intro u hu
 simp only[hkC,List.mem_cons,List.not_mem_nil,or_false] at hu
 rcases hu with rfl | rfl | rfl | rfl | rfl<;>rfl
theorem Hx.setl {u:World} {b:Nat} {h:Hk} {v:Value} (q:Hx u b h v) (z:Value):Hx (u.setCell ⟨b,4,none⟩ z) b h z:=heap_setCell_same u b 4 _ _ z q
end

section
open Go.RowKit
theorem ZhM {u:World} {base base':Nat} {e:TypeId} {s:Nat} {v:Value} {n:Nat} {xs:List Value} (h:u.ownsRow base e s v n xs) (hb:base'≤base):u.ownsRow base' e s v n xs:=by
 refine⟨h.1,?_⟩
 rcases h.2 with q | ⟨b,cap,cur,rfl,q2,q3,q4⟩
 ·exact .inl q
 ·exact .inr ⟨b,cap,cur,rfl,Nat.le_trans hb q2,q3,q4⟩
end

section
open Go.RowKit
theorem ZdJ {P:Program} {S:World→Prop} {md:Region.Mode} {ops:Array Oper} {Q:Exit→Act→World→Prop} {fuel:Nat} {listed:Array Bool} {A:Act} {w:World}
  (i d:Nat) (op:Oper) (j e:Nat) (oq:Oper) (hi:ops[i]?=some op) (hd:op.dst=some d) (hj:ops[j]?=some oq) (he:oq.dst=some e) (hr:Region.ready md ops listed=[i,j]) (hwt:Region.wanted op (yielded ops A.tmps)=true) (hwq:Region.wanted oq (yielded ops A.tmps)=true)
  (vp:Value) (wp:World) (hp:(execOp A.eval op).run P w=.ok (.value vp) wp) (hSp:S wp)
  (vq:Value) (wq:World) (hq:(execOp A.eval oq).run P w=.ok (.value vq) wq) (hSq:S wq)
  (h:wpAnyH P md ops Q S fuel (listed.setIfInBounds i true) (A.put (some d) vp) wp)
  (h2:wpAnyH P md ops Q S fuel (listed.setIfInBounds j true) (A.put (some e) vq) wq) :
  wpAnyH P md ops Q S (fuel+1) listed A w:=by
 refine wpAnyH_ready hr (by simp) (AllReadyH.cons hi (fun K hK=>?_) (AllReadyH.cons hj (fun K hK=>?_) AllReadyH.nil))
 ·refine ZkF hwt ?_
  unfold Oper.wp
  rw[hp,Oper.upon_value]
  exact hK.out _ _ hSp (fun _=>by rw[hd];exact h)
 ·refine ZkF hwq ?_
  unfold Oper.wp
  rw[hq,Oper.upon_value]
  exact hK.out _ _ hSq (fun _=>by rw[he];exact h2)
theorem ZcT {w w':World} {T:TypeId} {v vx v':Value} {op:Oper} (x y:Operand) (ho:op.op=.call { callee:=.builtin .append,args:=#[x,y],argTypes:=#[T,T] }) {ev:Operand→Value} (hx:ev x=v) (hy:ev y=vx) (hr:(Builtin.append_ #[T,T] op.type #[v,vx]).run Tryz.prog w=.ok v' w') :
  (execOp ev op).run Tryz.prog w=.ok (.value v') w':=by
 simp[execOp,ho,resolve,invoke,builtin,hx,hy,hr,Result.andThen]
structure Iv (w:World) (q:Hk) (ov:Value) (x:List Mk) (av:Value) (y:List Mk) (u:World):Prop where
 low:Below w.heap.size w u
 box:Hx u w.heap.size q ov
 own:u.ownsRow (w.heap.size+1) 47 2 ov x.length (mkcells x)
 add:u.ownsRow (w.heap.size+1) 47 2 av y.length (mkcells y)
 ne:∀ g,ov.ownBlock=some g→av.ownBlock≠some g
section
variable {w:World} {q:Hk} {ov ov' av av':Value} {x x' y y':List Mk} {u u':World}
theorem Iv.alloc (h:Iv w q ov x av y u) (o:Obj):Iv w q ov x av y (u.alloc o) :=
 ⟨h.low.alloc h.low.size o,h.box.low ((Below.refl _ u).alloc (Nat.le_refl _) o),h.own.alloc o,h.add.alloc o,h.ne⟩
theorem Iv.drewN (h:Iv w q ov x av y u) (n:Nat):Iv w q ov x av y (u.drewN n):=⟨Below.dN h.low n,h.box,h.own,h.add,h.ne⟩
theorem ZhF {e:TypeId} {s B:Nat} {v:Value} {n:Nat} {xs:List Value} (ho:u.ownsRow B e s v n xs) {g:Option Nat} (hg:u.grownBy u' g) (hne:∀ k,g=some k→v.ownBlock≠some k):u'.ownsRow B e s v n xs:=by
 refine⟨ho.1,?_⟩
 rcases ho.2 with q | ⟨b,cap,cur,rfl,q2,q3,q4⟩
 ·exact .inl q
 ·refine .inr ⟨b,cap,cur,rfl,q2,?_,q4⟩
  rw[hg.block b (Array.getElem?_eq_some_iff.1 q3).1 (fun e=>hne b e.symm rfl)]
  exact q3
theorem Iv.grow (h:Iv w q ov x av y u) (hg:u.grownBy u' ov.ownBlock) (ho:u'.ownsRow (w.heap.size+1) 47 2 ov' x'.length (mkcells x')) (hb:ov'.ownBlock=ov.ownBlock∨ov'.ownBlock=some u.heap.size):Hx u' w.heap.size q ov∧Iv w q ov' x' av y (u'.setCell ⟨w.heap.size,4,none⟩ ov'):=by
 have hbx:Hx u' w.heap.size q ov:=h.box.keep hg (fun e=>by have:=ZhJ h.own e.symm;omega)
 have hadd:=ZhF h.add hg (fun k hk=>h.ne k hk)
 have hs:=ZdS u' w.heap.size 4 ov'
 have hlow:Below w.heap.size w u':=h.low.grown hg h.low.size (fun j hj=>by have:=ZhJ h.own hj;omega)
 refine⟨hbx,hlow.grown hs hlow.size (fun j hj=>by cases hj;exact Nat.le_refl _),hbx.setl ov',ZhF ho hs ?_,ZhF hadd hs ?_,?_⟩
 ·intro k hk e
  cases hk
  have:=ZhJ ho e
  omega
 ·intro k hk e
  cases hk
  have:=ZhJ h.add e
  omega
 ·intro g hg' e
  rcases hb with hb | hb
  ·rw[hb] at hg'
   exact h.ne g hg' e
  ·rw[hb] at hg'
   cases hg'
   have:=ZhG h.add e
   omega
theorem Iv.wait (h:Iv w q ov x av y u) (hg:u.grownBy u' av.ownBlock) (ho:u'.ownsRow (w.heap.size+1) 47 2 av' y'.length (mkcells y')) (hb:av'.ownBlock=av.ownBlock∨av'.ownBlock=some u.heap.size):Iv w q ov x av' y' u':=by
 refine⟨h.low.grown hg h.low.size (fun j hj=>by have:=ZhJ h.add hj;omega),h.box.keep hg (fun e=>by have:=ZhJ h.add e.symm;omega),ZhF h.own hg (fun k hk e=>h.ne k e hk),ho,?_⟩
 intro g hg' e
 rcases hb with hb | hb
 ·rw[hb] at e
  exact h.ne g hg' e
 ·rw[hb] at e
  cases e
  have:=ZhG h.own hg'
  omega
theorem Iv.last (h:Iv w q ov x av y u) (hg:u.grownBy u' ov.ownBlock) (ho:u'.ownsRow (w.heap.size+1) 47 2 ov' x'.length (mkcells x')):Hx u' w.heap.size q ov∧Iv w q ov' x' (.slice none 0 0) [] (u'.setCell ⟨w.heap.size,4,none⟩ ov'):=by
 have hbx:Hx u' w.heap.size q ov:=h.box.keep hg (fun e=>by have:=ZhJ h.own e.symm;omega)
 have hs:=ZdS u' w.heap.size 4 ov'
 have hlow:Below w.heap.size w u':=h.low.grown hg h.low.size (fun j hj=>by have:=ZhJ h.own hj;omega)
 refine⟨hbx,hlow.grown hs hlow.size (fun j hj=>by cases hj;exact Nat.le_refl _),hbx.setl ov',ZhF ho hs ?_,Zen _ _ _ _,fun g _ e=>by cases e⟩
 intro k hk e
 cases hk
 have:=ZhJ ho e
 omega
theorem Hx.put5 {b:Nat} {h:Hk} {v:Value} (p:Hx u b h v) (z0 z1 z2 z3 z4:Value):(((((u.setCell ⟨b,0,none⟩ z0).setCell ⟨b,1,none⟩ z1).setCell ⟨b,2,none⟩ z2).setCell ⟨b,3,none⟩ z3).setCell ⟨b,4,none⟩ z4).heap[b]?=some (.cells #[z0,z1,z2,z3,z4] 45 (0,0)):=by
 have s1:=heap_setCell_same u b 0 _ _ z0 p
 have s2:=heap_setCell_same _ b 1 _ _ z1 s1
 have s3:=heap_setCell_same _ b 2 _ _ z2 s2
 have s4:=heap_setCell_same _ b 3 _ _ z3 s3
 exact heap_setCell_same _ b 4 _ _ z4 s4
theorem ZhC {e:TypeId} {s B B':Nat} {v:Value} {n:Nat} {xs:List Value} (ho:u.ownsRow B e s v n xs) (hB:B'≤B):u.ownsRow B' e s v n xs:=by
 refine⟨ho.1,?_⟩
 rcases ho.2 with q | ⟨b,cap,cur,rfl,q2,q3,q4⟩
 ·exact .inl q
 ·exact .inr ⟨b,cap,cur,rfl,by omega,q3,q4⟩
theorem Iv.none (h:Iv w q ov x av y u):Iv w q ov x (.slice none 0 0) [] u:=⟨h.low,h.box,h.own,Zen _ _ _ _,fun g _ e=>by cases e⟩
end
theorem Zgj (w:World) (m:Mk):Holds (w.alloc (mkO m)) (.slice (some ⟨w.heap.size,0,none⟩) 1 1) 1 (mkcells [m]):=ZgR w #[.int .u8 m.sg,.string ⟨m.tx.toArray⟩] 47 1 1 (by decide)
end

section
structure Pr where
 X:Int
 Y:Int
abbrev ab (p q:Pr):Prop:=q.X<p.X∧q.Y<p.Y
theorem Zal {p q r:Pr} (h:ab p q) (h':ab q r):ab p r:=⟨Int.lt_trans h'.1 h.1,Int.lt_trans h'.2 h.2⟩
def mxl (p:Pr):List Pr→List Nat→Nat
 | t::ts,n::ns=>if ab t p then max n (mxl p ts ns) else mxl p ts ns
 | _,_=>0
def rl:List Pr→List Nat
 | []=>[]
 | p::t=>(mxl p t (rl t)+1)::rl t
theorem Zgx (p:Pr) (t:List Pr) (ns:List Nat) (k:Nat) (q:Pr) (n:Nat) (hq:t[k]?=some q) (hn:ns[k]?=some n) (ha:ab q p):n≤mxl p t ns:=by
 induction t generalizing ns k with
 | nil=>simp at hq
 | cons a t ih =>
  cases ns with
  | nil=>simp at hn
  | cons b ns =>
   rw[mxl]
   cases k with
   | zero =>
    simp at hq hn
    subst hq hn
    rw[if_pos ha]
    omega
   | succ k =>
    have:=ih ns k (by simpa using hq) (by simpa using hn)
    split<;>omega
theorem Zgw (p:Pr) (t:List Pr) (ns:List Nat) (h:0<mxl p t ns):∃ (k:Nat) (q:Pr),t[k]?=some q∧ns[k]?=some (mxl p t ns)∧ab q p:=by
 induction t generalizing ns with
 | nil=>simp[mxl] at h
 | cons a t ih =>
  cases ns with
  | nil=>simp[mxl] at h
  | cons b ns =>
   rw[mxl] at h ⊢
   by_cases ha:ab a p
   ·rw[if_pos ha] at h ⊢
    by_cases hb:mxl p t ns≤b
    ·exact⟨0,a,rfl,by simp;omega,ha⟩
    ·obtain⟨k,q,h1,h2,h3⟩:=ih ns (by omega)
     exact⟨k+1,q,by simpa using h1,by simp[h2];omega,h3⟩
   ·rw[if_neg ha] at h ⊢
    obtain⟨k,q,h1,h2,h3⟩:=ih ns h
    exact⟨k+1,q,by simpa using h1,by simpa using h2,h3⟩
def Hd (t:List Pr) (n:Nat) (p:Pr):Prop:=∃ (k:Nat) (q:Pr),t[k]?=some q∧(rl t)[k]?=some (n+1)∧ab q p
theorem Hd.down {t:List Pr} {n:Nat} {p:Pr} (h:Hd t (n+1) p):Hd t n p:=by
 obtain⟨k,q,h1,h2,h3⟩:=h
 induction t generalizing k with
 | nil=>simp at h1
 | cons a t ih =>
  cases k with
  | zero =>
   simp[rl] at h1 h2
   subst h1
   obtain⟨j,r,g1,g2,g3⟩:=Zgw a t (rl t) (by omega)
   exact⟨j+1,r,by simpa using g1,by simp[rl,g2,h2],Zal g3 h3⟩
  | succ k =>
   obtain⟨j,r,g1,g2,g3⟩:=ih k (by simpa using h1) (by simpa [rl] using h2)
   exact⟨j+1,r,by simpa using g1,by simpa [rl] using g2,g3⟩
theorem Hd.downs {t : List Pr} {n m : Nat} {p : Pr} (h : Hd t n p) (hm : m ≤ n) : Hd t m p := by
  induction n with
  | zero => obtain rfl : m = 0 := by omega
            exact h
  | succ n ih =>
    by_cases e : m = n + 1
    · subst e; exact h
    · exact ih h.down (by omega)
def Stair (h:List Pr):Prop:=h.Pairwise fun a b=>b.X≤a.X∧a.Y≤b.Y
structure Hds (t:List Pr) (H:List (List Pr)):Prop where
 st:∀ h∈H,Stair h
 eq:∀ n h,H[n]?=some h→∀ p,(∃ a∈h,ab a p)↔Hd t n p
 top:∀ n∈rl t,n≤H.length
theorem Hds.beyond {t:List Pr} {H:List (List Pr)} (h:Hds t H) {n:Nat} (hn:H.length≤n) (p:Pr):¬ Hd t n p:=by
 rintro⟨k,q,h1,h2,h3⟩
 have:=h.top (n+1) (List.mem_of_getElem? h2)
 omega
theorem Zgy {t:List Pr} {H:List (List Pr)} (_h:Hds t H) {p:Pr} {n:Nat} (h1:∀ m,m<n→Hd t m p) (h2:¬ Hd t n p):mxl p t (rl t)=n:=by
 have hle:mxl p t (rl t)≤n:=by
  by_cases hc:mxl p t (rl t)≤n
  ·exact hc
  ·exfalso
   obtain⟨k,q,g1,g2,g3⟩:=Zgw p t (rl t) (by omega)
   have:Hd t (mxl p t (rl t)-1) p:=⟨k,q,g1,by rw[g2];congr 1;omega,g3⟩
   exact h2 (this.downs (by omega))
 cases n with
 | zero=>omega
 | succ n =>
  obtain⟨k,q,g1,g2,g3⟩:=h1 n (Nat.lt_succ_self n)
  have:=Zgx p t (rl t) k q (n+1) g1 g2 g3
  omega
def upto (h:List Pr) (x:Int):Nat:=h.findIdx fun a=>decide (a.X≤x)
def grt (h:List Pr) (y:Int):Nat:=h.findIdx fun a=>decide (y<a.Y)
def ins (h:List Pr) (p:Pr):List Pr:=h.take (upto h p.X)++p::h.drop (grt h p.Y)
theorem ZlN (h:List Pr) (x:Int):upto h x≤h.length:=List.findIdx_le_length
theorem ZlO {h:List Pr} {x:Int} {i:Nat} (hi:i<upto h x) (hl:i<h.length):x<h[i].X:=by
 have:=List.not_of_lt_findIdx (p:=fun a:Pr=>decide (a.X≤x)) (xs:=h) hi
 simpa using this
theorem ZlL {h:List Pr} (hs:Stair h) {x:Int} {i:Nat} (hi:upto h x≤i) (hl:i<h.length):h[i].X≤x:=by
 have h0:upto h x<h.length:=by omega
 have h1:h[upto h x].X≤x:=of_decide_eq_true (List.findIdx_getElem (p:=fun a:Pr=>decide (a.X≤x)) (xs:=h) (w:=h0))
 by_cases e:upto h x=i
 ·simpa [e] using h1
 ·have:=(List.pairwise_iff_getElem.1 hs) (upto h x) i h0 hl (by omega)
  omega
theorem ZdV {h:List Pr} {y:Int} {i:Nat} (hi:i<grt h y) (hl:i<h.length):h[i].Y≤y:=by
 have:=List.not_of_lt_findIdx (p:=fun a:Pr=>decide (y<a.Y)) (xs:=h) hi
 simpa using this
theorem ZdU {h:List Pr} (hs:Stair h) {y:Int} {i:Nat} (hi:grt h y≤i) (hl:i<h.length):y<h[i].Y:=by
 have h0:grt h y<h.length:=by omega
 have h1:y<h[grt h y].Y:=of_decide_eq_true (List.findIdx_getElem (p:=fun a:Pr=>decide (y<a.Y)) (xs:=h) (w:=h0))
 by_cases e:grt h y=i
 ·simpa [e] using h1
 ·have:=(List.pairwise_iff_getElem.1 hs) (grt h y) i h0 hl (by omega)
  omega
theorem ZlM {h:List Pr} (hs:Stair h) {p:Pr} (hn:¬ ∃ a∈h,ab a p):upto h p.X≤grt h p.Y:=by
 by_cases c:upto h p.X≤grt h p.Y
 ·exact c
 ·exfalso
  have hl:=ZlN h p.X
  exact hn ⟨h[grt h p.Y]'(by omega),List.getElem_mem _,ZlO (by omega) (by omega),ZdU hs (Nat.le_refl _) (by omega)⟩
theorem ZeL {h:List Pr} (hs:Stair h) {p:Pr} (hn:¬ ∃ a∈h,ab a p):Stair (ins h p):=by
 unfold ins Stair
 rw[List.pairwise_append]
 refine⟨hs.take,?_,?_⟩
 ·rw[List.pairwise_cons]
  refine⟨fun a ha=>?_,hs.drop⟩
  obtain⟨i,hi,rfl⟩:=List.getElem_of_mem ha
  rw[List.length_drop] at hi
  rw[List.getElem_drop]
  have hug:=ZlM hs hn
  exact⟨ZlL hs (by omega) (by omega),Int.le_of_lt (ZdU hs (by omega) (by omega))⟩
 ·intro a ha b hb
  obtain⟨i,hi,rfl⟩:=List.getElem_of_mem ha
  rw[List.length_take] at hi
  rw[List.getElem_take]
  have h1:=ZlO (h:=h) (x:=p.X) (i:=i) (by omega) (by omega)
  rw[List.mem_cons] at hb
  rcases hb with hb | hb
  ·rw[hb]
   refine⟨Int.le_of_lt h1,?_⟩
   by_cases c:h[i].Y≤p.Y
   ·exact c
   ·exact absurd ⟨h[i],List.getElem_mem _,h1,by omega⟩ hn
  ·obtain⟨j,hj,rfl⟩:=List.getElem_of_mem hb
   rw[List.length_drop] at hj
   rw[List.getElem_drop]
   have hug:=ZlM hs hn
   exact (List.pairwise_iff_getElem.1 hs) i (grt h p.Y+j) (by omega) (by omega) (by omega)
theorem ZeK {h:List Pr} (hs:Stair h) {p:Pr} (hn:¬ ∃ a∈h,ab a p) (q:Pr):(∃ a∈ins h p,ab a q)↔ab p q∨∃ a∈h,ab a q:=by
 constructor
 ·rintro⟨a,ha,hq⟩
  unfold ins at ha
  rw[List.mem_append,List.mem_cons] at ha
  rcases ha with ha | rfl | ha
  ·exact .inr ⟨a,List.mem_of_mem_take ha,hq⟩
  ·exact .inl hq
  ·exact .inr ⟨a,List.mem_of_mem_drop ha,hq⟩
 ·rintro (hq | ⟨a,ha,hq⟩)
  ·exact⟨p,by simp[ins],hq⟩
  ·obtain⟨i,hi,rfl⟩:=List.getElem_of_mem ha
   by_cases c1:i<upto h p.X
   ·refine⟨h[i],?_,hq⟩
    unfold ins
    rw[List.mem_append]
    left
    rw[List.mem_take_iff_getElem]
    exact⟨i,by omega,rfl⟩
   ·by_cases c2:i<grt h p.Y
    ·have h1:=ZlL hs (x:=p.X) (i:=i) (by omega) hi
     have h2:=ZdV (y:=p.Y) (i:=i) c2 hi
     have:=hq.1
     have:=hq.2
     exact⟨p,by simp[ins],by unfold ab;omega⟩
    ·refine⟨h[i],?_,hq⟩
     unfold ins
     rw[List.mem_append,List.mem_cons]
     right;right
     rw[List.mem_drop_iff_getElem]
     exact⟨i-grt h p.Y,by omega,by congr 1;omega⟩
def room (H:List (List Pr)) (n:Nat):List (List Pr):=if n=H.length then H++[[]] else H
theorem Hds.step {t:List Pr} {H:List (List Pr)} (h:Hds t H) {p:Pr} {n:Nat} (hn:n≤H.length) (h1:∀ m,m<n→Hd t m p) (h2:¬ Hd t n p) (g:List Pr) (hg:(room H n)[n]?=some g) :
  Hds (p::t) ((room H n).set n (ins g p))∧rl (p::t)=(n+1)::rl t∧Stair g∧¬ ∃ a∈g,ab a p:=by
 have hm:=Zgy h h1 h2
 have hr:rl (p::t)=(n+1)::rl t:=by rw[rl,hm]
 have hgs:Stair g∧∀ q,(∃ a∈g,ab a q)↔Hd t n q:=by
  unfold room at hg
  by_cases e:n=H.length
  ·rw[if_pos e,e,List.getElem?_append_right (Nat.le_refl _)] at hg
   simp at hg
   subst hg
   exact⟨List.Pairwise.nil,fun q=>⟨by simp,fun hh=>absurd hh (h.beyond (by omega) q)⟩⟩
  ·rw[if_neg e] at hg
   exact⟨h.st g (List.mem_of_getElem? hg),h.eq n g hg⟩
 have hna:¬ ∃ a∈g,ab a p:=fun c=>h2 ((hgs.2 p).1 c)
 have hlen:H.length≤(room H n).length∧n<(room H n).length:=by unfold room;split<;>simp<;>omega
 refine⟨⟨?_,?_,?_⟩,hr,hgs.1,hna⟩
 ·intro k hk
  rcases List.mem_or_eq_of_mem_set hk with hk | rfl
  ·unfold room at hk
   split at hk
   ·rw[List.mem_append,List.mem_singleton] at hk
    rcases hk with hk | rfl
    ·exact h.st k hk
    ·exact List.Pairwise.nil
   ·exact h.st k hk
  ·exact ZeL hgs.1 hna
 ·intro m k hk q
  by_cases e:m=n
  ·subst e
   rw[List.getElem?_set_self hlen.2] at hk
   cases hk
   rw[ZeK hgs.1 hna,hgs.2]
   constructor
   ·rintro (hq | ⟨j,r,g1,g2,g3⟩)
    ·exact⟨0,p,rfl,by rw[hr];rfl,hq⟩
    ·exact⟨j+1,r,by simpa using g1,by rw[hr];simpa using g2,g3⟩
   ·rintro⟨j,r,g1,g2,g3⟩
    cases j with
    | zero=>simp at g1;subst g1;exact .inl g3
    | succ j=>exact .inr ⟨j,r,by simpa using g1,by rw[hr] at g2;simpa using g2,g3⟩
  ·rw[List.getElem?_set_ne (fun e'=>e e'.symm)] at hk
   have hk':H[m]?=some k:=by
    unfold room at hk
    split at hk
    ·by_cases hml:m<H.length
     ·rwa [List.getElem?_append_left hml] at hk
     ·have:=(List.getElem?_eq_some_iff.1 hk).1
      simp at this
      omega
    ·exact hk
   rw[h.eq m k hk']
   constructor
   ·rintro⟨j,r,g1,g2,g3⟩
    exact⟨j+1,r,by simpa using g1,by rw[hr];simpa using g2,g3⟩
   ·rintro⟨j,r,g1,g2,g3⟩
    cases j with
    | zero=>rw[hr] at g2;simp at g2;omega
    | succ j=>exact⟨j,r,by simpa using g1,by rw[hr] at g2;simpa using g2,g3⟩
 ·intro m hm'
  rw[hr,List.mem_cons] at hm'
  rw[List.length_set]
  rcases hm' with rfl | hm'
  ·omega
  ·have:=h.top m hm'
   omega
end

section
def lc:List Int→List Int→Nat
 | [],_=>0
 | _::_,[]=>0
 | a::x,b::y=>if a=b then lc x y+1 else max (lc x (b::y)) (lc (a::x) y)
def gr:List Int→List Int→Nat
 | [],_=>0
 | _::_,[]=>0
 | a::x,b::y=>if a=b then gr x y+1 else gr (a::x) y
def kp (b:Int):List Int→List Int→List Int
 | [],_=>[]
 | _::x,[]=>-1::kp b x []
 | a::x,c::y=>if a=c then b::kp (b+1) x y else if lc (a::x) y≤lc x (c::y) then -1::kp b x (c::y) else kp (b+1) (a::x) y
theorem Zfn (b:Int) (y:List Int):kp b [] y=[]:=by rw[kp]
theorem Zfo (b:Int) (x:List Int):kp b x []=List.replicate x.length (-1):=by
 induction x with
 | nil=>rw[kp];rfl
 | cons a x ih=>rw[kp,ih];rfl
theorem Vk.up {a b m:Int} {K:List Int} (h:Vk b m K) (hab:a≤b):Vk a m K:=by
 induction K with
 | nil=>trivial
 | cons z t ih =>
  rcases h with ⟨h1,h2⟩ | ⟨h1,h2,h3⟩
  ·exact .inl ⟨h1,ih h2⟩
  ·exact .inr ⟨h1,by omega,h3⟩
theorem Vk.none (b m:Int) (k:Nat):Vk b m (List.replicate k (-1)):=by
 induction k with
 | zero=>trivial
 | succ k ih=>exact .inl ⟨rfl,ih⟩
def fr:List Int→List Int→Nat
 | a::x,b::y=>if a=b then fr x y+1 else 0
 | _,_=>0
def ln (x y:List Int) (i j:Nat):Nat:=lc (x.drop i) (y.drop j)
end

section
open Go.RowKit
def sm (r:Rn):Prop:=0≤r.a∧r.a≤4294967296∧0≤r.b∧r.b≤4294967296∧0≤r.n∧r.n≤4294967296
theorem Vk.lt {nx m:Int} {K:List Int} (h:Vk nx m K):∀ z∈K,z=-1∨z<m:=by
 induction K generalizing nx with
 | nil=>simp
 | cons y t ih =>
  intro z hz
  rw[List.mem_cons] at hz
  rcases h with ⟨rfl,h⟩ | ⟨hy,h1,h2,h3⟩
  ·rcases hz with rfl | hz
   ·exact .inl rfl
   ·exact ih h z hz
  ·rcases hz with rfl | hz
   ·exact .inr h2
   ·exact ih h3 z hz
end

section
open Go.RowKit
end

end Go.Proofs.YtcniomgjikienaaGreatDoor
