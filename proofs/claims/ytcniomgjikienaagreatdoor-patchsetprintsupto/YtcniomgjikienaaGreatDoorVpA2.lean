/-
  Texts that belong together, joined: EdRow, EdMath, EdM2, EdM3, EdM4, EdM5, HuMath, HuM2, HuM3, HuM4, HuM5, HuM6, EdChk, EdIter, EdOwn, EdKeep, EdWalk, EdDrew, EdRChk, HuRow, HuRf1.
-/
import Derived.Test.YtcniomgjikienaaGreatDoorProg
import Derived.WalkKit
import Derived.WalkSpells
import Derived.WalkLawsBesides
import Derived.Deep.QuietTactic
import Derived.BigQuiet
import Derived.Laws.AppendOwnNone
import Derived.Below
import Derived.RangeFuncNested
import Derived.RangeFuncBound
import Derived.RangeFuncCalls
import Derived.RangeFuncLeaves
import Derived.RangeFuncBox
import Derived.Shelf.Abstract
import Derived.Shelf.RegionOpen
import Derived.OwnWalkIn
import Derived.TacticsInMore
import Derived.LoopNIn
import Derived.LoopIn
import Derived.Maps.AppendAt
import Derived.Deep.RegionHeld3

set_option maxHeartbeats 16000000
set_option maxRecDepth 100000
namespace Go.Proofs.YtcniomgjikienaaGreatDoor

section
open Go.RowKit
theorem Y_a {α:Type} (l:List α) (i:Nat) (a:α):l.toArray.setIfInBounds i a=(l.set i a).toArray:=List.setIfInBounds_toArray ..
theorem Y_b {α:Type} {a b:α} {l:List α}:(a::l).set 0 b=b::l:=rfl
theorem Y_c {α:Type} {a b:α} {l:List α} {n:Nat}:(a::l).set (n+1) b=a::l.set n b:=rfl
structure Ch where
 A:Int
 AN:Int
 B:Int
 BN:Int
structure Rn where
 a:Int
 b:Int
 n:Int
def chV (c:Ch):Value:=.agg #[.int .i64 c.A,.int .i64 c.AN,.int .i64 c.B,.int .i64 c.BN]
def chC (c:Ch):List Value:=[.int .i64 c.A,.int .i64 c.AN,.int .i64 c.B,.int .i64 c.BN]
def rnC (r:Rn):List Value:=[.int .i64 r.a,.int .i64 r.b,.int .i64 r.n]
def chcells (l:List Ch):List Value:=l.flatMap chC
def rncells (l:List Rn):List Value:=l.flatMap rnC
def icells (ns:List Int):List Value:=ns.map fun z=>.int .i64 z
def scells (ws:List (List UInt8)):List Value:=ws.map fun a=>.string ⟨a.toArray⟩
theorem infoStr:(Tryz.prog.info? 9).map (fun i=>(i.zero,i.size,i.bytes))=some (some (.string ⟨#[]⟩),1,16):=by kernel_rfl
theorem infoCh:(Tryz.prog.info? 139).map (fun i=>(i.zero,i.size,i.bytes))=some (some (.agg #[.int .i64 0,.int .i64 0,.int .i64 0,.int .i64 0]),4,32):=by kernel_rfl
theorem Zap {W:World} {a:Addr} {v:Value} (h:W.cell? (a.add 0)=some v):∃ b off,a=⟨b,off,none⟩:=by
 obtain⟨b,off,spot⟩:=a
 have hspot:spot=none:=by simpa [Addr.add] using World.cell?_spot h
 subst hspot
 exact⟨b,off,rfl⟩
theorem Zao (b off j:Nat):(⟨b,off,none⟩:Addr).add j=⟨b,off+j,none⟩:=by unfold Addr.add;split<;>simp_all
theorem Below.dN {N:Nat} {w w1:World} (h:Below N w w1) (n:Nat):Below N w (w1.drewN n):=⟨h.os,h.tape,h.output,h.size,h.block⟩
def Holds (w:World) (v:Value) (n:Nat) (xs:List Value):Prop :=
 (v=.slice none 0 0∧n=0∧xs=[])∨∃ ad c,v=.slice (some ad) n c∧n≤c∧∀ j u,xs[j]?=some u→w.cell? (ad.add j)=some u
theorem Zeo {w:World} {B:Nat} {e:TypeId} {s:Nat} {v:Value} {n:Nat} {xs:List Value} (h:w.ownsRow B e s v n xs):Holds w v n xs:=by
 rcases h.2 with ⟨rfl,h0⟩ | ⟨g,cap,cur,rfl,_,_,hnc,_⟩
 ·exact .inl ⟨rfl,h0,List.eq_nil_of_length_eq_zero (by rw[h.1,h0,Nat.zero_mul])⟩
 ·exact .inr ⟨⟨g,0,none⟩,cap,rfl,hnc,h.cells (g:=g) rfl⟩
theorem Holds.keep {w w':World} {v:Value} {n:Nat} {xs:List Value} (h:Holds w v n xs) (hk:∀ k,k<w.heap.size→w'.heap[k]?=w.heap[k]?):Holds w' v n xs:=by
 rcases h with h | ⟨ad,c,hv,hnc,hc⟩
 ·exact .inl h
 ·refine .inr ⟨ad,c,hv,hnc,fun j u hj=>?_⟩
  have h1:=hc j u hj
  have hlt:=World.block_lt_of_cell? w _ h1
  rw[World.cell?_of_block (w:=w) (hk _ hlt)]
  exact h1
theorem Holds.form {w:World} {v:Value} {n:Nat} {xs:List Value} (h:Holds w v n xs):∃ ao c,v=.slice ao n c:=by
 rcases h with ⟨rfl,rfl,rfl⟩ | ⟨ad,c,rfl,_⟩
 ·exact⟨_,_,rfl⟩
 ·exact⟨_,_,rfl⟩
theorem Holds.at {w:World} {v:Value} {n:Nat} {xs:List Value} (h:Holds w v n xs) (h0:0<xs.length):∃ b off c,v=.slice (some ⟨b,off,none⟩) n c∧b<w.heap.size∧∀ j (hj:j<xs.length),w.cell? ⟨b,off+j,none⟩=some xs[j]:=by
 rcases h with ⟨_,_,rfl⟩ | ⟨ad,c,rfl,_,hc⟩
 ·simp at h0
 ·obtain⟨b,off,rfl⟩:=Zap (hc 0 _ (List.getElem?_eq_getElem h0))
  refine⟨b,off,c,rfl,World.block_lt_of_cell? w _ (hc 0 _ (List.getElem?_eq_getElem h0)),fun j hj=>?_⟩
  have:=hc j _ (List.getElem?_eq_getElem hj)
  rw[Zao] at this
  exact this
theorem Holds.nil (w:World):Holds w (.slice none 0 0) 0 []:=.inl ⟨rfl,rfl,rfl⟩
theorem Zbn (l:List Ch):(chcells l).length=l.length * 4:=by
 induction l with
 | nil=>rfl
 | cons c l ih=>simp only[chcells,List.flatMap_cons,List.length_append,List.length_cons] at ih ⊢;rw[ih];simp[chC];omega
theorem Zju (l:List Rn):(rncells l).length=l.length * 3:=by
 induction l with
 | nil=>rfl
 | cons c l ih=>simp only[rncells,List.flatMap_cons,List.length_append,List.length_cons] at ih ⊢;rw[ih];simp[rnC];omega
theorem Zes (l:List Int):(icells l).length=l.length:=by simp[icells]
theorem ZjT (l:List (List UInt8)):(scells l).length=l.length:=by simp[scells]
theorem ZtN (a b:List Ch):chcells (a++b)=chcells a++chcells b:=by simp[chcells]
theorem Zer (a b:List Int):icells (a++b)=icells a++icells b:=by simp[icells]
theorem ZzY (a b:List (List UInt8)):scells (a++b)=scells a++scells b:=by simp[scells]
theorem ZtO (l:List Ch):∀ u∈chcells l,u.oneCell'=true:=by
 intro u hu
 simp only[chcells,List.mem_flatMap,chC] at hu
 obtain⟨c,_,h⟩:=hu
 simp only[List.mem_cons,List.not_mem_nil,or_false] at h
 rcases h with rfl | rfl | rfl | rfl<;>rfl
theorem ZjU (l:List (List UInt8)):∀ u∈scells l,u.oneCell'=true:=by
 intro u hu
 simp only[scells,List.mem_map] at hu
 obtain⟨a,_,rfl⟩:=hu
 rfl
theorem Zbm (l:List Ch) (k:Nat) (hk:k<l.length):(chcells l)[4 * k]?=some (.int .i64 l[k].A)∧(chcells l)[4 * k+1]?=some (.int .i64 l[k].AN)∧(chcells l)[4 * k+2]?=some (.int .i64 l[k].B)∧(chcells l)[4 * k+3]?=some (.int .i64 l[k].BN):=by
 induction l generalizing k with
 | nil=>simp at hk
 | cons c l ih =>
  cases k with
  | zero=>simp[chcells,chC]
  | succ k =>
   have h:=ih k (by simpa using hk)
   have e:∀ i,(chcells (c::l))[4 * (k+1)+i]?=(chcells l)[4 * k+i]?:=by
    intro i
    have:chcells (c::l)=chC c++chcells l:=rfl
    rw[this,List.getElem?_append_right (by simp[chC];omega)]
    congr 1
    simp[chC];omega
   simp only[List.getElem_cons_succ]
   refine⟨by rw[← (h).1];exact e 0,by rw[← h.2.1];exact e 1,by rw[← h.2.2.1];exact e 2,by rw[← h.2.2.2];exact e 3⟩
theorem Zjt (l:List Rn) (k:Nat) (hk:k<l.length):(rncells l)[3 * k]?=some (.int .i64 l[k].a)∧(rncells l)[3 * k+1]?=some (.int .i64 l[k].b)∧(rncells l)[3 * k+2]?=some (.int .i64 l[k].n):=by
 induction l generalizing k with
 | nil=>simp at hk
 | cons c l ih =>
  cases k with
  | zero=>simp[rncells,rnC]
  | succ k =>
   have h:=ih k (by simpa using hk)
   have e:∀ i,(rncells (c::l))[3 * (k+1)+i]?=(rncells l)[3 * k+i]?:=by
    intro i
    have:rncells (c::l)=rnC c++rncells l:=rfl
    rw[this,List.getElem?_append_right (by simp[rnC];omega)]
    congr 1
    simp[rnC];omega
   simp only[List.getElem_cons_succ]
   refine⟨by rw[← (h).1];exact e 0,by rw[← h.2.1];exact e 1,by rw[← h.2.2];exact e 2⟩
def HCh (w:World) (v:Value) (l:List Ch):Prop:=Holds w v l.length (chcells l)
def HRn (w:World) (v:Value) (l:List Rn):Prop:=Holds w v l.length (rncells l)
def HI (w:World) (v:Value) (l:List Int):Prop:=Holds w v l.length (icells l)
def HS (w:World) (v:Value) (l:List (List UInt8)):Prop:=Holds w v l.length (scells l)
theorem HCh.keep {w w':World} {v:Value} {l:List Ch} (h:HCh w v l) {N:Nat} (hk:Below N w w') (hN:w.heap.size≤N):HCh w' v l:=Holds.keep h fun k hk'=>hk.block k (by omega)
theorem HRn.keep {w w':World} {v:Value} {l:List Rn} (h:HRn w v l) {N:Nat} (hk:Below N w w') (hN:w.heap.size≤N):HRn w' v l:=Holds.keep h fun k hk'=>hk.block k (by omega)
theorem HI.keep {w w':World} {v:Value} {l:List Int} (h:HI w v l) {N:Nat} (hk:Below N w w') (hN:w.heap.size≤N):HI w' v l:=Holds.keep h fun k hk'=>hk.block k (by omega)
theorem HS.keep {w w':World} {v:Value} {l:List (List UInt8)} (h:HS w v l) {N:Nat} (hk:Below N w w') (hN:w.heap.size≤N):HS w' v l:=Holds.keep h fun k hk'=>hk.block k (by omega)
theorem HCh.at {w:World} {ao:Option Addr} {n c:Nat} {l:List Ch} (h:HCh w (.slice ao n c) l) (h0:0<l.length):∃ b off,ao=some ⟨b,off,none⟩∧b<w.heap.size ∧
  ∀ k (hk:k<l.length),w.cell? ⟨b,off+k * 4,none⟩=some (.int .i64 l[k].A)∧w.cell? ⟨b,off+k * 4+1,none⟩=some (.int .i64 l[k].AN)∧w.cell? ⟨b,off+k * 4+2,none⟩=some (.int .i64 l[k].B)∧w.cell? ⟨b,off+k * 4+3,none⟩=some (.int .i64 l[k].BN):=by
 obtain⟨b,off,c',hv,hb,hc⟩:=Holds.at h (by rw[Zbn];omega)
 cases hv
 refine⟨b,off,rfl,hb,fun k hk=>?_⟩
 obtain⟨h0,h1,h2,h3⟩:=Zbm l k hk
 have hlen:=Zbn l
 have e:k * 4=4 * k:=by omega
 rw[e]
 refine⟨?_,?_,?_,?_⟩
 ·have:=hc (4 * k) (by omega)
  rw[← h0,this,List.getElem?_eq_getElem]
 ·have:=hc (4 * k+1) (by omega)
  rw[← h1,Nat.add_assoc,this,List.getElem?_eq_getElem]
 ·have:=hc (4 * k+2) (by omega)
  rw[← h2,Nat.add_assoc,this,List.getElem?_eq_getElem]
 ·have:=hc (4 * k+3) (by omega)
  rw[← h3,Nat.add_assoc,this,List.getElem?_eq_getElem]
theorem HRn.at {w:World} {ao:Option Addr} {n c:Nat} {l:List Rn} (h:HRn w (.slice ao n c) l) (h0:0<l.length):∃ b off,ao=some ⟨b,off,none⟩∧b<w.heap.size ∧
  ∀ k (hk:k<l.length),w.cell? ⟨b,off+k * 3,none⟩=some (.int .i64 l[k].a)∧w.cell? ⟨b,off+k * 3+1,none⟩=some (.int .i64 l[k].b)∧w.cell? ⟨b,off+k * 3+2,none⟩=some (.int .i64 l[k].n):=by
 obtain⟨b,off,c',hv,hb,hc⟩:=Holds.at h (by rw[Zju];omega)
 cases hv
 refine⟨b,off,rfl,hb,fun k hk=>?_⟩
 obtain⟨h0,h1,h2⟩:=Zjt l k hk
 have hlen:=Zju l
 have e:k * 3=3 * k:=by omega
 rw[e]
 refine⟨?_,?_,?_⟩
 ·have:=hc (3 * k) (by omega)
  rw[← h0,this,List.getElem?_eq_getElem]
 ·have:=hc (3 * k+1) (by omega)
  rw[← h1,Nat.add_assoc,this,List.getElem?_eq_getElem]
 ·have:=hc (3 * k+2) (by omega)
  rw[← h2,Nat.add_assoc,this,List.getElem?_eq_getElem]
theorem HI.at {w:World} {ao:Option Addr} {n c:Nat} {l:List Int} (h:HI w (.slice ao n c) l) (h0:0<l.length):∃ b off,ao=some ⟨b,off,none⟩∧b<w.heap.size ∧
  ∀ k (hk:k<l.length),w.cell? ⟨b,off+k,none⟩=some (.int .i64 l[k]):=by
 obtain⟨b,off,c',hv,hb,hc⟩:=Holds.at h (by rw[Zes];omega)
 cases hv
 exact⟨b,off,rfl,hb,fun k hk=>by rw[hc k (by rw[Zes];exact hk)];simp[icells]⟩
theorem HS.at {w:World} {ao:Option Addr} {n c:Nat} {l:List (List UInt8)} (h:HS w (.slice ao n c) l) (h0:0<l.length):∃ b off,ao=some ⟨b,off,none⟩∧b<w.heap.size ∧
  ∀ k (hk:k<l.length),w.cell? ⟨b,off+k,none⟩=some (.string ⟨l[k].toArray⟩):=by
 obtain⟨b,off,c',hv,hb,hc⟩:=Holds.at h (by rw[ZjT];omega)
 cases hv
 exact⟨b,off,rfl,hb,fun k hk=>by rw[hc k (by rw[ZjT];exact hk)];simp[scells]⟩
end

section
def nat31 (z:Int):Bool:=decide (0≤z) && decide (z≤2147483647)
def numB (c:Ch):Bool:=nat31 c.A && nat31 c.AN && nat31 c.B && nat31 c.BN && (decide (0<c.AN) || decide (0<c.BN))
theorem Zhj (c:Ch):numB c=true↔(0≤c.A∧c.A≤2147483647)∧(0≤c.AN∧c.AN≤2147483647)∧(0≤c.B∧c.B≤2147483647)∧(0≤c.BN∧c.BN≤2147483647)∧(0<c.AN∨0<c.BN):=by
 simp[numB,nat31,and_assoc]
def Right:Bool→Int→Int→Int→Int→List Ch→Prop
 | _,a,b,n,m,[]=>a≤n∧b≤m∧n-a=m-b
 | f,a,b,n,m,c::l=>(numB c=true∧c.A-a=c.B-b∧a≤c.A∧(f=true∨a<c.A))∧Right false (c.A+c.AN) (c.B+c.BN) n m l
def decRight:(f:Bool)→(a b n m:Int)→(l:List Ch)→Decidable (Right f a b n m l)
 | _,a,b,n,m,[]=>inferInstanceAs (Decidable (a≤n∧b≤m∧n-a=m-b))
 | f,a,b,n,m,c::l =>
  have _:=decRight false (c.A+c.AN) (c.B+c.BN) n m l
  inferInstanceAs (Decidable ((numB c=true∧c.A-a=c.B-b∧a≤c.A∧(f=true∨a<c.A))∧Right false (c.A+c.AN) (c.B+c.BN) n m l))
theorem Right.le {f:Bool} {a b n m:Int} {l:List Ch} (h:Right f a b n m l):a≤n∧b≤m∧n-a-(m-b)=n-a-(m-b):=by
 induction l generalizing f a b with
 | nil=>exact⟨h.1,h.2.1,rfl⟩
 | cons c l ih =>
  obtain⟨⟨h1,h2,h3,h4⟩,h5⟩:=h
  rw[Zhj] at h1
  have:=ih h5
  refine⟨by omega,by omega,rfl⟩
def Script (l:List Ch) (n m:Int):Prop:=0≤n∧0≤m∧Right true 0 0 n m l
def decScript (l:List Ch) (n m:Int):Decidable (Script l n m) :=
 have _:=decRight true 0 0 n m l
 inferInstanceAs (Decidable (0≤n∧0≤m∧Right true 0 0 n m l))
def chk (l:List Ch) (n m:Int):Int:=@ite Int (Script l n m) (decScript l n m) 0 50
theorem ZtW {l:List Ch} {n m:Int} (h:Script l n m):chk l n m=0:=if_pos h
theorem ZtU {l:List Ch} {n m:Int} (h:¬ Script l n m):chk l n m=50:=if_neg h
def piecesL:Int→Int→Int→Int→List Ch→List (Rn × Ch)
 | a,b,n,m,[]=>[(⟨a,b,n-a⟩,⟨n,0,m,0⟩)]
 | a,b,n,m,c::l=>(⟨a,b,c.A-a⟩,c)::piecesL (c.A+c.AN) (c.B+c.BN) n m l
def Pc (n m:Int) (x:Rn × Ch):Prop :=
 0≤x.1.a∧0≤x.1.b∧0≤x.1.n∧x.1.a+x.1.n≤n∧x.1.b+x.1.n≤m∧0≤x.2.B∧0≤x.2.BN∧x.2.B+x.2.BN≤m∧0≤x.2.AN∧x.2.AN≤n
theorem Right.pc {f:Bool} {a b n m:Int} {c:Ch} {l:List Ch} (h:Right f a b n m (c::l)) (ha:0≤a) (hb:0≤b):Pc n m (⟨a,b,c.A-a⟩,c):=by
 obtain⟨⟨h1,h2,h3,h4⟩,h5⟩:=h
 rw[Zhj] at h1
 have:=h5.le
 refine⟨ha,hb,?_,?_,?_,?_,?_,?_,?_,?_⟩<;>dsimp only<;>omega
def cut (A:List (List UInt8)) (i n:Int):List (List UInt8):=(A.drop i.toNat).take n.toNat
end

section
def un (a b:Int):Nat→List Rn
 | 0=>[]
 | k+1=>⟨a,b,1⟩::un (a+1) (b+1) k
def ex (r:Rn):List Rn:=un r.a r.b r.n.toNat
def exs (rs:List Rn):List Rn:=rs.flatMap ex
theorem Zdb (r:Rn) (rs:List Rn):exs (r::rs)=ex r++exs rs:=rfl
theorem Zga {a b:Int} {k:Nat} {r:Rn}:r∈un a b k↔r.n=1∧a≤r.a∧r.a<a+k∧r.b-r.a=b-a:=by
 induction k generalizing a b with
 | zero=>simp[un];omega
 | succ k ih =>
  rw[un,List.mem_cons,ih]
  constructor
  ·rintro (rfl | h)
   ·simp;omega
   ·omega
  ·rintro⟨h1,h2,h3,h4⟩
   by_cases h:r.a=a
   ·left
    obtain⟨x,y,z⟩:=r
    simp only at *
    subst h h1
    have:y=b:=by omega
    rw[this]
   ·right
    omega
theorem ZfX {p r:Rn}:r∈ex p↔r.n=1∧p.a≤r.a∧r.a<p.a+p.n.toNat∧r.b-r.a=p.b-p.a:=Zga
theorem ZAK (a b:Int) (i j:Nat):un a b (i+j)=un a b i++un (a+i) (b+i) j:=by
 induction i generalizing a b with
 | zero=>simp[un]
 | succ i ih =>
  rw[show i+1+j=(i+j)+1 by omega,un,un,ih]
  simp only[List.cons_append]
  congr 3<;>omega
def Chain:Int→Int→List Rn→Prop
 | _,_,[]=>True
 | a,b,r::rs=>a≤r.a∧b≤r.b∧0≤r.n∧Chain (r.a+r.n) (r.b+r.n) rs
theorem Chain.low {a b:Int} {rs:List Rn} (h:Chain a b rs):∀ r∈exs rs,r.n=1∧a≤r.a∧b≤r.b:=by
 induction rs generalizing a b with
 | nil=>simp[exs]
 | cons p rs ih =>
  obtain⟨h1,h2,h3,h4⟩:=h
  intro r hr
  rw[Zdb,List.mem_append,ZfX] at hr
  rcases hr with hr | hr
  ·omega
  ·have:=ih h4 r hr
   omega
theorem Chain.mono {a b a' b':Int} {rs:List Rn} (h:Chain a b rs) (ha:a'≤a) (hb:b'≤b):Chain a' b' rs:=by
 cases rs with
 | nil=>trivial
 | cons p rs=>exact⟨by have:=h.1;omega,by have:=h.2.1;omega,h.2.2⟩
def Up (l:List Rn):Prop:=l.Pairwise fun p q=>p.a<q.a∧p.b<q.b
theorem ZlF (a b:Int) (k:Nat):Up (un a b k):=by
 induction k generalizing a b with
 | zero=>exact List.Pairwise.nil
 | succ k ih =>
  refine List.Pairwise.cons (fun r hr=>?_) (ih _ _)
  rw[Zga] at hr
  dsimp only
  omega
theorem Chain.up {a b:Int} {rs:List Rn} (h:Chain a b rs):Up (exs rs):=by
 induction rs generalizing a b with
 | nil=>exact List.Pairwise.nil
 | cons p rs ih =>
  obtain⟨h1,h2,h3,h4⟩:=h
  rw[Zdb]
  refine List.pairwise_append.2 ⟨ZlF _ _ _,ih h4,fun r hr q hq=>?_⟩
  rw[ZfX] at hr
  have:=h4.low q hq
  omega
def rns (a b n m:Int) (l:List Ch):List Rn:=(piecesL a b n m l).map (·.1)
def U (a b n m:Int) (l:List Ch):List Rn:=exs (rns a b n m l)
theorem Zah (a b n m:Int):U a b n m []=un a b (n-a).toNat:=by simp[U,rns,piecesL,exs,ex]
theorem Zag (a b n m:Int) (c:Ch) (l:List Ch):U a b n m (c::l)=un a b (c.A-a).toNat++U (c.A+c.AN) (c.B+c.BN) n m l:=by
 simp[U,rns,piecesL,exs,ex]
theorem Right.chain {f:Bool} {a b n m:Int} {l:List Ch} (h:Right f a b n m l):Chain a b (rns a b n m l):=by
 induction l generalizing f a b with
 | nil =>
  obtain⟨h1,h2,h3⟩:=h
  exact⟨Int.le_refl _,Int.le_refl _,by dsimp only;omega,trivial⟩
 | cons c l ih =>
  obtain⟨⟨h1,h2,h3,h4⟩,h5⟩:=h
  rw[Zhj] at h1
  refine⟨Int.le_refl _,Int.le_refl _,by dsimp only;omega,(ih h5).mono ?_ ?_⟩<;>dsimp only<;>omega
theorem Right.up {f:Bool} {a b n m:Int} {l:List Ch} (h:Right f a b n m l):Up (U a b n m l):=h.chain.up
theorem Right.first {a b n m:Int} {l:List Ch} (h:Right false a b n m l):∃ e t,U a b n m l++[⟨n,m,0⟩]=e::t∧e.a=a∧e.b=b:=by
 cases l with
 | nil =>
  obtain⟨h1,h2,h3⟩:=h
  rw[Zah]
  by_cases hn:n=a
  ·subst hn
   exact⟨⟨n,m,0⟩,[],by simp[un],rfl,by dsimp only;omega⟩
  ·obtain⟨k,hk⟩:∃ k:Nat,(n-a).toNat=k+1:=⟨(n-a).toNat-1,by omega⟩
   rw[hk,un]
   exact⟨_,_,rfl,rfl,rfl⟩
 | cons c l =>
  obtain⟨⟨h1,h2,h3,h4⟩,h5⟩:=h
  have hlt:a<c.A:=by simpa using h4
  rw[Zag]
  obtain⟨k,hk⟩:∃ k:Nat,(c.A-a).toNat=k+1:=⟨(c.A-a).toNat-1,by omega⟩
  rw[hk,un]
  exact⟨_,_,rfl,rfl,rfl⟩
end

section
def Fit:Int→Int→Int→Int→List Rn→Prop
 | a,b,n,m,[]=>a≤n∧b≤m
 | a,b,n,m,r::P=>a≤r.a∧b≤r.b∧r.n=1∧Fit (r.a+1) (r.b+1) n m P
theorem Fit.le {a b n m:Int} {P:List Rn} (h:Fit a b n m P):a≤n∧b≤m:=by
 induction P generalizing a b with
 | nil=>exact h
 | cons r P ih=>have:=ih h.2.2.2;have h1:=h.1;have h2:=h.2.1;omega
theorem Right.bounds {f:Bool} {a b n m:Int} {l:List Ch} (h:Right f a b n m l):∀ r∈U a b n m l,r.n=1∧a≤r.a∧r.a<n∧b≤r.b∧r.b<m:=by
 induction l generalizing f a b with
 | nil =>
  obtain⟨h1,h2,h3⟩:=h
  intro r hr
  rw[Zah,Zga] at hr
  omega
 | cons c l ih =>
  obtain⟨⟨h1,h2,h3,h4⟩,h5⟩:=h
  rw[Zhj] at h1
  have hle:=h5.le
  intro r hr
  rw[Zag,List.mem_append,Zga] at hr
  rcases hr with hr | hr
  ·omega
  ·have:=ih h5 r hr
   omega
def UpA (l:List Rn):Prop:=l.Pairwise fun p q=>p.a<q.a
theorem Up.a {l:List Rn} (h:Up l):UpA l:=h.imp fun h=>h.1
def Vk:Int→Int→List Int→Prop
 | _,_,[]=>True
 | nx,m,z::t=>(z=-1∧Vk nx m t)∨(z≠-1∧nx≤z∧z<m∧Vk (z+1) m t)
theorem Vk.each {nx m:Int} {K:List Int} (h:Vk nx m K) (h0:0≤nx):∀ z∈K,z=-1∨0≤z:=by
 induction K generalizing nx with
 | nil=>simp
 | cons y t ih =>
  intro z hz
  rw[List.mem_cons] at hz
  rcases h with ⟨rfl,h⟩ | ⟨hy,h1,h2,h3⟩
  ·rcases hz with rfl | hz
   ·exact .inl rfl
   ·exact ih h h0 z hz
  ·rcases hz with rfl | hz
   ·right;omega
   ·exact ih h3 (by omega) z hz
end

section
section
variable {x y:List Ch} {n m k:Int}
end
end

section
def mo (s z:Int):Int:=s+min (max z 0) (2147483647-s)
end

section
structure Mk where
 sg:Int
 tx:List UInt8
structure Hk where
 A:Int
 AN:Int
 B:Int
 BN:Int
 ls:List Mk
def okS (s:Int):Bool:=decide (s=32) || decide (s=45) || decide (s=43)
def pkL (no:Int):List Mk→List (List UInt8)
 | []=>[]
 | m::l=>if m.sg≠no∧okS m.sg=true then m.tx::pkL no l else pkL no l
def oldL (h:Hk):List (List UInt8):=pkL 43 h.ls
def newL (h:Hk):List (List UInt8):=pkL 45 h.ls
theorem Zil (no:Int) (x y:List Mk):pkL no (x++y)=pkL no x++pkL no y:=by
 induction x with
 | nil=>rfl
 | cons m x ih =>
  simp only[List.cons_append,pkL,ih]
  split<;>simp
theorem Zyn (no:Int) (x:List Mk):(pkL no x).length≤x.length:=by
 induction x with
 | nil=>simp[pkL]
 | cons m x ih =>
  simp only[pkL]
  split<;>simp<;>omega
def gcons (ctx:Int) (c:Ch):List Ch→List (List Ch)→List (List Ch)
 | d::_,g::gs=>if d.A-c.A-c.AN≤2 * ctx then (c::g)::gs else [c]::g::gs
 | _,gs=>[c]::gs
def grp (ctx:Int):List Ch→List (List Ch)
 | []=>[]
 | c::l=>gcons ctx c l (grp ctx l)
theorem Zvq (ctx:Int) (c:Ch) (l:List Ch):∃ g gs,grp ctx (c::l)=(c::g)::gs:=by
 cases l with
 | nil=>exact⟨[],[],rfl⟩
 | cons d l =>
  show ∃ g gs,gcons ctx c (d::l) (grp ctx (d::l))=_
  cases grp ctx (d::l) with
  | nil=>exact⟨_,_,rfl⟩
  | cons g gs =>
   simp only[gcons]
   split
   ·exact⟨_,_,rfl⟩
   ·exact⟨_,_,rfl⟩
theorem Zvn (ctx:Int) (c d:Ch) (l:List Ch):∃ g gs,grp ctx (d::l)=(d::g)::gs∧grp ctx (c::d::l)=if d.A-c.A-c.AN≤2 * ctx then (c::d::g)::gs else [c]::(d::g)::gs:=by
 obtain⟨g,gs,h⟩:=Zvq ctx d l
 refine⟨g,gs,h,?_⟩
 show gcons ctx c (d::l) (grp ctx (d::l))=_
 rw[h]
 rfl
theorem Zvo (ctx:Int) (l:List Ch):(grp ctx l).flatten=l:=by
 induction l with
 | nil=>rfl
 | cons c l ih =>
  cases l with
  | nil=>rfl
  | cons d l =>
   obtain⟨g,gs,h1,h2⟩:=Zvn ctx c d l
   rw[h2]
   rw[h1] at ih
   split<;>simp at ih ⊢<;>exact ih
theorem Zvr (ctx:Int) (l:List Ch):∀ g∈grp ctx l,g≠[]:=by
 induction l with
 | nil=>simp[grp]
 | cons c l ih =>
  cases l with
  | nil=>simp[grp,gcons]
  | cons d l =>
   obtain⟨g,gs,h1,h2⟩:=Zvn ctx c d l
   rw[h2]
   rw[h1] at ih
   intro x hx
   split at hx
   ·simp at hx
    rcases hx with rfl | hx
    ·simp
    ·exact ih x (by simp[hx])
   ·simp at hx
    rcases hx with rfl | rfl | hx
    ·simp
    ·simp
    ·exact ih x (by simp[hx])
theorem Zvs (ctx:Int) (l:List Ch) (c d:Ch):∃ gs g,grp ctx (l++[c])=gs++[g++[c]]∧grp ctx (l++[c]++[d])=if d.A-c.A-c.AN≤2 * ctx then gs++[g++[c]++[d]] else gs++[g++[c]]++[[d]]:=by
 induction l with
 | nil =>
  refine⟨[],[],rfl,?_⟩
  rfl
 | cons e l ih =>
  obtain⟨gs,g,h1,h2⟩:=ih
  have key:∀ (x:List Ch),x≠[]→∀ G:List (List Ch),grp ctx x=G→∃ e',x.head?=some e'∧grp ctx (e::x)=if e'.A-e.A-e.AN≤2 * ctx then (match G with | g::gs=>(e::g)::gs | []=>[[e]]) else [e]::G:=by
   intro x hx G hG
   cases x with
   | nil=>exact absurd rfl hx
   | cons y x =>
    obtain⟨g,gs,q1,q2⟩:=Zvn ctx e y x
    refine⟨y,rfl,?_⟩
    rw[q2]
    rw[q1] at hG
    subst hG
    rfl
  obtain⟨e1,f1,k1⟩:=key (l++[c]) (by simp) _ h1
  obtain⟨e2,f2,k2⟩:=key (l++[c]++[d]) (by simp) _ h2
  have he:e1=e2:=by
   cases l with
   | nil=>simp at f1 f2;rw[← f1,← f2]
   | cons y l=>simp at f1 f2;rw[← f1,← f2]
  subst he
  by_cases hn:e1.A-e.A-e.AN≤2 * ctx
  ·rw[if_pos hn] at k1 k2
   cases gs with
   | nil =>
    refine⟨[],e::g,by rw[List.cons_append,k1];rfl,?_⟩
    rw[List.cons_append,List.cons_append,k2]
    by_cases hd:d.A-c.A-c.AN≤2 * ctx
    ·rw[if_pos hd,if_pos hd];rfl
    ·rw[if_neg hd,if_neg hd];rfl
   | cons g0 gs =>
    refine⟨(e::g0)::gs,g,by rw[List.cons_append,k1];rfl,?_⟩
    rw[List.cons_append,List.cons_append,k2]
    by_cases hd:d.A-c.A-c.AN≤2 * ctx
    ·rw[if_pos hd,if_pos hd];rfl
    ·rw[if_neg hd,if_neg hd];rfl
  ·rw[if_neg hn] at k1 k2
   refine⟨[e]::gs,g,by rw[List.cons_append,k1];rfl,?_⟩
   rw[List.cons_append,List.cons_append,k2]
   by_cases hd:d.A-c.A-c.AN≤2 * ctx
   ·rw[if_pos hd,if_pos hd];rfl
   ·rw[if_neg hd,if_neg hd];rfl
def mks (s:Int) (x:List (List UInt8)):List Mk:=x.map fun t=>⟨s,t⟩
def bodyH (a b:List (List UInt8)) (e:Int):Int→List Ch→List Mk
 | p,[]=>mks 32 (cut a p (e-p))
 | p,c::g=>mks 32 (cut a p (c.A-p))++(mks 45 (cut a c.A c.AN)++(mks 43 (cut b c.B c.BN)++bodyH a b e (c.A+c.AN) g))
def cntH (a b:Int) (ls:List Mk):Hk:=⟨if 0<(pkL 43 ls).length then a+1 else a,(pkL 43 ls).length,if 0<(pkL 45 ls).length then b+1 else b,(pkL 45 ls).length,ls⟩
def endH (n ctx:Int):List Ch→Int
 | []=>0
 | [c]=>min n (c.A+c.AN+ctx)
 | _::d::g=>endH n ctx (d::g)
def oneH (a b:List (List UInt8)) (ctx:Int) (g:List Ch):Hk:=match g with
 | []=>⟨0,0,0,0,[]⟩
 | f::g=>cntH (f.A-min ctx f.A) (f.B-min ctx f.A) (bodyH a b (endH a.length ctx (f::g)) (f.A-min ctx f.A) (f::g))
def grpE (l:List Ch) (n m ctx:Int):Int:=if chk l n m≠0 then chk l n m else if ctx<0∨100<ctx then 2 else 0
def grpR (l:List Ch) (n m ctx:Int):List (List Ch):=if grpE l n m ctx=0 then grp ctx l else []
def mkR (l:List Ch) (a b:List (List UInt8)) (ctx:Int):List Hk:=(grpR l a.length b.length ctx).map (oneH a b ctx)
def linB (s:List UInt8):Bool:=!s.isEmpty && s.dropLast.all fun c=>c != 10
def fdB (s:List UInt8):Bool:=s.getLast? == some 10
def lstB (sg:Int) (l:List Mk):Bool:=l.all fun m=>decide (m.sg≠sg) && decide (m.sg≠32)
def fldB:List Mk→Bool
 | []=>true
 | m::l=>linB m.tx && okS m.sg && (fdB m.tx || ((decide (m.sg=43) || lstB 45 l) && (decide (m.sg=45) || lstB 43 l))) && fldB l
def rngB (h:Hk):Bool:=nat31 h.A && nat31 h.AN && nat31 h.B && nat31 h.BN && !(decide (h.A=0) && decide (0<h.AN)) && !(decide (h.B=0) && decide (0<h.BN))
def chkH (h:Hk):Int:=if rngB h=false then 2 else if fldB h.ls=false then 6 else if h.AN≠(oldL h).length∨h.BN≠(newL h).length then 120 else if h.ls.all (fun m=>decide (m.sg=32))=true then 50 else 0
def atA (h:Hk):Int:=if 0<h.AN then h.A-1 else h.A
def atB (h:Hk):Int:=if 0<h.BN then h.B-1 else h.B
def ordB:Int→Int→List Hk→Bool
 | _,_,[]=>true
 | u,v,h::l=>decide (u≤atA h) && decide (atA h-u=atB h-v) && ordB (atA h+h.AN) (atB h+h.BN) l
def errs:List Hk→Int
 | []=>0
 | h::l=>if chkH h≠0 then chkH h else errs l
def ordH (l:List Hk):Int:=if errs l≠0 then errs l else if ordB 0 0 l=true then 0 else 121
def invG:List Mk→List Mk→List Mk
 | x,[]=>x
 | x,m::l=>if m.sg=43 then ⟨45,m.tx⟩::invG x l else if m.sg=45 then invG (x++[⟨43,m.tx⟩]) l else x++m::invG [] l
def invH (h:Hk):Hk:=⟨h.B,h.BN,h.A,h.AN,invG [] h.ls⟩
def endsAt (a b:Int):List Ch→Bool
 | []=>false
 | c::_=>decide (c.A+c.AN=a) && decide (c.B+c.BN=b)
def bmA:List Ch→List Ch
 | []=>[]
 | c::r=>⟨c.A,c.AN+1,c.B,c.BN⟩::r
def bmB:List Ch→List Ch
 | []=>[]
 | c::r=>⟨c.A,c.AN,c.B,c.BN+1⟩::r
def opn (a b:Int) (r:List Ch):List Ch:=if endsAt a b r=true then r else ⟨a,0,b,0⟩::r
def chLs:Int→Int→List Ch→List Mk→List Ch
 | _,_,r,[]=>r
 | a,b,r,m::l=>if m.sg=32 then chLs (a+1) (b+1) r l else if m.sg=45 then chLs (a+1) b (bmA (opn a b r)) l else chLs a (b+1) (bmB (opn a b r)) l
def chHs:List Ch→List Hk→List Ch
 | r,[]=>r
 | r,h::l=>chHs (chLs (atA h) (atB h) r h.ls) l
def chR (l:List Hk):List Ch:=if ordH l=0 then (chHs [] l).reverse else []
end

section
theorem Zyk (no:Int) (hno:no=43∨no=45) (x:List (List UInt8)):pkL no (mks 32 x)=x:=by
 induction x with
 | nil=>rfl
 | cons t x ih =>
  show pkL no (⟨32,t⟩::mks 32 x)=_
  simp only[pkL,ih]
  rw[if_pos ⟨by omega,by decide⟩]
theorem Zij (no s:Int) (hs:no≠s) (ho:okS s=true) (x:List (List UInt8)):pkL no (mks s x)=x:=by
 induction x with
 | nil=>rfl
 | cons t x ih =>
  show pkL no (⟨s,t⟩::mks s x)=_
  simp only[pkL,ih]
  rw[if_pos ⟨by omega,ho⟩]
theorem Zik (s:Int) (x:List (List UInt8)):pkL s (mks s x)=[]:=by
 induction x with
 | nil=>rfl
 | cons t x ih =>
  show pkL s (⟨s,t⟩::mks s x)=_
  simp only[pkL,ih]
  simp
def AllS (s:Int) (x:List Mk):Prop:=∀ m∈x,m.sg=s
theorem AllS.nil (s:Int):AllS s []:=fun _ h=>by cases h
def Nf:Bool→List Mk→Prop
 | _,[]=>True
 | s,m::l=>if m.sg=45 then s=false∧Nf false l else if m.sg=43 then Nf true l else Nf false l
def abl:List (List UInt8)→Bool
 | []=>true
 | t::r=>(r.isEmpty || fdB t) && abl r
theorem ZfP {no s:Int} (hn:no=43∧s=45∨no=45∧s=43) {l:List Mk} (h:∀ m∈l,okS m.sg=true):lstB s l=(pkL no l).isEmpty:=by
 induction l with
 | nil=>rfl
 | cons m l ih =>
  have hm:=h m (by simp)
  have hi:=ih fun q hq=>h q (by simp[hq])
  simp only[lstB,List.all_cons,pkL] at hi ⊢
  rw[hi]
  have hcase:m.sg=32∨m.sg=45∨m.sg=43:=by simp[okS] at hm;omega
  by_cases hno:m.sg=no
  ·rw[if_neg (fun q=>q.1 hno)]
   have e1:decide (m.sg≠s)=true:=decide_eq_true (by omega)
   have e2:decide (m.sg≠32)=true:=decide_eq_true (by omega)
   rw[e1,e2]
   simp
  ·rw[if_pos ⟨hno,hm⟩]
   have e:(decide (m.sg≠s) && decide (m.sg≠32))=false:=by simp;omega
   rw[e]
   simp
theorem Zdq (l:List Mk):fldB l=true↔(∀ m∈l,linB m.tx=true∧okS m.sg=true)∧abl (pkL 43 l)=true∧abl (pkL 45 l)=true:=by
 induction l with
 | nil=>simp[fldB,pkL,abl]
 | cons m l ih =>
  simp only[fldB,Bool.and_eq_true,ih]
  constructor
  ·rintro⟨⟨⟨h1,h2⟩,h3⟩,h4,h5,h6⟩
   have hok:∀ q∈l,okS q.sg=true:=fun q hq=>(h4 q hq).2
   rw[ZfP (no:=43) (by omega) hok,ZfP (no:=45) (by omega) hok] at h3
   refine⟨?_,?_,?_⟩
   ·intro q hq
    simp at hq
    rcases hq with rfl | hq
    ·exact⟨h1,h2⟩
    ·exact h4 q hq
   ·simp only[pkL]
    by_cases hs:m.sg=43
    ·rw[if_neg (fun q=>q.1 hs)]
     exact h5
    ·rw[if_pos ⟨hs,h2⟩]
     simp only[abl,h5,Bool.and_true]
     simp[hs] at h3
     rcases h3 with h3 | h3
     ·simp[h3]
     ·simp[h3.1]
   ·simp only[pkL]
    by_cases hs:m.sg=45
    ·rw[if_neg (fun q=>q.1 hs)]
     exact h6
    ·rw[if_pos ⟨hs,h2⟩]
     simp only[abl,h6,Bool.and_true]
     simp[hs] at h3
     rcases h3 with h3 | h3
     ·simp[h3]
     ·simp[h3.2]
  ·rintro⟨h1,h2,h3⟩
   have hm:=h1 m (by simp)
   have h4:∀ q∈l,linB q.tx=true∧okS q.sg=true:=fun q hq=>h1 q (by simp[hq])
   have hok:∀ q∈l,okS q.sg=true:=fun q hq=>(h4 q hq).2
   rw[ZfP (no:=43) (by omega) hok,ZfP (no:=45) (by omega) hok]
   simp only[pkL] at h2 h3
   refine⟨⟨hm,?_⟩,h4,?_,?_⟩
   ·by_cases hs:m.sg=43
    ·rw[if_pos ⟨by omega,hm.2⟩] at h3
     simp only[abl,Bool.and_eq_true,Bool.or_eq_true] at h3
     rcases h3.1 with q | q
     ·simp[hs,q]
     ·simp[q]
    ·rw[if_pos ⟨hs,hm.2⟩] at h2
     simp only[abl,Bool.and_eq_true,Bool.or_eq_true] at h2
     by_cases hr:m.sg=45
     ·rcases h2.1 with q | q
      ·simp[hr,q]
      ·simp[q]
     ·rw[if_pos ⟨hr,hm.2⟩] at h3
      simp only[abl,Bool.and_eq_true,Bool.or_eq_true] at h3
      rcases h2.1 with q | q
      ·rcases h3.1 with q' | q'
       ·simp[q,q']
       ·simp[q']
      ·simp[q]
   ·by_cases hs:m.sg=43
    ·rw[if_neg (fun q=>q.1 hs)] at h2
     exact h2
    ·rw[if_pos ⟨hs,hm.2⟩] at h2
     simp only[abl,Bool.and_eq_true] at h2
     exact h2.2
   ·by_cases hs:m.sg=45
    ·rw[if_neg (fun q=>q.1 hs)] at h3
     exact h3
    ·rw[if_pos ⟨hs,hm.2⟩] at h3
     simp only[abl,Bool.and_eq_true] at h3
     exact h3.2
end

section
theorem ZvS {A:List (List UInt8)} {p k:Int} (hp:0≤p) (hk:0≤k) (h:p+k≤A.length):((cut A p k).length:Int)=k:=by
 simp only[cut,List.length_take,List.length_drop]
 omega
theorem Zuu {A:List (List UInt8)} {p i j:Int} (hp:0≤p) (hi:0≤i) (hj:0≤j):cut A p i++cut A (p+i) j=cut A p (i+j):=by
 simp only[cut]
 rw[show (p+i).toNat=p.toNat+i.toNat by omega,show (i+j).toNat=i.toNat+j.toNat by omega,← List.drop_drop,List.take_add]
theorem Zuv {A:List (List UInt8)} {p i x j k:Int} (hp:0≤p) (hi:0≤i) (hj:0≤j) (hx:x=p+i) (hk:k=i+j):cut A p i++cut A x j=cut A p k:=by
 rw[hx,hk]
 exact Zuu hp hi hj
theorem Zuy (A:List (List UInt8)) (p:Int):cut A p 0=[]:=by simp[cut]
def endA:Int→List Ch→Int
 | p,[]=>p
 | _,c::g=>endA (c.A+c.AN) g
def endB:Int→List Ch→Int
 | q,[]=>q
 | _,c::g=>endB (c.B+c.BN) g
theorem ZuM (n ctx:Int) (f:Ch) (g:List Ch) (p:Int):endH n ctx (f::g)=min n (endA p (f::g)+ctx):=by
 induction g generalizing f p with
 | nil=>rfl
 | cons d g ih=>exact ih d 0
theorem Zzx {fl:Bool} {p q n m:Int} {g rest:List Ch} (h:Right fl p q n m (g++rest)):(Right false (endA p g) (endB q g) n m rest∨g=[])∧p≤endA p g∧q≤endB q g∧endA p g≤n∧endB q g≤m:=by
 induction g generalizing fl p q with
 | nil =>
  have:=h.le
  exact⟨.inr rfl,Int.le_refl _,Int.le_refl _,this.1,this.2.1⟩
 | cons c g ih =>
  obtain⟨⟨h1,h2,h3,h4⟩,h5⟩:=h
  rw[Zhj] at h1
  obtain⟨k1,k2,k3,k4,k5⟩:=ih h5
  refine⟨.inl ?_,?_,?_,k4,k5⟩
  ·rcases k1 with k1 | rfl
   ·exact k1
   ·exact h5
  ·show p≤endA (c.A+c.AN) g
   omega
  ·show q≤endB (c.B+c.BN) g
   omega
theorem ZzE {fl:Bool} {p q n m:Int} {rest:List Ch} (h:Right fl p q n m rest) {e:Int} (he:e≤(rest.head?.map (·.A)).getD n):q+(e-p)≤m:=by
 cases rest with
 | nil =>
  obtain⟨h1,h2,h3⟩:=h
  simp at he
  omega
 | cons c rest =>
  obtain⟨⟨h1,h2,h3,h4⟩,h5⟩:=h
  rw[Zhj] at h1
  have:=h5.le
  simp at he
  omega
theorem Ztu {a b:List (List UInt8)} {fl:Bool} {p q m e:Int} {g rest:List Ch} (h:Right fl p q a.length m (g++rest)) (hp:0≤p) (he:endA p g≤e):pkL 43 (bodyH a b e p g)=cut a p (e-p):=by
 induction g generalizing fl p q with
 | nil=>exact Zyk 43 (.inl rfl) _
 | cons c g ih =>
  obtain⟨⟨h1,h2,h3,h4⟩,h5⟩:=h
  rw[Zhj] at h1
  have hi:=ih h5 (by omega) he
  have hm:=(Zzx h5).2.1
  have he':endA (c.A+c.AN) g≤e:=he
  simp only[bodyH,Zil]
  rw[hi,Zyk 43 (.inl rfl),Zij 43 45 (by decide) (by decide),Zik,List.nil_append,Zuv (k:=e-c.A) (by omega) (by omega) (by omega) rfl (by omega),Zuv (k:=e-p) hp (by omega) (by omega) (by omega) (by omega)]
theorem Ztt {a b:List (List UInt8)} {fl:Bool} {p q e:Int} {g rest:List Ch} (h:Right fl p q a.length b.length (g++rest)) (hp:0≤p) (hq:0≤q) (he:endA p g≤e) (hn:e≤a.length):((pkL 45 (bodyH a b e p g)).length:Int)=endB q g+(e-endA p g)-q:=by
 induction g generalizing fl p q with
 | nil =>
  simp only[bodyH,endA,endB]
  have he':p≤e:=he
  rw[Zyk 45 (.inr rfl),ZvS hp (by omega) (by omega)]
  omega
 | cons c g ih =>
  obtain⟨⟨h1,h2,h3,h4⟩,h5⟩:=h
  rw[Zhj] at h1
  have hi:=ih h5 (by omega) (by omega) he
  obtain⟨_,e1,e2,e3,e4⟩:=Zzx h5
  have he':endA (c.A+c.AN) g≤e:=he
  have x1:=ZvS (A:=a) (p:=p) (k:=c.A-p) hp (by omega) (by omega)
  have x2:=ZvS (A:=b) (p:=c.B) (k:=c.BN) (by omega) (by omega) (by omega)
  simp only[bodyH,Zil,endA,endB]
  rw[Zyk 45 (.inr rfl),Zij 45 43 (by decide) (by decide),Zik,List.nil_append]
  simp only[List.length_append]
  omega
theorem ZzC {fl:Bool} {p q n m x y:Int} {c:Ch} {l:List Ch} (h:Right fl p q n m (c::l)) (h1:p≤x) (h2:x≤c.A) (h3:y-x=q-p):Right true x y n m (c::l)∧∀ r∈U x y n m (c::l),r∈U p q n m (c::l):=by
 obtain⟨⟨k1,k2,k3,k4⟩,k5⟩:=h
 refine⟨⟨⟨k1,by omega,by omega,.inl rfl⟩,k5⟩,fun r hr=>?_⟩
 rw[Zag] at hr ⊢
 rw[show (c.A-p).toNat=(x-p).toNat+(c.A-x).toNat by omega,ZAK,List.append_assoc,show p+((x-p).toNat:Int)=x by omega,show q+((x-p).toNat:Int)=y by omega]
 exact List.mem_append_right _ hr
def Hgs (ctx:Int):List (List Ch)→Prop
 | []=>True
 | g::gs=>g≠[]∧(∀ d,gs.flatten.head?=some d→2 * ctx<d.A-endA 0 g)∧Hgs ctx gs
theorem Zvp (ctx:Int) (l:List Ch):Hgs ctx (grp ctx l):=by
 induction l with
 | nil=>trivial
 | cons c l ih =>
  cases l with
  | nil=>exact⟨by simp,fun d hd=>(by cases hd),trivial⟩
  | cons d l =>
   obtain⟨g,gs,h1,h2⟩:=Zvn ctx c d l
   rw[h1] at ih
   rw[h2]
   obtain⟨_,k2,k3⟩:=ih
   split
   ·exact⟨by simp,k2,k3⟩
   ·refine⟨by simp,?_,by simp,k2,k3⟩
    intro x hx
    simp at hx
    subst hx
    simp only[endA]
    omega
structure OneF (a b:List (List UInt8)) (ctx:Int) (g:List Ch) (s t e:Int):Prop where
 s0:0≤s
 t0:0≤t
 en:e≤a.length
 em:endB 0 g+(e-endA 0 g)≤b.length
 le:endA 0 g≤e
 se:s≤e
 AN:(oneH a b ctx g).AN=e-s
 BN:(oneH a b ctx g).BN=endB 0 g+(e-endA 0 g)-t
 A:(oneH a b ctx g).A=if 0<e-s then s+1 else s
 B:(oneH a b ctx g).B=if 0<endB 0 g+(e-endA 0 g)-t then t+1 else t
 old:oldL (oneH a b ctx g)=cut a s (e-s)
 ls:(oneH a b ctx g).ls=bodyH a b e s g
theorem ZxO {a b:List (List UInt8)} {ctx p q:Int} {fl:Bool} {f:Ch} {g rest:List Ch} (hc:0≤ctx) (h:Right fl p q a.length b.length (f::g++rest)) (hp:0≤p) (hq:0≤q) (hw:p≤f.A-min ctx f.A)
  (hr:∀ d,rest.head?=some d→endA 0 (f::g)+ctx≤d.A) :
  OneF a b ctx (f::g) (f.A-min ctx f.A) (f.B-min ctx f.A) (min a.length (endA 0 (f::g)+ctx))∧Right true (f.A-min ctx f.A) (f.B-min ctx f.A) a.length b.length (f::g++rest)∧(∀ r∈U (f.A-min ctx f.A) (f.B-min ctx f.A) a.length b.length (f::g++rest),r∈U p q a.length b.length (f::g++rest))∧(min (a.length:Int) (endA 0 (f::g)+ctx)≤(rest.head?.map (·.A)).getD (a.length:Int)):=by
 have hA:f.A-p=f.B-q:=h.1.2.1
 have hnum:=(Zhj f).1 h.1.1
 obtain⟨hR,hU⟩:=ZzC h hw (by omega) (show (f.B-min ctx f.A)-(f.A-min ctx f.A)=q-p by omega)
 obtain⟨k1,k2,k3,k4,k5⟩:=Zzx (g:=f::g) (rest:=rest) hR
 have k1':Right false (endA 0 (f::g)) (endB 0 (f::g)) a.length b.length rest:=by
  rcases k1 with k1 | k1
  ·exact k1
  ·cases k1
 have hE:min (a.length:Int) (endA 0 (f::g)+ctx)≤(rest.head?.map (·.A)).getD (a.length:Int):=by
  cases rest with
  | nil=>simp;omega
  | cons d rest =>
   have:=hr d rfl
   simp
   omega
 have e0:endA (f.A-min ctx f.A) (f::g)=endA 0 (f::g):=rfl
 have e0':endB (f.B-min ctx f.A) (f::g)=endB 0 (f::g):=rfl
 rw[e0] at k2 k4
 rw[e0'] at k3 k5
 have hem:=ZzE k1' hE
 have hls:(oneH a b ctx (f::g)).ls=bodyH a b (min (a.length:Int) (endA 0 (f::g)+ctx)) (f.A-min ctx f.A) (f::g):=by
  show bodyH a b (endH a.length ctx (f::g)) (f.A-min ctx f.A) (f::g)=_
  rw[ZuM _ _ _ _ 0]
 generalize hee:min (a.length:Int) (endA 0 (f::g)+ctx)=e at *
 have he:endA 0 (f::g)≤e:=by omega
 have hold:=Ztu (a:=a) (b:=b) (g:=f::g) (rest:=rest) (e:=e) hR (by omega) he
 have hnew:=Ztt (a:=a) (b:=b) (g:=f::g) (rest:=rest) (e:=e) hR (by omega) (by omega) he (by omega)
 rw[e0,e0'] at hnew
 have hol:=ZvS (A:=a) (p:=f.A-min ctx f.A) (k:=e-(f.A-min ctx f.A)) (by omega) (by omega) (by omega)
 have hone:oneH a b ctx (f::g)=cntH (f.A-min ctx f.A) (f.B-min ctx f.A) (bodyH a b e (f.A-min ctx f.A) (f::g)):=by
  show cntH _ _ (bodyH a b (endH a.length ctx (f::g)) _ _)=_
  rw[ZuM _ _ _ _ 0,hee]
 refine⟨⟨by omega,by omega,by omega,by omega,he,by omega,?_,?_,?_,?_,?_,hls⟩,hR,hU,hE⟩
 ·rw[hone]
  show ((pkL 43 (bodyH a b e _ (f::g))).length:Int)=_
  rw[hold,hol]
 ·rw[hone]
  exact hnew
 ·rw[hone]
  show (if 0<(pkL 43 (bodyH a b e _ (f::g))).length then _ else _)=_
  rw[hold]
  by_cases hz:0<e-(f.A-min ctx f.A)
  ·rw[if_pos (by omega),if_pos hz]
  ·rw[if_neg (by omega),if_neg hz]
 ·rw[hone]
  show (if 0<(pkL 45 (bodyH a b e _ (f::g))).length then _ else _)=_
  by_cases hz:0<endB 0 (f::g)+(e-endA 0 (f::g))-(f.B-min ctx f.A)
  ·rw[if_pos (by omega),if_pos hz]
  ·rw[if_neg (by omega),if_neg hz]
 ·rw[hone]
  exact hold
end

section
theorem OneF.atA {a b:List (List UInt8)} {ctx:Int} {g:List Ch} {s t e:Int} (h:OneF a b ctx g s t e):atA (oneH a b ctx g)=s:=by
 unfold Go.Proofs.YtcniomgjikienaaGreatDoor.atA
 rw[h.AN,h.A]
 split<;>omega
theorem OneF.atB {a b:List (List UInt8)} {ctx:Int} {g:List Ch} {s t e:Int} (h:OneF a b ctx g s t e):atB (oneH a b ctx g)=t:=by
 unfold Go.Proofs.YtcniomgjikienaaGreatDoor.atB
 rw[h.BN,h.B]
 split<;>omega
theorem Zvw {a b:List (List UInt8)} {ctx:Int} (hc:0≤ctx) {g:List Ch} {gs:List (List Ch)} {fl:Bool} {p q u v:Int} (h:Right fl p q a.length b.length (g::gs).flatten) (hG:Hgs ctx (g::gs)) (hp:0≤p) (hq:0≤q) (hu:p≤u) (huv:v-u=q-p) (hf:∀ f,(g::gs).flatten.head?=some f→u≤f.A-min ctx f.A) :
  ∃ f g',g=f::g'∧∃ e,OneF a b ctx g (f.A-min ctx f.A) (f.B-min ctx f.A) e∧u≤f.A-min ctx f.A∧f.A-f.B=u-v∧Right true (f.A-min ctx f.A) (f.B-min ctx f.A) a.length b.length (g++gs.flatten)∧(∀ r∈U (f.A-min ctx f.A) (f.B-min ctx f.A) a.length b.length (g++gs.flatten),r∈U p q a.length b.length (g::gs).flatten)∧e≤(gs.flatten.head?.map (·.A)).getD (a.length:Int)∧e≤endA 0 g+ctx ∧
   Right false (endA 0 g) (endB 0 g) a.length b.length gs.flatten∧0≤endA 0 g∧0≤endB 0 g∧(∀ r∈U (endA 0 g) (endB 0 g) a.length b.length gs.flatten,r∈U p q a.length b.length (g::gs).flatten)∧endA 0 g≤e∧∀ d,gs.flatten.head?=some d→e≤d.A-min ctx d.A:=by
 obtain⟨h1,h2,h3⟩:=hG
 cases g with
 | nil=>exact absurd rfl h1
 | cons f g =>
  have hf':=hf f rfl
  rw[List.flatten_cons] at h
  have hw:p≤f.A-min ctx f.A:=by omega
  have hr:∀ d,gs.flatten.head?=some d→endA 0 (f::g)+ctx≤d.A:=fun d hd=>by have:=h2 d hd;omega
  obtain⟨k1,k2,k3,k4⟩:=ZxO hc h hp hq hw hr
  have hAB:f.A-p=f.B-q:=h.1.2.1
  obtain⟨r1,r2,r3,r4,r5⟩:=Zzx (g:=f::g) (rest:=gs.flatten) h
  have e0:endA p (f::g)=endA 0 (f::g):=rfl
  have e1:endB q (f::g)=endB 0 (f::g):=rfl
  rw[e0] at r1 r2 r4
  rw[e1] at r1 r3 r5
  have r1':Right false (endA 0 (f::g)) (endB 0 (f::g)) a.length b.length gs.flatten:=by
   rcases r1 with r1 | r1
   ·exact r1
   ·cases r1
  refine⟨f,g,rfl,_,k1,hf',by omega,k2,?_,k4,by omega,r1',by omega,by omega,?_,k1.le,?_⟩
  ·rw[List.flatten_cons];exact k3
  ·intro r hr
   rw[List.flatten_cons]
   have:∀ (x:List Ch) (p q:Int),r∈U (endA p x) (endB q x) a.length b.length gs.flatten→x≠[]∨(p=endA p x∧q=endB q x)→r∈U p q a.length b.length (x++gs.flatten):=by
    intro x
    induction x with
    | nil=>intro p q h _;exact h
    | cons c x ih =>
     intro p q h _
     rw[List.cons_append,Zag]
     refine List.mem_append_right _ (ih _ _ h ?_)
     cases x with
     | nil=>exact .inr ⟨rfl,rfl⟩
     | cons=>exact .inl (by simp)
   exact this (f::g) p q hr (.inl (by simp))
  ·intro d hd
   have:=h2 d hd
   omega
theorem Zxa {A:List (List UInt8)} {p k:Int} {t:List UInt8} (h:t∈cut A p k):t∈A:=List.mem_of_mem_drop (List.mem_of_mem_take h)
theorem ZwZ {a b:List (List UInt8)} {e:Int} (g:List Ch):∀ (p:Int),∀ m∈bodyH a b e p g,okS m.sg=true∧(m.tx∈a∨m.tx∈b):=by
 have hm:∀ (s:Int) (x:List (List UInt8)) (m:Mk),m∈mks s x→m.sg=s∧m.tx∈x:=by
  intro s x m h
  simp only[mks,List.mem_map] at h
  obtain⟨t,ht,rfl⟩:=h
  exact⟨rfl,ht⟩
 induction g with
 | nil =>
  intro p m h
  obtain⟨h1,h2⟩:=hm _ _ _ h
  rw[h1]
  exact⟨by decide,.inl (Zxa h2)⟩
 | cons c g ih =>
  intro p m h
  simp only[bodyH,List.mem_append] at h
  rcases h with h | h | h | h
  ·obtain⟨h1,h2⟩:=hm _ _ _ h
   rw[h1]
   exact⟨by decide,.inl (Zxa h2)⟩
  ·obtain⟨h1,h2⟩:=hm _ _ _ h
   rw[h1]
   exact⟨by decide,.inl (Zxa h2)⟩
  ·obtain⟨h1,h2⟩:=hm _ _ _ h
   rw[h1]
   exact⟨by decide,.inr (Zxa h2)⟩
  ·exact ih _ m h
theorem Zvu (l:List Ch):∀ (fl:Bool) (p q n m:Int),Right fl p q n m l→grp 0 l=l.map fun c=>[c]:=by
 induction l with
 | nil=>intros;rfl
 | cons c l ih =>
  intro fl p q n m h
  have hi:=ih false _ _ n m h.2
  cases l with
  | nil=>rfl
  | cons d l =>
   obtain⟨g,gs,h1,h2⟩:=Zvn 0 c d l
   have h4:c.A+c.AN<d.A:=by simpa using h.2.1.2.2.2
   rw[h2,if_neg (by omega),List.map_cons,← hi,h1]
end

section
theorem Ztb (l:List Mk) (h:∀ m∈l,okS m.sg=true):l.length≤(pkL 43 l).length+(pkL 45 l).length:=by
 induction l with
 | nil=>simp
 | cons m l ih =>
  have hi:=ih fun q hq=>h q (by simp[hq])
  have hm:=h m (by simp)
  simp only[pkL]
  by_cases h1:m.sg=43
  ·rw[if_neg (fun q=>q.1 h1),if_pos ⟨by omega,hm⟩]
   simp only[List.length_cons]
   omega
  ·rw[if_pos ⟨h1,hm⟩]
   split<;>simp only[List.length_cons]<;>omega
theorem Zvv {a b:List (List UInt8)} {ctx:Int} (hc:0≤ctx) (pre:List (List Ch)):∀ (fl:Bool) (p q:Int) (f:Ch) (g:List Ch) (post:List (List Ch)),Right fl p q a.length b.length (pre++(f::g)::post).flatten→Hgs ctx (pre++(f::g)::post)→0≤p→0≤q→(∀ d,(pre++(f::g)::post).flatten.head?=some d→p≤d.A-min ctx d.A) →
  Right true (f.A-min ctx f.A) (f.B-min ctx f.A) a.length b.length (f::g++post.flatten)∧0≤f.A-min ctx f.A∧0≤f.B-min ctx f.A∧(oneH a b ctx (f::g)).ls.length≤a.length+b.length:=by
 induction pre with
 | nil =>
  intro fl p q f g post h hG hp hq hf
  obtain⟨f',g',he,e,h1,h2,h3,hR,_,_,h4,h5,h6,h7,_,h8,h9⟩:=Zvw hc h hG hp hq (Int.le_refl p) (show q-p=q-p from rfl) hf
  cases he
  refine⟨hR,h1.s0,h1.t0,?_⟩
  have hl:=Ztb (oneH a b ctx (f::g)).ls (fun m hm=>by rw[h1.ls] at hm;exact (ZwZ _ _ m hm).1)
  have ho:(pkL 43 (oneH a b ctx (f::g)).ls).length≤a.length:=(by
   have e1:=h1.old
   unfold oldL at e1
   rw[e1]
   simp only[cut,List.length_take,List.length_drop]
   omega)
  have hn:((pkL 45 (oneH a b ctx (f::g)).ls).length:Int)=(oneH a b ctx (f::g)).BN:=rfl
  rw[h1.BN] at hn
  have:=h1.em
  have:=h1.t0
  omega
 | cons g0 pre ih =>
  intro fl p q f g post h hG hp hq hf
  obtain⟨f',g',rfl,e,h1,h2,h3,hR,_,_,h4,h5,h6,h7,_,h8,h9⟩:=Zvw hc h hG hp hq (Int.le_refl p) (show q-p=q-p from rfl) hf
  exact ih false _ _ f g post h5 hG.2.2 h6 h7 (fun d hd=>by have:=h9 d hd;omega)
theorem ZzZ {a b:List (List UInt8)} {ctx:Int} (hc:0≤ctx) {l:List Ch} (hs:Script l a.length b.length) {pre post:List (List Ch)} {f:Ch} {g:List Ch} (he:grp ctx l=pre++(f::g)::post) :
  Right true (f.A-min ctx f.A) (f.B-min ctx f.A) a.length b.length (f::g++post.flatten)∧0≤f.A-min ctx f.A∧0≤f.B-min ctx f.A∧(oneH a b ctx (f::g)).ls.length≤a.length+b.length:=by
 have hfl:=Zvo ctx l
 have hG:=Zvp ctx l
 have hr:=hs.2.2
 rw[← hfl] at hr
 rw[he] at hr hG
 refine Zvv hc pre true 0 0 f g post hr hG (Int.le_refl _) (Int.le_refl _) (fun d hd=>?_)
 have hd2:d∈(pre++(f::g)::post).flatten:=List.mem_of_head? hd
 have hn:numB d=true:=by
  have key:∀ (l:List Ch) (fl:Bool) (p q n m:Int),Right fl p q n m l→∀ c∈l,numB c=true:=by
   intro l
   induction l with
   | nil=>intro fl p q n m _ c hc;cases hc
   | cons x l ih =>
    intro fl p q n m h c hc
    rcases List.mem_cons.1 hc with rfl | hc
    ·exact h.1.1
    ·exact ih _ _ _ _ _ h.2 c hc
  exact key _ _ _ _ _ _ hr d hd2
 have:=(Zhj d).1 hn
 omega
end

section
theorem Zxd {l:List Ch} {a b:List (List UInt8)} {ctx:Int} (hs:Script l a.length b.length) (hc:0≤ctx∧ctx≤100):mkR l a b ctx=(grp ctx l).map (oneH a b ctx)∧grpE l a.length b.length ctx=0:=by
 have e:grpE l a.length b.length ctx=0:=by
  unfold grpE
  rw[ZtW hs,if_neg (by simp),if_neg (by omega)]
 refine⟨?_,e⟩
 unfold mkR grpR
 rw[if_pos e]
end

section
open Go.RowKit
theorem ret_bool {a b:Bool} (h:a=b):Ending.returned (.bool a)=.returned (.bool b):=by rw[h]
theorem ret_int {k:IntKind} {a b:Int} (h:a=b):Ending.returned (.int k a)=.returned (.int k b):=by rw[h]
theorem ZxI (c:Ch) (w:World):Calls Tryz.prog 164 #[chV c] w fun e w'=>e=.returned (.bool (numB c))∧Below w.heap.size w w':=by
 obtain⟨A,AN,B,BN⟩:=c
 unfold chV
 dsimp only
 have hB:Below w.heap.size w (w.alloc (.cells #[.int .i64 A,.int .i64 AN,.int .i64 B,.int .i64 BN] 139)):=(Below.refl _ w).alloc (Nat.le_refl _) _
 obtain⟨b,hb⟩:∃ b,numB ⟨A,AN,B,BN⟩=b:=⟨_,rfl⟩
 rw[hb]
 have Hb:Hid (numB ⟨A,AN,B,BN⟩=b):=hb
 clear hb
 have i0:∀ w,(Instr.index 263 (.agg #[.int .i64 A,.int .i64 AN,.int .i64 B,.int .i64 BN]) (.int .i64 0)).run Tryz.prog w=.ok (.int .i64 A) w:=fun _=>by kernel_rfl
 have i1:∀ w,(Instr.index 263 (.agg #[.int .i64 A,.int .i64 AN,.int .i64 B,.int .i64 BN]) (.int .i64 1)).run Tryz.prog w=.ok (.int .i64 AN) w:=fun _=>by kernel_rfl
 have i2:∀ w,(Instr.index 263 (.agg #[.int .i64 A,.int .i64 AN,.int .i64 B,.int .i64 BN]) (.int .i64 2)).run Tryz.prog w=.ok (.int .i64 B) w:=fun _=>by kernel_rfl
 have i3:∀ w,(Instr.index 263 (.agg #[.int .i64 A,.int .i64 AN,.int .i64 B,.int .i64 BN]) (.int .i64 3)).run Tryz.prog w=.ok (.int .i64 BN) w:=fun _=>by kernel_rfl
 go_enter Tryz.func164,Tryz.ntmps164
 go_wp2
 go_loopw [14] (fun i wr=>∃ k:Nat,k≤4∧i=.int .i64 k∧wr=w.alloc (.cells #[.int .i64 A,.int .i64 AN,.int .i64 B,.int .i64 BN] 139)∧Hid ((0<k→(0≤A∧A≤2147483647))∧(1<k→(0≤AN∧AN≤2147483647))∧(2<k→(0≤B∧B≤2147483647))∧(3<k→(0≤BN∧BN≤2147483647)))) (fun i _=>4-(intOf i).toNat)
 case atStart=>exact⟨0,Nat.zero_le _,rfl,rfl,(⟨fun h=>absurd h (by omega),fun h=>absurd h (by omega),fun h=>absurd h (by omega),fun h=>absurd h (by omega)⟩)⟩
 case round =>
  obtain⟨k,hk,rfl,rfl,hok⟩:=hrel
  rcases (by omega:k=0∨k=1∨k=2∨k=3∨k=4) with rfl | rfl | rfl | rfl | rfl
  ·by_cases h0:A<0
   ·go_wp2
    go_ret
    refine⟨ret_bool ?_,hB⟩
    rw[← Hb.out]
    simp[numB,nat31]
    omega
   ·by_cases h1:2147483647<A
    ·go_wp2
     go_ret
     refine⟨ret_bool ?_,hB⟩
     rw[← Hb.out]
     simp[numB,nat31]
     omega
    ·go_wp2
     go_roundw
     case rel=>exact⟨1,by omega,by go_num,trivial,(by have:=hok.out;show _∧_∧_∧_;refine⟨?_,?_,?_,?_⟩<;>intro _<;>omega)⟩
     case measure=>simp[intOf]
  ·by_cases h0:AN<0
   ·go_wp2
    go_ret
    refine⟨ret_bool ?_,hB⟩
    rw[← Hb.out]
    simp[numB,nat31]
    omega
   ·by_cases h1:2147483647<AN
    ·go_wp2
     go_ret
     refine⟨ret_bool ?_,hB⟩
     rw[← Hb.out]
     simp[numB,nat31]
     omega
    ·go_wp2
     go_roundw
     case rel=>exact⟨2,by omega,by go_num,trivial,(by have:=hok.out;show _∧_∧_∧_;refine⟨?_,?_,?_,?_⟩<;>intro _<;>omega)⟩
     case measure=>simp[intOf]
  ·by_cases h0:B<0
   ·go_wp2
    go_ret
    refine⟨ret_bool ?_,hB⟩
    rw[← Hb.out]
    simp[numB,nat31]
    omega
   ·by_cases h1:2147483647<B
    ·go_wp2
     go_ret
     refine⟨ret_bool ?_,hB⟩
     rw[← Hb.out]
     simp[numB,nat31]
     omega
    ·go_wp2
     go_roundw
     case rel=>exact⟨3,by omega,by go_num,trivial,(by have:=hok.out;show _∧_∧_∧_;refine⟨?_,?_,?_,?_⟩<;>intro _<;>omega)⟩
     case measure=>simp[intOf]
  ·by_cases h0:BN<0
   ·go_wp2
    go_ret
    refine⟨ret_bool ?_,hB⟩
    rw[← Hb.out]
    simp[numB,nat31]
    omega
   ·by_cases h1:2147483647<BN
    ·go_wp2
     go_ret
     refine⟨ret_bool ?_,hB⟩
     rw[← Hb.out]
     simp[numB,nat31]
     omega
    ·go_wp2
     go_roundw
     case rel=>exact⟨4,by omega,by go_num,trivial,(by have:=hok.out;show _∧_∧_∧_;refine⟨?_,?_,?_,?_⟩<;>intro _<;>omega)⟩
     case measure=>simp[intOf]
  ·have hok':=hok.out
   by_cases h0:0<AN
   ·go_wp2
    go_ret
    refine⟨ret_bool ?_,hB⟩
    rw[← Hb.out]
    simp[numB,nat31]
    omega
   ·by_cases h1:0<BN
    ·go_wp2
     go_ret
     refine⟨ret_bool ?_,hB⟩
     rw[← Hb.out]
     simp[numB,nat31]
     omega
    ·go_wp2
     go_ret
     refine⟨ret_bool ?_,hB⟩
     rw[← Hb.out]
     simp[numB,nat31]
     omega
theorem ZsV (l:List Ch) (n m r:Int) (v:Value) (w:World) (hl:HCh w v l) (hlen:l.length≤1099511627776) (hn:n≤9223372036854775807) (hm:m≤9223372036854775807) (hr:Hid (chk l n m=r)) :
  Calls Tryz.prog 128 #[v,.int .i64 n,.int .i64 m] w fun e w'=>e=.returned (.int .i64 r)∧Below w.heap.size w w':=by
 obtain⟨ao,ca,rfl⟩:=Holds.form hl
 by_cases hn0:n<0
 ·go_enter Tryz.func128,Tryz.ntmps128
  go_wp2
  go_ret
  refine⟨ret_int ?_,Below.refl _ w⟩
  rw[← hr.out,ZtU (fun h=>by have:=h.1;omega)]
 by_cases hm0:m<0
 ·go_enter Tryz.func128,Tryz.ntmps128
  go_wp2
  go_ret
  refine⟨ret_int ?_,Below.refl _ w⟩
  rw[← hr.out,ZtU (fun h=>by have:=h.2.1;omega)]
 go_enter Tryz.func128,Tryz.ntmps128
 go_wp2
 go_loopw [7,8,19] (fun av bv iv wr=>∃ (k:Nat) (a b:Int),k≤l.length∧av=.int .i64 a∧bv=.int .i64 b∧iv=.int .i64 k∧0≤a∧a≤n∧0≤b∧b≤m∧Below w.heap.size w wr∧Hid (Script l n m↔Right (decide (k=0)) a b n m (l.drop k))) (fun _ _ iv _=>l.length-(intOf iv).toNat)
 case atStart=>exact⟨0,0,0,Nat.zero_le _,rfl,rfl,rfl,by omega,by omega,by omega,by omega,Below.refl _ w,(by show _↔_;simp only[Script,List.drop_zero,decide_true];constructor;exact fun h=>h.2.2;exact fun h=>⟨by omega,by omega,h⟩)⟩
 case round =>
  obtain⟨k,a,b,hk,rfl,rfl,rfl,ha,han,hb,hbm,hB,hR⟩:=hrel
  by_cases hlt:k<l.length
  ·obtain⟨bk,off,rfl,hbk,hc⟩:=HCh.at (HCh.keep hl hB (Nat.le_refl _)) (by omega)
   obtain⟨c0,c1,c2,c3⟩:=hc k hlt
   have hR':=hR.out
   rw[List.drop_eq_getElem_cons hlt] at hR'
   obtain⟨c,hcd⟩:∃ c,l[k]=c:=⟨_,rfl⟩
   rw[hcd] at hR' c0 c1 c2 c3
   clear hc hcd hR
   have HR:Hid (Script l n m↔Right (decide (k=0)) a b n m (c::l.drop (k+1))):=hR'
   clear hR'
   have i1:0≤(k:Int):=by omega
   have i2:(k:Int)<(l.length:Int):=by omega
   obtain⟨A,AN,B,BN⟩:=c
   dsimp only at c0 c1 c2 c3
   have hsz:=hB.size
   go_wp2_with fail
   have hB1:Below w.heap.size w (wr.alloc (Obj.cells #[Value.int IntKind.i64 A,Value.int IntKind.i64 AN,Value.int IntKind.i64 B,Value.int IntKind.i64 BN] 139)):=hB.alloc hsz _
   refine (ZxI ⟨A,AN,B,BN⟩ _).mono ?_
   rintro e w1 ⟨rfl,hb1⟩
   have hB2:Below w.heap.size w w1:=hB1.trans (hb1.mono (by simp;omega))
   have hbox:=hb1.block wr.heap.size (by simp)
   rw[_root_.Go.heap_alloc_new] at hbox
   have d0:w1.cell? ⟨wr.heap.size,0,none⟩=some (.int .i64 A):=by rw[Lib.cell_of_heap hbox];rfl
   have d1:w1.cell? ⟨wr.heap.size,1,none⟩=some (.int .i64 AN):=by rw[Lib.cell_of_heap hbox];rfl
   have d2:w1.cell? ⟨wr.heap.size,2,none⟩=some (.int .i64 B):=by rw[Lib.cell_of_heap hbox];rfl
   have d3:w1.cell? ⟨wr.heap.size,3,none⟩=some (.int .i64 BN):=by rw[Lib.cell_of_heap hbox];rfl
   clear hbox c0 c1 c2 c3 hb1 hB1 hB
   by_cases hq:numB ⟨A,AN,B,BN⟩=true
   ·rw[hq]
    have HQ:Hid (numB ⟨A,AN,B,BN⟩=true):=hq
    rw[Zhj] at hq
    dsimp only at hq
    obtain⟨⟨hA0,hA1⟩,⟨hAN0,hAN1⟩,⟨hB0,hB1⟩,⟨hBN0,hBN1⟩,hpos⟩:=hq
    by_cases h1:A-a=B-b
    ·by_cases h2:AN > n-A
     ·go_wp2_with fail
      go_ret
      refine⟨ret_int ?_,hB2⟩
      rw[← hr.out,ZtU]
      exact fun h=>by have h5:=HR.out.1 h;obtain⟨⟨q1,q2,q3,q4⟩,q5⟩:=h5;have q6:=q5.le;dsimp only at q6;omega
     by_cases h3:BN > m-B
     ·go_wp2_with fail
      go_ret
      refine⟨ret_int ?_,hB2⟩
      rw[← hr.out,ZtU]
      exact fun h=>by have h5:=HR.out.1 h;obtain⟨⟨q1,q2,q3,q4⟩,q5⟩:=h5;have q6:=q5.le;dsimp only at q6;omega
     by_cases h4:A<a
     ·go_wp2_with fail
      go_ret
      refine⟨ret_int ?_,hB2⟩
      rw[← hr.out,ZtU]
      exact fun h=>by have h5:=HR.out.1 h;obtain⟨⟨q1,q2,q3,q4⟩,q5⟩:=h5;have q6:=q5.le;dsimp only at q3;omega
     by_cases h5:A=a
     ·by_cases h6:0<(k:Int)
      ·go_wp2_with fail
       go_ret
       refine⟨ret_int ?_,hB2⟩
       rw[← hr.out,ZtU]
       exact fun h=>by
        obtain⟨⟨q1,q2,q3,q4⟩,q5⟩:=HR.out.1 h
        rcases q4 with q4 | q4
        ·have:=of_decide_eq_true q4;omega
        ·dsimp only at q4;omega
      ·go_wp2_with fail
       go_quiet (fail)
       go_wp2
       go_roundw
       case rel=>exact⟨k+1,A+AN,B+BN,by omega,by go_num,by go_num,by go_num,by omega,by omega,by omega,by omega,Below.dN hB2 _,(by
        show _↔_
        refine HR.out.trans ?_
        have:decide (k+1=0)=false:=by simp
        rw[this]
        exact⟨fun h=>h.2,fun h=>⟨⟨HQ.out,h1,by dsimp only;omega,.inl (decide_eq_true (by omega))⟩,h⟩⟩)⟩
       case measure=>simp[intOf];omega
     ·go_wp2_with fail
      go_quiet (fail)
      go_wp2
      go_roundw
      case rel=>exact⟨k+1,A+AN,B+BN,by omega,by go_num,by go_num,by go_num,by omega,by omega,by omega,by omega,Below.dN hB2 _,(by
        show _↔_
        refine HR.out.trans ?_
        have:decide (k+1=0)=false:=by simp
        rw[this]
        exact⟨fun h=>h.2,fun h=>⟨⟨HQ.out,h1,by dsimp only;omega,.inr (by dsimp only;omega)⟩,h⟩⟩)⟩
      case measure=>simp[intOf];omega
    ·go_wp2_with fail
     go_ret
     refine⟨ret_int ?_,hB2⟩
     rw[← hr.out,ZtU]
     exact fun h=>by have h5:=HR.out.1 h;obtain⟨⟨q1,q2,q3,q4⟩,q5⟩:=h5;have q6:=q5.le;dsimp only at q2;omega
   ·have hq':numB ⟨A,AN,B,BN⟩=false:=by simpa using hq
    have HQ:Hid (numB ⟨A,AN,B,BN⟩=false):=hq'
    rw[hq']
    clear hq hq'
    go_wp2_with fail
    go_ret
    refine⟨ret_int ?_,hB2⟩
    rw[← hr.out,ZtU]
    exact fun h=>by
     obtain⟨⟨q1,q2,q3,q4⟩,q5⟩:=HR.out.1 h
     rw[HQ.out] at q1
     cases q1
  ·by_cases he:n-a=m-b
   ·go_wp2
    go_ret
    refine⟨ret_int ?_,hB⟩
    rw[← hr.out,ZtW]
    have:=hR.out
    rw[List.drop_of_length_le (by omega)] at this
    exact this.2 ⟨han,hbm,he⟩
   ·go_wp2
    go_ret
    refine⟨ret_int ?_,hB⟩
    rw[← hr.out,ZtU]
    have:=hR.out
    rw[List.drop_of_length_le (by omega)] at this
    exact fun h=>he (this.1 h).2.2
end

section
open Go.RowKit Go.Shelf
attribute [local go_sem] Oper.semAt_some
structure Kp (n₀ lo:Nat) (W W':World):Prop where
 low:Below n₀ W W'
 box:∀ k,lo≤k→k<lo+3→W'.heap[k]?=W.heap[k]?
 chg:∀ (k:Nat) (cs:Array Value),W.heap[k]?=some (Obj.cells cs 139 (0,0))→W'.heap[k]?=some (Obj.cells cs 139 (0,0))
section
variable {n₀ lo:Nat} {A B C:World}
theorem Kp.refl (W:World):Kp n₀ lo W W:=⟨Below.refl _ _,fun _ _ _=>rfl,fun _ _ h=>h⟩
theorem Kp.trans (h:Kp n₀ lo A B) (k:Kp n₀ lo B C):Kp n₀ lo A C:=⟨h.low.trans k.low,fun j h1 h2=>(k.box j h1 h2).trans (h.box j h1 h2),fun j cs hj=>k.chg j cs (h.chg j cs hj)⟩
theorem Kp.alloc {W:World} (hn:n₀≤W.heap.size) (hl:lo+3≤W.heap.size) (o:Obj):Kp n₀ lo W (W.alloc o) :=
 ⟨(Below.refl _ W).alloc hn o,fun k _ hk=>Below.heap_alloc W o k (by omega),fun k cs hk=>(Below.heap_alloc W o k (Array.getElem?_eq_some_iff.1 hk).1).trans hk⟩
theorem Kp.drewN (W:World) (k:Nat):Kp n₀ lo W (W.drewN k):=⟨Below.dN (Below.refl _ W) k,fun _ _ _=>rfl,fun _ _ h=>h⟩
end
theorem HCh.lt {w:World} {ao:Option Addr} {n c:Nat} {l:List Ch} (h:HCh w (.slice ao n c) l) (a:Addr) (ha:ao=some a) (h0:0<l.length):a.block<w.heap.size:=by
 obtain⟨b,off,hb,hlt,_⟩:=HCh.at h h0
 rw[ha] at hb
 cases hb
 exact hlt
end

section
open Go.RowKit Go.Shelf
attribute [local go_sem] Oper.semAt_some
theorem ZgR (W:World) (cs:Array Value) (e:TypeId) (k c:Nat) (hkc:k≤c):Holds (W.alloc (.cells cs e)) (.slice (some ⟨W.heap.size,0,none⟩) k c) k cs.toList:=by
 refine .inr ⟨_,_,rfl,hkc,fun j u hj=>?_⟩
 rw[Zao,Lib.cell_of_heap (_root_.Go.heap_alloc_new W _)]
 simpa using hj
structure OwnR (n₀ lo B:Nat) (t e:TypeId) (s:Nat) (v:Value) (k:Nat) (xs:List Value) (W:World):Prop where
 box:Boxed W B t v
 row:W.ownsRow n₀ e s v k xs
 far:∀ g,v.ownBlock=some g→g<lo∨lo+3≤g
section
variable {n₀ lo B:Nat} {t e:TypeId} {s:Nat} {v:Value} {k:Nat} {xs:List Value} {W:World}
theorem OwnR.alloc (h:OwnR n₀ lo B t e s v k xs W) (o:Obj):OwnR n₀ lo B t e s v k xs (W.alloc o):=⟨h.box.alloc o,h.row.alloc o,h.far⟩
end
end

section
open Go.RowKit Go.Shelf
attribute [local go_sem] Oper.semAt_some
end

section
open Go.RowKit
theorem ZjH (w:World) (T E ty:TypeId) (z:Value) (size bytes:Nat) (hT:Tryz.prog.underlying T=some (.slice E)) (hinfo:(Tryz.prog.info? E).map (fun i=>(i.zero,i.size,i.bytes))=some (some z,size,bytes)) (hz1:z.cells.size=size) (hsz:0<size) (hby:bytes≤32)
  (base:Nat) (v:Value) (k:Nat) (xs:List Value) (hown:w.ownsRow base E size v k xs) (vx:Value) (m:Nat) (news:List Value) (hh:Holds w vx m news) (hl:news.length=m * size)
  (h1:∀ u∈news,u.oneCell'=true) (hk:k+m≤4398046511104) (hbase:base≤w.heap.size) :
  ∃ v' w',(Builtin.append_ #[T,T] ty #[v,vx]).run Tryz.prog w=.ok v' w'∧w'.ownsRow base E size v' (k+m) (xs++news)∧w.grownBy w' v.ownBlock∧(v'.ownBlock=v.ownBlock∨v'.ownBlock=some w.heap.size):=by
 obtain⟨i0,hi0,hz0,hzs,hz2⟩:=info_parts hinfo
 rcases hh with ⟨rfl,rfl,rfl⟩ | ⟨ad,c,rfl,_,hc⟩
 ·exact⟨v,w,run_append_owned_none (P:=Tryz.prog) (w:=w) base T ty E i0 size hT hi0 v k xs hown,by simpa using hown,World.grownBy.refl _ _,.inl rfl⟩
 ·obtain⟨v',w',hr,h2,h3,_,h5⟩:=run_append_own_at (P:=Tryz.prog) w base T ty E i0 z size bytes hT hi0 hz0 hzs hz2 hz1 hsz v k xs hown ad m c news hl hc h1 (by unfold maxLen;omega) (by
   have:(k+m) * bytes≤(k+m) * 32:=Nat.mul_le_mul_left _ hby
   omega) hbase
  exact⟨v',w',hr,h2,h3,h5⟩
theorem Zmg {ops:Array Oper} {rest:List Oper} {o:Oper} {a:Act} {Q:Exit→Act→World→Prop} (w:World) (hw:Region.wanted o (yielded ops a.tmps)=true) (s x:Operand) (T E:TypeId) (z:Value) (size bytes:Nat)
  (ho:o.op=.call { callee:=.builtin .append,args:=#[s,x],argTypes:=#[T,T] }) (hT:Tryz.prog.underlying T=some (.slice E)) (hinfo:(Tryz.prog.info? E).map (fun i=>(i.zero,i.size,i.bytes))=some (some z,size,bytes)) (hz1:z.cells.size=size) (hsz:0<size) (hby:bytes≤32)
  (base:Nat) (v:Value) (k:Nat) (xs:List Value) (hs:a.eval s=v) (hown:w.ownsRow base E size v k xs) (vx:Value) (m:Nat) (news:List Value) (hx:a.eval x=vx) (hh:Holds w vx m news) (hl:news.length=m * size)
  (h1:∀ u∈news,u.oneCell'=true) (hk:k+m≤4398046511104) (hbase:base≤w.heap.size)
  (h:∀ v' w',w'.ownsRow base E size v' (k+m) (xs++news)→w.grownBy w' v.ownBlock→wpList Tryz.prog ops Q rest (a.put o.dst v') w'):wpList Tryz.prog ops Q (o::rest) a w:=by
 refine wpList_step fun K hK=>?_
 rw[if_pos hw]
 obtain⟨v',w',hr,h2,h3,_⟩:=ZjH w T E o.type z size bytes hT hinfo hz1 hsz hby base v k xs hown vx m news hh hl h1 hk hbase
 unfold Oper.wp
 simp[execOp,ho,resolve,invoke,builtin,hs,hx,hr,Result.andThen]
 exact hK _ _ (h v' w' h2 h3)
theorem Zxn {e:TypeId} {s:Nat} (W:World) (N g:Nat) (hg:W.heap.size=g) (hB:N≤g):(W.alloc (.cells #[] e)).ownsRow N e s (.slice (some ⟨g,0,none⟩) 0 0) 0 []:=by
 subst hg
 exact⟨by simp,.inr ⟨_,0,#[],rfl,hB,_root_.Go.heap_alloc_new W _,Nat.le_refl _,by decide,by simp,by simp⟩⟩
theorem ZhK {w w':World} {base:Nat} {e:TypeId} {s:Nat} {v:Value} {n:Nat} {xs:List Value} (h:w.ownsRow base e s v n xs) (hk:Below w.heap.size w w'):w'.ownsRow base e s v n xs:=by
 refine⟨h.1,?_⟩
 rcases h.2 with h1 | ⟨g,cap,cur,q1,q2,q3,q4⟩
 ·exact .inl h1
 ·exact .inr ⟨g,cap,cur,q1,q2,(hk.block g (Array.getElem?_eq_some_iff.1 q3).1).trans q3,q4⟩
theorem ZhJ {w:World} {base:Nat} {e:TypeId} {s:Nat} {v:Value} {n:Nat} {xs:List Value} (h:w.ownsRow base e s v n xs) {j:Nat} (hj:v.ownBlock=some j):base≤j:=by
 rcases h.2 with ⟨rfl,_⟩ | ⟨g,cap,cur,rfl,hb,_⟩
 ·cases hj
 ·simp[Value.ownBlock] at hj;omega
def Low (W w:World):Prop:=Below W.heap.size W w
theorem ZfM (W w:World):Low W w.drew↔Low W w:=⟨fun h=>⟨h.os,h.tape,h.output,h.size,h.block⟩,fun h=>Below.dN h 1⟩
theorem ZwS {W w:World} (o:Obj) (h:Low W w):Low W (w.alloc o):=Below.alloc h (Below.size h) o
structure St (W:World) (e:TypeId) (s:Nat) (v:Value) (k:Nat) (xs:List Value) (w:World):Prop where
 own:w.ownsRow W.heap.size e s v k xs
 low:Below W.heap.size W w
theorem ZkA (W:World) (e:TypeId) (s:Nat) (v:Value) (k:Nat) (xs:List Value) (w:World):St W e s v k xs w.drew↔St W e s v k xs w :=
 ⟨fun h=>⟨h.own,⟨h.low.os,h.low.tape,h.low.output,h.low.size,h.low.block⟩⟩,fun h=>⟨h.own,Below.dN h.low 1⟩⟩
theorem ZAs {W:World} {e:TypeId} {s:Nat} {v:Value} {k:Nat} {xs:List Value} {w:World} (o:Obj) (h:St W e s v k xs w):St W e s v k xs (w.alloc o):=⟨h.own.alloc o,h.low.alloc h.low.size o⟩
theorem St.grown {W:World} {e:TypeId} {s:Nat} {v v':Value} {k k':Nat} {xs xs':List Value} {w w':World} (h:St W e s v k xs w) (ho:w'.ownsRow W.heap.size e s v' k' xs') (hg:w.grownBy w' v.ownBlock):St W e s v' k' xs' w' :=
 ⟨ho,h.low.grown hg h.low.size (fun _ hj=>ZhJ h.own hj)⟩
end

section
open Go.RowKit
attribute [local simp] ZfM
theorem Zmu (w:World) (o o2:Obj):((w.alloc o).alloc o2).heap[w.heap.size+1]?=some o2:=by
 have h:=_root_.Go.heap_alloc_new (w.alloc o) o2
 rw[World.size_alloc] at h
 exact h
end

section
open Go.RowKit
end

section
open Go.RowKit
def mkC (m:Mk):List Value:=[.int .u8 m.sg,.string ⟨m.tx.toArray⟩]
def mkcells (l:List Mk):List Value:=l.flatMap mkC
theorem infoMk:(Tryz.prog.info? 47).map (fun i=>(i.zero,i.size,i.bytes))=some (some (.agg #[.int .u8 0,.string ⟨#[]⟩]),2,24):=by kernel_rfl
theorem infoHk:(Tryz.prog.info? 45).map (fun i=>(i.zero,i.size,i.bytes))=some (some (.agg #[.int .i64 0,.int .i64 0,.int .i64 0,.int .i64 0,.slice none 0 0]),5,56):=by kernel_rfl
theorem Zgo (l:List Mk):(mkcells l).length=l.length * 2:=by
 induction l with
 | nil=>rfl
 | cons c l ih=>simp only[mkcells,List.flatMap_cons,List.length_append,List.length_cons] at ih ⊢;rw[ih];simp[mkC];omega
theorem Zgl (a b:List Mk):mkcells (a++b)=mkcells a++mkcells b:=by simp[mkcells]
theorem Zgp (l:List Mk):∀ u∈mkcells l,u.oneCell'=true:=by
 intro u hu
 simp only[mkcells,List.mem_flatMap,mkC] at hu
 obtain⟨c,_,h⟩:=hu
 simp only[List.mem_cons,List.not_mem_nil,or_false] at h
 rcases h with rfl | rfl<;>rfl
theorem Zgm (l:List Mk) (k:Nat) (hk:k<l.length):(mkcells l)[2 * k]?=some (.int .u8 l[k].sg)∧(mkcells l)[2 * k+1]?=some (.string ⟨l[k].tx.toArray⟩):=by
 induction l generalizing k with
 | nil=>simp at hk
 | cons c l ih =>
  cases k with
  | zero=>simp[mkcells,mkC]
  | succ k =>
   have h:=ih k (by simpa using hk)
   have e:∀ i,(mkcells (c::l))[2 * (k+1)+i]?=(mkcells l)[2 * k+i]?:=by
    intro i
    have:mkcells (c::l)=mkC c++mkcells l:=rfl
    rw[this,List.getElem?_append_right (by simp[mkC];omega)]
    congr 1
    simp[mkC];omega
   simp only[List.getElem_cons_succ]
   refine⟨by rw[← (h).1];exact e 0,by rw[← h.2];exact e 1⟩
def HMk (w:World) (v:Value) (l:List Mk):Prop:=Holds w v l.length (mkcells l)
theorem HMk.keep {w w':World} {v:Value} {l:List Mk} (h:HMk w v l) {N:Nat} (hk:Below N w w') (hN:w.heap.size≤N):HMk w' v l:=Holds.keep h fun k hk'=>hk.block k (by omega)
theorem HMk.at {w:World} {ao:Option Addr} {n c:Nat} {l:List Mk} (h:HMk w (.slice ao n c) l) (h0:0<l.length):∃ b off,ao=some ⟨b,off,none⟩∧b<w.heap.size ∧
  ∀ k (hk:k<l.length),w.cell? ⟨b,off+k * 2,none⟩=some (.int .u8 l[k].sg)∧w.cell? ⟨b,off+k * 2+1,none⟩=some (.string ⟨l[k].tx.toArray⟩):=by
 obtain⟨b,off,c',hv,hb,hc⟩:=Holds.at h (by rw[Zgo];omega)
 cases hv
 refine⟨b,off,rfl,hb,fun k hk=>?_⟩
 obtain⟨h0,h1⟩:=Zgm l k hk
 have hlen:=Zgo l
 have e:k * 2=2 * k:=by omega
 rw[e]
 refine⟨?_,?_⟩
 ·have:=hc (2 * k) (by omega)
  rw[← h0,this,List.getElem?_eq_getElem]
 ·have:=hc (2 * k+1) (by omega)
  rw[← h1,Nat.add_assoc,this,List.getElem?_eq_getElem]
theorem Low.mk {W w:World} (h:Low W w) {b off n c:Nat} {l:List Mk} (hl:HMk W (.slice (some ⟨b,off,none⟩) n c) l) (k:Nat) (hk:k<l.length) {x:Mk} (hx:l[k]=x):w.cell? ⟨b,off+k * 2,none⟩=some (.int .u8 x.sg)∧w.cell? ⟨b,off+k * 2+1,none⟩=some (.string ⟨x.tx.toArray⟩):=by
 obtain⟨b',off',e,_,hc⟩:=HMk.at (HMk.keep hl h (Nat.le_refl _)) (by omega)
 cases e
 rw[← hx]
 exact hc k hk
def hkV (h:Hk) (v:Value):Value:=.agg #[.int .i64 h.A,.int .i64 h.AN,.int .i64 h.B,.int .i64 h.BN,v]
def hkC (h:Hk) (v:Value):List Value:=[.int .i64 h.A,.int .i64 h.AN,.int .i64 h.B,.int .i64 h.BN,v]
def hkO (h:Hk) (v:Value):Obj:=.cells #[.int .i64 h.A,.int .i64 h.AN,.int .i64 h.B,.int .i64 h.BN,v] 45
def Hx (u:World) (b:Nat) (h:Hk) (v:Value):Prop:=u.heap[b]?=some (hkO h v)
section
variable {u u':World} {b:Nat} {h:Hk} {v:Value}
theorem Hx.cells (q:Hx u b h v):u.cell? ⟨b,0,none⟩=some (.int .i64 h.A)∧u.cell? ⟨b,1,none⟩=some (.int .i64 h.AN)∧u.cell? ⟨b,2,none⟩=some (.int .i64 h.B)∧u.cell? ⟨b,3,none⟩=some (.int .i64 h.BN)∧u.cell? ⟨b,4,none⟩=some v:=by
 unfold Hx hkO at q
 refine⟨?_,?_,?_,?_,?_⟩<;>rw[Lib.cell_of_heap q]<;>rfl
theorem Hx.frozen (q:Hx u b h v) (j:Nat):u.frozen? ⟨b,j,none⟩=false:=Lib.frozen_of_heap q j
theorem Hx.lt (q:Hx u b h v):b<u.heap.size:=(Array.getElem?_eq_some_iff.1 q).1
theorem Hx.low (q:Hx u b h v) (hg:Below u.heap.size u u'):Hx u' b h v:=(hg.block b q.lt).trans q
theorem Hx.keep (q:Hx u b h v) {g:Option Nat} (hg:u.grownBy u' g) (hr:some b≠g):Hx u' b h v:=(hg.block b q.lt hr).trans q
theorem Hx.new (w:World) (h:Hk) (v:Value):Hx (w.alloc (hkO h v)) w.heap.size h v:=_root_.Go.heap_alloc_new w _
end
def hkcells:List (Hk × Value)→List Value
 | []=>[]
 | (h,v)::l=>hkC h v++hkcells l
theorem Zej (l:List (Hk × Value)):(hkcells l).length=l.length * 5:=by
 induction l with
 | nil=>rfl
 | cons c l ih =>
  obtain⟨h,v⟩:=c
  simp only[hkcells,List.length_append,List.length_cons]
  rw[ih]
  simp[hkC];omega
theorem Zeh (a b:List (Hk × Value)):hkcells (a++b)=hkcells a++hkcells b:=by
 induction a with
 | nil=>rfl
 | cons c l ih =>
  obtain⟨h,v⟩:=c
  simp only[List.cons_append,hkcells,ih,List.append_assoc]
theorem Zei (l:List (Hk × Value)) (k:Nat) (hk:k<l.length):(hkcells l)[5 * k]?=some (.int .i64 l[k].1.A)∧(hkcells l)[5 * k+1]?=some (.int .i64 l[k].1.AN)∧(hkcells l)[5 * k+2]?=some (.int .i64 l[k].1.B)∧(hkcells l)[5 * k+3]?=some (.int .i64 l[k].1.BN)∧(hkcells l)[5 * k+4]?=some l[k].2:=by
 induction l generalizing k with
 | nil=>simp at hk
 | cons c l ih =>
  obtain⟨x,y⟩:=c
  cases k with
  | zero=>simp[hkcells,hkC]
  | succ k =>
   have h:=ih k (by simpa using hk)
   have e:∀ i,(hkcells ((x,y)::l))[5 * (k+1)+i]?=(hkcells l)[5 * k+i]?:=by
    intro i
    have:hkcells ((x,y)::l)=hkC x y++hkcells l:=rfl
    rw[this,List.getElem?_append_right (by simp[hkC];omega)]
    congr 1
    simp[hkC];omega
   simp only[List.getElem_cons_succ]
   refine⟨by rw[← (h).1];exact e 0,by rw[← h.2.1];exact e 1,by rw[← h.2.2.1];exact e 2,by rw[← h.2.2.2.1];exact e 3,by rw[← h.2.2.2.2];exact e 4⟩
structure HHp (w:World) (v:Value) (p:List (Hk × Value)):Prop where
 row:Holds w v p.length (hkcells p)
 ins:∀ x∈p,HMk w x.2 x.1.ls
def HHk (w:World) (v:Value) (l:List Hk):Prop:=∃ p:List (Hk × Value),p.map (·.1)=l∧HHp w v p
theorem HHp.keep {w w':World} {v:Value} {p:List (Hk × Value)} (h:HHp w v p) {N:Nat} (hk:Below N w w') (hN:w.heap.size≤N):HHp w' v p :=
 ⟨Holds.keep h.row fun k hk'=>hk.block k (by omega),fun x hx=>HMk.keep (h.ins x hx) hk hN⟩
theorem HHk.keep {w w':World} {v:Value} {l:List Hk} (h:HHk w v l) {N:Nat} (hk:Below N w w') (hN:w.heap.size≤N):HHk w' v l:=by
 obtain⟨p,hp,h⟩:=h
 exact⟨p,hp,h.keep hk hN⟩
theorem HHp.at {w:World} {ao:Option Addr} {n c:Nat} {l:List (Hk × Value)} (h:HHp w (.slice ao n c) l) (h0:0<l.length):∃ b off,ao=some ⟨b,off,none⟩∧b<w.heap.size ∧
  ∀ k (hk:k<l.length),w.cell? ⟨b,off+k * 5,none⟩=some (.int .i64 l[k].1.A)∧w.cell? ⟨b,off+k * 5+1,none⟩=some (.int .i64 l[k].1.AN)∧w.cell? ⟨b,off+k * 5+2,none⟩=some (.int .i64 l[k].1.B)∧w.cell? ⟨b,off+k * 5+3,none⟩=some (.int .i64 l[k].1.BN)∧w.cell? ⟨b,off+k * 5+4,none⟩=some l[k].2:=by
 obtain⟨b,off,c',hv,hb,hc⟩:=Holds.at h.row (by rw[Zej];omega)
 cases hv
 refine⟨b,off,rfl,hb,fun k hk=>?_⟩
 obtain⟨h0,h1,h2,h3,h4⟩:=Zei l k hk
 have hlen:=Zej l
 have e:k * 5=5 * k:=by omega
 rw[e]
 refine⟨?_,?_,?_,?_,?_⟩
 ·have:=hc (5 * k) (by omega)
  rw[← h0,this,List.getElem?_eq_getElem]
 ·have:=hc (5 * k+1) (by omega)
  rw[← h1,Nat.add_assoc,this,List.getElem?_eq_getElem]
 ·have:=hc (5 * k+2) (by omega)
  rw[← h2,Nat.add_assoc,this,List.getElem?_eq_getElem]
 ·have:=hc (5 * k+3) (by omega)
  rw[← h3,Nat.add_assoc,this,List.getElem?_eq_getElem]
 ·have:=hc (5 * k+4) (by omega)
  rw[← h4,Nat.add_assoc,this,List.getElem?_eq_getElem]
theorem HMk.form {w:World} {v:Value} {l:List Mk} (h:HMk w v l):∃ ao c,v=.slice ao l.length c:=Holds.form h
theorem ZjJ (w:World) (T E ty:TypeId) (z:Value) (size bytes:Nat) (hT:Tryz.prog.underlying T=some (.slice E)) (hinfo:(Tryz.prog.info? E).map (fun i=>(i.zero,i.size,i.bytes))=some (some z,size,bytes)) (hz1:z.cells.size=size) (hsz:0<size) (hby:bytes≤64)
  (base:Nat) (v:Value) (k:Nat) (xs:List Value) (hown:w.ownsRow base E size v k xs) (vx:Value) (m:Nat) (news:List Value) (hh:Holds w vx m news) (hl:news.length=m * size)
  (h1:∀ u∈news,u.oneCell'=true) (hk:k+m≤2199023255552) (hbase:base≤w.heap.size) :
  ∃ v' w',(Builtin.append_ #[T,T] ty #[v,vx]).run Tryz.prog w=.ok v' w'∧w'.ownsRow base E size v' (k+m) (xs++news)∧w.grownBy w' v.ownBlock∧(v'.ownBlock=v.ownBlock∨v'.ownBlock=some w.heap.size):=by
 obtain⟨i0,hi0,hz0,hzs,hz2⟩:=info_parts hinfo
 rcases hh with ⟨rfl,rfl,rfl⟩ | ⟨ad,c,rfl,_,hc⟩
 ·exact⟨v,w,run_append_owned_none (P:=Tryz.prog) (w:=w) base T ty E i0 size hT hi0 v k xs hown,by simpa using hown,World.grownBy.refl _ _,.inl rfl⟩
 ·obtain⟨v',w',hr,h2,h3,_,h5⟩:=run_append_own_at (P:=Tryz.prog) w base T ty E i0 z size bytes hT hi0 hz0 hzs hz2 hz1 hsz v k xs hown ad m c news hl hc h1 (by unfold maxLen;omega) (by
   have:(k+m) * bytes≤(k+m) * 64:=Nat.mul_le_mul_left _ hby
   omega) hbase
  exact⟨v',w',hr,h2,h3,h5⟩
theorem Zmi {ops:Array Oper} {rest:List Oper} {o:Oper} {a:Act} {Q:Exit→Act→World→Prop} (w:World) (hw:Region.wanted o (yielded ops a.tmps)=true) (s x:Operand) (T E:TypeId) (z:Value) (size bytes:Nat)
  (ho:o.op=.call { callee:=.builtin .append,args:=#[s,x],argTypes:=#[T,T] }) (hT:Tryz.prog.underlying T=some (.slice E)) (hinfo:(Tryz.prog.info? E).map (fun i=>(i.zero,i.size,i.bytes))=some (some z,size,bytes)) (hz1:z.cells.size=size) (hsz:0<size) (hby:bytes≤64)
  (base:Nat) (v:Value) (k:Nat) (xs:List Value) (hs:a.eval s=v) (hown:w.ownsRow base E size v k xs) (vx:Value) (m:Nat) (news:List Value) (hx:a.eval x=vx) (hh:Holds w vx m news) (hl:news.length=m * size)
  (h1:∀ u∈news,u.oneCell'=true) (hk:k+m≤2199023255552) (hbase:base≤w.heap.size)
  (h:∀ v' w',w'.ownsRow base E size v' (k+m) (xs++news)→w.grownBy w' v.ownBlock→(v'.ownBlock=v.ownBlock∨v'.ownBlock=some w.heap.size)→wpList Tryz.prog ops Q rest (a.put o.dst v') w'):wpList Tryz.prog ops Q (o::rest) a w:=by
 refine wpList_step fun K hK=>?_
 rw[if_pos hw]
 obtain⟨v',w',hr,h2,h3,h4⟩:=ZjJ w T E o.type z size bytes hT hinfo hz1 hsz hby base v k xs hown vx m news hh hl h1 hk hbase
 unfold Oper.wp
 simp[execOp,ho,resolve,invoke,builtin,hs,hx,hr,Result.andThen]
 exact hK _ _ (h v' w' h2 h3 h4)
theorem Zen (w:World) (base:Nat) (e:TypeId) (s:Nat):w.ownsRow base e s (.slice none 0 0) 0 []:=⟨by simp,.inl ⟨rfl,rfl⟩⟩
end

section
open Go.RowKit
theorem ZzN (z:Int) (w:World):Calls Tryz.prog 155 #[.int .i64 z] w fun e w'=>e=.returned (.bool (nat31 z))∧w'=w:=by
 unfold nat31
 go_enter Tryz.func155,Tryz.ntmps155
 by_cases h0:0≤z
 ·rw[decide_eq_true h0]
  go_wp2
  go_ret
  exact⟨by simp,rfl⟩
 ·have e0:decide (0≤z)=false:=decide_eq_false h0
  rw[e0]
  go_wp2
  go_ret
  exact⟨rfl,rfl⟩
theorem ZyK (h:Hk) (v:Value) (w:World) (hA:-4611686018427387904≤h.A) (hB:-4611686018427387904≤h.B) (hA2:h.A≤9223372036854775807) (hB2:h.B≤9223372036854775807) (x y:Int) (HX:Hid (atA h=x)) (HY:Hid (atB h=y)):Calls Tryz.prog 83 #[hkV h v] w fun e w'=>e=.returned (.tuple #[.int .i64 x,.int .i64 y])∧Below w.heap.size w w':=by
 obtain⟨A,AN,B,BN,ls⟩:=h
 dsimp only at hA hB hA2 hB2
 have hx:=Hx.new w ⟨A,AN,B,BN,ls⟩ v
 have hBl:Below w.heap.size w (w.alloc (hkO ⟨A,AN,B,BN,ls⟩ v)):=(Below.refl _ w).alloc (Nat.le_refl _) _
 obtain⟨c0,c1,c2,c3,c4⟩:=hx.cells
 unfold hkO at c0 c1 c2 c3 c4 hBl
 dsimp only at c0 c1 c2 c3 c4
 unfold hkV
 dsimp only
 clear hx c4
 have hxv:x=if 0<AN then A-1 else A:=HX.out.symm
 have hyv:y=if 0<BN then B-1 else B:=HY.out.symm
 clear HX HY
 generalize hW:w.alloc (Obj.cells #[Value.int IntKind.i64 A,Value.int IntKind.i64 AN,Value.int IntKind.i64 B,Value.int IntKind.i64 BN,v] 45)=W at *
 go_enter Tryz.func83,Tryz.ntmps83
 go_wp2_with fail
 clear hW
 by_cases h1:0<AN
 ·rw[if_pos h1] at hxv
  subst hxv
  by_cases h2:0<BN
  ·rw[if_pos h2] at hyv
   subst hyv
   go_quiet (fail)
   go_wp2
   go_ret2
   exact⟨by go_num,Below.dN hBl _⟩
  ·rw[if_neg h2] at hyv
   subst hyv
   have e2:decide (0<BN)=false:=decide_eq_false h2
   go_quiet (fail)
   go_wp2
   go_ret2
   exact⟨by go_num,Below.dN hBl _⟩
 ·rw[if_neg h1] at hxv
  subst hxv
  have e1:decide (0<AN)=false:=decide_eq_false h1
  by_cases h2:0<BN
  ·rw[if_pos h2] at hyv
   subst hyv
   go_quiet (fail)
   go_wp2
   go_ret2
   exact⟨by go_num,Below.dN hBl _⟩
  ·rw[if_neg h2] at hyv
   subst hyv
   have e2:decide (0<BN)=false:=decide_eq_false h2
   go_quiet (fail)
   go_wp2
   go_ret2
   exact⟨rfl,Below.dN hBl _⟩
theorem ZzP (h:Hk) (v:Value) (no:Int) (w:World) (hv:HMk w v h.ls) (hl:h.ls.length≤1099511627776) (R:List (List UInt8)) (HR:Hid (pkL no h.ls=R)):Calls Tryz.prog 121 #[hkV h v,.int .u8 no] w fun e w'=>∃ v',e=.returned v'∧HS w' v' R∧Below w.heap.size w w':=by
 obtain⟨A,AN,B,BN,ls⟩:=h
 dsimp only at hv hl HR
 obtain⟨lo,lc,rfl⟩:=HMk.form hv
 have hx:=Hx.new w ⟨A,AN,B,BN,ls⟩ (.slice lo ls.length lc)
 have hBl:Below w.heap.size w (w.alloc (hkO ⟨A,AN,B,BN,ls⟩ (.slice lo ls.length lc))):=(Below.refl _ w).alloc (Nat.le_refl _) _
 have hv1:=HMk.keep hv hBl (Nat.le_refl _)
 have hsz:(w.alloc (hkO ⟨A,AN,B,BN,ls⟩ (.slice lo ls.length lc))).heap.size=w.heap.size+1:=by simp
 unfold hkV
 dsimp only
 go_enter Tryz.func121,Tryz.ntmps121
 go_wp2
 have hW:w.alloc (hkO ⟨A,AN,B,BN,ls⟩ (.slice lo ls.length lc))=w.alloc (Obj.cells #[Value.int IntKind.i64 A,Value.int IntKind.i64 AN,Value.int IntKind.i64 B,Value.int IntKind.i64 BN,.slice lo ls.length lc] 45):=rfl
 rw[← hW]
 clear hW hv
 have HSZ:Hid ((w.alloc (hkO ⟨A,AN,B,BN,ls⟩ (.slice lo ls.length lc))).heap.size=w.heap.size+1):=hsz
 clear hsz
 generalize w.alloc (hkO ⟨A,AN,B,BN,ls⟩ (.slice lo ls.length lc))=W at *
 go_loopw [5,6] (fun ov iv wr=>∃ (k:Nat) (out:List (List UInt8)),k≤ls.length∧out.length≤k∧iv=.int .i64 (k:Int)∧(∃ oo oc,ov=.slice oo out.length oc)∧St W 9 1 ov out.length (scells out) wr∧Hid (out++pkL no (ls.drop k)=R)) (fun _ iv _=>ls.length-(intOf iv).toNat)
 case atStart=>exact⟨0,[],Nat.zero_le _,Nat.le_refl _,by go_num,⟨_,_,rfl⟩,⟨Zen _ _ _ _,Below.refl _ _⟩,HR⟩
 case round =>
  obtain⟨k,out,hk,hok,rfl,⟨oo,oc,rfl⟩,hS,HI⟩:=hrel
  obtain⟨_,_,_,_,d4⟩:=(hx.low hS.low).cells
  by_cases hlt:k<ls.length
  ·obtain⟨b,off,rfl,hb,_⟩:=HMk.at hv1 (by omega)
   obtain⟨m,hm⟩:∃ m,ls[k]=m:=⟨_,rfl⟩
   obtain⟨c0,c1⟩:=Low.mk hS.low hv1 k hlt hm
   have HI2:Hid (out++(if m.sg≠no∧okS m.sg=true then m.tx::pkL no (ls.drop (k+1)) else pkL no (ls.drop (k+1)))=R):=(by
    show _=_
    rw[← HI.out,List.drop_eq_getElem_cons hlt,hm]
    rfl)
   obtain⟨sg,tx⟩:=m
   dsimp only at c0 c1 HI2
   clear HI hm HR
   have i1:0≤(k:Int):=by omega
   have i2:(k:Int)<(ls.length:Int):=by omega
   have hsS:=hS.low.size
   by_cases h0:sg=no
   ·subst h0
    have HI3:Hid (out++pkL sg (ls.drop (k+1))=R):=(by
     have h:=HI2.out
     rw[if_neg (by exact fun h=>h.1 rfl)] at h
     exact h)
    clear HI2
    go_wp2
    exact⟨⟨k+1,out,by omega,by omega,by go_num,⟨_,_,rfl⟩,hS,HI3⟩,by simp[intOf];omega⟩
   ·have e0:(sg == no)=false:=by simpa using h0
    by_cases h1:sg=32
    ·subst h1
     have HI3:Hid (out++[tx]++pkL no (ls.drop (k+1))=R):=(by
      have h:=HI2.out
      rw[if_pos ⟨h0,by decide⟩] at h
      show _=_
      rw[← h]
      simp)
     clear HI2
     go_wp2_with (at_builtin;refine Zmg _ (by kernel_rfl) (.tmp 36) (.tmp 43) 49 9 (.string ⟨#[]⟩) 1 16 rfl Tryz.underlying49 infoStr rfl (by decide) (by decide) W.heap.size _ _ _ rfl (hS.own.alloc _) _ 1 (scells [tx]) rfl (ZgR _ _ _ _ _ (by decide)) rfl (ZjU _) (by omega) (by simp;omega) ?_)
     intro v2 w2 hown2 hgrow2
     have hB2:Below W.heap.size W w2:=(hS.low.alloc hS.low.size _).grown hgrow2 (by simp;omega) (fun _ hj=>ZhJ hS.own hj)
     rw[← ZzY] at hown2
     obtain⟨oo2,oc2,rfl⟩:=(Zeo hown2).form
     clear hgrow2
     go_wp2
     exact⟨⟨k+1,out++[tx],by omega,by simp;omega,by go_num,⟨_,_,by rw[List.length_append];rfl⟩,⟨by rw[List.length_append];exact hown2,hB2⟩,HI3⟩,by simp[intOf];omega⟩
    ·have e1:(sg == 32)=false:=by simpa using h1
     by_cases h2:sg=45
     ·subst h2
      have HI3:Hid (out++[tx]++pkL no (ls.drop (k+1))=R):=(by
       have h:=HI2.out
       rw[if_pos ⟨h0,by decide⟩] at h
       show _=_
       rw[← h]
       simp)
      clear HI2
      go_wp2_with (at_builtin;refine Zmg _ (by kernel_rfl) (.tmp 36) (.tmp 43) 49 9 (.string ⟨#[]⟩) 1 16 rfl Tryz.underlying49 infoStr rfl (by decide) (by decide) W.heap.size _ _ _ rfl (hS.own.alloc _) _ 1 (scells [tx]) rfl (ZgR _ _ _ _ _ (by decide)) rfl (ZjU _) (by omega) (by simp;omega) ?_)
      intro v2 w2 hown2 hgrow2
      have hB2:Below W.heap.size W w2:=(hS.low.alloc hS.low.size _).grown hgrow2 (by simp;omega) (fun _ hj=>ZhJ hS.own hj)
      rw[← ZzY] at hown2
      obtain⟨oo2,oc2,rfl⟩:=(Zeo hown2).form
      clear hgrow2
      go_wp2
      exact⟨⟨k+1,out++[tx],by omega,by simp;omega,by go_num,⟨_,_,by rw[List.length_append];rfl⟩,⟨by rw[List.length_append];exact hown2,hB2⟩,HI3⟩,by simp[intOf];omega⟩
     ·have e2:(sg == 45)=false:=by simpa using h2
      by_cases h3:sg=43
      ·subst h3
       have HI3:Hid (out++[tx]++pkL no (ls.drop (k+1))=R):=(by
        have h:=HI2.out
        rw[if_pos ⟨h0,by decide⟩] at h
        show _=_
        rw[← h]
        simp)
       clear HI2
       go_wp2_with (at_builtin;refine Zmg _ (by kernel_rfl) (.tmp 36) (.tmp 43) 49 9 (.string ⟨#[]⟩) 1 16 rfl Tryz.underlying49 infoStr rfl (by decide) (by decide) W.heap.size _ _ _ rfl (hS.own.alloc _) _ 1 (scells [tx]) rfl (ZgR _ _ _ _ _ (by decide)) rfl (ZjU _) (by omega) (by simp;omega) ?_)
       intro v2 w2 hown2 hgrow2
       have hB2:Below W.heap.size W w2:=(hS.low.alloc hS.low.size _).grown hgrow2 (by simp;omega) (fun _ hj=>ZhJ hS.own hj)
       rw[← ZzY] at hown2
       obtain⟨oo2,oc2,rfl⟩:=(Zeo hown2).form
       clear hgrow2
       go_wp2
       exact⟨⟨k+1,out++[tx],by omega,by simp;omega,by go_num,⟨_,_,by rw[List.length_append];rfl⟩,⟨by rw[List.length_append];exact hown2,hB2⟩,HI3⟩,by simp[intOf];omega⟩
      ·have e3:(sg == 43)=false:=by simpa using h3
       have HI3:Hid (out++pkL no (ls.drop (k+1))=R):=(by
        have h:=HI2.out
        rw[if_neg (by simp[okS,h1,h2,h3])] at h
        exact h)
       clear HI2
       go_wp2
       exact⟨⟨k+1,out,by omega,by omega,by go_num,⟨_,_,rfl⟩,hS,HI3⟩,by simp[intOf];omega⟩
  ·have HI3:Hid (out=R):=(by
    have h:=HI.out
    rw[List.drop_of_length_le (by omega)] at h
    show out=R
    simpa [pkL] using h)
   clear HI
   have hend:decide ((k:Int)<(ls.length:Int))=false:=decide_eq_false (by omega)
   go_wp2
   go_ret
   refine⟨_,rfl,?_,hBl.trans (hS.low.mono (by have:=HSZ.out;omega))⟩
   rw[← HI3.out]
   exact Zeo hS.own
theorem ZyW (h:Hk) (v:Value) (w:World) (hv:HMk w v h.ls) (hl:h.ls.length≤1099511627776) (R:List (List UInt8)) (HR:Hid (oldL h=R)):Calls Tryz.prog 84 #[hkV h v] w fun e w'=>∃ v',e=.returned v'∧HS w' v' R∧Below w.heap.size w w':=by
 have hBl:Below w.heap.size w (w.alloc (hkO h v)):=(Below.refl _ w).alloc (Nat.le_refl _) _
 have hv1:=HMk.keep hv hBl (Nat.le_refl _)
 obtain⟨c0,c1,c2,c3,c4⟩:=(Hx.new w h v).cells
 unfold hkO at c0 c1 c2 c3 c4 hBl hv1
 obtain⟨lo,lc,rfl⟩:=HMk.form hv
 have e:hkV h (.slice lo h.ls.length lc)=.agg #[.int .i64 h.A,.int .i64 h.AN,.int .i64 h.B,.int .i64 h.BN,.slice lo h.ls.length lc]:=rfl
 rw[e]
 go_enter Tryz.func84,Tryz.ntmps84
 go_wp2_with fail
 refine (ZzP h _ 43 _ hv1 hl R HR).mono ?_
 rintro e w1 ⟨v1,rfl,hv1,hB1⟩
 obtain⟨vo,vc,rfl⟩:=Holds.form hv1
 go_wp2
 go_ret
 exact⟨_,rfl,hv1,hBl.trans (hB1.mono hBl.size)⟩
theorem ZyT (h:Hk) (v:Value) (w:World) (hv:HMk w v h.ls) (hl:h.ls.length≤1099511627776) (R:List (List UInt8)) (HR:Hid (newL h=R)):Calls Tryz.prog 85 #[hkV h v] w fun e w'=>∃ v',e=.returned v'∧HS w' v' R∧Below w.heap.size w w':=by
 have hBl:Below w.heap.size w (w.alloc (hkO h v)):=(Below.refl _ w).alloc (Nat.le_refl _) _
 have hv1:=HMk.keep hv hBl (Nat.le_refl _)
 obtain⟨c0,c1,c2,c3,c4⟩:=(Hx.new w h v).cells
 unfold hkO at c0 c1 c2 c3 c4 hBl hv1
 obtain⟨lo,lc,rfl⟩:=HMk.form hv
 have e:hkV h (.slice lo h.ls.length lc)=.agg #[.int .i64 h.A,.int .i64 h.AN,.int .i64 h.B,.int .i64 h.BN,.slice lo h.ls.length lc]:=rfl
 rw[e]
 go_enter Tryz.func85,Tryz.ntmps85
 go_wp2_with fail
 refine (ZzP h _ 45 _ hv1 hl R HR).mono ?_
 rintro e w1 ⟨v1,rfl,hv1,hB1⟩
 obtain⟨vo,vc,rfl⟩:=Holds.form hv1
 go_wp2
 go_ret
 exact⟨_,rfl,hv1,hBl.trans (hB1.mono hBl.size)⟩
theorem ZwI {s:List UInt8} (hs:s≠[]):linB s=true↔∀ (j:Nat) (hj:j+1<s.length),s[j]≠10:=by
 unfold linB
 have e1:s.isEmpty=false:=by cases s with | nil=>exact absurd rfl hs | cons=>rfl
 rw[e1]
 simp only[Bool.not_false,Bool.true_and,List.all_eq_true]
 constructor
 ·intro h j hj
  have:=h s[j] (by
   rw[List.mem_iff_getElem]
   exact⟨j,by simp;omega,by simp⟩)
  simpa using this
 ·intro h c hc
  rw[List.mem_iff_getElem] at hc
  obtain⟨j,hj,rfl⟩:=hc
  simp at hj
  have:=h j (by omega)
  simpa using this
end

end Go.Proofs.YtcniomgjikienaaGreatDoor
