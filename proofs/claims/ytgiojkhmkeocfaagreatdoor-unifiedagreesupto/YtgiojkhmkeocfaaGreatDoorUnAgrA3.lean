/-
  Texts that belong together, joined: EdRow, EdMath, EdM2, EdM3, EdM4, EdM5, HuMath, HuM2, HuM3, HuM4, HuM5, HuM6, EdChk, EdIter, EdOwn, EdKeep.
-/
import Derived.Test.YtgiojkhmkeocfaaGreatDoorProg
import Derived.WalkKit
import Derived.WalkSpells
import Derived.WalkLawsBesides
import Derived.Deep.QuietTactic
import Derived.BigQuiet
import Derived.Laws.AppendOwnNone
import Derived.Below
import Derived.RangeFuncNested
import Derived.RangeFuncBound
import Derived.RangeFuncCalls
import Derived.RangeFuncLeaves
import Derived.RangeFuncBox
import Derived.Shelf.Abstract
import Derived.Shelf.RegionOpen
import Derived.OwnWalkIn
import Derived.TacticsInMore
import Derived.LoopNIn
import Derived.LoopIn
import Derived.Maps.AppendAt

set_option maxHeartbeats 16000000
set_option maxRecDepth 100000
namespace Go.Proofs.YtgiojkhmkeocfaaGreatDoor

section
open Go.RowKit
theorem Y_a {α:Type} (l:List α) (i:Nat) (a:α):l.toArray.setIfInBounds i a=(l.set i a).toArray:=List.setIfInBounds_toArray ..
theorem Y_b {α:Type} {a b:α} {l:List α}:(a::l).set 0 b=b::l:=rfl
theorem Y_c {α:Type} {a b:α} {l:List α} {n:Nat}:(a::l).set (n+1) b=a::l.set n b:=rfl
structure Ch where
 A:Int
 AN:Int
 B:Int
 BN:Int
structure Rn where
 a:Int
 b:Int
 n:Int
def chV (c:Ch):Value:=.agg #[.int .i64 c.A,.int .i64 c.AN,.int .i64 c.B,.int .i64 c.BN]
def chC (c:Ch):List Value:=[.int .i64 c.A,.int .i64 c.AN,.int .i64 c.B,.int .i64 c.BN]
def rnC (r:Rn):List Value:=[.int .i64 r.a,.int .i64 r.b,.int .i64 r.n]
def chcells (l:List Ch):List Value:=l.flatMap chC
def rncells (l:List Rn):List Value:=l.flatMap rnC
def icells (ns:List Int):List Value:=ns.map fun z=>.int .i64 z
def scells (ws:List (List UInt8)):List Value:=ws.map fun a=>.string ⟨a.toArray⟩
theorem infoStr:(Tryz.prog.info? 9).map (fun i=>(i.zero,i.size,i.bytes))=some (some (.string ⟨#[]⟩),1,16):=by kernel_rfl
theorem infoInt:(Tryz.prog.info? 3).map (fun i=>(i.zero,i.size,i.bytes))=some (some (.int .i64 0),1,8):=by kernel_rfl
theorem infoCh:(Tryz.prog.info? 64).map (fun i=>(i.zero,i.size,i.bytes))=some (some (.agg #[.int .i64 0,.int .i64 0,.int .i64 0,.int .i64 0]),4,32):=by kernel_rfl
theorem infoRn:(Tryz.prog.info? 271).map (fun i=>(i.zero,i.size,i.bytes))=some (some (.agg #[.int .i64 0,.int .i64 0,.int .i64 0]),3,24):=by kernel_rfl
theorem addr_of {W:World} {a:Addr} {v:Value} (h:W.cell? (a.add 0)=some v):∃ b off,a=⟨b,off,none⟩:=by
 obtain⟨b,off,spot⟩:=a
 have hspot:spot=none:=by simpa [Addr.add] using World.cell?_spot h
 subst hspot
 exact⟨b,off,rfl⟩
theorem add_none (b off j:Nat):(⟨b,off,none⟩:Addr).add j=⟨b,off+j,none⟩:=by unfold Addr.add;split<;>simp_all
theorem Below.dN {N:Nat} {w w1:World} (h:Below N w w1) (n:Nat):Below N w (w1.drewN n):=⟨h.os,h.tape,h.output,h.size,h.block⟩
def Holds (w:World) (v:Value) (n:Nat) (xs:List Value):Prop :=
 (v=.slice none 0 0∧n=0∧xs=[])∨∃ ad c,v=.slice (some ad) n c∧n≤c∧∀ j u,xs[j]?=some u→w.cell? (ad.add j)=some u
theorem holds_of {w:World} {B:Nat} {e:TypeId} {s:Nat} {v:Value} {n:Nat} {xs:List Value} (h:w.ownsRow B e s v n xs):Holds w v n xs:=by
 rcases h.2 with ⟨rfl,h0⟩ | ⟨g,cap,cur,rfl,_,_,hnc,_⟩
 ·exact .inl ⟨rfl,h0,List.eq_nil_of_length_eq_zero (by rw[h.1,h0,Nat.zero_mul])⟩
 ·exact .inr ⟨⟨g,0,none⟩,cap,rfl,hnc,h.cells (g:=g) rfl⟩
theorem Holds.keep {w w':World} {v:Value} {n:Nat} {xs:List Value} (h:Holds w v n xs) (hk:∀ k,k<w.heap.size→w'.heap[k]?=w.heap[k]?):Holds w' v n xs:=by
 rcases h with h | ⟨ad,c,hv,hnc,hc⟩
 ·exact .inl h
 ·refine .inr ⟨ad,c,hv,hnc,fun j u hj=>?_⟩
  have h1:=hc j u hj
  have hlt:=World.block_lt_of_cell? w _ h1
  rw[World.cell?_of_block (w:=w) (hk _ hlt)]
  exact h1
theorem Holds.form {w:World} {v:Value} {n:Nat} {xs:List Value} (h:Holds w v n xs):∃ ao c,v=.slice ao n c:=by
 rcases h with ⟨rfl,rfl,rfl⟩ | ⟨ad,c,rfl,_⟩
 ·exact⟨_,_,rfl⟩
 ·exact⟨_,_,rfl⟩
theorem Holds.at {w:World} {v:Value} {n:Nat} {xs:List Value} (h:Holds w v n xs) (h0:0<xs.length):∃ b off c,v=.slice (some ⟨b,off,none⟩) n c∧b<w.heap.size∧∀ j (hj:j<xs.length),w.cell? ⟨b,off+j,none⟩=some xs[j]:=by
 rcases h with ⟨_,_,rfl⟩ | ⟨ad,c,rfl,_,hc⟩
 ·simp at h0
 ·obtain⟨b,off,rfl⟩:=addr_of (hc 0 _ (List.getElem?_eq_getElem h0))
  refine⟨b,off,c,rfl,World.block_lt_of_cell? w _ (hc 0 _ (List.getElem?_eq_getElem h0)),fun j hj=>?_⟩
  have:=hc j _ (List.getElem?_eq_getElem hj)
  rw[add_none] at this
  exact this
theorem Holds.nil (w:World):Holds w (.slice none 0 0) 0 []:=.inl ⟨rfl,rfl,rfl⟩
theorem ZcC (l:List Ch):(chcells l).length=l.length * 4:=by
 induction l with
 | nil=>rfl
 | cons c l ih=>simp only[chcells,List.flatMap_cons,List.length_append,List.length_cons] at ih ⊢;rw[ih];simp[chC];omega
theorem ZpV (l:List Rn):(rncells l).length=l.length * 3:=by
 induction l with
 | nil=>rfl
 | cons c l ih=>simp only[rncells,List.flatMap_cons,List.length_append,List.length_cons] at ih ⊢;rw[ih];simp[rnC];omega
theorem icells_length (l:List Int):(icells l).length=l.length:=by simp[icells]
theorem scells_length (l:List (List UInt8)):(scells l).length=l.length:=by simp[scells]
theorem ZcA (a b:List Ch):chcells (a++b)=chcells a++chcells b:=by simp[chcells]
theorem ZpT (a b:List Rn):rncells (a++b)=rncells a++rncells b:=by simp[rncells]
theorem icells_append (a b:List Int):icells (a++b)=icells a++icells b:=by simp[icells]
theorem ZqX (a b:List (List UInt8)):scells (a++b)=scells a++scells b:=by simp[scells]
theorem ZcD (l:List Ch):∀ u∈chcells l,u.oneCell'=true:=by
 intro u hu
 simp only[chcells,List.mem_flatMap,chC] at hu
 obtain⟨c,_,h⟩:=hu
 simp only[List.mem_cons,List.not_mem_nil,or_false] at h
 rcases h with rfl | rfl | rfl | rfl<;>rfl
theorem ZpW (l:List Rn):∀ u∈rncells l,u.oneCell'=true:=by
 intro u hu
 simp only[rncells,List.mem_flatMap,rnC] at hu
 obtain⟨c,_,h⟩:=hu
 simp only[List.mem_cons,List.not_mem_nil,or_false] at h
 rcases h with rfl | rfl | rfl<;>rfl
theorem Ziw (l:List Int):∀ u∈icells l,u.oneCell'=true:=by
 intro u hu
 simp only[icells,List.mem_map] at hu
 obtain⟨a,_,rfl⟩:=hu
 rfl
theorem ZqY (l:List (List UInt8)):∀ u∈scells l,u.oneCell'=true:=by
 intro u hu
 simp only[scells,List.mem_map] at hu
 obtain⟨a,_,rfl⟩:=hu
 rfl
theorem ZcB (l:List Ch) (k:Nat) (hk:k<l.length):(chcells l)[4 * k]?=some (.int .i64 l[k].A)∧(chcells l)[4 * k+1]?=some (.int .i64 l[k].AN)∧(chcells l)[4 * k+2]?=some (.int .i64 l[k].B)∧(chcells l)[4 * k+3]?=some (.int .i64 l[k].BN):=by
 induction l generalizing k with
 | nil=>simp at hk
 | cons c l ih =>
  cases k with
  | zero=>simp[chcells,chC]
  | succ k =>
   have h:=ih k (by simpa using hk)
   have e:∀ i,(chcells (c::l))[4 * (k+1)+i]?=(chcells l)[4 * k+i]?:=by
    intro i
    have:chcells (c::l)=chC c++chcells l:=rfl
    rw[this,List.getElem?_append_right (by simp[chC];omega)]
    congr 1
    simp[chC];omega
   simp only[List.getElem_cons_succ]
   refine⟨by rw[← (h).1];exact e 0,by rw[← h.2.1];exact e 1,by rw[← h.2.2.1];exact e 2,by rw[← h.2.2.2];exact e 3⟩
theorem ZpU (l:List Rn) (k:Nat) (hk:k<l.length):(rncells l)[3 * k]?=some (.int .i64 l[k].a)∧(rncells l)[3 * k+1]?=some (.int .i64 l[k].b)∧(rncells l)[3 * k+2]?=some (.int .i64 l[k].n):=by
 induction l generalizing k with
 | nil=>simp at hk
 | cons c l ih =>
  cases k with
  | zero=>simp[rncells,rnC]
  | succ k =>
   have h:=ih k (by simpa using hk)
   have e:∀ i,(rncells (c::l))[3 * (k+1)+i]?=(rncells l)[3 * k+i]?:=by
    intro i
    have:rncells (c::l)=rnC c++rncells l:=rfl
    rw[this,List.getElem?_append_right (by simp[rnC];omega)]
    congr 1
    simp[rnC];omega
   simp only[List.getElem_cons_succ]
   refine⟨by rw[← (h).1];exact e 0,by rw[← h.2.1];exact e 1,by rw[← h.2.2];exact e 2⟩
def HCh (w:World) (v:Value) (l:List Ch):Prop:=Holds w v l.length (chcells l)
def HRn (w:World) (v:Value) (l:List Rn):Prop:=Holds w v l.length (rncells l)
def HI (w:World) (v:Value) (l:List Int):Prop:=Holds w v l.length (icells l)
def HS (w:World) (v:Value) (l:List (List UInt8)):Prop:=Holds w v l.length (scells l)
theorem HCh.keep {w w':World} {v:Value} {l:List Ch} (h:HCh w v l) {N:Nat} (hk:Below N w w') (hN:w.heap.size≤N):HCh w' v l:=Holds.keep h fun k hk'=>hk.block k (by omega)
theorem HI.keep {w w':World} {v:Value} {l:List Int} (h:HI w v l) {N:Nat} (hk:Below N w w') (hN:w.heap.size≤N):HI w' v l:=Holds.keep h fun k hk'=>hk.block k (by omega)
theorem HS.keep {w w':World} {v:Value} {l:List (List UInt8)} (h:HS w v l) {N:Nat} (hk:Below N w w') (hN:w.heap.size≤N):HS w' v l:=Holds.keep h fun k hk'=>hk.block k (by omega)
theorem HCh.at {w:World} {ao:Option Addr} {n c:Nat} {l:List Ch} (h:HCh w (.slice ao n c) l) (h0:0<l.length):∃ b off,ao=some ⟨b,off,none⟩∧b<w.heap.size ∧
  ∀ k (hk:k<l.length),w.cell? ⟨b,off+k * 4,none⟩=some (.int .i64 l[k].A)∧w.cell? ⟨b,off+k * 4+1,none⟩=some (.int .i64 l[k].AN)∧w.cell? ⟨b,off+k * 4+2,none⟩=some (.int .i64 l[k].B)∧w.cell? ⟨b,off+k * 4+3,none⟩=some (.int .i64 l[k].BN):=by
 obtain⟨b,off,c',hv,hb,hc⟩:=Holds.at h (by rw[ZcC];omega)
 cases hv
 refine⟨b,off,rfl,hb,fun k hk=>?_⟩
 obtain⟨h0,h1,h2,h3⟩:=ZcB l k hk
 have hlen:=ZcC l
 have e:k * 4=4 * k:=by omega
 rw[e]
 refine⟨?_,?_,?_,?_⟩
 ·have:=hc (4 * k) (by omega)
  rw[← h0,this,List.getElem?_eq_getElem]
 ·have:=hc (4 * k+1) (by omega)
  rw[← h1,Nat.add_assoc,this,List.getElem?_eq_getElem]
 ·have:=hc (4 * k+2) (by omega)
  rw[← h2,Nat.add_assoc,this,List.getElem?_eq_getElem]
 ·have:=hc (4 * k+3) (by omega)
  rw[← h3,Nat.add_assoc,this,List.getElem?_eq_getElem]
theorem HRn.at {w:World} {ao:Option Addr} {n c:Nat} {l:List Rn} (h:HRn w (.slice ao n c) l) (h0:0<l.length):∃ b off,ao=some ⟨b,off,none⟩∧b<w.heap.size ∧
  ∀ k (hk:k<l.length),w.cell? ⟨b,off+k * 3,none⟩=some (.int .i64 l[k].a)∧w.cell? ⟨b,off+k * 3+1,none⟩=some (.int .i64 l[k].b)∧w.cell? ⟨b,off+k * 3+2,none⟩=some (.int .i64 l[k].n):=by
 obtain⟨b,off,c',hv,hb,hc⟩:=Holds.at h (by rw[ZpV];omega)
 cases hv
 refine⟨b,off,rfl,hb,fun k hk=>?_⟩
 obtain⟨h0,h1,h2⟩:=ZpU l k hk
 have hlen:=ZpV l
 have e:k * 3=3 * k:=by omega
 rw[e]
 refine⟨?_,?_,?_⟩
 ·have:=hc (3 * k) (by omega)
  rw[← h0,this,List.getElem?_eq_getElem]
 ·have:=hc (3 * k+1) (by omega)
  rw[← h1,Nat.add_assoc,this,List.getElem?_eq_getElem]
 ·have:=hc (3 * k+2) (by omega)
  rw[← h2,Nat.add_assoc,this,List.getElem?_eq_getElem]
theorem HI.at {w:World} {ao:Option Addr} {n c:Nat} {l:List Int} (h:HI w (.slice ao n c) l) (h0:0<l.length):∃ b off,ao=some ⟨b,off,none⟩∧b<w.heap.size ∧
  ∀ k (hk:k<l.length),w.cell? ⟨b,off+k,none⟩=some (.int .i64 l[k]):=by
 obtain⟨b,off,c',hv,hb,hc⟩:=Holds.at h (by rw[icells_length];omega)
 cases hv
 exact⟨b,off,rfl,hb,fun k hk=>by rw[hc k (by rw[icells_length];exact hk)];simp[icells]⟩
theorem HS.at {w:World} {ao:Option Addr} {n c:Nat} {l:List (List UInt8)} (h:HS w (.slice ao n c) l) (h0:0<l.length):∃ b off,ao=some ⟨b,off,none⟩∧b<w.heap.size ∧
  ∀ k (hk:k<l.length),w.cell? ⟨b,off+k,none⟩=some (.string ⟨l[k].toArray⟩):=by
 obtain⟨b,off,c',hv,hb,hc⟩:=Holds.at h (by rw[scells_length];omega)
 cases hv
 exact⟨b,off,rfl,hb,fun k hk=>by rw[hc k (by rw[scells_length];exact hk)];simp[scells]⟩
end

section
def nat31 (z:Int):Bool:=decide (0≤z) && decide (z≤2147483647)
def numB (c:Ch):Bool:=nat31 c.A && nat31 c.AN && nat31 c.B && nat31 c.BN && (decide (0<c.AN) || decide (0<c.BN))
theorem ZmM (c:Ch):numB c=true↔(0≤c.A∧c.A≤2147483647)∧(0≤c.AN∧c.AN≤2147483647)∧(0≤c.B∧c.B≤2147483647)∧(0≤c.BN∧c.BN≤2147483647)∧(0<c.AN∨0<c.BN):=by
 simp[numB,nat31,and_assoc]
def Right:Bool→Int→Int→Int→Int→List Ch→Prop
 | _,a,b,n,m,[]=>a≤n∧b≤m∧n-a=m-b
 | f,a,b,n,m,c::l=>(numB c=true∧c.A-a=c.B-b∧a≤c.A∧(f=true∨a<c.A))∧Right false (c.A+c.AN) (c.B+c.BN) n m l
def decRight:(f:Bool)→(a b n m:Int)→(l:List Ch)→Decidable (Right f a b n m l)
 | _,a,b,n,m,[]=>inferInstanceAs (Decidable (a≤n∧b≤m∧n-a=m-b))
 | f,a,b,n,m,c::l =>
  have _:=decRight false (c.A+c.AN) (c.B+c.BN) n m l
  inferInstanceAs (Decidable ((numB c=true∧c.A-a=c.B-b∧a≤c.A∧(f=true∨a<c.A))∧Right false (c.A+c.AN) (c.B+c.BN) n m l))
theorem Right.le {f:Bool} {a b n m:Int} {l:List Ch} (h:Right f a b n m l):a≤n∧b≤m∧n-a-(m-b)=n-a-(m-b):=by
 induction l generalizing f a b with
 | nil=>exact⟨h.1,h.2.1,rfl⟩
 | cons c l ih =>
  obtain⟨⟨h1,h2,h3,h4⟩,h5⟩:=h
  rw[ZmM] at h1
  have:=ih h5
  refine⟨by omega,by omega,rfl⟩
def Script (l:List Ch) (n m:Int):Prop:=0≤n∧0≤m∧Right true 0 0 n m l
def decScript (l:List Ch) (n m:Int):Decidable (Script l n m) :=
 have _:=decRight true 0 0 n m l
 inferInstanceAs (Decidable (0≤n∧0≤m∧Right true 0 0 n m l))
def chk (l:List Ch) (n m:Int):Int:=@ite Int (Script l n m) (decScript l n m) 0 50
theorem ZcV {l:List Ch} {n m:Int} (h:Script l n m):chk l n m=0:=if_pos h
theorem ZcU {l:List Ch} {n m:Int} (h:¬ Script l n m):chk l n m=50:=if_neg h
def piecesL:Int→Int→Int→Int→List Ch→List (Rn × Ch)
 | a,b,n,m,[]=>[(⟨a,b,n-a⟩,⟨n,0,m,0⟩)]
 | a,b,n,m,c::l=>(⟨a,b,c.A-a⟩,c)::piecesL (c.A+c.AN) (c.B+c.BN) n m l
def cut (A:List (List UInt8)) (i n:Int):List (List UInt8):=(A.drop i.toNat).take n.toNat
def pa (A B:List (List UInt8)) (x:Rn × Ch):List (List UInt8):=cut A x.1.a x.1.n++cut B x.2.B x.2.BN
end

section
def un (a b:Int):Nat→List Rn
 | 0=>[]
 | k+1=>⟨a,b,1⟩::un (a+1) (b+1) k
def ex (r:Rn):List Rn:=un r.a r.b r.n.toNat
def exs (rs:List Rn):List Rn:=rs.flatMap ex
theorem Zlp {a b:Int} {k:Nat} {r:Rn}:r∈un a b k↔r.n=1∧a≤r.a∧r.a<a+k∧r.b-r.a=b-a:=by
 induction k generalizing a b with
 | zero=>simp[un];omega
 | succ k ih =>
  rw[un,List.mem_cons,ih]
  constructor
  ·rintro (rfl | h)
   ·simp;omega
   ·omega
  ·rintro⟨h1,h2,h3,h4⟩
   by_cases h:r.a=a
   ·left
    obtain⟨x,y,z⟩:=r
    simp only at *
    subst h h1
    have:y=b:=by omega
    rw[this]
   ·right
    omega
theorem ZtQ (a b:Int) (i j:Nat):un a b (i+j)=un a b i++un (a+i) (b+i) j:=by
 induction i generalizing a b with
 | zero=>simp[un]
 | succ i ih =>
  rw[show i+1+j=(i+j)+1 by omega,un,un,ih]
  simp only[List.cons_append]
  congr 3<;>omega
def Chain:Int→Int→List Rn→Prop
 | _,_,[]=>True
 | a,b,r::rs=>a≤r.a∧b≤r.b∧0≤r.n∧Chain (r.a+r.n) (r.b+r.n) rs
def Up (l:List Rn):Prop:=l.Pairwise fun p q=>p.a<q.a∧p.b<q.b
def betw:Int→Int→List Rn→List Ch
 | _,_,[]=>[]
 | a,b,r::rs=>if a<r.a∨b<r.b then ⟨a,r.a-a,b,r.b-b⟩::betw (r.a+r.n) (r.b+r.n) rs else betw (r.a+r.n) (r.b+r.n) rs
theorem Zbo (a b:Int) (k:Nat) (e:List Rn):betw a b (un a b k++e)=betw (a+k) (b+k) e:=by
 induction k generalizing a b with
 | zero=>simp[un]
 | succ k ih =>
  rw[un,List.cons_append,betw]
  rw[if_neg (by simp)]
  dsimp only
  rw[ih]
  congr 1<;>omega
def rns (a b n m:Int) (l:List Ch):List Rn:=(piecesL a b n m l).map (·.1)
def U (a b n m:Int) (l:List Ch):List Rn:=exs (rns a b n m l)
theorem Zax (a b n m:Int):U a b n m []=un a b (n-a).toNat:=by simp[U,rns,piecesL,exs,ex]
theorem Zaw (a b n m:Int) (c:Ch) (l:List Ch):U a b n m (c::l)=un a b (c.A-a).toNat++U (c.A+c.AN) (c.B+c.BN) n m l:=by
 simp[U,rns,piecesL,exs,ex]
end

section
def Fit:Int→Int→Int→Int→List Rn→Prop
 | a,b,n,m,[]=>a≤n∧b≤m
 | a,b,n,m,r::P=>a≤r.a∧b≤r.b∧r.n=1∧Fit (r.a+1) (r.b+1) n m P
theorem Fit.le {a b n m:Int} {P:List Rn} (h:Fit a b n m P):a≤n∧b≤m:=by
 induction P generalizing a b with
 | nil=>exact h
 | cons r P ih=>have:=ih h.2.2.2;have h1:=h.1;have h2:=h.2.1;omega
theorem ZpO {x y n m:Int} {l:List Ch} (h:Right true (x+1) (y+1) n m l):(∀ f,Right f x y n m l)∧U x y n m l=⟨x,y,1⟩::U (x+1) (y+1) n m l:=by
 cases l with
 | nil =>
  obtain⟨h1,h2,h3⟩:=h
  refine⟨fun f=>⟨by omega,by omega,by omega⟩,?_⟩
  rw[Zax,Zax,show (n-x).toNat=(n-(x+1)).toNat+1 by omega,un]
 | cons c l =>
  obtain⟨⟨h1,h2,h3,h4⟩,h5⟩:=h
  refine⟨fun f=>⟨⟨h1,by omega,by omega,.inr (by omega)⟩,h5⟩,?_⟩
  rw[Zaw,Zaw,show (c.A-x).toNat=(c.A-(x+1)).toNat+1 by omega,un,List.cons_append]
theorem Zgn {a b n m:Int} {P:List Rn} (h:Fit a b n m P) (ha:0≤a) (hb:0≤b) (hn:n≤2147483647) (hm:m≤2147483647) :
  Right true a b n m (betw a b (P++[⟨n,m,0⟩]))∧U a b n m (betw a b (P++[⟨n,m,0⟩]))=P:=by
 induction P generalizing a b with
 | nil =>
  obtain⟨h1,h2⟩:=h
  rw[List.nil_append,betw]
  dsimp only
  split
  ·rw[betw]
   refine⟨⟨⟨by rw[ZmM];dsimp only;omega,by dsimp only;omega,by dsimp only;omega,.inl rfl⟩,⟨by dsimp only;omega,by dsimp only;omega,by dsimp only;omega⟩⟩,?_⟩
   rw[Zaw,Zax]
   dsimp only
   rw[show (a-a).toNat=0 by omega,show (n-(a+(n-a))).toNat=0 by omega]
   rfl
  ·rw[betw]
   refine⟨⟨h1,h2,by omega⟩,?_⟩
   rw[Zax,show (n-a).toNat=0 by omega]
   rfl
 | cons r P ih =>
  obtain⟨x,y,z⟩:=r
  obtain⟨h1,h2,h3,h4⟩:=h
  dsimp only at h1 h2 h3 h4
  subst h3
  obtain⟨i1,i2⟩:=ih h4 (by omega) (by omega)
  obtain⟨s1,s2⟩:=ZpO i1
  have hle:=h4.le
  rw[List.cons_append,betw]
  dsimp only
  split
  ·refine⟨⟨⟨by rw[ZmM];dsimp only;omega,by dsimp only;omega,by dsimp only;omega,.inl rfl⟩,?_⟩,?_⟩
   ·dsimp only
    rw[show a+(x-a)=x by omega,show b+(y-b)=y by omega]
    exact s1 false
   ·rw[Zaw]
    dsimp only
    rw[show a+(x-a)=x by omega,show b+(y-b)=y by omega,s2,i2,show (a-a).toNat=0 by omega]
    rfl
  ·obtain rfl:x=a:=by omega
   obtain rfl:y=b:=by omega
   refine⟨s1 true,?_⟩
   rw[s2,i2]
theorem Right.bounds {f:Bool} {a b n m:Int} {l:List Ch} (h:Right f a b n m l):∀ r∈U a b n m l,r.n=1∧a≤r.a∧r.a<n∧b≤r.b∧r.b<m:=by
 induction l generalizing f a b with
 | nil =>
  obtain⟨h1,h2,h3⟩:=h
  intro r hr
  rw[Zax,Zlp] at hr
  omega
 | cons c l ih =>
  obtain⟨⟨h1,h2,h3,h4⟩,h5⟩:=h
  rw[ZmM] at h1
  have hle:=h5.le
  intro r hr
  rw[Zaw,List.mem_append,Zlp] at hr
  rcases hr with hr | hr
  ·omega
  ·have:=ih h5 r hr
   omega
def keptR:Int→List Int→List Rn
 | _,[]=>[]
 | i,z::t=>if z=-1 then keptR (i+1) t else ⟨i,z,1⟩::keptR (i+1) t
theorem Zjq (i b:Int) (hb:0≤b) (k:Nat):keptR i ((List.range k).map fun (j:Nat)=>b+(j:Int))=un i b k:=by
 induction k generalizing i b with
 | zero=>rfl
 | succ k ih =>
  rw[List.range_succ_eq_map,List.map_cons,List.map_map,keptR,if_neg (by simp;omega),un]
  have:=ih (i+1) (b+1) (by omega)
  rw[← this]
  simp only[Int.natCast_zero,Int.add_zero]
  congr 2
  apply List.map_congr_left
  intro j _
  simp
  omega
theorem Zln {i:Int} {K:List Int} {r:Rn}:r∈keptR i K↔r.n=1∧i≤r.a∧K[(r.a-i).toNat]?=some r.b∧r.b≠-1:=by
 induction K generalizing i with
 | nil=>simp[keptR]
 | cons z t ih =>
  rw[keptR]
  have key:(r.n=1∧i+1≤r.a∧t[(r.a-(i+1)).toNat]?=some r.b∧r.b≠-1)↔(r.n=1∧i+1≤r.a∧(z::t)[(r.a-i).toNat]?=some r.b∧r.b≠-1):=by
   by_cases h:i+1≤r.a
   ·rw[show (r.a-i).toNat=(r.a-(i+1)).toNat+1 by omega,List.getElem?_cons_succ]
   ·constructor<;>(intro h1;omega)
  split
  ·rename_i hz
   rw[ih,key]
   constructor
   ·rintro⟨h1,h2,h3,h4⟩
    exact⟨h1,by omega,h3,h4⟩
   ·rintro⟨h1,h2,h3,h4⟩
    refine⟨h1,?_,h3,h4⟩
    by_cases h:r.a=i
    ·rw[show (r.a-i).toNat=0 by omega,List.getElem?_cons_zero,Option.some_inj] at h3
     omega
    ·omega
  ·rename_i hz
   rw[List.mem_cons,ih,key]
   constructor
   ·rintro (rfl | ⟨h1,h2,h3,h4⟩)
    ·simp[hz]
    ·exact⟨h1,by omega,h3,h4⟩
   ·rintro⟨h1,h2,h3,h4⟩
    by_cases h:r.a=i
    ·left
     rw[show (r.a-i).toNat=0 by omega,List.getElem?_cons_zero,Option.some_inj] at h3
     obtain⟨x,y,w⟩:=r
     dsimp only at *
     rw[h,h1,h3]
    ·exact .inr ⟨h1,by omega,h3,h4⟩
def UpA (l:List Rn):Prop:=l.Pairwise fun p q=>p.a<q.a
theorem Up.a {l:List Rn} (h:Up l):UpA l:=h.imp fun h=>h.1
def Vk:Int→Int→List Int→Prop
 | _,_,[]=>True
 | nx,m,z::t=>(z=-1∧Vk nx m t)∨(z≠-1∧nx≤z∧z<m∧Vk (z+1) m t)
theorem Vk.fit {nx m i:Int} {K:List Int} (h:Vk nx m K) (hm:nx≤m):Fit i nx (i+K.length) m (keptR i K):=by
 have wk:∀ {a b n m:Int} {P:List Rn},Fit (a+1) b n m P→Fit a b n m P:=by
  intro a b n m P h
  cases P with
  | nil=>exact⟨by have:=h.1;omega,h.2⟩
  | cons r P=>exact⟨by have:=h.1;omega,h.2⟩
 induction K generalizing nx i with
 | nil=>exact⟨by simp,hm⟩
 | cons z t ih =>
  rw[keptR]
  rcases h with ⟨rfl,h⟩ | ⟨hz,h1,h2,h3⟩
  ·rw[if_pos rfl]
   have:=ih h hm (i:=i+1)
   rw[show i+1+(t.length:Int)=i+((-1::t).length:Int) by simp;omega] at this
   exact wk this
  ·rw[if_neg hz]
   have:=ih h3 (by omega) (i:=i+1)
   rw[show i+1+(t.length:Int)=i+((z::t).length:Int) by simp;omega] at this
   exact⟨Int.le_refl _,h1,rfl,this⟩
theorem Vk.each {nx m:Int} {K:List Int} (h:Vk nx m K) (h0:0≤nx):∀ z∈K,z=-1∨0≤z:=by
 induction K generalizing nx with
 | nil=>simp
 | cons y t ih =>
  intro z hz
  rw[List.mem_cons] at hz
  rcases h with ⟨rfl,h⟩ | ⟨hy,h1,h2,h3⟩
  ·rcases hz with rfl | hz
   ·exact .inl rfl
   ·exact ih h h0 z hz
  ·rcases hz with rfl | hz
   ·right;omega
   ·exact ih h3 (by omega) z hz
end

section
section
variable {x y:List Ch} {n m k:Int}
end
end

section
def mo (s z:Int):Int:=s+min (max z 0) (2147483647-s)
theorem Zey {A B:List (List UInt8)} {a b:Int} {k:Nat} (ha:0≤a) (hb:0≤b) (h:∀ r∈un a b k,A[r.a.toNat]?=B[r.b.toNat]?):cut A a k=cut B b k:=by
 apply List.ext_getElem?
 intro j
 simp only[cut,Int.toNat_natCast,List.getElem?_take,List.getElem?_drop]
 split
 ·have:=h ⟨a+j,b+j,1⟩ (by rw[Zlp];dsimp only;omega)
  dsimp only at this
  rw[show a.toNat+j=(a+(j:Int)).toNat by omega,show b.toNat+j=(b+(j:Int)).toNat by omega]
  exact this
 ·rfl
end

section
structure Mk where
 sg:Int
 tx:List UInt8
structure Hk where
 A:Int
 AN:Int
 B:Int
 BN:Int
 ls:List Mk
def okS (s:Int):Bool:=decide (s=32) || decide (s=45) || decide (s=43)
def pkL (no:Int):List Mk→List (List UInt8)
 | []=>[]
 | m::l=>if m.sg≠no∧okS m.sg=true then m.tx::pkL no l else pkL no l
def oldL (h:Hk):List (List UInt8):=pkL 43 h.ls
def newL (h:Hk):List (List UInt8):=pkL 45 h.ls
theorem Zol (no:Int) (x y:List Mk):pkL no (x++y)=pkL no x++pkL no y:=by
 induction x with
 | nil=>rfl
 | cons m x ih =>
  simp only[List.cons_append,pkL,ih]
  split<;>simp
theorem Zom (no:Int) (x:List Mk):(pkL no x).length≤x.length:=by
 induction x with
 | nil=>simp[pkL]
 | cons m x ih =>
  simp only[pkL]
  split<;>simp<;>omega
def gcons (ctx:Int) (c:Ch):List Ch→List (List Ch)→List (List Ch)
 | d::_,g::gs=>if d.A-c.A-c.AN≤2 * ctx then (c::g)::gs else [c]::g::gs
 | _,gs=>[c]::gs
def grp (ctx:Int):List Ch→List (List Ch)
 | []=>[]
 | c::l=>gcons ctx c l (grp ctx l)
theorem Zhk (ctx:Int) (c:Ch) (l:List Ch):∃ g gs,grp ctx (c::l)=(c::g)::gs:=by
 cases l with
 | nil=>exact⟨[],[],rfl⟩
 | cons d l =>
  show ∃ g gs,gcons ctx c (d::l) (grp ctx (d::l))=_
  cases grp ctx (d::l) with
  | nil=>exact⟨_,_,rfl⟩
  | cons g gs =>
   simp only[gcons]
   split
   ·exact⟨_,_,rfl⟩
   ·exact⟨_,_,rfl⟩
theorem Zhg (ctx:Int) (c d:Ch) (l:List Ch):∃ g gs,grp ctx (d::l)=(d::g)::gs∧grp ctx (c::d::l)=if d.A-c.A-c.AN≤2 * ctx then (c::d::g)::gs else [c]::(d::g)::gs:=by
 obtain⟨g,gs,h⟩:=Zhk ctx d l
 refine⟨g,gs,h,?_⟩
 show gcons ctx c (d::l) (grp ctx (d::l))=_
 rw[h]
 rfl
theorem Zhi (ctx:Int) (l:List Ch):(grp ctx l).flatten=l:=by
 induction l with
 | nil=>rfl
 | cons c l ih =>
  cases l with
  | nil=>rfl
  | cons d l =>
   obtain⟨g,gs,h1,h2⟩:=Zhg ctx c d l
   rw[h2]
   rw[h1] at ih
   split<;>simp at ih ⊢<;>exact ih
theorem Zhl (ctx:Int) (l:List Ch):∀ g∈grp ctx l,g≠[]:=by
 induction l with
 | nil=>simp[grp]
 | cons c l ih =>
  cases l with
  | nil=>simp[grp,gcons]
  | cons d l =>
   obtain⟨g,gs,h1,h2⟩:=Zhg ctx c d l
   rw[h2]
   rw[h1] at ih
   intro x hx
   split at hx
   ·simp at hx
    rcases hx with rfl | hx
    ·simp
    ·exact ih x (by simp[hx])
   ·simp at hx
    rcases hx with rfl | rfl | hx
    ·simp
    ·simp
    ·exact ih x (by simp[hx])
theorem Zhh (ctx:Int) (l:List Ch):grp ctx l=[]↔l=[]:=by
 constructor
 ·intro h
  have:=Zhi ctx l
  rw[h] at this
  exact this.symm
 ·rintro rfl
  rfl
theorem Zhm (ctx:Int) (l:List Ch) (c d:Ch):∃ gs g,grp ctx (l++[c])=gs++[g++[c]]∧grp ctx (l++[c]++[d])=if d.A-c.A-c.AN≤2 * ctx then gs++[g++[c]++[d]] else gs++[g++[c]]++[[d]]:=by
 induction l with
 | nil =>
  refine⟨[],[],rfl,?_⟩
  rfl
 | cons e l ih =>
  obtain⟨gs,g,h1,h2⟩:=ih
  have key:∀ (x:List Ch),x≠[]→∀ G:List (List Ch),grp ctx x=G→∃ e',x.head?=some e'∧grp ctx (e::x)=if e'.A-e.A-e.AN≤2 * ctx then (match G with | g::gs=>(e::g)::gs | []=>[[e]]) else [e]::G:=by
   intro x hx G hG
   cases x with
   | nil=>exact absurd rfl hx
   | cons y x =>
    obtain⟨g,gs,q1,q2⟩:=Zhg ctx e y x
    refine⟨y,rfl,?_⟩
    rw[q2]
    rw[q1] at hG
    subst hG
    rfl
  obtain⟨e1,f1,k1⟩:=key (l++[c]) (by simp) _ h1
  obtain⟨e2,f2,k2⟩:=key (l++[c]++[d]) (by simp) _ h2
  have he:e1=e2:=by
   cases l with
   | nil=>simp at f1 f2;rw[← f1,← f2]
   | cons y l=>simp at f1 f2;rw[← f1,← f2]
  subst he
  by_cases hn:e1.A-e.A-e.AN≤2 * ctx
  ·rw[if_pos hn] at k1 k2
   cases gs with
   | nil =>
    refine⟨[],e::g,by rw[List.cons_append,k1];rfl,?_⟩
    rw[List.cons_append,List.cons_append,k2]
    by_cases hd:d.A-c.A-c.AN≤2 * ctx
    ·rw[if_pos hd,if_pos hd];rfl
    ·rw[if_neg hd,if_neg hd];rfl
   | cons g0 gs =>
    refine⟨(e::g0)::gs,g,by rw[List.cons_append,k1];rfl,?_⟩
    rw[List.cons_append,List.cons_append,k2]
    by_cases hd:d.A-c.A-c.AN≤2 * ctx
    ·rw[if_pos hd,if_pos hd];rfl
    ·rw[if_neg hd,if_neg hd];rfl
  ·rw[if_neg hn] at k1 k2
   refine⟨[e]::gs,g,by rw[List.cons_append,k1];rfl,?_⟩
   rw[List.cons_append,List.cons_append,k2]
   by_cases hd:d.A-c.A-c.AN≤2 * ctx
   ·rw[if_pos hd,if_pos hd];rfl
   ·rw[if_neg hd,if_neg hd];rfl
def mks (s:Int) (x:List (List UInt8)):List Mk:=x.map fun t=>⟨s,t⟩
def bodyH (a b:List (List UInt8)) (e:Int):Int→List Ch→List Mk
 | p,[]=>mks 32 (cut a p (e-p))
 | p,c::g=>mks 32 (cut a p (c.A-p))++(mks 45 (cut a c.A c.AN)++(mks 43 (cut b c.B c.BN)++bodyH a b e (c.A+c.AN) g))
def cntH (a b:Int) (ls:List Mk):Hk:=⟨if 0<(pkL 43 ls).length then a+1 else a,(pkL 43 ls).length,if 0<(pkL 45 ls).length then b+1 else b,(pkL 45 ls).length,ls⟩
def endH (n ctx:Int):List Ch→Int
 | []=>0
 | [c]=>min n (c.A+c.AN+ctx)
 | _::d::g=>endH n ctx (d::g)
def oneH (a b:List (List UInt8)) (ctx:Int) (g:List Ch):Hk:=match g with
 | []=>⟨0,0,0,0,[]⟩
 | f::g=>cntH (f.A-min ctx f.A) (f.B-min ctx f.A) (bodyH a b (endH a.length ctx (f::g)) (f.A-min ctx f.A) (f::g))
def grpE (l:List Ch) (n m ctx:Int):Int:=if chk l n m≠0 then chk l n m else if ctx<0∨100<ctx then 2 else 0
def grpR (l:List Ch) (n m ctx:Int):List (List Ch):=if grpE l n m ctx=0 then grp ctx l else []
def mkR (l:List Ch) (a b:List (List UInt8)) (ctx:Int):List Hk:=(grpR l a.length b.length ctx).map (oneH a b ctx)
def linB (s:List UInt8):Bool:=!s.isEmpty && s.dropLast.all fun c=>c != 10
def fdB (s:List UInt8):Bool:=s.getLast? == some 10
def lstB (sg:Int) (l:List Mk):Bool:=l.all fun m=>decide (m.sg≠sg) && decide (m.sg≠32)
def fldB:List Mk→Bool
 | []=>true
 | m::l=>linB m.tx && okS m.sg && (fdB m.tx || ((decide (m.sg=43) || lstB 45 l) && (decide (m.sg=45) || lstB 43 l))) && fldB l
def rngB (h:Hk):Bool:=nat31 h.A && nat31 h.AN && nat31 h.B && nat31 h.BN && !(decide (h.A=0) && decide (0<h.AN)) && !(decide (h.B=0) && decide (0<h.BN))
def chkH (h:Hk):Int:=if rngB h=false then 2 else if fldB h.ls=false then 6 else if h.AN≠(oldL h).length∨h.BN≠(newL h).length then 120 else if h.ls.all (fun m=>decide (m.sg=32))=true then 50 else 0
def atA (h:Hk):Int:=if 0<h.AN then h.A-1 else h.A
def atB (h:Hk):Int:=if 0<h.BN then h.B-1 else h.B
def ordB:Int→Int→List Hk→Bool
 | _,_,[]=>true
 | u,v,h::l=>decide (u≤atA h) && decide (atA h-u=atB h-v) && ordB (atA h+h.AN) (atB h+h.BN) l
def errs:List Hk→Int
 | []=>0
 | h::l=>if chkH h≠0 then chkH h else errs l
def ordH (l:List Hk):Int:=if errs l≠0 then errs l else if ordB 0 0 l=true then 0 else 121
def invG:List Mk→List Mk→List Mk
 | x,[]=>x
 | x,m::l=>if m.sg=43 then ⟨45,m.tx⟩::invG x l else if m.sg=45 then invG (x++[⟨43,m.tx⟩]) l else x++m::invG [] l
def endsAt (a b:Int):List Ch→Bool
 | []=>false
 | c::_=>decide (c.A+c.AN=a) && decide (c.B+c.BN=b)
def bmA:List Ch→List Ch
 | []=>[]
 | c::r=>⟨c.A,c.AN+1,c.B,c.BN⟩::r
def bmB:List Ch→List Ch
 | []=>[]
 | c::r=>⟨c.A,c.AN,c.B,c.BN+1⟩::r
def opn (a b:Int) (r:List Ch):List Ch:=if endsAt a b r=true then r else ⟨a,0,b,0⟩::r
def chLs:Int→Int→List Ch→List Mk→List Ch
 | _,_,r,[]=>r
 | a,b,r,m::l=>if m.sg=32 then chLs (a+1) (b+1) r l else if m.sg=45 then chLs (a+1) b (bmA (opn a b r)) l else chLs a (b+1) (bmB (opn a b r)) l
def chHs:List Ch→List Hk→List Ch
 | r,[]=>r
 | r,h::l=>chHs (chLs (atA h) (atB h) r h.ls) l
def chR (l:List Hk):List Ch:=if ordH l=0 then (chHs [] l).reverse else []
end

section
theorem Zoj (no:Int) (hno:no=43∨no=45) (x:List (List UInt8)):pkL no (mks 32 x)=x:=by
 induction x with
 | nil=>rfl
 | cons t x ih =>
  show pkL no (⟨32,t⟩::mks 32 x)=_
  simp only[pkL,ih]
  rw[if_pos ⟨by omega,by decide⟩]
theorem Zoh (no s:Int) (hs:no≠s) (ho:okS s=true) (x:List (List UInt8)):pkL no (mks s x)=x:=by
 induction x with
 | nil=>rfl
 | cons t x ih =>
  show pkL no (⟨s,t⟩::mks s x)=_
  simp only[pkL,ih]
  rw[if_pos ⟨by omega,ho⟩]
theorem Zoi (s:Int) (x:List (List UInt8)):pkL s (mks s x)=[]:=by
 induction x with
 | nil=>rfl
 | cons t x ih =>
  show pkL s (⟨s,t⟩::mks s x)=_
  simp only[pkL,ih]
  simp
def AllS (s:Int) (x:List Mk):Prop:=∀ m∈x,m.sg=s
theorem AllS.nil (s:Int):AllS s []:=fun _ h=>by cases h
theorem AllS.snoc {s:Int} {x:List Mk} (h:AllS s x) (t:List UInt8):AllS s (x++[⟨s,t⟩]):=by
 intro m hm
 simp at hm
 rcases hm with hm | rfl
 ·exact h m hm
 ·rfl
theorem Zvx {s:Int} {x:List Mk} (h:AllS s x):pkL s x=[]:=by
 induction x with
 | nil=>rfl
 | cons m x ih =>
  simp only[pkL]
  rw[if_neg (by simp[h m (by simp)])]
  exact ih fun q hq=>h q (by simp[hq])
theorem ZiQ (l:List Mk):∀ x,AllS 43 x→pkL 43 (invG x l)=pkL 45 l:=by
 induction l with
 | nil=>intro x hx;simp only[invG,pkL];exact Zvx hx
 | cons m l ih =>
  intro x hx
  simp only[invG]
  by_cases h1:m.sg=43
  ·rw[if_pos h1]
   simp only[pkL,ih x hx]
   rw[if_pos ⟨by decide,by decide⟩,if_pos ⟨by omega,by rw[h1];decide⟩]
  ·rw[if_neg h1]
   by_cases h2:m.sg=45
   ·rw[if_pos h2,ih _ (hx.snoc _)]
    simp only[pkL]
    rw[if_neg (by simp[h2])]
   ·rw[if_neg h2,Zol,Zvx hx]
    simp only[pkL,ih [] (AllS.nil _),List.nil_append]
    by_cases ho:okS m.sg=true
    ·rw[if_pos ⟨h1,ho⟩,if_pos ⟨h2,ho⟩]
    ·rw[if_neg (fun h=>ho h.2),if_neg (fun h=>ho h.2)]
def Nf:Bool→List Mk→Prop
 | _,[]=>True
 | s,m::l=>if m.sg=45 then s=false∧Nf false l else if m.sg=43 then Nf true l else Nf false l
theorem Zmq {l:List Mk} (h:Nf true l):∃ A t,l=A++t∧AllS 43 A∧(t=[]∨∃ m r,t=m::r∧m.sg≠43∧m.sg≠45∧Nf false r):=by
 induction l with
 | nil=>exact⟨[],[],rfl,AllS.nil _,.inl rfl⟩
 | cons m l ih =>
  simp only[Nf] at h
  by_cases h2:m.sg=45
  ·rw[if_pos h2] at h
   exact absurd h.1 (by simp)
  ·rw[if_neg h2] at h
   by_cases h1:m.sg=43
   ·rw[if_pos h1] at h
    obtain⟨A,t,rfl,hA,ht⟩:=ih h
    refine⟨m::A,t,rfl,?_,ht⟩
    intro q hq
    simp at hq
    rcases hq with rfl | hq
    ·exact h1
    ·exact hA q hq
   ·rw[if_neg h1] at h
    exact⟨[],m::l,rfl,AllS.nil _,.inr ⟨m,l,rfl,h1,h2,h⟩⟩
theorem Zmp {l:List Mk} (h:Nf false l):∃ R A t,l=R++(A++t)∧AllS 45 R∧AllS 43 A∧(t=[]∨∃ m r,t=m::r∧m.sg≠43∧m.sg≠45∧Nf false r):=by
 induction l with
 | nil=>exact⟨[],[],[],rfl,AllS.nil _,AllS.nil _,.inl rfl⟩
 | cons m l ih =>
  simp only[Nf] at h
  by_cases h2:m.sg=45
  ·rw[if_pos h2] at h
   obtain⟨R,A,t,rfl,hR,hA,ht⟩:=ih h.2
   refine⟨m::R,A,t,rfl,?_,hA,ht⟩
   intro q hq
   simp at hq
   rcases hq with rfl | hq
   ·exact h2
   ·exact hR q hq
  ·rw[if_neg h2] at h
   by_cases h1:m.sg=43
   ·rw[if_pos h1] at h
    obtain⟨A,t,rfl,hA,ht⟩:=Zmq h
    refine⟨[],m::A,t,rfl,AllS.nil _,?_,ht⟩
    intro q hq
    simp at hq
    rcases hq with rfl | hq
    ·exact h1
    ·exact hA q hq
   ·rw[if_neg h1] at h
    exact⟨[],[],m::l,rfl,AllS.nil _,AllS.nil _,.inr ⟨m,l,rfl,h1,h2,h⟩⟩
def abl:List (List UInt8)→Bool
 | []=>true
 | t::r=>(r.isEmpty || fdB t) && abl r
theorem ZkM {no s:Int} (hn:no=43∧s=45∨no=45∧s=43) {l:List Mk} (h:∀ m∈l,okS m.sg=true):lstB s l=(pkL no l).isEmpty:=by
 induction l with
 | nil=>rfl
 | cons m l ih =>
  have hm:=h m (by simp)
  have hi:=ih fun q hq=>h q (by simp[hq])
  simp only[lstB,List.all_cons,pkL] at hi ⊢
  rw[hi]
  have hcase:m.sg=32∨m.sg=45∨m.sg=43:=by simp[okS] at hm;omega
  by_cases hno:m.sg=no
  ·rw[if_neg (fun q=>q.1 hno)]
   have e1:decide (m.sg≠s)=true:=decide_eq_true (by omega)
   have e2:decide (m.sg≠32)=true:=decide_eq_true (by omega)
   rw[e1,e2]
   simp
  ·rw[if_pos ⟨hno,hm⟩]
   have e:(decide (m.sg≠s) && decide (m.sg≠32))=false:=by simp;omega
   rw[e]
   simp
theorem Zgy (l:List Mk):fldB l=true↔(∀ m∈l,linB m.tx=true∧okS m.sg=true)∧abl (pkL 43 l)=true∧abl (pkL 45 l)=true:=by
 induction l with
 | nil=>simp[fldB,pkL,abl]
 | cons m l ih =>
  simp only[fldB,Bool.and_eq_true,ih]
  constructor
  ·rintro⟨⟨⟨h1,h2⟩,h3⟩,h4,h5,h6⟩
   have hok:∀ q∈l,okS q.sg=true:=fun q hq=>(h4 q hq).2
   rw[ZkM (no:=43) (by omega) hok,ZkM (no:=45) (by omega) hok] at h3
   refine⟨?_,?_,?_⟩
   ·intro q hq
    simp at hq
    rcases hq with rfl | hq
    ·exact⟨h1,h2⟩
    ·exact h4 q hq
   ·simp only[pkL]
    by_cases hs:m.sg=43
    ·rw[if_neg (fun q=>q.1 hs)]
     exact h5
    ·rw[if_pos ⟨hs,h2⟩]
     simp only[abl,h5,Bool.and_true]
     simp[hs] at h3
     rcases h3 with h3 | h3
     ·simp[h3]
     ·simp[h3.1]
   ·simp only[pkL]
    by_cases hs:m.sg=45
    ·rw[if_neg (fun q=>q.1 hs)]
     exact h6
    ·rw[if_pos ⟨hs,h2⟩]
     simp only[abl,h6,Bool.and_true]
     simp[hs] at h3
     rcases h3 with h3 | h3
     ·simp[h3]
     ·simp[h3.2]
  ·rintro⟨h1,h2,h3⟩
   have hm:=h1 m (by simp)
   have h4:∀ q∈l,linB q.tx=true∧okS q.sg=true:=fun q hq=>h1 q (by simp[hq])
   have hok:∀ q∈l,okS q.sg=true:=fun q hq=>(h4 q hq).2
   rw[ZkM (no:=43) (by omega) hok,ZkM (no:=45) (by omega) hok]
   simp only[pkL] at h2 h3
   refine⟨⟨hm,?_⟩,h4,?_,?_⟩
   ·by_cases hs:m.sg=43
    ·rw[if_pos ⟨by omega,hm.2⟩] at h3
     simp only[abl,Bool.and_eq_true,Bool.or_eq_true] at h3
     rcases h3.1 with q | q
     ·simp[hs,q]
     ·simp[q]
    ·rw[if_pos ⟨hs,hm.2⟩] at h2
     simp only[abl,Bool.and_eq_true,Bool.or_eq_true] at h2
     by_cases hr:m.sg=45
     ·rcases h2.1 with q | q
      ·simp[hr,q]
      ·simp[q]
     ·rw[if_pos ⟨hr,hm.2⟩] at h3
      simp only[abl,Bool.and_eq_true,Bool.or_eq_true] at h3
      rcases h2.1 with q | q
      ·rcases h3.1 with q' | q'
       ·simp[q,q']
       ·simp[q']
      ·simp[q]
   ·by_cases hs:m.sg=43
    ·rw[if_neg (fun q=>q.1 hs)] at h2
     exact h2
    ·rw[if_pos ⟨hs,hm.2⟩] at h2
     simp only[abl,Bool.and_eq_true] at h2
     exact h2.2
   ·by_cases hs:m.sg=45
    ·rw[if_neg (fun q=>q.1 hs)] at h3
     exact h3
    ·rw[if_pos ⟨hs,hm.2⟩] at h3
     simp only[abl,Bool.and_eq_true] at h3
     exact h3.2
end

section
theorem ZhI {A:List (List UInt8)} {p k:Int} (hp:0≤p) (hk:0≤k) (h:p+k≤A.length):((cut A p k).length:Int)=k:=by
 simp only[cut,List.length_take,List.length_drop]
 omega
theorem Zev {A:List (List UInt8)} {p i j:Int} (hp:0≤p) (hi:0≤i) (hj:0≤j):cut A p i++cut A (p+i) j=cut A p (i+j):=by
 simp only[cut]
 rw[show (p+i).toNat=p.toNat+i.toNat by omega,show (i+j).toNat=i.toNat+j.toNat by omega,← List.drop_drop,List.take_add]
theorem Zew {A:List (List UInt8)} {p i x j k:Int} (hp:0≤p) (hi:0≤i) (hj:0≤j) (hx:x=p+i) (hk:k=i+j):cut A p i++cut A x j=cut A p k:=by
 rw[hx,hk]
 exact Zev hp hi hj
theorem ZeD (A:List (List UInt8)) (p:Int):cut A p 0=[]:=by simp[cut]
def endA:Int→List Ch→Int
 | p,[]=>p
 | _,c::g=>endA (c.A+c.AN) g
def endB:Int→List Ch→Int
 | q,[]=>q
 | _,c::g=>endB (c.B+c.BN) g
theorem Zfo (n ctx:Int) (f:Ch) (g:List Ch) (p:Int):endH n ctx (f::g)=min n (endA p (f::g)+ctx):=by
 induction g generalizing f p with
 | nil=>rfl
 | cons d g ih=>exact ih d 0
theorem ZpJ {fl:Bool} {p q n m:Int} {g rest:List Ch} (h:Right fl p q n m (g++rest)):(Right false (endA p g) (endB q g) n m rest∨g=[])∧p≤endA p g∧q≤endB q g∧endA p g≤n∧endB q g≤m:=by
 induction g generalizing fl p q with
 | nil =>
  have:=h.le
  exact⟨.inr rfl,Int.le_refl _,Int.le_refl _,this.1,this.2.1⟩
 | cons c g ih =>
  obtain⟨⟨h1,h2,h3,h4⟩,h5⟩:=h
  rw[ZmM] at h1
  obtain⟨k1,k2,k3,k4,k5⟩:=ih h5
  refine⟨.inl ?_,?_,?_,k4,k5⟩
  ·rcases k1 with k1 | rfl
   ·exact k1
   ·exact h5
  ·show p≤endA (c.A+c.AN) g
   omega
  ·show q≤endB (c.B+c.BN) g
   omega
theorem ZpP {fl:Bool} {p q n m:Int} {rest:List Ch} (h:Right fl p q n m rest) {e:Int} (he:e≤(rest.head?.map (·.A)).getD n):q+(e-p)≤m:=by
 cases rest with
 | nil =>
  obtain⟨h1,h2,h3⟩:=h
  simp at he
  omega
 | cons c rest =>
  obtain⟨⟨h1,h2,h3,h4⟩,h5⟩:=h
  rw[ZmM] at h1
  have:=h5.le
  simp at he
  omega
theorem Zbz {a b:List (List UInt8)} {fl:Bool} {p q m e:Int} {g rest:List Ch} (h:Right fl p q a.length m (g++rest)) (hp:0≤p) (he:endA p g≤e):pkL 43 (bodyH a b e p g)=cut a p (e-p):=by
 induction g generalizing fl p q with
 | nil=>exact Zoj 43 (.inl rfl) _
 | cons c g ih =>
  obtain⟨⟨h1,h2,h3,h4⟩,h5⟩:=h
  rw[ZmM] at h1
  have hi:=ih h5 (by omega) he
  have hm:=(ZpJ h5).2.1
  have he':endA (c.A+c.AN) g≤e:=he
  simp only[bodyH,Zol]
  rw[hi,Zoj 43 (.inl rfl),Zoh 43 45 (by decide) (by decide),Zoi,List.nil_append,Zew (k:=e-c.A) (by omega) (by omega) (by omega) rfl (by omega),Zew (k:=e-p) hp (by omega) (by omega) (by omega) (by omega)]
theorem Zbw {a b:List (List UInt8)} {fl:Bool} {p q e:Int} {g rest:List Ch} (h:Right fl p q a.length b.length (g++rest)) (hp:0≤p) (hq:0≤q) (he:endA p g≤e) (hn:e≤a.length):((pkL 45 (bodyH a b e p g)).length:Int)=endB q g+(e-endA p g)-q:=by
 induction g generalizing fl p q with
 | nil =>
  simp only[bodyH,endA,endB]
  have he':p≤e:=he
  rw[Zoj 45 (.inr rfl),ZhI hp (by omega) (by omega)]
  omega
 | cons c g ih =>
  obtain⟨⟨h1,h2,h3,h4⟩,h5⟩:=h
  rw[ZmM] at h1
  have hi:=ih h5 (by omega) (by omega) he
  obtain⟨_,e1,e2,e3,e4⟩:=ZpJ h5
  have he':endA (c.A+c.AN) g≤e:=he
  have x1:=ZhI (A:=a) (p:=p) (k:=c.A-p) hp (by omega) (by omega)
  have x2:=ZhI (A:=b) (p:=c.B) (k:=c.BN) (by omega) (by omega) (by omega)
  simp only[bodyH,Zol,endA,endB]
  rw[Zoj 45 (.inr rfl),Zoh 45 43 (by decide) (by decide),Zoi,List.nil_append]
  simp only[List.length_append]
  omega
theorem Zbv {a b:List (List UInt8)} {fl:Bool} {p q e:Int} {g rest:List Ch} (h:Right fl p q a.length b.length (g++rest)) (hs:∀ r∈U p q a.length b.length (g++rest),a[r.a.toNat]?=b[r.b.toNat]?) (hp:0≤p) (hq:0≤q) (he:endA p g≤e) (hr:e≤(rest.head?.map (·.A)).getD (a.length:Int)):pkL 45 (bodyH a b e p g)=cut b q (endB q g+(e-endA p g)-q):=by
 induction g generalizing fl p q with
 | nil =>
  simp only[bodyH,endA,endB]
  have he':p≤e:=he
  rw[Zoj 45 (.inr rfl)]
  obtain⟨k,hk⟩:∃ k:Nat,e-p=k:=⟨(e-p).toNat,by omega⟩
  rw[hk,show q+(k:Int)-q=k by omega]
  refine Zey hp hq fun r hr'=>hs r ?_
  cases rest with
  | nil =>
   simp at hr
   rw[List.nil_append,Zax,show ((a.length:Int)-p).toNat=k+((a.length:Int)-p-k).toNat by omega,ZtQ]
   exact List.mem_append_left _ hr'
  | cons c rest =>
   simp at hr
   rw[List.nil_append,Zaw,show (c.A-p).toNat=k+(c.A-p-k).toNat by omega,ZtQ,List.append_assoc]
   exact List.mem_append_left _ hr'
 | cons c g ih =>
  obtain⟨⟨h1,h2,h3,h4⟩,h5⟩:=h
  rw[ZmM] at h1
  rw[List.cons_append,Zaw] at hs
  have hi:=ih h5 (fun r hr=>hs r (List.mem_append_right _ hr)) (by omega) (by omega) he
  obtain⟨_,e1,e2,e3,e4⟩:=ZpJ h5
  have he':endA (c.A+c.AN) g≤e:=he
  simp only[bodyH,Zol,endA,endB]
  rw[Zoj 45 (.inr rfl),Zoh 45 43 (by decide) (by decide),Zoi,List.nil_append,hi]
  obtain⟨k,hk⟩:∃ k:Nat,c.A-p=k:=⟨(c.A-p).toNat,by omega⟩
  rw[hk,Int.toNat_natCast] at hs
  rw[hk,Zey hp hq fun r hr=>hs r (List.mem_append_left _ hr),Zew (k:=endB (c.B+c.BN) g+(e-endA (c.A+c.AN) g)-c.B) (by omega) (by omega) (by omega) rfl (by omega),Zew (k:=endB (c.B+c.BN) g+(e-endA (c.A+c.AN) g)-q) hq (by omega) (by omega) (by omega) (by omega)]
theorem ZpM {fl:Bool} {p q n m x y:Int} {c:Ch} {l:List Ch} (h:Right fl p q n m (c::l)) (h1:p≤x) (h2:x≤c.A) (h3:y-x=q-p):Right true x y n m (c::l)∧∀ r∈U x y n m (c::l),r∈U p q n m (c::l):=by
 obtain⟨⟨k1,k2,k3,k4⟩,k5⟩:=h
 refine⟨⟨⟨k1,by omega,by omega,.inl rfl⟩,k5⟩,fun r hr=>?_⟩
 rw[Zaw] at hr ⊢
 rw[show (c.A-p).toNat=(x-p).toNat+(c.A-x).toNat by omega,ZtQ,List.append_assoc,show p+((x-p).toNat:Int)=x by omega,show q+((x-p).toNat:Int)=y by omega]
 exact List.mem_append_right _ hr
def Hgs (ctx:Int):List (List Ch)→Prop
 | []=>True
 | g::gs=>g≠[]∧(∀ d,gs.flatten.head?=some d→2 * ctx<d.A-endA 0 g)∧Hgs ctx gs
theorem Zhj (ctx:Int) (l:List Ch):Hgs ctx (grp ctx l):=by
 induction l with
 | nil=>trivial
 | cons c l ih =>
  cases l with
  | nil=>exact⟨by simp,fun d hd=>(by cases hd),trivial⟩
  | cons d l =>
   obtain⟨g,gs,h1,h2⟩:=Zhg ctx c d l
   rw[h1] at ih
   rw[h2]
   obtain⟨_,k2,k3⟩:=ih
   split
   ·exact⟨by simp,k2,k3⟩
   ·refine⟨by simp,?_,by simp,k2,k3⟩
    intro x hx
    simp at hx
    subst hx
    simp only[endA]
    omega
structure OneF (a b:List (List UInt8)) (ctx:Int) (g:List Ch) (s t e:Int):Prop where
 s0:0≤s
 t0:0≤t
 en:e≤a.length
 em:endB 0 g+(e-endA 0 g)≤b.length
 le:endA 0 g≤e
 se:s≤e
 AN:(oneH a b ctx g).AN=e-s
 BN:(oneH a b ctx g).BN=endB 0 g+(e-endA 0 g)-t
 A:(oneH a b ctx g).A=if 0<e-s then s+1 else s
 B:(oneH a b ctx g).B=if 0<endB 0 g+(e-endA 0 g)-t then t+1 else t
 old:oldL (oneH a b ctx g)=cut a s (e-s)
 ls:(oneH a b ctx g).ls=bodyH a b e s g
theorem Zno {a b:List (List UInt8)} {ctx p q:Int} {fl:Bool} {f:Ch} {g rest:List Ch} (hc:0≤ctx) (h:Right fl p q a.length b.length (f::g++rest)) (hp:0≤p) (hq:0≤q) (hw:p≤f.A-min ctx f.A)
  (hr:∀ d,rest.head?=some d→endA 0 (f::g)+ctx≤d.A) :
  OneF a b ctx (f::g) (f.A-min ctx f.A) (f.B-min ctx f.A) (min a.length (endA 0 (f::g)+ctx))∧Right true (f.A-min ctx f.A) (f.B-min ctx f.A) a.length b.length (f::g++rest)∧(∀ r∈U (f.A-min ctx f.A) (f.B-min ctx f.A) a.length b.length (f::g++rest),r∈U p q a.length b.length (f::g++rest))∧(min (a.length:Int) (endA 0 (f::g)+ctx)≤(rest.head?.map (·.A)).getD (a.length:Int)):=by
 have hA:f.A-p=f.B-q:=h.1.2.1
 have hnum:=(ZmM f).1 h.1.1
 obtain⟨hR,hU⟩:=ZpM h hw (by omega) (show (f.B-min ctx f.A)-(f.A-min ctx f.A)=q-p by omega)
 obtain⟨k1,k2,k3,k4,k5⟩:=ZpJ (g:=f::g) (rest:=rest) hR
 have k1':Right false (endA 0 (f::g)) (endB 0 (f::g)) a.length b.length rest:=by
  rcases k1 with k1 | k1
  ·exact k1
  ·cases k1
 have hE:min (a.length:Int) (endA 0 (f::g)+ctx)≤(rest.head?.map (·.A)).getD (a.length:Int):=by
  cases rest with
  | nil=>simp;omega
  | cons d rest =>
   have:=hr d rfl
   simp
   omega
 have e0:endA (f.A-min ctx f.A) (f::g)=endA 0 (f::g):=rfl
 have e0':endB (f.B-min ctx f.A) (f::g)=endB 0 (f::g):=rfl
 rw[e0] at k2 k4
 rw[e0'] at k3 k5
 have hem:=ZpP k1' hE
 have hls:(oneH a b ctx (f::g)).ls=bodyH a b (min (a.length:Int) (endA 0 (f::g)+ctx)) (f.A-min ctx f.A) (f::g):=by
  show bodyH a b (endH a.length ctx (f::g)) (f.A-min ctx f.A) (f::g)=_
  rw[Zfo _ _ _ _ 0]
 generalize hee:min (a.length:Int) (endA 0 (f::g)+ctx)=e at *
 have he:endA 0 (f::g)≤e:=by omega
 have hold:=Zbz (a:=a) (b:=b) (g:=f::g) (rest:=rest) (e:=e) hR (by omega) he
 have hnew:=Zbw (a:=a) (b:=b) (g:=f::g) (rest:=rest) (e:=e) hR (by omega) (by omega) he (by omega)
 rw[e0,e0'] at hnew
 have hol:=ZhI (A:=a) (p:=f.A-min ctx f.A) (k:=e-(f.A-min ctx f.A)) (by omega) (by omega) (by omega)
 have hone:oneH a b ctx (f::g)=cntH (f.A-min ctx f.A) (f.B-min ctx f.A) (bodyH a b e (f.A-min ctx f.A) (f::g)):=by
  show cntH _ _ (bodyH a b (endH a.length ctx (f::g)) _ _)=_
  rw[Zfo _ _ _ _ 0,hee]
 refine⟨⟨by omega,by omega,by omega,by omega,he,by omega,?_,?_,?_,?_,?_,hls⟩,hR,hU,hE⟩
 ·rw[hone]
  show ((pkL 43 (bodyH a b e _ (f::g))).length:Int)=_
  rw[hold,hol]
 ·rw[hone]
  exact hnew
 ·rw[hone]
  show (if 0<(pkL 43 (bodyH a b e _ (f::g))).length then _ else _)=_
  rw[hold]
  by_cases hz:0<e-(f.A-min ctx f.A)
  ·rw[if_pos (by omega),if_pos hz]
  ·rw[if_neg (by omega),if_neg hz]
 ·rw[hone]
  show (if 0<(pkL 45 (bodyH a b e _ (f::g))).length then _ else _)=_
  by_cases hz:0<endB 0 (f::g)+(e-endA 0 (f::g))-(f.B-min ctx f.A)
  ·rw[if_pos (by omega),if_pos hz]
  ·rw[if_neg (by omega),if_neg hz]
 ·rw[hone]
  exact hold
end

section
theorem OneF.atA {a b:List (List UInt8)} {ctx:Int} {g:List Ch} {s t e:Int} (h:OneF a b ctx g s t e):atA (oneH a b ctx g)=s:=by
 unfold Go.Proofs.YtgiojkhmkeocfaaGreatDoor.atA
 rw[h.AN,h.A]
 split<;>omega
theorem OneF.atB {a b:List (List UInt8)} {ctx:Int} {g:List Ch} {s t e:Int} (h:OneF a b ctx g s t e):atB (oneH a b ctx g)=t:=by
 unfold Go.Proofs.YtgiojkhmkeocfaaGreatDoor.atB
 rw[h.BN,h.B]
 split<;>omega
theorem Zhr {a b:List (List UInt8)} {ctx:Int} (hc:0≤ctx) {g:List Ch} {gs:List (List Ch)} {fl:Bool} {p q u v:Int} (h:Right fl p q a.length b.length (g::gs).flatten) (hG:Hgs ctx (g::gs)) (hp:0≤p) (hq:0≤q) (hu:p≤u) (huv:v-u=q-p) (hf:∀ f,(g::gs).flatten.head?=some f→u≤f.A-min ctx f.A) :
  ∃ f g',g=f::g'∧∃ e,OneF a b ctx g (f.A-min ctx f.A) (f.B-min ctx f.A) e∧u≤f.A-min ctx f.A∧f.A-f.B=u-v∧Right true (f.A-min ctx f.A) (f.B-min ctx f.A) a.length b.length (g++gs.flatten)∧(∀ r∈U (f.A-min ctx f.A) (f.B-min ctx f.A) a.length b.length (g++gs.flatten),r∈U p q a.length b.length (g::gs).flatten)∧e≤(gs.flatten.head?.map (·.A)).getD (a.length:Int)∧e≤endA 0 g+ctx ∧
   Right false (endA 0 g) (endB 0 g) a.length b.length gs.flatten∧0≤endA 0 g∧0≤endB 0 g∧(∀ r∈U (endA 0 g) (endB 0 g) a.length b.length gs.flatten,r∈U p q a.length b.length (g::gs).flatten)∧endA 0 g≤e∧∀ d,gs.flatten.head?=some d→e≤d.A-min ctx d.A:=by
 obtain⟨h1,h2,h3⟩:=hG
 cases g with
 | nil=>exact absurd rfl h1
 | cons f g =>
  have hf':=hf f rfl
  rw[List.flatten_cons] at h
  have hw:p≤f.A-min ctx f.A:=by omega
  have hr:∀ d,gs.flatten.head?=some d→endA 0 (f::g)+ctx≤d.A:=fun d hd=>by have:=h2 d hd;omega
  obtain⟨k1,k2,k3,k4⟩:=Zno hc h hp hq hw hr
  have hAB:f.A-p=f.B-q:=h.1.2.1
  obtain⟨r1,r2,r3,r4,r5⟩:=ZpJ (g:=f::g) (rest:=gs.flatten) h
  have e0:endA p (f::g)=endA 0 (f::g):=rfl
  have e1:endB q (f::g)=endB 0 (f::g):=rfl
  rw[e0] at r1 r2 r4
  rw[e1] at r1 r3 r5
  have r1':Right false (endA 0 (f::g)) (endB 0 (f::g)) a.length b.length gs.flatten:=by
   rcases r1 with r1 | r1
   ·exact r1
   ·cases r1
  refine⟨f,g,rfl,_,k1,hf',by omega,k2,?_,k4,by omega,r1',by omega,by omega,?_,k1.le,?_⟩
  ·rw[List.flatten_cons];exact k3
  ·intro r hr
   rw[List.flatten_cons]
   have:∀ (x:List Ch) (p q:Int),r∈U (endA p x) (endB q x) a.length b.length gs.flatten→x≠[]∨(p=endA p x∧q=endB q x)→r∈U p q a.length b.length (x++gs.flatten):=by
    intro x
    induction x with
    | nil=>intro p q h _;exact h
    | cons c x ih =>
     intro p q h _
     rw[List.cons_append,Zaw]
     refine List.mem_append_right _ (ih _ _ h ?_)
     cases x with
     | nil=>exact .inr ⟨rfl,rfl⟩
     | cons=>exact .inl (by simp)
   exact this (f::g) p q hr (.inl (by simp))
  ·intro d hd
   have:=h2 d hd
   omega
theorem ZkV {a b:List (List UInt8)} {ctx:Int} (hc:0≤ctx) (gs:List (List Ch)):∀ (fl:Bool) (p q u v:Int),Right fl p q a.length b.length gs.flatten→Hgs ctx gs→0≤p→0≤q→p≤u→v-u=q-p→(∀ f,gs.flatten.head?=some f→u≤f.A-min ctx f.A)→ordB u v (gs.map (oneH a b ctx))=true:=by
 induction gs with
 | nil=>intros;rfl
 | cons g gs ih =>
  intro fl p q u v h hG hp hq hu huv hf
  obtain⟨f,g',rfl,e,h1,h2,h3,_,_,_,h4,h5,h6,h7,_,h8,h9⟩:=Zhr hc h hG hp hq hu huv hf
  simp only[List.map_cons,ordB]
  rw[h1.atA,h1.atB,h1.AN,h1.BN,decide_eq_true h2,decide_eq_true (by omega:f.A-min ctx f.A-u=f.B-min ctx f.A-v)]
  have:=ih false _ _ (f.A-min ctx f.A+(e-(f.A-min ctx f.A))) (f.B-min ctx f.A+(endB 0 (f::g')+(e-endA 0 (f::g'))-(f.B-min ctx f.A))) h5 hG.2.2 h6 h7 (by omega) (by omega) (fun d hd=>by have:=h9 d hd;omega)
  rw[this]
  rfl
theorem Zcx (x:List (List UInt8)):∀ (p q:Int) (r:List Ch) (t:List Mk),chLs p q r (mks 32 x++t)=chLs (p+x.length) (q+x.length) r t:=by
 induction x with
 | nil=>intro p q r t;simp[mks]
 | cons s x ih =>
  intro p q r t
  show chLs p q r (⟨32,s⟩::(mks 32 x++t))=_
  simp only[chLs]
  rw[if_pos trivial,ih]
  congr 1<;>simp<;>omega
theorem Zcv (x:List (List UInt8)):∀ (c:Ch) (p q:Int) (r:List Ch) (t:List Mk),c.A+c.AN=p→c.B+c.BN=q→chLs p q (c::r) (mks 45 x++t)=chLs (p+x.length) q (⟨c.A,c.AN+x.length,c.B,c.BN⟩::r) t:=by
 induction x with
 | nil=>intro c p q r t _ _;simp[mks]
 | cons s x ih =>
  intro c p q r t h1 h2
  show chLs p q (c::r) (⟨45,s⟩::(mks 45 x++t))=_
  simp only[chLs]
  rw[if_neg (by decide),if_pos trivial]
  have:opn p q (c::r)=c::r:=by simp[opn,endsAt,h1,h2]
  rw[this]
  simp only[bmA]
  rw[ih ⟨c.A,c.AN+1,c.B,c.BN⟩ _ _ r t (by dsimp only;omega) h2]
  simp only[List.length_cons]
  congr 1
  ·omega
  ·congr 2;omega
theorem Zcu (x:List (List UInt8)):∀ (c:Ch) (p q:Int) (r:List Ch) (t:List Mk),c.A+c.AN=p→c.B+c.BN=q→chLs p q (c::r) (mks 43 x++t)=chLs p (q+x.length) (⟨c.A,c.AN,c.B,c.BN+x.length⟩::r) t:=by
 induction x with
 | nil=>intro c p q r t _ _;simp[mks]
 | cons s x ih =>
  intro c p q r t h1 h2
  show chLs p q (c::r) (⟨43,s⟩::(mks 43 x++t))=_
  simp only[chLs]
  rw[if_neg (by decide),if_neg (by decide)]
  have:opn p q (c::r)=c::r:=by simp[opn,endsAt,h1,h2]
  rw[this]
  simp only[bmB]
  rw[ih ⟨c.A,c.AN,c.B,c.BN+1⟩ _ _ r t h1 (by dsimp only;omega)]
  simp only[List.length_cons]
  congr 1
  ·omega
  ·congr 2;omega
theorem Zct (X Y:List (List UInt8)) (hne:X≠[]∨Y≠[]) (p q:Int) (r:List Ch) (t:List Mk) (hr:endsAt p q r=false):chLs p q r (mks 45 X++(mks 43 Y++t))=chLs (p+X.length) (q+Y.length) (⟨p,X.length,q,Y.length⟩::r) t:=by
 have hop:opn p q r=⟨p,0,q,0⟩::r:=by simp[opn,hr]
 cases X with
 | nil =>
  cases Y with
  | nil=>simp at hne
  | cons s Y =>
   show chLs p q r (⟨43,s⟩::(mks 43 Y++t))=_
   simp only[chLs]
   rw[if_neg (by decide),if_neg (by decide),hop]
   simp only[bmB]
   rw[Zcu Y ⟨p,0,q,0+1⟩ _ _ r t (by dsimp only;omega) (by dsimp only;omega)]
   simp only[List.length_cons,List.length_nil]
   congr 1
   ·omega
   ·omega
   ·congr 2;omega
 | cons s X =>
  show chLs p q r (⟨45,s⟩::(mks 45 X++(mks 43 Y++t)))=_
  simp only[chLs]
  rw[if_neg (by decide),if_pos trivial,hop]
  simp only[bmA]
  rw[Zcv X ⟨p,0+1,q,0⟩ _ _ r _ (by dsimp only;omega) (by dsimp only;omega)]
  dsimp only
  rw[Zcu Y ⟨p,0+1+X.length,q,0⟩ _ _ r t (by dsimp only;omega) (by dsimp only;omega)]
  simp only[List.length_cons]
  congr 1
  ·omega
  ·congr 2<;>omega
theorem Zbs {a b:List (List UInt8)} {e:Int} {rest:List Ch} (g:List Ch):∀ (fl:Bool) (p q:Int) (r:List Ch),Right fl p q a.length b.length (g++rest)→0≤p→0≤q→(∀ c g',g=c::g'→endsAt c.A c.B r=false)→chLs p q r (bodyH a b e p g)=g.reverse++r:=by
 induction g with
 | nil =>
  intro fl p q r _ _ _ _
  have:=Zcx (cut a p (e-p)) p q r []
  rw[List.append_nil] at this
  simp only[bodyH]
  rw[this]
  rfl
 | cons c g ih =>
  intro fl p q r h hp hq hr
  have hr':=hr c g rfl
  obtain⟨⟨h1,h2,h3,h4⟩,h5⟩:=h
  have h1':=(ZmM c).1 h1
  obtain⟨_,e1,e2,e3,e4⟩:=ZpJ h5
  have x1:=ZhI (A:=a) (p:=p) (k:=c.A-p) hp (by omega) (by omega)
  have x2:=ZhI (A:=b) (p:=c.B) (k:=c.BN) (by omega) (by omega) (by omega)
  have x3:=ZhI (A:=a) (p:=c.A) (k:=c.AN) (by omega) (by omega) (by omega)
  simp only[bodyH]
  rw[Zcx,show p+((cut a p (c.A-p)).length:Int)=c.A by omega,show q+((cut a p (c.A-p)).length:Int)=c.B by omega,Zct _ _ ?_ _ _ _ _ hr',x2,x3,ih false _ _ _ h5 (by omega) (by omega) ?_]
  ·simp
  ·intro d g' hd
   subst hd
   obtain⟨⟨_,_,_,k4⟩,_⟩:=h5
   have k4':c.A+c.AN<d.A:=by simpa using k4
   simp[endsAt]
   omega
  ·rcases (by omega:0<c.AN∨0<c.BN) with z | z
   ·left
    intro hz
    rw[hz] at x3
    simp at x3
    omega
   ·right
    intro hz
    rw[hz] at x2
    simp at x2
    omega
theorem ZkQ {a b:List (List UInt8)} {ctx:Int} (hc:0≤ctx) (gs:List (List Ch)):∀ (fl:Bool) (p q u v:Int) (r:List Ch),Right fl p q a.length b.length gs.flatten→Hgs ctx gs→0≤p→0≤q→p≤u→v-u=q-p→(∀ f,gs.flatten.head?=some f→u≤f.A-min ctx f.A)→(∀ f,gs.flatten.head?=some f→endsAt f.A f.B r=false)→chHs r (gs.map (oneH a b ctx))=gs.flatten.reverse++r:=by
 induction gs with
 | nil=>intros;rfl
 | cons g gs ih =>
  intro fl p q u v r h hG hp hq hu huv hf hr
  obtain⟨f,g',rfl,e,h1,h2,h3,hR,_,_,h4,h5,h6,h7,_,h8,h9⟩:=Zhr hc h hG hp hq hu huv hf
  simp only[List.map_cons,chHs]
  rw[h1.atA,h1.atB,h1.ls,Zbs (f::g') true _ _ r hR h1.s0 h1.t0 (fun c x hx=>by cases hx;exact hr f rfl)]
  rw[ih false _ _ e (endB 0 (f::g')+(e-endA 0 (f::g'))) _ h5 hG.2.2 h6 h7 h8 (by omega) h9 ?_]
  ·simp
  ·intro d hd
   have:=hG.2.1 d hd
   have hlast:∀ (x:List Ch) (c:Ch),∃ y z,(c::x).reverse=z::y∧z.A+z.AN=endA 0 (c::x):=by
    intro x
    induction x with
    | nil=>intro c;exact⟨[],c,rfl,rfl⟩
    | cons d x ih =>
     intro c
     obtain⟨y,z,q1,q2⟩:=ih d
     refine⟨y++[c],z,?_,q2⟩
     rw[List.reverse_cons,q1]
     rfl
   obtain⟨y,z,q1,q2⟩:=hlast g' f
   rw[q1]
   simp only[List.cons_append,endsAt]
   have:¬ (z.A+z.AN=d.A):=by omega
   simp[this]
def inn (s:List UInt8):Bool:=s.dropLast.any fun c=>c == 10
def innL (l:List (List UInt8)):Bool:=l.any inn
theorem Zkc {s:List UInt8} (h0:s≠[]) (hi:inn s=false):linB s=true:=by
 unfold linB
 have e1:s.isEmpty=false:=by cases s with | nil=>exact absurd rfl h0 | cons=>rfl
 rw[e1]
 simp only[inn,List.any_eq_false] at hi
 simp only[Bool.not_false,Bool.true_and,List.all_eq_true]
 intro c hc
 have:=hi c hc
 simpa using this
theorem ZaF (L:List (List UInt8)):abl L=true↔∀ (i:Nat) (hi:i+1<L.length),fdB L[i]=true:=by
 induction L with
 | nil=>simp[abl]
 | cons t r ih =>
  simp only[abl,Bool.and_eq_true,Bool.or_eq_true,ih]
  constructor
  ·rintro⟨h1,h2⟩ i hi
   cases i with
   | zero =>
    rcases h1 with h1 | h1
    ·simp at h1 hi
     subst h1
     simp at hi
    ·exact h1
   | succ i=>exact h2 i (by simpa using hi)
  ·intro h
   refine⟨?_,fun i hi=>h (i+1) (by simpa using hi)⟩
   cases r with
   | nil=>exact .inl rfl
   | cons s r=>exact .inr (h 0 (by simp))
theorem ZaE {A:List (List UInt8)} (h:abl A=true) (p k:Int):abl (cut A p k)=true:=by
 rw[ZaF] at h ⊢
 intro i hi
 have hl:i+1<k.toNat∧p.toNat+(i+1)<A.length:=by
  simp only[cut,List.length_take,List.length_drop] at hi
  omega
 have:=h (p.toNat+i) (by omega)
 simpa [cut] using this
theorem Zli {A:List (List UInt8)} {p k:Int} {t:List UInt8} (h:t∈cut A p k):t∈A:=List.mem_of_mem_drop (List.mem_of_mem_take h)
theorem Zlh {a b:List (List UInt8)} {e:Int} (g:List Ch):∀ (p:Int),∀ m∈bodyH a b e p g,okS m.sg=true∧(m.tx∈a∨m.tx∈b):=by
 have hm:∀ (s:Int) (x:List (List UInt8)) (m:Mk),m∈mks s x→m.sg=s∧m.tx∈x:=by
  intro s x m h
  simp only[mks,List.mem_map] at h
  obtain⟨t,ht,rfl⟩:=h
  exact⟨rfl,ht⟩
 induction g with
 | nil =>
  intro p m h
  obtain⟨h1,h2⟩:=hm _ _ _ h
  rw[h1]
  exact⟨by decide,.inl (Zli h2)⟩
 | cons c g ih =>
  intro p m h
  simp only[bodyH,List.mem_append] at h
  rcases h with h | h | h | h
  ·obtain⟨h1,h2⟩:=hm _ _ _ h
   rw[h1]
   exact⟨by decide,.inl (Zli h2)⟩
  ·obtain⟨h1,h2⟩:=hm _ _ _ h
   rw[h1]
   exact⟨by decide,.inl (Zli h2)⟩
  ·obtain⟨h1,h2⟩:=hm _ _ _ h
   rw[h1]
   exact⟨by decide,.inr (Zli h2)⟩
  ·exact ih _ m h
theorem ZbD {a b:List (List UInt8)} {e p q:Int} {fl:Bool} {f:Ch} {g rest:List Ch} (h:Right fl p q a.length b.length (f::g++rest)):(bodyH a b e p (f::g)).all (fun m=>decide (m.sg=32))=false:=by
 obtain⟨⟨h1,h2,h3,h4⟩,h5⟩:=h
 have h1':=(ZmM f).1 h1
 have hle:=h5.le
 simp only[bodyH,List.all_append]
 have hx:∀ (s:Int) (x:List (List UInt8)),s≠32→x≠[]→(mks s x).all (fun m=>decide (m.sg=32))=false:=by
  intro s x hs hx
  cases x with
  | nil=>exact absurd rfl hx
  | cons t x=>simp[mks,hs]
 rcases (by omega:0<f.AN∨0<f.BN) with z | z
 ·have x3:=ZhI (A:=a) (p:=f.A) (k:=f.AN) (by omega) (by omega) (by omega)
  rw[hx 45 (cut a f.A f.AN) (by decide) (by intro hz;rw[hz] at x3;simp at x3;omega)]
  simp
 ·have x2:=ZhI (A:=b) (p:=f.B) (k:=f.BN) (by omega) (by omega) (by omega)
  rw[hx 43 (cut b f.B f.BN) (by decide) (by intro hz;rw[hz] at x2;simp at x2;omega)]
  simp
theorem ZkR {a b:List (List UInt8)} {ctx:Int} (hc:0≤ctx) (ha:a.length≤1000000) (hb:b.length≤1000000) (gs:List (List Ch)):∀ (fl:Bool) (p q u v:Int),Right fl p q a.length b.length gs.flatten→(∀ r∈U p q a.length b.length gs.flatten,a[r.a.toNat]?=b[r.b.toNat]?)→Hgs ctx gs→0≤p→0≤q→p≤u→v-u=q-p→(∀ f,gs.flatten.head?=some f→u≤f.A-min ctx f.A) →
  (∀ t,t∈a∨t∈b→t≠[])→abl a=true→abl b=true→errs (gs.map (oneH a b ctx))=0∨errs (gs.map (oneH a b ctx))=6∧innL (a++b)=true:=by
 induction gs with
 | nil=>intros;exact .inl rfl
 | cons g gs ih =>
  intro fl p q u v h hs hG hp hq hu huv hf hne hla hlb
  obtain⟨f,g',rfl,e,h1,h2,h3,hR,hU,hE,h4,h5,h6,h7,hU2,h8,h9⟩:=Zhr hc h hG hp hq hu huv hf
  have hi:=ih false _ _ e (endB 0 (f::g')+(e-endA 0 (f::g'))) h5 (fun r hr=>hs r (hU2 r hr)) hG.2.2 h6 h7 h8 (by omega) h9 hne hla hlb
  simp only[List.map_cons,errs]
  have hrng:rngB (oneH a b ctx (f::g'))=true:=by
   have z1:=h1.s0
   have z2:=h1.t0
   have z3:=h1.en
   have z4:=h1.em
   have z5:=h1.se
   have z6:=h1.le
   have hkn:(0:Int)≤endB 0 (f::g')+(e-endA 0 (f::g'))-(f.B-min ctx f.A):=by
    have hz:((pkL 45 (oneH a b ctx (f::g')).ls).length:Int)=(oneH a b ctx (f::g')).BN:=rfl
    rw[h1.BN] at hz
    omega
   simp only[rngB]
   rw[h1.A,h1.AN,h1.B,h1.BN]
   obtain⟨k2,hk2⟩:∃ k2,endB 0 (f::g')+(e-endA 0 (f::g'))-(f.B-min ctx f.A)=k2:=⟨_,rfl⟩
   rw[hk2]
   have y1:nat31 (if 0<e-(f.A-min ctx f.A) then f.A-min ctx f.A+1 else f.A-min ctx f.A)=true:=by
    simp only[nat31,Bool.and_eq_true,decide_eq_true_eq];split<;>omega
   have y2:nat31 (e-(f.A-min ctx f.A))=true:=by simp only[nat31,Bool.and_eq_true,decide_eq_true_eq];omega
   have y3:nat31 (if 0<k2 then f.B-min ctx f.A+1 else f.B-min ctx f.A)=true:=by
    simp only[nat31,Bool.and_eq_true,decide_eq_true_eq];split<;>omega
   have y4:nat31 k2=true:=by simp only[nat31,Bool.and_eq_true,decide_eq_true_eq];omega
   have y5:(decide ((if 0<e-(f.A-min ctx f.A) then f.A-min ctx f.A+1 else f.A-min ctx f.A)=0) && decide (0<e-(f.A-min ctx f.A)))=false:=by
    by_cases z:0<e-(f.A-min ctx f.A)
    ·rw[if_pos z,decide_eq_false (by omega),Bool.false_and]
    ·rw[decide_eq_false z,Bool.and_false]
   have y6:(decide ((if 0<k2 then f.B-min ctx f.A+1 else f.B-min ctx f.A)=0) && decide (0<k2))=false:=by
    by_cases z:0<k2
    ·rw[if_pos z,decide_eq_false (by omega),Bool.false_and]
    ·rw[decide_eq_false z,Bool.and_false]
   rw[y1,y2,y3,y4,y5,y6]
   rfl
  have hcnt:¬ ((oneH a b ctx (f::g')).AN≠(oldL (oneH a b ctx (f::g'))).length∨(oneH a b ctx (f::g')).BN≠(newL (oneH a b ctx (f::g'))).length):=by
   have q1:(oneH a b ctx (f::g')).AN=((oldL (oneH a b ctx (f::g'))).length:Int):=rfl
   have q2:(oneH a b ctx (f::g')).BN=((newL (oneH a b ctx (f::g'))).length:Int):=rfl
   simp[← q1,← q2]
  have hall:(oneH a b ctx (f::g')).ls.all (fun m=>decide (m.sg=32))=false:=by
   rw[h1.ls]
   exact ZbD hR
  have hchk:chkH (oneH a b ctx (f::g'))=if fldB (oneH a b ctx (f::g')).ls=false then 6 else 0:=by
   simp only[chkH]
   rw[if_neg (by rw[hrng];simp)]
   by_cases z:fldB (oneH a b ctx (f::g')).ls=false
   ·rw[if_pos z,if_pos z]
   ·rw[if_neg z,if_neg z,if_neg hcnt,if_neg (by rw[hall];simp)]
  rw[hchk]
  by_cases hF:fldB (oneH a b ctx (f::g')).ls=false
  ·rw[if_pos hF,if_pos (by decide)]
   refine .inr ⟨rfl,?_⟩
   cases hin:innL (a++b) with
   | true=>rfl
   | false =>
    exfalso
    have:fldB (oneH a b ctx (f::g')).ls=true:=by
     rw[Zgy]
     refine⟨fun m hm=>?_,?_,?_⟩
     ·rw[h1.ls] at hm
      obtain⟨k1,k2⟩:=Zlh _ _ m hm
      refine⟨Zkc (hne _ k2) ?_,k1⟩
      simp only[innL,List.any_eq_false] at hin
      have:=hin m.tx (by simpa using k2)
      simpa using this
     ·have:=h1.old
      unfold oldL at this
      rw[this]
      exact ZaE hla _ _
     ·rw[h1.ls,Zbv hR (fun r hr=>hs r (hU r hr)) h1.s0 h1.t0 h1.le hE]
      exact ZaE hlb _ _
    rw[this] at hF
    cases hF
  ·rw[if_neg hF]
   simpa using hi
theorem Zbx {a b:List (List UInt8)} {e:Int} {rest:List Ch} (g:List Ch):∀ (fl s:Bool) (p q:Int),Right fl p q a.length b.length (g++rest)→0≤p→(s=true→fl=false)→Nf s (bodyH a b e p g):=by
 have n32:∀ (x:List (List UInt8)) (t:List Mk) (s:Bool),(x=[]→Nf s t)→(x≠[]→Nf false t)→Nf s (mks 32 x++t):=by
  intro x
  induction x with
  | nil=>intro t s h _;exact h rfl
  | cons y x ih =>
   intro t s _ h
   show Nf s (⟨32,y⟩::(mks 32 x++t))
   simp only[Nf]
   rw[if_neg (by decide),if_neg (by decide)]
   exact ih t false (fun _=>h (by simp)) (fun _=>h (by simp))
 have n45:∀ (x:List (List UInt8)) (t:List Mk),Nf false t→Nf false (mks 45 x++t):=by
  intro x
  induction x with
  | nil=>intro t h;exact h
  | cons y x ih =>
   intro t h
   show Nf false (⟨45,y⟩::(mks 45 x++t))
   simp only[Nf]
   simp only[if_true,true_and]
   exact ih t h
 have n43:∀ (x:List (List UInt8)) (t:List Mk) (s:Bool),(∀ s,Nf s t)→Nf s (mks 43 x++t):=by
  intro x
  induction x with
  | nil=>intro t s h;exact h s
  | cons y x ih =>
   intro t s h
   show Nf s (⟨43,y⟩::(mks 43 x++t))
   simp only[Nf]
   rw[if_neg (by decide)]
   simp only[if_true]
   exact ih t true h
 induction g with
 | nil =>
  intro fl s p q _ _ _
  simp only[bodyH]
  have:=n32 (cut a p (e-p)) [] s (fun _=>by simp[Nf]) (fun _=>by simp[Nf])
  rwa [List.append_nil] at this
 | cons c g ih =>
  intro fl s p q h hp hs
  obtain⟨⟨h1,h2,h3,h4⟩,h5⟩:=h
  have h1':=(ZmM c).1 h1
  have hle:=h5.le
  have hrest:Nf false (mks 45 (cut a c.A c.AN)++(mks 43 (cut b c.B c.BN)++bodyH a b e (c.A+c.AN) g)) :=
   n45 _ _ (n43 _ _ _ fun s'=>ih false s' _ _ h5 (by omega) (fun _=>rfl))
  simp only[bodyH]
  refine n32 _ _ s (fun hx=>?_) (fun _=>hrest)
  cases s with
  | false=>exact hrest
  | true =>
   exfalso
   have hf:=hs rfl
   have hlt:p<c.A:=by
    rcases h4 with h4 | h4
    ·rw[hf] at h4;cases h4
    ·exact h4
   have x1:=ZhI (A:=a) (p:=p) (k:=c.A-p) hp (by omega) (by omega)
   rw[hx] at x1
   simp at x1
   omega
theorem Zho (l:List Ch):∀ (fl:Bool) (p q n m:Int),Right fl p q n m l→grp 0 l=l.map fun c=>[c]:=by
 induction l with
 | nil=>intros;rfl
 | cons c l ih =>
  intro fl p q n m h
  have hi:=ih false _ _ n m h.2
  cases l with
  | nil=>rfl
  | cons d l =>
   obtain⟨g,gs,h1,h2⟩:=Zhg 0 c d l
   have h4:c.A+c.AN<d.A:=by simpa using h.2.1.2.2.2
   rw[h2,if_neg (by omega),List.map_cons,← hi,h1]
end

section
theorem ZaW (l:List Mk) (h:∀ m∈l,okS m.sg=true):l.length≤(pkL 43 l).length+(pkL 45 l).length:=by
 induction l with
 | nil=>simp
 | cons m l ih =>
  have hi:=ih fun q hq=>h q (by simp[hq])
  have hm:=h m (by simp)
  simp only[pkL]
  by_cases h1:m.sg=43
  ·rw[if_neg (fun q=>q.1 h1),if_pos ⟨by omega,hm⟩]
   simp only[List.length_cons]
   omega
  ·rw[if_pos ⟨h1,hm⟩]
   split<;>simp only[List.length_cons]<;>omega
theorem Zhp {a b:List (List UInt8)} {ctx:Int} (hc:0≤ctx) (pre:List (List Ch)):∀ (fl:Bool) (p q:Int) (f:Ch) (g:List Ch) (post:List (List Ch)),Right fl p q a.length b.length (pre++(f::g)::post).flatten→Hgs ctx (pre++(f::g)::post)→0≤p→0≤q→(∀ d,(pre++(f::g)::post).flatten.head?=some d→p≤d.A-min ctx d.A) →
  Right true (f.A-min ctx f.A) (f.B-min ctx f.A) a.length b.length (f::g++post.flatten)∧0≤f.A-min ctx f.A∧0≤f.B-min ctx f.A∧(oneH a b ctx (f::g)).ls.length≤a.length+b.length:=by
 induction pre with
 | nil =>
  intro fl p q f g post h hG hp hq hf
  obtain⟨f',g',he,e,h1,h2,h3,hR,_,_,h4,h5,h6,h7,_,h8,h9⟩:=Zhr hc h hG hp hq (Int.le_refl p) (show q-p=q-p from rfl) hf
  cases he
  refine⟨hR,h1.s0,h1.t0,?_⟩
  have hl:=ZaW (oneH a b ctx (f::g)).ls (fun m hm=>by rw[h1.ls] at hm;exact (Zlh _ _ m hm).1)
  have ho:(pkL 43 (oneH a b ctx (f::g)).ls).length≤a.length:=(by
   have e1:=h1.old
   unfold oldL at e1
   rw[e1]
   simp only[cut,List.length_take,List.length_drop]
   omega)
  have hn:((pkL 45 (oneH a b ctx (f::g)).ls).length:Int)=(oneH a b ctx (f::g)).BN:=rfl
  rw[h1.BN] at hn
  have:=h1.em
  have:=h1.t0
  omega
 | cons g0 pre ih =>
  intro fl p q f g post h hG hp hq hf
  obtain⟨f',g',rfl,e,h1,h2,h3,hR,_,_,h4,h5,h6,h7,_,h8,h9⟩:=Zhr hc h hG hp hq (Int.le_refl p) (show q-p=q-p from rfl) hf
  exact ih false _ _ f g post h5 hG.2.2 h6 h7 (fun d hd=>by have:=h9 d hd;omega)
theorem ZqZ {a b:List (List UInt8)} {ctx:Int} (hc:0≤ctx) {l:List Ch} (hs:Script l a.length b.length) {pre post:List (List Ch)} {f:Ch} {g:List Ch} (he:grp ctx l=pre++(f::g)::post) :
  Right true (f.A-min ctx f.A) (f.B-min ctx f.A) a.length b.length (f::g++post.flatten)∧0≤f.A-min ctx f.A∧0≤f.B-min ctx f.A∧(oneH a b ctx (f::g)).ls.length≤a.length+b.length:=by
 have hfl:=Zhi ctx l
 have hG:=Zhj ctx l
 have hr:=hs.2.2
 rw[← hfl] at hr
 rw[he] at hr hG
 refine Zhp hc pre true 0 0 f g post hr hG (Int.le_refl _) (Int.le_refl _) (fun d hd=>?_)
 have hd2:d∈(pre++(f::g)::post).flatten:=List.mem_of_head? hd
 have hn:numB d=true:=by
  have key:∀ (l:List Ch) (fl:Bool) (p q n m:Int),Right fl p q n m l→∀ c∈l,numB c=true:=by
   intro l
   induction l with
   | nil=>intro fl p q n m _ c hc;cases hc
   | cons x l ih =>
    intro fl p q n m h c hc
    rcases List.mem_cons.1 hc with rfl | hc
    ·exact h.1.1
    ·exact ih _ _ _ _ _ h.2 c hc
  exact key _ _ _ _ _ _ hr d hd2
 have:=(ZmM d).1 hn
 omega
end

section
theorem Zlt {l:List Ch} {a b:List (List UInt8)} {ctx:Int} (hs:Script l a.length b.length) (hc:0≤ctx∧ctx≤100):mkR l a b ctx=(grp ctx l).map (oneH a b ctx)∧grpE l a.length b.length ctx=0:=by
 have e:grpE l a.length b.length ctx=0:=by
  unfold grpE
  rw[ZcV hs,if_neg (by simp),if_neg (by omega)]
 refine⟨?_,e⟩
 unfold mkR grpR
 rw[if_pos e]
theorem Zhq {a b:List (List UInt8)} {ctx:Int} (hc:0≤ctx) (gs:List (List Ch)):∀ (fl:Bool) (p q:Int),Right fl p q a.length b.length gs.flatten→(∀ r∈U p q a.length b.length gs.flatten,a[r.a.toNat]?=b[r.b.toNat]?)→Hgs ctx gs→0≤p→0≤q→(∀ d,gs.flatten.head?=some d→p≤d.A-min ctx d.A) →
  ∀ x∈gs.map (oneH a b ctx),(0≤atA x∧0≤x.AN∧atA x+x.AN≤a.length)∧(0≤atB x∧0≤x.BN∧atB x+x.BN≤b.length)∧oldL x=cut a (atA x) x.AN∧newL x=cut b (atB x) x.BN∧Nf false x.ls:=by
 induction gs with
 | nil=>intro fl p q _ _ _ _ _ _ x hx;simp at hx
 | cons g gs ih =>
  intro fl p q h hh hG hp hq hf x hx
  obtain⟨f,g',rfl,e,h1,h2,h3,hR,hU,hE,h4,h5,h6,h7,hU2,h8,h9⟩:=Zhr hc h hG hp hq (Int.le_refl p) (show q-p=q-p from rfl) hf
  rw[List.map_cons] at hx
  rcases List.mem_cons.1 hx with rfl | hx
  ·have hbn:((pkL 45 (oneH a b ctx (f::g')).ls).length:Int)=(oneH a b ctx (f::g')).BN:=rfl
   have hnew:=Zbv hR (fun r hr=>hh r (hU r hr)) h1.s0 h1.t0 h1.le hE
   rw[h1.atA,h1.atB]
   refine⟨⟨h1.s0,by rw[h1.AN];have:=h1.se;omega,by rw[h1.AN];have:=h1.en;omega⟩,⟨h1.t0,by omega,by rw[h1.BN];have:=h1.em;omega⟩,by rw[h1.AN];exact h1.old,?_,?_⟩
   ·unfold newL
    rw[h1.ls,h1.BN]
    exact hnew
   ·rw[h1.ls]
    exact Zbx (f::g') true false _ _ hR h1.s0 (fun h=>by cases h)
  ·exact ih false _ _ h5 (fun r hr=>hh r (hU2 r hr)) hG.2.2 h6 h7 (fun d hd=>by have:=h9 d hd;omega) x hx
theorem Zra {l:List Ch} {a b:List (List UInt8)} {ctx:Int} (hs:Script l a.length b.length) (hh:∀ r∈U 0 0 a.length b.length l,a[r.a.toNat]?=b[r.b.toNat]?) (hc:0≤ctx∧ctx≤100) :
  ∀ x∈mkR l a b ctx,(0≤atA x∧0≤x.AN∧atA x+x.AN≤a.length)∧(0≤atB x∧0≤x.BN∧atB x+x.BN≤b.length)∧oldL x=cut a (atA x) x.AN∧newL x=cut b (atB x) x.BN∧Nf false x.ls:=by
 rw[(Zlt hs hc).1]
 have hfl:=Zhi ctx l
 refine Zhq hc.1 (grp ctx l) true 0 0 (by rw[hfl];exact hs.2.2) (by rw[hfl];exact hh) (Zhj ctx l) (Int.le_refl _) (Int.le_refl _) (fun d hd=>?_)
 rw[hfl] at hd
 have hr:=hs.2.2
 cases l with
 | nil=>cases hd
 | cons c l =>
  have hdc:c=d:=by simpa using hd
  subst hdc
  have:=(ZmM c).1 hr.1.1
  omega
theorem Zrb {l:List Ch} {a b:List (List UInt8)} {ctx:Int} (hs:Script l a.length b.length) (hh:∀ r∈U 0 0 a.length b.length l,a[r.a.toNat]?=b[r.b.toNat]?) (hc:0≤ctx∧ctx≤100) (ha:a.length≤1000000) (hb:b.length≤1000000) (hne:∀ t,t∈a∨t∈b→t≠[]) (hla:abl a=true) (hlb:abl b=true) :
  (ordH (mkR l a b ctx)=0∧chR (mkR l a b ctx)=l)∨(ordH (mkR l a b ctx)=6∧innL (a++b)=true):=by
 rw[(Zlt hs hc).1]
 have hfl:=Zhi ctx l
 have hr:Right true 0 0 a.length b.length (grp ctx l).flatten:=by rw[hfl];exact hs.2.2
 have hh':∀ r∈U 0 0 a.length b.length (grp ctx l).flatten,a[r.a.toNat]?=b[r.b.toNat]?:=by rw[hfl];exact hh
 have hf:∀ d,(grp ctx l).flatten.head?=some d→(0:Int)≤d.A-min ctx d.A:=by
  intro d hd
  rw[hfl] at hd
  have hr:=hs.2.2
  cases l with
  | nil=>cases hd
  | cons c l =>
   have hdc:c=d:=by simpa using hd
   subst hdc
   have:=(ZmM c).1 hr.1.1
   omega
 have hord:=ZkV hc.1 (grp ctx l) true 0 0 0 0 hr (Zhj ctx l) (Int.le_refl _) (Int.le_refl _) (Int.le_refl _) rfl hf
 have hch:=ZkQ hc.1 (grp ctx l) true 0 0 0 0 [] hr (Zhj ctx l) (Int.le_refl _) (Int.le_refl _) (Int.le_refl _) rfl hf (fun _ _=>rfl)
 rcases ZkR hc.1 ha hb (grp ctx l) true 0 0 0 0 hr hh' (Zhj ctx l) (Int.le_refl _) (Int.le_refl _) (Int.le_refl _) rfl hf hne hla hlb with h | ⟨h,hi⟩
 ·left
  have e:ordH ((grp ctx l).map (oneH a b ctx))=0:=by
   unfold ordH
   rw[h,if_neg (by simp),if_pos hord]
  refine⟨e,?_⟩
  unfold chR
  rw[if_pos e,hch,hfl]
  simp
 ·right
  refine⟨?_,hi⟩
  unfold ordH
  rw[h,if_pos (by decide)]
end

section
open Go.RowKit
theorem ret_bool {a b:Bool} (h:a=b):Ending.returned (.bool a)=.returned (.bool b):=by rw[h]
theorem ZpB {k:IntKind} {a b:Int} (h:a=b):Ending.returned (.int k a)=.returned (.int k b):=by rw[h]
theorem ZmW (c:Ch) (w:World):Calls Tryz.prog 142 #[chV c] w fun e w'=>e=.returned (.bool (numB c))∧Below w.heap.size w w':=by
 obtain⟨A,AN,B,BN⟩:=c
 unfold chV
 dsimp only
 have hB:Below w.heap.size w (w.alloc (.cells #[.int .i64 A,.int .i64 AN,.int .i64 B,.int .i64 BN] 64)):=(Below.refl _ w).alloc (Nat.le_refl _) _
 obtain⟨b,hb⟩:∃ b,numB ⟨A,AN,B,BN⟩=b:=⟨_,rfl⟩
 rw[hb]
 have Hb:Hid (numB ⟨A,AN,B,BN⟩=b):=hb
 clear hb
 have i0:∀ w,(Instr.index 259 (.agg #[.int .i64 A,.int .i64 AN,.int .i64 B,.int .i64 BN]) (.int .i64 0)).run Tryz.prog w=.ok (.int .i64 A) w:=fun _=>by kernel_rfl
 have i1:∀ w,(Instr.index 259 (.agg #[.int .i64 A,.int .i64 AN,.int .i64 B,.int .i64 BN]) (.int .i64 1)).run Tryz.prog w=.ok (.int .i64 AN) w:=fun _=>by kernel_rfl
 have i2:∀ w,(Instr.index 259 (.agg #[.int .i64 A,.int .i64 AN,.int .i64 B,.int .i64 BN]) (.int .i64 2)).run Tryz.prog w=.ok (.int .i64 B) w:=fun _=>by kernel_rfl
 have i3:∀ w,(Instr.index 259 (.agg #[.int .i64 A,.int .i64 AN,.int .i64 B,.int .i64 BN]) (.int .i64 3)).run Tryz.prog w=.ok (.int .i64 BN) w:=fun _=>by kernel_rfl
 go_enter Tryz.func142,Tryz.ntmps142
 go_wp2
 go_loopw [14] (fun i wr=>∃ k:Nat,k≤4∧i=.int .i64 k∧wr=w.alloc (.cells #[.int .i64 A,.int .i64 AN,.int .i64 B,.int .i64 BN] 64)∧Hid ((0<k→(0≤A∧A≤2147483647))∧(1<k→(0≤AN∧AN≤2147483647))∧(2<k→(0≤B∧B≤2147483647))∧(3<k→(0≤BN∧BN≤2147483647)))) (fun i _=>4-(intOf i).toNat)
 case atStart=>exact⟨0,Nat.zero_le _,rfl,rfl,(⟨fun h=>absurd h (by omega),fun h=>absurd h (by omega),fun h=>absurd h (by omega),fun h=>absurd h (by omega)⟩)⟩
 case round =>
  obtain⟨k,hk,rfl,rfl,hok⟩:=hrel
  rcases (by omega:k=0∨k=1∨k=2∨k=3∨k=4) with rfl | rfl | rfl | rfl | rfl
  ·by_cases h0:A<0
   ·go_wp2
    go_ret
    refine⟨ret_bool ?_,hB⟩
    rw[← Hb.out]
    simp[numB,nat31]
    omega
   ·by_cases h1:2147483647<A
    ·go_wp2
     go_ret
     refine⟨ret_bool ?_,hB⟩
     rw[← Hb.out]
     simp[numB,nat31]
     omega
    ·go_wp2
     go_roundw
     case rel=>exact⟨1,by omega,by go_num,trivial,(by have:=hok.out;show _∧_∧_∧_;refine⟨?_,?_,?_,?_⟩<;>intro _<;>omega)⟩
     case measure=>simp[intOf]
  ·by_cases h0:AN<0
   ·go_wp2
    go_ret
    refine⟨ret_bool ?_,hB⟩
    rw[← Hb.out]
    simp[numB,nat31]
    omega
   ·by_cases h1:2147483647<AN
    ·go_wp2
     go_ret
     refine⟨ret_bool ?_,hB⟩
     rw[← Hb.out]
     simp[numB,nat31]
     omega
    ·go_wp2
     go_roundw
     case rel=>exact⟨2,by omega,by go_num,trivial,(by have:=hok.out;show _∧_∧_∧_;refine⟨?_,?_,?_,?_⟩<;>intro _<;>omega)⟩
     case measure=>simp[intOf]
  ·by_cases h0:B<0
   ·go_wp2
    go_ret
    refine⟨ret_bool ?_,hB⟩
    rw[← Hb.out]
    simp[numB,nat31]
    omega
   ·by_cases h1:2147483647<B
    ·go_wp2
     go_ret
     refine⟨ret_bool ?_,hB⟩
     rw[← Hb.out]
     simp[numB,nat31]
     omega
    ·go_wp2
     go_roundw
     case rel=>exact⟨3,by omega,by go_num,trivial,(by have:=hok.out;show _∧_∧_∧_;refine⟨?_,?_,?_,?_⟩<;>intro _<;>omega)⟩
     case measure=>simp[intOf]
  ·by_cases h0:BN<0
   ·go_wp2
    go_ret
    refine⟨ret_bool ?_,hB⟩
    rw[← Hb.out]
    simp[numB,nat31]
    omega
   ·by_cases h1:2147483647<BN
    ·go_wp2
     go_ret
     refine⟨ret_bool ?_,hB⟩
     rw[← Hb.out]
     simp[numB,nat31]
     omega
    ·go_wp2
     go_roundw
     case rel=>exact⟨4,by omega,by go_num,trivial,(by have:=hok.out;show _∧_∧_∧_;refine⟨?_,?_,?_,?_⟩<;>intro _<;>omega)⟩
     case measure=>simp[intOf]
  ·have hok':=hok.out
   by_cases h0:0<AN
   ·go_wp2
    go_ret
    refine⟨ret_bool ?_,hB⟩
    rw[← Hb.out]
    simp[numB,nat31]
    omega
   ·by_cases h1:0<BN
    ·go_wp2
     go_ret
     refine⟨ret_bool ?_,hB⟩
     rw[← Hb.out]
     simp[numB,nat31]
     omega
    ·go_wp2
     go_ret
     refine⟨ret_bool ?_,hB⟩
     rw[← Hb.out]
     simp[numB,nat31]
     omega
theorem Zac (l:List Ch) (n m r:Int) (v:Value) (w:World) (hl:HCh w v l) (hlen:l.length≤1099511627776) (hn:n≤9223372036854775807) (hm:m≤9223372036854775807) (hr:Hid (chk l n m=r)) :
  Calls Tryz.prog 86 #[v,.int .i64 n,.int .i64 m] w fun e w'=>e=.returned (.int .i64 r)∧Below w.heap.size w w':=by
 obtain⟨ao,ca,rfl⟩:=Holds.form hl
 by_cases hn0:n<0
 ·go_enter Tryz.func86,Tryz.ntmps86
  go_wp2
  go_ret
  refine⟨ZpB ?_,Below.refl _ w⟩
  rw[← hr.out,ZcU (fun h=>by have:=h.1;omega)]
 by_cases hm0:m<0
 ·go_enter Tryz.func86,Tryz.ntmps86
  go_wp2
  go_ret
  refine⟨ZpB ?_,Below.refl _ w⟩
  rw[← hr.out,ZcU (fun h=>by have:=h.2.1;omega)]
 go_enter Tryz.func86,Tryz.ntmps86
 go_wp2
 go_loopw [7,8,19] (fun av bv iv wr=>∃ (k:Nat) (a b:Int),k≤l.length∧av=.int .i64 a∧bv=.int .i64 b∧iv=.int .i64 k∧0≤a∧a≤n∧0≤b∧b≤m∧Below w.heap.size w wr∧Hid (Script l n m↔Right (decide (k=0)) a b n m (l.drop k))) (fun _ _ iv _=>l.length-(intOf iv).toNat)
 case atStart=>exact⟨0,0,0,Nat.zero_le _,rfl,rfl,rfl,by omega,by omega,by omega,by omega,Below.refl _ w,(by show _↔_;simp only[Script,List.drop_zero,decide_true];constructor;exact fun h=>h.2.2;exact fun h=>⟨by omega,by omega,h⟩)⟩
 case round =>
  obtain⟨k,a,b,hk,rfl,rfl,rfl,ha,han,hb,hbm,hB,hR⟩:=hrel
  by_cases hlt:k<l.length
  ·obtain⟨bk,off,rfl,hbk,hc⟩:=HCh.at (HCh.keep hl hB (Nat.le_refl _)) (by omega)
   obtain⟨c0,c1,c2,c3⟩:=hc k hlt
   have hR':=hR.out
   rw[List.drop_eq_getElem_cons hlt] at hR'
   obtain⟨c,hcd⟩:∃ c,l[k]=c:=⟨_,rfl⟩
   rw[hcd] at hR' c0 c1 c2 c3
   clear hc hcd hR
   have HR:Hid (Script l n m↔Right (decide (k=0)) a b n m (c::l.drop (k+1))):=hR'
   clear hR'
   have i1:0≤(k:Int):=by omega
   have i2:(k:Int)<(l.length:Int):=by omega
   obtain⟨A,AN,B,BN⟩:=c
   dsimp only at c0 c1 c2 c3
   have hsz:=hB.size
   go_wp2_with fail
   have hB1:Below w.heap.size w (wr.alloc (Obj.cells #[Value.int IntKind.i64 A,Value.int IntKind.i64 AN,Value.int IntKind.i64 B,Value.int IntKind.i64 BN] 64)):=hB.alloc hsz _
   refine (ZmW ⟨A,AN,B,BN⟩ _).mono ?_
   rintro e w1 ⟨rfl,hb1⟩
   have hB2:Below w.heap.size w w1:=hB1.trans (hb1.mono (by simp;omega))
   have hbox:=hb1.block wr.heap.size (by simp)
   rw[_root_.Go.heap_alloc_new] at hbox
   have d0:w1.cell? ⟨wr.heap.size,0,none⟩=some (.int .i64 A):=by rw[Lib.cell_of_heap hbox];rfl
   have d1:w1.cell? ⟨wr.heap.size,1,none⟩=some (.int .i64 AN):=by rw[Lib.cell_of_heap hbox];rfl
   have d2:w1.cell? ⟨wr.heap.size,2,none⟩=some (.int .i64 B):=by rw[Lib.cell_of_heap hbox];rfl
   have d3:w1.cell? ⟨wr.heap.size,3,none⟩=some (.int .i64 BN):=by rw[Lib.cell_of_heap hbox];rfl
   clear hbox c0 c1 c2 c3 hb1 hB1 hB
   by_cases hq:numB ⟨A,AN,B,BN⟩=true
   ·rw[hq]
    have HQ:Hid (numB ⟨A,AN,B,BN⟩=true):=hq
    rw[ZmM] at hq
    dsimp only at hq
    obtain⟨⟨hA0,hA1⟩,⟨hAN0,hAN1⟩,⟨hB0,hB1⟩,⟨hBN0,hBN1⟩,hpos⟩:=hq
    by_cases h1:A-a=B-b
    ·by_cases h2:AN > n-A
     ·go_wp2_with fail
      go_ret
      refine⟨ZpB ?_,hB2⟩
      rw[← hr.out,ZcU]
      exact fun h=>by have h5:=HR.out.1 h;obtain⟨⟨q1,q2,q3,q4⟩,q5⟩:=h5;have q6:=q5.le;dsimp only at q6;omega
     by_cases h3:BN > m-B
     ·go_wp2_with fail
      go_ret
      refine⟨ZpB ?_,hB2⟩
      rw[← hr.out,ZcU]
      exact fun h=>by have h5:=HR.out.1 h;obtain⟨⟨q1,q2,q3,q4⟩,q5⟩:=h5;have q6:=q5.le;dsimp only at q6;omega
     by_cases h4:A<a
     ·go_wp2_with fail
      go_ret
      refine⟨ZpB ?_,hB2⟩
      rw[← hr.out,ZcU]
      exact fun h=>by have h5:=HR.out.1 h;obtain⟨⟨q1,q2,q3,q4⟩,q5⟩:=h5;have q6:=q5.le;dsimp only at q3;omega
     by_cases h5:A=a
     ·by_cases h6:0<(k:Int)
      ·go_wp2_with fail
       go_ret
       refine⟨ZpB ?_,hB2⟩
       rw[← hr.out,ZcU]
       exact fun h=>by
        obtain⟨⟨q1,q2,q3,q4⟩,q5⟩:=HR.out.1 h
        rcases q4 with q4 | q4
        ·have:=of_decide_eq_true q4;omega
        ·dsimp only at q4;omega
      ·go_wp2_with fail
       go_quiet (fail)
       go_wp2
       go_roundw
       case rel=>exact⟨k+1,A+AN,B+BN,by omega,by go_num,by go_num,by go_num,by omega,by omega,by omega,by omega,Below.dN hB2 _,(by
        show _↔_
        refine HR.out.trans ?_
        have:decide (k+1=0)=false:=by simp
        rw[this]
        exact⟨fun h=>h.2,fun h=>⟨⟨HQ.out,h1,by dsimp only;omega,.inl (decide_eq_true (by omega))⟩,h⟩⟩)⟩
       case measure=>simp[intOf];omega
     ·go_wp2_with fail
      go_quiet (fail)
      go_wp2
      go_roundw
      case rel=>exact⟨k+1,A+AN,B+BN,by omega,by go_num,by go_num,by go_num,by omega,by omega,by omega,by omega,Below.dN hB2 _,(by
        show _↔_
        refine HR.out.trans ?_
        have:decide (k+1=0)=false:=by simp
        rw[this]
        exact⟨fun h=>h.2,fun h=>⟨⟨HQ.out,h1,by dsimp only;omega,.inr (by dsimp only;omega)⟩,h⟩⟩)⟩
      case measure=>simp[intOf];omega
    ·go_wp2_with fail
     go_ret
     refine⟨ZpB ?_,hB2⟩
     rw[← hr.out,ZcU]
     exact fun h=>by have h5:=HR.out.1 h;obtain⟨⟨q1,q2,q3,q4⟩,q5⟩:=h5;have q6:=q5.le;dsimp only at q2;omega
   ·have hq':numB ⟨A,AN,B,BN⟩=false:=by simpa using hq
    have HQ:Hid (numB ⟨A,AN,B,BN⟩=false):=hq'
    rw[hq']
    clear hq hq'
    go_wp2_with fail
    go_ret
    refine⟨ZpB ?_,hB2⟩
    rw[← hr.out,ZcU]
    exact fun h=>by
     obtain⟨⟨q1,q2,q3,q4⟩,q5⟩:=HR.out.1 h
     rw[HQ.out] at q1
     cases q1
  ·by_cases he:n-a=m-b
   ·go_wp2
    go_ret
    refine⟨ZpB ?_,hB⟩
    rw[← hr.out,ZcV]
    have:=hR.out
    rw[List.drop_of_length_le (by omega)] at this
    exact this.2 ⟨han,hbm,he⟩
   ·go_wp2
    go_ret
    refine⟨ZpB ?_,hB⟩
    rw[← hr.out,ZcU]
    have:=hR.out
    rw[List.drop_of_length_le (by omega)] at this
    exact fun h=>he (this.1 h).2.2
end

section
open Go.RowKit Go.Shelf
attribute [local go_sem] Oper.semAt_some
structure Kp (n₀ lo:Nat) (W W':World):Prop where
 low:Below n₀ W W'
 box:∀ k,lo≤k→k<lo+3→W'.heap[k]?=W.heap[k]?
 chg:∀ (k:Nat) (cs:Array Value),W.heap[k]?=some (Obj.cells cs 64 (0,0))→W'.heap[k]?=some (Obj.cells cs 64 (0,0))
section
variable {n₀ lo:Nat} {A B C:World}
theorem Kp.refl (W:World):Kp n₀ lo W W:=⟨Below.refl _ _,fun _ _ _=>rfl,fun _ _ h=>h⟩
end
end

section
open Go.RowKit Go.Shelf
attribute [local go_sem] Oper.semAt_some
theorem Zmn (W:World) (cs:Array Value) (e:TypeId) (k c:Nat) (hkc:k≤c):Holds (W.alloc (.cells cs e)) (.slice (some ⟨W.heap.size,0,none⟩) k c) k cs.toList:=by
 refine .inr ⟨_,_,rfl,hkc,fun j u hj=>?_⟩
 rw[add_none,Lib.cell_of_heap (_root_.Go.heap_alloc_new W _)]
 simpa using hj
structure OwnR (n₀ lo B:Nat) (t e:TypeId) (s:Nat) (v:Value) (k:Nat) (xs:List Value) (W:World):Prop where
 box:Boxed W B t v
 row:W.ownsRow n₀ e s v k xs
 far:∀ g,v.ownBlock=some g→g<lo∨lo+3≤g
section
variable {n₀ lo B:Nat} {t e:TypeId} {s:Nat} {v:Value} {k:Nat} {xs:List Value} {W:World}
end
end

section
open Go.RowKit Go.Shelf
attribute [local go_sem] Oper.semAt_some
end

end Go.Proofs.YtgiojkhmkeocfaaGreatDoor
