/-
  Texts that belong together, joined: EdRow, EdMath, EdM2, EdM3, EdM4, EdM5, HuMath, HuM2, HuM3, HuM4, HuM5, HuM6, EdChk, EdIter, EdOwn, EdKeep, EdWalk, EdDrew.
-/
import Derived.Test.YtcnjephlmcnodaaGreatDoorProg
import Derived.WalkKit
import Derived.WalkSpells
import Derived.WalkLawsBesides
import Derived.Deep.QuietTactic
import Derived.BigQuiet
import Derived.Laws.AppendOwnNone
import Derived.Below
import Derived.RangeFuncNested
import Derived.RangeFuncBound
import Derived.RangeFuncCalls
import Derived.RangeFuncLeaves
import Derived.RangeFuncBox
import Derived.Shelf.Abstract
import Derived.Shelf.RegionOpen
import Derived.OwnWalkIn
import Derived.TacticsInMore
import Derived.LoopNIn
import Derived.LoopIn
import Derived.Maps.AppendAt
import Derived.Deep.RegionHeld3

set_option maxHeartbeats 16000000
set_option maxRecDepth 100000
namespace Go.Proofs.YtcnjephlmcnodaaGreatDoor

section
open Go.RowKit
theorem Y_a {α:Type} (l:List α) (i:Nat) (a:α):l.toArray.setIfInBounds i a=(l.set i a).toArray:=List.setIfInBounds_toArray ..
theorem Y_b {α:Type} {a b:α} {l:List α}:(a::l).set 0 b=b::l:=rfl
theorem Y_c {α:Type} {a b:α} {l:List α} {n:Nat}:(a::l).set (n+1) b=a::l.set n b:=rfl
structure Ch where
 A:Int
 AN:Int
 B:Int
 BN:Int
structure Rn where
 a:Int
 b:Int
 n:Int
def chV (c:Ch):Value:=.agg #[.int .i64 c.A,.int .i64 c.AN,.int .i64 c.B,.int .i64 c.BN]
def rnV (r:Rn):Value:=.agg #[.int .i64 r.a,.int .i64 r.b,.int .i64 r.n]
def chC (c:Ch):List Value:=[.int .i64 c.A,.int .i64 c.AN,.int .i64 c.B,.int .i64 c.BN]
def rnC (r:Rn):List Value:=[.int .i64 r.a,.int .i64 r.b,.int .i64 r.n]
def chcells (l:List Ch):List Value:=l.flatMap chC
def rncells (l:List Rn):List Value:=l.flatMap rnC
def icells (ns:List Int):List Value:=ns.map fun z=>.int .i64 z
def scells (ws:List (List UInt8)):List Value:=ws.map fun a=>.string ⟨a.toArray⟩
theorem infoStr:(Tryz.prog.info? 9).map (fun i=>(i.zero,i.size,i.bytes))=some (some (.string ⟨#[]⟩),1,16):=by kernel_rfl
theorem infoInt:(Tryz.prog.info? 3).map (fun i=>(i.zero,i.size,i.bytes))=some (some (.int .i64 0),1,8):=by kernel_rfl
theorem infoCh:(Tryz.prog.info? 43).map (fun i=>(i.zero,i.size,i.bytes))=some (some (.agg #[.int .i64 0,.int .i64 0,.int .i64 0,.int .i64 0]),4,32):=by kernel_rfl
theorem infoRn:(Tryz.prog.info? 145).map (fun i=>(i.zero,i.size,i.bytes))=some (some (.agg #[.int .i64 0,.int .i64 0,.int .i64 0]),3,24):=by kernel_rfl
theorem addr_of {W:World} {a:Addr} {v:Value} (h:W.cell? (a.add 0)=some v):∃ b off,a=⟨b,off,none⟩:=by
 obtain⟨b,off,spot⟩:=a
 have hspot:spot=none:=by simpa [Addr.add] using World.cell?_spot h
 subst hspot
 exact⟨b,off,rfl⟩
theorem add_none (b off j:Nat):(⟨b,off,none⟩:Addr).add j=⟨b,off+j,none⟩:=by unfold Addr.add;split<;>simp_all
theorem Below.dN {N:Nat} {w w1:World} (h:Below N w w1) (n:Nat):Below N w (w1.drewN n):=⟨h.os,h.tape,h.output,h.size,h.block⟩
def Holds (w:World) (v:Value) (n:Nat) (xs:List Value):Prop :=
 (v=.slice none 0 0∧n=0∧xs=[])∨∃ ad c,v=.slice (some ad) n c∧n≤c∧∀ j u,xs[j]?=some u→w.cell? (ad.add j)=some u
theorem holds_of {w:World} {B:Nat} {e:TypeId} {s:Nat} {v:Value} {n:Nat} {xs:List Value} (h:w.ownsRow B e s v n xs):Holds w v n xs:=by
 rcases h.2 with ⟨rfl,h0⟩ | ⟨g,cap,cur,rfl,_,_,hnc,_⟩
 ·exact .inl ⟨rfl,h0,List.eq_nil_of_length_eq_zero (by rw[h.1,h0,Nat.zero_mul])⟩
 ·exact .inr ⟨⟨g,0,none⟩,cap,rfl,hnc,h.cells (g:=g) rfl⟩
theorem Holds.keep {w w':World} {v:Value} {n:Nat} {xs:List Value} (h:Holds w v n xs) (hk:∀ k,k<w.heap.size→w'.heap[k]?=w.heap[k]?):Holds w' v n xs:=by
 rcases h with h | ⟨ad,c,hv,hnc,hc⟩
 ·exact .inl h
 ·refine .inr ⟨ad,c,hv,hnc,fun j u hj=>?_⟩
  have h1:=hc j u hj
  have hlt:=World.block_lt_of_cell? w _ h1
  rw[World.cell?_of_block (w:=w) (hk _ hlt)]
  exact h1
theorem Holds.form {w:World} {v:Value} {n:Nat} {xs:List Value} (h:Holds w v n xs):∃ ao c,v=.slice ao n c:=by
 rcases h with ⟨rfl,rfl,rfl⟩ | ⟨ad,c,rfl,_⟩
 ·exact⟨_,_,rfl⟩
 ·exact⟨_,_,rfl⟩
theorem Holds.at {w:World} {v:Value} {n:Nat} {xs:List Value} (h:Holds w v n xs) (h0:0<xs.length):∃ b off c,v=.slice (some ⟨b,off,none⟩) n c∧b<w.heap.size∧∀ j (hj:j<xs.length),w.cell? ⟨b,off+j,none⟩=some xs[j]:=by
 rcases h with ⟨_,_,rfl⟩ | ⟨ad,c,rfl,_,hc⟩
 ·simp at h0
 ·obtain⟨b,off,rfl⟩:=addr_of (hc 0 _ (List.getElem?_eq_getElem h0))
  refine⟨b,off,c,rfl,World.block_lt_of_cell? w _ (hc 0 _ (List.getElem?_eq_getElem h0)),fun j hj=>?_⟩
  have:=hc j _ (List.getElem?_eq_getElem hj)
  rw[add_none] at this
  exact this
theorem Holds.nil (w:World):Holds w (.slice none 0 0) 0 []:=.inl ⟨rfl,rfl,rfl⟩
theorem Zcg (l:List Ch):(chcells l).length=l.length * 4:=by
 induction l with
 | nil=>rfl
 | cons c l ih=>simp only[chcells,List.flatMap_cons,List.length_append,List.length_cons] at ih ⊢;rw[ih];simp[chC];omega
theorem ZjF (l:List Rn):(rncells l).length=l.length * 3:=by
 induction l with
 | nil=>rfl
 | cons c l ih=>simp only[rncells,List.flatMap_cons,List.length_append,List.length_cons] at ih ⊢;rw[ih];simp[rnC];omega
theorem icells_length (l:List Int):(icells l).length=l.length:=by simp[icells]
theorem scells_length (l:List (List UInt8)):(scells l).length=l.length:=by simp[scells]
theorem Zce (a b:List Ch):chcells (a++b)=chcells a++chcells b:=by simp[chcells]
theorem ZjD (a b:List Rn):rncells (a++b)=rncells a++rncells b:=by simp[rncells]
theorem icells_append (a b:List Int):icells (a++b)=icells a++icells b:=by simp[icells]
theorem Zch (l:List Ch):∀ u∈chcells l,u.oneCell'=true:=by
 intro u hu
 simp only[chcells,List.mem_flatMap,chC] at hu
 obtain⟨c,_,h⟩:=hu
 simp only[List.mem_cons,List.not_mem_nil,or_false] at h
 rcases h with rfl | rfl | rfl | rfl<;>rfl
theorem ZjG (l:List Rn):∀ u∈rncells l,u.oneCell'=true:=by
 intro u hu
 simp only[rncells,List.mem_flatMap,rnC] at hu
 obtain⟨c,_,h⟩:=hu
 simp only[List.mem_cons,List.not_mem_nil,or_false] at h
 rcases h with rfl | rfl | rfl<;>rfl
theorem icells_one (l:List Int):∀ u∈icells l,u.oneCell'=true:=by
 intro u hu
 simp only[icells,List.mem_map] at hu
 obtain⟨a,_,rfl⟩:=hu
 rfl
theorem Zcf (l:List Ch) (k:Nat) (hk:k<l.length):(chcells l)[4 * k]?=some (.int .i64 l[k].A)∧(chcells l)[4 * k+1]?=some (.int .i64 l[k].AN)∧(chcells l)[4 * k+2]?=some (.int .i64 l[k].B)∧(chcells l)[4 * k+3]?=some (.int .i64 l[k].BN):=by
 induction l generalizing k with
 | nil=>simp at hk
 | cons c l ih =>
  cases k with
  | zero=>simp[chcells,chC]
  | succ k =>
   have h:=ih k (by simpa using hk)
   have e:∀ i,(chcells (c::l))[4 * (k+1)+i]?=(chcells l)[4 * k+i]?:=by
    intro i
    have:chcells (c::l)=chC c++chcells l:=rfl
    rw[this,List.getElem?_append_right (by simp[chC];omega)]
    congr 1
    simp[chC];omega
   simp only[List.getElem_cons_succ]
   refine⟨by rw[← (h).1];exact e 0,by rw[← h.2.1];exact e 1,by rw[← h.2.2.1];exact e 2,by rw[← h.2.2.2];exact e 3⟩
theorem ZjE (l:List Rn) (k:Nat) (hk:k<l.length):(rncells l)[3 * k]?=some (.int .i64 l[k].a)∧(rncells l)[3 * k+1]?=some (.int .i64 l[k].b)∧(rncells l)[3 * k+2]?=some (.int .i64 l[k].n):=by
 induction l generalizing k with
 | nil=>simp at hk
 | cons c l ih =>
  cases k with
  | zero=>simp[rncells,rnC]
  | succ k =>
   have h:=ih k (by simpa using hk)
   have e:∀ i,(rncells (c::l))[3 * (k+1)+i]?=(rncells l)[3 * k+i]?:=by
    intro i
    have:rncells (c::l)=rnC c++rncells l:=rfl
    rw[this,List.getElem?_append_right (by simp[rnC];omega)]
    congr 1
    simp[rnC];omega
   simp only[List.getElem_cons_succ]
   refine⟨by rw[← (h).1];exact e 0,by rw[← h.2.1];exact e 1,by rw[← h.2.2];exact e 2⟩
def HCh (w:World) (v:Value) (l:List Ch):Prop:=Holds w v l.length (chcells l)
def HRn (w:World) (v:Value) (l:List Rn):Prop:=Holds w v l.length (rncells l)
def HI (w:World) (v:Value) (l:List Int):Prop:=Holds w v l.length (icells l)
def HS (w:World) (v:Value) (l:List (List UInt8)):Prop:=Holds w v l.length (scells l)
theorem HCh.keep {w w':World} {v:Value} {l:List Ch} (h:HCh w v l) {N:Nat} (hk:Below N w w') (hN:w.heap.size≤N):HCh w' v l:=Holds.keep h fun k hk'=>hk.block k (by omega)
theorem HRn.keep {w w':World} {v:Value} {l:List Rn} (h:HRn w v l) {N:Nat} (hk:Below N w w') (hN:w.heap.size≤N):HRn w' v l:=Holds.keep h fun k hk'=>hk.block k (by omega)
theorem HI.keep {w w':World} {v:Value} {l:List Int} (h:HI w v l) {N:Nat} (hk:Below N w w') (hN:w.heap.size≤N):HI w' v l:=Holds.keep h fun k hk'=>hk.block k (by omega)
theorem HS.keep {w w':World} {v:Value} {l:List (List UInt8)} (h:HS w v l) {N:Nat} (hk:Below N w w') (hN:w.heap.size≤N):HS w' v l:=Holds.keep h fun k hk'=>hk.block k (by omega)
theorem HCh.at {w:World} {ao:Option Addr} {n c:Nat} {l:List Ch} (h:HCh w (.slice ao n c) l) (h0:0<l.length):∃ b off,ao=some ⟨b,off,none⟩∧b<w.heap.size ∧
  ∀ k (hk:k<l.length),w.cell? ⟨b,off+k * 4,none⟩=some (.int .i64 l[k].A)∧w.cell? ⟨b,off+k * 4+1,none⟩=some (.int .i64 l[k].AN)∧w.cell? ⟨b,off+k * 4+2,none⟩=some (.int .i64 l[k].B)∧w.cell? ⟨b,off+k * 4+3,none⟩=some (.int .i64 l[k].BN):=by
 obtain⟨b,off,c',hv,hb,hc⟩:=Holds.at h (by rw[Zcg];omega)
 cases hv
 refine⟨b,off,rfl,hb,fun k hk=>?_⟩
 obtain⟨h0,h1,h2,h3⟩:=Zcf l k hk
 have hlen:=Zcg l
 have e:k * 4=4 * k:=by omega
 rw[e]
 refine⟨?_,?_,?_,?_⟩
 ·have:=hc (4 * k) (by omega)
  rw[← h0,this,List.getElem?_eq_getElem]
 ·have:=hc (4 * k+1) (by omega)
  rw[← h1,Nat.add_assoc,this,List.getElem?_eq_getElem]
 ·have:=hc (4 * k+2) (by omega)
  rw[← h2,Nat.add_assoc,this,List.getElem?_eq_getElem]
 ·have:=hc (4 * k+3) (by omega)
  rw[← h3,Nat.add_assoc,this,List.getElem?_eq_getElem]
theorem HRn.at {w:World} {ao:Option Addr} {n c:Nat} {l:List Rn} (h:HRn w (.slice ao n c) l) (h0:0<l.length):∃ b off,ao=some ⟨b,off,none⟩∧b<w.heap.size ∧
  ∀ k (hk:k<l.length),w.cell? ⟨b,off+k * 3,none⟩=some (.int .i64 l[k].a)∧w.cell? ⟨b,off+k * 3+1,none⟩=some (.int .i64 l[k].b)∧w.cell? ⟨b,off+k * 3+2,none⟩=some (.int .i64 l[k].n):=by
 obtain⟨b,off,c',hv,hb,hc⟩:=Holds.at h (by rw[ZjF];omega)
 cases hv
 refine⟨b,off,rfl,hb,fun k hk=>?_⟩
 obtain⟨h0,h1,h2⟩:=ZjE l k hk
 have hlen:=ZjF l
 have e:k * 3=3 * k:=by omega
 rw[e]
 refine⟨?_,?_,?_⟩
 ·have:=hc (3 * k) (by omega)
  rw[← h0,this,List.getElem?_eq_getElem]
 ·have:=hc (3 * k+1) (by omega)
  rw[← h1,Nat.add_assoc,this,List.getElem?_eq_getElem]
 ·have:=hc (3 * k+2) (by omega)
  rw[← h2,Nat.add_assoc,this,List.getElem?_eq_getElem]
theorem HI.at {w:World} {ao:Option Addr} {n c:Nat} {l:List Int} (h:HI w (.slice ao n c) l) (h0:0<l.length):∃ b off,ao=some ⟨b,off,none⟩∧b<w.heap.size ∧
  ∀ k (hk:k<l.length),w.cell? ⟨b,off+k,none⟩=some (.int .i64 l[k]):=by
 obtain⟨b,off,c',hv,hb,hc⟩:=Holds.at h (by rw[icells_length];omega)
 cases hv
 exact⟨b,off,rfl,hb,fun k hk=>by rw[hc k (by rw[icells_length];exact hk)];simp[icells]⟩
theorem HS.at {w:World} {ao:Option Addr} {n c:Nat} {l:List (List UInt8)} (h:HS w (.slice ao n c) l) (h0:0<l.length):∃ b off,ao=some ⟨b,off,none⟩∧b<w.heap.size ∧
  ∀ k (hk:k<l.length),w.cell? ⟨b,off+k,none⟩=some (.string ⟨l[k].toArray⟩):=by
 obtain⟨b,off,c',hv,hb,hc⟩:=Holds.at h (by rw[scells_length];omega)
 cases hv
 exact⟨b,off,rfl,hb,fun k hk=>by rw[hc k (by rw[scells_length];exact hk)];simp[scells]⟩
end

section
def nat31 (z:Int):Bool:=decide (0≤z) && decide (z≤2147483647)
def numB (c:Ch):Bool:=nat31 c.A && nat31 c.AN && nat31 c.B && nat31 c.BN && (decide (0<c.AN) || decide (0<c.BN))
theorem ZhO (c:Ch):numB c=true↔(0≤c.A∧c.A≤2147483647)∧(0≤c.AN∧c.AN≤2147483647)∧(0≤c.B∧c.B≤2147483647)∧(0≤c.BN∧c.BN≤2147483647)∧(0<c.AN∨0<c.BN):=by
 simp[numB,nat31,and_assoc]
def Right:Bool→Int→Int→Int→Int→List Ch→Prop
 | _,a,b,n,m,[]=>a≤n∧b≤m∧n-a=m-b
 | f,a,b,n,m,c::l=>(numB c=true∧c.A-a=c.B-b∧a≤c.A∧(f=true∨a<c.A))∧Right false (c.A+c.AN) (c.B+c.BN) n m l
def decRight:(f:Bool)→(a b n m:Int)→(l:List Ch)→Decidable (Right f a b n m l)
 | _,a,b,n,m,[]=>inferInstanceAs (Decidable (a≤n∧b≤m∧n-a=m-b))
 | f,a,b,n,m,c::l =>
  have _:=decRight false (c.A+c.AN) (c.B+c.BN) n m l
  inferInstanceAs (Decidable ((numB c=true∧c.A-a=c.B-b∧a≤c.A∧(f=true∨a<c.A))∧Right false (c.A+c.AN) (c.B+c.BN) n m l))
theorem Right.le {f:Bool} {a b n m:Int} {l:List Ch} (h:Right f a b n m l):a≤n∧b≤m∧n-a-(m-b)=n-a-(m-b):=by
 induction l generalizing f a b with
 | nil=>exact⟨h.1,h.2.1,rfl⟩
 | cons c l ih =>
  obtain⟨⟨h1,h2,h3,h4⟩,h5⟩:=h
  rw[ZhO] at h1
  have:=ih h5
  refine⟨by omega,by omega,rfl⟩
def Script (l:List Ch) (n m:Int):Prop:=0≤n∧0≤m∧Right true 0 0 n m l
def decScript (l:List Ch) (n m:Int):Decidable (Script l n m) :=
 have _:=decRight true 0 0 n m l
 inferInstanceAs (Decidable (0≤n∧0≤m∧Right true 0 0 n m l))
def chk (l:List Ch) (n m:Int):Int:=@ite Int (Script l n m) (decScript l n m) 0 50
theorem Zcj {l:List Ch} {n m:Int} (h:Script l n m):chk l n m=0:=if_pos h
theorem Zci {l:List Ch} {n m:Int} (h:¬ Script l n m):chk l n m=50:=if_neg h
def piecesL:Int→Int→Int→Int→List Ch→List (Rn × Ch)
 | a,b,n,m,[]=>[(⟨a,b,n-a⟩,⟨n,0,m,0⟩)]
 | a,b,n,m,c::l=>(⟨a,b,c.A-a⟩,c)::piecesL (c.A+c.AN) (c.B+c.BN) n m l
def Pc (n m:Int) (x:Rn × Ch):Prop :=
 0≤x.1.a∧0≤x.1.b∧0≤x.1.n∧x.1.a+x.1.n≤n∧x.1.b+x.1.n≤m∧0≤x.2.B∧0≤x.2.BN∧x.2.B+x.2.BN≤m∧0≤x.2.AN∧x.2.AN≤n
theorem Right.pc {f:Bool} {a b n m:Int} {c:Ch} {l:List Ch} (h:Right f a b n m (c::l)) (ha:0≤a) (hb:0≤b):Pc n m (⟨a,b,c.A-a⟩,c):=by
 obtain⟨⟨h1,h2,h3,h4⟩,h5⟩:=h
 rw[ZhO] at h1
 have:=h5.le
 refine⟨ha,hb,?_,?_,?_,?_,?_,?_,?_,?_⟩<;>dsimp only<;>omega
theorem Right.pcEnd {f:Bool} {a b n m:Int} (h:Right f a b n m []) (ha:0≤a) (hb:0≤b):Pc n m (⟨a,b,n-a⟩,⟨n,0,m,0⟩):=by
 obtain⟨h1,h2,h3⟩:=h
 refine⟨ha,hb,?_,?_,?_,?_,?_,?_,?_,?_⟩<;>dsimp only<;>omega
def pk (x:Rn × Ch):List Int:=(List.range x.1.n.toNat).map (fun (i:Nat)=>x.1.b+(i:Int))++List.replicate x.2.AN.toNat (-1)
def keepL (l:List Ch) (n m:Int):List Int:=(piecesL 0 0 n m l).flatMap pk
def cut (A:List (List UInt8)) (i n:Int):List (List UInt8):=(A.drop i.toNat).take n.toNat
def pa (A B:List (List UInt8)) (x:Rn × Ch):List (List UInt8):=cut A x.1.a x.1.n++cut B x.2.B x.2.BN
def applyL (l:List Ch) (A B:List (List UInt8)):List (List UInt8):=(piecesL 0 0 A.length B.length l).flatMap (pa A B)
end

section
def un (a b:Int):Nat→List Rn
 | 0=>[]
 | k+1=>⟨a,b,1⟩::un (a+1) (b+1) k
def ex (r:Rn):List Rn:=un r.a r.b r.n.toNat
def exs (rs:List Rn):List Rn:=rs.flatMap ex
theorem ZdH (r:Rn) (rs:List Rn):exs (r::rs)=ex r++exs rs:=rfl
theorem Zhw {a b:Int} {k:Nat} {r:Rn}:r∈un a b k↔r.n=1∧a≤r.a∧r.a<a+k∧r.b-r.a=b-a:=by
 induction k generalizing a b with
 | zero=>simp[un];omega
 | succ k ih =>
  rw[un,List.mem_cons,ih]
  constructor
  ·rintro (rfl | h)
   ·simp;omega
   ·omega
  ·rintro⟨h1,h2,h3,h4⟩
   by_cases h:r.a=a
   ·left
    obtain⟨x,y,z⟩:=r
    simp only at *
    subst h h1
    have:y=b:=by omega
    rw[this]
   ·right
    omega
theorem Zhr {p r:Rn}:r∈ex p↔r.n=1∧p.a≤r.a∧r.a<p.a+p.n.toNat∧r.b-r.a=p.b-p.a:=Zhw
def Chain:Int→Int→List Rn→Prop
 | _,_,[]=>True
 | a,b,r::rs=>a≤r.a∧b≤r.b∧0≤r.n∧Chain (r.a+r.n) (r.b+r.n) rs
theorem Chain.low {a b:Int} {rs:List Rn} (h:Chain a b rs):∀ r∈exs rs,r.n=1∧a≤r.a∧b≤r.b:=by
 induction rs generalizing a b with
 | nil=>simp[exs]
 | cons p rs ih =>
  obtain⟨h1,h2,h3,h4⟩:=h
  intro r hr
  rw[ZdH,List.mem_append,Zhr] at hr
  rcases hr with hr | hr
  ·omega
  ·have:=ih h4 r hr
   omega
theorem Chain.mono {a b a' b':Int} {rs:List Rn} (h:Chain a b rs) (ha:a'≤a) (hb:b'≤b):Chain a' b' rs:=by
 cases rs with
 | nil=>trivial
 | cons p rs=>exact⟨by have:=h.1;omega,by have:=h.2.1;omega,h.2.2⟩
def Up (l:List Rn):Prop:=l.Pairwise fun p q=>p.a<q.a∧p.b<q.b
theorem Zml (a b:Int) (k:Nat):Up (un a b k):=by
 induction k generalizing a b with
 | zero=>exact List.Pairwise.nil
 | succ k ih =>
  refine List.Pairwise.cons (fun r hr=>?_) (ih _ _)
  rw[Zhw] at hr
  dsimp only
  omega
theorem Chain.up {a b:Int} {rs:List Rn} (h:Chain a b rs):Up (exs rs):=by
 induction rs generalizing a b with
 | nil=>exact List.Pairwise.nil
 | cons p rs ih =>
  obtain⟨h1,h2,h3,h4⟩:=h
  rw[ZdH]
  refine List.pairwise_append.2 ⟨Zml _ _ _,ih h4,fun r hr q hq=>?_⟩
  rw[Zhr] at hr
  have:=h4.low q hq
  omega
def betw:Int→Int→List Rn→List Ch
 | _,_,[]=>[]
 | a,b,r::rs=>if a<r.a∨b<r.b then ⟨a,r.a-a,b,r.b-b⟩::betw (r.a+r.n) (r.b+r.n) rs else betw (r.a+r.n) (r.b+r.n) rs
def rns (a b n m:Int) (l:List Ch):List Rn:=(piecesL a b n m l).map (·.1)
def U (a b n m:Int) (l:List Ch):List Rn:=exs (rns a b n m l)
theorem ZaT (a b n m:Int):U a b n m []=un a b (n-a).toNat:=by simp[U,rns,piecesL,exs,ex]
theorem ZaS (a b n m:Int) (c:Ch) (l:List Ch):U a b n m (c::l)=un a b (c.A-a).toNat++U (c.A+c.AN) (c.B+c.BN) n m l:=by
 simp[U,rns,piecesL,exs,ex]
theorem Right.chain {f:Bool} {a b n m:Int} {l:List Ch} (h:Right f a b n m l):Chain a b (rns a b n m l):=by
 induction l generalizing f a b with
 | nil =>
  obtain⟨h1,h2,h3⟩:=h
  exact⟨Int.le_refl _,Int.le_refl _,by dsimp only;omega,trivial⟩
 | cons c l ih =>
  obtain⟨⟨h1,h2,h3,h4⟩,h5⟩:=h
  rw[ZhO] at h1
  refine⟨Int.le_refl _,Int.le_refl _,by dsimp only;omega,(ih h5).mono ?_ ?_⟩<;>dsimp only<;>omega
theorem Right.up {f:Bool} {a b n m:Int} {l:List Ch} (h:Right f a b n m l):Up (U a b n m l):=h.chain.up
theorem Right.first {a b n m:Int} {l:List Ch} (h:Right false a b n m l):∃ e t,U a b n m l++[⟨n,m,0⟩]=e::t∧e.a=a∧e.b=b:=by
 cases l with
 | nil =>
  obtain⟨h1,h2,h3⟩:=h
  rw[ZaT]
  by_cases hn:n=a
  ·subst hn
   exact⟨⟨n,m,0⟩,[],by simp[un],rfl,by dsimp only;omega⟩
  ·obtain⟨k,hk⟩:∃ k:Nat,(n-a).toNat=k+1:=⟨(n-a).toNat-1,by omega⟩
   rw[hk,un]
   exact⟨_,_,rfl,rfl,rfl⟩
 | cons c l =>
  obtain⟨⟨h1,h2,h3,h4⟩,h5⟩:=h
  have hlt:a<c.A:=by simpa using h4
  rw[ZaS]
  obtain⟨k,hk⟩:∃ k:Nat,(c.A-a).toNat=k+1:=⟨(c.A-a).toNat-1,by omega⟩
  rw[hk,un]
  exact⟨_,_,rfl,rfl,rfl⟩
end

section
def Fit:Int→Int→Int→Int→List Rn→Prop
 | a,b,n,m,[]=>a≤n∧b≤m
 | a,b,n,m,r::P=>a≤r.a∧b≤r.b∧r.n=1∧Fit (r.a+1) (r.b+1) n m P
theorem Fit.le {a b n m:Int} {P:List Rn} (h:Fit a b n m P):a≤n∧b≤m:=by
 induction P generalizing a b with
 | nil=>exact h
 | cons r P ih=>have:=ih h.2.2.2;have h1:=h.1;have h2:=h.2.1;omega
theorem Zjx {x y n m:Int} {l:List Ch} (h:Right true (x+1) (y+1) n m l):(∀ f,Right f x y n m l)∧U x y n m l=⟨x,y,1⟩::U (x+1) (y+1) n m l:=by
 cases l with
 | nil =>
  obtain⟨h1,h2,h3⟩:=h
  refine⟨fun f=>⟨by omega,by omega,by omega⟩,?_⟩
  rw[ZaT,ZaT,show (n-x).toNat=(n-(x+1)).toNat+1 by omega,un]
 | cons c l =>
  obtain⟨⟨h1,h2,h3,h4⟩,h5⟩:=h
  refine⟨fun f=>⟨⟨h1,by omega,by omega,.inr (by omega)⟩,h5⟩,?_⟩
  rw[ZaS,ZaS,show (c.A-x).toNat=(c.A-(x+1)).toNat+1 by omega,un,List.cons_append]
theorem Zea {a b n m:Int} {P:List Rn} (h:Fit a b n m P) (ha:0≤a) (hb:0≤b) (hn:n≤2147483647) (hm:m≤2147483647) :
  Right true a b n m (betw a b (P++[⟨n,m,0⟩]))∧U a b n m (betw a b (P++[⟨n,m,0⟩]))=P:=by
 induction P generalizing a b with
 | nil =>
  obtain⟨h1,h2⟩:=h
  rw[List.nil_append,betw]
  dsimp only
  split
  ·rw[betw]
   refine⟨⟨⟨by rw[ZhO];dsimp only;omega,by dsimp only;omega,by dsimp only;omega,.inl rfl⟩,⟨by dsimp only;omega,by dsimp only;omega,by dsimp only;omega⟩⟩,?_⟩
   rw[ZaS,ZaT]
   dsimp only
   rw[show (a-a).toNat=0 by omega,show (n-(a+(n-a))).toNat=0 by omega]
   rfl
  ·rw[betw]
   refine⟨⟨h1,h2,by omega⟩,?_⟩
   rw[ZaT,show (n-a).toNat=0 by omega]
   rfl
 | cons r P ih =>
  obtain⟨x,y,z⟩:=r
  obtain⟨h1,h2,h3,h4⟩:=h
  dsimp only at h1 h2 h3 h4
  subst h3
  obtain⟨i1,i2⟩:=ih h4 (by omega) (by omega)
  obtain⟨s1,s2⟩:=Zjx i1
  have hle:=h4.le
  rw[List.cons_append,betw]
  dsimp only
  split
  ·refine⟨⟨⟨by rw[ZhO];dsimp only;omega,by dsimp only;omega,by dsimp only;omega,.inl rfl⟩,?_⟩,?_⟩
   ·dsimp only
    rw[show a+(x-a)=x by omega,show b+(y-b)=y by omega]
    exact s1 false
   ·rw[ZaS]
    dsimp only
    rw[show a+(x-a)=x by omega,show b+(y-b)=y by omega,s2,i2,show (a-a).toNat=0 by omega]
    rfl
  ·obtain rfl:x=a:=by omega
   obtain rfl:y=b:=by omega
   refine⟨s1 true,?_⟩
   rw[s2,i2]
theorem Right.bounds {f:Bool} {a b n m:Int} {l:List Ch} (h:Right f a b n m l):∀ r∈U a b n m l,r.n=1∧a≤r.a∧r.a<n∧b≤r.b∧r.b<m:=by
 induction l generalizing f a b with
 | nil =>
  obtain⟨h1,h2,h3⟩:=h
  intro r hr
  rw[ZaT,Zhw] at hr
  omega
 | cons c l ih =>
  obtain⟨⟨h1,h2,h3,h4⟩,h5⟩:=h
  rw[ZhO] at h1
  have hle:=h5.le
  intro r hr
  rw[ZaS,List.mem_append,Zhw] at hr
  rcases hr with hr | hr
  ·omega
  ·have:=ih h5 r hr
   omega
def keptR:Int→List Int→List Rn
 | _,[]=>[]
 | i,z::t=>if z=-1 then keptR (i+1) t else ⟨i,z,1⟩::keptR (i+1) t
theorem ZfQ (i:Int) (X Y:List Int):keptR i (X++Y)=keptR i X++keptR (i+X.length) Y:=by
 induction X generalizing i with
 | nil=>simp[keptR]
 | cons z t ih =>
  rw[List.cons_append,keptR,keptR,ih]
  rw[show i+1+(t.length:Int)=i+((z::t).length:Int) by simp;omega]
  split<;>simp
theorem ZfR (i:Int) (k:Nat):keptR i (List.replicate k (-1))=[]:=by
 induction k generalizing i with
 | zero=>rfl
 | succ k ih=>rw[List.replicate_succ,keptR,if_pos rfl,ih]
theorem ZfS (i b:Int) (hb:0≤b) (k:Nat):keptR i ((List.range k).map fun (j:Nat)=>b+(j:Int))=un i b k:=by
 induction k generalizing i b with
 | zero=>rfl
 | succ k ih =>
  rw[List.range_succ_eq_map,List.map_cons,List.map_map,keptR,if_neg (by simp;omega),un]
  have:=ih (i+1) (b+1) (by omega)
  rw[← this]
  simp only[Int.natCast_zero,Int.add_zero]
  congr 2
  apply List.map_congr_left
  intro j _
  simp
  omega
theorem Zhs {i:Int} {K:List Int} {r:Rn}:r∈keptR i K↔r.n=1∧i≤r.a∧K[(r.a-i).toNat]?=some r.b∧r.b≠-1:=by
 induction K generalizing i with
 | nil=>simp[keptR]
 | cons z t ih =>
  rw[keptR]
  have key:(r.n=1∧i+1≤r.a∧t[(r.a-(i+1)).toNat]?=some r.b∧r.b≠-1)↔(r.n=1∧i+1≤r.a∧(z::t)[(r.a-i).toNat]?=some r.b∧r.b≠-1):=by
   by_cases h:i+1≤r.a
   ·rw[show (r.a-i).toNat=(r.a-(i+1)).toNat+1 by omega,List.getElem?_cons_succ]
   ·constructor<;>(intro h1;omega)
  split
  ·rename_i hz
   rw[ih,key]
   constructor
   ·rintro⟨h1,h2,h3,h4⟩
    exact⟨h1,by omega,h3,h4⟩
   ·rintro⟨h1,h2,h3,h4⟩
    refine⟨h1,?_,h3,h4⟩
    by_cases h:r.a=i
    ·rw[show (r.a-i).toNat=0 by omega,List.getElem?_cons_zero,Option.some_inj] at h3
     omega
    ·omega
  ·rename_i hz
   rw[List.mem_cons,ih,key]
   constructor
   ·rintro (rfl | ⟨h1,h2,h3,h4⟩)
    ·simp[hz]
    ·exact⟨h1,by omega,h3,h4⟩
   ·rintro⟨h1,h2,h3,h4⟩
    by_cases h:r.a=i
    ·left
     rw[show (r.a-i).toNat=0 by omega,List.getElem?_cons_zero,Option.some_inj] at h3
     obtain⟨x,y,w⟩:=r
     dsimp only at *
     rw[h,h1,h3]
    ·exact .inr ⟨h1,by omega,h3,h4⟩
def UpA (l:List Rn):Prop:=l.Pairwise fun p q=>p.a<q.a
theorem Up.a {l:List Rn} (h:Up l):UpA l:=h.imp fun h=>h.1
def kr (a b n m:Int) (l:List Ch):List Int:=(piecesL a b n m l).flatMap pk
theorem Zgq (a b n m:Int):kr a b n m []=(List.range (n-a).toNat).map fun (j:Nat)=>b+(j:Int):=by simp[kr,piecesL,pk]
theorem Zgn (a b n m:Int) (c:Ch) (l:List Ch):kr a b n m (c::l)=((List.range (c.A-a).toNat).map fun (j:Nat)=>b+(j:Int))++List.replicate c.AN.toNat (-1)++kr (c.A+c.AN) (c.B+c.BN) n m l:=by
 simp[kr,piecesL,pk]
theorem Zgp {f:Bool} {a b n m:Int} {l:List Ch} (h:Right f a b n m l):(kr a b n m l).length=(n-a).toNat:=by
 induction l generalizing f a b with
 | nil=>rw[Zgq];simp
 | cons c l ih =>
  obtain⟨⟨h1,h2,h3,h4⟩,h5⟩:=h
  rw[ZhO] at h1
  have hle:=h5.le
  rw[Zgn]
  simp only[List.length_append,List.length_map,List.length_range,List.length_replicate,ih h5]
  omega
theorem Zgo {f:Bool} {a b n m:Int} {l:List Ch} (h:Right f a b n m l) (hb:0≤b):keptR a (kr a b n m l)=U a b n m l:=by
 induction l generalizing f a b with
 | nil=>rw[Zgq,ZaT,ZfS _ _ hb]
 | cons c l ih =>
  obtain⟨⟨h1,h2,h3,h4⟩,h5⟩:=h
  rw[ZhO] at h1
  rw[Zgn,ZaS,ZfQ,ZfQ,ZfS _ _ hb,ZfR,List.append_nil]
  simp only[List.length_append,List.length_map,List.length_range,List.length_replicate]
  rw[show a+(((c.A-a).toNat+c.AN.toNat:Nat):Int)=c.A+c.AN by omega,ih h5 (by omega)]
theorem ZfU {i:Int} {K L:List Int} (hl:K.length=L.length) (h:keptR i K=keptR i L):K=L:=by
 apply List.ext_getElem? 
 intro k
 by_cases hk:k<K.length
 ·have hk':k<L.length:=by omega
  rw[List.getElem?_eq_getElem hk,List.getElem?_eq_getElem hk',Option.some_inj]
  have h1:∀ z,z≠-1→(K[k]?=some z↔L[k]?=some z):=by
   intro z hz
   have m1:=Zhs (i:=i) (K:=K) (r:=⟨i+k,z,1⟩)
   have m2:=Zhs (i:=i) (K:=L) (r:=⟨i+k,z,1⟩)
   dsimp only at m1 m2
   rw[show (i+(k:Int)-i).toNat=k by omega] at m1 m2
   rw[h,m2] at m1
   constructor
   ·intro h3
    exact (m1.2 ⟨rfl,by omega,h3,hz⟩).2.2.1
   ·intro h3
    exact (m1.1 ⟨rfl,by omega,h3,hz⟩).2.2.1
  by_cases e:K[k]=-1
  ·by_cases e2:L[k]=-1
   ·rw[e,e2]
   ·have:=(h1 L[k] e2).2 (List.getElem?_eq_getElem hk')
    rw[List.getElem?_eq_getElem hk,Option.some_inj] at this
    exact this
  ·have:=(h1 K[k] e).1 (List.getElem?_eq_getElem hk)
   rw[List.getElem?_eq_getElem hk',Option.some_inj] at this
   exact this.symm
 ·rw[List.getElem?_eq_none (by omega),List.getElem?_eq_none (by omega)]
def Vk:Int→Int→List Int→Prop
 | _,_,[]=>True
 | nx,m,z::t=>(z=-1∧Vk nx m t)∨(z≠-1∧nx≤z∧z<m∧Vk (z+1) m t)
theorem Vk.fit {nx m i:Int} {K:List Int} (h:Vk nx m K) (hm:nx≤m):Fit i nx (i+K.length) m (keptR i K):=by
 have wk:∀ {a b n m:Int} {P:List Rn},Fit (a+1) b n m P→Fit a b n m P:=by
  intro a b n m P h
  cases P with
  | nil=>exact⟨by have:=h.1;omega,h.2⟩
  | cons r P=>exact⟨by have:=h.1;omega,h.2⟩
 induction K generalizing nx i with
 | nil=>exact⟨by simp,hm⟩
 | cons z t ih =>
  rw[keptR]
  rcases h with ⟨rfl,h⟩ | ⟨hz,h1,h2,h3⟩
  ·rw[if_pos rfl]
   have:=ih h hm (i:=i+1)
   rw[show i+1+(t.length:Int)=i+((-1::t).length:Int) by simp;omega] at this
   exact wk this
  ·rw[if_neg hz]
   have:=ih h3 (by omega) (i:=i+1)
   rw[show i+1+(t.length:Int)=i+((z::t).length:Int) by simp;omega] at this
   exact⟨Int.le_refl _,h1,rfl,this⟩
theorem Vk.each {nx m:Int} {K:List Int} (h:Vk nx m K) (h0:0≤nx):∀ z∈K,z=-1∨0≤z:=by
 induction K generalizing nx with
 | nil=>simp
 | cons y t ih =>
  intro z hz
  rw[List.mem_cons] at hz
  rcases h with ⟨rfl,h⟩ | ⟨hy,h1,h2,h3⟩
  ·rcases hz with rfl | hz
   ·exact .inl rfl
   ·exact ih h h0 z hz
  ·rcases hz with rfl | hz
   ·right;omega
   ·exact ih h3 (by omega) z hz
end

section
section
variable {x y:List Ch} {n m k:Int}
end
end

section
theorem Zdi {A B:List (List UInt8)} {a b:Int} {k:Nat} (ha:0≤a) (hb:0≤b) (h:∀ r∈un a b k,A[r.a.toNat]?=B[r.b.toNat]?):cut A a k=cut B b k:=by
 apply List.ext_getElem?
 intro j
 simp only[cut,Int.toNat_natCast,List.getElem?_take,List.getElem?_drop]
 split
 ·have:=h ⟨a+j,b+j,1⟩ (by rw[Zhw];dsimp only;omega)
  dsimp only at this
  rw[show a.toNat+j=(a+(j:Int)).toNat by omega,show b.toNat+j=(b+(j:Int)).toNat by omega]
  exact this
 ·rfl
theorem Zdq {B:List (List UInt8)} {b:Int} {k:Nat} (hb:0≤b):cut B b k++B.drop (b+k).toNat=B.drop b.toNat:=by
 rw[cut,Int.toNat_natCast,show (b+(k:Int)).toNat=b.toNat+k by omega,← List.drop_drop,List.take_append_drop]
theorem reach {A B:List (List UInt8)} {f:Bool} {a b:Int} {l:List Ch} (h:Right f a b A.length B.length l) (ha:0≤a) (hb:0≤b) (hs:∀ r∈U a b A.length B.length l,A[r.a.toNat]?=B[r.b.toNat]?) :
  (piecesL a b A.length B.length l).flatMap (pa A B)=B.drop b.toNat:=by
 induction l generalizing f a b with
 | nil =>
  obtain⟨h1,h2,h3⟩:=h
  rw[ZaT] at hs
  simp only[piecesL,List.flatMap_cons,List.flatMap_nil,List.append_nil,pa]
  obtain⟨k,hk⟩:∃ k:Nat,(A.length:Int)-a=k:=⟨((A.length:Int)-a).toNat,by omega⟩
  rw[hk,Int.toNat_natCast] at hs
  rw[hk,Zdi ha hb hs]
  have e:cut B (B.length:Int) 0=[]:=by simp[cut]
  rw[e,List.append_nil]
  have:=Zdq (B:=B) (k:=k) hb
  rw[← this,List.drop_of_length_le (by omega),List.append_nil]
 | cons c l ih =>
  obtain⟨⟨h1,h2,h3,h4⟩,h5⟩:=h
  rw[ZhO] at h1
  rw[ZaS] at hs
  have hi:=ih h5 (by omega) (by omega) fun r hr=>hs r (List.mem_append_right _ hr)
  simp only[piecesL,List.flatMap_cons,pa]
  rw[hi]
  obtain⟨k,hk⟩:∃ k:Nat,c.A-a=k:=⟨(c.A-a).toNat,by omega⟩
  obtain⟨o,ho⟩:∃ o:Nat,c.BN=o:=⟨c.BN.toNat,by omega⟩
  rw[hk,Int.toNat_natCast] at hs
  rw[hk,ho,Zdi ha hb fun r hr=>hs r (List.mem_append_left _ hr)]
  have e1:=Zdq (B:=B) (b:=c.B) (k:=o) (by omega)
  have e2:=Zdq (B:=B) (b:=b) (k:=k) hb
  rw[List.append_assoc,e1,show c.B=b+k by omega,e2]
theorem Zbr {A B:List (List UInt8)} {l:List Ch} (h:Script l A.length B.length) (hs:∀ r∈U 0 0 A.length B.length l,A[r.a.toNat]?=B[r.b.toNat]?):applyL l A B=B:=by
 have:=reach h.2.2 (Int.le_refl _) (Int.le_refl _) hs
 simpa [applyL] using this
end

section
structure Mk where
 sg:Int
 tx:List UInt8
structure Hk where
 A:Int
 AN:Int
 B:Int
 BN:Int
 ls:List Mk
def okS (s:Int):Bool:=decide (s=32) || decide (s=45) || decide (s=43)
def pkL (no:Int):List Mk→List (List UInt8)
 | []=>[]
 | m::l=>if m.sg≠no∧okS m.sg=true then m.tx::pkL no l else pkL no l
def oldL (h:Hk):List (List UInt8):=pkL 43 h.ls
def newL (h:Hk):List (List UInt8):=pkL 45 h.ls
def gcons (ctx:Int) (c:Ch):List Ch→List (List Ch)→List (List Ch)
 | d::_,g::gs=>if d.A-c.A-c.AN≤2 * ctx then (c::g)::gs else [c]::g::gs
 | _,gs=>[c]::gs
def grp (ctx:Int):List Ch→List (List Ch)
 | []=>[]
 | c::l=>gcons ctx c l (grp ctx l)
theorem ZeJ (ctx:Int) (c:Ch) (l:List Ch):∃ g gs,grp ctx (c::l)=(c::g)::gs:=by
 cases l with
 | nil=>exact⟨[],[],rfl⟩
 | cons d l =>
  show ∃ g gs,gcons ctx c (d::l) (grp ctx (d::l))=_
  cases grp ctx (d::l) with
  | nil=>exact⟨_,_,rfl⟩
  | cons g gs =>
   simp only[gcons]
   split
   ·exact⟨_,_,rfl⟩
   ·exact⟨_,_,rfl⟩
theorem ZeI (ctx:Int) (c d:Ch) (l:List Ch):∃ g gs,grp ctx (d::l)=(d::g)::gs∧grp ctx (c::d::l)=if d.A-c.A-c.AN≤2 * ctx then (c::d::g)::gs else [c]::(d::g)::gs:=by
 obtain⟨g,gs,h⟩:=ZeJ ctx d l
 refine⟨g,gs,h,?_⟩
 show gcons ctx c (d::l) (grp ctx (d::l))=_
 rw[h]
 rfl
def mks (s:Int) (x:List (List UInt8)):List Mk:=x.map fun t=>⟨s,t⟩
def bodyH (a b:List (List UInt8)) (e:Int):Int→List Ch→List Mk
 | p,[]=>mks 32 (cut a p (e-p))
 | p,c::g=>mks 32 (cut a p (c.A-p))++(mks 45 (cut a c.A c.AN)++(mks 43 (cut b c.B c.BN)++bodyH a b e (c.A+c.AN) g))
def cntH (a b:Int) (ls:List Mk):Hk:=⟨if 0<(pkL 43 ls).length then a+1 else a,(pkL 43 ls).length,if 0<(pkL 45 ls).length then b+1 else b,(pkL 45 ls).length,ls⟩
def endH (n ctx:Int):List Ch→Int
 | []=>0
 | [c]=>min n (c.A+c.AN+ctx)
 | _::d::g=>endH n ctx (d::g)
def oneH (a b:List (List UInt8)) (ctx:Int) (g:List Ch):Hk:=match g with
 | []=>⟨0,0,0,0,[]⟩
 | f::g=>cntH (f.A-min ctx f.A) (f.B-min ctx f.A) (bodyH a b (endH a.length ctx (f::g)) (f.A-min ctx f.A) (f::g))
def grpE (l:List Ch) (n m ctx:Int):Int:=if chk l n m≠0 then chk l n m else if ctx<0∨100<ctx then 2 else 0
def grpR (l:List Ch) (n m ctx:Int):List (List Ch):=if grpE l n m ctx=0 then grp ctx l else []
def mkR (l:List Ch) (a b:List (List UInt8)) (ctx:Int):List Hk:=(grpR l a.length b.length ctx).map (oneH a b ctx)
def linB (s:List UInt8):Bool:=!s.isEmpty && s.dropLast.all fun c=>c != 10
def fdB (s:List UInt8):Bool:=s.getLast? == some 10
def lstB (sg:Int) (l:List Mk):Bool:=l.all fun m=>decide (m.sg≠sg) && decide (m.sg≠32)
def fldB:List Mk→Bool
 | []=>true
 | m::l=>linB m.tx && okS m.sg && (fdB m.tx || ((decide (m.sg=43) || lstB 45 l) && (decide (m.sg=45) || lstB 43 l))) && fldB l
def rngB (h:Hk):Bool:=nat31 h.A && nat31 h.AN && nat31 h.B && nat31 h.BN && !(decide (h.A=0) && decide (0<h.AN)) && !(decide (h.B=0) && decide (0<h.BN))
def chkH (h:Hk):Int:=if rngB h=false then 2 else if fldB h.ls=false then 6 else if h.AN≠(oldL h).length∨h.BN≠(newL h).length then 120 else if h.ls.all (fun m=>decide (m.sg=32))=true then 50 else 0
end

section
def AllS (s:Int) (x:List Mk):Prop:=∀ m∈x,m.sg=s
theorem AllS.nil (s:Int):AllS s []:=fun _ h=>by cases h
def Nf:Bool→List Mk→Prop
 | _,[]=>True
 | s,m::l=>if m.sg=45 then s=false∧Nf false l else if m.sg=43 then Nf true l else Nf false l
end

section
theorem ZeR {A:List (List UInt8)} {p k:Int} (hp:0≤p) (hk:0≤k) (h:p+k≤A.length):((cut A p k).length:Int)=k:=by
 simp only[cut,List.length_take,List.length_drop]
 omega
def endA:Int→List Ch→Int
 | p,[]=>p
 | _,c::g=>endA (c.A+c.AN) g
def endB:Int→List Ch→Int
 | q,[]=>q
 | _,c::g=>endB (c.B+c.BN) g
structure OneF (a b:List (List UInt8)) (ctx:Int) (g:List Ch) (s t e:Int):Prop where
 s0:0≤s
 t0:0≤t
 en:e≤a.length
 em:endB 0 g+(e-endA 0 g)≤b.length
 le:endA 0 g≤e
 se:s≤e
 AN:(oneH a b ctx g).AN=e-s
 BN:(oneH a b ctx g).BN=endB 0 g+(e-endA 0 g)-t
 A:(oneH a b ctx g).A=if 0<e-s then s+1 else s
 B:(oneH a b ctx g).B=if 0<endB 0 g+(e-endA 0 g)-t then t+1 else t
 old:oldL (oneH a b ctx g)=cut a s (e-s)
 ls:(oneH a b ctx g).ls=bodyH a b e s g
end

section
theorem ZeK (l:List Ch):∀ (fl:Bool) (p q n m:Int),Right fl p q n m l→grp 0 l=l.map fun c=>[c]:=by
 induction l with
 | nil=>intros;rfl
 | cons c l ih =>
  intro fl p q n m h
  have hi:=ih false _ _ n m h.2
  cases l with
  | nil=>rfl
  | cons d l =>
   obtain⟨g,gs,h1,h2⟩:=ZeI 0 c d l
   have h4:c.A+c.AN<d.A:=by simpa using h.2.1.2.2.2
   rw[h2,if_neg (by omega),List.map_cons,← hi,h1]
end

end Go.Proofs.YtcnjephlmcnodaaGreatDoor

/- Each group of a right script, and its hunk; how many lines it has; plain mathematics. -/
namespace Go.Proofs.YtcnjephlmcnodaaGreatDoor
end Go.Proofs.YtcnjephlmcnodaaGreatDoor

namespace Go.Proofs.YtcnjephlmcnodaaGreatDoor

section
theorem Zhz {l:List Ch} {a b:List (List UInt8)} {ctx:Int} (hs:Script l a.length b.length) (hc:0≤ctx∧ctx≤100):mkR l a b ctx=(grp ctx l).map (oneH a b ctx)∧grpE l a.length b.length ctx=0:=by
 have e:grpE l a.length b.length ctx=0:=by
  unfold grpE
  rw[Zcj hs,if_neg (by simp),if_neg (by omega)]
 refine⟨?_,e⟩
 unfold mkR grpR
 rw[if_pos e]
end

section
open Go.RowKit
theorem ret_bool {a b:Bool} (h:a=b):Ending.returned (.bool a)=.returned (.bool b):=by rw[h]
theorem ret_int {k:IntKind} {a b:Int} (h:a=b):Ending.returned (.int k a)=.returned (.int k b):=by rw[h]
theorem ZhV (c:Ch) (w:World):Calls Tryz.prog 41 #[chV c] w fun e w'=>e=.returned (.bool (numB c))∧Below w.heap.size w w':=by
 obtain⟨A,AN,B,BN⟩:=c
 unfold chV
 dsimp only
 have hB:Below w.heap.size w (w.alloc (.cells #[.int .i64 A,.int .i64 AN,.int .i64 B,.int .i64 BN] 43)):=(Below.refl _ w).alloc (Nat.le_refl _) _
 obtain⟨b,hb⟩:∃ b,numB ⟨A,AN,B,BN⟩=b:=⟨_,rfl⟩
 rw[hb]
 have Hb:Hid (numB ⟨A,AN,B,BN⟩=b):=hb
 clear hb
 have i0:∀ w,(Instr.index 109 (.agg #[.int .i64 A,.int .i64 AN,.int .i64 B,.int .i64 BN]) (.int .i64 0)).run Tryz.prog w=.ok (.int .i64 A) w:=fun _=>by kernel_rfl
 have i1:∀ w,(Instr.index 109 (.agg #[.int .i64 A,.int .i64 AN,.int .i64 B,.int .i64 BN]) (.int .i64 1)).run Tryz.prog w=.ok (.int .i64 AN) w:=fun _=>by kernel_rfl
 have i2:∀ w,(Instr.index 109 (.agg #[.int .i64 A,.int .i64 AN,.int .i64 B,.int .i64 BN]) (.int .i64 2)).run Tryz.prog w=.ok (.int .i64 B) w:=fun _=>by kernel_rfl
 have i3:∀ w,(Instr.index 109 (.agg #[.int .i64 A,.int .i64 AN,.int .i64 B,.int .i64 BN]) (.int .i64 3)).run Tryz.prog w=.ok (.int .i64 BN) w:=fun _=>by kernel_rfl
 go_enter Tryz.func41,Tryz.ntmps41
 go_wp2
 go_loopw [14] (fun i wr=>∃ k:Nat,k≤4∧i=.int .i64 k∧wr=w.alloc (.cells #[.int .i64 A,.int .i64 AN,.int .i64 B,.int .i64 BN] 43)∧Hid ((0<k→(0≤A∧A≤2147483647))∧(1<k→(0≤AN∧AN≤2147483647))∧(2<k→(0≤B∧B≤2147483647))∧(3<k→(0≤BN∧BN≤2147483647)))) (fun i _=>4-(intOf i).toNat)
 case atStart=>exact⟨0,Nat.zero_le _,rfl,rfl,(⟨fun h=>absurd h (by omega),fun h=>absurd h (by omega),fun h=>absurd h (by omega),fun h=>absurd h (by omega)⟩)⟩
 case round =>
  obtain⟨k,hk,rfl,rfl,hok⟩:=hrel
  rcases (by omega:k=0∨k=1∨k=2∨k=3∨k=4) with rfl | rfl | rfl | rfl | rfl
  ·by_cases h0:A<0
   ·go_wp2
    go_ret
    refine⟨ret_bool ?_,hB⟩
    rw[← Hb.out]
    simp[numB,nat31]
    omega
   ·by_cases h1:2147483647<A
    ·go_wp2
     go_ret
     refine⟨ret_bool ?_,hB⟩
     rw[← Hb.out]
     simp[numB,nat31]
     omega
    ·go_wp2
     go_roundw
     case rel=>exact⟨1,by omega,by go_num,trivial,(by have:=hok.out;show _∧_∧_∧_;refine⟨?_,?_,?_,?_⟩<;>intro _<;>omega)⟩
     case measure=>simp[intOf]
  ·by_cases h0:AN<0
   ·go_wp2
    go_ret
    refine⟨ret_bool ?_,hB⟩
    rw[← Hb.out]
    simp[numB,nat31]
    omega
   ·by_cases h1:2147483647<AN
    ·go_wp2
     go_ret
     refine⟨ret_bool ?_,hB⟩
     rw[← Hb.out]
     simp[numB,nat31]
     omega
    ·go_wp2
     go_roundw
     case rel=>exact⟨2,by omega,by go_num,trivial,(by have:=hok.out;show _∧_∧_∧_;refine⟨?_,?_,?_,?_⟩<;>intro _<;>omega)⟩
     case measure=>simp[intOf]
  ·by_cases h0:B<0
   ·go_wp2
    go_ret
    refine⟨ret_bool ?_,hB⟩
    rw[← Hb.out]
    simp[numB,nat31]
    omega
   ·by_cases h1:2147483647<B
    ·go_wp2
     go_ret
     refine⟨ret_bool ?_,hB⟩
     rw[← Hb.out]
     simp[numB,nat31]
     omega
    ·go_wp2
     go_roundw
     case rel=>exact⟨3,by omega,by go_num,trivial,(by have:=hok.out;show _∧_∧_∧_;refine⟨?_,?_,?_,?_⟩<;>intro _<;>omega)⟩
     case measure=>simp[intOf]
  ·by_cases h0:BN<0
   ·go_wp2
    go_ret
    refine⟨ret_bool ?_,hB⟩
    rw[← Hb.out]
    simp[numB,nat31]
    omega
   ·by_cases h1:2147483647<BN
    ·go_wp2
     go_ret
     refine⟨ret_bool ?_,hB⟩
     rw[← Hb.out]
     simp[numB,nat31]
     omega
    ·go_wp2
     go_roundw
     case rel=>exact⟨4,by omega,by go_num,trivial,(by have:=hok.out;show _∧_∧_∧_;refine⟨?_,?_,?_,?_⟩<;>intro _<;>omega)⟩
     case measure=>simp[intOf]
  ·have hok':=hok.out
   by_cases h0:0<AN
   ·go_wp2
    go_ret
    refine⟨ret_bool ?_,hB⟩
    rw[← Hb.out]
    simp[numB,nat31]
    omega
   ·by_cases h1:0<BN
    ·go_wp2
     go_ret
     refine⟨ret_bool ?_,hB⟩
     rw[← Hb.out]
     simp[numB,nat31]
     omega
    ·go_wp2
     go_ret
     refine⟨ret_bool ?_,hB⟩
     rw[← Hb.out]
     simp[numB,nat31]
     omega
theorem Zag (l:List Ch) (n m r:Int) (v:Value) (w:World) (hl:HCh w v l) (hlen:l.length≤1099511627776) (hn:n≤9223372036854775807) (hm:m≤9223372036854775807) (hr:Hid (chk l n m=r)) :
  Calls Tryz.prog 16 #[v,.int .i64 n,.int .i64 m] w fun e w'=>e=.returned (.int .i64 r)∧Below w.heap.size w w':=by
 obtain⟨ao,ca,rfl⟩:=Holds.form hl
 by_cases hn0:n<0
 ·go_enter Tryz.func16,Tryz.ntmps16
  go_wp2
  go_ret
  refine⟨ret_int ?_,Below.refl _ w⟩
  rw[← hr.out,Zci (fun h=>by have:=h.1;omega)]
 by_cases hm0:m<0
 ·go_enter Tryz.func16,Tryz.ntmps16
  go_wp2
  go_ret
  refine⟨ret_int ?_,Below.refl _ w⟩
  rw[← hr.out,Zci (fun h=>by have:=h.2.1;omega)]
 go_enter Tryz.func16,Tryz.ntmps16
 go_wp2
 go_loopw [7,8,19] (fun av bv iv wr=>∃ (k:Nat) (a b:Int),k≤l.length∧av=.int .i64 a∧bv=.int .i64 b∧iv=.int .i64 k∧0≤a∧a≤n∧0≤b∧b≤m∧Below w.heap.size w wr∧Hid (Script l n m↔Right (decide (k=0)) a b n m (l.drop k))) (fun _ _ iv _=>l.length-(intOf iv).toNat)
 case atStart=>exact⟨0,0,0,Nat.zero_le _,rfl,rfl,rfl,by omega,by omega,by omega,by omega,Below.refl _ w,(by show _↔_;simp only[Script,List.drop_zero,decide_true];constructor;exact fun h=>h.2.2;exact fun h=>⟨by omega,by omega,h⟩)⟩
 case round =>
  obtain⟨k,a,b,hk,rfl,rfl,rfl,ha,han,hb,hbm,hB,hR⟩:=hrel
  by_cases hlt:k<l.length
  ·obtain⟨bk,off,rfl,hbk,hc⟩:=HCh.at (HCh.keep hl hB (Nat.le_refl _)) (by omega)
   obtain⟨c0,c1,c2,c3⟩:=hc k hlt
   have hR':=hR.out
   rw[List.drop_eq_getElem_cons hlt] at hR'
   obtain⟨c,hcd⟩:∃ c,l[k]=c:=⟨_,rfl⟩
   rw[hcd] at hR' c0 c1 c2 c3
   clear hc hcd hR
   have HR:Hid (Script l n m↔Right (decide (k=0)) a b n m (c::l.drop (k+1))):=hR'
   clear hR'
   have i1:0≤(k:Int):=by omega
   have i2:(k:Int)<(l.length:Int):=by omega
   obtain⟨A,AN,B,BN⟩:=c
   dsimp only at c0 c1 c2 c3
   have hsz:=hB.size
   go_wp2_with fail
   have hB1:Below w.heap.size w (wr.alloc (Obj.cells #[Value.int IntKind.i64 A,Value.int IntKind.i64 AN,Value.int IntKind.i64 B,Value.int IntKind.i64 BN] 43)):=hB.alloc hsz _
   refine (ZhV ⟨A,AN,B,BN⟩ _).mono ?_
   rintro e w1 ⟨rfl,hb1⟩
   have hB2:Below w.heap.size w w1:=hB1.trans (hb1.mono (by simp;omega))
   have hbox:=hb1.block wr.heap.size (by simp)
   rw[_root_.Go.heap_alloc_new] at hbox
   have d0:w1.cell? ⟨wr.heap.size,0,none⟩=some (.int .i64 A):=by rw[Lib.cell_of_heap hbox];rfl
   have d1:w1.cell? ⟨wr.heap.size,1,none⟩=some (.int .i64 AN):=by rw[Lib.cell_of_heap hbox];rfl
   have d2:w1.cell? ⟨wr.heap.size,2,none⟩=some (.int .i64 B):=by rw[Lib.cell_of_heap hbox];rfl
   have d3:w1.cell? ⟨wr.heap.size,3,none⟩=some (.int .i64 BN):=by rw[Lib.cell_of_heap hbox];rfl
   clear hbox c0 c1 c2 c3 hb1 hB1 hB
   by_cases hq:numB ⟨A,AN,B,BN⟩=true
   ·rw[hq]
    have HQ:Hid (numB ⟨A,AN,B,BN⟩=true):=hq
    rw[ZhO] at hq
    dsimp only at hq
    obtain⟨⟨hA0,hA1⟩,⟨hAN0,hAN1⟩,⟨hB0,hB1⟩,⟨hBN0,hBN1⟩,hpos⟩:=hq
    by_cases h1:A-a=B-b
    ·by_cases h2:AN > n-A
     ·go_wp2_with fail
      go_ret
      refine⟨ret_int ?_,hB2⟩
      rw[← hr.out,Zci]
      exact fun h=>by have h5:=HR.out.1 h;obtain⟨⟨q1,q2,q3,q4⟩,q5⟩:=h5;have q6:=q5.le;dsimp only at q6;omega
     by_cases h3:BN > m-B
     ·go_wp2_with fail
      go_ret
      refine⟨ret_int ?_,hB2⟩
      rw[← hr.out,Zci]
      exact fun h=>by have h5:=HR.out.1 h;obtain⟨⟨q1,q2,q3,q4⟩,q5⟩:=h5;have q6:=q5.le;dsimp only at q6;omega
     by_cases h4:A<a
     ·go_wp2_with fail
      go_ret
      refine⟨ret_int ?_,hB2⟩
      rw[← hr.out,Zci]
      exact fun h=>by have h5:=HR.out.1 h;obtain⟨⟨q1,q2,q3,q4⟩,q5⟩:=h5;have q6:=q5.le;dsimp only at q3;omega
     by_cases h5:A=a
     ·by_cases h6:0<(k:Int)
      ·go_wp2_with fail
       go_ret
       refine⟨ret_int ?_,hB2⟩
       rw[← hr.out,Zci]
       exact fun h=>by
        obtain⟨⟨q1,q2,q3,q4⟩,q5⟩:=HR.out.1 h
        rcases q4 with q4 | q4
        ·have:=of_decide_eq_true q4;omega
        ·dsimp only at q4;omega
      ·go_wp2_with fail
       go_quiet (fail)
       go_wp2
       go_roundw
       case rel=>exact⟨k+1,A+AN,B+BN,by omega,by go_num,by go_num,by go_num,by omega,by omega,by omega,by omega,Below.dN hB2 _,(by
        show _↔_
        refine HR.out.trans ?_
        have:decide (k+1=0)=false:=by simp
        rw[this]
        exact⟨fun h=>h.2,fun h=>⟨⟨HQ.out,h1,by dsimp only;omega,.inl (decide_eq_true (by omega))⟩,h⟩⟩)⟩
       case measure=>simp[intOf];omega
     ·go_wp2_with fail
      go_quiet (fail)
      go_wp2
      go_roundw
      case rel=>exact⟨k+1,A+AN,B+BN,by omega,by go_num,by go_num,by go_num,by omega,by omega,by omega,by omega,Below.dN hB2 _,(by
        show _↔_
        refine HR.out.trans ?_
        have:decide (k+1=0)=false:=by simp
        rw[this]
        exact⟨fun h=>h.2,fun h=>⟨⟨HQ.out,h1,by dsimp only;omega,.inr (by dsimp only;omega)⟩,h⟩⟩)⟩
      case measure=>simp[intOf];omega
    ·go_wp2_with fail
     go_ret
     refine⟨ret_int ?_,hB2⟩
     rw[← hr.out,Zci]
     exact fun h=>by have h5:=HR.out.1 h;obtain⟨⟨q1,q2,q3,q4⟩,q5⟩:=h5;have q6:=q5.le;dsimp only at q2;omega
   ·have hq':numB ⟨A,AN,B,BN⟩=false:=by simpa using hq
    have HQ:Hid (numB ⟨A,AN,B,BN⟩=false):=hq'
    rw[hq']
    clear hq hq'
    go_wp2_with fail
    go_ret
    refine⟨ret_int ?_,hB2⟩
    rw[← hr.out,Zci]
    exact fun h=>by
     obtain⟨⟨q1,q2,q3,q4⟩,q5⟩:=HR.out.1 h
     rw[HQ.out] at q1
     cases q1
  ·by_cases he:n-a=m-b
   ·go_wp2
    go_ret
    refine⟨ret_int ?_,hB⟩
    rw[← hr.out,Zcj]
    have:=hR.out
    rw[List.drop_of_length_le (by omega)] at this
    exact this.2 ⟨han,hbm,he⟩
   ·go_wp2
    go_ret
    refine⟨ret_int ?_,hB⟩
    rw[← hr.out,Zci]
    have:=hR.out
    rw[List.drop_of_length_le (by omega)] at this
    exact fun h=>he (this.1 h).2.2
end

section
open Go.RowKit Go.Shelf
attribute [local go_sem] Oper.semAt_some
structure Kp (n₀ lo:Nat) (W W':World):Prop where
 low:Below n₀ W W'
 box:∀ k,lo≤k→k<lo+3→W'.heap[k]?=W.heap[k]?
 chg:∀ (k:Nat) (cs:Array Value),W.heap[k]?=some (Obj.cells cs 43 (0,0))→W'.heap[k]?=some (Obj.cells cs 43 (0,0))
section
variable {n₀ lo:Nat} {A B C:World}
theorem Kp.refl (W:World):Kp n₀ lo W W:=⟨Below.refl _ _,fun _ _ _=>rfl,fun _ _ h=>h⟩
theorem Kp.trans (h:Kp n₀ lo A B) (k:Kp n₀ lo B C):Kp n₀ lo A C:=⟨h.low.trans k.low,fun j h1 h2=>(k.box j h1 h2).trans (h.box j h1 h2),fun j cs hj=>k.chg j cs (h.chg j cs hj)⟩
theorem Kp.alloc {W:World} (hn:n₀≤W.heap.size) (hl:lo+3≤W.heap.size) (o:Obj):Kp n₀ lo W (W.alloc o) :=
 ⟨(Below.refl _ W).alloc hn o,fun k _ hk=>Below.heap_alloc W o k (by omega),fun k cs hk=>(Below.heap_alloc W o k (Array.getElem?_eq_some_iff.1 hk).1).trans hk⟩
theorem Kp.putObj {w:World} (hn:n₀≤w.heap.size) (hl:lo+3≤w.heap.size) (W:World) (l:Nat) (o o':Obj) (hlw:w.heap.size≤l) (h:W.heap[l]?=some o) (hc:o.isCells=false) (hw:o.isWalk=false):Kp n₀ lo W (W.putObj l o'):=by
 have hne:∀ k,k≠l→(W.putObj l o').heap[k]?=W.heap[k]?:=fun k hk=>by simp[World.putObj,Ne.symm hk]
 refine⟨belowK_b hn W l o o' hlw h hc hw,fun k _ hk=>hne k (by omega),fun k cs hk=>(hne k ?_).trans hk⟩
 rintro rfl
 rw[h] at hk
 cases hk
 cases hc
theorem Kp.drewN (W:World) (k:Nat):Kp n₀ lo W (W.drewN k):=⟨Below.dN (Below.refl _ W) k,fun _ _ _=>rfl,fun _ _ h=>h⟩
end
abbrev Pie (n m:Int):={ x:Rn × Ch // Pc n m x }
theorem ZiJ (ao:Option Addr) (len c:Nat) (n m:Int) (w:World) :
  Calls Tryz.prog 121 #[.slice ao len c,.int .i64 n,.int .i64 m] w fun e w' =>
   e=.returned (.func (.func 136) #[] #[.pointer (some ⟨w.heap.size,0,none⟩),.pointer (some ⟨w.heap.size+1,0,none⟩),.pointer (some ⟨w.heap.size+1+1,0,none⟩)]) ∧
   w'=((w.alloc (.cells #[.slice ao len c] 27)).alloc (.cells #[.int .i64 n] 3)).alloc (.cells #[.int .i64 m] 3):=by
 go_enter Tryz.func121,Tryz.ntmps121
 go_wp2
 go_ret
 exact⟨rfl,rfl⟩
theorem ZaZ {α:Type} {B0:Nat} {J:List α→World→Prop} (h:AbidesFrom B0 J) {s:List α} {W:World} (hJ:J s W) (o:Obj):J s (W.alloc o):=h s W _ none hJ (World.grownBy_alloc W o none) (fun r e=>by cases e)
theorem Zba {α:Type} {B0:Nat} {J:List α→World→Prop} (h:AbidesFrom B0 J) {s:List α} {W:World} (hJ:J s W) (k:Nat):J s (W.drewN k):=h s W _ none hJ ⟨rfl,rfl,rfl,Nat.le_refl _,fun _ _ _=>rfl⟩ (fun r e=>by cases e)
theorem ZiH (N:Nat) (hN:1≤N) (lp lo n₀:Nat) (ao:Option Addr) (ca:Nat) (l:List Ch) (n m:Int) (hS:Hid (Script l n m)) (hn:n≤9223372036854775807) (hm:m≤9223372036854775807) (hlen:l.length≤1099511627776)
  (J Jx:List (Pie n m)→World→Prop) (W:World) (hJ:AbidesFrom W.heap.size J)
  (hY:∀ pre (x:Pie n m) W1,J pre W1→pre.length<l.length+1→YieldAt Fence.wide (N-1) Tryz.prog lp #[rnV x.1.1,chV x.1.2] W1 fun e W' =>
   (e=.returned (.bool true)∧J (pre++[x]) W'∧Kp n₀ lo W1 W')∨(e=.returned (.bool false)∧Jx (pre++[x]) W'))
  (hlo:n₀≤lo) (hsz:lo+3≤W.heap.size) (hb0:W.heap[lo]?=some (.cells #[.slice ao l.length ca] 27 (0,0))) (hb1:W.heap[lo+1]?=some (.cells #[.int .i64 n] 3 (0,0))) (hb2:W.heap[lo+1+1]?=some (.cells #[.int .i64 m] 3 (0,0)))
  (hl:HCh W (.slice ao l.length ca) l) (hb:∀ a,ao=some a→0<l.length→a.block<n₀) (h0:J [] W) :
  CallsIn Fence.wide N Tryz.prog 136 #[.func (.yield lp) #[] #[],.pointer (some ⟨lo,0,none⟩),.pointer (some ⟨lo+1,0,none⟩),.pointer (some ⟨lo+1+1,0,none⟩)] W fun e W'=>(∃ v,e=.returned v) ∧
   ((∃ ys,ys.map (·.1)=piecesL 0 0 n m l∧J ys W')∨(∃ pre,True∧Jx pre W')):=by
 have d0:W.cell? ⟨lo,0,none⟩=some (.slice ao l.length ca):=by rw[Lib.cell_of_heap hb0];rfl
 refine callsIn_of_wp Tryz.func136 rfl trivial ?_ rfl
 simp only[Tryz.ntmps136,List.size_toArray,List.length_cons,List.length_nil,Nat.reduceAdd,Nat.reduceSub,Array.replicate_succ,Array.replicate_zero,List.push_toArray,List.append_toArray,List.nil_append,List.cons_append]
 gi_wp2
 gi_loopw [5,6,11] (fun av bv iv wr=>∃ (k:Nat) (a b:Int) (pre:List (Pie n m)),k≤l.length∧pre.length=k∧av=.int .i64 a∧bv=.int .i64 b∧iv=.int .i64 k∧0≤a∧a≤n∧0≤b∧b≤m∧Kp n₀ lo W wr∧J pre wr∧Hid (Right (decide (k=0)) a b n m (l.drop k)∧pre.map (·.1)++piecesL a b n m (l.drop k)=piecesL 0 0 n m l)) (fun _ _ iv _=>l.length-(intOf iv).toNat)
 case atStart=>exact⟨0,0,0,[],Nat.zero_le _,rfl,rfl,rfl,rfl,by omega,hS.out.1,by omega,hS.out.2.1,Kp.refl W,h0,(⟨hS.out.2.2,rfl⟩:_∧_)⟩
 case round =>
  obtain⟨k,a,b,pre,hk,hpl,rfl,rfl,rfl,ha,han,hb',hbm,hK,hJr,hR⟩:=hrel
  have hszr:=hK.low.size
  by_cases hlt:k<l.length
  ·have hlr:HCh wr (.slice ao l.length ca) l:=by
    obtain⟨bk,off,rfl,hbk,hc⟩:=HCh.at hl (by omega)
    rcases hl with ⟨h,_⟩ | ⟨ad,c,he,hnc,hcells⟩
    ·cases h
    ·cases he
     refine .inr ⟨_,_,rfl,hnc,fun j u hj=>?_⟩
     have h1:=hcells j u hj
     rw[World.cell?_of_block (w:=W) (hK.low.block _ ?_)]
     ·exact h1
     ·have:=hb _ rfl (by omega)
      rw[add_none]
      exact this
   obtain⟨bk,off,rfl,hbk,hc⟩:=HCh.at hlr (by omega)
   obtain⟨c0,c1,c2,c3⟩:=hc k hlt
   have hR':=hR.out
   rw[List.drop_eq_getElem_cons hlt] at hR'
   obtain⟨c,hcd⟩:∃ c,l[k]=c:=⟨_,rfl⟩
   rw[hcd] at hR' c0 c1 c2 c3
   clear hc hcd hR
   have hnum:=hR'.1.1.1
   rw[ZhO] at hnum
   have hle:=hR'.1.2.le
   have HR:Hid (Right (decide (k=0)) a b n m (c::l.drop (k+1))∧pre.map (·.1)++piecesL a b n m (c::l.drop (k+1))=piecesL 0 0 n m l):=hR'
   have hpc:=hR'.1.pc ha hb'
   have hAa:=hR'.1.1.2.2.1
   clear hR'
   have i1:0≤(k:Int):=by omega
   have i2:(k:Int)<(l.length:Int):=by omega
   obtain⟨A,AN,B,BN⟩:=c
   dsimp only at c0 c1 c2 c3 hnum hle hAa
   obtain⟨⟨hA0,hA1⟩,⟨hAN0,hAN1⟩,⟨hB0,hB1⟩,⟨hBN0,hBN1⟩,hpos⟩:=hnum
   have hK1:Kp n₀ lo wr (wr.alloc (.cells #[.int .i64 A,.int .i64 AN,.int .i64 B,.int .i64 BN] 43)):=Kp.alloc (by omega) (by omega) _
   obtain⟨fn,tmps,assign,body,hy,hRd⟩:=hY pre ⟨(⟨a,b,A-a⟩,⟨A,AN,B,BN⟩),hpc⟩ (wr.alloc (.cells #[.int .i64 A,.int .i64 AN,.int .i64 B,.int .i64 BN] 43)) (ZaZ hJ hJr _) (by omega)
   simp only[rnV,chV] at hy
   gi_wp2
   refine hRd.mono ?_
   rintro e W3 (⟨rfl,hJ3,hk3⟩ | ⟨rfl,hJx3⟩)
   ·have hbox:=hk3.chg wr.heap.size _ (_root_.Go.heap_alloc_new wr _)
    have e0:W3.cell? ⟨wr.heap.size,0,none⟩=some (.int .i64 A):=by rw[Lib.cell_of_heap hbox];rfl
    have e1:W3.cell? ⟨wr.heap.size,1,none⟩=some (.int .i64 AN):=by rw[Lib.cell_of_heap hbox];rfl
    have e2:W3.cell? ⟨wr.heap.size,2,none⟩=some (.int .i64 B):=by rw[Lib.cell_of_heap hbox];rfl
    have e3:W3.cell? ⟨wr.heap.size,3,none⟩=some (.int .i64 BN):=by rw[Lib.cell_of_heap hbox];rfl
    gi_wp2
    gi_region
    gi_wp2
    go_roundw
    case rel=>exact⟨k+1,A+AN,B+BN,pre++[⟨(⟨a,b,A-a⟩,⟨A,AN,B,BN⟩),hpc⟩],by omega,by simp;omega,by go_num,by go_num,by go_num,by omega,by omega,by omega,by omega,(hK.trans (hK1.trans hk3)).trans (Kp.drewN _ 1),Zba hJ hJ3 1,(by
      have h:=HR.out
      have e:decide (k+1=0)=false:=by simp
      show _∧_
      rw[e]
      exact⟨h.1.2,by rw[← h.2];simp[piecesL]⟩)⟩
    case measure=>simp[intOf];omega
   ·gi_wp2
    refine bodyPost_ret (results_none rfl _ _ _) rfl ?_
    exact⟨⟨_,rfl⟩,.inr ⟨_,trivial,hJx3⟩⟩
  ·have hR':=hR.out
   rw[List.drop_of_length_le (by omega)] at hR'
   have HR:Hid (Right (decide (k=0)) a b n m []∧pre.map (·.1)++piecesL a b n m []=piecesL 0 0 n m l):=hR'
   have hpc:=hR'.1.pcEnd ha hb'
   clear hR hR'
   have hx1:=(hK.box (lo+1) (by omega) (by omega)).trans hb1
   have hx2:=(hK.box (lo+1+1) (by omega) (by omega)).trans hb2
   have e1:wr.cell? ⟨lo+1,0,none⟩=some (.int .i64 n):=by rw[Lib.cell_of_heap hx1];rfl
   have e2:wr.cell? ⟨lo+1+1,0,none⟩=some (.int .i64 m):=by rw[Lib.cell_of_heap hx2];rfl
   obtain⟨fn,tmps,assign,body,hy,hRd⟩:=hY pre ⟨(⟨a,b,n-a⟩,⟨n,0,m,0⟩),hpc⟩ wr hJr (by omega)
   simp only[rnV,chV] at hy
   gi_wp2
   refine hRd.mono ?_
   rintro e W3 (⟨rfl,hJ3,hk3⟩ | ⟨rfl,hJx3⟩)
   ·gi_wp2
    go_end0
    exact⟨⟨_,rfl⟩,.inl ⟨_,by have h:=HR.out.2;rw[← h];simp[piecesL],hJ3⟩⟩
   ·gi_wp2
    go_end0
    exact⟨⟨_,rfl⟩,.inr ⟨_,trivial,hJx3⟩⟩
theorem HCh.lt {w:World} {ao:Option Addr} {n c:Nat} {l:List Ch} (h:HCh w (.slice ao n c) l) (a:Addr) (ha:ao=some a) (h0:0<l.length):a.block<w.heap.size:=by
 obtain⟨b,off,hb,hlt,_⟩:=HCh.at h h0
 rw[ha] at hb
 cases hb
 exact hlt
theorem ZiK (N:Nat) (hN:1≤N) (lo n₀:Nat) (ao:Option Addr) (ca:Nat) (l:List Ch) (n m:Int) (hS:Script l n m) (hn:n≤9223372036854775807) (hm:m≤9223372036854775807) (hlen:l.length≤1099511627776) (w:World)
  (hlo:n₀≤lo) (hsz:lo+3≤w.heap.size) (hb0:w.heap[lo]?=some (.cells #[.slice ao l.length ca] 27 (0,0))) (hb1:w.heap[lo+1]?=some (.cells #[.int .i64 n] 3 (0,0))) (hb2:w.heap[lo+1+1]?=some (.cells #[.int .i64 m] 3 (0,0)))
  (hl:HCh w (.slice ao l.length ca) l) (hb:∀ a,ao=some a→0<l.length→a.block<n₀) :
  SeqStopsK Fence.wide N Tryz.prog 136 #[.pointer (some ⟨lo,0,none⟩),.pointer (some ⟨lo+1,0,none⟩),.pointer (some ⟨lo+1+1,0,none⟩)] (fun x:Pie n m=>#[rnV x.1.1,chV x.1.2]) (Kp n₀ lo) (fun ys=>ys.map (·.1)=piecesL 0 0 n m l) (fun _=>True) (l.length+1) w:=fun lp J Jx W hW hJ _ hY h0 =>
 ZiH N hN lp lo n₀ ao ca l n m hS hn hm hlen J Jx W hJ hY hlo (Nat.le_trans hsz hW.size) ((hW.block _ (by omega)).trans hb0) ((hW.block _ (by omega)).trans hb1) ((hW.block _ (by omega)).trans hb2) (HCh.keep hl hW (Nat.le_refl _)) hb h0
end

section
open Go.RowKit Go.Shelf
attribute [local go_sem] Oper.semAt_some
theorem Zoc {F:Fence} {n:Nat} (w:World) {ops:Array Oper} {rest:List Oper} {o:Oper} {a:Act} {Q:Exit→Act→World→Prop}
  (hg:o.guard=none) (s x:Operand) (T E:TypeId) (ho:o.op=Op.call { callee:=Callee.builtin Builtin.append,args:=#[s,x],argTypes:=#[T,T] })
  (z:Value) (size bytes:Nat) (hT:Tryz.prog.underlying T=some (.slice E)) (hinfo:(Tryz.prog.info? E).map (fun i=>(i.zero,i.size,i.bytes))=some (some z,size,bytes)) (hz1:z.cells.size=size) (hsz:0<size) (hby:bytes≤32)
  (base:Nat) (v:Value) (k:Nat) (xs:List Value) (hs:a.eval s=v) (hown:w.ownsRow base E size v k xs) (vx:Value) (m:Nat) (news:List Value) (hx:a.eval x=vx) (hh:Holds w vx m news) (hl:news.length=m * size)
  (h1:∀ u∈news,u.oneCell'=true) (hk:k+m≤4398046511104) (hbase:base≤w.heap.size)
  (h:∀ v' w',w'.ownsRow base E size v' (k+m) (xs++news)→w.grownBy w' v.ownBlock→(v'.ownBlock=v.ownBlock∨v'.ownBlock=some w.heap.size)→wpListIn F n Tryz.prog ops Q rest (a.put o.dst v') w') :
  wpListIn F n Tryz.prog ops Q (o::rest) a w:=by
 refine wpListIn_plain hg fun K hK'=>?_
 obtain⟨i0,hi,hz0,hzs,hz2⟩:=info_parts hinfo
 have hrun:∃ v' w',(Builtin.append_ #[T,T] o.type #[v,vx]).run Tryz.prog w=.ok v' w'∧w'.ownsRow base E size v' (k+m) (xs++news)∧w.grownBy w' v.ownBlock∧(v'.ownBlock=v.ownBlock∨v'.ownBlock=some w.heap.size):=by
  rcases hh with ⟨rfl,rfl,rfl⟩ | ⟨ad,c,rfl,_,hc⟩
  ·exact⟨v,w,run_append_owned_none (P:=Tryz.prog) (w:=w) base T o.type E i0 size hT hi v k xs hown,by simpa using hown,World.grownBy.refl _ _,.inl rfl⟩
  ·obtain⟨v',w',hr,h2,h3,_,h5⟩:=run_append_own_at (P:=Tryz.prog) w base T o.type E i0 z size bytes hT hi hz0 hzs hz2 hz1 hsz v k xs hown ad m c news hl hc h1 (by unfold maxLen;omega) (by
    have:(k+m) * bytes≤(k+m) * 32:=Nat.mul_le_mul_left _ hby
    omega) hbase
   exact⟨v',w',hr,h2,h3,h5⟩
 obtain⟨v',w',hrun,r1,r2,r3⟩:=hrun
 unfold Oper.wpIn
 refine⟨?_,?_⟩
 ·simp[Oper.about,ho,resolve,Target.leads,Sem.run_pure]
 ·rw[Oper.semAt_plain F _ _ (by rw[ho];intro c hc';cases hc')]
  simp[execOp,ho,resolve,invoke,builtin,hs,hx,hrun,Result.andThen]
  exact hK' _ _ (h v' w' r1 r2 r3)
theorem ZhL (W:World) (cs:Array Value) (e:TypeId) (k c:Nat) (hkc:k≤c):Holds (W.alloc (.cells cs e)) (.slice (some ⟨W.heap.size,0,none⟩) k c) k cs.toList:=by
 refine .inr ⟨_,_,rfl,hkc,fun j u hj=>?_⟩
 rw[add_none,Lib.cell_of_heap (_root_.Go.heap_alloc_new W _)]
 simpa using hj
structure OwnR (n₀ lo B:Nat) (t e:TypeId) (s:Nat) (v:Value) (k:Nat) (xs:List Value) (W:World):Prop where
 box:Boxed W B t v
 row:W.ownsRow n₀ e s v k xs
 far:∀ g,v.ownBlock=some g→g<lo∨lo+3≤g
section
variable {n₀ lo B:Nat} {t e:TypeId} {s:Nat} {v:Value} {k:Nat} {xs:List Value} {W:World}
theorem OwnR.alloc (h:OwnR n₀ lo B t e s v k xs W) (o:Obj):OwnR n₀ lo B t e s v k xs (W.alloc o):=⟨h.box.alloc o,h.row.alloc o,h.far⟩
theorem OwnR.appended {w1:World} {v':Value} {m:Nat} {ys:List Value} (h:OwnR n₀ lo B t e s v k xs W) (hte:t≠e) (htC:t≠43) (heC:e≠43) (hn:n₀≤B) (hB:B<lo) (hsz:lo+3≤W.heap.size)
  (hown':w1.ownsRow n₀ e s v' m ys) (hgrow:W.grownBy w1 v.ownBlock) (hp:v'.ownBlock=v.ownBlock∨v'.ownBlock=some W.heap.size) :
  Boxed w1 B t v∧OwnR n₀ lo B t e s v' m ys (w1.setCell ⟨B,0,none⟩ v')∧KeepsOthers W (w1.setCell ⟨B,0,none⟩ v')∧Kp n₀ lo W (w1.setCell ⟨B,0,none⟩ v') ∧
   ∀ (j:Nat) (cs:Array Value) (u:TypeId),W.heap[j]?=some (Obj.cells cs u (0,0))→u≠t→u≠e→(w1.setCell ⟨B,0,none⟩ v').heap[j]?=some (Obj.cells cs u (0,0)):=by
 have hv1:Boxed w1 B t v:=h.box.kept hgrow (h.box.not_row hte h.row)
 have hset:=grownBy_setCell' w1 B v'
 have hrow:∀ j,v.ownBlock=some j→∃ cur,W.heap[j]?=some (.cells cur e (0,0))∧n₀≤j:=by
  intro j ej
  rcases h.row.2 with ⟨rfl,_⟩ | ⟨g,cap,cur,rfl,hb,hgb,_⟩
  ·simp[Value.ownBlock] at ej
  ·obtain rfl:g=j:=by simpa [Value.ownBlock] using ej
   exact⟨cur,hgb,hb⟩
 have hall:∀ (j:Nat) (cs:Array Value) (u:TypeId),W.heap[j]?=some (Obj.cells cs u (0,0))→u≠t→u≠e→(w1.setCell ⟨B,0,none⟩ v').heap[j]?=some (Obj.cells cs u (0,0)):=by
  intro j cs u hj hut hue
  have hlt:=(Array.getElem?_eq_some_iff.1 hj).1
  have e1:w1.heap[j]?=W.heap[j]?:=hgrow.block j hlt (fun ej=>by
   obtain⟨cur,hc,_⟩:=hrow j ej.symm
   rw[hj] at hc
   cases hc
   exact hue rfl)
  refine (hset.block j (Nat.lt_of_lt_of_le hlt hgrow.size) (fun ej=>?_)).trans (e1.trans hj)
  cases ej
  have:=h.box
  unfold Boxed at this
  rw[hj] at this
  cases this
  exact hut rfl
 refine⟨hv1,⟨hv1.set v',hown'.kept hset (.inr (hv1.not_row hte hown').symm),fun g hg=>?_⟩,?_,⟨?_,?_,fun j cs hj=>hall j cs _ hj (Ne.symm htC) (Ne.symm heC)⟩,hall⟩
 ·rcases hp with hp | hp
  ·exact h.far g (hp ▸ hg)
  ·rw[hp] at hg
   cases hg
   exact .inr hsz
 ·refine (KeepsOthers.of_grownBy hgrow fun j o ej hj=>?_).trans (KeepsOthers.setCell _ _ _)
  obtain⟨cur,hc,_⟩:=hrow j ej
  rw[hc] at hj
  cases hj
  rfl
 ·refine ((Below.refl n₀ W).grown hgrow (by omega) fun j ej=>?_).setCell (p:=⟨B,0,none⟩) hn v'
  obtain⟨_,_,h2⟩:=hrow j ej
  exact h2
 ·intro j h1 h2
  have e1:W.heap[j]?=w1.heap[j]?:=(hgrow.block j (by omega) (fun ej=>by have:=h.far j ej.symm;omega)).symm
  rw[e1]
  exact hset.block j (Nat.lt_of_lt_of_le (by omega) hgrow.size) (fun ej=>by cases ej;omega)
theorem boxes3 (u:World) (x y z:Value) (W0:World) (h:((u.alloc (.cells #[x] 27)).alloc (.cells #[y] 3)).alloc (.cells #[z] 3)=W0) :
  W0.heap.size=u.heap.size+3∧Boxed W0 u.heap.size 27 x∧Boxed W0 (u.heap.size+1) 3 y∧Boxed W0 (u.heap.size+1+1) 3 z∧Below u.heap.size u W0:=by
 subst h
 have b1:=Boxed.new (u.alloc (.cells #[x] 27)) 3 y
 have b2:=Boxed.new ((u.alloc (.cells #[x] 27)).alloc (.cells #[y] 3)) 3 z
 rw[World.size_alloc] at b1
 rw[World.size_alloc,World.size_alloc] at b2
 exact⟨by simp,((Boxed.new u 27 x).alloc _).alloc _,b1.alloc _,b2,(((Below.refl _ u).alloc (Nat.le_refl _) _).alloc (by simp) _).alloc (by simp;omega) _⟩
theorem Zid {β:Type} {A:Nat} {w0:World} (hn:n₀≤w0.heap.size) (hA:n₀≤A) (kk:β→Nat) (f:β→List Value):OwnFrom A (fun (x:β) W=>(∃ v,OwnR n₀ lo B t e s v (kk x) (f x) W)∧Below n₀ w0 W):=by
 refine OwnFrom.and (Own.from ?_ _) (ownFrom_below hn hA)
 have:=holdsRow_own (β:=β) n₀ B t e s kk f (fun _ v=>∀ g,v.ownBlock=some g→g<lo∨lo+3≤g)
 intro x A B row hs hg hr
 obtain⟨v,⟨h1,h2,h3⟩⟩:=hs
 obtain⟨v',q1,q2,q3⟩:=this x A B row ⟨v,h1,h2,h3⟩ hg hr
 exact⟨v',q1,q2,q3⟩
end
end

section
open Go.RowKit Go.Shelf
attribute [local go_sem] Oper.semAt_some
theorem Zky {T E:TypeId} {z:Value} {bytes:Nat} (hT:Tryz.prog.underlying T=some (.slice E)) (hinfo:(Tryz.prog.info? E).map (fun i=>(i.zero,i.size,i.bytes))=some (some z,1,bytes)) (hby:bytes≤16) (N:Nat) (hN:N≤1099511627776) (W:World) :
  (Instr.makeSlice T (.int .i64 0) (.int .i64 (N:Int))).run Tryz.prog W=.ok (.slice (some ⟨W.heap.size,0,none⟩) 0 N) (W.alloc (.cells (madeCells z.cells N) E)):=by
 obtain⟨i0,hi,hz0,hzs,hz2⟩:=info_parts hinfo
 have h1:i0.bytes * N≤16 * 1099511627776:=by rw[hz2];exact Nat.mul_le_mul hby hN
 have hr:=run_make (P:=Tryz.prog) W T E i0 z hT hi hz0 .i64 .i64 0 (N:Int) (Int.le_refl _) (by omega) (by
  have:((i0.bytes * N:Nat):Int)≤281474976710656:=by omega
  rwa [Int.natCast_mul] at this) (by omega)
 simpa [hzs] using hr
theorem ZjN {E:TypeId} {z:Value} (N:Nat) (hN:N≤1099511627776) (W:World) {base:Nat} (hb:base≤W.heap.size):(W.alloc (.cells (madeCells z.cells N) E)).ownsRow base E 1 (.slice (some ⟨W.heap.size,0,none⟩) 0 N) 0 []:=by
 have:=World.ownsRow_made (size:=1) (e:=E) W (madeCells z.cells N) N hb (by unfold maxLen;omega) (by rw[size_madeCells,Nat.mul_one])
 exact this
theorem ZiM {n m:Int} (hn:n≤65536) (x:Pie n m):(pk x.1).length≤131072:=by
 obtain⟨x,h1,h2,h3,h4,h5,h6,h7,h8,h9,h10⟩:=x
 simp[pk]
 omega
theorem ZiN {n m:Int} (hn:n≤65536) (pre:List (Pie n m)):(pre.flatMap fun x=>pk x.1).length≤pre.length * 131072:=by
 induction pre with
 | nil=>simp
 | cons x t ih=>have:=ZiM hn x;simp only[List.flatMap_cons,List.length_append,List.length_cons];omega
def IOwn (n₀ lo B:Nat) (v:Value) (Z:List Int) (W:World):Prop:=OwnR n₀ lo B 50 3 1 v Z.length (icells Z) W
theorem ZaE (l:List Ch) (n m:Int) (v:Value) (w:World) (hl:HCh w v l) (hS:Script l n m) (hn:n≤65536) (hm:m≤9223372036854775807) (hlen:l.length≤1048576) :
  Calls Tryz.prog 109 #[v,.int .i64 n,.int .i64 m] w fun e w'=>∃ v' B,e=.returned (.tuple #[v',.int .i64 0])∧w.heap.size≤B∧w'.ownsRow B 3 1 v' (keepL l n m).length (icells (keepL l n m))∧Below w.heap.size w w':=by
 obtain⟨ao,ca,rfl⟩:=Holds.form hl
 have hn0:=hS.1
 have hm0:=hS.2.1
 have HS:Hid (Script l n m):=hS
 clear hS
 obtain⟨N,rfl⟩:∃ N:Nat,n=(N:Int):=⟨n.toNat,by omega⟩
 have hmk:=Zky Tryz.underlying50 infoInt (by decide) N (by omega)
 refine (callsIn_wide (n:=3)).1 ?_
 refine callsIn_of_wp_marks Tryz.func109 rfl trivial ?_ rfl
 simp only[Tryz.ntmps109,List.size_toArray,List.length_cons,List.length_nil,Nat.reduceAdd,Nat.reduceSub,Array.replicate_succ,Array.replicate_zero,List.push_toArray,List.append_toArray,List.nil_append,List.cons_append]
 gi_wp2_with (first
  | (refine⟨trivial,?_⟩;gi_at_call 16;refine (callsIn_wide.2 (Zag l N m 0 _ w hl (by omega) (by omega) hm (Zcj HS.out))).mono ?_;rintro e w1 ⟨rfl,hB1⟩)
  | (refine⟨trivial,?_⟩;gi_at_call 121;refine (callsIn_wide.2 (ZiJ _ _ _ _ _ _)).mono ?_;rintro e w' ⟨rfl,rfl⟩))
 obtain⟨W0,hW0⟩:∃ W0,(((((w1.alloc (Obj.cells (madeCells #[Value.int IntKind.i64 0] N) 3)).alloc (Obj.cells #[Value.slice (some { block:=w1.heap.size,off:=0 }) 0 N] 50)).alloc (Obj.cells #[Value.slice ao l.length ca] 27)).alloc (Obj.cells #[Value.int IntKind.i64 N] 3)).alloc (Obj.cells #[Value.int IntKind.i64 m] 3))=W0:=⟨_,rfl⟩
 obtain⟨hsz,b0,b1,b2,hB2⟩:=boxes3 _ _ _ _ W0 hW0
 have hsu:((w1.alloc (Obj.cells (madeCells #[Value.int IntKind.i64 0] N) 3)).alloc (Obj.cells #[Value.slice (some { block:=w1.heap.size,off:=0 }) 0 N] 50)).heap.size=w1.heap.size+1+1:=by simp
 have hrow:=ZjN (E:=3) (z:=.int .i64 0) N (by omega) w1 (Nat.le_refl w1.heap.size)
 have bK:=Boxed.new (w1.alloc (Obj.cells (madeCells #[Value.int IntKind.i64 0] N) 3)) 50 (Value.slice (some { block:=w1.heap.size,off:=0 }) 0 N)
 rw[World.size_alloc] at bK
 rw[hsu] at hsz b0 b1 b2 hB2
 have hBk:∀ k,k<w1.heap.size+1+1→W0.heap[k]?=((w1.alloc (Obj.cells (madeCells #[Value.int IntKind.i64 0] N) 3)).alloc (Obj.cells #[Value.slice (some { block:=w1.heap.size,off:=0 }) 0 N] 50)).heap[k]?:=hB2.block
 have bK0:Boxed W0 (w1.heap.size+1) 50 (Value.slice (some { block:=w1.heap.size,off:=0 }) 0 N):=(hBk _ (by omega)).trans bK
 have hrow0:W0.ownsRow w1.heap.size 3 1 (Value.slice (some { block:=w1.heap.size,off:=0 }) 0 N) 0 []:=by
  have hr1:=hrow.alloc (Obj.cells #[Value.slice (some { block:=w1.heap.size,off:=0 }) 0 N] 50)
  rw[← hW0]
  exact ((hr1.alloc _).alloc _).alloc _
 have hB0:Below w1.heap.size w1 W0:=(((Below.refl _ w1).alloc (Nat.le_refl _) _).alloc (by simp) _).trans (hB2.mono (by omega))
 clear hrow bK hBk hB2 hsu
 rw[hW0]
 refine wpIn_rangeFunc_ownH rfl (by omega) (gf:=136) (lb:=#[.pointer (some ⟨w1.heap.size+1+1,0,none⟩),.pointer (some ⟨w1.heap.size+1+1+1,0,none⟩),.pointer (some ⟨w1.heap.size+1+1+1+1,0,none⟩)]) rfl trivial (enters_of Tryz.func136 (by kernel_rfl) rfl)
  (ZiK 2 (by omega) (w1.heap.size+1+1) w1.heap.size ao ca l N m HS.out (by omega) hm (by omega) W0 (by omega) (by omega) b0 b1 b2 (HCh.keep (HCh.keep hl hB1 (Nat.le_refl _)) hB0 (Nat.le_refl _)) (fun a ha h0=>HCh.lt (HCh.keep hl hB1 (Nat.le_refl _)) a ha h0)) Kp.trans (Kp.putObj (by omega) (by omega)) (Below.refl _ _) (fun _=>rfl)
  (fun pre W=>(∃ v,OwnR w1.heap.size (w1.heap.size+1+1) (w1.heap.size+1) 50 3 1 v (pre.flatMap fun x=>pk x.1).length (icells (pre.flatMap fun x=>pk x.1)) W)∧Below w1.heap.size W0 W)
  (fun _ _ _=>False)
  (Zid (by omega) (by omega) _ _)
  (fun _ _ _ _ _ hs _ _=>hs)
  ⟨⟨_,bK0,hrow0,fun g hg=>by simp[Value.ownBlock] at hg;omega⟩,Below.refl _ _⟩
  (fun x a' W=>∃ Bx Bc,W.heap[Bx]?=some (Obj.cells #[.int .i64 x.1.1.a,.int .i64 x.1.1.b,.int .i64 x.1.1.n] 145 (0,0))∧W.heap[Bc]?=some (Obj.cells #[.int .i64 x.1.2.A,.int .i64 x.1.2.AN,.int .i64 x.1.2.B,.int .i64 x.1.2.BN] 43 (0,0))∧a'={ tmps:=#[.slice ao l.length ca,.int .i64 N,.int .i64 m,undef,undef,undef,.slice none 0 0,.int .i64 0,.int .i64 0,.pointer (some ⟨w1.heap.size+1,0,none⟩),.pointer (some ⟨Bx,0,none⟩),.pointer (some ⟨Bc,0,none⟩),undef,.slice ao l.length ca,.int .i64 N,.int .i64 m,.int .i64 0,.int .i64 0,.bool false,undef,.int .i64 N,.bool (decide (2147483647<(N:Int))),.int .i64 N,.slice (some ⟨w1.heap.size,0,none⟩) 0 N,.slice ao l.length ca,.int .i64 N,.int .i64 m,.func (.func 136) #[] #[.pointer (some ⟨w1.heap.size+1+1,0,none⟩),.pointer (some ⟨w1.heap.size+1+1+1,0,none⟩),.pointer (some ⟨w1.heap.size+1+1+1+1,0,none⟩)],rnV x.1.1,chV x.1.2,undef,undef,undef,undef,undef,undef,undef,undef,undef,undef,undef,undef,undef,undef,undef,undef,undef,undef,undef,undef,undef,undef],defers:=[] })
  ?hAx ?assign ?body ?done ?stop
 case hAx =>
  rintro x a' _ A B row ⟨Bx,Bc,hx,hxc,rfl⟩ hg hr
  refine⟨Bx,Bc,(hg.block Bx (Array.getElem?_eq_some_iff.1 hx).1 (fun e=>?_)).trans hx,(hg.block Bc (Array.getElem?_eq_some_iff.1 hxc).1 (fun e=>?_)).trans hxc,rfl⟩
  ·obtain⟨_,o,ho,hc⟩:=hr Bx e.symm
   rw[hx] at ho
   cases ho
   cases hc
  ·obtain⟨_,o,ho,hc⟩:=hr Bc e.symm
   rw[hxc] at ho
   cases ho
   cases hc
 case assign =>
  rintro lp pre x W K ⟨⟨v,hO⟩,hB⟩ hK
  have hs:=hB.size
  simp only[rnV,chV]
  gi_wp2
  refine hK _ _ (((KeepsOthers.alloc _ _).trans (KeepsOthers.alloc _ _)).from _) ((Kp.alloc (by omega) (by omega) _).trans (Kp.alloc (by simp;omega) (by simp;omega) _)) ⟨⟨v,(hO.alloc _).alloc _⟩,(hB.alloc (by omega) _).alloc (by simp;omega) _⟩ ⟨W.heap.size,W.heap.size+1,(Below.heap_alloc _ _ _ (by simp)).trans (_root_.Go.heap_alloc_new W _),?_,rfl⟩
  have:=_root_.Go.heap_alloc_new (W.alloc (Obj.cells #[.int .i64 x.1.1.a,.int .i64 x.1.1.b,.int .i64 x.1.1.n] 145)) (Obj.cells #[.int .i64 x.1.2.A,.int .i64 x.1.2.AN,.int .i64 x.1.2.B,.int .i64 x.1.2.BN] 43)
  rw[World.size_alloc] at this
  exact this
 case body =>
  rintro lp pre x a' W hlp ⟨r,hr⟩ ⟨⟨v,hO⟩,hB⟩ ⟨Bx,Bc,hx,hxc,rfl⟩ hlt
  have hs:=hB.size
  have hbnd:=ZiN hn pre
  obtain⟨q1,q2,q3,q4,q5,q6,q7,q8,q9,q10⟩:=x.2
  have HZ:Hid ((pre++[x]).flatMap (fun x=>pk x.1)=(pre.flatMap fun x=>pk x.1)++((List.range x.1.1.n.toNat).map (fun (i:Nat)=>x.1.1.b+(i:Int))++List.replicate x.1.2.AN.toNat (-1))):=(by show _=_;simp[pk])
  obtain⟨X,hX⟩:∃ X,(pre.flatMap fun x=>pk x.1)=X:=⟨_,rfl⟩
  rw[hX] at hO hbnd HZ
  obtain⟨cnt,hcnt⟩:∃ cnt:Nat,x.1.1.n=(cnt:Int):=⟨x.1.1.n.toNat,by omega⟩
  obtain⟨can,hcan⟩:∃ can:Nat,x.1.2.AN=(can:Int):=⟨x.1.2.AN.toNat,by omega⟩
  rw[hcnt] at hx
  rw[hcan] at hxc
  have hc:=hO.box.cell
  have x2:W.cell? ⟨Bx,2,none⟩=some (.int .i64 cnt):=by rw[Lib.cell_of_heap hx];rfl
  have hm2:x.1.1.b+x.1.1.n≤9223372036854775807:=by omega
  gi_wp2
  gi_loopw [32] (fun iv wr=>∃ (j:Nat) (v2:Value),j≤cnt∧iv=.int .i64 j∧IOwn w1.heap.size (w1.heap.size+1+1) (w1.heap.size+1) v2 (X++(List.range j).map (fun (i:Nat)=>x.1.1.b+(i:Int))) wr∧Kp w1.heap.size (w1.heap.size+1+1) W wr∧KeepsOthers W wr∧wr.heap[Bx]?=some (Obj.cells #[.int .i64 x.1.1.a,.int .i64 x.1.1.b,.int .i64 cnt] 145 (0,0))) (fun iv _=>cnt-(intOf iv).toNat)
  case atStart=>exact⟨0,v,Nat.zero_le _,rfl,by simpa [IOwn] using hO,Kp.refl _,KeepsOthers.refl _,hx⟩
  case round =>
   obtain⟨j,v2,hj,rfl,hO2,hkp,hko,hx'⟩:=hrel
   have hs2:=hkp.low.size
   unfold IOwn at hO2
   have hc2:=hO2.box.cell
   by_cases hjl:j<cnt
   ·have x1:wr.cell? ⟨Bx,1,none⟩=some (.int .i64 x.1.1.b):=by rw[Lib.cell_of_heap hx'];rfl
    have hln:(X++(List.range j).map (fun (i:Nat)=>x.1.1.b+(i:Int))).length=X.length+j:=by simp
    rw[hln] at hO2
    gi_wp2_with (gi_at_builtin;refine Zoc _ rfl (.tmp 35) (.tmp 40) 50 3 rfl (.int .i64 0) 1 8 Tryz.underlying50 infoInt rfl (by decide) (by decide) w1.heap.size v2 _ _ rfl (hO2.row.alloc _) _ 1 (icells [x.1.1.b+(j:Int)]) rfl (ZhL _ _ _ _ _ (by decide)) rfl (icells_one _) (by omega) (by simp;omega) ?_;intro v' u1 hown' hgrow hp;obtain⟨g',cap',rfl⟩:=ownsRow_succ hown';obtain⟨hv1,hO3,hk2,hp2,hal⟩:=(OwnR.alloc hO2 _).appended (by decide) (by decide) (by decide) (by omega) (by omega) (by simp;omega) hown' hgrow hp;have hc1:=hv1.cell;have hf1:=hv1.frozen)
    have hkp2:=hkp.trans ((Kp.alloc (W:=wr) (n₀:=w1.heap.size) (lo:=w1.heap.size+1+1) (by omega) (by omega) _).trans hp2)
    refine⟨⟨j+1,.slice (some ⟨g',0,none⟩) (X.length+j+1) cap',by omega,by go_num,?_,hkp2,hko.trans ((KeepsOthers.alloc wr _).trans hk2),hal _ _ _ ((Below.heap_alloc wr _ _ (Array.getElem?_eq_some_iff.1 hx').1).trans hx') (by decide) (by decide)⟩,by simp[intOf];omega⟩
    rw[← icells_append] at hO3
    unfold IOwn
    rw[List.range_succ,List.map_append,← List.append_assoc]
    simpa [Nat.add_assoc] using hO3
   ·obtain rfl:j=cnt:=by omega
    have hkc:wr.heap[Bc]?=_:=hkp.chg _ _ hxc
    have xc1:wr.cell? ⟨Bc,1,none⟩=some (.int .i64 can):=by rw[Lib.cell_of_heap hkc];rfl
    obtain⟨Y,hY⟩:∃ Y,X++(List.range j).map (fun (i:Nat)=>x.1.1.b+(i:Int))=Y:=⟨_,rfl⟩
    have hYl:Y.length≤X.length+j:=by rw[← hY];simp
    rw[hY] at hO2
    have HZ2:Hid ((pre++[x]).flatMap (fun x=>pk x.1)=Y++List.replicate can (-1)):=(by
     have h:=HZ.out
     rw[hcnt,hcan] at h
     simp only[Int.toNat_natCast] at h
     show _=_
     rw[h,← hY,List.append_assoc])
    clear HZ hY
    gi_wp2
    gi_loopw [45] (fun iv wr=>∃ (i:Nat) (v2:Value),i≤can∧iv=.int .i64 i∧IOwn w1.heap.size (w1.heap.size+1+1) (w1.heap.size+1) v2 (Y++List.replicate i (-1)) wr∧Kp w1.heap.size (w1.heap.size+1+1) W wr∧KeepsOthers W wr) (fun iv _=>can-(intOf iv).toNat)
    case atStart=>exact⟨0,v2,Nat.zero_le _,rfl,by simpa [IOwn] using hO2,hkp,hko⟩
    case round =>
     clear hO2 hc2 hs2 xc1 hkc
     obtain⟨i,v2,hi,rfl,hO2,hkp,hko⟩:=hrel
     have hs2:=hkp.low.size
     unfold IOwn at hO2
     have hc2:=hO2.box.cell
     by_cases hil:i<can
     ·have hln:(Y++List.replicate i (-1)).length=Y.length+i:=by simp
      rw[hln] at hO2
      gi_wp2_with (gi_at_builtin;refine Zoc _ rfl (.tmp 47) (.tmp 48) 50 3 rfl (.int .i64 0) 1 8 Tryz.underlying50 infoInt rfl (by decide) (by decide) w1.heap.size v2 _ _ rfl (hO2.row.alloc _) _ 1 (icells [-1]) rfl (ZhL _ _ _ _ _ (by decide)) rfl (icells_one _) (by omega) (by simp;omega) ?_;intro v' u1 hown' hgrow hp;obtain⟨g',cap',rfl⟩:=ownsRow_succ hown';obtain⟨hv1,hO3,hk2,hp2,hal⟩:=(OwnR.alloc hO2 _).appended (by decide) (by decide) (by decide) (by omega) (by omega) (by simp;omega) hown' hgrow hp;have hc1:=hv1.cell;have hf1:=hv1.frozen)
      have hkp2:=hkp.trans ((Kp.alloc (W:=wr) (n₀:=w1.heap.size) (lo:=w1.heap.size+1+1) (by omega) (by omega) _).trans hp2)
      refine⟨⟨i+1,.slice (some ⟨g',0,none⟩) (Y.length+i+1) cap',by omega,by go_num,?_,hkp2,hko.trans ((KeepsOthers.alloc wr _).trans hk2)⟩,by simp[intOf];omega⟩
      rw[← icells_append] at hO3
      unfold IOwn
      rw[List.replicate_succ',← List.append_assoc]
      simpa [Nat.add_assoc] using hO3
     ·obtain rfl:i=can:=by omega
      gi_wp2
      exact⟨hko.from _,hkp,⟨v2,by rw[HZ2.out];exact hO2⟩,hB.trans hkp.low⟩
 case done =>
  rintro D ys W hD hys ⟨⟨v,hO⟩,hB⟩ hK
  have hc:=hO.box.cell
  gi_wp2
  refine⟨by simp,.inl ⟨_,_,rfl,run_takeDeferred hK,?_⟩⟩
  have hfm:(ys.flatMap fun x=>pk x.1)=keepL l N m:=by
   unfold keepL
   rw[← hys,List.flatMap_map]
  have hrw:=ownsRow_putObj hO.row (Obj.deferred none) hK rfl
  rw[hfm] at hrw
  refine⟨_,results_tmp2 rfl _ _ _,v,w1.heap.size,rfl,hB1.size,hrw,hB1.trans (Below.mono ((hB0.trans hB).trans (belowK_b (w:=w1) (Nat.le_refl _) W D _ _ (by omega) hK rfl rfl)) hB1.size)⟩
 case stop =>
  rintro D c pre W _ _ h _
  exact h.elim
end

section
open Go.RowKit
theorem Zki (w:World) (T E ty:TypeId) (z:Value) (size bytes:Nat) (hT:Tryz.prog.underlying T=some (.slice E)) (hinfo:(Tryz.prog.info? E).map (fun i=>(i.zero,i.size,i.bytes))=some (some z,size,bytes)) (hz1:z.cells.size=size) (hsz:0<size) (hby:bytes≤32)
  (base:Nat) (v:Value) (k:Nat) (xs:List Value) (hown:w.ownsRow base E size v k xs) (vx:Value) (m:Nat) (news:List Value) (hh:Holds w vx m news) (hl:news.length=m * size)
  (h1:∀ u∈news,u.oneCell'=true) (hk:k+m≤4398046511104) (hbase:base≤w.heap.size) :
  ∃ v' w',(Builtin.append_ #[T,T] ty #[v,vx]).run Tryz.prog w=.ok v' w'∧w'.ownsRow base E size v' (k+m) (xs++news)∧w.grownBy w' v.ownBlock∧(v'.ownBlock=v.ownBlock∨v'.ownBlock=some w.heap.size):=by
 obtain⟨i0,hi0,hz0,hzs,hz2⟩:=info_parts hinfo
 rcases hh with ⟨rfl,rfl,rfl⟩ | ⟨ad,c,rfl,_,hc⟩
 ·exact⟨v,w,run_append_owned_none (P:=Tryz.prog) (w:=w) base T ty E i0 size hT hi0 v k xs hown,by simpa using hown,World.grownBy.refl _ _,.inl rfl⟩
 ·obtain⟨v',w',hr,h2,h3,_,h5⟩:=run_append_own_at (P:=Tryz.prog) w base T ty E i0 z size bytes hT hi0 hz0 hzs hz2 hz1 hsz v k xs hown ad m c news hl hc h1 (by unfold maxLen;omega) (by
   have:(k+m) * bytes≤(k+m) * 32:=Nat.mul_le_mul_left _ hby
   omega) hbase
  exact⟨v',w',hr,h2,h3,h5⟩
theorem Zoe {ops:Array Oper} {rest:List Oper} {o:Oper} {a:Act} {Q:Exit→Act→World→Prop} (w:World) (hw:Region.wanted o (yielded ops a.tmps)=true) (s x:Operand) (T E:TypeId) (z:Value) (size bytes:Nat)
  (ho:o.op=.call { callee:=.builtin .append,args:=#[s,x],argTypes:=#[T,T] }) (hT:Tryz.prog.underlying T=some (.slice E)) (hinfo:(Tryz.prog.info? E).map (fun i=>(i.zero,i.size,i.bytes))=some (some z,size,bytes)) (hz1:z.cells.size=size) (hsz:0<size) (hby:bytes≤32)
  (base:Nat) (v:Value) (k:Nat) (xs:List Value) (hs:a.eval s=v) (hown:w.ownsRow base E size v k xs) (vx:Value) (m:Nat) (news:List Value) (hx:a.eval x=vx) (hh:Holds w vx m news) (hl:news.length=m * size)
  (h1:∀ u∈news,u.oneCell'=true) (hk:k+m≤4398046511104) (hbase:base≤w.heap.size)
  (h:∀ v' w',w'.ownsRow base E size v' (k+m) (xs++news)→w.grownBy w' v.ownBlock→wpList Tryz.prog ops Q rest (a.put o.dst v') w'):wpList Tryz.prog ops Q (o::rest) a w:=by
 refine wpList_step fun K hK=>?_
 rw[if_pos hw]
 obtain⟨v',w',hr,h2,h3,_⟩:=Zki w T E o.type z size bytes hT hinfo hz1 hsz hby base v k xs hown vx m news hh hl h1 hk hbase
 unfold Oper.wp
 simp[execOp,ho,resolve,invoke,builtin,hs,hx,hr,Result.andThen]
 exact hK _ _ (h v' w' h2 h3)
theorem Zin {w w':World} {base:Nat} {e:TypeId} {s:Nat} {v:Value} {n:Nat} {xs:List Value} (h:w.ownsRow base e s v n xs) (hk:Below w.heap.size w w'):w'.ownsRow base e s v n xs:=by
 refine⟨h.1,?_⟩
 rcases h.2 with h1 | ⟨g,cap,cur,q1,q2,q3,q4⟩
 ·exact .inl h1
 ·exact .inr ⟨g,cap,cur,q1,q2,(hk.block g (Array.getElem?_eq_some_iff.1 q3).1).trans q3,q4⟩
theorem owns_ge {w:World} {base:Nat} {e:TypeId} {s:Nat} {v:Value} {n:Nat} {xs:List Value} (h:w.ownsRow base e s v n xs) {j:Nat} (hj:v.ownBlock=some j):base≤j:=by
 rcases h.2 with ⟨rfl,_⟩ | ⟨g,cap,cur,rfl,hb,_⟩
 ·cases hj
 ·simp[Value.ownBlock] at hj;omega
def Low (W w:World):Prop:=Below W.heap.size W w
theorem ZgX (W w:World):Low W w.drew↔Low W w:=⟨fun h=>⟨h.os,h.tape,h.output,h.size,h.block⟩,fun h=>Below.dN h 1⟩
theorem ZgV {W w:World} (o:Obj) (h:Low W w):Low W (w.alloc o):=Below.alloc h (Below.size h) o
structure St (W:World) (e:TypeId) (s:Nat) (v:Value) (k:Nat) (xs:List Value) (w:World):Prop where
 own:w.ownsRow W.heap.size e s v k xs
 low:Below W.heap.size W w
theorem Zlm (W:World) (e:TypeId) (s:Nat) (v:Value) (k:Nat) (xs:List Value) (w:World):St W e s v k xs w.drew↔St W e s v k xs w :=
 ⟨fun h=>⟨h.own,⟨h.low.os,h.low.tape,h.low.output,h.low.size,h.low.block⟩⟩,fun h=>⟨h.own,Below.dN h.low 1⟩⟩
theorem St.grown {W:World} {e:TypeId} {s:Nat} {v v':Value} {k k':Nat} {xs xs':List Value} {w w':World} (h:St W e s v k xs w) (ho:w'.ownsRow W.heap.size e s v' k' xs') (hg:w.grownBy w' v.ownBlock):St W e s v' k' xs' w' :=
 ⟨ho,h.low.grown hg h.low.size (fun _ hj=>owns_ge h.own hj)⟩
end

section
open Go.RowKit
attribute [local simp] ZgX
theorem Zbq (w:World) (o o2:Obj):((w.alloc o).alloc o2).heap[w.heap.size+1]?=some o2:=by
 have h:=_root_.Go.heap_alloc_new (w.alloc o) o2
 rw[World.size_alloc] at h
 exact h
end

end Go.Proofs.YtcnjephlmcnodaaGreatDoor
