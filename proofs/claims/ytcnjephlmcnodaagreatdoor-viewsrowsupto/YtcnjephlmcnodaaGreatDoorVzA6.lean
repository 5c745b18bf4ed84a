/-
  Texts that belong together, joined: PcDf, PaRow, PaUq, PaPc, PaPg, PaCp, PaIn, PaRp, PaSr, PaHd, PaWi, PaBk, PaRs, MiWm, EdRMk.
-/
import Derived.Test.YtcnjephlmcnodaaGreatDoorVzA5
import Derived.Shelf.RegionOpenPlain
import Derived.Laws.CopyOwn
import Derived.Lib.Overlaps
import Derived.Lib.AppendZerosOnto
import Derived.Deep.CutRange

set_option maxHeartbeats 16000000
set_option maxRecDepth 100000
namespace Go.Proofs.YtcnjephlmcnodaaGreatDoor

section
open Go.RowKit
theorem ZbH (a b:Int) (l:List Rn):(betw a b l).length≤l.length:=by
 induction l generalizing a b with
 | nil=>simp[betw]
 | cons r l ih =>
  rw[betw]
  have:=ih (r.a+r.n) (r.b+r.n)
  split<;>simp<;>omega
theorem ZhA (K:List Int) (m:Int):(mkL K m).length≤K.length+1:=by
 unfold mkL
 have h1:=ZbH 0 0 (keptR 0 K++[⟨(K.length:Int),m,0⟩])
 have h2:=ZfV 0 K
 rw[List.length_append,List.length_singleton] at h1
 omega
theorem Ziq (x y:List Int) (vx vy:Value) (w:World) (hx:HI w vx x) (hy:HI w vy y) (hxl:x.length≤4096) (hyl:y.length≤4096) (F:Nat) (cap:Array Value) (eF:∀ args w,(callFunc F args).run Tryz.prog w=.ok (.enter F args) w) (KF:List Int) (hK:Hid (Kpt x y KF))
  (hf:Hid (∀ (u:World) (g:Nat) (xo:Option Addr) (xc:Nat) (yo:Option Addr) (yc:Nat),Ls w g x.length (List.replicate x.length (-1)) u→Pz w g x y 0 x.length 0 y.length xo x.length xc yo y.length yc (some ⟨g,0,none⟩) x.length→Calls Tryz.prog F (#[.agg #[.slice xo x.length xc,.slice yo y.length yc,.int .i64 0,.slice (some ⟨g,0,none⟩) x.length x.length]]++cap) u fun e w'=>e=.returned (.tuple #[])∧Ls w g x.length KF w'∧u.grownBy w' (some g))) (L:List Ch) (hL:Hid (mkL KF y.length=L)) :
  Calls Tryz.prog 90 #[vx,vy,.func (.func F) #[] cap] w fun e w'=>∃ v',e=.returned (.tuple #[v',.int .i64 0])∧HCh w' v' L∧Below w.heap.size w w':=by
 obtain⟨xo,xc,rfl⟩:=Holds.form hx
 obtain⟨yo,yc,rfl⟩:=Holds.form hy
 have e1:decide ((4096:Int)<(x.length:Int))=false:=decide_eq_false (by omega)
 have e2:decide ((4096:Int)<(y.length:Int))=false:=decide_eq_false (by omega)
 go_enter Tryz.func90,Tryz.ntmps90
 go_wp2_with fail
 have hB0:Below w.heap.size w (w.alloc (Obj.cells #[Value.int IntKind.i64 (-1)] 3)):=(Below.refl _ w).alloc (Nat.le_refl _) _
 refine (ZaK x.length (by omega) _ _ (show HI _ _ [-1] from ZhL w _ _ _ _ (by decide))).mono ?_
 rintro e w1 ⟨g,rfl,hO1,hB1⟩
 have hB01:=hB0.trans (hB1.mono hB0.size)
 have hO1':w1.ownsRow w.heap.size 3 1 (.slice (some ⟨g,0,none⟩) x.length x.length) x.length (icells (List.replicate x.length (-1))):=by
  refine⟨hO1.1,?_⟩
  rcases hO1.2 with h | ⟨g',cap,cur,q1,q2,q3⟩
  ·exact .inl h
  ·exact .inr ⟨g',cap,cur,q1,Nat.le_trans (by simp) q2,q3⟩
 have hp:Pz w g x y 0 x.length 0 y.length xo x.length xc yo y.length yc (some ⟨g,0,none⟩) x.length:=⟨by omega,by omega,Nat.le_refl _,Nat.le_refl _,by rw[Zlw];exact hx,by rw[Zlw];exact hy,Nat.le_refl _,fun _=>rfl⟩
 have hc:=hf.out w1 g xo xc yo yc ⟨hB01,hO1'⟩ hp
 clear hB0 hB1 hO1 hO1'
 go_wp2_with (first | (go_at_fn F;refine hc.mono ?_;rintro e w2 ⟨rfl,hS2,hG2⟩) | fail)
 have hKl:=hK.out.len
 have hv2:HI w2 (.slice (some ⟨g,0,none⟩) x.length x.length) KF:=by
  unfold HI
  rw[hKl]
  exact holds_of hS2.own
 refine (ZaG KF y.length L _ w2 hv2 (by omega) hK.out.vk (by omega) (by omega) hL).mono ?_
 rintro e w3 ⟨v3,rfl,hv3,hB3⟩
 have hB:=hS2.low.trans (hB3.mono hS2.low.size)
 clear hc hKl hv2
 go_wp2
 go_ret2
 exact⟨_,rfl,hv3,hB⟩
end

section
open Go.RowKit
def prV (p:Pr):Value:=.agg #[.int .i64 p.X,.int .i64 p.Y]
def prC (p:Pr):List Value:=[.int .i64 p.X,.int .i64 p.Y]
def prcells (l:List Pr):List Value:=l.flatMap prC
theorem infoPr:(Tryz.prog.info? 133).map (fun i=>(i.zero,i.size,i.bytes))=some (some (.agg #[.int .i64 0,.int .i64 0]),2,16):=by kernel_rfl
theorem ZiZ (l:List Pr):(prcells l).length=l.length * 2:=by
 induction l with
 | nil=>rfl
 | cons p t ih=>simp only[prcells,List.flatMap_cons,List.length_append,List.length_cons,prC,List.length_nil] at ih ⊢;omega
theorem ZiW (a b:List Pr):prcells (a++b)=prcells a++prcells b:=by simp[prcells]
theorem Zja (l:List Pr):∀ u∈prcells l,u.oneCell'=true:=by
 intro u hu
 simp only[prcells,List.mem_flatMap] at hu
 obtain⟨p,_,hp⟩:=hu
 simp[prC] at hp
 rcases hp with rfl | rfl<;>rfl
theorem ZiX (l:List Pr) (k:Nat) (hk:k<l.length):(prcells l)[2 * k]?=some (.int .i64 l[k].X)∧(prcells l)[2 * k+1]?=some (.int .i64 l[k].Y):=by
 induction l generalizing k with
 | nil=>simp at hk
 | cons p t ih =>
  have e:prcells (p::t)=.int .i64 p.X::.int .i64 p.Y::prcells t:=rfl
  cases k with
  | zero=>rw[e];exact⟨rfl,rfl⟩
  | succ k =>
   have:=ih k (by simpa using hk)
   rw[e,show 2 * (k+1)=2 * k+1+1 by omega]
   simpa using this
theorem Zjb (l:List Pr) (k:Nat):prcells (l.take k)=(prcells l).take (2 * k):=by
 induction l generalizing k with
 | nil=>simp[prcells]
 | cons p t ih =>
  cases k with
  | zero=>simp[prcells]
  | succ k =>
   have e:prcells (p::t)=.int .i64 p.X::.int .i64 p.Y::prcells t:=rfl
   have e2:prcells ((p::t).take (k+1))=.int .i64 p.X::.int .i64 p.Y::prcells (t.take k):=rfl
   rw[e,e2,ih,show 2 * (k+1)=2 * k+1+1 by omega]
   rfl
theorem ZiY (l:List Pr) (k:Nat):prcells (l.drop k)=(prcells l).drop (2 * k):=by
 induction l generalizing k with
 | nil=>simp[prcells]
 | cons p t ih =>
  cases k with
  | zero=>simp
  | succ k =>
   have e:prcells (p::t)=.int .i64 p.X::.int .i64 p.Y::prcells t:=rfl
   rw[e,List.drop_succ_cons,ih,show 2 * (k+1)=2 * k+1+1 by omega]
   rfl
def HPr (w:World) (v:Value) (l:List Pr):Prop:=Holds w v l.length (prcells l)
theorem HPr.keep {w w':World} {v:Value} {l:List Pr} (h:HPr w v l) {N:Nat} (hk:Below N w w') (hN:w.heap.size≤N):HPr w' v l:=Holds.keep h fun k hk'=>hk.block k (by omega)
theorem HPr.at {w:World} {ao:Option Addr} {n c:Nat} {l:List Pr} (h:HPr w (.slice ao n c) l) (h0:0<l.length):∃ b off,ao=some ⟨b,off,none⟩∧b<w.heap.size ∧
  ∀ k (hk:k<l.length),w.cell? ⟨b,off+k * 2,none⟩=some (.int .i64 l[k].X)∧w.cell? ⟨b,off+k * 2+1,none⟩=some (.int .i64 l[k].Y):=by
 obtain⟨b,off,c',hv,hb,hc⟩:=Holds.at h (by rw[ZiZ];omega)
 cases hv
 refine⟨b,off,rfl,hb,fun k hk=>?_⟩
 obtain⟨h1,h2⟩:=ZiX l k hk
 obtain⟨l1,e1⟩:=List.getElem?_eq_some_iff.1 h1
 obtain⟨l2,e2⟩:=List.getElem?_eq_some_iff.1 h2
 have g1:=hc _ l1
 have g2:=hc _ l2
 rw[e1] at g1
 rw[e2] at g2
 rw[show k * 2=2 * k by omega,Nat.add_assoc]
 exact⟨g1,g2⟩
end

section
open Go.RowKit
def tm (c:Int):List Int→Nat
 | []=>0
 | a::x=>(if a=c then 1 else 0)+tm c x
def ps (c i:Int):Int→List Int→List Pr
 | _,[]=>[]
 | j,b::y=>(if b=c then [⟨i,j⟩] else [])++ps c i (j+1) y
def uq (x0 y0:List Int):Int→List Int→List Pr
 | _,[]=>[]
 | i,a::x=>(if tm a x0=1∧tm a y0=1 then ps a i 0 y0 else [])++uq x0 y0 (i+1) x
def unq (x y:List Int):List Pr:=uq x y 0 x
theorem Zjd (c i j:Int) (y:List Int):(ps c i j y).length=tm c y:=by
 induction y generalizing j with
 | nil=>rfl
 | cons b y ih =>
  rw[ps,tm,List.length_append,ih]
  split<;>simp
theorem Zms (x0 y0:List Int) (i:Int) (x:List Int):(uq x0 y0 i x).length≤x.length:=by
 induction x generalizing i with
 | nil=>simp[uq]
 | cons a x ih =>
  rw[uq,List.length_append,List.length_cons]
  have:=ih (i+1)
  split
  ·rename_i h
   rw[Zjd]
   omega
  ·simp;omega
end

section
theorem ZiD (left:Nat) (last:Option Pr) (l:List Pr) (ns:List Nat):∀ p∈pick left last l ns,p∈l:=by
 induction l generalizing left last ns with
 | nil=>intro p hp;simp[pick] at hp
 | cons a l ih =>
  intro p hp
  cases ns with
  | nil=>simp[pick] at hp
  | cons n ns =>
   rw[pick] at hp
   split at hp
   ·rcases List.mem_cons.1 hp with rfl | hp
    ·exact List.mem_cons_self ..
    ·exact List.mem_cons_of_mem _ (ih _ _ _ p hp)
   ·exact List.mem_cons_of_mem _ (ih _ _ _ p hp)
theorem ZiE (left:Nat) (last:Option Pr) (l:List Pr) (ns:List Nat):(pick left last l ns).Pairwise (fun p q=>ab q p)∧∀ q,last=some q→∀ p∈pick left last l ns,ab p q:=by
 induction l generalizing left last ns with
 | nil=>exact⟨by simp[pick],fun _ _ p hp=>by simp[pick] at hp⟩
 | cons a l ih =>
  cases ns with
  | nil=>exact⟨by simp[pick],fun _ _ p hp=>by simp[pick] at hp⟩
  | cons n ns =>
   rw[pick]
   split
   ·rename_i h
    obtain⟨h1,h2⟩:=ih (left-1) (some a) ns
    refine⟨List.Pairwise.cons (fun q hq=>h2 a rfl q hq) h1,fun q hq p hp=>?_⟩
    rcases List.mem_cons.1 hp with rfl | hp
    ·exact h.2 q hq
    ·exact ZaY (h2 a rfl p hp) (h.2 q hq)
   ·exact ih left last ns
theorem ZgN (l:List Pr):∀ p∈lng l,p∈l:=ZiD _ _ _ _
theorem ZgO (l:List Pr):(lng l).Pairwise (fun p q=>ab q p):=(ZiE _ _ _ _).1
theorem Zje {c i:Int} (y:List Int):∀ (j:Int) (p:Pr),p∈ps c i j y→p.X=i∧j≤p.Y∧p.Y<j+y.length:=by
 induction y with
 | nil=>intro j p hp;simp[ps] at hp
 | cons b y ih =>
  intro j p hp
  rw[ps,List.mem_append] at hp
  rcases hp with hp | hp
  ·split at hp
   ·simp at hp
    subst hp
    exact⟨rfl,Int.le_refl _,by simp;omega⟩
   ·simp at hp
  ·have:=ih (j+1) p hp
   simp only[List.length_cons]
   omega
theorem Zmt (x0 y0:List Int) (x:List Int):∀ (i:Int) (p:Pr),p∈uq x0 y0 i x→i≤p.X∧p.X<i+x.length∧0≤p.Y∧p.Y<y0.length:=by
 induction x with
 | nil=>intro i p hp;simp[uq] at hp
 | cons a x ih =>
  intro i p hp
  rw[uq,List.mem_append] at hp
  rcases hp with hp | hp
  ·split at hp
   ·have:=Zje y0 0 p hp
    simp only[List.length_cons]
    omega
   ·simp at hp
  ·have:=ih (i+1) p hp
   simp only[List.length_cons]
   omega
theorem Zhf (x y:List Int) (p:Pr) (hp:p∈lng (unq x y)):0≤p.X∧p.X<x.length∧0≤p.Y∧p.Y<y.length:=by
 have:=Zmt x y x 0 p (ZgN _ p hp)
 omega
def gos (rec:Nat→Nat→Nat→Nat→List Pr) (A C b d:Nat):Nat→Nat→List Pr→List Pr
 | a,c,[]=>rec a b c d
 | a,c,p::L=>rec a (A+p.X.toNat) c (C+p.Y.toNat)++⟨(A+p.X.toNat:Nat),(C+p.Y.toNat:Nat)⟩::gos rec A C b d (A+p.X.toNat+1) (C+p.Y.toNat+1) L
def pmid (x y:List Int) (rec:Nat→Nat→Nat→Nat→List Pr) (a b c d:Nat):List Pr :=
 if lng (unq (sub x a b) (sub y c d))=[] then lp a c (kp 0 (sub x a b) (sub y c d)) else gos rec a c b d a c (lng (unq (sub x a b) (sub y c d)))
theorem Zjc {c i:Int} (y:List Int):∀ (j:Nat) (p:Pr),p∈ps c i j y→y[p.Y.toNat-j]?=some c:=by
 induction y with
 | nil=>intro j p hp;simp[ps] at hp
 | cons b y ih =>
  intro j p hp
  rw[ps,List.mem_append] at hp
  rcases hp with hp | hp
  ·split at hp
   ·rename_i h
    simp at hp
    subst hp
    simp[h]
   ·simp at hp
  ·have h1:=ih (j+1) p (by simpa using hp)
   have h2:=Zje y (j+1:Int) p hp
   rw[show p.Y.toNat-j=(p.Y.toNat-(j+1))+1 by omega]
   simpa using h1
theorem Zmr (x0 y0:List Int) (x:List Int):∀ (i:Nat) (p:Pr),p∈uq x0 y0 i x→x[p.X.toNat-i]?=y0[p.Y.toNat]?:=by
 induction x with
 | nil=>intro i p hp;simp[uq] at hp
 | cons a x ih =>
  intro i p hp
  rw[uq,List.mem_append] at hp
  rcases hp with hp | hp
  ·split at hp
   ·have h1:=Zjc y0 0 p (by simpa using hp)
    have h2:=Zje y0 0 p hp
    simp at h1
    rw[h1,h2.1]
    simp
   ·simp at hp
  ·have h1:=ih (i+1) p (by simpa using hp)
   have h2:=Zmt x0 y0 x (i+1:Int) p hp
   rw[show p.X.toNat-i=(p.X.toNat-(i+1))+1 by omega]
   simpa using h1
theorem ZjL (x y:List Int) (a b c d:Nat) (hb:b≤x.length) (hd:d≤y.length) (p:Pr) (hp:p∈lng (unq (sub x a b) (sub y c d))):0≤p.X∧0≤p.Y∧a≤a+p.X.toNat∧a+p.X.toNat<b∧c≤c+p.Y.toNat∧c+p.Y.toNat<d∧x[a+p.X.toNat]?=y[c+p.Y.toNat]?:=by
 have h:=Zhf _ _ p hp
 have h2:=Zmr _ _ _ 0 p (ZgN _ p hp)
 rw[Zlz x a b hb,Zlz y c d hd] at h
 rw[Nat.sub_zero,Zlx x a b _ (by omega),Zlx y c d _ (by omega)] at h2
 refine⟨by omega,by omega,by omega,by omega,by omega,by omega,h2⟩
theorem ZeC (x y:List Int) (rec:Nat→Nat→Nat→Nat→List Pr) (A C b d:Nat) (hrec:∀ a' b' c' d',a'≤b'→b'≤b→c'≤d'→d'≤d→Okp x y a' b' c' d' (rec a' b' c' d')) (L:List Pr) :
  ∀ a c,a≤b→c≤d→(∀ p∈L,0≤p.X∧0≤p.Y∧a≤A+p.X.toNat∧A+p.X.toNat<b∧c≤C+p.Y.toNat∧C+p.Y.toNat<d∧x[A+p.X.toNat]?=y[C+p.Y.toNat]?)→L.Pairwise (fun p q=>ab q p)→Okp x y a b c d (gos rec A C b d a c L):=by
 induction L with
 | nil=>intro a c ha hc _ _;exact hrec a b c d ha (Nat.le_refl _) hc (Nat.le_refl _)
 | cons p L ih =>
  intro a c ha hc hL hR
  rw[gos]
  have hp:=hL p (List.mem_cons_self ..)
  have hR':=List.pairwise_cons.1 hR
  have h1:=hrec a (A+p.X.toNat) c (C+p.Y.toNat) (by omega) (by omega) (by omega) (by omega)
  have h2:=Okp.one hp.2.2.2.2.2.2
  have h3:=ih (A+p.X.toNat+1) (C+p.Y.toNat+1) (by omega) (by omega) (fun q hq=>by
   have e1:=hL q (List.mem_cons_of_mem _ hq)
   have e2:=hR'.1 q hq
   unfold ab at e2
   refine⟨by omega,by omega,by omega,by omega,by omega,by omega,e1.2.2.2.2.2.2⟩) hR'.2
  exact h1.cat (h2.cat h3 (.inl ⟨by omega,by omega⟩) (A:=A+p.X.toNat) (B:=b) (C:=C+p.Y.toNat) (D:=d) ⟨by omega,by omega⟩ ⟨by omega,by omega⟩ ⟨by omega,by omega⟩ ⟨by omega,by omega⟩) (.inl ⟨by omega,by omega⟩) ⟨by omega,by omega⟩ ⟨by omega,by omega⟩ ⟨by omega,by omega⟩ ⟨by omega,by omega⟩
theorem ZiT (x y:List Int):MOk (pmid x y) x y:=by
 intro rec a b c d hab hb hcd hd hrec
 unfold pmid
 split
 ·exact Zgz x y a b c d (by omega) hb (by omega) hd
 ·exact ZeC x y rec a c b d (fun a' b' c' d' h1 h2 h3 h4=>hrec a' b' c' d' h1 (by omega) h3 (by omega)) _ a c (by omega) (by omega) (fun p hp=>ZjL x y a b c d hb hd p hp) (ZgO _)
end

section
structure Gs (rec:Nat→Nat→Nat→Nat→List Pr) (A C b d:Nat) (L:List Pr) (a c:Nat) (K KF:List Int):Prop where
 ab':a≤b
 cd:c≤d
 Aa:A≤a
 Cc:C≤c
 all:∀ p∈L,0≤p.X∧0≤p.Y∧a≤A+p.X.toNat∧A+p.X.toNat<b∧c≤C+p.Y.toNat∧C+p.Y.toNat<d
 up:L.Pairwise (fun p q=>ab q p)
 fin:wrk K (gos rec A C b d a c L)=KF
theorem Gs.start {rec:Nat→Nat→Nat→Nat→List Pr} {x y:List Int} {a b c d:Nat} (hab:a≤b) (hb:b≤x.length) (hcd:c≤d) (hd:d≤y.length) {K KF:List Int} (h:wrk K (gos rec a c b d a c (lng (unq (sub x a b) (sub y c d))))=KF):Gs rec a c b d (lng (unq (sub x a b) (sub y c d))) a c K KF :=
 ⟨hab,hcd,Nat.le_refl _,Nat.le_refl _,fun p hp=>by have:=ZjL x y a b c d hb hd p hp;omega,ZgO _,h⟩
section
variable {rec:Nat→Nat→Nat→Nat→List Pr} {A C b d:Nat} {p:Pr} {L:List Pr} {a c:Nat} {K KF:List Int}
theorem Gs.head (h:Gs rec A C b d (p::L) a c K KF):∃ u v:Nat,p.X=u∧p.Y=v∧a≤A+u∧A+u<b∧c≤C+v∧C+v<d:=by
 have:=h.all p (List.mem_cons_self ..)
 exact⟨p.X.toNat,p.Y.toNat,by omega,by omega,by omega,by omega,by omega,by omega⟩
theorem Gs.step (h:Gs rec A C b d (p::L) a c K KF) {u v:Nat} (hu:p.X=u) (hv:p.Y=v):Gs rec A C b d L (A+u+1) (C+v+1) (wrk (wrk K (rec a (A+u) c (C+v))) (fp (A+u) (C+v) 1)) KF:=by
 have h0:=h.all p (List.mem_cons_self ..)
 have h1:=List.pairwise_cons.1 h.up
 have e1:p.X.toNat=u:=by omega
 have e2:p.Y.toNat=v:=by omega
 refine⟨by omega,by omega,by have:=h.Aa;omega,by have:=h.Cc;omega,fun q hq=>?_,h1.2,?_⟩
 ·have h2:=h.all q (List.mem_cons_of_mem _ hq)
  have h3:=h1.1 q hq
  unfold ab at h3
  omega
 ·rw[← h.fin,gos,e1,e2,← Zoj,← Zoj]
  rfl
theorem Gs.end' (h:Gs rec A C b d [] a c K KF):wrk K (rec a b c d)=KF:=h.fin
end
end

section
open Go.RowKit
def Blk (w:World) (g:Nat) (cur:List Value):Prop:=w.heap[g]?=some (.cells cur.toArray 133 (0,0))
def spl (cur:List Value) (o:Nat) (cs:List Value):List Value:=cur.take o++cs++cur.drop (o+cs.length)
theorem Zli {cur:List Value} {o:Nat} {cs:List Value} (h:o+cs.length≤cur.length):(spl cur o cs).length=cur.length:=by
 unfold spl
 simp
 omega
theorem Zlj {cur:List Value} {o:Nat} {cs:List Value} (h:o+cs.length≤cur.length) (k:Nat) (hk:k=o+cs.length):(spl cur o cs).take k=cur.take o++cs:=by
 unfold spl
 subst hk
 rw[List.take_left' (by simp;omega)]
theorem Blk.cell {w:World} {g:Nat} {cur:List Value} (h:Blk w g cur) (j:Nat):w.cell? ⟨g,j,none⟩=cur[j]?:=by
 rw[cell_of_row w g j cur.toArray _ (0,0) h]
 simp
theorem ZkV:∀ u:World,(sizeOf 133).run Tryz.prog u=.ok 2 u:=fun u=>by kernel_rfl
theorem ZkO (w:World) (g:Nat) (cs:Array Value):w.grownBy (w.setRow g cs) (some g) :=
 ⟨rfl,rfl,rfl,by simp[World.setRow],fun k _ hk=>setRow_other w g k cs (fun e=>hk (by rw[e]))⟩
theorem Zkp {T T':TypeId} (hT:Tryz.prog.underlying T=some (.slice 133)) (w:World) (ty:TypeId) (g o dLen dCap:Nat) (a:Addr) (sLen sCap:Nat) (cur cs:List Value) (k:Nat)
  (hg:Blk w g cur) (hk:Nat.min sLen dLen=k) (hn:cs.length=k * 2) (hsrc:∀ j v,cs[j]?=some v→w.cell? (a.add j)=some v) (hfit:o+cs.length≤cur.length) (h1:∀ v∈cs,v.oneCell'=true) :
  (Builtin.copy_ #[T,T'] ty #[.slice (some ⟨g,o,none⟩) dLen dCap,.slice (some a) sLen sCap]).run Tryz.prog w=.ok (goInt k) (w.setRow g (spl cur o cs).toArray):=by
 have hl:=run_loadCells_list (P:=Tryz.prog) w a cs hsrc
 have hst:=run_storeCells_at Tryz.prog g o _ cs 0 cur.toArray w hg (by simpa using hfit) h1
 have hz:=ZkV w
 rw[hn] at hl
 simp[Builtin.copy_,run_underlying hT,Builtin.lenOf,Builtin.firstCells,hz,hk,hl,hst,spl]
theorem Zko {T:TypeId} (hT:Tryz.prog.underlying T=some (.slice 133)) (w:World) (ty:TypeId) (g o n c:Nat) (cur:List Value) (hg:Blk w g cur) (hfit:o+n * 2≤cur.length) :
  ∃ u,(Builtin.clear_ #[T] ty #[.slice (some ⟨g,o,none⟩) n c]).run Tryz.prog w=.ok (.tuple #[]) u∧w.grownBy u (some g)∧∃ cur':List Value,Blk u g cur'∧cur'.length=cur.length∧cur'.take o=cur.take o:=by
 cases n with
 | zero=>exact⟨w,by simp[Builtin.clear_,run_underlying hT],World.grownBy.refl _ _,cur,hg,rfl,rfl⟩
 | succ n =>
  obtain⟨zs,hzs⟩:∃ zs:List Value,(Builtin.zeroCells (Value.agg #[.int .i64 0,.int .i64 0]).cells (n+1)).toList=zs:=⟨_,rfl⟩
  have hzl:zs.length=(n+1) * 2:=by rw[← hzs];simp[Builtin.zeroCells,Value.cells]
  have hz1:∀ v∈zs,v.oneCell'=true:=by
   intro v hv
   rw[← hzs] at hv
   simp[Builtin.zeroCells,Value.cells] at hv
   obtain⟨k,hk,rfl⟩:=hv
   have:k % 2=0∨k % 2=1:=by omega
   rcases this with h | h<;>simp[h]<;>rfl
  have hst:=run_storeCells_at Tryz.prog g o _ zs 0 cur.toArray w hg (by simp;omega) hz1
  have hzv:(zeroValue 133).run Tryz.prog w=.ok (.agg #[.int .i64 0,.int .i64 0]) w:=by
   obtain⟨i0,hi,hz0,_,_⟩:=info_parts infoPr
   simp[zeroValue,typeInfo,hi,hz0]
  refine⟨w.setRow g (spl cur o zs).toArray,?_,ZkO _ _ _,_,setRow_heap w g _ _ _ _ hg,Zli (by omega),?_⟩
  ·simp[Builtin.clear_,run_underlying hT,hzv,hzs,hst,spl]
  ·unfold spl
   rw[List.append_assoc,List.take_left' (by simp;omega)]
theorem Zkm {T T':TypeId} (hT:Tryz.prog.underlying T=some (.slice 133)) (hT':Tryz.prog.underlying T'=some (.slice 133)) (ty:TypeId) (ao bo:Option Addr) (n c m d:Nat) (w:World):(Builtin.append_ #[T,T'] ty #[.slice ao n c,.slice bo m d]).run Tryz.prog w=(Builtin.append_ #[T,T] ty #[.slice ao n c,.slice bo m d]).run Tryz.prog w:=by
 have h1:=run_underlying hT
 have h2:=run_underlying hT'
 unfold Builtin.append_
 simp[h1,h2]
theorem Zkk {T T':TypeId} (hT:Tryz.prog.underlying T=some (.slice 133)) (hT':Tryz.prog.underlying T'=some (.slice 133)) (w:World) (ty:TypeId) (g n cap:Nat) (a:Addr) (m c:Nat) (cur cs:List Value)
  (hg:Blk w g cur) (hroom:n+m≤cap) (hn:cs.length=m * 2) (hsrc:∀ j v,cs[j]?=some v→w.cell? (a.add j)=some v) (hfit:n * 2+cs.length≤cur.length) (h1:∀ v∈cs,v.oneCell'=true) :
  (Builtin.append_ #[T,T'] ty #[.slice (some ⟨g,0,none⟩) n cap,.slice (some a) m c]).run Tryz.prog w=.ok (.slice (some ⟨g,0,none⟩) (n+m) cap) (w.setRow g (spl cur (n * 2) cs).toArray):=by
 have hl:=run_loadCells_list (P:=Tryz.prog) w a cs hsrc
 have hst:=run_storeCells_at Tryz.prog g (n * 2) _ cs 0 cur.toArray w hg (by simpa using hfit) h1
 have hz:=ZkV w
 rw[hn] at hl
 have h1:=run_underlying hT
 have h2:=run_underlying hT'
 simp[Builtin.append_,h1,h2,Builtin.lenOf,Builtin.firstCells,hz,hl,hroom,add_none,hst,spl]
theorem Zoi {ops:Array Oper} {rest:List Oper} {o:Oper} {a:Act} {Q:Exit→Act→World→Prop} (w:World) (hw:Region.wanted o (yielded ops a.tmps)=true) (d s:Operand) (T T':TypeId)
  (ho:o.op=.call { callee:=.builtin .copy,args:=#[d,s],argTypes:=#[T,T'] }) (v u:Value) (hd:a.eval d=v) (hs:a.eval s=u) (v':Value) (w':World)
  (hr:(Builtin.copy_ #[T,T'] o.type #[v,u]).run Tryz.prog w=.ok v' w') (h:wpList Tryz.prog ops Q rest (a.put o.dst v') w'):wpList Tryz.prog ops Q (o::rest) a w:=by
 refine wpList_step fun K hK=>?_
 rw[if_pos hw]
 unfold Oper.wp
 simp[execOp,ho,resolve,invoke,builtin,hd,hs,hr,Result.andThen]
 exact hK _ _ h
theorem Zlo {ops:Array Oper} {o:Oper} {a:Act} {K:Act→World→Prop} {Q:Exit→Act→World→Prop} {X:Prop} (w:World) (hgd:o.guard=none) (d s:Operand) (T T':TypeId)
  (ho:o.op=.call { callee:=.builtin .copy,args:=#[d,s],argTypes:=#[T,T'] }) (v u:Value) (hd:a.eval d=v) (hs:a.eval s=u) (v':Value) (w':World)
  (hr:(Builtin.copy_ #[T,T'] o.type #[v,u]).run Tryz.prog w=.ok v' w') (h:K (a.put o.dst v') w'):if Region.wanted o (yielded ops a.tmps)=true then Oper.wp Tryz.prog o a w K Q else X:=by
 have hw:Region.wanted o (yielded ops a.tmps)=true:=by simp[Region.wanted,hgd]
 rw[if_pos hw]
 unfold Oper.wp
 simp[execOp,ho,resolve,invoke,builtin,hd,hs,hr,Result.andThen]
 exact h
theorem Zod {ops:Array Oper} {rest:List Oper} {o:Oper} {a:Act} {Q:Exit→Act→World→Prop} (w:World) (hw:Region.wanted o (yielded ops a.tmps)=true) (d s:Operand) (T T':TypeId)
  (ho:o.op=.call { callee:=.builtin .append,args:=#[d,s],argTypes:=#[T,T'] }) (v u:Value) (hd:a.eval d=v) (hs:a.eval s=u) (v':Value) (w':World)
  (hr:(Builtin.append_ #[T,T'] o.type #[v,u]).run Tryz.prog w=.ok v' w') (h:wpList Tryz.prog ops Q rest (a.put o.dst v') w'):wpList Tryz.prog ops Q (o::rest) a w:=by
 refine wpList_step fun K hK=>?_
 rw[if_pos hw]
 unfold Oper.wp
 simp[execOp,ho,resolve,invoke,builtin,hd,hs,hr,Result.andThen]
 exact hK _ _ h
theorem Zoh {ops:Array Oper} {rest:List Oper} {o:Oper} {a:Act} {Q:Exit→Act→World→Prop} (w:World) (hw:Region.wanted o (yielded ops a.tmps)=true) (d:Operand) (T:TypeId)
  (ho:o.op=.call { callee:=.builtin .clear,args:=#[d],argTypes:=#[T] }) (v:Value) (hd:a.eval d=v) (v':Value) (w':World)
  (hr:(Builtin.clear_ #[T] o.type #[v]).run Tryz.prog w=.ok v' w') (h:wpList Tryz.prog ops Q rest (a.put o.dst v') w'):wpList Tryz.prog ops Q (o::rest) a w:=by
 refine wpList_step fun K hK=>?_
 rw[if_pos hw]
 unfold Oper.wp
 simp[execOp,ho,resolve,invoke,builtin,hd,hr,Result.andThen]
 exact hK _ _ h
theorem Zla {T:TypeId} (hT:Tryz.prog.underlying T=some (.slice 133)) (he:Tryz.prog.elem T=133) (g n cap l:Nat) (hl:l≤n) (hc:l<cap) (u:World):(Instr.slice T (.slice (some ⟨g,0,none⟩) n cap) (some (.int .i64 (l:Int))) none none).run Tryz.prog u=.ok (.slice (some ⟨g,l * 2,none⟩) (n-l) (cap-l)) u:=by
 rw[run_slice_l (P:=Tryz.prog) u T (some ⟨g,0,none⟩) n cap (by rw[hT,← he]) .i64 l (by omega) (by omega),he,ZkV]
 simp only[Result.andThen,sliced,Option.map_some,add_none]
 rw[if_neg (by omega)]
 simp
theorem Zlb {T:TypeId} (hT:Tryz.prog.underlying T=some (.slice 133)) (he:Tryz.prog.elem T=133) (g n cap h:Nat) (hc:h≤cap) (u:World):(Instr.slice T (.slice (some ⟨g,0,none⟩) n cap) none (some (.int .i64 (h:Int))) none).run Tryz.prog u=.ok (.slice (some ⟨g,0,none⟩) h cap) u:=by
 rw[run_slice_h (P:=Tryz.prog) u T (some ⟨g,0,none⟩) n cap (by rw[hT,← he]) .i64 h (by omega) (by omega),he,ZkV]
 simp only[Result.andThen,sliced,Option.map_some,add_none]
 simp
end

section
open Go.RowKit
theorem undH:Tryz.prog.underlying 176=some (.slice 133):=by kernel_rfl
theorem undP:Tryz.prog.underlying 129=some (.slice 133):=by kernel_rfl
theorem elemH:Tryz.prog.elem 176=133:=by kernel_rfl
theorem ZjH {w:World} {base:Nat} {v:Value} {n:Nat} {xs:List Value} (hO:w.ownsRow base 133 2 v n xs) (h0:0<n):∃ g cap cur,v=.slice (some ⟨g,0,none⟩) n cap∧base≤g∧Blk w g cur∧n≤cap∧cap≤maxLen∧cur.length=cap * 2∧cur.take (n * 2)=xs:=by
 rcases hO.2 with ⟨_,h1,_⟩ | ⟨g,cap,cur,q1,q2,q3,q4,q5,q6,q7⟩
 ·omega
 ·exact⟨g,cap,cur.toList,q1,q2,by unfold Blk;simpa using q3,q4,q5,by simpa using q6,q7⟩
theorem ZbK {w:World} {base g n cap:Nat} {cur xs:List Value} (hg:Blk w g cur) (hb:base≤g) (hn:n≤cap) (hc:cap≤maxLen) (hl:cur.length=cap * 2) (ht:cur.take (n * 2)=xs):w.ownsRow base 133 2 (.slice (some ⟨g,0,none⟩) n cap) n xs:=by
 refine⟨?_,.inr ⟨g,cap,cur.toArray,rfl,hb,hg,hn,hc,by simpa using hl,by simpa using ht⟩⟩
 rw[← ht,List.length_take]
 omega
theorem ZiV {w:World} {gp:Nat} {p:Pr} (h:Blk w gp (prC p)):∀ j v,(prC p)[j]?=some v→w.cell? ((⟨gp,0,none⟩:Addr).add j)=some v:=fun j v hj=>by
 rw[add_none,Nat.zero_add,h.cell j]
 exact hj
theorem ZiU (p:Pr):∀ u∈prC p,u.oneCell'=true:=by intro u hu;simp[prC] at hu;rcases hu with rfl | rfl<;>rfl
def Grows (base:Nat) (w:World) (v:Value) (v':Value) (l:List Pr) (w':World):Prop :=
 w'.ownsRow base 133 2 v' l.length (prcells l)∧w.grownBy w' v.ownBlock∧(v'.ownBlock=v.ownBlock∨∃ g,v'.ownBlock=some g∧w.heap.size≤g)
theorem Zdp (w:World) (r:Option Nat):w.grownBy w.drew r:=⟨rfl,rfl,rfl,Nat.le_refl _,fun _ _ _=>rfl⟩
theorem Zau (h:List Pr) (p:Pr) (v:Value) (gp base:Nat) (w:World) (hO:w.ownsRow base 133 2 v h.length (prcells h)) (hb:base≤w.heap.size) (hp:Blk w gp (prC p)) (hl:h.length≤1048576) :
  Calls Tryz.prog 141 #[v,.int .i64 (h.length:Int),.slice (some ⟨gp,0,none⟩) 1 1] w fun e w'=>∃ v',e=.returned v'∧Grows base w v v' (h++[p]) w':=by
 obtain⟨ao,c,rfl⟩:=(holds_of hO).form
 have hh:Holds w (.slice (some ⟨gp,0,none⟩) 1 1) 1 (prC p):=.inr ⟨_,1,rfl,Nat.le_refl _,ZiV hp⟩
 obtain⟨v',w',hr,h2,h3,h4⟩:=Zki w 176 133 176 (.agg #[.int .i64 0,.int .i64 0]) 2 16 undH infoPr rfl (by decide) (by decide) base (.slice ao h.length c) h.length (prcells h) hO (.slice (some ⟨gp,0,none⟩) 1 1) 1 (prC p) hh rfl (ZiU p) (by omega) hb
 have hr':∀ ty,(Builtin.append_ #[176,129] ty #[.slice ao h.length c,.slice (some ⟨gp,0,none⟩) 1 1]).run Tryz.prog w=.ok v' w':=fun ty=>(Zkm undH undP ty _ _ _ _ _ _ w).trans hr
 obtain⟨ao',c',rfl⟩:=(holds_of h2).form
 obtain⟨x0,x1,x2,s0⟩:∃ x0 x1 x2,∀ u:World,(Instr.slice 176 (.slice ao h.length c) (some (.int .i64 (h.length:Int))) none none).run Tryz.prog u=.ok (.slice x0 x1 x2) u:=⟨_,_,_,fun u=>by
  rw[run_slice_l (P:=Tryz.prog) u 176 ao h.length c (by rw[undH,← elemH]) .i64 h.length (by omega) (by omega),elemH,ZkV]
  rfl⟩
 go_enter Tryz.func141,Tryz.ntmps141
 go_wp2_with (at_builtin;refine Zod _ (by kernel_rfl) (.tmp 23) (.tmp 24) 176 129 rfl _ _ rfl rfl _ _ (hr' _) ?_)
 go_wp2
 go_ret
 refine⟨_,rfl,?_,h3,?_⟩
 ·rw[List.length_append,ZiW]
  exact h2
 ·rcases h4 with h4 | h4
  ·exact .inl h4
  ·exact .inr ⟨_,h4,Nat.le_refl _⟩
theorem Zax (h:List Pr) (p:Pr) (n i g cap gp base:Nat) (HN:Hid (h.length=n)) (cur:List Value) (w:World) (hg:Blk w g cur) (hgb:base≤g) (hi:i<n) (hroom:n+1≤cap) (hcm:cap≤maxLen) (hcl:Hid (cur.length=cap * 2)) (hct:Hid (cur.take (n * 2)=prcells h)) (hp:Blk w gp (prC p)) (hne:gp≠g) (hl:n≤1048576) :
  Calls Tryz.prog 141 #[.slice (some ⟨g,0,none⟩) n cap,.int .i64 (i:Int),.slice (some ⟨gp,0,none⟩) 1 1] w fun e w'=>∃ v',e=.returned v'∧Grows base w (.slice (some ⟨g,0,none⟩) n cap) v' (h.take i++p::h.drop i) w':=by
 have s0:=Zla undH elemH g n cap i (by omega) (by omega)
 have s1:=Zlb undH elemH g n cap (n+1) hroom
 have s2:=Zla undH elemH g (n+1) cap (i+1) (by omega) (by omega)
 have s3:=Zla undH elemH g (n+1) cap i (by omega) (by omega)
 rw[show ((n+1:Nat):Int)=(n:Int)+1 by simp] at s1
 rw[show ((i+1:Nat):Int)=(i:Int)+1 by simp] at s2
 have hw1:IntKind.i64.wrap ((i:Int)+1)=(i:Int)+1:=by rw[IntKind.wrap_i64];omega
 have hne1:((i:Int) == (n:Int))=false:=by simp;omega
 have hcap:decide ((cap:Int)<(n:Int)+1)=false:=decide_eq_false (by omega)
 have hcs1:((prcells h).drop (i * 2)).length=(n-i) * 2:=by rw[List.length_drop,ZiZ,HN.out];omega
 have hcp1:∀ (u:World) (ty:TypeId),u.heap=w.heap→(Builtin.copy_ #[176,176] ty #[.slice (some ⟨g,(i+1) * 2,none⟩) (n-i) (cap-(i+1)),.slice (some ⟨g,i * 2,none⟩) (n+1-i) (cap-i)]).run Tryz.prog u=.ok (goInt (n-i:Nat)) (u.setRow g (spl cur ((i+1) * 2) ((prcells h).drop (i * 2))).toArray):=fun u ty hu=>by
  have hgu:Blk u g cur:=by unfold Blk;rw[hu];exact hg
  refine Zkp undH u ty g _ _ _ ⟨g,i * 2,none⟩ _ _ cur _ (n-i) hgu (by simp only[Nat.min_def];split<;>omega) hcs1 (fun j v hj=>?_) (by rw[hcs1,hcl.out];omega) (fun v hv=>Zja h v (List.mem_of_mem_drop hv))
  rw[add_none,hgu.cell,← hj,List.getElem?_drop,← hct.out,List.getElem?_take,if_pos]
  have:=(List.getElem?_eq_some_iff.1 hj).1
  rw[hcs1] at this
  omega
 have hov:(callFunc 142 #[.slice (some ⟨gp,0,none⟩) 1 1,.slice (some ⟨g,(i+1) * 2,none⟩) (n-i) (cap-(i+1))]).run Tryz.prog w=.ok (.value (.bool false)) w:=by
  rw[run_callFunc_extern Tryz.func142 (by kernel_rfl) (by kernel_rfl) (by kernel_rfl) (e:=Extern.SlicesOverlaps.overlaps #[129,129] #[4]) (by kernel_rfl),Lib.run_overlaps_apart w 129 4 133 undP 2 ZkV ⟨gp,0,none⟩ ⟨g,(i+1) * 2,none⟩ 1 1 _ _ hne 133 133 2 cur.length (by unfold Blk at hp;simp[World.shape?,hp,prC]) (by unfold Blk at hg;simp[World.shape?,hg]) (by have:=hcl.out;omega) (by unfold Blk at hp;simp[World.frozen?,hp]) (by unfold Blk at hp;simp[World.frozen?,hp])]
  rfl
 go_enter Tryz.func141,Tryz.ntmps141
 go_wp2_with (simp only[hov])
 go_region_held3 (fun _=>True) (trivial) (first | (refine Zlo _ rfl (.tmp 73) (.tmp 76) 176 176 rfl _ _ rfl rfl _ _ (hcp1 _ _ (by first | rfl | trivial)) ?_))
 obtain⟨cur1,hcur1⟩:∃ c,spl cur ((i+1) * 2) ((prcells h).drop (i * 2))=c:=⟨_,rfl⟩
 obtain⟨W1,hW1⟩:∃ u,w.drew.setRow g cur1.toArray=u:=⟨_,rfl⟩
 have hG1:w.grownBy W1 (some g):=by rw[← hW1];exact (Zdp w (some g)).trans (ZkO w.drew g _)
 have hB1:Blk W1 g cur1:=by rw[← hW1];exact setRow_heap w.drew g _ _ _ _ hg
 have hP1:Blk W1 gp (prC p):=(hG1.block gp (Array.getElem?_eq_some_iff.1 hp).1 (fun e=>hne (Option.some.inj e))).trans hp
 have hl1:cur1.length=cap * 2:=by rw[← hcur1,Zli (by rw[hcs1,hcl.out];omega),hcl.out]
 have HC1:Hid (cur1=spl cur ((i+1) * 2) ((prcells h).drop (i * 2))):=hcur1.symm
 rw[hcur1,hW1]
 clear hcur1 hW1 hcp1 hov
 have hcp2:∀ ty,(Builtin.copy_ #[176,129] ty #[.slice (some ⟨g,i * 2,none⟩) (n+1-i) (cap-i),.slice (some ⟨gp,0,none⟩) 1 1]).run Tryz.prog W1=.ok (goInt (1:Nat)) (W1.setRow g (spl cur1 (i * 2) (prC p)).toArray):=fun ty =>
  Zkp undH W1 ty g _ _ _ ⟨gp,0,none⟩ _ _ cur1 _ 1 hB1 (by simp only[Nat.min_def];split<;>omega) rfl (ZiV hP1) (by rw[hl1];simp[prC];omega) (ZiU p)
 go_wp2_with (at_builtin;refine Zoi _ (by kernel_rfl) (.tmp 80) (.tmp 81) 176 129 rfl _ _ rfl rfl _ _ (hcp2 _) ?_)
 have hG2:=hG1.trans (ZkO W1 g (spl cur1 (i * 2) (prC p)).toArray)
 have hB2:Blk (W1.setRow g (spl cur1 (i * 2) (prC p)).toArray) g (spl cur1 (i * 2) (prC p)):=setRow_heap W1 g _ _ _ _ hB1
 generalize W1.setRow g (spl cur1 (i * 2) (prC p)).toArray=W2 at hG2 hB2 ⊢
 go_wp2
 go_ret
 refine⟨_,rfl,?_,hG2,.inl rfl⟩
 have hcp:(prC p).length=2:=rfl
 have hlen:(h.take i++p::h.drop i).length=n+1:=by
  have:=HN.out
  rw[List.length_append,List.length_cons,List.length_take,List.length_drop]
  omega
 rw[hlen]
 refine ZbK hB2 hgb hroom hcm (by rw[Zli (by rw[hcp,hl1];omega),hl1]) ?_
 have e1:cur1.take (i * 2)=prcells (h.take i):=by
  rw[HC1.out,spl,List.append_assoc,List.take_append_of_le_length (by rw[List.length_take,hcl.out];omega),List.take_take,Zjb,← hct.out,List.take_take]
  congr 1
  omega
 have e2:(cur1.drop (i * 2+2)).take ((n-i) * 2)=prcells (h.drop i):=by
  rw[HC1.out,spl,List.append_assoc,List.drop_append_of_le_length (by rw[List.length_take,hcl.out];omega),List.drop_of_length_le (by rw[List.length_take,hcl.out];omega),List.nil_append,List.take_left' hcs1,ZiY,Nat.mul_comm 2 i]
 unfold spl
 rw[hcp,e1]
 have e3:prcells (h.take i++p::h.drop i)=prcells (h.take i)++prC p++prcells (h.drop i):=by
  rw[ZiW,List.append_assoc]
  rfl
 have e4:(prcells (h.take i)++prC p).length=i * 2+2:=by
  have:=HN.out
  rw[List.length_append,ZiZ,List.length_take,hcp]
  omega
 rw[e3,← e2,List.take_append,e4,List.take_of_length_le (by rw[e4];omega)]
 congr 2
 omega
theorem Zaw (h:List Pr) (p:Pr) (n i g gp base:Nat) (HN:Hid (h.length=n)) (cur:List Value) (w:World) (hg:Blk w g cur) (hbw:base≤w.heap.size) (hi:i<n) (_hcl:Hid (cur.length=n * 2)) (hct:Hid (cur.take (n * 2)=prcells h)) (hp:Blk w gp (prC p)) (hl:n≤1048576) :
  Calls Tryz.prog 141 #[.slice (some ⟨g,0,none⟩) n n,.int .i64 (i:Int),.slice (some ⟨gp,0,none⟩) 1 1] w fun e w'=>∃ v',e=.returned v'∧Grows base w (.slice (some ⟨g,0,none⟩) n n) v' (h.take i++p::h.drop i) w':=by
 obtain⟨i0,hi0,hz0,hzs,hzb⟩:=info_parts infoPr
 have hpre:(prcells (h.take i)).length=i * 2:=by have:=HN.out;rw[ZiZ,List.length_take];omega
 have hold:(Builtin.firstCells i0.size i (.slice (some ⟨g,0,none⟩) i n)).run Tryz.prog w.drew=.ok (prcells (h.take i)).toArray w.drew:=by
  have hgd:Blk w.drew g cur:=hg
  have:=run_loadCells_list (P:=Tryz.prog) w.drew ⟨g,0,none⟩ (prcells (h.take i)) (fun j v hj=>by
   have hlt:=(List.getElem?_eq_some_iff.1 hj).1
   rw[hpre] at hlt
   rw[add_none,Nat.zero_add,hgd.cell,← hj,Zjb,← hct.out,List.getElem?_take,if_pos (by omega),List.getElem?_take,if_pos (by omega)])
  rw[hpre] at this
  simp only[Builtin.firstCells,hzs]
  exact this
 obtain⟨G,hG⟩:∃ G,grownCap w (n+1) n 133=G:=⟨_,rfl⟩
 have hGge:n+1≤G:=by rw[← hG];exact grownCap_ge _ _ _ _
 have hGle:G≤maxLen:=by rw[← hG];exact grownCap_le_maxLen _ _ _ _ (by unfold maxLen;omega)
 obtain⟨row,hrow⟩:∃ row:List Value,((prcells (h.take i)).toArray++Builtin.zeroCells (Value.agg #[.int .i64 0,.int .i64 0]).cells (n+1-i)++Builtin.zeroCells (Value.agg #[.int .i64 0,.int .i64 0]).cells (G-(n+1))).toList=row:=⟨_,rfl⟩
 have hrl:row.length=G * 2:=by
  rw[← hrow]
  simp[Builtin.zeroCells,Value.cells,hpre]
  omega
 have hrt:row.take (i * 2)=prcells (h.take i):=by
  rw[← hrow]
  simp only[Array.toList_append,List.append_assoc]
  rw[List.take_left' hpre]
 obtain⟨W0,hW0⟩:∃ W0,w.drew.alloc (.cells row.toArray 133)=W0:=⟨_,rfl⟩
 have hkk:(n:Int)+1-(i:Int)=((n+1-i:Nat):Int):=by omega
 have hrz:∀ ty,(Builtin.append_ #[176,3] ty #[.slice (some ⟨g,0,none⟩) i n,.int .i64 ((n:Int)+1-(i:Int))]).run Tryz.prog w=.ok (.slice (some ⟨w.heap.size,0,none⟩) (n+1) G) W0:=fun ty=>by
  have h:=Lib.run_append_grow_zeros (P:=Tryz.prog) w 176 3 ty 133 i0 _ .i64 .i64 undH (by kernel_rfl) hi0 hz0 (some ⟨g,0,none⟩) i n (prcells (h.take i)) hold (n+1-i) (by omega) (by omega) (by omega) (by omega) (by rw[hzb];omega) (by
   rw[hzb,show i+(n+1-i)=n+1 by omega]
   exact growslice_fits (by omega) (by omega))
  rw[show i+(n+1-i)=n+1 by omega,hG] at h
  rw[hkk,h,← hW0,← hrow]
 have hs0:W0.heap.size=w.heap.size+1:=by rw[← hW0];simp
 have hB0:Blk W0 w.heap.size row:=by rw[← hW0];exact _root_.Go.heap_alloc_new w.drew _
 have hG0:w.grownBy W0 none:=by rw[← hW0];exact (Zdp w none).trans (World.grownBy_alloc _ _ _)
 have hP0:Blk W0 gp (prC p):=(hG0.block gp (Array.getElem?_eq_some_iff.1 hp).1 (by simp)).trans hp
 have hg0:Blk W0 g cur:=(hG0.block g (Array.getElem?_eq_some_iff.1 hg).1 (by simp)).trans hg
 have hne:gp≠w.heap.size:=Nat.ne_of_lt (Array.getElem?_eq_some_iff.1 hp).1
 have hne2:g≠w.heap.size:=Nat.ne_of_lt (Array.getElem?_eq_some_iff.1 hg).1
 have hcp:(prC p).length=2:=rfl
 have hcp1:∀ ty,(Builtin.copy_ #[176,129] ty #[.slice (some ⟨w.heap.size,i * 2,none⟩) (n+1-i) (G-i),.slice (some ⟨gp,0,none⟩) 1 1]).run Tryz.prog W0=.ok (goInt (1:Nat)) (W0.setRow w.heap.size (spl row (i * 2) (prC p)).toArray):=fun ty =>
  Zkp undH W0 ty _ _ _ _ ⟨gp,0,none⟩ _ _ row _ 1 hB0 (by simp only[Nat.min_def];split<;>omega) rfl (ZiV hP0) (by rw[hrl,hcp];omega) (ZiU p)
 obtain⟨W1,hW1⟩:∃ u,W0.setRow w.heap.size (spl row (i * 2) (prC p)).toArray=u:=⟨_,rfl⟩
 have hB1:Blk W1 w.heap.size (spl row (i * 2) (prC p)):=by rw[← hW1];exact setRow_heap W0 _ _ _ _ _ hB0
 have hG1:W0.grownBy W1 (some w.heap.size):=by rw[← hW1];exact ZkO _ _ _
 have hg1:Blk W1 g cur:=(hG1.block g (Array.getElem?_eq_some_iff.1 hg0).1 (fun e=>hne2 (Option.some.inj e))).trans hg0
 rw[hW1] at hcp1
 have hl1:(spl row (i * 2) (prC p)).length=G * 2:=by rw[Zli (by rw[hrl,hcp];omega),hrl]
 have ht1:(spl row (i * 2) (prC p)).take (i * 2+2)=prcells (h.take i)++prC p:=by rw[Zlj (cur:=row) (o:=i * 2) (cs:=prC p) (by rw[hrl,hcp];omega) (i * 2+2) rfl,hrt]
 generalize spl row (i * 2) (prC p)=cur1 at hB1 hl1 ht1
 have hcs1:((prcells h).drop (i * 2)).length=(n-i) * 2:=by rw[List.length_drop,ZiZ,HN.out];omega
 have hcp2:∀ (u:World) (ty:TypeId),u.heap=W1.heap→(Builtin.copy_ #[176,176] ty #[.slice (some ⟨w.heap.size,(i+1) * 2,none⟩) (n-i) (G-(i+1)),.slice (some ⟨g,i * 2,none⟩) (n-i) (n-i)]).run Tryz.prog u=.ok (goInt (n-i:Nat)) (u.setRow w.heap.size (spl cur1 ((i+1) * 2) ((prcells h).drop (i * 2))).toArray):=fun u ty hu=>by
  have hgu:Blk u w.heap.size cur1:=by unfold Blk;rw[hu];exact hB1
  have hgs:Blk u g cur:=by unfold Blk;rw[hu];exact hg1
  refine Zkp undH u ty _ _ _ _ ⟨g,i * 2,none⟩ _ _ cur1 _ (n-i) hgu (by simp only[Nat.min_def];split<;>omega) hcs1 (fun j v hj=>?_) (by rw[hcs1,hl1];omega) (fun v hv=>Zja h v (List.mem_of_mem_drop hv))
  rw[add_none,hgs.cell,← hj,List.getElem?_drop,← hct.out,List.getElem?_take,if_pos]
  have:=(List.getElem?_eq_some_iff.1 hj).1
  rw[hcs1] at this
  omega
 have s0:=Zla undH elemH g n n i (by omega) (by omega)
 have s1:=Zlb undH elemH g n n i (by omega)
 have s2:=Zla undH elemH w.heap.size (n+1) G i (by omega) (by omega)
 have s3:=Zla undH elemH w.heap.size (n+1) G (i+1) (by omega) (by omega)
 rw[show ((i+1:Nat):Int)=(i:Int)+1 by simp] at s3
 have hw1:IntKind.i64.wrap ((i:Int)+1)=(i:Int)+1:=by rw[IntKind.wrap_i64];omega
 have hne1:((i:Int) == (n:Int))=false:=by simp;omega
 have hcap:decide ((n:Int)<(n:Int)+1)=true:=decide_eq_true (by omega)
 have hGW:w.grownBy W1 none:=⟨hG1.os.trans hG0.os,hG1.tape.trans hG0.tape,hG1.output.trans hG0.output,Nat.le_trans hG0.size hG1.size,fun k hk _=>(hG1.block k (by rw[hs0];omega) (fun e=>by have:=Option.some.inj e;omega)).trans (hG0.block k hk (by simp))⟩
 clear hW0 hW1 hold hi0 hz0 hzs hzb hrow hrl hrt hkk hg0 hP0 hB0 hG1
 go_enter Tryz.func141,Tryz.ntmps141
 go_wp2_with (at_builtin;refine Zod _ (by kernel_rfl) (.tmp 34) (.tmp 39) 176 3 rfl _ _ rfl rfl _ _ (hrz _) ?_)
 go_wp2_with (at_builtin;refine Zoi _ (by kernel_rfl) (.tmp 43) (.tmp 44) 176 129 rfl _ _ rfl rfl _ _ (hcp1 _) ?_)
 go_wp2_with fail
 go_region_held3 (fun _=>True) (trivial) (first | (refine Zlo _ rfl (.tmp 50) (.tmp 53) 176 176 rfl _ _ rfl rfl _ _ (hcp2 _ _ (by first | rfl | trivial)) ?_))
 have hGF:w.grownBy (W1.drew.setRow w.heap.size (spl cur1 ((i+1) * 2) ((prcells h).drop (i * 2))).toArray) none:=⟨hGW.os,hGW.tape,hGW.output,by simpa [World.setRow] using hGW.size,fun k hk _=>(setRow_other W1.drew _ k _ (by omega)).trans (hGW.block k hk (by simp))⟩
 have hBF:Blk (W1.drew.setRow w.heap.size (spl cur1 ((i+1) * 2) ((prcells h).drop (i * 2))).toArray) w.heap.size (spl cur1 ((i+1) * 2) ((prcells h).drop (i * 2))):=setRow_heap W1.drew _ _ _ _ _ hB1
 generalize W1.drew.setRow w.heap.size (spl cur1 ((i+1) * 2) ((prcells h).drop (i * 2))).toArray=WF at hGF hBF ⊢
 go_wp2
 go_ret
 have hlen:(h.take i++p::h.drop i).length=n+1:=by
  have:=HN.out
  rw[List.length_append,List.length_cons,List.length_take,List.length_drop]
  omega
 refine⟨_,rfl,?_,⟨hGF.os,hGF.tape,hGF.output,hGF.size,fun k hk _=>hGF.block k hk (by simp)⟩,.inr ⟨_,rfl,Nat.le_refl _⟩⟩
 rw[hlen]
 refine ZbK hBF hbw hGge hGle (by rw[Zli (by rw[hcs1,hl1];omega),hl1]) ?_
 have e3:prcells (h.take i++p::h.drop i)=prcells (h.take i)++prC p++prcells (h.drop i):=by
  rw[ZiW,List.append_assoc]
  rfl
 rw[Zlj (by rw[hcs1,hl1];omega) _ (by rw[hcs1];omega),show (i+1) * 2=i * 2+2 by omega,ht1,e3,ZiY,Nat.mul_comm 2 i]
end

section
open Go.RowKit
theorem Zav (h:List Pr) (p:Pr) (i gp base:Nat) (v:Value) (w:World) (hO:w.ownsRow base 133 2 v h.length (prcells h)) (hb:base≤w.heap.size) (hi:i≤h.length) (hp:Blk w gp (prC p)) (hne:v.ownBlock≠some gp) (hl:h.length≤1048576) :
  Calls Tryz.prog 141 #[v,.int .i64 (i:Int),.slice (some ⟨gp,0,none⟩) 1 1] w fun e w'=>∃ v',e=.returned v'∧Grows base w v v' (h.take i++p::h.drop i) w':=by
 by_cases hin:i=h.length
 ·have e:h.take i++p::h.drop i=h++[p]:=by subst hin;simp
  rw[e,hin]
  exact Zau h p v gp base w hO hb hp hl
 ·obtain⟨g,cap,cur,rfl,q2,q3,q4,q5,q6,q7⟩:=ZjH hO (by omega)
  by_cases hroom:h.length+1≤cap
  ·exact Zax h p h.length i g cap gp base rfl cur w q3 q2 (by omega) hroom q5 q6 q7 hp (fun e=>hne (by rw[e];rfl)) hl
  ·obtain rfl:cap=h.length:=by omega
   exact Zaw h p h.length i g gp base rfl cur w q3 hb (by omega) q6 q7 hp hl
theorem ZkZ (ao:Option Addr) (n cap l h:Nat) (hl:l≤h) (hc:h≤cap):∃ x0 x1 x2,∀ u:World,(Instr.slice 176 (.slice ao n cap) (some (.int .i64 (l:Int))) (some (.int .i64 (h:Int))) none).run Tryz.prog u=.ok (.slice x0 x1 x2) u:=⟨_,_,_,fun u=>by
 rw[run_slice_lh (P:=Tryz.prog) u 176 ao n cap (by rw[undH,← elemH]) .i64 .i64 l h (by omega) (by omega) (by omega),elemH,ZkV]
 rfl⟩
theorem Zik {w:World} {base:Nat} {e:TypeId} {s:Nat} {ao:Option Addr} {n cap:Nat} {xs:List Value} (hO:w.ownsRow base e s (.slice ao n cap) n xs):n≤cap:=by
 rcases hO.2 with ⟨h,h1⟩ | ⟨g,cap',cur,q1,q2,q3,q4,_⟩
 ·cases h;exact Nat.le_refl _
 ·cases q1;exact q4
theorem ZaM (h:List Pr) (p:Pr) (i gp base:Nat) (v:Value) (w:World) (hO:w.ownsRow base 133 2 v h.length (prcells h)) (hb:base≤w.heap.size) (hi:i≤h.length) (hp:Blk w gp (prC p)) (hne:v.ownBlock≠some gp) (hl:h.length≤1048576) :
  Calls Tryz.prog 135 #[v,.int .i64 (i:Int),.int .i64 (i:Int),.slice (some ⟨gp,0,none⟩) 1 1] w fun e w'=>∃ v',e=.returned v'∧Grows base w v v' (h.take i++p::h.drop i) w':=by
 obtain⟨ao,c,rfl⟩:=(holds_of hO).form
 obtain⟨x0,x1,x2,s0⟩:=ZkZ ao h.length c i i (Nat.le_refl _) (Nat.le_trans hi (Zik hO))
 have hI:=Zav h p i gp base _ w hO hb hi hp hne hl
 generalize h.take i++p::h.drop i=H' at hI ⊢
 go_enter Tryz.func135,Tryz.ntmps135
 go_wp2_with fail
 refine hI.mono ?_
 rintro e w1 ⟨v',rfl,hG⟩
 obtain⟨ao',c',rfl⟩:=(holds_of hG.1).form
 go_wp2
 go_ret
 exact⟨_,rfl,hG⟩
theorem ZaP (h:List Pr) (p:Pr) (n i g cap gp base:Nat) (HN:Hid (h.length=n)) (cur:List Value) (w:World) (hg:Blk w g cur) (hgb:base≤g) (hi:i<n) (hnc:n≤cap) (hcm:cap≤maxLen) (hcl:Hid (cur.length=cap * 2)) (hct:Hid (cur.take (n * 2)=prcells h)) (hp:Blk w gp (prC p)) (_hl:n≤1048576) :
  Calls Tryz.prog 135 #[.slice (some ⟨g,0,none⟩) n cap,.int .i64 (i:Int),.int .i64 (n:Int),.slice (some ⟨gp,0,none⟩) 1 1] w fun e w'=>∃ v',e=.returned v'∧Grows base w (.slice (some ⟨g,0,none⟩) n cap) v' (h.take i++p::h.drop n) w':=by
 obtain⟨x0,x1,x2,s0⟩:=ZkZ (some ⟨g,0,none⟩) n cap i n (by omega) hnc
 have s1:=Zlb undH elemH g n cap i (by omega)
 have hcp:(prC p).length=2:=rfl
 have hfit:i * 2+(prC p).length≤cur.length:=by rw[hcp,hcl.out];omega
 have hap:∀ ty,(Builtin.append_ #[176,129] ty #[.slice (some ⟨g,0,none⟩) i cap,.slice (some ⟨gp,0,none⟩) 1 1]).run Tryz.prog w=.ok (.slice (some ⟨g,0,none⟩) (i+1) cap) (w.setRow g (spl cur (i * 2) (prC p)).toArray):=fun ty =>
  Zkk undH undP w ty g i cap ⟨gp,0,none⟩ 1 1 cur (prC p) hg (by omega) rfl (ZiV hp) hfit (ZiU p)
 have hG1:=ZkO w g (spl cur (i * 2) (prC p)).toArray
 have hB1:Blk (w.setRow g (spl cur (i * 2) (prC p)).toArray) g (spl cur (i * 2) (prC p)):=setRow_heap w g _ _ _ _ hg
 have hl1:(spl cur (i * 2) (prC p)).length=cap * 2:=by rw[Zli hfit,hcl.out]
 have ht1:(spl cur (i * 2) (prC p)).take ((i+1) * 2)=prcells (h.take i++p::h.drop n):=by
  rw[Zlj hfit _ (by rw[hcp];omega),List.drop_of_length_le (by rw[HN.out];exact Nat.le_refl _),ZiW,Zjb,← hct.out,List.take_take]
  congr 2
  omega
 generalize w.setRow g (spl cur (i * 2) (prC p)).toArray=W1 at hap hG1 hB1
 generalize spl cur (i * 2) (prC p)=cur1 at hB1 hl1 ht1
 have hlen:(h.take i++p::h.drop n).length=i+1:=by
  have:=HN.out
  rw[List.length_append,List.length_cons,List.length_take,List.length_drop]
  omega
 have HE:Hid ((h.take i++p::h.drop n).length=i+1):=hlen
 clear hlen
 have hne1:((i:Int) == (n:Int))=false:=by simp;omega
 by_cases hin:i+1<n
 ·have s2:=Zla undH elemH g n cap (i+1) (by omega) (by omega)
  rw[show ((i+1:Nat):Int)=(i:Int)+1 by simp] at s2
  obtain⟨W2,hr2,hG2,cur2,hB2,hl2,ht2⟩:=Zko undH W1 0 g ((i+1) * 2) (n-(i+1)) (cap-(i+1)) cur1 hB1 (by rw[hl1];omega)
  have hd:decide ((i:Int)+1<(n:Int))=true:=decide_eq_true (by omega)
  go_enter Tryz.func135,Tryz.ntmps135
  go_wp2_with (at_builtin;refine Zod _ (by kernel_rfl) (.tmp 32) (.tmp 33) 176 129 rfl _ _ rfl rfl _ _ (hap _) ?_)
  go_wp2_with (at_builtin;refine Zoh _ (by kernel_rfl) (.tmp 43) 176 rfl _ rfl _ _ hr2 ?_)
  go_wp2
  go_ret
  refine⟨_,rfl,?_,hG1.trans hG2,.inl rfl⟩
  rw[HE.out]
  exact ZbK hB2 hgb (by omega) hcm (by rw[hl2,hl1]) (by rw[ht2,ht1])
 ·have hd:decide ((i:Int)+1<(n:Int))=false:=decide_eq_false (by omega)
  go_enter Tryz.func135,Tryz.ntmps135
  go_wp2_with (at_builtin;refine Zod _ (by kernel_rfl) (.tmp 32) (.tmp 33) 176 129 rfl _ _ rfl rfl _ _ (hap _) ?_)
  go_wp2
  go_ret
  refine⟨_,rfl,?_,hG1,.inl rfl⟩
  rw[HE.out]
  exact ZbK hB1 hgb (by omega) hcm hl1 ht1
theorem ZaO (h:List Pr) (p:Pr) (n i j g cap gp base:Nat) (HN:Hid (h.length=n)) (cur:List Value) (w:World) (hg:Blk w g cur) (hgb:base≤g) (hi:i<j) (hj:j<n) (hnc:n≤cap) (hcm:cap≤maxLen) (hcl:Hid (cur.length=cap * 2)) (hct:Hid (cur.take (n * 2)=prcells h)) (hp:Blk w gp (prC p)) (_hne:gp≠g) (hl:n≤1048576) :
  Calls Tryz.prog 135 #[.slice (some ⟨g,0,none⟩) n cap,.int .i64 (i:Int),.int .i64 (j:Int),.slice (some ⟨gp,0,none⟩) 1 1] w fun e w'=>∃ v',e=.returned v'∧Grows base w (.slice (some ⟨g,0,none⟩) n cap) v' (h.take i++p::h.drop j) w':=by
 obtain⟨x0,x1,x2,s0⟩:=ZkZ (some ⟨g,0,none⟩) n cap i j (by omega) (by omega)
 obtain⟨tot,htot⟩:∃ t,t=i+1+(n-j):=⟨_,rfl⟩
 have s1:=Zlb undH elemH g n cap i (by omega)
 have s2:=Zla undH elemH g n cap j (by omega) (by omega)
 have s3:=Zlb undH elemH g n cap tot (by omega)
 have s4:=Zla undH elemH g tot cap i (by omega) (by omega)
 have s5:=Zla undH elemH g tot cap (i+1) (by omega) (by omega)
 rw[show ((i+1:Nat):Int)=(i:Int)+1 by simp] at s5
 have hw1:IntKind.i64.wrap ((i:Int)+1)=(i:Int)+1:=by rw[IntKind.wrap_i64];omega
 have hw2:IntKind.i64.wrap ((i:Int)+1+((n-j:Nat):Int))=(tot:Int):=by rw[IntKind.wrap_i64];omega
 have hw3:(i:Int)+1+((n-j:Nat):Int)=(tot:Int):=by omega
 have hne1:((i:Int) == (j:Int))=false:=by simp;omega
 have hne2:((j:Int) == (n:Int))=false:=by simp;omega
 have hd1:decide ((cap:Int)<(tot:Int))=false:=decide_eq_false (by omega)
 have hd2:decide ((i:Int)+1≤(j:Int))=true:=decide_eq_true (by omega)
 have HT:Hid (tot=i+1+(n-j)):=htot
 clear htot
 go_enter Tryz.func135,Tryz.ntmps135
 go_wp2_with fail
 go_quiet (fail)
 have hgd:Blk (w.drewN nq) g cur:=hg
 have hpd:Blk (w.drewN nq) gp (prC p):=hp
 have hGd:w.grownBy (w.drewN nq) (some g):=⟨rfl,rfl,rfl,Nat.le_refl _,fun _ _ _=>rfl⟩
 generalize w.drewN nq=wd at hgd hpd hGd ⊢
 have hcp:(prC p).length=2:=rfl
 have hfit:i * 2+(prC p).length≤cur.length:=by rw[hcp,hcl.out];omega
 have hcp1:∀ ty,(Builtin.copy_ #[176,129] ty #[.slice (some ⟨g,i * 2,none⟩) (tot-i) (cap-i),.slice (some ⟨gp,0,none⟩) 1 1]).run Tryz.prog wd=.ok (goInt (1:Nat)) (wd.setRow g (spl cur (i * 2) (prC p)).toArray):=fun ty =>
  Zkp undH wd ty g _ _ _ ⟨gp,0,none⟩ _ _ cur _ 1 hgd (by have:=HT.out;simp only[Nat.min_def];split<;>omega) rfl (ZiV hpd) hfit (ZiU p)
 have hG1:=hGd.trans (ZkO wd g (spl cur (i * 2) (prC p)).toArray)
 have hB1:Blk (wd.setRow g (spl cur (i * 2) (prC p)).toArray) g (spl cur (i * 2) (prC p)):=setRow_heap wd g _ _ _ _ hgd
 have hl1:(spl cur (i * 2) (prC p)).length=cap * 2:=by rw[Zli hfit,hcl.out]
 have ht1:(spl cur (i * 2) (prC p)).take ((i+1) * 2)=prcells (h.take i)++prC p:=by
  rw[Zlj hfit _ (by rw[hcp];omega),Zjb,← hct.out,List.take_take]
  congr 2
  omega
 have hcs1:((prcells h).drop (j * 2)).length=(n-j) * 2:=by rw[List.length_drop,ZiZ,HN.out];omega
 have hsrc:∀ k v,((prcells h).drop (j * 2))[k]?=some v→(spl cur (i * 2) (prC p))[j * 2+k]?=some v:=fun k v hk=>by
  have hlt:=(List.getElem?_eq_some_iff.1 hk).1
  rw[hcs1] at hlt
  rw[← hk,List.getElem?_drop,← hct.out,List.getElem?_take,if_pos (by omega)]
  unfold spl
  rw[List.getElem?_append_right (by rw[List.length_append,List.length_take,hcp,hcl.out];omega),List.getElem?_drop]
  congr 1
  rw[List.length_append,List.length_take,hcp,hcl.out]
  omega
 generalize wd.setRow g (spl cur (i * 2) (prC p)).toArray=W1 at hcp1 hG1 hB1
 generalize spl cur (i * 2) (prC p)=cur1 at hB1 hl1 ht1 hsrc
 have hcp2:∀ (u:World) (ty:TypeId),u.heap=W1.heap→(Builtin.copy_ #[176,176] ty #[.slice (some ⟨g,(i+1) * 2,none⟩) (tot-(i+1)) (cap-(i+1)),.slice (some ⟨g,j * 2,none⟩) (n-j) (cap-j)]).run Tryz.prog u=.ok (goInt (n-j:Nat)) (u.setRow g (spl cur1 ((i+1) * 2) ((prcells h).drop (j * 2))).toArray):=fun u ty hu=>by
  have hgu:Blk u g cur1:=by unfold Blk;rw[hu];exact hB1
  refine Zkp undH u ty _ _ _ _ ⟨g,j * 2,none⟩ _ _ cur1 _ (n-j) hgu (by have:=HT.out;simp only[Nat.min_def];split<;>omega) hcs1 (fun k v hk=>?_) (by rw[hcs1,hl1];omega) (fun v hv=>Zja h v (List.mem_of_mem_drop hv))
  rw[add_none,hgu.cell]
  exact hsrc k v hk
 go_wp2_with (at_builtin;refine Zoi _ (by kernel_rfl) (.tmp 95) (.tmp 96) 176 129 rfl _ _ rfl rfl _ _ (hcp1 _) ?_)
 go_wp2_with fail
 go_region_held3 (fun _=>True) (trivial) (first | (refine Zlo _ rfl (.tmp 103) (.tmp 106) 176 176 rfl _ _ rfl rfl _ _ (hcp2 _ _ (by first | rfl | trivial)) ?_))
 have hG2:w.grownBy (W1.drew.setRow g (spl cur1 ((i+1) * 2) ((prcells h).drop (j * 2))).toArray) (some g):=hG1.trans ((Zdp W1 (some g)).trans (ZkO W1.drew g _))
 have hfit2:(i+1) * 2+((prcells h).drop (j * 2)).length≤cur1.length:=by rw[hcs1,hl1];omega
 have hB2:Blk (W1.drew.setRow g (spl cur1 ((i+1) * 2) ((prcells h).drop (j * 2))).toArray) g (spl cur1 ((i+1) * 2) ((prcells h).drop (j * 2))):=setRow_heap W1.drew g _ _ _ _ hB1
 have hl2:(spl cur1 ((i+1) * 2) ((prcells h).drop (j * 2))).length=cap * 2:=by rw[Zli hfit2,hl1]
 have ht2:(spl cur1 ((i+1) * 2) ((prcells h).drop (j * 2))).take (tot * 2)=prcells (h.take i++p::h.drop j):=by
  have e3:prcells (h.take i++p::h.drop j)=prcells (h.take i)++prC p++prcells (h.drop j):=by
   rw[ZiW,List.append_assoc]
   rfl
  rw[Zlj hfit2 _ (by rw[hcs1,HT.out];omega),ht1,e3,ZiY,Nat.mul_comm 2 j]
 generalize W1.drew.setRow g (spl cur1 ((i+1) * 2) ((prcells h).drop (j * 2))).toArray=W2 at hG2 hB2 ⊢
 generalize spl cur1 ((i+1) * 2) ((prcells h).drop (j * 2))=cur2 at hB2 hl2 ht2
 have hlen:Hid ((h.take i++p::h.drop j).length=tot):=(by
  show _=_
  have:=HN.out
  rw[List.length_append,List.length_cons,List.length_take,List.length_drop,HT.out]
  omega)
 clear hcp1 hcp2 hB1 ht1 hsrc hgd hpd hGd hG1
 by_cases hji:j=i+1
 ·have hT2:tot=n:=by rw[HT.out];omega
  obtain⟨x3,x4,s6⟩:∃ x3 x4,∀ u:World,(Instr.slice 176 (.slice (some ⟨g,0,none⟩) n cap) (some (.int .i64 (tot:Int))) none none).run Tryz.prog u=.ok (.slice x3 0 x4) u:=⟨_,_,fun u=>by
   rw[run_slice_l (P:=Tryz.prog) u 176 (some ⟨g,0,none⟩) n cap (by rw[undH,← elemH]) .i64 tot (by omega) (by omega),elemH,ZkV]
   simp[Result.andThen,sliced,hT2]
   exact⟨rfl,rfl⟩⟩
  have hr2:∀ ty,(Builtin.clear_ #[176] ty #[.slice x3 0 x4]).run Tryz.prog W2=.ok (.tuple #[]) W2:=fun ty=>by cases x3<;>simp[Builtin.clear_,run_underlying undH]
  clear hT2
  go_wp2_with (at_builtin;refine Zoh _ (by kernel_rfl) (.tmp 110) 176 rfl _ rfl _ _ (hr2 _) ?_)
  go_wp2
  go_ret
  refine⟨_,rfl,?_,hG2,.inl rfl⟩
  rw[hlen.out]
  exact ZbK hB2 hgb (by have:=HT.out;omega) hcm hl2 ht2
 ·have s6:=Zla undH elemH g n cap tot (by have:=HT.out;omega) (by have:=HT.out;omega)
  obtain⟨W3,hr3,hG3,cur3,hB3,hl3,ht3⟩:=Zko undH W2 0 g (tot * 2) (n-tot) (cap-tot) cur2 hB2 (by rw[hl2];have:=HT.out;omega)
  go_wp2_with (at_builtin;refine Zoh _ (by kernel_rfl) (.tmp 110) 176 rfl _ rfl _ _ hr3 ?_)
  go_wp2
  go_ret
  refine⟨_,rfl,?_,hG2.trans hG3,.inl rfl⟩
  rw[hlen.out]
  exact ZbK hB3 hgb (by have:=HT.out;omega) hcm (by rw[hl3,hl2]) (by rw[ht3,ht2])
theorem ZaL (h:List Pr) (p:Pr) (i j gp base:Nat) (v:Value) (w:World) (hO:w.ownsRow base 133 2 v h.length (prcells h)) (hb:base≤w.heap.size) (hij:i≤j) (hj:j≤h.length) (hp:Blk w gp (prC p)) (hne:v.ownBlock≠some gp) (hl:h.length≤1048576) :
  Calls Tryz.prog 135 #[v,.int .i64 (i:Int),.int .i64 (j:Int),.slice (some ⟨gp,0,none⟩) 1 1] w fun e w'=>∃ v',e=.returned v'∧Grows base w v v' (h.take i++p::h.drop j) w':=by
 by_cases e:i=j
 ·subst e
  exact ZaM h p i gp base v w hO hb hj hp hne hl
 ·obtain⟨g,cap,cur,rfl,q2,q3,q4,q5,q6,q7⟩:=ZjH hO (by omega)
  by_cases e2:j=h.length
  ·subst e2
   exact ZaP h p h.length i g cap gp base rfl cur w q3 q2 (by omega) q4 q5 q6 q7 hp hl
  ·exact ZaO h p h.length i j g cap gp base rfl cur w q3 q2 (by omega) (by omega) q4 q5 q6 q7 hp (fun e=>hne (by rw[e];rfl)) hl
end

section
open Go.RowKit
theorem ZaQ (g:Nat) (cb:Array Value) (n r:Nat) (p:Nat→Bool) (S:World→Prop) (w:World) (hS:S w) (eg:∀ args w,(callFunc g args).run Tryz.prog w=.ok (.enter g args) w) (hn:n≤1099511627776) (hr:r≤n)
  (hf:Hid (∀ i:Nat,i<n→∀ u:World,S u→Calls Tryz.prog g (#[.int .i64 (i:Int)]++cb) u fun e u'=>e=.returned (.bool (p i))∧S u'))
  (lo:Hid (∀ i,i<r→p i=false)) (hi:Hid (∀ i,r≤i→i<n→p i=true)) :
  Calls Tryz.prog 117 #[.int .i64 (n:Int),.func (.func g) #[] cb] w fun e w'=>e=.returned (.int .i64 (r:Int))∧S w':=by
 go_enter Tryz.func117,Tryz.ntmps117
 go_wp2
 go_loopw [5,6] (fun iv jv wr=>∃ (i j:Nat),iv=.int .i64 i∧jv=.int .i64 j∧i≤r∧r≤j∧j≤n∧S wr) (fun iv jv _=>(intOf jv).toNat-(intOf iv).toNat)
 case atStart=>exact⟨0,n,rfl,rfl,Nat.zero_le _,hr,Nat.le_refl _,hS⟩
 case round =>
  obtain⟨i,j,rfl,rfl,h1,h2,h3,hSr⟩:=hrel
  by_cases hij:i<j
  ·have hc:=hf.out ((i+j) / 2) (by omega) wr hSr
   rw[show (((i+j) / 2:Nat):Int)=((i:Int)+(j:Int)) / 2 by omega] at hc
   by_cases hm:(i+j) / 2<r
   ·rw[lo.out _ hm] at hc
    go_wp2_with (go_at_fn g;refine hc.mono ?_;rintro e w' ⟨rfl,hS'⟩)
    go_roundw
    case rel=>exact⟨(i+j) / 2+1,j,by go_num,rfl,by omega,h2,h3,hS'⟩
    case measure=>simp[intOf];omega
   ·rw[hi.out _ (by omega) (by omega)] at hc
    go_wp2_with (go_at_fn g;refine hc.mono ?_;rintro e w' ⟨rfl,hS'⟩)
    go_roundw
    case rel=>exact⟨i,(i+j) / 2,rfl,by go_num,h1,by omega,by omega,hS'⟩
    case measure=>simp[intOf];omega
  ·obtain rfl:i=r:=by omega
   go_wp2
   go_ret
   exact⟨rfl,hSr⟩
end

section
open Go.RowKit
attribute [local simp] ZgX
theorem Zcc {u u':World} (h:Below u.heap.size u u') {b o:Nat} {v:Value} (hb:b<u.heap.size) (hc:u.cell? ⟨b,o,none⟩=some v):u'.cell? ⟨b,o,none⟩=some v:=by
 rw[← hc]
 unfold World.cell?
 rw[h.block b hb]
def px (h:List Pr) (i:Nat):Int:=(h[i]?.map (·.X)).getD 0
def py (h:List Pr) (i:Nat):Int:=(h[i]?.map (·.Y)).getD 0
theorem Zji {h:List Pr} {i:Nat} (hi:i<h.length):px h i=h[i].X:=by simp[px,hi]
theorem Zjj {h:List Pr} {i:Nat} (hi:i<h.length):py h i=h[i].Y:=by simp[py,hi]
theorem Zmg (h:List Pr) (x:Int) (i B1 B2:Nat) (hv:Value) (W u:World) (hL:Low W u) (hb1:B1<W.heap.size) (hb2:B2<W.heap.size) (c1:W.cell? ⟨B1,0,none⟩=some hv) (c2:W.cell? ⟨B2,0,none⟩=some (.int .i64 x)) (hh:HPr W hv h) (hi:i<h.length) :
  Calls Tryz.prog 140 #[.int .i64 (i:Int),.pointer (some ⟨B1,0,none⟩),.pointer (some ⟨B2,0,none⟩)] u fun e u'=>e=.returned (.bool (decide (px h i≤x)))∧Low W u':=by
 obtain⟨ho,hc,rfl⟩:=Holds.form hh
 obtain⟨b,off,rfl,hbl,hcs⟩:=HPr.at hh (by omega)
 have d1:=Zcc hL hb1 c1
 have d2:=Zcc hL hb2 c2
 have d3:=Zcc hL hbl (hcs i hi).1
 rw[Zji hi]
 generalize h[i].X=X at *
 clear c1 c2 hcs
 have i1:0≤(i:Int):=by omega
 have i2:(i:Int)<(h.length:Int):=by omega
 go_enter Tryz.func140,Tryz.ntmps140
 go_wp2_with fail
 go_quiet (fail)
 go_wp2
 go_ret
 exact⟨rfl,Below.dN hL _⟩
theorem ZnH (h:List Pr) (p:Pr) (i B1 B2:Nat) (hv:Value) (W u:World) (hL:Low W u) (hb1:B1<W.heap.size) (hb2:B2<W.heap.size) (c1:W.cell? ⟨B1,0,none⟩=some hv) (c2:W.cell? ⟨B2,1,none⟩=some (.int .i64 p.Y)) (hh:HPr W hv h) (hi:i<h.length) :
  Calls Tryz.prog 134 #[.int .i64 (i:Int),.pointer (some ⟨B1,0,none⟩),.pointer (some ⟨B2,0,none⟩)] u fun e u'=>e=.returned (.bool (decide (p.Y<py h i)))∧Low W u':=by
 obtain⟨ho,hc,rfl⟩:=Holds.form hh
 obtain⟨b,off,rfl,hbl,hcs⟩:=HPr.at hh (by omega)
 have d1:=Zcc hL hb1 c1
 have d2:=Zcc hL hb2 c2
 have d3:=Zcc hL hbl (hcs i hi).2
 rw[Zjj hi]
 generalize h[i].Y=X at *
 clear c1 c2 hcs
 have i1:0≤(i:Int):=by omega
 have i2:(i:Int)<(h.length:Int):=by omega
 go_enter Tryz.func134,Tryz.ntmps134
 go_wp2_with fail
 go_quiet (fail)
 go_wp2
 go_ret
 exact⟨rfl,Below.dN hL _⟩
theorem Zmh (h:List Pr) (x:Int) (v:Value) (w:World) (hh:HPr w v h) (hl:h.length≤1048576) (hs:Hid (Stair h)) (r:Nat) (hr:Hid (upto h x=r)) :
  Calls Tryz.prog 133 #[v,.int .i64 x] w fun e w'=>e=.returned (.int .i64 (r:Int))∧Below w.heap.size w w':=by
 obtain⟨ho,hc,rfl⟩:=Holds.form hh
 have hrl:r≤h.length:=by rw[← hr.out];exact Zmo h x
 obtain⟨W2,hW2⟩:∃ W2,(w.alloc (Obj.cells #[.slice ho h.length hc] 176)).alloc (Obj.cells #[.int .i64 x] 3)=W2:=⟨_,rfl⟩
 have hB:Below w.heap.size w W2:=by rw[← hW2];exact ((Below.refl _ w).alloc (Nat.le_refl _) _).alloc (by simp) _
 have hsz:W2.heap.size=w.heap.size+1+1:=by rw[← hW2];simp
 have k1:W2.heap[w.heap.size]?=some (Obj.cells #[.slice ho h.length hc] 176 (0,0)):=by rw[← hW2];exact (Below.heap_alloc _ _ _ (by simp)).trans (_root_.Go.heap_alloc_new w _)
 have k2:W2.heap[w.heap.size+1]?=some (Obj.cells #[.int .i64 x] 3 (0,0)):=by rw[← hW2];exact Zbq w _ _
 have c1:W2.cell? ⟨w.heap.size,0,none⟩=some (.slice ho h.length hc):=by rw[Lib.cell_of_heap k1];rfl
 have c2:W2.cell? ⟨w.heap.size+1,0,none⟩=some (.int .i64 x):=by rw[Lib.cell_of_heap k2];rfl
 have hh2:=HPr.keep hh hB (Nat.le_refl _)
 go_enter Tryz.func133,Tryz.ntmps133
 go_wp2_with fail
 refine (ZaQ 140 #[.pointer (some ⟨w.heap.size,0,none⟩),.pointer (some ⟨w.heap.size+1,0,none⟩)] h.length r (fun i=>decide (px h i≤x)) (fun u=>Low W2 u) W2 (Below.refl _ _) (enters_of Tryz.func140 (by kernel_rfl) rfl) (by omega) hrl
  (fun i hi u hu=>Zmg h x i w.heap.size (w.heap.size+1) _ W2 u hu (by omega) (by omega) c1 c2 hh2 hi)
  (fun i hi=>by
   have hi':i<h.length:=by omega
   rw[← hr.out] at hi
   have:=Zmp hi hi'
   rw[Zji hi']
   exact decide_eq_false (by omega))
  (fun i hi hil=>by
   rw[← hr.out] at hi
   rw[Zji hil]
   exact decide_eq_true (Zmm hs.out hi hil))).mono ?_
 rintro e w3 ⟨rfl,hL3⟩
 go_wp2
 go_ret
 exact⟨rfl,hB.trans (Below.mono hL3 (by omega))⟩
theorem Zbb (p q:Pr) (r:Bool) (w:World) (hr:Hid (decide (ab p q)=r)) :
  Calls Tryz.prog 107 #[prV p,prV q] w fun e w'=>e=.returned (.bool r)∧Below w.heap.size w w':=by
 obtain⟨ax,ay⟩:=p
 obtain⟨bx,by'⟩:=q
 unfold prV
 have h:=hr.out
 unfold ab at h
 dsimp only at h
 go_enter Tryz.func107,Tryz.ntmps107
 subst h
 clear hr
 by_cases h1:bx<ax
 ·go_wp2
  go_ret
  exact⟨ret_bool (by simp[h1]),((Below.refl _ w).alloc (Nat.le_refl _) _).alloc (by simp) _⟩
 ·go_wp2
  go_ret
  exact⟨ret_bool (by simp;omega),((Below.refl _ w).alloc (Nat.le_refl _) _).alloc (by simp) _⟩
theorem ZbB (h:List Pr) (p:Pr) (v:Value) (w:World) (hh:HPr w v h) (hl:h.length≤1048576) (hs:Hid (Stair h)) (r:Bool) (hr:Hid (r=true↔∃ a∈h,ab a p)) :
  Calls Tryz.prog 119 #[v,prV p] w fun e w'=>e=.returned (.bool r)∧Below w.heap.size w w':=by
 obtain⟨ho,hc,rfl⟩:=Holds.form hh
 obtain⟨X,Y⟩:=p
 have hrr:=hr.out
 rw[ZbC hs.out] at hrr
 dsimp only at hrr
 obtain⟨k,hk⟩:∃ k,upto h X=k:=⟨_,rfl⟩
 have hkl:=Zmo h X
 rw[hk] at hrr hkl
 have HK:Hid (upto h X=k):=hk
 have HR:Hid (r=true↔0<k∧∃ a,h[k-1]?=some a∧Y<a.Y):=hrr
 clear hk hrr hr
 unfold prV
 dsimp only
 obtain⟨W1,hW1⟩:∃ W1,w.alloc (Obj.cells #[.int .i64 X,.int .i64 Y] 133)=W1:=⟨_,rfl⟩
 have hB:Below w.heap.size w W1:=by rw[← hW1];exact (Below.refl _ w).alloc (Nat.le_refl _) _
 have hsz:W1.heap.size=w.heap.size+1:=by rw[← hW1];simp
 have k1:W1.heap[w.heap.size]?=some (Obj.cells #[.int .i64 X,.int .i64 Y] 133 (0,0)):=by rw[← hW1];exact _root_.Go.heap_alloc_new w _
 have c1:W1.cell? ⟨w.heap.size,0,none⟩=some (.int .i64 X):=by rw[Lib.cell_of_heap k1];rfl
 have c2:W1.cell? ⟨w.heap.size,1,none⟩=some (.int .i64 Y):=by rw[Lib.cell_of_heap k1];rfl
 have hh1:=HPr.keep hh hB (Nat.le_refl _)
 go_enter Tryz.func119,Tryz.ntmps119
 go_wp2_with fail
 refine (Zmh h X _ W1 hh1 hl hs k HK).mono ?_
 rintro e w2 ⟨rfl,hB2⟩
 have hB02:Below w.heap.size w w2:=hB.trans (hB2.mono (by omega))
 have d2:=Zcc hB2 (by omega) c2
 have hh2:=HPr.keep hh1 hB2 (Nat.le_refl _)
 clear c1 c2 k1 hh1 hW1
 cases k with
 | zero =>
  have:r=false:=by
   cases r with
   | false=>rfl
   | true=>have:=(HR.out.1 rfl).1;omega
  subst this
  have e1:decide ((0:Int)<0)=false:=rfl
  go_wp2_with fail
  go_big_quiet (fail)
  go_wp2
  go_ret
  exact⟨rfl,Below.dN hB02 _⟩
 | succ k =>
  obtain⟨b,off,rfl,_,hcs⟩:=HPr.at hh2 (by omega)
  have d3:=(hcs k (by omega)).2
  obtain⟨Z,hZ⟩:∃ Z,h[k].Y=Z:=⟨_,rfl⟩
  rw[hZ] at d3
  have hrz:r=decide (Y<Z):=by
   have:=HR.out
   rw[Nat.add_sub_cancel,List.getElem?_eq_getElem (by omega)] at this
   cases r with
   | false =>
    symm
    refine decide_eq_false (fun c=>?_)
    have:=this.2 ⟨by omega,_,rfl,by rw[hZ];exact c⟩
    cases this
   | true =>
    obtain⟨_,a,ha,hya⟩:=this.1 rfl
    cases ha
    rw[hZ] at hya
    exact (decide_eq_true hya).symm
  subst hrz
  clear hcs hZ HR HK
  have e1:decide ((0:Int)<(k:Int)+1)=true:=decide_eq_true (by omega)
  have i1:0≤(k:Int):=by omega
  have i2:(k:Int)<(h.length:Int):=by omega
  have n4:IntKind.i64.wrap ((k:Int)+1-1)=(k:Int):=by rw[IntKind.wrap_i64];omega
  have n6:(k:Int)+1-1=(k:Int):=by omega
  go_wp2_with fail
  go_big_quiet (fail)
  go_wp2
  go_ret
  exact⟨rfl,Below.dN hB02 _⟩
end

section
open Go.RowKit
attribute [local simp] ZgX ZgV
theorem Zip {w:World} {base n:Nat} {e:TypeId} {s:Nat} {v:Value} {xs:List Value} (ho:w.ownsRow base e s v n xs) {g:Nat} (hg:v.ownBlock=some g):g<w.heap.size:=by
 rcases ho.2 with ⟨h1,_⟩ | ⟨g',cap,cur,q1,q2,q3,_⟩
 ·rw[h1] at hg;cases hg
 ·rw[q1] at hg;cases hg;exact (Array.getElem?_eq_some_iff.1 q3).1
theorem ZbJ (u:World) (p:Pr):Blk (u.alloc (.cells #[.int .i64 p.X,.int .i64 p.Y] 133)) u.heap.size (prC p):=_root_.Go.heap_alloc_new u _
structure Np (W:World) (gp:Nat) (p:Pr) (u:World):Prop where
 blk:Blk u gp (prC p)
 ge:W.heap.size≤gp
theorem Zmj (h:List Pr) (x:Int) (v:Value) (W u:World) (hh:HPr W v h) (hl:h.length≤1048576) (hs:Hid (Stair h)) (r:Nat) (hr:Hid (upto h x=r)) (hL:Low W u) :
  Calls Tryz.prog 133 #[v,.int .i64 x] u fun e w'=>e=.returned (.int .i64 (r:Int))∧Low W w':=by
 refine (Zmh h x v u (HPr.keep hh hL (Nat.le_refl _)) hl hs r hr).mono ?_
 rintro e w' ⟨rfl,h2⟩
 exact⟨rfl,Below.trans hL (h2.mono (Below.size hL))⟩
theorem Zmk (h:List Pr) (x:Int) (v:Value) (W u:World) (hh:HPr W v h) (hl:h.length≤1048576) (hs:Hid (Stair h)) (r:Nat) (hr:Hid (upto h x=r)) (hL:Low W u) (gp:Nat) (p:Pr) (hp:Np W gp p u) :
  Calls Tryz.prog 133 #[v,.int .i64 x] u fun e w'=>e=.returned (.int .i64 (r:Int))∧Low W w'∧Np W gp p w':=by
 refine (Zmh h x v u (HPr.keep hh hL (Nat.le_refl _)) hl hs r hr).mono ?_
 rintro e w' ⟨rfl,h2⟩
 exact⟨rfl,Below.trans hL (h2.mono (Below.size hL)),(h2.block gp (Array.getElem?_eq_some_iff.1 hp.blk).1).trans hp.blk,hp.ge⟩
theorem ZaN (h:List Pr) (p:Pr) (i j gp base:Nat) (v:Value) (W u:World) (hO:W.ownsRow base 133 2 v h.length (prcells h)) (hb:base≤W.heap.size) (hij:i≤j) (hj:j≤h.length) (hl:h.length≤1048576) (hL:Low W u) (hp:Np W gp p u) :
  Calls Tryz.prog 135 #[v,.int .i64 (i:Int),.int .i64 (j:Int),.slice (some ⟨gp,0,none⟩) 1 1] u fun e w'=>∃ v',e=.returned v'∧Grows base W v v' (h.take i++p::h.drop j) w':=by
 refine (ZaL h p i j gp base v u (Zin hO hL) (Nat.le_trans hb (Below.size hL)) hij hj hp.blk (fun e=>by have:=Zip hO e;have:=hp.ge;omega) hl).mono ?_
 rintro e w' ⟨v',rfl,h1,h2,h3⟩
 refine⟨v',rfl,h1,(ZgY hL _).trans h2,?_⟩
 rcases h3 with h3 | ⟨g,h3,h4⟩
 ·exact .inl h3
 ·exact .inr ⟨g,h3,Nat.le_trans (Below.size hL) h4⟩
theorem ZnJ (h:List Pr) (p:Pr) (base:Nat) (v:Value) (w:World) (hO:w.ownsRow base 133 2 v h.length (prcells h)) (hb:base≤w.heap.size) (hs:Hid (Stair h)) (hn:Hid (¬ ∃ a∈h,ab a p)) (hl:h.length≤1048576) (L:List Pr) (hL:Hid (ins h p=L)) :
  Calls Tryz.prog 120 #[v,prV p] w fun e w'=>∃ v',e=.returned v'∧Grows base w v v' L w':=by
 obtain⟨ho,hc,rfl⟩:=(holds_of hO).form
 obtain⟨X,Y⟩:=p
 obtain⟨i,hi⟩:∃ i,upto h X=i:=⟨_,rfl⟩
 obtain⟨j,hj⟩:∃ j,grt h Y=j:=⟨_,rfl⟩
 have hij:i≤j:=by rw[← hi,← hj];exact Zmn hs.out hn.out
 have hjl:j≤h.length:=by rw[← hj];exact ZeM h Y
 have HI:Hid (upto h X=i):=hi
 have HJ:Hid (grt h Y=j):=hj
 have HL:Hid (h.take i++⟨X,Y⟩::h.drop j=L):=(by show _=_;rw[← hL.out,← hi,← hj];rfl)
 clear hi hj hL
 unfold prV
 dsimp only
 obtain⟨W2,hW2⟩:∃ W2,(w.alloc (Obj.cells #[.slice ho h.length hc] 176)).alloc (Obj.cells #[.int .i64 X,.int .i64 Y] 133)=W2:=⟨_,rfl⟩
 have hB:Below w.heap.size w W2:=by rw[← hW2];exact ((Below.refl _ w).alloc (Nat.le_refl _) _).alloc (by simp) _
 have hsz:W2.heap.size=w.heap.size+1+1:=by rw[← hW2];simp
 have k1:W2.heap[w.heap.size]?=some (Obj.cells #[.slice ho h.length hc] 176 (0,0)):=by rw[← hW2];exact (Below.heap_alloc _ _ _ (by simp)).trans (_root_.Go.heap_alloc_new w _)
 have k2:W2.heap[w.heap.size+1]?=some (Obj.cells #[.int .i64 X,.int .i64 Y] 133 (0,0)):=by rw[← hW2];exact Zbq w _ _
 have c1:W2.cell? ⟨w.heap.size,0,none⟩=some (.slice ho h.length hc):=by rw[Lib.cell_of_heap k1];rfl
 have c2:W2.cell? ⟨w.heap.size+1,0,none⟩=some (.int .i64 X):=by rw[Lib.cell_of_heap k2];rfl
 have c3:W2.cell? ⟨w.heap.size+1,1,none⟩=some (.int .i64 Y):=by rw[Lib.cell_of_heap k2];rfl
 have hO2:=Zin hO hB
 have hh2:HPr W2 (.slice ho h.length hc) h:=holds_of hO2
 have hcs:∀ u:World,Low W2 u→u.cell? ⟨w.heap.size,0,none⟩=some (.slice ho h.length hc)∧u.cell? ⟨w.heap.size+1,0,none⟩=some (.int .i64 X)∧u.cell? ⟨w.heap.size+1,1,none⟩=some (.int .i64 Y):=fun u hu=>⟨Zcc hu (by omega) c1,Zcc hu (by omega) c2,Zcc hu (by omega) c3⟩
 have hcs2:∀ u:World,W2.grownBy u (Value.slice ho h.length hc).ownBlock→u.cell? ⟨w.heap.size,0,none⟩=some (.slice ho h.length hc)∧u.cell? ⟨w.heap.size+1,0,none⟩=some (.int .i64 X)∧u.cell? ⟨w.heap.size+1,1,none⟩=some (.int .i64 Y):=fun u hu=>by
  have n1:=hu.block w.heap.size (by omega) (fun e=>Nat.lt_irrefl _ (Zip hO e.symm))
  have n2:=hu.block (w.heap.size+1) (by omega) (fun e=>by have:=Zip hO e.symm;omega)
  exact⟨by rw[Lib.cell_of_heap (n1.trans k1)];rfl,by rw[Lib.cell_of_heap (n2.trans k2)];rfl,by rw[Lib.cell_of_heap (n2.trans k2)];rfl⟩
 clear k1 k2
 go_enter Tryz.func120,Tryz.ntmps120
 go_wp2_with fail
 refine (ZaQ 134 #[.pointer (some ⟨w.heap.size,0,none⟩),.pointer (some ⟨w.heap.size+1,0,none⟩)] h.length j (fun i=>decide (Y<py h i)) (fun u=>Low W2 u) W2 (Below.refl _ _) (enters_of Tryz.func134 (by kernel_rfl) rfl) (by omega) hjl
  (fun i hi u hu=>ZnH h ⟨X,Y⟩ i w.heap.size (w.heap.size+1) _ W2 u hu (by omega) (by omega) c1 c3 hh2 hi)
  (fun i hi=>by
   have hi':i<h.length:=by omega
   rw[← HJ.out] at hi
   have:=ZeN hi hi'
   rw[Zjj hi']
   exact decide_eq_false (by omega))
  (fun i hi hil=>by
   rw[← HJ.out] at hi
   rw[Zjj hil]
   exact decide_eq_true (ZeL hs.out hi hil))).mono ?_
 rintro e w3 ⟨rfl,hL3⟩
 obtain⟨d1,d2,d3⟩:=hcs w3 hL3
 have hL3':Low W2 w3:=hL3
 clear c1 c2 c3
 go_wp2_with fail
 go_region_held3 (fun w'=>w'.cell? ⟨w.heap.size,0,none⟩=some (.slice ho h.length hc)∧w'.cell? ⟨w.heap.size+1,0,none⟩=some (.int .i64 X)∧w'.cell? ⟨w.heap.size+1,1,none⟩=some (.int .i64 Y)) (go_keep)
  (first
   | (go_at_call 133;refine (Zmk h X _ W2 _ hh2 hl hs i HI (by first | assumption | (simp[*];done)) _ ⟨X,Y⟩ (by exact⟨ZbJ w3 ⟨X,Y⟩,Below.size hL3'⟩)).mono ?_;rintro e u1 ⟨rfl,hlow,hnp⟩;obtain⟨e1,e2,e3⟩:=hcs u1 hlow)
   | (go_at_call 133;refine (Zmj h X _ W2 _ hh2 hl hs i HI (by first | assumption | (simp[*];done))).mono ?_;rintro e u1 ⟨rfl,hlow⟩;obtain⟨e1,e2,e3⟩:=hcs u1 hlow)
   | (go_at_call 135;refine (ZaN h ⟨X,Y⟩ i j _ base _ W2 _ hO2 (by omega) hij hjl hl (by first | assumption | (simp[*];done)) (by first | exact hnp | exact⟨hnp.blk,hnp.ge⟩ | exact⟨ZbJ u1 ⟨X,Y⟩,Below.size hlow⟩)).mono ?_;rintro e u2 ⟨v',rfl,hG⟩;obtain⟨e1,e2,e3⟩:=hcs2 u2 hG.2.1))
 all_goals
  rw[HL.out] at hG
  obtain⟨ao',c',rfl⟩:=(holds_of hG.1).form
  go_wp2
  go_ret
  refine⟨_,rfl,?_,(ZgY hB _).trans hG.2.1,?_⟩
  ·exact hG.1
  ·rcases hG.2.2 with h3 | ⟨g,h3,h4⟩
   ·exact .inl h3
   ·exact .inr ⟨g,h3,by omega⟩
end

section
open Go.RowKit Go.Shelf
attribute [local go_sem] Oper.semAt_some
structure Kq (n₀ lo:Nat) (W W':World):Prop where
 low:Below n₀ W W'
 box:W'.heap[lo]?=W.heap[lo]?
section
variable {n₀ lo:Nat} {A B C:World}
theorem Kq.refl (W:World):Kq n₀ lo W W:=⟨Below.refl _ _,rfl⟩
theorem Kq.trans (h:Kq n₀ lo A B) (k:Kq n₀ lo B C):Kq n₀ lo A C:=⟨h.low.trans k.low,k.box.trans h.box⟩
theorem Kq.alloc {W:World} (hn:n₀≤W.heap.size) (hl:lo<W.heap.size) (o:Obj):Kq n₀ lo W (W.alloc o):=⟨(Below.refl _ W).alloc hn o,Below.heap_alloc W o lo hl⟩
theorem Kq.putObj {w:World} (hn:n₀≤w.heap.size) (hl:lo<w.heap.size) (W:World) (l:Nat) (o o':Obj) (hlw:w.heap.size≤l) (h:W.heap[l]?=some o) (hc:o.isCells=false) (hw:o.isWalk=false):Kq n₀ lo W (W.putObj l o') :=
 ⟨belowK_b hn W l o o' hlw h hc hw,by have hne:l≠lo:=(by omega);simp[World.putObj,hne]⟩
theorem Kq.drewN (W:World) (k:Nat):Kq n₀ lo W (W.drewN k):=⟨Below.dN (Below.refl _ W) k,rfl⟩
end
def en (k:Nat):List Pr→List (Nat × Pr)
 | []=>[]
 | p::t=>(k,p)::en (k+1) t
theorem Zdt (k:Nat) (a b:List Pr):en k (a++b)=en k a++en (k+a.length) b:=by
 induction a generalizing k with
 | nil=>rfl
 | cons p t ih=>simp[en,ih];congr 1;omega
theorem Zdv (l:List Pr) (i:Nat) (hi:i<l.length):(en 0 (l.take (i+1))).reverse=(i,l[i])::(en 0 (l.take i)).reverse:=by
 rw[List.take_succ_eq_append_getElem hi,Zdt,List.reverse_append]
 have:0+(l.take i).length=i:=by rw[List.length_take];omega
 rw[this]
 rfl
theorem Zdu (k:Nat) (l:List Pr):(en k l).map (·.2)=l:=by
 induction l generalizing k with
 | nil=>rfl
 | cons p t ih=>simp[en,ih]
abbrev Mp (n:Nat):={ x:Nat × Pr // x.1<n }
theorem Zaa (ao:Option Addr) (len c:Nat) (w:World) :
  Calls Tryz.prog 116 #[.slice ao len c] w fun e w' =>
   e=.returned (.func (.func 132) #[] #[.pointer (some ⟨w.heap.size,0,none⟩)])∧w'=w.alloc (.cells #[.slice ao len c] 129):=by
 go_enter Tryz.func116,Tryz.ntmps116
 go_wp2
 go_ret
 exact⟨rfl,rfl⟩
theorem Zbv (N:Nat) (hN:1≤N) (lp lo n₀:Nat) (ao:Option Addr) (ca:Nat) (l:List Pr) (hlen:l.length≤1048576)
  (J Jx:List (Mp l.length)→World→Prop) (W:World) (_hJ:AbidesFrom W.heap.size J)
  (hY:∀ pre (x:Mp l.length) W1,J pre W1→pre.length<l.length→YieldAt Fence.wide (N-1) Tryz.prog lp #[.int .i64 (x.1.1:Int),prV x.1.2] W1 fun e W' =>
   (e=.returned (.bool true)∧J (pre++[x]) W'∧Kq n₀ lo W1 W')∨(e=.returned (.bool false)∧Jx (pre++[x]) W'))
  (_hlo:n₀≤lo) (_hsz:lo<W.heap.size) (hb0:W.heap[lo]?=some (.cells #[.slice ao l.length ca] 129 (0,0)))
  (hl:HPr W (.slice ao l.length ca) l) (hb:∀ a,ao=some a→0<l.length→a.block<n₀) (h0:J [] W) :
  CallsIn Fence.wide N Tryz.prog 132 #[.func (.yield lp) #[] #[],.pointer (some ⟨lo,0,none⟩)] W fun e W'=>(∃ v,e=.returned v) ∧
   ((∃ ys:List (Mp l.length),ys.map (·.1)=(en 0 l).reverse∧J ys W')∨(∃ pre,True∧Jx pre W')):=by
 have d0:W.cell? ⟨lo,0,none⟩=some (.slice ao l.length ca):=by rw[Lib.cell_of_heap hb0];rfl
 refine callsIn_of_wp Tryz.func132 rfl trivial ?_ rfl
 simp only[Tryz.ntmps132,List.size_toArray,List.length_cons,List.length_nil,Nat.reduceAdd,Nat.reduceSub,Array.replicate_succ,Array.replicate_zero,List.push_toArray,List.append_toArray,List.nil_append,List.cons_append]
 gi_wp2
 gi_loopw [3] (fun iv wr=>∃ (k:Nat) (z:Int) (pre:List (Mp l.length)),k≤l.length∧pre.length+k=l.length∧iv=.int .i64 z∧z+1=k∧Kq n₀ lo W wr∧J pre wr∧Hid (pre.map (·.1)++(en 0 (l.take k)).reverse=(en 0 l).reverse)) (fun iv _=>(intOf iv+1).toNat)
 case atStart=>exact⟨l.length,(l.length:Int)-1,[],Nat.le_refl _,by simp,by go_num,by omega,Kq.refl W,h0,(by show _=_;simp)⟩
 case round =>
  obtain⟨k,z,pre,hk,hpl,rfl,hz,hK,hJr,hR⟩:=hrel
  have hszr:=hK.low.size
  have hbx:=hK.box.trans hb0
  have d1:wr.cell? ⟨lo,0,none⟩=some (.slice ao l.length ca):=by rw[Lib.cell_of_heap hbx];rfl
  cases k with
  | zero =>
   obtain rfl:z=-1:=by omega
   gi_wp2
   go_end0
   exact⟨⟨_,rfl⟩,.inl ⟨pre,by have h:=hR.out;rw[← h];simp[en],hJr⟩⟩
  | succ i =>
   obtain rfl:z=(i:Int):=by omega
   have hlt:i<l.length:=by omega
   obtain⟨bk,off,rfl,hbk,hc⟩:=HPr.at hl (by omega)
   have hbn:=hb _ rfl (by omega)
   have hcell:∀ o v,W.cell? ⟨bk,o,none⟩=some v→wr.cell? ⟨bk,o,none⟩=some v:=fun o v h=>by
    rw[← h]
    unfold World.cell?
    rw[hK.low.block bk hbn]
   obtain⟨c0',c1'⟩:=hc i hlt
   have c0:=hcell _ _ c0'
   have c1:=hcell _ _ c1'
   have HR:Hid (pre.map (·.1)++(i,l[i])::(en 0 (l.take i)).reverse=(en 0 l).reverse):=(by
    show _=_
    rw[← Zdv l i hlt]
    exact hR.out)
   obtain⟨p,hp⟩:∃ p,l[i]=p:=⟨_,rfl⟩
   rw[hp] at c0 c1 HR
   clear hc c0' c1' hcell hR hp
   have i1:0≤(i:Int):=by omega
   have i2:(i:Int)<(l.length:Int):=by omega
   obtain⟨X,Y⟩:=p
   dsimp only at c0 c1
   obtain⟨fn,tmps,assign,body,hy,hRd⟩:=hY pre ⟨(i,⟨X,Y⟩),hlt⟩ wr hJr (by omega)
   simp only[prV] at hy
   gi_wp2
   refine hRd.mono ?_
   rintro e W3 (⟨rfl,hJ3,hk3⟩ | ⟨rfl,hJx3⟩)
   ·gi_wp2
    go_roundw
    case rel=>exact⟨i,(i:Int)-1,pre++[⟨(i,⟨X,Y⟩),hlt⟩],by omega,by simp;omega,by go_num,by omega,hK.trans hk3,hJ3,(by show _=_;rw[← HR.out];simp)⟩
    case measure=>simp[intOf]
   ·gi_wp2
    refine bodyPost_ret (results_none rfl _ _ _) rfl ?_
    exact⟨⟨_,rfl⟩,.inr ⟨_,trivial,hJx3⟩⟩
theorem HPr.lt {w:World} {ao:Option Addr} {n c:Nat} {l:List Pr} (h:HPr w (.slice ao n c) l) (a:Addr) (ha:ao=some a) (h0:0<l.length):a.block<w.heap.size:=by
 obtain⟨b,off,hb,hlt,_⟩:=HPr.at h h0
 rw[ha] at hb
 cases hb
 exact hlt
theorem Zbw (N:Nat) (hN:1≤N) (lo n₀:Nat) (ao:Option Addr) (ca:Nat) (l:List Pr) (hlen:l.length≤1048576) (w:World)
  (hlo:n₀≤lo) (hsz:lo<w.heap.size) (hb0:w.heap[lo]?=some (.cells #[.slice ao l.length ca] 129 (0,0))) (hl:HPr w (.slice ao l.length ca) l) (hb:∀ a,ao=some a→0<l.length→a.block<n₀) :
  SeqStopsK Fence.wide N Tryz.prog 132 #[.pointer (some ⟨lo,0,none⟩)] (fun x:Mp l.length=>#[.int .i64 (x.1.1:Int),prV x.1.2]) (Kq n₀ lo) (fun ys=>ys.map (·.1)=(en 0 l).reverse) (fun _=>True) l.length w:=fun lp J Jx W hW hJ _ hY h0 =>
 Zbv N hN lp lo n₀ ao ca l hlen J Jx W hJ hY hlo (Nat.lt_of_lt_of_le hsz hW.size) ((hW.block _ hsz).trans hb0) (HPr.keep hl hW (Nat.le_refl _)) hb h0
end

section
open Go.RowKit
attribute [local simp] ZgX ZgV
theorem Zil {w:World} {base n:Nat} {e:TypeId} {s:Nat} {v:Value} {xs:List Value} (ho:w.ownsRow base e s v n xs) {g:Nat} (hg:v.ownBlock=some g):∃ cur,w.heap[g]?=some (.cells cur e (0,0))∧base≤g:=by
 rcases ho.2 with ⟨h1,_⟩ | ⟨g',cap,cur,q1,q2,q3,_⟩
 ·rw[h1] at hg;cases hg
 ·rw[q1] at hg;cases hg;exact⟨cur,q3,q2⟩
theorem Zim {w:World} {base base' n n':Nat} {e e':TypeId} {s s':Nat} {v v':Value} {xs xs':List Value} (ho:w.ownsRow base e s v n xs) (ho':w.ownsRow base' e' s' v' n' xs') (hne:e≠e'):v.ownBlock=none∨v.ownBlock≠v'.ownBlock:=by
 cases h:v.ownBlock with
 | none=>exact .inl rfl
 | some g =>
  right
  intro e2
  obtain⟨cur,h1,_⟩:=Zil ho h
  obtain⟨cur',h2,_⟩:=Zil ho' e2.symm
  rw[h1] at h2
  cases h2
  exact hne rfl
structure Al (W:World) (base:Nat) (va:Value) (vals:List Value) (H:List (List Pr)):Prop where
 row:W.ownsRow base 176 1 va vals.length vals
 len:vals.length=H.length
 own:∀ (n:Nat) (v:Value) (h:List Pr),vals[n]?=some v→H[n]?=some h→W.ownsRow base 133 2 v h.length (prcells h)
 apart:∀ (i j:Nat) (v v':Value) (g:Nat),i≠j→vals[i]?=some v→vals[j]?=some v'→v.ownBlock=some g→v'.ownBlock≠some g
theorem Al.keep {W u:World} {base:Nat} {va:Value} {vals:List Value} {H:List (List Pr)} (h:Al W base va vals H) (hb:Low W u):Al u base va vals H :=
 ⟨Zin h.row hb,h.len,fun n v k h1 h2=>Zin (h.own n v k h1 h2) hb,h.apart⟩
theorem Al.at {W:World} {base:Nat} {va:Value} {vals:List Value} {H:List (List Pr)} (h:Al W base va vals H) {n:Nat} (hn:n<H.length):∃ v,vals[n]?=some v∧HPr W v H[n]:=by
 have hl:=h.len
 exact⟨vals[n],List.getElem?_eq_getElem (by omega),holds_of (h.own n _ _ (List.getElem?_eq_getElem (by omega)) (List.getElem?_eq_getElem hn))⟩
theorem Al.cell {W:World} {base:Nat} {ao:Option Addr} {k c:Nat} {vals:List Value} {H:List (List Pr)} (h:Al W base (.slice ao k c) vals H) {n:Nat} {v:Value} (hv:vals[n]?=some v):∃ g,ao=some ⟨g,0,none⟩∧g<W.heap.size∧W.cell? ⟨g,n,none⟩=some v∧W.frozen? ⟨g,n,none⟩=false:=by
 have hn:=(List.getElem?_eq_some_iff.1 hv).1
 rcases h.row.2 with ⟨h1,h2⟩ | ⟨g,cap,cur,q1,q2,q3,q4⟩
 ·omega
 ·cases q1
  refine⟨g,rfl,(Array.getElem?_eq_some_iff.1 q3).1,?_,h.row.frozenAt n⟩
  rw[h.row.cellAt n (by omega),hv]
theorem Al.set {W u:World} {base:Nat} {g k c:Nat} {vals:List Value} {H:List (List Pr)} (h:Al W base (.slice (some ⟨g,0,none⟩) k c) vals H) {n:Nat} {v v':Value} {h':List Pr} (hv:vals[n]?=some v) (hG:Grows base W v v' h' u):Al (u.setCell ⟨g,n,none⟩ v') base (.slice (some ⟨g,0,none⟩) k c) (vals.set n v') (H.set n h'):=by
 have hn:=(List.getElem?_eq_some_iff.1 hv).1
 have hl:=h.len
 obtain⟨g1,g2,g3⟩:=hG
 have hnH:n<H.length:=by omega
 have hOn:=h.own n v H[n] hv (List.getElem?_eq_getElem hnH)
 have hrow:u.ownsRow base 176 1 (.slice (some ⟨g,0,none⟩) k c) vals.length vals:=h.row.kept g2 (Zim h.row hOn (by decide))
 have hkk:k=vals.length:=by
  rcases h.row.2 with ⟨h1,h2⟩ | ⟨g',cap,cur,q1,_⟩
  ·cases h1
  ·cases q1;rfl
 subst hkk
 obtain⟨p1,gs⟩:=hrow.stored n v'
 refine⟨by rw[List.length_set];exact p1,by simp[hl],fun m x y hx hy=>?_,fun i j x y b hij hx hy hb=>?_⟩
 ·by_cases e:m=n
  ·subst e
   rw[List.getElem?_set_self hn] at hx
   rw[List.getElem?_set_self hnH] at hy
   cases hx
   cases hy
   exact g1.kept gs (by simpa [Value.ownBlock] using Zim g1 hrow (by decide))
  ·rw[List.getElem?_set_ne (fun q=>e q.symm)] at hx hy
   have hOm:=h.own m x y hx hy
   have hOu:u.ownsRow base 133 2 x y.length (prcells y):=hOm.kept g2 (by
    cases hb:x.ownBlock with
    | none=>exact .inl rfl
    | some b=>exact .inr (fun q=>h.apart m n x v b e hx hv hb q.symm))
   exact hOu.kept gs (by simpa [Value.ownBlock] using Zim hOu hrow (by decide))
 ·have key:∀ m y,m≠n→vals[m]?=some y→∀ b,y.ownBlock=some b→v'.ownBlock≠some b:=fun m y hmn hy b hb q=>by
   rcases g3 with g3 | ⟨g',g3,g4⟩
   ·exact h.apart m n y v b hmn hy hv hb (g3 ▸ q)
   ·rw[g3] at q
    cases q
    have hm:=(List.getElem?_eq_some_iff.1 hy).1
    have:=Zip (h.own m y H[m] hy (List.getElem?_eq_getElem (by omega))) hb
    omega
  by_cases ei:i=n
  ·subst ei
   rw[List.getElem?_set_self hn] at hx
   cases hx
   rw[List.getElem?_set_ne hij] at hy
   exact fun q=>key j y (fun q'=>hij q'.symm) hy b q hb
  ·rw[List.getElem?_set_ne (fun q=>ei q.symm)] at hx
   by_cases ej:j=n
   ·subst ej
    rw[List.getElem?_set_self hn] at hy
    cases hy
    exact key i x ei hx b hb
   ·rw[List.getElem?_set_ne (fun q=>ej q.symm)] at hy
    exact h.apart i j x y b hij hx hy hb
theorem Al.more {W w1:World} {base:Nat} {va va':Value} {vals:List Value} {H:List (List Pr)} (h:Al W base va vals H) (hO:w1.ownsRow base 176 1 va' (vals.length+1) (vals++[.slice none 0 0])) (hg:W.grownBy w1 va.ownBlock):Al w1 base va' (vals++[.slice none 0 0]) (H++[[]]):=by
 have hl:=h.len
 refine⟨by rw[List.length_append];exact hO,by simp[hl],fun n v k hv hk=>?_,fun i j x y b hij hx hy hb=>?_⟩
 ·by_cases e:n<vals.length
  ·rw[List.getElem?_append_left e] at hv
   rw[List.getElem?_append_left (by omega)] at hk
   have:=h.own n v k hv hk
   exact this.kept hg (Zim this h.row (by decide))
  ·have hn:n=vals.length:=by
    have:=(List.getElem?_eq_some_iff.1 hv).1
    simp at this
    omega
   subst hn
   rw[List.getElem?_append_right (Nat.le_refl _)] at hv
   rw[hl,List.getElem?_append_right (Nat.le_refl _)] at hk
   simp at hv hk
   subst hv hk
   exact World.ownsRow_nil _ _ _ _
 ·have key:∀ (m:Nat) (y:Value),(vals++[.slice none 0 0])[m]?=some y→y.ownBlock≠none→vals[m]?=some y:=fun m y hy hn=>by
   by_cases e:m<vals.length
   ·rwa [List.getElem?_append_left e] at hy
   ·rw[List.getElem?_append_right (by omega)] at hy
    have:=(List.getElem?_eq_some_iff.1 hy).1
    simp at this
    have e2:m-vals.length=0:=by omega
    rw[e2] at hy
    simp at hy
    subst hy
    exact absurd rfl hn
  intro q
  exact h.apart i j x y b hij (key i x hx (by rw[hb];simp)) (key j y hy (by rw[q];simp)) hb q
theorem ZbD (h:List Pr) (p:Pr) (v:Value) (W u:World) (hh:HPr W v h) (hl:h.length≤1048576) (hs:Hid (Stair h)) (r:Bool) (hr:Hid (r=true↔∃ a∈h,ab a p)) (hL:Low W u) :
  Calls Tryz.prog 119 #[v,prV p] u fun e w'=>e=.returned (.bool r)∧Low W w':=by
 refine (ZbB h p v u (HPr.keep hh hL (Nat.le_refl _)) hl hs r hr).mono ?_
 rintro e w' ⟨rfl,h2⟩
 exact⟨rfl,Below.trans hL (h2.mono (Below.size hL))⟩
theorem Zju (H:List (List Pr)) (p:Pr) (i B4 Bp base:Nat) (va:Value) (vals:List Value) (W u:World) (hL:Low W u) (hA:Al W base va vals H) (c4:W.cell? ⟨B4,0,none⟩=some va) (hb4:B4<W.heap.size) (cX:W.cell? ⟨Bp,0,none⟩=some (.int .i64 p.X)) (cY:W.cell? ⟨Bp,1,none⟩=some (.int .i64 p.Y)) (hbp:Bp<W.heap.size) (hi:i<H.length) (hst:Hid (∀ h∈H,Stair h∧h.length≤1048576)) (_hHl:H.length≤1048576) (r:Bool) (hr:Hid (r=true↔∃ a∈H[i],ab a p)) :
  Calls Tryz.prog 118 #[.int .i64 (i:Int),.pointer (some ⟨B4,0,none⟩),.pointer (some ⟨Bp,0,none⟩)] u fun e u'=>e=.returned (.bool !r)∧Low W u':=by
 obtain⟨ao,c,rfl⟩:=(holds_of hA.row).form
 obtain⟨v,hv,hh⟩:=hA.at hi
 obtain⟨g,rfl,hgl,cv,_⟩:=hA.cell hv
 have hs:=hst.out _ (List.getElem_mem hi)
 obtain⟨vo,vc,rfl⟩:=Holds.form hh
 have hlen:=hA.len
 obtain⟨X,Y⟩:=p
 dsimp only at cX cY
 have hcs:∀ z:World,Low W z→z.cell? ⟨B4,0,none⟩=some (.slice (some ⟨g,0,none⟩) vals.length c)∧z.cell? ⟨g,i,none⟩=some (.slice vo H[i].length vc)∧z.cell? ⟨Bp,0,none⟩=some (.int .i64 X)∧z.cell? ⟨Bp,1,none⟩=some (.int .i64 Y):=fun z hz=>⟨Zcc hz hb4 c4,Zcc hz hgl cv,Zcc hz hbp cX,Zcc hz hbp cY⟩
 obtain⟨d1,d2,d3,d4⟩:=hcs u hL
 obtain⟨h,hh'⟩:∃ h,H[i]=h:=⟨_,rfl⟩
 rw[hh'] at hh hs d2 hcs hr
 have HS:Hid (Stair h):=hs.1
 have hhl:=hs.2
 clear hh' c4 cX cY cv hs
 have i1:0≤(i:Int):=by omega
 have i2:(i:Int)<(vals.length:Int):=by omega
 go_enter Tryz.func118,Tryz.ntmps118
 go_wp2_with fail
 go_region_held3 (fun w'=>w'.cell? ⟨B4,0,none⟩=some (.slice (some ⟨g,0,none⟩) vals.length c)∧w'.cell? ⟨g,i,none⟩=some (.slice vo h.length vc)∧w'.cell? ⟨Bp,0,none⟩=some (.int .i64 X)∧w'.cell? ⟨Bp,1,none⟩=some (.int .i64 Y)∧Low W w') (go_keep)
  (first | (go_at_call 119;refine (ZbD h ⟨X,Y⟩ _ W _ hh hhl HS r hr (by first | assumption | (simp[*];done))).mono ?_;rintro e w' ⟨rfl,hlow⟩;obtain⟨g0,g1,g2,g3⟩:=hcs w' hlow))
 go_wp2
 go_ret
 exact⟨rfl,hlow⟩
end

section
open Go.RowKit
end

section
open Go.RowKit
end

end Go.Proofs.YtcnjephlmcnodaaGreatDoor
