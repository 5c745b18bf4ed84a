/-
  Texts that belong together, joined: PaMath, PaRow, PaCp, EdMk, HuCn, HuOne, HuCh, HuGr, HuC7, EdReg, EdApp, EdSameS, EdRApp, HuC8.
-/
import Derived.Test.YtgiojkhmkeocfaaGreatDoorCtmtBA3
import Derived.Test.YtgiojkhmkeocfaaGreatDoorCtmtBA4
import Derived.Laws.CopyOwn
import Derived.Lib.Overlaps
import Derived.Lib.AppendZerosOnto

set_option maxHeartbeats 16000000
set_option maxRecDepth 100000
namespace Go.Proofs.YtgiojkhmkeocfaaGreatDoor

section
structure Pr where
 X:Int
 Y:Int
abbrev ab (p q:Pr):Prop:=q.X<p.X∧q.Y<p.Y
theorem ab_trans {p q r:Pr} (h:ab p q) (h':ab q r):ab p r:=⟨Int.lt_trans h'.1 h.1,Int.lt_trans h'.2 h.2⟩
def mxl (p:Pr):List Pr→List Nat→Nat
 | t::ts,n::ns=>if ab t p then max n (mxl p ts ns) else mxl p ts ns
 | _,_=>0
def rl:List Pr→List Nat
 | []=>[]
 | p::t=>(mxl p t (rl t)+1)::rl t
theorem rl_length (l:List Pr):(rl l).length=l.length:=by
 induction l with
 | nil=>rfl
 | cons p t ih=>simp[rl,ih]
theorem mxl_ge (p:Pr) (t:List Pr) (ns:List Nat) (k:Nat) (q:Pr) (n:Nat) (hq:t[k]?=some q) (hn:ns[k]?=some n) (ha:ab q p):n≤mxl p t ns:=by
 induction t generalizing ns k with
 | nil=>simp at hq
 | cons a t ih =>
  cases ns with
  | nil=>simp at hn
  | cons b ns =>
   rw[mxl]
   cases k with
   | zero =>
    simp at hq hn
    subst hq hn
    rw[if_pos ha]
    omega
   | succ k =>
    have:=ih ns k (by simpa using hq) (by simpa using hn)
    split<;>omega
theorem mxl_at (p:Pr) (t:List Pr) (ns:List Nat) (h:0<mxl p t ns):∃ (k:Nat) (q:Pr),t[k]?=some q∧ns[k]?=some (mxl p t ns)∧ab q p:=by
 induction t generalizing ns with
 | nil=>simp[mxl] at h
 | cons a t ih =>
  cases ns with
  | nil=>simp[mxl] at h
  | cons b ns =>
   rw[mxl] at h ⊢
   by_cases ha:ab a p
   ·rw[if_pos ha] at h ⊢
    by_cases hb:mxl p t ns≤b
    ·exact⟨0,a,rfl,by simp;omega,ha⟩
    ·obtain⟨k,q,h1,h2,h3⟩:=ih ns (by omega)
     exact⟨k+1,q,by simpa using h1,by simp[h2];omega,h3⟩
   ·rw[if_neg ha] at h ⊢
    obtain⟨k,q,h1,h2,h3⟩:=ih ns h
    exact⟨k+1,q,by simpa using h1,by simpa using h2,h3⟩
def Hd (t:List Pr) (n:Nat) (p:Pr):Prop:=∃ (k:Nat) (q:Pr),t[k]?=some q∧(rl t)[k]?=some (n+1)∧ab q p
theorem Hd.down {t:List Pr} {n:Nat} {p:Pr} (h:Hd t (n+1) p):Hd t n p:=by
 obtain⟨k,q,h1,h2,h3⟩:=h
 induction t generalizing k with
 | nil=>simp at h1
 | cons a t ih =>
  cases k with
  | zero =>
   simp[rl] at h1 h2
   subst h1
   obtain⟨j,r,g1,g2,g3⟩:=mxl_at a t (rl t) (by omega)
   exact⟨j+1,r,by simpa using g1,by simp[rl,g2,h2],ab_trans g3 h3⟩
  | succ k =>
   obtain⟨j,r,g1,g2,g3⟩:=ih k (by simpa using h1) (by simpa [rl] using h2)
   exact⟨j+1,r,by simpa using g1,by simpa [rl] using g2,g3⟩
theorem Hd.downs {t : List Pr} {n m : Nat} {p : Pr} (h : Hd t n p) (hm : m ≤ n) : Hd t m p := by
  induction n with
  | zero => obtain rfl : m = 0 := by omega
            exact h
  | succ n ih =>
    by_cases e : m = n + 1
    · subst e; exact h
    · exact ih h.down (by omega)
def Stair (h:List Pr):Prop:=h.Pairwise fun a b=>b.X≤a.X∧a.Y≤b.Y
structure Hds (t:List Pr) (H:List (List Pr)):Prop where
 st:∀ h∈H,Stair h
 eq:∀ n h,H[n]?=some h→∀ p,(∃ a∈h,ab a p)↔Hd t n p
 top:∀ n∈rl t,n≤H.length
theorem Hds.start:Hds [] []:=⟨by simp,by simp,by simp[rl]⟩
theorem Hds.beyond {t:List Pr} {H:List (List Pr)} (h:Hds t H) {n:Nat} (hn:H.length≤n) (p:Pr):¬ Hd t n p:=by
 rintro⟨k,q,h1,h2,h3⟩
 have:=h.top (n+1) (List.mem_of_getElem? h2)
 omega
theorem mxl_of {t:List Pr} {H:List (List Pr)} (_h:Hds t H) {p:Pr} {n:Nat} (h1:∀ m,m<n→Hd t m p) (h2:¬ Hd t n p):mxl p t (rl t)=n:=by
 have hle:mxl p t (rl t)≤n:=by
  by_cases hc:mxl p t (rl t)≤n
  ·exact hc
  ·exfalso
   obtain⟨k,q,g1,g2,g3⟩:=mxl_at p t (rl t) (by omega)
   have:Hd t (mxl p t (rl t)-1) p:=⟨k,q,g1,by rw[g2];congr 1;omega,g3⟩
   exact h2 (this.downs (by omega))
 cases n with
 | zero=>omega
 | succ n =>
  obtain⟨k,q,g1,g2,g3⟩:=h1 n (Nat.lt_succ_self n)
  have:=mxl_ge p t (rl t) k q (n+1) g1 g2 g3
  omega
def upto (h:List Pr) (x:Int):Nat:=h.findIdx fun a=>decide (a.X≤x)
def grt (h:List Pr) (y:Int):Nat:=h.findIdx fun a=>decide (y<a.Y)
def ins (h:List Pr) (p:Pr):List Pr:=h.take (upto h p.X)++p::h.drop (grt h p.Y)
theorem upto_le (h:List Pr) (x:Int):upto h x≤h.length:=List.findIdx_le_length
theorem grt_le (h:List Pr) (y:Int):grt h y≤h.length:=List.findIdx_le_length
theorem upto_lt {h:List Pr} {x:Int} {i:Nat} (hi:i<upto h x) (hl:i<h.length):x<h[i].X:=by
 have:=List.not_of_lt_findIdx (p:=fun a:Pr=>decide (a.X≤x)) (xs:=h) hi
 simpa using this
theorem upto_ge {h:List Pr} (hs:Stair h) {x:Int} {i:Nat} (hi:upto h x≤i) (hl:i<h.length):h[i].X≤x:=by
 have h0:upto h x<h.length:=by omega
 have h1:h[upto h x].X≤x:=of_decide_eq_true (List.findIdx_getElem (p:=fun a:Pr=>decide (a.X≤x)) (xs:=h) (w:=h0))
 by_cases e:upto h x=i
 ·simpa [e] using h1
 ·have:=(List.pairwise_iff_getElem.1 hs) (upto h x) i h0 hl (by omega)
  omega
theorem grt_lt {h:List Pr} {y:Int} {i:Nat} (hi:i<grt h y) (hl:i<h.length):h[i].Y≤y:=by
 have:=List.not_of_lt_findIdx (p:=fun a:Pr=>decide (y<a.Y)) (xs:=h) hi
 simpa using this
theorem grt_ge {h:List Pr} (hs:Stair h) {y:Int} {i:Nat} (hi:grt h y≤i) (hl:i<h.length):y<h[i].Y:=by
 have h0:grt h y<h.length:=by omega
 have h1:y<h[grt h y].Y:=of_decide_eq_true (List.findIdx_getElem (p:=fun a:Pr=>decide (y<a.Y)) (xs:=h) (w:=h0))
 by_cases e:grt h y=i
 ·simpa [e] using h1
 ·have:=(List.pairwise_iff_getElem.1 hs) (grt h y) i h0 hl (by omega)
  omega
theorem behind_iff {h:List Pr} (hs:Stair h) (p:Pr):(∃ a∈h,ab a p)↔0<upto h p.X∧∃ a,h[upto h p.X-1]?=some a∧p.Y<a.Y:=by
 constructor
 ·rintro⟨a,ha,h1,h2⟩
  obtain⟨i,hi,rfl⟩:=List.getElem_of_mem ha
  have hlt:i<upto h p.X:=by
   by_cases c:i<upto h p.X
   ·exact c
   ·have:=upto_ge hs (x:=p.X) (i:=i) (by omega) hi;omega
  have hle:=upto_le h p.X
  refine⟨by omega,h[upto h p.X-1],List.getElem?_eq_getElem (by omega),?_⟩
  by_cases e:i=upto h p.X-1
  ·simpa [← e] using h2
  ·have:=(List.pairwise_iff_getElem.1 hs) i (upto h p.X-1) hi (by omega) (by omega)
   omega
 ·rintro⟨h0,a,ha,h1⟩
  obtain⟨hl,rfl⟩:=List.getElem?_eq_some_iff.1 ha
  exact⟨_,List.getElem_mem _,upto_lt (by omega) hl,h1⟩
theorem upto_grt {h:List Pr} (hs:Stair h) {p:Pr} (hn:¬ ∃ a∈h,ab a p):upto h p.X≤grt h p.Y:=by
 by_cases c:upto h p.X≤grt h p.Y
 ·exact c
 ·exfalso
  have hl:=upto_le h p.X
  exact hn ⟨h[grt h p.Y]'(by omega),List.getElem_mem _,upto_lt (by omega) (by omega),grt_ge hs (Nat.le_refl _) (by omega)⟩
theorem ins_stair {h:List Pr} (hs:Stair h) {p:Pr} (hn:¬ ∃ a∈h,ab a p):Stair (ins h p):=by
 unfold ins Stair
 rw[List.pairwise_append]
 refine⟨hs.take,?_,?_⟩
 ·rw[List.pairwise_cons]
  refine⟨fun a ha=>?_,hs.drop⟩
  obtain⟨i,hi,rfl⟩:=List.getElem_of_mem ha
  rw[List.length_drop] at hi
  rw[List.getElem_drop]
  have hug:=upto_grt hs hn
  exact⟨upto_ge hs (by omega) (by omega),Int.le_of_lt (grt_ge hs (by omega) (by omega))⟩
 ·intro a ha b hb
  obtain⟨i,hi,rfl⟩:=List.getElem_of_mem ha
  rw[List.length_take] at hi
  rw[List.getElem_take]
  have h1:=upto_lt (h:=h) (x:=p.X) (i:=i) (by omega) (by omega)
  rw[List.mem_cons] at hb
  rcases hb with hb | hb
  ·rw[hb]
   refine⟨Int.le_of_lt h1,?_⟩
   by_cases c:h[i].Y≤p.Y
   ·exact c
   ·exact absurd ⟨h[i],List.getElem_mem _,h1,by omega⟩ hn
  ·obtain⟨j,hj,rfl⟩:=List.getElem_of_mem hb
   rw[List.length_drop] at hj
   rw[List.getElem_drop]
   have hug:=upto_grt hs hn
   exact (List.pairwise_iff_getElem.1 hs) i (grt h p.Y+j) (by omega) (by omega) (by omega)
theorem ins_ab {h:List Pr} (hs:Stair h) {p:Pr} (hn:¬ ∃ a∈h,ab a p) (q:Pr):(∃ a∈ins h p,ab a q)↔ab p q∨∃ a∈h,ab a q:=by
 constructor
 ·rintro⟨a,ha,hq⟩
  unfold ins at ha
  rw[List.mem_append,List.mem_cons] at ha
  rcases ha with ha | rfl | ha
  ·exact .inr ⟨a,List.mem_of_mem_take ha,hq⟩
  ·exact .inl hq
  ·exact .inr ⟨a,List.mem_of_mem_drop ha,hq⟩
 ·rintro (hq | ⟨a,ha,hq⟩)
  ·exact⟨p,by simp[ins],hq⟩
  ·obtain⟨i,hi,rfl⟩:=List.getElem_of_mem ha
   by_cases c1:i<upto h p.X
   ·refine⟨h[i],?_,hq⟩
    unfold ins
    rw[List.mem_append]
    left
    rw[List.mem_take_iff_getElem]
    exact⟨i,by omega,rfl⟩
   ·by_cases c2:i<grt h p.Y
    ·have h1:=upto_ge hs (x:=p.X) (i:=i) (by omega) hi
     have h2:=grt_lt (y:=p.Y) (i:=i) c2 hi
     have:=hq.1
     have:=hq.2
     exact⟨p,by simp[ins],by unfold ab;omega⟩
    ·refine⟨h[i],?_,hq⟩
     unfold ins
     rw[List.mem_append,List.mem_cons]
     right;right
     rw[List.mem_drop_iff_getElem]
     exact⟨i-grt h p.Y,by omega,by congr 1;omega⟩
def room (H:List (List Pr)) (n:Nat):List (List Pr):=if n=H.length then H++[[]] else H
theorem Hds.step {t:List Pr} {H:List (List Pr)} (h:Hds t H) {p:Pr} {n:Nat} (hn:n≤H.length) (h1:∀ m,m<n→Hd t m p) (h2:¬ Hd t n p) (g:List Pr) (hg:(room H n)[n]?=some g) :
  Hds (p::t) ((room H n).set n (ins g p))∧rl (p::t)=(n+1)::rl t∧Stair g∧¬ ∃ a∈g,ab a p:=by
 have hm:=mxl_of h h1 h2
 have hr:rl (p::t)=(n+1)::rl t:=by rw[rl,hm]
 have hgs:Stair g∧∀ q,(∃ a∈g,ab a q)↔Hd t n q:=by
  unfold room at hg
  by_cases e:n=H.length
  ·rw[if_pos e,e,List.getElem?_append_right (Nat.le_refl _)] at hg
   simp at hg
   subst hg
   exact⟨List.Pairwise.nil,fun q=>⟨by simp,fun hh=>absurd hh (h.beyond (by omega) q)⟩⟩
  ·rw[if_neg e] at hg
   exact⟨h.st g (List.mem_of_getElem? hg),h.eq n g hg⟩
 have hna:¬ ∃ a∈g,ab a p:=fun c=>h2 ((hgs.2 p).1 c)
 have hlen:H.length≤(room H n).length∧n<(room H n).length:=by unfold room;split<;>simp<;>omega
 refine⟨⟨?_,?_,?_⟩,hr,hgs.1,hna⟩
 ·intro k hk
  rcases List.mem_or_eq_of_mem_set hk with hk | rfl
  ·unfold room at hk
   split at hk
   ·rw[List.mem_append,List.mem_singleton] at hk
    rcases hk with hk | rfl
    ·exact h.st k hk
    ·exact List.Pairwise.nil
   ·exact h.st k hk
  ·exact ins_stair hgs.1 hna
 ·intro m k hk q
  by_cases e:m=n
  ·subst e
   rw[List.getElem?_set_self hlen.2] at hk
   cases hk
   rw[ins_ab hgs.1 hna,hgs.2]
   constructor
   ·rintro (hq | ⟨j,r,g1,g2,g3⟩)
    ·exact⟨0,p,rfl,by rw[hr];rfl,hq⟩
    ·exact⟨j+1,r,by simpa using g1,by rw[hr];simpa using g2,g3⟩
   ·rintro⟨j,r,g1,g2,g3⟩
    cases j with
    | zero=>simp at g1;subst g1;exact .inl g3
    | succ j=>exact .inr ⟨j,r,by simpa using g1,by rw[hr] at g2;simpa using g2,g3⟩
  ·rw[List.getElem?_set_ne (fun e'=>e e'.symm)] at hk
   have hk':H[m]?=some k:=by
    unfold room at hk
    split at hk
    ·by_cases hml:m<H.length
     ·rwa [List.getElem?_append_left hml] at hk
     ·have:=(List.getElem?_eq_some_iff.1 hk).1
      simp at this
      omega
    ·exact hk
   rw[h.eq m k hk']
   constructor
   ·rintro⟨j,r,g1,g2,g3⟩
    exact⟨j+1,r,by simpa using g1,by rw[hr];simpa using g2,g3⟩
   ·rintro⟨j,r,g1,g2,g3⟩
    cases j with
    | zero=>rw[hr] at g2;simp at g2;omega
    | succ j=>exact⟨j,r,by simpa using g1,by rw[hr] at g2;simpa using g2,g3⟩
 ·intro m hm'
  rw[hr,List.mem_cons] at hm'
  rw[List.length_set]
  rcases hm' with rfl | hm'
  ·omega
  ·have:=h.top m hm'
   omega
def pick:Nat→Option Pr→List Pr→List Nat→List Pr
 | left,last,p::l,n::ns=>if n=left∧(∀ q,last=some q→ab p q) then p::pick (left-1) (some p) l ns else pick left last l ns
 | _,_,_,_=>[]
def mxn:List Nat→Nat
 | []=>0
 | n::ns=>max n (mxn ns)
def lng (l:List Pr):List Pr:=pick (mxn (rl l)) none l (rl l)
end

section
open Go.RowKit
def prV (p:Pr):Value:=.agg #[.int .i64 p.X,.int .i64 p.Y]
def prC (p:Pr):List Value:=[.int .i64 p.X,.int .i64 p.Y]
def prcells (l:List Pr):List Value:=l.flatMap prC
theorem infoPr:(Tryz.prog.info? 249).map (fun i=>(i.zero,i.size,i.bytes))=some (some (.agg #[.int .i64 0,.int .i64 0]),2,16):=by kernel_rfl
theorem prcells_length (l:List Pr):(prcells l).length=l.length * 2:=by
 induction l with
 | nil=>rfl
 | cons p t ih=>simp only[prcells,List.flatMap_cons,List.length_append,List.length_cons,prC,List.length_nil] at ih ⊢;omega
theorem prcells_append (a b:List Pr):prcells (a++b)=prcells a++prcells b:=by simp[prcells]
theorem prcells_one (l:List Pr):∀ u∈prcells l,u.oneCell'=true:=by
 intro u hu
 simp only[prcells,List.mem_flatMap] at hu
 obtain⟨p,_,hp⟩:=hu
 simp[prC] at hp
 rcases hp with rfl | rfl<;>rfl
theorem prcells_at (l:List Pr) (k:Nat) (hk:k<l.length):(prcells l)[2 * k]?=some (.int .i64 l[k].X)∧(prcells l)[2 * k+1]?=some (.int .i64 l[k].Y):=by
 induction l generalizing k with
 | nil=>simp at hk
 | cons p t ih =>
  have e:prcells (p::t)=.int .i64 p.X::.int .i64 p.Y::prcells t:=rfl
  cases k with
  | zero=>rw[e];exact⟨rfl,rfl⟩
  | succ k =>
   have:=ih k (by simpa using hk)
   rw[e,show 2 * (k+1)=2 * k+1+1 by omega]
   simpa using this
theorem prcells_take (l:List Pr) (k:Nat):prcells (l.take k)=(prcells l).take (2 * k):=by
 induction l generalizing k with
 | nil=>simp[prcells]
 | cons p t ih =>
  cases k with
  | zero=>simp[prcells]
  | succ k =>
   have e:prcells (p::t)=.int .i64 p.X::.int .i64 p.Y::prcells t:=rfl
   have e2:prcells ((p::t).take (k+1))=.int .i64 p.X::.int .i64 p.Y::prcells (t.take k):=rfl
   rw[e,e2,ih,show 2 * (k+1)=2 * k+1+1 by omega]
   rfl
theorem prcells_drop (l:List Pr) (k:Nat):prcells (l.drop k)=(prcells l).drop (2 * k):=by
 induction l generalizing k with
 | nil=>simp[prcells]
 | cons p t ih =>
  cases k with
  | zero=>simp
  | succ k =>
   have e:prcells (p::t)=.int .i64 p.X::.int .i64 p.Y::prcells t:=rfl
   rw[e,List.drop_succ_cons,ih,show 2 * (k+1)=2 * k+1+1 by omega]
   rfl
def HPr (w:World) (v:Value) (l:List Pr):Prop:=Holds w v l.length (prcells l)
theorem HPr.keep {w w':World} {v:Value} {l:List Pr} (h:HPr w v l) {N:Nat} (hk:Below N w w') (hN:w.heap.size≤N):HPr w' v l:=Holds.keep h fun k hk'=>hk.block k (by omega)
theorem HPr.at {w:World} {ao:Option Addr} {n c:Nat} {l:List Pr} (h:HPr w (.slice ao n c) l) (h0:0<l.length):∃ b off,ao=some ⟨b,off,none⟩∧b<w.heap.size ∧
  ∀ k (hk:k<l.length),w.cell? ⟨b,off+k * 2,none⟩=some (.int .i64 l[k].X)∧w.cell? ⟨b,off+k * 2+1,none⟩=some (.int .i64 l[k].Y):=by
 obtain⟨b,off,c',hv,hb,hc⟩:=Holds.at h (by rw[prcells_length];omega)
 cases hv
 refine⟨b,off,rfl,hb,fun k hk=>?_⟩
 obtain⟨h1,h2⟩:=prcells_at l k hk
 obtain⟨l1,e1⟩:=List.getElem?_eq_some_iff.1 h1
 obtain⟨l2,e2⟩:=List.getElem?_eq_some_iff.1 h2
 have g1:=hc _ l1
 have g2:=hc _ l2
 rw[e1] at g1
 rw[e2] at g2
 rw[show k * 2=2 * k by omega,Nat.add_assoc]
 exact⟨g1,g2⟩
end

section
open Go.RowKit
def Blk (w:World) (g:Nat) (cur:List Value):Prop:=w.heap[g]?=some (.cells cur.toArray 249 (0,0))
def spl (cur:List Value) (o:Nat) (cs:List Value):List Value:=cur.take o++cs++cur.drop (o+cs.length)
theorem spl_length {cur:List Value} {o:Nat} {cs:List Value} (h:o+cs.length≤cur.length):(spl cur o cs).length=cur.length:=by
 unfold spl
 simp
 omega
theorem spl_take {cur:List Value} {o:Nat} {cs:List Value} (h:o+cs.length≤cur.length) (k:Nat) (hk:k=o+cs.length):(spl cur o cs).take k=cur.take o++cs:=by
 unfold spl
 subst hk
 rw[List.take_left' (by simp;omega)]
theorem Blk.cell {w:World} {g:Nat} {cur:List Value} (h:Blk w g cur) (j:Nat):w.cell? ⟨g,j,none⟩=cur[j]?:=by
 rw[cell_of_row w g j cur.toArray _ (0,0) h]
 simp
theorem size_of_pr:∀ u:World,(sizeOf 249).run Tryz.prog u=.ok 2 u:=fun u=>by kernel_rfl
theorem setRow_grown (w:World) (g:Nat) (cs:Array Value):w.grownBy (w.setRow g cs) (some g) :=
 ⟨rfl,rfl,rfl,by simp[World.setRow],fun k _ hk=>setRow_other w g k cs (fun e=>hk (by rw[e]))⟩
theorem run_copy_pr {T T':TypeId} (hT:Tryz.prog.underlying T=some (.slice 249)) (w:World) (ty:TypeId) (g o dLen dCap:Nat) (a:Addr) (sLen sCap:Nat) (cur cs:List Value) (k:Nat)
  (hg:Blk w g cur) (hk:Nat.min sLen dLen=k) (hn:cs.length=k * 2) (hsrc:∀ j v,cs[j]?=some v→w.cell? (a.add j)=some v) (hfit:o+cs.length≤cur.length) (h1:∀ v∈cs,v.oneCell'=true) :
  (Builtin.copy_ #[T,T'] ty #[.slice (some ⟨g,o,none⟩) dLen dCap,.slice (some a) sLen sCap]).run Tryz.prog w=.ok (goInt k) (w.setRow g (spl cur o cs).toArray):=by
 have hl:=run_loadCells_list (P:=Tryz.prog) w a cs hsrc
 have hst:=run_storeCells_at Tryz.prog g o _ cs 0 cur.toArray w hg (by simpa using hfit) h1
 have hz:=size_of_pr w
 rw[hn] at hl
 simp[Builtin.copy_,run_underlying hT,Builtin.lenOf,Builtin.firstCells,hz,hk,hl,hst,spl]
theorem run_clear_pr {T:TypeId} (hT:Tryz.prog.underlying T=some (.slice 249)) (w:World) (ty:TypeId) (g o n c:Nat) (cur:List Value) (hg:Blk w g cur) (hfit:o+n * 2≤cur.length) :
  ∃ u,(Builtin.clear_ #[T] ty #[.slice (some ⟨g,o,none⟩) n c]).run Tryz.prog w=.ok (.tuple #[]) u∧w.grownBy u (some g)∧∃ cur':List Value,Blk u g cur'∧cur'.length=cur.length∧cur'.take o=cur.take o:=by
 cases n with
 | zero=>exact⟨w,by simp[Builtin.clear_,run_underlying hT],World.grownBy.refl _ _,cur,hg,rfl,rfl⟩
 | succ n =>
  obtain⟨zs,hzs⟩:∃ zs:List Value,(Builtin.zeroCells (Value.agg #[.int .i64 0,.int .i64 0]).cells (n+1)).toList=zs:=⟨_,rfl⟩
  have hzl:zs.length=(n+1) * 2:=by rw[← hzs];simp[Builtin.zeroCells,Value.cells]
  have hz1:∀ v∈zs,v.oneCell'=true:=by
   intro v hv
   rw[← hzs] at hv
   simp[Builtin.zeroCells,Value.cells] at hv
   obtain⟨k,hk,rfl⟩:=hv
   have:k % 2=0∨k % 2=1:=by omega
   rcases this with h | h<;>simp[h]<;>rfl
  have hst:=run_storeCells_at Tryz.prog g o _ zs 0 cur.toArray w hg (by simp;omega) hz1
  have hzv:(zeroValue 249).run Tryz.prog w=.ok (.agg #[.int .i64 0,.int .i64 0]) w:=by
   obtain⟨i0,hi,hz0,_,_⟩:=info_parts infoPr
   simp[zeroValue,typeInfo,hi,hz0]
  refine⟨w.setRow g (spl cur o zs).toArray,?_,setRow_grown _ _ _,_,setRow_heap w g _ _ _ _ hg,spl_length (by omega),?_⟩
  ·simp[Builtin.clear_,run_underlying hT,hzv,hzs,hst,spl]
  ·unfold spl
   rw[List.append_assoc,List.take_left' (by simp;omega)]
theorem run_append_types {T T':TypeId} (hT:Tryz.prog.underlying T=some (.slice 249)) (hT':Tryz.prog.underlying T'=some (.slice 249)) (ty:TypeId) (ao bo:Option Addr) (n c m d:Nat) (w:World):(Builtin.append_ #[T,T'] ty #[.slice ao n c,.slice bo m d]).run Tryz.prog w=(Builtin.append_ #[T,T] ty #[.slice ao n c,.slice bo m d]).run Tryz.prog w:=by
 have h1:=run_underlying hT
 have h2:=run_underlying hT'
 unfold Builtin.append_
 simp[h1,h2]
theorem run_append_room {T T':TypeId} (hT:Tryz.prog.underlying T=some (.slice 249)) (hT':Tryz.prog.underlying T'=some (.slice 249)) (w:World) (ty:TypeId) (g n cap:Nat) (a:Addr) (m c:Nat) (cur cs:List Value)
  (hg:Blk w g cur) (hroom:n+m≤cap) (hn:cs.length=m * 2) (hsrc:∀ j v,cs[j]?=some v→w.cell? (a.add j)=some v) (hfit:n * 2+cs.length≤cur.length) (h1:∀ v∈cs,v.oneCell'=true) :
  (Builtin.append_ #[T,T'] ty #[.slice (some ⟨g,0,none⟩) n cap,.slice (some a) m c]).run Tryz.prog w=.ok (.slice (some ⟨g,0,none⟩) (n+m) cap) (w.setRow g (spl cur (n * 2) cs).toArray):=by
 have hl:=run_loadCells_list (P:=Tryz.prog) w a cs hsrc
 have hst:=run_storeCells_at Tryz.prog g (n * 2) _ cs 0 cur.toArray w hg (by simpa using hfit) h1
 have hz:=size_of_pr w
 rw[hn] at hl
 have h1:=run_underlying hT
 have h2:=run_underlying hT'
 simp[Builtin.append_,h1,h2,Builtin.lenOf,Builtin.firstCells,hz,hl,hroom,add_none,hst,spl]
theorem step_cp {ops:Array Oper} {o:Oper} {a:Act} {K:Act→World→Prop} {Q:Exit→Act→World→Prop} {X:Prop} (w:World) (hgd:o.guard=none) (d s:Operand) (T T':TypeId)
  (ho:o.op=.call { callee:=.builtin .copy,args:=#[d,s],argTypes:=#[T,T'] }) (v u:Value) (hd:a.eval d=v) (hs:a.eval s=u) (v':Value) (w':World)
  (hr:(Builtin.copy_ #[T,T'] o.type #[v,u]).run Tryz.prog w=.ok v' w') (h:K (a.put o.dst v') w'):if Region.wanted o (yielded ops a.tmps)=true then Oper.wp Tryz.prog o a w K Q else X:=by
 have hw:Region.wanted o (yielded ops a.tmps)=true:=by simp[Region.wanted,hgd]
 rw[if_pos hw]
 unfold Oper.wp
 simp[execOp,ho,resolve,invoke,builtin,hd,hs,hr,Result.andThen]
 exact h
theorem wpList_ap {ops:Array Oper} {rest:List Oper} {o:Oper} {a:Act} {Q:Exit→Act→World→Prop} (w:World) (hw:Region.wanted o (yielded ops a.tmps)=true) (d s:Operand) (T T':TypeId)
  (ho:o.op=.call { callee:=.builtin .append,args:=#[d,s],argTypes:=#[T,T'] }) (v u:Value) (hd:a.eval d=v) (hs:a.eval s=u) (v':Value) (w':World)
  (hr:(Builtin.append_ #[T,T'] o.type #[v,u]).run Tryz.prog w=.ok v' w') (h:wpList Tryz.prog ops Q rest (a.put o.dst v') w'):wpList Tryz.prog ops Q (o::rest) a w:=by
 refine wpList_step fun K hK=>?_
 rw[if_pos hw]
 unfold Oper.wp
 simp[execOp,ho,resolve,invoke,builtin,hd,hs,hr,Result.andThen]
 exact hK _ _ h
theorem wpList_cl {ops:Array Oper} {rest:List Oper} {o:Oper} {a:Act} {Q:Exit→Act→World→Prop} (w:World) (hw:Region.wanted o (yielded ops a.tmps)=true) (d:Operand) (T:TypeId)
  (ho:o.op=.call { callee:=.builtin .clear,args:=#[d],argTypes:=#[T] }) (v:Value) (hd:a.eval d=v) (v':Value) (w':World)
  (hr:(Builtin.clear_ #[T] o.type #[v]).run Tryz.prog w=.ok v' w') (h:wpList Tryz.prog ops Q rest (a.put o.dst v') w'):wpList Tryz.prog ops Q (o::rest) a w:=by
 refine wpList_step fun K hK=>?_
 rw[if_pos hw]
 unfold Oper.wp
 simp[execOp,ho,resolve,invoke,builtin,hd,hr,Result.andThen]
 exact hK _ _ h
theorem sl_from {T:TypeId} (hT:Tryz.prog.underlying T=some (.slice 249)) (he:Tryz.prog.elem T=249) (g n cap l:Nat) (hl:l≤n) (hc:l<cap) (u:World):(Instr.slice T (.slice (some ⟨g,0,none⟩) n cap) (some (.int .i64 (l:Int))) none none).run Tryz.prog u=.ok (.slice (some ⟨g,l * 2,none⟩) (n-l) (cap-l)) u:=by
 rw[run_slice_l (P:=Tryz.prog) u T (some ⟨g,0,none⟩) n cap (by rw[hT,← he]) .i64 l (by omega) (by omega),he,size_of_pr]
 simp only[Result.andThen,sliced,Option.map_some,add_none]
 rw[if_neg (by omega)]
 simp
theorem sl_to {T:TypeId} (hT:Tryz.prog.underlying T=some (.slice 249)) (he:Tryz.prog.elem T=249) (g n cap h:Nat) (hc:h≤cap) (u:World):(Instr.slice T (.slice (some ⟨g,0,none⟩) n cap) none (some (.int .i64 (h:Int))) none).run Tryz.prog u=.ok (.slice (some ⟨g,0,none⟩) h cap) u:=by
 rw[run_slice_h (P:=Tryz.prog) u T (some ⟨g,0,none⟩) n cap (by rw[hT,← he]) .i64 h (by omega) (by omega),he,size_of_pr]
 simp only[Result.andThen,sliced,Option.map_some,add_none]
 simp
end

section
open Go.RowKit
def sm (r:Rn):Prop:=0≤r.a∧r.a≤4294967296∧0≤r.b∧r.b≤4294967296∧0≤r.n∧r.n≤4294967296
theorem owns_apart {w w':World} {base base':Nat} {e e':TypeId} {s s':Nat} {v v':Value} {n n':Nat} {xs xs':List Value} (h:w.ownsRow base e s v n xs) (h':w.ownsRow base' e' s' v' n' xs') (hne:e≠e') (h0:0<n) (hg:w.grownBy w' v'.ownBlock):w'.ownsRow base e s v n xs:=by
 refine h.kept hg (.inr ?_)
 rcases h.2 with ⟨_,h1⟩ | ⟨g,cap,cur,rfl,_,hc,_⟩
 ·omega
 ·rcases h'.2 with ⟨rfl,_⟩ | ⟨g',cap',cur',rfl,_,hc',_⟩
  ·simp[Value.ownBlock]
  ·intro e1
   simp only[Value.ownBlock,Option.some.injEq] at e1
   subst e1
   rw[hc] at hc'
   cases hc'
   exact hne rfl
theorem new_holds_at (W:World) (g:Nat) (hg:W.heap.size=g) (cs:Array Value) (e:TypeId) (k c:Nat) (hkc:k≤c):Holds (W.alloc (.cells cs e)) (.slice (some ⟨g,0,none⟩) k c) k cs.toList:=by
 subst hg
 exact new_holds W cs e k c hkc
theorem between_f (rs RS:List Rn) (L:List Ch) (n m:Int) (v:Value) (base:Nat) (w:World) (hbase:base≤w.heap.size) (hv:w.ownsRow base 271 3 v rs.length (rncells rs)) (hlen:rs.length≤1099511627776) (hRS:Hid (rs++[⟨n,m,0⟩]=RS)) (hL:Hid (betw 0 0 RS=L)) (hs:Hid (∀ r∈RS,sm r)) (hN:Hid (∀ c∈L,numB c=true)) :
  Calls Tryz.prog 227 #[v,.int .i64 n,.int .i64 m] w fun e w'=>∃ v',e=.returned (.tuple #[v',.int .i64 0])∧HCh w' v' L∧Below base w w':=by
 obtain⟨ao,ca,rfl⟩:=(holds_of hv).form
 go_enter Tryz.func227,Tryz.ntmps227
 go_wp2_with (at_builtin;refine wpList_append_h _ (by kernel_rfl) (.tmp 15) (.tmp 19) 269 271 (.agg #[.int .i64 0,.int .i64 0,.int .i64 0]) 3 24 rfl Tryz.underlying269 infoRn rfl (by decide) (by decide) base _ _ _ rfl (hv.alloc _) _ 1 (rncells [⟨n,m,0⟩]) rfl (new_holds _ _ _ _ _ (by decide)) rfl (rncells_one _) (by omega) (by simp;omega) ?_)
 intro v1 w1 hown1 hgrow1
 have hB1:Below base w w1:=((Below.refl base w).alloc hbase _).grown hgrow1 (by simp;omega) (fun _ hj=>owns_ge hv hj)
 have hsz1:=hB1.size
 rw[← rncells_append,hRS.out] at hown1
 have hRl:RS.length=rs.length+1:=by rw[← hRS.out];simp
 obtain⟨N,hNe⟩:∃ N,rs.length+1=N:=⟨_,rfl⟩
 rw[hNe] at hown1 hRl
 have hN0:0<N:=by omega
 have hNl:N≤1099511627777:=by omega
 obtain⟨g1,cap1,rfl⟩:∃ g cap,v1=.slice (some ⟨g,0,none⟩) N cap:=by rw[← hNe] at hown1 ⊢;exact ownsRow_succ hown1
 clear hgrow1 hNe hv
 go_wp2
 go_loopw [8,9,10,22] (fun lv av bv iv wr=>∃ (k:Nat) (a b:Int) (X:List Ch),k≤N∧(∃ oo oc,lv=.slice oo X.length oc)∧av=.int .i64 a∧bv=.int .i64 b∧iv=.int .i64 k∧0≤a∧a≤8589934592∧0≤b∧b≤8589934592∧Below base w wr∧wr.ownsRow base 64 4 lv X.length (chcells X)∧X.length≤k∧wr.ownsRow base 271 3 (.slice (some ⟨g1,0,none⟩) N cap1) N (rncells RS)∧Hid (X++betw a b (RS.drop k)=L)) (fun _ _ _ iv _=>N-(intOf iv).toNat)
 case atStart=>exact⟨0,0,0,[],Nat.zero_le _,⟨_,_,rfl⟩,rfl,rfl,rfl,by omega,by omega,by omega,by omega,hB1,World.ownsRow_nil _ _ _ _,Nat.zero_le _,hown1,hL⟩
 case round =>
  obtain⟨k,a,b,X,hk,⟨oo,oc,rfl⟩,rfl,rfl,rfl,ha0,ha1,hb0,hb1,hB,hO,hX,hV,hR⟩:=hrel
  have hsz:=hB.size
  by_cases hlt:k<N
  ·have hV':HRn wr (.slice (some ⟨g1,0,none⟩) N cap1) RS:=by have:=holds_of hV;rw[← hRl] at this ⊢;exact this
   obtain⟨bk,off,hbe,hbk,hc⟩:=HRn.at hV' (by omega)
   cases hbe
   obtain⟨c0,c1,c2⟩:=hc k (by omega)
   have hR':=hR.out
   rw[List.drop_eq_getElem_cons (by omega)] at hR'
   obtain⟨r,hrd⟩:∃ r,RS[k]=r:=⟨_,rfl⟩
   have hsm:=hs.out r (by rw[← hrd];exact List.getElem_mem _)
   rw[hrd] at hR' c0 c1 c2
   clear hc hrd hR hV'
   have HR:Hid (X++betw a b (r::RS.drop (k+1))=L):=hR'
   clear hR'
   obtain⟨ra,rb,rn⟩:=r
   obtain⟨s1,s2,s3,s4,s5,s6⟩:=hsm
   dsimp only at c0 c1 c2 s1 s2 s3 s4 s5 s6
   rw[Nat.zero_add] at c0 c1 c2
   have i1:0≤(k:Int):=by omega
   have i2:(k:Int)<(N:Int):=by omega
   by_cases hea:a<ra
   ·go_wp2_with (at_builtin;refine wpList_append_h _ (by kernel_rfl) (.tmp 36) (.tmp 48) 25 64 (.agg #[.int .i64 0,.int .i64 0,.int .i64 0,.int .i64 0]) 4 32 rfl Tryz.underlying25 infoCh rfl (by decide) (by decide) base _ _ _ rfl ((hO.alloc _).alloc _) _ 1 (chcells [⟨a,ra-a,b,rb-b⟩]) rfl (new_holds_at _ _ (by simp) _ _ _ _ (by decide)) rfl (chcells_one _) (by omega) (by simp;omega) ?_)
    intro v2 w2 hown2 hgrow2
    have hB2:Below base w w2:=((hB.alloc (by omega) _).alloc (by simp;omega) _).grown hgrow2 (by simp;omega) (fun _ hj=>owns_ge hO hj)
    have hsz2:=hB2.size
    have hV2:=owns_apart ((hV.alloc _).alloc _) ((hO.alloc _).alloc _) (by decide) hN0 hgrow2
    have hbx:w2.heap[wr.heap.size]?=some (Obj.cells #[Value.int IntKind.i64 ra,Value.int IntKind.i64 rb,Value.int IntKind.i64 rn] 271 (0,0)):=by
     rw[hgrow2.block wr.heap.size (by simp;omega) (fun e=>?_)]
     ·exact (Below.heap_alloc _ _ _ (by simp)).trans (_root_.Go.heap_alloc_new wr _)
     ·have h1:=hO.2
      rcases h1 with ⟨h1,_⟩ | ⟨g,cap,cur,h1,_,h3,_⟩
      ·rw[h1] at e;simp[Value.ownBlock] at e
      ·rw[h1] at e
       simp only[Value.ownBlock,Option.some.injEq] at e
       have:=(Array.getElem?_eq_some_iff.1 h3).1
       omega
    have d0:w2.cell? ⟨wr.heap.size,0,none⟩=some (.int .i64 ra):=by rw[Lib.cell_of_heap hbx];rfl
    have d1:w2.cell? ⟨wr.heap.size,1,none⟩=some (.int .i64 rb):=by rw[Lib.cell_of_heap hbx];rfl
    have d2:w2.cell? ⟨wr.heap.size,2,none⟩=some (.int .i64 rn):=by rw[Lib.cell_of_heap hbx];rfl
    rw[← chcells_append] at hown2
    obtain⟨oo2,oc2,rfl⟩:=(holds_of hown2).form
    clear hbx hgrow2 c0 c1 c2
    go_wp2_with fail
    go_quiet (fail)
    go_wp2
    go_roundw
    case rel=>exact⟨k+1,ra+rn,rb+rn,X++[⟨a,ra-a,b,rb-b⟩],by omega,⟨_,_,by rw[List.length_append];rfl⟩,by go_num,by go_num,by go_num,by omega,by omega,by omega,by omega,Below.dN hB2 _,by rw[List.length_append];exact hown2,by simp;omega,hV2,(by
      have h:=HR.out
      rw[betw] at h
      rw[if_pos (by dsimp only;omega)] at h
      show _=_
      rw[← h]
      simp)⟩
    case measure=>simp[intOf];omega
   by_cases heb:b<rb
   ·go_wp2_with (at_builtin;refine wpList_append_h _ (by kernel_rfl) (.tmp 36) (.tmp 48) 25 64 (.agg #[.int .i64 0,.int .i64 0,.int .i64 0,.int .i64 0]) 4 32 rfl Tryz.underlying25 infoCh rfl (by decide) (by decide) base _ _ _ rfl ((hO.alloc _).alloc _) _ 1 (chcells [⟨a,ra-a,b,rb-b⟩]) rfl (new_holds_at _ _ (by simp) _ _ _ _ (by decide)) rfl (chcells_one _) (by omega) (by simp;omega) ?_)
    intro v2 w2 hown2 hgrow2
    have hB2:Below base w w2:=((hB.alloc (by omega) _).alloc (by simp;omega) _).grown hgrow2 (by simp;omega) (fun _ hj=>owns_ge hO hj)
    have hsz2:=hB2.size
    have hV2:=owns_apart ((hV.alloc _).alloc _) ((hO.alloc _).alloc _) (by decide) hN0 hgrow2
    have hbx:w2.heap[wr.heap.size]?=some (Obj.cells #[Value.int IntKind.i64 ra,Value.int IntKind.i64 rb,Value.int IntKind.i64 rn] 271 (0,0)):=by
     rw[hgrow2.block wr.heap.size (by simp;omega) (fun e=>?_)]
     ·exact (Below.heap_alloc _ _ _ (by simp)).trans (_root_.Go.heap_alloc_new wr _)
     ·have h1:=hO.2
      rcases h1 with ⟨h1,_⟩ | ⟨g,cap,cur,h1,_,h3,_⟩
      ·rw[h1] at e;simp[Value.ownBlock] at e
      ·rw[h1] at e
       simp only[Value.ownBlock,Option.some.injEq] at e
       have:=(Array.getElem?_eq_some_iff.1 h3).1
       omega
    have d0:w2.cell? ⟨wr.heap.size,0,none⟩=some (.int .i64 ra):=by rw[Lib.cell_of_heap hbx];rfl
    have d1:w2.cell? ⟨wr.heap.size,1,none⟩=some (.int .i64 rb):=by rw[Lib.cell_of_heap hbx];rfl
    have d2:w2.cell? ⟨wr.heap.size,2,none⟩=some (.int .i64 rn):=by rw[Lib.cell_of_heap hbx];rfl
    rw[← chcells_append] at hown2
    obtain⟨oo2,oc2,rfl⟩:=(holds_of hown2).form
    clear hbx hgrow2 c0 c1 c2
    go_wp2_with fail
    go_quiet (fail)
    go_wp2
    go_roundw
    case rel=>exact⟨k+1,ra+rn,rb+rn,X++[⟨a,ra-a,b,rb-b⟩],by omega,⟨_,_,by rw[List.length_append];rfl⟩,by go_num,by go_num,by go_num,by omega,by omega,by omega,by omega,Below.dN hB2 _,by rw[List.length_append];exact hown2,by simp;omega,hV2,(by
      have h:=HR.out
      rw[betw] at h
      rw[if_pos (by dsimp only;omega)] at h
      show _=_
      rw[← h]
      simp)⟩
    case measure=>simp[intOf];omega
   ·go_wp2_with fail
    go_quiet (fail)
    go_wp2
    go_roundw
    case rel=>exact⟨k+1,ra+rn,rb+rn,X,by omega,⟨_,_,rfl⟩,by go_num,by go_num,by go_num,by omega,by omega,by omega,by omega,Below.dN (hB.alloc (by omega) _) _,hO.alloc _,by omega,hV.alloc _,(by
      have h:=HR.out
      rw[betw] at h
      rw[if_neg (by dsimp only;omega)] at h
      exact h)⟩
    case measure=>simp[intOf];omega
  ·have hR':=hR.out
   rw[List.drop_of_length_le (by omega),betw,List.append_nil] at hR'
   subst hR'
   clear hR
   go_wp2
   go_loopw [63] (fun iv wr2=>∃ k:Nat,k≤X.length∧iv=.int .i64 k∧Below base w wr2∧HCh wr2 (.slice oo X.length oc) X) (fun iv _=>X.length-(intOf iv).toNat)
   case atStart=>exact⟨0,Nat.zero_le _,rfl,hB,holds_of hO⟩
   case round =>
    obtain⟨j,hj,rfl,hBj,hXj⟩:=hrel
    have hszj:=hBj.size
    by_cases hjl:j<X.length
    ·obtain⟨bk,off,rfl,hbk,hc⟩:=HCh.at hXj (by omega)
     obtain⟨c0,c1,c2,c3⟩:=hc j hjl
     obtain⟨c,hcd⟩:∃ c,X[j]=c:=⟨_,rfl⟩
     have hnc:=hN.out c (by rw[← hcd];exact List.getElem_mem _)
     rw[hcd] at c0 c1 c2 c3
     clear hc hcd
     obtain⟨A,AN,B,BN⟩:=c
     dsimp only at c0 c1 c2 c3
     have HQ:Hid (numB ⟨A,AN,B,BN⟩=true):=hnc
     clear hnc
     have i1:0≤(j:Int):=by omega
     have i2:(j:Int)<(X.length:Int):=by omega
     go_wp2_with fail
     refine (numbered_any ⟨A,AN,B,BN⟩ _).mono ?_
     rintro e w3 ⟨rfl,hB3⟩
     rw[HQ.out]
     have hB4:=((Below.refl wr.heap.size wr).alloc (Nat.le_refl _) (Obj.cells #[Value.int IntKind.i64 A,Value.int IntKind.i64 AN,Value.int IntKind.i64 B,Value.int IntKind.i64 BN] 64)).trans (hB3.mono (by simp))
     clear c0 c1 c2 c3
     go_wp2
     go_roundw
     case rel=>exact⟨j+1,by omega,by go_num,hBj.trans (hB4.mono (by omega)),HCh.keep hXj hB4 (Nat.le_refl _)⟩
     case measure=>simp[intOf];omega
    ·go_wp2
     go_ret2
     exact⟨_,rfl,hXj,hBj⟩
theorem Right.num {f:Bool} {a b n m:Int} {l:List Ch} (h:Right f a b n m l):∀ c∈l,numB c=true:=by
 induction l generalizing f a b with
 | nil=>simp
 | cons c l ih =>
  intro d hd
  rw[List.mem_cons] at hd
  rcases hd with rfl | hd
  ·exact h.1.1
  ·exact ih h.2 d hd
theorem Vk.lt {nx m:Int} {K:List Int} (h:Vk nx m K):∀ z∈K,z=-1∨z<m:=by
 induction K generalizing nx with
 | nil=>simp
 | cons y t ih =>
  intro z hz
  rw[List.mem_cons] at hz
  rcases h with ⟨rfl,h⟩ | ⟨hy,h1,h2,h3⟩
  ·rcases hz with rfl | hz
   ·exact .inl rfl
   ·exact ih h z hz
  ·rcases hz with rfl | hz
   ·exact .inr h2
   ·exact ih h3 z hz
def mkL (K:List Int) (m:Int):List Ch:=betw 0 0 (keptR 0 K++[⟨K.length,m,0⟩])
theorem mk_script {K:List Int} {m:Int} (h:Vk 0 m K) (h0:0≤m) (hm:m≤2147483647) (hl:K.length≤1048576):Script (mkL K m) K.length m∧U 0 0 K.length m (mkL K m)=keptR 0 K:=by
 have hf:=h.fit h0 (i:=0)
 rw[Int.zero_add] at hf
 have:=fit_right hf (Int.le_refl _) (Int.le_refl _) (by omega) hm
 exact⟨⟨by omega,h0,this.1⟩,this.2⟩
theorem kept_sm {K:List Int} {m:Int} (h:Vk 0 m K) (h0:0≤m) (hm:m≤2147483647) (hl:K.length≤1048576):∀ r∈keptR 0 K++[⟨K.length,m,0⟩],sm r:=by
 intro r hr
 rw[List.mem_append,List.mem_singleton] at hr
 rcases hr with hr | rfl
 ·rw[mem_keptR] at hr
  obtain⟨h1,h2,h3,h4⟩:=hr
  have hlt:=(List.getElem?_eq_some_iff.1 h3).1
  have hz:=List.mem_of_getElem? h3
  have:=h.each (Int.le_refl _) _ hz
  have:=h.lt _ hz
  unfold sm
  omega
 ·unfold sm
  dsimp only
  omega
theorem kept_len (i:Int) (K:List Int):(keptR i K).length≤K.length:=by
 induction K generalizing i with
 | nil=>simp[keptR]
 | cons z t ih =>
  have:=ih (i+1)
  rw[keptR]
  split<;>simp<;>omega
theorem Make_f (K:List Int) (m:Int) (L:List Ch) (v:Value) (w:World) (hK:HI w v K) (hlen:K.length≤1048576) (hV:Hid (Vk 0 m K)) (hm0:0≤m) (hm:m≤2147483647) (hL:Hid (mkL K m=L)) :
  Calls Tryz.prog 179 #[v,.int .i64 m] w fun e w'=>∃ v',e=.returned (.tuple #[v',.int .i64 0])∧HCh w' v' L∧Below w.heap.size w w':=by
 obtain⟨ao,ca,rfl⟩:=Holds.form hK
 go_enter Tryz.func179,Tryz.ntmps179
 go_wp2
 go_loopw [6,7,14] (fun kv nv iv wr=>∃ (k:Nat) (nx:Int) (X:List Rn),k≤K.length∧(∃ oo oc,kv=.slice oo X.length oc)∧nv=.int .i64 nx∧iv=.int .i64 k∧0≤nx∧nx≤m∧Below w.heap.size w wr∧wr.ownsRow w.heap.size 271 3 kv X.length (rncells X)∧X.length≤k∧Hid (Vk nx m (K.drop k)∧X++keptR k (K.drop k)=keptR 0 K)) (fun _ _ iv _=>K.length-(intOf iv).toNat)
 case atStart=>exact⟨0,0,[],Nat.zero_le _,⟨_,_,rfl⟩,rfl,rfl,by omega,by omega,Below.refl _ w,World.ownsRow_nil _ _ _ _,Nat.zero_le _,(⟨hV.out,rfl⟩:_∧_)⟩
 case round =>
  obtain⟨k,nx,X,hk,⟨oo,oc,rfl⟩,rfl,rfl,hn0,hnm,hB,hO,hX,hR⟩:=hrel
  have hsz:=hB.size
  by_cases hlt:k<K.length
  ·obtain⟨bk,off,rfl,hbk,hc⟩:=HI.at (HI.keep hK hB (Nat.le_refl _)) (by omega)
   have c0:=hc k hlt
   have hR':=hR.out
   rw[List.drop_eq_getElem_cons hlt] at hR'
   obtain⟨z,hzd⟩:∃ z,K[k]=z:=⟨_,rfl⟩
   rw[hzd] at hR' c0
   clear hc hzd hR
   have i1:0≤(k:Int):=by omega
   have i2:(k:Int)<(K.length:Int):=by omega
   by_cases hz:z=-1
   ·subst hz
    have HR:Hid (Vk nx m (K.drop (k+1))∧X++keptR (k+1:Nat) (K.drop (k+1))=keptR 0 K):=(by
     obtain⟨h1,h2⟩:=hR'
     rw[keptR,if_pos rfl] at h2
     rcases h1 with ⟨_,h1⟩ | ⟨h1,_⟩
     ·exact⟨h1,h2⟩
     ·exact absurd rfl h1)
    clear hR'
    go_wp2
    go_roundw
    case rel=>exact⟨k+1,nx,X,by omega,⟨_,_,rfl⟩,rfl,by go_num,hn0,hnm,hB,hO,by omega,HR⟩
    case measure=>simp[intOf];omega
   ·have hq:nx≤z∧z<m∧Vk (z+1) m (K.drop (k+1)):=by
     rcases hR'.1 with ⟨h1,_⟩ | ⟨_,h1⟩
     ·exact absurd h1 hz
     ·exact h1
    obtain⟨q1,q2,q3⟩:=hq
    have HR:Hid (Vk (z+1) m (K.drop (k+1))∧X++[⟨k,z,1⟩]++keptR (k+1:Nat) (K.drop (k+1))=keptR 0 K):=(by
     obtain⟨_,h2⟩:=hR'
     rw[keptR,if_neg hz] at h2
     refine⟨q3,?_⟩
     rw[← h2,List.append_assoc]
     rfl)
    clear hR' q3
    have hz2:decide (z=-1)=false:=decide_eq_false hz
    go_wp2_with (at_builtin;refine wpList_append_h _ (by kernel_rfl) (.tmp 29) (.tmp 33) 269 271 (.agg #[.int .i64 0,.int .i64 0,.int .i64 0]) 3 24 rfl Tryz.underlying269 infoRn rfl (by decide) (by decide) w.heap.size _ _ _ rfl (hO.alloc _) _ 1 (rncells [⟨k,z,1⟩]) rfl (new_holds _ _ _ _ _ (by decide)) rfl (rncells_one _) (by omega) (by simp;omega) ?_)
    intro v2 w2 hown2 hgrow2
    have hB2:Below w.heap.size w w2:=(hB.alloc (by omega) _).grown hgrow2 (by simp;omega) (fun _ hj=>owns_ge hO hj)
    rw[← rncells_append] at hown2
    obtain⟨oo2,oc2,rfl⟩:=(holds_of hown2).form
    clear hgrow2 c0
    go_wp2
    go_roundw
    case rel=>exact⟨k+1,z+1,X++[⟨k,z,1⟩],by omega,⟨_,_,by rw[List.length_append];rfl⟩,by go_num,by go_num,by omega,by omega,hB2,by rw[List.length_append];exact hown2,by simp;omega,HR⟩
    case measure=>simp[intOf];omega
  ·have hR':=hR.out
   rw[List.drop_of_length_le (by omega),keptR,List.append_nil] at hR'
   have hXe:=hR'.2
   subst hXe
   clear hR hR'
   go_wp2_with fail
   refine (between_f _ _ L K.length m _ w.heap.size wr (by omega) hO (by have:=kept_len 0 K;omega) rfl hL (kept_sm hV.out hm0 hm hlen) (by
    have h:=(mk_script hV.out hm0 hm hlen).1.2.2.num
    rw[hL.out] at h
    exact h)).mono ?_
   rintro e w2 ⟨v',rfl,hv',hB2⟩
   go_wp2
   go_ret2
   exact⟨_,rfl,hv',hB.trans hB2⟩
end

section
open Go.RowKit
section
variable {u:World} {b:Nat} {A AN B BN:Int} {ls:List Mk} {v:Value}
theorem Hx.setA (q:Hx u b ⟨A,AN,B,BN,ls⟩ v) (z:Int):Hx (u.setCell ⟨b,0,none⟩ (.int .i64 z)) b ⟨z,AN,B,BN,ls⟩ v:=heap_setCell_same u b 0 _ _ _ q
theorem Hx.setAN (q:Hx u b ⟨A,AN,B,BN,ls⟩ v) (z:Int):Hx (u.setCell ⟨b,1,none⟩ (.int .i64 z)) b ⟨A,z,B,BN,ls⟩ v:=heap_setCell_same u b 1 _ _ _ q
theorem Hx.setB (q:Hx u b ⟨A,AN,B,BN,ls⟩ v) (z:Int):Hx (u.setCell ⟨b,2,none⟩ (.int .i64 z)) b ⟨A,AN,z,BN,ls⟩ v:=heap_setCell_same u b 2 _ _ _ q
theorem Hx.setBN (q:Hx u b ⟨A,AN,B,BN,ls⟩ v) (z:Int):Hx (u.setCell ⟨b,3,none⟩ (.int .i64 z)) b ⟨A,AN,B,z,ls⟩ v:=heap_setCell_same u b 3 _ _ _ q
theorem Hx.other (q:Hx u b ⟨A,AN,B,BN,ls⟩ v) {g:Nat} (hg:b≠g) (j:Nat) (z:Value):Hx (u.setCell ⟨g,j,none⟩ z) b ⟨A,AN,B,BN,ls⟩ v:=q.keep (grown_set u g j z) (fun e=>hg (Option.some.inj e))
end
end

section
open Go.RowKit
def chO (c:Ch):Obj:=.cells #[.int .i64 c.A,.int .i64 c.AN,.int .i64 c.B,.int .i64 c.BN] 64
def Cx (u:World) (b:Nat) (c:Ch):Prop:=u.heap[b]?=some (chO c)
section
variable {u u':World} {b:Nat} {c:Ch}
theorem Cx.cells (q:Cx u b c):u.cell? ⟨b,0,none⟩=some (.int .i64 c.A)∧u.cell? ⟨b,1,none⟩=some (.int .i64 c.AN)∧u.cell? ⟨b,2,none⟩=some (.int .i64 c.B)∧u.cell? ⟨b,3,none⟩=some (.int .i64 c.BN):=by
 unfold Cx chO at q
 refine⟨?_,?_,?_,?_⟩<;>rw[Lib.cell_of_heap q]<;>rfl
theorem Cx.lt (q:Cx u b c):b<u.heap.size:=(Array.getElem?_eq_some_iff.1 q).1
theorem Cx.low (q:Cx u b c) (hg:Below u.heap.size u u'):Cx u' b c:=(hg.block b q.lt).trans q
theorem Cx.new (w:World) (c:Ch):Cx (w.alloc (chO c)) w.heap.size c:=_root_.Go.heap_alloc_new w _
end
def ChAt (u:World) (b o:Nat) (x:Ch):Prop:=u.cell? ⟨b,o,none⟩=some (.int .i64 x.A)∧u.cell? ⟨b,o+1,none⟩=some (.int .i64 x.AN)∧u.cell? ⟨b,o+2,none⟩=some (.int .i64 x.B)∧u.cell? ⟨b,o+3,none⟩=some (.int .i64 x.BN)
theorem hcell_keep {u u':World} (hB:Low u u') {q:Addr} {z:Value} (hz:u.cell? q=some z):u'.cell? q=some z:=(World.cell?_of_block (w:=u) (Below.block hB _ (World.block_lt_of_cell? _ _ hz))).trans hz
theorem ChAt.low {u u':World} {b o:Nat} {x:Ch} (h:ChAt u b o x) (hB:Low u u'):ChAt u' b o x:=⟨hcell_keep hB h.1,hcell_keep hB h.2.1,hcell_keep hB h.2.2.1,hcell_keep hB h.2.2.2⟩
theorem load_chR {u:World} {b o:Nat} {h:Ch} (q:ChAt u b o h) {op:Oper} (x:Operand) (ho:op.op=.load 64 x) {ev:Operand→Value} (hx:ev x=.pointer (some ⟨b,o,none⟩)) :
  (execOp ev op).run Tryz.prog u=.ok (.value (chV h)) u:=by
 obtain⟨d0,d1,d2,d3⟩:=q
 unfold chV
 simp only[execOp,ho,hx]
 go_simp
theorem Cx.keep {u u':World} {b:Nat} {c:Ch} (q:Cx u b c) {g:Option Nat} (hg:u.grownBy u' g) (hr:some b≠g):Cx u' b c:=(hg.block b q.lt hr).trans q
theorem mks_cons (s:Int) (t:List UInt8) (x:List (List UInt8)):mks s (t::x)=⟨s,t⟩::mks s x:=rfl
end

section
open Go.RowKit
def tot:List Hk→Nat
 | []=>0
 | h::l=>h.ls.length+tot l
theorem hown_at {u:World} {B:Nat} {e:TypeId} {s:Nat} {oo:Option Addr} {n oc:Nat} {xs:List Value} (h:u.ownsRow B e s (.slice oo (n+1) oc) (n+1) xs):∃ g,oo=some ⟨g,0,none⟩:=by
 rcases h.2 with ⟨_,h0⟩ | ⟨g,cap,cur,e,_⟩
 ·omega
 ·cases e
  exact⟨g,rfl⟩
end

section
open Go.RowKit
theorem infoCs:(Tryz.prog.info? 25).map (fun i=>(i.zero,i.size,i.bytes))=some (some (.slice none 0 0),1,24):=by kernel_rfl
structure Gr (w:World) (ov:Value) (G:List (List Ch × Value)) (u:World):Prop where
 low:Below w.heap.size w u
 own:u.ownsRow w.heap.size 25 1 ov G.length (G.map (·.2))
 ins:∀ x∈G,u.ownsRow w.heap.size 64 4 x.2 x.1.length (chcells x.1)
def Lst (G:List (List Ch × Value)):Prop:=∀ P x,G=P++[x]→∀ y∈P,∀ b,x.2.ownBlock=some b→y.2.ownBlock≠some b
section
variable {w u u':World} {ov ov':Value} {G P:List (List Ch × Value)}
theorem Gr.nil (w:World):Gr w (.slice none 0 0) [] w:=⟨Below.refl _ _,hnil_row _ _ _ _,fun _ h=>by cases h⟩
theorem Gr.alloc (h:Gr w ov G u) (o:Obj):Gr w ov G (u.alloc o):=⟨h.low.alloc h.low.size o,h.own.alloc o,fun x hx=>(h.ins x hx).alloc o⟩
theorem Gr.drewN (h:Gr w ov G u) (n:Nat):Gr w ov G (u.drewN n):=⟨Below.dN h.low n,h.own,h.ins⟩
theorem Gr.keep (h:Gr w ov G u) (hk:Below u.heap.size u u'):Gr w ov G u':=⟨h.low.trans (hk.mono h.low.size),owns_keep h.own hk,fun x hx=>owns_keep (h.ins x hx) hk⟩
theorem Gr.more (h:Gr w ov G u) {g:List Ch} {gv:Value} (hgv:u.ownsRow w.heap.size 64 4 gv g.length (chcells g)) (hg:u.grownBy u' ov.ownBlock) (ho:u'.ownsRow w.heap.size 25 1 ov' (G.length+1) (G.map (·.2)++[gv])):Gr w ov' (G++[(g,gv)]) u':=by
 have key:∀ {v:Value} {n:Nat} {xs:List Value},u.ownsRow w.heap.size 64 4 v n xs→u'.ownsRow w.heap.size 64 4 v n xs:=fun hv=>own_kept hv hg (fun k hk=>own_ne h.own hv (by decide) hk)
 refine⟨h.low.grown hg h.low.size (fun j hj=>owns_ge h.own hj),?_,fun z hz=>?_⟩
 ·rw[List.length_append,List.map_append]
  exact ho
 ·rcases List.mem_append.1 hz with hz | hz
  ·exact key (h.ins z hz)
  ·rw[List.mem_singleton.1 hz]
   exact key hgv
theorem Gr.last {g g':List Ch} {gv gv':Value} (h:Gr w ov (P++[(g,gv)]) u) (hL:Lst (P++[(g,gv)])) (hg:u.grownBy u' gv.ownBlock) (ho:u'.ownsRow w.heap.size 64 4 gv' g'.length (chcells g')) (hb:gv'.ownBlock=gv.ownBlock∨gv'.ownBlock=some u.heap.size) :
  ∃ q cap,ov=.slice (some ⟨q,0,none⟩) (P.length+1) cap∧u'.cell? ⟨q,P.length,none⟩=some gv∧u'.frozen? ⟨q,P.length,none⟩=false∧Gr w ov (P++[(g',gv')]) (u'.setCell ⟨q,P.length,none⟩ gv')∧Lst (P++[(g',gv')]):=by
 have hown:=h.own
 rw[List.length_append,List.length_singleton] at hown
 have hgl:=h.ins (g,gv) (by simp)
 obtain⟨oo,oc,hov⟩:=(holds_of hown).form
 subst hov
 obtain⟨q,rfl⟩:=hown_at hown
 have hown':=own_kept hown hg (fun k hk=>own_ne hgl hown (by decide) hk)
 have hst:=hown'.stored P.length gv'
 have hset:((P++[(g,gv)]).map (·.2)).set P.length gv'=(P++[(g',gv')]).map (·.2):=by simp
 rw[hset] at hst
 have hlow:Below w.heap.size w u':=h.low.grown hg h.low.size (fun j hj=>owns_ge hgl hj)
 refine⟨q,oc,rfl,?_,hown'.frozenAt _,⟨hlow.grown hst.2 hlow.size (fun j hj=>by cases hj;exact owns_ge hown rfl),?_,?_⟩,?_⟩
 ·rw[hown'.cellAt P.length (by omega)]
  simp
 ·rw[List.length_append,List.length_singleton]
  exact hst.1
 ·intro x hx
  have hqx:∀ {v:Value} {n:Nat} {xs:List Value},u'.ownsRow w.heap.size 64 4 v n xs→(u'.setCell ⟨q,P.length,none⟩ gv').ownsRow w.heap.size 64 4 v n xs:=fun hv=>own_kept hv hst.2 (fun k hk=>own_ne hown' hv (by decide) hk)
  rcases List.mem_append.1 hx with hx | hx
  ·exact hqx (own_kept (h.ins x (List.mem_append_left _ hx)) hg (fun k hk=>hL P (g,gv) rfl x hx k hk))
  ·rw[List.mem_singleton.1 hx]
   exact hqx ho
 ·intro P' x' he y hy b' hb'
  have he2:=List.append_inj' he rfl
  obtain⟨rfl,hx'⟩:=he2
  have hx2:(g',gv')=x':=by simpa using hx'
  subst hx2
  rcases hb with hb | hb
  ·rw[hb] at hb'
   exact hL P (g,gv) rfl y hy b' hb'
  ·rw[hb] at hb'
   cases hb'
   intro e
   have:=own_lt (h.ins y (List.mem_append_left _ hy)) e
   omega
end
theorem right_nums {fl:Bool} {p q n m:Int} {l:List Ch} (h:Right fl p q n m l):∀ c∈l,numB c=true:=by
 induction l generalizing fl p q with
 | nil=>intro c hc;cases hc
 | cons d l ih =>
  intro c hc
  rcases List.mem_cons.1 hc with rfl | hc
  ·exact h.1.1
  ·exact ih h.2 c hc
theorem load_chs {u:World} {a:Addr} {o:Option Addr} {n c:Nat} (h:u.cell? a=some (.slice o n c)) {op:Oper} (x:Operand) (ho:op.op=.load 25 x) {ev:Operand→Value} (hx:ev x=.pointer (some a)) :
  (execOp ev op).run Tryz.prog u=.ok (.value (.slice o n c)) u:=by
 simp only[execOp,ho,hx]
 go_simp
theorem exec_storeG {u:World} {b j:Nat} (hf:u.frozen? ⟨b,j,none⟩=false) {o n c} (hc:u.cell? ⟨b,j,none⟩=some (.slice o n c)) {o' n' c'} {op:Oper} (x y:Operand) (ho:op.op=.store 25 x y) {ev:Operand→Value} (hx:ev x=.pointer (some ⟨b,j,none⟩)) (hy:ev y=.slice o' n' c') :
  (execOp ev op).run Tryz.prog u=.ok .skip (u.setCell ⟨b,j,none⟩ (.slice o' n' c')):=by
 simp only[execOp,ho,hx,hy]
 go_simp
theorem ch_row (w:World) (c:Ch):Holds (w.alloc (chO c)) (.slice (some ⟨w.heap.size,0,none⟩) 1 1) 1 (chcells [c]):=new_holds w #[.int .i64 c.A,.int .i64 c.AN,.int .i64 c.B,.int .i64 c.BN] 64 1 1 (by decide)
theorem map_split {G:List (List Ch × Value)} {gs:List (List Ch)} {g:List Ch} (h:G.map (·.1)=gs++[g]):∃ P gv,G=P++[(g,gv)]∧P.map (·.1)=gs:=by
 rcases List.eq_nil_or_concat G with rfl | ⟨P,x,rfl⟩
 ·have:=congrArg List.length h
  simp at this
 ·rw[List.concat_eq_append] at h ⊢
  rw[List.map_append] at h
  have h2:=List.append_inj' h rfl
  obtain⟨gx,gv⟩:=x
  have h3:gx=g:=by simpa using h2.2
  subst h3
  exact⟨P,gv,rfl,h2.1⟩
def nrB (ctx:Int) (l:List Ch) (i:Nat) (d:Ch):Bool:=match (l.take i).getLast? with
 | none=>false
 | some c=>decide (d.A-c.A-c.AN≤2 * ctx)
theorem last_take {l:List Ch} {j:Nat} (hj:j<l.length):(l.take (j+1)).getLast?=some l[j]:=by
 rw[List.take_succ_eq_append_getElem hj,List.getLast?_append]
 simp
theorem grp_take {ctx:Int} {l:List Ch} {i:Nat} (hi:i<l.length):(nrB ctx l i l[i]=true→∃ gs gl,grp ctx (l.take i)=gs++[gl]∧grp ctx (l.take (i+1))=gs++[gl++[l[i]]])∧(nrB ctx l i l[i]=false→grp ctx (l.take (i+1))=grp ctx (l.take i)++[[l[i]]]):=by
 cases i with
 | zero =>
  refine⟨fun h=>by simp[nrB] at h,fun _=>?_⟩
  rw[List.take_succ_eq_append_getElem hi]
  rfl
 | succ j =>
  have e1:l.take (j+1)=l.take j++[l[j]]:=List.take_succ_eq_append_getElem (by omega)
  have e2:l.take (j+1+1)=l.take j++[l[j]]++[l[j+1]]:=by rw[List.take_succ_eq_append_getElem hi,e1]
  obtain⟨gs,g,h1,h2⟩:=grp_snoc ctx (l.take j) l[j] l[j+1]
  have hn:nrB ctx l (j+1) l[j+1]=decide (l[j+1].A-l[j].A-l[j].AN≤2 * ctx):=by
   unfold nrB
   rw[last_take (by omega)]
  rw[hn,e1,e2,h1,h2]
  refine⟨fun h=>?_,fun h=>?_⟩
  ·rw[if_pos (of_decide_eq_true h)]
   exact⟨gs,g++[l[j]],rfl,rfl⟩
  ·rw[if_neg (of_decide_eq_false h)]
end

section
open Go.RowKit
def Apt (G:List (List Ch × Value)):Prop:=G.Pairwise fun x y=>∀ b,x.2.ownBlock=some b→y.2.ownBlock≠some b
theorem apt_lst {G:List (List Ch × Value)} (h:Apt G):Lst G:=by
 intro P x he y hy b hb e
 subst he
 exact (List.pairwise_append.1 h).2.2 y hy x (by simp) b e hb
theorem apt_more {G:List (List Ch × Value)} (h:Apt G) (g:List Ch):Apt (G++[(g,.slice none 0 0)]):=by
 refine List.pairwise_append.2 ⟨h,List.pairwise_singleton _ _,?_⟩
 intro x _ y hy b _ e
 rw[List.mem_singleton.1 hy] at e
 cases e
theorem apt_last {P:List (List Ch × Value)} {g g':List Ch} {gv gv':Value} (h:Apt (P++[(g,gv)])) {w u:World} {ov:Value} (hG:Gr w ov (P++[(g,gv)]) u) (hb:gv'.ownBlock=gv.ownBlock∨gv'.ownBlock=some u.heap.size):Apt (P++[(g',gv')]):=by
 obtain⟨h1,_,h3⟩:=List.pairwise_append.1 h
 refine List.pairwise_append.2 ⟨h1,List.pairwise_singleton _ _,?_⟩
 intro x hx y hy b hxb e
 rw[List.mem_singleton.1 hy] at e
 dsimp only at e
 rcases hb with hb | hb
 ·rw[hb] at e
  exact h3 x hx (g,gv) (by simp) b hxb e
 ·rw[hb] at e
  cases e
  have:=own_lt (hG.ins x (List.mem_append_left _ hx)) hxb
  omega
theorem cx_ne {u:World} {b:Nat} {d:Ch} (h:Cx u b d) {B s n:Nat} {v:Value} {xs:List Value} (ho:u.ownsRow B 25 s v n xs):v.ownBlock≠some b:=by
 intro e
 rcases ho.2 with ⟨rfl,_⟩ | ⟨g,cap,cur,rfl,_,hg,_⟩
 ·cases e
 ·simp only[Value.ownBlock,Option.some.injEq] at e
  subst e
  unfold Cx chO at h
  rw[h] at hg
  simp at hg
theorem exec_nil {u:World} {a:Addr} {op:Oper} (x:Operand) (ho:op.op=.nilCheck x) {ev:Operand→Value} (hx:ev x=.pointer (some a)):(execOp ev op).run Tryz.prog u=.ok (.value (.pointer (some a))) u:=by
 simp only[execOp,ho,hx]
 go_simp
def enL (l:List Ch) (i:Nat):Int:=match (l.take i).getLast? with
 | none=>0
 | some c=>c.A+c.AN
theorem enL_succ {l:List Ch} {i:Nat} (hi:i<l.length):enL l (i+1)=l[i].A+l[i].AN:=by
 unfold enL
 rw[last_take hi]
theorem nr_en {l:List Ch} {i:Nat} (hi:i<l.length) {ctx:Int} {d:Ch}:nrB ctx l i d=(decide (0<i) && decide (d.A-enL l i≤2 * ctx)):=by
 cases i with
 | zero=>rfl
 | succ j =>
  unfold nrB enL
  rw[last_take (by omega),decide_eq_true (Nat.succ_pos j),Bool.true_and]
  dsimp only
  rw[show d.A-(l[j].A+l[j].AN)=d.A-l[j].A-l[j].AN by omega]
theorem enL_num {l:List Ch} (h:∀ c∈l,numB c=true) {i:Nat} (hi:i≤l.length):0≤enL l i∧enL l i≤4294967296:=by
 cases i with
 | zero=>exact⟨by unfold enL;simp,by unfold enL;simp⟩
 | succ j =>
  rw[enL_succ (by omega)]
  have:=(numB_iff l[j]).1 (h _ (List.getElem_mem _))
  omega
theorem nil_row1 (w:World):Holds (w.alloc (.cells #[.slice none 0 0] 25)) (.slice (some ⟨w.heap.size,0,none⟩) 1 1) 1 [.slice none 0 0]:=new_holds w #[.slice none 0 0] 25 1 1 (by decide)
theorem hGroup_f (l:List Ch) (n m ctx:Int) (v:Value) (w:World) (hv:HCh w v l) (hl:l.length≤1099511627776) (hn:n≤9223372036854775807) (hm:m≤9223372036854775807) (z:Int) (HZ:Hid (grpE l n m ctx=z)) (R:List (List Ch)) (HR:Hid (grpR l n m ctx=R)):Calls Tryz.prog 43 #[v,.int .i64 n,.int .i64 m,.int .i64 ctx] w fun e w'=>∃ v' G,e=.returned (.tuple #[v',.int .i64 z])∧Gr w v' G w'∧Apt G∧G.map (·.1)=R:=by
 obtain⟨vo,lc,rfl⟩:=Holds.form hv
 obtain⟨ck,hck⟩:∃ c,chk l n m=c:=⟨_,rfl⟩
 have HCK:Hid (chk l n m=ck):=hck
 clear hck
 go_enter Tryz.func43,Tryz.ntmps43
 go_wp2_with fail
 refine (Check_f l n m ck _ w hv hl hn hm HCK).mono ?_
 rintro e W ⟨rfl,hBW⟩
 by_cases hc0:ck=0
 ·subst hc0
  by_cases hx1:ctx<0
  ·have HE:Hid (z=2):=(by
    show _=_
    rw[← HZ.out]
    unfold grpE
    rw[HCK.out]
    simp[hx1])
   have HRN:Hid (R=[]):=(by
    show _=_
    rw[← HR.out]
    unfold grpR
    rw[HZ.out,HE.out,if_neg (by decide)])
   clear HZ HR HCK
   go_wp2
   go_ret2
   rw[HE.out,HRN.out]
   exact⟨_,[],rfl,⟨hBW,hnil_row _ _ _ _,fun _ h=>by cases h⟩,List.Pairwise.nil,rfl⟩
  ·have ex1:decide (ctx<0)=false:=decide_eq_false hx1
   by_cases hx2:100<ctx
   ·have HE:Hid (z=2):=(by
     show _=_
     rw[← HZ.out]
     unfold grpE
     rw[HCK.out]
     simp[hx2])
    have HRN:Hid (R=[]):=(by
     show _=_
     rw[← HR.out]
     unfold grpR
     rw[HZ.out,HE.out,if_neg (by decide)])
    clear HZ HR HCK
    go_wp2
    go_ret2
    rw[HE.out,HRN.out]
    exact⟨_,[],rfl,⟨hBW,hnil_row _ _ _ _,fun _ h=>by cases h⟩,List.Pairwise.nil,rfl⟩
   ·have ex2:decide (100<ctx)=false:=decide_eq_false hx2
    have HZ0:Hid (z=0):=(by
     show _=_
     rw[← HZ.out]
     unfold grpE
     rw[HCK.out]
     simp[hx1,hx2])
    have HR2:Hid (grp ctx l=R):=(by
     show _=_
     rw[← HR.out]
     unfold grpR
     rw[HZ.out,HZ0.out,if_pos rfl])
    have HNB:Hid (∀ c∈l,numB c=true):=(by
     have h:Script l n m:=(by
      have h:=HCK.out
      by_cases hq:Script l n m
      ·exact hq
      ·rw[chk_no hq] at h;cases h)
     exact right_nums h.2.2)
    obtain rfl:z=0:=HZ0.out
    clear HZ HR HCK HZ0
    go_wp2
    go_loopw [11,12,31] (fun ov ev iv wr=>∃ (i:Nat) (G:List (List Ch × Value)) (E:Int),i≤l.length∧ev=.int .i64 E∧iv=.int .i64 (i:Int)∧(∃ oo oc,ov=.slice oo G.length oc)∧G.length≤i∧Gr w ov G wr∧Hid (Apt G)∧Hid (G.map (·.1)=grp ctx (l.take i))∧Hid (enL l i=E)) (fun _ _ iv _=>l.length-(intOf iv).toNat)
    case atStart=>exact⟨0,[],0,Nat.zero_le _,by go_num,by go_num,⟨_,_,rfl⟩,Nat.le_refl _,⟨hBW,hnil_row _ _ _ _,fun _ h=>by cases h⟩,List.Pairwise.nil,rfl,rfl⟩
    case round =>
     obtain⟨i,G,E,hi,rfl,rfl,⟨oo,oc,rfl⟩,hGi,hS,HAP,HI,HEL⟩:=hrel
     by_cases hlt:i<l.length
     ·obtain⟨lb,lf,rfl,_,_⟩:=HCh.at hv (by omega)
      obtain⟨d,hd⟩:∃ d,l[i]=d:=⟨_,rfl⟩
      have hgA:ChAt wr lb (lf+i * 4) d:=(by
       obtain⟨b',off',e,_,hc'⟩:=HCh.at (HCh.keep hv hS.low (Nat.le_refl _)) (by omega)
       cases e
       have h:=hc' i hlt
       rw[hd] at h
       exact h)
      have hnd:=(numB_iff d).1 (HNB.out d (by rw[← hd];exact List.getElem_mem hlt))
      have hEb:=enL_num HNB.out hi
      rw[HEL.out] at hEb
      have HEN:Hid (enL l (i+1)=d.A+d.AN):=(by show _=_;rw[enL_succ hlt,hd])
      obtain⟨nr,hnr⟩:∃ nr,nrB ctx l i d=nr:=⟨_,rfl⟩
      have HNR:Hid (nrB ctx l i d=nr):=hnr
      have HNE:Hid ((decide (0<i) && decide (d.A-E≤2 * ctx))=nr):=(by show _=_;rw[← hnr,nr_en hlt,HEL.out])
      have hgt:=grp_take (ctx:=ctx) hlt
      rw[hd] at hgt
      have HGT:Hid ((nrB ctx l i d=true→∃ gs gl,grp ctx (l.take i)=gs++[gl]∧grp ctx (l.take (i+1))=gs++[gl++[d]])∧(nrB ctx l i d=false→grp ctx (l.take (i+1))=grp ctx (l.take i)++[[d]])):=hgt
      have i1:0≤(i:Int):=by omega
      have i2:(i:Int)<(l.length:Int):=by omega
      obtain⟨d0,d1,d2,d3⟩:=hgA
      have hbc:=Cx.new wr d
      obtain⟨x0,x1,x2,x3⟩:=hbc.cells
      have hS1:=hS.alloc (chO d)
      have hsz0:=hS.low.size
      have HSX:Hid ((wr.alloc (chO d)).heap.size=wr.heap.size+1):=(by show _=_;simp)
      have hW:wr.alloc (Obj.cells #[Value.int IntKind.i64 d.A,Value.int IntKind.i64 d.AN,Value.int IntKind.i64 d.B,Value.int IntKind.i64 d.BN] 64)=wr.alloc (chO d):=rfl
      have HIB:Hid (∀ x∈G,∀ j,x.2.ownBlock=some j→j<wr.heap.size):=fun x hx j hj=>own_lt (hS.ins x hx) hj
      clear hnr hgt HEL hS
      generalize hwr1:wr.alloc (chO d)=wr1 at *
      go_upto_region 11 with fail
      clear hW d0 d1 d2 d3
      generalize hbC:wr.heap.size=bc at *
      go_cut [46] from 32 to 68 (fun c wz=>c=.bool (!nr)∧wr1=wz)
      case first =>
       by_cases hi0:i=0
       ·have e1:((i:Int) == 0)=true:=(by rw[beq_iff_eq];omega)
        obtain rfl:nr=false:=(by rw[← HNE.out,hi0];rfl)
        clear HI HNR HGT HNE hi0
        go_wp2_with fail
        go_meet
        case rel=>exact⟨rfl,rfl⟩
       ·have e1:((i:Int) == 0)=false:=(by rw[beq_eq_false_iff_ne];omega)
        have hne:=HNE.out
        rw[decide_eq_true (by omega:0<i),Bool.true_and] at hne
        have e2:decide (2 * ctx<d.A-E)=!nr:=(by
         rw[← hne]
         by_cases hq:d.A-E≤2 * ctx
         ·rw[decide_eq_true hq,decide_eq_false (by omega)];rfl
         ·rw[decide_eq_false hq,decide_eq_true (by omega)];rfl)
        clear HI HNR HGT HNE hi0 hne
        go_wp2_with fail
        go_meet
        case rel=>exact⟨rfl,rfl⟩
      case rest =>
      obtain⟨rfl,rfl⟩:=hcut
      go_upto_if 46 with fail
      go_cut [11] from 32 to 68 (fun ov wz=>∃ (P:List (List Ch × Value)) (gl:List Ch) (gv:Value) (oo:Option Addr) (oc:Nat),ov=.slice oo (P.length+1) oc∧P.length≤i∧gl.length≤l.length∧Gr w ov (P++[(gl,gv)]) wz∧Cx wz bc d∧Hid (gv.ownBlock≠some bc)∧Hid (Apt (P++[(gl,gv)]))∧Hid (P.map (·.1)++[gl++[d]]=grp ctx (l.take (i+1))))
      case first =>
       cases nr with
       | true =>
        obtain⟨gs,gl,hg1,hg2⟩:=HGT.out.1 HNR.out
        have hI:=HI.out
        rw[hg1] at hI
        obtain⟨P,gv,rfl,hPm⟩:=map_split hI
        have hgll:gl.length≤l.length:=(by
         have hf:=grp_flatten ctx (l.take i)
         rw[hg1] at hf
         have:=congrArg List.length hf
         simp at this
         omega)
        have HN:Hid (P.map (·.1)++[gl++[d]]=grp ctx (l.take (i+1))):=(by show _=_;rw[hg2,hPm])
        have eP:(P++[(gl,gv)]).length=P.length+1:=by simp
        have hPl:P.length≤i:=by rw[eP] at hGi;omega
        rw[eP] at hS1 ⊢
        clear HI HNR HGT hg1 hg2 hI hPm HNE hGi eP
        go_wp2_with fail
        go_meet
        case rel=>exact⟨P,gl,gv,_,_,rfl,hPl,hgll,hS1,hbc,fun e=>(by have:=HIB.out (gl,gv) (by simp) bc e;omega),HAP,HN⟩
       | false =>
        have hg2:=HGT.out.2 HNR.out
        have HN:Hid (G.map (·.1)++[[]++[d]]=grp ctx (l.take (i+1))):=(by
         show _=_
         rw[hg2,HI.out]
         rfl)
        have hS2:=hS1.alloc (.cells #[.slice none 0 0] 25)
        have hrow2:=nil_row1 wr1
        have HS2:Hid ((wr1.alloc (.cells #[.slice none 0 0] 25)).heap.size=wr1.heap.size+1):=(by show _=_;simp)
        have hbc2:Cx (wr1.alloc (.cells #[.slice none 0 0] 25)) bc d:=hbc.low ((Below.refl _ wr1).alloc (Nat.le_refl _) _)
        have hGl:G.length≤1099511627776:=by omega
        have HAM:Hid (Apt (G++[([],.slice none 0 0)])):=apt_more HAP.out []
        clear HI HNR HGT hg2 HNE
        go_wp2_with (at_builtin;refine wpList_append_w _ (by kernel_rfl) (.tmp 47) (.tmp 48) 90 25 (.slice none 0 0) 1 24 rfl Tryz.underlying90 infoCs rfl (by decide) (by decide) w.heap.size _ _ _ rfl hS2.own _ 1 [.slice none 0 0] rfl hrow2 rfl (by intro u hu;simp at hu;subst hu;rfl) (by omega) (by have:=HS2.out;have:=HSX.out;omega) ?_)
        intro v3 u3 hown3 hg3 _
        have hS3:=hS2.more (g:=[]) (gv:=.slice none 0 0) (hnil_row _ _ _ _) hg3 (ov':=v3) hown3
        have hbc3:=hbc2.keep hg3 (fun e=>cx_ne hbc2 hS2.own e.symm)
        obtain⟨o3,c3,rfl⟩:=(holds_of hown3).form
        clear hown3 hg3
        go_wp2_with fail
        go_meet
        case rel=>exact⟨G,[],_,_,_,rfl,hGi,Nat.zero_le _,hS3,hbc3,(fun e=>by cases e),HAM,HN⟩
      case rest =>
       obtain⟨P,gl,gv,oo,oc,rfl,hPl,hgll,hS4,hbz,HGV,HAP4,HN4⟩:=hcut
       generalize wc=wz at *
       have HN:∀ gv':Value,Hid ((P++[(gl++[d],gv')]).map (·.1)=grp ctx (l.take (i+1))):=fun gv'=>(by
        show _=_
        rw[← HN4.out,List.map_append]
        rfl)
       clear HN4 hS1 hbc x0 x1 x2 x3 HAP HNR HNE HI HGT
       obtain⟨qb,rfl⟩:=hown_at (by have h:=hS4.own;rw[List.length_append,List.length_singleton] at h;exact h)
       have k1:(0:Int)≤(P.length:Int):=by omega
       have k2:(P.length:Int)<(P.length:Int)+1:=by omega
       go_upto_region 14 with fail
       have hGD:=(hS4.drewN 1).alloc (chO d)
       have hda:((wz.drewN 1).alloc (chO d)).heap.size=wz.heap.size+1:=by simp
       have hsz:=hS4.low.size
       have hlastown:((wz.drewN 1).alloc (chO d)).ownsRow w.heap.size 64 4 gv gl.length (chcells gl):=hGD.ins (gl,gv) (by simp)
       obtain⟨go,gc,hgv⟩:=(holds_of hlastown).form
       subst hgv
       obtain⟨v3,u3,hr3,hown3,hg3,hb3⟩:=run_append_w ((wz.drewN 1).alloc (chO d)) 25 64 25 (.agg #[.int .i64 0,.int .i64 0,.int .i64 0,.int .i64 0]) 4 32 Tryz.underlying25 infoCh rfl (by decide) (by decide) w.heap.size _ _ _ hlastown _ 1 (chcells [d]) (ch_row (wz.drewN 1) d) rfl (chcells_one _) (by omega) (by rw[hda];omega)
       rw[← chcells_append] at hown3
       obtain⟨p3,q3,hv3⟩:=(holds_of hown3).form
       subst hv3
       have HA4:Hid (Apt (P++[(gl++[d],Value.slice p3 (gl.length+1) q3)])):=apt_last HAP4.out hGD hb3
       obtain⟨qb',cap,hov,hcell3,hfr3,hG4,_⟩:=hGD.last (g':=gl++[d]) (apt_lst HAP4.out) hg3 (by rw[List.length_append];exact hown3) hb3
       simp only[Value.slice.injEq,Option.some.injEq,Addr.mk.injEq] at hov
       obtain⟨⟨rfl,_⟩,_,rfl⟩:=hov
       have hcellD:(wz.drewN 1).cell? ⟨qb,P.length,none⟩=some (.slice go gl.length gc):=(by
        have h:=hS4.own
        rw[List.length_append,List.length_singleton] at h
        have:=h.cellAt P.length (by omega)
        rw[show (wz.drewN 1).cell? ⟨qb,P.length,none⟩=wz.cell? ⟨qb,P.length,none⟩ from rfl,this]
        simp)
       have hcellA:((wz.drewN 1).alloc (chO d)).cell? ⟨qb,P.length,none⟩=some (.slice go gl.length gc):=(by
        have h:=hGD.own
        rw[List.length_append,List.length_singleton] at h
        have:=h.cellAt P.length (by omega)
        rw[this]
        simp)
       have hLD:Low w (wz.drewN 1):=Below.dN hS4.low 1
       have hLA:Low w ((wz.drewN 1).alloc (chO d)):=low_alloc _ hLD
       have hL3:Low w u3:=Below.grown hLA hg3 (Below.size hLA) (fun j hj=>owns_ge hlastown hj)
       have hL5:Low w (u3.setCell ⟨qb,P.length,none⟩ (.slice p3 (gl.length+1) q3)):=hG4.low
       have hSD:Low w (wz.drewN 1)∧Cx (wz.drewN 1) bc d:=⟨hLD,hbz⟩
       have hSA:Low w ((wz.drewN 1).alloc (chO d))∧Cx ((wz.drewN 1).alloc (chO d)) bc d:=⟨hLA,Cx.low (u:=wz.drewN 1) hbz ((Below.refl _ (wz.drewN 1)).alloc (Nat.le_refl _) _)⟩
       have hS3:Low w u3∧Cx u3 bc d:=⟨hL3,hSA.2.keep hg3 (fun e=>HGV.out e.symm)⟩
       have hS5:Low w (u3.setCell ⟨qb,P.length,none⟩ (.slice p3 (gl.length+1) q3))∧Cx (u3.setCell ⟨qb,P.length,none⟩ (.slice p3 (gl.length+1) q3)) bc d:=⟨hL5,hS3.2.keep (grown_set u3 qb P.length _) (fun e=>cx_ne hbz hS4.own e.symm)⟩
       obtain⟨y0,y1,y2,y3⟩:=hS5.2.cells
       clear hown3 hg3 hb3 hlastown
       refine wp_region_noPanic ?_
       refine wp_region_held_drew (S:=fun u=>Low w u∧Cx u bc d) (by kernel_rfl) hSD (fun hHeld=>?_)
       refine go_take 0 55 _ (.pointer (some ⟨qb,P.length,none⟩)) rfl (by kernel_rfl) (by kernel_rfl) (by kernel_rfl) (by kernel_rfl) (fun _ _ _ h=>h) (Or.inl ⟨by kernel_rfl,fun u hu=>by kernel_rfl⟩) hHeld ?_
       simp only[Act.put,List.setIfInBounds_toArray,List.set_cons_zero,List.set_cons_succ]
       refine go_take 1 56 _ (.pointer (some ⟨qb,P.length,none⟩)) rfl (by kernel_rfl) (by kernel_rfl) (by kernel_rfl) (by kernel_rfl) (fun _ _ _ h=>h) (Or.inl ⟨by kernel_rfl,fun u hu=>by kernel_rfl⟩) hHeld ?_
       simp only[Act.put,List.setIfInBounds_toArray,List.set_cons_zero,List.set_cons_succ]
       refine go_take 2 57 _ (.pointer (some ⟨qb,P.length,none⟩)) rfl (by kernel_rfl) (by kernel_rfl) (by kernel_rfl) (by kernel_rfl) (fun _ _ _ h=>h) (Or.inl ⟨by kernel_rfl,fun u hu=>exec_nil (.tmp 56) (by kernel_rfl) (by kernel_rfl)⟩) hHeld ?_
       simp only[Act.put,List.setIfInBounds_toArray,List.set_cons_zero,List.set_cons_succ]
       refine go_take 4 59 _ (chV d) rfl (by kernel_rfl) (by kernel_rfl) (by kernel_rfl) (by kernel_rfl) (fun _ _ _ h=>h) (Or.inl ⟨by kernel_rfl,fun u hu=>load_chR hu.2.cells (.tmp 14) (by kernel_rfl) (by kernel_rfl)⟩) hHeld ?_
       simp only[Act.put,List.setIfInBounds_toArray,List.set_cons_zero,List.set_cons_succ]
       refine go_two 3 58 _ 5 60 _ rfl (by kernel_rfl) rfl (by kernel_rfl) (by kernel_rfl) (by kernel_rfl) (by kernel_rfl) (.slice go gl.length gc) (wz.drewN 1) (load_chs hcellD (.tmp 57) (by kernel_rfl) (by kernel_rfl)) hSD (.slice (some ⟨(wz.drewN 1).heap.size,0,none⟩) 1 1) ((wz.drewN 1).alloc (chO d)) (by kernel_rfl) hSA ?_ ?_
       ·simp only[Act.put,List.setIfInBounds_toArray,List.set_cons_zero,List.set_cons_succ]
        refine go_val 5 60 _ rfl (by kernel_rfl) (by kernel_rfl) (by kernel_rfl) (.slice (some ⟨(wz.drewN 1).heap.size,0,none⟩) 1 1) ((wz.drewN 1).alloc (chO d)) (by kernel_rfl) (hSA) ?_
        simp only[Act.put,List.setIfInBounds_toArray,List.set_cons_zero,List.set_cons_succ]
        refine go_val 6 61 _ rfl (by kernel_rfl) (by kernel_rfl) (by kernel_rfl) (.slice p3 (gl.length+1) q3) (u3) (exec_app (.tmp 58) (.tmp 60) (by kernel_rfl) (by kernel_rfl) (by kernel_rfl) hr3) (hS3) ?_
        simp only[Act.put,List.setIfInBounds_toArray,List.set_cons_zero,List.set_cons_succ]
        refine go_take 7 62 _ (.pointer (some ⟨qb,P.length,none⟩)) rfl (by kernel_rfl) (by kernel_rfl) (by kernel_rfl) (by kernel_rfl) (fun _ _ _ h=>h) (Or.inl ⟨by kernel_rfl,fun u hu=>exec_nil (.tmp 55) (by kernel_rfl) (by kernel_rfl)⟩) hS3 ?_
        simp only[Act.put,List.setIfInBounds_toArray,List.set_cons_zero,List.set_cons_succ]
        refine go_skip 8 _ rfl (by kernel_rfl) (by kernel_rfl) (by kernel_rfl) (u3.setCell ⟨qb,P.length,none⟩ (.slice p3 (gl.length+1) q3)) (exec_storeG hfr3 hcell3 (.tmp 62) (.tmp 61) (by kernel_rfl) (by kernel_rfl) (by kernel_rfl)) (hS5) ?_
        refine wpAnyH_done (by kernel_rfl) ?_ _
        refine NoPanic.normal ?_
        go_wp2
        exact⟨⟨i+1,P++[(gl++[d],.slice p3 (gl.length+1) q3)],_,by omega,by go_num,by go_num,⟨_,_,by rw[List.length_append,List.length_singleton]⟩,by rw[List.length_append,List.length_singleton];omega,hG4,HA4,HN _,HEN⟩,by simp[intOf];omega⟩
       ·simp only[Act.put,List.setIfInBounds_toArray,List.set_cons_zero,List.set_cons_succ]
        refine go_val 3 58 _ rfl (by kernel_rfl) (by kernel_rfl) (by kernel_rfl) (.slice go gl.length gc) ((wz.drewN 1).alloc (chO d)) (load_chs hcellA (.tmp 57) (by kernel_rfl) (by kernel_rfl)) (hSA) ?_
        simp only[Act.put,List.setIfInBounds_toArray,List.set_cons_zero,List.set_cons_succ]
        refine go_val 6 61 _ rfl (by kernel_rfl) (by kernel_rfl) (by kernel_rfl) (.slice p3 (gl.length+1) q3) (u3) (exec_app (.tmp 58) (.tmp 60) (by kernel_rfl) (by kernel_rfl) (by kernel_rfl) hr3) (hS3) ?_
        simp only[Act.put,List.setIfInBounds_toArray,List.set_cons_zero,List.set_cons_succ]
        refine go_take 7 62 _ (.pointer (some ⟨qb,P.length,none⟩)) rfl (by kernel_rfl) (by kernel_rfl) (by kernel_rfl) (by kernel_rfl) (fun _ _ _ h=>h) (Or.inl ⟨by kernel_rfl,fun u hu=>exec_nil (.tmp 55) (by kernel_rfl) (by kernel_rfl)⟩) hS3 ?_
        simp only[Act.put,List.setIfInBounds_toArray,List.set_cons_zero,List.set_cons_succ]
        refine go_skip 8 _ rfl (by kernel_rfl) (by kernel_rfl) (by kernel_rfl) (u3.setCell ⟨qb,P.length,none⟩ (.slice p3 (gl.length+1) q3)) (exec_storeG hfr3 hcell3 (.tmp 62) (.tmp 61) (by kernel_rfl) (by kernel_rfl) (by kernel_rfl)) (hS5) ?_
        refine wpAnyH_done (by kernel_rfl) ?_ _
        refine NoPanic.normal ?_
        go_wp2
        exact⟨⟨i+1,P++[(gl++[d],.slice p3 (gl.length+1) q3)],_,by omega,by go_num,by go_num,⟨_,_,by rw[List.length_append,List.length_singleton]⟩,by rw[List.length_append,List.length_singleton];omega,hG4,HA4,HN _,HEN⟩,by simp[intOf];omega⟩
     ·have HIe:Hid (G.map (·.1)=R):=(by
       show _=_
       rw[HI.out,List.take_of_length_le (by omega)]
       exact HR2.out)
      have hend:decide ((i:Int)<(l.length:Int))=false:=decide_eq_false (by omega)
      clear HI
      go_wp2
      go_ret2
      exact⟨_,G,rfl,hS,HAP.out,HIe.out⟩
 ·have hc1:(ck != 0)=true:=by simpa using hc0
  have HE:Hid (z=ck):=(by
   show _=_
   rw[← HZ.out]
   unfold grpE
   rw[HCK.out]
   simp[hc0])
  have HRN:Hid (R=[]):=(by
   show _=_
   rw[← HR.out]
   unfold grpR
   rw[HZ.out,HE.out,if_neg (by exact hc0)])
  clear HZ HR HCK hc0
  go_wp2
  go_ret2
  rw[HE.out,HRN.out]
  exact⟨_,[],rfl,⟨hBW,hnil_row _ _ _ _,fun _ h=>by cases h⟩,List.Pairwise.nil,rfl⟩
end

end Go.Proofs.YtgiojkhmkeocfaaGreatDoor

/- A region that draws its order, in a round: ten operations that read, in whatever order, then the rest as the text has it. -/
namespace Go.Proofs.YtgiojkhmkeocfaaGreatDoor
open Go.RowKit Go.Shelf
namespace R10
abbrev B10:=Fin 10→Bool
def lst (b:B10):Array Bool:=#[b 0,b 1,b 2,b 3,b 4,b 5,b 6,b 7,b 8,b 9,false,false]
def upd (b:B10) (i:Fin 10):B10:=fun j=>if j=i then true else b j
def one (c:Bool):Nat:=if c then 1 else 0
def cnt (b:B10):Nat:=one (b 0)+one (b 1)+one (b 2)+one (b 3)+one (b 4)+one (b 5)+one (b 6)+one (b 7)+one (b 8)+one (b 9)
theorem lst_upd (b:B10) (i:Fin 10):(lst b).setIfInBounds i.1 true=lst (upd b i):=by
 rcases i with ⟨i,hi⟩
 rcases (by omega:i=0∨i=1∨i=2∨i=3∨i=4∨i=5∨i=6∨i=7∨i=8∨i=9) with rfl | rfl | rfl | rfl | rfl | rfl | rfl | rfl | rfl | rfl<;>simp[lst,upd]
theorem one_le (c:Bool):one c≤1:=by cases c<;>simp[one]
theorem cnt_le (b:B10):cnt b≤10:=by
 have:=fun i=>one_le (b i)
 have h0:=this 0;have h1:=this 1;have h2:=this 2;have h3:=this 3;have h4:=this 4;have h5:=this 5;have h6:=this 6;have h7:=this 7;have h8:=this 8;have h9:=this 9
 unfold cnt
 omega
def deps:Fin 10→List (Fin 10)
 | 3=>[2]
 | 5=>[4]
 | 7=>[6]
 | 8=>[5,7]
 | 9=>[1,3,8]
 | _=>[]
def closedB (b:B10):Bool:=(List.finRange 10).all fun i=>!(b i) || (deps i).all b
def chkReady (ops:Array Oper) (b:B10):Bool :=
 !(closedB b) || !(Region.ready .any ops (lst b)).isEmpty && (Region.ready .any ops (lst b)).all fun i =>
  if h:i<10 then !(b ⟨i,h⟩) && (deps ⟨i,h⟩).all b else i == 10 && (List.finRange 10).all b
def mk10 (b0 b1 b2 b3 b4 b5 b6 b7 b8 b9:Bool):B10:=fun i=>match i with
 | 0=>b0 | 1=>b1 | 2=>b2 | 3=>b3 | 4=>b4 | 5=>b5 | 6=>b6 | 7=>b7 | 8=>b8 | 9=>b9
theorem mk10_eta (b:B10):b=mk10 (b 0) (b 1) (b 2) (b 3) (b 4) (b 5) (b 6) (b 7) (b 8) (b 9):=by
 funext ⟨i,hi⟩
 rcases (by omega:i=0∨i=1∨i=2∨i=3∨i=4∨i=5∨i=6∨i=7∨i=8∨i=9) with rfl | rfl | rfl | rfl | rfl | rfl | rfl | rfl | rfl | rfl<;>rfl
theorem chk_all {ops:Array Oper} (h:∀ b0 b1 b2 b3 b4 b5 b6 b7 b8 b9:Bool,chkReady ops (mk10 b0 b1 b2 b3 b4 b5 b6 b7 b8 b9)=true) (b:B10):chkReady ops b=true:=by
 rw[mk10_eta b]
 exact h _ _ _ _ _ _ _ _ _ _
end R10
end Go.Proofs.YtgiojkhmkeocfaaGreatDoor

namespace Go.Proofs.YtgiojkhmkeocfaaGreatDoor

section
open Go.RowKit Go.Shelf
open R10
attribute [local go_sem] Oper.semAt_some
theorem cut_at (A:List (List UInt8)) (i n:Int) (j:Nat) (u:Value) (h:(scells (cut A i n))[j]?=some u):(scells A)[i.toNat+j]?=some u∧j<n.toNat:=by
 simp only[scells,cut,List.getElem?_map,List.getElem?_take,List.getElem?_drop] at h ⊢
 split at h
 ·exact⟨h,by assumption⟩
 ·simp at h
theorem cut_length (A:List (List UInt8)) (i n:Int) (h0:0≤i) (h1:0≤n) (h2:i+n≤A.length):(cut A i n).length=n.toNat:=by
 simp[cut];omega
theorem run_cut (A:List (List UInt8)) (ao:Option Addr) (cap:Nat) (i n:Int) (h0:0≤i) (h1:0≤n) (h2:i+n≤A.length) (w:World) (hA:HS w (.slice ao A.length cap) A) :
  ∃ vs,(∀ u:World,(Instr.slice 23 (.slice ao A.length cap) (some (.int .i64 i)) (some (.int .i64 (i+n))) none).run Tryz.prog u=.ok vs u)∧(∀ u:World,HS u (.slice ao A.length cap) A→HS u vs (cut A i n)):=by
 have hnc:A.length≤cap∧(ao=none→A=[]):=by
  rcases hA with ⟨h,h3,_⟩ | ⟨ad,c,h,h3,_⟩
  ·exact⟨by omega,fun _=>List.eq_nil_of_length_eq_zero h3⟩
  ·cases h
   exact⟨h3,fun h=>by cases h⟩
 refine⟨.slice (if cap=i.toNat then ao else ao.map (·.add i.toNat)) n.toNat (cap-i.toNat),fun u=>?_,fun u hu=>?_⟩
 ·rw[run_slice_lh (P:=Tryz.prog) u 23 ao A.length cap (by kernel_rfl) .i64 .i64 i (i+n) h0 (by omega) (by omega)]
  have:(sizeOf (Tryz.prog.elem 23)).run Tryz.prog u=.ok 1 u:=by kernel_rfl
  rw[this]
  simp only[Result.andThen,sliced,Nat.mul_one]
  congr 2
  omega
 ·unfold HS
  rw[cut_length A i n h0 h1 h2]
  cases ao with
  | none =>
   have hA0:=hnc.2 rfl
   subst hA0
   have:i=0:=by simp at h2;omega
   subst this
   have:n=0:=by simp at h2;omega
   subst this
   refine .inl ⟨?_,rfl,by simp[cut,scells]⟩
   rcases hA with ⟨h,h3,_⟩ | ⟨ad,c,h,h3,_⟩
   ·cases h;simp
   ·cases h
  | some ad =>
   refine .inr ⟨if cap=i.toNat then ad else ad.add i.toNat,cap-i.toNat,by split<;>simp,by omega,fun j x hj=>?_⟩
   obtain⟨h4,h5⟩:=cut_at A i n j x hj
   rcases hu with ⟨h,_⟩ | ⟨ad',c,h,h3,hc⟩
   ·cases h
   ·cases h
    have:=hc _ _ h4
    rw[if_neg (by omega)]
    obtain⟨b,off,rfl⟩:=addr_of (hc 0 _ (List.getElem?_eq_getElem (by rw[scells_length];omega)))
    rw[add_none] at this
    rw[add_none,add_none,Nat.add_assoc]
    exact this
end

section
open Go.RowKit
end

section
open Go.RowKit
attribute [local simp] st_drew low_drew
theorem run_cut_to (A:List (List UInt8)) (ao:Option Addr) (cap:Nat) (i h:Int) (h0:0≤i) (h1:i≤h) (h2:h≤A.length) (w:World) (hA:HS w (.slice ao A.length cap) A) :
  ∃ vo vc,(∀ u:World,(Instr.slice 23 (.slice ao A.length cap) (some (.int .i64 i)) (some (.int .i64 h)) none).run Tryz.prog u=.ok (.slice vo (cut A i (h-i)).length vc) u)∧(∀ u:World,HS u (.slice ao A.length cap) A→HS u (.slice vo (cut A i (h-i)).length vc) (cut A i (h-i))):=by
 obtain⟨vs,h3,h4⟩:=run_cut A ao cap i (h-i) h0 (by omega) (by omega) w hA
 obtain⟨vo,vc,rfl⟩:=Holds.form (h4 w hA)
 have e:i+(h-i)=h:=by omega
 rw[e] at h3
 exact⟨vo,vc,h3,h4⟩
end

section
open Go.RowKit
structure La (w:World) (q:Hk) (ov:Value) (u:World):Prop where
 low:Below w.heap.size w u
 box:Hx u w.heap.size q ov
 own:u.ownsRow (w.heap.size+1) 103 2 ov q.ls.length (mkcells q.ls)
def CK (u u':World):Prop:=∀ B c,Cx u B c→Cx u' B c
theorem ck_refl (u:World):CK u u:=fun _ _ h=>h
theorem ck_trans {u u' u'':World} (h:CK u u') (h':CK u' u''):CK u u'':=fun B c q=>h' B c (h B c q)
theorem ck_low {u u':World} (h:Below u.heap.size u u'):CK u u':=fun _ _ q=>q.low h
theorem cx_neM {u:World} {b:Nat} {d:Ch} (h:Cx u b d) {B s n:Nat} {v:Value} {xs:List Value} (ho:u.ownsRow B 103 s v n xs):v.ownBlock≠some b:=by
 intro e
 rcases ho.2 with ⟨rfl,_⟩ | ⟨g,cap,cur,rfl,_,hg,_⟩
 ·cases e
 ·simp only[Value.ownBlock,Option.some.injEq] at e
  subst e
  unfold Cx chO at h
  rw[h] at hg
  simp at hg
theorem cx_neH {u:World} {b b':Nat} {d:Ch} (h:Cx u b d) {q:Hk} {v:Value} (hx:Hx u b' q v):b≠b':=by
 rintro rfl
 unfold Cx chO at h
 unfold Hx hkO at hx
 rw[h] at hx
 simp at hx
section
variable {w u u':World} {q:Hk} {ov ov':Value} {x':List Mk}
theorem La.alloc (h:La w q ov u) (o:Obj):La w q ov (u.alloc o):=⟨h.low.alloc h.low.size o,h.box.low ((Below.refl _ u).alloc (Nat.le_refl _) o),h.own.alloc o⟩
theorem La.drewN (h:La w q ov u) (n:Nat):La w q ov (u.drewN n):=⟨Below.dN h.low n,h.box,h.own⟩
theorem La.keep (h:La w q ov u) (hk:Below u.heap.size u u'):La w q ov u':=⟨h.low.trans (hk.mono h.low.size),h.box.low hk,owns_keep h.own hk⟩
theorem La.ck (h:La w q ov u) (j:Nat) (z:Value):CK u (u.setCell ⟨w.heap.size,j,none⟩ z):=fun _ _ p=>p.keep (grown_set u _ j z) (fun e=>cx_neH p h.box (Option.some.inj e))
theorem La.grow (h:La w q ov u) (hg:u.grownBy u' ov.ownBlock) (ho:u'.ownsRow (w.heap.size+1) 103 2 ov' x'.length (mkcells x')):Hx u' w.heap.size q ov∧La w ⟨q.A,q.AN,q.B,q.BN,x'⟩ ov' (u'.setCell ⟨w.heap.size,4,none⟩ ov')∧CK u (u'.setCell ⟨w.heap.size,4,none⟩ ov'):=by
 have hbx:Hx u' w.heap.size q ov:=h.box.keep hg (fun e=>by have:=owns_ge h.own e.symm;omega)
 have hs:=grown_set u' w.heap.size 4 ov'
 have hlow:Below w.heap.size w u':=h.low.grown hg h.low.size (fun j hj=>by have:=owns_ge h.own hj;omega)
 refine⟨hbx,⟨hlow.grown hs hlow.size (fun j hj=>by cases hj;exact Nat.le_refl _),hbx.setl ov',own_kept ho hs ?_⟩,?_⟩
 ·intro k hk e
  cases hk
  have:=owns_ge ho e
  omega
 ·intro B c p
  have p1:=p.keep hg (fun e=>cx_neM p h.own e.symm)
  exact p1.keep hs (fun e=>cx_neH p1 hbx (Option.some.inj e))
theorem La.own_set (h:La w q ov u) (j:Nat) (z:Value):Below w.heap.size w (u.setCell ⟨w.heap.size,j,none⟩ z)∧(u.setCell ⟨w.heap.size,j,none⟩ z).ownsRow (w.heap.size+1) 103 2 ov q.ls.length (mkcells q.ls):=by
 have hs:=grown_set u w.heap.size j z
 refine⟨h.low.grown hs h.low.size (fun j hj=>by cases hj;exact Nat.le_refl _),own_kept h.own hs ?_⟩
 intro k hk e
 cases hk
 have:=owns_ge h.own e
 omega
theorem La.setA (h:La w q ov u) (z:Int):La w ⟨z,q.AN,q.B,q.BN,q.ls⟩ ov (u.setCell ⟨w.heap.size,0,none⟩ (.int .i64 z)):=⟨(h.own_set 0 _).1,heap_setCell_same u _ 0 _ _ _ h.box,(h.own_set 0 _).2⟩
theorem La.setAN (h:La w q ov u) (z:Int):La w ⟨q.A,z,q.B,q.BN,q.ls⟩ ov (u.setCell ⟨w.heap.size,1,none⟩ (.int .i64 z)):=⟨(h.own_set 1 _).1,heap_setCell_same u _ 1 _ _ _ h.box,(h.own_set 1 _).2⟩
theorem La.setB (h:La w q ov u) (z:Int):La w ⟨q.A,q.AN,z,q.BN,q.ls⟩ ov (u.setCell ⟨w.heap.size,2,none⟩ (.int .i64 z)):=⟨(h.own_set 2 _).1,heap_setCell_same u _ 2 _ _ _ h.box,(h.own_set 2 _).2⟩
theorem La.setBN (h:La w q ov u) (z:Int):La w ⟨q.A,q.AN,q.B,z,q.ls⟩ ov (u.setCell ⟨w.heap.size,3,none⟩ (.int .i64 z)):=⟨(h.own_set 3 _).1,heap_setCell_same u _ 3 _ _ _ h.box,(h.own_set 3 _).2⟩
end
theorem pk_mks {no sg:Int} (t:List (List UInt8)):pkL no (mks sg t)=if sg≠no∧okS sg=true then t else []:=by
 induction t with
 | nil=>simp[mks,pkL]
 | cons s t ih =>
  rw[mks_cons,pkL,ih]
  split<;>rfl
theorem mks_length (sg:Int) (t:List (List UInt8)):(mks sg t).length=t.length:=by simp[mks]
theorem hlay_f (w u:World) (q:Hk) (ov:Value) (sg:Int) (t:List (List UInt8)) (vt:Value) (hL:La w q ov u) (hsg:sg=32∨sg=45∨sg=43) (ht:HS w vt t) (hlen:q.ls.length+t.length≤1099511627776) (han:0≤q.AN∧q.AN≤4611686018427387904) (hbn:0≤q.BN∧q.BN≤4611686018427387904) (an bn:Int) (x':List Mk) (HAN:Hid (q.AN+((pkL 43 (mks sg t)).length:Int)=an)) (HBN:Hid (q.BN+((pkL 45 (mks sg t)).length:Int)=bn)) (HX:Hid (q.ls++mks sg t=x')):Calls Tryz.prog 87 #[.int .u8 sg,vt,.pointer (some ⟨w.heap.size,0,none⟩)] u fun e u'=>e=.returned (.tuple #[])∧(∃ ov',La w ⟨q.A,an,q.B,bn,x'⟩ ov' u')∧CK u u':=by
 obtain⟨tO,tc,rfl⟩:=Holds.form ht
 obtain⟨A,AN,B,BN,ls⟩:=q
 dsimp only at hlen han hbn HAN HBN HX ⊢
 go_enter Tryz.func87,Tryz.ntmps87
 go_wp2
 go_loopw [9] (fun iv wr=>∃ (k:Nat) (ov:Value) (x:List Mk),k≤t.length∧iv=.int .i64 (k:Int)∧x.length=ls.length+k∧La w ⟨A,AN,B,BN,x⟩ ov wr∧CK u wr∧Hid (x++mks sg (t.drop k)=x')) (fun iv _=>t.length-(intOf iv).toNat)
 case atStart=>exact⟨0,ov,ls,Nat.zero_le _,by go_num,rfl,hL,ck_refl _,HX⟩
 case round =>
  obtain⟨k,ov,x,hk,rfl,hxl,hL,hck,HI⟩:=hrel
  clear HX
  obtain⟨oo,oc,hov⟩:=(holds_of hL.own).form
  subst hov
  obtain⟨b0,b1,b2,b3,b4⟩:=hL.box.cells
  dsimp only at b0 b1 b2 b3 b4
  by_cases hlt:k<t.length
  ·obtain⟨tb,tf,rfl,_,htc⟩:=HS.at (HS.keep ht hL.low (Nat.le_refl _)) (by omega)
   obtain⟨tx,htx⟩:∃ tx,t[k]=tx:=⟨_,rfl⟩
   have c0:=htc k hlt
   rw[htx] at c0
   have HI2:Hid (x++[⟨sg,tx⟩]++mks sg (t.drop (k+1))=x'):=(by
    have h:=HI.out
    rw[List.drop_eq_getElem_cons hlt,htx,mks_cons] at h
    show _=_
    rw[← h]
    simp)
   have i1:0≤(k:Int):=by omega
   have i2:(k:Int)<(t.length:Int):=by omega
   have hL2:=hL.alloc (mkO ⟨sg,tx⟩)
   have hck2:=ck_trans hck (ck_low ((Below.refl _ wr).alloc (Nat.le_refl _) (mkO ⟨sg,tx⟩)))
   have hrow:=mk_row wr ⟨sg,tx⟩
   have hbl:=hL.box.lt
   have HS2:Hid ((wr.alloc (mkO ⟨sg,tx⟩)).heap.size=wr.heap.size+1):=(by show _=_;simp)
   have hW:wr.alloc (Obj.cells #[Value.int IntKind.u8 sg,Value.string ⟨tx.toArray⟩] 103)=wr.alloc (mkO ⟨sg,tx⟩):=rfl
   have hxk:x.length+1≤2199023255552:=by omega
   have HXL:Hid (x.length=ls.length+k):=hxl
   clear HI htx htc hxl
   go_wp2_with (at_builtin;refine wpList_append_w _ (by kernel_rfl) (.tmp 14) (.tmp 18) 57 103 (.agg #[.int .u8 0,.string ⟨#[]⟩]) 2 24 rfl Tryz.underlying57 infoMk rfl (by decide) (by decide) (w.heap.size+1) _ _ _ rfl hL2.own _ 1 (mkcells [⟨sg,tx⟩]) rfl hrow (mkcells_length _) (mkcells_one _) hxk (by have:=HS2.out;omega) ?_)
   intro v3 u3 hown3 hg3 _
   rw[← mkcells_append] at hown3
   obtain⟨o3,c3,rfl⟩:=(holds_of hown3).form
   obtain⟨hbx3,hL4,hck4⟩:=hL2.grow (x':=x++[⟨sg,tx⟩]) hg3 (by rw[List.length_append];exact hown3)
   obtain⟨f0,f1,f2,f3,f4⟩:=hbx3.cells
   have ff:=hbx3.frozen 4
   clear hW hg3 hown3
   go_wp2
   exact⟨⟨k+1,_,x++[⟨sg,tx⟩],by omega,by go_num,by have:=HXL.out;simp;omega,hL4,ck_trans hck2 hck4,HI2⟩,by simp[intOf];omega⟩
  ·have HX2:Hid (x=x'):=(by
    have h:=HI.out
    rw[List.drop_of_length_le (by omega)] at h
    show x=x'
    simpa [mks] using h)
   have hend:decide ((k:Int)<(t.length:Int))=false:=decide_eq_false (by omega)
   have hf1:=hL.box.frozen 1
   have hf3:=hL.box.frozen 3
   have HP1:=pk_mks (no:=43) (sg:=sg) t
   have HP2:=pk_mks (no:=45) (sg:=sg) t
   rw[HP1] at HAN
   rw[HP2] at HBN
   clear HI HP1 HP2 hxl
   rcases hsg with rfl | rfl | rfl
   ·have hA:Hid (AN+(t.length:Int)=an):=(by have h:=HAN.out;rw[if_pos (by decide)] at h;exact h)
    have hB:Hid (BN+(t.length:Int)=bn):=(by have h:=HBN.out;rw[if_pos (by decide)] at h;exact h)
    have hL4:=hL.setAN (AN+(t.length:Int))
    have hk4:=hL.ck 1 (.int .i64 (AN+(t.length:Int)))
    have hL5:=hL4.setBN (BN+(t.length:Int))
    have hk5:=hL4.ck 3 (.int .i64 (BN+(t.length:Int)))
    obtain⟨g0,g1,g2,g3,g4⟩:=hL4.box.cells
    dsimp only at g0 g1 g2 g3 g4
    have hg3:=hL4.box.frozen 3
    clear HAN HBN
    go_wp2
    (try simp only[Exit.inBlock,Exit.then])
    first | refine bodyPost_ret (results_none rfl _ _ _) rfl ?_ | refine bodyPost_end (results_none rfl _ _ _) rfl ?_
    refine⟨rfl,⟨.slice oo x.length oc,?_⟩,ck_trans hck (ck_trans hk4 hk5)⟩
    rw[← hA.out,← hB.out,← HX2.out]
    exact hL5
   ·have hA:Hid (AN+(t.length:Int)=an):=(by have h:=HAN.out;rw[if_pos (by decide)] at h;exact h)
    have hB:Hid (BN=bn):=(by have h:=HBN.out;rw[if_neg (by decide)] at h;show _=_;simpa using h)
    have hL4:=hL.setAN (AN+(t.length:Int))
    have hk4:=hL.ck 1 (.int .i64 (AN+(t.length:Int)))
    clear HAN HBN
    go_wp2
    (try simp only[Exit.inBlock,Exit.then])
    first | refine bodyPost_ret (results_none rfl _ _ _) rfl ?_ | refine bodyPost_end (results_none rfl _ _ _) rfl ?_
    refine⟨rfl,⟨.slice oo x.length oc,?_⟩,ck_trans hck hk4⟩
    rw[← hA.out,← hB.out,← HX2.out]
    exact hL4
   ·have hA:Hid (AN=an):=(by have h:=HAN.out;rw[if_neg (by decide)] at h;show _=_;simpa using h)
    have hB:Hid (BN+(t.length:Int)=bn):=(by have h:=HBN.out;rw[if_pos (by decide)] at h;exact h)
    have hL4:=hL.setBN (BN+(t.length:Int))
    have hk4:=hL.ck 3 (.int .i64 (BN+(t.length:Int)))
    clear HAN HBN
    go_wp2
    (try simp only[Exit.inBlock,Exit.then])
    first | refine bodyPost_ret (results_none rfl _ _ _) rfl ?_ | refine bodyPost_end (results_none rfl _ _ _) rfl ?_
    refine⟨rfl,⟨.slice oo x.length oc,?_⟩,ck_trans hck hk4⟩
    rw[← hA.out,← hB.out,← HX2.out]
    exact hL4
end

end Go.Proofs.YtgiojkhmkeocfaaGreatDoor
