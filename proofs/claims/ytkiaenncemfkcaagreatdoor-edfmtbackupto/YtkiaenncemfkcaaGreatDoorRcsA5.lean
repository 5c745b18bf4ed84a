/-
  Texts that belong together, joined: PcMath, PcSl, PcWk, PcKe, PcKm, PcPz, PcDf, PaRow, PaUq, PaPc, PaPg.
-/
import Derived.Test.YtkiaenncemfkcaaGreatDoorRcsA4
import Derived.Deep.CutRange
import Derived.Shelf.RegionOpenPlain

set_option maxHeartbeats 16000000
set_option maxRecDepth 100000
namespace Go.Proofs.YtkiaenncemfkcaaGreatDoor

section
def sub (x:List Int) (a b:Nat):List Int:=(x.drop a).take (b-a)
theorem Zzm (x:List Int) (a b:Nat) (hb:b≤x.length):(sub x a b).length=b-a:=by
 unfold sub
 rw[List.length_take,List.length_drop]
 omega
def tfN (x y:List Int):Nat→Nat→Nat→Nat
 | 0,_,_=>0
 | n+1,a,c=>if x[a]?=y[c]? then tfN x y n (a+1) (c+1)+1 else 0
def tf (x y:List Int) (a b c d:Nat):Nat:=tfN x y (min (b-a) (d-c)) a c
theorem Zzy (x y:List Int) (a b c d:Nat):tf x y a b c d=if a<b∧c<d∧x[a]?=y[c]? then tf x y (a+1) b (c+1) d+1 else 0:=by
 unfold tf
 by_cases h:a<b∧c<d
 ·rw[show min (b-a) (d-c)=min (b-(a+1)) (d-(c+1))+1 by omega,tfN]
  by_cases e:x[a]?=y[c]?
  ·rw[if_pos e,if_pos ⟨h.1,h.2,e⟩]
  ·rw[if_neg e,if_neg (fun q=>e q.2.2)]
 ·rw[show min (b-a) (d-c)=0 by omega,tfN,if_neg (fun q=>h ⟨q.1,q.2.1⟩)]
def tb (x y:List Int) (a b c d:Nat):Nat:=if a<b∧c<d∧x[b-1]?=y[d-1]? then tb x y a (b-1) c (d-1)+1 else 0
theorem ZzA (x y:List Int) (a b c d:Nat):tf x y a b c d≤b-a∧tf x y a b c d≤d-c:=by
 induction h:b-a generalizing a c with
 | zero=>rw[Zzy,if_neg (by omega)];omega
 | succ n ih =>
  rw[Zzy]
  split
  ·have:=ih (a+1) (c+1) (by omega)
   omega
  ·omega
theorem Zzv (x y:List Int) (a b c d:Nat):tb x y a b c d≤b-a∧tb x y a b c d≤d-c:=by
 induction h:b-a generalizing b d with
 | zero=>rw[tb,if_neg (by omega)];omega
 | succ n ih =>
  rw[tb]
  split
  ·have:=ih (b-1) (d-1) (by omega)
   omega
  ·omega
def fp (a c:Nat):Nat→List Pr
 | 0=>[]
 | k+1=>⟨a,c⟩::fp (a+1) (c+1) k
def bp (b d:Nat):Nat→List Pr
 | 0=>[]
 | k+1=>⟨(b-1:Nat),(d-1:Nat)⟩::bp (b-1) (d-1) k
def Wn (a b c d:Nat) (p:Pr):Prop:=(a:Int)≤p.X∧p.X<b∧(c:Int)≤p.Y∧p.Y<d
def lp (a c:Int):List Int→List Pr
 | []=>[]
 | j::K=>(if j=-1 then [] else [⟨a,c+j⟩])++lp (a+1) c K
def ends (x y:List Int) (N:Nat→Nat→Nat→Nat→List Pr) (a b c d:Nat):List Pr :=
 fp a c (tf x y a b c d)++(bp b d (tb x y (a+tf x y a b c d) b (c+tf x y a b c d) d) ++
  (if a+tf x y a b c d<b-tb x y (a+tf x y a b c d) b (c+tf x y a b c d) d∧c+tf x y a b c d<d-tb x y (a+tf x y a b c d) b (c+tf x y a b c d) d then
   N (a+tf x y a b c d) (b-tb x y (a+tf x y a b c d) b (c+tf x y a b c d) d) (c+tf x y a b c d) (d-tb x y (a+tf x y a b c d) b (c+tf x y a b c d) d)
  else []))
def pcs (M:(Nat→Nat→Nat→Nat→List Pr)→Nat→Nat→Nat→Nat→List Pr) (x y:List Int):Nat→Nat→Nat→Nat→Nat→List Pr
 | 0,_,_,_,_=>[]
 | f+1,a,b,c,d=>ends x y (M (pcs M x y f)) a b c d
def wrk (K:List Int) (l:List Pr):List Int:=l.foldl (fun K p=>K.set p.X.toNat p.Y) K
theorem ZBJ (K:List Int) (a b:List Pr):wrk K (a++b)=wrk (wrk K a) b:=by simp[wrk]
theorem ZBL (K:List Int) (p:Pr) (b:List Pr):wrk K (p::b)=wrk (K.set p.X.toNat p.Y) b:=rfl
theorem ZBO (K:List Int) (l:List Pr):(wrk K l).length=K.length:=by
 induction l generalizing K with
 | nil=>rfl
 | cons p l ih=>rw[ZBL,ih,List.length_set]
theorem ZBK (K:List Int) (l:List Pr) (u:Nat) (v:Int) (h:∀ p∈l,p.X.toNat≠u):wrk (K.set u v) l=(wrk K l).set u v:=by
 induction l generalizing K with
 | nil=>rfl
 | cons p l ih =>
  rw[ZBL,ZBL,List.set_comm _ _ (fun e=>h p (List.mem_cons_self ..) e.symm),ih _ (fun q hq=>h q (List.mem_cons_of_mem _ hq))]
theorem ZzB (x y:List Int) (a b c d:Nat):∀ i,i<tf x y a b c d→x[a+i]?=y[c+i]?:=by
 induction h:b-a generalizing a c with
 | zero=>intro i hi;rw[Zzy,if_neg (by omega)] at hi;omega
 | succ n ih =>
  intro i hi
  rw[Zzy] at hi
  split at hi
  ·rename_i hh
   cases i with
   | zero=>exact hh.2.2
   | succ i =>
    have:=ih (a+1) (c+1) (by omega) i (by omega)
    rw[show a+(i+1)=a+1+i by omega,show c+(i+1)=c+1+i by omega]
    exact this
  ·omega
theorem Zzw (x y:List Int) (a b c d:Nat):∀ i,i<tb x y a b c d→x[b-(i+1)]?=y[d-(i+1)]?:=by
 induction h:b-a generalizing b d with
 | zero=>intro i hi;rw[tb,if_neg (by omega)] at hi;omega
 | succ n ih =>
  intro i hi
  rw[tb] at hi
  split at hi
  ·rename_i hh
   cases i with
   | zero=>exact hh.2.2
   | succ i =>
    have:=ih (b-1) (d-1) (by omega) i (by omega)
    rw[show b-(i+1+1)=b-1-(i+1) by omega,show d-(i+1+1)=d-1-(i+1) by omega]
    exact this
  ·omega
def Ris (l:List Pr):Prop:=∀ p∈l,∀ q∈l,p=q∨ab q p∨ab p q
structure Okp (x y:List Int) (a b c d:Nat) (l:List Pr):Prop where
 wn:∀ p∈l,Wn a b c d p
 ris:Ris l
 eqs:∀ p∈l,x[p.X.toNat]?=y[p.Y.toNat]?
section
variable {x y:List Int}
theorem Okp.nil (a b c d:Nat):Okp x y a b c d []:=⟨fun p hp=>by simp at hp,fun p hp=>by simp at hp,fun p hp=>by simp at hp⟩
theorem Okp.mono {a b c d a' b' c' d':Nat} {l:List Pr} (h:Okp x y a b c d l) (ha:a'≤a) (hb:b≤b') (hc:c'≤c) (hd:d≤d'):Okp x y a' b' c' d' l:=⟨fun p hp=>by have:=h.wn p hp;unfold Wn at this ⊢;omega,h.ris,h.eqs⟩
theorem Okp.one {a c:Nat} (h:x[a]?=y[c]?):Okp x y a (a+1) c (c+1) [⟨a,c⟩]:=⟨fun p hp=>by simp at hp;subst hp;unfold Wn;dsimp only;omega,fun p hp q hq=>by simp at hp hq;subst hp;subst hq;exact .inl rfl,fun p hp=>by simp at hp;subst hp;simpa using h⟩
theorem Okp.cat {a b c d a' b' c' d' A B C D:Nat} {l l':List Pr} (h:Okp x y a b c d l) (h':Okp x y a' b' c' d' l') (hs:(b≤a'∧d≤c')∨(b'≤a∧d'≤c)) (h1:A≤a∧A≤a') (h2:b≤B∧b'≤B) (h3:C≤c∧C≤c') (h4:d≤D∧d'≤D):Okp x y A B C D (l++l'):=by
 refine⟨fun p hp=>?_,fun p hp q hq=>?_,fun p hp=>?_⟩
 ·rcases List.mem_append.1 hp with hp | hp
  ·exact (h.mono h1.1 h2.1 h3.1 h4.1).wn p hp
  ·exact (h'.mono h1.2 h2.2 h3.2 h4.2).wn p hp
 ·rcases List.mem_append.1 hp with hp | hp<;>rcases List.mem_append.1 hq with hq | hq
  ·exact h.ris p hp q hq
  ·have e1:=h.wn p hp
   have e2:=h'.wn q hq
   unfold Wn at e1 e2
   rcases hs with hs | hs
   ·exact .inr (.inl ⟨by omega,by omega⟩)
   ·exact .inr (.inr ⟨by omega,by omega⟩)
  ·have e1:=h'.wn p hp
   have e2:=h.wn q hq
   unfold Wn at e1 e2
   rcases hs with hs | hs
   ·exact .inr (.inr ⟨by omega,by omega⟩)
   ·exact .inr (.inl ⟨by omega,by omega⟩)
  ·exact h'.ris p hp q hq
 ·rcases List.mem_append.1 hp with hp | hp
  ·exact h.eqs p hp
  ·exact h'.eqs p hp
theorem Zjg (a c k:Nat) (h:∀ i,i<k→x[a+i]?=y[c+i]?):Okp x y a (a+k) c (c+k) (fp a c k):=by
 induction k generalizing a c with
 | zero=>exact Okp.nil _ _ _ _
 | succ k ih=>exact (Okp.one (h 0 (by omega))).cat (ih (a+1) (c+1) (fun i hi=>by have:=h (i+1) (by omega);rw[show a+1+i=a+(i+1) by omega,show c+1+i=c+(i+1) by omega];exact this)) (.inl ⟨by omega,by omega⟩) ⟨by omega,by omega⟩ ⟨by omega,by omega⟩ ⟨by omega,by omega⟩ ⟨by omega,by omega⟩
theorem Zdl (b d k:Nat) (hb:k≤b) (hd:k≤d) (h:∀ i,i<k→x[b-(i+1)]?=y[d-(i+1)]?):Okp x y (b-k) b (d-k) d (bp b d k):=by
 induction k generalizing b d with
 | zero=>exact Okp.nil _ _ _ _
 | succ k ih =>
  have h0:Okp x y (b-1) (b-1+1) (d-1) (d-1+1) [⟨(b-1:Nat),(d-1:Nat)⟩]:=Okp.one (by simpa using h 0 (by omega))
  exact h0.cat (ih (b-1) (d-1) (by omega) (by omega) (fun i hi=>by have:=h (i+1) (by omega);rw[show b-1-(i+1)=b-(i+1+1) by omega,show d-1-(i+1)=d-(i+1+1) by omega];exact this)) (.inr ⟨by omega,by omega⟩) ⟨by omega,by omega⟩ ⟨by omega,by omega⟩ ⟨by omega,by omega⟩ ⟨by omega,by omega⟩
theorem ZoG (K:List Int):∀ (a c nx m:Nat),Vk nx m K→(∀ (i q:Nat),K[i]?=some (q:Int)→x[a+i]?=y[c+q]?)→Okp x y a (a+K.length) (c+nx) (c+m) (lp a c K):=by
 induction K with
 | nil=>intro a c nx m _ _;exact Okp.nil _ _ _ _
 | cons z K ih =>
  intro a c nx m h hs
  rw[lp]
  simp only[List.length_cons]
  have hs':∀ (i q:Nat),K[i]?=some (q:Int)→x[a+1+i]?=y[c+q]?:=fun i q hi=>by
   have:=hs (i+1) q (by simpa using hi)
   rw[show a+1+i=a+(i+1) by omega]
   exact this
  rcases h with ⟨hz,h⟩ | ⟨hz,h1,h2,h⟩
  ·rw[if_pos hz,List.nil_append]
   exact (ih (a+1) c nx m h hs').mono (by omega) (by omega) (by omega) (by omega)
  ·rw[if_neg hz]
   obtain⟨j,rfl⟩:∃ j:Nat,z=j:=⟨z.toNat,by omega⟩
   have e1:Okp x y a (a+1) (c+j) (c+j+1) [⟨(a:Int),(c:Int)+(j:Int)⟩]:=by simpa using Okp.one (x:=x) (y:=y) (a:=a) (c:=c+j) (by simpa using hs 0 j (by simp))
   exact e1.cat (ih (a+1) c (j+1) m (by simpa using h) hs') (.inl ⟨by omega,by omega⟩) ⟨by omega,by omega⟩ ⟨by omega,by omega⟩ ⟨by omega,by omega⟩ ⟨by omega,by omega⟩
end
theorem Zzk (x:List Int) (a b i:Nat) (hi:i<b-a):(sub x a b)[i]?=x[a+i]?:=by
 unfold sub
 rw[List.getElem?_take_of_lt hi,List.getElem?_drop]
theorem Zzn {x:List Int} {a b i:Nat} {z:Int} (h:(sub x a b)[i]?=some z):i<b-a∧x[a+i]?=some z:=by
 have h1:=(List.getElem?_eq_some_iff.1 h).1
 unfold sub at h1
 rw[List.length_take] at h1
 exact⟨by omega,by rw[← Zzk x a b i (by omega)];exact h⟩
theorem ZnH (x y:List Int) (a b c d:Nat) (hab:a≤b) (hb:b≤x.length) (hcd:c≤d) (hd:d≤y.length):Okp x y a b c d (lp a c (kp 0 (sub x a b) (sub y c d))):=by
 have h1:=ZoG (x:=x) (y:=y) (kp 0 (sub x a b) (sub y c d)) a c 0 (d-c) (by
  have:=Znc 0 (sub x a b) (sub y c d) (Int.le_refl _)
  rw[Zzm y _ _ (by omega),Int.zero_add] at this
  exact this) (fun i q hq=>by
   obtain⟨_,z,h1,h2⟩:=ZmY 0 _ _ (Int.le_refl _) i q hq (by omega)
   rw[show ((q:Int)-0).toNat=q by omega] at h2
   rw[(Zzn h1).2,(Zzn h2).2])
 rw[ZmV,Zzm x _ _ (by omega)] at h1
 exact h1.mono (Nat.le_refl _) (by omega) (by omega) (by omega)
theorem Zhp (x y:List Int) (N:Nat→Nat→Nat→Nat→List Pr) (a b c d:Nat) (hab:a≤b) (_:b≤x.length) (hcd:c≤d) (_:d≤y.length) (hN:∀ a' b' c' d',a≤a'→a'<b'→b'≤b→c≤c'→c'<d'→d'≤d→Okp x y a' b' c' d' (N a' b' c' d')):Okp x y a b c d (ends x y N a b c d):=by
 unfold ends
 have hk:=ZzA x y a b c d
 have hks:=ZzB x y a b c d
 generalize tf x y a b c d=k at hk hks ⊢
 have hm:=Zzv x y (a+k) b (c+k) d
 have hms:=Zzw x y (a+k) b (c+k) d
 generalize tb x y (a+k) b (c+k) d=m at hm hms ⊢
 have hmid:Okp x y (a+k) (b-m) (c+k) (d-m) (if a+k<b-m∧c+k<d-m then N (a+k) (b-m) (c+k) (d-m) else []):=by
  split
  ·rename_i h
   exact hN _ _ _ _ (by omega) h.1 (by omega) (by omega) h.2 (by omega)
  ·exact Okp.nil _ _ _ _
 have h1:=Zjg (x:=x) (y:=y) a c k hks
 have h2:=Zdl (x:=x) (y:=y) b d m (by omega) (by omega) hms
 exact h1.cat (h2.cat hmid (.inr ⟨by omega,by omega⟩) (A:=a+k) (B:=b) (C:=c+k) (D:=d) ⟨by omega,by omega⟩ ⟨by omega,by omega⟩ ⟨by omega,by omega⟩ ⟨by omega,by omega⟩) (.inl ⟨by omega,by omega⟩) ⟨by omega,by omega⟩ ⟨by omega,by omega⟩ ⟨by omega,by omega⟩ ⟨by omega,by omega⟩
def MOk (M:(Nat→Nat→Nat→Nat→List Pr)→Nat→Nat→Nat→Nat→List Pr) (x y:List Int):Prop:=∀ (rec:Nat→Nat→Nat→Nat→List Pr) (a b c d:Nat),a<b→b≤x.length→c<d→d≤y.length→(∀ a' b' c' d',a'≤b'→b'≤x.length→c'≤d'→d'≤y.length→Okp x y a' b' c' d' (rec a' b' c' d'))→Okp x y a b c d (M rec a b c d)
theorem Zsa {M:(Nat→Nat→Nat→Nat→List Pr)→Nat→Nat→Nat→Nat→List Pr} {x y:List Int} (hM:MOk M x y) (f:Nat):∀ a b c d,a≤b→b≤x.length→c≤d→d≤y.length→Okp x y a b c d (pcs M x y f a b c d):=by
 induction f with
 | zero=>intro a b c d _ _ _ _;exact Okp.nil _ _ _ _
 | succ f ih =>
  intro a b c d hab hb hcd hd
  rw[pcs]
  exact Zhp x y _ a b c d hab hb hcd hd (fun a' b' c' d' _ h2 h3 _ h5 h6=>hM _ a' b' c' d' h2 (by omega) h5 (by omega) ih)
theorem ZBM (l:List Pr):∀ (K:List Int) (i:Nat) (z:Int),(wrk K l)[i]?=some z→K[i]?=some z∨∃ p∈l,p.X.toNat=i∧p.Y=z:=by
 induction l with
 | nil=>intro K i z h;exact .inl h
 | cons p l ih =>
  intro K i z h
  rw[ZBL] at h
  rcases ih _ i z h with h | ⟨q,hq,h⟩
  ·by_cases e:p.X.toNat=i
   ·subst e
    by_cases hl:p.X.toNat<K.length
    ·rw[List.getElem?_set_self hl] at h
     cases h
     exact .inr ⟨p,List.mem_cons_self ..,rfl,rfl⟩
    ·rw[List.getElem?_eq_none (by rw[List.length_set];omega)] at h
     cases h
   ·rw[List.getElem?_set_ne e] at h
    exact .inl h
  ·exact .inr ⟨q,List.mem_cons_of_mem _ hq,h⟩
theorem ZAT (K:List Int):∀ (nx m:Int),(∀ z∈K,z=-1∨(nx≤z∧z<m))→K.Pairwise (fun z z'=>z=-1∨z'=-1∨z<z')→Vk nx m K:=by
 induction K with
 | nil=>intro _ _ _ _;trivial
 | cons z K ih =>
  intro nx m h1 h2
  have h2':=List.pairwise_cons.1 h2
  by_cases hz:z=-1
  ·exact .inl ⟨hz,ih nx m (fun y hy=>h1 y (List.mem_cons_of_mem _ hy)) h2'.2⟩
  ·have h3:=(h1 z (List.mem_cons_self ..)).resolve_left hz
   refine .inr ⟨hz,h3.1,h3.2,ih (z+1) m (fun y hy=>?_) h2'.2⟩
   rcases h1 y (List.mem_cons_of_mem _ hy) with e | e
   ·exact .inl e
   ·rcases h2'.1 y hy with q | q | q
    ·exact absurd q hz
    ·exact .inl q
    ·exact .inr ⟨by omega,e.2⟩
theorem ZBP {x y:List Int} (n m:Nat) (l:List Pr) (h:Okp x y 0 n 0 m l):Vk 0 m (wrk (List.replicate n (-1)) l):=by
 have hget:∀ (i:Nat) (z:Int),(wrk (List.replicate n (-1)) l)[i]?=some z→z=-1∨∃ p∈l,p.X=i∧p.Y=z:=fun i z hz=>by
  rcases ZBM l _ i z hz with q | ⟨p,hp,q1,q2⟩
  ·left
   rw[List.getElem?_replicate] at q
   split at q
   ·cases q;rfl
   ·cases q
  ·have:=h.wn p hp
   unfold Wn at this
   exact .inr ⟨p,hp,by omega,q2⟩
 refine ZAT _ 0 m (fun z hz=>?_) (List.pairwise_iff_getElem.2 fun i j hi hj hij=>?_)
 ·obtain⟨i,hi,e⟩:=List.getElem_of_mem hz
  rcases hget i z (by rw[List.getElem?_eq_getElem hi,e]) with q | ⟨p,hp,_,q2⟩
  ·exact .inl q
  ·have:=h.wn p hp
   unfold Wn at this
   exact .inr ⟨by omega,by omega⟩
 ·rcases hget i _ (List.getElem?_eq_getElem hi) with q | ⟨p,hp,p1,p2⟩
  ·exact .inl q
  ·rcases hget j _ (List.getElem?_eq_getElem hj) with q | ⟨q,hq,q1,q2⟩
   ·exact .inr (.inl q)
   ·refine .inr (.inr ?_)
    rw[← p2,← q2]
    rcases h.ris p hp q hq with e | e | e
    ·subst e
     omega
    ·exact e.2
    ·have:=e.1
     omega
theorem ZBN (l:List Pr) (n:Nat) (hr:Ris l) (hw:∀ p∈l,0≤p.X∧p.X<n):∀ K:List Int,K.length=n→∀ p∈l,(wrk K l)[p.X.toNat]?=some p.Y:=by
 induction l with
 | nil=>intro K _ p hp;simp at hp
 | cons q l ih =>
  intro K hK p hp
  rw[ZBL]
  have ih':=ih (fun a ha b hb=>hr a (List.mem_cons_of_mem _ ha) b (List.mem_cons_of_mem _ hb)) (fun a ha=>hw a (List.mem_cons_of_mem _ ha)) (K.set q.X.toNat q.Y) (by rw[List.length_set];exact hK)
  by_cases h:p∈l
  ·exact ih' p h
  ·have e:p=q:=(List.mem_cons.1 hp).resolve_right h
   subst e
   have hb:=hw p (List.mem_cons_self ..)
   by_cases hx:∃ r∈l,r.X.toNat=p.X.toNat
   ·obtain⟨r,h1,h2⟩:=hx
    have hrb:=hw r (List.mem_cons_of_mem _ h1)
    rcases hr p (List.mem_cons_self ..) r (List.mem_cons_of_mem _ h1) with e | e | e
    ·subst e;exact ih' p h1
    ·have:=e.1;omega
    ·have:=e.1;omega
   ·rw[ZBK K l _ _ (fun r h1 h2=>hx ⟨r,h1,h2⟩),List.getElem?_set_self (by rw[ZBO];omega)]
theorem Zpx (n:Nat):mkL ((List.range n).map fun (j:Nat)=>(0:Int)+(j:Int)) n=[]:=by
 unfold mkL
 rw[ZmG 0 0 (Int.le_refl _)]
 have:=ZcM 0 0 n [⟨(n:Int),(n:Int),0⟩]
 simp at this ⊢
 first | (rw[this];simp[betw]) | simpa [betw] using this
theorem Zqk {K x y:List Int} (hV:Vk 0 y.length K) (hl:K.length=x.length) (hs:∀ (i q:Nat),K[i]?=some (q:Int)→x[i]?=y[q]?) (hx:x.length≤4096) (hy:y.length≤4096) (h:mkL K y.length=[]):x=y:=by
 obtain⟨⟨_,_,hS⟩,hU⟩:=ZpA hV (by omega) (by omega) (by rw[hl];omega)
 rw[h] at hS hU
 rw[Zbh] at hU
 have hnm:x.length=y.length:=by
  have h1:=hS.2.2
  rw[hl] at h1
  omega
 apply List.ext_getElem? 
 intro i
 by_cases hi:i<x.length
 ·have hm:(⟨(i:Int),(i:Int),1⟩:Rn)∈keptR 0 K:=by
   rw[← hU,Zps]
   rw[hl]
   refine⟨rfl,?_,?_,?_⟩<;>dsimp only<;>omega
  rw[Zpo] at hm
  obtain⟨_,_,h3,_⟩:=hm
  dsimp only at h3
  rw[show ((i:Int)-0).toNat=i by omega] at h3
  exact hs i i h3
 ·rw[List.getElem?_eq_none (by omega),List.getElem?_eq_none (by omega)]
structure Kpt (x y K:List Int):Prop where
 vk:Vk 0 y.length K
 len:K.length=x.length
 eqs:∀ (i q:Nat),K[i]?=some (q:Int)→x[i]?=y[q]?
theorem Okp.kpt {x y:List Int} {l:List Pr} (h:Okp x y 0 x.length 0 y.length l):Kpt x y (wrk (List.replicate x.length (-1)) l):=by
 refine⟨ZBP _ _ _ h,by rw[ZBO];simp,fun i q hq=>?_⟩
 rcases ZBM l _ i q hq with e | ⟨p,hp,e1,e2⟩
 ·rw[List.getElem?_replicate] at e
  split at e
  ·simp at e
  ·cases e
 ·have h1:=h.eqs p hp
  rw[e1,e2] at h1
  simpa using h1
theorem Okp.at {x y:List Int} {l:List Pr} (h:Okp x y 0 x.length 0 y.length l) {p:Pr} (hp:p∈l):(wrk (List.replicate x.length (-1)) l)[p.X.toNat]?=some p.Y :=
 ZBN l x.length h.ris (fun q hq=>by have:=h.wn q hq;unfold Wn at this;omega) _ (by simp) p hp
theorem Zpn {a c k:Nat} {p:Pr}:p∈fp a c k↔∃ i,i<k∧p=⟨(a+i:Nat),(c+i:Nat)⟩:=by
 induction k generalizing a c with
 | zero=>simp[fp]
 | succ k ih =>
  rw[fp,List.mem_cons,ih]
  constructor
  ·rintro (rfl | ⟨i,hi,rfl⟩)
   ·exact⟨0,by omega,by simp⟩
   ·exact⟨i+1,by omega,by rw[show a+1+i=a+(i+1) by omega,show c+1+i=c+(i+1) by omega]⟩
  ·rintro⟨i,hi,rfl⟩
   cases i with
   | zero=>left;simp
   | succ i=>exact .inr ⟨i,by omega,by rw[show a+1+i=a+(i+1) by omega,show c+1+i=c+(i+1) by omega]⟩
theorem Zzx (x:List Int) (a b:Nat):tf x x a b a b=b-a:=by
 induction h:b-a generalizing a with
 | zero=>rw[Zzy,if_neg (by omega)]
 | succ n ih=>rw[Zzy,if_pos ⟨by omega,by omega,rfl⟩,ih (a+1) (by omega)]
end

section
open Go.RowKit
theorem ZdK {u u':World} (h:Below u.heap.size u u') {a:Addr} {v:Value} (hc:u.cell? a=some v):u'.cell? a=some v:=by
 rw[World.cell?_of_block (w:=u) (h.block _ (World.block_lt_of_cell? u _ hc))]
 exact hc
theorem ZbB (ad:Addr):ad.add 0=ad:=by unfold Addr.add;split<;>simp_all
def slF (ao:Option Addr) (cap k:Nat):Option Addr:=if cap=k then ao else ao.map (·.add k)
theorem Zxc (ao:Option Addr) (n cap k:Nat) (hk:k≤n) (_:n≤cap) (u:World):(Instr.slice 52 (.slice ao n cap) (some (.int .i64 (k:Int))) none none).run Tryz.prog u=.ok (.slice (slF ao cap k) (n-k) (cap-k)) u:=by
 rw[run_slice_l (P:=Tryz.prog) u 52 ao n cap (by kernel_rfl) .i64 k (by omega) (by omega)]
 have:(sizeOf (Tryz.prog.elem 52)).run Tryz.prog u=.ok 1 u:=by kernel_rfl
 rw[this]
 simp[Result.andThen,sliced,slF]
theorem Zxf (ao:Option Addr) (n cap k:Nat) (hk:k≤n) (hn:n≤cap) (u:World):(Instr.slice 52 (.slice ao n cap) none (some (.int .i64 (k:Int))) none).run Tryz.prog u=.ok (.slice ao k cap) u:=by
 rw[run_slice_h (P:=Tryz.prog) u 52 ao n cap (by kernel_rfl) .i64 k (by omega) (by omega)]
 have:(sizeOf (Tryz.prog.elem 52)).run Tryz.prog u=.ok 1 u:=by kernel_rfl
 rw[this]
 cases ao with
 | none=>simp[Result.andThen,sliced]
 | some ad=>simp[Result.andThen,sliced,ZbB]
theorem Zlg {w:World} {ao:Option Addr} {n c:Nat} {xs:List Value} (h:Holds w (.slice ao n c) n xs):n≤c:=by
 rcases h with ⟨h,h0,_⟩ | ⟨ad,c',h,h3,_⟩
 ·omega
 ·cases h;exact h3
theorem Zlh {w:World} {ao:Option Addr} {n c k:Nat} {L:List Int} (h:Holds w (.slice ao n c) n (icells L)) (hl:L.length=n) (hk:k≤n):Holds w (.slice (slF ao c k) (n-k) (c-k)) (n-k) (icells (L.drop k)):=by
 have hnc:=Zlg h
 rcases h with ⟨h,h0,h4⟩ | ⟨ad,c',h,h3,hc⟩
 ·cases h
  have:L=[]:=by simpa [icells] using h4
  subst this
  have:k=0:=by omega
  subst this
  exact .inl ⟨by simp[slF],by simp,by simp[icells]⟩
 ·cases h
  refine .inr ⟨if c=k then ad else ad.add k,c-k,by unfold slF;split<;>simp,by omega,fun j v hj=>?_⟩
  have hj':(icells L)[k+j]?=some v:=by
   simp only[icells,List.map_drop,List.getElem?_drop] at hj ⊢
   exact hj
  have hlt:=(List.getElem?_eq_some_iff.1 hj').1
  rw[icells_length] at hlt
  rw[if_neg (by omega)]
  have h0:=hc 0 _ (List.getElem?_eq_getElem (by rw[icells_length];omega))
  obtain⟨b,off,rfl⟩:=addr_of h0
  have:=hc _ _ hj'
  rw[add_none] at this
  rw[add_none,add_none,Nat.add_assoc]
  exact this
theorem Zlj {w:World} {ao:Option Addr} {n c k:Nat} {L:List Int} (h:Holds w (.slice ao n c) n (icells L)) (hl:L.length=n) (hk:k≤n):Holds w (.slice ao k c) k (icells (L.take k)):=by
 have hnc:=Zlg h
 rcases h with ⟨h,h0,h4⟩ | ⟨ad,c',h,h3,hc⟩
 ·cases h
  have:L=[]:=by simpa [icells] using h4
  subst this
  have:k=0:=by omega
  subst this
  exact .inl ⟨by simp,by simp,by simp[icells]⟩
 ·cases h
  refine .inr ⟨ad,c,rfl,by omega,fun j v hj=>hc j v ?_⟩
  rw[icells,List.map_take] at hj
  rw[icells]
  by_cases hjk:j<k
  ·rw[List.getElem?_take_of_lt hjk] at hj
   exact hj
  ·rw[List.getElem?_eq_none (by simp;omega)] at hj
   cases hj
theorem Zzl (x:List Int) (a b k:Nat):(sub x a b).drop k=sub x (a+k) b:=by
 unfold sub
 rw[List.drop_take,List.drop_drop]
 congr 1
 omega
theorem Zzo (x:List Int) (a b k:Nat) (hk:a+k≤b):(sub x a b).take k=sub x a (a+k):=by
 unfold sub
 rw[List.take_take]
 congr 1
 omega
theorem Zzi (x:List Int):sub x 0 x.length=x:=by simp[sub]
theorem Zll {u u':World} {B n:Nat} {e:TypeId} {s:Nat} {v:Value} {xs:List Value} (h:u.ownsRow B e s v n xs) {g:Nat} (hg:u.grownBy u' (some g)) (hB:g<B):u'.ownsRow B e s v n xs:=by
 refine h.kept hg ?_
 cases hb:v.ownBlock with
 | none=>exact .inl rfl
 | some j =>
  have:=owns_ge h hb
  exact .inr (fun q=>by cases q;omega)
theorem Ls.lt {w u:World} {g n:Nat} {Z:List Int} (h:Ls w g n Z u):w.heap.size≤g∧g<u.heap.size:=by
 rcases h.own.2 with ⟨h1,_⟩ | ⟨g',cap,cur,h1,h2,h3,_⟩
 ·cases h1
 ·cases h1
  exact⟨h2,(Array.getElem?_eq_some_iff.1 h3).1⟩
end

section
open Go.RowKit
def pzV (xo:Option Addr) (nx xc:Nat) (yo:Option Addr) (ny yc:Nat) (c:Nat) (ko:Option Addr) (kc:Nat):Value:=.agg #[.slice xo nx xc,.slice yo ny yc,.int .i64 c,.slice ko nx kc]
structure Pz (W0:World) (g:Nat) (x y:List Int) (a b c d:Nat) (xo:Option Addr) (nx xc:Nat) (yo:Option Addr) (ny yc:Nat) (ko:Option Addr) (kc:Nat):Prop where
 eb:b=a+nx
 ed:d=c+ny
 bx:b≤x.length
 dy:d≤y.length
 hx:Holds W0 (.slice xo nx xc) nx (icells (sub x a b))
 hy:Holds W0 (.slice yo ny yc) ny (icells (sub y c d))
 hk:nx≤kc
 at':0<nx→ko=some ⟨g,a,none⟩
section
variable {W0:World} {g:Nat} {x y:List Int} {a b c d:Nat} {xo:Option Addr} {nx xc:Nat} {yo:Option Addr} {ny yc:Nat} {ko:Option Addr} {kc:Nat}
theorem Pz.from (h:Pz W0 g x y a b c d xo nx xc yo ny yc ko kc) {i j:Nat} (hi:i≤nx) (hj:j≤ny):Pz W0 g x y (a+i) b (c+j) d (slF xo xc i) (nx-i) (xc-i) (slF yo yc j) (ny-j) (yc-j) (slF ko kc i) (kc-i):=by
 have e1:=h.eb
 have e2:=h.ed
 have e3:=h.hk
 refine⟨by omega,by omega,h.bx,h.dy,?_,?_,by omega,fun h0=>?_⟩
 ·rw[← Zzl]
  exact Zlh h.hx (by rw[Zzm x a b h.bx];omega) hi
 ·rw[← Zzl]
  exact Zlh h.hy (by rw[Zzm y c d h.dy];omega) hj
 ·rw[h.at' (by omega),slF,if_neg (by omega),Option.map_some,add_none]
theorem Pz.to (h:Pz W0 g x y a b c d xo nx xc yo ny yc ko kc) {i j:Nat} (hi:i≤nx) (hj:j≤ny):Pz W0 g x y a (a+i) c (c+j) xo i xc yo j yc ko kc:=by
 have e1:=h.eb
 have e2:=h.ed
 have e3:=h.hk
 have e4:=h.bx
 have e5:=h.dy
 refine⟨rfl,rfl,by omega,by omega,?_,?_,by omega,fun h0=>h.at' (by omega)⟩
 ·rw[← Zzo x a b i (by omega)]
  exact Zlj h.hx (by rw[Zzm x a b h.bx];omega) hi
 ·rw[← Zzo y c d j (by omega)]
  exact Zlj h.hy (by rw[Zzm y c d h.dy];omega) hj
end
theorem Zas (xo:Option Addr) (nx xc:Nat) (yo:Option Addr) (ny yc c:Nat) (ko:Option Addr) (kc:Nat) (w:World) (r:Bool) (hr:Hid (r=decide (nx=0∨ny=0))) :
  Calls Tryz.prog 97 #[pzV xo nx xc yo ny yc c ko kc] w fun e w'=>e=.returned (.bool r)∧Below w.heap.size w w':=by
 unfold pzV
 by_cases h0:nx=0
 ·subst h0
  obtain rfl:r=true:=by rw[hr.out];simp
  clear hr
  go_enter Tryz.func97,Tryz.ntmps97
  go_wp2
  go_ret
  exact⟨rfl,(Below.refl _ w).alloc (Nat.le_refl _) _⟩
 ·have e1:decide ((nx:Int)=0)=false:=decide_eq_false (by omega)
  have e2:decide (nx=0)=false:=decide_eq_false (by omega)
  have e3:((nx:Int) == 0)=false:=by simp;omega
  by_cases h1:ny=0
  ·subst h1
   obtain rfl:r=true:=by rw[hr.out];simp
   clear hr h0
   go_enter Tryz.func97,Tryz.ntmps97
   go_wp2
   go_ret
   exact⟨rfl,(Below.refl _ w).alloc (Nat.le_refl _) _⟩
  ·have e4:decide ((ny:Int)=0)=false:=decide_eq_false (by omega)
   have e6:((ny:Int) == 0)=false:=by simp;omega
   have e5:decide (ny=0)=false:=decide_eq_false (by omega)
   obtain rfl:r=false:=by rw[hr.out];simp[h0,h1]
   clear hr h0 h1
   go_enter Tryz.func97,Tryz.ntmps97
   go_wp2
   go_ret
   exact⟨rfl,(Below.refl _ w).alloc (Nat.le_refl _) _⟩
theorem Zbk (xo:Option Addr) (nx xc:Nat) (yo:Option Addr) (ny yc c:Nat) (ko:Option Addr) (kc:Nat) (w:World) (i j:Nat) (hi:i≤nx) (hj:j≤ny) (hxc:nx≤xc) (hyc:ny≤yc) (hkc:nx≤kc) :
  Calls Tryz.prog 101 #[pzV xo nx xc yo ny yc c ko kc,.int .i64 (i:Int),.int .i64 (j:Int)] w fun e w'=>e=.returned (pzV xo i xc yo j yc c ko kc)∧Below w.heap.size w w':=by
 unfold pzV
 have r1:=Zxf xo nx xc i hi hxc
 have r2:=Zxf yo ny yc j hj hyc
 have r3:=Zxf ko nx kc i hi hkc
 clear hi hj hxc hyc hkc
 go_enter Tryz.func101,Tryz.ntmps101
 go_wp2
 go_region
 go_wp2
 have k2:=ZbP w (Obj.cells #[.slice xo nx xc,.slice yo ny yc,.int .i64 c,.slice ko nx kc] 181) (Obj.cells #[.slice xo i xc,.slice yo j yc,.int .i64 c,.slice ko i kc] 181)
 exact bodyPost_ret (v:=.agg #[.slice xo i xc,.slice yo j yc,.int .i64 c,.slice ko i kc]) (results_cell_row rfl _ _ (w.heap.size+1) 181 #[.slice xo i xc,.slice yo j yc,.int .i64 c,.slice ko i kc] (0,0) _ rfl k2 Tryz.underlying181 rfl (by kernel_rfl)) rfl ⟨rfl,(((Below.refl _ w).alloc (Nat.le_refl _) _).alloc (by simp) _).drew⟩
theorem Zay (xo:Option Addr) (nx xc:Nat) (yo:Option Addr) (ny yc c:Nat) (ko:Option Addr) (kc:Nat) (w:World) (i j:Nat) (hi:i≤nx) (hj:j≤ny) (hxc:nx≤xc) (hyc:ny≤yc) (hkc:nx≤kc) (hc:c+j≤1048576) :
  Calls Tryz.prog 102 #[pzV xo nx xc yo ny yc c ko kc,.int .i64 (i:Int),.int .i64 (j:Int)] w fun e w'=>e=.returned (pzV (slF xo xc i) (nx-i) (xc-i) (slF yo yc j) (ny-j) (yc-j) (c+j) (slF ko kc i) (kc-i))∧Below w.heap.size w w':=by
 unfold pzV
 have r1:=Zxc xo nx xc i hi hxc
 have r2:=Zxc yo ny yc j hj hyc
 have r3:=Zxc ko nx kc i hi hkc
 generalize slF xo xc i=xo' at *
 generalize slF yo yc j=yo' at *
 generalize slF ko kc i=ko' at *
 generalize nx-i=nx' at *
 generalize ny-j=ny' at *
 generalize xc-i=xc' at *
 generalize yc-j=yc' at *
 generalize kc-i=kc' at *
 obtain⟨c',hc'⟩:∃ c',c+j=c':=⟨_,rfl⟩
 have n1:(c:Int)+(j:Int)=(c':Int):=by omega
 rw[hc']
 clear hi hj hxc hyc hkc hc'
 go_enter Tryz.func102,Tryz.ntmps102
 go_wp2
 go_region
 go_wp2
 have k2:=ZbP w (Obj.cells #[.slice xo nx xc,.slice yo ny yc,.int .i64 c,.slice ko nx kc] 181) (Obj.cells #[.slice xo' nx' xc',.slice yo' ny' yc',.int .i64 c',.slice ko' nx' kc'] 181)
 exact bodyPost_ret (v:=.agg #[.slice xo' nx' xc',.slice yo' ny' yc',.int .i64 c',.slice ko' nx' kc']) (results_cell_row rfl _ _ (w.heap.size+1) 181 #[.slice xo' nx' xc',.slice yo' ny' yc',.int .i64 c',.slice ko' nx' kc'] (0,0) _ rfl k2 Tryz.underlying181 rfl (by kernel_rfl)) rfl ⟨rfl,(((Below.refl _ w).alloc (Nat.le_refl _) _).alloc (by simp) _).drew⟩
theorem Zjh (a c k:Nat):fp a c (k+1)=fp a c k++[⟨(a+k:Nat),(c+k:Nat)⟩]:=by
 induction k generalizing a c with
 | zero=>simp[fp]
 | succ k ih =>
  rw[fp,ih (a+1) (c+1),fp]
  simp
  omega
def Qbx (u:World) (B:Nat) (v0 v1 v2 v3:Value):Prop:=u.heap[B]?=some (.cells #[v0,v1,v2,v3] 181 (0,0))
section
variable {u u':World} {B:Nat} {v0 v1 v2 v3:Value}
theorem Qbx.cells (h:Qbx u B v0 v1 v2 v3):u.cell? ⟨B,0,none⟩=some v0∧u.cell? ⟨B,1,none⟩=some v1∧u.cell? ⟨B,2,none⟩=some v2∧u.cell? ⟨B,3,none⟩=some v3:=by
 refine⟨?_,?_,?_,?_⟩<;>rw[Lib.cell_of_heap h]<;>rfl
theorem Qbx.frozen (h:Qbx u B v0 v1 v2 v3) (j:Nat):u.frozen? ⟨B,j,none⟩=false:=by
 unfold World.frozen?
 rw[h]
 rfl
theorem Qbx.lt (h:Qbx u B v0 v1 v2 v3):B<u.heap.size:=(Array.getElem?_eq_some_iff.1 h).1
theorem Qbx.keep (h:Qbx u B v0 v1 v2 v3) {r:Option Nat} (hg:u.grownBy u' r) (hr:some B≠r):Qbx u' B v0 v1 v2 v3:=(hg.block B h.lt hr).trans h
theorem Qbx.low (h:Qbx u B v0 v1 v2 v3) (hg:Below u.heap.size u u'):Qbx u' B v0 v1 v2 v3:=(hg.block B h.lt).trans h
theorem Qbx.drewN (h:Qbx u B v0 v1 v2 v3) (k:Nat):Qbx (u.drewN k) B v0 v1 v2 v3:=h
theorem Qbx.new (w:World) (v0 v1 v2 v3:Value):Qbx (w.alloc (.cells #[v0,v1,v2,v3] 181)) w.heap.size v0 v1 v2 v3:=_root_.Go.heap_alloc_new w _
theorem Qbx.put (h:Qbx u B v0 v1 v2 v3) (z0 z1 z2 z3:Value):Qbx ((((u.setCell ⟨B,0,none⟩ z0).setCell ⟨B,1,none⟩ z1).setCell ⟨B,2,none⟩ z2).setCell ⟨B,3,none⟩ z3) B z0 z1 z2 z3:=by
 have s1:=heap_setCell_same u B 0 _ _ z0 h
 have s2:=heap_setCell_same _ B 1 _ _ z1 s1
 have s3:=heap_setCell_same _ B 2 _ _ z2 s2
 exact heap_setCell_same _ B 3 _ _ z3 s3
end
theorem ZaN {W0:World} {g N:Nat} (K:List Int) (xo:Option Addr) (nx xc:Nat) (yo:Option Addr) (ny yc a c:Nat) (ko:Option Addr) (kc:Nat) (w:World) (i j n:Nat) (hS:Ls W0 g N K w) (hko:0<nx→ko=some ⟨g,a,none⟩) (haN:a+nx≤N) (hN:N≤1048576) (hin:i+n≤nx) (hc:c+j+n≤1048576) :
  Calls Tryz.prog 103 #[pzV xo nx xc yo ny yc c ko kc,.int .i64 (i:Int),.int .i64 (j:Int),.int .i64 (n:Int)] w fun e w'=>e=.returned (.tuple #[])∧Ls W0 g N (wrk K (fp (a+i) (c+j) n)) w'∧w.grownBy w' (some g):=by
 unfold pzV
 have hgw:=hS.lt
 have hS0:=hS.keep ((Below.refl _ w).alloc (Nat.le_refl _) (.cells #[.slice xo nx xc,.slice yo ny yc,.int .i64 c,.slice ko nx kc] 181))
 have hG0:=Zow ((Below.refl _ w).alloc (Nat.le_refl _) (.cells #[.slice xo nx xc,.slice yo ny yc,.int .i64 c,.slice ko nx kc] 181)) (some g)
 have hQ0:=Qbx.new w (.slice xo nx xc) (.slice yo ny yc) (.int .i64 c) (.slice ko nx kc)
 go_enter Tryz.func103,Tryz.ntmps103
 go_wp2
 go_loopw [10] (fun iv wr=>∃ k:Nat,k≤n∧iv=.int .i64 k∧Ls W0 g N (wrk K (fp (a+i) (c+j) k)) wr∧w.grownBy wr (some g)∧Qbx wr w.heap.size (.slice xo nx xc) (.slice yo ny yc) (.int .i64 c) (.slice ko nx kc)) (fun iv _=>n-(intOf iv).toNat)
 case atStart=>exact⟨0,Nat.zero_le _,rfl,hS0,hG0,hQ0⟩
 case round =>
  clear hS0 hG0 hQ0 hS
  obtain⟨k,hk,rfl,hS,hG,hQ⟩:=hrel
  by_cases hlt:k<n
  ·obtain rfl:=hko (by omega)
   obtain⟨c0,c1,c2,c3⟩:=hQ.cells
   obtain⟨q,hq⟩:∃ q,i+k=q:=⟨_,rfl⟩
   obtain⟨z,hz⟩:∃ z,c+j+k=z:=⟨_,rfl⟩
   obtain⟨z',hz'⟩:∃ z,c+j=z:=⟨_,rfl⟩
   have n1:(i:Int)+(k:Int)=(q:Int):=by omega
   have n2:(c:Int)+(j:Int)=(z':Int):=by omega
   have n3:(z':Int)+(k:Int)=(z:Int):=by omega
   have i1:0≤(q:Int):=by omega
   have i2:(q:Int)<(nx:Int):=by omega
   have i3:(k:Int)<(n:Int):=by omega
   have hl:=hS.len
   have d0:=hS.at (List.getElem?_eq_getElem (i:=a+q) (by omega))
   have f0:=hS.own.frozenAt (a+q)
   have hS1:=hS.set (a+q) (z:Int)
   have hG1:w.grownBy (wr.setCell ⟨g,a+q,none⟩ (.int .i64 (z:Int))) (some g):=hG.trans (ZjW wr g (a+q) _)
   have hQ1:=hQ.keep (ZjW wr g (a+q) (.int .i64 (z:Int))) (by simp;omega)
   have HE:Hid ((wrk K (fp (a+i) (c+j) k)).set (a+q) (z:Int)=wrk K (fp (a+i) (c+j) (k+1))):=(by
    show _=_
    rw[Zjh,ZBJ,← hz,← hq]
    simp only[wrk,List.foldl_cons,List.foldl_nil]
    congr 1
    omega)
   generalize (wrk K (fp (a+i) (c+j) k))[a+q]=z0 at d0
   clear hl hq hz hz' hko
   go_wp2
   go_roundw
   case rel=>exact⟨k+1,by omega,by go_num,by rw[← HE.out];exact hS1,hG1,hQ1⟩
   case measure=>simp[intOf];omega
  ·obtain rfl:k=n:=by omega
   go_wp2
   go_end0
   exact⟨rfl,hS,hG⟩
end

section
open Go.RowKit
attribute [local simp] Zou
def lenOf:Value→Nat | .slice _ n _=>n | _=>0
theorem Zol {u:World} {B:Nat} {v0 v1 v2 v3:Value} (h:Qbx u B v0 v1 v2 v3) {op:Oper} (x:Operand) (ho:op.op=.load 181 x) {ev:Operand→Value} (hx:ev x=.pointer (some ⟨B,0,none⟩)) :
  (execOp ev op).run Tryz.prog u=.ok (.value (.agg #[v0,v1,v2,v3])) u:=by
 obtain⟨d0,d1,d2,d3⟩:=h.cells
 simp only[execOp,ho,hx]
 go_simp
theorem Zhb {u wr:World} {B:Nat} {xo:Option Addr} {nx xc:Nat} {yo:Option Addr} {ny yc c:Nat} {ko:Option Addr} {kc:Nat} {r:Bool} (h:Qbx u B (.slice xo nx xc) (.slice yo ny yc) (.int .i64 c) (.slice ko nx kc)∧Low wr u) (hr:Hid (r=decide (nx=0∨ny=0))∨False) :
  Calls Tryz.prog 97 #[.agg #[.slice xo nx xc,.slice yo ny yc,.int .i64 (c:Int),.slice ko nx kc]] u fun e w'=>e=.returned (.bool r)∧(Qbx w' B (.slice xo nx xc) (.slice yo ny yc) (.int .i64 c) (.slice ko nx kc)∧Low wr w'):=by
 refine (Zas xo nx xc yo ny yc c ko kc u r (hr.resolve_right id)).mono ?_
 rintro e w' ⟨rfl,hb⟩
 exact⟨rfl,h.1.low hb,Below.trans h.2 (hb.mono (Below.size h.2))⟩
theorem Zat (xo:Option Addr) (nx xc:Nat) (yo:Option Addr) (ny yc c:Nat) (ko:Option Addr) (kc:Nat) (u W:World) (r:Bool) (hr:Hid (r=decide (nx=0∨ny=0))) (hL:Low W u) :
  Calls Tryz.prog 97 #[.agg #[.slice xo nx xc,.slice yo ny yc,.int .i64 (c:Int),.slice ko nx kc]] u fun e w'=>e=.returned (.bool r)∧Low W w':=by
 refine (Zas xo nx xc yo ny yc c ko kc u r hr).mono ?_
 rintro e w' ⟨rfl,hb⟩
 exact⟨rfl,Below.trans hL (hb.mono (Below.size hL))⟩
theorem ZaL {W0:World} {g N:Nat} (K:List Int) (xo:Option Addr) (nx xc:Nat) (yo:Option Addr) (ny yc a c:Nat) (ko:Option Addr) (kc:Nat) (w:World) (hS:Ls W0 g N K w) (hko:0<nx→ko=some ⟨g,a,none⟩) (haN:a+nx≤N) (hN:N≤1048576) (hin:1≤nx) (hc:c+1≤1048576) :
  Calls Tryz.prog 103 #[.agg #[.slice xo nx xc,.slice yo ny yc,.int .i64 (c:Int),.slice ko nx kc],.int .i64 0,.int .i64 0,.int .i64 1] w fun e w'=>e=.returned (.tuple #[])∧Ls W0 g N (wrk K (fp a c 1)) w'∧w.grownBy w' (some g) :=
 ZaN K xo nx xc yo ny yc a c ko kc w 0 0 1 hS hko haN hN (by omega) (by omega)
theorem ZaM {W0:World} {g N:Nat} (K:List Int) (xo:Option Addr) (nx xc:Nat) (yo:Option Addr) (ny yc a c:Nat) (ko:Option Addr) (kc:Nat) (w:World) (i j:Nat) (hS:Ls W0 g N K w) (hko:0<nx→ko=some ⟨g,a,none⟩) (haN:a+nx≤N) (hN:N≤1048576) (hin:i+1≤nx) (hc:c+j+1≤1048576) :
  Calls Tryz.prog 103 #[.agg #[.slice xo nx xc,.slice yo ny yc,.int .i64 (c:Int),.slice ko nx kc],.int .i64 (i:Int),.int .i64 (j:Int),.int .i64 1] w fun e w'=>e=.returned (.tuple #[])∧Ls W0 g N (wrk K (fp (a+i) (c+j) 1)) w'∧w.grownBy w' (some g) :=
 ZaN K xo nx xc yo ny yc a c ko kc w i j 1 hS hko haN hN (by omega) (by omega)
theorem Zax (xo:Option Addr) (nx xc:Nat) (yo:Option Addr) (ny yc c:Nat) (ko:Option Addr) (kc:Nat) (w:World) (hi:1≤nx) (hj:1≤ny) (hxc:nx≤xc) (hyc:ny≤yc) (hkc:nx≤kc) (hc:c+1≤1048576) :
  Calls Tryz.prog 102 #[.agg #[.slice xo nx xc,.slice yo ny yc,.int .i64 (c:Int),.slice ko nx kc],.int .i64 1,.int .i64 1] w fun e w'=>e=.returned (pzV (slF xo xc 1) (nx-1) (xc-1) (slF yo yc 1) (ny-1) (yc-1) (c+1) (slF ko kc 1) (kc-1))∧Below w.heap.size w w' :=
 Zay xo nx xc yo ny yc c ko kc w 1 1 hi hj hxc hyc hkc hc
structure Ke (W0 w:World) (g:Nat) (x y K:List Int) (a b c d:Nat) (xo:Option Addr) (nx xc:Nat) (yo:Option Addr) (ny yc:Nat) (ko:Option Addr) (kc:Nat) (u:World):Prop where
 pz:Pz W0 g x y a b c d xo nx xc yo ny yc ko kc
 ls:Ls W0 g x.length K u
 box:Qbx u w.heap.size (.slice xo nx xc) (.slice yo ny yc) (.int .i64 c) (.slice ko nx kc)
 res:Qbx u (w.heap.size+1) (.slice none 0 0) (.slice none 0 0) (.int .i64 0) (.slice none 0 0)
 gr:w.grownBy u (some g)
section
variable {W0 w:World} {g:Nat} {x y K:List Int} {a b c d:Nat} {xo:Option Addr} {nx xc:Nat} {yo:Option Addr} {ny yc:Nat} {ko:Option Addr} {kc:Nat} {u u':World}
theorem Ke.low (h:Ke W0 w g x y K a b c d xo nx xc yo ny yc ko kc u) (hb:Below u.heap.size u u'):Ke W0 w g x y K a b c d xo nx xc yo ny yc ko kc u' :=
 ⟨h.pz,h.ls.keep hb,h.box.low hb,h.res.low hb,h.gr.trans (Zow hb _)⟩
theorem Ke.kept (h:Ke W0 w g x y K a b c d xo nx xc yo ny yc ko kc u) (hw:g<w.heap.size) {K':List Int} (hl:Ls W0 g x.length K' u') (hg:u.grownBy u' (some g)):Ke W0 w g x y K' a b c d xo nx xc yo ny yc ko kc u' :=
 ⟨h.pz,hl,h.box.keep hg (by simp;omega),h.res.keep hg (by simp;omega),h.gr.trans hg⟩
theorem Ke.put (h:Ke W0 w g x y K a b c d xo nx xc yo ny yc ko kc u) (hw:g<w.heap.size) {a' b' c' d':Nat} {xo':Option Addr} {nx' xc':Nat} {yo':Option Addr} {ny' yc':Nat} {ko':Option Addr} {kc':Nat} (hp:Pz W0 g x y a' b' c' d' xo' nx' xc' yo' ny' yc' ko' kc') :
  Ke W0 w g x y K a' b' c' d' xo' nx' xc' yo' ny' yc' ko' kc' ((((u.setCell ⟨w.heap.size,0,none⟩ (.slice xo' nx' xc')).setCell ⟨w.heap.size,1,none⟩ (.slice yo' ny' yc')).setCell ⟨w.heap.size,2,none⟩ (.int .i64 (c':Int))).setCell ⟨w.heap.size,3,none⟩ (.slice ko' nx' kc')):=by
 have hg:=h.ls.lt
 have hW:=h.ls.low.size
 have hs:=h.gr.size
 refine⟨hp,?_,h.box.put _ _ _ _,?_,?_⟩
 ·exact ZoH (ZoH (ZoH (ZoH h.ls (by omega) (by omega) _ _) (by omega) (by omega) _ _) (by omega) (by omega) _ _) (by omega) (by omega) _ _
 ·refine (heap_setCell_other _ _ _ _ (by simp)).trans ((heap_setCell_other _ _ _ _ (by simp)).trans ((heap_setCell_other _ _ _ _ (by simp)).trans ((heap_setCell_other _ _ _ _ (by simp)).trans h.res)))
 ·exact ZjV (ZjV (ZjV (ZjV h.gr (Nat.le_refl _) _ _) (Nat.le_refl _) _ _) (Nat.le_refl _) _ _) (Nat.le_refl _) _ _
end
theorem ZaJ (x y:List Int) (W0 w:World) (g:Nat) (K:List Int) (a b c d:Nat) (xo:Option Addr) (nx xc:Nat) (yo:Option Addr) (ny yc:Nat) (ko:Option Addr) (kc:Nat) (hp:Pz W0 g x y a b c d xo nx xc yo ny yc ko kc) (hxl:x.length≤4096) (hyl:y.length≤4096) (hS:Ls W0 g x.length K w) :
  Calls Tryz.prog 96 #[pzV xo nx xc yo ny yc c ko kc] w fun e w'=>∃ (k m:Nat) (xo':Option Addr) (nx' xc':Nat) (yo':Option Addr) (ny' yc':Nat) (ko':Option Addr) (kc':Nat),k=tf x y a b c d∧m=tb x y (a+k) b (c+k) d∧e=.returned (pzV xo' nx' xc' yo' ny' yc' (c+k) ko' kc')∧Pz W0 g x y (a+k) (b-m) (c+k) (d-m) xo' nx' xc' yo' ny' yc' ko' kc'∧Ls W0 g x.length (wrk K (fp a c k++bp b d m)) w'∧w.grownBy w' (some g):=by
 obtain⟨k,hk⟩:∃ k,tf x y a b c d=k:=⟨_,rfl⟩
 obtain⟨m,hm⟩:∃ m,tb x y (a+k) b (c+k) d=m:=⟨_,rfl⟩
 obtain⟨KF,hKF⟩:∃ KF,wrk K (fp a c k)=KF:=⟨_,rfl⟩
 obtain⟨A1,hA1⟩:∃ A1,a+k=A1:=⟨_,rfl⟩
 obtain⟨C1,hC1⟩:∃ C1,c+k=C1:=⟨_,rfl⟩
 have HK:Hid (a+tf x y a b c d=A1∧c+tf x y a b c d=C1∧wrk K (fp a c (tf x y a b c d))=KF):=⟨by rw[hk,hA1],by rw[hk,hC1],by rw[hk,hKF]⟩
 have HM:Hid (tb x y A1 b C1 d=m):=(by rw[hA1,hC1] at hm;exact hm)
 have HFin:Hid (k=tf x y a b c d∧m=tb x y (a+k) b (c+k) d∧A1=a+k∧C1=c+k∧wrk KF (bp b d m)=wrk K (fp a c k++bp b d m)):=⟨hk.symm,hm.symm,hA1.symm,hC1.symm,by rw[ZBJ,hKF]⟩
 have hml:m≤b-A1∧m≤d-C1:=by rw[← HM.out];exact Zzv x y A1 b C1 d
 clear hk hm hKF hA1 hC1
 have hgw:=hS.lt.2
 have hT0:Ke W0 w g x y K a b c d xo nx xc yo ny yc ko kc ((w.alloc (.cells #[.slice xo nx xc,.slice yo ny yc,.int .i64 c,.slice ko nx kc] 181)).alloc (.cells #[.slice none 0 0,.slice none 0 0,.int .i64 0,.slice none 0 0] 181)) :=
  ⟨hp,hS.keep (((Below.refl _ w).alloc (Nat.le_refl _) _).alloc (by simp) _),(Below.heap_alloc _ _ _ (by simp)).trans (_root_.Go.heap_alloc_new w _),ZbP w _ _,Zow (((Below.refl _ w).alloc (Nat.le_refl _) _).alloc (by simp) _) _⟩
 unfold pzV
 go_enter Tryz.func96,Tryz.ntmps96
 go_wp2
 go_loopw [] (fun wr=>∃ (a' c':Nat) (K':List Int) (xo:Option Addr) (nx xc:Nat) (yo:Option Addr) (ny yc:Nat) (ko:Option Addr) (kc:Nat),Ke W0 w g x y K' a' b c' d xo nx xc yo ny yc ko kc wr∧Hid (a'+tf x y a' b c' d=A1∧c'+tf x y a' b c' d=C1∧wrk K' (fp a' c' (tf x y a' b c' d))=KF)) (fun wr=>lenOf ((wr.cell? ⟨w.heap.size,0,none⟩).getD undef))
 case atStart=>exact⟨a,c,K,xo,nx,xc,yo,ny,yc,ko,kc,hT0,HK⟩
 case round =>
  clear hT0 HK hS hp
  obtain⟨a',c',K',xo,nx,xc,yo,ny,yc,ko,kc,hT,HV⟩:=hrel
  have hQ:=hT.box
  obtain⟨c0,c1,c2,c3⟩:=hQ.cells
  have hb:=hT.pz.eb
  have hd:=hT.pz.ed
  have hbx:=hT.pz.bx
  have hdy:=hT.pz.dy
  obtain⟨r,hr⟩:∃ r,decide (a'<b∧c'<d∧x[a']?=y[c']?)=r:=⟨_,rfl⟩
  have HRr:Hid (decide (a'<b∧c'<d∧x[a']?=y[c']?)=r):=hr
  clear hr
  have hlow:=hT.ls.low
  go_wp2_with fail
  go_cut [18] from 5 to 22 (fun z wz=>z=.bool r∧Low wr wz)
  case first =>
   by_cases he:nx=0∨ny=0
   ·obtain rfl:r=false:=by rw[← HRr.out];simp;intro h1 h2;omega
    have HE:Hid (true=decide (nx=0∨ny=0)):=(decide_eq_true he).symm
    clear HRr
    refine wp_region_noPanic ?_
    refine wp_region_held_drew (S:=fun u=>Qbx u w.heap.size (.slice xo nx xc) (.slice yo ny yc) (.int .i64 (c':Int)) (.slice ko nx kc)∧Low wr u) (by kernel_rfl) ⟨hQ.drewN 1,Below.dN (Below.refl _ wr) 1⟩ (fun hHeld=>?_)
    refine Y_t 0 5 _ (.agg #[.slice xo nx xc,.slice yo ny yc,.int .i64 (c':Int),.slice ko nx kc]) rfl (Or.inl ⟨by kernel_rfl,fun u hu=>Zol hu.1 (.tmp 1) (by kernel_rfl) (by kernel_rfl)⟩) hHeld ?_
    simp only[Act.put,Y_a,Y_b,Y_c]
    refine ZjE 1 6 _ rfl (by kernel_rfl) (by kernel_rfl) (by kernel_rfl) 97 #[.tmp 5] #[181] (by kernel_rfl) #[.agg #[.slice xo nx xc,.slice yo ny yc,.int .i64 (c':Int),.slice ko nx kc]] (by kernel_rfl) (enters_of Tryz.func97 (by kernel_rfl) rfl) (.bool true) (Zhb hHeld (.inl HE)) (fun u hHeld=>?_)
    simp only[Act.put,Y_a,Y_b,Y_c]
    refine Y_t 2 7 _ (.bool false) rfl (Or.inl ⟨by kernel_rfl,fun u hu=>by kernel_rfl⟩) hHeld ?_
    simp only[Act.put,Y_a,Y_b,Y_c]
    refine Y_t 3 8 _ (.bool false) rfl (Or.inl ⟨by kernel_rfl,fun u hu=>by kernel_rfl⟩) hHeld ?_
    simp only[Act.put,Y_a,Y_b,Y_c]
    refine Y_t 4 9 _ undef rfl (Or.inr ⟨by kernel_rfl,rfl⟩) hHeld ?_
    simp only[Act.put,Y_a,Y_b,Y_c]
    refine Y_t 5 10 _ undef rfl (Or.inr ⟨by kernel_rfl,rfl⟩) hHeld ?_
    simp only[Act.put,Y_a,Y_b,Y_c]
    refine Y_t 6 11 _ undef rfl (Or.inr ⟨by kernel_rfl,rfl⟩) hHeld ?_
    simp only[Act.put,Y_a,Y_b,Y_c]
    refine Y_t 7 12 _ undef rfl (Or.inr ⟨by kernel_rfl,rfl⟩) hHeld ?_
    simp only[Act.put,Y_a,Y_b,Y_c]
    refine Y_t 8 13 _ undef rfl (Or.inr ⟨by kernel_rfl,rfl⟩) hHeld ?_
    simp only[Act.put,Y_a,Y_b,Y_c]
    refine Y_t 9 14 _ undef rfl (Or.inr ⟨by kernel_rfl,rfl⟩) hHeld ?_
    simp only[Act.put,Y_a,Y_b,Y_c]
    refine Y_t 10 15 _ undef rfl (Or.inr ⟨by kernel_rfl,rfl⟩) hHeld ?_
    simp only[Act.put,Y_a,Y_b,Y_c]
    refine Y_t 11 16 _ undef rfl (Or.inr ⟨by kernel_rfl,rfl⟩) hHeld ?_
    simp only[Act.put,Y_a,Y_b,Y_c]
    refine Y_t 12 17 _ undef rfl (Or.inr ⟨by kernel_rfl,rfl⟩) hHeld ?_
    simp only[Act.put,Y_a,Y_b,Y_c]
    refine Y_t 13 18 _ (.bool false) rfl (Or.inl ⟨by kernel_rfl,fun u hu=>by kernel_rfl⟩) hHeld ?_
    simp only[Act.put,Y_a,Y_b,Y_c]
    refine wpAnyH_done (by kernel_rfl) ?_ _
    refine NoPanic.normal ?_
    go_wp2_with fail
    go_meet
    case rel=>exact⟨rfl,hHeld.2⟩
   ·have h1:0<nx:=by omega
    have h2:0<ny:=by omega
    obtain⟨xb,xf,xcc,hxe,hxb,hcx⟩:=Holds.at (Holds.keep hT.pz.hx (fun q hq=>hlow.block q hq)) (by rw[icells_length,Zzm x a' b hbx];omega)
    obtain⟨yb,yf,ycc,hye,hyb,hcy⟩:=Holds.at (Holds.keep hT.pz.hy (fun q hq=>hlow.block q hq)) (by rw[icells_length,Zzm y c' d hdy];omega)
    cases hxe
    cases hye
    have x0:=hcx 0 (by rw[icells_length,Zzm x a' b hbx];omega)
    have y0:=hcy 0 (by rw[icells_length,Zzm y c' d hdy];omega)
    obtain⟨zx,hzx⟩:∃ z,(sub x a' b)[0]?=some z:=⟨_,List.getElem?_eq_getElem (by rw[Zzm x a' b hbx];omega)⟩
    obtain⟨zy,hzy⟩:∃ z,(sub y c' d)[0]?=some z:=⟨_,List.getElem?_eq_getElem (by rw[Zzm y c' d hdy];omega)⟩
    have x1:wr.cell? ⟨xb,xf,none⟩=some (.int .i64 zx):=by
     rw[Nat.add_zero] at x0
     rw[x0]
     have:=hzx
     rw[List.getElem?_eq_getElem (by rw[Zzm x a' b hbx];omega)] at this
     simp[icells,Option.some.inj this]
    have y1:wr.cell? ⟨yb,yf,none⟩=some (.int .i64 zy):=by
     rw[Nat.add_zero] at y0
     rw[y0]
     have:=hzy
     rw[List.getElem?_eq_getElem (by rw[Zzm y c' d hdy];omega)] at this
     simp[icells,Option.some.inj this]
    have e3:(zx == zy)=r:=by
     rw[← HRr.out,show x[a']?=some zx from (Zzn hzx).2,show y[c']?=some zy from (Zzn hzy).2]
     have q1:a'<b:=by omega
     have q2:c'<d:=by omega
     by_cases q:zx=zy<;>simp[q1,q2,q]
    have HE:Hid (false=decide (nx=0∨ny=0)):=(decide_eq_false he).symm
    have i1:(0:Int)<(nx:Int):=by omega
    have i2:(0:Int)<(ny:Int):=by omega
    have hcs:∀ u:World,Low wr u→u.cell? ⟨w.heap.size,0,none⟩=some (.slice (some ⟨xb,xf,none⟩) nx xc)∧u.cell? ⟨w.heap.size,1,none⟩=some (.slice (some ⟨yb,yf,none⟩) ny yc)∧u.cell? ⟨w.heap.size,2,none⟩=some (.int .i64 (c':Int))∧u.cell? ⟨w.heap.size,3,none⟩=some (.slice ko nx kc)∧u.cell? ⟨xb,xf,none⟩=some (.int .i64 zx)∧u.cell? ⟨yb,yf,none⟩=some (.int .i64 zy):=fun u hu=>by
     obtain⟨d0,d1,d2,d3⟩:=(hQ.low hu).cells
     exact⟨d0,d1,d2,d3,ZdK hu x1,ZdK hu y1⟩
    have hLw:Low wr wr:=Below.refl _ _
    clear x0 y0 hcx hcy hzx hzy HRr hxb hyb
    go_region_held3 (fun u=>u.cell? ⟨w.heap.size,0,none⟩=some (.slice (some ⟨xb,xf,none⟩) nx xc)∧u.cell? ⟨w.heap.size,1,none⟩=some (.slice (some ⟨yb,yf,none⟩) ny yc)∧u.cell? ⟨w.heap.size,2,none⟩=some (.int .i64 (c':Int))∧u.cell? ⟨w.heap.size,3,none⟩=some (.slice ko nx kc)∧u.cell? ⟨xb,xf,none⟩=some (.int .i64 zx)∧u.cell? ⟨yb,yf,none⟩=some (.int .i64 zy)∧Low wr u) (go_keep)
     (first | (go_at_call 97;refine (Zat (some ⟨xb,xf,none⟩) nx xc (some ⟨yb,yf,none⟩) ny yc c' ko kc _ wr false HE (by first | assumption | (simp[*];done))).mono ?_;rintro e wd ⟨rfl,hlw⟩;obtain⟨g0,g1,g2,g3,g4,g5⟩:=hcs wd hlw))
    go_wp2
    go_meet
    case rel=>exact⟨rfl,by first | assumption | (simp[*];done)⟩
  case rest =>
   obtain⟨rfl,hLz⟩:=hcut
   have hTz:=hT.low hLz
   have cw:=c0
   clear c0 c1 c2 c3 hT hlow hQ hLz
   generalize wc=u0 at hTz ⊢
   obtain⟨c0,c1,c2,c3⟩:=hTz.box.cells
   cases r with
   | true =>
    have hh:=of_decide_eq_true HRr.out
    obtain⟨h1,h2,h3⟩:=hh
    have HV2:Hid (a'+1+tf x y (a'+1) b (c'+1) d=A1∧c'+1+tf x y (a'+1) b (c'+1) d=C1∧wrk (wrk K' (fp a' c' 1)) (fp (a'+1) (c'+1) (tf x y (a'+1) b (c'+1) d))=KF):=(by
     have:=HV.out
     rw[Zzy,if_pos ⟨h1,h2,h3⟩] at this
     obtain⟨q1,q2,q3⟩:=this
     refine⟨by omega,by omega,?_⟩
     rw[← q3,← ZBJ]
     rfl)
    clear HV HRr h3
    have hkk:=hTz.pz.hk
    have hxk:=Zlg hTz.pz.hx
    have hyk:=Zlg hTz.pz.hy
    go_wp2_with fail
    refine (ZaL K' xo nx xc yo ny yc a' c' ko kc u0 hTz.ls hTz.pz.at' (by omega) (by omega) (by omega) (by omega)).mono ?_
    rintro e u1 ⟨rfl,hS1,hG1⟩
    have hT1:=hTz.kept hgw hS1 hG1
    clear hTz c0 c1 c2 c3 hS1 hG1
    obtain⟨c0,c1,c2,c3⟩:=hT1.box.cells
    go_wp2_with fail
    refine (Zax xo nx xc yo ny yc c' ko kc u1 (by omega) (by omega) hxk hyk hkk (by omega)).mono ?_
    rintro e u2 ⟨rfl,hB2⟩
    have hT2:=hT1.low hB2
    clear hT1 c0 c1 c2 c3 hB2
    obtain⟨c0,c1,c2,c3⟩:=hT2.box.cells
    have f0:=hT2.box.frozen
    have hT3:=hT2.put hgw (hT2.pz.from (i:=1) (j:=1) (by omega) (by omega))
    unfold pzV
    go_wp2
    go_roundw
    case rel=>exact⟨a'+1,c'+1,_,_,_,_,_,_,_,_,_,hT3,HV2⟩
    case measure =>
     refine Nat.lt_of_le_of_lt (Nat.le_of_eq (congrArg (fun o=>lenOf (Option.getD o undef)) hT3.box.cells.1)) ?_
     rw[cw]
     simp[lenOf]
     omega
   | false =>
    have hh:=of_decide_eq_false HRr.out
    have hz:tf x y a' b c' d=0:=by rw[Zzy,if_neg hh]
    obtain⟨q1,q2,q3⟩:=HV.out
    rw[hz] at q1 q2 q3
    obtain rfl:A1=a':=by omega
    obtain rfl:C1=c':=by omega
    have q4:KF=K':=q3.symm
    subst q4
    clear hh hz q1 q2 q3 HV HRr cw c0 c1 c2 c3 hb hd hbx hdy
    have HM0:Hid (b-tb x y A1 b C1 d=b-m∧d-tb x y A1 b C1 d=d-m∧wrk KF (bp b d (tb x y A1 b C1 d))=wrk KF (bp b d m)):=(by rw[HM.out];exact⟨rfl,rfl,rfl⟩)
    go_wp2
    go_loopw [] (fun wr=>∃ (b' d':Nat) (K2:List Int) (xo:Option Addr) (nx xc:Nat) (yo:Option Addr) (ny yc:Nat) (ko:Option Addr) (kc:Nat),Ke W0 w g x y K2 A1 b' C1 d' xo nx xc yo ny yc ko kc wr∧Hid (b'-tb x y A1 b' C1 d'=b-m∧d'-tb x y A1 b' C1 d'=d-m∧wrk K2 (bp b' d' (tb x y A1 b' C1 d'))=wrk KF (bp b d m))) (fun wr=>lenOf ((wr.cell? ⟨w.heap.size,0,none⟩).getD undef))
    case atStart=>exact⟨b,d,KF,xo,nx,xc,yo,ny,yc,ko,kc,hTz,HM0⟩
    case round =>
     clear hTz HM0
     obtain⟨b',d',K2,xo,nx,xc,yo,ny,yc,ko,kc,hT,HV⟩:=hrel
     have hQ:=hT.box
     obtain⟨c0,c1,c2,c3⟩:=hQ.cells
     have hb:=hT.pz.eb
     have hd:=hT.pz.ed
     have hbx:=hT.pz.bx
     have hdy:=hT.pz.dy
     obtain⟨r,hr⟩:∃ r,decide (A1<b'∧C1<d'∧x[b'-1]?=y[d'-1]?)=r:=⟨_,rfl⟩
     have HRr:Hid (decide (A1<b'∧C1<d'∧x[b'-1]?=y[d'-1]?)=r):=hr
     clear hr
     have hlow:=hT.ls.low
     go_wp2_with fail
     go_cut [44] from 23 to 60 (fun z wz=>z=.bool r∧Low wr wz)
     case first =>
      by_cases he:nx=0∨ny=0
      ·obtain rfl:r=false:=by rw[← HRr.out];simp;intro h1 h2;omega
       have HE:Hid (true=decide (nx=0∨ny=0)):=(decide_eq_true he).symm
       clear HRr
       refine wp_region_noPanic ?_
       refine wp_region_held_drew (S:=fun u=>Qbx u w.heap.size (.slice xo nx xc) (.slice yo ny yc) (.int .i64 (C1:Int)) (.slice ko nx kc)∧Low wr u) (by kernel_rfl) ⟨hQ.drewN 1,Below.dN (Below.refl _ wr) 1⟩ (fun hHeld=>?_)
       refine Y_t 0 23 _ (.agg #[.slice xo nx xc,.slice yo ny yc,.int .i64 (C1:Int),.slice ko nx kc]) rfl (Or.inl ⟨by kernel_rfl,fun u hu=>Zol hu.1 (.tmp 1) (by kernel_rfl) (by kernel_rfl)⟩) hHeld ?_
       simp only[Act.put,Y_a,Y_b,Y_c]
       refine ZjE 1 24 _ rfl (by kernel_rfl) (by kernel_rfl) (by kernel_rfl) 97 #[.tmp 23] #[181] (by kernel_rfl) #[.agg #[.slice xo nx xc,.slice yo ny yc,.int .i64 (C1:Int),.slice ko nx kc]] (by kernel_rfl) (enters_of Tryz.func97 (by kernel_rfl) rfl) (.bool true) (Zhb hHeld (.inl HE)) (fun u hHeld=>?_)
       simp only[Act.put,Y_a,Y_b,Y_c]
       refine Y_t 2 25 _ (.bool false) rfl (Or.inl ⟨by kernel_rfl,fun u hu=>by kernel_rfl⟩) hHeld ?_
       simp only[Act.put,Y_a,Y_b,Y_c]
       refine Y_t 3 26 _ (.bool false) rfl (Or.inl ⟨by kernel_rfl,fun u hu=>by kernel_rfl⟩) hHeld ?_
       simp only[Act.put,Y_a,Y_b,Y_c]
       refine Y_t 4 27 _ undef rfl (Or.inr ⟨by kernel_rfl,rfl⟩) hHeld ?_
       simp only[Act.put,Y_a,Y_b,Y_c]
       refine Y_t 5 28 _ undef rfl (Or.inr ⟨by kernel_rfl,rfl⟩) hHeld ?_
       simp only[Act.put,Y_a,Y_b,Y_c]
       refine Y_t 6 29 _ undef rfl (Or.inr ⟨by kernel_rfl,rfl⟩) hHeld ?_
       simp only[Act.put,Y_a,Y_b,Y_c]
       refine Y_t 7 30 _ undef rfl (Or.inr ⟨by kernel_rfl,rfl⟩) hHeld ?_
       simp only[Act.put,Y_a,Y_b,Y_c]
       refine Y_t 8 31 _ undef rfl (Or.inr ⟨by kernel_rfl,rfl⟩) hHeld ?_
       simp only[Act.put,Y_a,Y_b,Y_c]
       refine Y_t 9 32 _ undef rfl (Or.inr ⟨by kernel_rfl,rfl⟩) hHeld ?_
       simp only[Act.put,Y_a,Y_b,Y_c]
       refine Y_t 10 33 _ undef rfl (Or.inr ⟨by kernel_rfl,rfl⟩) hHeld ?_
       simp only[Act.put,Y_a,Y_b,Y_c]
       refine Y_t 11 34 _ undef rfl (Or.inr ⟨by kernel_rfl,rfl⟩) hHeld ?_
       simp only[Act.put,Y_a,Y_b,Y_c]
       refine Y_t 12 35 _ undef rfl (Or.inr ⟨by kernel_rfl,rfl⟩) hHeld ?_
       simp only[Act.put,Y_a,Y_b,Y_c]
       refine Y_t 13 36 _ undef rfl (Or.inr ⟨by kernel_rfl,rfl⟩) hHeld ?_
       simp only[Act.put,Y_a,Y_b,Y_c]
       refine Y_t 14 37 _ undef rfl (Or.inr ⟨by kernel_rfl,rfl⟩) hHeld ?_
       simp only[Act.put,Y_a,Y_b,Y_c]
       refine Y_t 15 38 _ undef rfl (Or.inr ⟨by kernel_rfl,rfl⟩) hHeld ?_
       simp only[Act.put,Y_a,Y_b,Y_c]
       refine Y_t 16 39 _ undef rfl (Or.inr ⟨by kernel_rfl,rfl⟩) hHeld ?_
       simp only[Act.put,Y_a,Y_b,Y_c]
       refine Y_t 17 40 _ undef rfl (Or.inr ⟨by kernel_rfl,rfl⟩) hHeld ?_
       simp only[Act.put,Y_a,Y_b,Y_c]
       refine Y_t 18 41 _ undef rfl (Or.inr ⟨by kernel_rfl,rfl⟩) hHeld ?_
       simp only[Act.put,Y_a,Y_b,Y_c]
       refine Y_t 19 42 _ undef rfl (Or.inr ⟨by kernel_rfl,rfl⟩) hHeld ?_
       simp only[Act.put,Y_a,Y_b,Y_c]
       refine Y_t 20 43 _ undef rfl (Or.inr ⟨by kernel_rfl,rfl⟩) hHeld ?_
       simp only[Act.put,Y_a,Y_b,Y_c]
       refine Y_t 21 44 _ (.bool false) rfl (Or.inl ⟨by kernel_rfl,fun u hu=>by kernel_rfl⟩) hHeld ?_
       simp only[Act.put,Y_a,Y_b,Y_c]
       refine wpAnyH_done (by kernel_rfl) ?_ _
       refine NoPanic.normal ?_
       go_wp2_with fail
       go_meet
       case rel=>exact⟨rfl,hHeld.2⟩
      ·obtain⟨px,rfl⟩:∃ q,nx=q+1:=⟨nx-1,by omega⟩
       obtain⟨py,rfl⟩:∃ q,ny=q+1:=⟨ny-1,by omega⟩
       obtain⟨xb,xf,xcc,hxe,hxb,hcx⟩:=Holds.at (Holds.keep hT.pz.hx (fun q hq=>hlow.block q hq)) (by rw[icells_length,Zzm x A1 b' hbx];omega)
       obtain⟨yb,yf,ycc,hye,hyb,hcy⟩:=Holds.at (Holds.keep hT.pz.hy (fun q hq=>hlow.block q hq)) (by rw[icells_length,Zzm y C1 d' hdy];omega)
       cases hxe
       cases hye
       have x0:=hcx px (by rw[icells_length,Zzm x A1 b' hbx];omega)
       have y0:=hcy py (by rw[icells_length,Zzm y C1 d' hdy];omega)
       obtain⟨zx,hzx⟩:∃ z,(sub x A1 b')[px]?=some z:=⟨_,List.getElem?_eq_getElem (by rw[Zzm x A1 b' hbx];omega)⟩
       obtain⟨zy,hzy⟩:∃ z,(sub y C1 d')[py]?=some z:=⟨_,List.getElem?_eq_getElem (by rw[Zzm y C1 d' hdy];omega)⟩
       have x1:wr.cell? ⟨xb,xf+px,none⟩=some (.int .i64 zx):=by
        rw[x0]
        have:=hzx
        rw[List.getElem?_eq_getElem (by rw[Zzm x A1 b' hbx];omega)] at this
        simp[icells,Option.some.inj this]
       have y1:wr.cell? ⟨yb,yf+py,none⟩=some (.int .i64 zy):=by
        rw[y0]
        have:=hzy
        rw[List.getElem?_eq_getElem (by rw[Zzm y C1 d' hdy];omega)] at this
        simp[icells,Option.some.inj this]
       have e3:(zx == zy)=r:=by
        have q3:=(Zzn hzx).2
        have q4:=(Zzn hzy).2
        rw[← HRr.out,show b'-1=A1+px by omega,show d'-1=C1+py by omega,q3,q4]
        have q1:A1<b':=by omega
        have q2:C1<d':=by omega
        by_cases q:zx=zy<;>simp[q1,q2,q]
       have HE:Hid (false=decide (px+1=0∨py+1=0)):=(decide_eq_false (by omega)).symm
       have i1:(px:Int)<((px+1:Nat):Int):=by omega
       have i2:(py:Int)<((py+1:Nat):Int):=by omega
       have i1':(px:Int)<(px:Int)+1:=by omega
       have i2':(py:Int)<(py:Int)+1:=by omega
       have i3:0≤(px:Int):=by omega
       have i4:0≤(py:Int):=by omega
       have n1:IntKind.i64.wrap ((px:Int)+1-1)=(px:Int):=by rw[IntKind.wrap_i64];omega
       have n2:IntKind.i64.wrap ((py:Int)+1-1)=(py:Int):=by rw[IntKind.wrap_i64];omega
       have n3:IntKind.i64.wrap (px:Int)=(px:Int):=by rw[IntKind.wrap_i64];omega
       have n4:IntKind.i64.wrap (py:Int)=(py:Int):=by rw[IntKind.wrap_i64];omega
       have n5:(px:Int)+1-1=(px:Int):=by omega
       have n6:(py:Int)+1-1=(py:Int):=by omega
       have hcs:∀ u:World,Low wr u→u.cell? ⟨w.heap.size,0,none⟩=some (.slice (some ⟨xb,xf,none⟩) (px+1) xc)∧u.cell? ⟨w.heap.size,1,none⟩=some (.slice (some ⟨yb,yf,none⟩) (py+1) yc)∧u.cell? ⟨w.heap.size,2,none⟩=some (.int .i64 (C1:Int))∧u.cell? ⟨w.heap.size,3,none⟩=some (.slice ko (px+1) kc)∧u.cell? ⟨xb,xf+px,none⟩=some (.int .i64 zx)∧u.cell? ⟨yb,yf+py,none⟩=some (.int .i64 zy):=fun u hu=>by
        obtain⟨d0,d1,d2,d3⟩:=(hQ.low hu).cells
        exact⟨d0,d1,d2,d3,ZdK hu x1,ZdK hu y1⟩
       have hLw:Low wr wr:=Below.refl _ _
       clear x0 y0 hcx hcy hzx hzy HRr hxb hyb
       go_region_held3 (fun u=>u.cell? ⟨w.heap.size,0,none⟩=some (.slice (some ⟨xb,xf,none⟩) (px+1) xc)∧u.cell? ⟨w.heap.size,1,none⟩=some (.slice (some ⟨yb,yf,none⟩) (py+1) yc)∧u.cell? ⟨w.heap.size,2,none⟩=some (.int .i64 (C1:Int))∧u.cell? ⟨w.heap.size,3,none⟩=some (.slice ko (px+1) kc)∧u.cell? ⟨xb,xf+px,none⟩=some (.int .i64 zx)∧u.cell? ⟨yb,yf+py,none⟩=some (.int .i64 zy)∧Low wr u) (go_keep)
        (first | (go_at_call 97;refine (Zat (some ⟨xb,xf,none⟩) (px+1) xc (some ⟨yb,yf,none⟩) (py+1) yc C1 ko kc _ wr false HE (by first | assumption | (simp[*];done))).mono ?_;rintro e wd ⟨rfl,hlw⟩;obtain⟨g0,g1,g2,g3,g4,g5⟩:=hcs wd hlw))
       go_wp2
       go_meet
       case rel=>exact⟨rfl,by first | assumption | (simp[*];done)⟩
     case rest =>
      obtain⟨rfl,hLz⟩:=hcut
      have hTz:=hT.low hLz
      have cw:=c0
      clear c0 c1 c2 c3 hT hlow hQ hLz
      generalize wc=u0 at hTz ⊢
      obtain⟨c0,c1,c2,c3⟩:=hTz.box.cells
      cases r with
      | true =>
       have hh:=of_decide_eq_true HRr.out
       obtain⟨h1,h2,h3⟩:=hh
       obtain⟨px,rfl⟩:∃ q,nx=q+1:=⟨nx-1,by omega⟩
       obtain⟨py,rfl⟩:∃ q,ny=q+1:=⟨ny-1,by omega⟩
       have HV2:Hid (A1+px-tb x y A1 (A1+px) C1 (C1+py)=b-m∧C1+py-tb x y A1 (A1+px) C1 (C1+py)=d-m∧wrk (wrk K2 (fp (A1+px) (C1+py) 1)) (bp (A1+px) (C1+py) (tb x y A1 (A1+px) C1 (C1+py)))=wrk KF (bp b d m)):=(by
        have:=HV.out
        rw[tb,if_pos ⟨h1,h2,h3⟩,show b'-1=A1+px by omega,show d'-1=C1+py by omega] at this
        obtain⟨q1,q2,q3⟩:=this
        refine⟨by omega,by omega,?_⟩
        rw[← q3,← ZBJ,bp,show b'-1=A1+px by omega,show d'-1=C1+py by omega]
        rfl)
       clear HV HRr h3
       have hkk:=hTz.pz.hk
       have hxk:=Zlg hTz.pz.hx
       have hyk:=Zlg hTz.pz.hy
       have n1:IntKind.i64.wrap ((px:Int)+1-1)=(px:Int):=by rw[IntKind.wrap_i64];omega
       have n2:IntKind.i64.wrap ((py:Int)+1-1)=(py:Int):=by rw[IntKind.wrap_i64];omega
       have n3:IntKind.i64.wrap (px:Int)=(px:Int):=by rw[IntKind.wrap_i64];omega
       have n4:IntKind.i64.wrap (py:Int)=(py:Int):=by rw[IntKind.wrap_i64];omega
       have n5:(px:Int)+1-1=(px:Int):=by omega
       have n6:(py:Int)+1-1=(py:Int):=by omega
       go_wp2_with fail
       go_big_quiet (fail)
       have hTq:=hTz.low (Below.dN (Below.refl _ u0) nq)
       clear hTz c0 c1 c2 c3
       generalize u0.drewN nq=uq at hTq ⊢
       obtain⟨c0,c1,c2,c3⟩:=hTq.box.cells
       go_wp2_with fail
       refine (ZaM K2 xo (px+1) xc yo (py+1) yc A1 C1 ko kc uq px py hTq.ls hTq.pz.at' (by omega) (by omega) (by omega) (by omega)).mono ?_
       rintro e u1 ⟨rfl,hS1,hG1⟩
       have hT1:=hTq.kept hgw hS1 hG1
       clear hTq c0 c1 c2 c3 hS1 hG1
       obtain⟨c0,c1,c2,c3⟩:=hT1.box.cells
       go_wp2_with fail
       refine (Zbk xo (px+1) xc yo (py+1) yc C1 ko kc u1 px py (by omega) (by omega) hxk hyk hkk).mono ?_
       rintro e u2 ⟨rfl,hB2⟩
       have hT2:=hT1.low hB2
       clear hT1 c0 c1 c2 c3 hB2
       obtain⟨c0,c1,c2,c3⟩:=hT2.box.cells
       have f0:=hT2.box.frozen
       have hT3:=hT2.put hgw (hT2.pz.to (i:=px) (j:=py) (by omega) (by omega))
       unfold pzV
       go_wp2
       go_roundw
       case rel=>exact⟨A1+px,C1+py,_,_,_,_,_,_,_,_,_,hT3,HV2⟩
       case measure =>
        refine Nat.lt_of_le_of_lt (Nat.le_of_eq (congrArg (fun o=>lenOf (Option.getD o undef)) hT3.box.cells.1)) ?_
        rw[cw]
        simp[lenOf]
      | false =>
       have hh:=of_decide_eq_false HRr.out
       have hz:tb x y A1 b' C1 d'=0:=by rw[tb,if_neg hh]
       obtain⟨q1,q2,q3⟩:=HV.out
       rw[hz] at q1 q2 q3
       have HQ:Hid (K2=wrk KF (bp b d m)∧b'=b-m∧d'=d-m):=⟨q3,by omega,by omega⟩
       clear hh hz q1 q2 q3 HV HRr cw
       have f1:=hTz.res.frozen
       obtain⟨e0,e1,e2,e3⟩:=hTz.res.cells
       have s4:=hTz.res.put (.slice xo nx xc) (.slice yo ny yc) (.int .i64 (C1:Int)) (.slice ko nx kc)
       have hg1:=hTz.ls.lt
       have hl1:=hTz.ls.low.size
       have hs1:=hTz.gr.size
       have hlt:=hTz.res.lt
       have hL4:=ZoH (ZoH (ZoH (ZoH hTz.ls (g:=w.heap.size+1) (by omega) (by omega) 0 (.slice xo nx xc)) (g:=w.heap.size+1) (by omega) (by omega) 1 (.slice yo ny yc)) (g:=w.heap.size+1) (by omega) (by omega) 2 (.int .i64 (C1:Int))) (g:=w.heap.size+1) (by omega) (by omega) 3 (.slice ko nx kc)
       have hG4:=ZjV (ZjV (ZjV (ZjV hTz.gr (B:=w.heap.size+1) (by omega) 0 (.slice xo nx xc)) (B:=w.heap.size+1) (by omega) 1 (.slice yo ny yc)) (B:=w.heap.size+1) (by omega) 2 (.int .i64 (C1:Int))) (B:=w.heap.size+1) (by omega) 3 (.slice ko nx kc)
       have hpz:=hTz.pz
       go_wp2
       refine bodyPost_ret (v:=.agg #[.slice xo nx xc,.slice yo ny yc,.int .i64 (C1:Int),.slice ko nx kc]) (results_cell_row rfl _ _ (w.heap.size+1) 181 #[.slice xo nx xc,.slice yo ny yc,.int .i64 (C1:Int),.slice ko nx kc] (0,0) _ rfl s4 Tryz.underlying181 rfl (by kernel_rfl)) rfl ⟨k,m,xo,nx,xc,yo,ny,yc,ko,kc,HFin.out.1,HFin.out.2.1,?_,?_,?_,hG4⟩
       ·rw[← HFin.out.2.2.2.1]
       ·rw[← HFin.out.2.2.1,← HFin.out.2.2.2.1,← HQ.out.2.1,← HQ.out.2.2]
        exact hpz
       ·rw[← HFin.out.2.2.2.2,← HQ.out.1]
        exact hL4
end

section
open Go.RowKit
theorem ZaI (x:List Int) (W0 w:World) (g B:Nat) (K Z:List Int) (a c:Nat) (xo:Option Addr) (nx xc:Nat) (yo:Option Addr) (ny yc:Nat) (ko:Option Addr) (kc:Nat) (hat:0<nx→ko=some ⟨g,a,none⟩) (hnx:a+nx≤x.length) (hny:c+ny≤4096) (hxl:x.length≤4096) (zo:Option Addr) (zc:Nat) (hZl:Z.length=nx) (hO0:w.ownsRow B 3 1 (.slice zo nx zc) nx (icells Z)) (hgB:g<B) (hV:Vk 0 ny Z) (hS:Ls W0 g x.length K w) (KF:List Int) (hKF:Hid (wrk K (lp a c Z)=KF)) :
  Calls Tryz.prog 107 #[.agg #[.slice xo nx xc,.slice yo ny yc,.int .i64 (c:Int),.slice ko nx kc],.slice zo nx zc] w fun e w'=>e=.returned (.tuple #[])∧Ls W0 g x.length KF w'∧w.grownBy w' (some g):=by
 have hgw:=hS.lt.2
 have HZL:Hid (Z.length=nx):=hZl
 have HV:Hid (Vk 0 ny Z):=hV
 have hB0:=(Below.refl w.heap.size w).alloc (Nat.le_refl _) (.cells #[.slice xo nx xc,.slice yo ny yc,.int .i64 c,.slice ko nx kc] 181)
 have hQ2:=Qbx.new w (.slice xo nx xc) (.slice yo ny yc) (.int .i64 c) (.slice ko nx kc)
 have hS2:=hS.keep hB0
 have hG2:=Zow hB0 (some g)
 have hO:=Zrx hO0 hB0
 clear hS hB0 hO0 hZl hV
 go_enter Tryz.func107,Tryz.ntmps107
 go_wp2
 go_loopw [8] (fun iv wr=>∃ (i:Nat) (K2:List Int),i≤nx∧iv=.int .i64 i∧Ls W0 g x.length K2 wr∧w.grownBy wr (some g)∧Qbx wr w.heap.size (.slice xo nx xc) (.slice yo ny yc) (.int .i64 c) (.slice ko nx kc)∧wr.ownsRow B 3 1 (.slice zo nx zc) nx (icells Z)∧Hid (wrk K2 (lp ((a:Int)+i) c (Z.drop i))=KF)) (fun iv _=>nx-(intOf iv).toNat)
 case atStart=>exact⟨0,K,Nat.zero_le _,rfl,hS2,hG2,hQ2,hO,by simpa using hKF⟩
 case round =>
  clear hS2 hG2 hQ2 hO hKF
  obtain⟨i,K2,hi,rfl,hS,hG,hQ,hO,HW⟩:=hrel
  by_cases hlt:i<nx
  ·have hiZ:i<Z.length:=by have:=HZL.out;omega
   obtain⟨zb,zf,zcc,hze,_,hcz⟩:=Holds.at (holds_of hO) (by rw[icells_length];omega)
   cases hze
   have z0:=hcz i (by rw[icells_length];omega)
   obtain⟨j,hj⟩:∃ j,Z[i]=j:=⟨_,rfl⟩
   have z1:wr.cell? ⟨zb,zf+i,none⟩=some (.int .i64 j):=by rw[z0];simp[icells,hj]
   have hjv:=(HV.out.each (Int.le_refl _)) j (by rw[← hj];exact List.getElem_mem _)
   have hjl:=HV.out.lt j (by rw[← hj];exact List.getElem_mem _)
   have HW2:Hid (wrk K2 ((if j=-1 then [] else [⟨(a:Int)+i,c+j⟩])++lp ((a:Int)+i+1) c (Z.drop (i+1)))=KF):=(by
    show _=_
    have:=HW.out
    rw[List.drop_eq_getElem_cons hiZ,lp,hj] at this
    exact this)
   clear z0 hcz hj HW
   have i1:0≤(i:Int):=by omega
   have i2:(i:Int)<(nx:Int):=by omega
   by_cases hj1:j=-1
   ·have e1:(j != -1)=false:=by simp[hj1]
    have HW3:Hid (wrk K2 (lp ((a:Int)+((i+1:Nat):Int)) c (Z.drop (i+1)))=KF):=(by
     show _=_
     rw[← HW2.out,if_pos hj1,List.nil_append,show (a:Int)+((i+1:Nat):Int)=(a:Int)+i+1 by omega])
    clear HW2 hj1 hjv hjl
    go_wp2
    go_roundw
    case rel=>exact⟨i+1,K2,by omega,by go_num,hS,hG,hQ,hO,HW3⟩
    case measure=>simp[intOf];omega
   ·have e1:(j != -1)=true:=by simp[hj1]
    obtain⟨q,rfl⟩:∃ q:Nat,j=q:=⟨j.toNat,by omega⟩
    have hqn:q<ny:=by omega
    have HW3:Hid (wrk (wrk K2 (fp (a+i) (c+q) 1)) (lp ((a:Int)+((i+1:Nat):Int)) c (Z.drop (i+1)))=KF):=(by
     show _=_
     rw[← HW2.out,if_neg hj1,← ZBJ,show (a:Int)+((i+1:Nat):Int)=(a:Int)+i+1 by omega]
     rfl)
    clear HW2 hj1 hjv hjl
    obtain⟨c0,c1,c2,c3⟩:=hQ.cells
    go_wp2_with fail
    refine (ZaM K2 xo nx xc yo ny yc a c ko kc wr i q hS hat hnx (by omega) (by omega) (by omega)).mono ?_
    rintro e u1 ⟨rfl,hS1,hG1⟩
    have hQ1:=hQ.keep hG1 (by simp;omega)
    have hO1:=Zll hO hG1 hgB
    have hG2:=hG.trans hG1
    clear c0 c1 c2 c3 hS hG hQ hO hG1
    go_wp2
    go_roundw
    case rel=>exact⟨i+1,_,by omega,by go_num,hS1,hG2,hQ1,hO1,HW3⟩
    case measure=>simp[intOf];omega
  ·obtain rfl:i=nx:=by omega
   have e:K2=KF:=by
    have:=HW.out
    rw[List.drop_of_length_le (by have:=HZL.out;omega)] at this
    exact this
   subst e
   go_wp2
   go_end0
   exact⟨rfl,hS,hG⟩
theorem ZaK (x y:List Int) (W0 w:World) (g:Nat) (K:List Int) (a b c d:Nat) (xo:Option Addr) (nx xc:Nat) (yo:Option Addr) (ny yc:Nat) (ko:Option Addr) (kc:Nat) (hp:Pz W0 g x y a b c d xo nx xc yo ny yc ko kc) (hxl:x.length≤4096) (hyl:y.length≤4096) (hS:Ls W0 g x.length K w) (KF:List Int) (hKF:Hid (wrk K (lp a c (kp 0 (sub x a b) (sub y c d)))=KF)) :
  Calls Tryz.prog 100 #[.agg #[.slice xo nx xc,.slice yo ny yc,.int .i64 (c:Int),.slice ko nx kc]] w fun e w'=>e=.returned (.tuple #[])∧Ls W0 g x.length KF w'∧w.grownBy w' (some g):=by
 have hgw:=hS.lt.2
 have hlow:=hS.low
 obtain⟨X,hX⟩:∃ X,sub x a b=X:=⟨_,rfl⟩
 obtain⟨Y,hY⟩:∃ Y,sub y c d=Y:=⟨_,rfl⟩
 obtain⟨e1,e2,e3,e4,hx,hy,hk,hat⟩:=hp
 have hXl:X.length=nx:=by rw[← hX,Zzm x a b e3];omega
 have hYl:Y.length=ny:=by rw[← hY,Zzm y c d e4];omega
 rw[hX] at hx hKF
 rw[hY] at hy hKF
 obtain⟨Z,hZ⟩:∃ Z,kp 0 X Y=Z:=⟨_,rfl⟩
 have hZl:Z.length=nx:=by rw[← hZ,ZmV,hXl]
 have hV:Vk 0 Y.length Z:=by
  have:=Znc 0 X Y (Int.le_refl _)
  rw[hZ,Int.zero_add] at this
  exact this
 obtain⟨S,hS0⟩:∃ S,mkL Z Y.length=S:=⟨_,rfl⟩
 obtain⟨hSc,hkm,hlen⟩:=ZmC hV (by omega) (by omega) (by omega)
 rw[hS0] at hSc hkm hlen
 have HS0:Hid (mkL (kp 0 X Y) Y.length=S):=(by show _=_;rw[hZ,hS0])
 rw[hZl,hYl] at hSc hkm hlen
 rw[hYl] at hV
 rw[hZ] at hKF
 have HKM:Hid (keepL S nx ny=Z):=hkm
 have hSl:S.length≤1048576:=by omega
 have HZL:Hid (Z.length=nx):=hZl
 have HV:Hid (Vk 0 ny Z):=hV
 have HE:Hid (b=a+nx∧d=c+ny∧b≤x.length∧d≤y.length∧X.length=nx∧Y.length=ny):=⟨e1,e2,e3,e4,hXl,hYl⟩
 have hnx:a+nx≤x.length:=by omega
 have hny:c+ny≤y.length:=by omega
 have hx0:HI (w.alloc (.cells #[.slice xo nx xc,.slice yo ny yc,.int .i64 c,.slice ko nx kc] 181)) (.slice xo nx xc) X:=(by
  unfold HI
  rw[hXl]
  exact Holds.keep hx (fun q hq=>((hlow.alloc hlow.size _).block q hq)))
 have hy0:HI (w.alloc (.cells #[.slice xo nx xc,.slice yo ny yc,.int .i64 c,.slice ko nx kc] 181)) (.slice yo ny yc) Y:=(by
  unfold HI
  rw[hYl]
  exact Holds.keep hy (fun q hq=>((hlow.alloc hlow.size _).block q hq)))
 have hQ0:=Qbx.new w (.slice xo nx xc) (.slice yo ny yc) (.int .i64 c) (.slice ko nx kc)
 have hB0:=(Below.refl w.heap.size w).alloc (Nat.le_refl _) (.cells #[.slice xo nx xc,.slice yo ny yc,.int .i64 c,.slice ko nx kc] 181)
 clear hX hY hZ hS0 hkm hlen hZl hV hXl hYl e1 e2 hlow
 go_enter Tryz.func100,Tryz.ntmps100
 go_wp2_with fail
 refine (Zaq X Y _ _ _ hx0 hy0 (by have:=HE.out;omega) (by have:=HE.out;omega) S HS0).mono ?_
 rintro e w1 ⟨v1,rfl,hv1,hB1⟩
 obtain⟨so,sc,rfl⟩:=Holds.form hv1
 have hQ1:=hQ0.low hB1
 obtain⟨c0,c1,c2,c3⟩:=hQ1.cells
 have hBw1:Below w.heap.size w w1:=hB0.trans (hB1.mono (by simp))
 clear hQ0 hB1 hB0 hx0 hy0
 go_wp2_with fail
 refine (ZaQ S nx ny _ w1 hv1 hSc (by omega) (by omega) hSl).mono ?_
 rintro e W1 ⟨v2,B,rfl,hBB,hO,hB2⟩
 rw[HKM.out] at hO
 obtain⟨zo,zc,rfl⟩:=(holds_of hO).form
 rw[HZL.out]
 rw[HZL.out] at hO
 have hQ2:=hQ1.low hB2
 have hBW:Below w.heap.size w W1:=hBw1.trans (hB2.mono hBw1.size)
 have hS2:=hS.keep hBW
 have hG2:=Zow hBW (some g)
 have hgB:g<B:=by have:=hBw1.size;omega
 have hnz:c+ny≤4096:=by omega
 obtain⟨q0,q1,q2,q3⟩:=hQ2.cells
 clear c0 c1 c2 c3 hQ1 hBw1 hB2 hBW hBB hS hv1 hSc hSl
 go_wp2_with fail
 refine (ZaI x W0 W1 g B K Z a c xo nx xc yo ny yc ko kc hat hnx hnz hxl zo zc HZL.out hO hgB HV.out hS2 KF hKF).mono ?_
 rintro e u1 ⟨rfl,hS3,hG3⟩
 have hG4:=hG2.trans hG3
 go_wp2
 go_end0
 exact⟨rfl,hS3,hG4⟩
end

section
open Go.RowKit
section
variable {W0:World} {g:Nat} {x y:List Int} {a b c d:Nat} {xo:Option Addr} {nx xc:Nat} {yo:Option Addr} {ny yc:Nat} {ko:Option Addr} {kc:Nat}
theorem Zbl (hp:Pz W0 g x y a b c d xo nx xc yo ny yc ko kc) (i j b2 d2:Nat) (hi:i≤nx) (hj:j≤ny) (hb:a+i=b2) (hd:c+j=d2) (W u:World) (hL:Low W u) :
  Calls Tryz.prog 101 #[.agg #[.slice xo nx xc,.slice yo ny yc,.int .i64 (c:Int),.slice ko nx kc],.int .i64 (i:Int),.int .i64 (j:Int)] u fun e w'=>∃ xo' nx' xc' yo' ny' yc' ko' kc',e=.returned (.agg #[.slice xo' nx' xc',.slice yo' ny' yc',.int .i64 (c:Int),.slice ko' nx' kc'])∧Pz W0 g x y a b2 c d2 xo' nx' xc' yo' ny' yc' ko' kc'∧Low W w':=by
 refine (Zbk xo nx xc yo ny yc c ko kc u i j hi hj (Zlg hp.hx) (Zlg hp.hy) hp.hk).mono ?_
 rintro e w' ⟨rfl,hB⟩
 subst hb hd
 exact⟨_,_,_,_,_,_,_,_,rfl,hp.to hi hj,Below.trans hL (hB.mono (Below.size hL))⟩
theorem Zaz (hp:Pz W0 g x y a b c d xo nx xc yo ny yc ko kc) (hyl:y.length≤4096) (i j a2 c2:Nat) (hi:a2≤b) (hj:c2≤d) (ha:a+i=a2) (hc:c+j=c2) (W u:World) (hL:Low W u) :
  Calls Tryz.prog 102 #[.agg #[.slice xo nx xc,.slice yo ny yc,.int .i64 (c:Int),.slice ko nx kc],.int .i64 (i:Int),.int .i64 (j:Int)] u fun e w'=>∃ xo' nx' xc' yo' ny' yc' ko' kc',e=.returned (.agg #[.slice xo' nx' xc',.slice yo' ny' yc',.int .i64 (c2:Int),.slice ko' nx' kc'])∧Pz W0 g x y a2 b c2 d xo' nx' xc' yo' ny' yc' ko' kc'∧Low W w':=by
 have e1:=hp.eb
 have e2:=hp.ed
 have e3:=hp.dy
 refine (Zay xo nx xc yo ny yc c ko kc u i j (by omega) (by omega) (Zlg hp.hx) (Zlg hp.hy) hp.hk (by omega)).mono ?_
 rintro e w' ⟨rfl,hB⟩
 subst ha hc
 exact⟨_,_,_,_,_,_,_,_,rfl,hp.from (by omega) (by omega),Below.trans hL (hB.mono (Below.size hL))⟩
theorem ZAC (hp:Pz W0 g x y a b c d xo nx xc yo ny yc ko kc) (i j b2 d2:Nat) (hi:i≤nx) (hj:j≤ny) (hb:a+i=b2) (hd:c+j=d2) (W u:World) (hL:Low W u) :
  Calls Tryz.prog 101 (#[.agg #[.slice xo nx xc,.slice yo ny yc,.int .i64 (c:Int),.slice ko nx kc],.int .i64 (i:Int),.int .i64 (j:Int)]++#[]) u fun e w'=>∃ v,e=.returned v∧W.grownBy w' (some g)∧∃ xo' nx' xc' yo' ny' yc' ko' kc',v=.agg #[.slice xo' nx' xc',.slice yo' ny' yc',.int .i64 (c:Int),.slice ko' nx' kc']∧Pz W0 g x y a b2 c d2 xo' nx' xc' yo' ny' yc' ko' kc'∧Low W w':=by
 refine (Zbl hp i j b2 d2 hi hj hb hd W u hL).mono ?_
 rintro e w' ⟨x1,x2,x3,x4,x5,x6,x7,x8,rfl,h1,h2⟩
 exact⟨_,rfl,Zow h2 _,x1,x2,x3,x4,x5,x6,x7,x8,rfl,h1,h2⟩
theorem Zjo (hp:Pz W0 g x y a b c d xo nx xc yo ny yc ko kc) (hyl:y.length≤4096) (i j a2 c2:Nat) (hi:a2≤b) (hj:c2≤d) (ha:a+i=a2) (hc:c+j=c2) (W u:World) (hL:Low W u) :
  Calls Tryz.prog 102 (#[.agg #[.slice xo nx xc,.slice yo ny yc,.int .i64 (c:Int),.slice ko nx kc],.int .i64 (i:Int),.int .i64 (j:Int)]++#[]) u fun e w'=>∃ v,e=.returned v∧W.grownBy w' (some g)∧∃ xo' nx' xc' yo' ny' yc' ko' kc',v=.agg #[.slice xo' nx' xc',.slice yo' ny' yc',.int .i64 (c2:Int),.slice ko' nx' kc']∧Pz W0 g x y a2 b c2 d xo' nx' xc' yo' ny' yc' ko' kc'∧Low W w':=by
 refine (Zaz hp hyl i j a2 c2 hi hj ha hc W u hL).mono ?_
 rintro e w' ⟨x1,x2,x3,x4,x5,x6,x7,x8,rfl,h1,h2⟩
 exact⟨_,rfl,Zow h2 _,x1,x2,x3,x4,x5,x6,x7,x8,rfl,h1,h2⟩
theorem Zdu {P:Program} {F:Nat} {args:Array Value} {W u:World} {K:List Int} {N:Nat} (hL:Low W u) (h:Calls P F args u fun e w'=>e=.returned (.tuple #[])∧Ls W0 g N K w'∧u.grownBy w' (some g)) :
  Calls P F args u fun e w'=>∃ v,e=.returned v∧W.grownBy w' (some g)∧(v=.tuple #[]∧Ls W0 g N K w'):=by
 refine h.mono ?_
 rintro e w' ⟨rfl,h1,h2⟩
 exact⟨_,rfl,(Zow hL (some g)).trans h2,rfl,h1⟩
end
end

section
open Go.RowKit
theorem ZcL (a b:Int) (l:List Rn):(betw a b l).length≤l.length:=by
 induction l generalizing a b with
 | nil=>simp[betw]
 | cons r l ih =>
  rw[betw]
  have:=ih (r.a+r.n) (r.b+r.n)
  split<;>simp<;>omega
theorem Zpy (K:List Int) (m:Int):(mkL K m).length≤K.length+1:=by
 unfold mkL
 have h1:=ZcL 0 0 (keptR 0 K++[⟨(K.length:Int),m,0⟩])
 have h2:=ZmK 0 K
 rw[List.length_append,List.length_singleton] at h1
 omega
theorem ZrD (x y:List Int) (vx vy:Value) (w:World) (hx:HI w vx x) (hy:HI w vy y) (hxl:x.length≤4096) (hyl:y.length≤4096) (F:Nat) (cap:Array Value) (eF:∀ args w,(callFunc F args).run Tryz.prog w=.ok (.enter F args) w) (KF:List Int) (hK:Hid (Kpt x y KF))
  (hf:Hid (∀ (u:World) (g:Nat) (xo:Option Addr) (xc:Nat) (yo:Option Addr) (yc:Nat),Ls w g x.length (List.replicate x.length (-1)) u→Pz w g x y 0 x.length 0 y.length xo x.length xc yo y.length yc (some ⟨g,0,none⟩) x.length→Calls Tryz.prog F (#[.agg #[.slice xo x.length xc,.slice yo y.length yc,.int .i64 0,.slice (some ⟨g,0,none⟩) x.length x.length]]++cap) u fun e w'=>e=.returned (.tuple #[])∧Ls w g x.length KF w'∧u.grownBy w' (some g))) (L:List Ch) (hL:Hid (mkL KF y.length=L)) :
  Calls Tryz.prog 104 #[vx,vy,.func (.func F) #[] cap] w fun e w'=>∃ v',e=.returned (.tuple #[v',.int .i64 0])∧HCh w' v' L∧Below w.heap.size w w':=by
 obtain⟨xo,xc,rfl⟩:=Holds.form hx
 obtain⟨yo,yc,rfl⟩:=Holds.form hy
 have e1:decide ((4096:Int)<(x.length:Int))=false:=decide_eq_false (by omega)
 have e2:decide ((4096:Int)<(y.length:Int))=false:=decide_eq_false (by omega)
 go_enter Tryz.func104,Tryz.ntmps104
 go_wp2_with fail
 have hB0:Below w.heap.size w (w.alloc (Obj.cells #[Value.int IntKind.i64 (-1)] 3)):=(Below.refl _ w).alloc (Nat.le_refl _) _
 refine (ZaW x.length (by omega) _ _ (show HI _ _ [-1] from Zqa w _ _ _ _ (by decide))).mono ?_
 rintro e w1 ⟨g,rfl,hO1,hB1⟩
 have hB01:=hB0.trans (hB1.mono hB0.size)
 have hO1':w1.ownsRow w.heap.size 3 1 (.slice (some ⟨g,0,none⟩) x.length x.length) x.length (icells (List.replicate x.length (-1))):=by
  refine⟨hO1.1,?_⟩
  rcases hO1.2 with h | ⟨g',cap,cur,q1,q2,q3⟩
  ·exact .inl h
  ·exact .inr ⟨g',cap,cur,q1,Nat.le_trans (by simp) q2,q3⟩
 have hp:Pz w g x y 0 x.length 0 y.length xo x.length xc yo y.length yc (some ⟨g,0,none⟩) x.length:=⟨by omega,by omega,Nat.le_refl _,Nat.le_refl _,by rw[Zzi];exact hx,by rw[Zzi];exact hy,Nat.le_refl _,fun _=>rfl⟩
 have hc:=hf.out w1 g xo xc yo yc ⟨hB01,hO1'⟩ hp
 clear hB0 hB1 hO1 hO1'
 go_wp2_with (first | (go_at_fn F;refine hc.mono ?_;rintro e w2 ⟨rfl,hS2,hG2⟩) | fail)
 have hKl:=hK.out.len
 have hv2:HI w2 (.slice (some ⟨g,0,none⟩) x.length x.length) KF:=by
  unfold HI
  rw[hKl]
  exact holds_of hS2.own
 refine (ZaS KF y.length L _ w2 hv2 (by omega) hK.out.vk (by omega) (by omega) hL).mono ?_
 rintro e w3 ⟨v3,rfl,hv3,hB3⟩
 have hB:=hS2.low.trans (hB3.mono hS2.low.size)
 clear hc hKl hv2
 go_wp2
 go_ret2
 exact⟨_,rfl,hv3,hB⟩
end

section
open Go.RowKit
def prV (p:Pr):Value:=.agg #[.int .i64 p.X,.int .i64 p.Y]
def prC (p:Pr):List Value:=[.int .i64 p.X,.int .i64 p.Y]
def prcells (l:List Pr):List Value:=l.flatMap prC
theorem infoPr:(Tryz.prog.info? 187).map (fun i=>(i.zero,i.size,i.bytes))=some (some (.agg #[.int .i64 0,.int .i64 0]),2,16):=by kernel_rfl
theorem Zte (l:List Pr):(prcells l).length=l.length * 2:=by
 induction l with
 | nil=>rfl
 | cons p t ih=>simp only[prcells,List.flatMap_cons,List.length_append,List.length_cons,prC,List.length_nil] at ih ⊢;omega
theorem Ztb (a b:List Pr):prcells (a++b)=prcells a++prcells b:=by simp[prcells]
theorem Ztf (l:List Pr):∀ u∈prcells l,u.oneCell'=true:=by
 intro u hu
 simp only[prcells,List.mem_flatMap] at hu
 obtain⟨p,_,hp⟩:=hu
 simp[prC] at hp
 rcases hp with rfl | rfl<;>rfl
theorem Ztc (l:List Pr) (k:Nat) (hk:k<l.length):(prcells l)[2 * k]?=some (.int .i64 l[k].X)∧(prcells l)[2 * k+1]?=some (.int .i64 l[k].Y):=by
 induction l generalizing k with
 | nil=>simp at hk
 | cons p t ih =>
  have e:prcells (p::t)=.int .i64 p.X::.int .i64 p.Y::prcells t:=rfl
  cases k with
  | zero=>rw[e];exact⟨rfl,rfl⟩
  | succ k =>
   have:=ih k (by simpa using hk)
   rw[e,show 2 * (k+1)=2 * k+1+1 by omega]
   simpa using this
theorem Ztg (l:List Pr) (k:Nat):prcells (l.take k)=(prcells l).take (2 * k):=by
 induction l generalizing k with
 | nil=>simp[prcells]
 | cons p t ih =>
  cases k with
  | zero=>simp[prcells]
  | succ k =>
   have e:prcells (p::t)=.int .i64 p.X::.int .i64 p.Y::prcells t:=rfl
   have e2:prcells ((p::t).take (k+1))=.int .i64 p.X::.int .i64 p.Y::prcells (t.take k):=rfl
   rw[e,e2,ih,show 2 * (k+1)=2 * k+1+1 by omega]
   rfl
theorem Ztd (l:List Pr) (k:Nat):prcells (l.drop k)=(prcells l).drop (2 * k):=by
 induction l generalizing k with
 | nil=>simp[prcells]
 | cons p t ih =>
  cases k with
  | zero=>simp
  | succ k =>
   have e:prcells (p::t)=.int .i64 p.X::.int .i64 p.Y::prcells t:=rfl
   rw[e,List.drop_succ_cons,ih,show 2 * (k+1)=2 * k+1+1 by omega]
   rfl
def HPr (w:World) (v:Value) (l:List Pr):Prop:=Holds w v l.length (prcells l)
theorem HPr.keep {w w':World} {v:Value} {l:List Pr} (h:HPr w v l) {N:Nat} (hk:Below N w w') (hN:w.heap.size≤N):HPr w' v l:=Holds.keep h fun k hk'=>hk.block k (by omega)
theorem HPr.at {w:World} {ao:Option Addr} {n c:Nat} {l:List Pr} (h:HPr w (.slice ao n c) l) (h0:0<l.length):∃ b off,ao=some ⟨b,off,none⟩∧b<w.heap.size ∧
  ∀ k (hk:k<l.length),w.cell? ⟨b,off+k * 2,none⟩=some (.int .i64 l[k].X)∧w.cell? ⟨b,off+k * 2+1,none⟩=some (.int .i64 l[k].Y):=by
 obtain⟨b,off,c',hv,hb,hc⟩:=Holds.at h (by rw[Zte];omega)
 cases hv
 refine⟨b,off,rfl,hb,fun k hk=>?_⟩
 obtain⟨h1,h2⟩:=Ztc l k hk
 obtain⟨l1,e1⟩:=List.getElem?_eq_some_iff.1 h1
 obtain⟨l2,e2⟩:=List.getElem?_eq_some_iff.1 h2
 have g1:=hc _ l1
 have g2:=hc _ l2
 rw[e1] at g1
 rw[e2] at g2
 rw[show k * 2=2 * k by omega,Nat.add_assoc]
 exact⟨g1,g2⟩
end

section
open Go.RowKit
def tm (c:Int):List Int→Nat
 | []=>0
 | a::x=>(if a=c then 1 else 0)+tm c x
def ps (c i:Int):Int→List Int→List Pr
 | _,[]=>[]
 | j,b::y=>(if b=c then [⟨i,j⟩] else [])++ps c i (j+1) y
def uq (x0 y0:List Int):Int→List Int→List Pr
 | _,[]=>[]
 | i,a::x=>(if tm a x0=1∧tm a y0=1 then ps a i 0 y0 else [])++uq x0 y0 (i+1) x
def unq (x y:List Int):List Pr:=uq x y 0 x
theorem Ztx (c i j:Int) (y:List Int):(ps c i j y).length=tm c y:=by
 induction y generalizing j with
 | nil=>rfl
 | cons b y ih =>
  rw[ps,tm,List.length_append,ih]
  split<;>simp
theorem ZAO (x0 y0:List Int) (i:Int) (x:List Int):(uq x0 y0 i x).length≤x.length:=by
 induction x generalizing i with
 | nil=>simp[uq]
 | cons a x ih =>
  rw[uq,List.length_append,List.length_cons]
  have:=ih (i+1)
  split
  ·rename_i h
   rw[Ztx]
   omega
  ·simp;omega
end

section
theorem Zsi (left:Nat) (last:Option Pr) (l:List Pr) (ns:List Nat):∀ p∈pick left last l ns,p∈l:=by
 induction l generalizing left last ns with
 | nil=>intro p hp;simp[pick] at hp
 | cons a l ih =>
  intro p hp
  cases ns with
  | nil=>simp[pick] at hp
  | cons n ns =>
   rw[pick] at hp
   split at hp
   ·rcases List.mem_cons.1 hp with rfl | hp
    ·exact List.mem_cons_self ..
    ·exact List.mem_cons_of_mem _ (ih _ _ _ p hp)
   ·exact List.mem_cons_of_mem _ (ih _ _ _ p hp)
theorem Zsn (left:Nat) (last:Option Pr) (l:List Pr) (ns:List Nat):(pick left last l ns).Pairwise (fun p q=>ab q p)∧∀ q,last=some q→∀ p∈pick left last l ns,ab p q:=by
 induction l generalizing left last ns with
 | nil=>exact⟨by simp[pick],fun _ _ p hp=>by simp[pick] at hp⟩
 | cons a l ih =>
  cases ns with
  | nil=>exact⟨by simp[pick],fun _ _ p hp=>by simp[pick] at hp⟩
  | cons n ns =>
   rw[pick]
   split
   ·rename_i h
    obtain⟨h1,h2⟩:=ih (left-1) (some a) ns
    refine⟨List.Pairwise.cons (fun q hq=>h2 a rfl q hq) h1,fun q hq p hp=>?_⟩
    rcases List.mem_cons.1 hp with rfl | hp
    ·exact h.2 q hq
    ·exact Zbm (h2 a rfl p hp) (h.2 q hq)
   ·exact ih left last ns
theorem Zob (l:List Pr):∀ p∈lng l,p∈l:=Zsi _ _ _ _
theorem Zoc (l:List Pr):(lng l).Pairwise (fun p q=>ab q p):=(Zsn _ _ _ _).1
theorem Zty {c i:Int} (y:List Int):∀ (j:Int) (p:Pr),p∈ps c i j y→p.X=i∧j≤p.Y∧p.Y<j+y.length:=by
 induction y with
 | nil=>intro j p hp;simp[ps] at hp
 | cons b y ih =>
  intro j p hp
  rw[ps,List.mem_append] at hp
  rcases hp with hp | hp
  ·split at hp
   ·simp at hp
    subst hp
    exact⟨rfl,Int.le_refl _,by simp;omega⟩
   ·simp at hp
  ·have:=ih (j+1) p hp
   simp only[List.length_cons]
   omega
theorem ZAP (x0 y0:List Int) (x:List Int):∀ (i:Int) (p:Pr),p∈uq x0 y0 i x→i≤p.X∧p.X<i+x.length∧0≤p.Y∧p.Y<y0.length:=by
 induction x with
 | nil=>intro i p hp;simp[uq] at hp
 | cons a x ih =>
  intro i p hp
  rw[uq,List.mem_append] at hp
  rcases hp with hp | hp
  ·split at hp
   ·have:=Zty y0 0 p hp
    simp only[List.length_cons]
    omega
   ·simp at hp
  ·have:=ih (i+1) p hp
   simp only[List.length_cons]
   omega
theorem ZoM (x y:List Int) (p:Pr) (hp:p∈lng (unq x y)):0≤p.X∧p.X<x.length∧0≤p.Y∧p.Y<y.length:=by
 have:=ZAP x y x 0 p (Zob _ p hp)
 omega
def gos (rec:Nat→Nat→Nat→Nat→List Pr) (A C b d:Nat):Nat→Nat→List Pr→List Pr
 | a,c,[]=>rec a b c d
 | a,c,p::L=>rec a (A+p.X.toNat) c (C+p.Y.toNat)++⟨(A+p.X.toNat:Nat),(C+p.Y.toNat:Nat)⟩::gos rec A C b d (A+p.X.toNat+1) (C+p.Y.toNat+1) L
def pmid (x y:List Int) (rec:Nat→Nat→Nat→Nat→List Pr) (a b c d:Nat):List Pr :=
 if lng (unq (sub x a b) (sub y c d))=[] then lp a c (kp 0 (sub x a b) (sub y c d)) else gos rec a c b d a c (lng (unq (sub x a b) (sub y c d)))
theorem Ztw {c i:Int} (y:List Int):∀ (j:Nat) (p:Pr),p∈ps c i j y→y[p.Y.toNat-j]?=some c:=by
 induction y with
 | nil=>intro j p hp;simp[ps] at hp
 | cons b y ih =>
  intro j p hp
  rw[ps,List.mem_append] at hp
  rcases hp with hp | hp
  ·split at hp
   ·rename_i h
    simp at hp
    subst hp
    simp[h]
   ·simp at hp
  ·have h1:=ih (j+1) p (by simpa using hp)
   have h2:=Zty y (j+1:Int) p hp
   rw[show p.Y.toNat-j=(p.Y.toNat-(j+1))+1 by omega]
   simpa using h1
theorem ZAN (x0 y0:List Int) (x:List Int):∀ (i:Nat) (p:Pr),p∈uq x0 y0 i x→x[p.X.toNat-i]?=y0[p.Y.toNat]?:=by
 induction x with
 | nil=>intro i p hp;simp[uq] at hp
 | cons a x ih =>
  intro i p hp
  rw[uq,List.mem_append] at hp
  rcases hp with hp | hp
  ·split at hp
   ·have h1:=Ztw y0 0 p (by simpa using hp)
    have h2:=Zty y0 0 p hp
    simp at h1
    rw[h1,h2.1]
    simp
   ·simp at hp
  ·have h1:=ih (i+1) p (by simpa using hp)
   have h2:=ZAP x0 y0 x (i+1:Int) p hp
   rw[show p.X.toNat-i=(p.X.toNat-(i+1))+1 by omega]
   simpa using h1
theorem Zwh (x y:List Int) (a b c d:Nat) (hb:b≤x.length) (hd:d≤y.length) (p:Pr) (hp:p∈lng (unq (sub x a b) (sub y c d))):0≤p.X∧0≤p.Y∧a≤a+p.X.toNat∧a+p.X.toNat<b∧c≤c+p.Y.toNat∧c+p.Y.toNat<d∧x[a+p.X.toNat]?=y[c+p.Y.toNat]?:=by
 have h:=ZoM _ _ p hp
 have h2:=ZAN _ _ _ 0 p (Zob _ p hp)
 rw[Zzm x a b hb,Zzm y c d hd] at h
 rw[Nat.sub_zero,Zzk x a b _ (by omega),Zzk y c d _ (by omega)] at h2
 refine⟨by omega,by omega,by omega,by omega,by omega,by omega,h2⟩
theorem ZjL (x y:List Int) (rec:Nat→Nat→Nat→Nat→List Pr) (A C b d:Nat) (hrec:∀ a' b' c' d',a'≤b'→b'≤b→c'≤d'→d'≤d→Okp x y a' b' c' d' (rec a' b' c' d')) (L:List Pr) :
  ∀ a c,a≤b→c≤d→(∀ p∈L,0≤p.X∧0≤p.Y∧a≤A+p.X.toNat∧A+p.X.toNat<b∧c≤C+p.Y.toNat∧C+p.Y.toNat<d∧x[A+p.X.toNat]?=y[C+p.Y.toNat]?)→L.Pairwise (fun p q=>ab q p)→Okp x y a b c d (gos rec A C b d a c L):=by
 induction L with
 | nil=>intro a c ha hc _ _;exact hrec a b c d ha (Nat.le_refl _) hc (Nat.le_refl _)
 | cons p L ih =>
  intro a c ha hc hL hR
  rw[gos]
  have hp:=hL p (List.mem_cons_self ..)
  have hR':=List.pairwise_cons.1 hR
  have h1:=hrec a (A+p.X.toNat) c (C+p.Y.toNat) (by omega) (by omega) (by omega) (by omega)
  have h2:=Okp.one hp.2.2.2.2.2.2
  have h3:=ih (A+p.X.toNat+1) (C+p.Y.toNat+1) (by omega) (by omega) (fun q hq=>by
   have e1:=hL q (List.mem_cons_of_mem _ hq)
   have e2:=hR'.1 q hq
   unfold ab at e2
   refine⟨by omega,by omega,by omega,by omega,by omega,by omega,e1.2.2.2.2.2.2⟩) hR'.2
  exact h1.cat (h2.cat h3 (.inl ⟨by omega,by omega⟩) (A:=A+p.X.toNat) (B:=b) (C:=C+p.Y.toNat) (D:=d) ⟨by omega,by omega⟩ ⟨by omega,by omega⟩ ⟨by omega,by omega⟩ ⟨by omega,by omega⟩) (.inl ⟨by omega,by omega⟩) ⟨by omega,by omega⟩ ⟨by omega,by omega⟩ ⟨by omega,by omega⟩ ⟨by omega,by omega⟩
theorem ZsU (x y:List Int):MOk (pmid x y) x y:=by
 intro rec a b c d hab hb hcd hd hrec
 unfold pmid
 split
 ·exact ZnH x y a b c d (by omega) hb (by omega) hd
 ·exact ZjL x y rec a c b d (fun a' b' c' d' h1 h2 h3 h4=>hrec a' b' c' d' h1 (by omega) h3 (by omega)) _ a c (by omega) (by omega) (fun p hp=>Zwh x y a b c d hb hd p hp) (Zoc _)
end

section
structure Gs (rec:Nat→Nat→Nat→Nat→List Pr) (A C b d:Nat) (L:List Pr) (a c:Nat) (K KF:List Int):Prop where
 ab':a≤b
 cd:c≤d
 Aa:A≤a
 Cc:C≤c
 all:∀ p∈L,0≤p.X∧0≤p.Y∧a≤A+p.X.toNat∧A+p.X.toNat<b∧c≤C+p.Y.toNat∧C+p.Y.toNat<d
 up:L.Pairwise (fun p q=>ab q p)
 fin:wrk K (gos rec A C b d a c L)=KF
theorem Gs.start {rec:Nat→Nat→Nat→Nat→List Pr} {x y:List Int} {a b c d:Nat} (hab:a≤b) (hb:b≤x.length) (hcd:c≤d) (hd:d≤y.length) {K KF:List Int} (h:wrk K (gos rec a c b d a c (lng (unq (sub x a b) (sub y c d))))=KF):Gs rec a c b d (lng (unq (sub x a b) (sub y c d))) a c K KF :=
 ⟨hab,hcd,Nat.le_refl _,Nat.le_refl _,fun p hp=>by have:=Zwh x y a b c d hb hd p hp;omega,Zoc _,h⟩
section
variable {rec:Nat→Nat→Nat→Nat→List Pr} {A C b d:Nat} {p:Pr} {L:List Pr} {a c:Nat} {K KF:List Int}
theorem Gs.head (h:Gs rec A C b d (p::L) a c K KF):∃ u v:Nat,p.X=u∧p.Y=v∧a≤A+u∧A+u<b∧c≤C+v∧C+v<d:=by
 have:=h.all p (List.mem_cons_self ..)
 exact⟨p.X.toNat,p.Y.toNat,by omega,by omega,by omega,by omega,by omega,by omega⟩
theorem Gs.step (h:Gs rec A C b d (p::L) a c K KF) {u v:Nat} (hu:p.X=u) (hv:p.Y=v):Gs rec A C b d L (A+u+1) (C+v+1) (wrk (wrk K (rec a (A+u) c (C+v))) (fp (A+u) (C+v) 1)) KF:=by
 have h0:=h.all p (List.mem_cons_self ..)
 have h1:=List.pairwise_cons.1 h.up
 have e1:p.X.toNat=u:=by omega
 have e2:p.Y.toNat=v:=by omega
 refine⟨by omega,by omega,by have:=h.Aa;omega,by have:=h.Cc;omega,fun q hq=>?_,h1.2,?_⟩
 ·have h2:=h.all q (List.mem_cons_of_mem _ hq)
  have h3:=h1.1 q hq
  unfold ab at h3
  omega
 ·rw[← h.fin,gos,e1,e2,← ZBJ,← ZBJ]
  rfl
theorem Gs.end' (h:Gs rec A C b d [] a c K KF):wrk K (rec a b c d)=KF:=h.fin
end
end

end Go.Proofs.YtkiaenncemfkcaaGreatDoor
