/-
  Texts that belong together, joined: PcMath, HiMath, HiRuns, EdOpen, HiMp, PcSl, HiGr, HiCm, HiOd.
-/
import Derived.Test.YtgiojkhmkeocfaaGreatDoorUnedBA5
import Derived.Test.YtgiojkhmkeocfaaGreatDoorRows
import Derived.Test.YtgiojkhmkeocfaaGreatDoorChecked
import Derived.Test.YtgiojkhmkeocfaaGreatDoorUnedBA3
import Derived.ProofKit
import Derived.OpenShut
import Derived.ShutString
import Derived.ChangeOld
import Derived.Below
import Derived.SliceStrings
import Derived.ChangeSlices
import Derived.Deep.Slices
import Derived.Deep.SlicePairs
import Derived.JoinedCond
import Derived.Test.YtgiojkhmkeocfaaGreatDoorUnedBA4
import Derived.Maps.OwnSet
import Derived.Carry
import Derived.Maps.OwnRows
import Derived.Maps.GroupsBeside
import Derived.Deep.CutRange

set_option maxHeartbeats 16000000
set_option maxRecDepth 100000
/- Pieces of two rows of classes, and what of them is kept, whatever an engine does with the middle: plain. -/
namespace Go.Proofs.YtgiojkhmkeocfaaGreatDoor
def sub (x:List Int) (a b:Nat):List Int:=(x.drop a).take (b-a)
theorem sub_length (x:List Int) (a b:Nat) (hb:b≤x.length):(sub x a b).length=b-a:=by
 unfold sub
 rw[List.length_take,List.length_drop]
 omega
def tfN (x y:List Int):Nat→Nat→Nat→Nat
 | 0,_,_=>0
 | n+1,a,c=>if x[a]?=y[c]? then tfN x y n (a+1) (c+1)+1 else 0
def tf (x y:List Int) (a b c d:Nat):Nat:=tfN x y (min (b-a) (d-c)) a c
theorem tf_eq (x y:List Int) (a b c d:Nat):tf x y a b c d=if a<b∧c<d∧x[a]?=y[c]? then tf x y (a+1) b (c+1) d+1 else 0:=by
 unfold tf
 by_cases h:a<b∧c<d
 ·rw[show min (b-a) (d-c)=min (b-(a+1)) (d-(c+1))+1 by omega,tfN]
  by_cases e:x[a]?=y[c]?
  ·rw[if_pos e,if_pos ⟨h.1,h.2,e⟩]
  ·rw[if_neg e,if_neg (fun q=>e q.2.2)]
 ·rw[show min (b-a) (d-c)=0 by omega,tfN,if_neg (fun q=>h ⟨q.1,q.2.1⟩)]
def tb (x y:List Int) (a b c d:Nat):Nat:=if a<b∧c<d∧x[b-1]?=y[d-1]? then tb x y a (b-1) c (d-1)+1 else 0
theorem tf_le (x y:List Int) (a b c d:Nat):tf x y a b c d≤b-a∧tf x y a b c d≤d-c:=by
 induction h:b-a generalizing a c with
 | zero=>rw[tf_eq,if_neg (by omega)];omega
 | succ n ih =>
  rw[tf_eq]
  split
  ·have:=ih (a+1) (c+1) (by omega)
   omega
  ·omega
theorem tb_le (x y:List Int) (a b c d:Nat):tb x y a b c d≤b-a∧tb x y a b c d≤d-c:=by
 induction h:b-a generalizing b d with
 | zero=>rw[tb,if_neg (by omega)];omega
 | succ n ih =>
  rw[tb]
  split
  ·have:=ih (b-1) (d-1) (by omega)
   omega
  ·omega
def fp (a c:Nat):Nat→List Pr
 | 0=>[]
 | k+1=>⟨a,c⟩::fp (a+1) (c+1) k
def bp (b d:Nat):Nat→List Pr
 | 0=>[]
 | k+1=>⟨(b-1:Nat),(d-1:Nat)⟩::bp (b-1) (d-1) k
def Wn (a b c d:Nat) (p:Pr):Prop:=(a:Int)≤p.X∧p.X<b∧(c:Int)≤p.Y∧p.Y<d
theorem bp_wn (b d k:Nat) (hb:k≤b) (hd:k≤d):∀ p∈bp b d k,Wn (b-k) b (d-k) d p:=by
 induction k generalizing b d with
 | zero=>intro p hp;simp[bp] at hp
 | succ k ih =>
  intro p hp
  rw[bp] at hp
  rcases List.mem_cons.1 hp with rfl | hp
  ·unfold Wn
   dsimp only
   omega
  ·have:=ih (b-1) (d-1) (by omega) (by omega) p hp
   unfold Wn at this ⊢
   omega
def lp (a c:Int):List Int→List Pr
 | []=>[]
 | j::K=>(if j=-1 then [] else [⟨a,c+j⟩])++lp (a+1) c K
def ends (x y:List Int) (N:Nat→Nat→Nat→Nat→List Pr) (a b c d:Nat):List Pr :=
 fp a c (tf x y a b c d)++(bp b d (tb x y (a+tf x y a b c d) b (c+tf x y a b c d) d) ++
  (if a+tf x y a b c d<b-tb x y (a+tf x y a b c d) b (c+tf x y a b c d) d∧c+tf x y a b c d<d-tb x y (a+tf x y a b c d) b (c+tf x y a b c d) d then
   N (a+tf x y a b c d) (b-tb x y (a+tf x y a b c d) b (c+tf x y a b c d) d) (c+tf x y a b c d) (d-tb x y (a+tf x y a b c d) b (c+tf x y a b c d) d)
  else []))
def pcs (M:(Nat→Nat→Nat→Nat→List Pr)→Nat→Nat→Nat→Nat→List Pr) (x y:List Int):Nat→Nat→Nat→Nat→Nat→List Pr
 | 0,_,_,_,_=>[]
 | f+1,a,b,c,d=>ends x y (M (pcs M x y f)) a b c d
def wrk (K:List Int) (l:List Pr):List Int:=l.foldl (fun K p=>K.set p.X.toNat p.Y) K
theorem wrk_append (K:List Int) (a b:List Pr):wrk K (a++b)=wrk (wrk K a) b:=by simp[wrk]
theorem wrk_cons (K:List Int) (p:Pr) (b:List Pr):wrk K (p::b)=wrk (K.set p.X.toNat p.Y) b:=rfl
theorem wrk_length (K:List Int) (l:List Pr):(wrk K l).length=K.length:=by
 induction l generalizing K with
 | nil=>rfl
 | cons p l ih=>rw[wrk_cons,ih,List.length_set]
theorem wrk_comm (K:List Int) (l:List Pr) (u:Nat) (v:Int) (h:∀ p∈l,p.X.toNat≠u):wrk (K.set u v) l=(wrk K l).set u v:=by
 induction l generalizing K with
 | nil=>rfl
 | cons p l ih =>
  rw[wrk_cons,wrk_cons,List.set_comm _ _ (fun e=>h p (List.mem_cons_self ..) e.symm),ih _ (fun q hq=>h q (List.mem_cons_of_mem _ hq))]
theorem tf_same (x y:List Int) (a b c d:Nat):∀ i,i<tf x y a b c d→x[a+i]?=y[c+i]?:=by
 induction h:b-a generalizing a c with
 | zero=>intro i hi;rw[tf_eq,if_neg (by omega)] at hi;omega
 | succ n ih =>
  intro i hi
  rw[tf_eq] at hi
  split at hi
  ·rename_i hh
   cases i with
   | zero=>exact hh.2.2
   | succ i =>
    have:=ih (a+1) (c+1) (by omega) i (by omega)
    rw[show a+(i+1)=a+1+i by omega,show c+(i+1)=c+1+i by omega]
    exact this
  ·omega
theorem tb_same (x y:List Int) (a b c d:Nat):∀ i,i<tb x y a b c d→x[b-(i+1)]?=y[d-(i+1)]?:=by
 induction h:b-a generalizing b d with
 | zero=>intro i hi;rw[tb,if_neg (by omega)] at hi;omega
 | succ n ih =>
  intro i hi
  rw[tb] at hi
  split at hi
  ·rename_i hh
   cases i with
   | zero=>exact hh.2.2
   | succ i =>
    have:=ih (b-1) (d-1) (by omega) i (by omega)
    rw[show b-(i+1+1)=b-1-(i+1) by omega,show d-(i+1+1)=d-1-(i+1) by omega]
    exact this
  ·omega
def Ris (l:List Pr):Prop:=∀ p∈l,∀ q∈l,p=q∨ab q p∨ab p q
structure Okp (x y:List Int) (a b c d:Nat) (l:List Pr):Prop where
 wn:∀ p∈l,Wn a b c d p
 ris:Ris l
 eqs:∀ p∈l,x[p.X.toNat]?=y[p.Y.toNat]?
section
variable {x y:List Int}
theorem Okp.nil (a b c d:Nat):Okp x y a b c d []:=⟨fun p hp=>by simp at hp,fun p hp=>by simp at hp,fun p hp=>by simp at hp⟩
theorem Okp.mono {a b c d a' b' c' d':Nat} {l:List Pr} (h:Okp x y a b c d l) (ha:a'≤a) (hb:b≤b') (hc:c'≤c) (hd:d≤d'):Okp x y a' b' c' d' l:=⟨fun p hp=>by have:=h.wn p hp;unfold Wn at this ⊢;omega,h.ris,h.eqs⟩
theorem Okp.one {a c:Nat} (h:x[a]?=y[c]?):Okp x y a (a+1) c (c+1) [⟨a,c⟩]:=⟨fun p hp=>by simp at hp;subst hp;unfold Wn;dsimp only;omega,fun p hp q hq=>by simp at hp hq;subst hp;subst hq;exact .inl rfl,fun p hp=>by simp at hp;subst hp;simpa using h⟩
theorem Okp.cat {a b c d a' b' c' d' A B C D:Nat} {l l':List Pr} (h:Okp x y a b c d l) (h':Okp x y a' b' c' d' l') (hs:(b≤a'∧d≤c')∨(b'≤a∧d'≤c)) (h1:A≤a∧A≤a') (h2:b≤B∧b'≤B) (h3:C≤c∧C≤c') (h4:d≤D∧d'≤D):Okp x y A B C D (l++l'):=by
 refine⟨fun p hp=>?_,fun p hp q hq=>?_,fun p hp=>?_⟩
 ·rcases List.mem_append.1 hp with hp | hp
  ·exact (h.mono h1.1 h2.1 h3.1 h4.1).wn p hp
  ·exact (h'.mono h1.2 h2.2 h3.2 h4.2).wn p hp
 ·rcases List.mem_append.1 hp with hp | hp<;>rcases List.mem_append.1 hq with hq | hq
  ·exact h.ris p hp q hq
  ·have e1:=h.wn p hp
   have e2:=h'.wn q hq
   unfold Wn at e1 e2
   rcases hs with hs | hs
   ·exact .inr (.inl ⟨by omega,by omega⟩)
   ·exact .inr (.inr ⟨by omega,by omega⟩)
  ·have e1:=h'.wn p hp
   have e2:=h.wn q hq
   unfold Wn at e1 e2
   rcases hs with hs | hs
   ·exact .inr (.inr ⟨by omega,by omega⟩)
   ·exact .inr (.inl ⟨by omega,by omega⟩)
  ·exact h'.ris p hp q hq
 ·rcases List.mem_append.1 hp with hp | hp
  ·exact h.eqs p hp
  ·exact h'.eqs p hp
theorem fp_ok (a c k:Nat) (h:∀ i,i<k→x[a+i]?=y[c+i]?):Okp x y a (a+k) c (c+k) (fp a c k):=by
 induction k generalizing a c with
 | zero=>exact Okp.nil _ _ _ _
 | succ k ih=>exact (Okp.one (h 0 (by omega))).cat (ih (a+1) (c+1) (fun i hi=>by have:=h (i+1) (by omega);rw[show a+1+i=a+(i+1) by omega,show c+1+i=c+(i+1) by omega];exact this)) (.inl ⟨by omega,by omega⟩) ⟨by omega,by omega⟩ ⟨by omega,by omega⟩ ⟨by omega,by omega⟩ ⟨by omega,by omega⟩
theorem bp_ok (b d k:Nat) (hb:k≤b) (hd:k≤d) (h:∀ i,i<k→x[b-(i+1)]?=y[d-(i+1)]?):Okp x y (b-k) b (d-k) d (bp b d k):=by
 induction k generalizing b d with
 | zero=>exact Okp.nil _ _ _ _
 | succ k ih =>
  have h0:Okp x y (b-1) (b-1+1) (d-1) (d-1+1) [⟨(b-1:Nat),(d-1:Nat)⟩]:=Okp.one (by simpa using h 0 (by omega))
  exact h0.cat (ih (b-1) (d-1) (by omega) (by omega) (fun i hi=>by have:=h (i+1) (by omega);rw[show b-1-(i+1)=b-(i+1+1) by omega,show d-1-(i+1)=d-(i+1+1) by omega];exact this)) (.inr ⟨by omega,by omega⟩) ⟨by omega,by omega⟩ ⟨by omega,by omega⟩ ⟨by omega,by omega⟩ ⟨by omega,by omega⟩
theorem lp_ok (K:List Int):∀ (a c nx m:Nat),Vk nx m K→(∀ (i q:Nat),K[i]?=some (q:Int)→x[a+i]?=y[c+q]?)→Okp x y a (a+K.length) (c+nx) (c+m) (lp a c K):=by
 induction K with
 | nil=>intro a c nx m _ _;exact Okp.nil _ _ _ _
 | cons z K ih =>
  intro a c nx m h hs
  rw[lp]
  simp only[List.length_cons]
  have hs':∀ (i q:Nat),K[i]?=some (q:Int)→x[a+1+i]?=y[c+q]?:=fun i q hi=>by
   have:=hs (i+1) q (by simpa using hi)
   rw[show a+1+i=a+(i+1) by omega]
   exact this
  rcases h with ⟨hz,h⟩ | ⟨hz,h1,h2,h⟩
  ·rw[if_pos hz,List.nil_append]
   exact (ih (a+1) c nx m h hs').mono (by omega) (by omega) (by omega) (by omega)
  ·rw[if_neg hz]
   obtain⟨j,rfl⟩:∃ j:Nat,z=j:=⟨z.toNat,by omega⟩
   have e1:Okp x y a (a+1) (c+j) (c+j+1) [⟨(a:Int),(c:Int)+(j:Int)⟩]:=by simpa using Okp.one (x:=x) (y:=y) (a:=a) (c:=c+j) (by simpa using hs 0 j (by simp))
   exact e1.cat (ih (a+1) c (j+1) m (by simpa using h) hs') (.inl ⟨by omega,by omega⟩) ⟨by omega,by omega⟩ ⟨by omega,by omega⟩ ⟨by omega,by omega⟩ ⟨by omega,by omega⟩
end
theorem sub_at (x:List Int) (a b i:Nat) (hi:i<b-a):(sub x a b)[i]?=x[a+i]?:=by
 unfold sub
 rw[List.getElem?_take_of_lt hi,List.getElem?_drop]
theorem sub_some {x:List Int} {a b i:Nat} {z:Int} (h:(sub x a b)[i]?=some z):i<b-a∧x[a+i]?=some z:=by
 have h1:=(List.getElem?_eq_some_iff.1 h).1
 unfold sub at h1
 rw[List.length_take] at h1
 exact⟨by omega,by rw[← sub_at x a b i (by omega)];exact h⟩
theorem least_ok (x y:List Int) (a b c d:Nat) (hab:a≤b) (hb:b≤x.length) (hcd:c≤d) (hd:d≤y.length):Okp x y a b c d (lp a c (kp 0 (sub x a b) (sub y c d))):=by
 have h1:=lp_ok (x:=x) (y:=y) (kp 0 (sub x a b) (sub y c d)) a c 0 (d-c) (by
  have:=kp_vk 0 (sub x a b) (sub y c d) (Int.le_refl _)
  rw[sub_length y _ _ (by omega),Int.zero_add] at this
  exact this) (fun i q hq=>by
   obtain⟨_,z,h1,h2⟩:=kp_same 0 _ _ (Int.le_refl _) i q hq (by omega)
   rw[show ((q:Int)-0).toNat=q by omega] at h2
   rw[(sub_some h1).2,(sub_some h2).2])
 rw[kp_length,sub_length x _ _ (by omega)] at h1
 exact h1.mono (Nat.le_refl _) (by omega) (by omega) (by omega)
theorem ends_ok (x y:List Int) (N:Nat→Nat→Nat→Nat→List Pr) (a b c d:Nat) (hab:a≤b) (_:b≤x.length) (hcd:c≤d) (_:d≤y.length) (hN:∀ a' b' c' d',a≤a'→a'<b'→b'≤b→c≤c'→c'<d'→d'≤d→Okp x y a' b' c' d' (N a' b' c' d')):Okp x y a b c d (ends x y N a b c d):=by
 unfold ends
 have hk:=tf_le x y a b c d
 have hks:=tf_same x y a b c d
 generalize tf x y a b c d=k at hk hks ⊢
 have hm:=tb_le x y (a+k) b (c+k) d
 have hms:=tb_same x y (a+k) b (c+k) d
 generalize tb x y (a+k) b (c+k) d=m at hm hms ⊢
 have hmid:Okp x y (a+k) (b-m) (c+k) (d-m) (if a+k<b-m∧c+k<d-m then N (a+k) (b-m) (c+k) (d-m) else []):=by
  split
  ·rename_i h
   exact hN _ _ _ _ (by omega) h.1 (by omega) (by omega) h.2 (by omega)
  ·exact Okp.nil _ _ _ _
 have h1:=fp_ok (x:=x) (y:=y) a c k hks
 have h2:=bp_ok (x:=x) (y:=y) b d m (by omega) (by omega) hms
 exact h1.cat (h2.cat hmid (.inr ⟨by omega,by omega⟩) (A:=a+k) (B:=b) (C:=c+k) (D:=d) ⟨by omega,by omega⟩ ⟨by omega,by omega⟩ ⟨by omega,by omega⟩ ⟨by omega,by omega⟩) (.inl ⟨by omega,by omega⟩) ⟨by omega,by omega⟩ ⟨by omega,by omega⟩ ⟨by omega,by omega⟩ ⟨by omega,by omega⟩
def MOk (M:(Nat→Nat→Nat→Nat→List Pr)→Nat→Nat→Nat→Nat→List Pr) (x y:List Int):Prop:=∀ (rec:Nat→Nat→Nat→Nat→List Pr) (a b c d:Nat),a<b→b≤x.length→c<d→d≤y.length→(∀ a' b' c' d',a'≤b'→b'≤x.length→c'≤d'→d'≤y.length→Okp x y a' b' c' d' (rec a' b' c' d'))→Okp x y a b c d (M rec a b c d)
theorem pcs_ok {M:(Nat→Nat→Nat→Nat→List Pr)→Nat→Nat→Nat→Nat→List Pr} {x y:List Int} (hM:MOk M x y) (f:Nat):∀ a b c d,a≤b→b≤x.length→c≤d→d≤y.length→Okp x y a b c d (pcs M x y f a b c d):=by
 induction f with
 | zero=>intro a b c d _ _ _ _;exact Okp.nil _ _ _ _
 | succ f ih =>
  intro a b c d hab hb hcd hd
  rw[pcs]
  exact ends_ok x y _ a b c d hab hb hcd hd (fun a' b' c' d' _ h2 h3 _ h5 h6=>hM _ a' b' c' d' h2 (by omega) h5 (by omega) ih)
theorem wrk_get (l:List Pr):∀ (K:List Int) (i:Nat) (z:Int),(wrk K l)[i]?=some z→K[i]?=some z∨∃ p∈l,p.X.toNat=i∧p.Y=z:=by
 induction l with
 | nil=>intro K i z h;exact .inl h
 | cons p l ih =>
  intro K i z h
  rw[wrk_cons] at h
  rcases ih _ i z h with h | ⟨q,hq,h⟩
  ·by_cases e:p.X.toNat=i
   ·subst e
    by_cases hl:p.X.toNat<K.length
    ·rw[List.getElem?_set_self hl] at h
     cases h
     exact .inr ⟨p,List.mem_cons_self ..,rfl,rfl⟩
    ·rw[List.getElem?_eq_none (by rw[List.length_set];omega)] at h
     cases h
   ·rw[List.getElem?_set_ne e] at h
    exact .inl h
  ·exact .inr ⟨q,List.mem_cons_of_mem _ hq,h⟩
theorem vk_of (K:List Int):∀ (nx m:Int),(∀ z∈K,z=-1∨(nx≤z∧z<m))→K.Pairwise (fun z z'=>z=-1∨z'=-1∨z<z')→Vk nx m K:=by
 induction K with
 | nil=>intro _ _ _ _;trivial
 | cons z K ih =>
  intro nx m h1 h2
  have h2':=List.pairwise_cons.1 h2
  by_cases hz:z=-1
  ·exact .inl ⟨hz,ih nx m (fun y hy=>h1 y (List.mem_cons_of_mem _ hy)) h2'.2⟩
  ·have h3:=(h1 z (List.mem_cons_self ..)).resolve_left hz
   refine .inr ⟨hz,h3.1,h3.2,ih (z+1) m (fun y hy=>?_) h2'.2⟩
   rcases h1 y (List.mem_cons_of_mem _ hy) with e | e
   ·exact .inl e
   ·rcases h2'.1 y hy with q | q | q
    ·exact absurd q hz
    ·exact .inl q
    ·exact .inr ⟨by omega,e.2⟩
theorem wrk_vk {x y:List Int} (n m:Nat) (l:List Pr) (h:Okp x y 0 n 0 m l):Vk 0 m (wrk (List.replicate n (-1)) l):=by
 have hget:∀ (i:Nat) (z:Int),(wrk (List.replicate n (-1)) l)[i]?=some z→z=-1∨∃ p∈l,p.X=i∧p.Y=z:=fun i z hz=>by
  rcases wrk_get l _ i z hz with q | ⟨p,hp,q1,q2⟩
  ·left
   rw[List.getElem?_replicate] at q
   split at q
   ·cases q;rfl
   ·cases q
  ·have:=h.wn p hp
   unfold Wn at this
   exact .inr ⟨p,hp,by omega,q2⟩
 refine vk_of _ 0 m (fun z hz=>?_) (List.pairwise_iff_getElem.2 fun i j hi hj hij=>?_)
 ·obtain⟨i,hi,e⟩:=List.getElem_of_mem hz
  rcases hget i z (by rw[List.getElem?_eq_getElem hi,e]) with q | ⟨p,hp,_,q2⟩
  ·exact .inl q
  ·have:=h.wn p hp
   unfold Wn at this
   exact .inr ⟨by omega,by omega⟩
 ·rcases hget i _ (List.getElem?_eq_getElem hi) with q | ⟨p,hp,p1,p2⟩
  ·exact .inl q
  ·rcases hget j _ (List.getElem?_eq_getElem hj) with q | ⟨q,hq,q1,q2⟩
   ·exact .inr (.inl q)
   ·refine .inr (.inr ?_)
    rw[← p2,← q2]
    rcases h.ris p hp q hq with e | e | e
    ·subst e
     omega
    ·exact e.2
    ·have:=e.1
     omega
theorem wrk_has (l:List Pr) (n:Nat) (hr:Ris l) (hw:∀ p∈l,0≤p.X∧p.X<n):∀ K:List Int,K.length=n→∀ p∈l,(wrk K l)[p.X.toNat]?=some p.Y:=by
 induction l with
 | nil=>intro K _ p hp;simp at hp
 | cons q l ih =>
  intro K hK p hp
  rw[wrk_cons]
  have ih':=ih (fun a ha b hb=>hr a (List.mem_cons_of_mem _ ha) b (List.mem_cons_of_mem _ hb)) (fun a ha=>hw a (List.mem_cons_of_mem _ ha)) (K.set q.X.toNat q.Y) (by rw[List.length_set];exact hK)
  by_cases h:p∈l
  ·exact ih' p h
  ·have e:p=q:=(List.mem_cons.1 hp).resolve_right h
   subst e
   have hb:=hw p (List.mem_cons_self ..)
   by_cases hx:∃ r∈l,r.X.toNat=p.X.toNat
   ·obtain⟨r,h1,h2⟩:=hx
    have hrb:=hw r (List.mem_cons_of_mem _ h1)
    rcases hr p (List.mem_cons_self ..) r (List.mem_cons_of_mem _ h1) with e | e | e
    ·subst e;exact ih' p h1
    ·have:=e.1;omega
    ·have:=e.1;omega
   ·rw[wrk_comm K l _ _ (fun r h1 h2=>hx ⟨r,h1,h2⟩),List.getElem?_set_self (by rw[wrk_length];omega)]
theorem mk_id (n:Nat):mkL ((List.range n).map fun (j:Nat)=>(0:Int)+(j:Int)) n=[]:=by
 unfold mkL
 rw[keptR_run 0 0 (Int.le_refl _)]
 have:=betw_un 0 0 n [⟨(n:Int),(n:Int),0⟩]
 simp at this ⊢
 first | (rw[this];simp[betw]) | simpa [betw] using this
theorem nil_same {K x y:List Int} (hV:Vk 0 y.length K) (hl:K.length=x.length) (hs:∀ (i q:Nat),K[i]?=some (q:Int)→x[i]?=y[q]?) (hx:x.length≤4096) (hy:y.length≤4096) (h:mkL K y.length=[]):x=y:=by
 obtain⟨⟨_,_,hS⟩,hU⟩:=mk_script hV (by omega) (by omega) (by rw[hl];omega)
 rw[h] at hS hU
 rw[U_nil] at hU
 have hnm:x.length=y.length:=by
  have h1:=hS.2.2
  rw[hl] at h1
  omega
 apply List.ext_getElem? 
 intro i
 by_cases hi:i<x.length
 ·have hm:(⟨(i:Int),(i:Int),1⟩:Rn)∈keptR 0 K:=by
   rw[← hU,mem_un]
   rw[hl]
   refine⟨rfl,?_,?_,?_⟩<;>dsimp only<;>omega
  rw[mem_keptR] at hm
  obtain⟨_,_,h3,_⟩:=hm
  dsimp only at h3
  rw[show ((i:Int)-0).toNat=i by omega] at h3
  exact hs i i h3
 ·rw[List.getElem?_eq_none (by omega),List.getElem?_eq_none (by omega)]
structure Kpt (x y K:List Int):Prop where
 vk:Vk 0 y.length K
 len:K.length=x.length
 eqs:∀ (i q:Nat),K[i]?=some (q:Int)→x[i]?=y[q]?
theorem Okp.kpt {x y:List Int} {l:List Pr} (h:Okp x y 0 x.length 0 y.length l):Kpt x y (wrk (List.replicate x.length (-1)) l):=by
 refine⟨wrk_vk _ _ _ h,by rw[wrk_length];simp,fun i q hq=>?_⟩
 rcases wrk_get l _ i q hq with e | ⟨p,hp,e1,e2⟩
 ·rw[List.getElem?_replicate] at e
  split at e
  ·simp at e
  ·cases e
 ·have h1:=h.eqs p hp
  rw[e1,e2] at h1
  simpa using h1
theorem Okp.at {x y:List Int} {l:List Pr} (h:Okp x y 0 x.length 0 y.length l) {p:Pr} (hp:p∈l):(wrk (List.replicate x.length (-1)) l)[p.X.toNat]?=some p.Y :=
 wrk_has l x.length h.ris (fun q hq=>by have:=h.wn q hq;unfold Wn at this;omega) _ (by simp) p hp
theorem mem_fp {a c k:Nat} {p:Pr}:p∈fp a c k↔∃ i,i<k∧p=⟨(a+i:Nat),(c+i:Nat)⟩:=by
 induction k generalizing a c with
 | zero=>simp[fp]
 | succ k ih =>
  rw[fp,List.mem_cons,ih]
  constructor
  ·rintro (rfl | ⟨i,hi,rfl⟩)
   ·exact⟨0,by omega,by simp⟩
   ·exact⟨i+1,by omega,by rw[show a+1+i=a+(i+1) by omega,show c+1+i=c+(i+1) by omega]⟩
  ·rintro⟨i,hi,rfl⟩
   cases i with
   | zero=>left;simp
   | succ i=>exact .inr ⟨i,by omega,by rw[show a+1+i=a+(i+1) by omega,show c+1+i=c+(i+1) by omega]⟩
theorem tf_all (x:List Int) (a b:Nat):tf x x a b a b=b-a:=by
 induction h:b-a generalizing a with
 | zero=>rw[tf_eq,if_neg (by omega)]
 | succ n ih=>rw[tf_eq,if_pos ⟨by omega,by omega,rfl⟩,ih (a+1) (by omega)]
end Go.Proofs.YtgiojkhmkeocfaaGreatDoor

/- Runs of two rows of numbers, and the one to hold on to: plain. -/
namespace Go.Proofs.YtgiojkhmkeocfaaGreatDoor
structure Hr where
 X:Nat
 Y:Nat
 N:Nat
 R:Nat
def cnt (x:List Int) (k:Nat):Nat:=match x[k]? with
 | some c=>x.count c
 | none=>x.length
def rar (x:List Int) (i:Nat):Nat→Nat
 | 0=>x.length
 | n+1=>min (rar x i n) (cnt x (i+n))
def tl (x y:List Int) (i j:Nat):Nat:=tf x y i x.length j y.length
def hd (x y:List Int) (i j:Nat):Nat:=tb x y 0 i 0 j
theorem tl_step (x y:List Int) (i j:Nat):tl x y i j=if i<x.length∧j<y.length∧x[i]?=y[j]? then tl x y (i+1) (j+1)+1 else 0:=by unfold tl;rw[tf_eq]
theorem hd_step (x y:List Int) (i j:Nat):hd x y i j=if 0<i∧0<j∧x[i-1]?=y[j-1]? then hd x y (i-1) (j-1)+1 else 0:=by unfold hd;rw[tb]
theorem hd_le (x y:List Int) (i j:Nat):hd x y i j≤i∧hd x y i j≤j:=by have:=tb_le x y 0 i 0 j;unfold hd;omega
theorem tl_le (x y:List Int) (i j:Nat):tl x y i j≤x.length-i∧tl x y i j≤y.length-j:=tf_le x y i x.length j y.length
theorem tl_same (x y:List Int) (i j:Nat):∀ k,k<tl x y i j→x[i+k]?=y[j+k]?:=tf_same x y i x.length j y.length
theorem hd_same (x y:List Int) (i j:Nat):∀ k,k<hd x y i j→x[i-(k+1)]?=y[j-(k+1)]?:=tb_same x y 0 i 0 j
theorem hd_end (x y:List Int) (i j:Nat):¬ (0<i-hd x y i j∧0<j-hd x y i j∧x[i-hd x y i j-1]?=y[j-hd x y i j-1]?):=by
 induction i generalizing j with
 | zero=>omega
 | succ i ih =>
  rw[hd_step]
  split
  ·rename_i h
   have:=ih (j-1)
   rw[Nat.add_sub_cancel]
   rw[show i+1-(hd x y i (j-1)+1)=i-hd x y i (j-1) by omega,show j-(hd x y i (j-1)+1)=j-1-hd x y i (j-1) by omega]
   exact this
  ·rename_i h
   exact fun h2=>h (by simpa using h2)
theorem tl_of (x y:List Int) (i j n:Nat) (hx:i+n≤x.length) (hy:j+n≤y.length) (h:∀ k,k<n→x[i+k]?=y[j+k]?):tl x y i j=n+tl x y (i+n) (j+n):=by
 induction n generalizing i j with
 | zero=>simp
 | succ n ih =>
  rw[tl_step,if_pos ⟨by omega,by omega,by simpa using h 0 (by omega)⟩,ih (i+1) (j+1) (by omega) (by omega) (fun k hk=>by
   have:=h (k+1) (by omega)
   rw[show i+1+k=i+(k+1) by omega,show j+1+k=j+(k+1) by omega]
   exact this),show i+1+n=i+(n+1) by omega,show j+1+n=j+(n+1) by omega]
  omega
theorem hd_of (x y:List Int) (i j n:Nat) (h:∀ k,k<n→x[i+k]?=y[j+k]?) (h0:¬ (0<i∧0<j∧x[i-1]?=y[j-1]?)):hd x y (i+n) (j+n)=n:=by
 induction n with
 | zero=>rw[Nat.add_zero,Nat.add_zero,hd_step,if_neg h0]
 | succ n ih =>
  rw[hd_step,if_pos ⟨by omega,by omega,by simpa using h n (by omega)⟩,show i+(n+1)-1=i+n by omega,show j+(n+1)-1=j+n by omega,ih (fun k hk=>h k (by omega))]
structure IsRun (x y:List Int) (r:Hr):Prop where
 hx:r.X<x.length
 hy:r.Y<y.length
 same:x[r.X]?=y[r.Y]?
 fst:¬ (0<r.X∧0<r.Y∧x[r.X-1]?=y[r.Y-1]?)
 n:r.N=tl x y r.X r.Y
 r:r.R=rar x r.X r.N
def hlt (r b:Hr):Prop:=r.R<b.R∨(r.R=b.R∧(b.N<r.N∨(r.N=b.N∧(r.X<b.X∨(r.X=b.X∧r.Y<b.Y)))))
def Bst (x y:List Int) (b:Hr):Prop:=IsRun x y b∧∀ r,IsRun x y r→r=b∨hlt b r
theorem Bst.one {x y:List Int} {a b:Hr} (ha:Bst x y a) (hb:Bst x y b):a=b:=by
 rcases ha.2 b hb.1 with h | h
 ·exact h.symm
 ·rcases hb.2 a ha.1 with h' | h'
  ·exact h'
  ·unfold hlt at h h'
   omega
theorem IsRun.pos {x y:List Int} {r:Hr} (h:IsRun x y r):0<r.N:=by
 rw[h.n,tl_step,if_pos ⟨h.hx,h.hy,h.same⟩]
 omega
theorem cnt_le (x:List Int) (k:Nat):cnt x k≤x.length:=by
 unfold cnt
 split
 ·exact List.count_le_length
 ·exact Nat.le_refl _
theorem cnt_at {x:List Int} {k:Nat} {c:Int} (h:x[k]?=some c):cnt x k=x.count c:=by unfold cnt;rw[h]
theorem rar_le (x:List Int) (i n k:Nat) (hk:k<n):rar x i n≤cnt x (i+k):=by
 induction n with
 | zero=>omega
 | succ n ih =>
  rw[rar]
  by_cases e:k=n
  ·subst e;omega
  ·have:=ih (by omega);omega
theorem rar_at (x:List Int) (i n:Nat) (hn:0<n):∃ k,k<n∧rar x i n=cnt x (i+k):=by
 induction n with
 | zero=>omega
 | succ n ih =>
  rw[rar]
  by_cases h0:n=0
  ·subst h0
   refine⟨0,by omega,?_⟩
   have:=cnt_le x (i+0)
   rw[rar]
   omega
  ·obtain⟨k,h1,h2⟩:=ih (by omega)
   by_cases h:rar x i n≤cnt x (i+n)
   ·exact⟨k,by omega,by omega⟩
   ·exact⟨n,by omega,by omega⟩
def pickL (better:Hr→Hr→Bool) (b:Hr) (l:List Hr):Hr:=l.foldl (fun b r=>if better r b then r else b) b
def btR (r b:Hr):Bool:=decide (r.R<b.R) || (decide (r.R=b.R) && decide (b.N<r.N))
def lex (a b:Hr):Prop:=a.X<b.X∨(a.X=b.X∧a.Y<b.Y)
theorem pickR_spec (l:List Hr):∀ (P:List Hr) (b:Hr),b∈P→(∀ r∈P,r=b∨hlt b r)→(P++l).Pairwise lex→pickL btR b l∈P++l∧∀ r∈P++l,r=pickL btR b l∨hlt (pickL btR b l) r:=by
 induction l with
 | nil=>intro P b hb h _;simp only[List.append_nil];exact⟨hb,h⟩
 | cons c l ih =>
  intro P b hb h hp
  have e:P++c::l=(P++[c])++l:=by simp
  rw[e] at hp ⊢
  have hbc:lex b c:=by
   have:=(List.pairwise_append.1 (List.pairwise_append.1 hp).1).2.2 b hb c (List.mem_singleton.2 rfl)
   exact this
  unfold pickL
  rw[List.foldl_cons]
  by_cases hb':btR c b=true
  ·rw[if_pos hb']
   refine ih (P++[c]) c (by simp) (fun r hr=>?_) hp
   rcases List.mem_append.1 hr with hr | hr
   ·right
    have h1:=h r hr
    simp[btR] at hb'
    rcases h1 with rfl | h1
    ·unfold hlt;omega
    ·unfold hlt at h1 ⊢;omega
   ·left
    simpa using hr
  ·rw[if_neg hb']
   refine ih (P++[c]) b (by simp[hb]) (fun r hr=>?_) hp
   rcases List.mem_append.1 hr with hr | hr
   ·exact h r hr
   ·right
    have e2:r=c:=by simpa using hr
    subst e2
    simp[btR] at hb'
    unfold lex at hbc
    unfold hlt
    omega
def btC (r b:Hr):Bool:=decide (b.N<r.N) || (decide (r.N=b.N) && (decide (r.X<b.X) || (decide (r.X=b.X) && decide (r.Y<b.Y))))
theorem pickC_spec (l:List Hr):∀ b:Hr,(pickL btC b l=b∨pickL btC b l∈l)∧btC b (pickL btC b l)=false∧∀ r∈l,btC r (pickL btC b l)=false:=by
 induction l with
 | nil=>intro b;refine⟨.inl rfl,?_,fun r hr=>by simp at hr⟩;simp[pickL,btC]
 | cons c l ih =>
  intro b
  have e:pickL btC b (c::l)=pickL btC (if btC c b then c else b) l:=rfl
  rw[e]
  by_cases hb:btC c b=true
  ·rw[if_pos hb]
   obtain⟨h1,h2,h3⟩:=ih c
   refine⟨.inr ?_,?_,fun r hr=>?_⟩
   ·rcases h1 with h1 | h1
    ·rw[h1];exact List.mem_cons_self ..
    ·exact List.mem_cons_of_mem _ h1
   ·simp[btC] at hb h2 ⊢;omega
   ·rcases List.mem_cons.1 hr with rfl | hr
    ·exact h2
    ·exact h3 r hr
  ·rw[if_neg hb]
   obtain⟨h1,h2,h3⟩:=ih b
   refine⟨?_,h2,fun r hr=>?_⟩
   ·rcases h1 with h1 | h1
    ·exact .inl h1
    ·exact .inr (List.mem_cons_of_mem _ h1)
   ·rcases List.mem_cons.1 hr with rfl | hr
    ·simp[btC] at hb h2 ⊢;omega
    ·exact h3 r hr
end Go.Proofs.YtgiojkhmkeocfaaGreatDoor

/- All runs, and those that hold one of the rarest members; both ways find the same one: plain. -/
namespace Go.Proofs.YtgiojkhmkeocfaaGreatDoor
def rj (x y:List Int) (i j:Nat):List Hr:=if x[i]?=y[j]?∧¬ (0<i∧0<j∧x[i-1]?=y[j-1]?) then [⟨i,j,tl x y i j,rar x i (tl x y i j)⟩] else []
def rowR (x y:List Int) (i:Nat):List Hr:=(List.range' 0 y.length).flatMap (rj x y i)
def runs (x y:List Int):List Hr:=(List.range' 0 x.length).flatMap (rowR x y)
theorem mem_runs (x y:List Int) (r:Hr):r∈runs x y↔IsRun x y r:=by
 unfold runs rowR rj
 simp only[List.mem_flatMap,List.mem_range'_1,Nat.zero_add]
 constructor
 ·rintro⟨i,⟨_,hi⟩,j,⟨_,hj⟩,h⟩
  split at h
  ·rename_i hh
   simp at h
   subst h
   exact⟨hi,hj,hh.1,hh.2,rfl,rfl⟩
  ·simp at h
 ·intro h
  refine⟨r.X,⟨Nat.zero_le _,h.hx⟩,r.Y,⟨Nat.zero_le _,h.hy⟩,?_⟩
  rw[if_pos ⟨h.same,h.fst⟩]
  simp
  obtain⟨X,Y,N,R⟩:=r
  have h1:=h.n
  have h2:=h.r
  simp only at h1 h2 ⊢
  rw[h2,← h1]
theorem flat_lex {n:Nat} (f:Nat→List Hr) (s:Nat) (h1:∀ i,∀ r∈f i,r.X=i) (h2:∀ i,(f i).Pairwise lex):((List.range' s n).flatMap f).Pairwise lex:=by
 induction n generalizing s with
 | zero=>exact List.Pairwise.nil
 | succ n ih =>
  rw[List.range'_succ,List.flatMap_cons]
  refine List.pairwise_append.2 ⟨h2 s,ih (s+1),fun a ha b hb=>?_⟩
  rw[List.mem_flatMap] at hb
  obtain⟨i,hi,hb⟩:=hb
  rw[List.mem_range'_1] at hi
  have e1:=h1 s a ha
  have e2:=h1 i b hb
  left
  omega
theorem row_lex {n:Nat} (f:Nat→List Hr) (s X:Nat) (h1:∀ j,∀ r∈f j,r.X=X∧r.Y=j) (h2:∀ j,(f j).Pairwise lex):((List.range' s n).flatMap f).Pairwise lex:=by
 induction n generalizing s with
 | zero=>exact List.Pairwise.nil
 | succ n ih =>
  rw[List.range'_succ,List.flatMap_cons]
  refine List.pairwise_append.2 ⟨h2 s,ih (s+1),fun a ha b hb=>?_⟩
  rw[List.mem_flatMap] at hb
  obtain⟨i,hi,hb⟩:=hb
  rw[List.mem_range'_1] at hi
  have e1:=h1 s a ha
  have e2:=h1 i b hb
  right
  omega
theorem rj_at (x y:List Int) (i j:Nat):(∀ r∈rj x y i j,r.X=i∧r.Y=j)∧(rj x y i j).Pairwise lex:=by
 unfold rj
 split
 ·refine⟨fun r hr=>?_,List.pairwise_singleton _ _⟩
  simp at hr
  subst hr
  exact⟨rfl,rfl⟩
 ·exact⟨fun r hr=>by simp at hr,List.Pairwise.nil⟩
theorem runs_lex (x y:List Int):(runs x y).Pairwise lex:=by
 unfold runs
 refine flat_lex _ 0 (fun i r hr=>?_) (fun i=>row_lex _ 0 i (fun j r hr=>(rj_at x y i j).1 r hr) (fun j=>(rj_at x y i j).2))
 unfold rowR at hr
 rw[List.mem_flatMap] at hr
 obtain⟨j,_,hr⟩:=hr
 exact ((rj_at x y i j).1 r hr).1
def best (x y:List Int):Option Hr:=match runs x y with
 | []=>none
 | b::l=>some (pickL btR b l)
theorem best_some {x y:List Int} {b:Hr} (h:best x y=some b):Bst x y b:=by
 unfold best at h
 cases hr:runs x y with
 | nil=>rw[hr] at h;cases h
 | cons c l =>
  rw[hr] at h
  cases h
  have:=pickR_spec l [c] c (by simp) (fun r hr=>by simp at hr;exact .inl hr) (by have:=runs_lex x y;rw[hr] at this;exact this)
  have e:[c]++l=runs x y:=by rw[hr];rfl
  rw[e] at this
  exact⟨(mem_runs x y _).1 this.1,fun r h=>this.2 r ((mem_runs x y r).2 h)⟩
theorem best_none {x y:List Int} (h:best x y=none) (r:Hr):¬ IsRun x y r:=by
 intro hr
 have:=(mem_runs x y r).2 hr
 unfold best at h
 cases hs:runs x y with
 | nil=>rw[hs] at this;simp at this
 | cons c l=>rw[hs] at h;cases h
theorem best_of {x y:List Int} {b:Hr} (h:Bst x y b):best x y=some b:=by
 cases hb:best x y with
 | none=>exact absurd h.1 (best_none hb b)
 | some c=>rw[(best_some hb).one h]
def runAt (x y:List Int) (i j R:Nat):Hr:=⟨i-hd x y i j,j-hd x y i j,hd x y i j+tl x y i j,R⟩
def skp (x:List Int) (R i t:Nat):Bool:=(List.range t).any fun s=>cnt x (i-(s+1)) == R
def pj (x y:List Int) (R i:Nat):List Nat:=if cnt x i=R then (List.range y.length).filter (fun j=>decide (y[j]?=x[i]?)) else []
def ck (x y:List Int) (R i j:Nat):List Hr:=if skp x R i (hd x y i j) then [] else [runAt x y i j R]
def cands (x y:List Int) (R:Nat):List Hr:=(List.range' 0 x.length).flatMap fun i=>(pj x y R i).flatMap (ck x y R i)
theorem mem_pj (x y:List Int) (R i j:Nat):j∈pj x y R i↔cnt x i=R∧j<y.length∧x[i]?=y[j]?:=by
 unfold pj
 split
 ·rename_i h
  simp[h,eq_comm]
 ·rename_i h
  simp[h]
theorem mem_cands (x y:List Int) (R:Nat) (r:Hr):r∈cands x y R↔∃ i j,i<x.length∧j<y.length∧x[i]?=y[j]?∧cnt x i=R∧skp x R i (hd x y i j)=false∧r=runAt x y i j R:=by
 unfold cands ck
 simp only[List.mem_flatMap,List.mem_range'_1,Nat.zero_add,mem_pj]
 constructor
 ·rintro⟨i,⟨_,hi⟩,j,⟨h1,h2,h3⟩,h⟩
  split at h
  ·simp at h
  ·rename_i hs
   simp at h
   exact⟨i,j,hi,h2,h3,h1,by simpa using hs,h⟩
 ·rintro⟨i,j,h1,h2,h3,h4,h5,rfl⟩
  refine⟨i,⟨Nat.zero_le _,h1⟩,j,⟨h4,h2,h3⟩,?_⟩
  rw[h5]
  simp
structure Rst (x y:List Int) (R:Nat):Prop where
 le:∀ i j,i<x.length→j<y.length→x[i]?=y[j]?→R≤cnt x i
 ex:∃ i j,i<x.length∧j<y.length∧x[i]?=y[j]?∧cnt x i=R
section
variable {x y:List Int} {R:Nat}
theorem run_ge (h:Rst x y R) {r:Hr} (hr:IsRun x y r):R≤r.R:=by
 obtain⟨k,h1,h2⟩:=rar_at x r.X r.N hr.pos
 rw[hr.r,h2]
 have h3:=tl_le x y r.X r.Y
 have h4:=hr.n
 exact h.le (r.X+k) (r.Y+k) (by omega) (by omega) (tl_same x y r.X r.Y k (by omega))
theorem runAt_run (h:Rst x y R) {i j:Nat} (hi:i<x.length) (hj:j<y.length) (he:x[i]?=y[j]?) (hc:cnt x i=R):IsRun x y (runAt x y i j R):=by
 have h0:=hd_le x y i j
 have hn:tl x y (i-hd x y i j) (j-hd x y i j)=hd x y i j+tl x y i j:=by
  have:=tl_of x y (i-hd x y i j) (j-hd x y i j) (hd x y i j) (by omega) (by omega) (fun k hk=>by
   have:=hd_same x y i j (hd x y i j-1-k) (by omega)
   rw[show i-(hd x y i j-1-k+1)=i-hd x y i j+k by omega,show j-(hd x y i j-1-k+1)=j-hd x y i j+k by omega] at this
   exact this)
  rw[show i-hd x y i j+hd x y i j=i by omega,show j-hd x y i j+hd x y i j=j by omega] at this
  exact this
 have hpos:0<tl x y i j:=by rw[tl_step,if_pos ⟨hi,hj,he⟩];omega
 have hle:=tl_le x y i j
 have hs:x[i-hd x y i j]?=y[j-hd x y i j]?:=by
  have:=tl_same x y (i-hd x y i j) (j-hd x y i j) 0 (by omega)
  simpa using this
 refine⟨by show i-hd x y i j<_;omega,by show j-hd x y i j<_;omega,hs,hd_end x y i j,hn.symm,?_⟩
 show R=rar x (i-hd x y i j) (hd x y i j+tl x y i j)
 have h1:=rar_le x (i-hd x y i j) (hd x y i j+tl x y i j) (hd x y i j) (by omega)
 rw[show i-hd x y i j+hd x y i j=i by omega,hc] at h1
 obtain⟨k,h2,h3⟩:=rar_at x (i-hd x y i j) (hd x y i j+tl x y i j) (by omega)
 have h4:=h.le (i-hd x y i j+k) (j-hd x y i j+k) (by omega) (by omega) (tl_same x y _ _ k (by omega))
 omega
theorem cand_run (h:Rst x y R) {r:Hr} (hr:r∈cands x y R):IsRun x y r∧r.R=R:=by
 obtain⟨i,j,h1,h2,h3,h4,_,rfl⟩:=(mem_cands x y R r).1 hr
 exact⟨runAt_run h h1 h2 h3 h4,rfl⟩
theorem run_cand {r:Hr} (hr:IsRun x y r) (hR:r.R=R):r∈cands x y R:=by
 have h1:=tl_le x y r.X r.Y
 have hn:=hr.n
 obtain⟨k0,hk0,hk1⟩:=rar_at x r.X r.N hr.pos
 have hex:∃ k,k<r.N∧cnt x (r.X+k)=R∧∀ s,s<k→cnt x (r.X+s)≠R:=by
  have:∀ m,(∃ k,k<m∧k<r.N∧cnt x (r.X+k)=R)→∃ k,k<r.N∧cnt x (r.X+k)=R∧∀ s,s<k→cnt x (r.X+s)≠R:=by
   intro m
   induction m with
   | zero=>rintro⟨k,hk,_⟩;omega
   | succ m ih =>
    rintro⟨k,h1,h2,h3⟩
    by_cases he:∃ k',k'<m∧k'<r.N∧cnt x (r.X+k')=R
    ·exact ih he
    ·refine⟨k,h2,h3,fun s hs hc=>he ⟨s,by omega,by omega,hc⟩⟩
  exact this (k0+1) ⟨k0,by omega,hk0,by rw[← hk1,← hr.r,hR]⟩
 obtain⟨k,hk,hkc,hks⟩:=hex
 have hsm:=fun s (hs:s<r.N)=>tl_same x y r.X r.Y s (by omega)
 have hhd:hd x y (r.X+k) (r.Y+k)=k:=hd_of x y r.X r.Y k (fun s hs=>hsm s (by omega)) hr.fst
 refine (mem_cands x y R r).2 ⟨r.X+k,r.Y+k,by omega,by omega,hsm k hk,hkc,?_,?_⟩
 ·rw[hhd]
  unfold skp
  rw[List.any_eq_false]
  intro s hs
  rw[List.mem_range] at hs
  rw[show r.X+k-(s+1)=r.X+(k-(s+1)) by omega]
  simpa using hks (k-(s+1)) (by omega)
 ·have:=tl_of x y r.X r.Y k (by omega) (by omega) (fun s hs=>hsm s (by omega))
  unfold runAt
  rw[hhd]
  obtain⟨X,Y,N,R'⟩:=r
  simp only at *
  subst hR
  congr 1
  ·omega
  ·omega
  ·omega
theorem code_best (h:Rst x y R):Bst x y (pickL btC ⟨0,0,0,0⟩ (cands x y R)):=by
 obtain⟨h1,h2,h3⟩:=pickC_spec (cands x y R) ⟨0,0,0,0⟩
 have hmem:pickL btC ⟨0,0,0,0⟩ (cands x y R)∈cands x y R:=by
  rcases h1 with h1 | h1
  ·exfalso
   obtain⟨i,j,g1,g2,g3,g4⟩:=h.ex
   have hr:=runAt_run h g1 g2 g3 g4
   have:=h3 _ (run_cand hr rfl)
   rw[h1] at this
   have hp:=hr.pos
   simp[btC] at this
   omega
  ·exact h1
 generalize pickL btC ⟨0,0,0,0⟩ (cands x y R)=b at *
 obtain⟨hb,hbR⟩:=cand_run h hmem
 refine⟨hb,fun r hr=>?_⟩
 have hge:=run_ge h hr
 by_cases e:r.R=R
 ·have:=h3 r (run_cand hr e)
  simp[btC] at this
  unfold hlt
  by_cases q:r.N=b.N∧r.X=b.X∧r.Y=b.Y
  ·left
   obtain⟨X,Y,N,R'⟩:=r
   obtain⟨X2,Y2,N2,R2⟩:=b
   simp only at *
   obtain⟨q1,q2,q3⟩:=q
   subst q1 q2 q3 e
   rw[hbR]
  ·right
   omega
 ·right
  unfold hlt
  omega
end
def rs (x:List Int):Nat→List Int→Nat
 | l,[]=>l
 | l,c::y=>rs x (if 0<x.count c∧(l=0∨x.count c<l) then x.count c else l) y
theorem rs_spec (x:List Int) (y:List Int):∀ l:Nat,(rs x l y=l∨∃ c∈y,x.count c=rs x l y∧0<x.count c)∧(∀ c∈y,0<x.count c→0<rs x l y∧rs x l y≤x.count c)∧(0<l→0<rs x l y∧rs x l y≤l):=by
 induction y with
 | nil=>intro l;exact⟨.inl rfl,fun c hc=>by simp at hc,fun h=>⟨h,Nat.le_refl _⟩⟩
 | cons c y ih =>
  intro l
  rw[rs]
  obtain⟨h1,h2,h3⟩:=ih (if 0<x.count c∧(l=0∨x.count c<l) then x.count c else l)
  by_cases h:0<x.count c∧(l=0∨x.count c<l)
  ·rw[if_pos h] at h1 h2 h3 ⊢
   refine⟨.inr ?_,fun d hd hd0=>?_,fun hl=>?_⟩
   ·rcases h1 with h1 | ⟨d,hd,h1⟩
    ·exact⟨c,List.mem_cons_self ..,h1.symm,h.1⟩
    ·exact⟨d,List.mem_cons_of_mem _ hd,h1⟩
   ·rcases List.mem_cons.1 hd with rfl | hd
    ·exact h3 h.1
    ·exact h2 d hd hd0
   ·have:=h3 h.1
    omega
  ·rw[if_neg h] at h1 h2 h3 ⊢
   refine⟨?_,fun d hd hd0=>?_,h3⟩
   ·rcases h1 with h1 | ⟨d,hd,h1⟩
    ·exact .inl h1
    ·exact .inr ⟨d,List.mem_cons_of_mem _ hd,h1⟩
   ·rcases List.mem_cons.1 hd with rfl | hd
    ·have:=h3 (by omega)
     omega
    ·exact h2 d hd hd0
theorem rs_zero {x y:List Int} (h:rs x 0 y=0) (r:Hr):¬ IsRun x y r:=by
 intro hr
 have h2:=(rs_spec x y 0).2.1 (y[r.Y]'hr.hy) (List.getElem_mem hr.hy) (by
  have:=hr.same
  rw[List.getElem?_eq_getElem hr.hx,List.getElem?_eq_getElem hr.hy] at this
  rw[← Option.some.inj this]
  exact List.count_pos_iff.2 (List.getElem_mem hr.hx))
 omega
theorem rs_rst {x y:List Int} {R:Nat} (hR:rs x 0 y=R) (h0:0<R):Rst x y R:=by
 obtain⟨h1,h2,_⟩:=rs_spec x y 0
 rw[hR] at h1 h2
 refine⟨fun i j hi hj he=>?_,?_⟩
 ·rw[List.getElem?_eq_getElem hi,List.getElem?_eq_getElem hj] at he
  have hc:cnt x i=x.count x[i]:=cnt_at (List.getElem?_eq_getElem hi)
  rw[hc]
  have:=h2 y[j] (List.getElem_mem hj) (by rw[← Option.some.inj he];exact List.count_pos_iff.2 (List.getElem_mem hi))
  rw[Option.some.inj he]
  exact this.2
 ·rcases h1 with h1 | ⟨c,hc,h1,h3⟩
  ·omega
  ·obtain⟨j,hj,ej⟩:=List.getElem_of_mem hc
   obtain⟨i,hi,ei⟩:=List.getElem_of_mem (List.count_pos_iff.1 h3)
   refine⟨i,j,hi,hj,by rw[List.getElem?_eq_getElem hi,List.getElem?_eq_getElem hj,ei,ej],?_⟩
   rw[cnt_at (List.getElem?_eq_getElem hi),ei,h1]
end Go.Proofs.YtgiojkhmkeocfaaGreatDoor

/- What an argument of type []int, []api.Change holds, and how much of it there is by the statement's own count. -/
namespace Go.Proofs.YtgiojkhmkeocfaaGreatDoor
open Go.ChangeShapes Go.WideShapes Go.ChangeAt Go.RowKit
theorem own:ownKnob Tryz.prog.godebug=none:=by kernel_rfl
theorem laidOut:laidOutB Tryz.prog=true:=by kernel_rfl
theorem cellsInt:Tryz.prog.cellsOf 3=1:=by kernel_rfl
theorem cellsCh:Tryz.prog.cellsOf 64=4:=by kernel_rfl
def w64 (z:Int):Prop:=-9223372036854775808≤z∧z≤9223372036854775807
theorem w64_of {z:Int} (h:(Lit.int .i64 z).wf=true):w64 z:=bounds_i64 h
def wCh (c:Ch):Prop:=w64 c.A∧w64 c.AN∧w64 c.B∧w64 c.BN
theorem lits_len {H:Type} (l:List Int):l.length≤Rows.uptoBulkAll (lits (H:=H) .i64 l):=by
 induction l with
 | nil=>simp[lits,Rows.uptoBulkAll]
 | cons s t ih =>
  have e:lits (H:=H) .i64 (s::t)=.lit (.int .i64 s)::lits .i64 t:=rfl
  rw[e]
  simp only[Rows.uptoBulkAll,Rows.uptoBulk,List.length_cons]
  omega
theorem open_nums {H:Type} {enc:TypeId × Value→H} {W:World} {fuel:Nat} {ao:Option Addr} {len cap:Nat} {d:DataW H} {p:List MemPlace}
  (h:DataW.trod enc Tryz.prog W 0 (fun _=>true) true fuel 71 [.slice ao len cap]=some (d,p)) :
  ∃ zs:List Int,HI W (.slice ao len cap) zs∧zs.length≤Rows.uptoBulk d∧∀ z∈zs,w64 z:=by
 rcases open_ints Tryz.underlying71 Tryz.underlying3 cellsInt h with ⟨hcs,hx⟩ | ⟨a,l,c,zs,hcs,_,hl,hm,hz,hx,hcell,hwf⟩
 ·simp at hcs
  obtain⟨rfl,rfl,rfl⟩:=hcs
  exact⟨[],.inl ⟨rfl,rfl,rfl⟩,by simp,by simp⟩
 ·simp at hcs
  obtain⟨rfl,rfl,rfl⟩:=hcs
  simp at hz
  simp only[Prod.mk.injEq] at hx
  obtain⟨rfl,_⟩:=hx
  have hlen:(zs.take len).length=len:=by simp;omega
  refine⟨zs.take len,.inr ⟨a,cap,by rw[hlen],by omega,fun j u hj=>?_⟩,?_,fun z hz=>w64_of (hwf z (List.mem_of_mem_take hz))⟩
  ·have hj':j<len:=by
    have:=(List.getElem?_eq_some_iff.1 hj).1
    rw[icells_length,hlen] at this
    exact this
   rw[hcell j (by omega)]
   have hjs:j<zs.length:=by omega
   simp[icells,hj',hjs] at hj
   simp[List.getD,hjs,← hj]
  ·have:=lits_len (H:=H) (zs.take len)
   rw[Rows.uptoBulk]
   omega
theorem bulk_range {H:Type} (D:Nat→DataW H) (n:Nat) (h:∀ i,i<n→1≤Rows.uptoBulk (D i)):n≤Rows.uptoBulkAll ((List.range n).map D):=by
 have hall:∀ l:List (DataW H),(∀ d∈l,1≤Rows.uptoBulk d)→l.length≤Rows.uptoBulkAll l:=by
  intro l
  induction l with
  | nil=>simp
  | cons d t ih =>
   intro hd
   have h1:=hd d (List.mem_cons_self ..)
   have h2:=ih fun x hx=>hd x (List.mem_cons_of_mem _ hx)
   rw[Rows.uptoBulkAll]
   simp only[List.length_cons]
   omega
 have:=hall ((List.range n).map D) (by
  intro d hd
  simp only[List.mem_map,List.mem_range] at hd
  obtain⟨i,hi,rfl⟩:=hd
  exact h i hi)
 simpa using this
theorem open_chs {H:Type} {enc:TypeId × Value→H} {W:World} {fuel:Nat} {ao:Option Addr} {len cap:Nat} {d:DataW H} {p:List MemPlace}
  (h:DataW.trod enc Tryz.prog W 0 (fun _=>true) true fuel 25 [.slice ao len cap]=some (d,p)) :
  ∃ l:List Ch,HCh W (.slice ao len cap) l∧l.length≤Rows.uptoBulk d∧∀ c∈l,wCh c:=by
 rcases Go.Deep.open_slice Tryz.underlying25 h with ⟨hcs,hx⟩ | ⟨a,l,c,m,n,D,Pl,hcs,_,hl,hm,hmm,hx,hel⟩
 ·simp at hcs
  obtain⟨rfl,rfl,rfl⟩:=hcs
  exact⟨[],.inl ⟨rfl,rfl,rfl⟩,by simp,by simp⟩
 ·simp at hcs
  obtain⟨rfl,rfl,rfl⟩:=hcs
  simp only[Prod.mk.injEq] at hx
  obtain⟨rfl,_⟩:=hx
  have hlm:len≤m:=by rw[hmm];split<;>omega
  have each:∀ i,i<len→∃ c:Ch,wCh c∧W.cell? (a.add (i * 4))=some (.int .i64 c.A)∧W.cell? (a.add (i * 4+1))=some (.int .i64 c.AN)∧W.cell? (a.add (i * 4+2))=some (.int .i64 c.B)∧W.cell? (a.add (i * 4+3))=some (.int .i64 c.BN)∧1≤Rows.uptoBulk (D i):=by
   intro i hi
   obtain⟨cs',h1,h2⟩:=hel i (by omega)
   rw[cellsCh] at h1
   obtain⟨_,hlen,hcell⟩:=World.cells?_some h1
   obtain⟨xs,k,hk,hxy,_,hxl,hf⟩:=DataW.trod_struct Tryz.underlying64 h2
   match xs,hxl,cs',hlen with
   | [y0,y1,y2,y3],_,[v0,v1,v2,v3],_ =>
    have g0:=hf 0 _ rfl
    have g1:=hf 1 _ rfl
    have g2:=hf 2 _ rfl
    have g3:=hf 3 _ rfl
    simp[cellsInt] at g0 g1 g2 g3
    obtain⟨z0,e0,_,w0⟩:=DataW.trod_int Tryz.underlying3 g0
    obtain⟨z1,e1,_,w1⟩:=DataW.trod_int Tryz.underlying3 g1
    obtain⟨z2,e2,_,w2⟩:=DataW.trod_int Tryz.underlying3 g2
    obtain⟨z3,e3,_,w3⟩:=DataW.trod_int Tryz.underlying3 g3
    cases e0
    cases e1
    cases e2
    cases e3
    have c0:=hcell 0 (by omega)
    have c1:=hcell 1 (by omega)
    have c2:=hcell 2 (by omega)
    have c3:=hcell 3 (by omega)
    rw[Go.Deep.add_add] at c0 c1 c2 c3
    simp only[Prod.mk.injEq] at hxy
    refine⟨⟨z0,z1,z2,z3⟩,⟨w64_of w0,w64_of w1,w64_of w2,w64_of w3⟩,by simpa using c0,by simpa using c1,by simpa using c2,by simpa using c3,?_⟩
    rw[hxy.1,Rows.uptoBulk]
    omega
  have:Inhabited Ch:=⟨⟨0,0,0,0⟩⟩
  obtain⟨f,hf⟩:=Go.Deep.choose_lt each
  have hlen:((List.range len).map f).length=len:=by simp
  refine⟨(List.range len).map f,.inr ⟨a,cap,by rw[hlen],by rw[hlen];exact hl,fun j u hj=>?_⟩,?_,?_⟩
  ·have hj':j<len * 4:=by
    have:=(List.getElem?_eq_some_iff.1 hj).1
    rw[chcells_length,hlen] at this
    exact this
   obtain⟨h0,h1,h2,h3⟩:=chcells_at ((List.range len).map f) (j / 4) (by rw[hlen];omega)
   obtain⟨_,g0,g1,g2,g3,_⟩:=hf (j / 4) (by omega)
   simp only[List.getElem_map,List.getElem_range] at h0 h1 h2 h3
   rcases (by omega:j=4 * (j / 4)∨j=4 * (j / 4)+1∨j=4 * (j / 4)+2∨j=4 * (j / 4)+3) with e | e | e | e
   ·rw[e,h0] at hj
    rw[e,Nat.mul_comm,g0,hj]
   ·rw[e,h1] at hj
    rw[e,Nat.mul_comm,g1,hj]
   ·rw[e,h2] at hj
    rw[e,Nat.mul_comm,g2,hj]
   ·rw[e,h3] at hj
    rw[e,Nat.mul_comm,g3,hj]
  ·rw[hlen,Rows.uptoBulk]
   have:=bulk_range D len fun i hi=>(hf i hi).2.2.2.2.2
   omega
  ·intro c hc
   simp only[List.mem_map,List.mem_range] at hc
   obtain⟨i,hi,rfl⟩:=hc
   exact (hf i hi).1
end Go.Proofs.YtgiojkhmkeocfaaGreatDoor

/- How often each class stands: count and rarest, walked. -/
namespace Go.Proofs.YtgiojkhmkeocfaaGreatDoor
open Go.RowKit Go.Maps
structure Cnt {H:Type} (D:DataW H) (t:List Int):Prop where
 tidy:Tidy D
 at_:∀ c,D.atKey (.int .i64 c) (.lit (.int .i64 0))=.lit (.int .i64 (t.count c:Nat))
theorem Cnt.nil {H:Type}:Cnt (H:=H) (.map []) []:=⟨tidy_empty,fun _=>by rw[atKey_of_not_has rfl];rfl⟩
theorem Cnt.put {H:Type} {D:DataW H} {t:List Int} (h:Cnt D t) (a:Int):Cnt (D.put (.int .i64 a) (.lit (.int .i64 ((t.count a:Nat)+1)))) (t++[a]):=by
 have hk:WideAt.IsKeyLit (.int .i64 a):=trivial
 have hne:∀ {g:Int},a≠g→(Lit.int .i64 g)≠.int .i64 a:=fun hg e=>hg (by cases e;rfl)
 refine⟨h.tidy.put hk _,fun c=>?_⟩
 by_cases e:a=c
 ·subst e
  rw[atKey_put_same h.tidy.isMap hk,List.count_append,List.count_singleton_self]
  rfl
 ·rw[atKey_put_other (hne e),h.at_,List.count_append]
  have:[a].count c=0:=by rw[List.count_eq_zero];simp;exact fun q=>e q.symm
  rw[this,Nat.add_zero]
theorem hKeyed:Keyed Tryz.prog 3:=int_keyed Tryz.underlying3
theorem hZero (w:World):(zeroValue 3).run Tryz.prog w=.ok (.int .i64 0) w:=by kernel_rfl
theorem hKey {c:Int} (hc:w64 c):keyOf Tryz.prog 3 (.int .i64 c)=some (.int .i64 c):=keyOf_int_mk Tryz.underlying3 (WalkArith.wf_i64 hc)
def Mc (t:List Int) (B:Nat) (w:World):Prop:=∃ D:DataW Unit,w.ownsMap Tryz.prog 3 (plainElem Tryz.prog 3) B t.length D∧Cnt D t
section
variable {t:List Int} {B:Nat} {w w':World}
theorem Mc.lt (h:Mc t B w):B<w.heap.size:=by obtain⟨D,hm,_⟩:=h;exact hm.lt
theorem Mc.keep (h:Mc t B w) (hb:w'.heap[B]?=w.heap[B]?):Mc t B w':=by
 obtain⟨D,⟨es,clock,hm,r⟩,hd⟩:=h
 exact⟨D,⟨es,clock,hb.trans hm,r⟩,hd⟩
theorem Mc.low (h:Mc t B w) (hb:Below w.heap.size w w'):Mc t B w':=h.keep (hb.block B h.lt)
theorem Mc.look (h:Mc t B w) {c:Int} (hc:w64 c):(Instr.lookup 281 (.map (some B)) (.int .i64 c) false).run Tryz.prog w=.ok (.int .i64 (t.count c:Nat)) w:=by
 obtain⟨D,hm,hd⟩:=h
 obtain⟨d,hr,e,_⟩:=hm.lookup_int hKeyed Tryz.underlying281 Tryz.underlying3 (hZero w) (hKey hc)
 rw[hd.at_] at e
 cases e
 exact hr
theorem Mc.store (h:Mc t B w) {a:Int} (ha:w64 a) (hl:t.length≤1099511627776) (z:Int) (hz:z=(t.count a:Nat)+1) :
  ∃ w',(Instr.mapUpdate 281 (.map (some B)) (.int .i64 a) (.int .i64 z)).run Tryz.prog w=.ok () w'∧Mc (t++[a]) B w'∧w.grownBy w' (some B):=by
 obtain⟨D,hm,hd⟩:=h
 have hcl:t.count a≤t.length:=List.count_le_length
 obtain⟨w',hr,ho,ht⟩:=hm.store (val:=.int .i64 z) hKeyed Tryz.underlying281 (by unfold maxLen;omega) (hKey ha) (plainElem_int Tryz.underlying3 (WalkArith.wf_i64 (by omega)))
 exact⟨w',hr,⟨_,by simpa using ho,by subst hz;exact hd.put a⟩,ht.grown⟩
end
theorem count_f (x:List Int) (v:Value) (w:World) (hx:HI w v x) (hxl:x.length≤1048576) (hw:∀ c∈x,w64 c) :
  Calls Tryz.prog 257 #[v] w fun e w'=>∃ B,e=.returned (.map (some B))∧Mc x B w'∧w.heap.size≤B∧Below w.heap.size w w':=by
 obtain⟨xo,xc,rfl⟩:=Holds.form hx
 have hmm:=@run_makeMap Tryz.prog
 have HW:Hid (∀ c∈x,w64 c):=hw
 clear hw
 go_enter Tryz.func257,Tryz.ntmps257
 go_wp2
 go_loopw [9] (fun iv wr=>∃ (i:Nat),i≤x.length∧iv=.int .i64 i∧Mc (x.take i) w.heap.size wr∧Below w.heap.size w wr) (fun iv _=>x.length-(intOf iv).toNat)
 case atStart=>exact⟨0,Nat.zero_le _,rfl,⟨.map [],World.ownsMap_made w _ _ _,Cnt.nil⟩,(Below.refl _ w).alloc (Nat.le_refl _) _⟩
 case round =>
  clear hmm
  obtain⟨i,hi,rfl,hM,hB⟩:=hrel
  have hs:=hB.size
  by_cases hil:i<x.length
  ·obtain⟨b,off,rfl,_,hc⟩:=HI.at (HI.keep hx hB (Nat.le_refl _)) (by omega)
   have c0:=hc i hil
   obtain⟨z,hz⟩:∃ z,x[i]=z:=⟨_,rfl⟩
   rw[hz] at c0
   have hzw:w64 z:=by rw[← hz];exact HW.out _ (List.getElem_mem hil)
   have htl:(x.take i).length=i:=by simp;omega
   have HT:Hid (x.take (i+1)=x.take i++[z]):=(by show _=_;rw[List.take_succ_eq_append_getElem hil,hz])
   have hlk:=hM.look hzw
   obtain⟨w2,hst,hM2,hg2⟩:=hM.store hzw (by omega) _ rfl
   have hcl:(x.take i).count z≤(x.take i).length:=List.count_le_length
   have hB2:Below w.heap.size w w2:=hB.grown hg2 hs (fun j hj=>by cases hj;exact Nat.le_refl _)
   obtain⟨q,hq⟩:∃ q,(x.take i).count z=q:=⟨_,rfl⟩
   rw[hq] at hlk hst hcl
   clear hc hz hq
   have i1:0≤(i:Int):=by omega
   have i2:(i:Int)<(x.length:Int):=by omega
   rw[htl] at hcl
   go_wp2
   go_roundw
   case rel=>exact⟨i+1,by omega,by go_num,by rw[HT.out];exact hM2,hB2⟩
   case measure=>simp[intOf];omega
  ·obtain rfl:i=x.length:=by omega
   rw[List.take_length] at hM
   go_wp2
   go_ret
   exact⟨_,rfl,hM,Nat.le_refl _,hB⟩
theorem rs_le (x:List Int) (y:List Int):∀ l:Nat,l≤x.length→rs x l y≤x.length:=by
 induction y with
 | nil=>intro l h;exact h
 | cons c y ih =>
  intro l h
  rw[rs]
  refine ih _ ?_
  split
  ·exact List.count_le_length
  ·exact h
theorem rarest_f (x y:List Int) (B:Nat) (v:Value) (w:World) (hM:Mc x B w) (hy:HI w v y) (_:x.length≤1048576) (hyl:y.length≤1048576) (hw:∀ c∈y,w64 c) (r:Nat) (hr:Hid (rs x 0 y=r)) :
  Calls Tryz.prog 258 #[.map (some B),v] w fun e w'=>e=.returned (.int .i64 (r:Int))∧w=w':=by
 obtain⟨yo,yc,rfl⟩:=Holds.form hy
 have HW:Hid (∀ c∈y,w64 c):=hw
 clear hw
 go_enter Tryz.func258,Tryz.ntmps258
 go_wp2
 go_loopw [5,11] (fun lv iv wr=>∃ (i l:Nat),i≤y.length∧l≤x.length∧lv=.int .i64 l∧iv=.int .i64 i∧wr=w∧Hid (rs x l (y.drop i)=r)) (fun _ iv _=>y.length-(intOf iv).toNat)
 case atStart=>exact⟨0,0,Nat.zero_le _,Nat.zero_le _,rfl,rfl,rfl,hr⟩
 case round =>
  obtain⟨i,l,hi,hl,rfl,rfl,rfl,HR⟩:=hrel
  by_cases hil:i<y.length
  ·obtain⟨b,off,rfl,_,hc⟩:=HI.at hy (by omega)
   have c0:=hc i hil
   obtain⟨z,hz⟩:∃ z,y[i]=z:=⟨_,rfl⟩
   rw[hz] at c0
   have hzw:w64 z:=by rw[← hz];exact HW.out _ (List.getElem_mem hil)
   have hlk:=hM.look hzw
   have hcl:x.count z≤x.length:=List.count_le_length
   have HR2:Hid (rs x (if 0<x.count z∧(l=0∨x.count z<l) then x.count z else l) (y.drop (i+1))=r):=(by
    show _=_
    have:=HR.out
    rw[List.drop_eq_getElem_cons hil,rs,hz] at this
    exact this)
   obtain⟨q,hq⟩:∃ q,x.count z=q:=⟨_,rfl⟩
   rw[hq] at hlk hcl HR2
   clear hc hz hq HR
   have i1:0≤(i:Int):=by omega
   have i2:(i:Int)<(y.length:Int):=by omega
   by_cases h0:0<q
   ·have e1:decide ((0:Int)<(q:Int))=true:=decide_eq_true (by omega)
    by_cases h1:l=0
    ·have e2:((l:Int) == 0)=true:=beq_iff_eq.2 (by omega)
     have HR3:Hid (rs x q (y.drop (i+1))=r):=(by
      show _=_
      have:=HR2.out
      rw[if_pos ⟨h0,.inl h1⟩] at this
      exact this)
     clear HR2 h1
     go_wp2
     go_roundw
     case rel=>exact⟨i+1,q,by omega,hcl,rfl,by go_num,trivial,HR3⟩
     case measure=>simp[intOf];omega
    ·have e2:((l:Int) == 0)=false:=beq_eq_false_iff_ne.2 (by omega)
     by_cases h2:q<l
     ·have e3:decide ((q:Int)<(l:Int))=true:=decide_eq_true (by omega)
      have HR3:Hid (rs x q (y.drop (i+1))=r):=(by
       show _=_
       have:=HR2.out
       rw[if_pos ⟨h0,.inr h2⟩] at this
       exact this)
      clear HR2 h1
      go_wp2
      go_roundw
      case rel=>exact⟨i+1,q,by omega,hcl,rfl,by go_num,trivial,HR3⟩
      case measure=>simp[intOf];omega
     ·have e3:decide ((q:Int)<(l:Int))=false:=decide_eq_false (by omega)
      have e4:decide (q<l)=false:=decide_eq_false h2
      have HR3:Hid (rs x l (y.drop (i+1))=r):=(by
       show _=_
       have:=HR2.out
       rw[if_neg (by omega)] at this
       exact this)
      clear HR2 h1
      go_wp2
      go_roundw
      case rel=>exact⟨i+1,l,by omega,hl,rfl,by go_num,trivial,HR3⟩
      case measure=>simp[intOf];omega
   ·have e1:decide ((0:Int)<(q:Int))=false:=decide_eq_false (by omega)
    have e4:decide (0<q)=false:=decide_eq_false h0
    have HR3:Hid (rs x l (y.drop (i+1))=r):=(by
     show _=_
     have:=HR2.out
     rw[if_neg (by omega)] at this
     exact this)
    clear HR2
    go_wp2
    go_roundw
    case rel=>exact⟨i+1,l,by omega,hl,rfl,by go_num,trivial,HR3⟩
    case measure=>simp[intOf];omega
  ·obtain rfl:i=y.length:=by omega
   have e:l=r:=by
    have:=HR.out
    rw[List.drop_of_length_le (Nat.le_refl _)] at this
    exact this
   subst e
   go_wp2
   go_ret
   exact⟨rfl,rfl⟩
end Go.Proofs.YtgiojkhmkeocfaaGreatDoor

/- Pieces of slices of numbers, as values and as what they hold. -/
namespace Go.Proofs.YtgiojkhmkeocfaaGreatDoor
open Go.RowKit
theorem cell_low {u u':World} (h:Below u.heap.size u u') {a:Addr} {v:Value} (hc:u.cell? a=some v):u'.cell? a=some v:=by
 rw[World.cell?_of_block (w:=u) (h.block _ (World.block_lt_of_cell? u _ hc))]
 exact hc
theorem addr_zero (ad:Addr):ad.add 0=ad:=by unfold Addr.add;split<;>simp_all
def slF (ao:Option Addr) (cap k:Nat):Option Addr:=if cap=k then ao else ao.map (·.add k)
theorem run_slF (ao:Option Addr) (n cap k:Nat) (hk:k≤n) (_:n≤cap) (u:World):(Instr.slice 71 (.slice ao n cap) (some (.int .i64 (k:Int))) none none).run Tryz.prog u=.ok (.slice (slF ao cap k) (n-k) (cap-k)) u:=by
 rw[run_slice_l (P:=Tryz.prog) u 71 ao n cap (by kernel_rfl) .i64 k (by omega) (by omega)]
 have:(sizeOf (Tryz.prog.elem 71)).run Tryz.prog u=.ok 1 u:=by kernel_rfl
 rw[this]
 simp[Result.andThen,sliced,slF]
theorem run_slT (ao:Option Addr) (n cap k:Nat) (hk:k≤n) (hn:n≤cap) (u:World):(Instr.slice 71 (.slice ao n cap) none (some (.int .i64 (k:Int))) none).run Tryz.prog u=.ok (.slice ao k cap) u:=by
 rw[run_slice_h (P:=Tryz.prog) u 71 ao n cap (by kernel_rfl) .i64 k (by omega) (by omega)]
 have:(sizeOf (Tryz.prog.elem 71)).run Tryz.prog u=.ok 1 u:=by kernel_rfl
 rw[this]
 cases ao with
 | none=>simp[Result.andThen,sliced]
 | some ad=>simp[Result.andThen,sliced,addr_zero]
theorem hold_cap {w:World} {ao:Option Addr} {n c:Nat} {xs:List Value} (h:Holds w (.slice ao n c) n xs):n≤c:=by
 rcases h with ⟨h,h0,_⟩ | ⟨ad,c',h,h3,_⟩
 ·omega
 ·cases h;exact h3
theorem hold_from {w:World} {ao:Option Addr} {n c k:Nat} {L:List Int} (h:Holds w (.slice ao n c) n (icells L)) (hl:L.length=n) (hk:k≤n):Holds w (.slice (slF ao c k) (n-k) (c-k)) (n-k) (icells (L.drop k)):=by
 have hnc:=hold_cap h
 rcases h with ⟨h,h0,h4⟩ | ⟨ad,c',h,h3,hc⟩
 ·cases h
  have:L=[]:=by simpa [icells] using h4
  subst this
  have:k=0:=by omega
  subst this
  exact .inl ⟨by simp[slF],by simp,by simp[icells]⟩
 ·cases h
  refine .inr ⟨if c=k then ad else ad.add k,c-k,by unfold slF;split<;>simp,by omega,fun j v hj=>?_⟩
  have hj':(icells L)[k+j]?=some v:=by
   simp only[icells,List.map_drop,List.getElem?_drop] at hj ⊢
   exact hj
  have hlt:=(List.getElem?_eq_some_iff.1 hj').1
  rw[icells_length] at hlt
  rw[if_neg (by omega)]
  have h0:=hc 0 _ (List.getElem?_eq_getElem (by rw[icells_length];omega))
  obtain⟨b,off,rfl⟩:=addr_of h0
  have:=hc _ _ hj'
  rw[add_none] at this
  rw[add_none,add_none,Nat.add_assoc]
  exact this
theorem hold_to {w:World} {ao:Option Addr} {n c k:Nat} {L:List Int} (h:Holds w (.slice ao n c) n (icells L)) (hl:L.length=n) (hk:k≤n):Holds w (.slice ao k c) k (icells (L.take k)):=by
 have hnc:=hold_cap h
 rcases h with ⟨h,h0,h4⟩ | ⟨ad,c',h,h3,hc⟩
 ·cases h
  have:L=[]:=by simpa [icells] using h4
  subst this
  have:k=0:=by omega
  subst this
  exact .inl ⟨by simp,by simp,by simp[icells]⟩
 ·cases h
  refine .inr ⟨ad,c,rfl,by omega,fun j v hj=>hc j v ?_⟩
  rw[icells,List.map_take] at hj
  rw[icells]
  by_cases hjk:j<k
  ·rw[List.getElem?_take_of_lt hjk] at hj
   exact hj
  ·rw[List.getElem?_eq_none (by simp;omega)] at hj
   cases hj
theorem sub_drop (x:List Int) (a b k:Nat):(sub x a b).drop k=sub x (a+k) b:=by
 unfold sub
 rw[List.drop_take,List.drop_drop]
 congr 1
 omega
theorem sub_take (x:List Int) (a b k:Nat) (hk:a+k≤b):(sub x a b).take k=sub x a (a+k):=by
 unfold sub
 rw[List.take_take]
 congr 1
 omega
theorem sub_all (x:List Int):sub x 0 x.length=x:=by simp[sub]
theorem holds_grown {u u':World} {B n:Nat} {e:TypeId} {s:Nat} {v:Value} {xs:List Value} (h:u.ownsRow B e s v n xs) {g:Nat} (hg:u.grownBy u' (some g)) (hB:g<B):u'.ownsRow B e s v n xs:=by
 refine h.kept hg ?_
 cases hb:v.ownBlock with
 | none=>exact .inl rfl
 | some j =>
  have:=owns_ge h hb
  exact .inr (fun q=>by cases q;omega)
theorem Ls.lt {w u:World} {g n:Nat} {Z:List Int} (h:Ls w g n Z u):w.heap.size≤g∧g<u.heap.size:=by
 rcases h.own.2 with ⟨h1,_⟩ | ⟨g',cap,cur,h1,h2,h3,_⟩
 ·cases h1
 ·cases h1
  exact⟨h2,(Array.getElem?_eq_some_iff.1 h3).1⟩
end Go.Proofs.YtgiojkhmkeocfaaGreatDoor

/- Where the rarest classes stand: places and partners, walked. -/
namespace Go.Proofs.YtgiojkhmkeocfaaGreatDoor
open Go.RowKit Go.Maps
def pl (x:List Int) (R:Nat) (t:List Int) (c:Int):List Nat:=if x.count c=R then (List.range t.length).filter (fun j=>decide (t[j]?=some c)) else []
theorem pl_snoc (x:List Int) (R:Nat) (t:List Int) (a c:Int):pl x R (t++[a]) c=if x.count a=R∧a=c then pl x R t c++[t.length] else pl x R t c:=by
 unfold pl
 have hf:((List.range t.length).filter fun j=>decide ((t++[a])[j]?=some c))=(List.range t.length).filter fun j=>decide (t[j]?=some c):=by
  apply List.filter_congr
  intro j hj
  rw[List.mem_range] at hj
  rw[List.getElem?_append_left hj]
 by_cases h:x.count c=R
 ·rw[if_pos h,if_pos h,List.length_append,List.length_singleton,List.range_succ,List.filter_append,hf]
  by_cases e:a=c
  ·subst e
   rw[if_pos ⟨h,rfl⟩]
   congr 1
   simp
  ·rw[if_neg (fun q=>e q.2)]
   have:([t.length].filter fun j=>decide ((t++[a])[j]?=some c))=[]:=by simp[e]
   rw[this,List.append_nil]
 ·rw[if_neg h,if_neg h]
  by_cases e:a=c
  ·subst e
   rw[if_neg (fun q=>h q.1)]
  ·rw[if_neg (fun q=>e q.2)]
theorem pl_nil (x:List Int) (R:Nat) (c:Int):pl x R [] c=[]:=by simp[pl]
theorem pl_le (x:List Int) (R:Nat) (t:List Int) (c:Int):(pl x R t c).length≤t.length:=by
 unfold pl
 split
 ·exact Nat.le_trans (List.length_filter_le _ _) (by simp)
 ·simp
theorem pl_pj (x y:List Int) (R i:Nat) (hi:i<x.length):pl x R y x[i]=pj x y R i:=by
 unfold pl pj
 rw[cnt_at (List.getElem?_eq_getElem hi),List.getElem?_eq_getElem hi]
def nI (l:List Nat):List Int:=l.map fun (n:Nat)=>(n:Int)
theorem nI_append (a b:List Nat):nI (a++b)=nI a++nI b:=by simp[nI]
structure Gd (D:DataW Unit) (f:Int→List Nat):Prop where
 tidy:IsMap D
 at_:∀ c,D.atKey (.int .i64 c) .nil=if f c=[] then .nil else .slice (ChangeShapes.lits .i64 (nI (f c))) []
theorem lits_inj {a b:List Int} (h:ChangeShapes.lits (H:=Unit) .i64 a=ChangeShapes.lits .i64 b):a=b:=by
 unfold ChangeShapes.lits at h
 exact (List.map_inj_right (fun u v huv=>by cases huv;rfl)).1 h
theorem Gd.zs {D:DataW Unit} {f:Int→List Nat} (h:Gd D f) {w:World} {base:Nat} {e:TypeId} {v:Value} {zs:List Int} {c:Int} (ho:w.ownsInts base e .i64 v zs) (ha:D.atKey (.int .i64 c) .nil=rowDatum .i64 v zs):zs=nI (f c):=by
 rw[h.at_] at ha
 rcases ho.datum (H:=Unit) with ⟨h1,h2⟩ | h1
 ·rw[h1] at ha
  by_cases e:f c=[]
  ·rw[h2,e];rfl
  ·rw[if_neg e] at ha;cases ha
 ·rw[h1] at ha
  by_cases e:f c=[]
  ·rw[if_pos e] at ha;cases ha
  ·rw[if_neg e] at ha
   injection ha with ha
   exact (lits_inj ha).symm
theorem Gd.nil (x:List Int) (R:Nat):Gd (.map []) (pl x R []):=⟨isMap_empty,fun c=>by rw[atKey_of_not_has rfl,if_pos (pl_nil x R c)]⟩
theorem Gd.put {D:DataW Unit} {x:List Int} {R:Nat} {t:List Int} (h:Gd D (pl x R t)) {a:Int} (ha:x.count a=R):Gd (D.put (.int .i64 a) (.slice (ChangeShapes.lits .i64 (nI (pl x R t a)++[(t.length:Int)])) [])) (pl x R (t++[a])):=by
 have hk:WideAt.IsKeyLit (.int .i64 a):=trivial
 have hne:∀ {g:Int},a≠g→(Lit.int .i64 g)≠.int .i64 a:=fun hg e=>hg (by cases e;rfl)
 refine⟨h.tidy.put _ _,fun c=>?_⟩
 by_cases e:a=c
 ·subst e
  have e2:pl x R (t++[a]) a=pl x R t a++[t.length]:=by rw[pl_snoc,if_pos ⟨ha,rfl⟩]
  rw[atKey_put_same h.tidy hk,e2,if_neg (by simp),nI_append]
  rfl
 ·have e2:pl x R (t++[a]) c=pl x R t c:=by rw[pl_snoc,if_neg (fun q=>e q.2)]
  rw[atKey_put_other (hne e),h.at_,e2]
theorem Gd.skip {D:DataW Unit} {x:List Int} {R:Nat} {t:List Int} (h:Gd D (pl x R t)) {a:Int} (ha:x.count a≠R):Gd D (pl x R (t++[a])):=by
 refine⟨h.tidy,fun c=>?_⟩
 have e2:pl x R (t++[a]) c=pl x R t c:=by rw[pl_snoc,if_neg (fun q=>ha q.1)]
 rw[e2]
 exact h.at_ c
def Gm (x:List Int) (R:Nat) (t:List Int) (b base:Nat) (w:World):Prop:=∃ m D,m≤t.length∧w.ownsGroups Tryz.prog 3 base 3 .i64 b m D∧Gd D (pl x R t)
theorem zeroIs (w:World):(zeroValue 71).run Tryz.prog w=.ok (.slice none 0 0) w:=by kernel_rfl
theorem hplaces_f (x y:List Int) (R Bc:Nat) (v:Value) (w:World) (hM:Mc x Bc w) (hy:HI w v y) (hyl:y.length≤1048576) (hw:∀ c∈y,w64 c) :
  Calls Tryz.prog 260 #[v,.map (some Bc),.int .i64 (R:Int)] w fun e w'=>e=.returned (.map (some w.heap.size))∧Gm x R y w.heap.size (w.heap.size+1) w'∧Below w.heap.size w w':=by
 obtain⟨yo,yc,rfl⟩:=Holds.form hy
 have hmm:=@run_makeMap Tryz.prog
 obtain⟨i0,hi0,hz0,hz1,hz2⟩:=info_parts infoInt
 have HW:Hid (∀ c∈y,w64 c):=hw
 have hBc:=hM.lt
 clear hw
 go_enter Tryz.func260,Tryz.ntmps260
 go_wp2
 go_loopw [13] (fun iv wr=>∃ (i:Nat),i≤y.length∧iv=.int .i64 i∧Gm x R (y.take i) w.heap.size (w.heap.size+1) wr∧Below w.heap.size w wr∧w.heap.size+1≤wr.heap.size) (fun iv _=>y.length-(intOf iv).toNat)
 case atStart=>exact⟨0,Nat.zero_le _,rfl,⟨0,_,Nat.zero_le _,World.ownsGroups_made _ _ _ _ _,Gd.nil x R⟩,(Below.refl _ w).alloc (Nat.le_refl _) _,by simp⟩
 case round =>
  clear hmm
  obtain⟨i,hi,rfl,hG,hB,hws⟩:=hrel
  have hs:=hB.size
  by_cases hil:i<y.length
  ·obtain⟨b,off,rfl,_,hc⟩:=HI.at (HI.keep hy hB (Nat.le_refl _)) (by omega)
   have c0:=hc i hil
   obtain⟨z,hz⟩:∃ z,y[i]=z:=⟨_,rfl⟩
   rw[hz] at c0
   have hzw:w64 z:=by rw[← hz];exact HW.out _ (List.getElem_mem hil)
   have htl:(y.take i).length=i:=by simp;omega
   have HT:Hid (y.take (i+1)=y.take i++[z]):=(by show _=_;rw[List.take_succ_eq_append_getElem hil,hz])
   have hlk:=(hM.keep (hB.block Bc hBc)).look hzw
   obtain⟨q,hq⟩:∃ q,x.count z=q:=⟨_,rfl⟩
   have HQ:Hid (x.count z=q):=hq
   rw[hq] at hlk
   clear hc hz hq
   have i1:0≤(i:Int):=by omega
   have i2:(i:Int)<(y.length:Int):=by omega
   obtain⟨m,D,hm,hown,hgd⟩:=hG
   rw[htl] at hm
   by_cases hqR:q=R
   ·subst hqR
    obtain⟨v,zs,hrun,hat,hoi,hzl,hback⟩:=hown.at hKeyed Tryz.underlying319 (zeroIs wr) (by unfold maxLen;omega) (hKey hzw)
    have HZS:Hid (zs=nI (pl x q (y.take i) z)):=hgd.zs hoi hat
    have HGD:Hid (Gd D (pl x q (y.take i))):=hgd
    clear hgd hat
    go_wp2_with (at_builtin;refine wpList_append_own_at _ (by kernel_rfl) (.tmp 27) (.tmp 29) 71 rfl (w.heap.size+1) 3 i0 (.int .i64 0) 1 8 Tryz.underlying71 hi0 hz0 hz1 hz2 rfl (by decide) v zs.length (zs.map (Value.int .i64)) (by kernel_rfl) (hoi.1.alloc _) ⟨wr.heap.size,0,none⟩ 1 1 [.int .i64 (i:Int)] (by kernel_rfl) rfl (cell_one_new _ _ _) (by simp[Value.oneCell']) (by unfold maxLen;omega) (by omega) (by simp;omega) ?_)
    intro v' w1 hown' hgrow hnil hloc
    have hall:=(World.grownBy_alloc wr _ _).trans hgrow
    have hoi':=hoi.appended hown' (WalkArith.wf_i64 (by omega))
    obtain⟨w2,hst,hown2,hgrow2⟩:=hback w1 v' (zs++[(i:Int)]) hall hoi' (by simp;omega) (hloc.imp id (fun h=>⟨_,h,by simp⟩))
    have hB2:=hB.groups hoi hall hgrow2 hs (Nat.le_succ _) (Nat.le_refl _)
    have hG2:Gm x q (y.take (i+1)) w.heap.size (w.heap.size+1) w2:=by
     refine⟨m+1,_,?_,hown2,?_⟩
     ·rw[List.length_take];omega
     ·rw[hoi'.datum_pos (by simp),HT.out,HZS.out]
      have:=HGD.out.put (a:=z) HQ.out
      rw[htl] at this
      exact this
    have hs2:=Nat.le_trans hall.size hgrow2.size
    clear hown' hgrow hnil hloc hoi' hown2 hall hback hrun hoi hown hgrow2
    go_wp2
    go_roundw
    case rel=>exact⟨i+1,by omega,by go_num,hG2,hB2,by omega⟩
    case measure=>simp[intOf];omega
   ·have e1:((q:Int) == (R:Int))=false:=beq_eq_false_iff_ne.2 (by omega)
    have hG2:Gm x R (y.take (i+1)) w.heap.size (w.heap.size+1) wr:=by
     refine⟨m,D,?_,hown,?_⟩
     ·rw[List.length_take];omega
     ·rw[HT.out]
      exact hgd.skip (by rw[HQ.out];exact hqR)
    clear hown hgd hqR
    go_wp2
    go_roundw
    case rel=>exact⟨i+1,by omega,by go_num,hG2,hB,hws⟩
    case measure=>simp[intOf];omega
  ·obtain rfl:i=y.length:=by omega
   rw[List.take_length] at hG
   go_wp2
   go_ret
   exact⟨rfl,hG,hB⟩
theorem run_makeRow {T E:TypeId} {z:Value} {bytes:Nat} (hT:Tryz.prog.underlying T=some (.slice E)) (hinfo:(Tryz.prog.info? E).map (fun i=>(i.zero,i.size,i.bytes))=some (some z,1,bytes)) (hby:bytes≤32) (n:Int) (N:Nat) (hn:n=(N:Int)) (hN:N≤1099511627776) (W:World) :
  (Instr.makeSlice T (.int .i64 n) (.int .i64 n)).run Tryz.prog W=.ok (.slice (some ⟨W.heap.size,0,none⟩) N N) (W.alloc (.cells (madeCells z.cells N) E)):=by
 subst hn
 obtain⟨i0,hi,hz0,hzs,hz2⟩:=info_parts hinfo
 have h1:i0.bytes * N≤32 * 1099511627776:=by rw[hz2];exact Nat.mul_le_mul hby hN
 have hr:=run_make (P:=Tryz.prog) W T E i0 z hT hi hz0 .i64 .i64 (N:Int) (N:Int) (by omega) (Int.le_refl _) (by
  have:((i0.bytes * N:Nat):Int)≤281474976710656:=by omega
  rwa [Int.natCast_mul] at this) (by omega)
 simpa [hzs] using hr
theorem infoIs:(Tryz.prog.info? 71).map (fun i=>(i.zero,i.size,i.bytes))=some (some (.slice none 0 0),1,24):=by kernel_rfl
theorem Gm.low {x:List Int} {R:Nat} {t:List Int} {b base:Nat} {w w':World} (h:Gm x R t b base w) (hb:Below w.heap.size w w'):Gm x R t b base w':=by
 obtain⟨m,D,h1,h2,h3⟩:=h
 exact⟨m,D,h1,h2.kept (low_grown hb none) (by simp) (fun _ _ _ e _=>by cases e.val.ownBlock<;>simp),h3⟩
def Prt (x y:List Int) (R base k:Nat) (vs:List Value) (w:World):Prop:=vs.length=x.length∧∀ i,i<k→∃ v,vs[i]?=some v∧w.ownsInts base 3 .i64 v (nI (pj x y R i))
theorem ints_other {w:World} {base:Nat} {v:Value} {zs:List Int} (h:w.ownsInts base 3 .i64 v zs) {g:Nat} {cs:Array Value} {fz:Nat × Nat} (hg:w.heap[g]?=some (.cells cs 71 fz)) (j:Nat) (u:Value):(w.setCell ⟨g,j,none⟩ u).ownsInts base 3 .i64 v zs:=by
 refine h.kept (grown_set w g j u) ?_
 rcases h.1.2 with ⟨rfl,_⟩ | ⟨g',cap,cur,rfl,_,h2,_⟩
 ·exact .inl rfl
 ·right
  intro e
  simp[Value.ownBlock] at e
  subst e
  rw[h2] at hg
  cases hg
theorem Prt.set {x y:List Int} {R base k:Nat} {vs:List Value} {w:World} (h:Prt x y R base k vs w) (hk:k<x.length) {g:Nat} {cs:Array Value} {fz:Nat × Nat} (hg:w.heap[g]?=some (.cells cs 71 fz)) {v:Value} (hv:w.ownsInts base 3 .i64 v (nI (pj x y R k))):Prt x y R base (k+1) (vs.set k v) (w.setCell ⟨g,k,none⟩ v):=by
 refine⟨by rw[List.length_set];exact h.1,fun i hi=>?_⟩
 by_cases e:i=k
 ·subst e
  exact⟨v,List.getElem?_set_self (by rw[h.1];exact hk),ints_other hv hg _ _⟩
 ·obtain⟨u,h1,h2⟩:=h.2 i (by omega)
  exact⟨u,by rw[List.getElem?_set_ne (fun q=>e q.symm)];exact h1,ints_other h2 hg _ _⟩
theorem Prt.low {x y:List Int} {R base k:Nat} {vs:List Value} {w w':World} (h:Prt x y R base k vs w) (hb:Below w.heap.size w w'):Prt x y R base k vs w' :=
 ⟨h.1,fun i hi=>by obtain⟨v,h1,h2⟩:=h.2 i hi;exact⟨v,h1,h2.kept (low_grown hb none) (by cases v.ownBlock<;>simp)⟩⟩
theorem partners_f (x y:List Int) (R b base:Nat) (v:Value) (w:World) (hG:Gm x R y b base w) (hx:HI w v x) (hxl:x.length≤1048576) (hyl:y.length≤1048576) (hw:∀ c∈x,w64 c) :
  Calls Tryz.prog 259 #[v,.map (some b)] w fun e w'=>∃ vs,e=.returned (.slice (some ⟨w.heap.size,0,none⟩) x.length x.length)∧w'.ownsRow w.heap.size 71 1 (.slice (some ⟨w.heap.size,0,none⟩) x.length x.length) x.length vs∧Prt x y R base x.length vs w'∧Below w.heap.size w w':=by
 obtain⟨xo,xc,rfl⟩:=Holds.form hx
 have hmk:=run_makeRow (T:=317) Tryz.underlying317 infoIs (by decide) (x.length:Int) x.length rfl (by omega)
 have hrow:=World.ownsRow_lit (base:=w.heap.size) (e:=71) (size:=1) w (madeCells #[.slice none 0 0] x.length) x.length (Nat.le_refl _) (by unfold maxLen;omega) (by rw[size_madeCells];simp)
 have HW:Hid (∀ c∈x,w64 c):=hw
 clear hw
 go_enter Tryz.func259,Tryz.ntmps259
 go_wp2
 go_loopw [13] (fun iv wr=>∃ (i:Nat) (vs:List Value),i≤x.length∧iv=.int .i64 i∧wr.ownsRow w.heap.size 71 1 (.slice (some ⟨w.heap.size,0,none⟩) x.length x.length) x.length vs∧Prt x y R base i vs wr∧Below w.heap.size w wr) (fun iv _=>x.length-(intOf iv).toNat)
 case atStart=>exact⟨0,_,Nat.zero_le _,rfl,hrow,⟨by have:=hrow.1;simpa using this,fun i hi=>by omega⟩,(Below.refl _ w).alloc (Nat.le_refl _) _⟩
 case round =>
  clear hmk hrow
  obtain⟨i,vs,hi,rfl,hO,hP,hB⟩:=hrel
  have hs:=hB.size
  by_cases hil:i<x.length
  ·obtain⟨bx,off,rfl,_,hc⟩:=HI.at (HI.keep hx hB (Nat.le_refl _)) (by omega)
   have c0:=hc i hil
   have hzw:w64 x[i]:=HW.out _ (List.getElem_mem hil)
   obtain⟨m,D,hm,hown,hgd⟩:=hG
   have hown2:=hown.kept (low_grown hB none) (by simp) (fun _ _ _ e _=>by cases e.val.ownBlock<;>simp)
   obtain⟨v2,zs2,hrun,hat2,hoi2,hzl2,_⟩:=hown2.at hKeyed Tryz.underlying319 (zeroIs wr) (by unfold maxLen;omega) (hKey hzw)
   have hzs:=hgd.zs hoi2 hat2
   rw[pl_pj x y R i hil] at hzs
   rw[hzs] at hoi2
   obtain⟨z,hz⟩:∃ z,x[i]=z:=⟨_,rfl⟩
   rw[hz] at c0 hrun
   obtain⟨so,sc,rfl⟩:=(holds_of hoi2.1).form
   obtain⟨cs,hcs⟩:∃ cs,wr.heap[w.heap.size]?=some (.cells cs 71 (0,0)):=by
    rcases hO.2 with ⟨h,_⟩ | ⟨g',cap,cur,h,_,h2,_⟩
    ·cases h
    ·cases h;exact⟨_,h2⟩
   have hvl:=hP.1
   have y0:=hO.cellAt i (by omega)
   rw[List.getElem?_eq_getElem (by omega)] at y0
   have f0:=hO.frozenAt i
   obtain⟨p1,g1⟩:=hO.stored i (.slice so (nI (pj x y R i)).length sc)
   have hP2:=hP.set hil hcs hoi2
   have hB':Below w.heap.size w (wr.setCell ⟨w.heap.size,i,none⟩ (.slice so (nI (pj x y R i)).length sc)):=hB.grown g1 hs (fun j hj=>owns_ge hO (by simpa [Value.ownBlock] using hj))
   obtain⟨n2,hn2⟩:∃ n,(nI (pj x y R i)).length=n:=⟨_,rfl⟩
   rw[hn2] at hrun p1 hP2 hB'
   clear hc hz hat2 hoi2 hzs hown hown2 hgd hm hO hP hcs g1
   have i1:0≤(i:Int):=by omega
   have i2:(i:Int)<(x.length:Int):=by omega
   generalize vs[i]=old at y0
   go_wp2
   go_roundw
   case rel=>exact⟨i+1,_,by omega,by go_num,p1,hP2,hB'⟩
   case measure=>simp[intOf];omega
  ·obtain rfl:i=x.length:=by omega
   go_wp2
   go_ret
   exact⟨vs,rfl,hO,hP,hB⟩
end Go.Proofs.YtgiojkhmkeocfaaGreatDoor

/- Small functions of the layer histogram: same, cmp.Compare, cmp.Or, outdoes, walked. -/
namespace Go.Proofs.YtgiojkhmkeocfaaGreatDoor
open Go.RowKit
theorem same_f (x y:List Int) (vx vy:Value) (w:World) (hx:HI w vx x) (hy:HI w vy y) (hxl:x.length≤1048576) (r:Nat) (hr:Hid (fr x y=r)) :
  Calls Tryz.prog 261 #[vx,vy] w fun e w'=>e=.returned (.int .i64 (r:Int))∧Below w.heap.size w w':=by
 obtain⟨xo,xc,rfl⟩:=Holds.form hx
 obtain⟨yo,yc,rfl⟩:=Holds.form hy
 have HF0:Hid (fr (x.drop 0) (y.drop 0)+0=r):=hr
 go_enter Tryz.func261,Tryz.ntmps261
 go_wp2
 go_loopw [5] (fun iv wr=>∃ k:Nat,k≤x.length∧k≤y.length∧iv=.int .i64 k∧Below w.heap.size w wr∧Hid (fr (x.drop k) (y.drop k)+k=r)) (fun iv _=>x.length-(intOf iv).toNat)
 case atStart=>exact⟨0,Nat.zero_le _,Nat.zero_le _,rfl,Below.refl _ _,HF0⟩
 case round =>
  clear HF0
  obtain⟨k,hkx,hky,rfl,hBr,HF⟩:=hrel
  obtain⟨q,hq⟩:∃ q,decide (k<x.length∧k<y.length∧x[k]?=y[k]?)=q:=⟨_,rfl⟩
  have HQ:Hid (decide (k<x.length∧k<y.length∧x[k]?=y[k]?)=q):=hq
  clear hq
  have i1:0≤(k:Int):=by omega
  go_wp2_with fail
  go_cut [26] from 6 to 28 (fun z wz=>z=.bool q∧∃ m,wz=wr.drewN m)
  case first =>
   by_cases h3:k<x.length
   ·have e7:decide ((k:Int)<(x.length:Int))=true:=decide_eq_true (by omega)
    by_cases h4:k<y.length
    ·have e8:decide ((k:Int)<(y.length:Int))=true:=decide_eq_true (by omega)
     obtain⟨xb,xf,rfl,_,hcx⟩:=HI.at (HI.keep hx hBr (Nat.le_refl _)) (by omega)
     obtain⟨yb,yf,rfl,_,hcy⟩:=HI.at (HI.keep hy hBr (Nat.le_refl _)) (by omega)
     have x0:=hcx k (by omega)
     have y0:=hcy k (by omega)
     obtain⟨zx,hzx⟩:∃ z,x[k]=z:=⟨_,rfl⟩
     obtain⟨zy,hzy⟩:∃ z,y[k]=z:=⟨_,rfl⟩
     rw[hzx] at x0
     rw[hzy] at y0
     have i2:(k:Int)<(x.length:Int):=by omega
     have i3:(k:Int)<(y.length:Int):=by omega
     have e9:(zx == zy)=q:=by
      rw[← HQ.out,List.getElem?_eq_getElem h3,List.getElem?_eq_getElem h4,hzx,hzy]
      by_cases q:zx=zy<;>simp[h3,h4,q]
     clear hcx hcy hzx hzy HQ
     go_big_quiet (fail)
     go_wp2
     go_meet
     case rel=>exact⟨rfl,_,rfl⟩
    ·have e8:decide ((k:Int)<(y.length:Int))=false:=decide_eq_false (by omega)
     obtain rfl:q=false:=by rw[← HQ.out];simp[h4]
     go_big_quiet (fail)
     go_wp2
     go_meet
     case rel=>exact⟨rfl,_,rfl⟩
   ·have e7:decide ((k:Int)<(x.length:Int))=false:=decide_eq_false (by omega)
    obtain rfl:q=false:=by rw[← HQ.out];simp[h3]
    go_big_quiet (fail)
    go_wp2
    go_meet
    case rel=>exact⟨rfl,_,rfl⟩
  case rest =>
   obtain⟨rfl,mq,rfl⟩:=hcut
   have hBq:=Below.dN hBr mq
   clear hBr
   generalize wr.drewN mq=wq at hBq ⊢
   cases q with
   | true =>
    obtain⟨h3,h4,h5⟩:=of_decide_eq_true HQ.out
    have HF2:Hid (fr (x.drop (k+1)) (y.drop (k+1))+(k+1)=r):=(by
     show _=_
     rw[← HF.out,fr_step x y k h3 h4,if_pos (by rw[List.getElem?_eq_getElem h3,List.getElem?_eq_getElem h4] at h5;simpa using h5)]
     omega)
    clear HF HQ
    go_wp2
    go_roundw
    case rel=>exact⟨k+1,by omega,by omega,by go_num,hBq,HF2⟩
    case measure=>simp[intOf];omega
   | false =>
    have hk:k=r:=by
     have h3:=of_decide_eq_false HQ.out
     rw[← HF.out]
     by_cases hx':k<x.length
     ·by_cases hy':k<y.length
      ·rw[fr_step x y k hx' hy',if_neg (fun e=>h3 ⟨hx',hy',by rw[List.getElem?_eq_getElem hx',List.getElem?_eq_getElem hy',e]⟩)]
       omega
      ·rw[List.drop_of_length_le (l:=y) (by omega)]
       cases x.drop k<;>simp[fr]
     ·rw[List.drop_of_length_le (l:=x) (by omega)]
      simp[fr]
    subst hk
    clear HF HQ
    go_wp2
    go_ret
    exact⟨rfl,hBq⟩
def cmpI (a b:Int):Int:=if a<b then -1 else if b<a then 1 else 0
theorem isNaN_f (a:Int) (w:World):Calls Tryz.prog 299 #[.int .i64 a] w fun e w'=>e=.returned (.bool false)∧w=w':=by
 go_enter Tryz.func299,Tryz.ntmps299
 go_wp2
 go_ret
 exact⟨by first | rfl | (simp;done),rfl⟩
theorem Compare_f (a b r:Int) (w:World) (hr:Hid (cmpI a b=r)):Calls Tryz.prog 284 #[.int .i64 a,.int .i64 b] w fun e w'=>e=.returned (.int .i64 r)∧w=w':=by
 go_enter Tryz.func284,Tryz.ntmps284
 go_wp2_with fail
 refine (isNaN_f a w).mono ?_
 rintro e w1 ⟨rfl,rfl⟩
 go_wp2_with fail
 refine (isNaN_f b w).mono ?_
 rintro e w1 ⟨rfl,rfl⟩
 by_cases h1:a<b
 ·obtain rfl:-1=r:=by rw[← hr.out,cmpI,if_pos h1]
  go_wp2
  go_ret
  exact⟨rfl,rfl⟩
 ·by_cases h2:b<a
  ·obtain rfl:1=r:=by rw[← hr.out,cmpI,if_neg h1,if_pos h2]
   go_wp2
   go_ret
   exact⟨rfl,rfl⟩
  ·obtain rfl:0=r:=by rw[← hr.out,cmpI,if_neg h1,if_neg h2]
   go_wp2
   go_ret
   exact⟨rfl,rfl⟩
def orL:List Int→Int
 | []=>0
 | a::l=>if a=0 then orL l else a
theorem Or_f (l:List Int) (v:Value) (w:World) (hl:HI w v l) (hll:l.length≤1048576) (r:Int) (hr:Hid (orL l=r)):Calls Tryz.prog 283 #[v] w fun e w'=>e=.returned (.int .i64 r)∧w=w':=by
 obtain⟨lo,lc,rfl⟩:=Holds.form hl
 go_enter Tryz.func283,Tryz.ntmps283
 go_wp2
 go_loopw [8] (fun iv wr=>∃ k:Nat,k≤l.length∧iv=.int .i64 k∧wr=w∧Hid (orL (l.drop k)=r)) (fun iv _=>l.length-(intOf iv).toNat)
 case atStart=>exact⟨0,Nat.zero_le _,rfl,rfl,hr⟩
 case round =>
  obtain⟨k,hk,rfl,rfl,HR⟩:=hrel
  by_cases hlt:k<l.length
  ·obtain⟨b,off,rfl,_,hc⟩:=HI.at hl (by omega)
   have c0:=hc k hlt
   obtain⟨z,hz⟩:∃ z,l[k]=z:=⟨_,rfl⟩
   rw[hz] at c0
   have HR2:Hid ((if z=0 then orL (l.drop (k+1)) else z)=r):=(by
    show _=_
    have:=HR.out
    rw[List.drop_eq_getElem_cons hlt,orL,hz] at this
    exact this)
   clear hc hz HR
   have i1:0≤(k:Int):=by omega
   have i2:(k:Int)<(l.length:Int):=by omega
   by_cases h0:z=0
   ·have e1:(z != 0)=false:=by simp[h0]
    have HR3:Hid (orL (l.drop (k+1))=r):=(by
     show _=_
     have:=HR2.out
     rw[if_pos h0] at this
     exact this)
    clear HR2 h0
    go_wp2
    go_roundw
    case rel=>exact⟨k+1,by omega,by go_num,trivial,HR3⟩
    case measure=>simp[intOf];omega
   ·have e1:(z != 0)=true:=by simp[h0]
    obtain rfl:z=r:=by
     have:=HR2.out
     rw[if_neg h0] at this
     exact this
    clear HR2 h0
    go_wp2
    go_ret
    exact⟨rfl,rfl⟩
  ·obtain rfl:k=l.length:=by omega
   obtain rfl:0=r:=by
    rw[← HR.out,List.drop_of_length_le (Nat.le_refl _)]
    rfl
   go_wp2
   go_ret
   exact⟨rfl,rfl⟩
theorem cmp_lt {a b:Nat} (h:a<b):cmpI a b=-1:=by unfold cmpI;rw[if_pos (by omega)]
theorem cmp_gt {a b:Nat} (h:b<a):cmpI a b=1:=by unfold cmpI;rw[if_neg (by omega),if_pos (by omega)]
theorem cmp_eq {a b:Nat} (h:a=b):cmpI a b=0:=by unfold cmpI;rw[if_neg (by omega),if_neg (by omega)]
theorem or_bt (r b:Hr):decide (0<orL [cmpI r.N b.N,cmpI b.X r.X,cmpI b.Y r.Y])=btC r b:=by
 unfold btC
 rcases Nat.lt_trichotomy r.N b.N with h | h | h
 ·rw[cmp_lt h]
  simp[orL]
  omega
 ·rcases Nat.lt_trichotomy b.X r.X with h2 | h2 | h2
  ·rw[cmp_eq h,cmp_lt h2]
   simp[orL]
   omega
  ·rcases Nat.lt_trichotomy b.Y r.Y with h3 | h3 | h3
   ·rw[cmp_eq h,cmp_eq h2,cmp_lt h3]
    simp[orL]
    omega
   ·rw[cmp_eq h,cmp_eq h2,cmp_eq h3]
    simp[orL]
    omega
   ·rw[cmp_eq h,cmp_eq h2,cmp_gt h3]
    simp[orL,h,h2,h3]
  ·rw[cmp_eq h,cmp_gt h2]
   simp[orL,h,h2]
 ·rw[cmp_gt h]
  simp[orL,h]
end Go.Proofs.YtgiojkhmkeocfaaGreatDoor

/- Whether a run is rather held on to: outdoes, walked. -/
namespace Go.Proofs.YtgiojkhmkeocfaaGreatDoor
open Go.RowKit
def hrV (r:Hr):Value:=.agg #[.int .i64 (r.X:Int),.int .i64 (r.Y:Int),.int .i64 (r.N:Int),.int .i64 (r.R:Int)]
def Hbx (u:World) (B:Nat) (r:Hr):Prop:=u.heap[B]?=some (.cells #[.int .i64 (r.X:Int),.int .i64 (r.Y:Int),.int .i64 (r.N:Int),.int .i64 (r.R:Int)] 286 (0,0))
section
variable {u u':World} {B:Nat} {r:Hr}
theorem Hbx.cells (h:Hbx u B r):u.cell? ⟨B,0,none⟩=some (.int .i64 (r.X:Int))∧u.cell? ⟨B,1,none⟩=some (.int .i64 (r.Y:Int))∧u.cell? ⟨B,2,none⟩=some (.int .i64 (r.N:Int))∧u.cell? ⟨B,3,none⟩=some (.int .i64 (r.R:Int)):=by
 refine⟨?_,?_,?_,?_⟩<;>rw[Lib.cell_of_heap h]<;>rfl
theorem Hbx.frozen (h:Hbx u B r) (j:Nat):u.frozen? ⟨B,j,none⟩=false:=by
 unfold World.frozen?
 rw[h]
 rfl
theorem Hbx.lt (h:Hbx u B r):B<u.heap.size:=(Array.getElem?_eq_some_iff.1 h).1
theorem Hbx.keep (h:Hbx u B r) {g:Option Nat} (hg:u.grownBy u' g) (hr:some B≠g):Hbx u' B r:=(hg.block B h.lt hr).trans h
theorem Hbx.low (h:Hbx u B r) (hg:Below u.heap.size u u'):Hbx u' B r:=(hg.block B h.lt).trans h
theorem Hbx.new (w:World) (r:Hr):Hbx (w.alloc (.cells #[.int .i64 (r.X:Int),.int .i64 (r.Y:Int),.int .i64 (r.N:Int),.int .i64 (r.R:Int)] 286)) w.heap.size r:=_root_.Go.heap_alloc_new w _
end
theorem compare_held {a b r:Int} {W u:World} (hr:Hid (cmpI a b=r)) (hL:Low W u):Calls Tryz.prog 284 (#[.int .i64 a,.int .i64 b]++#[]) u fun e w'=>∃ v,e=.returned v∧Low W w'∧v=.int .i64 r:=by
 refine (Compare_f a b r u hr).mono ?_
 rintro e w' ⟨rfl,rfl⟩
 exact⟨_,rfl,hL,rfl⟩
theorem or_held (l:List Int) {v:Value} {W u:World} (hl:HI u v l) (hll:l.length≤1048576) {r:Int} (hr:Hid (orL l=r)) (hL:Low W u):Calls Tryz.prog 283 (#[v]++#[]) u fun e w'=>∃ v,e=.returned v∧Low W w'∧v=.int .i64 r:=by
 refine (Or_f l v u hl hll r hr).mono ?_
 rintro e w' ⟨rfl,rfl⟩
 exact⟨_,rfl,hL,rfl⟩
theorem outdoes_f (r b:Hr) (q:Bool) (w:World) (hq:Hid (btC r b=q)) :
  Calls Tryz.prog 262 #[hrV r,hrV b] w fun e w'=>e=.returned (.bool q)∧Below w.heap.size w w':=by
 unfold hrV
 obtain⟨z1,h1⟩:∃ z,cmpI r.N b.N=z:=⟨_,rfl⟩
 obtain⟨z2,h2⟩:∃ z,cmpI b.X r.X=z:=⟨_,rfl⟩
 obtain⟨z3,h3⟩:∃ z,cmpI b.Y r.Y=z:=⟨_,rfl⟩
 obtain⟨z4,h4⟩:∃ z,orL [z1,z2,z3]=z:=⟨_,rfl⟩
 have HQ:Hid (decide (0<z4)=q):=(by show _=_;rw[← hq.out,← or_bt,h1,h2,h3,h4])
 have H1:Hid (cmpI r.N b.N=z1):=h1
 have H2:Hid (cmpI b.X r.X=z2):=h2
 have H3:Hid (cmpI b.Y r.Y=z3):=h3
 have H4:Hid (orL [z1,z2,z3]=z4):=h4
 clear h1 h2 h3 h4 hq
 have hb1:=(Hbx.new w r).low ((Below.refl _ _).alloc (Nat.le_refl _) (.cells #[.int .i64 (b.X:Int),.int .i64 (b.Y:Int),.int .i64 (b.N:Int),.int .i64 (b.R:Int)] 286))
 have hb2:Hbx ((w.alloc (.cells #[.int .i64 (r.X:Int),.int .i64 (r.Y:Int),.int .i64 (r.N:Int),.int .i64 (r.R:Int)] 286)).alloc (.cells #[.int .i64 (b.X:Int),.int .i64 (b.Y:Int),.int .i64 (b.N:Int),.int .i64 (b.R:Int)] 286)) (w.heap.size+1) b:=alloc_second w _ _
 have hB:Below w.heap.size w ((w.alloc (.cells #[.int .i64 (r.X:Int),.int .i64 (r.Y:Int),.int .i64 (r.N:Int),.int .i64 (r.R:Int)] 286)).alloc (.cells #[.int .i64 (b.X:Int),.int .i64 (b.Y:Int),.int .i64 (b.N:Int),.int .i64 (b.R:Int)] 286)):=((Below.refl _ w).alloc (Nat.le_refl _) _).alloc (by simp) _
 obtain⟨W,hW⟩:∃ W,(w.alloc (.cells #[.int .i64 (r.X:Int),.int .i64 (r.Y:Int),.int .i64 (r.N:Int),.int .i64 (r.R:Int)] 286)).alloc (.cells #[.int .i64 (b.X:Int),.int .i64 (b.Y:Int),.int .i64 (b.N:Int),.int .i64 (b.R:Int)] 286)=W:=⟨_,rfl⟩
 rw[hW] at hb1 hb2 hB
 have hcs:∀ u:World,Low W u→(u.cell? ⟨w.heap.size,0,none⟩=some (.int .i64 (r.X:Int))∧u.cell? ⟨w.heap.size,1,none⟩=some (.int .i64 (r.Y:Int))∧u.cell? ⟨w.heap.size,2,none⟩=some (.int .i64 (r.N:Int)))∧u.cell? ⟨w.heap.size+1,0,none⟩=some (.int .i64 (b.X:Int))∧u.cell? ⟨w.heap.size+1,1,none⟩=some (.int .i64 (b.Y:Int))∧u.cell? ⟨w.heap.size+1,2,none⟩=some (.int .i64 (b.N:Int)):=fun u hu=>by
  obtain⟨t0,t1,t2,_⟩:=(hb1.low hu).cells
  obtain⟨t4,t5,t6,_⟩:=(hb2.low hu).cells
  exact⟨⟨t0,t1,t2⟩,t4,t5,t6⟩
 go_enter Tryz.func262,Tryz.ntmps262
 go_wp2_with fail
 clear hW
 refine wp_region_noPanic ?_
 refine wp_region_held_drew (S:=fun u=>Low W u) (by kernel_rfl) (Below.dN (Below.refl _ W) 1) (fun hHeld=>?_)
 refine go_take 0 5 _ (.pointer (some ⟨w.heap.size,2,none⟩)) rfl (by kernel_rfl) (by kernel_rfl) (by kernel_rfl) (by kernel_rfl) (fun _ _ _ h=>h) (Or.inl ⟨by kernel_rfl,fun u hu=>by kernel_rfl⟩) hHeld ?_
 simp only[Act.put,List.setIfInBounds_toArray,List.set_cons_zero,List.set_cons_succ]
 refine go_take 1 6 _ (.int .i64 (r.N:Int)) rfl (by kernel_rfl) (by kernel_rfl) (by kernel_rfl) (by kernel_rfl) (fun _ _ _ h=>h) (Or.inl ⟨by kernel_rfl,fun u hu=>load_int (hcs u hu).1.2.2 (.tmp 5) (by kernel_rfl) (by kernel_rfl)⟩) hHeld ?_
 simp only[Act.put,List.setIfInBounds_toArray,List.set_cons_zero,List.set_cons_succ]
 refine go_take 2 7 _ (.pointer (some ⟨w.heap.size+1,2,none⟩)) rfl (by kernel_rfl) (by kernel_rfl) (by kernel_rfl) (by kernel_rfl) (fun _ _ _ h=>h) (Or.inl ⟨by kernel_rfl,fun u hu=>by kernel_rfl⟩) hHeld ?_
 simp only[Act.put,List.setIfInBounds_toArray,List.set_cons_zero,List.set_cons_succ]
 refine go_take 3 8 _ (.int .i64 (b.N:Int)) rfl (by kernel_rfl) (by kernel_rfl) (by kernel_rfl) (by kernel_rfl) (fun _ _ _ h=>h) (Or.inl ⟨by kernel_rfl,fun u hu=>load_int (hcs u hu).2.2.2 (.tmp 7) (by kernel_rfl) (by kernel_rfl)⟩) hHeld ?_
 simp only[Act.put,List.setIfInBounds_toArray,List.set_cons_zero,List.set_cons_succ]
 refine go_take 5 10 _ (.pointer (some ⟨w.heap.size+1,0,none⟩)) rfl (by kernel_rfl) (by kernel_rfl) (by kernel_rfl) (by kernel_rfl) (fun _ _ _ h=>h) (Or.inl ⟨by kernel_rfl,fun u hu=>by kernel_rfl⟩) hHeld ?_
 simp only[Act.put,List.setIfInBounds_toArray,List.set_cons_zero,List.set_cons_succ]
 refine go_take 6 11 _ (.int .i64 (b.X:Int)) rfl (by kernel_rfl) (by kernel_rfl) (by kernel_rfl) (by kernel_rfl) (fun _ _ _ h=>h) (Or.inl ⟨by kernel_rfl,fun u hu=>load_int (hcs u hu).2.1 (.tmp 10) (by kernel_rfl) (by kernel_rfl)⟩) hHeld ?_
 simp only[Act.put,List.setIfInBounds_toArray,List.set_cons_zero,List.set_cons_succ]
 refine go_take 7 12 _ (.pointer (some ⟨w.heap.size,0,none⟩)) rfl (by kernel_rfl) (by kernel_rfl) (by kernel_rfl) (by kernel_rfl) (fun _ _ _ h=>h) (Or.inl ⟨by kernel_rfl,fun u hu=>by kernel_rfl⟩) hHeld ?_
 simp only[Act.put,List.setIfInBounds_toArray,List.set_cons_zero,List.set_cons_succ]
 refine go_take 8 13 _ (.int .i64 (r.X:Int)) rfl (by kernel_rfl) (by kernel_rfl) (by kernel_rfl) (by kernel_rfl) (fun _ _ _ h=>h) (Or.inl ⟨by kernel_rfl,fun u hu=>load_int (hcs u hu).1.1 (.tmp 12) (by kernel_rfl) (by kernel_rfl)⟩) hHeld ?_
 simp only[Act.put,List.setIfInBounds_toArray,List.set_cons_zero,List.set_cons_succ]
 refine go_take 10 15 _ (.pointer (some ⟨w.heap.size+1,1,none⟩)) rfl (by kernel_rfl) (by kernel_rfl) (by kernel_rfl) (by kernel_rfl) (fun _ _ _ h=>h) (Or.inl ⟨by kernel_rfl,fun u hu=>by kernel_rfl⟩) hHeld ?_
 simp only[Act.put,List.setIfInBounds_toArray,List.set_cons_zero,List.set_cons_succ]
 refine go_take 11 16 _ (.int .i64 (b.Y:Int)) rfl (by kernel_rfl) (by kernel_rfl) (by kernel_rfl) (by kernel_rfl) (fun _ _ _ h=>h) (Or.inl ⟨by kernel_rfl,fun u hu=>load_int (hcs u hu).2.2.1 (.tmp 15) (by kernel_rfl) (by kernel_rfl)⟩) hHeld ?_
 simp only[Act.put,List.setIfInBounds_toArray,List.set_cons_zero,List.set_cons_succ]
 refine go_take 12 17 _ (.pointer (some ⟨w.heap.size,1,none⟩)) rfl (by kernel_rfl) (by kernel_rfl) (by kernel_rfl) (by kernel_rfl) (fun _ _ _ h=>h) (Or.inl ⟨by kernel_rfl,fun u hu=>by kernel_rfl⟩) hHeld ?_
 simp only[Act.put,List.setIfInBounds_toArray,List.set_cons_zero,List.set_cons_succ]
 refine go_take 13 18 _ (.int .i64 (r.Y:Int)) rfl (by kernel_rfl) (by kernel_rfl) (by kernel_rfl) (by kernel_rfl) (fun _ _ _ h=>h) (Or.inl ⟨by kernel_rfl,fun u hu=>load_int (hcs u hu).1.2.1 (.tmp 17) (by kernel_rfl) (by kernel_rfl)⟩) hHeld ?_
 simp only[Act.put,List.setIfInBounds_toArray,List.set_cons_zero,List.set_cons_succ]
 refine go_callE 4 9 _ rfl (by kernel_rfl) (by kernel_rfl) (by kernel_rfl) 284 (.func 284) #[.tmp 6,.tmp 8] #[3,3] (by kernel_rfl) #[] (by kernel_rfl) #[.int .i64 (r.N:Int),.int .i64 (b.N:Int)] (by kernel_rfl) (enters_of Tryz.func284 (by kernel_rfl) rfl) _ (compare_held H1 hHeld) ?_
 rintro _ u4 hHeld rfl
 simp only[Act.put,List.setIfInBounds_toArray,List.set_cons_zero,List.set_cons_succ]
 refine go_callE 9 14 _ rfl (by kernel_rfl) (by kernel_rfl) (by kernel_rfl) 284 (.func 284) #[.tmp 11,.tmp 13] #[3,3] (by kernel_rfl) #[] (by kernel_rfl) #[.int .i64 (b.X:Int),.int .i64 (r.X:Int)] (by kernel_rfl) (enters_of Tryz.func284 (by kernel_rfl) rfl) _ (compare_held H2 hHeld) ?_
 rintro _ u9 hHeld rfl
 simp only[Act.put,List.setIfInBounds_toArray,List.set_cons_zero,List.set_cons_succ]
 refine go_callE 14 19 _ rfl (by kernel_rfl) (by kernel_rfl) (by kernel_rfl) 284 (.func 284) #[.tmp 16,.tmp 18] #[3,3] (by kernel_rfl) #[] (by kernel_rfl) #[.int .i64 (b.Y:Int),.int .i64 (r.Y:Int)] (by kernel_rfl) (enters_of Tryz.func284 (by kernel_rfl) rfl) _ (compare_held H3 hHeld) ?_
 rintro _ u14 hHeld rfl
 simp only[Act.put,List.setIfInBounds_toArray,List.set_cons_zero,List.set_cons_succ]
 refine go_val 15 20 _ rfl (by kernel_rfl) (by kernel_rfl) (by kernel_rfl) (.slice (some ⟨u14.heap.size,0,none⟩) 3 3) (u14.alloc (.cells #[.int .i64 z1,.int .i64 z2,.int .i64 z3] 3)) (by kernel_rfl) (Below.alloc hHeld (Below.size hHeld) _) ?_
 simp only[Act.put,List.setIfInBounds_toArray,List.set_cons_zero,List.set_cons_succ]
 have hHeld2:Low W (u14.alloc (.cells #[.int .i64 z1,.int .i64 z2,.int .i64 z3] 3)):=Below.alloc hHeld (Below.size hHeld) _
 refine go_callE 16 21 _ rfl (by kernel_rfl) (by kernel_rfl) (by kernel_rfl) 283 (.func 283) #[.tmp 20] #[71] (by kernel_rfl) #[] (by kernel_rfl) #[.slice (some ⟨u14.heap.size,0,none⟩) 3 3] (by kernel_rfl) (enters_of Tryz.func283 (by kernel_rfl) rfl) _ (or_held [z1,z2,z3] (new_holds u14 _ _ 3 3 (by decide)) (by simp) H4 hHeld2) ?_
 rintro _ u16 hHeld rfl
 simp only[Act.put,List.setIfInBounds_toArray,List.set_cons_zero,List.set_cons_succ]
 refine go_take 17 22 _ (.bool q) rfl (by kernel_rfl) (by kernel_rfl) (by kernel_rfl) (by kernel_rfl) (fun _ _ _ h=>h) (Or.inl ⟨by kernel_rfl,fun u hu=>by rw[← HQ.out];kernel_rfl⟩) hHeld ?_
 simp only[Act.put,List.setIfInBounds_toArray,List.set_cons_zero,List.set_cons_succ]
 refine go_take 18 4 _ (.bool q) rfl (by kernel_rfl) (by kernel_rfl) (by kernel_rfl) (by kernel_rfl) (fun _ _ _ h=>h) (Or.inl ⟨by kernel_rfl,fun u hu=>by kernel_rfl⟩) hHeld ?_
 simp only[Act.put,List.setIfInBounds_toArray,List.set_cons_zero,List.set_cons_succ]
 refine wpAnyH_done (by kernel_rfl) ?_ _
 refine NoPanic.normal ?_
 have hB2:=hB.trans (Below.mono hHeld hB.size)
 go_wp2
 go_ret
 exact⟨rfl,hB2⟩
end Go.Proofs.YtgiojkhmkeocfaaGreatDoor
