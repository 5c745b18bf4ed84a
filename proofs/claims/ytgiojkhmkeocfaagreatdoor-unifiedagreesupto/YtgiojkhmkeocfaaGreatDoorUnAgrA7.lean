/-
  Texts that belong together, joined: PaLs, PaTr, MiRk, PcLe, PaPi, PaOp, PaDf, PaHm, HiPc, SpPc, MiRd, HiBs, HiFd, HiRt, HiRr, HiRb, HiPi, HiDf, SpCd, SpFd, SpGr, SpRg, SpDf.
-/
import Derived.Test.YtgiojkhmkeocfaaGreatDoorUnAgrA6
import Derived.Laws.Rows
import Derived.Deep.CutRange
import Derived.Laws.EntriesVeiled
import Derived.WalkMore

set_option maxHeartbeats 16000000
set_option maxRecDepth 100000
namespace Go.Proofs.YtgiojkhmkeocfaaGreatDoor

section
open Go.RowKit
end

section
open Go.RowKit
section
variable {W0:World} {n:Nat} {K:List Int} {B a b c d:Nat} {u:World}
end
end

section
open Go.RowKit
end

section
open Go.RowKit
attribute [local simp] ZkG
end

section
open Go.RowKit
attribute [local simp] ZkG
end

section
open Go.ChangeShapes Go.WideShapes Go.ChangeAt Go.RowKit
end

section
open Go.RowKit
def pKeep (x y:List Int):List Int:=wrk (List.replicate x.length (-1)) (pcs (pmid x y) x y (x.length+1) 0 x.length 0 y.length)
theorem ZnQ (x y:List Int):Okp x y 0 x.length 0 y.length (pcs (pmid x y) x y (x.length+1) 0 x.length 0 y.length):=Zoe (ZoG x y) _ 0 x.length 0 y.length (Nat.zero_le _) (Nat.le_refl _) (Nat.zero_le _) (Nat.le_refl _)
theorem ZnO (x y:List Int):Kpt x y (pKeep x y):=(ZnQ x y).kpt
end

section
theorem ZnN (x y:List Int) (i:Nat) (hi:i<tf x y 0 x.length 0 y.length):(pKeep x y)[i]?=some (i:Int):=by
 have hm:(⟨(i:Int),(i:Int)⟩:Pr)∈pcs (pmid x y) x y (x.length+1) 0 x.length 0 y.length:=by
  rw[pcs,ends,List.mem_append]
  exact .inl (Zlm.2 ⟨i,hi,by simp⟩)
 have:=(ZnQ x y).at hm
 simpa [pKeep] using this
theorem ZnP (x y:List Int) (hx:x.length≤4096) (hy:y.length≤4096):mkL (pKeep x y) y.length=[]↔x=y:=by
 constructor
 ·exact Zmt (ZnO x y).vk (ZnO x y).len (ZnO x y).eqs hx hy
 ·rintro rfl
  have e:pKeep x x=(List.range x.length).map fun (j:Nat)=>(0:Int)+(j:Int):=by
   apply List.ext_getElem?
   intro i
   by_cases hi:i<x.length
   ·rw[ZnN x x i (by rw[ZsC];omega)]
    simp[hi]
   ·rw[List.getElem?_eq_none (by rw[(ZnO x x).len];omega),List.getElem?_eq_none (by simp;omega)]
  rw[e]
  exact Zlx x.length
end

section
def hsel (x y:List Int) (rec:Nat→Nat→Nat→Nat→List Pr) (a b c d:Nat):Option Hr→List Pr
 | none=>[]
 | some r=>if 64<r.R then lp a c (kp 0 (sub x a b) (sub y c d)) else fp (a+r.X) (c+r.Y) r.N++(rec a (a+r.X) c (c+r.Y)++rec (a+r.X+r.N) b (c+r.Y+r.N) d)
def hmid (x y:List Int) (rec:Nat→Nat→Nat→Nat→List Pr) (a b c d:Nat):List Pr:=hsel x y rec a b c d (best (sub x a b) (sub y c d))
theorem ZqD {x y:List Int} {a b c d:Nat} (hb:b≤x.length) (hd:d≤y.length) {r:Hr} (h:IsRun (sub x a b) (sub y c d) r):0<r.N∧a+r.X+r.N≤b∧c+r.Y+r.N≤d∧∀ i,i<r.N→x[a+r.X+i]?=y[c+r.Y+i]?:=by
 have h1:=ZsN (sub x a b) (sub y c d) r.X r.Y
 have h2:=h.n
 have h3:=h.hx
 have h4:=h.hy
 have h5:=h.pos
 rw[Zsw x a b hb] at h1 h3
 rw[Zsw y c d hd] at h1 h4
 refine⟨h5,by omega,by omega,fun i hi=>?_⟩
 have:=ZsO (sub x a b) (sub y c d) r.X r.Y i (by omega)
 rw[Zsv x a b _ (by omega),Zsv y c d _ (by omega)] at this
 rw[Nat.add_assoc,Nat.add_assoc]
 exact this
theorem Zig (x y:List Int):MOk (hmid x y) x y:=by
 intro rec a b c d hab hb hcd hd hrec
 unfold hmid
 cases hr:best (sub x a b) (sub y c d) with
 | none=>exact Okp.nil _ _ _ _
 | some r =>
  rw[hsel]
  have hin:=ZqD hb hd (Zbm hr).1
  split
  ·exact ZjU x y a b c d (by omega) hb (by omega) hd
  ·have h1:=ZgD (x:=x) (y:=y) (a+r.X) (c+r.Y) r.N hin.2.2.2
   have h2:=hrec a (a+r.X) c (c+r.Y) (by omega) (by omega) (by omega) (by omega)
   have h3:=hrec (a+r.X+r.N) b (c+r.Y+r.N) d (by omega) hb (by omega) hd
   have h23:=h2.cat h3 (.inl ⟨by omega,by omega⟩) (A:=a) (B:=b) (C:=c) (D:=d) ⟨by omega,by omega⟩ ⟨by omega,by omega⟩ ⟨by omega,by omega⟩ ⟨by omega,by omega⟩
   refine⟨fun p hp=>?_,fun p hp q hq=>?_,fun p hp=>?_⟩
   ·rcases List.mem_append.1 hp with hp | hp
    ·exact (h1.mono (by omega) (by omega) (by omega) (by omega):Okp x y a b c d _).wn p hp
    ·exact h23.wn p hp
   ·have hx:∀ p∈fp (a+r.X) (c+r.Y) r.N,∀ q∈rec a (a+r.X) c (c+r.Y)++rec (a+r.X+r.N) b (c+r.Y+r.N) d,ab q p∨ab p q:=by
     intro p hp q hq
     have e1:=h1.wn p hp
     unfold Wn at e1
     rcases List.mem_append.1 hq with hq | hq
     ·have e2:=h2.wn q hq
      unfold Wn at e2
      exact .inr ⟨by omega,by omega⟩
     ·have e2:=h3.wn q hq
      unfold Wn at e2
      exact .inl ⟨by omega,by omega⟩
    rcases List.mem_append.1 hp with hp | hp<;>rcases List.mem_append.1 hq with hq | hq
    ·exact h1.ris p hp q hq
    ·exact .inr (hx p hp q hq)
    ·exact .inr ((hx q hq p hp).symm)
    ·exact h23.ris p hp q hq
   ·rcases List.mem_append.1 hp with hp | hp
    ·exact h1.eqs p hp
    ·exact h23.eqs p hp
def hKeep (x y:List Int):List Int:=wrk (List.replicate x.length (-1)) (pcs (hmid x y) x y (x.length+1) 0 x.length 0 y.length)
theorem Zhz (x y:List Int):Okp x y 0 x.length 0 y.length (pcs (hmid x y) x y (x.length+1) 0 x.length 0 y.length):=Zoe (Zig x y) _ 0 x.length 0 y.length (Nat.zero_le _) (Nat.le_refl _) (Nat.zero_le _) (Nat.le_refl _)
theorem Zhx (x y:List Int):Kpt x y (hKeep x y):=(Zhz x y).kpt
theorem Zhw (x y:List Int) (i:Nat) (hi:i<tf x y 0 x.length 0 y.length):(hKeep x y)[i]?=some (i:Int):=by
 have hm:(⟨(i:Int),(i:Int)⟩:Pr)∈pcs (hmid x y) x y (x.length+1) 0 x.length 0 y.length:=by
  rw[pcs,ends,List.mem_append]
  exact .inl (Zlm.2 ⟨i,hi,by simp⟩)
 have:=(Zhz x y).at hm
 simpa [hKeep] using this
theorem Zhy (x y:List Int) (hx:x.length≤4096) (hy:y.length≤4096):mkL (hKeep x y) y.length=[]↔x=y:=by
 constructor
 ·exact Zmt (Zhx x y).vk (Zhx x y).len (Zhx x y).eqs hx hy
 ·rintro rfl
  have e:hKeep x x=(List.range x.length).map fun (j:Nat)=>(0:Int)+(j:Int):=by
   apply List.ext_getElem?
   intro i
   by_cases hi:i<x.length
   ·rw[Zhw x x i (by rw[ZsC];omega)]
    simp[hi]
   ·rw[List.getElem?_eq_none (by rw[(Zhx x x).len];omega),List.getElem?_eq_none (by simp;omega)]
  rw[e]
  exact Zlx x.length
end

section
def gdn (c:Int) (y:List Int) (nx:Nat) (far:Int):Option Nat:=match (y.drop nx).findIdx? (fun z=>z == c) with
 | some k=>if (k:Int)<far then some (nx+k) else none
 | none=>none
def gdy (y:List Int) (far:Int):Nat→List Int→List Int
 | _,[]=>[]
 | nx,c::x=>match gdn c y nx far with
  | some j=>(j:Int)::gdy y far (j+1) x
  | none=>-1::gdy y far nx x
theorem ZgI {c:Int} {y:List Int} {nx j:Nat} {far:Int} (h:gdn c y nx far=some j):nx≤j∧j<y.length∧((j-nx:Nat):Int)<far∧y[j]?=some c∧∀ i,nx≤i→i<j→y[i]?≠some c:=by
 unfold gdn at h
 split at h
 ·rename_i k hk
  split at h
  ·rename_i hf
   obtain rfl:=Option.some.inj h
   obtain⟨h1,h2,h3⟩:=List.findIdx?_eq_some_iff_getElem.1 hk
   rw[List.length_drop] at h1
   rw[List.getElem_drop] at h2
   refine⟨by omega,by omega,by rw[show nx+k-nx=k by omega];exact hf,?_,fun i hi hj e=>?_⟩
   ·rw[List.getElem?_eq_getElem (by omega)]
    rw[beq_iff_eq.1 h2]
   ·have h4:=h3 (i-nx) (by omega)
    rw[List.getElem_drop] at h4
    rw[List.getElem?_eq_getElem (by omega)] at e
    have e2:y[nx+(i-nx)]'(by omega)=c:=by
     rw[← Option.some.inj e]
     congr 1
     omega
    rw[e2] at h4
    simp at h4
  ·cases h
 ·cases h
theorem ZgJ (y:List Int) (far:Int) (x:List Int):∀ nx,(gdy y far nx x).length=x.length:=by
 induction x with
 | nil=>intro nx;rfl
 | cons c x ih =>
  intro nx
  rw[gdy]
  split
  ·rw[List.length_cons,ih,List.length_cons]
  ·rw[List.length_cons,ih,List.length_cons]
theorem ZgM (y:List Int) (far:Int) (x:List Int):∀ nx:Nat,Vk nx y.length (gdy y far nx x):=by
 induction x with
 | nil=>intro nx;exact trivial
 | cons c x ih =>
  intro nx
  rw[gdy]
  split
  ·rename_i j hj
   obtain⟨h1,h2,_⟩:=ZgI hj
   refine .inr ⟨by omega,by omega,by omega,?_⟩
   have:=ih (j+1)
   rw[show ((j+1:Nat):Int)=(j:Int)+1 by omega] at this
   exact this
  ·exact .inl ⟨rfl,ih nx⟩
theorem ZgL (y:List Int) (far:Int) (x:List Int):∀ (nx i q:Nat),(gdy y far nx x)[i]?=some (q:Int)→x[i]?=y[q]?:=by
 induction x with
 | nil=>intro nx i q h;simp[gdy] at h
 | cons c x ih =>
  intro nx i q h
  rw[gdy] at h
  split at h
  ·rename_i j hj
   cases i with
   | zero =>
    have e:(j:Int)=(q:Int):=by simpa using h
    obtain rfl:j=q:=by omega
    rw[(ZgI hj).2.2.2.1]
    rfl
   | succ i=>exact ih (j+1) i q (by simpa using h)
  ·cases i with
   | zero=>simp at h
   | succ i=>exact ih nx i q (by simpa using h)
def smid (B:Int) (x y:List Int) (_:Nat→Nat→Nat→Nat→List Pr) (a b c d:Nat):List Pr :=
 if ((b-a:Nat):Int) * ((d-c:Nat):Int)≤max 0 B then lp a c (kp 0 (sub x a b) (sub y c d)) else lp a c (gdy (sub y c d) 64 0 (sub x a b))
theorem ZgK (x y:List Int) (far:Int) (a b c d:Nat) (hab:a≤b) (hb:b≤x.length) (hcd:c≤d) (hd:d≤y.length):Okp x y a b c d (lp a c (gdy (sub y c d) far 0 (sub x a b))):=by
 have h1:=ZkL (x:=x) (y:=y) (gdy (sub y c d) far 0 (sub x a b)) a c 0 (d-c) (by
  have:=ZgM (sub y c d) far (sub x a b) 0
  rw[Zsw y _ _ (by omega)] at this
  exact this) (fun i q hq=>by
   have hl:i<(sub x a b).length:=by
    have:=(List.getElem?_eq_some_iff.1 hq).1
    rw[ZgJ] at this
    exact this
   have h2:=ZgL (sub y c d) far (sub x a b) 0 i q hq
   have h3:=List.getElem?_eq_getElem hl
   rw[(Zsx h3).2,(Zsx (h2.symm.trans h3)).2])
 rw[ZgJ,Zsw x _ _ (by omega)] at h1
 exact h1.mono (Nat.le_refl _) (by omega) (by omega) (by omega)
theorem ZrT (B:Int) (x y:List Int):MOk (smid B x y) x y:=by
 intro rec a b c d hab hb hcd hd _
 unfold smid
 split
 ·exact ZjU x y a b c d (by omega) hb (by omega) hd
 ·exact ZgK x y 64 a b c d (by omega) hb (by omega) hd
def sKeep (B:Int) (x y:List Int):List Int:=wrk (List.replicate x.length (-1)) (pcs (smid B x y) x y (x.length+1) 0 x.length 0 y.length)
theorem ZqP (B:Int) (x y:List Int):Okp x y 0 x.length 0 y.length (pcs (smid B x y) x y (x.length+1) 0 x.length 0 y.length):=Zoe (ZrT B x y) _ 0 x.length 0 y.length (Nat.zero_le _) (Nat.le_refl _) (Nat.zero_le _) (Nat.le_refl _)
theorem ZqN (B:Int) (x y:List Int):Kpt x y (sKeep B x y):=(ZqP B x y).kpt
theorem ZqM (B:Int) (x y:List Int) (i:Nat) (hi:i<tf x y 0 x.length 0 y.length):(sKeep B x y)[i]?=some (i:Int):=by
 have hm:(⟨(i:Int),(i:Int)⟩:Pr)∈pcs (smid B x y) x y (x.length+1) 0 x.length 0 y.length:=by
  rw[pcs,ends,List.mem_append]
  exact .inl (Zlm.2 ⟨i,hi,by simp⟩)
 have:=(ZqP B x y).at hm
 simpa [sKeep] using this
theorem ZqO (B:Int) (x y:List Int) (hx:x.length≤4096) (hy:y.length≤4096):mkL (sKeep B x y) y.length=[]↔x=y:=by
 constructor
 ·exact Zmt (ZqN B x y).vk (ZqN B x y).len (ZqN B x y).eqs hx hy
 ·rintro rfl
  have e:sKeep B x x=(List.range x.length).map fun (j:Nat)=>(0:Int)+(j:Int):=by
   apply List.ext_getElem?
   intro i
   by_cases hi:i<x.length
   ·rw[ZqM B x x i (by rw[ZsC];omega)]
    simp[hi]
   ·rw[List.getElem?_eq_none (by rw[(ZqN B x x).len];omega),List.getElem?_eq_none (by simp;omega)]
  rw[e]
  exact Zlx x.length
end

section
open Go.RowKit
end

section
open Go.RowKit
end

section
open Go.RowKit
end

section
open Go.RowKit
section
variable {u u':World} {B:Nat} {r:Hr}
end
end

section
open Go.RowKit
attribute [local simp] ZkG
end

section
open Go.RowKit
end

section
open Go.RowKit
attribute [local simp] ZkG
end

section
open Go.RowKit
end

section
open Go.RowKit
end

section
open Go.RowKit
end

end Go.Proofs.YtgiojkhmkeocfaaGreatDoor

/- Greedy from the last place down, as the reference goes: plain. -/
namespace Go.Proofs.YtgiojkhmkeocfaaGreatDoor
end Go.Proofs.YtgiojkhmkeocfaaGreatDoor

namespace Go.Proofs.YtgiojkhmkeocfaaGreatDoor

section
open Go.RowKit
end

section
open Go.RowKit
attribute [local simp] ZkG
end

end Go.Proofs.YtgiojkhmkeocfaaGreatDoor
