/-
  Texts that belong together, joined: NpB.
-/
import Derived.Test.YtkiaenncemfkcaaGreatDoorRcsA12

set_option maxHeartbeats 16000000
set_option maxRecDepth 100000
namespace Go.Proofs.YtkiaenncemfkcaaGreatDoor

section
open Ln
theorem Zqx {l:List Hk} {M:Nat} (h:∀ x∈l,x.ls.length≤M):tot l≤l.length * M:=by
 induction l with
 | nil=>simp[tot]
 | cons x l ih =>
  have h1:=h x (by simp)
  have h2:=ih fun y hy=>h y (by simp[hy])
  simp only[tot,List.length_cons,Nat.add_mul]
  omega
theorem ZdY {a:List (List UInt8)} (h:checkB a=true):abl a=true:=by
 induction a with
 | nil=>rfl
 | cons s t ih =>
  simp only[checkB,Bool.and_eq_true] at h
  simp only[abl,Bool.and_eq_true,Bool.or_eq_true]
  refine⟨?_,ih h.2⟩
  cases t with
  | nil=>exact .inl rfl
  | cons u t =>
   right
   obtain⟨x,rfl,_⟩:=ZnQ h.1
   simp[fdB]
theorem Zec {a:List (List UInt8)} (h:checkB a=true):∀ s∈a,s≠[]∧inn s=false:=by
 intro s hs
 have h1:=Zwo (Zwp h) s hs
 unfold linB at h1
 simp only[Bool.and_eq_true,Bool.not_eq_true',List.all_eq_true,bne_iff_ne] at h1
 refine⟨by rintro rfl;simp at h1,?_⟩
 simp only[inn,List.any_eq_false]
 intro c hc
 simpa using h1.2 c hc
theorem ZyL {s t:List UInt8} (h:splitL s=splitL t):s=t:=by rw[← split_join s,← split_join t,h]
structure Bk (s t:List UInt8) (L:List Ch):Prop where
 scr:Script L (splitL s).length (splitL t).length
 few:L.length≤(splitL s).length+1
 rd:prsT (prtT L (splitL s) (splitL t))=if 1048576<(prtT L (splitL s) (splitL t)).length then .error (0,9) else .ok (mkR L (splitL s) (splitL t) 0)
 ord:ordH (mkR L (splitL s) (splitL t) 0)=0
 chs:chR (mkR L (splitL s) (splitL t) 0)=L
 tot:tot (mkR L (splitL s) (splitL t) 0)≤1099511627776
 grp:grpE L (splitL s).length (splitL t).length 0=0
 nil:L=[]↔s=t
 len:(prtT L (splitL s) (splitL t)).length≤100000+s.length+t.length
theorem ZcO (K:Int) (s t:List UInt8) (hx:(splitL s).length≤200) (hy:(splitL t).length≤200) {L:List Ch} (hL:mkL (eng K (clx ig0 (splitL s) (splitL t)) (cly ig0 (splitL s) (splitL t))) (splitL t).length=L):Bk s t L:=by
 obtain⟨h1,h2,h3⟩:=Zhr K (splitL s) (splitL t) (by omega) (by omega) hL
 have ha:=split_right s
 have hb:=split_right t
 have h4:=ZxN (ctx:=0) h1 h2 (by omega) (by omega) (by omega) (fun u hu=>hu.elim (fun h=>(Zec ha u h).1) fun h=>(Zec hb u h).1) (ZdY ha) (ZdY hb)
 have h5:innL (splitL s++splitL t)=false:=(by
  simp only[innL,List.any_eq_false]
  intro u hu
  rcases List.mem_append.1 hu with hu | hu
  ·simpa using (Zec ha u hu).2
  ·simpa using (Zec hb u hu).2)
 have h6:=Zts h1 (a:=splitL s) (b:=splitL t)
 have h7:=congrArg List.length (split_join s)
 have h8:=congrArg List.length (split_join t)
 obtain⟨h9,h10⟩:=ZoU (ctx:=0) h1 (by omega)
 rcases h4 with h4 | h4
 ·refine⟨h1,h3,Zqr h1 ha hb (by omega) (by omega) (by omega),h4.1,h4.2,?_,(Zpv h1 (by omega)).2,?_,by omega⟩
  ·have:=Zqx (M:=400) (fun x hx=>by have:=(h10 x hx).1;omega)
   have h11:(mkR L (splitL s) (splitL t) 0).length * 400≤201 * 400:=Nat.mul_le_mul_right _ (by omega)
   omega
  ·rw[← hL]
   have e:=Zhu K (clx ig0 (splitL s) (splitL t)) (cly ig0 (splitL s) (splitL t)) (by rw[ZeJ];omega) (by rw[ZeM];omega)
   rw[ZeM] at e
   rw[e,ZeB]
   constructor
   ·rintro⟨e1,e2⟩
    refine ZyL (List.ext_getElem e1 fun i hi hj=>?_)
    have:=e2 i hi hj
    rwa [canon0,canon0] at this
   ·rintro rfl
    exact⟨rfl,fun i hi hj=>rfl⟩
 ·rw[h5] at h4
  exact absurd h4.2 (by simp)
end

end Go.Proofs.YtkiaenncemfkcaaGreatDoor
