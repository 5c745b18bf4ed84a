/-
  Texts that belong together, joined: HuZl, NpB, CxB, UxB, UxC, UxD.
-/
import Derived.Test.YtgiojkhmkeocfaaGreatDoorUnAgrA19
import Derived.Test.YtgiojkhmkeocfaaGreatDoorUnAgrA8
import Derived.Deep.CutRange

set_option maxHeartbeats 16000000
set_option maxRecDepth 100000
namespace Go.Proofs.YtgiojkhmkeocfaaGreatDoor

section
open Go.RowKit
theorem Zfs (k:Int) (a b:List (List UInt8)) (ha:a.length≤4096) (hb:b.length≤4096) {L:List Ch} (hL:mkL (eng k (clx ig0 a b) (cly ig0 a b)) b.length=L):Script L a.length b.length∧(∀ r∈U 0 0 a.length b.length L,a[r.a.toNat]?=b[r.b.toNat]?)∧L.length≤a.length+1:=by
 have hK:=Zft k (clx ig0 a b) (cly ig0 a b)
 have hLl:=Zly (eng k (clx ig0 a b) (cly ig0 a b)) b.length
 rw[hK.len,Zdt,hL] at hLl
 generalize eng k (clx ig0 a b) (cly ig0 a b)=K at hK hL
 have hv:=hK.vk
 rw[Zdw] at hv
 obtain⟨h1,h2⟩:=ZlE hv (by omega) (by omega) (by rw[hK.len,Zdt];omega)
 rw[hK.len,Zdt] at h1 h2
 rw[hL] at h1 h2
 refine⟨h1,?_,hLl⟩
 intro r hr
 have hbd:=h1.2.2.bounds r hr
 rw[h2] at hr
 obtain⟨_,_,h4,h5⟩:=Zln.1 hr
 rw[Int.sub_zero] at h4
 have h6:=hK.eqs r.a.toNat r.b.toNat (by rw[h4];congr 1;omega)
 have hi:r.a.toNat<a.length:=by omega
 have hj:r.b.toNat<b.length:=by omega
 rw[Zdl ig0 a b hi hj,canon0,canon0] at h6
 rw[List.getElem?_eq_getElem hi,List.getElem?_eq_getElem hj,h6]
theorem Zeo (k:Int) (m:Int) (h0:0<m) (h1:m≤100):∃ c,wrap64 ((IntKind.u64.wrap k).tmod m)=c∧0≤c∧c<m:=by
 refine⟨_,rfl,?_⟩
 have h:0≤IntKind.u64.wrap k:=by simp[IntKind.wrap,IntKind.bits,IntKind.signed];omega
 generalize IntKind.u64.wrap k=z at h ⊢
 rw[Int.tmod_eq_emod_of_nonneg h]
 have h2:=Int.emod_nonneg z (by omega:m≠0)
 have h3:=Int.emod_lt_of_pos z h0
 unfold wrap64
 omega
theorem ZkT {l:List Ch} {a b:List (List UInt8)} {ctx:Int} (hs:Script l a.length b.length) (hc:0≤ctx∧ctx≤100):(mkR l a b ctx).length≤l.length∧∀ h∈mkR l a b ctx,h.ls.length≤a.length+b.length∧∀ m∈h.ls,m.tx∈a∨m.tx∈b:=by
 rw[(Zlt hs hc).1]
 refine⟨?_,?_⟩
 ·rw[List.length_map]
  have hf:=congrArg List.length (Zhi ctx l)
  have key:∀ G:List (List Ch),(∀ g∈G,g≠[])→G.length≤G.flatten.length:=by
   intro G
   induction G with
   | nil=>intro _;simp
   | cons g G ih =>
    intro h
    have h1:=ih fun x hx=>h x (by simp[hx])
    have h2:0<g.length:=List.length_pos_iff.2 (h g (by simp))
    simp only[List.flatten_cons,List.length_append,List.length_cons]
    omega
  have:=key _ (Zhl ctx l)
  omega
 ·intro h hh
  obtain⟨g,hg,rfl⟩:=List.mem_map.1 hh
  obtain⟨pre,post,he⟩:=List.append_of_mem hg
  cases g with
  | nil=>exact absurd rfl (Zhl ctx l [] hg)
  | cons f g=>exact⟨(ZqZ hc.1 hs he).2.2.2,fun m hm=>(Zlh _ _ m hm).2⟩
theorem ZkU {l:List Ch} {a b:List (List UInt8)} {ctx:Int} {P:List (Hk × Value)} (hs:Script l a.length b.length) (hc:0≤ctx∧ctx≤100) (hl:l.length≤1099511627776) (hab:a.length+b.length≤1099511627776) (hla:∀ t∈a,t.length≤137438953472) (hlb:∀ t∈b,t.length≤137438953472) (hP:P.map (·.1)=mkR l a b ctx):HOk P:=by
 obtain⟨h1,h2⟩:=ZkT hs hc
 refine⟨?_,fun x hx=>?_⟩
 ·have:=congrArg List.length hP
  simp at this
  omega
 ·obtain⟨h3,h4⟩:=h2 x.1 (by rw[← hP];exact List.mem_map_of_mem hx)
  refine⟨by omega,fun m hm=>?_⟩
  rcases h4 m hm with h | h
  ·have:=hla _ h
   omega
  ·have:=hlb _ h
   omega
end

section
open Ln
theorem ZmL {l:List Hk} {M:Nat} (h:∀ x∈l,x.ls.length≤M):tot l≤l.length * M:=by
 induction l with
 | nil=>simp[tot]
 | cons x l ih =>
  have h1:=h x (by simp)
  have h2:=ih fun y hy=>h y (by simp[hy])
  simp only[tot,List.length_cons,Nat.add_mul]
  omega
theorem ZcE {a:List (List UInt8)} (h:checkB a=true):abl a=true:=by
 induction a with
 | nil=>rfl
 | cons s t ih =>
  simp only[checkB,Bool.and_eq_true] at h
  simp only[abl,Bool.and_eq_true,Bool.or_eq_true]
  refine⟨?_,ih h.2⟩
  cases t with
  | nil=>exact .inl rfl
  | cons u t =>
   right
   obtain⟨x,rfl,_⟩:=Zkh h.1
   simp[fdB]
theorem ZcF {a:List (List UInt8)} (h:checkB a=true):∀ s∈a,s≠[]∧inn s=false:=by
 intro s hs
 have h1:=Zqn (Zqo h) s hs
 unfold linB at h1
 simp only[Bool.and_eq_true,Bool.not_eq_true',List.all_eq_true,bne_iff_ne] at h1
 refine⟨by rintro rfl;simp at h1,?_⟩
 simp only[inn,List.any_eq_false]
 intro c hc
 simpa using h1.2 c hc
theorem Zse {s t:List UInt8} (h:splitL s=splitL t):s=t:=by rw[← split_join s,← split_join t,h]
structure Bk (s t:List UInt8) (L:List Ch):Prop where
 scr:Script L (splitL s).length (splitL t).length
 few:L.length≤(splitL s).length+1
 rd:prsT (prtT L (splitL s) (splitL t))=if 1048576<(prtT L (splitL s) (splitL t)).length then .error (0,9) else .ok (mkR L (splitL s) (splitL t) 0)
 ord:ordH (mkR L (splitL s) (splitL t) 0)=0
 chs:chR (mkR L (splitL s) (splitL t) 0)=L
 tot:tot (mkR L (splitL s) (splitL t) 0)≤1099511627776
 grp:grpE L (splitL s).length (splitL t).length 0=0
 nil:L=[]↔s=t
 len:(prtT L (splitL s) (splitL t)).length≤100000+s.length+t.length
theorem Zbq (K:Int) (s t:List UInt8) (hx:(splitL s).length≤200) (hy:(splitL t).length≤200) {L:List Ch} (hL:mkL (eng K (clx ig0 (splitL s) (splitL t)) (cly ig0 (splitL s) (splitL t))) (splitL t).length=L):Bk s t L:=by
 obtain⟨h1,h2,h3⟩:=Zfs K (splitL s) (splitL t) (by omega) (by omega) hL
 have ha:=Zsi s
 have hb:=Zsi t
 have h4:=Zrb (ctx:=0) h1 h2 (by omega) (by omega) (by omega) (fun u hu=>hu.elim (fun h=>(ZcF ha u h).1) fun h=>(ZcF hb u h).1) (ZcE ha) (ZcE hb)
 have h5:innL (splitL s++splitL t)=false:=(by
  simp only[innL,List.any_eq_false]
  intro u hu
  rcases List.mem_append.1 hu with hu | hu
  ·simpa using (ZcF ha u hu).2
  ·simpa using (ZcF hb u hu).2)
 have h6:=ZoO h1 (a:=splitL s) (b:=splitL t)
 have h7:=congrArg List.length (split_join s)
 have h8:=congrArg List.length (split_join t)
 obtain⟨h9,h10⟩:=ZkT (ctx:=0) h1 (by omega)
 rcases h4 with h4 | h4
 ·refine⟨h1,h3,ZmD h1 ha hb (by omega) (by omega) (by omega),h4.1,h4.2,?_,(Zlt h1 (by omega)).2,?_,by omega⟩
  ·have:=ZmL (M:=400) (fun x hx=>by have:=(h10 x hx).1;omega)
   have h11:(mkR L (splitL s) (splitL t) 0).length * 400≤201 * 400:=Nat.mul_le_mul_right _ (by omega)
   omega
  ·rw[← hL]
   have e:=Zfu K (clx ig0 (splitL s) (splitL t)) (cly ig0 (splitL s) (splitL t)) (by rw[Zdt];omega) (by rw[Zdw];omega)
   rw[Zdw] at e
   rw[e,Zdm]
   constructor
   ·rintro⟨e1,e2⟩
    refine Zse (List.ext_getElem e1 fun i hi hj=>?_)
    have:=e2 i hi hj
    rwa [canon0,canon0] at this
   ·rintro rfl
    exact⟨rfl,fun i hi hj=>rfl⟩
 ·rw[h5] at h4
  exact absurd h4.2 (by simp)
end

section
open Ln
theorem Zfw {l:List Hk} (h:errs l=0):∀ x∈l,chkH x=0:=by
 induction l with
 | nil=>intro x hx;cases hx
 | cons y l ih =>
  simp only[errs] at h
  split at h
  ·rename_i hq
   exact absurd h hq
  ·rename_i hq
   intro x hx
   rcases List.mem_cons.1 hx with rfl | hx
   ·omega
   ·exact ih h x hx
structure Bc (s t nm:List UInt8) (L:List Ch) (ctx:Int):Prop where
 scr:Script L (splitL s).length (splitL t).length
 few:L.length≤(splitL s).length+1
 hun:(mkR L (splitL s) (splitL t) ctx).length≤L.length
 grp:grpE L (splitL s).length (splitL t).length ctx=0
 gd:∀ x∈mkR L (splitL s) (splitL t) ctx,Gh x
 nil:mkR L (splitL s) (splitL t) ctx=[]↔s=t
 wrg:wrgP ⟨[111,108,100],nm,mkR L (splitL s) (splitL t) ctx⟩=0
 emp:ptT ⟨[111,108,100],nm,mkR L (splitL s) (splitL t) ctx⟩=[]↔s=t
 rd:s≠t→cxT (ptT ⟨[111,108,100],nm,mkR L (splitL s) (splitL t) ctx⟩)=if 1048576<(ptT ⟨[111,108,100],nm,mkR L (splitL s) (splitL t) ctx⟩).length then .error (0,9) else .ok [⟨[111,108,100],nm,mkR L (splitL s) (splitL t) ctx⟩]
theorem Zbj (K:Int) (s t nm:List UInt8) (hx:(splitL s).length≤200) (hy:(splitL t).length≤200) (hn:nm.length≤64) {ctx:Int} (hc:0≤ctx∧ctx≤100) {L:List Ch} (hL:mkL (eng K (clx ig0 (splitL s) (splitL t)) (cly ig0 (splitL s) (splitL t))) (splitL t).length=L):Bc s t nm L ctx:=by
 obtain⟨h1,h2,h3⟩:=Zfs K (splitL s) (splitL t) (by omega) (by omega) hL
 have hb0:=Zbq K s t hx hy hL
 have ha:=Zsi s
 have hb:=Zsi t
 have h4:=Zrb (ctx:=ctx) h1 h2 hc (by omega) (by omega) (fun u hu=>hu.elim (fun h=>(ZcF ha u h).1) fun h=>(ZcF hb u h).1) (ZcE ha) (ZcE hb)
 have h5:innL (splitL s++splitL t)=false:=(by
  simp only[innL,List.any_eq_false]
  intro u hu
  rcases List.mem_append.1 hu with hu | hu
  ·simpa using (ZcF ha u hu).2
  ·simpa using (ZcF hb u hu).2)
 have h6:ordH (mkR L (splitL s) (splitL t) ctx)=0:=by
  rcases h4 with h4 | h4
  ·exact h4.1
  ·rw[h5] at h4
   exact absurd h4.2 (by simp)
 have h7:errs (mkR L (splitL s) (splitL t) ctx)=0:=by
  unfold ordH at h6
  split at h6
  ·exact h6
  ·rename_i hq
   omega
 have h8:=Zfw h7
 have hse:=Zra h1 h2 hc
 have hgd:∀ x∈mkR L (splitL s) (splitL t) ctx,Gh x:=by
  intro x hx'
  obtain⟨⟨a1,a2,a3⟩,⟨b1,b2,b3⟩,_,_,h9⟩:=hse x hx'
  refine⟨h8 x hx',h9,fun q=>?_,fun q=>?_⟩
  ·unfold atA at a3
   rw[if_pos (by omega)] at a3
   omega
  ·unfold atB at b3
   rw[if_pos (by omega)] at b3
   omega
 obtain⟨h10,_⟩:=ZkT (ctx:=ctx) h1 hc
 have hnil:mkR L (splitL s) (splitL t) ctx=[]↔s=t:=by
  rw[(Zlt h1 hc).1,List.map_eq_nil_iff,Zhh]
  exact hb0.nil
 have hw:wrgP ⟨[111,108,100],nm,mkR L (splitL s) (splitL t) ctx⟩=0:=by
  unfold wrgP
  rw[if_neg (by simp only[List.length_cons,List.length_nil];omega),if_neg (by simp only;omega)]
  exact h7
 refine⟨h1,h3,h10,(Zlt h1 hc).2,hgd,hnil,hw,?_,?_⟩
 ·unfold ptT
  rw[if_pos hw]
  constructor
  ·intro he
   refine Classical.byContradiction fun hne=>?_
   have:mkR L (splitL s) (splitL t) ctx≠[]:=fun q=>hne (hnil.1 q)
   rw[ZoT this] at he
   simp at he
  ·intro he
   have:=hnil.2 he
   unfold ptL
   rw[if_pos this]
   rfl
 ·intro hne
  have hg:Gp ⟨[111,108,100],nm,mkR L (splitL s) (splitL t) ctx⟩:=⟨fun q=>hne (hnil.1 q),by show 3≤64;decide,hn,by show (mkR L (splitL s) (splitL t) ctx).length≤4096;omega,hgd⟩
  have hall:∀ q∈[(⟨[111,108,100],nm,mkR L (splitL s) (splitL t) ctx⟩:Pth)],Gp q:=fun q hq=>by rw[List.mem_singleton.1 hq];exact hg
  have e:[(⟨[111,108,100],nm,mkR L (splitL s) (splitL t) ctx⟩:Pth)].flatMap ptT=ptT ⟨[111,108,100],nm,mkR L (splitL s) (splitL t) ctx⟩:=by simp
  have e2:=ZoX hall
  rw[e] at e2
  split
  ·rename_i hq
   unfold cxT
   rw[if_pos hq]
  ·rename_i hq
   rw[e2] at hq ⊢
   exact ZeN hall (by simp) (by omega)
end

section
open Ln
structure Bun (s t o n:List UInt8) (L:List Ch) (ctx:Int):Prop where
 scr:Script L (splitL s).length (splitL t).length
 few:L.length≤(splitL s).length+1
 hun:(mkR L (splitL s) (splitL t) ctx).length≤L.length
 grp:grpE L (splitL s).length (splitL t).length ctx=0
 gd:∀ x∈mkR L (splitL s) (splitL t) ctx,Gh x
 nil:mkR L (splitL s) (splitL t) ctx=[]↔s=t
 wrg:wrgP ⟨o,n,mkR L (splitL s) (splitL t) ctx⟩=0
 emp:upT ⟨o,n,mkR L (splitL s) (splitL t) ctx⟩=[]↔s=t
 rd:s≠t→unT atC (upT ⟨o,n,mkR L (splitL s) (splitL t) ctx⟩)=if 1048576<(upT ⟨o,n,mkR L (splitL s) (splitL t) ctx⟩).length then .error (0,9) else .ok [⟨o,n,mkR L (splitL s) (splitL t) ctx⟩]
theorem ZbH (K:Int) (s t o n:List UInt8) (hx:(splitL s).length≤200) (hy:(splitL t).length≤200) (ho:o.length≤64) (hn:n.length≤64) {ctx:Int} (hc:0≤ctx∧ctx≤100) {L:List Ch} (hL:mkL (eng K (clx ig0 (splitL s) (splitL t)) (cly ig0 (splitL s) (splitL t))) (splitL t).length=L):Bun s t o n L ctx:=by
 have hb:=Zbj K s t [] hx hy (by simp) hc hL
 have herr:errs (mkR L (splitL s) (splitL t) ctx)=0:=ZeO fun x hx=>(hb.gd x hx).chk
 have hfew:=hb.few
 have hhun:=hb.hun
 have hw:wrgP ⟨o,n,mkR L (splitL s) (splitL t) ctx⟩=0:=by
  unfold wrgP
  rw[if_neg (by simp only;omega),if_neg (by simp only;omega)]
  exact herr
 refine⟨hb.scr,hb.few,hb.hun,hb.grp,hb.gd,hb.nil,hw,?_,?_⟩
 ·unfold upT
  rw[if_pos hw]
  constructor
  ·intro he
   refine Classical.byContradiction fun hne=>?_
   have:mkR L (splitL s) (splitL t) ctx≠[]:=fun q=>hne (hb.nil.1 q)
   rw[ZtY this] at he
   simp at he
  ·intro he
   have:=hb.nil.2 he
   unfold upL
   rw[if_pos this]
   rfl
 ·intro hne
  have hg:Gu ⟨o,n,mkR L (splitL s) (splitL t) ctx⟩:=⟨fun q=>hne (hb.nil.1 q),ho,hn,by show (mkR L (splitL s) (splitL t) ctx).length≤4096;omega,fun x hx=>(hb.gd x hx).chk⟩
  have hall:∀ q∈[(⟨o,n,mkR L (splitL s) (splitL t) ctx⟩:Pth)],Gu q:=fun q hq=>by rw[List.mem_singleton.1 hq];exact hg
  have e:[(⟨o,n,mkR L (splitL s) (splitL t) ctx⟩:Pth)].flatMap upT=upT ⟨o,n,mkR L (splitL s) (splitL t) ctx⟩:=by simp
  have e2:=Zug hall
  rw[e] at e2
  split
  ·rename_i hq
   unfold unT
   rw[if_pos hq]
  ·rename_i hq
   rw[e2] at hq ⊢
   exact ZtR (.inr rfl) hall (by simp) (by omega)
end

section
open Ln
def wS (f:List UInt8→Nat):List (List UInt8)→Nat
 | []=>0
 | s::r=>f s+wS f r
theorem Zvm (f:List UInt8→Nat) (x y:List (List UInt8)):wS f (x++y)=wS f x+wS f y:=by
 induction x with
 | nil=>simp[wS]
 | cons s x ih=>simp only[List.cons_append,wS,ih];omega
theorem Zvo (f:List UInt8→Nat) (x:List (List UInt8)) (k j:Nat) (h:k≤j):wS f (x.drop j)≤wS f (x.drop k):=by
 have e:x.drop j=(x.drop k).drop (j-k):=by rw[List.drop_drop];congr 1;omega
 rw[e]
 have h2:=Zvm f ((x.drop k).take (j-k)) ((x.drop k).drop (j-k))
 rw[List.take_append_drop] at h2
 omega
theorem Zvn (f:List UInt8→Nat) (x:List (List UInt8)) {u p n:Int} (hu:0≤u) (hp:u≤p) (hn:0≤n):wS f (cut x p n)+wS f (x.drop (p+n).toNat)≤wS f (x.drop u.toNat):=by
 have h1:=Zvm f ((x.drop p.toNat).take n.toNat) ((x.drop p.toNat).drop n.toNat)
 rw[List.take_append_drop,List.drop_drop] at h1
 have h2:=Zvo f x u.toNat p.toNat (by omega)
 have e:p.toNat+n.toNat=(p+n).toNat:=by omega
 rw[e] at h1
 have e2:cut x p n=(x.drop p.toNat).take n.toNat:=rfl
 rw[e2]
 omega
def wO (f:List UInt8→Nat):List Hk→Nat
 | []=>0
 | h::l=>wS f (oldL h)+wO f l
def wN (f:List UInt8→Nat):List Hk→Nat
 | []=>0
 | h::l=>wS f (newL h)+wN f l
theorem Znw (f:List UInt8→Nat) {a b:List (List UInt8)}:∀ (l:List Hk) (u v:Int),0≤u→0≤v→ordB u v l=true→(∀ x∈l,0≤x.AN∧0≤x.BN∧oldL x=cut a (atA x) x.AN∧newL x=cut b (atB x) x.BN)→wO f l≤wS f (a.drop u.toNat)∧wN f l≤wS f (b.drop v.toNat):=by
 intro l
 induction l with
 | nil=>intro u v _ _ _ _;exact⟨Nat.zero_le _,Nat.zero_le _⟩
 | cons h l ih =>
  intro u v hu hv ho hx
  simp only[ordB,Bool.and_eq_true,decide_eq_true_eq] at ho
  obtain⟨⟨h1,h2⟩,h3⟩:=ho
  obtain⟨k1,k2,k3,k4⟩:=hx h (by simp)
  obtain⟨i1,i2⟩:=ih (atA h+h.AN) (atB h+h.BN) (by omega) (by omega) h3 (fun x hx'=>hx x (by simp[hx']))
  have c1:=Zvn f a (u:=u) (p:=atA h) (n:=h.AN) hu h1 k1
  have c2:=Zvn f b (u:=v) (p:=atB h) (n:=h.BN) hv (by omega) k2
  simp only[wO,wN,k3,k4]
  omega
def wM (f:List UInt8→Nat):List Mk→Nat
 | []=>0
 | m::l=>f m.tx+wM f l
theorem ZuO (f:List UInt8→Nat) {l:List Mk} (h:∀ m∈l,okS m.sg=true):wM f l≤wS f (pkL 43 l)+wS f (pkL 45 l):=by
 induction l with
 | nil=>exact Nat.le_refl _
 | cons m l ih =>
  have h1:=ih fun x hx=>h x (by simp[hx])
  have h2:=h m (by simp)
  simp only[pkL,wM]
  by_cases h3:m.sg=43
  ·rw[if_neg (by simp[h3]),if_pos ⟨by rw[h3];decide,h2⟩]
   simp only[wS]
   omega
  ·rw[if_pos ⟨h3,h2⟩]
   split
   ·simp only[wS]
    omega
   ·simp only[wS]
    omega
theorem ZuQ (l:List Mk):wM (fun _=>1) l=l.length:=by
 induction l with
 | nil=>rfl
 | cons m l ih=>simp only[wM,ih,List.length_cons];omega
theorem ZuP (l:List Mk):wM List.length l=txS l:=by
 induction l with
 | nil=>rfl
 | cons m l ih=>simp only[wM,ih,txS]
theorem Zvr (l:List (List UInt8)):wS (fun _=>1) l=l.length:=by
 induction l with
 | nil=>rfl
 | cons m l ih=>simp only[wS,ih,List.length_cons];omega
theorem Zvq (l:List (List UInt8)):wS List.length l=l.flatten.length:=by
 induction l with
 | nil=>rfl
 | cons m l ih=>simp only[wS,ih,List.flatten_cons,List.length_append]
theorem Zir {l:List Hk} (h:∀ x∈l,chkH x=0):hsS l≤200 * l.length+62 * (wO (fun _=>1) l+wN (fun _=>1) l)+2 * (wO List.length l+wN List.length l):=by
 induction l with
 | nil=>exact Nat.zero_le _
 | cons x l ih =>
  have h1:=ih fun y hy=>h y (by simp[hy])
  obtain⟨_,hf,_⟩:=ZcW (h x (by simp))
  have ho:∀ m∈x.ls,okS m.sg=true:=fun m hm=>(((Zgy _).1 hf).1 m hm).2
  have a1:=ZuO (fun _=>1) ho
  have a2:=ZuO List.length ho
  rw[ZuQ] at a1
  rw[ZuP] at a2
  simp only[hsS,wO,wN,List.length_cons,oldL,newL]
  omega
theorem Zis (K:Int) (s t:List UInt8) (hx:(splitL s).length≤150) (hy:(splitL t).length≤150) (hl:s.length+t.length≤100000) {ctx:Int} (hc:0≤ctx∧ctx≤100) {L:List Ch} (hL:mkL (eng K (clx ig0 (splitL s) (splitL t)) (cly ig0 (splitL s) (splitL t))) (splitL t).length=L):hsS (mkR L (splitL s) (splitL t) ctx)≤250000:=by
 obtain⟨h1,h2,h3⟩:=Zfs K (splitL s) (splitL t) (by omega) (by omega) hL
 have hb:=Zbj K s t [] (by omega) (by omega) (by simp) hc hL
 have ha:=Zsi s
 have hb':=Zsi t
 have h4:=Zrb (ctx:=ctx) h1 h2 hc (by omega) (by omega) (fun u hu=>hu.elim (fun h=>(ZcF ha u h).1) fun h=>(ZcF hb' u h).1) (ZcE ha) (ZcE hb')
 have h5:innL (splitL s++splitL t)=false:=(by
  simp only[innL,List.any_eq_false]
  intro u hu
  rcases List.mem_append.1 hu with hu | hu
  ·simpa using (ZcF ha u hu).2
  ·simpa using (ZcF hb' u hu).2)
 have h6:ordB 0 0 (mkR L (splitL s) (splitL t) ctx)=true:=by
  rcases h4 with h4 | h4
  ·have h:=h4.1
   unfold ordH at h
   split at h
   ·rename_i hq;exact absurd h hq
   ·split at h
    ·assumption
    ·cases h
  ·rw[h5] at h4
   exact absurd h4.2 (by simp)
 have hse:=Zra h1 h2 hc
 have hall:∀ x∈mkR L (splitL s) (splitL t) ctx,0≤x.AN∧0≤x.BN∧oldL x=cut (splitL s) (atA x) x.AN∧newL x=cut (splitL t) (atB x) x.BN:=by
  intro x hx'
  obtain⟨⟨_,a2,_⟩,⟨_,b2,_⟩,c1,c2,_⟩:=hse x hx'
  exact⟨a2,b2,c1,c2⟩
 obtain⟨s1,s2⟩:=Znw (fun _=>1) _ 0 0 (Int.le_refl _) (Int.le_refl _) h6 hall
 obtain⟨s3,s4⟩:=Znw List.length _ 0 0 (Int.le_refl _) (Int.le_refl _) h6 hall
 simp only[Int.toNat_zero,List.drop_zero] at s1 s2 s3 s4
 rw[Zvr] at s1 s2
 rw[Zvq,split_join] at s3 s4
 have h7:=Zir (l:=mkR L (splitL s) (splitL t) ctx) fun x hx'=>(hb.gd x hx').chk
 have h8:=hb.few
 have h9:=hb.hun
 omega
end

section
open Ln
theorem Zep {s t o n:List UInt8} {L:List Ch} {ctx:Int} (h:Bun s t o n L ctx) (ho:o.length≤64) (hn:n.length≤64) (hk:L.length≤4096) :
  (s=t→ptT ⟨o,n,mkR L (splitL s) (splitL t) ctx⟩=[])∧(s≠t→(ptT ⟨o,n,mkR L (splitL s) (splitL t) ctx⟩).length≤1048576→cxT (ptT ⟨o,n,mkR L (splitL s) (splitL t) ctx⟩)=.ok [⟨o,n,mkR L (splitL s) (splitL t) ctx⟩]):=by
 have hhun:=h.hun
 constructor
 ·intro he
  have:=h.nil.2 he
  unfold ptT
  rw[if_pos h.wrg]
  unfold ptL
  rw[if_pos this]
  rfl
 ·intro hne hlen
  have hg:Gp ⟨o,n,mkR L (splitL s) (splitL t) ctx⟩:=⟨fun q=>hne (h.nil.1 q),ho,hn,by show (mkR L (splitL s) (splitL t) ctx).length≤4096;omega,h.gd⟩
  have hall:∀ q∈[(⟨o,n,mkR L (splitL s) (splitL t) ctx⟩:Pth)],Gp q:=fun q hq=>by rw[List.mem_singleton.1 hq];exact hg
  have e:[(⟨o,n,mkR L (splitL s) (splitL t) ctx⟩:Pth)].flatMap ptT=ptT ⟨o,n,mkR L (splitL s) (splitL t) ctx⟩:=by simp
  have e2:=ZoX hall
  rw[e] at e2
  rw[e2] at hlen ⊢
  exact ZeN hall (by simp) hlen
structure Agr (s t:List UInt8) (L:List Ch) (ctx:Int) (Q0 Q:List Pth):Prop where
 scr:Script L (splitL s).length (splitL t).length
 few:L.length≤(splitL s).length+1
 g0:grpE L (splitL s).length (splitL t).length 0=0
 g1:grpE L (splitL s).length (splitL t).length ctx=0
 w0:wrgP ⟨[97],[98],mkR L (splitL s) (splitL t) 0⟩=0
 w1:wrgP ⟨[97],[98],mkR L (splitL s) (splitL t) ctx⟩=0
 ln:(prtT L (splitL s) (splitL t)).length≤1048576
 lu:(upT ⟨[97],[98],mkR L (splitL s) (splitL t) 0⟩).length≤1048576
 lv:(upT ⟨[97],[98],mkR L (splitL s) (splitL t) ctx⟩).length≤1048576
 lc:(ptT ⟨[97],[98],mkR L (splitL s) (splitL t) ctx⟩).length≤1048576
 rn:prsT (prtT L (splitL s) (splitL t))=.ok (mkR L (splitL s) (splitL t) 0)
 ru:unT atC (upT ⟨[97],[98],mkR L (splitL s) (splitL t) 0⟩)=.ok Q0
 rv:unT atC (upT ⟨[97],[98],mkR L (splitL s) (splitL t) ctx⟩)=.ok Q
 rc:cxT (ptT ⟨[97],[98],mkR L (splitL s) (splitL t) ctx⟩)=.ok Q
 two:(Q0=[]∧Q=[]∧mkR L (splitL s) (splitL t) 0=[])∨(Q0=[⟨[97],[98],mkR L (splitL s) (splitL t) 0⟩]∧Q=[⟨[97],[98],mkR L (splitL s) (splitL t) ctx⟩])
theorem ZaQ (K:Int) (s t:List UInt8) (hx:(splitL s).length≤150) (hy:(splitL t).length≤150) (hl:s.length+t.length≤100000) {ctx:Int} (hc:0≤ctx∧ctx≤100) {L:List Ch} (hL:mkL (eng K (clx ig0 (splitL s) (splitL t)) (cly ig0 (splitL s) (splitL t))) (splitL t).length=L):∃ Q0 Q,Agr s t L ctx Q0 Q:=by
 have hb:=Zbq K s t (by omega) (by omega) hL
 have b0:=ZbH K s t [97] [98] (by omega) (by omega) (by decide) (by decide) (ctx:=0) (by omega) hL
 have b1:=ZbH K s t [97] [98] (by omega) (by omega) (by decide) (by decide) hc hL
 have s0:=Zis K s t hx hy hl (ctx:=0) (by omega) hL
 have s1:=Zis K s t hx hy hl hc hL
 have l0:=ZtX ⟨[97],[98],mkR L (splitL s) (splitL t) 0⟩
 have l1:=ZtX ⟨[97],[98],mkR L (splitL s) (splitL t) ctx⟩
 have l2:=ZoS ⟨[97],[98],mkR L (splitL s) (splitL t) ctx⟩
 have l3:=hb.len
 have hf:=hb.few
 dsimp only at l0 l1 l2
 obtain⟨c1,c2⟩:=Zep b1 (by decide) (by decide) (by omega)
 have rn:=hb.rd
 rw[if_neg (by omega)] at rn
 by_cases he:s=t
 ·refine⟨[],[],hb.scr,hf,b0.grp,b1.grp,b0.wrg,b1.wrg,by omega,by omega,by omega,by omega,rn,?_,?_,?_,.inl ⟨rfl,rfl,b0.nil.2 he⟩⟩
  ·rw[b0.emp.2 he]
   rfl
  ·rw[b1.emp.2 he]
   rfl
  ·rw[c1 he]
   rfl
 ·have r0:=b0.rd he
  have r1:=b1.rd he
  rw[if_neg (by omega)] at r0 r1
  exact⟨_,_,hb.scr,hf,b0.grp,b1.grp,b0.wrg,b1.wrg,by omega,by omega,by omega,by omega,rn,r0,r1,c2 he (by omega),.inr ⟨rfl,rfl⟩⟩
end

end Go.Proofs.YtgiojkhmkeocfaaGreatDoor
