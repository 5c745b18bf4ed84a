/-
  Texts that belong together, joined: HuZl.
-/
import Derived.Test.YtcnjephlmcnodaaGreatDoorVzA14
import Derived.Test.YtcnjephlmcnodaaGreatDoorVzA11
import Derived.Deep.CutRange

set_option maxHeartbeats 16000000
set_option maxRecDepth 100000
namespace Go.Proofs.YtcnjephlmcnodaaGreatDoor

section
open Go.RowKit
theorem Zdx (k:Int) (a b:List (List UInt8)) (ha:a.length≤4096) (hb:b.length≤4096) {L:List Ch} (hL:mkL (eng k (clx ig0 a b) (cly ig0 a b)) b.length=L):Script L a.length b.length∧(∀ r∈U 0 0 a.length b.length L,a[r.a.toNat]?=b[r.b.toNat]?)∧L.length≤a.length+1:=by
 have hK:=Zdy k (clx ig0 a b) (cly ig0 a b)
 have hLl:=ZhA (eng k (clx ig0 a b) (cly ig0 a b)) b.length
 rw[hK.len,Zco,hL] at hLl
 generalize eng k (clx ig0 a b) (cly ig0 a b)=K at hK hL
 have hv:=hK.vk
 rw[Zcr] at hv
 obtain⟨h1,h2⟩:=ZhB hv (by omega) (by omega) (by rw[hK.len,Zco];omega)
 rw[hK.len,Zco] at h1 h2
 rw[hL] at h1 h2
 refine⟨h1,?_,hLl⟩
 intro r hr
 have hbd:=h1.2.2.bounds r hr
 rw[h2] at hr
 obtain⟨_,_,h4,h5⟩:=Zhs.1 hr
 rw[Int.sub_zero] at h4
 have h6:=hK.eqs r.a.toNat r.b.toNat (by rw[h4];congr 1;omega)
 have hi:r.a.toNat<a.length:=by omega
 have hj:r.b.toNat<b.length:=by omega
 rw[Zck ig0 a b hi hj,canon0,canon0] at h6
 rw[List.getElem?_eq_getElem hi,List.getElem?_eq_getElem hj,h6]
theorem Zdf (k:Int) (m:Int) (h0:0<m) (h1:m≤100):∃ c,wrap64 ((IntKind.u64.wrap k).tmod m)=c∧0≤c∧c<m:=by
 refine⟨_,rfl,?_⟩
 have h:0≤IntKind.u64.wrap k:=by simp[IntKind.wrap,IntKind.bits,IntKind.signed];omega
 generalize IntKind.u64.wrap k=z at h ⊢
 rw[Int.tmod_eq_emod_of_nonneg h]
 have h2:=Int.emod_nonneg z (by omega:m≠0)
 have h3:=Int.emod_lt_of_pos z h0
 unfold wrap64
 omega
end

end Go.Proofs.YtcnjephlmcnodaaGreatDoor
