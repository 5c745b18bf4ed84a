/-
  Texts that belong together, joined: HuZl.
-/
import Derived.Test.YtkiaenncemfkcaaGreatDoorRcsA11
import Derived.Test.YtkiaenncemfkcaaGreatDoorRcsA10
import Derived.Deep.CutRange

set_option maxHeartbeats 16000000
set_option maxRecDepth 100000
namespace Go.Proofs.YtkiaenncemfkcaaGreatDoor

section
open Go.RowKit
theorem Zhr (k:Int) (a b:List (List UInt8)) (ha:a.length≤4096) (hb:b.length≤4096) {L:List Ch} (hL:mkL (eng k (clx ig0 a b) (cly ig0 a b)) b.length=L):Script L a.length b.length∧(∀ r∈U 0 0 a.length b.length L,a[r.a.toNat]?=b[r.b.toNat]?)∧L.length≤a.length+1:=by
 have hK:=Zhs k (clx ig0 a b) (cly ig0 a b)
 have hLl:=Zpy (eng k (clx ig0 a b) (cly ig0 a b)) b.length
 rw[hK.len,ZeJ,hL] at hLl
 generalize eng k (clx ig0 a b) (cly ig0 a b)=K at hK hL
 have hv:=hK.vk
 rw[ZeM] at hv
 obtain⟨h1,h2⟩:=ZpA hv (by omega) (by omega) (by rw[hK.len,ZeJ];omega)
 rw[hK.len,ZeJ] at h1 h2
 rw[hL] at h1 h2
 refine⟨h1,?_,hLl⟩
 intro r hr
 have hbd:=h1.2.2.bounds r hr
 rw[h2] at hr
 obtain⟨_,_,h4,h5⟩:=Zpo.1 hr
 rw[Int.sub_zero] at h4
 have h6:=hK.eqs r.a.toNat r.b.toNat (by rw[h4];congr 1;omega)
 have hi:r.a.toNat<a.length:=by omega
 have hj:r.b.toNat<b.length:=by omega
 rw[ZeA ig0 a b hi hj,canon0,canon0] at h6
 rw[List.getElem?_eq_getElem hi,List.getElem?_eq_getElem hj,h6]
theorem ZoU {l:List Ch} {a b:List (List UInt8)} {ctx:Int} (hs:Script l a.length b.length) (hc:0≤ctx∧ctx≤100):(mkR l a b ctx).length≤l.length∧∀ h∈mkR l a b ctx,h.ls.length≤a.length+b.length∧∀ m∈h.ls,m.tx∈a∨m.tx∈b:=by
 rw[(Zpv hs hc).1]
 refine⟨?_,?_⟩
 ·rw[List.length_map]
  have hf:=congrArg List.length (Zkd ctx l)
  have key:∀ G:List (List Ch),(∀ g∈G,g≠[])→G.length≤G.flatten.length:=by
   intro G
   induction G with
   | nil=>intro _;simp
   | cons g G ih =>
    intro h
    have h1:=ih fun x hx=>h x (by simp[hx])
    have h2:0<g.length:=List.length_pos_iff.2 (h g (by simp))
    simp only[List.flatten_cons,List.length_append,List.length_cons]
    omega
  have:=key _ (Zkg ctx l)
  omega
 ·intro h hh
  obtain⟨g,hg,rfl⟩:=List.mem_map.1 hh
  obtain⟨pre,post,he⟩:=List.append_of_mem hg
  cases g with
  | nil=>exact absurd rfl (Zkg ctx l [] hg)
  | cons f g=>exact⟨(ZxJ hc.1 hs he).2.2.2,fun m hm=>(Zpg _ _ m hm).2⟩
end

end Go.Proofs.YtkiaenncemfkcaaGreatDoor
