/-
  Texts that belong together, joined: RcAg.
-/
import Derived.Test.YtkiaenncemfkcaaGreatDoorRcsD3
import Derived.Test.YtkiaenncemfkcaaGreatDoorRcsC2

set_option maxHeartbeats 16000000
set_option maxRecDepth 100000
namespace Go.Proofs.YtkiaenncemfkcaaGreatDoor

section
theorem ZiT {α:Type} (f:α→List (List UInt8)) (l:List α):(l.flatMap f).flatten.length=(l.map fun c=>(f c).flatten.length).sum:=by
 induction l with
 | nil=>rfl
 | cons c l ih=>rw[List.flatMap_cons,List.flatten_append,List.length_append,ih,List.map_cons,List.sum_cons]
theorem ZiS {α:Type} (f:α→List (List UInt8)) (l:List α):(l.reverse.flatMap f).flatten.length=(l.flatMap f).flatten.length:=by
 rw[ZiT,ZiT,List.map_reverse,List.sum_reverse]
theorem ZfZ {b:List (List UInt8)} {n:Int} (g:Ch→Nat) (K M:Nat) (l:List Ch):∀ (fl:Bool) (x y:Int),0≤y→Right fl x y n b.length l→(∀ c∈l,g c≤K+M * (cut b c.B c.BN).length+(cut b c.B c.BN).flatten.length)→(l.map g).sum≤K * l.length+M * (b.drop y.toNat).length+(b.drop y.toNat).flatten.length:=by
 induction l with
 | nil=>intro _ _ _ _ _ _;simp
 | cons c l ih =>
  intro fl x y hy hr hg
  obtain⟨⟨h1,h2,h3,h4⟩,h5⟩:=hr
  have hn:=(Zqy c).1 h1
  have hle:=h5.le
  have hi:=ih false (c.A+c.AN) (c.B+c.BN) (by omega) h5 (fun d hd=>hg d (by simp[hd]))
  have hc:=hg c (by simp)
  have e1:b.drop y.toNat=(b.drop y.toNat).take (c.B-y).toNat++(cut b c.B c.BN++b.drop (c.B+c.BN).toNat):=by
   have k1:b.drop c.B.toNat=(b.drop y.toNat).drop (c.B-y).toNat:=by rw[List.drop_drop];congr 1;omega
   have k2:b.drop (c.B+c.BN).toNat=(b.drop c.B.toNat).drop c.BN.toNat:=by rw[List.drop_drop];congr 1;omega
   unfold cut
   rw[k2,List.take_append_drop,k1,List.take_append_drop]
  have e2:=congrArg List.length e1
  have e3:=congrArg (fun z:List (List UInt8)=>z.flatten.length) e1
  simp only[List.length_append,List.flatten_append] at e2 e3
  rw[List.map_cons,List.sum_cons,List.length_cons]
  have m1:M * (b.drop y.toNat).length=M * ((b.drop y.toNat).take (c.B-y).toNat).length+(M * (cut b c.B c.BN).length+M * (b.drop (c.B+c.BN).toNat).length):=by
   rw[← Nat.mul_add,← Nat.mul_add,← e2]
  have m2:K * (l.length+1)=K * l.length+K:=Nat.mul_succ _ _
  omega
theorem Zuk {b:List (List UInt8)} {n:Int} {l:List Ch} (h:Script l n b.length):(rcT l b).length≤90 * l.length+b.flatten.length:=by
 unfold rcT rcL
 rw[ZiT]
 have hm:=Zvs h.2.2
 have:=ZfZ (fun c=>(rcC b c).flatten.length) 90 0 l true 0 0 (Int.le_refl _) h.2.2 (fun c hc=>by
  have hn:=(Zqy c).1 (hm c hc).1
  have h1:=@ZtU 100 (c.A+1) c.AN (by omega) (by omega) (by omega) (by omega)
  have h2:=@ZtU 97 (c.A+c.AN) c.BN (by omega) (by omega) (by omega) (by omega)
  have k1:((if 0<c.AN then [rcB 100 (c.A+1) c.AN++[10]] else []):List (List UInt8)).flatten.length≤45:=by
   split
   ·simpa using h1
   ·simp
  have k2:((if 0<c.BN then (rcB 97 (c.A+c.AN) c.BN++[10])::cut b c.B c.BN else []):List (List UInt8)).flatten.length≤45+(cut b c.B c.BN).flatten.length:=by
   split
   ·rw[List.flatten_cons,List.length_append];omega
   ·simp
  unfold rcC
  rw[List.flatten_append,List.length_append]
  omega)
 have e:b.drop (0:Int).toNat=b:=rfl
 rw[e] at this
 omega
theorem Zhw {b:List (List UInt8)} {n:Int} {l:List Ch} (h:Script l n b.length):(epT l b).length≤45 * l.length+14 * b.length+b.flatten.length+28:=by
 unfold epT epL
 rw[List.flatten_append,List.length_append,ZiS,ZiT]
 have hm:=Zvs h.2.2
 have:=ZfZ (fun c=>(edL b c).flatten.length) 45 14 l true 0 0 (Int.le_refl _) h.2.2 (fun c hc=>by
  have hn:=(Zqy c).1 (hm c hc).1
  have h1:=@ZgA c (by omega) (by omega) (by omega) (by omega)
  have h2:=ZBF (cut b c.B c.BN)
  rw[ZgB b c (hm c hc).1 (hm c hc).2.2]
  simp only[List.length_append,List.length_cons,List.length_nil]
  omega)
 have e:b.drop (0:Int).toNat=b:=rfl
 rw[e] at this
 have h4:(endL b).flatten.length≤28:=by unfold endL;split<;>simp[markT]
 omega
end

end Go.Proofs.YtkiaenncemfkcaaGreatDoor
