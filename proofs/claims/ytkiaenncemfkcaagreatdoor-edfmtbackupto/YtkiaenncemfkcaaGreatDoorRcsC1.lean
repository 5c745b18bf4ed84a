/-
  Texts that belong together, joined: EfJn.
-/
import Derived.Test.YtkiaenncemfkcaaGreatDoorRcsA3
import Derived.Laws.CopyOwn

set_option maxHeartbeats 16000000
set_option maxRecDepth 100000
namespace Go.Proofs.YtkiaenncemfkcaaGreatDoor

section
open Go.RowKit
def slG (ao:Option Addr) (cap k:Nat):Option Addr:=if cap=k then ao else ao.map (·.add k)
theorem made1 (z:Value) (N:Nat):madeCells #[z] N=(List.replicate N z).toArray:=by
 apply Array.toList_inj.1
 apply List.ext_getElem
 ·simp[madeCells]
 ·intro i h1 h2
  simp[madeCells,Nat.mod_one]
theorem ZwV {T E:TypeId} {z:Value} {bytes:Nat} (hT:Tryz.prog.underlying T=some (.slice E)) (hinfo:(Tryz.prog.info? E).map (fun i=>(i.zero,i.size,i.bytes))=some (some z,1,bytes)) (hz:z.cells=#[z]) (hby:bytes≤64) (N:Nat) (hN:N≤1099511627776) (q:Int) (hq:q=(N:Int)) (W:World) :
  (Instr.makeSlice T (.int .i64 q) (.int .i64 q)).run Tryz.prog W=.ok (.slice (some ⟨W.heap.size,0,none⟩) N N) (W.alloc (.cells (List.replicate N z).toArray E)):=by
 subst hq
 obtain⟨i0,hi,hz0,hzs,hz2⟩:=info_parts hinfo
 have h1:i0.bytes * N≤64 * 1099511627776:=by rw[hz2];exact Nat.mul_le_mul hby hN
 have hr:=run_make (P:=Tryz.prog) W T E i0 _ hT hi hz0 .i64 .i64 (N:Int) (N:Int) (by omega) (Int.le_refl _) (by
  have:((i0.bytes * N:Nat):Int)≤281474976710656:=by omega
  rwa [Int.natCast_mul] at this) (by omega)
 rw[hz,made1] at hr
 simpa [hzs] using hr
theorem Zxd {T:TypeId} (hT:Tryz.prog.underlying T=some (.slice (Tryz.prog.elem T))) (hs:∀ u:World,(sizeOf (Tryz.prog.elem T)).run Tryz.prog u=.ok 1 u) (ao:Option Addr) (n cap k:Nat) (hk:k≤n) (u:World):(Instr.slice T (.slice ao n cap) (some (.int .i64 (k:Int))) none none).run Tryz.prog u=.ok (.slice (slG ao cap k) (n-k) (cap-k)) u:=by
 rw[run_slice_l (P:=Tryz.prog) u T ao n cap hT .i64 k (by omega) (by omega),hs u]
 simp[Result.andThen,sliced,slG]
theorem efsT:∀ u:World,(sizeOf (Tryz.prog.elem 23)).run Tryz.prog u=.ok 1 u:=fun u=>by kernel_rfl
theorem infoT:(Tryz.prog.info? 9).map (fun i=>(i.zero,i.size,i.bytes))=some (some (.string ⟨#[]⟩),1,16):=by kernel_rfl
theorem Zmx (v1 v2 v3:Value) (n1 n2 n3:Nat) (x1 x2 x3:List Value) (w:World) (h1:Holds w v1 n1 x1) (h2:Holds w v2 n2 x2) (h3:Holds w v3 n3 x3) (L1:Hid (x1.length=n1)) (L2:Hid (x2.length=n2)) (L3:Hid (x3.length=n3))
  (o1:∀ u∈x1,u.oneCell'=true) (o2:∀ u∈x2,u.oneCell'=true) (o3:∀ u∈x3,u.oneCell'=true) (N:Nat) (HN:Hid (n1+n2+n3=N)) (hN:N≤1099511627776) :
  Calls Tryz.prog 116 #[v1,v2,v3] w fun e w'=>e=.returned (.slice (some ⟨w.heap.size,0,none⟩) N N)∧w'.heap[w.heap.size]?=some (.cells (x1++(x2++x3)).toArray 9 (0,0))∧Below w.heap.size w w':=by
 obtain⟨a1,c1,rfl⟩:=Holds.form h1
 obtain⟨a2,c2,rfl⟩:=Holds.form h2
 obtain⟨a3,c3,rfl⟩:=Holds.form h3
 have hn:=HN.out
 obtain⟨m,hm⟩:∃ m,n1+n2=m:=⟨_,rfl⟩
 have hmI:(n1:Int)+(n2:Int)=(m:Int):=by omega
 have k1:n1≤N:=by omega
 have k2:m≤N:=by omega
 have hb:n1≤1099511627776∧n2≤1099511627776∧n3≤1099511627776:=by omega
 have hmk:=ZwV (z:=.string ⟨#[]⟩) Tryz.underlying23 infoT rfl (by decide) N hN ((m:Int)+(n3:Int)) (by omega)
 have hs1:=fun u=>Zxd (T:=23) (by kernel_rfl) efsT (some ⟨w.heap.size,0,none⟩) N N n1 k1 u
 have hs2:=fun u=>Zxd (T:=23) (by kernel_rfl) efsT (some ⟨w.heap.size,0,none⟩) N N m k2 u
 have M1:Hid (x1.length=Nat.min n1 N):=(by show _=min n1 N;rw[L1.out];omega)
 have M2:Hid (x2.length=Nat.min n2 (N-n1)):=(by show _=min n2 (N-n1);rw[L2.out];omega)
 have M3:Hid (x3.length=Nat.min n3 (N-m)):=(by show _=min n3 (N-m);rw[L3.out];omega)
 have hsrc:∀ (v:Value) (n:Nat) (xs:List Value) (a:Option Addr) (c:Nat) (u:World),Holds w v n xs→v=.slice a n c→Below w.heap.size w u→0<xs.length→∃ ad,a=some ad∧∀ j v,xs[j]?=some v→u.cell? (ad.add j)=some v:=by
  intro v n xs a c u hh hv hb h0
  have hk:=Holds.keep hh (w':=u) fun k hk=>hb.block k hk
  rcases hk with ⟨_,_,rfl⟩ | ⟨ad,c',hq,_,hc⟩
  ·simp at h0
  ·rw[hv] at hq
   cases hq
   exact⟨ad,rfl,hc⟩
 have F1:Hid (0+x1.length≤(List.replicate N (Value.string ⟨#[]⟩)).length):=(by show _≤_;rw[L1.out,List.length_replicate];omega)
 have S1:Hid ((splice (List.replicate N (Value.string ⟨#[]⟩)) 0 x1).length=N):=(by show _=_;rw[length_splice _ _ _ F1.out,List.length_replicate])
 have F2:Hid (n1+x2.length≤(splice (List.replicate N (Value.string ⟨#[]⟩)) 0 x1).length):=(by show _≤_;rw[L2.out,S1.out];omega)
 have F3:Hid (m+x3.length≤(splice (splice (List.replicate N (Value.string ⟨#[]⟩)) 0 x1) n1 x2).length):=(by show _≤_;rw[L3.out,length_splice _ _ _ F2.out,S1.out];omega)
 have R3:Hid (splice (splice (splice (List.replicate N (Value.string ⟨#[]⟩)) 0 x1) n1 x2) m x3=x1++(x2++x3)):=(by show _=_;rw[← hm];exact splice_splice_splice _ _ _ _ n1 n2 L1.out L2.out (by rw[List.length_replicate,L3.out];omega))
 have D2:Hid (0<x2.length→slG (some ⟨w.heap.size,0,none⟩) N n1=some ⟨w.heap.size,n1,none⟩):=(by
  intro h
  unfold slG
  rw[if_neg (by rw[L2.out] at h;omega),Option.map_some,add_none,Nat.zero_add])
 have D3:Hid (0<x3.length→slG (some ⟨w.heap.size,0,none⟩) N m=some ⟨w.heap.size,m,none⟩):=(by
  intro h
  unfold slG
  rw[if_neg (by rw[L3.out] at h;omega),Option.map_some,add_none,Nat.zero_add])
 clear hn hm HN
 go_enter Tryz.func116,Tryz.ntmps116
 go_wp2_with (refine wpList_copy_splice (o:=⟨some 20,_,_,_,_,none⟩) rfl (.tmp 18) (.tmp 19) 23 23 rfl 9 Tryz.underlying23 (by kernel_rfl) _ _ _ _ _ _ rfl rfl w.heap.size 0 (List.replicate N (Value.string ⟨#[]⟩)) 9 (_root_.Go.heap_alloc_new w _) x1 M1.out (fun h=>⟨rfl,hsrc _ _ _ _ _ _ h1 rfl ((Below.refl _ w).alloc (Nat.le_refl _) _) h⟩) F1.out o1 w.heap.size w ((Below.refl _ w).alloc (Nat.le_refl _) _) (Nat.le_refl _) ?_)
 intro w1 hg1 hB1
 have e1:(x1.length:Int)=(n1:Int):=by rw[L1.out]
 simp only[e1]
 clear e1
 go_wp2_with (refine wpList_copy_splice (o:=⟨some 26,_,_,_,_,none⟩) rfl (.tmp 24) (.tmp 25) 23 23 rfl 9 Tryz.underlying23 (by kernel_rfl) _ _ _ _ _ _ rfl rfl w.heap.size n1 _ 9 hg1.out x2 M2.out (fun h=>⟨D2.out h,hsrc _ _ _ _ _ _ h2 rfl hB1 h⟩) F2.out o2 w.heap.size w hB1 (Nat.le_refl _) ?_)
 intro w2 hg2 hB2
 have e2:(x2.length:Int)=(n2:Int):=by rw[L2.out]
 simp only[e2]
 clear e2
 go_wp2_with (refine wpList_copy_splice (o:=⟨some 32,_,_,_,_,none⟩) rfl (.tmp 30) (.tmp 31) 23 23 rfl 9 Tryz.underlying23 (by kernel_rfl) _ _ _ _ _ _ rfl rfl w.heap.size m _ 9 hg2.out x3 M3.out (fun h=>⟨D3.out h,hsrc _ _ _ _ _ _ h3 rfl hB2 h⟩) F3.out o3 w.heap.size w hB2 (Nat.le_refl _) ?_)
 intro w3 hg3 hB3
 have hg4:=hg3.out
 rw[R3.out] at hg4
 have HG:Hid (w3.heap[w.heap.size]?=some (.cells (x1++(x2++x3)).toArray 9 (0,0))):=hg4
 clear hg1 hg2 hg3 hg4
 go_wp2
 go_ret
 exact⟨rfl,HG.out,hB3⟩
theorem efsL:∀ u:World,(sizeOf (Tryz.prog.elem 72)).run Tryz.prog u=.ok 1 u:=fun u=>by kernel_rfl
theorem infoL:(Tryz.prog.info? 23).map (fun i=>(i.zero,i.size,i.bytes))=some (some (.slice none 0 0),1,24):=by kernel_rfl
theorem Zmw (v1 v2 v3:Value) (n1 n2 n3:Nat) (x1 x2 x3:List Value) (w:World) (h1:Holds w v1 n1 x1) (h2:Holds w v2 n2 x2) (h3:Holds w v3 n3 x3) (L1:Hid (x1.length=n1)) (L2:Hid (x2.length=n2)) (L3:Hid (x3.length=n3))
  (o1:∀ u∈x1,u.oneCell'=true) (o2:∀ u∈x2,u.oneCell'=true) (o3:∀ u∈x3,u.oneCell'=true) (N:Nat) (HN:Hid (n1+n2+n3=N)) (hN:N≤1099511627776) :
  Calls Tryz.prog 117 #[v1,v2,v3] w fun e w'=>e=.returned (.slice (some ⟨w.heap.size,0,none⟩) N N)∧w'.heap[w.heap.size]?=some (.cells (x1++(x2++x3)).toArray 23 (0,0))∧Below w.heap.size w w':=by
 obtain⟨a1,c1,rfl⟩:=Holds.form h1
 obtain⟨a2,c2,rfl⟩:=Holds.form h2
 obtain⟨a3,c3,rfl⟩:=Holds.form h3
 have hn:=HN.out
 obtain⟨m,hm⟩:∃ m,n1+n2=m:=⟨_,rfl⟩
 have hmI:(n1:Int)+(n2:Int)=(m:Int):=by omega
 have k1:n1≤N:=by omega
 have k2:m≤N:=by omega
 have hb:n1≤1099511627776∧n2≤1099511627776∧n3≤1099511627776:=by omega
 have hmk:=ZwV (z:=.slice none 0 0) Tryz.underlying72 infoL rfl (by decide) N hN ((m:Int)+(n3:Int)) (by omega)
 have hs1:=fun u=>Zxd (T:=72) (by kernel_rfl) efsL (some ⟨w.heap.size,0,none⟩) N N n1 k1 u
 have hs2:=fun u=>Zxd (T:=72) (by kernel_rfl) efsL (some ⟨w.heap.size,0,none⟩) N N m k2 u
 have M1:Hid (x1.length=Nat.min n1 N):=(by show _=min n1 N;rw[L1.out];omega)
 have M2:Hid (x2.length=Nat.min n2 (N-n1)):=(by show _=min n2 (N-n1);rw[L2.out];omega)
 have M3:Hid (x3.length=Nat.min n3 (N-m)):=(by show _=min n3 (N-m);rw[L3.out];omega)
 have hsrc:∀ (v:Value) (n:Nat) (xs:List Value) (a:Option Addr) (c:Nat) (u:World),Holds w v n xs→v=.slice a n c→Below w.heap.size w u→0<xs.length→∃ ad,a=some ad∧∀ j v,xs[j]?=some v→u.cell? (ad.add j)=some v:=by
  intro v n xs a c u hh hv hb h0
  have hk:=Holds.keep hh (w':=u) fun k hk=>hb.block k hk
  rcases hk with ⟨_,_,rfl⟩ | ⟨ad,c',hq,_,hc⟩
  ·simp at h0
  ·rw[hv] at hq
   cases hq
   exact⟨ad,rfl,hc⟩
 have F1:Hid (0+x1.length≤(List.replicate N (Value.slice none 0 0)).length):=(by show _≤_;rw[L1.out,List.length_replicate];omega)
 have S1:Hid ((splice (List.replicate N (Value.slice none 0 0)) 0 x1).length=N):=(by show _=_;rw[length_splice _ _ _ F1.out,List.length_replicate])
 have F2:Hid (n1+x2.length≤(splice (List.replicate N (Value.slice none 0 0)) 0 x1).length):=(by show _≤_;rw[L2.out,S1.out];omega)
 have F3:Hid (m+x3.length≤(splice (splice (List.replicate N (Value.slice none 0 0)) 0 x1) n1 x2).length):=(by show _≤_;rw[L3.out,length_splice _ _ _ F2.out,S1.out];omega)
 have R3:Hid (splice (splice (splice (List.replicate N (Value.slice none 0 0)) 0 x1) n1 x2) m x3=x1++(x2++x3)):=(by show _=_;rw[← hm];exact splice_splice_splice _ _ _ _ n1 n2 L1.out L2.out (by rw[List.length_replicate,L3.out];omega))
 have D2:Hid (0<x2.length→slG (some ⟨w.heap.size,0,none⟩) N n1=some ⟨w.heap.size,n1,none⟩):=(by
  intro h
  unfold slG
  rw[if_neg (by rw[L2.out] at h;omega),Option.map_some,add_none,Nat.zero_add])
 have D3:Hid (0<x3.length→slG (some ⟨w.heap.size,0,none⟩) N m=some ⟨w.heap.size,m,none⟩):=(by
  intro h
  unfold slG
  rw[if_neg (by rw[L3.out] at h;omega),Option.map_some,add_none,Nat.zero_add])
 clear hn hm HN
 go_enter Tryz.func117,Tryz.ntmps117
 go_wp2_with (refine wpList_copy_splice (o:=⟨some 20,_,_,_,_,none⟩) rfl (.tmp 18) (.tmp 19) 72 72 rfl 23 Tryz.underlying72 (by kernel_rfl) _ _ _ _ _ _ rfl rfl w.heap.size 0 (List.replicate N (Value.slice none 0 0)) 23 (_root_.Go.heap_alloc_new w _) x1 M1.out (fun h=>⟨rfl,hsrc _ _ _ _ _ _ h1 rfl ((Below.refl _ w).alloc (Nat.le_refl _) _) h⟩) F1.out o1 w.heap.size w ((Below.refl _ w).alloc (Nat.le_refl _) _) (Nat.le_refl _) ?_)
 intro w1 hg1 hB1
 have e1:(x1.length:Int)=(n1:Int):=by rw[L1.out]
 simp only[e1]
 clear e1
 go_wp2_with (refine wpList_copy_splice (o:=⟨some 26,_,_,_,_,none⟩) rfl (.tmp 24) (.tmp 25) 72 72 rfl 23 Tryz.underlying72 (by kernel_rfl) _ _ _ _ _ _ rfl rfl w.heap.size n1 _ 23 hg1.out x2 M2.out (fun h=>⟨D2.out h,hsrc _ _ _ _ _ _ h2 rfl hB1 h⟩) F2.out o2 w.heap.size w hB1 (Nat.le_refl _) ?_)
 intro w2 hg2 hB2
 have e2:(x2.length:Int)=(n2:Int):=by rw[L2.out]
 simp only[e2]
 clear e2
 go_wp2_with (refine wpList_copy_splice (o:=⟨some 32,_,_,_,_,none⟩) rfl (.tmp 30) (.tmp 31) 72 72 rfl 23 Tryz.underlying72 (by kernel_rfl) _ _ _ _ _ _ rfl rfl w.heap.size m _ 23 hg2.out x3 M3.out (fun h=>⟨D3.out h,hsrc _ _ _ _ _ _ h3 rfl hB2 h⟩) F3.out o3 w.heap.size w hB2 (Nat.le_refl _) ?_)
 intro w3 hg3 hB3
 have hg4:=hg3.out
 rw[R3.out] at hg4
 have HG:Hid (w3.heap[w.heap.size]?=some (.cells (x1++(x2++x3)).toArray 23 (0,0))):=hg4
 clear hg1 hg2 hg3 hg4
 go_wp2
 go_ret
 exact⟨rfl,HG.out,hB3⟩
end

end Go.Proofs.YtkiaenncemfkcaaGreatDoor
