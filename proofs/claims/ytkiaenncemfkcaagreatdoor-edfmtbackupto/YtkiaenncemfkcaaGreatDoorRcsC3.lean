/-
  Texts that belong together, joined: EfCu, EfFn, EfRn, EfRe.
-/
import Derived.Test.YtkiaenncemfkcaaGreatDoorRcsC2
import Derived.Deep.RegionHeld3

set_option maxHeartbeats 16000000
set_option maxRecDepth 100000
namespace Go.Proofs.YtkiaenncemfkcaaGreatDoor

section
open Go.RowKit
theorem Zan (lo:Nat) (x:Bck) (M:Nat) (HM:Hid (x.xs.length≤512 * M∧512 * M<x.xs.length+512)) (hn:x.xs.length≤1099511627776) (hxc:x.xs.length≤x.c) (w:World)
  (hlo:lo+1<w.heap.size) (hb0:w.heap[lo]?=some (.cells #[x.v] 23 (0,0))) (hb1:w.heap[lo+1]?=some (.cells #[.int .i64 512] 3 (0,0))) :
  Calls Tryz.prog 76 #[.func (.func 113) #[] #[.pointer (some ⟨lo,0,none⟩),.pointer (some ⟨lo+1,0,none⟩)]] w fun e w'=>∃ v,e=.returned v∧w'.ownsRow w.heap.size 23 1 v (cks x M).length ((cks x M).map Bck.v)∧Below w.heap.size w w':=by
 go_enter Tryz.func76,Tryz.ntmps76
 go_wp2_with fail
 refine (Zaa lo x M HM hn hxc w hlo hb0 hb1).mono ?_
 rintro e w1 ⟨v,rfl,h1,h2⟩
 go_wp2
 go_ret
 exact⟨v,rfl,h1,h2⟩
theorem Bks.of_own {w:World} {N B:Nat} {v:Value} {X:List Bck} (h:w.ownsRow B 23 1 v X.length (X.map Bck.v)) (hN:N≤B) (h0:X≠[]) (hb:∀ x∈X,HB w N x) (ha:X.Pairwise Apart):Bks w N v X:=by
 have hc:=h
 rcases h.2 with ⟨_,q⟩ | ⟨g,cap,cur,rfl,q2,q3,q4,_⟩
 ·exact absurd (List.eq_nil_of_length_eq_zero q) h0
 ·refine⟨⟨g,cap,cur,rfl,q4,by omega,q3,fun j hj=>?_⟩,h0,hb,ha⟩
  have h1:=hc.cells (g:=g) rfl j (X[j].v) (by simp[hj])
  rw[add_none,Lib.cell_of_heap q3,Nat.zero_add] at h1
  exact h1
theorem ZfS (x:Bck) (N:Nat) (w:World) (hx:HB w N x) (hn:x.xs.length≤1099511627776) (hN:N≤w.heap.size) :
  Calls Tryz.prog 48 #[x.v] w fun e w'=>∃ v X,e=.returned v∧Bks w' N v X∧cat X=x.xs∧(∀ y∈X,y.g=x.g)∧512 * X.length≤x.xs.length+512∧Below w.heap.size w w':=by
 obtain⟨n,hnn⟩:∃ n,x.xs.length=n:=⟨_,rfl⟩
 have hxv:x.v=.slice (some ⟨x.g,x.o,none⟩) n x.c:=by rw[← hnn];rfl
 by_cases hs:n≤1024
 ·have hB:Below w.heap.size w (w.alloc (.cells #[x.v] 23)):=(Below.refl _ w).alloc (Nat.le_refl _) _
  have hk:Bks (w.alloc (.cells #[x.v] 23)) N (.slice (some ⟨w.heap.size,0,none⟩) 1 1) [x] :=
   Bks.new (X:=[x]) (_root_.Go.heap_alloc_new w _) hN rfl (by simp) (fun y hy=>by rw[List.mem_singleton.1 hy];exact hx.low hB) (List.pairwise_singleton _ _)
  have HK:Hid (Bks (w.alloc (.cells #[x.v] 23)) N (.slice (some ⟨w.heap.size,0,none⟩) 1 1) [x]):=hk
  have i1:(n:Int)≤1024:=by omega
  clear hk hx
  rw[hxv] at HK hB ⊢
  clear hnn hxv
  go_enter Tryz.func48,Tryz.ntmps48
  go_wp2
  go_ret
  exact⟨_,[x],rfl,HK.out,by simp[cat],fun y hy=>by rw[List.mem_singleton.1 hy],by simp,hB⟩
 ·have i1:decide ((n:Int)≤1024)=false:=decide_eq_false (by omega)
  obtain⟨M,hM1,hM2⟩:∃ M,n≤512 * M∧512 * M<n+512:=⟨(n+511) / 512,by omega,by omega⟩
  have HM:Hid (x.xs.length≤512 * M∧512 * M<x.xs.length+512):=(by rw[hnn];exact⟨hM1,hM2⟩)
  obtain⟨W0,hW0⟩:∃ W0,(w.alloc (.cells #[x.v] 23)).alloc (.cells #[.int .i64 512] 3)=W0:=⟨_,rfl⟩
  have hsz:W0.heap.size=w.heap.size+1+1:=by rw[← hW0];simp
  have hB0:Below w.heap.size w W0:=by rw[← hW0];exact ((Below.refl _ w).alloc (Nat.le_refl _) _).alloc (by simp) _
  have hb0:W0.heap[w.heap.size]?=some (.cells #[x.v] 23 (0,0)):=by rw[← hW0];exact (Below.heap_alloc _ _ _ (by simp)).trans (_root_.Go.heap_alloc_new w _)
  have hb1:W0.heap[w.heap.size+1]?=some (.cells #[.int .i64 512] 3 (0,0)):=(by
   rw[← hW0]
   have:=_root_.Go.heap_alloc_new (w.alloc (.cells #[x.v] 23)) (.cells #[.int .i64 512] 3)
   rw[World.size_alloc] at this
   exact this)
  have hcl:=Zan w.heap.size x M HM hn hx.2.1 W0 (by omega) hb0 hb1
  rw[hxv] at hW0 ⊢
  have HC:Hid (cat (cks x M)=x.xs):=(by show _=_;rw[Zew,List.take_of_length_le (by omega)])
  have hM0:0<M:=by omega
  have HL:Hid (512 * (cks x M).length≤x.xs.length+512):=(by show _≤_;rw[Zey,hnn];omega)
  clear hnn hb0 hb1 HM hM1 hM2
  go_enter Tryz.func48,Tryz.ntmps48
  go_wp2_with fail
  refine (Zai _ _ _ _).mono ?_
  rintro e w1 ⟨rfl,rfl⟩
  rw[hW0]
  go_wp2_with fail
  refine hcl.mono ?_
  rintro e w2 ⟨v,rfl,hr,hB2⟩
  have hB3:=hB0.trans (hB2.mono hB0.size)
  go_wp2
  go_ret
  exact⟨v,cks x M,rfl,Bks.of_own hr (by omega) (fun q=>by have:=congrArg List.length q;rw[Zey] at this;simp at this;omega) (fun y hy=>(Zex (hx.low hB3) M y hy).1) (Zev x M),HC.out,fun y hy=>(Zex hx M y hy).2,HL.out,hB3⟩
theorem ZlJ (x:Bck) (N:Nat) (w:World) (hx:HB w N x) (hn:x.xs.length≤1099511627776) (hN:N≤w.heap.size) :
  Calls Tryz.prog 27 #[x.v] w fun e w'=>∃ v X,e=.returned (.agg #[v,.int .i64 (x.xs.length:Int)])∧Bks w' N v X∧cat X=x.xs∧512 * X.length≤x.xs.length+512∧Below w.heap.size w w':=by
 have hB0:Below w.heap.size w (w.alloc (.cells #[.slice none 0 0,.int .i64 0] 74)):=(Below.refl _ w).alloc (Nat.le_refl _) _
 have hc0:=_root_.Go.heap_alloc_new w (.cells #[.slice none 0 0,.int .i64 0] 74)
 obtain⟨W0,hW0⟩:∃ W0,w.alloc (.cells #[.slice none 0 0,.int .i64 0] 74)=W0:=⟨_,rfl⟩
 rw[hW0] at hB0 hc0
 have hcl:=ZfS x N W0 (hx.low hB0) hn (Nat.le_trans hN hB0.size)
 obtain⟨n,hnn⟩:∃ n,x.xs.length=n:=⟨_,rfl⟩
 have hxv:x.v=.slice (some ⟨x.g,x.o,none⟩) n x.c:=by rw[← hnn];rfl
 rw[hxv,hnn] at hcl
 rw[hxv,hnn]
 clear hnn hxv
 go_enter Tryz.func27,Tryz.ntmps27
 go_wp2_with fail
 refine hcl.mono ?_
 rintro e w1 ⟨v,X,rfl,hk,hcat,_,hlb,hb1⟩
 have HLB:Hid (512 * X.length≤n+512):=hlb
 clear hlb
 have hc1:=(hb1.block _ (Array.getElem?_eq_some_iff.1 hc0).1).trans hc0
 have d0:w1.cell? ⟨w.heap.size,0,none⟩=some (.slice none 0 0):=by rw[Lib.cell_of_heap hc1];rfl
 have d1:w1.cell? ⟨w.heap.size,1,none⟩=some (.int .i64 0):=by rw[Lib.cell_of_heap hc1];rfl
 have f0:w1.frozen? ⟨w.heap.size,0,none⟩=false:=by simp[World.frozen?,hc1]
 have f1:w1.frozen? ⟨w.heap.size,1,none⟩=false:=by simp[World.frozen?,hc1]
 have HK:Hid (∀ z0 z1,Bks ((w1.setCell ⟨w.heap.size,0,none⟩ z0).setCell ⟨w.heap.size,1,none⟩ z1) N v X):=(by
  intro z0 z1
  have kp:∀ (k:Nat) (cs:Array Value) (t:TypeId),w1.heap[k]?=some (.cells cs t (0,0))→t≠74→((w1.setCell ⟨w.heap.size,0,none⟩ z0).setCell ⟨w.heap.size,1,none⟩ z1).heap[k]?=w1.heap[k]?:=by
   intro k cs t hk2 ht
   have hne:k≠w.heap.size:=by
    rintro rfl
    rw[hc1] at hk2
    cases hk2
    exact ht rfl
   rw[heap_setCell_other _ _ _ _ hne,heap_setCell_other _ _ _ _ hne]
  obtain⟨o,c,cs,h1,h2,h3,h4,h5⟩:=hk.row
  refine⟨⟨o,c,cs,h1,h2,h3,(kp _ _ _ h4 (by decide)).trans h4,h5⟩,hk.ne,fun y hy=>?_,hk.apart⟩
  have hy2:=hk.blk y hy
  obtain⟨_,_,cs2,q2,_⟩:=hk.blk y hy
  exact hy2.keep (kp _ _ _ q2 (by decide)))
 have hvf:∃ ao c,v=.slice ao X.length c:=(by obtain⟨o,c,_,h1,_⟩:=hk.row;exact⟨_,c,h1⟩)
 obtain⟨ao,c,rfl⟩:=hvf
 have HCT:Hid (cat X=x.xs):=hcat
 have hP:=heap_setCell_same _ w.heap.size 1 _ _ (.int .i64 (n:Int)) (heap_setCell_same w1 w.heap.size 0 _ _ (.slice ao X.length c) hc1)
 have hBw:=hB0.trans (hb1.mono hB0.size)
 clear hk hcat hcl
 go_wp2
 refine bodyPost_ret (v:=.agg #[.slice ao X.length c,.int .i64 (n:Int)]) (results_cell_row rfl _ _ w.heap.size 74 #[.slice ao X.length c,.int .i64 (n:Int)] (0,0) _ rfl hP Tryz.underlying74 rfl (by kernel_rfl)) rfl ?_
 exact⟨_,X,rfl,HK.out _ _,HCT.out,HLB.out,(hBw.setCell (Nat.le_refl _) _).setCell (Nat.le_refl _) _⟩
end

section
open Go.RowKit
def barK (a:List (List UInt8)) (k:Nat):List Value:=scells ((a.map bareT).take k)++List.replicate (a.length-k) (.string ⟨#[]⟩)
theorem Zcj (a:List (List UInt8)) (k:Nat) (h:k<a.length):(barK a k).toArray.setIfInBounds k (.string ⟨(bareT a[k]).toArray⟩)=(barK a (k+1)).toArray:=by
 have e:(a.map bareT).take (k+1)=(a.map bareT).take k++[bareT a[k]]:=by
  rw[List.take_succ_eq_append_getElem (by simpa using h),List.getElem_map]
 have l1:(scells ((a.map bareT).take k)).length=k:=by rw[scells_length,List.length_take,List.length_map];omega
 have e2:List.replicate (a.length-k) (Value.string ⟨#[]⟩)=.string ⟨#[]⟩::List.replicate (a.length-(k+1)) (.string ⟨#[]⟩):=by
  rw[show a.length-k=(a.length-(k+1))+1 by omega]
  rfl
 unfold barK
 rw[e,e2,List.setIfInBounds_toArray,List.set_append_right _ _ (by omega),l1,Nat.sub_self,List.set_cons_zero,scells_append]
 simp[scells]
theorem Zci (a:List (List UInt8)):barK a a.length=scells (a.map bareT):=by
 unfold barK
 rw[Nat.sub_self,List.take_of_length_le (by simp)]
 simp
theorem Zcs (a:List (List UInt8)) (va:Value) (w:World) (ha:HS w va a) (hla:a.length≤1099511627776) (HTA:Hid (∀ s∈a,s.length≤1099511627776)) :
  Calls Tryz.prog 28 #[va] w fun e w'=>e=.returned (.slice (some ⟨w.heap.size,0,none⟩) a.length a.length)∧w'.heap[w.heap.size]?=some (.cells (scells (a.map bareT)).toArray 9 (0,0))∧Below w.heap.size w w':=by
 obtain⟨ao,ca,rfl⟩:=Holds.form ha
 have hmk:=ZwV (z:=.string ⟨#[]⟩) Tryz.underlying23 infoT rfl (by decide) a.length hla (a.length:Int) rfl
 have hz:(List.replicate a.length (Value.string ⟨#[]⟩))=barK a 0:=by simp[barK,scells]
 rw[hz] at hmk
 have hB0:Below w.heap.size w (w.alloc (.cells (barK a 0).toArray 9)):=(Below.refl _ w).alloc (Nat.le_refl _) _
 have hg0:=_root_.Go.heap_alloc_new w (.cells (barK a 0).toArray 9)
 clear hz
 go_enter Tryz.func28,Tryz.ntmps28
 go_wp2
 go_loopw [11] (fun i wr=>∃ k:Nat,k≤a.length∧i=.int .i64 (k:Int)∧Below w.heap.size w wr∧Hid (wr.heap[w.heap.size]?=some (.cells (barK a k).toArray 9 (0,0)))) (fun i _=>a.length-(intOf i).toNat)
 case atStart=>exact⟨0,Nat.zero_le _,by go_num,hB0,hg0⟩
 case round =>
  clear hB0 hg0 hmk
  obtain⟨k,hk,rfl,hbr,hg⟩:=hrel
  by_cases hlt:k<a.length
  ·obtain⟨bk,off,rfl,hbk,hcl⟩:=HS.at (HS.keep ha hbr (Nat.le_refl _)) (by omega)
   have c0:=hcl k hlt
   have hsl:=HTA.out a[k] (List.getElem_mem _)
   have hst:=Zcj a k hlt
   obtain⟨s,hs⟩:∃ s,a[k]=s:=⟨_,rfl⟩
   rw[hs] at c0 hsl hst
   have HST:Hid ((barK a k).toArray.setIfInBounds k (.string ⟨(bareT s).toArray⟩)=(barK a (k+1)).toArray):=hst
   have hlen:k<(barK a k).length:=(by unfold barK;rw[List.length_append,scells_length,List.length_replicate,List.length_take,List.length_map];omega)
   obtain⟨u0,hu0⟩:∃ u0,(barK a k)[k]=u0:=⟨_,rfl⟩
   have g0:wr.cell? ⟨w.heap.size,k,none⟩=some u0:=(by rw[Lib.cell_of_heap hg.out];simp[hlen,hu0])
   have g1:wr.frozen? ⟨w.heap.size,k,none⟩=false:=by simp[World.frozen?,hg.out]
   clear hcl hs hst hlen hu0
   have i1:0≤(k:Int):=by omega
   have i2:(k:Int)<(a.length:Int):=by omega
   go_wp2_with fail
   refine (Znk s _ (by omega)).mono ?_
   rintro e w1 ⟨rfl,rfl⟩
   go_wp2
   refine⟨⟨k+1,by omega,by go_num,hbr.setCell (Nat.le_refl _) _,?_⟩,by simp[intOf];omega⟩
   show _=_
   rw[← HST.out]
   exact heap_setCell_same _ _ _ _ _ _ hg.out
  ·have ek:k=a.length:=by omega
   subst ek
   have hend:decide ((a.length:Int)<(a.length:Int))=false:=decide_eq_false (by omega)
   go_wp2
   go_ret
   exact⟨rfl,by rw[← Zci];exact hg.out,hbr⟩
theorem ZgV (N g q:Nat) (ao:Option Addr) (n c:Nat) (X:List Bck) (w:World) (hk:Bks w N (.slice ao n c) X) (hc:w.cell? ⟨g,q,none⟩=some (.slice ao n c)) (hX:X.length≤1099511627776) (hT:(cat X).length≤1099511627776) (a:Nat) (ha:a≤(cat X).length) :
  Calls Tryz.prog 114 #[.pointer (some ⟨g,q,none⟩),.int .i64 (a:Int)] w fun e w'=>∃ i k,e=.returned (.tuple #[.int .i64 (i:Nat),.int .i64 (k:Nat)])∧Fnd X a i k∧w=w':=by
 obtain⟨o,rfl,rfl,_,hol,hcl⟩:=hk.at
 have HCL:Hid (∀ j (hj:j<X.length),w.cell? ⟨o,j,none⟩=some X[j].v):=hcl
 clear hcl
 have h0:0<X.length:=List.length_pos_iff.2 hk.ne
 go_enter Tryz.func114,Tryz.ntmps114
 go_wp2
 go_loopw [1,4] (fun av iv wr=>∃ (i r:Nat),av=.int .i64 (r:Int)∧iv=.int .i64 (i:Int)∧i<X.length∧Hid ((cat (X.take i)).length+r=a)∧Hid (0<a→0<r)∧Hid (a=0→i=0)∧r≤a∧w=wr) (fun _ iv _=>X.length-(intOf iv).toNat)
 case atStart=>exact⟨0,a,rfl,rfl,h0,(by show _=_;simp[cat]),fun h=>h,fun _=>rfl,Nat.le_refl _,rfl⟩
 case round =>
  obtain⟨i,r,rfl,rfl,hi,h1,h2,h3,h4,rfl⟩:=hrel
  have c0:=HCL.out i hi
  obtain⟨m,hm⟩:∃ m,X[i].xs.length=m:=⟨_,rfl⟩
  have hv:X[i].v=.slice (some ⟨X[i].g,X[i].o,none⟩) m X[i].c:=by rw[← hm];rfl
  rw[hv] at c0
  have HM:Hid (X[i].xs.length=m):=hm
  have HSP:Hid ((cat (X.take (i+1))).length=(cat (X.take i)).length+m):=(by show _=_;rw[ZdE X i hi,List.length_append,hm])
  clear hv hm
  generalize (some (⟨X[i].g,X[i].o,none⟩:Addr))=ad at c0
  generalize X[i].c=cc at c0
  have j1:(0:Int)≤(i:Int):=by omega
  have j2:(i:Int)<(X.length:Int):=by omega
  by_cases hlt:m<r
  ·have l1:(m:Int)<(r:Int):=by omega
   have hi2:i+1<X.length:=(by
    by_cases hq:i+1<X.length
    ·exact hq
    ·exfalso
     have e:X.take (i+1)=X:=List.take_of_length_le (by omega)
     have:=HSP.out
     rw[e] at this
     have:=h1.out
     omega)
   go_wp2
   go_roundw
   case rel=>exact⟨i+1,r-m,by simp;omega,by go_num,hi2,(by show _=_;have:=HSP.out;have:=h1.out;omega),fun _=>by omega,fun hq=>absurd hq (by omega),by omega,trivial⟩
   case measure=>simp[intOf];omega
  ·have l1:decide ((m:Int)<(r:Int))=false:=decide_eq_false (by omega)
   have hF:Fnd X a i r:=⟨hi,by have:=HM.out;omega,h1.out,h2.out,h3.out⟩
   go_wp2
   go_ret2
   exact⟨i,r,rfl,hF,rfl⟩
theorem ZcR (N g q:Nat) (ao:Option Addr) (n c:Nat) (X:List Bck) (w:World) (hk:Bks w N (.slice ao n c) X) (hc:w.cell? ⟨g,q,none⟩=some (.slice ao n c)) (hX:X.length≤1099511627776) (hT:(cat X).length≤1099511627776) (a:Nat) (h0:0<a) (ha:a≤(cat X).length) :
  Calls Tryz.prog 78 #[.pointer (some ⟨g,q,none⟩),.int .i64 (a:Int)] w fun e w'=>∃ i k,∃ h:Fnd X a i (k+1),e=.returned (.pointer (some ⟨(X[i]'h.lt).g,(X[i]'h.lt).o+k,none⟩))∧w=w':=by
 have hff:=ZgV N g q ao n c X w hk hc hX hT a ha
 obtain⟨o,rfl,rfl,_,hol,hcl⟩:=hk.at
 have HCL:Hid (∀ j (hj:j<X.length),w.cell? ⟨o,j,none⟩=some X[j].v):=hcl
 clear hcl
 go_enter Tryz.func78,Tryz.ntmps78
 go_wp2_with fail
 refine hff.mono ?_
 rintro e w1 ⟨i,r,rfl,hF,rfl⟩
 have hr:=hF.pos h0
 obtain⟨k,rfl⟩:∃ k,r=k+1:=⟨r-1,by omega⟩
 have hi:=hF.lt
 have hle:=hF.le
 have HF:Hid (Fnd X a i (k+1)):=hF
 have hka:k≤1099511627776:=by have:=hF.eq;omega
 have c0:=HCL.out i hi
 obtain⟨m,hm⟩:∃ m,X[i].xs.length=m:=⟨_,rfl⟩
 have hv:X[i].v=.slice (some ⟨X[i].g,X[i].o,none⟩) m X[i].c:=by rw[← hm];rfl
 rw[hv] at c0
 rw[hm] at hle
 obtain⟨xg,hxg⟩:∃ xg,X[i].g=xg:=⟨_,rfl⟩
 obtain⟨xo,hxo⟩:∃ xo,X[i].o=xo:=⟨_,rfl⟩
 have HP:Hid (X[i].g=xg∧X[i].o=xo):=⟨hxg,hxo⟩
 rw[hxg,hxo] at c0
 generalize X[i].c=cc at c0
 clear hv hm hxg hxo hF
 have j1:(0:Int)≤(i:Int):=by omega
 have j2:(i:Int)<(X.length:Int):=by omega
 have j3:(0:Int)≤(k:Int):=by omega
 have j4:(k:Int)<(m:Int):=by omega
 have j5:((k+1:Nat):Int)-1=(k:Int):=by omega
 have j6:(k:Int)+1-1=(k:Int):=by omega
 go_wp2
 go_ret
 refine⟨i,k,HF.out,?_,rfl⟩
 rw[HP.out.1,HP.out.2]
 rfl
end

section
open Go.RowKit
theorem ZgP {P:Program} {S:World→Prop} {md:Region.Mode} {ops:Array Oper} {Q:Exit→Act→World→Prop} {fuel:Nat} {listed:Array Bool} {A:Act} {w:World}
  (i d:Nat) (op:Oper) (j e:Nat) (oq:Oper) (hi:ops[i]?=some op) (hd:op.dst=some d) (hj:ops[j]?=some oq) (he:oq.dst=some e) (hr:Region.ready md ops listed=[i,j]) (hwt:Region.wanted op (yielded ops A.tmps)=true) (hwq:Region.wanted oq (yielded ops A.tmps)=true)
  (vp:Value) (wp:World) (hp:(execOp A.eval op).run P w=.ok (.value vp) wp) (hSp:S wp)
  (vq:Value) (wq:World) (hq:(execOp A.eval oq).run P w=.ok (.value vq) wq) (hSq:S wq)
  (h:wpAnyH P md ops Q S fuel (listed.setIfInBounds i true) (A.put (some d) vp) wp)
  (h2:wpAnyH P md ops Q S fuel (listed.setIfInBounds j true) (A.put (some e) vq) wq) :
  wpAnyH P md ops Q S (fuel+1) listed A w:=by
 refine wpAnyH_ready hr (by simp) (AllReadyH.cons hi (fun K hK=>?_) (AllReadyH.cons hj (fun K hK=>?_) AllReadyH.nil))
 ·refine Zzc hwt ?_
  unfold Oper.wp
  rw[hp,Oper.upon_value]
  exact hK.out _ _ hSp (fun _=>by rw[hd];exact h)
 ·refine Zzc hwq ?_
  unfold Oper.wp
  rw[hq,Oper.upon_value]
  exact hK.out _ _ hSq (fun _=>by rw[he];exact h2)
theorem ZgK {P:Program} {S:World→Prop} {md:Region.Mode} {ops:Array Oper} {Q:Exit→Act→World→Prop} {fuel:Nat} {listed:Array Bool} {A:Act} {w:World}
  (rd:List Nat) (hrd:Region.ready md ops listed=rd) (hrn:rd≠[])
  (i d:Nat) (op:Oper) (hi:ops[i]?=some op) (hd:op.dst=some d) (hwt:Region.wanted op (yielded ops A.tmps)=true)
  (F:Nat) (x:Operand) (xs:Array Operand) (ts:Array TypeId) (ho:op.op=.call { callee:=.value x,args:=xs,argTypes:=ts })
  (cap:Array Value) (hxv:A.eval x=.func (.func F) #[] cap) (args:Array Value) (hx:xs.map A.eval=args) (hen:∀ args w,(callFunc F args).run P w=.ok (.enter F args) w) (R:Value→World→Prop)
  (hc:Calls P F (args++cap) w fun e w'=>∃ v,e=.returned v∧S w'∧R v w')
  (h:∀ v w',S w'→R v w'→wpAnyH P md ops Q S fuel (listed.setIfInBounds i true) (A.put (some d) v) w')
  (j e:Nat) (oj:Oper) (hj:ops[j]?=some oj) (he:oj.dst=some e) (hwj:Region.wanted oj (yielded ops A.tmps)=true) (vj:Value) (hvj:(execOp A.eval oj).run P w=.ok (.value vj) w) (hS:S w)
  (h2:wpAnyH P md ops Q S fuel (listed.setIfInBounds j true) (A.put (some e) vj) w)
  (k f:Nat) (ok:Oper) (hk:ops[k]?=some ok) (hf:ok.dst=some f) (hwk:Region.wanted ok (yielded ops A.tmps)=true) (vk:Value) (hvk:(execOp A.eval ok).run P w=.ok (.value vk) w)
  (h3:wpAnyH P md ops Q S fuel (listed.setIfInBounds k true) (A.put (some f) vk) w)
  (hrs:rd=[j,i]∨rd=[i,k]∨rd=[j,i,k]) :
  wpAnyH P md ops Q S (fuel+1) listed A w:=by
 have e0:(execOp A.eval op).run P w=.ok (.enter F (args++cap)) w:=by
  have h1:=hen (args++cap) w
  simp only[execOp,ho,resolve,invoke]
  simp only[hxv,Deferred.ofValue,Sem.run_bind,Sem.run_pure,Result.andThen_ok,hx,Array.empty_append]
  exact h1
 rcases hrs with rfl | rfl | rfl
 ·refine wpAnyH_ready hrd hrn (AllReadyH.cons hj (fun K hK=>?_) (AllReadyH.cons hi (fun K hK=>?_) AllReadyH.nil))
  ·refine Zzc hwj ?_
   unfold Oper.wp
   rw[hvj,Oper.upon_value]
   exact hK.out _ _ hS (fun _=>by rw[he];exact h2)
  ·refine Zzc hwt ?_
   unfold Oper.wp
   rw[e0,Oper.upon_enter]
   refine hc.mono ?_
   rintro e w' ⟨v,rfl,hb,hR⟩
   exact hK.out _ _ hb (fun hu=>by rw[hd];exact h v w' hu hR)
 ·refine wpAnyH_ready hrd hrn (AllReadyH.cons hi (fun K hK=>?_) (AllReadyH.cons hk (fun K hK=>?_) AllReadyH.nil))
  ·refine Zzc hwt ?_
   unfold Oper.wp
   rw[e0,Oper.upon_enter]
   refine hc.mono ?_
   rintro e w' ⟨v,rfl,hb,hR⟩
   exact hK.out _ _ hb (fun hu=>by rw[hd];exact h v w' hu hR)
  ·refine Zzc hwk ?_
   unfold Oper.wp
   rw[hvk,Oper.upon_value]
   exact hK.out _ _ hS (fun _=>by rw[hf];exact h3)
 ·refine wpAnyH_ready hrd hrn (AllReadyH.cons hj (fun K hK=>?_) (AllReadyH.cons hi (fun K hK=>?_) (AllReadyH.cons hk (fun K hK=>?_) AllReadyH.nil)))
  ·refine Zzc hwj ?_
   unfold Oper.wp
   rw[hvj,Oper.upon_value]
   exact hK.out _ _ hS (fun _=>by rw[he];exact h2)
  ·refine Zzc hwt ?_
   unfold Oper.wp
   rw[e0,Oper.upon_enter]
   refine hc.mono ?_
   rintro e w' ⟨v,rfl,hb,hR⟩
   exact hK.out _ _ hb (fun hu=>by rw[hd];exact h v w' hu hR)
  ·refine Zzc hwk ?_
   unfold Oper.wp
   rw[hvk,Oper.upon_value]
   exact hK.out _ _ hS (fun _=>by rw[hf];exact h3)
theorem ZgL {u:World} {a:Addr} {ao:Option Addr} {n c:Nat} (h:u.cell? a=some (.slice ao n c)) {op:Oper} (x:Operand) (ho:op.op=.load 72 x) {ev:Operand→Value} (hx:ev x=.pointer (some a)) :
  (execOp ev op).run Tryz.prog u=.ok (.value (.slice ao n c)) u:=by
 simp only[execOp,ho,hx]
 go_simp
theorem ZgO {u:World} {a:Addr} {ao:Option Addr} {n c:Nat} (h:u.cell? a=some (.slice ao n c)) (hf:u.frozen? a=false) {ao':Option Addr} {n' c':Nat} {op:Oper} (x y:Operand) (ho:op.op=.store 72 x y) {ev:Operand→Value} (hx:ev x=.pointer (some a)) (hy:ev y=.slice ao' n' c') :
  (execOp ev op).run Tryz.prog u=.ok .skip (u.setCell a (.slice ao' n' c')):=by
 simp only[execOp,ho,hx,hy]
 go_simp
theorem ZgI {u:World} {p q r:Int} (h:IntKind.i64.wrap (p+q)=r) {op:Oper} (x l:Operand) (ho:op.op=.binOp .add 3 x l 3) {ev:Operand→Value} (hx:ev x=.int .i64 p) (hl:ev l=.int .i64 q) :
  (execOp ev op).run Tryz.prog u=.ok (.value (.int .i64 r)) u:=by
 subst h
 simp only[execOp,ho,hx,hl]
 go_simp
theorem ZgM {u:World} {v v':Value} {k:Int} (hr:(Instr.slice 72 v none (some (.int .i64 k)) none).run Tryz.prog u=.ok v' u) (hv:∃ ao n c,v=.slice ao n c) {op:Oper} (x z:Operand) (ho:op.op=.slice 72 x none (some z) none) {ev:Operand→Value} (hx:ev x=v) (hz:ev z=.int .i64 k) :
  (execOp ev op).run Tryz.prog u=.ok (.value v') u:=by
 obtain⟨ao,n,c,rfl⟩:=hv
 have h2:=run_sliceAt_slice (P:=Tryz.prog) (w:=u) 72 (.slice ao n c) none (some (.int .i64 k)) none (by kernel_rfl)
 simp only[execOp,ho,hx,hz,Option.map_some,Option.map_none,Sem.run_bind,h2,hr,Result.andThen_ok,Sem.run_pure]
theorem ZgN {u:World} {v v':Value} {k:Int} (hr:(Instr.slice 72 v (some (.int .i64 k)) none none).run Tryz.prog u=.ok v' u) (hv:∃ ao n c,v=.slice ao n c) {op:Oper} (x z:Operand) (ho:op.op=.slice 72 x (some z) none none) {ev:Operand→Value} (hx:ev x=v) (hz:ev z=.int .i64 k) :
  (execOp ev op).run Tryz.prog u=.ok (.value v') u:=by
 obtain⟨ao,n,c,rfl⟩:=hv
 have h2:=run_sliceAt_slice (P:=Tryz.prog) (w:=u) 72 (.slice ao n c) (some (.int .i64 k)) none none (by kernel_rfl)
 simp only[execOp,ho,hx,hz,Option.map_some,Option.map_none,Sem.run_bind,h2,hr,Result.andThen_ok,Sem.run_pure]
end

section
open Go.RowKit
def Eb (w:World) (g:Nat) (vs vl:Value) (p cnt cur:Int) (en:Bool):Prop:=w.heap[g]?=some (.cells #[vs,.int .i64 p,vl,.int .i64 cnt,.int .i64 cur,.bool en] 78 (0,0))
section
variable {w w':World} {g:Nat} {vs vl:Value} {p cnt cur:Int} {en:Bool}
theorem Eb.lt (h:Eb w g vs vl p cnt cur en):g<w.heap.size:=(Array.getElem?_eq_some_iff.1 h).1
theorem Eb.low (h:Eb w g vs vl p cnt cur en) (hb:Below w.heap.size w w'):Eb w' g vs vl p cnt cur en:=(hb.block _ h.lt).trans h
theorem Eb.cells (h:Eb w g vs vl p cnt cur en):w.cell? ⟨g,0,none⟩=some vs∧w.cell? ⟨g,1,none⟩=some (.int .i64 p)∧w.cell? ⟨g,2,none⟩=some vl∧w.cell? ⟨g,3,none⟩=some (.int .i64 cnt)∧w.cell? ⟨g,4,none⟩=some (.int .i64 cur)∧w.cell? ⟨g,5,none⟩=some (.bool en):=by
 unfold Eb at h
 refine⟨?_,?_,?_,?_,?_,?_⟩<;>(rw[Lib.cell_of_heap h];rfl)
theorem Eb.frozen (h:Eb w g vs vl p cnt cur en) (j:Nat):w.frozen? ⟨g,j,none⟩=false:=by
 unfold Eb at h
 simp[World.frozen?,h]
theorem Eb.setP (h:Eb w g vs vl p cnt cur en) (z:Int):Eb (w.setCell ⟨g,1,none⟩ (.int .i64 z)) g vs vl z cnt cur en:=heap_setCell_same w g 1 _ _ _ h
theorem Eb.setL (h:Eb w g vs vl p cnt cur en) (z:Value):Eb (w.setCell ⟨g,2,none⟩ z) g vs z p cnt cur en:=heap_setCell_same w g 2 _ _ _ h
theorem Eb.setC (h:Eb w g vs vl p cnt cur en) (z:Int):Eb (w.setCell ⟨g,3,none⟩ (.int .i64 z)) g vs vl p z cur en:=heap_setCell_same w g 3 _ _ _ h
theorem Eb.setU (h:Eb w g vs vl p cnt cur en) (z:Int):Eb (w.setCell ⟨g,4,none⟩ (.int .i64 z)) g vs vl p cnt z en:=heap_setCell_same w g 4 _ _ _ h
theorem Eb.setE (h:Eb w g vs vl p cnt cur en) (z:Bool):Eb (w.setCell ⟨g,5,none⟩ (.bool z)) g vs vl p cnt cur z:=heap_setCell_same w g 5 _ _ _ h
theorem Eb.bks {N:Nat} {v:Value} {X:List Bck} (h:Eb w g vs vl p cnt cur en) (hk:Bks w N v X) (q:Nat) (z:Value):Bks (w.setCell ⟨g,q,none⟩ z) N v X:=by
 have kp:∀ (k:Nat) (cs:Array Value) (t:TypeId),w.heap[k]?=some (.cells cs t (0,0))→t≠78→(w.setCell ⟨g,q,none⟩ z).heap[k]?=w.heap[k]?:=by
  intro k cs t hk2 ht
  have hne:k≠g:=by
   rintro rfl
   unfold Eb at h
   rw[h] at hk2
   cases hk2
   exact ht rfl
  exact heap_setCell_other _ _ _ _ hne
 obtain⟨o,c,cs,h1,h2,h3,h4,h5⟩:=hk.row
 refine⟨⟨o,c,cs,h1,h2,h3,(kp _ _ _ h4 (by decide)).trans h4,h5⟩,hk.ne,fun y hy=>?_,hk.apart⟩
 obtain⟨_,_,cs2,q2,_⟩:=hk.blk y hy
 exact (hk.blk y hy).keep (kp _ _ _ q2 (by decide))
end
structure Bt (g:Nat) (w w':World):Prop where
 os:w'.os=w.os
 tape:w'.tape=w.tape
 output:w'.output=w.output
 size:w.heap.size≤w'.heap.size
 block:∀ k,k<w.heap.size→k≠g→w'.heap[k]?=w.heap[k]?
section
variable {g:Nat} {a b c:World}
theorem Bt.of (h:Below a.heap.size a b):Bt g a b:=⟨h.os,h.tape,h.output,h.size,fun k hk _=>h.block k hk⟩
theorem Bt.trans (h:Bt g a b) (k:Bt g b c):Bt g a c:=⟨k.os.trans h.os,k.tape.trans h.tape,k.output.trans h.output,Nat.le_trans h.size k.size,fun i hi hg=>(k.block i (Nat.lt_of_lt_of_le hi h.size) hg).trans (h.block i hi hg)⟩
theorem Bt.set (h:Bt g a b) (q:Nat) (v:Value):Bt g a (b.setCell ⟨g,q,none⟩ v):=by
 have hb:=(Below.refl g b).setCell (p:=⟨g,q,none⟩) (Nat.le_refl _) v
 exact⟨hb.os.trans h.os,hb.tape.trans h.tape,hb.output.trans h.output,Nat.le_trans h.size hb.size,fun k hk hg=>(heap_setCell_other _ _ _ _ hg).trans (h.block k hk hg)⟩
theorem Bt.low {N:Nat} (h:Bt g a b) (hN:N≤g) (hs:N≤a.heap.size):Below N a b:=⟨h.os,h.tape,h.output,h.size,fun k hk=>h.block k (by omega) (by omega)⟩
end
theorem ZrS {α:Type} {R:α→α→Prop} {X Y:List α} {i j:Nat} (hX:X.Pairwise R) (hY:Y.Pairwise R) (h1:∀ x∈X,∀ y∈Y,R x y) (h2:∀ x∈X,∀ y∈Y,R y x) (hij:i≤j):(X.take i++(Y++X.drop j)).Pairwise R:=by
 have hd:(X.drop i).Pairwise R:=hX.sublist (List.drop_sublist _ _)
 rw[List.pairwise_append,List.pairwise_append]
 refine⟨hX.sublist (List.take_sublist _ _),⟨hY,hX.sublist (List.drop_sublist _ _),fun y hy x hx=>h2 x (List.mem_of_mem_drop hx) y hy⟩,fun x hx z hz=>?_⟩
 rcases List.mem_append.1 hz with hz | hz
 ·exact h1 x (List.mem_of_mem_take hx) z hz
 ·have hs:(X.take i++X.drop i).Pairwise R:=by rw[List.take_append_drop];exact hX
  rw[List.pairwise_append] at hs
  refine hs.2.2 x hx z ?_
  have e:X.drop j=(X.drop i).drop (j-i):=by rw[List.drop_drop];congr 1;omega
  rw[e] at hz
  exact List.mem_of_mem_drop hz
theorem Zlm {w:World} {ao:Option Addr} {n c k:Nat} {xs:List Value} (h:Holds w (.slice ao n c) n xs) (_hl:xs.length=n) (hk:k≤n) (h0:∃ o,ao=some ⟨o,0,none⟩):Holds w (.slice ao k c) k (xs.take k):=by
 obtain⟨o,rfl⟩:=h0
 rcases h with ⟨h,_⟩ | ⟨ad,c',h,h3,hc⟩
 ·cases h
 ·cases h
  refine .inr ⟨_,_,rfl,by omega,fun j u hj=>hc j u ?_⟩
  rw[List.getElem?_take] at hj
  split at hj
  ·exact hj
  ·cases hj
theorem Zlk {w:World} {ao:Option Addr} {n c k:Nat} {xs:List Value} (h:Holds w (.slice ao n c) n xs) (hl:xs.length=n) (hk:k≤n) (h0:∃ o,ao=some ⟨o,0,none⟩):Holds w (.slice (slG ao c k) (n-k) (c-k)) (n-k) (xs.drop k):=by
 obtain⟨o,rfl⟩:=h0
 rcases h with ⟨h,_⟩ | ⟨ad,c',h,h3,hc⟩
 ·cases h
 ·cases h
  unfold slG
  by_cases hq:c=k
  ·rw[if_pos hq]
   refine .inr ⟨_,_,rfl,by omega,fun j u hj=>?_⟩
   have hl2:=(List.getElem?_eq_some_iff.1 hj).1
   rw[List.length_drop] at hl2
   omega
  ·rw[if_neg hq,Option.map_some]
   refine .inr ⟨_,_,rfl,by omega,fun j u hj=>?_⟩
   rw[List.getElem?_drop] at hj
   have:=hc (k+j) u hj
   rw[add_none] at this
   rw[add_none,add_none,Nat.add_assoc]
   exact this
theorem Zxe {T:TypeId} (hT:Tryz.prog.underlying T=some (.slice (Tryz.prog.elem T))) (hs:∀ u:World,(sizeOf (Tryz.prog.elem T)).run Tryz.prog u=.ok 1 u) (g o n cap k:Nat) (hk:k≤cap) (u:World):(Instr.slice T (.slice (some ⟨g,o,none⟩) n cap) none (some (.int .i64 (k:Int))) none).run Tryz.prog u=.ok (.slice (some ⟨g,o,none⟩) k cap) u:=by
 rw[run_slice_h (P:=Tryz.prog) u T (some ⟨g,o,none⟩) n cap hT .i64 k (by omega) (by omega),hs u]
 simp[Result.andThen,sliced,add_none]
theorem ZuR {w w3:World} {g N:Nat} {vs vl vY:Value} {p cnt cur:Int} {en:Bool} {X Y:List Bck} {i1 i2 G N2:Nat} (hE:Eb w g vs vl p cnt cur en) (hk:Bks w N vl X) (hY:Bks w N vY Y) (hG:∀ y∈Y,y.g=G) (hnG:∀ x∈X,x.g≠G) (hi:i1≤i2) (hi2:i2<X.length) (hN:N≤w.heap.size)
  (hN2:i1+Y.length+(X.length-(i2+1))=N2) (hh:w3.heap[w.heap.size]?=some (.cells ((X.map Bck.v).take i1++(Y.map Bck.v++(X.map Bck.v).drop (i2+1))).toArray 23 (0,0))) (hb:Below w.heap.size w w3) :
  Eb (w3.setCell ⟨g,2,none⟩ (.slice (some ⟨w.heap.size,0,none⟩) N2 N2)) g vs (.slice (some ⟨w.heap.size,0,none⟩) N2 N2) p cnt cur en∧Bks (w3.setCell ⟨g,2,none⟩ (.slice (some ⟨w.heap.size,0,none⟩) N2 N2)) N (.slice (some ⟨w.heap.size,0,none⟩) N2 N2) (X.take i1++(Y++X.drop (i2+1))):=by
 have hE3:=hE.low hb
 refine⟨hE3.setL _,hE3.bks ?_ 2 _⟩
 refine Bks.new ?_ hN ?_ ?_ ?_ ?_
 ·rw[List.map_append,List.map_append,List.map_take,List.map_drop]
  exact hh
 ·simp only[List.length_append,List.length_take,List.length_drop]
  omega
 ·have:=List.length_pos_iff.2 hY.ne
  intro q
  have:=congrArg List.length q
  simp only[List.length_append,List.length_nil] at this
  omega
 ·intro x hx
  rcases List.mem_append.1 hx with hx | hx
  ·exact (hk.blk x (List.mem_of_mem_take hx)).low hb
  ·rcases List.mem_append.1 hx with hx | hx
   ·exact (hY.blk x hx).low hb
   ·exact (hk.blk x (List.mem_of_mem_drop hx)).low hb
 ·exact ZrS hk.apart hY.apart (fun x hx y hy=>.inl (by rw[hG y hy];exact hnG x hx)) (fun x hx y hy=>.inl (by rw[hG y hy];exact fun q=>hnG x hx q.symm)) (by omega)
def ReQ (w:World) (g N:Nat) (vs:Value) (p cur:Int) (en:Bool) (T:List (List UInt8)) (B:Nat) (e:Ending) (w':World):Prop :=
 e=.returned (.tuple #[])∧∃ vl X,Eb w' g vs vl p (cat X).length cur en∧Bks w' N vl X∧cat X=T∧512 * X.length≤B∧Bt g w w'
theorem ZuS (w:World) (g N:Nat) (vs vl vp:Value) (p cur:Int) (en:Bool) (X:List Bck) (P:List (List UInt8)) (hE:Eb w g vs vl p (cat X).length cur en) (hk:Bks w N vl X) (hg:N≤g) (hP:HS w vp P) (hX:X.length≤549755813888) (hT:(cat X).length≤274877906944) (hPl:P.length≤274877906944)
  (a b:Nat) (hab:a≤b) (hb:b≤(cat X).length) :
  Calls Tryz.prog 82 #[.pointer (some ⟨g,2,none⟩),.int .i64 (a:Int),.int .i64 (b:Int),vp] w fun e w'=>ReQ w g N vs p cur en (putE (cat X) a b P) (512 * X.length+(cat X).length+P.length) e w':=by
 obtain⟨o,c,_,rfl,hXc,_,_,_⟩:=hk.row
 obtain⟨po,pc,rfl⟩:=Holds.form hP
 have hwN:N≤w.heap.size:=Nat.le_trans hg (Nat.le_of_lt hE.lt)
 have hf1:=ZgV N g 2 _ _ _ X w hk hE.cells.2.2.1 (by omega) (by omega) a (by omega)
 have hf2:=ZgV N g 2 _ _ _ X w hk hE.cells.2.2.1 (by omega) (by omega) b hb
 go_enter Tryz.func82,Tryz.ntmps82
 go_wp2_with fail
 refine hf1.mono ?_
 rintro e w1 ⟨i1,k1,rfl,F1,rfl⟩
 go_wp2_with fail
 refine hf2.mono ?_
 rintro e w1 ⟨i2,k2,rfl,F2,rfl⟩
 clear hf1 hf2
 have hio:=F1.order F2 hab
 have hi1:=F1.lt
 have hi2:=F2.lt
 have hle1:=F1.le
 have hle2:=F2.le
 have H1:Hid ((cat X).take a=cat (X.take i1)++X[i1].xs.take k1):=F1.take
 have H2:Hid ((cat X).drop b=X[i2].xs.drop k2++cat (X.drop (i2+1))):=F2.drop
 have hB1:=hk.blk X[i1] (List.getElem_mem _)
 have hB2:=hk.blk X[i2] (List.getElem_mem _)
 have hA1:=hB1.take k1 hle1
 have hA2:=hB2.drop k2 hle2
 obtain⟨o',h1',h2',_,hol,hcl⟩:=hk.at
 cases h1'
 have c1:=hcl i1 hi1
 have c2:=hcl i2 hi2
 have hc1:=hB1.2.1
 obtain⟨L1,hL1⟩:∃ L,X[i1].xs.take k1=L:=⟨_,rfl⟩
 obtain⟨L2,hL2⟩:∃ L,X[i2].xs.drop k2=L:=⟨_,rfl⟩
 have hl1:L1.length=k1:=by rw[← hL1,List.length_take];omega
 rw[hL1] at hA1 H1
 rw[hL2] at hA2 H2
 obtain⟨m1,hm1⟩:∃ m,X[i1].xs.length=m:=⟨_,rfl⟩
 obtain⟨m2,hm2⟩:∃ m,X[i2].xs.length=m:=⟨_,rfl⟩
 have hl2:L2.length=m2-k2:=by rw[← hL2,List.length_drop,hm2]
 have hv1:X[i1].v=.slice (some ⟨X[i1].g,X[i1].o,none⟩) m1 X[i1].c:=by rw[← hm1];rfl
 have hv2:X[i2].v=.slice (some ⟨X[i2].g,X[i2].o,none⟩) m2 X[i2].c:=by rw[← hm2];rfl
 rw[hv1] at c1
 rw[hv2] at c2
 rw[hm2] at hA2
 have hs1:=fun u=>Zxe (T:=23) (by kernel_rfl) efsT X[i1].g X[i1].o m1 X[i1].c k1 (by omega) u
 have hs2:=fun u=>Zxd (T:=23) (by kernel_rfl) efsT (some ⟨X[i2].g,X[i2].o,none⟩) m2 X[i2].c k2 (by omega) u
 have hm1T:m1≤(cat X).length:=(by
  have h:=congrArg List.length (ZdD X i1 hi1)
  simp only[List.length_append] at h
  omega)
 have hm2T:m2≤(cat X).length:=(by
  have h:=congrArg List.length (ZdD X i2 hi2)
  simp only[List.length_append] at h
  omega)
 obtain⟨n2,hn2⟩:∃ n,m2-k2=n:=⟨_,rfl⟩
 rw[hn2] at hA2 hl2 hs2
 obtain⟨N1,hN1⟩:∃ n,k1+P.length+n2=n:=⟨_,rfl⟩
 have hN1b:N1≤1099511627776:=by omega
 have hj:=Zmx _ _ _ k1 P.length n2 (scells L1) (scells P) (scells L2) w.drew hA1 hP hA2 (by show _=_;rw[scells_length];exact hl1) (by show _=_;rw[scells_length]) (by show _=_;rw[scells_length];exact hl2) (scells_one _) (scells_one _) (scells_one _) N1 hN1 (by omega)
 have d2:=hE.cells.2.2.1
 obtain⟨vd,hvd⟩:∃ v,slG (some ⟨X[i2].g,X[i2].o,none⟩) X[i2].c k2=v:=⟨_,rfl⟩
 rw[hvd] at hj hs2
 clear hvd hA1 hA2 hcl hv1 hv2
 have hHB1:∀ w',Below w.heap.size w w'→Hid (Eb w' g vs (.slice (some ⟨o,0,none⟩) X.length c) p (cat X).length cur en∧Bks w' N (.slice (some ⟨o,0,none⟩) X.length c) X):=fun w' hq=>⟨hE.low hq,hk.low hq⟩
 have HMX:Hid (X[i1].xs.length=m1∧X[i2].xs.length=m2∧L1.length=k1∧L2.length=n2∧m2-k2=n2):=⟨hm1,hm2,hl1,hl2,hn2⟩
 have HNX:Hid (k1+P.length+n2=N1):=hN1
 generalize X[i1].g=g1 at *
 generalize X[i1].o=o1 at *
 generalize X[i1].c=cc1 at *
 generalize X[i2].g=g2 at *
 generalize X[i2].o=o2 at *
 generalize X[i2].c=cc2 at *
 have hkw:=hk
 clear hm1 hm2 hl1 hl2 hn2 hN1 hE hk hB1 hB2
 have q1:(0:Int)≤(i1:Int):=by omega
 have q2:(i1:Int)<(X.length:Int):=by omega
 have q3:(0:Int)≤(i2:Int):=by omega
 have q4:(i2:Int)<(X.length:Int):=by omega
 have e2:w.drew.cell? ⟨g,2,none⟩=some (.slice (some ⟨o,0,none⟩) X.length c):=d2
 have e3:w.drew.cell? ⟨o,i1,none⟩=_:=c1
 have e4:w.drew.cell? ⟨o,i2,none⟩=_:=c2
 have hbD:Below w.heap.size w w.drew:=(Below.refl _ w).drew
 have hj2:Calls Tryz.prog 116 #[.slice (some ⟨g1,o1,none⟩) k1 cc1,.slice po P.length pc,.slice vd n2 (cc2-k2)] w.drew fun e w'=>e=.returned (.slice (some ⟨w.heap.size,0,none⟩) N1 N1)∧w'.cell? ⟨g,2,none⟩=some (.slice (some ⟨o,0,none⟩) X.length c)∧w'.cell? ⟨o,i1,none⟩=some (.slice (some ⟨g1,o1,none⟩) m1 cc1)∧w'.cell? ⟨o,i2,none⟩=some (.slice (some ⟨g2,o2,none⟩) m2 cc2)∧Below w.heap.size w w'∧Hid (w'.heap[w.heap.size]?=some (.cells (scells L1++(scells P++scells L2)).toArray 9 (0,0))):=(by
  refine hj.mono ?_
  rintro e w' ⟨rfl,h1,h2⟩
  have h3:Below w.heap.size w w':=hbD.trans h2
  refine⟨rfl,?_,?_,?_,h3,h1⟩
  ·rw[World.cell?_of_block (w:=w) (h3.block _ (World.block_lt_of_cell? w _ d2))];exact d2
  ·rw[World.cell?_of_block (w:=w) (h3.block _ (World.block_lt_of_cell? w _ c1))];exact c1
  ·rw[World.cell?_of_block (w:=w) (h3.block _ (World.block_lt_of_cell? w _ c2))];exact c2)
 clear hj
 go_wp2_with fail
 go_region_held3 (fun w'=>w'.cell? ⟨g,2,none⟩=some (.slice (some ⟨o,0,none⟩) X.length c)∧w'.cell? ⟨o,i1,none⟩=some (.slice (some ⟨g1,o1,none⟩) m1 cc1)∧w'.cell? ⟨o,i2,none⟩=some (.slice (some ⟨g2,o2,none⟩) m2 cc2)∧Below w.heap.size w w') (go_keep)
  (first | (go_at_call 116;refine hj2.mono ?_;rintro e w1 ⟨rfl,y1,y2,y3,hbw1,HG⟩))
 clear e2 e3 e4 hbD hj2 y1 y2 y3 c1 c2 d2 hs1 hs2
 have hHB:=(hHB1 w1 hbw1).out
 obtain⟨hE1,hk1⟩:=hHB
 clear hHB1
 have HCat:Hid (scells L1++(scells P++scells L2)=scells (L1++(P++L2))):=(by show _=_;rw[scells_append,scells_append])
 have hnb:HB w1 N ⟨w.heap.size,0,N1,L1++(P++L2)⟩:=(by
  refine HB.new hwN ?_ ?_
  ·have h:=HMX.out
   have h2:=HNX.out
   simp only[List.length_append]
   omega
  ·have h:=HG.out
   rw[HCat.out] at h
   exact h)
 have hnl:(L1++(P++L2)).length=N1:=(by
  have h:=HMX.out
  have h2:=HNX.out
  simp only[List.length_append]
  omega)
 have hcu:=ZfS ⟨w.heap.size,0,N1,L1++(P++L2)⟩ N w1.drew (hnb.low (Below.refl _ w1).drew) (by dsimp only;omega) (Nat.le_trans hwN hbw1.size)
 have hcv:(⟨w.heap.size,0,N1,L1++(P++L2)⟩:Bck).v=.slice (some ⟨w.heap.size,0,none⟩) N1 N1:=(by unfold Bck.v;dsimp only;rw[hnl])
 rw[hcv] at hcu
 have hsL:=fun u=>Zxe (T:=72) (by kernel_rfl) efsL o 0 X.length c i1 (by omega) u
 have hsR:=fun u=>Zxd (T:=72) (by kernel_rfl) efsL (some ⟨o,0,none⟩) X.length c (i2+1) (by omega) u
 rw[Int.natCast_add,Int.natCast_one] at hsR
 have hw1:IntKind.i64.wrap ((i2:Int)+1)=(i2:Int)+1:=wrap_small _ (by omega) (by omega)
 obtain⟨_,_,d2,_,_,_⟩:=hE1.cells
 have e2:(w1.drewN 1).cell? ⟨g,2,none⟩=some (.slice (some ⟨o,0,none⟩) X.length c):=d2
 obtain⟨sr,hsr⟩:∃ v,slG (some ⟨o,0,none⟩) c (i2+1)=v:=⟨_,rfl⟩
 rw[hsr] at hsR
 have hnG:∀ x∈X,x.g≠w.heap.size:=fun x hx=>by
  have:=(hkw.blk x hx).lt
  omega
 have hcu2:Calls Tryz.prog 48 (#[.slice (some ⟨w.heap.size,0,none⟩) N1 N1]++#[]) (w1.drewN 1) fun e w'=>∃ v,e=.returned v∧True∧(∃ (Y:List Bck) (yo yc:Nat),v=.slice (some ⟨yo,0,none⟩) Y.length yc∧Bks w' N (.slice (some ⟨yo,0,none⟩) Y.length yc) Y∧cat Y=L1++(P++L2)∧(∀ y∈Y,y.g=w.heap.size)∧512 * Y.length≤N1+512∧Below w1.heap.size w1 w'):=(by
  refine hcu.mono ?_
  rintro e w' ⟨v,Y,rfl,h1,h2,h3,h4,h5⟩
  obtain⟨yo,yc,_,rfl,_⟩:=h1.row
  dsimp only at h2 h3 h4
  exact⟨_,rfl,trivial,Y,yo,yc,rfl,h1,h2,h3,by omega,(Below.refl _ w1).drew.trans h5⟩)
 clear hcu
 go_wp2_with fail
 refine wp_region_noPanic ?_
 refine wp_region_held_drew (S:=fun _=>True) (by kernel_rfl) trivial (fun _=>?_)
 refine Y_t 0 45 _ (.pointer (some ⟨g,2,none⟩)) rfl (Or.inl ⟨by kernel_rfl,fun u _=>by kernel_rfl⟩) trivial ?_
 simp only[Act.put,Y_a,Y_b,Y_c]
 refine Y_t 1 46 _ (.pointer (some ⟨g,2,none⟩)) rfl (Or.inl ⟨by kernel_rfl,fun u _=>by kernel_rfl⟩) trivial ?_
 simp only[Act.put,Y_a,Y_b,Y_c]
 refine Y_t 2 47 _ (.pointer (some ⟨g,2,none⟩)) rfl (Or.inl ⟨by kernel_rfl,fun u _=>by kernel_rfl⟩) trivial ?_
 simp only[Act.put,Y_a,Y_b,Y_c]
 refine Y_t 3 48 _ (.pointer (some ⟨g,2,none⟩)) rfl (Or.inl ⟨by kernel_rfl,fun u _=>by kernel_rfl⟩) trivial ?_
 simp only[Act.put,Y_a,Y_b,Y_c]
 refine Y_t 5 50 _ (.int .i64 (i1:Int)) rfl (Or.inl ⟨by kernel_rfl,fun u _=>by kernel_rfl⟩) trivial ?_
 simp only[Act.put,Y_a,Y_b,Y_c]
 refine Y_t 7 52 _ (.slice (some ⟨w.heap.size,0,none⟩) N1 N1) rfl (Or.inl ⟨by kernel_rfl,fun u _=>by kernel_rfl⟩) trivial ?_
 simp only[Act.put,Y_a,Y_b,Y_c]
 refine Y_t 9 54 _ (.pointer (some ⟨g,2,none⟩)) rfl (Or.inl ⟨by kernel_rfl,fun u _=>by kernel_rfl⟩) trivial ?_
 simp only[Act.put,Y_a,Y_b,Y_c]
 refine Y_t 10 55 _ (.pointer (some ⟨g,2,none⟩)) rfl (Or.inl ⟨by kernel_rfl,fun u _=>by kernel_rfl⟩) trivial ?_
 simp only[Act.put,Y_a,Y_b,Y_c]
 refine Y_t 11 56 _ (.pointer (some ⟨g,2,none⟩)) rfl (Or.inl ⟨by kernel_rfl,fun u _=>by kernel_rfl⟩) trivial ?_
 simp only[Act.put,Y_a,Y_b,Y_c]
 refine Y_t 13 58 _ (.int .i64 (i2:Int)) rfl (Or.inl ⟨by kernel_rfl,fun u _=>by kernel_rfl⟩) trivial ?_
 simp only[Act.put,Y_a,Y_b,Y_c]
 refine Y_t 14 59 _ (.int .i64 ((i2:Int)+1)) rfl (Or.inl ⟨by kernel_rfl,fun u _=>ZgI hw1 (.tmp 58) (.const (.int .i64 1)) (by kernel_rfl) (by kernel_rfl) (by kernel_rfl)⟩) trivial ?_
 simp only[Act.put,Y_a,Y_b,Y_c]
 refine ZgK [4,8,12] (by kernel_rfl) (by decide) 8 53 _ rfl (by kernel_rfl) (by kernel_rfl) 48 (.func 48) #[.tmp 52] #[23] (by kernel_rfl) #[] (by kernel_rfl) #[.slice (some ⟨w.heap.size,0,none⟩) N1 N1] (by kernel_rfl) (enters_of Tryz.func48 (by kernel_rfl) rfl) _ hcu2 ?_ 4 49 _ rfl (by kernel_rfl) (by kernel_rfl) (.slice (some ⟨o,0,none⟩) X.length c) (ZgL e2 (.tmp 48) (by kernel_rfl) (by kernel_rfl)) trivial ?_ 12 57 _ rfl (by kernel_rfl) (by kernel_rfl) (.slice (some ⟨o,0,none⟩) X.length c) (ZgL e2 (.tmp 56) (by kernel_rfl) (by kernel_rfl)) ?_ (.inr (.inr rfl))
 ·rintro _ w2 _ ⟨Y,yo,yc,rfl,hkY,HcY,hYg,hYl,hb12⟩
  simp only[Act.put,Y_a,Y_b,Y_c]
  refine ZgP 4 49 _ 12 57 _ rfl (by kernel_rfl) rfl (by kernel_rfl) (by kernel_rfl) (by kernel_rfl) (by kernel_rfl) (.slice (some ⟨o,0,none⟩) X.length c) _ (ZgL ((hE1.low hb12).cells.2.2.1) (.tmp 48) (by kernel_rfl) (by kernel_rfl)) trivial (.slice (some ⟨o,0,none⟩) X.length c) _ (ZgL ((hE1.low hb12).cells.2.2.1) (.tmp 56) (by kernel_rfl) (by kernel_rfl)) trivial ?_ ?_
  ·simp only[Act.put,Y_a,Y_b,Y_c]
   refine Y_t 6 51 _ (.slice (some ⟨o,0,none⟩) i1 c) rfl (Or.inl ⟨by kernel_rfl,fun u _=>ZgM (hsL u) ⟨_,_,_,rfl⟩ (.tmp 49) (.tmp 50) (by kernel_rfl) (by kernel_rfl) (by kernel_rfl)⟩) trivial ?_
   simp only[Act.put,Y_a,Y_b,Y_c]
   refine Y_v 12 57 _ rfl (.slice (some ⟨o,0,none⟩) X.length c) _ (ZgL ((hE1.low hb12).cells.2.2.1) (.tmp 56) (by kernel_rfl) (by kernel_rfl)) trivial ?_
   simp only[Act.put,Y_a,Y_b,Y_c]
   refine Y_t 15 60 _ (.slice sr (X.length-(i2+1)) (c-(i2+1))) rfl (Or.inl ⟨by kernel_rfl,fun u _=>ZgN (hsR u) ⟨_,_,_,rfl⟩ (.tmp 57) (.tmp 59) (by kernel_rfl) (by kernel_rfl) (by kernel_rfl)⟩) trivial ?_
   simp only[Act.put,Y_a,Y_b,Y_c]
   have hE2:=hE1.low hb12
   have hk2:=hk1.low hb12
   have hh1:=Zlm hk2.holds (by simp) (Nat.le_of_lt hi1) ⟨o,rfl⟩
   have hh3:=Zlk hk2.holds (by simp) (by omega:i2+1≤X.length) ⟨o,rfl⟩
   rw[hsr] at hh3
   obtain⟨N2,hN2⟩:∃ n,i1+Y.length+(X.length-(i2+1))=n:=⟨_,rfl⟩
   have HY:Hid (512 * Y.length≤N1+512∧cat Y=L1++(P++L2)):=⟨hYl,HcY⟩
   have hN2b:N2≤1099511627776:=by have:=HY.out.1;omega
   have hjl:=Zmw _ _ _ i1 Y.length (X.length-(i2+1)) _ _ _ w2 hh1 hkY.holds hh3 (by show _=_;rw[List.length_take,List.length_map];omega) (by show _=_;rw[List.length_map]) (by show _=_;rw[List.length_drop,List.length_map]) (fun u hu=>ZcP X u (List.mem_of_mem_take hu)) (ZcP Y) (fun u hu=>ZcP X u (List.mem_of_mem_drop hu)) N2 hN2 hN2b
   have hjl2:Calls Tryz.prog 117 (#[.slice (some ⟨o,0,none⟩) i1 c,.slice (some ⟨yo,0,none⟩) Y.length yc,.slice sr (X.length-(i2+1)) (c-(i2+1))]++#[]) w2 fun e w'=>∃ v,e=.returned v∧True∧(v=.slice (some ⟨w2.heap.size,0,none⟩) N2 N2∧w'.heap[w2.heap.size]?=some (.cells ((X.map Bck.v).take i1++(Y.map Bck.v++(X.map Bck.v).drop (i2+1))).toArray 23 (0,0))∧Below w2.heap.size w2 w'):=hjl.mono fun e w' h=>⟨_,h.1,trivial,rfl,h.2.1,h.2.2⟩
   clear hjl hh1 hh3
   refine Y_e 16 61 _ rfl 117 (.func 117) #[.tmp 51,.tmp 53,.tmp 60] #[72,72,72] (by kernel_rfl) #[] (by kernel_rfl) #[.slice (some ⟨o,0,none⟩) i1 c,.slice (some ⟨yo,0,none⟩) Y.length yc,.slice sr (X.length-(i2+1)) (c-(i2+1))] (by kernel_rfl) (enters_of Tryz.func117 (by kernel_rfl) rfl) _ hjl2 ?_
   rintro _ w3 _ ⟨rfl,hh3,hb23⟩
   simp only[Act.put,Y_a,Y_b,Y_c]
   refine Y_t 17 62 _ (.pointer (some ⟨g,2,none⟩)) rfl (Or.inl ⟨by kernel_rfl,fun u _=>by kernel_rfl⟩) trivial ?_
   simp only[Act.put,Y_a,Y_b,Y_c]
   refine Y_t 18 63 _ (.pointer (some ⟨g,2,none⟩)) rfl (Or.inl ⟨by kernel_rfl,fun u _=>by kernel_rfl⟩) trivial ?_
   simp only[Act.put,Y_a,Y_b,Y_c]
   have hE3:=hE2.low hb23
   obtain⟨hE4,hk4⟩:=ZuR hE2 hk2 hkY hYg hnG hio hi2 (Nat.le_trans hwN (Nat.le_trans hbw1.size hb12.size)) hN2 hh3 hb23
   have HL4:Hid (Bt g w (w3.setCell ⟨g,2,none⟩ (.slice (some ⟨w2.heap.size,0,none⟩) N2 N2))):=Bt.set (((Bt.of hbw1).trans (Bt.of hb12)).trans (Bt.of hb23)) 2 _
   refine Y_s 19 _ rfl (w3.setCell ⟨g,2,none⟩ (.slice (some ⟨w2.heap.size,0,none⟩) N2 N2)) (ZgO hE3.cells.2.2.1 (hE3.frozen 2) (.tmp 63) (.tmp 61) (by kernel_rfl) (by kernel_rfl) (by kernel_rfl)) trivial ?_
   refine wpAnyH_done (by kernel_rfl) ?_ _
   refine NoPanic.normal ?_
   generalize w3.setCell ⟨g,2,none⟩ (.slice (some ⟨w2.heap.size,0,none⟩) N2 N2)=w4 at hE4 hk4 HL4 ⊢
   have HK4:Hid (Eb w4 g vs (.slice (some ⟨w2.heap.size,0,none⟩) N2 N2) p (cat X).length cur en∧Bks w4 N (.slice (some ⟨w2.heap.size,0,none⟩) N2 N2) (X.take i1++(Y++X.drop (i2+1)))):=⟨hE4,hk4⟩
   obtain⟨_,_,z2,z3,_,_⟩:=hE4.cells
   have zf3:=hE4.frozen 3
   have HCAT:Hid (cat (X.take i1++(Y++X.drop (i2+1)))=putE (cat X) a b P):=(by
    show _=_
    unfold putE
    rw[Zdy,Zdy,HY.out.2,H1.out,H2.out]
    simp)
   have HLEN:Hid (((cat X).length:Int)+((P.length:Int)-((b:Int)-(a:Int)))=((putE (cat X) a b P).length:Int)):=(by
    show _=_
    unfold putE
    simp only[List.length_append,List.length_take,List.length_drop]
    omega)
   have HB512:Hid (512 * (X.take i1++(Y++X.drop (i2+1))).length≤512 * X.length+(cat X).length+P.length):=(by
    show _≤_
    have h1:=HY.out.1
    have h2:=HNX.out
    have h3:=HMX.out
    have h4:=congrArg List.length HCAT.out
    have h5:=HLEN.out
    have h6:N1≤(cat X).length+P.length:=(by
     have h7:=congrArg List.length HY.out.2
     have h8:=congrArg List.length H1.out
     have h9:=congrArg List.length H2.out
     simp only[List.length_append,List.length_take,List.length_drop] at h8 h9
     omega)
    simp only[List.length_append,List.length_take,List.length_drop]
    omega)
   clear hE4 hk4 hh3 hb23 hE3 hE2 hk2 hkY hb12 hYg hYl hjl2
   obtain⟨tl,htl⟩:∃ tl,(cat X).length=tl:=⟨_,rfl⟩
   rw[htl] at z3 HLEN hT hb
   have HTL:Hid ((cat X).length=tl):=htl
   clear htl
   go_wp2
   first
    | go_end0
    | refine bodyPost_ret (results_none rfl _ _ _) rfl ?_
    | refine bodyPost_end (results_none rfl _ _ _) rfl ?_
   refine⟨rfl,_,_,?_,HK4.out.1.bks HK4.out.2 3 _,HCAT.out,HB512.out,HL4.out.set 3 _⟩
   rw[HCAT.out,← HLEN.out]
   exact HK4.out.1.setC _
  ·simp only[Act.put,Y_a,Y_b,Y_c]
   refine Y_t 15 60 _ (.slice sr (X.length-(i2+1)) (c-(i2+1))) rfl (Or.inl ⟨by kernel_rfl,fun u _=>ZgN (hsR u) ⟨_,_,_,rfl⟩ (.tmp 57) (.tmp 59) (by kernel_rfl) (by kernel_rfl) (by kernel_rfl)⟩) trivial ?_
   simp only[Act.put,Y_a,Y_b,Y_c]
   refine Y_v 4 49 _ rfl (.slice (some ⟨o,0,none⟩) X.length c) _ (ZgL ((hE1.low hb12).cells.2.2.1) (.tmp 48) (by kernel_rfl) (by kernel_rfl)) trivial ?_
   simp only[Act.put,Y_a,Y_b,Y_c]
   refine Y_t 6 51 _ (.slice (some ⟨o,0,none⟩) i1 c) rfl (Or.inl ⟨by kernel_rfl,fun u _=>ZgM (hsL u) ⟨_,_,_,rfl⟩ (.tmp 49) (.tmp 50) (by kernel_rfl) (by kernel_rfl) (by kernel_rfl)⟩) trivial ?_
   simp only[Act.put,Y_a,Y_b,Y_c]
   have hE2:=hE1.low hb12
   have hk2:=hk1.low hb12
   have hh1:=Zlm hk2.holds (by simp) (Nat.le_of_lt hi1) ⟨o,rfl⟩
   have hh3:=Zlk hk2.holds (by simp) (by omega:i2+1≤X.length) ⟨o,rfl⟩
   rw[hsr] at hh3
   obtain⟨N2,hN2⟩:∃ n,i1+Y.length+(X.length-(i2+1))=n:=⟨_,rfl⟩
   have HY:Hid (512 * Y.length≤N1+512∧cat Y=L1++(P++L2)):=⟨hYl,HcY⟩
   have hN2b:N2≤1099511627776:=by have:=HY.out.1;omega
   have hjl:=Zmw _ _ _ i1 Y.length (X.length-(i2+1)) _ _ _ w2 hh1 hkY.holds hh3 (by show _=_;rw[List.length_take,List.length_map];omega) (by show _=_;rw[List.length_map]) (by show _=_;rw[List.length_drop,List.length_map]) (fun u hu=>ZcP X u (List.mem_of_mem_take hu)) (ZcP Y) (fun u hu=>ZcP X u (List.mem_of_mem_drop hu)) N2 hN2 hN2b
   have hjl2:Calls Tryz.prog 117 (#[.slice (some ⟨o,0,none⟩) i1 c,.slice (some ⟨yo,0,none⟩) Y.length yc,.slice sr (X.length-(i2+1)) (c-(i2+1))]++#[]) w2 fun e w'=>∃ v,e=.returned v∧True∧(v=.slice (some ⟨w2.heap.size,0,none⟩) N2 N2∧w'.heap[w2.heap.size]?=some (.cells ((X.map Bck.v).take i1++(Y.map Bck.v++(X.map Bck.v).drop (i2+1))).toArray 23 (0,0))∧Below w2.heap.size w2 w'):=hjl.mono fun e w' h=>⟨_,h.1,trivial,rfl,h.2.1,h.2.2⟩
   clear hjl hh1 hh3
   refine Y_e 16 61 _ rfl 117 (.func 117) #[.tmp 51,.tmp 53,.tmp 60] #[72,72,72] (by kernel_rfl) #[] (by kernel_rfl) #[.slice (some ⟨o,0,none⟩) i1 c,.slice (some ⟨yo,0,none⟩) Y.length yc,.slice sr (X.length-(i2+1)) (c-(i2+1))] (by kernel_rfl) (enters_of Tryz.func117 (by kernel_rfl) rfl) _ hjl2 ?_
   rintro _ w3 _ ⟨rfl,hh3,hb23⟩
   simp only[Act.put,Y_a,Y_b,Y_c]
   refine Y_t 17 62 _ (.pointer (some ⟨g,2,none⟩)) rfl (Or.inl ⟨by kernel_rfl,fun u _=>by kernel_rfl⟩) trivial ?_
   simp only[Act.put,Y_a,Y_b,Y_c]
   refine Y_t 18 63 _ (.pointer (some ⟨g,2,none⟩)) rfl (Or.inl ⟨by kernel_rfl,fun u _=>by kernel_rfl⟩) trivial ?_
   simp only[Act.put,Y_a,Y_b,Y_c]
   have hE3:=hE2.low hb23
   obtain⟨hE4,hk4⟩:=ZuR hE2 hk2 hkY hYg hnG hio hi2 (Nat.le_trans hwN (Nat.le_trans hbw1.size hb12.size)) hN2 hh3 hb23
   have HL4:Hid (Bt g w (w3.setCell ⟨g,2,none⟩ (.slice (some ⟨w2.heap.size,0,none⟩) N2 N2))):=Bt.set (((Bt.of hbw1).trans (Bt.of hb12)).trans (Bt.of hb23)) 2 _
   refine Y_s 19 _ rfl (w3.setCell ⟨g,2,none⟩ (.slice (some ⟨w2.heap.size,0,none⟩) N2 N2)) (ZgO hE3.cells.2.2.1 (hE3.frozen 2) (.tmp 63) (.tmp 61) (by kernel_rfl) (by kernel_rfl) (by kernel_rfl)) trivial ?_
   refine wpAnyH_done (by kernel_rfl) ?_ _
   refine NoPanic.normal ?_
   generalize w3.setCell ⟨g,2,none⟩ (.slice (some ⟨w2.heap.size,0,none⟩) N2 N2)=w4 at hE4 hk4 HL4 ⊢
   have HK4:Hid (Eb w4 g vs (.slice (some ⟨w2.heap.size,0,none⟩) N2 N2) p (cat X).length cur en∧Bks w4 N (.slice (some ⟨w2.heap.size,0,none⟩) N2 N2) (X.take i1++(Y++X.drop (i2+1)))):=⟨hE4,hk4⟩
   obtain⟨_,_,z2,z3,_,_⟩:=hE4.cells
   have zf3:=hE4.frozen 3
   have HCAT:Hid (cat (X.take i1++(Y++X.drop (i2+1)))=putE (cat X) a b P):=(by
    show _=_
    unfold putE
    rw[Zdy,Zdy,HY.out.2,H1.out,H2.out]
    simp)
   have HLEN:Hid (((cat X).length:Int)+((P.length:Int)-((b:Int)-(a:Int)))=((putE (cat X) a b P).length:Int)):=(by
    show _=_
    unfold putE
    simp only[List.length_append,List.length_take,List.length_drop]
    omega)
   have HB512:Hid (512 * (X.take i1++(Y++X.drop (i2+1))).length≤512 * X.length+(cat X).length+P.length):=(by
    show _≤_
    have h1:=HY.out.1
    have h2:=HNX.out
    have h3:=HMX.out
    have h4:=congrArg List.length HCAT.out
    have h5:=HLEN.out
    have h6:N1≤(cat X).length+P.length:=(by
     have h7:=congrArg List.length HY.out.2
     have h8:=congrArg List.length H1.out
     have h9:=congrArg List.length H2.out
     simp only[List.length_append,List.length_take,List.length_drop] at h8 h9
     omega)
    simp only[List.length_append,List.length_take,List.length_drop]
    omega)
   clear hE4 hk4 hh3 hb23 hE3 hE2 hk2 hkY hb12 hYg hYl hjl2
   obtain⟨tl,htl⟩:∃ tl,(cat X).length=tl:=⟨_,rfl⟩
   rw[htl] at z3 HLEN hT hb
   have HTL:Hid ((cat X).length=tl):=htl
   clear htl
   go_wp2
   first
    | go_end0
    | refine bodyPost_ret (results_none rfl _ _ _) rfl ?_
    | refine bodyPost_end (results_none rfl _ _ _) rfl ?_
   refine⟨rfl,_,_,?_,HK4.out.1.bks HK4.out.2 3 _,HCAT.out,HB512.out,HL4.out.set 3 _⟩
   rw[HCAT.out,← HLEN.out]
   exact HK4.out.1.setC _
 ·simp only[Act.put,Y_a,Y_b,Y_c]
  refine Y_t 6 51 _ (.slice (some ⟨o,0,none⟩) i1 c) rfl (Or.inl ⟨by kernel_rfl,fun u _=>ZgM (hsL u) ⟨_,_,_,rfl⟩ (.tmp 49) (.tmp 50) (by kernel_rfl) (by kernel_rfl) (by kernel_rfl)⟩) trivial ?_
  simp only[Act.put,Y_a,Y_b,Y_c]
  refine ZgK [8,12] (by kernel_rfl) (by decide) 8 53 _ rfl (by kernel_rfl) (by kernel_rfl) 48 (.func 48) #[.tmp 52] #[23] (by kernel_rfl) #[] (by kernel_rfl) #[.slice (some ⟨w.heap.size,0,none⟩) N1 N1] (by kernel_rfl) (enters_of Tryz.func48 (by kernel_rfl) rfl) _ hcu2 ?_ 12 57 _ rfl (by kernel_rfl) (by kernel_rfl) (.slice (some ⟨o,0,none⟩) X.length c) (ZgL e2 (.tmp 56) (by kernel_rfl) (by kernel_rfl)) trivial ?_ 12 57 _ rfl (by kernel_rfl) (by kernel_rfl) (.slice (some ⟨o,0,none⟩) X.length c) (ZgL e2 (.tmp 56) (by kernel_rfl) (by kernel_rfl)) ?_ (.inr (.inl rfl))
  ·rintro _ w2 _ ⟨Y,yo,yc,rfl,hkY,HcY,hYg,hYl,hb12⟩
   simp only[Act.put,Y_a,Y_b,Y_c]
   refine Y_v 12 57 _ rfl (.slice (some ⟨o,0,none⟩) X.length c) _ (ZgL ((hE1.low hb12).cells.2.2.1) (.tmp 56) (by kernel_rfl) (by kernel_rfl)) trivial ?_
   simp only[Act.put,Y_a,Y_b,Y_c]
   refine Y_t 15 60 _ (.slice sr (X.length-(i2+1)) (c-(i2+1))) rfl (Or.inl ⟨by kernel_rfl,fun u _=>ZgN (hsR u) ⟨_,_,_,rfl⟩ (.tmp 57) (.tmp 59) (by kernel_rfl) (by kernel_rfl) (by kernel_rfl)⟩) trivial ?_
   simp only[Act.put,Y_a,Y_b,Y_c]
   have hE2:=hE1.low hb12
   have hk2:=hk1.low hb12
   have hh1:=Zlm hk2.holds (by simp) (Nat.le_of_lt hi1) ⟨o,rfl⟩
   have hh3:=Zlk hk2.holds (by simp) (by omega:i2+1≤X.length) ⟨o,rfl⟩
   rw[hsr] at hh3
   obtain⟨N2,hN2⟩:∃ n,i1+Y.length+(X.length-(i2+1))=n:=⟨_,rfl⟩
   have HY:Hid (512 * Y.length≤N1+512∧cat Y=L1++(P++L2)):=⟨hYl,HcY⟩
   have hN2b:N2≤1099511627776:=by have:=HY.out.1;omega
   have hjl:=Zmw _ _ _ i1 Y.length (X.length-(i2+1)) _ _ _ w2 hh1 hkY.holds hh3 (by show _=_;rw[List.length_take,List.length_map];omega) (by show _=_;rw[List.length_map]) (by show _=_;rw[List.length_drop,List.length_map]) (fun u hu=>ZcP X u (List.mem_of_mem_take hu)) (ZcP Y) (fun u hu=>ZcP X u (List.mem_of_mem_drop hu)) N2 hN2 hN2b
   have hjl2:Calls Tryz.prog 117 (#[.slice (some ⟨o,0,none⟩) i1 c,.slice (some ⟨yo,0,none⟩) Y.length yc,.slice sr (X.length-(i2+1)) (c-(i2+1))]++#[]) w2 fun e w'=>∃ v,e=.returned v∧True∧(v=.slice (some ⟨w2.heap.size,0,none⟩) N2 N2∧w'.heap[w2.heap.size]?=some (.cells ((X.map Bck.v).take i1++(Y.map Bck.v++(X.map Bck.v).drop (i2+1))).toArray 23 (0,0))∧Below w2.heap.size w2 w'):=hjl.mono fun e w' h=>⟨_,h.1,trivial,rfl,h.2.1,h.2.2⟩
   clear hjl hh1 hh3
   refine Y_e 16 61 _ rfl 117 (.func 117) #[.tmp 51,.tmp 53,.tmp 60] #[72,72,72] (by kernel_rfl) #[] (by kernel_rfl) #[.slice (some ⟨o,0,none⟩) i1 c,.slice (some ⟨yo,0,none⟩) Y.length yc,.slice sr (X.length-(i2+1)) (c-(i2+1))] (by kernel_rfl) (enters_of Tryz.func117 (by kernel_rfl) rfl) _ hjl2 ?_
   rintro _ w3 _ ⟨rfl,hh3,hb23⟩
   simp only[Act.put,Y_a,Y_b,Y_c]
   refine Y_t 17 62 _ (.pointer (some ⟨g,2,none⟩)) rfl (Or.inl ⟨by kernel_rfl,fun u _=>by kernel_rfl⟩) trivial ?_
   simp only[Act.put,Y_a,Y_b,Y_c]
   refine Y_t 18 63 _ (.pointer (some ⟨g,2,none⟩)) rfl (Or.inl ⟨by kernel_rfl,fun u _=>by kernel_rfl⟩) trivial ?_
   simp only[Act.put,Y_a,Y_b,Y_c]
   have hE3:=hE2.low hb23
   obtain⟨hE4,hk4⟩:=ZuR hE2 hk2 hkY hYg hnG hio hi2 (Nat.le_trans hwN (Nat.le_trans hbw1.size hb12.size)) hN2 hh3 hb23
   have HL4:Hid (Bt g w (w3.setCell ⟨g,2,none⟩ (.slice (some ⟨w2.heap.size,0,none⟩) N2 N2))):=Bt.set (((Bt.of hbw1).trans (Bt.of hb12)).trans (Bt.of hb23)) 2 _
   refine Y_s 19 _ rfl (w3.setCell ⟨g,2,none⟩ (.slice (some ⟨w2.heap.size,0,none⟩) N2 N2)) (ZgO hE3.cells.2.2.1 (hE3.frozen 2) (.tmp 63) (.tmp 61) (by kernel_rfl) (by kernel_rfl) (by kernel_rfl)) trivial ?_
   refine wpAnyH_done (by kernel_rfl) ?_ _
   refine NoPanic.normal ?_
   generalize w3.setCell ⟨g,2,none⟩ (.slice (some ⟨w2.heap.size,0,none⟩) N2 N2)=w4 at hE4 hk4 HL4 ⊢
   have HK4:Hid (Eb w4 g vs (.slice (some ⟨w2.heap.size,0,none⟩) N2 N2) p (cat X).length cur en∧Bks w4 N (.slice (some ⟨w2.heap.size,0,none⟩) N2 N2) (X.take i1++(Y++X.drop (i2+1)))):=⟨hE4,hk4⟩
   obtain⟨_,_,z2,z3,_,_⟩:=hE4.cells
   have zf3:=hE4.frozen 3
   have HCAT:Hid (cat (X.take i1++(Y++X.drop (i2+1)))=putE (cat X) a b P):=(by
    show _=_
    unfold putE
    rw[Zdy,Zdy,HY.out.2,H1.out,H2.out]
    simp)
   have HLEN:Hid (((cat X).length:Int)+((P.length:Int)-((b:Int)-(a:Int)))=((putE (cat X) a b P).length:Int)):=(by
    show _=_
    unfold putE
    simp only[List.length_append,List.length_take,List.length_drop]
    omega)
   have HB512:Hid (512 * (X.take i1++(Y++X.drop (i2+1))).length≤512 * X.length+(cat X).length+P.length):=(by
    show _≤_
    have h1:=HY.out.1
    have h2:=HNX.out
    have h3:=HMX.out
    have h4:=congrArg List.length HCAT.out
    have h5:=HLEN.out
    have h6:N1≤(cat X).length+P.length:=(by
     have h7:=congrArg List.length HY.out.2
     have h8:=congrArg List.length H1.out
     have h9:=congrArg List.length H2.out
     simp only[List.length_append,List.length_take,List.length_drop] at h8 h9
     omega)
    simp only[List.length_append,List.length_take,List.length_drop]
    omega)
   clear hE4 hk4 hh3 hb23 hE3 hE2 hk2 hkY hb12 hYg hYl hjl2
   obtain⟨tl,htl⟩:∃ tl,(cat X).length=tl:=⟨_,rfl⟩
   rw[htl] at z3 HLEN hT hb
   have HTL:Hid ((cat X).length=tl):=htl
   clear htl
   go_wp2
   first
    | go_end0
    | refine bodyPost_ret (results_none rfl _ _ _) rfl ?_
    | refine bodyPost_end (results_none rfl _ _ _) rfl ?_
   refine⟨rfl,_,_,?_,HK4.out.1.bks HK4.out.2 3 _,HCAT.out,HB512.out,HL4.out.set 3 _⟩
   rw[HCAT.out,← HLEN.out]
   exact HK4.out.1.setC _
  ·simp only[Act.put,Y_a,Y_b,Y_c]
   refine Y_t 15 60 _ (.slice sr (X.length-(i2+1)) (c-(i2+1))) rfl (Or.inl ⟨by kernel_rfl,fun u _=>ZgN (hsR u) ⟨_,_,_,rfl⟩ (.tmp 57) (.tmp 59) (by kernel_rfl) (by kernel_rfl) (by kernel_rfl)⟩) trivial ?_
   simp only[Act.put,Y_a,Y_b,Y_c]
   refine Y_e 8 53 _ rfl 48 (.func 48) #[.tmp 52] #[23] (by kernel_rfl) #[] (by kernel_rfl) #[.slice (some ⟨w.heap.size,0,none⟩) N1 N1] (by kernel_rfl) (enters_of Tryz.func48 (by kernel_rfl) rfl) _ hcu2 ?_
   rintro _ w2 _ ⟨Y,yo,yc,rfl,hkY,HcY,hYg,hYl,hb12⟩
   simp only[Act.put,Y_a,Y_b,Y_c]
   have hE2:=hE1.low hb12
   have hk2:=hk1.low hb12
   have hh1:=Zlm hk2.holds (by simp) (Nat.le_of_lt hi1) ⟨o,rfl⟩
   have hh3:=Zlk hk2.holds (by simp) (by omega:i2+1≤X.length) ⟨o,rfl⟩
   rw[hsr] at hh3
   obtain⟨N2,hN2⟩:∃ n,i1+Y.length+(X.length-(i2+1))=n:=⟨_,rfl⟩
   have HY:Hid (512 * Y.length≤N1+512∧cat Y=L1++(P++L2)):=⟨hYl,HcY⟩
   have hN2b:N2≤1099511627776:=by have:=HY.out.1;omega
   have hjl:=Zmw _ _ _ i1 Y.length (X.length-(i2+1)) _ _ _ w2 hh1 hkY.holds hh3 (by show _=_;rw[List.length_take,List.length_map];omega) (by show _=_;rw[List.length_map]) (by show _=_;rw[List.length_drop,List.length_map]) (fun u hu=>ZcP X u (List.mem_of_mem_take hu)) (ZcP Y) (fun u hu=>ZcP X u (List.mem_of_mem_drop hu)) N2 hN2 hN2b
   have hjl2:Calls Tryz.prog 117 (#[.slice (some ⟨o,0,none⟩) i1 c,.slice (some ⟨yo,0,none⟩) Y.length yc,.slice sr (X.length-(i2+1)) (c-(i2+1))]++#[]) w2 fun e w'=>∃ v,e=.returned v∧True∧(v=.slice (some ⟨w2.heap.size,0,none⟩) N2 N2∧w'.heap[w2.heap.size]?=some (.cells ((X.map Bck.v).take i1++(Y.map Bck.v++(X.map Bck.v).drop (i2+1))).toArray 23 (0,0))∧Below w2.heap.size w2 w'):=hjl.mono fun e w' h=>⟨_,h.1,trivial,rfl,h.2.1,h.2.2⟩
   clear hjl hh1 hh3
   refine Y_e 16 61 _ rfl 117 (.func 117) #[.tmp 51,.tmp 53,.tmp 60] #[72,72,72] (by kernel_rfl) #[] (by kernel_rfl) #[.slice (some ⟨o,0,none⟩) i1 c,.slice (some ⟨yo,0,none⟩) Y.length yc,.slice sr (X.length-(i2+1)) (c-(i2+1))] (by kernel_rfl) (enters_of Tryz.func117 (by kernel_rfl) rfl) _ hjl2 ?_
   rintro _ w3 _ ⟨rfl,hh3,hb23⟩
   simp only[Act.put,Y_a,Y_b,Y_c]
   refine Y_t 17 62 _ (.pointer (some ⟨g,2,none⟩)) rfl (Or.inl ⟨by kernel_rfl,fun u _=>by kernel_rfl⟩) trivial ?_
   simp only[Act.put,Y_a,Y_b,Y_c]
   refine Y_t 18 63 _ (.pointer (some ⟨g,2,none⟩)) rfl (Or.inl ⟨by kernel_rfl,fun u _=>by kernel_rfl⟩) trivial ?_
   simp only[Act.put,Y_a,Y_b,Y_c]
   have hE3:=hE2.low hb23
   obtain⟨hE4,hk4⟩:=ZuR hE2 hk2 hkY hYg hnG hio hi2 (Nat.le_trans hwN (Nat.le_trans hbw1.size hb12.size)) hN2 hh3 hb23
   have HL4:Hid (Bt g w (w3.setCell ⟨g,2,none⟩ (.slice (some ⟨w2.heap.size,0,none⟩) N2 N2))):=Bt.set (((Bt.of hbw1).trans (Bt.of hb12)).trans (Bt.of hb23)) 2 _
   refine Y_s 19 _ rfl (w3.setCell ⟨g,2,none⟩ (.slice (some ⟨w2.heap.size,0,none⟩) N2 N2)) (ZgO hE3.cells.2.2.1 (hE3.frozen 2) (.tmp 63) (.tmp 61) (by kernel_rfl) (by kernel_rfl) (by kernel_rfl)) trivial ?_
   refine wpAnyH_done (by kernel_rfl) ?_ _
   refine NoPanic.normal ?_
   generalize w3.setCell ⟨g,2,none⟩ (.slice (some ⟨w2.heap.size,0,none⟩) N2 N2)=w4 at hE4 hk4 HL4 ⊢
   have HK4:Hid (Eb w4 g vs (.slice (some ⟨w2.heap.size,0,none⟩) N2 N2) p (cat X).length cur en∧Bks w4 N (.slice (some ⟨w2.heap.size,0,none⟩) N2 N2) (X.take i1++(Y++X.drop (i2+1)))):=⟨hE4,hk4⟩
   obtain⟨_,_,z2,z3,_,_⟩:=hE4.cells
   have zf3:=hE4.frozen 3
   have HCAT:Hid (cat (X.take i1++(Y++X.drop (i2+1)))=putE (cat X) a b P):=(by
    show _=_
    unfold putE
    rw[Zdy,Zdy,HY.out.2,H1.out,H2.out]
    simp)
   have HLEN:Hid (((cat X).length:Int)+((P.length:Int)-((b:Int)-(a:Int)))=((putE (cat X) a b P).length:Int)):=(by
    show _=_
    unfold putE
    simp only[List.length_append,List.length_take,List.length_drop]
    omega)
   have HB512:Hid (512 * (X.take i1++(Y++X.drop (i2+1))).length≤512 * X.length+(cat X).length+P.length):=(by
    show _≤_
    have h1:=HY.out.1
    have h2:=HNX.out
    have h3:=HMX.out
    have h4:=congrArg List.length HCAT.out
    have h5:=HLEN.out
    have h6:N1≤(cat X).length+P.length:=(by
     have h7:=congrArg List.length HY.out.2
     have h8:=congrArg List.length H1.out
     have h9:=congrArg List.length H2.out
     simp only[List.length_append,List.length_take,List.length_drop] at h8 h9
     omega)
    simp only[List.length_append,List.length_take,List.length_drop]
    omega)
   clear hE4 hk4 hh3 hb23 hE3 hE2 hk2 hkY hb12 hYg hYl hjl2
   obtain⟨tl,htl⟩:∃ tl,(cat X).length=tl:=⟨_,rfl⟩
   rw[htl] at z3 HLEN hT hb
   have HTL:Hid ((cat X).length=tl):=htl
   clear htl
   go_wp2
   first
    | go_end0
    | refine bodyPost_ret (results_none rfl _ _ _) rfl ?_
    | refine bodyPost_end (results_none rfl _ _ _) rfl ?_
   refine⟨rfl,_,_,?_,HK4.out.1.bks HK4.out.2 3 _,HCAT.out,HB512.out,HL4.out.set 3 _⟩
   rw[HCAT.out,← HLEN.out]
   exact HK4.out.1.setC _
  ·simp only[Act.put,Y_a,Y_b,Y_c]
   refine Y_t 15 60 _ (.slice sr (X.length-(i2+1)) (c-(i2+1))) rfl (Or.inl ⟨by kernel_rfl,fun u _=>ZgN (hsR u) ⟨_,_,_,rfl⟩ (.tmp 57) (.tmp 59) (by kernel_rfl) (by kernel_rfl) (by kernel_rfl)⟩) trivial ?_
   simp only[Act.put,Y_a,Y_b,Y_c]
   refine Y_e 8 53 _ rfl 48 (.func 48) #[.tmp 52] #[23] (by kernel_rfl) #[] (by kernel_rfl) #[.slice (some ⟨w.heap.size,0,none⟩) N1 N1] (by kernel_rfl) (enters_of Tryz.func48 (by kernel_rfl) rfl) _ hcu2 ?_
   rintro _ w2 _ ⟨Y,yo,yc,rfl,hkY,HcY,hYg,hYl,hb12⟩
   simp only[Act.put,Y_a,Y_b,Y_c]
   have hE2:=hE1.low hb12
   have hk2:=hk1.low hb12
   have hh1:=Zlm hk2.holds (by simp) (Nat.le_of_lt hi1) ⟨o,rfl⟩
   have hh3:=Zlk hk2.holds (by simp) (by omega:i2+1≤X.length) ⟨o,rfl⟩
   rw[hsr] at hh3
   obtain⟨N2,hN2⟩:∃ n,i1+Y.length+(X.length-(i2+1))=n:=⟨_,rfl⟩
   have HY:Hid (512 * Y.length≤N1+512∧cat Y=L1++(P++L2)):=⟨hYl,HcY⟩
   have hN2b:N2≤1099511627776:=by have:=HY.out.1;omega
   have hjl:=Zmw _ _ _ i1 Y.length (X.length-(i2+1)) _ _ _ w2 hh1 hkY.holds hh3 (by show _=_;rw[List.length_take,List.length_map];omega) (by show _=_;rw[List.length_map]) (by show _=_;rw[List.length_drop,List.length_map]) (fun u hu=>ZcP X u (List.mem_of_mem_take hu)) (ZcP Y) (fun u hu=>ZcP X u (List.mem_of_mem_drop hu)) N2 hN2 hN2b
   have hjl2:Calls Tryz.prog 117 (#[.slice (some ⟨o,0,none⟩) i1 c,.slice (some ⟨yo,0,none⟩) Y.length yc,.slice sr (X.length-(i2+1)) (c-(i2+1))]++#[]) w2 fun e w'=>∃ v,e=.returned v∧True∧(v=.slice (some ⟨w2.heap.size,0,none⟩) N2 N2∧w'.heap[w2.heap.size]?=some (.cells ((X.map Bck.v).take i1++(Y.map Bck.v++(X.map Bck.v).drop (i2+1))).toArray 23 (0,0))∧Below w2.heap.size w2 w'):=hjl.mono fun e w' h=>⟨_,h.1,trivial,rfl,h.2.1,h.2.2⟩
   clear hjl hh1 hh3
   refine Y_e 16 61 _ rfl 117 (.func 117) #[.tmp 51,.tmp 53,.tmp 60] #[72,72,72] (by kernel_rfl) #[] (by kernel_rfl) #[.slice (some ⟨o,0,none⟩) i1 c,.slice (some ⟨yo,0,none⟩) Y.length yc,.slice sr (X.length-(i2+1)) (c-(i2+1))] (by kernel_rfl) (enters_of Tryz.func117 (by kernel_rfl) rfl) _ hjl2 ?_
   rintro _ w3 _ ⟨rfl,hh3,hb23⟩
   simp only[Act.put,Y_a,Y_b,Y_c]
   refine Y_t 17 62 _ (.pointer (some ⟨g,2,none⟩)) rfl (Or.inl ⟨by kernel_rfl,fun u _=>by kernel_rfl⟩) trivial ?_
   simp only[Act.put,Y_a,Y_b,Y_c]
   refine Y_t 18 63 _ (.pointer (some ⟨g,2,none⟩)) rfl (Or.inl ⟨by kernel_rfl,fun u _=>by kernel_rfl⟩) trivial ?_
   simp only[Act.put,Y_a,Y_b,Y_c]
   have hE3:=hE2.low hb23
   obtain⟨hE4,hk4⟩:=ZuR hE2 hk2 hkY hYg hnG hio hi2 (Nat.le_trans hwN (Nat.le_trans hbw1.size hb12.size)) hN2 hh3 hb23
   have HL4:Hid (Bt g w (w3.setCell ⟨g,2,none⟩ (.slice (some ⟨w2.heap.size,0,none⟩) N2 N2))):=Bt.set (((Bt.of hbw1).trans (Bt.of hb12)).trans (Bt.of hb23)) 2 _
   refine Y_s 19 _ rfl (w3.setCell ⟨g,2,none⟩ (.slice (some ⟨w2.heap.size,0,none⟩) N2 N2)) (ZgO hE3.cells.2.2.1 (hE3.frozen 2) (.tmp 63) (.tmp 61) (by kernel_rfl) (by kernel_rfl) (by kernel_rfl)) trivial ?_
   refine wpAnyH_done (by kernel_rfl) ?_ _
   refine NoPanic.normal ?_
   generalize w3.setCell ⟨g,2,none⟩ (.slice (some ⟨w2.heap.size,0,none⟩) N2 N2)=w4 at hE4 hk4 HL4 ⊢
   have HK4:Hid (Eb w4 g vs (.slice (some ⟨w2.heap.size,0,none⟩) N2 N2) p (cat X).length cur en∧Bks w4 N (.slice (some ⟨w2.heap.size,0,none⟩) N2 N2) (X.take i1++(Y++X.drop (i2+1)))):=⟨hE4,hk4⟩
   obtain⟨_,_,z2,z3,_,_⟩:=hE4.cells
   have zf3:=hE4.frozen 3
   have HCAT:Hid (cat (X.take i1++(Y++X.drop (i2+1)))=putE (cat X) a b P):=(by
    show _=_
    unfold putE
    rw[Zdy,Zdy,HY.out.2,H1.out,H2.out]
    simp)
   have HLEN:Hid (((cat X).length:Int)+((P.length:Int)-((b:Int)-(a:Int)))=((putE (cat X) a b P).length:Int)):=(by
    show _=_
    unfold putE
    simp only[List.length_append,List.length_take,List.length_drop]
    omega)
   have HB512:Hid (512 * (X.take i1++(Y++X.drop (i2+1))).length≤512 * X.length+(cat X).length+P.length):=(by
    show _≤_
    have h1:=HY.out.1
    have h2:=HNX.out
    have h3:=HMX.out
    have h4:=congrArg List.length HCAT.out
    have h5:=HLEN.out
    have h6:N1≤(cat X).length+P.length:=(by
     have h7:=congrArg List.length HY.out.2
     have h8:=congrArg List.length H1.out
     have h9:=congrArg List.length H2.out
     simp only[List.length_append,List.length_take,List.length_drop] at h8 h9
     omega)
    simp only[List.length_append,List.length_take,List.length_drop]
    omega)
   clear hE4 hk4 hh3 hb23 hE3 hE2 hk2 hkY hb12 hYg hYl hjl2
   obtain⟨tl,htl⟩:∃ tl,(cat X).length=tl:=⟨_,rfl⟩
   rw[htl] at z3 HLEN hT hb
   have HTL:Hid ((cat X).length=tl):=htl
   clear htl
   go_wp2
   first
    | go_end0
    | refine bodyPost_ret (results_none rfl _ _ _) rfl ?_
    | refine bodyPost_end (results_none rfl _ _ _) rfl ?_
   refine⟨rfl,_,_,?_,HK4.out.1.bks HK4.out.2 3 _,HCAT.out,HB512.out,HL4.out.set 3 _⟩
   rw[HCAT.out,← HLEN.out]
   exact HK4.out.1.setC _
 ·simp only[Act.put,Y_a,Y_b,Y_c]
  refine Y_t 15 60 _ (.slice sr (X.length-(i2+1)) (c-(i2+1))) rfl (Or.inl ⟨by kernel_rfl,fun u _=>ZgN (hsR u) ⟨_,_,_,rfl⟩ (.tmp 57) (.tmp 59) (by kernel_rfl) (by kernel_rfl) (by kernel_rfl)⟩) trivial ?_
  simp only[Act.put,Y_a,Y_b,Y_c]
  refine ZgK [4,8] (by kernel_rfl) (by decide) 8 53 _ rfl (by kernel_rfl) (by kernel_rfl) 48 (.func 48) #[.tmp 52] #[23] (by kernel_rfl) #[] (by kernel_rfl) #[.slice (some ⟨w.heap.size,0,none⟩) N1 N1] (by kernel_rfl) (enters_of Tryz.func48 (by kernel_rfl) rfl) _ hcu2 ?_ 4 49 _ rfl (by kernel_rfl) (by kernel_rfl) (.slice (some ⟨o,0,none⟩) X.length c) (ZgL e2 (.tmp 48) (by kernel_rfl) (by kernel_rfl)) trivial ?_ 4 49 _ rfl (by kernel_rfl) (by kernel_rfl) (.slice (some ⟨o,0,none⟩) X.length c) (ZgL e2 (.tmp 48) (by kernel_rfl) (by kernel_rfl)) ?_ (.inl rfl)
  ·rintro _ w2 _ ⟨Y,yo,yc,rfl,hkY,HcY,hYg,hYl,hb12⟩
   simp only[Act.put,Y_a,Y_b,Y_c]
   refine Y_v 4 49 _ rfl (.slice (some ⟨o,0,none⟩) X.length c) _ (ZgL ((hE1.low hb12).cells.2.2.1) (.tmp 48) (by kernel_rfl) (by kernel_rfl)) trivial ?_
   simp only[Act.put,Y_a,Y_b,Y_c]
   refine Y_t 6 51 _ (.slice (some ⟨o,0,none⟩) i1 c) rfl (Or.inl ⟨by kernel_rfl,fun u _=>ZgM (hsL u) ⟨_,_,_,rfl⟩ (.tmp 49) (.tmp 50) (by kernel_rfl) (by kernel_rfl) (by kernel_rfl)⟩) trivial ?_
   simp only[Act.put,Y_a,Y_b,Y_c]
   have hE2:=hE1.low hb12
   have hk2:=hk1.low hb12
   have hh1:=Zlm hk2.holds (by simp) (Nat.le_of_lt hi1) ⟨o,rfl⟩
   have hh3:=Zlk hk2.holds (by simp) (by omega:i2+1≤X.length) ⟨o,rfl⟩
   rw[hsr] at hh3
   obtain⟨N2,hN2⟩:∃ n,i1+Y.length+(X.length-(i2+1))=n:=⟨_,rfl⟩
   have HY:Hid (512 * Y.length≤N1+512∧cat Y=L1++(P++L2)):=⟨hYl,HcY⟩
   have hN2b:N2≤1099511627776:=by have:=HY.out.1;omega
   have hjl:=Zmw _ _ _ i1 Y.length (X.length-(i2+1)) _ _ _ w2 hh1 hkY.holds hh3 (by show _=_;rw[List.length_take,List.length_map];omega) (by show _=_;rw[List.length_map]) (by show _=_;rw[List.length_drop,List.length_map]) (fun u hu=>ZcP X u (List.mem_of_mem_take hu)) (ZcP Y) (fun u hu=>ZcP X u (List.mem_of_mem_drop hu)) N2 hN2 hN2b
   have hjl2:Calls Tryz.prog 117 (#[.slice (some ⟨o,0,none⟩) i1 c,.slice (some ⟨yo,0,none⟩) Y.length yc,.slice sr (X.length-(i2+1)) (c-(i2+1))]++#[]) w2 fun e w'=>∃ v,e=.returned v∧True∧(v=.slice (some ⟨w2.heap.size,0,none⟩) N2 N2∧w'.heap[w2.heap.size]?=some (.cells ((X.map Bck.v).take i1++(Y.map Bck.v++(X.map Bck.v).drop (i2+1))).toArray 23 (0,0))∧Below w2.heap.size w2 w'):=hjl.mono fun e w' h=>⟨_,h.1,trivial,rfl,h.2.1,h.2.2⟩
   clear hjl hh1 hh3
   refine Y_e 16 61 _ rfl 117 (.func 117) #[.tmp 51,.tmp 53,.tmp 60] #[72,72,72] (by kernel_rfl) #[] (by kernel_rfl) #[.slice (some ⟨o,0,none⟩) i1 c,.slice (some ⟨yo,0,none⟩) Y.length yc,.slice sr (X.length-(i2+1)) (c-(i2+1))] (by kernel_rfl) (enters_of Tryz.func117 (by kernel_rfl) rfl) _ hjl2 ?_
   rintro _ w3 _ ⟨rfl,hh3,hb23⟩
   simp only[Act.put,Y_a,Y_b,Y_c]
   refine Y_t 17 62 _ (.pointer (some ⟨g,2,none⟩)) rfl (Or.inl ⟨by kernel_rfl,fun u _=>by kernel_rfl⟩) trivial ?_
   simp only[Act.put,Y_a,Y_b,Y_c]
   refine Y_t 18 63 _ (.pointer (some ⟨g,2,none⟩)) rfl (Or.inl ⟨by kernel_rfl,fun u _=>by kernel_rfl⟩) trivial ?_
   simp only[Act.put,Y_a,Y_b,Y_c]
   have hE3:=hE2.low hb23
   obtain⟨hE4,hk4⟩:=ZuR hE2 hk2 hkY hYg hnG hio hi2 (Nat.le_trans hwN (Nat.le_trans hbw1.size hb12.size)) hN2 hh3 hb23
   have HL4:Hid (Bt g w (w3.setCell ⟨g,2,none⟩ (.slice (some ⟨w2.heap.size,0,none⟩) N2 N2))):=Bt.set (((Bt.of hbw1).trans (Bt.of hb12)).trans (Bt.of hb23)) 2 _
   refine Y_s 19 _ rfl (w3.setCell ⟨g,2,none⟩ (.slice (some ⟨w2.heap.size,0,none⟩) N2 N2)) (ZgO hE3.cells.2.2.1 (hE3.frozen 2) (.tmp 63) (.tmp 61) (by kernel_rfl) (by kernel_rfl) (by kernel_rfl)) trivial ?_
   refine wpAnyH_done (by kernel_rfl) ?_ _
   refine NoPanic.normal ?_
   generalize w3.setCell ⟨g,2,none⟩ (.slice (some ⟨w2.heap.size,0,none⟩) N2 N2)=w4 at hE4 hk4 HL4 ⊢
   have HK4:Hid (Eb w4 g vs (.slice (some ⟨w2.heap.size,0,none⟩) N2 N2) p (cat X).length cur en∧Bks w4 N (.slice (some ⟨w2.heap.size,0,none⟩) N2 N2) (X.take i1++(Y++X.drop (i2+1)))):=⟨hE4,hk4⟩
   obtain⟨_,_,z2,z3,_,_⟩:=hE4.cells
   have zf3:=hE4.frozen 3
   have HCAT:Hid (cat (X.take i1++(Y++X.drop (i2+1)))=putE (cat X) a b P):=(by
    show _=_
    unfold putE
    rw[Zdy,Zdy,HY.out.2,H1.out,H2.out]
    simp)
   have HLEN:Hid (((cat X).length:Int)+((P.length:Int)-((b:Int)-(a:Int)))=((putE (cat X) a b P).length:Int)):=(by
    show _=_
    unfold putE
    simp only[List.length_append,List.length_take,List.length_drop]
    omega)
   have HB512:Hid (512 * (X.take i1++(Y++X.drop (i2+1))).length≤512 * X.length+(cat X).length+P.length):=(by
    show _≤_
    have h1:=HY.out.1
    have h2:=HNX.out
    have h3:=HMX.out
    have h4:=congrArg List.length HCAT.out
    have h5:=HLEN.out
    have h6:N1≤(cat X).length+P.length:=(by
     have h7:=congrArg List.length HY.out.2
     have h8:=congrArg List.length H1.out
     have h9:=congrArg List.length H2.out
     simp only[List.length_append,List.length_take,List.length_drop] at h8 h9
     omega)
    simp only[List.length_append,List.length_take,List.length_drop]
    omega)
   clear hE4 hk4 hh3 hb23 hE3 hE2 hk2 hkY hb12 hYg hYl hjl2
   obtain⟨tl,htl⟩:∃ tl,(cat X).length=tl:=⟨_,rfl⟩
   rw[htl] at z3 HLEN hT hb
   have HTL:Hid ((cat X).length=tl):=htl
   clear htl
   go_wp2
   first
    | go_end0
    | refine bodyPost_ret (results_none rfl _ _ _) rfl ?_
    | refine bodyPost_end (results_none rfl _ _ _) rfl ?_
   refine⟨rfl,_,_,?_,HK4.out.1.bks HK4.out.2 3 _,HCAT.out,HB512.out,HL4.out.set 3 _⟩
   rw[HCAT.out,← HLEN.out]
   exact HK4.out.1.setC _
  ·simp only[Act.put,Y_a,Y_b,Y_c]
   refine Y_t 6 51 _ (.slice (some ⟨o,0,none⟩) i1 c) rfl (Or.inl ⟨by kernel_rfl,fun u _=>ZgM (hsL u) ⟨_,_,_,rfl⟩ (.tmp 49) (.tmp 50) (by kernel_rfl) (by kernel_rfl) (by kernel_rfl)⟩) trivial ?_
   simp only[Act.put,Y_a,Y_b,Y_c]
   refine Y_e 8 53 _ rfl 48 (.func 48) #[.tmp 52] #[23] (by kernel_rfl) #[] (by kernel_rfl) #[.slice (some ⟨w.heap.size,0,none⟩) N1 N1] (by kernel_rfl) (enters_of Tryz.func48 (by kernel_rfl) rfl) _ hcu2 ?_
   rintro _ w2 _ ⟨Y,yo,yc,rfl,hkY,HcY,hYg,hYl,hb12⟩
   simp only[Act.put,Y_a,Y_b,Y_c]
   have hE2:=hE1.low hb12
   have hk2:=hk1.low hb12
   have hh1:=Zlm hk2.holds (by simp) (Nat.le_of_lt hi1) ⟨o,rfl⟩
   have hh3:=Zlk hk2.holds (by simp) (by omega:i2+1≤X.length) ⟨o,rfl⟩
   rw[hsr] at hh3
   obtain⟨N2,hN2⟩:∃ n,i1+Y.length+(X.length-(i2+1))=n:=⟨_,rfl⟩
   have HY:Hid (512 * Y.length≤N1+512∧cat Y=L1++(P++L2)):=⟨hYl,HcY⟩
   have hN2b:N2≤1099511627776:=by have:=HY.out.1;omega
   have hjl:=Zmw _ _ _ i1 Y.length (X.length-(i2+1)) _ _ _ w2 hh1 hkY.holds hh3 (by show _=_;rw[List.length_take,List.length_map];omega) (by show _=_;rw[List.length_map]) (by show _=_;rw[List.length_drop,List.length_map]) (fun u hu=>ZcP X u (List.mem_of_mem_take hu)) (ZcP Y) (fun u hu=>ZcP X u (List.mem_of_mem_drop hu)) N2 hN2 hN2b
   have hjl2:Calls Tryz.prog 117 (#[.slice (some ⟨o,0,none⟩) i1 c,.slice (some ⟨yo,0,none⟩) Y.length yc,.slice sr (X.length-(i2+1)) (c-(i2+1))]++#[]) w2 fun e w'=>∃ v,e=.returned v∧True∧(v=.slice (some ⟨w2.heap.size,0,none⟩) N2 N2∧w'.heap[w2.heap.size]?=some (.cells ((X.map Bck.v).take i1++(Y.map Bck.v++(X.map Bck.v).drop (i2+1))).toArray 23 (0,0))∧Below w2.heap.size w2 w'):=hjl.mono fun e w' h=>⟨_,h.1,trivial,rfl,h.2.1,h.2.2⟩
   clear hjl hh1 hh3
   refine Y_e 16 61 _ rfl 117 (.func 117) #[.tmp 51,.tmp 53,.tmp 60] #[72,72,72] (by kernel_rfl) #[] (by kernel_rfl) #[.slice (some ⟨o,0,none⟩) i1 c,.slice (some ⟨yo,0,none⟩) Y.length yc,.slice sr (X.length-(i2+1)) (c-(i2+1))] (by kernel_rfl) (enters_of Tryz.func117 (by kernel_rfl) rfl) _ hjl2 ?_
   rintro _ w3 _ ⟨rfl,hh3,hb23⟩
   simp only[Act.put,Y_a,Y_b,Y_c]
   refine Y_t 17 62 _ (.pointer (some ⟨g,2,none⟩)) rfl (Or.inl ⟨by kernel_rfl,fun u _=>by kernel_rfl⟩) trivial ?_
   simp only[Act.put,Y_a,Y_b,Y_c]
   refine Y_t 18 63 _ (.pointer (some ⟨g,2,none⟩)) rfl (Or.inl ⟨by kernel_rfl,fun u _=>by kernel_rfl⟩) trivial ?_
   simp only[Act.put,Y_a,Y_b,Y_c]
   have hE3:=hE2.low hb23
   obtain⟨hE4,hk4⟩:=ZuR hE2 hk2 hkY hYg hnG hio hi2 (Nat.le_trans hwN (Nat.le_trans hbw1.size hb12.size)) hN2 hh3 hb23
   have HL4:Hid (Bt g w (w3.setCell ⟨g,2,none⟩ (.slice (some ⟨w2.heap.size,0,none⟩) N2 N2))):=Bt.set (((Bt.of hbw1).trans (Bt.of hb12)).trans (Bt.of hb23)) 2 _
   refine Y_s 19 _ rfl (w3.setCell ⟨g,2,none⟩ (.slice (some ⟨w2.heap.size,0,none⟩) N2 N2)) (ZgO hE3.cells.2.2.1 (hE3.frozen 2) (.tmp 63) (.tmp 61) (by kernel_rfl) (by kernel_rfl) (by kernel_rfl)) trivial ?_
   refine wpAnyH_done (by kernel_rfl) ?_ _
   refine NoPanic.normal ?_
   generalize w3.setCell ⟨g,2,none⟩ (.slice (some ⟨w2.heap.size,0,none⟩) N2 N2)=w4 at hE4 hk4 HL4 ⊢
   have HK4:Hid (Eb w4 g vs (.slice (some ⟨w2.heap.size,0,none⟩) N2 N2) p (cat X).length cur en∧Bks w4 N (.slice (some ⟨w2.heap.size,0,none⟩) N2 N2) (X.take i1++(Y++X.drop (i2+1)))):=⟨hE4,hk4⟩
   obtain⟨_,_,z2,z3,_,_⟩:=hE4.cells
   have zf3:=hE4.frozen 3
   have HCAT:Hid (cat (X.take i1++(Y++X.drop (i2+1)))=putE (cat X) a b P):=(by
    show _=_
    unfold putE
    rw[Zdy,Zdy,HY.out.2,H1.out,H2.out]
    simp)
   have HLEN:Hid (((cat X).length:Int)+((P.length:Int)-((b:Int)-(a:Int)))=((putE (cat X) a b P).length:Int)):=(by
    show _=_
    unfold putE
    simp only[List.length_append,List.length_take,List.length_drop]
    omega)
   have HB512:Hid (512 * (X.take i1++(Y++X.drop (i2+1))).length≤512 * X.length+(cat X).length+P.length):=(by
    show _≤_
    have h1:=HY.out.1
    have h2:=HNX.out
    have h3:=HMX.out
    have h4:=congrArg List.length HCAT.out
    have h5:=HLEN.out
    have h6:N1≤(cat X).length+P.length:=(by
     have h7:=congrArg List.length HY.out.2
     have h8:=congrArg List.length H1.out
     have h9:=congrArg List.length H2.out
     simp only[List.length_append,List.length_take,List.length_drop] at h8 h9
     omega)
    simp only[List.length_append,List.length_take,List.length_drop]
    omega)
   clear hE4 hk4 hh3 hb23 hE3 hE2 hk2 hkY hb12 hYg hYl hjl2
   obtain⟨tl,htl⟩:∃ tl,(cat X).length=tl:=⟨_,rfl⟩
   rw[htl] at z3 HLEN hT hb
   have HTL:Hid ((cat X).length=tl):=htl
   clear htl
   go_wp2
   first
    | go_end0
    | refine bodyPost_ret (results_none rfl _ _ _) rfl ?_
    | refine bodyPost_end (results_none rfl _ _ _) rfl ?_
   refine⟨rfl,_,_,?_,HK4.out.1.bks HK4.out.2 3 _,HCAT.out,HB512.out,HL4.out.set 3 _⟩
   rw[HCAT.out,← HLEN.out]
   exact HK4.out.1.setC _
  ·simp only[Act.put,Y_a,Y_b,Y_c]
   refine Y_t 6 51 _ (.slice (some ⟨o,0,none⟩) i1 c) rfl (Or.inl ⟨by kernel_rfl,fun u _=>ZgM (hsL u) ⟨_,_,_,rfl⟩ (.tmp 49) (.tmp 50) (by kernel_rfl) (by kernel_rfl) (by kernel_rfl)⟩) trivial ?_
   simp only[Act.put,Y_a,Y_b,Y_c]
   refine Y_e 8 53 _ rfl 48 (.func 48) #[.tmp 52] #[23] (by kernel_rfl) #[] (by kernel_rfl) #[.slice (some ⟨w.heap.size,0,none⟩) N1 N1] (by kernel_rfl) (enters_of Tryz.func48 (by kernel_rfl) rfl) _ hcu2 ?_
   rintro _ w2 _ ⟨Y,yo,yc,rfl,hkY,HcY,hYg,hYl,hb12⟩
   simp only[Act.put,Y_a,Y_b,Y_c]
   have hE2:=hE1.low hb12
   have hk2:=hk1.low hb12
   have hh1:=Zlm hk2.holds (by simp) (Nat.le_of_lt hi1) ⟨o,rfl⟩
   have hh3:=Zlk hk2.holds (by simp) (by omega:i2+1≤X.length) ⟨o,rfl⟩
   rw[hsr] at hh3
   obtain⟨N2,hN2⟩:∃ n,i1+Y.length+(X.length-(i2+1))=n:=⟨_,rfl⟩
   have HY:Hid (512 * Y.length≤N1+512∧cat Y=L1++(P++L2)):=⟨hYl,HcY⟩
   have hN2b:N2≤1099511627776:=by have:=HY.out.1;omega
   have hjl:=Zmw _ _ _ i1 Y.length (X.length-(i2+1)) _ _ _ w2 hh1 hkY.holds hh3 (by show _=_;rw[List.length_take,List.length_map];omega) (by show _=_;rw[List.length_map]) (by show _=_;rw[List.length_drop,List.length_map]) (fun u hu=>ZcP X u (List.mem_of_mem_take hu)) (ZcP Y) (fun u hu=>ZcP X u (List.mem_of_mem_drop hu)) N2 hN2 hN2b
   have hjl2:Calls Tryz.prog 117 (#[.slice (some ⟨o,0,none⟩) i1 c,.slice (some ⟨yo,0,none⟩) Y.length yc,.slice sr (X.length-(i2+1)) (c-(i2+1))]++#[]) w2 fun e w'=>∃ v,e=.returned v∧True∧(v=.slice (some ⟨w2.heap.size,0,none⟩) N2 N2∧w'.heap[w2.heap.size]?=some (.cells ((X.map Bck.v).take i1++(Y.map Bck.v++(X.map Bck.v).drop (i2+1))).toArray 23 (0,0))∧Below w2.heap.size w2 w'):=hjl.mono fun e w' h=>⟨_,h.1,trivial,rfl,h.2.1,h.2.2⟩
   clear hjl hh1 hh3
   refine Y_e 16 61 _ rfl 117 (.func 117) #[.tmp 51,.tmp 53,.tmp 60] #[72,72,72] (by kernel_rfl) #[] (by kernel_rfl) #[.slice (some ⟨o,0,none⟩) i1 c,.slice (some ⟨yo,0,none⟩) Y.length yc,.slice sr (X.length-(i2+1)) (c-(i2+1))] (by kernel_rfl) (enters_of Tryz.func117 (by kernel_rfl) rfl) _ hjl2 ?_
   rintro _ w3 _ ⟨rfl,hh3,hb23⟩
   simp only[Act.put,Y_a,Y_b,Y_c]
   refine Y_t 17 62 _ (.pointer (some ⟨g,2,none⟩)) rfl (Or.inl ⟨by kernel_rfl,fun u _=>by kernel_rfl⟩) trivial ?_
   simp only[Act.put,Y_a,Y_b,Y_c]
   refine Y_t 18 63 _ (.pointer (some ⟨g,2,none⟩)) rfl (Or.inl ⟨by kernel_rfl,fun u _=>by kernel_rfl⟩) trivial ?_
   simp only[Act.put,Y_a,Y_b,Y_c]
   have hE3:=hE2.low hb23
   obtain⟨hE4,hk4⟩:=ZuR hE2 hk2 hkY hYg hnG hio hi2 (Nat.le_trans hwN (Nat.le_trans hbw1.size hb12.size)) hN2 hh3 hb23
   have HL4:Hid (Bt g w (w3.setCell ⟨g,2,none⟩ (.slice (some ⟨w2.heap.size,0,none⟩) N2 N2))):=Bt.set (((Bt.of hbw1).trans (Bt.of hb12)).trans (Bt.of hb23)) 2 _
   refine Y_s 19 _ rfl (w3.setCell ⟨g,2,none⟩ (.slice (some ⟨w2.heap.size,0,none⟩) N2 N2)) (ZgO hE3.cells.2.2.1 (hE3.frozen 2) (.tmp 63) (.tmp 61) (by kernel_rfl) (by kernel_rfl) (by kernel_rfl)) trivial ?_
   refine wpAnyH_done (by kernel_rfl) ?_ _
   refine NoPanic.normal ?_
   generalize w3.setCell ⟨g,2,none⟩ (.slice (some ⟨w2.heap.size,0,none⟩) N2 N2)=w4 at hE4 hk4 HL4 ⊢
   have HK4:Hid (Eb w4 g vs (.slice (some ⟨w2.heap.size,0,none⟩) N2 N2) p (cat X).length cur en∧Bks w4 N (.slice (some ⟨w2.heap.size,0,none⟩) N2 N2) (X.take i1++(Y++X.drop (i2+1)))):=⟨hE4,hk4⟩
   obtain⟨_,_,z2,z3,_,_⟩:=hE4.cells
   have zf3:=hE4.frozen 3
   have HCAT:Hid (cat (X.take i1++(Y++X.drop (i2+1)))=putE (cat X) a b P):=(by
    show _=_
    unfold putE
    rw[Zdy,Zdy,HY.out.2,H1.out,H2.out]
    simp)
   have HLEN:Hid (((cat X).length:Int)+((P.length:Int)-((b:Int)-(a:Int)))=((putE (cat X) a b P).length:Int)):=(by
    show _=_
    unfold putE
    simp only[List.length_append,List.length_take,List.length_drop]
    omega)
   have HB512:Hid (512 * (X.take i1++(Y++X.drop (i2+1))).length≤512 * X.length+(cat X).length+P.length):=(by
    show _≤_
    have h1:=HY.out.1
    have h2:=HNX.out
    have h3:=HMX.out
    have h4:=congrArg List.length HCAT.out
    have h5:=HLEN.out
    have h6:N1≤(cat X).length+P.length:=(by
     have h7:=congrArg List.length HY.out.2
     have h8:=congrArg List.length H1.out
     have h9:=congrArg List.length H2.out
     simp only[List.length_append,List.length_take,List.length_drop] at h8 h9
     omega)
    simp only[List.length_append,List.length_take,List.length_drop]
    omega)
   clear hE4 hk4 hh3 hb23 hE3 hE2 hk2 hkY hb12 hYg hYl hjl2
   obtain⟨tl,htl⟩:∃ tl,(cat X).length=tl:=⟨_,rfl⟩
   rw[htl] at z3 HLEN hT hb
   have HTL:Hid ((cat X).length=tl):=htl
   clear htl
   go_wp2
   first
    | go_end0
    | refine bodyPost_ret (results_none rfl _ _ _) rfl ?_
    | refine bodyPost_end (results_none rfl _ _ _) rfl ?_
   refine⟨rfl,_,_,?_,HK4.out.1.bks HK4.out.2 3 _,HCAT.out,HB512.out,HL4.out.set 3 _⟩
   rw[HCAT.out,← HLEN.out]
   exact HK4.out.1.setC _
end

end Go.Proofs.YtkiaenncemfkcaaGreatDoor
