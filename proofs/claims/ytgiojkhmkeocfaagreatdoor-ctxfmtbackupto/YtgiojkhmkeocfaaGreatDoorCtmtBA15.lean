/-
  Texts that belong together, joined: CpD, CpE, CwA, CwB, CwE, CwF, CpF.
-/
import Derived.Test.YtgiojkhmkeocfaaGreatDoorCtmtBA14
import Derived.Test.YtgiojkhmkeocfaaGreatDoorCtmtBA5
import Derived.Test.YtgiojkhmkeocfaaGreatDoorCtmtBA1
import Derived.Lib.FrozenHead2
import Derived.Test.YtgiojkhmkeocfaaGreatDoorProg
import Derived.Test.YtgiojkhmkeocfaaGreatDoorCtmtBA13
import Derived.Shelf.Strings.Builder1
import Derived.WalkKit
import Derived.WalkSpells
import Derived.WalkLawsBesides
import Derived.BigQuiet
import Derived.Test.YtgiojkhmkeocfaaGreatDoorCtmtBA12
import Derived.Laws.StructEq

set_option maxHeartbeats 16000000
set_option maxRecDepth 100000
namespace Go.Proofs.YtgiojkhmkeocfaaGreatDoor

section
open Go.RowKit
structure Mrow (w:World) (g n cap:Nat) (r:List Mk):Prop where
 ex:∃ cur:Array Value,w.heap[g]?=some (.cells cur 103 (0,0))∧cur.size=cap * 2∧cur.toList.take (n * 2)=mkcells r
 le:n≤cap
 len:r.length=n
theorem mkcells_set (r:List Mk):∀ (i:Nat) (m:Mk),i<r.length→((mkcells r).set (i * 2) (.int .u8 m.sg)).set (i * 2+1) (.string ⟨m.tx.toArray⟩)=mkcells (r.set i m):=by
 induction r with
 | nil=>intro i m h;simp at h
 | cons x r ih =>
  intro i m h
  have e1:mkcells (x::r)=.int .u8 x.sg::.string ⟨x.tx.toArray⟩::mkcells r:=rfl
  cases i with
  | zero=>rw[e1];rfl
  | succ i =>
   have e2:(i+1) * 2=i * 2+1+1:=by omega
   have e3:mkcells ((x::r).set (i+1) m)=.int .u8 x.sg::.string ⟨x.tx.toArray⟩::mkcells (r.set i m):=rfl
   rw[e1,e2,e3]
   simp only[List.set_cons_succ]
   rw[ih i m (by simpa using h)]
section
variable {w u:World} {g n cap:Nat} {r:List Mk}
theorem Mrow.low (h:Mrow w g n cap r) (hb:Below w.heap.size w u):Mrow u g n cap r:=by
 obtain⟨⟨cur,h1,h2,h3⟩,hl,hn⟩:=h
 exact⟨⟨cur,(hb.block g (Array.getElem?_eq_some_iff.1 h1).1).trans h1,h2,h3⟩,hl,hn⟩
theorem Mrow.lt (h:Mrow w g n cap r):g<w.heap.size:=by
 obtain⟨⟨cur,h1,_⟩,_⟩:=h
 exact (Array.getElem?_eq_some_iff.1 h1).1
theorem Mrow.holds (h:Mrow w g n cap r) (k:Nat) (hk:k≤n):HMk w (.slice (some ⟨g,0,none⟩) k cap) (r.take k):=by
 obtain⟨⟨cur,h1,h2,h3⟩,hl,hn⟩:=h
 have hlk:(r.take k).length=k:=by rw[List.length_take];omega
 unfold HMk
 rw[hlk]
 refine .inr ⟨⟨g,0,none⟩,cap,rfl,by omega,fun j v hj=>?_⟩
 rw[← mkcells_take,← h3,List.take_take] at hj
 have hjl:j<k * 2:=by
  have:=(List.getElem?_eq_some_iff.1 hj).1
  rw[List.length_take] at this
  omega
 rw[List.getElem?_take_of_lt (by omega)] at hj
 rw[add_none,Nat.zero_add,Lib.cell_of_heap h1]
 simpa using hj
theorem Mrow.store (h:Mrow w g n cap r) (i:Nat) (hi:i<n) (m:Mk):Mrow ((w.setCell ⟨g,i * 2,none⟩ (.int .u8 m.sg)).setCell ⟨g,i * 2+1,none⟩ (.string ⟨m.tx.toArray⟩)) g n cap (r.set i m):=by
 obtain⟨⟨cur,h1,h2,h3⟩,hl,hn⟩:=h
 have s1:=heap_setCell_same w g (i * 2) cur _ (.int .u8 m.sg) h1
 have s2:=heap_setCell_same _ g (i * 2+1) _ _ (.string ⟨m.tx.toArray⟩) s1
 refine⟨⟨_,s2,by simpa using h2,?_⟩,hl,by simpa using hn⟩
 have e1:((cur.setIfInBounds (i * 2) (.int .u8 m.sg)).setIfInBounds (i * 2+1) (.string ⟨m.tx.toArray⟩)).toList=(cur.toList.set (i * 2) (.int .u8 m.sg)).set (i * 2+1) (.string ⟨m.tx.toArray⟩):=by simp
 rw[e1,List.take_set,List.take_set,h3,mkcells_set r i m (by omega)]
theorem Mrow.cells (h:Mrow w g n cap r) (i:Nat) (hi:i<n):∃ x y,w.cell? ⟨g,i * 2,none⟩=some (.int .u8 x)∧w.cell? ⟨g,i * 2+1,none⟩=some (.string y):=by
 have hh:=h.holds n (Nat.le_refl _)
 have hl:=h.len
 obtain⟨b,off,he,hb,hcl⟩:=HMk.at hh (by rw[List.length_take];omega)
 cases he
 have hc:=hcl i (by rw[List.length_take];omega)
 rw[Nat.zero_add] at hc
 exact⟨_,_,hc.1,hc.2⟩
theorem Mrow.frozen (h:Mrow w g n cap r) (j:Nat):w.frozen? ⟨g,j,none⟩=false:=by
 obtain⟨⟨cur,h1,_⟩,_⟩:=h
 exact Lib.frozen_of_heap h1 j
end
theorem mrow_of {w:World} {B n:Nat} {v:Value} {l:List Mk} (h:w.ownsRow B 103 2 v n (mkcells l)) (h0:0<n):∃ g cap,v=.slice (some ⟨g,0,none⟩) n cap∧B≤g∧Mrow w g n cap l:=by
 have hl:=h.1
 rw[mkcells_length] at hl
 rcases h.2 with ⟨_,h1⟩ | ⟨g,cap,cur,rfl,q2,q3,q4,q5,q6,q7⟩
 ·omega
 ·exact⟨g,cap,rfl,q2,⟨cur,q3,q6,q7⟩,q4,by omega⟩
theorem run_clear_mk (w:World) (ty:TypeId) (g o n c:Nat) (cur:List Value) (hg:w.heap[g]?=some (.cells cur.toArray 103 (0,0))) (hfit:o+n * 2≤cur.length) :
  ∃ u,(Builtin.clear_ #[57] ty #[.slice (some ⟨g,o,none⟩) n c]).run Tryz.prog w=.ok (.tuple #[]) u∧w.grownBy u (some g)∧∃ cur':List Value,u.heap[g]?=some (.cells cur'.toArray 103 (0,0))∧cur'.length=cur.length∧cur'.take o=cur.take o:=by
 have hT:=Tryz.underlying57
 cases n with
 | zero=>exact⟨w,by simp[Builtin.clear_,run_underlying hT],World.grownBy.refl _ _,cur,hg,rfl,rfl⟩
 | succ n =>
  obtain⟨zs,hzs⟩:∃ zs:List Value,(Builtin.zeroCells (Value.agg #[.int .u8 0,.string ⟨#[]⟩]).cells (n+1)).toList=zs:=⟨_,rfl⟩
  have hzl:zs.length=(n+1) * 2:=by rw[← hzs];simp[Builtin.zeroCells,Value.cells]
  have hz1:∀ v∈zs,v.oneCell'=true:=by
   intro v hv
   rw[← hzs] at hv
   simp[Builtin.zeroCells,Value.cells] at hv
   obtain⟨k,hk,rfl⟩:=hv
   have:k % 2=0∨k % 2=1:=by omega
   rcases this with h | h<;>simp[h]<;>rfl
  have hst:=run_storeCells_at Tryz.prog g o _ zs 0 cur.toArray w hg (by simp;omega) hz1
  have hzv:(zeroValue 103).run Tryz.prog w=.ok (.agg #[.int .u8 0,.string ⟨#[]⟩]) w:=by
   obtain⟨i0,hi,hz0,_,_⟩:=info_parts infoMk
   simp[zeroValue,typeInfo,hi,hz0]
  refine⟨w.setRow g (spl cur o zs).toArray,?_,setRow_grown _ _ _,_,setRow_heap w g _ _ _ _ hg,spl_length (by omega),?_⟩
  ·simp[Builtin.clear_,run_underlying hT,hzv,hzs,hst,spl]
  ·unfold spl
   rw[List.append_assoc,List.take_left' (by simp;omega)]
theorem idxI_first (p:Mk→Bool) (l:List Mk):∀ k,(idxI p k l=-1∧∀ m∈l,p m=false)∨∃ i,∃ h:i<l.length,idxI p k l=((k+i:Nat):Int)∧p l[i]=true∧∀ m∈l.take i,p m=false:=by
 induction l with
 | nil=>intro k;exact .inl ⟨rfl,fun m hm=>by cases hm⟩
 | cons x l ih =>
  intro k
  by_cases h:p x=true
  ·refine .inr ⟨0,by simp,?_,by simpa using h,by simp⟩
   have e:idxI p k (x::l)=(k:Int):=if_pos h
   rw[e];simp
  ·have e:idxI p k (x::l)=idxI p (k+1) l:=if_neg h
   rcases ih (k+1) with ⟨h1,h2⟩ | ⟨i,hi,h1,h2,h3⟩
   ·refine .inl ⟨e.trans h1,fun m hm=>?_⟩
    rcases List.mem_cons.1 hm with rfl | hm
    ·exact Bool.eq_false_iff.2 h
    ·exact h2 m hm
   ·refine .inr ⟨i+1,by simpa using hi,?_,by simpa using h2,fun m hm=>?_⟩
    ·rw[e,h1];congr 1;omega
    ·rw[List.take_succ_cons] at hm
     rcases List.mem_cons.1 hm with rfl | hm
     ·exact Bool.eq_false_iff.2 h
     ·exact h3 m hm
theorem kept_all {l:List Mk} (h:∀ m∈l,(m.sg != 32)=false):keptM l=l:=by
 unfold keptM
 rw[List.filter_eq_self]
 intro m hm
 have:=h m hm
 simpa using this
theorem kept_snoc (l:List Mk) (j:Nat) (hj:j<l.length):keptM (l.take (j+1))=keptM (l.take j)++(if l[j].sg=32 then [l[j]] else []):=by
 rw[List.take_succ_eq_append_getElem hj]
 unfold keptM
 rw[List.filter_append]
 congr 1
 by_cases h:l[j].sg=32
 ·rw[if_pos h];simp[h]
 ·rw[if_neg h];simp[h]
theorem ckept1_f (m:Mk) (w:World):Calls Tryz.prog 211 #[.agg #[.int .u8 m.sg,.string ⟨m.tx.toArray⟩]] w fun e w'=>e=.returned (.bool (m.sg != 32))∧Below w.heap.size w w':=by
 have hBl:Below w.heap.size w (w.alloc (.cells #[.int .u8 m.sg,.string ⟨m.tx.toArray⟩] 103)):=(Below.refl _ w).alloc (Nat.le_refl _) _
 have hc:=cisKept_f m (w.alloc (.cells #[.int .u8 m.sg,.string ⟨m.tx.toArray⟩] 103))
 go_enter Tryz.func211,Tryz.ntmps211
 go_wp2_with fail
 refine hc.mono ?_
 rintro e w1 ⟨rfl,hB⟩
 go_wp2
 go_ret
 exact⟨rfl,hBl.trans (hB.mono hBl.size)⟩
theorem cdelete_f (l:List Mk) (g n cap:Nat) (w:World) (hr:Mrow w g n cap l) (hn:n≤1099511627776) :
  Calls Tryz.prog 209 #[.slice (some ⟨g,0,none⟩) n cap,.func (.func 211) #[] #[]] w fun e w'=>∃ k,e=.returned (.slice (some ⟨g,0,none⟩) k cap)∧HMk w' (.slice (some ⟨g,0,none⟩) k cap) (keptM l)∧k=(keptM l).length∧w.grownBy w' (some g):=by
 have hln:=hr.len
 have hcap:=hr.le
 have hv:HMk w (.slice (some ⟨g,0,none⟩) n cap) l:=(by
  have h:=hr.holds n (Nat.le_refl _)
  rw[List.take_of_length_le (by omega)] at h
  exact h)
 have hix:=fun z HZ=>cIdx_f 211 #[] l (fun m=>m.sg != 32) (.slice (some ⟨g,0,none⟩) n cap) w hv (by omega) (enters_of Tryz.func211 (by kernel_rfl) rfl) (fun m _ u _=>ckept1_f m u) z HZ
 rcases idxI_first (fun m=>m.sg != 32) l 0 with ⟨h1,h2⟩ | ⟨i0,hi0,h1,h2,h3⟩
 ·have hk:keptM l=l:=kept_all h2
  have hc:=hix (-1) h1
  have HH:Hid (∀ u,Below w.heap.size w u→HMk u (.slice (some ⟨g,0,none⟩) n cap) (keptM l)∧n=(keptM l).length):=(by
   intro u hu
   rw[hk]
   exact⟨hv.keep hu (Nat.le_refl _),hln.symm⟩)
  clear hix h1 h2 hk hv hr
  go_enter Tryz.func209,Tryz.ntmps209
  go_wp2_with fail
  refine hc.mono ?_
  rintro e w1 ⟨rfl,hB⟩
  go_wp2
  go_ret
  exact⟨n,rfl,(HH.out w1 hB).1,(HH.out w1 hB).2,low_grown hB _⟩
 ·have hc:=hix (i0:Int) (by show _=_;rw[h1];simp)
  have HI0:Hid (l.take i0=keptM (l.take (i0+1))∧l.drop (i0+1)=l.drop (i0+1)):=⟨by
   have h4:¬ l[i0].sg=32:=by simpa using h2
   rw[kept_snoc l i0 hi0,if_neg h4,List.append_nil,kept_all h3],rfl⟩
  have j0:((i0:Int) == -1)=false:=beq_eq_false_iff_ne.2 (by omega)
  clear hix h1 h2 h3 hv
  go_enter Tryz.func209,Tryz.ntmps209
  go_wp2_with fail
  refine hc.mono ?_
  rintro e w1 ⟨rfl,hB⟩
  have hr1:=hr.low hB
  have hg1:=low_grown hB (some g)
  clear hc hr hB
  go_wp2
  go_loopw [5,6] (fun iv jv wr=>∃ (i j:Nat) (r:List Mk),i<j∧j≤n∧iv=.int .i64 i∧jv=.int .i64 j∧Mrow wr g n cap r∧w.grownBy wr (some g)∧Hid (r.take i=keptM (l.take j)∧r.drop j=l.drop j)) (fun _ jv _=>n-(intOf jv).toNat)
  case atStart=>exact⟨i0,i0+1,l,by omega,by omega,rfl,by go_num,hr1,hg1,⟨HI0.out.1,rfl⟩⟩
  case round =>
  clear HI0 hr1 hg1
  obtain⟨i,j,r,hij,hj,rfl,rfl,hr,hg,HI⟩:=hrel
  by_cases hlt:j<n
  ·have hh:=hr.holds n (Nat.le_refl _)
   obtain⟨b,off,he,hb,hcl⟩:=HMk.at hh (by rw[List.length_take];have:=hr.len;omega)
   have he2:b=g∧off=0:=(by cases he;exact⟨rfl,rfl⟩)
   obtain⟨rfl,rfl⟩:=he2
   have hrl:=hr.len
   have hcj:=hcl j (by rw[List.length_take];omega)
   have hrj:(r.take n)[j]'(by rw[List.length_take];omega)=l[j]'(by omega):=(by
    have h:=congrArg (fun x=>x[0]?) HI.out.2
    simp only[List.getElem?_drop,Nat.add_zero] at h
    rw[List.getElem?_eq_getElem (by omega),List.getElem?_eq_getElem (by omega),Option.some.injEq] at h
    rw[List.getElem_take,h])
   rw[hrj] at hcj
   obtain⟨c0,c1⟩:=hcj
   rw[Nat.zero_add] at c0 c1
   have HK:=kept_snoc l j (by omega)
   obtain⟨m,hm⟩:∃ m,l[j]'(by omega)=m:=⟨_,rfl⟩
   rw[hm] at c0 c1 HK
   have i1:(0:Int)≤(j:Int):=by omega
   have i2:(j:Int)<(n:Int):=by omega
   have i3:(0:Int)≤(i:Int):=by omega
   have i4:(i:Int)<(n:Int):=by omega
   have hBm:Below wr.heap.size wr (wr.alloc (.cells #[.int .u8 m.sg,.string ⟨m.tx.toArray⟩] 103)):=(Below.refl _ wr).alloc (Nat.le_refl _) _
   have hkc:=ckept1_f m (wr.alloc (.cells #[.int .u8 m.sg,.string ⟨m.tx.toArray⟩] 103))
   have hMb:(wr.alloc (.cells #[.int .u8 m.sg,.string ⟨m.tx.toArray⟩] 103)).heap[wr.heap.size]?=some (.cells #[.int .u8 m.sg,.string ⟨m.tx.toArray⟩] 103):=heap_alloc_new wr _
   have hMl:wr.heap.size<(wr.alloc (.cells #[.int .u8 m.sg,.string ⟨m.tx.toArray⟩] 103)).heap.size:=by simp
   clear hcl hrj hh he hb
   by_cases hs:m.sg=32
   ·have e1:(m.sg != 32)=false:=by simp[hs]
    rw[e1] at hkc
    rw[if_pos hs] at HK
    have HI2:Hid ((r.set i m).take (i+1)=keptM (l.take (j+1))∧(r.set i m).drop (j+1)=l.drop (j+1)):=(by
     constructor
     ·rw[HK,← HI.out.1,List.take_succ_eq_append_getElem (by simp;omega),List.take_set,List.set_eq_of_length_le (by rw[List.length_take];omega)]
      simp
     ·rw[List.drop_set_of_lt (by omega)]
      have h:=congrArg List.tail HI.out.2
      simpa using h)
    clear HI HK hs e1 hm
    go_upto_region 8 with fail
    go_wp2_with fail
    refine hkc.mono ?_
    rintro e w2 ⟨rfl,hB2⟩
    have hm2:=(hB2.block _ hMl).trans hMb
    have m0:w2.cell? ⟨wr.heap.size,0,none⟩=some (.int .u8 m.sg):=(by rw[Lib.cell_of_heap hm2];rfl)
    have m1:w2.cell? ⟨wr.heap.size,1,none⟩=some (.string ⟨m.tx.toArray⟩):=(by rw[Lib.cell_of_heap hm2];rfl)
    have hr2:=(hr.low hBm).low hB2
    have hg2:=grown_two (grown_two hg (low_grown hBm (some b))) (low_grown hB2 (some b))
    obtain⟨x0,y0,t0,t1⟩:=hr2.cells i (by omega)
    have f0:=hr2.frozen (i * 2)
    have f1:=hr2.frozen (i * 2+1)
    have hr3:=hr2.store i (by omega) m
    have hg3:=grown_two (grown_two hg2 (grown_set w2 b (i * 2) (.int .u8 m.sg))) (grown_set _ b (i * 2+1) (.string ⟨m.tx.toArray⟩))
    clear c0 c1 hkc hMb hMl hm2 hr hg hr2 hg2 hB2 hBm
    go_wp2
    exact⟨⟨i+1,j+1,_,by omega,by omega,by go_num,by go_num,hr3,hg3,HI2⟩,by simp[intOf];omega⟩
   ·have e1:(m.sg != 32)=true:=by simp[hs]
    rw[e1] at hkc
    rw[if_neg hs,List.append_nil] at HK
    have HI2:Hid (r.take i=keptM (l.take (j+1))∧r.drop (j+1)=l.drop (j+1)):=⟨HI.out.1.trans HK.symm,by
     have h:=congrArg List.tail HI.out.2
     simpa using h⟩
    have hr2:=hr.low hBm
    have hg2:=grown_two hg (low_grown hBm (some b))
    clear HI HK hs e1 hm hMb hMl hr hg hBm
    go_wp2_with fail
    refine hkc.mono ?_
    rintro e w2 ⟨rfl,hB2⟩
    have hr3:=hr2.low hB2
    have hg3:=grown_two hg2 (low_grown hB2 (some b))
    clear c0 c1 hkc hr2 hg2 hB2
    go_wp2
    exact⟨⟨i,j+1,r,by omega,by omega,rfl,by go_num,hr3,hg3,HI2⟩,by simp[intOf];omega⟩
  ·have hend:¬ (j:Int)<(n:Int):=by omega
   have hjn:j=n:=by omega
   subst hjn
   have hi1:i≤j:=by omega
   have HK:Hid (r.take i=keptM l∧i=(keptM l).length):=(by
    have h:=HI.out.1
    rw[List.take_of_length_le (show l.length≤j by omega)] at h
    refine⟨h,?_⟩
    rw[← h,List.length_take]
    have:=hr.len
    omega)
   have hs1:=run_mF (some ⟨g,0,none⟩) j cap i hi1 hcap
   have hs2:=run_mT (some ⟨g,0,none⟩) j cap i hi1 hcap
   have hsf:mslF (some ⟨g,0,none⟩) cap i=some ⟨g,i * 2,none⟩:=(by
    unfold mslF
    rw[if_neg (by omega)]
    simp[add_none])
   rw[hsf] at hs1
   obtain⟨cur,q1,q2,q3⟩:=hr.ex
   obtain⟨u,hcr,hcg,cur',k1,k2,k3⟩:=run_clear_mk wr 0 g (i * 2) (j-i) (cap-i) cur.toList (by simpa using q1) (by simp;omega)
   have hHu:HMk u (.slice (some ⟨g,0,none⟩) i cap) (keptM l):=(by
    have hl2:(keptM l).length=i:=HK.out.2.symm
    unfold HMk
    rw[hl2]
    refine .inr ⟨⟨g,0,none⟩,cap,rfl,by omega,fun t v ht=>?_⟩
    have htl:t<i * 2:=(by
     have:=(List.getElem?_eq_some_iff.1 ht).1
     rw[mkcells_length,hl2] at this
     exact this)
    have h1:cur.toList.take (i * 2)=mkcells (keptM l):=(by
     rw[← HK.out.1,← mkcells_take,← q3,List.take_take]
     congr 1
     omega)
    rw[← h1,← k3,List.getElem?_take_of_lt htl] at ht
    rw[add_none,Nat.zero_add,Lib.cell_of_heap k1]
    simpa using ht)
   have hgu:=grown_two hg hcg
   clear HI hsf q1 q2 q3 k1 k2 k3 hr hg hcg
   go_wp2_with (first | (refine wpList_cl (o:=⟨none,_,_,_,_,none⟩) _ rfl (.tmp 38) 57 rfl _ rfl _ _ hcr ?_) | fail)
   go_wp2
   go_ret
   exact⟨i,rfl,hHu,HK.out.2,hgu⟩
end

section
open Go.RowKit
theorem mk_nilC (n c:Nat) (ao:Addr) (u:World):(binOp .eql 57 (.slice (some ao) n c) (.slice none 0 0)).run Tryz.prog u=.ok (.bool false) u:=by kernel_rfl
theorem mk_nil0 (u:World):(binOp .eql 57 (.slice none 0 0) (.slice none 0 0)).run Tryz.prog u=.ok (.bool true) u:=by kernel_rfl
theorem cclone_f (l:List Mk) (ao:Addr) (c:Nat) (w:World) (hv:HMk w (.slice (some ao) l.length c) l) (hl:l.length≤1099511627776) :
  Calls Tryz.prog 210 #[.slice (some ao) l.length c] w fun e w'=>∃ v',e=.returned v'∧w'.ownsRow w.heap.size 103 2 v' l.length (mkcells l)∧Below w.heap.size w w':=by
 have hBa:Below w.heap.size w (w.alloc (.cells #[] 103)):=(Below.refl _ w).alloc (Nat.le_refl _) _
 have hva:=hv.keep hBa (Nat.le_refl _)
 have hown:(w.alloc (.cells #[] 103)).ownsRow w.heap.size 103 2 (.slice (some ⟨w.heap.size,0,none⟩) 0 0) 0 []:=⟨rfl,.inr ⟨w.heap.size,0,#[],rfl,Nat.le_refl _,heap_alloc_new w _,Nat.le_refl _,by unfold maxLen;omega,rfl,rfl⟩⟩
 have hz:w.heap.size≤(w.alloc (.cells #[] 103)).heap.size:=by simp
 have hnn:=mk_nilC l.length c ao
 clear hv
 go_enter Tryz.func210,Tryz.ntmps210
 go_wp2_with (at_builtin;refine wpList_append_w _ (by kernel_rfl) (.tmp 5) (.tmp 6) 57 103 (.agg #[.int .u8 0,.string ⟨#[]⟩]) 2 24 rfl Tryz.underlying57 infoMk rfl (by decide) (by decide) w.heap.size _ _ _ rfl hown _ l.length (mkcells l) rfl hva (mkcells_length _) (mkcells_one _) (by omega) hz ?_)
 intro v3 u3 hown3 hg3 _
 have hB3:Below w.heap.size w u3:=hBa.grown hg3 hBa.size (fun j hj=>owns_ge hown hj)
 obtain⟨o3,c3,rfl⟩:=(holds_of hown3).form
 go_wp2
 go_ret
 exact⟨_,rfl,hown3,hB3⟩
structure Nl (w:World) (v:Value) (l:List Mk):Prop where
 hold:HMk w v l
 nil:l=[]→v=.slice none 0 0
theorem Nl.keep {w u:World} {v:Value} {l:List Mk} (h:Nl w v l) (hb:Below w.heap.size w u):Nl u v l:=⟨h.hold.keep hb (Nat.le_refl _),h.nil⟩
theorem ckept_f (l:List Mk) (v:Value) (w:World) (hv:Nl w v l) (hl:l.length≤1099511627776) (K:List Mk) (HK:Hid (keptM l=K)) :
  Calls Tryz.prog 152 #[v] w fun e w'=>∃ v',e=.returned v'∧HMk w' v' K∧(l=[]→v'=.slice none 0 0)∧Below w.heap.size w w':=by
 by_cases h0:l=[]
 ·obtain rfl:=hv.nil h0
  subst h0
  have hK:K=[]:=HK.out.symm
  subst hK
  have hcl:∀ u,Calls Tryz.prog 210 #[.slice none 0 0] u fun e w'=>e=.returned (.slice none 0 0)∧w'=u:=(by
   intro u
   have hnn:=mk_nil0
   go_enter Tryz.func210,Tryz.ntmps210
   go_wp2
   go_ret
   exact⟨rfl,rfl⟩)
  have hix:∀ u,Calls Tryz.prog 106 #[.slice none 0 0,.func (.func 211) #[] #[]] u fun e w'=>e=.returned (.int .i64 (-1))∧Below u.heap.size u w':=fun u=>cIdx_f 211 #[] [] (fun m=>m.sg != 32) (.slice none 0 0) u (.inl ⟨rfl,rfl,rfl⟩) (by simp) (enters_of Tryz.func211 (by kernel_rfl) rfl) (fun m _ u _=>ckept1_f m u) (-1) rfl
  have hdl:∀ u,Calls Tryz.prog 209 #[.slice none 0 0,.func (.func 211) #[] #[]] u fun e w'=>e=.returned (.slice none 0 0)∧Below u.heap.size u w':=(by
   intro u
   go_enter Tryz.func209,Tryz.ntmps209
   go_wp2_with fail
   refine (hix u).mono ?_
   rintro e w1 ⟨rfl,hB⟩
   go_wp2
   go_ret
   exact⟨rfl,hB⟩)
  go_enter Tryz.func152,Tryz.ntmps152
  go_wp2_with fail
  refine (hcl _).mono ?_
  rintro e w1 ⟨rfl,rfl⟩
  go_wp2_with fail
  refine (hdl _).mono ?_
  rintro e w2 ⟨rfl,hB⟩
  go_wp2
  go_ret
  exact⟨_,rfl,.inl ⟨rfl,rfl,rfl⟩,fun _=>rfl,hB⟩
 ·obtain⟨lo,lc,rfl⟩:=HMk.form hv.hold
  have hlp:0<l.length:=List.length_pos_iff.2 h0
  obtain⟨bk,off,rfl,_,_⟩:=HMk.at hv.hold hlp
  have hc:=cclone_f l ⟨bk,off,none⟩ lc w hv.hold hl
  have HN:Hid (l≠[]):=h0
  clear hv h0
  go_enter Tryz.func152,Tryz.ntmps152
  go_wp2_with fail
  refine hc.mono ?_
  rintro e w1 ⟨v',rfl,hown,hB1⟩
  obtain⟨g,cap,rfl,hg,hr⟩:=mrow_of hown hlp
  have hd:=cdelete_f l g l.length cap w1 hr hl
  clear hc hown
  go_wp2_with fail
  refine hd.mono ?_
  rintro e w2 ⟨k,rfl,hH,hk,hgr⟩
  clear hk
  go_wp2
  go_ret
  refine⟨_,rfl,by rw[← HK.out];exact hH,fun e=>absurd e HN.out,hB1.grown hgr hB1.size (fun j hj=>by cases hj;exact hg)⟩
theorem call1_f (k:Int) (X:Nat) (m:Mk) (w:World) (cX:w.cell? ⟨X,0,none⟩=some (.int .u8 k)) (hX:X<w.heap.size):Calls Tryz.prog 213 #[.agg #[.int .u8 m.sg,.string ⟨m.tx.toArray⟩],.pointer (some ⟨X,0,none⟩)] w fun e w'=>e=.returned (.bool (m.sg != k))∧Below w.heap.size w w':=by
 have hBl:Below w.heap.size w (w.alloc (.cells #[.int .u8 m.sg,.string ⟨m.tx.toArray⟩] 103)):=(Below.refl _ w).alloc (Nat.le_refl _) _
 have cX2:(w.alloc (.cells #[.int .u8 m.sg,.string ⟨m.tx.toArray⟩] 103)).cell? ⟨X,0,none⟩=some (.int .u8 k):=(World.cell?_of_block (w:=w) (hBl.block X hX)).trans cX
 go_enter Tryz.func213,Tryz.ntmps213
 go_wp2
 go_ret
 exact⟨rfl,hBl⟩
theorem all_any (k:Int) (l:List Mk):(l.any fun m=>m.sg != k)=!allM k l:=by
 unfold allM
 induction l with
 | nil=>rfl
 | cons m l ih =>
  rw[List.any_cons,List.all_cons,ih]
  cases h:m.sg == k<;>simp[bne,h]
theorem call_f (k:Int) (l:List Mk) (v:Value) (w:World) (hv:HMk w v l) (hl:l.length≤1099511627776) (r:Bool) (HR:Hid (allM k l=r)) :
  Calls Tryz.prog 153 #[v,.int .u8 k] w fun e w'=>e=.returned (.bool r)∧Below w.heap.size w w':=by
 have hBl:Below w.heap.size w (w.alloc (.cells #[.int .u8 k] 5)):=(Below.refl _ w).alloc (Nat.le_refl _) _
 have cX:(w.alloc (.cells #[.int .u8 k] 5)).cell? ⟨w.heap.size,0,none⟩=some (.int .u8 k):=(by rw[Lib.cell_of_heap (heap_alloc_new w _)];rfl)
 have hsz:(w.alloc (.cells #[.int .u8 k] 5)).heap.size=w.heap.size+1:=by simp
 have hv1:HMk (w.alloc (.cells #[.int .u8 k] 5)) v l:=hv.keep hBl (Nat.le_refl _)
 obtain⟨r2,hr2⟩:∃ b,(!r)=b:=⟨_,rfl⟩
 have HC:Hid (Calls Tryz.prog 60 #[v,.func (.func 213) #[] #[.pointer (some ⟨w.heap.size,0,none⟩)]] (w.alloc (.cells #[.int .u8 k] 5)) fun e w'=>e=.returned (.bool r2)∧Below w.heap.size w w'):=(by
  refine (cContains_f 213 #[.pointer (some ⟨w.heap.size,0,none⟩)] l (fun m=>m.sg != k) v _ hv1 hl (enters_of Tryz.func213 (by kernel_rfl) rfl) ?_ r2 (by show _=_;rw[all_any,HR.out,hr2])).mono ?_
  ·intro m _ u hu
   refine call1_f k w.heap.size m u ((World.cell?_of_block (hu.block w.heap.size (by rw[hsz];omega))).trans cX) (Nat.lt_of_lt_of_le (by rw[hsz];omega) hu.size)
  ·rintro e w' ⟨h1,h2⟩
   exact⟨h1,hBl.trans (h2.mono (by rw[hsz];omega))⟩)
 have HE:Hid ((!r2)=r):=(by show _=_;rw[← hr2,Bool.not_not])
 obtain⟨lo,lc,rfl⟩:=HMk.form hv
 clear cX hsz hv1 HR hBl hr2
 have hmf:∀ (fn:Fn) (first cap:Array Value) (w:World),(Instr.makeFunc fn first cap).run Tryz.prog w=.ok (.func fn first cap) w:=fun _ _ _ _=>rfl
 go_enter Tryz.func153,Tryz.ntmps153
 go_wp2_with fail
 refine HC.out.mono ?_
 rintro e w1 ⟨rfl,hB⟩
 go_wp2
 go_ret
 exact⟨by rw[← HE.out];rfl,hB⟩
theorem cmatched_f (a b:List Mk) (va vb:Value) (w:World) (ha:HMk w va a) (hb:HMk w vb b) (hla:a.length≤1099511627776) (hlb:b.length≤1099511627776) (r:Bool) (HR:Hid (mtM a b=r)) :
  Calls Tryz.prog 216 #[va,vb] w fun e w'=>e=.returned (.bool r)∧Below w.heap.size w w':=by
 have HRR:=HR.out
 unfold mtM at HRR
 obtain⟨ao,ac,rfl⟩:=HMk.form ha
 obtain⟨bo,bc,rfl⟩:=HMk.form hb
 by_cases h1:b=[]
 ·rw[if_pos h1] at HRR
  have e1:((b.length:Int) == 0)=true:=(by rw[h1];rfl)
  have hc:=call_f 45 a _ w ha hla r HRR
  clear HR HRR h1
  go_enter Tryz.func216,Tryz.ntmps216
  go_wp2_with fail
  refine hc.mono ?_
  rintro e w1 ⟨rfl,hB⟩
  go_wp2
  go_ret
  exact⟨rfl,hB⟩
 ·rw[if_neg h1] at HRR
  have e1:((b.length:Int) == 0)=false:=(by rw[beq_eq_false_iff_ne];intro e;exact h1 (List.eq_nil_of_length_eq_zero (by omega)))
  by_cases h2:a=[]
  ·rw[if_pos h2] at HRR
   have e2:((a.length:Int) == 0)=true:=(by rw[h2];rfl)
   have hc:=call_f 43 b _ w hb hlb r HRR
   clear HR HRR h1 h2
   go_enter Tryz.func216,Tryz.ntmps216
   go_wp2_with fail
   refine hc.mono ?_
   rintro e w1 ⟨rfl,hB⟩
   go_wp2
   go_ret
   exact⟨rfl,hB⟩
  ·rw[if_neg h2] at HRR
   have e2:((a.length:Int) == 0)=false:=(by rw[beq_eq_false_iff_ne];intro e;exact h2 (List.eq_nil_of_length_eq_zero (by omega)))
   cases h3:allM 33 a with
   | true =>
    rw[h3,Bool.true_and] at HRR
    have hc:=call_f 33 a _ w ha hla true h3
    have hd:=fun u hu=>call_f 33 b _ u (hb.keep hu (Nat.le_refl _)) hlb r HRR
    clear HR HRR h1 h2 h3
    go_enter Tryz.func216,Tryz.ntmps216
    go_wp2_with fail
    refine hc.mono ?_
    rintro e w1 ⟨rfl,hB⟩
    go_wp2_with fail
    refine (hd w1 hB).mono ?_
    rintro e w2 ⟨rfl,hB2⟩
    go_wp2
    go_ret
    exact⟨rfl,hB.trans (hB2.mono hB.size)⟩
   | false =>
    rw[h3,Bool.false_and] at HRR
    have HE:Hid (false=r):=HRR
    have hc:=call_f 33 a _ w ha hla false h3
    clear HR HRR h1 h2 h3
    go_enter Tryz.func216,Tryz.ntmps216
    go_wp2_with fail
    refine hc.mono ?_
    rintro e w1 ⟨rfl,hB⟩
    go_wp2
    go_ret
    exact⟨by rw[← HE.out];rfl,hB⟩
end

section
open Go.RowKit Go.Proofs.YtgiojkhmkeocfaaGreatDoor.Tx Go.Lib
section
variable {P:Program} (w:World)
theorem run_append_strX (base:Nat) (t u ty e:TypeId) (i:TypeInfo) (ht:P.underlying t=some (.slice e)) (hu:P.underlying u=some .string) (hi:P.info? e=some i) (hz:i.zero=some (.int .u8 0))
  (hsize:i.size=1) (hby:i.bytes=1)
  (v:Value) (n:Nat) (xs:List Value) (hown:w.ownsRowF base e 1 v n xs) (s:ByteArray)
  (h63:n+s.size≤maxLen) (hbytes:n+s.size≤140737488355328) (hbase:base≤w.heap.size) :
  ∃ v' w',(Builtin.append_ #[t,u] ty #[v,.string s]).run P w=.ok v' w'∧w'.ownsRowF base e 1 v' (n+s.size) (xs++strCells s)∧w.grownBy w' v.ownBlock ∧
   (v'.ownBlock=v.ownBlock∨∃ g,v'.ownBlock=some g∧w.heap.size≤g):=by
 rcases hown.2 with ⟨rfl,rfl⟩ | ⟨g,cap,cur,fz,rfl,hbg,hg,hfz,hnc,hcm,hcs,htake⟩
 ·obtain⟨v',w',r1,r2,r3,r4⟩:=run_append_own_string (P:=P) w w.heap.size t u ty e i ht hu hi hz hsize hby (.slice none 0 0) 0 xs ⟨hown.1,.inl ⟨rfl,rfl⟩⟩ s h63 hbytes (Nat.le_refl _)
  have r5:=World.ownsRowF_of r2
  refine⟨v',w',r1,⟨r5.1,?_⟩,r3,?_⟩
  ·rcases r5.2 with h | ⟨g,cap,cur,fz,q1,q2,q3⟩
   ·exact .inl h
   ·exact .inr ⟨g,cap,cur,fz,q1,by omega,q3⟩
  ·rcases r5.2 with ⟨h,_⟩ | ⟨g,cap,cur,fz,q1,q2,q3⟩
   ·exact .inl (by rw[h])
   ·exact .inr ⟨g,by rw[q1];rfl,q2⟩
 ·have hsmall:n+s.size≤9223372036854775807:=by simp only[maxLen] at h63;omega
  have hxl:xs.length=n:=by simpa using hown.1
  have hlen:(xs++strCells s).length=(n+s.size) * 1:=by rw[List.length_append,hxl,strCells_length,Nat.mul_one]
  by_cases hroom:n+s.size≤cap
  ·have hcs':cur.size=cap:=by simpa using hcs
   have hr:=run_append_room_stringF (P:=P) w t u ty e i ht hu hi hsize g n cap cur fz hg (by simpa using hfz) s hroom (by omega)
   refine⟨_,_,hr,⟨hlen,.inr ⟨g,cap,_,fz,rfl,hbg,setRow_heap w g cur _ e _ hg,by omega,hroom,hcm,?_,?_⟩⟩,⟨rfl,rfl,rfl,by simp,fun k _ hk=>setRow_other w g k _ (fun e=>hk (by simp[Value.ownBlock,e]))⟩,.inl rfl⟩
   ·simp only[List.size_toArray,List.length_append,List.length_take,List.length_drop,Array.length_toList,strCells_length]
    omega
   ·have ht':cur.toList.take n=xs:=by simpa using htake
    rw[ht',← hlen]
    exact List.take_left
  ·have holds:∀ j u,xs[j]?=some u→w.cell? ((⟨g,0,none⟩:Addr).add j)=some u:=hown.cells (g:=g) rfl
   have hr:=run_append_grow_string (P:=P) w t u ty e i (.int .u8 0) ht hu hi hz ⟨g,0,none⟩ n cap xs (by rw[hsize];simpa using hxl) holds s (by omega) (by omega) (by rw[hby];exact growslice_fits (by omega) (by omega))
   have hge:=grownCap_ge w (n+s.size) cap e
   have hcm2:grownCap w (n+s.size) cap e≤maxLen:=grownCap_le_maxLen w (n+s.size) cap e h63
   refine⟨_,_,hr,⟨hlen,.inr ⟨w.heap.size,_,_,(0,0),rfl,hbase,_root_.Go.heap_alloc_new w.drew _,Nat.zero_le _,hge,hcm2,?_,?_⟩⟩,⟨rfl,rfl,rfl,by simp,fun k hk _=>Below.heap_alloc w.drew _ k hk⟩,.inr ⟨_,rfl,Nat.le_refl _⟩⟩
   ·have hz1:(Value.int IntKind.u8 0).cells.size=1:=rfl
    simp only[Array.size_append,List.size_toArray,size_zeroCells,hz1,hxl,strCells_length]
    omega
   ·simp only[Array.toList_append,List.append_assoc]
    rw[← List.append_assoc,← hlen]
    exact List.take_left
theorem wpList_append_strX {ops:Array Oper} {rest:List Oper} {o:Oper} {a:Act} {Q:Exit→Act→World→Prop} (hgd:o.guard=none) (sl x:Operand) (t u:TypeId)
  (ho:o.op=.call { callee:=.builtin .append,args:=#[sl,x],argTypes:=#[t,u] })
  (base:Nat) (e:TypeId) (i:TypeInfo) (ht:P.underlying t=some (.slice e)) (hu:P.underlying u=some .string) (hi:P.info? e=some i) (hz:i.zero=some (.int .u8 0))
  (hsize:i.size=1) (hby:i.bytes=1)
  (v:Value) (n:Nat) (xs:List Value) (hs:a.eval sl=v) (hown:w.ownsRowF base e 1 v n xs) (s:ByteArray) (hx:a.eval x=.string s)
  (h63:n+s.size≤maxLen) (hbytes:n+s.size≤140737488355328) (hbase:base≤w.heap.size)
  (h:∀ v' w',w'.ownsRowF base e 1 v' (n+s.size) (xs++strCells s)→w.grownBy w' v.ownBlock→(v'.ownBlock=v.ownBlock∨∃ g,v'.ownBlock=some g∧w.heap.size≤g)→wpList P ops Q rest (a.put o.dst v') w'):wpList P ops Q (o::rest) a w:=by
 refine wpList_plain hgd fun K hK=>?_
 obtain⟨v',w',hr,h2,h3,h4⟩:=run_append_strX (P:=P) w base t u o.type e i ht hu hi hz hsize hby v n xs hown s h63 hbytes hbase
 unfold Oper.wp execOp
 simp only[ho,resolve,invoke,builtin,Sem.run_bind,Sem.run_pure,Result.andThen_ok,List.map_toArray,List.map_cons,List.map_nil,hs,hx,hr]
 exact hK _ _ (h v' w' h2 h3 h4)
end
structure Wr (B b:Nat) (v v':Value) (w w':World):Prop where
 aside:Go.Proofs.YtgiojkhmkeocfaaGreatDoor.Tx.Aside b v w w'
 fresh:Fresh v v' w
 below:Below B w w'
theorem Wr.refl (B b:Nat) (v:Value) (w:World):Wr B b v v w w:=⟨fun _ _ _ _=>rfl,.inl rfl,Below.refl B w⟩
theorem Wr.trans {B b:Nat} {v v1 v2:Value} {w w1 w2:World} (h:Wr B b v v1 w w1) (h':Wr B b v1 v2 w1 w2):Wr B b v v2 w w2:=by
 have hsz:=h.below.size
 have hn:∀ k,k<w.heap.size→v.ownBlock≠some k→v1.ownBlock≠some k:=by
  intro k hk hv
  rcases h.fresh with q | ⟨g,q,hg⟩
  ·rw[q];exact hv
  ·rw[q]
   intro e
   have:=Option.some.inj e
   omega
 refine⟨fun k hk hb hv=>(h'.aside k (by omega) hb (hn k hk hv)).trans (h.aside k hk hb hv),?_,h.below.trans h'.below⟩
 rcases h'.fresh with q | ⟨g,q,hg⟩
 ·rcases h.fresh with q2 | ⟨g,q2,hg⟩
  ·exact .inl (q.trans q2)
  ·exact .inr ⟨g,q.trans q2,hg⟩
 ·exact .inr ⟨g,q,by omega⟩
theorem Wr.low {B b:Nat} {v:Value} {w w1:World} (h:Below w.heap.size w w1) (hB:B≤w.heap.size):Wr B b v v w w1:=⟨fun k hk _ _=>h.block k hk,.inl rfl,h.mono hB⟩
theorem Wr.size {B b:Nat} {v v':Value} {w w':World} (h:Wr B b v v' w w'):w.heap.size≤w'.heap.size:=h.below.size
def Off (k:Nat) (b:Nat) (v:Value):Prop:=k≠b∧v.ownBlock≠some k
theorem Wr.block {B b:Nat} {v v':Value} {w w':World} (h:Wr B b v v' w w') {k:Nat} {o:Obj} (hk:w.heap[k]?=some o) (ho:Off k b v):w'.heap[k]?=some o∧Off k b v':=by
 have hlt:k<w.heap.size:=(Array.getElem?_eq_some_iff.1 hk).1
 refine⟨(h.aside k hlt ho.1 ho.2).trans hk,ho.1,?_⟩
 rcases h.fresh with q | ⟨g,q,hg⟩
 ·rw[q];exact ho.2
 ·rw[q]
  intro e
  have:=Option.some.inj e
  omega
end

section
open Go.RowKit Go.Proofs.YtgiojkhmkeocfaaGreatDoor.Tx
theorem cwU8:(Tryz.prog.info? 5).map (fun i=>(i.zero,i.size,i.bytes))=some (some (.int .u8 0),1,1):=by kernel_rfl
theorem cwBs:(Tryz.prog.info? 77).map (·.size)=some 2:=by kernel_rfl
def LaysB (T:TypeId):Prop:=liesAt Tryz.prog Tryz.prog.depth T (2 / Tryz.prog.cellsOf T) 0 77 1=true∧T≠5
theorem ccheck_fresh {T:TypeId} (hT:LaysB T) (b:Nat) (w:World) (h0:w.cell? ⟨b,0,none⟩=some (.pointer none)) (hsh:w.shape? b=some (T,2)) (hfz:w.frozen? ⟨b,0,none⟩=false) :
  Calls Tryz.prog 80 #[.pointer (some ⟨b,0,none⟩)] w fun e w'=>e=.returned (.tuple #[])∧w'=w.setCell ⟨b,0,none⟩ (.pointer (some ⟨b,0,none⟩)):=by
 obtain⟨j,hj,hjs⟩:=Option.map_eq_some_iff.1 cwBs
 go_enter Tryz.func80,Tryz.ntmps80
 go_wp2
 rw[Lib.run_to_unsafe w ⟨b,0,none⟩ Tryz.underlying74 Tryz.underlying143 hj (by rw[hjs];decide) hsh (Nat.zero_lt_succ 1)]
 simp only[Result.andThen]
 rw[Oper.upon_value]
 go_wp2
 rw[run_callFunc_extern Tryz.func133 (by kernel_rfl) (by kernel_rfl) (by kernel_rfl) (e:=Extern.AbiNoEscape.same) (by kernel_rfl)]
 rw[Lib.run_noEscape]
 simp only[Result.andThen]
 rw[Oper.upon_value]
 go_wp2
 rw[Lib.run_from_unsafe w ⟨b,0,none⟩ Tryz.underlying143 Tryz.underlying74 hj hsh hT.1]
 simp only[Result.andThen]
 rw[Oper.upon_value]
 go_wp2
 go_end0
 exact⟨rfl,rfl⟩
theorem ccheck_any {T:TypeId} (hT:LaysB T) (B b:Nat) (v:Value) (bs:List Value) (w:World) (h:Bld T 5 B b v bs w) :
  Calls Tryz.prog 80 #[.pointer (some ⟨b,0,none⟩)] w fun e w'=>e=.returned (.tuple #[])∧w'.heap[b]?=some (.cells #[.pointer (some ⟨b,0,none⟩),v] T (0,0))∧Bld T 5 B b v bs w'∧Hid (∀ k,k≠b→w'.heap[k]?=w.heap[k]?)∧Below B w w':=by
 have h':=h
 obtain⟨hB,⟨p,hp,hbk⟩,hown,hne⟩:=h
 have hlt:b<w.heap.size:=(Array.getElem?_eq_some_iff.1 hbk).1
 have c0:w.cell? ⟨b,0,none⟩=some p:=by rw[Lib.cell_of_heap hbk];rfl
 have f0:w.frozen? ⟨b,0,none⟩=false:=Lib.frozen_of_heap hbk 0
 rcases hp with rfl | rfl
 ·refine (ccheck_fresh hT b w c0 (by simp[World.shape?,hbk]) f0).mono ?_
  rintro e w' ⟨rfl,rfl⟩
  have hb':(w.setCell ⟨b,0,none⟩ (.pointer (some ⟨b,0,none⟩))).heap[b]?=some (.cells #[.pointer (some ⟨b,0,none⟩),v] T (0,0)):=by
   simp only[World.setCell,Array.getElem?_modify,hbk]
   simp
  have ho:∀ k,k≠b→(w.setCell ⟨b,0,none⟩ (.pointer (some ⟨b,0,none⟩))).heap[k]?=w.heap[k]?:=fun k hk=>Below.heap_setCell w _ _ k hk
  refine⟨rfl,hb',⟨hB,⟨_,.inr rfl,hb'⟩,?_,hne⟩,ho,(Below.refl B w).setCell (p:=⟨b,0,none⟩) hB _⟩
  refine⟨hown.1,?_⟩
  rcases hown.2 with h | ⟨g,cap,cur,fz,q1,q2,q3,q4⟩
  ·exact .inl h
  ·exact .inr ⟨g,cap,cur,fz,q1,q2,(ho g (fun e=>hne (by rw[q1,e];rfl))).trans q3,q4⟩
 ·refine (Tryz.copyCheck_used b w c0).mono ?_
  rintro e w' ⟨rfl,rfl⟩
  exact⟨rfl,hbk,h',fun _ _=>rfl,Below.refl B _⟩
theorem cByte_f {T:TypeId} (hT:LaysB T) (B b:Nat) (v:Value) (bs:List Value) (c:Int) (w:World) (h:Bld T 5 B b v bs w) (hlen:bs.length+1≤140737488355328) (hBw:B≤w.heap.size) :
  Calls Tryz.prog 122 #[.pointer (some ⟨b,0,none⟩),.int .u8 c] w fun e w'=>e=.returned .nilIface∧∃ v',Bld T 5 B b v' (bs++[.int .u8 c]) w'∧Wr B b v v' w w':=by
 obtain⟨i0,hi,hz0,hz1,hz2⟩:=info_parts cwU8
 go_enter Tryz.func122,Tryz.ntmps122
 go_wp2_with (go_at_call 80;refine (ccheck_any hT B b v bs _ h).mono ?_)
 rintro e w1 ⟨rfl,hbk,⟨hB,_,hown,hne⟩,ho1,hb1⟩
 have c0:w1.cell? ⟨b,0,none⟩=some (.pointer (some ⟨b,0,none⟩)):=by rw[Lib.cell_of_heap hbk];rfl
 have c1:w1.cell? ⟨b,1,none⟩=some v:=by rw[Lib.cell_of_heap hbk];rfl
 have hlt:b<w1.heap.size:=(Array.getElem?_eq_some_iff.1 hbk).1
 go_wp2_with (at_builtin;refine wpList_append_ownX _ rfl _ _ 75 rfl B 5 i0 (.int .u8 0) 1 1 Tryz.underlying75 hi hz0 hz1 hz2 rfl (by decide) _ _ _ rfl (hown.alloc _) ⟨w1.heap.size,0,none⟩ 1 1 [.int .u8 c] rfl rfl ?c1 ?c2 ?c3 ?c4 ?c5 ?_)
 case c1 =>
  intro j u hj
  match j,hj with
  | 0,hj=>simp at hj;subst hj;simp[Addr.add]
 case c2=>intro u hu;simp at hu;subst hu;rfl
 case c3=>unfold maxLen;omega
 case c4=>omega
 case c5=>have:=hb1.size;simp;omega
 intro v' w2 hown' hgrow hfr
 have hb2:w2.heap[b]?=some (.cells #[.pointer (some ⟨b,0,none⟩),v] T (0,0)):=by
  rw[hgrow.block b (by simp;omega) (fun e=>hne e.symm),Lib.alloc_old w1 _ b hlt]
  exact hbk
 have d0:w2.cell? ⟨b,0,none⟩=some (.pointer (some ⟨b,0,none⟩)):=by rw[Lib.cell_of_heap hb2];rfl
 have d1:w2.cell? ⟨b,1,none⟩=some v:=by rw[Lib.cell_of_heap hb2];rfl
 have f1:w2.frozen? ⟨b,1,none⟩=false:=Lib.frozen_of_heap hb2 1
 obtain⟨g,cap,rfl⟩:∃ g cap,v'=.slice (some ⟨g,0,none⟩) (bs.length+1) cap:=by
  rcases hown'.2 with ⟨_,h0⟩ | ⟨g,cap,cur,fz,hv,_⟩
  ·omega
  ·exact⟨g,cap,hv⟩
 go_wp2
 go_ret
 refine⟨rfl,_,Bld.put hB (.inr rfl) hb2 (by simpa using hown') hT.2,?_,?_,?_⟩
 ·intro k hk hkb hkv
  rw[Below.heap_setCell w2 _ _ k hkb,hgrow.block k (by have:=hb1.size;simp;omega) (fun e=>hkv e.symm),Lib.alloc_old w1 _ k (by have:=hb1.size;omega)]
  exact ho1.out k hkb
 ·rcases hfr with h | ⟨g',h,h2⟩
  ·exact .inl h
  ·exact .inr ⟨g',h,by have:=hb1.size;omega⟩
 ·exact ((hb1.alloc (by have:=hb1.size;omega) _).grown hgrow (by have:=hb1.size;simp;omega) (fun k hk=>(hown.lt k hk).1)).setCell (p:=⟨b,1,none⟩) hB _
theorem cStr_f {T:TypeId} (hT:LaysB T) (B b:Nat) (v:Value) (bs:List Value) (s:List UInt8) (w:World) (h:Bld T 5 B b v bs w) (hlen:bs.length+s.length≤140737488355328) (hBw:B≤w.heap.size) :
  Calls Tryz.prog 34 #[.pointer (some ⟨b,0,none⟩),.string ⟨s.toArray⟩] w fun e w'=>e=.returned (.tuple #[.int .i64 s.length,.nilIface])∧∃ v',Bld T 5 B b v' (bs++Lib.byteCells s) w'∧Wr B b v v' w w':=by
 obtain⟨i0,hi,hz0,hz1,hz2⟩:=info_parts cwU8
 go_enter Tryz.func34,Tryz.ntmps34
 go_wp2_with (go_at_call 80;refine (ccheck_any hT B b v bs _ h).mono ?_)
 rintro e w1 ⟨rfl,hbk,⟨hB,_,hown,hne⟩,ho1,hb1⟩
 have c0:w1.cell? ⟨b,0,none⟩=some (.pointer (some ⟨b,0,none⟩)):=by rw[Lib.cell_of_heap hbk];rfl
 have c1:w1.cell? ⟨b,1,none⟩=some v:=by rw[Lib.cell_of_heap hbk];rfl
 have hlt:b<w1.heap.size:=(Array.getElem?_eq_some_iff.1 hbk).1
 go_wp2_with (at_builtin;refine wpList_append_strX _ rfl _ _ 75 9 rfl B 5 i0 Tryz.underlying75 Tryz.underlying9 hi hz0 hz1 hz2 _ _ _ rfl hown ⟨s.toArray⟩ rfl ?c3 ?c4 ?c5 ?_)
 case c3=>unfold maxLen;show bs.length+s.length≤_;omega
 case c4=>show bs.length+s.length≤_;omega
 case c5=>have:=hb1.size;omega
 intro v' w2 hown' hgrow hfr
 have hb2:w2.heap[b]?=some (.cells #[.pointer (some ⟨b,0,none⟩),v] T (0,0)):=by
  rw[hgrow.block b hlt (fun e=>hne e.symm)]
  exact hbk
 have d0:w2.cell? ⟨b,0,none⟩=some (.pointer (some ⟨b,0,none⟩)):=by rw[Lib.cell_of_heap hb2];rfl
 have d1:w2.cell? ⟨b,1,none⟩=some v:=by rw[Lib.cell_of_heap hb2];rfl
 have f1:w2.frozen? ⟨b,1,none⟩=false:=Lib.frozen_of_heap hb2 1
 obtain⟨ao,n',cap,rfl⟩:∃ ao n' cap,v'=.slice ao n' cap:=by
  rcases hown'.2 with ⟨hv,_⟩ | ⟨g,cap,cur,fz,hv,_⟩
  ·exact⟨_,_,_,hv⟩
  ·exact⟨_,_,_,hv⟩
 have hlen2:(bs++Lib.byteCells s).length=bs.length+s.length:=by rw[List.length_append,Lib.byteCells_length]
 go_wp2
 go_ret2
 refine⟨rfl,_,Bld.put hB (.inr rfl) hb2 (by rw[hlen2];exact hown') hT.2,?_,?_,?_⟩
 ·intro k hk hkb hkv
  rw[Below.heap_setCell w2 _ _ k hkb,hgrow.block k (by have:=hb1.size;omega) (fun e=>hkv e.symm)]
  exact ho1.out k hkb
 ·rcases hfr with h | ⟨g',h,h2⟩
  ·exact .inl h
  ·exact .inr ⟨g',h,by have:=hb1.size;omega⟩
 ·exact (hb1.grown hgrow (by have:=hb1.size;omega) (fun k hk=>(hown.lt k hk).1)).setCell (p:=⟨b,1,none⟩) hB _
theorem cString_f {T:TypeId} (B b:Nat) (v:Value) (l:List UInt8) (h0:l≠[]) (w:World) (h:Bld T 5 B b v (Lib.byteCells l) w) :
  Calls Tryz.prog 41 #[.pointer (some ⟨b,0,none⟩)] w fun e w'=>e=.returned (.string ⟨l.toArray⟩)∧Below B w w':=by
 obtain⟨hB,⟨p,hp,hbk⟩,hown,hne⟩:=h
 have hl0:l.length≠0:=by simpa using h0
 rw[Lib.byteCells_length] at hown
 obtain⟨g,cap,cur,fz,rfl,hbg,hg,hfz,hnc,hcm,hcs,htake⟩:∃ g cap cur fz,v=.slice (some ⟨g,0,none⟩) l.length cap∧B≤g∧w.heap[g]?=some (.cells cur 5 fz)∧fz.2≤l.length * 1∧l.length≤cap∧cap≤maxLen∧cur.size=cap * 1∧cur.toList.take (l.length * 1)=Lib.byteCells l:=by
  rcases hown.2 with ⟨_,hz⟩ | ⟨g,cap,cur,fz,hv,r⟩
  ·exact absurd hz hl0
  ·exact⟨g,cap,cur,fz,hv,r⟩
 have c1:w.drew.cell? ⟨b,1,none⟩=some (.slice (some ⟨g,0,none⟩) l.length cap):=by
  have:w.drew.heap[b]?=some (.cells #[p,.slice (some ⟨g,0,none⟩) l.length cap] T (0,0)):=hbk
  rw[Lib.cell_of_heap this];rfl
 have hSD:(Builtin.unsafeSliceData_ #[75] 136 #[.slice (some ⟨g,0,none⟩) l.length cap]).run Tryz.prog w.drew=.ok (.pointer (some ⟨g,0,none⟩)) w.drew :=
  Lib.run_unsafeSliceData_row _ _ _ _ _ _ (by omega)
 have hUS:(Builtin.unsafeString_ #[136,3] 9 #[.pointer (some ⟨g,0,none⟩),.int .i64 l.length]).run Tryz.prog w.drew=.ok (.string ⟨l.toArray⟩) (w.drew.freeze ⟨g,0,none⟩ l.length):=by
  refine Lib.run_unsafeString_row w.drew 136 3 9 5 Tryz.underlying136 (by kernel_rfl) g cur.size (by have hg':w.drew.heap[g]?=some (.cells cur 5 fz):=hg;simp[World.shape?,hg']) l h0 (by omega) (by unfold maxLen at hcm;omega) ?_
  intro j x hx
  have:=hown.cells (g:=g) rfl j (.int .u8 x.toNat) (by simp[Lib.byteCells,hx])
  exact this
 have HF:Hid (Below B w (w.drew.freeze ⟨g,0,none⟩ l.length)):=Lib.below_freeze (Below.drew (Below.refl B w)) (p:=⟨g,0,none⟩) hbg _
 clear hfz htake hown hg
 have mixed:Tryz.prog.follows Departure.mixedOrders=true:=by kernel_rfl
 go_enter Tryz.func41,Tryz.ntmps41
 go_wp2
 go_region_o
 all_goals (go_wp2;go_ret;exact⟨rfl,HF.out⟩)
end

section
open Go.RowKit Go.Proofs.YtgiojkhmkeocfaaGreatDoor.Tx
theorem lays_p:LaysB 121:=⟨by kernel_rfl,by decide⟩
def Pg (B b:Nat) (v:Value) (acc:List UInt8) (w:World):Prop:=Bld 121 5 B b v (Lib.byteCells acc) w
theorem Pg.low {B b:Nat} {v:Value} {acc:List UInt8} {w w':World} (h:Pg B b v acc w) (hb:Below w.heap.size w w'):Pg B b v acc w':=Bld.kept h hb.block
theorem crow_f (B b:Nat) (v:Value) (acc s Z:List UInt8) (w:World) (h:Pg B b v acc w) (hBw:B≤w.heap.size) (HZ:Hid (acc++s++[10]=Z)) (hZ:Z.length≤70368744177664) :
  Calls Tryz.prog 65 #[.pointer (some ⟨b,0,none⟩),.string ⟨s.toArray⟩] w fun e w'=>e=.returned (.tuple #[])∧∃ v',Pg B b v' Z w'∧Wr B b v v' w w':=by
 have hl:=congrArg List.length HZ.out
 simp only[List.length_append,List.length_cons,List.length_nil] at hl
 go_enter Tryz.func65,Tryz.ntmps65
 go_wp2_with fail
 refine (cStr_f lays_p B b v _ s _ h (by rw[bcells_len];omega) hBw).mono ?_
 rintro e w1 ⟨rfl,v1,h1,hw1⟩
 go_wp2_with fail
 refine (cStr_f lays_p B b v1 _ [10] _ h1 (by rw[List.length_append,bcells_len,bcells_len];simp;omega) (Nat.le_trans hBw hw1.size)).mono ?_
 rintro e w2 ⟨rfl,v2,h2,hw2⟩
 go_wp2
 first
  | go_end0
  | refine bodyPost_ret (results_none rfl _ _ _) rfl ?_
  | refine bodyPost_end (results_none rfl _ _ _) rfl ?_
 refine⟨rfl,v2,?_,hw1.trans hw2⟩
 rw[← HZ.out]
 unfold Pg
 rw[Lib.byteCells_append,Lib.byteCells_append]
 exact h2
theorem cell_byte {c:Int} (h0:0≤c) (h1:c<256):Lib.byteCells [UInt8.ofNat c.toNat]=[.int .u8 c]:=by
 have:((UInt8.ofNat c.toNat).toNat:Int)=c:=by
  rw[UInt8.toNat_ofNat']
  omega
 simp only[Lib.byteCells,List.map_cons,List.map_nil,this]
theorem cline_f (B b:Nat) (v:Value) (c:Int) (h0:0≤c) (h1:c<256) (acc s Z:List UInt8) (w:World) (h:Pg B b v acc w) (hBw:B≤w.heap.size) (HZ:Hid (acc++(lnL [UInt8.ofNat c.toNat,32] s).flatten=Z)) (hZ:Z.length≤70368744177664) (hs:s.length≤1099511627776) :
  Calls Tryz.prog 166 #[.pointer (some ⟨b,0,none⟩),.int .u8 c,.string ⟨s.toArray⟩] w fun e w'=>e=.returned (.tuple #[])∧∃ v',Pg B b v' Z w'∧Wr B b v v' w w':=by
 obtain⟨T,hT⟩:∃ T,plT s=T:=⟨_,rfl⟩
 have HT:Hid (plT s=T):=hT
 have HE:Hid (acc++([UInt8.ofNat c.toNat,32]++T)=Z):=(by
  show _=_
  rw[← HZ.out,pl_lines,hT])
 have hl:=congrArg List.length HE.out
 simp only[List.length_append,List.length_cons,List.length_nil] at hl
 have hA:Hid (Lib.byteCells acc++[.int .u8 c]++[.int .u8 32]++Lib.byteCells T=Lib.byteCells Z):=(by
  show _=_
  rw[← HE.out,Lib.byteCells_append,Lib.byteCells_append]
  have:Lib.byteCells [UInt8.ofNat c.toNat,32]=[.int .u8 c]++[.int .u8 32]:=(by
   have h:=cell_byte h0 h1
   simp only[Lib.byteCells,List.map_cons,List.map_nil] at h ⊢
   rw[List.cons_eq_cons.1 h |>.1]
   rfl)
  rw[this]
  simp only[List.append_assoc])
 have hbl:=bcells_len acc
 have hsl:=bcells_len T
 clear HZ HE hT
 go_enter Tryz.func166,Tryz.ntmps166
 go_wp2_with fail
 refine (cByte_f lays_p B b v _ c _ h (by omega) hBw).mono ?_
 rintro e w1 ⟨rfl,v1,q1,hw1⟩
 go_wp2_with fail
 refine (cByte_f lays_p B b v1 _ 32 _ q1 (by rw[List.length_append];simp;omega) (Nat.le_trans hBw hw1.size)).mono ?_
 rintro e w2 ⟨rfl,v2,q2,hw2⟩
 have hw12:=hw1.trans hw2
 have q2d:Bld 121 5 B b v2 _ w2.drew:=Bld.kept q2 ((Below.refl _ w2).drew).block
 have hwd:Wr B b v v2 w w2.drew:=hw12.trans (Wr.low ((Below.refl _ w2).drew) (by have:=hw12.size;omega))
 have hszd:B≤w2.drew.heap.size:=Nat.le_trans hBw hwd.size
 clear q1 q2 hw1 hw2 hw12 h
 go_upto_region 2 with fail
 refine wp_region_noPanic ?_
 refine wp_region_held_drew (S:=fun _=>True) (by kernel_rfl) trivial (fun hHeld=>?_)
 generalize w2.drew=wd at q2d hwd hszd ⊢
 refine go_take 0 15 _ (.pointer (some ⟨b,0,none⟩)) rfl (by kernel_rfl) (by kernel_rfl) (by kernel_rfl) (by kernel_rfl) (fun _ _ _ h=>h) (Or.inl ⟨by kernel_rfl,fun u hu=>by kernel_rfl⟩) hHeld ?_
 simp only[Act.put,List.setIfInBounds_toArray,List.set_cons_zero,List.set_cons_succ]
 refine go_take 1 16 _ (.pointer (some ⟨b,0,none⟩)) rfl (by kernel_rfl) (by kernel_rfl) (by kernel_rfl) (by kernel_rfl) (fun _ _ _ h=>h) (Or.inl ⟨by kernel_rfl,fun u hu=>by kernel_rfl⟩) hHeld ?_
 simp only[Act.put,List.setIfInBounds_toArray,List.set_cons_zero,List.set_cons_succ]
 refine go_take 2 17 _ (.pointer (some ⟨b,0,none⟩)) rfl (by kernel_rfl) (by kernel_rfl) (by kernel_rfl) (by kernel_rfl) (fun _ _ _ h=>h) (Or.inl ⟨by kernel_rfl,fun u hu=>by kernel_rfl⟩) hHeld ?_
 simp only[Act.put,List.setIfInBounds_toArray,List.set_cons_zero,List.set_cons_succ]
 refine go_take 3 18 _ (.string ⟨s.toArray⟩) rfl (by kernel_rfl) (by kernel_rfl) (by kernel_rfl) (by kernel_rfl) (fun _ _ _ h=>h) (Or.inl ⟨by kernel_rfl,fun u hu=>by kernel_rfl⟩) hHeld ?_
 simp only[Act.put,List.setIfInBounds_toArray,List.set_cons_zero,List.set_cons_succ]
 refine go_callE 4 19 _ rfl (by kernel_rfl) (by kernel_rfl) (by kernel_rfl) 82 (.func 82) #[.tmp 18] #[9] (by kernel_rfl) #[] (by kernel_rfl) #[.string ⟨s.toArray⟩] (by kernel_rfl) (enters_of Tryz.func82 (by kernel_rfl) rfl) (fun v3 w3=>v3=.string ⟨T.toArray⟩∧w3=wd) ?_ ?_
 ·refine (pline_f s wd hs T HT).mono ?_
  rintro e w3 ⟨rfl,rfl⟩
  exact⟨_,rfl,trivial,rfl,rfl⟩
 rintro _ w3 _ ⟨rfl,rfl⟩
 simp only[Act.put,List.setIfInBounds_toArray,List.set_cons_zero,List.set_cons_succ]
 refine go_callE 5 20 _ rfl (by kernel_rfl) (by kernel_rfl) (by kernel_rfl) 34 (.func 34) #[.tmp 17,.tmp 19] #[77,9] (by kernel_rfl) #[] (by kernel_rfl) #[.pointer (some ⟨b,0,none⟩),.string ⟨T.toArray⟩] (by kernel_rfl) (enters_of Tryz.func34 (by kernel_rfl) rfl) (fun _ w4=>∃ v',Pg B b v' Z w4∧Wr B b v v' w w4) ?_ ?_
 ·refine (cStr_f lays_p B b v2 _ T _ q2d (by rw[List.length_append,List.length_append];simp;omega) hszd).mono ?_
  rintro e w4 ⟨rfl,v4,q4,hw4⟩
  exact⟨_,rfl,trivial,v4,by unfold Pg;rw[← hA.out];exact q4,hwd.trans hw4⟩
 rintro _ w4 _ ⟨v4,q4,hw4⟩
 simp only[Act.put,List.setIfInBounds_toArray,List.set_cons_zero,List.set_cons_succ]
 refine wpAnyH_done (by kernel_rfl) ?_ _
 refine NoPanic.normal ?_
 go_wp2
 first
  | go_end0
  | refine bodyPost_ret (results_none rfl _ _ _) rfl ?_
  | refine bodyPost_end (results_none rfl _ _ _) rfl ?_
 exact⟨rfl,v4,q4,hw4⟩
theorem crange_f (A N:Int) (h0:0≤A) (h1:A≤4611686018427387904) (h2:0≤N) (h3:N≤4611686018427387900) (w:World) (HT:Hid (Tab10 w)) (T:List UInt8) (HR:Hid (spanT A N=T)) :
  Calls Tryz.prog 112 #[.int .i64 A,.int .i64 N] w fun e w'=>e=.returned (.string ⟨T.toArray⟩)∧Below w.heap.size w w':=by
 have l1:=itoa_short A (by omega) (by omega)
 have l2:=itoa_short (A+N-1) (by omega) (by omega)
 by_cases hN:N≤1
 ·have HE1:Hid (Lib.itoa A=T):=(by have h:=HR.out;unfold spanT at h;rw[if_pos hN] at h;exact h)
  clear HR
  go_enter Tryz.func112,Tryz.ntmps112
  go_wp2_with fail
  refine (nText_f A (by omega) (by omega) _ HT).mono ?_
  rintro e w1 ⟨rfl,hb1⟩
  go_wp2
  go_ret
  exact⟨by rw[← HE1.out];rfl,hb1⟩
 ·have HE:Hid (Lib.itoa A++44::Lib.itoa (A+N-1)=T):=(by have h:=HR.out;unfold spanT at h;rw[if_neg hN] at h;exact h)
  clear HR
  have q1:=add_fits (x:=Lib.itoa A) (y:=[44]) (by unfold Fits;simp only[List.length_cons,List.length_nil];omega) Tryz.prog
  have q2:=add_fits (x:=Lib.itoa A++[44]) (y:=Lib.itoa (A+N-1)) (by unfold Fits;simp only[List.length_append,List.length_cons,List.length_nil];omega) Tryz.prog
  go_enter Tryz.func112,Tryz.ntmps112
  go_wp2_with fail
  refine (nText_f A (by omega) (by omega) _ HT).mono ?_
  rintro e w1 ⟨rfl,hb1⟩
  have HT1:Hid (Tab10 w1):=HT.out.on hb1
  go_wp2_with fail
  refine (nText_f (A+N-1) (by omega) (by omega) _ HT1).mono ?_
  rintro e w2 ⟨rfl,hb2⟩
  go_wp2
  go_ret
  exact⟨by rw[← HE.out];rfl,hb1.trans (hb2.mono hb1.size)⟩
end

section
open Go.RowKit
def ucells (l:List Int):List Value:=l.map fun n=>.int .u8 n
theorem ucells_length (l:List Int):(ucells l).length=l.length:=by simp[ucells]
theorem ucells_append (a b:List Int):ucells (a++b)=ucells a++ucells b:=by simp[ucells]
theorem ucells_one (l:List Int):∀ u∈ucells l,u.oneCell'=true:=by
 intro u hu
 simp only[ucells,List.mem_map] at hu
 obtain⟨n,_,rfl⟩:=hu
 rfl
theorem infoU:(Tryz.prog.info? 5).map (fun i=>(i.zero,i.size,i.bytes))=some (some (.int .u8 0),1,1):=by kernel_rfl
theorem u_row (w:World) (c:Int):Holds (w.alloc (.cells #[.int .u8 c] 5)) (.slice (some ⟨w.heap.size,0,none⟩) 1 1) 1 (ucells [c]):=new_holds w #[.int .u8 c] 5 1 1 (by decide)
def lenW:Value→Nat
 | .slice _ n _=>n
 | _=>0
theorem mix_len (c:List Mk):(mixM c).length=c.length:=by simp[mixM]
theorem mix_at (c:List Mk) (mx:Bool) (HM:(hasM 45 c && hasM 43 c)=mx) (k:Nat) (hk:k<c.length):(mixM c).drop k=(if mx=true then 33 else c[k].sg)::(mixM c).drop (k+1):=by
 have hl:k<(mixM c).length:=by rw[mix_len];exact hk
 rw[List.drop_eq_getElem_cons hl]
 congr 1
 simp only[mixM,List.getElem_map,HM]
theorem cshown_f (l:List Mk) (v:Value) (w:World) (hv:HMk w v l) (hl:l.length≤1099511627776) (R:List Int) (HR:Hid (shwL false false l=R)) :
  Calls Tryz.prog 111 #[v] w fun e w'=>∃ v',e=.returned v'∧w'.ownsRow w.heap.size 5 1 v' R.length (ucells R)∧Below w.heap.size w w':=by
 obtain⟨lo,lc,rfl⟩:=HMk.form hv
 have hnc:=mhold_cap hv
 have HR0:Hid (([]:List Int)++shwL false false (l.drop 0)=R):=(by show _=_;simp only[List.nil_append,List.drop_zero];exact HR.out)
 have hown0:w.ownsRow w.heap.size 5 1 (.slice none 0 0) 0 (ucells []):=hnil_row _ _ _ _
 clear HR
 go_enter Tryz.func111,Tryz.ntmps111
 go_wp2
 go_loopw [3] (fun sv wr=>∃ (acc:List Int) (N:Nat),N≤l.length∧(∃ o c,sv=.slice o N c)∧wr.ownsRow w.heap.size 5 1 sv N (ucells acc)∧Below w.heap.size w wr∧Hid (acc.length=N)∧Hid (acc++shwL false false (l.drop N)=R)) (fun sv _=>l.length-lenW sv)
 case atStart=>exact⟨[],0,Nat.zero_le _,⟨none,0,rfl⟩,hown0,Below.refl _ _,rfl,HR0⟩
 case round =>
 obtain⟨acc,N,hN,⟨o,c,rfl⟩,hown,hB,HLn,HI⟩:=hrel
 clear HR0 hown0
 by_cases hlt:N<l.length
 ·have hsub:=mk_from hv N hN
  have hs:=run_mF lo l.length lc N hN hnc
  have HST:=HI.out
  rw[shw_step] at HST
  have hll:(l.drop N).length=l.length-N:=List.length_drop
  obtain⟨D,hD⟩:∃ D,l.drop N=D:=⟨_,rfl⟩
  have HDr:Hid (l.drop N=D):=hD
  rw[hD] at hll hsub HST
  rw[← hll] at hsub hs
  clear hD HI
  generalize mslF lo lc N=ao2 at hs hsub
  generalize lc-N=c2 at hs hsub
  obtain⟨n,hn⟩:∃ n,(chgM D).length=n:=⟨_,rfl⟩
  have hnD:n≤D.length:=(by rw[← hn];exact chg_le D)
  have hp:=cpiece_f D ao2 c2 wr (hsub.keep hB (Nat.le_refl _)) (by omega) n hn
  have hto:=mk_to hsub n hnD
  have hct:D.take n=chgM D:=(by rw[← hn];exact chg_take D)
  rw[hct] at hto
  obtain⟨T,hT⟩:∃ T,tlM (rstM D)=T:=⟨_,rfl⟩
  rw[hT] at HST
  have HTl:Hid ((n=D.length∧T=[])∨(n<D.length∧T=32::shwL false false (l.drop (N+n+1)))):=(by
   have h1:=congrArg List.length (chg_rstM D)
   rw[List.length_append,hn] at h1
   cases hr:rstM D with
   | nil =>
    rw[hr] at hT h1
    exact .inl ⟨by simpa using h1,hT.symm⟩
   | cons x t =>
    rw[hr] at hT h1
    refine .inr ⟨by simp at h1;omega,?_⟩
    rw[← hT]
    have h2:l.drop (N+n+1)=t:=(by
     rw[← List.drop_drop,← List.drop_drop,HDr.out]
     have h3:=chg_rstM D
     rw[hr] at h3
     have h4:D.drop n=x::t:=(by rw[← h3,← hn,List.drop_left])
     rw[h4]
     rfl)
    rw[h2]
    rfl)
  have HS:Hid (acc++(mixM (chgM D)++T)=R):=HST
  have hhas:=fun k u hu r HR=>chas_f k (chgM D) (.slice ao2 n c2) u ((hto.keep hB (Nat.le_refl _)).keep hu (Nat.le_refl _)) (by rw[hn];omega) r HR
  obtain⟨mx,hmx⟩:∃ b,(hasM 45 (chgM D) && hasM 43 (chgM D))=b:=⟨_,rfl⟩
  have HMX:Hid ((hasM 45 (chgM D) && hasM 43 (chgM D))=mx):=hmx
  have h45:=fun u hu=>hhas 45 u hu _ rfl
  have h43:=fun u hu=>hhas 43 u hu _ rfl
  have HCn:Hid ((chgM D).length=n):=hn
  have HDl:Hid (D.length=l.length-N):=hll
  have hn2:n≤1099511627776:=by omega
  clear HST hT hsub hct hhas hn HDr hll hmx
  generalize chgM D=C at hto HS h45 h43 HMX HCn
  go_wp2_with fail
  refine hp.mono ?_
  rintro e w1 ⟨rfl,hB1⟩
  go_upto_region 4 with fail
  go_cut [5] from 9 to 46 (fun mv wz=>mv=.bool mx∧Below wr.heap.size wr wz)
  case first =>
   cases h1:hasM 45 C with
   | true =>
    rw[h1] at h45
    go_wp2_with fail
    refine (h45 w1 hB1).mono ?_
    rintro e w2 ⟨rfl,hB2⟩
    have hB12:=hB1.trans (hB2.mono hB1.size)
    have HE:Hid (hasM 43 C=mx):=(by have h:=HMX.out;rw[h1,Bool.true_and] at h;exact h)
    go_wp2_with fail
    refine (h43 w2 hB12).mono ?_
    rintro e w3 ⟨rfl,hB3⟩
    go_wp2
    go_meet
    case rel=>exact⟨by rw[HE.out],hB12.trans (hB3.mono hB12.size)⟩
   | false =>
    rw[h1] at h45
    have HE:Hid (false=mx):=(by have h:=HMX.out;rw[h1,Bool.false_and] at h;exact h)
    go_wp2_with fail
    refine (h45 w1 hB1).mono ?_
    rintro e w2 ⟨rfl,hB2⟩
    go_wp2
    go_meet
    case rel=>exact⟨by rw[HE.out],hB1.trans (hB2.mono hB1.size)⟩
  case rest =>
  obtain⟨rfl,hBc⟩:=hcut
  clear hp h45 h43 hs hB1
  have hown2:wc.ownsRow w.heap.size 5 1 (.slice o N c) N (ucells acc):=owns_keep hown hBc
  have hB2:=hB.trans (hBc.mono hB.size)
  clear hown hB hBc
  generalize wc=W2 at hown2 hB2 ⊢
  have HS0:Hid (acc++((mixM C).drop 0++T)=R):=(by show _=_;rw[List.drop_zero];exact HS.out)
  have HL0:Hid (acc.length=N∧N=N+0):=⟨HLn.out,rfl⟩
  clear HS HLn
  go_wp2
  go_loopw [3,27] (fun sv i wr=>∃ (k:Nat) (ac:List Int) (N2:Nat),k≤n∧i=.int .i64 k∧N2≤l.length∧(∃ o c,sv=.slice o N2 c)∧wr.ownsRow w.heap.size 5 1 sv N2 (ucells ac)∧Below w.heap.size w wr∧Hid (ac.length=N2∧N2=N+k)∧Hid (ac++((mixM C).drop k++T)=R)) (fun _ i _=>n-(intOf i).toNat)
  case atStart=>exact⟨0,acc,N,Nat.zero_le _,by go_num,hN,⟨o,c,rfl⟩,hown2,hB2,HL0,HS0⟩
  case round =>
  clear HS0 HL0 hown2
  obtain⟨k,ac,N2,hk,rfl,hN2,⟨o2,c2',rfl⟩,hown3,hB3,HL3,HI3⟩:=hrel
  have hsz3:=hB3.size
  by_cases hkn:k<n
  ·obtain⟨bk,off,rfl,hbk,_⟩:=HMk.at hto (by have:=HCn.out;omega)
   have hkC:k<C.length:=(by have:=HCn.out;omega)
   obtain⟨m,hm⟩:∃ m,C[k]=m:=⟨_,rfl⟩
   obtain⟨c0,c1⟩:=Low.mk hB3 hto k hkC hm
   have i1:(0:Int)≤(k:Int):=by omega
   have i2:(k:Int)<(n:Int):=by omega
   obtain⟨S,hS⟩:∃ S:Int,(if mx=true then 33 else m.sg)=S:=⟨_,rfl⟩
   have HI4:Hid ((ac++[S])++((mixM C).drop (k+1)++T)=R):=(by
    show _=_
    have h:=HI3.out
    rw[mix_at C _ HMX.out k hkC,hm,hS] at h
    rw[← h]
    simp)
   have HL4:Hid ((ac++[S]).length=N2+1∧N2+1=N+(k+1)∧N2+1≤l.length∧k+1≤n):=⟨by rw[List.length_append,HL3.out.1];rfl,by have:=HL3.out.2;omega,by have:=HL3.out.2;have:=HDl.out;omega,by omega⟩
   have hownM:=hown3.alloc (.cells #[.int .u8 m.sg,.string ⟨m.tx.toArray⟩] 103)
   have hBM:=hB3.alloc hB3.size (.cells #[.int .u8 m.sg,.string ⟨m.tx.toArray⟩] 103)
   have HS2:Hid ((if mx=true then 33 else m.sg)=S):=hS
   clear HI3 HMX hto hS hown3 hB3
   go_upto_region 8 with fail
   go_cut [8] from 28 to 38 (fun sv wz=>sv=.int .u8 m.sg∧wz=wr.alloc (.cells #[.int .u8 m.sg,.string ⟨m.tx.toArray⟩] 103))
   case first =>
    go_wp2
    go_meet
    case rel=>exact⟨rfl,rfl⟩
   case rest =>
   obtain⟨rfl,rfl⟩:=hcut
   go_upto_if 33 with fail
   go_cut [8] from 28 to 38 (fun sv wz=>sv=.int .u8 S∧wz=wr.alloc (.cells #[.int .u8 m.sg,.string ⟨m.tx.toArray⟩] 103))
   case first =>
    cases mx with
    | true =>
     have HE:Hid (33=S):=(by have h:=HS2.out;rw[if_pos rfl] at h;exact h)
     go_wp2
     go_meet
     case rel=>exact⟨by rw[HE.out],rfl⟩
    | false =>
     have HE:Hid (m.sg=S):=(by have h:=HS2.out;rw[if_neg (by decide)] at h;exact h)
     go_wp2
     go_meet
     case rel=>exact⟨by rw[HE.out],rfl⟩
   case rest =>
   obtain⟨rfl,rfl⟩:=hcut
   clear c0 c1 HS2
   generalize wr.alloc (.cells #[.int .u8 m.sg,.string ⟨m.tx.toArray⟩] 103)=Wm at hownM hBM ⊢
   have hszM:w.heap.size≤Wm.heap.size:=hBM.size
   have hrow:=u_row Wm S
   have hownA:=hownM.alloc (.cells #[.int .u8 S] 5)
   have hszA:Wm.heap.size≤(Wm.alloc (.cells #[.int .u8 S] 5)).heap.size:=by simp
   go_wp2_with (at_builtin;refine wpList_append_w _ (by kernel_rfl) (.tmp 34) (.tmp 36) 75 5 (.int .u8 0) 1 1 rfl Tryz.underlying75 infoU rfl (by decide) (by decide) w.heap.size _ _ _ rfl hownA _ 1 (ucells [S]) rfl hrow (ucells_length _) (ucells_one _) (by omega) (by omega) ?_)
   intro v3 u3 hown4 hg4 _
   rw[← ucells_append] at hown4
   have hB4:Below w.heap.size w u3:=((hBM.alloc hBM.size _).grown hg4 (hBM.alloc hBM.size _).size (fun j hj=>owns_ge hownA hj))
   obtain⟨o4,c4,rfl⟩:=(holds_of hown4).form
   clear hrow hownA hg4 hszA hownM hBM
   go_wp2
   exact⟨⟨k+1,_,N2+1,HL4.out.2.2.2,by go_num,HL4.out.2.2.1,⟨o4,c4,rfl⟩,hown4,hB4,⟨HL4.out.1,HL4.out.2.1⟩,HI4⟩,by have:=HL4.out.2.2.2;simp[intOf];omega⟩
  ·have hend:decide ((k:Int)<(n:Int))=false:=decide_eq_false (by omega)
   have hkk:k=n:=by omega
   subst hkk
   have HI4:Hid (ac++T=R):=(by
    have h:=HI3.out
    rw[List.drop_of_length_le (by rw[mix_len,HCn.out];omega),List.nil_append] at h
    exact h)
   have HNk:Hid (N2=N+k):=HL3.out.2
   have HAl:Hid (ac.length=N2):=HL3.out.1
   clear HI3 HL3 HMX hto
   by_cases hfull:k<D.length
   ·have HT:Hid (T=32::shwL false false (l.drop (N2+1))):=(by
     rcases HTl.out with h | h
     ·omega
     ·show _=_
      rw[HNk.out]
      exact h.2)
    have j1:(N2:Int)<(l.length:Int):=(by have:=HNk.out;have:=HDl.out;omega)
    have HI5:Hid ((ac++[32])++shwL false false (l.drop (N2+1))=R):=(by
     show _=_
     rw[← HI4.out,HT.out]
     simp)
    have HL5:Hid ((ac++[(32:Int)]).length=N2+1):=(by show _=_;rw[List.length_append,HAl.out];rfl)
    have hdec:l.length-(N2+1)<l.length-N:=(by have:=HNk.out;omega)
    have hownM:=hown3
    have hBM:=hB3
    clear HI4 HT HTl
    have hszA:(wr).heap.size≤((wr).alloc (.cells #[.int .u8 (32)] 5)).heap.size:=by simp
    have hrow:=u_row (wr) (32)
    have hownA:=hownM.alloc (.cells #[.int .u8 (32)] 5)
    go_wp2_with (at_builtin;refine wpList_append_w _ (by kernel_rfl) (.tmp 44) (.tmp 45) 75 5 (.int .u8 0) 1 1 rfl Tryz.underlying75 infoU rfl (by decide) (by decide) w.heap.size _ _ _ rfl hownA _ 1 (ucells [32]) rfl hrow (ucells_length _) (ucells_one _) (by omega) (by omega) ?_)
    intro v3 u3 hown4 hg4 _
    rw[← ucells_append] at hown4
    have hB4:Below w.heap.size w u3:=((hBM.alloc hBM.size _).grown hg4 (hBM.alloc hBM.size _).size (fun j hj=>owns_ge hownA hj))
    obtain⟨o4,c4,rfl⟩:=(holds_of hown4).form
    clear hrow hownA hg4 hszA
    go_wp2
    exact⟨⟨_,N2+1,by omega,⟨o4,c4,rfl⟩,hown4,hB4,HL5,HI5⟩,hdec⟩
   ·have HT:Hid (T=[]):=(by
     rcases HTl.out with h | h
     ·exact h.2
     ·omega)
    have j1:¬ (N2:Int)<(l.length:Int):=(by have:=HNk.out;have:=HDl.out;omega)
    have HI5:Hid (ac++shwL false false (l.drop N2)=R):=(by
     show _=_
     rw[← HI4.out,HT.out,List.drop_of_length_le (by omega)]
     rfl)
    have hdec:l.length-N2<l.length-N:=(by have:=HNk.out;have:=HDl.out;omega)
    clear HI4 HT HTl
    go_wp2
    exact⟨⟨ac,N2,hN2,⟨o2,c2',rfl⟩,hown3,hB3,HAl,HI5⟩,hdec⟩
 ·have hend:¬ (N:Int)<(l.length:Int):=by omega
  have HE:Hid (acc=R∧R.length=N):=(by
   have h:=HI.out
   rw[List.drop_of_length_le (by omega)] at h
   have h2:acc=R:=(by rw[← h];simp[shwL])
   exact⟨h2,by rw[← h2];exact HLn.out⟩)
  clear HI HLn
  go_wp2
  go_ret
  obtain⟨h1,h2⟩:=HE.out
  subst h1
  exact⟨_,rfl,by rw[h2];exact hown,hB⟩
end

section
open Go.RowKit
structure Ly (W:World) (X:Nat) (lv:Value) (acc:List Mk) (u:World):Prop where
 low:Below W.heap.size W u
 box:u.heap[X]?=some (.cells #[lv] 57)
 own:u.ownsRow W.heap.size 103 2 lv acc.length (mkcells acc)
 ge:W.heap.size≤X
section
variable {W u u':World} {X:Nat} {lv:Value} {acc:List Mk}
theorem Ly.keep (h:Ly W X lv acc u) (hb:Below u.heap.size u u'):Ly W X lv acc u':=⟨h.low.trans (hb.mono h.low.size),(hb.block X (Array.getElem?_eq_some_iff.1 h.box).1).trans h.box,owns_keep h.own hb,h.ge⟩
theorem Ly.cell (h:Ly W X lv acc u):u.cell? ⟨X,0,none⟩=some lv:=by rw[Lib.cell_of_heap h.box];rfl
theorem Ly.frozen (h:Ly W X lv acc u):u.frozen? ⟨X,0,none⟩=false:=Lib.frozen_of_heap h.box 0
theorem own_box2 {B:Nat} {e t:TypeId} {s:Nat} {v:Value} {n k:Nat} {xs:List Value} {cs:Array Value} {fr:Nat × Nat} (h:u.ownsRow B e s v n xs) (hb:u.heap[k]?=some (.cells cs t fr)) (he:e≠t):v.ownBlock≠some k:=by
 intro hg
 rcases h.2 with ⟨rfl,_⟩ | ⟨g,cap,cur,rfl,_,hg2,_⟩
 ·cases hg
 ·simp[Value.ownBlock] at hg
  subst hg
  rw[hb] at hg2
  simp at hg2
  exact he hg2.2.1.symm
theorem Ly.more (h:Ly W X lv acc u) {m:Mk} {lv':Value} {n:Nat} (hg:u.grownBy u' lv.ownBlock) (ho:u'.ownsRow W.heap.size 103 2 lv' n (mkcells (acc++[m]))) (hn:n=(acc++[m]).length):Ly W X lv' (acc++[m]) (u'.setCell ⟨X,0,none⟩ lv')∧u'.cell? ⟨X,0,none⟩=some lv∧u'.frozen? ⟨X,0,none⟩=false:=by
 subst hn
 have hb:u'.heap[X]?=some (.cells #[lv] 57):=(hg.block X (Array.getElem?_eq_some_iff.1 h.box).1 (fun e=>own_box2 h.own h.box (by decide) e.symm)).trans h.box
 have hlow:Below W.heap.size W u':=h.low.grown hg h.low.size (fun j hj=>owns_ge h.own hj)
 refine⟨⟨hlow.setCell h.ge _,heap_setCell_same u' X 0 _ _ lv' hb,?_,h.ge⟩,by rw[Lib.cell_of_heap hb];rfl,Lib.frozen_of_heap hb 0⟩
 have hg2:=grown_set u' X 0 lv'
 refine⟨ho.1,?_⟩
 rcases ho.2 with q | ⟨g,cap,cur,rfl,q2,q3,q4⟩
 ·exact .inl q
 ·refine .inr ⟨g,cap,cur,rfl,q2,?_,q4⟩
  rw[hg2.block g (Array.getElem?_eq_some_iff.1 q3).1 (fun e=>by
   cases e
   rw[hb] at q3
   simp at q3)]
  exact q3
end
theorem clay_f (sg:Int) (l acc:List Mk) (W:World) (X:Nat) (lv v:Value) (w:World) (hy:Ly W X lv acc w) (hv:HMk W v l) (hl:l.length≤1099511627776) (ha:acc.length≤1099511627776) (R:List Mk) (HR:Hid (acc++l.map (fun m=>⟨sg,m.tx⟩)=R)) :
  Calls Tryz.prog 215 #[.int .u8 sg,v,.pointer (some ⟨X,0,none⟩)] w fun e w'=>e=.returned (.tuple #[])∧∃ lv',Ly W X lv' R w':=by
 obtain⟨lo,lc,rfl⟩:=HMk.form hv
 have HR0:Hid (acc++(l.drop 0).map (fun m=>(⟨sg,m.tx⟩:Mk))=R∧acc.length=acc.length+0):=⟨by rw[List.drop_zero];exact HR.out,rfl⟩
 clear HR
 go_enter Tryz.func215,Tryz.ntmps215
 go_wp2
 go_loopw [9] (fun i wr=>∃ (k:Nat) (lv':Value) (ac:List Mk),k≤l.length∧i=.int .i64 k∧Ly W X lv' ac wr∧Hid (ac++(l.drop k).map (fun m=>(⟨sg,m.tx⟩:Mk))=R∧ac.length=acc.length+k)) (fun i _=>l.length-(intOf i).toNat)
 case atStart=>exact⟨0,lv,acc,Nat.zero_le _,by go_num,hy,HR0⟩
 case round =>
 clear HR0 hy
 obtain⟨k,lv1,ac,hk,rfl,hy,HI⟩:=hrel
 by_cases hlt:k<l.length
 ·obtain⟨bk,off,rfl,hbk,_⟩:=HMk.at hv (by omega)
  obtain⟨m,hm⟩:∃ m,l[k]=m:=⟨_,rfl⟩
  obtain⟨c0,c1⟩:=Low.mk hy.low hv k hlt hm
  have i1:(0:Int)≤(k:Int):=by omega
  have i2:(k:Int)<(l.length:Int):=by omega
  have HI2:Hid ((ac++[⟨sg,m.tx⟩])++(l.drop (k+1)).map (fun m=>(⟨sg,m.tx⟩:Mk))=R∧(ac++[(⟨sg,m.tx⟩:Mk)]).length=acc.length+(k+1)):=(by
   have h:=HI.out
   rw[List.drop_eq_getElem_cons hlt,hm] at h
   refine⟨?_,?_⟩
   ·rw[← h.1];simp
   ·rw[List.length_append,h.2];simp;omega)
  have hal:ac.length≤2199023255551:=(by have:=HI.out.2;omega)
  have hBa:Below wr.heap.size wr (wr.alloc (.cells #[.int .u8 m.sg,.string ⟨m.tx.toArray⟩] 103)):=(Below.refl _ wr).alloc (Nat.le_refl _) _
  have hya:=hy.keep hBa
  have hBb:Below (wr.alloc (.cells #[.int .u8 m.sg,.string ⟨m.tx.toArray⟩] 103)).heap.size (wr.alloc (.cells #[.int .u8 m.sg,.string ⟨m.tx.toArray⟩] 103)) ((wr.alloc (.cells #[.int .u8 m.sg,.string ⟨m.tx.toArray⟩] 103)).alloc (mkO ⟨sg,m.tx⟩)):=(Below.refl _ _).alloc (Nat.le_refl _) _
  have hyb:=hya.keep hBb
  have hrow:=mk_row (wr.alloc (.cells #[.int .u8 m.sg,.string ⟨m.tx.toArray⟩] 103)) ⟨sg,m.tx⟩
  rw[show (wr.alloc (.cells #[.int .u8 m.sg,.string ⟨m.tx.toArray⟩] 103)).heap.size=wr.heap.size+1 by simp] at hrow
  have hx0:=hya.cell
  have hx1:=hy.cell
  have hW:(wr.alloc (.cells #[.int .u8 m.sg,.string ⟨m.tx.toArray⟩] 103)).alloc (.cells #[.int .u8 sg,.string ⟨m.tx.toArray⟩] 103)=(wr.alloc (.cells #[.int .u8 m.sg,.string ⟨m.tx.toArray⟩] 103)).alloc (mkO ⟨sg,m.tx⟩):=rfl
  have hownb:=hyb.own
  have hlow:=hyb.low.size
  obtain⟨o1,n1,c1',rfl⟩:∃ o n c,lv1=.slice o n c:=(by obtain⟨o,c,h⟩:=(holds_of hy.own).form;exact⟨o,_,c,h⟩)
  clear HI hm hBa hBb hya hy
  go_wp2_with (at_builtin;refine wpList_append_w _ (by kernel_rfl) (.tmp 13) (.tmp 18) 57 103 (.agg #[.int .u8 0,.string ⟨#[]⟩]) 2 24 rfl Tryz.underlying57 infoMk rfl (by decide) (by decide) W.heap.size _ _ _ rfl hownb _ 1 (mkcells [⟨sg,m.tx⟩]) rfl hrow (mkcells_length _) (mkcells_one _) (by omega) hlow ?_)
  intro v3 u3 hown3 hg3 _
  rw[← mkcells_append] at hown3
  obtain⟨hy3,x1,x2⟩:=hyb.more hg3 hown3 (by rw[List.length_append];rfl)
  obtain⟨o3,c3,rfl⟩:=(holds_of hown3).form
  clear hW hrow hownb hown3 hg3 hyb hx0 hx1 c0 c1
  go_wp2
  exact⟨⟨k+1,_,_,by omega,by go_num,hy3,HI2⟩,by simp[intOf];omega⟩
 ·have hend:decide ((k:Int)<(l.length:Int))=false:=decide_eq_false (by omega)
  have hE:ac=R:=(by
   have h:=HI.out.1
   rw[List.drop_of_length_le (by omega)] at h
   simpa using h)
  subst hE
  clear HI
  go_wp2
  first
   | go_end0
   | refine bodyPost_ret (results_none rfl _ _ _) rfl ?_
   | refine bodyPost_end (results_none rfl _ _ _) rfl ?_
  exact⟨rfl,lv1,hy⟩
theorem mk_ne (s t:List UInt8) (r:Bool) (h:(s != t)=r) (u:World):(binOp .neq 103 (.agg #[.int .u8 32,.string ⟨s.toArray⟩]) (.agg #[.int .u8 32,.string ⟨t.toArray⟩])).run Tryz.prog u=.ok (.bool r) u:=by
 have hst:Tryz.prog.underlying 103=some (.struct (Tryz.prog.fieldsOf 103)):=by kernel_rfl
 have hsi:Tryz.prog.stoodInHeld 103=false:=by kernel_rfl
 have hff : (Tryz.prog.fieldsOf 103).toList = [⟨"Sign", 5, 0, false, "", "", 0⟩, ⟨"Text", 9, 1, false, "", "", 8⟩] := by kernel_rfl
 rw[run_neq_struct,run_equalIn_agg u 9999 _ _ _ hst hsi,hff]
 have p1:∀ (x y:Value) (u:World),(part 5 #[.int .u8 32,y] 0).run Tryz.prog u=.ok (.int .u8 32) u:=fun _ _ _=>by kernel_rfl
 have p2:∀ (z:ByteArray) (u:World),(part 9 #[.int .u8 32,.string z] 1).run Tryz.prog u=.ok (.string z) u:=fun _ _=>by kernel_rfl
 have q1:=run_equalIn_int (P:=Tryz.prog) u 9998 5 .u8 .u8 32 32 Tryz.underlying5
 have q2:=run_equalIn_string (P:=Tryz.prog) u 9998 9 ⟨s.toArray⟩ ⟨t.toArray⟩ Tryz.underlying9
 have e1:(⟨s.toArray⟩:ByteArray).toList=s:=by rw[ByteArray.toList_eq]
 have e2:(⟨t.toArray⟩:ByteArray).toList=t:=by rw[ByteArray.toList_eq]
 rw[e1,e2] at q2
 have n1 : ("Sign" : String) ≠ "_" := by decide
 have n2 : ("Text" : String) ≠ "_" := by decide
 simp only[Op.eqFields,n1,n2,ne_eq,not_false_eq_true,if_true,Sem.run_bind,p1 .nilIface,p2,q1,q2,Result.andThen_ok,Sem.run_ite]
 rw[← h]
 cases hst2:(s == t)<;>simp[bne,hst2]
theorem rst_drop (l:List Mk):l.drop (chgM l).length=rstM l:=by
 have h:=chg_rstM l
 have h2:(chgM l++rstM l).drop (chgM l).length=rstM l:=List.drop_left
 rw[h] at h2
 exact h2
def thenJ (a:List Mk) (X:Option (List Mk)):Option (List Mk):=X.map (a++·)
def LdQ (w:World) (X:Option (List Mk)) (e:Ending) (w':World):Prop:=∃ v r,e=.returned (.tuple #[v,.bool r])∧Below w.heap.size w w'∧match X with
 | none=>r=false
 | some l=>r=true∧w'.ownsRow w.heap.size 103 2 v l.length (mkcells l)
theorem claid_f (o v:Sde) (vo vv:Value) (w:World) (ho:HMk w vo (kM o)) (hv:HMk w vv (kM v)) (hol:o.length≤137438953472) (hvl:v.length≤137438953472) (Y:Option (List Mk)) (HY:Hid (jnX o v=Y)) :
  Calls Tryz.prog 155 #[vo,vv] w fun e w'=>LdQ w Y e w':=by
 have hX0:Ly w w.heap.size (.slice none 0 0) [] (w.alloc (.cells #[.slice none 0 0] 57)):=⟨(Below.refl _ w).alloc (Nat.le_refl _) _,heap_alloc_new w _,hnil_row _ _ _ _,Nat.le_refl _⟩
 have HI0:Hid (thenJ [] (jnX o v)=Y∧([]:List Mk).length+o.length+v.length≤o.length+v.length):=⟨by rw[← HY.out];unfold thenJ;cases jnX o v<;>rfl,by simp⟩
 obtain⟨T,hT⟩:∃ T,o.length+v.length=T:=⟨_,rfl⟩
 rw[hT] at HI0
 have hTl:T≤274877906944:=by omega
 obtain⟨ao,ac,rfl⟩:=HMk.form ho
 obtain⟨bo,bc,rfl⟩:=HMk.form hv
 clear HY hT
 have hmf:∀ (fn:Fn) (first cap:Array Value) (w:World),(Instr.makeFunc fn first cap).run Tryz.prog w=.ok (.func fn first cap) w:=fun _ _ _ _=>rfl
 go_enter Tryz.func155,Tryz.ntmps155
 go_wp2
 generalize hX:w.heap.size=X at hX0 ⊢
 have HX:Hid (w.heap.size=X):=hX
 clear hX
 go_loopw [0,1] (fun ov nv wr=>∃ (o v:Sde) (lv:Value) (acc:List Mk) (ao bo:Option Addr) (ac bc:Nat),ov=.slice ao (kM o).length ac∧nv=.slice bo (kM v).length bc∧HMk w (.slice ao (kM o).length ac) (kM o)∧HMk w (.slice bo (kM v).length bc) (kM v)∧Ly w X lv acc wr∧Hid (thenJ acc (jnX o v)=Y∧acc.length+o.length+v.length≤T)) (fun ov _ _=>lenW ov)
 case atStart=>exact⟨o,v,_,[],ao,bo,ac,bc,rfl,rfl,ho,hv,hX0,HI0⟩
 case round =>
 clear HI0 hX0 ho hv hol hvl
 obtain⟨o,v,lv,acc,ao,bo,ac,bc,rfl,rfl,ho,hv,hy,HI⟩:=hrel
 have hoT:o.length≤274877906944:=(by have:=HI.out.2;omega)
 obtain⟨n1,hn1⟩:∃ n,(chgM (kM o)).length=n:=⟨_,rfl⟩
 obtain⟨n2,hn2⟩:∃ n,(chgM (kM v)).length=n:=⟨_,rfl⟩
 have le1:n1≤(kM o).length:=(by rw[← hn1];exact chg_le _)
 have le2:n2≤(kM v).length:=(by rw[← hn2];exact chg_le _)
 have g1:=mk_to ho n1 le1
 have g2:=mk_to hv n2 le2
 rw[show (kM o).take n1=chgM (kM o) by rw[← hn1];exact chg_take _] at g1
 rw[show (kM v).take n2=chgM (kM v) by rw[← hn2];exact chg_take _] at g2
 have d1:=mk_from ho n1 le1
 have d2:=mk_from hv n2 le2
 have s1:=run_mF ao (kM o).length ac n1 le1 (mhold_cap ho)
 have s2:=run_mF bo (kM v).length bc n2 le2 (mhold_cap hv)
 rw[show (kM o).drop n1=kM (rstS o) by rw[← hn1,rst_drop,rst_kM]] at d1
 rw[show (kM v).drop n2=kM (rstS v) by rw[← hn2,rst_drop,rst_kM]] at d2
 have x1:(kM o).length-n1=(kM (rstS o)).length:=(by rw[← rst_kM,← rst_drop,hn1,List.length_drop])
 have x2:(kM v).length-n2=(kM (rstS v)).length:=(by rw[← rst_kM,← rst_drop,hn2,List.length_drop])
 rw[x1] at d1 s1
 rw[x2] at d2 s2
 clear x1 x2
 have HLen:Hid (acc.length+o.length+v.length≤T∧n1+(rstS o).length=o.length∧n2+(rstS v).length=v.length):=⟨HI.out.2,by
  have h:=congrArg List.length (chg_rst o)
  rw[List.length_append] at h
  rw[← hn1,chg_kM,kM_len]
  exact h,by
  have h:=congrArg List.length (chg_rst v)
  rw[List.length_append] at h
  rw[← hn2,chg_kM,kM_len]
  exact h⟩
 obtain⟨mr,hmr⟩:∃ r,mtM (chgM (kM o)) (chgM (kM v))=r:=⟨_,rfl⟩
 have hokr:okJ (chgS o) (chgS v)=mr:=(by rw[← hmr,chg_kM,chg_kM,mt_kM])
 have HJ:=HI.out.1
 rw[jnX_eq,hokr] at HJ
 obtain⟨A1,hA1⟩:∃ Z,acc++(chgM (kM o)).map (fun m=>(⟨45,m.tx⟩:Mk))=Z:=⟨_,rfl⟩
 obtain⟨A2,hA2⟩:∃ Z,A1++(chgM (kM v)).map (fun m=>(⟨43,m.tx⟩:Mk))=Z:=⟨_,rfl⟩
 have HA:Hid (acc++(mkS 45 (chgS o)++mkS 43 (chgS v))=A2):=(by
  show _=_
  rw[← hA2,← hA1,mkS_kM,mkS_kM,← chg_kM,← chg_kM,List.append_assoc])
 have HAl:Hid (acc.length≤274877906944∧A1.length=acc.length+n1∧A2.length=acc.length+n1+n2):=(by
  have h1:=congrArg List.length hA1
  have h2:=congrArg List.length hA2
  simp only[List.length_append,List.length_map,hn1,hn2] at h1 h2
  have:=HLen.out.1
  exact⟨by omega,by omega,by omega⟩)
 have cp1:=fun u hu=>cpiece_f (kM o) ao ac u (ho.keep hu (Nat.le_refl _)) (by have:=HLen.out;rw[kM_len];omega) n1 hn1
 have cp2:=fun u hu=>cpiece_f (kM v) bo bc u (hv.keep hu (Nat.le_refl _)) (by have:=HLen.out;rw[kM_len];omega) n2 hn2
 have cm:=fun u hu=>cmatched_f (chgM (kM o)) (chgM (kM v)) (.slice ao n1 ac) (.slice bo n2 bc) u (g1.keep hu (Nat.le_refl _)) (g2.keep hu (Nat.le_refl _)) (by have:=HLen.out;rw[hn1];omega) (by have:=HLen.out;rw[hn2];omega) mr hmr
 generalize mslF ao ac n1=ao2 at d1 s1
 generalize ac-n1=ac2 at d1 s1
 generalize mslF bo bc n2=bo2 at d2 s2
 generalize bc-n2=bc2 at d2 s2
 clear hmr hokr HI
 go_wp2_with fail
 refine (cp1 wr hy.low).mono ?_
 rintro e w1 ⟨rfl,hB1⟩
 have hy1:=hy.keep hB1
 go_wp2_with fail
 refine (cp2 w1 hy1.low).mono ?_
 rintro e w2 ⟨rfl,hB2⟩
 have hy2:=hy1.keep hB2
 go_wp2_with fail
 refine (cm w2 hy2.low).mono ?_
 rintro e w3 ⟨rfl,hB3⟩
 have hy3:=hy2.keep hB3
 clear hy hy1 hy2 hB1 hB2 hB3 cp1 cp2 cm
 cases mr with
 | false =>
  rw[if_neg (by decide)] at HJ
  have HE:Hid (none=Y):=HJ
  clear HJ
  go_wp2
  go_ret2
  exact⟨_,_,rfl,hy3.low,by rw[← HE.out]⟩
 | true =>
  rw[if_pos rfl] at HJ
  have cl1:=fun lv u (hy:Ly w X lv acc u)=>clay_f 45 (chgM (kM o)) acc w X lv (.slice ao n1 ac) u hy g1 (by have:=HLen.out;rw[hn1];omega) (by have:=HAl.out;omega) A1 hA1
  have cl2:=fun lv u (hy:Ly w X lv A1 u)=>clay_f 43 (chgM (kM v)) A1 w X lv (.slice bo n2 bc) u hy g2 (by have:=HLen.out;rw[hn2];omega) (by have:=HAl.out;have:=HLen.out;omega) A2 hA2
  have HJ2:Hid (thenJ acc (match rstS o,rstS v with
   | [],[]=>some (mkS 45 (chgS o)++mkS 43 (chgS v))
   | (_,s)::o2,(_,t)::w2=>if s=t then match jnX o2 w2 with
    | none=>none
    | some l=>some (mkS 45 (chgS o)++(mkS 43 (chgS v)++⟨32,s⟩::l)) else none
   | _,_=>none)=Y):=HJ
  have HF:Hid ((∀ y x2,rstS o=y::x2→y.1=32)∧(∀ y x2,rstS v=y::x2→y.1=32)):=⟨fun y x2 h=>rst_head h,fun y x2 h=>rst_head h⟩
  clear HJ hA1 hA2 g1 g2 hn1 hn2 ho hv
  go_wp2_with fail
  refine (cl1 _ _ hy3).mono ?_
  rintro e w4 ⟨rfl,lv4,hy4⟩
  clear hy3 cl1
  go_wp2_with fail
  refine (cl2 _ _ hy4).mono ?_
  rintro e w5 ⟨rfl,lv5,hy5⟩
  clear hy4 cl2
  go_wp2_with fail
  go_quiet (fail)
  have hyd:Ly w X lv5 A2 (w5.drewN nq):=hy5.keep (below_drewN (Below.refl _ _) nq)
  clear hy5 s1 s2
  generalize w5.drewN nq=w6 at hyd ⊢
  have hYc:=hyd.cell
  generalize rstS o=O at d1 HJ2 HF HLen ⊢
  generalize rstS v=V at d2 HJ2 HF HLen ⊢
  have HR:Hid (ac2+bc2+n1+n2+n1+n2 ≥ 0):=Nat.zero_le _
  cases O with
  | nil =>
   have e0:(kM ([]:Sde)).length=0:=rfl
   rw[e0]
   cases V with
   | nil =>
    rw[e0]
    have HE:Hid (some A2=Y):=(by rw[← HJ2.out];show _=thenJ acc (some _);show _=some (acc++_);rw[HA.out])
    clear HJ2 HF d1 d2
    go_wp2
    go_ret2
    exact⟨_,_,rfl,hyd.low,by rw[← HE.out];exact⟨rfl,hyd.own⟩⟩
   | cons z v3 =>
    have f2:(((0:Nat):Int) == ((kM (z::v3)).length:Int))=false:=(by simp[kM];omega)
    have HE:Hid (none=Y):=HJ2.out
    clear HJ2 HF d1 d2
    generalize (kM (z::v3)).length=L2 at f2 ⊢
    go_wp2
    go_ret2
    exact⟨_,_,rfl,hyd.low,by rw[← HE.out];exact f2⟩
  | cons y o3 =>
   have f1:(((kM (y::o3)).length:Int) == 0)=false:=(by simp[kM];omega)
   cases V with
   | nil =>
    have e0:(kM ([]:Sde)).length=0:=rfl
    rw[e0]
    have HE:Hid (none=Y):=HJ2.out
    clear HJ2 HF d1 d2
    generalize (kM (y::o3)).length=L1 at f1 ⊢
    go_wp2
    go_ret2
    exact⟨_,_,rfl,hyd.low,by rw[← HE.out]⟩
   | cons z v3 =>
    have f2:(((kM (z::v3)).length:Int) == 0)=false:=(by simp[kM];omega)
    obtain⟨yk,ys⟩:=y
    obtain⟨zk,zs⟩:=z
    obtain rfl:yk=32:=HF.out.1 _ _ rfl
    obtain rfl:zk=32:=HF.out.2 _ _ rfl
    obtain⟨L1,hL1⟩:∃ n,(kM ((32,ys)::o3)).length=n:=⟨_,rfl⟩
    obtain⟨L2,hL2⟩:∃ n,(kM ((32,zs)::v3)).length=n:=⟨_,rfl⟩
    have p1:0<L1:=(by rw[← hL1,kM_cons];exact Nat.succ_pos _)
    have p2:0<L2:=(by rw[← hL2,kM_cons];exact Nat.succ_pos _)
    have k1:=mhold_cap d1
    have k2:=mhold_cap d2
    obtain⟨ob,oo,rfl,hob,_⟩:=HMk.at d1 (by rw[hL1];exact p1)
    obtain⟨vb,vo,rfl,hvb,_⟩:=HMk.at d2 (by rw[hL2];exact p2)
    obtain⟨y1,y2⟩:=Low.mk hyd.low d1 0 (by rw[hL1];exact p1) (x:=⟨32,ys⟩) rfl
    obtain⟨z1,z2⟩:=Low.mk hyd.low d2 0 (by rw[hL2];exact p2) (x:=⟨32,zs⟩) rfl
    have s1:=run_mF (some ⟨ob,oo,none⟩) L1 ac2 1 (by omega) (by omega)
    have s2:=run_mF (some ⟨vb,vo,none⟩) L2 bc2 1 (by omega) (by omega)
    have t1:=run_mT (some ⟨ob,oo,none⟩) L1 ac2 1 (by omega) (by omega)
    have r1:=mk_from d1 1 (by omega)
    have r2:=mk_from d2 1 (by omega)
    have ra:=mk_to d1 1 (by omega)
    rw[hL1] at r1 f1
    rw[hL2] at r2 f2
    rw[hL1,hL2]
    have hg1:L1-1=(kM o3).length:=(by rw[← hL1,kM_cons];rfl)
    have hg2:L2-1=(kM v3).length:=(by rw[← hL2,kM_cons];rfl)
    rw[hg1] at r1 s1
    rw[hg2] at r2 s2
    have hr1:HMk w (.slice (mslF (some ⟨ob,oo,none⟩) ac2 1) (kM o3).length (ac2-1)) (kM o3):=r1
    have hr2:HMk w (.slice (mslF (some ⟨vb,vo,none⟩) bc2 1) (kM v3).length (bc2-1)) (kM v3):=r2
    have hra:HMk w (.slice (some ⟨ob,oo,none⟩) 1 ac2) [⟨32,ys⟩]:=ra
    clear r1 r2 ra d1 d2
    obtain⟨ao4,hao4⟩:∃ x,mslF (some ⟨ob,oo,none⟩) ac2 1=x:=⟨_,rfl⟩
    rw[hao4] at s1 hr1
    have HA4:Hid ((if ac2=1 then some (⟨ob,oo,none⟩:Addr) else some ⟨ob,oo+2,none⟩)=ao4):=(by
     show _=_
     rw[← hao4,mslF]
     split<;>rfl)
    clear hao4
    obtain⟨bo4,hbo4⟩:∃ x,mslF (some ⟨vb,vo,none⟩) bc2 1=x:=⟨_,rfl⟩
    rw[hbo4] at s2 hr2
    have HB:Hid ((if bc2=1 then some (⟨vb,vo,none⟩:Addr) else some ⟨vb,vo+2,none⟩)=bo4):=(by
     show _=_
     rw[← hbo4,mslF]
     split<;>rfl)
    clear hbo4
    rw[Nat.zero_mul,Nat.add_zero] at y1 y2 z1 z2
    obtain⟨r,hr⟩:∃ r,(ys != zs)=r:=⟨_,rfl⟩
    have hne:=mk_ne ys zs r hr
    have hg:Tryz.prog.eqGuardType Tryz.prog.depth 103=false:=by kernel_rfl
    clear hmf
    have HLen2:Hid (A2.length+1+o3.length+v3.length≤T):=(by
     have h1:=HLen.out
     have h2:=HAl.out
     simp only[List.length_cons] at h1
     show _≤_
     omega)
    have cl:=fun lv u (hy:Ly w X lv A2 u)=>clay_f 32 [⟨32,ys⟩] A2 w X lv (.slice (some ⟨ob,oo,none⟩) 1 ac2) u hy hra (by simp) (by have:=HLen2.out;omega) (A2++[(⟨32,ys⟩:Mk)]) (by show _=_;rfl)
    have i1:(0:Int)<(L1:Int):=by omega
    have i2:(0:Int)<(L2:Int):=by omega
    go_wp2_with fail
    go_quiet (fail)
    have hye:=hyd.keep (below_drewN (Below.refl _ _) nq)
    clear hyd hYc y1 y2 z1 z2 hne i1 i2 hg f1 f2
    generalize w6.drewN nq=w7 at hye ⊢
    cases r with
    | true =>
     have hne2:ys≠zs:=(by intro e;subst e;simp at hr)
     have HE:Hid (none=Y):=(by
      have h:=HJ2.out
      rw[if_neg hne2] at h
      exact h)
     clear HJ2
     go_wp2
     go_ret2
     exact⟨_,_,rfl,hye.low,by rw[← HE.out]⟩
    | false =>
     have he2:ys=zs:=(by simpa using hr)
     have HE:Hid (thenJ (A2++[⟨32,ys⟩]) (jnX o3 v3)=Y):=(by
      have h:=HJ2.out
      rw[if_pos he2] at h
      show _=_
      rw[← h,← HA.out]
      cases jnX o3 v3 with
      | none=>rfl
      | some l=>simp[thenJ])
     clear HJ2 HF hr
     go_wp2_with fail
     refine (cl _ _ hye).mono ?_
     rintro e w8 ⟨rfl,lv8,hy8⟩
     clear hye cl
     go_wp2_with fail
     go_quiet (fail)
     have hy9:=hy8.keep (below_drewN (Below.refl _ _) nq)
     clear hy8
     go_wp2
     refine⟨⟨o3,v3,lv8,_,ao4,bo4,ac2-1,bc2-1,by first | rfl | rw[HA4.out],by first | rfl | rw[HB.out],hr1,hr2,hy9,⟨HE.out,?_⟩⟩,?_⟩
     ·have h:=HLen2.out
      rw[List.length_append]
      simp only[List.length_singleton]
      omega
     ·have h:=HLen.out.2.1
      simp only[List.length_cons] at h
      simp only[lenW,kM_len]
      omega
end

end Go.Proofs.YtgiojkhmkeocfaaGreatDoor
