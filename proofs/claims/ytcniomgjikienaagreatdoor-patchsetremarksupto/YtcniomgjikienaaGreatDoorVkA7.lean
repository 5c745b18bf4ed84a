/-
  Texts that belong together, joined: CwC, CwD, CqB, CqU, CpA, CpB, UkA, UkN, UnC, UkB, UkC.
-/
import Derived.Test.YtcniomgjikienaaGreatDoorVkA6
import Derived.Lib.IndexAny
import Derived.Laws.RangeAny
import Derived.Deep.QuietTactic
import Derived.WalkLawsBesides
import Derived.Deep.DeepCutAuto
import Derived.Deep.CutBlock
import Derived.Lib.IndexMore
import Derived.Test.YtcniomgjikienaaGreatDoorVkA3

set_option maxHeartbeats 16000000
set_option maxRecDepth 100000
namespace Go.Proofs.YtcniomgjikienaaGreatDoor

section
open Ln Go.RowKit
def idxI (p:Mk→Bool):Nat→List Mk→Int
 | _,[]=>-1
 | k,m::l=>if p m=true then (k:Int) else idxI p (k+1) l
theorem Zew (p:Mk→Bool) (l:List Mk):∀ k,decide (0≤idxI p k l)=l.any p:=by
 induction l with
 | nil=>intro k;rfl
 | cons m l ih =>
  intro k
  rw[List.any_cons]
  by_cases h:p m=true
  ·have e:idxI p k (m::l)=(k:Int):=if_pos h
   rw[e,h]
   simp
  ·have e:idxI p k (m::l)=idxI p (k+1) l:=if_neg h
   rw[e,ih,Bool.eq_false_iff.2 h]
   rfl
theorem Zbr {m:Mk} {l:List Mk} (h:m.sg≠32):chgM (m::l)=m::chgM l∧rstM (m::l)=rstM l:=by
 have h1:(m.sg != 32)=true:=by simp[h]
 constructor
 ·simp only[chgM,List.takeWhile_cons,h1];rfl
 ·simp only[rstM,List.dropWhile_cons,h1];rfl
theorem Zbq {m:Mk} {l:List Mk} (h:m.sg=32):chgM (m::l)=[]∧rstM (m::l)=m::l:=by
 have h1:(m.sg != 32)=false:=by simp[h]
 constructor
 ·simp only[chgM,List.takeWhile_cons,h1];rfl
 ·simp only[rstM,List.dropWhile_cons,h1];rfl
theorem Zex (l:List Mk):∀ k,idxI (fun m=>m.sg == 32) k l=if rstM l=[] then -1 else (k:Int)+(chgM l).length:=by
 induction l with
 | nil=>intro k;rfl
 | cons m l ih =>
  intro k
  by_cases h:m.sg=32
  ·have e:idxI (fun m=>m.sg == 32) k (m::l)=(k:Int):=if_pos (by simp[h])
   rw[e,(Zbq h).1,(Zbq h).2,if_neg (by simp)]
   simp
  ·have e:idxI (fun m=>m.sg == 32) k (m::l)=idxI (fun m=>m.sg == 32) (k+1) l:=if_neg (by simp[h])
   rw[e,ih,(Zbr h).1,(Zbr h).2]
   by_cases hq:rstM l=[]
   ·rw[if_pos hq,if_pos hq]
   ·rw[if_neg hq,if_neg hq]
    simp only[List.length_cons];omega
theorem Zey {p:Mk→Bool} {l:List Mk} {k:Nat} (hk:k<l.length):idxI p k (l.drop k)=if p l[k]=true then (k:Int) else idxI p (k+1) (l.drop (k+1)):=by
 rw[List.drop_eq_getElem_cons hk]
 rfl
theorem ZaR (g:Nat) (cap:Array Value) (l:List Mk) (p:Mk→Bool) (v:Value) (w:World) (hv:HMk w v l) (hl:l.length≤1099511627776) (eg:∀ args w,(callFunc g args).run Tryz.prog w=.ok (.enter g args) w)
  (hf:Hid (∀ m∈l,∀ u:World,Below w.heap.size w u→Calls Tryz.prog g (#[.agg #[.int .u8 m.sg,.string ⟨m.tx.toArray⟩]]++cap) u fun e u'=>e=.returned (.bool (p m))∧Below u.heap.size u u')) (z:Int) (HR:Hid (idxI p 0 l=z)) :
  Calls Tryz.prog 298 #[v,.func (.func g) #[] cap] w fun e w'=>e=.returned (.int .i64 z)∧Below w.heap.size w w':=by
 obtain⟨lo,lc,rfl⟩:=HMk.form hv
 go_enter Tryz.func298,Tryz.ntmps298
 go_wp2
 go_loopw [5,8] (fun _ i wr=>∃ k:Nat,k≤l.length∧i=.int .i64 k∧Below w.heap.size w wr∧Hid (idxI p k (l.drop k)=z)) (fun _ i _=>l.length-(intOf i).toNat)
 case atStart=>exact⟨0,Nat.zero_le _,rfl,Below.refl _ _,HR⟩
 case round =>
  obtain⟨k,hk,rfl,hB,HI⟩:=hrel
  clear HR
  by_cases hlt:k<l.length
  ·obtain⟨b,off,rfl,hb,_⟩:=HMk.at hv (by omega)
   obtain⟨m,hm⟩:∃ m,l[k]=m:=⟨_,rfl⟩
   obtain⟨c0,c1⟩:=Low.mk hB hv k hlt hm
   have hc:=hf.out m (by rw[← hm];exact List.getElem_mem hlt) wr hB
   have i1:0≤(k:Int):=by omega
   have i2:(k:Int)<(l.length:Int):=by omega
   have HI2:Hid ((if p m=true then (k:Int) else idxI p (k+1) (l.drop (k+1)))=z):=(by
    have h:=HI.out
    rw[Zey hlt,hm] at h
    exact h)
   obtain⟨q,hq⟩:∃ q,p m=q:=⟨_,rfl⟩
   rw[hq] at hc HI2
   clear HI hm hq
   cases q with
   | true =>
    have HE:Hid ((k:Int)=z):=(by have h:=HI2.out;rw[if_pos rfl] at h;exact h)
    clear HI2
    go_wp2_with (go_at_fn g;refine hc.mono ?_;rintro e w' ⟨rfl,hB1⟩)
    go_ret
    exact⟨by rw[HE.out];rfl,hB.trans (hB1.mono hB.size)⟩
   | false =>
    have HE:Hid (idxI p (k+1) (l.drop (k+1))=z):=(by have h:=HI2.out;rw[if_neg (by decide)] at h;exact h)
    clear HI2
    go_wp2_with (go_at_fn g;refine hc.mono ?_;rintro e w' ⟨rfl,hB1⟩)
    exact⟨⟨k+1,by omega,by go_num,hB.trans (hB1.mono hB.size),HE⟩,by simp[intOf];omega⟩
  ·have HE:Hid (-1=z):=(by
    have h:=HI.out
    rw[List.drop_of_length_le (by omega)] at h
    exact h)
   clear HI
   have hend:decide ((k:Int)<(l.length:Int))=false:=decide_eq_false (by omega)
   go_wp2
   go_ret
   exact⟨by rw[HE.out];rfl,hB⟩
theorem ZaQ (g:Nat) (cap:Array Value) (l:List Mk) (p:Mk→Bool) (v:Value) (w:World) (hv:HMk w v l) (hl:l.length≤1099511627776) (eg:∀ args w,(callFunc g args).run Tryz.prog w=.ok (.enter g args) w)
  (hf:Hid (∀ m∈l,∀ u:World,Below w.heap.size w u→Calls Tryz.prog g (#[.agg #[.int .u8 m.sg,.string ⟨m.tx.toArray⟩]]++cap) u fun e u'=>e=.returned (.bool (p m))∧Below u.heap.size u u')) (r:Bool) (HR:Hid (l.any p=r)) :
  Calls Tryz.prog 245 #[v,.func (.func g) #[] cap] w fun e w'=>e=.returned (.bool r)∧Below w.heap.size w w':=by
 obtain⟨z,hz⟩:∃ z,idxI p 0 l=z:=⟨_,rfl⟩
 have HC:=ZaR g cap l p v w hv hl eg hf z hz
 have HZ:Hid (decide (0≤z)=r):=(by show _=_;rw[← hz,Zew];exact HR.out)
 clear hz HR
 obtain⟨lo,lc,rfl⟩:=HMk.form hv
 go_enter Tryz.func245,Tryz.ntmps245
 go_wp2_with fail
 refine HC.mono ?_
 rintro e w1 ⟨rfl,hB⟩
 go_wp2
 go_ret
 exact⟨by rw[HZ.out];rfl,hB⟩
theorem Zby (m:Mk) (w:World):Calls Tryz.prog 309 #[.agg #[.int .u8 m.sg,.string ⟨m.tx.toArray⟩]] w fun e w'=>e=.returned (.bool (m.sg == 32))∧Below w.heap.size w w':=by
 have hBl:Below w.heap.size w (w.alloc (.cells #[.int .u8 m.sg,.string ⟨m.tx.toArray⟩] 47)):=(Below.refl _ w).alloc (Nat.le_refl _) _
 go_enter Tryz.func309,Tryz.ntmps309
 go_wp2
 go_ret
 exact⟨rfl,hBl⟩
theorem Zbw (l:List Mk):l.take (chgM l).length=chgM l:=by
 have h:=Zbv l
 have h2:(chgM l++rstM l).take (chgM l).length=chgM l:=List.take_left
 rw[h] at h2
 exact h2
theorem Zbt (l:List Mk):(chgM l).length≤l.length:=by
 have h:=congrArg List.length (Zbv l)
 rw[List.length_append] at h
 omega
theorem ZjG {l:List Mk} (h:rstM l=[]):chgM l=l:=by
 have h1:=Zbv l
 rw[h,List.append_nil] at h1
 exact h1
def mslF (ao:Option Addr) (cap k:Nat):Option Addr:=if cap=k then ao else ao.map (·.add (k * 2))
theorem ZjL (ao:Option Addr) (n cap k:Nat) (hk:k≤n) (_:n≤cap) (u:World):(Instr.slice 43 (.slice ao n cap) (some (.int .i64 (k:Int))) none none).run Tryz.prog u=.ok (.slice (mslF ao cap k) (n-k) (cap-k)) u:=by
 rw[run_slice_l (P:=Tryz.prog) u 43 ao n cap (by kernel_rfl) .i64 k (by omega) (by omega)]
 have:(sizeOf (Tryz.prog.elem 43)).run Tryz.prog u=.ok 2 u:=by kernel_rfl
 rw[this]
 simp[Result.andThen,sliced,mslF]
theorem ZfQ (ad:Addr):ad.add 0=ad:=by unfold Addr.add;split<;>simp_all
theorem ZjM (ao:Option Addr) (n cap k:Nat) (hk:k≤n) (hn:n≤cap) (u:World):(Instr.slice 43 (.slice ao n cap) none (some (.int .i64 (k:Int))) none).run Tryz.prog u=.ok (.slice ao k cap) u:=by
 rw[run_slice_h (P:=Tryz.prog) u 43 ao n cap (by kernel_rfl) .i64 k (by omega) (by omega)]
 have:(sizeOf (Tryz.prog.elem 43)).run Tryz.prog u=.ok 2 u:=by kernel_rfl
 rw[this]
 cases ao with
 | none=>simp[Result.andThen,sliced]
 | some ad=>simp[Result.andThen,sliced,ZfQ]
theorem Zgb {w:World} {ao:Option Addr} {n c:Nat} {xs:List Value} (h:Holds w (.slice ao n c) n xs):n≤c:=by
 rcases h with ⟨h,h0,_⟩ | ⟨ad,c',h,h3,_⟩
 ·omega
 ·cases h;exact h3
theorem Zgr (l:List Mk) (k:Nat):(mkcells l).take (k * 2)=mkcells (l.take k):=by
 induction k generalizing l with
 | zero=>simp[mkcells]
 | succ k ih =>
  cases l with
  | nil=>simp[mkcells]
  | cons m l =>
   have e:(k+1) * 2=k * 2+1+1:=by omega
   have h1:mkcells (m::l)=.int .u8 m.sg::.string ⟨m.tx.toArray⟩::mkcells l:=rfl
   have h2:mkcells ((m::l).take (k+1))=.int .u8 m.sg::.string ⟨m.tx.toArray⟩::mkcells (l.take k):=rfl
   rw[e,h1,h2,List.take_succ_cons,List.take_succ_cons,ih]
theorem Zgn (l:List Mk) (k:Nat):(mkcells l).drop (k * 2)=mkcells (l.drop k):=by
 induction k generalizing l with
 | zero=>simp
 | succ k ih =>
  cases l with
  | nil=>simp[mkcells]
  | cons m l =>
   have e:(k+1) * 2=k * 2+1+1:=by omega
   have h1:mkcells (m::l)=.int .u8 m.sg::.string ⟨m.tx.toArray⟩::mkcells l:=rfl
   rw[e,h1,List.drop_succ_cons,List.drop_succ_cons,ih]
   rfl
theorem Zgk {w:World} {ao:Option Addr} {c:Nat} {l:List Mk} (h:HMk w (.slice ao l.length c) l) (k:Nat) (hk:k≤l.length):HMk w (.slice ao k c) (l.take k):=by
 have hlt:(l.take k).length=k:=by rw[List.length_take];omega
 unfold HMk at h ⊢
 rw[hlt]
 rcases h with ⟨h,h0,h4⟩ | ⟨ad,c',h,h3,hc⟩
 ·have hl0:l=[]:=List.eq_nil_of_length_eq_zero h0
  subst hl0
  cases h
  have hk0:k=0:=by simpa using hk
  subst hk0
  exact .inl ⟨by simp,rfl,by simp[mkcells]⟩
 ·cases h
  refine .inr ⟨ad,c,rfl,by omega,fun j v hj=>hc j v ?_⟩
  rw[← Zgr] at hj
  by_cases hjk:j<k * 2
  ·rw[List.getElem?_take_of_lt hjk] at hj
   exact hj
  ·rw[List.getElem?_eq_none (by simp;omega)] at hj
   cases hj
theorem Zgf {w:World} {ao:Option Addr} {c:Nat} {l:List Mk} (h:HMk w (.slice ao l.length c) l) (k:Nat) (hk:k≤l.length):HMk w (.slice (mslF ao c k) (l.length-k) (c-k)) (l.drop k):=by
 have hlt:(l.drop k).length=l.length-k:=by rw[List.length_drop]
 have hnc:=Zgb h
 unfold HMk at h ⊢
 rw[hlt]
 rcases h with ⟨h,h0,h4⟩ | ⟨ad,c',h,h3,hc⟩
 ·have hl0:l=[]:=List.eq_nil_of_length_eq_zero h0
  subst hl0
  cases h
  have hk0:k=0:=by simpa using hk
  subst hk0
  exact .inl ⟨by simp[mslF],rfl,by simp[mkcells]⟩
 ·cases h
  refine .inr ⟨if c=k then ad else ad.add (k * 2),c-k,by unfold mslF;split<;>simp,by omega,fun j v hj=>?_⟩
  rw[← Zgn,List.getElem?_drop] at hj
  have hlt2:=(List.getElem?_eq_some_iff.1 hj).1
  rw[Zgo] at hlt2
  rw[if_neg (by omega)]
  have h0:=hc 0 _ (List.getElem?_eq_getElem (by rw[Zgo];omega))
  obtain⟨b,off,rfl⟩:=Zap h0
  have:=hc _ _ hj
  rw[Zao] at this
  rw[Zao,Zao,Nat.add_assoc]
  exact this
theorem ZbX (l:List Mk) (ao:Option Addr) (c:Nat) (w:World) (hv:HMk w (.slice ao l.length c) l) (hl:l.length≤1099511627776) (n:Nat) (HN:Hid ((chgM l).length=n)) :
  Calls Tryz.prog 264 #[.slice ao l.length c] w fun e w'=>e=.returned (.slice ao n c)∧Below w.heap.size w w':=by
 have hnc:=Zgb hv
 have hle:=Zbt l
 rw[HN.out] at hle
 have hc:=fun z HZ=>ZaR 309 #[] l (fun m=>m.sg == 32) (.slice ao l.length c) w hv hl (enters_of Tryz.func309 (by kernel_rfl) rfl) (fun m _ u _=>Zby m u) z HZ
 by_cases hr:rstM l=[]
 ·have HE:Hid (l.length=n):=(by show _=_;rw[← HN.out,ZjG hr])
  have hc1:=hc (-1) (by show _=_;rw[Zex,if_pos hr])
  clear HN hr hc hv
  go_enter Tryz.func264,Tryz.ntmps264
  go_wp2_with fail
  refine hc1.mono ?_
  rintro e w1 ⟨rfl,hB⟩
  go_wp2
  go_ret
  exact⟨by rw[HE.out];rfl,hB⟩
 ·have hc1:=hc (n:Int) (by show _=_;rw[Zex,if_neg hr,HN.out];simp)
  have hs:=ZjM ao l.length c n hle hnc
  have i1:(0:Int)≤(n:Int):=by omega
  have i2:(n:Int)≤(l.length:Int):=by omega
  have i3:(n:Int)≤(c:Int):=by omega
  clear HN hr hc hv
  go_enter Tryz.func264,Tryz.ntmps264
  go_wp2_with fail
  refine hc1.mono ?_
  rintro e w1 ⟨rfl,hB⟩
  go_wp2
  go_ret
  exact⟨rfl,hB⟩
end

section
open Go.RowKit
attribute [local go_sem] ByteArray.extract_mk
def oddI (r:Int):Bool:=decide (r<33) || decide (126<r) || decide (r=34)
theorem Zbz (r:Int) (w:World) (q:Bool) (HQ:Hid (oddI r=q)):Calls Tryz.prog 216 #[.int .i32 r] w fun e w'=>e=.returned (.bool q)∧w=w':=by
 by_cases h1:r<33
 ·have HE:Hid (true=q):=(by show _=_;rw[← HQ.out];simp[oddI,h1])
  go_enter Tryz.func216,Tryz.ntmps216
  go_wp2
  go_ret
  exact⟨by rw[← HE.out];rfl,rfl⟩
 ·by_cases h2:126<r
  ·have HE:Hid (true=q):=(by show _=_;rw[← HQ.out];simp[oddI,h2])
   go_enter Tryz.func216,Tryz.ntmps216
   go_wp2
   go_ret
   exact⟨by rw[← HE.out];rfl,rfl⟩
  ·have HE:Hid ((r == 34)=q):=(by show _=_;rw[← HQ.out];simp only[oddI,h1,h2,decide_false,Bool.false_or];rfl)
   go_enter Tryz.func216,Tryz.ntmps216
   go_wp2
   go_ret
   exact⟨by rw[← HE.out];rfl,rfl⟩
theorem Zhu (c:UInt8):oddI (c.toNat:Int)=!nameC c:=by
 unfold oddI nameC
 rw[Bool.eq_iff_iff]
 simp only[Bool.or_eq_true,decide_eq_true_eq,Bool.not_eq_true',decide_eq_false_iff_not]
 omega
def oddW:Nat→List UInt8→Int
 | _,[]=>-1
 | k,c::l=>if nameC c=true then oddW (k+1) l else (k:Int)
theorem Zhs (l:List UInt8):∀ k,decide (0≤oddW k l)=!l.all nameC:=by
 induction l with
 | nil=>intro k;rfl
 | cons c l ih =>
  intro k
  rw[List.all_cons]
  by_cases h:nameC c=true
  ·have e:oddW k (c::l)=oddW (k+1) l:=if_pos h
   rw[e,ih,h]
   rfl
  ·have e:oddW k (c::l)=(k:Int):=if_neg h
   rw[e,Bool.eq_false_iff.2 h]
   simp
theorem Zht {l:List UInt8} {k:Nat} (hk:k<l.length):oddW k (l.drop k)=if nameC l[k]=true then oddW (k+1) (l.drop (k+1)) else (k:Int):=by
 rw[List.drop_eq_getElem_cons hk]
 rfl
theorem Zbx (l:List UInt8) (w:World) (_hl:l.length≤1099511627776) (z:Int) (HZ:Hid (oddW 0 l=z)) :
  Calls Tryz.prog 314 #[.string ⟨l.toArray⟩,.func (.func 216) #[] #[],.bool true] w fun e w'=>e=.returned (.int .i64 z)∧Below w.heap.size w w':=by
 go_enter Tryz.func314,Tryz.ntmps314
 go_wp2
 go_loopw [] (fun wr=>∃ pos:Nat,pos≤l.length∧wr.heap[w.heap.size]?=some (.stringIter ⟨l.toArray⟩ pos)∧Below w.heap.size w wr∧Hid (oddW pos (l.drop pos)=z)) (fun wr=>l.length-wr.iterPos w.heap.size)
 case atStart=>exact⟨0,Nat.zero_le _,World.iter_heap w _ 0,(Below.refl _ w).alloc (Nat.le_refl _) _,HZ⟩
 case round =>
  obtain⟨pos,hp,hit,hbr,HA⟩:=hrel
  have hwl:w.heap.size<wr.heap.size:=(Array.getElem?_eq_some_iff.1 hit).1
  by_cases hlt:pos<l.length
  ·have HS:=HA.out
   rw[Zht hlt] at HS
   by_cases ha:l[pos].toNat<128
   ·have hnx:∀ ty,(Instr.next (.pointer (some ⟨w.heap.size,0,none⟩)) true ty).run Tryz.prog wr=_:=fun ty=>Lib.run_next_ascii_at wr w.heap.size ⟨l.toArray⟩ pos ty hit hlt ha
    have hit2:=Lib.iterAt_heap wr w.heap.size ⟨l.toArray⟩ pos (pos+1) hit
    have hbr2:=Lib.below_iterAt hbr (k:=w.heap.size) (Nat.le_refl _) ⟨l.toArray⟩ (pos+1)
    cases hn:nameC l[pos] with
    | true =>
     have HI:Hid (oddW (pos+1) (l.drop (pos+1))=z):=(by rw[hn,if_pos rfl] at HS;exact HS)
     have hc:=fun u=>Zbz (l[pos].toNat:Int) u false (by show _=_;rw[Zhu,hn];rfl)
     clear HS hn HA
     go_wp2_with fail
     refine (hc _).mono ?_
     rintro e w4 ⟨rfl,rfl⟩
     go_wp2
     go_roundw
     case rel=>exact⟨pos+1,by omega,hit2,hbr2,HI⟩
     case measure=>simp only[World.iterPos,hit,hit2];omega
    | false =>
     have HE:Hid ((pos:Int)=z):=(by rw[hn,if_neg (by decide)] at HS;exact HS)
     have hc:=fun u=>Zbz (l[pos].toNat:Int) u true (by show _=_;rw[Zhu,hn];rfl)
     clear HS hn HA
     go_wp2_with fail
     refine (hc _).mono ?_
     rintro e w4 ⟨rfl,rfl⟩
     go_wp2
     go_ret
     exact⟨by rw[HE.out];rfl,hbr2⟩
   ·have hdh:=(decode_high ⟨l.toArray⟩ pos hlt (by show 128≤l[pos].toNat;omega))
    have hnx:∀ ty,(Instr.next (.pointer (some ⟨w.heap.size,0,none⟩)) true ty).run Tryz.prog wr=_:=fun ty=>Lib.run_next_any_at wr w.heap.size ⟨l.toArray⟩ pos ty hit hlt
    have hbr2:=Lib.below_iterAt hbr (k:=w.heap.size) (Nat.le_refl _) ⟨l.toArray⟩ (pos+(Utf8.decode ⟨l.toArray⟩ pos).2)
    have hdl:=decode_le ⟨l.toArray⟩ pos
    have HE:Hid ((pos:Int)=z):=(by
     have hn:nameC l[pos]=false:=(by unfold nameC;exact decide_eq_false (by omega))
     rw[hn,if_neg (by decide)] at HS
     exact HS)
    obtain⟨hd1,hd2⟩:=hdh
    generalize Utf8.decode ⟨l.toArray⟩ pos=dd at *
    have hc:=fun u=>Zbz (dd.1:Int) u true (by
     show _=_
     unfold oddI
     have:decide (126<(dd.1:Int))=true:=decide_eq_true (by omega)
     rw[this]
     simp)
    clear HS HA
    go_wp2_with fail
    refine (hc _).mono ?_
    rintro e w4 ⟨rfl,rfl⟩
    go_wp2
    go_ret
    exact⟨by rw[HE.out];rfl,hbr2⟩
  ·have hnx:∀ ty,(Instr.next (.pointer (some ⟨w.heap.size,0,none⟩)) true ty).run Tryz.prog wr=_:=fun ty=>Lib.run_next_end_at wr w.heap.size ⟨l.toArray⟩ pos ty hit hlt
   have HE:Hid (-1=z):=(by
    have h:=HA.out
    rw[List.drop_of_length_le (by omega)] at h
    exact h)
   clear HA
   go_wp2
   go_ret
   exact⟨by rw[HE.out];rfl,hbr⟩
theorem ZaS (l:List UInt8) (w:World) (hl:l.length≤1099511627776) (z:Int) (HZ:Hid (oddW 0 l=z)) :
  Calls Tryz.prog 262 #[.string ⟨l.toArray⟩,.func (.func 216) #[] #[]] w fun e w'=>e=.returned (.int .i64 z)∧Below w.heap.size w w':=by
 go_enter Tryz.func262,Tryz.ntmps262
 go_wp2_with fail
 refine (Zbx l w hl z HZ).mono ?_
 rintro e w1 ⟨rfl,hB⟩
 go_wp2
 go_ret
 exact⟨rfl,hB⟩
theorem ZaP (l:List UInt8) (w:World) (hl:l.length≤1099511627776) (q:Bool) (HQ:Hid ((!l.all nameC)=q)) :
  Calls Tryz.prog 215 #[.string ⟨l.toArray⟩,.func (.func 216) #[] #[]] w fun e w'=>e=.returned (.bool q)∧Below w.heap.size w w':=by
 obtain⟨z,hz⟩:∃ z,oddW 0 l=z:=⟨_,rfl⟩
 have HC:=ZaS l w hl z hz
 have HZ:Hid (decide (0≤z)=q):=(by show _=_;rw[← hz,Zhs];exact HQ.out)
 clear hz HQ
 go_enter Tryz.func215,Tryz.ntmps215
 go_wp2_with fail
 refine HC.mono ?_
 rintro e w1 ⟨rfl,hB⟩
 go_wp2
 go_ret
 exact⟨by rw[HZ.out];rfl,hB⟩
theorem ZbJ (l:List UInt8) (w:World) (hl:l.length≤1099511627776) (t:List UInt8) (HT:Hid (nameT l=t)) :
  Calls Tryz.prog 177 #[.string ⟨l.toArray⟩] w fun e w'=>e=.returned (.string ⟨t.toArray⟩)∧Below w.heap.size w w':=by
 by_cases h0:l=[]
 ·have HE:Hid (devN=t):=(by have h:=HT.out;unfold nameT at h;rw[if_pos h0] at h;exact h)
  subst h0
  go_enter Tryz.func177,Tryz.ntmps177
  go_wp2
  go_ret
  exact⟨by rw[← HE.out];rfl,Below.refl _ _⟩
 ·have e0:l.isEmpty=false:=(by cases l with | nil=>exact absurd rfl h0 | cons _ _=>rfl)
  have hq:=Zaf l
  by_cases h1:l=devN
  ·have HE:Hid (Q.quote l=t):=(by have h:=HT.out;unfold nameT at h;rw[if_neg h0,if_neg (fun q=>q.2 h1)] at h;exact h)
   have e1:(l == [47,100,101,118,47,110,117,108,108])=true:=(by rw[beq_iff_eq];exact h1)
   clear HT h1
   go_enter Tryz.func177,Tryz.ntmps177
   go_wp2_with fail
   refine (hq _ hl).mono ?_
   rintro e w1 ⟨rfl,hB⟩
   go_wp2
   go_ret
   exact⟨by rw[← HE.out];rfl,hB⟩
  ·have e1:(l == [47,100,101,118,47,110,117,108,108])=false:=beq_eq_false_iff_ne.2 h1
   cases hn:l.all nameC with
   | true =>
    have HE:Hid (l=t):=(by have h:=HT.out;unfold nameT at h;rw[if_neg h0,if_pos ⟨hn,h1⟩] at h;exact h)
    have hc:=fun u=>ZaP l u hl false (by show _=_;rw[hn];rfl)
    clear HT h1 hn
    go_enter Tryz.func177,Tryz.ntmps177
    go_wp2_with fail
    refine (hc _).mono ?_
    rintro e w1 ⟨rfl,hB⟩
    go_wp2
    go_ret
    exact⟨by rw[← HE.out];rfl,hB⟩
   | false =>
    have HE:Hid (Q.quote l=t):=(by have h:=HT.out;unfold nameT at h;rw[if_neg h0,if_neg (fun q=>by rw[hn] at q;cases q.1)] at h;exact h)
    have hc:=fun u=>ZaP l u hl true (by show _=_;rw[hn];rfl)
    clear HT h1 hn
    go_enter Tryz.func177,Tryz.ntmps177
    go_wp2_with fail
    refine (hc _).mono ?_
    rintro e w1 ⟨rfl,hB⟩
    go_wp2_with fail
    refine (hq _ hl).mono ?_
    rintro e w2 ⟨rfl,hB2⟩
    go_wp2
    go_ret
    exact⟨by rw[← HE.out];rfl,hB.trans (hB2.mono hB.size)⟩
end

section
open Q Go.RowKit Go.Proofs.YtcniomgjikienaaGreatDoor.Tx
attribute [local go_sem] ZaB Zea
theorem ZeB (x:UInt8):Lib.indexByte [48,49,50,51,52,53,54,55,56,57,97,98,99,100,101,102] x=digitI x.toNat:=by
 have key:∀ i:Fin 256,Lib.indexByte [48,49,50,51,52,53,54,55,56,57,97,98,99,100,101,102] (UInt8.ofNat i.val)=digitI (i.val:Int):=by decide +kernel
 have:=key ⟨x.toNat,x.toNat_lt⟩
 simpa using this
theorem Zac (x:UInt8) (w:World) :
  Calls Tryz.prog 347 #[.string ⟨#[48,49,50,51,52,53,54,55,56,57,97,98,99,100,101,102]⟩,.int .u8 (x.toNat:Int)] w fun e w'=>e=.returned (.int .i64 (digitI x.toNat))∧w'=w:=by
 have h:=Tryz.strings_IndexByte ⟨#[48,49,50,51,52,53,54,55,56,57,97,98,99,100,101,102]⟩ (x.toNat:Int) w
 refine h.mono ?_
 rintro e w' ⟨rfl,rfl⟩
 have e:((x.toNat:Int).toNat).toUInt8=x:=by simp
 rw[e,← ZeB]
 exact⟨rfl,rfl⟩
theorem ZhA (x y:Int) (h0:0≤x) (h1:x≤15) (h2:0≤y) (h3:y≤15):bits BinOp.or IntKind.i64 (x * 16) y % 256=16 * x+y:=by
 have key:∀ i j:Fin 16,bits BinOp.or IntKind.i64 ((i.val:Int) * 16) (j.val:Int) % 256=16 * (i.val:Int)+(j.val:Int):=by decide +kernel
 have:=key ⟨x.toNat,by omega⟩ ⟨y.toNat,by omega⟩
 simp only[Int.toNat_of_nonneg h0,Int.toNat_of_nonneg h2] at this
 exact this
theorem ZiV (a b:UInt8) (t:List UInt8) (w:World) :
  Calls Tryz.prog 336 #[.string ⟨((92:UInt8)::a::b::t).toArray⟩] w fun e w'=>e=.returned (.tuple #[.int .u8 (pv a b),.int .i64 (pn a b)])∧∃ n,w'=w.drewN n:=by
 have hp:plainI 92=false:=by decide
 obtain⟨ha,ha'⟩:=ZcK a.toNat
 obtain⟨hb,hb'⟩:=ZcK b.toNat
 go_enter Tryz.func336,Tryz.ntmps336
 go_wp2_with fail
 refine (ZeU _ _).mono ?_
 rintro e w' ⟨rfl,rfl⟩
 go_wp2_with fail
 go_quiet ((go_at_call 347;exact Calls.quiet_of_same (Zac _ _)))
 by_cases h1:digitI a.toNat<0
 ·go_wp2
  go_ret2
  exact⟨Zjo (ZiL (ZhW h1)) (Ziz (ZhW h1)),_,rfl⟩
 ·by_cases h2:digitI b.toNat<0
  ·go_wp2
   go_ret2
   exact⟨Zjo (ZiL (ZhV h2)) (Ziz (ZhV h2)),_,rfl⟩
  ·go_wp2_with fail
   rw[ZhA _ _ (by omega) ha' (by omega) hb']
   refine (ZeU _ _).mono ?_
   rintro e w' ⟨rfl,rfl⟩
   have hm:=ZhX (a:=a) (b:=b) (by omega) (by omega)
   have HM:Hid (pairOk a b=!plainI (16 * digitI a.toNat+digitI b.toNat)):=hm
   clear hm
   cases hpl:plainI (16 * digitI a.toNat+digitI b.toNat)
   ·go_wp2
    go_ret2
    have hk:pairOk a b=true:=by rw[HM.out,hpl];rfl
    exact⟨Zjo (ZiM hk) (ZiA hk),_,rfl⟩
   ·go_wp2
    go_ret2
    have hk:pairOk a b=false:=by rw[HM.out,hpl];rfl
    exact⟨Zjo (ZiL hk) (Ziz hk),_,rfl⟩
theorem ZiU (c:UInt8) (t:List UInt8) (w:World) (h:plainI c.toNat=true) :
  Calls Tryz.prog 336 #[.string ⟨(c::t).toArray⟩] w fun e w'=>e=.returned (.tuple #[.int .u8 (c.toNat:Int),.int .i64 1])∧∃ n,w'=w.drewN n:=by
 go_enter Tryz.func336,Tryz.ntmps336
 go_wp2_with fail
 refine (ZeU _ _).mono ?_
 rintro e w' ⟨rfl,rfl⟩
 go_wp2
 go_ret2
 exact⟨rfl,0,rfl⟩
theorem ZiT (c:UInt8) (t:List UInt8) (w:World) (h:plainI c.toNat=false) (h2:¬ (c.toNat=92∧2≤t.length)) :
  Calls Tryz.prog 336 #[.string ⟨(c::t).toArray⟩] w fun e w'=>e=.returned (.tuple #[.int .u8 0,.int .i64 0])∧∃ n,w'=w.drewN n:=by
 by_cases h3:c.toNat=92
 ·have hb:((c.toNat:Int) != 92)=false:=by simp;omega
  have hl:((t.length:Int)+1<3):=by omega
  clear h2
  go_enter Tryz.func336,Tryz.ntmps336
  go_wp2_with fail
  refine (ZeU _ _).mono ?_
  rintro e w' ⟨rfl,rfl⟩
  go_wp2
  go_ret2
  exact⟨rfl,0,rfl⟩
 ·have hb:((c.toNat:Int) != 92)=true:=by simp;omega
  clear h2
  go_enter Tryz.func336,Tryz.ntmps336
  go_wp2_with fail
  refine (ZeU _ _).mono ?_
  rintro e w' ⟨rfl,rfl⟩
  go_wp2
  go_ret2
  exact⟨rfl,0,rfl⟩
end

section
open Q Go.RowKit Go.Proofs.YtcniomgjikienaaGreatDoor.Tx
attribute [local go_sem] ZaB ByteArray.extract_mk
def sizeS:Value→Nat
 | .string s=>s.data.size
 | _=>0
theorem Zjp {l a b:List UInt8} {n:Int} (h:uqa l=a∧uqb l=b∧uqe l=n):Ending.returned (.tuple #[.string ⟨a.toArray⟩,.string ⟨b.toArray⟩,.int .i64 n])=.returned (.tuple #[.string ⟨(uqa l).toArray⟩,.string ⟨(uqb l).toArray⟩,.int .i64 (uqe l)]):=by
 rw[h.1,h.2.1,h.2.2]
theorem Zaj (l:List UInt8) (w:World) (hl:l.length≤1099511627776) :
  Calls Tryz.prog 301 #[.string ⟨((34:UInt8)::l).toArray⟩] w fun e w'=>e=.returned (.tuple #[.string ⟨(uqa (34::l)).toArray⟩,.string ⟨(uqb (34::l)).toArray⟩,.int .i64 (uqe (34::l))])∧Below w.heap.size w w':=by
 have HU:Hid (unquote (34::l)=body l):=by show unquote (34::l)=body l;simp[unquote]
 go_enter Tryz.func301,Tryz.ntmps301
 go_wp2
 go_loopw [6] (fun rest wr=>∃ (r acc:List UInt8) (v:Value),rest=.string ⟨r.toArray⟩∧Bld 85 5 w.heap.size w.heap.size v (Lib.byteCells acc) wr∧Below w.heap.size w wr∧body l=(body r).map (fun p=>(acc++p.1,p.2))∧acc.length+r.length≤l.length) (fun rest _=>sizeS rest)
 case atStart=>exact⟨l,[],_,rfl,Bld.fresh 85 5 w,(Below.refl _ w).alloc (Nat.le_refl _) _,by simp,by simp⟩
 case round =>
  obtain⟨r,acc,v,rfl,hB,hbr,hbody,hal⟩:=hrel
  have HB:Hid (body l=(body r).map (fun p=>(acc++p.1,p.2))):=hbody
  clear hbody
  match r,hal,HB with
  | [],hal,HB =>
   go_wp2
   go_ret3
   exact⟨Zjp (uq_none (by rw[HU.out,HB.out];rfl)),hbr⟩
  | c::t,hal,HB =>
   have hc:=c.toNat_lt
   by_cases h34:c.toNat=34
   ·have hb:((c.toNat:Int) != 34)=false:=by simp;omega
    have HE:Hid (unquote (34::l)=some (acc,t)):=by
     show unquote (34::l)=some (acc,t)
     rw[HU.out,HB.out,ZaF t h34];simp
    clear h34
    have hI:Lib.IsBuilderF 85 5 w.heap.size w.heap.size (Lib.byteCells acc) wr.drew:=hB.isF
    have hsz:w.heap.size≤wr.drew.heap.size:=hbr.size
    go_wp2_with fail
    go_region_with (go_at_call 40;refine (Tryz.Builder_String_any_k w.heap.size w.heap.size acc _ hI hsz).mono ?_;rintro e w4 ⟨rfl,_,hb4,_⟩)
    all_goals
     go_wp2
     go_ret3
     exact⟨Zjp (uq_some HE.out),hbr.drew.trans hb4⟩
   ·have hb:((c.toNat:Int) != 34)=true:=by simp;omega
    cases hpl:plainI c.toNat
    ·by_cases h92:c.toNat=92∧2≤t.length
     ·match t,hal,HB,h92 with
      | a::b::t,hal,HB,⟨h92,_⟩ =>
       obtain rfl:c=92:=UInt8.toNat_inj.1 h92
       cases hk:pairOk a b
       ·have HE:Hid (unquote (34::l)=none):=by
         show unquote (34::l)=none
         rw[HU.out,HB.out,ZaJ t h92 hk];rfl
        have h1:pv a b=0:=(ZiL hk).symm
        have h2:pn a b=0:=(Ziz hk).symm
        go_wp2_with fail
        refine (ZiV a b t _).mono ?_
        rintro e w4 ⟨rfl,nq,rfl⟩
        go_wp2
        go_ret3
        exact⟨Zjp (uq_none HE.out),below_drewN hbr nq⟩
       ·have HE:Hid (body l=(body t).map (fun p=>(acc++[UInt8.ofNat (pairI a b).toNat]++p.1,p.2))):=by
         show body l=_
         rw[HB.out,ZaI t h92 hk];simp[Function.comp_def]
        have h2:pn a b=3:=(ZiA hk).symm
        have hpb:=ZhU hk
        have HV:Hid (pv a b=((UInt8.ofNat (pairI a b).toNat).toNat:Int)):=by
         show pv a b=_
         rw[← ZiM hk]
         simp only[UInt8.toNat_ofNat']
         omega
        clear hpb
        go_wp2_with fail
        refine (ZiV a b t _).mono ?_
        rintro e w4 ⟨rfl,nq,rfl⟩
        go_wp2_with fail
        rw[HV.out]
        refine (Zak w.heap.size w.heap.size v _ _ _ (Bld.drewN hB nq) (by rw[Lib.byteCells_length];omega) hbr.size).mono ?_
        rintro e w5 ⟨rfl,v5,hB5,_,_,hb5⟩
        go_wp2
        go_roundw
        case rel=>exact⟨t,acc++[UInt8.ofNat (pairI a b).toNat],v5,rfl,by rw[ZaM];exact hB5,(below_drewN hbr nq).trans hb5,HE.out,by simp at hal ⊢;omega⟩
        case measure=>first | (simp[sizeS];done) | (simp[sizeS];omega)
     ·have HE:Hid (unquote (34::l)=none):=by
       show unquote (34::l)=none
       rw[HU.out,HB.out,ZaH t h34 hpl h92];rfl
      go_wp2_with fail
      refine (ZiT c t _ hpl h92).mono ?_
      rintro e w4 ⟨rfl,nq,rfl⟩
      go_wp2
      go_ret3
      exact⟨Zjp (uq_none HE.out),below_drewN hbr nq⟩
    ·have HE:Hid (body l=(body t).map (fun p=>(acc++[c]++p.1,p.2))):=by
      show body l=_
      rw[HB.out,ZaK t hpl];simp[Function.comp_def]
     go_wp2_with fail
     refine (ZiU c t _ hpl).mono ?_
     rintro e w4 ⟨rfl,nq,rfl⟩
     go_wp2_with fail
     refine (Zak w.heap.size w.heap.size v _ _ _ (Bld.drewN hB nq) (by rw[Lib.byteCells_length];simp at hal;omega) hbr.size).mono ?_
     rintro e w5 ⟨rfl,v5,hB5,_,_,hb5⟩
     go_wp2
     go_roundw
     case rel=>exact⟨t,acc++[c],v5,rfl,by rw[ZaM];exact hB5,(below_drewN hbr nq).trans hb5,HE.out,by simp at hal ⊢;omega⟩
     case measure=>first | (simp[sizeS];done) | (simp[sizeS];omega)
theorem Zai (l:List UInt8) (w:World) (hl:l.length≤1099511627776) :
  Calls Tryz.prog 301 #[.string ⟨l.toArray⟩] w fun e w'=>e=.returned (.tuple #[.string ⟨(uqa l).toArray⟩,.string ⟨(uqb l).toArray⟩,.int .i64 (uqe l)])∧Below w.heap.size w w':=by
 match l,hl with
 | [],_ =>
  go_enter Tryz.func301,Tryz.ntmps301
  go_wp2
  go_ret3
  exact⟨Zjp (uq_none rfl),Below.refl _ _⟩
 | c::t,hl =>
  by_cases h:c.toNat=34
  ·obtain rfl:c=34:=UInt8.toNat_inj.1 h
   exact Zaj t w (by simp at hl;omega)
  ·have hb:((c.toNat:Int) != 34)=true:=by simp;omega
   have HU:Hid (unquote (c::t)=none):=by show unquote (c::t)=none;simp[unquote,h]
   clear h
   go_enter Tryz.func301,Tryz.ntmps301
   go_wp2
   go_ret3
   exact⟨Zjp (uq_none HU.out),Below.refl _ _⟩
end

section
open Go.RowKit
attribute [local go_sem] ByteArray.extract_mk Zhc
def ckO (vL:Value) (p:Int):Obj:=.cells #[vL,.int .i64 p] 233
def Ck (u:World) (R:Nat) (vL:Value) (p:Int):Prop:=u.heap[R]?=some (ckO vL p)
section
variable {u u':World} {R:Nat} {vL:Value} {p:Int}
theorem Ck.cells (q:Ck u R vL p):u.cell? ⟨R,0,none⟩=some vL∧u.cell? ⟨R,1,none⟩=some (.int .i64 p):=by
 unfold Ck ckO at q
 refine⟨?_,?_⟩<;>rw[Lib.cell_of_heap q]<;>rfl
theorem Ck.frozen (q:Ck u R vL p) (j:Nat):u.frozen? ⟨R,j,none⟩=false:=Lib.frozen_of_heap q j
theorem Ck.lt (q:Ck u R vL p):R<u.heap.size:=(Array.getElem?_eq_some_iff.1 q).1
theorem Ck.dN (q:Ck u R vL p) (n:Nat):Ck (u.drewN n) R vL p:=q
theorem Ck.at (q:Ck u R vL p) (p':Int):Ck (u.setCell ⟨R,1,none⟩ (.int .i64 p')) R vL p':=heap_setCell_same u R 1 _ _ (.int .i64 p') q
theorem Ck.low (q:Ck u R vL p) (hg:Below u.heap.size u u'):Ck u' R vL p:=(hg.block R q.lt).trans q
theorem Ck.keep (q:Ck u R vL p) {g:Option Nat} (hg:u.grownBy u' g) (hr:some R≠g):Ck u' R vL p:=(hg.block R q.lt hr).trans q
end
theorem Zcl (a z:Int) (w:World) :
  Calls Tryz.prog 255 #[.int .i64 a,.int .i64 z] w fun x w'=>Thr a z x w'∧Below w.heap.size w w':=by
 have HQ:Hid ((w.alloc (fltO a z)).heap[w.heap.size]?=some (fltO a z)∧Below w.heap.size w (w.alloc (fltO a z))):=⟨heap_alloc_new w _,(Below.refl _ w).alloc (Nat.le_refl _) _⟩
 go_enter Tryz.func255,Tryz.ntmps255
 go_wp2
 exact⟨rfl,⟨_,rfl,HQ.out.1⟩,HQ.out.2⟩
theorem ZbY {R:Nat} {vL:Value} {p:Nat} (z:Int) (w:World) (q:Ck w R vL (p:Int)) (hp:p≤4398046511104) :
  Calls Tryz.prog 212 #[.pointer (some ⟨R,0,none⟩),.int .i64 z] w fun x w'=>Thr ((p:Int)+1) z x w'∧w.grownBy w' (some R):=by
 obtain⟨c0,c1⟩:=q.cells
 clear q
 go_enter Tryz.func212,Tryz.ntmps212
 go_wp2_with fail
 refine (Zcl ((p:Int)+1) z w).mono ?_
 rintro x w1 ⟨⟨g,rfl,hg⟩,hb⟩
 go_wp2
 exact⟨rfl,⟨_,rfl,hg⟩,ZfO hb _⟩
theorem Zcc {R:Nat} {L:List (List UInt8)} {lo:Option Addr} {lc:Nat} {p:Nat} (w:World) (q:Ck w R (.slice lo L.length lc) p) (hL:HS w (.slice lo L.length lc) L) (hp:p≤L.length) (hLl:L.length≤2199023255552) (hs:∀ s∈L,s.length≤1099511627776)
  (X:Except (Nat × Int) (List UInt8 × List (List UInt8))) (HX:Hid (nxt p (L.drop p)=X)) :
  Calls Tryz.prog 302 #[.pointer (some ⟨R,0,none⟩)] w fun x w'=>LnQ R (.slice lo L.length lc) p X w x w':=by
 have hX:=HX.out
 clear HX
 by_cases hlt:p<L.length
 ·rw[Zhm hlt] at hX
  obtain⟨bk,off,rfl,hbk,hcl⟩:=HS.at hL (by omega)
  have d4:=hcl p hlt
  have hsl:=hs L[p] (List.getElem_mem _)
  generalize L[p]=s at d4 hsl hX
  clear hcl hs hL
  obtain⟨c0,c1⟩:=q.cells
  have e0:((p:Int) == (L.length:Int))=false:=beq_eq_false_iff_ne.2 (by omega)
  have i1:(0:Int)≤(p:Int):=by omega
  have i2:(p:Int)<(L.length:Int):=by omega
  have i3:(p:Int).toNat=p:=by omega
  cases hf:fdB s with
  | true =>
   rw[if_pos hf] at hX
   subst hX
   have HD:Hid (s.dropLast++[10]=s):=ZcM hf
   clear q
   go_enter Tryz.func302,Tryz.ntmps302
   go_wp2_with fail
   go_quiet (fail)
   go_wp2_with fail
   have c0':(w.drewN nq).cell? ⟨R,0,none⟩=_:=c0
   have c1':(w.drewN nq).cell? ⟨R,1,none⟩=_:=c1
   have d4':(w.drewN nq).cell? ⟨bk,off+p,none⟩=_:=d4
   have HM:Hid (∀ n,∃ k,(w.drewN nq).drewN n=w.drewN k):=fun n=>⟨_,World.drewN_drewN w nq n⟩
   clear c0 c1 d4
   generalize w.drewN nq=W1 at c0' c1' d4' HM ⊢
   have j1:(0:Int)≤(p:Int):=by omega
   have j2:(p:Int)<(L.length:Int):=by omega
   have j3:(p:Int).toNat=p:=by omega
   go_quiet (fail)
   go_wp2_with fail
   refine (Tryz.strings_HasSuffix ⟨s.toArray⟩ ⟨#[10]⟩ _ (by show s.length≤_;omega)).mono ?_
   rintro e w2 ⟨rfl,rfl⟩
   have e1:Lib.hasSuffix (⟨s.toArray⟩:ByteArray).data.toList (⟨#[10]⟩:ByteArray).data.toList=true:=(ZkK s).trans hf
   rw[e1]
   clear e1 hf
   go_wp2
   go_ret
   refine⟨?_,HM.out _⟩
   rw[HD.out]
   rfl
  | false =>
   rw[if_neg (by rw[hf];decide)] at hX
   subst hX
   have q0:=q
   clear q
   go_enter Tryz.func302,Tryz.ntmps302
   go_wp2_with fail
   go_quiet (fail)
   go_wp2_with fail
   have c0':(w.drewN nq).cell? ⟨R,0,none⟩=_:=c0
   have c1':(w.drewN nq).cell? ⟨R,1,none⟩=_:=c1
   have d4':(w.drewN nq).cell? ⟨bk,off+p,none⟩=_:=d4
   have HM:Hid (∀ n,w.grownBy ((w.drewN nq).drewN n) (some R)):=fun n=>ZdP (ZdP (ZfO (Below.refl _ _) _) nq) n
   have HQ:Hid (∀ n,Ck ((w.drewN nq).drewN n) R (.slice (some ⟨bk,off,none⟩) L.length lc) p):=fun n=>(q0.dN nq).dN n
   clear c0 c1 d4 q0
   generalize w.drewN nq=W1 at c0' c1' d4' HM HQ ⊢
   have j1:(0:Int)≤(p:Int):=by omega
   have j2:(p:Int)<(L.length:Int):=by omega
   have j3:(p:Int).toNat=p:=by omega
   go_quiet (fail)
   go_wp2_with fail
   refine (Tryz.strings_HasSuffix ⟨s.toArray⟩ ⟨#[10]⟩ _ (by show s.length≤_;omega)).mono ?_
   rintro e w2 ⟨rfl,rfl⟩
   have e1:Lib.hasSuffix (⟨s.toArray⟩:ByteArray).data.toList (⟨#[10]⟩:ByteArray).data.toList=false:=(ZkK s).trans hf
   rw[e1]
   clear e1 hf
   go_wp2_with fail
   refine (ZbY 3 _ (HQ.out _) (by omega)).mono ?_
   rintro e w3 ⟨⟨g,rfl,hg⟩,hgr⟩
   go_wp2
   exact⟨rfl,⟨_,rfl,hg⟩,ZdT (HM.out _) hgr⟩
 ·rw[Zhn (by omega)] at hX
  subst hX
  obtain⟨c0,c1⟩:=q.cells
  have e0:((p:Int) == (L.length:Int))=true:=beq_iff_eq.2 (by omega)
  have HM:Hid (∀ n,w.grownBy (w.drewN n) (some R)):=fun n=>ZdP (ZfO (Below.refl _ _) _) n
  have HQ:Hid (∀ n,Ck (w.drewN n) R (.slice lo L.length lc) p):=fun n=>q.dN n
  clear q hs hL
  go_enter Tryz.func302,Tryz.ntmps302
  go_wp2_with fail
  go_quiet (fail)
  go_wp2_with fail
  refine (ZbY 1 _ (HQ.out _) (by omega)).mono ?_
  rintro e w3 ⟨⟨g,rfl,hg⟩,hgr⟩
  go_wp2
  exact⟨rfl,⟨_,rfl,hg⟩,ZdT (HM.out _) hgr⟩
theorem ZbZ {R g o:Nat} {L:List (List UInt8)} {lo:Option Addr} {lc:Nat} {p:Nat} (w:World) (q:Ck w R (.slice lo L.length lc) p) (hL:HS w (.slice lo L.length lc) L) (hPl:Plain L) (hp:p≤L.length) (hLl:L.length≤2199023255552)
  (t:List UInt8) (ct:w.cell? ⟨g,o+1,none⟩=some (.string ⟨t.toArray⟩)) (HB:Hid ((t != [10] && pkM (L.drop p))=false)) :
  Calls Tryz.prog 305 #[.pointer (some ⟨R,0,none⟩),.pointer (some ⟨g,o,none⟩)] w fun x w'=>x=.returned (.tuple #[])∧∃ n,w'=w.drewN n:=by
 obtain⟨c0,c1⟩:=q.cells
 by_cases ht:t=[10]
 ·subst ht
  clear HB hL q
  go_enter Tryz.func305,Tryz.ntmps305
  go_wp2_with fail
  go_quiet (fail)
  go_wp2
  first
   | go_end0
   | refine bodyPost_ret (results_none rfl _ _ _) rfl ?_
   | refine bodyPost_end (results_none rfl _ _ _) rfl ?_
  exact⟨rfl,_,rfl⟩
 ·have e1:(t == [10])=false:=beq_eq_false_iff_ne.2 ht
  by_cases hlt:p<L.length
  ·have hm:(L[p] == markT)=false:=(by
    have h:=HB.out
    rw[Zim hPl hlt] at h
    have:(t != [10])=true:=bne_iff_ne.2 ht
    rw[this,Bool.true_and] at h
    exact h)
   obtain⟨bk,off,rfl,hbk,hcl⟩:=HS.at hL (by omega)
   have d4:=hcl p hlt
   generalize L[p]=s at d4 hm
   have hm2:(s == [92,32,78,111,32,110,101,119,108,105,110,101,32,97,116,32,101,110,100,32,111,102,32,102,105,108,101,10])=false:=hm
   have hm3:(s != [92,32,78,111,32,110,101,119,108,105,110,101,32,97,116,32,101,110,100,32,111,102,32,102,105,108,101,10])=true:=(by unfold bne;rw[hm2];rfl)
   have e0:((p:Int) == (L.length:Int))=false:=beq_eq_false_iff_ne.2 (by omega)
   clear HB hL q hcl hm hPl
   have i1:(0:Int)≤(p:Int):=by omega
   have i2:(p:Int)<(L.length:Int):=by omega
   have i3:(p:Int).toNat=p:=by omega
   go_enter Tryz.func305,Tryz.ntmps305
   go_wp2_with fail
   go_quiet (fail)
   go_wp2
   first
    | go_end0
    | refine bodyPost_ret (results_none rfl _ _ _) rfl ?_
    | refine bodyPost_end (results_none rfl _ _ _) rfl ?_
   exact⟨rfl,_,rfl⟩
  ·have e0:((p:Int) == (L.length:Int))=true:=beq_iff_eq.2 (by omega)
   clear HB hL q hPl
   go_enter Tryz.func305,Tryz.ntmps305
   go_wp2_with fail
   go_quiet (fail)
   go_wp2
   first
    | go_end0
    | refine bodyPost_ret (results_none rfl _ _ _) rfl ?_
    | refine bodyPost_end (results_none rfl _ _ _) rfl ?_
   exact⟨rfl,_,rfl⟩
theorem Zca {R g o:Nat} {L:List (List UInt8)} {lo:Option Addr} {lc:Nat} {p:Nat} (w:World) (q:Ck w R (.slice lo L.length lc) p) (hL:HS w (.slice lo L.length lc) L) (hPl:Plain L) (hLl:L.length≤2199023255552) (hgR:R≠g)
  (T t:List UInt8) (HTt:Hid (T=t++[10])) (htl:T.length≤1099511627776) (ct:w.cell? ⟨g,o+1,none⟩=some (.string ⟨T.toArray⟩)) (cf:w.frozen? ⟨g,o+1,none⟩=false) (HB:Hid ((T != [10] && pkM (L.drop p))=true)) :
  Calls Tryz.prog 305 #[.pointer (some ⟨R,0,none⟩),.pointer (some ⟨g,o,none⟩)] w fun x w'=>x=.returned (.tuple #[])∧∃ n,w'=((w.drewN n).setCell ⟨g,o+1,none⟩ (.string ⟨t.toArray⟩)).setCell ⟨R,1,none⟩ (.int .i64 ((p:Int)+1)):=by
 obtain⟨c0,c1⟩:=q.cells
 have hb:=HB.out
 rw[Bool.and_eq_true] at hb
 have hlt:p<L.length:=(by
  by_cases h:p<L.length
  ·exact h
  ·have e:L.drop p=[]:=List.drop_eq_nil_of_le (by omega)
   rw[e] at hb
   cases hb.2)
 have e1:(T == [10])=false:=(by
  have:=bne_iff_ne.1 hb.1
  exact beq_eq_false_iff_ne.2 this)
 have hm:L[p]=markT:=(by
  have h:=hb.2
  rw[Zim hPl hlt,beq_iff_eq] at h
  exact h)
 obtain⟨bk,off,rfl,hbk,hcl⟩:=HS.at hL (by omega)
 have d4:=hcl p hlt
 rw[hm] at d4
 have e0:((p:Int) == (L.length:Int))=false:=beq_eq_false_iff_ne.2 (by omega)
 have f1:=q.frozen 1
 have HTS:Hid (Lib.trimSuffix T [10]=t):=(by
  show _=_
  rw[HTt.out]
  unfold Lib.trimSuffix
  rw[ZkK,if_pos (Zdf t)]
  simp)
 unfold markT at d4
 clear HB hL q hcl hm hPl hb
 have i1:(0:Int)≤(p:Int):=by omega
 have i2:(p:Int)<(L.length:Int):=by omega
 have i3:(p:Int).toNat=p:=by omega
 go_enter Tryz.func305,Tryz.ntmps305
 go_wp2_with fail
 go_quiet (fail)
 go_wp2_with fail
 have c1':(w.drewN nq).cell? ⟨R,1,none⟩=_:=c1
 have ct':(w.drewN nq).cell? ⟨g,o+1,none⟩=_:=ct
 have cf':(w.drewN nq).frozen? ⟨g,o+1,none⟩=false:=cf
 have f1':(w.drewN nq).frozen? ⟨R,1,none⟩=false:=f1
 have HM:Hid (∃ k,w.drewN nq=w.drewN k):=⟨_,rfl⟩
 clear c0 c1 d4 ct cf f1
 generalize w.drewN nq=W1 at c1' ct' cf' f1' HM ⊢
 refine (Tryz.strings_TrimSuffix ⟨T.toArray⟩ ⟨#[10]⟩ W1 (by show T.length≤_;omega)).mono ?_
 rintro e w2 ⟨rfl,rfl⟩
 have e2:Lib.trimSuffix (⟨T.toArray⟩:ByteArray).data.toList (⟨#[10]⟩:ByteArray).data.toList=t:=HTS.out
 rw[e2]
 clear e2
 have c1'':(w2.setCell ⟨g,o+1,none⟩ (.string ⟨t.toArray⟩)).cell? ⟨R,1,none⟩=some (.int .i64 (p:Int)):=(by
  have h:=(ZdS w2 g (o+1) (.string ⟨t.toArray⟩)).cell c1' (fun e=>hgR (Option.some.inj e))
  exact h)
 have f1'':(w2.setCell ⟨g,o+1,none⟩ (.string ⟨t.toArray⟩)).frozen? ⟨R,1,none⟩=false:=(by
  unfold World.frozen? at f1' ⊢
  dsimp only at f1' ⊢
  rw[Below.heap_setCell _ _ _ R hgR]
  exact f1')
 go_wp2
 first
  | go_end0
  | refine bodyPost_ret (results_none rfl _ _ _) rfl ?_
  | refine bodyPost_end (results_none rfl _ _ _) rfl ?_
 obtain⟨k,hk⟩:=HM.out
 exact⟨rfl,k,by rw[← hk]⟩
def barP (hd:List UInt8) (p:Nat) (ls:List (List UInt8)):Except (Nat × Int) (List UInt8 × List (List UInt8)) :=
 match nxt p ls with
 | .error e=>.error e
 | .ok (s,r)=>if hd.isPrefixOf s=true then .ok (s.drop hd.length,r) else .error (p+1,3)
def BrQ (R:Nat) (X:Except (Nat × Int) (List UInt8 × List (List UInt8))) (w:World) (x:Ending) (w':World):Prop :=
 match X with
 | .error (a,e)=>Thr (a:Int) e x w'∧w.grownBy w' (some R)
 | .ok (s,_)=>x=.returned (.string ⟨s.toArray⟩)∧∃ n,w'=w.drewN n
theorem ZkV (s:List UInt8):Lib.trimSuffix (s++[10]) [10]=s:=by
 unfold Lib.trimSuffix
 rw[ZkK,if_pos (Zdf s)]
 simp
theorem Zbh {R:Nat} {L:List (List UInt8)} {lo:Option Addr} {lc:Nat} {p:Nat} (hd:List UInt8) (w:World) (q:Ck w R (.slice lo L.length lc) p) (hL:HS w (.slice lo L.length lc) L) (hp:p≤L.length) (hLl:L.length≤2199023255552) (hs:∀ s∈L,s.length≤1099511627776)
  (X:Except (Nat × Int) (List UInt8 × List (List UInt8))) (HX:Hid (barP hd p (L.drop p)=X)) :
  Calls Tryz.prog 254 #[.pointer (some ⟨R,0,none⟩),.string ⟨hd.toArray⟩] w fun x w'=>BrQ R X w x w':=by
 obtain⟨Y,hY⟩:∃ Y,nxt p (L.drop p)=Y:=⟨_,rfl⟩
 have hl:=Zcc w q hL hp hLl hs Y hY
 have hX:=HX.out
 unfold barP at hX
 rw[hY] at hX
 clear HX
 cases Y with
 | error z =>
  obtain⟨a,e⟩:=z
  dsimp only at hX
  subst hX
  go_enter Tryz.func254,Tryz.ntmps254
  go_wp2_with fail
  refine hl.mono ?_
  rintro x w1 ⟨⟨g,rfl,hg⟩,hgr⟩
  go_wp2
  exact⟨rfl,⟨_,rfl,hg⟩,hgr⟩
 | ok z =>
  obtain⟨s,r⟩:=z
  obtain⟨hr,hpl,_,hLp⟩:=Zhr hY
  have hsl:=hs L[p] (List.getElem_mem hpl)
  rw[hLp,List.length_append] at hsl
  dsimp only at hX
  obtain⟨T,hT⟩:∃ T,s++[10]=T:=⟨_,rfl⟩
  have hl2:Calls Tryz.prog 302 #[.pointer (some ⟨R,0,none⟩)] w fun x w'=>x=.returned (.string ⟨T.toArray⟩)∧∃ n,w'=w.drewN n:=(by
   refine hl.mono ?_
   rintro x w' ⟨h1,h2⟩
   rw[hT] at h1
   exact⟨h1,h2⟩)
  have hTl:T.length≤2199023255552:=(by rw[← hT,List.length_append];simp at hsl ⊢;omega)
  have htr:∀ u,Calls Tryz.prog 239 #[.string ⟨T.toArray⟩,.string ⟨#[10]⟩] u fun e w'=>e=.returned (.string ⟨s.toArray⟩)∧w'=u:=(by
   intro u
   refine (Tryz.strings_TrimSuffix ⟨T.toArray⟩ ⟨#[10]⟩ u (by show T.length≤_;omega)).mono ?_
   rintro e w' ⟨rfl,rfl⟩
   have e2:Lib.trimSuffix (⟨T.toArray⟩:ByteArray).data.toList (⟨#[10]⟩:ByteArray).data.toList=s:=(by
    show Lib.trimSuffix T [10]=s
    rw[← hT]
    exact ZkV s)
   rw[e2]
   exact⟨rfl,rfl⟩)
  have hcp:=fun u=>Tryz.strings_CutPrefix ⟨s.toArray⟩ ⟨hd.toArray⟩ u
  have hpf:Lib.hasPrefix (⟨s.toArray⟩:ByteArray).data.toList (⟨hd.toArray⟩:ByteArray).data.toList=hd.isPrefixOf s:=rfl
  rw[hpf] at hcp
  by_cases hpre:hd.isPrefixOf s=true
  ·rw[if_pos hpre] at hX
   subst hX
   have htp:Lib.trimPrefix (⟨s.toArray⟩:ByteArray).data.toList (⟨hd.toArray⟩:ByteArray).data.toList=s.drop hd.length:=(by
    show Lib.trimPrefix s hd=_
    unfold Lib.trimPrefix Lib.hasPrefix
    rw[if_pos hpre])
   rw[htp,hpre] at hcp
   obtain⟨D,hD⟩:∃ D,s.drop hd.length=D:=⟨_,rfl⟩
   rw[hD] at hcp
   have HD:Hid (s.drop hd.length=D):=hD
   clear hpf htp hpre hl hY hLp hsl hr hT hD
   go_enter Tryz.func254,Tryz.ntmps254
   go_wp2_with fail
   refine hl2.mono ?_
   rintro x w1 ⟨rfl,nn,rfl⟩
   go_wp2_with fail
   refine (htr _).mono ?_
   rintro x w2 ⟨rfl,rfl⟩
   go_wp2_with fail
   refine (hcp _).mono ?_
   rintro x w3 ⟨rfl,rfl⟩
   go_wp2
   go_ret
   exact⟨by rw[HD.out];rfl,nn,rfl⟩
  ·rw[if_neg hpre] at hX
   subst hX
   rw[Bool.eq_false_iff.2 hpre] at hcp
   generalize Lib.trimPrefix (⟨s.toArray⟩:ByteArray).data.toList (⟨hd.toArray⟩:ByteArray).data.toList=U2 at hcp
   have q2:=fun nn=>q.dN nn
   clear hpf hpre hl hY hLp hsl hr hT
   go_enter Tryz.func254,Tryz.ntmps254
   go_wp2_with fail
   refine hl2.mono ?_
   rintro x w1 ⟨rfl,nn,rfl⟩
   go_wp2_with fail
   refine (htr _).mono ?_
   rintro x w2 ⟨rfl,rfl⟩
   go_wp2_with fail
   refine (hcp _).mono ?_
   rintro x w3 ⟨rfl,rfl⟩
   go_wp2_with fail
   refine (ZbY 3 _ (q2 nn) (by omega)).mono ?_
   rintro e w3 ⟨⟨g,rfl,hg⟩,hgr⟩
   go_wp2
   exact⟨rfl,⟨_,rfl,by simpa using hg⟩,ZdT (ZdP (ZfO (Below.refl w.heap.size w) (some R)) nn) hgr⟩
end

section
open Go.RowKit Go.Proofs.YtcniomgjikienaaGreatDoor.Tx
attribute [local go_sem] ByteArray.extract_mk Zhc
theorem ZaG (n:Nat):∀ (t a b:List UInt8),t.length≤n→Q.body t=some (a,b)→a.length≤t.length:=by
 induction n with
 | zero =>
  intro t a b h hb
  have:t=[]:=List.eq_nil_of_length_eq_zero (by omega)
  subst this
  cases hb
 | succ n ih =>
  intro t a b h hb
  cases t with
  | nil=>cases hb
  | cons c t =>
   simp only[List.length_cons] at h ⊢
   rw[Q.body.eq_def] at hb
   simp only at hb
   split at hb
   ·cases hb;simp
   ·split at hb
    ·obtain⟨p,hp,he⟩:=Option.map_eq_some_iff.1 hb
     cases he
     have:=ih t p.1 p.2 (by omega) hp
     simp only[List.length_cons]
     omega
    ·split at hb
     ·split at hb
      ·rename_i x y t'
       simp only[List.length_cons] at h ⊢
       split at hb
       ·obtain⟨p,hp,he⟩:=Option.map_eq_some_iff.1 hb
        cases he
        have:=ih t' p.1 p.2 (by omega) hp
        simp only[List.length_cons]
        omega
       ·cases hb
      ·cases hb
     ·cases hb
theorem ZlP (s:List UInt8):(Q.uqa s).length≤s.length:=by
 cases hu:Q.unquote s with
 | none=>rw[(Q.uq_none hu).1];simp
 | some p =>
  obtain⟨a,b⟩:=p
  rw[(Q.uq_some hu).1]
  cases s with
  | nil=>cases hu
  | cons c t =>
   simp only[Q.unquote] at hu
   split at hu
   ·have:=ZaG t.length t a b (Nat.le_refl _) hu
    simp only[List.length_cons]
    omega
   ·cases hu
theorem ZdX (s:List UInt8):Lib.hasPrefix s [34]=(s.head? == some 34):=by
 cases s with
 | nil=>rfl
 | cons c t =>
  show ((34 == c) && true)=(some c == some 34)
  rw[Bool.and_true,Bool.eq_iff_iff,beq_iff_eq,beq_iff_eq,Option.some.injEq]
  exact⟨fun h=>h.symm,fun h=>h.symm⟩
def pnV (r:Bool) (n:List UInt8):Value:=if r=true then .tuple #[.string ⟨n.toArray⟩,.int .i64 0] else .tuple #[.string ⟨#[]⟩,.int .i64 253]
theorem ZbK (s:List UInt8) (w:World) (hl:s.length≤1099511627776) (n:List UInt8) (r:Bool) (HN:Hid (unC s=n)) (HR:Hid (nokC s=r)) :
  Calls Tryz.prog 253 #[.string ⟨s.toArray⟩] w fun e w'=>e=.returned (pnV r n)∧Below w.heap.size w w':=by
 have hnl:n.length≤1099511627776:=(by
  rw[← HN.out]
  unfold unC
  split
  ·simp
  ·split
   ·have:=ZlP s
    omega
   ·exact hl)
 obtain⟨T,hT⟩:∃ T,nameT n=T:=⟨_,rfl⟩
 have hnm:=fun u=>ZbJ n u hnl T hT
 have HF:Hid ((decide (n.length≤64) && (T == s))=r):=(by
  have h:=HR.out
  unfold nokC at h
  rw[HN.out,hT] at h
  exact h)
 have hhp:∀ (b:Bool),(s.head? == some 34)=b→∀ u,Calls Tryz.prog 139 #[.string ⟨s.toArray⟩,.string ⟨#[34]⟩] u fun e w'=>e=.returned (.bool b)∧w'=u:=(by
  intro b hb u
  refine (Tryz.strings_HasPrefix ⟨s.toArray⟩ ⟨#[34]⟩ u).mono ?_
  rintro e w' ⟨rfl,rfl⟩
  have e1:Lib.hasPrefix (⟨s.toArray⟩:ByteArray).data.toList (⟨#[34]⟩:ByteArray).data.toList=b:=(ZdX s).trans hb
  rw[e1]
  exact⟨rfl,rfl⟩)
 have huq:=fun u=>Zai s u hl
 clear hT HR
 go_enter Tryz.func253,Tryz.ntmps253
 go_upto_block 0 with fail
 go_cut [4] (fun nv wz=>nv=.string ⟨n.toArray⟩∧Below w.heap.size w wz)
 case first =>
  by_cases h1:s=devN
  ·have e1:(s == [47,100,101,118,47,110,117,108,108])=true:=(by rw[beq_iff_eq];exact h1)
   have HE:Hid ([]=n):=(by have h:=HN.out;unfold unC at h;rw[if_pos h1] at h;exact h)
   clear h1
   go_wp2
   go_meet
   case rel=>exact⟨by rw[← HE.out],Below.refl _ _⟩
  ·have e1:(s == [47,100,101,118,47,110,117,108,108])=false:=beq_eq_false_iff_ne.2 h1
   by_cases h2:s.head?=some 34
   ·have HE:Hid (Q.uqa s=n):=(by have h:=HN.out;unfold unC at h;rw[if_neg h1,if_pos h2] at h;exact h)
    have hc:=hhp true (beq_iff_eq.2 h2)
    clear h1 h2
    go_wp2_with fail
    refine (hc _).mono ?_
    rintro e w1 ⟨rfl,rfl⟩
    go_wp2_with fail
    refine (huq _).mono ?_
    rintro e w2 ⟨rfl,hB2⟩
    go_wp2
    go_meet
    case rel=>exact⟨by rw[← HE.out],hB2⟩
   ·have HE:Hid (s=n):=(by have h:=HN.out;unfold unC at h;rw[if_neg h1,if_neg h2] at h;exact h)
    have hc:=hhp false (beq_eq_false_iff_ne.2 h2)
    clear h1 h2
    go_wp2_with fail
    refine (hc _).mono ?_
    rintro e w1 ⟨rfl,rfl⟩
    go_wp2
    go_meet
    case rel=>exact⟨by rw[← HE.out],Below.refl _ _⟩
 case rest =>
 obtain⟨rfl,hBc⟩:=hcut
 by_cases h3:n.length≤64
 ·have i1:¬ (64:Int)<(n.length:Int):=by omega
  cases h4:T == s with
  | true =>
   have HE:Hid (true=r):=(by have h:=HF.out;rw[decide_eq_true h3,Bool.true_and,h4] at h;exact h)
   have h5:(T != s)=false:=(by unfold bne;rw[h4];rfl)
   clear HF
   go_wp2_with fail
   refine (hnm _).mono ?_
   rintro e w2 ⟨rfl,hB2⟩
   go_wp2
   go_ret2
   exact⟨by rw[← HE.out];rfl,hBc.trans (hB2.mono hBc.size)⟩
  | false =>
   have HE:Hid (false=r):=(by have h:=HF.out;rw[decide_eq_true h3,Bool.true_and,h4] at h;exact h)
   have h5:(T != s)=true:=(by unfold bne;rw[h4];rfl)
   clear HF
   go_wp2_with fail
   refine (hnm _).mono ?_
   rintro e w2 ⟨rfl,hB2⟩
   go_wp2
   go_ret2
   exact⟨by rw[← HE.out];rfl,hBc.trans (hB2.mono hBc.size)⟩
 ·have HE:Hid (false=r):=(by have h:=HF.out;rw[decide_eq_false h3,Bool.false_and] at h;exact h)
  have i1:(64:Int)<(n.length:Int):=by omega
  clear HF
  go_wp2
  go_ret2
  exact⟨by rw[← HE.out];rfl,hBc⟩
def NmX (R:Nat) (X:Except (Nat × Int) (List UInt8 × List (List UInt8))) (w:World) (x:Ending) (w':World):Prop :=
 match X with
 | .error (a,e)=>Thr (a:Int) e x w'∧w.grownBy w' (some R)
 | .ok (s,_)=>x=.returned (.string ⟨s.toArray⟩)∧Below w.heap.size w w'
theorem ZgF {hd:List UInt8} (h4:hd.length=4) (p:Nat) (ls:List (List UInt8)):namP hd p ls=match barP hd p ls with
  | .error e=>.error e
  | .ok (s,r)=>if nokC s=true then .ok (unC s,r) else .error (p+1,253):=by
 unfold namP barP
 cases nxt p ls with
 | error e=>rfl
 | ok z =>
  obtain⟨s,r⟩:=z
  dsimp only
  split
  ·rw[h4,ZgK]
   split
   ·rename_i hq
    dsimp only
    split at hq
    ·cases hq
    ·rename_i h2
     rw[if_neg h2]
   ·rename_i nn hq
    dsimp only
    split at hq
    ·rename_i h2
     cases hq
     rw[if_pos h2]
    ·cases hq
  ·rfl
theorem ZbL {R:Nat} {L:List (List UInt8)} {lo:Option Addr} {lc:Nat} {p:Nat} (hd:List UInt8) (h4:hd.length=4) (w:World) (q:Ck w R (.slice lo L.length lc) p) (hL:HS w (.slice lo L.length lc) L) (hp:p≤L.length) (hLl:L.length≤2199023255552) (hs:∀ s∈L,s.length≤1099511627776)
  (X:Except (Nat × Int) (List UInt8 × List (List UInt8))) (HX:Hid (namP hd p (L.drop p)=X)) :
  Calls Tryz.prog 211 #[.pointer (some ⟨R,0,none⟩),.string ⟨hd.toArray⟩] w fun x w'=>NmX R X w x w':=by
 obtain⟨Y,hY⟩:∃ Y,barP hd p (L.drop p)=Y:=⟨_,rfl⟩
 have hl:=Zbh hd w q hL hp hLl hs Y hY
 have hX:=HX.out
 rw[ZgF h4,hY] at hX
 clear HX
 cases Y with
 | error z =>
  obtain⟨a,e⟩:=z
  dsimp only at hX
  subst hX
  go_enter Tryz.func211,Tryz.ntmps211
  go_wp2_with fail
  refine hl.mono ?_
  rintro x w1 ⟨⟨g,rfl,hg⟩,hgr⟩
  go_wp2
  exact⟨rfl,⟨_,rfl,hg⟩,hgr⟩
 | ok z =>
  obtain⟨s,r⟩:=z
  dsimp only at hX
  have hsl:s.length≤1099511627776:=(by
   unfold barP at hY
   cases hn:nxt p (L.drop p) with
   | error e=>rw[hn] at hY;cases hY
   | ok z =>
    obtain⟨s2,r2⟩:=z
    rw[hn] at hY
    dsimp only at hY
    obtain⟨_,hpl,_,hLp⟩:=Zhr hn
    have hsl:=hs L[p] (List.getElem_mem hpl)
    rw[hLp,List.length_append] at hsl
    split at hY
    ·cases hY
     rw[List.length_drop]
     omega
    ·cases hY)
  obtain⟨n,hn⟩:∃ n,unC s=n:=⟨_,rfl⟩
  obtain⟨b,hb⟩:∃ b,nokC s=b:=⟨_,rfl⟩
  have hf:=fun u=>ZbK s u hsl n b hn hb
  rw[hn,hb] at hX
  have hl2:Calls Tryz.prog 254 #[.pointer (some ⟨R,0,none⟩),.string ⟨hd.toArray⟩] w fun x w'=>x=.returned (.string ⟨s.toArray⟩)∧∃ n,w'=w.drewN n:=hl
  clear hY hl hn hb
  cases b with
  | true =>
   rw[if_pos rfl] at hX
   subst hX
   have hf2:∀ u,Calls Tryz.prog 253 #[.string ⟨s.toArray⟩] u fun e w'=>e=.returned (.tuple #[.string ⟨n.toArray⟩,.int .i64 0])∧Below u.heap.size u w':=hf
   clear hf
   go_enter Tryz.func211,Tryz.ntmps211
   go_wp2_with fail
   refine hl2.mono ?_
   rintro x w1 ⟨rfl,nn,rfl⟩
   go_wp2_with fail
   refine (hf2 _).mono ?_
   rintro x w2 ⟨rfl,hB2⟩
   go_wp2
   go_ret
   exact⟨rfl,(Below.dN (Below.refl _ w) nn).trans hB2⟩
  | false =>
   rw[if_neg (by decide)] at hX
   subst hX
   have hf2:∀ u,Calls Tryz.prog 253 #[.string ⟨s.toArray⟩] u fun e w'=>e=.returned (.tuple #[.string ⟨#[]⟩,.int .i64 253])∧Below u.heap.size u w':=hf
   clear hf
   have q2:=fun nn=>q.dN nn
   go_enter Tryz.func211,Tryz.ntmps211
   go_wp2_with fail
   refine hl2.mono ?_
   rintro x w1 ⟨rfl,nn,rfl⟩
   go_wp2_with fail
   refine (hf2 _).mono ?_
   rintro x w2 ⟨rfl,hB2⟩
   have q3:=(q2 nn).low hB2
   go_wp2_with fail
   refine (ZbY 253 _ q3 (by omega)).mono ?_
   rintro e w3 ⟨⟨g,rfl,hg⟩,hgr⟩
   go_wp2
   exact⟨rfl,⟨_,rfl,by simpa using hg⟩,ZdT (ZfO ((Below.dN (Below.refl _ w) nn).trans hB2) _) hgr⟩
end

section
open Go.RowKit Go.Proofs.YtcniomgjikienaaGreatDoor.Tx
attribute [local go_sem] ByteArray.extract_mk Zhc
def ukO (vL:Value) (p:Int):Obj:=.cells #[vL,.int .i64 p] 229
def Uk (u:World) (R:Nat) (vL:Value) (p:Int):Prop:=u.heap[R]?=some (ukO vL p)
section
variable {u u':World} {R:Nat} {vL:Value} {p:Int}
theorem Uk.cells (q:Uk u R vL p):u.cell? ⟨R,0,none⟩=some vL∧u.cell? ⟨R,1,none⟩=some (.int .i64 p):=by
 unfold Uk ukO at q
 refine⟨?_,?_⟩<;>rw[Lib.cell_of_heap q]<;>rfl
theorem Uk.frozen (q:Uk u R vL p) (j:Nat):u.frozen? ⟨R,j,none⟩=false:=Lib.frozen_of_heap q j
theorem Uk.lt (q:Uk u R vL p):R<u.heap.size:=(Array.getElem?_eq_some_iff.1 q).1
theorem Uk.dN (q:Uk u R vL p) (n:Nat):Uk (u.drewN n) R vL p:=q
theorem Uk.at (q:Uk u R vL p) (p':Int):Uk (u.setCell ⟨R,1,none⟩ (.int .i64 p')) R vL p':=heap_setCell_same u R 1 _ _ (.int .i64 p') q
theorem Uk.low (q:Uk u R vL p) (hg:Below u.heap.size u u'):Uk u' R vL p:=(hg.block R q.lt).trans q
theorem Uk.keep (q:Uk u R vL p) {g:Option Nat} (hg:u.grownBy u' g) (hr:some R≠g):Uk u' R vL p:=(hg.block R q.lt hr).trans q
end
theorem ZlX (a z:Int) (w:World) :
  Calls Tryz.prog 242 #[.int .i64 a,.int .i64 z] w fun x w'=>Thr a z x w'∧Below w.heap.size w w':=by
 have HQ:Hid ((w.alloc (fltO a z)).heap[w.heap.size]?=some (fltO a z)∧Below w.heap.size w (w.alloc (fltO a z))):=⟨heap_alloc_new w _,(Below.refl _ w).alloc (Nat.le_refl _) _⟩
 go_enter Tryz.func242,Tryz.ntmps242
 go_wp2
 exact⟨rfl,⟨_,rfl,HQ.out.1⟩,HQ.out.2⟩
theorem ZlU {R:Nat} {vL:Value} {p:Nat} (z:Int) (w:World) (q:Uk w R vL (p:Int)) (hp:p≤4398046511104) :
  Calls Tryz.prog 204 #[.pointer (some ⟨R,0,none⟩),.int .i64 z] w fun x w'=>Thr ((p:Int)+1) z x w'∧w.grownBy w' (some R):=by
 obtain⟨c0,c1⟩:=q.cells
 clear q
 go_enter Tryz.func204,Tryz.ntmps204
 go_wp2_with fail
 refine (ZlX ((p:Int)+1) z w).mono ?_
 rintro x w1 ⟨⟨g,rfl,hg⟩,hb⟩
 go_wp2
 exact⟨rfl,⟨_,rfl,hg⟩,ZfO hb _⟩
theorem ZlV {R:Nat} {L:List (List UInt8)} {lo:Option Addr} {lc:Nat} {p:Nat} (w:World) (q:Uk w R (.slice lo L.length lc) p) (hL:HS w (.slice lo L.length lc) L) (hp:p≤L.length) (hLl:L.length≤2199023255552) (hs:∀ s∈L,s.length≤1099511627776)
  (X:Except (Nat × Int) (List UInt8 × List (List UInt8))) (HX:Hid (nxt p (L.drop p)=X)) :
  Calls Tryz.prog 240 #[.pointer (some ⟨R,0,none⟩)] w fun x w'=>LnQ R (.slice lo L.length lc) p X w x w':=by
 have hX:=HX.out
 clear HX
 by_cases hlt:p<L.length
 ·rw[Zhm hlt] at hX
  obtain⟨bk,off,rfl,hbk,hcl⟩:=HS.at hL (by omega)
  have d4:=hcl p hlt
  have hsl:=hs L[p] (List.getElem_mem _)
  generalize L[p]=s at d4 hsl hX
  clear hcl hs hL
  obtain⟨c0,c1⟩:=q.cells
  have e0:((p:Int) == (L.length:Int))=false:=beq_eq_false_iff_ne.2 (by omega)
  have i1:(0:Int)≤(p:Int):=by omega
  have i2:(p:Int)<(L.length:Int):=by omega
  have i3:(p:Int).toNat=p:=by omega
  cases hf:fdB s with
  | true =>
   rw[if_pos hf] at hX
   subst hX
   have HD:Hid (s.dropLast++[10]=s):=ZcM hf
   clear q
   go_enter Tryz.func240,Tryz.ntmps240
   go_wp2_with fail
   go_quiet (fail)
   go_wp2_with fail
   have c0':(w.drewN nq).cell? ⟨R,0,none⟩=_:=c0
   have c1':(w.drewN nq).cell? ⟨R,1,none⟩=_:=c1
   have d4':(w.drewN nq).cell? ⟨bk,off+p,none⟩=_:=d4
   have HM:Hid (∀ n,∃ k,(w.drewN nq).drewN n=w.drewN k):=fun n=>⟨_,World.drewN_drewN w nq n⟩
   clear c0 c1 d4
   generalize w.drewN nq=W1 at c0' c1' d4' HM ⊢
   have j1:(0:Int)≤(p:Int):=by omega
   have j2:(p:Int)<(L.length:Int):=by omega
   have j3:(p:Int).toNat=p:=by omega
   go_quiet (fail)
   go_wp2_with fail
   refine (Tryz.strings_HasSuffix ⟨s.toArray⟩ ⟨#[10]⟩ _ (by show s.length≤_;omega)).mono ?_
   rintro e w2 ⟨rfl,rfl⟩
   have e1:Lib.hasSuffix (⟨s.toArray⟩:ByteArray).data.toList (⟨#[10]⟩:ByteArray).data.toList=true:=(ZkK s).trans hf
   rw[e1]
   clear e1 hf
   go_wp2
   go_ret
   refine⟨?_,HM.out _⟩
   rw[HD.out]
   rfl
  | false =>
   rw[if_neg (by rw[hf];decide)] at hX
   subst hX
   have q0:=q
   clear q
   go_enter Tryz.func240,Tryz.ntmps240
   go_wp2_with fail
   go_quiet (fail)
   go_wp2_with fail
   have c0':(w.drewN nq).cell? ⟨R,0,none⟩=_:=c0
   have c1':(w.drewN nq).cell? ⟨R,1,none⟩=_:=c1
   have d4':(w.drewN nq).cell? ⟨bk,off+p,none⟩=_:=d4
   have HM:Hid (∀ n,w.grownBy ((w.drewN nq).drewN n) (some R)):=fun n=>ZdP (ZdP (ZfO (Below.refl _ _) _) nq) n
   have HQ:Hid (∀ n,Uk ((w.drewN nq).drewN n) R (.slice (some ⟨bk,off,none⟩) L.length lc) p):=fun n=>(q0.dN nq).dN n
   clear c0 c1 d4 q0
   generalize w.drewN nq=W1 at c0' c1' d4' HM HQ ⊢
   have j1:(0:Int)≤(p:Int):=by omega
   have j2:(p:Int)<(L.length:Int):=by omega
   have j3:(p:Int).toNat=p:=by omega
   go_quiet (fail)
   go_wp2_with fail
   refine (Tryz.strings_HasSuffix ⟨s.toArray⟩ ⟨#[10]⟩ _ (by show s.length≤_;omega)).mono ?_
   rintro e w2 ⟨rfl,rfl⟩
   have e1:Lib.hasSuffix (⟨s.toArray⟩:ByteArray).data.toList (⟨#[10]⟩:ByteArray).data.toList=false:=(ZkK s).trans hf
   rw[e1]
   clear e1 hf
   go_wp2_with fail
   refine (ZlU 3 _ (HQ.out _) (by omega)).mono ?_
   rintro e w3 ⟨⟨g,rfl,hg⟩,hgr⟩
   go_wp2
   exact⟨rfl,⟨_,rfl,hg⟩,ZdT (HM.out _) hgr⟩
 ·rw[Zhn (by omega)] at hX
  subst hX
  obtain⟨c0,c1⟩:=q.cells
  have e0:((p:Int) == (L.length:Int))=true:=beq_iff_eq.2 (by omega)
  have HM:Hid (∀ n,w.grownBy (w.drewN n) (some R)):=fun n=>ZdP (ZfO (Below.refl _ _) _) n
  have HQ:Hid (∀ n,Uk (w.drewN n) R (.slice lo L.length lc) p):=fun n=>q.dN n
  clear q hs hL
  go_enter Tryz.func240,Tryz.ntmps240
  go_wp2_with fail
  go_quiet (fail)
  go_wp2_with fail
  refine (ZlU 1 _ (HQ.out _) (by omega)).mono ?_
  rintro e w3 ⟨⟨g,rfl,hg⟩,hgr⟩
  go_wp2
  exact⟨rfl,⟨_,rfl,hg⟩,ZdT (HM.out _) hgr⟩
theorem Zio {L:List (List UInt8)} {p:Nat} (h:p<L.length):pkU atC (L.drop p)=atC.isPrefixOf L[p]:=by
 rw[List.drop_eq_getElem_cons h]
 rfl
theorem Zla {R:Nat} {L:List (List UInt8)} {lo:Option Addr} {lc:Nat} {p:Nat} (w:World) (q:Uk w R (.slice lo L.length lc) p) (hL:HS w (.slice lo L.length lc) L) (hp:p≤L.length) (hLl:L.length≤2199023255552) (r:Bool) (HR:Hid (pkU atC (L.drop p)=r)) :
  Calls Tryz.prog 205 #[.pointer (some ⟨R,0,none⟩)] w fun x w'=>x=.returned (.bool r)∧∃ n,w'=w.drewN n:=by
 obtain⟨c0,c1⟩:=q.cells
 by_cases hlt:p<L.length
 ·obtain⟨bk,off,rfl,hbk,hcl⟩:=HS.at hL (by omega)
  have d4:=hcl p hlt
  have HR2:=HR.out
  rw[Zio hlt] at HR2
  generalize L[p]=s at d4 HR2
  have hd:decide ((p:Int)<(L.length:Int))=true:=decide_eq_true (by omega)
  have i1:(0:Int)≤(p:Int):=by omega
  have i2:(p:Int)<(L.length:Int):=by omega
  have i3:(p:Int).toNat=p:=by omega
  have hhp:∀ u,Calls Tryz.prog 139 #[.string ⟨s.toArray⟩,.string ⟨atC.toArray⟩] u fun e w'=>e=.returned (.bool r)∧w'=u:=(by
   intro u
   refine (Tryz.strings_HasPrefix ⟨s.toArray⟩ ⟨atC.toArray⟩ u).mono ?_
   rintro e w' ⟨rfl,rfl⟩
   have e1:Lib.hasPrefix (⟨s.toArray⟩:ByteArray).data.toList (⟨atC.toArray⟩:ByteArray).data.toList=r:=HR2
   rw[e1]
   exact⟨rfl,rfl⟩)
  clear hcl hL q HR HR2
  go_enter Tryz.func205,Tryz.ntmps205
  go_wp2_with fail
  go_quiet ((go_at_call 139;exact Calls.quiet_of_same (hhp _)))
  go_wp2
  go_ret
  exact⟨rfl,_,rfl⟩
 ·have HE:Hid (false=r):=(by have h:=HR.out;rw[List.drop_of_length_le (by omega)] at h;exact h)
  have hd:decide ((p:Int)<(L.length:Int))=false:=decide_eq_false (by omega)
  clear hL q HR
  go_enter Tryz.func205,Tryz.ntmps205
  go_wp2_with fail
  go_quiet (fail)
  go_wp2
  go_ret
  exact⟨by rw[← HE.out];rfl,_,rfl⟩
theorem ZkY (s:List UInt8) (w:World) (hl:s.length≤1099511627776) (n:List UInt8) (r:Bool) (HN:Hid (unC s=n)) (HR:Hid (nokC s=r)) :
  Calls Tryz.prog 241 #[.string ⟨s.toArray⟩] w fun e w'=>e=.returned (pnV r n)∧Below w.heap.size w w':=by
 have hf:=ZbK s w hl n r HN HR
 cases r with
 | true =>
  have hf2:Calls Tryz.prog 253 #[.string ⟨s.toArray⟩] w fun e w'=>e=.returned (.tuple #[.string ⟨n.toArray⟩,.int .i64 0])∧Below w.heap.size w w':=hf
  clear hf
  go_enter Tryz.func241,Tryz.ntmps241
  go_wp2_with fail
  refine hf2.mono ?_
  rintro e w1 ⟨rfl,hB⟩
  go_wp2
  go_ret2
  exact⟨rfl,hB⟩
 | false =>
  have hf2:Calls Tryz.prog 253 #[.string ⟨s.toArray⟩] w fun e w'=>e=.returned (.tuple #[.string ⟨#[]⟩,.int .i64 253])∧Below w.heap.size w w':=hf
  clear hf
  go_enter Tryz.func241,Tryz.ntmps241
  go_wp2_with fail
  refine hf2.mono ?_
  rintro e w1 ⟨rfl,hB⟩
  go_wp2
  go_ret2
  exact⟨rfl,hB⟩
end

section
open Go.RowKit Go.Proofs.YtcniomgjikienaaGreatDoor.Tx
attribute [local go_sem] ByteArray.extract_mk Zhc
theorem ZlC {R:Nat} {L:List (List UInt8)} {lo:Option Addr} {lc:Nat} {p:Nat} (hd:List UInt8) (h4:hd.length=4) (w:World) (q:Uk w R (.slice lo L.length lc) p) (hL:HS w (.slice lo L.length lc) L) (hp:p≤L.length) (hLl:L.length≤2199023255552) (hs:∀ s∈L,s.length≤1099511627776)
  (X:Except (Nat × Int) (List UInt8 × List (List UInt8))) (HX:Hid (namP hd p (L.drop p)=X)) :
  Calls Tryz.prog 203 #[.pointer (some ⟨R,0,none⟩),.string ⟨hd.toArray⟩] w fun x w'=>NmX R X w x w':=by
 obtain⟨Y,hY⟩:∃ Y,nxt p (L.drop p)=Y:=⟨_,rfl⟩
 have hl:=ZlV w q hL hp hLl hs Y hY
 have hX:=HX.out
 unfold namP at hX
 rw[hY] at hX
 clear HX
 cases Y with
 | error z =>
  obtain⟨a,e⟩:=z
  dsimp only at hX
  subst hX
  go_enter Tryz.func203,Tryz.ntmps203
  go_wp2_with fail
  refine hl.mono ?_
  rintro x w1 ⟨⟨g,rfl,hg⟩,hgr⟩
  go_wp2
  exact⟨rfl,⟨_,rfl,hg⟩,hgr⟩
 | ok z =>
  obtain⟨s,r⟩:=z
  dsimp only at hX
  have hsl:s.length≤1099511627776:=(by
   obtain⟨_,hpl,_,hLp⟩:=Zhr hY
   have hsl:=hs L[p] (List.getElem_mem hpl)
   rw[hLp,List.length_append] at hsl
   omega)
  have hl2:Calls Tryz.prog 240 #[.pointer (some ⟨R,0,none⟩)] w fun x w'=>x=.returned (.string ⟨(s++[10]).toArray⟩)∧∃ n,w'=w.drewN n:=hl
  obtain⟨sf,hsf⟩:∃ t,s++[10]=t:=⟨_,rfl⟩
  have hsfl:sf.length≤1099511627777:=(by rw[← hsf,List.length_append];simp only[List.length_cons,List.length_nil];omega)
  have hts:Lib.trimSuffix sf [10]=s:=(by rw[← hsf];exact ZkV s)
  rw[hsf] at hl2
  have HTr:Hid (∀ u,Calls Tryz.prog 239 #[.string ⟨sf.toArray⟩,.string ⟨#[10]⟩] u fun e w'=>e=.returned (.string ⟨s.toArray⟩)∧w'=u):=(by
   intro u
   refine (Tryz.strings_TrimSuffix ⟨sf.toArray⟩ ⟨#[10]⟩ u (by show sf.length≤_;omega)).mono ?_
   rintro e w' ⟨rfl,rfl⟩
   have e1:Lib.trimSuffix (⟨sf.toArray⟩:ByteArray).data.toList (⟨#[10]⟩:ByteArray).data.toList=s:=hts
   rw[e1]
   exact⟨rfl,rfl⟩)
  obtain⟨pr,hpr⟩:∃ b,hd.isPrefixOf s=b:=⟨_,rfl⟩
  rw[hpr] at hX
  have HCp:Hid (∀ u,Calls Tryz.prog 238 #[.string ⟨s.toArray⟩,.string ⟨hd.toArray⟩] u fun e w'=>e=.returned (.tuple #[.string ⟨(if pr=true then s.drop 4 else s).toArray⟩,.bool pr])∧w'=u):=(by
   intro u
   refine (Tryz.strings_CutPrefix ⟨s.toArray⟩ ⟨hd.toArray⟩ u).mono ?_
   rintro e w' ⟨rfl,rfl⟩
   have e1:Lib.hasPrefix (⟨s.toArray⟩:ByteArray).data.toList (⟨hd.toArray⟩:ByteArray).data.toList=pr:=hpr
   have e2:Lib.trimPrefix (⟨s.toArray⟩:ByteArray).data.toList (⟨hd.toArray⟩:ByteArray).data.toList=if pr=true then s.drop 4 else s:=(by
    show (if Lib.hasPrefix s hd=true then s.drop hd.length else s)=_
    rw[show Lib.hasPrefix s hd=pr from hpr,h4])
   rw[e1,e2]
   exact⟨rfl,rfl⟩)
  clear hY hl hpr hsf hts hsfl
  cases pr with
  | true =>
   rw[if_pos rfl] at hX
   have HCp2:Hid (∀ u,Calls Tryz.prog 238 #[.string ⟨s.toArray⟩,.string ⟨hd.toArray⟩] u fun e w'=>e=.returned (.tuple #[.string ⟨(s.drop 4).toArray⟩,.bool true])∧w'=u):=HCp
   clear HCp
   have hdl:(s.drop 4).length≤1099511627776:=(by rw[List.length_drop];omega)
   generalize s.drop 4=t at hX HCp2 hdl
   rw[ZgK] at hX
   obtain⟨n,hn⟩:∃ n,unC t=n:=⟨_,rfl⟩
   obtain⟨b,hb⟩:∃ b,nokC t=b:=⟨_,rfl⟩
   have hf:=fun u=>ZkY t u hdl n b hn hb
   rw[hn,hb] at hX
   clear hn hb
   cases b with
   | true =>
    rw[if_pos rfl] at hX
    dsimp only at hX
    subst hX
    have hf2:∀ u,Calls Tryz.prog 241 #[.string ⟨t.toArray⟩] u fun e w'=>e=.returned (.tuple #[.string ⟨n.toArray⟩,.int .i64 0])∧Below u.heap.size u w':=hf
    clear hf
    go_enter Tryz.func203,Tryz.ntmps203
    go_wp2_with fail
    refine hl2.mono ?_
    rintro x w1 ⟨rfl,nn,rfl⟩
    go_wp2_with fail
    refine (HTr.out _).mono ?_
    rintro x w2 ⟨rfl,rfl⟩
    go_wp2_with fail
    refine (HCp2.out _).mono ?_
    rintro x w3 ⟨rfl,rfl⟩
    go_wp2_with fail
    refine (hf2 _).mono ?_
    rintro x w4 ⟨rfl,hB2⟩
    go_wp2
    go_ret
    exact⟨rfl,(Below.dN (Below.refl _ w) nn).trans hB2⟩
   | false =>
    rw[if_neg (by decide)] at hX
    dsimp only at hX
    subst hX
    have q2:=fun nn=>q.dN nn
    have hf2:∀ u,Calls Tryz.prog 241 #[.string ⟨t.toArray⟩] u fun e w'=>e=.returned (.tuple #[.string ⟨#[]⟩,.int .i64 253])∧Below u.heap.size u w':=hf
    clear hf
    go_enter Tryz.func203,Tryz.ntmps203
    go_wp2_with fail
    refine hl2.mono ?_
    rintro x w1 ⟨rfl,nn,rfl⟩
    go_wp2_with fail
    refine (HTr.out _).mono ?_
    rintro x w2 ⟨rfl,rfl⟩
    go_wp2_with fail
    refine (HCp2.out _).mono ?_
    rintro x w3 ⟨rfl,rfl⟩
    go_wp2_with fail
    refine (hf2 _).mono ?_
    rintro x w4 ⟨rfl,hB2⟩
    have q3:=(q2 nn).low hB2
    go_wp2_with fail
    refine (ZlU 253 _ q3 (by omega)).mono ?_
    rintro e w5 ⟨⟨g,rfl,hg⟩,hgr⟩
    go_wp2
    exact⟨rfl,⟨_,rfl,by simpa using hg⟩,ZdT (ZfO ((Below.dN (Below.refl _ w) nn).trans hB2) _) hgr⟩
  | false =>
   rw[if_neg (by decide)] at hX
   subst hX
   have HCp2:Hid (∀ u,Calls Tryz.prog 238 #[.string ⟨s.toArray⟩,.string ⟨hd.toArray⟩] u fun e w'=>e=.returned (.tuple #[.string ⟨s.toArray⟩,.bool false])∧w'=u):=HCp
   clear HCp
   have q2:=fun nn=>q.dN nn
   go_enter Tryz.func203,Tryz.ntmps203
   go_wp2_with fail
   refine hl2.mono ?_
   rintro x w1 ⟨rfl,nn,rfl⟩
   go_wp2_with fail
   refine (HTr.out _).mono ?_
   rintro x w2 ⟨rfl,rfl⟩
   go_wp2_with fail
   refine (HCp2.out _).mono ?_
   rintro x w3 ⟨rfl,rfl⟩
   go_wp2_with fail
   refine (ZlU 3 _ (q2 nn) (by omega)).mono ?_
   rintro e w5 ⟨⟨g,rfl,hg⟩,hgr⟩
   go_wp2
   exact⟨rfl,⟨_,rfl,by simpa using hg⟩,ZdT (ZdP (ZfO (Below.refl w.heap.size w) (some R)) nn) hgr⟩
end

section
open Ln
theorem Zcu {x:List UInt8} (hx:x≠[]) (s:List UInt8):(Lib.index s x=-1∧cutS x s=none)∨∃ k:Nat,Lib.index s x=(k:Int)∧cutS x s=some (s.take k,s.drop (k+x.length)):=by
 induction s with
 | nil =>
  left
  cases x with
  | nil=>exact absurd rfl hx
  | cons c t=>exact⟨rfl,rfl⟩
 | cons c t ih =>
  unfold Lib.index cutS
  by_cases h:x.isPrefixOf (c::t)=true
  ·rw[if_pos h,if_pos h]
   exact .inr ⟨0,rfl,by simp⟩
  ·rw[if_neg h,if_neg h]
   rcases ih with ⟨e1,e2⟩ | ⟨k,e1,e2⟩
   ·rw[e1,e2]
    exact .inl ⟨rfl,rfl⟩
   ·rw[e1,e2]
    refine .inr ⟨k+1,?_,?_⟩
    ·rw[if_neg (by simp)]
     simp
    ·have e:k+1+x.length=(k+x.length)+1:=by omega
     rw[e]
     simp
def ctA (x s:List UInt8):List UInt8:=match cutS x s with | none=>s | some (a,_)=>a
def ctB (x s:List UInt8):List UInt8:=match cutS x s with | none=>[] | some (_,b)=>b
def ctK (x s:List UInt8):Bool:=(cutS x s).isSome
theorem Zcs {x:List UInt8} (hx:x≠[]) (s:List UInt8):Lib.cut s x=(ctA x s,ctB x s,ctK x s):=by
 unfold Lib.cut ctA ctB ctK
 rcases Zcu hx s with ⟨e1,e2⟩ | ⟨k,e1,e2⟩
 ·rw[e1,e2,if_neg (by decide)]
  rfl
 ·rw[e1,e2,if_pos (by omega)]
  simp
theorem Zck {x s:List UInt8} (h:ctK x s=true):cutS x s=some (ctA x s,ctB x s):=by
 unfold ctK at h
 unfold ctA ctB
 cases hq:cutS x s with
 | none=>rw[hq] at h;cases h
 | some p=>rfl
theorem Zcj {x s:List UInt8} (h:ctK x s=false):cutS x s=none:=by
 unfold ctK at h
 cases hq:cutS x s with
 | none=>rfl
 | some p=>rw[hq] at h;cases h
theorem Zct (x s:List UInt8):(ctA x s).length≤s.length∧(ctB x s).length≤s.length:=by
 by_cases hx:x=[]
 ·subst hx
  unfold ctA ctB
  cases s with
  | nil=>exact⟨Nat.le_refl _,Nat.le_refl _⟩
  | cons c t=>exact⟨by simp[cutS],by simp[cutS]⟩
 ·unfold ctA ctB
  rcases Zcu hx s with ⟨_,e2⟩ | ⟨k,_,e2⟩
  ·rw[e2]
   exact⟨Nat.le_refl _,by simp⟩
  ·rw[e2]
   exact⟨by simp only[List.length_take];omega,by simp only[List.length_drop];omega⟩
theorem Zld {s o f:List UInt8} {a an b bn:Int} {ra rb:Bool} {hd:Bool} {s1 s2 t:List UInt8} (hh:([64,64,32,45]:List UInt8).isPrefixOf s=hd) (h1:hd=true→s1=s.drop 4) (ho:ctA [32,43] s1=o) (h2:ctB [32,43] s1=s2) (hf:ctA [32,64,64] s2=f) (ht:ctB [32,64,64] s2=t)
  (ca:cntP o=if ra=true then some (a,an) else none) (cb:cntP f=if rb=true then some (b,bn) else none) :
  uhdP s=if (hd && (ctK [32,43] s1 && (ctK [32,64,64] s2 && (ra && (rb && tlB t)))))=true then some (a,an,b,bn) else none:=by
 unfold uhdP
 rw[hh]
 cases hd with
 | false=>rfl
 | true =>
  rw[if_pos rfl,← h1 rfl]
  cases hk:ctK [32,43] s1 with
  | false=>rw[Zcj hk];rfl
  | true =>
   rw[Zck hk,ho,h2]
   dsimp only
   cases hk2:ctK [32,64,64] s2 with
   | false=>rw[Zcj hk2];rfl
   | true =>
    rw[Zck hk2,hf,ht]
    dsimp only
    cases htl:tlB t with
    | false=>simp
    | true =>
     rw[if_pos rfl,ca,cb]
     cases ra<;>cases rb<;>rfl
theorem ZbN (s:List UInt8):cntP s=if Pn.parseE (kA s)=0 then (if kS s=true then (if Pn.parseE (kB s)=0 then some (Pn.parseV (kA s),Pn.parseV (kB s)) else none) else some (Pn.parseV (kA s),1)) else none:=by
 unfold cntP
 cases hk:kS s with
 | false =>
  obtain⟨e1,e2⟩:=Zfb hk
  rw[e2,e1]
  rfl
 | true =>
  obtain⟨c,e⟩:=Zff hk
  rw[e]
  dsimp only
  by_cases h1:Pn.parseE (kA s)=0
  ·by_cases h2:Pn.parseE (kB s)=0
   ·rw[if_pos ⟨h1,h2⟩,if_pos h1,if_pos rfl,if_pos h2]
   ·rw[if_neg (fun q=>h2 q.2),if_pos h1,if_pos rfl,if_neg h2]
  ·rw[if_neg (fun q=>h1 q.1),if_neg h1]
end

section
open Go.RowKit Go.Proofs.YtcniomgjikienaaGreatDoor.Tx
attribute [local go_sem] ByteArray.extract_mk Zhc
def Mxl (w:World):Prop:=∃ m,w.cell? ⟨1,0,none⟩=some (.int .i64 m)
theorem Mxl.low {w w':World} (h:Mxl w) (hb:Below w.heap.size w w'):Mxl w':=by
 obtain⟨m,h⟩:=h
 exact⟨m,(World.cell?_of_block (hb.block _ (block_lt_of_cell h))).trans h⟩
theorem Mxl.keep {w w':World} {R:Nat} (h:Mxl w) (hg:w.grownBy w' (some R)) (hR:1<R):Mxl w':=by
 obtain⟨m,h⟩:=h
 exact⟨m,(World.cell?_of_block (hg.block _ (block_lt_of_cell h) (fun e=>by have:=Option.some.inj e;simp at this;omega))).trans h⟩
theorem ZkX (x s:List UInt8) (hx:x≠[]) (w:World) (hl:s.length≤1099511627) (hm:Mxl w) :
  Calls Tryz.prog 46 #[.string ⟨s.toArray⟩,.string ⟨x.toArray⟩] w fun e w'=>e=.returned (.tuple #[.string ⟨(ctA x s).toArray⟩,.string ⟨(ctB x s).toArray⟩,.bool (ctK x s)])∧∃ n,w'=w.drewN n:=by
 obtain⟨m,hm⟩:=hm
 refine (Tryz.strings_Cut ⟨s.toArray⟩ ⟨x.toArray⟩ m w (by show s.length<_;omega) hm).mono ?_
 rintro e w' ⟨rfl,hw⟩
 have h:=Zcs hx s
 have e1:Lib.cut (⟨s.toArray⟩:ByteArray).data.toList (⟨x.toArray⟩:ByteArray).data.toList=(ctA x s,ctB x s,ctK x s):=h
 rw[e1]
 exact⟨rfl,hw⟩
def NuQ (w:World) (s:List UInt8) (e:Ending) (w':World):Prop:=∃ x n r,e=.returned (.tuple #[.int .i64 x,.int .i64 n,.bool r])∧cntP s=(if r=true then some (x,n) else none)∧Below w.heap.size w w'
theorem ZlE (s:List UInt8) (w:World) (hl:s.length≤1099511627776) :
  Calls Tryz.prog 334 #[.string ⟨s.toArray⟩] w fun e w'=>NuQ w s e w':=by
 have hkl:=Zfa s
 obtain⟨V1,hV1⟩:∃ V,Pn.parseV (kA s)=V:=⟨_,rfl⟩
 obtain⟨E1,hE1⟩:∃ V,Pn.parseE (kA s)=V:=⟨_,rfl⟩
 obtain⟨V2,hV2⟩:∃ V,Pn.parseV (kB s)=V:=⟨_,rfl⟩
 obtain⟨E2,hE2⟩:∃ V,Pn.parseE (kB s)=V:=⟨_,rfl⟩
 have P1:∀ u:World,Calls Tryz.prog 337 #[.string ⟨(kA s).toArray⟩] u fun e w'=>e=.returned (.tuple #[.int .i64 V1,.int .i64 E1])∧Below u.heap.size u w':=(by
  intro u
  have h:=ZgD (kA s) u (by unfold maxLen;omega)
  rw[hV1,hE1] at h
  exact h)
 have P2:∀ u:World,Calls Tryz.prog 337 #[.string ⟨(kB s).toArray⟩] u fun e w'=>e=.returned (.tuple #[.int .i64 V2,.int .i64 E2])∧Below u.heap.size u w':=(by
  intro u
  have h:=ZgD (kB s) u (by unfold maxLen;omega)
  rw[hV2,hE2] at h
  exact h)
 have HM:Hid (cntP s=if E1=0 then if kS s=true then if E2=0 then some (V1,V2) else none else some (V1,1) else none):=(by
  show _=_
  rw[ZbN,hV1,hE1,hV2,hE2])
 have C1:=ZgA s w hl
 obtain⟨ks,hks⟩:∃ k,kS s=k:=⟨_,rfl⟩
 rw[hks] at C1 HM
 clear hV1 hE1 hV2 hE2 hks
 by_cases he1:E1=0
 ·have f1:(E1 != 0)=false:=by simp[he1]
  have f2:(E1 == 0)=true:=by simp[he1]
  cases ks with
  | false =>
   have HN:Hid (cntP s=some (V1,1)):=(by have h:=HM.out;rw[if_pos he1,if_neg (by decide)] at h;exact h)
   clear HM he1 P2
   go_enter Tryz.func334,Tryz.ntmps334
   go_wp2_with fail
   refine C1.mono ?_
   rintro e w1 ⟨rfl,n,rfl⟩
   go_wp2_with fail
   refine (P1 _).mono ?_
   rintro e w2 ⟨rfl,hb2⟩
   go_wp2
   go_ret3
   exact⟨_,_,_,rfl,HN.out,(Below.dN (Below.refl _ w) n).trans hb2⟩
  | true =>
   have HN:Hid (cntP s=if (E2 == 0)=true then some (V1,V2) else none):=(by
    have h:=HM.out
    rw[if_pos he1,if_pos rfl] at h
    show _=_
    rw[h]
    simp)
   clear HM he1
   go_enter Tryz.func334,Tryz.ntmps334
   go_wp2_with fail
   refine C1.mono ?_
   rintro e w1 ⟨rfl,n,rfl⟩
   go_wp2_with fail
   refine (P1 _).mono ?_
   rintro e w2 ⟨rfl,hb2⟩
   go_wp2_with fail
   refine (P2 _).mono ?_
   rintro e w3 ⟨rfl,hb3⟩
   have hb23:=(Below.dN (Below.refl _ w) n).trans (hb2.trans (hb3.mono hb2.size))
   go_wp2
   go_ret3
   exact⟨_,_,_,rfl,HN.out,hb23⟩
 ·have f1:(E1 != 0)=true:=by simp[he1]
  have f2:(E1 == 0)=false:=by simp[he1]
  have HN:Hid (cntP s=none):=(by have h:=HM.out;rw[if_neg he1] at h;exact h)
  clear HM he1 P2
  go_enter Tryz.func334,Tryz.ntmps334
  go_wp2_with fail
  refine C1.mono ?_
  rintro e w1 ⟨rfl,n,rfl⟩
  go_wp2_with fail
  refine (P1 _).mono ?_
  rintro e w2 ⟨rfl,hb2⟩
  go_wp2
  go_ret3
  exact⟨_,_,_,rfl,HN.out,(Below.dN (Below.refl _ w) n).trans hb2⟩
end

section
open Go.RowKit Go.Proofs.YtcniomgjikienaaGreatDoor.Tx
attribute [local go_sem] ByteArray.extract_mk Zhc
def hk0 (A AN B BN:Int):Value:=.agg #[.int .i64 A,.int .i64 AN,.int .i64 B,.int .i64 BN,.slice none 0 0]
theorem ZiK {B b:Nat} {w u:World} (h:Below B w u) (hb:B≤b) (z0 z1 z2 z3 z4:Value):Below B w (((((u.setCell ⟨b,0,none⟩ z0).setCell ⟨b,1,none⟩ z1).setCell ⟨b,2,none⟩ z2).setCell ⟨b,3,none⟩ z3).setCell ⟨b,4,none⟩ z4):=((((h.setCell (p:=⟨b,0,none⟩) hb z0).setCell (p:=⟨b,1,none⟩) hb z1).setCell (p:=⟨b,2,none⟩) hb z2).setCell (p:=⟨b,3,none⟩) hb z3).setCell (p:=⟨b,4,none⟩) hb z4
def BgQ (w:World) (s:List UInt8) (e:Ending) (w':World):Prop:=∃ A AN B BN r,e=.returned (.tuple #[hk0 A AN B BN,.bool r])∧uhdP s=(if r=true then some (A,AN,B,BN) else none)∧Below w.heap.size w w'
theorem ZkS (c:UInt8) (t:List UInt8):tlB (c::t)=((c.toNat:Int) == 32):=by
 show (c == 32)=_
 rw[Bool.eq_iff_iff,beq_iff_eq,beq_iff_eq,← UInt8.toNat_inj]
 show c.toNat=32↔_
 omega
theorem Zlb (s:List UInt8) (w:World) (hl:s.length≤1099511627) (hm:Mxl w) :
  Calls Tryz.prog 294 #[.string ⟨s.toArray⟩] w fun e w'=>BgQ w s e w':=by
 obtain⟨hd,hhd⟩:∃ b,([64,64,32,45]:List UInt8).isPrefixOf s=b:=⟨_,rfl⟩
 obtain⟨s1,hs1⟩:∃ t,(if hd=true then s.drop 4 else s)=t:=⟨_,rfl⟩
 have hl1:s1.length≤1099511627:=(by
  rw[← hs1]
  split
  ·rw[List.length_drop];omega
  ·exact hl)
 have hC0:∀ u,Calls Tryz.prog 238 #[.string ⟨s.toArray⟩,.string ⟨#[64,64,32,45]⟩] u fun e w'=>e=.returned (.tuple #[.string ⟨s1.toArray⟩,.bool hd])∧w'=u:=(by
  intro u
  refine (Tryz.strings_CutPrefix ⟨s.toArray⟩ ⟨#[64,64,32,45]⟩ u).mono ?_
  rintro e w' ⟨rfl,rfl⟩
  have e1:Lib.hasPrefix (⟨s.toArray⟩:ByteArray).data.toList (⟨#[64,64,32,45]⟩:ByteArray).data.toList=hd:=hhd
  have e2:Lib.trimPrefix (⟨s.toArray⟩:ByteArray).data.toList (⟨#[64,64,32,45]⟩:ByteArray).data.toList=s1:=(by
   show (if Lib.hasPrefix s [64,64,32,45]=true then s.drop 4 else s)=_
   rw[show Lib.hasPrefix s [64,64,32,45]=hd from hhd,hs1])
  rw[e1,e2]
  exact⟨rfl,rfl⟩)
 obtain⟨o,ho⟩:∃ t,ctA [32,43] s1=t:=⟨_,rfl⟩
 obtain⟨s2,hs2⟩:∃ t,ctB [32,43] s1=t:=⟨_,rfl⟩
 obtain⟨k1,hk1⟩:∃ t,ctK [32,43] s1=t:=⟨_,rfl⟩
 obtain⟨f,hf⟩:∃ t,ctA [32,64,64] s2=t:=⟨_,rfl⟩
 obtain⟨t,ht⟩:∃ t,ctB [32,64,64] s2=t:=⟨_,rfl⟩
 obtain⟨k2,hk2⟩:∃ t,ctK [32,64,64] s2=t:=⟨_,rfl⟩
 have c1:=Zct [32,43] s1
 have c2:=Zct [32,64,64] s2
 rw[ho,hs2] at c1
 rw[hf,ht] at c2
 have hC1:∀ u,Mxl u→Calls Tryz.prog 46 #[.string ⟨s1.toArray⟩,.string ⟨#[32,43]⟩] u fun e w'=>e=.returned (.tuple #[.string ⟨o.toArray⟩,.string ⟨s2.toArray⟩,.bool k1])∧∃ n,w'=u.drewN n:=(by
  intro u hu
  have h:=ZkX [32,43] s1 (by simp) u hl1 hu
  rw[ho,hs2,hk1] at h
  exact h)
 have hC2:∀ u,Mxl u→Calls Tryz.prog 46 #[.string ⟨s2.toArray⟩,.string ⟨#[32,64,64]⟩] u fun e w'=>e=.returned (.tuple #[.string ⟨f.toArray⟩,.string ⟨t.toArray⟩,.bool k2])∧∃ n,w'=u.drewN n:=(by
  intro u hu
  have h:=ZkX [32,64,64] s2 (by simp) u (by omega) hu
  rw[hf,ht,hk2] at h
  exact h)
 have hN1:=fun u=>ZlE o u (by omega)
 have hN2:=fun u=>ZlE f u (by omega)
 have HW:Hid (∀ (a an b bn:Int) (ra rb:Bool),cntP o=(if ra=true then some (a,an) else none)→cntP f=(if rb=true then some (b,bn) else none)→uhdP s=if (hd && (k1 && (k2 && (ra && (rb && tlB t)))))=true then some (a,an,b,bn) else none):=(by
  intro a an b bn ra rb ca cb
  have h:=Zld hhd (s1:=s1) (fun e=>by rw[← hs1,if_pos e]) ho hs2 hf ht ca cb
  rw[hk1,hk2] at h
  exact h)
 have hx1:=Hx.new w ⟨0,0,0,0,[]⟩ (.slice none 0 0)
 have hb1:Below w.heap.size w (w.alloc (hkO ⟨0,0,0,0,[]⟩ (.slice none 0 0))):=(Below.refl _ w).alloc (Nat.le_refl _) _
 have hm1:Mxl (w.alloc (hkO ⟨0,0,0,0,[]⟩ (.slice none 0 0))):=hm.low hb1
 clear hhd hs1 ho hs2 hk1 hf ht hk2 c1 c2 hl hl1 hm
 unfold hkO at hx1 hb1 hm1
 dsimp only at hx1 hb1 hm1
 go_enter Tryz.func294,Tryz.ntmps294
 go_wp2_with fail
 refine (hC0 _).mono ?_
 rintro e w1 ⟨rfl,rfl⟩
 go_wp2_with fail
 refine (hC1 _ hm1).mono ?_
 rintro e w2 ⟨rfl,n2,rfl⟩
 have hx2:=hx1.row n2
 have hb2:=Below.dN hb1 n2
 have hm2:=hm1.low (Below.dN (Below.refl _ _) n2)
 clear hx1 hb1 hm1
 generalize World.drewN _ n2=W2 at hx2 hb2 hm2 ⊢
 go_wp2_with fail
 refine (hC2 _ hm2).mono ?_
 rintro e w3 ⟨rfl,n3,rfl⟩
 have hx3:=hx2.row n3
 have hb3:=Below.dN hb2 n3
 clear hx2 hb2 hm2
 generalize World.drewN _ n3=W3 at hx3 hb3 ⊢
 go_wp2_with fail
 refine (hN1 _).mono ?_
 rintro e w4 ⟨a,an,ra,rfl,ca,hB4⟩
 have hx4:=hx3.low hB4
 have hb4:=hb3.trans (hB4.mono hb3.size)
 clear hx3 hb3 hB4
 go_wp2_with fail
 refine (hN2 _).mono ?_
 rintro e w5 ⟨b,bn,rb,rfl,cb,hB5⟩
 have hx5:=hx4.low hB5
 have hb5:=hb4.trans (hB5.mono hb4.size)
 have HU:Hid (uhdP s=if (hd && (k1 && (k2 && (ra && (rb && tlB t)))))=true then some (a,an,b,bn) else none):=HW.out a an b bn ra rb ca cb
 clear hx4 hb4 hB5 ca cb HW hC0 hC1 hC2 hN1 hN2
 obtain⟨r,hr⟩:∃ r,(hd && (k1 && (k2 && (ra && (rb && tlB t)))))=r:=⟨_,rfl⟩
 rw[hr] at HU
 have HR:Hid ((hd && (k1 && (k2 && (ra && (rb && tlB t)))))=r):=hr
 clear hr
 go_upto_region 6 with fail
 go_cut [17] (fun rv wz=>rv=.bool r∧wz=w5)
 case first =>
  cases hd with
  | false =>
   have HE:Hid (false=r):=HR
   clear HR HU
   go_wp2
   go_meet
   case rel=>exact⟨by rw[← HE.out],rfl⟩
  | true =>
  cases k1 with
  | false =>
   have HE:Hid (false=r):=HR
   clear HR HU
   go_wp2
   go_meet
   case rel=>exact⟨by rw[← HE.out],rfl⟩
  | true =>
  cases k2 with
  | false =>
   have HE:Hid (false=r):=HR
   clear HR HU
   go_wp2
   go_meet
   case rel=>exact⟨by rw[← HE.out],rfl⟩
  | true =>
  cases ra with
  | false =>
   have HE:Hid (false=r):=HR
   clear HR HU
   go_wp2
   go_meet
   case rel=>exact⟨by rw[← HE.out],rfl⟩
  | true =>
  cases rb with
  | false =>
   have HE:Hid (false=r):=HR
   clear HR HU
   go_wp2
   go_meet
   case rel=>exact⟨by rw[← HE.out],rfl⟩
  | true =>
  cases t with
  | nil =>
   have HE:Hid (true=r):=HR
   clear HR HU
   go_wp2
   go_meet
   case rel=>exact⟨by rw[← HE.out],rfl⟩
  | cons c t =>
   have HE:Hid (((c.toNat:Int) == 32)=r):=(by show _=_;rw[← ZkS c t];exact HR.out)
   have i1:(0:Int)<(t.length:Int)+1:=by omega
   clear HR HU
   go_wp2
   go_meet
   case rel=>exact⟨by rw[← HE.out],rfl⟩
 case rest =>
 obtain⟨rfl,hw5⟩:=hcut
 subst hw5
 clear HR
 obtain⟨z0,z1,z2,z3,z4⟩:=hx5.cells
 dsimp only at z0 z1 z2 z3
 have zf0:=hx5.frozen 0
 have zf1:=hx5.frozen 1
 have zf2:=hx5.frozen 2
 have zf3:=hx5.frozen 3
 have zf4:=hx5.frozen 4
 have fh:=hx5.put5 (.int .i64 a) (.int .i64 an) (.int .i64 b) (.int .i64 bn) (.slice none 0 0)
 have fb:=ZiK hb5 (Nat.le_refl _) (.int .i64 a) (.int .i64 an) (.int .i64 b) (.int .i64 bn) (.slice none 0 0)
 clear hx5 hb5
 go_wp2
 exact bodyPost_ret (results_cell_tmp rfl _ _ w.heap.size 45 #[.int .i64 a,.int .i64 an,.int .i64 b,.int .i64 bn,.slice none 0 0] (0,0) _ rfl fh Tryz.underlying45 rfl (by kernel_rfl)) rfl ⟨a,an,b,bn,r,rfl,HU.out,fb⟩
end

end Go.Proofs.YtcniomgjikienaaGreatDoor
