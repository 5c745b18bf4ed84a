/-
  Texts that belong together, joined: CqQ, HuLn, CwC, CwD, CqB, CqU, CpA, CpB, CpC.
-/
import Derived.Test.YtgiojkhmkeocfaaGreatDoorCtmtBA13
import Derived.Test.YtgiojkhmkeocfaaGreatDoorCtmtBA12
import Derived.Test.YtgiojkhmkeocfaaGreatDoorCtmtBA4
import Derived.BigQuiet
import Derived.Lib.IndexAny
import Derived.Laws.RangeAny
import Derived.Deep.QuietTactic
import Derived.WalkLawsBesides
import Derived.Deep.DeepCutAuto
import Derived.Deep.CutBlock

set_option maxHeartbeats 16000000
set_option maxRecDepth 100000
namespace Go.Proofs.YtgiojkhmkeocfaaGreatDoor

section
open Q Go.RowKit Go.Proofs.YtgiojkhmkeocfaaGreatDoor.Tx
theorem Quote_any (l:List UInt8) (w:World) (hl:l.length≤1099511627776) :
  Calls Tryz.prog 110 #[.string ⟨l.toArray⟩] w fun e w'=>e=.returned (.string ⟨(quote l).toArray⟩)∧Below w.heap.size w w':=by
 go_enter Tryz.func110,Tryz.ntmps110
 go_wp2_with fail
 refine (WriteByte_any w.heap.size w.heap.size (.slice none 0 0) [] 34 _ (Bld.fresh 77 5 w) (by simp) (by simp)).mono ?_
 rintro e w1 ⟨rfl,v1,hB1,ha1,hf1,hb1⟩
 obtain⟨cap,C,fz,w2,hcv,hR,hC,hb2,hlt2⟩:=conv_bytes (P:=Tryz.prog) w1 9 75 5 l Tryz.underlying9 Tryz.underlying75 Tryz.underlying5
 have hB2:=hB1.kept (below_all hb2)
 have hRb:Beside w1.heap.size (.cells C 5 fz) w.heap.size v1 w2:=⟨hR,by have:=hB1.lt;omega,by
  intro e
  have:=(hB1.2.2.1.lt _ e).2
  omega⟩
 have hbw:Below w.heap.size w w2:=(((Below.refl _ w).alloc (Nat.le_refl _) _).trans hb1).trans (hb2.mono (by have:=hb1.size;simp at this;omega))
 generalize hRR:w1.heap.size=R at *
 have HR:Hid (w1.heap.size=R):=hRR
 clear hRR
 go_wp2
 go_loopw [10] (fun i wr=>∃ (k:Nat) (acc:List UInt8) (v:Value),k≤l.length∧i=.int .i64 k∧Bld 77 5 w.heap.size w.heap.size v (Lib.byteCells acc) wr∧Beside R (.cells C 5 fz) w.heap.size v wr∧Below w.heap.size w wr∧acc++qbody (l.drop k)=[34]++qbody l∧acc.length≤3 * k+1) (fun i _=>l.length-(intOf i).toNat)
 case atStart=>exact⟨0,[34],v1,Nat.zero_le _,rfl,hB2,hRb,hbw,rfl,by simp⟩
 case round =>
  obtain⟨k,acc,v,hk,rfl,hB,hR',hbr,hacc,hal⟩:=hrel
  by_cases hlt:k<l.length
  ·have hc:=(hR'.cell k).trans (hC k hlt)
   have hdk:l.drop k=l[k]::l.drop (k+1):=List.drop_eq_getElem_cons hlt
   have HD:Hid (acc++(q1 l[k]++qbody (l.drop (k+1)))=[34]++qbody l):=by
    rw[hdk] at hacc
    exact hacc
   clear hacc hdk
   generalize l[k]=x at *
   have hx:x.toNat<256:=x.toNat_lt
   go_wp2_with fail
   refine (isPlain_any _ _).mono ?_
   rintro e w' ⟨rfl,rfl⟩
   cases hpl:plainI x.toNat
   ·have HP:Hid (q1 x=[92,hexc (x.toNat / 16),hexc (x.toNat % 16)]):=by
     show q1 x=_
     simp[q1,hpl]
    go_wp2_with fail
    refine (WriteByte_any w.heap.size w.heap.size v _ 92 _ hB (by rw[Lib.byteCells_length];omega) (by have:=hbr.size;omega)).mono ?_
    rintro e w3 ⟨rfl,v3,hB3,ha3,hf3,hb3⟩
    go_wp2_with fail
    rw[hex_at]
    refine (WriteByte_any w.heap.size w.heap.size v3 _ _ _ hB3 (by simp[Lib.byteCells_length];omega) (by have:=hbr.size;have:=hb3.size;omega)).mono ?_
    rintro e w4 ⟨rfl,v4,hB4,ha4,hf4,hb4⟩
    go_wp2_with fail
    rw[hex_at]
    refine (WriteByte_any w.heap.size w.heap.size v4 _ _ _ hB4 (by simp[Lib.byteCells_length];omega) (by have:=hbr.size;have:=hb3.size;have:=hb4.size;omega)).mono ?_
    rintro e w5 ⟨rfl,v5,hB5,ha5,hf5,hb5⟩
    go_wp2
    go_roundw
    case rel =>
     refine⟨k+1,acc++[92,hexc (x.toNat / 16),hexc (x.toNat % 16)],v5,by omega,by go_num,?_,((hR'.step ha3 hf3).step ha4 hf4).step ha5 hf5,((hbr.trans hb3).trans hb4).trans hb5,by rw[← HD.out,HP.out];simp,by simp;omega⟩
     have e:Lib.byteCells (acc++[92,hexc (x.toNat / 16),hexc (x.toNat % 16)])=Lib.byteCells acc++[.int .u8 92]++[.int .u8 (hexc (x.toNat / 16)).toNat]++[.int .u8 (hexc (x.toNat % 16)).toNat]:=by
      rw[Lib.byteCells_append];simp[Lib.byteCells]
     rw[e]
     exact hB5
    case measure=>simp[intOf];omega
   ·have HP:Hid (q1 x=[x]):=by
     show q1 x=_
     simp[q1,hpl]
    go_wp2_with fail
    refine (WriteByte_any w.heap.size w.heap.size v _ _ _ hB (by rw[Lib.byteCells_length];omega) (by have:=hbr.size;omega)).mono ?_
    rintro e w3 ⟨rfl,v3,hB3,ha3,hf3,hb3⟩
    go_wp2
    go_roundw
    case rel=>exact⟨k+1,acc++[x],v3,by omega,by go_num,by rw[Lib.byteCells_append];exact hB3,hR'.step ha3 hf3,hbr.trans hb3,by rw[← HD.out,HP.out];simp,by simp;omega⟩
    case measure=>simp[intOf];omega
  ·have HD:Hid (acc=[34]++qbody l):=by
    have e:l.drop k=[]:=List.drop_eq_nil_of_le (by omega)
    rw[e] at hacc
    show acc=_
    simpa [qbody] using hacc
   clear hacc
   go_wp2_with fail
   refine (WriteByte_any w.heap.size w.heap.size v _ 34 _ hB (by rw[Lib.byteCells_length];omega) (by have:=hbr.size;omega)).mono ?_
   rintro e w3 ⟨rfl,v3,hB3,ha3,hf3,hb3⟩
   go_wp2_with fail
   have hB4:Bld 77 5 w.heap.size w.heap.size v3 (Lib.byteCells (acc++[34])) w3:=by rw[Lib.byteCells_append];exact hB3
   refine (Tryz.Builder_String_any_k w.heap.size w.heap.size _ _ hB4.isF (by have:=hbr.size;have:=hb3.size;omega)).mono ?_
   rintro e w4 ⟨rfl,_,hb4,_⟩
   go_wp2
   go_ret
   rw[HD.out]
   exact⟨rfl,(hbr.trans hb3).trans hb4⟩
end

section
open Ln Go.RowKit
theorem isLine_any (l:List UInt8) (last:Bool) (w:World) (hl:l.length≤1099511627776) (r:Bool) (HR:Hid (lineB l last=r)) :
  Calls Tryz.prog 107 #[.string ⟨l.toArray⟩,.bool last] w fun e w'=>e=.returned (.bool r)∧w=w':=by
 rcases Int.lt_or_le (Lib.indexByte l 10) 0 with hq | hq
 ·obtain⟨q1,q2⟩:=index_none hq
  have HE:Hid ((last && !l.isEmpty)=r):=(by show _=_;rw[← HR.out];exact (lineB_all q2 last).symm)
  clear hq q2 HR
  go_enter Tryz.func107,Tryz.ntmps107
  go_wp2_with fail
  refine (Tryz.strings_Index_one ⟨l.toArray⟩ 10 _).mono ?_
  rintro e w1 ⟨rfl,rfl⟩
  have hi2:Lib.indexByte (⟨l.toArray⟩:ByteArray).data.toList 10=-1:=q1
  rw[hi2]
  cases last with
  | false =>
   go_wp2
   go_ret
   rw[← HE.out]
   exact⟨rfl,rfl⟩
  | true =>
   cases l with
   | nil =>
    go_wp2
    go_ret
    rw[← HE.out]
    exact⟨rfl,rfl⟩
   | cons c t =>
    go_wp2
    go_ret
    rw[← HE.out]
    exact⟨rfl,rfl⟩
 ·obtain⟨a,b,he,hn,hi⟩:=index_some hq
  have HE:Hid (b.isEmpty=r):=(by
   show _=_
   rw[← HR.out,he]
   exact (lineB_cut hn last).symm)
  have hlen:l.length=a.length+1+b.length:=by rw[he];simp;omega
  clear hn hq he HR
  go_enter Tryz.func107,Tryz.ntmps107
  go_wp2_with fail
  refine (Tryz.strings_Index_one ⟨l.toArray⟩ 10 _).mono ?_
  rintro e w1 ⟨rfl,rfl⟩
  have hi2:Lib.indexByte (⟨l.toArray⟩:ByteArray).data.toList 10=a.length:=hi
  rw[hi2]
  cases b with
  | nil =>
   have hb:((a.length:Int) == (l.length:Int)-1)=true:=by simp at hlen;simp;omega
   clear hlen
   go_wp2
   go_ret
   rw[← HE.out]
   exact⟨rfl,rfl⟩
  | cons c t =>
   have hb:((a.length:Int) == (l.length:Int)-1)=false:=by simp at hlen;rw[beq_eq_false_iff_ne];omega
   clear hlen
   go_wp2
   go_ret
   rw[← HE.out]
   exact⟨rfl,rfl⟩
theorem hlCheck_f (v:Value) (ws:List (List UInt8)) (w:World) (hl:ws.length≤1099511627776) (he:∀ a∈ws,a.length≤1099511627776) (hv:HS w v ws) (r:Bool) (HR:Hid (checkB ws=r)) (z:Int) (HZ:Hid (z=if r=true then 0 else 6)) :
  Calls Tryz.prog 62 #[v] w fun e w'=>e=.returned (.int .i64 z)∧w=w':=by
 obtain⟨ao,c,rfl⟩:=Holds.form hv
 have HL:Hid (∀ a∈ws,a.length≤1099511627776):=he
 clear he
 go_enter Tryz.func62,Tryz.ntmps62
 go_wp2
 go_loopw [3,4,7] (fun _ _ i wr=>∃ k:Nat,k≤ws.length∧i=.int .i64 k∧wr=w∧Hid (checkB (ws.drop k)=r)) (fun _ _ i _=>ws.length-(intOf i).toNat)
 case atStart=>exact⟨0,Nat.zero_le _,rfl,rfl,HR⟩
 case round =>
  obtain⟨k,hk,rfl,rfl,HI⟩:=hrel
  clear HR
  by_cases hlt:k<ws.length
  ·obtain⟨b,off,rfl,_,hc⟩:=HS.at hv (by omega)
   have d1:=hc k hlt
   have hxl:=HL.out ws[k] (List.getElem_mem hlt)
   have i1:0≤(k:Int):=by omega
   have i2:(k:Int)<(ws.length:Int):=by omega
   have HM:(ws.drop (k+1)).isEmpty=((k:Int) == (ws.length:Int)-1):=by
    rw[Bool.eq_iff_iff,List.isEmpty_iff,List.drop_eq_nil_iff,beq_iff_eq];omega
   have HD:Hid ((lineB ws[k] (ws.drop (k+1)).isEmpty && checkB (ws.drop (k+1)))=r):=(by
    have h:=HI.out
    rw[List.drop_eq_getElem_cons hlt] at h
    exact h)
   rw[HM] at HD
   generalize hq:((k:Int) == (ws.length:Int)-1)=q at *
   generalize ws[k]=x at *
   obtain⟨r1,hr1⟩:∃ r1,lineB x q=r1:=⟨_,rfl⟩
   have HR1:Hid (lineB x q=r1):=hr1
   rw[hr1] at HD
   clear hr1 HI HM hc
   go_wp2_with fail
   refine (isLine_any x q _ hxl r1 HR1).mono ?_
   rintro e w1 ⟨rfl,rfl⟩
   cases r1 with
   | false =>
    have HZ2:Hid (z=6):=(by
     have h:=HD.out
     rw[Bool.false_and] at h
     show _=_
     rw[HZ.out,← h]
     rfl)
    clear HZ
    go_wp2
    go_ret
    rw[HZ2.out]
    exact⟨rfl,rfl⟩
   | true =>
    have HE:Hid (checkB (ws.drop (k+1))=r):=(by have h:=HD.out;rw[Bool.true_and] at h;exact h)
    go_wp2
    go_roundw
    case rel=>exact⟨k+1,by omega,by go_num,by trivial,HE⟩
    case measure=>simp[intOf];omega
  ·have HZ2:Hid (z=0):=(by
    have h:=HI.out
    rw[List.drop_of_length_le (by omega)] at h
    show _=_
    rw[HZ.out,← h]
    rfl)
   clear HZ HI
   have hend:decide ((k:Int)<(ws.length:Int))=false:=decide_eq_false (by omega)
   go_wp2
   go_ret
   rw[HZ2.out]
   exact⟨rfl,rfl⟩
theorem idx_any {l:List Mk} {p:Mk→Bool} {k:Nat} (hk:k<l.length):(l.drop k).any p=(p l[k] || (l.drop (k+1)).any p):=by
 rw[List.drop_eq_getElem_cons hk,List.any_cons]
theorem hIndexFunc_f (g:Nat) (l:List Mk) (p:Mk→Bool) (v:Value) (w:World) (hv:HMk w v l) (hl:l.length≤1099511627776) (eg:∀ args w,(callFunc g args).run Tryz.prog w=.ok (.enter g args) w)
  (hf:Hid (∀ m∈l,∀ u:World,Calls Tryz.prog g (#[.agg #[.int .u8 m.sg,.string ⟨m.tx.toArray⟩]]++#[]) u fun e u'=>e=.returned (.bool (p m))∧Below u.heap.size u u')) (r:Bool) (HR:Hid (l.any p=r)) :
  Calls Tryz.prog 106 #[v,.func (.func g) #[] #[]] w fun e w'=>∃ z:Int,e=.returned (.int .i64 z)∧decide (0≤z)=r∧Below w.heap.size w w':=by
 obtain⟨lo,lc,rfl⟩:=HMk.form hv
 go_enter Tryz.func106,Tryz.ntmps106
 go_wp2
 go_loopw [5,8] (fun _ i wr=>∃ k:Nat,k≤l.length∧i=.int .i64 k∧Below w.heap.size w wr∧Hid ((l.drop k).any p=r)) (fun _ i _=>l.length-(intOf i).toNat)
 case atStart=>exact⟨0,Nat.zero_le _,rfl,Below.refl _ _,HR⟩
 case round =>
  obtain⟨k,hk,rfl,hB,HI⟩:=hrel
  clear HR
  by_cases hlt:k<l.length
  ·obtain⟨b,off,rfl,hb,_⟩:=HMk.at hv (by omega)
   obtain⟨m,hm⟩:∃ m,l[k]=m:=⟨_,rfl⟩
   obtain⟨c0,c1⟩:=Low.mk hB hv k hlt hm
   have hc:=hf.out m (by rw[← hm];exact List.getElem_mem hlt) wr
   have i1:0≤(k:Int):=by omega
   have i2:(k:Int)<(l.length:Int):=by omega
   have HI2:Hid ((p m || (l.drop (k+1)).any p)=r):=(by
    have h:=HI.out
    rw[idx_any hlt,hm] at h
    exact h)
   obtain⟨q,hq⟩:∃ q,p m=q:=⟨_,rfl⟩
   rw[hq] at hc HI2
   clear HI hm hq
   cases q with
   | true =>
    have HE:Hid (true=r):=(by have h:=HI2.out;rw[Bool.true_or] at h;exact h)
    clear HI2
    go_wp2_with (go_at_fn g;refine hc.mono ?_;rintro e w' ⟨rfl,hB1⟩)
    go_ret
    exact⟨_,rfl,by rw[← HE.out];exact decide_eq_true (by omega),hB.trans (hB1.mono hB.size)⟩
   | false =>
    have HE:Hid ((l.drop (k+1)).any p=r):=(by have h:=HI2.out;rw[Bool.false_or] at h;exact h)
    clear HI2
    go_wp2_with (go_at_fn g;refine hc.mono ?_;rintro e w' ⟨rfl,hB1⟩)
    exact⟨⟨k+1,by omega,by go_num,hB.trans (hB1.mono hB.size),HE⟩,by simp[intOf];omega⟩
  ·have HE:Hid (false=r):=(by
    have h:=HI.out
    rw[List.drop_of_length_le (by omega)] at h
    exact h)
   clear HI
   have hend:decide ((k:Int)<(l.length:Int))=false:=decide_eq_false (by omega)
   go_wp2
   go_ret
   exact⟨_,rfl,HE.out,hB⟩
theorem hContains_f (g:Nat) (l:List Mk) (p:Mk→Bool) (v:Value) (w:World) (hv:HMk w v l) (hl:l.length≤1099511627776) (eg:∀ args w,(callFunc g args).run Tryz.prog w=.ok (.enter g args) w)
  (hf:Hid (∀ m∈l,∀ u:World,Calls Tryz.prog g (#[.agg #[.int .u8 m.sg,.string ⟨m.tx.toArray⟩]]++#[]) u fun e u'=>e=.returned (.bool (p m))∧Below u.heap.size u u')) (r:Bool) (HR:Hid (l.any p=r)) :
  Calls Tryz.prog 60 #[v,.func (.func g) #[] #[]] w fun e w'=>e=.returned (.bool r)∧Below w.heap.size w w':=by
 have HC:=hIndexFunc_f g l p v w hv hl eg hf r HR
 obtain⟨lo,lc,rfl⟩:=HMk.form hv
 go_enter Tryz.func60,Tryz.ntmps60
 go_wp2_with fail
 refine HC.mono ?_
 rintro e w1 ⟨z,rfl,hz,hB⟩
 go_wp2
 go_ret
 exact⟨rfl,hB⟩
end

section
open Ln Go.RowKit
def idxI (p:Mk→Bool):Nat→List Mk→Int
 | _,[]=>-1
 | k,m::l=>if p m=true then (k:Int) else idxI p (k+1) l
theorem idxI_any (p:Mk→Bool) (l:List Mk):∀ k,decide (0≤idxI p k l)=l.any p:=by
 induction l with
 | nil=>intro k;rfl
 | cons m l ih =>
  intro k
  rw[List.any_cons]
  by_cases h:p m=true
  ·have e:idxI p k (m::l)=(k:Int):=if_pos h
   rw[e,h]
   simp
  ·have e:idxI p k (m::l)=idxI p (k+1) l:=if_neg h
   rw[e,ih,Bool.eq_false_iff.2 h]
   rfl
theorem chgM_ne {m:Mk} {l:List Mk} (h:m.sg≠32):chgM (m::l)=m::chgM l∧rstM (m::l)=rstM l:=by
 have h1:(m.sg != 32)=true:=by simp[h]
 constructor
 ·simp only[chgM,List.takeWhile_cons,h1];rfl
 ·simp only[rstM,List.dropWhile_cons,h1];rfl
theorem chgM_eq {m:Mk} {l:List Mk} (h:m.sg=32):chgM (m::l)=[]∧rstM (m::l)=m::l:=by
 have h1:(m.sg != 32)=false:=by simp[h]
 constructor
 ·simp only[chgM,List.takeWhile_cons,h1];rfl
 ·simp only[rstM,List.dropWhile_cons,h1];rfl
theorem idxI_chg (l:List Mk):∀ k,idxI (fun m=>m.sg == 32) k l=if rstM l=[] then -1 else (k:Int)+(chgM l).length:=by
 induction l with
 | nil=>intro k;rfl
 | cons m l ih =>
  intro k
  by_cases h:m.sg=32
  ·have e:idxI (fun m=>m.sg == 32) k (m::l)=(k:Int):=if_pos (by simp[h])
   rw[e,(chgM_eq h).1,(chgM_eq h).2,if_neg (by simp)]
   simp
  ·have e:idxI (fun m=>m.sg == 32) k (m::l)=idxI (fun m=>m.sg == 32) (k+1) l:=if_neg (by simp[h])
   rw[e,ih,(chgM_ne h).1,(chgM_ne h).2]
   by_cases hq:rstM l=[]
   ·rw[if_pos hq,if_pos hq]
   ·rw[if_neg hq,if_neg hq]
    simp only[List.length_cons];omega
theorem idxI_drop {p:Mk→Bool} {l:List Mk} {k:Nat} (hk:k<l.length):idxI p k (l.drop k)=if p l[k]=true then (k:Int) else idxI p (k+1) (l.drop (k+1)):=by
 rw[List.drop_eq_getElem_cons hk]
 rfl
theorem cIdx_f (g:Nat) (cap:Array Value) (l:List Mk) (p:Mk→Bool) (v:Value) (w:World) (hv:HMk w v l) (hl:l.length≤1099511627776) (eg:∀ args w,(callFunc g args).run Tryz.prog w=.ok (.enter g args) w)
  (hf:Hid (∀ m∈l,∀ u:World,Below w.heap.size w u→Calls Tryz.prog g (#[.agg #[.int .u8 m.sg,.string ⟨m.tx.toArray⟩]]++cap) u fun e u'=>e=.returned (.bool (p m))∧Below u.heap.size u u')) (z:Int) (HR:Hid (idxI p 0 l=z)) :
  Calls Tryz.prog 106 #[v,.func (.func g) #[] cap] w fun e w'=>e=.returned (.int .i64 z)∧Below w.heap.size w w':=by
 obtain⟨lo,lc,rfl⟩:=HMk.form hv
 go_enter Tryz.func106,Tryz.ntmps106
 go_wp2
 go_loopw [5,8] (fun _ i wr=>∃ k:Nat,k≤l.length∧i=.int .i64 k∧Below w.heap.size w wr∧Hid (idxI p k (l.drop k)=z)) (fun _ i _=>l.length-(intOf i).toNat)
 case atStart=>exact⟨0,Nat.zero_le _,rfl,Below.refl _ _,HR⟩
 case round =>
  obtain⟨k,hk,rfl,hB,HI⟩:=hrel
  clear HR
  by_cases hlt:k<l.length
  ·obtain⟨b,off,rfl,hb,_⟩:=HMk.at hv (by omega)
   obtain⟨m,hm⟩:∃ m,l[k]=m:=⟨_,rfl⟩
   obtain⟨c0,c1⟩:=Low.mk hB hv k hlt hm
   have hc:=hf.out m (by rw[← hm];exact List.getElem_mem hlt) wr hB
   have i1:0≤(k:Int):=by omega
   have i2:(k:Int)<(l.length:Int):=by omega
   have HI2:Hid ((if p m=true then (k:Int) else idxI p (k+1) (l.drop (k+1)))=z):=(by
    have h:=HI.out
    rw[idxI_drop hlt,hm] at h
    exact h)
   obtain⟨q,hq⟩:∃ q,p m=q:=⟨_,rfl⟩
   rw[hq] at hc HI2
   clear HI hm hq
   cases q with
   | true =>
    have HE:Hid ((k:Int)=z):=(by have h:=HI2.out;rw[if_pos rfl] at h;exact h)
    clear HI2
    go_wp2_with (go_at_fn g;refine hc.mono ?_;rintro e w' ⟨rfl,hB1⟩)
    go_ret
    exact⟨by rw[HE.out];rfl,hB.trans (hB1.mono hB.size)⟩
   | false =>
    have HE:Hid (idxI p (k+1) (l.drop (k+1))=z):=(by have h:=HI2.out;rw[if_neg (by decide)] at h;exact h)
    clear HI2
    go_wp2_with (go_at_fn g;refine hc.mono ?_;rintro e w' ⟨rfl,hB1⟩)
    exact⟨⟨k+1,by omega,by go_num,hB.trans (hB1.mono hB.size),HE⟩,by simp[intOf];omega⟩
  ·have HE:Hid (-1=z):=(by
    have h:=HI.out
    rw[List.drop_of_length_le (by omega)] at h
    exact h)
   clear HI
   have hend:decide ((k:Int)<(l.length:Int))=false:=decide_eq_false (by omega)
   go_wp2
   go_ret
   exact⟨by rw[HE.out];rfl,hB⟩
theorem cContains_f (g:Nat) (cap:Array Value) (l:List Mk) (p:Mk→Bool) (v:Value) (w:World) (hv:HMk w v l) (hl:l.length≤1099511627776) (eg:∀ args w,(callFunc g args).run Tryz.prog w=.ok (.enter g args) w)
  (hf:Hid (∀ m∈l,∀ u:World,Below w.heap.size w u→Calls Tryz.prog g (#[.agg #[.int .u8 m.sg,.string ⟨m.tx.toArray⟩]]++cap) u fun e u'=>e=.returned (.bool (p m))∧Below u.heap.size u u')) (r:Bool) (HR:Hid (l.any p=r)) :
  Calls Tryz.prog 60 #[v,.func (.func g) #[] cap] w fun e w'=>e=.returned (.bool r)∧Below w.heap.size w w':=by
 obtain⟨z,hz⟩:∃ z,idxI p 0 l=z:=⟨_,rfl⟩
 have HC:=cIdx_f g cap l p v w hv hl eg hf z hz
 have HZ:Hid (decide (0≤z)=r):=(by show _=_;rw[← hz,idxI_any];exact HR.out)
 clear hz HR
 obtain⟨lo,lc,rfl⟩:=HMk.form hv
 go_enter Tryz.func60,Tryz.ntmps60
 go_wp2_with fail
 refine HC.mono ?_
 rintro e w1 ⟨rfl,hB⟩
 go_wp2
 go_ret
 exact⟨by rw[HZ.out];rfl,hB⟩
theorem cisKept_f (m:Mk) (w:World):Calls Tryz.prog 212 #[.agg #[.int .u8 m.sg,.string ⟨m.tx.toArray⟩]] w fun e w'=>e=.returned (.bool (m.sg == 32))∧Below w.heap.size w w':=by
 have hBl:Below w.heap.size w (w.alloc (.cells #[.int .u8 m.sg,.string ⟨m.tx.toArray⟩] 103)):=(Below.refl _ w).alloc (Nat.le_refl _) _
 go_enter Tryz.func212,Tryz.ntmps212
 go_wp2
 go_ret
 exact⟨rfl,hBl⟩
theorem chas1_f (k:Int) (X:Nat) (m:Mk) (w:World) (cX:w.cell? ⟨X,0,none⟩=some (.int .u8 k)) (hX:X<w.heap.size):Calls Tryz.prog 221 #[.agg #[.int .u8 m.sg,.string ⟨m.tx.toArray⟩],.pointer (some ⟨X,0,none⟩)] w fun e w'=>e=.returned (.bool (m.sg == k))∧Below w.heap.size w w':=by
 have hBl:Below w.heap.size w (w.alloc (.cells #[.int .u8 m.sg,.string ⟨m.tx.toArray⟩] 103)):=(Below.refl _ w).alloc (Nat.le_refl _) _
 have cX2:(w.alloc (.cells #[.int .u8 m.sg,.string ⟨m.tx.toArray⟩] 103)).cell? ⟨X,0,none⟩=some (.int .u8 k):=(World.cell?_of_block (w:=w) (hBl.block X hX)).trans cX
 go_enter Tryz.func221,Tryz.ntmps221
 go_wp2
 go_ret
 exact⟨rfl,hBl⟩
theorem chas_f (k:Int) (l:List Mk) (v:Value) (w:World) (hv:HMk w v l) (hl:l.length≤1099511627776) (r:Bool) (HR:Hid (hasM k l=r)) :
  Calls Tryz.prog 165 #[v,.int .u8 k] w fun e w'=>e=.returned (.bool r)∧Below w.heap.size w w':=by
 have hBl:Below w.heap.size w (w.alloc (.cells #[.int .u8 k] 5)):=(Below.refl _ w).alloc (Nat.le_refl _) _
 have cX:(w.alloc (.cells #[.int .u8 k] 5)).cell? ⟨w.heap.size,0,none⟩=some (.int .u8 k):=(by rw[Lib.cell_of_heap (heap_alloc_new w _)];rfl)
 have hsz:(w.alloc (.cells #[.int .u8 k] 5)).heap.size=w.heap.size+1:=by simp
 have hv1:HMk (w.alloc (.cells #[.int .u8 k] 5)) v l:=hv.keep hBl (Nat.le_refl _)
 have HC:Hid (Calls Tryz.prog 60 #[v,.func (.func 221) #[] #[.pointer (some ⟨w.heap.size,0,none⟩)]] (w.alloc (.cells #[.int .u8 k] 5)) fun e w'=>e=.returned (.bool r)∧Below w.heap.size w w'):=(by
  refine (cContains_f 221 #[.pointer (some ⟨w.heap.size,0,none⟩)] l (fun m=>m.sg == k) v _ hv1 hl (enters_of Tryz.func221 (by kernel_rfl) rfl) ?_ r HR).mono ?_
  ·intro m _ u hu
   refine chas1_f k w.heap.size m u ((World.cell?_of_block (hu.block w.heap.size (by rw[hsz];omega))).trans cX) (Nat.lt_of_lt_of_le (by rw[hsz];omega) hu.size)
  ·rintro e w' ⟨h1,h2⟩
   exact⟨h1,hBl.trans (h2.mono (by rw[hsz];omega))⟩)
 obtain⟨lo,lc,rfl⟩:=HMk.form hv
 clear cX hsz hv1 HR hBl
 have hmf:∀ (fn:Fn) (first cap:Array Value) (w:World),(Instr.makeFunc fn first cap).run Tryz.prog w=.ok (.func fn first cap) w:=fun _ _ _ _=>rfl
 go_enter Tryz.func165,Tryz.ntmps165
 go_wp2_with fail
 refine HC.out.mono ?_
 rintro e w1 ⟨rfl,hB⟩
 go_wp2
 go_ret
 exact⟨rfl,hB⟩
theorem chg_take (l:List Mk):l.take (chgM l).length=chgM l:=by
 have h:=chg_rstM l
 have h2:(chgM l++rstM l).take (chgM l).length=chgM l:=List.take_left
 rw[h] at h2
 exact h2
theorem chg_le (l:List Mk):(chgM l).length≤l.length:=by
 have h:=congrArg List.length (chg_rstM l)
 rw[List.length_append] at h
 omega
theorem rst_nil {l:List Mk} (h:rstM l=[]):chgM l=l:=by
 have h1:=chg_rstM l
 rw[h,List.append_nil] at h1
 exact h1
def mslF (ao:Option Addr) (cap k:Nat):Option Addr:=if cap=k then ao else ao.map (·.add (k * 2))
theorem run_mF (ao:Option Addr) (n cap k:Nat) (hk:k≤n) (_:n≤cap) (u:World):(Instr.slice 57 (.slice ao n cap) (some (.int .i64 (k:Int))) none none).run Tryz.prog u=.ok (.slice (mslF ao cap k) (n-k) (cap-k)) u:=by
 rw[run_slice_l (P:=Tryz.prog) u 57 ao n cap (by kernel_rfl) .i64 k (by omega) (by omega)]
 have:(sizeOf (Tryz.prog.elem 57)).run Tryz.prog u=.ok 2 u:=by kernel_rfl
 rw[this]
 simp[Result.andThen,sliced,mslF]
theorem maddr_zero (ad:Addr):ad.add 0=ad:=by unfold Addr.add;split<;>simp_all
theorem run_mT (ao:Option Addr) (n cap k:Nat) (hk:k≤n) (hn:n≤cap) (u:World):(Instr.slice 57 (.slice ao n cap) none (some (.int .i64 (k:Int))) none).run Tryz.prog u=.ok (.slice ao k cap) u:=by
 rw[run_slice_h (P:=Tryz.prog) u 57 ao n cap (by kernel_rfl) .i64 k (by omega) (by omega)]
 have:(sizeOf (Tryz.prog.elem 57)).run Tryz.prog u=.ok 2 u:=by kernel_rfl
 rw[this]
 cases ao with
 | none=>simp[Result.andThen,sliced]
 | some ad=>simp[Result.andThen,sliced,maddr_zero]
theorem mhold_cap {w:World} {ao:Option Addr} {n c:Nat} {xs:List Value} (h:Holds w (.slice ao n c) n xs):n≤c:=by
 rcases h with ⟨h,h0,_⟩ | ⟨ad,c',h,h3,_⟩
 ·omega
 ·cases h;exact h3
theorem mkcells_take (l:List Mk) (k:Nat):(mkcells l).take (k * 2)=mkcells (l.take k):=by
 induction k generalizing l with
 | zero=>simp[mkcells]
 | succ k ih =>
  cases l with
  | nil=>simp[mkcells]
  | cons m l =>
   have e:(k+1) * 2=k * 2+1+1:=by omega
   have h1:mkcells (m::l)=.int .u8 m.sg::.string ⟨m.tx.toArray⟩::mkcells l:=rfl
   have h2:mkcells ((m::l).take (k+1))=.int .u8 m.sg::.string ⟨m.tx.toArray⟩::mkcells (l.take k):=rfl
   rw[e,h1,h2,List.take_succ_cons,List.take_succ_cons,ih]
theorem mkcells_drop (l:List Mk) (k:Nat):(mkcells l).drop (k * 2)=mkcells (l.drop k):=by
 induction k generalizing l with
 | zero=>simp
 | succ k ih =>
  cases l with
  | nil=>simp[mkcells]
  | cons m l =>
   have e:(k+1) * 2=k * 2+1+1:=by omega
   have h1:mkcells (m::l)=.int .u8 m.sg::.string ⟨m.tx.toArray⟩::mkcells l:=rfl
   rw[e,h1,List.drop_succ_cons,List.drop_succ_cons,ih]
   rfl
theorem mk_to {w:World} {ao:Option Addr} {c:Nat} {l:List Mk} (h:HMk w (.slice ao l.length c) l) (k:Nat) (hk:k≤l.length):HMk w (.slice ao k c) (l.take k):=by
 have hlt:(l.take k).length=k:=by rw[List.length_take];omega
 unfold HMk at h ⊢
 rw[hlt]
 rcases h with ⟨h,h0,h4⟩ | ⟨ad,c',h,h3,hc⟩
 ·have hl0:l=[]:=List.eq_nil_of_length_eq_zero h0
  subst hl0
  cases h
  have hk0:k=0:=by simpa using hk
  subst hk0
  exact .inl ⟨by simp,rfl,by simp[mkcells]⟩
 ·cases h
  refine .inr ⟨ad,c,rfl,by omega,fun j v hj=>hc j v ?_⟩
  rw[← mkcells_take] at hj
  by_cases hjk:j<k * 2
  ·rw[List.getElem?_take_of_lt hjk] at hj
   exact hj
  ·rw[List.getElem?_eq_none (by simp;omega)] at hj
   cases hj
theorem mk_from {w:World} {ao:Option Addr} {c:Nat} {l:List Mk} (h:HMk w (.slice ao l.length c) l) (k:Nat) (hk:k≤l.length):HMk w (.slice (mslF ao c k) (l.length-k) (c-k)) (l.drop k):=by
 have hlt:(l.drop k).length=l.length-k:=by rw[List.length_drop]
 have hnc:=mhold_cap h
 unfold HMk at h ⊢
 rw[hlt]
 rcases h with ⟨h,h0,h4⟩ | ⟨ad,c',h,h3,hc⟩
 ·have hl0:l=[]:=List.eq_nil_of_length_eq_zero h0
  subst hl0
  cases h
  have hk0:k=0:=by simpa using hk
  subst hk0
  exact .inl ⟨by simp[mslF],rfl,by simp[mkcells]⟩
 ·cases h
  refine .inr ⟨if c=k then ad else ad.add (k * 2),c-k,by unfold mslF;split<;>simp,by omega,fun j v hj=>?_⟩
  rw[← mkcells_drop,List.getElem?_drop] at hj
  have hlt2:=(List.getElem?_eq_some_iff.1 hj).1
  rw[mkcells_length] at hlt2
  rw[if_neg (by omega)]
  have h0:=hc 0 _ (List.getElem?_eq_getElem (by rw[mkcells_length];omega))
  obtain⟨b,off,rfl⟩:=addr_of h0
  have:=hc _ _ hj
  rw[add_none] at this
  rw[add_none,add_none,Nat.add_assoc]
  exact this
theorem cpiece_f (l:List Mk) (ao:Option Addr) (c:Nat) (w:World) (hv:HMk w (.slice ao l.length c) l) (hl:l.length≤1099511627776) (n:Nat) (HN:Hid ((chgM l).length=n)) :
  Calls Tryz.prog 164 #[.slice ao l.length c] w fun e w'=>e=.returned (.slice ao n c)∧Below w.heap.size w w':=by
 have hnc:=mhold_cap hv
 have hle:=chg_le l
 rw[HN.out] at hle
 have hc:=fun z HZ=>cIdx_f 212 #[] l (fun m=>m.sg == 32) (.slice ao l.length c) w hv hl (enters_of Tryz.func212 (by kernel_rfl) rfl) (fun m _ u _=>cisKept_f m u) z HZ
 by_cases hr:rstM l=[]
 ·have HE:Hid (l.length=n):=(by show _=_;rw[← HN.out,rst_nil hr])
  have hc1:=hc (-1) (by show _=_;rw[idxI_chg,if_pos hr])
  clear HN hr hc hv
  go_enter Tryz.func164,Tryz.ntmps164
  go_wp2_with fail
  refine hc1.mono ?_
  rintro e w1 ⟨rfl,hB⟩
  go_wp2
  go_ret
  exact⟨by rw[HE.out];rfl,hB⟩
 ·have hc1:=hc (n:Int) (by show _=_;rw[idxI_chg,if_neg hr,HN.out];simp)
  have hs:=run_mT ao l.length c n hle hnc
  have i1:(0:Int)≤(n:Int):=by omega
  have i2:(n:Int)≤(l.length:Int):=by omega
  have i3:(n:Int)≤(c:Int):=by omega
  clear HN hr hc hv
  go_enter Tryz.func164,Tryz.ntmps164
  go_wp2_with fail
  refine hc1.mono ?_
  rintro e w1 ⟨rfl,hB⟩
  go_wp2
  go_ret
  exact⟨rfl,hB⟩
end

section
open Go.RowKit
attribute [local go_sem] ByteArray.extract_mk
def oddI (r:Int):Bool:=decide (r<33) || decide (126<r) || decide (r=34)
theorem cisOdd_f (r:Int) (w:World) (q:Bool) (HQ:Hid (oddI r=q)):Calls Tryz.prog 109 #[.int .i32 r] w fun e w'=>e=.returned (.bool q)∧w=w':=by
 by_cases h1:r<33
 ·have HE:Hid (true=q):=(by show _=_;rw[← HQ.out];simp[oddI,h1])
  go_enter Tryz.func109,Tryz.ntmps109
  go_wp2
  go_ret
  exact⟨by rw[← HE.out];rfl,rfl⟩
 ·by_cases h2:126<r
  ·have HE:Hid (true=q):=(by show _=_;rw[← HQ.out];simp[oddI,h2])
   go_enter Tryz.func109,Tryz.ntmps109
   go_wp2
   go_ret
   exact⟨by rw[← HE.out];rfl,rfl⟩
  ·have HE:Hid ((r == 34)=q):=(by show _=_;rw[← HQ.out];simp only[oddI,h1,h2,decide_false,Bool.false_or];rfl)
   go_enter Tryz.func109,Tryz.ntmps109
   go_wp2
   go_ret
   exact⟨by rw[← HE.out];rfl,rfl⟩
theorem odd_name (c:UInt8):oddI (c.toNat:Int)=!nameC c:=by
 unfold oddI nameC
 rw[Bool.eq_iff_iff]
 simp only[Bool.or_eq_true,decide_eq_true_eq,Bool.not_eq_true',decide_eq_false_iff_not]
 omega
def oddW:Nat→List UInt8→Int
 | _,[]=>-1
 | k,c::l=>if nameC c=true then oddW (k+1) l else (k:Int)
theorem oddW_all (l:List UInt8):∀ k,decide (0≤oddW k l)=!l.all nameC:=by
 induction l with
 | nil=>intro k;rfl
 | cons c l ih =>
  intro k
  rw[List.all_cons]
  by_cases h:nameC c=true
  ·have e:oddW k (c::l)=oddW (k+1) l:=if_pos h
   rw[e,ih,h]
   rfl
  ·have e:oddW k (c::l)=(k:Int):=if_neg h
   rw[e,Bool.eq_false_iff.2 h]
   simp
theorem oddW_step {l:List UInt8} {k:Nat} (hk:k<l.length):oddW k (l.drop k)=if nameC l[k]=true then oddW (k+1) (l.drop (k+1)) else (k:Int):=by
 rw[List.drop_eq_getElem_cons hk]
 rfl
theorem cindexFunc_f (l:List UInt8) (w:World) (_hl:l.length≤1099511627776) (z:Int) (HZ:Hid (oddW 0 l=z)) :
  Calls Tryz.prog 220 #[.string ⟨l.toArray⟩,.func (.func 109) #[] #[],.bool true] w fun e w'=>e=.returned (.int .i64 z)∧Below w.heap.size w w':=by
 go_enter Tryz.func220,Tryz.ntmps220
 go_wp2
 go_loopw [] (fun wr=>∃ pos:Nat,pos≤l.length∧wr.heap[w.heap.size]?=some (.stringIter ⟨l.toArray⟩ pos)∧Below w.heap.size w wr∧Hid (oddW pos (l.drop pos)=z)) (fun wr=>l.length-wr.iterPos w.heap.size)
 case atStart=>exact⟨0,Nat.zero_le _,World.iter_heap w _ 0,(Below.refl _ w).alloc (Nat.le_refl _) _,HZ⟩
 case round =>
  obtain⟨pos,hp,hit,hbr,HA⟩:=hrel
  have hwl:w.heap.size<wr.heap.size:=(Array.getElem?_eq_some_iff.1 hit).1
  by_cases hlt:pos<l.length
  ·have HS:=HA.out
   rw[oddW_step hlt] at HS
   by_cases ha:l[pos].toNat<128
   ·have hnx:∀ ty,(Instr.next (.pointer (some ⟨w.heap.size,0,none⟩)) true ty).run Tryz.prog wr=_:=fun ty=>Lib.run_next_ascii_at wr w.heap.size ⟨l.toArray⟩ pos ty hit hlt ha
    have hit2:=Lib.iterAt_heap wr w.heap.size ⟨l.toArray⟩ pos (pos+1) hit
    have hbr2:=Lib.below_iterAt hbr (k:=w.heap.size) (Nat.le_refl _) ⟨l.toArray⟩ (pos+1)
    cases hn:nameC l[pos] with
    | true =>
     have HI:Hid (oddW (pos+1) (l.drop (pos+1))=z):=(by rw[hn,if_pos rfl] at HS;exact HS)
     have hc:=fun u=>cisOdd_f (l[pos].toNat:Int) u false (by show _=_;rw[odd_name,hn];rfl)
     clear HS hn HA
     go_wp2_with fail
     refine (hc _).mono ?_
     rintro e w4 ⟨rfl,rfl⟩
     go_wp2
     go_roundw
     case rel=>exact⟨pos+1,by omega,hit2,hbr2,HI⟩
     case measure=>simp only[World.iterPos,hit,hit2];omega
    | false =>
     have HE:Hid ((pos:Int)=z):=(by rw[hn,if_neg (by decide)] at HS;exact HS)
     have hc:=fun u=>cisOdd_f (l[pos].toNat:Int) u true (by show _=_;rw[odd_name,hn];rfl)
     clear HS hn HA
     go_wp2_with fail
     refine (hc _).mono ?_
     rintro e w4 ⟨rfl,rfl⟩
     go_wp2
     go_ret
     exact⟨by rw[HE.out];rfl,hbr2⟩
   ·have hdh:=(decode_high ⟨l.toArray⟩ pos hlt (by show 128≤l[pos].toNat;omega))
    have hnx:∀ ty,(Instr.next (.pointer (some ⟨w.heap.size,0,none⟩)) true ty).run Tryz.prog wr=_:=fun ty=>Lib.run_next_any_at wr w.heap.size ⟨l.toArray⟩ pos ty hit hlt
    have hbr2:=Lib.below_iterAt hbr (k:=w.heap.size) (Nat.le_refl _) ⟨l.toArray⟩ (pos+(Utf8.decode ⟨l.toArray⟩ pos).2)
    have hdl:=decode_le ⟨l.toArray⟩ pos
    have HE:Hid ((pos:Int)=z):=(by
     have hn:nameC l[pos]=false:=(by unfold nameC;exact decide_eq_false (by omega))
     rw[hn,if_neg (by decide)] at HS
     exact HS)
    obtain⟨hd1,hd2⟩:=hdh
    generalize Utf8.decode ⟨l.toArray⟩ pos=dd at *
    have hc:=fun u=>cisOdd_f (dd.1:Int) u true (by
     show _=_
     unfold oddI
     have:decide (126<(dd.1:Int))=true:=decide_eq_true (by omega)
     rw[this]
     simp)
    clear HS HA
    go_wp2_with fail
    refine (hc _).mono ?_
    rintro e w4 ⟨rfl,rfl⟩
    go_wp2
    go_ret
    exact⟨by rw[HE.out];rfl,hbr2⟩
  ·have hnx:∀ ty,(Instr.next (.pointer (some ⟨w.heap.size,0,none⟩)) true ty).run Tryz.prog wr=_:=fun ty=>Lib.run_next_end_at wr w.heap.size ⟨l.toArray⟩ pos ty hit hlt
   have HE:Hid (-1=z):=(by
    have h:=HA.out
    rw[List.drop_of_length_le (by omega)] at h
    exact h)
   clear HA
   go_wp2
   go_ret
   exact⟨by rw[HE.out];rfl,hbr⟩
theorem cIndexFunc_f (l:List UInt8) (w:World) (hl:l.length≤1099511627776) (z:Int) (HZ:Hid (oddW 0 l=z)) :
  Calls Tryz.prog 162 #[.string ⟨l.toArray⟩,.func (.func 109) #[] #[]] w fun e w'=>e=.returned (.int .i64 z)∧Below w.heap.size w w':=by
 go_enter Tryz.func162,Tryz.ntmps162
 go_wp2_with fail
 refine (cindexFunc_f l w hl z HZ).mono ?_
 rintro e w1 ⟨rfl,hB⟩
 go_wp2
 go_ret
 exact⟨rfl,hB⟩
theorem cContainsFunc_f (l:List UInt8) (w:World) (hl:l.length≤1099511627776) (q:Bool) (HQ:Hid ((!l.all nameC)=q)) :
  Calls Tryz.prog 108 #[.string ⟨l.toArray⟩,.func (.func 109) #[] #[]] w fun e w'=>e=.returned (.bool q)∧Below w.heap.size w w':=by
 obtain⟨z,hz⟩:∃ z,oddW 0 l=z:=⟨_,rfl⟩
 have HC:=cIndexFunc_f l w hl z hz
 have HZ:Hid (decide (0≤z)=q):=(by show _=_;rw[← hz,oddW_all];exact HQ.out)
 clear hz HQ
 go_enter Tryz.func108,Tryz.ntmps108
 go_wp2_with fail
 refine HC.mono ?_
 rintro e w1 ⟨rfl,hB⟩
 go_wp2
 go_ret
 exact⟨by rw[HZ.out];rfl,hB⟩
theorem cname_f (l:List UInt8) (w:World) (hl:l.length≤1099511627776) (t:List UInt8) (HT:Hid (nameT l=t)) :
  Calls Tryz.prog 66 #[.string ⟨l.toArray⟩] w fun e w'=>e=.returned (.string ⟨t.toArray⟩)∧Below w.heap.size w w':=by
 by_cases h0:l=[]
 ·have HE:Hid (devN=t):=(by have h:=HT.out;unfold nameT at h;rw[if_pos h0] at h;exact h)
  subst h0
  go_enter Tryz.func66,Tryz.ntmps66
  go_wp2
  go_ret
  exact⟨by rw[← HE.out];rfl,Below.refl _ _⟩
 ·have e0:l.isEmpty=false:=(by cases l with | nil=>exact absurd rfl h0 | cons _ _=>rfl)
  have hq:=Quote_any l
  by_cases h1:l=devN
  ·have HE:Hid (Q.quote l=t):=(by have h:=HT.out;unfold nameT at h;rw[if_neg h0,if_neg (fun q=>q.2 h1)] at h;exact h)
   have e1:(l == [47,100,101,118,47,110,117,108,108])=true:=(by rw[beq_iff_eq];exact h1)
   clear HT h1
   go_enter Tryz.func66,Tryz.ntmps66
   go_wp2_with fail
   refine (hq _ hl).mono ?_
   rintro e w1 ⟨rfl,hB⟩
   go_wp2
   go_ret
   exact⟨by rw[← HE.out];rfl,hB⟩
  ·have e1:(l == [47,100,101,118,47,110,117,108,108])=false:=beq_eq_false_iff_ne.2 h1
   cases hn:l.all nameC with
   | true =>
    have HE:Hid (l=t):=(by have h:=HT.out;unfold nameT at h;rw[if_neg h0,if_pos ⟨hn,h1⟩] at h;exact h)
    have hc:=fun u=>cContainsFunc_f l u hl false (by show _=_;rw[hn];rfl)
    clear HT h1 hn
    go_enter Tryz.func66,Tryz.ntmps66
    go_wp2_with fail
    refine (hc _).mono ?_
    rintro e w1 ⟨rfl,hB⟩
    go_wp2
    go_ret
    exact⟨by rw[← HE.out];rfl,hB⟩
   | false =>
    have HE:Hid (Q.quote l=t):=(by have h:=HT.out;unfold nameT at h;rw[if_neg h0,if_neg (fun q=>by rw[hn] at q;cases q.1)] at h;exact h)
    have hc:=fun u=>cContainsFunc_f l u hl true (by show _=_;rw[hn];rfl)
    clear HT h1 hn
    go_enter Tryz.func66,Tryz.ntmps66
    go_wp2_with fail
    refine (hc _).mono ?_
    rintro e w1 ⟨rfl,hB⟩
    go_wp2_with fail
    refine (hq _ hl).mono ?_
    rintro e w2 ⟨rfl,hB2⟩
    go_wp2
    go_ret
    exact⟨by rw[← HE.out];rfl,hB.trans (hB2.mono hB.size)⟩
end

section
open Q Go.RowKit Go.Proofs.YtgiojkhmkeocfaaGreatDoor.Tx
attribute [local go_sem] ba_at hexl_at
theorem idx_hex (x:UInt8):Lib.indexByte [48,49,50,51,52,53,54,55,56,57,97,98,99,100,101,102] x=digitI x.toNat:=by
 have key:∀ i:Fin 256,Lib.indexByte [48,49,50,51,52,53,54,55,56,57,97,98,99,100,101,102] (UInt8.ofNat i.val)=digitI (i.val:Int):=by decide +kernel
 have:=key ⟨x.toNat,x.toNat_lt⟩
 simpa using this
theorem IndexByte_hex (x:UInt8) (w:World) :
  Calls Tryz.prog 272 #[.string ⟨#[48,49,50,51,52,53,54,55,56,57,97,98,99,100,101,102]⟩,.int .u8 (x.toNat:Int)] w fun e w'=>e=.returned (.int .i64 (digitI x.toNat))∧w'=w:=by
 have h:=Tryz.strings_IndexByte ⟨#[48,49,50,51,52,53,54,55,56,57,97,98,99,100,101,102]⟩ (x.toNat:Int) w
 refine h.mono ?_
 rintro e w' ⟨rfl,rfl⟩
 have e:((x.toNat:Int).toNat).toUInt8=x:=by simp
 rw[e,← idx_hex]
 exact⟨rfl,rfl⟩
theorem or_nib (x y:Int) (h0:0≤x) (h1:x≤15) (h2:0≤y) (h3:y≤15):bits BinOp.or IntKind.i64 (x * 16) y % 256=16 * x+y:=by
 have key:∀ i j:Fin 16,bits BinOp.or IntKind.i64 ((i.val:Int) * 16) (j.val:Int) % 256=16 * (i.val:Int)+(j.val:Int):=by decide +kernel
 have:=key ⟨x.toNat,by omega⟩ ⟨y.toNat,by omega⟩
 simp only[Int.toNat_of_nonneg h0,Int.toNat_of_nonneg h2] at this
 exact this
theorem quotedByte_two (a b:UInt8) (t:List UInt8) (w:World) :
  Calls Tryz.prog 246 #[.string ⟨((92:UInt8)::a::b::t).toArray⟩] w fun e w'=>e=.returned (.tuple #[.int .u8 (pv a b),.int .i64 (pn a b)])∧∃ n,w'=w.drewN n:=by
 have hp:plainI 92=false:=by decide
 obtain⟨ha,ha'⟩:=digitI_ge a.toNat
 obtain⟨hb,hb'⟩:=digitI_ge b.toNat
 go_enter Tryz.func246,Tryz.ntmps246
 go_wp2_with fail
 refine (isPlain_any _ _).mono ?_
 rintro e w' ⟨rfl,rfl⟩
 go_wp2_with fail
 go_quiet ((go_at_call 272;exact Calls.quiet_of_same (IndexByte_hex _ _)))
 by_cases h1:digitI a.toNat<0
 ·go_wp2
  go_ret2
  exact⟨ret_two (pv_no (pairOk_lo h1)) (pn_no (pairOk_lo h1)),_,rfl⟩
 ·by_cases h2:digitI b.toNat<0
  ·go_wp2
   go_ret2
   exact⟨ret_two (pv_no (pairOk_hi h2)) (pn_no (pairOk_hi h2)),_,rfl⟩
  ·go_wp2_with fail
   rw[or_nib _ _ (by omega) ha' (by omega) hb']
   refine (isPlain_any _ _).mono ?_
   rintro e w' ⟨rfl,rfl⟩
   have hm:=pairOk_mid (a:=a) (b:=b) (by omega) (by omega)
   have HM:Hid (pairOk a b=!plainI (16 * digitI a.toNat+digitI b.toNat)):=hm
   clear hm
   cases hpl:plainI (16 * digitI a.toNat+digitI b.toNat)
   ·go_wp2
    go_ret2
    have hk:pairOk a b=true:=by rw[HM.out,hpl];rfl
    exact⟨ret_two (pv_yes hk) (pn_yes hk),_,rfl⟩
   ·go_wp2
    go_ret2
    have hk:pairOk a b=false:=by rw[HM.out,hpl];rfl
    exact⟨ret_two (pv_no hk) (pn_no hk),_,rfl⟩
theorem quotedByte_plain (c:UInt8) (t:List UInt8) (w:World) (h:plainI c.toNat=true) :
  Calls Tryz.prog 246 #[.string ⟨(c::t).toArray⟩] w fun e w'=>e=.returned (.tuple #[.int .u8 (c.toNat:Int),.int .i64 1])∧∃ n,w'=w.drewN n:=by
 go_enter Tryz.func246,Tryz.ntmps246
 go_wp2_with fail
 refine (isPlain_any _ _).mono ?_
 rintro e w' ⟨rfl,rfl⟩
 go_wp2
 go_ret2
 exact⟨rfl,0,rfl⟩
theorem quotedByte_none (c:UInt8) (t:List UInt8) (w:World) (h:plainI c.toNat=false) (h2:¬ (c.toNat=92∧2≤t.length)) :
  Calls Tryz.prog 246 #[.string ⟨(c::t).toArray⟩] w fun e w'=>e=.returned (.tuple #[.int .u8 0,.int .i64 0])∧∃ n,w'=w.drewN n:=by
 by_cases h3:c.toNat=92
 ·have hb:((c.toNat:Int) != 92)=false:=by simp;omega
  have hl:((t.length:Int)+1<3):=by omega
  clear h2
  go_enter Tryz.func246,Tryz.ntmps246
  go_wp2_with fail
  refine (isPlain_any _ _).mono ?_
  rintro e w' ⟨rfl,rfl⟩
  go_wp2
  go_ret2
  exact⟨rfl,0,rfl⟩
 ·have hb:((c.toNat:Int) != 92)=true:=by simp;omega
  clear h2
  go_enter Tryz.func246,Tryz.ntmps246
  go_wp2_with fail
  refine (isPlain_any _ _).mono ?_
  rintro e w' ⟨rfl,rfl⟩
  go_wp2
  go_ret2
  exact⟨rfl,0,rfl⟩
end

section
open Q Go.RowKit Go.Proofs.YtgiojkhmkeocfaaGreatDoor.Tx
attribute [local go_sem] ba_at ByteArray.extract_mk
def sizeS:Value→Nat
 | .string s=>s.data.size
 | _=>0
theorem ret_uq {l a b:List UInt8} {n:Int} (h:uqa l=a∧uqb l=b∧uqe l=n):Ending.returned (.tuple #[.string ⟨a.toArray⟩,.string ⟨b.toArray⟩,.int .i64 n])=.returned (.tuple #[.string ⟨(uqa l).toArray⟩,.string ⟨(uqb l).toArray⟩,.int .i64 (uqe l)]):=by
 rw[h.1,h.2.1,h.2.2]
theorem Unquote_body (l:List UInt8) (w:World) (hl:l.length≤1099511627776) :
  Calls Tryz.prog 202 #[.string ⟨((34:UInt8)::l).toArray⟩] w fun e w'=>e=.returned (.tuple #[.string ⟨(uqa (34::l)).toArray⟩,.string ⟨(uqb (34::l)).toArray⟩,.int .i64 (uqe (34::l))])∧Below w.heap.size w w':=by
 have HU:Hid (unquote (34::l)=body l):=by show unquote (34::l)=body l;simp[unquote]
 go_enter Tryz.func202,Tryz.ntmps202
 go_wp2
 go_loopw [6] (fun rest wr=>∃ (r acc:List UInt8) (v:Value),rest=.string ⟨r.toArray⟩∧Bld 77 5 w.heap.size w.heap.size v (Lib.byteCells acc) wr∧Below w.heap.size w wr∧body l=(body r).map (fun p=>(acc++p.1,p.2))∧acc.length+r.length≤l.length) (fun rest _=>sizeS rest)
 case atStart=>exact⟨l,[],_,rfl,Bld.fresh 77 5 w,(Below.refl _ w).alloc (Nat.le_refl _) _,by simp,by simp⟩
 case round =>
  obtain⟨r,acc,v,rfl,hB,hbr,hbody,hal⟩:=hrel
  have HB:Hid (body l=(body r).map (fun p=>(acc++p.1,p.2))):=hbody
  clear hbody
  match r,hal,HB with
  | [],hal,HB =>
   go_wp2
   go_ret3
   exact⟨ret_uq (uq_none (by rw[HU.out,HB.out];rfl)),hbr⟩
  | c::t,hal,HB =>
   have hc:=c.toNat_lt
   by_cases h34:c.toNat=34
   ·have hb:((c.toNat:Int) != 34)=false:=by simp;omega
    have HE:Hid (unquote (34::l)=some (acc,t)):=by
     show unquote (34::l)=some (acc,t)
     rw[HU.out,HB.out,body_end t h34];simp
    clear h34
    have hI:Lib.IsBuilderF 77 5 w.heap.size w.heap.size (Lib.byteCells acc) wr.drew:=hB.isF
    have hsz:w.heap.size≤wr.drew.heap.size:=hbr.size
    go_wp2_with fail
    go_region_with (go_at_call 41;refine (Tryz.Builder_String_any_k w.heap.size w.heap.size acc _ hI hsz).mono ?_;rintro e w4 ⟨rfl,_,hb4,_⟩)
    all_goals
     go_wp2
     go_ret3
     exact⟨ret_uq (uq_some HE.out),hbr.drew.trans hb4⟩
   ·have hb:((c.toNat:Int) != 34)=true:=by simp;omega
    cases hpl:plainI c.toNat
    ·by_cases h92:c.toNat=92∧2≤t.length
     ·match t,hal,HB,h92 with
      | a::b::t,hal,HB,⟨h92,_⟩ =>
       obtain rfl:c=92:=UInt8.toNat_inj.1 h92
       cases hk:pairOk a b
       ·have HE:Hid (unquote (34::l)=none):=by
         show unquote (34::l)=none
         rw[HU.out,HB.out,body_pair_no t h92 hk];rfl
        have h1:pv a b=0:=(pv_no hk).symm
        have h2:pn a b=0:=(pn_no hk).symm
        go_wp2_with fail
        refine (quotedByte_two a b t _).mono ?_
        rintro e w4 ⟨rfl,nq,rfl⟩
        go_wp2
        go_ret3
        exact⟨ret_uq (uq_none HE.out),below_drewN hbr nq⟩
       ·have HE:Hid (body l=(body t).map (fun p=>(acc++[UInt8.ofNat (pairI a b).toNat]++p.1,p.2))):=by
         show body l=_
         rw[HB.out,body_pair t h92 hk];simp[Function.comp_def]
        have h2:pn a b=3:=(pn_yes hk).symm
        have hpb:=pairI_byte hk
        have HV:Hid (pv a b=((UInt8.ofNat (pairI a b).toNat).toNat:Int)):=by
         show pv a b=_
         rw[← pv_yes hk]
         simp only[UInt8.toNat_ofNat']
         omega
        clear hpb
        go_wp2_with fail
        refine (quotedByte_two a b t _).mono ?_
        rintro e w4 ⟨rfl,nq,rfl⟩
        go_wp2_with fail
        rw[HV.out]
        refine (WriteByte_any w.heap.size w.heap.size v _ _ _ (Bld.drewN hB nq) (by rw[Lib.byteCells_length];omega) hbr.size).mono ?_
        rintro e w5 ⟨rfl,v5,hB5,_,_,hb5⟩
        go_wp2
        go_roundw
        case rel=>exact⟨t,acc++[UInt8.ofNat (pairI a b).toNat],v5,rfl,by rw[byteCells_snoc];exact hB5,(below_drewN hbr nq).trans hb5,HE.out,by simp at hal ⊢;omega⟩
        case measure=>first | (simp[sizeS];done) | (simp[sizeS];omega)
     ·have HE:Hid (unquote (34::l)=none):=by
       show unquote (34::l)=none
       rw[HU.out,HB.out,body_none t h34 hpl h92];rfl
      go_wp2_with fail
      refine (quotedByte_none c t _ hpl h92).mono ?_
      rintro e w4 ⟨rfl,nq,rfl⟩
      go_wp2
      go_ret3
      exact⟨ret_uq (uq_none HE.out),below_drewN hbr nq⟩
    ·have HE:Hid (body l=(body t).map (fun p=>(acc++[c]++p.1,p.2))):=by
      show body l=_
      rw[HB.out,body_plain t hpl];simp[Function.comp_def]
     go_wp2_with fail
     refine (quotedByte_plain c t _ hpl).mono ?_
     rintro e w4 ⟨rfl,nq,rfl⟩
     go_wp2_with fail
     refine (WriteByte_any w.heap.size w.heap.size v _ _ _ (Bld.drewN hB nq) (by rw[Lib.byteCells_length];simp at hal;omega) hbr.size).mono ?_
     rintro e w5 ⟨rfl,v5,hB5,_,_,hb5⟩
     go_wp2
     go_roundw
     case rel=>exact⟨t,acc++[c],v5,rfl,by rw[byteCells_snoc];exact hB5,(below_drewN hbr nq).trans hb5,HE.out,by simp at hal ⊢;omega⟩
     case measure=>first | (simp[sizeS];done) | (simp[sizeS];omega)
theorem Unquote_any (l:List UInt8) (w:World) (hl:l.length≤1099511627776) :
  Calls Tryz.prog 202 #[.string ⟨l.toArray⟩] w fun e w'=>e=.returned (.tuple #[.string ⟨(uqa l).toArray⟩,.string ⟨(uqb l).toArray⟩,.int .i64 (uqe l)])∧Below w.heap.size w w':=by
 match l,hl with
 | [],_ =>
  go_enter Tryz.func202,Tryz.ntmps202
  go_wp2
  go_ret3
  exact⟨ret_uq (uq_none rfl),Below.refl _ _⟩
 | c::t,hl =>
  by_cases h:c.toNat=34
  ·obtain rfl:c=34:=UInt8.toNat_inj.1 h
   exact Unquote_body t w (by simp at hl;omega)
  ·have hb:((c.toNat:Int) != 34)=true:=by simp;omega
   have HU:Hid (unquote (c::t)=none):=by show unquote (c::t)=none;simp[unquote,h]
   clear h
   go_enter Tryz.func202,Tryz.ntmps202
   go_wp2
   go_ret3
   exact⟨ret_uq (uq_none HU.out),Below.refl _ _⟩
end

section
open Go.RowKit
attribute [local go_sem] ByteArray.extract_mk no_at
def ckO (vL:Value) (p:Int):Obj:=.cells #[vL,.int .i64 p] 105
def Ck (u:World) (R:Nat) (vL:Value) (p:Int):Prop:=u.heap[R]?=some (ckO vL p)
section
variable {u u':World} {R:Nat} {vL:Value} {p:Int}
theorem Ck.cells (q:Ck u R vL p):u.cell? ⟨R,0,none⟩=some vL∧u.cell? ⟨R,1,none⟩=some (.int .i64 p):=by
 unfold Ck ckO at q
 refine⟨?_,?_⟩<;>rw[Lib.cell_of_heap q]<;>rfl
theorem Ck.frozen (q:Ck u R vL p) (j:Nat):u.frozen? ⟨R,j,none⟩=false:=Lib.frozen_of_heap q j
theorem Ck.lt (q:Ck u R vL p):R<u.heap.size:=(Array.getElem?_eq_some_iff.1 q).1
theorem Ck.dN (q:Ck u R vL p) (n:Nat):Ck (u.drewN n) R vL p:=q
theorem Ck.at (q:Ck u R vL p) (p':Int):Ck (u.setCell ⟨R,1,none⟩ (.int .i64 p')) R vL p':=heap_setCell_same u R 1 _ _ (.int .i64 p') q
theorem Ck.low (q:Ck u R vL p) (hg:Below u.heap.size u u'):Ck u' R vL p:=(hg.block R q.lt).trans q
theorem Ck.keep (q:Ck u R vL p) {g:Option Nat} (hg:u.grownBy u' g) (hr:some R≠g):Ck u' R vL p:=(hg.block R q.lt hr).trans q
end
theorem cthrow_f (a z:Int) (w:World) :
  Calls Tryz.prog 148 #[.int .i64 a,.int .i64 z] w fun x w'=>Thr a z x w'∧Below w.heap.size w w':=by
 have HQ:Hid ((w.alloc (fltO a z)).heap[w.heap.size]?=some (fltO a z)∧Below w.heap.size w (w.alloc (fltO a z))):=⟨heap_alloc_new w _,(Below.refl _ w).alloc (Nat.le_refl _) _⟩
 go_enter Tryz.func148,Tryz.ntmps148
 go_wp2
 exact⟨rfl,⟨_,rfl,HQ.out.1⟩,HQ.out.2⟩
theorem crefuse_f {R:Nat} {vL:Value} {p:Nat} (z:Int) (w:World) (q:Ck w R vL (p:Int)) (hp:p≤4398046511104) :
  Calls Tryz.prog 94 #[.pointer (some ⟨R,0,none⟩),.int .i64 z] w fun x w'=>Thr ((p:Int)+1) z x w'∧w.grownBy w' (some R):=by
 obtain⟨c0,c1⟩:=q.cells
 clear q
 go_enter Tryz.func94,Tryz.ntmps94
 go_wp2_with fail
 refine (cthrow_f ((p:Int)+1) z w).mono ?_
 rintro x w1 ⟨⟨g,rfl,hg⟩,hb⟩
 go_wp2
 exact⟨rfl,⟨_,rfl,hg⟩,low_grown hb _⟩
theorem crline_f {R:Nat} {L:List (List UInt8)} {lo:Option Addr} {lc:Nat} {p:Nat} (w:World) (q:Ck w R (.slice lo L.length lc) p) (hL:HS w (.slice lo L.length lc) L) (hp:p≤L.length) (hLl:L.length≤2199023255552) (hs:∀ s∈L,s.length≤1099511627776)
  (X:Except (Nat × Int) (List UInt8 × List (List UInt8))) (HX:Hid (nxt p (L.drop p)=X)) :
  Calls Tryz.prog 203 #[.pointer (some ⟨R,0,none⟩)] w fun x w'=>LnQ R (.slice lo L.length lc) p X w x w':=by
 have hX:=HX.out
 clear HX
 by_cases hlt:p<L.length
 ·rw[nxt_drop hlt] at hX
  obtain⟨bk,off,rfl,hbk,hcl⟩:=HS.at hL (by omega)
  have d4:=hcl p hlt
  have hsl:=hs L[p] (List.getElem_mem _)
  generalize L[p]=s at d4 hsl hX
  clear hcl hs hL
  obtain⟨c0,c1⟩:=q.cells
  have e0:((p:Int) == (L.length:Int))=false:=beq_eq_false_iff_ne.2 (by omega)
  have i1:(0:Int)≤(p:Int):=by omega
  have i2:(p:Int)<(L.length:Int):=by omega
  have i3:(p:Int).toNat=p:=by omega
  cases hf:fdB s with
  | true =>
   rw[if_pos hf] at hX
   subst hX
   have HD:Hid (s.dropLast++[10]=s):=drop_feed hf
   clear q
   go_enter Tryz.func203,Tryz.ntmps203
   go_wp2_with fail
   go_quiet (fail)
   go_wp2_with fail
   have c0':(w.drewN nq).cell? ⟨R,0,none⟩=_:=c0
   have c1':(w.drewN nq).cell? ⟨R,1,none⟩=_:=c1
   have d4':(w.drewN nq).cell? ⟨bk,off+p,none⟩=_:=d4
   have HM:Hid (∀ n,∃ k,(w.drewN nq).drewN n=w.drewN k):=fun n=>⟨_,World.drewN_drewN w nq n⟩
   clear c0 c1 d4
   generalize w.drewN nq=W1 at c0' c1' d4' HM ⊢
   have j1:(0:Int)≤(p:Int):=by omega
   have j2:(p:Int)<(L.length:Int):=by omega
   have j3:(p:Int).toNat=p:=by omega
   go_quiet (fail)
   go_wp2_with fail
   refine (Tryz.strings_HasSuffix ⟨s.toArray⟩ ⟨#[10]⟩ _ (by show s.length≤_;omega)).mono ?_
   rintro e w2 ⟨rfl,rfl⟩
   have e1:Lib.hasSuffix (⟨s.toArray⟩:ByteArray).data.toList (⟨#[10]⟩:ByteArray).data.toList=true:=(suf_feed s).trans hf
   rw[e1]
   clear e1 hf
   go_wp2
   go_ret
   refine⟨?_,HM.out _⟩
   rw[HD.out]
   rfl
  | false =>
   rw[if_neg (by rw[hf];decide)] at hX
   subst hX
   have q0:=q
   clear q
   go_enter Tryz.func203,Tryz.ntmps203
   go_wp2_with fail
   go_quiet (fail)
   go_wp2_with fail
   have c0':(w.drewN nq).cell? ⟨R,0,none⟩=_:=c0
   have c1':(w.drewN nq).cell? ⟨R,1,none⟩=_:=c1
   have d4':(w.drewN nq).cell? ⟨bk,off+p,none⟩=_:=d4
   have HM:Hid (∀ n,w.grownBy ((w.drewN nq).drewN n) (some R)):=fun n=>grown_drewN (grown_drewN (low_grown (Below.refl _ _) _) nq) n
   have HQ:Hid (∀ n,Ck ((w.drewN nq).drewN n) R (.slice (some ⟨bk,off,none⟩) L.length lc) p):=fun n=>(q0.dN nq).dN n
   clear c0 c1 d4 q0
   generalize w.drewN nq=W1 at c0' c1' d4' HM HQ ⊢
   have j1:(0:Int)≤(p:Int):=by omega
   have j2:(p:Int)<(L.length:Int):=by omega
   have j3:(p:Int).toNat=p:=by omega
   go_quiet (fail)
   go_wp2_with fail
   refine (Tryz.strings_HasSuffix ⟨s.toArray⟩ ⟨#[10]⟩ _ (by show s.length≤_;omega)).mono ?_
   rintro e w2 ⟨rfl,rfl⟩
   have e1:Lib.hasSuffix (⟨s.toArray⟩:ByteArray).data.toList (⟨#[10]⟩:ByteArray).data.toList=false:=(suf_feed s).trans hf
   rw[e1]
   clear e1 hf
   go_wp2_with fail
   refine (crefuse_f 3 _ (HQ.out _) (by omega)).mono ?_
   rintro e w3 ⟨⟨g,rfl,hg⟩,hgr⟩
   go_wp2
   exact⟨rfl,⟨_,rfl,hg⟩,grown_two (HM.out _) hgr⟩
 ·rw[nxt_end (by omega)] at hX
  subst hX
  obtain⟨c0,c1⟩:=q.cells
  have e0:((p:Int) == (L.length:Int))=true:=beq_iff_eq.2 (by omega)
  have HM:Hid (∀ n,w.grownBy (w.drewN n) (some R)):=fun n=>grown_drewN (low_grown (Below.refl _ _) _) n
  have HQ:Hid (∀ n,Ck (w.drewN n) R (.slice lo L.length lc) p):=fun n=>q.dN n
  clear q hs hL
  go_enter Tryz.func203,Tryz.ntmps203
  go_wp2_with fail
  go_quiet (fail)
  go_wp2_with fail
  refine (crefuse_f 1 _ (HQ.out _) (by omega)).mono ?_
  rintro e w3 ⟨⟨g,rfl,hg⟩,hgr⟩
  go_wp2
  exact⟨rfl,⟨_,rfl,hg⟩,grown_two (HM.out _) hgr⟩
theorem crend_no {R g o:Nat} {L:List (List UInt8)} {lo:Option Addr} {lc:Nat} {p:Nat} (w:World) (q:Ck w R (.slice lo L.length lc) p) (hL:HS w (.slice lo L.length lc) L) (hPl:Plain L) (hp:p≤L.length) (hLl:L.length≤2199023255552)
  (t:List UInt8) (ct:w.cell? ⟨g,o+1,none⟩=some (.string ⟨t.toArray⟩)) (HB:Hid ((t != [10] && pkM (L.drop p))=false)) :
  Calls Tryz.prog 208 #[.pointer (some ⟨R,0,none⟩),.pointer (some ⟨g,o,none⟩)] w fun x w'=>x=.returned (.tuple #[])∧∃ n,w'=w.drewN n:=by
 obtain⟨c0,c1⟩:=q.cells
 by_cases ht:t=[10]
 ·subst ht
  clear HB hL q
  go_enter Tryz.func208,Tryz.ntmps208
  go_wp2_with fail
  go_quiet (fail)
  go_wp2
  first
   | go_end0
   | refine bodyPost_ret (results_none rfl _ _ _) rfl ?_
   | refine bodyPost_end (results_none rfl _ _ _) rfl ?_
  exact⟨rfl,_,rfl⟩
 ·have e1:(t == [10])=false:=beq_eq_false_iff_ne.2 ht
  by_cases hlt:p<L.length
  ·have hm:(L[p] == markT)=false:=(by
    have h:=HB.out
    rw[pkM_at hPl hlt] at h
    have:(t != [10])=true:=bne_iff_ne.2 ht
    rw[this,Bool.true_and] at h
    exact h)
   obtain⟨bk,off,rfl,hbk,hcl⟩:=HS.at hL (by omega)
   have d4:=hcl p hlt
   generalize L[p]=s at d4 hm
   have hm2:(s == [92,32,78,111,32,110,101,119,108,105,110,101,32,97,116,32,101,110,100,32,111,102,32,102,105,108,101,10])=false:=hm
   have hm3:(s != [92,32,78,111,32,110,101,119,108,105,110,101,32,97,116,32,101,110,100,32,111,102,32,102,105,108,101,10])=true:=(by unfold bne;rw[hm2];rfl)
   have e0:((p:Int) == (L.length:Int))=false:=beq_eq_false_iff_ne.2 (by omega)
   clear HB hL q hcl hm hPl
   have i1:(0:Int)≤(p:Int):=by omega
   have i2:(p:Int)<(L.length:Int):=by omega
   have i3:(p:Int).toNat=p:=by omega
   go_enter Tryz.func208,Tryz.ntmps208
   go_wp2_with fail
   go_quiet (fail)
   go_wp2
   first
    | go_end0
    | refine bodyPost_ret (results_none rfl _ _ _) rfl ?_
    | refine bodyPost_end (results_none rfl _ _ _) rfl ?_
   exact⟨rfl,_,rfl⟩
  ·have e0:((p:Int) == (L.length:Int))=true:=beq_iff_eq.2 (by omega)
   clear HB hL q hPl
   go_enter Tryz.func208,Tryz.ntmps208
   go_wp2_with fail
   go_quiet (fail)
   go_wp2
   first
    | go_end0
    | refine bodyPost_ret (results_none rfl _ _ _) rfl ?_
    | refine bodyPost_end (results_none rfl _ _ _) rfl ?_
   exact⟨rfl,_,rfl⟩
theorem crend_yes {R g o:Nat} {L:List (List UInt8)} {lo:Option Addr} {lc:Nat} {p:Nat} (w:World) (q:Ck w R (.slice lo L.length lc) p) (hL:HS w (.slice lo L.length lc) L) (hPl:Plain L) (hLl:L.length≤2199023255552) (hgR:R≠g)
  (T t:List UInt8) (HTt:Hid (T=t++[10])) (htl:T.length≤1099511627776) (ct:w.cell? ⟨g,o+1,none⟩=some (.string ⟨T.toArray⟩)) (cf:w.frozen? ⟨g,o+1,none⟩=false) (HB:Hid ((T != [10] && pkM (L.drop p))=true)) :
  Calls Tryz.prog 208 #[.pointer (some ⟨R,0,none⟩),.pointer (some ⟨g,o,none⟩)] w fun x w'=>x=.returned (.tuple #[])∧∃ n,w'=((w.drewN n).setCell ⟨g,o+1,none⟩ (.string ⟨t.toArray⟩)).setCell ⟨R,1,none⟩ (.int .i64 ((p:Int)+1)):=by
 obtain⟨c0,c1⟩:=q.cells
 have hb:=HB.out
 rw[Bool.and_eq_true] at hb
 have hlt:p<L.length:=(by
  by_cases h:p<L.length
  ·exact h
  ·have e:L.drop p=[]:=List.drop_eq_nil_of_le (by omega)
   rw[e] at hb
   cases hb.2)
 have e1:(T == [10])=false:=(by
  have:=bne_iff_ne.1 hb.1
  exact beq_eq_false_iff_ne.2 this)
 have hm:L[p]=markT:=(by
  have h:=hb.2
  rw[pkM_at hPl hlt,beq_iff_eq] at h
  exact h)
 obtain⟨bk,off,rfl,hbk,hcl⟩:=HS.at hL (by omega)
 have d4:=hcl p hlt
 rw[hm] at d4
 have e0:((p:Int) == (L.length:Int))=false:=beq_eq_false_iff_ne.2 (by omega)
 have f1:=q.frozen 1
 have HTS:Hid (Lib.trimSuffix T [10]=t):=(by
  show _=_
  rw[HTt.out]
  unfold Lib.trimSuffix
  rw[suf_feed,if_pos (fd_snoc t)]
  simp)
 unfold markT at d4
 clear HB hL q hcl hm hPl hb
 have i1:(0:Int)≤(p:Int):=by omega
 have i2:(p:Int)<(L.length:Int):=by omega
 have i3:(p:Int).toNat=p:=by omega
 go_enter Tryz.func208,Tryz.ntmps208
 go_wp2_with fail
 go_quiet (fail)
 go_wp2_with fail
 have c1':(w.drewN nq).cell? ⟨R,1,none⟩=_:=c1
 have ct':(w.drewN nq).cell? ⟨g,o+1,none⟩=_:=ct
 have cf':(w.drewN nq).frozen? ⟨g,o+1,none⟩=false:=cf
 have f1':(w.drewN nq).frozen? ⟨R,1,none⟩=false:=f1
 have HM:Hid (∃ k,w.drewN nq=w.drewN k):=⟨_,rfl⟩
 clear c0 c1 d4 ct cf f1
 generalize w.drewN nq=W1 at c1' ct' cf' f1' HM ⊢
 refine (Tryz.strings_TrimSuffix ⟨T.toArray⟩ ⟨#[10]⟩ W1 (by show T.length≤_;omega)).mono ?_
 rintro e w2 ⟨rfl,rfl⟩
 have e2:Lib.trimSuffix (⟨T.toArray⟩:ByteArray).data.toList (⟨#[10]⟩:ByteArray).data.toList=t:=HTS.out
 rw[e2]
 clear e2
 have c1'':(w2.setCell ⟨g,o+1,none⟩ (.string ⟨t.toArray⟩)).cell? ⟨R,1,none⟩=some (.int .i64 (p:Int)):=(by
  have h:=(grown_set w2 g (o+1) (.string ⟨t.toArray⟩)).cell c1' (fun e=>hgR (Option.some.inj e))
  exact h)
 have f1'':(w2.setCell ⟨g,o+1,none⟩ (.string ⟨t.toArray⟩)).frozen? ⟨R,1,none⟩=false:=(by
  unfold World.frozen? at f1' ⊢
  dsimp only at f1' ⊢
  rw[Below.heap_setCell _ _ _ R hgR]
  exact f1')
 go_wp2
 first
  | go_end0
  | refine bodyPost_ret (results_none rfl _ _ _) rfl ?_
  | refine bodyPost_end (results_none rfl _ _ _) rfl ?_
 obtain⟨k,hk⟩:=HM.out
 exact⟨rfl,k,by rw[← hk]⟩
def barP (hd:List UInt8) (p:Nat) (ls:List (List UInt8)):Except (Nat × Int) (List UInt8 × List (List UInt8)) :=
 match nxt p ls with
 | .error e=>.error e
 | .ok (s,r)=>if hd.isPrefixOf s=true then .ok (s.drop hd.length,r) else .error (p+1,3)
def BrQ (R:Nat) (X:Except (Nat × Int) (List UInt8 × List (List UInt8))) (w:World) (x:Ending) (w':World):Prop :=
 match X with
 | .error (a,e)=>Thr (a:Int) e x w'∧w.grownBy w' (some R)
 | .ok (s,_)=>x=.returned (.string ⟨s.toArray⟩)∧∃ n,w'=w.drewN n
theorem trim_snoc (s:List UInt8):Lib.trimSuffix (s++[10]) [10]=s:=by
 unfold Lib.trimSuffix
 rw[suf_feed,if_pos (fd_snoc s)]
 simp
theorem cbare_f {R:Nat} {L:List (List UInt8)} {lo:Option Addr} {lc:Nat} {p:Nat} (hd:List UInt8) (w:World) (q:Ck w R (.slice lo L.length lc) p) (hL:HS w (.slice lo L.length lc) L) (hp:p≤L.length) (hLl:L.length≤2199023255552) (hs:∀ s∈L,s.length≤1099511627776)
  (X:Except (Nat × Int) (List UInt8 × List (List UInt8))) (HX:Hid (barP hd p (L.drop p)=X)) :
  Calls Tryz.prog 147 #[.pointer (some ⟨R,0,none⟩),.string ⟨hd.toArray⟩] w fun x w'=>BrQ R X w x w':=by
 obtain⟨Y,hY⟩:∃ Y,nxt p (L.drop p)=Y:=⟨_,rfl⟩
 have hl:=crline_f w q hL hp hLl hs Y hY
 have hX:=HX.out
 unfold barP at hX
 rw[hY] at hX
 clear HX
 cases Y with
 | error z =>
  obtain⟨a,e⟩:=z
  dsimp only at hX
  subst hX
  go_enter Tryz.func147,Tryz.ntmps147
  go_wp2_with fail
  refine hl.mono ?_
  rintro x w1 ⟨⟨g,rfl,hg⟩,hgr⟩
  go_wp2
  exact⟨rfl,⟨_,rfl,hg⟩,hgr⟩
 | ok z =>
  obtain⟨s,r⟩:=z
  obtain⟨hr,hpl,_,hLp⟩:=nxt_rest hY
  have hsl:=hs L[p] (List.getElem_mem hpl)
  rw[hLp,List.length_append] at hsl
  dsimp only at hX
  obtain⟨T,hT⟩:∃ T,s++[10]=T:=⟨_,rfl⟩
  have hl2:Calls Tryz.prog 203 #[.pointer (some ⟨R,0,none⟩)] w fun x w'=>x=.returned (.string ⟨T.toArray⟩)∧∃ n,w'=w.drewN n:=(by
   refine hl.mono ?_
   rintro x w' ⟨h1,h2⟩
   rw[hT] at h1
   exact⟨h1,h2⟩)
  have hTl:T.length≤2199023255552:=(by rw[← hT,List.length_append];simp at hsl ⊢;omega)
  have htr:∀ u,Calls Tryz.prog 137 #[.string ⟨T.toArray⟩,.string ⟨#[10]⟩] u fun e w'=>e=.returned (.string ⟨s.toArray⟩)∧w'=u:=(by
   intro u
   refine (Tryz.strings_TrimSuffix ⟨T.toArray⟩ ⟨#[10]⟩ u (by show T.length≤_;omega)).mono ?_
   rintro e w' ⟨rfl,rfl⟩
   have e2:Lib.trimSuffix (⟨T.toArray⟩:ByteArray).data.toList (⟨#[10]⟩:ByteArray).data.toList=s:=(by
    show Lib.trimSuffix T [10]=s
    rw[← hT]
    exact trim_snoc s)
   rw[e2]
   exact⟨rfl,rfl⟩)
  have hcp:=fun u=>Tryz.strings_CutPrefix ⟨s.toArray⟩ ⟨hd.toArray⟩ u
  have hpf:Lib.hasPrefix (⟨s.toArray⟩:ByteArray).data.toList (⟨hd.toArray⟩:ByteArray).data.toList=hd.isPrefixOf s:=rfl
  rw[hpf] at hcp
  by_cases hpre:hd.isPrefixOf s=true
  ·rw[if_pos hpre] at hX
   subst hX
   have htp:Lib.trimPrefix (⟨s.toArray⟩:ByteArray).data.toList (⟨hd.toArray⟩:ByteArray).data.toList=s.drop hd.length:=(by
    show Lib.trimPrefix s hd=_
    unfold Lib.trimPrefix Lib.hasPrefix
    rw[if_pos hpre])
   rw[htp,hpre] at hcp
   obtain⟨D,hD⟩:∃ D,s.drop hd.length=D:=⟨_,rfl⟩
   rw[hD] at hcp
   have HD:Hid (s.drop hd.length=D):=hD
   clear hpf htp hpre hl hY hLp hsl hr hT hD
   go_enter Tryz.func147,Tryz.ntmps147
   go_wp2_with fail
   refine hl2.mono ?_
   rintro x w1 ⟨rfl,nn,rfl⟩
   go_wp2_with fail
   refine (htr _).mono ?_
   rintro x w2 ⟨rfl,rfl⟩
   go_wp2_with fail
   refine (hcp _).mono ?_
   rintro x w3 ⟨rfl,rfl⟩
   go_wp2
   go_ret
   exact⟨by rw[HD.out];rfl,nn,rfl⟩
  ·rw[if_neg hpre] at hX
   subst hX
   rw[Bool.eq_false_iff.2 hpre] at hcp
   generalize Lib.trimPrefix (⟨s.toArray⟩:ByteArray).data.toList (⟨hd.toArray⟩:ByteArray).data.toList=U2 at hcp
   have q2:=fun nn=>q.dN nn
   clear hpf hpre hl hY hLp hsl hr hT
   go_enter Tryz.func147,Tryz.ntmps147
   go_wp2_with fail
   refine hl2.mono ?_
   rintro x w1 ⟨rfl,nn,rfl⟩
   go_wp2_with fail
   refine (htr _).mono ?_
   rintro x w2 ⟨rfl,rfl⟩
   go_wp2_with fail
   refine (hcp _).mono ?_
   rintro x w3 ⟨rfl,rfl⟩
   go_wp2_with fail
   refine (crefuse_f 3 _ (q2 nn) (by omega)).mono ?_
   rintro e w3 ⟨⟨g,rfl,hg⟩,hgr⟩
   go_wp2
   exact⟨rfl,⟨_,rfl,by simpa using hg⟩,grown_two (grown_drewN (low_grown (Below.refl w.heap.size w) (some R)) nn) hgr⟩
end

section
open Go.RowKit Go.Proofs.YtgiojkhmkeocfaaGreatDoor.Tx
attribute [local go_sem] ByteArray.extract_mk no_at
theorem body_len (n:Nat):∀ (t a b:List UInt8),t.length≤n→Q.body t=some (a,b)→a.length≤t.length:=by
 induction n with
 | zero =>
  intro t a b h hb
  have:t=[]:=List.eq_nil_of_length_eq_zero (by omega)
  subst this
  cases hb
 | succ n ih =>
  intro t a b h hb
  cases t with
  | nil=>cases hb
  | cons c t =>
   simp only[List.length_cons] at h ⊢
   rw[Q.body.eq_def] at hb
   simp only at hb
   split at hb
   ·cases hb;simp
   ·split at hb
    ·obtain⟨p,hp,he⟩:=Option.map_eq_some_iff.1 hb
     cases he
     have:=ih t p.1 p.2 (by omega) hp
     simp only[List.length_cons]
     omega
    ·split at hb
     ·split at hb
      ·rename_i x y t'
       simp only[List.length_cons] at h ⊢
       split at hb
       ·obtain⟨p,hp,he⟩:=Option.map_eq_some_iff.1 hb
        cases he
        have:=ih t' p.1 p.2 (by omega) hp
        simp only[List.length_cons]
        omega
       ·cases hb
      ·cases hb
     ·cases hb
theorem uqa_len (s:List UInt8):(Q.uqa s).length≤s.length:=by
 cases hu:Q.unquote s with
 | none=>rw[(Q.uq_none hu).1];simp
 | some p =>
  obtain⟨a,b⟩:=p
  rw[(Q.uq_some hu).1]
  cases s with
  | nil=>cases hu
  | cons c t =>
   simp only[Q.unquote] at hu
   split at hu
   ·have:=body_len t.length t a b (Nat.le_refl _) hu
    simp only[List.length_cons]
    omega
   ·cases hu
theorem head_pre (s:List UInt8):Lib.hasPrefix s [34]=(s.head? == some 34):=by
 cases s with
 | nil=>rfl
 | cons c t =>
  show ((34 == c) && true)=(some c == some 34)
  rw[Bool.and_true,Bool.eq_iff_iff,beq_iff_eq,beq_iff_eq,Option.some.injEq]
  exact⟨fun h=>h.symm,fun h=>h.symm⟩
def pnV (r:Bool) (n:List UInt8):Value:=if r=true then .tuple #[.string ⟨n.toArray⟩,.int .i64 0] else .tuple #[.string ⟨#[]⟩,.int .i64 253]
theorem cnamed_f (s:List UInt8) (w:World) (hl:s.length≤1099511627776) (n:List UInt8) (r:Bool) (HN:Hid (unC s=n)) (HR:Hid (nokC s=r)) :
  Calls Tryz.prog 146 #[.string ⟨s.toArray⟩] w fun e w'=>e=.returned (pnV r n)∧Below w.heap.size w w':=by
 have hnl:n.length≤1099511627776:=(by
  rw[← HN.out]
  unfold unC
  split
  ·simp
  ·split
   ·have:=uqa_len s
    omega
   ·exact hl)
 obtain⟨T,hT⟩:∃ T,nameT n=T:=⟨_,rfl⟩
 have hnm:=fun u=>cname_f n u hnl T hT
 have HF:Hid ((decide (n.length≤64) && (T == s))=r):=(by
  have h:=HR.out
  unfold nokC at h
  rw[HN.out,hT] at h
  exact h)
 have hhp:∀ (b:Bool),(s.head? == some 34)=b→∀ u,Calls Tryz.prog 149 #[.string ⟨s.toArray⟩,.string ⟨#[34]⟩] u fun e w'=>e=.returned (.bool b)∧w'=u:=(by
  intro b hb u
  refine (Tryz.strings_HasPrefix ⟨s.toArray⟩ ⟨#[34]⟩ u).mono ?_
  rintro e w' ⟨rfl,rfl⟩
  have e1:Lib.hasPrefix (⟨s.toArray⟩:ByteArray).data.toList (⟨#[34]⟩:ByteArray).data.toList=b:=(head_pre s).trans hb
  rw[e1]
  exact⟨rfl,rfl⟩)
 have huq:=fun u=>Unquote_any s u hl
 clear hT HR
 go_enter Tryz.func146,Tryz.ntmps146
 go_upto_block 0 with fail
 go_cut [4] (fun nv wz=>nv=.string ⟨n.toArray⟩∧Below w.heap.size w wz)
 case first =>
  by_cases h1:s=devN
  ·have e1:(s == [47,100,101,118,47,110,117,108,108])=true:=(by rw[beq_iff_eq];exact h1)
   have HE:Hid ([]=n):=(by have h:=HN.out;unfold unC at h;rw[if_pos h1] at h;exact h)
   clear h1
   go_wp2
   go_meet
   case rel=>exact⟨by rw[← HE.out],Below.refl _ _⟩
  ·have e1:(s == [47,100,101,118,47,110,117,108,108])=false:=beq_eq_false_iff_ne.2 h1
   by_cases h2:s.head?=some 34
   ·have HE:Hid (Q.uqa s=n):=(by have h:=HN.out;unfold unC at h;rw[if_neg h1,if_pos h2] at h;exact h)
    have hc:=hhp true (beq_iff_eq.2 h2)
    clear h1 h2
    go_wp2_with fail
    refine (hc _).mono ?_
    rintro e w1 ⟨rfl,rfl⟩
    go_wp2_with fail
    refine (huq _).mono ?_
    rintro e w2 ⟨rfl,hB2⟩
    go_wp2
    go_meet
    case rel=>exact⟨by rw[← HE.out],hB2⟩
   ·have HE:Hid (s=n):=(by have h:=HN.out;unfold unC at h;rw[if_neg h1,if_neg h2] at h;exact h)
    have hc:=hhp false (beq_eq_false_iff_ne.2 h2)
    clear h1 h2
    go_wp2_with fail
    refine (hc _).mono ?_
    rintro e w1 ⟨rfl,rfl⟩
    go_wp2
    go_meet
    case rel=>exact⟨by rw[← HE.out],Below.refl _ _⟩
 case rest =>
 obtain⟨rfl,hBc⟩:=hcut
 by_cases h3:n.length≤64
 ·have i1:¬ (64:Int)<(n.length:Int):=by omega
  cases h4:T == s with
  | true =>
   have HE:Hid (true=r):=(by have h:=HF.out;rw[decide_eq_true h3,Bool.true_and,h4] at h;exact h)
   have h5:(T != s)=false:=(by unfold bne;rw[h4];rfl)
   clear HF
   go_wp2_with fail
   refine (hnm _).mono ?_
   rintro e w2 ⟨rfl,hB2⟩
   go_wp2
   go_ret2
   exact⟨by rw[← HE.out];rfl,hBc.trans (hB2.mono hBc.size)⟩
  | false =>
   have HE:Hid (false=r):=(by have h:=HF.out;rw[decide_eq_true h3,Bool.true_and,h4] at h;exact h)
   have h5:(T != s)=true:=(by unfold bne;rw[h4];rfl)
   clear HF
   go_wp2_with fail
   refine (hnm _).mono ?_
   rintro e w2 ⟨rfl,hB2⟩
   go_wp2
   go_ret2
   exact⟨by rw[← HE.out];rfl,hBc.trans (hB2.mono hBc.size)⟩
 ·have HE:Hid (false=r):=(by have h:=HF.out;rw[decide_eq_false h3,Bool.false_and] at h;exact h)
  have i1:(64:Int)<(n.length:Int):=by omega
  clear HF
  go_wp2
  go_ret2
  exact⟨by rw[← HE.out];rfl,hBc⟩
def NmX (R:Nat) (X:Except (Nat × Int) (List UInt8 × List (List UInt8))) (w:World) (x:Ending) (w':World):Prop :=
 match X with
 | .error (a,e)=>Thr (a:Int) e x w'∧w.grownBy w' (some R)
 | .ok (s,_)=>x=.returned (.string ⟨s.toArray⟩)∧Below w.heap.size w w'
theorem nam_bar {hd:List UInt8} (h4:hd.length=4) (p:Nat) (ls:List (List UInt8)):namP hd p ls=match barP hd p ls with
  | .error e=>.error e
  | .ok (s,r)=>if nokC s=true then .ok (unC s,r) else .error (p+1,253):=by
 unfold namP barP
 cases nxt p ls with
 | error e=>rfl
 | ok z =>
  obtain⟨s,r⟩:=z
  dsimp only
  split
  ·rw[h4,named_code]
   split
   ·rename_i hq
    dsimp only
    split at hq
    ·cases hq
    ·rename_i h2
     rw[if_neg h2]
   ·rename_i nn hq
    dsimp only
    split at hq
    ·rename_i h2
     cases hq
     rw[if_pos h2]
    ·cases hq
  ·rfl
theorem cnm_f {R:Nat} {L:List (List UInt8)} {lo:Option Addr} {lc:Nat} {p:Nat} (hd:List UInt8) (h4:hd.length=4) (w:World) (q:Ck w R (.slice lo L.length lc) p) (hL:HS w (.slice lo L.length lc) L) (hp:p≤L.length) (hLl:L.length≤2199023255552) (hs:∀ s∈L,s.length≤1099511627776)
  (X:Except (Nat × Int) (List UInt8 × List (List UInt8))) (HX:Hid (namP hd p (L.drop p)=X)) :
  Calls Tryz.prog 93 #[.pointer (some ⟨R,0,none⟩),.string ⟨hd.toArray⟩] w fun x w'=>NmX R X w x w':=by
 obtain⟨Y,hY⟩:∃ Y,barP hd p (L.drop p)=Y:=⟨_,rfl⟩
 have hl:=cbare_f hd w q hL hp hLl hs Y hY
 have hX:=HX.out
 rw[nam_bar h4,hY] at hX
 clear HX
 cases Y with
 | error z =>
  obtain⟨a,e⟩:=z
  dsimp only at hX
  subst hX
  go_enter Tryz.func93,Tryz.ntmps93
  go_wp2_with fail
  refine hl.mono ?_
  rintro x w1 ⟨⟨g,rfl,hg⟩,hgr⟩
  go_wp2
  exact⟨rfl,⟨_,rfl,hg⟩,hgr⟩
 | ok z =>
  obtain⟨s,r⟩:=z
  dsimp only at hX
  have hsl:s.length≤1099511627776:=(by
   unfold barP at hY
   cases hn:nxt p (L.drop p) with
   | error e=>rw[hn] at hY;cases hY
   | ok z =>
    obtain⟨s2,r2⟩:=z
    rw[hn] at hY
    dsimp only at hY
    obtain⟨_,hpl,_,hLp⟩:=nxt_rest hn
    have hsl:=hs L[p] (List.getElem_mem hpl)
    rw[hLp,List.length_append] at hsl
    split at hY
    ·cases hY
     rw[List.length_drop]
     omega
    ·cases hY)
  obtain⟨n,hn⟩:∃ n,unC s=n:=⟨_,rfl⟩
  obtain⟨b,hb⟩:∃ b,nokC s=b:=⟨_,rfl⟩
  have hf:=fun u=>cnamed_f s u hsl n b hn hb
  rw[hn,hb] at hX
  have hl2:Calls Tryz.prog 147 #[.pointer (some ⟨R,0,none⟩),.string ⟨hd.toArray⟩] w fun x w'=>x=.returned (.string ⟨s.toArray⟩)∧∃ n,w'=w.drewN n:=hl
  clear hY hl hn hb
  cases b with
  | true =>
   rw[if_pos rfl] at hX
   subst hX
   have hf2:∀ u,Calls Tryz.prog 146 #[.string ⟨s.toArray⟩] u fun e w'=>e=.returned (.tuple #[.string ⟨n.toArray⟩,.int .i64 0])∧Below u.heap.size u w':=hf
   clear hf
   go_enter Tryz.func93,Tryz.ntmps93
   go_wp2_with fail
   refine hl2.mono ?_
   rintro x w1 ⟨rfl,nn,rfl⟩
   go_wp2_with fail
   refine (hf2 _).mono ?_
   rintro x w2 ⟨rfl,hB2⟩
   go_wp2
   go_ret
   exact⟨rfl,(Below.dN (Below.refl _ w) nn).trans hB2⟩
  | false =>
   rw[if_neg (by decide)] at hX
   subst hX
   have hf2:∀ u,Calls Tryz.prog 146 #[.string ⟨s.toArray⟩] u fun e w'=>e=.returned (.tuple #[.string ⟨#[]⟩,.int .i64 253])∧Below u.heap.size u w':=hf
   clear hf
   have q2:=fun nn=>q.dN nn
   go_enter Tryz.func93,Tryz.ntmps93
   go_wp2_with fail
   refine hl2.mono ?_
   rintro x w1 ⟨rfl,nn,rfl⟩
   go_wp2_with fail
   refine (hf2 _).mono ?_
   rintro x w2 ⟨rfl,hB2⟩
   have q3:=(q2 nn).low hB2
   go_wp2_with fail
   refine (crefuse_f 253 _ q3 (by omega)).mono ?_
   rintro e w3 ⟨⟨g,rfl,hg⟩,hgr⟩
   go_wp2
   exact⟨rfl,⟨_,rfl,by simpa using hg⟩,grown_two (low_grown ((Below.dN (Below.refl _ w) nn).trans hB2) _) hgr⟩
end

section
open Go.RowKit
attribute [local go_sem] ByteArray.extract_mk no_at
def NcQ (w:World) (s:List UInt8) (e:Ending) (w':World):Prop:=∃ x n r,e=.returned (.tuple #[.int .i64 x,.int .i64 n,.bool r])∧nmC s=(if r=true then some (x,n) else none)∧Below w.heap.size w w'
theorem cnumbers_f (s:List UInt8) (w:World) (hl:s.length≤1099511627776) :
  Calls Tryz.prog 206 #[.string ⟨s.toArray⟩] w fun e w'=>NcQ w s e w':=by
 have hkl:=kA_le s
 have b1:=@prs_num (kA s)
 have b2:=@prs_num (kB s)
 obtain⟨V1,hV1⟩:∃ V,Pn.parseV (kA s)=V:=⟨_,rfl⟩
 obtain⟨E1,hE1⟩:∃ V,Pn.parseE (kA s)=V:=⟨_,rfl⟩
 obtain⟨V2,hV2⟩:∃ V,Pn.parseV (kB s)=V:=⟨_,rfl⟩
 obtain⟨E2,hE2⟩:∃ V,Pn.parseE (kB s)=V:=⟨_,rfl⟩
 have P1:∀ u:World,Calls Tryz.prog 245 #[.string ⟨(kA s).toArray⟩] u fun e w'=>e=.returned (.tuple #[.int .i64 V1,.int .i64 E1])∧Below u.heap.size u w':=(by
  intro u
  have h:=nParse_any (kA s) u (by unfold maxLen;omega)
  rw[hV1,hE1] at h
  exact h)
 have P2:∀ u:World,Calls Tryz.prog 245 #[.string ⟨(kB s).toArray⟩] u fun e w'=>e=.returned (.tuple #[.int .i64 V2,.int .i64 E2])∧Below u.heap.size u w':=(by
  intro u
  have h:=nParse_any (kB s) u (by unfold maxLen;omega)
  rw[hV2,hE2] at h
  exact h)
 rw[hV1] at b1
 rw[hV2] at b2
 have HM:Hid (nmC s=if E1=0 then if kS s=true then if E2=0∧0<V1∧V1<V2 then some (V1,V2) else none else some (V1,V1) else none):=(by
  show _=_
  unfold nmC
  rw[hV1,hE1,hV2,hE2])
 have C1:=nCut_f s w hl
 obtain⟨ks,hks⟩:∃ k,kS s=k:=⟨_,rfl⟩
 rw[hks] at C1 HM
 clear hV1 hE1 hV2 hE2 hks
 by_cases he1:E1=0
 ·have f1:(E1 != 0)=false:=by simp[he1]
  have f2:(E1 == 0)=true:=by simp[he1]
  cases ks with
  | false =>
   have HN:Hid (nmC s=some (V1,V1)):=(by have h:=HM.out;rw[if_pos he1,if_neg (by decide)] at h;exact h)
   clear HM he1 P2
   go_enter Tryz.func206,Tryz.ntmps206
   go_wp2_with fail
   refine C1.mono ?_
   rintro e w1 ⟨rfl,n,rfl⟩
   go_wp2_with fail
   refine (P1 _).mono ?_
   rintro e w2 ⟨rfl,hb2⟩
   go_wp2
   go_ret3
   exact⟨_,_,_,rfl,HN.out,(Below.dN (Below.refl _ w) n).trans hb2⟩
  | true =>
   have HN:Hid (nmC s=if E2=0∧0<V1∧V1<V2 then some (V1,V2) else none):=(by have h:=HM.out;rw[if_pos he1,if_pos rfl] at h;exact h)
   clear HM he1
   go_enter Tryz.func206,Tryz.ntmps206
   go_wp2_with fail
   refine C1.mono ?_
   rintro e w1 ⟨rfl,n,rfl⟩
   go_wp2_with fail
   refine (P1 _).mono ?_
   rintro e w2 ⟨rfl,hb2⟩
   go_wp2_with fail
   refine (P2 _).mono ?_
   rintro e w3 ⟨rfl,hb3⟩
   have hb23:=(Below.dN (Below.refl _ w) n).trans (hb2.trans (hb3.mono hb2.size))
   by_cases h1:E2=0
   ·have g1:(E2 == 0)=true:=by simp[h1]
    by_cases h2:0<V1
    ·have HN2:Hid (nmC s=if decide (V1<V2)=true then some (V1,V2) else none):=(by
      show _=_
      rw[HN.out]
      simp[h1,h2])
     clear HN h1
     go_wp2
     go_ret3
     exact⟨_,_,_,rfl,HN2.out,hb23⟩
    ·have HN2:Hid (nmC s=none):=(by have h:=HN.out;rw[if_neg (by simp[h2])] at h;exact h)
     clear HN h1
     go_wp2
     go_ret3
     exact⟨_,_,_,rfl,HN2.out,hb23⟩
   ·have g1:(E2 == 0)=false:=by simp[h1]
    have HN2:Hid (nmC s=none):=(by have h:=HN.out;rw[if_neg (by simp[h1])] at h;exact h)
    clear HN h1
    go_wp2
    go_ret3
    exact⟨_,_,_,rfl,HN2.out,hb23⟩
 ·have f1:(E1 != 0)=true:=by simp[he1]
  have f2:(E1 == 0)=false:=by simp[he1]
  have HN:Hid (nmC s=none):=(by have h:=HM.out;rw[if_neg he1] at h;exact h)
  clear HM he1 P2
  go_enter Tryz.func206,Tryz.ntmps206
  go_wp2_with fail
  refine C1.mono ?_
  rintro e w1 ⟨rfl,n,rfl⟩
  go_wp2_with fail
  refine (P1 _).mono ?_
  rintro e w2 ⟨rfl,hb2⟩
  go_wp2
  go_ret3
  exact⟨_,_,_,rfl,HN.out,(Below.dN (Below.refl _ w) n).trans hb2⟩
theorem sd_two (sg a b:UInt8) (t:List UInt8):isSd sg (a::b::t)=(decide (b.toNat=32) && (decide (a.toNat=32) || decide (a.toNat=33) || decide (a.toNat=sg.toNat))):=by
 simp only[isSd]
 rw[Bool.eq_iff_iff]
 simp only[Bool.and_eq_true,Bool.or_eq_true,beq_iff_eq,decide_eq_true_eq,← UInt8.toNat_inj]
 constructor
 ·rintro⟨(h | h) | h,h2⟩<;>exact⟨h2,by simp[h]⟩
 ·rintro⟨h2,(h | h) | h⟩<;>exact⟨by simp[h],h2⟩
theorem cisShown_f (l:List UInt8) (sg:UInt8) (w:World) (hl:l.length≤1099511627776) (r:Bool) (HR:Hid (isSd sg l=r)) :
  Calls Tryz.prog 207 #[.string ⟨l.toArray⟩,.int .u8 (sg.toNat:Int)] w fun e w'=>e=.returned (.bool r)∧w'=w:=by
 match l,hl,HR with
 | [],_,HR =>
  have HE:Hid (false=r):=HR
  go_enter Tryz.func207,Tryz.ntmps207
  go_wp2
  go_ret
  exact⟨by rw[← HE.out];rfl,rfl⟩
 | [a],_,HR =>
  have HE:Hid (false=r):=HR
  go_enter Tryz.func207,Tryz.ntmps207
  go_wp2
  go_ret
  exact⟨by rw[← HE.out];rfl,rfl⟩
 | a::b::t,hl,HR =>
  have HR2:=HR.out
  rw[sd_two] at HR2
  have ha:=a.toNat_lt
  have hb:=b.toNat_lt
  have hs:=sg.toNat_lt
  simp only[List.length_cons] at hl
  have i1:¬ (t.length:Int)+1+1<2:=by omega
  have i2:(1:Int)<(t.length:Int)+1+1:=by omega
  have i3:(0:Int)<(t.length:Int)+1+1:=by omega
  by_cases h1:b.toNat=32
  ·have e1:((b.toNat:Int) != 32)=false:=by simp;omega
   rw[decide_eq_true h1,Bool.true_and] at HR2
   by_cases h2:a.toNat=32
   ·have e2:((a.toNat:Int) == 32)=true:=by simp;omega
    have HE:Hid (true=r):=(by show _=_;rw[← HR2,decide_eq_true h2];rfl)
    clear HR HR2 h1 h2
    go_enter Tryz.func207,Tryz.ntmps207
    go_wp2
    go_ret
    exact⟨by rw[← HE.out];rfl,rfl⟩
   ·have e2:((a.toNat:Int) == 32)=false:=by simp;omega
    rw[decide_eq_false h2,Bool.false_or] at HR2
    by_cases h3:a.toNat=33
    ·have e3:((a.toNat:Int) == 33)=true:=by simp;omega
     have HE:Hid (true=r):=(by show _=_;rw[← HR2,decide_eq_true h3];rfl)
     clear HR HR2 h1 h2 h3
     go_enter Tryz.func207,Tryz.ntmps207
     go_wp2
     go_ret
     exact⟨by rw[← HE.out];rfl,rfl⟩
    ·have e3:((a.toNat:Int) == 33)=false:=by simp;omega
     rw[decide_eq_false h3,Bool.false_or] at HR2
     have HE:Hid (((a.toNat:Int) == (sg.toNat:Int))=r):=(by
      show _=_
      rw[← HR2,Bool.eq_iff_iff,beq_iff_eq,decide_eq_true_eq]
      omega)
     clear HR HR2 h1 h2 h3
     go_enter Tryz.func207,Tryz.ntmps207
     go_wp2
     go_ret
     exact⟨by rw[← HE.out];rfl,rfl⟩
  ·have e1:((b.toNat:Int) != 32)=true:=by simp;omega
   have HE:Hid (false=r):=(by show _=_;rw[← HR2,decide_eq_false h1];rfl)
   clear HR HR2 h1
   go_enter Tryz.func207,Tryz.ntmps207
   go_wp2
   go_ret
   exact⟨by rw[← HE.out];rfl,rfl⟩
theorem pkS_at {L:List (List UInt8)} {p:Nat} (h:p<L.length):pkS (L.drop p)=starsT.isPrefixOf L[p]:=by
 rw[List.drop_eq_getElem_cons h]
 rfl
theorem catStars_f {R:Nat} {L:List (List UInt8)} {lo:Option Addr} {lc:Nat} {p:Nat} (w:World) (q:Ck w R (.slice lo L.length lc) p) (hL:HS w (.slice lo L.length lc) L) (hp:p≤L.length) (hLl:L.length≤2199023255552) (r:Bool) (HR:Hid (pkS (L.drop p)=r)) :
  Calls Tryz.prog 95 #[.pointer (some ⟨R,0,none⟩)] w fun x w'=>x=.returned (.bool r)∧∃ n,w'=w.drewN n:=by
 obtain⟨c0,c1⟩:=q.cells
 by_cases hlt:p<L.length
 ·obtain⟨bk,off,rfl,hbk,hcl⟩:=HS.at hL (by omega)
  have d4:=hcl p hlt
  have HR2:=HR.out
  rw[pkS_at hlt] at HR2
  generalize L[p]=s at d4 HR2
  have hd:decide ((p:Int)<(L.length:Int))=true:=decide_eq_true (by omega)
  have i1:(0:Int)≤(p:Int):=by omega
  have i2:(p:Int)<(L.length:Int):=by omega
  have i3:(p:Int).toNat=p:=by omega
  have hhp:∀ u,Calls Tryz.prog 149 #[.string ⟨s.toArray⟩,.string ⟨starsT.toArray⟩] u fun e w'=>e=.returned (.bool r)∧w'=u:=(by
   intro u
   refine (Tryz.strings_HasPrefix ⟨s.toArray⟩ ⟨starsT.toArray⟩ u).mono ?_
   rintro e w' ⟨rfl,rfl⟩
   have e1:Lib.hasPrefix (⟨s.toArray⟩:ByteArray).data.toList (⟨starsT.toArray⟩:ByteArray).data.toList=r:=HR2
   rw[e1]
   exact⟨rfl,rfl⟩)
  clear hcl hL q HR HR2
  go_enter Tryz.func95,Tryz.ntmps95
  go_wp2_with fail
  go_quiet ((go_at_call 149;exact Calls.quiet_of_same (hhp _)))
  go_wp2
  go_ret
  exact⟨rfl,_,rfl⟩
 ·have HE:Hid (false=r):=(by have h:=HR.out;rw[List.drop_of_length_le (by omega)] at h;exact h)
  have hd:decide ((p:Int)<(L.length:Int))=false:=decide_eq_false (by omega)
  clear hL q HR
  go_enter Tryz.func95,Tryz.ntmps95
  go_wp2_with fail
  go_quiet (fail)
  go_wp2
  go_ret
  exact⟨by rw[← HE.out];rfl,_,rfl⟩
def starsP (k p:Nat) (ls:List (List UInt8)):Except (Nat × Int) (List (List UInt8)) :=
 match nxt p ls with
 | .error e=>.error e
 | .ok (s,r)=>if isSt s=true then if 4096≤k then .error (p+1,9) else .ok r else .error (p+1,3)
def StX (R:Nat) (vL:Value) (p:Nat) (X:Except (Nat × Int) (List (List UInt8))) (w:World) (x:Ending) (w':World):Prop :=
 match X with
 | .error (a,e)=>Thr (a:Int) e x w'∧w.grownBy w' (some R)
 | .ok _=>x=.returned (.int .i64 ((p:Int)+1))∧Ck w' R vL ((p+1:Nat):Int)∧w.grownBy w' (some R)
theorem stars_bar (k p:Nat) (ls:List (List UInt8)):starsP k p ls=match barP starsT p ls with
  | .error e=>.error e
  | .ok (t,r)=>if (t.isEmpty || t.head? == some 32)=true then if 4096≤k then .error (p+1,9) else .ok r else .error (p+1,3):=by
 unfold starsP barP
 cases nxt p ls with
 | error e=>rfl
 | ok z =>
  obtain⟨s,r⟩:=z
  dsimp only
  unfold isSt
  by_cases h:starsT.isPrefixOf s=true
  ·rw[h,Bool.true_and,if_pos rfl]
   rfl
  ·rw[Bool.eq_false_iff.2 h,Bool.false_and,if_neg (by decide),if_neg (by decide)]
theorem cstars_f {R:Nat} {L:List (List UInt8)} {lo:Option Addr} {lc:Nat} {p k:Nat} (hk:k≤4096) (w:World) (q:Ck w R (.slice lo L.length lc) p) (hL:HS w (.slice lo L.length lc) L) (hp:p≤L.length) (hLl:L.length≤2199023255552) (hs:∀ s∈L,s.length≤1099511627776)
  (X:Except (Nat × Int) (List (List UInt8))) (HX:Hid (starsP k p (L.drop p)=X)) :
  Calls Tryz.prog 150 #[.pointer (some ⟨R,0,none⟩),.int .i64 (k:Int)] w fun x w'=>StX R (.slice lo L.length lc) p X w x w':=by
 obtain⟨Y,hY⟩:∃ Y,barP starsT p (L.drop p)=Y:=⟨_,rfl⟩
 have hl:=cbare_f starsT w q hL hp hLl hs Y hY
 have hX:=HX.out
 rw[stars_bar,hY] at hX
 clear HX
 cases Y with
 | error z =>
  obtain⟨a,e⟩:=z
  dsimp only at hX
  subst hX
  go_enter Tryz.func150,Tryz.ntmps150
  go_wp2_with fail
  refine hl.mono ?_
  rintro x w1 ⟨⟨g,rfl,hg⟩,hgr⟩
  go_wp2
  exact⟨rfl,⟨_,rfl,hg⟩,hgr⟩
 | ok z =>
  obtain⟨t,r⟩:=z
  dsimp only at hX
  have hl2:Calls Tryz.prog 147 #[.pointer (some ⟨R,0,none⟩),.string ⟨starsT.toArray⟩] w fun x w'=>x=.returned (.string ⟨t.toArray⟩)∧∃ n,w'=w.drewN n:=hl
  have q2:=fun nn=>q.dN nn
  clear hY hl
  by_cases ht:(t.isEmpty || t.head? == some 32)=true
  ·rw[if_pos ht] at hX
   go_enter Tryz.func150,Tryz.ntmps150
   go_wp2_with fail
   refine hl2.mono ?_
   rintro x w1 ⟨rfl,nn,rfl⟩
   go_upto_region 2 with fail
   go_cut [14] (fun cv wz=>cv=.bool false∧wz=w.drewN nn)
   case first =>
    cases t with
    | nil =>
     go_wp2
     go_meet
     case rel=>exact⟨rfl,rfl⟩
    | cons c t =>
     have hc:c=32:=(by simpa using ht)
     subst hc
     clear ht
     go_wp2
     go_meet
     case rel=>exact⟨rfl,rfl⟩
   case rest =>
   obtain⟨rfl,rfl⟩:=hcut
   have q3:=q2 nn
   have g3:=grown_drewN (low_grown (Below.refl w.heap.size w) (some R)) nn
   generalize w.drewN nn=W1 at q3 g3 ⊢
   by_cases hk2:4096≤k
   ·rw[if_pos hk2] at hX
    subst hX
    have e1:((k:Int) == 4096)=true:=beq_iff_eq.2 (by omega)
    go_wp2_with fail
    refine (crefuse_f 9 _ q3 (by omega)).mono ?_
    rintro e w3 ⟨⟨g,rfl,hg⟩,hgr⟩
    go_wp2
    exact⟨rfl,⟨_,rfl,by simpa using hg⟩,grown_two g3 hgr⟩
   ·rw[if_neg hk2] at hX
    subst hX
    have e1:((k:Int) == 4096)=false:=beq_eq_false_iff_ne.2 (by omega)
    obtain⟨c0,c1⟩:=q3.cells
    have f1:=q3.frozen 1
    have q4:Ck (W1.setCell ⟨R,1,none⟩ (.int .i64 ((p:Int)+1))) R (.slice lo L.length lc) (((p+1:Nat)):Int):=(by have:=q3.at ((p:Int)+1);simpa using this)
    have g4:=grown_two g3 (grown_set W1 R 1 (.int .i64 ((p:Int)+1)))
    clear q3 g3
    go_wp2
    go_ret
    exact⟨rfl,q4,g4⟩
  ·rw[if_neg ht] at hX
   subst hX
   cases t with
   | nil=>exact absurd rfl ht
   | cons c t =>
    have hc:c≠32:=(by simpa using ht)
    have hcl:=c.toNat_lt
    have e1:((c.toNat:Int) != 32)=true:=(by
     rw[bne_iff_ne]
     intro e
     apply hc
     rw[← UInt8.toNat_inj]
     show c.toNat=32
     omega)
    have i1:(0:Int)<(t.length:Int)+1:=by omega
    clear ht hc
    go_enter Tryz.func150,Tryz.ntmps150
    go_wp2_with fail
    refine hl2.mono ?_
    rintro x w1 ⟨rfl,nn,rfl⟩
    go_wp2_with fail
    refine (crefuse_f 3 _ (q2 nn) (by omega)).mono ?_
    rintro e w3 ⟨⟨g,rfl,hg⟩,hgr⟩
    go_wp2
    exact⟨rfl,⟨_,rfl,by simpa using hg⟩,grown_two (grown_drewN (low_grown (Below.refl w.heap.size w) (some R)) nn) hgr⟩
end

end Go.Proofs.YtgiojkhmkeocfaaGreatDoor
