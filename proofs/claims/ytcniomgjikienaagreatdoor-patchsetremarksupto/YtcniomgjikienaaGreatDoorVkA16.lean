/-
  Texts that belong together, joined: PatchsetRemarksW, UkS.
-/
import Derived.Test.YtcniomgjikienaaGreatDoorVkA15
import Derived.Shelf.Vars

set_option maxHeartbeats 16000000
set_option maxRecDepth 100000
namespace Go.Proofs.YtcniomgjikienaaGreatDoor

section
open Go.RowKit Go.Proofs.YtcniomgjikienaaGreatDoor.Tx
open Ln
attribute [local go_sem] Zhc ByteArray.extract_mk
theorem Zsy (x y:Int) (u:World):(Instr.field 29 (.agg #[.int .i64 x,.int .i64 y]) 1).run Tryz.prog u=.ok (.int .i64 y) u:=by kernel_rfl
theorem Zsu (x:List UInt8) (c:UInt8) (h:x.length≤100):Fits x [c]:=by
 unfold Fits
 simp only[List.length_cons,List.length_nil]
 omega
theorem Zsx (x y:List UInt8) (h:x.length≤1000000) (h2:y.length≤100):Fits (x++[35,32]) y:=by
 unfold Fits
 simp only[List.length_append,List.length_cons,List.length_nil]
 omega
theorem Zsw (x y:List UInt8) (h:x.length≤1000000) (h2:y.length≤100):Fits (x++[35,32]++y) [10]:=by
 unfold Fits
 simp only[List.length_append,List.length_cons,List.length_nil]
 omega
theorem Zsv (x y:List UInt8) (h:x.length≤1000000) (h2:y.length≤100):Fits (x++35::32::y) [10]:=by
 unfold Fits
 simp only[List.length_append,List.length_cons,List.length_nil]
 omega
theorem ZsM {L S:List (List UInt8)} {i n:Nat} {t:List UInt8} (hL:splitL t=L) (hF:Fed L) (h:RmI L i n S) (hi:i≤100) (ht:t.length≤100000) :
  (S++cut L n ((L.length:Int)-n)).flatten.length≤1048576∧ok8 (psT atC t)=ok8 (psT atC (S++cut L n ((L.length:Int)-n)).flatten)∧fm8 (psT atC t)=fm8 (psT atC (S++cut L n ((L.length:Int)-n)).flatten)∧(fa8 (psT atC t)).2=(fa8 (psT atC (S++cut L n ((L.length:Int)-n)).flatten)).2:=by
 have hn:=h.done hF
 have hz:=h.sz
 have hc:=Zsp L h.le
 have hLt:L.flatten.length=t.length:=by rw[← hL,split_join]
 have hlen:(S++cut L n ((L.length:Int)-n)).flatten.length≤1048576:=by
  simp only[List.flatten_append,List.length_append]
  omega
 refine⟨hlen,?_⟩
 have hr:=ZsE (x:=atC) (t:=t) (u:=(S++cut L n ((L.length:Int)-n)).flatten) (by omega) hlen (by rw[hL];exact hn.symm)
 unfold psN at hr
 generalize psT atC t=X at hr ⊢
 generalize psT atC (S++cut L n ((L.length:Int)-n)).flatten=Y at hr ⊢
 cases X with
 | error x =>
  cases Y with
  | error y =>
   have:x.2=y.2:=by simpa using hr
   exact⟨rfl,rfl,this⟩
  | ok y=>cases hr
 | ok x =>
  cases Y with
  | error y=>cases hr
  | ok y =>
   have:x=y:=by simpa using hr
   subst this
   exact⟨rfl,rfl,rfl⟩
theorem ZsF (t:List UInt8) (rs:List (List UInt8)) (A:List Int) (vr va:Value) (w:World) (hl:t.length≤1048576) (hR:HS w vr rs) (hA:HI w va A) (hrl:rs.length≤1048576) (hrs:∀ s∈rs,s.length≤1048576) (hAl:A.length≤1048576) (hE:ErrT w) (hM:Mxl w) :
  Calls Tryz.prog 6 #[.string ⟨t.toArray⟩,vr,va] w fun e w'=>e=.returned (.bool true)∧Below w.heap.size w w':=by
 obtain⟨ro,rc,rfl⟩:=Holds.form hR
 obtain⟨ao,ac,rfl⟩:=Holds.form hA
 have HRS:Hid (∀ s∈rs,s.length≤1048576):=hrs
 have HE:Hid (ErrT w):=hE
 have HM:Hid (Mxl w):=hM
 have hwk:=ZiI w hE hM
 clear hrs hE hM
 go_enter Tryz.func6,Tryz.ntmps6
 go_wp2_with fail
 refine hwk.mono ?_
 rintro e w1 ⟨rfl,hB1⟩
 clear hwk
 by_cases c1:(100000:Int)<(t.length:Int)
 ·have d1:decide ((100000:Int)<(t.length:Int))=true:=decide_eq_true c1
  go_wp2
  go_ret
  exact⟨rfl,hB1⟩
 by_cases c2:(100:Int)<(rs.length:Int)
 ·have d1:decide ((100000:Int)<(t.length:Int))=false:=decide_eq_false c1
  have d2:decide ((100:Int)<(rs.length:Int))=true:=decide_eq_true c2
  go_wp2
  go_ret
  exact⟨rfl,hB1⟩
 obtain⟨L,hLe⟩:∃ L,splitL t=L:=⟨_,rfl⟩
 have hsp:=ZgE t w1 (by omega)
 have hsl:=split_len t
 rw[hLe] at hsp hsl
 have HL:Hid (splitL t=L):=hLe
 have hLl:L.length≤1048576:=by omega
 clear hLe hsl
 go_wp2_with fail
 refine hsp.mono ?_
 rintro e w2 ⟨vL,rfl,hown,hB12⟩
 have hL2:HS w2 vL L:=Zeo hown
 obtain⟨lo,lc,rfl⟩:=Holds.form hL2
 have hB2:=hB1.trans (hB12.mono hB1.size)
 clear hsp hown hB1 hB12
 by_cases h0:L.length=0
 ·have hF:Fed L:=(by rw[List.eq_nil_of_length_eq_zero h0];intro s hs;cases hs)
  have HF:Hid (Fed L):=hF
  have z0:¬ (0:Int)<(L.length:Int):=by omega
  have z1:decide (0<L.length)=false:=decide_eq_false (by omega)
  clear hF h0
  go_wp2
  have HI0:Hid (RmI L 0 0 []):=RmI.nil L
  go_loopw [10,11,12] (fun sv nv iv wr=>∃ (S:List (List UInt8)) (n i:Nat),i≤rs.length∧sv=.string ⟨S.flatten.toArray⟩∧nv=.int .i64 (n:Int)∧iv=.int .i64 (i:Int)∧Below w2.heap.size w2 wr∧Hid (RmI L i n S)) (fun _ _ iv _=>rs.length-(intOf iv).toNat)
  case atStart=>exact⟨[],0,0,Nat.zero_le _,rfl,by go_num,by go_num,Below.refl _ _,HI0⟩
  case round =>
  clear HI0
  obtain⟨S,n,i,hi,rfl,rfl,rfl,hB,HJ⟩:=hrel
  have hLr:HS wr (.slice _ L.length lc) L:=Holds.keep hL2 fun k hk=>hB.block k hk
  have hnl:=HJ.out.le
  have hsz:=HJ.out.sz
  have hLt:L.flatten.length=t.length:=(by rw[← HL.out,split_join])
  by_cases hlt:i<rs.length
  ·obtain⟨rb,roff,rfl,hrb,hrc⟩:=HS.at hR (by omega)
   have x1:=hrc i hlt
   obtain⟨r,hr⟩:∃ r,rs[i]=r:=⟨_,rfl⟩
   have hrl2:=HRS.out rs[i] (List.getElem_mem hlt)
   rw[hr] at x1 hrl2
   have g1:(0:Int)≤(i:Int):=by omega
   have g2:(i:Int)<(rs.length:Int):=by omega
   clear hrc hr
   by_cases hia:i<A.length
   ·have g3:(i:Int)<(A.length:Int):=by omega
    obtain⟨ab,aoff,rfl,hab,hac⟩:=HI.at hA (by omega)
    have x2:=(World.cell?_of_block ((hB2.trans (hB.mono hB2.size)).block ab hab)).trans (hac i hia)
    obtain⟨a0,ha0⟩:∃ a0,A[i]=a0:=⟨_,rfl⟩
    rw[ha0] at x2
    obtain⟨c,hcm,hc0,hc1⟩:=mod18 a0 4 (by omega) (by omega)
    obtain⟨m,hm⟩:∃ m:Nat,(m:Int)=min (L.length:Int) ((n:Int)+c):=⟨(min (L.length:Int) ((n:Int)+c)).toNat,by omega⟩
    have hnm:n≤m:=by omega
    have hml:m≤L.length:=by omega
    have hw4:wrap64 ((n:Int)+c)=(n:Int)+c:=by unfold wrap64;omega
    have hcl0:(cut L n ((m:Int)-n)).length≤1099511627776:=(by unfold cut;simp only[List.length_take,List.length_drop];omega)
    have hcl1:(cut L n ((m:Int)-n)).flatten.length+(L.drop m).flatten.length=(L.drop n).flatten.length:=Zsp L hnm
    clear hac ha0
    have hm2:min (L.length:Int) ((n:Int)+c)=(m:Int):=hm.symm
    clear hm hia
    obtain⟨so,sc,hsl,hsh⟩:=ZsP L _ _ (n:Int) (m:Int) (by omega) (by omega) (by omega) wr hLr
    have hsh1:=hsh wr hLr
    have hs1:=hsl wr
    obtain⟨C,hC⟩:∃ C,cut L n ((m:Int)-n)=C:=⟨_,rfl⟩
    have HCe:Hid (cut L n ((m:Int)-n)=C):=hC
    rw[hC] at hsh1 hs1 hcl0 hcl1
    clear hsl hsh hC
    have hj:=Zfp _ _ wr (by omega) (by omega) hsh1
    go_wp2_with fail
    refine hj.mono ?_
    rintro e w4 ⟨rfl,hB34⟩
    have hB4:=hB.trans (hB34.mono hB.size)
    obtain⟨P,hP⟩:∃ P,S.flatten++C.flatten=P:=⟨_,rfl⟩
    have HP:Hid (S.flatten++C.flatten=P):=hP
    have hPl:P.length≤1000000:=by rw[← hP,List.length_append];omega
    have q0:=Zsl (x:=S.flatten) (y:=C.flatten) (by unfold Fits;omega) Tryz.prog
    rw[hP] at q0
    clear hcm hc0 hc1 x2 hw4 g3 hm2
    clear hj hs1 hP hB34 hcl1 hsh1
    generalize w4=wq at *
    go_wp2
    have HC:Hid ([]=rmC 0 r):=(by unfold rmC;rfl)
    go_loopw [14,15] (fun gv kv wz=>∃ k:Nat,k≤r.length∧k≤100∧gv=.string ⟨(rmC k r).toArray⟩∧kv=.int .i64 (k:Int)∧Below wq.heap.size wq wz) (fun _ kv _=>100-(intOf kv).toNat)
    case atStart=>exact⟨0,Nat.zero_le _,Nat.zero_le _,by rw[← HC.out],by go_num,Below.refl _ _⟩
    case round =>
    clear HC
    obtain⟨k,hk1,hk2,rfl,rfl,hBz⟩:=hrel
    have y0:=(World.cell?_of_block ((hB2.trans ((hB4.trans (hBz.mono hB4.size)).mono hB2.size)).block rb hrb)).trans x1
    have g1:(0:Int)≤(i:Int):=by omega
    have g2:(i:Int)<(rs.length:Int):=by omega
    by_cases e1:k<r.length
    ·have d3:decide ((k:Int)<(r.length:Int))=true:=decide_eq_true (by omega)
     by_cases e2:k<100
     ·have d4:decide ((k:Int)<100)=true:=decide_eq_true (by omega)
      have f1:(0:Int)≤(k:Int):=by omega
      have f2:(k:Int)<(r.length:Int):=by omega
      have f3:(0:Int)≤(k:Int)+1:=by omega
      have f4:(k:Int)+1≤(r.length:Int):=by omega
      have f5:(k:Int)≤(k:Int)+1:=by omega
      have hst:=ZsI e1
      have hcl:=ZsH k r
      have hft:∀ c:UInt8,Fits (rmC k r) [c]:=fun c=>Zsu (rmC k r) c (Nat.le_trans hcl hk2)
      have q1f:=fun c:UInt8=>Zsl (hft c) Tryz.prog
      clear hft
      have hex:(r.drop k).take 1=[r[k]]:=(by rw[List.drop_eq_getElem_cons e1];rfl)
      obtain⟨ch,hch⟩:∃ ch,r[k]=ch:=⟨_,rfl⟩
      have HCH:Hid (r[k]=ch):=hch
      rw[hch] at hst hex
      by_cases h10:ch=10
      ·have j1:((ch.toNat:Int) != 10)=false:=(by rw[h10];rfl)
       have HS2:Hid (rmC k r=rmC (k+1) r):=(by show _=_;rw[hst,if_pos h10,List.append_nil])
       clear hst h10 HCH hex q1f
       go_wp2
       exact⟨⟨k+1,by omega,by omega,by rw[HS2.out],by go_num,hBz⟩,by simp[intOf];omega⟩
      ·have j1:((ch.toNat:Int) != 10)=true:=(by
        rw[bne_iff_ne]
        intro e
        exact h10 (UInt8.toNat_inj.1 (by show _=10;omega)))
       have HS2:Hid (rmC k r++[ch]=rmC (k+1) r):=(by show _=_;rw[hst,if_neg h10])
       have q1:=q1f ch
       clear hst h10 HCH q1f
       go_wp2
       exact⟨⟨k+1,by omega,by omega,by rw[← HS2.out],by go_num,hBz⟩,by simp[intOf];omega⟩
     ·have d4:decide ((k:Int)<100)=false:=decide_eq_false (by omega)
      have HRE:Hid (rmC k r=rmC 100 r):=ZsG (.inr (by omega)) hk2
      have hcl:=ZsH k r
      have q1:=Zsl (x:=P) (y:=[35,32]) (by unfold Fits;simp only[List.length_cons,List.length_nil];omega) Tryz.prog
      have hcl2:=Nat.le_trans hcl hk2
      have q2:=Zsl (Zsx P (rmC k r) hPl hcl2) Tryz.prog
      have q3:=Zsl (Zsw P (rmC k r) hPl hcl2) Tryz.prog
      have q4:=Zsl (Zsv P (rmC k r) hPl hcl2) Tryz.prog
      have HEQ:Hid (P++35::32::(rmC k r++[10])=(S++cut L n ((m:Int)-n)++[rmL r]).flatten):=(by
       show _=_
       rw[HRE.out,← HP.out,← HCe.out]
       simp only[List.flatten_append,List.flatten_cons,List.flatten_nil,rmL,List.append_assoc,List.append_nil,List.cons_append,List.nil_append])
      have HI2:Hid (RmI L (i+1) m (S++cut L n ((m:Int)-n)++[rmL r])):=HJ.out.step HF.out hnm hml r
      clear HRE
      go_wp2
      refine⟨⟨S++cut L n ((m:Int)-n)++[rmL r],m,i+1,by omega,by rw[← HEQ.out],by go_num,by go_num,hB4.trans (hBz.mono hB4.size),HI2⟩,by simp[intOf];omega⟩
    ·have d3:decide ((k:Int)<(r.length:Int))=false:=decide_eq_false (by omega)
     have HRE:Hid (rmC k r=rmC 100 r):=ZsG (.inl (by omega)) hk2
     have hcl:=ZsH k r
     have q1:=Zsl (x:=P) (y:=[35,32]) (by unfold Fits;simp only[List.length_cons,List.length_nil];omega) Tryz.prog
     have hcl2:=Nat.le_trans hcl hk2
     have q2:=Zsl (Zsx P (rmC k r) hPl hcl2) Tryz.prog
     have q3:=Zsl (Zsw P (rmC k r) hPl hcl2) Tryz.prog
     have q4:=Zsl (Zsv P (rmC k r) hPl hcl2) Tryz.prog
     have HEQ:Hid (P++35::32::(rmC k r++[10])=(S++cut L n ((m:Int)-n)++[rmL r]).flatten):=(by
      show _=_
      rw[HRE.out,← HP.out,← HCe.out]
      simp only[List.flatten_append,List.flatten_cons,List.flatten_nil,rmL,List.append_assoc,List.append_nil,List.cons_append,List.nil_append])
     have HI2:Hid (RmI L (i+1) m (S++cut L n ((m:Int)-n)++[rmL r])):=HJ.out.step HF.out hnm hml r
     clear HRE
     go_wp2
     refine⟨⟨S++cut L n ((m:Int)-n)++[rmL r],m,i+1,by omega,by rw[← HEQ.out],by go_num,by go_num,hB4.trans (hBz.mono hB4.size),HI2⟩,by simp[intOf];omega⟩
   ·have g3:¬ (i:Int)<(A.length:Int):=by omega
    have hnm:n≤n:=Nat.le_refl n
    have hml:n≤L.length:=hnl
    have hcl0:(cut L n ((n:Int)-n)).length≤1099511627776:=(by unfold cut;simp only[List.length_take,List.length_drop];omega)
    have hcl1:(cut L n ((n:Int)-n)).flatten.length+(L.drop n).flatten.length=(L.drop n).flatten.length:=Zsp L hnm
    go_upto_region 18 with fail
    clear g3 hia
    obtain⟨so,sc,hsl,hsh⟩:=ZsP L _ _ (n:Int) (n:Int) (by omega) (by omega) (by omega) wr hLr
    have hsh1:=hsh wr hLr
    have hs1:=hsl wr
    obtain⟨C,hC⟩:∃ C,cut L n ((n:Int)-n)=C:=⟨_,rfl⟩
    have HCe:Hid (cut L n ((n:Int)-n)=C):=hC
    rw[hC] at hsh1 hs1 hcl0 hcl1
    clear hsl hsh hC
    have hj:=Zfp _ _ wr (by omega) (by omega) hsh1
    go_wp2_with fail
    refine hj.mono ?_
    rintro e w4 ⟨rfl,hB34⟩
    have hB4:=hB.trans (hB34.mono hB.size)
    obtain⟨P,hP⟩:∃ P,S.flatten++C.flatten=P:=⟨_,rfl⟩
    have HP:Hid (S.flatten++C.flatten=P):=hP
    have hPl:P.length≤1000000:=by rw[← hP,List.length_append];omega
    have q0:=Zsl (x:=S.flatten) (y:=C.flatten) (by unfold Fits;omega) Tryz.prog
    rw[hP] at q0
    clear hj hs1 hP hB34 hcl1 hsh1
    generalize w4=wq at *
    go_wp2
    have HC:Hid ([]=rmC 0 r):=(by unfold rmC;rfl)
    go_loopw [14,15] (fun gv kv wz=>∃ k:Nat,k≤r.length∧k≤100∧gv=.string ⟨(rmC k r).toArray⟩∧kv=.int .i64 (k:Int)∧Below wq.heap.size wq wz) (fun _ kv _=>100-(intOf kv).toNat)
    case atStart=>exact⟨0,Nat.zero_le _,Nat.zero_le _,by rw[← HC.out],by go_num,Below.refl _ _⟩
    case round =>
    clear HC
    obtain⟨k,hk1,hk2,rfl,rfl,hBz⟩:=hrel
    have y0:=(World.cell?_of_block ((hB2.trans ((hB4.trans (hBz.mono hB4.size)).mono hB2.size)).block rb hrb)).trans x1
    have g1:(0:Int)≤(i:Int):=by omega
    have g2:(i:Int)<(rs.length:Int):=by omega
    by_cases e1:k<r.length
    ·have d3:decide ((k:Int)<(r.length:Int))=true:=decide_eq_true (by omega)
     by_cases e2:k<100
     ·have d4:decide ((k:Int)<100)=true:=decide_eq_true (by omega)
      have f1:(0:Int)≤(k:Int):=by omega
      have f2:(k:Int)<(r.length:Int):=by omega
      have f3:(0:Int)≤(k:Int)+1:=by omega
      have f4:(k:Int)+1≤(r.length:Int):=by omega
      have f5:(k:Int)≤(k:Int)+1:=by omega
      have hst:=ZsI e1
      have hcl:=ZsH k r
      have hft:∀ c:UInt8,Fits (rmC k r) [c]:=fun c=>Zsu (rmC k r) c (Nat.le_trans hcl hk2)
      have q1f:=fun c:UInt8=>Zsl (hft c) Tryz.prog
      clear hft
      have hex:(r.drop k).take 1=[r[k]]:=(by rw[List.drop_eq_getElem_cons e1];rfl)
      obtain⟨ch,hch⟩:∃ ch,r[k]=ch:=⟨_,rfl⟩
      have HCH:Hid (r[k]=ch):=hch
      rw[hch] at hst hex
      by_cases h10:ch=10
      ·have j1:((ch.toNat:Int) != 10)=false:=(by rw[h10];rfl)
       have HS2:Hid (rmC k r=rmC (k+1) r):=(by show _=_;rw[hst,if_pos h10,List.append_nil])
       clear hst h10 HCH hex q1f
       go_wp2
       exact⟨⟨k+1,by omega,by omega,by rw[HS2.out],by go_num,hBz⟩,by simp[intOf];omega⟩
      ·have j1:((ch.toNat:Int) != 10)=true:=(by
        rw[bne_iff_ne]
        intro e
        exact h10 (UInt8.toNat_inj.1 (by show _=10;omega)))
       have HS2:Hid (rmC k r++[ch]=rmC (k+1) r):=(by show _=_;rw[hst,if_neg h10])
       have q1:=q1f ch
       clear hst h10 HCH q1f
       go_wp2
       exact⟨⟨k+1,by omega,by omega,by rw[← HS2.out],by go_num,hBz⟩,by simp[intOf];omega⟩
     ·have d4:decide ((k:Int)<100)=false:=decide_eq_false (by omega)
      have HRE:Hid (rmC k r=rmC 100 r):=ZsG (.inr (by omega)) hk2
      have hcl:=ZsH k r
      have q1:=Zsl (x:=P) (y:=[35,32]) (by unfold Fits;simp only[List.length_cons,List.length_nil];omega) Tryz.prog
      have hcl2:=Nat.le_trans hcl hk2
      have q2:=Zsl (Zsx P (rmC k r) hPl hcl2) Tryz.prog
      have q3:=Zsl (Zsw P (rmC k r) hPl hcl2) Tryz.prog
      have q4:=Zsl (Zsv P (rmC k r) hPl hcl2) Tryz.prog
      have HEQ:Hid (P++35::32::(rmC k r++[10])=(S++cut L n ((n:Int)-n)++[rmL r]).flatten):=(by
       show _=_
       rw[HRE.out,← HP.out,← HCe.out]
       simp only[List.flatten_append,List.flatten_cons,List.flatten_nil,rmL,List.append_assoc,List.append_nil,List.cons_append,List.nil_append])
      have HI2:Hid (RmI L (i+1) n (S++cut L n ((n:Int)-n)++[rmL r])):=HJ.out.step HF.out hnm hml r
      clear HRE
      go_wp2
      refine⟨⟨S++cut L n ((n:Int)-n)++[rmL r],n,i+1,by omega,by rw[← HEQ.out],by go_num,by go_num,hB4.trans (hBz.mono hB4.size),HI2⟩,by simp[intOf];omega⟩
    ·have d3:decide ((k:Int)<(r.length:Int))=false:=decide_eq_false (by omega)
     have HRE:Hid (rmC k r=rmC 100 r):=ZsG (.inl (by omega)) hk2
     have hcl:=ZsH k r
     have q1:=Zsl (x:=P) (y:=[35,32]) (by unfold Fits;simp only[List.length_cons,List.length_nil];omega) Tryz.prog
     have hcl2:=Nat.le_trans hcl hk2
     have q2:=Zsl (Zsx P (rmC k r) hPl hcl2) Tryz.prog
     have q3:=Zsl (Zsw P (rmC k r) hPl hcl2) Tryz.prog
     have q4:=Zsl (Zsv P (rmC k r) hPl hcl2) Tryz.prog
     have HEQ:Hid (P++35::32::(rmC k r++[10])=(S++cut L n ((n:Int)-n)++[rmL r]).flatten):=(by
      show _=_
      rw[HRE.out,← HP.out,← HCe.out]
      simp only[List.flatten_append,List.flatten_cons,List.flatten_nil,rmL,List.append_assoc,List.append_nil,List.cons_append,List.nil_append])
     have HI2:Hid (RmI L (i+1) n (S++cut L n ((n:Int)-n)++[rmL r])):=HJ.out.step HF.out hnm hml r
     clear HRE
     go_wp2
     refine⟨⟨S++cut L n ((n:Int)-n)++[rmL r],n,i+1,by omega,by rw[← HEQ.out],by go_num,by go_num,hB4.trans (hBz.mono hB4.size),HI2⟩,by simp[intOf];omega⟩
  ·have hend:¬ (i:Int)<(rs.length:Int):=by omega
   obtain⟨so,sc,hsl,hsh⟩:=ZsO L _ _ (n:Int) (by omega) (by omega) wr hLr
   have hsh1:=hsh wr hLr
   have hs1:=hsl wr
   obtain⟨g1,g2,g3,g4⟩:=ZsM HL.out HF.out HJ.out (by omega) (by omega)
   have hcz:=Zsp L hnl
   obtain⟨C,hC⟩:∃ C,cut L n ((L.length:Int)-n)=C:=⟨_,rfl⟩
   have hCl:C.length≤1099511627776:=(by rw[← hC];unfold cut;simp only[List.length_take,List.length_drop];omega)
   rw[hC] at hsh1 hs1 g1 g2 g3 g4 hcz
   clear hsl hsh hC
   have hj:=Zfp _ _ wr hCl (by omega) hsh1
   obtain⟨U,hU⟩:∃ U,S.flatten++C.flatten=U:=⟨_,rfl⟩
   rw[List.flatten_append,hU] at g1 g2 g3 g4
   obtain⟨X,hX⟩:∃ X,psT atC t=X:=⟨_,rfl⟩
   obtain⟨Y,hY⟩:∃ Y,psT atC U=Y:=⟨_,rfl⟩
   rw[hX,hY] at g2 g3 g4
   have q0:=Zsl (x:=S.flatten) (y:=C.flatten) (by unfold Fits;omega) Tryz.prog
   rw[hU] at q0
   have hp1:∀ u:World,ErrT u→Mxl u→Calls Tryz.prog 8 #[.string ⟨t.toArray⟩] u fun e w'=>PuQ8 u X e w':=fun u h1 h2=>(ZoQ t u (by omega) h1 h2 X hX).mono fun _ _ h=>Zpd h
   have hp2:∀ u:World,ErrT u→Mxl u→Calls Tryz.prog 8 #[.string ⟨U.toArray⟩] u fun e w'=>PuQ8 u Y e w':=fun u h1 h2=>(ZoQ U u (by omega) h1 h2 Y hY).mono fun _ _ h=>Zpd h
   have HFx:Hid (∀ F:List Pfd,F.map (·.x)=ok8 X→(∀ f∈F,f.hs.map (·.1)=f.x.hs)→F.length≤64∧∀ f∈F,HOw f.hs):=(by intro F h1 h2;exact Zpj (by omega) hX h1 h2)
   unfold PuQ8 at hp1 hp2
   obtain⟨l,hl1⟩:∃ l,ok8 X=l:=⟨_,rfl⟩
   obtain⟨fm,hfm⟩:∃ a,fm8 X=a:=⟨_,rfl⟩
   obtain⟨fz,hfz⟩:∃ z,(fa8 X).2=z:=⟨_,rfl⟩
   obtain⟨fa,hfa⟩:∃ z,(fa8 X).1=z:=⟨_,rfl⟩
   obtain⟨fb,hfb⟩:∃ z,(fa8 Y).1=z:=⟨_,rfl⟩
   rw[hl1] at g2 HFx
   rw[hfm] at g3
   rw[hfz] at g4
   rw[hl1,hfm,hfz,hfa] at hp1
   rw[← g2,← g3,← g4,hfb] at hp2
   clear g2 g3 g4 hX hY hl1 hfm hfz hfa hfb hU hcz g1 hsz hLt
   go_wp2_with fail
   refine hj.mono ?_
   rintro e w4 ⟨rfl,hB34⟩
   have hB4:=hB2.trans ((hB.trans (hB34.mono hB.size)).mono hB2.size)
   have hE4:=HE.out.low hB4 (Nat.le_refl _)
   have hM4:=HM.out.low hB4
   have hp1a:=hp1 w4 hE4 hM4
   clear hj hs1 hB34 hsh1 hp1
   go_wp2_with fail
   refine hp1a.mono ?_
   rintro e w5 ⟨o1,c1',F1,ev1,rfl,hP1,hm1,hsn1⟩
   have hE5:=hE4.low hP1.low (Nat.le_refl _)
   have hM5:=hM4.low hP1.low
   have hp2a:=hp2 w5 hE5 hM5
   clear hp1a hp2
   have HS1:Hid (∀ u:World,Below w5.heap.size w5 u→ErrT u→Calls Tryz.prog 10 #[ev1] u fun e u'=>e=.returned (.agg #[.int .i64 fa,.int .i64 fz])∧Below u.heap.size u u'):=hsn1
   clear hsn1
   go_wp2_with fail
   refine hp2a.mono ?_
   rintro e w6 ⟨o2,c2',F2,ev2,rfl,hP2,hm2,hsn2⟩
   have HS2:Hid (∀ u:World,Below w6.heap.size w6 u→ErrT u→Calls Tryz.prog 10 #[ev2] u fun e u'=>e=.returned (.agg #[.int .i64 fb,.int .i64 fz])∧Below u.heap.size u u'):=hsn2
   have hE6:=hE5.low hP2.low (Nat.le_refl _)
   have hh1:=hP1.holds.keep hP2.low
   have hh2:=hP2.holds
   obtain⟨hpl,hfx⟩:=HFx.out F1 hm1 (fun f hf=>(hh1.ins f hf).1)
   have hsa:=Zqg F1 F2 _ _ w6 hh1 hh2 (hm1.trans hm2.symm) hfx (by omega)
   have hB6:=hB4.trans ((hP1.low.trans (hP2.low.mono hP1.low.size)).mono hB4.size)
   have hB56:=hP2.low
   clear hsn2 hp2a hP1 hP2 hm1 hm2 hfx HFx hh1 hh2
   go_wp2_with fail
   refine hsa.mono ?_
   rintro e w7 ⟨rfl,hB67⟩
   have hs7:=HS1.out w7 (hB56.trans (hB67.mono hB56.size)) (hE6.low hB67 (Nat.le_refl _))
   clear hsa
   go_wp2_with fail
   refine hs7.mono ?_
   rintro e w8 ⟨rfl,hB78⟩
   have hB68:=hB67.trans (hB78.mono hB67.size)
   have hs8:=HS2.out w8 hB68 (hE6.low hB68 (Nat.le_refl _))
   clear hs7
   have hfd1:=Zsy fa fz w8
   go_wp2_with fail
   refine hs8.mono ?_
   rintro e w9 ⟨rfl,hB89⟩
   have hB9:=hB6.trans ((hB68.trans (hB89.mono hB68.size)).mono hB6.size)
   clear hs8
   have hfd2:=Zsy fb fz w9
   go_wp2
   go_ret
   exact⟨rfl,hB9⟩
 ·have z0:(0:Int)<(L.length:Int):=by omega
  obtain⟨bk,off,rfl,hbk,hc⟩:=HS.at hL2 (by omega)
  have x0:=hc (L.length-1) (by omega)
  obtain⟨s,hs⟩:∃ s,L[L.length-1]'(by omega)=s:=⟨_,rfl⟩
  rw[hs] at x0
  have hsle:s.length≤1048576:=(by
   have h1:=Zkz (t:=t) (M:=1048576) (by omega) s (by rw[HL.out,← hs];exact List.getElem_mem _)
   exact h1)
  have hb:=fun u=>Zsz s u (by omega)
  obtain⟨fd,hfd⟩:∃ f,fdB s=f:=⟨_,rfl⟩
  rw[hfd] at hb
  have k1:(0:Int)≤(L.length:Int)-1:=by omega
  have k2:(L.length:Int)-1<(L.length:Int):=by omega
  have k3:((L.length:Int)-1).toNat=L.length-1:=by omega
  have k4:wrap64 ((L.length:Int)-1)=(L.length:Int)-1:=by unfold wrap64;omega
  clear hc
  cases fd with
  | false =>
   clear hs hfd
   go_wp2_with fail
   refine (hb _).mono ?_
   rintro e w3 ⟨rfl,rfl⟩
   go_wp2
   go_ret
   exact⟨rfl,hB2⟩
  | true =>
   have HF:Hid (Fed L):=(by
    show Fed L
    rw[← HL.out]
    refine Zst (.inr ?_)
    have h1:t=(L.dropLast++[s]).flatten:=(by
     have hne:L≠[]:=(by intro e;rw[e] at h0;exact h0 rfl)
     have h2:L.getLast hne=s:=(by rw[← hs,List.getLast_eq_getElem])
     rw[← h2,List.dropLast_concat_getLast hne,← HL.out,split_join])
    rw[h1,List.flatten_append]
    have h3:=Zdd hfd
    simp only[List.flatten_cons,List.flatten_nil,List.append_nil]
    exact (Zsr (ah:=L.dropLast.flatten) hfd).1)
   clear hs hfd
   go_wp2_with fail
   refine (hb _).mono ?_
   rintro e w3 ⟨rfl,rfl⟩
   clear hb x0 k1 k2 k3 k4
   go_wp2
   have HI0:Hid (RmI L 0 0 []):=RmI.nil L
   go_loopw [10,11,12] (fun sv nv iv wr=>∃ (S:List (List UInt8)) (n i:Nat),i≤rs.length∧sv=.string ⟨S.flatten.toArray⟩∧nv=.int .i64 (n:Int)∧iv=.int .i64 (i:Int)∧Below w2.heap.size w2 wr∧Hid (RmI L i n S)) (fun _ _ iv _=>rs.length-(intOf iv).toNat)
   case atStart=>exact⟨[],0,0,Nat.zero_le _,rfl,by go_num,by go_num,Below.refl _ _,HI0⟩
   case round =>
   clear HI0
   obtain⟨S,n,i,hi,rfl,rfl,rfl,hB,HJ⟩:=hrel
   have hLr:HS wr (.slice _ L.length lc) L:=Holds.keep hL2 fun k hk=>hB.block k hk
   have hnl:=HJ.out.le
   have hsz:=HJ.out.sz
   have hLt:L.flatten.length=t.length:=(by rw[← HL.out,split_join])
   by_cases hlt:i<rs.length
   ·obtain⟨rb,roff,rfl,hrb,hrc⟩:=HS.at hR (by omega)
    have x1:=hrc i hlt
    obtain⟨r,hr⟩:∃ r,rs[i]=r:=⟨_,rfl⟩
    have hrl2:=HRS.out rs[i] (List.getElem_mem hlt)
    rw[hr] at x1 hrl2
    have g1:(0:Int)≤(i:Int):=by omega
    have g2:(i:Int)<(rs.length:Int):=by omega
    clear hrc hr
    by_cases hia:i<A.length
    ·have g3:(i:Int)<(A.length:Int):=by omega
     obtain⟨ab,aoff,rfl,hab,hac⟩:=HI.at hA (by omega)
     have x2:=(World.cell?_of_block ((hB2.trans (hB.mono hB2.size)).block ab hab)).trans (hac i hia)
     obtain⟨a0,ha0⟩:∃ a0,A[i]=a0:=⟨_,rfl⟩
     rw[ha0] at x2
     obtain⟨c,hcm,hc0,hc1⟩:=mod18 a0 4 (by omega) (by omega)
     obtain⟨m,hm⟩:∃ m:Nat,(m:Int)=min (L.length:Int) ((n:Int)+c):=⟨(min (L.length:Int) ((n:Int)+c)).toNat,by omega⟩
     have hnm:n≤m:=by omega
     have hml:m≤L.length:=by omega
     have hw4:wrap64 ((n:Int)+c)=(n:Int)+c:=by unfold wrap64;omega
     have hcl0:(cut L n ((m:Int)-n)).length≤1099511627776:=(by unfold cut;simp only[List.length_take,List.length_drop];omega)
     have hcl1:(cut L n ((m:Int)-n)).flatten.length+(L.drop m).flatten.length=(L.drop n).flatten.length:=Zsp L hnm
     clear hac ha0
     have hm2:min (L.length:Int) ((n:Int)+c)=(m:Int):=hm.symm
     clear hm hia
     obtain⟨so,sc,hsl,hsh⟩:=ZsP L _ _ (n:Int) (m:Int) (by omega) (by omega) (by omega) wr hLr
     have hsh1:=hsh wr hLr
     have hs1:=hsl wr
     obtain⟨C,hC⟩:∃ C,cut L n ((m:Int)-n)=C:=⟨_,rfl⟩
     have HCe:Hid (cut L n ((m:Int)-n)=C):=hC
     rw[hC] at hsh1 hs1 hcl0 hcl1
     clear hsl hsh hC
     have hj:=Zfp _ _ wr (by omega) (by omega) hsh1
     go_wp2_with fail
     refine hj.mono ?_
     rintro e w4 ⟨rfl,hB34⟩
     have hB4:=hB.trans (hB34.mono hB.size)
     obtain⟨P,hP⟩:∃ P,S.flatten++C.flatten=P:=⟨_,rfl⟩
     have HP:Hid (S.flatten++C.flatten=P):=hP
     have hPl:P.length≤1000000:=by rw[← hP,List.length_append];omega
     have q0:=Zsl (x:=S.flatten) (y:=C.flatten) (by unfold Fits;omega) Tryz.prog
     rw[hP] at q0
     clear hcm hc0 hc1 x2 hw4 g3 hm2
     clear hj hs1 hP hB34 hcl1 hsh1
     generalize w4=wq at *
     go_wp2
     have HC:Hid ([]=rmC 0 r):=(by unfold rmC;rfl)
     go_loopw [14,15] (fun gv kv wz=>∃ k:Nat,k≤r.length∧k≤100∧gv=.string ⟨(rmC k r).toArray⟩∧kv=.int .i64 (k:Int)∧Below wq.heap.size wq wz) (fun _ kv _=>100-(intOf kv).toNat)
     case atStart=>exact⟨0,Nat.zero_le _,Nat.zero_le _,by rw[← HC.out],by go_num,Below.refl _ _⟩
     case round =>
     clear HC
     obtain⟨k,hk1,hk2,rfl,rfl,hBz⟩:=hrel
     have y0:=(World.cell?_of_block ((hB2.trans ((hB4.trans (hBz.mono hB4.size)).mono hB2.size)).block rb hrb)).trans x1
     have g1:(0:Int)≤(i:Int):=by omega
     have g2:(i:Int)<(rs.length:Int):=by omega
     by_cases e1:k<r.length
     ·have d3:decide ((k:Int)<(r.length:Int))=true:=decide_eq_true (by omega)
      by_cases e2:k<100
      ·have d4:decide ((k:Int)<100)=true:=decide_eq_true (by omega)
       have f1:(0:Int)≤(k:Int):=by omega
       have f2:(k:Int)<(r.length:Int):=by omega
       have f3:(0:Int)≤(k:Int)+1:=by omega
       have f4:(k:Int)+1≤(r.length:Int):=by omega
       have f5:(k:Int)≤(k:Int)+1:=by omega
       have hst:=ZsI e1
       have hcl:=ZsH k r
       have hft:∀ c:UInt8,Fits (rmC k r) [c]:=fun c=>Zsu (rmC k r) c (Nat.le_trans hcl hk2)
       have q1f:=fun c:UInt8=>Zsl (hft c) Tryz.prog
       clear hft
       have hex:(r.drop k).take 1=[r[k]]:=(by rw[List.drop_eq_getElem_cons e1];rfl)
       obtain⟨ch,hch⟩:∃ ch,r[k]=ch:=⟨_,rfl⟩
       have HCH:Hid (r[k]=ch):=hch
       rw[hch] at hst hex
       by_cases h10:ch=10
       ·have j1:((ch.toNat:Int) != 10)=false:=(by rw[h10];rfl)
        have HS2:Hid (rmC k r=rmC (k+1) r):=(by show _=_;rw[hst,if_pos h10,List.append_nil])
        clear hst h10 HCH hex q1f
        go_wp2
        exact⟨⟨k+1,by omega,by omega,by rw[HS2.out],by go_num,hBz⟩,by simp[intOf];omega⟩
       ·have j1:((ch.toNat:Int) != 10)=true:=(by
         rw[bne_iff_ne]
         intro e
         exact h10 (UInt8.toNat_inj.1 (by show _=10;omega)))
        have HS2:Hid (rmC k r++[ch]=rmC (k+1) r):=(by show _=_;rw[hst,if_neg h10])
        have q1:=q1f ch
        clear hst h10 HCH q1f
        go_wp2
        exact⟨⟨k+1,by omega,by omega,by rw[← HS2.out],by go_num,hBz⟩,by simp[intOf];omega⟩
      ·have d4:decide ((k:Int)<100)=false:=decide_eq_false (by omega)
       have HRE:Hid (rmC k r=rmC 100 r):=ZsG (.inr (by omega)) hk2
       have hcl:=ZsH k r
       have q1:=Zsl (x:=P) (y:=[35,32]) (by unfold Fits;simp only[List.length_cons,List.length_nil];omega) Tryz.prog
       have hcl2:=Nat.le_trans hcl hk2
       have q2:=Zsl (Zsx P (rmC k r) hPl hcl2) Tryz.prog
       have q3:=Zsl (Zsw P (rmC k r) hPl hcl2) Tryz.prog
       have q4:=Zsl (Zsv P (rmC k r) hPl hcl2) Tryz.prog
       have HEQ:Hid (P++35::32::(rmC k r++[10])=(S++cut L n ((m:Int)-n)++[rmL r]).flatten):=(by
        show _=_
        rw[HRE.out,← HP.out,← HCe.out]
        simp only[List.flatten_append,List.flatten_cons,List.flatten_nil,rmL,List.append_assoc,List.append_nil,List.cons_append,List.nil_append])
       have HI2:Hid (RmI L (i+1) m (S++cut L n ((m:Int)-n)++[rmL r])):=HJ.out.step HF.out hnm hml r
       clear HRE
       go_wp2
       refine⟨⟨S++cut L n ((m:Int)-n)++[rmL r],m,i+1,by omega,by rw[← HEQ.out],by go_num,by go_num,hB4.trans (hBz.mono hB4.size),HI2⟩,by simp[intOf];omega⟩
     ·have d3:decide ((k:Int)<(r.length:Int))=false:=decide_eq_false (by omega)
      have HRE:Hid (rmC k r=rmC 100 r):=ZsG (.inl (by omega)) hk2
      have hcl:=ZsH k r
      have q1:=Zsl (x:=P) (y:=[35,32]) (by unfold Fits;simp only[List.length_cons,List.length_nil];omega) Tryz.prog
      have hcl2:=Nat.le_trans hcl hk2
      have q2:=Zsl (Zsx P (rmC k r) hPl hcl2) Tryz.prog
      have q3:=Zsl (Zsw P (rmC k r) hPl hcl2) Tryz.prog
      have q4:=Zsl (Zsv P (rmC k r) hPl hcl2) Tryz.prog
      have HEQ:Hid (P++35::32::(rmC k r++[10])=(S++cut L n ((m:Int)-n)++[rmL r]).flatten):=(by
       show _=_
       rw[HRE.out,← HP.out,← HCe.out]
       simp only[List.flatten_append,List.flatten_cons,List.flatten_nil,rmL,List.append_assoc,List.append_nil,List.cons_append,List.nil_append])
      have HI2:Hid (RmI L (i+1) m (S++cut L n ((m:Int)-n)++[rmL r])):=HJ.out.step HF.out hnm hml r
      clear HRE
      go_wp2
      refine⟨⟨S++cut L n ((m:Int)-n)++[rmL r],m,i+1,by omega,by rw[← HEQ.out],by go_num,by go_num,hB4.trans (hBz.mono hB4.size),HI2⟩,by simp[intOf];omega⟩
    ·have g3:¬ (i:Int)<(A.length:Int):=by omega
     have hnm:n≤n:=Nat.le_refl n
     have hml:n≤L.length:=hnl
     have hcl0:(cut L n ((n:Int)-n)).length≤1099511627776:=(by unfold cut;simp only[List.length_take,List.length_drop];omega)
     have hcl1:(cut L n ((n:Int)-n)).flatten.length+(L.drop n).flatten.length=(L.drop n).flatten.length:=Zsp L hnm
     go_upto_region 18 with fail
     clear g3 hia
     obtain⟨so,sc,hsl,hsh⟩:=ZsP L _ _ (n:Int) (n:Int) (by omega) (by omega) (by omega) wr hLr
     have hsh1:=hsh wr hLr
     have hs1:=hsl wr
     obtain⟨C,hC⟩:∃ C,cut L n ((n:Int)-n)=C:=⟨_,rfl⟩
     have HCe:Hid (cut L n ((n:Int)-n)=C):=hC
     rw[hC] at hsh1 hs1 hcl0 hcl1
     clear hsl hsh hC
     have hj:=Zfp _ _ wr (by omega) (by omega) hsh1
     go_wp2_with fail
     refine hj.mono ?_
     rintro e w4 ⟨rfl,hB34⟩
     have hB4:=hB.trans (hB34.mono hB.size)
     obtain⟨P,hP⟩:∃ P,S.flatten++C.flatten=P:=⟨_,rfl⟩
     have HP:Hid (S.flatten++C.flatten=P):=hP
     have hPl:P.length≤1000000:=by rw[← hP,List.length_append];omega
     have q0:=Zsl (x:=S.flatten) (y:=C.flatten) (by unfold Fits;omega) Tryz.prog
     rw[hP] at q0
     clear hj hs1 hP hB34 hcl1 hsh1
     generalize w4=wq at *
     go_wp2
     have HC:Hid ([]=rmC 0 r):=(by unfold rmC;rfl)
     go_loopw [14,15] (fun gv kv wz=>∃ k:Nat,k≤r.length∧k≤100∧gv=.string ⟨(rmC k r).toArray⟩∧kv=.int .i64 (k:Int)∧Below wq.heap.size wq wz) (fun _ kv _=>100-(intOf kv).toNat)
     case atStart=>exact⟨0,Nat.zero_le _,Nat.zero_le _,by rw[← HC.out],by go_num,Below.refl _ _⟩
     case round =>
     clear HC
     obtain⟨k,hk1,hk2,rfl,rfl,hBz⟩:=hrel
     have y0:=(World.cell?_of_block ((hB2.trans ((hB4.trans (hBz.mono hB4.size)).mono hB2.size)).block rb hrb)).trans x1
     have g1:(0:Int)≤(i:Int):=by omega
     have g2:(i:Int)<(rs.length:Int):=by omega
     by_cases e1:k<r.length
     ·have d3:decide ((k:Int)<(r.length:Int))=true:=decide_eq_true (by omega)
      by_cases e2:k<100
      ·have d4:decide ((k:Int)<100)=true:=decide_eq_true (by omega)
       have f1:(0:Int)≤(k:Int):=by omega
       have f2:(k:Int)<(r.length:Int):=by omega
       have f3:(0:Int)≤(k:Int)+1:=by omega
       have f4:(k:Int)+1≤(r.length:Int):=by omega
       have f5:(k:Int)≤(k:Int)+1:=by omega
       have hst:=ZsI e1
       have hcl:=ZsH k r
       have hft:∀ c:UInt8,Fits (rmC k r) [c]:=fun c=>Zsu (rmC k r) c (Nat.le_trans hcl hk2)
       have q1f:=fun c:UInt8=>Zsl (hft c) Tryz.prog
       clear hft
       have hex:(r.drop k).take 1=[r[k]]:=(by rw[List.drop_eq_getElem_cons e1];rfl)
       obtain⟨ch,hch⟩:∃ ch,r[k]=ch:=⟨_,rfl⟩
       have HCH:Hid (r[k]=ch):=hch
       rw[hch] at hst hex
       by_cases h10:ch=10
       ·have j1:((ch.toNat:Int) != 10)=false:=(by rw[h10];rfl)
        have HS2:Hid (rmC k r=rmC (k+1) r):=(by show _=_;rw[hst,if_pos h10,List.append_nil])
        clear hst h10 HCH hex q1f
        go_wp2
        exact⟨⟨k+1,by omega,by omega,by rw[HS2.out],by go_num,hBz⟩,by simp[intOf];omega⟩
       ·have j1:((ch.toNat:Int) != 10)=true:=(by
         rw[bne_iff_ne]
         intro e
         exact h10 (UInt8.toNat_inj.1 (by show _=10;omega)))
        have HS2:Hid (rmC k r++[ch]=rmC (k+1) r):=(by show _=_;rw[hst,if_neg h10])
        have q1:=q1f ch
        clear hst h10 HCH q1f
        go_wp2
        exact⟨⟨k+1,by omega,by omega,by rw[← HS2.out],by go_num,hBz⟩,by simp[intOf];omega⟩
      ·have d4:decide ((k:Int)<100)=false:=decide_eq_false (by omega)
       have HRE:Hid (rmC k r=rmC 100 r):=ZsG (.inr (by omega)) hk2
       have hcl:=ZsH k r
       have q1:=Zsl (x:=P) (y:=[35,32]) (by unfold Fits;simp only[List.length_cons,List.length_nil];omega) Tryz.prog
       have hcl2:=Nat.le_trans hcl hk2
       have q2:=Zsl (Zsx P (rmC k r) hPl hcl2) Tryz.prog
       have q3:=Zsl (Zsw P (rmC k r) hPl hcl2) Tryz.prog
       have q4:=Zsl (Zsv P (rmC k r) hPl hcl2) Tryz.prog
       have HEQ:Hid (P++35::32::(rmC k r++[10])=(S++cut L n ((n:Int)-n)++[rmL r]).flatten):=(by
        show _=_
        rw[HRE.out,← HP.out,← HCe.out]
        simp only[List.flatten_append,List.flatten_cons,List.flatten_nil,rmL,List.append_assoc,List.append_nil,List.cons_append,List.nil_append])
       have HI2:Hid (RmI L (i+1) n (S++cut L n ((n:Int)-n)++[rmL r])):=HJ.out.step HF.out hnm hml r
       clear HRE
       go_wp2
       refine⟨⟨S++cut L n ((n:Int)-n)++[rmL r],n,i+1,by omega,by rw[← HEQ.out],by go_num,by go_num,hB4.trans (hBz.mono hB4.size),HI2⟩,by simp[intOf];omega⟩
     ·have d3:decide ((k:Int)<(r.length:Int))=false:=decide_eq_false (by omega)
      have HRE:Hid (rmC k r=rmC 100 r):=ZsG (.inl (by omega)) hk2
      have hcl:=ZsH k r
      have q1:=Zsl (x:=P) (y:=[35,32]) (by unfold Fits;simp only[List.length_cons,List.length_nil];omega) Tryz.prog
      have hcl2:=Nat.le_trans hcl hk2
      have q2:=Zsl (Zsx P (rmC k r) hPl hcl2) Tryz.prog
      have q3:=Zsl (Zsw P (rmC k r) hPl hcl2) Tryz.prog
      have q4:=Zsl (Zsv P (rmC k r) hPl hcl2) Tryz.prog
      have HEQ:Hid (P++35::32::(rmC k r++[10])=(S++cut L n ((n:Int)-n)++[rmL r]).flatten):=(by
       show _=_
       rw[HRE.out,← HP.out,← HCe.out]
       simp only[List.flatten_append,List.flatten_cons,List.flatten_nil,rmL,List.append_assoc,List.append_nil,List.cons_append,List.nil_append])
      have HI2:Hid (RmI L (i+1) n (S++cut L n ((n:Int)-n)++[rmL r])):=HJ.out.step HF.out hnm hml r
      clear HRE
      go_wp2
      refine⟨⟨S++cut L n ((n:Int)-n)++[rmL r],n,i+1,by omega,by rw[← HEQ.out],by go_num,by go_num,hB4.trans (hBz.mono hB4.size),HI2⟩,by simp[intOf];omega⟩
   ·have hend:¬ (i:Int)<(rs.length:Int):=by omega
    obtain⟨so,sc,hsl,hsh⟩:=ZsO L _ _ (n:Int) (by omega) (by omega) wr hLr
    have hsh1:=hsh wr hLr
    have hs1:=hsl wr
    obtain⟨g1,g2,g3,g4⟩:=ZsM HL.out HF.out HJ.out (by omega) (by omega)
    have hcz:=Zsp L hnl
    obtain⟨C,hC⟩:∃ C,cut L n ((L.length:Int)-n)=C:=⟨_,rfl⟩
    have hCl:C.length≤1099511627776:=(by rw[← hC];unfold cut;simp only[List.length_take,List.length_drop];omega)
    rw[hC] at hsh1 hs1 g1 g2 g3 g4 hcz
    clear hsl hsh hC
    have hj:=Zfp _ _ wr hCl (by omega) hsh1
    obtain⟨U,hU⟩:∃ U,S.flatten++C.flatten=U:=⟨_,rfl⟩
    rw[List.flatten_append,hU] at g1 g2 g3 g4
    obtain⟨X,hX⟩:∃ X,psT atC t=X:=⟨_,rfl⟩
    obtain⟨Y,hY⟩:∃ Y,psT atC U=Y:=⟨_,rfl⟩
    rw[hX,hY] at g2 g3 g4
    have q0:=Zsl (x:=S.flatten) (y:=C.flatten) (by unfold Fits;omega) Tryz.prog
    rw[hU] at q0
    have hp1:∀ u:World,ErrT u→Mxl u→Calls Tryz.prog 8 #[.string ⟨t.toArray⟩] u fun e w'=>PuQ8 u X e w':=fun u h1 h2=>(ZoQ t u (by omega) h1 h2 X hX).mono fun _ _ h=>Zpd h
    have hp2:∀ u:World,ErrT u→Mxl u→Calls Tryz.prog 8 #[.string ⟨U.toArray⟩] u fun e w'=>PuQ8 u Y e w':=fun u h1 h2=>(ZoQ U u (by omega) h1 h2 Y hY).mono fun _ _ h=>Zpd h
    have HFx:Hid (∀ F:List Pfd,F.map (·.x)=ok8 X→(∀ f∈F,f.hs.map (·.1)=f.x.hs)→F.length≤64∧∀ f∈F,HOw f.hs):=(by intro F h1 h2;exact Zpj (by omega) hX h1 h2)
    unfold PuQ8 at hp1 hp2
    obtain⟨l,hl1⟩:∃ l,ok8 X=l:=⟨_,rfl⟩
    obtain⟨fm,hfm⟩:∃ a,fm8 X=a:=⟨_,rfl⟩
    obtain⟨fz,hfz⟩:∃ z,(fa8 X).2=z:=⟨_,rfl⟩
    obtain⟨fa,hfa⟩:∃ z,(fa8 X).1=z:=⟨_,rfl⟩
    obtain⟨fb,hfb⟩:∃ z,(fa8 Y).1=z:=⟨_,rfl⟩
    rw[hl1] at g2 HFx
    rw[hfm] at g3
    rw[hfz] at g4
    rw[hl1,hfm,hfz,hfa] at hp1
    rw[← g2,← g3,← g4,hfb] at hp2
    clear g2 g3 g4 hX hY hl1 hfm hfz hfa hfb hU hcz g1 hsz hLt
    go_wp2_with fail
    refine hj.mono ?_
    rintro e w4 ⟨rfl,hB34⟩
    have hB4:=hB2.trans ((hB.trans (hB34.mono hB.size)).mono hB2.size)
    have hE4:=HE.out.low hB4 (Nat.le_refl _)
    have hM4:=HM.out.low hB4
    have hp1a:=hp1 w4 hE4 hM4
    clear hj hs1 hB34 hsh1 hp1
    go_wp2_with fail
    refine hp1a.mono ?_
    rintro e w5 ⟨o1,c1',F1,ev1,rfl,hP1,hm1,hsn1⟩
    have hE5:=hE4.low hP1.low (Nat.le_refl _)
    have hM5:=hM4.low hP1.low
    have hp2a:=hp2 w5 hE5 hM5
    clear hp1a hp2
    have HS1:Hid (∀ u:World,Below w5.heap.size w5 u→ErrT u→Calls Tryz.prog 10 #[ev1] u fun e u'=>e=.returned (.agg #[.int .i64 fa,.int .i64 fz])∧Below u.heap.size u u'):=hsn1
    clear hsn1
    go_wp2_with fail
    refine hp2a.mono ?_
    rintro e w6 ⟨o2,c2',F2,ev2,rfl,hP2,hm2,hsn2⟩
    have HS2:Hid (∀ u:World,Below w6.heap.size w6 u→ErrT u→Calls Tryz.prog 10 #[ev2] u fun e u'=>e=.returned (.agg #[.int .i64 fb,.int .i64 fz])∧Below u.heap.size u u'):=hsn2
    have hE6:=hE5.low hP2.low (Nat.le_refl _)
    have hh1:=hP1.holds.keep hP2.low
    have hh2:=hP2.holds
    obtain⟨hpl,hfx⟩:=HFx.out F1 hm1 (fun f hf=>(hh1.ins f hf).1)
    have hsa:=Zqg F1 F2 _ _ w6 hh1 hh2 (hm1.trans hm2.symm) hfx (by omega)
    have hB6:=hB4.trans ((hP1.low.trans (hP2.low.mono hP1.low.size)).mono hB4.size)
    have hB56:=hP2.low
    clear hsn2 hp2a hP1 hP2 hm1 hm2 hfx HFx hh1 hh2
    go_wp2_with fail
    refine hsa.mono ?_
    rintro e w7 ⟨rfl,hB67⟩
    have hs7:=HS1.out w7 (hB56.trans (hB67.mono hB56.size)) (hE6.low hB67 (Nat.le_refl _))
    clear hsa
    go_wp2_with fail
    refine hs7.mono ?_
    rintro e w8 ⟨rfl,hB78⟩
    have hB68:=hB67.trans (hB78.mono hB67.size)
    have hs8:=HS2.out w8 hB68 (hE6.low hB68 (Nat.le_refl _))
    clear hs7
    have hfd1:=Zsy fa fz w8
    go_wp2_with fail
    refine hs8.mono ?_
    rintro e w9 ⟨rfl,hB89⟩
    have hB9:=hB6.trans ((hB68.trans (hB89.mono hB68.size)).mono hB6.size)
    clear hs8
    have hfd2:=Zsy fb fz w9
    go_wp2
    go_ret
    exact⟨rfl,hB9⟩
end

section
theorem Zgz {W:World} (h:W.ShapedOpen Tryz.prog):Mxl W:=Go.Proofs.cell_of_shapedOpen_int (zero:=#[.int .i64 0]) (t:=3) h (of_decide_eq_true (by kernel_rfl)) (by kernel_rfl) rfl (by kernel_rfl) (by kernel_rfl) Tryz.underlying3
end

end Go.Proofs.YtcniomgjikienaaGreatDoor
