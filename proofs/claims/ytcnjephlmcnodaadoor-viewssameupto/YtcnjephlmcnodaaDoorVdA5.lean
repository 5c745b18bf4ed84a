/-
  Texts that belong together, joined: VcH, VcI, ViY, ViZ.
-/
import Derived.Test.YtcnjephlmcnodaaDoorVdA4
import Derived.Laws.EntriesVeiled

set_option maxHeartbeats 16000000
set_option maxRecDepth 100000
namespace Go.Proofs.YtcnjephlmcnodaaDoor

section
open Go.RowKit Go.Proofs.YtcnjephlmcnodaaDoor.Tx
attribute [local go_sem] ZcE
theorem Zbx {α:Type} (f:α→List (List UInt8)) (l:List α):(l.flatMap f).flatten=(l.map fun x=>(f x).flatten).flatten:=by
 induction l with
 | nil=>rfl
 | cons a l ih=>rw[List.flatMap_cons,List.flatten_append,ih,List.map_cons,List.flatten_cons]
theorem ZdM (nm:List UInt8) (l:List Ch) (A B:List (List UInt8)):thR (fun x _=>(wlL x).flatten) (fun x y=>(ifC nm x y).flatten) A B 0 0 l=(ifL nm l A B).flatten:=by
 unfold thR ifL
 rw[Zbx]
 congr 2
 funext x
 simp[ifP]
theorem ZaH {s:List UInt8} (h:cnB s=true):s.length≤64:=by
 cases s with
 | nil=>simp
 | cons c t =>
  have h:(decide ((c::t).length≤64) && ltB c && t.all fun x=>ltB x || dgB x)=true:=h
  simp only[Bool.and_eq_true,decide_eq_true_eq] at h
  exact h.1.1
theorem Zei (l:List Ch) (A B:List (List UInt8)) (nm:List UInt8) (v va vb:Value) (w:World) (hl:HCh w v l) (ha:HS w va A) (hb:HS w vb B) (hll:l.length≤1099511627776) (hla:A.length≤1048576) (hlb:B.length≤1048576)
  (hta:∀ s∈A,s.length≤1099511627776) (htb:∀ s∈B,s.length≤1099511627776)
  (r:Int) (HR:Hid (ifE l A.length B.length nm=r)) (T:List UInt8) (HT:Hid ((if r=0 then (ifL nm l A B).flatten else [])=T)) (hT:T.length≤70368744177664) :
  Calls Tryd.prog 13 #[v,va,vb,.string ⟨nm.toArray⟩] w fun e w'=>e=.returned (.tuple #[.string ⟨T.toArray⟩,.int .i64 r])∧Below w.heap.size w w':=by
 obtain⟨ao,ca,rfl⟩:=Holds.form hl
 obtain⟨aa,caa,rfl⟩:=Holds.form ha
 obtain⟨ab,cab,rfl⟩:=Holds.form hb
 obtain⟨q,hq⟩:∃ q,chk l A.length B.length=q:=⟨_,rfl⟩
 have hck:=Zaa l A.length B.length q (.slice ao l.length ca) w hl (by omega) (by omega) (by omega) hq
 have hR:=HR.out
 unfold ifE at hR
 rw[hq] at hR
 have hTT:=HT.out
 clear HR HT
 by_cases hq0:q=0
 ·subst hq0
  rw[if_neg (by simp)] at hR
  have hS:Script l A.length B.length:=(by
   by_cases h:Script l A.length B.length
   ·exact h
   ·have:=Zav h
    rw[hq] at this
    cases this)
  clear hq
  obtain⟨bb,hbb⟩:∃ b,cnB nm=b:=⟨_,rfl⟩
  have hnm:=fun u=>Zeo nm u bb hbb
  rw[hbb] at hR
  cases bb with
  | false =>
   rw[if_neg (by decide)] at hR
   subst hR
   rw[if_neg (by decide)] at hTT
   subst hTT
   clear hbb
   go_enter Tryd.func13,Tryd.ntmps13
   go_wp2_with fail
   refine hck.mono ?_
   rintro e w1 ⟨rfl,hb1⟩
   clear hck
   go_wp2_with fail
   refine (hnm _).mono ?_
   rintro e w2 ⟨rfl,rfl⟩
   clear hnm
   go_wp2
   go_ret2
   exact⟨rfl,hb1⟩
  | true =>
   rw[if_pos rfl] at hR
   subst hR
   rw[if_pos rfl,← ZdM] at hTT
   have hn64:=ZaH hbb
   have HNO:Hid (∀ c∈nm,c≠10):=ZaI hbb
   have HT0:Hid ([]++thR (fun x _=>(wlL x).flatten) (fun x y=>(ifC nm x y).flatten) A B 0 0 l=T):=hTT
   have HTA:Hid (∀ s∈A,s.length≤1099511627776):=hta
   have HTB:Hid (∀ s∈B,s.length≤1099511627776):=htb
   have HSC:Hid (Script l A.length B.length):=hS
   clear hTT hta htb hS hbb
   go_enter Tryd.func13,Tryd.ntmps13
   go_wp2_with fail
   refine hck.mono ?_
   rintro e w1 ⟨rfl,hb1⟩
   clear hck
   go_wp2_with fail
   refine (hnm _).mono ?_
   rintro e w2 ⟨rfl,rfl⟩
   clear hnm
   have hP:=Vsd.at0 w hb1
   have hP:=hP.more (.cells #[.func (.func 39) #[] #[.pointer (some ⟨w2.heap.size,0,none⟩)]] 80)
   rw[show (w2.alloc (.cells #[.pointer none,.slice none 0 0] 48)).heap.size=w2.heap.size+1 by simp] at hP
   go_wp2_with fail
   refine (Zeb nm _ (by omega)).mono ?_
   rintro e w3 ⟨rfl,hb3⟩
   have hP:=hP.keep hb3
   have hP:=hP.more (.cells (cmC nm) 68)
   clear hb3
   have hP:Vsd w w2.heap.size (ifRS w2.heap.size (w2.heap.size+1) w3.heap.size nm) [] (w3.alloc (.cells (cmC nm) 68)):=hP
   unfold cmC at hP ⊢
   have hth:=fun u hu=>ZdR l A B (.slice ao l.length ca) (.slice aa A.length caa) (.slice ab B.length cab) w w2.heap.size (ifRS w2.heap.size (w2.heap.size+1) w3.heap.size nm) 40 41 #[.pointer (some ⟨w2.heap.size+1,0,none⟩)] #[.pointer (some ⟨w2.heap.size+1,0,none⟩),.pointer (some ⟨w3.heap.size,0,none⟩)]
    (enters_of Tryd.func40 (by kernel_rfl) rfl) (enters_of Tryd.func41 (by kernel_rfl) rfl) (fun x _=>(wlL x).flatten) (fun x y=>(ifC nm x y).flatten) (by simp[ifC])
    (Zej w w2.heap.size (w2.heap.size+1) w3.heap.size nm A B (by omega) HTA) (ZdY w w2.heap.size (w2.heap.size+1) w3.heap.size nm HNO.out (by omega) A B (by omega) (by omega) HTA HTB) u [] T hu hl ha hb HSC.out (by omega) (by omega) (by omega) HT0 hT
   go_wp2_with fail
   refine (hth _ hP).mono ?_
   rintro e w4 ⟨rfl,hP⟩
   clear hth
   go_wp2_with fail
   refine hP.text.mono ?_
   rintro e w5 ⟨rfl,hb5⟩
   go_wp2
   go_ret2
   exact⟨rfl,hb5⟩
 ·rw[if_pos hq0] at hR
  subst hR
  rw[if_neg hq0] at hTT
  subst hTT
  have hqb:(q != 0)=true:=bne_iff_ne.2 hq0
  go_enter Tryd.func13,Tryd.ntmps13
  go_wp2_with fail
  refine hck.mono ?_
  rintro e w1 ⟨rfl,hb1⟩
  clear hck
  go_wp2
  go_ret2
  exact⟨rfl,hb1⟩
end

section
open Go.RowKit Go.Proofs.YtcnjephlmcnodaaDoor.Tx
attribute [local go_sem] ZcE
theorem ZdO (n:Nat) (l:List Ch) (A B:List (List UInt8)):thR (fun x y=>(krT n x y).flatten) (fun x y=>(crT n x y).flatten) A B 0 0 l=(vsL n l A B).flatten:=by
 unfold thR vsL
 rw[Zbx]
 congr 2
 funext x
 simp[vsP]
theorem Zet (l:List Ch) (A B:List (List UInt8)) (wd:Int) (v va vb:Value) (w:World) (hl:HCh w v l) (ha:HS w va A) (hb:HS w vb B) (hll:l.length≤1048576) (hla:A.length≤1048576) (hlb:B.length≤1048576)
  (hta:∀ s∈A,s.length≤1099511627776) (htb:∀ s∈B,s.length≤1099511627776)
  (r:Int) (HR:Hid (vsE l A.length B.length wd=r)) (T:List UInt8) (HT:Hid ((if r=0 then (vsL wd.toNat l A B).flatten else [])=T)) :
  Calls Tryd.prog 6 #[v,va,vb,.int .i64 wd] w fun e w'=>e=.returned (.tuple #[.string ⟨T.toArray⟩,.int .i64 r])∧Below w.heap.size w w':=by
 obtain⟨ao,ca,rfl⟩:=Holds.form hl
 obtain⟨aa,caa,rfl⟩:=Holds.form ha
 obtain⟨ab,cab,rfl⟩:=Holds.form hb
 obtain⟨q,hq⟩:∃ q,chk l A.length B.length=q:=⟨_,rfl⟩
 have hB0:Below w.heap.size w (w.alloc (.cells #[.int .i64 wd] 3)):=(Below.refl _ w).alloc (Nat.le_refl _) _
 have hN0:=heap_alloc_new w (.cells #[.int .i64 wd] 3)
 have hck:=Zaa l A.length B.length q (.slice ao l.length ca) _ (hl.keep hB0 (Nat.le_refl _)) (by omega) (by omega) (by omega) hq
 have hR:=HR.out
 unfold vsE at hR
 rw[hq] at hR
 have hTT:=HT.out
 clear HR HT
 by_cases hq0:q=0
 ·subst hq0
  rw[if_neg (by simp)] at hR
  have hS:Script l A.length B.length:=(by
   by_cases h:Script l A.length B.length
   ·exact h
   ·have:=Zav h
    rw[hq] at this
    cases this)
  clear hq
  by_cases hw:1≤wd∧wd≤200
  ·rw[if_pos hw] at hR
   subst hR
   rw[if_pos rfl] at hTT
   obtain⟨n,rfl⟩:∃ n:Nat,wd=(n:Int):=⟨wd.toNat,by omega⟩
   rw[Int.toNat_natCast] at hTT
   have hn2:n≤200:=by omega
   have hTl:T.length≤70368744177664:=(by
    have h:=ZeX (w:=n) hS
    have h2:(A.length+B.length) * (2 * n+4)≤2097152 * 404:=Nat.mul_le_mul (by omega) (by omega)
    rw[← hTT]
    omega)
   rw[← ZdO] at hTT
   have HT0:Hid ([]++thR (fun x y=>(krT n x y).flatten) (fun x y=>(crT n x y).flatten) A B 0 0 l=T):=hTT
   have HTA:Hid (∀ s∈A,s.length≤1099511627776):=hta
   have HTB:Hid (∀ s∈B,s.length≤1099511627776):=htb
   have HSC:Hid (Script l A.length B.length):=hS
   have i1:¬ (n:Int)<1:=by omega
   have i2:¬ (200:Int)<(n:Int):=by omega
   clear hTT hta htb hS hw
   go_enter Tryd.func6,Tryd.ntmps6
   go_wp2_with fail
   refine hck.mono ?_
   rintro e w1 ⟨rfl,hb1⟩
   clear hck
   have hN1:w1.heap[w.heap.size]?=some (.cells #[.int .i64 (n:Int)] 3):=(hb1.block _ (by simp)).trans hN0
   have c0:w1.cell? ⟨w.heap.size,0,none⟩=some (.int .i64 (n:Int)):=by rw[Lib.cell_of_heap hN1];rfl
   have hBw:=hB0.trans (hb1.mono hB0.size)
   have hP:=Vsd.at1 w hBw hN1
   have hP:=hP.more (.cells #[.func (.func 16) #[] #[.pointer (some ⟨w.heap.size,0,none⟩),.pointer (some ⟨w1.heap.size,0,none⟩)]] 53)
   rw[show (w1.alloc (.cells #[.pointer none,.slice none 0 0] 48)).heap.size=w1.heap.size+1 by simp] at hP
   have hP:Vsd w w1.heap.size (sdRS w1.heap.size w.heap.size (w1.heap.size+1) n) [] _:=hP
   have hth:=fun u hu=>ZdR l A B (.slice ao l.length ca) (.slice aa A.length caa) (.slice ab B.length cab) w w1.heap.size (sdRS w1.heap.size w.heap.size (w1.heap.size+1) n) 21 22 #[.pointer (some ⟨w1.heap.size+1,0,none⟩)] #[.pointer (some ⟨w1.heap.size+1,0,none⟩)]
    (enters_of Tryd.func21 (by kernel_rfl) rfl) (enters_of Tryd.func22 (by kernel_rfl) rfl) (fun x y=>(krT n x y).flatten) (fun x y=>(crT n x y).flatten) (by simp[crT])
    (Zek w w1.heap.size w.heap.size (w1.heap.size+1) n hn2 A B (by omega) (by omega) HTA HTB) (ZdZ w w1.heap.size w.heap.size (w1.heap.size+1) n hn2 A B (by omega) (by omega) HTA HTB) u [] T hu hl ha hb HSC.out (by omega) (by omega) (by omega) HT0 hTl
   clear hN0 hN1 hB0 hb1 hBw
   go_wp2_with fail
   refine (hth _ hP).mono ?_
   rintro e w4 ⟨rfl,hP⟩
   clear hth
   go_wp2_with fail
   refine hP.text.mono ?_
   rintro e w5 ⟨rfl,hb5⟩
   go_wp2
   go_ret2
   exact⟨rfl,hb5⟩
  ·rw[if_neg hw] at hR
   subst hR
   rw[if_neg (by decide)] at hTT
   subst hTT
   by_cases i1:wd<1
   ·clear hw
    go_enter Tryd.func6,Tryd.ntmps6
    go_wp2_with fail
    refine hck.mono ?_
    rintro e w1 ⟨rfl,hb1⟩
    have hN1:w1.heap[w.heap.size]?=some (.cells #[.int .i64 wd] 3):=(hb1.block _ (by simp)).trans hN0
    have c0:w1.cell? ⟨w.heap.size,0,none⟩=some (.int .i64 wd):=by rw[Lib.cell_of_heap hN1];rfl
    have hBw:=hB0.trans (hb1.mono hB0.size)
    clear hck hN0 hN1 hB0 hb1
    go_wp2
    go_ret2
    exact⟨rfl,hBw⟩
   ·have i2:(200:Int)<wd:=by omega
    clear hw
    go_enter Tryd.func6,Tryd.ntmps6
    go_wp2_with fail
    refine hck.mono ?_
    rintro e w1 ⟨rfl,hb1⟩
    have hN1:w1.heap[w.heap.size]?=some (.cells #[.int .i64 wd] 3):=(hb1.block _ (by simp)).trans hN0
    have c0:w1.cell? ⟨w.heap.size,0,none⟩=some (.int .i64 wd):=by rw[Lib.cell_of_heap hN1];rfl
    have hBw:=hB0.trans (hb1.mono hB0.size)
    clear hck hN0 hN1 hB0 hb1
    go_wp2
    go_ret2
    exact⟨rfl,hBw⟩
 ·rw[if_pos hq0] at hR
  subst hR
  rw[if_neg hq0] at hTT
  subst hTT
  have hqb:(q != 0)=true:=bne_iff_ne.2 hq0
  go_enter Tryd.func6,Tryd.ntmps6
  go_wp2_with fail
  refine hck.mono ?_
  rintro e w1 ⟨rfl,hb1⟩
  have hBw:=hB0.trans (hb1.mono hB0.size)
  clear hck
  go_wp2
  go_ret2
  exact⟨rfl,hBw⟩
end

section
open Go.RowKit Go.Proofs.YtcnjephlmcnodaaDoor.Tx
attribute [local go_sem] ZcE
attribute [local simp] Zcu ZdU
theorem ZcW (l:List Ch) (A B:List (List UInt8)) (wd:Int) (v va vb:Value) (w:World) (hl:HCh w v l) (ha:HS w va A) (hb:HS w vb B) (hll:l.length≤1048576) (hla:A.length≤1048576) (hlb:B.length≤1048576)
  (hta:∀ s∈A,s.length≤1099511627776) (htb:∀ s∈B,s.length≤1099511627776) (hwd:-9223372036854775808≤wd∧wd≤9223372036854775807)
  (r:Int) (HR:Hid (vsE l A.length B.length wd=r)) (T:List UInt8) (HT:Hid ((if r=0 then (vsL wd.toNat l A B).flatten else [])=T)) (hT:T.length≤1152921504606846976) :
  Calls Tryd.prog 7 #[v,va,vb,.int .i64 wd] w fun e w'=>e=.returned (.tuple #[.string ⟨T.toArray⟩,.int .i64 r])∧Below w.heap.size w w':=by
 obtain⟨ao,ca,rfl⟩:=Holds.form hl
 obtain⟨aa,caa,rfl⟩:=Holds.form ha
 obtain⟨ab,cab,rfl⟩:=Holds.form hb
 have hR:=HR.out
 unfold vsE at hR
 have hTT:=HT.out
 clear HR HT
 by_cases hS:Script l A.length B.length
 ·rw[Zaw hS,if_neg (by simp)] at hR
  have hkp:=ZcT l A.length B.length (.slice ao l.length ca) w hl hS (by omega) (by omega) (by omega)
  have HS0:Hid (Right true 0 0 A.length B.length l):=hS.2.2
  have hKL:Hid (kr 0 0 A.length B.length l=keepL l A.length B.length):=rfl
  obtain⟨KL,hK⟩:∃ KL,keepL l A.length B.length=KL:=⟨_,rfl⟩
  have HK0:Hid (KL.drop 0=kr 0 0 A.length B.length l):=(by show _=_;rw[← hK,List.drop_zero];exact hKL.out.symm)
  have hKn:KL.length=A.length:=(by rw[← hK];exact ZbU hS)
  rw[hK] at hkp
  clear hS hK hKL
  by_cases hw1:wd<1
  ·rw[if_neg (by omega)] at hR
   subst hR
   rw[if_neg (by decide)] at hTT
   subst hTT
   go_enter Tryd.func7,Tryd.ntmps7
   go_wp2_with fail
   refine hkp.mono ?_
   rintro e w1 ⟨kv,rfl,hKv,hb1⟩
   clear hkp
   go_wp2
   go_ret2
   exact⟨rfl,hb1⟩
  ·by_cases hw2:200<wd
   ·rw[if_neg (by omega)] at hR
    subst hR
    rw[if_neg (by decide)] at hTT
    subst hTT
    go_enter Tryd.func7,Tryd.ntmps7
    go_wp2_with fail
    refine hkp.mono ?_
    rintro e w1 ⟨kv,rfl,hKv,hb1⟩
    clear hkp
    go_wp2
    go_ret2
    exact⟨rfl,hb1⟩
   ·rw[if_pos (by omega)] at hR
    subst hR
    rw[if_pos rfl] at hTT
    obtain⟨W,rfl⟩:∃ W:Nat,wd=(W:Int):=⟨wd.toNat,by omega⟩
    rw[show ((W:Int)).toNat=W by omega] at hTT
    have HT0:Hid (([]:List UInt8)++(vsR W A B 0 0 (l.drop 0)).flatten=T):=hTT
    have HTA:Hid (∀ s∈A,s.length≤1099511627776):=hta
    have HTB:Hid (∀ s∈B,s.length≤1099511627776):=htb
    have hW:W≤200:=by omega
    have HROW:Hid (∀ (x y:List UInt8) (g:UInt8) (u:World) (R:List UInt8),x.length≤1099511627776→y.length≤1099511627776→Hid (rowT W x g y=R)→Calls Tryd.prog 26 #[.string ⟨x.toArray⟩,.string ⟨#[g]⟩,.string ⟨y.toArray⟩,.int .i64 (W:Int)] u fun e w'=>e=.returned (.string ⟨R.toArray⟩)∧Below u.heap.size u w'):=fun x y g u R hx hy hR=>ZcU x y g W hW u hx hy R hR
    clear hTT hta htb
    go_enter Tryd.func7,Tryd.ntmps7
    go_wp2_with fail
    refine hkp.mono ?_
    rintro e w1 ⟨kv,rfl,hKv,hb1⟩
    clear hkp
    obtain⟨ko,kc,rfl⟩:=Holds.form hKv
    have hl1:HCh w1 (.slice ao l.length ca) l:=hl.keep hb1 (Nat.le_refl _)
    have ha1:HS w1 (.slice aa A.length caa) A:=ha.keep hb1 (Nat.le_refl _)
    have hb1':HS w1 (.slice ab B.length cab) B:=hb.keep hb1 (Nat.le_refl _)
    have HBW:Hid (Below w.heap.size w w1):=hb1
    clear hl ha hb hb1
    have hL0:Low w1 w1:=Below.refl _ _
    go_wp2
    go_loopw [12,13,14] (fun s av iv wr=>∃ (k a b:Nat) (P:List UInt8),k≤l.length∧s=.string ⟨P.toArray⟩∧av=.int .i64 (a:Int)∧iv=.int .i64 (k:Int)∧a≤A.length∧b≤B.length∧Low w1 wr∧Hid (Right (decide (k=0)) a b A.length B.length (l.drop k))∧Hid (KL.drop a=kr a b A.length B.length (l.drop k))∧Hid (P++(vsR W A B a b (l.drop k)).flatten=T)) (fun _ _ iv _=>l.length-(intOf iv).toNat)
    case atStart=>exact⟨0,0,0,[],Nat.zero_le _,rfl,rfl,rfl,Nat.zero_le _,Nat.zero_le _,hL0,HS0,HK0,HT0⟩
    case round =>
    clear HS0 HT0 HK0 hL0
    obtain⟨k,a,b,P,hk,rfl,rfl,rfl,han,hbm,hLw,HRi,HKi,HI⟩:=hrel
    by_cases hlt:k<l.length
    ·have hR':=HRi.out
     have hI':=HI.out
     have hK':=HKi.out
     rw[List.drop_eq_getElem_cons hlt] at hR' hI' hK'
     obtain⟨c,hcd⟩:∃ c,l[k]=c:=⟨_,rfl⟩
     rw[hcd] at hR' hI' hK'
     have HCD:Hid (l[k]=c):=hcd
     clear HRi HI HKi hcd
     rw[ZeQ] at hI'
     have hnum:=hR'.1.1
     rw[ZcG] at hnum
     have hle:=hR'.2.le
     have hAa:=hR'.1.2.2.1
     have hab:=hR'.1.2.1
     have HRt:Hid (Right (decide (k+1=0)) (c.A+c.AN) (c.B+c.BN) A.length B.length (l.drop (k+1))):=(by
      rw[show decide (k+1=0)=false by simp]
      exact hR'.2)
     clear hR'
     obtain⟨cA,cAN,cB,cBN⟩:=c
     dsimp only at hnum hle hAa hab HRt hI'
     obtain⟨⟨hA0,hA1⟩,⟨hAN0,hAN1⟩,⟨hB0',hB1⟩,⟨hBN0,hBN1⟩,hpos⟩:=hnum
     obtain⟨cA,rfl⟩:=Int.eq_ofNat_of_zero_le hA0
     obtain⟨cAN,rfl⟩:=Int.eq_ofNat_of_zero_le hAN0
     obtain⟨cB,rfl⟩:=Int.eq_ofNat_of_zero_le hB0'
     obtain⟨cBN,rfl⟩:=Int.eq_ofNat_of_zero_le hBN0
     obtain⟨hle1,hle2,_⟩:=hle
     have hacA:a≤cA:=by omega
     have hbcB:b+(cA-a)=cB:=by omega
     have hA2:cA+cAN≤A.length:=by omega
     have hB2:cB+cBN≤B.length:=by omega
     have HKK:Hid (∀ j:Nat,a≤j→j<cA→KL[j]?=some (((b+(j-a):Nat):Int))):=(by
      intro j h1 h2
      have h:=@ZbW (a:Int) (b:Int) (A.length:Int) (B.length:Int) ⟨cA,cAN,cB,cBN⟩ (l.drop (k+1)) (j-a) (by dsimp only;omega)
      rw[← hK',List.getElem?_drop,show a+(j-a)=j by omega] at h
      rw[h]
      exact congrArg some (by omega))
     have HKt:Hid (KL.drop (cA+cAN)=kr ((cA+cAN:Nat):Int) ((cB+cBN:Nat):Int) A.length B.length (l.drop (k+1))):=(by
      have h:=@Zcf (a:Int) (b:Int) (A.length:Int) (B.length:Int) ⟨cA,cAN,cB,cBN⟩ (l.drop (k+1)) (cA-a+cAN) (by dsimp only;omega) (by dsimp only;omega) (by dsimp only;omega)
      rw[← hK',List.drop_drop,show a+(cA-a+cAN)=cA+cAN by omega] at h
      dsimp only at h
      show _=_
      rw[h]
      rfl)
     clear hK'
     rw[show ((cA:Int)-(a:Int))=((cA-a:Nat):Int) by omega,List.flatten_append,List.flatten_append] at hI'
     obtain⟨K,hKK⟩:∃ K,(krT W (cut A (a:Int) ((cA-a:Nat):Int)) (cut B (b:Int) ((cA-a:Nat):Int))).flatten=K:=⟨_,rfl⟩
     obtain⟨R,hRR⟩:∃ R,crT W (cut A (cA:Int) (cAN:Int)) (cut B (cB:Int) (cBN:Int))=R:=⟨_,rfl⟩
     rw[hKK,hRR] at hI'
     have lT:=congrArg List.length hI'
     simp only[List.length_append] at lT
     have HI2:Hid (P++(K++(R.flatten++(vsR W A B ((cA:Int)+cAN) ((cB:Int)+cBN) (l.drop (k+1))).flatten))=T):=hI'
     have HKK2:Hid (∀ j,j≤cA-a→(krT W (cut A (a:Int) (j:Int)) (cut B (b:Int) (j:Int))).flatten.length≤K.length):=(by
      intro j hj
      rw[← hKK]
      exact Zce hj (by omega) (by omega))
     have HKeq:Hid ((krT W (cut A (a:Int) ((cA-a:Nat):Int)) (cut B (b:Int) ((cA-a:Nat):Int))).flatten=K):=hKK
     have HReq:Hid (crT W (cut A (cA:Int) (cAN:Int)) (cut B (cB:Int) (cBN:Int))=R):=hRR
     have hRn:R.length=max cAN cBN:=(by rw[← hRR,ZaO,Zbb (by omega),Zbb (by omega)])
     clear hI' hKK hRR
     have i1:0≤(k:Int):=by omega
     have i2:(k:Int)<(l.length:Int):=by omega
     obtain⟨bk,off,rfl,hbk,_⟩:=HCh.at hl1 (by omega)
     have HLC:Hid (∀ u,Low w1 u→u.cell? ⟨bk,off+k * 4,none⟩=some (.int .i64 (cA:Int))∧u.cell? ⟨bk,off+k * 4+1,none⟩=some (.int .i64 (cAN:Int))∧u.cell? ⟨bk,off+k * 4+2,none⟩=some (.int .i64 (cB:Int))∧u.cell? ⟨bk,off+k * 4+3,none⟩=some (.int .i64 (cBN:Int))):=(fun u hu=>Low.ch hu hl1 k hlt HCD.out)
     go_wp2
     go_loopw [12,13] (fun s av wr=>∃ i:Nat,a≤i∧i≤cA∧s=.string ⟨(P++(krT W (cut A (a:Int) ((i-a:Nat):Int)) (cut B (b:Int) ((i-a:Nat):Int))).flatten).toArray⟩∧av=.int .i64 (i:Int)∧Low w1 wr) (fun _ av _=>cA-(intOf av).toNat)
     case atStart=>exact⟨a,Nat.le_refl _,hacA,by rw[show ((a-a:Nat):Int)=0 by omega,ZeL];simp[krT],rfl,hLw⟩
     case round =>
     clear hLw
     obtain⟨i,hai,hic,rfl,rfl,hLr⟩:=hrel
     obtain⟨c0,_,_,_⟩:=HLC.out _ hLr
     by_cases hilt:i<cA
     ·have hz:b+(i-a)<B.length:=by omega
      have hiA:i<A.length:=by omega
      obtain⟨bA,oA,rfl,_,hcA⟩:=HS.at (HS.keep ha1 hLr (Nat.le_refl _)) (by omega)
      obtain⟨bB,oB,rfl,_,hcB⟩:=HS.at (HS.keep hb1' hLr (Nat.le_refl _)) (by omega)
      obtain⟨bK,oK,rfl,_,hcK⟩:=HI.at (HI.keep hKv hLr (Nat.le_refl _)) (by omega)
      have dA:=hcA i hiA
      have dB:=hcB (b+(i-a)) hz
      have dK:=hcK i (by omega)
      have hkz:=HKK.out i hai hilt
      rw[List.getElem?_eq_getElem (by omega)] at hkz
      rw[Option.some.inj hkz] at dK
      have HM:=@Zcc W A B a b (i-a) (by omega) hz
      have lx:=HTA.out A[i] (List.getElem_mem hiA)
      have ly:=HTB.out (B[b+(i-a)]) (List.getElem_mem hz)
      have ll:=HKK2.out (i-a+1) (by omega)
      simp only[show a+(i-a)=i by omega] at HM
      obtain⟨x,hx⟩:∃ x,A[i]=x:=⟨_,rfl⟩
      obtain⟨y,hy⟩:∃ y,B[b+(i-a)]=y:=⟨_,rfl⟩
      rw[hx] at dA lx HM
      rw[hy] at dB ly HM
      obtain⟨Z,hZ⟩:∃ Z,rowT W x 32 y=Z:=⟨_,rfl⟩
      have HRw:=fun u=>HROW.out x y 32 u Z lx ly hZ
      rw[HM,List.length_append,hZ] at ll
      obtain⟨S,hS⟩:∃ S,(krT W (cut A (a:Int) ((i-a:Nat):Int)) (cut B (b:Int) ((i-a:Nat):Int))).flatten=S:=⟨_,rfl⟩
      rw[hS] at HM ll ⊢
      obtain⟨S2,hS2⟩:∃ S2,P++S=S2:=⟨_,rfl⟩
      have nS2:=congrArg List.length hS2
      rw[List.length_append] at nS2
      rw[hS2]
      have q1:=Zae (x:=S2) (y:=Z) (by unfold Fits;omega) Tryd.prog
      have HN:Hid (P++(krT W (cut A (a:Int) ((i+1-a:Nat):Int)) (cut B (b:Int) ((i+1-a:Nat):Int))).flatten=S2++Z):=(by
       show _=_
       rw[show i+1-a=i-a+1 by omega,HM,hZ,← hS2,List.append_assoc])
      obtain⟨z,hzz⟩:∃ z,b+(i-a)=z:=⟨_,rfl⟩
      rw[hzz] at hz dB dK
      have j1:(0:Int)≤(i:Int):=by omega
      have j2:(i:Int)<(A.length:Int):=by omega
      have j3:(i:Int)<(KL.length:Int):=by omega
      have j4:(0:Int)≤(z:Int):=by omega
      have j5:(z:Int)<(B.length:Int):=by omega
      have hV:V4 ⟨bA,oA+i,none⟩ ⟨bK,oK+i,none⟩ ⟨bB,oB+z,none⟩ ⟨bA,oA+i,none⟩ (.string ⟨x.toArray⟩) (.int .i64 (z:Int)) (.string ⟨y.toArray⟩) (.string ⟨x.toArray⟩) w1 wr:=⟨dA,dK,dB,dA,hLr⟩
      clear hcA hcB hcK hkz HM ll hx hy hZ hS hS2 hzz HKK2 HKK HROW hLr
      go_wp2_with fail
      go_region_held3 (fun u=>u.cell? ⟨bA,oA+i,none⟩=some (.string ⟨x.toArray⟩)∧u.cell? ⟨bK,oK+i,none⟩=some (.int .i64 (z:Int))∧u.cell? ⟨bB,oB+z,none⟩=some (.string ⟨y.toArray⟩)∧V4 ⟨bA,oA+i,none⟩ ⟨bK,oK+i,none⟩ ⟨bB,oB+z,none⟩ ⟨bA,oA+i,none⟩ (.string ⟨x.toArray⟩) (.int .i64 (z:Int)) (.string ⟨y.toArray⟩) (.string ⟨x.toArray⟩) w1 u) (go_keep)
       (first | (go_at_call 26;refine (ZdV (HRw _) (by first | assumption | (rw[ZdU];assumption))).mono ?_;rintro e w4 ⟨rfl,e0,e1,e2,e3,hV4⟩))
      all_goals have hL4:Low w1 w4:=hV4.low
      all_goals clear e0 e1 e2 e3 hV4
      all_goals go_wp2
      all_goals go_roundw
      case rel=>exact⟨i+1,by omega,by omega,by rw[HN.out],by go_num,hL4⟩
      case measure=>simp[intOf];omega
     ·have hend:¬ (i:Int)<(cA:Int):=by omega
      obtain rfl:i=cA:=by omega
      rw[HKeq.out]
      clear HKK HKK2 HKeq
      obtain⟨Q,hQ⟩:∃ Q,P++K=Q:=⟨_,rfl⟩
      rw[hQ]
      have lQ:=congrArg List.length hQ
      rw[List.length_append] at lQ
      have HI3:Hid (Q++(R.flatten++(vsR W A B ((i:Int)+cAN) ((cB:Int)+cBN) (l.drop (k+1))).flatten)=T):=(by
       show _=_
       rw[← hQ,List.append_assoc]
       exact HI2.out)
      have HRl:Hid (∀ q,(R.take q).flatten.length≤R.flatten.length):=Zby R
      have hmx:max (cAN:Int) (cBN:Int)=(R.length:Int):=by rw[hRn];omega
      clear HI2 hQ
      go_wp2
      go_loopw [12,15] (fun s qv wr=>∃ q:Nat,q≤R.length∧s=.string ⟨(Q++(R.take q).flatten).toArray⟩∧qv=.int .i64 (q:Int)∧Low w1 wr) (fun _ qv _=>R.length-(intOf qv).toNat)
      case atStart=>exact⟨0,Nat.zero_le _,by simp,rfl,hLr⟩
      case round =>
      clear hLr c0
      obtain⟨q,hq,rfl,rfl,hLq⟩:=hrel
      obtain⟨c0,c1,c2,c3⟩:=HLC.out _ hLq
      by_cases hqlt:q<R.length
      ·have lR:=HRl.out q
       have lR2:=HRl.out (q+1)
       obtain⟨S,hS⟩:∃ S,Q++(R.take q).flatten=S:=⟨_,rfl⟩
       have nS:=congrArg List.length hS
       rw[List.length_append] at nS
       rw[hS]
       have k1:(q:Int)<(R.length:Int):=by omega
       go_wp2_with fail
       go_quiet (fail)
       have hLz:Low w1 (wr.drewN nq):=Below.dN hLq nq
       have c0:(wr.drewN nq).cell? ⟨bk,off+k * 4,none⟩=some (.int .i64 (i:Int)):=c0
       have c1:(wr.drewN nq).cell? ⟨bk,off+k * 4+1,none⟩=some (.int .i64 (cAN:Int)):=c1
       have c2:(wr.drewN nq).cell? ⟨bk,off+k * 4+2,none⟩=some (.int .i64 (cB:Int)):=c2
       have c3:(wr.drewN nq).cell? ⟨bk,off+k * 4+3,none⟩=some (.int .i64 (cBN:Int)):=c3
       clear hLq
       generalize wr.drewN nq=W3 at hLz c0 c1 c2 c3 ⊢
       by_cases h1:q<cAN
       ·have b1:¬ (cAN:Int)≤(q:Int):=by omega
        by_cases h2:q<cBN
        ·have b2:¬ (cBN:Int)≤(q:Int):=by omega
         have HM:=ZaN (w:=W) (O:=cut A (i:Int) (cAN:Int)) (F:=cut B (cB:Int) (cBN:Int)) (q:=q) (by rw[Zbb hA2];exact h1) (by rw[Zbb hB2];exact h2)
         rw[HReq.out,Zba hA2 h1,Zba hB2 h2] at HM
         obtain⟨bA,oA,rfl,_,hcA⟩:=HS.at (HS.keep ha1 hLz (Nat.le_refl _)) (by omega)
         obtain⟨bB,oB,rfl,_,hcB⟩:=HS.at (HS.keep hb1' hLz (Nat.le_refl _)) (by omega)
         have dA:=hcA (i+q) (by omega)
         have dB:=hcB (cB+q) (by omega)
         have lx:=HTA.out A[i+q] (List.getElem_mem (by omega))
         have ly:=HTB.out B[cB+q] (List.getElem_mem (by omega))
         obtain⟨x,hx⟩:∃ x,A[i+q]'(by omega)=x:=⟨_,rfl⟩
         rw[hx] at dA lx HM
         obtain⟨p,hp⟩:∃ p,i+q=p:=⟨_,rfl⟩
         rw[hp] at dA
         have hpA:(i:Int)+(q:Int)=(p:Int):=by omega
         have j1:(0:Int)≤(p:Int):=by omega
         have j2:(p:Int)<(A.length:Int):=by omega
         obtain⟨y,hy⟩:∃ y,B[cB+q]'(by omega)=y:=⟨_,rfl⟩
         rw[hy] at dB ly HM
         obtain⟨z,hz⟩:∃ z,cB+q=z:=⟨_,rfl⟩
         rw[hz] at dB
         have hpB:(cB:Int)+(q:Int)=(z:Int):=by omega
         have j3:(0:Int)≤(z:Int):=by omega
         have j4:(z:Int)<(B.length:Int):=by omega
         obtain⟨Z,hZ⟩:∃ Z,rowT W x 124 y=Z:=⟨_,rfl⟩
         have HRw:=fun u=>HROW.out x y 124 u Z lx ly hZ
         rw[hZ] at HM
         rw[HM,List.length_append] at lR2
         have q1:=Zae (x:=S) (y:=Z) (by unfold Fits;omega) Tryd.prog
         have HN:Hid (Q++(R.take (q+1)).flatten=S++Z):=(by
          show _=_
          rw[HM,← hS,List.append_assoc])
         have wA:IntKind.i64.wrap (p:Int)=(p:Int):=wrap_small _ (by omega) (by omega)
         have wB:IntKind.i64.wrap (z:Int)=(z:Int):=wrap_small _ (by omega) (by omega)
         have hV:V4 ⟨bk,off+k * 4,none⟩ ⟨bk,off+k * 4+2,none⟩ ⟨bA,oA+p,none⟩ ⟨bB,oB+z,none⟩ (.int .i64 (i:Int)) (.int .i64 (cB:Int)) (.string ⟨x.toArray⟩) (.string ⟨y.toArray⟩) w1 W3:=⟨c0,c2,dA,dB,hLz⟩
         clear HM hS hZ HROW hcA hx hp hcB hy hz  hLz
         go_wp2_with fail
         go_region_held3 (fun u=>u.cell? ⟨bk,off+k * 4,none⟩=some (.int .i64 (i:Int))∧u.cell? ⟨bk,off+k * 4+2,none⟩=some (.int .i64 (cB:Int))∧u.cell? ⟨bA,oA+p,none⟩=some (.string ⟨x.toArray⟩)∧u.cell? ⟨bB,oB+z,none⟩=some (.string ⟨y.toArray⟩)∧V4 ⟨bk,off+k * 4,none⟩ ⟨bk,off+k * 4+2,none⟩ ⟨bA,oA+p,none⟩ ⟨bB,oB+z,none⟩ (.int .i64 (i:Int)) (.int .i64 (cB:Int)) (.string ⟨x.toArray⟩) (.string ⟨y.toArray⟩) w1 u) (go_keep)
          (first | (go_at_call 26;refine (ZdV (HRw _) (by first | assumption | (rw[ZdU];assumption))).mono ?_;rintro e w4 ⟨rfl,e0,e1,e2,e3,hV4⟩))
         all_goals have hL4:Low w1 w4:=hV4.low
         all_goals clear e0 e1 e2 e3 hV4
         all_goals go_wp2
         all_goals go_roundw
         case rel=>exact⟨q+1,by omega,by rw[HN.out],by go_num,hL4⟩
         case measure=>simp[intOf];omega
        ·have b2:(cBN:Int)≤(q:Int):=by omega
         have HM:=ZaR (w:=W) (O:=cut A (i:Int) (cAN:Int)) (F:=cut B (cB:Int) (cBN:Int)) (q:=q) (by rw[Zbb hA2];exact h1) (by rw[Zbb hB2];omega)
         rw[HReq.out,Zba hA2 h1] at HM
         obtain⟨bA,oA,rfl,_,hcA⟩:=HS.at (HS.keep ha1 hLz (Nat.le_refl _)) (by omega)
         have dA:=hcA (i+q) (by omega)
         have lx:=HTA.out A[i+q] (List.getElem_mem (by omega))
         obtain⟨x,hx⟩:∃ x,A[i+q]'(by omega)=x:=⟨_,rfl⟩
         rw[hx] at dA lx HM
         obtain⟨p,hp⟩:∃ p,i+q=p:=⟨_,rfl⟩
         rw[hp] at dA
         have hpA:(i:Int)+(q:Int)=(p:Int):=by omega
         have j1:(0:Int)≤(p:Int):=by omega
         have j2:(p:Int)<(A.length:Int):=by omega
         obtain⟨Z,hZ⟩:∃ Z,rowT W x 60 ([]:List UInt8)=Z:=⟨_,rfl⟩
         have HRw:=fun u=>HROW.out x ([]:List UInt8) 60 u Z lx (by simp) hZ
         rw[hZ] at HM
         rw[HM,List.length_append] at lR2
         have q1:=Zae (x:=S) (y:=Z) (by unfold Fits;omega) Tryd.prog
         have HN:Hid (Q++(R.take (q+1)).flatten=S++Z):=(by
          show _=_
          rw[HM,← hS,List.append_assoc])
         clear HM hS hZ HROW hcA hx hp 
         go_wp2_with fail
         refine (HRw _).mono ?_
         rintro e w4 ⟨rfl,hB4⟩
         have hL4:Low w1 w4:=Below.trans hLz (hB4.mono hLz.size)
         clear hB4 hLz c0 c1 c2 c3 dA HRw
         go_wp2
         go_roundw
         case rel=>exact⟨q+1,by omega,by rw[HN.out],by go_num,hL4⟩
         case measure=>simp[intOf];omega
       ·have b1:(cAN:Int)≤(q:Int):=by omega
        have h2:q<cBN:=by omega
        have HM:=ZaQ (w:=W) (O:=cut A (i:Int) (cAN:Int)) (F:=cut B (cB:Int) (cBN:Int)) (q:=q) (by rw[Zbb hA2];omega) (by rw[Zbb hB2];exact h2)
        rw[HReq.out,Zba hB2 h2] at HM
        obtain⟨bB,oB,rfl,_,hcB⟩:=HS.at (HS.keep hb1' hLz (Nat.le_refl _)) (by omega)
        have dB:=hcB (cB+q) (by omega)
        have ly:=HTB.out B[cB+q] (List.getElem_mem (by omega))
        obtain⟨y,hy⟩:∃ y,B[cB+q]'(by omega)=y:=⟨_,rfl⟩
        rw[hy] at dB ly HM
        obtain⟨z,hz⟩:∃ z,cB+q=z:=⟨_,rfl⟩
        rw[hz] at dB
        have hpB:(cB:Int)+(q:Int)=(z:Int):=by omega
        have j3:(0:Int)≤(z:Int):=by omega
        have j4:(z:Int)<(B.length:Int):=by omega
        obtain⟨Z,hZ⟩:∃ Z,rowT W ([]:List UInt8) 62 y=Z:=⟨_,rfl⟩
        have HRw:=fun u=>HROW.out ([]:List UInt8) y 62 u Z (by simp) ly hZ
        rw[hZ] at HM
        rw[HM,List.length_append] at lR2
        have q1:=Zae (x:=S) (y:=Z) (by unfold Fits;omega) Tryd.prog
        have HN:Hid (Q++(R.take (q+1)).flatten=S++Z):=(by
         show _=_
         rw[HM,← hS,List.append_assoc])
        clear HM hS hZ HROW hcB hy hz 
        go_wp2_with fail
        refine (HRw _).mono ?_
        rintro e w4 ⟨rfl,hB4⟩
        have hL4:Low w1 w4:=Below.trans hLz (hB4.mono hLz.size)
        clear hB4 hLz c0 c1 c2 c3 dB HRw
        go_wp2
        go_roundw
        case rel=>exact⟨q+1,by omega,by rw[HN.out],by go_num,hL4⟩
        case measure=>simp[intOf];omega
      ·have hqe:q=R.length:=by omega
       subst hqe
       rw[List.take_length]
       have hend2:¬ (R.length:Int)<(R.length:Int):=by omega
       have HI4:Hid (Q++R.flatten++(vsR W A B ((i+cAN:Nat):Int) ((cB+cBN:Nat):Int) (l.drop (k+1))).flatten=T):=(by
        show _=_
        rw[List.append_assoc]
        exact HI3.out)
       clear HRl HI3
       go_wp2_with fail
       go_quiet (fail)
       have hLz:Low w1 (wr.drewN nq):=Below.dN hLq nq
       have c0:(wr.drewN nq).cell? ⟨bk,off+k * 4,none⟩=some (.int .i64 (i:Int)):=c0
       have c1:(wr.drewN nq).cell? ⟨bk,off+k * 4+1,none⟩=some (.int .i64 (cAN:Int)):=c1
       clear hLq c2 c3
       generalize wr.drewN nq=W3 at hLz c0 c1 ⊢
       go_wp2_with fail
       go_quiet (fail)
       have hLy:Low w1 (W3.drewN nq):=Below.dN hLz nq
       clear hLz c0 c1
       generalize W3.drewN nq=W4 at hLy ⊢
       go_wp2
       go_roundw
       case rel=>exact⟨k+1,i+cAN,cB+cBN,Q++R.flatten,by omega,rfl,by go_num,by go_num,by omega,by omega,hLy,HRt,HKt,HI4⟩
       case measure=>simp[intOf];omega
    ·have ek:k=l.length:=by omega
     have hend:¬ (k:Int)<(l.length:Int):=by omega
     have hR':=HRi.out
     have hI':=HI.out
     have hK':=HKi.out
     have hd:l.drop k=[]:=List.drop_of_length_le (by omega)
     rw[hd] at hR' hI' hK'
     rw[ZeR,show ((A.length:Int)-(a:Int))=((A.length-a:Nat):Int) by omega] at hI'
     have hab:A.length-a=B.length-b:=by have h3:(A.length:Int)-(a:Int)=(B.length:Int)-(b:Int):=hR'.2.2;omega
     have HKK:Hid (∀ j:Nat,a≤j→j<A.length→KL[j]?=some (((b+(j-a):Nat):Int))):=(by
      intro j h1 h2
      have h:=@ZbX (a:Int) (b:Int) (A.length:Int) (B.length:Int) (j-a) (by omega)
      rw[← hK',List.getElem?_drop,show a+(j-a)=j by omega] at h
      rw[h]
      exact congrArg some (by omega))
     obtain⟨K,hKK⟩:∃ K,(krT W (cut A (a:Int) ((A.length-a:Nat):Int)) (cut B (b:Int) ((A.length-a:Nat):Int))).flatten=K:=⟨_,rfl⟩
     rw[hKK] at hI'
     have lT:=congrArg List.length hI'
     simp only[List.length_append] at lT
     have HI2:Hid (P++K=T):=hI'
     have HKK2:Hid (∀ j,j≤A.length-a→(krT W (cut A (a:Int) (j:Int)) (cut B (b:Int) (j:Int))).flatten.length≤K.length):=(by
      intro j hj
      rw[← hKK]
      exact Zce hj (by omega) (by omega))
     have HKeq:Hid ((krT W (cut A (a:Int) ((A.length-a:Nat):Int)) (cut B (b:Int) ((A.length-a:Nat):Int))).flatten=K):=hKK
     clear hI' hKK hK' hR' HRi HI HKi
     go_wp2
     go_loopw [12,13] (fun s av wr=>∃ i:Nat,a≤i∧i≤A.length∧s=.string ⟨(P++(krT W (cut A (a:Int) ((i-a:Nat):Int)) (cut B (b:Int) ((i-a:Nat):Int))).flatten).toArray⟩∧av=.int .i64 (i:Int)∧Low w1 wr) (fun _ av _=>A.length-(intOf av).toNat)
     case atStart=>exact⟨a,Nat.le_refl _,han,by rw[show ((a-a:Nat):Int)=0 by omega,ZeL];simp[krT],rfl,hLw⟩
     case round =>
     clear hLw
     obtain⟨i,hai,hic,rfl,rfl,hLr⟩:=hrel
     by_cases hilt:i<A.length
     ·have hz:b+(i-a)<B.length:=by omega
      have hiA:i<A.length:=by omega
      obtain⟨bA,oA,rfl,_,hcA⟩:=HS.at (HS.keep ha1 hLr (Nat.le_refl _)) (by omega)
      obtain⟨bB,oB,rfl,_,hcB⟩:=HS.at (HS.keep hb1' hLr (Nat.le_refl _)) (by omega)
      obtain⟨bK,oK,rfl,_,hcK⟩:=HI.at (HI.keep hKv hLr (Nat.le_refl _)) (by omega)
      have dA:=hcA i hiA
      have dB:=hcB (b+(i-a)) hz
      have dK:=hcK i (by omega)
      have hkz:=HKK.out i hai hilt
      rw[List.getElem?_eq_getElem (by omega)] at hkz
      rw[Option.some.inj hkz] at dK
      have HM:=@Zcc W A B a b (i-a) (by omega) hz
      have lx:=HTA.out A[i] (List.getElem_mem hiA)
      have ly:=HTB.out (B[b+(i-a)]) (List.getElem_mem hz)
      have ll:=HKK2.out (i-a+1) (by omega)
      simp only[show a+(i-a)=i by omega] at HM
      obtain⟨x,hx⟩:∃ x,A[i]=x:=⟨_,rfl⟩
      obtain⟨y,hy⟩:∃ y,B[b+(i-a)]=y:=⟨_,rfl⟩
      rw[hx] at dA lx HM
      rw[hy] at dB ly HM
      obtain⟨Z,hZ⟩:∃ Z,rowT W x 32 y=Z:=⟨_,rfl⟩
      have HRw:=fun u=>HROW.out x y 32 u Z lx ly hZ
      rw[HM,List.length_append,hZ] at ll
      obtain⟨S,hS⟩:∃ S,(krT W (cut A (a:Int) ((i-a:Nat):Int)) (cut B (b:Int) ((i-a:Nat):Int))).flatten=S:=⟨_,rfl⟩
      rw[hS] at HM ll ⊢
      obtain⟨S2,hS2⟩:∃ S2,P++S=S2:=⟨_,rfl⟩
      have nS2:=congrArg List.length hS2
      rw[List.length_append] at nS2
      rw[hS2]
      have q1:=Zae (x:=S2) (y:=Z) (by unfold Fits;omega) Tryd.prog
      have HN:Hid (P++(krT W (cut A (a:Int) ((i+1-a:Nat):Int)) (cut B (b:Int) ((i+1-a:Nat):Int))).flatten=S2++Z):=(by
       show _=_
       rw[show i+1-a=i-a+1 by omega,HM,hZ,← hS2,List.append_assoc])
      obtain⟨z,hzz⟩:∃ z,b+(i-a)=z:=⟨_,rfl⟩
      rw[hzz] at hz dB dK
      have j1:(0:Int)≤(i:Int):=by omega
      have j2:(i:Int)<(A.length:Int):=by omega
      have j3:(i:Int)<(KL.length:Int):=by omega
      have j4:(0:Int)≤(z:Int):=by omega
      have j5:(z:Int)<(B.length:Int):=by omega
      have hV:V4 ⟨bA,oA+i,none⟩ ⟨bK,oK+i,none⟩ ⟨bB,oB+z,none⟩ ⟨bA,oA+i,none⟩ (.string ⟨x.toArray⟩) (.int .i64 (z:Int)) (.string ⟨y.toArray⟩) (.string ⟨x.toArray⟩) w1 wr:=⟨dA,dK,dB,dA,hLr⟩
      clear hcA hcB hcK hkz HM ll hx hy hZ hS hS2 hzz HKK2 HKK HROW hLr
      go_wp2_with fail
      go_region_held3 (fun u=>u.cell? ⟨bA,oA+i,none⟩=some (.string ⟨x.toArray⟩)∧u.cell? ⟨bK,oK+i,none⟩=some (.int .i64 (z:Int))∧u.cell? ⟨bB,oB+z,none⟩=some (.string ⟨y.toArray⟩)∧V4 ⟨bA,oA+i,none⟩ ⟨bK,oK+i,none⟩ ⟨bB,oB+z,none⟩ ⟨bA,oA+i,none⟩ (.string ⟨x.toArray⟩) (.int .i64 (z:Int)) (.string ⟨y.toArray⟩) (.string ⟨x.toArray⟩) w1 u) (go_keep)
       (first | (go_at_call 26;refine (ZdV (HRw _) (by first | assumption | (rw[ZdU];assumption))).mono ?_;rintro e w4 ⟨rfl,e0,e1,e2,e3,hV4⟩))
      all_goals have hL4:Low w1 w4:=hV4.low
      all_goals clear e0 e1 e2 e3 hV4
      all_goals go_wp2
      all_goals go_roundw
      case rel=>exact⟨i+1,by omega,by omega,by rw[HN.out],by go_num,hL4⟩
      case measure=>simp[intOf];omega
     ·have hend:¬ (i:Int)<(A.length:Int):=by omega
      obtain rfl:i=A.length:=by omega
      rw[HKeq.out,HI2.out]
      clear HKK HKK2 HKeq
      go_wp2
      go_ret2
      exact⟨rfl,HBW.out.trans (hLr.mono HBW.out.size)⟩
 ·have hc:=Zav hS
  rw[hc,if_pos (by decide)] at hR
  subst hR
  rw[if_neg (by decide)] at hTT
  subst hTT
  have hkp:=ZcS l A.length B.length (.slice ao l.length ca) w hl hS (by omega) (by omega) (by omega)
  go_enter Tryd.func7,Tryd.ntmps7
  go_wp2_with fail
  refine hkp.mono ?_
  rintro e w1 ⟨rfl,hb1⟩
  clear hkp
  go_wp2
  go_ret2
  exact⟨rfl,hb1⟩
end

section
open Go.RowKit Go.Proofs.YtcnjephlmcnodaaDoor.Tx
theorem Zbw {α:Type} (f:α→List (List UInt8)) (M:Nat) (L:List α) (h:∀ x∈L,(f x).flatten.length≤M):(L.flatMap f).flatten.length≤L.length * M:=by
 induction L with
 | nil=>simp
 | cons x L ih =>
  have h1:=h x (by simp)
  have h2:=ih fun y hy=>h y (by simp[hy])
  rw[List.flatMap_cons,List.flatten_append,List.length_append,List.length_cons,Nat.succ_mul]
  omega
theorem Zam (s:List UInt8):(bareT s).length≤s.length:=by
 unfold bareT
 split
 ·rw[List.length_dropLast];omega
 ·exact Nat.le_refl _
theorem Zfn (A:List (List UInt8)):(wlL A).flatten.length≤A.flatten.length+A.length:=by
 induction A with
 | nil=>exact Nat.le_refl _
 | cons s A ih =>
  have h:=Zam s
  unfold wlL at ih ⊢
  simp only[List.map_cons,List.flatten_cons,List.length_append,List.length_cons,List.length_nil]
  omega
theorem ZbV (w:Nat):∀ x y:List (List UInt8),(krT w x y).flatten.length≤x.length * (2 * w+4):=by
 intro x
 induction x with
 | nil=>intro y;simp[krT]
 | cons s x ih =>
  intro y
  cases y with
  | nil=>simp[krT]
  | cons t y =>
   have h1:=ih y
   have h2:=ZeN w s 32 t
   unfold krT at h1 ⊢
   rw[List.zipWith_cons_cons,List.flatten_cons,List.length_append,List.length_cons,Nat.succ_mul]
   omega
theorem ZaL (w:Nat):∀ x y:List (List UInt8),(crT w x y).flatten.length≤(x.length+y.length) * (2 * w+4):=by
 intro x
 induction x with
 | nil =>
  intro y
  induction y with
  | nil=>simp[crT]
  | cons t y ih =>
   have h2:=ZeN w [] 62 t
   simp only[crT,List.map_cons,List.flatten_cons,List.length_append,List.length_cons,List.length_nil,Nat.zero_add] at ih ⊢
   rw[Nat.succ_mul]
   omega
 | cons s x ih =>
  intro y
  cases y with
  | nil =>
   have h1:=ih []
   have h2:=ZeN w s 60 []
   simp only[crT,List.flatten_cons,List.length_append,List.length_cons,List.length_nil,Nat.add_zero] at h1 ⊢
   rw[Nat.succ_mul]
   omega
  | cons t y =>
   have h1:=ih y
   have h2:=ZeN w s 124 t
   simp only[crT,List.flatten_cons,List.length_append,List.length_cons] at h1 ⊢
   have e:(x.length+1+(y.length+1)) * (2 * w+4)=(x.length+y.length) * (2 * w+4)+(2 * w+4)+(2 * w+4):=by
    rw[show x.length+1+(y.length+1)=x.length+y.length+1+1 by omega,Nat.succ_mul,Nat.succ_mul]
   omega
theorem ZeO (w:Nat) (l:List Ch) (A B:List (List UInt8)):(vsL w l A B).flatten.length≤(l.length+1) * ((2 * A.length+B.length) * (2 * w+4)):=by
 rw[← ZcP 0 0 A.length B.length l]
 refine Zbw _ _ _ fun x _=>?_
 unfold vsP
 rw[List.flatten_append,List.length_append]
 have h1:=ZbV w (cut A x.1.a x.1.n) (cut B x.1.b x.1.n)
 have h2:=ZaL w (cut A x.2.A x.2.AN) (cut B x.2.B x.2.BN)
 have e1:=@Zbg A x.1.a x.1.n
 have e2:=@Zbg A x.2.A x.2.AN
 have e3:=@Zbg B x.2.B x.2.BN
 have g1:(cut A x.1.a x.1.n).length * (2 * w+4)≤A.length * (2 * w+4):=Nat.mul_le_mul_right _ e1
 have g2:((cut A x.2.A x.2.AN).length+(cut B x.2.B x.2.BN).length) * (2 * w+4)≤(A.length+B.length) * (2 * w+4):=Nat.mul_le_mul_right _ (by omega)
 have g3:(2 * A.length+B.length) * (2 * w+4)=A.length * (2 * w+4)+(A.length+B.length) * (2 * w+4):=by rw[← Nat.add_mul];congr 1;omega
 omega
theorem ZeY {l:List Ch} {n m wd:Int} (h:vsE l n m wd=0):1≤wd∧wd≤200:=by
 unfold vsE at h
 split at h
 ·rename_i h1;exact absurd h h1
 ·split at h
  ·assumption
  ·cases h
theorem Zcy {s:List UInt8} {A:List (List UInt8)} {n:Nat} (h:s∈A) (hn:A.flatten.length≤n):s.length≤n:=Nat.le_trans (ZeM h) hn
end

end Go.Proofs.YtcnjephlmcnodaaDoor
