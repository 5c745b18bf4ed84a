/-
  Texts that belong together, joined: VcH, VcI, VcJ, VcK, ViY, ViZ, ViWk, HuLn, HuC2, HuC3, HuWk.
-/
import Derived.Test.YtcnjephlmcnodaaGreatDoorVzA13
import Derived.Laws.EntriesVeiled
import Derived.Test.YtcnjephlmcnodaaGreatDoorVzA10
import Derived.BigQuiet

set_option maxHeartbeats 16000000
set_option maxRecDepth 100000
namespace Go.Proofs.YtcnjephlmcnodaaGreatDoor

section
open Go.RowKit Go.Proofs.YtcnjephlmcnodaaGreatDoor.Tx
attribute [local go_sem] ZhN
theorem Zed {α:Type} (f:α→List (List UInt8)) (l:List α):(l.flatMap f).flatten=(l.map fun x=>(f x).flatten).flatten:=by
 induction l with
 | nil=>rfl
 | cons a l ih=>rw[List.flatMap_cons,List.flatten_append,ih,List.map_cons,List.flatten_cons]
theorem ZlJ (nm:List UInt8) (l:List Ch) (A B:List (List UInt8)):thR (fun x _=>(wlL x).flatten) (fun x y=>(ifC nm x y).flatten) A B 0 0 l=(ifL nm l A B).flatten:=by
 unfold thR ifL
 rw[Zed]
 congr 2
 funext x
 simp[ifP]
theorem ZcN {s:List UInt8} (h:cnB s=true):s.length≤64:=by
 cases s with
 | nil=>simp
 | cons c t =>
  have h:(decide ((c::t).length≤64) && ltB c && t.all fun x=>ltB x || dgB x)=true:=h
  simp only[Bool.and_eq_true,decide_eq_true_eq] at h
  exact h.1.1
theorem ZmH (l:List Ch) (A B:List (List UInt8)) (nm:List UInt8) (v va vb:Value) (w:World) (hl:HCh w v l) (ha:HS w va A) (hb:HS w vb B) (hll:l.length≤1099511627776) (hla:A.length≤1048576) (hlb:B.length≤1048576)
  (hta:∀ s∈A,s.length≤1099511627776) (htb:∀ s∈B,s.length≤1099511627776)
  (r:Int) (HR:Hid (ifE l A.length B.length nm=r)) (T:List UInt8) (HT:Hid ((if r=0 then (ifL nm l A B).flatten else [])=T)) (hT:T.length≤70368744177664) :
  Calls Tryz.prog 10 #[v,va,vb,.string ⟨nm.toArray⟩] w fun e w'=>e=.returned (.tuple #[.string ⟨T.toArray⟩,.int .i64 r])∧Below w.heap.size w w':=by
 obtain⟨ao,ca,rfl⟩:=Holds.form hl
 obtain⟨aa,caa,rfl⟩:=Holds.form ha
 obtain⟨ab,cab,rfl⟩:=Holds.form hb
 obtain⟨q,hq⟩:∃ q,chk l A.length B.length=q:=⟨_,rfl⟩
 have hck:=Zag l A.length B.length q (.slice ao l.length ca) w hl (by omega) (by omega) (by omega) hq
 have hR:=HR.out
 unfold ifE at hR
 rw[hq] at hR
 have hTT:=HT.out
 clear HR HT
 by_cases hq0:q=0
 ·subst hq0
  rw[if_neg (by simp)] at hR
  have hS:Script l A.length B.length:=(by
   by_cases h:Script l A.length B.length
   ·exact h
   ·have:=Zci h
    rw[hq] at this
    cases this)
  clear hq
  obtain⟨bb,hbb⟩:∃ b,cnB nm=b:=⟨_,rfl⟩
  have hnm:=fun u=>ZmN nm u bb hbb
  rw[hbb] at hR
  cases bb with
  | false =>
   rw[if_neg (by decide)] at hR
   subst hR
   rw[if_neg (by decide)] at hTT
   subst hTT
   clear hbb
   go_enter Tryz.func10,Tryz.ntmps10
   go_wp2_with fail
   refine hck.mono ?_
   rintro e w1 ⟨rfl,hb1⟩
   clear hck
   go_wp2_with fail
   refine (hnm _).mono ?_
   rintro e w2 ⟨rfl,rfl⟩
   clear hnm
   go_wp2
   go_ret2
   exact⟨rfl,hb1⟩
  | true =>
   rw[if_pos rfl] at hR
   subst hR
   rw[if_pos rfl,← ZlJ] at hTT
   have hn64:=ZcN hbb
   have HNO:Hid (∀ c∈nm,c≠10):=ZcO hbb
   have HT0:Hid ([]++thR (fun x _=>(wlL x).flatten) (fun x y=>(ifC nm x y).flatten) A B 0 0 l=T):=hTT
   have HTA:Hid (∀ s∈A,s.length≤1099511627776):=hta
   have HTB:Hid (∀ s∈B,s.length≤1099511627776):=htb
   have HSC:Hid (Script l A.length B.length):=hS
   clear hTT hta htb hS hbb
   go_enter Tryz.func10,Tryz.ntmps10
   go_wp2_with fail
   refine hck.mono ?_
   rintro e w1 ⟨rfl,hb1⟩
   clear hck
   go_wp2_with fail
   refine (hnm _).mono ?_
   rintro e w2 ⟨rfl,rfl⟩
   clear hnm
   have hP:=Vsd.at0 w hb1
   have hP:=hP.more (.cells #[.func (.func 18) #[] #[.pointer (some ⟨w2.heap.size,0,none⟩)]] 63)
   rw[show (w2.alloc (.cells #[.pointer none,.slice none 0 0] 58)).heap.size=w2.heap.size+1 by simp] at hP
   go_wp2_with fail
   refine (ZmA nm _ (by omega)).mono ?_
   rintro e w3 ⟨rfl,hb3⟩
   have hP:=hP.keep hb3
   have hP:=hP.more (.cells (cmC nm) 65)
   clear hb3
   have hP:Vsd w w2.heap.size (ifRS w2.heap.size (w2.heap.size+1) w3.heap.size nm) [] (w3.alloc (.cells (cmC nm) 65)):=hP
   unfold cmC at hP ⊢
   have hth:=fun u hu=>ZlO l A B (.slice ao l.length ca) (.slice aa A.length caa) (.slice ab B.length cab) w w2.heap.size (ifRS w2.heap.size (w2.heap.size+1) w3.heap.size nm) 22 23 #[.pointer (some ⟨w2.heap.size+1,0,none⟩)] #[.pointer (some ⟨w2.heap.size+1,0,none⟩),.pointer (some ⟨w3.heap.size,0,none⟩)]
    (enters_of Tryz.func22 (by kernel_rfl) rfl) (enters_of Tryz.func23 (by kernel_rfl) rfl) (fun x _=>(wlL x).flatten) (fun x y=>(ifC nm x y).flatten) (by simp[ifC])
    (ZmI w w2.heap.size (w2.heap.size+1) w3.heap.size nm A B (by omega) HTA) (Zmx w w2.heap.size (w2.heap.size+1) w3.heap.size nm HNO.out (by omega) A B (by omega) (by omega) HTA HTB) u [] T hu hl ha hb HSC.out (by omega) (by omega) (by omega) HT0 hT
   go_wp2_with fail
   refine (hth _ hP).mono ?_
   rintro e w4 ⟨rfl,hP⟩
   clear hth
   go_wp2_with fail
   refine hP.text.mono ?_
   rintro e w5 ⟨rfl,hb5⟩
   go_wp2
   go_ret2
   exact⟨rfl,hb5⟩
 ·rw[if_pos hq0] at hR
  subst hR
  rw[if_neg hq0] at hTT
  subst hTT
  have hqb:(q != 0)=true:=bne_iff_ne.2 hq0
  go_enter Tryz.func10,Tryz.ntmps10
  go_wp2_with fail
  refine hck.mono ?_
  rintro e w1 ⟨rfl,hb1⟩
  clear hck
  go_wp2
  go_ret2
  exact⟨rfl,hb1⟩
end

section
open Go.RowKit Go.Proofs.YtcnjephlmcnodaaGreatDoor.Tx
attribute [local go_sem] ZhN
theorem ZlL (n:Nat) (l:List Ch) (A B:List (List UInt8)):thR (fun x y=>(krT n x y).flatten) (fun x y=>(crT n x y).flatten) A B 0 0 l=(vsL n l A B).flatten:=by
 unfold thR vsL
 rw[Zed]
 congr 2
 funext x
 simp[vsP]
theorem ZmS (l:List Ch) (A B:List (List UInt8)) (wd:Int) (v va vb:Value) (w:World) (hl:HCh w v l) (ha:HS w va A) (hb:HS w vb B) (hll:l.length≤1048576) (hla:A.length≤1048576) (hlb:B.length≤1048576)
  (hta:∀ s∈A,s.length≤1099511627776) (htb:∀ s∈B,s.length≤1099511627776)
  (r:Int) (HR:Hid (vsE l A.length B.length wd=r)) (T:List UInt8) (HT:Hid ((if r=0 then (vsL wd.toNat l A B).flatten else [])=T)) :
  Calls Tryz.prog 12 #[v,va,vb,.int .i64 wd] w fun e w'=>e=.returned (.tuple #[.string ⟨T.toArray⟩,.int .i64 r])∧Below w.heap.size w w':=by
 obtain⟨ao,ca,rfl⟩:=Holds.form hl
 obtain⟨aa,caa,rfl⟩:=Holds.form ha
 obtain⟨ab,cab,rfl⟩:=Holds.form hb
 obtain⟨q,hq⟩:∃ q,chk l A.length B.length=q:=⟨_,rfl⟩
 have hB0:Below w.heap.size w (w.alloc (.cells #[.int .i64 wd] 3)):=(Below.refl _ w).alloc (Nat.le_refl _) _
 have hN0:=heap_alloc_new w (.cells #[.int .i64 wd] 3)
 have hck:=Zag l A.length B.length q (.slice ao l.length ca) _ (hl.keep hB0 (Nat.le_refl _)) (by omega) (by omega) (by omega) hq
 have hR:=HR.out
 unfold vsE at hR
 rw[hq] at hR
 have hTT:=HT.out
 clear HR HT
 by_cases hq0:q=0
 ·subst hq0
  rw[if_neg (by simp)] at hR
  have hS:Script l A.length B.length:=(by
   by_cases h:Script l A.length B.length
   ·exact h
   ·have:=Zci h
    rw[hq] at this
    cases this)
  clear hq
  by_cases hw:1≤wd∧wd≤200
  ·rw[if_pos hw] at hR
   subst hR
   rw[if_pos rfl] at hTT
   obtain⟨n,rfl⟩:∃ n:Nat,wd=(n:Int):=⟨wd.toNat,by omega⟩
   rw[Int.toNat_natCast] at hTT
   have hn2:n≤200:=by omega
   have hTl:T.length≤70368744177664:=(by
    have h:=Zny (w:=n) hS
    have h2:(A.length+B.length) * (2 * n+4)≤2097152 * 404:=Nat.mul_le_mul (by omega) (by omega)
    rw[← hTT]
    omega)
   rw[← ZlL] at hTT
   have HT0:Hid ([]++thR (fun x y=>(krT n x y).flatten) (fun x y=>(crT n x y).flatten) A B 0 0 l=T):=hTT
   have HTA:Hid (∀ s∈A,s.length≤1099511627776):=hta
   have HTB:Hid (∀ s∈B,s.length≤1099511627776):=htb
   have HSC:Hid (Script l A.length B.length):=hS
   have i1:¬ (n:Int)<1:=by omega
   have i2:¬ (200:Int)<(n:Int):=by omega
   clear hTT hta htb hS hw
   go_enter Tryz.func12,Tryz.ntmps12
   go_wp2_with fail
   refine hck.mono ?_
   rintro e w1 ⟨rfl,hb1⟩
   clear hck
   have hN1:w1.heap[w.heap.size]?=some (.cells #[.int .i64 (n:Int)] 3):=(hb1.block _ (by simp)).trans hN0
   have c0:w1.cell? ⟨w.heap.size,0,none⟩=some (.int .i64 (n:Int)):=by rw[Lib.cell_of_heap hN1];rfl
   have hBw:=hB0.trans (hb1.mono hB0.size)
   have hP:=Vsd.at1 w hBw hN1
   have hP:=hP.more (.cells #[.func (.func 30) #[] #[.pointer (some ⟨w.heap.size,0,none⟩),.pointer (some ⟨w1.heap.size,0,none⟩)]] 79)
   rw[show (w1.alloc (.cells #[.pointer none,.slice none 0 0] 58)).heap.size=w1.heap.size+1 by simp] at hP
   have hP:Vsd w w1.heap.size (sdRS w1.heap.size w.heap.size (w1.heap.size+1) n) [] _:=hP
   have hth:=fun u hu=>ZlO l A B (.slice ao l.length ca) (.slice aa A.length caa) (.slice ab B.length cab) w w1.heap.size (sdRS w1.heap.size w.heap.size (w1.heap.size+1) n) 34 35 #[.pointer (some ⟨w1.heap.size+1,0,none⟩)] #[.pointer (some ⟨w1.heap.size+1,0,none⟩)]
    (enters_of Tryz.func34 (by kernel_rfl) rfl) (enters_of Tryz.func35 (by kernel_rfl) rfl) (fun x y=>(krT n x y).flatten) (fun x y=>(crT n x y).flatten) (by simp[crT])
    (ZmJ w w1.heap.size w.heap.size (w1.heap.size+1) n hn2 A B (by omega) (by omega) HTA HTB) (Zmy w w1.heap.size w.heap.size (w1.heap.size+1) n hn2 A B (by omega) (by omega) HTA HTB) u [] T hu hl ha hb HSC.out (by omega) (by omega) (by omega) HT0 hTl
   clear hN0 hN1 hB0 hb1 hBw
   go_wp2_with fail
   refine (hth _ hP).mono ?_
   rintro e w4 ⟨rfl,hP⟩
   clear hth
   go_wp2_with fail
   refine hP.text.mono ?_
   rintro e w5 ⟨rfl,hb5⟩
   go_wp2
   go_ret2
   exact⟨rfl,hb5⟩
  ·rw[if_neg hw] at hR
   subst hR
   rw[if_neg (by decide)] at hTT
   subst hTT
   by_cases i1:wd<1
   ·clear hw
    go_enter Tryz.func12,Tryz.ntmps12
    go_wp2_with fail
    refine hck.mono ?_
    rintro e w1 ⟨rfl,hb1⟩
    have hN1:w1.heap[w.heap.size]?=some (.cells #[.int .i64 wd] 3):=(hb1.block _ (by simp)).trans hN0
    have c0:w1.cell? ⟨w.heap.size,0,none⟩=some (.int .i64 wd):=by rw[Lib.cell_of_heap hN1];rfl
    have hBw:=hB0.trans (hb1.mono hB0.size)
    clear hck hN0 hN1 hB0 hb1
    go_wp2
    go_ret2
    exact⟨rfl,hBw⟩
   ·have i2:(200:Int)<wd:=by omega
    clear hw
    go_enter Tryz.func12,Tryz.ntmps12
    go_wp2_with fail
    refine hck.mono ?_
    rintro e w1 ⟨rfl,hb1⟩
    have hN1:w1.heap[w.heap.size]?=some (.cells #[.int .i64 wd] 3):=(hb1.block _ (by simp)).trans hN0
    have c0:w1.cell? ⟨w.heap.size,0,none⟩=some (.int .i64 wd):=by rw[Lib.cell_of_heap hN1];rfl
    have hBw:=hB0.trans (hb1.mono hB0.size)
    clear hck hN0 hN1 hB0 hb1
    go_wp2
    go_ret2
    exact⟨rfl,hBw⟩
 ·rw[if_pos hq0] at hR
  subst hR
  rw[if_neg hq0] at hTT
  subst hTT
  have hqb:(q != 0)=true:=bne_iff_ne.2 hq0
  go_enter Tryz.func12,Tryz.ntmps12
  go_wp2_with fail
  refine hck.mono ?_
  rintro e w1 ⟨rfl,hb1⟩
  have hBw:=hB0.trans (hb1.mono hB0.size)
  clear hck
  go_wp2
  go_ret2
  exact⟨rfl,hBw⟩
end

section
open Go.RowKit Go.Proofs.YtcnjephlmcnodaaGreatDoor.Tx
attribute [local go_sem] ZhN
def pnI (o:Nat):Int:=if o=0 then 0 else if o=2 then 1 else 2
def bhP (nm y:List UInt8) (i j:Int):Prop :=
 (i=0∧(y == cmL nm 1)=true∧j=2)∨(i=0∧(y == cmL nm 1)=false∧(y == cmL nm 2)=true∧j=1)∨(i=1∧(y == cmL nm 3)=true∧j=2)∨(i=1∧(y == cmL nm 3)=false∧(y == cmL nm 5)=true∧j=0)∨(i=2∧(y == cmL nm 4)=true∧j=0)
def hasB (nm y:List UInt8):Bool:=(y == cmL nm 1) || ((y == cmL nm 2) || ((y == cmL nm 3) || ((y == cmL nm 4) || (y == cmL nm 5))))
theorem Zcz {nm s:List UInt8} (hs:fdB s=true) (k:Nat):(s=cmT nm k)↔(bareT s == cmL nm k)=true:=by
 rw[beq_iff_eq,← Zcu]
 conv=>lhs;lhs;rw[← ZmV hs]
 constructor
 ·intro h;exact List.append_cancel_right h
 ·intro h;rw[h]
theorem ZcH {nm s:List UInt8} (hs:fdB s=true):(cmK nm s=0)↔hasB nm (bareT s)=false:=by
 unfold cmK hasB
 simp only[Zcz hs]
 cases (bareT s == cmL nm 1)<;>cases (bareT s == cmL nm 2)<;>cases (bareT s == cmL nm 3)<;>cases (bareT s == cmL nm 4)<;>cases (bareT s == cmL nm 5)<;>simp
theorem Zkd {nm s:List UInt8} {d:Bool} {o p:Nat} {r:List (List UInt8)} {u:List UInt8} (hs:fdB s=true) (h:rsE nm d o p (s::r)=.ok u) :
  (hasB nm (bareT s)=false∧∃ u',rsE nm d o (p+1) r=.ok u'∧u=(if selB d o=true then s else [])++u')∨(hasB nm (bareT s)=true∧∃ o',bhP nm (bareT s) (pnI o) (pnI o')∧rsE nm d o' (p+1) r=.ok u):=by
 rw[rsE] at h
 by_cases h0:cmK nm s=0
 ·rw[if_pos h0] at h
  refine .inl ⟨(ZcH hs).1 h0,?_⟩
  cases hx:rsE nm d o (p+1) r with
  | error e=>rw[hx] at h;cases h
  | ok u' =>
   rw[hx] at h
   cases h
   exact⟨u',rfl,rfl⟩
 ·rw[if_neg h0] at h
  have hh:hasB nm (bareT s)=true:=by
   cases hb:hasB nm (bareT s) with
   | true=>rfl
   | false=>exact absurd ((ZcH hs).2 hb) h0
  refine .inr ⟨hh,?_⟩
  have hk:cmK nm s=1∧(bareT s == cmL nm 1)=true∨cmK nm s=2∧(bareT s == cmL nm 1)=false∧(bareT s == cmL nm 2)=true∨cmK nm s=3∧(bareT s == cmL nm 3)=true∨cmK nm s=4∧(bareT s == cmL nm 4)=true∨cmK nm s=5∧(bareT s == cmL nm 3)=false∧(bareT s == cmL nm 5)=true:=by
   revert h0
   unfold cmK
   simp only[Zcz hs]
   cases (bareT s == cmL nm 1)<;>cases (bareT s == cmL nm 2)<;>cases (bareT s == cmL nm 3)<;>cases (bareT s == cmL nm 4)<;>cases (bareT s == cmL nm 5)<;>simp
  unfold bhP
  by_cases h1:(o=0∧cmK nm s≤2)∨(o=2∧cmK nm s=3)
  ·rw[if_pos h1] at h
   refine⟨_,?_,h⟩
   rcases hk with ⟨k,e⟩ | ⟨k,e,e'⟩ | ⟨k,e⟩ | ⟨k,e⟩ | ⟨k,e,e'⟩
   ·have ho:o=0:=by omega
    rw[k,ho]
    exact .inl ⟨rfl,e,rfl⟩
   ·have ho:o=0:=by omega
    rw[k,ho]
    exact .inr (.inl ⟨rfl,e,e',rfl⟩)
   ·have ho:o=2:=by omega
    rw[k,ho]
    exact .inr (.inr (.inl ⟨rfl,e,rfl⟩))
   ·omega
   ·omega
  ·rw[if_neg h1] at h
   by_cases h2:(o=2∧cmK nm s=5)∨(o=1∧cmK nm s=4)∨(o=3∧cmK nm s=4)
   ·rw[if_pos h2] at h
    refine⟨0,?_,h⟩
    rcases hk with ⟨k,e⟩ | ⟨k,e,e'⟩ | ⟨k,e⟩ | ⟨k,e⟩ | ⟨k,e,e'⟩
    ·omega
    ·omega
    ·omega
    ·have ho:o=1∨o=3:=by omega
     rcases ho with ho | ho<;>rw[ho]
     ·exact .inr (.inr (.inr (.inr ⟨rfl,e,rfl⟩)))
     ·exact .inr (.inr (.inr (.inr ⟨rfl,e,rfl⟩)))
    ·have ho:o=2:=by omega
     rw[ho]
     exact .inr (.inr (.inr (.inl ⟨rfl,e,e',rfl⟩)))
   ·rw[if_neg h2] at h
    cases h
theorem ZmG (y s1 s2 s3 s4 s5:List UInt8) (w:World) (r:Bool) (HR:Hid (((y == s1) || ((y == s2) || ((y == s3) || ((y == s4) || (y == s5)))))=r)) :
  Calls Tryz.prog 27 #[.agg #[.string ⟨s1.toArray⟩,.string ⟨s2.toArray⟩,.string ⟨s3.toArray⟩,.string ⟨s4.toArray⟩,.string ⟨s5.toArray⟩],.string ⟨y.toArray⟩] w fun e w'=>e=.returned (.bool r)∧Below w.heap.size w w':=by
 have hB:Below w.heap.size w (w.alloc (.cells #[.string ⟨s1.toArray⟩,.string ⟨s2.toArray⟩,.string ⟨s3.toArray⟩,.string ⟨s4.toArray⟩,.string ⟨s5.toArray⟩] 65)):=(Below.refl _ w).alloc (Nat.le_refl _) _
 cases h1:(y == s1) with
 | true =>
  have HE:Hid (true=r):=(by show _=_;rw[← HR.out,h1];rfl)
  clear HR
  go_enter Tryz.func27,Tryz.ntmps27
  go_wp2
  go_ret
  exact⟨by rw[← HE.out];rfl,hB⟩
 | false =>
  cases h2:(y == s2) with
  | true =>
   have HE:Hid (true=r):=(by show _=_;rw[← HR.out,h1,h2];simp)
   clear HR
   go_enter Tryz.func27,Tryz.ntmps27
   go_wp2
   go_ret
   exact⟨by rw[← HE.out];rfl,hB⟩
  | false =>
   cases h3:(y == s3) with
   | true =>
    have HE:Hid (true=r):=(by show _=_;rw[← HR.out,h1,h2,h3];simp)
    clear HR
    go_enter Tryz.func27,Tryz.ntmps27
    go_wp2
    go_ret
    exact⟨by rw[← HE.out];rfl,hB⟩
   | false =>
    cases h4:(y == s4) with
    | true =>
     have HE:Hid (true=r):=(by show _=_;rw[← HR.out,h1,h2,h3,h4];simp)
     clear HR
     go_enter Tryz.func27,Tryz.ntmps27
     go_wp2
     go_ret
     exact⟨by rw[← HE.out];rfl,hB⟩
    | false =>
     cases h5:(y == s5) with
     | true =>
      have HE:Hid (true=r):=(by show _=_;rw[← HR.out,h1,h2,h3,h4,h5];simp)
      clear HR
      go_enter Tryz.func27,Tryz.ntmps27
      go_wp2
      go_ret
      exact⟨by rw[← HE.out];rfl,hB⟩
     | false =>
      have HE:Hid (false=r):=(by show _=_;rw[← HR.out,h1,h2,h3,h4,h5];rfl)
      clear HR
      go_enter Tryz.func27,Tryz.ntmps27
      go_wp2
      go_ret
      exact⟨by rw[← HE.out];rfl,hB⟩
theorem ZmB (o:Nat) (d:Bool) (w:World) (r:Bool) (HR:Hid (selB d o=r)) :
  Calls Tryz.prog 28 #[.int .i64 (pnI o),.bool d] w fun e w'=>e=.returned (.bool r)∧w=w':=by
 have HR2:Hid (((pnI o == 0) || ((pnI o == 2) == d))=r):=(by
  show _=_
  rw[← HR.out]
  unfold selB pnI
  by_cases h0:o=0
  ·subst h0
   rfl
  ·by_cases h2:o=2
   ·subst h2
    cases d<;>rfl
   ·rw[if_neg h0,if_neg h2,decide_eq_false h0,decide_eq_false h2]
    cases d<;>rfl)
 clear HR
 generalize pnI o=i at *
 cases h0:(i == 0) with
 | true =>
  have HE:Hid (true=r):=(by show _=_;rw[← HR2.out,h0];rfl)
  clear HR2
  go_enter Tryz.func28,Tryz.ntmps28
  go_wp2
  go_ret
  exact⟨by rw[← HE.out];rfl,rfl⟩
 | false =>
  obtain⟨c,hc⟩:∃ c,(i == 2)=c:=⟨_,rfl⟩
  have HE:Hid ((c == d)=r):=(by show _=_;rw[← HR2.out,h0,hc];rfl)
  clear HR2
  go_enter Tryz.func28,Tryz.ntmps28
  go_wp2
  go_ret
  exact⟨by rw[← HE.out];rfl,rfl⟩
theorem Zmw (y s1 s2 s3 s4 s5:List UInt8) (i j:Int) (w:World) (H:(i=0∧(y == s1)=true∧j=2)∨(i=0∧(y == s1)=false∧(y == s2)=true∧j=1)∨(i=1∧(y == s3)=true∧j=2)∨(i=1∧(y == s3)=false∧(y == s5)=true∧j=0)∨(i=2∧(y == s4)=true∧j=0)) :
  Calls Tryz.prog 29 #[.agg #[.string ⟨s1.toArray⟩,.string ⟨s2.toArray⟩,.string ⟨s3.toArray⟩,.string ⟨s4.toArray⟩,.string ⟨s5.toArray⟩],.int .i64 i,.string ⟨y.toArray⟩] w fun e w'=>e=.returned (.tuple #[.int .i64 j,.bool true])∧Below w.heap.size w w':=by
 have hB:Below w.heap.size w (w.alloc (.cells #[.string ⟨s1.toArray⟩,.string ⟨s2.toArray⟩,.string ⟨s3.toArray⟩,.string ⟨s4.toArray⟩,.string ⟨s5.toArray⟩] 65)):=(Below.refl _ w).alloc (Nat.le_refl _) _
 rcases H with ⟨rfl,h1,rfl⟩ | ⟨rfl,h1,h2,rfl⟩ | ⟨rfl,h1,rfl⟩ | ⟨rfl,h1,h2,rfl⟩ | ⟨rfl,h1,rfl⟩
 ·go_enter Tryz.func29,Tryz.ntmps29
  go_wp2
  go_ret2
  exact⟨rfl,hB⟩
 ·go_enter Tryz.func29,Tryz.ntmps29
  go_wp2
  go_ret2
  exact⟨rfl,hB⟩
 ·go_enter Tryz.func29,Tryz.ntmps29
  go_wp2
  go_ret2
  exact⟨rfl,hB⟩
 ·go_enter Tryz.func29,Tryz.ntmps29
  go_wp2
  go_ret2
  exact⟨rfl,hB⟩
 ·go_enter Tryz.func29,Tryz.ntmps29
  go_wp2
  go_ret2
  exact⟨rfl,hB⟩
end

section
open Go.RowKit Go.Proofs.YtcnjephlmcnodaaGreatDoor.Tx
attribute [local go_sem] ZhN
theorem Vsd.put {w u:World} {b k:Nat} {RS:List (Nat × Obj)} {T:List UInt8} {x y:Value} {t:TypeId} (h:Vsd w b ((k,.cells #[x] t)::RS) T u) (hk:∀ r∈RS,r.1≠k) (hw:w.heap.size≤k):Vsd w b ((k,.cells #[y] t)::RS) T (u.setCell ⟨k,0,none⟩ y):=by
 obtain⟨v,⟨hB,⟨p,hp,hb⟩,⟨hl,hown⟩,hne⟩,h2,h3⟩:=h
 obtain⟨q1,q2,q3⟩:=h2 _ (List.mem_cons_self ..)
 dsimp only at q1 q2 q3
 have ho:∀ j,j≠k→(u.setCell ⟨k,0,none⟩ y).heap[j]?=u.heap[j]?:=fun j hj=>Below.heap_setCell u ⟨k,0,none⟩ y j hj
 have hs:(u.setCell ⟨k,0,none⟩ y).heap[k]?=some (.cells #[y] t):=heap_setCell_same u k 0 _ _ _ q1
 refine⟨v,⟨hB,⟨p,hp,(ho b (fun e=>q2 e.symm)).trans hb⟩,⟨hl,?_⟩,hne⟩,fun r hr=>?_,h3.setCell (p:=⟨k,0,none⟩) hw _⟩
 ·rcases hown with h | ⟨g,cap,cur,fz,r1,r2,r3,r4⟩
  ·exact .inl h
  ·exact .inr ⟨g,cap,cur,fz,r1,r2,(ho g (fun e=>q3 (by rw[r1,e];rfl))).trans r3,r4⟩
 ·rcases List.mem_cons.1 hr with rfl | hr
  ·exact⟨hs,q2,q3⟩
  ·obtain⟨z1,z2,z3⟩:=h2 r (List.mem_cons_of_mem _ hr)
   exact⟨(ho r.1 (hk r hr)).trans z1,z2,z3⟩
theorem ZmU (R2:List (Nat × Obj)) (w:World) (b pc pi pd:Nat) (d:Bool) (s1 s2 s3 s4 s5 s y:List UInt8) (hs:s.length≤1099511627776) (HY:Hid (bareT s=y)) (HH:Hid (((y == s1) || ((y == s2) || ((y == s3) || ((y == s4) || (y == s5)))))=false)) (o:Nat) (T Z:List UInt8) (HZ:Hid (T++(if selB d o=true then s else [])=Z)) (hZ:Z.length≤70368744177664) (u:World) (hP:Vsd w b ((pi,Obj.cells #[.int .i64 (pnI o)] 73)::((pc,Obj.cells #[.string ⟨s1.toArray⟩,.string ⟨s2.toArray⟩,.string ⟨s3.toArray⟩,.string ⟨s4.toArray⟩,.string ⟨s5.toArray⟩] 65)::(pd,.cells #[.bool d] 4)::R2)) T u) :
  Calls Tryz.prog 26 #[.string ⟨s.toArray⟩,.pointer (some ⟨pc,0,none⟩),.pointer (some ⟨pi,0,none⟩),.pointer (some ⟨pd,0,none⟩),.pointer (some ⟨b,0,none⟩)] u fun e u'=>e=.returned (.bool true)∧Vsd w b ((pi,Obj.cells #[.int .i64 (pnI o)] 73)::((pc,Obj.cells #[.string ⟨s1.toArray⟩,.string ⟨s2.toArray⟩,.string ⟨s3.toArray⟩,.string ⟨s4.toArray⟩,.string ⟨s5.toArray⟩] 65)::(pd,.cells #[.bool d] 4)::R2)) Z u':=by
 obtain⟨r,hr⟩:∃ r,selB d o=r:=⟨_,rfl⟩
 have hcn:=fun u=>ZmB o d u r hr
 have HZ2:Hid (T++(if r=true then s else [])=Z):=(by show _=_;rw[← hr];exact HZ.out)
 have hbr:=fun u=>Zmv s u (by omega)
 rw[HY.out] at hbr
 have hhs:=fun u=>ZmG y s1 s2 s3 s4 s5 u false HH
 clear HZ hr HY HH
 generalize pnI o=i at *
 go_enter Tryz.func26,Tryz.ntmps26
 go_wp2_with fail
 refine (hbr _).mono ?_
 rintro e w1 ⟨rfl,rfl⟩
 clear hbr
 have c0:u.cell? ⟨pc,0,none⟩=some (.string ⟨s1.toArray⟩):=hP.cell (k:=pc) (C:=#[.string ⟨s1.toArray⟩,.string ⟨s2.toArray⟩,.string ⟨s3.toArray⟩,.string ⟨s4.toArray⟩,.string ⟨s5.toArray⟩]) (t:=65) (fz:=(0,0)) (by simp) 0
 have c1:u.cell? ⟨pc,1,none⟩=some (.string ⟨s2.toArray⟩):=hP.cell (k:=pc) (C:=#[.string ⟨s1.toArray⟩,.string ⟨s2.toArray⟩,.string ⟨s3.toArray⟩,.string ⟨s4.toArray⟩,.string ⟨s5.toArray⟩]) (t:=65) (fz:=(0,0)) (by simp) 1
 have c2:u.cell? ⟨pc,2,none⟩=some (.string ⟨s3.toArray⟩):=hP.cell (k:=pc) (C:=#[.string ⟨s1.toArray⟩,.string ⟨s2.toArray⟩,.string ⟨s3.toArray⟩,.string ⟨s4.toArray⟩,.string ⟨s5.toArray⟩]) (t:=65) (fz:=(0,0)) (by simp) 2
 have c3:u.cell? ⟨pc,3,none⟩=some (.string ⟨s4.toArray⟩):=hP.cell (k:=pc) (C:=#[.string ⟨s1.toArray⟩,.string ⟨s2.toArray⟩,.string ⟨s3.toArray⟩,.string ⟨s4.toArray⟩,.string ⟨s5.toArray⟩]) (t:=65) (fz:=(0,0)) (by simp) 3
 have c4:u.cell? ⟨pc,4,none⟩=some (.string ⟨s5.toArray⟩):=hP.cell (k:=pc) (C:=#[.string ⟨s1.toArray⟩,.string ⟨s2.toArray⟩,.string ⟨s3.toArray⟩,.string ⟨s4.toArray⟩,.string ⟨s5.toArray⟩]) (t:=65) (fz:=(0,0)) (by simp) 4
 have e0:u.cell? ⟨pi,0,none⟩=some (.int .i64 (i)):=hP.cell (k:=pi) (C:=#[.int .i64 (i)]) (t:=73) (fz:=(0,0)) (by simp) 0
 have e1:u.cell? ⟨pd,0,none⟩=some (.bool d):=hP.cell (k:=pd) (C:=#[.bool d]) (t:=4) (fz:=(0,0)) (by simp) 0
 go_wp2_with fail
 refine (hhs _).mono ?_
 rintro e w2 ⟨rfl,hB2⟩
 have hP:=hP.keep hB2
 clear hhs hB2 c0 c1 c2 c3 c4 e0 e1
 have c0:w2.cell? ⟨pc,0,none⟩=some (.string ⟨s1.toArray⟩):=hP.cell (k:=pc) (C:=#[.string ⟨s1.toArray⟩,.string ⟨s2.toArray⟩,.string ⟨s3.toArray⟩,.string ⟨s4.toArray⟩,.string ⟨s5.toArray⟩]) (t:=65) (fz:=(0,0)) (by simp) 0
 have c1:w2.cell? ⟨pc,1,none⟩=some (.string ⟨s2.toArray⟩):=hP.cell (k:=pc) (C:=#[.string ⟨s1.toArray⟩,.string ⟨s2.toArray⟩,.string ⟨s3.toArray⟩,.string ⟨s4.toArray⟩,.string ⟨s5.toArray⟩]) (t:=65) (fz:=(0,0)) (by simp) 1
 have c2:w2.cell? ⟨pc,2,none⟩=some (.string ⟨s3.toArray⟩):=hP.cell (k:=pc) (C:=#[.string ⟨s1.toArray⟩,.string ⟨s2.toArray⟩,.string ⟨s3.toArray⟩,.string ⟨s4.toArray⟩,.string ⟨s5.toArray⟩]) (t:=65) (fz:=(0,0)) (by simp) 2
 have c3:w2.cell? ⟨pc,3,none⟩=some (.string ⟨s4.toArray⟩):=hP.cell (k:=pc) (C:=#[.string ⟨s1.toArray⟩,.string ⟨s2.toArray⟩,.string ⟨s3.toArray⟩,.string ⟨s4.toArray⟩,.string ⟨s5.toArray⟩]) (t:=65) (fz:=(0,0)) (by simp) 3
 have c4:w2.cell? ⟨pc,4,none⟩=some (.string ⟨s5.toArray⟩):=hP.cell (k:=pc) (C:=#[.string ⟨s1.toArray⟩,.string ⟨s2.toArray⟩,.string ⟨s3.toArray⟩,.string ⟨s4.toArray⟩,.string ⟨s5.toArray⟩]) (t:=65) (fz:=(0,0)) (by simp) 4
 have e0:w2.cell? ⟨pi,0,none⟩=some (.int .i64 (i)):=hP.cell (k:=pi) (C:=#[.int .i64 (i)]) (t:=73) (fz:=(0,0)) (by simp) 0
 have e1:w2.cell? ⟨pd,0,none⟩=some (.bool d):=hP.cell (k:=pd) (C:=#[.bool d]) (t:=4) (fz:=(0,0)) (by simp) 0
 go_wp2_with fail
 refine (hcn _).mono ?_
 rintro e w3 ⟨rfl,rfl⟩
 clear hcn c0 c1 c2 c3 c4 e0 e1
 cases r with
 | true =>
  have HZ3:Hid (T++s=Z):=HZ2
  go_wp2_with fail
  refine (hP.str HZ3.out hZ).mono ?_
  rintro e w4 ⟨⟨z,rfl⟩,hP⟩
  go_wp2
  go_ret
  exact⟨rfl,hP⟩
 | false =>
  have hz:T=Z:=(by have h:=HZ2.out;rw[if_neg (by decide),List.append_nil] at h;exact h)
  subst hz
  go_wp2
  go_ret
  exact⟨rfl,hP⟩
theorem ZmT (R2:List (Nat × Obj)) (w:World) (b pc pi pd:Nat) (hpc:pc≠pi) (hpd:pd≠pi) (hR2:∀ r∈R2,r.1≠pi) (hpi:w.heap.size≤pi) (d:Bool) (s1 s2 s3 s4 s5 s y:List UInt8) (hs:s.length≤1099511627776) (HY:Hid (bareT s=y)) (HH:Hid (((y == s1) || ((y == s2) || ((y == s3) || ((y == s4) || (y == s5)))))=true)) (i j:Int) (HB:Hid ((i=0∧(y == s1)=true∧j=2)∨(i=0∧(y == s1)=false∧(y == s2)=true∧j=1)∨(i=1∧(y == s3)=true∧j=2)∨(i=1∧(y == s3)=false∧(y == s5)=true∧j=0)∨(i=2∧(y == s4)=true∧j=0))) (T:List UInt8) (u:World) (hP:Vsd w b ((pi,Obj.cells #[.int .i64 i] 73)::((pc,Obj.cells #[.string ⟨s1.toArray⟩,.string ⟨s2.toArray⟩,.string ⟨s3.toArray⟩,.string ⟨s4.toArray⟩,.string ⟨s5.toArray⟩] 65)::(pd,.cells #[.bool d] 4)::R2)) T u) :
  Calls Tryz.prog 26 #[.string ⟨s.toArray⟩,.pointer (some ⟨pc,0,none⟩),.pointer (some ⟨pi,0,none⟩),.pointer (some ⟨pd,0,none⟩),.pointer (some ⟨b,0,none⟩)] u fun e u'=>e=.returned (.bool true)∧Vsd w b ((pi,Obj.cells #[.int .i64 j] 73)::((pc,Obj.cells #[.string ⟨s1.toArray⟩,.string ⟨s2.toArray⟩,.string ⟨s3.toArray⟩,.string ⟨s4.toArray⟩,.string ⟨s5.toArray⟩] 65)::(pd,.cells #[.bool d] 4)::R2)) T u':=by
 have hbr:=fun u=>Zmv s u (by omega)
 rw[HY.out] at hbr
 have hhs:=fun u=>ZmG y s1 s2 s3 s4 s5 u true HH
 have hbh:=fun u=>Zmw y s1 s2 s3 s4 s5 i j u HB.out
 clear HY HH HB
 go_enter Tryz.func26,Tryz.ntmps26
 go_wp2_with fail
 refine (hbr _).mono ?_
 rintro e w1 ⟨rfl,rfl⟩
 clear hbr
 have c0:u.cell? ⟨pc,0,none⟩=some (.string ⟨s1.toArray⟩):=hP.cell (k:=pc) (C:=#[.string ⟨s1.toArray⟩,.string ⟨s2.toArray⟩,.string ⟨s3.toArray⟩,.string ⟨s4.toArray⟩,.string ⟨s5.toArray⟩]) (t:=65) (fz:=(0,0)) (by simp) 0
 have c1:u.cell? ⟨pc,1,none⟩=some (.string ⟨s2.toArray⟩):=hP.cell (k:=pc) (C:=#[.string ⟨s1.toArray⟩,.string ⟨s2.toArray⟩,.string ⟨s3.toArray⟩,.string ⟨s4.toArray⟩,.string ⟨s5.toArray⟩]) (t:=65) (fz:=(0,0)) (by simp) 1
 have c2:u.cell? ⟨pc,2,none⟩=some (.string ⟨s3.toArray⟩):=hP.cell (k:=pc) (C:=#[.string ⟨s1.toArray⟩,.string ⟨s2.toArray⟩,.string ⟨s3.toArray⟩,.string ⟨s4.toArray⟩,.string ⟨s5.toArray⟩]) (t:=65) (fz:=(0,0)) (by simp) 2
 have c3:u.cell? ⟨pc,3,none⟩=some (.string ⟨s4.toArray⟩):=hP.cell (k:=pc) (C:=#[.string ⟨s1.toArray⟩,.string ⟨s2.toArray⟩,.string ⟨s3.toArray⟩,.string ⟨s4.toArray⟩,.string ⟨s5.toArray⟩]) (t:=65) (fz:=(0,0)) (by simp) 3
 have c4:u.cell? ⟨pc,4,none⟩=some (.string ⟨s5.toArray⟩):=hP.cell (k:=pc) (C:=#[.string ⟨s1.toArray⟩,.string ⟨s2.toArray⟩,.string ⟨s3.toArray⟩,.string ⟨s4.toArray⟩,.string ⟨s5.toArray⟩]) (t:=65) (fz:=(0,0)) (by simp) 4
 have e0:u.cell? ⟨pi,0,none⟩=some (.int .i64 (i)):=hP.cell (k:=pi) (C:=#[.int .i64 (i)]) (t:=73) (fz:=(0,0)) (by simp) 0
 have e1:u.cell? ⟨pd,0,none⟩=some (.bool d):=hP.cell (k:=pd) (C:=#[.bool d]) (t:=4) (fz:=(0,0)) (by simp) 0
 go_wp2_with fail
 refine (hhs _).mono ?_
 rintro e w2 ⟨rfl,hB2⟩
 have hP:=hP.keep hB2
 clear hhs hB2 c0 c1 c2 c3 c4 e0 e1
 have c0:w2.cell? ⟨pc,0,none⟩=some (.string ⟨s1.toArray⟩):=hP.cell (k:=pc) (C:=#[.string ⟨s1.toArray⟩,.string ⟨s2.toArray⟩,.string ⟨s3.toArray⟩,.string ⟨s4.toArray⟩,.string ⟨s5.toArray⟩]) (t:=65) (fz:=(0,0)) (by simp) 0
 have c1:w2.cell? ⟨pc,1,none⟩=some (.string ⟨s2.toArray⟩):=hP.cell (k:=pc) (C:=#[.string ⟨s1.toArray⟩,.string ⟨s2.toArray⟩,.string ⟨s3.toArray⟩,.string ⟨s4.toArray⟩,.string ⟨s5.toArray⟩]) (t:=65) (fz:=(0,0)) (by simp) 1
 have c2:w2.cell? ⟨pc,2,none⟩=some (.string ⟨s3.toArray⟩):=hP.cell (k:=pc) (C:=#[.string ⟨s1.toArray⟩,.string ⟨s2.toArray⟩,.string ⟨s3.toArray⟩,.string ⟨s4.toArray⟩,.string ⟨s5.toArray⟩]) (t:=65) (fz:=(0,0)) (by simp) 2
 have c3:w2.cell? ⟨pc,3,none⟩=some (.string ⟨s4.toArray⟩):=hP.cell (k:=pc) (C:=#[.string ⟨s1.toArray⟩,.string ⟨s2.toArray⟩,.string ⟨s3.toArray⟩,.string ⟨s4.toArray⟩,.string ⟨s5.toArray⟩]) (t:=65) (fz:=(0,0)) (by simp) 3
 have c4:w2.cell? ⟨pc,4,none⟩=some (.string ⟨s5.toArray⟩):=hP.cell (k:=pc) (C:=#[.string ⟨s1.toArray⟩,.string ⟨s2.toArray⟩,.string ⟨s3.toArray⟩,.string ⟨s4.toArray⟩,.string ⟨s5.toArray⟩]) (t:=65) (fz:=(0,0)) (by simp) 4
 have e0:w2.cell? ⟨pi,0,none⟩=some (.int .i64 (i)):=hP.cell (k:=pi) (C:=#[.int .i64 (i)]) (t:=73) (fz:=(0,0)) (by simp) 0
 have e1:w2.cell? ⟨pd,0,none⟩=some (.bool d):=hP.cell (k:=pd) (C:=#[.bool d]) (t:=4) (fz:=(0,0)) (by simp) 0
 go_wp2_with fail
 refine (hbh _).mono ?_
 rintro e w3 ⟨rfl,hB3⟩
 have hP:=hP.keep hB3
 clear hbh hB3 c0 c1 c2 c3 c4 e0 e1
 have e0:w3.cell? ⟨pi,0,none⟩=some (.int .i64 i):=hP.cell (k:=pi) (C:=#[.int .i64 i]) (t:=73) (fz:=(0,0)) (by simp) 0
 have f0:w3.frozen? ⟨pi,0,none⟩=false:=Lib.frozen_of_heap (hP.block (List.mem_cons_self ..)) 0
 have hP2:=hP.put (y:=.int .i64 j) (by
  intro r hr
  rcases List.mem_cons.1 hr with rfl | hr
  ·exact hpc
  ·rcases List.mem_cons.1 hr with rfl | hr
   ·exact hpd
   ·exact hR2 r hr) hpi
 clear hP
 go_wp2
 go_ret
 exact⟨rfl,hP2⟩
theorem Vsd.sub {w u:World} {b:Nat} {RS RS':List (Nat × Obj)} {T:List UInt8} (h:Vsd w b RS T u) (hs:∀ x∈RS',x∈RS):Vsd w b RS' T u:=by
 obtain⟨v,h1,h2,h3⟩:=h
 exact⟨v,h1,fun x hx=>h2 x (hs x hx),h3⟩
theorem Vsd.add {w u u':World} {b g:Nat} {o:Obj} {RS:List (Nat × Obj)} {T:List UInt8} (h:Vsd w b RS T u) (hb:Below u.heap.size u u') (hg:u.heap.size≤g) (hk:u'.heap[g]?=some o):Vsd w b ((g,o)::RS) T u':=by
 have h':=h.keep hb
 obtain⟨v,h1,h2,h3⟩:=h
 have hlt:=h1.lt
 refine⟨v,h1.kept hb.block,fun x hx=>?_,h'.low⟩
 rcases List.mem_cons.1 hx with rfl | hx
 ·refine⟨hk,by show g≠b;omega,?_⟩
  intro e
  have:=(h1.2.2.1.lt _ e).2
  omega
 ·obtain⟨q1,q2,q3⟩:=h2 x hx
  exact⟨(hb.block _ (Array.getElem?_eq_some_iff.1 q1).1).trans q1,q2,q3⟩
theorem ZjT {W:World} {B:Nat} {v:Value} {L:List (List UInt8)} (h:W.ownsRow B 9 1 v L.length (scells L)):(∀ u,HS u v L)∨∃ g o,B≤g∧W.heap[g]?=some o∧∀ u:World,u.heap[g]?=some o→HS u v L:=by
 rcases h.2 with ⟨rfl,h0⟩ | ⟨g,cap,cur,rfl,hB,hg,hr⟩
 ·exact .inl fun u=>holds_of (w:=u) (B:=0) (e:=9) ⟨h.1,.inl ⟨rfl,h0⟩⟩
 ·exact .inr ⟨g,_,hB,hg,fun u hu=>holds_of (w:=u) ⟨h.1,.inr ⟨g,cap,cur,rfl,hB,hu,hr⟩⟩⟩
def StP (nm:List UInt8) (d:Bool) (s1 s2 s3 s4 s5:List UInt8):Prop :=
 ∀ (s:List UInt8) (o p:Nat) (r:List (List UInt8)) (u:List UInt8),fdB s=true→rsE nm d o p (s::r)=.ok u→∀ y,bareT s=y →
  (((y == s1) || ((y == s2) || ((y == s3) || ((y == s4) || (y == s5)))))=false∧∃ u',rsE nm d o (p+1) r=.ok u'∧u=(if selB d o=true then s else [])++u')∨(((y == s1) || ((y == s2) || ((y == s3) || ((y == s4) || (y == s5)))))=true∧∃ o',((pnI o=0∧(y == s1)=true∧pnI o'=2)∨(pnI o=0∧(y == s1)=false∧(y == s2)=true∧pnI o'=1)∨(pnI o=1∧(y == s3)=true∧pnI o'=2)∨(pnI o=1∧(y == s3)=false∧(y == s5)=true∧pnI o'=0)∨(pnI o=2∧(y == s4)=true∧pnI o'=0))∧rsE nm d o' (p+1) r=.ok u)
theorem Zlv (nm:List UInt8) (d:Bool):StP nm d (cmL nm 1) (cmL nm 2) (cmL nm 3) (cmL nm 4) (cmL nm 5):=by
 rintro s o p r u hs h y rfl
 exact Zkd hs h
theorem ZmO (t nm:List UInt8) (d:Bool) (s1 s2 s3 s4 s5:List UInt8) (w:World) (R:List UInt8) (hRl:R.length≤1099511627776) (L:List (List UInt8)) (hLl:L.length≤1099511627776) (HFD:Hid (∀ s∈L,fdB s=true)) (HSL:Hid (∀ s∈L,s.length≤1099511627776)) (HX0:Hid (rsE nm d 0 0 (L.drop 0)=.ok R)) (HST:Hid (StP nm d s1 s2 s3 s4 s5))
  (hnm:∀ u:World,Calls Tryz.prog 17 #[.string ⟨nm.toArray⟩] u fun e w'=>e=.returned (.bool true)∧w'=u)
  (hcm:∀ u:World,Calls Tryz.prog 21 #[.string ⟨nm.toArray⟩] u fun e w'=>e=.returned (.agg #[.string ⟨s1.toArray⟩,.string ⟨s2.toArray⟩,.string ⟨s3.toArray⟩,.string ⟨s4.toArray⟩,.string ⟨s5.toArray⟩])∧Below u.heap.size u w')
  (hsp:∀ u:World,Calls Tryz.prog 6 #[.string ⟨t.toArray⟩] u fun e w'=>∃ v,e=.returned v∧w'.ownsRow u.heap.size 9 1 v L.length (scells L)∧Below u.heap.size u w') :
  Calls Tryz.prog 11 #[.string ⟨t.toArray⟩,.string ⟨nm.toArray⟩,.bool d] w fun e w'=>e=.returned (.tuple #[.string ⟨R.toArray⟩,.nilIface])∧Below w.heap.size w w':=by
 have hB0:Below w.heap.size w (w.alloc (.cells #[.bool d] 4)):=(Below.refl _ w).alloc (Nat.le_refl _) _
 have hN0:=heap_alloc_new w (.cells #[.bool d] 4)
 have hP:=Vsd.at1 w hB0 hN0
 rw[show (w.alloc (.cells #[.bool d] 4)).heap.size=w.heap.size+1 by simp] at hP
 clear hB0 hN0
 go_enter Tryz.func11,Tryz.ntmps11
 go_wp2_with fail
 refine (hnm _).mono ?_
 rintro e w1 ⟨rfl,hw1⟩
 subst hw1
 go_wp2_with fail
 refine (hcm _).mono ?_
 rintro e w2 ⟨rfl,hB2⟩
 have hP:=hP.keep hB2
 have hP:=(hP.more (.cells #[.string ⟨s1.toArray⟩,.string ⟨s2.toArray⟩,.string ⟨s3.toArray⟩,.string ⟨s4.toArray⟩,.string ⟨s5.toArray⟩] 65)).more (.cells #[.int .i64 0] 73)
 rw[show (w2.alloc (.cells #[.string ⟨s1.toArray⟩,.string ⟨s2.toArray⟩,.string ⟨s3.toArray⟩,.string ⟨s4.toArray⟩,.string ⟨s5.toArray⟩] 65)).heap.size=w2.heap.size+1 by simp] at hP
 have hsz:=hB2.size
 simp only[World.size_alloc] at hsz
 clear hB2
 have hP0:Vsd w (w.heap.size+1) [(w2.heap.size+1,.cells #[.int .i64 0] 73),(w2.heap.size,.cells #[.string ⟨s1.toArray⟩,.string ⟨s2.toArray⟩,.string ⟨s3.toArray⟩,.string ⟨s4.toArray⟩,.string ⟨s5.toArray⟩] 65),(w.heap.size,.cells #[.bool d] 4)] [] _:=hP
 clear hP
 go_wp2_with fail
 refine (hsp _).mono ?_
 rintro e w3 ⟨v,rfl,hO,hB3⟩
 have hR2:∃ R2:List (Nat × Obj),(∀ r∈R2,r.1≠w2.heap.size+1)∧Vsd w (w.heap.size+1) (((w2.heap.size+1,Obj.cells #[.int .i64 0] 73)::(w2.heap.size,.cells #[.string ⟨s1.toArray⟩,.string ⟨s2.toArray⟩,.string ⟨s3.toArray⟩,.string ⟨s4.toArray⟩,.string ⟨s5.toArray⟩] 65)::(w.heap.size,.cells #[.bool d] 4)::R2)) [] w3∧∀ (x:Int) (T:List UInt8) (u:World),Vsd w (w.heap.size+1) (((w2.heap.size+1,Obj.cells #[.int .i64 x] 73)::(w2.heap.size,.cells #[.string ⟨s1.toArray⟩,.string ⟨s2.toArray⟩,.string ⟨s3.toArray⟩,.string ⟨s4.toArray⟩,.string ⟨s5.toArray⟩] 65)::(w.heap.size,.cells #[.bool d] 4)::R2)) T u→HS u v L:=(by
  rcases ZjT hO with h | ⟨g,o,hg,hgo,hu⟩
  ·exact⟨[],by simp,hP0.keep hB3,fun _ _ u _=>h u⟩
  ·refine⟨[(g,o)],?_,(hP0.add hB3 hg hgo).sub ?_,fun _ _ u h=>hu u (h.block (by simp))⟩
   ·intro r hr
    rw[List.mem_singleton.1 hr]
    simp only[World.size_alloc] at hg
    show g≠_
    omega
   ·intro x hx
    simp only[List.mem_cons,List.not_mem_nil,or_false] at hx ⊢
    rcases hx with h | h | h | h
    ·exact .inr (.inl h)
    ·exact .inr (.inr (.inl h))
    ·exact .inr (.inr (.inr h))
    ·exact .inl h)
 obtain⟨R2,hne,hP,hsx⟩:=hR2
 have HNE:Hid (∀ r∈R2,r.1≠w2.heap.size+1):=hne
 have HSX:Hid (∀ (x:Int) (T:List UInt8) (u:World),Vsd w (w.heap.size+1) (((w2.heap.size+1,Obj.cells #[.int .i64 x] 73)::(w2.heap.size,.cells #[.string ⟨s1.toArray⟩,.string ⟨s2.toArray⟩,.string ⟨s3.toArray⟩,.string ⟨s4.toArray⟩,.string ⟨s5.toArray⟩] 65)::(w.heap.size,.cells #[.bool d] 4)::R2)) T u→HS u v L):=hsx
 clear hP0 hO hB3 hne hsx hsp hnm hcm
 obtain⟨vo,vc,rfl⟩:=Holds.form (HSX.out _ _ _ hP)
 have hpi:w.heap.size≤w2.heap.size+1:=by omega
 have hpc:w2.heap.size≠w2.heap.size+1:=by omega
 have hpd:w.heap.size≠w2.heap.size+1:=by omega
 go_wp2
 go_loopw [29] (fun i wr=>∃ (k o:Nat) (P Q:List UInt8),k≤L.length∧i=.int .i64 (k:Int)∧Vsd w (w.heap.size+1) (((w2.heap.size+1,Obj.cells #[.int .i64 (pnI o)] 73)::(w2.heap.size,.cells #[.string ⟨s1.toArray⟩,.string ⟨s2.toArray⟩,.string ⟨s3.toArray⟩,.string ⟨s4.toArray⟩,.string ⟨s5.toArray⟩] 65)::(w.heap.size,.cells #[.bool d] 4)::R2)) P wr∧Hid (rsE nm d o k (L.drop k)=.ok Q)∧Hid (P++Q=R)) (fun i _=>L.length-(intOf i).toNat)
 case atStart=>exact⟨0,0,[],R,Nat.zero_le _,by go_num,hP,HX0,rfl⟩
 case round =>
 clear HX0 hP
 obtain⟨k,o,P,Q,hk,rfl,hP,HI,HQ⟩:=hrel
 by_cases hlt:k<L.length
 ·obtain⟨bk,off,rfl,hbk,hc⟩:=HS.at (HSX.out _ _ _ hP) (by omega)
  have c0:=hc k hlt
  have hI:=HI.out
  rw[List.drop_eq_getElem_cons hlt] at hI
  have l3:=HSL.out L[k] (List.getElem_mem hlt)
  have l4:=HFD.out L[k] (List.getElem_mem hlt)
  obtain⟨s,hs⟩:∃ s,L[k]=s:=⟨_,rfl⟩
  rw[hs] at c0 hI l3 l4
  have i1:(0:Int)≤(k:Int):=by omega
  have i2:(k:Int)<(L.length:Int):=by omega
  have hQ:=HQ.out
  clear hc hs HI HQ
  rcases HST.out _ _ _ _ _ l4 hI _ rfl with ⟨hh,u',hu,rfl⟩ | ⟨hh,o',hb,hu⟩
  ·obtain⟨P1,hP1⟩:∃ Z,P++(if selB d o=true then s else [])=Z:=⟨_,rfl⟩
   rw[← List.append_assoc,hP1] at hQ
   have z1:P1.length≤70368744177664:=(by have:=congrArg List.length hQ;rw[List.length_append] at this;omega)
   have hcall:=ZmU R2 w (w.heap.size+1) w2.heap.size (w2.heap.size+1) w.heap.size d s1 s2 s3 s4 s5 s _ l3 rfl hh o P P1 hP1 z1 _ hP
   have HU:Hid (rsE nm d o (k+1) (L.drop (k+1))=.ok u'):=hu
   have HQ2:Hid (P1++u'=R):=hQ
   clear hI hP hP1 hh hQ hu l4
   go_wp2_with fail
   refine hcall.mono ?_
   rintro e w4 ⟨rfl,hP⟩
   clear hcall c0
   go_wp2
   exact⟨⟨k+1,o,P1,u',by omega,by go_num,hP,HU,HQ2⟩,by simp[intOf];omega⟩
  ·have hcall:=ZmT R2 w (w.heap.size+1) w2.heap.size (w2.heap.size+1) w.heap.size hpc hpd HNE.out hpi d s1 s2 s3 s4 s5 s _ l3 rfl hh (pnI o) (pnI o') hb P _ hP
   have HU:Hid (rsE nm d o' (k+1) (L.drop (k+1))=.ok Q):=hu
   have HQ2:Hid (P++Q=R):=hQ
   clear hI hP hh hQ hu hb l4
   go_wp2_with fail
   refine hcall.mono ?_
   rintro e w4 ⟨rfl,hP⟩
   clear hcall c0
   go_wp2
   exact⟨⟨k+1,o',P,Q,by omega,by go_num,hP,HU,HQ2⟩,by simp[intOf];omega⟩
 ·have hend:¬ (k:Int)<(L.length:Int):=by omega
  have hI:=HI.out
  rw[List.drop_of_length_le (by omega),rsE] at hI
  have ho:o=0:=(by
   by_cases h:o=0
   ·exact h
   ·rw[if_neg h] at hI;cases hI)
  subst ho
  rw[if_pos rfl] at hI
  cases hI
  have hQ:=HQ.out
  rw[List.append_nil] at hQ
  subst hQ
  have e0:wr.cell? ⟨w2.heap.size+1,0,none⟩=some (.int .i64 0):=hP.cell (k:=w2.heap.size+1) (C:=#[.int .i64 0]) (t:=73) (fz:=(0,0)) (List.mem_cons_self ..) 0
  clear HI HQ
  go_wp2_with fail
  refine hP.text.mono ?_
  rintro e w5 ⟨rfl,hb5⟩
  go_wp2
  go_ret2
  exact⟨rfl,hb5⟩
theorem ZmP (t nm:List UInt8) (d:Bool) (w:World) (ht:t.length≤1099511627776) (hn:nm.length≤1099511627776) (R:List UInt8) (HFD:Hid (∀ s∈Ln.splitL t,fdB s=true)) (HX:Hid (rsT t nm d=.ok R)) :
  Calls Tryz.prog 11 #[.string ⟨t.toArray⟩,.string ⟨nm.toArray⟩,.bool d] w fun e w'=>e=.returned (.tuple #[.string ⟨R.toArray⟩,.nilIface])∧Below w.heap.size w w':=by
 have hcb:cnB nm=true:=(by
  cases hb:cnB nm with
  | true=>rfl
  | false=>have h:=HX.out;unfold rsT at h;rw[hb] at h;cases h)
 have hX2:rsE nm d 0 0 (Ln.splitL t)=.ok R:=(by have h:=HX.out;unfold rsT at h;rw[if_pos hcb] at h;exact h)
 have hRl:=Zkf _ _ _ _ hX2
 rw[Ln.split_join] at hRl
 have hsl:∀ s∈Ln.splitL t,s.length≤t.length:=(fun s hs=>by
  have h:=Znj hs
  rw[Ln.split_join] at h
  exact h)
 have HSL:Hid (∀ s∈Ln.splitL t,s.length≤1099511627776):=fun s hs=>Nat.le_trans (hsl s hs) ht
 have hLl:=Ln.split_len t
 exact ZmO t nm d _ _ _ _ _ w R (by omega) (Ln.splitL t) (by omega) HFD HSL hX2 (Zlv nm d) (fun u=>ZmN nm u true hcb) (fun u=>ZmA nm u hn) (fun u=>ZhK t u ht)
end

section
open Go.RowKit Go.Proofs.YtcnjephlmcnodaaGreatDoor.Tx
attribute [local go_sem] ZhN
attribute [local simp] ZgX Zmu
end

section
open Go.RowKit Go.Proofs.YtcnjephlmcnodaaGreatDoor.Tx
theorem Zeb {α:Type} (f:α→List (List UInt8)) (M:Nat) (L:List α) (h:∀ x∈L,(f x).flatten.length≤M):(L.flatMap f).flatten.length≤L.length * M:=by
 induction L with
 | nil=>simp
 | cons x L ih =>
  have h1:=h x (by simp)
  have h2:=ih fun y hy=>h y (by simp[hy])
  rw[List.flatMap_cons,List.flatten_append,List.length_append,List.length_cons,Nat.succ_mul]
  omega
theorem ZbA (s:List UInt8):(bareT s).length≤s.length:=by
 unfold bareT
 split
 ·rw[List.length_dropLast];omega
 ·exact Nat.le_refl _
theorem ZnU (A:List (List UInt8)):(wlL A).flatten.length≤A.flatten.length+A.length:=by
 induction A with
 | nil=>exact Nat.le_refl _
 | cons s A ih =>
  have h:=ZbA s
  unfold wlL at ih ⊢
  simp only[List.map_cons,List.flatten_cons,List.length_append,List.length_cons,List.length_nil]
  omega
theorem Zcy (nm:List UInt8) (k:Nat):(cmT nm k).length≤nm.length+16:=by
 unfold cmT
 split<;>simp only[List.length_append,List.length_cons,List.length_nil]<;>omega
theorem Zfx (nm:List UInt8) (o w:List (List UInt8)):(ifC nm o w).flatten.length≤(wlL o).flatten.length+(wlL w).flatten.length+3 * nm.length+48:=by
 have h1:=Zcy nm 1
 have h2:=Zcy nm 2
 have h3:=Zcy nm 3
 have h4:=Zcy nm 4
 have h5:=Zcy nm 5
 unfold ifC
 split
 ·simp
 ·split
  ·simp only[List.flatten_cons,List.flatten_append,List.flatten_nil,List.length_append,List.append_nil];omega
  ·split
   ·simp only[List.flatten_cons,List.flatten_append,List.flatten_nil,List.length_append,List.append_nil];omega
   ·simp only[List.flatten_cons,List.flatten_append,List.flatten_nil,List.length_append,List.append_nil];omega
theorem Zfz (nm:List UInt8) (l:List Ch) (A B:List (List UInt8)):(ifL nm l A B).flatten.length≤(l.length+1) * (2 * (wlL A).flatten.length+(wlL B).flatten.length+3 * nm.length+48):=by
 rw[← ZiI 0 0 A.length B.length l]
 refine Zeb _ _ _ fun x _=>?_
 unfold ifP
 rw[List.flatten_append,List.length_append]
 have h1:=ZnQ A x.1.a x.1.n
 have h2:=ZnQ A x.2.A x.2.AN
 have h3:=ZnQ B x.2.B x.2.BN
 have h4:=Zfx nm (cut A x.2.A x.2.AN) (cut B x.2.B x.2.BN)
 omega
theorem Zgm (w:Nat):∀ x y:List (List UInt8),(krT w x y).flatten.length≤x.length * (2 * w+4):=by
 intro x
 induction x with
 | nil=>intro y;simp[krT]
 | cons s x ih =>
  intro y
  cases y with
  | nil=>simp[krT]
  | cons t y =>
   have h1:=ih y
   have h2:=Zno w s 32 t
   unfold krT at h1 ⊢
   rw[List.zipWith_cons_cons,List.flatten_cons,List.length_append,List.length_cons,Nat.succ_mul]
   omega
theorem ZcU (w:Nat):∀ x y:List (List UInt8),(crT w x y).flatten.length≤(x.length+y.length) * (2 * w+4):=by
 intro x
 induction x with
 | nil =>
  intro y
  induction y with
  | nil=>simp[crT]
  | cons t y ih =>
   have h2:=Zno w [] 62 t
   simp only[crT,List.map_cons,List.flatten_cons,List.length_append,List.length_cons,List.length_nil,Nat.zero_add] at ih ⊢
   rw[Nat.succ_mul]
   omega
 | cons s x ih =>
  intro y
  cases y with
  | nil =>
   have h1:=ih []
   have h2:=Zno w s 60 []
   simp only[crT,List.flatten_cons,List.length_append,List.length_cons,List.length_nil,Nat.add_zero] at h1 ⊢
   rw[Nat.succ_mul]
   omega
  | cons t y =>
   have h1:=ih y
   have h2:=Zno w s 124 t
   simp only[crT,List.flatten_cons,List.length_append,List.length_cons] at h1 ⊢
   have e:(x.length+1+(y.length+1)) * (2 * w+4)=(x.length+y.length) * (2 * w+4)+(2 * w+4)+(2 * w+4):=by
    rw[show x.length+1+(y.length+1)=x.length+y.length+1+1 by omega,Nat.succ_mul,Nat.succ_mul]
   omega
theorem Znp (w:Nat) (l:List Ch) (A B:List (List UInt8)):(vsL w l A B).flatten.length≤(l.length+1) * ((2 * A.length+B.length) * (2 * w+4)):=by
 rw[← ZiI 0 0 A.length B.length l]
 refine Zeb _ _ _ fun x _=>?_
 unfold vsP
 rw[List.flatten_append,List.length_append]
 have h1:=Zgm w (cut A x.1.a x.1.n) (cut B x.1.b x.1.n)
 have h2:=ZcU w (cut A x.2.A x.2.AN) (cut B x.2.B x.2.BN)
 have e1:=@Zdl A x.1.a x.1.n
 have e2:=@Zdl A x.2.A x.2.AN
 have e3:=@Zdl B x.2.B x.2.BN
 have g1:(cut A x.1.a x.1.n).length * (2 * w+4)≤A.length * (2 * w+4):=Nat.mul_le_mul_right _ e1
 have g2:((cut A x.2.A x.2.AN).length+(cut B x.2.B x.2.BN).length) * (2 * w+4)≤(A.length+B.length) * (2 * w+4):=Nat.mul_le_mul_right _ (by omega)
 have g3:(2 * A.length+B.length) * (2 * w+4)=A.length * (2 * w+4)+(A.length+B.length) * (2 * w+4):=by rw[← Nat.add_mul];congr 1;omega
 omega
theorem Zhv {s:List UInt8} {A:List (List UInt8)} {n:Nat} (h:s∈A) (hn:A.flatten.length≤n):s.length≤n:=Nat.le_trans (Znj h) hn
end

section
open Go.RowKit Go.Proofs.YtcnjephlmcnodaaGreatDoor.Tx
attribute [local go_sem] ZhN
theorem ZdN {X:List (List UInt8)} (h:Fed X):∀ s∈Ln.splitL X.flatten,fdB s=true:=by
 rw[ZdP h]
 intro s hs
 obtain⟨t,rfl,_⟩:=h s hs
 simp[fdB]
theorem ZnE {l:List UInt8} (h0:0<l.length) (h:l[l.length-1]≠10):whT l=l++[10]:=by
 have hf:=(Zbx h0 h).2
 unfold whT
 rw[if_neg]
 rintro (rfl | h2)
 ·cases h0
 ·rw[hf] at h2;cases h2
theorem ZnD {l:List UInt8} (h0:0<l.length) (h:l[l.length-1]=10):whT l=l:=by
 have hf:=(Zby h0 h).2
 unfold whT
 rw[if_pos (.inr hf)]
theorem Zhg (l:List UInt8) (w:World) (hl:l.length≤1099511627776) :
  Calls Tryz.prog 7 #[.string ⟨l.toArray⟩] w fun e w'=>e=.returned (.string ⟨(whT l).toArray⟩)∧w=w':=by
 rcases Nat.eq_zero_or_pos l.length with h0 | h0
 ·obtain rfl:=List.eq_nil_of_length_eq_zero h0
  go_enter Tryz.func7,Tryz.ntmps7
  go_wp2
  go_ret
  exact⟨rfl,rfl⟩
 ·have hne:l.isEmpty=false:=(by cases l with | nil=>cases h0 | cons _ _=>rfl)
  have hi:(((l.length:Int)-1).toNat)=l.length-1:=by omega
  have i1:0≤(l.length:Int)-1:=by omega
  have i2:(l.length:Int)-1<(l.length:Int):=by omega
  by_cases h:l[l.length-1]=10
  ·rw[ZnD h0 h]
   have hb:((l[l.length-1].toNat:Int) != 10)=false:=by rw[h];rfl
   clear h
   go_enter Tryz.func7,Tryz.ntmps7
   go_wp2
   go_ret
   exact⟨rfl,rfl⟩
  ·rw[ZnE h0 h]
   have hb:((l[l.length-1].toNat:Int) != 10)=true:=(by
    rw[bne_iff_ne]
    intro hq
    exact h (UInt8.toNat_inj.1 (by show _=10;omega)))
   have q1:=Zbg (x:=l) (y:=[10]) (by unfold Fits;simp only[List.length_cons,List.length_nil];omega) Tryz.prog
   clear h
   go_enter Tryz.func7,Tryz.ntmps7
   go_wp2
   go_ret
   exact⟨rfl,rfl⟩
def wkA:List (List UInt8):=[[49,10],[50,10],[51,10]]
def wkB:List (List UInt8):=[[49,10],[120,10]]
def wkL:List Ch:=[⟨1,2,1,1⟩]
def wkS:List UInt8:=[49,32,32,32,32,32,49,10,50,32,32,32,124,32,120,10,51,32,32,32,60,10]
def wkI:List UInt8:=[49,10,35,105,102,110,100,101,102,32,78,10,50,10,51,10,35,101,108,115,101,32,47,42,32,78,32,42,47,10,120,10,35,101,110,100,105,102,32,47,42,32,78,32,42,47,10]
theorem ZnN:Script wkL wkA.length wkB.length:=@of_decide_eq_true _ (decScript _ _ _) rfl
theorem wk_s:vsE wkL wkA.length wkB.length 3=0∧(vsL 3 wkL wkA wkB).flatten=wkS:=⟨by unfold vsE;rw[Zcj ZnN];rfl,by decide +kernel⟩
theorem wk_i:ifE wkL wkA.length wkB.length [78]=0∧(ifL [78] wkL wkA wkB).flatten=wkI:=⟨by unfold ifE;rw[Zcj ZnN];rfl,by decide +kernel⟩
theorem wk_r:rsT wkI [78] true=.ok [49,10,120,10]:=by kernel_rfl
theorem ZnM:∀ s∈Ln.splitL wkI,fdB s=true:=fun s hs=>List.all_eq_true.1 (show (Ln.splitL wkI).all fdB=true by kernel_rfl) s hs
theorem ZnO (A:List (List UInt8)) (h:A=wkA∨A=wkB):∀ s∈A,s.length≤1099511627776:=by
 rcases h with rfl | rfl<;>(intro s hs;simp[wkA,wkB] at hs;rcases hs with rfl | rfl | rfl<;>decide)
theorem ZnC (w:World):Calls Tryz.prog 5 #[] w fun e w'=>e=.returned (.bool true)∧Below w.heap.size w w':=by
 go_enter Tryz.func5,Tryz.ntmps5
 go_wp2_with fail
 generalize hW1:w.alloc (Obj.cells #[Value.string { data:=#[49,10] },Value.string { data:=#[50,10] },Value.string { data:=#[51,10] }] 9)=W1
 have z1:W1.heap.size=w.heap.size+1:=by rw[← hW1];exact World.size_alloc _ _
 have b1:Below w.heap.size w W1:=by rw[← hW1];exact (Below.refl _ w).alloc (Nat.le_refl _) _
 have x1:HS W1 (.slice (some ⟨w.heap.size,0,none⟩) 3 3) wkA:=by rw[← hW1];exact ZhL w _ _ _ _ (by decide)
 clear hW1
 generalize hW2:W1.alloc (Obj.cells #[Value.string { data:=#[49,10] },Value.string { data:=#[120,10] }] 9)=W2
 have z2:W2.heap.size=w.heap.size+1+1:=by rw[← hW2,World.size_alloc,z1]
 have b2:Below W1.heap.size W1 W2:=by rw[← hW2];exact (Below.refl _ W1).alloc (Nat.le_refl _) _
 have x2:HS W2 (.slice (some ⟨w.heap.size+1,0,none⟩) 2 2) wkB:=by rw[← hW2];exact ZhM W1 _ z1 _ _ _ _ (by decide)
 clear hW2
 generalize hW3:W2.alloc (Obj.cells #[Value.int IntKind.i64 1,Value.int IntKind.i64 2,Value.int IntKind.i64 1,Value.int IntKind.i64 1] 43)=W3
 have b3:Below W2.heap.size W2 W3:=by rw[← hW3];exact (Below.refl _ W2).alloc (Nat.le_refl _) _
 have x3:HCh W3 (.slice (some ⟨w.heap.size+1+1,0,none⟩) 1 1) wkL:=by rw[← hW3];exact ZhM W2 _ z2 _ _ _ _ (by decide)
 clear hW3
 have y2:HS W3 (.slice (some ⟨w.heap.size+1,0,none⟩) 2 2) wkB:=x2.keep b3 (Nat.le_refl _)
 have y1:HS W3 (.slice (some ⟨w.heap.size,0,none⟩) 3 3) wkA:=(x1.keep b2 (Nat.le_refl _)).keep b3 (Nat.le_refl _)
 have hB0:Below w.heap.size w W3:=(b1.trans (b2.mono b1.size)).trans (b3.mono (by omega))
 clear x1 x2 b1 b2 b3 z1 z2
 have hc1:=ZmS wkL wkA wkB 3 _ _ _ W3 x3 y1 y2 (by decide) (by decide) (by decide) (ZnO _ (.inl rfl)) (ZnO _ (.inr rfl)) 0 wk_s.1 wkS (by show _=_;rw[if_pos rfl];exact wk_s.2)
 refine hc1.mono ?_
 rintro e w1 ⟨rfl,hB1⟩
 have hB01:=hB0.trans (hB1.mono hB0.size)
 have hc2:=ZmH wkL wkA wkB [78] _ _ _ w1 (x3.keep hB1 (Nat.le_refl _)) (y1.keep hB1 (Nat.le_refl _)) (y2.keep hB1 (Nat.le_refl _)) (by decide) (by decide) (by decide) (ZnO _ (.inl rfl)) (ZnO _ (.inr rfl)) 0 wk_i.1 wkI (by show _=_;rw[if_pos rfl];exact wk_i.2) (by decide)
 clear hc1 hB0 hB1 x3 y1 y2
 go_wp2_with fail
 refine hc2.mono ?_
 rintro e w2 ⟨rfl,hB2⟩
 have hB02:=hB01.trans (hB2.mono hB01.size)
 have hc3:=ZmP wkI [78] true w2 (by decide) (by decide) [49,10,120,10] ZnM wk_r
 clear hc2 hB01 hB2
 go_wp2_with fail
 refine hc3.mono ?_
 rintro e w3 ⟨rfl,hB3⟩
 have hB03:=hB02.trans (hB3.mono hB02.size)
 clear hc3 hB02 hB3
 go_wp2
 go_ret
 exact⟨rfl,hB03⟩
end

section
open Ln Go.RowKit
end

section
open Ln Go.RowKit
end

section
open Go.RowKit
end

section
open Go.RowKit
end

end Go.Proofs.YtcnjephlmcnodaaGreatDoor
