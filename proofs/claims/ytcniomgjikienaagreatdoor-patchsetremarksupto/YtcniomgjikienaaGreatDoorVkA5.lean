/-
  Texts that belong together, joined: UnM3, PsM1, PsM2, PsM3, PsM4, NoB, NpS, NoJn, NoTx, NoRf, NoCg, PsA, PsB, NoPs, NpN, QsA, QsC, QsD, PsC, NoRd, NoPk, NoMk, NoWs, NoPr, NoLen, NcW, PtL, NcL.
-/
import Derived.Test.YtcniomgjikienaaGreatDoorVkA4
import Derived.BigQuiet
import Derived.Lib.ItoaNum
import Derived.Laws.IdiomStrings
import Derived.Deep.RegionHeld3
import Derived.Deep.CutBlock
import Derived.Deep.DeepCutAuto
import Derived.Lib.OthersKept
import Derived.Laws.RangeAny
import Derived.Laws.EntriesVeiled
import Derived.Deep.DeepRowAt
import Derived.Shelf.Strings.BuilderK
import Derived.Test.YtcniomgjikienaaGreatDoorProg
import Derived.Lib.AppendIntMem
import Derived.Lib.FrozenHead2

set_option maxHeartbeats 16000000
set_option maxRecDepth 100000
namespace Go.Proofs.YtcniomgjikienaaGreatDoor

section
open Ln
theorem Zhw {c:UInt8} (h:okC c=true):c=32∨c=45∨c=43:=by
 simp only[okC,Bool.or_eq_true,beq_iff_eq] at h
 rcases h with (h | h) | h
 ·exact .inl h
 ·exact .inr (.inl h)
 ·exact .inr (.inr h)
theorem ZkR {c:UInt8} (h:okC c=true) (t:List UInt8):okS (⟨c.toNat,t⟩:Mk).sg=true∧sgO ⟨c.toNat,t⟩=tkO c∧sgN ⟨c.toNat,t⟩=tkN c∧((c == 43)=decide (((c.toNat:Nat):Int)=43))∧((c == 45)=decide (((c.toNat:Nat):Int)=45)):=by
 unfold sgO sgN
 rcases Zhw h with rfl | rfl | rfl<;>exact⟨rfl,rfl,rfl,rfl,rfl⟩
theorem Zlx {a b p p1:Nat} {ls r:List (List UInt8)} {m:Mk} (hP:Plain ls) (h:ulnP a b p ls=.ok (m,p1,r)):linB m.tx=true∧okS m.sg=true∧sgO m≤a∧sgN m≤b∧(fdB m.tx=false→(m.sg=43∨a-sgO m=0)∧(m.sg=45∨b-sgN m=0))∧Plain r∧ls.length+p=r.length+p1∧r.length<ls.length:=by
 unfold ulnP at h
 split at h
 ·cases h
 ·cases h
 ·rename_i c t r0 hn
  have hls:=Zhp hn
  obtain⟨a1,a2⟩:=Zho hP hn
  have hct:∀ d∈t,d≠10:=by
   have h0:=hP ((c::t)++[10]) (by rw[hls];simp)
   rw[List.dropLast_concat] at h0
   exact fun d hd=>h0 d (by simp[hd])
  split at h
  ·rename_i hc
   obtain⟨hc1,hc2,hc3⟩:=hc
   split at h
   ·rename_i he
    cases h
    obtain⟨s1,s2,s3,s4,s5⟩:=ZkR hc1 t
    obtain⟨he1,he2,he3⟩:=he
    have hlen:r0.tail.length+1=r0.length:=by
     cases r0 with
     | nil=>exact absurd he3 (by decide)
     | cons=>simp
    refine⟨Zfx hct he2,s1,by rw[s2];exact hc2,by rw[s3];exact hc3,fun _=>?_,fun y hy=>a2 y (List.mem_of_mem_tail hy),by omega,by omega⟩
    unfold uendB at he1
    rw[s4,s5] at he1
    simp only[Bool.and_eq_true,Bool.or_eq_true,decide_eq_true_eq,beq_iff_eq] at he1
    rw[s2,s3]
    exact he1
   ·cases h
    obtain⟨s1,s2,s3,s4,s5⟩:=ZkR hc1 (t++[10])
    refine⟨Zfy hct,s1,by rw[s2];exact hc2,by rw[s3];exact hc3,fun hf=>?_,a2,by omega,by omega⟩
    rw[Zdf] at hf
    cases hf
  ·cases h
theorem ZlR (n:Nat):∀ {a b p p1:Nat} {ls r:List (List UInt8)} {l:List Mk},Plain ls→a+b≤n→urdP n a b p ls=.ok (l,p1,r)→(∀ m∈l,linB m.tx=true∧okS m.sg=true)∧(pkL 43 l).length=a∧(pkL 45 l).length=b∧abl (pkL 43 l)=true∧abl (pkL 45 l)=true∧Plain r∧ls.length+p=r.length+p1∧r.length≤ls.length:=by
 induction n with
 | zero =>
  intro a b p p1 ls r l hP hn h
  simp only[urdP] at h
  cases h
  refine⟨fun m hm=>(by cases hm),?_,?_,rfl,rfl,hP,rfl,Nat.le_refl _⟩
  ·simp only[pkL,List.length_nil];omega
  ·simp only[pkL,List.length_nil];omega
 | succ n ih =>
  intro a b p p1 ls r l hP hn h
  simp only[urdP] at h
  split at h
  ·cases h
   refine⟨fun m hm=>(by cases hm),?_,?_,rfl,rfl,hP,rfl,Nat.le_refl _⟩
   ·simp only[pkL,List.length_nil];omega
   ·simp only[pkL,List.length_nil];omega
  ·split at h
   ·cases h
   ·rename_i m q1 r1 h1
    obtain⟨a1,a2,a3,a4,a5,a6,a7,a8⟩:=Zlx hP h1
    split at h
    ·cases h
    ·rename_i l2 q2 r2 h2
     have hs:1≤sgO m+sgN m:=by
      unfold sgO sgN
      by_cases e:m.sg=43
      ·rw[if_neg (by omega:¬ m.sg=45)]
       omega
      ·rw[if_neg e]
       omega
     obtain⟨b1,b2,b3,b4,b5,b6,b7,b8⟩:=ih a6 (by omega) h2
     cases h
     have k43:=Ziq a2 l2
     have k45:=Zir a2 l2
     refine⟨?_,by omega,by omega,?_,?_,b6,by omega,by omega⟩
     ·intro x hx
      rcases List.mem_cons.1 hx with rfl | hx
      ·exact⟨a1,a2⟩
      ·exact b1 x hx
     ·simp only[pkL]
      split
      ·rename_i hq
       simp only[abl,Bool.and_eq_true,Bool.or_eq_true]
       refine⟨?_,b4⟩
       cases hf:fdB m.tx with
       | true=>exact .inr rfl
       | false =>
        rcases (a5 hf).1 with e | e
        ·exact absurd e hq.1
        ·left
         have:(pkL 43 l2).length=0:=by omega
         simpa using this
      ·exact b4
     ·simp only[pkL]
      split
      ·rename_i hq
       simp only[abl,Bool.and_eq_true,Bool.or_eq_true]
       refine⟨?_,b5⟩
       cases hf:fdB m.tx with
       | true=>exact .inr rfl
       | false =>
        rcases (a5 hf).2 with e | e
        ·exact absurd e hq.1
        ·left
         have:(pkL 45 l2).length=0:=by omega
         simpa using this
      ·exact b5
theorem ZbO {s:List UInt8} {q n:Int} (h:cntP s=some (q,n)):0≤q∧q≤2147483647∧0≤n∧n≤2147483647:=by
 unfold cntP at h
 split at h
 ·rename_i x c y _
  split at h
  ·cases h
   have h1:=ZiG (s:=x)
   have h2:=ZiG (s:=y)
   omega
  ·cases h
 ·split at h
  ·cases h
   have h1:=ZiG (s:=s)
   omega
  ·cases h
theorem Zle {s:List UInt8} {A AN B BN:Int} (h:uhdP s=some (A,AN,B,BN)):(0≤A∧A≤2147483647∧0≤AN∧AN≤2147483647)∧(0≤B∧B≤2147483647∧0≤BN∧BN≤2147483647):=by
 unfold uhdP at h
 split at h
 ·split at h
  ·cases h
  ·split at h
   ·cases h
   ·split at h
    ·split at h
     ·rename_i h1 h2
      cases h
      exact⟨ZbO h1,ZbO h2⟩
     ·cases h
    ·cases h
 ·cases h
theorem Zli {k p p1:Nat} {ls r:List (List UInt8)} {h:Hk} (hP:Plain ls) (hh:uhkP k p ls=.ok (h,p1,r)):chkH h=0∧Plain r∧ls.length+p=r.length+p1∧r.length<ls.length∧k<4096:=by
 unfold uhkP at hh
 split at hh
 ·cases hh
 ·rename_i s r0 hn
  obtain⟨a1,a2⟩:=Zho hP hn
  split at hh
  ·cases hh
  ·rename_i A AN B BN hd
   obtain⟨d1,d2⟩:=Zle hd
   split at hh
   ·cases hh
   ·rename_i hk
    split at hh
    ·cases hh
    ·rename_i hz
     split at hh
     ·cases hh
     ·rename_i l q1 r1 h1
      obtain⟨b1,b2,b3,b4,b5,b6,b7,b8⟩:=ZlR _ a2 (Nat.le_refl _) h1
      split at hh
      ·cases hh
      ·rename_i hs
       cases hh
       refine⟨?_,b6,by omega,by omega,by omega⟩
       have hfld:fldB l=true:=(Zdq l).2 ⟨b1,b4,b5⟩
       have hrng:rngB ⟨A,AN,B,BN,l⟩=true:=by
        simp only[rngB,nat31,Bool.and_eq_true,Bool.not_eq_true',Bool.and_eq_false_iff,decide_eq_true_eq,decide_eq_false_iff_not]
        omega
       unfold chkH
       rw[if_neg (by rw[hrng];decide),if_neg (by rw[hfld];decide),if_neg,if_neg (show ¬ ((l.all fun m=>decide (m.sg=32))=true) from hs)]
       show ¬ (AN≠((pkL 43 l).length:Int)∨BN≠((pkL 45 l).length:Int))
       omega
theorem Zll {x:List UInt8} (f:Nat):∀ {k p p1:Nat} {ls r:List (List UInt8)} {hs:List Hk},Plain ls→uhsP x f k p ls=.ok (hs,p1,r)→hs≠[]∧(∀ h∈hs,chkH h=0)∧k+hs.length≤4096∧Plain r∧ls.length+p=r.length+p1∧r.length<ls.length∧pkU x r=false:=by
 induction f with
 | zero=>intro k p p1 ls r hs _ h;cases h
 | succ f ih =>
  intro k p p1 ls r hs hP h
  simp only[uhsP] at h
  split at h
  ·cases h
  ·rename_i h0 q1 r1 h1
   obtain⟨a1,a2,a3,a4,a5⟩:=Zli hP h1
   split at h
   ·split at h
    ·cases h
    ·rename_i l q2 r2 h2
     obtain⟨b1,b2,b3,b4,b5,b6,b7⟩:=ih a2 h2
     cases h
     refine⟨by simp,?_,by simp only[List.length_cons];omega,b4,by omega,by omega,b7⟩
     intro y hy
     rcases List.mem_cons.1 hy with rfl | hy
     ·exact a1
     ·exact b2 y hy
   ·rename_i hp
    cases h
    refine⟨by simp,?_,by simp only[List.length_cons,List.length_nil];omega,a2,a3,a4,by simpa using hp⟩
    intro y hy
    rw[List.mem_singleton.1 hy]
    exact a1
theorem Zse {x:List UInt8} (f:Nat):∀ {k p:Nat} {ls:List (List UInt8)} {L:List Pth},Plain ls→upsP x f k p ls=.ok L→(∀ q∈L,Gu q)∧(k+L.length≤64∨L=[]):=by
 induction f with
 | zero =>
  intro k p ls L _ h
  simp only[upsP] at h
  cases h
  exact⟨fun q hq=>(by cases hq),.inr rfl⟩
 | succ f ih =>
  intro k p ls L hP h
  simp only[upsP] at h
  split at h
  ·cases h
   exact⟨fun q hq=>(by cases hq),.inr rfl⟩
  ·split at h
   ·cases h
   ·rename_i n1 r1 h1
    obtain⟨a1,a2,a3⟩:=ZgH hP h1
    split at h
    ·cases h
    ·rename_i hk
     split at h
     ·cases h
     ·rename_i n2 r2 h2
      obtain⟨b1,b2,b3⟩:=ZgH a3 h2
      split at h
      ·cases h
      ·rename_i hs p3 r3 h3
       obtain⟨c1,c2,c3,c4,c5,c6,_⟩:=Zll _ b3 h3
       split at h
       ·cases h
       ·rename_i l h4
        obtain⟨d1,d2⟩:=ih c4 h4
        cases h
        refine⟨?_,.inl ?_⟩
        ·intro q hq
         rcases List.mem_cons.1 hq with rfl | hq
         ·exact⟨c1,a1,b1,by show hs.length≤4096;omega,c2⟩
         ·exact d1 q hq
        ·rcases d2 with d2 | rfl
         ·simp only[List.length_cons]
          omega
         ·simp only[List.length_cons,List.length_nil]
          omega
theorem ZrZ {x t:List UInt8} {L:List Pth} (h:unT x t=.ok L):(∀ q∈L,Gu q)∧L.length≤64:=by
 unfold unT at h
 split at h
 ·cases h
 ·obtain⟨a1,a2⟩:=Zse _ (Zkx t) h
  refine⟨a1,?_⟩
  rcases a2 with a2 | rfl
  ·omega
  ·exact Nat.zero_le _
/- by two bytes, or by four -/
end

section
open Ln
def Plc (n:Nat) (e:Nat × Int):Prop:=1≤e.1∧e.1≤n+1∧e.2≠0
theorem Plc.le {n m:Nat} {e:Nat × Int} (h:Plc n e) (hm:n≤m):Plc m e:=⟨h.1,by have:=h.2.1;omega,h.2.2⟩
theorem Zhq {p:Nat} {ls:List (List UInt8)} {e:Nat × Int} (h:nxt p ls=.error e):Plc (p+ls.length) e:=by
 cases ls with
 | nil =>
  simp only[nxt] at h
  cases h
  exact⟨by simp,by simp,by simp⟩
 | cons s r =>
  simp only[nxt] at h
  split at h
  ·cases h
  ·cases h
   exact⟨by simp,by simp,by simp⟩
theorem Zgt {sg:List UInt8} {last:Bool} {p:Nat} {ls:List (List UInt8)} {e:Nat × Int} (h:mkd sg last p ls=.error e):Plc (p+ls.length) e:=by
 unfold mkd at h
 split at h
 ·rename_i e0 hn
  cases h
  exact Zhq hn
 ·rename_i s r hn
  have hl:=Zhp hn
  subst hl
  split at h
  ·split at h
   ·rename_i hp
    split at h
    ·cases h
     refine⟨by simp,?_,by simp⟩
     cases r with
     | nil=>simp[pkM] at hp
     | cons=>simp only[List.length_cons];omega
    ·cases h
   ·cases h
  ·cases h
   exact⟨by simp,by simp,by simp⟩
theorem Zjd {sg:List UInt8} {S:Int} (n:Nat):∀ {p:Nat} {ls:List (List UInt8)} {e:Nat × Int},Plain ls→rdN sg S n p ls=.error e→Plc (p+ls.length) e:=by
 induction n with
 | zero=>intro p ls e _ h;cases h
 | succ n ih =>
  intro p ls e hP h
  simp only[rdN] at h
  split at h
  ·rename_i e0 hm
   cases h
   exact Zgt hm
  ·rename_i t p1 r hm
   obtain⟨a1,a2,a3,_⟩:=Zgs hP hm
   split at h
   ·rename_i e0 hr
    cases h
    exact (ih a3 hr).le (by omega)
   ·cases h
theorem Zkd {p:Nat} {ls:List (List UInt8)} {e:Nat × Int} (h:sepP p ls=.error e):Plc (p+ls.length) e:=by
 unfold sepP at h
 split at h
 ·rename_i e0 hn
  cases h
  exact Zhq hn
 ·rename_i s r hn
  have hl:=Zhp hn
  subst hl
  split at h
  ·cases h
  ·cases h
   exact⟨by simp,by simp,by simp⟩
theorem Zkc {p p1:Nat} {ls r:List (List UInt8)} (hP:Plain ls) (h:sepP p ls=.ok (p1,r)):ls.length+p=r.length+p1∧Plain r:=by
 unfold sepP at h
 split at h
 ·cases h
 ·rename_i s r0 hn
  obtain⟨a1,a2⟩:=Zho hP hn
  split at h
  ·cases h
   exact⟨by omega,a2⟩
  ·cases h
theorem Zee {k p:Nat} {ls:List (List UInt8)} {e:Nat × Int} (hP:Plain ls) (h:hkP k p ls=.error e):Plc (p+ls.length) e:=by
 unfold hkP at h
 split at h
 ·rename_i e0 hn
  cases h
  exact Zhq hn
 ·rename_i s r0 hn
  obtain⟨a1,a2⟩:=Zho hP hn
  split at h
  ·cases h
   exact⟨by simp,by simp,by simp⟩
  ·split at h
   ·cases h
    exact⟨by simp,by simp,by simp⟩
   ·split at h
    ·rename_i e0 h1
     cases h
     exact (Zjd _ a2 h1).le (by omega)
    ·rename_i l1 q1 r1 h1
     obtain⟨b1,b2,b3,b4,_⟩:=Zjc _ a2 h1
     split at h
     ·rename_i e0 h2
      cases h
      split at h2
      ·exact (Zkd h2).le (by omega)
      ·cases h2
     ·rename_i q2 r2 h2
      have hs:r1.length+q1=r2.length+q2∧Plain r2:=(by
       split at h2
       ·exact Zkc b4 h2
       ·cases h2
        exact⟨rfl,b4⟩)
      split at h
      ·rename_i e0 h3
       cases h
       exact (Zjd _ hs.2 h3).le (by omega)
      ·cases h
theorem Zed {k p p1:Nat} {ls r:List (List UInt8)} {x:Hk} (hP:Plain ls) (h:hkP k p ls=.ok (x,p1,r)):ls.length+p=r.length+p1∧Plain r:=by
 unfold hkP at h
 split at h
 ·cases h
 ·rename_i s r0 hn
  obtain⟨a1,a2⟩:=Zho hP hn
  split at h
  ·cases h
  ·split at h
   ·cases h
   ·split at h
    ·cases h
    ·rename_i l1 q1 r1 h1
     obtain⟨b1,b2,b3,b4,_⟩:=Zjc _ a2 h1
     split at h
     ·cases h
     ·rename_i q2 r2 h2
      have hs:r1.length+q1=r2.length+q2∧Plain r2:=(by
       split at h2
       ·exact Zkc b4 h2
       ·cases h2
        exact⟨rfl,b4⟩)
      split at h
      ·cases h
      ·rename_i l2 q3 r3 h3
       obtain⟨d1,d2,d3,d4,_⟩:=Zjc _ hs.2 h3
       cases h
       exact⟨by omega,d4⟩
theorem Zel (f:Nat):∀ {k p:Nat} {ls:List (List UInt8)} {e:Nat × Int},Plain ls→hksP f k p ls=.error e→Plc (p+ls.length) e:=by
 induction f with
 | zero=>intro k p ls e _ h;cases h
 | succ f ih =>
  intro k p ls e hP h
  simp only[hksP] at h
  split at h
  ·cases h
  ·split at h
   ·rename_i e0 h1
    cases h
    exact Zee hP h1
   ·rename_i hk q1 r1 h1
    obtain⟨a1,a2⟩:=Zed hP h1
    split at h
    ·rename_i e0 h2
     cases h
     exact (ih a2 h2).le (by omega)
    ·cases h
theorem ZiH {t:List UInt8} {e:Nat × Int} (ht:t.length≤1048576) (h:prsT t=.error e):Plc (splitL t).length e:=by
 unfold prsT at h
 rw[if_neg (by omega)] at h
 exact (Zel _ (Zkx t) h).le (by omega)
/- names, and the unified form -/
theorem ZgI {ah:List UInt8} {p:Nat} {ls:List (List UInt8)} {e:Nat × Int} (h:namP ah p ls=.error e):Plc (p+ls.length) e:=by
 unfold namP at h
 split at h
 ·rename_i e0 hn
  cases h
  exact Zhq hn
 ·rename_i s r hn
  have hl:=Zhp hn
  subst hl
  split at h
  ·split at h
   ·cases h
    exact⟨by simp,by simp,by simp⟩
   ·cases h
  ·cases h
   exact⟨by simp,by simp,by simp⟩
theorem Zly {a b p:Nat} {ls:List (List UInt8)} {e:Nat × Int} (h:ulnP a b p ls=.error e):Plc (p+ls.length) e:=by
 unfold ulnP at h
 split at h
 ·rename_i e0 hn
  cases h
  exact Zhq hn
 ·rename_i r hn
  have hl:=Zhp hn
  subst hl
  cases h
  exact⟨by simp,by simp,by simp⟩
 ·rename_i c t r hn
  have hl:=Zhp hn
  subst hl
  split at h
  ·split at h
   ·cases h
   ·cases h
  ·cases h
   exact⟨by simp,by simp,by simp⟩
theorem ZlS (n:Nat):∀ {a b p:Nat} {ls:List (List UInt8)} {e:Nat × Int},Plain ls→urdP n a b p ls=.error e→Plc (p+ls.length) e:=by
 induction n with
 | zero=>intro a b p ls e _ h;cases h
 | succ n ih =>
  intro a b p ls e hP h
  simp only[urdP] at h
  split at h
  ·cases h
  ·split at h
   ·rename_i e0 h1
    cases h
    exact Zly h1
   ·rename_i m p1 r h1
    obtain⟨_,_,_,_,_,b6,b7,_⟩:=Zlx hP h1
    split at h
    ·rename_i e0 h2
     cases h
     exact (ih b6 h2).le (by omega)
    ·cases h
theorem Zlj {k p:Nat} {ls:List (List UInt8)} {e:Nat × Int} (hP:Plain ls) (h:uhkP k p ls=.error e):Plc (p+ls.length) e:=by
 unfold uhkP at h
 split at h
 ·rename_i e0 hn
  cases h
  exact Zhq hn
 ·rename_i s r0 hn
  obtain⟨a1,a2⟩:=Zho hP hn
  split at h
  ·cases h
   exact⟨by simp,by simp,by simp⟩
  ·split at h
   ·cases h
    exact⟨by simp,by simp,by simp⟩
   ·split at h
    ·cases h
     exact⟨by simp,by simp,by simp⟩
    ·split at h
     ·rename_i e0 h1
      cases h
      exact (ZlS _ a2 h1).le (by omega)
     ·split at h
      ·cases h
       exact⟨by simp,by simp,by simp⟩
      ·cases h
theorem Zlm {x:List UInt8} (f:Nat):∀ {k p:Nat} {ls:List (List UInt8)} {e:Nat × Int},Plain ls→uhsP x f k p ls=.error e→Plc (p+ls.length) e:=by
 induction f with
 | zero =>
  intro k p ls e _ h
  simp only[uhsP] at h
  cases h
  exact⟨by simp,by simp,by simp⟩
 | succ f ih =>
  intro k p ls e hP h
  simp only[uhsP] at h
  split at h
  ·rename_i e0 h1
   cases h
   exact Zlj hP h1
  ·rename_i hk q1 r1 h1
   obtain⟨_,a2,a3,_⟩:=Zli hP h1
   split at h
   ·split at h
    ·rename_i e0 h2
     cases h
     exact (ih a2 h2).le (by omega)
    ·cases h
   ·cases h
theorem ZlJ {x:List UInt8} (f:Nat):∀ {k p:Nat} {ls:List (List UInt8)} {e:Nat × Int},Plain ls→upsP x f k p ls=.error e→Plc (p+ls.length) e:=by
 induction f with
 | zero=>intro k p ls e _ h;cases h
 | succ f ih =>
  intro k p ls e hP h
  simp only[upsP] at h
  split at h
  ·cases h
  ·split at h
   ·rename_i e0 h1
    cases h
    exact ZgI h1
   ·rename_i n1 r1 h1
    obtain⟨_,a2,a3⟩:=ZgH hP h1
    split at h
    ·cases h
     exact⟨by simp,by simp,by simp⟩
    ·split at h
     ·rename_i e0 h2
      cases h
      exact (ZgI h2).le (by omega)
     ·rename_i n2 r2 h2
      obtain⟨_,b2,b3⟩:=ZgH a3 h2
      split at h
      ·rename_i e0 h3
       cases h
       exact (Zlm _ b3 h3).le (by omega)
      ·rename_i hs p3 r3 h3
       obtain⟨_,_,_,c4,c5,_⟩:=Zll _ b3 h3
       split at h
       ·rename_i e0 h4
        cases h
        exact (ih c4 h4).le (by omega)
       ·cases h
theorem ZlB {x t:List UInt8} {e:Nat × Int} (ht:t.length≤1048576) (h:unT x t=.error e):Plc (splitL t).length e:=by
 unfold unT at h
 rw[if_neg (by omega)] at h
 exact (ZlJ _ (Zkx t) h).le (by omega)
/- the context form -/
theorem Zjz {s:UInt8} {p:Nat} {ls:List (List UInt8)} {e:Nat × Int} (h:rngP s p ls=.error e):Plc (p+ls.length) e:=by
 unfold rngP at h
 split at h
 ·rename_i e0 hn
  cases h
  exact Zhq hn
 ·rename_i t r hn
  have hl:=Zhp hn
  subst hl
  split at h
  ·cases h
   exact⟨by simp,by simp,by simp⟩
  ·split at h
   ·cases h
    exact⟨by simp,by simp,by simp⟩
   ·cases h
theorem Zje {sg:UInt8} (ls:List (List UInt8)):∀ {p:Nat} {e:Nat × Int},rdS sg p ls=.error e→Plc (p+ls.length) e:=by
 induction ls with
 | nil=>intro p e h;cases h
 | cons s r ih =>
  intro p e h
  simp only[rdS] at h
  split at h
  ·split at h
   ·split at h
    ·cases h
    ·split at h
     ·rename_i e0 h1
      cases h
      exact (ih h1).le (by simp only[List.length_cons];omega)
     ·cases h
   ·cases h
    exact⟨by simp,by simp,by simp⟩
  ·cases h
theorem Zdi {a0 a1 a2 n:Nat} {po no pw nw:Int} {o w:Sde} {e:Nat × Int} (h0:1≤a0∧a0≤n+1) (h1:1≤a1∧a1≤n+1) (h2:1≤a2∧a2≤n+1) (h:finH a0 a1 a2 po no pw nw o w=.error e):Plc n e:=by
 unfold finH at h
 split at h
 ·cases h;exact⟨h0.1,h0.2,by simp⟩
 ·split at h
  ·cases h;exact⟨h1.1,h1.2,by simp⟩
  ·split at h
   ·cases h;exact⟨h2.1,h2.2,by simp⟩
   ·split at h
    ·cases h;exact⟨h1.1,h1.2,by simp⟩
    ·split at h
     ·cases h;exact⟨h2.1,h2.2,by simp⟩
     ·split at h
      ·cases h;exact⟨h0.1,h0.2,by simp⟩
      ·cases h
theorem ZcE {k p:Nat} {ls:List (List UInt8)} {e:Nat × Int} (hP:Plain ls) (h:cxH k p ls=.error e):Plc (p+ls.length) e:=by
 unfold cxH at h
 split at h
 ·rename_i e0 hn
  cases h
  exact Zhq hn
 ·rename_i s r0 hn
  obtain⟨a1,a2⟩:=Zho hP hn
  split at h
  ·split at h
   ·cases h
    exact⟨by simp,by simp,by simp⟩
   ·split at h
    ·rename_i e0 h1
     cases h
     exact (Zjz h1).le (by omega)
    ·rename_i po no r1 h1
     obtain⟨b1,b2,_⟩:=Zjy a2 h1
     split at h
     ·rename_i e0 h2
      cases h
      exact (Zje _ h2).le (by omega)
     ·rename_i o p2 r2 h2
      obtain⟨c1,_,_,c4,_⟩:=Zjh _ b2 h2
      have c5:=Zjg _ h2
      split at h
      ·rename_i e0 h3
       cases h
       exact (Zjz h3).le (by omega)
      ·rename_i pw nw r3 h3
       obtain⟨d1,d2,_⟩:=Zjy c1 h3
       split at h
       ·rename_i e0 h4
        cases h
        exact (Zje _ h4).le (by omega)
       ·split at h
        ·rename_i e0 h5
         cases h
         exact Zdi (by omega) (by omega) (by omega) h5
        ·cases h
  ·cases h
   exact⟨by simp,by simp,by simp⟩
theorem ZcG (f:Nat):∀ {k p:Nat} {ls:List (List UInt8)} {e:Nat × Int},Plain ls→cxHs f k p ls=.error e→Plc (p+ls.length) e:=by
 induction f with
 | zero =>
  intro k p ls e _ h
  simp only[cxHs] at h
  cases h
  exact⟨by simp,by simp,by simp⟩
 | succ f ih =>
  intro k p ls e hP h
  simp only[cxHs] at h
  split at h
  ·rename_i e0 h1
   cases h
   exact ZcE hP h1
  ·rename_i hk q1 r1 h1
   obtain⟨_,a2,a3,_⟩:=ZcD hP h1
   split at h
   ·split at h
    ·rename_i e0 h2
     cases h
     exact (ih a2 h2).le (by omega)
    ·cases h
   ·cases h
theorem ZcH (f:Nat):∀ {k p:Nat} {ls:List (List UInt8)} {e:Nat × Int},Plain ls→cxPs f k p ls=.error e→Plc (p+ls.length) e:=by
 induction f with
 | zero=>intro k p ls e _ h;cases h
 | succ f ih =>
  intro k p ls e hP h
  simp only[cxPs] at h
  split at h
  ·cases h
  ·split at h
   ·rename_i e0 h1
    cases h
    exact ZgI h1
   ·rename_i n1 r1 h1
    obtain⟨_,a2,a3⟩:=ZgH hP h1
    split at h
    ·cases h
     exact⟨by simp,by simp,by simp⟩
    ·split at h
     ·rename_i e0 h2
      cases h
      exact (ZgI h2).le (by omega)
     ·rename_i n2 r2 h2
      obtain⟨_,b2,b3⟩:=ZgH a3 h2
      split at h
      ·rename_i e0 h3
       cases h
       exact (ZcG _ b3 h3).le (by omega)
      ·rename_i hs p3 r3 h3
       obtain⟨_,_,_,c4,c5,_⟩:=ZcF _ b3 h3
       split at h
       ·rename_i e0 h4
        cases h
        exact (ih c4 h4).le (by omega)
       ·cases h
theorem ZcC {t:List UInt8} {e:Nat × Int} (ht:t.length≤1048576) (h:cxT t=.error e):Plc (splitL t).length e:=by
 unfold cxT at h
 rw[if_neg (by omega)] at h
 exact (ZcH _ (Zkx t) h).le (by omega)
end

section
open Ln
def ltrB (c:UInt8):Bool:=decide (97≤c.toNat∧c.toNat≤122) || decide (65≤c.toNat∧c.toNat≤90)
def rmkB:List UInt8→Bool
 | []=>false
 | c::t=>decide (c=10∧t=[]) || (ltrB c || (c == 61 || c == 35))
def ntR (ls:List (List UInt8)):List (List UInt8):=ls.filter fun s=>!rmkB s
def plR:Nat→List (List UInt8)→List Nat
 | _,[]=>[]
 | p,s::r=>if rmkB s=true then plR (p+1) r else (p+1)::plR (p+1) r
def atL (ls:List (List UInt8)):List Nat:=plR 0 ls++[ls.length+1]
def fmS (s:List UInt8):Int:=if ([45,45,45,32]:List UInt8).isPrefixOf s=true then 3 else if ([42,42,42,32]:List UInt8).isPrefixOf s=true then 2 else if s.head?.any Pn.digB=true then 1 else 0
def fmL:List (List UInt8)→Int
 | []=>0
 | s::_=>fmS s
def frmT (t:List UInt8):Int:=fmL (ntR (splitL t))
def bareP:Except (Nat × Int) (List Hk)→Except (Nat × Int) (List Pth)
 | .error e=>.error e
 | .ok h=>.ok [⟨[],[],h⟩]
def inP (x:List UInt8) (f:Int) (u:List UInt8):Except (Nat × Int) (List Pth):=if f=3 then unT x u else if f=2 then cxT u else if f=1 then bareP (prsT u) else .error (1,180)
def renP (at':List Nat) (e:Nat × Int):Nat × Int:=(if e.1=0 then 0 else at'.getD (e.1-1) 0,e.2)
def psT (x t:List UInt8):Except (Nat × Int) (Int × List Pth) :=
 if 1048576<t.length then .error (0,9) else if ntR (splitL t)=[] then .ok (0,[]) else
 match inP x (frmT t) (ntR (splitL t)).flatten with
 | .error e=>.error (renP (atL (splitL t)) e)
 | .ok L=>.ok (frmT t,L)
theorem Zbo {s:List UInt8} {r:List (List UInt8)} (h:checkB (s::r)=true):checkB r=true∧lineB s true=true∧(r≠[]→lineB s false=true):=by
 simp only[checkB,Bool.and_eq_true] at h
 refine⟨h.2,?_,fun hr=>?_⟩
 ·cases r with
  | nil=>exact h.1
  | cons y r =>
   obtain⟨a,rfl,ha⟩:=ZfC (by simpa using h.1)
   exact ZfA ha _
 ·cases r with
  | nil=>exact absurd rfl hr
  | cons y r=>exact h.1
theorem Zbp (q:List UInt8→Bool) (ls:List (List UInt8)) (h:checkB ls=true):checkB (ls.filter q)=true:=by
 induction ls with
 | nil=>rfl
 | cons s r ih =>
  obtain⟨a1,a2,a3⟩:=Zbo h
  rw[List.filter_cons]
  split
  ·simp only[checkB,Bool.and_eq_true]
   refine⟨?_,ih a1⟩
   cases hr:(r.filter q) with
   | nil=>exact a2
   | cons y z=>exact a3 (by rintro rfl;cases hr)
  ·exact ih a1
theorem Zhh (t:List UInt8):splitL (ntR (splitL t)).flatten=ntR (splitL t):=Zjr _ (Zbp _ _ (split_right t))
theorem Zhg (t:List UInt8):(ntR (splitL t)).flatten.length≤t.length:=by
 have h:∀ ls:List (List UInt8),(ntR ls).flatten.length≤ls.flatten.length:=by
  intro ls
  induction ls with
  | nil=>exact Nat.le_refl _
  | cons s r ih =>
   unfold ntR at ih ⊢
   rw[List.filter_cons]
   split
   ·simp only[List.flatten_cons,List.length_append]
    omega
   ·simp only[List.flatten_cons,List.length_append]
    omega
 have:=h (splitL t)
 rw[split_join] at this
 exact this
theorem Zis (ls:List (List UInt8)):∀ p:Nat,(plR p ls).length=(ntR ls).length:=by
 induction ls with
 | nil=>intro p;rfl
 | cons s r ih =>
  intro p
  unfold ntR at ih ⊢
  rw[List.filter_cons]
  simp only[plR]
  cases h:rmkB s
  ·simp[ih]
  ·simp[ih]
theorem Zay (ls:List (List UInt8)):(atL ls).length=(ntR ls).length+1:=by
 unfold atL
 rw[List.length_append,Zis]
 rfl
theorem ZeG {x:List UInt8} {t:List UInt8} {e:Nat × Int} (ht:t.length≤1048576) (h:inP x (frmT t) (ntR (splitL t)).flatten=.error e):1≤e.1∧e.1-1<(atL (splitL t)).length∧e.2≠0:=by
 have hl:=Zhg t
 have hs:=Zhh t
 have hp:Plc (ntR (splitL t)).length e:=by
  unfold inP at h
  split at h
  ·have:=ZlB (by omega) h
   rw[hs] at this
   exact this
  ·split at h
   ·have:=ZcC (by omega) h
    rw[hs] at this
    exact this
   ·split at h
    ·cases hq:prsT (ntR (splitL t)).flatten with
     | error e0 =>
      rw[hq] at h
      cases h
      have:=ZiH (by omega) hq
      rw[hs] at this
      exact this
     | ok l =>
      rw[hq] at h
      cases h
    ·cases h
     exact⟨by simp,by simp,by simp⟩
 refine⟨hp.1,?_,hp.2.2⟩
 rw[Zay]
 have:=hp.2.1
 have:=hp.1
 omega
/- 18.5: remarks change nothing -/
def psN (x t:List UInt8):Except Int (Int × List Pth):=match psT x t with
 | .error e=>.error e.2
 | .ok v=>.ok v
theorem ZsE {x t u:List UInt8} (ht:t.length≤1048576) (hu:u.length≤1048576) (h:ntR (splitL t)=ntR (splitL u)):psN x t=psN x u:=by
 unfold psN psT frmT
 rw[if_neg (show ¬ 1048576<t.length by omega),if_neg (show ¬ 1048576<u.length by omega),h]
 by_cases e0:ntR (splitL u)=[]
 ·rw[if_pos e0,if_pos e0]
 ·rw[if_neg e0,if_neg e0]
  cases inP x (fmL (ntR (splitL u))) (ntR (splitL u)).flatten<;>rfl
theorem Zst {t:List UInt8} (h:t=[]∨fdB t=true):Fed (splitL t):=by
 have hc:=split_right t
 have hl:∀ ls:List (List UInt8),checkB ls=true→(∀ x,ls.getLast?=some x→fdB x=true)→Fed ls:=by
  intro ls
  induction ls with
  | nil=>intro _ _ s hs;cases hs
  | cons s r ih =>
   intro hc hx
   obtain⟨a1,a2,a3⟩:=Zbo hc
   have hs:lineB s false=true:=by
    cases r with
    | nil =>
     rcases ZfE a2 with h1 | h1
     ·exact h1
     ·have h2:=hx s rfl
      rw[Zde h1] at h2
      cases h2
    | cons y z=>exact a3 (by simp)
   intro y hy
   rcases List.mem_cons.1 hy with rfl | hy
   ·exact ZfC hs
   ·refine ih a1 (fun z hz=>hx z ?_) y hy
    cases r with
    | nil=>cases hz
    | cons=>rw[List.getLast?_cons_cons];exact hz
 refine hl _ hc ?_
 intro x hx
 rcases h with rfl | h
 ·cases hx
 ·have hne:splitL t≠[]:=by rintro e;rw[e] at hx;cases hx
  have:=ZsQ t hne
  rw[List.getLast?_eq_some_getLast hne] at hx
  cases hx
  unfold feedB at this
  unfold fdB at h ⊢
  rw[h] at this
  exact this
/- 18.5: what is written is read again -/
/- the normal form -/
end

section
open Ln
end

section
open Ln
def cutSl:List UInt8→Option (List UInt8)
 | []=>none
 | c::t=>if c=47 then some t else cutSl t
def strp:Nat→List UInt8→List UInt8
 | 0,s=>s
 | n+1,s=>match cutSl s with
  | none=>s
  | some r=>strp n r
end

section
open Go.RowKit
attribute [local go_sem] ByteArray.extract_mk
theorem Zhc (l:List UInt8) (k:Nat) (h:k<(⟨l.toArray⟩:ByteArray).size):(⟨l.toArray⟩:ByteArray)[k]'h=l[k]'(h):=rfl
attribute [local go_sem] Zhc
def bareT (s:List UInt8):List UInt8:=if fdB s=true then s.dropLast else s
end

section
open Ln Go.RowKit
attribute [local go_sem] Zhc ByteArray.extract_mk
theorem ZjS (ws:List (List UInt8)) (a:List UInt8):scells (ws++[a])=scells ws++[.string ⟨a.toArray⟩]:=by simp[scells]
theorem Zkt (a:ByteArray):∀ u∈[Value.string a],u.oneCell'=true:=by intro u hu;simp at hu;subst hu;rfl
theorem Zks (w:World) (C:List Value) (t:TypeId):∀ j u,C[j]?=some u→(w.alloc (.cells C.toArray t)).cell? ((⟨w.heap.size,0,none⟩:Addr).add j)=some u:=by
 intro j u hj
 have hadd:(⟨w.heap.size,0,none⟩:Addr).add j=⟨w.heap.size,j,none⟩:=by unfold Addr.add;split<;>simp_all
 rw[hadd,cell_of_row _ w.heap.size j C.toArray t (0,0) (_root_.Go.heap_alloc_new w _)]
 simpa using hj
def sizeT:Value→Nat
 | .string s=>s.size
 | _=>0
theorem sizeT_mk (r:List UInt8):sizeT (.string ⟨r.toArray⟩)=r.length:=rfl
theorem Zan {acc:List (List UInt8)} {r l:List UInt8} (h:acc++splitL r=splitL l):acc.length≤l.length:=by
 have h1:=congrArg List.length h
 have h2:=split_len l
 rw[List.length_append] at h1
 omega
theorem ZgE (l:List UInt8) (w:World) (hl:l.length≤1099511627776) :
  Calls Tryz.prog 23 #[.string ⟨l.toArray⟩] w fun e w'=>∃ v,e=.returned v∧w'.ownsRow w.heap.size 9 1 v (splitL l).length (scells (splitL l))∧Below w.heap.size w w':=by
 obtain⟨i0,hi,hz0,hz1,hz2⟩:=info_parts infoStr
 go_enter Tryz.func23,Tryz.ntmps23
 go_wp2
 go_loopw [0,3,4] (fun s acc _ wr=>∃ (xs:List (List UInt8)) (r:List UInt8),s=.string ⟨r.toArray⟩∧wr.ownsRow w.heap.size 9 1 acc xs.length (scells xs)∧Below w.heap.size w wr∧r.length≤l.length∧xs++splitL r=splitL l) (fun s _ _ _=>sizeT s)
 case atStart=>exact⟨[],l,rfl,World.ownsRow_nil _ _ _ _,Below.refl _ _,Nat.le_refl _,rfl⟩
 case round =>
  obtain⟨acc,r,rfl,hown,hbr,hrl,hw⟩:=hrel
  have hacc:=Zan hw
  have HW:Hid (acc++splitL r=splitL l):=hw
  clear hw
  have hbz:=hbr.size
  obtain⟨ao,cap,rfl⟩:=(Zeo hown).form
  rcases Int.lt_or_le (Lib.indexByte r 10) 0 with hq | hq
  ·obtain⟨q1,q2⟩:=ZeH hq
   clear hq
   cases r with
   | nil =>
    have HE:Hid (splitL l=acc):=by have:=HW.out;show _=_;simpa [splitL] using this.symm
    go_wp2_with fail
    refine (Tryz.strings_Index_one ⟨([]:List UInt8).toArray⟩ 10 _).mono ?_
    rintro e w1 ⟨rfl,rfl⟩
    go_wp2
    go_ret
    rw[HE.out]
    exact⟨_,rfl,hown,hbr⟩
   | cons c t =>
    have HE:Hid (splitL l=acc++[c::t]):=by
     have:=HW.out
     rw[Zkw _ q2 (by simp)] at this
     exact this.symm
    clear q2
    go_wp2_with fail
    refine (Tryz.strings_Index_one ⟨(c::t).toArray⟩ 10 _).mono ?_
    rintro e w1 ⟨rfl,rfl⟩
    have hi2:Lib.indexByte (⟨(c::t).toArray⟩:ByteArray).data.toList 10=-1:=q1
    rw[hi2]
    go_wp2_with (at_builtin;refine wpList_append_own _ rfl _ _ 49 rfl w.heap.size 9 i0 (.string ⟨#[]⟩) 1 16 Tryz.underlying49 hi hz0 hz1 hz2 rfl (by decide) _ _ _ rfl (hown.alloc _) ⟨w1.heap.size,0,none⟩ 1 1 [.string ⟨(c::t).toArray⟩] rfl rfl (Zks _ _ _) (Zkt _) ?c3 ?c4 ?c5 ?_)
    case c3=>unfold maxLen;omega
    case c4=>omega
    case c5=>simp;omega
    intro v' w3 hown3 hgrow hfr
    have hbr3:=(hbr.alloc hbz (.cells #[.string ⟨(c::t).toArray⟩] 9)).grown hgrow (by simp;omega) (fun j hj=>(hown.lt j hj).1)
    go_wp2
    go_ret
    rw[HE.out,ZjS]
    exact⟨_,rfl,by simpa using hown3,hbr3⟩
  ·obtain⟨a,b,rfl,hn,he⟩:=ZeI hq
   have HE:Hid (acc++[a++[10]]++splitL b=splitL l):=by
    have:=HW.out
    rw[Zkv a b hn] at this
    show _=_
    simpa using this
   clear hn hq
   have hlen:(a++10::b).length=a.length+1+b.length:=by simp;omega
   have ht:(a++10::b).take (a.length+1)=a++[10]:=by
    rw[show a++10::b=(a++[10])++b by simp,List.take_left' (by simp)]
   have hd:(a++10::b).drop (a.length+1)=b:=by
    rw[show a++10::b=(a++[10])++b by simp,List.drop_left' (by simp)]
   generalize a++10::b=r at *
   have i1:0≤(a.length:Int)+1:=by omega
   have i2:(a.length:Int)+1≤(r.length:Int):=by omega
   have i3:((a.length:Int)+1).toNat=a.length+1:=by omega
   go_wp2_with fail
   refine (Tryz.strings_Index_one ⟨r.toArray⟩ 10 _).mono ?_
   rintro e w1 ⟨rfl,rfl⟩
   have hi2:Lib.indexByte (⟨r.toArray⟩:ByteArray).data.toList 10=a.length:=he
   rw[hi2]
   go_wp2_with (at_builtin;refine wpList_append_own _ rfl _ _ 49 rfl w.heap.size 9 i0 (.string ⟨#[]⟩) 1 16 Tryz.underlying49 hi hz0 hz1 hz2 rfl (by decide) _ _ _ rfl (hown.alloc _) ⟨w1.heap.size,0,none⟩ 1 1 [.string ⟨(a++[10]).toArray⟩] rfl rfl (Zks _ _ _) (Zkt _) ?c3 ?c4 ?c5 ?_)
   case c3=>unfold maxLen;omega
   case c4=>omega
   case c5=>simp;omega
   intro v' w3 hown3 hgrow hfr
   have hbr3:=(hbr.alloc hbz (.cells #[.string ⟨(a++[10]).toArray⟩] 9)).grown hgrow (by simp;omega) (fun j hj=>(hown.lt j hj).1)
   go_wp2
   go_roundw
   case rel=>exact⟨acc++[a++[10]],b,rfl,by rw[ZjS];simpa using hown3,hbr3,by omega,HE.out⟩
   case measure=>rw[sizeT_mk,sizeT_mk];omega
end

section
theorem Zmw (a b:List UInt8):((⟨a.toArray⟩:ByteArray)++(⟨b.toArray⟩:ByteArray))=⟨(a++b).toArray⟩:=by
 apply ByteArray.ext
 simp
end

section
open Go.RowKit
end

section
open Go.RowKit
attribute [local go_sem] ByteArray.extract_mk Zhc
end

section
open Go.RowKit
def Fits (x y:List UInt8):Prop:=x.length+y.length≤4611686018427387904
theorem Zsl {x y:List UInt8} (h:Fits x y) (P:Program) (u:World):(Op.stringOp .add ⟨x.toArray⟩ ⟨y.toArray⟩).run P u=.ok (.string ⟨(x++y).toArray⟩) u:=by
 unfold Fits at h
 have e:¬ (((⟨x.toArray⟩:ByteArray).size+(⟨y.toArray⟩:ByteArray).size:Nat):Int) > IntKind.i64.max:=by
  have h1:(⟨x.toArray⟩:ByteArray).size=x.length:=rfl
  have h2:(⟨y.toArray⟩:ByteArray).size=y.length:=rfl
  have h3:IntKind.i64.max=9223372036854775807:=rfl
  rw[h1,h2,h3]
  omega
 unfold Op.stringOp
 dsimp only
 rw[if_neg e,Zmw]
 rfl
structure Cs (c:Ch) (b:Nat) (W w:World):Prop where
 c0:w.cell? ⟨b,0,none⟩=some (.int .i64 c.A)
 c1:w.cell? ⟨b,1,none⟩=some (.int .i64 c.AN)
 c2:w.cell? ⟨b,2,none⟩=some (.int .i64 c.B)
 c3:w.cell? ⟨b,3,none⟩=some (.int .i64 c.BN)
 lt:b<w.heap.size
 low:Below W.heap.size W w
theorem Cs.keep {c:Ch} {b:Nat} {W w w':World} (h:Cs c b W w) (hb:Below w.heap.size w w'):Cs c b W w':=by
 have hk:∀ o,w'.cell? ⟨b,o,none⟩=w.cell? ⟨b,o,none⟩:=fun o=>by
  unfold World.cell?
  dsimp only
  rw[hb.block b h.lt]
 exact⟨(hk 0).trans h.c0,(hk 1).trans h.c1,(hk 2).trans h.c2,(hk 3).trans h.c3,Nat.lt_of_lt_of_le h.lt hb.size,h.low.trans (hb.mono h.low.size)⟩
theorem Zce (c:Ch) (b:Nat) (W w:World):Cs c b W w.drew↔Cs c b W w:=⟨fun h=>⟨h.c0,h.c1,h.c2,h.c3,h.lt,(h.low.trans ⟨rfl,rfl,rfl,Nat.le_refl _,fun _ _=>rfl⟩:Below W.heap.size W w)⟩,fun h=>⟨h.c0,h.c1,h.c2,h.c3,h.lt,h.low.drew⟩⟩
attribute [local simp] Zce
theorem Cs.fresh (c:Ch) (w:World):Cs c w.heap.size w (w.alloc (.cells #[.int .i64 c.A,.int .i64 c.AN,.int .i64 c.B,.int .i64 c.BN] 139)):=by
 have h:=heap_alloc_new w (.cells #[.int .i64 c.A,.int .i64 c.AN,.int .i64 c.B,.int .i64 c.BN] 139)
 have hk:∀ o,(w.alloc (.cells #[.int .i64 c.A,.int .i64 c.AN,.int .i64 c.B,.int .i64 c.BN] 139)).cell? ⟨w.heap.size,o,none⟩=(#[Value.int .i64 c.A,.int .i64 c.AN,.int .i64 c.B,.int .i64 c.BN])[o]?:=fun o=>by
  unfold World.cell?
  dsimp only
  rw[h]
  rfl
 exact⟨hk 0,hk 1,hk 2,hk 3,by rw[World.alloc];simp,(Below.refl _ w).alloc (Nat.le_refl _) _⟩
end

section
open Go.RowKit Go.Proofs.YtcniomgjikienaaGreatDoor.Tx
attribute [local go_sem] Zhc ByteArray.extract_mk
def rmkI (b:Bool) (n:Int):Bool:=b || decide ((97≤n∧n≤122)∨(65≤n∧n≤90)∨n=61∨n=35)
theorem Zjs (c:UInt8) (t:List UInt8):rmkB (c::t)=rmkI ((c::t) == [10]) c.toNat:=by
 have e1:((c::t) == [10])=decide (c=10∧t=[]):=by
  rw[Bool.eq_iff_iff,beq_iff_eq,decide_eq_true_eq]
  constructor
  ·intro h;cases h;exact⟨rfl,rfl⟩
  ·rintro⟨rfl,rfl⟩;rfl
 have e2:(c == 61)=decide (c.toNat=61):=by
  rw[Bool.eq_iff_iff,beq_iff_eq,decide_eq_true_eq]
  exact⟨fun h=>by rw[h];rfl,fun h=>UInt8.toNat_inj.1 h⟩
 have e3:(c == 35)=decide (c.toNat=35):=by
  rw[Bool.eq_iff_iff,beq_iff_eq,decide_eq_true_eq]
  exact⟨fun h=>by rw[h];rfl,fun h=>UInt8.toNat_inj.1 h⟩
 rw[e1]
 show (decide (c=10∧t=[]) || (ltrB c || (c == 61 || c == 35)))=_
 unfold rmkI ltrB
 rw[e2,e3]
 generalize decide (c=10∧t=[])=b
 cases b with
 | true=>rfl
 | false =>
  rw[Bool.false_or,Bool.false_or,Bool.eq_iff_iff]
  simp only[Bool.or_eq_true,decide_eq_true_eq]
  omega
end

section
open Go.RowKit Go.Proofs.YtcniomgjikienaaGreatDoor.Tx
attribute [local go_sem] Zhc ByteArray.extract_mk
theorem ZiJ {t s:List UInt8} (h:s∈Ln.splitL t):s≠[]:=by
 rintro rfl
 have:=ZjB (ZjC (Ln.split_right t)) [] h
 cases this
theorem Zhf (s:List UInt8) (r:List (List UInt8)):ntR (s::r)=if rmkB s=true then ntR r else s::ntR r:=by
 unfold ntR
 rw[List.filter_cons]
 cases rmkB s<;>rfl
end

section
open Pn Go.RowKit
attribute [local go_sem] Zhc
theorem Zjn {k k':IntKind} {a b a' b':Int} (h:a=a') (h':b=b'):Ending.returned (.tuple #[.int k a,.int k' b])=.returned (.tuple #[.int k a',.int k' b']):=by rw[h,h']
end

section
open Pn Go.RowKit
attribute [local go_sem] Zhc
theorem ZgW (L:List UInt8) (w:World) (hl:L.length≤maxLen) (h0:0<L.length) (hz:(((L[0].toNat:Int) == 48)=false)∨((((L[0].toNat:Int) == 48)=true)∧(L.length:Int)≤1))
  (HY:Hid ((∀ k (hk:k<L.length),48≤L[k].toNat∧L[k].toNat≤57)→isNum L=true)) :
  Calls Tryz.prog 353 #[.string ⟨L.toArray⟩] w fun e w'=>e=.returned (.bool (isNum L))∧Below w.heap.size w w':=by
 unfold maxLen at hl
 have hne:L.isEmpty=false:=by cases L;simp at h0;rfl
 have hnil:¬ L=[]:=by intro h;rw[h] at h0;simp at h0
 rcases hz with hz | ⟨hz,hz1⟩
 all_goals
  go_enter Tryz.func353,Tryz.ntmps353
  go_wp2
  go_loopw [] (fun wr=>∃ pos:Nat,pos≤L.length∧wr.heap[w.heap.size]?=some (.stringIter ⟨L.toArray⟩ pos)∧Below w.heap.size w wr∧(∀ k (hk:k<L.length),k<pos→48≤L[k].toNat∧L[k].toNat≤57)) (fun wr=>L.length-wr.iterPos w.heap.size)
  case atStart =>
   refine⟨0,Nat.zero_le _,World.iter_heap w _ 0,(Below.refl _ w).alloc (Nat.le_refl _) _,fun k _ h=>by omega⟩
  case round =>
   obtain⟨pos,hp,hit,hbr,hall⟩:=hrel
   have HA:Hid (∀ k (hk:k<L.length),k<pos→48≤L[k].toNat∧L[k].toNat≤57):=hall
   clear hall
   have hss:(⟨L.toArray⟩:ByteArray).size=L.length:=rfl
   by_cases hlt:pos<L.length
   ·by_cases ha:L[pos].toNat<128
    ·have hnx:∀ ty,(Instr.next (.pointer (some ⟨w.heap.size,0,none⟩)) true ty).run Tryz.prog wr=_:=fun ty=>Lib.run_next_ascii_at wr w.heap.size ⟨L.toArray⟩ pos ty hit hlt ha
     have hit2:=Lib.iterAt_heap wr w.heap.size ⟨L.toArray⟩ pos (pos+1) hit
     have hbr2:=Lib.below_iterAt hbr (k:=w.heap.size) (Nat.le_refl _) ⟨L.toArray⟩ (pos+1)
     by_cases hd:48≤L[pos].toNat∧L[pos].toNat≤57
     ·obtain⟨hd1,hd2⟩:=hd
      go_wp2
      go_roundw
      case rel =>
       refine⟨pos+1,by omega,hit2,hbr2,fun k hk h=>?_⟩
       by_cases e:k=pos
       ·subst e;exact⟨hd1,hd2⟩
       ·exact HA.out k hk (by omega)
      case measure=>simp only[World.iterPos,hit,hit2];omega
     ·have HN:Hid (isNum L=false):=isNum_bad pos hlt hd
      by_cases hd1:L[pos].toNat<48
      ·clear hd
       go_wp2
       go_ret
       exact⟨ret_bool HN.out.symm,hbr2⟩
      ·have hd2:57<L[pos].toNat:=by omega
       clear hd
       go_wp2
       go_ret
       exact⟨ret_bool HN.out.symm,hbr2⟩
    ·have HN:Hid (isNum L=false):=isNum_bad pos hlt (by omega)
     have hdh:=(decode_high ⟨L.toArray⟩ pos hlt (by show 128≤L[pos].toNat;omega)).1
     have hnx:∀ ty,(Instr.next (.pointer (some ⟨w.heap.size,0,none⟩)) true ty).run Tryz.prog wr=_:=fun ty=>Lib.run_next_any_at wr w.heap.size ⟨L.toArray⟩ pos ty hit hlt
     have hbr2:=Lib.below_iterAt hbr (k:=w.heap.size) (Nat.le_refl _) ⟨L.toArray⟩ (pos+(Utf8.decode ⟨L.toArray⟩ pos).2)
     have hdl:=decode_le ⟨L.toArray⟩ pos
     generalize Utf8.decode ⟨L.toArray⟩ pos=dd at *
     have q1:¬ ((dd.1:Int)<48):=by omega
     have q2:57<(dd.1:Int):=by omega
     go_wp2
     go_ret
     exact⟨ret_bool HN.out.symm,hbr2⟩
   ·have hnx:∀ ty,(Instr.next (.pointer (some ⟨w.heap.size,0,none⟩)) true ty).run Tryz.prog wr=_:=fun ty=>Lib.run_next_end_at wr w.heap.size ⟨L.toArray⟩ pos ty hit hlt
    have HN:Hid (isNum L=true):=HY.out fun k hk=>HA.out k hk (by omega)
    go_wp2
    go_ret
    exact⟨ret_bool HN.out.symm,hbr⟩
theorem ZgV (l:List UInt8) (w:World) (hl:l.length≤maxLen) :
  Calls Tryz.prog 353 #[.string ⟨l.toArray⟩] w fun e w'=>e=.returned (.bool (isNum l))∧Below w.heap.size w w':=by
 match l,hl with
 | [],_ =>
  go_enter Tryz.func353,Tryz.ntmps353
  go_wp2
  go_ret
  exact⟨rfl,Below.refl _ _⟩
 | [c],hl =>
  refine ZgW [c] w hl (by simp) ?_ (ZeP (by simp))
  cases h:((([c]:List UInt8)[0].toNat:Int) == 48)
  ·exact .inl rfl
  ·exact .inr ⟨rfl,by simp⟩
 | c::d::t,hl =>
  by_cases h:c.toNat=48
  ·have hb:((c.toNat:Int) == 48)=true:=by simp;omega
   have HN:Hid (isNum (c::d::t)=false):=ZeQ h
   have hl2:(1:Int)<(t.length:Int)+1+1:=by omega
   clear h
   go_enter Tryz.func353,Tryz.ntmps353
   go_wp2
   go_ret
   exact⟨ret_bool HN.out.symm,Below.refl _ _⟩
  ·refine ZgW (c::d::t) w hl (by simp) (.inl ?_) (ZeP (by simp[h]))
   simp;omega
theorem ZgD (l:List UInt8) (w:World) (hl:l.length≤maxLen) :
  Calls Tryz.prog 337 #[.string ⟨l.toArray⟩] w fun e w'=>e=.returned (.tuple #[.int .i64 (parseV l),.int .i64 (parseE l)])∧Below w.heap.size w w':=by
 go_enter Tryz.func337,Tryz.ntmps337
 go_wp2_with fail
 refine (ZgV l _ hl).mono ?_
 rintro e w1 ⟨rfl,hb1⟩
 unfold maxLen at hl
 cases hn:isNum l
 ·have HN:Hid (isNum l=false):=hn
  go_wp2
  go_ret2
  have h:=parse_no HN.out
  exact⟨Zjn h.1 h.2,hb1⟩
 ·have HN:Hid (isNum l=true):=hn
  have hal:=isNum_all hn
  have HAL:Hid (l.all digB=true):=hal
  clear hal
  go_wp2
  go_loopw [4] (fun n wr=>∃ (pos:Nat) (v:Int),pos≤l.length∧n=.int .i64 v∧0≤v∧v≤2147483647∧wr.heap[w1.heap.size]?=some (.stringIter ⟨l.toArray⟩ pos)∧Below w.heap.size w wr∧sat v (l.drop pos)=sat 0 l) (fun _ wr=>l.length-wr.iterPos w1.heap.size)
  case atStart =>
   refine⟨0,0,Nat.zero_le _,rfl,by omega,by omega,World.iter_heap w1 _ 0,hb1.alloc hb1.size _,rfl⟩
  case round =>
   obtain⟨pos,v,hp,rfl,hv0,hv1,hit,hbr,hsat⟩:=hrel
   have HS:Hid (sat v (l.drop pos)=sat 0 l):=hsat
   clear hsat
   have hss:(⟨l.toArray⟩:ByteArray).size=l.length:=rfl
   have hz1:=hb1.size
   by_cases hlt:pos<l.length
   ·have hd:=Zar HAL.out pos hlt
    obtain⟨hd1,hd2⟩:=hd
    have HS2:Hid (sat (min (v * 10+((l[pos].toNat:Int)-48)) 2147483648) (l.drop (pos+1))=sat 0 l):=by
     show sat _ _=_
     rw[← ZjQ hlt];exact HS.out
    have hnx:∀ ty,(Instr.next (.pointer (some ⟨w1.heap.size,0,none⟩)) true ty).run Tryz.prog wr=_:=fun ty=>Lib.run_next_ascii_at wr w1.heap.size ⟨l.toArray⟩ pos ty hit hlt (by show l[pos].toNat<128;omega)
    have hit2:=Lib.iterAt_heap wr w1.heap.size ⟨l.toArray⟩ pos (pos+1) hit
    have hbr2:=Lib.below_iterAt hbr (k:=w1.heap.size) hb1.size ⟨l.toArray⟩ (pos+1)
    by_cases hfar:(2147483647-((l[pos].toNat:Int)-48)) / 10<v
    ·have HF:Hid (sat 0 l=2147483648):=by
      have e:min (v * 10+((l[pos].toNat:Int)-48)) 2147483648=2147483648:=by omega
      have h:=HS2.out
      rw[e,ZjR _ (Zas HAL.out _)] at h
      exact h.symm
     go_wp2
     go_ret2
     have h:=Zib HN.out HF.out
     exact⟨Zjn h.1 h.2,hbr2⟩
    ·go_wp2
     go_roundw
     case rel =>
      refine⟨pos+1,v * 10+((l[pos].toNat:Int)-48),by omega,rfl,by omega,by omega,hit2,hbr2,?_⟩
      have e:min (v * 10+((l[pos].toNat:Int)-48)) 2147483648=v * 10+((l[pos].toNat:Int)-48):=by omega
      rw[← HS2.out,e]
     case measure=>simp only[World.iterPos,hit,hit2];omega
   ·have hnx:∀ ty,(Instr.next (.pointer (some ⟨w1.heap.size,0,none⟩)) true ty).run Tryz.prog wr=_:=fun ty=>Lib.run_next_end_at wr w1.heap.size ⟨l.toArray⟩ pos ty hit hlt
    have HF:Hid (sat 0 l=v):=by
     have h:=HS.out
     rw[List.drop_eq_nil_of_le (by omega)] at h
     exact h.symm
    go_wp2
    go_ret2
    have h:=Zic HN.out HF.out hv1
    exact⟨Zjn h.1 h.2,hbr⟩
end

section
open Go.RowKit Go.Proofs.YtcniomgjikienaaGreatDoor.Tx
attribute [local go_sem] ByteArray.extract_mk Zhc
def cQ (x c:UInt8):Bool:=c == x
def cA (x:UInt8) (l:List UInt8):List UInt8:=match spB (cQ x) l with | none=>l | some (a,_,_)=>a
def cB (x:UInt8) (l:List UInt8):List UInt8:=match spB (cQ x) l with | none=>[] | some (_,_,b)=>b
def cS (x:UInt8) (l:List UInt8):Bool:=match spB (cQ x) l with | none=>false | some _=>true
theorem ZaN (x:UInt8) (l:List UInt8):(spB (cQ x) l=none∧Lib.indexByte l x=-1)∨(∃ k:Nat,∃ h:k<l.length,Lib.indexByte l x=k∧spB (cQ x) l=some (l.take k,l[k],l.drop (k+1))):=by
 induction l with
 | nil=>exact .inl ⟨rfl,rfl⟩
 | cons c l ih =>
  unfold Lib.indexByte
  simp only[spB]
  have e:(c == x)=cQ x c:=rfl
  rw[e]
  cases hc:cQ x c with
  | true =>
   right
   exact⟨0,by simp,by simp,by simp⟩
  | false =>
   rw[if_neg (by decide),if_neg (by decide)]
   rcases ih with ⟨h1,h2⟩ | ⟨k,hk,h1,h2⟩
   ·left
    rw[h1,h2]
    exact⟨rfl,rfl⟩
   ·right
    refine⟨k+1,by simpa using hk,?_,?_⟩
    ·rw[h1,if_neg (by simp)]
     omega
    ·rw[h2]
     rfl
theorem ZiW {n:Int} (h0:-9223372036854775808≤n) (h1:n≤9223372036854775807):IntKind.i64.wrap n=n:=by
 simp[IntKind.wrap,IntKind.bits,IntKind.signed]
 split<;>omega
theorem Zkn (x:UInt8) (l:List UInt8) (w:World) (hl:l.length≤1099511627776) :
  Calls Tryz.prog 87 #[.string ⟨l.toArray⟩,.string ⟨#[x]⟩] w fun e w'=>e=.returned (.tuple #[.string ⟨(cA x l).toArray⟩,.string ⟨(cB x l).toArray⟩,.bool (cS x l)])∧∃ n,w'=w.drewN n:=by
 rcases ZaN x l with ⟨h1,h2⟩ | ⟨k,hk,h1,h2⟩
 ·have HA:Hid (cA x l=l∧cB x l=[]∧cS x l=false):=(by unfold cA cB cS;rw[h1];exact⟨rfl,rfl,rfl⟩)
  have HI:Hid (Lib.indexByte l x=-1):=h2
  clear h1 h2
  go_enter Tryz.func87,Tryz.ntmps87
  go_wp2_with fail
  refine (Tryz.stringslite_Index_one ⟨l.toArray⟩ x w).mono ?_
  rintro e w1 ⟨rfl,rfl⟩
  have e1:Lib.indexByte (⟨l.toArray⟩:ByteArray).data.toList x=-1:=HI.out
  rw[e1]
  clear e1
  go_wp2
  go_ret3
  obtain⟨a1,a2,a3⟩:=HA.out
  rw[a1,a2,a3]
  exact⟨rfl,0,rfl⟩
 ·have HA:Hid (cA x l=l.take k∧cB x l=l.drop (k+1)∧cS x l=true):=(by unfold cA cB cS;rw[h2];exact⟨rfl,rfl,rfl⟩)
  have HI:Hid (Lib.indexByte l x=(k:Int)):=h1
  clear h1 h2
  go_enter Tryz.func87,Tryz.ntmps87
  go_wp2_with fail
  refine (Tryz.stringslite_Index_one ⟨l.toArray⟩ x w).mono ?_
  rintro e w1 ⟨rfl,rfl⟩
  have e1:Lib.indexByte (⟨l.toArray⟩:ByteArray).data.toList x=(k:Int):=HI.out
  rw[e1]
  clear e1
  have i1:(0:Int)≤(k:Int):=by omega
  have i2:(k:Int)≤(l.length:Int):=by omega
  have i3:(k:Int)+1≤(l.length:Int):=by omega
  have i4:(0:Int)≤(k:Int)+1:=by omega
  have i5:IntKind.i64.wrap ((k:Int)+1)=(k:Int)+1:=ZiW (by omega) (by omega)
  have i6:((k:Int)+1).toNat=k+1:=by omega
  go_wp2_with fail
  go_quiet (fail)
  go_wp2
  go_ret3
  obtain⟨a1,a2,a3⟩:=HA.out
  rw[a1,a2,a3]
  have k5:(l.drop (k+1)).take (l.length-(k+1))=l.drop (k+1):=List.take_of_length_le (by simp)
  exact⟨by simp[k5],_,rfl⟩
theorem Zcr (x:UInt8) (l:List UInt8) (w:World) (hl:l.length≤1099511627776) :
  Calls Tryz.prog 46 #[.string ⟨l.toArray⟩,.string ⟨#[x]⟩] w fun e w'=>e=.returned (.tuple #[.string ⟨(cA x l).toArray⟩,.string ⟨(cB x l).toArray⟩,.bool (cS x l)])∧∃ n,w'=w.drewN n:=by
 go_enter Tryz.func46,Tryz.ntmps46
 go_wp2_with fail
 refine (Zkn x l w hl).mono ?_
 rintro e w1 ⟨rfl,n,rfl⟩
 go_wp2
 go_ret3
 exact⟨rfl,n,rfl⟩
theorem Zcv (l:List UInt8):cutSl l=if cS 47 l=true then some (cB 47 l) else none:=by
 induction l with
 | nil=>rfl
 | cons c t ih =>
  simp only[cutSl]
  unfold cS cB cQ at ih ⊢
  simp only[spB]
  by_cases h:c=47
  ·simp[h]
  ·rw[if_neg h,ih]
   have hc:(c == 47)=false:=by simpa using h
   simp only[hc]
   cases spB (fun c=>c == 47) t with
   | none=>rfl
   | some z=>rfl
theorem ZaO (l:List UInt8):(cB 47 l).length≤l.length:=by
 rcases ZaN 47 l with ⟨h1,_⟩ | ⟨k,hk,_,h⟩
 ·unfold cB;rw[h1];simp
 ·unfold cB;rw[h];simp
theorem ZhT (s:List UInt8) (n:Int) (hs:s.length≤1099511627776) (hn:-9223372036854775808≤n∧n≤9223372036854775807) (w:World) (R:List UInt8) (HR:Hid (strp n.toNat s=R)) :
  Calls Tryz.prog 19 #[.string ⟨s.toArray⟩,.int .i64 n] w fun e w'=>e=.returned (.string ⟨R.toArray⟩)∧Below w.heap.size w w':=by
 go_enter Tryz.func19,Tryz.ntmps19
 go_wp2
 go_loopw [0,9] (fun sv iv wr=>∃ (u:List UInt8) (k:Nat),u.length≤s.length∧(k:Int)≤max n 0∧sv=.string ⟨u.toArray⟩∧iv=.int .i64 (k:Int)∧Below w.heap.size w wr∧Hid (strp (n.toNat-k) u=R)) (fun _ iv _=>n.toNat-(intOf iv).toNat)
 case atStart=>exact⟨s,0,Nat.le_refl _,by omega,rfl,by go_num,Below.refl _ _,HR⟩
 case round =>
 clear HR
 obtain⟨u,k,hu,hk,rfl,rfl,hB,HI⟩:=hrel
 by_cases hlt:(k:Int)<n
 ·have hI:=HI.out
  have hc:=Zcr 47 u wr (by omega)
  have he:=Zcv u
  have hle:=ZaO u
  rw[show n.toNat-k=(n.toNat-(k+1))+1 by omega] at hI
  simp only[strp] at hI
  cases hS:cS 47 u with
  | false =>
   rw[hS] at hc he
   rw[he,if_neg (by decide)] at hI
   have hI:u=R:=hI
   subst hI
   clear HI he
   go_wp2_with fail
   refine hc.mono ?_
   rintro e w2 ⟨rfl,m,rfl⟩
   go_wp2
   go_ret
   exact⟨rfl,Below.dN hB m⟩
  | true =>
   rw[hS] at hc he
   rw[he,if_pos rfl] at hI
   have HI2:Hid (strp (n.toNat-(k+1)) (cB 47 u)=R):=hI
   clear HI he hI
   go_wp2_with fail
   refine hc.mono ?_
   rintro e w2 ⟨rfl,m,rfl⟩
   go_wp2
   exact⟨⟨cB 47 u,k+1,by omega,by omega,rfl,by go_num,Below.dN hB m,HI2⟩,by simp[intOf];omega⟩
 ·have hI:=HI.out
  rw[show n.toNat-k=0 by omega] at hI
  have hI:u=R:=hI
  subst hI
  clear HI
  go_wp2
  go_ret
  exact⟨rfl,hB⟩
theorem ZhS (l:List UInt8) (h0:l≠[]) (w:World) (r:Bool) (HR:Hid (rmkB l=r)) :
  Calls Tryz.prog 52 #[.string ⟨l.toArray⟩] w fun e w'=>e=.returned (.bool r)∧w=w':=by
 obtain⟨c,t,rfl⟩:=List.exists_cons_of_ne_nil h0
 have hR:=HR.out
 rw[Zjs] at hR
 obtain⟨b,hb⟩:∃ b,((c::t) == [10])=b:=⟨_,rfl⟩
 obtain⟨n,hn⟩:∃ n:Int,(c.toNat:Int)=n:=⟨_,rfl⟩
 rw[hb,hn] at hR
 have i1:(0:Int)<(t.length:Int)+1:=by omega
 clear HR h0
 have HR2:Hid (rmkI b n=r):=hR
 clear hR
 go_enter Tryz.func52,Tryz.ntmps52
 cases b with
 | true =>
  have HE:Hid (true=r):=(by show _=_;rw[← HR2.out];rfl)
  clear HR2
  go_wp2
  all_goals go_ret
  all_goals exact⟨ret_bool (by rw[← HE.out];try rfl),rfl⟩
 | false =>
  have HE:Hid (decide ((97≤n∧n≤122)∨(65≤n∧n≤90)∨n=61∨n=35)=r):=(by show _=_;rw[← HR2.out];rfl)
  clear HR2
  go_wp2
  all_goals go_ret
  all_goals exact⟨ret_bool (by rw[← HE.out,Bool.eq_iff_iff];simp;omega),rfl⟩
end

section
open Go.RowKit Go.Proofs.YtcniomgjikienaaGreatDoor.Tx
attribute [local go_sem] Zhc
def bgV (B:Nat):Value:=.func (.func 138) #[] #[.pointer (some ⟨B,0,none⟩)]
def fmA (p q:Value):Nat→Array Value
 | 0=>#[.int .i64 3,p,.int .i64 64,.func (.func 140) #[] #[],.func (.func 141) #[] #[]]
 | 1=>#[.int .i64 2,q,.int .i64 64,.func (.func 142) #[] #[],.func (.func 143) #[] #[]]
 | 2=>#[.int .i64 1,.func (.func 144) #[] #[],.int .i64 1,.func (.func 145) #[] #[],.func (.func 146) #[] #[]]
 | _=>#[.int .i64 0,.nilFunc,.int .i64 0,.nilFunc,.nilFunc]
def stO (s:List UInt8):Obj:=.cells #[.string ⟨s.toArray⟩] 9
def dashT:List UInt8:=[45,45,45,32]
def starT:List UInt8:=[42,42,42,32]
def frO (p q:Value):Obj:=.cells #[.int .i64 3,p,.int .i64 64,.func (.func 140) #[] #[],.func (.func 141) #[] #[],.int .i64 2,q,.int .i64 64,.func (.func 142) #[] #[],.func (.func 143) #[] #[],.int .i64 1,.func (.func 144) #[] #[],.int .i64 1,.func (.func 145) #[] #[],.func (.func 146) #[] #[]] 70
theorem Zii (s:List UInt8) (w:World):Calls Tryz.prog 137 #[.string ⟨s.toArray⟩] w fun e w'=>e=.returned (bgV w.heap.size)∧w'=w.alloc (stO s):=by
 go_enter Tryz.func137,Tryz.ntmps137
 go_wp2
 go_ret
 exact⟨rfl,rfl⟩
theorem Zdw (w:World):Calls Tryz.prog 95 #[] w fun e w'=>e=.returned (.slice (some ⟨w.heap.size+1+1,0,none⟩) 3 3)∧w'=((w.alloc (stO dashT)).alloc (stO starT)).alloc (frO (bgV w.heap.size) (bgV (w.heap.size+1))):=by
 go_enter Tryz.func95,Tryz.ntmps95
 go_wp2_with (go_at_fn 137;refine (Zii dashT _).mono ?_;rintro e w' ⟨rfl,rfl⟩)
 go_wp2_with (go_at_fn 137;refine (Zii starT _).mono ?_;rintro e w' ⟨rfl,rfl⟩)
 go_wp2
 go_ret
 refine⟨?_,?_⟩<;>simp[bgV,stO,dashT,starT,frO]
def kfs (b:Nat→Bool):Nat:=if b 0=true then 0 else if b 1=true then 1 else if b 2=true then 2 else 3
def kfI (k:Nat):Int:=if k<3 then (k:Int) else -1
theorem Zdz {u:World} {R:Nat} {p q:Value} (h:u.heap[R]?=some (frO p q)) (j:Nat) (v:Value) (hj:(fmA p q 0++fmA p q 1++fmA p q 2)[j]?=some v):u.cell? ⟨R,j,none⟩=some v:=by
 unfold frO at h
 rw[Lib.cell_of_heap h]
 exact hj
theorem Zdc (g:Nat) (cap p q:Value) (b:Nat→Bool) (R:Nat) (w:World) (hR:w.heap[R]?=some (frO p q)) (eg:∀ args w,(callFunc g args).run Tryz.prog w=.ok (.enter g args) w)
  (hf:Hid (∀ j:Nat,j<3→∀ u,Below w.heap.size w u→Calls Tryz.prog g (#[.agg (fmA p q j)]++#[cap]) u fun e u'=>e=.returned (.bool (b j))∧Below u.heap.size u u')) (k:Nat) (HK:Hid (kfs b=k)) :
  Calls Tryz.prog 96 #[.slice (some ⟨R,0,none⟩) 3 3,.func (.func g) #[] #[cap]] w fun e w'=>e=.returned (.int .i64 (kfI k))∧Below w.heap.size w w':=by
 have hlt:R<w.heap.size:=(Array.getElem?_eq_some_iff.1 hR).1
 go_enter Tryz.func96,Tryz.ntmps96
 go_wp2
 go_loopw [5,8] (fun _ i wr=>∃ n:Nat,n≤3∧i=.int .i64 (n:Int)∧Below w.heap.size w wr∧Hid (∀ j:Nat,j<n→b j=false)) (fun _ i _=>3-(intOf i).toNat)
 case atStart=>exact⟨0,by omega,by go_num,Below.refl _ _,fun j hj=>by omega⟩
 case round =>
 obtain⟨n,hn,rfl,hB,HN⟩:=hrel
 have hT:=(hB.block R hlt).trans hR
 rcases (by omega:n=0∨n=1∨n=2∨n=3) with rfl | rfl | rfl | rfl
 ·have hc:Calls Tryz.prog g (#[.agg #[.int .i64 3,p,.int .i64 64,.func (.func 140) #[] #[],.func (.func 141) #[] #[]]]++#[cap]) wr fun e u'=>e=.returned (.bool (b 0))∧Below wr.heap.size wr u':=hf.out 0 (by omega) wr hB
  have c0:=Zdz hT 0 (.int .i64 3) rfl
  have c1:=Zdz hT 1 (p) rfl
  have c2:=Zdz hT 2 (.int .i64 64) rfl
  have c3:=Zdz hT 3 (.func (.func 140) #[] #[]) rfl
  have c4:=Zdz hT 4 (.func (.func 141) #[] #[]) rfl
  obtain⟨z,hz⟩:∃ z,b 0=z:=⟨_,rfl⟩
  rw[hz] at hc
  clear hT hf
  cases z with
  | true =>
   have hk:kfI k=0:=(by
    rw[← HK.out]
    unfold kfs
    rw[hz]
    rfl)
   clear HN HK hz
   go_wp2_with (go_at_fn g;refine hc.mono ?_;rintro e w' ⟨rfl,hB1⟩)
   go_ret
   exact⟨by rw[hk];try rfl,hB.trans (hB1.mono hB.size)⟩
  | false =>
   have HN2:Hid (∀ j:Nat,j<1→b j=false):=(by
    intro j hj
    by_cases h:j<0
    ·exact HN.out j h
    ·obtain rfl:j=0:=by omega
     exact hz)
   clear HN HK hz
   go_wp2_with (go_at_fn g;refine hc.mono ?_;rintro e w' ⟨rfl,hB1⟩)
   exact⟨⟨1,by omega,by go_num,hB.trans (hB1.mono hB.size),HN2⟩,by simp[intOf]⟩
 ·have hc:Calls Tryz.prog g (#[.agg #[.int .i64 2,q,.int .i64 64,.func (.func 142) #[] #[],.func (.func 143) #[] #[]]]++#[cap]) wr fun e u'=>e=.returned (.bool (b 1))∧Below wr.heap.size wr u':=hf.out 1 (by omega) wr hB
  have c0:=Zdz hT 5 (.int .i64 2) rfl
  have c1:=Zdz hT 6 (q) rfl
  have c2:=Zdz hT 7 (.int .i64 64) rfl
  have c3:=Zdz hT 8 (.func (.func 142) #[] #[]) rfl
  have c4:=Zdz hT 9 (.func (.func 143) #[] #[]) rfl
  obtain⟨z,hz⟩:∃ z,b 1=z:=⟨_,rfl⟩
  rw[hz] at hc
  clear hT hf
  cases z with
  | true =>
   have hk:kfI k=1:=(by
    rw[← HK.out]
    unfold kfs
    rw[HN.out 0 (by omega),if_neg (by decide)]
    rw[hz]
    rfl)
   clear HN HK hz
   go_wp2_with (go_at_fn g;refine hc.mono ?_;rintro e w' ⟨rfl,hB1⟩)
   go_ret
   exact⟨by rw[hk];try rfl,hB.trans (hB1.mono hB.size)⟩
  | false =>
   have HN2:Hid (∀ j:Nat,j<2→b j=false):=(by
    intro j hj
    by_cases h:j<1
    ·exact HN.out j h
    ·obtain rfl:j=1:=by omega
     exact hz)
   clear HN HK hz
   go_wp2_with (go_at_fn g;refine hc.mono ?_;rintro e w' ⟨rfl,hB1⟩)
   exact⟨⟨2,by omega,by go_num,hB.trans (hB1.mono hB.size),HN2⟩,by simp[intOf]⟩
 ·have hc:Calls Tryz.prog g (#[.agg #[.int .i64 1,.func (.func 144) #[] #[],.int .i64 1,.func (.func 145) #[] #[],.func (.func 146) #[] #[]]]++#[cap]) wr fun e u'=>e=.returned (.bool (b 2))∧Below wr.heap.size wr u':=hf.out 2 (by omega) wr hB
  have c0:=Zdz hT 10 (.int .i64 1) rfl
  have c1:=Zdz hT 11 (.func (.func 144) #[] #[]) rfl
  have c2:=Zdz hT 12 (.int .i64 1) rfl
  have c3:=Zdz hT 13 (.func (.func 145) #[] #[]) rfl
  have c4:=Zdz hT 14 (.func (.func 146) #[] #[]) rfl
  obtain⟨z,hz⟩:∃ z,b 2=z:=⟨_,rfl⟩
  rw[hz] at hc
  clear hT hf
  cases z with
  | true =>
   have hk:kfI k=2:=(by
    rw[← HK.out]
    unfold kfs
    rw[HN.out 0 (by omega),if_neg (by decide)]
    rw[HN.out 1 (by omega),if_neg (by decide)]
    rw[hz]
    rfl)
   clear HN HK hz
   go_wp2_with (go_at_fn g;refine hc.mono ?_;rintro e w' ⟨rfl,hB1⟩)
   go_ret
   exact⟨by rw[hk];try rfl,hB.trans (hB1.mono hB.size)⟩
  | false =>
   have HN2:Hid (∀ j:Nat,j<3→b j=false):=(by
    intro j hj
    by_cases h:j<2
    ·exact HN.out j h
    ·obtain rfl:j=2:=by omega
     exact hz)
   clear HN HK hz
   go_wp2_with (go_at_fn g;refine hc.mono ?_;rintro e w' ⟨rfl,hB1⟩)
   exact⟨⟨3,by omega,by go_num,hB.trans (hB1.mono hB.size),HN2⟩,by simp[intOf]⟩
 ·have hk:kfI k=-1:=(by
   have h0:=HN.out 0 (by omega)
   have h1:=HN.out 1 (by omega)
   have h2:=HN.out 2 (by omega)
   rw[← HK.out]
   unfold kfs
   rw[h0,h1,h2]
   rfl)
  clear HN HK hT hf
  go_wp2
  go_ret
  exact⟨by rw[hk];rfl,hB⟩
end

section
open Go.RowKit Go.Proofs.YtcniomgjikienaaGreatDoor.Tx
open Ln
attribute [local go_sem] Zhc
def Bx5 (u:World) (B:Nat) (v0 v1 v2 v3 v4:Value):Prop:=u.heap[B]?=some (.cells #[v0,v1,v2,v3,v4] 70 (0,0))
theorem Bx5.put {u:World} {B:Nat} {v0 v1 v2 v3 v4:Value} (h:Bx5 u B v0 v1 v2 v3 v4) (z0 z1 z2 z3 z4:Value):Bx5 (((((u.setCell ⟨B,0,none⟩ z0).setCell ⟨B,1,none⟩ z1).setCell ⟨B,2,none⟩ z2).setCell ⟨B,3,none⟩ z3).setCell ⟨B,4,none⟩ z4) B z0 z1 z2 z3 z4:=by
 have s1:=heap_setCell_same u B 0 _ _ z0 h
 have s2:=heap_setCell_same _ B 1 _ _ z1 s1
 have s3:=heap_setCell_same _ B 2 _ _ z2 s2
 have s4:=heap_setCell_same _ B 3 _ _ z3 s3
 exact heap_setCell_same _ B 4 _ _ z4 s4
theorem ZaA {N:Nat} {w u:World} {B:Nat} (h:Below N w u) (hB:N≤B) (z0 z1 z2 z3 z4:Value):Below N w (((((u.setCell ⟨B,0,none⟩ z0).setCell ⟨B,1,none⟩ z1).setCell ⟨B,2,none⟩ z2).setCell ⟨B,3,none⟩ z3).setCell ⟨B,4,none⟩ z4) :=
 ((((h.setCell hB _).setCell hB _).setCell hB _).setCell hB _).setCell hB _
theorem Bx5.cells {u:World} {B:Nat} {v0 v1 v2 v3 v4:Value} (h:Bx5 u B v0 v1 v2 v3 v4):u.cell? ⟨B,0,none⟩=some v0∧u.cell? ⟨B,1,none⟩=some v1∧u.cell? ⟨B,2,none⟩=some v2∧u.cell? ⟨B,3,none⟩=some v3∧u.cell? ⟨B,4,none⟩=some v4:=by
 unfold Bx5 at h
 refine⟨?_,?_,?_,?_,?_⟩<;>(rw[Lib.cell_of_heap h];rfl)
theorem ZdA (tmps:Array Value) (u:World) (B:Nat) (v0 v1 v2 v3 v4:Value) (h:Bx5 u B v0 v1 v2 v3 v4) {b:Value} (h2:tmps.getD 2 undef=.pointer (some ⟨B,0,none⟩)) (h3:tmps.getD 3 undef=b) :
  (results Tryz.f53 tmps).run Tryz.prog u=.ok (.tuple #[.agg #[v0,v1,v2,v3,v4],b]) u:=by
 rw[_root_.Go.results_cell_tmp rfl,h2,h3]
 have hL:(loadVar 70 ⟨B,0,none⟩).run Tryz.prog u=.ok (.agg #[v0,v1,v2,v3,v4]) u:=run_loadVar_row u B _ _ _ _ _ h Tryz.underlying70 rfl (by kernel_rfl)
 simp[asAddr,hL,Result.andThen]
theorem Zdt (tmps:Array Value) (u:World) (B:Nat) (v0 v1 v2 v3 v4:Value) (h:Bx5 u B v0 v1 v2 v3 v4) {b:Value} (h2:tmps.getD 2 undef=.pointer (some ⟨B,0,none⟩)) (h3:tmps.getD 3 undef=b) :
  (results Tryz.f27 tmps).run Tryz.prog u=.ok (.tuple #[.agg #[v0,v1,v2,v3,v4],b]) u:=by
 rw[_root_.Go.results_cell_tmp rfl,h2,h3]
 have hL:(loadVar 70 ⟨B,0,none⟩).run Tryz.prog u=.ok (.agg #[v0,v1,v2,v3,v4]) u:=run_loadVar_row u B _ _ _ _ _ h Tryz.underlying70 rfl (by kernel_rfl)
 simp[asAddr,hL,Result.andThen]
def Ask (w:World) (g:Nat) (cap:Value) (b:Nat→Bool):Prop:=∀ (B:Nat) (u:World),u.heap[B]?=some (stO dashT)→u.heap[B+1]?=some (stO starT)→Below w.heap.size w u→∀ j:Nat,j<3→Calls Tryz.prog g (#[.agg (fmA (bgV B) (bgV (B+1)) j)]++#[cap]) u fun e u'=>e=.returned (.bool (b j))∧Below u.heap.size u u'
def FmQ (w:World) (k:Nat) (e:Ending) (w':World):Prop:=∃ B,e=.returned (.tuple #[.agg (fmA (bgV B) (bgV (B+1)) k),.bool (decide (k<3))])∧Below w.heap.size w w'
theorem Zdv (g:Nat) (cap:Value) (b:Nat→Bool) (w:World) (eg:∀ args w,(callFunc g args).run Tryz.prog w=.ok (.enter g args) w) (hf:Hid (Ask w g cap b)) (k:Nat) (HK:Hid (kfs b=k)) :
  Calls Tryz.prog 53 #[.func (.func g) #[] #[cap]] w fun e w'=>FmQ w k e w':=by
 have hx0:Bx5 (w.alloc (.cells #[.int .i64 0,.nilFunc,.int .i64 0,.nilFunc,.nilFunc] 70)) w.heap.size (.int .i64 0) .nilFunc (.int .i64 0) .nilFunc .nilFunc:=_root_.Go.heap_alloc_new w _
 have hb0:Below w.heap.size w (w.alloc (.cells #[.int .i64 0,.nilFunc,.int .i64 0,.nilFunc,.nilFunc] 70)):=(Below.refl _ w).alloc (Nat.le_refl _) _
 have hz0:(w.alloc (.cells #[.int .i64 0,.nilFunc,.int .i64 0,.nilFunc,.nilFunc] 70)).heap.size=w.heap.size+1:=by simp
 go_enter Tryz.func53,Tryz.ntmps53
 go_wp2_with fail
 refine (Zdw _).mono ?_
 rintro e w1 ⟨rfl,hw1⟩
 generalize hW0:w.alloc (.cells #[.int .i64 0,.nilFunc,.int .i64 0,.nilFunc,.nilFunc] 70)=W0 at hx0 hb0 hz0 hw1 ⊢
 clear hW0
 obtain⟨B,hBe⟩:∃ B,W0.heap.size=B:=⟨_,rfl⟩
 have hb1:Below W0.heap.size W0 w1:=by rw[hw1];exact (((Below.refl _ W0).alloc (Nat.le_refl _) _).alloc (by simp) _).alloc (by simp;omega) _
 have hs1:w1.heap[B]?=some (stO dashT):=by
  rw[hw1,← hBe]
  have h1:=_root_.Go.heap_alloc_new W0 (stO dashT)
  have h2:=(((Below.refl (W0.alloc (stO dashT)).heap.size (W0.alloc (stO dashT))).alloc (Nat.le_refl _) (stO starT)).alloc (by simp) (frO (bgV W0.heap.size) (bgV (W0.heap.size+1)))).block W0.heap.size (by simp)
  exact h2.trans h1
 have hs2:w1.heap[B+1]?=some (stO starT):=by
  rw[hw1,← hBe]
  have h1:=_root_.Go.heap_alloc_new (W0.alloc (stO dashT)) (stO starT)
  have h2:=((Below.refl ((W0.alloc (stO dashT)).alloc (stO starT)).heap.size ((W0.alloc (stO dashT)).alloc (stO starT))).alloc (Nat.le_refl _) (frO (bgV W0.heap.size) (bgV (W0.heap.size+1)))).block (W0.heap.size+1) (by simp)
  refine h2.trans ?_
  simpa using h1
 have hs3:w1.heap[B+1+1]?=some (frO (bgV B) (bgV (B+1))):=by
  rw[hw1,← hBe]
  have h1:=_root_.Go.heap_alloc_new ((W0.alloc (stO dashT)).alloc (stO starT)) (frO (bgV W0.heap.size) (bgV (W0.heap.size+1)))
  simpa using h1
 rw[hBe]
 have hx1:Bx5 w1 w.heap.size (.int .i64 0) .nilFunc (.int .i64 0) .nilFunc .nilFunc:=(hb1.block _ (by omega)).trans hx0
 have hB1:Below w.heap.size w w1:=hb0.trans (hb1.mono (by omega))
 have hask:Hid (∀ j:Nat,j<3→∀ u,Below w1.heap.size w1 u→Calls Tryz.prog g (#[.agg (fmA (bgV B) (bgV (B+1)) j)]++#[cap]) u fun e u'=>e=.returned (.bool (b j))∧Below u.heap.size u u'):=by
  intro j hj u hu
  exact hf.out B u ((hu.block _ (Array.getElem?_eq_some_iff.1 hs1).1).trans hs1) ((hu.block _ (Array.getElem?_eq_some_iff.1 hs2).1).trans hs2) (hB1.trans (hu.mono hB1.size)) j hj
 have hI:=Zdc g cap (bgV B) (bgV (B+1)) b (B+1+1) w1 hs3 eg hask k HK
 have hk3:k≤3:=(by rw[← HK.out];unfold kfs;split;omega;split;omega;split<;>omega)
 clear hf hask hw1 hs1 hs2 hx0 hb0 HK
 go_wp2_with fail
 refine hI.mono ?_
 rintro e w2 ⟨rfl,hb2⟩
 have hx2:Bx5 w2 w.heap.size _ _ _ _ _:=(hb2.block _ (by have:=(Array.getElem?_eq_some_iff.1 hx1).1;exact this)).trans hx1
 have hT:=(hb2.block _ (Array.getElem?_eq_some_iff.1 hs3).1).trans hs3
 have hB2:Below w.heap.size w w2:=hB1.trans (hb2.mono hB1.size)
 clear hI hx1 hs3 hb1 hB1 hb2
 obtain⟨r0,r1,r2,r3,r4⟩:=hx2.cells
 have g00:=Lib.frozen_of_heap hx2 0
 have g01:=Lib.frozen_of_heap hx2 1
 have g02:=Lib.frozen_of_heap hx2 2
 have g03:=Lib.frozen_of_heap hx2 3
 have g04:=Lib.frozen_of_heap hx2 4
 rcases (by omega:k=0∨k=1∨k=2∨k=3) with rfl | rfl | rfl | rfl
 ·have hz:kfI 0=0:=rfl
  have c0:=Zdz hT 0 (.int .i64 3) rfl
  have c1:=Zdz hT 1 (.func (.func 138) #[] #[.pointer (some ⟨B,0,none⟩)]) rfl
  have c2:=Zdz hT 2 (.int .i64 64) rfl
  have c3:=Zdz hT 3 (.func (.func 140) #[] #[]) rfl
  have c4:=Zdz hT 4 (.func (.func 141) #[] #[]) rfl
  have hP:=hx2.put (.int .i64 3) (.func (.func 138) #[] #[.pointer (some ⟨B,0,none⟩)]) (.int .i64 64) (.func (.func 140) #[] #[]) (.func (.func 141) #[] #[])
  have hL:=ZaA hB2 (Nat.le_refl _) (.int .i64 3) (.func (.func 138) #[] #[.pointer (some ⟨B,0,none⟩)]) (.int .i64 64) (.func (.func 140) #[] #[]) (.func (.func 141) #[] #[])
  clear hT hx2 hB2
  rw[hz]
  go_wp2
  exact bodyPost_ret (ZdA _ _ _ _ _ _ _ _ hP rfl rfl) rfl ⟨B,rfl,hL⟩
 ·have hz:kfI 1=1:=rfl
  have c0:=Zdz hT 5 (.int .i64 2) rfl
  have c1:=Zdz hT 6 (.func (.func 138) #[] #[.pointer (some ⟨B+1,0,none⟩)]) rfl
  have c2:=Zdz hT 7 (.int .i64 64) rfl
  have c3:=Zdz hT 8 (.func (.func 142) #[] #[]) rfl
  have c4:=Zdz hT 9 (.func (.func 143) #[] #[]) rfl
  have hP:=hx2.put (.int .i64 2) (.func (.func 138) #[] #[.pointer (some ⟨B+1,0,none⟩)]) (.int .i64 64) (.func (.func 142) #[] #[]) (.func (.func 143) #[] #[])
  have hL:=ZaA hB2 (Nat.le_refl _) (.int .i64 2) (.func (.func 138) #[] #[.pointer (some ⟨B+1,0,none⟩)]) (.int .i64 64) (.func (.func 142) #[] #[]) (.func (.func 143) #[] #[])
  clear hT hx2 hB2
  rw[hz]
  go_wp2
  exact bodyPost_ret (ZdA _ _ _ _ _ _ _ _ hP rfl rfl) rfl ⟨B,rfl,hL⟩
 ·have hz:kfI 2=2:=rfl
  have c0:=Zdz hT 10 (.int .i64 1) rfl
  have c1:=Zdz hT 11 (.func (.func 144) #[] #[]) rfl
  have c2:=Zdz hT 12 (.int .i64 1) rfl
  have c3:=Zdz hT 13 (.func (.func 145) #[] #[]) rfl
  have c4:=Zdz hT 14 (.func (.func 146) #[] #[]) rfl
  have hP:=hx2.put (.int .i64 1) (.func (.func 144) #[] #[]) (.int .i64 1) (.func (.func 145) #[] #[]) (.func (.func 146) #[] #[])
  have hL:=ZaA hB2 (Nat.le_refl _) (.int .i64 1) (.func (.func 144) #[] #[]) (.int .i64 1) (.func (.func 145) #[] #[]) (.func (.func 146) #[] #[])
  clear hT hx2 hB2
  rw[hz]
  go_wp2
  exact bodyPost_ret (ZdA _ _ _ _ _ _ _ _ hP rfl rfl) rfl ⟨B,rfl,hL⟩
 ·have hz:kfI 3=-1:=rfl
  have hP:=hx2.put (.int .i64 0) .nilFunc (.int .i64 0) .nilFunc .nilFunc
  have hL:=ZaA hB2 (Nat.le_refl _) (.int .i64 0) .nilFunc (.int .i64 0) .nilFunc .nilFunc
  clear hT hx2 hB2
  rw[hz]
  go_wp2
  exact bodyPost_ret (ZdA _ _ _ _ _ _ _ _ hP rfl rfl) rfl ⟨B,rfl,hL⟩
def bgB (ls:List (List UInt8)) (j:Nat):Bool:=match ls with
 | []=>false
 | s::_=>if j=0 then dashT.isPrefixOf s else if j=1 then starT.isPrefixOf s else s.head?.any Pn.digB
def kOf (f:Int):Nat:=if f=3 then 0 else if f=2 then 1 else if f=1 then 2 else 3
theorem Zfm (ls:List (List UInt8)):kfs (bgB ls)=kOf (fmL ls):=by
 cases ls with
 | nil=>rfl
 | cons s r =>
  show kfs _=kOf (fmS s)
  unfold kfs fmS
  show (if dashT.isPrefixOf s=true then 0 else if starT.isPrefixOf s=true then 1 else if s.head?.any Pn.digB=true then 2 else 3)=kOf (if dashT.isPrefixOf s=true then 3 else if starT.isPrefixOf s=true then 2 else if s.head?.any Pn.digB=true then 1 else 0)
  cases dashT.isPrefixOf s<;>cases starT.isPrefixOf s<;>cases s.head?.any Pn.digB<;>rfl
theorem ZaC (s x:List UInt8) (B:Nat) (u:World) (hB:u.heap[B]?=some (stO x)) (r:Bool) (HR:Hid (x.isPrefixOf s=r)) :
  Calls Tryz.prog 138 (#[.string ⟨s.toArray⟩]++#[.pointer (some ⟨B,0,none⟩)]) u fun e u'=>e=.returned (.bool r)∧u'=u:=by
 have c0:u.cell? ⟨B,0,none⟩=some (.string ⟨x.toArray⟩):=by unfold stO at hB;rw[Lib.cell_of_heap hB];rfl
 have hhp:∀ u,Calls Tryz.prog 139 #[.string ⟨s.toArray⟩,.string ⟨x.toArray⟩] u fun e w'=>e=.returned (.bool r)∧w'=u:=(by
  intro u
  refine (Tryz.strings_HasPrefix ⟨s.toArray⟩ ⟨x.toArray⟩ u).mono ?_
  rintro e w' ⟨rfl,rfl⟩
  have e1:Lib.hasPrefix (⟨s.toArray⟩:ByteArray).data.toList (⟨x.toArray⟩:ByteArray).data.toList=r:=HR.out
  rw[e1]
  exact⟨rfl,rfl⟩)
 clear HR hB
 go_enter Tryz.func138,Tryz.ntmps138
 go_wp2_with fail
 refine (hhp _).mono ?_
 rintro e w1 ⟨rfl,rfl⟩
 go_wp2
 go_ret
 exact⟨rfl,rfl⟩
theorem ZeO (s:List UInt8) (h0:s≠[]) (u:World) (r:Bool) (HR:Hid (s.head?.any Pn.digB=r)) :
  Calls Tryz.prog 144 (#[.string ⟨s.toArray⟩]++#[]) u fun e u'=>e=.returned (.bool r)∧u'=u:=by
 obtain⟨c,t,rfl⟩:=List.exists_cons_of_ne_nil h0
 have i1:(0:Int)<(t.length:Int)+1:=by omega
 have hR:Pn.digB c=r:=HR.out
 have hd:Pn.digB c=true↔48≤(c.toNat:Int)∧(c.toNat:Int)≤57:=by
  unfold Pn.digB
  simp only[decide_eq_true_eq]
  omega
 obtain⟨n,hn⟩:∃ n:Int,(c.toNat:Int)=n:=⟨_,rfl⟩
 rw[hR,hn] at hd
 clear hR HR h0
 by_cases q1:48≤n
 ·by_cases q2:n≤57
  ·have hr:=hd.2 ⟨q1,q2⟩
   subst hr
   clear hd
   go_enter Tryz.func144,Tryz.ntmps144
   go_wp2
   go_ret
   exact⟨rfl,rfl⟩
  ·have hr:r=false:=by
    cases r
    ·rfl
    ·exact absurd (hd.1 rfl).2 q2
   subst hr
   clear hd
   go_enter Tryz.func144,Tryz.ntmps144
   go_wp2
   go_ret
   exact⟨rfl,rfl⟩
 ·have hr:r=false:=by
   cases r
   ·rfl
   ·exact absurd (hd.1 rfl).1 q1
  subst hr
  clear hd
  go_enter Tryz.func144,Tryz.ntmps144
  go_wp2
  go_ret
  exact⟨rfl,rfl⟩
def LsB (u:World) (B:Nat) (v:Value):Prop:=u.heap[B]?=some (.cells #[v] 49)
theorem ZeS (z0:Int) (v1 v2 v3 v4:Value) (LB:Nat) (u:World) (hL:LsB u LB (.slice none 0 0)∨∃ o c,LsB u LB (.slice o 0 c)) :
  Calls Tryz.prog 54 (#[.agg #[.int .i64 z0,v1,v2,v3,v4]]++#[.pointer (some ⟨LB,0,none⟩)]) u fun e u'=>e=.returned (.bool false)∧Below u.heap.size u u':=by
 obtain⟨o,c,hL⟩:∃ o c,LsB u LB (.slice o 0 c):=hL.elim (fun h=>⟨none,0,h⟩) id
 have hA:Below u.heap.size u (u.alloc (.cells #[.int .i64 z0,v1,v2,v3,v4] 70)):=(Below.refl _ u).alloc (Nat.le_refl _) _
 have l0:(u.alloc (.cells #[.int .i64 z0,v1,v2,v3,v4] 70)).cell? ⟨LB,0,none⟩=some (.slice o 0 c):=by rw[Lib.cell_of_heap ((hA.block _ (Array.getElem?_eq_some_iff.1 hL).1).trans hL)];rfl
 have hd:decide ((0:Int)<0)=false:=rfl
 clear hL
 go_enter Tryz.func54,Tryz.ntmps54
 go_wp2_with fail
 generalize u.alloc (.cells #[.int .i64 z0,v1,v2,v3,v4] 70)=W at *
 go_quiet (fail)
 go_wp2
 go_ret
 exact⟨rfl,Below.dN hA _⟩
theorem ZeT (z0:Int) (F:Nat) (cap:Array Value) (v2 v3 v4:Value) (LB:Nat) (lo:Option Addr) (n lc:Nat) (s:List UInt8) (u:World) (hL:LsB u LB (.slice lo n lc)) (hn:0<n) (bk off:Nat) (hlo:lo=some ⟨bk,off,none⟩) (hc:u.cell? ⟨bk,off,none⟩=some (.string ⟨s.toArray⟩)) (hbk:bk<u.heap.size)
  (r:Bool) (hen:∀ args w,(callFunc F args).run Tryz.prog w=.ok (.enter F args) w) (hcl:∀ x,Below u.heap.size u x→Calls Tryz.prog F (#[.string ⟨s.toArray⟩]++cap) x fun e u'=>e=.returned (.bool r)∧u'=x) :
  Calls Tryz.prog 54 (#[.agg #[.int .i64 z0,.func (.func F) #[] cap,v2,v3,v4]]++#[.pointer (some ⟨LB,0,none⟩)]) u fun e u'=>e=.returned (.bool r)∧Below u.heap.size u u':=by
 subst hlo
 have hA:Below u.heap.size u (u.alloc (.cells #[.int .i64 z0,.func (.func F) #[] cap,v2,v3,v4] 70)):=(Below.refl _ u).alloc (Nat.le_refl _) _
 have l0:(u.alloc (.cells #[.int .i64 z0,.func (.func F) #[] cap,v2,v3,v4] 70)).cell? ⟨LB,0,none⟩=some (.slice (some ⟨bk,off,none⟩) n lc):=by rw[Lib.cell_of_heap ((hA.block _ (Array.getElem?_eq_some_iff.1 hL).1).trans hL)];rfl
 have x1:(u.alloc (.cells #[.int .i64 z0,.func (.func F) #[] cap,v2,v3,v4] 70)).cell? ⟨u.heap.size,1,none⟩=some (.func (.func F) #[] cap):=by rw[Lib.cell_of_heap (_root_.Go.heap_alloc_new u _)];rfl
 have c0:=(World.cell?_of_block (hA.block bk hbk)).trans hc
 have hd:decide ((0:Int)<(n:Int))=true:=decide_eq_true (by omega)
 have i1:(0:Int)<(n:Int):=by omega
 have hdn:decide (0<n)=true:=decide_eq_true hn
 clear hL hc hbk
 go_enter Tryz.func54,Tryz.ntmps54
 go_wp2_with fail
 generalize u.alloc (.cells #[.int .i64 z0,.func (.func F) #[] cap,v2,v3,v4] 70)=W at *
 have hcl2:∀ m,Calls Tryz.prog F (#[.string ⟨s.toArray⟩]++cap) (W.drewN m) fun e u'=>e=.returned (.bool r)∧u'=W.drewN m:=fun m=>hcl _ (Below.dN hA m)
 have hcl0:=hcl _ hA
 clear hcl
 go_quiet ((go_at_fn F;first | exact Calls.quiet_of_same hcl0 | exact Calls.quiet_of_same (hcl2 _)))
 go_wp2
 go_ret
 exact⟨rfl,Below.dN hA _⟩
theorem ZeR (j:Nat) (hj:j<3) (B LB:Nat) (lo:Option Addr) (lc:Nat) (ls:List (List UInt8)) (u:World) (hD:u.heap[B]?=some (stO dashT)) (hS:u.heap[B+1]?=some (stO starT)) (hL:LsB u LB (.slice lo ls.length lc)) (hH:HS u (.slice lo ls.length lc) ls) (HNE:Hid (∀ s∈ls,s≠[])) (r:Bool) (HR:Hid (bgB ls j=r)) :
  Calls Tryz.prog 54 (#[.agg (fmA (bgV B) (bgV (B+1)) j)]++#[.pointer (some ⟨LB,0,none⟩)]) u fun e u'=>e=.returned (.bool r)∧Below u.heap.size u u':=by
 cases ls with
 | nil =>
  have hr:r=false:=HR.out.symm
  subst hr
  have hno:=fun z0 v1 v2 v3 v4=>ZeS z0 v1 v2 v3 v4 LB u (.inr ⟨lo,lc,hL⟩)
  rcases (by omega:j=0∨j=1∨j=2) with rfl | rfl | rfl
  ·exact hno _ _ _ _ _
  ·exact hno _ _ _ _ _
  ·exact hno _ _ _ _ _
 | cons s t =>
  obtain⟨bk,off,rfl,hbk,hc⟩:=HS.at hH (by simp)
  have c0:=hc 0 (by simp)
  have hne:=HNE.out s (by simp)
  have hyes:=fun z0 F cap v2 v3 v4 hen hcl=>ZeT z0 F cap v2 v3 v4 LB (some ⟨bk,off,none⟩) (s::t).length lc s u hL (by simp) bk off rfl c0 hbk r hen hcl
  rcases (by omega:j=0∨j=1∨j=2) with rfl | rfl | rfl
  ·exact hyes _ _ _ _ _ _ (enters_of Tryz.func138 (by kernel_rfl) rfl) fun x hx=>ZaC s dashT B x ((hx.block _ (Array.getElem?_eq_some_iff.1 hD).1).trans hD) r HR
  ·exact hyes _ _ _ _ _ _ (enters_of Tryz.func138 (by kernel_rfl) rfl) fun x hx=>ZaC s starT (B+1) x ((hx.block _ (Array.getElem?_eq_some_iff.1 hS).1).trans hS) r HR
  ·exact hyes _ _ _ _ _ _ (enters_of Tryz.func144 (by kernel_rfl) rfl) fun x _=>ZeO s hne x r HR
theorem Zax (LB:Nat) (lo:Option Addr) (lc:Nat) (ls:List (List UInt8)) (w:World) (hL:LsB w LB (.slice lo ls.length lc)) (hH:HS w (.slice lo ls.length lc) ls) (HNE:Hid (∀ s∈ls,s≠[])):Ask w 54 (.pointer (some ⟨LB,0,none⟩)) (bgB ls):=by
 intro B u hD hS hu j hj
 exact ZeR j hj B LB lo lc ls u hD hS ((hu.block _ (Array.getElem?_eq_some_iff.1 hL).1).trans hL) (Holds.keep hH fun k hk=>hu.block k hk) HNE _ rfl
theorem Zdr (B:Nat) (k:Nat):(∃ z m F c G H,k<3∧fmA (bgV B) (bgV (B+1)) k=#[.int .i64 z,.func (.func F) #[] c,.int .i64 m,.func (.func G) #[] #[],.func (.func H) #[] #[]])∨(¬ k<3∧fmA (bgV B) (bgV (B+1)) k=#[.int .i64 0,.nilFunc,.int .i64 0,.nilFunc,.nilFunc]):=by
 match k with
 | 0=>exact .inl ⟨_,_,_,_,_,_,by decide,rfl⟩
 | 1=>exact .inl ⟨_,_,_,_,_,_,by decide,rfl⟩
 | 2=>exact .inl ⟨_,_,_,_,_,_,by decide,rfl⟩
 | (_+3)=>exact .inr ⟨by omega,rfl⟩
theorem Zdu (lo:Option Addr) (lc:Nat) (ls:List (List UInt8)) (w:World) (hH:HS w (.slice lo ls.length lc) ls) (HNE:Hid (∀ s∈ls,s≠[])) (k:Nat) (HK:Hid (kOf (fmL ls)=k)) :
  Calls Tryz.prog 27 #[.slice lo ls.length lc] w fun e w'=>FmQ w k e w':=by
 have hL0:LsB (w.alloc (.cells #[.slice lo ls.length lc] 49)) w.heap.size (.slice lo ls.length lc):=_root_.Go.heap_alloc_new w _
 have hz0:(w.alloc (.cells #[.slice lo ls.length lc] 49)).heap.size=w.heap.size+1:=by simp
 have hb0:Below w.heap.size w (w.alloc (.cells #[.slice lo ls.length lc] 49)):=(Below.refl _ w).alloc (Nat.le_refl _) _
 have hx0:Bx5 ((w.alloc (.cells #[.slice lo ls.length lc] 49)).alloc (.cells #[.int .i64 0,.nilFunc,.int .i64 0,.nilFunc,.nilFunc] 70)) (w.heap.size+1) (.int .i64 0) .nilFunc (.int .i64 0) .nilFunc .nilFunc:=(by rw[← hz0];exact _root_.Go.heap_alloc_new _ _)
 have hb1:Below (w.heap.size+1) (w.alloc (.cells #[.slice lo ls.length lc] 49)) ((w.alloc (.cells #[.slice lo ls.length lc] 49)).alloc (.cells #[.int .i64 0,.nilFunc,.int .i64 0,.nilFunc,.nilFunc] 70)):=by rw[← hz0];exact (Below.refl _ _).alloc (Nat.le_refl _) _
 have hL1:=(hb1.block w.heap.size (by omega)).trans hL0
 have hH1:HS ((w.alloc (.cells #[.slice lo ls.length lc] 49)).alloc (.cells #[.int .i64 0,.nilFunc,.int .i64 0,.nilFunc,.nilFunc] 70)) (.slice lo ls.length lc) ls:=Holds.keep hH fun k hk=>(hb1.block k (by omega)).trans (hb0.block k hk)
 have hB1:=hb0.trans (hb1.mono (by omega))
 have hask:=Zax w.heap.size lo lc ls _ hL1 hH1 HNE
 have hth:=Zdv 54 (.pointer (some ⟨w.heap.size,0,none⟩)) (bgB ls) _ (enters_of Tryz.func54 (by kernel_rfl) rfl) hask k (by show _=_;rw[Zfm];exact HK.out)
 clear hask hL0 hL1 hH1 hb0 hb1 hH HNE HK hz0
 go_enter Tryz.func27,Tryz.ntmps27
 go_wp2_with fail
 refine hth.mono ?_
 generalize (w.alloc (.cells #[.slice lo ls.length lc] 49)).alloc (.cells #[.int .i64 0,.nilFunc,.int .i64 0,.nilFunc,.nilFunc] 70)=W1 at *
 rintro e w2 ⟨B,rfl,hb2⟩
 have hx2:Bx5 w2 (w.heap.size+1) _ _ _ _ _:=(hb2.block _ (Array.getElem?_eq_some_iff.1 hx0).1).trans hx0
 have hB2:Below w.heap.size w w2:=hB1.trans (hb2.mono hB1.size)
 clear hth hx0 hB1 hb2
 obtain⟨r0,r1,r2,r3,r4⟩:=hx2.cells
 have g00:=Lib.frozen_of_heap hx2 0
 have g01:=Lib.frozen_of_heap hx2 1
 have g02:=Lib.frozen_of_heap hx2 2
 have g03:=Lib.frozen_of_heap hx2 3
 have g04:=Lib.frozen_of_heap hx2 4
 rcases Zdr B k with ⟨z,m,F,c,G,H,hk,hv⟩ | ⟨hk,hv⟩
 ·have hP:=hx2.put (.int .i64 z) (.func (.func F) #[] c) (.int .i64 m) (.func (.func G) #[] #[]) (.func (.func H) #[] #[])
  have hL:=ZaA hB2 (by omega:w.heap.size≤w.heap.size+1) (.int .i64 z) (.func (.func F) #[] c) (.int .i64 m) (.func (.func G) #[] #[]) (.func (.func H) #[] #[])
  have HV:Hid (fmA (bgV B) (bgV (B+1)) k=#[.int .i64 z,.func (.func F) #[] c,.int .i64 m,.func (.func G) #[] #[],.func (.func H) #[] #[]]):=hv
  have hdk:decide (k<3)=true:=decide_eq_true hk
  have HBB:Hid (decide (k<3)=true):=hdk
  rw[hv,hdk]
  clear hx2 hB2 hv hdk hk
  go_wp2
  refine bodyPost_ret (Zdt _ _ _ _ _ _ _ _ hP rfl rfl) rfl ⟨B,?_,hL⟩
  rw[HV.out,HBB.out]
  rfl
 ·have hP:=hx2.put (.int .i64 0) .nilFunc (.int .i64 0) .nilFunc .nilFunc
  have hL:=ZaA hB2 (by omega:w.heap.size≤w.heap.size+1) (.int .i64 0) .nilFunc (.int .i64 0) .nilFunc .nilFunc
  have HV:Hid (fmA (bgV B) (bgV (B+1)) k=#[.int .i64 0,.nilFunc,.int .i64 0,.nilFunc,.nilFunc]):=hv
  have hdk:decide (k<3)=false:=decide_eq_false hk
  have HBB:Hid (decide (k<3)=false):=hdk
  rw[hv,hdk]
  clear hx2 hB2 hv hdk hk
  go_wp2
  refine bodyPost_ret (Zdt _ _ _ _ _ _ _ _ hP rfl rfl) rfl ⟨B,?_,hL⟩
  rw[HV.out,HBB.out]
  rfl
end

section
open Go.RowKit Go.Proofs.YtcniomgjikienaaGreatDoor.Tx
attribute [local go_sem] Zhc
attribute [local simp] Zce
end

section
open Go.RowKit
def rdO (vL:Value) (p fa fe:Int):Obj:=.cells #[vL,.int .i64 p,.int .i64 fa,.int .i64 fe] 123
def Rx (u:World) (R:Nat) (vL:Value) (p fa fe:Int):Prop:=u.heap[R]?=some (rdO vL p fa fe)
section
variable {u u':World} {R:Nat} {vL:Value} {p fa fe:Int}
theorem Rx.cells (q:Rx u R vL p fa fe):u.cell? ⟨R,0,none⟩=some vL∧u.cell? ⟨R,1,none⟩=some (.int .i64 p)∧u.cell? ⟨R,2,none⟩=some (.int .i64 fa)∧u.cell? ⟨R,3,none⟩=some (.int .i64 fe):=by
 unfold Rx rdO at q
 refine⟨?_,?_,?_,?_⟩<;>rw[Lib.cell_of_heap q]<;>rfl
theorem Rx.frozen (q:Rx u R vL p fa fe) (j:Nat):u.frozen? ⟨R,j,none⟩=false:=Lib.frozen_of_heap q j
theorem Rx.lt (q:Rx u R vL p fa fe):R<u.heap.size:=(Array.getElem?_eq_some_iff.1 q).1
theorem Rx.dN (q:Rx u R vL p fa fe) (n:Nat):Rx (u.drewN n) R vL p fa fe:=q
theorem Rx.at (q:Rx u R vL p fa fe) (p':Int):Rx (u.setCell ⟨R,1,none⟩ (.int .i64 p')) R vL p' fa fe:=heap_setCell_same u R 1 _ _ (.int .i64 p') q
theorem Rx.fault (q:Rx u R vL p fa fe) (x y:Int):Rx ((u.setCell ⟨R,2,none⟩ (.int .i64 x)).setCell ⟨R,3,none⟩ (.int .i64 y)) R vL p x y:=heap_setCell_same _ R 3 _ _ (.int .i64 y) (heap_setCell_same u R 2 _ _ (.int .i64 x) q)
end
theorem ZdT {w u v:World} {r:Option Nat} (h:w.grownBy u r) (h':u.grownBy v r):w.grownBy v r :=
 ⟨h'.os.trans h.os,h'.tape.trans h.tape,h'.output.trans h.output,Nat.le_trans h.size h'.size,fun k hk hr=>(h'.block k (Nat.lt_of_lt_of_le hk h.size) hr).trans (h.block k hk hr)⟩
theorem Zhm {L:List (List UInt8)} {p:Nat} (hp:p<L.length):nxt p (L.drop p)=if fdB L[p]=true then .ok (L[p].dropLast,L.drop (p+1)) else .error (p+1,3):=by
 rw[List.drop_eq_getElem_cons hp]
 rfl
theorem Zhn {L:List (List UInt8)} {p:Nat} (hp:L.length≤p):nxt p (L.drop p)=.error (p+1,1):=by
 rw[List.drop_eq_nil_of_le hp]
 rfl
end

section
open Go.RowKit
attribute [local go_sem] ByteArray.extract_mk Zhc
end

section
open Go.RowKit
attribute [local go_sem] ByteArray.extract_mk Zhc
end

end Go.Proofs.YtcniomgjikienaaGreatDoor

namespace Go.Proofs

section
open Go.Shelf Go.RowKit
end

end Go.Proofs

namespace Go.Proofs.YtcniomgjikienaaGreatDoor

section
open Go.RowKit
end

end Go.Proofs.YtcniomgjikienaaGreatDoor

/- How long the normal form of a script is; plain mathematics. -/
namespace Go.Proofs.YtcniomgjikienaaGreatDoor
end Go.Proofs.YtcniomgjikienaaGreatDoor

namespace Go.Proofs.YtcniomgjikienaaGreatDoor

section
open Go.RowKit
def Tab10 (w : World) : Prop := ∀ u : World, Below w.heap.size w u → Lib.TabIs Tryz.prog u "internal/strconv.uint64pow10" .u64 Lib.pow10Tab
theorem Tab10.on {w u:World} (h:Tab10 w) (hb:Below w.heap.size w u):Tab10 u:=fun v hv=>h v (hb.trans (hv.mono hb.size))
end

section
open Go.RowKit
theorem ZkK (s:List UInt8):Lib.hasSuffix s [10]=fdB s:=by
 unfold Lib.hasSuffix fdB
 rw[Bool.eq_iff_iff,List.isSuffixOf_iff_suffix,beq_iff_eq]
 constructor
 ·rintro⟨t,rfl⟩
  simp
 ·intro h
  obtain⟨t,rfl⟩:=List.getLast?_eq_some_iff.1 h
  exact⟨t,rfl⟩
end

section
open Go.RowKit
end

end Go.Proofs.YtcniomgjikienaaGreatDoor
