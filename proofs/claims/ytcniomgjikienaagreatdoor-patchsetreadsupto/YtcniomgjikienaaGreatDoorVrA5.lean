/-
  Texts that belong together, joined: UnM3, PsM1, PsM2, PsM3, PsM4, NoB, NpS, NoJn, NoTx, NoRf, NoCg, PsA, PsB, NoPs, NpN, QsA, QsC.
-/
import Derived.Test.YtcniomgjikienaaGreatDoorVrA4
import Derived.BigQuiet
import Derived.Lib.ItoaNum
import Derived.Laws.IdiomStrings
import Derived.Deep.RegionHeld3
import Derived.Deep.CutBlock
import Derived.Deep.DeepCutAuto
import Derived.Lib.OthersKept
import Derived.Laws.RangeAny
import Derived.Laws.EntriesVeiled

set_option maxHeartbeats 16000000
set_option maxRecDepth 100000
namespace Go.Proofs.YtcniomgjikienaaGreatDoor

section
open Ln
theorem Zhw {c:UInt8} (h:okC c=true):c=32∨c=45∨c=43:=by
 simp only[okC,Bool.or_eq_true,beq_iff_eq] at h
 rcases h with (h | h) | h
 ·exact .inl h
 ·exact .inr (.inl h)
 ·exact .inr (.inr h)
theorem ZkR {c:UInt8} (h:okC c=true) (t:List UInt8):okS (⟨c.toNat,t⟩:Mk).sg=true∧sgO ⟨c.toNat,t⟩=tkO c∧sgN ⟨c.toNat,t⟩=tkN c∧((c == 43)=decide (((c.toNat:Nat):Int)=43))∧((c == 45)=decide (((c.toNat:Nat):Int)=45)):=by
 unfold sgO sgN
 rcases Zhw h with rfl | rfl | rfl<;>exact⟨rfl,rfl,rfl,rfl,rfl⟩
theorem Zlx {a b p p1:Nat} {ls r:List (List UInt8)} {m:Mk} (hP:Plain ls) (h:ulnP a b p ls=.ok (m,p1,r)):linB m.tx=true∧okS m.sg=true∧sgO m≤a∧sgN m≤b∧(fdB m.tx=false→(m.sg=43∨a-sgO m=0)∧(m.sg=45∨b-sgN m=0))∧Plain r∧ls.length+p=r.length+p1∧r.length<ls.length:=by
 unfold ulnP at h
 split at h
 ·cases h
 ·cases h
 ·rename_i c t r0 hn
  have hls:=Zhp hn
  obtain⟨a1,a2⟩:=Zho hP hn
  have hct:∀ d∈t,d≠10:=by
   have h0:=hP ((c::t)++[10]) (by rw[hls];simp)
   rw[List.dropLast_concat] at h0
   exact fun d hd=>h0 d (by simp[hd])
  split at h
  ·rename_i hc
   obtain⟨hc1,hc2,hc3⟩:=hc
   split at h
   ·rename_i he
    cases h
    obtain⟨s1,s2,s3,s4,s5⟩:=ZkR hc1 t
    obtain⟨he1,he2,he3⟩:=he
    have hlen:r0.tail.length+1=r0.length:=by
     cases r0 with
     | nil=>exact absurd he3 (by decide)
     | cons=>simp
    refine⟨Zfx hct he2,s1,by rw[s2];exact hc2,by rw[s3];exact hc3,fun _=>?_,fun y hy=>a2 y (List.mem_of_mem_tail hy),by omega,by omega⟩
    unfold uendB at he1
    rw[s4,s5] at he1
    simp only[Bool.and_eq_true,Bool.or_eq_true,decide_eq_true_eq,beq_iff_eq] at he1
    rw[s2,s3]
    exact he1
   ·cases h
    obtain⟨s1,s2,s3,s4,s5⟩:=ZkR hc1 (t++[10])
    refine⟨Zfy hct,s1,by rw[s2];exact hc2,by rw[s3];exact hc3,fun hf=>?_,a2,by omega,by omega⟩
    rw[Zdf] at hf
    cases hf
  ·cases h
theorem ZlR (n:Nat):∀ {a b p p1:Nat} {ls r:List (List UInt8)} {l:List Mk},Plain ls→a+b≤n→urdP n a b p ls=.ok (l,p1,r)→(∀ m∈l,linB m.tx=true∧okS m.sg=true)∧(pkL 43 l).length=a∧(pkL 45 l).length=b∧abl (pkL 43 l)=true∧abl (pkL 45 l)=true∧Plain r∧ls.length+p=r.length+p1∧r.length≤ls.length:=by
 induction n with
 | zero =>
  intro a b p p1 ls r l hP hn h
  simp only[urdP] at h
  cases h
  refine⟨fun m hm=>(by cases hm),?_,?_,rfl,rfl,hP,rfl,Nat.le_refl _⟩
  ·simp only[pkL,List.length_nil];omega
  ·simp only[pkL,List.length_nil];omega
 | succ n ih =>
  intro a b p p1 ls r l hP hn h
  simp only[urdP] at h
  split at h
  ·cases h
   refine⟨fun m hm=>(by cases hm),?_,?_,rfl,rfl,hP,rfl,Nat.le_refl _⟩
   ·simp only[pkL,List.length_nil];omega
   ·simp only[pkL,List.length_nil];omega
  ·split at h
   ·cases h
   ·rename_i m q1 r1 h1
    obtain⟨a1,a2,a3,a4,a5,a6,a7,a8⟩:=Zlx hP h1
    split at h
    ·cases h
    ·rename_i l2 q2 r2 h2
     have hs:1≤sgO m+sgN m:=by
      unfold sgO sgN
      by_cases e:m.sg=43
      ·rw[if_neg (by omega:¬ m.sg=45)]
       omega
      ·rw[if_neg e]
       omega
     obtain⟨b1,b2,b3,b4,b5,b6,b7,b8⟩:=ih a6 (by omega) h2
     cases h
     have k43:=Ziq a2 l2
     have k45:=Zir a2 l2
     refine⟨?_,by omega,by omega,?_,?_,b6,by omega,by omega⟩
     ·intro x hx
      rcases List.mem_cons.1 hx with rfl | hx
      ·exact⟨a1,a2⟩
      ·exact b1 x hx
     ·simp only[pkL]
      split
      ·rename_i hq
       simp only[abl,Bool.and_eq_true,Bool.or_eq_true]
       refine⟨?_,b4⟩
       cases hf:fdB m.tx with
       | true=>exact .inr rfl
       | false =>
        rcases (a5 hf).1 with e | e
        ·exact absurd e hq.1
        ·left
         have:(pkL 43 l2).length=0:=by omega
         simpa using this
      ·exact b4
     ·simp only[pkL]
      split
      ·rename_i hq
       simp only[abl,Bool.and_eq_true,Bool.or_eq_true]
       refine⟨?_,b5⟩
       cases hf:fdB m.tx with
       | true=>exact .inr rfl
       | false =>
        rcases (a5 hf).2 with e | e
        ·exact absurd e hq.1
        ·left
         have:(pkL 45 l2).length=0:=by omega
         simpa using this
      ·exact b5
theorem ZbO {s:List UInt8} {q n:Int} (h:cntP s=some (q,n)):0≤q∧q≤2147483647∧0≤n∧n≤2147483647:=by
 unfold cntP at h
 split at h
 ·rename_i x c y _
  split at h
  ·cases h
   have h1:=ZiG (s:=x)
   have h2:=ZiG (s:=y)
   omega
  ·cases h
 ·split at h
  ·cases h
   have h1:=ZiG (s:=s)
   omega
  ·cases h
theorem Zle {s:List UInt8} {A AN B BN:Int} (h:uhdP s=some (A,AN,B,BN)):(0≤A∧A≤2147483647∧0≤AN∧AN≤2147483647)∧(0≤B∧B≤2147483647∧0≤BN∧BN≤2147483647):=by
 unfold uhdP at h
 split at h
 ·split at h
  ·cases h
  ·split at h
   ·cases h
   ·split at h
    ·split at h
     ·rename_i h1 h2
      cases h
      exact⟨ZbO h1,ZbO h2⟩
     ·cases h
    ·cases h
 ·cases h
theorem Zli {k p p1:Nat} {ls r:List (List UInt8)} {h:Hk} (hP:Plain ls) (hh:uhkP k p ls=.ok (h,p1,r)):chkH h=0∧Plain r∧ls.length+p=r.length+p1∧r.length<ls.length∧k<4096:=by
 unfold uhkP at hh
 split at hh
 ·cases hh
 ·rename_i s r0 hn
  obtain⟨a1,a2⟩:=Zho hP hn
  split at hh
  ·cases hh
  ·rename_i A AN B BN hd
   obtain⟨d1,d2⟩:=Zle hd
   split at hh
   ·cases hh
   ·rename_i hk
    split at hh
    ·cases hh
    ·rename_i hz
     split at hh
     ·cases hh
     ·rename_i l q1 r1 h1
      obtain⟨b1,b2,b3,b4,b5,b6,b7,b8⟩:=ZlR _ a2 (Nat.le_refl _) h1
      split at hh
      ·cases hh
      ·rename_i hs
       cases hh
       refine⟨?_,b6,by omega,by omega,by omega⟩
       have hfld:fldB l=true:=(Zdq l).2 ⟨b1,b4,b5⟩
       have hrng:rngB ⟨A,AN,B,BN,l⟩=true:=by
        simp only[rngB,nat31,Bool.and_eq_true,Bool.not_eq_true',Bool.and_eq_false_iff,decide_eq_true_eq,decide_eq_false_iff_not]
        omega
       unfold chkH
       rw[if_neg (by rw[hrng];decide),if_neg (by rw[hfld];decide),if_neg,if_neg (show ¬ ((l.all fun m=>decide (m.sg=32))=true) from hs)]
       show ¬ (AN≠((pkL 43 l).length:Int)∨BN≠((pkL 45 l).length:Int))
       omega
theorem Zll {x:List UInt8} (f:Nat):∀ {k p p1:Nat} {ls r:List (List UInt8)} {hs:List Hk},Plain ls→uhsP x f k p ls=.ok (hs,p1,r)→hs≠[]∧(∀ h∈hs,chkH h=0)∧k+hs.length≤4096∧Plain r∧ls.length+p=r.length+p1∧r.length<ls.length∧pkU x r=false:=by
 induction f with
 | zero=>intro k p p1 ls r hs _ h;cases h
 | succ f ih =>
  intro k p p1 ls r hs hP h
  simp only[uhsP] at h
  split at h
  ·cases h
  ·rename_i h0 q1 r1 h1
   obtain⟨a1,a2,a3,a4,a5⟩:=Zli hP h1
   split at h
   ·split at h
    ·cases h
    ·rename_i l q2 r2 h2
     obtain⟨b1,b2,b3,b4,b5,b6,b7⟩:=ih a2 h2
     cases h
     refine⟨by simp,?_,by simp only[List.length_cons];omega,b4,by omega,by omega,b7⟩
     intro y hy
     rcases List.mem_cons.1 hy with rfl | hy
     ·exact a1
     ·exact b2 y hy
   ·rename_i hp
    cases h
    refine⟨by simp,?_,by simp only[List.length_cons,List.length_nil];omega,a2,a3,a4,by simpa using hp⟩
    intro y hy
    rw[List.mem_singleton.1 hy]
    exact a1
theorem Zse {x:List UInt8} (f:Nat):∀ {k p:Nat} {ls:List (List UInt8)} {L:List Pth},Plain ls→upsP x f k p ls=.ok L→(∀ q∈L,Gu q)∧(k+L.length≤64∨L=[]):=by
 induction f with
 | zero =>
  intro k p ls L _ h
  simp only[upsP] at h
  cases h
  exact⟨fun q hq=>(by cases hq),.inr rfl⟩
 | succ f ih =>
  intro k p ls L hP h
  simp only[upsP] at h
  split at h
  ·cases h
   exact⟨fun q hq=>(by cases hq),.inr rfl⟩
  ·split at h
   ·cases h
   ·rename_i n1 r1 h1
    obtain⟨a1,a2,a3⟩:=ZgH hP h1
    split at h
    ·cases h
    ·rename_i hk
     split at h
     ·cases h
     ·rename_i n2 r2 h2
      obtain⟨b1,b2,b3⟩:=ZgH a3 h2
      split at h
      ·cases h
      ·rename_i hs p3 r3 h3
       obtain⟨c1,c2,c3,c4,c5,c6,_⟩:=Zll _ b3 h3
       split at h
       ·cases h
       ·rename_i l h4
        obtain⟨d1,d2⟩:=ih c4 h4
        cases h
        refine⟨?_,.inl ?_⟩
        ·intro q hq
         rcases List.mem_cons.1 hq with rfl | hq
         ·exact⟨c1,a1,b1,by show hs.length≤4096;omega,c2⟩
         ·exact d1 q hq
        ·rcases d2 with d2 | rfl
         ·simp only[List.length_cons]
          omega
         ·simp only[List.length_cons,List.length_nil]
          omega
theorem ZrZ {x t:List UInt8} {L:List Pth} (h:unT x t=.ok L):(∀ q∈L,Gu q)∧L.length≤64:=by
 unfold unT at h
 split at h
 ·cases h
 ·obtain⟨a1,a2⟩:=Zse _ (Zkx t) h
  refine⟨a1,?_⟩
  rcases a2 with a2 | rfl
  ·omega
  ·exact Nat.zero_le _
/- by two bytes, or by four -/
theorem ZrP {s:List UInt8} {r:List (List UInt8)} (h:atC.isPrefixOf s=false) (k p:Nat):uhkP k p (s::r)=.error (p+1,3):=by
 unfold uhkP
 simp only[nxt]
 split
 ·rename_i h0
  split at h0
  ·cases h0
  ·cases h0
   rfl
 ·rename_i u q h0
  split at h0
  ·rename_i hf
   cases h0
   have:uhdP s.dropLast=none:=by
    unfold uhdP
    rw[if_neg]
    intro hq
    have e:=Zdd hf
    rw[e] at h
    have:([64,64,32,45]:List UInt8).isPrefixOf (s.dropLast++[10])=true:=by
     rw[List.isPrefixOf_iff_prefix] at hq ⊢
     exact hq.trans (List.prefix_append _ _)
    unfold atC at h
    rw[this] at h
    cases h
   rw[this]
  ·cases h0
theorem Zox {s:List UInt8} {r:List (List UInt8)} (h:atR.isPrefixOf s=true) (p:Nat):namP [45,45,45,32] p (s::r)=.error (p+1,3):=by
 unfold namP
 simp only[nxt]
 split
 ·rename_i h0
  split at h0
  ·cases h0
  ·cases h0
   rfl
 ·rename_i u q h0
  split at h0
  ·rename_i hf
   cases h0
   rw[if_neg]
   intro hq
   rw[List.isPrefixOf_iff_prefix] at h hq
   obtain⟨y,hy⟩:=h
   obtain⟨z,hz⟩:=hq
   have e:=Zdd hf
   rw[← hz] at e
   rw[← hy] at e
   simp[atR] at e
  ·cases h0
theorem ZoW {r:List (List UInt8)} (h:pkU atC r=true):pkU atR r=true:=by
 cases r with
 | nil=>cases h
 | cons s r =>
  simp only[pkU] at h ⊢
  rw[List.isPrefixOf_iff_prefix] at h ⊢
  exact (by decide:atR <+: atC).trans h
theorem ZrS (f:Nat):∀ (k p:Nat) (ls:List (List UInt8)),ls.length<f→Plain ls→uhsP atR f k p ls=uhsP atC f k p ls∨∃ hs p1 s r,uhsP atC f k p ls=.ok (hs,p1,s::r)∧uhsP atR f k p ls=.error (p1+1,3)∧atR.isPrefixOf s=true:=by
 induction f with
 | zero=>intro k p ls h;omega
 | succ f ih =>
  intro k p ls hf hP
  simp only[uhsP]
  cases h1:uhkP k p ls with
  | error e=>exact .inl rfl
  | ok v =>
   obtain⟨h0,q1,r1⟩:=v
   obtain⟨a1,a2,a3,a4,a5⟩:=Zli hP h1
   simp only
   cases hc:pkU atC r1 with
   | true =>
    rw[if_pos (ZoW hc),if_pos rfl]
    rcases ih (k+1) q1 r1 (by omega) a2 with e | ⟨hs,p1,s,r,e1,e2,e3⟩
    ·rw[e]
     exact .inl rfl
    ·rw[e1,e2]
     exact .inr ⟨h0::hs,p1,s,r,rfl,rfl,e3⟩
   | false =>
    rw[if_neg (by decide:¬ (false=true))]
    cases hr:pkU atR r1 with
    | false=>exact .inl rfl
    | true =>
     rw[if_pos rfl]
     cases r1 with
     | nil=>cases hr
     | cons s r =>
      have e1:uhsP atR f (k+1) q1 (s::r)=.error (q1+1,3):=by
       cases f with
       | zero=>omega
       | succ f =>
        simp only[uhsP]
        rw[ZrP hc]
      rw[e1]
      exact .inr ⟨[h0],q1,s,r,rfl,rfl,hr⟩
theorem Zsc (f:Nat):∀ (k p:Nat) (ls:List (List UInt8)),ls.length≤f→Plain ls→upsP atR f k p ls=upsP atC f k p ls:=by
 induction f with
 | zero=>intro k p ls h _;rfl
 | succ f ih =>
  intro k p ls hf hP
  simp only[upsP]
  split
  ·rfl
  ·cases h1:namP [45,45,45,32] p ls with
   | error e=>rfl
   | ok v =>
    obtain⟨n1,r1⟩:=v
    obtain⟨a1,a2,a3⟩:=ZgH hP h1
    simp only
    split
    ·rfl
    ·cases h2:namP [43,43,43,32] (p+1) r1 with
     | error e=>rfl
     | ok v =>
      obtain⟨n2,r2⟩:=v
      obtain⟨b1,b2,b3⟩:=ZgH a3 h2
      simp only
      rcases ZrS (r2.length+1) 0 (p+2) r2 (by omega) b3 with e | ⟨hs,p1,s,r,e1,e2,e3⟩
      ·rw[e]
       cases h3:uhsP atC (r2.length+1) 0 (p+2) r2 with
       | error e=>rfl
       | ok v =>
        obtain⟨hs,p3,r3⟩:=v
        obtain⟨c1,c2,c3,c4,c5,c6,_⟩:=Zll _ b3 h3
        simp only
        rw[ih (k+1) p3 r3 (by omega) c4]
      ·rw[e1,e2]
       obtain⟨c1,c2,c3,c4,c5,c6,_⟩:=Zll _ b3 e1
       simp only[List.length_cons] at c6
       simp only
       cases f with
       | zero=>omega
       | succ f =>
        simp only[upsP]
        rw[if_neg (by simp),Zox e3]
theorem ZrX (t:List UInt8):unT atR t=unT atC t:=by
 unfold unT
 split
 ·rfl
 ·exact Zsc _ 0 0 _ (Nat.le_refl _) (Zkx t)
end

section
open Ln
def Plc (n:Nat) (e:Nat × Int):Prop:=1≤e.1∧e.1≤n+1∧e.2≠0
theorem Plc.le {n m:Nat} {e:Nat × Int} (h:Plc n e) (hm:n≤m):Plc m e:=⟨h.1,by have:=h.2.1;omega,h.2.2⟩
theorem Zhq {p:Nat} {ls:List (List UInt8)} {e:Nat × Int} (h:nxt p ls=.error e):Plc (p+ls.length) e:=by
 cases ls with
 | nil =>
  simp only[nxt] at h
  cases h
  exact⟨by simp,by simp,by simp⟩
 | cons s r =>
  simp only[nxt] at h
  split at h
  ·cases h
  ·cases h
   exact⟨by simp,by simp,by simp⟩
theorem Zgt {sg:List UInt8} {last:Bool} {p:Nat} {ls:List (List UInt8)} {e:Nat × Int} (h:mkd sg last p ls=.error e):Plc (p+ls.length) e:=by
 unfold mkd at h
 split at h
 ·rename_i e0 hn
  cases h
  exact Zhq hn
 ·rename_i s r hn
  have hl:=Zhp hn
  subst hl
  split at h
  ·split at h
   ·rename_i hp
    split at h
    ·cases h
     refine⟨by simp,?_,by simp⟩
     cases r with
     | nil=>simp[pkM] at hp
     | cons=>simp only[List.length_cons];omega
    ·cases h
   ·cases h
  ·cases h
   exact⟨by simp,by simp,by simp⟩
theorem Zjd {sg:List UInt8} {S:Int} (n:Nat):∀ {p:Nat} {ls:List (List UInt8)} {e:Nat × Int},Plain ls→rdN sg S n p ls=.error e→Plc (p+ls.length) e:=by
 induction n with
 | zero=>intro p ls e _ h;cases h
 | succ n ih =>
  intro p ls e hP h
  simp only[rdN] at h
  split at h
  ·rename_i e0 hm
   cases h
   exact Zgt hm
  ·rename_i t p1 r hm
   obtain⟨a1,a2,a3,_⟩:=Zgs hP hm
   split at h
   ·rename_i e0 hr
    cases h
    exact (ih a3 hr).le (by omega)
   ·cases h
theorem Zkd {p:Nat} {ls:List (List UInt8)} {e:Nat × Int} (h:sepP p ls=.error e):Plc (p+ls.length) e:=by
 unfold sepP at h
 split at h
 ·rename_i e0 hn
  cases h
  exact Zhq hn
 ·rename_i s r hn
  have hl:=Zhp hn
  subst hl
  split at h
  ·cases h
  ·cases h
   exact⟨by simp,by simp,by simp⟩
theorem Zkc {p p1:Nat} {ls r:List (List UInt8)} (hP:Plain ls) (h:sepP p ls=.ok (p1,r)):ls.length+p=r.length+p1∧Plain r:=by
 unfold sepP at h
 split at h
 ·cases h
 ·rename_i s r0 hn
  obtain⟨a1,a2⟩:=Zho hP hn
  split at h
  ·cases h
   exact⟨by omega,a2⟩
  ·cases h
theorem Zee {k p:Nat} {ls:List (List UInt8)} {e:Nat × Int} (hP:Plain ls) (h:hkP k p ls=.error e):Plc (p+ls.length) e:=by
 unfold hkP at h
 split at h
 ·rename_i e0 hn
  cases h
  exact Zhq hn
 ·rename_i s r0 hn
  obtain⟨a1,a2⟩:=Zho hP hn
  split at h
  ·cases h
   exact⟨by simp,by simp,by simp⟩
  ·split at h
   ·cases h
    exact⟨by simp,by simp,by simp⟩
   ·split at h
    ·rename_i e0 h1
     cases h
     exact (Zjd _ a2 h1).le (by omega)
    ·rename_i l1 q1 r1 h1
     obtain⟨b1,b2,b3,b4,_⟩:=Zjc _ a2 h1
     split at h
     ·rename_i e0 h2
      cases h
      split at h2
      ·exact (Zkd h2).le (by omega)
      ·cases h2
     ·rename_i q2 r2 h2
      have hs:r1.length+q1=r2.length+q2∧Plain r2:=(by
       split at h2
       ·exact Zkc b4 h2
       ·cases h2
        exact⟨rfl,b4⟩)
      split at h
      ·rename_i e0 h3
       cases h
       exact (Zjd _ hs.2 h3).le (by omega)
      ·cases h
theorem Zed {k p p1:Nat} {ls r:List (List UInt8)} {x:Hk} (hP:Plain ls) (h:hkP k p ls=.ok (x,p1,r)):ls.length+p=r.length+p1∧Plain r:=by
 unfold hkP at h
 split at h
 ·cases h
 ·rename_i s r0 hn
  obtain⟨a1,a2⟩:=Zho hP hn
  split at h
  ·cases h
  ·split at h
   ·cases h
   ·split at h
    ·cases h
    ·rename_i l1 q1 r1 h1
     obtain⟨b1,b2,b3,b4,_⟩:=Zjc _ a2 h1
     split at h
     ·cases h
     ·rename_i q2 r2 h2
      have hs:r1.length+q1=r2.length+q2∧Plain r2:=(by
       split at h2
       ·exact Zkc b4 h2
       ·cases h2
        exact⟨rfl,b4⟩)
      split at h
      ·cases h
      ·rename_i l2 q3 r3 h3
       obtain⟨d1,d2,d3,d4,_⟩:=Zjc _ hs.2 h3
       cases h
       exact⟨by omega,d4⟩
theorem Zel (f:Nat):∀ {k p:Nat} {ls:List (List UInt8)} {e:Nat × Int},Plain ls→hksP f k p ls=.error e→Plc (p+ls.length) e:=by
 induction f with
 | zero=>intro k p ls e _ h;cases h
 | succ f ih =>
  intro k p ls e hP h
  simp only[hksP] at h
  split at h
  ·cases h
  ·split at h
   ·rename_i e0 h1
    cases h
    exact Zee hP h1
   ·rename_i hk q1 r1 h1
    obtain⟨a1,a2⟩:=Zed hP h1
    split at h
    ·rename_i e0 h2
     cases h
     exact (ih a2 h2).le (by omega)
    ·cases h
theorem ZiH {t:List UInt8} {e:Nat × Int} (ht:t.length≤1048576) (h:prsT t=.error e):Plc (splitL t).length e:=by
 unfold prsT at h
 rw[if_neg (by omega)] at h
 exact (Zel _ (Zkx t) h).le (by omega)
/- names, and the unified form -/
theorem ZgI {ah:List UInt8} {p:Nat} {ls:List (List UInt8)} {e:Nat × Int} (h:namP ah p ls=.error e):Plc (p+ls.length) e:=by
 unfold namP at h
 split at h
 ·rename_i e0 hn
  cases h
  exact Zhq hn
 ·rename_i s r hn
  have hl:=Zhp hn
  subst hl
  split at h
  ·split at h
   ·cases h
    exact⟨by simp,by simp,by simp⟩
   ·cases h
  ·cases h
   exact⟨by simp,by simp,by simp⟩
theorem Zly {a b p:Nat} {ls:List (List UInt8)} {e:Nat × Int} (h:ulnP a b p ls=.error e):Plc (p+ls.length) e:=by
 unfold ulnP at h
 split at h
 ·rename_i e0 hn
  cases h
  exact Zhq hn
 ·rename_i r hn
  have hl:=Zhp hn
  subst hl
  cases h
  exact⟨by simp,by simp,by simp⟩
 ·rename_i c t r hn
  have hl:=Zhp hn
  subst hl
  split at h
  ·split at h
   ·cases h
   ·cases h
  ·cases h
   exact⟨by simp,by simp,by simp⟩
theorem ZlS (n:Nat):∀ {a b p:Nat} {ls:List (List UInt8)} {e:Nat × Int},Plain ls→urdP n a b p ls=.error e→Plc (p+ls.length) e:=by
 induction n with
 | zero=>intro a b p ls e _ h;cases h
 | succ n ih =>
  intro a b p ls e hP h
  simp only[urdP] at h
  split at h
  ·cases h
  ·split at h
   ·rename_i e0 h1
    cases h
    exact Zly h1
   ·rename_i m p1 r h1
    obtain⟨_,_,_,_,_,b6,b7,_⟩:=Zlx hP h1
    split at h
    ·rename_i e0 h2
     cases h
     exact (ih b6 h2).le (by omega)
    ·cases h
theorem Zlj {k p:Nat} {ls:List (List UInt8)} {e:Nat × Int} (hP:Plain ls) (h:uhkP k p ls=.error e):Plc (p+ls.length) e:=by
 unfold uhkP at h
 split at h
 ·rename_i e0 hn
  cases h
  exact Zhq hn
 ·rename_i s r0 hn
  obtain⟨a1,a2⟩:=Zho hP hn
  split at h
  ·cases h
   exact⟨by simp,by simp,by simp⟩
  ·split at h
   ·cases h
    exact⟨by simp,by simp,by simp⟩
   ·split at h
    ·cases h
     exact⟨by simp,by simp,by simp⟩
    ·split at h
     ·rename_i e0 h1
      cases h
      exact (ZlS _ a2 h1).le (by omega)
     ·split at h
      ·cases h
       exact⟨by simp,by simp,by simp⟩
      ·cases h
theorem Zlm {x:List UInt8} (f:Nat):∀ {k p:Nat} {ls:List (List UInt8)} {e:Nat × Int},Plain ls→uhsP x f k p ls=.error e→Plc (p+ls.length) e:=by
 induction f with
 | zero =>
  intro k p ls e _ h
  simp only[uhsP] at h
  cases h
  exact⟨by simp,by simp,by simp⟩
 | succ f ih =>
  intro k p ls e hP h
  simp only[uhsP] at h
  split at h
  ·rename_i e0 h1
   cases h
   exact Zlj hP h1
  ·rename_i hk q1 r1 h1
   obtain⟨_,a2,a3,_⟩:=Zli hP h1
   split at h
   ·split at h
    ·rename_i e0 h2
     cases h
     exact (ih a2 h2).le (by omega)
    ·cases h
   ·cases h
theorem ZlJ {x:List UInt8} (f:Nat):∀ {k p:Nat} {ls:List (List UInt8)} {e:Nat × Int},Plain ls→upsP x f k p ls=.error e→Plc (p+ls.length) e:=by
 induction f with
 | zero=>intro k p ls e _ h;cases h
 | succ f ih =>
  intro k p ls e hP h
  simp only[upsP] at h
  split at h
  ·cases h
  ·split at h
   ·rename_i e0 h1
    cases h
    exact ZgI h1
   ·rename_i n1 r1 h1
    obtain⟨_,a2,a3⟩:=ZgH hP h1
    split at h
    ·cases h
     exact⟨by simp,by simp,by simp⟩
    ·split at h
     ·rename_i e0 h2
      cases h
      exact (ZgI h2).le (by omega)
     ·rename_i n2 r2 h2
      obtain⟨_,b2,b3⟩:=ZgH a3 h2
      split at h
      ·rename_i e0 h3
       cases h
       exact (Zlm _ b3 h3).le (by omega)
      ·rename_i hs p3 r3 h3
       obtain⟨_,_,_,c4,c5,_⟩:=Zll _ b3 h3
       split at h
       ·rename_i e0 h4
        cases h
        exact (ih c4 h4).le (by omega)
       ·cases h
theorem ZlB {x t:List UInt8} {e:Nat × Int} (ht:t.length≤1048576) (h:unT x t=.error e):Plc (splitL t).length e:=by
 unfold unT at h
 rw[if_neg (by omega)] at h
 exact (ZlJ _ (Zkx t) h).le (by omega)
/- the context form -/
theorem Zjz {s:UInt8} {p:Nat} {ls:List (List UInt8)} {e:Nat × Int} (h:rngP s p ls=.error e):Plc (p+ls.length) e:=by
 unfold rngP at h
 split at h
 ·rename_i e0 hn
  cases h
  exact Zhq hn
 ·rename_i t r hn
  have hl:=Zhp hn
  subst hl
  split at h
  ·cases h
   exact⟨by simp,by simp,by simp⟩
  ·split at h
   ·cases h
    exact⟨by simp,by simp,by simp⟩
   ·cases h
theorem Zje {sg:UInt8} (ls:List (List UInt8)):∀ {p:Nat} {e:Nat × Int},rdS sg p ls=.error e→Plc (p+ls.length) e:=by
 induction ls with
 | nil=>intro p e h;cases h
 | cons s r ih =>
  intro p e h
  simp only[rdS] at h
  split at h
  ·split at h
   ·split at h
    ·cases h
    ·split at h
     ·rename_i e0 h1
      cases h
      exact (ih h1).le (by simp only[List.length_cons];omega)
     ·cases h
   ·cases h
    exact⟨by simp,by simp,by simp⟩
  ·cases h
theorem Zdi {a0 a1 a2 n:Nat} {po no pw nw:Int} {o w:Sde} {e:Nat × Int} (h0:1≤a0∧a0≤n+1) (h1:1≤a1∧a1≤n+1) (h2:1≤a2∧a2≤n+1) (h:finH a0 a1 a2 po no pw nw o w=.error e):Plc n e:=by
 unfold finH at h
 split at h
 ·cases h;exact⟨h0.1,h0.2,by simp⟩
 ·split at h
  ·cases h;exact⟨h1.1,h1.2,by simp⟩
  ·split at h
   ·cases h;exact⟨h2.1,h2.2,by simp⟩
   ·split at h
    ·cases h;exact⟨h1.1,h1.2,by simp⟩
    ·split at h
     ·cases h;exact⟨h2.1,h2.2,by simp⟩
     ·split at h
      ·cases h;exact⟨h0.1,h0.2,by simp⟩
      ·cases h
theorem ZcE {k p:Nat} {ls:List (List UInt8)} {e:Nat × Int} (hP:Plain ls) (h:cxH k p ls=.error e):Plc (p+ls.length) e:=by
 unfold cxH at h
 split at h
 ·rename_i e0 hn
  cases h
  exact Zhq hn
 ·rename_i s r0 hn
  obtain⟨a1,a2⟩:=Zho hP hn
  split at h
  ·split at h
   ·cases h
    exact⟨by simp,by simp,by simp⟩
   ·split at h
    ·rename_i e0 h1
     cases h
     exact (Zjz h1).le (by omega)
    ·rename_i po no r1 h1
     obtain⟨b1,b2,_⟩:=Zjy a2 h1
     split at h
     ·rename_i e0 h2
      cases h
      exact (Zje _ h2).le (by omega)
     ·rename_i o p2 r2 h2
      obtain⟨c1,_,_,c4,_⟩:=Zjh _ b2 h2
      have c5:=Zjg _ h2
      split at h
      ·rename_i e0 h3
       cases h
       exact (Zjz h3).le (by omega)
      ·rename_i pw nw r3 h3
       obtain⟨d1,d2,_⟩:=Zjy c1 h3
       split at h
       ·rename_i e0 h4
        cases h
        exact (Zje _ h4).le (by omega)
       ·split at h
        ·rename_i e0 h5
         cases h
         exact Zdi (by omega) (by omega) (by omega) h5
        ·cases h
  ·cases h
   exact⟨by simp,by simp,by simp⟩
theorem ZcG (f:Nat):∀ {k p:Nat} {ls:List (List UInt8)} {e:Nat × Int},Plain ls→cxHs f k p ls=.error e→Plc (p+ls.length) e:=by
 induction f with
 | zero =>
  intro k p ls e _ h
  simp only[cxHs] at h
  cases h
  exact⟨by simp,by simp,by simp⟩
 | succ f ih =>
  intro k p ls e hP h
  simp only[cxHs] at h
  split at h
  ·rename_i e0 h1
   cases h
   exact ZcE hP h1
  ·rename_i hk q1 r1 h1
   obtain⟨_,a2,a3,_⟩:=ZcD hP h1
   split at h
   ·split at h
    ·rename_i e0 h2
     cases h
     exact (ih a2 h2).le (by omega)
    ·cases h
   ·cases h
theorem ZcH (f:Nat):∀ {k p:Nat} {ls:List (List UInt8)} {e:Nat × Int},Plain ls→cxPs f k p ls=.error e→Plc (p+ls.length) e:=by
 induction f with
 | zero=>intro k p ls e _ h;cases h
 | succ f ih =>
  intro k p ls e hP h
  simp only[cxPs] at h
  split at h
  ·cases h
  ·split at h
   ·rename_i e0 h1
    cases h
    exact ZgI h1
   ·rename_i n1 r1 h1
    obtain⟨_,a2,a3⟩:=ZgH hP h1
    split at h
    ·cases h
     exact⟨by simp,by simp,by simp⟩
    ·split at h
     ·rename_i e0 h2
      cases h
      exact (ZgI h2).le (by omega)
     ·rename_i n2 r2 h2
      obtain⟨_,b2,b3⟩:=ZgH a3 h2
      split at h
      ·rename_i e0 h3
       cases h
       exact (ZcG _ b3 h3).le (by omega)
      ·rename_i hs p3 r3 h3
       obtain⟨_,_,_,c4,c5,_⟩:=ZcF _ b3 h3
       split at h
       ·rename_i e0 h4
        cases h
        exact (ih c4 h4).le (by omega)
       ·cases h
theorem ZcC {t:List UInt8} {e:Nat × Int} (ht:t.length≤1048576) (h:cxT t=.error e):Plc (splitL t).length e:=by
 unfold cxT at h
 rw[if_neg (by omega)] at h
 exact (ZcH _ (Zkx t) h).le (by omega)
end

section
open Ln
def ltrB (c:UInt8):Bool:=decide (97≤c.toNat∧c.toNat≤122) || decide (65≤c.toNat∧c.toNat≤90)
def rmkB:List UInt8→Bool
 | []=>false
 | c::t=>decide (c=10∧t=[]) || (ltrB c || (c == 61 || c == 35))
def ntR (ls:List (List UInt8)):List (List UInt8):=ls.filter fun s=>!rmkB s
def plR:Nat→List (List UInt8)→List Nat
 | _,[]=>[]
 | p,s::r=>if rmkB s=true then plR (p+1) r else (p+1)::plR (p+1) r
def atL (ls:List (List UInt8)):List Nat:=plR 0 ls++[ls.length+1]
def fmS (s:List UInt8):Int:=if ([45,45,45,32]:List UInt8).isPrefixOf s=true then 3 else if ([42,42,42,32]:List UInt8).isPrefixOf s=true then 2 else if s.head?.any Pn.digB=true then 1 else 0
def fmL:List (List UInt8)→Int
 | []=>0
 | s::_=>fmS s
def frmT (t:List UInt8):Int:=fmL (ntR (splitL t))
def bareP:Except (Nat × Int) (List Hk)→Except (Nat × Int) (List Pth)
 | .error e=>.error e
 | .ok h=>.ok [⟨[],[],h⟩]
def inP (x:List UInt8) (f:Int) (u:List UInt8):Except (Nat × Int) (List Pth):=if f=3 then unT x u else if f=2 then cxT u else if f=1 then bareP (prsT u) else .error (1,180)
def renP (at':List Nat) (e:Nat × Int):Nat × Int:=(if e.1=0 then 0 else at'.getD (e.1-1) 0,e.2)
def psT (x t:List UInt8):Except (Nat × Int) (Int × List Pth) :=
 if 1048576<t.length then .error (0,9) else if ntR (splitL t)=[] then .ok (0,[]) else
 match inP x (frmT t) (ntR (splitL t)).flatten with
 | .error e=>.error (renP (atL (splitL t)) e)
 | .ok L=>.ok (frmT t,L)
theorem Zbo {s:List UInt8} {r:List (List UInt8)} (h:checkB (s::r)=true):checkB r=true∧lineB s true=true∧(r≠[]→lineB s false=true):=by
 simp only[checkB,Bool.and_eq_true] at h
 refine⟨h.2,?_,fun hr=>?_⟩
 ·cases r with
  | nil=>exact h.1
  | cons y r =>
   obtain⟨a,rfl,ha⟩:=ZfC (by simpa using h.1)
   exact ZfA ha _
 ·cases r with
  | nil=>exact absurd rfl hr
  | cons y r=>exact h.1
theorem Zbp (q:List UInt8→Bool) (ls:List (List UInt8)) (h:checkB ls=true):checkB (ls.filter q)=true:=by
 induction ls with
 | nil=>rfl
 | cons s r ih =>
  obtain⟨a1,a2,a3⟩:=Zbo h
  rw[List.filter_cons]
  split
  ·simp only[checkB,Bool.and_eq_true]
   refine⟨?_,ih a1⟩
   cases hr:(r.filter q) with
   | nil=>exact a2
   | cons y z=>exact a3 (by rintro rfl;cases hr)
  ·exact ih a1
theorem Zhh (t:List UInt8):splitL (ntR (splitL t)).flatten=ntR (splitL t):=Zjr _ (Zbp _ _ (split_right t))
theorem Zhg (t:List UInt8):(ntR (splitL t)).flatten.length≤t.length:=by
 have h:∀ ls:List (List UInt8),(ntR ls).flatten.length≤ls.flatten.length:=by
  intro ls
  induction ls with
  | nil=>exact Nat.le_refl _
  | cons s r ih =>
   unfold ntR at ih ⊢
   rw[List.filter_cons]
   split
   ·simp only[List.flatten_cons,List.length_append]
    omega
   ·simp only[List.flatten_cons,List.length_append]
    omega
 have:=h (splitL t)
 rw[split_join] at this
 exact this
theorem Zis (ls:List (List UInt8)):∀ p:Nat,(plR p ls).length=(ntR ls).length:=by
 induction ls with
 | nil=>intro p;rfl
 | cons s r ih =>
  intro p
  unfold ntR at ih ⊢
  rw[List.filter_cons]
  simp only[plR]
  cases h:rmkB s
  ·simp[ih]
  ·simp[ih]
theorem Zay (ls:List (List UInt8)):(atL ls).length=(ntR ls).length+1:=by
 unfold atL
 rw[List.length_append,Zis]
 rfl
theorem ZeG {x:List UInt8} {t:List UInt8} {e:Nat × Int} (ht:t.length≤1048576) (h:inP x (frmT t) (ntR (splitL t)).flatten=.error e):1≤e.1∧e.1-1<(atL (splitL t)).length∧e.2≠0:=by
 have hl:=Zhg t
 have hs:=Zhh t
 have hp:Plc (ntR (splitL t)).length e:=by
  unfold inP at h
  split at h
  ·have:=ZlB (by omega) h
   rw[hs] at this
   exact this
  ·split at h
   ·have:=ZcC (by omega) h
    rw[hs] at this
    exact this
   ·split at h
    ·cases hq:prsT (ntR (splitL t)).flatten with
     | error e0 =>
      rw[hq] at h
      cases h
      have:=ZiH (by omega) hq
      rw[hs] at this
      exact this
     | ok l =>
      rw[hq] at h
      cases h
    ·cases h
     exact⟨by simp,by simp,by simp⟩
 refine⟨hp.1,?_,hp.2.2⟩
 rw[Zay]
 have:=hp.2.1
 have:=hp.1
 omega
/- 18.5: remarks change nothing -/
/- 18.5: what is written is read again -/
/- the normal form -/
end

section
open Ln
end

section
open Ln
end

section
open Go.RowKit
attribute [local go_sem] ByteArray.extract_mk
theorem Zhc (l:List UInt8) (k:Nat) (h:k<(⟨l.toArray⟩:ByteArray).size):(⟨l.toArray⟩:ByteArray)[k]'h=l[k]'(h):=rfl
attribute [local go_sem] Zhc
def bareT (s:List UInt8):List UInt8:=if fdB s=true then s.dropLast else s
theorem Zmy {l:List UInt8} (h0:0<l.length) (h:l[l.length-1]=10):bareT l=l.take (l.length-1)∧fdB l=true:=by
 have hf:fdB l=true:=by unfold fdB;rw[List.getLast?_eq_getElem?,List.getElem?_eq_getElem (by omega),h];rfl
 exact⟨by rw[bareT,hf,List.dropLast_eq_take];rfl,hf⟩
theorem Zmx {l:List UInt8} (h0:0<l.length) (h:l[l.length-1]≠10):bareT l=l∧fdB l=false:=by
 have hf:fdB l=false:=by unfold fdB;rw[List.getLast?_eq_getElem?,List.getElem?_eq_getElem (by omega)];simpa using h
 exact⟨by rw[bareT,hf];rfl,hf⟩
theorem Zpw (l:List UInt8) (w:World) (hl:l.length≤9223372036854775807) :
  Calls Tryz.prog 116 #[.string ⟨l.toArray⟩] w fun e w'=>e=.returned (.tuple #[.string ⟨(bareT l).toArray⟩,.bool (fdB l)])∧w=w':=by
 rcases Nat.eq_zero_or_pos l.length with h0 | h0
 ·obtain rfl:=List.eq_nil_of_length_eq_zero h0
  go_enter Tryz.func116,Tryz.ntmps116
  go_wp2
  go_ret2
  exact⟨rfl,rfl⟩
 ·have hn:((l.length:Int) == 0)=false:=beq_eq_false_iff_ne.2 (by omega)
  have hi:(((l.length:Int)-1).toNat)=l.length-1:=by omega
  have i1:0≤(l.length:Int)-1:=by omega
  have i2:(l.length:Int)-1<(l.length:Int):=by omega
  have i3:(l.length:Int)-1≤(l.length:Int):=by omega
  by_cases h:l[l.length-1]=10
  ·obtain⟨e1,e2⟩:=Zmy h0 h
   rw[e1,e2]
   have hb:((l[l.length-1].toNat:Int) != 10)=false:=by rw[h];rfl
   go_enter Tryz.func116,Tryz.ntmps116
   go_wp2
   go_ret2
   exact⟨rfl,rfl⟩
  ·obtain⟨e1,e2⟩:=Zmx h0 h
   rw[e1,e2]
   have hb:((l[l.length-1].toNat:Int) != 10)=true:=(by
    rw[bne_iff_ne]
    intro hq
    exact h (UInt8.toNat_inj.1 (by show _=10;omega)))
   go_enter Tryz.func116,Tryz.ntmps116
   go_wp2
   go_ret2
   exact⟨rfl,rfl⟩
end

section
open Ln Go.RowKit
attribute [local go_sem] Zhc ByteArray.extract_mk
theorem ZjS (ws:List (List UInt8)) (a:List UInt8):scells (ws++[a])=scells ws++[.string ⟨a.toArray⟩]:=by simp[scells]
theorem Zkt (a:ByteArray):∀ u∈[Value.string a],u.oneCell'=true:=by intro u hu;simp at hu;subst hu;rfl
theorem Zks (w:World) (C:List Value) (t:TypeId):∀ j u,C[j]?=some u→(w.alloc (.cells C.toArray t)).cell? ((⟨w.heap.size,0,none⟩:Addr).add j)=some u:=by
 intro j u hj
 have hadd:(⟨w.heap.size,0,none⟩:Addr).add j=⟨w.heap.size,j,none⟩:=by unfold Addr.add;split<;>simp_all
 rw[hadd,cell_of_row _ w.heap.size j C.toArray t (0,0) (_root_.Go.heap_alloc_new w _)]
 simpa using hj
theorem Zro {x:UInt8} (h:x=10):((x.toNat:Int) == 10)=true∧((x.toNat:Int) != 10)=false:=by subst h;exact⟨rfl,rfl⟩
theorem Zrp {x:UInt8} (h:x≠10):((x.toNat:Int) == 10)=false∧((x.toNat:Int) != 10)=true:=by
 have h1:x.toNat≠10:=fun e=>h (UInt8.toNat_inj.1 (by simpa using e))
 have h2:((x.toNat:Int) == 10)=false:=beq_eq_false_iff_ne.2 (by omega)
 exact⟨h2,by unfold bne;rw[h2];rfl⟩
def sizeT:Value→Nat
 | .string s=>s.size
 | _=>0
theorem sizeT_mk (r:List UInt8):sizeT (.string ⟨r.toArray⟩)=r.length:=rfl
theorem Zan {acc:List (List UInt8)} {r l:List UInt8} (h:acc++splitL r=splitL l):acc.length≤l.length:=by
 have h1:=congrArg List.length h
 have h2:=split_len l
 rw[List.length_append] at h1
 omega
theorem ZgE (l:List UInt8) (w:World) (hl:l.length≤1099511627776) :
  Calls Tryz.prog 23 #[.string ⟨l.toArray⟩] w fun e w'=>∃ v,e=.returned v∧w'.ownsRow w.heap.size 9 1 v (splitL l).length (scells (splitL l))∧Below w.heap.size w w':=by
 obtain⟨i0,hi,hz0,hz1,hz2⟩:=info_parts infoStr
 go_enter Tryz.func23,Tryz.ntmps23
 go_wp2
 go_loopw [0,3,4] (fun s acc _ wr=>∃ (xs:List (List UInt8)) (r:List UInt8),s=.string ⟨r.toArray⟩∧wr.ownsRow w.heap.size 9 1 acc xs.length (scells xs)∧Below w.heap.size w wr∧r.length≤l.length∧xs++splitL r=splitL l) (fun s _ _ _=>sizeT s)
 case atStart=>exact⟨[],l,rfl,World.ownsRow_nil _ _ _ _,Below.refl _ _,Nat.le_refl _,rfl⟩
 case round =>
  obtain⟨acc,r,rfl,hown,hbr,hrl,hw⟩:=hrel
  have hacc:=Zan hw
  have HW:Hid (acc++splitL r=splitL l):=hw
  clear hw
  have hbz:=hbr.size
  obtain⟨ao,cap,rfl⟩:=(Zeo hown).form
  rcases Int.lt_or_le (Lib.indexByte r 10) 0 with hq | hq
  ·obtain⟨q1,q2⟩:=ZeH hq
   clear hq
   cases r with
   | nil =>
    have HE:Hid (splitL l=acc):=by have:=HW.out;show _=_;simpa [splitL] using this.symm
    go_wp2_with fail
    refine (Tryz.strings_Index_one ⟨([]:List UInt8).toArray⟩ 10 _).mono ?_
    rintro e w1 ⟨rfl,rfl⟩
    go_wp2
    go_ret
    rw[HE.out]
    exact⟨_,rfl,hown,hbr⟩
   | cons c t =>
    have HE:Hid (splitL l=acc++[c::t]):=by
     have:=HW.out
     rw[Zkw _ q2 (by simp)] at this
     exact this.symm
    clear q2
    go_wp2_with fail
    refine (Tryz.strings_Index_one ⟨(c::t).toArray⟩ 10 _).mono ?_
    rintro e w1 ⟨rfl,rfl⟩
    have hi2:Lib.indexByte (⟨(c::t).toArray⟩:ByteArray).data.toList 10=-1:=q1
    rw[hi2]
    go_wp2_with (at_builtin;refine wpList_append_own _ rfl _ _ 49 rfl w.heap.size 9 i0 (.string ⟨#[]⟩) 1 16 Tryz.underlying49 hi hz0 hz1 hz2 rfl (by decide) _ _ _ rfl (hown.alloc _) ⟨w1.heap.size,0,none⟩ 1 1 [.string ⟨(c::t).toArray⟩] rfl rfl (Zks _ _ _) (Zkt _) ?c3 ?c4 ?c5 ?_)
    case c3=>unfold maxLen;omega
    case c4=>omega
    case c5=>simp;omega
    intro v' w3 hown3 hgrow hfr
    have hbr3:=(hbr.alloc hbz (.cells #[.string ⟨(c::t).toArray⟩] 9)).grown hgrow (by simp;omega) (fun j hj=>(hown.lt j hj).1)
    go_wp2
    go_ret
    rw[HE.out,ZjS]
    exact⟨_,rfl,by simpa using hown3,hbr3⟩
  ·obtain⟨a,b,rfl,hn,he⟩:=ZeI hq
   have HE:Hid (acc++[a++[10]]++splitL b=splitL l):=by
    have:=HW.out
    rw[Zkv a b hn] at this
    show _=_
    simpa using this
   clear hn hq
   have hlen:(a++10::b).length=a.length+1+b.length:=by simp;omega
   have ht:(a++10::b).take (a.length+1)=a++[10]:=by
    rw[show a++10::b=(a++[10])++b by simp,List.take_left' (by simp)]
   have hd:(a++10::b).drop (a.length+1)=b:=by
    rw[show a++10::b=(a++[10])++b by simp,List.drop_left' (by simp)]
   generalize a++10::b=r at *
   have i1:0≤(a.length:Int)+1:=by omega
   have i2:(a.length:Int)+1≤(r.length:Int):=by omega
   have i3:((a.length:Int)+1).toNat=a.length+1:=by omega
   go_wp2_with fail
   refine (Tryz.strings_Index_one ⟨r.toArray⟩ 10 _).mono ?_
   rintro e w1 ⟨rfl,rfl⟩
   have hi2:Lib.indexByte (⟨r.toArray⟩:ByteArray).data.toList 10=a.length:=he
   rw[hi2]
   go_wp2_with (at_builtin;refine wpList_append_own _ rfl _ _ 49 rfl w.heap.size 9 i0 (.string ⟨#[]⟩) 1 16 Tryz.underlying49 hi hz0 hz1 hz2 rfl (by decide) _ _ _ rfl (hown.alloc _) ⟨w1.heap.size,0,none⟩ 1 1 [.string ⟨(a++[10]).toArray⟩] rfl rfl (Zks _ _ _) (Zkt _) ?c3 ?c4 ?c5 ?_)
   case c3=>unfold maxLen;omega
   case c4=>omega
   case c5=>simp;omega
   intro v' w3 hown3 hgrow hfr
   have hbr3:=(hbr.alloc hbz (.cells #[.string ⟨(a++[10]).toArray⟩] 9)).grown hgrow (by simp;omega) (fun j hj=>(hown.lt j hj).1)
   go_wp2
   go_roundw
   case rel=>exact⟨acc++[a++[10]],b,rfl,by rw[ZjS];simpa using hown3,hbr3,by omega,HE.out⟩
   case measure=>rw[sizeT_mk,sizeT_mk];omega
def Clean (l:List UInt8) (p k:Nat):Prop:=∀ c∈(l.drop p).take (k-p),c≠10
theorem ZmG (l:List UInt8) (k:Nat):Clean l k k:=by intro c hc;simp at hc
theorem ZmH {l:List UInt8} {p k:Nat} (h:Clean l p k) (hp:p≤k) (hk:k<l.length) (h10:l[k]≠10):Clean l p (k+1):=by
 intro c hc
 rw[show k+1-p=(k-p)+1 by omega,List.take_succ_eq_append_getElem (by simp;omega)] at hc
 simp only[List.mem_append,List.mem_singleton] at hc
 rcases hc with hc | hc
 ·exact h c hc
 ·rw[hc]
  simpa [show p+(k-p)=k by omega] using h10
theorem ZmF {l:List UInt8} {p k:Nat} (h:Clean l p k) (hp:p≤k) (hk:k<l.length) (h10:l[k]=10):splitL (l.drop p)=(l.drop p).take (k+1-p)::splitL (l.drop (k+1)):=by
 have e:l.drop p=(l.drop p).take (k-p)++10::l.drop (k+1):=by
  have h1:=(List.take_append_drop (k-p) (l.drop p)).symm
  rw[List.drop_drop,show p+(k-p)=k by omega,List.drop_eq_getElem_cons hk,h10] at h1
  exact h1
 have e2:(l.drop p).take (k+1-p)=(l.drop p).take (k-p)++[10]:=by
  rw[show k+1-p=(k-p)+1 by omega,List.take_succ_eq_append_getElem (by simp;omega)]
  simp[show p+(k-p)=k by omega,h10]
 rw[e2]
 conv=>lhs;rw[e]
 exact Zkv _ _ h
theorem ZmE {l:List UInt8} {p:Nat} (h:Clean l p l.length) (hp:p<l.length):splitL (l.drop p)=[l.drop p]:=by
 refine Zkw _ (fun c hc=>h c ?_) (by intro e;have:=congrArg List.length e;simp at this;omega)
 rw[List.take_of_length_le (by simp)]
 exact hc
theorem Zql (l:List UInt8) (w:World) (hl:l.length≤1099511627776) :
  Calls Tryz.prog 29 #[.string ⟨l.toArray⟩] w fun e w'=>∃ v,e=.returned v∧w'.ownsRow w.heap.size 9 1 v (splitL l).length (scells (splitL l))∧Below w.heap.size w w':=by
 obtain⟨i0,hi,hz0,hz1,hz2⟩:=info_parts infoStr
 go_enter Tryz.func29,Tryz.ntmps29
 go_wp2
 go_loopw [3,4,5] (fun acc ap i wr=>∃ (xs:List (List UInt8)) (p k:Nat),p≤k∧k≤l.length∧ap=.int .i64 p∧i=.int .i64 k∧wr.ownsRow w.heap.size 9 1 acc xs.length (scells xs)∧Below w.heap.size w wr∧Hid (Clean l p k)∧Hid (xs++splitL (l.drop p)=splitL l)) (fun _ _ i _=>l.length-(intOf i).toNat)
 case atStart=>exact⟨[],0,0,Nat.le_refl _,Nat.zero_le _,rfl,rfl,World.ownsRow_nil _ _ _ _,Below.refl _ _,ZmG _ _,rfl⟩
 case round =>
  obtain⟨acc,p,k,hp,hk,rfl,rfl,hown,hbr,HC,HW⟩:=hrel
  have hacc:=Zan HW.out
  have hbz:=hbr.size
  obtain⟨ao,cap,rfl⟩:=(Zeo hown).form
  by_cases hlt:k<l.length
  ·by_cases h10:l[k]=10
   ·have hb:=(Zro h10).1
    have HE:Hid (acc++[(l.drop p).take (k+1-p)]++splitL (l.drop (k+1))=splitL l):=by
     have:=HW.out
     rw[ZmF HC.out hp hlt h10] at this
     show _=_
     simpa using this
    clear h10
    go_wp2_with (at_builtin;refine wpList_append_own _ rfl _ _ 49 rfl w.heap.size 9 i0 (.string ⟨#[]⟩) 1 16 Tryz.underlying49 hi hz0 hz1 hz2 rfl (by decide) _ _ _ rfl (hown.alloc _) ⟨wr.heap.size,0,none⟩ 1 1 [.string ⟨((l.drop p).take (k+1-p)).toArray⟩] rfl rfl (Zks _ _ _) (Zkt _) ?c3 ?c4 ?c5 ?_)
    case c3=>unfold maxLen;omega
    case c4=>omega
    case c5=>simp;omega
    intro v' w3 hown3 hgrow hfr
    have hbr3:=(hbr.alloc hbz (.cells #[.string ⟨((l.drop p).take (k+1-p)).toArray⟩] 9)).grown hgrow (by simp;omega) (fun j hj=>(hown.lt j hj).1)
    go_wp2
    go_roundw
    case rel=>exact⟨acc++[(l.drop p).take (k+1-p)],k+1,k+1,Nat.le_refl _,by omega,by go_num,by go_num,by rw[ZjS];simpa using hown3,hbr3,ZmG _ _,HE.out⟩
    case measure=>simp[intOf];omega
   ·have hb:=(Zrp h10).1
    have HD:Hid (Clean l p (k+1)):=ZmH HC.out hp hlt h10
    clear h10
    go_wp2
    go_roundw
    case rel=>exact⟨acc,p,k+1,by omega,by omega,rfl,by go_num,hown,hbr,HD,HW⟩
    case measure=>simp[intOf];omega
  ·have hke:k=l.length:=by omega
   subst hke
   by_cases hpl:p<l.length
   ·have HE:Hid (splitL l=acc++[(l.drop p).take (l.length-p)]):=by
     have:=HW.out
     rw[ZmE HC.out hpl] at this
     show _=_
     rw[List.take_of_length_le (by simp)]
     exact this.symm
    go_wp2_with (at_builtin;refine wpList_append_own _ rfl _ _ 49 rfl w.heap.size 9 i0 (.string ⟨#[]⟩) 1 16 Tryz.underlying49 hi hz0 hz1 hz2 rfl (by decide) _ _ _ rfl (hown.alloc _) ⟨wr.heap.size,0,none⟩ 1 1 [.string ⟨((l.drop p).take (l.length-p)).toArray⟩] rfl rfl (Zks _ _ _) (Zkt _) ?c3 ?c4 ?c5 ?_)
    case c3=>unfold maxLen;omega
    case c4=>omega
    case c5=>simp;omega
    intro v' w3 hown3 hgrow hfr
    have hbr3:=(hbr.alloc hbz (.cells #[.string ⟨((l.drop p).take (l.length-p)).toArray⟩] 9)).grown hgrow (by simp;omega) (fun j hj=>(hown.lt j hj).1)
    go_wp2
    go_ret
    rw[HE.out,ZjS]
    exact⟨_,rfl,by simpa using hown3,hbr3⟩
   ·have HE:Hid (splitL l=acc):=by
     have:=HW.out
     rw[List.drop_of_length_le (by omega)] at this
     show _=_
     simpa [splitL] using this.symm
    go_wp2
    go_ret
    rw[HE.out]
    exact⟨_,rfl,hown,hbr⟩
end

section
theorem Zmw (a b:List UInt8):((⟨a.toArray⟩:ByteArray)++(⟨b.toArray⟩:ByteArray))=⟨(a++b).toArray⟩:=by
 apply ByteArray.ext
 simp
end

section
open Go.RowKit
end

section
open Go.RowKit
attribute [local go_sem] ByteArray.extract_mk Zhc
end

section
open Go.RowKit
structure Cs (c:Ch) (b:Nat) (W w:World):Prop where
 c0:w.cell? ⟨b,0,none⟩=some (.int .i64 c.A)
 c1:w.cell? ⟨b,1,none⟩=some (.int .i64 c.AN)
 c2:w.cell? ⟨b,2,none⟩=some (.int .i64 c.B)
 c3:w.cell? ⟨b,3,none⟩=some (.int .i64 c.BN)
 lt:b<w.heap.size
 low:Below W.heap.size W w
theorem Cs.keep {c:Ch} {b:Nat} {W w w':World} (h:Cs c b W w) (hb:Below w.heap.size w w'):Cs c b W w':=by
 have hk:∀ o,w'.cell? ⟨b,o,none⟩=w.cell? ⟨b,o,none⟩:=fun o=>by
  unfold World.cell?
  dsimp only
  rw[hb.block b h.lt]
 exact⟨(hk 0).trans h.c0,(hk 1).trans h.c1,(hk 2).trans h.c2,(hk 3).trans h.c3,Nat.lt_of_lt_of_le h.lt hb.size,h.low.trans (hb.mono h.low.size)⟩
theorem Zce (c:Ch) (b:Nat) (W w:World):Cs c b W w.drew↔Cs c b W w:=⟨fun h=>⟨h.c0,h.c1,h.c2,h.c3,h.lt,(h.low.trans ⟨rfl,rfl,rfl,Nat.le_refl _,fun _ _=>rfl⟩:Below W.heap.size W w)⟩,fun h=>⟨h.c0,h.c1,h.c2,h.c3,h.lt,h.low.drew⟩⟩
attribute [local simp] Zce
theorem Cs.fresh (c:Ch) (w:World):Cs c w.heap.size w (w.alloc (.cells #[.int .i64 c.A,.int .i64 c.AN,.int .i64 c.B,.int .i64 c.BN] 139)):=by
 have h:=heap_alloc_new w (.cells #[.int .i64 c.A,.int .i64 c.AN,.int .i64 c.B,.int .i64 c.BN] 139)
 have hk:∀ o,(w.alloc (.cells #[.int .i64 c.A,.int .i64 c.AN,.int .i64 c.B,.int .i64 c.BN] 139)).cell? ⟨w.heap.size,o,none⟩=(#[Value.int .i64 c.A,.int .i64 c.AN,.int .i64 c.B,.int .i64 c.BN])[o]?:=fun o=>by
  unfold World.cell?
  dsimp only
  rw[h]
  rfl
 exact⟨hk 0,hk 1,hk 2,hk 3,by rw[World.alloc];simp,(Below.refl _ w).alloc (Nat.le_refl _) _⟩
end

section
open Go.RowKit Go.Proofs.YtcniomgjikienaaGreatDoor.Tx
attribute [local go_sem] Zhc ByteArray.extract_mk
def rmkI (b:Bool) (n:Int):Bool:=b || decide ((97≤n∧n≤122)∨(65≤n∧n≤90)∨n=61∨n=35)
theorem Zjs (c:UInt8) (t:List UInt8):rmkB (c::t)=rmkI ((c::t) == [10]) c.toNat:=by
 have e1:((c::t) == [10])=decide (c=10∧t=[]):=by
  rw[Bool.eq_iff_iff,beq_iff_eq,decide_eq_true_eq]
  constructor
  ·intro h;cases h;exact⟨rfl,rfl⟩
  ·rintro⟨rfl,rfl⟩;rfl
 have e2:(c == 61)=decide (c.toNat=61):=by
  rw[Bool.eq_iff_iff,beq_iff_eq,decide_eq_true_eq]
  exact⟨fun h=>by rw[h];rfl,fun h=>UInt8.toNat_inj.1 h⟩
 have e3:(c == 35)=decide (c.toNat=35):=by
  rw[Bool.eq_iff_iff,beq_iff_eq,decide_eq_true_eq]
  exact⟨fun h=>by rw[h];rfl,fun h=>UInt8.toNat_inj.1 h⟩
 rw[e1]
 show (decide (c=10∧t=[]) || (ltrB c || (c == 61 || c == 35)))=_
 unfold rmkI ltrB
 rw[e2,e3]
 generalize decide (c=10∧t=[])=b
 cases b with
 | true=>rfl
 | false =>
  rw[Bool.false_or,Bool.false_or,Bool.eq_iff_iff]
  simp only[Bool.or_eq_true,decide_eq_true_eq]
  omega
theorem Zqf (l:List UInt8) (h0:l≠[]) (w:World) (r:Bool) (HR:Hid (rmkB l=r)) :
  Calls Tryz.prog 30 #[.string ⟨l.toArray⟩] w fun e w'=>e=.returned (.bool r)∧w=w':=by
 obtain⟨c,t,rfl⟩:=List.exists_cons_of_ne_nil h0
 have hR:=HR.out
 rw[Zjs] at hR
 obtain⟨b,hb⟩:∃ b,((c::t) == [10])=b:=⟨_,rfl⟩
 obtain⟨n,hn⟩:∃ n:Int,(c.toNat:Int)=n:=⟨_,rfl⟩
 rw[hb,hn] at hR
 have HR2:Hid (rmkI b n=r):=hR
 have i1:(0:Int)<(t.length:Int)+1:=by omega
 clear HR hR h0
 go_enter Tryz.func30,Tryz.ntmps30
 cases b with
 | true =>
  have HE:Hid (true=r):=(by show _=_;rw[← HR2.out];rfl)
  clear HR2
  go_wp2
  go_ret
  exact⟨by rw[← HE.out];rfl,rfl⟩
 | false =>
  have HE:Hid (decide ((97≤n∧n≤122)∨(65≤n∧n≤90)∨n=61∨n=35)=r):=(by show _=_;rw[← HR2.out];rfl)
  clear HR2
  go_wp2
  all_goals go_ret
  all_goals exact⟨ret_bool (by rw[← HE.out,Bool.eq_iff_iff];simp;omega),rfl⟩
theorem Zpy (l y:List UInt8) (w:World) (r:Bool) (HR:Hid (y.isPrefixOf l=r)) :
  Calls Tryz.prog 59 #[.string ⟨l.toArray⟩,.string ⟨y.toArray⟩] w fun e w'=>e=.returned (.bool r)∧w=w':=by
 go_enter Tryz.func59,Tryz.ntmps59
 by_cases hle:y.length≤l.length
 ·have i1:(0:Int)≤(y.length:Int):=by omega
  have i2:(y.length:Int)≤(l.length:Int):=by omega
  have i3:(y.length:Int).toNat=y.length:=by omega
  have HE:Hid (((l.take y.length) == y)=r):=(by
   show _=_
   rw[← HR.out,Bool.eq_iff_iff,beq_iff_eq,List.isPrefixOf_iff_prefix,List.prefix_iff_eq_take]
   exact eq_comm)
  clear HR
  go_wp2
  go_ret
  exact⟨ret_bool (by rw[← HE.out]),rfl⟩
 ·have i2:¬ (y.length:Int)≤(l.length:Int):=by omega
  have HE:Hid (false=r):=(by
   show _=_
   rw[← HR.out]
   symm
   rw[Bool.eq_false_iff]
   intro h
   have:=(List.isPrefixOf_iff_prefix.1 h).length_le
   omega)
  clear HR
  go_wp2
  go_ret
  exact⟨by rw[← HE.out];rfl,rfl⟩
theorem ZpB (l:List UInt8) (h0:l≠[]) (w:World) (r:Int) (HR:Hid (fmS l=r)) :
  Calls Tryz.prog 32 #[.string ⟨l.toArray⟩] w fun e w'=>e=.returned (.int .i64 r)∧w=w':=by
 obtain⟨b1,hb1⟩:∃ b,([45,45,45,32]:List UInt8).isPrefixOf l=b:=⟨_,rfl⟩
 obtain⟨b2,hb2⟩:∃ b,([42,42,42,32]:List UInt8).isPrefixOf l=b:=⟨_,rfl⟩
 have c1:=fun u=>Zpy l [45,45,45,32] u b1 hb1
 have c2:=fun u=>Zpy l [42,42,42,32] u b2 hb2
 have hR:=HR.out
 unfold fmS at hR
 rw[hb1,hb2] at hR
 clear HR hb1 hb2
 go_enter Tryz.func32,Tryz.ntmps32
 cases b1 with
 | true =>
  rw[if_pos rfl] at hR
  subst hR
  go_wp2_with fail
  refine (c1 _).mono ?_
  rintro e w1 ⟨rfl,rfl⟩
  go_wp2
  go_ret
  exact⟨rfl,rfl⟩
 | false =>
  rw[if_neg (by decide)] at hR
  cases b2 with
  | true =>
   rw[if_pos rfl] at hR
   subst hR
   go_wp2_with fail
   refine (c1 _).mono ?_
   rintro e w1 ⟨rfl,rfl⟩
   clear c1
   go_wp2_with fail
   refine (c2 _).mono ?_
   rintro e w1 ⟨rfl,rfl⟩
   go_wp2
   go_ret
   exact⟨rfl,rfl⟩
  | false =>
   rw[if_neg (by decide)] at hR
   obtain⟨c,t,rfl⟩:=List.exists_cons_of_ne_nil h0
   have i1:(0:Int)<(t.length:Int)+1:=by omega
   have hR:(if Pn.digB c=true then (1:Int) else 0)=r:=hR
   have hd:Pn.digB c=true↔48≤(c.toNat:Int)∧(c.toNat:Int)≤57:=by
    unfold Pn.digB
    simp only[decide_eq_true_eq]
    omega
   by_cases q1:(48:Int)≤(c.toNat:Int)
   ·by_cases q2:(c.toNat:Int)≤57
    ·rw[if_pos (hd.2 ⟨q1,q2⟩)] at hR
     subst hR
     clear hd
     go_wp2_with fail
     refine (c1 _).mono ?_
     rintro e w1 ⟨rfl,rfl⟩
     clear c1
     go_wp2_with fail
     refine (c2 _).mono ?_
     rintro e w1 ⟨rfl,rfl⟩
     go_wp2
     go_ret
     exact⟨rfl,rfl⟩
    ·rw[if_neg (fun q=>q2 (hd.1 q).2)] at hR
     subst hR
     clear hd
     go_wp2_with fail
     refine (c1 _).mono ?_
     rintro e w1 ⟨rfl,rfl⟩
     clear c1
     go_wp2_with fail
     refine (c2 _).mono ?_
     rintro e w1 ⟨rfl,rfl⟩
     go_wp2
     go_ret
     exact⟨rfl,rfl⟩
   ·rw[if_neg (fun q=>q1 (hd.1 q).1)] at hR
    subst hR
    clear hd
    go_wp2_with fail
    refine (c1 _).mono ?_
    rintro e w1 ⟨rfl,rfl⟩
    clear c1
    go_wp2_with fail
    refine (c2 _).mono ?_
    rintro e w1 ⟨rfl,rfl⟩
    go_wp2
    go_ret
    exact⟨rfl,rfl⟩
end

section
open Go.RowKit Go.Proofs.YtcniomgjikienaaGreatDoor.Tx
attribute [local go_sem] Zhc ByteArray.extract_mk
theorem ZiJ {t s:List UInt8} (h:s∈Ln.splitL t):s≠[]:=by
 rintro rfl
 have:=ZjB (ZjC (Ln.split_right t)) [] h
 cases this
theorem Zhf (s:List UInt8) (r:List (List UInt8)):ntR (s::r)=if rmkB s=true then ntR r else s::ntR r:=by
 unfold ntR
 rw[List.filter_cons]
 cases rmkB s<;>rfl
theorem ZpC (t:List UInt8) (ht:t.length≤1099511627776) (w:World) (r:Int) (HR:Hid (frmT t=r)) :
  Calls Tryz.prog 13 #[.string ⟨t.toArray⟩] w fun e w'=>e=.returned (.int .i64 r)∧Below w.heap.size w w':=by
 have hsp:=Zql t w ht
 have hsl:=Ln.split_len t
 have HNE:Hid (∀ s∈Ln.splitL t,s≠[]):=fun s hs=>ZiJ hs
 obtain⟨L,hL⟩:∃ L,Ln.splitL t=L:=⟨_,rfl⟩
 have hR:=HR.out
 unfold frmT at hR
 rw[hL] at hsp hsl HNE hR
 have H0:Hid (fmL (ntR (L.drop 0))=r):=hR
 clear HR hR hL
 go_enter Tryz.func13,Tryz.ntmps13
 go_wp2_with fail
 refine hsp.mono ?_
 rintro e w1 ⟨v,rfl,hown,hB⟩
 have ha:HS w1 v L:=Zeo hown
 obtain⟨ao,ac,rfl⟩:=Holds.form ha
 clear hsp hown
 go_wp2
 go_loopw [4] (fun i wr=>∃ k:Nat,k≤L.length∧i=.int .i64 (k:Int)∧wr=w1∧Hid (fmL (ntR (L.drop k))=r)) (fun i _=>L.length-(intOf i).toNat)
 case atStart=>exact⟨0,Nat.zero_le _,by go_num,rfl,H0⟩
 case round =>
 clear H0
 obtain⟨k,hk,rfl,rfl,HI⟩:=hrel
 by_cases hlt:k<L.length
 ·obtain⟨bk,off,rfl,hbk,hc⟩:=HS.at ha (by omega)
  have c0:=hc k hlt
  have hI:=HI.out
  have hne:=HNE.out L[k] (List.getElem_mem hlt)
  rw[List.drop_eq_getElem_cons hlt,Zhf] at hI
  obtain⟨s,hs⟩:∃ s,L[k]=s:=⟨_,rfl⟩
  rw[hs] at c0 hI hne
  obtain⟨b,hb⟩:∃ b,rmkB s=b:=⟨_,rfl⟩
  have hrm:=fun u=>Zqf s hne u b hb
  rw[hb] at hI
  have i1:(0:Int)≤(k:Int):=by omega
  have i2:(k:Int)<(L.length:Int):=by omega
  clear hc hs hb HI
  cases b with
  | true =>
   rw[if_pos rfl] at hI
   have HI2:Hid (fmL (ntR (L.drop (k+1)))=r):=hI
   clear hI
   go_wp2_with fail
   refine (hrm _).mono ?_
   rintro e w2 ⟨rfl,rfl⟩
   clear hrm
   go_wp2
   exact⟨⟨k+1,by omega,by go_num,by first | rfl | trivial,HI2⟩,by simp[intOf];omega⟩
  | false =>
   rw[if_neg (by decide)] at hI
   have hfo:=fun u=>ZpB s hne u r hI
   clear hI
   go_wp2_with fail
   refine (hrm _).mono ?_
   rintro e w2 ⟨rfl,rfl⟩
   clear hrm
   go_wp2_with fail
   refine (hfo _).mono ?_
   rintro e w2 ⟨rfl,rfl⟩
   clear hfo
   go_wp2
   go_ret
   exact⟨rfl,hB⟩
 ·have hend:¬ (k:Int)<(L.length:Int):=by omega
  have hI:=HI.out
  rw[List.drop_of_length_le (by omega)] at hI
  have hI:(0:Int)=r:=hI
  subst hI
  clear HI
  go_wp2
  go_ret
  exact⟨rfl,hB⟩
end

section
open Pn Go.RowKit
attribute [local go_sem] Zhc
theorem Zjn {k k':IntKind} {a b a' b':Int} (h:a=a') (h':b=b'):Ending.returned (.tuple #[.int k a,.int k' b])=.returned (.tuple #[.int k a',.int k' b']):=by rw[h,h']
theorem ZpX (L:List UInt8) (w:World) (hl:L.length≤maxLen) (h0:0<L.length) (hz:((L.length:Int)≤1)∨((1<(L.length:Int))∧(((L[0].toNat:Int) == 48)=false)))
  (HY:Hid ((∀ k (hk:k<L.length),48≤L[k].toNat∧L[k].toNat≤57)→isNum L=true)) :
  Calls Tryz.prog 150 #[.string ⟨L.toArray⟩] w fun e w'=>e=.returned (.tuple #[.int .i64 (parseV L),.int .i64 (parseE L)])∧Below w.heap.size w w':=by
 unfold maxLen at hl
 have hne:((L.length:Int) == 0)=false:=beq_eq_false_iff_ne.2 (by omega)
 rcases hz with hz | ⟨hz,hz1⟩
 all_goals
  go_enter Tryz.func150,Tryz.ntmps150
  go_wp2
  go_loop [4,5] (fun n i=>∃ (pos:Nat) (v:Int),pos≤L.length∧i=.int .i64 pos∧n=.int .i64 v∧0≤v∧v≤2147483648∧sat v (L.drop pos)=sat 0 L∧(∀ k (hk:k<L.length),k<pos→48≤L[k].toNat∧L[k].toNat≤57)) (fun _ i=>L.length-(intOf i).toNat)
  case atStart=>exact⟨0,0,Nat.zero_le _,rfl,rfl,by omega,by omega,rfl,fun k _ h=>by omega⟩
  case round =>
   obtain⟨pos,v,hp,rfl,rfl,hv0,hv1,hsat,hall⟩:=hrel
   have HA:Hid (∀ k (hk:k<L.length),k<pos→48≤L[k].toNat∧L[k].toNat≤57):=hall
   have HS:Hid (sat v (L.drop pos)=sat 0 L):=hsat
   clear hall hsat
   by_cases hlt:pos<L.length
   ·have hc:=L[pos].toNat_lt
    by_cases hd:48≤L[pos].toNat∧L[pos].toNat≤57
    ·obtain⟨hd1,hd2⟩:=hd
     have HS2:Hid (sat (min (v * 10+((L[pos].toNat:Int)-48)) 2147483648) (L.drop (pos+1))=sat 0 L):=by
      show sat _ _=_
      rw[← ZjQ hlt];exact HS.out
     have HA2:Hid (∀ k (hk:k<L.length),k<pos+1→48≤L[k].toNat∧L[k].toNat≤57):=by
      intro k hk h
      by_cases e:k=pos
      ·subst e;exact⟨hd1,hd2⟩
      ·exact HA.out k hk (by omega)
     go_wp2
     have e:(if 2147483648<v * 10+((L[pos].toNat:Int)-48) then 2147483648 else v * 10+((L[pos].toNat:Int)-48))=min (v * 10+((L[pos].toNat:Int)-48)) 2147483648:=by split<;>omega
     try rw[e]
     exact⟨⟨pos+1,_,by omega,by go_num,rfl,by omega,by omega,HS2.out,HA2.out⟩,by simp[intOf];omega⟩
    ·have HN:Hid (isNum L=false):=isNum_bad pos hlt hd
     by_cases hd1:L[pos].toNat<48
     ·clear hd
      go_wp2
      go_ret2
      have h:=parse_no HN.out
      exact⟨Zjn h.1 h.2,Below.refl _ _⟩
     ·have hd2:57<L[pos].toNat:=by omega
      clear hd
      go_wp2
      go_ret2
      have h:=parse_no HN.out
      exact⟨Zjn h.1 h.2,Below.refl _ _⟩
   ·have HN:Hid (isNum L=true):=HY.out fun k hk=>HA.out k hk (by omega)
    have HF:Hid (sat 0 L=v):=by
     have h:=HS.out
     rw[List.drop_eq_nil_of_le (by omega)] at h
     exact h.symm
    by_cases hfar:2147483647<v
    ·go_wp2
     go_ret2
     have h:=Zib HN.out (by rw[HF.out];omega)
     exact⟨Zjn h.1 h.2,Below.refl _ _⟩
    ·go_wp2
     go_ret2
     have h:=Zic HN.out HF.out (by omega)
     exact⟨Zjn h.1 h.2,Below.refl _ _⟩
theorem ZpW (l:List UInt8) (w:World) (hl:l.length≤maxLen) :
  Calls Tryz.prog 150 #[.string ⟨l.toArray⟩] w fun e w'=>e=.returned (.tuple #[.int .i64 (parseV l),.int .i64 (parseE l)])∧Below w.heap.size w w':=by
 match l,hl with
 | [],_ =>
  go_enter Tryz.func150,Tryz.ntmps150
  go_wp2
  go_ret2
  exact⟨rfl,Below.refl _ _⟩
 | [c],hl=>exact ZpX [c] w hl (by simp) (.inl (by simp)) (ZeP (by simp))
 | c::d::t,hl =>
  by_cases h:c.toNat=48
  ·have hb:((c.toNat:Int) == 48)=true:=by simp;omega
   have HN:Hid (isNum (c::d::t)=false):=ZeQ h
   have hl2:(1:Int)<(t.length:Int)+1+1:=by omega
   have hl3:(((t.length:Int)+1+1) == 0)=false:=beq_eq_false_iff_ne.2 (by omega)
   clear h
   go_enter Tryz.func150,Tryz.ntmps150
   go_wp2
   go_ret2
   have h:=parse_no HN.out
   exact⟨Zjn h.1 h.2,Below.refl _ _⟩
  ·refine ZpX (c::d::t) w hl (by simp) (.inr ⟨by simp;omega,?_⟩) (ZeP (by simp[h]))
   simp;omega
end

section
open Pn Go.RowKit
attribute [local go_sem] Zhc
theorem ZgW (L:List UInt8) (w:World) (hl:L.length≤maxLen) (h0:0<L.length) (hz:(((L[0].toNat:Int) == 48)=false)∨((((L[0].toNat:Int) == 48)=true)∧(L.length:Int)≤1))
  (HY:Hid ((∀ k (hk:k<L.length),48≤L[k].toNat∧L[k].toNat≤57)→isNum L=true)) :
  Calls Tryz.prog 353 #[.string ⟨L.toArray⟩] w fun e w'=>e=.returned (.bool (isNum L))∧Below w.heap.size w w':=by
 unfold maxLen at hl
 have hne:L.isEmpty=false:=by cases L;simp at h0;rfl
 have hnil:¬ L=[]:=by intro h;rw[h] at h0;simp at h0
 rcases hz with hz | ⟨hz,hz1⟩
 all_goals
  go_enter Tryz.func353,Tryz.ntmps353
  go_wp2
  go_loopw [] (fun wr=>∃ pos:Nat,pos≤L.length∧wr.heap[w.heap.size]?=some (.stringIter ⟨L.toArray⟩ pos)∧Below w.heap.size w wr∧(∀ k (hk:k<L.length),k<pos→48≤L[k].toNat∧L[k].toNat≤57)) (fun wr=>L.length-wr.iterPos w.heap.size)
  case atStart =>
   refine⟨0,Nat.zero_le _,World.iter_heap w _ 0,(Below.refl _ w).alloc (Nat.le_refl _) _,fun k _ h=>by omega⟩
  case round =>
   obtain⟨pos,hp,hit,hbr,hall⟩:=hrel
   have HA:Hid (∀ k (hk:k<L.length),k<pos→48≤L[k].toNat∧L[k].toNat≤57):=hall
   clear hall
   have hss:(⟨L.toArray⟩:ByteArray).size=L.length:=rfl
   by_cases hlt:pos<L.length
   ·by_cases ha:L[pos].toNat<128
    ·have hnx:∀ ty,(Instr.next (.pointer (some ⟨w.heap.size,0,none⟩)) true ty).run Tryz.prog wr=_:=fun ty=>Lib.run_next_ascii_at wr w.heap.size ⟨L.toArray⟩ pos ty hit hlt ha
     have hit2:=Lib.iterAt_heap wr w.heap.size ⟨L.toArray⟩ pos (pos+1) hit
     have hbr2:=Lib.below_iterAt hbr (k:=w.heap.size) (Nat.le_refl _) ⟨L.toArray⟩ (pos+1)
     by_cases hd:48≤L[pos].toNat∧L[pos].toNat≤57
     ·obtain⟨hd1,hd2⟩:=hd
      go_wp2
      go_roundw
      case rel =>
       refine⟨pos+1,by omega,hit2,hbr2,fun k hk h=>?_⟩
       by_cases e:k=pos
       ·subst e;exact⟨hd1,hd2⟩
       ·exact HA.out k hk (by omega)
      case measure=>simp only[World.iterPos,hit,hit2];omega
     ·have HN:Hid (isNum L=false):=isNum_bad pos hlt hd
      by_cases hd1:L[pos].toNat<48
      ·clear hd
       go_wp2
       go_ret
       exact⟨ret_bool HN.out.symm,hbr2⟩
      ·have hd2:57<L[pos].toNat:=by omega
       clear hd
       go_wp2
       go_ret
       exact⟨ret_bool HN.out.symm,hbr2⟩
    ·have HN:Hid (isNum L=false):=isNum_bad pos hlt (by omega)
     have hdh:=(decode_high ⟨L.toArray⟩ pos hlt (by show 128≤L[pos].toNat;omega)).1
     have hnx:∀ ty,(Instr.next (.pointer (some ⟨w.heap.size,0,none⟩)) true ty).run Tryz.prog wr=_:=fun ty=>Lib.run_next_any_at wr w.heap.size ⟨L.toArray⟩ pos ty hit hlt
     have hbr2:=Lib.below_iterAt hbr (k:=w.heap.size) (Nat.le_refl _) ⟨L.toArray⟩ (pos+(Utf8.decode ⟨L.toArray⟩ pos).2)
     have hdl:=decode_le ⟨L.toArray⟩ pos
     generalize Utf8.decode ⟨L.toArray⟩ pos=dd at *
     have q1:¬ ((dd.1:Int)<48):=by omega
     have q2:57<(dd.1:Int):=by omega
     go_wp2
     go_ret
     exact⟨ret_bool HN.out.symm,hbr2⟩
   ·have hnx:∀ ty,(Instr.next (.pointer (some ⟨w.heap.size,0,none⟩)) true ty).run Tryz.prog wr=_:=fun ty=>Lib.run_next_end_at wr w.heap.size ⟨L.toArray⟩ pos ty hit hlt
    have HN:Hid (isNum L=true):=HY.out fun k hk=>HA.out k hk (by omega)
    go_wp2
    go_ret
    exact⟨ret_bool HN.out.symm,hbr⟩
theorem ZgV (l:List UInt8) (w:World) (hl:l.length≤maxLen) :
  Calls Tryz.prog 353 #[.string ⟨l.toArray⟩] w fun e w'=>e=.returned (.bool (isNum l))∧Below w.heap.size w w':=by
 match l,hl with
 | [],_ =>
  go_enter Tryz.func353,Tryz.ntmps353
  go_wp2
  go_ret
  exact⟨rfl,Below.refl _ _⟩
 | [c],hl =>
  refine ZgW [c] w hl (by simp) ?_ (ZeP (by simp))
  cases h:((([c]:List UInt8)[0].toNat:Int) == 48)
  ·exact .inl rfl
  ·exact .inr ⟨rfl,by simp⟩
 | c::d::t,hl =>
  by_cases h:c.toNat=48
  ·have hb:((c.toNat:Int) == 48)=true:=by simp;omega
   have HN:Hid (isNum (c::d::t)=false):=ZeQ h
   have hl2:(1:Int)<(t.length:Int)+1+1:=by omega
   clear h
   go_enter Tryz.func353,Tryz.ntmps353
   go_wp2
   go_ret
   exact⟨ret_bool HN.out.symm,Below.refl _ _⟩
  ·refine ZgW (c::d::t) w hl (by simp) (.inl ?_) (ZeP (by simp[h]))
   simp;omega
theorem ZgD (l:List UInt8) (w:World) (hl:l.length≤maxLen) :
  Calls Tryz.prog 337 #[.string ⟨l.toArray⟩] w fun e w'=>e=.returned (.tuple #[.int .i64 (parseV l),.int .i64 (parseE l)])∧Below w.heap.size w w':=by
 go_enter Tryz.func337,Tryz.ntmps337
 go_wp2_with fail
 refine (ZgV l _ hl).mono ?_
 rintro e w1 ⟨rfl,hb1⟩
 unfold maxLen at hl
 cases hn:isNum l
 ·have HN:Hid (isNum l=false):=hn
  go_wp2
  go_ret2
  have h:=parse_no HN.out
  exact⟨Zjn h.1 h.2,hb1⟩
 ·have HN:Hid (isNum l=true):=hn
  have hal:=isNum_all hn
  have HAL:Hid (l.all digB=true):=hal
  clear hal
  go_wp2
  go_loopw [4] (fun n wr=>∃ (pos:Nat) (v:Int),pos≤l.length∧n=.int .i64 v∧0≤v∧v≤2147483647∧wr.heap[w1.heap.size]?=some (.stringIter ⟨l.toArray⟩ pos)∧Below w.heap.size w wr∧sat v (l.drop pos)=sat 0 l) (fun _ wr=>l.length-wr.iterPos w1.heap.size)
  case atStart =>
   refine⟨0,0,Nat.zero_le _,rfl,by omega,by omega,World.iter_heap w1 _ 0,hb1.alloc hb1.size _,rfl⟩
  case round =>
   obtain⟨pos,v,hp,rfl,hv0,hv1,hit,hbr,hsat⟩:=hrel
   have HS:Hid (sat v (l.drop pos)=sat 0 l):=hsat
   clear hsat
   have hss:(⟨l.toArray⟩:ByteArray).size=l.length:=rfl
   have hz1:=hb1.size
   by_cases hlt:pos<l.length
   ·have hd:=Zar HAL.out pos hlt
    obtain⟨hd1,hd2⟩:=hd
    have HS2:Hid (sat (min (v * 10+((l[pos].toNat:Int)-48)) 2147483648) (l.drop (pos+1))=sat 0 l):=by
     show sat _ _=_
     rw[← ZjQ hlt];exact HS.out
    have hnx:∀ ty,(Instr.next (.pointer (some ⟨w1.heap.size,0,none⟩)) true ty).run Tryz.prog wr=_:=fun ty=>Lib.run_next_ascii_at wr w1.heap.size ⟨l.toArray⟩ pos ty hit hlt (by show l[pos].toNat<128;omega)
    have hit2:=Lib.iterAt_heap wr w1.heap.size ⟨l.toArray⟩ pos (pos+1) hit
    have hbr2:=Lib.below_iterAt hbr (k:=w1.heap.size) hb1.size ⟨l.toArray⟩ (pos+1)
    by_cases hfar:(2147483647-((l[pos].toNat:Int)-48)) / 10<v
    ·have HF:Hid (sat 0 l=2147483648):=by
      have e:min (v * 10+((l[pos].toNat:Int)-48)) 2147483648=2147483648:=by omega
      have h:=HS2.out
      rw[e,ZjR _ (Zas HAL.out _)] at h
      exact h.symm
     go_wp2
     go_ret2
     have h:=Zib HN.out HF.out
     exact⟨Zjn h.1 h.2,hbr2⟩
    ·go_wp2
     go_roundw
     case rel =>
      refine⟨pos+1,v * 10+((l[pos].toNat:Int)-48),by omega,rfl,by omega,by omega,hit2,hbr2,?_⟩
      have e:min (v * 10+((l[pos].toNat:Int)-48)) 2147483648=v * 10+((l[pos].toNat:Int)-48):=by omega
      rw[← HS2.out,e]
     case measure=>simp only[World.iterPos,hit,hit2];omega
   ·have hnx:∀ ty,(Instr.next (.pointer (some ⟨w1.heap.size,0,none⟩)) true ty).run Tryz.prog wr=_:=fun ty=>Lib.run_next_end_at wr w1.heap.size ⟨l.toArray⟩ pos ty hit hlt
    have HF:Hid (sat 0 l=v):=by
     have h:=HS.out
     rw[List.drop_eq_nil_of_le (by omega)] at h
     exact h.symm
    go_wp2
    go_ret2
    have h:=Zic HN.out HF.out hv1
    exact⟨Zjn h.1 h.2,hbr⟩
end

section
open Go.RowKit Go.Proofs.YtcniomgjikienaaGreatDoor.Tx
attribute [local go_sem] ByteArray.extract_mk Zhc
theorem ZhS (l:List UInt8) (h0:l≠[]) (w:World) (r:Bool) (HR:Hid (rmkB l=r)) :
  Calls Tryz.prog 52 #[.string ⟨l.toArray⟩] w fun e w'=>e=.returned (.bool r)∧w=w':=by
 obtain⟨c,t,rfl⟩:=List.exists_cons_of_ne_nil h0
 have hR:=HR.out
 rw[Zjs] at hR
 obtain⟨b,hb⟩:∃ b,((c::t) == [10])=b:=⟨_,rfl⟩
 obtain⟨n,hn⟩:∃ n:Int,(c.toNat:Int)=n:=⟨_,rfl⟩
 rw[hb,hn] at hR
 have i1:(0:Int)<(t.length:Int)+1:=by omega
 clear HR h0
 have HR2:Hid (rmkI b n=r):=hR
 clear hR
 go_enter Tryz.func52,Tryz.ntmps52
 cases b with
 | true =>
  have HE:Hid (true=r):=(by show _=_;rw[← HR2.out];rfl)
  clear HR2
  go_wp2
  all_goals go_ret
  all_goals exact⟨ret_bool (by rw[← HE.out];try rfl),rfl⟩
 | false =>
  have HE:Hid (decide ((97≤n∧n≤122)∨(65≤n∧n≤90)∨n=61∨n=35)=r):=(by show _=_;rw[← HR2.out];rfl)
  clear HR2
  go_wp2
  all_goals go_ret
  all_goals exact⟨ret_bool (by rw[← HE.out,Bool.eq_iff_iff];simp;omega),rfl⟩
end

section
open Go.RowKit Go.Proofs.YtcniomgjikienaaGreatDoor.Tx
attribute [local go_sem] Zhc
def bgV (B:Nat):Value:=.func (.func 138) #[] #[.pointer (some ⟨B,0,none⟩)]
def fmA (p q:Value):Nat→Array Value
 | 0=>#[.int .i64 3,p,.int .i64 64,.func (.func 140) #[] #[],.func (.func 141) #[] #[]]
 | 1=>#[.int .i64 2,q,.int .i64 64,.func (.func 142) #[] #[],.func (.func 143) #[] #[]]
 | 2=>#[.int .i64 1,.func (.func 144) #[] #[],.int .i64 1,.func (.func 145) #[] #[],.func (.func 146) #[] #[]]
 | _=>#[.int .i64 0,.nilFunc,.int .i64 0,.nilFunc,.nilFunc]
def stO (s:List UInt8):Obj:=.cells #[.string ⟨s.toArray⟩] 9
def dashT:List UInt8:=[45,45,45,32]
def starT:List UInt8:=[42,42,42,32]
def frO (p q:Value):Obj:=.cells #[.int .i64 3,p,.int .i64 64,.func (.func 140) #[] #[],.func (.func 141) #[] #[],.int .i64 2,q,.int .i64 64,.func (.func 142) #[] #[],.func (.func 143) #[] #[],.int .i64 1,.func (.func 144) #[] #[],.int .i64 1,.func (.func 145) #[] #[],.func (.func 146) #[] #[]] 70
theorem Zii (s:List UInt8) (w:World):Calls Tryz.prog 137 #[.string ⟨s.toArray⟩] w fun e w'=>e=.returned (bgV w.heap.size)∧w'=w.alloc (stO s):=by
 go_enter Tryz.func137,Tryz.ntmps137
 go_wp2
 go_ret
 exact⟨rfl,rfl⟩
theorem Zdw (w:World):Calls Tryz.prog 95 #[] w fun e w'=>e=.returned (.slice (some ⟨w.heap.size+1+1,0,none⟩) 3 3)∧w'=((w.alloc (stO dashT)).alloc (stO starT)).alloc (frO (bgV w.heap.size) (bgV (w.heap.size+1))):=by
 go_enter Tryz.func95,Tryz.ntmps95
 go_wp2_with (go_at_fn 137;refine (Zii dashT _).mono ?_;rintro e w' ⟨rfl,rfl⟩)
 go_wp2_with (go_at_fn 137;refine (Zii starT _).mono ?_;rintro e w' ⟨rfl,rfl⟩)
 go_wp2
 go_ret
 refine⟨?_,?_⟩<;>simp[bgV,stO,dashT,starT,frO]
def kfs (b:Nat→Bool):Nat:=if b 0=true then 0 else if b 1=true then 1 else if b 2=true then 2 else 3
def kfI (k:Nat):Int:=if k<3 then (k:Int) else -1
theorem Zdz {u:World} {R:Nat} {p q:Value} (h:u.heap[R]?=some (frO p q)) (j:Nat) (v:Value) (hj:(fmA p q 0++fmA p q 1++fmA p q 2)[j]?=some v):u.cell? ⟨R,j,none⟩=some v:=by
 unfold frO at h
 rw[Lib.cell_of_heap h]
 exact hj
theorem Zdc (g:Nat) (cap p q:Value) (b:Nat→Bool) (R:Nat) (w:World) (hR:w.heap[R]?=some (frO p q)) (eg:∀ args w,(callFunc g args).run Tryz.prog w=.ok (.enter g args) w)
  (hf:Hid (∀ j:Nat,j<3→∀ u,Below w.heap.size w u→Calls Tryz.prog g (#[.agg (fmA p q j)]++#[cap]) u fun e u'=>e=.returned (.bool (b j))∧Below u.heap.size u u')) (k:Nat) (HK:Hid (kfs b=k)) :
  Calls Tryz.prog 96 #[.slice (some ⟨R,0,none⟩) 3 3,.func (.func g) #[] #[cap]] w fun e w'=>e=.returned (.int .i64 (kfI k))∧Below w.heap.size w w':=by
 have hlt:R<w.heap.size:=(Array.getElem?_eq_some_iff.1 hR).1
 go_enter Tryz.func96,Tryz.ntmps96
 go_wp2
 go_loopw [5,8] (fun _ i wr=>∃ n:Nat,n≤3∧i=.int .i64 (n:Int)∧Below w.heap.size w wr∧Hid (∀ j:Nat,j<n→b j=false)) (fun _ i _=>3-(intOf i).toNat)
 case atStart=>exact⟨0,by omega,by go_num,Below.refl _ _,fun j hj=>by omega⟩
 case round =>
 obtain⟨n,hn,rfl,hB,HN⟩:=hrel
 have hT:=(hB.block R hlt).trans hR
 rcases (by omega:n=0∨n=1∨n=2∨n=3) with rfl | rfl | rfl | rfl
 ·have hc:Calls Tryz.prog g (#[.agg #[.int .i64 3,p,.int .i64 64,.func (.func 140) #[] #[],.func (.func 141) #[] #[]]]++#[cap]) wr fun e u'=>e=.returned (.bool (b 0))∧Below wr.heap.size wr u':=hf.out 0 (by omega) wr hB
  have c0:=Zdz hT 0 (.int .i64 3) rfl
  have c1:=Zdz hT 1 (p) rfl
  have c2:=Zdz hT 2 (.int .i64 64) rfl
  have c3:=Zdz hT 3 (.func (.func 140) #[] #[]) rfl
  have c4:=Zdz hT 4 (.func (.func 141) #[] #[]) rfl
  obtain⟨z,hz⟩:∃ z,b 0=z:=⟨_,rfl⟩
  rw[hz] at hc
  clear hT hf
  cases z with
  | true =>
   have hk:kfI k=0:=(by
    rw[← HK.out]
    unfold kfs
    rw[hz]
    rfl)
   clear HN HK hz
   go_wp2_with (go_at_fn g;refine hc.mono ?_;rintro e w' ⟨rfl,hB1⟩)
   go_ret
   exact⟨by rw[hk];try rfl,hB.trans (hB1.mono hB.size)⟩
  | false =>
   have HN2:Hid (∀ j:Nat,j<1→b j=false):=(by
    intro j hj
    by_cases h:j<0
    ·exact HN.out j h
    ·obtain rfl:j=0:=by omega
     exact hz)
   clear HN HK hz
   go_wp2_with (go_at_fn g;refine hc.mono ?_;rintro e w' ⟨rfl,hB1⟩)
   exact⟨⟨1,by omega,by go_num,hB.trans (hB1.mono hB.size),HN2⟩,by simp[intOf]⟩
 ·have hc:Calls Tryz.prog g (#[.agg #[.int .i64 2,q,.int .i64 64,.func (.func 142) #[] #[],.func (.func 143) #[] #[]]]++#[cap]) wr fun e u'=>e=.returned (.bool (b 1))∧Below wr.heap.size wr u':=hf.out 1 (by omega) wr hB
  have c0:=Zdz hT 5 (.int .i64 2) rfl
  have c1:=Zdz hT 6 (q) rfl
  have c2:=Zdz hT 7 (.int .i64 64) rfl
  have c3:=Zdz hT 8 (.func (.func 142) #[] #[]) rfl
  have c4:=Zdz hT 9 (.func (.func 143) #[] #[]) rfl
  obtain⟨z,hz⟩:∃ z,b 1=z:=⟨_,rfl⟩
  rw[hz] at hc
  clear hT hf
  cases z with
  | true =>
   have hk:kfI k=1:=(by
    rw[← HK.out]
    unfold kfs
    rw[HN.out 0 (by omega),if_neg (by decide)]
    rw[hz]
    rfl)
   clear HN HK hz
   go_wp2_with (go_at_fn g;refine hc.mono ?_;rintro e w' ⟨rfl,hB1⟩)
   go_ret
   exact⟨by rw[hk];try rfl,hB.trans (hB1.mono hB.size)⟩
  | false =>
   have HN2:Hid (∀ j:Nat,j<2→b j=false):=(by
    intro j hj
    by_cases h:j<1
    ·exact HN.out j h
    ·obtain rfl:j=1:=by omega
     exact hz)
   clear HN HK hz
   go_wp2_with (go_at_fn g;refine hc.mono ?_;rintro e w' ⟨rfl,hB1⟩)
   exact⟨⟨2,by omega,by go_num,hB.trans (hB1.mono hB.size),HN2⟩,by simp[intOf]⟩
 ·have hc:Calls Tryz.prog g (#[.agg #[.int .i64 1,.func (.func 144) #[] #[],.int .i64 1,.func (.func 145) #[] #[],.func (.func 146) #[] #[]]]++#[cap]) wr fun e u'=>e=.returned (.bool (b 2))∧Below wr.heap.size wr u':=hf.out 2 (by omega) wr hB
  have c0:=Zdz hT 10 (.int .i64 1) rfl
  have c1:=Zdz hT 11 (.func (.func 144) #[] #[]) rfl
  have c2:=Zdz hT 12 (.int .i64 1) rfl
  have c3:=Zdz hT 13 (.func (.func 145) #[] #[]) rfl
  have c4:=Zdz hT 14 (.func (.func 146) #[] #[]) rfl
  obtain⟨z,hz⟩:∃ z,b 2=z:=⟨_,rfl⟩
  rw[hz] at hc
  clear hT hf
  cases z with
  | true =>
   have hk:kfI k=2:=(by
    rw[← HK.out]
    unfold kfs
    rw[HN.out 0 (by omega),if_neg (by decide)]
    rw[HN.out 1 (by omega),if_neg (by decide)]
    rw[hz]
    rfl)
   clear HN HK hz
   go_wp2_with (go_at_fn g;refine hc.mono ?_;rintro e w' ⟨rfl,hB1⟩)
   go_ret
   exact⟨by rw[hk];try rfl,hB.trans (hB1.mono hB.size)⟩
  | false =>
   have HN2:Hid (∀ j:Nat,j<3→b j=false):=(by
    intro j hj
    by_cases h:j<2
    ·exact HN.out j h
    ·obtain rfl:j=2:=by omega
     exact hz)
   clear HN HK hz
   go_wp2_with (go_at_fn g;refine hc.mono ?_;rintro e w' ⟨rfl,hB1⟩)
   exact⟨⟨3,by omega,by go_num,hB.trans (hB1.mono hB.size),HN2⟩,by simp[intOf]⟩
 ·have hk:kfI k=-1:=(by
   have h0:=HN.out 0 (by omega)
   have h1:=HN.out 1 (by omega)
   have h2:=HN.out 2 (by omega)
   rw[← HK.out]
   unfold kfs
   rw[h0,h1,h2]
   rfl)
  clear HN HK hT hf
  go_wp2
  go_ret
  exact⟨by rw[hk];rfl,hB⟩
end

end Go.Proofs.YtcniomgjikienaaGreatDoor
