/-
  Texts that belong together, joined: UrE, NpV, NpW, PgU, PrC.
-/
import Derived.Test.YtcniomgjikienaaGreatDoorVrA17
import Derived.Deep.CutBlock
import Derived.Test.YtcniomgjikienaaGreatDoorProg
import Derived.WalkKit
import Derived.LaidEql
import Derived.Stop.Asserts
import Derived.RowKitTokens

set_option maxHeartbeats 16000000
set_option maxRecDepth 100000
namespace Go.Proofs.YtcniomgjikienaaGreatDoor

section
open Go.RowKit Go.Proofs.YtcniomgjikienaaGreatDoor.Tx
attribute [local go_sem] ByteArray.extract_mk Zhc
theorem ZoG {L r:List (List UInt8)} {p:Nat} {s:List UInt8} (hs:∀ s∈L,s.length≤1099511627776) (h:nxt p (L.drop p)=.ok (s,r)):s.length≤1099511627776∧r=L.drop (p+1)∧p<L.length:=by
 obtain⟨h1,h2,_,h4⟩:=Zhr h
 refine⟨?_,h1,h2⟩
 have:=hs L[p] (List.getElem_mem h2)
 rw[h4,List.length_append] at this
 omega
theorem Zpu {R:Nat} {L:List (List UInt8)} {lo:Option Addr} {lc p:Nat} (a b:Nat) (w:World) (q:RdZ w R (.slice lo L.length lc) (.ok p)) (HLs:Hid (∀ u,w.grownBy u (some R)→HS u (.slice lo L.length lc) L)) (hR:∀ a,lo=some a→a.block≠R) (hp:p≤L.length) (hLl:L.length≤137438953472) (hs:∀ s∈L,s.length≤1099511627776) (ha:a≤2147483647) (hb:b≤2147483647)
  (X:Except (Nat × Int) (Mk × Nat × List (List UInt8))) (HX:Hid (ulnP a b p (L.drop p)=X)) :
  Calls Tryz.prog 103 #[.pointer (some ⟨R,0,none⟩),.int .i64 (a:Int),.int .i64 (b:Int)] w fun e w'=>LnQ6 R (.slice lo L.length lc) a b X w e w':=by
 have hRl:=q.lt
 obtain⟨W0,hW0⟩:∃ u,w.alloc (.cells #[.int .u8 0,.string ⟨#[]⟩] 47)=u:=⟨_,rfl⟩
 have hB0:Below w.heap.size w W0:=(by rw[← hW0];exact (Below.refl _ w).alloc (Nat.le_refl _) _)
 have hM0:Ml w R (.slice lo L.length lc) (.ok p) W0:=⟨ZfO hB0 _,by rw[← hW0];exact heap_alloc_new w _,q.low hB0,hRl⟩
 have hX:=HX.out
 unfold ulnP at hX
 obtain⟨Y,hY⟩:∃ Y,nxt p (L.drop p)=Y:=⟨_,rfl⟩
 rw[hY] at hX
 cases Y with
 | error z =>
  have hn:=Znp W0 hM0.rd (HLs.out _ hM0.gr) hR (fun p' e=>by cases e;omega) hs (.error z) (by unfold nxZ;dsimp only;rw[hY])
  have hn2:=hn.mono (R':=fun x w'=>x=.returned (.string ⟨#[]⟩)∧Ml w R (.slice lo L.length lc) (.error z) w') (by rintro x w' ⟨⟨rfl,q1⟩,g1⟩;exact⟨rfl,hM0.call g1 q1⟩)
  refine (ZqQ a b w W0 hW0 ha hb hn2).mono ?_
  rintro e w' ⟨rfl,q2,g2⟩
  rw[← hX]
  exact⟨rfl,q2,g2⟩
 | ok y =>
  obtain⟨s,r⟩:=y
  obtain⟨hsl,rfl,hpl⟩:=ZoG hs hY
  have hn:=Znp W0 hM0.rd (HLs.out _ hM0.gr) hR (fun p' e=>by cases e;omega) hs (.ok (s,p+1)) (by unfold nxZ;dsimp only;rw[hY])
  have hn2:=hn.mono (R':=fun x w'=>x=.returned (.string ⟨s.toArray⟩)∧Ml w R (.slice lo L.length lc) (.ok (p+1)) w') (by rintro x w' ⟨⟨rfl,q1⟩,g1⟩;exact⟨rfl,hM0.call g1 q1⟩)
  cases s with
  | nil =>
   refine (ZqQ a b w W0 hW0 ha hb hn2).mono ?_
   rintro e w' ⟨rfl,q2,g2⟩
   rw[← hX]
   exact⟨rfl,q2,g2⟩
  | cons c t =>
   dsimp only at hX
   cases hc:okC c with
   | false =>
    rw[if_neg (by rw[hc];simp)] at hX
    refine (ZqR a b w W0 hW0 c t hc ha hb hn2).mono ?_
    rintro e w' ⟨rfl,q2,g2⟩
    rw[← hX]
    exact⟨rfl,q2,g2⟩
   | true =>
    have ht:t.length≤1099511627776:=(by simp only[List.length_cons] at hsl;omega)
    obtain⟨mk,hmk⟩:∃ mk,pkM (L.drop (p+1))=mk:=⟨_,rfl⟩
    have HMk:Hid (pkZ markT L (.ok (p+1))=mk):=(by show pkG markT _=_;rw[← hmk];cases L.drop (p+1)<;>rfl)
    rw[hmk] at hX
    rcases Zhw hc with rfl | rfl | rfl
    ·by_cases hgd:1≤a∧1≤b
     ·rw[if_pos ⟨rfl,hgd.1,hgd.2⟩] at hX
      obtain⟨⟨tx,p1⟩,hz⟩:∃ z:List UInt8 × Nat,z=if (((a-1 == 0) && (b-1 == 0)) && (!t.isEmpty && mk))=true then (t,p+1+1) else (t++[10],p+1):=⟨_,rfl⟩
      have hXe:∃ r2,X=.ok (⟨((32:UInt8).toNat:Int),tx⟩,p1,r2):=(by
       by_cases hq:(((a-1 == 0) && (b-1 == 0)) && (!t.isEmpty && mk))=true
       ·rw[if_pos hq] at hz
        cases hz
        rw[if_pos (by
         simp only[Bool.and_eq_true,Bool.not_eq_true',List.isEmpty_eq_false_iff] at hq
         refine⟨?_,hq.2.1,hq.2.2⟩
         simpa [uendB,tkO,tkN] using hq.1)] at hX
        exact⟨_,hX.symm⟩
       ·rw[if_neg hq] at hz
        cases hz
        rw[if_neg (by
         rintro⟨x1,x2,x3⟩
         refine hq ?_
         simp only[Bool.and_eq_true,Bool.not_eq_true',List.isEmpty_eq_false_iff]
         refine⟨?_,x2,x3⟩
         simpa [uendB,tkO,tkN] using x1)] at hX
        exact⟨_,hX.symm⟩)
      obtain⟨r2,hXe⟩:=hXe
      refine (ZqW a b t w W0 hW0 HLs (by omega) hs ht hgd.1 hgd.2 ha hb mk HMk tx p1 hz hn2).mono ?_
      rintro e w' ⟨rfl,q2,g2⟩
      rw[hXe]
      exact⟨rfl,q2,g2⟩
     ·rw[if_neg (by rintro⟨_,x2,x3⟩;exact hgd ⟨x2,x3⟩)] at hX
      by_cases ha0:a=0
      ·refine (ZqS a b w W0 hW0 t ha0 ha hb hn2).mono ?_
       rintro e w' ⟨rfl,q2,g2⟩
       rw[← hX]
       exact⟨rfl,q2,g2⟩
      ·refine (ZqT a b w W0 hW0 t (by omega) (by omega) ha hb hn2).mono ?_
       rintro e w' ⟨rfl,q2,g2⟩
       rw[← hX]
       exact⟨rfl,q2,g2⟩
    ·by_cases hgd:1≤a
     ·rw[if_pos ⟨rfl,hgd,Nat.zero_le _⟩] at hX
      obtain⟨⟨tx,p1⟩,hz⟩:∃ z:List UInt8 × Nat,z=if ((a-1 == 0) && (!t.isEmpty && mk))=true then (t,p+1+1) else (t++[10],p+1):=⟨_,rfl⟩
      have hXe:∃ r2,X=.ok (⟨((45:UInt8).toNat:Int),tx⟩,p1,r2):=(by
       by_cases hq:((a-1 == 0) && (!t.isEmpty && mk))=true
       ·rw[if_pos hq] at hz
        cases hz
        rw[if_pos (by
         simp only[Bool.and_eq_true,Bool.not_eq_true',List.isEmpty_eq_false_iff] at hq
         refine⟨?_,hq.2.1,hq.2.2⟩
         simpa [uendB,tkO,tkN] using hq.1)] at hX
        exact⟨_,hX.symm⟩
       ·rw[if_neg hq] at hz
        cases hz
        rw[if_neg (by
         rintro⟨x1,x2,x3⟩
         refine hq ?_
         simp only[Bool.and_eq_true,Bool.not_eq_true',List.isEmpty_eq_false_iff]
         refine⟨?_,x2,x3⟩
         simpa [uendB,tkO,tkN] using x1)] at hX
        exact⟨_,hX.symm⟩)
      obtain⟨r2,hXe⟩:=hXe
      refine (ZqY a b t w W0 hW0 HLs (by omega) hs ht hgd ha hb mk HMk tx p1 hz hn2).mono ?_
      rintro e w' ⟨rfl,q2,g2⟩
      rw[hXe]
      exact⟨rfl,q2,g2⟩
     ·rw[if_neg (by rintro⟨_,x2,x3⟩;exact hgd x2)] at hX
      refine (ZqU a b w W0 hW0 t (by omega) ha hb hn2).mono ?_
      rintro e w' ⟨rfl,q2,g2⟩
      rw[← hX]
      exact⟨rfl,q2,g2⟩
    ·by_cases hgd:1≤b
     ·rw[if_pos ⟨rfl,Nat.zero_le _,hgd⟩] at hX
      obtain⟨⟨tx,p1⟩,hz⟩:∃ z:List UInt8 × Nat,z=if ((b-1 == 0) && (!t.isEmpty && mk))=true then (t,p+1+1) else (t++[10],p+1):=⟨_,rfl⟩
      have hXe:∃ r2,X=.ok (⟨((43:UInt8).toNat:Int),tx⟩,p1,r2):=(by
       by_cases hq:((b-1 == 0) && (!t.isEmpty && mk))=true
       ·rw[if_pos hq] at hz
        cases hz
        rw[if_pos (by
         simp only[Bool.and_eq_true,Bool.not_eq_true',List.isEmpty_eq_false_iff] at hq
         refine⟨?_,hq.2.1,hq.2.2⟩
         simpa [uendB,tkO,tkN] using hq.1)] at hX
        exact⟨_,hX.symm⟩
       ·rw[if_neg hq] at hz
        cases hz
        rw[if_neg (by
         rintro⟨x1,x2,x3⟩
         refine hq ?_
         simp only[Bool.and_eq_true,Bool.not_eq_true',List.isEmpty_eq_false_iff]
         refine⟨?_,x2,x3⟩
         simpa [uendB,tkO,tkN] using x1)] at hX
        exact⟨_,hX.symm⟩)
      obtain⟨r2,hXe⟩:=hXe
      refine (ZqX a b t w W0 hW0 HLs (by omega) hs ht hgd ha hb mk HMk tx p1 hz hn2).mono ?_
      rintro e w' ⟨rfl,q2,g2⟩
      rw[hXe]
      exact⟨rfl,q2,g2⟩
     ·rw[if_neg (by rintro⟨_,x2,x3⟩;exact hgd x3)] at hX
      refine (ZqV a b w W0 hW0 t (by omega) ha hb hn2).mono ?_
      rintro e w' ⟨rfl,q2,g2⟩
      rw[← hX]
      exact⟨rfl,q2,g2⟩
def uhZ (k:Nat) (L:List (List UInt8)) (p:Nat):Except (Nat × Int) (Hk × Nat):=match uhkP k p (L.drop p) with
 | .error e=>.error e
 | .ok (h,p1,_)=>.ok (h,p1)
theorem gok16 {L:List (List UInt8)} (hP:Plain L):GOk uhZ L:=by
 intro k p h p1 hh
 unfold uhZ at hh
 cases h1:uhkP k p (L.drop p) with
 | error e=>rw[h1] at hh;cases hh
 | ok z =>
  obtain⟨h0,p2,r⟩:=z
  rw[h1] at hh
  cases hh
  have:=Zlh hP h1
  omega
def outZ (p:Nat) (A AN B BN:Int) (Y:Except (Nat × Int) (List Mk × Nat × List (List UInt8))):Except (Nat × Int) (Hk × Nat) :=
 match Y with
 | .error e=>.error e
 | .ok (l,p1,_)=>if smB l=true then .error (p+1,50) else .ok (⟨A,AN,B,BN,l⟩,p1)
def hSt (p:Nat) (A AN B BN:Int) (L:List (List UInt8)) (X:Except (Nat × Int) (Hk × Nat)) (l:List Mk) (a b:Nat) (ch:Bool):Except (Nat × Int) Nat→Prop
 | .error e=>X=.error e
 | .ok pn=>∃ n,a+b≤n∧pn≤L.length∧l.length≤pn∧ch=!smB l∧outZ p A AN B BN (thenM l (urdP n a b pn (L.drop pn)))=X
def hdS (k:Nat) (r:Bool) (A AN B BN:Int) (st:Except (Nat × Int) Nat):Except (Nat × Int) Nat:=if r=false then flS 3 st else if 4096≤k then flS 9 st else if A=0∧0<AN∨B=0∧0<BN then flS 2 st else st
theorem ZnA (k:Nat) (r:Bool) (A AN B BN:Int) (e:Nat × Int):hdS k r A AN B BN (.error e)=.error e:=by
 unfold hdS
 split
 ·rfl
 ·split
  ·rfl
  ·split<;>rfl
theorem ZnB {k p:Nat} {r:Bool} {A AN B BN:Int} {L:List (List UInt8)} {s:List UInt8} {X:Except (Nat × Int) (Hk × Nat)} (hn:nxt p (L.drop p)=.ok (s,L.drop (p+1))) (hp:p<L.length) (hu:uhdP s=if r=true then some (A,AN,B,BN) else none) (hX:uhZ k L p=X):hSt p A AN B BN L X [] AN.toNat BN.toNat false (hdS k r A AN B BN (.ok (p+1))):=by
 unfold uhZ uhkP at hX
 rw[hn] at hX
 dsimp only at hX
 unfold hdS
 cases r with
 | false =>
  rw[hu,if_neg (by decide)] at hX
  rw[if_pos rfl]
  exact hX.symm
 | true =>
  rw[hu,if_pos rfl] at hX
  dsimp only at hX
  rw[if_neg (by decide)]
  by_cases hk:4096≤k
  ·rw[if_pos hk] at hX ⊢
   exact hX.symm
  ·rw[if_neg hk] at hX ⊢
   by_cases hz:A=0∧0<AN∨B=0∧0<BN
   ·rw[if_pos hz] at hX ⊢
    exact hX.symm
   ·rw[if_neg hz] at hX ⊢
    refine⟨AN.toNat+BN.toNat,Nat.le_refl _,by omega,Nat.zero_le _,rfl,?_⟩
    rw[ZkN]
    cases hy:urdP (AN.toNat+BN.toNat) AN.toNat BN.toNat (p+1) (L.drop (p+1)) with
    | error e =>
     rw[hy] at hX
     exact hX
    | ok z =>
     obtain⟨l,p1,r1⟩:=z
     rw[hy] at hX
     dsimp only at hX
     dsimp only[outZ]
     by_cases hsm:smB l=true
     ·rw[if_pos hsm] at hX ⊢
      exact hX
     ·rw[if_neg hsm] at hX ⊢
      exact hX
theorem Zrn (l:List Mk) (m:Mk):(!smB (l++[m]))=((!smB l) || (m.sg != 32)):=by
 unfold smB
 rw[List.all_append]
 by_cases h:m.sg=32
 ·simp[h]
 ·simp[h]
structure Uy (w:World) (R T:Nat) (vL:Value) (A AN B BN:Int) (v:Value) (l:List Mk) (st:Except (Nat × Int) Nat) (u:World):Prop where
 gr:w.grownBy u (some R)
 bg:Hx u w.heap.size zhk (.slice none 0 0)
 bh:Hx u T ⟨A,AN,B,BN,l⟩ v
 own:u.ownsRow w.heap.size 47 2 v l.length (mkcells l)
 rd:RdZ u R vL st
 tl:w.heap.size<T
 rl:R<w.heap.size
section
variable {w u u':World} {R T:Nat} {vL v:Value} {A AN B BN:Int} {l:List Mk} {st st':Except (Nat × Int) Nat}
theorem Uy.keep (h:Uy w R T vL A AN B BN v l st u) (hb:Below u.heap.size u u'):Uy w R T vL A AN B BN v l st u' :=
 ⟨ZdT h.gr (ZfO hb _),h.bg.low hb,h.bh.low hb,ZhK h.own hb,h.rd.low hb,h.tl,h.rl⟩
theorem Uy.call (h:Uy w R T vL A AN B BN v l st u) (hg:u.grownBy u' (some R)) (q:RdZ u' R vL st'):Uy w R T vL A AN B BN v l st' u':=by
 have h1:=h.tl
 have h3:=h.rl
 exact⟨ZdT h.gr hg,h.bg.keep hg (fun e=>by have:=Option.some.inj e;omega),h.bh.keep hg (fun e=>by have:=Option.some.inj e;omega),ZhI h.own hg h.rl,q,h.tl,h.rl⟩
theorem Uy.other (h:Uy w R T vL A AN B BN v l st u) {S:Nat} (ht:v.ownBlock≠some S) (h0:T<S) (j:Nat) (z:Value):Uy w R T vL A AN B BN v l st (u.setCell ⟨S,j,none⟩ z):=by
 have h1:=h.tl
 have h3:=h.rl
 have hg:=ZdS u S j z
 exact⟨ZdR h.gr (by omega) j z,h.bg.keep hg (fun e=>by have:=Option.some.inj e;omega),h.bh.keep hg (fun e=>by have:=Option.some.inj e;omega),h.own.kept hg (.inr ht),h.rd.off hg (fun e=>by have:=Option.some.inj e;omega),h.tl,h.rl⟩
theorem Uy.more (h:Uy w R T vL A AN B BN v l st u) {m:Mk} {v':Value} (hg:u.grownBy u' v.ownBlock) (ho:u'.ownsRow w.heap.size 47 2 v' (l.length+1) (mkcells l++mkcells [m])) :
  Uy w R T vL A AN B BN v' (l++[m]) st (u'.setCell ⟨T,4,none⟩ v')∧u'.cell? ⟨T,4,none⟩=some v∧u'.frozen? ⟨T,4,none⟩=false:=by
 have h1:=h.tl
 have h3:=h.rl
 have hge:∀ j,v.ownBlock=some j→w.heap.size≤j:=fun j hj=>ZhJ h.own hj
 have kb:∀ (i:Nat) (cs:Array Value) (t:TypeId),47≠t→u.heap[i]?=some (.cells cs t)→u'.heap[i]?=some (.cells cs t):=fun i cs t ht hi=>(hg.block i (Array.getElem?_eq_some_iff.1 hi).1 (fun e=>ZhE h.own hi ht e.symm)).trans hi
 have bh:Hx u' T ⟨A,AN,B,BN,l⟩ v:=kb _ _ _ (by decide) h.bh
 have bg:Hx u' w.heap.size zhk (.slice none 0 0):=kb _ _ _ (by decide) h.bg
 have hgR:w.grownBy u' (some R):=⟨hg.os.trans h.gr.os,hg.tape.trans h.gr.tape,hg.output.trans h.gr.output,Nat.le_trans h.gr.size hg.size,fun k h1 h2=>(hg.block k (Nat.lt_of_lt_of_le h1 h.gr.size) (fun e=>by have:=hge k e.symm;omega)).trans (h.gr.block k h1 h2)⟩
 have hck:RdZ u' R vL st:=h.rd.off hg (fun e=>by have:=hge R e.symm;omega)
 have hg2:=ZdS u' T 4 v'
 refine⟨⟨ZdR hgR (by omega) 4 v',bg.keep hg2 (fun e=>by have:=Option.some.inj e;omega),heap_setCell_same u' T 4 _ _ v' bh,?_,hck.off hg2 (fun e=>by have:=Option.some.inj e;omega),h.tl,h.rl⟩,bh.cells.2.2.2.2,bh.frozen 4⟩
 rw[Zgl,List.length_append]
 exact ho.kept hg2 (.inr (ZhE ho bh (by decide)))
theorem Uy.fin (h:Uy w R T vL A AN B BN v l st u):(five u w.heap.size A AN B BN v).heap[w.heap.size]?=some (.cells #[.int .i64 A,.int .i64 AN,.int .i64 B,.int .i64 BN,v] 45 (0,0))∧(five u w.heap.size A AN B BN v).ownsRow w.heap.size 47 2 v l.length (mkcells l)∧RdZ (five u w.heap.size A AN B BN v) R vL st∧w.grownBy (five u w.heap.size A AN B BN v) (some R):=by
 have h3:=h.rl
 have hvb:v.ownBlock≠some w.heap.size:=ZhE h.own h.bg (by decide)
 have hR:∀ {u:World} (q:RdZ u R vL st) (j:Nat) (z:Value),RdZ (u.setCell ⟨w.heap.size,j,none⟩ z) R vL st:=fun q j z=>q.off (ZdS _ _ j z) (fun e=>by have:=Option.some.inj e;omega)
 exact⟨Zdm h.bg A AN B BN v,((((h.own.kept (ZdS _ _ 0 _) (.inr hvb)).kept (ZdS _ _ 1 _) (.inr hvb)).kept (ZdS _ _ 2 _) (.inr hvb)).kept (ZdS _ _ 3 _) (.inr hvb)).kept (ZdS _ _ 4 _) (.inr hvb),hR (hR (hR (hR (hR h.rd 0 _) 1 _) 2 _) 3 _) 4 _,Zdl h.gr (Nat.le_refl _) A AN B BN v⟩
end
theorem ZqK {R:Nat} {L:List (List UInt8)} {lo:Option Addr} {lc p k:Nat} (w:World) (q:RdZ w R (.slice lo L.length lc) (.ok p)) (HL:Hid (∀ u:World,(∀ k,k<w.heap.size→k≠R→u.heap[k]?=w.heap[k]?)→HS u (.slice lo L.length lc) L)) (hR:∀ a,lo=some a→a.block≠R) (hP:Plain L) (hp:p≤L.length) (hLl:L.length≤137438953472) (hs:∀ s∈L,s.length≤1099511627776) (hk:k≤1099511627776)
  (X:Except (Nat × Int) (Hk × Nat)) (HX:Hid (uhZ k L p=X)) :
  Calls Tryz.prog 65 #[.pointer (some ⟨R,0,none⟩),.int .i64 (k:Int)] w fun x w'=>∃ h v,x=.returned (hkV h v)∧w'.ownsRow w.heap.size 47 2 v h.ls.length (mkcells h.ls)∧w.grownBy w' (some R)∧HkS R (.slice lo L.length lc) X h w':=by
 have hRl:=q.lt
 obtain⟨W0,hW0⟩:∃ u,w.alloc (hkO zhk (.slice none 0 0))=u:=⟨_,rfl⟩
 have hB0:Below w.heap.size w W0:=(by rw[← hW0];exact (Below.refl _ w).alloc (Nat.le_refl _) _)
 have hx0:Hx W0 w.heap.size zhk (.slice none 0 0):=(by rw[← hW0];exact Hx.new w _ _)
 have q0:=q.low hB0
 have HLs:Hid (∀ u,w.grownBy u (some R)→HS u (.slice lo L.length lc) L):=fun u hu=>HL.out u (ZmC hu)
 obtain⟨Y,hY⟩:∃ Y,nxt p (L.drop p)=Y:=⟨_,rfl⟩
 have hn2:Calls Tryz.prog 100 #[.pointer (some ⟨R,0,none⟩)] W0 fun x w'=>∃ (s:List UInt8) (st1:Except (Nat × Int) Nat) (at':Nat),x=.returned (.string ⟨s.toArray⟩)∧s.length≤1099511627776∧RdZ w' R (.slice lo L.length lc) st1∧w'.cell? ⟨R,1,none⟩=some (.int .i64 (at':Int))∧(∀ A AN B BN r,uhdP s=(if r=true then some (A,AN,B,BN) else none)→hSt p A AN B BN L X [] AN.toNat BN.toNat false (hdS k r A AN B BN st1))∧(∀ p1,st1=.ok p1→at'=p+1)∧W0.grownBy w' (some R):=(by
  cases Y with
  | error z =>
   refine (Znp W0 q0 (HLs.out _ (ZfO hB0 _)) hR (fun p' e=>by cases e;omega) hs (.error z) (by unfold nxZ;dsimp only;rw[hY])).mono ?_
   rintro x w' ⟨⟨rfl,q1⟩,g1⟩
   obtain⟨a,z⟩:=z
   obtain⟨⟨p',qx⟩,hz⟩:=q1
   refine⟨[],.error (a,z),p',rfl,by simp,⟨⟨p',qx⟩,hz⟩,qx.cells.2.1,?_,fun _ h=>(by cases h),g1⟩
   intro A AN B BN r _
   rw[ZnA]
   show X=_
   rw[← HX.out]
   unfold uhZ uhkP
   rw[hY]
  | ok y =>
   obtain⟨s,r⟩:=y
   obtain⟨hsl,rfl,hpl⟩:=ZoG hs hY
   refine (Znp W0 q0 (HLs.out _ (ZfO hB0 _)) hR (fun p' e=>by cases e;omega) hs (.ok (s,p+1)) (by unfold nxZ;dsimp only;rw[hY])).mono ?_
   rintro x w' ⟨⟨rfl,q1⟩,g1⟩
   exact⟨s,.ok (p+1),p+1,rfl,hsl,q1,(Rx.cells q1).2.1,fun A AN B BN r hu=>ZnB hY hpl hu HX.out,fun _ _=>rfl,g1⟩)
 clear hY HX
 unfold hkO zhk at hW0
 dsimp only at hW0
 go_enter Tryz.func65,Tryz.ntmps65
 go_wp2_with fail
 refine hn2.mono ?_
 rintro e w1 ⟨s,st1,at',rfl,hsl,q1,c1,hX1,hat,g1⟩
 have hx1:=hx0.keep g1 (fun e=>by have:=Option.some.inj e;omega)
 have gw1:w.grownBy w1 (some R):=ZdT (ZfO hB0 _) g1
 clear hn2 hW0 hB0 hx0 q0 g1
 go_wp2_with fail
 refine (ZqJ s w1 hsl).mono ?_
 rintro e w2 ⟨A,AN,B,BN,r,rfl,hu,bA,bB,hB2⟩
 unfold hk0
 have HX2:Hid (hSt p A AN B BN L X [] AN.toNat BN.toNat false (hdS k r A AN B BN st1)):=hX1 A AN B BN r hu
 have hU:Uy w R w2.heap.size (.slice lo L.length lc) A AN B BN (.slice none 0 0) [] st1 (w2.alloc (hkO ⟨A,AN,B,BN,[]⟩ (.slice none 0 0))):=(by
  have hB3:Below w1.heap.size w1 (w2.alloc (hkO ⟨A,AN,B,BN,[]⟩ (.slice none 0 0))):=hB2.alloc hB2.size _
  exact⟨ZdT gw1 (ZfO hB3 _),hx1.low hB3,Hx.new w2 _ _,World.ownsRow_nil _ _ _ _,q1.low hB3,Nat.lt_of_lt_of_le hx1.lt hB2.size,hRl⟩)
 unfold hkO at hU
 dsimp only at hU
 clear hX1 hu hB2 gw1 hx1 q1 c1 hsl
 obtain⟨st2,hd2⟩:∃ s,hdS k r A AN B BN st1=s:=⟨_,rfl⟩
 rw[hd2] at HX2
 have HAt:Hid (∀ p1,st2=.ok p1→at'=p+1):=(by
  intro p1 h
  cases st1 with
  | error e=>rw[ZnA] at hd2;rw[← hd2] at h;cases h
  | ok p0=>exact hat p0 rfl)
 clear hat
 go_upto_block 0 with fail
 generalize w2.alloc (.cells #[.int .i64 A,.int .i64 AN,.int .i64 B,.int .i64 BN,.slice none 0 0] 45)=w3 at hU ⊢
 generalize w2.heap.size=T at hU ⊢
 obtain⟨x0,x1,x2,x3,x4⟩:=hU.bh.cells
 dsimp only at x0 x1 x2 x3
 go_cut [6] (fun av wz=>av=.int .i64 (at':Int)∧Uy w R T (.slice lo L.length lc) A AN B BN (.slice none 0 0) [] st2 wz)
 case first =>
  unfold hdS at hd2
  cases r with
  | false =>
   rw[if_pos rfl] at hd2
   have HD:Hid (flS 3 st1=st2):=hd2
   clear hd2 
   go_wp2_with fail
   refine (Zni 3 (by decide) _ hU.rd).mono ?_
   rintro e w4 ⟨rfl,q4,g4⟩
   rw[HD.out] at q4
   have hU4:=hU.call g4 q4
   go_wp2
   go_meet
   case rel=>exact⟨rfl,hU4⟩
  | true =>
   rw[if_neg (by decide)] at hd2
   by_cases hk4:4096≤k
   ·rw[if_pos hk4] at hd2
    have i1:(4096:Int)≤(k:Int):=by omega
    clear hk4
    have HD:Hid (flS 9 st1=st2):=hd2
    clear hd2 
    go_wp2_with fail
    refine (Zni 9 (by decide) _ hU.rd).mono ?_
    rintro e w4 ⟨rfl,q4,g4⟩
    rw[HD.out] at q4
    have hU4:=hU.call g4 q4
    go_wp2
    go_meet
    case rel=>exact⟨rfl,hU4⟩
   ·rw[if_neg hk4] at hd2
    have i1:¬ (4096:Int)≤(k:Int):=by omega
    clear hk4
    by_cases hA:A=0
    ·have e1:(A == 0)=true:=beq_iff_eq.2 hA
     by_cases hAN:0<AN
     ·rw[if_pos (.inl ⟨hA,hAN⟩)] at hd2
      clear hA
      have HD:Hid (flS 2 st1=st2):=hd2
      clear hd2 
      go_wp2_with fail
      refine (Zni 2 (by decide) _ hU.rd).mono ?_
      rintro e w4 ⟨rfl,q4,g4⟩
      rw[HD.out] at q4
      have hU4:=hU.call g4 q4
      go_wp2
      go_meet
      case rel=>exact⟨rfl,hU4⟩
     ·by_cases hB:B=0
      ·have e2:(B == 0)=true:=beq_iff_eq.2 hB
       by_cases hBN:0<BN
       ·rw[if_pos (.inr ⟨hB,hBN⟩)] at hd2
        clear hA hB
        have HD:Hid (flS 2 st1=st2):=hd2
        clear hd2 
        go_wp2_with fail
        refine (Zni 2 (by decide) _ hU.rd).mono ?_
        rintro e w4 ⟨rfl,q4,g4⟩
        rw[HD.out] at q4
        have hU4:=hU.call g4 q4
        go_wp2
        go_meet
        case rel=>exact⟨rfl,hU4⟩
       ·rw[if_neg (by rintro (h | h)<;>omega)] at hd2
        clear hA hB
        have HD:Hid (st1=st2):=hd2
        clear hd2
        go_wp2
        go_meet
        case rel=>exact⟨rfl,by rw[← HD.out];exact hU⟩
      ·have e2:(B == 0)=false:=beq_eq_false_iff_ne.2 hB
       rw[if_neg (by rintro (h | h)<;>omega)] at hd2
       clear hA hB
       have HD:Hid (st1=st2):=hd2
       clear hd2
       go_wp2
       go_meet
       case rel=>exact⟨rfl,by rw[← HD.out];exact hU⟩
    ·have e1:(A == 0)=false:=beq_eq_false_iff_ne.2 hA
     by_cases hB:B=0
     ·have e2:(B == 0)=true:=beq_iff_eq.2 hB
      by_cases hBN:0<BN
      ·rw[if_pos (.inr ⟨hB,hBN⟩)] at hd2
       clear hA hB
       have HD:Hid (flS 2 st1=st2):=hd2
       clear hd2 
       go_wp2_with fail
       refine (Zni 2 (by decide) _ hU.rd).mono ?_
       rintro e w4 ⟨rfl,q4,g4⟩
       rw[HD.out] at q4
       have hU4:=hU.call g4 q4
       go_wp2
       go_meet
       case rel=>exact⟨rfl,hU4⟩
      ·rw[if_neg (by rintro (h | h)<;>omega)] at hd2
       clear hA hB
       have HD:Hid (st1=st2):=hd2
       clear hd2
       go_wp2
       go_meet
       case rel=>exact⟨rfl,by rw[← HD.out];exact hU⟩
     ·have e2:(B == 0)=false:=beq_eq_false_iff_ne.2 hB
      rw[if_neg (by rintro (h | h)<;>omega)] at hd2
      clear hA hB
      have HD:Hid (st1=st2):=hd2
      clear hd2
      go_wp2
      go_meet
      case rel=>exact⟨rfl,by rw[← HD.out];exact hU⟩
 case rest =>
 obtain⟨rfl,hU2⟩:=hcut
 clear hU x0 x1 x2 x3 x4 hd2
 generalize wc=w4 at hU2 ⊢
 obtain⟨x0,x1,x2,x3,x4⟩:=hU2.bh.cells
 dsimp only at x0 x1 x2 x3
 have hUd:=hU2.keep (Below.drew (Below.refl _ _))
 go_upto_region 11 with fail
 go_region
 clear hU2 x0 x1 x2 x3 x4
 go_wp2
 generalize w4.drew=w5 at hUd ⊢
 have HAN:Hid (AN=((AN.toNat:Nat):Int)∧AN.toNat≤2147483647):=⟨by omega,by omega⟩
 have HBN:Hid (BN=((BN.toNat:Nat):Int)∧BN.toNat≤2147483647):=⟨by omega,by omega⟩
 clear bA bB
 go_loopw [9,10,11] (fun vo vf vc wr=>∃ (l:List Mk) (v:Value) (a' b':Nat) (ch:Bool) (st:Except (Nat × Int) Nat),vo=.int .i64 (a':Int)∧vf=.int .i64 (b':Int)∧vc=.bool ch∧Uy w R T (.slice lo L.length lc) A AN B BN v l st wr∧a'≤2147483647∧b'≤2147483647∧l.length≤137438953473∧Hid (∀ p1,st=.ok p1→at'=p+1)∧Hid (hSt p A AN B BN L X l a' b' ch st)) (fun _ _ _ wr=>zW L wr R)
 case atStart=>exact⟨[],_,AN.toNat,BN.toNat,false,st2,by rw[← HAN.out.1],by rw[← HBN.out.1],rfl,hUd,HAN.out.2,HBN.out.2,by simp,HAt,HX2⟩
 case round =>
 clear hUd HX2 HAt HAN HBN st1 st2
 obtain⟨l,v,a',b',ch,st,rfl,rfl,rfl,hU,ha',hb',hll,HAt,HI⟩:=hrel
 obtain⟨vo,vc,rfl⟩:=(Zeo hU.own).form
 have c3:=hU.rd.fe
 obtain⟨sm,hsm⟩:∃ sm:Int,(a':Int)+(b':Int)=sm:=⟨_,rfl⟩
 have HK:Hid (zW L wr R=zN L st):=Zsk hU.rd
 cases st with
 | error e =>
  obtain⟨a,z⟩:=e
  have hzb:(z == 0)=false:=beq_eq_false_iff_ne.2 hU.rd.2
  unfold feS at c3
  dsimp only at c3
  have HKS:Hid (∀ u,RdZ u R (.slice lo L.length lc) (.error (a,z))→HkS R (.slice lo L.length lc) X ⟨A,AN,B,BN,l⟩ u):=(by
   intro u hq
   have h:X=.error (a,z):=HI.out
   rw[h]
   exact hq)
  clear HI HK HAt
  by_cases h0:0<sm
  ·have hU9:=hU
   clear hU
   go_upto_region 20 with fail
   obtain⟨z0,z1,z2,z3,z4⟩:=hU9.bh.cells
   dsimp only at z0 z1 z2 z3
   obtain⟨y0,y1,y2,y3,y4⟩:=hU9.bg.cells
   dsimp only[zhk] at y0 y1 y2 y3
   have yf0:=hU9.bg.frozen 0
   have yf1:=hU9.bg.frozen 1
   have yf2:=hU9.bg.frozen 2
   have yf3:=hU9.bg.frozen 3
   have yf4:=hU9.bg.frozen 4
   obtain⟨fh,fo,fq,fg⟩:=hU9.fin
   unfold five at fh fo fq fg
   clear hU9
   go_wp2
   exact bodyPost_ret (v:=hkV ⟨A,AN,B,BN,l⟩ (.slice vo l.length vc)) (results_cell_row rfl _ _ w.heap.size 45 #[.int .i64 A,.int .i64 AN,.int .i64 B,.int .i64 BN,.slice vo l.length vc] (0,0) _ rfl fh Tryz.underlying45 rfl (by kernel_rfl)) rfl ⟨⟨A,AN,B,BN,l⟩,_,rfl,fo,fg,HKS.out _ fq⟩
  ·have hU9:=hU
   clear hU
   go_upto_region 20 with fail
   obtain⟨z0,z1,z2,z3,z4⟩:=hU9.bh.cells
   dsimp only at z0 z1 z2 z3
   obtain⟨y0,y1,y2,y3,y4⟩:=hU9.bg.cells
   dsimp only[zhk] at y0 y1 y2 y3
   have yf0:=hU9.bg.frozen 0
   have yf1:=hU9.bg.frozen 1
   have yf2:=hU9.bg.frozen 2
   have yf3:=hU9.bg.frozen 3
   have yf4:=hU9.bg.frozen 4
   obtain⟨fh,fo,fq,fg⟩:=hU9.fin
   unfold five at fh fo fq fg
   clear hU9
   go_wp2
   exact bodyPost_ret (v:=hkV ⟨A,AN,B,BN,l⟩ (.slice vo l.length vc)) (results_cell_row rfl _ _ w.heap.size 45 #[.int .i64 A,.int .i64 AN,.int .i64 B,.int .i64 BN,.slice vo l.length vc] (0,0) _ rfl fh Tryz.underlying45 rfl (by kernel_rfl)) rfl ⟨⟨A,AN,B,BN,l⟩,_,rfl,fo,fg,HKS.out _ fq⟩
 | ok pn =>
  unfold feS at c3
  dsimp only at c3
  obtain⟨n,hn,hpn,hlp,hch,hI⟩:∃ n,a'+b'≤n∧pn≤L.length∧l.length≤pn∧ch=!smB l∧outZ p A AN B BN (thenM l (urdP n a' b' pn (L.drop pn)))=X:=HI.out
  have hat:=HAt.out pn rfl
  have HA2:Hid (at'=p+1):=hat
  clear hat
  by_cases h0:a'+b'=0
  ·have h1:¬ 0<sm:=by omega
   rw[ZlQ n h0] at hI
   dsimp only[outZ] at hI
   have HI2:Hid ((if smB l=true then (.error (p+1,50):Except (Nat × Int) (Hk × Nat)) else .ok (⟨A,AN,B,BN,l⟩,pn))=X):=hI
   clear HI HAt hI hn h0
   cases ch with
   | true =>
    have HKS:Hid (∀ u,RdZ u R (.slice lo L.length lc) (.ok pn)→HkS R (.slice lo L.length lc) X ⟨A,AN,B,BN,l⟩ u):=(by
     intro u hq
     have h:=HI2.out
     rw[if_neg (by intro h;rw[h] at hch;cases hch)] at h
     rw[← h]
     exact⟨rfl,hq⟩)
    clear HI2 hch HK
    have hU9:=hU
    clear hU
    go_upto_region 20 with fail
    obtain⟨z0,z1,z2,z3,z4⟩:=hU9.bh.cells
    dsimp only at z0 z1 z2 z3
    obtain⟨y0,y1,y2,y3,y4⟩:=hU9.bg.cells
    dsimp only[zhk] at y0 y1 y2 y3
    have yf0:=hU9.bg.frozen 0
    have yf1:=hU9.bg.frozen 1
    have yf2:=hU9.bg.frozen 2
    have yf3:=hU9.bg.frozen 3
    have yf4:=hU9.bg.frozen 4
    obtain⟨fh,fo,fq,fg⟩:=hU9.fin
    unfold five at fh fo fq fg
    clear hU9
    go_wp2
    exact bodyPost_ret (v:=hkV ⟨A,AN,B,BN,l⟩ (.slice vo l.length vc)) (results_cell_row rfl _ _ w.heap.size 45 #[.int .i64 A,.int .i64 AN,.int .i64 B,.int .i64 BN,.slice vo l.length vc] (0,0) _ rfl fh Tryz.underlying45 rfl (by kernel_rfl)) rfl ⟨⟨A,AN,B,BN,l⟩,_,rfl,fo,fg,HKS.out _ fq⟩
   | false =>
    have HKS:Hid (∀ u,RdZ u R (.slice lo L.length lc) (.error (at',50))→HkS R (.slice lo L.length lc) X ⟨A,AN,B,BN,l⟩ u):=(by
     intro u hq
     have h:=HI2.out
     rw[if_pos (by cases hs:smB l with
      | true=>rfl
      | false=>rw[hs] at hch;cases hch)] at h
     rw[← h,← HA2.out]
     exact hq)
    clear HI2 hch HK
    have qx:Rx wr R (.slice lo L.length lc) (pn:Int) 0 0:=hU.rd
    obtain⟨r0,r1,r2,r3⟩:=qx.cells
    have rf2:=qx.frozen 2
    have rf3:=qx.frozen 3
    have hU9:Uy w R T (.slice lo L.length lc) A AN B BN (.slice vo l.length vc) l (.error (at',50)) ((wr.setCell ⟨R,2,none⟩ (.int .i64 (at':Int))).setCell ⟨R,3,none⟩ (.int .i64 50)):=hU.call (ZdT (ZdS wr R 2 _) (ZdS _ R 3 _)) ⟨⟨pn,qx.fault (at':Int) 50⟩,by decide⟩
    clear hU
    go_upto_region 20 with fail
    clear r0 r1 r2 r3 rf2 rf3 qx
    generalize (wr.setCell ⟨R,2,none⟩ (.int .i64 (at':Int))).setCell ⟨R,3,none⟩ (.int .i64 50)=w9 at hU9 ⊢
    obtain⟨z0,z1,z2,z3,z4⟩:=hU9.bh.cells
    dsimp only at z0 z1 z2 z3
    obtain⟨y0,y1,y2,y3,y4⟩:=hU9.bg.cells
    dsimp only[zhk] at y0 y1 y2 y3
    have yf0:=hU9.bg.frozen 0
    have yf1:=hU9.bg.frozen 1
    have yf2:=hU9.bg.frozen 2
    have yf3:=hU9.bg.frozen 3
    have yf4:=hU9.bg.frozen 4
    obtain⟨fh,fo,fq,fg⟩:=hU9.fin
    unfold five at fh fo fq fg
    clear hU9
    go_wp2
    exact bodyPost_ret (v:=hkV ⟨A,AN,B,BN,l⟩ (.slice vo l.length vc)) (results_cell_row rfl _ _ w.heap.size 45 #[.int .i64 A,.int .i64 AN,.int .i64 B,.int .i64 BN,.slice vo l.length vc] (0,0) _ rfl fh Tryz.underlying45 rfl (by kernel_rfl)) rfl ⟨⟨A,AN,B,BN,l⟩,_,rfl,fo,fg,HKS.out _ fq⟩
  ·have h1:0<sm:=by omega
   obtain⟨n',rfl⟩:∃ n',n=n'+1:=⟨n-1,by omega⟩
   rw[ZlT n' h0] at hI
   obtain⟨Z,hZ⟩:∃ Z,ulnP a' b' pn (L.drop pn)=Z:=⟨_,rfl⟩
   rw[hZ] at hI
   have hB1:Below wr.heap.size wr (wr.alloc mk0):=(Below.refl _ wr).alloc (Nat.le_refl _) _
   have hU1:=hU.keep hB1
   have hS1:=heap_alloc_new wr mk0
   have hln:=Zpu a' b' (wr.alloc mk0) hU1.rd (fun u hu=>HLs.out u (ZdT hU1.gr hu)) hR hpn hLl hs ha' hb' Z hZ
   have hln2:Calls Tryz.prog 103 #[.pointer (some ⟨R,0,none⟩),.int .i64 (a':Int),.int .i64 (b':Int)] (wr.alloc mk0) fun e w'=>∃ (m:Mk) (a2 b2:Nat) (st2:Except (Nat × Int) Nat),e=.returned (.tuple #[.agg #[.int .u8 m.sg,.string ⟨m.tx.toArray⟩],.int .i64 (a2:Int),.int .i64 (b2:Int)])∧RdZ w' R (.slice lo L.length lc) st2∧(wr.alloc mk0).grownBy w' (some R)∧hSt p A AN B BN L X (l++[m]) a2 b2 (ch || (m.sg != 32)) st2∧a2≤2147483647∧b2≤2147483647∧zN L st2<zN L (.ok pn):=(by
    refine hln.mono ?_
    intro e w' hq
    cases Z with
    | error z =>
     obtain⟨rfl,q2,g2⟩:=hq
     exact⟨⟨0,[]⟩,0,0,.error z,rfl,q2,g2,hI.symm,by decide,by decide,by show 0<L.length-pn+1;omega⟩
    | ok z =>
     obtain⟨m,p1,r1⟩:=z
     obtain⟨rfl,q2,g2⟩:=hq
     obtain⟨rfl,d2,d3,d4,d5,d6⟩:=Zlw hP hZ
     refine⟨m,a'-sgO m,b'-sgN m,.ok p1,rfl,q2,g2,⟨n',by omega,d3,by rw[List.length_append];simp;omega,?_,hI⟩,by omega,by omega,by show L.length-p1+1<L.length-pn+1;omega⟩
     rw[hch,Zrn])
   have HVb:Hid ((Value.slice vo l.length vc).ownBlock≠some wr.heap.size):=(by
    intro e
    have:=ZhN hU.own e
    omega)
   have HTl:Hid (T<wr.heap.size):=hU.bh.lt
   unfold mk0 at hU1 hS1 hln2
   clear HI hB1 hU hln hZ hI hch h0 hn
   go_upto_region 15 with fail
   generalize wr.alloc (.cells #[.int .u8 0,.string ⟨#[]⟩] 47)=u1 at hU1 hS1 hln2 ⊢
   obtain⟨M,hM⟩:∃ M,wr.heap.size=M:=⟨_,rfl⟩
   rw[hM] at hS1 HVb HTl ⊢
   clear hM
   go_wp2_with fail
   refine hln2.mono ?_
   rintro e u2 ⟨m,a2,b2,st2,rfl,q2,g2,hSt2,ha2,hb2,hzn⟩
   have HH2:Hid (hSt p A AN B BN L X (l++[m]) a2 b2 (ch || (m.sg != 32)) st2∧zN L st2<zN L (.ok pn)):=⟨hSt2,hzn⟩
   have hU2:=hU1.call g2 q2
   have hS2:u2.heap[M]?=some (.cells #[.int .u8 0,.string ⟨#[]⟩] 47):=(g2.block M (Array.getElem?_eq_some_iff.1 hS1).1 (fun e=>by have:=Option.some.inj e;have:=hU1.rl;have:=hU1.tl;have:=HTl.out;omega)).trans hS1
   have hU3:=(hU2.other HVb.out HTl.out 0 (.int .u8 m.sg)).other HVb.out HTl.out 1 (.string ⟨m.tx.toArray⟩)
   have hS3:=heap_setCell_same _ M 1 _ _ (.string ⟨m.tx.toArray⟩) (heap_setCell_same u2 M 0 _ _ (.int .u8 m.sg) hS2)
   have s0:u2.cell? ⟨M,0,none⟩=some (.int .u8 0):=(by rw[Lib.cell_of_heap hS2];rfl)
   have s1:u2.cell? ⟨M,1,none⟩=some (.string ⟨#[]⟩):=(by rw[Lib.cell_of_heap hS2];rfl)
   have sf0:=Lib.frozen_of_heap hS2 0
   have sf1:=Lib.frozen_of_heap hS2 1
   clear hln2 hU1 hS1 g2 q2 hSt2 hzn hU2
   go_upto_region 16 with fail
   clear s0 s1 sf0 sf1 hS2
   generalize (u2.setCell ⟨M,0,none⟩ (.int .u8 m.sg)).setCell ⟨M,1,none⟩ (.string ⟨m.tx.toArray⟩)=u3 at hU3 hS3 ⊢
   have s0:u3.cell? ⟨M,0,none⟩=some (.int .u8 m.sg):=(by rw[Lib.cell_of_heap hS3];rfl)
   have s1:u3.cell? ⟨M,1,none⟩=some (.string ⟨m.tx.toArray⟩):=(by rw[Lib.cell_of_heap hS3];rfl)
   obtain⟨ch2,hc2⟩:∃ c,(ch || (m.sg != 32))=c:=⟨_,rfl⟩
   rw[hc2] at HH2
   go_cut [11] from 57 to 88 (fun cv wz=>cv=.bool ch2∧wz=u3)
   case first =>
    cases ch with
    | true =>
     have HE:Hid (true=ch2):=hc2
     clear hc2
     go_wp2
     go_meet
     case rel=>exact⟨by rw[← HE.out],rfl⟩
    | false =>
     have HE:Hid ((m.sg != 32)=ch2):=hc2
     clear hc2
     go_wp2
     go_meet
     case rel=>exact⟨by rw[← HE.out],rfl⟩
   case rest =>
   obtain⟨rfl,hwc⟩:=hcut
   subst hwc
   generalize wc=u4 at hU3 hS3 s0 s1 ⊢
   obtain⟨_,_,_,_,l4⟩:=hU3.bh.cells
   have hBA:Below u4.heap.size u4 (u4.alloc (.cells #[.int .u8 m.sg,.string ⟨m.tx.toArray⟩] 47)):=(Below.refl _ u4).alloc (Nat.le_refl _) _
   have hUA:=hU3.keep hBA
   have hownA:=hUA.own
   have hbase:=hUA.gr.size
   have hrow:Holds (u4.alloc (.cells #[.int .u8 m.sg,.string ⟨m.tx.toArray⟩] 47)) (.slice (some ⟨u4.heap.size,0,none⟩) 1 1) 1 (mkcells [m]):=ZgR u4 #[.int .u8 m.sg,.string ⟨m.tx.toArray⟩] 47 1 1 (by decide)
   have hxb:l.length+1≤2199023255552:=by omega
   clear hBA hU3 hS3 hc2
   go_wp2_with (at_builtin;refine Zmi _ (by kernel_rfl) (.tmp 84) (.tmp 86) 43 47 (.agg #[.int .u8 0,.string ⟨#[]⟩]) 2 24 rfl Tryz.underlying43 infoMk rfl (by decide) (by decide) w.heap.size _ _ _ rfl hownA _ 1 (mkcells [m]) rfl hrow (Zgo _) (Zgp _) hxb hbase ?_)
   intro v5 u5 ho5 hg5 _
   obtain⟨hU5,t4,tf4⟩:=hUA.more hg5 ho5
   obtain⟨o5,c5,rfl⟩:=(Zeo ho5).form
   clear hUA hownA hbase hrow ho5 hg5 s0 s1 l4 c3
   go_wp2
   go_roundw
   case rel=>exact⟨l++[m],_,a2,b2,ch2,st2,rfl,rfl,rfl,hU5,ha2,hb2,by rw[List.length_append];simp;omega,fun _ _=>HA2.out,HH2.out.1⟩
   case measure =>
    rw[Zsk hU5.rd,HK.out]
    exact HH2.out.2
end

end Go.Proofs.YtcniomgjikienaaGreatDoor

namespace Go.Proofs.YtcniomgjikienaaGreatDoor.Es

section
open Go.RowKit Go.Extern.Stop Go.Stop Go.Extern
theorem mKind (h : Value) (w : World) : (Go.method 524 157 (.agg #[h]) "Kind").run Tryz.prog w = .ok (390, h) w := by kernel_rfl
theorem mElem (h : Value) (w : World) : (Go.method 524 157 (.agg #[h]) "Elem").run Tryz.prog w = .ok (403, .agg #[h]) w := by kernel_rfl
theorem mImplements (h : Value) (w : World) : (Go.method 524 157 (.agg #[h]) "Implements").run Tryz.prog w = .ok (404, .agg #[h]) w := by kernel_rfl
theorem mAssignableTo (h : Value) (w : World) : (Go.method 524 157 (.agg #[h]) "AssignableTo").run Tryz.prog w = .ok (401, .agg #[h]) w := by kernel_rfl
theorem Ef.valueOfP (t:Addr) (w:World):(ReflectliteValue.unpack (.iface 75 (.pointer (some t)))).run Tryz.prog w
  = .ok (.agg #[.pointer (some ⟨7,75,none⟩),.pointer (some ⟨w.heap.size,0,none⟩),.int .u64 150]) (w.alloc (.cells #[.pointer (some t)] 75)):=by kernel_rfl
theorem Ef.typeP (a : Addr) (w : World) : (ReflectliteValue.methodAny (ReflectliteValue.valueError "reflectlite.Value.Type" 0) (fun t _ _ _ => ReflectliteType.toType t) #[.agg #[.pointer (some ⟨7, 75, none⟩), .pointer (some a), .int .u64 150]]).run Tryz.prog w
  = .ok (.iface 157 (.agg #[.pointer (some ⟨7,75,none⟩)])) w:=by kernel_rfl
theorem Ef.kindP (w:World):((ReflectliteType.abiMethod fun t=>Functor.map (fun a:Nat=>Value.int IntKind.u8 (a:Int)) (Rtype.kind t)) #[.pointer (some ⟨7,75,none⟩)]).run Tryz.prog w=.ok (.int .u8 22) w:=by kernel_rfl
theorem Ef.kindE (w:World):((ReflectliteType.abiMethod fun t=>Functor.map (fun a:Nat=>Value.int IntKind.u8 (a:Int)) (Rtype.kind t)) #[.pointer (some ⟨7,62,none⟩)]).run Tryz.prog w=.ok (.int .u8 22) w:=by kernel_rfl
theorem Ef.partsP (a:Addr) (w:World):(ReflectliteValue.parts (.agg #[.pointer (some ⟨7,75,none⟩),.pointer (some a),.int .u64 150])).run Tryz.prog w=.ok (some (75,a,150)) w:=by kernel_rfl
theorem Ef.isNilP (a p:Addr) (W:World) (ha:W.cell? a=some (.pointer (some p))) :
  (ReflectliteValue.method (ReflectliteValue.valueError "reflectlite.Value.IsNil" 0) ReflectliteValue.isNil #[.agg #[.pointer (some ⟨7, 75, none⟩), .pointer (some a), .int .u64 150]]).run Tryz.prog W = .ok (.bool false) W := by
 show Sem.run Tryz.prog (ReflectliteValue.parts (.agg #[.pointer (some ⟨7,75,none⟩),.pointer (some a),.int .u64 150]) >>= _) W=_
 simp only[Sem.run_bind,Ef.partsP,Result.andThen]
 simp[ReflectliteValue.isNil,loadVar,isAgg,underlying,Tryz.underlying75,ha,Result.andThen]
theorem Ef.elemP (w:World):(ReflectliteType.method ReflectliteType.elem #[.agg #[.pointer (some ⟨7,75,none⟩)]]).run Tryz.prog w=.ok (.iface 157 (.agg #[.pointer (some ⟨7,62,none⟩)])) w:=by kernel_rfl
theorem Ef.implementsE (w : World) : (ReflectliteType.relation "Implements" ReflectliteType.implements_ #[.agg #[.pointer (some ⟨7, 62, none⟩)], .iface 157 (.agg #[.pointer (some ⟨7, 24, none⟩)])]).run Tryz.prog w = .ok (.bool true) w := by kernel_rfl
theorem Ef.typeOfE (v:Value) (w:World):(ReflectliteType.typeOf #[.iface 62 v]).run Tryz.prog w=.ok (.iface 157 (.agg #[.pointer (some ⟨7,62,none⟩)])) w:=by kernel_rfl
theorem Ef.assignableE (w : World) : (ReflectliteType.relation "AssignableTo" ReflectliteType.assignableTo #[.agg #[.pointer (some ⟨7, 62, none⟩)], .iface 157 (.agg #[.pointer (some ⟨7, 62, none⟩)])]).run Tryz.prog w = .ok (.bool true) w := by kernel_rfl
theorem Ef.valueOfE (e:Addr) (w:World):(ReflectliteValue.unpack (.iface 62 (.pointer (some e)))).run Tryz.prog w
  = .ok (.agg #[.pointer (some ⟨7,62,none⟩),.pointer (some ⟨w.heap.size,0,none⟩),.int .u64 150]) (w.alloc (.cells #[.pointer (some e)] 62)):=by kernel_rfl
theorem Ef.elemOfP (w:World):(Rtype.elem? 75).run Tryz.prog w=.ok (some 62) w:=by kernel_rfl
theorem Ef.mkE (p:Addr) (w:World):(ReflectliteValue.mk 62 p ReflectliteValue.flagAddr).run Tryz.prog w=.ok (.agg #[.pointer (some ⟨7,62,none⟩),.pointer (some p),.int .u64 406]) w:=by kernel_rfl
theorem Ef.elemVP (a p:Addr) (W:World) (ha:W.cell? a=some (.pointer (some p))) :
  (ReflectliteValue.method (ReflectliteValue.valueError "reflectlite.Value.Elem" 0) ReflectliteValue.elem #[.agg #[.pointer (some ⟨7, 75, none⟩), .pointer (some a), .int .u64 150]]).run Tryz.prog W
   = .ok (.agg #[.pointer (some ⟨7,62,none⟩),.pointer (some p),.int .u64 406]) W:=by
 show Sem.run Tryz.prog (ReflectliteValue.parts (.agg #[.pointer (some ⟨7,75,none⟩),.pointer (some a),.int .u64 150]) >>= _) W=_
 simp only[Sem.run_bind,Ef.partsP,Result.andThen]
 simp[ReflectliteValue.elem,loadVar,isAgg,underlying,Tryz.underlying75,ha,Result.andThen,Ef.elemOfP,Ef.mkE]
theorem Ef.partsEa (a:Addr) (w:World):(ReflectliteValue.parts (.agg #[.pointer (some ⟨7,62,none⟩),.pointer (some a),.int .u64 406])).run Tryz.prog w=.ok (some (62,a,406)) w:=by kernel_rfl
theorem Ef.partsE (a:Addr) (w:World):(ReflectliteValue.parts (.agg #[.pointer (some ⟨7,62,none⟩),.pointer (some a),.int .u64 150])).run Tryz.prog w=.ok (some (62,a,150)) w:=by kernel_rfl
theorem Ef.directE (w:World):(Rtype.directlyAssignable 62 62).run Tryz.prog w=.ok true w:=by kernel_rfl
theorem Ef.setE (ta b:Addr) (e:Addr) (old:Value) (W:World) (hb:W.cell? b=some (.pointer (some e))) (ht:W.cell? ta=some old) (hf:W.frozen? ta=false) :
  (ReflectliteValue.set #[.agg #[.pointer (some ⟨7,62,none⟩),.pointer (some ta),.int .u64 406],.agg #[.pointer (some ⟨7,62,none⟩),.pointer (some b),.int .u64 150]]).run Tryz.prog W
   = .ok (.tuple #[]) (W.setCell ta (.pointer (some e))):=by
 show Sem.run Tryz.prog (ReflectliteValue.parts (.agg #[.pointer (some ⟨7,62,none⟩),.pointer (some ta),.int .u64 406]) >>= fun p=>ReflectliteValue.parts (.agg #[.pointer (some ⟨7,62,none⟩),.pointer (some b),.int .u64 150]) >>= fun q=>_) W=_
 simp only[Sem.run_bind,Ef.partsEa,Ef.partsE,Result.andThen]
 simp[ReflectliteValue.flagAddr,loadVar,isAgg,underlying,Tryz.underlying62,hb,Result.andThen,Ef.directE,storeVar,Value.cells,storeCells,Addr.add]
 rw[run_store Tryz.prog W ta _ _ (by rfl)]
 simp[ht,hf]
theorem Ef.as_hit (e:Addr) (t:Addr) (old:Value) (w:World) (hg:w.cell? ⟨0,0,none⟩=some (.iface 157 (.agg #[.pointer (some ⟨7,24,none⟩)]))) (ht0:w.cell? t=some old) (hf0:w.frozen? t=false) :
  Calls Tryz.prog 28 #[.iface 62 (.pointer (some e)),.iface 75 (.pointer (some t))] w fun ev w'=>ev=.returned (.bool true)∧w'=((((w.alloc (.cells #[.pointer (some t)] 75)).alloc (.cells #[.pointer (some ⟨7,75,none⟩),.pointer (some ⟨w.heap.size,0,none⟩),.int .u64 150] 108)).alloc (.cells #[.pointer (some ⟨7,75,none⟩),.pointer (some ⟨w.heap.size,0,none⟩),.int .u64 150] 108)).alloc (.cells #[.pointer (some e)] 62)).setCell t (.pointer (some e)):=by
 have h6:=@run_callFunc_extern Tryz.prog 55 _ (fun args=>ReflectliteValue.unpack (args.getD 0 (.tuple #[]))) Tryz.func55 (by kernel_rfl) (by kernel_rfl) (by kernel_rfl) (by kernel_rfl)
 have h7 := @run_callFunc_extern Tryz.prog 56 _ (ReflectliteValue.methodAny (ReflectliteValue.valueError "reflectlite.Value.Type" 0) (fun t _ _ _ => ReflectliteType.toType t)) Tryz.func56 (by kernel_rfl) (by kernel_rfl) (by kernel_rfl) (by kernel_rfl)
 have h8 := @run_callFunc_extern Tryz.prog 57 _ (ReflectliteValue.method (ReflectliteValue.valueError "reflectlite.Value.IsNil" 0) ReflectliteValue.isNil) Tryz.func57 (by kernel_rfl) (by kernel_rfl) (by kernel_rfl) (by kernel_rfl)
 have h27:=@run_callFunc_extern Tryz.prog 390 _ (ReflectliteType.abiMethod fun t=>do pure (.int .u8 (← Rtype.kind t))) Tryz.func390 (by kernel_rfl) (by kernel_rfl) (by kernel_rfl) (by kernel_rfl)
 have h37:=@run_callFunc_extern Tryz.prog 403 _ (ReflectliteType.method ReflectliteType.elem) Tryz.func403 (by kernel_rfl) (by kernel_rfl) (by kernel_rfl) (by kernel_rfl)
 have h38 := @run_callFunc_extern Tryz.prog 404 _ (ReflectliteType.relation "Implements" ReflectliteType.implements_) Tryz.func404 (by kernel_rfl) (by kernel_rfl) (by kernel_rfl) (by kernel_rfl)
 have h10:=@run_callFunc_extern Tryz.prog 97 _ ReflectliteType.typeOf Tryz.func97 (by kernel_rfl) (by kernel_rfl) (by kernel_rfl) (by kernel_rfl)
 have h35 := @run_callFunc_extern Tryz.prog 401 _ (ReflectliteType.relation "AssignableTo" ReflectliteType.assignableTo) Tryz.func401 (by kernel_rfl) (by kernel_rfl) (by kernel_rfl) (by kernel_rfl)
 have h11 := @run_callFunc_extern Tryz.prog 98 _ (ReflectliteValue.method (ReflectliteValue.valueError "reflectlite.Value.Elem" 0) ReflectliteValue.elem) Tryz.func98 (by kernel_rfl) (by kernel_rfl) (by kernel_rfl) (by kernel_rfl)
 have h12:=@run_callFunc_extern Tryz.prog 99 _ ReflectliteValue.set Tryz.func99 (by kernel_rfl) (by kernel_rfl) (by kernel_rfl) (by kernel_rfl)
 have tO:=Ef.typeOfE
 have mA:=mAssignableTo
 have a25:=Ef.assignableE
 have v25:=Ef.valueOfE
 have f6:=Ef.valueOfP
 have f7:=Ef.typeP
 have mK:=mKind
 have mE:=mElem
 have mI:=mImplements
 have k27:=Ef.kindP
 have k25:=Ef.kindE
 have e27:=Ef.elemP
 have i25:=Ef.implementsE
 have n8:=Ef.isNilP ⟨w.heap.size,0,none⟩ t ((w.alloc (.cells #[.pointer (some t)] 75)).alloc (.cells #[.pointer (some ⟨7,75,none⟩),.pointer (some ⟨w.heap.size,0,none⟩),.int .u64 150] 108)) (by simp)
 have hlt:0<w.heap.size:=by
  rcases Nat.lt_or_ge 0 w.heap.size with h | h
  ·exact h
  ·simp[World.cell?,Array.getElem?_eq_none h] at hg
 have hg2:((w.alloc (.cells #[.pointer (some t)] 75)).alloc (.cells #[.pointer (some ⟨7,75,none⟩),.pointer (some ⟨w.heap.size,0,none⟩),.int .u64 150] 108)).cell? ⟨0,0,none⟩=some (.iface 157 (.agg #[.pointer (some ⟨7,24,none⟩)])):=by
  rw[World.cell?_alloc_lt _ _ ⟨0,0,none⟩ (by simp<;>omega),World.cell?_alloc_lt _ _ ⟨0,0,none⟩ hlt];exact hg
 have htl:t.block<w.heap.size:=by
  rcases Nat.lt_or_ge t.block w.heap.size with h | h
  ·exact h
  ·simp[World.cell?,Array.getElem?_eq_none h] at ht0
 have el:=Ef.elemVP ⟨w.heap.size,0,none⟩ t (((w.alloc (.cells #[.pointer (some t)] 75)).alloc (.cells #[.pointer (some ⟨7,75,none⟩),.pointer (some ⟨w.heap.size,0,none⟩),.int .u64 150] 108)).alloc (.cells #[.pointer (some ⟨7,75,none⟩),.pointer (some ⟨w.heap.size,0,none⟩),.int .u64 150] 108)) (by rw[World.cell?_alloc_lt _ _ ⟨w.heap.size,0,none⟩ (by simp;omega)];simp)
 have st:=Ef.setE t ⟨w.heap.size+1+1+1,0,none⟩ e old ((((w.alloc (.cells #[.pointer (some t)] 75)).alloc (.cells #[.pointer (some ⟨7,75,none⟩),.pointer (some ⟨w.heap.size,0,none⟩),.int .u64 150] 108)).alloc (.cells #[.pointer (some ⟨7,75,none⟩),.pointer (some ⟨w.heap.size,0,none⟩),.int .u64 150] 108)).alloc (.cells #[.pointer (some e)] 62))
  (by rw[World.cell?_alloc_at _ _ _ _ (by simp)];rfl)
  (by rw[World.cell?_alloc_lt _ _ t (by simp;omega),World.cell?_alloc_lt _ _ t (by simp;omega),World.cell?_alloc_lt _ _ t (by simp;omega),World.cell?_alloc_lt _ _ t htl];exact ht0)
  (by rw[World.frozen?_alloc_old _ _ t (by simp;omega),World.frozen?_alloc_old _ _ t (by simp;omega),World.frozen?_alloc_old _ _ t (by simp;omega),World.frozen?_alloc_old _ _ t (Nat.ne_of_lt htl)];exact hf0)
 go_enter Tryz.func28,Tryz.ntmps28
 go_wp2
 refine wp_loop_rounds 1 ?_
 rw[rounds_succ]
 go_wp2
 go_ret
 exact⟨rfl,rfl⟩
theorem En.valueOfP (t:Addr) (w:World):(ReflectliteValue.unpack (.iface 80 (.pointer (some t)))).run Tryz.prog w
  = .ok (.agg #[.pointer (some ⟨7,80,none⟩),.pointer (some ⟨w.heap.size,0,none⟩),.int .u64 150]) (w.alloc (.cells #[.pointer (some t)] 80)):=by kernel_rfl
theorem En.typeP (a : Addr) (w : World) : (ReflectliteValue.methodAny (ReflectliteValue.valueError "reflectlite.Value.Type" 0) (fun t _ _ _ => ReflectliteType.toType t) #[.agg #[.pointer (some ⟨7, 80, none⟩), .pointer (some a), .int .u64 150]]).run Tryz.prog w
  = .ok (.iface 157 (.agg #[.pointer (some ⟨7,80,none⟩)])) w:=by kernel_rfl
theorem En.kindP (w:World):((ReflectliteType.abiMethod fun t=>Functor.map (fun a:Nat=>Value.int IntKind.u8 (a:Int)) (Rtype.kind t)) #[.pointer (some ⟨7,80,none⟩)]).run Tryz.prog w=.ok (.int .u8 22) w:=by kernel_rfl
theorem En.kindE (w:World):((ReflectliteType.abiMethod fun t=>Functor.map (fun a:Nat=>Value.int IntKind.u8 (a:Int)) (Rtype.kind t)) #[.pointer (some ⟨7,27,none⟩)]).run Tryz.prog w=.ok (.int .u8 2) w:=by kernel_rfl
theorem En.partsP (a:Addr) (w:World):(ReflectliteValue.parts (.agg #[.pointer (some ⟨7,80,none⟩),.pointer (some a),.int .u64 150])).run Tryz.prog w=.ok (some (80,a,150)) w:=by kernel_rfl
theorem En.isNilP (a p:Addr) (W:World) (ha:W.cell? a=some (.pointer (some p))) :
  (ReflectliteValue.method (ReflectliteValue.valueError "reflectlite.Value.IsNil" 0) ReflectliteValue.isNil #[.agg #[.pointer (some ⟨7, 80, none⟩), .pointer (some a), .int .u64 150]]).run Tryz.prog W = .ok (.bool false) W := by
 show Sem.run Tryz.prog (ReflectliteValue.parts (.agg #[.pointer (some ⟨7,80,none⟩),.pointer (some a),.int .u64 150]) >>= _) W=_
 simp only[Sem.run_bind,En.partsP,Result.andThen]
 simp[ReflectliteValue.isNil,loadVar,isAgg,underlying,Tryz.underlying80,ha,Result.andThen]
theorem En.elemP (w:World):(ReflectliteType.method ReflectliteType.elem #[.agg #[.pointer (some ⟨7,80,none⟩)]]).run Tryz.prog w=.ok (.iface 157 (.agg #[.pointer (some ⟨7,27,none⟩)])) w:=by kernel_rfl
theorem En.implementsE (w : World) : (ReflectliteType.relation "Implements" ReflectliteType.implements_ #[.agg #[.pointer (some ⟨7, 27, none⟩)], .iface 157 (.agg #[.pointer (some ⟨7, 24, none⟩)])]).run Tryz.prog w = .ok (.bool true) w := by kernel_rfl
theorem En.typeOfE (v:Value) (w:World):(ReflectliteType.typeOf #[.iface 27 v]).run Tryz.prog w=.ok (.iface 157 (.agg #[.pointer (some ⟨7,27,none⟩)])) w:=by kernel_rfl
theorem En.assignableE (w : World) : (ReflectliteType.relation "AssignableTo" ReflectliteType.assignableTo #[.agg #[.pointer (some ⟨7, 27, none⟩)], .iface 157 (.agg #[.pointer (some ⟨7, 27, none⟩)])]).run Tryz.prog w = .ok (.bool true) w := by kernel_rfl
theorem En.valueOfE (z:Int) (w:World):(ReflectliteValue.unpack (.iface 27 (.int .i64 z))).run Tryz.prog w
  = .ok (.agg #[.pointer (some ⟨7,27,none⟩),.pointer (some ⟨w.heap.size,0,none⟩),.int .u64 130]) (w.alloc (.cells #[.int .i64 z] 27)):=by kernel_rfl
theorem En.elemOfP (w:World):(Rtype.elem? 80).run Tryz.prog w=.ok (some 27) w:=by kernel_rfl
theorem En.mkE (p:Addr) (w:World):(ReflectliteValue.mk 27 p ReflectliteValue.flagAddr).run Tryz.prog w=.ok (.agg #[.pointer (some ⟨7,27,none⟩),.pointer (some p),.int .u64 386]) w:=by kernel_rfl
theorem En.elemVP (a p:Addr) (W:World) (ha:W.cell? a=some (.pointer (some p))) :
  (ReflectliteValue.method (ReflectliteValue.valueError "reflectlite.Value.Elem" 0) ReflectliteValue.elem #[.agg #[.pointer (some ⟨7, 80, none⟩), .pointer (some a), .int .u64 150]]).run Tryz.prog W
   = .ok (.agg #[.pointer (some ⟨7,27,none⟩),.pointer (some p),.int .u64 386]) W:=by
 show Sem.run Tryz.prog (ReflectliteValue.parts (.agg #[.pointer (some ⟨7,80,none⟩),.pointer (some a),.int .u64 150]) >>= _) W=_
 simp only[Sem.run_bind,En.partsP,Result.andThen]
 simp[ReflectliteValue.elem,loadVar,isAgg,underlying,Tryz.underlying80,ha,Result.andThen,En.elemOfP,En.mkE]
theorem En.partsEa (a:Addr) (w:World):(ReflectliteValue.parts (.agg #[.pointer (some ⟨7,27,none⟩),.pointer (some a),.int .u64 386])).run Tryz.prog w=.ok (some (27,a,386)) w:=by kernel_rfl
theorem En.partsE (a:Addr) (w:World):(ReflectliteValue.parts (.agg #[.pointer (some ⟨7,27,none⟩),.pointer (some a),.int .u64 130])).run Tryz.prog w=.ok (some (27,a,130)) w:=by kernel_rfl
theorem En.directE (w:World):(Rtype.directlyAssignable 27 27).run Tryz.prog w=.ok true w:=by kernel_rfl
theorem En.setE (ta b:Addr) (z:Int) (old:Value) (W:World) (hb:W.cell? b=some (.int .i64 z)) (ht:W.cell? ta=some old) (hf:W.frozen? ta=false) :
  (ReflectliteValue.set #[.agg #[.pointer (some ⟨7,27,none⟩),.pointer (some ta),.int .u64 386],.agg #[.pointer (some ⟨7,27,none⟩),.pointer (some b),.int .u64 130]]).run Tryz.prog W
   = .ok (.tuple #[]) (W.setCell ta (.int .i64 z)):=by
 show Sem.run Tryz.prog (ReflectliteValue.parts (.agg #[.pointer (some ⟨7,27,none⟩),.pointer (some ta),.int .u64 386]) >>= fun p=>ReflectliteValue.parts (.agg #[.pointer (some ⟨7,27,none⟩),.pointer (some b),.int .u64 130]) >>= fun q=>_) W=_
 simp only[Sem.run_bind,En.partsEa,En.partsE,Result.andThen]
 simp[ReflectliteValue.flagAddr,loadVar,isAgg,underlying,Tryz.underlying27,hb,Result.andThen,En.directE,storeVar,Value.cells,storeCells,Addr.add]
 rw[run_store Tryz.prog W ta _ _ (by rfl)]
 simp[ht,hf]
theorem En.as_hit (z:Int) (t:Addr) (old:Value) (w:World) (hg:w.cell? ⟨0,0,none⟩=some (.iface 157 (.agg #[.pointer (some ⟨7,24,none⟩)]))) (ht0:w.cell? t=some old) (hf0:w.frozen? t=false) :
  Calls Tryz.prog 28 #[.iface 27 (.int .i64 z),.iface 80 (.pointer (some t))] w fun ev w'=>ev=.returned (.bool true)∧w'=((((w.alloc (.cells #[.pointer (some t)] 80)).alloc (.cells #[.pointer (some ⟨7,80,none⟩),.pointer (some ⟨w.heap.size,0,none⟩),.int .u64 150] 108)).alloc (.cells #[.pointer (some ⟨7,80,none⟩),.pointer (some ⟨w.heap.size,0,none⟩),.int .u64 150] 108)).alloc (.cells #[.int .i64 z] 27)).setCell t (.int .i64 z):=by
 have h6:=@run_callFunc_extern Tryz.prog 55 _ (fun args=>ReflectliteValue.unpack (args.getD 0 (.tuple #[]))) Tryz.func55 (by kernel_rfl) (by kernel_rfl) (by kernel_rfl) (by kernel_rfl)
 have h7 := @run_callFunc_extern Tryz.prog 56 _ (ReflectliteValue.methodAny (ReflectliteValue.valueError "reflectlite.Value.Type" 0) (fun t _ _ _ => ReflectliteType.toType t)) Tryz.func56 (by kernel_rfl) (by kernel_rfl) (by kernel_rfl) (by kernel_rfl)
 have h8 := @run_callFunc_extern Tryz.prog 57 _ (ReflectliteValue.method (ReflectliteValue.valueError "reflectlite.Value.IsNil" 0) ReflectliteValue.isNil) Tryz.func57 (by kernel_rfl) (by kernel_rfl) (by kernel_rfl) (by kernel_rfl)
 have h27:=@run_callFunc_extern Tryz.prog 390 _ (ReflectliteType.abiMethod fun t=>do pure (.int .u8 (← Rtype.kind t))) Tryz.func390 (by kernel_rfl) (by kernel_rfl) (by kernel_rfl) (by kernel_rfl)
 have h37:=@run_callFunc_extern Tryz.prog 403 _ (ReflectliteType.method ReflectliteType.elem) Tryz.func403 (by kernel_rfl) (by kernel_rfl) (by kernel_rfl) (by kernel_rfl)
 have h38 := @run_callFunc_extern Tryz.prog 404 _ (ReflectliteType.relation "Implements" ReflectliteType.implements_) Tryz.func404 (by kernel_rfl) (by kernel_rfl) (by kernel_rfl) (by kernel_rfl)
 have h10:=@run_callFunc_extern Tryz.prog 97 _ ReflectliteType.typeOf Tryz.func97 (by kernel_rfl) (by kernel_rfl) (by kernel_rfl) (by kernel_rfl)
 have h35 := @run_callFunc_extern Tryz.prog 401 _ (ReflectliteType.relation "AssignableTo" ReflectliteType.assignableTo) Tryz.func401 (by kernel_rfl) (by kernel_rfl) (by kernel_rfl) (by kernel_rfl)
 have h11 := @run_callFunc_extern Tryz.prog 98 _ (ReflectliteValue.method (ReflectliteValue.valueError "reflectlite.Value.Elem" 0) ReflectliteValue.elem) Tryz.func98 (by kernel_rfl) (by kernel_rfl) (by kernel_rfl) (by kernel_rfl)
 have h12:=@run_callFunc_extern Tryz.prog 99 _ ReflectliteValue.set Tryz.func99 (by kernel_rfl) (by kernel_rfl) (by kernel_rfl) (by kernel_rfl)
 have tO:=En.typeOfE
 have mA:=mAssignableTo
 have a25:=En.assignableE
 have v25:=En.valueOfE
 have f6:=En.valueOfP
 have f7:=En.typeP
 have mK:=mKind
 have mE:=mElem
 have mI:=mImplements
 have k27:=En.kindP
 have k25:=En.kindE
 have e27:=En.elemP
 have i25:=En.implementsE
 have n8:=En.isNilP ⟨w.heap.size,0,none⟩ t ((w.alloc (.cells #[.pointer (some t)] 80)).alloc (.cells #[.pointer (some ⟨7,80,none⟩),.pointer (some ⟨w.heap.size,0,none⟩),.int .u64 150] 108)) (by simp)
 have hlt:0<w.heap.size:=by
  rcases Nat.lt_or_ge 0 w.heap.size with h | h
  ·exact h
  ·simp[World.cell?,Array.getElem?_eq_none h] at hg
 have hg2:((w.alloc (.cells #[.pointer (some t)] 80)).alloc (.cells #[.pointer (some ⟨7,80,none⟩),.pointer (some ⟨w.heap.size,0,none⟩),.int .u64 150] 108)).cell? ⟨0,0,none⟩=some (.iface 157 (.agg #[.pointer (some ⟨7,24,none⟩)])):=by
  rw[World.cell?_alloc_lt _ _ ⟨0,0,none⟩ (by simp<;>omega),World.cell?_alloc_lt _ _ ⟨0,0,none⟩ hlt];exact hg
 have htl:t.block<w.heap.size:=by
  rcases Nat.lt_or_ge t.block w.heap.size with h | h
  ·exact h
  ·simp[World.cell?,Array.getElem?_eq_none h] at ht0
 have el:=En.elemVP ⟨w.heap.size,0,none⟩ t (((w.alloc (.cells #[.pointer (some t)] 80)).alloc (.cells #[.pointer (some ⟨7,80,none⟩),.pointer (some ⟨w.heap.size,0,none⟩),.int .u64 150] 108)).alloc (.cells #[.pointer (some ⟨7,80,none⟩),.pointer (some ⟨w.heap.size,0,none⟩),.int .u64 150] 108)) (by rw[World.cell?_alloc_lt _ _ ⟨w.heap.size,0,none⟩ (by simp;omega)];simp)
 have st:=En.setE t ⟨w.heap.size+1+1+1,0,none⟩ z old ((((w.alloc (.cells #[.pointer (some t)] 80)).alloc (.cells #[.pointer (some ⟨7,80,none⟩),.pointer (some ⟨w.heap.size,0,none⟩),.int .u64 150] 108)).alloc (.cells #[.pointer (some ⟨7,80,none⟩),.pointer (some ⟨w.heap.size,0,none⟩),.int .u64 150] 108)).alloc (.cells #[.int .i64 z] 27))
  (by rw[World.cell?_alloc_at _ _ _ _ (by simp)];rfl)
  (by rw[World.cell?_alloc_lt _ _ t (by simp;omega),World.cell?_alloc_lt _ _ t (by simp;omega),World.cell?_alloc_lt _ _ t (by simp;omega),World.cell?_alloc_lt _ _ t htl];exact ht0)
  (by rw[World.frozen?_alloc_old _ _ t (by simp;omega),World.frozen?_alloc_old _ _ t (by simp;omega),World.frozen?_alloc_old _ _ t (by simp;omega),World.frozen?_alloc_old _ _ t (Nat.ne_of_lt htl)];exact hf0)
 go_enter Tryz.func28,Tryz.ntmps28
 go_wp2
 refine wp_loop_rounds 1 ?_
 rw[rounds_succ]
 go_wp2
 go_ret
 exact⟨rfl,rfl⟩
end

end Go.Proofs.YtcniomgjikienaaGreatDoor.Es

namespace Go.Proofs.YtcniomgjikienaaGreatDoor

section
open Go.RowKit
def ErrT (w:World):Prop:=w.cell? ⟨0,0,none⟩=some (.iface 157 (.agg #[.pointer (some ⟨7,24,none⟩)]))
theorem ErrT.lt {w:World} (h:ErrT w):0<w.heap.size:=World.block_lt_of_cell? w _ h
theorem ErrT.low {w u:World} {N:Nat} (h:ErrT w) (hb:Below N w u) (hN:w.heap.size≤N):ErrT u:=(World.cell?_of_block (w:=w) (hb.block _ (Nat.lt_of_lt_of_le h.lt hN))).trans h
theorem ZdN {w u:World} {r:Option Nat} (h:w.grownBy u r) (o:Obj):w.grownBy (u.alloc o) r:=ZdT h (World.grownBy_alloc u o r)
theorem Zav (g b:Nat) (old:Value) (w:World) (hE:ErrT w) (hb:w.heap[b]?=some (.cells #[old] 62)) :
  Calls Tryz.prog 28 #[.iface 62 (.pointer (some ⟨g,0,none⟩)),.iface 75 (.pointer (some ⟨b,0,none⟩))] w fun e w'=>e=.returned (.bool true)∧w'.heap[b]?=some (.cells #[.pointer (some ⟨g,0,none⟩)] 62)∧w.grownBy w' (some b):=by
 refine (Es.Ef.as_hit ⟨g,0,none⟩ ⟨b,0,none⟩ old w hE (by rw[Lib.cell_of_heap hb];rfl) (Lib.frozen_of_heap hb 0)).mono ?_
 rintro e w' ⟨rfl,rfl⟩
 have hl:=(Array.getElem?_eq_some_iff.1 hb).1
 refine⟨rfl,?_,ZdT (ZdN (ZdN (ZdN (World.grownBy_alloc w _ _) _) _) _) (ZdS _ b 0 _)⟩
 refine (heap_setCell_same _ b 0 #[old] _ _ ?_).trans rfl
 rw[Lib.alloc_old _ _ _ (by simp;omega),Lib.alloc_old _ _ _ (by simp;omega),Lib.alloc_old _ _ _ (by simp;omega),Lib.alloc_old _ _ _ hl]
 exact hb
theorem Zmv (z:Int) (b:Nat) (old:Value) (w:World) (hE:ErrT w) (hb:w.heap[b]?=some (.cells #[old] 27)) :
  Calls Tryz.prog 28 #[.iface 27 (.int .i64 z),.iface 80 (.pointer (some ⟨b,0,none⟩))] w fun e w'=>e=.returned (.bool true)∧w'.heap[b]?=some (.cells #[.int .i64 z] 27)∧w.grownBy w' (some b):=by
 refine (Es.En.as_hit z ⟨b,0,none⟩ old w hE (by rw[Lib.cell_of_heap hb];rfl) (Lib.frozen_of_heap hb 0)).mono ?_
 rintro e w' ⟨rfl,rfl⟩
 have hl:=(Array.getElem?_eq_some_iff.1 hb).1
 refine⟨rfl,?_,ZdT (ZdN (ZdN (ZdN (World.grownBy_alloc w _ _) _) _) _) (ZdS _ b 0 _)⟩
 refine (heap_setCell_same _ b 0 #[old] _ _ ?_).trans rfl
 rw[Lib.alloc_old _ _ _ (by simp;omega),Lib.alloc_old _ _ _ (by simp;omega),Lib.alloc_old _ _ _ (by simp;omega),Lib.alloc_old _ _ _ hl]
 exact hb
def fvO (a z:Int):Obj:=.cells #[.int .i64 a,.int .i64 z] 29
theorem Zrm (w:World):Calls Tryz.prog 10 #[.nilIface] w fun e w'=>e=.returned (.agg #[.int .i64 0,.int .i64 0])∧Below w.heap.size w w':=by
 have hb:Below w.heap.size w (w.alloc (fvO 0 0)):=(Below.refl _ w).alloc (Nat.le_refl _) _
 have ha:=heap_alloc_new w (fvO 0 0)
 unfold fvO at hb ha
 go_enter Tryz.func10,Tryz.ntmps10
 go_wp2
 exact bodyPost_ret (v:=.agg #[.int .i64 0,.int .i64 0]) (results_cell_row rfl _ _ w.heap.size 29 #[.int .i64 0,.int .i64 0] (0,0) _ rfl (by first | exact ha | (simp[ha];done)) Tryz.underlying29 rfl (by kernel_rfl)) rfl ⟨rfl,hb⟩
theorem Zrl (g:Nat) (a z:Int) (w:World) (hE:ErrT w) (hg:w.heap[g]?=some (fltO a z)):Calls Tryz.prog 10 #[.iface 62 (.pointer (some ⟨g,0,none⟩))] w fun e w'=>e=.returned (.agg #[.int .i64 a,.int .i64 z])∧Below w.heap.size w w':=by
 have hgl:=(Array.getElem?_eq_some_iff.1 hg).1
 have z1:(w.alloc (fvO 0 0)).heap.size=w.heap.size+1:=by simp
 have z2:((w.alloc (fvO 0 0)).alloc (.cells #[.pointer none] 62)).heap.size=w.heap.size+1+1:=by simp
 have a0:=heap_alloc_new w (fvO 0 0)
 have a1:=heap_alloc_new (w.alloc (fvO 0 0)) (.cells #[.pointer none] 62)
 have a2:=heap_alloc_new ((w.alloc (fvO 0 0)).alloc (.cells #[.pointer none] 62)) (.cells #[.int .i64 0] 27)
 rw[z1] at a1
 rw[z2] at a2
 have hb1:Below w.heap.size w (w.alloc (fvO 0 0)):=(Below.refl _ w).alloc (Nat.le_refl _) _
 have hb2:=hb1.alloc hb1.size (.cells #[.pointer none] 62)
 have hb3:=hb2.alloc hb2.size (.cells #[.int .i64 0] 27)
 have e1:=(Lib.alloc_old _ (.cells #[.int .i64 0] 27) _ (by rw[z2];omega)).trans a1
 have e0:=(Lib.alloc_old _ (.cells #[.int .i64 0] 27) _ (by rw[z2];omega)).trans ((Lib.alloc_old _ (.cells #[.pointer none] 62) _ (by rw[z1];omega)).trans a0)
 have hg3:=(hb3.block g hgl).trans hg
 have hE3:=hE.low hb3 (Nat.le_refl _)
 have hW:((w.alloc (.cells #[.int .i64 0,.int .i64 0] 29)).alloc (.cells #[.pointer none] 62)).alloc (.cells #[.int .i64 0] 27)=((w.alloc (fvO 0 0)).alloc (.cells #[.pointer none] 62)).alloc (.cells #[.int .i64 0] 27):=rfl
 have hEl:0<w.heap.size:=hE.lt
 clear hb1 hb2 a0 a1 z1 z2 hE hg
 go_enter Tryz.func10,Tryz.ntmps10
 go_wp2_with fail
 clear hW
 generalize ((w.alloc (fvO 0 0)).alloc (.cells #[.pointer none] 62)).alloc (.cells #[.int .i64 0] 27)=W at *
 refine (Zav g (w.heap.size+1) (.pointer none) W hE3 e1).mono ?_
 rintro e W1 ⟨rfl,e1',hgr⟩
 have kp:∀ (k:Nat) (x:Obj),k≠w.heap.size+1→W.heap[k]?=some x→W1.heap[k]?=some x:=fun k x hk hx=>(hgr.block k (Array.getElem?_eq_some_iff.1 hx).1 (fun e=>hk (Option.some.inj e))).trans hx
 have i0:=kp _ _ (by omega) e0
 have i2:=kp _ _ (by omega) a2
 have ig:=kp _ _ (by omega) hg3
 have hb4:=hb3.grown hgr hb3.size (fun k e=>by cases e;omega)
 have hE4:ErrT W1:=(World.cell?_of_block (w:=W) (hgr.block _ hE3.lt (fun e=>by have h1:0=w.heap.size+1:=Option.some.inj e;omega))).trans hE3
 have c1:W1.cell? ⟨w.heap.size+1,0,none⟩=some (.pointer (some ⟨g,0,none⟩)):=by rw[Lib.cell_of_heap e1'];rfl
 have cg1:W1.cell? ⟨g,1,none⟩=some (.iface 27 (.int .i64 z)):=by unfold fltO at ig;rw[Lib.cell_of_heap ig];rfl
 clear kp e0 e1 a2 hg3 hb3 hE3 hgr
 go_wp2_with fail
 clear c1 cg1
 refine (Zmv z (w.heap.size+1+1) (.int .i64 0) W1 hE4 i2).mono ?_
 rintro e W2 ⟨rfl,i2',hgr⟩
 have kp:∀ (k:Nat) (x:Obj),k≠w.heap.size+1+1→W1.heap[k]?=some x→W2.heap[k]?=some x:=fun k x hk hx=>(hgr.block k (Array.getElem?_eq_some_iff.1 hx).1 (fun e=>hk (Option.some.inj e))).trans hx
 have j0:=kp _ _ (by omega) i0
 have j1:=kp _ _ (by omega) e1'
 have jg:=kp _ _ (by omega) ig
 have hb5:=hb4.grown hgr hb4.size (fun k e=>by cases e;omega)
 have s0:=heap_setCell_same W2 w.heap.size 0 _ _ (.int .i64 a) j0
 have s1:=heap_setCell_same _ w.heap.size 1 _ _ (.int .i64 z) s0
 have hb6:Below w.heap.size w ((W2.setCell ⟨w.heap.size,0,none⟩ (.int .i64 a)).setCell ⟨w.heap.size,1,none⟩ (.int .i64 z)):=(hb5.setCell (Nat.le_refl _) _).setCell (Nat.le_refl _) _
 have c1:W2.cell? ⟨w.heap.size+1,0,none⟩=some (.pointer (some ⟨g,0,none⟩)):=by rw[Lib.cell_of_heap j1];rfl
 have c2:W2.cell? ⟨w.heap.size+1+1,0,none⟩=some (.int .i64 z):=by rw[Lib.cell_of_heap i2'];rfl
 have cg0:W2.cell? ⟨g,0,none⟩=some (.int .i64 a):=by unfold fltO at jg;rw[Lib.cell_of_heap jg];rfl
 have t0:W2.cell? ⟨w.heap.size,0,none⟩=some (.int .i64 0):=by unfold fvO at j0;rw[Lib.cell_of_heap j0];rfl
 have t1:W2.cell? ⟨w.heap.size,1,none⟩=some (.int .i64 0):=by unfold fvO at j0;rw[Lib.cell_of_heap j0];rfl
 have t2:=Lib.frozen_of_heap j0 0
 have t3:=Lib.frozen_of_heap j0 1
 clear kp i0 e1' ig hb4 hE4 i2 i2' hgr j0 j1 jg hb5 s0
 go_wp2_with fail
 go_region
 have s2:((W2.setCell ⟨w.heap.size,0,none⟩ (.int .i64 a)).setCell ⟨w.heap.size,1,none⟩ (.int .i64 z)).drew.heap[w.heap.size]?=some (.cells #[.int .i64 a,.int .i64 z] 29):=s1
 have hb7:=hb6.drew
 clear s1 hb6 c1 c2 cg0 t0 t1 t2 t3
 generalize ((W2.setCell ⟨w.heap.size,0,none⟩ (.int .i64 a)).setCell ⟨w.heap.size,1,none⟩ (.int .i64 z)).drew=W3 at *
 go_wp2
 exact bodyPost_ret (v:=.agg #[.int .i64 a,.int .i64 z]) (results_cell_row rfl _ _ w.heap.size 29 #[.int .i64 a,.int .i64 z] (0,0) _ rfl s2 Tryz.underlying29 rfl (by kernel_rfl)) rfl ⟨rfl,hb7⟩
end

section
open Go.RowKit
open Ln
theorem ZrQ {L:List (List UInt8)} (hP:Plain L) (k p:Nat):uhkP k p (L.drop p)=match uhZ k L p with
  | .error e=>.error e
  | .ok (h,p1)=>.ok (h,p1,L.drop p1):=by
 unfold uhZ
 cases h:uhkP k p (L.drop p) with
 | error e=>rfl
 | ok z =>
  obtain⟨h0,p1,r⟩:=z
  obtain⟨rfl,_⟩:=Zlh hP h
  rfl
theorem ZrT {L:List (List UInt8)} (hP:Plain L) (x:List UInt8) (f:Nat):∀ k p:Nat,uhsP x f k p (L.drop p)=match gHs uhZ x L f k p with
  | .error e=>.error e
  | .ok (hs,p1)=>.ok (hs,p1,L.drop p1):=by
 induction f with
 | zero=>intro k p;rfl
 | succ f ih =>
  intro k p
  simp only[uhsP,gHs]
  rw[ZrQ hP]
  cases uhZ k L p with
  | error e=>rfl
  | ok z =>
   obtain⟨h,p1⟩:=z
   dsimp only
   have e:pkU x (L.drop p1)=pkG x (L.drop p1):=by cases L.drop p1<;>rfl
   rw[e]
   by_cases h2:pkG x (L.drop p1)=true
   ·rw[if_pos h2,if_pos h2,ih]
    cases gHs uhZ x L f (k+1) p1 with
    | error e=>rfl
    | ok z=>rfl
   ·rw[if_neg h2,if_neg h2]
theorem Zsd {L:List (List UInt8)} (hP:Plain L) (x:List UInt8) (f:Nat):∀ k p:Nat,upsP x f k p (L.drop p)=gPs uhZ x [45,45,45,32] [43,43,43,32] L f k p:=by
 induction f with
 | zero=>intro k p;rfl
 | succ f ih =>
  intro k p
  simp only[upsP,gPs,gPa,nmZ]
  by_cases h0:L.length≤p
  ·rw[if_pos (List.drop_of_length_le h0),if_pos h0]
  ·rw[if_neg (fun q=>h0 (List.drop_eq_nil_iff.1 q)),if_neg h0]
   cases h1:namP [45,45,45,32] p (L.drop p) with
   | error e=>rfl
   | ok z =>
    obtain⟨n1,r1⟩:=z
    obtain⟨rfl,_⟩:=ZgG h1
    dsimp only
    by_cases h2:64≤k
    ·rw[if_pos h2,if_pos h2]
    ·rw[if_neg h2,if_neg h2]
     cases h3:namP [43,43,43,32] (p+1) (L.drop (p+1)) with
     | error e=>rfl
     | ok z =>
      obtain⟨n2,r2⟩:=z
      obtain⟨rfl,_⟩:=ZgG h3
      dsimp only
      rw[ZrT hP x _ 0 (p+1+1)]
      cases gHs uhZ x L ((L.drop (p+1+1)).length+1) 0 (p+1+1) with
      | error e=>rfl
      | ok z =>
       obtain⟨hs,p3⟩:=z
       dsimp only[gIn]
       rw[ih]
       cases gPs uhZ x [45,45,45,32] [43,43,43,32] L f (k+1) p3<;>rfl
theorem ZrW (x t:List UInt8) (hl:¬ 1048576<t.length):unT x t=gPs uhZ x [45,45,45,32] [43,43,43,32] (splitL t) (splitL t).length 0 0:=by
 unfold unT
 rw[if_neg hl]
 have h:=Zsd (Zkx t) x (splitL t).length 0 0
 rw[List.drop_zero] at h
 exact h
theorem ZmK (t:List UInt8) (hl:¬ 1048576<t.length):cxT t=gPs hkZ starsT [42,42,42,32] [45,45,45,32] (splitL t) (splitL t).length 0 0:=by
 unfold cxT
 rw[if_neg hl]
 have h:=ps_g (splitL t).length 0 (splitL t) 0
 rw[List.drop_zero] at h
 exact h
theorem ZrE (X:Except (Nat × Int) (List Pth)):thenPs [] X=X:=by
 cases X<;>rfl
theorem Zqc (t:List UInt8) (w W0:World) (hW0:w.alloc (.cells #[.int .i64 0,.int .i64 0] 29)=W0) (hl:t.length≤1048576) :
  Calls Tryz.prog 60 #[.string ⟨t.toArray⟩] W0 fun e w'=>∃ (R:Nat) (lo:Option Addr) (lc:Nat),e=.returned (.pointer (some ⟨R,0,none⟩))∧Rg w R (splitL t) (.slice lo (splitL t).length lc) (.slice none 0 0) [] (.ok 0) w':=by
 refine (ZpZ t W0 hl).mono ?_
 rintro e w1 ⟨R,lo,lc,rfl,hR,hown,_,hge,hB⟩
 subst hW0
 have hB0:Below w.heap.size w (w.alloc (.cells #[.int .i64 0,.int .i64 0] 29)):=(Below.refl _ w).alloc (Nat.le_refl _) _
 have hn:=heap_alloc_new w (.cells #[.int .i64 0,.int .i64 0] 29)
 have hlt:=(Array.getElem?_eq_some_iff.1 hn).1
 exact⟨R,lo,lc,rfl,⟨hB0.trans (hB.mono hB0.size),Zen _ _ _ _,fun f hf=>by cases hf⟩,(hB.block _ hlt).trans hn,hR,by omega,ZhC hown hB0.size⟩
theorem Zqd (t:List UInt8) (w W0:World) (hW0:w.alloc (.cells #[.int .i64 0,.int .i64 0] 29)=W0) (hl:1048576<t.length) :
  Calls Tryz.prog 60 #[.string ⟨t.toArray⟩] W0 fun e w'=>∃ (R:Nat) (lo:Option Addr) (lc:Nat),e=.returned (.pointer (some ⟨R,0,none⟩))∧Rg w R [] (.slice lo ([]:List (List UInt8)).length lc) (.slice none 0 0) [] (.error (0,9)) w':=by
 refine (Zqa t W0 hl).mono ?_
 rintro e w1 ⟨rfl,hR,hB⟩
 subst hW0
 have hB0:Below w.heap.size w (w.alloc (.cells #[.int .i64 0,.int .i64 0] 29)):=(Below.refl _ w).alloc (Nat.le_refl _) _
 have hn:=heap_alloc_new w (.cells #[.int .i64 0,.int .i64 0] 29)
 have hlt:=(Array.getElem?_eq_some_iff.1 hn).1
 exact⟨_,none,0,rfl,⟨hB0.trans (hB.mono hB0.size),Zen _ _ _ _,fun f hf=>by cases hf⟩,(hB.block _ hlt).trans hn,⟨⟨0,hR⟩,by decide⟩,hlt,Zen _ _ _ _⟩
def okP (X:Except (Nat × Int) (List Pth)):List Pth:=match X with
 | .error _=>[]
 | .ok l=>l
end

section
open Go.RowKit
open Ln
theorem ZpR (t:List UInt8) (w:World) (X:Except (Nat × Int) (List Pth)) (HX:Hid (cxT t=X)) :
  Calls Tryz.prog 34 #[.string ⟨t.toArray⟩] w fun e w'=>RfQ6 w X e w':=by
 have hX:=HX.out
 by_cases hlong:1048576<t.length
 ·have hXe:X=.error (0,9):=(by rw[← hX];unfold cxT;rw[if_pos hlong])
  subst hXe
  exact rParse15S (L:=[]) t w _ rfl (fun s hs=>by cases hs) (by simp) (fun s hs=>by cases hs) (.error (0,9)) 0 _ rfl (Zqd t w _ rfl hlong)
 ·have hb:=Zkz (t:=t) (M:=1048576) (by omega)
  have hn:=split_len t
  refine rParse15S (L:=splitL t) t w _ rfl (Zkx t) (by omega) (fun s hs=>by have:=hb s hs;omega) (.ok 0) (splitL t).length X ?_ (Zqc t w _ rfl (by omega))
  refine⟨?_,Nat.zero_le _,by omega,Nat.le_refl _⟩
  show thenPs [] (gPs hkZ starsT [42,42,42,32] [45,45,45,32] (splitL t) (splitL t).length 0 0)=X
  rw[ZrE,← hX,ZmK t hlong]
end

end Go.Proofs.YtcniomgjikienaaGreatDoor
