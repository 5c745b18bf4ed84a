/-
  Texts that belong together, joined: CrU, PgT, CrP, CrT.
-/
import Derived.Deep.CutBlock
import Derived.Deep.CutRange
import Derived.Test.YtcniomgjikienaaGreatDoorVrA13

set_option maxHeartbeats 16000000
set_option maxRecDepth 100000
namespace Go.Proofs.YtcniomgjikienaaGreatDoor

section
open Go.RowKit
structure Wy (L:List (List UInt8)) (X:Except (Nat × Int) (Hk × Nat)) (at':Nat) (st2:Except (Nat × Int) Nat):Prop where
 bad:∀ e,stP (sdZ 43 L (stP (rgZ 45 L (stP (sdZ 45 L (stP (rgZ 42 L st2)))))))=.error e→X=.error e
 good:∀ p5,stP (sdZ 43 L (stP (rgZ 45 L (stP (sdZ 45 L (stP (rgZ 42 L st2)))))))=.ok p5→∃ q p2 o p3 q2 p4 v,rgZ 42 L st2=.ok (q,p2)∧sdZ 45 L (.ok p2)=.ok (o,p3)∧rgZ 45 L (.ok p3)=.ok (q2,p4)∧sdZ 43 L (.ok p4)=.ok (v,p5)∧X=match finH at' p2 p4 q.1 q.2 q2.1 q2.2 o v with
  | .error e=>.error e
  | .ok h=>.ok (h,p5)
theorem Wy.mk' {L : List (List UInt8)} {X : Except (Nat × Int) (Hk × Nat)} {at' : Nat} {st2 : Except (Nat × Int) Nat} (h : X = match rgZ 42 L st2 with
      | .error e => .error e
      | .ok (q, p2) => match sdZ 45 L (.ok p2) with
        | .error e => .error e
        | .ok (o, p3) => match rgZ 45 L (.ok p3) with
          | .error e => .error e
          | .ok (q2, p4) => match sdZ 43 L (.ok p4) with
            | .error e => .error e
            | .ok (v, p5) => match finH at' p2 p4 q.1 q.2 q2.1 q2.2 o v with
              | .error e => .error e
              | .ok h => .ok (h, p5)) : Wy L X at' st2 := by
  rcases h1 : rgZ 42 L st2 with e | ⟨q, p2⟩
  · rw [h1] at h
    refine ⟨fun e' h2 => ?_, fun p5 h2 => ?_⟩
    · rw [h1] at h2
      simp only [stP, rgZ, sdZ] at h2
      cases h2
      exact h
    · rw [h1] at h2
      simp only [stP, rgZ, sdZ] at h2
      cases h2
  · rw [h1] at h
    dsimp only at h
    rcases h3 : sdZ 45 L (.ok p2) with e | ⟨o, p3⟩
    · rw [h3] at h
      refine ⟨fun e' h2 => ?_, fun p5 h2 => ?_⟩
      · rw [h1] at h2
        simp only [stP] at h2
        rw [h3] at h2
        simp only [rgZ, sdZ] at h2
        cases h2
        exact h
      · rw [h1] at h2
        simp only [stP] at h2
        rw [h3] at h2
        simp only [rgZ, sdZ] at h2
        cases h2
    · rw [h3] at h
      dsimp only at h
      rcases h4 : rgZ 45 L (.ok p3) with e | ⟨q2, p4⟩
      · rw [h4] at h
        refine ⟨fun e' h2 => ?_, fun p5 h2 => ?_⟩
        · rw [h1] at h2
          simp only [stP] at h2
          rw [h3] at h2
          dsimp only at h2
          rw [h4] at h2
          simp only [sdZ] at h2
          cases h2
          exact h
        · rw [h1] at h2
          simp only [stP] at h2
          rw [h3] at h2
          dsimp only at h2
          rw [h4] at h2
          simp only [sdZ] at h2
          cases h2
      · rw [h4] at h
        dsimp only at h
        refine ⟨fun e' h2 => ?_, fun p5 h2 => ?_⟩
        · rw [h1] at h2
          simp only [stP] at h2
          rw [h3] at h2
          dsimp only at h2
          rw [h4] at h2
          dsimp only at h2
          rcases h5 : sdZ 43 L (.ok p4) with e | ⟨v, p5⟩
          · rw [h5] at h h2
            cases h2
            exact h
          · rw [h5] at h2
            cases h2
        · rw [h1] at h2
          simp only [stP] at h2
          rw [h3] at h2
          dsimp only at h2
          rw [h4] at h2
          dsimp only at h2
          rcases h5 : sdZ 43 L (.ok p4) with e | ⟨v, p6⟩
          · rw [h5] at h2
            cases h2
          · rw [h5] at h h2
            cases h2
            exact ⟨q, p2, o, p3, q2, p4, v, h1, h3, h4, h5, h⟩
theorem Zsj {k:Nat} {L:List (List UInt8)} {p:Nat} {X:Except (Nat × Int) (Hk × Nat)} (h:hkZ k L p=X) :
  (∀ e at',nxZ L (.ok p)=.error e→Wy L X at' (.error e))∧(∀ s p1,nxZ L (.ok p)=.ok (s,p1)→Wy L X p1 (stS k s p1)):=by
 rw[ZnD] at h
 refine⟨fun e at' he=>Wy.mk' ?_,fun s p1 he=>Wy.mk' ?_⟩
 ·rw[he] at h
  exact h.symm
 ·rw[he] at h
  exact h.symm
abbrev hxO (A AN B BN:Int) (v:Value):Obj:=.cells #[.int .i64 A,.int .i64 AN,.int .i64 B,.int .i64 BN,v] 45
def Bh (u:World) (b:Nat):Prop:=u.heap[b]?=some (hxO 0 0 0 0 (.slice none 0 0))
theorem ZoN {u u':World} {B:Nat} {e:TypeId} {s:Nat} {v:Value} {n:Nat} {xs:List Value} (h:u.ownsRow B e s v n xs) (hk:∀ k,v.ownBlock=some k→u'.heap[k]?=u.heap[k]?):u'.ownsRow B e s v n xs:=by
 refine⟨h.1,?_⟩
 rcases h.2 with q | ⟨b,cap,cur,rfl,q2,q3,q4⟩
 ·exact .inl q
 ·refine .inr ⟨b,cap,cur,rfl,q2,?_,q4⟩
  rw[hk b rfl]
  exact q3
theorem ZoO {u:World} {B:Nat} {e:TypeId} {s:Nat} {v:Value} {n:Nat} {xs:List Value} (h:u.ownsRow B e s v n xs) {k:Nat} (hk:v.ownBlock=some k):k<u.heap.size:=by
 rcases h.2 with ⟨rfl,_⟩ | ⟨b,cap,cur,rfl,q2,q3,q4⟩
 ·cases hk
 ·cases hk
  exact (Array.getElem?_eq_some_iff.1 q3).1
structure H2 (w:World) (R O V:Nat) (a p n:Int) (vk vl:Value) (o:Sde) (a2 p2 n2:Int) (uk ul:Value) (v:Sde) (u:World):Prop where
 gr:w.grownBy u (some R)
 q:Bh u w.heap.size
 bo:Bp5 u O a p n vk vl
 bv:Bp5 u V a2 p2 n2 uk ul
 o1:u.ownsRow w.heap.size 5 1 vk o.length (kcells o)
 o2:u.ownsRow w.heap.size 9 1 vl o.length (scells (o.map (·.2)))
 v1:u.ownsRow w.heap.size 5 1 uk v.length (kcells v)
 v2:u.ownsRow w.heap.size 9 1 ul v.length (scells (v.map (·.2)))
 r1:R<w.heap.size
 r2:w.heap.size<O
 r3:O<V
theorem H2.low {w u u':World} {R O V:Nat} {a p n:Int} {vk vl:Value} {o:Sde} {a2 p2 n2:Int} {uk ul:Value} {v:Sde} (h:H2 w R O V a p n vk vl o a2 p2 n2 uk ul v u) (hb:Below u.heap.size u u'):H2 w R O V a p n vk vl o a2 p2 n2 uk ul v u' :=
 ⟨ZdT h.gr (ZfO hb _),(hb.block _ (Array.getElem?_eq_some_iff.1 h.q).1).trans h.q,h.bo.low hb,h.bv.low hb,ZhK h.o1 hb,ZhK h.o2 hb,ZhK h.v1 hb,ZhK h.v2 hb,h.r1,h.r2,h.r3⟩
theorem Zeq {u:World} {B B2:Nat} {vk vl:Value} {x:Sde} (hk:u.ownsRow B 5 1 vk x.length (kcells x)) (hl:u.ownsRow B2 9 1 vl x.length (scells (x.map (·.2)))):Hsd u vk vl x:=⟨Zeo hk,by have:=Zeo hl;unfold HS;rw[List.length_map];exact this⟩
theorem H2.ho {w u:World} {R O V:Nat} {a p n:Int} {vk vl:Value} {o:Sde} {a2 p2 n2:Int} {uk ul:Value} {v:Sde} (h:H2 w R O V a p n vk vl o a2 p2 n2 uk ul v u):Hsd u vk vl o:=Zeq h.o1 h.o2
theorem H2.hv {w u:World} {R O V:Nat} {a p n:Int} {vk vl:Value} {o:Sde} {a2 p2 n2:Int} {uk ul:Value} {v:Sde} (h:H2 w R O V a p n vk vl o a2 p2 n2 uk ul v u):Hsd u uk ul v:=Zeq h.v1 h.v2
theorem ZoP {u:World} {B B2:Nat} {vk vl:Value} {ks:List UInt8} {ts:List (List UInt8)} {x:Sde} (hk:u.ownsRow B 5 1 vk ks.length (bcs ks)) (hl:u.ownsRow B2 9 1 vl ts.length (scells ts)) (h1:x.map (·.1)=ks) (h2:x.map (·.2)=ts):u.ownsRow B 5 1 vk x.length (kcells x)∧u.ownsRow B2 9 1 vl x.length (scells (x.map (·.2))):=by
 subst h1 h2
 rw[Zmz,List.length_map] at hk
 rw[List.length_map] at hl
 exact⟨hk,hl⟩
theorem H2.setO {w u:World} {R O V:Nat} {a p n:Int} {vk vl:Value} {o:Sde} {a2 p2 n2:Int} {uk ul:Value} {v:Sde} {vL:Value} {st:Except (Nat × Int) Nat} (h:H2 w R O V a p n vk vl o a2 p2 n2 uk ul v u) (q:RdZ u R vL st) {x:Sde} {nk nl:Value} (hl:u.ownsRow w.heap.size 9 1 nl x.length (scells (x.map (·.2)))) (hk:u.ownsRow w.heap.size 5 1 nk x.length (kcells x)) :
  H2 w R O V a p n nk nl x a2 p2 n2 uk ul v ((u.setCell ⟨O,4,none⟩ nl).setCell ⟨O,3,none⟩ nk)∧RdZ ((u.setCell ⟨O,4,none⟩ nl).setCell ⟨O,3,none⟩ nk) R vL st∧(Bp5 (u.setCell ⟨O,4,none⟩ nl) V a2 p2 n2 uk ul∧Bp5 ((u.setCell ⟨O,4,none⟩ nl).setCell ⟨O,3,none⟩ nk) V a2 p2 n2 uk ul)∧(u.setCell ⟨O,4,none⟩ nl).cell? ⟨O,3,none⟩=some vk∧(u.setCell ⟨O,4,none⟩ nl).frozen? ⟨O,3,none⟩=false:=by
 have h1:=h.r1
 have h2:=h.r2
 have h3:=h.r3
 have s4:Bp5 (u.setCell ⟨O,4,none⟩ nl) O a p n vk nl:=heap_setCell_same u O 4 _ _ nl h.bo
 have s3:Bp5 ((u.setCell ⟨O,4,none⟩ nl).setCell ⟨O,3,none⟩ nk) O a p n nk nl:=heap_setCell_same _ O 3 _ _ nk s4
 have hg1:=ZdS u O 4 nl
 have hg:=ZdT hg1 (ZdS _ O 3 nk)
 have hb:=h.bv.off hg (fun e=>by have:=Option.some.inj e;omega)
 have keepU:∀ {vv:Value} {m:Nat} {xs:List Value},u.ownsRow w.heap.size 5 1 vv m xs→((u.setCell ⟨O,4,none⟩ nl).setCell ⟨O,3,none⟩ nk).ownsRow w.heap.size 5 1 vv m xs:=fun hh=>hh.kept hg (.inr (ZhE hh h.bo (by decide)))
 have keepS:∀ {vv:Value} {m:Nat} {xs:List Value},u.ownsRow w.heap.size 9 1 vv m xs→((u.setCell ⟨O,4,none⟩ nl).setCell ⟨O,3,none⟩ nk).ownsRow w.heap.size 9 1 vv m xs:=fun hh=>hh.kept hg (.inr (ZhE hh h.bo (by decide)))
 exact⟨⟨ZdR (ZdR h.gr (by omega) 4 nl) (by omega) 3 nk,(hg.block _ (Array.getElem?_eq_some_iff.1 h.q).1 (fun e=>by have:=Option.some.inj e;omega)).trans h.q,s3,hb,keepU hk,keepS hl,keepU h.v1,keepS h.v2,h.r1,h.r2,h.r3⟩,q.off hg (fun e=>by have:=Option.some.inj e;omega),⟨h.bv.off hg1 (fun e=>by have:=Option.some.inj e;omega),hb⟩,s4.cells.2.2.2.1,s4.frozen 3⟩
theorem H2.setV {w u:World} {R O V:Nat} {a p n:Int} {vk vl:Value} {o:Sde} {a2 p2 n2:Int} {uk ul:Value} {v:Sde} {vL:Value} {st:Except (Nat × Int) Nat} (h:H2 w R O V a p n vk vl o a2 p2 n2 uk ul v u) (q:RdZ u R vL st) {x:Sde} {nk nl:Value} (hl:u.ownsRow w.heap.size 9 1 nl x.length (scells (x.map (·.2)))) (hk:u.ownsRow w.heap.size 5 1 nk x.length (kcells x)) :
  H2 w R O V a p n vk vl o a2 p2 n2 nk nl x ((u.setCell ⟨V,4,none⟩ nl).setCell ⟨V,3,none⟩ nk)∧RdZ ((u.setCell ⟨V,4,none⟩ nl).setCell ⟨V,3,none⟩ nk) R vL st∧(Bp5 (u.setCell ⟨V,4,none⟩ nl) O a p n vk vl∧Bp5 ((u.setCell ⟨V,4,none⟩ nl).setCell ⟨V,3,none⟩ nk) O a p n vk vl)∧(u.setCell ⟨V,4,none⟩ nl).cell? ⟨V,3,none⟩=some uk∧(u.setCell ⟨V,4,none⟩ nl).frozen? ⟨V,3,none⟩=false:=by
 have h1:=h.r1
 have h2:=h.r2
 have h3:=h.r3
 have s4:Bp5 (u.setCell ⟨V,4,none⟩ nl) V a2 p2 n2 uk nl:=heap_setCell_same u V 4 _ _ nl h.bv
 have s3:Bp5 ((u.setCell ⟨V,4,none⟩ nl).setCell ⟨V,3,none⟩ nk) V a2 p2 n2 nk nl:=heap_setCell_same _ V 3 _ _ nk s4
 have hg1:=ZdS u V 4 nl
 have hg:=ZdT hg1 (ZdS _ V 3 nk)
 have hb:=h.bo.off hg (fun e=>by have:=Option.some.inj e;omega)
 have keepU:∀ {vv:Value} {m:Nat} {xs:List Value},u.ownsRow w.heap.size 5 1 vv m xs→((u.setCell ⟨V,4,none⟩ nl).setCell ⟨V,3,none⟩ nk).ownsRow w.heap.size 5 1 vv m xs:=fun hh=>hh.kept hg (.inr (ZhE hh h.bv (by decide)))
 have keepS:∀ {vv:Value} {m:Nat} {xs:List Value},u.ownsRow w.heap.size 9 1 vv m xs→((u.setCell ⟨V,4,none⟩ nl).setCell ⟨V,3,none⟩ nk).ownsRow w.heap.size 9 1 vv m xs:=fun hh=>hh.kept hg (.inr (ZhE hh h.bv (by decide)))
 exact⟨⟨ZdR (ZdR h.gr (by omega) 4 nl) (by omega) 3 nk,(hg.block _ (Array.getElem?_eq_some_iff.1 h.q).1 (fun e=>by have:=Option.some.inj e;omega)).trans h.q,hb,s3,keepU h.o1,keepS h.o2,keepU hk,keepS hl,h.r1,h.r2,h.r3⟩,q.off hg (fun e=>by have:=Option.some.inj e;omega),⟨h.bo.off hg1 (fun e=>by have:=Option.some.inj e;omega),hb⟩,s4.cells.2.2.2.1,s4.frozen 3⟩
theorem H2.rd {w u u':World} {R O V:Nat} {a p n:Int} {vk vl:Value} {o:Sde} {a2 p2 n2:Int} {uk ul:Value} {v:Sde} (h:H2 w R O V a p n vk vl o a2 p2 n2 uk ul v u) (hg:u.grownBy u' (some R)):H2 w R O V a p n vk vl o a2 p2 n2 uk ul v u':=by
 have h1:=h.r1
 have h2:=h.r2
 have h3:=h.r3
 exact⟨ZdT h.gr hg,(hg.block _ (Array.getElem?_eq_some_iff.1 h.q).1 (fun e=>by have:=Option.some.inj e;omega)).trans h.q,h.bo.off hg (fun e=>by have:=Option.some.inj e;omega),h.bv.off hg (fun e=>by have:=Option.some.inj e;omega),ZhI h.o1 hg h1,ZhI h.o2 hg h1,ZhI h.v1 hg h1,ZhI h.v2 hg h1,h.r1,h.r2,h.r3⟩
theorem Zqu {sg:UInt8} (ls:List (List UInt8)):∀ {p p1:Nat} {r:List (List UInt8)} {x:Sde},rdS sg p ls=.ok (x,p1,r)→x.length≤ls.length:=by
 induction ls with
 | nil =>
  intro p p1 r x h
  simp only[rdS] at h
  cases h
  exact Nat.le_refl _
 | cons s ls ih =>
  intro p p1 r x h
  simp only[rdS] at h
  split at h
  ·split at h
   ·split at h
    ·cases h
     simp
    ·split at h
     ·cases h
     ·rename_i hr
      have:=ih hr
      cases h
      simp only[List.length_cons]
      omega
   ·cases h
  ·cases h
   exact Nat.zero_le _
theorem Zrj {sg:UInt8} {L:List (List UInt8)} {st:Except (Nat × Int) Nat} {x:Sde} {p1:Nat} (h:sdZ sg L st=.ok (x,p1)):x.length≤L.length:=by
 cases st with
 | error e=>cases h
 | ok p =>
  unfold sdZ at h
  dsimp only at h
  cases h1:rdS sg p (L.drop p) with
  | error e=>rw[h1] at h;cases h
  | ok z =>
   obtain⟨y,p2,r⟩:=z
   rw[h1] at h
   cases h
   have:=Zqu _ h1
   rw[List.length_drop] at this
   omega
theorem Zog (x:Sde):(keptS x).length≤x.length:=List.length_filter_le _ _
def hkE (F:Except (Nat × Int) Hk) (p5:Nat):Except (Nat × Int) (Hk × Nat):=match F with
 | .error e=>.error e
 | .ok h=>.ok (h,p5)
def stF (X:Except (Nat × Int) Hk) (p5:Nat):Except (Nat × Int) Nat:=match X with
 | .error e=>.error e
 | .ok _=>.ok p5
def HkS (R:Nat) (vL:Value) (X:Except (Nat × Int) (Hk × Nat)) (h:Hk) (w':World):Prop :=
 match X with
 | .error e=>RdZ w' R vL (.error e)
 | .ok (h1,p1)=>h=h1∧RdZ w' R vL (.ok p1)
theorem RgR.st {R:Nat} {vL:Value} {Z:Except (Nat × Int) ((Int × Int) × Nat)} {a p n:Int} {w':World} (h:RgR R vL Z a p n w'):RdZ w' R vL (stP Z):=by
 rcases Z with e | ⟨q,p1⟩
 ·exact h
 ·exact h.2.2.2
theorem LnQ5.st {R:Nat} {vL:Value} {Z:Except (Nat × Int) (Sde × Nat)} {x:Sde} {w':World} (h:LnQ5 R vL Z x w'):RdZ w' R vL (stP Z):=by
 rcases Z with e | ⟨q,p1⟩
 ·exact h
 ·exact h.2
end

section
open Go.RowKit Go.Proofs.YtcniomgjikienaaGreatDoor.Tx
def zN (L:List (List UInt8)):Except (Nat × Int) Nat→Nat
 | .error _=>0
 | .ok p=>L.length-p+1
def zW (L:List (List UInt8)) (u:World) (R:Nat):Nat:=match u.cell? ⟨R,3,none⟩,u.cell? ⟨R,1,none⟩ with
 | some (.int _ z),some (.int _ p)=>if z=0 then L.length-p.toNat+1 else 0
 | _,_=>0
theorem Zsk {L:List (List UInt8)} {u:World} {R:Nat} {vL:Value} {st:Except (Nat × Int) Nat} (h:RdZ u R vL st):zW L u R=zN L st:=by
 match st,h with
 | .ok p,h =>
  obtain⟨_,c1,_,c3⟩:=Rx.cells h
  unfold zW
  rw[c3,c1]
  simp[zN]
 | .error (a,z),⟨⟨p,h⟩,hz⟩ =>
  obtain⟨_,c1,_,c3⟩:=Rx.cells h
  unfold zW
  rw[c3,c1]
  simp[zN,hz]
theorem Znj {G:HkF} {x:List UInt8} {L:List (List UInt8)} (hG:GOk G L) (f:Nat):∀ (f' k p:Nat),p≤L.length→L.length<f+p→L.length<f'+p→gHs G x L f k p=gHs G x L f' k p:=by
 induction f with
 | zero=>intro f' k p h1 h2;omega
 | succ f ih =>
  intro f' k p h1 h2 h3
  obtain⟨f2,rfl⟩:∃ n,f'=n+1:=⟨f'-1,by omega⟩
  simp only[gHs]
  cases h:G k L p with
  | error e=>rfl
  | ok z =>
   obtain⟨y,p1⟩:=z
   have h4:=hG _ _ _ _ h
   dsimp only
   rw[ih f2 (k+1) p1 h4.2 (by omega) (by omega)]
theorem Znz {wb u v:World} {R:Nat} (hg:wb.grownBy u (some R)) (hv:∀ k,k<u.heap.size→k≠R→v.heap[k]?=u.heap[k]?):∀ k,k<wb.heap.size→k≠R→v.heap[k]?=wb.heap[k]?:=fun k h1 h2=>(hv k (Nat.lt_of_lt_of_le h1 hg.size) h2).trans (hg.block k h1 (fun e=>h2 (Option.some.inj e)))
theorem ZmC {wb u:World} {R:Nat} (hg:wb.grownBy u (some R)):∀ k,k<wb.heap.size→k≠R→u.heap[k]?=wb.heap[k]?:=fun k h1 h2=>hg.block k h1 (fun e=>h2 (Option.some.inj e))
theorem Rg.linesB {w u:World} {R:Nat} {L:List (List UInt8)} {vL ov:Value} {F:List Pfd} {st:Except (Nat × Int) Nat} (h:Rg w R L vL ov F st u) {v:World} (hv:∀ k,k<u.heap.size→k≠R→v.heap[k]?=u.heap[k]?):HS v vL L:=by
 obtain⟨cs,hb⟩:=h.rd.blk
 refine Zeo (ZoN h.ln fun k hk=>hv k (ZoO h.ln hk) fun e=>?_)
 subst e
 exact ZhE h.ln hb (by decide) hk
theorem ZoJ {L:List (List UInt8)} (hs:∀ s∈L,s.length≤1099511627776) {st:Except (Nat × Int) Nat} {s:List UInt8} {p1:Nat} (h:nxZ L st=.ok (s,p1)):s.length≤1099511627776∧p1≤L.length:=by
 cases st with
 | error x=>cases h
 | ok p =>
  unfold nxZ at h
  dsimp only at h
  by_cases hp:p<L.length
  ·rw[Zhm hp] at h
   have h2:=hs L[p] (List.getElem_mem hp)
   split at h
   ·rename_i h3
    split at h3
    ·cases h3
    ·cases h3
     cases h
   ·rename_i h3
    split at h3
    ·cases h3
     cases h
     rw[List.length_dropLast]
     omega
    ·cases h3
  ·rw[Zhn (by omega)] at h
   cases h
end

section
open Go.RowKit
attribute [local go_sem] ByteArray.extract_mk Zhc
theorem Znf {s:List UInt8} (h:fdB s=true):s.dropLast++[10]=s:=by
 have hn:s≠[]:=by rintro rfl;cases h
 have h2:=List.dropLast_concat_getLast hn
 have h3:s.getLast hn=10:=by
  have h4:s.getLast?=some (s.getLast hn):=List.getLast?_eq_some_getLast hn
  simp only[fdB,h4] at h
  simpa using h
 rw[h3] at h2
 exact h2
theorem Zqt {u:World} {R:Nat} {vL:Value} {p:Nat} (h:RdZ u R vL (.ok (p+1))):RdZ (u.setCell ⟨R,1,none⟩ (.int .i64 ((p:Int)+1+1))) R vL (.ok (p+2)):=by
 show Rx _ _ _ _ _ _
 have e:((p+2:Nat):Int)=(p:Int)+1+1:=by omega
 rw[e]
 exact Rx.at h _
theorem Zpb {R X:Nat} {L:List (List UInt8)} {lo:Option Addr} {lc:Nat} {p0:Nat} (sg:UInt8) (a p n:Int) (w:World) (q:RdZ w R (.slice lo L.length lc) (.ok p0)) (bx:Bp5 w X a p n (.slice none 0 0) (.slice none 0 0)) (hXR:X≠R) (HL:Hid (∀ u:World,(∀ k,k<w.heap.size→k≠R→k≠X→u.heap[k]?=w.heap[k]?)→HS u (.slice lo L.length lc) L)) (hR:∀ a,lo=some a→a.block≠R) (hp0:p0≤L.length) (hLl:L.length≤1099511627776) (hs:∀ s∈L,s.length≤1099511627776)
  (Z:Except (Nat × Int) (Sde × Nat)) (HZ:Hid (sdZ sg L (.ok p0)=Z)) :
  Calls Tryz.prog 106 #[.pointer (some ⟨X,0,none⟩),.pointer (some ⟨R,0,none⟩),.string ⟨#[sg,32]⟩] w fun e w'=>e=.returned (.tuple #[])∧∃ vk vl ks ts x,Lx w R X a p n vk vl ks ts w'∧(x.map (·.1)=ks∧x.map (·.2)=ts)∧LnQ5 R (.slice lo L.length lc) Z x w':=by
 have hRw:=q.lt
 have hx0:Lx w R X a p n (.slice none 0 0) (.slice none 0 0) [] [] w:=Lx.start bx
 have HI0:Hid (thenS [] (sdZ sg L (.ok p0))=Z):=(by show _=_;rw[ZrG];exact HZ.out)
 clear HZ bx
 go_enter Tryz.func106,Tryz.ntmps106
 go_wp2
 go_loopw [6] (fun _ wr=>∃ vk vl ks ts x p',Lx w R X a p n vk vl ks ts wr∧RdZ wr R (.slice lo L.length lc) (.ok p')∧p'≤L.length∧ks.length≤p'∧Hid (x.map (·.1)=ks∧x.map (·.2)=ts)∧Hid (thenS x (sdZ sg L (.ok p'))=Z)) (fun _ wr=>L.length-rzN wr R)
 case atStart=>exact⟨_,_,[],[],[],p0,hx0,q,hp0,Nat.zero_le _,⟨rfl,rfl⟩,HI0⟩
 case round =>
 obtain⟨vk,vl,ks,ts,x,p',hx,hq,hp',hkp,HX,HI⟩:=hrel
 have HK:Hid (rzN wr R=p'):=Zrg hq
 have hlen:ts.length=ks.length:=(by rw[← HX.out.1,← HX.out.2,List.length_map,List.length_map])
 obtain⟨ko,kc,rfl⟩:=(Zeo hx.ok).form
 obtain⟨tq,tc,rfl⟩:=(Zeo hx.ol).form
 have hkb:ks.length+1≤4398046511104:=by omega
 have htb:ts.length+1≤4398046511104:=by omega
 have hI:=HI.out
 clear hx0 HI0 q HI hlen
 by_cases hsd:∃ hlt:p'<L.length,isSd sg L[p']=true
 ·obtain⟨hlt,hsd⟩:=hsd
  have hpk:∀ l:List UInt8,pkZ l L (.ok p')=l.isPrefixOf L[p']:=fun l=>(by
   unfold pkZ
   dsimp only
   rw[List.drop_eq_getElem_cons hlt]
   rfl)
  have hor:=hsd
  rw[ZoU] at hor
  cases b1:([32,32]:List UInt8).isPrefixOf L[p'] with
  | true =>
   have e1:=(hpk [32,32]).trans b1
   clear hor b1
   go_wp2_with fail
   refine (Znt [32,32] wr hq (HL.out wr hx.block) hs (by show 2≤_;decide) true (show Hid _ from e1)).mono ?_
   rintro y1 v1 ⟨rfl,m1,rfl⟩
   have hxp1:=hx.low (below_drewN (Below.refl _ _) m1)
   have hqp1:=hq.dN m1
   generalize wr.drewN m1=vv1 at hxp1 hqp1 ⊢
   have hx:=hxp1
   have hq:=hqp1
   clear hxp1 hqp1
   generalize vv1=u at hx hq ⊢
   go_wp2_with fail
   by_cases hfd:fdB L[p']=true
   ·obtain⟨a0,b0,c0,t0,hsf,hfc⟩:=ZjZ hsd hfd
    have hY:nxZ L (.ok p')=.ok (a0::b0::(c0::t0).dropLast,p'+1):=(by
     unfold nxZ
     dsimp only
     rw[Zhm hlt,if_pos hfd]
     dsimp only
     rw[hsf]
     rfl)
    rw[Zrh hlt hsd,if_pos hfd,hsf] at hI
    have hdl:((c0::t0).dropLast).length=t0.length:=(by rw[List.length_dropLast,List.length_cons];omega)
    have hdr:(c0::t0).dropLast++[10]=c0::t0:=Znf hfc
    have hsl2:t0.length≤1099511627776:=(by have h:=hs L[p'] (List.getElem_mem hlt);rw[hsf] at h;simp at h;omega)
    refine (Znp u hq (HL.out u hx.block) hR (fun p e=>by cases e;omega) hs _ hY).mono ?_
    rintro e1 w1 ⟨⟨rfl,q1⟩,g1⟩
    have hx1:=hx.call g1 hRw hXR
    have c3:=q1.fe
    unfold feS at c3
    dsimp only at c3
    generalize (c0::t0).dropLast=d at *
    clear hq hx g1 hY hsf hfd hfc
    have i1:(0:Int)<(d.length:Int)+1+1:=by omega
    have HDL:Hid (d.length=t0.length):=hdl
    have HDR:Hid (d++[10]=c0::t0):=hdr
    clear hdl hdr
    have hA8:=hx1.low ((Below.refl _ w1).alloc (Nat.le_refl _) (.cells #[.int .u8 (a0.toNat:Int)] 5))
    have hB8:=hA8.low (Below.drew (Below.refl _ _))
    have qA8:=(q1.low ((Below.refl _ w1).alloc (Nat.le_refl _) (.cells #[.int .u8 (a0.toNat:Int)] 5))).low (Below.drew (Below.refl _ _))
    obtain⟨_,_,_,k38,k48⟩:=hx1.box.cells
    obtain⟨_,_,_,k3a8,k4a8⟩:=hA8.box.cells
    obtain⟨_,_,_,k3b8,k4b8⟩:=hB8.box.cells
    have hrow8:Holds ((w1.alloc (.cells #[.int .u8 (a0.toNat:Int)] 5)).drew) (.slice (some ⟨w1.heap.size,0,none⟩) 1 1) 1 [.int .u8 (a0.toNat:Int)]:=ZgR w1 #[.int .u8 (a0.toNat:Int)] 5 1 1 (by decide)
    have hown8:=hB8.ok
    have hbase8:=hB8.size
    go_wp2_with fail
    go_region_law (refine ZkD _ rfl (.tmp 30) (.tmp 33) 83 5 (.int .u8 0) 1 1 rfl Tryz.underlying83 infoU8C rfl (by decide) (by decide) w.heap.size _ _ _ rfl hown8 _ 1 [.int .u8 (a0.toNat:Int)] rfl hrow8 rfl (by intro u hu;simp at hu;subst hu;rfl) hkb hbase8 ?_;intro v8 u8 ho8 hg8;obtain⟨hx8,hb8,hr8⟩:=hB8.moreK hg8 ho8;have kc8:=hb8.cells;obtain⟨_,_,_,kc38,kc48⟩:=kc8;have kf8:=hb8.frozen 3;obtain⟨o8,c8,rfl⟩:=(Zeo ho8).form)
    all_goals (
     have q9:=hr8 hRw hXR qA8
     generalize u8.setCell ⟨X,3,none⟩ (.slice o8 (ks.length+1) c8)=u9 at hx8 q9 ⊢
     clear hA8 hB8 qA8 k38 k48 k3a8 k4a8 k3b8 k4b8 hrow8 hown8 hbase8 ho8 hg8 hb8 hr8 kc38 kc48 kf8 hx1 q1 c3
     obtain⟨mk,hmk⟩:∃ mk,pkM (L.drop (p'+1))=mk:=⟨_,rfl⟩
     have HMk:Hid (pkZ markT L (.ok (p'+1))=mk):=(by show pkG markT _=_;rw[← hmk];cases L.drop (p'+1)<;>rfl)
     rw[hmk] at hI
     go_wp2_with fail
     refine (Znt markT u9 q9 (HL.out u9 hx8.block) hs (by decide) mk HMk).mono ?_
     rintro y9 v9 ⟨rfl,m9,rfl⟩
     have hx10:=hx8.low (below_drewN (Below.refl _ _) m9)
     have q10:=q9.dN m9
     generalize u9.drewN m9=u10 at hx10 q10 ⊢
     clear hx8 q9 HMk hmk
     by_cases hm:mk=true∧3<(a0::b0::c0::t0).length
     ·rw[if_pos hm] at hI
      obtain⟨rfl,hm3⟩:=hm
      have i2:(0:Int)<(d.length:Int):=(by have:=HDL.out;simp at hm3;omega)
      have i3:(2:Int)<(d.length:Int)+1+1:=by omega
      have i4:(2:Int)≤(d.length:Int)+1+1:=by omega
      obtain⟨_,d1,_,_⟩:=Rx.cells q10
      have f1:=Rx.frozen q10 1
      have q11:RdZ (u10.setCell ⟨R,1,none⟩ (.int .i64 ((p':Int)+1+1))) R (.slice lo L.length lc) (.ok (p'+2)):=Zqt q10
      have g11:=ZdS u10 R 1 (.int .i64 ((p':Int)+1+1))
      have hx11:=hx10.call g11 hRw hXR
      clear hx10 q10 g11
      go_upto_region 6 with fail
      generalize u10.setCell ⟨R,1,none⟩ (.int .i64 ((p':Int)+1+1))=u11 at q11 hx11 ⊢
      have hA13:=hx11.low ((Below.refl _ u11).alloc (Nat.le_refl _) (.cells #[.string ⟨d.toArray⟩] 9))
      have hB13:=hA13.low (Below.drew (Below.refl _ _))
      have qA13:=(q11.low ((Below.refl _ u11).alloc (Nat.le_refl _) (.cells #[.string ⟨d.toArray⟩] 9))).low (Below.drew (Below.refl _ _))
      obtain⟨_,_,_,k313,k413⟩:=hx11.box.cells
      obtain⟨_,_,_,k3a13,k4a13⟩:=hA13.box.cells
      obtain⟨_,_,_,k3b13,k4b13⟩:=hB13.box.cells
      have hrow13:Holds ((u11.alloc (.cells #[.string ⟨d.toArray⟩] 9)).drew) (.slice (some ⟨u11.heap.size,0,none⟩) 1 1) 1 [.string ⟨d.toArray⟩]:=ZgR u11 #[.string ⟨d.toArray⟩] 9 1 1 (by decide)
      have hown13:=hB13.ol
      have hbase13:=hB13.size
      go_wp2_with fail
      go_region_law (refine ZkD _ rfl (.tmp 55) (.tmp 58) 49 9 (.string ⟨#[]⟩) 1 16 rfl Tryz.underlying49 infoStr rfl (by decide) (by decide) w.heap.size _ _ _ rfl hown13 _ 1 [.string ⟨d.toArray⟩] rfl hrow13 rfl (by intro u hu;simp at hu;subst hu;rfl) htb hbase13 ?_;intro v13 u13 ho13 hg13;obtain⟨hx13,hb13,hr13⟩:=hB13.moreL hg13 ho13;have kc13:=hb13.cells;obtain⟨_,_,_,kc313,kc413⟩:=kc13;have kf13:=hb13.frozen 4;obtain⟨o13,c13,rfl⟩:=(Zeo ho13).form)
      all_goals (
       have q13:=hr13 hRw hXR qA13
       have hdd:(List.drop 2 (a0::b0::c0::t0)).dropLast=d:=(by show (c0::t0).dropLast=d;rw[← HDR.out];exact List.dropLast_concat)
       subst hI
       go_wp2;refine bodyPost_ret (results_none rfl _ _ _) rfl ?_;exact⟨rfl,_,_,_,_,x++[(a0,d)],hx13,⟨by rw[List.map_append,HX.out.1];rfl,by rw[List.map_append,HX.out.2];rfl⟩,by rw[hdd];rfl,q13⟩)
     ·rw[if_neg hm] at hI
      have HI2:Hid (thenS (x++[(a0,c0::t0)]) (sdZ sg L (.ok (p'+1)))=Z):=hI
      have i4:(2:Int)≤(d.length:Int)+1+1:=by omega
      have i5:¬ 9223372036854775807<d.length+1:=(by have:=HDL.out;omega)
      have eb:=Zmw d [10]
      rw[HDR.out] at eb
      have hx11:=hx10
      have q11:=q10
      clear hx10 q10 hI
      cases mk with
      | true =>
       have i2:d=[]:=(by
        have h1:=HDL.out
        simp only[true_and,List.length_cons] at hm
        exact List.eq_nil_of_length_eq_zero (by omega))
       subst i2
       clear hm eb
       obtain⟨rfl,rfl⟩:c0=10∧t0=[]:=(by have h:=HDR.out.symm;simpa using h)
       have hA13:=hx11.low ((Below.refl _ u10).alloc (Nat.le_refl _) (.cells #[.string ⟨#[10]⟩] 9))
       have hB13:=hA13.low (Below.drew (Below.refl _ _))
       have qA13:=(q11.low ((Below.refl _ u10).alloc (Nat.le_refl _) (.cells #[.string ⟨#[10]⟩] 9))).low (Below.drew (Below.refl _ _))
       obtain⟨_,_,_,k313,k413⟩:=hx11.box.cells
       obtain⟨_,_,_,k3a13,k4a13⟩:=hA13.box.cells
       obtain⟨_,_,_,k3b13,k4b13⟩:=hB13.box.cells
       have hrow13:Holds ((u10.alloc (.cells #[.string ⟨#[10]⟩] 9)).drew) (.slice (some ⟨u10.heap.size,0,none⟩) 1 1) 1 [.string ⟨#[10]⟩]:=ZgR u10 #[.string ⟨#[10]⟩] 9 1 1 (by decide)
       have hown13:=hB13.ol
       have hbase13:=hB13.size
       go_wp2_with fail
       go_region_law (refine ZkD _ rfl (.tmp 66) (.tmp 70) 49 9 (.string ⟨#[]⟩) 1 16 rfl Tryz.underlying49 infoStr rfl (by decide) (by decide) w.heap.size _ _ _ rfl hown13 _ 1 [.string ⟨#[10]⟩] rfl hrow13 rfl (by intro u hu;simp at hu;subst hu;rfl) htb hbase13 ?_;intro v13 u13 ho13 hg13;obtain⟨hx13,hb13,hr13⟩:=hB13.moreL hg13 ho13;have kc13:=hb13.cells;obtain⟨_,_,_,kc313,kc413⟩:=kc13;have kf13:=hb13.frozen 4;obtain⟨o13,c13,rfl⟩:=(Zeo ho13).form)
       all_goals (
        have q13:=hr13 hRw hXR qA13
        go_wp2
        exact⟨⟨_,_,_,_,x++[(a0,[10])],p'+1,hx13,q13,by omega,by rw[List.length_append];simp;omega,⟨by rw[List.map_append,HX.out.1];rfl,by rw[List.map_append,HX.out.2];rfl⟩,HI2⟩,by rw[Zrg q13,HK.out];omega⟩)
      | false =>
       clear hm
       have hA13:=hx11.low ((Below.refl _ u10).alloc (Nat.le_refl _) (.cells #[.string ⟨(c0::t0).toArray⟩] 9))
       have hB13:=hA13.low (Below.drew (Below.refl _ _))
       have qA13:=(q11.low ((Below.refl _ u10).alloc (Nat.le_refl _) (.cells #[.string ⟨(c0::t0).toArray⟩] 9))).low (Below.drew (Below.refl _ _))
       obtain⟨_,_,_,k313,k413⟩:=hx11.box.cells
       obtain⟨_,_,_,k3a13,k4a13⟩:=hA13.box.cells
       obtain⟨_,_,_,k3b13,k4b13⟩:=hB13.box.cells
       have hrow13:Holds ((u10.alloc (.cells #[.string ⟨(c0::t0).toArray⟩] 9)).drew) (.slice (some ⟨u10.heap.size,0,none⟩) 1 1) 1 [.string ⟨(c0::t0).toArray⟩]:=ZgR u10 #[.string ⟨(c0::t0).toArray⟩] 9 1 1 (by decide)
       have hown13:=hB13.ol
       have hbase13:=hB13.size
       go_wp2_with fail
       go_region_law (refine ZkD _ rfl (.tmp 66) (.tmp 70) 49 9 (.string ⟨#[]⟩) 1 16 rfl Tryz.underlying49 infoStr rfl (by decide) (by decide) w.heap.size _ _ _ rfl hown13 _ 1 [.string ⟨(c0::t0).toArray⟩] rfl hrow13 rfl (by intro u hu;simp at hu;subst hu;rfl) htb hbase13 ?_;intro v13 u13 ho13 hg13;obtain⟨hx13,hb13,hr13⟩:=hB13.moreL hg13 ho13;have kc13:=hb13.cells;obtain⟨_,_,_,kc313,kc413⟩:=kc13;have kf13:=hb13.frozen 4;obtain⟨o13,c13,rfl⟩:=(Zeo ho13).form)
       all_goals (
        have q13:=hr13 hRw hXR qA13
        go_wp2
        exact⟨⟨_,_,_,_,x++[(a0,c0::t0)],p'+1,hx13,q13,by omega,by rw[List.length_append];simp;omega,⟨by rw[List.map_append,HX.out.1];rfl,by rw[List.map_append,HX.out.2];rfl⟩,HI2⟩,by rw[Zrg q13,HK.out];omega⟩))
   ·have hY:nxZ L (.ok p')=.error (p'+1,3):=(by
     unfold nxZ
     dsimp only
     rw[Zhm hlt,if_neg hfd])
    rw[Zrh hlt hsd,if_neg hfd] at hI
    subst hI
    refine (Znp u hq (HL.out u hx.block) hR (fun p e=>by cases e;omega) hs _ hY).mono ?_
    rintro e1 w1 ⟨⟨rfl,q1⟩,g1⟩
    have hx1:=hx.call g1 hRw hXR
    have c3:=q1.fe
    unfold feS at c3
    dsimp only at c3
    clear hq hx g1 hY
    go_wp2
    refine bodyPost_ret (results_none rfl _ _ _) rfl ?_
    exact⟨rfl,_,_,ks,ts,x,hx1,HX.out,q1⟩
  | false =>
  cases b2:([sg,32]:List UInt8).isPrefixOf L[p'] with
  | true =>
   have e1:=(hpk [32,32]).trans b1
   have e2:=(hpk [sg,32]).trans b2
   clear hor b1 b2
   go_wp2_with fail
   refine (Znt [32,32] wr hq (HL.out wr hx.block) hs (by show 2≤_;decide) false (show Hid _ from e1)).mono ?_
   rintro y1 v1 ⟨rfl,m1,rfl⟩
   have hxp1:=hx.low (below_drewN (Below.refl _ _) m1)
   have hqp1:=hq.dN m1
   generalize wr.drewN m1=vv1 at hxp1 hqp1 ⊢
   clear hx hq
   go_wp2_with fail
   refine (Znt [sg,32] vv1 hqp1 (HL.out vv1 hxp1.block) hs (by show 2≤_;decide) true (show Hid _ from e2)).mono ?_
   rintro y2 v2 ⟨rfl,m2,rfl⟩
   have hxp2:=hxp1.low (below_drewN (Below.refl _ _) m2)
   have hqp2:=hqp1.dN m2
   generalize vv1.drewN m2=vv2 at hxp2 hqp2 ⊢
   clear hxp1 hqp1
   have hx:=hxp2
   have hq:=hqp2
   clear hxp2 hqp2
   generalize vv2=u at hx hq ⊢
   go_wp2_with fail
   by_cases hfd:fdB L[p']=true
   ·obtain⟨a0,b0,c0,t0,hsf,hfc⟩:=ZjZ hsd hfd
    have hY:nxZ L (.ok p')=.ok (a0::b0::(c0::t0).dropLast,p'+1):=(by
     unfold nxZ
     dsimp only
     rw[Zhm hlt,if_pos hfd]
     dsimp only
     rw[hsf]
     rfl)
    rw[Zrh hlt hsd,if_pos hfd,hsf] at hI
    have hdl:((c0::t0).dropLast).length=t0.length:=(by rw[List.length_dropLast,List.length_cons];omega)
    have hdr:(c0::t0).dropLast++[10]=c0::t0:=Znf hfc
    have hsl2:t0.length≤1099511627776:=(by have h:=hs L[p'] (List.getElem_mem hlt);rw[hsf] at h;simp at h;omega)
    refine (Znp u hq (HL.out u hx.block) hR (fun p e=>by cases e;omega) hs _ hY).mono ?_
    rintro e1 w1 ⟨⟨rfl,q1⟩,g1⟩
    have hx1:=hx.call g1 hRw hXR
    have c3:=q1.fe
    unfold feS at c3
    dsimp only at c3
    generalize (c0::t0).dropLast=d at *
    clear hq hx g1 hY hsf hfd hfc
    have i1:(0:Int)<(d.length:Int)+1+1:=by omega
    have HDL:Hid (d.length=t0.length):=hdl
    have HDR:Hid (d++[10]=c0::t0):=hdr
    clear hdl hdr
    have hA8:=hx1.low ((Below.refl _ w1).alloc (Nat.le_refl _) (.cells #[.int .u8 (a0.toNat:Int)] 5))
    have hB8:=hA8.low (Below.drew (Below.refl _ _))
    have qA8:=(q1.low ((Below.refl _ w1).alloc (Nat.le_refl _) (.cells #[.int .u8 (a0.toNat:Int)] 5))).low (Below.drew (Below.refl _ _))
    obtain⟨_,_,_,k38,k48⟩:=hx1.box.cells
    obtain⟨_,_,_,k3a8,k4a8⟩:=hA8.box.cells
    obtain⟨_,_,_,k3b8,k4b8⟩:=hB8.box.cells
    have hrow8:Holds ((w1.alloc (.cells #[.int .u8 (a0.toNat:Int)] 5)).drew) (.slice (some ⟨w1.heap.size,0,none⟩) 1 1) 1 [.int .u8 (a0.toNat:Int)]:=ZgR w1 #[.int .u8 (a0.toNat:Int)] 5 1 1 (by decide)
    have hown8:=hB8.ok
    have hbase8:=hB8.size
    go_wp2_with fail
    go_region_law (refine ZkD _ rfl (.tmp 30) (.tmp 33) 83 5 (.int .u8 0) 1 1 rfl Tryz.underlying83 infoU8C rfl (by decide) (by decide) w.heap.size _ _ _ rfl hown8 _ 1 [.int .u8 (a0.toNat:Int)] rfl hrow8 rfl (by intro u hu;simp at hu;subst hu;rfl) hkb hbase8 ?_;intro v8 u8 ho8 hg8;obtain⟨hx8,hb8,hr8⟩:=hB8.moreK hg8 ho8;have kc8:=hb8.cells;obtain⟨_,_,_,kc38,kc48⟩:=kc8;have kf8:=hb8.frozen 3;obtain⟨o8,c8,rfl⟩:=(Zeo ho8).form)
    all_goals (
     have q9:=hr8 hRw hXR qA8
     generalize u8.setCell ⟨X,3,none⟩ (.slice o8 (ks.length+1) c8)=u9 at hx8 q9 ⊢
     clear hA8 hB8 qA8 k38 k48 k3a8 k4a8 k3b8 k4b8 hrow8 hown8 hbase8 ho8 hg8 hb8 hr8 kc38 kc48 kf8 hx1 q1 c3
     obtain⟨mk,hmk⟩:∃ mk,pkM (L.drop (p'+1))=mk:=⟨_,rfl⟩
     have HMk:Hid (pkZ markT L (.ok (p'+1))=mk):=(by show pkG markT _=_;rw[← hmk];cases L.drop (p'+1)<;>rfl)
     rw[hmk] at hI
     go_wp2_with fail
     refine (Znt markT u9 q9 (HL.out u9 hx8.block) hs (by decide) mk HMk).mono ?_
     rintro y9 v9 ⟨rfl,m9,rfl⟩
     have hx10:=hx8.low (below_drewN (Below.refl _ _) m9)
     have q10:=q9.dN m9
     generalize u9.drewN m9=u10 at hx10 q10 ⊢
     clear hx8 q9 HMk hmk
     by_cases hm:mk=true∧3<(a0::b0::c0::t0).length
     ·rw[if_pos hm] at hI
      obtain⟨rfl,hm3⟩:=hm
      have i2:(0:Int)<(d.length:Int):=(by have:=HDL.out;simp at hm3;omega)
      have i3:(2:Int)<(d.length:Int)+1+1:=by omega
      have i4:(2:Int)≤(d.length:Int)+1+1:=by omega
      obtain⟨_,d1,_,_⟩:=Rx.cells q10
      have f1:=Rx.frozen q10 1
      have q11:RdZ (u10.setCell ⟨R,1,none⟩ (.int .i64 ((p':Int)+1+1))) R (.slice lo L.length lc) (.ok (p'+2)):=Zqt q10
      have g11:=ZdS u10 R 1 (.int .i64 ((p':Int)+1+1))
      have hx11:=hx10.call g11 hRw hXR
      clear hx10 q10 g11
      go_upto_region 6 with fail
      generalize u10.setCell ⟨R,1,none⟩ (.int .i64 ((p':Int)+1+1))=u11 at q11 hx11 ⊢
      have hA13:=hx11.low ((Below.refl _ u11).alloc (Nat.le_refl _) (.cells #[.string ⟨d.toArray⟩] 9))
      have hB13:=hA13.low (Below.drew (Below.refl _ _))
      have qA13:=(q11.low ((Below.refl _ u11).alloc (Nat.le_refl _) (.cells #[.string ⟨d.toArray⟩] 9))).low (Below.drew (Below.refl _ _))
      obtain⟨_,_,_,k313,k413⟩:=hx11.box.cells
      obtain⟨_,_,_,k3a13,k4a13⟩:=hA13.box.cells
      obtain⟨_,_,_,k3b13,k4b13⟩:=hB13.box.cells
      have hrow13:Holds ((u11.alloc (.cells #[.string ⟨d.toArray⟩] 9)).drew) (.slice (some ⟨u11.heap.size,0,none⟩) 1 1) 1 [.string ⟨d.toArray⟩]:=ZgR u11 #[.string ⟨d.toArray⟩] 9 1 1 (by decide)
      have hown13:=hB13.ol
      have hbase13:=hB13.size
      go_wp2_with fail
      go_region_law (refine ZkD _ rfl (.tmp 55) (.tmp 58) 49 9 (.string ⟨#[]⟩) 1 16 rfl Tryz.underlying49 infoStr rfl (by decide) (by decide) w.heap.size _ _ _ rfl hown13 _ 1 [.string ⟨d.toArray⟩] rfl hrow13 rfl (by intro u hu;simp at hu;subst hu;rfl) htb hbase13 ?_;intro v13 u13 ho13 hg13;obtain⟨hx13,hb13,hr13⟩:=hB13.moreL hg13 ho13;have kc13:=hb13.cells;obtain⟨_,_,_,kc313,kc413⟩:=kc13;have kf13:=hb13.frozen 4;obtain⟨o13,c13,rfl⟩:=(Zeo ho13).form)
      all_goals (
       have q13:=hr13 hRw hXR qA13
       have hdd:(List.drop 2 (a0::b0::c0::t0)).dropLast=d:=(by show (c0::t0).dropLast=d;rw[← HDR.out];exact List.dropLast_concat)
       subst hI
       go_wp2;refine bodyPost_ret (results_none rfl _ _ _) rfl ?_;exact⟨rfl,_,_,_,_,x++[(a0,d)],hx13,⟨by rw[List.map_append,HX.out.1];rfl,by rw[List.map_append,HX.out.2];rfl⟩,by rw[hdd];rfl,q13⟩)
     ·rw[if_neg hm] at hI
      have HI2:Hid (thenS (x++[(a0,c0::t0)]) (sdZ sg L (.ok (p'+1)))=Z):=hI
      have i4:(2:Int)≤(d.length:Int)+1+1:=by omega
      have i5:¬ 9223372036854775807<d.length+1:=(by have:=HDL.out;omega)
      have eb:=Zmw d [10]
      rw[HDR.out] at eb
      have hx11:=hx10
      have q11:=q10
      clear hx10 q10 hI
      cases mk with
      | true =>
       have i2:d=[]:=(by
        have h1:=HDL.out
        simp only[true_and,List.length_cons] at hm
        exact List.eq_nil_of_length_eq_zero (by omega))
       subst i2
       clear hm eb
       obtain⟨rfl,rfl⟩:c0=10∧t0=[]:=(by have h:=HDR.out.symm;simpa using h)
       have hA13:=hx11.low ((Below.refl _ u10).alloc (Nat.le_refl _) (.cells #[.string ⟨#[10]⟩] 9))
       have hB13:=hA13.low (Below.drew (Below.refl _ _))
       have qA13:=(q11.low ((Below.refl _ u10).alloc (Nat.le_refl _) (.cells #[.string ⟨#[10]⟩] 9))).low (Below.drew (Below.refl _ _))
       obtain⟨_,_,_,k313,k413⟩:=hx11.box.cells
       obtain⟨_,_,_,k3a13,k4a13⟩:=hA13.box.cells
       obtain⟨_,_,_,k3b13,k4b13⟩:=hB13.box.cells
       have hrow13:Holds ((u10.alloc (.cells #[.string ⟨#[10]⟩] 9)).drew) (.slice (some ⟨u10.heap.size,0,none⟩) 1 1) 1 [.string ⟨#[10]⟩]:=ZgR u10 #[.string ⟨#[10]⟩] 9 1 1 (by decide)
       have hown13:=hB13.ol
       have hbase13:=hB13.size
       go_wp2_with fail
       go_region_law (refine ZkD _ rfl (.tmp 66) (.tmp 70) 49 9 (.string ⟨#[]⟩) 1 16 rfl Tryz.underlying49 infoStr rfl (by decide) (by decide) w.heap.size _ _ _ rfl hown13 _ 1 [.string ⟨#[10]⟩] rfl hrow13 rfl (by intro u hu;simp at hu;subst hu;rfl) htb hbase13 ?_;intro v13 u13 ho13 hg13;obtain⟨hx13,hb13,hr13⟩:=hB13.moreL hg13 ho13;have kc13:=hb13.cells;obtain⟨_,_,_,kc313,kc413⟩:=kc13;have kf13:=hb13.frozen 4;obtain⟨o13,c13,rfl⟩:=(Zeo ho13).form)
       all_goals (
        have q13:=hr13 hRw hXR qA13
        go_wp2
        exact⟨⟨_,_,_,_,x++[(a0,[10])],p'+1,hx13,q13,by omega,by rw[List.length_append];simp;omega,⟨by rw[List.map_append,HX.out.1];rfl,by rw[List.map_append,HX.out.2];rfl⟩,HI2⟩,by rw[Zrg q13,HK.out];omega⟩)
      | false =>
       clear hm
       have hA13:=hx11.low ((Below.refl _ u10).alloc (Nat.le_refl _) (.cells #[.string ⟨(c0::t0).toArray⟩] 9))
       have hB13:=hA13.low (Below.drew (Below.refl _ _))
       have qA13:=(q11.low ((Below.refl _ u10).alloc (Nat.le_refl _) (.cells #[.string ⟨(c0::t0).toArray⟩] 9))).low (Below.drew (Below.refl _ _))
       obtain⟨_,_,_,k313,k413⟩:=hx11.box.cells
       obtain⟨_,_,_,k3a13,k4a13⟩:=hA13.box.cells
       obtain⟨_,_,_,k3b13,k4b13⟩:=hB13.box.cells
       have hrow13:Holds ((u10.alloc (.cells #[.string ⟨(c0::t0).toArray⟩] 9)).drew) (.slice (some ⟨u10.heap.size,0,none⟩) 1 1) 1 [.string ⟨(c0::t0).toArray⟩]:=ZgR u10 #[.string ⟨(c0::t0).toArray⟩] 9 1 1 (by decide)
       have hown13:=hB13.ol
       have hbase13:=hB13.size
       go_wp2_with fail
       go_region_law (refine ZkD _ rfl (.tmp 66) (.tmp 70) 49 9 (.string ⟨#[]⟩) 1 16 rfl Tryz.underlying49 infoStr rfl (by decide) (by decide) w.heap.size _ _ _ rfl hown13 _ 1 [.string ⟨(c0::t0).toArray⟩] rfl hrow13 rfl (by intro u hu;simp at hu;subst hu;rfl) htb hbase13 ?_;intro v13 u13 ho13 hg13;obtain⟨hx13,hb13,hr13⟩:=hB13.moreL hg13 ho13;have kc13:=hb13.cells;obtain⟨_,_,_,kc313,kc413⟩:=kc13;have kf13:=hb13.frozen 4;obtain⟨o13,c13,rfl⟩:=(Zeo ho13).form)
       all_goals (
        have q13:=hr13 hRw hXR qA13
        go_wp2
        exact⟨⟨_,_,_,_,x++[(a0,c0::t0)],p'+1,hx13,q13,by omega,by rw[List.length_append];simp;omega,⟨by rw[List.map_append,HX.out.1];rfl,by rw[List.map_append,HX.out.2];rfl⟩,HI2⟩,by rw[Zrg q13,HK.out];omega⟩))
   ·have hY:nxZ L (.ok p')=.error (p'+1,3):=(by
     unfold nxZ
     dsimp only
     rw[Zhm hlt,if_neg hfd])
    rw[Zrh hlt hsd,if_neg hfd] at hI
    subst hI
    refine (Znp u hq (HL.out u hx.block) hR (fun p e=>by cases e;omega) hs _ hY).mono ?_
    rintro e1 w1 ⟨⟨rfl,q1⟩,g1⟩
    have hx1:=hx.call g1 hRw hXR
    have c3:=q1.fe
    unfold feS at c3
    dsimp only at c3
    clear hq hx g1 hY
    go_wp2
    refine bodyPost_ret (results_none rfl _ _ _) rfl ?_
    exact⟨rfl,_,_,ks,ts,x,hx1,HX.out,q1⟩
  | false =>
   have b3:([33,32]:List UInt8).isPrefixOf L[p']=true:=(by rw[b1,b2] at hor;simpa using hor)
   have e1:=(hpk [32,32]).trans b1
   have e2:=(hpk [sg,32]).trans b2
   have e3:=(hpk [33,32]).trans b3
   clear hor b1 b2 b3
   go_wp2_with fail
   refine (Znt [32,32] wr hq (HL.out wr hx.block) hs (by show 2≤_;decide) false (show Hid _ from e1)).mono ?_
   rintro y1 v1 ⟨rfl,m1,rfl⟩
   have hxp1:=hx.low (below_drewN (Below.refl _ _) m1)
   have hqp1:=hq.dN m1
   generalize wr.drewN m1=vv1 at hxp1 hqp1 ⊢
   clear hx hq
   go_wp2_with fail
   refine (Znt [sg,32] vv1 hqp1 (HL.out vv1 hxp1.block) hs (by show 2≤_;decide) false (show Hid _ from e2)).mono ?_
   rintro y2 v2 ⟨rfl,m2,rfl⟩
   have hxp2:=hxp1.low (below_drewN (Below.refl _ _) m2)
   have hqp2:=hqp1.dN m2
   generalize vv1.drewN m2=vv2 at hxp2 hqp2 ⊢
   clear hxp1 hqp1
   go_wp2_with fail
   refine (Znt [33,32] vv2 hqp2 (HL.out vv2 hxp2.block) hs (by show 2≤_;decide) true (show Hid _ from e3)).mono ?_
   rintro y3 v3 ⟨rfl,m3,rfl⟩
   have hxp3:=hxp2.low (below_drewN (Below.refl _ _) m3)
   have hqp3:=hqp2.dN m3
   generalize vv2.drewN m3=vv3 at hxp3 hqp3 ⊢
   clear hxp2 hqp2
   have hx:=hxp3
   have hq:=hqp3
   clear hxp3 hqp3
   generalize vv3=u at hx hq ⊢
   go_wp2_with fail
   by_cases hfd:fdB L[p']=true
   ·obtain⟨a0,b0,c0,t0,hsf,hfc⟩:=ZjZ hsd hfd
    have hY:nxZ L (.ok p')=.ok (a0::b0::(c0::t0).dropLast,p'+1):=(by
     unfold nxZ
     dsimp only
     rw[Zhm hlt,if_pos hfd]
     dsimp only
     rw[hsf]
     rfl)
    rw[Zrh hlt hsd,if_pos hfd,hsf] at hI
    have hdl:((c0::t0).dropLast).length=t0.length:=(by rw[List.length_dropLast,List.length_cons];omega)
    have hdr:(c0::t0).dropLast++[10]=c0::t0:=Znf hfc
    have hsl2:t0.length≤1099511627776:=(by have h:=hs L[p'] (List.getElem_mem hlt);rw[hsf] at h;simp at h;omega)
    refine (Znp u hq (HL.out u hx.block) hR (fun p e=>by cases e;omega) hs _ hY).mono ?_
    rintro e1 w1 ⟨⟨rfl,q1⟩,g1⟩
    have hx1:=hx.call g1 hRw hXR
    have c3:=q1.fe
    unfold feS at c3
    dsimp only at c3
    generalize (c0::t0).dropLast=d at *
    clear hq hx g1 hY hsf hfd hfc
    have i1:(0:Int)<(d.length:Int)+1+1:=by omega
    have HDL:Hid (d.length=t0.length):=hdl
    have HDR:Hid (d++[10]=c0::t0):=hdr
    clear hdl hdr
    have hA8:=hx1.low ((Below.refl _ w1).alloc (Nat.le_refl _) (.cells #[.int .u8 (a0.toNat:Int)] 5))
    have hB8:=hA8.low (Below.drew (Below.refl _ _))
    have qA8:=(q1.low ((Below.refl _ w1).alloc (Nat.le_refl _) (.cells #[.int .u8 (a0.toNat:Int)] 5))).low (Below.drew (Below.refl _ _))
    obtain⟨_,_,_,k38,k48⟩:=hx1.box.cells
    obtain⟨_,_,_,k3a8,k4a8⟩:=hA8.box.cells
    obtain⟨_,_,_,k3b8,k4b8⟩:=hB8.box.cells
    have hrow8:Holds ((w1.alloc (.cells #[.int .u8 (a0.toNat:Int)] 5)).drew) (.slice (some ⟨w1.heap.size,0,none⟩) 1 1) 1 [.int .u8 (a0.toNat:Int)]:=ZgR w1 #[.int .u8 (a0.toNat:Int)] 5 1 1 (by decide)
    have hown8:=hB8.ok
    have hbase8:=hB8.size
    go_wp2_with fail
    go_region_law (refine ZkD _ rfl (.tmp 30) (.tmp 33) 83 5 (.int .u8 0) 1 1 rfl Tryz.underlying83 infoU8C rfl (by decide) (by decide) w.heap.size _ _ _ rfl hown8 _ 1 [.int .u8 (a0.toNat:Int)] rfl hrow8 rfl (by intro u hu;simp at hu;subst hu;rfl) hkb hbase8 ?_;intro v8 u8 ho8 hg8;obtain⟨hx8,hb8,hr8⟩:=hB8.moreK hg8 ho8;have kc8:=hb8.cells;obtain⟨_,_,_,kc38,kc48⟩:=kc8;have kf8:=hb8.frozen 3;obtain⟨o8,c8,rfl⟩:=(Zeo ho8).form)
    all_goals (
     have q9:=hr8 hRw hXR qA8
     generalize u8.setCell ⟨X,3,none⟩ (.slice o8 (ks.length+1) c8)=u9 at hx8 q9 ⊢
     clear hA8 hB8 qA8 k38 k48 k3a8 k4a8 k3b8 k4b8 hrow8 hown8 hbase8 ho8 hg8 hb8 hr8 kc38 kc48 kf8 hx1 q1 c3
     obtain⟨mk,hmk⟩:∃ mk,pkM (L.drop (p'+1))=mk:=⟨_,rfl⟩
     have HMk:Hid (pkZ markT L (.ok (p'+1))=mk):=(by show pkG markT _=_;rw[← hmk];cases L.drop (p'+1)<;>rfl)
     rw[hmk] at hI
     go_wp2_with fail
     refine (Znt markT u9 q9 (HL.out u9 hx8.block) hs (by decide) mk HMk).mono ?_
     rintro y9 v9 ⟨rfl,m9,rfl⟩
     have hx10:=hx8.low (below_drewN (Below.refl _ _) m9)
     have q10:=q9.dN m9
     generalize u9.drewN m9=u10 at hx10 q10 ⊢
     clear hx8 q9 HMk hmk
     by_cases hm:mk=true∧3<(a0::b0::c0::t0).length
     ·rw[if_pos hm] at hI
      obtain⟨rfl,hm3⟩:=hm
      have i2:(0:Int)<(d.length:Int):=(by have:=HDL.out;simp at hm3;omega)
      have i3:(2:Int)<(d.length:Int)+1+1:=by omega
      have i4:(2:Int)≤(d.length:Int)+1+1:=by omega
      obtain⟨_,d1,_,_⟩:=Rx.cells q10
      have f1:=Rx.frozen q10 1
      have q11:RdZ (u10.setCell ⟨R,1,none⟩ (.int .i64 ((p':Int)+1+1))) R (.slice lo L.length lc) (.ok (p'+2)):=Zqt q10
      have g11:=ZdS u10 R 1 (.int .i64 ((p':Int)+1+1))
      have hx11:=hx10.call g11 hRw hXR
      clear hx10 q10 g11
      go_upto_region 6 with fail
      generalize u10.setCell ⟨R,1,none⟩ (.int .i64 ((p':Int)+1+1))=u11 at q11 hx11 ⊢
      have hA13:=hx11.low ((Below.refl _ u11).alloc (Nat.le_refl _) (.cells #[.string ⟨d.toArray⟩] 9))
      have hB13:=hA13.low (Below.drew (Below.refl _ _))
      have qA13:=(q11.low ((Below.refl _ u11).alloc (Nat.le_refl _) (.cells #[.string ⟨d.toArray⟩] 9))).low (Below.drew (Below.refl _ _))
      obtain⟨_,_,_,k313,k413⟩:=hx11.box.cells
      obtain⟨_,_,_,k3a13,k4a13⟩:=hA13.box.cells
      obtain⟨_,_,_,k3b13,k4b13⟩:=hB13.box.cells
      have hrow13:Holds ((u11.alloc (.cells #[.string ⟨d.toArray⟩] 9)).drew) (.slice (some ⟨u11.heap.size,0,none⟩) 1 1) 1 [.string ⟨d.toArray⟩]:=ZgR u11 #[.string ⟨d.toArray⟩] 9 1 1 (by decide)
      have hown13:=hB13.ol
      have hbase13:=hB13.size
      go_wp2_with fail
      go_region_law (refine ZkD _ rfl (.tmp 55) (.tmp 58) 49 9 (.string ⟨#[]⟩) 1 16 rfl Tryz.underlying49 infoStr rfl (by decide) (by decide) w.heap.size _ _ _ rfl hown13 _ 1 [.string ⟨d.toArray⟩] rfl hrow13 rfl (by intro u hu;simp at hu;subst hu;rfl) htb hbase13 ?_;intro v13 u13 ho13 hg13;obtain⟨hx13,hb13,hr13⟩:=hB13.moreL hg13 ho13;have kc13:=hb13.cells;obtain⟨_,_,_,kc313,kc413⟩:=kc13;have kf13:=hb13.frozen 4;obtain⟨o13,c13,rfl⟩:=(Zeo ho13).form)
      all_goals (
       have q13:=hr13 hRw hXR qA13
       have hdd:(List.drop 2 (a0::b0::c0::t0)).dropLast=d:=(by show (c0::t0).dropLast=d;rw[← HDR.out];exact List.dropLast_concat)
       subst hI
       go_wp2;refine bodyPost_ret (results_none rfl _ _ _) rfl ?_;exact⟨rfl,_,_,_,_,x++[(a0,d)],hx13,⟨by rw[List.map_append,HX.out.1];rfl,by rw[List.map_append,HX.out.2];rfl⟩,by rw[hdd];rfl,q13⟩)
     ·rw[if_neg hm] at hI
      have HI2:Hid (thenS (x++[(a0,c0::t0)]) (sdZ sg L (.ok (p'+1)))=Z):=hI
      have i4:(2:Int)≤(d.length:Int)+1+1:=by omega
      have i5:¬ 9223372036854775807<d.length+1:=(by have:=HDL.out;omega)
      have eb:=Zmw d [10]
      rw[HDR.out] at eb
      have hx11:=hx10
      have q11:=q10
      clear hx10 q10 hI
      cases mk with
      | true =>
       have i2:d=[]:=(by
        have h1:=HDL.out
        simp only[true_and,List.length_cons] at hm
        exact List.eq_nil_of_length_eq_zero (by omega))
       subst i2
       clear hm eb
       obtain⟨rfl,rfl⟩:c0=10∧t0=[]:=(by have h:=HDR.out.symm;simpa using h)
       have hA13:=hx11.low ((Below.refl _ u10).alloc (Nat.le_refl _) (.cells #[.string ⟨#[10]⟩] 9))
       have hB13:=hA13.low (Below.drew (Below.refl _ _))
       have qA13:=(q11.low ((Below.refl _ u10).alloc (Nat.le_refl _) (.cells #[.string ⟨#[10]⟩] 9))).low (Below.drew (Below.refl _ _))
       obtain⟨_,_,_,k313,k413⟩:=hx11.box.cells
       obtain⟨_,_,_,k3a13,k4a13⟩:=hA13.box.cells
       obtain⟨_,_,_,k3b13,k4b13⟩:=hB13.box.cells
       have hrow13:Holds ((u10.alloc (.cells #[.string ⟨#[10]⟩] 9)).drew) (.slice (some ⟨u10.heap.size,0,none⟩) 1 1) 1 [.string ⟨#[10]⟩]:=ZgR u10 #[.string ⟨#[10]⟩] 9 1 1 (by decide)
       have hown13:=hB13.ol
       have hbase13:=hB13.size
       go_wp2_with fail
       go_region_law (refine ZkD _ rfl (.tmp 66) (.tmp 70) 49 9 (.string ⟨#[]⟩) 1 16 rfl Tryz.underlying49 infoStr rfl (by decide) (by decide) w.heap.size _ _ _ rfl hown13 _ 1 [.string ⟨#[10]⟩] rfl hrow13 rfl (by intro u hu;simp at hu;subst hu;rfl) htb hbase13 ?_;intro v13 u13 ho13 hg13;obtain⟨hx13,hb13,hr13⟩:=hB13.moreL hg13 ho13;have kc13:=hb13.cells;obtain⟨_,_,_,kc313,kc413⟩:=kc13;have kf13:=hb13.frozen 4;obtain⟨o13,c13,rfl⟩:=(Zeo ho13).form)
       all_goals (
        have q13:=hr13 hRw hXR qA13
        go_wp2
        exact⟨⟨_,_,_,_,x++[(a0,[10])],p'+1,hx13,q13,by omega,by rw[List.length_append];simp;omega,⟨by rw[List.map_append,HX.out.1];rfl,by rw[List.map_append,HX.out.2];rfl⟩,HI2⟩,by rw[Zrg q13,HK.out];omega⟩)
      | false =>
       clear hm
       have hA13:=hx11.low ((Below.refl _ u10).alloc (Nat.le_refl _) (.cells #[.string ⟨(c0::t0).toArray⟩] 9))
       have hB13:=hA13.low (Below.drew (Below.refl _ _))
       have qA13:=(q11.low ((Below.refl _ u10).alloc (Nat.le_refl _) (.cells #[.string ⟨(c0::t0).toArray⟩] 9))).low (Below.drew (Below.refl _ _))
       obtain⟨_,_,_,k313,k413⟩:=hx11.box.cells
       obtain⟨_,_,_,k3a13,k4a13⟩:=hA13.box.cells
       obtain⟨_,_,_,k3b13,k4b13⟩:=hB13.box.cells
       have hrow13:Holds ((u10.alloc (.cells #[.string ⟨(c0::t0).toArray⟩] 9)).drew) (.slice (some ⟨u10.heap.size,0,none⟩) 1 1) 1 [.string ⟨(c0::t0).toArray⟩]:=ZgR u10 #[.string ⟨(c0::t0).toArray⟩] 9 1 1 (by decide)
       have hown13:=hB13.ol
       have hbase13:=hB13.size
       go_wp2_with fail
       go_region_law (refine ZkD _ rfl (.tmp 66) (.tmp 70) 49 9 (.string ⟨#[]⟩) 1 16 rfl Tryz.underlying49 infoStr rfl (by decide) (by decide) w.heap.size _ _ _ rfl hown13 _ 1 [.string ⟨(c0::t0).toArray⟩] rfl hrow13 rfl (by intro u hu;simp at hu;subst hu;rfl) htb hbase13 ?_;intro v13 u13 ho13 hg13;obtain⟨hx13,hb13,hr13⟩:=hB13.moreL hg13 ho13;have kc13:=hb13.cells;obtain⟨_,_,_,kc313,kc413⟩:=kc13;have kf13:=hb13.frozen 4;obtain⟨o13,c13,rfl⟩:=(Zeo ho13).form)
       all_goals (
        have q13:=hr13 hRw hXR qA13
        go_wp2
        exact⟨⟨_,_,_,_,x++[(a0,c0::t0)],p'+1,hx13,q13,by omega,by rw[List.length_append];simp;omega,⟨by rw[List.map_append,HX.out.1];rfl,by rw[List.map_append,HX.out.2];rfl⟩,HI2⟩,by rw[Zrg q13,HK.out];omega⟩))
   ·have hY:nxZ L (.ok p')=.error (p'+1,3):=(by
     unfold nxZ
     dsimp only
     rw[Zhm hlt,if_neg hfd])
    rw[Zrh hlt hsd,if_neg hfd] at hI
    subst hI
    refine (Znp u hq (HL.out u hx.block) hR (fun p e=>by cases e;omega) hs _ hY).mono ?_
    rintro e1 w1 ⟨⟨rfl,q1⟩,g1⟩
    have hx1:=hx.call g1 hRw hXR
    have c3:=q1.fe
    unfold feS at c3
    dsimp only at c3
    clear hq hx g1 hY
    go_wp2
    refine bodyPost_ret (results_none rfl _ _ _) rfl ?_
    exact⟨rfl,_,_,ks,ts,x,hx1,HX.out,q1⟩
 ·have hpk:∀ l:List UInt8,(l=[32,32]∨l=[sg,32]∨l=[33,32])→pkZ l L (.ok p')=false:=(by
   intro l hl
   unfold pkZ
   dsimp only
   by_cases hlt:p'<L.length
   ·have h1:isSd sg L[p']=false:=Bool.eq_false_iff.2 fun q=>hsd ⟨hlt,q⟩
    rw[ZoU,Bool.or_eq_false_iff,Bool.or_eq_false_iff] at h1
    rw[List.drop_eq_getElem_cons hlt]
    show l.isPrefixOf L[p']=false
    rcases hl with rfl | rfl | rfl
    ·exact h1.1.1
    ·exact h1.1.2
    ·exact h1.2
   ·rw[List.drop_eq_nil_of_le (by omega)]
    rfl)
  have e1:=hpk [32,32] (.inl rfl)
  have e2:=hpk [sg,32] (.inr (.inl rfl))
  have e3:=hpk [33,32] (.inr (.inr rfl))
  rw[Zri (fun h=>Bool.eq_false_iff.2 fun q=>hsd ⟨h,q⟩)] at hI
  subst hI
  clear hpk hsd
  go_wp2_with fail
  refine (Znt [32,32] wr hq (HL.out wr hx.block) hs (by show 2≤_;decide) false (show Hid _ from e1)).mono ?_
  rintro y1 v1 ⟨rfl,m1,rfl⟩
  have hxp1:=hx.low (below_drewN (Below.refl _ _) m1)
  have hqp1:=hq.dN m1
  generalize wr.drewN m1=vv1 at hxp1 hqp1 ⊢
  clear hx hq
  go_wp2_with fail
  refine (Znt [sg,32] vv1 hqp1 (HL.out vv1 hxp1.block) hs (by show 2≤_;decide) false (show Hid _ from e2)).mono ?_
  rintro y2 v2 ⟨rfl,m2,rfl⟩
  have hxp2:=hxp1.low (below_drewN (Below.refl _ _) m2)
  have hqp2:=hqp1.dN m2
  generalize vv1.drewN m2=vv2 at hxp2 hqp2 ⊢
  clear hxp1 hqp1
  go_wp2_with fail
  refine (Znt [33,32] vv2 hqp2 (HL.out vv2 hxp2.block) hs (by show 2≤_;decide) false (show Hid _ from e3)).mono ?_
  rintro y3 v3 ⟨rfl,m3,rfl⟩
  have hxp3:=hxp2.low (below_drewN (Below.refl _ _) m3)
  have hqp3:=hqp2.dN m3
  generalize vv2.drewN m3=vv3 at hxp3 hqp3 ⊢
  clear hxp2 hqp2
  have hx:=hxp3
  have hq:=hqp3
  clear hxp3 hqp3
  generalize vv3=u at hx hq ⊢
  go_wp2
  first
  | refine bodyPost_end (results_none rfl _ _ _) rfl ?_
  | refine bodyPost_ret (results_none rfl _ _ _) rfl ?_
  exact⟨rfl,_,_,ks,ts,x,hx,HX.out,rfl,hq⟩
end

section
open Go.RowKit
theorem Zpa {R X:Nat} {L:List (List UInt8)} {lo:Option Addr} {lc:Nat} {e0:Nat × Int} (sg:UInt8) (w:World) (q:RdZ w R (.slice lo L.length lc) (.error e0)) (hL:HS w (.slice lo L.length lc) L) (hs:∀ s∈L,s.length≤1099511627776) :
  Calls Tryz.prog 106 #[.pointer (some ⟨X,0,none⟩),.pointer (some ⟨R,0,none⟩),.string ⟨#[sg,32]⟩] w fun e w'=>e=.returned (.tuple #[])∧∃ m,w'=w.drewN m:=by
 go_enter Tryz.func106,Tryz.ntmps106
 go_wp2
 go_loopw [6] (fun _ wr=>∃ m,wr=w.drewN m) (fun _ _=>0)
 case atStart=>exact⟨0,rfl⟩
 case round =>
 obtain⟨m,rfl⟩:=hrel
 have h1:=fun (l:List UInt8) (hl:l.length≤1099511627776) m=>Znt l (w.drewN m) (q.dN m) (HS.keep hL (below_drewN (Below.refl _ _) m) (Nat.le_refl _)) hs hl false (show Hid _ from rfl)
 go_wp2_with fail
 refine (h1 [32,32] (by decide) m).mono ?_
 rintro e1 w1 ⟨rfl,m1,rfl⟩
 rw[World.drewN_drewN]
 go_wp2_with fail
 refine (h1 [sg,32] (by show 2≤_;decide) (m+m1)).mono ?_
 rintro e2 w2 ⟨rfl,m2,rfl⟩
 rw[World.drewN_drewN]
 go_wp2_with fail
 refine (h1 [33,32] (by decide) (m+m1+m2)).mono ?_
 rintro e3 w3 ⟨rfl,m3,rfl⟩
 rw[World.drewN_drewN]
 go_wp2
 first
 | refine bodyPost_end (results_none rfl _ _ _) rfl ?_
 | refine bodyPost_ret (results_none rfl _ _ _) rfl ?_
 exact⟨rfl,_,rfl⟩
theorem ZoZ {R X:Nat} {L:List (List UInt8)} {lo:Option Addr} {lc:Nat} {st:Except (Nat × Int) Nat} (sg:UInt8) (a p n:Int) (w:World) (q:RdZ w R (.slice lo L.length lc) st) (bx:Bp5 w X a p n (.slice none 0 0) (.slice none 0 0)) (hXR:X≠R) (HL:Hid (∀ u:World,(∀ k,k<w.heap.size→k≠R→k≠X→u.heap[k]?=w.heap[k]?)→HS u (.slice lo L.length lc) L)) (hR:∀ a,lo=some a→a.block≠R) (hp0:∀ p0,st=.ok p0→p0≤L.length) (hLl:L.length≤1099511627776) (hs:∀ s∈L,s.length≤1099511627776)
  (Z:Except (Nat × Int) (Sde × Nat)) (HZ:Hid (sdZ sg L st=Z)) :
  Calls Tryz.prog 106 #[.pointer (some ⟨X,0,none⟩),.pointer (some ⟨R,0,none⟩),.string ⟨#[sg,32]⟩] w fun e w'=>e=.returned (.tuple #[])∧∃ vk vl ks ts x,Lx w R X a p n vk vl ks ts w'∧(x.map (·.1)=ks∧x.map (·.2)=ts)∧LnQ5 R (.slice lo L.length lc) Z x w':=by
 cases st with
 | ok p0=>exact Zpb sg a p n w q bx hXR HL hR (hp0 p0 rfl) hLl hs Z HZ
 | error e0 =>
  have hZ:Z=.error e0:=HZ.out.symm
  subst hZ
  refine (Zpa sg w q (HL.out w fun _ _ _ _=>rfl) hs).mono ?_
  rintro e w' ⟨rfl,m,rfl⟩
  exact⟨rfl,_,_,[],[],[],(Lx.start bx).low (below_drewN (Below.refl _ _) m),⟨rfl,rfl⟩,q.dN m⟩
end

end Go.Proofs.YtcniomgjikienaaGreatDoor
