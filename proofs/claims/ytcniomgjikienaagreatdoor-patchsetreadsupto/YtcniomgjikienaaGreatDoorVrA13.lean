/-
  Texts that belong together, joined: CrZ, PgM, CrX, CrY, PgS, CrL, CrQ, CrR.
-/
import Derived.Test.YtcniomgjikienaaGreatDoorVrA12
import Derived.Deep.CutBlock
import Derived.Deep.CutRange

set_option maxHeartbeats 16000000
set_option maxRecDepth 100000
namespace Go.Proofs.YtcniomgjikienaaGreatDoor

section
open Ln
theorem ZmO {k p p1:Nat} {L r:List (List UInt8)} {h:Hk} (hh:cxH k p (L.drop p)=.ok (h,p1,r)):r=L.drop p1∧p+3≤p1:=by
 unfold cxH at hh
 cases hn:nxt p (L.drop p) with
 | error e=>rw[hn] at hh;cases hh
 | ok z =>
  obtain⟨s,r0⟩:=z
  obtain⟨rfl,_⟩:=ZoF hn
  rw[hn] at hh
  dsimp only at hh
  split at hh
  ·split at hh
   ·cases hh
   ·cases h3:rngP 42 (p+1) (L.drop (p+1)) with
    | error e=>rw[h3] at hh;cases hh
    | ok z =>
     obtain⟨⟨po,no⟩,r1⟩:=z
     obtain⟨rfl,_⟩:=Zrb h3
     rw[h3] at hh
     dsimp only at hh
     cases h4:rdS 45 (p+2) (L.drop (p+1+1)) with
     | error e=>rw[h4] at hh;cases hh
     | ok z =>
      obtain⟨o,p2,r2⟩:=z
      obtain⟨rfl,q4⟩:=Zqv (p:=p+2) h4
      rw[h4] at hh
      dsimp only at hh
      cases h5:rngP 45 p2 (L.drop p2) with
      | error e=>rw[h5] at hh;cases hh
      | ok z =>
       obtain⟨⟨pw,nw⟩,r3⟩:=z
       obtain⟨rfl,_⟩:=Zrb h5
       rw[h5] at hh
       dsimp only at hh
       cases h6:rdS 43 (p2+1) (L.drop (p2+1)) with
       | error e=>rw[h6] at hh;cases hh
       | ok z =>
        obtain⟨v,p4,r4⟩:=z
        obtain⟨rfl,q6⟩:=Zqv h6
        rw[h6] at hh
        dsimp only at hh
        split at hh
        ·cases hh
        ·cases hh
         exact⟨rfl,by omega⟩
  ·cases hh
def hsZ (f k:Nat) (L:List (List UInt8)) (p:Nat):Except (Nat × Int) (List Hk × Nat):=match cxHs f k p (L.drop p) with
 | .error e=>.error e
 | .ok (l,p1,_)=>.ok (l,p1)
theorem ZnO (f k:Nat) (L:List (List UInt8)) (p:Nat):hsZ (f+1) k L p=match hkZ k L p with
  | .error e=>.error e
  | .ok (h,p1)=>if pkG starsT (L.drop p1)=true then (match hsZ f (k+1) L p1 with
   | .error e=>.error e
   | .ok (l,p2)=>.ok (h::l,p2)) else .ok ([h],p1):=by
 unfold hsZ hkZ
 simp only[cxHs]
 cases h1:cxH k p (L.drop p) with
 | error e=>rfl
 | ok z =>
  obtain⟨h,p1,r⟩:=z
  obtain⟨rfl,_⟩:=ZmO h1
  dsimp only
  have e:pkS (L.drop p1)=pkG starsT (L.drop p1):=by cases L.drop p1<;>rfl
  rw[e]
  by_cases h2:pkG starsT (L.drop p1)=true
  ·rw[if_pos h2,if_pos h2]
   cases cxHs f (k+1) p1 (L.drop p1) with
   | error e=>rfl
   | ok z=>rfl
  ·rw[if_neg h2,if_neg h2]
theorem ZmQ (f:Nat):∀ {k p p1:Nat} {L r:List (List UInt8)} {hs:List Hk},cxHs f k p (L.drop p)=.ok (hs,p1,r)→r=L.drop p1∧p<p1:=by
 induction f with
 | zero=>intro k p p1 L r hs h;cases h
 | succ f ih =>
  intro k p p1 L r hs h
  simp only[cxHs] at h
  cases h1:cxH k p (L.drop p) with
  | error e=>rw[h1] at h;cases h
  | ok z =>
   obtain⟨h0,p2,r2⟩:=z
   obtain⟨rfl,q1⟩:=ZmO h1
   rw[h1] at h
   dsimp only at h
   split at h
   ·cases h2:cxHs f (k+1) p2 (L.drop p2) with
    | error e=>rw[h2] at h;cases h
    | ok z =>
     obtain⟨l,p3,r3⟩:=z
     obtain⟨q2,q3⟩:=ih h2
     rw[h2] at h
     cases h
     exact⟨q2,by omega⟩
   ·cases h
    exact⟨rfl,by omega⟩
def paZ (k:Nat) (L:List (List UInt8)) (p:Nat):Except (Nat × Int) (Pth × Nat):=match patP k p (L.drop p) with
 | .error e=>.error e
 | .ok (x,p3,_)=>.ok (x,p3)
theorem ZoS (k:Nat) (L:List (List UInt8)) (p:Nat):paZ k L p=match nmZ [42,42,42,32] L (.ok p) with
  | .error e=>.error e
  | .ok (n1,p1)=>if 64≤k then .error (p1,9) else match nmZ [45,45,45,32] L (.ok p1) with
   | .error e=>.error e
   | .ok (n2,p2)=>match hsZ ((L.drop p2).length+1) 0 L p2 with
    | .error e=>.error e
    | .ok (hs,p3)=>.ok (⟨n1,n2,hs⟩,p3):=by
 unfold paZ patP nmZ
 dsimp only
 cases h1:namP [42,42,42,32] p (L.drop p) with
 | error e=>rfl
 | ok z =>
  obtain⟨n1,r1⟩:=z
  obtain⟨rfl,_⟩:=ZgG h1
  dsimp only
  by_cases h2:64≤k
  ·rw[if_pos h2,if_pos h2]
  ·rw[if_neg h2,if_neg h2]
   cases h3:namP [45,45,45,32] (p+1) (L.drop (p+1)) with
   | error e=>rfl
   | ok z =>
    obtain⟨n2,r2⟩:=z
    obtain⟨rfl,_⟩:=ZgG h3
    dsimp only
    unfold hsZ
    cases cxHs ((L.drop (p+1+1)).length+1) 0 (p+2) (L.drop (p+1+1)) with
    | error e=>rfl
    | ok z=>rfl
theorem Zph (f k:Nat) (L:List (List UInt8)) (p:Nat):cxPs (f+1) k p (L.drop p)=if L.length≤p then .ok [] else match paZ k L p with
  | .error e=>.error e
  | .ok (x,p3)=>match cxPs f (k+1) p3 (L.drop p3) with
   | .error e=>.error e
   | .ok l=>.ok (x::l):=by
 rw[Zcz]
 by_cases h0:L.length≤p
 ·rw[if_pos h0,if_pos (List.drop_eq_nil_of_le h0)]
 ·rw[if_neg h0,if_neg (fun q=>h0 (List.drop_eq_nil_iff.1 q))]
  unfold paZ
  cases h1:patP k p (L.drop p) with
  | error e=>rfl
  | ok z =>
   obtain⟨x,p3,r3⟩:=z
   dsimp only
   have h2:r3=L.drop p3:=by
    unfold patP at h1
    cases h3:namP [42,42,42,32] p (L.drop p) with
    | error e=>rw[h3] at h1;cases h1
    | ok z =>
     obtain⟨n1,r1⟩:=z
     obtain⟨rfl,_⟩:=ZgG h3
     rw[h3] at h1
     dsimp only at h1
     split at h1
     ·cases h1
     ·cases h4:namP [45,45,45,32] (p+1) (L.drop (p+1)) with
      | error e=>rw[h4] at h1;cases h1
      | ok z =>
       obtain⟨n2,r2⟩:=z
       obtain⟨rfl,_⟩:=ZgG h4
       rw[h4] at h1
       dsimp only at h1
       cases h5:cxHs ((L.drop (p+1+1)).length+1) 0 (p+2) (L.drop (p+1+1)) with
       | error e=>rw[h5] at h1;cases h1
       | ok z =>
        obtain⟨hs,p4,r4⟩:=z
        rw[h5] at h1
        cases h1
        exact (ZmQ _ (p:=p+2) h5).1
   rw[h2]
   cases cxPs f (k+1) p3 (L.drop p3)<;>rfl
end

section
open Ln
abbrev HkF:=Nat→List (List UInt8)→Nat→Except (Nat × Int) (Hk × Nat)
def gHs (G:HkF) (x:List UInt8) (L:List (List UInt8)):Nat→Nat→Nat→Except (Nat × Int) (List Hk × Nat)
 | 0,_,p=>.error (p+1,1)
 | f+1,k,p=>match G k L p with
  | .error e=>.error e
  | .ok (h,p1)=>if pkG x (L.drop p1)=true then (match gHs G x L f (k+1) p1 with
    | .error e=>.error e
    | .ok (l,p2)=>.ok (h::l,p2)) else .ok ([h],p1)
def gLf (G:HkF) (x:List UInt8) (L:List (List UInt8)) (l:List Hk) (f p:Nat):Except (Nat × Int) (List Hk × Nat) :=
 if (decide (l=[]) || pkG x (L.drop p))=true then (match gHs G x L f l.length p with
  | .error e=>.error e
  | .ok (m,p2)=>.ok (l++m,p2)) else .ok (l,p)
theorem Znm (G:HkF) (x:List UInt8) (L:List (List UInt8)) (f p:Nat):gLf G x L [] f p=gHs G x L f 0 p:=by
 unfold gLf
 rw[if_pos (by simp),List.length_nil]
 cases gHs G x L f 0 p with
 | error e=>rfl
 | ok z=>rfl
theorem Znn {G:HkF} {x:List UInt8} {L:List (List UInt8)} {l:List Hk} {p:Nat} (h:(decide (l=[]) || pkG x (L.drop p))=false) (f:Nat):gLf G x L l f p=.ok (l,p):=by
 unfold gLf
 rw[if_neg (by rw[h];decide)]
theorem Znl {G:HkF} {x:List UInt8} {L:List (List UInt8)} {l:List Hk} {p:Nat} (h:(decide (l=[]) || pkG x (L.drop p))=true) (f:Nat):gLf G x L l (f+1) p=match G l.length L p with
  | .error e=>.error e
  | .ok (y,p1)=>gLf G x L (l++[y]) f p1:=by
 unfold gLf
 rw[if_pos h]
 simp only[gHs]
 cases G l.length L p with
 | error e=>rfl
 | ok z =>
  obtain⟨y,p1⟩:=z
  dsimp only
  have e1:(decide (l++[y]=[]) || pkG x (L.drop p1))=pkG x (L.drop p1):=by simp
  have e2:(l++[y]).length=l.length+1:=by simp
  rw[e1,e2]
  by_cases h2:pkG x (L.drop p1)=true
  ·rw[if_pos h2,if_pos h2]
   cases gHs G x L f (l.length+1) p1 with
   | error e=>rfl
   | ok z=>simp
  ·rw[if_neg h2,if_neg h2]
def gIn (n1 n2:List UInt8) (Y:Except (Nat × Int) (List Hk × Nat)):Except (Nat × Int) (Pth × Nat):=match Y with
 | .error e=>.error e
 | .ok (hs,p3)=>.ok (⟨n1,n2,hs⟩,p3)
def gPa (G:HkF) (x a1 a2:List UInt8) (L:List (List UInt8)) (k p:Nat):Except (Nat × Int) (Pth × Nat):=match nmZ a1 L (.ok p) with
  | .error e=>.error e
  | .ok (n1,p1)=>if 64≤k then .error (p1,9) else match nmZ a2 L (.ok p1) with
   | .error e=>.error e
   | .ok (n2,p2)=>gIn n1 n2 (gHs G x L ((L.drop p2).length+1) 0 p2)
def gPs (G:HkF) (x a1 a2:List UInt8) (L:List (List UInt8)):Nat→Nat→Nat→Except (Nat × Int) (List Pth)
 | 0,_,_=>.ok []
 | f+1,k,p=>if L.length≤p then .ok [] else match gPa G x a1 a2 L k p with
  | .error e=>.error e
  | .ok (y,p3)=>match gPs G x a1 a2 L f (k+1) p3 with
   | .error e=>.error e
   | .ok l=>.ok (y::l)
def GOk (G:HkF) (L:List (List UInt8)):Prop:=∀ k p h p1,G k L p=.ok (h,p1)→p<p1∧p1≤L.length
theorem ZoB {ah:List UInt8} {L:List (List UInt8)} {p p1:Nat} {n:List UInt8} (h:nmZ ah L (.ok p)=.ok (n,p1)):p1=p+1∧p<L.length:=by
 unfold nmZ at h
 dsimp only at h
 cases h1:namP ah p (L.drop p) with
 | error e=>rw[h1] at h;cases h
 | ok z =>
  obtain⟨n1,r1⟩:=z
  obtain⟨_,h2⟩:=ZgG h1
  rw[h1] at h
  cases h
  exact⟨rfl,h2⟩
theorem Znk {G:HkF} {x:List UInt8} {L:List (List UInt8)} (hG:GOk G L) (f:Nat):∀ {k p p1:Nat} {hs:List Hk},gHs G x L f k p=.ok (hs,p1)→p<p1∧p1≤L.length:=by
 induction f with
 | zero=>intro k p p1 hs h;cases h
 | succ f ih =>
  intro k p p1 hs h
  simp only[gHs] at h
  cases h1:G k L p with
  | error e=>rw[h1] at h;cases h
  | ok z =>
   obtain⟨y,p2⟩:=z
   have h2:=hG _ _ _ _ h1
   rw[h1] at h
   dsimp only at h
   split at h
   ·cases h3:gHs G x L f (k+1) p2 with
    | error e=>rw[h3] at h;cases h
    | ok z =>
     obtain⟨l,p3⟩:=z
     have h4:=ih h3
     rw[h3] at h
     cases h
     omega
   ·cases h
    exact h2
theorem Znr {G:HkF} {x a1 a2:List UInt8} {L:List (List UInt8)} (hG:GOk G L) {k p p3:Nat} {y:Pth} (h:gPa G x a1 a2 L k p=.ok (y,p3)):p<p3∧p3≤L.length∧k<64:=by
 unfold gPa at h
 cases h1:nmZ a1 L (.ok p) with
 | error e=>rw[h1] at h;cases h
 | ok z =>
  obtain⟨n1,p1⟩:=z
  obtain⟨rfl,_⟩:=ZoB h1
  rw[h1] at h
  dsimp only at h
  split at h
  ·cases h
  ·cases h2:nmZ a2 L (.ok (p+1)) with
   | error e=>rw[h2] at h;cases h
   | ok z =>
    obtain⟨n2,p2⟩:=z
    obtain⟨rfl,_⟩:=ZoB h2
    rw[h2] at h
    dsimp only at h
    cases h3:gHs G x L ((L.drop (p+1+1)).length+1) 0 (p+1+1) with
    | error e=>rw[h3] at h;cases h
    | ok z =>
     obtain⟨hs,p4⟩:=z
     have h4:=Znk hG _ h3
     rw[h3] at h
     cases h
     omega
theorem Znu {G:HkF} {x a1 a2:List UInt8} {L:List (List UInt8)} {p:Nat} (h:L.length≤p) (f k:Nat) (l:List Pth):thenPs l (gPs G x a1 a2 L f k p)=.ok l:=by
 cases f with
 | zero=>simp[gPs,thenPs]
 | succ f=>simp[gPs,thenPs,h]
theorem Znv {G:HkF} {x a1 a2:List UInt8} {L:List (List UInt8)} {p:Nat} (h:p<L.length) (f k:Nat) (l:List Pth):thenPs l (gPs G x a1 a2 L (f+1) k p)=match gPa G x a1 a2 L k p with
  | .error e=>.error e
  | .ok (y,p3)=>thenPs (l++[y]) (gPs G x a1 a2 L f (k+1) p3):=by
 simp only[gPs]
 rw[if_neg (by omega)]
 cases gPa G x a1 a2 L k p with
 | error e=>rfl
 | ok z =>
  obtain⟨y,p3⟩:=z
  dsimp only
  cases gPs G x a1 a2 L f (k+1) p3 with
  | error e=>rfl
  | ok l=>simp[thenPs]
/- layer 15 -/
theorem hs_g (f:Nat):∀ (k:Nat) (L:List (List UInt8)) (p:Nat),hsZ f k L p=gHs hkZ starsT L f k p:=by
 induction f with
 | zero=>intro k L p;rfl
 | succ f ih =>
  intro k L p
  rw[ZnO]
  simp only[gHs]
  cases hkZ k L p with
  | error e=>rfl
  | ok z =>
   obtain⟨h,p1⟩:=z
   dsimp only
   rw[ih]
   cases gHs hkZ starsT L f (k+1) p1<;>rfl
theorem ps_g (f:Nat):∀ (k:Nat) (L:List (List UInt8)) (p:Nat),cxPs f k p (L.drop p)=gPs hkZ starsT [42,42,42,32] [45,45,45,32] L f k p:=by
 induction f with
 | zero=>intro k L p;rfl
 | succ f ih =>
  intro k L p
  rw[Zph,ZoS]
  simp only[gPs,gPa]
  by_cases h0:L.length≤p
  ·rw[if_pos h0,if_pos h0]
  ·rw[if_neg h0,if_neg h0]
   cases nmZ [42,42,42,32] L (.ok p) with
   | error e=>rfl
   | ok z =>
    obtain⟨n1,p1⟩:=z
    dsimp only
    by_cases h1:64≤k
    ·rw[if_pos h1,if_pos h1]
    ·rw[if_neg h1,if_neg h1]
     cases nmZ [45,45,45,32] L (.ok p1) with
     | error e=>rfl
     | ok z =>
      obtain⟨n2,p2⟩:=z
      dsimp only
      rw[hs_g]
      cases gHs hkZ starsT L ((L.drop p2).length+1) 0 p2 with
      | error e=>rfl
      | ok z =>
       obtain⟨hs,p3⟩:=z
       dsimp only[gIn]
       rw[ih]
       cases gPs hkZ starsT [42,42,42,32] [45,45,45,32] L f (k+1) p3<;>rfl
theorem gok15 (L:List (List UInt8)):GOk hkZ L:=by
 intro k p h p1 hh
 unfold hkZ at hh
 cases h1:cxH k p (L.drop p) with
 | error e=>rw[h1] at hh;cases hh
 | ok z =>
  obtain⟨h0,p2,r⟩:=z
  rw[h1] at hh
  cases hh
  have hk:k≤4096:=by
   unfold cxH at h1
   split at h1
   ·cases h1
   ·split at h1
    ·split at h1
     ·cases h1
     ·omega
    ·cases h1
  have:=Zcw hk h1
  omega
end

section
open Go.RowKit
end

section
open Go.RowKit
theorem Zqa (t:List UInt8) (w:World) (hlong:1048576<t.length) :
  Calls Tryz.prog 60 #[.string ⟨t.toArray⟩] w fun e w'=>e=.returned (.pointer (some ⟨w.heap.size,0,none⟩))∧Rx w' w.heap.size (.slice none 0 0) 0 0 9∧Below w.heap.size w w':=by
 have HA:Hid (Rx (w.alloc (rdO (.slice none 0 0) 0 0 9)) w.heap.size (.slice none 0 0) 0 0 9∧Below w.heap.size w (w.alloc (rdO (.slice none 0 0) 0 0 9))):=⟨heap_alloc_new w _,(Below.refl _ w).alloc (Nat.le_refl _) _⟩
 have i1:(1048576:Int)<(t.length:Int):=by omega
 go_enter Tryz.func60,Tryz.ntmps60
 go_wp2
 go_ret
 exact⟨rfl,HA.out.1,HA.out.2⟩
theorem ZpZ (t:List UInt8) (w:World) (hl:t.length≤1048576) :
  Calls Tryz.prog 60 #[.string ⟨t.toArray⟩] w fun e w'=>∃ R lo lc,e=.returned (.pointer (some ⟨R,0,none⟩))∧Rx w' R (.slice lo (Ln.splitL t).length lc) 0 0 0∧w'.ownsRow w.heap.size 9 1 (.slice lo (Ln.splitL t).length lc) (Ln.splitL t).length (scells (Ln.splitL t))∧(∀ a,lo=some a→a.block≠R)∧w.heap.size≤R∧Below w.heap.size w w':=by
 have hs:=Zql t w (by omega)
 have i1:¬ (1048576:Int)<(t.length:Int):=by omega
 generalize Ln.splitL t=L at *
 go_enter Tryz.func60,Tryz.ntmps60
 go_wp2_with fail
 refine hs.mono ?_
 rintro e w1 ⟨v,rfl,hown,hb⟩
 have hL:HS w1 v L:=Zeo hown
 obtain⟨lo,lc,rfl⟩:=Holds.form hL
 have HA:Hid (Rx (w1.alloc (rdO (.slice lo L.length lc) 0 0 0)) w1.heap.size (.slice lo L.length lc) 0 0 0∧(w1.alloc (rdO (.slice lo L.length lc) 0 0 0)).ownsRow w.heap.size 9 1 (.slice lo L.length lc) L.length (scells L)∧(∀ a,lo=some a→a.block≠w1.heap.size)∧w.heap.size≤w1.heap.size∧Below w.heap.size w (w1.alloc (rdO (.slice lo L.length lc) 0 0 0))):=(by
  refine⟨heap_alloc_new w1 _,hown.alloc _,?_,hb.size,hb.alloc hb.size _⟩
  intro a ha e
  rcases hown.2 with ⟨h1,_⟩ | ⟨g,cap,cur,h1,_,h2,_⟩
  ·injection h1 with h3 _ _
   rw[h3] at ha
   cases ha
  ·cases h1
   cases ha
   have:=(Array.getElem?_eq_some_iff.1 h2).1
   dsimp only at e
   omega)
 clear hs hb
 go_wp2
 go_ret
 exact⟨_,_,_,rfl,HA.out⟩
end

section
open Go.RowKit Go.Proofs.YtcniomgjikienaaGreatDoor.Tx
theorem ZqE {P:Program} {fn:Func} {p q:Tmp} {ty:TypeId} (h:fn.results=#[.tmp q,.cell p ty]) (tmps:Array Value) (w:World) (g:Nat) (t:TypeId) (cs:Array Value) (fr:Nat × Nat) (d:TypeDesc)
  (hp:tmps.getD p undef=.pointer (some ⟨g,0,none⟩)) (hg:w.heap[g]?=some (.cells cs t fr))
  (hu:P.underlying ty=some d) (hd:(match d with | .struct _ | .array _ _=>true | _=>false)=true) (hi:(P.info? ty).map (·.size)=some cs.size) :
  (results fn tmps).run P w=.ok (.tuple #[tmps.getD q undef,.agg cs]) w:=by
 have hp':tmps[p]?.getD undef=.pointer (some ⟨g,0,none⟩):=by simpa using hp
 simp[results,h,hp',asAddr,run_loadVar_row w g t ty cs fr d hg hu hd hi,Result.andThen]
theorem RdZ.blk {u:World} {R:Nat} {vL:Value} {st:Except (Nat × Int) Nat} (h:RdZ u R vL st):∃ cs,u.heap[R]?=some (.cells cs 123):=by
 match st,h with
 | .ok _,h=>exact⟨_,h⟩
 | .error (_,_),⟨⟨_,h⟩,_⟩=>exact⟨_,h⟩
def mrZ (L:List (List UInt8)):Except (Nat × Int) Nat→Bool
 | .error _=>false
 | .ok p=>decide (p<L.length)
theorem Zno {R:Nat} {L:List (List UInt8)} {lo:Option Addr} {lc:Nat} {st:Except (Nat × Int) Nat} (w:World) (q:RdZ w R (.slice lo L.length lc) st) (b:Bool) (HB:Hid (mrZ L st=b)) :
  Calls Tryz.prog 61 #[.pointer (some ⟨R,0,none⟩)] w fun x w'=>x=.returned (.bool b)∧∃ m,w'=w.drewN m:=by
 match st,q,HB with
 | .error (a,z),⟨⟨p,q⟩,hz⟩,HB =>
  have hb:=HB.out
  refine (ZpG w q).mono ?_
  rintro x w' ⟨rfl,m,rfl⟩
  refine⟨?_,m,rfl⟩
  rw[← hb,decide_eq_false hz,Bool.false_and]
  rfl
 | .ok p,q,HB =>
  have hb:=HB.out
  refine (ZpG w q).mono ?_
  rintro x w' ⟨rfl,m,rfl⟩
  refine⟨?_,m,rfl⟩
  rw[← hb,decide_eq_true (rfl:(0:Int)=0),Bool.true_and]
  rfl
def nmN (Z:Except (Nat × Int) (List UInt8 × Nat)):List UInt8:=match Z with
 | .error _=>[]
 | .ok (n,_)=>n
theorem NxQ.st {R:Nat} {vL:Value} {Z:Except (Nat × Int) (List UInt8 × Nat)} {x:Ending} {w':World} (h:NxQ R vL Z x w'):x=.returned (.string ⟨(nmN Z).toArray⟩)∧RdZ w' R vL (stP Z):=by
 rcases Z with e | ⟨n,p1⟩
 ·exact h
 ·exact h
def naS (a1 _a2:List UInt8) (L:List (List UInt8)) (k:Nat) (st:Except (Nat × Int) Nat):Except (Nat × Int) Nat:=if 64≤k then flS 9 (stP (nmZ a1 L st)) else stP (nmZ a1 L st)
def gTo (G:HkF) (x:List UInt8) (L:List (List UInt8)) (n1 n2:List UInt8):Except (Nat × Int) Nat→Except (Nat × Int) (Pth × Nat)
 | .error e=>.error e
 | .ok p2=>gIn n1 n2 (gHs G x L ((L.drop p2).length+1) 0 p2)
theorem Zns {G:HkF} {x a1 a2:List UInt8} {L:List (List UInt8)} {k p:Nat}:gPa G x a1 a2 L k p=gTo G x L (nmN (nmZ a1 L (.ok p))) (nmN (nmZ a2 L (naS a1 a2 L k (.ok p)))) (stP (nmZ a2 L (naS a1 a2 L k (.ok p)))):=by
 unfold gPa naS
 cases h1:nmZ a1 L (.ok p) with
 | error e =>
  have h2:(if 64≤k then flS 9 (stP (Except.error e:Except (Nat × Int) (List UInt8 × Nat))) else stP (Except.error e:Except (Nat × Int) (List UInt8 × Nat)))=.error e:=(by split<;>rfl)
  rw[h2]
  rfl
 | ok z =>
  obtain⟨n1,p1⟩:=z
  dsimp only[stP]
  by_cases h2:64≤k
  ·rw[if_pos h2,if_pos h2]
   rfl
  ·rw[if_neg h2,if_neg h2]
   cases h3:nmZ a2 L (.ok p1) with
   | error e=>rfl
   | ok z=>rfl
theorem Zow {a1 a2:List UInt8} {L:List (List UInt8)} {k p p2:Nat} (h:stP (nmZ a2 L (naS a1 a2 L k (.ok p)))=.ok p2):p<p2∧p2≤L.length:=by
 cases h1:naS a1 a2 L k (.ok p) with
 | error e=>rw[h1] at h;cases h
 | ok p1 =>
  rw[h1] at h
  cases h2:nmZ a2 L (.ok p1) with
  | error e=>rw[h2] at h;cases h
  | ok z =>
   obtain⟨n2,q2⟩:=z
   obtain⟨e1,e2⟩:=ZoB h2
   rw[h2] at h
   cases h
   have h3:p<p1:=by
    unfold naS at h1
    cases h4:nmZ a1 L (.ok p) with
    | error e =>
     rw[h4] at h1
     split at h1<;>cases h1
    | ok z =>
     obtain⟨n1,q1⟩:=z
     obtain⟨e3,_⟩:=ZoB h4
     rw[h4] at h1
     split at h1
     ·cases h1
     ·cases h1
      omega
   omega
theorem Zov {a1 a2:List UInt8} {L:List (List UInt8)} {k p p1:Nat} (h:naS a1 a2 L k (.ok p)=.ok p1):p1≤L.length:=by
 unfold naS at h
 cases h4:nmZ a1 L (.ok p) with
 | error e =>
  rw[h4] at h
  split at h<;>cases h
 | ok z =>
  obtain⟨n1,q1⟩:=z
  obtain⟨e3,_⟩:=ZoB h4
  rw[h4] at h
  split at h
  ·cases h
  ·cases h
   omega
def gSt (G:HkF) (x:List UInt8) (L:List (List UInt8)) (l:List Hk) (f:Nat) (Y:Except (Nat × Int) (List Hk × Nat)):Except (Nat × Int) Nat→Prop
 | .error e=>Y=.error e
 | .ok p=>gLf G x L l f p=Y∧p≤L.length∧L.length<f+p∧l.length≤p
def gOt (G:HkF) (x a1 a2:List UInt8) (L:List (List UInt8)) (l:List Pth) (f:Nat) (X:Except (Nat × Int) (List Pth)):Except (Nat × Int) Nat→Prop
 | .error e=>X=.error e
 | .ok p=>thenPs l (gPs G x a1 a2 L f l.length p)=X∧p≤L.length∧L.length≤f+p∧l.length≤p
def gEn (n1 n2:List UInt8) (l:List Hk) (Z:Except (Nat × Int) (Pth × Nat)):Except (Nat × Int) Nat→Prop
 | .error e=>Z=.error e
 | .ok p=>Z=.ok (⟨n1,n2,l⟩,p)
theorem Znq {G:HkF} {x a1 a2:List UInt8} {L:List (List UInt8)} (hG:GOk G L) {l:List Pth} {f p:Nat} {X:Except (Nat × Int) (List Pth)} (hp:p<L.length) (h:thenPs l (gPs G x a1 a2 L f l.length p)=X∧p≤L.length∧L.length≤f+p∧l.length≤p) {n1 n2:List UInt8} {hs:List Hk} {st:Except (Nat × Int) Nat} (hE:gEn n1 n2 hs (gPa G x a1 a2 L l.length p) st):gOt G x a1 a2 L (l++[⟨n1,n2,hs⟩]) (f-1) X st:=by
 obtain⟨h1,h2,h3,h4⟩:=h
 obtain⟨f',rfl⟩:∃ f',f=f'+1:=⟨f-1,by omega⟩
 rw[Znv hp] at h1
 cases st with
 | error e =>
  have hE2:gPa G x a1 a2 L l.length p=.error e:=hE
  rw[hE2] at h1
  exact h1.symm
 | ok p3 =>
  have hE2:gPa G x a1 a2 L l.length p=.ok (⟨n1,n2,hs⟩,p3):=hE
  have h5:=Znr hG hE2
  rw[hE2] at h1
  refine⟨?_,h5.2.1,by omega,by rw[List.length_append];simp;omega⟩
  rw[List.length_append]
  exact h1
structure Pzr (wb:World) (R S:Nat) (vL:Value) (n1 n2:List UInt8) (hv:Value) (P:List (Hk × Value)) (st:Except (Nat × Int) Nat) (u:World):Prop where
 gr:wb.grownBy u (some R)
 box:u.heap[S]?=some (.cells #[.string ⟨n1.toArray⟩,.string ⟨n2.toArray⟩,hv] 42)
 own:u.ownsRow wb.heap.size 45 5 hv P.length (hkcells P)
 ins:∀ x∈P,u.ownsRow wb.heap.size 47 2 x.2 x.1.ls.length (mkcells x.1.ls)
 rd:RdZ u R vL st
 ge:wb.heap.size≤S
 rl:R<wb.heap.size
section
variable {wb u u':World} {R S:Nat} {vL hv:Value} {n1 n2:List UInt8} {P:List (Hk × Value)} {st st':Except (Nat × Int) Nat}
theorem Pzr.keep (h:Pzr wb R S vL n1 n2 hv P st u) (hb:Below u.heap.size u u'):Pzr wb R S vL n1 n2 hv P st u':=⟨ZdT h.gr (ZfO hb _),(hb.block S (Array.getElem?_eq_some_iff.1 h.box).1).trans h.box,ZhK h.own hb,fun x hx=>ZhK (h.ins x hx) hb,h.rd.low hb,h.ge,h.rl⟩
theorem Pzr.ne (h:Pzr wb R S vL n1 n2 hv P st u):R≠S:=by have h1:=h.ge;have h2:=h.rl;omega
theorem Pzr.call (h:Pzr wb R S vL n1 n2 hv P st u) (hg:u.grownBy u' (some R)) (q:RdZ u' R vL st'):Pzr wb R S vL n1 n2 hv P st' u':=⟨ZdT h.gr hg,(hg.block S (Array.getElem?_eq_some_iff.1 h.box).1 (fun e=>h.ne (Option.some.inj e).symm)).trans h.box,ZhI h.own hg h.rl,fun x hx=>ZhI (h.ins x hx) hg h.rl,q,h.ge,h.rl⟩
theorem Pzr.cells (h:Pzr wb R S vL n1 n2 hv P st u):u.cell? ⟨S,0,none⟩=some (.string ⟨n1.toArray⟩)∧u.cell? ⟨S,1,none⟩=some (.string ⟨n2.toArray⟩)∧u.cell? ⟨S,2,none⟩=some hv:=by
 refine⟨?_,?_,?_⟩<;>rw[Lib.cell_of_heap h.box]<;>rfl
theorem Pzr.frozen (h:Pzr wb R S vL n1 n2 hv P st u) (j:Nat):u.frozen? ⟨S,j,none⟩=false:=Lib.frozen_of_heap h.box j
theorem Pzr.put (h:Pzr wb R S vL n1 n2 hv P st u) (j:Nat) (z:Value) {m1 m2:List UInt8} {hv':Value} (hc:#[Value.string ⟨n1.toArray⟩,.string ⟨n2.toArray⟩,hv].setIfInBounds j z=#[.string ⟨m1.toArray⟩,.string ⟨m2.toArray⟩,hv']) (ho:u.ownsRow wb.heap.size 45 5 hv' P.length (hkcells P)):Pzr wb R S vL m1 m2 hv' P st (u.setCell ⟨S,j,none⟩ z):=by
 have hg:=ZdS u S j z
 refine⟨ZdR h.gr h.ge j z,?_,ho.kept hg (.inr (ZhE ho h.box (by decide))),fun x hx=>(h.ins x hx).kept hg (.inr (ZhE (h.ins x hx) h.box (by decide))),h.rd.off hg (fun e=>h.ne (Option.some.inj e)),h.ge,h.rl⟩
 have:=heap_setCell_same u S j _ _ z h.box
 rw[hc] at this
 exact this
theorem Pzr.more (h:Pzr wb R S vL n1 n2 hv P st u) {x:Hk} {y hv':Value} (hy:u.ownsRow wb.heap.size 47 2 y x.ls.length (mkcells x.ls)) (hg:u.grownBy u' hv.ownBlock) (ho:u'.ownsRow wb.heap.size 45 5 hv' (P.length+1) (hkcells P++hkC x y)) :
  Pzr wb R S vL n1 n2 hv' (P++[(x,y)]) st (u'.setCell ⟨S,2,none⟩ hv')∧u'.cell? ⟨S,2,none⟩=some hv∧u'.frozen? ⟨S,2,none⟩=false:=by
 have hge:∀ j,hv.ownBlock=some j→wb.heap.size≤j:=fun j hj=>ZhJ h.own hj
 have hb:u'.heap[S]?=some (.cells #[.string ⟨n1.toArray⟩,.string ⟨n2.toArray⟩,hv] 42):=(hg.block S (Array.getElem?_eq_some_iff.1 h.box).1 (fun e=>ZhE h.own h.box (by decide) e.symm)).trans h.box
 have hgR:wb.grownBy u' (some R):=⟨hg.os.trans h.gr.os,hg.tape.trans h.gr.tape,hg.output.trans h.gr.output,Nat.le_trans h.gr.size hg.size,fun k h1 h2=>(hg.block k (Nat.lt_of_lt_of_le h1 h.gr.size) (fun e=>by have:=hge k e.symm;omega)).trans (h.gr.block k h1 h2)⟩
 have hck:RdZ u' R vL st:=h.rd.off hg (fun e=>by have:=hge R e.symm;have:=h.rl;omega)
 have key:∀ {v:Value} {n:Nat} {xs:List Value},u.ownsRow wb.heap.size 47 2 v n xs→u'.ownsRow wb.heap.size 47 2 v n xs:=by
  intro v n xs hv2
  refine⟨hv2.1,?_⟩
  rcases hv2.2 with q | ⟨b,cap,cur,rfl,q2,q3,q4⟩
  ·exact .inl q
  ·refine .inr ⟨b,cap,cur,rfl,q2,?_,q4⟩
   rw[hg.block b (Array.getElem?_eq_some_iff.1 q3).1 (fun e=>ZhE h.own q3 (by decide) e.symm)]
   exact q3
 have hg2:=ZdS u' S 2 hv'
 have hkc:hkcells (P++[(x,y)])=hkcells P++hkC x y:=by rw[Zeh];simp[hkcells,hkC]
 refine⟨⟨ZdR hgR h.ge 2 hv',heap_setCell_same u' S 2 _ _ hv' hb,?_,?_,hck.off hg2 (fun e=>h.ne (Option.some.inj e)),h.ge,h.rl⟩,by rw[Lib.cell_of_heap hb];rfl,Lib.frozen_of_heap hb 2⟩
 ·rw[List.length_append,hkc]
  exact ho.kept hg2 (.inr (ZhE ho hb (by decide)))
 ·intro z hz
  rcases List.mem_append.1 hz with hz | hz
  ·exact (key (h.ins z hz)).kept hg2 (.inr (ZhE (key (h.ins z hz)) hb (by decide)))
  ·rw[List.mem_singleton.1 hz]
   exact (key hy).kept hg2 (.inr (ZhE (key hy) hb (by decide)))
end
structure Rg (w:World) (R:Nat) (L:List (List UInt8)) (vL ov:Value) (F:List Pfd) (st:Except (Nat × Int) Nat) (u:World):Prop where
 pw:Pw w ov F u
 f0:u.heap[w.heap.size]?=some (.cells #[.int .i64 0,.int .i64 0] 29)
 rd:RdZ u R vL st
 rl:w.heap.size<R
 ln:u.ownsRow w.heap.size 9 1 vL L.length (scells L)
section
variable {w u u':World} {R:Nat} {L:List (List UInt8)} {vL ov:Value} {F:List Pfd} {st st':Except (Nat × Int) Nat}
theorem Rg.keep (h:Rg w R L vL ov F st u) (hb:Below u.heap.size u u'):Rg w R L vL ov F st u':=⟨⟨h.pw.low.trans (hb.mono h.pw.low.size),ZhK h.pw.own hb,fun f hf=>(h.pw.ins f hf).keep hb⟩,(hb.block _ (Array.getElem?_eq_some_iff.1 h.f0).1).trans h.f0,h.rd.low hb,h.rl,ZhK h.ln hb⟩
theorem Rg.call (h:Rg w R L vL ov F st u) (hg:u.grownBy u' (some R)) (q:RdZ u' R vL st'):Rg w R L vL ov F st' u':=by
 have hk:∀ k x,k≠R→u.heap[k]?=some x→u'.heap[k]?=some x:=fun k _ hk hx=>(hg.block k (Array.getElem?_eq_some_iff.1 hx).1 (fun e=>hk (Option.some.inj e))).trans hx
 obtain⟨cs,hb⟩:=h.rd.blk
 have hr:=h.rl
 exact⟨⟨h.pw.low.grown hg h.pw.low.size (fun k e=>by cases e;omega),h.pw.own.kept hg (.inr (ZhE h.pw.own hb (by decide))),fun f hf=>(h.pw.ins f hf).box hb (by decide) (by decide) hg⟩,hk _ _ (by omega) h.f0,q,h.rl,h.ln.kept hg (.inr (ZhE h.ln hb (by decide)))⟩
theorem Rg.lines (h:Rg w R L vL ov F st u) (hg:u.grownBy u' (some R)):HS u' vL L:=by
 obtain⟨cs,hb⟩:=h.rd.blk
 exact Zeo (h.ln.kept hg (.inr (ZhE h.ln hb (by decide))))
theorem Rg.ne (h:Rg w R L vL ov F st u) {lo:Option Addr} {n c:Nat} (hv:vL=.slice lo n c):∀ a,lo=some a→a.block≠R:=by
 obtain⟨cs,hb⟩:=h.rd.blk
 intro a ha e
 subst hv
 subst ha
 rcases h.ln.2 with ⟨q,_⟩ | ⟨b,cap,cur,q1,q2,q3,q4⟩
 ·cases q
 ·cases q1
  dsimp only at e
  subst e
  rw[hb] at q3
  cases q3
theorem Rg.more (h:Rg w R L vL ov F st u) {f:Pfd} {ov':Value} (hy:Pown w.heap.size u f) (hg:u.grownBy u' ov.ownBlock) (ho:u'.ownsRow w.heap.size 42 3 ov' (F.length+1) (pxcells F++pxC f)):Rg w R L vL ov' (F++[f]) st u':=by
 have hk:∀ (k:Nat) (cs:Array Value) (t:TypeId) (fr:Nat × Nat),t≠42→u.heap[k]?=some (Obj.cells cs t fr)→u'.heap[k]?=some (Obj.cells cs t fr):=fun k cs t fr ht hx=>(hg.block k (Array.getElem?_eq_some_iff.1 hx).1 (fun e=>ZhE h.pw.own hx ht.symm e.symm)).trans hx
 obtain⟨cs,hb⟩:=h.rd.blk
 have hne:some R≠ov.ownBlock:=fun e=>ZhE h.pw.own hb (by decide) e.symm
 have hin:∀ g,Pown w.heap.size u g→Pown w.heap.size u' g:=fun g hp=>⟨hp.eq,ZjA hp.own h.pw.own (by decide) hg,fun y hy=>ZjA (hp.ins y hy) h.pw.own (by decide) hg⟩
 have hlow:=h.pw.low.grown hg h.pw.low.size (fun k e=>ZhJ h.pw.own e)
 refine⟨⟨hlow,?_,?_⟩,hk _ _ _ _ (by decide) h.f0,h.rd.off hg hne,h.rl,ZjA h.ln h.pw.own (by decide) hg⟩
 ·have e1:pxcells (F++[f])=pxcells F++pxC f:=by simp[pxcells]
  rw[List.length_append,e1]
  exact ho
 ·intro g hgm
  rcases List.mem_append.1 hgm with hm | hm
  ·exact hin g (h.pw.ins g hm)
  ·rw[List.mem_singleton.1 hm];exact hin f hy
theorem Rg.cells (h:Rg w R L vL ov F st u):u.cell? ⟨w.heap.size,0,none⟩=some (.int .i64 0)∧u.cell? ⟨w.heap.size,1,none⟩=some (.int .i64 0)∧∀ j,u.frozen? ⟨w.heap.size,j,none⟩=false:=⟨by rw[Lib.cell_of_heap h.f0];rfl,by rw[Lib.cell_of_heap h.f0];rfl,fun j=>Lib.frozen_of_heap h.f0 j⟩
theorem Rg.fin (h:Rg w R L vL ov F st u) (a z:Int):((u.setCell ⟨w.heap.size,0,none⟩ (.int .i64 a)).setCell ⟨w.heap.size,1,none⟩ (.int .i64 z)).heap[w.heap.size]?=some (.cells #[.int .i64 a,.int .i64 z] 29)∧Pw w ov F ((u.setCell ⟨w.heap.size,0,none⟩ (.int .i64 a)).setCell ⟨w.heap.size,1,none⟩ (.int .i64 z)):=by
 have s0:=heap_setCell_same u _ 0 _ _ (.int .i64 a) h.f0
 have g0:=ZdS u w.heap.size 0 (.int .i64 a)
 have g1:=ZdS (u.setCell ⟨w.heap.size,0,none⟩ (.int .i64 a)) w.heap.size 1 (.int .i64 z)
 refine⟨heap_setCell_same _ _ 1 _ _ (.int .i64 z) s0,(h.pw.low.setCell (Nat.le_refl _) _).setCell (Nat.le_refl _) _,?_,fun f hf=>?_⟩
 ·have:=h.pw.own.kept g0 (.inr (ZhE h.pw.own h.f0 (by decide)))
  exact this.kept g1 (.inr (ZhE this s0 (by decide)))
 ·exact ((h.pw.ins f hf).box h.f0 (by decide) (by decide) g0).box s0 (by decide) (by decide) g1
theorem Rg.inner {wb:World} {S:Nat} {hv:Value} {n1 n2:List UInt8} {P:List (Hk × Value)} (h:Rg w R L vL ov F st wb) (hz:Pzr wb R S vL n1 n2 hv P st' u):Rg w R L vL ov F st' u∧Pown w.heap.size u ⟨⟨n1,n2,P.map (·.1)⟩,hv,P⟩:=⟨h.call hz.gr hz.rd,rfl,ZhC hz.own h.pw.low.size,fun y hy=>ZhC (hz.ins y hy) h.pw.low.size⟩
end
def RfQ6 (w:World) (X:Except (Nat × Int) (List Pth)) (e:Ending) (w':World):Prop :=
 match X with
 | .error (a,z)=>e=.returned (.tuple #[.slice none 0 0,.agg #[.int .i64 (a:Int),.int .i64 z]])∧z≠0∧Below w.heap.size w w'
 | .ok l=>∃ v' F,e=.returned (.tuple #[v',.agg #[.int .i64 0,.int .i64 0]])∧Pw w v' F w'∧F.map (·.x)=l
end

section
open Go.RowKit
attribute [local go_sem] ByteArray.extract_mk Zhc
def put5c (u:World) (b:Nat) (A P N:Int) (vk vl:Value):World:=((((u.setCell ⟨b,0,none⟩ (.int .i64 A)).setCell ⟨b,1,none⟩ (.int .i64 P)).setCell ⟨b,2,none⟩ (.int .i64 N)).setCell ⟨b,3,none⟩ vk).setCell ⟨b,4,none⟩ vl
theorem Zpn {u:World} {b:Nat} {a p n:Int} {k l:Value} (h:Bp5 u b a p n k l) (A P N:Int) (vk vl:Value):Bp5 (put5c u b A P N vk vl) b A P N vk vl:=by
 have s0:=heap_setCell_same u b 0 _ _ (.int .i64 A) h
 have s1:=heap_setCell_same _ b 1 _ _ (.int .i64 P) s0
 have s2:=heap_setCell_same _ b 2 _ _ (.int .i64 N) s1
 have s3:=heap_setCell_same _ b 3 _ _ vk s2
 exact heap_setCell_same _ b 4 _ _ vl s3
theorem Zpp {u:World} {b:Nat} (A P N:Int) (vk vl:Value):u.grownBy (put5c u b A P N vk vl) (some b):=ZdT (ZdT (ZdT (ZdT (ZdS u _ 0 _) (ZdS _ _ 1 _)) (ZdS _ _ 2 _)) (ZdS _ _ 3 _)) (ZdS _ _ 4 _)
theorem Zpo {w u:World} {R:Nat} (h:w.grownBy u (some R)) (A P N:Int) (vk vl:Value):w.grownBy (put5c u w.heap.size A P N vk vl) (some R) :=
 ZdR (ZdR (ZdR (ZdR (ZdR h (Nat.le_refl _) 0 _) (Nat.le_refl _) 1 _) (Nat.le_refl _) 2 _) (Nat.le_refl _) 3 _) (Nat.le_refl _) 4 _
def flR (e:Int):Except (Nat × Int) Nat→Except (Nat × Int) ((Int × Int) × Nat)
 | .error x=>.error x
 | .ok p=>.error (p,e)
theorem Znh {u:World} {R:Nat} {vL:Value} {e a p n:Int} {st:Except (Nat × Int) Nat} (h:RdZ u R vL (flS e st)):RgR R vL (flR e st) a p n u:=by
 cases st<;>exact h
theorem ZnS {e:UInt8} {s:List UInt8} (h:¬ (9≤s.length∧s.take 4=[e,e,e,32]∧s.drop (s.length-5)=[32,e,e,e,e])):innR e s=none:=if_neg h
theorem take34 {e:UInt8} {s:List UInt8} (h:9≤s.length):s.take 4=[e,e,e,32]↔s.take 3=[e,e,e]∧s[3]=32:=by
 rw[List.take_succ_eq_append_getElem (by omega:3<s.length)]
 constructor
 ·intro q
  have:=List.append_inj' (t₁:=[s[3]]) (s₂:=[e,e,e]) (t₂:=[32]) q rfl
  exact⟨this.1,by simpa using this.2⟩
 ·rintro⟨h1,h2⟩
  rw[h1,h2]
  rfl
theorem Zny {R : Nat} {L : List (List UInt8)} {lo : Option Addr} {lc : Nat} {st : Except (Nat × Int) Nat} (e : UInt8) (w : World) (q : RdZ w R (.slice lo L.length lc) st) (HL : Hid (HS w (.slice lo L.length lc) L)) (hR : ∀ a, lo = some a → a.block ≠ R) (hp : ∀ p, st = .ok p → p ≤ 4398046511104) (hs : ∀ s ∈ L, s.length ≤ 1099511627776) (hsx : ∀ s p1, nxZ L st = .ok (s, p1) → s.length ≤ 1099511627776)
    (Z : Except (Nat × Int) ((Int × Int) × Nat)) (HZ : Hid (rgZ e L st = Z)) :
    Calls Tryz.prog 105 #[.pointer (some ⟨R, 0, none⟩), .string ⟨#[e, e, e]⟩] w fun x w' => ∃ a p n, x = .returned (ptV5 a p n (.slice none 0 0) (.slice none 0 0)) ∧ RgR R (.slice lo L.length lc) Z a p n w' ∧ w.grownBy w' (some R) := by
  have hRw := q.lt
  have hA : Below w.heap.size w (w.alloc (ptO5 0 0 0 (.slice none 0 0) (.slice none 0 0))) := (Below.refl _ w).alloc (Nat.le_refl _) _
  have bA : Bp5 (w.alloc (ptO5 0 0 0 (.slice none 0 0) (.slice none 0 0))) w.heap.size 0 0 0 (.slice none 0 0) (.slice none 0 0) := heap_alloc_new w _
  obtain ⟨Y, hY⟩ : ∃ Y, nxZ L st = Y := ⟨_, rfl⟩
  have hn := Znp _ (q.low hA) (HL.out.keep hA (Nat.le_refl _)) hR hp hs Y hY
  have gA := ZfO hA (some R)
  have hZ := HZ.out
  rw [ZqH, hY] at hZ
  rw [hY] at hsx
  have hn2 : Calls Tryz.prog 100 #[.pointer (some ⟨R, 0, none⟩)] (w.alloc (ptO5 0 0 0 (.slice none 0 0) (.slice none 0 0))) fun x w' => ∃ s st1, x = .returned (.string ⟨s.toArray⟩) ∧ s.length ≤ 1099511627776 ∧ RdZ w' R (.slice lo L.length lc) st1 ∧ (innR e s = none → Z = flR 3 st1) ∧ (∀ t, innR e s = some t → ∃ p1, st1 = .ok p1 ∧ Z = match rngI t with
        | none => .error (p1, 3)
        | some q => .ok (q, p1)) ∧ (w.alloc (ptO5 0 0 0 (.slice none 0 0) (.slice none 0 0))).grownBy w' (some R) := (by
    refine hn.mono ?_
    cases Y with
    | error x =>
      rintro y w1 ⟨⟨rfl, q1⟩, g1⟩
      exact ⟨[], .error x, rfl, by simp, q1, fun _ => hZ.symm, fun t ht => (by simp [innR] at ht), g1⟩
    | ok y =>
      obtain ⟨s, p1⟩ := y
      rintro y w1 ⟨⟨rfl, q1⟩, g1⟩
      dsimp only at hZ
      refine ⟨s, .ok p1, rfl, hsx s p1 rfl, q1, fun h => ?_, fun t ht => ⟨p1, rfl, ?_⟩, g1⟩
      · rw [h] at hZ
        exact hZ.symm
      · rw [ht] at hZ
        exact hZ.symm)
  clear hn hZ HZ hsx hY HL hR hp hs q hA
  go_enter Tryz.func105, Tryz.ntmps105
  go_wp2_with fail
  refine hn2.mono ?_
  rintro y w1 ⟨s, st1, rfl, hsl, q1, HZ1, HZ2, g1⟩
  have HZ1 : Hid (innR e s = none → Z = flR 3 st1) := HZ1
  have HZ2 : Hid (∀ t, innR e s = some t → ∃ p1, st1 = .ok p1 ∧ Z = match rngI t with
        | none => .error (p1, 3)
        | some q => .ok (q, p1)) := HZ2
  obtain ⟨p', c1, hpe⟩ := q1.at
  have b1 := bA.off g1 (fun x => by have := Option.some.inj x; omega)
  have gw := ZdT gA g1
  have hB2 : Below w1.heap.size w1 (w1.alloc (ptO5 (p' : Int) 0 (-1) (.slice none 0 0) (.slice none 0 0))) := (Below.refl _ w1).alloc (Nat.le_refl _) _
  have bS : Bp5 (w1.alloc (ptO5 (p' : Int) 0 (-1) (.slice none 0 0) (.slice none 0 0))) w1.heap.size (p' : Int) 0 (-1) (.slice none 0 0) (.slice none 0 0) := heap_alloc_new w1 _
  have bQ := b1.low hB2
  have q2 := q1.low hB2
  have g2 := ZdT gw (ZfO hB2 _)
  have hQS : w.heap.size < w1.heap.size := b1.lt
  have hQR : w.heap.size ≠ R := by omega
  have hSR : w1.heap.size ≠ R := by omega
  clear hn2 gA bA g1 b1 gw hB2 q1
  go_upto_region 4 with fail
  generalize w1.alloc (ptO5 (p' : Int) 0 (-1) (.slice none 0 0) (.slice none 0 0)) = W2 at *
  generalize w1.heap.size = S at *
  clear c1
  by_cases h1 : s.length < 9
  · have hno := ZnS (e := e) (s := s) (fun q => by omega)
    have i1 : (s.length : Int) < 9 := by omega
    go_quiet (fail)
    go_wp2_with fail
    refine (Zni 3 (by decide) _ (q2.dN _)).mono ?_
    rintro e3 w3 ⟨rfl, q3, g3⟩
    have g3w : w.grownBy w3 (some R) := ZdT (ZdP g2 _) g3
    have b3 : Bp5 w3 w.heap.size 0 0 0 (.slice none 0 0) (.slice none 0 0) := (show Bp5 (W2.drewN _) _ _ _ _ _ _ from bQ).off g3 (fun x => hQR (Option.some.inj x))
    have s3 : Bp5 w3 S (p' : Int) 0 (-1) (.slice none 0 0) (.slice none 0 0) := (show Bp5 (W2.drewN _) _ _ _ _ _ _ from bS).off g3 (fun x => hSR (Option.some.inj x))
    obtain ⟨k0, k1, k2, k3, k4⟩ := s3.cells
    obtain ⟨z0, z1, z2, z3, z4⟩ := b3.cells
    have zf0 := b3.frozen 0
    have zf1 := b3.frozen 1
    have zf2 := b3.frozen 2
    have zf3 := b3.frozen 3
    have zf4 := b3.frozen 4
    have fh := Zpn b3 (p' : Int) (0) (-1) (.slice none 0 0) (.slice none 0 0)
    have fg := Zpo g3w (p' : Int) (0) (-1) (.slice none 0 0) (.slice none 0 0)
    have fq := q3.off (Zpp (u := w3) (b := w.heap.size) (p' : Int) (0) (-1) (.slice none 0 0) (.slice none 0 0)) (fun x => hQR (Option.some.inj x).symm)
    go_wp2
    refine bodyPost_ret (v := ptV5 (p' : Int) (0) (-1) (.slice none 0 0) (.slice none 0 0)) (results_cell_row rfl _ _ w.heap.size 176 #[.int .i64 (p' : Int), .int .i64 (0), .int .i64 (-1), .slice none 0 0, .slice none 0 0] (0, 0) _ rfl fh Tryz.underlying176 rfl (by kernel_rfl)) rfl ⟨_, _, _, rfl, by rw [HZ1.out hno]; exact Znh fq, fg⟩
  · have i1 : ¬ (s.length : Int) < 9 := by omega
    have i2 : (3 : Int) ≤ (s.length : Int) := by omega
    have i3 : (3 : Int) < (s.length : Int) := by omega
    have h9 : 9 ≤ s.length := by omega
    have h34 := take34 (e := e) h9
    by_cases h2 : s.take 3 = [e, e, e]
    · obtain ⟨c, hc⟩ : ∃ c, s[3] = c := ⟨_, rfl⟩
      have j1 : (s.take 3 == [e, e, e]) = true := beq_iff_eq.2 h2
      rw [hc] at h34
      by_cases h3 : c = 32
      · have j2 : ((c.toNat : Int) == 32) = true := (by rw [h3]; rfl)
        have j2' : ((c.toNat : Int) != 32) = false := (by rw [h3]; rfl)
        have hT := h34.2 ⟨h2, h3⟩
        have e6 : List.take (s.length - (s.length - 3 - 2)) (List.drop (s.length - 3 - 2) s) = List.drop (s.length - 5) s := List.take_of_length_le (by rw [List.length_drop]; omega)
        have e7 : ((⟨#[32]⟩ : ByteArray) ++ (⟨#[e, e, e]⟩ : ByteArray)) = ⟨#[32, e, e, e]⟩ := Zmw [32] [e, e, e]
        have e8 : ((⟨#[32, e, e, e]⟩ : ByteArray) ++ (⟨#[e]⟩ : ByteArray)) = ⟨#[32, e, e, e, e]⟩ := Zmw [32, e, e, e] [e]
        have et : List.take (s.length - 3 - 2 - 4) (List.drop 4 s) = List.take (s.length - 9) (List.drop 4 s) := rfl
        clear h34 h3 h2
        by_cases h4 : s.drop (s.length - 5) = [32, e, e, e, e]
        · have hin : innR e s = some ((s.drop 4).take (s.length - 9)) := if_pos ⟨h9, hT, h4⟩
          have j3 : (s.drop (s.length - 5) == [32, e, e, e, e]) = true := beq_iff_eq.2 h4
          clear h4 hT
          go_quiet (fail)
          have hno := HZ2.out _ hin
          obtain ⟨p1, hst, hZ⟩ := hno
          subst hst
          have hpp : p' = p1 := hpe p1 rfl
          subst hpp
          clear HZ1 HZ2 hpe hin
          have htl : (List.take (s.length - 9) (List.drop 4 s)).length ≤ 1099511627776 := (by rw [List.length_take, List.length_drop]; omega)
          go_wp2_with fail
          generalize List.take (s.length - 9) (List.drop 4 s) = t at hZ htl ⊢
          have q2 := q2.dN nq
          have g2 := ZdP g2 nq
          have bQ : Bp5 (W2.drewN nq) w.heap.size 0 0 0 (.slice none 0 0) (.slice none 0 0) := bQ
          have bS : Bp5 (W2.drewN nq) S (p' : Int) 0 (-1) (.slice none 0 0) (.slice none 0 0) := bS
          generalize W2.drewN nq = W3 at q2 g2 bQ bS ⊢
          clear et e6 e7 e8 j1 j2 j2' j3 i1 i2 i3 h9 hc
          refine (ZpW t W3 (Nat.le_trans htl (by decide))).mono ?_
          rintro e3 w3 ⟨rfl, hB3⟩
          have q3 := q2.low hB3
          have g3 := ZdT g2 (ZfO hB3 _)
          have b3 := bQ.low hB3
          have s3 := bS.low hB3
          have f1 := s3.frozen 1
          have f2 := s3.frozen 2
          obtain ⟨_, c1, c2, _, _⟩ := s3.cells
          unfold rngI at hZ
          by_cases hE : Pn.parseE t = 0
          · rw [if_pos hE] at hZ
            dsimp only at hZ
            subst hZ
            have jE : (Pn.parseE t == 0) = true := (by rw [hE]; rfl)
            have s4 : Bp5 (w3.setCell ⟨S, 1, none⟩ (.int .i64 (Pn.parseV t))) S (p' : Int) (Pn.parseV t) (-1) (.slice none 0 0) (.slice none 0 0) := heap_setCell_same w3 S 1 _ _ _ s3
            have hg4 := ZdS w3 S 1 (.int .i64 (Pn.parseV t))
            have b4 := b3.off hg4 (fun x => by have := Option.some.inj x; omega)
            have q4 := q3.off hg4 (fun x => hSR (Option.some.inj x).symm)
            have g4 := ZdR g3 (by omega : w.heap.size ≤ S) 1 (.int .i64 (Pn.parseV t))
            clear hB3 q3 g3 b3 s3 hg4 q2 g2 bQ bS
            generalize hV : Pn.parseV t = V at *
            go_upto_region 11 with fail
            generalize w3.setCell ⟨S, 1, none⟩ (.int .i64 V) = w4 at *
            clear c1 c2 f1 f2
            obtain ⟨k0, k1, k2, k3, k4⟩ := s4.cells
            obtain ⟨z0, z1, z2, z3, z4⟩ := b4.cells
            have zf0 := b4.frozen 0
            have zf1 := b4.frozen 1
            have zf2 := b4.frozen 2
            have zf3 := b4.frozen 3
            have zf4 := b4.frozen 4
            have fh := Zpn b4 (p' : Int) (V) (-1) (.slice none 0 0) (.slice none 0 0)
            have fg := Zpo g4 (p' : Int) (V) (-1) (.slice none 0 0) (.slice none 0 0)
            have fq := q4.off (Zpp (u := w4) (b := w.heap.size) (p' : Int) (V) (-1) (.slice none 0 0) (.slice none 0 0)) (fun x => hQR (Option.some.inj x).symm)
            go_wp2
            refine bodyPost_ret (v := ptV5 (p' : Int) (V) (-1) (.slice none 0 0) (.slice none 0 0)) (results_cell_row rfl _ _ w.heap.size 176 #[.int .i64 (p' : Int), .int .i64 (V), .int .i64 (-1), .slice none 0 0, .slice none 0 0] (0, 0) _ rfl fh Tryz.underlying176 rfl (by kernel_rfl)) rfl ⟨_, _, _, rfl, ⟨rfl, hV.symm, rfl, fq⟩, fg⟩
          · rw [if_neg hE] at hZ
            have jE : (Pn.parseE t == 0) = false := beq_eq_false_iff_ne.2 hE
            go_wp2_with fail
            refine (ZpE t htl w3).mono ?_
            rintro e4 w4 ⟨hLn, hB4⟩
            have q4 := q3.low hB4
            have g4 := ZdT g3 (ZfO hB4 _)
            have b4 := b3.low hB4
            have s4 := s3.low hB4
            clear hB3 hB4 q3 g3 b3 s3 q2 g2 bQ bS c1 c2 f1 f2
            unfold LnsP at hLn
            cases hl : lnsP t with
            | none =>
              rw [hl] at hLn hZ
              dsimp only at hZ hLn
              subst hZ
              obtain ⟨A, N, rfl⟩ := hLn
              clear hl hE
              go_wp2_with fail
              refine (Zni 3 (by decide) _ q4).mono ?_
              rintro e5 w5 ⟨rfl, q5, g5⟩
              have b5 := b4.off g5 (fun x => hQR (Option.some.inj x))
              have s5 := s4.off g5 (fun x => hSR (Option.some.inj x))
              have g5 := ZdT g4 g5
              have f1 := s5.frozen 1
              have f2 := s5.frozen 2
              obtain ⟨_, c1, c2, _, _⟩ := s5.cells
              have s6 : Bp5 (w5.setCell ⟨S, 1, none⟩ (.int .i64 A)) S (p' : Int) A (-1) (.slice none 0 0) (.slice none 0 0) := heap_setCell_same w5 S 1 _ _ _ s5
              have s7 : Bp5 ((w5.setCell ⟨S, 1, none⟩ (.int .i64 A)).setCell ⟨S, 2, none⟩ (.int .i64 N)) S (p' : Int) A N (.slice none 0 0) (.slice none 0 0) := heap_setCell_same _ S 2 _ _ _ s6
              have hg7 := ZdT (ZdS w5 S 1 (.int .i64 A)) (ZdS _ S 2 (.int .i64 N))
              have b7 := b5.off hg7 (fun x => by have := Option.some.inj x; omega)
              have q7 := q5.off hg7 (fun x => hSR (Option.some.inj x).symm)
              have g7 := ZdR (ZdR g5 (by omega : w.heap.size ≤ S) 1 (.int .i64 A)) (by omega : w.heap.size ≤ S) 2 (.int .i64 N)
              clear q5 g5 b5 s5 s6 hg7
              go_upto_region 17 with fail
              generalize (w5.setCell ⟨S, 1, none⟩ (.int .i64 A)).setCell ⟨S, 2, none⟩ (.int .i64 N) = w7 at *
              clear c1 c2 f1 f2
              obtain ⟨k0, k1, k2, k3, k4⟩ := s7.cells
              obtain ⟨z0, z1, z2, z3, z4⟩ := b7.cells
              have zf0 := b7.frozen 0
              have zf1 := b7.frozen 1
              have zf2 := b7.frozen 2
              have zf3 := b7.frozen 3
              have zf4 := b7.frozen 4
              have fh := Zpn b7 (p' : Int) (A) (N) (.slice none 0 0) (.slice none 0 0)
              have fg := Zpo g7 (p' : Int) (A) (N) (.slice none 0 0) (.slice none 0 0)
              have fq := q7.off (Zpp (u := w7) (b := w.heap.size) (p' : Int) (A) (N) (.slice none 0 0) (.slice none 0 0)) (fun x => hQR (Option.some.inj x).symm)
              go_wp2
              refine bodyPost_ret (v := ptV5 (p' : Int) (A) (N) (.slice none 0 0) (.slice none 0 0)) (results_cell_row rfl _ _ w.heap.size 176 #[.int .i64 (p' : Int), .int .i64 (A), .int .i64 (N), .slice none 0 0, .slice none 0 0] (0, 0) _ rfl fh Tryz.underlying176 rfl (by kernel_rfl)) rfl ⟨_, _, _, rfl, fq, fg⟩
            | some z =>
              obtain ⟨A, N⟩ := z
              rw [hl] at hLn hZ
              dsimp only at hZ hLn
              subst hZ hLn
              clear hl hE
              have b5 := b4
              have s5 := s4
              have g5 := g4
              have q5 := q4
              clear b4 s4 g4 q4
              generalize w4 = w5 at *
              have f1 := s5.frozen 1
              have f2 := s5.frozen 2
              obtain ⟨_, c1, c2, _, _⟩ := s5.cells
              have s6 : Bp5 (w5.setCell ⟨S, 1, none⟩ (.int .i64 A)) S (p' : Int) A (-1) (.slice none 0 0) (.slice none 0 0) := heap_setCell_same w5 S 1 _ _ _ s5
              have s7 : Bp5 ((w5.setCell ⟨S, 1, none⟩ (.int .i64 A)).setCell ⟨S, 2, none⟩ (.int .i64 N)) S (p' : Int) A N (.slice none 0 0) (.slice none 0 0) := heap_setCell_same _ S 2 _ _ _ s6
              have hg7 := ZdT (ZdS w5 S 1 (.int .i64 A)) (ZdS _ S 2 (.int .i64 N))
              have b7 := b5.off hg7 (fun x => by have := Option.some.inj x; omega)
              have q7 := q5.off hg7 (fun x => hSR (Option.some.inj x).symm)
              have g7 := ZdR (ZdR g5 (by omega : w.heap.size ≤ S) 1 (.int .i64 A)) (by omega : w.heap.size ≤ S) 2 (.int .i64 N)
              clear q5 g5 b5 s5 s6 hg7
              go_upto_region 17 with fail
              generalize (w5.setCell ⟨S, 1, none⟩ (.int .i64 A)).setCell ⟨S, 2, none⟩ (.int .i64 N) = w7 at *
              clear c1 c2 f1 f2
              obtain ⟨k0, k1, k2, k3, k4⟩ := s7.cells
              obtain ⟨z0, z1, z2, z3, z4⟩ := b7.cells
              have zf0 := b7.frozen 0
              have zf1 := b7.frozen 1
              have zf2 := b7.frozen 2
              have zf3 := b7.frozen 3
              have zf4 := b7.frozen 4
              have fh := Zpn b7 (p' : Int) (A) (N) (.slice none 0 0) (.slice none 0 0)
              have fg := Zpo g7 (p' : Int) (A) (N) (.slice none 0 0) (.slice none 0 0)
              have fq := q7.off (Zpp (u := w7) (b := w.heap.size) (p' : Int) (A) (N) (.slice none 0 0) (.slice none 0 0)) (fun x => hQR (Option.some.inj x).symm)
              go_wp2
              refine bodyPost_ret (v := ptV5 (p' : Int) (A) (N) (.slice none 0 0) (.slice none 0 0)) (results_cell_row rfl _ _ w.heap.size 176 #[.int .i64 (p' : Int), .int .i64 (A), .int .i64 (N), .slice none 0 0, .slice none 0 0] (0, 0) _ rfl fh Tryz.underlying176 rfl (by kernel_rfl)) rfl ⟨_, _, _, rfl, ⟨rfl, rfl, rfl, fq⟩, fg⟩
        · have hno := ZnS (e := e) (s := s) (fun q => h4 q.2.2)
          have j3 : (s.drop (s.length - 5) == [32, e, e, e, e]) = false := beq_eq_false_iff_ne.2 h4
          clear h4 hT
          go_quiet (fail)
          go_wp2_with fail
          refine (Zni 3 (by decide) _ (q2.dN _)).mono ?_
          rintro e3 w3 ⟨rfl, q3, g3⟩
          have g3w : w.grownBy w3 (some R) := ZdT (ZdP g2 _) g3
          have b3 : Bp5 w3 w.heap.size 0 0 0 (.slice none 0 0) (.slice none 0 0) := (show Bp5 (W2.drewN _) _ _ _ _ _ _ from bQ).off g3 (fun x => hQR (Option.some.inj x))
          have s3 : Bp5 w3 S (p' : Int) 0 (-1) (.slice none 0 0) (.slice none 0 0) := (show Bp5 (W2.drewN _) _ _ _ _ _ _ from bS).off g3 (fun x => hSR (Option.some.inj x))
          obtain ⟨k0, k1, k2, k3, k4⟩ := s3.cells
          obtain ⟨z0, z1, z2, z3, z4⟩ := b3.cells
          have zf0 := b3.frozen 0
          have zf1 := b3.frozen 1
          have zf2 := b3.frozen 2
          have zf3 := b3.frozen 3
          have zf4 := b3.frozen 4
          have fh := Zpn b3 (p' : Int) (0) (-1) (.slice none 0 0) (.slice none 0 0)
          have fg := Zpo g3w (p' : Int) (0) (-1) (.slice none 0 0) (.slice none 0 0)
          have fq := q3.off (Zpp (u := w3) (b := w.heap.size) (p' : Int) (0) (-1) (.slice none 0 0) (.slice none 0 0)) (fun x => hQR (Option.some.inj x).symm)
          go_wp2
          refine bodyPost_ret (v := ptV5 (p' : Int) (0) (-1) (.slice none 0 0) (.slice none 0 0)) (results_cell_row rfl _ _ w.heap.size 176 #[.int .i64 (p' : Int), .int .i64 (0), .int .i64 (-1), .slice none 0 0, .slice none 0 0] (0, 0) _ rfl fh Tryz.underlying176 rfl (by kernel_rfl)) rfl ⟨_, _, _, rfl, by rw [HZ1.out hno]; exact Znh fq, fg⟩
      · have hno := ZnS (e := e) (s := s) (fun q => h3 (h34.1 q.2.1).2)
        have j2 : ((c.toNat : Int) == 32) = false := (by
          refine beq_eq_false_iff_ne.2 fun q => h3 ?_
          exact UInt8.toNat_inj.1 (by rw [show (32 : UInt8).toNat = 32 from rfl]; omega))
        have j2' : ((c.toNat : Int) != 32) = true := (by
          refine bne_iff_ne.2 fun q => h3 ?_
          exact UInt8.toNat_inj.1 (by rw [show (32 : UInt8).toNat = 32 from rfl]; omega))
        clear h34 h3 h2
        go_quiet (fail)
        go_wp2_with fail
        refine (Zni 3 (by decide) _ (q2.dN _)).mono ?_
        rintro e3 w3 ⟨rfl, q3, g3⟩
        have g3w : w.grownBy w3 (some R) := ZdT (ZdP g2 _) g3
        have b3 : Bp5 w3 w.heap.size 0 0 0 (.slice none 0 0) (.slice none 0 0) := (show Bp5 (W2.drewN _) _ _ _ _ _ _ from bQ).off g3 (fun x => hQR (Option.some.inj x))
        have s3 : Bp5 w3 S (p' : Int) 0 (-1) (.slice none 0 0) (.slice none 0 0) := (show Bp5 (W2.drewN _) _ _ _ _ _ _ from bS).off g3 (fun x => hSR (Option.some.inj x))
        obtain ⟨k0, k1, k2, k3, k4⟩ := s3.cells
        obtain ⟨z0, z1, z2, z3, z4⟩ := b3.cells
        have zf0 := b3.frozen 0
        have zf1 := b3.frozen 1
        have zf2 := b3.frozen 2
        have zf3 := b3.frozen 3
        have zf4 := b3.frozen 4
        have fh := Zpn b3 (p' : Int) (0) (-1) (.slice none 0 0) (.slice none 0 0)
        have fg := Zpo g3w (p' : Int) (0) (-1) (.slice none 0 0) (.slice none 0 0)
        have fq := q3.off (Zpp (u := w3) (b := w.heap.size) (p' : Int) (0) (-1) (.slice none 0 0) (.slice none 0 0)) (fun x => hQR (Option.some.inj x).symm)
        go_wp2
        refine bodyPost_ret (v := ptV5 (p' : Int) (0) (-1) (.slice none 0 0) (.slice none 0 0)) (results_cell_row rfl _ _ w.heap.size 176 #[.int .i64 (p' : Int), .int .i64 (0), .int .i64 (-1), .slice none 0 0, .slice none 0 0] (0, 0) _ rfl fh Tryz.underlying176 rfl (by kernel_rfl)) rfl ⟨_, _, _, rfl, by rw [HZ1.out hno]; exact Znh fq, fg⟩
    · have hno := ZnS (e := e) (s := s) (fun q => h2 (h34.1 q.2.1).1)
      have j1 : (s.take 3 == [e, e, e]) = false := beq_eq_false_iff_ne.2 h2
      clear h34 h2
      go_quiet (fail)
      go_wp2_with fail
      refine (Zni 3 (by decide) _ (q2.dN _)).mono ?_
      rintro e3 w3 ⟨rfl, q3, g3⟩
      have g3w : w.grownBy w3 (some R) := ZdT (ZdP g2 _) g3
      have b3 : Bp5 w3 w.heap.size 0 0 0 (.slice none 0 0) (.slice none 0 0) := (show Bp5 (W2.drewN _) _ _ _ _ _ _ from bQ).off g3 (fun x => hQR (Option.some.inj x))
      have s3 : Bp5 w3 S (p' : Int) 0 (-1) (.slice none 0 0) (.slice none 0 0) := (show Bp5 (W2.drewN _) _ _ _ _ _ _ from bS).off g3 (fun x => hSR (Option.some.inj x))
      obtain ⟨k0, k1, k2, k3, k4⟩ := s3.cells
      obtain ⟨z0, z1, z2, z3, z4⟩ := b3.cells
      have zf0 := b3.frozen 0
      have zf1 := b3.frozen 1
      have zf2 := b3.frozen 2
      have zf3 := b3.frozen 3
      have zf4 := b3.frozen 4
      have fh := Zpn b3 (p' : Int) (0) (-1) (.slice none 0 0) (.slice none 0 0)
      have fg := Zpo g3w (p' : Int) (0) (-1) (.slice none 0 0) (.slice none 0 0)
      have fq := q3.off (Zpp (u := w3) (b := w.heap.size) (p' : Int) (0) (-1) (.slice none 0 0) (.slice none 0 0)) (fun x => hQR (Option.some.inj x).symm)
      go_wp2
      refine bodyPost_ret (v := ptV5 (p' : Int) (0) (-1) (.slice none 0 0) (.slice none 0 0)) (results_cell_row rfl _ _ w.heap.size 176 #[.int .i64 (p' : Int), .int .i64 (0), .int .i64 (-1), .slice none 0 0, .slice none 0 0] (0, 0) _ rfl fh Tryz.underlying176 rfl (by kernel_rfl)) rfl ⟨_, _, _, rfl, by rw [HZ1.out hno]; exact Znh fq, fg⟩
end

section
open Go.RowKit
theorem Zoh {x:Sde} {k:Nat} (hk:k<x.length):keptS (x.take (k+1))=if x[k].1=32 then keptS (x.take k)++[x[k]] else keptS (x.take k):=by
 rw[List.take_succ_eq_append_getElem hk]
 unfold keptS
 rw[List.filter_append]
 by_cases h:x[k].1=32
 ·rw[if_pos h]
  simp[h]
 ·rw[if_neg h]
  simp[h]
theorem ZoV (a p n:Int) (x:Sde) (vk vl:Value) (w:World) (h:Hsd w vk vl x) (hx:x.length≤1099511627776) :
  Calls Tryz.prog 108 #[ptV5 a p n vk vl] w fun e w'=>∃ vk' vl',e=.returned (ptV5 a p n vk' vl')∧w'.ownsRow w.heap.size 5 1 vk' (keptS x).length (kcells (keptS x))∧w'.ownsRow w.heap.size 9 1 vl' (keptS x).length (scells ((keptS x).map (·.2)))∧Below w.heap.size w w':=by
 obtain⟨ko,kc,lo,lc,rfl,rfl⟩:=h.form
 have hB1:Below w.heap.size w (w.alloc (ptO5 a p n (.slice ko x.length kc) (.slice lo x.length lc))):=(Below.refl _ w).alloc (Nat.le_refl _) _
 have z1:(w.alloc (ptO5 a p n (.slice ko x.length kc) (.slice lo x.length lc))).heap.size=w.heap.size+1:=by simp
 have hB2:=hB1.alloc hB1.size (ptO5 0 0 0 (.slice none 0 0) (.slice none 0 0))
 have z2:((w.alloc (ptO5 a p n (.slice ko x.length kc) (.slice lo x.length lc))).alloc (ptO5 0 0 0 (.slice none 0 0) (.slice none 0 0))).heap.size=w.heap.size+1+1:=by simp
 have hB3:=hB2.alloc hB2.size (ptO5 a p n (.slice none 0 0) (.slice none 0 0))
 have b3:Bp5 (((w.alloc (ptO5 a p n (.slice ko x.length kc) (.slice lo x.length lc))).alloc (ptO5 0 0 0 (.slice none 0 0) (.slice none 0 0))).alloc (ptO5 a p n (.slice none 0 0) (.slice none 0 0))) (w.heap.size+1+1) a p n (.slice none 0 0) (.slice none 0 0):=(by rw[← z2];exact heap_alloc_new _ _)
 have b2:Bp5 (((w.alloc (ptO5 a p n (.slice ko x.length kc) (.slice lo x.length lc))).alloc (ptO5 0 0 0 (.slice none 0 0) (.slice none 0 0))).alloc (ptO5 a p n (.slice none 0 0) (.slice none 0 0))) (w.heap.size+1) 0 0 0 (.slice none 0 0) (.slice none 0 0):=Bp5.low (by rw[← z1];exact heap_alloc_new _ _) ((Below.refl _ _).alloc (Nat.le_refl _) _)
 have b1:Bp5 (((w.alloc (ptO5 a p n (.slice ko x.length kc) (.slice lo x.length lc))).alloc (ptO5 0 0 0 (.slice none 0 0) (.slice none 0 0))).alloc (ptO5 a p n (.slice none 0 0) (.slice none 0 0))) w.heap.size a p n (.slice ko x.length kc) (.slice lo x.length lc):=Bp5.low (Bp5.low (heap_alloc_new w _) ((Below.refl _ _).alloc (Nat.le_refl _) _)) ((Below.refl _ _).alloc (Nat.le_refl _) _)
 have hsz:=b3.lt
 unfold ptV5
 clear z1 z2 hB1 hB2
 go_enter Tryz.func108,Tryz.ntmps108
 go_upto_region 2 with fail
 generalize ((w.alloc (ptO5 a p n (.slice ko x.length kc) (.slice lo x.length lc))).alloc (ptO5 0 0 0 (.slice none 0 0) (.slice none 0 0))).alloc (ptO5 a p n (.slice none 0 0) (.slice none 0 0))=W at *
 have hx0:Lx W (w.heap.size+1+1) (w.heap.size+1+1) a p n (.slice none 0 0) (.slice none 0 0) [] [] W:=Lx.start b3
 clear b3
 go_wp2
 go_loopw [4] (fun i wr=>∃ k vk' vl' ks ts,k≤x.length∧i=.int .i64 (k:Int)∧Lx W (w.heap.size+1+1) (w.heap.size+1+1) a p n vk' vl' ks ts wr∧ks.length≤k∧ts.length≤k∧Hid ((keptS (x.take k)).map (·.1)=ks∧(keptS (x.take k)).map (·.2)=ts)) (fun i _=>x.length-(intOf i).toNat)
 case atStart=>exact⟨0,_,_,[],[],Nat.zero_le _,by go_num,hx0,Nat.le_refl _,Nat.le_refl _,⟨rfl,rfl⟩⟩
 case round =>
 obtain⟨k,vk',vl',ks,ts,hk,rfl,hx1,hkl,htl,HI⟩:=hrel
 obtain⟨o3,c3,rfl⟩:=(Zeo hx1.ok).form
 obtain⟨o4,c4,rfl⟩:=(Zeo hx1.ol).form
 have hBr:∀ k,k<w.heap.size+1+1→wr.heap[k]?=W.heap[k]?:=fun k hk=>hx1.block k (by omega) (by omega) (by omega)
 have b1r:Bp5 wr w.heap.size a p n (.slice ko x.length kc) (.slice lo x.length lc):=(hBr _ (by omega)).trans b1
 obtain⟨_,_,_,y3,y4⟩:=b1r.cells
 by_cases hlt:k<x.length
 ·obtain⟨bk,off,rfl,hbk,hck⟩:=h.k.at (by omega)
  obtain⟨bl,of2,rfl,hbl,hcl⟩:=HS.at h.l (by rw[List.length_map];omega)
  have ck:wr.cell? ⟨bk,off+k,none⟩=some (.int .u8 (x[k].1.toNat:Int)):=(World.cell?_of_block ((hBr bk (by omega)).trans (hB3.block bk hbk))).trans (hck k hlt)
  have HCL:Hid (∀ u:World,u.heap[bl]?=w.heap[bl]?→u.cell? ⟨bl,of2+k,none⟩=some (.string ⟨x[k].2.toArray⟩)):=(by
   intro u hu
   have h1:=hcl k (by rw[List.length_map];exact hlt)
   rw[List.getElem_map] at h1
   exact (World.cell?_of_block hu).trans h1)
  have i1:(0:Int)≤(k:Int):=by omega
  have i2:(k:Int)<(x.length:Int):=by omega
  have i3:(k:Int).toNat=k:=by omega
  have HI2:=HI.out
  have hst:=Zoh hlt
  obtain⟨cc,tt,hxk⟩:∃ cc tt,x[k]=(cc,tt):=⟨_,_,rfl⟩
  rw[hxk] at ck HCL hst
  dsimp only at ck HCL hst
  clear hck hcl hx0 b1r
  by_cases h3:cc=32
  ·subst h3
   rw[if_pos rfl] at hst
   have HI3:Hid ((keptS (x.take (k+1))).map (·.1)=ks++[32]∧(keptS (x.take (k+1))).map (·.2)=ts++[tt]):=(by
    show _∧_
    rw[hst,List.map_append,List.map_append,HI2.1,HI2.2]
    exact⟨rfl,rfl⟩)
   have ck2:wr.cell? ⟨bk,off+k,none⟩=some (.int .u8 32):=ck
   have hkb:ks.length+1≤4398046511104:=by omega
   have htb:ts.length+1≤4398046511104:=by omega
   clear HI2 hst HI ck hxk
   have hA8:=hx1.low ((Below.refl _ wr).alloc (Nat.le_refl _) (.cells #[.int .u8 32] 5))
   obtain⟨_,_,_,k38,k48⟩:=hx1.box.cells
   obtain⟨_,_,_,k3a8,k4a8⟩:=hA8.box.cells
   have hrow8:Holds (wr.alloc (.cells #[.int .u8 32] 5)) (.slice (some ⟨wr.heap.size,0,none⟩) 1 1) 1 [.int .u8 32]:=ZgR wr #[.int .u8 32] 5 1 1 (by decide)
   have hown8:=hA8.ok
   have hbase8:=hA8.size
   go_wp2_with (at_builtin;refine Zmg _ (by kernel_rfl) (.tmp 26) (.tmp 27) 83 5 (.int .u8 0) 1 1 rfl Tryz.underlying83 infoU8C rfl (by decide) (by decide) W.heap.size _ _ _ rfl hown8 _ 1 [.int .u8 32] rfl hrow8 rfl (by intro u hu;simp at hu;subst hu;rfl) hkb hbase8 ?_)
   intro v8 u8 ho8 hg8
   obtain⟨hx8,hb8,_⟩:=hA8.moreK (c:=32) hg8 ho8
   obtain⟨_,_,_,kc38,kc48⟩:=hb8.cells
   have kf8:=hb8.frozen 3
   obtain⟨o8,c8,rfl⟩:=(Zeo ho8).form
   clear ho8 hg8 hrow8 hown8 hbase8 hA8 k38 k48 k3a8 k4a8 hb8
   go_upto_region 7 with fail
   generalize u8.setCell ⟨w.heap.size+1+1,3,none⟩ (.slice o8 (ks.length+1) c8)=u9 at hx8 ⊢
   have hA9:=hx8.low ((Below.refl _ u9).alloc (Nat.le_refl _) (.cells #[.string ⟨tt.toArray⟩] 9))
   have hB9:=hA9.low (Below.drew (Below.refl _ _))
   have hC9:=hx8.low (Below.drew (Below.refl _ _))
   have hxb:∀ {uu:World} {vk2 vl2:Value} {ks2:List UInt8} {ts2:List (List UInt8)},Lx W (w.heap.size+1+1) (w.heap.size+1+1) a p n vk2 vl2 ks2 ts2 uu→uu.cell? ⟨w.heap.size,4,none⟩=some (.slice (some ⟨bl,of2,none⟩) x.length lc)∧uu.cell? ⟨bl,of2+k,none⟩=some (.string ⟨tt.toArray⟩):=fun hu=>⟨(Bp5.cells (show Bp5 _ _ a p n (.slice (some ⟨bk,off,none⟩) x.length kc) (.slice (some ⟨bl,of2,none⟩) x.length lc) from (hu.block w.heap.size (by omega) (by omega) (by omega)).trans b1)).2.2.2.2,HCL.out _ ((hu.block bl (by omega) (by omega) (by omega)).trans (hB3.block bl hbl))⟩
   obtain⟨y9,t9⟩:=hxb hx8
   obtain⟨ya9,ta9⟩:=hxb hA9
   obtain⟨yb9,tb9⟩:=hxb hB9
   obtain⟨yc9,tc9⟩:=hxb hC9
   obtain⟨_,_,_,k39,k49⟩:=hx8.box.cells
   obtain⟨_,_,_,k3a9,k4a9⟩:=hA9.box.cells
   obtain⟨_,_,_,k3b9,k4b9⟩:=hB9.box.cells
   obtain⟨_,_,_,k3c9,k4c9⟩:=hC9.box.cells
   have hrow9:Holds ((u9.alloc (.cells #[.string ⟨tt.toArray⟩] 9)).drew) (.slice (some ⟨u9.heap.size,0,none⟩) 1 1) 1 [.string ⟨tt.toArray⟩]:=ZgR u9 #[.string ⟨tt.toArray⟩] 9 1 1 (by decide)
   have hown9:=hB9.ol
   have hbase9:=hB9.size
   clear hxb hC9
   go_region_law (refine ZkD _ rfl (.tmp 31) (.tmp 37) 49 9 (.string ⟨#[]⟩) 1 16 rfl Tryz.underlying49 infoStr rfl (by decide) (by decide) W.heap.size _ _ _ rfl hown9 _ 1 [.string ⟨tt.toArray⟩] rfl hrow9 rfl (by intro u hu;simp at hu;subst hu;rfl) htb hbase9 ?_;intro v13 u13 ho13 hg13;obtain⟨hx13,hb13,_⟩:=hB9.moreL hg13 ho13;obtain⟨_,_,_,kc313,kc413⟩:=hb13.cells;have kf13:=hb13.frozen 4;obtain⟨o13,c13,rfl⟩:=(Zeo ho13).form)
   all_goals (
    go_wp2
    exact⟨⟨k+1,_,_,_,_,by omega,by go_num,hx13,by rw[List.length_append];simp;omega,by rw[List.length_append];simp;omega,HI3⟩,by simp[intOf];omega⟩)
  ·rw[if_neg h3] at hst
   have HI3:Hid ((keptS (x.take (k+1))).map (·.1)=ks∧(keptS (x.take (k+1))).map (·.2)=ts):=(by rw[hst];exact HI2)
   have j1:((cc.toNat:Int) == 32)=false:=(by
    refine beq_eq_false_iff_ne.2 fun q=>h3 ?_
    exact UInt8.toNat_inj.1 (by rw[show (32:UInt8).toNat=32 from rfl];omega))
   clear HI2 hst HI h3 hxk
   go_wp2
   exact⟨⟨k+1,_,_,ks,ts,by omega,by go_num,hx1,by omega,by omega,HI3⟩,by simp[intOf];omega⟩
 ·have hend:decide ((k:Int)<(x.length:Int))=false:=decide_eq_false (by omega)
  have hI:=HI.out
  rw[List.take_of_length_le (by omega)] at hI
  have HL1:Hid (ks.length=(keptS x).length):=(by show _=_;rw[← hI.1,List.length_map])
  have HL2:Hid (ts.length=(keptS x).length):=(by show _=_;rw[← hI.2,List.length_map])
  have HKK:Hid ((keptS x).map (·.1)=ks∧(keptS x).map (·.2)=ts):=hI
  clear hI
  have b2r:Bp5 wr (w.heap.size+1) 0 0 0 (.slice none 0 0) (.slice none 0 0):=(hBr _ (by omega)).trans b2
  obtain⟨z0,z1,z2,z3,z4⟩:=b2r.cells
  have zf0:=b2r.frozen 0
  have zf1:=b2r.frozen 1
  have zf2:=b2r.frozen 2
  have zf3:=b2r.frozen 3
  have zf4:=b2r.frozen 4
  obtain⟨k0,k1,k2,k3,k4⟩:=hx1.box.cells
  have fh:=Zpn b2r a p n (.slice o3 ks.length c3) (.slice o4 ts.length c4)
  have hg:=Zpp (u:=wr) (b:=w.heap.size+1) a p n (.slice o3 ks.length c3) (.slice o4 ts.length c4)
  have ho1:=(hx1.ok.kept hg (.inr (ZhE hx1.ok b2r (by decide))))
  have ho2:=(hx1.ol.kept hg (.inr (ZhE hx1.ol b2r (by decide))))
  have hbl:Below w.heap.size w (put5c wr (w.heap.size+1) a p n (.slice o3 ks.length c3) (.slice o4 ts.length c4)):=⟨hg.os.trans (hx1.os.trans hB3.os),hg.tape.trans (hx1.tape.trans hB3.tape),hg.output.trans (hx1.output.trans hB3.output),Nat.le_trans (by omega) (Nat.le_trans hx1.size hg.size),fun k hk=>by
   rw[hg.block k (by have:=hx1.size;omega) (fun e=>by have:=Option.some.inj e;omega),hBr k (by omega)]
   exact hB3.block k hk⟩
  clear HI hx0 b1r h b1 b2 hBr hg
  go_wp2
  refine bodyPost_ret (v:=ptV5 a p n (.slice o3 ks.length c3) (.slice o4 ts.length c4)) (results_cell_row rfl _ _ (w.heap.size+1) 176 #[.int .i64 a,.int .i64 p,.int .i64 n,.slice o3 ks.length c3,.slice o4 ts.length c4] (0,0) _ rfl fh Tryz.underlying176 rfl (by kernel_rfl)) rfl ⟨_,_,rfl,?_,?_,hbl⟩
  ·rw[← Zmz,HKK.out.1,← HL1.out]
   exact ZhC ho1 (by omega)
  ·rw[HKK.out.2,← HL2.out]
   exact ZhC ho2 (by omega)
end

section
open Go.RowKit
attribute [local go_sem] ByteArray.extract_mk Zhc
theorem Zor (s:Int) (x:Sde):(mkS s x).length=x.length:=by simp[mkS]
theorem ZoK (x y:Sde) {u v:Bool} (hu:allS 45 x=u) (hv:allS 43 y=v) {u' v':Bool} (hu':allS 33 x=u') (hv':allS 33 y=v'):okJ x y=if 0<x.length∧0<y.length then u' && v' else u && v:=by
 unfold okJ
 rw[hu,hv,hu',hv']
 by_cases h:x≠[]∧y≠[]
 ·rw[if_pos h,if_pos ⟨List.length_pos_iff.2 h.1,List.length_pos_iff.2 h.2⟩]
 ·rw[if_neg h,if_neg (fun q=>h ⟨List.length_pos_iff.1 q.1,List.length_pos_iff.1 q.2⟩)]
def JnQ (w:World) (J:Option (List Mk)) (e:Ending) (w':World):Prop:=∃ v b l,e=.returned (.tuple #[v,.bool b])∧w'.ownsRow w.heap.size 47 2 v l.length (mkcells l)∧Below w.heap.size w w'∧(match J with
 | none=>b=false
 | some l0=>b=true∧l=l0)
theorem Zod {w u:World} {B k m:Nat} {c:Value} {l l1:List Mk} {X Y:Sde} (h1:l++mkS 45 X=l1) (hx:X.length=k) (hy:Y.length=m) (h:u.ownsRow B 47 2 c (l.length+k+m) (mkcells (l1++mkS 43 Y))) (hB:w.heap.size≤B):u.ownsRow w.heap.size 47 2 c (l++mkS 45 X++mkS 43 Y).length (mkcells (l++mkS 45 X++mkS 43 Y)):=by
 have e:(l++mkS 45 X++mkS 43 Y).length=l.length+k+m:=by rw[List.length_append,List.length_append,Zor,Zor,hx,hy]
 rw[e,h1]
 exact ZhC h hB
theorem ZqP (a p n a2 p2 n2:Int) (o v:Sde) (vk vl uk ul:Value) (w:World) (ho:Hsd w vk vl o) (hv:Hsd w uk ul v) (hol:o.length≤549755813888) (hvl:v.length≤549755813888) (J:Option (List Mk)) (HJ:Hid (jnS (o.length+1) o v=J)) :
  Calls Tryz.prog 109 #[ptV5 a p n vk vl,ptV5 a2 p2 n2 uk ul] w fun e w'=>JnQ w J e w':=by
 obtain⟨ko,kc,lo,lc,rfl,rfl⟩:=ho.form
 obtain⟨k2,kc2,lo2,lc2,rfl,rfl⟩:=hv.form
 have hB1:Below w.heap.size w (w.alloc (ptO5 a p n (.slice ko o.length kc) (.slice lo o.length lc))):=(Below.refl _ w).alloc (Nat.le_refl _) _
 have z1:(w.alloc (ptO5 a p n (.slice ko o.length kc) (.slice lo o.length lc))).heap.size=w.heap.size+1:=by simp
 have hB2:=hB1.alloc hB1.size (ptO5 a2 p2 n2 (.slice k2 v.length kc2) (.slice lo2 v.length lc2))
 have b2:Bp5 ((w.alloc (ptO5 a p n (.slice ko o.length kc) (.slice lo o.length lc))).alloc (ptO5 a2 p2 n2 (.slice k2 v.length kc2) (.slice lo2 v.length lc2))) (w.heap.size+1) a2 p2 n2 (.slice k2 v.length kc2) (.slice lo2 v.length lc2):=(by rw[← z1];exact heap_alloc_new _ _)
 have b1:Bp5 ((w.alloc (ptO5 a p n (.slice ko o.length kc) (.slice lo o.length lc))).alloc (ptO5 a2 p2 n2 (.slice k2 v.length kc2) (.slice lo2 v.length lc2))) w.heap.size a p n (.slice ko o.length kc) (.slice lo o.length lc):=Bp5.low (heap_alloc_new w _) ((Below.refl _ _).alloc (Nat.le_refl _) _)
 have hoW:=ho.keep hB2
 have hvW:=hv.keep hB2
 have HJ0:Hid (∃ f,(o.drop 0).length<f∧thenR [] (jnS f (o.drop 0) (v.drop 0))=J):=⟨o.length+1,by rw[List.drop_zero];omega,by rw[ZrF];exact HJ.out⟩
 unfold ptV5
 clear z1 hB1 HJ ho hv
 go_enter Tryz.func109,Tryz.ntmps109
 go_upto_region 1 with fail
 generalize (w.alloc (ptO5 a p n (.slice ko o.length kc) (.slice lo o.length lc))).alloc (ptO5 a2 p2 n2 (.slice k2 v.length kc2) (.slice lo2 v.length lc2))=W at *
 go_wp2
 go_loopw [6,7,8,9,10,11,12,13,14] (fun lv iv jv _ _ _ _ _ _ wr=>∃ (i j:Nat) (l:List Mk),i≤o.length∧j≤v.length∧l.length≤i+j∧iv=.int .i64 i∧jv=.int .i64 j∧wr.ownsRow W.heap.size 47 2 lv l.length (mkcells l)∧Below W.heap.size W wr∧Hid (∃ f,(o.drop i).length<f∧thenR l (jnS f (o.drop i) (v.drop j))=J)) (fun _ iv _ _ _ _ _ _ _ _=>o.length-(intOf iv).toNat)
 case atStart=>exact⟨0,0,[],Nat.zero_le _,Nat.zero_le _,Nat.zero_le _,by go_num,by go_num,World.ownsRow_nil _ _ _ _,Below.refl _ _,HJ0⟩
 case round =>
 obtain⟨i,j,l,hi,hj,hll,rfl,rfl,hown,hBr,HI⟩:=hrel
 clear HJ0
 obtain⟨f0,hf0,hJ⟩:=HI.out
 obtain⟨f,rfl⟩:∃ f,f0=f+1:=⟨f0-1,by omega⟩
 obtain⟨xn,hxn⟩:∃ xn,(chgS (o.drop i)).length=xn:=⟨_,rfl⟩
 obtain⟨yn,hyn⟩:∃ yn,(chgS (v.drop j)).length=yn:=⟨_,rfl⟩
 have hxl:i+xn≤o.length:=(by have h:=ZnU (o.drop i);rw[List.length_drop,hxn] at h;omega)
 have hyl:j+yn≤v.length:=(by have h:=ZnU (v.drop j);rw[List.length_drop,hyn] at h;omega)
 obtain⟨u1,hu1⟩:∃ b,allS 45 (chgS (o.drop i))=b:=⟨_,rfl⟩
 obtain⟨u2,hu2⟩:∃ b,allS 43 (chgS (v.drop j))=b:=⟨_,rfl⟩
 obtain⟨u3,hu3⟩:∃ b,allS 33 (chgS (o.drop i))=b:=⟨_,rfl⟩
 obtain⟨u4,hu4⟩:∃ b,allS 33 (chgS (v.drop j))=b:=⟨_,rfl⟩
 have hok:=ZoK (chgS (o.drop i)) (chgS (v.drop j)) hu1 hu2 hu3 hu4
 rw[hxn,hyn] at hok
 have hr1:=fun u (hu:Below W.heap.size W u)=>Zpg a p n o i hi 45 _ _ u (hoW.keep hu) (by omega) xn u1 hxn hu1
 have hr2:=fun u (hu:Below W.heap.size W u)=>Zpg a2 p2 n2 v j hj 43 _ _ u (hvW.keep hu) (by omega) yn u2 hyn hu2
 have hr3:=fun u (hu:Below W.heap.size W u)=>Zpg a p n o i hi 33 _ _ u (hoW.keep hu) (by omega) xn u3 hxn hu3
 have hr4:=fun u (hu:Below W.heap.size W u)=>Zpg a2 p2 n2 v j hj 33 _ _ u (hvW.keep hu) (by omega) yn u4 hyn hu4
 unfold ptV5 at hr1 hr2 hr3 hr4
 have HXN:Hid ((chgS (o.drop i)).length=xn):=hxn
 have HYN:Hid ((chgS (v.drop j)).length=yn):=hyn
 have HOK:Hid (okJ (chgS (o.drop i)) (chgS (v.drop j))=if 0<xn∧0<yn then u3 && u4 else u1 && u2):=hok
 have HJf:Hid (thenR l (jnS (f+1) (o.drop i) (v.drop j))=J):=hJ
 have HF:Hid ((o.drop i).length<f+1):=hf0
 obtain⟨lo',lc',rfl⟩:=(Zeo hown).form
 clear hu1 hu2 hu3 hu4 hxn hyn hok hJ hf0 HI
 obtain⟨x0,x1,x2,x3,x4⟩:=(b1.low hBr).cells
 go_wp2_with fail
 refine (hr1 wr hBr).mono ?_
 rintro e w1 ⟨rfl,hB1⟩
 have hB1W:=hBr.trans (hB1.mono hBr.size)
 have hown1:=ZhK hown hB1
 clear x0 x1 x2 x3 x4
 obtain⟨x0,x1,x2,x3,x4⟩:=(b2.low hB1W).cells
 go_wp2_with fail
 refine (hr2 w1 hB1W).mono ?_
 rintro e w2 ⟨rfl,hB2⟩
 have hB2W:=hB1W.trans (hB2.mono hB1W.size)
 have hown2:=ZhK hown1 hB2
 clear x0 x1 x2 x3 x4 hown hown1 hBr hB1 hB2 hB1W
 obtain⟨x0,x1,x2,x3,x4⟩:=(b1.low hB2W).cells
 go_upto_region 5 with fail
 go_cut [32] from 15 to 137 (fun cv wz=>cv=.bool (decide (0<xn∧0<yn))∧wz=w2)
 case first =>
  by_cases h1:0<xn
  ·have i1:(0:Int)<(xn:Int):=by omega
   by_cases h2:0<yn
   ·have i2:(0:Int)<(yn:Int):=by omega
    have e:decide (0<xn∧0<yn)=true:=decide_eq_true ⟨h1,h2⟩
    go_wp2
    go_meet
    case rel=>exact⟨by rw[e],rfl⟩
   ·have i2:¬ (0:Int)<(yn:Int):=by omega
    have e:decide (0<xn∧0<yn)=false:=decide_eq_false fun q=>h2 q.2
    go_wp2
    go_meet
    case rel=>exact⟨by rw[e],rfl⟩
  ·have i1:¬ (0:Int)<(xn:Int):=by omega
   have e:decide (0<xn∧0<yn)=false:=decide_eq_false fun q=>h1 q.1
   go_wp2
   go_meet
   case rel=>exact⟨by rw[e],rfl⟩
 case rest =>
 obtain⟨rfl,rfl⟩:=hcut
 go_upto_if 32 with fail
 go_cut [10,12] from 15 to 137 (fun uv vv wz=>∃ fu fv,uv=.bool fu∧vv=.bool fv∧wz.ownsRow W.heap.size 47 2 (.slice lo' l.length lc') l.length (mkcells l)∧Below W.heap.size W wz∧Hid (okJ (chgS (o.drop i)) (chgS (v.drop j))=(fu && fv)))
 case first =>
  by_cases h1:0<xn∧0<yn
  ·have e:decide (0<xn∧0<yn)=true:=decide_eq_true h1
   have HO2:Hid (okJ (chgS (o.drop i)) (chgS (v.drop j))=(u3 && u4)):=(by show _=_;rw[HOK.out,if_pos h1])
   rw[e]
   clear h1 e
   go_wp2_with fail
   refine (hr3 _ hB2W).mono ?_
   rintro e w3 ⟨rfl,hB3⟩
   have hB3W:=hB2W.trans (hB3.mono hB2W.size)
   have hown3:=ZhK hown2 hB3
   clear x0 x1 x2 x3 x4
   obtain⟨x0,x1,x2,x3,x4⟩:=(b2.low hB3W).cells
   go_wp2_with fail
   refine (hr4 _ hB3W).mono ?_
   rintro e w4 ⟨rfl,hB4⟩
   have hB4W:=hB3W.trans (hB4.mono hB3W.size)
   have hown4:=ZhK hown3 hB4
   go_wp2
   go_meet
   case rel=>exact⟨u3,u4,rfl,rfl,hown4,hB4W,HO2⟩
  ·have e:decide (0<xn∧0<yn)=false:=decide_eq_false h1
   have HO2:Hid (okJ (chgS (o.drop i)) (chgS (v.drop j))=(u1 && u2)):=(by show _=_;rw[HOK.out,if_neg h1])
   rw[e]
   clear h1 e
   go_wp2
   go_meet
   case rel=>exact⟨u1,u2,rfl,rfl,hown2,hB2W,HO2⟩
 case rest =>
 obtain⟨fu,fv,rfl,rfl,hown3,hB3W,HO2⟩:=hcut
 clear hr1 hr2 hr3 hr4 x0 x1 x2 x3 x4 hown2 hB2W HOK
 cases hff:(fu && fv) with
 | false =>
  have hJn:J=none:=(by
   rw[← HJf.out,ZnY (by rw[HO2.out];exact hff)]
   rfl)
  subst hJn
  have hbz:Below w.heap.size w wc:=hB2.trans (hB3W.mono hB2.size)
  cases fu with
  | false =>
   go_wp2
   go_ret2
   exact⟨_,_,[],rfl,World.ownsRow_nil _ _ _ _,hbz,rfl⟩
  | true =>
   cases fv with
   | true=>cases hff
   | false =>
    go_wp2
    go_ret2
    exact⟨_,_,[],rfl,World.ownsRow_nil _ _ _ _,hbz,rfl⟩
 | true =>
  obtain⟨rfl,rfl⟩:fu=true∧fv=true:=(by simpa using hff)
  have HO3:Hid (okJ (chgS (o.drop i)) (chgS (v.drop j))=true):=HO2
  clear hff HO2
  go_wp2
  go_loopw [6,13] (fun lv kv wr=>∃ k:Nat,k≤xn∧kv=.int .i64 k∧wr.ownsRow W.heap.size 47 2 lv (l.length+k) (mkcells (l++mkS 45 ((chgS (o.drop i)).take k)))∧Below W.heap.size W wr) (fun _ kv _=>xn-(intOf kv).toNat)
  case atStart=>exact⟨0,Nat.zero_le _,by go_num,by simpa [mkS] using hown3,hB3W⟩
  case round =>
  obtain⟨k,hk,rfl,hownk,hBk⟩:=hrel
  obtain⟨lok,lck,rfl⟩:=(Zeo hownk).form
  by_cases hlt:k<xn
  ·obtain⟨hil,hget⟩:=ZnT o i k (by rw[HXN.out];exact hlt)
   obtain⟨bl,ofl,rfl,hbl,hcl⟩:=HS.at (hoW.keep hBk).l (by rw[List.length_map];omega)
   have ct:=hcl (i+k) (by rw[List.length_map];exact hil)
   rw[List.getElem_map] at ct
   obtain⟨tt,htt⟩:∃ tt,o[i+k].2=tt:=⟨_,rfl⟩
   rw[htt] at ct
   obtain⟨_,_,_,_,x4⟩:=(b1.low hBk).cells
   have i1:(0:Int)≤(i:Int)+(k:Int):=by omega
   have i2:(i:Int)+(k:Int)<(o.length:Int):=by omega
   have i3:((i:Int)+(k:Int)).toNat=i+k:=by omega
   have i4:(k:Int)<(xn:Int):=by omega
   have hA:wr.alloc (.cells #[.int .u8 45,.string ⟨tt.toArray⟩] 47)=wr.alloc (mkO ⟨45,tt⟩):=rfl
   have hrow:=Zgj wr ⟨45,tt⟩
   have hownA:=ZhK hownk ((Below.refl _ wr).alloc (Nat.le_refl _) (mkO ⟨45,tt⟩))
   have hBA:=hBk.alloc hBk.size (mkO ⟨45,tt⟩)
   have hxb:l.length+k+1≤4398046511104:=by omega
   have HN:Hid (mkcells (l++mkS 45 ((chgS (o.drop i)).take k))++mkcells [⟨45,tt⟩]=mkcells (l++mkS 45 ((chgS (o.drop i)).take (k+1)))):=(by
    show _=_
    rw[← Zgl,Zos _ _ _ (by rw[HXN.out];exact hlt),hget,htt,List.append_assoc])
   clear hcl hget htt
   go_wp2_with (at_builtin;refine Zmg _ (by kernel_rfl) (.tmp 56) (.tmp 65) 43 47 (.agg #[.int .u8 0,.string ⟨#[]⟩]) 2 24 rfl Tryz.underlying43 infoMk rfl (by decide) (by decide) W.heap.size _ _ _ rfl hownA _ 1 (mkcells [⟨45,tt⟩]) rfl hrow (Zgo _) (Zgp _) hxb hBA.size ?_)
   intro v8 u8 ho8 hg8
   have hB8:=hBA.grown hg8 hBA.size (fun q hq=>ZhJ hownA hq)
   rw[HN.out] at ho8
   go_wp2
   exact⟨⟨k+1,by omega,by go_num,ho8,hB8⟩,by simp[intOf];omega⟩
  ·have hkx:k=xn:=by omega
   subst hkx
   have hi4:¬ (k:Int)<(k:Int):=by omega
   rw[List.take_of_length_le (by rw[HXN.out];omega)] at hownk
   clear hown3 hB3W hlt hk
   generalize wr=wx at hownk hBk ⊢
   obtain⟨l1,hl1⟩:∃ l1,l++mkS 45 (chgS (o.drop i))=l1:=⟨_,rfl⟩
   rw[hl1] at hownk
   have HL1:Hid (l++mkS 45 (chgS (o.drop i))=l1):=hl1
   clear hl1
   go_wp2
   go_loopw [6,14] (fun lv kv wr=>∃ m:Nat,m≤yn∧kv=.int .i64 m∧wr.ownsRow W.heap.size 47 2 lv ((l.length+k)+m) (mkcells (l1++mkS 43 ((chgS (v.drop j)).take m)))∧Below W.heap.size W wr) (fun _ kv _=>yn-(intOf kv).toNat)
   case atStart=>exact⟨0,Nat.zero_le _,by go_num,by simpa [mkS] using hownk,hBk⟩
   case round =>
   obtain⟨m,hm,rfl,hownm,hBm⟩:=hrel
   obtain⟨lom,lcm,rfl⟩:=(Zeo hownm).form
   by_cases hlt:m<yn
   ·obtain⟨hil,hget⟩:=ZnT v j m (by rw[HYN.out];exact hlt)
    obtain⟨bl,ofl,rfl,hbl,hcl⟩:=HS.at (hvW.keep hBm).l (by rw[List.length_map];omega)
    have ct:=hcl (j+m) (by rw[List.length_map];exact hil)
    rw[List.getElem_map] at ct
    obtain⟨tt,htt⟩:∃ tt,v[j+m].2=tt:=⟨_,rfl⟩
    rw[htt] at ct
    obtain⟨_,_,_,_,x4⟩:=(b2.low hBm).cells
    have i1:(0:Int)≤(j:Int)+(m:Int):=by omega
    have i2:(j:Int)+(m:Int)<(v.length:Int):=by omega
    have i3:((j:Int)+(m:Int)).toNat=j+m:=by omega
    have i4:(m:Int)<(yn:Int):=by omega
    have hA:wr.alloc (.cells #[.int .u8 43,.string ⟨tt.toArray⟩] 47)=wr.alloc (mkO ⟨43,tt⟩):=rfl
    have hrow:=Zgj wr ⟨43,tt⟩
    have hownA:=ZhK hownm ((Below.refl _ wr).alloc (Nat.le_refl _) (mkO ⟨43,tt⟩))
    have hBA:=hBm.alloc hBm.size (mkO ⟨43,tt⟩)
    have hxb:(l.length+k)+m+1≤4398046511104:=by omega
    have HN:Hid (mkcells (l1++mkS 43 ((chgS (v.drop j)).take m))++mkcells [⟨43,tt⟩]=mkcells (l1++mkS 43 ((chgS (v.drop j)).take (m+1)))):=(by
     show _=_
     rw[← Zgl,Zos _ _ _ (by rw[HYN.out];exact hlt),hget,htt,List.append_assoc])
    clear hcl hget htt
    go_wp2_with (at_builtin;refine Zmg _ (by kernel_rfl) (.tmp 72) (.tmp 81) 43 47 (.agg #[.int .u8 0,.string ⟨#[]⟩]) 2 24 rfl Tryz.underlying43 infoMk rfl (by decide) (by decide) W.heap.size _ _ _ rfl hownA _ 1 (mkcells [⟨43,tt⟩]) rfl hrow (Zgo _) (Zgp _) hxb hBA.size ?_)
    intro v8 u8 ho8 hg8
    have hB8:=hBA.grown hg8 hBA.size (fun q hq=>ZhJ hownA hq)
    rw[HN.out] at ho8
    go_wp2
    exact⟨⟨m+1,by omega,by go_num,ho8,hB8⟩,by simp[intOf];omega⟩
   ·have hmy:m=yn:=by omega
    subst hmy
    have hm4:¬ (m:Int)<(m:Int):=by omega
    rw[List.take_of_length_le (by rw[HYN.out];omega)] at hownm
    clear hownk hBk hlt hm
    generalize wr=wy at hownm hBm ⊢
    obtain⟨_,_,_,_,x4⟩:=(b1.low hBm).cells
    obtain⟨_,_,_,_,y4⟩:=(b2.low hBm).cells
    have hbz:Below w.heap.size w wy:=hB2.trans (hBm.mono hB2.size)
    have hxl2:=hxl
    have hyl2:=hyl
    by_cases he1:i+k=o.length
    ·have j1:((i:Int)+(k:Int) == (o.length:Int))=true:=beq_iff_eq.2 (by omega)
     by_cases he2:j+m=v.length
     ·have j2:((j:Int)+(m:Int) == (v.length:Int))=true:=beq_iff_eq.2 (by omega)
      have hJ2:=HJf.out
      rw[Zoa HO3.out (by rw[HXN.out];omega) (by rw[HYN.out];omega)] at hJ2
      subst hJ2
      go_wp2_with fail
      go_quiet (fail)
      go_wp2
      go_ret2
      exact⟨_,_,_,rfl,Zod HL1.out HXN.out HYN.out hownm hB2.size,below_drewN hbz nq,rfl,rfl⟩
     ·have j2:((j:Int)+(m:Int) == (v.length:Int))=false:=beq_eq_false_iff_ne.2 (by omega)
      have hJ2:=HJf.out
      rw[Zoc HO3.out (.inl ⟨by rw[HXN.out];omega,by rw[HYN.out];omega⟩)] at hJ2
      have hJ3:J=none:=hJ2.symm
      subst hJ3
      go_wp2_with fail
      go_quiet (fail)
      go_wp2
      go_ret2
      exact⟨_,_,_,rfl,Zod HL1.out HXN.out HYN.out hownm hB2.size,below_drewN hbz nq,rfl⟩
    ·have j1:((i:Int)+(k:Int) == (o.length:Int))=false:=beq_eq_false_iff_ne.2 (by omega)
     by_cases he2:j+m=v.length
     ·have j2:((j:Int)+(m:Int) == (v.length:Int))=true:=beq_iff_eq.2 (by omega)
      have hJ2:=HJf.out
      rw[Zoc HO3.out (.inr ⟨by rw[HXN.out];omega,by rw[HYN.out];omega⟩)] at hJ2
      have hJ3:J=none:=hJ2.symm
      subst hJ3
      go_wp2_with fail
      go_quiet (fail)
      go_wp2
      go_ret2
      exact⟨_,_,_,rfl,Zod HL1.out HXN.out HYN.out hownm hB2.size,below_drewN hbz nq,rfl⟩
     ·have j2:((j:Int)+(m:Int) == (v.length:Int))=false:=beq_eq_false_iff_ne.2 (by omega)
      have hil:i+k<o.length:=by omega
      have hjl:j+m<v.length:=by omega
      obtain⟨bl,ofl,rfl,hbl,hcl⟩:=HS.at (hoW.keep hBm).l (by rw[List.length_map];omega)
      have ct:=hcl (i+k) (by rw[List.length_map];exact hil)
      obtain⟨bl2,ofl2,rfl,hbl2,hcl2⟩:=HS.at (hvW.keep hBm).l (by rw[List.length_map];omega)
      have ct2:=hcl2 (j+m) (by rw[List.length_map];exact hjl)
      rw[List.getElem_map] at ct ct2
      obtain⟨tt,htt⟩:∃ tt,o[i+k].2=tt:=⟨_,rfl⟩
      obtain⟨t2,ht2⟩:∃ t2,v[j+m].2=t2:=⟨_,rfl⟩
      rw[htt] at ct
      rw[ht2] at ct2
      have i1:(0:Int)≤(i:Int)+(k:Int):=by omega
      have i2:(i:Int)+(k:Int)<(o.length:Int):=by omega
      have i3:((i:Int)+(k:Int)).toNat=i+k:=by omega
      have i4:(0:Int)≤(j:Int)+(m:Int):=by omega
      have i5:(j:Int)+(m:Int)<(v.length:Int):=by omega
      have i6:((j:Int)+(m:Int)).toNat=j+m:=by omega
      clear hcl hcl2
      by_cases hte:tt=t2
      ·subst hte
       have HJ4:Hid (∃ f',(o.drop (i+k+1)).length<f'∧thenR (l1++mkS 43 (chgS (v.drop j))++[⟨32,tt⟩]) (jnS f' (o.drop (i+k+1)) (v.drop (j+m+1)))=J):=(by
        have hJ2:=HJf.out
        have hx:=HXN.out
        have hy:=HYN.out
        subst hx hy
        rw[Zob HO3.out hil hjl (by rw[htt,ht2]),HL1.out,htt] at hJ2
        refine⟨f,?_,hJ2⟩
        have h1:=HF.out
        rw[List.length_drop] at h1 ⊢
        omega)
       clear htt ht2
       go_wp2_with fail
       go_quiet (fail)
       have hownq:(wy.drewN nq).ownsRow W.heap.size 47 2 (.slice lom (l.length+k+m) lcm) (l.length+k+m) (mkcells (l1++mkS 43 (chgS (v.drop j)))):=ZhK hownm (below_drewN (Below.refl _ _) nq)
       have hBq:=below_drewN hBm nq
       have x4q:(wy.drewN nq).cell? ⟨w.heap.size,4,none⟩=some (.slice (some ⟨bl,ofl,none⟩) o.length lc):=x4
       have ctq:(wy.drewN nq).cell? ⟨bl,ofl+(i+k),none⟩=some (.string ⟨tt.toArray⟩):=ct
       clear hownm hBm x4 y4 ct ct2 hbz
       generalize wy.drewN nq=wz at hownq hBq x4q ctq ⊢
       have hrow:=Zgj wz ⟨32,tt⟩
       have hownA:=ZhK hownq ((Below.refl _ wz).alloc (Nat.le_refl _) (mkO ⟨32,tt⟩))
       have hBA:=hBq.alloc hBq.size (mkO ⟨32,tt⟩)
       have hxb:l.length+k+m+1≤4398046511104:=by omega
       go_wp2_with (at_builtin;refine Zmg _ (by kernel_rfl) (.tmp 125) (.tmp 132) 43 47 (.agg #[.int .u8 0,.string ⟨#[]⟩]) 2 24 rfl Tryz.underlying43 infoMk rfl (by decide) (by decide) W.heap.size _ _ _ rfl hownA _ 1 (mkcells [⟨32,tt⟩]) rfl hrow (Zgo _) (Zgp _) hxb hBA.size ?_)
       intro v8 u8 ho8 hg8
       have hB8:=hBA.grown hg8 hBA.size (fun q hq=>ZhJ hownA hq)
       rw[← Zgl] at ho8
       have HLn:Hid ((l1++mkS 43 (chgS (v.drop j))++[(⟨32,tt⟩:Mk)]).length=l.length+k+m+1):=(by
        show _=_
        rw[← HL1.out,List.length_append,List.length_append,List.length_append,Zor,Zor,HXN.out,HYN.out]
        rfl)
       go_wp2
       exact⟨⟨i+k+1,j+m+1,l1++mkS 43 (chgS (v.drop j))++[⟨32,tt⟩],by omega,by omega,by rw[HLn.out];omega,by go_num,by go_num,by rw[HLn.out];exact ho8,hB8,HJ4⟩,by simp[intOf];omega⟩
      ·have j3:(tt == t2)=false:=beq_eq_false_iff_ne.2 hte
       have hJ2:=HJf.out
       rw[ZnZ HO3.out (by rw[HXN.out];exact hil) (by rw[HYN.out];exact hjl) (by
        intro q
        refine hte ?_
        rw[← htt,← ht2]
        have hx:=HXN.out
        have hy:=HYN.out
        subst hx hy
        exact q)] at hJ2
       have hJ3:J=none:=hJ2.symm
       subst hJ3
       clear htt ht2 hte
       go_wp2_with fail
       go_quiet (fail)
       go_wp2
       go_ret2
       exact⟨_,_,[],rfl,World.ownsRow_nil _ _ _ _,below_drewN hbz nq,rfl⟩
end

end Go.Proofs.YtcniomgjikienaaGreatDoor
