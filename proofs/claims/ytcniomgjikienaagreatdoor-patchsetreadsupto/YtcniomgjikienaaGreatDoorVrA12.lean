/-
  Texts that belong together, joined: CpQ, CpX, UnLen, UqA, UqB, PsF, PsG, PsH, CrJ, CrF, CqS, CrG, NoLs, CrK, CrM, CrN, CrV, CrH.
-/
import Derived.Test.YtcniomgjikienaaGreatDoorVrA11
import Derived.Deep.QuietTactic
import Derived.BigQuiet

set_option maxHeartbeats 16000000
set_option maxRecDepth 100000
namespace Go.Proofs.YtcniomgjikienaaGreatDoor

section
open Go.RowKit
structure HPp (w:World) (v:Value) (F:List Pfd):Prop where
 row:Holds w v F.length (pxcells F)
 ins:∀ f∈F,f.hs.map (·.1)=f.x.hs∧HHp w f.v f.hs
theorem Pw.holds {w u:World} {v:Value} {F:List Pfd} (h:Pw w v F u):HPp u v F:=⟨Zeo h.own,fun f hf=>⟨(h.ins f hf).eq.symm,Zeo (h.ins f hf).own,fun y hy=>Zeo ((h.ins f hf).ins y hy)⟩⟩
theorem HPp.keep {w u:World} {v:Value} {F:List Pfd} (h:HPp w v F) (hb:Below w.heap.size w u):HPp u v F:=⟨Holds.keep h.row fun k hk=>hb.block k hk,fun f hf=>⟨(h.ins f hf).1,(h.ins f hf).2.keep hb (Nat.le_refl _)⟩⟩
theorem ZiQ (F:List Pfd):(pxcells F).length=F.length * 3:=by
 induction F with
 | nil=>rfl
 | cons f F ih =>
  simp only[pxcells,List.flatMap_cons,List.length_append,List.length_cons] at ih ⊢
  rw[ih]
  simp[pxC]
  omega
theorem ZiP (F:List Pfd):∀ (k:Nat) (hk:k<F.length),(pxcells F)[k * 3]?=some (.string ⟨F[k].x.old.toArray⟩)∧(pxcells F)[k * 3+1]?=some (.string ⟨F[k].x.new.toArray⟩)∧(pxcells F)[k * 3+2]?=some F[k].v:=by
 induction F with
 | nil=>intro k hk;cases hk
 | cons f F ih =>
  intro k hk
  have e:pxcells (f::F)=pxC f++pxcells F:=by simp[pxcells]
  rw[e]
  cases k with
  | zero=>exact⟨rfl,rfl,rfl⟩
  | succ k =>
   obtain⟨h1,h2,h3⟩:=ih k (by simpa using hk)
   have e0:(k+1) * 3=3+k * 3:=by omega
   have l3:(pxC f).length=3:=rfl
   refine⟨?_,?_,?_⟩
   ·rw[e0,List.getElem?_append_right (by rw[l3];omega),l3,show 3+k * 3-3=k * 3 by omega];exact h1
   ·rw[e0,List.getElem?_append_right (by rw[l3];omega),l3,show 3+k * 3+1-3=k * 3+1 by omega];exact h2
   ·rw[e0,List.getElem?_append_right (by rw[l3];omega),l3,show 3+k * 3+2-3=k * 3+2 by omega];exact h3
theorem HPp.at {w:World} {ao:Option Addr} {n c:Nat} {F:List Pfd} (h:HPp w (.slice ao n c) F) (h0:0<F.length):∃ b off,ao=some ⟨b,off,none⟩∧b<w.heap.size ∧
  ∀ k (hk:k<F.length),w.cell? ⟨b,off+k * 3,none⟩=some (.string ⟨F[k].x.old.toArray⟩)∧w.cell? ⟨b,off+k * 3+1,none⟩=some (.string ⟨F[k].x.new.toArray⟩)∧w.cell? ⟨b,off+k * 3+2,none⟩=some F[k].v:=by
 obtain⟨b,off,c',hv,hb,hc⟩:=Holds.at h.row (by rw[ZiQ];omega)
 cases hv
 refine⟨b,off,rfl,hb,fun k hk=>?_⟩
 obtain⟨h1,h2,h3⟩:=ZiP F k hk
 have hcc:∀ j u,(pxcells F)[j]?=some u→w.cell? ⟨b,off+j,none⟩=some u:=fun j u hj=>by
  obtain⟨hj1,hj2⟩:=List.getElem?_eq_some_iff.1 hj
  rw[hc j hj1,hj2]
 exact⟨hcc _ _ h1,by rw[Nat.add_assoc];exact hcc _ _ h2,by rw[Nat.add_assoc];exact hcc _ _ h3⟩
theorem Zqh (F G:List Pfd) (va vb:Value) (w:World) (ha:HPp w va F) (hb:HPp w vb G) (HE:Hid (F.map (·.x)=G.map (·.x))) (HO:Hid (∀ f∈F,HOw f.hs)) (hl:F.length≤1099511627776) :
  Calls Tryz.prog 36 #[va,vb] w fun e w'=>e=.returned (.bool true)∧Below w.heap.size w w':=by
 obtain⟨ao,ac,rfl⟩:=Holds.form ha.row
 obtain⟨bo,bc,rfl⟩:=Holds.form hb.row
 have hlen:F.length=G.length:=(by have:=congrArg List.length HE.out;simpa using this)
 have hne:((F.length:Int) != (G.length:Int))=false:=(by rw[hlen];simp)
 go_enter Tryz.func36,Tryz.ntmps36
 go_wp2
 go_loopw [5] (fun i wr=>∃ k:Nat,k≤F.length∧i=.int .i64 k∧Below w.heap.size w wr) (fun i _=>F.length-(intOf i).toNat)
 case atStart=>exact⟨0,Nat.zero_le _,by go_num,Below.refl _ _⟩
 case round =>
 obtain⟨k,hk,rfl,hB⟩:=hrel
 by_cases hlt:k<F.length
 ·have hak:=ha.keep hB
  have hbk:=hb.keep hB
  obtain⟨b1,o1,rfl,hb1,hc1⟩:=HPp.at hak (by omega)
  obtain⟨b2,o2,rfl,hb2,hc2⟩:=HPp.at hbk (by omega)
  obtain⟨x0,x1,x2⟩:=hc1 k hlt
  obtain⟨y0,y1,y2⟩:=hc2 k (by omega)
  have i1:(0:Int)≤(k:Int):=by omega
  have i2:(k:Int)<(F.length:Int):=by omega
  have i3:(k:Int)<(G.length:Int):=by omega
  have i4:(k:Int).toNat=k:=by omega
  obtain⟨f,hf⟩:∃ f,F[k]=f:=⟨_,rfl⟩
  obtain⟨g,hg⟩:∃ g,G[k]'(by omega)=g:=⟨_,rfl⟩
  have hfm:f∈F:=(by rw[← hf];exact List.getElem_mem _)
  have hgm:g∈G:=(by rw[← hg];exact List.getElem_mem _)
  have hxe:f.x=g.x:=(by
   have h1:(F.map (·.x))[k]?=(G.map (·.x))[k]?:=by rw[HE.out]
   rw[List.getElem?_map,List.getElem?_map,List.getElem?_eq_getElem hlt,List.getElem?_eq_getElem (by omega),hf,hg] at h1
   simpa using h1)
  rw[hf] at x0 x1 x2
  rw[hg] at y0 y1 y2
  have hcall:=fun u (hu:Below w.heap.size w u)=>Zqk f.x g.x f.hs g.hs (ha.ins f hfm).1 (hb.ins g hgm).1 f.v g.v u ((ha.ins f hfm).2.keep hu (Nat.le_refl _)) ((hb.ins g hgm).2.keep hu (Nat.le_refl _)) (HO.out f hfm) true (show Hid (true=true↔f.x=g.x) from ⟨fun _=>hxe,fun _=>rfl⟩)
  obtain⟨fo,fc,hfv⟩:=Holds.form ((ha.ins f hfm).2).row
  obtain⟨go,gc,hgv⟩:=Holds.form ((hb.ins g hgm).2).row
  unfold ptV at hcall
  rw[hfv] at x2 hcall
  rw[hgv] at y2 hcall
  clear hc1 hc2 hak hbk hxe hf hg hfm hgm hfv hgv
  go_wp2_with fail
  go_region_with (go_at_call 69;refine (hcall _ hB.drew).mono ?_;rintro e w2 ⟨rfl,hB2⟩)
  all_goals (
   have hB3:=hB.drew.trans (hB2.mono hB.drew.size)
   first
   | exact⟨⟨k+1,by omega,by go_num,hB3⟩,by simp[intOf];omega⟩
   | (go_wp2;exact⟨⟨k+1,by omega,by go_num,hB3⟩,by simp[intOf];omega⟩))
 ·have hend:decide ((k:Int)<(F.length:Int))=false:=decide_eq_false (by omega)
  go_wp2
  go_ret
  exact⟨rfl,hB⟩
end

section
open Ln
def szL:List (List UInt8)→Nat
 | []=>0
 | s::r=>s.length+1+szL r
theorem ZrB (l:List (List UInt8)):szL l.tail≤szL l:=by
 cases l with
 | nil=>exact Nat.le_refl _
 | cons s r=>simp only[List.tail_cons,szL];omega
theorem ZrA (l:List (List UInt8)):szL l=l.flatten.length+l.length:=by
 induction l with
 | nil=>rfl
 | cons s r ih =>
  simp only[szL,List.flatten_cons,List.length_append,List.length_cons,ih]
  omega
def szS (x:Sde):Nat:=szL (x.map (·.2))
theorem ZrC (y:UInt8 × List UInt8) (x:Sde):szS (y::x)=y.2.length+1+szS x:=rfl
theorem ZrD (x:Sde):szS (keptS x)≤szS x:=by
 induction x with
 | nil=>exact Nat.le_refl _
 | cons y x ih =>
  unfold keptS at ih ⊢
  rw[List.filter_cons]
  split
  ·rw[ZrC,ZrC]
   omega
  ·rw[ZrC]
   omega
theorem Zqs {sg:UInt8} (ls:List (List UInt8)):∀ {p p1:Nat} {r:List (List UInt8)} {x:Sde},rdS sg p ls=.ok (x,p1,r)→szS x+szL r≤szL ls:=by
 induction ls with
 | nil =>
  intro p p1 r x h
  simp only[rdS] at h
  cases h
  exact Nat.le_refl _
 | cons s ls ih =>
  intro p p1 r x h
  simp only[rdS] at h
  split at h
  ·split at h
   ·split at h
    ·cases h
     have:=ZrB ls
     rw[ZrC]
     simp only[szL,szS,List.map_nil,List.length_dropLast,List.length_drop]
     omega
    ·split at h
     ·cases h
     ·rename_i hr
      have:=ih hr
      cases h
      rw[ZrC]
      simp only[szL,List.length_drop]
      omega
   ·cases h
  ·cases h
   show 0+_≤_
   omega
theorem ZoH {p:Nat} {ls r:List (List UInt8)} {s:List UInt8} (h:nxt p ls=.ok (s,r)):szL r+1≤szL ls:=by
 cases ls with
 | nil=>cases h
 | cons t l =>
  simp only[nxt] at h
  split at h
  ·cases h
   simp only[szL]
   omega
  ·cases h
theorem Zrc {e:UInt8} {p:Nat} {ls r:List (List UInt8)} {q:Int × Int} (h:rngP e p ls=.ok (q,r)):szL r+1≤szL ls:=by
 unfold rngP at h
 split at h
 ·cases h
 ·rename_i hn
  split at h
  ·cases h
  ·split at h
   ·cases h
   ·cases h
    exact ZoH hn
theorem Zot {l:List Mk} (h:∀ m∈l,okS m.sg=true):l.length+txS l≤szL (pkL 43 l)+szL (pkL 45 l):=by
 induction l with
 | nil=>exact Nat.le_refl _
 | cons m l ih =>
  have h1:=ih fun x hx=>h x (by simp[hx])
  have h2:=h m (by simp)
  simp only[pkL,txS,List.length_cons]
  by_cases h3:m.sg=43
  ·rw[if_neg (by simp[h3]),if_pos ⟨by rw[h3];decide,h2⟩]
   simp only[szL]
   omega
  ·rw[if_pos ⟨h3,h2⟩]
   split
   ·simp only[szL]
    omega
   ·simp only[szL]
    omega
theorem Zng {a0 a1 a2:Nat} {po no pw nw:Int} {o w:Sde} {h:Hk} (hf:finH a0 a1 a2 po no pw nw o w=.ok h):h.ls.length+txS h.ls≤2 * (szS o+szS w):=by
 unfold finH at hf
 split at hf
 ·cases hf
 split at hf
 ·cases hf
 split at hf
 ·cases hf
 split at hf
 ·cases hf
 split at hf
 ·cases hf
 split at hf
 ·cases hf
 ·rename_i l hj
  cases hf
  obtain⟨_,b,c,d,_⟩:=ZeY _ hj
  have:=Zot b
  rw[c,d] at this
  have e1:szL ((oldF o w).map (·.2))≤szS o+szS w:=by
   show szS (oldF o w)≤_
   unfold oldF
   split
   ·have:=ZrD w
    omega
   ·omega
  have e2:szL ((newF o w).map (·.2))≤szS o+szS w:=by
   show szS (newF o w)≤_
   unfold newF
   split
   ·have:=ZrD o
    omega
   ·omega
  dsimp only
  omega
theorem ZmP {k p p1:Nat} {ls r:List (List UInt8)} {h:Hk} (hh:cxH k p ls=.ok (h,p1,r)):h.ls.length+txS h.ls+2 * szL r+6≤2 * szL ls:=by
 unfold cxH at hh
 split at hh
 ·cases hh
 ·rename_i s r0 hn
  have a1:=ZoH hn
  split at hh
  ·split at hh
   ·cases hh
   ·split at hh
    ·cases hh
    ·rename_i po no r1 h1
     have b1:=Zrc h1
     split at hh
     ·cases hh
     ·rename_i o p2 r2 h2
      have c1:=Zqs _ h2
      split at hh
      ·cases hh
      ·rename_i pw nw r3 h3
       have d1:=Zrc h3
       split at hh
       ·cases hh
       ·rename_i w p4 r4 h4
        have e1:=Zqs _ h4
        split at hh
        ·cases hh
        ·rename_i h5 hf
         cases hh
         have:=Zng hf
         omega
  ·cases hh
theorem ZmR (f:Nat):∀ {k p p1:Nat} {ls r:List (List UInt8)} {hs:List Hk},cxHs f k p ls=.ok (hs,p1,r)→hsS hs+208 * szL r≤208 * szL ls:=by
 induction f with
 | zero=>intro k p p1 ls r hs h;cases h
 | succ f ih =>
  intro k p p1 ls r hs h
  simp only[cxHs] at h
  split at h
  ·cases h
  ·rename_i h0 q1 r1 h1
   have a:=ZmP h1
   split at h
   ·split at h
    ·cases h
    ·rename_i l q2 r2 h2
     have b:=ih h2
     cases h
     simp only[hsS]
     omega
   ·cases h
    simp only[hsS]
    omega
def ptM:List Pth→Nat
 | []=>0
 | p::L=>416+hsS p.hs+ptM L
theorem Zoy {ah n:List UInt8} {p:Nat} {ls r:List (List UInt8)} (h:namP ah p ls=.ok (n,r)):szL r+1≤szL ls:=by
 unfold namP at h
 split at h
 ·cases h
 ·rename_i s r0 hn
  have:=ZoH hn
  split at h
  ·split at h
   ·cases h
   ·cases h
    exact this
  ·cases h
theorem ZmT (f:Nat):∀ {k p:Nat} {ls:List (List UInt8)} {L:List Pth},cxPs f k p ls=.ok L→ptM L≤208 * szL ls:=by
 induction f with
 | zero =>
  intro k p ls L h
  simp only[cxPs] at h
  cases h
  exact Nat.zero_le _
 | succ f ih =>
  intro k p ls L h
  simp only[cxPs] at h
  split at h
  ·cases h
   exact Nat.zero_le _
  ·split at h
   ·cases h
   ·rename_i n1 r1 h1
    have a1:=Zoy h1
    split at h
    ·cases h
    ·split at h
     ·cases h
     ·rename_i n2 r2 h2
      have b1:=Zoy h2
      split at h
      ·cases h
      ·rename_i hs p3 r3 h3
       have c1:=ZmR _ h3
       split at h
       ·cases h
       ·rename_i l h4
        have d1:=ih h4
        cases h
        simp only[ptM]
        omega
theorem ZmN {t:List UInt8} {L:List Pth} (h:cxT t=.ok L):ptM L≤436207616:=by
 unfold cxT at h
 split at h
 ·cases h
 ·rename_i hl
  have:=ZmT _ h
  rw[ZrA,split_join] at this
  have h2:=split_len t
  omega
theorem Zpl {L:List Pth} {p:Pth} (h:p∈L):416+hsS p.hs≤ptM L:=by
 induction L with
 | nil=>cases h
 | cons q L ih =>
  simp only[ptM]
  rcases List.mem_cons.1 h with rfl | h
  ·omega
  ·have:=ih h
   omega
theorem ZnN {l:List Hk} {x:Hk} (h:x∈l):x.ls.length+txS x.ls≤hsS l:=by
 induction l with
 | nil=>cases h
 | cons q l ih =>
  simp only[hsS]
  rcases List.mem_cons.1 h with rfl | h
  ·omega
  ·have:=ih h
   omega
theorem ZnM (l:List Hk):l.length≤hsS l:=by
 induction l with
 | nil=>exact Nat.le_refl _
 | cons q l ih =>
  simp only[hsS,List.length_cons]
  omega
theorem ZrH {l:List Mk} {m:Mk} (h:m∈l):m.tx.length≤txS l:=by
 induction l with
 | nil=>cases h
 | cons q l ih =>
  simp only[txS]
  rcases List.mem_cons.1 h with rfl | h
  ·omega
  ·have:=ih h
   omega
theorem ZnK {p:List (Hk × Value)} (h:hsS (p.map (·.1))≤436207616):HOk p:=by
 refine⟨?_,fun x hx=>?_⟩
 ·have:=ZnM (p.map (·.1))
  rw[List.length_map] at this
  omega
 ·have:=ZnN (List.mem_map_of_mem (f:=(·.1)) hx)
  refine⟨by omega,fun m hm=>?_⟩
  have:=ZrH hm
  omega
end

section
open Ln
theorem ZoI {p:Nat} {ls r:List (List UInt8)} {s:List UInt8} (h:nxt p ls=.ok (s,r)):s.length+2+szL r≤szL ls:=by
 have:=Zhp h
 subst this
 simp only[szL,List.length_append,List.length_cons,List.length_nil]
 omega
theorem ZrV {a b p p1:Nat} {ls r:List (List UInt8)} {m:Mk} (h:ulnP a b p ls=.ok (m,p1,r)):m.tx.length+1+szL r≤szL ls:=by
 unfold ulnP at h
 split at h
 ·cases h
 ·cases h
 ·rename_i c t r0 hn
  have:=ZoI hn
  have ht:=ZrB r0
  simp only[List.length_cons] at this
  split at h
  ·split at h
   ·cases h
    dsimp only
    omega
   ·cases h
    simp only[List.length_append,List.length_cons,List.length_nil]
    omega
  ·cases h
theorem Zsg (n:Nat):∀ {a b p p1:Nat} {ls r:List (List UInt8)} {l:List Mk},urdP n a b p ls=.ok (l,p1,r)→l.length+txS l+szL r≤szL ls:=by
 induction n with
 | zero =>
  intro a b p p1 ls r l h
  simp only[urdP] at h
  cases h
  simp only[txS,List.length_nil]
  omega
 | succ n ih =>
  intro a b p p1 ls r l h
  simp only[urdP] at h
  split at h
  ·cases h
   simp only[txS,List.length_nil]
   omega
  ·split at h
   ·cases h
   ·rename_i h1
    have a1:=ZrV h1
    split at h
    ·cases h
    ·rename_i h2
     have b1:=ih h2
     cases h
     simp only[txS,List.length_cons]
     omega
theorem ZrR {k p p1:Nat} {ls r:List (List UInt8)} {h:Hk} (hh:uhkP k p ls=.ok (h,p1,r)):h.ls.length+txS h.ls+szL r+1≤szL ls:=by
 unfold uhkP at hh
 split at hh
 ·cases hh
 ·rename_i s r0 hn
  have a1:=ZoH hn
  split at hh
  ·cases hh
  ·split at hh
   ·cases hh
   ·split at hh
    ·cases hh
    ·split at hh
     ·cases hh
     ·rename_i h1
      have b1:=Zsg _ h1
      split at hh
      ·cases hh
      ·cases hh
       dsimp only
       omega
theorem ZrU {x:List UInt8} (f:Nat):∀ {k p p1:Nat} {ls r:List (List UInt8)} {hs:List Hk},uhsP x f k p ls=.ok (hs,p1,r)→hsS hs+208 * szL r≤208 * szL ls:=by
 induction f with
 | zero=>intro k p p1 ls r hs h;cases h
 | succ f ih =>
  intro k p p1 ls r hs h
  simp only[uhsP] at h
  split at h
  ·cases h
  ·rename_i h0 q1 r1 h1
   have a:=ZrR h1
   split at h
   ·split at h
    ·cases h
    ·rename_i l q2 r2 h2
     have b:=ih h2
     cases h
     simp only[hsS]
     omega
   ·cases h
    simp only[hsS]
    omega
theorem Zsf {x:List UInt8} (f:Nat):∀ {k p:Nat} {ls:List (List UInt8)} {L:List Pth},upsP x f k p ls=.ok L→ptM L≤208 * szL ls:=by
 induction f with
 | zero =>
  intro k p ls L h
  simp only[upsP] at h
  cases h
  exact Nat.zero_le _
 | succ f ih =>
  intro k p ls L h
  simp only[upsP] at h
  split at h
  ·cases h
   exact Nat.zero_le _
  ·split at h
   ·cases h
   ·rename_i n1 r1 h1
    have a1:=Zoy h1
    split at h
    ·cases h
    ·split at h
     ·cases h
     ·rename_i n2 r2 h2
      have b1:=Zoy h2
      split at h
      ·cases h
      ·rename_i hs p3 r3 h3
       have c1:=ZrU _ h3
       split at h
       ·cases h
       ·rename_i l h4
        have d1:=ih h4
        cases h
        simp only[ptM]
        omega
theorem Zsa {x t:List UInt8} {L:List Pth} (h:unT x t=.ok L):ptM L≤436207616:=by
 unfold unT at h
 split at h
 ·cases h
 ·rename_i hl
  have:=Zsf _ h
  rw[ZrA,split_join] at this
  have h2:=split_len t
  omega
end

section
open Go.RowKit
end

section
open Go.RowKit
end

section
open Go.RowKit Go.Proofs.YtcniomgjikienaaGreatDoor.Tx
attribute [local go_sem] Zhc
end

section
open Go.RowKit Go.Proofs.YtcniomgjikienaaGreatDoor.Tx
attribute [local go_sem] Zhc
end

section
open Go.RowKit Go.Proofs.YtcniomgjikienaaGreatDoor.Tx
attribute [local go_sem] Zhc
structure Pv (wb:World) (S:Nat) (n1 n2:List UInt8) (hv:Value) (P:List (Hk × Value)) (u:World):Prop where
 low:Below wb.heap.size wb u
 box:u.heap[S]?=some (.cells #[.string ⟨n1.toArray⟩,.string ⟨n2.toArray⟩,hv] 42)
 own:u.ownsRow wb.heap.size 45 5 hv P.length (hkcells P)
 ins:∀ x∈P,u.ownsRow wb.heap.size 47 2 x.2 x.1.ls.length (mkcells x.1.ls)
 ge:wb.heap.size≤S
section
variable {wb u u':World} {S:Nat} {hv:Value} {n1 n2:List UInt8} {P:List (Hk × Value)}
theorem Pv.keep (h:Pv wb S n1 n2 hv P u) (hb:Below u.heap.size u u'):Pv wb S n1 n2 hv P u':=⟨h.low.trans (hb.mono h.low.size),(hb.block S (Array.getElem?_eq_some_iff.1 h.box).1).trans h.box,ZhK h.own hb,fun x hx=>ZhK (h.ins x hx) hb,h.ge⟩
theorem Pv.cells (h:Pv wb S n1 n2 hv P u):u.cell? ⟨S,0,none⟩=some (.string ⟨n1.toArray⟩)∧u.cell? ⟨S,1,none⟩=some (.string ⟨n2.toArray⟩)∧u.cell? ⟨S,2,none⟩=some hv:=by
 refine⟨?_,?_,?_⟩<;>rw[Lib.cell_of_heap h.box]<;>rfl
theorem Pv.more (h:Pv wb S n1 n2 hv P u) {x:Hk} {y hv':Value} (hy:u.ownsRow wb.heap.size 47 2 y x.ls.length (mkcells x.ls)) (hg:u.grownBy u' hv.ownBlock) (ho:u'.ownsRow wb.heap.size 45 5 hv' (P.length+1) (hkcells P++hkC x y)) :
  Pv wb S n1 n2 hv' (P++[(x,y)]) (u'.setCell ⟨S,2,none⟩ hv')∧u'.cell? ⟨S,2,none⟩=some hv∧u'.frozen? ⟨S,2,none⟩=false∧Below wb.heap.size wb u':=by
 have hge:∀ j,hv.ownBlock=some j→wb.heap.size≤j:=fun j hj=>ZhJ h.own hj
 have hb:u'.heap[S]?=some (.cells #[.string ⟨n1.toArray⟩,.string ⟨n2.toArray⟩,hv] 42):=(hg.block S (Array.getElem?_eq_some_iff.1 h.box).1 (fun e=>ZhE h.own h.box (by decide) e.symm)).trans h.box
 have hlow:Below wb.heap.size wb u':=h.low.grown hg h.low.size hge
 have key:∀ {v:Value} {n:Nat} {xs:List Value},u.ownsRow wb.heap.size 47 2 v n xs→u'.ownsRow wb.heap.size 47 2 v n xs:=by
  intro v n xs hv2
  exact ZjA hv2 h.own (by decide) hg
 have hg2:=ZdS u' S 2 hv'
 have hkc:hkcells (P++[(x,y)])=hkcells P++hkC x y:=by rw[Zeh];simp[hkcells,hkC]
 refine⟨⟨hlow.setCell h.ge _,heap_setCell_same u' S 2 _ _ hv' hb,?_,?_,h.ge⟩,by rw[Lib.cell_of_heap hb];rfl,Lib.frozen_of_heap hb 2,hlow⟩
 ·rw[List.length_append,hkc]
  exact ho.kept hg2 (.inr (ZhE ho hb (by decide)))
 ·intro z hz
  rcases List.mem_append.1 hz with hz | hz
  ·exact (key (h.ins z hz)).kept hg2 (.inr (ZhE (key (h.ins z hz)) hb (by decide)))
  ·rw[List.mem_singleton.1 hz]
   exact (key hy).kept hg2 (.inr (ZhE (key hy) hb (by decide)))
end
section
variable {w u u':World} {ov:Value} {F:List Pfd}
theorem ZiO (h:Pw w ov F u) (hb:Below u.heap.size u u'):Pw w ov F u':=⟨h.low.trans (hb.mono h.low.size),ZhK h.own hb,fun f hf=>(h.ins f hf).keep hb⟩
end
end

section
open Ln
theorem Zof (x:Sde):rstS x=x.drop (chgS x).length:=by
 induction x with
 | nil=>rfl
 | cons y x ih =>
  unfold rstS chgS at ih ⊢
  rw[List.dropWhile_cons,List.takeWhile_cons]
  split
  ·rw[List.length_cons,List.drop_succ_cons]
   exact ih
  ·rfl
theorem ZnU (x:Sde):(chgS x).length≤x.length:=(List.takeWhile_prefix _).length_le
def thenR (a:List Mk):Option (List Mk)→Option (List Mk)
 | none=>none
 | some l=>some (a++l)
theorem ZrF (X:Option (List Mk)):thenR [] X=X:=by cases X<;>rfl
section
variable {o w:Sde} {i j f:Nat}
theorem Zoe (x:Sde) (i:Nat):rstS (x.drop i)=x.drop (i+(chgS (x.drop i)).length):=by rw[Zof,List.drop_drop]
theorem ZnY (h:okJ (chgS (o.drop i)) (chgS (w.drop j))=false):jnS (f+1) (o.drop i) (w.drop j)=none:=by
 simp only[jnS]
 rw[if_neg (by rw[h];decide)]
theorem Zoa (h:okJ (chgS (o.drop i)) (chgS (w.drop j))=true) (hi:o.length≤i+(chgS (o.drop i)).length) (hj:w.length≤j+(chgS (w.drop j)).length) (a:List Mk):thenR a (jnS (f+1) (o.drop i) (w.drop j))=some (a++mkS 45 (chgS (o.drop i))++mkS 43 (chgS (w.drop j))):=by
 simp only[jnS]
 rw[if_pos h,Zoe,Zoe,List.drop_eq_nil_of_le hi,List.drop_eq_nil_of_le hj]
 simp[thenR]
theorem Zoc (h:okJ (chgS (o.drop i)) (chgS (w.drop j))=true) (hx:o.length≤i+(chgS (o.drop i)).length∧j+(chgS (w.drop j)).length<w.length∨i+(chgS (o.drop i)).length<o.length∧w.length≤j+(chgS (w.drop j)).length):jnS (f+1) (o.drop i) (w.drop j)=none:=by
 simp only[jnS]
 rw[if_pos h,Zoe,Zoe]
 rcases hx with ⟨h1,h2⟩ | ⟨h1,h2⟩
 ·rw[List.drop_eq_nil_of_le h1,List.drop_eq_getElem_cons h2]
 ·rw[List.drop_eq_nil_of_le h2,List.drop_eq_getElem_cons h1]
theorem ZnZ (h:okJ (chgS (o.drop i)) (chgS (w.drop j))=true) (hi:i+(chgS (o.drop i)).length<o.length) (hj:j+(chgS (w.drop j)).length<w.length) (hn:o[i+(chgS (o.drop i)).length].2≠w[j+(chgS (w.drop j)).length].2):jnS (f+1) (o.drop i) (w.drop j)=none:=by
 simp only[jnS]
 rw[if_pos h,Zoe,Zoe,List.drop_eq_getElem_cons hi,List.drop_eq_getElem_cons hj]
 dsimp only
 rw[if_neg hn]
theorem Zob (h:okJ (chgS (o.drop i)) (chgS (w.drop j))=true) (hi:i+(chgS (o.drop i)).length<o.length) (hj:j+(chgS (w.drop j)).length<w.length) (hn:o[i+(chgS (o.drop i)).length].2=w[j+(chgS (w.drop j)).length].2) (a:List Mk):thenR a (jnS (f+1) (o.drop i) (w.drop j))=thenR (a++mkS 45 (chgS (o.drop i))++mkS 43 (chgS (w.drop j))++[⟨32,o[i+(chgS (o.drop i)).length].2⟩]) (jnS f (o.drop (i+(chgS (o.drop i)).length+1)) (w.drop (j+(chgS (w.drop j)).length+1))):=by
 simp only[jnS]
 rw[if_pos h,Zoe,Zoe,List.drop_eq_getElem_cons hi,List.drop_eq_getElem_cons hj]
 dsimp only
 rw[if_pos hn]
 cases jnS f (o.drop (i+(chgS (o.drop i)).length+1)) (w.drop (j+(chgS (w.drop j)).length+1)) with
 | none=>rfl
 | some l=>simp[thenR]
end
theorem ZnX (x:Sde):chgS x=x.take (chgS x).length:=by
 have h:=List.takeWhile_prefix (fun y:UInt8 × List UInt8=>y.1 != 32) (l:=x)
 exact (List.prefix_iff_eq_take.1 h)
theorem ZnT (x:Sde) (i k:Nat) (hk:k<(chgS (x.drop i)).length):∃ h:i+k<x.length,(chgS (x.drop i))[k]=x[i+k]:=by
 have h1:=ZnU (x.drop i)
 rw[List.length_drop] at h1
 have h2:i+k<x.length:=by omega
 refine⟨h2,?_⟩
 have h3:(chgS (x.drop i))[k]?=((x.drop i).take (chgS (x.drop i)).length)[k]?:=congrArg (·[k]?) (ZnX (x.drop i))
 rw[List.getElem?_take,if_pos hk,List.getElem?_drop,List.getElem?_eq_getElem hk,List.getElem?_eq_getElem h2] at h3
 exact Option.some.inj h3
theorem Zos (s:Int) (x:Sde) (k:Nat) (hk:k<x.length):mkS s (x.take (k+1))=mkS s (x.take k)++[⟨s,x[k].2⟩]:=by
 rw[List.take_succ_eq_append_getElem hk]
 unfold mkS
 rw[List.map_append]
 rfl
theorem ZnW (x:Sde):∀ y∈chgS x,y.1≠32:=by
 induction x with
 | nil=>intro y hy;cases hy
 | cons z x ih =>
  unfold chgS at ih ⊢
  intro y hy
  rw[List.takeWhile_cons] at hy
  split at hy
  ·rename_i hz
   rcases List.mem_cons.1 hy with rfl | hy
   ·simpa using hz
   ·exact ih y hy
  ·cases hy
theorem ZnV (x:Sde) (i n:Nat) (h:n≤(chgS (x.drop i)).length) (_hi:i≤x.length):(n<(chgS (x.drop i)).length↔∃ h:i+n<x.length,x[i+n].1≠32):=by
 constructor
 ·intro hn
  obtain⟨h2,h3⟩:=ZnT x i n hn
  refine⟨h2,?_⟩
  rw[← h3]
  exact ZnW _ _ (List.getElem_mem hn)
 ·rintro⟨h2,h3⟩
  refine Nat.lt_of_le_of_ne h fun e=>?_
  have h4:=Zoe x i
  rw[← e,List.drop_eq_getElem_cons h2] at h4
  exact h3 (ZjE h4)
end

section
open Go.RowKit
attribute [local go_sem] ByteArray.extract_mk Zhc
def RdZ (u:World) (R:Nat) (vL:Value):Except (Nat × Int) Nat→Prop
 | .ok p=>Rx u R vL (p:Int) 0 0
 | .error (a,z)=>(∃ p':Nat,Rx u R vL (p':Int) (a:Int) z)∧z≠0
theorem RdZ.keep {u u':World} {R:Nat} {vL:Value} {st:Except (Nat × Int) Nat} (h:RdZ u R vL st) (hk:∀ {p fa fe:Int},Rx u R vL p fa fe→Rx u' R vL p fa fe):RdZ u' R vL st:=by
 match st,h with
 | .ok _,h=>exact hk h
 | .error (_,_),⟨⟨p',h⟩,h2⟩=>exact⟨⟨p',hk h⟩,h2⟩
theorem RdZ.low {u u':World} {R:Nat} {vL:Value} {st:Except (Nat × Int) Nat} (h:RdZ u R vL st) (hb:Below u.heap.size u u'):RdZ u' R vL st:=h.keep fun q=>(hb.block R q.lt).trans q
theorem RdZ.off {u u':World} {R:Nat} {vL:Value} {st:Except (Nat × Int) Nat} {g:Option Nat} (h:RdZ u R vL st) (hg:u.grownBy u' g) (hr:some R≠g):RdZ u' R vL st:=h.keep fun q=>(hg.block R q.lt hr).trans q
theorem RdZ.dN {u:World} {R:Nat} {vL:Value} {st:Except (Nat × Int) Nat} (h:RdZ u R vL st) (n:Nat):RdZ (u.drewN n) R vL st:=h.keep fun q=>q.dN n
theorem RdZ.lt {u:World} {R:Nat} {vL:Value} {st:Except (Nat × Int) Nat} (h:RdZ u R vL st):R<u.heap.size:=by
 match st,h with
 | .ok _,h=>exact Rx.lt h
 | .error (_,_),⟨⟨_,h⟩,_⟩=>exact Rx.lt h
def feS:Except (Nat × Int) Nat→Int
 | .ok _=>0
 | .error (_,z)=>z
theorem RdZ.fe {u:World} {R:Nat} {vL:Value} {st:Except (Nat × Int) Nat} (h:RdZ u R vL st):u.cell? ⟨R,3,none⟩=some (.int .i64 (feS st)):=by
 match st,h with
 | .ok _,h=>exact (Rx.cells h).2.2.2
 | .error (_,_),⟨⟨_,h⟩,_⟩=>exact (Rx.cells h).2.2.2
def nxZ (L:List (List UInt8)):Except (Nat × Int) Nat→Except (Nat × Int) (List UInt8 × Nat)
 | .error e=>.error e
 | .ok p=>match nxt p (L.drop p) with
  | .error e=>.error e
  | .ok (s,_)=>.ok (s,p+1)
def NxQ (R:Nat) (vL:Value) (Z:Except (Nat × Int) (List UInt8 × Nat)) (x:Ending) (w':World):Prop :=
 match Z with
 | .error e=>x=.returned (.string ⟨#[]⟩)∧RdZ w' R vL (.error e)
 | .ok (s,p1)=>x=.returned (.string ⟨s.toArray⟩)∧RdZ w' R vL (.ok p1)
theorem Znp {R:Nat} {L:List (List UInt8)} {lo:Option Addr} {lc:Nat} {st:Except (Nat × Int) Nat} (w:World) (q:RdZ w R (.slice lo L.length lc) st) (hL:HS w (.slice lo L.length lc) L) (hR:∀ a,lo=some a→a.block≠R) (hp:∀ p,st=.ok p→p≤4398046511104) (hs:∀ s∈L,s.length≤1099511627776)
  (Z:Except (Nat × Int) (List UInt8 × Nat)) (hZ:nxZ L st=Z) :
  Calls Tryz.prog 100 #[.pointer (some ⟨R,0,none⟩)] w fun x w'=>NxQ R (.slice lo L.length lc) Z x w'∧w.grownBy w' (some R):=by
 match st,q with
 | .error (a,z),⟨⟨p',q⟩,hz⟩ =>
  subst hZ
  refine (ZpP w q hz).mono ?_
  rintro x w' ⟨rfl,rfl⟩
  exact⟨⟨rfl,⟨p',q⟩,hz⟩,⟨rfl,rfl,rfl,Nat.le_refl _,fun _ _ _=>rfl⟩⟩
 | .ok p,q =>
  have hp:=hp p rfl
  unfold nxZ at hZ
  dsimp only at hZ
  by_cases hlt:p<L.length
  ·rw[Zhm hlt] at hZ
   have hsl:=hs L[p] (List.getElem_mem hlt)
   cases hf:fdB L[p] with
   | true =>
    rw[if_pos hf] at hZ
    subst hZ
    refine (ZpQ w q hL hR hp hlt rfl hsl hf).mono ?_
    rintro x w' ⟨rfl,h1,h2⟩
    exact⟨⟨rfl,by show Rx _ _ _ _ _ _;simpa using h1⟩,h2⟩
   | false =>
    rw[if_neg (by rw[hf];decide)] at hZ
    subst hZ
    refine (ZpM w q hL hR hp hlt rfl hsl hf).mono ?_
    rintro x w' ⟨rfl,h1,h2⟩
    exact⟨⟨rfl,⟨p+1,by simpa using h1⟩,by decide⟩,h2⟩
  ·rw[Zhn (by omega)] at hZ
   subst hZ
   refine (ZpN w q hL hR hp (by omega)).mono ?_
   rintro x w' ⟨rfl,h1,h2⟩
   exact⟨⟨rfl,⟨p+1,by simpa using h1⟩,by decide⟩,h2⟩
def pkG (sg:List UInt8):List (List UInt8)→Bool
 | []=>false
 | s::_=>sg.isPrefixOf s
def pkZ (sg:List UInt8) (L:List (List UInt8)):Except (Nat × Int) Nat→Bool
 | .error _=>false
 | .ok p=>pkG sg (L.drop p)
theorem Znt {R:Nat} {L:List (List UInt8)} {lo:Option Addr} {lc:Nat} {st:Except (Nat × Int) Nat} (sg:List UInt8) (w:World) (q:RdZ w R (.slice lo L.length lc) st) (hL:HS w (.slice lo L.length lc) L) (hs:∀ s∈L,s.length≤1099511627776) (hsg:sg.length≤1099511627776) (b:Bool) (HB:Hid (pkZ sg L st=b)) :
  Calls Tryz.prog 64 #[.pointer (some ⟨R,0,none⟩),.string ⟨sg.toArray⟩] w fun x w'=>x=.returned (.bool b)∧∃ m,w'=w.drewN m:=by
 match st,q,HB with
 | .error (a,z),⟨⟨p,q⟩,hz⟩,HB =>
  have hb:b=false:=HB.out.symm
  subst hb
  clear HB
  go_enter Tryz.func64,Tryz.ntmps64
  go_wp2_with fail
  refine (ZpG w q).mono ?_
  rintro e w1 ⟨rfl,m,rfl⟩
  have hmr:(decide (z=0) && decide (p<L.length))=false:=by simp[hz]
  rw[hmr]
  go_wp2
  go_ret
  exact⟨rfl,m,rfl⟩
 | .ok p,q,HB =>
 by_cases hlt:p<L.length
 ·have hd:L.drop p=L[p]::L.drop (p+1):=List.drop_eq_getElem_cons hlt
  have hb:=HB.out
  unfold pkZ at hb
  dsimp only at hb
  rw[hd] at hb
  simp only[pkG] at hb
  obtain⟨bk,off,rfl,hbk,hcl⟩:=HS.at hL (by omega)
  have d4:=hcl p hlt
  have hsl:=hs L[p] (List.getElem_mem _)
  rw[Zpc] at hb
  generalize L[p]=s at d4 hsl hb
  clear hcl hd hs HB hL
  have qq:Rx w R (.slice (some ⟨bk,off,none⟩) L.length lc) (p:Int) 0 0:=q
  obtain⟨c0,c1,c2,c3⟩:=qq.cells
  go_enter Tryz.func64,Tryz.ntmps64
  go_wp2_with fail
  refine (ZpG w qq).mono ?_
  rintro e w1 ⟨rfl,m,rfl⟩
  have hmr:(decide ((0:Int)=0) && decide (p<L.length))=true:=by simp[hlt]
  rw[hmr]
  have f0:(w.drewN m).cell? ⟨R,0,none⟩=_:=c0
  have f1:(w.drewN m).cell? ⟨R,1,none⟩=_:=c1
  have f4:(w.drewN m).cell? ⟨bk,off+p,none⟩=_:=d4
  clear c0 c1 c2 c3 d4 q qq hmr
  have HM:Hid (∀ n,∃ k,(w.drewN m).drewN n=w.drewN k):=fun n=>⟨_,World.drewN_drewN w m n⟩
  generalize w.drewN m=W1 at f0 f1 f4 HM ⊢
  go_wp2_with fail
  have j1:(0:Int)≤(p:Int):=by omega
  have j2:(p:Int)<(L.length:Int):=by omega
  have j3:(p:Int).toNat=p:=by omega
  go_quiet (fail)
  by_cases hlen:sg.length≤s.length
  ·have h1:(sg.length:Int)≤(s.length:Int):=by omega
   have h0:(0:Int)≤(sg.length:Int):=by omega
   have h2:(s.take sg.length == sg)=b:=by rw[← hb];simp[hlen]
   go_wp2
   go_ret
   refine⟨?_,HM.out _⟩
   rw[← h2]
   rfl
  ·have h1:¬ (sg.length:Int)≤(s.length:Int):=by omega
   have h2:b=false:=by rw[← hb];simp[hlen]
   subst h2
   go_wp2
   go_ret
   exact⟨rfl,HM.out _⟩
 ·have hd:L.drop p=[]:=List.drop_eq_nil_of_le (by omega)
  have hb:=HB.out
  unfold pkZ at hb
  dsimp only at hb
  rw[hd] at hb
  simp only[pkG] at hb
  subst hb
  go_enter Tryz.func64,Tryz.ntmps64
  go_wp2_with fail
  refine (ZpG w (show Rx w R (.slice lo L.length lc) (p:Int) 0 0 from q)).mono ?_
  rintro e w1 ⟨rfl,m,rfl⟩
  have hmr:(decide ((0:Int)=0) && decide (p<L.length))=false:=by simp[hlt]
  rw[hmr]
  go_wp2
  go_ret
  exact⟨rfl,m,rfl⟩
end

section
open Q Go.RowKit Go.Proofs.YtcniomgjikienaaGreatDoor.Tx Go.Shelf
attribute [local go_sem] ZaB ByteArray.extract_mk
theorem ZmW (n:Int) (w:World):Calls Tryz.prog 182 #[.int .u8 n] w fun e w'=>e=.returned (.int .i64 (digitI n))∧w'=w:=(ZmU n w).mono fun _ _ h=>⟨h.1,h.2.symm⟩
theorem ZoY (n:Int) (w:World):Calls Tryz.prog 157 #[.int .u8 n] w fun e w'=>e=.returned (.bool (plainI n))∧w'=w:=(ZoX n w).mono fun _ _ h=>⟨h.1,h.2.symm⟩
theorem ZqB (L:List UInt8) (w:World) (hl:L.length≤1099511627777) (h0:0<L.length) (h34:((L[0].toNat:Int) != 34)=false) (HU:Hid (unquote L=body (L.drop 1))) :
  Calls Tryz.prog 149 #[.string ⟨L.toArray⟩] w fun e w'=>e=.returned (.tuple #[.string ⟨(uqa L).toArray⟩,.string ⟨(uqb L).toArray⟩,.int .i64 (uqe L)])∧Below w.heap.size w w':=by
 obtain⟨i0,hi,hz0,hz1,hz2⟩:=info_parts infoU8
 have hnb:((L.length:Int) == 0)=false:=beq_eq_false_iff_ne.2 (by omega)
 go_enter Tryz.func149,Tryz.ntmps149
 go_wp2
 go_loopw [5,6] (fun out i wr=>∃ (k:Nat) (acc:List UInt8),1≤k∧k≤L.length∧i=.int .i64 k∧wr.ownsRowF w.heap.size 5 1 out acc.length (Lib.byteCells acc)∧Below w.heap.size w wr∧body (L.drop 1)=(body (L.drop k)).map (fun p=>(acc++p.1,p.2))∧acc.length≤k) (fun _ i _=>L.length-(intOf i).toNat)
 case atStart=>exact⟨1,[],by omega,by omega,rfl,World.ownsRowF_nil _ _ _ _,Below.refl _ _,by simp,by simp⟩
 case round =>
  obtain⟨k,acc,hk1,hk,rfl,hown,hbr,hbody,hal⟩:=hrel
  have HB:Hid (body (L.drop 1)=(body (L.drop k)).map (fun p=>(acc++p.1,p.2))):=hbody
  clear hbody
  by_cases hlt:k<L.length
  ·have hdk:L.drop k=L[k]::L.drop (k+1):=List.drop_eq_getElem_cons hlt
   have hc:=L[k].toNat_lt
   by_cases h34':L[k].toNat=34
   ·have hb:((L[k].toNat:Int) == 34)=true:=by simp;omega
    have HE:Hid (unquote L=some (acc,L.drop (k+1))):=by
     show unquote L=_
     rw[HU.out,HB.out,hdk,ZaF _ h34'];simp
    clear hdk h34'
    have hcs:=fun nq=>ZmJ (P:=Tryz.prog) (wr.drewN nq) 83 9 5 w.heap.size u5 acc Tryz.underlying83 Tryz.underlying5 Tryz.underlying9 hown
    have hcs2:=ZmJ (P:=Tryz.prog) wr.drew 83 9 5 w.heap.size u5 acc Tryz.underlying83 Tryz.underlying5 Tryz.underlying9 hown
    go_wp2_with fail
    go_region
    go_wp2
    go_ret3
    rw[List.take_of_length_le (by simp)]
    exact⟨Zjp (uq_some HE.out),hbr.drew⟩
   ·have hb:((L[k].toNat:Int) == 34)=false:=by simp;omega
    cases hpl:plainI L[k].toNat
    ·by_cases h92:L[k].toNat=92
     ·have hb2:((L[k].toNat:Int) == 92)=true:=by simp;omega
      by_cases hk2:k+2<L.length
      ·have hdk':L.drop (k+1)=L[k+1]::L[k+2]::L.drop (k+3):=by
        rw[List.drop_eq_getElem_cons (by omega),List.drop_eq_getElem_cons (by omega)]
       rw[hdk'] at hdk
       have H1:Hid (pairOk L[k+1] L[k+2]=false→unquote L=none):=by
        intro hno
        rw[HU.out,HB.out,hdk,ZaJ _ h92 hno];rfl
       have H2:Hid (pairOk L[k+1] L[k+2]=true→body (L.drop 1)=(body (L.drop (k+3))).map (fun p=>(acc++[UInt8.ofNat (pairI L[k+1] L[k+2]).toNat]++p.1,p.2))):=by
        intro hyes
        rw[HB.out,hdk,ZaI _ h92 hyes];simp[Function.comp_def]
       clear hdk hdk' h92 h34'
       obtain⟨ha,ha'⟩:=ZcK L[k+1].toNat
       obtain⟨hb',hb''⟩:=ZcK L[k+2].toNat
       have g1:(k:Int)+2<(L.length:Int):=by omega
       have g2:(k:Int)+1<(L.length:Int):=by omega
       have x1:=fun u:World=>ZnQ (P:=Tryz.prog) 9 Tryz.underlying9 L ((k:Int)+1) (k+1) (by omega) (by omega) u
       have x2:=fun u:World=>ZnQ (P:=Tryz.prog) 9 Tryz.underlying9 L ((k:Int)+2) (k+2) (by omega) (by omega) u
       have w1:IntKind.i64.wrap ((k:Int)+1)=(k:Int)+1:=Zsh (by omega) (by omega)
       have w2:IntKind.i64.wrap ((k:Int)+2)=(k:Int)+2:=Zsh (by omega) (by omega)
       by_cases h1:digitI L[k+1].toNat<0
       ·have d1:decide (0≤digitI L[k+1].toNat)=false:=by simp;omega
        go_wp2_with fail
        refine (ZoX _ _).mono ?_
        rintro e w' ⟨rfl,rfl⟩
        go_wp2_with fail
        go_quiet ((first | (go_at_call 182;exact Calls.quiet_of_same (ZmW _ _)) | (go_at_call 157;exact Calls.quiet_of_same (ZoY _ _))))
        go_wp2
        go_ret3
        exact⟨Zjp (uq_none (H1.out (ZhW h1))),below_drewN hbr _⟩
       ·have d1:decide (0≤digitI L[k+1].toNat)=true:=by simp;omega
        by_cases h2:digitI L[k+2].toNat<0
        ·have d2:decide (0≤digitI L[k+2].toNat)=false:=by simp;omega
         go_wp2_with fail
         refine (ZoX _ _).mono ?_
         rintro e w' ⟨rfl,rfl⟩
         go_wp2_with fail
         go_quiet ((first | (go_at_call 182;exact Calls.quiet_of_same (ZmW _ _)) | (go_at_call 157;exact Calls.quiet_of_same (ZoY _ _))))
         go_wp2
         go_ret3
         exact⟨Zjp (uq_none (H1.out (ZhV h2))),below_drewN hbr _⟩
        ·have d2:decide (0≤digitI L[k+2].toNat)=true:=by simp;omega
         have HM:Hid (pairOk L[k+1] L[k+2]=!plainI (16 * digitI L[k+1].toNat+digitI L[k+2].toNat)):=ZhX h1 h2
         have m1:IntKind.i64.wrap (16 * digitI L[k+1].toNat)=16 * digitI L[k+1].toNat:=Zsh (by omega) (by omega)
         have m2:IntKind.i64.wrap (16 * digitI L[k+1].toNat+digitI L[k+2].toNat)=16 * digitI L[k+1].toNat+digitI L[k+2].toNat:=Zsh (by omega) (by omega)
         have m3:IntKind.u8.wrap (16 * digitI L[k+1].toNat+digitI L[k+2].toNat)=16 * digitI L[k+1].toNat+digitI L[k+2].toNat:=Zsi (by omega) (by omega)
         have m4:(16 * digitI L[k+1].toNat+digitI L[k+2].toNat) % 256=16 * digitI L[k+1].toNat+digitI L[k+2].toNat:=by omega
         cases hpp:plainI (16 * digitI L[k+1].toNat+digitI L[k+2].toNat)
         ·have hyes:pairOk L[k+1] L[k+2]=true:=by rw[HM.out,hpp];rfl
          have H3:=H2.out hyes
          have HE:Hid (body (L.drop 1)=(body (L.drop (k+3))).map (fun p=>(acc++[UInt8.ofNat (pairI L[k+1] L[k+2]).toNat]++p.1,p.2))):=H3
          have HV:Hid (((UInt8.ofNat (pairI L[k+1] L[k+2]).toNat).toNat:Int)=16 * digitI L[k+1].toNat+digitI L[k+2].toNat):=by
           have hpb:=ZhU hyes
           show ((UInt8.ofNat (pairI L[k+1] L[k+2]).toNat).toNat:Int)=pairI L[k+1] L[k+2]
           simp only[UInt8.toNat_ofNat']
           omega
          clear H1 H2 H3 HM hyes
          go_wp2_with fail
          refine (ZoX _ _).mono ?_
          rintro e w' ⟨rfl,rfl⟩
          go_wp2_with fail
          go_quiet ((first | (go_at_call 182;exact Calls.quiet_of_same (ZmW _ _)) | (go_at_call 157;exact Calls.quiet_of_same (ZoY _ _))))
          go_wp2_with fail
          have hown2:(wr.drewN nq).drew.ownsRowF w.heap.size 5 1 u5 acc.length (Lib.byteCells acc):=hown
          have hbr2:Below w.heap.size w (wr.drewN nq).drew:=(below_drewN hbr nq).drew
          generalize wr.drewN nq=wq at hown2 hbr2 ⊢
          have hbz:=hbr2.size
          go_region_law (first | (refine Zrx rfl (.tmp 88) (.tmp 102) 83 rfl w.heap.size 5 i0 (.int .u8 0) 1 1 Tryz.underlying83 hi hz0 hz1 hz2 rfl (by decide) u5 acc.length (Lib.byteCells acc) rfl (hown2.alloc _) ⟨wq.heap.size,0,none⟩ 1 1 [.int .u8 (16 * digitI L[k+1].toNat+digitI L[k+2].toNat)] rfl rfl (Zoz _ _ _) (ZoL _ _) (by unfold maxLen;omega) (by omega) (by simp at hbz ⊢;omega) ?_;intro v' w2 hown' hgrow hfr) | (refine Zry rfl 182 (.tmp 92) #[5] rfl (enters_of Tryz.func182 (by kernel_rfl) rfl) (.int .u8 (L[k+1].toNat:Int)) _ rfl (ZmW _ _) ?_) | (refine Zry rfl 182 (.tmp 98) #[5] rfl (enters_of Tryz.func182 (by kernel_rfl) rfl) (.int .u8 (L[k+2].toNat:Int)) _ rfl (ZmW _ _) ?_))
          all_goals
           go_wp2
           refine⟨⟨k+3,acc++[UInt8.ofNat (pairI L[k+1] L[k+2]).toNat],by omega,by omega,by go_num,?_,(hbr2.alloc hbr2.size _).grown hgrow (by simp at hbz ⊢;omega) (fun j hj=>(hown2.lt j hj).1),HE.out,by simp;omega⟩,by simp[intOf];omega⟩
           rw[ZaM,HV.out]
           simpa using hown'
         ·have hno:pairOk L[k+1] L[k+2]=false:=by rw[HM.out,hpp];rfl
          have H3:Hid (unquote L=none):=H1.out hno
          clear H1 H2 HM hno
          go_wp2_with fail
          refine (ZoX _ _).mono ?_
          rintro e w' ⟨rfl,rfl⟩
          go_wp2_with fail
          go_quiet ((first | (go_at_call 182;exact Calls.quiet_of_same (ZmW _ _)) | (go_at_call 157;exact Calls.quiet_of_same (ZoY _ _))))
          go_wp2
          go_ret3
          exact⟨Zjp (uq_none H3.out),below_drewN hbr _⟩
      ·have g1:¬ (k:Int)+2<(L.length:Int):=by omega
       have gd:decide ((k:Int)+2<(L.length:Int))=false:=by simp;omega
       have w2:IntKind.i64.wrap ((k:Int)+2)=(k:Int)+2:=Zsh (by omega) (by omega)
       have HE:Hid (unquote L=none):=by
        show unquote L=_
        rw[HU.out,HB.out,hdk,ZaH _ h34' hpl (by simp;omega)];rfl
       clear hdk h92 h34'
       go_wp2_with fail
       refine (ZoX _ _).mono ?_
       rintro e w' ⟨rfl,rfl⟩
       go_wp2_with fail
       go_quiet ((first | (go_at_call 182;exact Calls.quiet_of_same (ZmW _ _)) | (go_at_call 157;exact Calls.quiet_of_same (ZoY _ _))))
       go_wp2
       go_ret3
       exact⟨Zjp (uq_none HE.out),below_drewN hbr _⟩
     ·have hb2:((L[k].toNat:Int) == 92)=false:=by simp;omega
      have HE:Hid (unquote L=none):=by
       show unquote L=_
       rw[HU.out,HB.out,hdk,ZaH _ h34' hpl (by omega)];rfl
      clear hdk h92 h34'
      go_wp2_with fail
      refine (ZoX _ _).mono ?_
      rintro e w' ⟨rfl,rfl⟩
      go_wp2_with fail
      go_quiet ((first | (go_at_call 182;exact Calls.quiet_of_same (ZmW _ _)) | (go_at_call 157;exact Calls.quiet_of_same (ZoY _ _))))
      go_wp2
      go_ret3
      exact⟨Zjp (uq_none HE.out),below_drewN hbr _⟩
    ·have HE:Hid (body (L.drop 1)=(body (L.drop (k+1))).map (fun p=>(acc++[L[k]]++p.1,p.2))):=by
      show body (L.drop 1)=_
      rw[HB.out,hdk,ZaK _ hpl];simp[Function.comp_def]
     clear hdk h34'
     go_wp2_with fail
     refine (ZoX _ _).mono ?_
     rintro e w' ⟨rfl,rfl⟩
     go_wp2_with (at_builtin;refine Zmh _ rfl _ _ 83 rfl w.heap.size 5 i0 (.int .u8 0) 1 1 Tryz.underlying83 hi hz0 hz1 hz2 rfl (by decide) _ _ _ rfl (hown.alloc _) ⟨wr.heap.size,0,none⟩ 1 1 [.int .u8 (L[k].toNat:Int)] rfl rfl (Zoz _ _ _) (ZoL _ _) ?c3 ?c4 ?c5 ?_)
     case c3=>unfold maxLen;omega
     case c4=>omega
     case c5=>have:=hbr.size;simp;omega
     intro v' w2 hown' hgrow hfr
     go_wp2
     go_roundw
     case rel=>exact⟨k+1,acc++[L[k]],by omega,by omega,by go_num,by rw[ZaM];simpa using hown',(hbr.alloc hbr.size _).grown hgrow (by have:=hbr.size;simp;omega) (fun j hj=>(hown.lt j hj).1),HE.out,by simp;omega⟩
     case measure=>simp[intOf];omega
  ·have HE:Hid (unquote L=none):=by
    show unquote L=_
    rw[HU.out,HB.out,List.drop_eq_nil_of_le (by omega)];rfl
   go_wp2
   go_ret3
   exact⟨Zjp (uq_none HE.out),hbr⟩
theorem ZqA (l:List UInt8) (w:World) (hl:l.length≤1099511627776) :
  Calls Tryz.prog 149 #[.string ⟨l.toArray⟩] w fun e w'=>e=.returned (.tuple #[.string ⟨(uqa l).toArray⟩,.string ⟨(uqb l).toArray⟩,.int .i64 (uqe l)])∧Below w.heap.size w w':=by
 match l,hl with
 | [],_ =>
  go_enter Tryz.func149,Tryz.ntmps149
  go_wp2
  go_ret3
  exact⟨Zjp (uq_none rfl),Below.refl _ _⟩
 | c::t,hl =>
  by_cases h:c.toNat=34
  ·have hb:((c.toNat:Int) != 34)=false:=by simp;omega
   have HU:Hid (unquote (c::t)=body ((c::t).drop 1)):=by show unquote (c::t)=body t;simp[unquote,h]
   exact ZqB (c::t) w (by omega) (by simp) hb HU
  ·have hb:((c.toNat:Int) != 34)=true:=by simp;omega
   have hb0:(((t.length:Int)+1) == 0)=false:=beq_eq_false_iff_ne.2 (by omega)
   have HU:Hid (unquote (c::t)=none):=by show unquote (c::t)=none;simp[unquote,h]
   clear h
   go_enter Tryz.func149,Tryz.ntmps149
   go_wp2
   go_ret3
   exact⟨Zjp (uq_none HU.out),Below.refl _ _⟩
end

section
open Go.RowKit Go.Proofs.YtcniomgjikienaaGreatDoor.Tx
attribute [local go_sem] ByteArray.extract_mk Zhc
def flS (e:Int):Except (Nat × Int) Nat→Except (Nat × Int) Nat
 | .error x=>.error x
 | .ok p=>.error (p,e)
theorem Zni {R:Nat} {vL:Value} {st:Except (Nat × Int) Nat} (e:Int) (he:e≠0) (w:World) (q:RdZ w R vL st) :
  Calls Tryz.prog 63 #[.pointer (some ⟨R,0,none⟩),.int .i64 e] w fun x w'=>x=.returned (.tuple #[])∧RdZ w' R vL (flS e st)∧w.grownBy w' (some R):=by
 match st,q with
 | .error (a,z),⟨⟨p',q⟩,hz⟩ =>
  refine (Zpz e w q hz).mono ?_
  rintro x w' ⟨rfl,rfl⟩
  exact⟨rfl,⟨⟨p',q⟩,hz⟩,⟨rfl,rfl,rfl,Nat.le_refl _,fun _ _ _=>rfl⟩⟩
 | .ok p,q =>
  refine (ZpA e w q).mono ?_
  rintro x w' ⟨rfl,h1,h2⟩
  exact⟨rfl,⟨⟨p,h1⟩,he⟩,h2⟩
def nmV (N:Option (List UInt8)):List UInt8:=N.getD []
def nmE (N:Option (List UInt8)):Int:=if N.isSome=true then 0 else 253
theorem ZoC:nmV none=[]∧nmE none=253:=⟨rfl,rfl⟩
theorem ZoD (n:List UInt8):nmV (some n)=n∧nmE (some n)=0:=⟨rfl,rfl⟩
theorem ZqF {N:Option (List UInt8)} {v:List UInt8} {e:Int} (h:nmV N=v∧nmE N=e):Ending.returned (.tuple #[.string ⟨v.toArray⟩,.int .i64 e])=.returned (.tuple #[.string ⟨(nmV N).toArray⟩,.int .i64 (nmE N)]):=by rw[h.1,h.2]
theorem ZpL (s:List UInt8) (hs:s.length≤1099511627776) (w:World) (N:Option (List UInt8)) (HN:Hid (namedP s=N)) :
  Calls Tryz.prog 104 #[.string ⟨s.toArray⟩] w fun e w'=>e=.returned (.tuple #[.string ⟨(nmV N).toArray⟩,.int .i64 (nmE N)])∧Below w.heap.size w w':=by
 by_cases h1:s=devN
 ·subst h1
  have hN:N=some []:=(by rw[← HN.out];rfl)
  subst hN
  have HT:Hid (nameT []=devN):=rfl
  clear HN
  go_enter Tryz.func104,Tryz.ntmps104
  unfold devN
  go_wp2_with fail
  refine (ZpJ [] w (by decide) devN HT).mono ?_
  rintro e w1 ⟨rfl,hB1⟩
  unfold devN
  go_wp2
  go_ret2
  exact⟨rfl,hB1⟩
 ·have e1:(s == [47,100,101,118,47,110,117,108,108])=false:=beq_eq_false_iff_ne.2 h1
  by_cases h0:s=[]
  ·subst h0
   have hN:N=none:=(by rw[← HN.out];rfl)
   subst hN
   have HT:Hid (nameT []=devN):=rfl
   clear HN e1
   go_enter Tryz.func104,Tryz.ntmps104
   go_wp2_with fail
   refine (ZpJ [] w (by decide) devN HT).mono ?_
   rintro e w1 ⟨rfl,hB1⟩
   unfold devN
   go_wp2
   go_ret2
   exact⟨ZqF ZoC,hB1⟩
  ·have hps:0<s.length:=List.length_pos_iff.2 h0
   have hpos:(0:Int)<(s.length:Int):=by omega
   have hN:=HN.out
   unfold namedP unN at hN
   rw[if_neg h1] at hN
   obtain⟨c,hc⟩:∃ c,s[0]=c:=⟨_,rfl⟩
   have hhd:s.head?=some c:=(by rw[← hc,List.head?_eq_getElem?,List.getElem?_eq_getElem hps])
   rw[hhd] at hN
   have e0:s.isEmpty=false:=(by cases s with | nil=>exact absurd rfl h0 | cons _ _=>rfl)
   clear HN h1 h0 hhd
   by_cases h2:c=34
   ·have h5:((c.toNat:Int) == 34)=true:=(by rw[h2];rfl)
    rw[if_pos (by rw[h2])] at hN
    clear h2
    have hq:=ZqA s w hs
    cases hu:Q.unquote s with
    | none =>
     rw[hu] at hN
     subst hN
     have hu2:=Q.uq_none hu
     rw[hu2.1,hu2.2.1,hu2.2.2] at hq
     clear hu hu2
     go_enter Tryz.func104,Tryz.ntmps104
     go_wp2_with fail
     refine hq.mono ?_
     rintro e w1 ⟨rfl,hB1⟩
     go_wp2
     go_ret2
     exact⟨ZqF ZoC,hB1⟩
    | some z =>
     obtain⟨n,r⟩:=z
     have hu2:=Q.uq_some hu
     rw[hu2.1,hu2.2.1,hu2.2.2] at hq
     rw[hu] at hN
     clear hu hu2
     cases r with
     | cons d r =>
      subst hN
      go_enter Tryz.func104,Tryz.ntmps104
      go_wp2_with fail
      refine hq.mono ?_
      rintro e w1 ⟨rfl,hB1⟩
      go_wp2
      go_ret2
      exact⟨ZqF ZoC,hB1⟩
     | nil =>
      dsimp only at hN
      by_cases h3:n.length≤64
      ·obtain⟨T,hT⟩:∃ T,nameT n=T:=⟨_,rfl⟩
       have HT:Hid (nameT n=T):=hT
       rw[hT] at hN
       have j1:¬ (64:Int)<(n.length:Int):=by omega
       clear hT
       by_cases h4:T=s
       ·rw[if_pos ⟨h3,h4⟩] at hN
        subst hN
        have HT2:Hid (nameT n=s):=(by show _=_;rw[← h4];exact HT.out)
        clear h4 HT
        go_enter Tryz.func104,Tryz.ntmps104
        go_wp2_with fail
        refine hq.mono ?_
        rintro e w1 ⟨rfl,hB1⟩
        go_wp2_with fail
        refine (ZpJ n w1 (by omega) s HT2).mono ?_
        rintro e w2 ⟨rfl,hB2⟩
        go_wp2
        go_ret2
        exact⟨ZqF (ZoD n),hB1.trans (hB2.mono hB1.size)⟩
       ·rw[if_neg (fun q=>h4 q.2)] at hN
        subst hN
        have j2:(T == s)=false:=beq_eq_false_iff_ne.2 h4
        clear h4
        go_enter Tryz.func104,Tryz.ntmps104
        go_wp2_with fail
        refine hq.mono ?_
        rintro e w1 ⟨rfl,hB1⟩
        go_wp2_with fail
        refine (ZpJ n w1 (by omega) T HT).mono ?_
        rintro e w2 ⟨rfl,hB2⟩
        go_wp2
        go_ret2
        exact⟨ZqF ZoC,hB1.trans (hB2.mono hB1.size)⟩
      ·rw[if_neg (fun q=>h3 q.1)] at hN
       subst hN
       have j1:(64:Int)<(n.length:Int):=by omega
       go_enter Tryz.func104,Tryz.ntmps104
       go_wp2_with fail
       refine hq.mono ?_
       rintro e w1 ⟨rfl,hB1⟩
       go_wp2
       go_ret2
       exact⟨ZqF ZoC,hB1⟩
   ·rw[if_neg (fun q=>h2 (Option.some.inj q))] at hN
    have h5:((c.toNat:Int) == 34)=false:=(by
     refine beq_eq_false_iff_ne.2 fun q=>h2 ?_
     exact UInt8.toNat_inj.1 (by rw[show (34:UInt8).toNat=34 from rfl];omega))
    clear h2
    dsimp only at hN
    by_cases h3:s.length≤64
    ·obtain⟨T,hT⟩:∃ T,nameT s=T:=⟨_,rfl⟩
     have HT:Hid (nameT s=T):=hT
     rw[hT] at hN
     have j1:¬ (64:Int)<(s.length:Int):=by omega
     clear hT
     by_cases h4:T=s
     ·rw[if_pos ⟨h3,h4⟩] at hN
      subst hN
      have HT2:Hid (nameT s=s):=(by show _=_;exact HT.out.trans h4)
      clear h4 HT
      go_enter Tryz.func104,Tryz.ntmps104
      go_wp2_with fail
      refine (ZpJ s w hs s HT2).mono ?_
      rintro e w2 ⟨rfl,hB2⟩
      go_wp2
      go_ret2
      exact⟨ZqF (ZoD _),hB2⟩
     ·rw[if_neg (fun q=>h4 q.2)] at hN
      subst hN
      have j2:(T == s)=false:=beq_eq_false_iff_ne.2 h4
      clear h4
      go_enter Tryz.func104,Tryz.ntmps104
      go_wp2_with fail
      refine (ZpJ s w hs T HT).mono ?_
      rintro e w2 ⟨rfl,hB2⟩
      go_wp2
      go_ret2
      exact⟨ZqF ZoC,hB2⟩
    ·rw[if_neg (fun q=>h3 q.1)] at hN
     subst hN
     have j1:(64:Int)<(s.length:Int):=by omega
     go_enter Tryz.func104,Tryz.ntmps104
     go_wp2
     go_ret2
     exact⟨ZqF ZoC,Below.refl _ _⟩
end

section
open Go.RowKit
attribute [local go_sem] ByteArray.extract_mk Zhc
theorem Zkq {q:UInt8→Bool}:∀ (s:List UInt8) (i:Nat) (hi:i<s.length),q s[i]=true→(∀ j (hj:j<i),q (s[j]'(by omega))=false)→spB q s=some (s.take i,s[i],s.drop (i+1))
 | [],_,hi,_,_=>by simp at hi
 | c::t,0,_,hq,_=>by
  simp only[List.getElem_cons_zero] at hq
  simp[spB,hq]
 | c::t,i+1,hi,hq,h=>by
  have h0:=h 0 (by omega)
  simp only[List.getElem_cons_zero] at h0
  have ih:=Zkq t i (by simpa using hi) (by simpa using hq) (fun j hj=>by have:=h (j+1) (by omega);simpa using this)
  simp[spB,h0,ih]
theorem Zkr {q:UInt8→Bool}:∀ (s:List UInt8),(∀ j (hj:j<s.length),q s[j]=false)→spB q s=none
 | [],_=>rfl
 | c::t,h=>by
  have h0:=h 0 (by simp)
  simp only[List.getElem_cons_zero] at h0
  have ih:=Zkr t (fun j hj=>by have:=h (j+1) (by simp;omega);simpa using this)
  simp[spB,h0,ih]
def LnsP (s:List UInt8) (x:Ending):Prop :=
 match lnsP s with
 | some (A,N)=>x=.returned (.tuple #[.int .i64 A,.int .i64 N,.bool true])
 | none=>∃ A N,x=.returned (.tuple #[.int .i64 A,.int .i64 N,.bool false])
theorem LnsP.mk1 {s:List UInt8} {k:Nat} (hk:k<s.length) (h1:isK s[k]=true) (h2:∀ j (hj:j<k),isK (s[j]'(by omega))=false) {x y:List UInt8} (hx:s.take k=x) (hy:s.drop (k+1)=y) {b:Bool} (hb:(decide (Pn.parseE x=0) && (decide (Pn.parseE y=0) && (decide (1≤Pn.parseV x) && decide (Pn.parseV x<Pn.parseV y))))=b) :
  LnsP s (.returned (.tuple #[.int .i64 (Pn.parseV x),.int .i64 (Pn.parseV y-Pn.parseV x+1),.bool b])):=by
 unfold LnsP lnsP
 rw[Zkq s k hk h1 h2]
 dsimp only
 rw[hx,hy]
 cases b with
 | true =>
  simp only[Bool.and_eq_true,decide_eq_true_eq] at hb
  rw[if_pos hb]
 | false =>
  rw[if_neg (by intro hq;simp[hq] at hb)]
  exact⟨_,_,rfl⟩
theorem LnsP.mk0 {s:List UInt8} (h2:∀ j (hj:j<s.length),isK s[j]=false) {b:Bool} (hb:(decide (Pn.parseE s=0) && decide (1≤Pn.parseV s))=b) :
  LnsP s (.returned (.tuple #[.int .i64 (Pn.parseV s),.int .i64 1,.bool b])):=by
 unfold LnsP lnsP
 rw[Zkr s h2]
 dsimp only
 cases b with
 | true =>
  simp only[Bool.and_eq_true,decide_eq_true_eq] at hb
  rw[if_pos hb]
 | false =>
  rw[if_neg (by intro hq;simp[hq] at hb)]
  exact⟨_,_,rfl⟩
theorem ZpE (s:List UInt8) (hs:s.length≤1099511627776) (w:World) :
  Calls Tryz.prog 151 #[.string ⟨s.toArray⟩] w fun x w'=>LnsP s x∧Below w.heap.size w w':=by
 go_enter Tryz.func151,Tryz.ntmps151
 go_wp2
 go_loopw [5] (fun i wr=>∃ k:Nat,k≤s.length∧i=.int .i64 (k:Int)∧Hid (∀ j (_:j<k) (hj:j<s.length),isK s[j]=false)∧wr=w) (fun i _=>s.length-(intOf i).toNat)
 case atStart=>exact⟨0,Nat.zero_le _,rfl,fun j hj=>by omega,rfl⟩
 case round =>
  obtain⟨k,hk,rfl,HK,rfl⟩:=hrel
  by_cases hlt:k<s.length
  ·have i1:0≤(k:Int):=by omega
   have i2:(k:Int)<(s.length:Int):=by omega
   by_cases hc:s[k]=44
   ·have hb:((s[k].toNat:Int) == 44)=true:=by rw[hc];rfl
    have HE:Hid (isK s[k]=true):=(by show _=_;unfold isK;rw[hc];rfl)
    obtain⟨x,hx⟩:∃ x,s.take k=x:=⟨_,rfl⟩
    obtain⟨y,hy⟩:∃ y,s.drop (k+1)=y:=⟨_,rfl⟩
    have hxl:x.length≤1099511627776:=(by rw[← hx,List.length_take];omega)
    have hy3:y.take (s.length-(k+1))=y:=List.take_of_length_le (by rw[← hy,List.length_drop];omega)
    have i3:(k:Int)+1≤(s.length:Int):=by omega
    have i4:((k:Int)+1).toNat=k+1:=by omega
    have hyl:y.length≤1099511627776:=(by rw[← hy,List.length_drop];omega)
    have hm:∀ b:Bool,_=b→LnsP s _:=fun b hb=>LnsP.mk1 hlt HE.out (fun j hj=>HK.out j hj (by omega)) hx hy (b:=b) hb
    obtain⟨v1,hv1⟩:∃ v,Pn.parseV x=v:=⟨_,rfl⟩
    obtain⟨e1,he1⟩:∃ e,Pn.parseE x=e:=⟨_,rfl⟩
    obtain⟨v2,hv2⟩:∃ v,Pn.parseV y=v:=⟨_,rfl⟩
    obtain⟨e2,he2⟩:∃ e,Pn.parseE y=e:=⟨_,rfl⟩
    have b1:=@ZiG x
    have b2:=@ZiG y
    rw[hv1] at b1
    rw[hv2] at b2
    rw[hv1,he1,hv2,he2] at hm
    have hrx:=ZpW x
    have hry:=ZpW y
    rw[hv1,he1] at hrx
    rw[hv2,he2] at hry
    have HM:Hid (∀ b:Bool,(decide (e1=0) && (decide (e2=0) && (decide (1≤v1) && decide (v1<v2))))=b→LnsP s (.returned (.tuple #[.int .i64 v1,.int .i64 (v2-v1+1),.bool b]))):=hm
    clear hm HK HE hc hv1 he1 hv2 he2
    go_wp2_with fail
    refine (hrx _ (by unfold maxLen;omega)).mono ?_
    rintro e' w1 ⟨rfl,hb1⟩
    go_wp2_with fail
    refine (hry _ (by unfold maxLen;omega)).mono ?_
    rintro e' w2 ⟨rfl,hb2⟩
    have hB:=hb1.trans (hb2.mono hb1.size)
    by_cases h1:e1=0
    ·have g1:(e1 == 0)=true:=by rw[h1];rfl
     by_cases h2:e2=0
     ·have g2:(e2 == 0)=true:=by rw[h2];rfl
      by_cases h3:1≤v1
      ·by_cases h4:v1<v2
       ·go_wp2
        go_ret3
        exact⟨HM.out _ (by simp[h1,h2,h3,h4]),hB⟩
       ·go_wp2
        go_ret3
        exact⟨HM.out _ (by simp[h1,h2,h3]),hB⟩
      ·have g3:decide (1≤v1)=false:=decide_eq_false h3
       have G3:Hid (decide (1≤v1)=false):=g3
       go_wp2
       go_ret3
       exact⟨HM.out _ (by rw[G3.out];simp),hB⟩
     ·have g2:(e2 == 0)=false:=beq_eq_false_iff_ne.2 h2
      go_wp2
      go_ret3
      exact⟨HM.out _ (by simp[h1,h2]),hB⟩
    ·have g1:(e1 == 0)=false:=beq_eq_false_iff_ne.2 h1
     go_wp2
     go_ret3
     exact⟨HM.out _ (by simp[h1]),hB⟩
   ·have hb:((s[k].toNat:Int) == 44)=false:=beq_eq_false_iff_ne.2 (fun h=>hc (UInt8.toNat_inj.1 (by show _=44;omega)))
    have HE:Hid (isK s[k]=false):=(by show _=_;unfold isK;simpa using hc)
    go_wp2
    go_roundw
    case rel=>exact⟨k+1,by omega,by go_num,fun j hj hj2=>(by
      rcases Nat.lt_or_ge j k with h | h
      ·exact HK.out j h hj2
      ·have:j=k:=by omega
       subst this
       exact HE.out),trivial⟩
    case measure=>simp[intOf];omega
  ·have ek:k=s.length:=by omega
   subst ek
   obtain⟨v,hv⟩:∃ v,Pn.parseV s=v:=⟨_,rfl⟩
   obtain⟨e,he⟩:∃ e,Pn.parseE s=e:=⟨_,rfl⟩
   go_wp2_with fail
   refine (ZpW s _ (by unfold maxLen;omega)).mono ?_
   rintro e' w1 ⟨rfl,hb1⟩
   have hm:∀ b:Bool,_=b→LnsP s _:=fun b hb=>LnsP.mk0 (s:=s) (fun j hj=>HK.out j hj hj) (b:=b) hb
   rw[hv,he] at hm ⊢
   by_cases h1:e=0
   ·have g1:(e == 0)=true:=by rw[h1];rfl
    by_cases h2:1≤v
    ·go_wp2
     go_ret3
     exact⟨hm _ (by simp[h1,h2]),hb1⟩
    ·have G3:Hid (decide (1≤v)=false):=decide_eq_false h2
     go_wp2
     go_ret3
     exact⟨hm _ (by rw[G3.out];simp),hb1⟩
   ·have g1:(e == 0)=false:=beq_eq_false_iff_ne.2 h1
    go_wp2
    go_ret3
    exact⟨hm _ (by simp[h1]),hb1⟩
end

section
open Go.RowKit
attribute [local go_sem] ByteArray.extract_mk Zhc
abbrev ptO5 (a p n:Int) (vk vl:Value):Obj:=.cells #[.int .i64 a,.int .i64 p,.int .i64 n,vk,vl] 176
def ptV5 (a p n:Int) (vk vl:Value):Value:=.agg #[.int .i64 a,.int .i64 p,.int .i64 n,vk,vl]
def Bp5 (u:World) (b:Nat) (a p n:Int) (vk vl:Value):Prop:=u.heap[b]?=some (ptO5 a p n vk vl)
section
variable {u u':World} {b:Nat} {a p n:Int} {vk vl:Value}
theorem Bp5.cells (q:Bp5 u b a p n vk vl):u.cell? ⟨b,0,none⟩=some (.int .i64 a)∧u.cell? ⟨b,1,none⟩=some (.int .i64 p)∧u.cell? ⟨b,2,none⟩=some (.int .i64 n)∧u.cell? ⟨b,3,none⟩=some vk∧u.cell? ⟨b,4,none⟩=some vl:=by
 unfold Bp5 ptO5 at q
 refine⟨?_,?_,?_,?_,?_⟩<;>rw[Lib.cell_of_heap q]<;>rfl
theorem Bp5.frozen (q:Bp5 u b a p n vk vl) (j:Nat):u.frozen? ⟨b,j,none⟩=false:=Lib.frozen_of_heap q j
theorem Bp5.lt (q:Bp5 u b a p n vk vl):b<u.heap.size:=(Array.getElem?_eq_some_iff.1 q).1
theorem Bp5.off (q:Bp5 u b a p n vk vl) {g:Option Nat} (hg:u.grownBy u' g) (hr:some b≠g):Bp5 u' b a p n vk vl:=(hg.block b q.lt hr).trans q
theorem Bp5.low (q:Bp5 u b a p n vk vl) (hb:Below u.heap.size u u'):Bp5 u' b a p n vk vl:=(hb.block b q.lt).trans q
end
def rgZ (e:UInt8) (L:List (List UInt8)):Except (Nat × Int) Nat→Except (Nat × Int) ((Int × Int) × Nat)
 | .error x=>.error x
 | .ok p=>match rngP e p (L.drop p) with
  | .error x=>.error x
  | .ok (q,_)=>.ok (q,p+1)
theorem ZqH {e:UInt8} {L:List (List UInt8)} {st:Except (Nat × Int) Nat}:rgZ e L st=match nxZ L st with
  | .error x=>.error x
  | .ok (s,p1)=>match innR e s with
   | none=>.error (p1,3)
   | some t=>match rngI t with
    | none=>.error (p1,3)
    | some q=>.ok (q,p1):=by
 cases st with
 | error x=>rfl
 | ok p =>
  unfold rgZ nxZ rngP
  dsimp only
  cases nxt p (L.drop p) with
  | error x=>rfl
  | ok z =>
   obtain⟨s,r⟩:=z
   dsimp only
   cases innR e s with
   | none=>rfl
   | some t =>
    dsimp only
    cases rngI t<;>rfl
def RgR (R:Nat) (vL:Value) (Z:Except (Nat × Int) ((Int × Int) × Nat)) (a p n:Int) (w':World):Prop :=
 match Z with
 | .error x=>RdZ w' R vL (.error x)
 | .ok (q,p1)=>a=(p1:Int)∧p=q.1∧n=q.2∧RdZ w' R vL (.ok p1)
theorem RdZ.at {u:World} {R:Nat} {vL:Value} {st:Except (Nat × Int) Nat} (h:RdZ u R vL st):∃ p':Nat,u.cell? ⟨R,1,none⟩=some (.int .i64 (p':Int))∧∀ p,st=.ok p→p'=p:=by
 match st,h with
 | .ok p,h=>exact⟨p,(Rx.cells h).2.1,fun _ q=>by cases q;rfl⟩
 | .error (_,_),⟨⟨p',h⟩,_⟩=>exact⟨p',(Rx.cells h).2.1,fun _ q=>by cases q⟩
end

section
open Go.RowKit
def kcells (x:Sde):List Value:=x.map fun y=>.int .u8 (y.1.toNat:Int)
def HK (w:World) (v:Value) (x:Sde):Prop:=Holds w v x.length (kcells x)
theorem Zfg (x:Sde):(kcells x).length=x.length:=by simp[kcells]
theorem HK.at {w:World} {ao:Option Addr} {n c:Nat} {x:Sde} (h:HK w (.slice ao n c) x) (h0:0<x.length):∃ b off,ao=some ⟨b,off,none⟩∧b<w.heap.size∧∀ k (hk:k<x.length),w.cell? ⟨b,off+k,none⟩=some (.int .u8 (x[k].1.toNat:Int)):=by
 obtain⟨b,off,c',hv,hb,hc⟩:=Holds.at h (by rw[Zfg];exact h0)
 cases hv
 refine⟨b,off,rfl,hb,fun k hk=>?_⟩
 have:=hc k (by rw[Zfg];exact hk)
 simpa [kcells] using this
theorem HK.keep {w w':World} {v:Value} {x:Sde} (h:HK w v x) (hb:Below w.heap.size w w'):HK w' v x:=Holds.keep h fun k hk=>hb.block k hk
structure Hsd (w:World) (vk vl:Value) (x:Sde):Prop where
 k:HK w vk x
 l:HS w vl (x.map (·.2))
theorem Hsd.keep {w w':World} {vk vl:Value} {x:Sde} (h:Hsd w vk vl x) (hb:Below w.heap.size w w'):Hsd w' vk vl x:=⟨h.k.keep hb,HS.keep h.l hb (Nat.le_refl _)⟩
theorem Hsd.form {w:World} {vk vl:Value} {x:Sde} (h:Hsd w vk vl x):∃ ko kc lo lc,vk=.slice ko x.length kc∧vl=.slice lo x.length lc:=by
 obtain⟨ko,kc,h1⟩:=Holds.form h.k
 obtain⟨lo,lc,h2⟩:=Holds.form h.l
 rw[List.length_map] at h2
 exact⟨ko,kc,lo,lc,h1,h2⟩
theorem Zpk (a p n:Int) (x:Sde) (vk vl:Value) (w:World) (h:Hsd w vk vl x) (hx:x.length≤1099511627776) (r:Bool) (HR:Hid (sameS x=r)) :
  Calls Tryz.prog 107 #[ptV5 a p n vk vl] w fun e w'=>e=.returned (.bool r)∧Below w.heap.size w w':=by
 obtain⟨ko,kc,lo,lc,rfl,rfl⟩:=h.form
 have hB:Below w.heap.size w (w.alloc (ptO5 a p n (.slice ko x.length kc) (.slice lo x.length lc))):=(Below.refl _ w).alloc (Nat.le_refl _) _
 have hk:=h.k.keep hB
 have bx:Bp5 (w.alloc (ptO5 a p n (.slice ko x.length kc) (.slice lo x.length lc))) w.heap.size a p n (.slice ko x.length kc) (.slice lo x.length lc):=heap_alloc_new w _
 obtain⟨_,_,_,d3,_⟩:=bx.cells
 have HR0:Hid (sameS (x.drop 0)=r):=HR
 unfold ptV5
 clear h HR
 go_enter Tryz.func107,Tryz.ntmps107
 go_upto_region 1 with fail
 generalize w.alloc (ptO5 a p n (.slice ko x.length kc) (.slice lo x.length lc))=W at *
 clear bx
 go_wp2
 go_loopw [3] (fun i wr=>∃ k:Nat,k≤x.length∧i=.int .i64 k∧wr=W∧Hid (sameS (x.drop k)=r)) (fun i _=>x.length-(intOf i).toNat)
 case atStart=>exact⟨0,Nat.zero_le _,by go_num,rfl,HR0⟩
 case round =>
 obtain⟨k,hkl,rfl,rfl,HI⟩:=hrel
 by_cases hlt:k<x.length
 ·obtain⟨b,off,rfl,hb,hc⟩:=hk.at (by omega)
  have ck:=hc k hlt
  have i1:(0:Int)≤(k:Int):=by omega
  have i2:(k:Int)<(x.length:Int):=by omega
  have i3:(k:Int).toNat=k:=by omega
  have HI2:=HI.out
  rw[List.drop_eq_getElem_cons hlt] at HI2
  unfold sameS at HI2
  rw[List.all_cons] at HI2
  obtain⟨c,hcc⟩:∃ c,x[k].1=c:=⟨_,rfl⟩
  rw[hcc] at ck HI2
  clear hc HI hcc
  by_cases h3:c=32
  ·have j1:((c.toNat:Int) != 32)=false:=(by rw[h3];rfl)
   have HI3:Hid (sameS (x.drop (k+1))=r):=(by
    rw[h3] at HI2
    show ((x.drop (k+1)).all fun y=>y.1 == 32)=r
    simpa using HI2)
   clear HI2 h3
   go_wp2
   exact⟨⟨k+1,by omega,by go_num,by first | rfl | trivial,HI3⟩,by simp[intOf];omega⟩
  ·have j1:((c.toNat:Int) != 32)=true:=(by
    refine bne_iff_ne.2 fun q=>h3 ?_
    exact UInt8.toNat_inj.1 (by rw[show (32:UInt8).toNat=32 from rfl];omega))
   have hr:r=false:=(by rw[beq_eq_false_iff_ne.2 h3] at HI2;exact HI2.symm)
   subst hr
   clear HI2 h3
   go_wp2
   go_ret
   exact⟨rfl,hB⟩
 ·have hend:decide ((k:Int)<(x.length:Int))=false:=decide_eq_false (by omega)
  have hr:r=true:=(by
   have h:=HI.out
   rw[List.drop_of_length_le (by omega)] at h
   exact h.symm)
  subst hr
  go_wp2
  go_ret
  exact⟨rfl,hB⟩
theorem ZoT (a p n:Int) (x:Sde) (vk vl:Value) (w:World) (h:Hsd w vk vl x) (hx:x.length≤1099511627776) (r:Bool) (HR:Hid (cntS n x=r)) :
  Calls Tryz.prog 110 #[ptV5 a p n vk vl] w fun e w'=>e=.returned (.int .i64 (if r=true then 120 else 0))∧Below w.heap.size w w':=by
 obtain⟨ko,kc,lo,lc,rfl,rfl⟩:=h.form
 have hB:Below w.heap.size w (w.alloc (ptO5 a p n (.slice ko x.length kc) (.slice lo x.length lc))):=(Below.refl _ w).alloc (Nat.le_refl _) _
 have bx:Bp5 (w.alloc (ptO5 a p n (.slice ko x.length kc) (.slice lo x.length lc))) w.heap.size a p n (.slice ko x.length kc) (.slice lo x.length lc):=heap_alloc_new w _
 obtain⟨_,_,d2,_,d4⟩:=bx.cells
 have hr:=HR.out
 unfold cntS at hr
 unfold ptV5
 clear h HR
 by_cases h1:n<0
 ·have i2:¬ (0:Int)≤n:=by omega
  by_cases h2:1<x.length
  ·have i1:(1:Int)<(x.length:Int):=by omega
   have hr2:r=true:=(by rw[← hr];simp[h1,h2])
   subst hr2
   clear hr
   go_enter Tryz.func110,Tryz.ntmps110
   go_upto_region 1 with fail
   generalize w.alloc (ptO5 a p n (.slice ko x.length kc) (.slice lo x.length lc))=W at *
   go_wp2
   go_ret
   exact⟨rfl,hB⟩
  ·have i1:¬ (1:Int)<(x.length:Int):=by omega
   have hr2:r=false:=(by rw[← hr];simp[h1,h2,i2])
   subst hr2
   clear hr
   go_enter Tryz.func110,Tryz.ntmps110
   go_upto_region 1 with fail
   generalize w.alloc (ptO5 a p n (.slice ko x.length kc) (.slice lo x.length lc))=W at *
   go_wp2
   go_ret
   exact⟨rfl,hB⟩
 ·have i2:(0:Int)≤n:=by omega
  by_cases h2:n=(x.length:Int)
  ·have i1:(n != (x.length:Int))=false:=(by rw[h2];exact bne_self_eq_false _)
   have hr2:r=false:=(by rw[← hr,h2];simp;omega)
   subst hr2
   clear hr h2
   go_enter Tryz.func110,Tryz.ntmps110
   go_upto_region 1 with fail
   generalize w.alloc (ptO5 a p n (.slice ko x.length kc) (.slice lo x.length lc))=W at *
   go_wp2
   go_ret
   exact⟨rfl,hB⟩
  ·have i1:(n != (x.length:Int))=true:=bne_iff_ne.2 h2
   have hr2:r=true:=(by rw[← hr];simp[i2,h2])
   subst hr2
   clear hr h2
   go_enter Tryz.func110,Tryz.ntmps110
   go_upto_region 1 with fail
   generalize w.alloc (ptO5 a p n (.slice ko x.length kc) (.slice lo x.length lc))=W at *
   go_wp2
   go_ret
   exact⟨rfl,hB⟩
theorem Zpg (a p n:Int) (x:Sde) (at':Nat) (hat:at'≤x.length) (kd:UInt8) (vk vl:Value) (w:World) (h:Hsd w vk vl x) (hx:x.length≤1099511627776) (N:Nat) (r:Bool) (HN:Hid ((chgS (x.drop at')).length=N)) (HR:Hid (allS kd (chgS (x.drop at'))=r)) :
  Calls Tryz.prog 152 #[ptV5 a p n vk vl,.int .i64 (at':Int),.int .u8 (kd.toNat:Int)] w fun e w'=>e=.returned (.tuple #[.int .i64 (N:Int),.bool r])∧Below w.heap.size w w':=by
 obtain⟨ko,kc,lo,lc,rfl,rfl⟩:=h.form
 have hB:Below w.heap.size w (w.alloc (ptO5 a p n (.slice ko x.length kc) (.slice lo x.length lc))):=(Below.refl _ w).alloc (Nat.le_refl _) _
 have hk:=h.k.keep hB
 have bx:Bp5 (w.alloc (ptO5 a p n (.slice ko x.length kc) (.slice lo x.length lc))) w.heap.size a p n (.slice ko x.length kc) (.slice lo x.length lc):=heap_alloc_new w _
 obtain⟨_,_,_,d3,d4⟩:=bx.cells
 have HNl:Hid (N≤x.length-at'):=(by
  have h1:=ZnU (x.drop at')
  rw[List.length_drop,HN.out] at h1
  exact h1)
 have HA0:Hid (allS kd ((chgS (x.drop at')).take 0)=true):=rfl
 unfold ptV5
 clear h
 go_enter Tryz.func152,Tryz.ntmps152
 go_upto_region 1 with fail
 generalize w.alloc (ptO5 a p n (.slice ko x.length kc) (.slice lo x.length lc))=W at *
 clear bx
 go_wp2
 go_loopw [8,9] (fun nv av wr=>∃ (k:Nat) (s:Bool),k≤N∧nv=.int .i64 k∧av=.bool s∧wr=W∧Hid (allS kd ((chgS (x.drop at')).take k)=s)) (fun nv _ _=>N-(intOf nv).toNat)
 case atStart=>exact⟨0,true,Nat.zero_le _,by go_num,rfl,rfl,HA0⟩
 case round =>
 obtain⟨k,s,hkl,rfl,rfl,rfl,HI⟩:=hrel
 have hNl:=HNl.out
 have hmore:=ZnV x at' k (by rw[HN.out];exact hkl) hat
 rw[HN.out] at hmore
 by_cases hlt:k<N
 ·obtain⟨hl2,h32⟩:=hmore.1 hlt
  obtain⟨b,off,rfl,hb,hc⟩:=hk.at (by omega)
  have ck:=hc (at'+k) hl2
  have i1:(0:Int)≤(at':Int)+(k:Int):=by omega
  have i2:(at':Int)+(k:Int)<(x.length:Int):=by omega
  have i3:((at':Int)+(k:Int)).toNat=at'+k:=by omega
  obtain⟨hl3,hgt⟩:=ZnT x at' k (by rw[HN.out];exact hlt)
  have HI2:allS kd ((chgS (x.drop at')).take (k+1))=(s && (x[at'+k].1 == kd)):=(by
   rw[List.take_succ_eq_append_getElem (by rw[HN.out];exact hlt),hgt]
   unfold allS at HI ⊢
   rw[List.all_append,HI.out]
   simp)
  obtain⟨c,hcc⟩:∃ c,x[at'+k].1=c:=⟨_,rfl⟩
  rw[hcc] at ck HI2 h32
  have j1:((c.toNat:Int) != 32)=true:=(by
   refine bne_iff_ne.2 fun q=>h32 ?_
   exact UInt8.toNat_inj.1 (by rw[show (32:UInt8).toNat=32 from rfl];omega))
  have j2:((c.toNat:Int) == (kd.toNat:Int))=(c == kd):=(by rw[Bool.eq_iff_iff,beq_iff_eq,beq_iff_eq,Int.natCast_inj,UInt8.toNat_inj])
  have HI3:Hid (allS kd ((chgS (x.drop at')).take (k+1))=(s && (c == kd))):=HI2
  clear hc HI hcc HI2 h32 hmore hgt
  cases s with
  | true =>
   go_wp2
   exact⟨⟨k+1,c == kd,by omega,by go_num,by first | rfl | simp,by first | rfl | trivial,by show _=_;simpa using HI3.out⟩,by simp[intOf];omega⟩
  | false =>
   go_wp2
   exact⟨⟨k+1,false,by omega,by go_num,by first | rfl | simp,by first | rfl | trivial,by show _=_;simpa using HI3.out⟩,by simp[intOf];omega⟩
 ·have hkN:k=N:=by omega
  subst hkN
  have hr:s=r:=(by
   have h1:=HI.out
   rw[List.take_of_length_le (by rw[HN.out];omega)] at h1
   rw[← h1]
   exact HR.out)
  subst hr
  by_cases hl2:at'+k<x.length
  ·obtain⟨b,off,rfl,hb,hc⟩:=hk.at (by omega)
   have ck:=hc (at'+k) hl2
   have h32:x[at'+k].1=32:=Classical.byContradiction fun q=>hlt (hmore.2 ⟨hl2,q⟩)
   rw[h32] at ck
   have i1:(0:Int)≤(at':Int)+(k:Int):=by omega
   have i2:(at':Int)+(k:Int)<(x.length:Int):=by omega
   have i3:((at':Int)+(k:Int)).toNat=at'+k:=by omega
   have ck2:wr.cell? ⟨b,off+(at'+k),none⟩=some (.int .u8 32):=ck
   clear hc ck hmore h32
   go_wp2
   go_ret2
   exact⟨rfl,hB⟩
  ·have i2:¬ (at':Int)+(k:Int)<(x.length:Int):=by omega
   clear hmore
   go_wp2
   go_ret2
   exact⟨rfl,hB⟩
end

section
open Go.RowKit
def bcs (ks:List UInt8):List Value:=ks.map fun c=>.int .u8 (c.toNat:Int)
theorem ZmA (ks:List UInt8) (c:UInt8):bcs (ks++[c])=bcs ks++[.int .u8 (c.toNat:Int)]:=by simp[bcs]
theorem Zmz (x:Sde):bcs (x.map (·.1))=kcells x:=by simp[bcs,kcells]
theorem infoU8C:(Tryz.prog.info? 5).map (fun i=>(i.zero,i.size,i.bytes))=some (some (.int .u8 0),1,1):=by kernel_rfl
structure Lx (w:World) (R X:Nat) (a p n:Int) (vk vl:Value) (ks:List UInt8) (ts:List (List UInt8)) (u:World):Prop where
 os:u.os=w.os
 tape:u.tape=w.tape
 output:u.output=w.output
 size:w.heap.size≤u.heap.size
 block:∀ k,k<w.heap.size→k≠R→k≠X→u.heap[k]?=w.heap[k]?
 box:Bp5 u X a p n vk vl
 ok:u.ownsRow w.heap.size 5 1 vk ks.length (bcs ks)
 ol:u.ownsRow w.heap.size 9 1 vl ts.length (scells ts)
section
variable {w u u':World} {R X:Nat} {a p n:Int} {vk vl:Value} {ks:List UInt8} {ts:List (List UInt8)}
theorem Lx.start (h:Bp5 w X a p n (.slice none 0 0) (.slice none 0 0)):Lx w R X a p n (.slice none 0 0) (.slice none 0 0) [] [] w:=⟨rfl,rfl,rfl,Nat.le_refl _,fun _ _ _ _=>rfl,h,World.ownsRow_nil _ _ _ _,World.ownsRow_nil _ _ _ _⟩
theorem Lx.low (h:Lx w R X a p n vk vl ks ts u) (hb:Below u.heap.size u u'):Lx w R X a p n vk vl ks ts u' :=
 ⟨hb.os.trans h.os,hb.tape.trans h.tape,hb.output.trans h.output,Nat.le_trans h.size hb.size,fun k h1 h2 h3=>(hb.block k (Nat.lt_of_lt_of_le h1 h.size)).trans (h.block k h1 h2 h3),h.box.low hb,ZhK h.ok hb,ZhK h.ol hb⟩
theorem Lx.call (h:Lx w R X a p n vk vl ks ts u) (hg:u.grownBy u' (some R)) (hR:R<w.heap.size) (hX:X≠R):Lx w R X a p n vk vl ks ts u' :=
 ⟨hg.os.trans h.os,hg.tape.trans h.tape,hg.output.trans h.output,Nat.le_trans h.size hg.size,fun k h1 h2 h3=>(hg.block k (Nat.lt_of_lt_of_le h1 h.size) (fun e=>h2 (Option.some.inj e))).trans (h.block k h1 h2 h3),h.box.off hg (fun e=>hX (Option.some.inj e)),ZhI h.ok hg hR,ZhI h.ol hg hR⟩
theorem Lx.moreK (h:Lx w R X a p n vk vl ks ts u) {c:UInt8} {v':Value} (hg:u.grownBy u' vk.ownBlock) (ho:u'.ownsRow w.heap.size 5 1 v' (ks.length+1) (bcs ks++[.int .u8 (c.toNat:Int)])) :
  Lx w R X a p n v' vl (ks++[c]) ts (u'.setCell ⟨X,3,none⟩ v')∧Bp5 u' X a p n vk vl∧(∀ {vL:Value} {st:Except (Nat × Int) Nat},R<w.heap.size→X≠R→RdZ u R vL st→RdZ (u'.setCell ⟨X,3,none⟩ v') R vL st):=by
 have hb:Bp5 u' X a p n vk vl:=h.box.off hg (fun e=>ZhE h.ok h.box (by decide) e.symm)
 have hg2:=ZdS u' X 3 v'
 have hl:=ZjA h.ol h.ok (by decide) hg
 refine⟨⟨(hg2.os.trans hg.os).trans h.os,(hg2.tape.trans hg.tape).trans h.tape,(hg2.output.trans hg.output).trans h.output,Nat.le_trans h.size (Nat.le_trans hg.size hg2.size),fun k h1 h2 h3=>?_,heap_setCell_same u' X 3 _ _ v' hb,?_,hl.kept hg2 (.inr (ZhE hl hb (by decide)))⟩,hb,fun hR hX q=>(q.off hg (fun e=>?_)).off hg2 (fun e=>hX (Option.some.inj e).symm)⟩
 ·rw[hg2.block k (Nat.lt_of_lt_of_le h1 (Nat.le_trans h.size hg.size)) (fun e=>h3 (Option.some.inj e)),hg.block k (Nat.lt_of_lt_of_le h1 h.size) (fun e=>by have:=ZhJ h.ok e.symm;omega)]
  exact h.block k h1 h2 h3
 ·rw[List.length_append,ZmA]
  exact ho.kept hg2 (.inr (ZhE ho hb (by decide)))
 ·have:=ZhJ h.ok e.symm
  omega
theorem Lx.moreL (h:Lx w R X a p n vk vl ks ts u) {t:List UInt8} {v':Value} (hg:u.grownBy u' vl.ownBlock) (ho:u'.ownsRow w.heap.size 9 1 v' (ts.length+1) (scells ts++[.string ⟨t.toArray⟩])) :
  Lx w R X a p n vk v' ks (ts++[t]) (u'.setCell ⟨X,4,none⟩ v')∧Bp5 u' X a p n vk vl∧(∀ {vL:Value} {st:Except (Nat × Int) Nat},R<w.heap.size→X≠R→RdZ u R vL st→RdZ (u'.setCell ⟨X,4,none⟩ v') R vL st):=by
 have hb:Bp5 u' X a p n vk vl:=h.box.off hg (fun e=>ZhE h.ol h.box (by decide) e.symm)
 have hg2:=ZdS u' X 4 v'
 have hl:=ZjA h.ok h.ol (by decide) hg
 refine⟨⟨(hg2.os.trans hg.os).trans h.os,(hg2.tape.trans hg.tape).trans h.tape,(hg2.output.trans hg.output).trans h.output,Nat.le_trans h.size (Nat.le_trans hg.size hg2.size),fun k h1 h2 h3=>?_,heap_setCell_same u' X 4 _ _ v' hb,hl.kept hg2 (.inr (ZhE hl hb (by decide))),?_⟩,hb,fun hR hX q=>(q.off hg (fun e=>?_)).off hg2 (fun e=>hX (Option.some.inj e).symm)⟩
 ·rw[hg2.block k (Nat.lt_of_lt_of_le h1 (Nat.le_trans h.size hg.size)) (fun e=>h3 (Option.some.inj e)),hg.block k (Nat.lt_of_lt_of_le h1 h.size) (fun e=>by have:=ZhJ h.ol e.symm;omega)]
  exact h.block k h1 h2 h3
 ·rw[List.length_append,ZjS]
  exact ho.kept hg2 (.inr (ZhE ho hb (by decide)))
 ·have:=ZhJ h.ol e.symm
  omega
end
def sdZ (sg:UInt8) (L:List (List UInt8)):Except (Nat × Int) Nat→Except (Nat × Int) (Sde × Nat)
 | .error e=>.error e
 | .ok p=>match rdS sg p (L.drop p) with
  | .error e=>.error e
  | .ok (x,p1,_)=>.ok (x,p1)
def thenS (x:Sde) (Y:Except (Nat × Int) (Sde × Nat)):Except (Nat × Int) (Sde × Nat) :=
 match Y with
 | .error e=>.error e
 | .ok (l,p)=>.ok (x++l,p)
theorem ZrG (Y:Except (Nat × Int) (Sde × Nat)):thenS [] Y=Y:=by
 rcases Y with e | ⟨l,p⟩<;>rfl
theorem Zri {sg:UInt8} {p:Nat} {L:List (List UInt8)} (h:∀ h:p<L.length,isSd sg L[p]=false) (x:Sde):thenS x (sdZ sg L (.ok p))=.ok (x,p):=by
 unfold sdZ
 dsimp only
 by_cases hp:p<L.length
 ·rw[List.drop_eq_getElem_cons hp]
  simp only[rdS]
  rw[if_neg (by rw[h hp];decide)]
  simp[thenS]
 ·rw[List.drop_eq_nil_of_le (by omega)]
  simp[rdS,thenS]
theorem Zrh {sg:UInt8} {p:Nat} {L:List (List UInt8)} (hp:p<L.length) (h:isSd sg L[p]=true) (x:Sde):thenS x (sdZ sg L (.ok p))=if fdB L[p]=true then (if pkM (L.drop (p+1))=true∧3<L[p].length then .ok (x++[(L[p].headD 0,(L[p].drop 2).dropLast)],p+2) else thenS (x++[(L[p].headD 0,L[p].drop 2)]) (sdZ sg L (.ok (p+1)))) else .error (p+1,3):=by
 unfold sdZ
 dsimp only
 rw[List.drop_eq_getElem_cons hp]
 simp only[rdS]
 rw[if_pos h]
 by_cases hf:fdB L[p]=true
 ·rw[if_pos hf,if_pos hf]
  by_cases hm:pkM (L.drop (p+1))=true∧3<L[p].length
  ·rw[if_pos hm,if_pos hm]
   rfl
  ·rw[if_neg hm,if_neg hm]
   cases rdS sg (p+1) (L.drop (p+1)) with
   | error e=>rfl
   | ok z =>
    obtain⟨l,p2,r⟩:=z
    simp[thenS]
 ·rw[if_neg hf,if_neg hf]
  rfl
theorem ZoU (sg:UInt8) (s:List UInt8):isSd sg s=([32,32].isPrefixOf s || [sg,32].isPrefixOf s || [33,32].isPrefixOf s):=by
 match s with
 | []=>rfl
 | [a]=>simp[isSd,List.isPrefixOf]
 | a::b::t =>
  simp only[isSd,List.isPrefixOf,Bool.and_true]
  have e1:((32:UInt8) == a)=(a == 32):=by rw[Bool.eq_iff_iff,beq_iff_eq,beq_iff_eq];exact eq_comm
  have e2:(sg == a)=(a == sg):=by rw[Bool.eq_iff_iff,beq_iff_eq,beq_iff_eq];exact eq_comm
  have e3:((33:UInt8) == a)=(a == 33):=by rw[Bool.eq_iff_iff,beq_iff_eq,beq_iff_eq];exact eq_comm
  have e4:((32:UInt8) == b)=(b == 32):=by rw[Bool.eq_iff_iff,beq_iff_eq,beq_iff_eq];exact eq_comm
  rw[e1,e2,e3,e4]
  cases (a == 32)<;>cases (a == sg)<;>cases (a == 33)<;>cases (b == 32)<;>rfl
def rzN (u:World) (R:Nat):Nat:=match u.cell? ⟨R,1,none⟩ with
 | some v=>(intOf v).toNat
 | none=>0
theorem Zrg {u:World} {R:Nat} {vL:Value} {p:Nat} (h:RdZ u R vL (.ok p)):rzN u R=p:=by
 unfold rzN
 rw[(Rx.cells h).2.1]
 simp[intOf]
def LnQ5 (R:Nat) (vL:Value) (Z:Except (Nat × Int) (Sde × Nat)) (x:Sde) (w':World):Prop :=
 match Z with
 | .error e=>RdZ w' R vL (.error e)
 | .ok (x0,p1)=>x=x0∧RdZ w' R vL (.ok p1)
end

section
open Ln
theorem Zqx {sg:UInt8} (ls:List (List UInt8)):∀ {p p1:Nat} {r:List (List UInt8)} {x:Sde},rdS sg p ls=.ok (x,p1,r)→p≤p1∧r=ls.drop (p1-p):=by
 induction ls with
 | nil =>
  intro p p1 r x h
  simp only[rdS] at h
  cases h
  exact⟨Nat.le_refl _,by simp⟩
 | cons s ls ih =>
  intro p p1 r x h
  simp only[rdS] at h
  split at h
  ·split at h
   ·split at h
    ·cases h
     refine⟨by omega,?_⟩
     have e:p+2-p=2:=by omega
     rw[e]
     cases ls<;>rfl
    ·split at h
     ·cases h
     ·rename_i l p2 r2 hr
      obtain⟨h1,h2⟩:=ih hr
      cases h
      refine⟨by omega,?_⟩
      have e:p1-p=(p1-(p+1))+1:=by omega
      rw[h2,e,List.drop_succ_cons]
   ·cases h
  ·cases h
   exact⟨Nat.le_refl _,by simp⟩
theorem Zqv {sg:UInt8} {L r:List (List UInt8)} {p p1:Nat} {x:Sde} (h:rdS sg p (L.drop p)=.ok (x,p1,r)):r=L.drop p1∧p≤p1:=by
 obtain⟨h1,h2⟩:=Zqx _ h
 rw[List.drop_drop] at h2
 have e:p+(p1-p)=p1:=by omega
 rw[e] at h2
 exact⟨h2,h1⟩
theorem ZoF {L r:List (List UInt8)} {p:Nat} {s:List UInt8} (h:nxt p (L.drop p)=.ok (s,r)):r=L.drop (p+1)∧p<L.length:=by
 by_cases hp:p<L.length
 ·rw[Zhm hp] at h
  split at h
  ·cases h
   exact⟨rfl,hp⟩
  ·cases h
 ·rw[Zhn (by omega)] at h
  cases h
theorem Zrb {e:UInt8} {L r:List (List UInt8)} {p:Nat} {q:Int × Int} (h:rngP e p (L.drop p)=.ok (q,r)):r=L.drop (p+1)∧p<L.length:=by
 unfold rngP at h
 cases hn:nxt p (L.drop p) with
 | error x=>rw[hn] at h;cases h
 | ok z =>
  obtain⟨s,r0⟩:=z
  rw[hn] at h
  dsimp only at h
  cases hi:innR e s with
  | none=>rw[hi] at h;cases h
  | some t =>
   rw[hi] at h
   dsimp only at h
   cases hr:rngI t with
   | none=>rw[hr] at h;cases h
   | some q2 =>
    rw[hr] at h
    cases h
    exact ZoF hn
def stS (k:Nat) (s:List UInt8) (p1:Nat):Except (Nat × Int) Nat:=if isSt s=true then (if 4096≤k then .error (p1,9) else .ok p1) else .error (p1,3)
def hkZ (k:Nat) (L:List (List UInt8)) (p:Nat):Except (Nat × Int) (Hk × Nat):=match cxH k p (L.drop p) with
 | .error e=>.error e
 | .ok (h,p1,_)=>.ok (h,p1)
theorem ZnD (k:Nat) (L:List (List UInt8)) (p:Nat):hkZ k L p=match nxZ L (.ok p) with
  | .error e=>.error e
  | .ok (s,p1)=>match rgZ 42 L (stS k s p1) with
   | .error e=>.error e
   | .ok (q,p2)=>match sdZ 45 L (.ok p2) with
    | .error e=>.error e
    | .ok (o,p3)=>match rgZ 45 L (.ok p3) with
     | .error e=>.error e
     | .ok (q2,p4)=>match sdZ 43 L (.ok p4) with
      | .error e=>.error e
      | .ok (v,p5)=>match finH p1 p2 p4 q.1 q.2 q2.1 q2.2 o v with
       | .error e=>.error e
       | .ok h=>.ok (h,p5):=by
 unfold hkZ cxH nxZ
 dsimp only
 cases hn:nxt p (L.drop p) with
 | error e=>rfl
 | ok z =>
  obtain⟨s,r⟩:=z
  dsimp only
  obtain⟨rfl,_⟩:=ZoF hn
  unfold stS
  by_cases h1:isSt s=true
  ·rw[if_pos h1,if_pos h1]
   by_cases h2:4096≤k
   ·rw[if_pos h2,if_pos h2]
    rfl
   ·rw[if_neg h2,if_neg h2]
    unfold rgZ
    dsimp only
    cases h3:rngP 42 (p+1) (L.drop (p+1)) with
    | error e=>rfl
    | ok z =>
     obtain⟨⟨po,no⟩,r1⟩:=z
     dsimp only
     obtain⟨rfl,_⟩:=Zrb h3
     unfold sdZ
     dsimp only
     cases h4:rdS 45 (p+1+1) (L.drop (p+1+1)) with
     | error e=>rfl
     | ok z =>
      obtain⟨o,p2,r2⟩:=z
      dsimp only
      obtain⟨rfl,_⟩:=Zqv h4
      cases h5:rngP 45 p2 (L.drop p2) with
      | error e=>rfl
      | ok z =>
       obtain⟨⟨pw,nw⟩,r3⟩:=z
       dsimp only
       obtain⟨rfl,_⟩:=Zrb h5
       cases h6:rdS 43 (p2+1) (L.drop (p2+1)) with
       | error e=>rfl
       | ok z =>
        obtain⟨v,p4,r4⟩:=z
        dsimp only
        cases finH (p+1) (p+1+1) (p2+1) po no pw nw o v<;>rfl
  ·rw[if_neg h1,if_neg h1]
   rfl
def stP {α:Type}:Except (Nat × Int) (α × Nat)→Except (Nat × Int) Nat
 | .error e=>.error e
 | .ok (_,p)=>.ok p
end

section
open Go.RowKit Go.Proofs.YtcniomgjikienaaGreatDoor.Tx
attribute [local go_sem] ByteArray.extract_mk Zhc
def nmZ (ah:List UInt8) (L:List (List UInt8)):Except (Nat × Int) Nat→Except (Nat × Int) (List UInt8 × Nat)
 | .error e=>.error e
 | .ok p=>match namP ah p (L.drop p) with
  | .error e=>.error e
  | .ok (n,_)=>.ok (n,p+1)
theorem ZoA {ah:List UInt8} {L:List (List UInt8)} {st:Except (Nat × Int) Nat}:nmZ ah L st=match nxZ L st with
  | .error e=>.error e
  | .ok (s,p1)=>if ah.isPrefixOf s=true then (match namedP (s.drop 4) with
   | none=>.error (p1,253)
   | some n=>.ok (n,p1)) else .error (p1,3):=by
 cases st with
 | error e=>rfl
 | ok p =>
  unfold nmZ nxZ namP
  dsimp only
  cases nxt p (L.drop p) with
  | error e=>rfl
  | ok z =>
   obtain⟨s,r⟩:=z
   dsimp only
   by_cases h:ah.isPrefixOf s=true
   ·rw[if_pos h,if_pos h]
    cases namedP (s.drop 4)<;>rfl
   ·rw[if_neg h,if_neg h]
theorem Znx {R:Nat} {L:List (List UInt8)} {lo:Option Addr} {lc:Nat} {st:Except (Nat × Int) Nat} (ah:List UInt8) (hah:ah.length=4) (w:World) (q:RdZ w R (.slice lo L.length lc) st) (hL:HS w (.slice lo L.length lc) L) (hR:∀ a,lo=some a→a.block≠R) (hp:∀ p,st=.ok p→p≤4398046511104) (hs:∀ s∈L,s.length≤1099511627776) (hsx:∀ s p1,nxZ L st=.ok (s,p1)→s.length≤1099511627776)
  (Z:Except (Nat × Int) (List UInt8 × Nat)) (HZ:Hid (nmZ ah L st=Z)) :
  Calls Tryz.prog 66 #[.pointer (some ⟨R,0,none⟩),.string ⟨ah.toArray⟩] w fun x w'=>NxQ R (.slice lo L.length lc) Z x w'∧w.grownBy w' (some R):=by
 obtain⟨Y,hY⟩:∃ Y,nxZ L st=Y:=⟨_,rfl⟩
 have hn:=Znp w q hL hR hp hs Y hY
 have hZ:=HZ.out
 rw[ZoA,hY] at hZ
 rw[hY] at hsx
 clear HZ hY hL hR hs hp q
 cases Y with
 | error e =>
  obtain⟨a,z⟩:=e
  dsimp only at hZ
  subst hZ
  go_enter Tryz.func66,Tryz.ntmps66
  go_wp2_with fail
  refine hn.mono ?_
  rintro x w1 ⟨⟨rfl,q1⟩,g1⟩
  have c3:=q1.fe
  have hz:(z != 0)=true:=bne_iff_ne.2 q1.2
  unfold feS at c3
  dsimp only at c3
  go_wp2
  go_ret
  exact⟨⟨rfl,q1⟩,g1⟩
 | ok y =>
  obtain⟨s,p1⟩:=y
  have hsl:=hsx s p1 rfl
  dsimp only at hZ
  clear hsx
  by_cases h1:ah.isPrefixOf s=true
  ·rw[if_pos h1] at hZ
   rw[Zpc,hah,Bool.and_eq_true,decide_eq_true_eq,beq_iff_eq] at h1
   obtain⟨h2,h3⟩:=h1
   have i1:¬ (s.length:Int)<4:=by omega
   have i2:(4:Int)≤(s.length:Int):=by omega
   obtain⟨N,hN⟩:∃ N,namedP (s.drop 4)=N:=⟨_,rfl⟩
   have HN:Hid (namedP (s.drop 4)=N):=hN
   rw[hN] at hZ
   have hd:=fun w=>ZpL (s.drop 4) (by rw[List.length_drop];omega) w N HN
   have ed:List.take (s.length-4) (List.drop 4 s)=List.drop 4 s:=List.take_of_length_le (by rw[List.length_drop];omega)
   clear hN HN
   subst h3
   go_enter Tryz.func66,Tryz.ntmps66
   go_wp2_with fail
   refine hn.mono ?_
   rintro x w1 ⟨⟨rfl,q1⟩,g1⟩
   have c3:=q1.fe
   unfold feS at c3
   dsimp only at c3
   go_wp2_with fail
   refine (hd w1).mono ?_
   rintro e w2 ⟨rfl,hB2⟩
   have q2:=q1.low hB2
   have g2:=ZdT g1 (ZfO hB2 _)
   cases N with
   | none =>
    subst hZ
    unfold nmV nmE
    go_wp2_with fail
    refine (Zni 253 (by decide) w2 q2).mono ?_
    rintro e w3 ⟨rfl,q3,g3⟩
    go_wp2
    go_ret
    exact⟨⟨rfl,q3⟩,ZdT g2 g3⟩
   | some n =>
    subst hZ
    unfold nmV nmE
    go_wp2
    go_ret
    exact⟨⟨rfl,q2⟩,g2⟩
  ·rw[if_neg h1] at hZ
   subst hZ
   rw[Zpc,hah] at h1
   by_cases h2:s.length<4
   ·have i1:(s.length:Int)<4:=by omega
    clear h1
    go_enter Tryz.func66,Tryz.ntmps66
    go_wp2_with fail
    refine hn.mono ?_
    rintro x w1 ⟨⟨rfl,q1⟩,g1⟩
    have c3:=q1.fe
    unfold feS at c3
    dsimp only at c3
    go_wp2_with fail
    refine (Zni 3 (by decide) w1 q1).mono ?_
    rintro e w3 ⟨rfl,q3,g3⟩
    go_wp2
    go_ret
    exact⟨⟨rfl,q3⟩,ZdT g1 g3⟩
   ·have i1:¬ (s.length:Int)<4:=by omega
    have i2:(4:Int)≤(s.length:Int):=by omega
    have j1:(s.take 4 == ah)=false:=(by
     rw[decide_eq_true (by omega),Bool.true_and,beq_iff_eq] at h1
     exact beq_eq_false_iff_ne.2 h1)
    clear h1
    go_enter Tryz.func66,Tryz.ntmps66
    go_wp2_with fail
    refine hn.mono ?_
    rintro x w1 ⟨⟨rfl,q1⟩,g1⟩
    have c3:=q1.fe
    unfold feS at c3
    dsimp only at c3
    go_wp2_with fail
    refine (Zni 3 (by decide) w1 q1).mono ?_
    rintro e w3 ⟨rfl,q3,g3⟩
    go_wp2
    go_ret
    exact⟨⟨rfl,q3⟩,ZdT g1 g3⟩
end

end Go.Proofs.YtcniomgjikienaaGreatDoor
