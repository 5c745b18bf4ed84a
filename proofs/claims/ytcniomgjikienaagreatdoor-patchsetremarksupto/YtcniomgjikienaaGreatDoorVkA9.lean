/-
  Texts that belong together, joined: CpI, CpJ, CpK, PsD, PsM5, CqR, CwG, HuC2, CwH, CwI, CrA, CxR2, CrB, CrC, CrD, PsE.
-/
import Derived.Test.YtcniomgjikienaaGreatDoorVkA8

set_option maxHeartbeats 16000000
set_option maxRecDepth 100000
namespace Go.Proofs.YtcniomgjikienaaGreatDoor

section
open Go.RowKit
attribute [local go_sem] ByteArray.extract_mk Zhc
def zsO:Obj:=.cells #[.int .i64 0,.int .i64 0,.int .i64 0,.slice none 0 0] 308
def ckN (u:World) (R:Nat):Nat:=match u.cell? ⟨R,1,none⟩ with
 | some v=>(intOf v).toNat
 | none=>0
theorem ZbB {u:World} {R:Nat} {vL:Value} {p:Nat} (h:Ck u R vL (p:Int)):ckN u R=p:=by
 unfold ckN
 rw[h.cells.2]
 simp[intOf]
theorem ZdO {w u:World} {R:Nat} (O:Obj) (h:(w.alloc O).grownBy u (some R)):w.grownBy u (some R):=ZdT (World.grownBy_alloc w O _) h
theorem Zki {e sg:UInt8} {p:Nat} {ls:List (List UInt8)} {x:Nat × Int} (h:rngC e p ls=.error x):sidX e sg p ls=.error x:=by
 unfold sidX
 rw[h]
theorem Zkj {e sg:UInt8} {p:Nat} {ls r:List (List UInt8)} {q:Int × Int} (h:rngC e p ls=.ok (q,r)):sidX e sg p ls=match rdC sg (p+1) r with
  | .error x=>.error x
  | .ok (l,p1,r1)=>if (!l.isEmpty && endK l r1)=true then .ok (q,cutL l,p1+1,r1.tail) else .ok (q,l,p1,r1):=by
 unfold sidX
 rw[h]
 dsimp only
 unfold sdE
 cases rdC sg (p+1) r with
 | error x=>rfl
 | ok z =>
  obtain⟨l,p1,r1⟩:=z
  dsimp only
  by_cases hb:(!l.isEmpty && endK l r1)=true
  ·rw[if_pos hb,if_pos hb]
  ·rw[if_neg hb,if_neg hb]
def four (u:World) (Q:Nat) (x a b:Int) (v:Value):World:=(((u.setCell ⟨Q,0,none⟩ (.int .i64 x)).setCell ⟨Q,1,none⟩ (.int .i64 a)).setCell ⟨Q,2,none⟩ (.int .i64 b)).setCell ⟨Q,3,none⟩ v
theorem Zdy {w wa u:World} {R S:Nat} {vL v:Value} {x a b:Int} {m:List Mk} {p:Nat} (h:Sxc wa R S vL x a b v m p u) (hG:∀ u,wa.grownBy u (some R)→w.grownBy u (some R)) (hZ:wa.heap[w.heap.size]?=some zsO∧w.heap.size<wa.heap.size∧w.heap.size≠R) :
  (four u w.heap.size x a b v).heap[w.heap.size]?=some (.cells #[.int .i64 x,.int .i64 a,.int .i64 b,v] 308)∧(four u w.heap.size x a b v).ownsRow w.heap.size 47 2 v m.length (mkcells m)∧Ck (four u w.heap.size x a b v) R vL (p:Int)∧w.grownBy (four u w.heap.size x a b v) (some R):=by
 obtain⟨h1,h2,h3⟩:=hZ
 have hb:u.heap[w.heap.size]?=some zsO:=(h.gr.block _ h2 (fun e=>h3 (Option.some.inj e))).trans h1
 have hg:u.grownBy (four u w.heap.size x a b v) (some w.heap.size):=ZdT (ZdT (ZdT (ZdS u _ 0 _) (ZdS _ _ 1 _)) (ZdS _ _ 2 _)) (ZdS _ _ 3 _)
 refine⟨?_,ZhC (ZhI h.own hg h2) (by omega),h.ck.keep hg (fun e=>h3 (Option.some.inj e).symm),?_⟩
 ·have s0:=heap_setCell_same u w.heap.size 0 _ _ (.int .i64 x) hb
  have s1:=heap_setCell_same _ w.heap.size 1 _ _ (.int .i64 a) s0
  have s2:=heap_setCell_same _ w.heap.size 2 _ _ (.int .i64 b) s1
  exact heap_setCell_same _ w.heap.size 3 _ _ v s2
 ·exact ZdR (ZdR (ZdR (ZdR (hG _ h.gr) (Nat.le_refl _) 0 _) (Nat.le_refl _) 1 _) (Nat.le_refl _) 2 _) (Nat.le_refl _) 3 _
theorem Zdx {w wa u:World} {R S:Nat} {vL v:Value} {x a b:Int} {m:List Mk} {p:Nat} (h:Sxc wa R S vL x a b v m p u) (hZ:wa.heap[w.heap.size]?=some zsO∧w.heap.size<wa.heap.size∧w.heap.size≠R) (Q:Nat) (hQ:w.heap.size=Q) :
  u.cell? ⟨Q,0,none⟩=some (.int .i64 0)∧u.cell? ⟨Q,1,none⟩=some (.int .i64 0)∧u.cell? ⟨Q,2,none⟩=some (.int .i64 0)∧u.cell? ⟨Q,3,none⟩=some (.slice none 0 0)∧∀ j,u.frozen? ⟨Q,j,none⟩=false:=by
 obtain⟨h1,h2,h3⟩:=hZ
 have hb:u.heap[w.heap.size]?=some (.cells #[.int .i64 0,.int .i64 0,.int .i64 0,.slice none 0 0] 308):=(h.gr.block _ h2 (fun e=>h3 (Option.some.inj e))).trans h1
 rw[hQ] at hb
 refine⟨?_,?_,?_,?_,fun j=>Lib.frozen_of_heap hb j⟩<;>rw[Lib.cell_of_heap hb]<;>rfl
theorem Sxc.cut {w u:World} {R S:Nat} {vL v:Value} {x a b:Int} {m m':List Mk} {p:Nat} (h:Sxc w R S vL x a b v m p u) {g j:Nat} {z:Value} (hv:v.ownBlock=some g) (ho:(u.setCell ⟨g,j,none⟩ z).ownsRow w.heap.size 47 2 v m'.length (mkcells m')) (hn:m'≠[]):Sxc w R S vL x a b v m' p (u.setCell ⟨g,j,none⟩ z):=by
 have hg:=ZdS u g j z
 have hge:=ZhJ h.own hv
 have hSg:some S≠some g:=fun e=>ZhE h.own h.box (by decide) (hv.trans e.symm)
 refine⟨ZdR h.gr hge j z,(hg.block S (Array.getElem?_eq_some_iff.1 h.box).1 hSg).trans h.box,ho,h.ck.keep hg (fun e=>by cases e;have:=h.rl;omega),h.ge,h.rl,fun e=>absurd e hn⟩
theorem ZcR {m:List Mk} (h:m≠[]):∃ m1 y,m=m1++[y]:=⟨m.dropLast,m.getLast h,(List.dropLast_concat_getLast h).symm⟩
theorem Zcd {R:Nat} {L:List (List UInt8)} {lo:Option Addr} {lc:Nat} {p:Nat} (e sg:UInt8) (w:World) (q:Ck w R (.slice lo L.length lc) p) (HL:Hid (∀ u,w.grownBy u (some R)→HS u (.slice lo L.length lc) L)) (HPl:Hid (Plain L)) (hp:p≤L.length) (hLl:L.length≤1099511627776) (HSl:Hid (∀ s∈L,s.length≤1099511627776))
  (X:Except (Nat × Int) ((Int × Int) × List Mk × Nat × List (List UInt8))) (HX:Hid (sidX e sg p (L.drop p)=X)) :
  Calls Tryz.prog 257 #[.pointer (some ⟨R,0,none⟩),.string ⟨#[e,e,e,32]⟩,.string ⟨#[32,e,e,e,e]⟩,.int .u8 (sg.toNat:Int)] w fun x w'=>SdX R (.slice lo L.length lc) p X w x w':=by
 have q1:Ck (w.alloc zsO) R (.slice lo L.length lc) p:=q.low ((Below.refl _ w).alloc (Nat.le_refl _) _)
 have hL1:=HL.out _ (World.grownBy_alloc w zsO (some R))
 have HG:Hid (∀ u,(w.alloc zsO).grownBy u (some R)→w.grownBy u (some R)):=fun u hu=>ZdO zsO hu
 have hRl:=q.lt
 obtain⟨Y,hY⟩:∃ Y,barP [e,e,e,32] p (L.drop p)=Y:=⟨_,rfl⟩
 have hb:=Zbh [e,e,e,32] (w.alloc zsO) q1 hL1 hp (by omega) HSl.out Y hY
 have hW:w.alloc (.cells #[.int .i64 0,.int .i64 0,.int .i64 0,.slice none 0 0] 308)=w.alloc zsO:=rfl
 cases Y with
 | error z =>
  obtain⟨a,z⟩:=z
  have hXe:X=.error (a,z):=(by
   rw[← HX.out]
   apply Zki
   unfold rngC
   rw[hY])
  subst hXe
  clear HX hY
  go_enter Tryz.func257,Tryz.ntmps257
  go_wp2_with fail
  refine hb.mono ?_
  rintro x w1 ⟨⟨g,rfl,hg⟩,hgr⟩
  go_wp2
  exact⟨rfl,⟨_,rfl,hg⟩,HG.out _ hgr⟩
 | ok z =>
  obtain⟨s,r⟩:=z
  have hb2:Calls Tryz.prog 254 #[.pointer (some ⟨R,0,none⟩),.string ⟨#[e,e,e,32]⟩] (w.alloc zsO) fun x w'=>x=.returned (.string ⟨s.toArray⟩)∧∃ n,w'=(w.alloc zsO).drewN n:=hb
  have HBar:=hY
  unfold barP at hY
  cases hn:nxt p (L.drop p) with
  | error z2=>rw[hn] at hY;cases hY
  | ok z2 =>
  obtain⟨s0,r0⟩:=z2
  rw[hn] at hY
  dsimp only at hY
  split at hY
  ·obtain⟨hr,hpl,_,hLp⟩:=Zhr hn
   have hsl:=HSl.out L[p] (List.getElem_mem hpl)
   rw[hLp,List.length_append] at hsl
   have hs0:s.length≤s0.length:=(by injection hY with h;injection h with h1 h2;rw[← h1,List.length_drop];omega)
   have hrr:r=L.drop (p+1):=(by injection hY with h;injection h with h1 h2;rw[← h2,hr])
   have hsl2:s.length≤1099511627776:=(by omega)
   subst hrr
   have HXR:Hid (∀ z,rngC e p (L.drop p)=.error z→X=.error z):=fun z hz=>HX.out.symm.trans (Zki hz)
   have HXK:Hid (∀ q,rngC e p (L.drop p)=.ok (q,L.drop (p+1))→X=match rdC sg (p+1) (L.drop (p+1)) with
    | .error x=>.error x
    | .ok (l,p1,r1)=>if (!l.isEmpty && endK l r1)=true then .ok (q,cutL l,p1+1,r1.tail) else .ok (q,l,p1,r1)):=fun z hz=>HX.out.symm.trans (Zkj hz)
   have hRng:rngC e p (L.drop p)=if Lib.hasSuffix s [32,e,e,e,e]=true then match nmC (s.take (s.length-5)) with
    | none=>.error (p+1,3)
    | some q=>.ok (q,L.drop (p+1)) else .error (p+1,3):=(by unfold rngC;first | (rw[HBar];done) | (rw[HBar];rfl))
   clear HX hY hn hb hs0 hsl hLp hr HBar
   have hc:=fun u=>Tryz.strings_CutSuffix ⟨s.toArray⟩ ⟨#[32,e,e,e,e]⟩ u (by show s.length≤_;omega)
   have hcs:Lib.hasSuffix (⟨s.toArray⟩:ByteArray).data.toList (⟨#[32,e,e,e,e]⟩:ByteArray).data.toList=Lib.hasSuffix s [32,e,e,e,e]:=rfl
   have hct:Lib.trimSuffix (⟨s.toArray⟩:ByteArray).data.toList (⟨#[32,e,e,e,e]⟩:ByteArray).data.toList=Lib.trimSuffix s [32,e,e,e,e]:=rfl
   rw[hcs,hct] at hc
   go_enter Tryz.func257,Tryz.ntmps257
   go_wp2_with fail
   refine hb2.mono ?_
   rintro x w1 ⟨rfl,nn,rfl⟩
   have q2:=q1.dN nn
   have g2:=ZdP (ZfO (Below.refl (w.alloc zsO).heap.size (w.alloc zsO)) (some R)) nn
   clear hb2 q1 hL1
   have hRl1:R<(w.alloc zsO).heap.size:=(by simp;omega)
   have HZ:Hid ((w.alloc zsO).heap[w.heap.size]?=some zsO∧w.heap.size<(w.alloc zsO).heap.size∧w.heap.size≠R):=⟨heap_alloc_new w _,by simp,by omega⟩
   clear hW
   generalize (w.alloc zsO).drewN nn=W0 at q2 g2 ⊢
   generalize w.alloc zsO=wa at g2 HG HZ hRl1
   by_cases hsuf:Lib.hasSuffix s [32,e,e,e,e]=true
   ·rw[if_pos hsuf] at hRng
    have htr:Lib.trimSuffix s [32,e,e,e,e]=s.take (s.length-5):=(by unfold Lib.trimSuffix;rw[if_pos hsuf];rfl)
    rw[htr,hsuf] at hc
    have hDl:(s.take (s.length-5)).length≤1099511627776:=(by rw[List.length_take];omega)
    generalize s.take (s.length-5)=D at hc hDl hRng
    clear htr
    go_wp2_with fail
    refine (hc _).mono ?_
    rintro x w2 ⟨rfl,rfl⟩
    go_wp2_with fail
    refine (ZbQ D _ hDl).mono ?_
    rintro x w3 ⟨a,b,rr,rfl,hnm,hB3⟩
    have q3:=q2.low hB3
    have g3:=ZdT g2 (ZfO hB3 (some R))
    clear q2 g2 hB3 hc
    rw[hnm] at hRng
    cases rr with
    | false =>
     have hXe:=HXR.out _ hRng
     subst hXe
     clear hRng HXR HXK hnm
     go_wp2_with fail
     refine (ZbY 3 _ q3 (by omega)).mono ?_
     rintro x w4 ⟨⟨g,rfl,hg⟩,hgr⟩
     go_wp2
     exact⟨rfl,⟨_,rfl,by simpa using hg⟩,HG.out _ (ZdT g3 hgr)⟩
    | true =>
     have hXk:=HXK.out _ hRng
     have hok:=ZgY hnm
     clear hRng HXR HXK hnm
     obtain⟨c0,c1⟩:=q3.cells
     have f1:=q3.frozen 1
     have q4:=q3.at ((p:Int)+1)
     have g4:=ZdT g3 (ZdS w3 R 1 (.int .i64 ((p:Int)+1)))
     have hS0:Sxc wa R w3.heap.size (.slice lo L.length lc) ((p:Int)+1) a b (.slice none 0 0) [] (p+1) ((w3.setCell ⟨R,1,none⟩ (.int .i64 ((p:Int)+1))).alloc (.cells #[.int .i64 ((p:Int)+1),.int .i64 a,.int .i64 b,.slice none 0 0] 308)):=(by
      have hsz:(w3.setCell ⟨R,1,none⟩ (.int .i64 ((p:Int)+1))).heap.size=w3.heap.size:=by simp
      refine⟨ZdT g4 (World.grownBy_alloc _ _ _),?_,Zen _ _ _ _,?_,?_,hRl1,fun _=>rfl⟩
      ·rw[← hsz];exact heap_alloc_new _ _
      ·have:=q4.low ((Below.refl _ _).alloc (Nat.le_refl _) (.cells #[.int .i64 ((p:Int)+1),.int .i64 a,.int .i64 b,.slice none 0 0] 308))
       simpa using this
      ·exact g3.size)
     clear q3 g3 q4 g4
     obtain⟨Y,hY⟩:∃ Y,rdC sg (p+1) (L.drop (p+1))=Y:=⟨_,rfl⟩
     rw[hY] at hXk
     have HXe:Hid (∀ z,Y=.error z→X=.error z):=(by intro z hz;rw[hXk,hz])
     have HXo:Hid (∀ l p1 r1,Y=.ok (l,p1,r1)→X=if (!l.isEmpty && endK l r1)=true then .ok ((a,b),cutL l,p1+1,r1.tail) else .ok ((a,b),l,p1,r1)):=(by intro l p1 r1 hz;rw[hXk,hz])
     have HY0:Hid (thenL [] (rdC sg (p+1) (L.drop (p+1)))=Y):=(by show _=_;rw[ZkM,hY])
     clear hXk hY
     go_wp2
     generalize ((w3.setCell ⟨R,1,none⟩ (.int .i64 ((p:Int)+1))).alloc (.cells #[.int .i64 ((p:Int)+1),.int .i64 a,.int .i64 b,.slice none 0 0] 308))=w5 at hS0 ⊢
     generalize w3.heap.size=S at hS0 ⊢
     clear c0 c1 f1 q
     go_loopw [15] (fun _ wr=>∃ (m:List Mk) (p':Nat) (v:Value),Sxc wa R S (.slice lo L.length lc) ((p:Int)+1) a b v m p' wr∧p'≤L.length∧Hid (m.length≤p'∧Fx m)∧Hid (thenL m (rdC sg p' (L.drop p'))=Y)) (fun _ u=>L.length-ckN u R)
     case atStart=>exact⟨[],p+1,_,hS0,by omega,⟨Nat.zero_le _,fun x hx=>by cases hx⟩,HY0⟩
     case round =>
     clear hS0 HY0
     obtain⟨m,p',v,hS,hp',HM,HI⟩:=hrel
     have hLr:=HL.out wr (HG.out _ hS.gr)
     have hml:=HM.out.1
     have HK:Hid (ckN wr R=p'):=ZbB hS.ck
     obtain⟨vo,vc,rfl⟩:=(Zeo hS.own).form
     obtain⟨c0,c1⟩:=hS.ck.cells
     by_cases hlt:p'<L.length
     ·obtain⟨bk,off,rfl,hbk,hcl⟩:=HS.at hLr (by omega)
      have d4:=hcl p' hlt
      clear hcl
      have hd:decide ((p':Int)<(L.length:Int))=true:=decide_eq_true (by omega)
      have i1:(0:Int)≤(p':Int):=by omega
      have i2:(p':Int)<(L.length:Int):=by omega
      have i3:(p':Int).toNat=p':=by omega
      have hsl:=HSl.out L[p'] (List.getElem_mem hlt)
      obtain⟨rs,hrs⟩:∃ r,isSd sg L[p']=r:=⟨_,rfl⟩
      have his:=fun u=>ZbA L[p'] sg u hsl rs hrs
      cases rs with
      | true =>
       have hgo:=ZiX hlt hrs m
       rw[HI.out] at hgo
       have hnx:=Zhl hlt
       obtain⟨s1,hs1⟩:∃ s,L[p']=s:=⟨_,rfl⟩
       rw[hs1] at d4 hsl his hrs hgo hnx
       go_wp2_with fail
       go_quiet ((go_at_call 304;exact Calls.quiet_of_same (his _)))
       have hSq:=hS.keep (below_drewN (Below.refl _ _) nq)
       have hLq:=HL.out _ (HG.out _ hSq.gr)
       clear hS hLr c0 c1 his
       generalize wr.drewN nq=w6 at hSq hLq ⊢
       by_cases hfd:fdB s1=true
       ·rw[if_pos hfd] at hgo hnx
        have hln:=Zcc w6 hSq.ck hLq hp' (by omega) HSl.out _ hnx
        obtain⟨a0,b0,c0,t,rfl,hfd2⟩:=ZjZ hrs hfd
        have hln2:Calls Tryz.prog 302 #[.pointer (some ⟨R,0,none⟩)] w6 fun x w'=>x=.returned (.string ⟨(a0::b0::c0::t).toArray⟩)∧∃ n,w'=w6.drewN n:=(by
         refine hln.mono ?_
         rintro x w' ⟨h1,h2⟩
         rw[ZcM hfd] at h1
         exact⟨h1,h2⟩)
        have HI2:Hid (thenL (m++[⟨(a0.toNat:Int),c0::t⟩]) (rdC sg (p'+1) (L.drop (p'+1)))=Y):=hgo.symm
        have HM2:Hid ((m++[(⟨(a0.toNat:Int),c0::t⟩:Mk)]).length≤p'+1∧Fx (m++[⟨(a0.toNat:Int),c0::t⟩])):=⟨by rw[List.length_append];simp;omega,by
         intro x hx
         rcases List.mem_append.1 hx with hx | hx
         ·exact HM.out.2 x hx
         ·rw[List.mem_singleton.1 hx]
          refine⟨hfd2,?_⟩
          simp only[List.length_cons] at hsl ⊢
          omega⟩
        clear hln hnx hgo HXe HXo HI HM hfd hfd2 hLq hrs hs1 d4
        go_wp2_with fail
        refine hln2.mono ?_
        rintro x w7 ⟨rfl,nn,rfl⟩
        have hS7:=hSq.keep (below_drewN (Below.refl _ _) nn)
        clear hSq hln2
        generalize w6.drewN nn=w7 at hS7 ⊢
        have hS8:=hS7.keep ((Below.refl _ w7).alloc (Nat.le_refl _) (.cells #[.int .u8 (a0.toNat:Int),.string ⟨(c0::t).toArray⟩] 47))
        have hS9:=hS8.keep (Below.drew (Below.refl _ _))
        obtain⟨_,_,_,k3⟩:=hS7.cells
        obtain⟨_,_,_,k3a⟩:=hS8.cells
        obtain⟨_,_,_,k3b⟩:=hS9.cells
        have hrow0:=Zgj w7 ⟨(a0.toNat:Int),c0::t⟩
        have hrow:Holds ((w7.alloc (.cells #[.int .u8 (a0.toNat:Int),.string ⟨(c0::t).toArray⟩] 47)).drew) (.slice (some ⟨w7.heap.size,0,none⟩) 1 1) 1 (mkcells [⟨(a0.toNat:Int),c0::t⟩]):=hrow0
        have hown:=hS9.own
        have hbase:=hS9.gr.size
        have hxb:m.length+1≤4398046511104:=by omega
        clear hrow0
        have j1:(0:Int)<(t.length:Int)+1+1+1:=by omega
        have j2:(2:Int)≤(t.length:Int)+1+1+1:=by omega
        have j3:(t.length:Int).toNat=t.length:=by omega
        go_wp2_with fail
        go_region_law (refine ZkD _ rfl (.tmp 79) (.tmp 85) 43 47 (.agg #[.int .u8 0,.string ⟨#[]⟩]) 2 24 rfl Tryz.underlying43 infoMk rfl (by decide) (by decide) wa.heap.size _ _ _ rfl hown _ 1 (mkcells [⟨(a0.toNat:Int),c0::t⟩]) rfl hrow (Zgo _) (Zgp _) hxb hbase ?_;intro v8 u8 hown8 hg8;rw[← Zgl] at hown8;obtain⟨hS10,hbx⟩:=hS9.more hg8 hown8 (by rw[List.length_append];rfl);have kc:u8.cell? ⟨S,3,none⟩=some (.slice vo m.length vc):=(by rw[Lib.cell_of_heap hbx];rfl);have kf:u8.frozen? ⟨S,3,none⟩=false:=Lib.frozen_of_heap hbx 3;obtain⟨o8,c8,rfl⟩:=(Zeo hown8).form;obtain⟨d0,d1⟩:=hS10.ck.cells;have f1:=hS10.ck.frozen 1)
        all_goals (
         have hS11:=hS10.next
         first
         | exact⟨⟨_,p'+1,_,hS11,by omega,HM2,HI2⟩,by rw[ZbB hS11.ck,HK.out];omega⟩
         | (go_wp2;exact⟨⟨_,p'+1,_,hS11,by omega,HM2,HI2⟩,by rw[ZbB hS11.ck,HK.out];omega⟩))
       ·rw[if_neg hfd] at hgo hnx
        have hXe:=HXe.out _ hgo
        subst hXe
        have hln:=Zcc w6 hSq.ck hLq hp' (by omega) HSl.out _ hnx
        clear hgo hnx HXe HXo HI
        go_wp2_with fail
        refine hln.mono ?_
        rintro x w7 ⟨⟨g,rfl,hg⟩,hgr⟩
        go_wp2
        exact⟨rfl,⟨_,rfl,by simpa using hg⟩,HG.out _ (ZdT hSq.gr hgr)⟩
      | false =>
       have hYv:Y=.ok (m,p',L.drop p'):=(by
        rw[← HI.out,ZiZ (fun _=>hrs)]
        simp[thenL])
       have hXv:=HXo.out m p' (L.drop p') hYv
       clear HXe HXo HI hYv
       go_wp2_with fail
       go_quiet ((go_at_call 304;exact Calls.quiet_of_same (his _)))
       have hSq:=hS.keep (below_drewN (Below.refl _ _) nq)
       have hLq:=HL.out _ (HG.out _ hSq.gr)
       clear hS hLr c0 c1
       generalize wr.drewN nq=w6 at hSq hLq ⊢
       by_cases hm0:m=[]
       ·subst hm0
        have hv0:=hSq.nil rfl
        injection hv0 with e1 e2 e3
        subst e1 e3
        have hXv2:X=.ok ((a,b),[],p',L.drop p'):=hXv
        subst hXv2
        clear hXv
        obtain⟨k0,k1,k2,k3⟩:=hSq.cells
        obtain⟨q0,q1,q2,q3,qf⟩:=Zdx hSq HZ.out _ rfl
        obtain⟨fh,fo,fq,fg⟩:=Zdy hSq HG.out HZ.out
        have qf0:=qf 0
        have qf1:=qf 1
        have qf2:=qf 2
        have qf3:=qf 3
        clear hSq qf
        go_wp2
        refine bodyPost_ret (v:=.agg #[.int .i64 ((p:Int)+1),.int .i64 a,.int .i64 b,.slice none 0 0]) (results_cell_row rfl _ _ w.heap.size 308 #[.int .i64 ((p:Int)+1),.int .i64 a,.int .i64 b,.slice none 0 0] (0,0) _ rfl fh Tryz.underlying308 rfl (by kernel_rfl)) rfl ⟨_,rfl,fo,fun _=>rfl,fq,fg⟩
       ·obtain⟨m1,y,rfl⟩:=ZcR hm0
        have hne:(!(m1++[y]).isEmpty)=true:=(by cases m1<;>rfl)
        have hfd:=HM.out.2 y (by simp)
        rw[hne,Bool.true_and] at hXv
        unfold endK at hXv
        rw[Zfs,Zco] at hXv
        obtain⟨N1,hN1⟩:∃ N1,m1.length=N1:=⟨_,rfl⟩
        have hlen:(m1++[y]).length=N1+1:=(by rw[List.length_append,hN1];rfl)
        have hown:=hSq.own
        have hown':=hown
        rw[List.length_append] at hown'
        obtain⟨g,cap,hvv,hBg,hgs,d1,df,hset⟩:=ZhL hown'
        rw[hN1] at d1 df hset
        injection hvv with hv1 hv2 hv3
        subst hv1 hv3
        have hgR:R≠g:=(by omega)
        clear hown' hv2 HM
        have hml2:N1+1≤p':=(by rw[hlen] at hml;exact hml)
        have j0:(0:Int)<((N1+1:Nat):Int):=by omega
        have j1:(0:Int)≤(N1:Int):=by omega
        have j2:(N1:Int)<(N1:Int)+1:=by omega
        have j3:(N1:Int)+1-1=(N1:Int):=by omega
        obtain⟨k0,k1,k2,k3⟩:=hSq.cells
        rw[hlen] at k3
        have HNm:Hid (∀ x:Mk,(m1++[x]).length=N1+1):=(by intro x;rw[← hN1];simp)
        cases hb:(y.tx != [10] && pkM (L.drop p')) with
        | false =>
         rw[hb,if_neg (by decide)] at hXv
         subst hXv
         have he:=ZbZ (g:=g) (o:=N1 * 2) w6 hSq.ck hLq HPl.out hp' (by omega) y.tx d1 hb
         clear hb hset df hfd hown
         go_wp2_with fail
         refine he.mono ?_
         rintro x w7 ⟨rfl,nn,rfl⟩
         have hSr:=hSq.keep (below_drewN (Below.refl _ _) nn)
         clear he hSq k0 k1 k2 k3 d1
         generalize w6.drewN nn=w7 at hSr ⊢
         obtain⟨k0,k1,k2,k3⟩:=hSr.cells
         rw[hlen] at k3
         obtain⟨q0,q1,q2,q3,qf⟩:=Zdx hSr HZ.out _ rfl
         obtain⟨fh,fo,fq,fg⟩:=Zdy hSr HG.out HZ.out
         rw[hlen] at fh fo fq fg
         have qf0:=qf 0
         have qf1:=qf 1
         have qf2:=qf 2
         have qf3:=qf 3
         clear hSr qf
         go_wp2
         refine bodyPost_ret (v:=.agg #[.int .i64 ((p:Int)+1),.int .i64 a,.int .i64 b,.slice (some ⟨g,0,none⟩) (N1+1) vc]) (results_cell_row rfl _ _ w.heap.size 308 #[.int .i64 ((p:Int)+1),.int .i64 a,.int .i64 b,.slice (some ⟨g,0,none⟩) (N1+1) vc] (0,0) _ rfl fh Tryz.underlying308 rfl (by kernel_rfl)) rfl ⟨_,rfl,by rw[HNm.out];exact fo,fun e=>by simp at e,fq,fg⟩
        | true =>
         rw[hb,if_pos rfl] at hXv
         subst hXv
         have HTt:Hid (y.tx=y.tx.dropLast++[10]):=Zdd hfd.1
         have he:=Zca (g:=g) (o:=N1 * 2) w6 hSq.ck hLq HPl.out (by omega) hgR y.tx y.tx.dropLast HTt hfd.2 d1 df hb
         have hs2:=fun nn=>hset (w6.drewN nn) y.tx.dropLast rfl
         clear hb hset df hfd hown
         go_wp2_with fail
         refine he.mono ?_
         rintro x w7 ⟨rfl,nn,rfl⟩
         have hSr0:=hSq.keep (below_drewN (Below.refl _ _) nn)
         have hSr1:=hSr0.cut (g:=g) (j:=N1 * 2+1) (z:=.string ⟨y.tx.dropLast.toArray⟩) (m':=m1++[⟨y.sg,y.tx.dropLast⟩]) rfl (by rw[HNm.out ⟨y.sg,y.tx.dropLast⟩];rw[hlen];exact hs2 nn) (by simp)
         have hSr:=hSr1.next
         clear he hSq k0 k1 k2 k3 d1 hSr0 hSr1 hs2
         generalize ((w6.drewN nn).setCell ⟨g,N1 * 2+1,none⟩ (.string ⟨y.tx.dropLast.toArray⟩)).setCell ⟨R,1,none⟩ (.int .i64 ((p':Int)+1))=w7 at hSr ⊢
         obtain⟨k0,k1,k2,k3⟩:=hSr.cells
         rw[hlen] at k3
         obtain⟨q0,q1,q2,q3,qf⟩:=Zdx hSr HZ.out _ rfl
         obtain⟨fh,fo,fq,fg⟩:=Zdy hSr HG.out HZ.out
         rw[hlen] at fh fo fq fg
         have qf0:=qf 0
         have qf1:=qf 1
         have qf2:=qf 2
         have qf3:=qf 3
         clear hSr qf
         go_wp2
         refine bodyPost_ret (v:=.agg #[.int .i64 ((p:Int)+1),.int .i64 a,.int .i64 b,.slice (some ⟨g,0,none⟩) (N1+1) vc]) (results_cell_row rfl _ _ w.heap.size 308 #[.int .i64 ((p:Int)+1),.int .i64 a,.int .i64 b,.slice (some ⟨g,0,none⟩) (N1+1) vc] (0,0) _ rfl fh Tryz.underlying308 rfl (by kernel_rfl)) rfl ⟨_,rfl,by rw[HNm.out ⟨y.sg,y.tx.dropLast⟩] at fo ⊢;exact fo,fun e=>by simp at e,fq,fg⟩
     ·have hd:decide ((p':Int)<(L.length:Int))=false:=decide_eq_false (by omega)
      have hYv:Y=.ok (m,p',L.drop p'):=(by
       rw[← HI.out,ZiZ (fun h=>absurd h hlt)]
       simp[thenL])
      have hXv:=HXo.out m p' (L.drop p') hYv
      clear HXe HXo HI hYv
      go_wp2_with fail
      go_quiet (fail)
      have hSq:=hS.keep (below_drewN (Below.refl _ _) nq)
      have hLq:=HL.out _ (HG.out _ hSq.gr)
      clear hS hLr c0 c1
      generalize wr.drewN nq=w6 at hSq hLq ⊢
      by_cases hm0:m=[]
      ·subst hm0
       have hv0:=hSq.nil rfl
       injection hv0 with e1 e2 e3
       subst e1 e3
       have hXv2:X=.ok ((a,b),[],p',L.drop p'):=hXv
       subst hXv2
       clear hXv
       obtain⟨k0,k1,k2,k3⟩:=hSq.cells
       obtain⟨q0,q1,q2,q3,qf⟩:=Zdx hSq HZ.out _ rfl
       obtain⟨fh,fo,fq,fg⟩:=Zdy hSq HG.out HZ.out
       have qf0:=qf 0
       have qf1:=qf 1
       have qf2:=qf 2
       have qf3:=qf 3
       clear hSq qf
       go_wp2
       refine bodyPost_ret (v:=.agg #[.int .i64 ((p:Int)+1),.int .i64 a,.int .i64 b,.slice none 0 0]) (results_cell_row rfl _ _ w.heap.size 308 #[.int .i64 ((p:Int)+1),.int .i64 a,.int .i64 b,.slice none 0 0] (0,0) _ rfl fh Tryz.underlying308 rfl (by kernel_rfl)) rfl ⟨_,rfl,fo,fun _=>rfl,fq,fg⟩
      ·obtain⟨m1,y,rfl⟩:=ZcR hm0
       have hne:(!(m1++[y]).isEmpty)=true:=(by cases m1<;>rfl)
       have hfd:=HM.out.2 y (by simp)
       rw[hne,Bool.true_and] at hXv
       unfold endK at hXv
       rw[Zfs,Zco] at hXv
       obtain⟨N1,hN1⟩:∃ N1,m1.length=N1:=⟨_,rfl⟩
       have hlen:(m1++[y]).length=N1+1:=(by rw[List.length_append,hN1];rfl)
       have hown:=hSq.own
       have hown':=hown
       rw[List.length_append] at hown'
       obtain⟨g,cap,hvv,hBg,hgs,d1,df,hset⟩:=ZhL hown'
       rw[hN1] at d1 df hset
       injection hvv with hv1 hv2 hv3
       subst hv1 hv3
       have hgR:R≠g:=(by omega)
       clear hown' hv2 HM
       have hml2:N1+1≤p':=(by rw[hlen] at hml;exact hml)
       have j0:(0:Int)<((N1+1:Nat):Int):=by omega
       have j1:(0:Int)≤(N1:Int):=by omega
       have j2:(N1:Int)<(N1:Int)+1:=by omega
       have j3:(N1:Int)+1-1=(N1:Int):=by omega
       obtain⟨k0,k1,k2,k3⟩:=hSq.cells
       rw[hlen] at k3
       have HNm:Hid (∀ x:Mk,(m1++[x]).length=N1+1):=(by intro x;rw[← hN1];simp)
       cases hb:(y.tx != [10] && pkM (L.drop p')) with
       | false =>
        rw[hb,if_neg (by decide)] at hXv
        subst hXv
        have he:=ZbZ (g:=g) (o:=N1 * 2) w6 hSq.ck hLq HPl.out hp' (by omega) y.tx d1 hb
        clear hb hset df hfd hown
        go_wp2_with fail
        refine he.mono ?_
        rintro x w7 ⟨rfl,nn,rfl⟩
        have hSr:=hSq.keep (below_drewN (Below.refl _ _) nn)
        clear he hSq k0 k1 k2 k3 d1
        generalize w6.drewN nn=w7 at hSr ⊢
        obtain⟨k0,k1,k2,k3⟩:=hSr.cells
        rw[hlen] at k3
        obtain⟨q0,q1,q2,q3,qf⟩:=Zdx hSr HZ.out _ rfl
        obtain⟨fh,fo,fq,fg⟩:=Zdy hSr HG.out HZ.out
        rw[hlen] at fh fo fq fg
        have qf0:=qf 0
        have qf1:=qf 1
        have qf2:=qf 2
        have qf3:=qf 3
        clear hSr qf
        go_wp2
        refine bodyPost_ret (v:=.agg #[.int .i64 ((p:Int)+1),.int .i64 a,.int .i64 b,.slice (some ⟨g,0,none⟩) (N1+1) vc]) (results_cell_row rfl _ _ w.heap.size 308 #[.int .i64 ((p:Int)+1),.int .i64 a,.int .i64 b,.slice (some ⟨g,0,none⟩) (N1+1) vc] (0,0) _ rfl fh Tryz.underlying308 rfl (by kernel_rfl)) rfl ⟨_,rfl,by rw[HNm.out];exact fo,fun e=>by simp at e,fq,fg⟩
       | true =>
        rw[hb,if_pos rfl] at hXv
        subst hXv
        have HTt:Hid (y.tx=y.tx.dropLast++[10]):=Zdd hfd.1
        have he:=Zca (g:=g) (o:=N1 * 2) w6 hSq.ck hLq HPl.out (by omega) hgR y.tx y.tx.dropLast HTt hfd.2 d1 df hb
        have hs2:=fun nn=>hset (w6.drewN nn) y.tx.dropLast rfl
        clear hb hset df hfd hown
        go_wp2_with fail
        refine he.mono ?_
        rintro x w7 ⟨rfl,nn,rfl⟩
        have hSr0:=hSq.keep (below_drewN (Below.refl _ _) nn)
        have hSr1:=hSr0.cut (g:=g) (j:=N1 * 2+1) (z:=.string ⟨y.tx.dropLast.toArray⟩) (m':=m1++[⟨y.sg,y.tx.dropLast⟩]) rfl (by rw[HNm.out ⟨y.sg,y.tx.dropLast⟩];rw[hlen];exact hs2 nn) (by simp)
        have hSr:=hSr1.next
        clear he hSq k0 k1 k2 k3 d1 hSr0 hSr1 hs2
        generalize ((w6.drewN nn).setCell ⟨g,N1 * 2+1,none⟩ (.string ⟨y.tx.dropLast.toArray⟩)).setCell ⟨R,1,none⟩ (.int .i64 ((p':Int)+1))=w7 at hSr ⊢
        obtain⟨k0,k1,k2,k3⟩:=hSr.cells
        rw[hlen] at k3
        obtain⟨q0,q1,q2,q3,qf⟩:=Zdx hSr HZ.out _ rfl
        obtain⟨fh,fo,fq,fg⟩:=Zdy hSr HG.out HZ.out
        rw[hlen] at fh fo fq fg
        have qf0:=qf 0
        have qf1:=qf 1
        have qf2:=qf 2
        have qf3:=qf 3
        clear hSr qf
        go_wp2
        refine bodyPost_ret (v:=.agg #[.int .i64 ((p:Int)+1),.int .i64 a,.int .i64 b,.slice (some ⟨g,0,none⟩) (N1+1) vc]) (results_cell_row rfl _ _ w.heap.size 308 #[.int .i64 ((p:Int)+1),.int .i64 a,.int .i64 b,.slice (some ⟨g,0,none⟩) (N1+1) vc] (0,0) _ rfl fh Tryz.underlying308 rfl (by kernel_rfl)) rfl ⟨_,rfl,by rw[HNm.out ⟨y.sg,y.tx.dropLast⟩] at fo ⊢;exact fo,fun e=>by simp at e,fq,fg⟩
   ·rw[if_neg hsuf] at hRng
    have hXe:=HXR.out _ hRng
    subst hXe
    have hDl:(Lib.trimSuffix s [32,e,e,e,e]).length≤1099511627776:=(by
     unfold Lib.trimSuffix
     rw[if_neg hsuf]
     exact hsl2)
    rw[Bool.eq_false_iff.2 hsuf] at hc
    generalize Lib.trimSuffix s [32,e,e,e,e]=D at hc hDl
    clear hRng HXR HXK
    go_wp2_with fail
    refine (hc _).mono ?_
    rintro x w2 ⟨rfl,rfl⟩
    go_wp2_with fail
    refine (ZbQ D _ hDl).mono ?_
    rintro x w3 ⟨a,b,rr,rfl,_,hB3⟩
    have q3:=q2.low hB3
    have g3:=ZdT g2 (ZfO hB3 (some R))
    clear q2 g2 hB3 hc
    go_wp2_with fail
    refine (ZbY 3 _ q3 (by omega)).mono ?_
    rintro x w4 ⟨⟨g,rfl,hg⟩,hgr⟩
    go_wp2
    exact⟨rfl,⟨_,rfl,by simpa using hg⟩,HG.out _ (ZdT g3 hgr)⟩
  ·cases hY
end

section
open Go.RowKit
def sidR (e sg:UInt8) (p:Nat) (ls:List (List UInt8)):Except (Nat × Int) ((Int × Int) × Sde × Nat × List (List UInt8)) :=
 match rngC e p ls with
 | .error x=>.error x
 | .ok (q,r)=>match rdS sg (p+1) r with
  | .error x=>.error x
  | .ok (l,p1,r1)=>.ok (q,l,p1,r1)
def mapR (X:Except (Nat × Int) ((Int × Int) × Sde × Nat × List (List UInt8))):Except (Nat × Int) ((Int × Int) × List Mk × Nat × List (List UInt8)) :=
 match X with
 | .error x=>.error x
 | .ok (q,x,p,r)=>.ok (q,kM x,p,r)
theorem Zkh {e sg:UInt8} (h92:sg≠92) (p:Nat) (ls:List (List UInt8)):sidX e sg p ls=mapR (sidR e sg p ls):=by
 unfold sidX sidR
 cases rngC e p ls with
 | error x=>rfl
 | ok z =>
  obtain⟨q,r⟩:=z
  dsimp only
  rw[Zkl h92]
  cases rdS sg (p+1) r with
  | error x=>rfl
  | ok z=>rfl
def finR (p p2:Nat) (q1 q2:Int × Int) (o w:Sde) (p4:Nat) (r4:List (List UInt8)):Except (Nat × Int) (Hk × Nat × List (List UInt8)) :=
 match finH (p+1) (p+2) (p2+1) q1.1 (sayC q1).2 q2.1 (sayC q2).2 o w with
 | .error e=>.error e
 | .ok h=>.ok (h,p4,r4)
theorem Zeg (k p:Nat) (ls:List (List UInt8)):cxH k p ls=match starsP k p ls with
  | .error e=>.error e
  | .ok r=>match sidR 42 45 (p+1) r with
   | .error e=>.error e
   | .ok (q1,o,p2,r2)=>match sidR 45 43 p2 r2 with
    | .error e=>.error e
    | .ok (q2,w,p4,r4)=>finR p p2 q1 q2 o w p4 r4:=by
 unfold cxH starsP
 cases nxt p ls with
 | error e=>rfl
 | ok z =>
  obtain⟨s,r⟩:=z
  dsimp only
  by_cases h1:isSt s=true
  ·rw[if_pos h1,if_pos h1]
   by_cases h2:4096≤k
   ·rw[if_pos h2,if_pos h2]
   ·rw[if_neg h2,if_neg h2]
    dsimp only
    unfold sidR
    rw[Zjv]
    cases rngC 42 (p+1) r with
    | error e=>rfl
    | ok z =>
     obtain⟨q1,r1⟩:=z
     dsimp only
     cases rdS 45 (p+2) r1 with
     | error e=>rfl
     | ok z =>
      obtain⟨o,p2,r2⟩:=z
      dsimp only
      rw[Zjv]
      cases rngC 45 p2 r2 with
      | error e=>rfl
      | ok z =>
       obtain⟨q2,r3⟩:=z
       dsimp only
       cases rdS 43 (p2+1) r3 with
       | error e=>rfl
       | ok z=>rfl
  ·rw[if_neg h1,if_neg h1]
theorem Zjf {sg:UInt8} (ls:List (List UInt8)):∀ {p p1:Nat} {r:List (List UInt8)} {x:Sde},rdS sg p ls=.ok (x,p1,r)→∃ n,p1=p+n∧r=ls.drop n∧n≤ls.length∧x.length≤n:=by
 induction ls with
 | nil =>
  intro p p1 r x h
  simp only[rdS] at h
  injection h with h
  injection h with h1 h2
  injection h2 with h2 h3
  subst h1 h2 h3
  exact⟨0,rfl,rfl,Nat.le_refl _,Nat.le_refl _⟩
 | cons s t ih =>
  intro p p1 r x h
  simp only[rdS] at h
  split at h
  ·split at h
   ·split at h
    ·rename_i h3
     injection h with h
     injection h with h1 h2
     injection h2 with h2 h4
     subst h1 h2 h4
     cases t with
     | nil=>cases h3.1
     | cons u t=>exact⟨2,rfl,rfl,by simp,by simp⟩
    ·cases hr:rdS sg (p+1) t with
     | error e=>rw[hr] at h;cases h
     | ok z =>
      obtain⟨l,p2,r2⟩:=z
      rw[hr] at h
      injection h with h
      injection h with h1 h2
      injection h2 with h2 h4
      subst h1 h2 h4
      obtain⟨n,e1,e2,e3,e4⟩:=ih hr
      exact⟨n+1,by omega,by rw[e2];rfl,by simp;omega,by simp;omega⟩
   ·cases h
  ·injection h with h
   injection h with h1 h2
   injection h2 with h2 h3
   subst h1 h2 h3
   exact⟨0,rfl,rfl,Nat.zero_le _,Nat.le_refl _⟩
theorem Zjx {e:UInt8} {p:Nat} {L r:List (List UInt8)} {q:Int × Int} (h:rngC e p (L.drop p)=.ok (q,r)):r=L.drop (p+1)∧p<L.length∧0≤q.1∧q.1≤q.2∧q.2≤2147483647:=by
 unfold rngC barP at h
 cases hn:nxt p (L.drop p) with
 | error x=>rw[hn] at h;cases h
 | ok z =>
  obtain⟨s,r0⟩:=z
  rw[hn] at h
  obtain⟨h1,h2,_⟩:=Zhr hn
  dsimp only at h
  split at h
  ·cases h
  ·rename_i heq
   split at heq
   ·injection heq with heq
    injection heq with e1 e2
    split at h
    ·split at h
     ·cases h
     ·rename_i q' hq
      injection h with h
      injection h with e3 e4
      obtain⟨b1,b2,b3⟩:=ZgY (a:=q'.1) (b:=q'.2) hq
      subst e3
      exact⟨by rw[← e4,← e2,h1],h2,b1,b2,b3⟩
    ·cases h
   ·cases heq
theorem Zkg {e sg:UInt8} {p p1:Nat} {L r:List (List UInt8)} {q:Int × Int} {x:Sde} (h:sidR e sg p (L.drop p)=.ok (q,x,p1,r)):r=L.drop p1∧p1≤L.length∧x.length≤L.length∧p<p1∧0≤q.1∧q.1≤q.2∧q.2≤2147483647:=by
 unfold sidR at h
 cases hq:rngC e p (L.drop p) with
 | error z=>rw[hq] at h;cases h
 | ok z =>
  obtain⟨q0,r0⟩:=z
  rw[hq] at h
  obtain⟨h1,h2,h3⟩:=Zjx hq
  dsimp only at h
  cases hr:rdS sg (p+1) r0 with
  | error z=>rw[hr] at h;cases h
  | ok z =>
   obtain⟨l,p2,r2⟩:=z
   rw[hr] at h
   injection h with h
   injection h with e1 e2
   injection e2 with e2 e3
   injection e3 with e3 e4
   subst e1 e2 e3 e4
   obtain⟨n,f1,f2,f3,f4⟩:=Zjf r0 hr
   rw[h1,List.length_drop] at f3
   exact⟨by rw[f2,h1,List.drop_drop,f1],by omega,by omega,by omega,h3⟩
theorem ZkC {k p:Nat} {L r:List (List UInt8)} (h:starsP k p (L.drop p)=.ok r):r=L.drop (p+1)∧p<L.length:=by
 unfold starsP at h
 cases hn:nxt p (L.drop p) with
 | error x=>rw[hn] at h;cases h
 | ok z =>
  obtain⟨s,r0⟩:=z
  rw[hn] at h
  obtain⟨h1,h2,_⟩:=Zhr hn
  dsimp only at h
  split at h
  ·split at h
   ·cases h
   ·injection h with h
    exact⟨by rw[← h,h1],h2⟩
  ·cases h
theorem Zdg (at0 ato atw:Nat) (q1 q2:Int × Int) (h1:q1.1≤q1.2) (h2:q2.1≤q2.2) (o w O V:Sde) (hO:oldF o w=O) (hV:newF o w=V) :
  finH at0 ato atw q1.1 (sayC q1).2 q2.1 (sayC q2).2 o w=if (sameS O && sameS V)=true then .error (at0,50) else
   match rgX (cntR q1.1 q1.2 (kM O).length) (cntR q2.1 q2.2 (kM V).length) (decide (q1.1=0) && decide (0<(kM O).length)) (decide (q2.1=0) && decide (0<(kM V).length)) (ato:Int) (atw:Int) with
   | some (a,z)=>.error (a.toNat,z)
   | none=>match jnX O V with
    | none=>.error (at0,190)
    | some l=>.ok ⟨q1.1,O.length,q2.1,V.length,l⟩:=by
 have hs:(sameS o=true∧sameS w=true)↔(sameS O && sameS V)=true:=by
  rw[Bool.and_eq_true,← hO,← hV]
  unfold oldF newF
  have hk:∀ x:Sde,sameS (keptS x)=true:=fun x=>by simp[sameS,keptS]
  by_cases ho:o=[]
  ·subst ho
   rw[if_pos rfl,if_neg (by simp)]
   exact⟨fun h=>⟨hk _,h.2⟩,fun h=>⟨rfl,h.2⟩⟩
  ·rw[if_neg ho]
   by_cases hw:w=[]
   ·subst hw
    rw[if_pos ⟨ho,rfl⟩]
    exact⟨fun h=>⟨h.1,hk _⟩,fun h=>⟨h.1,rfl⟩⟩
   ·rw[if_neg (fun h=>hw h.2)]
 unfold finH
 rw[hO,hV]
 have c1:=ZbM h1 O
 have c2:=ZbM h2 V
 have e1:sayC (q1.1,q1.2)=sayC q1:=rfl
 have e2:sayC (q2.1,q2.2)=sayC q2:=rfl
 rw[e1] at c1
 rw[e2] at c2
 have d1:cntS (sayC q1).2 O=!cntR q1.1 q1.2 (kM O).length:=by rw[c1,Zfd];rfl
 have d2:cntS (sayC q2).2 V=!cntR q2.1 q2.2 (kM V).length:=by rw[c2,Zfd];rfl
 rw[d1,d2]
 have n1:(q1.1=0∧O≠[])↔(decide (q1.1=0) && decide (0<(kM O).length))=true:=by
  rw[Bool.and_eq_true,decide_eq_true_eq,decide_eq_true_eq,Zfd,List.length_pos_iff]
 have n2:(q2.1=0∧V≠[])↔(decide (q2.1=0) && decide (0<(kM V).length))=true:=by
  rw[Bool.and_eq_true,decide_eq_true_eq,decide_eq_true_eq,Zfd,List.length_pos_iff]
 generalize (decide (q1.1=0) && decide (0<(kM O).length))=z1 at n1
 generalize (decide (q2.1=0) && decide (0<(kM V).length))=z2 at n2
 generalize cntR q1.1 q1.2 (kM O).length=r1
 generalize cntR q2.1 q2.2 (kM V).length=r2
 by_cases hss:sameS o=true∧sameS w=true
 ·rw[if_pos hss,if_pos (hs.1 hss)]
 ·rw[if_neg hss,if_neg (fun h=>hss (hs.2 h))]
  unfold rgX
  cases r1 with
  | false=>simp
  | true =>
   cases r2 with
   | false=>simp
   | true =>
    cases z1 with
    | true=>rw[if_neg (by simp),if_neg (by simp),if_pos (n1.2 rfl)];simp
    | false =>
     have n1':¬ (q1.1=0∧O≠[]):=fun h=>by have:=n1.1 h;cases this
     rw[if_neg (by simp),if_neg (by simp),if_neg n1']
     cases z2 with
     | true=>rw[if_pos (n2.2 rfl)];simp
     | false =>
      have n2':¬ (q2.1=0∧V≠[]):=fun h=>by have:=n2.1 h;cases this
      rw[if_neg n2']
      simp only[Bool.true_eq_false,if_false,Bool.false_eq_true]
      rfl
end

section
open Go.RowKit
theorem Zem {u:World} {v:Value} {l:List Mk} (h:HMk u v l) {S:Nat} {x a b:Int} {o:Option Addr} {n c:Nat} (hb:u.heap[S]?=some (.cells #[.int .i64 x,.int .i64 a,.int .i64 b,.slice o n c] 308)) (j:Nat) (z:Value):HMk (u.setCell ⟨S,j,none⟩ z) v l:=by
 cases l with
 | nil =>
  unfold HMk at h ⊢
  rcases h with h | ⟨ad,c,hv,hn,_⟩
  ·exact .inl h
  ·exact .inr ⟨ad,c,hv,hn,fun j u hj=>by simp[mkcells] at hj⟩
 | cons m l =>
  obtain⟨ao,c2,rfl⟩:=HMk.form h
  obtain⟨g,off,rfl,_,hc⟩:=HMk.at h (by simp)
  have hne:S≠g:=by
   rintro rfl
   have h0:=(hc 0 (by simp)).1
   rw[Lib.cell_of_heap hb] at h0
   match off,h0 with
   | 0,h0=>simp at h0
   | 1,h0=>simp at h0
   | 2,h0=>simp at h0
   | 3,h0=>simp at h0
   | k+4,h0=>simp at h0
  unfold HMk at h ⊢
  rcases h with ⟨e,_⟩ | ⟨ad,c',hv,hn,hcl⟩
  ·cases e
  ·injection hv with h1 h2 h3
   injection h1 with h1
   subst h1 h3
   exact .inr ⟨_,_,rfl,hn,fun j u' hj=>by rw[World.cell?_setCell_far _ _ _ _ (by have e:((⟨g,off,none⟩:Addr).add j).block=g:=(by unfold Addr.add;split<;>rfl);rw[e];exact hne)];exact hcl j u' hj⟩
structure Hz (wa:World) (R S1 S2:Nat) (vL:Value) (x1 a1 b1:Int) (v1:Value) (l1:List Mk) (x2 a2 b2:Int) (v2:Value) (l2:List Mk) (p:Nat) (u:World):Prop where
 gr:wa.grownBy u (some R)
 o1:u.heap[S1]?=some (.cells #[.int .i64 x1,.int .i64 a1,.int .i64 b1,v1] 308)
 o2:u.heap[S2]?=some (.cells #[.int .i64 x2,.int .i64 a2,.int .i64 b2,v2] 308)
 n1:HMk u v1 l1
 n2:HMk u v2 l2
 ck:Ck u R vL (p:Int)
 g1:wa.heap.size≤S1
 g2:wa.heap.size≤S2
 ne:S1≠S2
 rl:R<wa.heap.size
section
variable {wa u u':World} {R S1 S2:Nat} {vL v1 v2:Value} {x1 a1 b1 x2 a2 b2:Int} {l1 l2:List Mk} {p:Nat}
theorem Hz.keep (h:Hz wa R S1 S2 vL x1 a1 b1 v1 l1 x2 a2 b2 v2 l2 p u) (hb:Below u.heap.size u u'):Hz wa R S1 S2 vL x1 a1 b1 v1 l1 x2 a2 b2 v2 l2 p u':=⟨ZdT h.gr (ZfO hb _),(hb.block S1 (Array.getElem?_eq_some_iff.1 h.o1).1).trans h.o1,(hb.block S2 (Array.getElem?_eq_some_iff.1 h.o2).1).trans h.o2,h.n1.keep hb (Nat.le_refl _),h.n2.keep hb (Nat.le_refl _),h.ck.low hb,h.g1,h.g2,h.ne,h.rl⟩
theorem Hz.cells1 (h:Hz wa R S1 S2 vL x1 a1 b1 v1 l1 x2 a2 b2 v2 l2 p u):u.cell? ⟨S1,0,none⟩=some (.int .i64 x1)∧u.cell? ⟨S1,1,none⟩=some (.int .i64 a1)∧u.cell? ⟨S1,2,none⟩=some (.int .i64 b1)∧u.cell? ⟨S1,3,none⟩=some v1:=by
 refine⟨?_,?_,?_,?_⟩<;>rw[Lib.cell_of_heap h.o1]<;>rfl
theorem Hz.cells2 (h:Hz wa R S1 S2 vL x1 a1 b1 v1 l1 x2 a2 b2 v2 l2 p u):u.cell? ⟨S2,0,none⟩=some (.int .i64 x2)∧u.cell? ⟨S2,1,none⟩=some (.int .i64 a2)∧u.cell? ⟨S2,2,none⟩=some (.int .i64 b2)∧u.cell? ⟨S2,3,none⟩=some v2:=by
 refine⟨?_,?_,?_,?_⟩<;>rw[Lib.cell_of_heap h.o2]<;>rfl
theorem Hz.fr1 (h:Hz wa R S1 S2 vL x1 a1 b1 v1 l1 x2 a2 b2 v2 l2 p u):u.frozen? ⟨S1,3,none⟩=false:=Lib.frozen_of_heap h.o1 3
theorem Hz.fr2 (h:Hz wa R S1 S2 vL x1 a1 b1 v1 l1 x2 a2 b2 v2 l2 p u):u.frozen? ⟨S2,3,none⟩=false:=Lib.frozen_of_heap h.o2 3
theorem Hz.set1 (h:Hz wa R S1 S2 vL x1 a1 b1 v1 l1 x2 a2 b2 v2 l2 p u) {v:Value} {l:List Mk} (hv:HMk u v l):Hz wa R S1 S2 vL x1 a1 b1 v l x2 a2 b2 v2 l2 p (u.setCell ⟨S1,3,none⟩ v):=by
 have hg:=ZdS u S1 3 v
 obtain⟨o,c,rfl⟩:=HMk.form h.n1
 have e1:=h.o1
 exact⟨ZdR h.gr h.g1 3 v,heap_setCell_same u S1 3 _ _ v h.o1,(hg.block S2 (Array.getElem?_eq_some_iff.1 h.o2).1 (fun e=>h.ne (Option.some.inj e).symm)).trans h.o2,Zem hv h.o1 3 v,Zem h.n2 h.o1 3 v,h.ck.keep hg (fun e=>by cases e;have:=h.g1;have:=h.rl;omega),h.g1,h.g2,h.ne,h.rl⟩
theorem Hz.set2 (h:Hz wa R S1 S2 vL x1 a1 b1 v1 l1 x2 a2 b2 v2 l2 p u) {v:Value} {l:List Mk} (hv:HMk u v l):Hz wa R S1 S2 vL x1 a1 b1 v1 l1 x2 a2 b2 v l p (u.setCell ⟨S2,3,none⟩ v):=by
 have hg:=ZdS u S2 3 v
 obtain⟨o,c,rfl⟩:=HMk.form h.n2
 exact⟨ZdR h.gr h.g2 3 v,(hg.block S1 (Array.getElem?_eq_some_iff.1 h.o1).1 (fun e=>h.ne (Option.some.inj e))).trans h.o1,heap_setCell_same u S2 3 _ _ v h.o2,Zem h.n1 h.o2 3 v,Zem hv h.o2 3 v,h.ck.keep hg (fun e=>by cases e;have:=h.g2;have:=h.rl;omega),h.g1,h.g2,h.ne,h.rl⟩
end
def HkX (R:Nat) (vL:Value) (X:Except (Nat × Int) (Hk × Nat × List (List UInt8))) (w:World) (e:Ending) (w':World):Prop :=
 match X with
 | .error (a,z)=>Thr (a:Int) z e w'∧w.grownBy w' (some R)
 | .ok (h,p1,_)=>∃ v',e=.returned (hkV h v')∧w'.ownsRow w.heap.size 47 2 v' h.ls.length (mkcells h.ls)∧Ck w' R vL (p1:Int)∧w.grownBy w' (some R)
def zhk:Hk:=⟨0,0,0,0,[]⟩
theorem Zjq {r0 r1 z0 z1:Bool} {x0 x1 a z:Int} (h:rgX r0 r1 z0 z1 x0 x1=some (a,z)):a=x0∨a=x1:=by
 unfold rgX at h
 split at h
 ·injection h with h;injection h with h;exact .inl h.symm
 ·split at h
  ·injection h with h;injection h with h;exact .inr h.symm
  ·split at h
   ·injection h with h;injection h with h;exact .inl h.symm
   ·split at h
    ·injection h with h;injection h with h;exact .inr h.symm
    ·cases h
def five (u:World) (b:Nat) (A AN B BN:Int) (z:Value):World:=((((u.setCell ⟨b,0,none⟩ (.int .i64 A)).setCell ⟨b,1,none⟩ (.int .i64 AN)).setCell ⟨b,2,none⟩ (.int .i64 B)).setCell ⟨b,3,none⟩ (.int .i64 BN)).setCell ⟨b,4,none⟩ z
theorem Zdj {w wa u:World} {R:Nat} (hg:wa.grownBy u (some R)) (hZ:wa.heap[w.heap.size]?=some (hkO zhk (.slice none 0 0))∧w.heap.size<wa.heap.size∧w.heap.size≠R) (Q:Nat) (hQ:w.heap.size=Q) :
  u.cell? ⟨Q,0,none⟩=some (.int .i64 0)∧u.cell? ⟨Q,1,none⟩=some (.int .i64 0)∧u.cell? ⟨Q,2,none⟩=some (.int .i64 0)∧u.cell? ⟨Q,3,none⟩=some (.int .i64 0)∧u.cell? ⟨Q,4,none⟩=some (.slice none 0 0)∧∀ j,u.frozen? ⟨Q,j,none⟩=false:=by
 obtain⟨h1,h2,h3⟩:=hZ
 have hb:u.heap[w.heap.size]?=some (.cells #[.int .i64 0,.int .i64 0,.int .i64 0,.int .i64 0,.slice none 0 0] 45):=(hg.block _ h2 (fun e=>h3 (Option.some.inj e))).trans h1
 rw[hQ] at hb
 refine⟨?_,?_,?_,?_,?_,fun j=>Lib.frozen_of_heap hb j⟩<;>rw[Lib.cell_of_heap hb]<;>rfl
theorem Zdk {w wa u:World} {R:Nat} {vL v:Value} {p:Int} {n:Nat} {xs:List Value} (hg:wa.grownBy u (some R)) (hG:∀ u,wa.grownBy u (some R)→w.grownBy u (some R)) (hZ:wa.heap[w.heap.size]?=some (hkO zhk (.slice none 0 0))∧w.heap.size<wa.heap.size∧w.heap.size≠R) (hc:Ck u R vL p) (ho:u.ownsRow w.heap.size 47 2 v n xs) (A AN B BN:Int) (l:List Mk) (hne:v.ownBlock≠some w.heap.size) :
  Hx (five u w.heap.size A AN B BN v) w.heap.size ⟨A,AN,B,BN,l⟩ v∧(five u w.heap.size A AN B BN v).ownsRow w.heap.size 47 2 v n xs∧Ck (five u w.heap.size A AN B BN v) R vL p∧w.grownBy (five u w.heap.size A AN B BN v) (some R):=by
 obtain⟨h1,h2,h3⟩:=hZ
 have hb:u.heap[w.heap.size]?=some (hkO zhk (.slice none 0 0)):=(hg.block _ h2 (fun e=>h3 (Option.some.inj e))).trans h1
 have hn:some R≠some w.heap.size:=fun e=>h3 (Option.some.inj e).symm
 refine⟨?_,((((ho.kept (ZdS _ _ 0 _) (.inr hne)).kept (ZdS _ _ 1 _) (.inr hne)).kept (ZdS _ _ 2 _) (.inr hne)).kept (ZdS _ _ 3 _) (.inr hne)).kept (ZdS _ _ 4 _) (.inr hne),((((hc.keep (ZdS _ _ 0 _) hn).keep (ZdS _ _ 1 _) hn).keep (ZdS _ _ 2 _) hn).keep (ZdS _ _ 3 _) hn).keep (ZdS _ _ 4 _) hn,?_⟩
 ·have s0:=heap_setCell_same u w.heap.size 0 _ _ (.int .i64 A) hb
  have s1:=heap_setCell_same _ w.heap.size 1 _ _ (.int .i64 AN) s0
  have s2:=heap_setCell_same _ w.heap.size 2 _ _ (.int .i64 B) s1
  have s3:=heap_setCell_same _ w.heap.size 3 _ _ (.int .i64 BN) s2
  exact heap_setCell_same _ w.heap.size 4 _ _ v s3
 ·exact ZdR (ZdR (ZdR (ZdR (ZdR (hG _ hg) (Nat.le_refl _) 0 _) (Nat.le_refl _) 1 _) (Nat.le_refl _) 2 _) (Nat.le_refl _) 3 _) (Nat.le_refl _) 4 _
def outX (p p4:Nat) (r4:List (List UInt8)) (s:Bool) (Yr:Option (Int × Int)) (Yj:Option (List Mk)) (a1 a2:Int) (n1 n2:Nat):Except (Nat × Int) (Hk × Nat × List (List UInt8)) :=
 if s=true then .error (p+1,50) else match Yr with
 | some (a,z)=>.error (a.toNat,z)
 | none=>match Yj with
  | none=>.error (p+1,190)
  | some l=>.ok (⟨a1,n1,a2,n2,l⟩,p4,r4)
theorem Zcb {R:Nat} {L:List (List UInt8)} {lo:Option Addr} {lc:Nat} {p k:Nat} (hk:k≤4096) (w:World) (q:Ck w R (.slice lo L.length lc) p) (HL:Hid (∀ u,w.grownBy u (some R)→HS u (.slice lo L.length lc) L)) (HPl:Hid (Plain L)) (hp:p≤L.length) (hLl:L.length≤137438953472) (HSl:Hid (∀ s∈L,s.length≤1099511627776))
  (X:Except (Nat × Int) (Hk × Nat × List (List UInt8))) (HX:Hid (cxH k p (L.drop p)=X)) :
  Calls Tryz.prog 214 #[.pointer (some ⟨R,0,none⟩),.int .i64 (k:Int)] w fun e w'=>HkX R (.slice lo L.length lc) X w e w':=by
 have q1:Ck (w.alloc (hkO zhk (.slice none 0 0))) R (.slice lo L.length lc) p:=q.low ((Below.refl _ w).alloc (Nat.le_refl _) _)
 have hL1:=HL.out _ (World.grownBy_alloc w (hkO zhk (.slice none 0 0)) (some R))
 have HG:Hid (∀ u,(w.alloc (hkO zhk (.slice none 0 0))).grownBy u (some R)→w.grownBy u (some R)):=fun u hu=>ZdO _ hu
 have hRl:=q.lt
 have HX2:=HX.out
 rw[Zeg] at HX2
 obtain⟨Y,hY⟩:∃ Y,starsP k p (L.drop p)=Y:=⟨_,rfl⟩
 rw[hY] at HX2
 have hst:=Zcf hk (w.alloc (hkO zhk (.slice none 0 0))) q1 hL1 hp (by omega) HSl.out Y hY
 have hRl1:R<(w.alloc (hkO zhk (.slice none 0 0))).heap.size:=(by simp;omega)
 have HZ:Hid ((w.alloc (hkO zhk (.slice none 0 0))).heap[w.heap.size]?=some (hkO zhk (.slice none 0 0))∧w.heap.size<(w.alloc (hkO zhk (.slice none 0 0))).heap.size∧w.heap.size≠R):=⟨heap_alloc_new w _,by simp,by omega⟩
 have hW:w.alloc (.cells #[.int .i64 0,.int .i64 0,.int .i64 0,.int .i64 0,.slice none 0 0] 45)=w.alloc (hkO zhk (.slice none 0 0)):=rfl
 clear HX q q1 hL1
 generalize hwa:w.alloc (hkO zhk (.slice none 0 0))=wa at *
 clear hwa
 go_enter Tryz.func214,Tryz.ntmps214
 go_wp2_with fail
 refine hst.mono ?_
 clear hst hW
 cases Y with
 | error z =>
  obtain⟨a,z⟩:=z
  rintro e w1 ⟨⟨g,rfl,hg⟩,hgr⟩
  have hXe:X=.error (a,z):=HX2.symm
  subst hXe
  go_wp2
  exact⟨rfl,⟨_,rfl,hg⟩,HG.out _ hgr⟩
 | ok r =>
  rintro e w1 ⟨rfl,qk1,gr1⟩
  obtain⟨rfl,hpl⟩:=ZkC hY
  dsimp only at HX2
  obtain⟨Y1,hY1⟩:∃ Y,sidR 42 45 (p+1) (L.drop (p+1))=Y:=⟨_,rfl⟩
  rw[hY1] at HX2
  have hs1:=Zcd 42 45 w1 qk1 (fun u hu=>HL.out u (HG.out _ (ZdT gr1 hu))) HPl (by omega) (by omega) HSl _ (show Hid (sidX 42 45 (p+1) (L.drop (p+1))=mapR Y1) by rw[← hY1];exact Zkh (by decide) _ _)
  clear hY
  go_wp2_with fail
  refine hs1.mono ?_
  clear hs1
  cases Y1 with
  | error z =>
   obtain⟨a,z⟩:=z
   rintro e w2 ⟨⟨g,rfl,hg⟩,hgr⟩
   have hXe:X=.error (a,z):=HX2.symm
   subst hXe
   go_wp2
   exact⟨rfl,⟨_,rfl,hg⟩,HG.out _ (ZdT gr1 hgr)⟩
  | ok z =>
   obtain⟨⟨a1,b1⟩,o,p2,r2⟩:=z
   rintro e w2 ⟨v1,he,own1,nil1,qk2,gr2⟩
   obtain⟨x1,hx1⟩:∃ x,(((p+1:Nat):Int)+1)=x:=⟨_,rfl⟩
   rw[hx1] at he
   subst he
   have Hx1:Hid (((p+2:Nat):Int)=x1):=(by show _=_;rw[← hx1];omega)
   clear hx1
   obtain⟨rfl,hp2,hol,hpp,hb1⟩:=Zkg hY1
   dsimp only at HX2 hb1
   obtain⟨Y2,hY2⟩:∃ Y,sidR 45 43 p2 (L.drop p2)=Y:=⟨_,rfl⟩
   rw[hY2] at HX2
   have hR1:R<w1.heap.size:=Nat.lt_of_lt_of_le hRl1 gr1.size
   have gra:=ZdT gr1 gr2
   obtain⟨w3,hw3⟩:∃ u,w2.alloc (.cells #[.int .i64 x1,.int .i64 a1,.int .i64 b1,v1] 308)=u:=⟨_,rfl⟩
   have hB3:Below w2.heap.size w2 w3:=(by rw[← hw3];exact (Below.refl _ w2).alloc (Nat.le_refl _) _)
   have hbox1:w3.heap[w2.heap.size]?=some (.cells #[.int .i64 x1,.int .i64 a1,.int .i64 b1,v1] 308):=(by rw[← hw3];exact heap_alloc_new _ _)
   have qk3:=qk2.low hB3
   have own3:=ZhK own1 hB3
   have gr3:=ZdT gra (ZfO hB3 (some R))
   have hsz3:w2.heap.size<w3.heap.size:=(by rw[← hw3];simp)
   have hs2:=Zcd 45 43 w3 qk3 (fun u hu=>HL.out u (HG.out _ (ZdT gr3 hu))) HPl hp2 (by omega) HSl _ (show Hid (sidX 45 43 p2 (L.drop p2)=mapR Y2) by rw[← hY2];exact Zkh (by decide) _ _)
   obtain⟨v1o,v1c,rfl⟩:=(Zeo own1).form
   clear hY1 qk1 qk2 own1 qk3
   go_wp2_with fail
   refine hs2.mono ?_
   clear hs2 hw3
   cases Y2 with
   | error z =>
    obtain⟨a,z⟩:=z
    rintro e w4 ⟨⟨g,rfl,hg⟩,hgr⟩
    have hXe:X=.error (a,z):=HX2.symm
    subst hXe
    go_wp2
    exact⟨rfl,⟨_,rfl,hg⟩,HG.out _ (ZdT gr3 hgr)⟩
   | ok z =>
    obtain⟨⟨a2,b2⟩,vw,p4,r4⟩:=z
    rintro e w4 ⟨v2,he,own2,nil2,qk4,gr4⟩
    obtain⟨x2,hx2⟩:∃ x,((p2:Int)+1)=x:=⟨_,rfl⟩
    rw[hx2] at he
    subst he
    have Hx2:Hid (((p2+1:Nat):Int)=x2):=(by show _=_;rw[← hx2];omega)
    clear hx2
    obtain⟨rfl,hp4,hvl,hpp2,hb2⟩:=Zkg hY2
    dsimp only at HX2 hb2
    have hS12:w2.heap.size≠w4.heap.size:=(by have:=gr4.size;omega)
    have own4:=ZhI own3 gr4 hR1
    have hR2:R<w2.heap.size:=Nat.lt_of_lt_of_le hR1 gr2.size
    have hbox4:=(gr4.block w2.heap.size hsz3 (fun e=>by cases e;omega)).trans hbox1
    have gra4:=ZdT gr3 gr4
    obtain⟨w5,hw5⟩:∃ u,w4.alloc (.cells #[.int .i64 x2,.int .i64 a2,.int .i64 b2,v2] 308)=u:=⟨_,rfl⟩
    have hB5:Below w4.heap.size w4 w5:=(by rw[← hw5];exact (Below.refl _ w4).alloc (Nat.le_refl _) _)
    have hH:Hz wa R w2.heap.size w4.heap.size (.slice lo L.length lc) x1 a1 b1 (.slice v1o (kM o).length v1c) (kM o) x2 a2 b2 v2 (kM vw) p4 w5:=⟨ZdT gra4 (ZfO hB5 _),(hB5.block _ (Array.getElem?_eq_some_iff.1 hbox4).1).trans hbox4,(by rw[← hw5];exact heap_alloc_new _ _),Zeo (ZhK own4 hB5),Zeo (ZhK own2 hB5),qk4.low hB5,gra.size,gra4.size,hS12,hRl1⟩
    obtain⟨v2o,v2c,rfl⟩:=(Zeo own2).form
    clear own2 own3 own4 qk4 gr4 hbox4 hbox1 gra4 hB5 hY2 gr3 gr2 gr1 gra hB3 hsz3 hS12 hR1 hR2
    generalize w2.heap.size=S1 at hH ⊢
    go_upto_region 4 with fail
    clear hw5
    generalize w4.heap.size=S2 at hH ⊢
    obtain⟨c0,c1,c2,c3⟩:=hH.cells1
    obtain⟨d0,d1,d2,d3⟩:=hH.cells2
    have hf1:=hH.fr1
    have hkl:∀ x:Sde,(keptS x).length≤x.length:=fun x=>List.length_filter_le _ _
    by_cases ho0:o=[]
    ·have z1:(((kM o).length:Int) == 0)=true:=(by rw[Zfe.2 ho0];rfl)
     have HO0:Hid (o=[]):=ho0
     clear ho0
     have ck1:=ZbD (kM vw) (.slice v2o (kM vw).length v2c) w5 ⟨hH.n2,nil2⟩ (by rw[Zfd];omega) (kM (keptS vw)) (Zfk vw)
     go_wp2_with fail
     refine ck1.mono ?_
     rintro e wk ⟨vk,rfl,hk1,hk0,hBk⟩
     have HK0:Hid (kM vw=[]→vk=.slice none 0 0):=hk0
     have hHk0:=hH.keep hBk
     obtain⟨k0,k1,k2,k3⟩:=hHk0.cells1
     have kf:=hHk0.fr1
     have hH1:=hHk0.set1 hk1
     obtain⟨ko,kc,rfl⟩:=HMk.form hk1
     clear hH c0 c1 c2 c3 d0 d1 d2 d3 ck1 hk0 hk1 hf1
     obtain⟨O,hO0⟩:∃ O,keptS vw=O:=⟨_,rfl⟩
     have HO:Hid (oldF o vw=O):=(by show _=_;unfold oldF;rw[if_pos HO0.out];exact hO0)
     have hOl:O.length≤137438953472:=(by rw[← hO0];have:=hkl vw;omega)
     have HOk:Hid (keptS vw=O):=hO0
     rw[hO0] at hH1 HK0 ⊢
     clear hO0
     go_upto_region 6 with fail
     generalize wk.setCell ⟨S1,3,none⟩ (.slice ko (kM O).length kc)=u1 at hH1 ⊢
     obtain⟨c0,c1,c2,c3⟩:=hH1.cells1
     obtain⟨d0,d1,d2,d3⟩:=hH1.cells2
     clear k0 k1 k2 k3 kf hHk0
     by_cases hw0:vw=[]
     ·have z2:(((kM vw).length:Int) == 0)=true:=(by rw[Zfe.2 hw0];rfl)
      have HW0:Hid (vw=[]):=hw0
      have hkn:=HK0.out (Zfe.2 hw0)
      clear hw0
      have ck2:=ZbD (kM O) (.slice ko (kM O).length kc) u1 ⟨hH1.n1,fun _=>hkn⟩ (by rw[Zfd];omega) (kM (keptS O)) (Zfk _)
      clear hkn
      go_wp2_with fail
      refine ck2.mono ?_
      rintro e wl ⟨vl,rfl,hl1,_,hBl⟩
      have hHl0:=hH1.keep hBl
      obtain⟨k0,k1,k2,k3⟩:=hHl0.cells2
      have kf:=hHl0.fr2
      have hH2:=hHl0.set2 hl1
      obtain⟨lo1,lc1,rfl⟩:=HMk.form hl1
      clear hH1 c0 c1 c2 c3 d0 d1 d2 d3 ck2 hl1
      obtain⟨V,hV0⟩:∃ V,keptS O=V:=⟨_,rfl⟩
      have hV:newF o vw=V:=(by unfold newF;rw[if_neg (fun h=>h.1 HO0.out),← hV0,← HOk.out,HW0.out];rfl)
      have hVl:V.length≤137438953472:=(by rw[← hV0];have:=hkl O;omega)
      rw[hV0] at hH2 ⊢
      clear hV0
      have HV:Hid (newF o vw=V):=hV
      clear hV
      go_upto_region 8 with fail
      generalize wl.setCell ⟨S2,3,none⟩ (.slice lo1 (kM V).length lc1)=u2 at hH2 ⊢
      clear k0 k1 k2 k3 kf hHl0
      have hH:=hH2
      clear hH2
      have hO:=HO.out
      have hV:=HV.out
      clear HO HV
      have hFin:finH (p+1) (p+2) (p2+1) a1 (sayC (a1,b1)).2 a2 (sayC (a2,b2)).2 o vw=_:=Zdg (p+1) (p+2) (p2+1) (a1,b1) (a2,b2) hb1.2.1 hb2.2.1 o vw O V hO hV
      clear hO hV
      have hOl2:(kM O).length≤137438953472:=(by rw[Zfd];exact hOl)
      have hVl2:(kM V).length≤137438953472:=(by rw[Zfd];exact hVl)
      obtain⟨s1,hs1⟩:∃ r,allM 32 (kM O)=r:=⟨_,rfl⟩
      obtain⟨s2,hs2⟩:∃ r,allM 32 (kM V)=r:=⟨_,rfl⟩
      have hss:(sameS O && sameS V)=(s1 && s2):=(by rw[← hs1,← hs2,ZjO,ZjO])
      obtain⟨Yr,hYr⟩:∃ r,rgX (cntR a1 b1 (kM O).length) (cntR a2 b2 (kM V).length) (decide (a1=0) && decide (0<(kM O).length)) (decide (a2=0) && decide (0<(kM V).length)) x1 x2=r:=⟨_,rfl⟩
      obtain⟨Yj,hYj⟩:∃ r,jnX O V=r:=⟨_,rfl⟩
      rw[hss,Hx1.out,Hx2.out,hYr,hYj] at hFin
      have HXc:Hid (outX p p4 (L.drop p4) (s1 && s2) Yr Yj a1 a2 O.length V.length=X):=(by
       show _=_
       rw[← HX2]
       unfold finR outX
       dsimp only
       rw[hFin]
       cases s1 && s2 with
       | true=>rfl
       | false =>
        cases Yr with
        | some az=>rfl
        | none=>cases Yj<;>rfl)
      clear hFin HX2
      have ca1:=fun u (h:HMk u (.slice ko (kM O).length kc) (kM O))=>ZaZ 32 (kM O) _ u h (by omega) s1 hs1
      have ca2:=fun u (h:HMk u (.slice lo1 (kM V).length lc1) (kM V))=>ZaZ 32 (kM V) _ u h (by omega) s2 hs2
      have cr:=fun u=>Zbi x1 a1 b1 x2 a2 b2 ko lo1 (kM O).length kc (kM V).length lc1 u hb1.1 hb1.2.2 hb1.2.1 (by omega) hb2.1 hb2.2.2 hb2.2.1 (by omega) Yr hYr
      have cl:=fun u (h1:HMk u (.slice ko (kM O).length kc) (kM O)) (h2:HMk u (.slice lo1 (kM V).length lc1) (kM V))=>ZbE O V _ _ u h1 h2 hOl hVl Yj hYj
      have HYa:Hid (∀ a z,Yr=some (a,z)→((a.toNat:Nat):Int)=a):=(by
       intro a z hz
       have hge:=Zjq (hYr.trans hz)
       have:=Hx1.out
       have:=Hx2.out
       rcases hge with h | h<;>omega)
      clear hs1 hs2 hss hYr hYj
      obtain⟨c0,c1,c2,c3⟩:=hH.cells1
      obtain⟨d0,d1,d2,d3⟩:=hH.cells2
      go_upto_region 8 with fail
      go_cut [40] (fun cv wz=>cv=.bool (s1 && s2)∧Hz wa R S1 S2 (.slice lo L.length lc) x1 a1 b1 (.slice ko (kM O).length kc) (kM O) x2 a2 b2 (.slice lo1 (kM V).length lc1) (kM V) p4 wz)
      case first =>
       go_wp2_with fail
       refine (ca1 _ hH.n1).mono ?_
       rintro e wA ⟨rfl,hBA⟩
       have hHA:=hH.keep hBA
       clear hH c0 c1 c2 c3 d0 d1 d2 d3
       obtain⟨c0,c1,c2,c3⟩:=hHA.cells1
       obtain⟨d0,d1,d2,d3⟩:=hHA.cells2
       cases s1 with
       | false =>
        go_wp2
        go_meet
        case rel=>exact⟨rfl,hHA⟩
       | true =>
        go_wp2_with fail
        refine (ca2 _ hHA.n2).mono ?_
        rintro e wB ⟨rfl,hBB⟩
        have hHB:=hHA.keep hBB
        go_wp2
        go_meet
        case rel=>exact⟨rfl,hHB⟩
      case rest =>
      obtain⟨rfl,hHC⟩:=hcut
      clear hH c0 c1 c2 c3 d0 d1 d2 d3 ca1 ca2
      cases hsb:(s1 && s2) with
      | true =>
       have hXe:X=.error (p+1,50):=(by rw[← HXc.out,hsb];rfl)
       subst hXe
       clear hsb HXc
       go_wp2_with fail
       refine (Zcl _ 50 _).mono ?_
       rintro e wD ⟨⟨g,rfl,hg⟩,hBD⟩
       go_wp2
       exact⟨rfl,⟨_,rfl,by simpa using hg⟩,HG.out _ (ZdT hHC.gr (ZfO hBD _))⟩
      | false =>
       have HXd:Hid (outX p p4 (L.drop p4) false Yr Yj a1 a2 O.length V.length=X):=(by show _=_;rw[← HXc.out,hsb])
       clear hsb HXc
       obtain⟨c0,c1,c2,c3⟩:=hHC.cells1
       obtain⟨d0,d1,d2,d3⟩:=hHC.cells2
       cases Yr with
       | some az =>
        obtain⟨za,zz⟩:=az
        have hXe:X=.error (za.toNat,zz):=HXd.out.symm
        subst hXe
        have HZa:=HYa.out _ _ rfl
        have HZb:Hid (((za.toNat:Nat):Int)=za):=HZa
        clear HXd HYa HZa
        go_wp2_with fail
        refine (cr _).mono ?_
        rintro e wD ⟨hBD,g,rfl,hg⟩
        go_wp2
        exact⟨rfl,⟨_,rfl,by rw[HZb.out];exact hg⟩,HG.out _ (ZdT hHC.gr (ZfO hBD _))⟩
       | none =>
        go_wp2_with fail
        refine (cr _).mono ?_
        rintro e wD ⟨hBD,he⟩
        have he2:e=.returned (.tuple #[]):=he
        subst he2
        have hHD:=hHC.keep hBD
        clear hHC c0 c1 c2 c3 d0 d1 d2 d3 cr he
        obtain⟨c0,c1,c2,c3⟩:=hHD.cells1
        obtain⟨d0,d1,d2,d3⟩:=hHD.cells2
        go_wp2_with fail
        refine (cl _ hHD.n1 hHD.n2).mono ?_
        cases Yj with
        | none =>
         rintro e wE ⟨ve,re,rfl,hBE,rfl⟩
         have hXe:X=.error (p+1,190):=HXd.out.symm
         subst hXe
         clear HXd
         go_wp2_with fail
         refine (Zcl _ 190 _).mono ?_
         rintro e wF ⟨⟨g,rfl,hg⟩,hBF⟩
         go_wp2
         exact⟨rfl,⟨_,rfl,by simpa using hg⟩,HG.out _ (ZdT (hHD.keep hBE).gr (ZfO hBF _))⟩
        | some lj =>
         rintro e wE ⟨ve,re,rfl,hBE,rfl,hown⟩
         have hXe:X=.ok (⟨a1,O.length,a2,V.length,lj⟩,p4,L.drop p4):=HXd.out.symm
         subst hXe
         clear HXd c0 c1 c2 c3 d0 d1 d2 d3
         have hHE:=hHD.keep hBE
         obtain⟨eo,ec,rfl⟩:=(Zeo hown).form
         have hsz:wD.heap.size ≥ w.heap.size:=(HG.out _ hHD.gr).size
         obtain⟨c0,c1,c2,c3⟩:=hHE.cells1
         obtain⟨d0,d1,d2,d3⟩:=hHE.cells2
         obtain⟨y0,y1,y2,y3,y4,yf⟩:=Zdj hHE.gr HZ.out _ rfl
         have fin:=Zdk hHE.gr HG.out HZ.out hHE.ck (ZhC hown hsz) a1 ((kM O).length:Int) a2 ((kM V).length:Int) lj (by
          intro e
          have h1:=ZhJ hown e
          have h2:=hHD.gr.size
          have h3:=HZ.out.2.1
          omega)
         obtain⟨fh,fo,fq,fg⟩:=fin
         have yf0:=yf 0
         have yf1:=yf 1
         have yf2:=yf 2
         have yf3:=yf 3
         have yf4:=yf 4
         clear yf hHD hHE hown cl
         have HKl:Hid (((kM O).length:Int)=(O.length:Int)∧((kM V).length:Int)=(V.length:Int)):=⟨by rw[Zfd],by rw[Zfd]⟩
         go_wp2
         refine bodyPost_ret (v:=hkV ⟨a1,((kM O).length:Int),a2,((kM V).length:Int),lj⟩ (.slice eo lj.length ec)) (results_cell_row rfl _ _ w.heap.size 45 #[.int .i64 a1,.int .i64 ((kM O).length:Int),.int .i64 a2,.int .i64 ((kM V).length:Int),.slice eo lj.length ec] (0,0) _ rfl fh Tryz.underlying45 rfl (by kernel_rfl)) rfl ⟨_,by rw[HKl.out.1,HKl.out.2],fo,fq,fg⟩
     ·have z2:(((kM vw).length:Int) == 0)=false:=(by rw[beq_eq_false_iff_ne,Zfd];intro e;exact hw0 (List.eq_nil_of_length_eq_zero (by omega)))
      have HV:Hid (newF o vw=vw):=(by show _=_;unfold newF;rw[if_neg (fun h=>hw0 h.2)])
      clear hw0
      have hvl3:vw.length≤137438953472:=by omega
      go_upto_region 8 with fail
      have hH:=hH1
      clear hH1 c0 c1 c2 c3 d0 d1 d2 d3
      have hO:=HO.out
      have hV:=HV.out
      clear HO HV
      have hFin:finH (p+1) (p+2) (p2+1) a1 (sayC (a1,b1)).2 a2 (sayC (a2,b2)).2 o vw=_:=Zdg (p+1) (p+2) (p2+1) (a1,b1) (a2,b2) hb1.2.1 hb2.2.1 o vw O vw hO hV
      clear hO hV
      have hOl2:(kM O).length≤137438953472:=(by rw[Zfd];exact hOl)
      have hvl32:(kM vw).length≤137438953472:=(by rw[Zfd];exact hvl3)
      obtain⟨s1,hs1⟩:∃ r,allM 32 (kM O)=r:=⟨_,rfl⟩
      obtain⟨s2,hs2⟩:∃ r,allM 32 (kM vw)=r:=⟨_,rfl⟩
      have hss:(sameS O && sameS vw)=(s1 && s2):=(by rw[← hs1,← hs2,ZjO,ZjO])
      obtain⟨Yr,hYr⟩:∃ r,rgX (cntR a1 b1 (kM O).length) (cntR a2 b2 (kM vw).length) (decide (a1=0) && decide (0<(kM O).length)) (decide (a2=0) && decide (0<(kM vw).length)) x1 x2=r:=⟨_,rfl⟩
      obtain⟨Yj,hYj⟩:∃ r,jnX O vw=r:=⟨_,rfl⟩
      rw[hss,Hx1.out,Hx2.out,hYr,hYj] at hFin
      have HXc:Hid (outX p p4 (L.drop p4) (s1 && s2) Yr Yj a1 a2 O.length vw.length=X):=(by
       show _=_
       rw[← HX2]
       unfold finR outX
       dsimp only
       rw[hFin]
       cases s1 && s2 with
       | true=>rfl
       | false =>
        cases Yr with
        | some az=>rfl
        | none=>cases Yj<;>rfl)
      clear hFin HX2
      have ca1:=fun u (h:HMk u (.slice ko (kM O).length kc) (kM O))=>ZaZ 32 (kM O) _ u h (by omega) s1 hs1
      have ca2:=fun u (h:HMk u (.slice v2o (kM vw).length v2c) (kM vw))=>ZaZ 32 (kM vw) _ u h (by omega) s2 hs2
      have cr:=fun u=>Zbi x1 a1 b1 x2 a2 b2 ko v2o (kM O).length kc (kM vw).length v2c u hb1.1 hb1.2.2 hb1.2.1 (by omega) hb2.1 hb2.2.2 hb2.2.1 (by omega) Yr hYr
      have cl:=fun u (h1:HMk u (.slice ko (kM O).length kc) (kM O)) (h2:HMk u (.slice v2o (kM vw).length v2c) (kM vw))=>ZbE O vw _ _ u h1 h2 hOl hvl3 Yj hYj
      have HYa:Hid (∀ a z,Yr=some (a,z)→((a.toNat:Nat):Int)=a):=(by
       intro a z hz
       have hge:=Zjq (hYr.trans hz)
       have:=Hx1.out
       have:=Hx2.out
       rcases hge with h | h<;>omega)
      clear hs1 hs2 hss hYr hYj
      obtain⟨c0,c1,c2,c3⟩:=hH.cells1
      obtain⟨d0,d1,d2,d3⟩:=hH.cells2
      go_upto_region 8 with fail
      go_cut [40] (fun cv wz=>cv=.bool (s1 && s2)∧Hz wa R S1 S2 (.slice lo L.length lc) x1 a1 b1 (.slice ko (kM O).length kc) (kM O) x2 a2 b2 (.slice v2o (kM vw).length v2c) (kM vw) p4 wz)
      case first =>
       go_wp2_with fail
       refine (ca1 _ hH.n1).mono ?_
       rintro e wA ⟨rfl,hBA⟩
       have hHA:=hH.keep hBA
       clear hH c0 c1 c2 c3 d0 d1 d2 d3
       obtain⟨c0,c1,c2,c3⟩:=hHA.cells1
       obtain⟨d0,d1,d2,d3⟩:=hHA.cells2
       cases s1 with
       | false =>
        go_wp2
        go_meet
        case rel=>exact⟨rfl,hHA⟩
       | true =>
        go_wp2_with fail
        refine (ca2 _ hHA.n2).mono ?_
        rintro e wB ⟨rfl,hBB⟩
        have hHB:=hHA.keep hBB
        go_wp2
        go_meet
        case rel=>exact⟨rfl,hHB⟩
      case rest =>
      obtain⟨rfl,hHC⟩:=hcut
      clear hH c0 c1 c2 c3 d0 d1 d2 d3 ca1 ca2
      cases hsb:(s1 && s2) with
      | true =>
       have hXe:X=.error (p+1,50):=(by rw[← HXc.out,hsb];rfl)
       subst hXe
       clear hsb HXc
       go_wp2_with fail
       refine (Zcl _ 50 _).mono ?_
       rintro e wD ⟨⟨g,rfl,hg⟩,hBD⟩
       go_wp2
       exact⟨rfl,⟨_,rfl,by simpa using hg⟩,HG.out _ (ZdT hHC.gr (ZfO hBD _))⟩
      | false =>
       have HXd:Hid (outX p p4 (L.drop p4) false Yr Yj a1 a2 O.length vw.length=X):=(by show _=_;rw[← HXc.out,hsb])
       clear hsb HXc
       obtain⟨c0,c1,c2,c3⟩:=hHC.cells1
       obtain⟨d0,d1,d2,d3⟩:=hHC.cells2
       cases Yr with
       | some az =>
        obtain⟨za,zz⟩:=az
        have hXe:X=.error (za.toNat,zz):=HXd.out.symm
        subst hXe
        have HZa:=HYa.out _ _ rfl
        have HZb:Hid (((za.toNat:Nat):Int)=za):=HZa
        clear HXd HYa HZa
        go_wp2_with fail
        refine (cr _).mono ?_
        rintro e wD ⟨hBD,g,rfl,hg⟩
        go_wp2
        exact⟨rfl,⟨_,rfl,by rw[HZb.out];exact hg⟩,HG.out _ (ZdT hHC.gr (ZfO hBD _))⟩
       | none =>
        go_wp2_with fail
        refine (cr _).mono ?_
        rintro e wD ⟨hBD,he⟩
        have he2:e=.returned (.tuple #[]):=he
        subst he2
        have hHD:=hHC.keep hBD
        clear hHC c0 c1 c2 c3 d0 d1 d2 d3 cr he
        obtain⟨c0,c1,c2,c3⟩:=hHD.cells1
        obtain⟨d0,d1,d2,d3⟩:=hHD.cells2
        go_wp2_with fail
        refine (cl _ hHD.n1 hHD.n2).mono ?_
        cases Yj with
        | none =>
         rintro e wE ⟨ve,re,rfl,hBE,rfl⟩
         have hXe:X=.error (p+1,190):=HXd.out.symm
         subst hXe
         clear HXd
         go_wp2_with fail
         refine (Zcl _ 190 _).mono ?_
         rintro e wF ⟨⟨g,rfl,hg⟩,hBF⟩
         go_wp2
         exact⟨rfl,⟨_,rfl,by simpa using hg⟩,HG.out _ (ZdT (hHD.keep hBE).gr (ZfO hBF _))⟩
        | some lj =>
         rintro e wE ⟨ve,re,rfl,hBE,rfl,hown⟩
         have hXe:X=.ok (⟨a1,O.length,a2,vw.length,lj⟩,p4,L.drop p4):=HXd.out.symm
         subst hXe
         clear HXd c0 c1 c2 c3 d0 d1 d2 d3
         have hHE:=hHD.keep hBE
         obtain⟨eo,ec,rfl⟩:=(Zeo hown).form
         have hsz:wD.heap.size ≥ w.heap.size:=(HG.out _ hHD.gr).size
         obtain⟨c0,c1,c2,c3⟩:=hHE.cells1
         obtain⟨d0,d1,d2,d3⟩:=hHE.cells2
         obtain⟨y0,y1,y2,y3,y4,yf⟩:=Zdj hHE.gr HZ.out _ rfl
         have fin:=Zdk hHE.gr HG.out HZ.out hHE.ck (ZhC hown hsz) a1 ((kM O).length:Int) a2 ((kM vw).length:Int) lj (by
          intro e
          have h1:=ZhJ hown e
          have h2:=hHD.gr.size
          have h3:=HZ.out.2.1
          omega)
         obtain⟨fh,fo,fq,fg⟩:=fin
         have yf0:=yf 0
         have yf1:=yf 1
         have yf2:=yf 2
         have yf3:=yf 3
         have yf4:=yf 4
         clear yf hHD hHE hown cl
         have HKl:Hid (((kM O).length:Int)=(O.length:Int)∧((kM vw).length:Int)=(vw.length:Int)):=⟨by rw[Zfd],by rw[Zfd]⟩
         go_wp2
         refine bodyPost_ret (v:=hkV ⟨a1,((kM O).length:Int),a2,((kM vw).length:Int),lj⟩ (.slice eo lj.length ec)) (results_cell_row rfl _ _ w.heap.size 45 #[.int .i64 a1,.int .i64 ((kM O).length:Int),.int .i64 a2,.int .i64 ((kM vw).length:Int),.slice eo lj.length ec] (0,0) _ rfl fh Tryz.underlying45 rfl (by kernel_rfl)) rfl ⟨_,by rw[HKl.out.1,HKl.out.2],fo,fq,fg⟩
    ·have z1:(((kM o).length:Int) == 0)=false:=(by rw[beq_eq_false_iff_ne,Zfd];intro e;exact ho0 (List.eq_nil_of_length_eq_zero (by omega)))
     have HO0:Hid (o≠[]):=ho0
     have HO:Hid (oldF o vw=o):=(by show _=_;unfold oldF;rw[if_neg ho0])
     clear ho0
     go_upto_region 6 with fail
     by_cases hw0:vw=[]
     ·have z2:(((kM vw).length:Int) == 0)=true:=(by rw[Zfe.2 hw0];rfl)
      have HW0:Hid (vw=[]):=hw0
      clear hw0
      have ck2:=ZbD (kM o) (.slice v1o (kM o).length v1c) w5 ⟨hH.n1,nil1⟩ (by rw[Zfd];omega) (kM (keptS o)) (Zfk _)
      have hH1:=hH
      clear hH
      go_wp2_with fail
      refine ck2.mono ?_
      rintro e wl ⟨vl,rfl,hl1,_,hBl⟩
      have hHl0:=hH1.keep hBl
      obtain⟨k0,k1,k2,k3⟩:=hHl0.cells2
      have kf:=hHl0.fr2
      have hH2:=hHl0.set2 hl1
      obtain⟨lo1,lc1,rfl⟩:=HMk.form hl1
      clear hH1 c0 c1 c2 c3 d0 d1 d2 d3 ck2 hl1
      obtain⟨V,hV0⟩:∃ V,keptS o=V:=⟨_,rfl⟩
      have hV:newF o vw=V:=(by unfold newF;rw[if_pos ⟨HO0.out,HW0.out⟩];exact hV0)
      have hVl:V.length≤137438953472:=(by rw[← hV0];have:=hkl o;omega)
      rw[hV0] at hH2 ⊢
      clear hV0
      have HV:Hid (newF o vw=V):=hV
      clear hV
      go_upto_region 8 with fail
      generalize wl.setCell ⟨S2,3,none⟩ (.slice lo1 (kM V).length lc1)=u2 at hH2 ⊢
      clear k0 k1 k2 k3 kf hHl0
      have hH:=hH2
      have hol3:o.length≤137438953472:=by omega
      clear hH2
      have hO:=HO.out
      have hV:=HV.out
      clear HO HV
      have hFin:finH (p+1) (p+2) (p2+1) a1 (sayC (a1,b1)).2 a2 (sayC (a2,b2)).2 o vw=_:=Zdg (p+1) (p+2) (p2+1) (a1,b1) (a2,b2) hb1.2.1 hb2.2.1 o vw o V hO hV
      clear hO hV
      have hol32:(kM o).length≤137438953472:=(by rw[Zfd];exact hol3)
      have hVl2:(kM V).length≤137438953472:=(by rw[Zfd];exact hVl)
      obtain⟨s1,hs1⟩:∃ r,allM 32 (kM o)=r:=⟨_,rfl⟩
      obtain⟨s2,hs2⟩:∃ r,allM 32 (kM V)=r:=⟨_,rfl⟩
      have hss:(sameS o && sameS V)=(s1 && s2):=(by rw[← hs1,← hs2,ZjO,ZjO])
      obtain⟨Yr,hYr⟩:∃ r,rgX (cntR a1 b1 (kM o).length) (cntR a2 b2 (kM V).length) (decide (a1=0) && decide (0<(kM o).length)) (decide (a2=0) && decide (0<(kM V).length)) x1 x2=r:=⟨_,rfl⟩
      obtain⟨Yj,hYj⟩:∃ r,jnX o V=r:=⟨_,rfl⟩
      rw[hss,Hx1.out,Hx2.out,hYr,hYj] at hFin
      have HXc:Hid (outX p p4 (L.drop p4) (s1 && s2) Yr Yj a1 a2 o.length V.length=X):=(by
       show _=_
       rw[← HX2]
       unfold finR outX
       dsimp only
       rw[hFin]
       cases s1 && s2 with
       | true=>rfl
       | false =>
        cases Yr with
        | some az=>rfl
        | none=>cases Yj<;>rfl)
      clear hFin HX2
      have ca1:=fun u (h:HMk u (.slice v1o (kM o).length v1c) (kM o))=>ZaZ 32 (kM o) _ u h (by omega) s1 hs1
      have ca2:=fun u (h:HMk u (.slice lo1 (kM V).length lc1) (kM V))=>ZaZ 32 (kM V) _ u h (by omega) s2 hs2
      have cr:=fun u=>Zbi x1 a1 b1 x2 a2 b2 v1o lo1 (kM o).length v1c (kM V).length lc1 u hb1.1 hb1.2.2 hb1.2.1 (by omega) hb2.1 hb2.2.2 hb2.2.1 (by omega) Yr hYr
      have cl:=fun u (h1:HMk u (.slice v1o (kM o).length v1c) (kM o)) (h2:HMk u (.slice lo1 (kM V).length lc1) (kM V))=>ZbE o V _ _ u h1 h2 hol3 hVl Yj hYj
      have HYa:Hid (∀ a z,Yr=some (a,z)→((a.toNat:Nat):Int)=a):=(by
       intro a z hz
       have hge:=Zjq (hYr.trans hz)
       have:=Hx1.out
       have:=Hx2.out
       rcases hge with h | h<;>omega)
      clear hs1 hs2 hss hYr hYj
      obtain⟨c0,c1,c2,c3⟩:=hH.cells1
      obtain⟨d0,d1,d2,d3⟩:=hH.cells2
      go_upto_region 8 with fail
      go_cut [40] (fun cv wz=>cv=.bool (s1 && s2)∧Hz wa R S1 S2 (.slice lo L.length lc) x1 a1 b1 (.slice v1o (kM o).length v1c) (kM o) x2 a2 b2 (.slice lo1 (kM V).length lc1) (kM V) p4 wz)
      case first =>
       go_wp2_with fail
       refine (ca1 _ hH.n1).mono ?_
       rintro e wA ⟨rfl,hBA⟩
       have hHA:=hH.keep hBA
       clear hH c0 c1 c2 c3 d0 d1 d2 d3
       obtain⟨c0,c1,c2,c3⟩:=hHA.cells1
       obtain⟨d0,d1,d2,d3⟩:=hHA.cells2
       cases s1 with
       | false =>
        go_wp2
        go_meet
        case rel=>exact⟨rfl,hHA⟩
       | true =>
        go_wp2_with fail
        refine (ca2 _ hHA.n2).mono ?_
        rintro e wB ⟨rfl,hBB⟩
        have hHB:=hHA.keep hBB
        go_wp2
        go_meet
        case rel=>exact⟨rfl,hHB⟩
      case rest =>
      obtain⟨rfl,hHC⟩:=hcut
      clear hH c0 c1 c2 c3 d0 d1 d2 d3 ca1 ca2
      cases hsb:(s1 && s2) with
      | true =>
       have hXe:X=.error (p+1,50):=(by rw[← HXc.out,hsb];rfl)
       subst hXe
       clear hsb HXc
       go_wp2_with fail
       refine (Zcl _ 50 _).mono ?_
       rintro e wD ⟨⟨g,rfl,hg⟩,hBD⟩
       go_wp2
       exact⟨rfl,⟨_,rfl,by simpa using hg⟩,HG.out _ (ZdT hHC.gr (ZfO hBD _))⟩
      | false =>
       have HXd:Hid (outX p p4 (L.drop p4) false Yr Yj a1 a2 o.length V.length=X):=(by show _=_;rw[← HXc.out,hsb])
       clear hsb HXc
       obtain⟨c0,c1,c2,c3⟩:=hHC.cells1
       obtain⟨d0,d1,d2,d3⟩:=hHC.cells2
       cases Yr with
       | some az =>
        obtain⟨za,zz⟩:=az
        have hXe:X=.error (za.toNat,zz):=HXd.out.symm
        subst hXe
        have HZa:=HYa.out _ _ rfl
        have HZb:Hid (((za.toNat:Nat):Int)=za):=HZa
        clear HXd HYa HZa
        go_wp2_with fail
        refine (cr _).mono ?_
        rintro e wD ⟨hBD,g,rfl,hg⟩
        go_wp2
        exact⟨rfl,⟨_,rfl,by rw[HZb.out];exact hg⟩,HG.out _ (ZdT hHC.gr (ZfO hBD _))⟩
       | none =>
        go_wp2_with fail
        refine (cr _).mono ?_
        rintro e wD ⟨hBD,he⟩
        have he2:e=.returned (.tuple #[]):=he
        subst he2
        have hHD:=hHC.keep hBD
        clear hHC c0 c1 c2 c3 d0 d1 d2 d3 cr he
        obtain⟨c0,c1,c2,c3⟩:=hHD.cells1
        obtain⟨d0,d1,d2,d3⟩:=hHD.cells2
        go_wp2_with fail
        refine (cl _ hHD.n1 hHD.n2).mono ?_
        cases Yj with
        | none =>
         rintro e wE ⟨ve,re,rfl,hBE,rfl⟩
         have hXe:X=.error (p+1,190):=HXd.out.symm
         subst hXe
         clear HXd
         go_wp2_with fail
         refine (Zcl _ 190 _).mono ?_
         rintro e wF ⟨⟨g,rfl,hg⟩,hBF⟩
         go_wp2
         exact⟨rfl,⟨_,rfl,by simpa using hg⟩,HG.out _ (ZdT (hHD.keep hBE).gr (ZfO hBF _))⟩
        | some lj =>
         rintro e wE ⟨ve,re,rfl,hBE,rfl,hown⟩
         have hXe:X=.ok (⟨a1,o.length,a2,V.length,lj⟩,p4,L.drop p4):=HXd.out.symm
         subst hXe
         clear HXd c0 c1 c2 c3 d0 d1 d2 d3
         have hHE:=hHD.keep hBE
         obtain⟨eo,ec,rfl⟩:=(Zeo hown).form
         have hsz:wD.heap.size ≥ w.heap.size:=(HG.out _ hHD.gr).size
         obtain⟨c0,c1,c2,c3⟩:=hHE.cells1
         obtain⟨d0,d1,d2,d3⟩:=hHE.cells2
         obtain⟨y0,y1,y2,y3,y4,yf⟩:=Zdj hHE.gr HZ.out _ rfl
         have fin:=Zdk hHE.gr HG.out HZ.out hHE.ck (ZhC hown hsz) a1 ((kM o).length:Int) a2 ((kM V).length:Int) lj (by
          intro e
          have h1:=ZhJ hown e
          have h2:=hHD.gr.size
          have h3:=HZ.out.2.1
          omega)
         obtain⟨fh,fo,fq,fg⟩:=fin
         have yf0:=yf 0
         have yf1:=yf 1
         have yf2:=yf 2
         have yf3:=yf 3
         have yf4:=yf 4
         clear yf hHD hHE hown cl
         have HKl:Hid (((kM o).length:Int)=(o.length:Int)∧((kM V).length:Int)=(V.length:Int)):=⟨by rw[Zfd],by rw[Zfd]⟩
         go_wp2
         refine bodyPost_ret (v:=hkV ⟨a1,((kM o).length:Int),a2,((kM V).length:Int),lj⟩ (.slice eo lj.length ec)) (results_cell_row rfl _ _ w.heap.size 45 #[.int .i64 a1,.int .i64 ((kM o).length:Int),.int .i64 a2,.int .i64 ((kM V).length:Int),.slice eo lj.length ec] (0,0) _ rfl fh Tryz.underlying45 rfl (by kernel_rfl)) rfl ⟨_,by rw[HKl.out.1,HKl.out.2],fo,fq,fg⟩
     ·have z2:(((kM vw).length:Int) == 0)=false:=(by rw[beq_eq_false_iff_ne,Zfd];intro e;exact hw0 (List.eq_nil_of_length_eq_zero (by omega)))
      have HV:Hid (newF o vw=vw):=(by show _=_;unfold newF;rw[if_neg (fun h=>hw0 h.2)])
      clear hw0
      have hol3:o.length≤137438953472:=by omega
      have hvl3:vw.length≤137438953472:=by omega
      go_upto_region 8 with fail
      clear c0 c1 c2 c3 d0 d1 d2 d3
      have hO:=HO.out
      have hV:=HV.out
      clear HO HV
      have hFin:finH (p+1) (p+2) (p2+1) a1 (sayC (a1,b1)).2 a2 (sayC (a2,b2)).2 o vw=_:=Zdg (p+1) (p+2) (p2+1) (a1,b1) (a2,b2) hb1.2.1 hb2.2.1 o vw o vw hO hV
      clear hO hV
      have hol32:(kM o).length≤137438953472:=(by rw[Zfd];exact hol3)
      have hvl32:(kM vw).length≤137438953472:=(by rw[Zfd];exact hvl3)
      obtain⟨s1,hs1⟩:∃ r,allM 32 (kM o)=r:=⟨_,rfl⟩
      obtain⟨s2,hs2⟩:∃ r,allM 32 (kM vw)=r:=⟨_,rfl⟩
      have hss:(sameS o && sameS vw)=(s1 && s2):=(by rw[← hs1,← hs2,ZjO,ZjO])
      obtain⟨Yr,hYr⟩:∃ r,rgX (cntR a1 b1 (kM o).length) (cntR a2 b2 (kM vw).length) (decide (a1=0) && decide (0<(kM o).length)) (decide (a2=0) && decide (0<(kM vw).length)) x1 x2=r:=⟨_,rfl⟩
      obtain⟨Yj,hYj⟩:∃ r,jnX o vw=r:=⟨_,rfl⟩
      rw[hss,Hx1.out,Hx2.out,hYr,hYj] at hFin
      have HXc:Hid (outX p p4 (L.drop p4) (s1 && s2) Yr Yj a1 a2 o.length vw.length=X):=(by
       show _=_
       rw[← HX2]
       unfold finR outX
       dsimp only
       rw[hFin]
       cases s1 && s2 with
       | true=>rfl
       | false =>
        cases Yr with
        | some az=>rfl
        | none=>cases Yj<;>rfl)
      clear hFin HX2
      have ca1:=fun u (h:HMk u (.slice v1o (kM o).length v1c) (kM o))=>ZaZ 32 (kM o) _ u h (by omega) s1 hs1
      have ca2:=fun u (h:HMk u (.slice v2o (kM vw).length v2c) (kM vw))=>ZaZ 32 (kM vw) _ u h (by omega) s2 hs2
      have cr:=fun u=>Zbi x1 a1 b1 x2 a2 b2 v1o v2o (kM o).length v1c (kM vw).length v2c u hb1.1 hb1.2.2 hb1.2.1 (by omega) hb2.1 hb2.2.2 hb2.2.1 (by omega) Yr hYr
      have cl:=fun u (h1:HMk u (.slice v1o (kM o).length v1c) (kM o)) (h2:HMk u (.slice v2o (kM vw).length v2c) (kM vw))=>ZbE o vw _ _ u h1 h2 hol3 hvl3 Yj hYj
      have HYa:Hid (∀ a z,Yr=some (a,z)→((a.toNat:Nat):Int)=a):=(by
       intro a z hz
       have hge:=Zjq (hYr.trans hz)
       have:=Hx1.out
       have:=Hx2.out
       rcases hge with h | h<;>omega)
      clear hs1 hs2 hss hYr hYj
      obtain⟨c0,c1,c2,c3⟩:=hH.cells1
      obtain⟨d0,d1,d2,d3⟩:=hH.cells2
      go_upto_region 8 with fail
      go_cut [40] (fun cv wz=>cv=.bool (s1 && s2)∧Hz wa R S1 S2 (.slice lo L.length lc) x1 a1 b1 (.slice v1o (kM o).length v1c) (kM o) x2 a2 b2 (.slice v2o (kM vw).length v2c) (kM vw) p4 wz)
      case first =>
       go_wp2_with fail
       refine (ca1 _ hH.n1).mono ?_
       rintro e wA ⟨rfl,hBA⟩
       have hHA:=hH.keep hBA
       clear hH c0 c1 c2 c3 d0 d1 d2 d3
       obtain⟨c0,c1,c2,c3⟩:=hHA.cells1
       obtain⟨d0,d1,d2,d3⟩:=hHA.cells2
       cases s1 with
       | false =>
        go_wp2
        go_meet
        case rel=>exact⟨rfl,hHA⟩
       | true =>
        go_wp2_with fail
        refine (ca2 _ hHA.n2).mono ?_
        rintro e wB ⟨rfl,hBB⟩
        have hHB:=hHA.keep hBB
        go_wp2
        go_meet
        case rel=>exact⟨rfl,hHB⟩
      case rest =>
      obtain⟨rfl,hHC⟩:=hcut
      clear hH c0 c1 c2 c3 d0 d1 d2 d3 ca1 ca2
      cases hsb:(s1 && s2) with
      | true =>
       have hXe:X=.error (p+1,50):=(by rw[← HXc.out,hsb];rfl)
       subst hXe
       clear hsb HXc
       go_wp2_with fail
       refine (Zcl _ 50 _).mono ?_
       rintro e wD ⟨⟨g,rfl,hg⟩,hBD⟩
       go_wp2
       exact⟨rfl,⟨_,rfl,by simpa using hg⟩,HG.out _ (ZdT hHC.gr (ZfO hBD _))⟩
      | false =>
       have HXd:Hid (outX p p4 (L.drop p4) false Yr Yj a1 a2 o.length vw.length=X):=(by show _=_;rw[← HXc.out,hsb])
       clear hsb HXc
       obtain⟨c0,c1,c2,c3⟩:=hHC.cells1
       obtain⟨d0,d1,d2,d3⟩:=hHC.cells2
       cases Yr with
       | some az =>
        obtain⟨za,zz⟩:=az
        have hXe:X=.error (za.toNat,zz):=HXd.out.symm
        subst hXe
        have HZa:=HYa.out _ _ rfl
        have HZb:Hid (((za.toNat:Nat):Int)=za):=HZa
        clear HXd HYa HZa
        go_wp2_with fail
        refine (cr _).mono ?_
        rintro e wD ⟨hBD,g,rfl,hg⟩
        go_wp2
        exact⟨rfl,⟨_,rfl,by rw[HZb.out];exact hg⟩,HG.out _ (ZdT hHC.gr (ZfO hBD _))⟩
       | none =>
        go_wp2_with fail
        refine (cr _).mono ?_
        rintro e wD ⟨hBD,he⟩
        have he2:e=.returned (.tuple #[]):=he
        subst he2
        have hHD:=hHC.keep hBD
        clear hHC c0 c1 c2 c3 d0 d1 d2 d3 cr he
        obtain⟨c0,c1,c2,c3⟩:=hHD.cells1
        obtain⟨d0,d1,d2,d3⟩:=hHD.cells2
        go_wp2_with fail
        refine (cl _ hHD.n1 hHD.n2).mono ?_
        cases Yj with
        | none =>
         rintro e wE ⟨ve,re,rfl,hBE,rfl⟩
         have hXe:X=.error (p+1,190):=HXd.out.symm
         subst hXe
         clear HXd
         go_wp2_with fail
         refine (Zcl _ 190 _).mono ?_
         rintro e wF ⟨⟨g,rfl,hg⟩,hBF⟩
         go_wp2
         exact⟨rfl,⟨_,rfl,by simpa using hg⟩,HG.out _ (ZdT (hHD.keep hBE).gr (ZfO hBF _))⟩
        | some lj =>
         rintro e wE ⟨ve,re,rfl,hBE,rfl,hown⟩
         have hXe:X=.ok (⟨a1,o.length,a2,vw.length,lj⟩,p4,L.drop p4):=HXd.out.symm
         subst hXe
         clear HXd c0 c1 c2 c3 d0 d1 d2 d3
         have hHE:=hHD.keep hBE
         obtain⟨eo,ec,rfl⟩:=(Zeo hown).form
         have hsz:wD.heap.size ≥ w.heap.size:=(HG.out _ hHD.gr).size
         obtain⟨c0,c1,c2,c3⟩:=hHE.cells1
         obtain⟨d0,d1,d2,d3⟩:=hHE.cells2
         obtain⟨y0,y1,y2,y3,y4,yf⟩:=Zdj hHE.gr HZ.out _ rfl
         have fin:=Zdk hHE.gr HG.out HZ.out hHE.ck (ZhC hown hsz) a1 ((kM o).length:Int) a2 ((kM vw).length:Int) lj (by
          intro e
          have h1:=ZhJ hown e
          have h2:=hHD.gr.size
          have h3:=HZ.out.2.1
          omega)
         obtain⟨fh,fo,fq,fg⟩:=fin
         have yf0:=yf 0
         have yf1:=yf 1
         have yf2:=yf 2
         have yf3:=yf 3
         have yf4:=yf 4
         clear yf hHD hHE hown cl
         have HKl:Hid (((kM o).length:Int)=(o.length:Int)∧((kM vw).length:Int)=(vw.length:Int)):=⟨by rw[Zfd],by rw[Zfd]⟩
         go_wp2
         refine bodyPost_ret (v:=hkV ⟨a1,((kM o).length:Int),a2,((kM vw).length:Int),lj⟩ (.slice eo lj.length ec)) (results_cell_row rfl _ _ w.heap.size 45 #[.int .i64 a1,.int .i64 ((kM o).length:Int),.int .i64 a2,.int .i64 ((kM vw).length:Int),.slice eo lj.length ec] (0,0) _ rfl fh Tryz.underlying45 rfl (by kernel_rfl)) rfl ⟨_,by rw[HKl.out.1,HKl.out.2],fo,fq,fg⟩
end

section
open Go.RowKit Go.Proofs.YtcniomgjikienaaGreatDoor.Tx
attribute [local go_sem] Zhc
structure L2 (w:World) (h:Hk) (v:Value) (u:World):Prop where
 low:Below w.heap.size w u
 bh:Hx u w.heap.size h v
 br:Hx u (w.heap.size+1) ⟨0,0,0,0,[]⟩ (.slice none 0 0)
section
variable {w u u':World} {h:Hk} {v:Value}
theorem L2.keep (q:L2 w h v u) (hb:Below u.heap.size u u'):L2 w h v u':=⟨q.low.trans (hb.mono q.low.size),q.bh.low hb,q.br.low hb⟩
theorem L2.setB (q:L2 w h v u) (z:Int):L2 w ⟨h.A,h.AN,z,h.BN,h.ls⟩ v (u.setCell ⟨w.heap.size,2,none⟩ (.int .i64 z)) :=
 ⟨q.low.setCell (p:=⟨w.heap.size,2,none⟩) (Nat.le_refl _) _,heap_setCell_same u w.heap.size 2 _ _ _ q.bh,(Below.heap_setCell _ _ _ _ (by show w.heap.size+1≠w.heap.size;omega)).trans q.br⟩
theorem L2.setA (q:L2 w h v u) (z:Int):L2 w ⟨z,h.AN,h.B,h.BN,h.ls⟩ v (u.setCell ⟨w.heap.size,0,none⟩ (.int .i64 z)) :=
 ⟨q.low.setCell (p:=⟨w.heap.size,0,none⟩) (Nat.le_refl _) _,heap_setCell_same u w.heap.size 0 _ _ _ q.bh,(Below.heap_setCell _ _ _ _ (by show w.heap.size+1≠w.heap.size;omega)).trans q.br⟩
theorem L2.fin (q:L2 w h v u):(five u (w.heap.size+1) h.A h.AN h.B h.BN v).heap[w.heap.size+1]?=some (.cells #[.int .i64 h.A,.int .i64 h.AN,.int .i64 h.B,.int .i64 h.BN,v] 45 (0,0))∧Below w.heap.size w (five u (w.heap.size+1) h.A h.AN h.B h.BN v) :=
 ⟨q.br.put5 _ _ _ _ _,ZiK q.low (by omega) _ _ _ _ _⟩
theorem L2.new (w:World) (h:Hk) (v:Value):L2 w h v ((w.alloc (hkO h v)).alloc (hkO ⟨0,0,0,0,[]⟩ (.slice none 0 0))):=by
 have hz:(w.alloc (hkO h v)).heap.size=w.heap.size+1:=by simp
 refine⟨((Below.refl _ w).alloc (Nat.le_refl _) _).alloc (by rw[hz];omega) _,(Below.heap_alloc _ _ _ (by rw[hz];omega)).trans (Hx.new w _ _),?_⟩
 have:=Hx.new (w.alloc (hkO h v)) ⟨0,0,0,0,[]⟩ (.slice none 0 0)
 rw[hz] at this
 exact this
end
end

section
def Inn (u p q:Int) (c:Ch):Prop:=u≤c.A∧0≤c.AN∧c.A+c.AN≤p∧u≤c.B∧0≤c.BN∧c.B+c.BN≤q
theorem Inn.le {u p q p' q':Int} {c:Ch} (h:Inn u p q c) (hp:p≤p') (hq:q≤q'):Inn u p' q' c:=by
 obtain⟨h1,h2,h3,h4,h5,h6⟩:=h
 exact⟨h1,h2,by omega,h4,h5,by omega⟩
end

section
open Q Go.RowKit Go.Proofs.YtcniomgjikienaaGreatDoor.Tx
attribute [local go_sem] ZaB Zea
end

section
open Go.RowKit Go.Proofs.YtcniomgjikienaaGreatDoor.Tx
end

section
open Ln Go.RowKit
end

section
open Go.RowKit Go.Proofs.YtcniomgjikienaaGreatDoor.Tx
theorem Hx.wr {B b:Nat} {v v':Value} {w w':World} {M:Nat} {h:Hk} {y:Value} (q:Hx w M h y) (hw:Wr B b v v' w w') (ho:Off M b v):Hx w' M h y∧Off M b v':=hw.block q ho
end

section
open Go.RowKit Go.Proofs.YtcniomgjikienaaGreatDoor.Tx
def ptV (p:Pth) (v:Value):Value:=.agg #[.string ⟨p.old.toArray⟩,.string ⟨p.new.toArray⟩,v]
def ptO (p:Pth) (v:Value):Obj:=.cells #[.string ⟨p.old.toArray⟩,.string ⟨p.new.toArray⟩,v] 42
def Px (u:World) (b:Nat) (p:Pth) (v:Value):Prop:=u.heap[b]?=some (ptO p v)
theorem Px.cells {u:World} {b:Nat} {p:Pth} {v:Value} (q:Px u b p v):u.cell? ⟨b,0,none⟩=some (.string ⟨p.old.toArray⟩)∧u.cell? ⟨b,1,none⟩=some (.string ⟨p.new.toArray⟩)∧u.cell? ⟨b,2,none⟩=some v:=by
 unfold Px ptO at q
 refine⟨?_,?_,?_⟩<;>rw[Lib.cell_of_heap q]<;>rfl
theorem Px.lt {u:World} {b:Nat} {p:Pth} {v:Value} (q:Px u b p v):b<u.heap.size:=(Array.getElem?_eq_some_iff.1 q).1
theorem Px.low {u u':World} {b:Nat} {p:Pth} {v:Value} (q:Px u b p v) (hg:Below u.heap.size u u'):Px u' b p v:=(hg.block b q.lt).trans q
theorem Px.wr {B b:Nat} {v v':Value} {w w':World} {M:Nat} {p:Pth} {y:Value} (q:Px w M p y) (hw:Wr B b v v' w w') (ho:Off M b v):Px w' M p y∧Off M b v':=hw.block q ho
end

section
open Go.RowKit Go.Proofs.YtcniomgjikienaaGreatDoor.Tx
attribute [local go_sem] Zhc
end

section
open Ln
end

section
open Go.RowKit
end

section
open Go.RowKit
end

section
open Go.RowKit
end

section
open Go.RowKit Go.Proofs.YtcniomgjikienaaGreatDoor.Tx
attribute [local go_sem] Zhc
end

end Go.Proofs.YtcniomgjikienaaGreatDoor
