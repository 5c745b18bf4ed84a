/-
  Texts that belong together, joined: NpW, PgU, PrC, PrB, PrD, NpI, NoCm, NpD, NpJ, NpK, NpL.
-/
import Derived.Test.YtcniomgjikienaaGreatDoorVkA12
import Derived.Deep.CutBlock
import Derived.Defers
import Derived.Recover

set_option maxHeartbeats 16000000
set_option maxRecDepth 100000
namespace Go.Proofs.YtcniomgjikienaaGreatDoor

section
open Go.RowKit
def ErrT (w:World):Prop:=w.cell? ⟨0,0,none⟩=some (.iface 157 (.agg #[.pointer (some ⟨7,24,none⟩)]))
theorem ErrT.lt {w:World} (h:ErrT w):0<w.heap.size:=World.block_lt_of_cell? w _ h
theorem ErrT.low {w u:World} {N:Nat} (h:ErrT w) (hb:Below N w u) (hN:w.heap.size≤N):ErrT u:=(World.cell?_of_block (w:=w) (hb.block _ (Nat.lt_of_lt_of_le h.lt hN))).trans h
theorem ZdN {w u:World} {r:Option Nat} (h:w.grownBy u r) (o:Obj):w.grownBy (u.alloc o) r:=ZdT h (World.grownBy_alloc u o r)
theorem Zav (g b:Nat) (old:Value) (w:World) (hE:ErrT w) (hb:w.heap[b]?=some (.cells #[old] 62)) :
  Calls Tryz.prog 28 #[.iface 62 (.pointer (some ⟨g,0,none⟩)),.iface 75 (.pointer (some ⟨b,0,none⟩))] w fun e w'=>e=.returned (.bool true)∧w'.heap[b]?=some (.cells #[.pointer (some ⟨g,0,none⟩)] 62)∧w.grownBy w' (some b):=by
 refine (Es.Ef.as_hit ⟨g,0,none⟩ ⟨b,0,none⟩ old w hE (by rw[Lib.cell_of_heap hb];rfl) (Lib.frozen_of_heap hb 0)).mono ?_
 rintro e w' ⟨rfl,rfl⟩
 have hl:=(Array.getElem?_eq_some_iff.1 hb).1
 refine⟨rfl,?_,ZdT (ZdN (ZdN (ZdN (World.grownBy_alloc w _ _) _) _) _) (ZdS _ b 0 _)⟩
 refine (heap_setCell_same _ b 0 #[old] _ _ ?_).trans rfl
 rw[Lib.alloc_old _ _ _ (by simp;omega),Lib.alloc_old _ _ _ (by simp;omega),Lib.alloc_old _ _ _ (by simp;omega),Lib.alloc_old _ _ _ hl]
 exact hb
theorem Zmv (z:Int) (b:Nat) (old:Value) (w:World) (hE:ErrT w) (hb:w.heap[b]?=some (.cells #[old] 27)) :
  Calls Tryz.prog 28 #[.iface 27 (.int .i64 z),.iface 80 (.pointer (some ⟨b,0,none⟩))] w fun e w'=>e=.returned (.bool true)∧w'.heap[b]?=some (.cells #[.int .i64 z] 27)∧w.grownBy w' (some b):=by
 refine (Es.En.as_hit z ⟨b,0,none⟩ old w hE (by rw[Lib.cell_of_heap hb];rfl) (Lib.frozen_of_heap hb 0)).mono ?_
 rintro e w' ⟨rfl,rfl⟩
 have hl:=(Array.getElem?_eq_some_iff.1 hb).1
 refine⟨rfl,?_,ZdT (ZdN (ZdN (ZdN (World.grownBy_alloc w _ _) _) _) _) (ZdS _ b 0 _)⟩
 refine (heap_setCell_same _ b 0 #[old] _ _ ?_).trans rfl
 rw[Lib.alloc_old _ _ _ (by simp;omega),Lib.alloc_old _ _ _ (by simp;omega),Lib.alloc_old _ _ _ (by simp;omega),Lib.alloc_old _ _ _ hl]
 exact hb
def fvO (a z:Int):Obj:=.cells #[.int .i64 a,.int .i64 z] 29
theorem Zrm (w:World):Calls Tryz.prog 10 #[.nilIface] w fun e w'=>e=.returned (.agg #[.int .i64 0,.int .i64 0])∧Below w.heap.size w w':=by
 have hb:Below w.heap.size w (w.alloc (fvO 0 0)):=(Below.refl _ w).alloc (Nat.le_refl _) _
 have ha:=heap_alloc_new w (fvO 0 0)
 unfold fvO at hb ha
 go_enter Tryz.func10,Tryz.ntmps10
 go_wp2
 exact bodyPost_ret (v:=.agg #[.int .i64 0,.int .i64 0]) (results_cell_row rfl _ _ w.heap.size 29 #[.int .i64 0,.int .i64 0] (0,0) _ rfl (by first | exact ha | (simp[ha];done)) Tryz.underlying29 rfl (by kernel_rfl)) rfl ⟨rfl,hb⟩
theorem Zrl (g:Nat) (a z:Int) (w:World) (hE:ErrT w) (hg:w.heap[g]?=some (fltO a z)):Calls Tryz.prog 10 #[.iface 62 (.pointer (some ⟨g,0,none⟩))] w fun e w'=>e=.returned (.agg #[.int .i64 a,.int .i64 z])∧Below w.heap.size w w':=by
 have hgl:=(Array.getElem?_eq_some_iff.1 hg).1
 have z1:(w.alloc (fvO 0 0)).heap.size=w.heap.size+1:=by simp
 have z2:((w.alloc (fvO 0 0)).alloc (.cells #[.pointer none] 62)).heap.size=w.heap.size+1+1:=by simp
 have a0:=heap_alloc_new w (fvO 0 0)
 have a1:=heap_alloc_new (w.alloc (fvO 0 0)) (.cells #[.pointer none] 62)
 have a2:=heap_alloc_new ((w.alloc (fvO 0 0)).alloc (.cells #[.pointer none] 62)) (.cells #[.int .i64 0] 27)
 rw[z1] at a1
 rw[z2] at a2
 have hb1:Below w.heap.size w (w.alloc (fvO 0 0)):=(Below.refl _ w).alloc (Nat.le_refl _) _
 have hb2:=hb1.alloc hb1.size (.cells #[.pointer none] 62)
 have hb3:=hb2.alloc hb2.size (.cells #[.int .i64 0] 27)
 have e1:=(Lib.alloc_old _ (.cells #[.int .i64 0] 27) _ (by rw[z2];omega)).trans a1
 have e0:=(Lib.alloc_old _ (.cells #[.int .i64 0] 27) _ (by rw[z2];omega)).trans ((Lib.alloc_old _ (.cells #[.pointer none] 62) _ (by rw[z1];omega)).trans a0)
 have hg3:=(hb3.block g hgl).trans hg
 have hE3:=hE.low hb3 (Nat.le_refl _)
 have hW:((w.alloc (.cells #[.int .i64 0,.int .i64 0] 29)).alloc (.cells #[.pointer none] 62)).alloc (.cells #[.int .i64 0] 27)=((w.alloc (fvO 0 0)).alloc (.cells #[.pointer none] 62)).alloc (.cells #[.int .i64 0] 27):=rfl
 have hEl:0<w.heap.size:=hE.lt
 clear hb1 hb2 a0 a1 z1 z2 hE hg
 go_enter Tryz.func10,Tryz.ntmps10
 go_wp2_with fail
 clear hW
 generalize ((w.alloc (fvO 0 0)).alloc (.cells #[.pointer none] 62)).alloc (.cells #[.int .i64 0] 27)=W at *
 refine (Zav g (w.heap.size+1) (.pointer none) W hE3 e1).mono ?_
 rintro e W1 ⟨rfl,e1',hgr⟩
 have kp:∀ (k:Nat) (x:Obj),k≠w.heap.size+1→W.heap[k]?=some x→W1.heap[k]?=some x:=fun k x hk hx=>(hgr.block k (Array.getElem?_eq_some_iff.1 hx).1 (fun e=>hk (Option.some.inj e))).trans hx
 have i0:=kp _ _ (by omega) e0
 have i2:=kp _ _ (by omega) a2
 have ig:=kp _ _ (by omega) hg3
 have hb4:=hb3.grown hgr hb3.size (fun k e=>by cases e;omega)
 have hE4:ErrT W1:=(World.cell?_of_block (w:=W) (hgr.block _ hE3.lt (fun e=>by have h1:0=w.heap.size+1:=Option.some.inj e;omega))).trans hE3
 have c1:W1.cell? ⟨w.heap.size+1,0,none⟩=some (.pointer (some ⟨g,0,none⟩)):=by rw[Lib.cell_of_heap e1'];rfl
 have cg1:W1.cell? ⟨g,1,none⟩=some (.iface 27 (.int .i64 z)):=by unfold fltO at ig;rw[Lib.cell_of_heap ig];rfl
 clear kp e0 e1 a2 hg3 hb3 hE3 hgr
 go_wp2_with fail
 clear c1 cg1
 refine (Zmv z (w.heap.size+1+1) (.int .i64 0) W1 hE4 i2).mono ?_
 rintro e W2 ⟨rfl,i2',hgr⟩
 have kp:∀ (k:Nat) (x:Obj),k≠w.heap.size+1+1→W1.heap[k]?=some x→W2.heap[k]?=some x:=fun k x hk hx=>(hgr.block k (Array.getElem?_eq_some_iff.1 hx).1 (fun e=>hk (Option.some.inj e))).trans hx
 have j0:=kp _ _ (by omega) i0
 have j1:=kp _ _ (by omega) e1'
 have jg:=kp _ _ (by omega) ig
 have hb5:=hb4.grown hgr hb4.size (fun k e=>by cases e;omega)
 have s0:=heap_setCell_same W2 w.heap.size 0 _ _ (.int .i64 a) j0
 have s1:=heap_setCell_same _ w.heap.size 1 _ _ (.int .i64 z) s0
 have hb6:Below w.heap.size w ((W2.setCell ⟨w.heap.size,0,none⟩ (.int .i64 a)).setCell ⟨w.heap.size,1,none⟩ (.int .i64 z)):=(hb5.setCell (Nat.le_refl _) _).setCell (Nat.le_refl _) _
 have c1:W2.cell? ⟨w.heap.size+1,0,none⟩=some (.pointer (some ⟨g,0,none⟩)):=by rw[Lib.cell_of_heap j1];rfl
 have c2:W2.cell? ⟨w.heap.size+1+1,0,none⟩=some (.int .i64 z):=by rw[Lib.cell_of_heap i2'];rfl
 have cg0:W2.cell? ⟨g,0,none⟩=some (.int .i64 a):=by unfold fltO at jg;rw[Lib.cell_of_heap jg];rfl
 have t0:W2.cell? ⟨w.heap.size,0,none⟩=some (.int .i64 0):=by unfold fvO at j0;rw[Lib.cell_of_heap j0];rfl
 have t1:W2.cell? ⟨w.heap.size,1,none⟩=some (.int .i64 0):=by unfold fvO at j0;rw[Lib.cell_of_heap j0];rfl
 have t2:=Lib.frozen_of_heap j0 0
 have t3:=Lib.frozen_of_heap j0 1
 clear kp i0 e1' ig hb4 hE4 i2 i2' hgr j0 j1 jg hb5 s0
 go_wp2_with fail
 go_region
 have s2:((W2.setCell ⟨w.heap.size,0,none⟩ (.int .i64 a)).setCell ⟨w.heap.size,1,none⟩ (.int .i64 z)).drew.heap[w.heap.size]?=some (.cells #[.int .i64 a,.int .i64 z] 29):=s1
 have hb7:=hb6.drew
 clear s1 hb6 c1 c2 cg0 t0 t1 t2 t3
 generalize ((W2.setCell ⟨w.heap.size,0,none⟩ (.int .i64 a)).setCell ⟨w.heap.size,1,none⟩ (.int .i64 z)).drew=W3 at *
 go_wp2
 exact bodyPost_ret (v:=.agg #[.int .i64 a,.int .i64 z]) (results_cell_row rfl _ _ w.heap.size 29 #[.int .i64 a,.int .i64 z] (0,0) _ rfl s2 Tryz.underlying29 rfl (by kernel_rfl)) rfl ⟨rfl,hb7⟩
end

section
open Go.RowKit
open Ln
def okP (X:Except (Nat × Int) (List Pth)):List Pth:=match X with
 | .error _=>[]
 | .ok l=>l
end

section
open Go.RowKit
open Ln
end

section
open Go.RowKit Go.Proofs.YtcniomgjikienaaGreatDoor.Tx
attribute [local go_sem] ByteArray.extract_mk Zhc
end

section
open Go.RowKit
open Ln
end

section
open Go.RowKit
attribute [local go_sem] ByteArray.extract_mk Zhc
def Fd (m:List Mk):Prop:=∀ x∈m,fdB x.tx=true∧x.tx.length≤1099511627776
theorem ZjW {sg:List UInt8} {S:Int} {n p:Nat} {ls:List (List UInt8)} {e:Nat × Int} (h:rdL sg S n p ls=.error e):sdC sg S n p ls=.error e:=by
 unfold sdC
 rw[h]
theorem Zhe {B R:Nat} {L:List (List UInt8)} {lo:Option Addr} {lc:Nat} {p:Nat} (w:World) (q:Ry w R (.slice lo L.length lc) p) (HL:Hid (∀ u,Fr B R w u→HS u (.slice lo L.length lc) L)) (HPl:Hid (Plain L)) (hp:p≤L.length) (hLl:L.length≤2199023255552) (HSl:Hid (∀ s∈L,s.length≤1099511627776))
  (hB:B≤w.heap.size) (hRB:R<B) (sg:List UInt8) (HSG:Hid (∀ c∈sg,c≠10)) (S:Int) (n:Nat) (hn:n≤2147483647) (v:Value) (m0:List Mk) (hm0:m0.length≤1099511627776) (hv:w.ownsRow B 47 2 v m0.length (mkcells m0))
  (X:Except (Nat × Int) (List Mk × Nat × List (List UInt8))) (HX:Hid (sdC sg S n p (L.drop p)=X)) :
  Calls Tryz.prog 319 #[.pointer (some ⟨R,0,none⟩),v,.int .i64 (n:Int),.string ⟨sg.toArray⟩,.int .u8 S] w fun x w'=>SdQ B R (.slice lo L.length lc) m0 X w x w':=by
 obtain⟨vo,vc,rfl⟩:=(Zeo hv).form
 obtain⟨Y,hY⟩:∃ Y,rdL sg S n p (L.drop p)=Y:=⟨_,rfl⟩
 have HY:Hid (thenL [] (rdL sg S (n-0) p (L.drop p))=Y):=(by show _=_;rw[ZkM];exact hY)
 have HXE:Hid (∀ e,Y=.error e→X=.error e):=(by
  intro e he
  rw[← HX.out]
  exact ZjW (hY.trans he))
 have HXO:Hid (∀ l p1 r,Y=.ok (l,p1,r)→X=if (decide (0<n) && endK l r)=true then .ok (cutL l,p1+1,r.tail) else .ok (l,p1,r)):=(by
  intro l p1 r he
  rw[← HX.out]
  unfold sdC
  rw[hY.trans he])
 have hv0:w.ownsRow B 47 2 (.slice vo m0.length vc) m0.length (mkcells (m0++[])):=(by rw[List.append_nil];exact hv)
 have HF0:Hid (Fd []∧([]:List Mk).length=0∧(m0++[]).length=m0.length):=⟨(fun x hx=>by cases hx),rfl,by rw[List.append_nil]⟩
 clear hY HX hv
 go_enter Tryz.func319,Tryz.ntmps319
 go_wp2
 go_loopw [1,14] (fun mv i wr=>∃ (k:Nat) (m:List Mk) (p' N:Nat),k≤n∧i=.int .i64 (k:Int)∧N≤1099511627776+k∧(∃ o c,mv=.slice o N c)∧wr.ownsRow B 47 2 mv N (mkcells (m0++m))∧Ry wr R (.slice lo L.length lc) (p':Int)∧Fr B R w wr∧p'≤L.length∧Hid (Fd m∧m.length=k∧(m0++m).length=N)∧Hid (thenL m (rdL sg S (n-k) p' (L.drop p'))=Y)) (fun _ i _=>n-(intOf i).toNat)
 case atStart=>exact⟨0,[],p,m0.length,Nat.zero_le _,by go_num,by omega,⟨vo,vc,rfl⟩,hv0,q,Fr.refl _ _ _,hp,HF0,HY⟩
 case round =>
 obtain⟨k,m,p1,N,hk,rfl,hNk,⟨o,c,rfl⟩,hown,q1,hF,hp1,HF,HI⟩:=hrel
 have hsz:=hF.size
 have hLr:=HL.out wr hF
 by_cases hlt:k<n
 ·obtain⟨Z,hZ⟩:∃ Z,nxt p1 (L.drop p1)=Z:=⟨_,rfl⟩
  have hl:=ZgX wr q1 hLr hp1 hLl HSl.out Z hZ
  have hnk:n-k=(n-(k+1))+1:=by omega
  cases Z with
  | error z =>
   obtain⟨a,e⟩:=z
   have hXe:X=.error (a,e):=(by
    apply HXE.out
    rw[← HI.out,hnk]
    unfold thenL rdL
    rw[hZ])
   subst hXe
   have HDone:Hid (∀ u,wr.grownBy u (some R)→Fr B R w u):=fun u hu=>hF.trans (Fr.of hu (Nat.le_trans hB hsz))
   clear HXE HXO HI hZ hown hnk
   go_wp2_with fail
   refine hl.mono ?_
   rintro x w1 ⟨⟨g,rfl,hg⟩,hgr⟩
   go_wp2
   exact⟨rfl,⟨_,rfl,hg⟩,HDone.out _ hgr⟩
  | ok z =>
   obtain⟨s,r⟩:=z
   obtain⟨hr,hpl,_,hLp⟩:=Zhr hZ
   have hsl:=HSl.out L[p1] (List.getElem_mem hpl)
   rw[hLp,List.length_append] at hsl
   have hst:=Zjb (sg:=sg) (S:=S) (n:=n-(k+1)) hZ m
   rw[← hnk,HI.out] at hst
   obtain⟨T,hT⟩:∃ T,s++[10]=T:=⟨_,rfl⟩
   obtain⟨U,hU⟩:∃ U,s.drop sg.length++[10]=U:=⟨_,rfl⟩
   have hUl:U.length≤1099511627776:=(by rw[← hU,List.length_append,List.length_drop];simp only[List.length_cons,List.length_nil] at hsl ⊢;omega)
   have hUf:fdB U=true:=(by rw[← hU];exact Zdf _)
   have hl2:Calls Tryz.prog 317 #[.pointer (some ⟨R,0,none⟩)] wr fun x w'=>x=.returned (.string ⟨T.toArray⟩)∧∃ n,w'=wr.drewN n:=(by
    refine hl.mono ?_
    rintro x w' ⟨h1,h2⟩
    rw[hT] at h1
    exact⟨h1,h2⟩)
   have hc:=fun u=>Tryz.strings_CutPrefix ⟨T.toArray⟩ ⟨sg.toArray⟩ u
   have hpf:Lib.hasPrefix (⟨T.toArray⟩:ByteArray).data.toList (⟨sg.toArray⟩:ByteArray).data.toList=sg.isPrefixOf s:=(by
    show Lib.hasPrefix T sg=_
    rw[← hT]
    exact ZiE HSG.out)
   rw[hpf] at hc
   by_cases hpre:sg.isPrefixOf s=true
   ·rw[if_pos hpre,hU,hr] at hst
    have htr:Lib.trimPrefix (⟨T.toArray⟩:ByteArray).data.toList (⟨sg.toArray⟩:ByteArray).data.toList=U:=(by
     show Lib.trimPrefix T sg=_
     rw[← hT,← hU]
     exact ZkU HSG.out hpre)
    rw[htr,hpre] at hc
    have HI2:Hid (thenL (m++[⟨S,U⟩]) (rdL sg S (n-(k+1)) (p1+1) (L.drop (p1+1)))=Y):=hst.symm
    have HF2:Hid (Fd (m++[⟨S,U⟩])∧(m++[(⟨S,U⟩:Mk)]).length=k+1∧(m0++(m++[(⟨S,U⟩:Mk)])).length=N+1):=⟨(by
     intro x hx
     rcases List.mem_append.1 hx with hx | hx
     ·exact HF.out.1 x hx
     ·rw[List.mem_singleton.1 hx]
      exact⟨hUf,hUl⟩),(by have:=HF.out.2.1;simp[this]),(by have:=HF.out.2.2;rw[← List.append_assoc,List.length_append,this];rfl)⟩
    clear hst hpf htr hpre hZ hl hLp hsl hUf hr HI HXE HXO hT hU HF hnk
    go_wp2_with fail
    refine hl2.mono ?_
    rintro x w1 ⟨rfl,nn,rfl⟩
    have q2:=q1.dN nn
    have hown2:(wr.drewN nn).ownsRow B 47 2 (.slice o N c) N (mkcells (m0++m)):=hown
    have hF2:Fr B R w (wr.drewN nn):=hF.trans ⟨rfl,rfl,rfl,Nat.le_refl _,fun _ _ _=>rfl⟩
    clear q1 hown hF hLr hl2
    generalize wr.drewN nn=W1 at q2 hown2 hF2 ⊢
    go_wp2_with fail
    refine (hc W1).mono ?_
    rintro x w2 ⟨rfl,rfl⟩
    have hsz2:=hF2.size
    have hrow:=Zgj w2 ⟨S,U⟩
    have hownA:=hown2.alloc (mkO ⟨S,U⟩)
    have qA:Ry (w2.alloc (mkO ⟨S,U⟩)) R (.slice lo L.length lc) (p1:Int):=q2.low ((Below.refl _ w2).alloc (Nat.le_refl _) _)
    have hFA:Fr B R w (w2.alloc (mkO ⟨S,U⟩)):=hF2.trans (Fr.of (World.grownBy_alloc w2 _ _) (Nat.le_trans hB hsz2))
    have HS2:Hid ((w2.alloc (mkO ⟨S,U⟩)).heap.size=w2.heap.size+1):=(by show _=_;simp)
    have hW:w2.alloc (Obj.cells #[Value.int IntKind.u8 S,Value.string ⟨U.toArray⟩] 47)=w2.alloc (mkO ⟨S,U⟩):=rfl
    have hxk:N+1≤2199023255552:=by omega
    clear hown2 q2 hF2 hc
    go_wp2_with (at_builtin;refine Zmi _ (by kernel_rfl) (.tmp 27) (.tmp 31) 43 47 (.agg #[.int .u8 0,.string ⟨#[]⟩]) 2 24 rfl Tryz.underlying43 infoMk rfl (by decide) (by decide) B _ _ _ rfl hownA _ 1 (mkcells [⟨S,U⟩]) rfl hrow (Zgo _) (Zgp _) hxk (by have:=HS2.out;omega) ?_)
    intro v3 u3 hown3 hg3 _
    rw[← Zgl,List.append_assoc] at hown3
    have hne3:(some R:Option Nat)≠(Value.slice o N c).ownBlock:=(by
     intro e
     have:=ZhJ hownA e.symm
     omega)
    have q3:=qA.keep hg3 hne3
    have hF3:=hFA.trans (Fr.own (R:=R) hg3 (by have:=HS2.out;omega) (fun j hj=>ZhJ hownA hj))
    obtain⟨o3,c3,rfl⟩:=(Zeo hown3).form
    obtain⟨d0,d1⟩:=q3.cells
    have f1:=q3.frozen 1
    have q4:=q3.at ((p1:Int)+1)
    have hg4:=ZdS u3 R 1 (.int .i64 ((p1:Int)+1))
    have hown4:=ZhI hown3 hg4 hRB
    have hsz3:=hF3.size
    have hF4:=hF3.trans (Fr.of hg4 (Nat.le_trans hB hsz3))
    clear hW hg3 hownA hown3 hrow qA hFA q3 hF3 hg4 HS2
    go_wp2
    refine⟨⟨k+1,m++[⟨S,U⟩],p1+1,N+1,by omega,by go_num,by omega,⟨o3,c3,rfl⟩,hown4,by simpa using q4,hF4,by omega,HF2,HI2⟩,by simp[intOf];omega⟩
   ·have hXe:X=.error (p1+1,3):=(by
     apply HXE.out
     rw[hst,if_neg hpre])
    have hpr2:sg.isPrefixOf s=false:=Bool.eq_false_iff.2 hpre
    rw[hpr2] at hc
    subst hXe
    have HDone:Hid (∀ u,wr.grownBy u (some R)→Fr B R w u):=fun u hu=>hF.trans (Fr.of hu (Nat.le_trans hB hsz))
    have q2:=fun nn=>q1.dN nn
    clear HXE HXO HI hZ hown hnk hst hpf hpre hpr2 hl hLp hsl hr hT hU
    generalize Lib.trimPrefix (⟨T.toArray⟩:ByteArray).data.toList (⟨sg.toArray⟩:ByteArray).data.toList=U2 at hc
    go_wp2_with fail
    refine hl2.mono ?_
    rintro x w1 ⟨rfl,nn,rfl⟩
    go_wp2_with fail
    refine (hc _).mono ?_
    rintro x w2 ⟨rfl,rfl⟩
    go_wp2_with fail
    refine (Zhi 3 _ (q2 nn) (by omega)).mono ?_
    rintro e w3 ⟨⟨g,rfl,hg⟩,hgr⟩
    go_wp2
    exact⟨rfl,⟨_,rfl,by simpa using hg⟩,HDone.out _ (ZdT (ZdP (ZfO (Below.refl wr.heap.size wr) (some R)) nn) hgr)⟩
 ·have hkn:k=n:=by omega
  subst hkn
  have hYv:Y=.ok (m,p1,L.drop p1):=(by
   rw[← HI.out,Nat.sub_self]
   simp[thenL,rdL])
  have hXv:=HXO.out m p1 (L.drop p1) hYv
  have hend:decide ((k:Int)<(k:Int))=false:=decide_eq_false (by omega)
  clear HXE HXO HI hYv HL
  by_cases h0:0<k
  ·have h0d:decide (0<k)=true:=decide_eq_true h0
   rw[h0d,Bool.true_and] at hXv
   obtain⟨m1,mk,hmm⟩:∃ m1 mk,m=m1++[mk]:=(by
    have hne:m≠[]:=(by
     rintro rfl
     have:=HF.out.2.1
     simp at this
     omega)
    exact⟨m.dropLast,m.getLast hne,(List.dropLast_concat_getLast hne).symm⟩)
   subst hmm
   have hfd:=HF.out.1 mk (by simp)
   obtain⟨N1,hN1⟩:∃ N1,(m0++m1).length=N1:=⟨_,rfl⟩
   have hNN:N=N1+1:=(by have:=HF.out.2.2;rw[← this,← hN1];simp;omega)
   subst hNN
   have hown':=hown
   rw[← hN1,← List.append_assoc] at hown'
   obtain⟨g,cap,hvv,hBg,hgs,d1,df,hset⟩:=ZhL hown'
   rw[hN1] at d1 df hset hvv
   injection hvv with hv1 hv2 hv3
   subst hv1 hv3
   have hgR:R≠g:=by omega
   unfold endK at hXv
   rw[Zfs,Zco] at hXv
   have HNn:Hid (∀ x:Mk,(m0++(m1++[x])).length=N1+1):=(by intro x;rw[← hN1];simp;omega)
   clear hown' hN1 HF
   have j0:(0:Int)<(k:Int):=by omega
   have j1:(0:Int)≤(N1:Int):=by omega
   have j2:(N1:Int)<(N1:Int)+1:=by omega
   have j3:(N1:Int)+1-1=(N1:Int):=by omega
   have j4:IntKind.i64.wrap (N1:Int)=(N1:Int):=Zmm (by omega) (by omega)
   cases hb:(mk.tx != [10] && pkM (L.drop p1)) with
   | false =>
    rw[hb,if_neg (by decide)] at hXv
    subst hXv
    have he:=ZgP (g:=g) (o:=N1 * 2) wr q1 hLr HPl.out hp1 hLl mk.tx d1 hb
    clear hb hset df hfd
    go_wp2_with fail
    refine he.mono ?_
    rintro x w1 ⟨rfl,nn,rfl⟩
    go_wp2
    go_ret
    exact⟨_,rfl,by rw[HNn.out];exact hown,q1,hF.trans ⟨rfl,rfl,rfl,Nat.le_refl _,fun _ _ _=>rfl⟩⟩
   | true =>
    rw[hb,if_pos rfl] at hXv
    subst hXv
    have HTt:Hid (mk.tx=mk.tx.dropLast++[10]):=Zdd hfd.1
    have he:=ZgQ (g:=g) (o:=N1 * 2) wr q1 hLr HPl.out hLl hgR mk.tx mk.tx.dropLast HTt hfd.2 d1 df hb
    have hs2:=fun nn=>hset (wr.drewN nn) mk.tx.dropLast rfl
    clear hb hset df hfd
    go_wp2_with fail
    refine he.mono ?_
    rintro x w1 ⟨rfl,nn,rfl⟩
    have hg1:=ZdS (wr.drewN nn) g (N1 * 2+1) (.string ⟨mk.tx.dropLast.toArray⟩)
    have q2:=((q1.dN nn).keep hg1 (fun e=>hgR (Option.some.inj e))).at ((p1:Int)+1)
    have hg2:=ZdS ((wr.drewN nn).setCell ⟨g,N1 * 2+1,none⟩ (.string ⟨mk.tx.dropLast.toArray⟩)) R 1 (.int .i64 ((p1:Int)+1))
    have hown2:=ZhI (hs2 nn) hg2 hRB
    have hF1:Fr B R w (wr.drewN nn):=hF.trans ⟨rfl,rfl,rfl,Nat.le_refl _,fun _ _ _=>rfl⟩
    have hF2:=hF1.trans (Fr.own (R:=R) hg1 (Nat.le_trans hB hsz) (fun j hj=>by cases hj;exact hBg))
    have hF3:=hF2.trans (Fr.of hg2 (Nat.le_trans hB hF2.size))
    go_wp2
    go_ret
    refine⟨_,rfl,?_,by simpa using q2,hF3⟩
    rw[HNn.out,← List.append_assoc]
    exact hown2
  ·have h0d:decide (0<k)=false:=decide_eq_false h0
   rw[h0d,Bool.false_and,if_neg (by decide)] at hXv
   subst hXv
   have j0:¬ (0:Int)<(k:Int):=by omega
   go_wp2
   go_ret
   exact⟨_,rfl,by rw[HF.out.2.2];exact hown,q1,hF⟩
end

section
open Go.RowKit
attribute [local go_sem] ByteArray.extract_mk Zhc
theorem LnsP.out {s:List UInt8} {x:Ending} (h:LnsP s x):∃ A N b,x=.returned (.tuple #[.int .i64 A,.int .i64 N,.bool b])∧lnsP s=if b=true then some (A,N) else none:=by
 unfold LnsP at h
 cases hl:lnsP s with
 | none =>
  rw[hl] at h
  obtain⟨A,N,rfl⟩:=h
  exact⟨A,N,false,rfl,rfl⟩
 | some z =>
  obtain⟨A,N⟩:=z
  rw[hl] at h
  exact⟨A,N,true,h,rfl⟩
def CmdP (s:List UInt8) (x:Ending):Prop :=
 match cmdP s with
 | some (A,AN,B,BN)=>x=.returned (.tuple #[hkV ⟨A,AN,B,BN,[]⟩ (.slice none 0 0),.bool true])
 | none=>∃ A AN B BN,x=.returned (.tuple #[hkV ⟨A,AN,B,BN,[]⟩ (.slice none 0 0),.bool false])
theorem CmdP.off {s:List UInt8} (h:∀ j (hj:j<s.length),isC s[j]=false):CmdP s (.returned (.tuple #[hkV ⟨0,0,0,0,[]⟩ (.slice none 0 0),.bool false])):=by
 unfold CmdP cmdP
 rw[Zkr s h]
 exact⟨0,0,0,0,rfl⟩
section
variable {u:World} {b:Nat} {h:Hk} {v:Value}
theorem Hx.putH5 (q:Hx u b h v) (A AN B BN:Int) (l:List Mk) (z:Value):Hx (((((u.setCell ⟨b,0,none⟩ (.int .i64 A)).setCell ⟨b,1,none⟩ (.int .i64 AN)).setCell ⟨b,2,none⟩ (.int .i64 B)).setCell ⟨b,3,none⟩ (.int .i64 BN)).setCell ⟨b,4,none⟩ z) b ⟨A,AN,B,BN,l⟩ z:=by
 have s1:=heap_setCell_same u b 0 _ _ (.int .i64 A) q
 have s2:=heap_setCell_same _ b 1 _ _ (.int .i64 AN) s1
 have s3:=heap_setCell_same _ b 2 _ _ (.int .i64 B) s2
 have s4:=heap_setCell_same _ b 3 _ _ (.int .i64 BN) s3
 exact heap_setCell_same _ b 4 _ _ z s4
theorem Hx.off (q:Hx u b h v) {c j:Nat} (hc:b≠c) (z:Value):Hx (u.setCell ⟨c,j,none⟩ z) b h v:=(Below.heap_setCell _ _ _ b hc).trans q
end
theorem ZbG {w u:World} (h:Below w.heap.size w u) (z0 z1 z2 z3 z4:Value):Below w.heap.size w (((((u.setCell ⟨w.heap.size,0,none⟩ z0).setCell ⟨w.heap.size,1,none⟩ z1).setCell ⟨w.heap.size,2,none⟩ z2).setCell ⟨w.heap.size,3,none⟩ z3).setCell ⟨w.heap.size,4,none⟩ z4) :=
 ((((h.setCell (Nat.le_refl _) _).setCell (Nat.le_refl _) _).setCell (Nat.le_refl _) _).setCell (Nat.le_refl _) _).setCell (Nat.le_refl _) _
theorem CmdP.mk {s:List UInt8} {k:Nat} {c:UInt8} (hk:k<s.length) (hc:s[k]=c) (h1:isC c=true) (h2:∀ j (hj:j<k),isC (s[j]'(by omega))=false) {x y:List UInt8} (hx:s.take k=x) (hy:s.drop (k+1)=y)
  {A AN B BN:Int} {b1 b2 b:Bool} (hA:(if c=97 then oneP x else lnsP x)=if b1=true then some (A,AN) else none) (hB:(if c=100 then oneP y else lnsP y)=if b2=true then some (B,BN) else none) (hb:(b1 && b2)=b) :
  CmdP s (.returned (.tuple #[hkV ⟨A,AN,B,BN,[]⟩ (.slice none 0 0),.bool b])):=by
 unfold CmdP cmdP
 rw[Zkq s k hk (by rw[hc];exact h1) h2]
 dsimp only
 rw[hx,hy,hc,hA,hB]
 cases b1<;>cases b2<;>cases hb
 ·exact⟨_,_,_,_,rfl⟩
 ·exact⟨_,_,_,_,rfl⟩
 ·exact⟨_,_,_,_,rfl⟩
 ·rfl
end

section
open Go.RowKit
attribute [local go_sem] ByteArray.extract_mk Zhc
theorem ZfN {W u:World} (h:Low W u):Low W u.drew:=Below.drew h
theorem ZcX {u:World} {s x:List UInt8} {k:Nat} (hk:k≤s.length) (hx:s.take k=x) {op:Oper} (p q:Operand) (ho:op.op=.slice 9 p none (some q) none) {ev:Operand→Value} (h1:ev p=.string ⟨s.toArray⟩) (h2:ev q=.int .i64 (k:Int)) :
  (execOp ev op).run Tryz.prog u=.ok (.value (.string ⟨x.toArray⟩)) u:=by
 have i1:(0:Int)≤(k:Int):=by omega
 have i2:(k:Int)≤(s.length:Int):=by omega
 subst hx
 simp only[execOp,ho,h1,h2,Option.map]
 go_simp
theorem ZcW {u:World} {s y:List UInt8} {k:Nat} (hk:k<s.length) (hy:s.drop (k+1)=y) {op:Oper} (p q:Operand) (ho:op.op=.slice 9 p (some q) none none) {ev:Operand→Value} (h1:ev p=.string ⟨s.toArray⟩) (h2:ev q=.int .i64 ((k:Int)+1)) :
  (execOp ev op).run Tryz.prog u=.ok (.value (.string ⟨y.toArray⟩)) u:=by
 have i1:(0:Int)≤(k:Int)+1:=by omega
 have i2:(k:Int)+1≤(s.length:Int):=by omega
 have i3:((k:Int)+1).toNat=k+1:=by omega
 subst hy
 have k5:(s.drop (k+1)).take (s.length-(k+1))=s.drop (k+1):=List.take_of_length_le (by simp)
 simp only[execOp,ho,h1,h2,Option.map]
 go_simp
theorem ZcV {u:World} {s:List UInt8} {k:Nat} {c:UInt8} (hk:k<s.length) (hc:s[k]=c) {op:Oper} (p q:Operand) (ho:op.op=.index 9 p q) {ev:Operand→Value} (h1:ev p=.string ⟨s.toArray⟩) (h2:ev q=.int .i64 (k:Int)) :
  (execOp ev op).run Tryz.prog u=.ok (.value (.int .u8 (c.toNat:Int))) u:=by
 have i1:(0:Int)≤(k:Int):=by omega
 have i2:(k:Int)<(s.length:Int):=by omega
 subst hc
 simp only[execOp,ho,h1,h2]
 go_simp
theorem ZkW (c d:UInt8):((c.toNat:Int) == (d.toNat:Int))=(c == d):=by
 rw[Bool.eq_iff_iff,beq_iff_eq,beq_iff_eq,← UInt8.toNat_inj]
 omega
theorem ZcU {u:World} {a b:Int} {r:Bool} {op:Oper} (p q:Operand) (ho:op.op=.binOp .eql 5 p q 5) {ev:Operand→Value} (h1:ev p=.int .u8 a) (h2:ev q=.int .u8 b) (hr:(a == b)=r) :
  (execOp ev op).run Tryz.prog u=.ok (.value (.bool r)) u:=by
 simp only[execOp,ho,h1,h2]
 go_simp
theorem ZcS {u:World} {p q:Int} (h:IntKind.i64.wrap (p+q)=p+q) {op:Oper} (x y:Operand) (ho:op.op=.binOp .add 3 x y 3) {ev:Operand→Value} (hx:ev x=.int .i64 p) (hy:ev y=.int .i64 q) :
  (execOp ev op).run Tryz.prog u=.ok (.value (.int .i64 (p+q))) u:=by
 simp only[execOp,ho,hx,hy]
 go_simp
theorem Zhk {W u:World} {s:List UInt8} {no:Bool} (hL:Low W u) (hl:s.length≤1099511627776):Calls Tryz.prog 339 (#[.string ⟨s.toArray⟩,.bool no]++#[]) u fun e w'=>∃ v,e=.returned v∧Low W w'∧∃ A AN b1,v=.tuple #[.int .i64 A,.int .i64 AN,.bool b1]∧nmP no s=(if b1=true then some (A,AN) else none):=by
 refine (Zhb s no u hl).mono ?_
 rintro e w' ⟨x,n,r,rfl,h1,h2⟩
 exact⟨_,rfl,Below.trans hL (h2.mono (Below.size hL)),x,n,r,rfl,h1⟩
theorem Zha (tmps:Array Value) (u:World) (B:Nat) (g:Hk) (v:Value) (h:Hx u B g v) {b:Value} (h2:tmps.getD 2 undef=.pointer (some ⟨B,0,none⟩)) (h3:tmps.getD 3 undef=b) :
  (results Tryz.f316 tmps).run Tryz.prog u=.ok (.tuple #[hkV g v,b]) u:=by
 rw[_root_.Go.results_cell_tmp rfl,h2,h3]
 have hL:(loadVar 45 ⟨B,0,none⟩).run Tryz.prog u=.ok (hkV g v) u:=run_loadVar_row u B _ _ _ _ _ h Tryz.underlying45 rfl (by kernel_rfl)
 simp[asAddr,hL,Result.andThen]
theorem ZgN (s:List UInt8) (hs:s.length<4294967281) (w:World) :
  Calls Tryz.prog 316 #[.string ⟨s.toArray⟩] w fun x w'=>CmdP s x∧Below w.heap.size w w':=by
 have hx0:=Hx.new w ⟨0,0,0,0,[]⟩ (.slice none 0 0)
 have hB0:Below w.heap.size w (w.alloc (hkO ⟨0,0,0,0,[]⟩ (.slice none 0 0))):=(Below.refl _ w).alloc (Nat.le_refl _) _
 unfold hkO at hx0 hB0
 dsimp only at hx0 hB0
 have hIx:=fun u=>Zaa s hs u
 rcases Zmc s with ⟨h1,h2⟩ | ⟨k,hlt,h1,h2,h3⟩
 ·have HC:Hid (∀ A AN B BN,CmdP s (.returned (.tuple #[hkV ⟨A,AN,B,BN,[]⟩ (.slice none 0 0),.bool false]))):=(by
   intro A AN B BN
   unfold CmdP cmdP
   rw[h1]
   exact⟨_,_,_,_,rfl⟩)
  rw[h2] at hIx
  clear h1 h2
  go_enter Tryz.func316,Tryz.ntmps316
  go_wp2_with fail
  generalize w.alloc (.cells #[.int .i64 0,.int .i64 0,.int .i64 0,.int .i64 0,.slice none 0 0] 45)=W at hx0 hB0 ⊢
  refine (hIx _).mono ?_
  rintro e w1 ⟨rfl,hb1⟩
  have hx1:=hx0.low hb1
  have hB1:=hB0.trans (hb1.mono hB0.size)
  obtain⟨c0,c1,c2,c3,c4⟩:=hx1.cells
  have f0:=hx1.frozen 0
  have f1:=hx1.frozen 1
  have f2:=hx1.frozen 2
  have f3:=hx1.frozen 3
  have f4:=hx1.frozen 4
  have hP:=hx1.putH5 0 0 0 0 [] (.slice none 0 0)
  have hBP:=ZbG hB1 (.int .i64 0) (.int .i64 0) (.int .i64 0) (.int .i64 0) (.slice none 0 0)
  go_wp2
  refine bodyPost_ret (Zha _ _ _ _ _ hP rfl rfl) rfl ⟨HC.out _ _ _ _,hBP⟩
 ·obtain⟨c,hcd⟩:∃ c,s[k]=c:=⟨_,rfl⟩
  obtain⟨x,hx⟩:∃ x,s.take k=x:=⟨_,rfl⟩
  obtain⟨y,hy⟩:∃ y,s.drop (k+1)=y:=⟨_,rfl⟩
  have hxl:x.length≤1099511627776:=(by rw[← hx,List.length_take];omega)
  have hyl:y.length≤1099511627776:=(by rw[← hy,List.length_drop];omega)
  have hkl:k≤s.length:=by omega
  have HC:Hid (∀ A AN B BN b1 b2,nmP (c == 97) x=(if b1=true then some (A,AN) else none)→nmP (c == 100) y=(if b2=true then some (B,BN) else none)→CmdP s (.returned (.tuple #[hkV ⟨A,AN,B,BN,[]⟩ (.slice none 0 0),.bool (b1 && b2)]))):=(by
   intro A AN B BN b1 b2 hA hB
   unfold CmdP cmdP
   rw[h2,hcd,hx,hy]
   dsimp only
   have e1:(if c=97 then oneP x else lnsP x)=nmP (c == 97) x:=(by
    unfold nmP
    by_cases h:c=97<;>simp[h])
   have e2:(if c=100 then oneP y else lnsP y)=nmP (c == 100) y:=(by
    unfold nmP
    by_cases h:c=100<;>simp[h])
   rw[e1,e2,hA,hB]
   cases b1<;>cases b2
   ·exact⟨_,_,_,_,rfl⟩
   ·exact⟨_,_,_,_,rfl⟩
   ·exact⟨_,_,_,_,rfl⟩
   ·rfl)
  rw[h1] at hIx
  clear h1 h2 h3
  go_enter Tryz.func316,Tryz.ntmps316
  go_wp2_with fail
  generalize w.alloc (.cells #[.int .i64 0,.int .i64 0,.int .i64 0,.int .i64 0,.slice none 0 0] 45)=W0 at hx0 hB0 ⊢
  refine (hIx _).mono ?_
  rintro e W ⟨rfl,hb1⟩
  have hx1:=hx0.low hb1
  have hB1:=hB0.trans (hb1.mono hB0.size)
  clear hx0 hB0 hb1
  have hlow:Low W W.drew:=Below.drew (Below.refl _ _)
  have i0:¬ ((k:Int)<0):=by omega
  go_upto_region 4 with fail
  refine wp_region_noPanic ?_
  refine wp_region_held_drew (S:=fun u=>Low W u) (by kernel_rfl) hlow (fun hHeld=>?_)
  generalize W.drew=wd at hHeld ⊢
  refine Y_t 0 17 _ (.string ⟨s.toArray⟩) rfl (Or.inl ⟨by kernel_rfl,fun u hu=>by kernel_rfl⟩) hHeld ?_
  simp only[Act.put,Y_a,Y_b,Y_c]
  refine Y_t 1 18 _ (.int .i64 (k:Int)) rfl (Or.inl ⟨by kernel_rfl,fun u hu=>by kernel_rfl⟩) hHeld ?_
  simp only[Act.put,Y_a,Y_b,Y_c]
  refine Y_t 2 19 _ (.string ⟨x.toArray⟩) rfl (Or.inl ⟨by kernel_rfl,fun u hu=>ZcX hkl hx (.tmp 17) (.tmp 18) (by kernel_rfl) (by kernel_rfl) (by kernel_rfl)⟩) hHeld ?_
  simp only[Act.put,Y_a,Y_b,Y_c]
  refine Y_t 3 20 _ (.string ⟨s.toArray⟩) rfl (Or.inl ⟨by kernel_rfl,fun u hu=>by kernel_rfl⟩) hHeld ?_
  simp only[Act.put,Y_a,Y_b,Y_c]
  refine Y_t 4 21 _ (.int .i64 (k:Int)) rfl (Or.inl ⟨by kernel_rfl,fun u hu=>by kernel_rfl⟩) hHeld ?_
  simp only[Act.put,Y_a,Y_b,Y_c]
  refine Y_t 5 22 _ (.int .u8 (c.toNat:Int)) rfl (Or.inl ⟨by kernel_rfl,fun u hu=>ZcV hlt hcd (.tmp 20) (.tmp 21) (by kernel_rfl) (by kernel_rfl) (by kernel_rfl)⟩) hHeld ?_
  simp only[Act.put,Y_a,Y_b,Y_c]
  refine Y_t 6 23 _ (.bool (c == 97)) rfl (Or.inl ⟨by kernel_rfl,fun u hu=>ZcU (.tmp 22) (.const (.int .u8 97)) (by kernel_rfl) (by kernel_rfl) (by kernel_rfl) (ZkW c 97)⟩) hHeld ?_
  simp only[Act.put,Y_a,Y_b,Y_c]
  refine Y_e 7 24 _ rfl 339 (.func 339) #[.tmp 19,.tmp 23] #[9,4] (by kernel_rfl) #[] (by kernel_rfl) #[.string ⟨x.toArray⟩,.bool (c == 97)] (by kernel_rfl) (enters_of Tryz.func339 (by kernel_rfl) rfl) (fun v u=>∃ A AN b1,v=.tuple #[.int .i64 A,.int .i64 AN,.bool b1]∧nmP (c == 97) x=(if b1=true then some (A,AN) else none)) ?_ ?_
  ·exact Zhk hHeld hxl
  rintro _ u1 hH1 ⟨A,AN,b1,rfl,hA⟩
  simp only[Act.put,Y_a,Y_b,Y_c]
  refine Y_t 8 16 _ (.tuple #[.int .i64 A,.int .i64 AN,.bool b1]) rfl (Or.inl ⟨by kernel_rfl,fun u hu=>by kernel_rfl⟩) hH1 ?_
  simp only[Act.put,Y_a,Y_b,Y_c]
  refine Y_t 9 25 _ (.int .i64 A) rfl (Or.inl ⟨by kernel_rfl,fun u hu=>by kernel_rfl⟩) hH1 ?_
  simp only[Act.put,Y_a,Y_b,Y_c]
  refine Y_t 10 26 _ (.int .i64 AN) rfl (Or.inl ⟨by kernel_rfl,fun u hu=>by kernel_rfl⟩) hH1 ?_
  simp only[Act.put,Y_a,Y_b,Y_c]
  refine Y_t 11 27 _ (.bool b1) rfl (Or.inl ⟨by kernel_rfl,fun u hu=>by kernel_rfl⟩) hH1 ?_
  simp only[Act.put,Y_a,Y_b,Y_c]
  refine Y_t 12 5 _ (.int .i64 A) rfl (Or.inl ⟨by kernel_rfl,fun u hu=>by kernel_rfl⟩) hH1 ?_
  simp only[Act.put,Y_a,Y_b,Y_c]
  refine Y_t 13 6 _ (.int .i64 AN) rfl (Or.inl ⟨by kernel_rfl,fun u hu=>by kernel_rfl⟩) hH1 ?_
  simp only[Act.put,Y_a,Y_b,Y_c]
  refine Y_t 14 7 _ (.bool b1) rfl (Or.inl ⟨by kernel_rfl,fun u hu=>by kernel_rfl⟩) hH1 ?_
  simp only[Act.put,Y_a,Y_b,Y_c]
  refine wpAnyH_done (by kernel_rfl) ?_ _
  refine NoPanic.normal ?_
  go_upto_region 5 with fail
  refine wp_region_noPanic ?_
  refine wp_region_held_drew (S:=fun u=>Low W u) (by kernel_rfl) (ZfN hH1) (fun hHeld=>?_)
  generalize u1.drew=wd2 at hHeld ⊢
  refine Y_t 0 29 _ (.string ⟨s.toArray⟩) rfl (Or.inl ⟨by kernel_rfl,fun u hu=>by kernel_rfl⟩) hHeld ?_
  simp only[Act.put,Y_a,Y_b,Y_c]
  refine Y_t 1 30 _ (.int .i64 (k:Int)) rfl (Or.inl ⟨by kernel_rfl,fun u hu=>by kernel_rfl⟩) hHeld ?_
  simp only[Act.put,Y_a,Y_b,Y_c]
  refine Y_t 2 31 _ (.int .i64 ((k:Int)+1)) rfl (Or.inl ⟨by kernel_rfl,fun u hu=>ZcS (p:=(k:Int)) (q:=1) (Zmm (by omega) (by omega)) (.tmp 30) (.const (.int .i64 1)) (by kernel_rfl) (by kernel_rfl) (by kernel_rfl)⟩) hHeld ?_
  simp only[Act.put,Y_a,Y_b,Y_c]
  refine Y_t 3 32 _ (.string ⟨y.toArray⟩) rfl (Or.inl ⟨by kernel_rfl,fun u hu=>ZcW hlt hy (.tmp 29) (.tmp 31) (by kernel_rfl) (by kernel_rfl) (by kernel_rfl)⟩) hHeld ?_
  simp only[Act.put,Y_a,Y_b,Y_c]
  refine Y_t 4 33 _ (.string ⟨s.toArray⟩) rfl (Or.inl ⟨by kernel_rfl,fun u hu=>by kernel_rfl⟩) hHeld ?_
  simp only[Act.put,Y_a,Y_b,Y_c]
  refine Y_t 5 34 _ (.int .i64 (k:Int)) rfl (Or.inl ⟨by kernel_rfl,fun u hu=>by kernel_rfl⟩) hHeld ?_
  simp only[Act.put,Y_a,Y_b,Y_c]
  refine Y_t 6 35 _ (.int .u8 (c.toNat:Int)) rfl (Or.inl ⟨by kernel_rfl,fun u hu=>ZcV hlt hcd (.tmp 33) (.tmp 34) (by kernel_rfl) (by kernel_rfl) (by kernel_rfl)⟩) hHeld ?_
  simp only[Act.put,Y_a,Y_b,Y_c]
  refine Y_t 7 36 _ (.bool (c == 100)) rfl (Or.inl ⟨by kernel_rfl,fun u hu=>ZcU (.tmp 35) (.const (.int .u8 100)) (by kernel_rfl) (by kernel_rfl) (by kernel_rfl) (ZkW c 100)⟩) hHeld ?_
  simp only[Act.put,Y_a,Y_b,Y_c]
  refine Y_e 8 37 _ rfl 339 (.func 339) #[.tmp 32,.tmp 36] #[9,4] (by kernel_rfl) #[] (by kernel_rfl) #[.string ⟨y.toArray⟩,.bool (c == 100)] (by kernel_rfl) (enters_of Tryz.func339 (by kernel_rfl) rfl) (fun v u=>∃ A AN b1,v=.tuple #[.int .i64 A,.int .i64 AN,.bool b1]∧nmP (c == 100) y=(if b1=true then some (A,AN) else none)) ?_ ?_
  ·exact Zhk hHeld hyl
  rintro _ u2 hH2 ⟨B,BN,b2,rfl,hB⟩
  simp only[Act.put,Y_a,Y_b,Y_c]
  refine Y_t 9 28 _ (.tuple #[.int .i64 B,.int .i64 BN,.bool b2]) rfl (Or.inl ⟨by kernel_rfl,fun u hu=>by kernel_rfl⟩) hH2 ?_
  simp only[Act.put,Y_a,Y_b,Y_c]
  refine Y_t 10 38 _ (.int .i64 B) rfl (Or.inl ⟨by kernel_rfl,fun u hu=>by kernel_rfl⟩) hH2 ?_
  simp only[Act.put,Y_a,Y_b,Y_c]
  refine Y_t 11 39 _ (.int .i64 BN) rfl (Or.inl ⟨by kernel_rfl,fun u hu=>by kernel_rfl⟩) hH2 ?_
  simp only[Act.put,Y_a,Y_b,Y_c]
  refine Y_t 12 40 _ (.bool b2) rfl (Or.inl ⟨by kernel_rfl,fun u hu=>by kernel_rfl⟩) hH2 ?_
  simp only[Act.put,Y_a,Y_b,Y_c]
  refine Y_t 13 8 _ (.int .i64 B) rfl (Or.inl ⟨by kernel_rfl,fun u hu=>by kernel_rfl⟩) hH2 ?_
  simp only[Act.put,Y_a,Y_b,Y_c]
  refine Y_t 14 9 _ (.int .i64 BN) rfl (Or.inl ⟨by kernel_rfl,fun u hu=>by kernel_rfl⟩) hH2 ?_
  simp only[Act.put,Y_a,Y_b,Y_c]
  refine Y_t 15 10 _ (.bool b2) rfl (Or.inl ⟨by kernel_rfl,fun u hu=>by kernel_rfl⟩) hH2 ?_
  simp only[Act.put,Y_a,Y_b,Y_c]
  refine wpAnyH_done (by kernel_rfl) ?_ _
  refine NoPanic.normal ?_
  have hx2:=hx1.low hH2
  have hB2:=hB1.trans (Below.mono hH2 hB1.size)
  obtain⟨c0,c1,c2,c3,c4⟩:=hx2.cells
  have f0:=hx2.frozen 0
  have f1:=hx2.frozen 1
  have f2:=hx2.frozen 2
  have f3:=hx2.frozen 3
  have f4:=hx2.frozen 4
  have hP:=hx2.putH5 A AN B BN [] (.slice none 0 0)
  have hBP:=ZbG hB2 (.int .i64 A) (.int .i64 AN) (.int .i64 B) (.int .i64 BN) (.slice none 0 0)
  have HD:=HC.out A AN B BN b1 b2 hA hB
  clear HC hA hB hx hy hcd
  cases b1 with
  | true =>
   go_wp2
   refine bodyPost_ret (Zha _ _ _ _ _ hP rfl rfl) rfl ⟨?_,hBP⟩
   simpa using HD
  | false =>
   go_wp2
   refine bodyPost_ret (Zha _ _ _ _ _ hP rfl rfl) rfl ⟨?_,hBP⟩
   simpa using HD
end

section
open Go.RowKit
attribute [local go_sem] ByteArray.extract_mk Zhc
theorem ZdQ {R B:Nat} {w u v:World} (h:w.grownBy u (some R)) (h':Fr B R u v) (hB:w.heap.size≤B):w.grownBy v (some R) :=
 ⟨h'.os.trans h.os,h'.tape.trans h.tape,h'.output.trans h.output,Nat.le_trans h.size h'.size,fun k h1 h2=>(h'.block k (Nat.lt_of_lt_of_le h1 hB) (fun e=>h2 (by rw[e]))).trans (h.block k h1 h2)⟩
theorem Hx.fr {u u':World} {b B R:Nat} {h:Hk} {v:Value} (q:Hx u b h v) (hf:Fr B R u u') (hb:b<B) (hR:b≠R):Hx u' b h v:=(hf.block b hb hR).trans q
theorem Hx.put4 {u:World} {b:Nat} {h:Hk} {v:Value} (q:Hx u b h v) (l:List Mk) (z:Value):Hx (u.setCell ⟨b,4,none⟩ z) b ⟨h.A,h.AN,h.B,h.BN,l⟩ z:=heap_setCell_same u b 4 _ _ z q
theorem Zdn {w:World} {B:Nat} {v:Value} {n:Nat} {xs:List Value} (h:w.ownsRow B 47 2 v n xs) {b:Nat} (hne:v.ownBlock≠some b) (A AN C CN:Int) (z:Value):(((((w.setCell ⟨b,0,none⟩ (.int .i64 A)).setCell ⟨b,1,none⟩ (.int .i64 AN)).setCell ⟨b,2,none⟩ (.int .i64 C)).setCell ⟨b,3,none⟩ (.int .i64 CN)).setCell ⟨b,4,none⟩ z).ownsRow B 47 2 v n xs :=
 ((((h.kept (ZdS _ b 0 _) (.inr hne)).kept (ZdS _ b 1 _) (.inr hne)).kept (ZdS _ b 2 _) (.inr hne)).kept (ZdS _ b 3 _) (.inr hne)).kept (ZdS _ b 4 _) (.inr hne)
theorem Zdo {w:World} {R:Nat} {vL:Value} {p:Int} (h:Ry w R vL p) {b:Nat} (hne:R≠b) (A AN C CN:Int) (z:Value):Ry (((((w.setCell ⟨b,0,none⟩ (.int .i64 A)).setCell ⟨b,1,none⟩ (.int .i64 AN)).setCell ⟨b,2,none⟩ (.int .i64 C)).setCell ⟨b,3,none⟩ (.int .i64 CN)).setCell ⟨b,4,none⟩ z) R vL p :=
 have hn:∀ _:Nat,(some R:Option Nat)≠some b:=fun _ e=>hne (Option.some.inj e)
 ((((h.keep (ZdS _ b 0 _) (hn 0)).keep (ZdS _ b 1 _) (hn 0)).keep (ZdS _ b 2 _) (hn 0)).keep (ZdS _ b 3 _) (hn 0)).keep (ZdS _ b 4 _) (hn 0)
def hkEnd (A AN B BN:Int) (l1:List Mk) (X2:Except (Nat × Int) (List Mk × Nat × List (List UInt8))):Except (Nat × Int) (Hk × Nat × List (List UInt8)) :=
 match X2 with
 | .error e=>.error e
 | .ok (l2,p3,r3)=>.ok (⟨A,AN,B,BN,l1++l2⟩,p3,r3)
def HkQ (R:Nat) (vL:Value) (X:Except (Nat × Int) (Hk × Nat × List (List UInt8))) (w:World) (x:Ending) (w':World):Prop :=
 match X with
 | .error (a,e)=>Thr (a:Int) e x w'∧w.grownBy w' (some R)
 | .ok (h,p1,_)=>∃ v',x=.returned (hkV h v')∧w'.ownsRow w.heap.size 47 2 v' h.ls.length (mkcells h.ls)∧Ry w' R vL (p1:Int)∧w.grownBy w' (some R)
theorem ZgU {R:Nat} {L:List (List UInt8)} {lo:Option Addr} {lc:Nat} {p:Nat} (w:World) (q:Ry w R (.slice lo L.length lc) p) (HL:Hid (∀ u,w.grownBy u (some R)→HS u (.slice lo L.length lc) L)) (HPl:Hid (Plain L)) (hp:p≤L.length) (hLl:L.length≤1048576) (HSl:Hid (∀ s∈L,s.length≤1048576))
  (k:Nat) (hk:k≤4096) (X:Except (Nat × Int) (Hk × Nat × List (List UInt8))) (HX:Hid (hkK k p (L.drop p)=X)) :
  Calls Tryz.prog 268 #[.pointer (some ⟨R,0,none⟩),.int .i64 (k:Int)] w fun x w'=>HkQ R (.slice lo L.length lc) X w x w':=by
 have hRw:=q.lt
 have HSl2:Hid (∀ s∈L,s.length≤1099511627776):=fun s hs=>by have:=HSl.out s hs;omega
 have hr0:=Hx.new w ⟨0,0,0,0,[]⟩ (.slice none 0 0)
 have g0:w.grownBy (w.alloc (hkO ⟨0,0,0,0,[]⟩ (.slice none 0 0))) (some R):=World.grownBy_alloc w _ _
 have q0:Ry (w.alloc (hkO ⟨0,0,0,0,[]⟩ (.slice none 0 0))) R (.slice lo L.length lc) p:=q.low ((Below.refl _ w).alloc (Nat.le_refl _) _)
 have HZ0:Hid ((w.alloc (hkO ⟨0,0,0,0,[]⟩ (.slice none 0 0))).heap.size=w.heap.size+1):=(by show _=_;simp)
 have hW0:w.alloc (.cells #[.int .i64 0,.int .i64 0,.int .i64 0,.int .i64 0,.slice none 0 0] 45)=w.alloc (hkO ⟨0,0,0,0,[]⟩ (.slice none 0 0)):=rfl
 obtain⟨Z,hZ⟩:∃ Z,nxt p (L.drop p)=Z:=⟨_,rfl⟩
 have hX:=HX.out
 clear HX q
 unfold hkK at hX
 rw[hZ] at hX
 go_enter Tryz.func268,Tryz.ntmps268
 go_wp2_with fail
 generalize w.alloc (hkO ⟨0,0,0,0,[]⟩ (.slice none 0 0))=W0 at *
 clear hW0
 have hl:=ZgX W0 q0 (HL.out W0 g0) hp (by omega) HSl2.out Z hZ
 cases Z with
 | error z =>
  obtain⟨a,e⟩:=z
  dsimp only at hX
  subst hX
  refine hl.mono ?_
  rintro x w1 ⟨⟨g,rfl,hg⟩,hgr⟩
  have hfin:=ZdT g0 hgr
  go_wp2
  exact⟨rfl,⟨_,rfl,hg⟩,hfin⟩
 | ok z =>
  obtain⟨s,r⟩:=z
  dsimp only at hX
  obtain⟨hr,hpl,_,hLp⟩:=Zhr hZ
  subst hr
  have hsl:=HSl.out L[p] (List.getElem_mem hpl)
  rw[hLp,List.length_append] at hsl
  obtain⟨T,hT⟩:∃ T,s++[10]=T:=⟨_,rfl⟩
  have hTl:T.length≤1048576:=(by rw[← hT,List.length_append];exact hsl)
  have hTS:Lib.trimSuffix (⟨T.toArray⟩:ByteArray).data.toList (⟨#[10]⟩:ByteArray).data.toList=s:=(by
   show Lib.trimSuffix T [10]=s
   rw[← hT]
   unfold Lib.trimSuffix
   rw[ZkK,if_pos (Zdf s)]
   simp)
  have htr:=fun u=>Tryz.strings_TrimSuffix ⟨T.toArray⟩ ⟨#[10]⟩ u (by show T.length≤_;omega)
  rw[hTS] at htr
  have hcm:=fun u=>ZgN s (by simp only[List.length_cons,List.length_nil] at hsl;omega) u
  clear hTS hZ hLp hsl
  refine hl.mono ?_
  rintro x w1 ⟨hx1,nn,rfl⟩
  rw[hT] at hx1
  subst hx1
  clear hl hT
  have q1:=q0.dN nn
  have hr1:Hx (W0.drewN nn) w.heap.size ⟨0,0,0,0,[]⟩ (.slice none 0 0):=hr0
  have g1:=ZdP g0 nn
  have HZ1:Hid ((W0.drewN nn).heap.size=w.heap.size+1):=HZ0
  clear q0 hr0 g0 HZ0
  generalize W0.drewN nn=W1 at *
  go_wp2_with fail
  refine (htr W1).mono ?_
  rintro x w2 ⟨rfl,rfl⟩
  go_wp2_with fail
  refine (hcm w2).mono ?_
  rintro x w2b ⟨hCP,hb2⟩
  have q2:=q1.low hb2
  have hr2:=hr1.low hb2
  have g2:=ZdT g1 (ZfO hb2 _)
  have hz2:w.heap.size+1≤w2b.heap.size:=(by have:=HZ1.out;have:=hb2.size;omega)
  clear q1 hr1 g1 HZ1 hb2 htr hcm
  unfold CmdP at hCP
  cases hc:cmdP s with
  | none =>
   rw[hc] at hCP hX
   dsimp only at hX
   subst hX
   obtain⟨A,AN,B,BN,rfl⟩:=hCP
   have g3:=ZdT g2 (World.grownBy_alloc w2b (hkO ⟨A,AN,B,BN,[]⟩ (.slice none 0 0)) (some R))
   have q3:Ry (w2b.alloc (hkO ⟨A,AN,B,BN,[]⟩ (.slice none 0 0))) R (.slice lo L.length lc) p:=q2.low ((Below.refl _ w2b).alloc (Nat.le_refl _) _)
   unfold hkV
   dsimp only
   go_wp2_with fail
   refine (Zhi 3 _ q3 (by omega)).mono ?_
   rintro x w3 ⟨⟨g,rfl,hg⟩,hgr⟩
   have hfin:=ZdT g3 hgr
   go_wp2
   exact⟨rfl,⟨_,rfl,by simpa using hg⟩,hfin⟩
  | some z =>
   obtain⟨A,AN,B,BN⟩:=z
   have hcr:=ZbI hc
   rw[hc] at hCP hX
   dsimp only at hCP hX
   subst hCP
   obtain⟨an,rfl⟩:=Int.eq_ofNat_of_zero_le hcr.1.2.2.1
   obtain⟨bn,rfl⟩:=Int.eq_ofNat_of_zero_le hcr.2.1.2.2.1
   have han:an≤2147483647:=by omega
   have hbn:bn≤2147483647:=by omega
   clear hcr hc
   have g3:=ZdT g2 (World.grownBy_alloc w2b (hkO ⟨A,(an:Int),B,(bn:Int),[]⟩ (.slice none 0 0)) (some R))
   have q3:Ry (w2b.alloc (hkO ⟨A,(an:Int),B,(bn:Int),[]⟩ (.slice none 0 0))) R (.slice lo L.length lc) p:=q2.low ((Below.refl _ w2b).alloc (Nat.le_refl _) _)
   have hx3:=Hx.new w2b ⟨A,(an:Int),B,(bn:Int),[]⟩ (.slice none 0 0)
   have hr3:Hx (w2b.alloc (hkO ⟨A,(an:Int),B,(bn:Int),[]⟩ (.slice none 0 0))) w.heap.size ⟨0,0,0,0,[]⟩ (.slice none 0 0):=hr2.low ((Below.refl _ w2b).alloc (Nat.le_refl _) _)
   have HZ3:Hid ((w2b.alloc (hkO ⟨A,(an:Int),B,(bn:Int),[]⟩ (.slice none 0 0))).heap.size=w2b.heap.size+1):=(by show _=_;simp)
   obtain⟨H,hH⟩:∃ H,w2b.heap.size=H:=⟨_,rfl⟩
   rw[hH] at hx3 HZ3
   have HH:Hid (w2b.heap.size=H):=hH
   rw[Int.toNat_natCast,Int.toNat_natCast] at hX
   by_cases hk2:k=4096
   ·rw[if_pos hk2] at hX
    subst hX hk2
    unfold hkV
    dsimp only
    go_wp2_with fail
    refine (Zhi 9 _ q3 (by omega)).mono ?_
    rintro x w3 ⟨⟨g,rfl,hg⟩,hgr⟩
    have hfin:=ZdT g3 hgr
    go_wp2
    exact⟨rfl,⟨_,rfl,by simpa using hg⟩,hfin⟩
   ·rw[if_neg hk2] at hX
    have hkb:((k:Int) == 4096)=false:=beq_eq_false_iff_ne.2 (by omega)
    have hQH:w.heap.size≠H:=by omega
    obtain⟨d0,d1⟩:=q3.cells
    have df1:=q3.frozen 1
    have q4:=q3.at ((p:Int)+1)
    have gs:=ZdS (w2b.alloc (hkO ⟨A,(an:Int),B,(bn:Int),[]⟩ (.slice none 0 0))) R 1 (.int .i64 ((p:Int)+1))
    have hHR:H≠R:=by omega
    have hQR:w.heap.size≠R:=by omega
    have hx4:=hx3.keep gs (fun e=>hHR (Option.some.inj e))
    have hr4:=hr3.keep gs (fun e=>hQR (Option.some.inj e))
    have g4:=ZdT g3 gs
    have HZ4:Hid (H+1≤((w2b.alloc (hkO ⟨A,(an:Int),B,(bn:Int),[]⟩ (.slice none 0 0))).setCell ⟨R,1,none⟩ (.int .i64 ((p:Int)+1))).heap.size):=(by have h1:=HZ3.out;have h2:=gs.size;show _≤_;omega)
    obtain⟨f0,f1,f2,f3,f4⟩:=hx4.cells
    dsimp only at f0 f1 f2 f3 f4
    have if4':=hx4.frozen 4
    unfold hkV
    dsimp only
    clear hr2 q2 g2 hr3 hx3 g3 gs
    unfold hkO at q4 hx4 hr4 g4 HZ4 f0 f1 f2 f3 f4 if4' d0 d1 df1
    dsimp only at q4 hx4 hr4 g4 HZ4 f0 f1 f2 f3 f4 if4' d0 d1 df1
    go_wp2_with fail
    generalize hw3d:(w2b.alloc (.cells #[.int .i64 A,.int .i64 (an:Int),.int .i64 B,.int .i64 (bn:Int),.slice none 0 0] 45)).setCell ⟨R,1,none⟩ (.int .i64 ((p:Int)+1))=w3 at *
    clear HZ3 hw3d d0 d1 df1 q3
    have hRB:R<w3.heap.size:=by have:=HZ4.out;omega
    have hHl:H<w3.heap.size:=by have:=HZ4.out;omega
    have hQl:w.heap.size<w3.heap.size:=by have:=HZ4.out;omega
    have hw3:w.heap.size≤w3.heap.size:=by omega
    have HG1:Hid (∀ c∈([60,32]:List UInt8),c≠10):=(by show ∀ c∈([60,32]:List UInt8),c≠10;decide)
    have HG2:Hid (∀ c∈([62,32]:List UInt8),c≠10):=(by show ∀ c∈([62,32]:List UInt8),c≠10;decide)
    have HL4:Hid (∀ u,Fr w3.heap.size R w3 u→HS u (.slice lo L.length lc) L):=fun u hu=>HL.out u (ZdQ g4 hu hw3)
    have q4':Ry w3 R (.slice lo L.length lc) ((p+1:Nat):Int):=(by simpa using q4)
    obtain⟨X1,hX1⟩:∃ X1,sdC [60,32] 45 an (p+1) (L.drop (p+1))=X1:=⟨_,rfl⟩
    have hs1:=Zhe w3 q4' HL4 HPl (by omega) (by omega) HSl2 (Nat.le_refl _) hRB [60,32] HG1 45 an (by omega) (.slice none 0 0) [] (by simp) (Zen _ _ _ _) X1 hX1
    rw[hX1] at hX
    clear q4 q4' HL4
    refine hs1.mono ?_
    cases X1 with
    | error z =>
     obtain⟨a,e⟩:=z
     dsimp only at hX
     subst hX
     rintro x w4 ⟨⟨g,rfl,hg⟩,hgr⟩
     have hfin:=ZdQ g4 hgr hw3
     go_wp2
     exact⟨rfl,⟨_,rfl,hg⟩,hfin⟩
    | ok z =>
     obtain⟨l1,p1,r1⟩:=z
     obtain⟨j,hj1,hj2,hj3⟩:=ZjV hX1
     rw[List.drop_drop] at hj1
     have hr1e:r1=L.drop p1:=by rw[hj1,hj2]
     have hp1:p1≤L.length:=(by rw[List.length_drop] at hj3;omega)
     subst hr1e
     have hl1k:l1.length≤1099511627776:=(by
      have:=ZjX hX1
      omega)
     clear hj1 hj2 hj3 hX1 hs1
     dsimp only at hX
     rintro x w4 ⟨v1,rfl,hown4,q5,hF4⟩
     rw[List.nil_append] at hown4
     obtain⟨o1,c1,rfl⟩:=(Zeo hown4).form
     have hx5:=hx4.fr hF4 hHl hHR
     have hr5:=hr4.fr hF4 hQl hQR
     have g5:=ZdQ g4 hF4 hw3
     have hz5:=hF4.size
     have hne5:(Value.slice o1 l1.length c1).ownBlock≠some H:=(by intro e;have:=ZhJ hown4 e;omega)
     have gs5:=ZdS w4 H 4 (.slice o1 l1.length c1)
     have hx6:=hx5.put4 l1 (.slice o1 l1.length c1)
     have hr6:=hr5.keep gs5 (fun e=>hQH (Option.some.inj e))
     have hown6:=hown4.kept gs5 (.inr hne5)
     have q6:=q5.keep gs5 (fun e=>hHR (Option.some.inj e).symm)
     have g6:=ZdR g5 (B:=H) (by omega) 4 (.slice o1 l1.length c1)
     have hz6:w3.heap.size≤(w4.setCell ⟨H,4,none⟩ (.slice o1 l1.length c1)).heap.size:=Nat.le_trans hz5 gs5.size
     obtain⟨f0,f1,f2,f3,f4⟩:=hx5.cells
     dsimp only at f0 f1 f2 f3 f4
     have ff4:=hx5.frozen 4
     clear hx4 hr4 g4 q5 hown4 hF4 gs5 g5 hr5
     dsimp only at hx6
     obtain⟨k0,k1,k2,k3,k4⟩:=hx6.cells
     dsimp only at k0 k1 k2 k3 k4
     have hx7a:=hx6
     have hr7a:=hr6
     have hown7a:=hown6
     have q7a:=q6
     have g7a:=g6
     have hz7a:=hz6
     clear hx6 hr6 hown6 q6 g6
     rcases (by omega:¬ 0<(an:Int)∨(0<(an:Int)∧¬ 0<(bn:Int))∨(0<(an:Int)∧0<(bn:Int))) with d1 | ⟨d1,d2⟩ | ⟨d1,d2⟩
     ·have hnb:¬ (0<(an:Int)∧0<(bn:Int)):=(by omega)
      rw[if_neg hnb] at hX
      dsimp only at hX
      obtain⟨X2,hX2⟩:∃ X2,sdC [62,32] 43 bn p1 (L.drop p1)=X2:=⟨_,rfl⟩
      have HX2:Hid (sdC [62,32] 43 bn p1 (L.drop p1)=X2):=hX2
      rw[hX2] at hX
      have HXf:Hid (X=hkEnd A (an:Int) B (bn:Int) l1 X2):=(by show _=_;rw[← hX];unfold hkEnd;rfl)
      clear hX hX2 hnb
      have hx7:=hx7a
      have hr7:=hr7a
      have hown7:=hown7a
      have q7:=q7a
      have g7:=g7a
      have hw37:=hz7a
      have hp2:=hp1
      clear hx7a hr7a hown7a q7a g7a hz7a hp1
      go_wp2_with fail
      clear hx5 f0 f1 f2 f3 f4 ff4 k0 k1 k2 k3 k4
      generalize w4.setCell ⟨H,4,none⟩ (.slice o1 l1.length c1)=w7 at *
      obtain⟨e0,e1,e2,e3,e4⟩:=hx7.cells
      have hg7s:w.heap.size≤w7.heap.size:=g7.size
      have HL7:Hid (∀ u,Fr w3.heap.size R w7 u→HS u (.slice lo L.length lc) L):=fun u hu=>HL.out u (ZdQ g7 hu hw3)
      have hs2:=Zhe w7 q7 HL7 HPl hp2 (by omega) HSl2 hw37 hRB [62,32] HG2 43 bn (by omega) (.slice o1 l1.length c1) l1 hl1k hown7 X2 HX2
      clear HL7
      refine hs2.mono ?_
      cases X2 with
      | error z =>
       obtain⟨a,e⟩:=z
       have hXe:X=.error (a,e):=HXf.out
       subst hXe
       rintro x w8 ⟨⟨g,rfl,hg⟩,hgr⟩
       have hfin:=ZdQ g7 hgr hw3
       go_wp2
       exact⟨rfl,⟨_,rfl,hg⟩,hfin⟩
      | ok z =>
       obtain⟨l2,p3,r3⟩:=z
       have hXe:X=.ok (⟨A,(an:Int),B,(bn:Int),l1++l2⟩,p3,r3):=HXf.out
       subst hXe
       rintro x w8 ⟨v2,rfl,hown8,q8,hF8⟩
       obtain⟨o2,c2,rfl⟩:=(Zeo hown8).form
       have hx8:=hx7.fr hF8 hHl hHR
       have hr8:=hr7.fr hF8 hQl hQR
       have hg8:=ZdQ g7 hF8 hw3
       have hne8:(Value.slice o2 (l1++l2).length c2).ownBlock≠some H:=(by intro e;have:=ZhJ hown8 e;omega)
       have hne8q:(Value.slice o2 (l1++l2).length c2).ownBlock≠some w.heap.size:=(by intro e;have:=ZhJ hown8 e;omega)
       have hx9:=hx8.put4 (l1++l2) (.slice o2 (l1++l2).length c2)
       have hgs9:=ZdS w8 H 4 (.slice o2 (l1++l2).length c2)
       have hr9:=hr8.keep hgs9 (fun e=>hQH (Option.some.inj e))
       have hown9:=hown8.kept hgs9 (.inr hne8)
       have q9:=q8.keep hgs9 (fun e=>hHR (Option.some.inj e).symm)
       have hg9:=ZdR hg8 (B:=H) (by omega) 4 (.slice o2 (l1++l2).length c2)
       obtain⟨i0,i1,i2,i3,i4⟩:=hx8.cells
       have if4:=hx8.frozen 4
       have HN2:Hid ((l1++l2).length=(l1++l2).length):=rfl
       generalize hM:(l1++l2).length=M at *
       obtain⟨z0,z1,z2,z3,z4⟩:=hx9.cells
       dsimp only at z0 z1 z2 z3 z4 i0 i1 i2 i3 i4
       obtain⟨y0,y1,y2,y3,y4⟩:=hr9.cells
       have yf0:=hr9.frozen 0
       have yf1:=hr9.frozen 1
       have yf2:=hr9.frozen 2
       have yf3:=hr9.frozen 3
       have yf4:=hr9.frozen 4
       have hP:=hr9.putH5 A (an:Int) B (bn:Int) (l1++l2) (.slice o2 M c2)
       have hgP:=((((ZdR hg9 (B:=w.heap.size) (Nat.le_refl _) 0 (.int .i64 A)) |> fun h=>ZdR h (B:=w.heap.size) (Nat.le_refl _) 1 (.int .i64 (an:Int))) |> fun h=>ZdR h (B:=w.heap.size) (Nat.le_refl _) 2 (.int .i64 B)) |> fun h=>ZdR h (B:=w.heap.size) (Nat.le_refl _) 3 (.int .i64 (bn:Int))) |> fun h=>ZdR h (B:=w.heap.size) (Nat.le_refl _) 4 (.slice o2 M c2)
       have hownP:=Zdn hown9 (b:=w.heap.size) hne8q A (an:Int) B (bn:Int) (.slice o2 M c2)
       have qP:=Zdo q9 (b:=w.heap.size) (by omega) A (an:Int) B (bn:Int) (.slice o2 M c2)
       clear hx9 hx8 hr8 hr9 hown8 hown9 q8 q9 hg8 hg9 hgs9 hF8
       go_wp2
       refine bodyPost_ret (v:=hkV ⟨A,(an:Int),B,(bn:Int),l1++l2⟩ (.slice o2 M c2)) (results_cell_row rfl _ _ w.heap.size 45 #[.int .i64 A,.int .i64 (an:Int),.int .i64 B,.int .i64 (bn:Int),.slice o2 M c2] (0,0) _ rfl hP Tryz.underlying45 rfl (by kernel_rfl)) rfl ⟨_,rfl,?_,qP,hgP⟩
       dsimp only
       rw[hM]
       exact ZhM hownP (Nat.le_of_lt (by omega))
     ·have hnb:¬ (0<(an:Int)∧0<(bn:Int)):=(by omega)
      rw[if_neg hnb] at hX
      dsimp only at hX
      obtain⟨X2,hX2⟩:∃ X2,sdC [62,32] 43 bn p1 (L.drop p1)=X2:=⟨_,rfl⟩
      have HX2:Hid (sdC [62,32] 43 bn p1 (L.drop p1)=X2):=hX2
      rw[hX2] at hX
      have HXf:Hid (X=hkEnd A (an:Int) B (bn:Int) l1 X2):=(by show _=_;rw[← hX];unfold hkEnd;rfl)
      clear hX hX2 hnb
      have hx7:=hx7a
      have hr7:=hr7a
      have hown7:=hown7a
      have q7:=q7a
      have g7:=g7a
      have hw37:=hz7a
      have hp2:=hp1
      clear hx7a hr7a hown7a q7a g7a hz7a hp1
      go_wp2_with fail
      clear hx5 f0 f1 f2 f3 f4 ff4 k0 k1 k2 k3 k4
      generalize w4.setCell ⟨H,4,none⟩ (.slice o1 l1.length c1)=w7 at *
      obtain⟨e0,e1,e2,e3,e4⟩:=hx7.cells
      have hg7s:w.heap.size≤w7.heap.size:=g7.size
      have HL7:Hid (∀ u,Fr w3.heap.size R w7 u→HS u (.slice lo L.length lc) L):=fun u hu=>HL.out u (ZdQ g7 hu hw3)
      have hs2:=Zhe w7 q7 HL7 HPl hp2 (by omega) HSl2 hw37 hRB [62,32] HG2 43 bn (by omega) (.slice o1 l1.length c1) l1 hl1k hown7 X2 HX2
      clear HL7
      refine hs2.mono ?_
      cases X2 with
      | error z =>
       obtain⟨a,e⟩:=z
       have hXe:X=.error (a,e):=HXf.out
       subst hXe
       rintro x w8 ⟨⟨g,rfl,hg⟩,hgr⟩
       have hfin:=ZdQ g7 hgr hw3
       go_wp2
       exact⟨rfl,⟨_,rfl,hg⟩,hfin⟩
      | ok z =>
       obtain⟨l2,p3,r3⟩:=z
       have hXe:X=.ok (⟨A,(an:Int),B,(bn:Int),l1++l2⟩,p3,r3):=HXf.out
       subst hXe
       rintro x w8 ⟨v2,rfl,hown8,q8,hF8⟩
       obtain⟨o2,c2,rfl⟩:=(Zeo hown8).form
       have hx8:=hx7.fr hF8 hHl hHR
       have hr8:=hr7.fr hF8 hQl hQR
       have hg8:=ZdQ g7 hF8 hw3
       have hne8:(Value.slice o2 (l1++l2).length c2).ownBlock≠some H:=(by intro e;have:=ZhJ hown8 e;omega)
       have hne8q:(Value.slice o2 (l1++l2).length c2).ownBlock≠some w.heap.size:=(by intro e;have:=ZhJ hown8 e;omega)
       have hx9:=hx8.put4 (l1++l2) (.slice o2 (l1++l2).length c2)
       have hgs9:=ZdS w8 H 4 (.slice o2 (l1++l2).length c2)
       have hr9:=hr8.keep hgs9 (fun e=>hQH (Option.some.inj e))
       have hown9:=hown8.kept hgs9 (.inr hne8)
       have q9:=q8.keep hgs9 (fun e=>hHR (Option.some.inj e).symm)
       have hg9:=ZdR hg8 (B:=H) (by omega) 4 (.slice o2 (l1++l2).length c2)
       obtain⟨i0,i1,i2,i3,i4⟩:=hx8.cells
       have if4:=hx8.frozen 4
       have HN2:Hid ((l1++l2).length=(l1++l2).length):=rfl
       generalize hM:(l1++l2).length=M at *
       obtain⟨z0,z1,z2,z3,z4⟩:=hx9.cells
       dsimp only at z0 z1 z2 z3 z4 i0 i1 i2 i3 i4
       obtain⟨y0,y1,y2,y3,y4⟩:=hr9.cells
       have yf0:=hr9.frozen 0
       have yf1:=hr9.frozen 1
       have yf2:=hr9.frozen 2
       have yf3:=hr9.frozen 3
       have yf4:=hr9.frozen 4
       have hP:=hr9.putH5 A (an:Int) B (bn:Int) (l1++l2) (.slice o2 M c2)
       have hgP:=((((ZdR hg9 (B:=w.heap.size) (Nat.le_refl _) 0 (.int .i64 A)) |> fun h=>ZdR h (B:=w.heap.size) (Nat.le_refl _) 1 (.int .i64 (an:Int))) |> fun h=>ZdR h (B:=w.heap.size) (Nat.le_refl _) 2 (.int .i64 B)) |> fun h=>ZdR h (B:=w.heap.size) (Nat.le_refl _) 3 (.int .i64 (bn:Int))) |> fun h=>ZdR h (B:=w.heap.size) (Nat.le_refl _) 4 (.slice o2 M c2)
       have hownP:=Zdn hown9 (b:=w.heap.size) hne8q A (an:Int) B (bn:Int) (.slice o2 M c2)
       have qP:=Zdo q9 (b:=w.heap.size) (by omega) A (an:Int) B (bn:Int) (.slice o2 M c2)
       clear hx9 hx8 hr8 hr9 hown8 hown9 q8 q9 hg8 hg9 hgs9 hF8
       go_wp2
       refine bodyPost_ret (v:=hkV ⟨A,(an:Int),B,(bn:Int),l1++l2⟩ (.slice o2 M c2)) (results_cell_row rfl _ _ w.heap.size 45 #[.int .i64 A,.int .i64 (an:Int),.int .i64 B,.int .i64 (bn:Int),.slice o2 M c2] (0,0) _ rfl hP Tryz.underlying45 rfl (by kernel_rfl)) rfl ⟨_,rfl,?_,qP,hgP⟩
       dsimp only
       rw[hM]
       exact ZhM hownP (Nat.le_of_lt (by omega))
     ·have hnb:0<(an:Int)∧0<(bn:Int):=⟨d1,d2⟩
      go_wp2_with fail
      clear hx5 f0 f1 f2 f3 f4 ff4 k0 k1 k2 k3 k4
      generalize w4.setCell ⟨H,4,none⟩ (.slice o1 l1.length c1)=w6 at *
      rw[if_pos hnb] at hX
      obtain⟨Y,hY⟩:∃ Y,sepP p1 (L.drop p1)=Y:=⟨_,rfl⟩
      rw[hY] at hX
      have hdvr:=ZgO w6 q7a (HL.out w6 g7a) hp1 (by omega) HSl2.out Y hY
      clear hnb
      cases Y with
      | error z =>
       obtain⟨a,e⟩:=z
       dsimp only at hX
       subst hX
       refine hdvr.mono ?_
       rintro x w7 ⟨⟨g,rfl,hg⟩,hgr⟩
       have hfin:=ZdT g7a hgr
       go_wp2
       exact⟨rfl,⟨_,rfl,hg⟩,hfin⟩
      | ok z =>
       obtain⟨p2,r2⟩:=z
       obtain⟨hc1,hc2,hc3⟩:=Zkb hY
       rw[List.drop_drop] at hc1
       have hr2e:r2=L.drop p2:=by rw[hc1,hc2]
       have hp2:p2≤L.length:=(by rw[List.length_drop] at hc3;omega)
       subst hr2e
       clear hc1 hc2 hc3 hY
       dsimp only at hX
       obtain⟨X2,hX2⟩:∃ X2,sdC [62,32] 43 bn p2 (L.drop p2)=X2:=⟨_,rfl⟩
       have HX2:Hid (sdC [62,32] 43 bn p2 (L.drop p2)=X2):=hX2
       rw[hX2] at hX
       have HXf:Hid (X=hkEnd A (an:Int) B (bn:Int) l1 X2):=(by show _=_;rw[← hX];unfold hkEnd;rfl)
       clear hX hX2
       refine hdvr.mono ?_
       rintro x w7 ⟨rfl,q7,hg7⟩
       have hx7:=hx7a.keep hg7 (fun e=>hHR (Option.some.inj e))
       have hr7:=hr7a.keep hg7 (fun e=>hQR (Option.some.inj e))
       have hown7:=ZhI hown7a hg7 hRB
       have g7:=ZdT g7a hg7
       have hw37:w3.heap.size≤w7.heap.size:=Nat.le_trans hz7a hg7.size
       clear hx7a hr7a hown7a q7a g7a hz7a hg7 hdvr hp1
       obtain⟨e0,e1,e2,e3,e4⟩:=hx7.cells
       have hg7s:w.heap.size≤w7.heap.size:=g7.size
       have HL7:Hid (∀ u,Fr w3.heap.size R w7 u→HS u (.slice lo L.length lc) L):=fun u hu=>HL.out u (ZdQ g7 hu hw3)
       have hs2:=Zhe w7 q7 HL7 HPl hp2 (by omega) HSl2 hw37 hRB [62,32] HG2 43 bn (by omega) (.slice o1 l1.length c1) l1 hl1k hown7 X2 HX2
       clear HL7
       go_wp2_with fail
       refine hs2.mono ?_
       cases X2 with
       | error z =>
        obtain⟨a,e⟩:=z
        have hXe:X=.error (a,e):=HXf.out
        subst hXe
        rintro x w8 ⟨⟨g,rfl,hg⟩,hgr⟩
        have hfin:=ZdQ g7 hgr hw3
        go_wp2
        exact⟨rfl,⟨_,rfl,hg⟩,hfin⟩
       | ok z =>
        obtain⟨l2,p3,r3⟩:=z
        have hXe:X=.ok (⟨A,(an:Int),B,(bn:Int),l1++l2⟩,p3,r3):=HXf.out
        subst hXe
        rintro x w8 ⟨v2,rfl,hown8,q8,hF8⟩
        obtain⟨o2,c2,rfl⟩:=(Zeo hown8).form
        have hx8:=hx7.fr hF8 hHl hHR
        have hr8:=hr7.fr hF8 hQl hQR
        have hg8:=ZdQ g7 hF8 hw3
        have hne8:(Value.slice o2 (l1++l2).length c2).ownBlock≠some H:=(by intro e;have:=ZhJ hown8 e;omega)
        have hne8q:(Value.slice o2 (l1++l2).length c2).ownBlock≠some w.heap.size:=(by intro e;have:=ZhJ hown8 e;omega)
        have hx9:=hx8.put4 (l1++l2) (.slice o2 (l1++l2).length c2)
        have hgs9:=ZdS w8 H 4 (.slice o2 (l1++l2).length c2)
        have hr9:=hr8.keep hgs9 (fun e=>hQH (Option.some.inj e))
        have hown9:=hown8.kept hgs9 (.inr hne8)
        have q9:=q8.keep hgs9 (fun e=>hHR (Option.some.inj e).symm)
        have hg9:=ZdR hg8 (B:=H) (by omega) 4 (.slice o2 (l1++l2).length c2)
        obtain⟨i0,i1,i2,i3,i4⟩:=hx8.cells
        have if4:=hx8.frozen 4
        have HN2:Hid ((l1++l2).length=(l1++l2).length):=rfl
        generalize hM:(l1++l2).length=M at *
        obtain⟨z0,z1,z2,z3,z4⟩:=hx9.cells
        dsimp only at z0 z1 z2 z3 z4 i0 i1 i2 i3 i4
        obtain⟨y0,y1,y2,y3,y4⟩:=hr9.cells
        have yf0:=hr9.frozen 0
        have yf1:=hr9.frozen 1
        have yf2:=hr9.frozen 2
        have yf3:=hr9.frozen 3
        have yf4:=hr9.frozen 4
        have hP:=hr9.putH5 A (an:Int) B (bn:Int) (l1++l2) (.slice o2 M c2)
        have hgP:=((((ZdR hg9 (B:=w.heap.size) (Nat.le_refl _) 0 (.int .i64 A)) |> fun h=>ZdR h (B:=w.heap.size) (Nat.le_refl _) 1 (.int .i64 (an:Int))) |> fun h=>ZdR h (B:=w.heap.size) (Nat.le_refl _) 2 (.int .i64 B)) |> fun h=>ZdR h (B:=w.heap.size) (Nat.le_refl _) 3 (.int .i64 (bn:Int))) |> fun h=>ZdR h (B:=w.heap.size) (Nat.le_refl _) 4 (.slice o2 M c2)
        have hownP:=Zdn hown9 (b:=w.heap.size) hne8q A (an:Int) B (bn:Int) (.slice o2 M c2)
        have qP:=Zdo q9 (b:=w.heap.size) (by omega) A (an:Int) B (bn:Int) (.slice o2 M c2)
        clear hx9 hx8 hr8 hr9 hown8 hown9 q8 q9 hg8 hg9 hgs9 hF8
        go_wp2
        refine bodyPost_ret (v:=hkV ⟨A,(an:Int),B,(bn:Int),l1++l2⟩ (.slice o2 M c2)) (results_cell_row rfl _ _ w.heap.size 45 #[.int .i64 A,.int .i64 (an:Int),.int .i64 B,.int .i64 (bn:Int),.slice o2 M c2] (0,0) _ rfl hP Tryz.underlying45 rfl (by kernel_rfl)) rfl ⟨_,rfl,?_,qP,hgP⟩
        dsimp only
        rw[hM]
        exact ZhM hownP (Nat.le_of_lt (by omega))
end

section
open Go.RowKit
theorem Zbe (p q:Addr) (w:World) :
  CallsD Tryz.prog 267 #[.pointer (some p),.pointer (some q)] .returning w fun e u' w'=>e=.returned (.tuple #[])∧u'=.returning∧w'=w:=by
 refine callsD_of_wpS Tryz.func267 rfl fun c₀ cs hu=>?_
 apply wpS_seq
 apply wpS_region
 simp[wpOpsS,go_sem,recoverD,hu,Tryz.ntmps267,Exit.thenS]
 apply wpS_seq
 apply wpS_region
 simp[wpOpsS,go_sem,Exit.thenS]
 refine wpS_cond (t:=false) (by simp[Act.eval,Array.replicate]) ?_
 simp only[Bool.false_eq_true,if_false]
 refine wpS_of_wp (wp_skip ?_)
 cases c₀
 simp_all [bodyPostS,results,Tryz.results267]
theorem Zbb (F0 F1 g:Nat) (v0 v1:Value) (older:List PanicEntry) (w:World) (h01:F0≠F1) (c0:w.cell? ⟨F0,0,none⟩=some v0) (f0:w.frozen? ⟨F0,0,none⟩=false) (c1:w.cell? ⟨F1,0,none⟩=some v1) (f1:w.frozen? ⟨F1,0,none⟩=false) :
  CallsD Tryz.prog 267 #[.pointer (some ⟨F0,0,none⟩),.pointer (some ⟨F1,0,none⟩)] (.panicking ({ v:=.iface 62 (.pointer (some ⟨g,0,none⟩)),recovered:=false }::older)) w fun e u' w'=>e=.returned (.tuple #[])∧u'=.panicking ({ v:=.iface 62 (.pointer (some ⟨g,0,none⟩)),recovered:=true }::older)∧w'=((w.setCell ⟨F0,0,none⟩ (.slice none 0 0)).setCell ⟨F1,0,none⟩ (.iface 62 (.pointer (some ⟨g,0,none⟩)))).drew:=by
 refine callsD_of_wpS Tryz.func267 rfl fun c₀ cs hu=>?_
 apply wpS_seq
 apply wpS_region
 simp[wpOpsS,go_sem,recoverD,hu,Tryz.ntmps267,Exit.thenS]
 apply wpS_seq
 apply wpS_region
 simp[wpOpsS,go_sem,Exit.thenS]
 refine wpS_cond (t:=true) (by simp[Act.eval,Array.replicate]) ?_
 simp only[if_true]
 refine wpS_of_wp ?_
 have hta:∀ (v:Value) (u:World),(Instr.typeAssert (.iface 62 v) 20 62 false).run Tryz.prog u=.ok v u:=fun _ _=>by kernel_rfl
 generalize hA:({ tmps:=_,defers:=[] }:Act)=A
 have hA2:A={ tmps:=#[.pointer (some ⟨F0,0,none⟩),.pointer (some ⟨F1,0,none⟩),.iface 62 (.pointer (some ⟨g,0,none⟩)),.iface 62 (.pointer (some ⟨g,0,none⟩)),.iface 62 (.pointer (some ⟨g,0,none⟩)),.bool true,undef,undef,undef],defers:=[] }:=hA.symm.trans rfl
 subst hA2
 clear hA
 go_region
 cases c₀
 simp_all [bodyPostS,results,Tryz.results267]
end

section
open Go.RowKit
def PanQ (Q:Exit→Act→World→Prop) (Pn:List PanicEntry→World→Prop) (p2 p3:Value) (ds:List Deferred):Exit→Act→World→Prop
 | .panic c,a,w=>Pn c w∧a.tmps.getD 2 undef=p2∧a.tmps.getD 3 undef=p3∧a.defers=ds
 | .normal,a,w=>Q .normal a w
 | _,_,_=>False
theorem PanQ.normal {Q:Exit→Act→World→Prop} {Pn:List PanicEntry→World→Prop} {p2 p3:Value} {ds:List Deferred} {a:Act} {w:World} (h:Q .normal a w):PanQ Q Pn p2 p3 ds .normal a w:=h
theorem Zml {P:Program} {id:Nat} {ops:Array Oper} {b:Bool} {Q:Exit→Act→World→Prop} {a:Act} {w:World} (Pn:List PanicEntry→World→Prop) (p2 p3:Value) (ds:List Deferred) (hP:∀ c a w,Pn c w→a.tmps.getD 2 undef=p2→a.tmps.getD 3 undef=p3→a.defers=ds→Q (.panic c) a w) (h:(Code.region id ops b).wp P (PanQ Q Pn p2 p3 ds) a w):(Code.region id ops b).wp P Q a w:=by
 refine Code.wp_mono (fun e a w h=>?_) h
 cases e with
 | panic c=>exact hP c a w h.1 h.2.1 h.2.2.1 h.2.2.2
 | normal=>exact h
 | _=>exact (h:False).elim
theorem Zia {Q:Exit→Act→World→Prop} {Pn:List PanicEntry→World→Prop} {p2 p3:Value} {ds:List Deferred} {d:Nat} {v:Value} (h2:d≠2) (h3:d≠3):∀ c a w,PanQ Q Pn p2 p3 ds (.panic c) (a.put (some d) v) w→PanQ Q Pn p2 p3 ds (.panic c) a w:=by
 rintro c a w ⟨x1,x2,x3,x4⟩
 refine⟨x1,?_,?_,x4⟩
 ·rw[← x2]
  simp[Act.put,Array.getD_eq_getD_getElem?,Array.getElem?_setIfInBounds_ne h2]
 ·rw[← x3]
  simp[Act.put,Array.getD_eq_getD_getElem?,Array.getElem?_setIfInBounds_ne h3]
theorem ZaX {P:Program} {A:Act} {op:Oper} {w:World} {F:Nat} {x:Operand} {xs:Array Operand} {ts:Array TypeId} (ho:op.op=.call { callee:=.value x,args:=xs,argTypes:=ts }) {cap:Array Value} (hxv:A.eval x=.func (.func F) #[] cap) {args:Array Value} (hx:xs.map A.eval=args) (hen:∀ args w,(callFunc F args).run P w=.ok (.enter F args) w):(execOp A.eval op).run P w=.ok (.enter F (args++cap)) w:=by
 have h1:=hen (args++cap) w
 simp only[execOp,ho,resolve,invoke]
 simp only[hxv,Deferred.ofValue,Sem.run_bind,Sem.run_pure,Result.andThen_ok,hx,Array.empty_append]
 exact h1
theorem ZdE {P:Program} {S:World→Prop} {md:Region.Mode} {ops:Array Oper} {Q:Exit→Act→World→Prop} {fuel:Nat} {listed:Array Bool} {A:Act} {w:World}
  (i d:Nat) (op:Oper) (hi:ops[i]?=some op) (hd:op.dst=some d) (hr:Region.ready md ops listed=[i]) (hwt:Region.wanted op (yielded ops A.tmps)=true)
  (F:Nat) (x:Operand) (xs:Array Operand) (ts:Array TypeId) (ho:op.op=.call { callee:=.value x,args:=xs,argTypes:=ts })
  (cap:Array Value) (hxv:A.eval x=.func (.func F) #[] cap) (args:Array Value) (hx:xs.map A.eval=args) (hen:∀ args w,(callFunc F args).run P w=.ok (.enter F args) w) (R:Value→World→Prop) (Pn:List PanicEntry→World→Prop)
  (hp:∀ c w',Pn c w'→Q (.panic c) A w')
  (hc:Calls P F (args++cap) w fun e w'=>(∃ v,e=.returned v∧S w'∧R v w')∨(∃ c,e=.panicked c∧Pn c w'))
  (h:∀ v w',S w'→R v w'→wpAnyH P md ops Q S fuel (listed.setIfInBounds i true) (A.put (some d) v) w') :
  wpAnyH P md ops Q S (fuel+1) listed A w:=by
 refine wpAnyH_ready hr (by simp) (AllReadyH.cons hi (fun K hK=>?_) AllReadyH.nil)
 refine ZkF hwt ?_
 unfold Oper.wp
 rw[ZaX ho hxv hx hen,Oper.upon_enter]
 refine hc.mono ?_
 rintro e w' (⟨v,rfl,hb,hR⟩ | ⟨c,rfl,hpn⟩)
 ·exact hK.out _ _ hb (fun hu=>by rw[hd];exact h v w' hu hR)
 ·exact hp c w' hpn
theorem ZdL {P:Program} {S:World→Prop} {md:Region.Mode} {ops:Array Oper} {Q:Exit→Act→World→Prop} {fuel:Nat} {listed:Array Bool} {A:Act} {w:World}
  (j e:Nat) (oq:Oper) (i d:Nat) (op:Oper) (hj:ops[j]?=some oq) (he:oq.dst=some e) (hi:ops[i]?=some op) (hd:op.dst=some d) (hr:Region.ready md ops listed=[j,i]) (hwq:Region.wanted oq (yielded ops A.tmps)=true) (hwt:Region.wanted op (yielded ops A.tmps)=true)
  (vq:Value) (wq:World) (hq:(execOp A.eval oq).run P w=.ok (.value vq) wq) (hS:S wq)
  (F:Nat) (x:Operand) (xs:Array Operand) (ts:Array TypeId) (ho:op.op=.call { callee:=.value x,args:=xs,argTypes:=ts })
  (cap:Array Value) (hxv:A.eval x=.func (.func F) #[] cap) (args:Array Value) (hx:xs.map A.eval=args) (hen:∀ args w,(callFunc F args).run P w=.ok (.enter F args) w) (R:Value→World→Prop) (Pn:List PanicEntry→World→Prop)
  (hp:∀ c w',Pn c w'→Q (.panic c) A w')
  (hc:Calls P F (args++cap) w fun e w'=>(∃ v,e=.returned v∧S w'∧R v w')∨(∃ c,e=.panicked c∧Pn c w'))
  (h2:wpAnyH P md ops Q S fuel (listed.setIfInBounds j true) (A.put (some e) vq) wq)
  (h:∀ v w',S w'→R v w'→wpAnyH P md ops Q S fuel (listed.setIfInBounds i true) (A.put (some d) v) w') :
  wpAnyH P md ops Q S (fuel+1) listed A w:=by
 refine wpAnyH_ready hr (by simp) (AllReadyH.cons hj (fun K hK=>?_) (AllReadyH.cons hi (fun K hK=>?_) AllReadyH.nil))
 ·refine ZkF hwq ?_
  unfold Oper.wp
  rw[hq,Oper.upon_value]
  exact hK.out _ _ hS (fun _=>by rw[he];exact h2)
 ·refine ZkF hwt ?_
  unfold Oper.wp
  rw[ZaX ho hxv hx hen,Oper.upon_enter]
  refine hc.mono ?_
  rintro e w' (⟨v,rfl,hb,hR⟩ | ⟨c,rfl,hpn⟩)
  ·exact hK.out _ _ hb (fun hu=>by rw[hd];exact h v w' hu hR)
  ·exact hp c w' hpn
theorem Zji (tmps:Array Value) (u:World) (F0 F1 n c:Nat) (o:Option Addr) (v1:Value) (h2:tmps.getD 2 undef=.pointer (some ⟨F0,0,none⟩)) (h3:tmps.getD 3 undef=.pointer (some ⟨F1,0,none⟩)) (c0:u.cell? ⟨F0,0,none⟩=some (.slice o n c)) (c1:u.cell? ⟨F1,0,none⟩=some v1) :
  (results Tryz.f221 tmps).run Tryz.prog u=.ok (.tuple #[.slice o n c,v1]) u:=by
 have hL0:(loadVar 40 ⟨F0,0,none⟩).run Tryz.prog u=.ok (.slice o n c) u:=by
  simp[loadVar,isAgg,underlying,Tryz.underlying40,c0,Result.andThen]
 have hL1:(loadVar 24 ⟨F1,0,none⟩).run Tryz.prog u=.ok v1 u:=by
  simp[loadVar,isAgg,underlying,Tryz.underlying24,c1,Result.andThen]
 have e2:tmps[2]?.getD undef=.pointer (some ⟨F0,0,none⟩):=by rw[← h2];simp
 have e3:tmps[3]?.getD undef=.pointer (some ⟨F1,0,none⟩):=by rw[← h3];simp
 simp[results,Tryz.results221,e2,e3,asAddr,hL0,hL1,Result.andThen]
end

end Go.Proofs.YtcniomgjikienaaGreatDoor
