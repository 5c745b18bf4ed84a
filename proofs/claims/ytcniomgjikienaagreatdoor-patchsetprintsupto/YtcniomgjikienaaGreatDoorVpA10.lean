/-
  Texts that belong together, joined: CpF, CpG, CpH, CpI, CpJ, CpK, PsD, CqR, CwG, CwH, CwI, CrA, CxR2, CrB.
-/
import Derived.Test.YtcniomgjikienaaGreatDoorVpA9
import Derived.Laws.StructEq
import Derived.BigQuiet

set_option maxHeartbeats 16000000
set_option maxRecDepth 100000
namespace Go.Proofs.YtcniomgjikienaaGreatDoor

section
open Go.RowKit
structure Ly (W:World) (X:Nat) (lv:Value) (acc:List Mk) (u:World):Prop where
 low:Below W.heap.size W u
 box:u.heap[X]?=some (.cells #[lv] 43)
 own:u.ownsRow W.heap.size 47 2 lv acc.length (mkcells acc)
 ge:W.heap.size≤X
section
variable {W u u':World} {X:Nat} {lv:Value} {acc:List Mk}
theorem Ly.keep (h:Ly W X lv acc u) (hb:Below u.heap.size u u'):Ly W X lv acc u':=⟨h.low.trans (hb.mono h.low.size),(hb.block X (Array.getElem?_eq_some_iff.1 h.box).1).trans h.box,ZhK h.own hb,h.ge⟩
theorem Ly.cell (h:Ly W X lv acc u):u.cell? ⟨X,0,none⟩=some lv:=by rw[Lib.cell_of_heap h.box];rfl
theorem Ly.frozen (h:Ly W X lv acc u):u.frozen? ⟨X,0,none⟩=false:=Lib.frozen_of_heap h.box 0
theorem ZhE {B:Nat} {e t:TypeId} {s:Nat} {v:Value} {n k:Nat} {xs:List Value} {cs:Array Value} {fr:Nat × Nat} (h:u.ownsRow B e s v n xs) (hb:u.heap[k]?=some (.cells cs t fr)) (he:e≠t):v.ownBlock≠some k:=by
 intro hg
 rcases h.2 with ⟨rfl,_⟩ | ⟨g,cap,cur,rfl,_,hg2,_⟩
 ·cases hg
 ·simp[Value.ownBlock] at hg
  subst hg
  rw[hb] at hg2
  simp at hg2
  exact he hg2.2.1.symm
theorem Ly.more (h:Ly W X lv acc u) {m:Mk} {lv':Value} {n:Nat} (hg:u.grownBy u' lv.ownBlock) (ho:u'.ownsRow W.heap.size 47 2 lv' n (mkcells (acc++[m]))) (hn:n=(acc++[m]).length):Ly W X lv' (acc++[m]) (u'.setCell ⟨X,0,none⟩ lv')∧u'.cell? ⟨X,0,none⟩=some lv∧u'.frozen? ⟨X,0,none⟩=false:=by
 subst hn
 have hb:u'.heap[X]?=some (.cells #[lv] 43):=(hg.block X (Array.getElem?_eq_some_iff.1 h.box).1 (fun e=>ZhE h.own h.box (by decide) e.symm)).trans h.box
 have hlow:Below W.heap.size W u':=h.low.grown hg h.low.size (fun j hj=>ZhJ h.own hj)
 refine⟨⟨hlow.setCell h.ge _,heap_setCell_same u' X 0 _ _ lv' hb,?_,h.ge⟩,by rw[Lib.cell_of_heap hb];rfl,Lib.frozen_of_heap hb 0⟩
 have hg2:=ZdS u' X 0 lv'
 refine⟨ho.1,?_⟩
 rcases ho.2 with q | ⟨g,cap,cur,rfl,q2,q3,q4⟩
 ·exact .inl q
 ·refine .inr ⟨g,cap,cur,rfl,q2,?_,q4⟩
  rw[hg2.block g (Array.getElem?_eq_some_iff.1 q3).1 (fun e=>by
   cases e
   rw[hb] at q3
   simp at q3)]
  exact q3
end
end

section
open Go.RowKit
end

section
open Go.RowKit
structure Sxc (w:World) (R S:Nat) (vL:Value) (x a b:Int) (v:Value) (m:List Mk) (p:Nat) (u:World):Prop where
 gr:w.grownBy u (some R)
 box:u.heap[S]?=some (.cells #[.int .i64 x,.int .i64 a,.int .i64 b,v] 308)
 own:u.ownsRow w.heap.size 47 2 v m.length (mkcells m)
 ck:Ck u R vL (p:Int)
 ge:w.heap.size≤S
 rl:R<w.heap.size
 nil:m=[]→v=.slice none 0 0
section
variable {w u u':World} {R S:Nat} {vL v:Value} {x a b:Int} {m:List Mk} {p:Nat}
theorem Sxc.keep (h:Sxc w R S vL x a b v m p u) (hb:Below u.heap.size u u'):Sxc w R S vL x a b v m p u':=⟨ZdT h.gr (ZfO hb _),(hb.block S (Array.getElem?_eq_some_iff.1 h.box).1).trans h.box,ZhK h.own hb,h.ck.low hb,h.ge,h.rl,h.nil⟩
theorem Sxc.cells (h:Sxc w R S vL x a b v m p u):u.cell? ⟨S,0,none⟩=some (.int .i64 x)∧u.cell? ⟨S,1,none⟩=some (.int .i64 a)∧u.cell? ⟨S,2,none⟩=some (.int .i64 b)∧u.cell? ⟨S,3,none⟩=some v:=by
 refine⟨?_,?_,?_,?_⟩<;>rw[Lib.cell_of_heap h.box]<;>rfl
theorem Sxc.frozen (h:Sxc w R S vL x a b v m p u) (j:Nat):u.frozen? ⟨S,j,none⟩=false:=Lib.frozen_of_heap h.box j
theorem Sxc.ne (h:Sxc w R S vL x a b v m p u):R≠S:=by have h1:=h.ge;have h2:=h.rl;omega
theorem Sxc.next (h:Sxc w R S vL x a b v m p u):Sxc w R S vL x a b v m (p+1) (u.setCell ⟨R,1,none⟩ (.int .i64 ((p:Int)+1))):=by
 have hg:=ZdS u R 1 (.int .i64 ((p:Int)+1))
 exact⟨ZdT h.gr hg,(hg.block S (Array.getElem?_eq_some_iff.1 h.box).1 (fun e=>h.ne (Option.some.inj e).symm)).trans h.box,ZhI h.own hg h.rl,by have:=h.ck.at ((p:Int)+1);simpa using this,h.ge,h.rl,h.nil⟩
theorem Sxc.more (h:Sxc w R S vL x a b v m p u) {y:Mk} {v':Value} {n:Nat} (hg:u.grownBy u' v.ownBlock) (ho:u'.ownsRow w.heap.size 47 2 v' n (mkcells (m++[y]))) (hn:n=(m++[y]).length):Sxc w R S vL x a b v' (m++[y]) p (u'.setCell ⟨S,3,none⟩ v')∧u'.heap[S]?=some (.cells #[.int .i64 x,.int .i64 a,.int .i64 b,v] 308):=by
 subst hn
 have hb:u'.heap[S]?=some (.cells #[.int .i64 x,.int .i64 a,.int .i64 b,v] 308):=(hg.block S (Array.getElem?_eq_some_iff.1 h.box).1 (fun e=>ZhE h.own h.box (by decide) e.symm)).trans h.box
 have hgR:w.grownBy u' (some R):=⟨hg.os.trans h.gr.os,hg.tape.trans h.gr.tape,hg.output.trans h.gr.output,Nat.le_trans h.gr.size hg.size,fun k h1 h2=>(hg.block k (Nat.lt_of_lt_of_le h1 h.gr.size) (fun e=>by have:=ZhJ h.own e.symm;omega)).trans (h.gr.block k h1 h2)⟩
 have hg2:=ZdS u' S 3 v'
 have hck:Ck u' R vL (p:Int):=h.ck.keep hg (fun e=>by have:=ZhJ h.own e.symm;have:=h.rl;omega)
 refine⟨⟨⟨hg2.os.trans hgR.os,hg2.tape.trans hgR.tape,hg2.output.trans hgR.output,Nat.le_trans hgR.size hg2.size,fun k h1 h2=>(hg2.block k (Nat.lt_of_lt_of_le h1 hgR.size) (fun e=>by cases e;have:=h.ge;omega)).trans (hgR.block k h1 h2)⟩,heap_setCell_same u' S 3 _ _ v' hb,?_,hck.keep hg2 (fun e=>h.ne (Option.some.inj e)),h.ge,h.rl,fun e=>by simp at e⟩,hb⟩
 refine⟨ho.1,?_⟩
 rcases ho.2 with q | ⟨g,cap,cur,rfl,q2,q3,q4⟩
 ·exact .inl q
 ·refine .inr ⟨g,cap,cur,rfl,q2,?_,q4⟩
  rw[hg2.block g (Array.getElem?_eq_some_iff.1 q3).1 (fun e=>by
   cases e
   rw[hb] at q3
   simp at q3)]
  exact q3
end
end

section
open Go.RowKit
attribute [local go_sem] ByteArray.extract_mk Zhc
theorem Sxc.cut {w u:World} {R S:Nat} {vL v:Value} {x a b:Int} {m m':List Mk} {p:Nat} (h:Sxc w R S vL x a b v m p u) {g j:Nat} {z:Value} (hv:v.ownBlock=some g) (ho:(u.setCell ⟨g,j,none⟩ z).ownsRow w.heap.size 47 2 v m'.length (mkcells m')) (hn:m'≠[]):Sxc w R S vL x a b v m' p (u.setCell ⟨g,j,none⟩ z):=by
 have hg:=ZdS u g j z
 have hge:=ZhJ h.own hv
 have hSg:some S≠some g:=fun e=>ZhE h.own h.box (by decide) (hv.trans e.symm)
 refine⟨ZdR h.gr hge j z,(hg.block S (Array.getElem?_eq_some_iff.1 h.box).1 hSg).trans h.box,ho,h.ck.keep hg (fun e=>by cases e;have:=h.rl;omega),h.ge,h.rl,fun e=>absurd e hn⟩
end

section
open Go.RowKit
end

section
open Go.RowKit
structure Hz (wa:World) (R S1 S2:Nat) (vL:Value) (x1 a1 b1:Int) (v1:Value) (l1:List Mk) (x2 a2 b2:Int) (v2:Value) (l2:List Mk) (p:Nat) (u:World):Prop where
 gr:wa.grownBy u (some R)
 o1:u.heap[S1]?=some (.cells #[.int .i64 x1,.int .i64 a1,.int .i64 b1,v1] 308)
 o2:u.heap[S2]?=some (.cells #[.int .i64 x2,.int .i64 a2,.int .i64 b2,v2] 308)
 n1:HMk u v1 l1
 n2:HMk u v2 l2
 ck:Ck u R vL (p:Int)
 g1:wa.heap.size≤S1
 g2:wa.heap.size≤S2
 ne:S1≠S2
 rl:R<wa.heap.size
section
variable {wa u u':World} {R S1 S2:Nat} {vL v1 v2:Value} {x1 a1 b1 x2 a2 b2:Int} {l1 l2:List Mk} {p:Nat}
theorem Hz.keep (h:Hz wa R S1 S2 vL x1 a1 b1 v1 l1 x2 a2 b2 v2 l2 p u) (hb:Below u.heap.size u u'):Hz wa R S1 S2 vL x1 a1 b1 v1 l1 x2 a2 b2 v2 l2 p u':=⟨ZdT h.gr (ZfO hb _),(hb.block S1 (Array.getElem?_eq_some_iff.1 h.o1).1).trans h.o1,(hb.block S2 (Array.getElem?_eq_some_iff.1 h.o2).1).trans h.o2,h.n1.keep hb (Nat.le_refl _),h.n2.keep hb (Nat.le_refl _),h.ck.low hb,h.g1,h.g2,h.ne,h.rl⟩
end
def zhk:Hk:=⟨0,0,0,0,[]⟩
def five (u:World) (b:Nat) (A AN B BN:Int) (z:Value):World:=((((u.setCell ⟨b,0,none⟩ (.int .i64 A)).setCell ⟨b,1,none⟩ (.int .i64 AN)).setCell ⟨b,2,none⟩ (.int .i64 B)).setCell ⟨b,3,none⟩ (.int .i64 BN)).setCell ⟨b,4,none⟩ z
end

section
open Go.RowKit Go.Proofs.YtcniomgjikienaaGreatDoor.Tx
attribute [local go_sem] Zhc
structure L2 (w:World) (h:Hk) (v:Value) (u:World):Prop where
 low:Below w.heap.size w u
 bh:Hx u w.heap.size h v
 br:Hx u (w.heap.size+1) ⟨0,0,0,0,[]⟩ (.slice none 0 0)
section
variable {w u u':World} {h:Hk} {v:Value}
theorem L2.keep (q:L2 w h v u) (hb:Below u.heap.size u u'):L2 w h v u':=⟨q.low.trans (hb.mono q.low.size),q.bh.low hb,q.br.low hb⟩
theorem L2.setB (q:L2 w h v u) (z:Int):L2 w ⟨h.A,h.AN,z,h.BN,h.ls⟩ v (u.setCell ⟨w.heap.size,2,none⟩ (.int .i64 z)) :=
 ⟨q.low.setCell (p:=⟨w.heap.size,2,none⟩) (Nat.le_refl _) _,heap_setCell_same u w.heap.size 2 _ _ _ q.bh,(Below.heap_setCell _ _ _ _ (by show w.heap.size+1≠w.heap.size;omega)).trans q.br⟩
theorem L2.setA (q:L2 w h v u) (z:Int):L2 w ⟨z,h.AN,h.B,h.BN,h.ls⟩ v (u.setCell ⟨w.heap.size,0,none⟩ (.int .i64 z)) :=
 ⟨q.low.setCell (p:=⟨w.heap.size,0,none⟩) (Nat.le_refl _) _,heap_setCell_same u w.heap.size 0 _ _ _ q.bh,(Below.heap_setCell _ _ _ _ (by show w.heap.size+1≠w.heap.size;omega)).trans q.br⟩
theorem L2.fin (q:L2 w h v u):(five u (w.heap.size+1) h.A h.AN h.B h.BN v).heap[w.heap.size+1]?=some (.cells #[.int .i64 h.A,.int .i64 h.AN,.int .i64 h.B,.int .i64 h.BN,v] 45 (0,0))∧Below w.heap.size w (five u (w.heap.size+1) h.A h.AN h.B h.BN v) :=
 ⟨q.br.put5 _ _ _ _ _,ZiK q.low (by omega) _ _ _ _ _⟩
theorem L2.new (w:World) (h:Hk) (v:Value):L2 w h v ((w.alloc (hkO h v)).alloc (hkO ⟨0,0,0,0,[]⟩ (.slice none 0 0))):=by
 have hz:(w.alloc (hkO h v)).heap.size=w.heap.size+1:=by simp
 refine⟨((Below.refl _ w).alloc (Nat.le_refl _) _).alloc (by rw[hz];omega) _,(Below.heap_alloc _ _ _ (by rw[hz];omega)).trans (Hx.new w _ _),?_⟩
 have:=Hx.new (w.alloc (hkO h v)) ⟨0,0,0,0,[]⟩ (.slice none 0 0)
 rw[hz] at this
 exact this
end
theorem ZyR (h:Hk) (ao:Option Addr) (an ac:Nat) (w:World) (hA:0≤h.A∧h.A≤2147483647) (hAN:0≤h.AN∧h.AN≤2147483647) (hB:0≤h.B∧h.B≤2147483647) (hBN:0≤h.BN∧h.BN≤2147483647) (R:Hk) (HR:Hid (lonH h=R)) :
  Calls Tryz.prog 82 #[hkV h (.slice ao an ac)] w fun e w'=>e=.returned (hkV R (.slice ao an ac))∧Below w.heap.size w w':=by
 have hat:atA h≤2147483647∧-1≤atA h:=by unfold atA;split<;>omega
 obtain⟨a,ha⟩:∃ a,atA h=a:=⟨_,rfl⟩
 have hcA:=fun u=>ZyK h (.slice ao an ac) u (by omega) (by omega) (by omega) (by omega) a (atB h) ha rfl
 have hR:=HR.out
 unfold lonH lonB at hR
 rw[ha] at hR hat
 generalize atB h=ab at hcA
 have q0:=L2.new w h (.slice ao an ac)
 obtain⟨A,AN,B,BN,ls⟩:=h
 unfold hkO at q0
 unfold hkV at hcA ⊢
 dsimp only at hA hAN hB hBN hcA hR q0
 obtain⟨d0,d1,d2,d3,d4⟩:=q0.bh.cells
 dsimp only at d0 d1 d2 d3
 have wa:IntKind.i64.wrap (a+1)=a+1:=wrap_small _ (by omega) (by omega)
 clear HR ha
 go_enter Tryz.func82,Tryz.ntmps82
 go_wp2_with fail
 refine (hcA _).mono ?_
 rintro e w1 ⟨rfl,hB1⟩
 have q1:=q0.keep hB1
 clear hcA q0 hB1 d0 d1 d2 d3 d4
 obtain⟨d0,d1,d2,d3,d4⟩:=q1.bh.cells
 dsimp only at d0 d1 d2 d3
 have f2:=q1.bh.frozen 2
 go_upto_region 3 with fail
 have q2:=q1.setB a
 clear q1 d0 d1 d2 d3 d4 f2
 generalize w1.setCell ⟨w.heap.size,2,none⟩ (.int .i64 a)=w2 at q2 ⊢
 obtain⟨d0,d1,d2,d3,d4⟩:=q2.bh.cells
 dsimp only at d0 d1 d2 d3
 have f0:=q2.bh.frozen 0
 have f2:=q2.bh.frozen 2
 by_cases i3:0<BN
 ·rw[if_pos i3] at hR
  go_upto_region 5 with fail
  have q3:=q2.setB (a+1)
  clear d0 d1 d2 d3 d4 f0 f2 q2
  generalize World.setCell _ ⟨w.heap.size,2,none⟩ (Value.int .i64 (a+1))=w3 at q3 ⊢
  obtain⟨d0,d1,d2,d3,d4⟩:=q3.bh.cells
  dsimp only at d0 d1 d2 d3
  have f0:=q3.bh.frozen 0
  have f2:=q3.bh.frozen 2
  by_cases i4:2147483647<a+1
  ·have HE:Hid ((⟨min 1 AN,AN,min 1 BN,BN,ls⟩:Hk)=R):=(by show _=_;rw[← hR,if_pos i4])
   obtain⟨X,hX⟩:∃ X,min (1:Int) AN=X:=⟨_,rfl⟩
   obtain⟨Y,hY⟩:∃ Y,min (1:Int) BN=Y:=⟨_,rfl⟩
   rw[hX,hY] at HE
   clear hR
   go_upto_region 7 with fail
   have q4:=q3.setA X
   clear d0 d1 d2 d3 d4 f0 f2
   clear q3
   generalize World.setCell _ ⟨w.heap.size,0,none⟩ (Value.int .i64 X)=w4 at q4 ⊢
   obtain⟨d0,d1,d2,d3,d4⟩:=q4.bh.cells
   dsimp only at d0 d1 d2 d3
   have f0:=q4.bh.frozen 0
   have f2:=q4.bh.frozen 2
   go_upto_region 8 with fail
   have q5:=q4.setB Y
   clear d0 d1 d2 d3 d4 f0 f2
   clear q4
   generalize World.setCell _ ⟨w.heap.size,2,none⟩ (Value.int .i64 Y)=w5 at q5 ⊢
   obtain⟨d0,d1,d2,d3,d4⟩:=q5.bh.cells
   dsimp only at d0 d1 d2 d3
   have f0:=q5.bh.frozen 0
   have f2:=q5.bh.frozen 2
   obtain⟨y0,y1,y2,y3,y4⟩:=q5.br.cells
   dsimp only at y0 y1 y2 y3
   have yf0:=q5.br.frozen 0
   have yf1:=q5.br.frozen 1
   have yf2:=q5.br.frozen 2
   have yf3:=q5.br.frozen 3
   have yf4:=q5.br.frozen 4
   obtain⟨fh,fb⟩:=q5.fin
   unfold five at fh fb
   dsimp only at fh fb
   clear q5
   go_wp2
   exact bodyPost_ret (results_cell_row rfl _ _ (w.heap.size+1) 45 #[.int .i64 X,.int .i64 AN,.int .i64 Y,.int .i64 BN,.slice ao an ac] (0,0) _ rfl fh Tryz.underlying45 rfl (by kernel_rfl)) rfl ⟨by first | (rw[← HE.out];done) | (rw[← HE.out];rfl),fb⟩
  ·have HE:Hid ((⟨A,AN,a+1,BN,ls⟩:Hk)=R):=(by show _=_;rw[← hR,if_neg i4])
   clear hR
   obtain⟨y0,y1,y2,y3,y4⟩:=q3.br.cells
   dsimp only at y0 y1 y2 y3
   have yf0:=q3.br.frozen 0
   have yf1:=q3.br.frozen 1
   have yf2:=q3.br.frozen 2
   have yf3:=q3.br.frozen 3
   have yf4:=q3.br.frozen 4
   obtain⟨fh,fb⟩:=q3.fin
   unfold five at fh fb
   dsimp only at fh fb
   clear q3
   go_wp2
   exact bodyPost_ret (results_cell_row rfl _ _ (w.heap.size+1) 45 #[.int .i64 A,.int .i64 AN,.int .i64 (a+1),.int .i64 BN,.slice ao an ac] (0,0) _ rfl fh Tryz.underlying45 rfl (by kernel_rfl)) rfl ⟨by first | (rw[← HE.out];done) | (rw[← HE.out];rfl),fb⟩
 ·rw[if_neg i3] at hR
  by_cases i4:2147483647<a
  ·omega
  ·have HE:Hid ((⟨A,AN,a,BN,ls⟩:Hk)=R):=(by show _=_;rw[← hR,if_neg i4])
   clear hR
   obtain⟨y0,y1,y2,y3,y4⟩:=q2.br.cells
   dsimp only at y0 y1 y2 y3
   have yf0:=q2.br.frozen 0
   have yf1:=q2.br.frozen 1
   have yf2:=q2.br.frozen 2
   have yf3:=q2.br.frozen 3
   have yf4:=q2.br.frozen 4
   obtain⟨fh,fb⟩:=q2.fin
   unfold five at fh fb
   dsimp only at fh fb
   clear q2
   go_wp2
   exact bodyPost_ret (results_cell_row rfl _ _ (w.heap.size+1) 45 #[.int .i64 A,.int .i64 AN,.int .i64 (a),.int .i64 BN,.slice ao an ac] (0,0) _ rfl fh Tryz.underlying45 rfl (by kernel_rfl)) rfl ⟨by first | (rw[← HE.out];done) | (rw[← HE.out];rfl),fb⟩
end

section
open Q Go.RowKit Go.Proofs.YtcniomgjikienaaGreatDoor.Tx
attribute [local go_sem] ZaB Zea
theorem Zqz (l:List UInt8) (w:World) (hl:l.length≤1099511627776) :
  Calls Tryz.prog 118 #[.string ⟨l.toArray⟩] w fun e w'=>e=.returned (.string ⟨(quote l).toArray⟩)∧Below w.heap.size w w':=by
 obtain⟨i0,hi,hz0,hz1,hz2⟩:=info_parts infoU8
 go_enter Tryz.func118,Tryz.ntmps118
 go_wp2
 go_loopw [3,4] (fun out i wr=>∃ (k:Nat) (acc:List UInt8),k≤l.length∧i=.int .i64 k∧wr.ownsRowF w.heap.size 5 1 out acc.length (Lib.byteCells acc)∧Below w.heap.size w wr∧acc++qbody (l.drop k)=[34]++qbody l∧acc.length≤3 * k+1) (fun _ i _=>l.length-(intOf i).toNat)
 case atStart =>
  refine⟨0,[34],Nat.zero_le _,rfl,?_,(Below.refl _ w).alloc (Nat.le_refl _) _,rfl,by simp⟩
  exact⟨rfl,.inr ⟨w.heap.size,1,_,(0,0),rfl,Nat.le_refl _,_root_.Go.heap_alloc_new w _,by simp,by simp,by simp[maxLen],rfl,rfl⟩⟩
 case round =>
  obtain⟨k,acc,hk,rfl,hown,hbr,hacc,hal⟩:=hrel
  by_cases hlt:k<l.length
  ·have hdk:l.drop k=l[k]::l.drop (k+1):=List.drop_eq_getElem_cons hlt
   have HD:Hid (acc++(q1 l[k]++qbody (l.drop (k+1)))=[34]++qbody l):=by
    rw[hdk] at hacc
    exact hacc
   clear hacc hdk
   have hx:l[k].toNat<256:=(l[k]).toNat_lt
   go_wp2_with fail
   refine (ZoX _ _).mono ?_
   rintro e w' ⟨rfl,rfl⟩
   cases hpl:plainI l[k].toNat
   ·have HP:Hid (q1 l[k]=[92,hexc (l[k].toNat / 16),hexc (l[k].toNat % 16)]):=by
     show q1 l[k]=_
     simp[q1,hpl]
    have hw1:IntKind.u8.wrap ((l[k].toNat:Int) / 16)=(l[k].toNat:Int) / 16:=Zsi (by omega) (by omega)
    have hw2:((l[k].toNat:Int)).tmod 16=(l[k].toNat:Int) % 16:=Int.tmod_eq_emod_of_nonneg (by omega)
    have hd1:((l[k].toNat:Int) / 16)<16:=by omega
    have hd2:((l[k].toNat:Int) % 16)<16:=by omega
    have hd3:0≤((l[k].toNat:Int) / 16):=by omega
    have hd4:0≤((l[k].toNat:Int) % 16):=by omega
    have e1:((l[k].toNat:Int) / 16).toNat=l[k].toNat / 16:=by omega
    have e2:((l[k].toNat:Int) % 16).toNat=l[k].toNat % 16:=by omega
    go_wp2_with fail
    go_region_law (refine Zrx rfl (.tmp 22) (.tmp 33) 83 rfl w.heap.size 5 i0 (.int .u8 0) 1 1 Tryz.underlying83 hi hz0 hz1 hz2 rfl (by decide) u3 acc.length (Lib.byteCells acc) (by simp[Act.eval]) (hown.alloc _) ⟨wr.heap.size,0,none⟩ 3 3 [.int .u8 92,.int .u8 (hexc (l[k].toNat / 16)).toNat,.int .u8 (hexc (l[k].toNat % 16)).toNat] (by simp[Act.eval]) rfl (Zoz _ _ _) (by simp[Value.oneCell']) (by unfold maxLen;omega) (by omega) (by have:=hbr.size;simp;omega) ?_;intro v' w2 hown' hgrow hfr)
    all_goals
     go_wp2
     go_roundw
     case rel =>
      refine⟨k+1,acc++[92,hexc (l[k].toNat / 16),hexc (l[k].toNat % 16)],by omega,by go_num,?_,(hbr.drew.alloc hbr.size _).grown hgrow (by have:=hbr.size;simp;omega) (fun j hj=>(hown.lt j hj).1),by rw[← HD.out,HP.out];simp,by simp;omega⟩
      rw[Lib.byteCells_append]
      simpa [Lib.byteCells] using hown'
     case measure=>simp[intOf];omega
   ·have HP:Hid (q1 l[k]=[l[k]]):=by
     show q1 l[k]=_
     simp[q1,hpl]
    go_wp2_with (at_builtin;refine Zmh _ rfl _ _ 83 rfl w.heap.size 5 i0 (.int .u8 0) 1 1 Tryz.underlying83 hi hz0 hz1 hz2 rfl (by decide) _ _ _ rfl (hown.alloc _) ⟨wr.heap.size,0,none⟩ 1 1 [.int .u8 (l[k].toNat:Int)] rfl rfl (Zoz _ _ _) (ZoL _ _) ?c3 ?c4 ?c5 ?_)
    case c3=>unfold maxLen;omega
    case c4=>omega
    case c5=>have:=hbr.size;simp;omega
    intro v' w2 hown' hgrow hfr
    go_wp2
    go_roundw
    case rel=>exact⟨k+1,acc++[l[k]],by omega,by go_num,by rw[ZaM];simpa using hown',(hbr.alloc hbr.size _).grown hgrow (by have:=hbr.size;simp;omega) (fun j hj=>(hown.lt j hj).1),by rw[← HD.out,HP.out];simp,by simp;omega⟩
    case measure=>simp[intOf];omega
  ·have HD:Hid (acc=[34]++qbody l):=by
    have e:l.drop k=[]:=List.drop_eq_nil_of_le (by omega)
    rw[e] at hacc
    show acc=_
    simpa [qbody] using hacc
   clear hacc
   go_wp2_with (at_builtin;refine Zmh _ rfl _ _ 83 rfl w.heap.size 5 i0 (.int .u8 0) 1 1 Tryz.underlying83 hi hz0 hz1 hz2 rfl (by decide) _ _ _ rfl (hown.alloc _) ⟨wr.heap.size,0,none⟩ 1 1 [.int .u8 34] rfl rfl (Zoz _ _ _) (ZoL _ _) ?c3 ?c4 ?c5 ?_)
   case c3=>unfold maxLen;omega
   case c4=>omega
   case c5=>have:=hbr.size;simp;omega
   intro v' w2 hown' hgrow hfr
   have hcs:=ZmJ (P:=Tryz.prog) w2 83 9 5 w.heap.size v' (acc++[34]) Tryz.underlying83 Tryz.underlying5 Tryz.underlying9 (by rw[ZaM];simpa using hown')
   go_wp2
   go_ret
   rw[HD.out]
   exact⟨rfl,(hbr.alloc hbr.size _).grown hgrow (by have:=hbr.size;simp;omega) (fun j hj=>(hown.lt j hj).1)⟩
end

section
open Go.RowKit Go.Proofs.YtcniomgjikienaaGreatDoor.Tx
theorem ZuF {u:World} {a:Addr} {z:Int} (h:u.cell? a=some (.int .u8 z)) {op:Oper} (x:Operand) (ho:op.op=.load 5 x) {ev:Operand→Value} (hx:ev x=.pointer (some a)) :
  (execOp ev op).run Tryz.prog u=.ok (.value (.int .u8 z)) u:=by
 simp only[execOp,ho,hx]
 go_simp
theorem ZuE {u:World} {a:Addr} {s:ByteArray} (h:u.cell? a=some (.string s)) {op:Oper} (x:Operand) (ho:op.op=.load 9 x) {ev:Operand→Value} (hx:ev x=.pointer (some a)) :
  (execOp ev op).run Tryz.prog u=.ok (.value (.string s)) u:=by
 simp only[execOp,ho,hx]
 go_simp
theorem ZuD {u:World} {b off n c i:Nat} (hi:i<n) {op:Oper} (x y:Operand) (ho:op.op=.indexAddr 83 x y) {ev:Operand→Value} (hx:ev x=.slice (some ⟨b,off,none⟩) n c) (hy:ev y=.int .i64 (i:Int)) :
  (execOp ev op).run Tryz.prog u=.ok (.value (.pointer (some ⟨b,off+i,none⟩))) u:=by
 have i1:0≤(i:Int):=by omega
 have i2:(i:Int)<(n:Int):=by omega
 simp only[execOp,ho,hx,hy]
 go_simp
theorem Zwl {w:World} {ao:Option Addr} {n c:Nat} {l:List Int} (h:Holds w (.slice ao n c) n (ucells l)) (hl:l.length=n) (h0:0<n):∃ b off,ao=some ⟨b,off,none⟩∧∀ k (hk:k<l.length),w.cell? ⟨b,off+k,none⟩=some (.int .u8 l[k]):=by
 rcases h with ⟨_,h1,_⟩ | ⟨ad,c',h,_,hc⟩
 ·omega
 ·cases h
  have h1:=hc 0 _ (List.getElem?_eq_getElem (by rw[ZAD];omega))
  obtain⟨b,off,rfl⟩:=Zap h1
  refine⟨b,off,rfl,fun k hk=>?_⟩
  have:=hc k (.int .u8 l[k]) (by simp[ucells,hk])
  rw[Zao] at this
  exact this
theorem ZAl (sg:Int) (l:List Mk) (sh:List Int) (k:Nat) (h:l.length=sh.length) (hk:k<l.length):sidZ sg (l.drop k) (sh.drop k)=(if l[k].sg=32∨l[k].sg=sg then lnL [UInt8.ofNat (sh[k]'(by omega)).toNat,32] l[k].tx else [])++sidZ sg (l.drop (k+1)) (sh.drop (k+1)):=by
 rw[List.drop_eq_getElem_cons hk,List.drop_eq_getElem_cons (show k<sh.length by omega)]
 rfl
theorem Zur (B b:Nat) (v:Value) (sg:Int) (l:List Mk) (sh:List Int) (lv sv:Value) (acc Z:List UInt8) (w:World) (h:Pg B b v acc w) (hBw:B≤w.heap.size) (hll:l.length≤1099511627776) (HSl:Hid (l.length=sh.length)) (HSh:Hid (∀ x∈sh,0≤x∧x<256)) (HTx:Hid (∀ m∈l,m.tx.length≤1099511627776))
  (hlv:HMk w lv l) (HL:Hid (∀ v' u,Wr B b v v' w u→HMk u lv l)) (HS:Hid (∀ v' u,Wr B b v v' w u→Holds u sv sh.length (ucells sh)))
  (HZ:Hid (acc++(if hasM sg l=true then sidZ sg l sh else []).flatten=Z)) (hZ:Z.length≤70368744177664) :
  Calls Tryz.prog 220 #[.pointer (some ⟨b,0,none⟩),lv,sv,.int .u8 sg] w fun e w'=>e=.returned (.tuple #[])∧∃ v',Pg B b v' Z w'∧Wr B b v v' w w':=by
 obtain⟨lo,lc,rfl⟩:=HMk.form hlv
 obtain⟨so,sc,rfl⟩:∃ so sc,sv=.slice so sh.length sc:=(HS.out v w (Wr.refl _ _ _ _)).form
 cases hh:hasM sg l with
 | false =>
  have HE:Hid (acc=Z):=(by show _=_;have h:=HZ.out;rw[hh,if_neg (by decide)] at h;simpa using h)
  have hc:=ZtM sg l _ w hlv hll false hh
  clear HZ hh HL HS
  go_enter Tryz.func220,Tryz.ntmps220
  go_wp2_with fail
  refine hc.mono ?_
  rintro e w1 ⟨rfl,hB1⟩
  go_wp2
  first
   | go_end0
   | refine bodyPost_ret (results_none rfl _ _ _) rfl ?_
   | refine bodyPost_end (results_none rfl _ _ _) rfl ?_
  exact⟨rfl,v,by rw[← HE.out];exact h.low hB1,Wr.low hB1 hBw⟩
 | true =>
  have HZ0:Hid (acc++(sidZ sg (l.drop 0) (sh.drop 0)).flatten=Z):=(by have h:=HZ.out;rw[hh,if_pos rfl] at h;exact h)
  have hc:=ZtM sg l _ w hlv hll true hh
  clear HZ hh
  rw[← HSl.out] at HS
  rw[← HSl.out]
  go_enter Tryz.func220,Tryz.ntmps220
  go_wp2_with fail
  refine hc.mono ?_
  rintro e w1 ⟨rfl,hB1⟩
  have hP1:=h.low hB1
  have hW1:Wr B b v v w w1:=Wr.low hB1 hBw
  clear hc hB1 h
  go_wp2
  go_loopw [16] (fun i wr=>∃ (k:Nat) (v1:Value) (ac:List UInt8),k≤l.length∧i=.int .i64 k∧Pg B b v1 ac wr∧Wr B b v v1 w wr∧Hid (ac++(sidZ sg (l.drop k) (sh.drop k)).flatten=Z)) (fun i _=>l.length-(intOf i).toNat)
  case atStart=>exact⟨0,v,acc,Nat.zero_le _,by go_num,hP1,hW1,HZ0⟩
  case round =>
  clear HZ0 hP1 hW1
  obtain⟨k,v1,ac,hk,rfl,hP,hW,HI⟩:=hrel
  have hsz:=hW.size
  by_cases hlt:k<l.length
  ·obtain⟨bk,off,rfl,hbk,hcl⟩:=HMk.at (HL.out v1 wr hW) (by omega)
   obtain⟨sb,soff,rfl,hscl⟩:=Zwl (HS.out v1 wr hW) HSl.out.symm (by omega)
   obtain⟨c0,c1⟩:=hcl k hlt
   have s0:=hscl k (by have:=HSl.out;omega)
   have HI2:=HI.out
   rw[ZAl sg l sh k HSl.out hlt] at HI2
   have hx:=HSh.out (sh[k]'(by have:=HSl.out;omega)) (List.getElem_mem _)
   have htx:=HTx.out l[k] (List.getElem_mem _)
   obtain⟨m,hm⟩:∃ m,l[k]=m:=⟨_,rfl⟩
   obtain⟨x,hxx⟩:∃ x,sh[k]'(by have:=HSl.out;omega)=x:=⟨_,rfl⟩
   rw[hm] at c0 c1 HI2 htx
   rw[hxx] at s0 HI2 hx
   have HX:Hid (sh[k]'(by have:=HSl.out;omega)=x):=hxx
   clear hcl hscl HI hm hxx
   have i1:(0:Int)≤(k:Int):=by omega
   have i2:(k:Int)<(l.length:Int):=by omega
   obtain⟨q,hq⟩:∃ q:Bool,decide (m.sg=32∨m.sg=sg)=q:=⟨_,rfl⟩
   have HQ:Hid (decide (m.sg=32∨m.sg=sg)=q):=hq
   clear hq
   go_upto_region 4 with fail
   go_cut [29] from 17 to 38 (fun cv wz=>cv=.bool q∧wz=wr.alloc (.cells #[.int .u8 m.sg,.string ⟨m.tx.toArray⟩] 47))
   case first =>
    by_cases h1:m.sg=32
    ·have e1:(m.sg == 32)=true:=beq_iff_eq.2 h1
     have HE:Hid (true=q):=(by show _=_;rw[← HQ.out];simp[h1])
     clear h1
     go_wp2
     go_meet
     case rel=>exact⟨by rw[← HE.out],rfl⟩
    ·have e1:(m.sg == 32)=false:=beq_eq_false_iff_ne.2 h1
     have HE:Hid ((m.sg == sg)=q):=(by show _=_;rw[← HQ.out];simp only[h1,false_or];rfl)
     clear h1
     go_wp2
     go_meet
     case rel=>exact⟨by rw[← HE.out],rfl⟩
   case rest =>
   obtain⟨rfl,rfl⟩:=hcut
   have hBm:Below wr.heap.size wr (wr.alloc (.cells #[.int .u8 m.sg,.string ⟨m.tx.toArray⟩] 47)):=(Below.refl _ wr).alloc (Nat.le_refl _) _
   have hPm:=hP.low hBm
   have hWm:=hW.trans (Wr.low hBm (Nat.le_trans hBw hsz))
   have hMb:(wr.alloc (.cells #[.int .u8 m.sg,.string ⟨m.tx.toArray⟩] 47)).heap[wr.heap.size]?=some (.cells #[.int .u8 m.sg,.string ⟨m.tx.toArray⟩] 47):=heap_alloc_new wr _
   have hOff:Off wr.heap.size b v1:=⟨by have:=Bld.lt hP;omega,fun e=>by have:=(hP.2.2.1.lt _ e).2;omega⟩
   have hsm:wr.heap.size≤(wr.alloc (.cells #[.int .u8 m.sg,.string ⟨m.tx.toArray⟩] 47)).heap.size:=by simp
   clear c0 c1 s0
   generalize wr.alloc (.cells #[.int .u8 m.sg,.string ⟨m.tx.toArray⟩] 47)=Wm at hPm hWm hMb hsm hBm ⊢
   generalize wr.heap.size=M at hMb hOff hsm
   cases q with
   | true =>
    have hq1:m.sg=32∨m.sg=sg:=of_decide_eq_true HQ.out
    rw[if_pos hq1,List.flatten_append,← List.append_assoc] at HI2
    obtain⟨A2,hA2⟩:∃ A2,ac++(lnL [UInt8.ofNat x.toNat,32] m.tx).flatten=A2:=⟨_,rfl⟩
    rw[hA2] at HI2
    have HI3:Hid (A2++(sidZ sg (l.drop (k+1)) (sh.drop (k+1))).flatten=Z):=HI2
    have hAl:A2.length≤70368744177664:=(by
     have:=congrArg List.length HI2
     rw[List.length_append] at this
     omega)
    have hcl:∀ (v':Value) (u:World),Wr B b v v' w u→u.cell? ⟨sb,soff+k,none⟩=some (.int .u8 x):=(by
     intro v' u hu
     obtain⟨sb',soff',he,hsc⟩:=Zwl (HS.out v' u hu) HSl.out.symm (by omega)
     cases he
     rw[hsc k (by have:=HSl.out;omega)]
     rw[HX.out])
    have d0:Wm.drew.cell? ⟨sb,soff+k,none⟩=some (.int .u8 x):=hcl _ _ (hWm.trans (Wr.low ((Below.refl _ Wm).drew) (by have:=hWm.size;omega)))
    have d1:Wm.drew.cell? ⟨M,1,none⟩=some (.string ⟨m.tx.toArray⟩):=(by rw[Lib.cell_of_heap (w:=Wm.drew) hMb];rfl)
    have hPd:Pg B b v1 ac Wm.drew:=hPm.low ((Below.refl _ Wm).drew)
    have hWd:Wr B b v v1 w Wm.drew:=hWm.trans (Wr.low ((Below.refl _ Wm).drew) (by have:=hWm.size;omega))
    have HC:Hid (Calls Tryz.prog 266 (#[.pointer (some ⟨b,0,none⟩),.int .u8 x,.string ⟨m.tx.toArray⟩]++#[]) Wm.drew fun e w2=>∃ v2,e=.returned v2∧(w2.cell? ⟨sb,soff+k,none⟩=some (.int .u8 x)∧w2.cell? ⟨M,1,none⟩=some (.string ⟨m.tx.toArray⟩))∧v2=.tuple #[]∧∃ v',Pg B b v' A2 w2∧Wr B b v v' w w2):=(by
     refine (Zuh B b v1 x hx.1 hx.2 ac m.tx A2 Wm.drew hPd (Nat.le_trans hBw hWd.size) hA2 hAl htx).mono ?_
     rintro e w2 ⟨rfl,v2,h1,h2⟩
     have h3:=hWd.trans h2
     obtain⟨h4,_⟩:=h2.block (k:=M) hMb hOff
     exact⟨_,rfl,⟨hcl _ _ h3,by rw[Lib.cell_of_heap h4];rfl⟩,rfl,v2,h1,h3⟩)
    clear HI2 hA2 HQ hcl hPd hWd hPm hWm hP hW hMb hOff HL HS
    go_upto_region 5 with fail
    refine wp_region_noPanic ?_
    refine wp_region_held_drew (S:=fun u=>u.cell? ⟨sb,soff+k,none⟩=some (.int .u8 x)∧u.cell? ⟨M,1,none⟩=some (.string ⟨m.tx.toArray⟩)) (by kernel_rfl) ⟨d0,d1⟩ (fun hHeld=>?_)
    generalize Wm.drew=wd at hHeld HC ⊢
    refine Y_t 0 30 _ (.pointer (some ⟨b,0,none⟩)) rfl (Or.inl ⟨by kernel_rfl,fun u hu=>by kernel_rfl⟩) hHeld ?_
    simp only[Act.put,Y_a,Y_b,Y_c]
    refine Y_t 1 31 _ (.slice (some ⟨sb,soff,none⟩) l.length sc) rfl (Or.inl ⟨by kernel_rfl,fun u hu=>by kernel_rfl⟩) hHeld ?_
    simp only[Act.put,Y_a,Y_b,Y_c]
    refine Y_t 2 32 _ (.int .i64 (k:Int)) rfl (Or.inl ⟨by kernel_rfl,fun u hu=>by kernel_rfl⟩) hHeld ?_
    simp only[Act.put,Y_a,Y_b,Y_c]
    refine Y_t 3 33 _ (.pointer (some ⟨sb,soff+k,none⟩)) rfl (Or.inl ⟨by kernel_rfl,fun u hu=>ZuD (c:=sc) hlt (.tmp 31) (.tmp 32) (by kernel_rfl) (by kernel_rfl) (by kernel_rfl)⟩) hHeld ?_
    simp only[Act.put,Y_a,Y_b,Y_c]
    refine Y_t 4 34 _ (.int .u8 x) rfl (Or.inl ⟨by kernel_rfl,fun u hu=>ZuF hu.1 (.tmp 33) (by kernel_rfl) (by kernel_rfl)⟩) hHeld ?_
    simp only[Act.put,Y_a,Y_b,Y_c]
    refine Y_t 5 35 _ (.pointer (some ⟨M,1,none⟩)) rfl (Or.inl ⟨by kernel_rfl,fun u hu=>by kernel_rfl⟩) hHeld ?_
    simp only[Act.put,Y_a,Y_b,Y_c]
    refine Y_t 6 36 _ (.string ⟨m.tx.toArray⟩) rfl (Or.inl ⟨by kernel_rfl,fun u hu=>ZuE hu.2 (.tmp 35) (by kernel_rfl) (by kernel_rfl)⟩) hHeld ?_
    simp only[Act.put,Y_a,Y_b,Y_c]
    refine Y_e 7 37 _ rfl 266 (.func 266) #[.tmp 30,.tmp 34,.tmp 36] #[267,5,9] (by kernel_rfl) #[] (by kernel_rfl) #[.pointer (some ⟨b,0,none⟩),.int .u8 x,.string ⟨m.tx.toArray⟩] (by kernel_rfl) (enters_of Tryz.func266 (by kernel_rfl) rfl) (fun v2 w2=>v2=.tuple #[]∧∃ v',Pg B b v' A2 w2∧Wr B b v v' w w2) ?_ ?_
    ·exact HC.out
    rintro _ w2 _ ⟨rfl,v2,hP2,hW2⟩
    simp only[Act.put,Y_a,Y_b,Y_c]
    refine wpAnyH_done (by kernel_rfl) ?_ _
    refine NoPanic.normal ?_
    clear HC hHeld
    go_wp2
    exact⟨⟨k+1,v2,A2,by omega,by go_num,hP2,hW2,HI3⟩,by simp[intOf];omega⟩
   | false =>
    have hq1:¬ (m.sg=32∨m.sg=sg):=of_decide_eq_false HQ.out
    rw[if_neg hq1,List.nil_append] at HI2
    have HI3:Hid (ac++(sidZ sg (l.drop (k+1)) (sh.drop (k+1))).flatten=Z):=HI2
    clear HI2 HQ
    go_wp2
    exact⟨⟨k+1,v1,ac,by omega,by go_num,hPm,hWm,HI3⟩,by simp[intOf];omega⟩
  ·have hend:decide ((k:Int)<(l.length:Int))=false:=decide_eq_false (by omega)
   have HE:Hid (ac=Z):=(by
    have h:=HI.out
    rw[List.drop_of_length_le (by omega)] at h
    show _=_
    simpa [sidZ] using h)
   clear HI
   go_wp2
   first
    | go_end0
    | refine bodyPost_ret (results_none rfl _ _ _) rfl ?_
    | refine bodyPost_end (results_none rfl _ _ _) rfl ?_
   exact⟨rfl,v1,by rw[← HE.out];exact hP,hW⟩
end

section
open Go.RowKit Go.Proofs.YtcniomgjikienaaGreatDoor.Tx
theorem Hx.wr {B b:Nat} {v v':Value} {w w':World} {M:Nat} {h:Hk} {y:Value} (q:Hx w M h y) (hw:Wr B b v v' w w') (ho:Off M b v):Hx w' M h y∧Off M b v':=hw.block q ho
theorem ZAg {B b base:Nat} {v:Value} {w:World} {sv:Value} {n:Nat} {xs:List Value} (h:w.ownsRow base 5 1 sv n xs) (hb:b<base) (hv:∀ g,v.ownBlock=some g→g<base):∀ (v':Value) (u:World),Wr B b v v' w u→Holds u sv n xs:=by
 intro v' u hw
 rcases h.2 with ⟨rfl,h0⟩ | ⟨g,cap,cur,rfl,hg,hgb,hnc,_⟩
 ·exact .inl ⟨rfl,h0,List.eq_nil_of_length_eq_zero (by rw[h.1,h0,Nat.zero_mul])⟩
 ·refine .inr ⟨⟨g,0,none⟩,cap,rfl,hnc,fun j x hj=>?_⟩
  have h1:=h.cells (g:=g) rfl j x hj
  obtain⟨h2,_⟩:=hw.block hgb ⟨by omega,fun e=>by have:=hv g e;omega⟩
  rw[Zao] at h1 ⊢
  rw[World.cell?_of_block (w:=w) (by show u.heap[g]?=w.heap[g]?;rw[h2,hgb])]
  exact h1
theorem ZAj (l:List Mk) (h:∀ m∈l,okS m.sg=true):∀ r a,∀ x∈shwL r a l,0≤x∧x<256:=by
 induction l with
 | nil=>intro r a x hx;cases hx
 | cons m l ih =>
  intro r a x hx
  have hi:=ih fun y hy=>h y (by simp[hy])
  have hm:=h m (by simp)
  have hc:m.sg=32∨m.sg=45∨m.sg=43:=by simp[okS] at hm;omega
  simp only[shwL] at hx
  split at hx
  ·rcases List.mem_cons.1 hx with rfl | hx
   ·omega
   ·exact hi _ _ x hx
  ·rcases List.mem_cons.1 hx with rfl | hx
   ·split<;>omega
   ·exact hi _ _ x hx
theorem ZAp (sg:Int) (l:List Mk):(if hasM sg l=true then sidZ sg l (shwL false false l) else [])=sideL sg l:=by
 unfold sideL
 rw[ZAo]
 rfl
theorem ZtZ {h:Hk} (hc:chkH h=0):∀ m∈h.ls,okS m.sg=true:=by
 obtain⟨_,hf,_⟩:=ZtX hc
 exact fun m hm=>(((Zdq _).1 hf).1 m hm).2
theorem Zud (B b:Nat) (v:Value) (h:Hk) (y:Value) (acc Z:List UInt8) (w:World) (hP:Pg B b v acc w) (hBw:B≤w.heap.size) (hll:h.ls.length≤1099511627776) (HTx:Hid (∀ m∈h.ls,m.tx.length≤1099511627776)) (HC:Hid (chkH h=0))
  (HL:Hid (∀ u,Below B w u→HMk u y h.ls)) (HT:Hid (∀ u,Below B w u→Tab10 u)) (HZ:Hid (acc++(hkL h).flatten=Z)) (hZ:Z.length≤70368744177664) :
  Calls Tryz.prog 178 #[.pointer (some ⟨b,0,none⟩),hkV h y] w fun e w'=>e=.returned (.tuple #[])∧∃ v',Pg B b v' Z w'∧Wr B b v v' w w':=by
 obtain⟨lo,lc,rfl⟩:=HMk.form (HL.out w (Below.refl _ _))
 have HSg:Hid (∀ x∈shwL false false h.ls,0≤x∧x<256):=ZAj _ (ZtZ HC.out) _ _
 have hr:=(ZtX HC.out).1
 obtain⟨r1,r2,r3,r4,r5,r6,rx⟩:=ZzK hr
 clear rx
 obtain⟨r7,r8⟩:=ZtS hr
 have hSl:=ZAh h.ls false false
 have HS45:=ZAp 45 h.ls
 have HS43:=ZAp 43 h.ls
 obtain⟨A,AN,Bn,BN,ls⟩:=h
 dsimp only at hll r1 r2 r3 r4 r5 r6 r7 r8 hSl HS45 HS43
 obtain⟨R,hR⟩:∃ R,shwL false false ls=R:=⟨_,rfl⟩
 obtain⟨T1,hT1⟩:∃ T,spanT A AN=T:=⟨_,rfl⟩
 obtain⟨T2,hT2⟩:∃ T,spanT Bn BN=T:=⟨_,rfl⟩
 have t1:=ZAr (p:=A) (n:=AN) r1 r2 r7
 have t2:=ZAr (p:=Bn) (n:=BN) r4 r5 r8
 rw[hT1] at t1
 rw[hT2] at t2
 obtain⟨X1,hX1⟩:∃ X,(if hasM 45 ls=true then sidZ 45 ls R else []).flatten=X:=⟨_,rfl⟩
 obtain⟨X2,hX2⟩:∃ X,(if hasM 43 ls=true then sidZ 43 ls R else []).flatten=X:=⟨_,rfl⟩
 obtain⟨Z1,hZ1⟩:∃ Y,acc++starsT++[10]=Y:=⟨_,rfl⟩
 obtain⟨U1,hU1⟩:∃ Y,[42,42,42,32]++T1=Y:=⟨_,rfl⟩
 obtain⟨U2,hU2⟩:∃ Y,[45,45,45,32]++T2=Y:=⟨_,rfl⟩
 obtain⟨V1,hV1⟩:∃ Y,U1++[32,42,42,42,42]=Y:=⟨_,rfl⟩
 obtain⟨V2,hV2⟩:∃ Y,U2++[32,45,45,45,45]=Y:=⟨_,rfl⟩
 obtain⟨Z2,hZ2⟩:∃ Y,Z1++V1++[10]=Y:=⟨_,rfl⟩
 obtain⟨Z3,hZ3⟩:∃ Y,Z2++X1=Y:=⟨_,rfl⟩
 obtain⟨Z4,hZ4⟩:∃ Y,Z3++V2++[10]=Y:=⟨_,rfl⟩
 have HE:Hid (Z4++X2=Z):=(by
  show _=_
  rw[← HZ.out,← hZ4,← hZ3,← hZ2,← hZ1,← hV1,← hV2,← hU1,← hU2,← hX1,← hX2,← hR,HS45,HS43,← hT1,← hT2]
  simp[hkL,rlT])
 have hE:=congrArg List.length HE.out
 have l4:=congrArg List.length hZ4
 have l3:=congrArg List.length hZ3
 have l2:=congrArg List.length hZ2
 have l1:=congrArg List.length hZ1
 simp only[List.length_append] at hE l4 l3 l2 l1
 have b4:Z4.length≤70368744177664:=by omega
 have b3:Z3.length≤70368744177664:=by omega
 have b2:Z2.length≤70368744177664:=by omega
 have b1:Z1.length≤70368744177664:=by omega
 have u1:=congrArg List.length hU1
 have u2:=congrArg List.length hU2
 simp only[List.length_append,List.length_cons,List.length_nil] at u1 u2
 have q1:=Zsl (x:=[42,42,42,32]) (y:=T1) (by unfold Fits;simp only[List.length_cons,List.length_nil];omega) Tryz.prog
 have q2:=Zsl (x:=U1) (y:=[32,42,42,42,42]) (by unfold Fits;simp only[List.length_cons,List.length_nil];omega) Tryz.prog
 have q3:=Zsl (x:=[45,45,45,32]) (y:=T2) (by unfold Fits;simp only[List.length_cons,List.length_nil];omega) Tryz.prog
 have q4:=Zsl (x:=U2) (y:=[32,45,45,45,45]) (by unfold Fits;simp only[List.length_cons,List.length_nil];omega) Tryz.prog
 rw[hU1] at q1
 rw[hU2] at q3
 rw[hV1] at q2
 rw[hV2] at q4
 have HRl:Hid (ls.length=R.length):=(by show _=_;rw[← hR,hSl])
 rw[hR] at HSg
 have HR:Hid (shwL false false ls=R):=hR
 have HT1:Hid (spanT A AN=T1):=hT1
 have HT2:Hid (spanT Bn BN=T2):=hT2
 have HX1:Hid (Z2++(if hasM 45 ls=true then sidZ 45 ls R else []).flatten=Z3):=(by show _=_;rw[hX1];exact hZ3)
 have HX2:Hid (Z4++(if hasM 43 ls=true then sidZ 43 ls R else []).flatten=Z):=(by show _=_;rw[hX2];exact HE.out)
 have HZ1:Hid (acc++starsT++[10]=Z1):=hZ1
 have HZ2:Hid (Z1++V1++[10]=Z2):=hZ2
 have HZ4:Hid (Z3++V2++[10]=Z4):=hZ4
 have hBm:Below w.heap.size w (w.alloc (.cells #[.int .i64 A,.int .i64 AN,.int .i64 Bn,.int .i64 BN,.slice lo ls.length lc] 45)):=(Below.refl _ w).alloc (Nat.le_refl _) _
 have hMx:Hx (w.alloc (.cells #[.int .i64 A,.int .i64 AN,.int .i64 Bn,.int .i64 BN,.slice lo ls.length lc] 45)) w.heap.size ⟨A,AN,Bn,BN,ls⟩ (.slice lo ls.length lc):=heap_alloc_new w _
 have hOff:Off w.heap.size b v:=⟨by have:=Bld.lt hP;omega,fun e=>by have:=(hP.2.2.1.lt _ e).2;omega⟩
 have hvl:Hid (∀ g,v.ownBlock=some g→g<w.heap.size):=fun g e=>(hP.2.2.1.lt _ e).2
 have hbl:=Bld.lt hP
 have hsm:Hid (w.heap.size<(w.alloc (.cells #[.int .i64 A,.int .i64 AN,.int .i64 Bn,.int .i64 BN,.slice lo ls.length lc] 45)).heap.size):=(by show _<_;simp)
 have hPm:=hP.low hBm
 have hWm:Wr B b v v w (w.alloc (.cells #[.int .i64 A,.int .i64 AN,.int .i64 Bn,.int .i64 BN,.slice lo ls.length lc] 45)):=Wr.low hBm hBw
 clear hE l1 l2 l3 l4 hX1 hX2 hZ1 hZ2 hZ3 hZ4 hT1 hT2 hR hV1 hV2 hU1 hU2 u1 u2 HS45 HS43 HZ HE hSl hr hP
 have e:hkV ⟨A,AN,Bn,BN,ls⟩ (.slice lo ls.length lc)=.agg #[.int .i64 A,.int .i64 AN,.int .i64 Bn,.int .i64 BN,.slice lo ls.length lc]:=rfl
 rw[e]
 clear e
 go_enter Tryz.func178,Tryz.ntmps178
 go_wp2_with fail
 refine (Zuq ls (.slice lo ls.length lc) _ (HL.out _ hWm.below) hll R HR).mono ?_
 generalize w.alloc (.cells #[.int .i64 A,.int .i64 AN,.int .i64 Bn,.int .i64 BN,.slice lo ls.length lc] 45)=Wm at hPm hWm hMx hsm hBm ⊢
 rintro e w1 ⟨sv,rfl,hown,hB1⟩
 have hW1:=hWm.trans (Wr.low hB1 (by have:=hWm.size;omega))
 have hP1:=hPm.low hB1
 have hM1:=hMx.low hB1
 have hSK:∀ (v':Value) (u:World),Wr B b v v' w1 u→Holds u sv R.length (ucells R):=ZAg hown (by have:=hsm.out;omega) (fun g e=>by have:=hvl.out g e;have:=hsm.out;omega)
 obtain⟨so,sc,rfl⟩:=(Zeo hown).form
 clear hBm hPm hWm hMx hB1 hown hvl hbl hsm
 generalize w.heap.size=M at hM1 hOff
 obtain⟨c0,c1,c2,c3,c4⟩:=hM1.cells
 have hz1:=hW1.size
 go_wp2_with fail
 refine (Zup B b v acc starsT Z1 w1 hP1 (by omega) HZ1 b1).mono ?_
 rintro e w2 ⟨rfl,v2,hP2,hW2⟩
 obtain⟨hM2,hO2⟩:=hM1.wr hW2 hOff
 have hW12:=hW1.trans hW2
 have hz2:=hW12.size
 clear c0 c1 c2 c3 c4
 obtain⟨c0,c1,c2,c3,c4⟩:=hM2.cells
 go_wp2_with fail
 refine (Zuo A AN r1 (by omega) r3 (by omega) w2 (HT.out w2 hW12.below) T1 HT1).mono ?_
 rintro e w3 ⟨rfl,hB3⟩
 have hM3:=hM2.low hB3
 have hP3:=hP2.low hB3
 have hW13:=hW12.trans (Wr.low hB3 (by omega))
 have hW23:Wr B b v2 v2 w2 w3:=Wr.low hB3 (by omega)
 have hz3:=hW13.size
 clear c0 c1 c2 c3 c4
 go_wp2_with fail
 refine (Zup B b v2 Z1 V1 Z2 w3 hP3 (by omega) HZ2 b2).mono ?_
 rintro e w4 ⟨rfl,v4,hP4,hW4⟩
 obtain⟨hM4,hO4⟩:=hM3.wr hW4 hO2
 have hW14:=hW13.trans hW4
 have hWs4:=(hW2.trans hW23).trans hW4
 have hz4:=hW14.size
 obtain⟨c0,c1,c2,c3,c4⟩:=hM4.cells
 go_wp2_with fail
 refine (Zur B b v4 45 ls R (.slice lo ls.length lc) (.slice so R.length sc) Z2 Z3 w4 hP4 (by omega) hll HRl HSg HTx (HL.out _ hW14.below) (fun v' u hu=>HL.out u (hW14.trans hu).below) (fun v' u hu=>hSK v' u (hWs4.trans hu)) HX1 b3).mono ?_
 rintro e w5 ⟨rfl,v5,hP5,hW5⟩
 obtain⟨hM5,hO5⟩:=hM4.wr hW5 hO4
 have hW15:=hW14.trans hW5
 have hWs5:=hWs4.trans hW5
 have hz5:=hW15.size
 clear c0 c1 c2 c3 c4
 obtain⟨c0,c1,c2,c3,c4⟩:=hM5.cells
 go_wp2_with fail
 refine (Zuo Bn BN r4 (by omega) r6 (by omega) w5 (HT.out w5 hW15.below) T2 HT2).mono ?_
 rintro e w6 ⟨rfl,hB6⟩
 have hM6:=hM5.low hB6
 have hP6:=hP5.low hB6
 have hW56:Wr B b v5 v5 w5 w6:=Wr.low hB6 (by omega)
 have hW16:=hW15.trans hW56
 have hz6:=hW16.size
 clear c0 c1 c2 c3 c4
 go_wp2_with fail
 refine (Zup B b v5 Z3 V2 Z4 w6 hP6 (by omega) HZ4 b4).mono ?_
 rintro e w7 ⟨rfl,v7,hP7,hW7⟩
 obtain⟨hM7,hO7⟩:=hM6.wr hW7 hO5
 have hW17:=hW16.trans hW7
 have hWs7:=(hWs5.trans hW56).trans hW7
 have hz7:=hW17.size
 obtain⟨c0,c1,c2,c3,c4⟩:=hM7.cells
 go_wp2_with fail
 refine (Zur B b v7 43 ls R (.slice lo ls.length lc) (.slice so R.length sc) Z4 Z w7 hP7 (by omega) hll HRl HSg HTx (HL.out _ hW17.below) (fun v' u hu=>HL.out u (hW17.trans hu).below) (fun v' u hu=>hSK v' u (hWs7.trans hu)) HX2 hZ).mono ?_
 rintro e w8 ⟨rfl,v8,hP8,hW8⟩
 go_wp2
 first
  | go_end0
  | refine bodyPost_ret (results_none rfl _ _ _) rfl ?_
  | refine bodyPost_end (results_none rfl _ _ _) rfl ?_
 exact⟨rfl,v8,hP8,hW17.trans hW8⟩
end

section
open Go.RowKit Go.Proofs.YtcniomgjikienaaGreatDoor.Tx
def ptV (p:Pth) (v:Value):Value:=.agg #[.string ⟨p.old.toArray⟩,.string ⟨p.new.toArray⟩,v]
def ptO (p:Pth) (v:Value):Obj:=.cells #[.string ⟨p.old.toArray⟩,.string ⟨p.new.toArray⟩,v] 42
def Px (u:World) (b:Nat) (p:Pth) (v:Value):Prop:=u.heap[b]?=some (ptO p v)
theorem Px.cells {u:World} {b:Nat} {p:Pth} {v:Value} (q:Px u b p v):u.cell? ⟨b,0,none⟩=some (.string ⟨p.old.toArray⟩)∧u.cell? ⟨b,1,none⟩=some (.string ⟨p.new.toArray⟩)∧u.cell? ⟨b,2,none⟩=some v:=by
 unfold Px ptO at q
 refine⟨?_,?_,?_⟩<;>rw[Lib.cell_of_heap q]<;>rfl
theorem Px.lt {u:World} {b:Nat} {p:Pth} {v:Value} (q:Px u b p v):b<u.heap.size:=(Array.getElem?_eq_some_iff.1 q).1
theorem Px.low {u u':World} {b:Nat} {p:Pth} {v:Value} (q:Px u b p v) (hg:Below u.heap.size u u'):Px u' b p v:=(hg.block b q.lt).trans q
theorem Px.wr {B b:Nat} {v v':Value} {w w':World} {M:Nat} {p:Pth} {y:Value} (q:Px w M p y) (hw:Wr B b v v' w w') (ho:Off M b v):Px w' M p y∧Off M b v':=hw.block q ho
theorem ZtB (p:Pth) (q:List (Hk × Value)) (HQ:Hid (q.map (·.1)=p.hs)) (v:Value) (w:World) (hv:HHp w v q) (hok:HOk q) (ho:p.old.length≤1099511627776) (hn:p.new.length≤1099511627776) (r:Int) (HR:Hid (wrgP p=r)) :
  Calls Tryz.prog 171 #[ptV p v] w fun e w'=>e=.returned (.int .i64 r)∧Below w.heap.size w w':=by
 obtain⟨lo,lc,rfl⟩:=Holds.form hv.row
 obtain⟨old,new,hs⟩:=p
 dsimp only at HQ ho hn
 have hql:hs.length=q.length:=(by rw[← HQ.out,List.length_map])
 have HRR:=HR.out
 unfold wrgP at HRR
 dsimp only at HRR
 have hBm:Below w.heap.size w (w.alloc (.cells #[.string ⟨old.toArray⟩,.string ⟨new.toArray⟩,.slice lo q.length lc] 42)):=(Below.refl _ w).alloc (Nat.le_refl _) _
 have e:ptV ⟨old,new,hs⟩ (.slice lo q.length lc)=.agg #[.string ⟨old.toArray⟩,.string ⟨new.toArray⟩,.slice lo q.length lc]:=rfl
 rw[e]
 clear e HR
 by_cases h1:64<old.length∨64<new.length
 ·rw[if_pos h1] at HRR
  have HE:Hid (253=r):=HRR
  clear HRR hql
  by_cases h2:64<old.length
  ·have i1:(64:Int)<(old.length:Int):=by omega
   go_enter Tryz.func171,Tryz.ntmps171
   go_wp2
   go_ret
   exact⟨by rw[← HE.out];rfl,hBm⟩
  ·have i1:¬ (64:Int)<(old.length:Int):=by omega
   have i2:(64:Int)<(new.length:Int):=by omega
   go_enter Tryz.func171,Tryz.ntmps171
   go_wp2
   go_ret
   exact⟨by rw[← HE.out];rfl,hBm⟩
 ·rw[if_neg h1] at HRR
  have i1:¬ (64:Int)<(old.length:Int):=by omega
  have i2:¬ (64:Int)<(new.length:Int):=by omega
  by_cases h2:4096<hs.length
  ·rw[if_pos h2] at HRR
   have HE:Hid (9=r):=HRR
   have i3:(4096:Int)<(q.length:Int):=by omega
   clear HRR hql
   go_enter Tryz.func171,Tryz.ntmps171
   go_wp2
   go_ret
   exact⟨by rw[← HE.out];rfl,hBm⟩
  ·rw[if_neg h2] at HRR
   have HE:Hid (errs ((q.map (·.1)).drop 0)=r):=(by show _=_;rw[HQ.out,List.drop_zero];exact HRR)
   have i3:¬ (4096:Int)<(q.length:Int):=by omega
   have hq4:q.length≤4096:=by omega
   clear HRR hql h1 h2
   go_enter Tryz.func171,Tryz.ntmps171
   go_wp2
   go_loopw [23] (fun i wr=>∃ k:Nat,k≤q.length∧i=.int .i64 k∧Below w.heap.size w wr∧Hid (errs ((q.map (·.1)).drop k)=r)) (fun i _=>q.length-(intOf i).toNat)
   case atStart=>exact⟨0,Nat.zero_le _,by go_num,hBm,HE⟩
   case round =>
   clear HE hBm
   obtain⟨k,hk,rfl,hB,HI⟩:=hrel
   by_cases hlt:k<q.length
   ·obtain⟨bk,off,rfl,hbk,_⟩:=hv.at (by omega)
    obtain⟨h,y,hx⟩:∃ h y,q[k]=(h,y):=⟨_,_,rfl⟩
    obtain⟨⟨c0,c1,c2,c3,c4⟩,hm⟩:=HHp.take hv hB k hlt hx
    obtain⟨o1,o2⟩:=hok.2 q[k] (List.getElem_mem hlt)
    rw[hx] at o1 o2
    dsimp only at o1 o2
    have HI2:=HI.out
    rw[ZuO (by rw[List.length_map];exact hlt),List.getElem_map,hx] at HI2
    dsimp only at HI2
    have i4:(0:Int)≤(k:Int):=by omega
    have i5:(k:Int)<(q.length:Int):=by omega
    obtain⟨z,hz⟩:∃ z,chkH h=z:=⟨_,rfl⟩
    rw[hz] at HI2
    have hBm:=hB.alloc hB.size (.cells #[.int .i64 h.A,.int .i64 h.AN,.int .i64 h.B,.int .i64 h.BN,y] 45)
    have hmm:=hm.keep ((Below.refl _ wr).alloc (Nat.le_refl _) (.cells #[.int .i64 h.A,.int .i64 h.AN,.int .i64 h.B,.int .i64 h.BN,y] 45)) (Nat.le_refl _)
    have hc:=Zvz h y _ hmm o1 o2 z hz
    obtain⟨yo,yc,rfl⟩:=HMk.form hm
    have e:hkV h (.slice yo h.ls.length yc)=.agg #[.int .i64 h.A,.int .i64 h.AN,.int .i64 h.B,.int .i64 h.BN,.slice yo h.ls.length yc]:=rfl
    rw[e] at hc
    clear e hz HI hx hm hmm
    by_cases hz0:z=0
    ·subst hz0
     rw[if_neg (by decide)] at HI2
     have HI3:Hid (errs ((q.map (·.1)).drop (k+1))=r):=HI2
     clear HI2
     go_wp2_with fail
     refine hc.mono ?_
     rintro e w1 ⟨rfl,hB1⟩
     go_wp2
     exact⟨⟨k+1,by omega,by go_num,hBm.trans (hB1.mono hBm.size),HI3⟩,by simp[intOf];omega⟩
    ·rw[if_pos hz0] at HI2
     have HI3:Hid (z=r):=HI2
     have e1:(z != 0)=true:=bne_iff_ne.2 hz0
     clear HI2 hz0
     go_wp2_with fail
     refine hc.mono ?_
     rintro e w1 ⟨rfl,hB1⟩
     go_wp2
     go_ret
     exact⟨by rw[← HI3.out];rfl,hBm.trans (hB1.mono hBm.size)⟩
   ·have hend:decide ((k:Int)<(q.length:Int))=false:=decide_eq_false (by omega)
    have HE:Hid (0=r):=(by
     have h:=HI.out
     rw[List.drop_of_length_le (by rw[List.length_map];omega)] at h
     exact h)
    clear HI
    go_wp2
    go_ret
    exact⟨by rw[← HE.out];rfl,hB⟩
theorem Zty (p:Pth) (q:List (Hk × Value)) (HQ:Hid (q.map (·.1)=p.hs)) (v:Value) (w:World) (hv:HHp w v q) (hok:HOk q) (ho:p.old.length≤1099511627776) (hn:p.new.length≤1099511627776) (HT:Hid (Tab10 w)) (Z:List UInt8) (r:Int) (HR:Hid (wrgP p=r)) (HZ:Hid (ptT p=Z)) (hZ:Z.length≤70368744177664) :
  Calls Tryz.prog 143 #[ptV p v] w fun e w'=>e=.returned (.tuple #[.string ⟨Z.toArray⟩,.int .i64 r])∧Below w.heap.size w w':=by
 obtain⟨lo,lc,rfl⟩:=Holds.form hv.row
 have HO:=fun h=>(ZAT (p:=p) h)
 obtain⟨old,new,hs⟩:=p
 dsimp only at HQ ho hn
 have hql:hs.length=q.length:=(by rw[← HQ.out,List.length_map])
 have hZZ:=HZ.out
 unfold ptT at hZZ
 rw[HR.out] at hZZ
 have hBm:Below w.heap.size w (w.alloc (.cells #[.string ⟨old.toArray⟩,.string ⟨new.toArray⟩,.slice lo q.length lc] 42)):=(Below.refl _ w).alloc (Nat.le_refl _) _
 have hMx:Px (w.alloc (.cells #[.string ⟨old.toArray⟩,.string ⟨new.toArray⟩,.slice lo q.length lc] 42)) w.heap.size ⟨old,new,hs⟩ (.slice lo q.length lc):=heap_alloc_new w _
 have hvm:=hv.keep hBm (Nat.le_refl _)
 have hc:=ZtB ⟨old,new,hs⟩ q HQ (.slice lo q.length lc) _ hvm hok ho hn r HR
 have e:ptV ⟨old,new,hs⟩ (.slice lo q.length lc)=.agg #[.string ⟨old.toArray⟩,.string ⟨new.toArray⟩,.slice lo q.length lc]:=rfl
 rw[e] at hc ⊢
 obtain⟨d0,d1,d2⟩:=hMx.cells
 clear e hvm
 by_cases hr0:r=0
 ·subst hr0
  rw[if_pos rfl] at hZZ
  obtain⟨o1,o2,o3,o4⟩:=HO HR.out
  dsimp only at o1 o2 o3 o4
  have HCh:Hid (∀ x∈hs,chkH x=0):=o4
  clear o4 HO
  by_cases hq0:q.length=0
  ·have HE:Hid ([]=Z):=(by
    show _=_
    rw[← hZZ]
    have:hs=[]:=List.eq_nil_of_length_eq_zero (by omega)
    rw[this]
    rfl)
   have i1:((q.length:Int) == 0)=true:=(by rw[hq0];rfl)
   clear hZZ HZ hq0 hql
   go_enter Tryz.func143,Tryz.ntmps143
   go_wp2_with fail
   refine hc.mono ?_
   rintro e w1 ⟨rfl,hB1⟩
   have hM1:=hMx.low hB1
   clear d0 d1 d2
   obtain⟨d0,d1,d2⟩:=hM1.cells
   go_wp2
   go_ret2
   exact⟨by rw[← HE.out];rfl,hBm.trans (hB1.mono hBm.size)⟩
  ·have hne:hs≠[]:=(by intro e;rw[e] at hql;simp at hql;omega)
   rw[ZyB (p:=⟨old,new,hs⟩) hne] at hZZ
   dsimp only at hZZ
   obtain⟨N1,hN1⟩:∃ Y,nameT old=Y:=⟨_,rfl⟩
   obtain⟨N2,hN2⟩:∃ Y,nameT new=Y:=⟨_,rfl⟩
   obtain⟨U1,hU1⟩:∃ Y,[42,42,42,32]++N1=Y:=⟨_,rfl⟩
   obtain⟨U2,hU2⟩:∃ Y,[45,45,45,32]++N2=Y:=⟨_,rfl⟩
   obtain⟨Z1,hZ1⟩:∃ Y,[]++U1++[10]=Y:=⟨_,rfl⟩
   obtain⟨Z2,hZ2⟩:∃ Y,Z1++U2++[10]=Y:=⟨_,rfl⟩
   have HE:Hid (Z2++(((q.map (·.1)).drop 0).flatMap hkL).flatten=Z):=(by
    show _=_
    rw[← hZZ,← hZ2,← hZ1,← hU1,← hU2,hN1,hN2,HQ.out,List.drop_zero]
    simp)
   have hE:=congrArg List.length HE.out
   have l2:=congrArg List.length hZ2
   have l1:=congrArg List.length hZ1
   simp only[List.length_append] at hE l2 l1
   have b2:Z2.length≤70368744177664:=by omega
   have b1:Z1.length≤70368744177664:=by omega
   have n1:=Zxk old
   have n2:=Zxk new
   rw[hN1] at n1
   rw[hN2] at n2
   have q1:=Zsl (x:=[42,42,42,32]) (y:=N1) (by unfold Fits;simp only[List.length_cons,List.length_nil];omega) Tryz.prog
   have q2:=Zsl (x:=[45,45,45,32]) (y:=N2) (by unfold Fits;simp only[List.length_cons,List.length_nil];omega) Tryz.prog
   rw[hU1] at q1
   rw[hU2] at q2
   have HN1:Hid (nameT old=N1):=hN1
   have HN2:Hid (nameT new=N2):=hN2
   have HZ1:Hid ([]++U1++[10]=Z1):=hZ1
   have HZ2:Hid (Z1++U2++[10]=Z2):=hZ2
   have HZne:Hid (Z≠[]):=(by
    intro e
    have h:=congrArg List.length e
    have h2:=congrArg List.length hU1
    simp only[List.length_append,List.length_cons,List.length_nil] at h h2
    omega)
   have i1:((q.length:Int) == 0)=false:=beq_eq_false_iff_ne.2 (by omega)
   have hq4:q.length≤4096:=by omega
   clear hZZ HZ hq0 hql hE l1 l2 n1 n2 hN1 hN2 hU1 hU2 hZ1 hZ2 hne o3
   go_enter Tryz.func143,Tryz.ntmps143
   go_wp2_with fail
   refine hc.mono ?_
   rintro e w1 ⟨rfl,hB1⟩
   have hM1:=hMx.low hB1
   have hBw1:=hBm.trans (hB1.mono hBm.size)
   clear d0 d1 d2 hBm hMx hB1 hc
   have hM2:=hM1.low ((Below.refl _ w1).alloc (Nat.le_refl _) (.cells #[.pointer none,.slice none 0 0] 235))
   have hBw2:=hBw1.alloc hBw1.size (.cells #[.pointer none,.slice none 0 0] 235)
   have hP2:Pg w.heap.size w1.heap.size (.slice none 0 0) [] (w1.alloc (.cells #[.pointer none,.slice none 0 0] 235)):=⟨hBw1.size,⟨_,.inl rfl,heap_alloc_new w1 _⟩,World.ownsRowF_nil _ _ _ _,by simp[Value.ownBlock]⟩
   have hO2:Off w.heap.size w1.heap.size (.slice none 0 0):=⟨by have:=hM1.lt;omega,by simp[Value.ownBlock]⟩
   obtain⟨f0,f1,f2⟩:=hM1.cells
   obtain⟨d0,d1,d2⟩:=hM2.cells
   go_wp2_with fail
   refine (ZbJ old _ ho N1 HN1).mono ?_
   generalize w1.alloc (.cells #[.pointer none,.slice none 0 0] 235)=W2 at hM2 hBw2 hP2 d0 d1 d2 ⊢
   generalize w1.heap.size=b at hP2 hO2 ⊢
   rintro e w3 ⟨rfl,hB3⟩
   have hM3:=hM2.low hB3
   have hP3:=hP2.low hB3
   have hBw3:=hBw2.trans (hB3.mono hBw2.size)
   clear d0 d1 d2 f0 f1 f2 hM2 hP2 hBw2 hB3 hM1 hBw1
   go_wp2_with fail
   refine (Zup w.heap.size b (.slice none 0 0) [] U1 Z1 w3 hP3 hBw3.size HZ1 b1).mono ?_
   rintro e w4 ⟨rfl,v4,hP4,hW4⟩
   obtain⟨hM4,hO4⟩:=hM3.wr hW4 hO2
   have hBw4:=hBw3.trans hW4.below
   obtain⟨d0,d1,d2⟩:=hM4.cells
   clear hM3 hP3 hBw3 hO2 hW4
   go_wp2_with fail
   refine (ZbJ new _ hn N2 HN2).mono ?_
   rintro e w5 ⟨rfl,hB5⟩
   have hM5:=hM4.low hB5
   have hP5:=hP4.low hB5
   have hBw5:=hBw4.trans (hB5.mono hBw4.size)
   clear d0 d1 d2 hM4 hP4 hBw4 hB5
   go_wp2_with fail
   refine (Zup w.heap.size b v4 Z1 U2 Z2 w5 hP5 hBw5.size HZ2 b2).mono ?_
   rintro e w6 ⟨rfl,v6,hP6,hW6⟩
   obtain⟨hM6,hO6⟩:=hM5.wr hW6 hO4
   have hBw6:=hBw5.trans hW6.below
   obtain⟨d0,d1,d2⟩:=hM6.cells
   clear hM5 hP5 hBw5 hO4 hW6 q1 q2 HZ1 HZ2 HN1 HN2
   go_wp2
   go_loopw [30] (fun i wr=>∃ (k:Nat) (v1:Value) (ac:List UInt8),k≤q.length∧i=.int .i64 k∧Pg w.heap.size b v1 ac wr∧Below w.heap.size w wr∧Hid (ac++(((q.map (·.1)).drop k).flatMap hkL).flatten=Z)) (fun i _=>q.length-(intOf i).toNat)
   case atStart=>exact⟨0,v6,Z2,Nat.zero_le _,by go_num,hP6,hBw6,HE⟩
   case round =>
   clear HE hP6 hBw6 hM6 hO6 d0 d1 d2
   obtain⟨k,v1,ac,hk,rfl,hP,hB,HI⟩:=hrel
   by_cases hlt:k<q.length
   ·obtain⟨bk,off,rfl,hbk,_⟩:=hv.at (by omega)
    obtain⟨h,y,hx⟩:∃ h y,q[k]=(h,y):=⟨_,_,rfl⟩
    obtain⟨⟨c0,c1,c2,c3,c4⟩,hm⟩:=HHp.take hv hB k hlt hx
    obtain⟨x1,x2⟩:=hok.2 q[k] (List.getElem_mem hlt)
    have hins:=hv.ins q[k] (List.getElem_mem hlt)
    have hch:=HCh.out q[k].1 (by rw[← HQ.out];exact List.mem_map_of_mem (List.getElem_mem hlt))
    rw[hx] at x1 x2 hins hch
    dsimp only at x1 x2 hins hch
    have HI2:=HI.out
    rw[List.drop_eq_getElem_cons (show k<(q.map (·.1)).length by rw[List.length_map];exact hlt),List.getElem_map,hx,List.flatMap_cons,List.flatten_append,← List.append_assoc] at HI2
    dsimp only at HI2
    obtain⟨A2,hA2⟩:∃ Y,ac++(hkL h).flatten=Y:=⟨_,rfl⟩
    rw[hA2] at HI2
    have HI3:Hid (A2++(((q.map (·.1)).drop (k+1)).flatMap hkL).flatten=Z):=HI2
    have hAl:A2.length≤70368744177664:=(by have:=congrArg List.length HI2;rw[List.length_append] at this;omega)
    have i4:(0:Int)≤(k:Int):=by omega
    have i5:(k:Int)<(q.length:Int):=by omega
    have hBn:Below wr.heap.size wr (wr.alloc (.cells #[.int .i64 h.A,.int .i64 h.AN,.int .i64 h.B,.int .i64 h.BN,y] 45)):=(Below.refl _ wr).alloc (Nat.le_refl _) _
    have hBm:=hB.trans (hBn.mono hB.size)
    have hPm:=hP.low hBn
    have hc:=Zud w.heap.size b v1 h y ac A2 _ hPm hBm.size x1 x2 hch (fun u hu=>hins.keep (hBm.trans hu) (Nat.le_refl _)) (fun u hu=>HT.out.on (hBm.trans hu)) hA2 hAl
    obtain⟨yo,yc,rfl⟩:=HMk.form hm
    have e:hkV h (.slice yo h.ls.length yc)=.agg #[.int .i64 h.A,.int .i64 h.AN,.int .i64 h.B,.int .i64 h.BN,.slice yo h.ls.length yc]:=rfl
    rw[e] at hc
    clear e HI HI2 hx hm hins hch hA2
    go_wp2_with fail
    refine hc.mono ?_
    rintro e w7 ⟨rfl,v7,hP7,hW7⟩
    go_wp2
    exact⟨⟨k+1,v7,A2,by omega,by go_num,hP7,hBm.trans hW7.below,HI3⟩,by simp[intOf];omega⟩
   ·have hend:decide ((k:Int)<(q.length:Int))=false:=decide_eq_false (by omega)
    have hE:ac=Z:=(by
     have h:=HI.out
     rw[List.drop_of_length_le (by rw[List.length_map];omega)] at h
     simpa using h)
    subst hE
    clear HI
    go_wp2_with fail
    refine (ZtA w.heap.size b v1 ac HZne.out wr hP).mono ?_
    rintro e w7 ⟨rfl,hB7⟩
    go_wp2
    go_ret2
    exact⟨rfl,hB.trans hB7⟩
 ·rw[if_neg hr0] at hZZ
  have HE:Hid ([]=Z):=hZZ
  have e1:(r != 0)=true:=bne_iff_ne.2 hr0
  clear hZZ HZ HO hr0
  go_enter Tryz.func143,Tryz.ntmps143
  go_wp2_with fail
  refine hc.mono ?_
  rintro e w1 ⟨rfl,hB1⟩
  go_wp2
  go_ret2
  exact⟨by rw[← HE.out];rfl,hBm.trans (hB1.mono hBm.size)⟩
end

section
open Go.RowKit Go.Proofs.YtcniomgjikienaaGreatDoor.Tx
attribute [local go_sem] Zhc
theorem Zmt {l:List UInt8} {k:Nat} (hk:k<l.length):(l.drop k).all nameC=(nameC l[k] && (l.drop (k+1)).all nameC):=by
 rw[List.drop_eq_getElem_cons hk,List.all_cons]
theorem ZpJ (l:List UInt8) (w:World) (hl:l.length≤1099511627776) (t:List UInt8) (HT:Hid (nameT l=t)) :
  Calls Tryz.prog 78 #[.string ⟨l.toArray⟩] w fun e w'=>e=.returned (.string ⟨t.toArray⟩)∧Below w.heap.size w w':=by
 by_cases h0:l=[]
 ·have HE:Hid (devN=t):=(by have h:=HT.out;unfold nameT at h;rw[if_pos h0] at h;exact h)
  subst h0
  go_enter Tryz.func78,Tryz.ntmps78
  go_wp2
  go_ret
  exact⟨by rw[← HE.out];rfl,Below.refl _ _⟩
 ·have e0:l.isEmpty=false:=(by cases l with | nil=>exact absurd rfl h0 | cons _ _=>rfl)
  have hq:=Zqz l
  obtain⟨q,hq2⟩:∃ q,l.all nameC=q:=⟨_,rfl⟩
  have HA0:Hid ((l.drop 0).all nameC=q):=hq2
  have HQ:Hid (l.all nameC=q):=hq2
  clear hq2
  go_enter Tryz.func78,Tryz.ntmps78
  go_wp2
  go_loopw [3] (fun i wr=>∃ k:Nat,k≤l.length∧i=.int .i64 k∧wr=w∧Hid ((l.drop k).all nameC=q)) (fun i _=>l.length-(intOf i).toNat)
  case atStart=>exact⟨0,Nat.zero_le _,by go_num,rfl,HA0⟩
  case round =>
  obtain⟨k,hk,rfl,rfl,HI⟩:=hrel
  clear HA0
  by_cases hlt:k<l.length
  ·have HI2:=HI.out
   rw[Zmt hlt] at HI2
   have i1:(0:Int)≤(k:Int):=by omega
   have i2:(k:Int)<(l.length:Int):=by omega
   obtain⟨c,hc⟩:∃ c,l[k]=c:=⟨_,rfl⟩
   rw[hc] at HI2
   have hcn:=c.toNat_lt
   clear HI
   cases hn:nameC c with
   | true =>
    rw[hn,Bool.true_and] at HI2
    have HI3:Hid ((l.drop (k+1)).all nameC=q):=HI2
    have hx:=of_decide_eq_true hn
    have j1:¬ (c.toNat:Int)<33:=by omega
    have j2:¬ (126:Int)<(c.toNat:Int):=by omega
    have j3:((c.toNat:Int) == 34)=false:=beq_eq_false_iff_ne.2 (by omega)
    clear HI2 hn hx
    go_wp2
    exact⟨⟨k+1,by omega,by go_num,by first | rfl | trivial,HI3⟩,by simp[intOf];omega⟩
   | false =>
    rw[hn,Bool.false_and] at HI2
    have HE:Hid (Q.quote l=t):=(by have h:=HT.out;unfold nameT at h;rw[if_neg h0,if_neg (fun z=>by rw[HQ.out,← HI2] at z;cases z.1)] at h;exact h)
    have hx:=of_decide_eq_false hn
    clear HI2 hn
    by_cases j1:(c.toNat:Int)<33
    ·clear hx
     go_wp2_with fail
     refine (hq _ hl).mono ?_
     rintro e w1 ⟨rfl,hB⟩
     go_wp2
     go_ret
     exact⟨by rw[← HE.out];rfl,hB⟩
    ·by_cases j2:(126:Int)<(c.toNat:Int)
     ·clear hx
      go_wp2_with fail
      refine (hq _ hl).mono ?_
      rintro e w1 ⟨rfl,hB⟩
      go_wp2
      go_ret
      exact⟨by rw[← HE.out];rfl,hB⟩
     ·have j3:((c.toNat:Int) == 34)=true:=beq_iff_eq.2 (by omega)
      clear hx
      go_wp2_with fail
      refine (hq _ hl).mono ?_
      rintro e w1 ⟨rfl,hB⟩
      go_wp2
      go_ret
      exact⟨by rw[← HE.out];rfl,hB⟩
  ·have hqt:q=true:=(by
    have h:=HI.out
    rw[List.drop_of_length_le (by omega)] at h
    exact h.symm)
   have hend:¬ (k:Int)<(l.length:Int):=by omega
   clear HI
   by_cases h1:l=devN
   ·have HE:Hid (Q.quote l=t):=(by have h:=HT.out;unfold nameT at h;rw[if_neg h0,if_neg (fun z=>z.2 h1)] at h;exact h)
    have e1:(l == [47,100,101,118,47,110,117,108,108])=true:=(by rw[beq_iff_eq];exact h1)
    clear h1
    go_wp2_with fail
    refine (hq _ hl).mono ?_
    rintro e w1 ⟨rfl,hB⟩
    go_wp2
    go_ret
    exact⟨by rw[← HE.out];rfl,hB⟩
   ·have HE:Hid (l=t):=(by have h:=HT.out;unfold nameT at h;rw[if_neg h0,if_pos ⟨by rw[HQ.out,hqt],h1⟩] at h;exact h)
    have e1:(l == [47,100,101,118,47,110,117,108,108])=false:=beq_eq_false_iff_ne.2 h1
    clear h1
    go_wp2
    go_ret
    exact⟨by rw[← HE.out];rfl,Below.refl _ _⟩
theorem ZzR (A N:Int) (h0:0≤A) (h1:A≤4611686018427387904) (h2:0≤N) (h3:N≤4611686018427387900) (w:World) (T:List UInt8) (HR:Hid (spanT A N=T)) :
  Calls Tryz.prog 79 #[.int .i64 A,.int .i64 N] w fun e w'=>e=.returned (.string ⟨T.toArray⟩)∧Below w.heap.size w w':=by
 have l1:=Zwz A (by omega) (by omega)
 have l2:=Zwz (A+N-1) (by omega) (by omega)
 by_cases hN:N≤1
 ·have HE1:Hid (Lib.itoa A=T):=(by have h:=HR.out;unfold spanT at h;rw[if_pos hN] at h;exact h)
  clear HR
  go_enter Tryz.func79,Tryz.ntmps79
  go_wp2_with fail
  refine (Zzj A (by omega) (by omega) _).mono ?_
  rintro e w1 ⟨rfl,hb1⟩
  go_wp2
  go_ret
  exact⟨by rw[← HE1.out];rfl,hb1⟩
 ·have HE:Hid (Lib.itoa A++44::Lib.itoa (A+N-1)=T):=(by have h:=HR.out;unfold spanT at h;rw[if_neg hN] at h;exact h)
  clear HR
  have q1:=Zsl (x:=Lib.itoa A) (y:=[44]) (by unfold Fits;simp only[List.length_cons,List.length_nil];omega) Tryz.prog
  have q2:=Zsl (x:=Lib.itoa A++[44]) (y:=Lib.itoa (A+N-1)) (by unfold Fits;simp only[List.length_append,List.length_cons,List.length_nil];omega) Tryz.prog
  go_enter Tryz.func79,Tryz.ntmps79
  go_wp2_with fail
  refine (Zzj A (by omega) (by omega) _).mono ?_
  rintro e w1 ⟨rfl,hb1⟩
  go_wp2_with fail
  refine (Zzj (A+N-1) (by omega) (by omega) _).mono ?_
  rintro e w2 ⟨rfl,hb2⟩
  go_wp2
  go_ret
  exact⟨by rw[← HE.out];rfl,hb1.trans (hb2.mono hb1.size)⟩
theorem Zzl (p:Pth) (q:List (Hk × Value)) (HQ:Hid (q.map (·.1)=p.hs)) (v:Value) (w:World) (hv:HHp w v q) (hok:HOk q) (ho:p.old.length≤1099511627776) (hn:p.new.length≤1099511627776) (r:Int) (HR:Hid (wrgP p=r)) :
  Calls Tryz.prog 77 #[ptV p v] w fun e w'=>e=.returned (.int .i64 r)∧Below w.heap.size w w':=by
 obtain⟨lo,lc,rfl⟩:=Holds.form hv.row
 obtain⟨old,new,hs⟩:=p
 dsimp only at HQ ho hn
 have hql:hs.length=q.length:=(by rw[← HQ.out,List.length_map])
 have HRR:=HR.out
 unfold wrgP at HRR
 dsimp only at HRR
 have hBm:Below w.heap.size w (w.alloc (.cells #[.string ⟨old.toArray⟩,.string ⟨new.toArray⟩,.slice lo q.length lc] 42)):=(Below.refl _ w).alloc (Nat.le_refl _) _
 have e:ptV ⟨old,new,hs⟩ (.slice lo q.length lc)=.agg #[.string ⟨old.toArray⟩,.string ⟨new.toArray⟩,.slice lo q.length lc]:=rfl
 rw[e]
 clear e HR
 by_cases h1:64<old.length∨64<new.length
 ·rw[if_pos h1] at HRR
  have HE:Hid (253=r):=HRR
  clear HRR hql
  by_cases h2:64<old.length
  ·have i1:(64:Int)<(old.length:Int):=by omega
   go_enter Tryz.func77,Tryz.ntmps77
   go_wp2
   go_ret
   exact⟨by rw[← HE.out];rfl,hBm⟩
  ·have i1:¬ (64:Int)<(old.length:Int):=by omega
   have i2:(64:Int)<(new.length:Int):=by omega
   go_enter Tryz.func77,Tryz.ntmps77
   go_wp2
   go_ret
   exact⟨by rw[← HE.out];rfl,hBm⟩
 ·rw[if_neg h1] at HRR
  have i1:¬ (64:Int)<(old.length:Int):=by omega
  have i2:¬ (64:Int)<(new.length:Int):=by omega
  by_cases h2:4096<hs.length
  ·rw[if_pos h2] at HRR
   have HE:Hid (9=r):=HRR
   have i3:(4096:Int)<(q.length:Int):=by omega
   clear HRR hql
   go_enter Tryz.func77,Tryz.ntmps77
   go_wp2
   go_ret
   exact⟨by rw[← HE.out];rfl,hBm⟩
  ·rw[if_neg h2] at HRR
   have HE:Hid (errs ((q.map (·.1)).drop 0)=r):=(by show _=_;rw[HQ.out,List.drop_zero];exact HRR)
   have i3:¬ (4096:Int)<(q.length:Int):=by omega
   have hq4:q.length≤4096:=by omega
   clear HRR hql h1 h2
   go_enter Tryz.func77,Tryz.ntmps77
   have hPx:Px (w.alloc (.cells #[.string ⟨old.toArray⟩,.string ⟨new.toArray⟩,.slice lo q.length lc] 42)) w.heap.size ⟨old,new,hs⟩ (.slice lo q.length lc):=heap_alloc_new w _
   go_wp2
   generalize w.alloc (.cells #[.string ⟨old.toArray⟩,.string ⟨new.toArray⟩,.slice lo q.length lc] 42)=W at hBm hPx ⊢
   have hv2:=hv.keep hBm (Nat.le_refl _)
   generalize w.heap.size=M at hPx ⊢
   go_loopw [3] (fun i wr=>∃ k:Nat,k≤q.length∧i=.int .i64 k∧Below W.heap.size W wr∧Hid (errs ((q.map (·.1)).drop k)=r)) (fun i _=>q.length-(intOf i).toNat)
   case atStart=>exact⟨0,Nat.zero_le _,by go_num,Below.refl _ _,HE⟩
   case round =>
   clear HE
   obtain⟨k,hk,rfl,hB,HI⟩:=hrel
   obtain⟨p0,p1,p2⟩:=(hPx.low hB).cells
   by_cases hlt:k<q.length
   ·obtain⟨bk,off,rfl,hbk,_⟩:=hv2.at (by omega)
    obtain⟨h,y,hx⟩:∃ h y,q[k]=(h,y):=⟨_,_,rfl⟩
    obtain⟨⟨c0,c1,c2,c3,c4⟩,hm⟩:=HHp.take hv2 hB k hlt hx
    obtain⟨o1,o2⟩:=hok.2 q[k] (List.getElem_mem hlt)
    rw[hx] at o1 o2
    dsimp only at o1 o2
    have HI2:=HI.out
    rw[ZuO (by rw[List.length_map];exact hlt),List.getElem_map,hx] at HI2
    dsimp only at HI2
    have i4:(0:Int)≤(k:Int):=by omega
    have i5:(k:Int)<(q.length:Int):=by omega
    obtain⟨z,hz⟩:∃ z,chkH h=z:=⟨_,rfl⟩
    rw[hz] at HI2
    have hc:=Zzt h y wr hm o1 o2 z hz
    obtain⟨yo,yc,rfl⟩:=HMk.form hm
    have e:hkV h (.slice yo h.ls.length yc)=.agg #[.int .i64 h.A,.int .i64 h.AN,.int .i64 h.B,.int .i64 h.BN,.slice yo h.ls.length yc]:=rfl
    rw[e] at hc
    clear e hz HI hx hm
    by_cases hz0:z=0
    ·subst hz0
     rw[if_neg (by decide)] at HI2
     have HI3:Hid (errs ((q.map (·.1)).drop (k+1))=r):=HI2
     clear HI2
     go_wp2_with fail
     refine hc.mono ?_
     rintro e w1 ⟨rfl,hB1⟩
     go_wp2
     exact⟨⟨k+1,by omega,by go_num,hB.trans (hB1.mono hB.size),HI3⟩,by simp[intOf];omega⟩
    ·rw[if_pos hz0] at HI2
     have HI3:Hid (z=r):=HI2
     have e1:(z != 0)=true:=bne_iff_ne.2 hz0
     clear HI2 hz0
     go_wp2_with fail
     refine hc.mono ?_
     rintro e w1 ⟨rfl,hB1⟩
     go_wp2
     go_ret
     exact⟨by rw[← HI3.out];rfl,hBm.trans ((hB.trans (hB1.mono hB.size)).mono hBm.size)⟩
   ·have hend:decide ((k:Int)<(q.length:Int))=false:=decide_eq_false (by omega)
    have HE:Hid (0=r):=(by
     have h:=HI.out
     rw[List.drop_of_length_le (by rw[List.length_map];omega)] at h
     exact h)
    clear HI
    go_wp2
    go_ret
    exact⟨by rw[← HE.out];rfl,hBm.trans (hB.mono hBm.size)⟩
end

section
open Ln
def segM (l:List Mk) (i j:Nat):List Mk:=(l.take j).drop i
theorem ZvL (k:Int) (a b:List Mk):hasM k (a++b)=(hasM k a || hasM k b):=by simp[hasM,List.any_append]
theorem ZvM (k:Int) (m:Mk) (a:List Mk):hasM k (m::a)=((m.sg == k) || hasM k a):=rfl
theorem ZAe {l:List Mk} {i j:Nat} (h:i<j) (hj:j≤l.length):segM l i j=(l[i]'(by omega))::segM l (i+1) j:=by
 unfold segM
 have hl:i<(l.take j).length:=by rw[List.length_take];omega
 rw[List.drop_eq_getElem_cons hl]
 simp
theorem ZAd (l:List Mk) {i j:Nat} (h:j≤i):segM l i j=[]:=by
 unfold segM
 exact List.drop_of_length_le (by rw[List.length_take];omega)
theorem ZAb (l:List Mk) {i k j:Nat} (h1:i≤k) (h2:k≤j) (_h3:j≤l.length):segM l i k++segM l k j=segM l i j:=by
 unfold segM
 have e:l.take k=(l.take j).take k:=by rw[List.take_take];congr 1;omega
 rw[e,List.drop_take]
 have h:=List.take_append_drop (k-i) ((l.take j).drop i)
 rw[List.drop_drop] at h
 have e2:i+(k-i)=k:=by omega
 rw[e2] at h
 exact h
theorem ZAc {l:List Mk} {i j:Nat} (h:i≤j) (hj:j<l.length):segM l i (j+1)=segM l i j++[l[j]]:=by
 have h1:=ZAb l h (Nat.le_succ j) (by omega)
 rw[ZAe (Nat.lt_succ_self j) (by omega),ZAd l (Nat.le_refl (j+1))] at h1
 exact h1.symm
theorem Ztk {l:List Mk} {k a:Nat} {sg:Int} (hk:k<a) (ha:a≤l.length) (hs:(l[k]'(by omega)).sg≠32) (h:endS sg (l.take a)=(hasM sg (segM l (k+1) a) || endS sg (l.take (k+1)))):endS sg (l.take a)=(hasM sg (segM l k a) || endS sg (l.take k)):=by
 rw[h,ZAe hk ha,ZvM,List.take_succ_eq_append_getElem (by omega),ZuN,if_neg hs]
 have:(l[k].sg == sg)=decide (l[k].sg=sg):=rfl
 rw[this]
 cases hasM sg (segM l (k+1) a)<;>cases endS sg (l.take k)<;>cases decide (l[k].sg=sg)<;>rfl
theorem Ztj {l:List Mk} {k a:Nat} {sg:Int} (hk:k≤l.length) (hs:k=0∨∃ h:k-1<l.length,0<k∧l[k-1].sg=32) (h:endS sg (l.take a)=(hasM sg (segM l k a) || endS sg (l.take k))):endS sg (l.take a)=hasM sg (segM l k a):=by
 rw[h]
 have:endS sg (l.take k)=false:=by
  rcases hs with rfl | ⟨h1,h2,h3⟩
  ·rfl
  ·obtain⟨j,rfl⟩:∃ j,k=j+1:=⟨k-1,by omega⟩
   rw[List.take_succ_eq_append_getElem (by omega),ZuN,if_pos (by simpa using h3)]
 rw[this,Bool.or_false]
theorem ZxN {l:List Mk} {a t:Nat} {sg:Int} (ha:a≤t) (ht:t<l.length) (hs:l[t].sg≠32) (h:anyS sg (l.drop a)=(hasM sg (segM l a t) || anyS sg (l.drop t))):anyS sg (l.drop a)=(hasM sg (segM l a (t+1)) || anyS sg (l.drop (t+1))):=by
 rw[h,List.drop_eq_getElem_cons ht,ZAc ha ht,ZvL]
 simp only[anyS]
 rw[if_neg hs]
 have:hasM sg [l[t]]=decide (l[t].sg=sg):=by simp[hasM];rfl
 rw[this,Bool.or_assoc]
theorem ZxM {l:List Mk} {a t:Nat} {sg:Int} (hs:l.length≤t∨∃ h:t<l.length,l[t].sg=32) (h:anyS sg (l.drop a)=(hasM sg (segM l a t) || anyS sg (l.drop t))):anyS sg (l.drop a)=hasM sg (segM l a t):=by
 rw[h]
 have:anyS sg (l.drop t)=false:=by
  rcases hs with h1 | ⟨h1,h2⟩
  ·rw[List.drop_of_length_le h1];rfl
  ·rw[List.drop_eq_getElem_cons h1]
   simp only[anyS]
   rw[if_pos h2]
 rw[this,Bool.or_false]
theorem Ztv {l:List Mk} {f a t:Nat} (h1:f≤a) (h2:a≤t) (h3:t≤l.length) (e1:endS 45 (l.take a)=hasM 45 (segM l f a)) (e2:endS 43 (l.take a)=hasM 43 (segM l f a)) (e3:anyS 45 (l.drop a)=hasM 45 (segM l a t)) (e4:anyS 43 (l.drop a)=hasM 43 (segM l a t)):bothM (l.take a) (l.drop a)=(hasM 45 (segM l f t) && hasM 43 (segM l f t)):=by
 unfold bothM
 rw[e1,e2,e3,e4,← ZvL,← ZvL,ZAb l h1 h2 h3]
end

section
open Go.RowKit
theorem Zzm (h:Hk) (v:Value) (a:Nat) (ha:a<h.ls.length) (w:World) (hv:HMk w v h.ls) (hl:h.ls.length≤1099511627776) (r:Bool) (HR:Hid (bothM (h.ls.take a) (h.ls.drop a)=r)) :
  Calls Tryz.prog 119 #[hkV h v,.int .i64 (a:Int)] w fun e w'=>e=.returned (.bool r)∧Below w.heap.size w w':=by
 obtain⟨A,AN,B,BN,ls⟩:=h
 dsimp only at ha hv hl HR
 obtain⟨lo,lc,rfl⟩:=HMk.form hv
 have hBl:Below w.heap.size w (w.alloc (.cells #[.int .i64 A,.int .i64 AN,.int .i64 B,.int .i64 BN,.slice lo ls.length lc] 45)):=(Below.refl _ w).alloc (Nat.le_refl _) _
 have hx:Hx (w.alloc (.cells #[.int .i64 A,.int .i64 AN,.int .i64 B,.int .i64 BN,.slice lo ls.length lc] 45)) w.heap.size ⟨A,AN,B,BN,ls⟩ (.slice lo ls.length lc):=heap_alloc_new w _
 have hv2:=hv.keep hBl (Nat.le_refl _)
 have e:hkV ⟨A,AN,B,BN,ls⟩ (.slice lo ls.length lc)=.agg #[.int .i64 A,.int .i64 AN,.int .i64 B,.int .i64 BN,.slice lo ls.length lc]:=rfl
 rw[e]
 clear e
 obtain⟨bk,off,rfl,hbk,hcl⟩:=HMk.at hv2 (by omega)
 have HCL:Hid (∀ k (hk:k<ls.length),(w.alloc (.cells #[.int .i64 A,.int .i64 AN,.int .i64 B,.int .i64 BN,.slice (some ⟨bk,off,none⟩) ls.length lc] 45)).cell? ⟨bk,off+k * 2,none⟩=some (.int .u8 ls[k].sg)):=fun k hk=>(hcl k hk).1
 clear hcl hv hv2
 obtain⟨d0,d1,d2,d3,d4⟩:=hx.cells
 clear d0 d1 d2 d3 hx
 have HA0:Hid (∀ sg,endS sg (ls.take a)=(hasM sg (segM ls a a) || endS sg (ls.take a))):=(by
  intro sg
  rw[ZAd ls (Nat.le_refl a)]
  rfl)
 have HB0:Hid (∀ sg,anyS sg (ls.drop a)=(hasM sg (segM ls a a) || anyS sg (ls.drop a))):=(by
  intro sg
  rw[ZAd ls (Nat.le_refl a)]
  rfl)
 go_enter Tryz.func119,Tryz.ntmps119
 go_wp2
 generalize w.alloc (.cells #[.int .i64 A,.int .i64 AN,.int .i64 B,.int .i64 BN,.slice (some ⟨bk,off,none⟩) ls.length lc] 45)=W at hBl HCL d4 hbk ⊢
 generalize hM:w.heap.size=M at d4 ⊢
 have HM:Hid (w.heap.size=M):=hM
 clear hM
 go_loopw [5] (fun i wr=>∃ k:Nat,k≤a∧i=.int .i64 k∧W=wr∧Hid (∀ sg,endS sg (ls.take a)=(hasM sg (segM ls k a) || endS sg (ls.take k)))) (fun i _=>(intOf i).toNat)
 case atStart=>exact⟨a,Nat.le_refl _,rfl,rfl,HA0⟩
 case round =>
 clear HA0
 obtain⟨k,hk,rfl,rfl,HI⟩:=hrel
 by_cases hgo:∃ j,∃ hj:j<ls.length,k=j+1∧ls[j].sg≠32
 ·obtain⟨j,hj,rfl,hs⟩:=hgo
  have c0:=HCL.out j hj
  have HI2:Hid (∀ sg,endS sg (ls.take a)=(hasM sg (segM ls j a) || endS sg (ls.take j))):=fun sg=>Ztk (by omega) (by omega) hs (HI.out sg)
  obtain⟨z,hz⟩:∃ z,ls[j].sg=z:=⟨_,rfl⟩
  rw[hz] at c0 hs
  have e1:(z != 32)=true:=bne_iff_ne.2 hs
  have i1:(0:Int)≤(j:Int):=by omega
  have i2:(j:Int)<(ls.length:Int):=by omega
  have i3:(0:Int)<(j:Int)+1:=by omega
  clear HI hs hz
  go_wp2
  exact⟨⟨j,by omega,by go_num,by first | rfl | trivial,HI2⟩,by simp[intOf]⟩
 ·have hend:k=0∨∃ h:k-1<ls.length,0<k∧ls[k-1].sg=32:=(by
   rcases Nat.eq_zero_or_pos k with h | h
   ·exact .inl h
   ·refine .inr ⟨by omega,h,?_⟩
    have h2:¬ ls[k-1].sg≠32:=fun q=>hgo ⟨k-1,by omega,by omega,q⟩
    simpa using h2)
  have HF:Hid (∀ sg,endS sg (ls.take a)=hasM sg (segM ls k a)):=fun sg=>Ztj (by omega) hend (HI.out sg)
  clear hgo HI
  have HL:Hid (∀ Q:Prop,((k=0→Q)→(∀ j (hj:j<ls.length),k=j+1→ls[j].sg=32→Q)→Q)):=(by
   intro Q h1 h2
   rcases hend with h | ⟨h3,h4,h5⟩
   ·exact h1 h
   ·exact h2 (k-1) h3 (by omega) h5)
  go_upto_region 2 with fail
  go_cut [23] from 12 to 25 (fun cv wz=>cv=.bool false∧W=wz)
  case first =>
   rcases hend with h0 | ⟨h3,h4,h5⟩
   ·subst h0
    go_wp2
    go_meet
    case rel=>exact⟨rfl,rfl⟩
   ·obtain⟨j,rfl⟩:∃ j,k=j+1:=⟨k-1,by omega⟩
    have c0:=HCL.out j (by omega)
    have h6:(ls[j]'(by omega)).sg=32:=by simpa using h5
    rw[h6] at c0
    have i1:(0:Int)≤(j:Int):=by omega
    have i2:(j:Int)<(ls.length:Int):=by omega
    have i3:(0:Int)<(j:Int)+1:=by omega
    clear h5 h6
    go_wp2
    go_meet
    case rel=>exact⟨rfl,rfl⟩
  case rest =>
  obtain⟨rfl,rfl⟩:=hcut
  clear hend HL
  go_wp2
  go_loopw [6] (fun i wr=>∃ t:Nat,a≤t∧t≤ls.length∧i=.int .i64 t∧W=wr∧Hid (∀ sg,anyS sg (ls.drop a)=(hasM sg (segM ls a t) || anyS sg (ls.drop t)))) (fun i _=>ls.length-(intOf i).toNat)
  case atStart=>exact⟨a,Nat.le_refl _,by omega,rfl,rfl,HB0⟩
  case round =>
  clear HB0
  obtain⟨t,hat,ht,rfl,rfl,HJ⟩:=hrel
  by_cases hgo:∃ hj:t<ls.length,ls[t].sg≠32
  ·obtain⟨hj,hs⟩:=hgo
   have c0:=HCL.out t hj
   have HJ2:Hid (∀ sg,anyS sg (ls.drop a)=(hasM sg (segM ls a (t+1)) || anyS sg (ls.drop (t+1)))):=fun sg=>ZxN hat hj hs (HJ.out sg)
   obtain⟨z,hz⟩:∃ z,ls[t].sg=z:=⟨_,rfl⟩
   rw[hz] at c0 hs
   have e1:(z != 32)=true:=bne_iff_ne.2 hs
   have i1:(0:Int)≤(t:Int):=by omega
   have i2:(t:Int)<(ls.length:Int):=by omega
   clear HJ hs hz
   go_wp2
   exact⟨⟨t+1,by omega,by omega,by go_num,by first | rfl | trivial,HJ2⟩,by simp[intOf];omega⟩
  ·have hend:ls.length≤t∨∃ h:t<ls.length,ls[t].sg=32:=(by
    by_cases h:t<ls.length
    ·refine .inr ⟨h,?_⟩
     have h2:¬ ls[t].sg≠32:=fun q=>hgo ⟨h,q⟩
     simpa using h2
    ·exact .inl (by omega))
   have HG:Hid (∀ sg,anyS sg (ls.drop a)=hasM sg (segM ls a t)):=fun sg=>ZxM hend (HJ.out sg)
   obtain⟨x45,hx45⟩:∃ x,hasM 45 (segM ls k t)=x:=⟨_,rfl⟩
   obtain⟨x43,hx43⟩:∃ x,hasM 43 (segM ls k t)=x:=⟨_,rfl⟩
   have HX:Hid ((x45 && x43)=r):=(by
    show _=_
    rw[← HR.out,Ztv hk hat ht (HF.out 45) (HF.out 43) (HG.out 45) (HG.out 43),hx45,hx43])
   have HS0:Hid ((false || hasM 45 (segM ls k t))=x45∧(false || hasM 43 (segM ls k t))=x43):=⟨by rw[Bool.false_or];exact hx45,by rw[Bool.false_or];exact hx43⟩
   clear hgo HJ hx45 hx43 HF HG HR
   go_upto_region 4 with fail
   go_cut [39] from 26 to 41 (fun cv wz=>cv=.bool false∧W=wz)
   case first =>
    by_cases h:t<ls.length
    ·have c0:=HCL.out t h
     have h6:ls[t].sg=32:=(by
      rcases hend with h1 | ⟨_,h2⟩
      ·omega
      ·exact h2)
     rw[h6] at c0
     have i1:(0:Int)≤(t:Int):=by omega
     have i2:(t:Int)<(ls.length:Int):=by omega
     clear h6 hend
     go_wp2
     go_meet
     case rel=>exact⟨rfl,rfl⟩
    ·have i2:¬ (t:Int)<(ls.length:Int):=by omega
     clear hend
     go_wp2
     go_meet
     case rel=>exact⟨rfl,rfl⟩
   case rest =>
   obtain⟨rfl,rfl⟩:=hcut
   clear hend
   go_wp2
   go_loopw [7,8,9] (fun rv av i wr=>∃ (j:Nat) (x y:Bool),k≤j∧(j≤t∨j=k)∧i=.int .i64 j∧rv=.bool x∧av=.bool y∧W=wr∧Hid ((x || hasM 45 (segM ls j t))=x45∧(y || hasM 43 (segM ls j t))=x43)) (fun _ _ i _=>t-(intOf i).toNat)
   case atStart=>exact⟨k,false,false,Nat.le_refl _,.inr rfl,rfl,rfl,rfl,rfl,HS0⟩
   case round =>
   clear HS0
   obtain⟨j,x,y,hkj,hjt,rfl,rfl,rfl,rfl,HK⟩:=hrel
   by_cases hlt:j<t
   ·have c0:=HCL.out j (by omega)
    have HK2:=HK.out
    rw[ZAe hlt ht,ZvM,ZvM] at HK2
    obtain⟨z,hz⟩:∃ z,(ls[j]'(by omega)).sg=z:=⟨_,rfl⟩
    rw[hz] at c0 HK2
    have i1:(0:Int)≤(j:Int):=by omega
    have i2:(j:Int)<(ls.length:Int):=by omega
    have i3:(j:Int)<(t:Int):=by omega
    have HK3:Hid (((x || (z == 45)) || hasM 45 (segM ls (j+1) t))=x45∧((y || (z == 43)) || hasM 43 (segM ls (j+1) t))=x43):=(by
     rw[Bool.or_assoc,Bool.or_assoc]
     exact HK2)
    clear HK HK2 hz
    go_upto_region 10 with fail
    go_cut [7] from 43 to 67 (fun cv wz=>cv=.bool (x || (z == 45))∧W=wz)
    case first =>
     cases x with
     | true =>
      go_wp2
      go_meet
      case rel=>exact⟨rfl,rfl⟩
     | false =>
      go_wp2
      go_meet
      case rel=>exact⟨rfl,rfl⟩
    case rest =>
    obtain⟨rfl,rfl⟩:=hcut
    generalize (x || (z == 45))=x2 at HK3 ⊢
    cases y with
    | true =>
     have HK4:Hid ((x2 || hasM 45 (segM ls (j+1) t))=x45∧(true || hasM 43 (segM ls (j+1) t))=x43):=⟨HK3.out.1,by have h:=HK3.out.2;rw[Bool.true_or] at h;exact h⟩
     clear HK3
     go_wp2
     exact⟨⟨j+1,x2,true,by omega,.inl (by omega),by go_num,rfl,rfl,by first | rfl | trivial,HK4⟩,by simp[intOf];omega⟩
    | false =>
     have HK4:Hid ((x2 || hasM 45 (segM ls (j+1) t))=x45∧((z == 43) || hasM 43 (segM ls (j+1) t))=x43):=⟨HK3.out.1,by have h:=HK3.out.2;rw[Bool.false_or] at h;exact h⟩
     clear HK3
     go_wp2
     exact⟨⟨j+1,x2,(z == 43),by omega,.inl (by omega),by go_num,rfl,rfl,by first | rfl | trivial,HK4⟩,by simp[intOf];omega⟩
   ·have hend:¬ (j:Int)<(t:Int):=by omega
    have HE:Hid ((x && y)=r):=(by
     show _=_
     have h:=HK.out
     rw[ZAd ls (by omega)] at h
     have h1:x=x45:=by rw[← h.1];simp[hasM]
     have h2:y=x43:=by rw[← h.2];simp[hasM]
     rw[h1,h2]
     exact HX.out)
    clear HK HX
    cases x with
    | true =>
     have HE2:Hid (y=r):=(by have h:=HE.out;rw[Bool.true_and] at h;exact h)
     go_wp2
     go_ret
     exact⟨by rw[← HE2.out];rfl,hBl⟩
    | false =>
     have HE2:Hid (false=r):=(by have h:=HE.out;rw[Bool.false_and] at h;exact h)
     go_wp2
     go_ret
     exact⟨by rw[← HE2.out];rfl,hBl⟩
end

end Go.Proofs.YtcniomgjikienaaGreatDoor
