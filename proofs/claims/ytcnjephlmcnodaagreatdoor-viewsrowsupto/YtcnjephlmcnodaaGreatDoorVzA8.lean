/-
  Texts that belong together, joined: PaFd, PaLs, PaTr, MiRk, PcLe, PaPi, PaOp, PaDf, PaHm, HiMath, HiRuns, HiPc, SpPc, MiRd, HiMp, HiGr, HiCm.
-/
import Derived.Test.YtcnjephlmcnodaaGreatDoorVzA7
import Derived.Laws.Rows
import Derived.Deep.CutRange
import Derived.Laws.EntriesVeiled
import Derived.Maps.OwnSet
import Derived.Carry
import Derived.Maps.OwnRows
import Derived.Maps.GroupsBeside

set_option maxHeartbeats 16000000
set_option maxRecDepth 100000
namespace Go.Proofs.YtcnjephlmcnodaaGreatDoor

section
open Go.RowKit
attribute [local simp] ZgX
theorem Zmf (x y:List Int):(unq x y).length≤x.length:=Zms x y 0 x
def Bx2 (u:World) (B:Nat) (p q:Nat):Prop:=u.heap[B]?=some (.cells #[.int .i64 (p:Int),.int .i64 (q:Int)] 133 (0,0))
section
variable {u u':World} {B p q:Nat}
theorem Bx2.cells (h:Bx2 u B p q):u.cell? ⟨B,0,none⟩=some (.int .i64 (p:Int))∧u.cell? ⟨B,1,none⟩=some (.int .i64 (q:Int)):=by
 refine⟨?_,?_⟩<;>rw[Lib.cell_of_heap h]<;>rfl
theorem Bx2.frozen (h:Bx2 u B p q) (j:Nat):u.frozen? ⟨B,j,none⟩=false:=by
 unfold World.frozen?
 rw[h]
 rfl
theorem Bx2.lt (h:Bx2 u B p q):B<u.heap.size:=(Array.getElem?_eq_some_iff.1 h).1
theorem Bx2.keep (h:Bx2 u B p q) {r:Option Nat} (hg:u.grownBy u' r) (hr:some B≠r):Bx2 u' B p q:=(hg.block B h.lt hr).trans h
theorem Bx2.low (h:Bx2 u B p q) (hg:Below u.heap.size u u'):Bx2 u' B p q:=(hg.block B h.lt).trans h
theorem Bx2.new (w:World) (p q:Nat):Bx2 (w.alloc (.cells #[.int .i64 (p:Int),.int .i64 (q:Int)] 133)) w.heap.size p q:=_root_.Go.heap_alloc_new w _
theorem Bx2.put (h:Bx2 u B p q) (p' q':Nat):Bx2 ((u.setCell ⟨B,0,none⟩ (.int .i64 (p':Int))).setCell ⟨B,1,none⟩ (.int .i64 (q':Int))) B p' q' :=
 heap_setCell_same _ B 1 _ _ _ (heap_setCell_same u B 0 _ _ _ h)
end
theorem ZgP {u:World} {a:Addr} {n:Nat} {c:Array Value} (h:u.cell? a=some (.func (.func n) #[] c)) {op:Oper} (x:Operand) (ho:op.op=.load 125 x) {ev:Operand→Value} (hx:ev x=.pointer (some a)) :
  (execOp ev op).run Tryz.prog u=.ok (.value (.func (.func n) #[] c)) u:=by
 simp only[execOp,ho,hx]
 go_simp
theorem ZbZ {u u':World} (h:Below u.heap.size u u') {a:Addr} {v:Value} (hc:u.cell? a=some v):u'.cell? a=some v:=Zcb h hc
theorem ZdW (x y:List Int) (W0:World) (g Bf:Nat) (hf0:W0.cell? ⟨Bf,0,none⟩=some (.func (.func 81) #[] #[.pointer (some ⟨Bf,0,none⟩)])) (hxl:x.length≤4096) (hyl:y.length≤4096) (hwx:∀ c∈x,w64 c) (hwy:∀ c∈y,w64 c) (f:Nat):∀ (w:World) (K:List Int) (_:Ls W0 g x.length K w) (a b c d:Nat) (xo:Option Addr) (nx xc:Nat) (yo:Option Addr) (ny yc:Nat) (ko:Option Addr) (kc:Nat) (_:Pz W0 g x y a b c d xo nx xc yo ny yc ko kc) (_:b-a<f) (KF:List Int) (_:Hid (wrk K (pcs (pmid x y) x y f a b c d)=KF)),
  Calls Tryz.prog 81 #[.agg #[.slice xo nx xc,.slice yo ny yc,.int .i64 (c:Int),.slice ko nx kc],.pointer (some ⟨Bf,0,none⟩)] w fun e w'=>e=.returned (.tuple #[])∧Ls W0 g x.length KF w'∧w.grownBy w' (some g):=by
 induction f with
 | zero=>intro w K hS a b c d xo nx xc yo ny yc ko kc hp hf;omega
 | succ f ih =>
  intro w K hS a b c d xo nx xc yo ny yc ko kc hp hf KF hKF
  have hg:=hS.lt
  have HKF:Hid (∀ k m,k=tf x y a b c d→m=tb x y (a+k) b (c+k) d→wrk (wrk K (fp a c k++bp b d m)) (if a+k<b-m∧c+k<d-m then pmid x y (pcs (pmid x y) x y f) (a+k) (b-m) (c+k) (d-m) else [])=KF):=(by
   intro k m hk hm
   rw[← hKF.out,pcs,ends,← hk,← hm,Zoj,Zoj,Zoj])
  have hQ0:=Qbx.new w (.slice xo nx xc) (.slice yo ny yc) (.int .i64 c) (.slice ko nx kc)
  have hB0:=(Below.refl w.heap.size w).alloc (Nat.le_refl _) (.cells #[.slice xo nx xc,.slice yo ny yc,.int .i64 c,.slice ko nx kc] 127)
  clear hKF
  go_enter Tryz.func81,Tryz.ntmps81
  go_wp2_with fail
  refine (Zaz x y W0 _ g K a b c d xo nx xc yo ny yc ko kc hp hxl hyl (hS.keep hB0)).mono ?_
  rintro e w1 ⟨k,m,xo1,nx1,xc1,yo1,ny1,yc1,ko1,kc1,hk,hm,rfl,hp1,hS1,hG1⟩
  have HK2:=HKF.out k m hk hm
  have hkl:=ZlG x y a b c d
  have hml:=ZlD x y (a+k) b (c+k) d
  rw[← hk] at hkl
  rw[← hm] at hml
  have hQ1:=hQ0.keep hG1 (by simp;omega)
  have hG1':w.grownBy w1 (some g):=(ZgY hB0 _).trans hG1
  have hb0:=hp.eb
  have hf':=hp.bx
  clear hk hm HKF hS hB0 hQ0 hG1 hp
  obtain⟨A,hA⟩:∃ A,a+k=A:=⟨_,rfl⟩
  obtain⟨C,hC⟩:∃ C,c+k=C:=⟨_,rfl⟩
  obtain⟨b1,hb1⟩:∃ B,b-m=B:=⟨_,rfl⟩
  obtain⟨d1,hd1⟩:∃ D,d-m=D:=⟨_,rfl⟩
  obtain⟨K1,hK1⟩:∃ K1,wrk K (fp a c k++bp b d m)=K1:=⟨_,rfl⟩
  rw[hK1] at hS1 HK2
  rw[hA,hC,hb1,hd1] at HK2 hp1
  rw[hC]
  have HK3:Hid (wrk K1 (if A<b1∧C<d1 then pmid x y (pcs (pmid x y) x y f) A b1 C d1 else [])=KF):=HK2
  have hf1:b1-A≤f:=by omega
  clear hA hC hb1 hd1 hK1 hkl hml hf HK2 hb0 hf'
  obtain⟨c0,c1,c2,c3⟩:=hQ1.cells
  have f0:=hQ1.frozen
  have hQ2:=hQ1.put (.slice xo1 nx1 xc1) (.slice yo1 ny1 yc1) (.int .i64 (C:Int)) (.slice ko1 nx1 kc1)
  have hgw:=hS1.low.size
  have hS2:=Zhe (Zhe (Zhe (Zhe hS1 (g:=w.heap.size) (by omega) (by omega) 0 (.slice xo1 nx1 xc1)) (g:=w.heap.size) (by omega) (by omega) 1 (.slice yo1 ny1 yc1)) (g:=w.heap.size) (by omega) (by omega) 2 (.int .i64 (C:Int))) (g:=w.heap.size) (by omega) (by omega) 3 (.slice ko1 nx1 kc1)
  have hG2:=ZeG (ZeG (ZeG (ZeG hG1' (B:=w.heap.size) (by omega) 0 (.slice xo1 nx1 xc1)) (B:=w.heap.size) (by omega) 1 (.slice yo1 ny1 yc1)) (B:=w.heap.size) (by omega) 2 (.int .i64 (C:Int))) (B:=w.heap.size) (by omega) 3 (.slice ko1 nx1 kc1)
  obtain⟨W2,hW2⟩:∃ W2,(((w1.setCell ⟨w.heap.size,0,none⟩ (.slice xo1 nx1 xc1)).setCell ⟨w.heap.size,1,none⟩ (.slice yo1 ny1 yc1)).setCell ⟨w.heap.size,2,none⟩ (.int .i64 (C:Int))).setCell ⟨w.heap.size,3,none⟩ (.slice ko1 nx1 kc1)=W2:=⟨_,rfl⟩
  rw[hW2] at hQ2 hS2 hG2
  unfold pzV
  have hAb:=hp1.eb
  have hCd:=hp1.ed
  obtain⟨r,hr⟩:∃ r,r=decide (nx1=0∨ny1=0):=⟨_,rfl⟩
  have HR:Hid (r=decide (nx1=0∨ny1=0)):=hr
  obtain⟨q0,q1,q2,q3⟩:=hQ2.cells
  clear hr
  go_wp2_with fail
  refine (Zan xo1 nx1 xc1 yo1 ny1 yc1 C ko1 kc1 W2 r HR).mono ?_
  rintro e w3 ⟨rfl,hB3⟩
  clear q0 q1 q2 q3 c0 c1 c2 c3 f0 hW2 hQ1 hS1 hG1'
  have hQ3:=hQ2.low hB3
  have hS3:=hS2.keep hB3
  have hG3:=hG2.trans (ZgY hB3 (some g))
  clear hQ2 hS2 hG2 hB3
  cases r with
  | true =>
   have e:K1=KF:=by
    have h1:=of_decide_eq_true HR.out.symm
    have:=HK3.out
    rw[if_neg (by omega)] at this
    exact this
   subst e
   go_wp2
   (try simp only[Exit.inBlock,Exit.then])
   refine bodyPost_ret (results_none rfl _ _ _) rfl ?_
   exact⟨rfl,hS3,hG3⟩
  | false =>
   have h1:=of_decide_eq_false HR.out.symm
   have hm0:A<b1∧C<d1:=by omega
   have HK2:Hid (wrk K1 (pmid x y (pcs (pmid x y) x y f) A b1 C d1)=KF):=(by
    show _=_
    have:=HK3.out
    rw[if_pos hm0] at this
    exact this)
   clear HK3 HR
   have hbx:=hp1.bx
   have hdy:=hp1.dy
   obtain⟨X,hX⟩:∃ X,sub x A b1=X:=⟨_,rfl⟩
   obtain⟨Y,hY⟩:∃ Y,sub y C d1=Y:=⟨_,rfl⟩
   have hXl:X.length=nx1:=by rw[← hX,Zlz x A b1 hbx];omega
   have hYl:Y.length=ny1:=by rw[← hY,Zlz y C d1 hdy];omega
   have hx3:HI w3 (.slice xo1 nx1 xc1) X:=by
    unfold HI
    rw[hXl,← hX]
    exact Holds.keep hp1.hx (fun q hq=>hS3.low.block q hq)
   have hy3:HI w3 (.slice yo1 ny1 yc1) Y:=by
    unfold HI
    rw[hYl,← hY]
    exact Holds.keep hp1.hy (fun q hq=>hS3.low.block q hq)
   have HW:Hid ((∀ c∈X,w64 c)∧(∀ c∈Y,w64 c)):=(by
    refine⟨fun c hc=>hwx c ?_,fun c hc=>hwy c ?_⟩
    ·rw[← hX] at hc
     exact List.mem_of_mem_drop (List.mem_of_mem_take hc)
    ·rw[← hY] at hc
     exact List.mem_of_mem_drop (List.mem_of_mem_take hc))
   obtain⟨Q,hQ⟩:∃ Q,unq X Y=Q:=⟨_,rfl⟩
   obtain⟨L,hL⟩:∃ L,lng Q=L:=⟨_,rfl⟩
   obtain⟨n,hn⟩:∃ n,L.length=n:=⟨_,rfl⟩
   have HQ:Hid (unq X Y=Q):=hQ
   have HL:Hid (lng Q=L):=hL
   have HN:Hid (L.length=n):=hn
   have hQl:Q.length≤nx1:=by rw[← hQ,← hXl];exact Zmf X Y
   have hLn:n≤nx1:=by rw[← hn,← hL];exact Nat.le_trans (ZiC _ _ _ _) hQl
   have HX:Hid (X.length≤1048576∧Y.length≤1048576∧Q.length≤1048576):=(by refine⟨?_,?_,?_⟩<;>omega)
   have HK4:Hid (wrk K1 (if L=[] then lp A C (kp 0 (sub x A b1) (sub y C d1)) else gos (pcs (pmid x y) x y f) A C b1 d1 A C L)=KF):=(by
    show _=_
    have:=HK2.out
    unfold pmid at this
    rw[hX,hY,hQ,hL] at this
    rw[hX,hY]
    exact this)
   have HGs:Hid (∀ KF,wrk K1 (gos (pcs (pmid x y) x y f) A C b1 d1 A C L)=KF→Gs (pcs (pmid x y) x y f) A C b1 d1 L A C K1 KF):=(by
    intro KF h
    have:=Gs.start (rec:=pcs (pmid x y) x y f) (x:=x) (y:=y) (K:=K1) (KF:=KF) (a:=A) (b:=b1) (c:=C) (d:=d1) (by omega) hbx (by omega) hdy
    rw[hX,hY,hQ,hL] at this
    exact this h)
   have hnl:n≤4096:=by omega
   clear hX hY hXl hYl hQ hL hn HK2 hQl hLn
   obtain⟨q0,q1,q2,q3⟩:=hQ3.cells
   go_wp2_with fail
   refine (ZaU X Y _ _ w3 hx3 hy3 HX.out.1 HX.out.2.1 HW.out.1 HW.out.2 Q HQ).mono ?_
   rintro e w4 ⟨v4,rfl,hQr,hB4⟩
   obtain⟨qo,qc,rfl⟩:=Holds.form hQr
   clear q0 q1 q2 q3 hx3 hy3 HW
   go_wp2_with fail
   refine (ZaF Q _ w4 hQr HX.out.2.2 L HL).mono ?_
   rintro e w5 ⟨v5,rfl,hO,hB5⟩
   obtain⟨lo,lc,rfl⟩:=(holds_of hO).form
   rw[HN.out] at hO ⊢
   have hB35:Below w3.heap.size w3 w5:=hB4.trans (hB5.mono hB4.size)
   have hgB:g<w4.heap.size:=by have:=hS3.lt;have:=hB4.size;omega
   obtain⟨B,hB⟩:∃ B,w4.heap.size=B:=⟨_,rfl⟩
   rw[hB] at hO hgB
   have hQ5:=hQ3.low hB35
   have hS5:=hS3.keep hB35
   have hG5:=hG3.trans (ZgY hB35 (some g))
   clear hB hB4 hB5 hB35 hQ3 hS3 hG3 hQr HQ HL HX
   obtain⟨q0,q1,q2,q3⟩:=hQ5.cells
   by_cases hn0:n=0
   ·have e3:((n:Int) == 0)=true:=by simp;omega
    have HK5:Hid (wrk K1 (lp A C (kp 0 (sub x A b1) (sub y C d1)))=KF):=(by
     show _=_
     have:=HK4.out
     rw[if_pos (List.eq_nil_of_length_eq_zero (by rw[HN.out];exact hn0))] at this
     exact this)
    clear hn0 HK4 HGs
    go_wp2_with fail
    refine (ZaA x y W0 w5 g K1 A b1 C d1 xo1 nx1 xc1 yo1 ny1 yc1 ko1 kc1 hp1 hxl hyl hS5 KF HK5).mono ?_
    rintro e w6 ⟨rfl,hS6,hG6⟩
    have hG7:=hG5.trans hG6
    go_wp2
    (try simp only[Exit.inBlock,Exit.then])
    refine bodyPost_ret (results_none rfl _ _ _) rfl ?_
    exact⟨rfl,hS6,hG7⟩
   ·have e3:((n:Int) == 0)=false:=by simp;omega
    have HG0:Hid (Gs (pcs (pmid x y) x y f) A C b1 d1 (L.drop 0) A C K1 KF):=(by
     refine HGs.out KF ?_
     have:=HK4.out
     rw[if_neg (fun h=>hn0 (by rw[← HN.out,h];rfl))] at this
     exact this)
    clear HK4 HGs
    have hBn:=Bx2.new w5 0 0
    have hLn:Below w5.heap.size w5 (w5.alloc (.cells #[.int .i64 ((0:Nat):Int),.int .i64 ((0:Nat):Int)] 133)):=(Below.refl _ w5).alloc (Nat.le_refl _) _
    have hQ6:=hQ5.low hLn
    have hS6:=hS5.keep hLn
    have hG6:=hG5.trans (ZgY hLn (some g))
    have hO6:=Zin hO hLn
    have hw5:=hS5.low.size
    have hw6:=hS5.lt
    have hw7:=hG5.size
    have hw8:=hQ5.lt
    have hlo:Hid (∀ ad:Addr,lo=some ad→ad.block<w5.heap.size):=(by
     intro ad e
     rcases hO.2 with ⟨h,_⟩ | ⟨g',cap',cur,h,_,hcur,_⟩
     ·cases h
      cases e
     ·cases h
      cases e
      exact (Array.getElem?_eq_some_iff.1 hcur).1)
    clear hQ5 hS5 hG5 hO hLn q0 q1 q2 q3
    go_wp2
    go_loopw [24] (fun iv wr=>∃ (i bx cy a' c':Nat) (K':List Int),i≤n∧iv=.int .i64 i∧a'=A+bx∧c'=C+cy∧Ls W0 g x.length K' wr∧w.grownBy wr (some g)∧Qbx wr w.heap.size (.slice xo1 nx1 xc1) (.slice yo1 ny1 yc1) (.int .i64 C) (.slice ko1 nx1 kc1)∧Bx2 wr w5.heap.size bx cy∧wr.ownsRow B 133 2 (.slice lo n lc) n (prcells L)∧(i=0∨A<a')∧Hid (Gs (pcs (pmid x y) x y f) A C b1 d1 (L.drop i) a' c' K' KF)) (fun iv _=>n-(intOf iv).toNat)
    case atStart=>exact⟨0,0,0,A,C,K1,Nat.zero_le _,rfl,rfl,rfl,hS6,hG6,hQ6,hBn,hO6,.inl rfl,HG0⟩
    case round =>
     clear hQ6 hS6 hG6 hBn hO6 HG0
     obtain⟨i,bx,cy,a',c',K',hi,rfl,ha',hc',hS,hG,hQ,hBb,hO,hia,HG⟩:=hrel
     have hwr:=hS.low.size
     have hgr:=hG.size
     have hlr:=hBb.lt
     by_cases hlt:i<n
     ·have hiL:i<L.length:=by rw[HN.out];exact hlt
      obtain⟨p,hp⟩:∃ p,L[i]=p:=⟨_,rfl⟩
      have HG2:Hid (Gs (pcs (pmid x y) x y f) A C b1 d1 (p::L.drop (i+1)) a' c' K' KF):=(by
       have:=HG.out
       rw[List.drop_eq_getElem_cons hiL,hp] at this
       exact this)
      obtain⟨pu,pv,hpu,hpv,q1,q2,q3,q4⟩:=HG2.out.head
      have HG3:Hid (Gs (pcs (pmid x y) x y f) A C b1 d1 (L.drop (i+1)) (A+pu+1) (C+pv+1) (wrk (wrk K' (pcs (pmid x y) x y f a' (A+pu) c' (C+pv))) (fp (A+pu) (C+pv) 1)) KF):=HG2.out.step hpu hpv
      have hAa:=HG2.out.Aa
      have hCc:=HG2.out.Cc
      obtain⟨lb,lf,lcc,hle,_,hcl⟩:=Holds.at (holds_of hO) (by rw[ZiZ];omega)
      cases hle
      have hlb:lb≠w5.heap.size:=Nat.ne_of_lt (hlo.out _ rfl)
      have l0:wr.cell? ⟨lb,lf+i * 2,none⟩=some (.int .i64 (pu:Int)):=by
       obtain⟨t1,t2⟩:=List.getElem?_eq_some_iff.1 (ZiX L i hiL).1
       have:=hcl _ t1
       rw[t2,hp,hpu,show 2 * i=i * 2 by omega] at this
       exact this
      have l1:wr.cell? ⟨lb,lf+i * 2+1,none⟩=some (.int .i64 (pv:Int)):=by
       obtain⟨t1,t2⟩:=List.getElem?_eq_some_iff.1 (ZiX L i hiL).2
       have:=hcl _ t1
       rw[t2,hp,hpv,show 2 * i+1=i * 2+1 by omega] at this
       exact this
      clear hcl HG HG2 hpu hpv hp
      have i1:0≤(i:Int):=by omega
      have i2:(i:Int)<(n:Int):=by omega
      have hEn:=Bx2.new wr pu pv
      have hLn:Below wr.heap.size wr (wr.alloc (.cells #[.int .i64 (pu:Int),.int .i64 (pv:Int)] 133)):=(Below.refl _ wr).alloc (Nat.le_refl _) _
      have hQ1:=hQ.low hLn
      have hS1:=hS.keep hLn
      have hG1:=hG.trans (ZgY hLn (some g))
      have hB1:=hBb.low hLn
      have hO1:=Zin hO hLn
      clear hQ hS hG hBb hO hLn
      obtain⟨W3,hW3⟩:∃ W3,wr.alloc (.cells #[.int .i64 (pu:Int),.int .i64 (pv:Int)] 133)=W3:=⟨_,rfl⟩
      rw[hW3] at hEn hQ1 hS1 hG1 hB1 hO1
      obtain⟨u2,hu⟩:∃ u,A+pu=u:=⟨_,rfl⟩
      obtain⟨v2,hv⟩:∃ v,C+pv=v:=⟨_,rfl⟩
      rw[hu,hv] at HG3
      rw[hu] at q1 q2
      rw[hv] at q3 q4
      obtain⟨KK,hKK⟩:∃ KK,wrk K' (pcs (pmid x y) x y f a' u2 c' v2)=KK:=⟨_,rfl⟩
      have HKK:Hid (wrk K' (pcs (pmid x y) x y f a' u2 c' v2)=KK):=hKK
      rw[hKK] at HG3
      have hsz3:=hG1.size
      have hlt3:=hEn.lt
      have hcs:∀ u:World,W3.grownBy u (some g)→u.cell? ⟨Bf,0,none⟩=some (.func (.func 81) #[] #[.pointer (some ⟨Bf,0,none⟩)])∧u.cell? ⟨w.heap.size,0,none⟩=some (.slice xo1 nx1 xc1)∧u.cell? ⟨w.heap.size,1,none⟩=some (.slice yo1 ny1 yc1)∧u.cell? ⟨w.heap.size,2,none⟩=some (.int .i64 (C:Int))∧u.cell? ⟨w.heap.size,3,none⟩=some (.slice ko1 nx1 kc1)∧u.cell? ⟨wr.heap.size,0,none⟩=some (.int .i64 (pu:Int))∧u.cell? ⟨wr.heap.size,1,none⟩=some (.int .i64 (pv:Int))∧u.cell? ⟨w5.heap.size,0,none⟩=some (.int .i64 (bx:Int))∧u.cell? ⟨w5.heap.size,1,none⟩=some (.int .i64 (cy:Int)):=fun u hu=>by
       have hfb:=hS1.low.grown hu hS1.low.size (fun k hk=>by cases hk;exact hg.1)
       obtain⟨t0,t1,t2,t3⟩:=(hQ1.keep hu (by simp;omega)).cells
       obtain⟨t4,t5⟩:=(hEn.keep hu (by simp;omega)).cells
       obtain⟨t6,t7⟩:=(hB1.keep hu (by simp;omega)).cells
       exact⟨ZbZ hfb hf0,t0,t1,t2,t3,t4,t5,t6,t7⟩
      obtain⟨z0,z1,z2,z3,z4,z5,z6,z7,z8⟩:=hcs W3 (World.grownBy.refl _ _)
      have hLw:Low W3 W3:=Below.refl _ _
      go_wp2_with fail
      clear hW3 l0 l1
      refine wp_region_noPanic ?_
      refine wp_region_held_drew (S:=fun u=>W3.grownBy u (some g)) (by kernel_rfl) (ZeF (World.grownBy.refl W3 _) 1) (fun hHeld=>?_)
      refine Y_t 0 28 _ (.func (.func 81) #[] #[.pointer (some ⟨Bf,0,none⟩)]) rfl (Or.inl ⟨by kernel_rfl,fun u hu=>ZgP (hcs u hu).1 (.tmp 1) (by kernel_rfl) (by kernel_rfl)⟩) hHeld ?_
      simp only[Act.put,Y_a,Y_b,Y_c]
      refine Y_t 1 29 _ (.agg #[.slice xo1 nx1 xc1,.slice yo1 ny1 yc1,.int .i64 (C:Int),.slice ko1 nx1 kc1]) rfl (Or.inl ⟨by kernel_rfl,fun u hu=>ZgR (hQ1.keep hu (by simp;omega)) (.tmp 2) (by kernel_rfl) (by kernel_rfl)⟩) hHeld ?_
      simp only[Act.put,Y_a,Y_b,Y_c]
      refine Y_t 2 30 _ (.pointer (some ⟨wr.heap.size,0,none⟩)) rfl (Or.inl ⟨by kernel_rfl,fun u hu=>by kernel_rfl⟩) hHeld ?_
      simp only[Act.put,Y_a,Y_b,Y_c]
      refine Y_t 3 31 _ (.int .i64 (pu:Int)) rfl (Or.inl ⟨by kernel_rfl,fun u hu=>ZgQ (hcs u hu).2.2.2.2.2.1 (.tmp 30) (by kernel_rfl) (by kernel_rfl)⟩) hHeld ?_
      simp only[Act.put,Y_a,Y_b,Y_c]
      refine Y_t 4 32 _ (.pointer (some ⟨wr.heap.size,1,none⟩)) rfl (Or.inl ⟨by kernel_rfl,fun u hu=>by kernel_rfl⟩) hHeld ?_
      simp only[Act.put,Y_a,Y_b,Y_c]
      refine Y_t 5 33 _ (.int .i64 (pv:Int)) rfl (Or.inl ⟨by kernel_rfl,fun u hu=>ZgQ (hcs u hu).2.2.2.2.2.2.1 (.tmp 32) (by kernel_rfl) (by kernel_rfl)⟩) hHeld ?_
      simp only[Act.put,Y_a,Y_b,Y_c]
      refine Y_t 7 35 _ (.pointer (some ⟨w5.heap.size,0,none⟩)) rfl (Or.inl ⟨by kernel_rfl,fun u hu=>by kernel_rfl⟩) hHeld ?_
      simp only[Act.put,Y_a,Y_b,Y_c]
      refine Y_t 8 36 _ (.int .i64 (bx:Int)) rfl (Or.inl ⟨by kernel_rfl,fun u hu=>ZgQ (hcs u hu).2.2.2.2.2.2.2.1 (.tmp 35) (by kernel_rfl) (by kernel_rfl)⟩) hHeld ?_
      simp only[Act.put,Y_a,Y_b,Y_c]
      refine Y_t 9 37 _ (.pointer (some ⟨w5.heap.size,1,none⟩)) rfl (Or.inl ⟨by kernel_rfl,fun u hu=>by kernel_rfl⟩) hHeld ?_
      simp only[Act.put,Y_a,Y_b,Y_c]
      refine Y_t 10 38 _ (.int .i64 (cy:Int)) rfl (Or.inl ⟨by kernel_rfl,fun u hu=>ZgQ (hcs u hu).2.2.2.2.2.2.2.2 (.tmp 37) (by kernel_rfl) (by kernel_rfl)⟩) hHeld ?_
      simp only[Act.put,Y_a,Y_b,Y_c]
      refine Y_e 6 34 _ rfl 87 (.func 87) #[.tmp 29,.tmp 31,.tmp 33] #[127,3,3] (by kernel_rfl) #[] (by kernel_rfl) #[.agg #[.slice xo1 nx1 xc1,.slice yo1 ny1 yc1,.int .i64 (C:Int),.slice ko1 nx1 kc1],.int .i64 (pu:Int),.int .i64 (pv:Int)] (by kernel_rfl) (enters_of Tryz.func87 (by kernel_rfl) rfl) _ (Zmi hp1 pu pv u2 v2 (by omega) (by omega) hu hv W3 _ (Below.dN hLw 1)) ?_
      rintro _ wd hHeld ⟨xo2,nx2,xc2,yo2,ny2,yc2,ko2,kc2,rfl,hp2,hlw⟩
      simp only[Act.put,Y_a,Y_b,Y_c]
      refine Y_e 11 39 _ rfl 88 (.func 88) #[.tmp 34,.tmp 36,.tmp 38] #[127,3,3] (by kernel_rfl) #[] (by kernel_rfl) #[.agg #[.slice xo2 nx2 xc2,.slice yo2 ny2 yc2,.int .i64 (C:Int),.slice ko2 nx2 kc2],.int .i64 (bx:Int),.int .i64 (cy:Int)] (by kernel_rfl) (enters_of Tryz.func88 (by kernel_rfl) rfl) _ (Zem hp2 hyl bx cy a' c' q1 q3 ha'.symm hc'.symm W3 _ hlw) ?_
      rintro _ we hHeld ⟨xo3,nx3,xc3,yo3,ny3,yc3,ko3,kc3,rfl,hp3,hlw3⟩
      simp only[Act.put,Y_a,Y_b,Y_c]
      refine Y_e 12 40 _ rfl 81 (.tmp 28) #[.tmp 39] #[127] (by kernel_rfl) #[.pointer (some ⟨Bf,0,none⟩)] (by kernel_rfl) #[.agg #[.slice xo3 nx3 xc3,.slice yo3 ny3 yc3,.int .i64 (c':Int),.slice ko3 nx3 kc3]] (by kernel_rfl) (enters_of Tryz.func81 (by kernel_rfl) rfl) _ (ZbU hlw3 (ih we K' (hS1.keep hlw3) a' u2 c' v2 xo3 nx3 xc3 yo3 ny3 yc3 ko3 kc3 hp3 (by omega) KK HKK)) ?_
      rintro _ wg hHeld ⟨rfl,hS4⟩
      simp only[Act.put,Y_a,Y_b,Y_c]
      refine wpAnyH_done (by kernel_rfl) ?_ _
      refine NoPanic.normal ?_
      have hQ4:=hQ1.keep hHeld (by simp;omega)
      have hE4:=hEn.keep hHeld (by simp;omega)
      have hB4:=hB1.keep hHeld (by simp;omega)
      have hO4:=Zfj hO1 hHeld hgB
      have hG4:=hG1.trans hHeld
      clear hcs z0 z1 z2 z3 z4 z5 z6 z7 z8 hHeld hQ1 hEn hB1 hO1 hG1 hS1 hLw hlw hlw3 hp2 hp3
      obtain⟨q0,q1',q2',q3'⟩:=hQ4.cells
      obtain⟨t4,t5⟩:=hE4.cells
      go_wp2_with fail
      refine (ZaC KK xo1 nx1 xc1 yo1 ny1 yc1 A C ko1 kc1 wg pu pv hS4 hp1.at' (by omega) (by omega) (by omega) (by omega)).mono ?_
      rintro e wh ⟨rfl,hS5,hG5⟩
      have hQ5:=hQ4.keep hG5 (by simp;omega)
      have hE5:=hE4.keep hG5 (by simp;omega)
      have hB5:=hB4.keep hG5 (by simp;omega)
      have hO5:=Zfj hO4 hG5 hgB
      have hG6:=hG4.trans hG5
      rw[hu,hv] at hS5
      clear q0 q1' q2' q3' t4 t5 hQ4 hE4 hB4 hO4 hG4 hG5 hS4
      obtain⟨t4,t5⟩:=hE5.cells
      obtain⟨t6,t7⟩:=hB5.cells
      have f1:=hB5.frozen
      have hl5:=hB5.lt
      have hs6:=hG6.size
      have hs5:=hS5.low.size
      have hB6:=hB5.put (pu+1) (pv+1)
      have hS6:=Zhe (Zhe hS5 (g:=w5.heap.size) (by omega) (by omega) 0 (.int .i64 ((pu+1:Nat):Int))) (g:=w5.heap.size) (by omega) (by omega) 1 (.int .i64 ((pv+1:Nat):Int))
      have hgs:wh.grownBy ((wh.setCell ⟨w5.heap.size,0,none⟩ (.int .i64 ((pu+1:Nat):Int))).setCell ⟨w5.heap.size,1,none⟩ (.int .i64 ((pv+1:Nat):Int))) (some w5.heap.size):=(ZeH wh w5.heap.size 0 _).trans (ZeH _ w5.heap.size 1 _)
      have hQ6:=hQ5.keep hgs (by simp;omega)
      have hG7:=ZeG (ZeG hG6 (B:=w5.heap.size) (by omega) 0 (.int .i64 ((pu+1:Nat):Int))) (B:=w5.heap.size) (by omega) 1 (.int .i64 ((pv+1:Nat):Int))
      have hO6:((wh.setCell ⟨w5.heap.size,0,none⟩ (.int .i64 ((pu+1:Nat):Int))).setCell ⟨w5.heap.size,1,none⟩ (.int .i64 ((pv+1:Nat):Int))).ownsRow B 133 2 (.slice (some ⟨lb,lf,none⟩) n lc) n (prcells L):=hO5.kept hgs (.inr (fun e=>hlb (by simp[Value.ownBlock] at e;exact e)))
      go_wp2
      go_roundw
      case rel=>exact⟨i+1,pu+1,pv+1,u2+1,v2+1,_,by omega,by go_num,by omega,by omega,hS6,hG7,hQ6,hB6,hO6,.inr (by omega),HG3⟩
      case measure=>simp[intOf];omega
     ·obtain rfl:i=n:=by omega
      have hbb:=HG.out.ab'
      have hdd:=HG.out.cd
      have hAa:=HG.out.Aa
      have HE:Hid (wrk K' (pcs (pmid x y) x y f a' b1 c' d1)=KF):=(by
       have:=HG.out
       rw[List.drop_of_length_le (by rw[HN.out];exact Nat.le_refl _)] at this
       exact this.end')
      have hcs:∀ u:World,wr.grownBy u (some g)→u.cell? ⟨Bf,0,none⟩=some (.func (.func 81) #[] #[.pointer (some ⟨Bf,0,none⟩)])∧u.cell? ⟨w5.heap.size,0,none⟩=some (.int .i64 (bx:Int))∧u.cell? ⟨w5.heap.size,1,none⟩=some (.int .i64 (cy:Int)):=fun u hu=>by
       have hfb:=hS.low.grown hu hS.low.size (fun k hk=>by cases hk;exact hg.1)
       obtain⟨t6,t7⟩:=(hBb.keep hu (by simp;omega)).cells
       exact⟨ZbZ hfb hf0,t6,t7⟩
      go_wp2_with fail
      refine wp_region_noPanic ?_
      refine wp_region_held_drew (S:=fun u=>wr.grownBy u (some g)) (by kernel_rfl) (ZeF (World.grownBy.refl wr _) 1) (fun hHeld=>?_)
      refine Y_t 0 55 _ (.func (.func 81) #[] #[.pointer (some ⟨Bf,0,none⟩)]) rfl (Or.inl ⟨by kernel_rfl,fun u hu=>ZgP (hcs u hu).1 (.tmp 1) (by kernel_rfl) (by kernel_rfl)⟩) hHeld ?_
      simp only[Act.put,Y_a,Y_b,Y_c]
      refine Y_t 1 56 _ (.agg #[.slice xo1 nx1 xc1,.slice yo1 ny1 yc1,.int .i64 (C:Int),.slice ko1 nx1 kc1]) rfl (Or.inl ⟨by kernel_rfl,fun u hu=>ZgR (hQ.keep hu (by simp;omega)) (.tmp 2) (by kernel_rfl) (by kernel_rfl)⟩) hHeld ?_
      simp only[Act.put,Y_a,Y_b,Y_c]
      refine Y_t 2 57 _ (.pointer (some ⟨w5.heap.size,0,none⟩)) rfl (Or.inl ⟨by kernel_rfl,fun u hu=>by kernel_rfl⟩) hHeld ?_
      simp only[Act.put,Y_a,Y_b,Y_c]
      refine Y_t 3 58 _ (.int .i64 (bx:Int)) rfl (Or.inl ⟨by kernel_rfl,fun u hu=>ZgQ (hcs u hu).2.1 (.tmp 57) (by kernel_rfl) (by kernel_rfl)⟩) hHeld ?_
      simp only[Act.put,Y_a,Y_b,Y_c]
      refine Y_t 4 59 _ (.pointer (some ⟨w5.heap.size,1,none⟩)) rfl (Or.inl ⟨by kernel_rfl,fun u hu=>by kernel_rfl⟩) hHeld ?_
      simp only[Act.put,Y_a,Y_b,Y_c]
      refine Y_t 5 60 _ (.int .i64 (cy:Int)) rfl (Or.inl ⟨by kernel_rfl,fun u hu=>ZgQ (hcs u hu).2.2 (.tmp 59) (by kernel_rfl) (by kernel_rfl)⟩) hHeld ?_
      simp only[Act.put,Y_a,Y_b,Y_c]
      refine Y_e 6 61 _ rfl 88 (.func 88) #[.tmp 56,.tmp 58,.tmp 60] #[127,3,3] (by kernel_rfl) #[] (by kernel_rfl) #[.agg #[.slice xo1 nx1 xc1,.slice yo1 ny1 yc1,.int .i64 (C:Int),.slice ko1 nx1 kc1],.int .i64 (bx:Int),.int .i64 (cy:Int)] (by kernel_rfl) (enters_of Tryz.func88 (by kernel_rfl) rfl) _ (Zem hp1 hyl bx cy a' c' hbb hdd ha'.symm hc'.symm wr _ (Below.dN (Below.refl _ wr) 1)) ?_
      rintro _ we hHeld ⟨xo3,nx3,xc3,yo3,ny3,yc3,ko3,kc3,rfl,hp3,hlw3⟩
      simp only[Act.put,Y_a,Y_b,Y_c]
      refine Y_e 7 62 _ rfl 81 (.tmp 55) #[.tmp 61] #[127] (by kernel_rfl) #[.pointer (some ⟨Bf,0,none⟩)] (by kernel_rfl) #[.agg #[.slice xo3 nx3 xc3,.slice yo3 ny3 yc3,.int .i64 (c':Int),.slice ko3 nx3 kc3]] (by kernel_rfl) (enters_of Tryz.func81 (by kernel_rfl) rfl) _ (ZbU hlw3 (ih we K' (hS.keep hlw3) a' b1 c' d1 xo3 nx3 xc3 yo3 ny3 yc3 ko3 kc3 hp3 (by omega) KF HE)) ?_
      rintro _ wg hHeld ⟨rfl,hS4⟩
      simp only[Act.put,Y_a,Y_b,Y_c]
      refine wpAnyH_done (by kernel_rfl) ?_ _
      refine NoPanic.normal ?_
      have hG8:=hG.trans hHeld
      go_wp2
      go_end0
      exact⟨rfl,hS4,hG8⟩
end

section
open Go.RowKit
end

section
open Go.RowKit
section
variable {W0:World} {n:Nat} {K:List Int} {B a b c d:Nat} {u:World}
end
end

section
open Go.RowKit
end

section
open Go.RowKit
attribute [local simp] ZgX
end

section
open Go.RowKit
attribute [local simp] ZgX
end

section
open Go.ChangeShapes Go.WideShapes Go.ChangeAt Go.RowKit
end

section
open Go.RowKit
def pKeep (x y:List Int):List Int:=wrk (List.replicate x.length (-1)) (pcs (pmid x y) x y (x.length+1) 0 x.length 0 y.length)
theorem Zis (x y:List Int):Okp x y 0 x.length 0 y.length (pcs (pmid x y) x y (x.length+1) 0 x.length 0 y.length):=Ziw (ZiT x y) _ 0 x.length 0 y.length (Nat.zero_le _) (Nat.le_refl _) (Nat.zero_le _) (Nat.le_refl _)
theorem Zir (x y:List Int):Kpt x y (pKeep x y):=(Zis x y).kpt
theorem Zit (x y:List Int) (vx vy:Value) (w:World) (hx:HI w vx x) (hy:HI w vy y) (hxl:x.length≤4096) (hyl:y.length≤4096) (hwx:∀ c∈x,w64 c) (hwy:∀ c∈y,w64 c) (L:List Ch) (hL:Hid (mkL (pKeep x y) y.length=L)) :
  Calls Tryz.prog 61 #[vx,vy] w fun e w'=>∃ v',e=.returned (.tuple #[v',.int .i64 0])∧HCh w' v' L∧Below w.heap.size w w':=by
 obtain⟨xo,xc,rfl⟩:=Holds.form hx
 obtain⟨yo,yc,rfl⟩:=Holds.form hy
 obtain⟨KF,hKF⟩:∃ KF,pKeep x y=KF:=⟨_,rfl⟩
 have HK:Hid (Kpt x y KF):=(by rw[← hKF];exact Zir x y)
 have HF:Hid (wrk (List.replicate x.length (-1)) (pcs (pmid x y) x y (x.length+1) 0 x.length 0 y.length)=KF):=hKF
 rw[hKF] at hL
 have HWX:Hid (∀ c∈x,w64 c):=hwx
 have HWY:Hid (∀ c∈y,w64 c):=hwy
 clear hKF hwx hwy
 go_enter Tryz.func61,Tryz.ntmps61
 go_wp2_with fail
 have hW1:Below w.heap.size w (w.alloc (.cells #[.func (.func 81) #[] #[.pointer (some ⟨w.heap.size,0,none⟩)]] 125)):=(Below.refl _ w).alloc (Nat.le_refl _) _
 have hf0:(w.alloc (.cells #[.func (.func 81) #[] #[.pointer (some ⟨w.heap.size,0,none⟩)]] 125)).cell? ⟨w.heap.size,0,none⟩=some (.func (.func 81) #[] #[.pointer (some ⟨w.heap.size,0,none⟩)]):=by
  rw[Lib.cell_of_heap (_root_.Go.heap_alloc_new w _)]
  rfl
 refine (Ziq x y _ _ _ (HI.keep hx hW1 (Nat.le_refl _)) (HI.keep hy hW1 (Nat.le_refl _)) hxl hyl 81 #[.pointer (some ⟨w.heap.size,0,none⟩)] (enters_of Tryz.func81 (by kernel_rfl) rfl) KF HK (fun u g xo xc yo yc hS hp=>ZdW x y _ g w.heap.size hf0 hxl hyl HWX.out HWY.out (x.length+1) u _ hS 0 x.length 0 y.length _ _ _ _ _ _ _ _ hp (by omega) KF HF) L hL).mono ?_
 rintro e w2 ⟨v2,rfl,hv2,hB2⟩
 have hB:=hW1.trans (hB2.mono (by simp))
 clear hf0
 go_wp2
 go_ret2
 exact⟨_,rfl,hv2,hB⟩
end

end Go.Proofs.YtcnjephlmcnodaaGreatDoor

/- What patience keeps is honest, and what it keeps for sure: plain. -/
namespace Go.Proofs.YtcnjephlmcnodaaGreatDoor
end Go.Proofs.YtcnjephlmcnodaaGreatDoor

namespace Go.Proofs.YtcnjephlmcnodaaGreatDoor

section
structure Hr where
 X:Nat
 Y:Nat
 N:Nat
 R:Nat
def cnt (x:List Int) (k:Nat):Nat:=match x[k]? with
 | some c=>x.count c
 | none=>x.length
def rar (x:List Int) (i:Nat):Nat→Nat
 | 0=>x.length
 | n+1=>min (rar x i n) (cnt x (i+n))
def tl (x y:List Int) (i j:Nat):Nat:=tf x y i x.length j y.length
def hd (x y:List Int) (i j:Nat):Nat:=tb x y 0 i 0 j
theorem ZlT (x y:List Int) (i j:Nat):tl x y i j=if i<x.length∧j<y.length∧x[i]?=y[j]? then tl x y (i+1) (j+1)+1 else 0:=by unfold tl;rw[ZlF]
theorem ZeW (x y:List Int) (i j:Nat):hd x y i j=if 0<i∧0<j∧x[i-1]?=y[j-1]? then hd x y (i-1) (j-1)+1 else 0:=by unfold hd;rw[tb]
theorem ZeT (x y:List Int) (i j:Nat):hd x y i j≤i∧hd x y i j≤j:=by have:=ZlD x y 0 i 0 j;unfold hd;omega
theorem ZlQ (x y:List Int) (i j:Nat):tl x y i j≤x.length-i∧tl x y i j≤y.length-j:=ZlG x y i x.length j y.length
theorem ZlS (x y:List Int) (i j:Nat):∀ k,k<tl x y i j→x[i+k]?=y[j+k]?:=ZlH x y i x.length j y.length
theorem ZeV (x y:List Int) (i j:Nat):∀ k,k<hd x y i j→x[i-(k+1)]?=y[j-(k+1)]?:=ZlE x y 0 i 0 j
theorem ZeS (x y:List Int) (i j:Nat):¬ (0<i-hd x y i j∧0<j-hd x y i j∧x[i-hd x y i j-1]?=y[j-hd x y i j-1]?):=by
 induction i generalizing j with
 | zero=>omega
 | succ i ih =>
  rw[ZeW]
  split
  ·rename_i h
   have:=ih (j-1)
   rw[Nat.add_sub_cancel]
   rw[show i+1-(hd x y i (j-1)+1)=i-hd x y i (j-1) by omega,show j-(hd x y i (j-1)+1)=j-1-hd x y i (j-1) by omega]
   exact this
  ·rename_i h
   exact fun h2=>h (by simpa using h2)
theorem ZlR (x y:List Int) (i j n:Nat) (hx:i+n≤x.length) (hy:j+n≤y.length) (h:∀ k,k<n→x[i+k]?=y[j+k]?):tl x y i j=n+tl x y (i+n) (j+n):=by
 induction n generalizing i j with
 | zero=>simp
 | succ n ih =>
  rw[ZlT,if_pos ⟨by omega,by omega,by simpa using h 0 (by omega)⟩,ih (i+1) (j+1) (by omega) (by omega) (fun k hk=>by
   have:=h (k+1) (by omega)
   rw[show i+1+k=i+(k+1) by omega,show j+1+k=j+(k+1) by omega]
   exact this),show i+1+n=i+(n+1) by omega,show j+1+n=j+(n+1) by omega]
  omega
theorem ZeU (x y:List Int) (i j n:Nat) (h:∀ k,k<n→x[i+k]?=y[j+k]?) (h0:¬ (0<i∧0<j∧x[i-1]?=y[j-1]?)):hd x y (i+n) (j+n)=n:=by
 induction n with
 | zero=>rw[Nat.add_zero,Nat.add_zero,ZeW,if_neg h0]
 | succ n ih =>
  rw[ZeW,if_pos ⟨by omega,by omega,by simpa using h n (by omega)⟩,show i+(n+1)-1=i+n by omega,show j+(n+1)-1=j+n by omega,ih (fun k hk=>h k (by omega))]
structure IsRun (x y:List Int) (r:Hr):Prop where
 hx:r.X<x.length
 hy:r.Y<y.length
 same:x[r.X]?=y[r.Y]?
 fst:¬ (0<r.X∧0<r.Y∧x[r.X-1]?=y[r.Y-1]?)
 n:r.N=tl x y r.X r.Y
 r:r.R=rar x r.X r.N
def hlt (r b:Hr):Prop:=r.R<b.R∨(r.R=b.R∧(b.N<r.N∨(r.N=b.N∧(r.X<b.X∨(r.X=b.X∧r.Y<b.Y)))))
def Bst (x y:List Int) (b:Hr):Prop:=IsRun x y b∧∀ r,IsRun x y r→r=b∨hlt b r
theorem Bst.one {x y:List Int} {a b:Hr} (ha:Bst x y a) (hb:Bst x y b):a=b:=by
 rcases ha.2 b hb.1 with h | h
 ·exact h.symm
 ·rcases hb.2 a ha.1 with h' | h'
  ·exact h'
  ·unfold hlt at h h'
   omega
theorem IsRun.pos {x y:List Int} {r:Hr} (h:IsRun x y r):0<r.N:=by
 rw[h.n,ZlT,if_pos ⟨h.hx,h.hy,h.same⟩]
 omega
theorem cnt_le (x:List Int) (k:Nat):cnt x k≤x.length:=by
 unfold cnt
 split
 ·exact List.count_le_length
 ·exact Nat.le_refl _
theorem ZcP {x:List Int} {k:Nat} {c:Int} (h:x[k]?=some c):cnt x k=x.count c:=by unfold cnt;rw[h]
theorem Zjm (x:List Int) (i n k:Nat) (hk:k<n):rar x i n≤cnt x (i+k):=by
 induction n with
 | zero=>omega
 | succ n ih =>
  rw[rar]
  by_cases e:k=n
  ·subst e;omega
  ·have:=ih (by omega);omega
theorem Zjl (x:List Int) (i n:Nat) (hn:0<n):∃ k,k<n∧rar x i n=cnt x (i+k):=by
 induction n with
 | zero=>omega
 | succ n ih =>
  rw[rar]
  by_cases h0:n=0
  ·subst h0
   refine⟨0,by omega,?_⟩
   have:=cnt_le x (i+0)
   rw[rar]
   omega
  ·obtain⟨k,h1,h2⟩:=ih (by omega)
   by_cases h:rar x i n≤cnt x (i+n)
   ·exact⟨k,by omega,by omega⟩
   ·exact⟨n,by omega,by omega⟩
def pickL (better:Hr→Hr→Bool) (b:Hr) (l:List Hr):Hr:=l.foldl (fun b r=>if better r b then r else b) b
def btR (r b:Hr):Bool:=decide (r.R<b.R) || (decide (r.R=b.R) && decide (b.N<r.N))
def lex (a b:Hr):Prop:=a.X<b.X∨(a.X=b.X∧a.Y<b.Y)
theorem ZiA (l:List Hr):∀ (P:List Hr) (b:Hr),b∈P→(∀ r∈P,r=b∨hlt b r)→(P++l).Pairwise lex→pickL btR b l∈P++l∧∀ r∈P++l,r=pickL btR b l∨hlt (pickL btR b l) r:=by
 induction l with
 | nil=>intro P b hb h _;simp only[List.append_nil];exact⟨hb,h⟩
 | cons c l ih =>
  intro P b hb h hp
  have e:P++c::l=(P++[c])++l:=by simp
  rw[e] at hp ⊢
  have hbc:lex b c:=by
   have:=(List.pairwise_append.1 (List.pairwise_append.1 hp).1).2.2 b hb c (List.mem_singleton.2 rfl)
   exact this
  unfold pickL
  rw[List.foldl_cons]
  by_cases hb':btR c b=true
  ·rw[if_pos hb']
   refine ih (P++[c]) c (by simp) (fun r hr=>?_) hp
   rcases List.mem_append.1 hr with hr | hr
   ·right
    have h1:=h r hr
    simp[btR] at hb'
    rcases h1 with rfl | h1
    ·unfold hlt;omega
    ·unfold hlt at h1 ⊢;omega
   ·left
    simpa using hr
  ·rw[if_neg hb']
   refine ih (P++[c]) b (by simp[hb]) (fun r hr=>?_) hp
   rcases List.mem_append.1 hr with hr | hr
   ·exact h r hr
   ·right
    have e2:r=c:=by simpa using hr
    subst e2
    simp[btR] at hb'
    unfold lex at hbc
    unfold hlt
    omega
def btC (r b:Hr):Bool:=decide (b.N<r.N) || (decide (r.N=b.N) && (decide (r.X<b.X) || (decide (r.X=b.X) && decide (r.Y<b.Y))))
theorem Ziy (l:List Hr):∀ b:Hr,(pickL btC b l=b∨pickL btC b l∈l)∧btC b (pickL btC b l)=false∧∀ r∈l,btC r (pickL btC b l)=false:=by
 induction l with
 | nil=>intro b;refine⟨.inl rfl,?_,fun r hr=>by simp at hr⟩;simp[pickL,btC]
 | cons c l ih =>
  intro b
  have e:pickL btC b (c::l)=pickL btC (if btC c b then c else b) l:=rfl
  rw[e]
  by_cases hb:btC c b=true
  ·rw[if_pos hb]
   obtain⟨h1,h2,h3⟩:=ih c
   refine⟨.inr ?_,?_,fun r hr=>?_⟩
   ·rcases h1 with h1 | h1
    ·rw[h1];exact List.mem_cons_self ..
    ·exact List.mem_cons_of_mem _ h1
   ·simp[btC] at hb h2 ⊢;omega
   ·rcases List.mem_cons.1 hr with rfl | hr
    ·exact h2
    ·exact h3 r hr
  ·rw[if_neg hb]
   obtain⟨h1,h2,h3⟩:=ih b
   refine⟨?_,h2,fun r hr=>?_⟩
   ·rcases h1 with h1 | h1
    ·exact .inl h1
    ·exact .inr (List.mem_cons_of_mem _ h1)
   ·rcases List.mem_cons.1 hr with rfl | hr
    ·simp[btC] at hb h2 ⊢;omega
    ·exact h3 r hr
end

section
def rj (x y:List Int) (i j:Nat):List Hr:=if x[i]?=y[j]?∧¬ (0<i∧0<j∧x[i-1]?=y[j-1]?) then [⟨i,j,tl x y i j,rar x i (tl x y i j)⟩] else []
def rowR (x y:List Int) (i:Nat):List Hr:=(List.range' 0 y.length).flatMap (rj x y i)
def runs (x y:List Int):List Hr:=(List.range' 0 x.length).flatMap (rowR x y)
theorem Zhu (x y:List Int) (r:Hr):r∈runs x y↔IsRun x y r:=by
 unfold runs rowR rj
 simp only[List.mem_flatMap,List.mem_range'_1,Nat.zero_add]
 constructor
 ·rintro⟨i,⟨_,hi⟩,j,⟨_,hj⟩,h⟩
  split at h
  ·rename_i hh
   simp at h
   subst h
   exact⟨hi,hj,hh.1,hh.2,rfl,rfl⟩
  ·simp at h
 ·intro h
  refine⟨r.X,⟨Nat.zero_le _,h.hx⟩,r.Y,⟨Nat.zero_le _,h.hy⟩,?_⟩
  rw[if_pos ⟨h.same,h.fst⟩]
  simp
  obtain⟨X,Y,N,R⟩:=r
  have h1:=h.n
  have h2:=h.r
  simp only at h1 h2 ⊢
  rw[h2,← h1]
theorem Zec {n:Nat} (f:Nat→List Hr) (s:Nat) (h1:∀ i,∀ r∈f i,r.X=i) (h2:∀ i,(f i).Pairwise lex):((List.range' s n).flatMap f).Pairwise lex:=by
 induction n generalizing s with
 | zero=>exact List.Pairwise.nil
 | succ n ih =>
  rw[List.range'_succ,List.flatMap_cons]
  refine List.pairwise_append.2 ⟨h2 s,ih (s+1),fun a ha b hb=>?_⟩
  rw[List.mem_flatMap] at hb
  obtain⟨i,hi,hb⟩:=hb
  rw[List.mem_range'_1] at hi
  have e1:=h1 s a ha
  have e2:=h1 i b hb
  left
  omega
theorem ZjM {n:Nat} (f:Nat→List Hr) (s X:Nat) (h1:∀ j,∀ r∈f j,r.X=X∧r.Y=j) (h2:∀ j,(f j).Pairwise lex):((List.range' s n).flatMap f).Pairwise lex:=by
 induction n generalizing s with
 | zero=>exact List.Pairwise.nil
 | succ n ih =>
  rw[List.range'_succ,List.flatMap_cons]
  refine List.pairwise_append.2 ⟨h2 s,ih (s+1),fun a ha b hb=>?_⟩
  rw[List.mem_flatMap] at hb
  obtain⟨i,hi,hb⟩:=hb
  rw[List.mem_range'_1] at hi
  have e1:=h1 s a ha
  have e2:=h1 i b hb
  right
  omega
theorem Zjz (x y:List Int) (i j:Nat):(∀ r∈rj x y i j,r.X=i∧r.Y=j)∧(rj x y i j).Pairwise lex:=by
 unfold rj
 split
 ·refine⟨fun r hr=>?_,List.pairwise_singleton _ _⟩
  simp at hr
  subst hr
  exact⟨rfl,rfl⟩
 ·exact⟨fun r hr=>by simp at hr,List.Pairwise.nil⟩
theorem ZkG (x y:List Int):(runs x y).Pairwise lex:=by
 unfold runs
 refine Zec _ 0 (fun i r hr=>?_) (fun i=>ZjM _ 0 i (fun j r hr=>(Zjz x y i j).1 r hr) (fun j=>(Zjz x y i j).2))
 unfold rowR at hr
 rw[List.mem_flatMap] at hr
 obtain⟨j,_,hr⟩:=hr
 exact ((Zjz x y i j).1 r hr).1
def best (x y:List Int):Option Hr:=match runs x y with
 | []=>none
 | b::l=>some (pickL btR b l)
theorem ZbG {x y:List Int} {b:Hr} (h:best x y=some b):Bst x y b:=by
 unfold best at h
 cases hr:runs x y with
 | nil=>rw[hr] at h;cases h
 | cons c l =>
  rw[hr] at h
  cases h
  have:=ZiA l [c] c (by simp) (fun r hr=>by simp at hr;exact .inl hr) (by have:=ZkG x y;rw[hr] at this;exact this)
  have e:[c]++l=runs x y:=by rw[hr];rfl
  rw[e] at this
  exact⟨(Zhu x y _).1 this.1,fun r h=>this.2 r ((Zhu x y r).2 h)⟩
theorem ZbE {x y:List Int} (h:best x y=none) (r:Hr):¬ IsRun x y r:=by
 intro hr
 have:=(Zhu x y r).2 hr
 unfold best at h
 cases hs:runs x y with
 | nil=>rw[hs] at this;simp at this
 | cons c l=>rw[hs] at h;cases h
theorem ZbF {x y:List Int} {b:Hr} (h:Bst x y b):best x y=some b:=by
 cases hb:best x y with
 | none=>exact absurd h.1 (ZbE hb b)
 | some c=>rw[(ZbG hb).one h]
def runAt (x y:List Int) (i j R:Nat):Hr:=⟨i-hd x y i j,j-hd x y i j,hd x y i j+tl x y i j,R⟩
def skp (x:List Int) (R i t:Nat):Bool:=(List.range t).any fun s=>cnt x (i-(s+1)) == R
def pj (x y:List Int) (R i:Nat):List Nat:=if cnt x i=R then (List.range y.length).filter (fun j=>decide (y[j]?=x[i]?)) else []
def ck (x y:List Int) (R i j:Nat):List Hr:=if skp x R i (hd x y i j) then [] else [runAt x y i j R]
def cands (x y:List Int) (R:Nat):List Hr:=(List.range' 0 x.length).flatMap fun i=>(pj x y R i).flatMap (ck x y R i)
theorem Zht (x y:List Int) (R i j:Nat):j∈pj x y R i↔cnt x i=R∧j<y.length∧x[i]?=y[j]?:=by
 unfold pj
 split
 ·rename_i h
  simp[h,eq_comm]
 ·rename_i h
  simp[h]
theorem Zhq (x y:List Int) (R:Nat) (r:Hr):r∈cands x y R↔∃ i j,i<x.length∧j<y.length∧x[i]?=y[j]?∧cnt x i=R∧skp x R i (hd x y i j)=false∧r=runAt x y i j R:=by
 unfold cands ck
 simp only[List.mem_flatMap,List.mem_range'_1,Nat.zero_add,Zht]
 constructor
 ·rintro⟨i,⟨_,hi⟩,j,⟨h1,h2,h3⟩,h⟩
  split at h
  ·simp at h
  ·rename_i hs
   simp at h
   exact⟨i,j,hi,h2,h3,h1,by simpa using hs,h⟩
 ·rintro⟨i,j,h1,h2,h3,h4,h5,rfl⟩
  refine⟨i,⟨Nat.zero_le _,h1⟩,j,⟨h4,h2,h3⟩,?_⟩
  rw[h5]
  simp
structure Rst (x y:List Int) (R:Nat):Prop where
 le:∀ i j,i<x.length→j<y.length→x[i]?=y[j]?→R≤cnt x i
 ex:∃ i j,i<x.length∧j<y.length∧x[i]?=y[j]?∧cnt x i=R
section
variable {x y:List Int} {R:Nat}
theorem Zku (h:Rst x y R) {r:Hr} (hr:IsRun x y r):R≤r.R:=by
 obtain⟨k,h1,h2⟩:=Zjl x r.X r.N hr.pos
 rw[hr.r,h2]
 have h3:=ZlQ x y r.X r.Y
 have h4:=hr.n
 exact h.le (r.X+k) (r.Y+k) (by omega) (by omega) (ZlS x y r.X r.Y k (by omega))
theorem Zkh (h:Rst x y R) {i j:Nat} (hi:i<x.length) (hj:j<y.length) (he:x[i]?=y[j]?) (hc:cnt x i=R):IsRun x y (runAt x y i j R):=by
 have h0:=ZeT x y i j
 have hn:tl x y (i-hd x y i j) (j-hd x y i j)=hd x y i j+tl x y i j:=by
  have:=ZlR x y (i-hd x y i j) (j-hd x y i j) (hd x y i j) (by omega) (by omega) (fun k hk=>by
   have:=ZeV x y i j (hd x y i j-1-k) (by omega)
   rw[show i-(hd x y i j-1-k+1)=i-hd x y i j+k by omega,show j-(hd x y i j-1-k+1)=j-hd x y i j+k by omega] at this
   exact this)
  rw[show i-hd x y i j+hd x y i j=i by omega,show j-hd x y i j+hd x y i j=j by omega] at this
  exact this
 have hpos:0<tl x y i j:=by rw[ZlT,if_pos ⟨hi,hj,he⟩];omega
 have hle:=ZlQ x y i j
 have hs:x[i-hd x y i j]?=y[j-hd x y i j]?:=by
  have:=ZlS x y (i-hd x y i j) (j-hd x y i j) 0 (by omega)
  simpa using this
 refine⟨by show i-hd x y i j<_;omega,by show j-hd x y i j<_;omega,hs,ZeS x y i j,hn.symm,?_⟩
 show R=rar x (i-hd x y i j) (hd x y i j+tl x y i j)
 have h1:=Zjm x (i-hd x y i j) (hd x y i j+tl x y i j) (hd x y i j) (by omega)
 rw[show i-hd x y i j+hd x y i j=i by omega,hc] at h1
 obtain⟨k,h2,h3⟩:=Zjl x (i-hd x y i j) (hd x y i j+tl x y i j) (by omega)
 have h4:=h.le (i-hd x y i j+k) (j-hd x y i j+k) (by omega) (by omega) (ZlS x y _ _ k (by omega))
 omega
theorem ZbV (h:Rst x y R) {r:Hr} (hr:r∈cands x y R):IsRun x y r∧r.R=R:=by
 obtain⟨i,j,h1,h2,h3,h4,_,rfl⟩:=(Zhq x y R r).1 hr
 exact⟨Zkh h h1 h2 h3 h4,rfl⟩
theorem Zkn {r:Hr} (hr:IsRun x y r) (hR:r.R=R):r∈cands x y R:=by
 have h1:=ZlQ x y r.X r.Y
 have hn:=hr.n
 obtain⟨k0,hk0,hk1⟩:=Zjl x r.X r.N hr.pos
 have hex:∃ k,k<r.N∧cnt x (r.X+k)=R∧∀ s,s<k→cnt x (r.X+s)≠R:=by
  have:∀ m,(∃ k,k<m∧k<r.N∧cnt x (r.X+k)=R)→∃ k,k<r.N∧cnt x (r.X+k)=R∧∀ s,s<k→cnt x (r.X+s)≠R:=by
   intro m
   induction m with
   | zero=>rintro⟨k,hk,_⟩;omega
   | succ m ih =>
    rintro⟨k,h1,h2,h3⟩
    by_cases he:∃ k',k'<m∧k'<r.N∧cnt x (r.X+k')=R
    ·exact ih he
    ·refine⟨k,h2,h3,fun s hs hc=>he ⟨s,by omega,by omega,hc⟩⟩
  exact this (k0+1) ⟨k0,by omega,hk0,by rw[← hk1,← hr.r,hR]⟩
 obtain⟨k,hk,hkc,hks⟩:=hex
 have hsm:=fun s (hs:s<r.N)=>ZlS x y r.X r.Y s (by omega)
 have hhd:hd x y (r.X+k) (r.Y+k)=k:=ZeU x y r.X r.Y k (fun s hs=>hsm s (by omega)) hr.fst
 refine (Zhq x y R r).2 ⟨r.X+k,r.Y+k,by omega,by omega,hsm k hk,hkc,?_,?_⟩
 ·rw[hhd]
  unfold skp
  rw[List.any_eq_false]
  intro s hs
  rw[List.mem_range] at hs
  rw[show r.X+k-(s+1)=r.X+(k-(s+1)) by omega]
  simpa using hks (k-(s+1)) (by omega)
 ·have:=ZlR x y r.X r.Y k (by omega) (by omega) (fun s hs=>hsm s (by omega))
  unfold runAt
  rw[hhd]
  obtain⟨X,Y,N,R'⟩:=r
  simp only at *
  subst hR
  congr 1
  ·omega
  ·omega
  ·omega
theorem ZcQ (h:Rst x y R):Bst x y (pickL btC ⟨0,0,0,0⟩ (cands x y R)):=by
 obtain⟨h1,h2,h3⟩:=Ziy (cands x y R) ⟨0,0,0,0⟩
 have hmem:pickL btC ⟨0,0,0,0⟩ (cands x y R)∈cands x y R:=by
  rcases h1 with h1 | h1
  ·exfalso
   obtain⟨i,j,g1,g2,g3,g4⟩:=h.ex
   have hr:=Zkh h g1 g2 g3 g4
   have:=h3 _ (Zkn hr rfl)
   rw[h1] at this
   have hp:=hr.pos
   simp[btC] at this
   omega
  ·exact h1
 generalize pickL btC ⟨0,0,0,0⟩ (cands x y R)=b at *
 obtain⟨hb,hbR⟩:=ZbV h hmem
 refine⟨hb,fun r hr=>?_⟩
 have hge:=Zku h hr
 by_cases e:r.R=R
 ·have:=h3 r (Zkn hr e)
  simp[btC] at this
  unfold hlt
  by_cases q:r.N=b.N∧r.X=b.X∧r.Y=b.Y
  ·left
   obtain⟨X,Y,N,R'⟩:=r
   obtain⟨X2,Y2,N2,R2⟩:=b
   simp only at *
   obtain⟨q1,q2,q3⟩:=q
   subst q1 q2 q3 e
   rw[hbR]
  ·right
   omega
 ·right
  unfold hlt
  omega
end
def rs (x:List Int):Nat→List Int→Nat
 | l,[]=>l
 | l,c::y=>rs x (if 0<x.count c∧(l=0∨x.count c<l) then x.count c else l) y
theorem Zkc (x:List Int) (y:List Int):∀ l:Nat,(rs x l y=l∨∃ c∈y,x.count c=rs x l y∧0<x.count c)∧(∀ c∈y,0<x.count c→0<rs x l y∧rs x l y≤x.count c)∧(0<l→0<rs x l y∧rs x l y≤l):=by
 induction y with
 | nil=>intro l;exact⟨.inl rfl,fun c hc=>by simp at hc,fun h=>⟨h,Nat.le_refl _⟩⟩
 | cons c y ih =>
  intro l
  rw[rs]
  obtain⟨h1,h2,h3⟩:=ih (if 0<x.count c∧(l=0∨x.count c<l) then x.count c else l)
  by_cases h:0<x.count c∧(l=0∨x.count c<l)
  ·rw[if_pos h] at h1 h2 h3 ⊢
   refine⟨.inr ?_,fun d hd hd0=>?_,fun hl=>?_⟩
   ·rcases h1 with h1 | ⟨d,hd,h1⟩
    ·exact⟨c,List.mem_cons_self ..,h1.symm,h.1⟩
    ·exact⟨d,List.mem_cons_of_mem _ hd,h1⟩
   ·rcases List.mem_cons.1 hd with rfl | hd
    ·exact h3 h.1
    ·exact h2 d hd hd0
   ·have:=h3 h.1
    omega
  ·rw[if_neg h] at h1 h2 h3 ⊢
   refine⟨?_,fun d hd hd0=>?_,h3⟩
   ·rcases h1 with h1 | ⟨d,hd,h1⟩
    ·exact .inl h1
    ·exact .inr ⟨d,List.mem_cons_of_mem _ hd,h1⟩
   ·rcases List.mem_cons.1 hd with rfl | hd
    ·have:=h3 (by omega)
     omega
    ·exact h2 d hd hd0
theorem Zke {x y:List Int} (h:rs x 0 y=0) (r:Hr):¬ IsRun x y r:=by
 intro hr
 have h2:=(Zkc x y 0).2.1 (y[r.Y]'hr.hy) (List.getElem_mem hr.hy) (by
  have:=hr.same
  rw[List.getElem?_eq_getElem hr.hx,List.getElem?_eq_getElem hr.hy] at this
  rw[← Option.some.inj this]
  exact List.count_pos_iff.2 (List.getElem_mem hr.hx))
 omega
theorem Zkb {x y:List Int} {R:Nat} (hR:rs x 0 y=R) (h0:0<R):Rst x y R:=by
 obtain⟨h1,h2,_⟩:=Zkc x y 0
 rw[hR] at h1 h2
 refine⟨fun i j hi hj he=>?_,?_⟩
 ·rw[List.getElem?_eq_getElem hi,List.getElem?_eq_getElem hj] at he
  have hc:cnt x i=x.count x[i]:=ZcP (List.getElem?_eq_getElem hi)
  rw[hc]
  have:=h2 y[j] (List.getElem_mem hj) (by rw[← Option.some.inj he];exact List.count_pos_iff.2 (List.getElem_mem hi))
  rw[Option.some.inj he]
  exact this.2
 ·rcases h1 with h1 | ⟨c,hc,h1,h3⟩
  ·omega
  ·obtain⟨j,hj,ej⟩:=List.getElem_of_mem hc
   obtain⟨i,hi,ei⟩:=List.getElem_of_mem (List.count_pos_iff.1 h3)
   refine⟨i,j,hi,hj,by rw[List.getElem?_eq_getElem hi,List.getElem?_eq_getElem hj,ei,ej],?_⟩
   rw[ZcP (List.getElem?_eq_getElem hi),ei,h1]
end

section
def hsel (x y:List Int) (rec:Nat→Nat→Nat→Nat→List Pr) (a b c d:Nat):Option Hr→List Pr
 | none=>[]
 | some r=>if 64<r.R then lp a c (kp 0 (sub x a b) (sub y c d)) else fp (a+r.X) (c+r.Y) r.N++(rec a (a+r.X) c (c+r.Y)++rec (a+r.X+r.N) b (c+r.Y+r.N) d)
def hmid (x y:List Int) (rec:Nat→Nat→Nat→Nat→List Pr) (a b c d:Nat):List Pr:=hsel x y rec a b c d (best (sub x a b) (sub y c d))
theorem Zkw {x y:List Int} {a b c d:Nat} (hb:b≤x.length) (hd:d≤y.length) {r:Hr} (h:IsRun (sub x a b) (sub y c d) r):0<r.N∧a+r.X+r.N≤b∧c+r.Y+r.N≤d∧∀ i,i<r.N→x[a+r.X+i]?=y[c+r.Y+i]?:=by
 have h1:=ZlQ (sub x a b) (sub y c d) r.X r.Y
 have h2:=h.n
 have h3:=h.hx
 have h4:=h.hy
 have h5:=h.pos
 rw[Zlz x a b hb] at h1 h3
 rw[Zlz y c d hd] at h1 h4
 refine⟨h5,by omega,by omega,fun i hi=>?_⟩
 have:=ZlS (sub x a b) (sub y c d) r.X r.Y i (by omega)
 rw[Zlx x a b _ (by omega),Zlx y c d _ (by omega)] at this
 rw[Nat.add_assoc,Nat.add_assoc]
 exact this
theorem Zfe (x y:List Int):MOk (hmid x y) x y:=by
 intro rec a b c d hab hb hcd hd hrec
 unfold hmid
 cases hr:best (sub x a b) (sub y c d) with
 | none=>exact Okp.nil _ _ _ _
 | some r =>
  rw[hsel]
  have hin:=Zkw hb hd (ZbG hr).1
  split
  ·exact Zgz x y a b c d (by omega) hb (by omega) hd
  ·have h1:=Zeh (x:=x) (y:=y) (a+r.X) (c+r.Y) r.N hin.2.2.2
   have h2:=hrec a (a+r.X) c (c+r.Y) (by omega) (by omega) (by omega) (by omega)
   have h3:=hrec (a+r.X+r.N) b (c+r.Y+r.N) d (by omega) hb (by omega) hd
   have h23:=h2.cat h3 (.inl ⟨by omega,by omega⟩) (A:=a) (B:=b) (C:=c) (D:=d) ⟨by omega,by omega⟩ ⟨by omega,by omega⟩ ⟨by omega,by omega⟩ ⟨by omega,by omega⟩
   refine⟨fun p hp=>?_,fun p hp q hq=>?_,fun p hp=>?_⟩
   ·rcases List.mem_append.1 hp with hp | hp
    ·exact (h1.mono (by omega) (by omega) (by omega) (by omega):Okp x y a b c d _).wn p hp
    ·exact h23.wn p hp
   ·have hx:∀ p∈fp (a+r.X) (c+r.Y) r.N,∀ q∈rec a (a+r.X) c (c+r.Y)++rec (a+r.X+r.N) b (c+r.Y+r.N) d,ab q p∨ab p q:=by
     intro p hp q hq
     have e1:=h1.wn p hp
     unfold Wn at e1
     rcases List.mem_append.1 hq with hq | hq
     ·have e2:=h2.wn q hq
      unfold Wn at e2
      exact .inr ⟨by omega,by omega⟩
     ·have e2:=h3.wn q hq
      unfold Wn at e2
      exact .inl ⟨by omega,by omega⟩
    rcases List.mem_append.1 hp with hp | hp<;>rcases List.mem_append.1 hq with hq | hq
    ·exact h1.ris p hp q hq
    ·exact .inr (hx p hp q hq)
    ·exact .inr ((hx q hq p hp).symm)
    ·exact h23.ris p hp q hq
   ·rcases List.mem_append.1 hp with hp | hp
    ·exact h1.eqs p hp
    ·exact h23.eqs p hp
def hKeep (x y:List Int):List Int:=wrk (List.replicate x.length (-1)) (pcs (hmid x y) x y (x.length+1) 0 x.length 0 y.length)
theorem ZeP (x y:List Int):Okp x y 0 x.length 0 y.length (pcs (hmid x y) x y (x.length+1) 0 x.length 0 y.length):=Ziw (Zfe x y) _ 0 x.length 0 y.length (Nat.zero_le _) (Nat.le_refl _) (Nat.zero_le _) (Nat.le_refl _)
theorem ZeO (x y:List Int):Kpt x y (hKeep x y):=(ZeP x y).kpt
end

section
def gdn (c:Int) (y:List Int) (nx:Nat) (far:Int):Option Nat:=match (y.drop nx).findIdx? (fun z=>z == c) with
 | some k=>if (k:Int)<far then some (nx+k) else none
 | none=>none
def gdy (y:List Int) (far:Int):Nat→List Int→List Int
 | _,[]=>[]
 | nx,c::x=>match gdn c y nx far with
  | some j=>(j:Int)::gdy y far (j+1) x
  | none=>-1::gdy y far nx x
theorem Zer {c:Int} {y:List Int} {nx j:Nat} {far:Int} (h:gdn c y nx far=some j):nx≤j∧j<y.length∧((j-nx:Nat):Int)<far∧y[j]?=some c∧∀ i,nx≤i→i<j→y[i]?≠some c:=by
 unfold gdn at h
 split at h
 ·rename_i k hk
  split at h
  ·rename_i hf
   obtain rfl:=Option.some.inj h
   obtain⟨h1,h2,h3⟩:=List.findIdx?_eq_some_iff_getElem.1 hk
   rw[List.length_drop] at h1
   rw[List.getElem_drop] at h2
   refine⟨by omega,by omega,by rw[show nx+k-nx=k by omega];exact hf,?_,fun i hi hj e=>?_⟩
   ·rw[List.getElem?_eq_getElem (by omega)]
    rw[beq_iff_eq.1 h2]
   ·have h4:=h3 (i-nx) (by omega)
    rw[List.getElem_drop] at h4
    rw[List.getElem?_eq_getElem (by omega)] at e
    have e2:y[nx+(i-nx)]'(by omega)=c:=by
     rw[← Option.some.inj e]
     congr 1
     omega
    rw[e2] at h4
    simp at h4
  ·cases h
 ·cases h
theorem Zeq {c:Int} {y:List Int} {nx:Nat} {far:Int} (h:gdn c y nx far=none) (j:Nat) (h1:nx≤j) (h2:((j-nx:Nat):Int)<far):y[j]?≠some c:=by
 intro e
 unfold gdn at h
 obtain⟨hj,ej⟩:=List.getElem?_eq_some_iff.1 e
 split at h
 ·rename_i k hk
  split at h
  ·cases h
  ·rename_i hf
   obtain⟨_,_,h3⟩:=List.findIdx?_eq_some_iff_getElem.1 hk
   have h4:=h3 (j-nx) (by omega)
   rw[List.getElem_drop] at h4
   have e2:y[nx+(j-nx)]'(by omega)=c:=by
    rw[← ej]
    congr 1
    omega
   rw[e2] at h4
   simp at h4
 ·rename_i hk
  have h3:=List.findIdx?_eq_none_iff.1 hk c (by
   rw[List.mem_iff_getElem?]
   exact⟨j-nx,by rw[List.getElem?_drop,show nx+(j-nx)=j by omega];exact e⟩)
  simp at h3
theorem Zes (y:List Int) (far:Int) (x:List Int):∀ nx,(gdy y far nx x).length=x.length:=by
 induction x with
 | nil=>intro nx;rfl
 | cons c x ih =>
  intro nx
  rw[gdy]
  split
  ·rw[List.length_cons,ih,List.length_cons]
  ·rw[List.length_cons,ih,List.length_cons]
theorem Zev (y:List Int) (far:Int) (x:List Int):∀ nx:Nat,Vk nx y.length (gdy y far nx x):=by
 induction x with
 | nil=>intro nx;exact trivial
 | cons c x ih =>
  intro nx
  rw[gdy]
  split
  ·rename_i j hj
   obtain⟨h1,h2,_⟩:=Zer hj
   refine .inr ⟨by omega,by omega,by omega,?_⟩
   have:=ih (j+1)
   rw[show ((j+1:Nat):Int)=(j:Int)+1 by omega] at this
   exact this
  ·exact .inl ⟨rfl,ih nx⟩
theorem Zeu (y:List Int) (far:Int) (x:List Int):∀ (nx i q:Nat),(gdy y far nx x)[i]?=some (q:Int)→x[i]?=y[q]?:=by
 induction x with
 | nil=>intro nx i q h;simp[gdy] at h
 | cons c x ih =>
  intro nx i q h
  rw[gdy] at h
  split at h
  ·rename_i j hj
   cases i with
   | zero =>
    have e:(j:Int)=(q:Int):=by simpa using h
    obtain rfl:j=q:=by omega
    rw[(Zer hj).2.2.2.1]
    rfl
   | succ i=>exact ih (j+1) i q (by simpa using h)
  ·cases i with
   | zero=>simp at h
   | succ i=>exact ih nx i q (by simpa using h)
def smid (B:Int) (x y:List Int) (_:Nat→Nat→Nat→Nat→List Pr) (a b c d:Nat):List Pr :=
 if ((b-a:Nat):Int) * ((d-c:Nat):Int)≤max 0 B then lp a c (kp 0 (sub x a b) (sub y c d)) else lp a c (gdy (sub y c d) 64 0 (sub x a b))
theorem Zet (x y:List Int) (far:Int) (a b c d:Nat) (hab:a≤b) (hb:b≤x.length) (hcd:c≤d) (hd:d≤y.length):Okp x y a b c d (lp a c (gdy (sub y c d) far 0 (sub x a b))):=by
 have h1:=Zhd (x:=x) (y:=y) (gdy (sub y c d) far 0 (sub x a b)) a c 0 (d-c) (by
  have:=Zev (sub y c d) far (sub x a b) 0
  rw[Zlz y _ _ (by omega)] at this
  exact this) (fun i q hq=>by
   have hl:i<(sub x a b).length:=by
    have:=(List.getElem?_eq_some_iff.1 hq).1
    rw[Zes] at this
    exact this
   have h2:=Zeu (sub y c d) far (sub x a b) 0 i q hq
   have h3:=List.getElem?_eq_getElem hl
   rw[(ZlA h3).2,(ZlA (h2.symm.trans h3)).2])
 rw[Zes,Zlz x _ _ (by omega)] at h1
 exact h1.mono (Nat.le_refl _) (by omega) (by omega) (by omega)
theorem Zle (B:Int) (x y:List Int):MOk (smid B x y) x y:=by
 intro rec a b c d hab hb hcd hd _
 unfold smid
 split
 ·exact Zgz x y a b c d (by omega) hb (by omega) hd
 ·exact Zet x y 64 a b c d (by omega) hb (by omega) hd
def sKeep (B:Int) (x y:List Int):List Int:=wrk (List.replicate x.length (-1)) (pcs (smid B x y) x y (x.length+1) 0 x.length 0 y.length)
theorem ZkI (B:Int) (x y:List Int):Okp x y 0 x.length 0 y.length (pcs (smid B x y) x y (x.length+1) 0 x.length 0 y.length):=Ziw (Zle B x y) _ 0 x.length 0 y.length (Nat.zero_le _) (Nat.le_refl _) (Nat.zero_le _) (Nat.le_refl _)
theorem ZkH (B:Int) (x y:List Int):Kpt x y (sKeep B x y):=(ZkI B x y).kpt
end

section
open Go.RowKit
end

section
open Go.RowKit Go.Maps
structure Cnt {H:Type} (D:DataW H) (t:List Int):Prop where
 tidy:Tidy D
 at_:∀ c,D.atKey (.int .i64 c) (.lit (.int .i64 0))=.lit (.int .i64 (t.count c:Nat))
theorem Cnt.nil {H:Type}:Cnt (H:=H) (.map []) []:=⟨tidy_empty,fun _=>by rw[atKey_of_not_has rfl];rfl⟩
theorem Cnt.put {H:Type} {D:DataW H} {t:List Int} (h:Cnt D t) (a:Int):Cnt (D.put (.int .i64 a) (.lit (.int .i64 ((t.count a:Nat)+1)))) (t++[a]):=by
 have hk:WideAt.IsKeyLit (.int .i64 a):=trivial
 have hne:∀ {g:Int},a≠g→(Lit.int .i64 g)≠.int .i64 a:=fun hg e=>hg (by cases e;rfl)
 refine⟨h.tidy.put hk _,fun c=>?_⟩
 by_cases e:a=c
 ·subst e
  rw[atKey_put_same h.tidy.isMap hk,List.count_append,List.count_singleton_self]
  rfl
 ·rw[atKey_put_other (hne e),h.at_,List.count_append]
  have:[a].count c=0:=by rw[List.count_eq_zero];simp;exact fun q=>e q.symm
  rw[this,Nat.add_zero]
theorem hKeyed:Keyed Tryz.prog 3:=int_keyed Tryz.underlying3
theorem hZero (w:World):(zeroValue 3).run Tryz.prog w=.ok (.int .i64 0) w:=by kernel_rfl
theorem hKey {c:Int} (hc:w64 c):keyOf Tryz.prog 3 (.int .i64 c)=some (.int .i64 c):=keyOf_int_mk Tryz.underlying3 (WalkArith.wf_i64 hc)
def Mc (t:List Int) (B:Nat) (w:World):Prop:=∃ D:DataW Unit,w.ownsMap Tryz.prog 3 (plainElem Tryz.prog 3) B t.length D∧Cnt D t
section
variable {t:List Int} {B:Nat} {w w':World}
theorem Mc.lt (h:Mc t B w):B<w.heap.size:=by obtain⟨D,hm,_⟩:=h;exact hm.lt
theorem Mc.keep (h:Mc t B w) (hb:w'.heap[B]?=w.heap[B]?):Mc t B w':=by
 obtain⟨D,⟨es,clock,hm,r⟩,hd⟩:=h
 exact⟨D,⟨es,clock,hb.trans hm,r⟩,hd⟩
theorem Mc.low (h:Mc t B w) (hb:Below w.heap.size w w'):Mc t B w':=h.keep (hb.block B h.lt)
theorem Mc.look (h:Mc t B w) {c:Int} (hc:w64 c):(Instr.lookup 156 (.map (some B)) (.int .i64 c) false).run Tryz.prog w=.ok (.int .i64 (t.count c:Nat)) w:=by
 obtain⟨D,hm,hd⟩:=h
 obtain⟨d,hr,e,_⟩:=hm.lookup_int hKeyed Tryz.underlying156 Tryz.underlying3 (hZero w) (hKey hc)
 rw[hd.at_] at e
 cases e
 exact hr
theorem Mc.store (h:Mc t B w) {a:Int} (ha:w64 a) (hl:t.length≤1099511627776) (z:Int) (hz:z=(t.count a:Nat)+1) :
  ∃ w',(Instr.mapUpdate 156 (.map (some B)) (.int .i64 a) (.int .i64 z)).run Tryz.prog w=.ok () w'∧Mc (t++[a]) B w'∧w.grownBy w' (some B):=by
 obtain⟨D,hm,hd⟩:=h
 have hcl:t.count a≤t.length:=List.count_le_length
 obtain⟨w',hr,ho,ht⟩:=hm.store (val:=.int .i64 z) hKeyed Tryz.underlying156 (by unfold maxLen;omega) (hKey ha) (plainElem_int Tryz.underlying3 (WalkArith.wf_i64 (by omega)))
 exact⟨w',hr,⟨_,by simpa using ho,by subst hz;exact hd.put a⟩,ht.grown⟩
end
theorem ZcT (x:List Int) (v:Value) (w:World) (hx:HI w v x) (hxl:x.length≤1048576) (hw:∀ c∈x,w64 c) :
  Calls Tryz.prog 122 #[v] w fun e w'=>∃ B,e=.returned (.map (some B))∧Mc x B w'∧w.heap.size≤B∧Below w.heap.size w w':=by
 obtain⟨xo,xc,rfl⟩:=Holds.form hx
 have hmm:=@run_makeMap Tryz.prog
 have HW:Hid (∀ c∈x,w64 c):=hw
 clear hw
 go_enter Tryz.func122,Tryz.ntmps122
 go_wp2
 go_loopw [9] (fun iv wr=>∃ (i:Nat),i≤x.length∧iv=.int .i64 i∧Mc (x.take i) w.heap.size wr∧Below w.heap.size w wr) (fun iv _=>x.length-(intOf iv).toNat)
 case atStart=>exact⟨0,Nat.zero_le _,rfl,⟨.map [],World.ownsMap_made w _ _ _,Cnt.nil⟩,(Below.refl _ w).alloc (Nat.le_refl _) _⟩
 case round =>
  clear hmm
  obtain⟨i,hi,rfl,hM,hB⟩:=hrel
  have hs:=hB.size
  by_cases hil:i<x.length
  ·obtain⟨b,off,rfl,_,hc⟩:=HI.at (HI.keep hx hB (Nat.le_refl _)) (by omega)
   have c0:=hc i hil
   obtain⟨z,hz⟩:∃ z,x[i]=z:=⟨_,rfl⟩
   rw[hz] at c0
   have hzw:w64 z:=by rw[← hz];exact HW.out _ (List.getElem_mem hil)
   have htl:(x.take i).length=i:=by simp;omega
   have HT:Hid (x.take (i+1)=x.take i++[z]):=(by show _=_;rw[List.take_succ_eq_append_getElem hil,hz])
   have hlk:=hM.look hzw
   obtain⟨w2,hst,hM2,hg2⟩:=hM.store hzw (by omega) _ rfl
   have hcl:(x.take i).count z≤(x.take i).length:=List.count_le_length
   have hB2:Below w.heap.size w w2:=hB.grown hg2 hs (fun j hj=>by cases hj;exact Nat.le_refl _)
   obtain⟨q,hq⟩:∃ q,(x.take i).count z=q:=⟨_,rfl⟩
   rw[hq] at hlk hst hcl
   clear hc hz hq
   have i1:0≤(i:Int):=by omega
   have i2:(i:Int)<(x.length:Int):=by omega
   rw[htl] at hcl
   go_wp2
   go_roundw
   case rel=>exact⟨i+1,by omega,by go_num,by rw[HT.out];exact hM2,hB2⟩
   case measure=>simp[intOf];omega
  ·obtain rfl:i=x.length:=by omega
   rw[List.take_length] at hM
   go_wp2
   go_ret
   exact⟨_,rfl,hM,Nat.le_refl _,hB⟩
theorem ZjX (x:List Int) (y:List Int):∀ l:Nat,l≤x.length→rs x l y≤x.length:=by
 induction y with
 | nil=>intro l h;exact h
 | cons c y ih =>
  intro l h
  rw[rs]
  refine ih _ ?_
  split
  ·exact List.count_le_length
  ·exact h
theorem Zjn (x y:List Int) (B:Nat) (v:Value) (w:World) (hM:Mc x B w) (hy:HI w v y) (_:x.length≤1048576) (hyl:y.length≤1048576) (hw:∀ c∈y,w64 c) (r:Nat) (hr:Hid (rs x 0 y=r)) :
  Calls Tryz.prog 123 #[.map (some B),v] w fun e w'=>e=.returned (.int .i64 (r:Int))∧w=w':=by
 obtain⟨yo,yc,rfl⟩:=Holds.form hy
 have HW:Hid (∀ c∈y,w64 c):=hw
 clear hw
 go_enter Tryz.func123,Tryz.ntmps123
 go_wp2
 go_loopw [5,11] (fun lv iv wr=>∃ (i l:Nat),i≤y.length∧l≤x.length∧lv=.int .i64 l∧iv=.int .i64 i∧wr=w∧Hid (rs x l (y.drop i)=r)) (fun _ iv _=>y.length-(intOf iv).toNat)
 case atStart=>exact⟨0,0,Nat.zero_le _,Nat.zero_le _,rfl,rfl,rfl,hr⟩
 case round =>
  obtain⟨i,l,hi,hl,rfl,rfl,rfl,HR⟩:=hrel
  by_cases hil:i<y.length
  ·obtain⟨b,off,rfl,_,hc⟩:=HI.at hy (by omega)
   have c0:=hc i hil
   obtain⟨z,hz⟩:∃ z,y[i]=z:=⟨_,rfl⟩
   rw[hz] at c0
   have hzw:w64 z:=by rw[← hz];exact HW.out _ (List.getElem_mem hil)
   have hlk:=hM.look hzw
   have hcl:x.count z≤x.length:=List.count_le_length
   have HR2:Hid (rs x (if 0<x.count z∧(l=0∨x.count z<l) then x.count z else l) (y.drop (i+1))=r):=(by
    show _=_
    have:=HR.out
    rw[List.drop_eq_getElem_cons hil,rs,hz] at this
    exact this)
   obtain⟨q,hq⟩:∃ q,x.count z=q:=⟨_,rfl⟩
   rw[hq] at hlk hcl HR2
   clear hc hz hq HR
   have i1:0≤(i:Int):=by omega
   have i2:(i:Int)<(y.length:Int):=by omega
   by_cases h0:0<q
   ·have e1:decide ((0:Int)<(q:Int))=true:=decide_eq_true (by omega)
    by_cases h1:l=0
    ·have e2:((l:Int) == 0)=true:=beq_iff_eq.2 (by omega)
     have HR3:Hid (rs x q (y.drop (i+1))=r):=(by
      show _=_
      have:=HR2.out
      rw[if_pos ⟨h0,.inl h1⟩] at this
      exact this)
     clear HR2 h1
     go_wp2
     go_roundw
     case rel=>exact⟨i+1,q,by omega,hcl,rfl,by go_num,trivial,HR3⟩
     case measure=>simp[intOf];omega
    ·have e2:((l:Int) == 0)=false:=beq_eq_false_iff_ne.2 (by omega)
     by_cases h2:q<l
     ·have e3:decide ((q:Int)<(l:Int))=true:=decide_eq_true (by omega)
      have HR3:Hid (rs x q (y.drop (i+1))=r):=(by
       show _=_
       have:=HR2.out
       rw[if_pos ⟨h0,.inr h2⟩] at this
       exact this)
      clear HR2 h1
      go_wp2
      go_roundw
      case rel=>exact⟨i+1,q,by omega,hcl,rfl,by go_num,trivial,HR3⟩
      case measure=>simp[intOf];omega
     ·have e3:decide ((q:Int)<(l:Int))=false:=decide_eq_false (by omega)
      have e4:decide (q<l)=false:=decide_eq_false h2
      have HR3:Hid (rs x l (y.drop (i+1))=r):=(by
       show _=_
       have:=HR2.out
       rw[if_neg (by omega)] at this
       exact this)
      clear HR2 h1
      go_wp2
      go_roundw
      case rel=>exact⟨i+1,l,by omega,hl,rfl,by go_num,trivial,HR3⟩
      case measure=>simp[intOf];omega
   ·have e1:decide ((0:Int)<(q:Int))=false:=decide_eq_false (by omega)
    have e4:decide (0<q)=false:=decide_eq_false h0
    have HR3:Hid (rs x l (y.drop (i+1))=r):=(by
     show _=_
     have:=HR2.out
     rw[if_neg (by omega)] at this
     exact this)
    clear HR2
    go_wp2
    go_roundw
    case rel=>exact⟨i+1,l,by omega,hl,rfl,by go_num,trivial,HR3⟩
    case measure=>simp[intOf];omega
  ·obtain rfl:i=y.length:=by omega
   have e:l=r:=by
    have:=HR.out
    rw[List.drop_of_length_le (Nat.le_refl _)] at this
    exact this
   subst e
   go_wp2
   go_ret
   exact⟨rfl,rfl⟩
end

section
open Go.RowKit Go.Maps
def pl (x:List Int) (R:Nat) (t:List Int) (c:Int):List Nat:=if x.count c=R then (List.range t.length).filter (fun j=>decide (t[j]?=some c)) else []
theorem ZiR (x:List Int) (R:Nat) (t:List Int) (a c:Int):pl x R (t++[a]) c=if x.count a=R∧a=c then pl x R t c++[t.length] else pl x R t c:=by
 unfold pl
 have hf:((List.range t.length).filter fun j=>decide ((t++[a])[j]?=some c))=(List.range t.length).filter fun j=>decide (t[j]?=some c):=by
  apply List.filter_congr
  intro j hj
  rw[List.mem_range] at hj
  rw[List.getElem?_append_left hj]
 by_cases h:x.count c=R
 ·rw[if_pos h,if_pos h,List.length_append,List.length_singleton,List.range_succ,List.filter_append,hf]
  by_cases e:a=c
  ·subst e
   rw[if_pos ⟨h,rfl⟩]
   congr 1
   simp
  ·rw[if_neg (fun q=>e q.2)]
   have:([t.length].filter fun j=>decide ((t++[a])[j]?=some c))=[]:=by simp[e]
   rw[this,List.append_nil]
 ·rw[if_neg h,if_neg h]
  by_cases e:a=c
  ·subst e
   rw[if_neg (fun q=>h q.1)]
  ·rw[if_neg (fun q=>e q.2)]
theorem ZiP (x:List Int) (R:Nat) (c:Int):pl x R [] c=[]:=by simp[pl]
theorem ZiO (x:List Int) (R:Nat) (t:List Int) (c:Int):(pl x R t c).length≤t.length:=by
 unfold pl
 split
 ·exact Nat.le_trans (List.length_filter_le _ _) (by simp)
 ·simp
theorem ZiQ (x y:List Int) (R i:Nat) (hi:i<x.length):pl x R y x[i]=pj x y R i:=by
 unfold pl pj
 rw[ZcP (List.getElem?_eq_getElem hi),List.getElem?_eq_getElem hi]
def nI (l:List Nat):List Int:=l.map fun (n:Nat)=>(n:Int)
theorem ZhJ (a b:List Nat):nI (a++b)=nI a++nI b:=by simp[nI]
structure Gd (D:DataW Unit) (f:Int→List Nat):Prop where
 tidy:IsMap D
 at_:∀ c,D.atKey (.int .i64 c) .nil=if f c=[] then .nil else .slice (ChangeShapes.lits .i64 (nI (f c))) []
theorem ZgJ {a b:List Int} (h:ChangeShapes.lits (H:=Unit) .i64 a=ChangeShapes.lits .i64 b):a=b:=by
 unfold ChangeShapes.lits at h
 exact (List.map_inj_right (fun u v huv=>by cases huv;rfl)).1 h
theorem Gd.zs {D:DataW Unit} {f:Int→List Nat} (h:Gd D f) {w:World} {base:Nat} {e:TypeId} {v:Value} {zs:List Int} {c:Int} (ho:w.ownsInts base e .i64 v zs) (ha:D.atKey (.int .i64 c) .nil=rowDatum .i64 v zs):zs=nI (f c):=by
 rw[h.at_] at ha
 rcases ho.datum (H:=Unit) with ⟨h1,h2⟩ | h1
 ·rw[h1] at ha
  by_cases e:f c=[]
  ·rw[h2,e];rfl
  ·rw[if_neg e] at ha;cases ha
 ·rw[h1] at ha
  by_cases e:f c=[]
  ·rw[if_pos e] at ha;cases ha
  ·rw[if_neg e] at ha
   injection ha with ha
   exact (ZgJ ha).symm
theorem Gd.nil (x:List Int) (R:Nat):Gd (.map []) (pl x R []):=⟨isMap_empty,fun c=>by rw[atKey_of_not_has rfl,if_pos (ZiP x R c)]⟩
theorem Gd.put {D:DataW Unit} {x:List Int} {R:Nat} {t:List Int} (h:Gd D (pl x R t)) {a:Int} (ha:x.count a=R):Gd (D.put (.int .i64 a) (.slice (ChangeShapes.lits .i64 (nI (pl x R t a)++[(t.length:Int)])) [])) (pl x R (t++[a])):=by
 have hk:WideAt.IsKeyLit (.int .i64 a):=trivial
 have hne:∀ {g:Int},a≠g→(Lit.int .i64 g)≠.int .i64 a:=fun hg e=>hg (by cases e;rfl)
 refine⟨h.tidy.put _ _,fun c=>?_⟩
 by_cases e:a=c
 ·subst e
  have e2:pl x R (t++[a]) a=pl x R t a++[t.length]:=by rw[ZiR,if_pos ⟨ha,rfl⟩]
  rw[atKey_put_same h.tidy hk,e2,if_neg (by simp),ZhJ]
  rfl
 ·have e2:pl x R (t++[a]) c=pl x R t c:=by rw[ZiR,if_neg (fun q=>e q.2)]
  rw[atKey_put_other (hne e),h.at_,e2]
theorem Gd.skip {D:DataW Unit} {x:List Int} {R:Nat} {t:List Int} (h:Gd D (pl x R t)) {a:Int} (ha:x.count a≠R):Gd D (pl x R (t++[a])):=by
 refine⟨h.tidy,fun c=>?_⟩
 have e2:pl x R (t++[a]) c=pl x R t c:=by rw[ZiR,if_neg (fun q=>ha q.1)]
 rw[e2]
 exact h.at_ c
def Gm (x:List Int) (R:Nat) (t:List Int) (b base:Nat) (w:World):Prop:=∃ m D,m≤t.length∧w.ownsGroups Tryz.prog 3 base 3 .i64 b m D∧Gd D (pl x R t)
theorem zeroIs (w:World):(zeroValue 50).run Tryz.prog w=.ok (.slice none 0 0) w:=by kernel_rfl
theorem Zfl (x y:List Int) (R Bc:Nat) (v:Value) (w:World) (hM:Mc x Bc w) (hy:HI w v y) (hyl:y.length≤1048576) (hw:∀ c∈y,w64 c) :
  Calls Tryz.prog 125 #[v,.map (some Bc),.int .i64 (R:Int)] w fun e w'=>e=.returned (.map (some w.heap.size))∧Gm x R y w.heap.size (w.heap.size+1) w'∧Below w.heap.size w w':=by
 obtain⟨yo,yc,rfl⟩:=Holds.form hy
 have hmm:=@run_makeMap Tryz.prog
 obtain⟨i0,hi0,hz0,hz1,hz2⟩:=info_parts infoInt
 have HW:Hid (∀ c∈y,w64 c):=hw
 have hBc:=hM.lt
 clear hw
 go_enter Tryz.func125,Tryz.ntmps125
 go_wp2
 go_loopw [13] (fun iv wr=>∃ (i:Nat),i≤y.length∧iv=.int .i64 i∧Gm x R (y.take i) w.heap.size (w.heap.size+1) wr∧Below w.heap.size w wr∧w.heap.size+1≤wr.heap.size) (fun iv _=>y.length-(intOf iv).toNat)
 case atStart=>exact⟨0,Nat.zero_le _,rfl,⟨0,_,Nat.zero_le _,World.ownsGroups_made _ _ _ _ _,Gd.nil x R⟩,(Below.refl _ w).alloc (Nat.le_refl _) _,by simp⟩
 case round =>
  clear hmm
  obtain⟨i,hi,rfl,hG,hB,hws⟩:=hrel
  have hs:=hB.size
  by_cases hil:i<y.length
  ·obtain⟨b,off,rfl,_,hc⟩:=HI.at (HI.keep hy hB (Nat.le_refl _)) (by omega)
   have c0:=hc i hil
   obtain⟨z,hz⟩:∃ z,y[i]=z:=⟨_,rfl⟩
   rw[hz] at c0
   have hzw:w64 z:=by rw[← hz];exact HW.out _ (List.getElem_mem hil)
   have htl:(y.take i).length=i:=by simp;omega
   have HT:Hid (y.take (i+1)=y.take i++[z]):=(by show _=_;rw[List.take_succ_eq_append_getElem hil,hz])
   have hlk:=(hM.keep (hB.block Bc hBc)).look hzw
   obtain⟨q,hq⟩:∃ q,x.count z=q:=⟨_,rfl⟩
   have HQ:Hid (x.count z=q):=hq
   rw[hq] at hlk
   clear hc hz hq
   have i1:0≤(i:Int):=by omega
   have i2:(i:Int)<(y.length:Int):=by omega
   obtain⟨m,D,hm,hown,hgd⟩:=hG
   rw[htl] at hm
   by_cases hqR:q=R
   ·subst hqR
    obtain⟨v,zs,hrun,hat,hoi,hzl,hback⟩:=hown.at hKeyed Tryz.underlying185 (zeroIs wr) (by unfold maxLen;omega) (hKey hzw)
    have HZS:Hid (zs=nI (pl x q (y.take i) z)):=hgd.zs hoi hat
    have HGD:Hid (Gd D (pl x q (y.take i))):=hgd
    clear hgd hat
    go_wp2_with (at_builtin;refine wpList_append_own_at _ (by kernel_rfl) (.tmp 27) (.tmp 29) 50 rfl (w.heap.size+1) 3 i0 (.int .i64 0) 1 8 Tryz.underlying50 hi0 hz0 hz1 hz2 rfl (by decide) v zs.length (zs.map (Value.int .i64)) (by kernel_rfl) (hoi.1.alloc _) ⟨wr.heap.size,0,none⟩ 1 1 [.int .i64 (i:Int)] (by kernel_rfl) rfl (cell_one_new _ _ _) (by simp[Value.oneCell']) (by unfold maxLen;omega) (by omega) (by simp;omega) ?_)
    intro v' w1 hown' hgrow hnil hloc
    have hall:=(World.grownBy_alloc wr _ _).trans hgrow
    have hoi':=hoi.appended hown' (WalkArith.wf_i64 (by omega))
    obtain⟨w2,hst,hown2,hgrow2⟩:=hback w1 v' (zs++[(i:Int)]) hall hoi' (by simp;omega) (hloc.imp id (fun h=>⟨_,h,by simp⟩))
    have hB2:=hB.groups hoi hall hgrow2 hs (Nat.le_succ _) (Nat.le_refl _)
    have hG2:Gm x q (y.take (i+1)) w.heap.size (w.heap.size+1) w2:=by
     refine⟨m+1,_,?_,hown2,?_⟩
     ·rw[List.length_take];omega
     ·rw[hoi'.datum_pos (by simp),HT.out,HZS.out]
      have:=HGD.out.put (a:=z) HQ.out
      rw[htl] at this
      exact this
    have hs2:=Nat.le_trans hall.size hgrow2.size
    clear hown' hgrow hnil hloc hoi' hown2 hall hback hrun hoi hown hgrow2
    go_wp2
    go_roundw
    case rel=>exact⟨i+1,by omega,by go_num,hG2,hB2,by omega⟩
    case measure=>simp[intOf];omega
   ·have e1:((q:Int) == (R:Int))=false:=beq_eq_false_iff_ne.2 (by omega)
    have hG2:Gm x R (y.take (i+1)) w.heap.size (w.heap.size+1) wr:=by
     refine⟨m,D,?_,hown,?_⟩
     ·rw[List.length_take];omega
     ·rw[HT.out]
      exact hgd.skip (by rw[HQ.out];exact hqR)
    clear hown hgd hqR
    go_wp2
    go_roundw
    case rel=>exact⟨i+1,by omega,by go_num,hG2,hB,hws⟩
    case measure=>simp[intOf];omega
  ·obtain rfl:i=y.length:=by omega
   rw[List.take_length] at hG
   go_wp2
   go_ret
   exact⟨rfl,hG,hB⟩
theorem ZkC {T E:TypeId} {z:Value} {bytes:Nat} (hT:Tryz.prog.underlying T=some (.slice E)) (hinfo:(Tryz.prog.info? E).map (fun i=>(i.zero,i.size,i.bytes))=some (some z,1,bytes)) (hby:bytes≤32) (n:Int) (N:Nat) (hn:n=(N:Int)) (hN:N≤1099511627776) (W:World) :
  (Instr.makeSlice T (.int .i64 n) (.int .i64 n)).run Tryz.prog W=.ok (.slice (some ⟨W.heap.size,0,none⟩) N N) (W.alloc (.cells (madeCells z.cells N) E)):=by
 subst hn
 obtain⟨i0,hi,hz0,hzs,hz2⟩:=info_parts hinfo
 have h1:i0.bytes * N≤32 * 1099511627776:=by rw[hz2];exact Nat.mul_le_mul hby hN
 have hr:=run_make (P:=Tryz.prog) W T E i0 z hT hi hz0 .i64 .i64 (N:Int) (N:Int) (by omega) (Int.le_refl _) (by
  have:((i0.bytes * N:Nat):Int)≤281474976710656:=by omega
  rwa [Int.natCast_mul] at this) (by omega)
 simpa [hzs] using hr
theorem infoIs:(Tryz.prog.info? 50).map (fun i=>(i.zero,i.size,i.bytes))=some (some (.slice none 0 0),1,24):=by kernel_rfl
theorem Gm.low {x:List Int} {R:Nat} {t:List Int} {b base:Nat} {w w':World} (h:Gm x R t b base w) (hb:Below w.heap.size w w'):Gm x R t b base w':=by
 obtain⟨m,D,h1,h2,h3⟩:=h
 exact⟨m,D,h1,h2.kept (ZgY hb none) (by simp) (fun _ _ _ e _=>by cases e.val.ownBlock<;>simp),h3⟩
def Prt (x y:List Int) (R base k:Nat) (vs:List Value) (w:World):Prop:=vs.length=x.length∧∀ i,i<k→∃ v,vs[i]?=some v∧w.ownsInts base 3 .i64 v (nI (pj x y R i))
theorem ZfK {w:World} {base:Nat} {v:Value} {zs:List Int} (h:w.ownsInts base 3 .i64 v zs) {g:Nat} {cs:Array Value} {fz:Nat × Nat} (hg:w.heap[g]?=some (.cells cs 50 fz)) (j:Nat) (u:Value):(w.setCell ⟨g,j,none⟩ u).ownsInts base 3 .i64 v zs:=by
 refine h.kept (ZeH w g j u) ?_
 rcases h.1.2 with ⟨rfl,_⟩ | ⟨g',cap,cur,rfl,_,h2,_⟩
 ·exact .inl rfl
 ·right
  intro e
  simp[Value.ownBlock] at e
  subst e
  rw[h2] at hg
  cases hg
theorem Prt.set {x y:List Int} {R base k:Nat} {vs:List Value} {w:World} (h:Prt x y R base k vs w) (hk:k<x.length) {g:Nat} {cs:Array Value} {fz:Nat × Nat} (hg:w.heap[g]?=some (.cells cs 50 fz)) {v:Value} (hv:w.ownsInts base 3 .i64 v (nI (pj x y R k))):Prt x y R base (k+1) (vs.set k v) (w.setCell ⟨g,k,none⟩ v):=by
 refine⟨by rw[List.length_set];exact h.1,fun i hi=>?_⟩
 by_cases e:i=k
 ·subst e
  exact⟨v,List.getElem?_set_self (by rw[h.1];exact hk),ZfK hv hg _ _⟩
 ·obtain⟨u,h1,h2⟩:=h.2 i (by omega)
  exact⟨u,by rw[List.getElem?_set_ne (fun q=>e q.symm)];exact h1,ZfK h2 hg _ _⟩
theorem Prt.low {x y:List Int} {R base k:Nat} {vs:List Value} {w w':World} (h:Prt x y R base k vs w) (hb:Below w.heap.size w w'):Prt x y R base k vs w' :=
 ⟨h.1,fun i hi=>by obtain⟨v,h1,h2⟩:=h.2 i hi;exact⟨v,h1,h2.kept (ZgY hb none) (by cases v.ownBlock<;>simp)⟩⟩
theorem Ziv (x y:List Int) (R b base:Nat) (v:Value) (w:World) (hG:Gm x R y b base w) (hx:HI w v x) (hxl:x.length≤1048576) (hyl:y.length≤1048576) (hw:∀ c∈x,w64 c) :
  Calls Tryz.prog 124 #[v,.map (some b)] w fun e w'=>∃ vs,e=.returned (.slice (some ⟨w.heap.size,0,none⟩) x.length x.length)∧w'.ownsRow w.heap.size 50 1 (.slice (some ⟨w.heap.size,0,none⟩) x.length x.length) x.length vs∧Prt x y R base x.length vs w'∧Below w.heap.size w w':=by
 obtain⟨xo,xc,rfl⟩:=Holds.form hx
 have hmk:=ZkC (T:=183) Tryz.underlying183 infoIs (by decide) (x.length:Int) x.length rfl (by omega)
 have hrow:=World.ownsRow_lit (base:=w.heap.size) (e:=50) (size:=1) w (madeCells #[.slice none 0 0] x.length) x.length (Nat.le_refl _) (by unfold maxLen;omega) (by rw[size_madeCells];simp)
 have HW:Hid (∀ c∈x,w64 c):=hw
 clear hw
 go_enter Tryz.func124,Tryz.ntmps124
 go_wp2
 go_loopw [13] (fun iv wr=>∃ (i:Nat) (vs:List Value),i≤x.length∧iv=.int .i64 i∧wr.ownsRow w.heap.size 50 1 (.slice (some ⟨w.heap.size,0,none⟩) x.length x.length) x.length vs∧Prt x y R base i vs wr∧Below w.heap.size w wr) (fun iv _=>x.length-(intOf iv).toNat)
 case atStart=>exact⟨0,_,Nat.zero_le _,rfl,hrow,⟨by have:=hrow.1;simpa using this,fun i hi=>by omega⟩,(Below.refl _ w).alloc (Nat.le_refl _) _⟩
 case round =>
  clear hmk hrow
  obtain⟨i,vs,hi,rfl,hO,hP,hB⟩:=hrel
  have hs:=hB.size
  by_cases hil:i<x.length
  ·obtain⟨bx,off,rfl,_,hc⟩:=HI.at (HI.keep hx hB (Nat.le_refl _)) (by omega)
   have c0:=hc i hil
   have hzw:w64 x[i]:=HW.out _ (List.getElem_mem hil)
   obtain⟨m,D,hm,hown,hgd⟩:=hG
   have hown2:=hown.kept (ZgY hB none) (by simp) (fun _ _ _ e _=>by cases e.val.ownBlock<;>simp)
   obtain⟨v2,zs2,hrun,hat2,hoi2,hzl2,_⟩:=hown2.at hKeyed Tryz.underlying185 (zeroIs wr) (by unfold maxLen;omega) (hKey hzw)
   have hzs:=hgd.zs hoi2 hat2
   rw[ZiQ x y R i hil] at hzs
   rw[hzs] at hoi2
   obtain⟨z,hz⟩:∃ z,x[i]=z:=⟨_,rfl⟩
   rw[hz] at c0 hrun
   obtain⟨so,sc,rfl⟩:=(holds_of hoi2.1).form
   obtain⟨cs,hcs⟩:∃ cs,wr.heap[w.heap.size]?=some (.cells cs 50 (0,0)):=by
    rcases hO.2 with ⟨h,_⟩ | ⟨g',cap,cur,h,_,h2,_⟩
    ·cases h
    ·cases h;exact⟨_,h2⟩
   have hvl:=hP.1
   have y0:=hO.cellAt i (by omega)
   rw[List.getElem?_eq_getElem (by omega)] at y0
   have f0:=hO.frozenAt i
   obtain⟨p1,g1⟩:=hO.stored i (.slice so (nI (pj x y R i)).length sc)
   have hP2:=hP.set hil hcs hoi2
   have hB':Below w.heap.size w (wr.setCell ⟨w.heap.size,i,none⟩ (.slice so (nI (pj x y R i)).length sc)):=hB.grown g1 hs (fun j hj=>owns_ge hO (by simpa [Value.ownBlock] using hj))
   obtain⟨n2,hn2⟩:∃ n,(nI (pj x y R i)).length=n:=⟨_,rfl⟩
   rw[hn2] at hrun p1 hP2 hB'
   clear hc hz hat2 hoi2 hzs hown hown2 hgd hm hO hP hcs g1
   have i1:0≤(i:Int):=by omega
   have i2:(i:Int)<(x.length:Int):=by omega
   generalize vs[i]=old at y0
   go_wp2
   go_roundw
   case rel=>exact⟨i+1,_,by omega,by go_num,p1,hP2,hB'⟩
   case measure=>simp[intOf];omega
  ·obtain rfl:i=x.length:=by omega
   go_wp2
   go_ret
   exact⟨vs,rfl,hO,hP,hB⟩
end

section
open Go.RowKit
theorem ZkJ (x y:List Int) (vx vy:Value) (w:World) (hx:HI w vx x) (hy:HI w vy y) (hxl:x.length≤1048576) (r:Nat) (hr:Hid (fr x y=r)) :
  Calls Tryz.prog 126 #[vx,vy] w fun e w'=>e=.returned (.int .i64 (r:Int))∧Below w.heap.size w w':=by
 obtain⟨xo,xc,rfl⟩:=Holds.form hx
 obtain⟨yo,yc,rfl⟩:=Holds.form hy
 have HF0:Hid (fr (x.drop 0) (y.drop 0)+0=r):=hr
 go_enter Tryz.func126,Tryz.ntmps126
 go_wp2
 go_loopw [5] (fun iv wr=>∃ k:Nat,k≤x.length∧k≤y.length∧iv=.int .i64 k∧Below w.heap.size w wr∧Hid (fr (x.drop k) (y.drop k)+k=r)) (fun iv _=>x.length-(intOf iv).toNat)
 case atStart=>exact⟨0,Nat.zero_le _,Nat.zero_le _,rfl,Below.refl _ _,HF0⟩
 case round =>
  clear HF0
  obtain⟨k,hkx,hky,rfl,hBr,HF⟩:=hrel
  obtain⟨q,hq⟩:∃ q,decide (k<x.length∧k<y.length∧x[k]?=y[k]?)=q:=⟨_,rfl⟩
  have HQ:Hid (decide (k<x.length∧k<y.length∧x[k]?=y[k]?)=q):=hq
  clear hq
  have i1:0≤(k:Int):=by omega
  go_wp2_with fail
  go_cut [26] from 6 to 28 (fun z wz=>z=.bool q∧∃ m,wz=wr.drewN m)
  case first =>
   by_cases h3:k<x.length
   ·have e7:decide ((k:Int)<(x.length:Int))=true:=decide_eq_true (by omega)
    by_cases h4:k<y.length
    ·have e8:decide ((k:Int)<(y.length:Int))=true:=decide_eq_true (by omega)
     obtain⟨xb,xf,rfl,_,hcx⟩:=HI.at (HI.keep hx hBr (Nat.le_refl _)) (by omega)
     obtain⟨yb,yf,rfl,_,hcy⟩:=HI.at (HI.keep hy hBr (Nat.le_refl _)) (by omega)
     have x0:=hcx k (by omega)
     have y0:=hcy k (by omega)
     obtain⟨zx,hzx⟩:∃ z,x[k]=z:=⟨_,rfl⟩
     obtain⟨zy,hzy⟩:∃ z,y[k]=z:=⟨_,rfl⟩
     rw[hzx] at x0
     rw[hzy] at y0
     have i2:(k:Int)<(x.length:Int):=by omega
     have i3:(k:Int)<(y.length:Int):=by omega
     have e9:(zx == zy)=q:=by
      rw[← HQ.out,List.getElem?_eq_getElem h3,List.getElem?_eq_getElem h4,hzx,hzy]
      by_cases q:zx=zy<;>simp[h3,h4,q]
     clear hcx hcy hzx hzy HQ
     go_big_quiet (fail)
     go_wp2
     go_meet
     case rel=>exact⟨rfl,_,rfl⟩
    ·have e8:decide ((k:Int)<(y.length:Int))=false:=decide_eq_false (by omega)
     obtain rfl:q=false:=by rw[← HQ.out];simp[h4]
     go_big_quiet (fail)
     go_wp2
     go_meet
     case rel=>exact⟨rfl,_,rfl⟩
   ·have e7:decide ((k:Int)<(x.length:Int))=false:=decide_eq_false (by omega)
    obtain rfl:q=false:=by rw[← HQ.out];simp[h3]
    go_big_quiet (fail)
    go_wp2
    go_meet
    case rel=>exact⟨rfl,_,rfl⟩
  case rest =>
   obtain⟨rfl,mq,rfl⟩:=hcut
   have hBq:=Below.dN hBr mq
   clear hBr
   generalize wr.drewN mq=wq at hBq ⊢
   cases q with
   | true =>
    obtain⟨h3,h4,h5⟩:=of_decide_eq_true HQ.out
    have HF2:Hid (fr (x.drop (k+1)) (y.drop (k+1))+(k+1)=r):=(by
     show _=_
     rw[← HF.out,Zel x y k h3 h4,if_pos (by rw[List.getElem?_eq_getElem h3,List.getElem?_eq_getElem h4] at h5;simpa using h5)]
     omega)
    clear HF HQ
    go_wp2
    go_roundw
    case rel=>exact⟨k+1,by omega,by omega,by go_num,hBq,HF2⟩
    case measure=>simp[intOf];omega
   | false =>
    have hk:k=r:=by
     have h3:=of_decide_eq_false HQ.out
     rw[← HF.out]
     by_cases hx':k<x.length
     ·by_cases hy':k<y.length
      ·rw[Zel x y k hx' hy',if_neg (fun e=>h3 ⟨hx',hy',by rw[List.getElem?_eq_getElem hx',List.getElem?_eq_getElem hy',e]⟩)]
       omega
      ·rw[List.drop_of_length_le (l:=y) (by omega)]
       cases x.drop k<;>simp[fr]
     ·rw[List.drop_of_length_le (l:=x) (by omega)]
      simp[fr]
    subst hk
    clear HF HQ
    go_wp2
    go_ret
    exact⟨rfl,hBq⟩
def cmpI (a b:Int):Int:=if a<b then -1 else if b<a then 1 else 0
theorem ZfM (a:Int) (w:World):Calls Tryz.prog 145 #[.int .i64 a] w fun e w'=>e=.returned (.bool false)∧w=w':=by
 go_enter Tryz.func145,Tryz.ntmps145
 go_wp2
 go_ret
 exact⟨by first | rfl | (simp;done),rfl⟩
theorem Zal (a b r:Int) (w:World) (hr:Hid (cmpI a b=r)):Calls Tryz.prog 138 #[.int .i64 a,.int .i64 b] w fun e w'=>e=.returned (.int .i64 r)∧w=w':=by
 go_enter Tryz.func138,Tryz.ntmps138
 go_wp2_with fail
 refine (ZfM a w).mono ?_
 rintro e w1 ⟨rfl,rfl⟩
 go_wp2_with fail
 refine (ZfM b w).mono ?_
 rintro e w1 ⟨rfl,rfl⟩
 by_cases h1:a<b
 ·obtain rfl:-1=r:=by rw[← hr.out,cmpI,if_pos h1]
  go_wp2
  go_ret
  exact⟨rfl,rfl⟩
 ·by_cases h2:b<a
  ·obtain rfl:1=r:=by rw[← hr.out,cmpI,if_neg h1,if_pos h2]
   go_wp2
   go_ret
   exact⟨rfl,rfl⟩
  ·obtain rfl:0=r:=by rw[← hr.out,cmpI,if_neg h1,if_neg h2]
   go_wp2
   go_ret
   exact⟨rfl,rfl⟩
def orL:List Int→Int
 | []=>0
 | a::l=>if a=0 then orL l else a
theorem Or_f (l:List Int) (v:Value) (w:World) (hl:HI w v l) (hll:l.length≤1048576) (r:Int) (hr:Hid (orL l=r)):Calls Tryz.prog 137 #[v] w fun e w'=>e=.returned (.int .i64 r)∧w=w':=by
 obtain⟨lo,lc,rfl⟩:=Holds.form hl
 go_enter Tryz.func137,Tryz.ntmps137
 go_wp2
 go_loopw [8] (fun iv wr=>∃ k:Nat,k≤l.length∧iv=.int .i64 k∧wr=w∧Hid (orL (l.drop k)=r)) (fun iv _=>l.length-(intOf iv).toNat)
 case atStart=>exact⟨0,Nat.zero_le _,rfl,rfl,hr⟩
 case round =>
  obtain⟨k,hk,rfl,rfl,HR⟩:=hrel
  by_cases hlt:k<l.length
  ·obtain⟨b,off,rfl,_,hc⟩:=HI.at hl (by omega)
   have c0:=hc k hlt
   obtain⟨z,hz⟩:∃ z,l[k]=z:=⟨_,rfl⟩
   rw[hz] at c0
   have HR2:Hid ((if z=0 then orL (l.drop (k+1)) else z)=r):=(by
    show _=_
    have:=HR.out
    rw[List.drop_eq_getElem_cons hlt,orL,hz] at this
    exact this)
   clear hc hz HR
   have i1:0≤(k:Int):=by omega
   have i2:(k:Int)<(l.length:Int):=by omega
   by_cases h0:z=0
   ·have e1:(z != 0)=false:=by simp[h0]
    have HR3:Hid (orL (l.drop (k+1))=r):=(by
     show _=_
     have:=HR2.out
     rw[if_pos h0] at this
     exact this)
    clear HR2 h0
    go_wp2
    go_roundw
    case rel=>exact⟨k+1,by omega,by go_num,trivial,HR3⟩
    case measure=>simp[intOf];omega
   ·have e1:(z != 0)=true:=by simp[h0]
    obtain rfl:z=r:=by
     have:=HR2.out
     rw[if_neg h0] at this
     exact this
    clear HR2 h0
    go_wp2
    go_ret
    exact⟨rfl,rfl⟩
  ·obtain rfl:k=l.length:=by omega
   obtain rfl:0=r:=by
    rw[← HR.out,List.drop_of_length_le (Nat.le_refl _)]
    rfl
   go_wp2
   go_ret
   exact⟨rfl,rfl⟩
theorem ZcK {a b:Nat} (h:a<b):cmpI a b=-1:=by unfold cmpI;rw[if_pos (by omega)]
theorem ZcJ {a b:Nat} (h:b<a):cmpI a b=1:=by unfold cmpI;rw[if_neg (by omega),if_pos (by omega)]
theorem ZcI {a b:Nat} (h:a=b):cmpI a b=0:=by unfold cmpI;rw[if_neg (by omega),if_neg (by omega)]
theorem ZhZ (r b:Hr):decide (0<orL [cmpI r.N b.N,cmpI b.X r.X,cmpI b.Y r.Y])=btC r b:=by
 unfold btC
 rcases Nat.lt_trichotomy r.N b.N with h | h | h
 ·rw[ZcK h]
  simp[orL]
  omega
 ·rcases Nat.lt_trichotomy b.X r.X with h2 | h2 | h2
  ·rw[ZcI h,ZcK h2]
   simp[orL]
   omega
  ·rcases Nat.lt_trichotomy b.Y r.Y with h3 | h3 | h3
   ·rw[ZcI h,ZcI h2,ZcK h3]
    simp[orL]
    omega
   ·rw[ZcI h,ZcI h2,ZcI h3]
    simp[orL]
    omega
   ·rw[ZcI h,ZcI h2,ZcJ h3]
    simp[orL,h,h2,h3]
  ·rw[ZcI h,ZcJ h2]
   simp[orL,h,h2]
 ·rw[ZcJ h]
  simp[orL,h]
end

end Go.Proofs.YtcnjephlmcnodaaGreatDoor
