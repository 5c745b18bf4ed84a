/-
  Texts that belong together, joined: PaFd, PaLs, PaTr, MiRk, PcLe, PaPi, PaOp, PaDf, PaHm, HiMath, HiRuns, HiPc, SpPc, MiRd, HiMp, HiGr, HiCm, HiOd, HiBm, HiBs, HiFd, HiRt, HiRr, HiRb, HiPi, HiDf, SpCd, SpFd, SpGr, SpRg, SpDf.
-/
import Derived.Test.YtgiojkhmkeocfaaGreatDoorCtmtBA7
import Derived.Test.YtgiojkhmkeocfaaGreatDoorCtmtBA8
import Derived.Test.YtgiojkhmkeocfaaGreatDoorCtmtBA9
import Derived.Test.YtgiojkhmkeocfaaGreatDoorCtmtBA4
import Derived.Laws.Rows
import Derived.Deep.CutRange
import Derived.Test.YtgiojkhmkeocfaaGreatDoorCtmtBA5
import Derived.Laws.EntriesVeiled
import Derived.Maps.OwnSet
import Derived.Carry
import Derived.Maps.OwnRows
import Derived.Maps.GroupsBeside
import Derived.WalkMore
import Derived.Test.YtgiojkhmkeocfaaGreatDoorCtmtBA6

set_option maxHeartbeats 16000000
set_option maxRecDepth 100000
namespace Go.Proofs.YtgiojkhmkeocfaaGreatDoor

section
open Go.RowKit
attribute [local simp] low_drew
theorem unq_length' (x y:List Int):(unq x y).length≤x.length:=uq_length x y 0 x
def Bx2 (u:World) (B:Nat) (p q:Nat):Prop:=u.heap[B]?=some (.cells #[.int .i64 (p:Int),.int .i64 (q:Int)] 249 (0,0))
section
variable {u u':World} {B p q:Nat}
theorem Bx2.cells (h:Bx2 u B p q):u.cell? ⟨B,0,none⟩=some (.int .i64 (p:Int))∧u.cell? ⟨B,1,none⟩=some (.int .i64 (q:Int)):=by
 refine⟨?_,?_⟩<;>rw[Lib.cell_of_heap h]<;>rfl
theorem Bx2.frozen (h:Bx2 u B p q) (j:Nat):u.frozen? ⟨B,j,none⟩=false:=by
 unfold World.frozen?
 rw[h]
 rfl
theorem Bx2.lt (h:Bx2 u B p q):B<u.heap.size:=(Array.getElem?_eq_some_iff.1 h).1
theorem Bx2.keep (h:Bx2 u B p q) {r:Option Nat} (hg:u.grownBy u' r) (hr:some B≠r):Bx2 u' B p q:=(hg.block B h.lt hr).trans h
theorem Bx2.low (h:Bx2 u B p q) (hg:Below u.heap.size u u'):Bx2 u' B p q:=(hg.block B h.lt).trans h
theorem Bx2.new (w:World) (p q:Nat):Bx2 (w.alloc (.cells #[.int .i64 (p:Int),.int .i64 (q:Int)] 249)) w.heap.size p q:=_root_.Go.heap_alloc_new w _
theorem Bx2.put (h:Bx2 u B p q) (p' q':Nat):Bx2 ((u.setCell ⟨B,0,none⟩ (.int .i64 (p':Int))).setCell ⟨B,1,none⟩ (.int .i64 (q':Int))) B p' q' :=
 heap_setCell_same _ B 1 _ _ _ (heap_setCell_same u B 0 _ _ _ h)
end
theorem load_fn {u:World} {a:Addr} {n:Nat} {c:Array Value} (h:u.cell? a=some (.func (.func n) #[] c)) {op:Oper} (x:Operand) (ho:op.op=.load 241 x) {ev:Operand→Value} (hx:ev x=.pointer (some a)) :
  (execOp ev op).run Tryz.prog u=.ok (.value (.func (.func n) #[] c)) u:=by
 simp only[execOp,ho,hx]
 go_simp
theorem cell_below {u u':World} (h:Below u.heap.size u u') {a:Addr} {v:Value} (hc:u.cell? a=some v):u'.cell? a=some v:=cell_low h hc
theorem find_f (x y:List Int) (W0:World) (g Bf:Nat) (hf0:W0.cell? ⟨Bf,0,none⟩=some (.func (.func 181) #[] #[.pointer (some ⟨Bf,0,none⟩)])) (hxl:x.length≤4096) (hyl:y.length≤4096) (hwx:∀ c∈x,w64 c) (hwy:∀ c∈y,w64 c) (f:Nat):∀ (w:World) (K:List Int) (_:Ls W0 g x.length K w) (a b c d:Nat) (xo:Option Addr) (nx xc:Nat) (yo:Option Addr) (ny yc:Nat) (ko:Option Addr) (kc:Nat) (_:Pz W0 g x y a b c d xo nx xc yo ny yc ko kc) (_:b-a<f) (KF:List Int) (_:Hid (wrk K (pcs (pmid x y) x y f a b c d)=KF)),
  Calls Tryz.prog 181 #[.agg #[.slice xo nx xc,.slice yo ny yc,.int .i64 (c:Int),.slice ko nx kc],.pointer (some ⟨Bf,0,none⟩)] w fun e w'=>e=.returned (.tuple #[])∧Ls W0 g x.length KF w'∧w.grownBy w' (some g):=by
 induction f with
 | zero=>intro w K hS a b c d xo nx xc yo ny yc ko kc hp hf;omega
 | succ f ih =>
  intro w K hS a b c d xo nx xc yo ny yc ko kc hp hf KF hKF
  have hg:=hS.lt
  have HKF:Hid (∀ k m,k=tf x y a b c d→m=tb x y (a+k) b (c+k) d→wrk (wrk K (fp a c k++bp b d m)) (if a+k<b-m∧c+k<d-m then pmid x y (pcs (pmid x y) x y f) (a+k) (b-m) (c+k) (d-m) else [])=KF):=(by
   intro k m hk hm
   rw[← hKF.out,pcs,ends,← hk,← hm,wrk_append,wrk_append,wrk_append])
  have hQ0:=Qbx.new w (.slice xo nx xc) (.slice yo ny yc) (.int .i64 c) (.slice ko nx kc)
  have hB0:=(Below.refl w.heap.size w).alloc (Nat.le_refl _) (.cells #[.slice xo nx xc,.slice yo ny yc,.int .i64 c,.slice ko nx kc] 243)
  clear hKF
  go_enter Tryz.func181,Tryz.ntmps181
  go_wp2_with fail
  refine (KeepEnds_f x y W0 _ g K a b c d xo nx xc yo ny yc ko kc hp hxl hyl (hS.keep hB0)).mono ?_
  rintro e w1 ⟨k,m,xo1,nx1,xc1,yo1,ny1,yc1,ko1,kc1,hk,hm,rfl,hp1,hS1,hG1⟩
  have HK2:=HKF.out k m hk hm
  have hkl:=tf_le x y a b c d
  have hml:=tb_le x y (a+k) b (c+k) d
  rw[← hk] at hkl
  rw[← hm] at hml
  have hQ1:=hQ0.keep hG1 (by simp;omega)
  have hG1':w.grownBy w1 (some g):=(low_grown hB0 _).trans hG1
  have hb0:=hp.eb
  have hf':=hp.bx
  clear hk hm HKF hS hB0 hQ0 hG1 hp
  obtain⟨A,hA⟩:∃ A,a+k=A:=⟨_,rfl⟩
  obtain⟨C,hC⟩:∃ C,c+k=C:=⟨_,rfl⟩
  obtain⟨b1,hb1⟩:∃ B,b-m=B:=⟨_,rfl⟩
  obtain⟨d1,hd1⟩:∃ D,d-m=D:=⟨_,rfl⟩
  obtain⟨K1,hK1⟩:∃ K1,wrk K (fp a c k++bp b d m)=K1:=⟨_,rfl⟩
  rw[hK1] at hS1 HK2
  rw[hA,hC,hb1,hd1] at HK2 hp1
  rw[hC]
  have HK3:Hid (wrk K1 (if A<b1∧C<d1 then pmid x y (pcs (pmid x y) x y f) A b1 C d1 else [])=KF):=HK2
  have hf1:b1-A≤f:=by omega
  clear hA hC hb1 hd1 hK1 hkl hml hf HK2 hb0 hf'
  obtain⟨c0,c1,c2,c3⟩:=hQ1.cells
  have f0:=hQ1.frozen
  have hQ2:=hQ1.put (.slice xo1 nx1 xc1) (.slice yo1 ny1 yc1) (.int .i64 (C:Int)) (.slice ko1 nx1 kc1)
  have hgw:=hS1.low.size
  have hS2:=ls_other (ls_other (ls_other (ls_other hS1 (g:=w.heap.size) (by omega) (by omega) 0 (.slice xo1 nx1 xc1)) (g:=w.heap.size) (by omega) (by omega) 1 (.slice yo1 ny1 yc1)) (g:=w.heap.size) (by omega) (by omega) 2 (.int .i64 (C:Int))) (g:=w.heap.size) (by omega) (by omega) 3 (.slice ko1 nx1 kc1)
  have hG2:=grown_new (grown_new (grown_new (grown_new hG1' (B:=w.heap.size) (by omega) 0 (.slice xo1 nx1 xc1)) (B:=w.heap.size) (by omega) 1 (.slice yo1 ny1 yc1)) (B:=w.heap.size) (by omega) 2 (.int .i64 (C:Int))) (B:=w.heap.size) (by omega) 3 (.slice ko1 nx1 kc1)
  obtain⟨W2,hW2⟩:∃ W2,(((w1.setCell ⟨w.heap.size,0,none⟩ (.slice xo1 nx1 xc1)).setCell ⟨w.heap.size,1,none⟩ (.slice yo1 ny1 yc1)).setCell ⟨w.heap.size,2,none⟩ (.int .i64 (C:Int))).setCell ⟨w.heap.size,3,none⟩ (.slice ko1 nx1 kc1)=W2:=⟨_,rfl⟩
  rw[hW2] at hQ2 hS2 hG2
  unfold pzV
  have hAb:=hp1.eb
  have hCd:=hp1.ed
  obtain⟨r,hr⟩:∃ r,r=decide (nx1=0∨ny1=0):=⟨_,rfl⟩
  have HR:Hid (r=decide (nx1=0∨ny1=0)):=hr
  obtain⟨q0,q1,q2,q3⟩:=hQ2.cells
  clear hr
  go_wp2_with fail
  refine (Empty_f xo1 nx1 xc1 yo1 ny1 yc1 C ko1 kc1 W2 r HR).mono ?_
  rintro e w3 ⟨rfl,hB3⟩
  clear q0 q1 q2 q3 c0 c1 c2 c3 f0 hW2 hQ1 hS1 hG1'
  have hQ3:=hQ2.low hB3
  have hS3:=hS2.keep hB3
  have hG3:=hG2.trans (low_grown hB3 (some g))
  clear hQ2 hS2 hG2 hB3
  cases r with
  | true =>
   have e:K1=KF:=by
    have h1:=of_decide_eq_true HR.out.symm
    have:=HK3.out
    rw[if_neg (by omega)] at this
    exact this
   subst e
   go_wp2
   (try simp only[Exit.inBlock,Exit.then])
   refine bodyPost_ret (results_none rfl _ _ _) rfl ?_
   exact⟨rfl,hS3,hG3⟩
  | false =>
   have h1:=of_decide_eq_false HR.out.symm
   have hm0:A<b1∧C<d1:=by omega
   have HK2:Hid (wrk K1 (pmid x y (pcs (pmid x y) x y f) A b1 C d1)=KF):=(by
    show _=_
    have:=HK3.out
    rw[if_pos hm0] at this
    exact this)
   clear HK3 HR
   have hbx:=hp1.bx
   have hdy:=hp1.dy
   obtain⟨X,hX⟩:∃ X,sub x A b1=X:=⟨_,rfl⟩
   obtain⟨Y,hY⟩:∃ Y,sub y C d1=Y:=⟨_,rfl⟩
   have hXl:X.length=nx1:=by rw[← hX,sub_length x A b1 hbx];omega
   have hYl:Y.length=ny1:=by rw[← hY,sub_length y C d1 hdy];omega
   have hx3:HI w3 (.slice xo1 nx1 xc1) X:=by
    unfold HI
    rw[hXl,← hX]
    exact Holds.keep hp1.hx (fun q hq=>hS3.low.block q hq)
   have hy3:HI w3 (.slice yo1 ny1 yc1) Y:=by
    unfold HI
    rw[hYl,← hY]
    exact Holds.keep hp1.hy (fun q hq=>hS3.low.block q hq)
   have HW:Hid ((∀ c∈X,w64 c)∧(∀ c∈Y,w64 c)):=(by
    refine⟨fun c hc=>hwx c ?_,fun c hc=>hwy c ?_⟩
    ·rw[← hX] at hc
     exact List.mem_of_mem_drop (List.mem_of_mem_take hc)
    ·rw[← hY] at hc
     exact List.mem_of_mem_drop (List.mem_of_mem_take hc))
   obtain⟨Q,hQ⟩:∃ Q,unq X Y=Q:=⟨_,rfl⟩
   obtain⟨L,hL⟩:∃ L,lng Q=L:=⟨_,rfl⟩
   obtain⟨n,hn⟩:∃ n,L.length=n:=⟨_,rfl⟩
   have HQ:Hid (unq X Y=Q):=hQ
   have HL:Hid (lng Q=L):=hL
   have HN:Hid (L.length=n):=hn
   have hQl:Q.length≤nx1:=by rw[← hQ,← hXl];exact unq_length' X Y
   have hLn:n≤nx1:=by rw[← hn,← hL];exact Nat.le_trans (pick_length _ _ _ _) hQl
   have HX:Hid (X.length≤1048576∧Y.length≤1048576∧Q.length≤1048576):=(by refine⟨?_,?_,?_⟩<;>omega)
   have HK4:Hid (wrk K1 (if L=[] then lp A C (kp 0 (sub x A b1) (sub y C d1)) else gos (pcs (pmid x y) x y f) A C b1 d1 A C L)=KF):=(by
    show _=_
    have:=HK2.out
    unfold pmid at this
    rw[hX,hY,hQ,hL] at this
    rw[hX,hY]
    exact this)
   have HGs:Hid (∀ KF,wrk K1 (gos (pcs (pmid x y) x y f) A C b1 d1 A C L)=KF→Gs (pcs (pmid x y) x y f) A C b1 d1 L A C K1 KF):=(by
    intro KF h
    have:=Gs.start (rec:=pcs (pmid x y) x y f) (x:=x) (y:=y) (K:=K1) (KF:=KF) (a:=A) (b:=b1) (c:=C) (d:=d1) (by omega) hbx (by omega) hdy
    rw[hX,hY,hQ,hL] at this
    exact this h)
   have hnl:n≤4096:=by omega
   clear hX hY hXl hYl hQ hL hn HK2 hQl hLn
   obtain⟨q0,q1,q2,q3⟩:=hQ3.cells
   go_wp2_with fail
   refine (Unique_f X Y _ _ w3 hx3 hy3 HX.out.1 HX.out.2.1 HW.out.1 HW.out.2 Q HQ).mono ?_
   rintro e w4 ⟨v4,rfl,hQr,hB4⟩
   obtain⟨qo,qc,rfl⟩:=Holds.form hQr
   clear q0 q1 q2 q3 hx3 hy3 HW
   go_wp2_with fail
   refine (Longest_f Q _ w4 hQr HX.out.2.2 L HL).mono ?_
   rintro e w5 ⟨v5,rfl,hO,hB5⟩
   obtain⟨lo,lc,rfl⟩:=(holds_of hO).form
   rw[HN.out] at hO ⊢
   have hB35:Below w3.heap.size w3 w5:=hB4.trans (hB5.mono hB4.size)
   have hgB:g<w4.heap.size:=by have:=hS3.lt;have:=hB4.size;omega
   obtain⟨B,hB⟩:∃ B,w4.heap.size=B:=⟨_,rfl⟩
   rw[hB] at hO hgB
   have hQ5:=hQ3.low hB35
   have hS5:=hS3.keep hB35
   have hG5:=hG3.trans (low_grown hB35 (some g))
   clear hB hB4 hB5 hB35 hQ3 hS3 hG3 hQr HQ HL HX
   obtain⟨q0,q1,q2,q3⟩:=hQ5.cells
   by_cases hn0:n=0
   ·have e3:((n:Int) == 0)=true:=by simp;omega
    have HK5:Hid (wrk K1 (lp A C (kp 0 (sub x A b1) (sub y C d1)))=KF):=(by
     show _=_
     have:=HK4.out
     rw[if_pos (List.eq_nil_of_length_eq_zero (by rw[HN.out];exact hn0))] at this
     exact this)
    clear hn0 HK4 HGs
    go_wp2_with fail
    refine (KeepMost_f x y W0 w5 g K1 A b1 C d1 xo1 nx1 xc1 yo1 ny1 yc1 ko1 kc1 hp1 hxl hyl hS5 KF HK5).mono ?_
    rintro e w6 ⟨rfl,hS6,hG6⟩
    have hG7:=hG5.trans hG6
    go_wp2
    (try simp only[Exit.inBlock,Exit.then])
    refine bodyPost_ret (results_none rfl _ _ _) rfl ?_
    exact⟨rfl,hS6,hG7⟩
   ·have e3:((n:Int) == 0)=false:=by simp;omega
    have HG0:Hid (Gs (pcs (pmid x y) x y f) A C b1 d1 (L.drop 0) A C K1 KF):=(by
     refine HGs.out KF ?_
     have:=HK4.out
     rw[if_neg (fun h=>hn0 (by rw[← HN.out,h];rfl))] at this
     exact this)
    clear HK4 HGs
    have hBn:=Bx2.new w5 0 0
    have hLn:Below w5.heap.size w5 (w5.alloc (.cells #[.int .i64 ((0:Nat):Int),.int .i64 ((0:Nat):Int)] 249)):=(Below.refl _ w5).alloc (Nat.le_refl _) _
    have hQ6:=hQ5.low hLn
    have hS6:=hS5.keep hLn
    have hG6:=hG5.trans (low_grown hLn (some g))
    have hO6:=owns_keep hO hLn
    have hw5:=hS5.low.size
    have hw6:=hS5.lt
    have hw7:=hG5.size
    have hw8:=hQ5.lt
    have hlo:Hid (∀ ad:Addr,lo=some ad→ad.block<w5.heap.size):=(by
     intro ad e
     rcases hO.2 with ⟨h,_⟩ | ⟨g',cap',cur,h,_,hcur,_⟩
     ·cases h
      cases e
     ·cases h
      cases e
      exact (Array.getElem?_eq_some_iff.1 hcur).1)
    clear hQ5 hS5 hG5 hO hLn q0 q1 q2 q3
    go_wp2
    go_loopw [24] (fun iv wr=>∃ (i bx cy a' c':Nat) (K':List Int),i≤n∧iv=.int .i64 i∧a'=A+bx∧c'=C+cy∧Ls W0 g x.length K' wr∧w.grownBy wr (some g)∧Qbx wr w.heap.size (.slice xo1 nx1 xc1) (.slice yo1 ny1 yc1) (.int .i64 C) (.slice ko1 nx1 kc1)∧Bx2 wr w5.heap.size bx cy∧wr.ownsRow B 249 2 (.slice lo n lc) n (prcells L)∧(i=0∨A<a')∧Hid (Gs (pcs (pmid x y) x y f) A C b1 d1 (L.drop i) a' c' K' KF)) (fun iv _=>n-(intOf iv).toNat)
    case atStart=>exact⟨0,0,0,A,C,K1,Nat.zero_le _,rfl,rfl,rfl,hS6,hG6,hQ6,hBn,hO6,.inl rfl,HG0⟩
    case round =>
     clear hQ6 hS6 hG6 hBn hO6 HG0
     obtain⟨i,bx,cy,a',c',K',hi,rfl,ha',hc',hS,hG,hQ,hBb,hO,hia,HG⟩:=hrel
     have hwr:=hS.low.size
     have hgr:=hG.size
     have hlr:=hBb.lt
     by_cases hlt:i<n
     ·have hiL:i<L.length:=by rw[HN.out];exact hlt
      obtain⟨p,hp⟩:∃ p,L[i]=p:=⟨_,rfl⟩
      have HG2:Hid (Gs (pcs (pmid x y) x y f) A C b1 d1 (p::L.drop (i+1)) a' c' K' KF):=(by
       have:=HG.out
       rw[List.drop_eq_getElem_cons hiL,hp] at this
       exact this)
      obtain⟨pu,pv,hpu,hpv,q1,q2,q3,q4⟩:=HG2.out.head
      have HG3:Hid (Gs (pcs (pmid x y) x y f) A C b1 d1 (L.drop (i+1)) (A+pu+1) (C+pv+1) (wrk (wrk K' (pcs (pmid x y) x y f a' (A+pu) c' (C+pv))) (fp (A+pu) (C+pv) 1)) KF):=HG2.out.step hpu hpv
      have hAa:=HG2.out.Aa
      have hCc:=HG2.out.Cc
      obtain⟨lb,lf,lcc,hle,_,hcl⟩:=Holds.at (holds_of hO) (by rw[prcells_length];omega)
      cases hle
      have hlb:lb≠w5.heap.size:=Nat.ne_of_lt (hlo.out _ rfl)
      have l0:wr.cell? ⟨lb,lf+i * 2,none⟩=some (.int .i64 (pu:Int)):=by
       obtain⟨t1,t2⟩:=List.getElem?_eq_some_iff.1 (prcells_at L i hiL).1
       have:=hcl _ t1
       rw[t2,hp,hpu,show 2 * i=i * 2 by omega] at this
       exact this
      have l1:wr.cell? ⟨lb,lf+i * 2+1,none⟩=some (.int .i64 (pv:Int)):=by
       obtain⟨t1,t2⟩:=List.getElem?_eq_some_iff.1 (prcells_at L i hiL).2
       have:=hcl _ t1
       rw[t2,hp,hpv,show 2 * i+1=i * 2+1 by omega] at this
       exact this
      clear hcl HG HG2 hpu hpv hp
      have i1:0≤(i:Int):=by omega
      have i2:(i:Int)<(n:Int):=by omega
      have hEn:=Bx2.new wr pu pv
      have hLn:Below wr.heap.size wr (wr.alloc (.cells #[.int .i64 (pu:Int),.int .i64 (pv:Int)] 249)):=(Below.refl _ wr).alloc (Nat.le_refl _) _
      have hQ1:=hQ.low hLn
      have hS1:=hS.keep hLn
      have hG1:=hG.trans (low_grown hLn (some g))
      have hB1:=hBb.low hLn
      have hO1:=owns_keep hO hLn
      clear hQ hS hG hBb hO hLn
      obtain⟨W3,hW3⟩:∃ W3,wr.alloc (.cells #[.int .i64 (pu:Int),.int .i64 (pv:Int)] 249)=W3:=⟨_,rfl⟩
      rw[hW3] at hEn hQ1 hS1 hG1 hB1 hO1
      obtain⟨u2,hu⟩:∃ u,A+pu=u:=⟨_,rfl⟩
      obtain⟨v2,hv⟩:∃ v,C+pv=v:=⟨_,rfl⟩
      rw[hu,hv] at HG3
      rw[hu] at q1 q2
      rw[hv] at q3 q4
      obtain⟨KK,hKK⟩:∃ KK,wrk K' (pcs (pmid x y) x y f a' u2 c' v2)=KK:=⟨_,rfl⟩
      have HKK:Hid (wrk K' (pcs (pmid x y) x y f a' u2 c' v2)=KK):=hKK
      rw[hKK] at HG3
      have hsz3:=hG1.size
      have hlt3:=hEn.lt
      have hcs:∀ u:World,W3.grownBy u (some g)→u.cell? ⟨Bf,0,none⟩=some (.func (.func 181) #[] #[.pointer (some ⟨Bf,0,none⟩)])∧u.cell? ⟨w.heap.size,0,none⟩=some (.slice xo1 nx1 xc1)∧u.cell? ⟨w.heap.size,1,none⟩=some (.slice yo1 ny1 yc1)∧u.cell? ⟨w.heap.size,2,none⟩=some (.int .i64 (C:Int))∧u.cell? ⟨w.heap.size,3,none⟩=some (.slice ko1 nx1 kc1)∧u.cell? ⟨wr.heap.size,0,none⟩=some (.int .i64 (pu:Int))∧u.cell? ⟨wr.heap.size,1,none⟩=some (.int .i64 (pv:Int))∧u.cell? ⟨w5.heap.size,0,none⟩=some (.int .i64 (bx:Int))∧u.cell? ⟨w5.heap.size,1,none⟩=some (.int .i64 (cy:Int)):=fun u hu=>by
       have hfb:=hS1.low.grown hu hS1.low.size (fun k hk=>by cases hk;exact hg.1)
       obtain⟨t0,t1,t2,t3⟩:=(hQ1.keep hu (by simp;omega)).cells
       obtain⟨t4,t5⟩:=(hEn.keep hu (by simp;omega)).cells
       obtain⟨t6,t7⟩:=(hB1.keep hu (by simp;omega)).cells
       exact⟨cell_below hfb hf0,t0,t1,t2,t3,t4,t5,t6,t7⟩
      obtain⟨z0,z1,z2,z3,z4,z5,z6,z7,z8⟩:=hcs W3 (World.grownBy.refl _ _)
      have hLw:Low W3 W3:=Below.refl _ _
      go_wp2_with fail
      clear hW3 l0 l1
      refine wp_region_noPanic ?_
      refine wp_region_held_drew (S:=fun u=>W3.grownBy u (some g)) (by kernel_rfl) (grown_drewN (World.grownBy.refl W3 _) 1) (fun hHeld=>?_)
      refine go_take 0 28 _ (.func (.func 181) #[] #[.pointer (some ⟨Bf,0,none⟩)]) rfl (by kernel_rfl) (by kernel_rfl) (by kernel_rfl) (by kernel_rfl) (fun _ _ _ h=>h) (Or.inl ⟨by kernel_rfl,fun u hu=>load_fn (hcs u hu).1 (.tmp 1) (by kernel_rfl) (by kernel_rfl)⟩) hHeld ?_
      simp only[Act.put,List.setIfInBounds_toArray,List.set_cons_zero,List.set_cons_succ]
      refine go_take 1 29 _ (.agg #[.slice xo1 nx1 xc1,.slice yo1 ny1 yc1,.int .i64 (C:Int),.slice ko1 nx1 kc1]) rfl (by kernel_rfl) (by kernel_rfl) (by kernel_rfl) (by kernel_rfl) (fun _ _ _ h=>h) (Or.inl ⟨by kernel_rfl,fun u hu=>load_pz (hQ1.keep hu (by simp;omega)) (.tmp 2) (by kernel_rfl) (by kernel_rfl)⟩) hHeld ?_
      simp only[Act.put,List.setIfInBounds_toArray,List.set_cons_zero,List.set_cons_succ]
      refine go_take 2 30 _ (.pointer (some ⟨wr.heap.size,0,none⟩)) rfl (by kernel_rfl) (by kernel_rfl) (by kernel_rfl) (by kernel_rfl) (fun _ _ _ h=>h) (Or.inl ⟨by kernel_rfl,fun u hu=>by kernel_rfl⟩) hHeld ?_
      simp only[Act.put,List.setIfInBounds_toArray,List.set_cons_zero,List.set_cons_succ]
      refine go_take 3 31 _ (.int .i64 (pu:Int)) rfl (by kernel_rfl) (by kernel_rfl) (by kernel_rfl) (by kernel_rfl) (fun _ _ _ h=>h) (Or.inl ⟨by kernel_rfl,fun u hu=>load_int (hcs u hu).2.2.2.2.2.1 (.tmp 30) (by kernel_rfl) (by kernel_rfl)⟩) hHeld ?_
      simp only[Act.put,List.setIfInBounds_toArray,List.set_cons_zero,List.set_cons_succ]
      refine go_take 4 32 _ (.pointer (some ⟨wr.heap.size,1,none⟩)) rfl (by kernel_rfl) (by kernel_rfl) (by kernel_rfl) (by kernel_rfl) (fun _ _ _ h=>h) (Or.inl ⟨by kernel_rfl,fun u hu=>by kernel_rfl⟩) hHeld ?_
      simp only[Act.put,List.setIfInBounds_toArray,List.set_cons_zero,List.set_cons_succ]
      refine go_take 5 33 _ (.int .i64 (pv:Int)) rfl (by kernel_rfl) (by kernel_rfl) (by kernel_rfl) (by kernel_rfl) (fun _ _ _ h=>h) (Or.inl ⟨by kernel_rfl,fun u hu=>load_int (hcs u hu).2.2.2.2.2.2.1 (.tmp 32) (by kernel_rfl) (by kernel_rfl)⟩) hHeld ?_
      simp only[Act.put,List.setIfInBounds_toArray,List.set_cons_zero,List.set_cons_succ]
      refine go_take 7 35 _ (.pointer (some ⟨w5.heap.size,0,none⟩)) rfl (by kernel_rfl) (by kernel_rfl) (by kernel_rfl) (by kernel_rfl) (fun _ _ _ h=>h) (Or.inl ⟨by kernel_rfl,fun u hu=>by kernel_rfl⟩) hHeld ?_
      simp only[Act.put,List.setIfInBounds_toArray,List.set_cons_zero,List.set_cons_succ]
      refine go_take 8 36 _ (.int .i64 (bx:Int)) rfl (by kernel_rfl) (by kernel_rfl) (by kernel_rfl) (by kernel_rfl) (fun _ _ _ h=>h) (Or.inl ⟨by kernel_rfl,fun u hu=>load_int (hcs u hu).2.2.2.2.2.2.2.1 (.tmp 35) (by kernel_rfl) (by kernel_rfl)⟩) hHeld ?_
      simp only[Act.put,List.setIfInBounds_toArray,List.set_cons_zero,List.set_cons_succ]
      refine go_take 9 37 _ (.pointer (some ⟨w5.heap.size,1,none⟩)) rfl (by kernel_rfl) (by kernel_rfl) (by kernel_rfl) (by kernel_rfl) (fun _ _ _ h=>h) (Or.inl ⟨by kernel_rfl,fun u hu=>by kernel_rfl⟩) hHeld ?_
      simp only[Act.put,List.setIfInBounds_toArray,List.set_cons_zero,List.set_cons_succ]
      refine go_take 10 38 _ (.int .i64 (cy:Int)) rfl (by kernel_rfl) (by kernel_rfl) (by kernel_rfl) (by kernel_rfl) (fun _ _ _ h=>h) (Or.inl ⟨by kernel_rfl,fun u hu=>load_int (hcs u hu).2.2.2.2.2.2.2.2 (.tmp 37) (by kernel_rfl) (by kernel_rfl)⟩) hHeld ?_
      simp only[Act.put,List.setIfInBounds_toArray,List.set_cons_zero,List.set_cons_succ]
      refine go_callE 6 34 _ rfl (by kernel_rfl) (by kernel_rfl) (by kernel_rfl) 187 (.func 187) #[.tmp 29,.tmp 31,.tmp 33] #[243,3,3] (by kernel_rfl) #[] (by kernel_rfl) #[.agg #[.slice xo1 nx1 xc1,.slice yo1 ny1 yc1,.int .i64 (C:Int),.slice ko1 nx1 kc1],.int .i64 (pu:Int),.int .i64 (pv:Int)] (by kernel_rfl) (enters_of Tryz.func187 (by kernel_rfl) rfl) _ (upTo_held hp1 pu pv u2 v2 (by omega) (by omega) hu hv W3 _ (Below.dN hLw 1)) ?_
      rintro _ wd hHeld ⟨xo2,nx2,xc2,yo2,ny2,yc2,ko2,kc2,rfl,hp2,hlw⟩
      simp only[Act.put,List.setIfInBounds_toArray,List.set_cons_zero,List.set_cons_succ]
      refine go_callE 11 39 _ rfl (by kernel_rfl) (by kernel_rfl) (by kernel_rfl) 188 (.func 188) #[.tmp 34,.tmp 36,.tmp 38] #[243,3,3] (by kernel_rfl) #[] (by kernel_rfl) #[.agg #[.slice xo2 nx2 xc2,.slice yo2 ny2 yc2,.int .i64 (C:Int),.slice ko2 nx2 kc2],.int .i64 (bx:Int),.int .i64 (cy:Int)] (by kernel_rfl) (enters_of Tryz.func188 (by kernel_rfl) rfl) _ (from_held hp2 hyl bx cy a' c' q1 q3 ha'.symm hc'.symm W3 _ hlw) ?_
      rintro _ we hHeld ⟨xo3,nx3,xc3,yo3,ny3,yc3,ko3,kc3,rfl,hp3,hlw3⟩
      simp only[Act.put,List.setIfInBounds_toArray,List.set_cons_zero,List.set_cons_succ]
      refine go_callE 12 40 _ rfl (by kernel_rfl) (by kernel_rfl) (by kernel_rfl) 181 (.tmp 28) #[.tmp 39] #[243] (by kernel_rfl) #[.pointer (some ⟨Bf,0,none⟩)] (by kernel_rfl) #[.agg #[.slice xo3 nx3 xc3,.slice yo3 ny3 yc3,.int .i64 (c':Int),.slice ko3 nx3 kc3]] (by kernel_rfl) (enters_of Tryz.func181 (by kernel_rfl) rfl) _ (call_held hlw3 (ih we K' (hS1.keep hlw3) a' u2 c' v2 xo3 nx3 xc3 yo3 ny3 yc3 ko3 kc3 hp3 (by omega) KK HKK)) ?_
      rintro _ wg hHeld ⟨rfl,hS4⟩
      simp only[Act.put,List.setIfInBounds_toArray,List.set_cons_zero,List.set_cons_succ]
      refine wpAnyH_done (by kernel_rfl) ?_ _
      refine NoPanic.normal ?_
      have hQ4:=hQ1.keep hHeld (by simp;omega)
      have hE4:=hEn.keep hHeld (by simp;omega)
      have hB4:=hB1.keep hHeld (by simp;omega)
      have hO4:=holds_grown hO1 hHeld hgB
      have hG4:=hG1.trans hHeld
      clear hcs z0 z1 z2 z3 z4 z5 z6 z7 z8 hHeld hQ1 hEn hB1 hO1 hG1 hS1 hLw hlw hlw3 hp2 hp3
      obtain⟨q0,q1',q2',q3'⟩:=hQ4.cells
      obtain⟨t4,t5⟩:=hE4.cells
      go_wp2_with fail
      refine (Keep_1 KK xo1 nx1 xc1 yo1 ny1 yc1 A C ko1 kc1 wg pu pv hS4 hp1.at' (by omega) (by omega) (by omega) (by omega)).mono ?_
      rintro e wh ⟨rfl,hS5,hG5⟩
      have hQ5:=hQ4.keep hG5 (by simp;omega)
      have hE5:=hE4.keep hG5 (by simp;omega)
      have hB5:=hB4.keep hG5 (by simp;omega)
      have hO5:=holds_grown hO4 hG5 hgB
      have hG6:=hG4.trans hG5
      rw[hu,hv] at hS5
      clear q0 q1' q2' q3' t4 t5 hQ4 hE4 hB4 hO4 hG4 hG5 hS4
      obtain⟨t4,t5⟩:=hE5.cells
      obtain⟨t6,t7⟩:=hB5.cells
      have f1:=hB5.frozen
      have hl5:=hB5.lt
      have hs6:=hG6.size
      have hs5:=hS5.low.size
      have hB6:=hB5.put (pu+1) (pv+1)
      have hS6:=ls_other (ls_other hS5 (g:=w5.heap.size) (by omega) (by omega) 0 (.int .i64 ((pu+1:Nat):Int))) (g:=w5.heap.size) (by omega) (by omega) 1 (.int .i64 ((pv+1:Nat):Int))
      have hgs:wh.grownBy ((wh.setCell ⟨w5.heap.size,0,none⟩ (.int .i64 ((pu+1:Nat):Int))).setCell ⟨w5.heap.size,1,none⟩ (.int .i64 ((pv+1:Nat):Int))) (some w5.heap.size):=(grown_set wh w5.heap.size 0 _).trans (grown_set _ w5.heap.size 1 _)
      have hQ6:=hQ5.keep hgs (by simp;omega)
      have hG7:=grown_new (grown_new hG6 (B:=w5.heap.size) (by omega) 0 (.int .i64 ((pu+1:Nat):Int))) (B:=w5.heap.size) (by omega) 1 (.int .i64 ((pv+1:Nat):Int))
      have hO6:((wh.setCell ⟨w5.heap.size,0,none⟩ (.int .i64 ((pu+1:Nat):Int))).setCell ⟨w5.heap.size,1,none⟩ (.int .i64 ((pv+1:Nat):Int))).ownsRow B 249 2 (.slice (some ⟨lb,lf,none⟩) n lc) n (prcells L):=hO5.kept hgs (.inr (fun e=>hlb (by simp[Value.ownBlock] at e;exact e)))
      go_wp2
      go_roundw
      case rel=>exact⟨i+1,pu+1,pv+1,u2+1,v2+1,_,by omega,by go_num,by omega,by omega,hS6,hG7,hQ6,hB6,hO6,.inr (by omega),HG3⟩
      case measure=>simp[intOf];omega
     ·obtain rfl:i=n:=by omega
      have hbb:=HG.out.ab'
      have hdd:=HG.out.cd
      have hAa:=HG.out.Aa
      have HE:Hid (wrk K' (pcs (pmid x y) x y f a' b1 c' d1)=KF):=(by
       have:=HG.out
       rw[List.drop_of_length_le (by rw[HN.out];exact Nat.le_refl _)] at this
       exact this.end')
      have hcs:∀ u:World,wr.grownBy u (some g)→u.cell? ⟨Bf,0,none⟩=some (.func (.func 181) #[] #[.pointer (some ⟨Bf,0,none⟩)])∧u.cell? ⟨w5.heap.size,0,none⟩=some (.int .i64 (bx:Int))∧u.cell? ⟨w5.heap.size,1,none⟩=some (.int .i64 (cy:Int)):=fun u hu=>by
       have hfb:=hS.low.grown hu hS.low.size (fun k hk=>by cases hk;exact hg.1)
       obtain⟨t6,t7⟩:=(hBb.keep hu (by simp;omega)).cells
       exact⟨cell_below hfb hf0,t6,t7⟩
      go_wp2_with fail
      refine wp_region_noPanic ?_
      refine wp_region_held_drew (S:=fun u=>wr.grownBy u (some g)) (by kernel_rfl) (grown_drewN (World.grownBy.refl wr _) 1) (fun hHeld=>?_)
      refine go_take 0 55 _ (.func (.func 181) #[] #[.pointer (some ⟨Bf,0,none⟩)]) rfl (by kernel_rfl) (by kernel_rfl) (by kernel_rfl) (by kernel_rfl) (fun _ _ _ h=>h) (Or.inl ⟨by kernel_rfl,fun u hu=>load_fn (hcs u hu).1 (.tmp 1) (by kernel_rfl) (by kernel_rfl)⟩) hHeld ?_
      simp only[Act.put,List.setIfInBounds_toArray,List.set_cons_zero,List.set_cons_succ]
      refine go_take 1 56 _ (.agg #[.slice xo1 nx1 xc1,.slice yo1 ny1 yc1,.int .i64 (C:Int),.slice ko1 nx1 kc1]) rfl (by kernel_rfl) (by kernel_rfl) (by kernel_rfl) (by kernel_rfl) (fun _ _ _ h=>h) (Or.inl ⟨by kernel_rfl,fun u hu=>load_pz (hQ.keep hu (by simp;omega)) (.tmp 2) (by kernel_rfl) (by kernel_rfl)⟩) hHeld ?_
      simp only[Act.put,List.setIfInBounds_toArray,List.set_cons_zero,List.set_cons_succ]
      refine go_take 2 57 _ (.pointer (some ⟨w5.heap.size,0,none⟩)) rfl (by kernel_rfl) (by kernel_rfl) (by kernel_rfl) (by kernel_rfl) (fun _ _ _ h=>h) (Or.inl ⟨by kernel_rfl,fun u hu=>by kernel_rfl⟩) hHeld ?_
      simp only[Act.put,List.setIfInBounds_toArray,List.set_cons_zero,List.set_cons_succ]
      refine go_take 3 58 _ (.int .i64 (bx:Int)) rfl (by kernel_rfl) (by kernel_rfl) (by kernel_rfl) (by kernel_rfl) (fun _ _ _ h=>h) (Or.inl ⟨by kernel_rfl,fun u hu=>load_int (hcs u hu).2.1 (.tmp 57) (by kernel_rfl) (by kernel_rfl)⟩) hHeld ?_
      simp only[Act.put,List.setIfInBounds_toArray,List.set_cons_zero,List.set_cons_succ]
      refine go_take 4 59 _ (.pointer (some ⟨w5.heap.size,1,none⟩)) rfl (by kernel_rfl) (by kernel_rfl) (by kernel_rfl) (by kernel_rfl) (fun _ _ _ h=>h) (Or.inl ⟨by kernel_rfl,fun u hu=>by kernel_rfl⟩) hHeld ?_
      simp only[Act.put,List.setIfInBounds_toArray,List.set_cons_zero,List.set_cons_succ]
      refine go_take 5 60 _ (.int .i64 (cy:Int)) rfl (by kernel_rfl) (by kernel_rfl) (by kernel_rfl) (by kernel_rfl) (fun _ _ _ h=>h) (Or.inl ⟨by kernel_rfl,fun u hu=>load_int (hcs u hu).2.2 (.tmp 59) (by kernel_rfl) (by kernel_rfl)⟩) hHeld ?_
      simp only[Act.put,List.setIfInBounds_toArray,List.set_cons_zero,List.set_cons_succ]
      refine go_callE 6 61 _ rfl (by kernel_rfl) (by kernel_rfl) (by kernel_rfl) 188 (.func 188) #[.tmp 56,.tmp 58,.tmp 60] #[243,3,3] (by kernel_rfl) #[] (by kernel_rfl) #[.agg #[.slice xo1 nx1 xc1,.slice yo1 ny1 yc1,.int .i64 (C:Int),.slice ko1 nx1 kc1],.int .i64 (bx:Int),.int .i64 (cy:Int)] (by kernel_rfl) (enters_of Tryz.func188 (by kernel_rfl) rfl) _ (from_held hp1 hyl bx cy a' c' hbb hdd ha'.symm hc'.symm wr _ (Below.dN (Below.refl _ wr) 1)) ?_
      rintro _ we hHeld ⟨xo3,nx3,xc3,yo3,ny3,yc3,ko3,kc3,rfl,hp3,hlw3⟩
      simp only[Act.put,List.setIfInBounds_toArray,List.set_cons_zero,List.set_cons_succ]
      refine go_callE 7 62 _ rfl (by kernel_rfl) (by kernel_rfl) (by kernel_rfl) 181 (.tmp 55) #[.tmp 61] #[243] (by kernel_rfl) #[.pointer (some ⟨Bf,0,none⟩)] (by kernel_rfl) #[.agg #[.slice xo3 nx3 xc3,.slice yo3 ny3 yc3,.int .i64 (c':Int),.slice ko3 nx3 kc3]] (by kernel_rfl) (enters_of Tryz.func181 (by kernel_rfl) rfl) _ (call_held hlw3 (ih we K' (hS.keep hlw3) a' b1 c' d1 xo3 nx3 xc3 yo3 ny3 yc3 ko3 kc3 hp3 (by omega) KF HE)) ?_
      rintro _ wg hHeld ⟨rfl,hS4⟩
      simp only[Act.put,List.setIfInBounds_toArray,List.set_cons_zero,List.set_cons_succ]
      refine wpAnyH_done (by kernel_rfl) ?_ _
      refine NoPanic.normal ?_
      have hG8:=hG.trans hHeld
      go_wp2
      go_end0
      exact⟨rfl,hS4,hG8⟩
end

section
open Go.RowKit
end

section
open Go.RowKit
section
variable {W0:World} {n:Nat} {K:List Int} {B a b c d:Nat} {u:World}
end
end

section
open Go.RowKit
end

section
open Go.RowKit
attribute [local simp] low_drew
end

section
open Go.RowKit
attribute [local simp] low_drew
end

section
open Go.ChangeShapes Go.WideShapes Go.ChangeAt Go.RowKit
end

section
open Go.RowKit
def pKeep (x y:List Int):List Int:=wrk (List.replicate x.length (-1)) (pcs (pmid x y) x y (x.length+1) 0 x.length 0 y.length)
theorem pKeep_ok (x y:List Int):Okp x y 0 x.length 0 y.length (pcs (pmid x y) x y (x.length+1) 0 x.length 0 y.length):=pcs_ok (pmid_ok x y) _ 0 x.length 0 y.length (Nat.zero_le _) (Nat.le_refl _) (Nat.zero_le _) (Nat.le_refl _)
theorem pKeep_kpt (x y:List Int):Kpt x y (pKeep x y):=(pKeep_ok x y).kpt
theorem paDiff_f (x y:List Int) (vx vy:Value) (w:World) (hx:HI w vx x) (hy:HI w vy y) (hxl:x.length≤4096) (hyl:y.length≤4096) (hwx:∀ c∈x,w64 c) (hwy:∀ c∈y,w64 c) (L:List Ch) (hL:Hid (mkL (pKeep x y) y.length=L)) :
  Calls Tryz.prog 128 #[vx,vy] w fun e w'=>∃ v',e=.returned (.tuple #[v',.int .i64 0])∧HCh w' v' L∧Below w.heap.size w w':=by
 obtain⟨xo,xc,rfl⟩:=Holds.form hx
 obtain⟨yo,yc,rfl⟩:=Holds.form hy
 obtain⟨KF,hKF⟩:∃ KF,pKeep x y=KF:=⟨_,rfl⟩
 have HK:Hid (Kpt x y KF):=(by rw[← hKF];exact pKeep_kpt x y)
 have HF:Hid (wrk (List.replicate x.length (-1)) (pcs (pmid x y) x y (x.length+1) 0 x.length 0 y.length)=KF):=hKF
 rw[hKF] at hL
 have HWX:Hid (∀ c∈x,w64 c):=hwx
 have HWY:Hid (∀ c∈y,w64 c):=hwy
 clear hKF hwx hwy
 go_enter Tryz.func128,Tryz.ntmps128
 go_wp2_with fail
 have hW1:Below w.heap.size w (w.alloc (.cells #[.func (.func 181) #[] #[.pointer (some ⟨w.heap.size,0,none⟩)]] 241)):=(Below.refl _ w).alloc (Nat.le_refl _) _
 have hf0:(w.alloc (.cells #[.func (.func 181) #[] #[.pointer (some ⟨w.heap.size,0,none⟩)]] 241)).cell? ⟨w.heap.size,0,none⟩=some (.func (.func 181) #[] #[.pointer (some ⟨w.heap.size,0,none⟩)]):=by
  rw[Lib.cell_of_heap (_root_.Go.heap_alloc_new w _)]
  rfl
 refine (pDiff_f x y _ _ _ (HI.keep hx hW1 (Nat.le_refl _)) (HI.keep hy hW1 (Nat.le_refl _)) hxl hyl 181 #[.pointer (some ⟨w.heap.size,0,none⟩)] (enters_of Tryz.func181 (by kernel_rfl) rfl) KF HK (fun u g xo xc yo yc hS hp=>find_f x y _ g w.heap.size hf0 hxl hyl HWX.out HWY.out (x.length+1) u _ hS 0 x.length 0 y.length _ _ _ _ _ _ _ _ hp (by omega) KF HF) L hL).mono ?_
 rintro e w2 ⟨v2,rfl,hv2,hB2⟩
 have hB:=hW1.trans (hB2.mono (by simp))
 clear hf0
 go_wp2
 go_ret2
 exact⟨_,rfl,hv2,hB⟩
end

section
theorem pKeep_front (x y:List Int) (i:Nat) (hi:i<tf x y 0 x.length 0 y.length):(pKeep x y)[i]?=some (i:Int):=by
 have hm:(⟨(i:Int),(i:Int)⟩:Pr)∈pcs (pmid x y) x y (x.length+1) 0 x.length 0 y.length:=by
  rw[pcs,ends,List.mem_append]
  exact .inl (mem_fp.2 ⟨i,hi,by simp⟩)
 have:=(pKeep_ok x y).at hm
 simpa [pKeep] using this
theorem pKeep_nil (x y:List Int) (hx:x.length≤4096) (hy:y.length≤4096):mkL (pKeep x y) y.length=[]↔x=y:=by
 constructor
 ·exact nil_same (pKeep_kpt x y).vk (pKeep_kpt x y).len (pKeep_kpt x y).eqs hx hy
 ·rintro rfl
  have e:pKeep x x=(List.range x.length).map fun (j:Nat)=>(0:Int)+(j:Int):=by
   apply List.ext_getElem?
   intro i
   by_cases hi:i<x.length
   ·rw[pKeep_front x x i (by rw[tf_all];omega)]
    simp[hi]
   ·rw[List.getElem?_eq_none (by rw[(pKeep_kpt x x).len];omega),List.getElem?_eq_none (by simp;omega)]
  rw[e]
  exact mk_id x.length
end

section
structure Hr where
 X:Nat
 Y:Nat
 N:Nat
 R:Nat
def cnt (x:List Int) (k:Nat):Nat:=match x[k]? with
 | some c=>x.count c
 | none=>x.length
def rar (x:List Int) (i:Nat):Nat→Nat
 | 0=>x.length
 | n+1=>min (rar x i n) (cnt x (i+n))
def tl (x y:List Int) (i j:Nat):Nat:=tf x y i x.length j y.length
def hd (x y:List Int) (i j:Nat):Nat:=tb x y 0 i 0 j
theorem tl_step (x y:List Int) (i j:Nat):tl x y i j=if i<x.length∧j<y.length∧x[i]?=y[j]? then tl x y (i+1) (j+1)+1 else 0:=by unfold tl;rw[tf_eq]
theorem tl_le (x y:List Int) (i j:Nat):tl x y i j≤x.length-i∧tl x y i j≤y.length-j:=tf_le x y i x.length j y.length
theorem tl_same (x y:List Int) (i j:Nat):∀ k,k<tl x y i j→x[i+k]?=y[j+k]?:=tf_same x y i x.length j y.length
structure IsRun (x y:List Int) (r:Hr):Prop where
 hx:r.X<x.length
 hy:r.Y<y.length
 same:x[r.X]?=y[r.Y]?
 fst:¬ (0<r.X∧0<r.Y∧x[r.X-1]?=y[r.Y-1]?)
 n:r.N=tl x y r.X r.Y
 r:r.R=rar x r.X r.N
def hlt (r b:Hr):Prop:=r.R<b.R∨(r.R=b.R∧(b.N<r.N∨(r.N=b.N∧(r.X<b.X∨(r.X=b.X∧r.Y<b.Y)))))
def Bst (x y:List Int) (b:Hr):Prop:=IsRun x y b∧∀ r,IsRun x y r→r=b∨hlt b r
theorem Bst.one {x y:List Int} {a b:Hr} (ha:Bst x y a) (hb:Bst x y b):a=b:=by
 rcases ha.2 b hb.1 with h | h
 ·exact h.symm
 ·rcases hb.2 a ha.1 with h' | h'
  ·exact h'
  ·unfold hlt at h h'
   omega
theorem IsRun.pos {x y:List Int} {r:Hr} (h:IsRun x y r):0<r.N:=by
 rw[h.n,tl_step,if_pos ⟨h.hx,h.hy,h.same⟩]
 omega
theorem cnt_le (x:List Int) (k:Nat):cnt x k≤x.length:=by
 unfold cnt
 split
 ·exact List.count_le_length
 ·exact Nat.le_refl _
def pickL (better:Hr→Hr→Bool) (b:Hr) (l:List Hr):Hr:=l.foldl (fun b r=>if better r b then r else b) b
def btR (r b:Hr):Bool:=decide (r.R<b.R) || (decide (r.R=b.R) && decide (b.N<r.N))
def lex (a b:Hr):Prop:=a.X<b.X∨(a.X=b.X∧a.Y<b.Y)
theorem pickR_spec (l:List Hr):∀ (P:List Hr) (b:Hr),b∈P→(∀ r∈P,r=b∨hlt b r)→(P++l).Pairwise lex→pickL btR b l∈P++l∧∀ r∈P++l,r=pickL btR b l∨hlt (pickL btR b l) r:=by
 induction l with
 | nil=>intro P b hb h _;simp only[List.append_nil];exact⟨hb,h⟩
 | cons c l ih =>
  intro P b hb h hp
  have e:P++c::l=(P++[c])++l:=by simp
  rw[e] at hp ⊢
  have hbc:lex b c:=by
   have:=(List.pairwise_append.1 (List.pairwise_append.1 hp).1).2.2 b hb c (List.mem_singleton.2 rfl)
   exact this
  unfold pickL
  rw[List.foldl_cons]
  by_cases hb':btR c b=true
  ·rw[if_pos hb']
   refine ih (P++[c]) c (by simp) (fun r hr=>?_) hp
   rcases List.mem_append.1 hr with hr | hr
   ·right
    have h1:=h r hr
    simp[btR] at hb'
    rcases h1 with rfl | h1
    ·unfold hlt;omega
    ·unfold hlt at h1 ⊢;omega
   ·left
    simpa using hr
  ·rw[if_neg hb']
   refine ih (P++[c]) b (by simp[hb]) (fun r hr=>?_) hp
   rcases List.mem_append.1 hr with hr | hr
   ·exact h r hr
   ·right
    have e2:r=c:=by simpa using hr
    subst e2
    simp[btR] at hb'
    unfold lex at hbc
    unfold hlt
    omega
end

section
def rj (x y:List Int) (i j:Nat):List Hr:=if x[i]?=y[j]?∧¬ (0<i∧0<j∧x[i-1]?=y[j-1]?) then [⟨i,j,tl x y i j,rar x i (tl x y i j)⟩] else []
def rowR (x y:List Int) (i:Nat):List Hr:=(List.range' 0 y.length).flatMap (rj x y i)
def runs (x y:List Int):List Hr:=(List.range' 0 x.length).flatMap (rowR x y)
theorem mem_runs (x y:List Int) (r:Hr):r∈runs x y↔IsRun x y r:=by
 unfold runs rowR rj
 simp only[List.mem_flatMap,List.mem_range'_1,Nat.zero_add]
 constructor
 ·rintro⟨i,⟨_,hi⟩,j,⟨_,hj⟩,h⟩
  split at h
  ·rename_i hh
   simp at h
   subst h
   exact⟨hi,hj,hh.1,hh.2,rfl,rfl⟩
  ·simp at h
 ·intro h
  refine⟨r.X,⟨Nat.zero_le _,h.hx⟩,r.Y,⟨Nat.zero_le _,h.hy⟩,?_⟩
  rw[if_pos ⟨h.same,h.fst⟩]
  simp
  obtain⟨X,Y,N,R⟩:=r
  have h1:=h.n
  have h2:=h.r
  simp only at h1 h2 ⊢
  rw[h2,← h1]
theorem flat_lex {n:Nat} (f:Nat→List Hr) (s:Nat) (h1:∀ i,∀ r∈f i,r.X=i) (h2:∀ i,(f i).Pairwise lex):((List.range' s n).flatMap f).Pairwise lex:=by
 induction n generalizing s with
 | zero=>exact List.Pairwise.nil
 | succ n ih =>
  rw[List.range'_succ,List.flatMap_cons]
  refine List.pairwise_append.2 ⟨h2 s,ih (s+1),fun a ha b hb=>?_⟩
  rw[List.mem_flatMap] at hb
  obtain⟨i,hi,hb⟩:=hb
  rw[List.mem_range'_1] at hi
  have e1:=h1 s a ha
  have e2:=h1 i b hb
  left
  omega
theorem row_lex {n:Nat} (f:Nat→List Hr) (s X:Nat) (h1:∀ j,∀ r∈f j,r.X=X∧r.Y=j) (h2:∀ j,(f j).Pairwise lex):((List.range' s n).flatMap f).Pairwise lex:=by
 induction n generalizing s with
 | zero=>exact List.Pairwise.nil
 | succ n ih =>
  rw[List.range'_succ,List.flatMap_cons]
  refine List.pairwise_append.2 ⟨h2 s,ih (s+1),fun a ha b hb=>?_⟩
  rw[List.mem_flatMap] at hb
  obtain⟨i,hi,hb⟩:=hb
  rw[List.mem_range'_1] at hi
  have e1:=h1 s a ha
  have e2:=h1 i b hb
  right
  omega
theorem rj_at (x y:List Int) (i j:Nat):(∀ r∈rj x y i j,r.X=i∧r.Y=j)∧(rj x y i j).Pairwise lex:=by
 unfold rj
 split
 ·refine⟨fun r hr=>?_,List.pairwise_singleton _ _⟩
  simp at hr
  subst hr
  exact⟨rfl,rfl⟩
 ·exact⟨fun r hr=>by simp at hr,List.Pairwise.nil⟩
theorem runs_lex (x y:List Int):(runs x y).Pairwise lex:=by
 unfold runs
 refine flat_lex _ 0 (fun i r hr=>?_) (fun i=>row_lex _ 0 i (fun j r hr=>(rj_at x y i j).1 r hr) (fun j=>(rj_at x y i j).2))
 unfold rowR at hr
 rw[List.mem_flatMap] at hr
 obtain⟨j,_,hr⟩:=hr
 exact ((rj_at x y i j).1 r hr).1
def best (x y:List Int):Option Hr:=match runs x y with
 | []=>none
 | b::l=>some (pickL btR b l)
theorem best_some {x y:List Int} {b:Hr} (h:best x y=some b):Bst x y b:=by
 unfold best at h
 cases hr:runs x y with
 | nil=>rw[hr] at h;cases h
 | cons c l =>
  rw[hr] at h
  cases h
  have:=pickR_spec l [c] c (by simp) (fun r hr=>by simp at hr;exact .inl hr) (by have:=runs_lex x y;rw[hr] at this;exact this)
  have e:[c]++l=runs x y:=by rw[hr];rfl
  rw[e] at this
  exact⟨(mem_runs x y _).1 this.1,fun r h=>this.2 r ((mem_runs x y r).2 h)⟩
def runAt (x y:List Int) (i j R:Nat):Hr:=⟨i-hd x y i j,j-hd x y i j,hd x y i j+tl x y i j,R⟩
def skp (x:List Int) (R i t:Nat):Bool:=(List.range t).any fun s=>cnt x (i-(s+1)) == R
def pj (x y:List Int) (R i:Nat):List Nat:=if cnt x i=R then (List.range y.length).filter (fun j=>decide (y[j]?=x[i]?)) else []
def ck (x y:List Int) (R i j:Nat):List Hr:=if skp x R i (hd x y i j) then [] else [runAt x y i j R]
structure Rst (x y:List Int) (R:Nat):Prop where
 le:∀ i j,i<x.length→j<y.length→x[i]?=y[j]?→R≤cnt x i
 ex:∃ i j,i<x.length∧j<y.length∧x[i]?=y[j]?∧cnt x i=R
section
variable {x y:List Int} {R:Nat}
end
def rs (x:List Int):Nat→List Int→Nat
 | l,[]=>l
 | l,c::y=>rs x (if 0<x.count c∧(l=0∨x.count c<l) then x.count c else l) y
end

section
def hsel (x y:List Int) (rec:Nat→Nat→Nat→Nat→List Pr) (a b c d:Nat):Option Hr→List Pr
 | none=>[]
 | some r=>if 64<r.R then lp a c (kp 0 (sub x a b) (sub y c d)) else fp (a+r.X) (c+r.Y) r.N++(rec a (a+r.X) c (c+r.Y)++rec (a+r.X+r.N) b (c+r.Y+r.N) d)
def hmid (x y:List Int) (rec:Nat→Nat→Nat→Nat→List Pr) (a b c d:Nat):List Pr:=hsel x y rec a b c d (best (sub x a b) (sub y c d))
theorem run_in {x y:List Int} {a b c d:Nat} (hb:b≤x.length) (hd:d≤y.length) {r:Hr} (h:IsRun (sub x a b) (sub y c d) r):0<r.N∧a+r.X+r.N≤b∧c+r.Y+r.N≤d∧∀ i,i<r.N→x[a+r.X+i]?=y[c+r.Y+i]?:=by
 have h1:=tl_le (sub x a b) (sub y c d) r.X r.Y
 have h2:=h.n
 have h3:=h.hx
 have h4:=h.hy
 have h5:=h.pos
 rw[sub_length x a b hb] at h1 h3
 rw[sub_length y c d hd] at h1 h4
 refine⟨h5,by omega,by omega,fun i hi=>?_⟩
 have:=tl_same (sub x a b) (sub y c d) r.X r.Y i (by omega)
 rw[sub_at x a b _ (by omega),sub_at y c d _ (by omega)] at this
 rw[Nat.add_assoc,Nat.add_assoc]
 exact this
theorem hmid_ok (x y:List Int):MOk (hmid x y) x y:=by
 intro rec a b c d hab hb hcd hd hrec
 unfold hmid
 cases hr:best (sub x a b) (sub y c d) with
 | none=>exact Okp.nil _ _ _ _
 | some r =>
  rw[hsel]
  have hin:=run_in hb hd (best_some hr).1
  split
  ·exact least_ok x y a b c d (by omega) hb (by omega) hd
  ·have h1:=fp_ok (x:=x) (y:=y) (a+r.X) (c+r.Y) r.N hin.2.2.2
   have h2:=hrec a (a+r.X) c (c+r.Y) (by omega) (by omega) (by omega) (by omega)
   have h3:=hrec (a+r.X+r.N) b (c+r.Y+r.N) d (by omega) hb (by omega) hd
   have h23:=h2.cat h3 (.inl ⟨by omega,by omega⟩) (A:=a) (B:=b) (C:=c) (D:=d) ⟨by omega,by omega⟩ ⟨by omega,by omega⟩ ⟨by omega,by omega⟩ ⟨by omega,by omega⟩
   refine⟨fun p hp=>?_,fun p hp q hq=>?_,fun p hp=>?_⟩
   ·rcases List.mem_append.1 hp with hp | hp
    ·exact (h1.mono (by omega) (by omega) (by omega) (by omega):Okp x y a b c d _).wn p hp
    ·exact h23.wn p hp
   ·have hx:∀ p∈fp (a+r.X) (c+r.Y) r.N,∀ q∈rec a (a+r.X) c (c+r.Y)++rec (a+r.X+r.N) b (c+r.Y+r.N) d,ab q p∨ab p q:=by
     intro p hp q hq
     have e1:=h1.wn p hp
     unfold Wn at e1
     rcases List.mem_append.1 hq with hq | hq
     ·have e2:=h2.wn q hq
      unfold Wn at e2
      exact .inr ⟨by omega,by omega⟩
     ·have e2:=h3.wn q hq
      unfold Wn at e2
      exact .inl ⟨by omega,by omega⟩
    rcases List.mem_append.1 hp with hp | hp<;>rcases List.mem_append.1 hq with hq | hq
    ·exact h1.ris p hp q hq
    ·exact .inr (hx p hp q hq)
    ·exact .inr ((hx q hq p hp).symm)
    ·exact h23.ris p hp q hq
   ·rcases List.mem_append.1 hp with hp | hp
    ·exact h1.eqs p hp
    ·exact h23.eqs p hp
def hKeep (x y:List Int):List Int:=wrk (List.replicate x.length (-1)) (pcs (hmid x y) x y (x.length+1) 0 x.length 0 y.length)
theorem hKeep_ok (x y:List Int):Okp x y 0 x.length 0 y.length (pcs (hmid x y) x y (x.length+1) 0 x.length 0 y.length):=pcs_ok (hmid_ok x y) _ 0 x.length 0 y.length (Nat.zero_le _) (Nat.le_refl _) (Nat.zero_le _) (Nat.le_refl _)
theorem hKeep_kpt (x y:List Int):Kpt x y (hKeep x y):=(hKeep_ok x y).kpt
theorem hKeep_front (x y:List Int) (i:Nat) (hi:i<tf x y 0 x.length 0 y.length):(hKeep x y)[i]?=some (i:Int):=by
 have hm:(⟨(i:Int),(i:Int)⟩:Pr)∈pcs (hmid x y) x y (x.length+1) 0 x.length 0 y.length:=by
  rw[pcs,ends,List.mem_append]
  exact .inl (mem_fp.2 ⟨i,hi,by simp⟩)
 have:=(hKeep_ok x y).at hm
 simpa [hKeep] using this
theorem hKeep_nil (x y:List Int) (hx:x.length≤4096) (hy:y.length≤4096):mkL (hKeep x y) y.length=[]↔x=y:=by
 constructor
 ·exact nil_same (hKeep_kpt x y).vk (hKeep_kpt x y).len (hKeep_kpt x y).eqs hx hy
 ·rintro rfl
  have e:hKeep x x=(List.range x.length).map fun (j:Nat)=>(0:Int)+(j:Int):=by
   apply List.ext_getElem?
   intro i
   by_cases hi:i<x.length
   ·rw[hKeep_front x x i (by rw[tf_all];omega)]
    simp[hi]
   ·rw[List.getElem?_eq_none (by rw[(hKeep_kpt x x).len];omega),List.getElem?_eq_none (by simp;omega)]
  rw[e]
  exact mk_id x.length
end

section
def gdn (c:Int) (y:List Int) (nx:Nat) (far:Int):Option Nat:=match (y.drop nx).findIdx? (fun z=>z == c) with
 | some k=>if (k:Int)<far then some (nx+k) else none
 | none=>none
def gdy (y:List Int) (far:Int):Nat→List Int→List Int
 | _,[]=>[]
 | nx,c::x=>match gdn c y nx far with
  | some j=>(j:Int)::gdy y far (j+1) x
  | none=>-1::gdy y far nx x
theorem gdn_some {c:Int} {y:List Int} {nx j:Nat} {far:Int} (h:gdn c y nx far=some j):nx≤j∧j<y.length∧((j-nx:Nat):Int)<far∧y[j]?=some c∧∀ i,nx≤i→i<j→y[i]?≠some c:=by
 unfold gdn at h
 split at h
 ·rename_i k hk
  split at h
  ·rename_i hf
   obtain rfl:=Option.some.inj h
   obtain⟨h1,h2,h3⟩:=List.findIdx?_eq_some_iff_getElem.1 hk
   rw[List.length_drop] at h1
   rw[List.getElem_drop] at h2
   refine⟨by omega,by omega,by rw[show nx+k-nx=k by omega];exact hf,?_,fun i hi hj e=>?_⟩
   ·rw[List.getElem?_eq_getElem (by omega)]
    rw[beq_iff_eq.1 h2]
   ·have h4:=h3 (i-nx) (by omega)
    rw[List.getElem_drop] at h4
    rw[List.getElem?_eq_getElem (by omega)] at e
    have e2:y[nx+(i-nx)]'(by omega)=c:=by
     rw[← Option.some.inj e]
     congr 1
     omega
    rw[e2] at h4
    simp at h4
  ·cases h
 ·cases h
theorem gdy_length (y:List Int) (far:Int) (x:List Int):∀ nx,(gdy y far nx x).length=x.length:=by
 induction x with
 | nil=>intro nx;rfl
 | cons c x ih =>
  intro nx
  rw[gdy]
  split
  ·rw[List.length_cons,ih,List.length_cons]
  ·rw[List.length_cons,ih,List.length_cons]
theorem gdy_vk (y:List Int) (far:Int) (x:List Int):∀ nx:Nat,Vk nx y.length (gdy y far nx x):=by
 induction x with
 | nil=>intro nx;exact trivial
 | cons c x ih =>
  intro nx
  rw[gdy]
  split
  ·rename_i j hj
   obtain⟨h1,h2,_⟩:=gdn_some hj
   refine .inr ⟨by omega,by omega,by omega,?_⟩
   have:=ih (j+1)
   rw[show ((j+1:Nat):Int)=(j:Int)+1 by omega] at this
   exact this
  ·exact .inl ⟨rfl,ih nx⟩
theorem gdy_same (y:List Int) (far:Int) (x:List Int):∀ (nx i q:Nat),(gdy y far nx x)[i]?=some (q:Int)→x[i]?=y[q]?:=by
 induction x with
 | nil=>intro nx i q h;simp[gdy] at h
 | cons c x ih =>
  intro nx i q h
  rw[gdy] at h
  split at h
  ·rename_i j hj
   cases i with
   | zero =>
    have e:(j:Int)=(q:Int):=by simpa using h
    obtain rfl:j=q:=by omega
    rw[(gdn_some hj).2.2.2.1]
    rfl
   | succ i=>exact ih (j+1) i q (by simpa using h)
  ·cases i with
   | zero=>simp at h
   | succ i=>exact ih nx i q (by simpa using h)
def smid (B:Int) (x y:List Int) (_:Nat→Nat→Nat→Nat→List Pr) (a b c d:Nat):List Pr :=
 if ((b-a:Nat):Int) * ((d-c:Nat):Int)≤max 0 B then lp a c (kp 0 (sub x a b) (sub y c d)) else lp a c (gdy (sub y c d) 64 0 (sub x a b))
theorem gdy_ok (x y:List Int) (far:Int) (a b c d:Nat) (hab:a≤b) (hb:b≤x.length) (hcd:c≤d) (hd:d≤y.length):Okp x y a b c d (lp a c (gdy (sub y c d) far 0 (sub x a b))):=by
 have h1:=lp_ok (x:=x) (y:=y) (gdy (sub y c d) far 0 (sub x a b)) a c 0 (d-c) (by
  have:=gdy_vk (sub y c d) far (sub x a b) 0
  rw[sub_length y _ _ (by omega)] at this
  exact this) (fun i q hq=>by
   have hl:i<(sub x a b).length:=by
    have:=(List.getElem?_eq_some_iff.1 hq).1
    rw[gdy_length] at this
    exact this
   have h2:=gdy_same (sub y c d) far (sub x a b) 0 i q hq
   have h3:=List.getElem?_eq_getElem hl
   rw[(sub_some h3).2,(sub_some (h2.symm.trans h3)).2])
 rw[gdy_length,sub_length x _ _ (by omega)] at h1
 exact h1.mono (Nat.le_refl _) (by omega) (by omega) (by omega)
theorem smid_ok (B:Int) (x y:List Int):MOk (smid B x y) x y:=by
 intro rec a b c d hab hb hcd hd _
 unfold smid
 split
 ·exact least_ok x y a b c d (by omega) hb (by omega) hd
 ·exact gdy_ok x y 64 a b c d (by omega) hb (by omega) hd
def sKeep (B:Int) (x y:List Int):List Int:=wrk (List.replicate x.length (-1)) (pcs (smid B x y) x y (x.length+1) 0 x.length 0 y.length)
theorem sKeep_ok (B:Int) (x y:List Int):Okp x y 0 x.length 0 y.length (pcs (smid B x y) x y (x.length+1) 0 x.length 0 y.length):=pcs_ok (smid_ok B x y) _ 0 x.length 0 y.length (Nat.zero_le _) (Nat.le_refl _) (Nat.zero_le _) (Nat.le_refl _)
theorem sKeep_kpt (B:Int) (x y:List Int):Kpt x y (sKeep B x y):=(sKeep_ok B x y).kpt
theorem sKeep_front (B:Int) (x y:List Int) (i:Nat) (hi:i<tf x y 0 x.length 0 y.length):(sKeep B x y)[i]?=some (i:Int):=by
 have hm:(⟨(i:Int),(i:Int)⟩:Pr)∈pcs (smid B x y) x y (x.length+1) 0 x.length 0 y.length:=by
  rw[pcs,ends,List.mem_append]
  exact .inl (mem_fp.2 ⟨i,hi,by simp⟩)
 have:=(sKeep_ok B x y).at hm
 simpa [sKeep] using this
theorem sKeep_nil (B:Int) (x y:List Int) (hx:x.length≤4096) (hy:y.length≤4096):mkL (sKeep B x y) y.length=[]↔x=y:=by
 constructor
 ·exact nil_same (sKeep_kpt B x y).vk (sKeep_kpt B x y).len (sKeep_kpt B x y).eqs hx hy
 ·rintro rfl
  have e:sKeep B x x=(List.range x.length).map fun (j:Nat)=>(0:Int)+(j:Int):=by
   apply List.ext_getElem?
   intro i
   by_cases hi:i<x.length
   ·rw[sKeep_front B x x i (by rw[tf_all];omega)]
    simp[hi]
   ·rw[List.getElem?_eq_none (by rw[(sKeep_kpt B x x).len];omega),List.getElem?_eq_none (by simp;omega)]
  rw[e]
  exact mk_id x.length
end

section
open Go.RowKit
end

section
open Go.RowKit Go.Maps
structure Cnt {H:Type} (D:DataW H) (t:List Int):Prop where
 tidy:Tidy D
 at_:∀ c,D.atKey (.int .i64 c) (.lit (.int .i64 0))=.lit (.int .i64 (t.count c:Nat))
theorem Cnt.nil {H:Type}:Cnt (H:=H) (.map []) []:=⟨tidy_empty,fun _=>by rw[atKey_of_not_has rfl];rfl⟩
def Mc (t:List Int) (B:Nat) (w:World):Prop:=∃ D:DataW Unit,w.ownsMap Tryz.prog 3 (plainElem Tryz.prog 3) B t.length D∧Cnt D t
section
variable {t:List Int} {B:Nat} {w w':World}
theorem Mc.lt (h:Mc t B w):B<w.heap.size:=by obtain⟨D,hm,_⟩:=h;exact hm.lt
theorem Mc.keep (h:Mc t B w) (hb:w'.heap[B]?=w.heap[B]?):Mc t B w':=by
 obtain⟨D,⟨es,clock,hm,r⟩,hd⟩:=h
 exact⟨D,⟨es,clock,hb.trans hm,r⟩,hd⟩
theorem Mc.low (h:Mc t B w) (hb:Below w.heap.size w w'):Mc t B w':=h.keep (hb.block B h.lt)
end
end

section
open Go.RowKit Go.Maps
def pl (x:List Int) (R:Nat) (t:List Int) (c:Int):List Nat:=if x.count c=R then (List.range t.length).filter (fun j=>decide (t[j]?=some c)) else []
theorem pl_nil (x:List Int) (R:Nat) (c:Int):pl x R [] c=[]:=by simp[pl]
def nI (l:List Nat):List Int:=l.map fun (n:Nat)=>(n:Int)
structure Gd (D:DataW Unit) (f:Int→List Nat):Prop where
 tidy:IsMap D
 at_:∀ c,D.atKey (.int .i64 c) .nil=if f c=[] then .nil else .slice (ChangeShapes.lits .i64 (nI (f c))) []
theorem Gd.nil (x:List Int) (R:Nat):Gd (.map []) (pl x R []):=⟨isMap_empty,fun c=>by rw[atKey_of_not_has rfl,if_pos (pl_nil x R c)]⟩
def Gm (x:List Int) (R:Nat) (t:List Int) (b base:Nat) (w:World):Prop:=∃ m D,m≤t.length∧w.ownsGroups Tryz.prog 3 base 3 .i64 b m D∧Gd D (pl x R t)
theorem Gm.low {x:List Int} {R:Nat} {t:List Int} {b base:Nat} {w w':World} (h:Gm x R t b base w) (hb:Below w.heap.size w w'):Gm x R t b base w':=by
 obtain⟨m,D,h1,h2,h3⟩:=h
 exact⟨m,D,h1,h2.kept (low_grown hb none) (by simp) (fun _ _ _ e _=>by cases e.val.ownBlock<;>simp),h3⟩
def Prt (x y:List Int) (R base k:Nat) (vs:List Value) (w:World):Prop:=vs.length=x.length∧∀ i,i<k→∃ v,vs[i]?=some v∧w.ownsInts base 3 .i64 v (nI (pj x y R i))
theorem Prt.low {x y:List Int} {R base k:Nat} {vs:List Value} {w w':World} (h:Prt x y R base k vs w) (hb:Below w.heap.size w w'):Prt x y R base k vs w' :=
 ⟨h.1,fun i hi=>by obtain⟨v,h1,h2⟩:=h.2 i hi;exact⟨v,h1,h2.kept (low_grown hb none) (by cases v.ownBlock<;>simp)⟩⟩
end

section
open Go.RowKit
end

section
open Go.RowKit
def Hbx (u:World) (B:Nat) (r:Hr):Prop:=u.heap[B]?=some (.cells #[.int .i64 (r.X:Int),.int .i64 (r.Y:Int),.int .i64 (r.N:Int),.int .i64 (r.R:Int)] 286 (0,0))
section
variable {u u':World} {B:Nat} {r:Hr}
theorem Hbx.cells (h:Hbx u B r):u.cell? ⟨B,0,none⟩=some (.int .i64 (r.X:Int))∧u.cell? ⟨B,1,none⟩=some (.int .i64 (r.Y:Int))∧u.cell? ⟨B,2,none⟩=some (.int .i64 (r.N:Int))∧u.cell? ⟨B,3,none⟩=some (.int .i64 (r.R:Int)):=by
 refine⟨?_,?_,?_,?_⟩<;>rw[Lib.cell_of_heap h]<;>rfl
theorem Hbx.frozen (h:Hbx u B r) (j:Nat):u.frozen? ⟨B,j,none⟩=false:=by
 unfold World.frozen?
 rw[h]
 rfl
theorem Hbx.lt (h:Hbx u B r):B<u.heap.size:=(Array.getElem?_eq_some_iff.1 h).1
theorem Hbx.keep (h:Hbx u B r) {g:Option Nat} (hg:u.grownBy u' g) (hr:some B≠g):Hbx u' B r:=(hg.block B h.lt hr).trans h
theorem Hbx.low (h:Hbx u B r) (hg:Below u.heap.size u u'):Hbx u' B r:=(hg.block B h.lt).trans h
theorem Hbx.new (w:World) (r:Hr):Hbx (w.alloc (.cells #[.int .i64 (r.X:Int),.int .i64 (r.Y:Int),.int .i64 (r.N:Int),.int .i64 (r.R:Int)] 286)) w.heap.size r:=_root_.Go.heap_alloc_new w _
end
end

section
open Go.RowKit
end

section
open Go.RowKit
def Sx (Wq:World) (Br X Y N R:Nat) (u:World):Prop:=Low Wq u∨(Hbx u Br ⟨X,Y,N,R⟩∧Wq.grownBy u (some Br))
theorem Sx.x {Wq:World} {Br X Y N R:Nat} {u:World} (h:Sx Wq Br X Y N R u) (hb:Hbx Wq Br ⟨X,Y,0,R⟩):u.cell? ⟨Br,0,none⟩=some (.int .i64 (X:Int)):=by
 rcases h with h | h
 ·exact (hb.low h).cells.1
 ·exact h.1.cells.1
end

section
open Go.RowKit
end

section
open Go.RowKit
def hrC (r:Hr):List Value:=[.int .i64 (r.X:Int),.int .i64 (r.Y:Int),.int .i64 (r.N:Int),.int .i64 (r.R:Int)]
def hrcells (l:List Hr):List Value:=l.flatMap hrC
theorem hrcells_length (l:List Hr):(hrcells l).length=l.length * 4:=by
 induction l with
 | nil=>rfl
 | cons c l ih=>simp only[hrcells,List.flatMap_cons,List.length_append,List.length_cons] at ih ⊢;rw[ih];simp[hrC];omega
theorem hrcells_at (l:List Hr) (k:Nat) (hk:k<l.length):(hrcells l)[4 * k]?=some (.int .i64 (l[k].X:Int))∧(hrcells l)[4 * k+1]?=some (.int .i64 (l[k].Y:Int))∧(hrcells l)[4 * k+2]?=some (.int .i64 (l[k].N:Int))∧(hrcells l)[4 * k+3]?=some (.int .i64 (l[k].R:Int)):=by
 induction l generalizing k with
 | nil=>simp at hk
 | cons c l ih =>
  cases k with
  | zero=>simp[hrcells,hrC]
  | succ k =>
   have h:=ih k (by simpa using hk)
   have e:∀ i,(hrcells (c::l))[4 * (k+1)+i]?=(hrcells l)[4 * k+i]?:=by
    intro i
    have:hrcells (c::l)=hrC c++hrcells l:=rfl
    rw[this,List.getElem?_append_right (by simp[hrC];omega)]
    congr 1
    simp[hrC];omega
   simp only[List.getElem_cons_succ]
   refine⟨by rw[← (h).1];exact e 0,by rw[← h.2.1];exact e 1,by rw[← h.2.2.1];exact e 2,by rw[← h.2.2.2];exact e 3⟩
def HHr (w:World) (v:Value) (l:List Hr):Prop:=Holds w v l.length (hrcells l)
theorem HHr.keep {w w':World} {v:Value} {l:List Hr} (h:HHr w v l) {N:Nat} (hk:Below N w w') (hN:w.heap.size≤N):HHr w' v l:=Holds.keep h fun k hk'=>hk.block k (by omega)
theorem HHr.at {w:World} {ao:Option Addr} {n c:Nat} {l:List Hr} (h:HHr w (.slice ao n c) l) (h0:0<l.length):∃ b off,ao=some ⟨b,off,none⟩∧b<w.heap.size ∧
  ∀ k (hk:k<l.length),w.cell? ⟨b,off+k * 4,none⟩=some (.int .i64 (l[k].X:Int))∧w.cell? ⟨b,off+k * 4+1,none⟩=some (.int .i64 (l[k].Y:Int))∧w.cell? ⟨b,off+k * 4+2,none⟩=some (.int .i64 (l[k].N:Int))∧w.cell? ⟨b,off+k * 4+3,none⟩=some (.int .i64 (l[k].R:Int)):=by
 obtain⟨b,off,c',hv,hb,hc⟩:=Holds.at h (by rw[hrcells_length];omega)
 cases hv
 refine⟨b,off,rfl,hb,fun k hk=>?_⟩
 obtain⟨h0,h1,h2,h3⟩:=hrcells_at l k hk
 have hlen:=hrcells_length l
 have e:k * 4=4 * k:=by omega
 rw[e]
 refine⟨?_,?_,?_,?_⟩
 ·have:=hc (4 * k) (by omega)
  rw[← h0,this,List.getElem?_eq_getElem]
 ·have:=hc (4 * k+1) (by omega)
  rw[← h1,Nat.add_assoc,this,List.getElem?_eq_getElem]
 ·have:=hc (4 * k+2) (by omega)
  rw[← h2,Nat.add_assoc,this,List.getElem?_eq_getElem]
 ·have:=hc (4 * k+3) (by omega)
  rw[← h3,Nat.add_assoc,this,List.getElem?_eq_getElem]
section
variable {u u':World} {B:Nat} {r:Hr}
end
end

section
open Go.RowKit
attribute [local simp] low_drew
end

section
open Go.RowKit
end

section
open Go.RowKit
attribute [local simp] low_drew
end

section
open Go.RowKit
end

section
open Go.RowKit
end

section
open Go.RowKit
end

end Go.Proofs.YtgiojkhmkeocfaaGreatDoor

/- Greedy from the last place down, as the reference goes: plain. -/
namespace Go.Proofs.YtgiojkhmkeocfaaGreatDoor
end Go.Proofs.YtgiojkhmkeocfaaGreatDoor

namespace Go.Proofs.YtgiojkhmkeocfaaGreatDoor

section
open Go.RowKit
end

section
open Go.RowKit
attribute [local simp] low_drew
end

end Go.Proofs.YtgiojkhmkeocfaaGreatDoor
