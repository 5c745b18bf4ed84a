/-
  Texts that belong together, joined: SpFd, SpGr, SpRg, SpDf, HuC5.
-/
import Derived.Test.YtgiojkhmkeocfaaGreatDoorNoalBA6
import Derived.Test.YtgiojkhmkeocfaaGreatDoorNoalBA10
import Derived.Test.YtgiojkhmkeocfaaGreatDoorNoalBA9
import Derived.Test.YtgiojkhmkeocfaaGreatDoorNoalBA5
import Derived.Test.YtgiojkhmkeocfaaGreatDoorNoalBA3
import Derived.Test.YtgiojkhmkeocfaaGreatDoorNoalBA7
import Derived.Test.YtgiojkhmkeocfaaGreatDoorNoalBA4

set_option maxHeartbeats 16000000
set_option maxRecDepth 100000
/- speedy.Diff's closure, and Diff, walked. -/
namespace Go.Proofs.YtgiojkhmkeocfaaGreatDoor
open Go.RowKit
theorem lp_none (Z:List Int):∀ (a c:Int),(∀ z∈Z,z=-1)→lp a c Z=[]:=by
 induction Z with
 | nil=>intro a c _;rfl
 | cons z Z ih =>
  intro a c h
  rw[lp,if_pos (h z List.mem_cons_self),ih (a+1) c (fun q hq=>h q (List.mem_cons_of_mem _ hq))]
  rfl
theorem lp_empty (a c:Int) (X Y:List Int) (h:X.length=0∨Y.length=0):lp a c (kp 0 X Y)=[]:=by
 refine lp_none _ a c fun z hz=>?_
 have hV:=kp_vk 0 X Y (Int.le_refl _)
 rw[Int.zero_add] at hV
 rcases h with h | h
 ·rw[List.eq_nil_of_length_eq_zero h] at hz
  have:=kp_length 0 [] Y
  rw[List.eq_nil_of_length_eq_zero this] at hz
  cases hz
 ·have h1:=hV.each (Int.le_refl _) z hz
  have h2:=hV.lt z hz
  omega
theorem smid_cut (B:Int) (x y:List Int) (rec:Nat→Nat→Nat→Nat→List Pr) (A b C d:Nat) (hA:A≤b) (hC:C≤d) (hb:b≤x.length) (hd:d≤y.length):(if A<b∧C<d then smid B x y rec A b C d else [])=if ((b-A:Nat):Int) * ((d-C:Nat):Int)≤max 0 B then lp A C (kp 0 (sub x A b) (sub y C d)) else lp A C (gdy (sub y C d) 64 0 (sub x A b)):=by
 by_cases h:A<b∧C<d
 ·rw[if_pos h]
  rfl
 ·have h0:((b-A:Nat):Int) * ((d-C:Nat):Int)=0:=by
   rcases Nat.lt_or_ge A b with h1 | h1
   ·rw[show d-C=0 by omega]
    simp
   ·rw[show b-A=0 by omega]
    simp
  rw[if_neg h,if_pos (by rw[h0];omega),lp_empty]
  rw[sub_length x A b hb,sub_length y C d hd]
  omega
theorem load_row {u:World} {a:Addr} {ao:Option Addr} {n c:Nat} (h:u.cell? a=some (.slice ao n c)) {op:Oper} (x:Operand) (ho:op.op=.load 71 x) {ev:Operand→Value} (hx:ev x=.pointer (some a)) :
  (execOp ev op).run Tryz.prog u=.ok (.value (.slice ao n c)) u:=by
 simp only[execOp,ho,hx]
 go_simp
theorem greedy_held {X Y:List Int} {xo:Option Addr} {nx xc:Nat} {yo:Option Addr} {ny yc:Nat} {u:World} {G:List Int} {B:Nat} {v0 v1 v2 v3:Value} (hl:X.length≤1048576∧Y.length≤1048576) (hX:X.length=nx) (hx:HI u (.slice xo nx xc) X) (hy:HI u (.slice yo ny yc) Y) (hG:Hid (gdy Y 64 0 X=G)) (hQ:Qbx u B v0 v1 v2 v3) :
  Calls Tryz.prog 194 (#[.slice xo nx xc,.slice yo ny yc,.int .i64 64]++#[]) u fun e w'=>∃ v,e=.returned v∧Qbx w' B v0 v1 v2 v3∧∃ zo zc,v=.slice zo nx zc∧w'.ownsRow u.heap.size 3 1 (.slice zo nx zc) nx (icells G)∧Below u.heap.size u w':=by
 subst hX
 refine (Greedy_f X Y 64 _ _ u hx hy hl.1 hl.2 G hG).mono ?_
 rintro e w' ⟨zo,zc,rfl,h1,h2⟩
 exact⟨_,rfl,hQ.low h2,zo,zc,rfl,h1,h2⟩
theorem keepAt_held {x:List Int} {W0 u:World} {g B:Nat} {K Z:List Int} {a c:Nat} {xo:Option Addr} {nx xc:Nat} {yo:Option Addr} {ny yc:Nat} {ko:Option Addr} {kc:Nat} (hat:0<nx→ko=some ⟨g,a,none⟩) (hnx:a+nx≤x.length) (hny:c+ny≤4096) (hxl:x.length≤4096) {zo:Option Addr} {zc:Nat} (hZl:Z.length=nx) (hO:u.ownsRow B 3 1 (.slice zo nx zc) nx (icells Z)) (hgB:g<B) (hV:Vk 0 ny Z) (hS:Ls W0 g x.length K u) {KF:List Int} (hKF:Hid (wrk K (lp a c Z)=KF)) {Q:Nat} {v0 v1 v2 v3:Value} (hQ:Qbx u Q v0 v1 v2 v3) (hg:g≠Q) :
  Calls Tryz.prog 193 (#[.agg #[.slice xo nx xc,.slice yo ny yc,.int .i64 (c:Int),.slice ko nx kc],.slice zo nx zc]++#[]) u fun e w'=>∃ v,e=.returned v∧Qbx w' Q v0 v1 v2 v3∧v=.tuple #[]∧Ls W0 g x.length KF w'∧u.grownBy w' (some g):=by
 refine (KeepAt_f x W0 u g B K Z a c xo nx xc yo ny yc ko kc hat hnx hny hxl zo zc hZl hO hgB hV hS KF hKF).mono ?_
 rintro e w' ⟨rfl,h1,h2⟩
 exact⟨_,rfl,hQ.keep h2 (fun q=>hg (Option.some.inj q).symm),rfl,h1,h2⟩
theorem sfind_f (x y:List Int) (W0:World) (g Bf:Nat) (bound:Int) (hf0:W0.cell? ⟨Bf,0,none⟩=some (.int .i64 bound)) (hxl:x.length≤4096) (hyl:y.length≤4096) (f:Nat) (w:World) (K:List Int) (hS:Ls W0 g x.length K w) (a b c d:Nat) (xo:Option Addr) (nx xc:Nat) (yo:Option Addr) (ny yc:Nat) (ko:Option Addr) (kc:Nat) (hp:Pz W0 g x y a b c d xo nx xc yo ny yc ko kc) (KF:List Int) (hKF:Hid (wrk K (pcs (smid bound x y) x y (f+1) a b c d)=KF)) :
  Calls Tryz.prog 192 #[.agg #[.slice xo nx xc,.slice yo ny yc,.int .i64 (c:Int),.slice ko nx kc],.pointer (some ⟨Bf,0,none⟩)] w fun e w'=>e=.returned (.tuple #[])∧Ls W0 g x.length KF w'∧w.grownBy w' (some g):=by
 have hg:=hS.lt
 have HKF:Hid (∀ k m,k=tf x y a b c d→m=tb x y (a+k) b (c+k) d→wrk (wrk K (fp a c k++bp b d m)) (if a+k<b-m∧c+k<d-m then smid bound x y (pcs (smid bound x y) x y f) (a+k) (b-m) (c+k) (d-m) else [])=KF):=(by
  intro k m hk hm
  rw[← hKF.out,pcs,ends,← hk,← hm,wrk_append,wrk_append,wrk_append])
 have hQ0:=Qbx.new w (.slice xo nx xc) (.slice yo ny yc) (.int .i64 c) (.slice ko nx kc)
 have hB0:=(Below.refl w.heap.size w).alloc (Nat.le_refl _) (.cells #[.slice xo nx xc,.slice yo ny yc,.int .i64 c,.slice ko nx kc] 243)
 clear hKF
 go_enter Tryz.func192,Tryz.ntmps192
 go_wp2_with fail
 refine (KeepEnds_f x y W0 _ g K a b c d xo nx xc yo ny yc ko kc hp hxl hyl (hS.keep hB0)).mono ?_
 rintro e w1 ⟨k,m,xo1,nx1,xc1,yo1,ny1,yc1,ko1,kc1,hk,hm,rfl,hp1,hS1,hG1⟩
 have HK2:=HKF.out k m hk hm
 have hkl:=tf_le x y a b c d
 have hml:=tb_le x y (a+k) b (c+k) d
 rw[← hk] at hkl
 rw[← hm] at hml
 have hQ1:=hQ0.keep hG1 (by simp;omega)
 have hG1':w.grownBy w1 (some g):=(low_grown hB0 _).trans hG1
 clear hk hm HKF hS hB0 hQ0 hG1
 obtain⟨A,hA⟩:∃ A,a+k=A:=⟨_,rfl⟩
 obtain⟨C,hC⟩:∃ C,c+k=C:=⟨_,rfl⟩
 obtain⟨b1,hb1⟩:∃ B,b-m=B:=⟨_,rfl⟩
 obtain⟨d1,hd1⟩:∃ D,d-m=D:=⟨_,rfl⟩
 obtain⟨K1,hK1⟩:∃ K1,wrk K (fp a c k++bp b d m)=K1:=⟨_,rfl⟩
 rw[hK1] at hS1 HK2
 rw[hA,hC,hb1,hd1] at HK2 hp1
 rw[hC]
 clear hA hC hb1 hd1 hK1 hkl hml hp
 have hAb:=hp1.eb
 have hCd:=hp1.ed
 have hbx:=hp1.bx
 have hdy:=hp1.dy
 rw[smid_cut bound x y _ A b1 C d1 (by omega) (by omega) hbx hdy] at HK2
 obtain⟨P,hP⟩:∃ P,nx1 * ny1=P:=⟨_,rfl⟩
 obtain⟨M,hM⟩:∃ M,max 0 bound=M:=⟨_,rfl⟩
 have hPi:(nx1:Int) * (ny1:Int)=(P:Int):=by rw[← hP];simp
 have hPb:P≤4096 * 4096:=by rw[← hP];exact Nat.mul_le_mul (by omega) (by omega)
 have HK3:Hid (wrk K1 (if (P:Int)≤M then lp A C (kp 0 (sub x A b1) (sub y C d1)) else lp A C (gdy (sub y C d1) 64 0 (sub x A b1)))=KF):=(by
  show _=_
  rw[show b1-A=nx1 by omega,show d1-C=ny1 by omega,hPi,hM] at HK2
  exact HK2)
 have hmax:∀ w:World,(Builtin.max_ #[3,3] 3 #[.int .i64 bound,.int .i64 0]).run Tryz.prog w=.ok (.int .i64 M) w:=by
  intro w
  rw[run_max_int2,← hM]
  congr 2
  split<;>omega
 clear HK2 hP
 obtain⟨c0,c1,c2,c3⟩:=hQ1.cells
 have f0:=hQ1.frozen
 have hQ2:=hQ1.put (.slice xo1 nx1 xc1) (.slice yo1 ny1 yc1) (.int .i64 (C:Int)) (.slice ko1 nx1 kc1)
 have hgw:=hS1.low.size
 have hgl:=hS1.lt
 have hS2:=ls_other (ls_other (ls_other (ls_other hS1 (g:=w.heap.size) (by omega) (by omega) 0 (.slice xo1 nx1 xc1)) (g:=w.heap.size) (by omega) (by omega) 1 (.slice yo1 ny1 yc1)) (g:=w.heap.size) (by omega) (by omega) 2 (.int .i64 (C:Int))) (g:=w.heap.size) (by omega) (by omega) 3 (.slice ko1 nx1 kc1)
 have hG2:=grown_new (grown_new (grown_new (grown_new hG1' (B:=w.heap.size) (by omega) 0 (.slice xo1 nx1 xc1)) (B:=w.heap.size) (by omega) 1 (.slice yo1 ny1 yc1)) (B:=w.heap.size) (by omega) 2 (.int .i64 (C:Int))) (B:=w.heap.size) (by omega) 3 (.slice ko1 nx1 kc1)
 obtain⟨W2,hW2⟩:∃ W2,(((w1.setCell ⟨w.heap.size,0,none⟩ (.slice xo1 nx1 xc1)).setCell ⟨w.heap.size,1,none⟩ (.slice yo1 ny1 yc1)).setCell ⟨w.heap.size,2,none⟩ (.int .i64 (C:Int))).setCell ⟨w.heap.size,3,none⟩ (.slice ko1 nx1 kc1)=W2:=⟨_,rfl⟩
 rw[hW2] at hQ2 hS2 hG2
 have hbd:W2.cell? ⟨Bf,0,none⟩=some (.int .i64 bound):=by
  have:Bf<W0.heap.size:=by
   rcases Nat.lt_or_ge Bf W0.heap.size with h | h
   ·exact h
   ·unfold World.cell? at hf0
    rw[Array.getElem?_eq_none h] at hf0
    cases hf0
  rw[World.cell?_of_block (w:=W0) (hS2.low.block Bf this)]
  exact hf0
 unfold pzV
 obtain⟨q0,q1,q2,q3⟩:=hQ2.cells
 by_cases hle:(P:Int)≤M
 ·have HK4:Hid (wrk K1 (lp A C (kp 0 (sub x A b1) (sub y C d1)))=KF):=(by
   show _=_
   have:=HK3.out
   rw[if_pos hle] at this
   exact this)
  clear HK3
  go_wp2_with fail
  clear hW2
  refine (KeepMost_f x y W0 W2 g K1 A b1 C d1 xo1 nx1 xc1 yo1 ny1 yc1 ko1 kc1 hp1 hxl hyl hS2 KF HK4).mono ?_
  rintro e w6 ⟨rfl,hS6,hG6⟩
  have hG7:=hG2.trans hG6
  go_wp2
  go_end0
  exact⟨rfl,hS6,hG7⟩
 ·obtain⟨X,hX⟩:∃ X,sub x A b1=X:=⟨_,rfl⟩
  obtain⟨Y,hY⟩:∃ Y,sub y C d1=Y:=⟨_,rfl⟩
  obtain⟨G,hG⟩:∃ G,gdy Y 64 0 X=G:=⟨_,rfl⟩
  have hXl:X.length=nx1:=by rw[← hX,sub_length x A b1 hbx];omega
  have hYl:Y.length=ny1:=by rw[← hY,sub_length y C d1 hdy];omega
  have hx3:HI W2.drew (.slice xo1 nx1 xc1) X:=by
   unfold HI
   rw[hXl,← hX]
   exact Holds.keep hp1.hx (fun q hq=>hS2.low.block q hq)
  have hy3:HI W2.drew (.slice yo1 ny1 yc1) Y:=by
   unfold HI
   rw[hYl,← hY]
   exact Holds.keep hp1.hy (fun q hq=>hS2.low.block q hq)
  have HG:Hid (gdy Y 64 0 X=G):=hG
  have HGl:Hid (G.length=nx1):=(by show _=_;rw[← hG,gdy_length,hXl])
  have HGv:Hid (Vk 0 ny1 G):=(by
   have:=gdy_vk Y 64 X 0
   rw[hG,hYl] at this
   exact this)
  have HX:Hid (X.length≤1048576∧Y.length≤1048576):=(by refine⟨?_,?_⟩<;>omega)
  have HK4:Hid (wrk K1 (lp A C G)=KF):=(by
   show _=_
   have:=HK3.out
   rw[if_neg hle,hX,hY,hG] at this
   exact this)
  have hnx1:A+nx1≤x.length:=by omega
  have hny1:C+ny1≤4096:=by omega
  have hgW:g<W2.drew.heap.size:=hS2.lt.2
  have hgw2:g≠w.heap.size:=by omega
  have hle':M<(P:Int):=by omega
  have hle2:decide ((P:Int)≤M)=false:=decide_eq_false hle
  clear HK3 hG hX hY
  go_wp2_with fail
  clear hW2 q0 q1 q2 q3 c0 c1 c2 c3
  refine wp_region_noPanic ?_
  refine wp_region_held_drew (S:=fun u=>Qbx u w.heap.size (.slice xo1 nx1 xc1) (.slice yo1 ny1 yc1) (.int .i64 (C:Int)) (.slice ko1 nx1 kc1)) (by kernel_rfl) (hQ2.drewN 1) (fun hHeld=>?_)
  refine go_take 0 17 _ (.agg #[.slice xo1 nx1 xc1,.slice yo1 ny1 yc1,.int .i64 (C:Int),.slice ko1 nx1 kc1]) rfl (by kernel_rfl) (by kernel_rfl) (by kernel_rfl) (by kernel_rfl) (fun _ _ _ h=>h) (Or.inl ⟨by kernel_rfl,fun u hu=>load_pz hu (.tmp 2) (by kernel_rfl) (by kernel_rfl)⟩) hHeld ?_
  simp only[Act.put,List.setIfInBounds_toArray,List.set_cons_zero,List.set_cons_succ]
  refine go_take 1 18 _ (.pointer (some ⟨w.heap.size,0,none⟩)) rfl (by kernel_rfl) (by kernel_rfl) (by kernel_rfl) (by kernel_rfl) (fun _ _ _ h=>h) (Or.inl ⟨by kernel_rfl,fun u hu=>by kernel_rfl⟩) hHeld ?_
  simp only[Act.put,List.setIfInBounds_toArray,List.set_cons_zero,List.set_cons_succ]
  refine go_take 2 19 _ (.slice xo1 nx1 xc1) rfl (by kernel_rfl) (by kernel_rfl) (by kernel_rfl) (by kernel_rfl) (fun _ _ _ h=>h) (Or.inl ⟨by kernel_rfl,fun u hu=>load_row hu.cells.1 (.tmp 18) (by kernel_rfl) (by kernel_rfl)⟩) hHeld ?_
  simp only[Act.put,List.setIfInBounds_toArray,List.set_cons_zero,List.set_cons_succ]
  refine go_take 3 20 _ (.pointer (some ⟨w.heap.size,1,none⟩)) rfl (by kernel_rfl) (by kernel_rfl) (by kernel_rfl) (by kernel_rfl) (fun _ _ _ h=>h) (Or.inl ⟨by kernel_rfl,fun u hu=>by kernel_rfl⟩) hHeld ?_
  simp only[Act.put,List.setIfInBounds_toArray,List.set_cons_zero,List.set_cons_succ]
  refine go_take 4 21 _ (.slice yo1 ny1 yc1) rfl (by kernel_rfl) (by kernel_rfl) (by kernel_rfl) (by kernel_rfl) (fun _ _ _ h=>h) (Or.inl ⟨by kernel_rfl,fun u hu=>load_row hu.cells.2.1 (.tmp 20) (by kernel_rfl) (by kernel_rfl)⟩) hHeld ?_
  simp only[Act.put,List.setIfInBounds_toArray,List.set_cons_zero,List.set_cons_succ]
  refine go_callE 5 22 _ rfl (by kernel_rfl) (by kernel_rfl) (by kernel_rfl) 194 (.func 194) #[.tmp 19,.tmp 21,.const (.int .i64 64)] #[71,71,3] (by kernel_rfl) #[] (by kernel_rfl) #[.slice xo1 nx1 xc1,.slice yo1 ny1 yc1,.int .i64 64] (by kernel_rfl) (enters_of Tryz.func194 (by kernel_rfl) rfl) _ (greedy_held HX.out hXl hx3 hy3 HG hHeld) ?_
  rintro _ u5 hHeld ⟨zo,zc,rfl,hO5,hL5⟩
  simp only[Act.put,List.setIfInBounds_toArray,List.set_cons_zero,List.set_cons_succ]
  have hgB:g<W2.drew.heap.size:=hgW
  have hS5:=(hS2.keep (Below.dN (Below.refl _ W2) 1)).keep hL5
  have hG5:=hG2.trans (low_grown ((Below.dN (Below.refl W2.heap.size W2) 1).trans hL5) (some g))
  refine go_callE 6 23 _ rfl (by kernel_rfl) (by kernel_rfl) (by kernel_rfl) 193 (.func 193) #[.tmp 17,.tmp 22] #[243,71] (by kernel_rfl) #[] (by kernel_rfl) #[.agg #[.slice xo1 nx1 xc1,.slice yo1 ny1 yc1,.int .i64 (C:Int),.slice ko1 nx1 kc1],.slice zo nx1 zc] (by kernel_rfl) (enters_of Tryz.func193 (by kernel_rfl) rfl) _ (keepAt_held (by have:=hp1.at';exact this) hnx1 hny1 hxl HGl.out hO5 hgB HGv.out hS5 HK4 hHeld hgw2) ?_
  rintro _ u6 hHeld ⟨rfl,hS6,hG6⟩
  simp only[Act.put,List.setIfInBounds_toArray,List.set_cons_zero,List.set_cons_succ]
  refine wpAnyH_done (by kernel_rfl) ?_ _
  refine NoPanic.normal ?_
  have hG7:=hG5.trans hG6
  go_wp2
  go_end0
  exact⟨rfl,hS6,hG7⟩
theorem spDiff_f (x y:List Int) (bound:Int) (vx vy:Value) (w:World) (hx:HI w vx x) (hy:HI w vy y) (hxl:x.length≤4096) (hyl:y.length≤4096) (L:List Ch) (hL:Hid (mkL (sKeep bound x y) y.length=L)) :
  Calls Tryz.prog 131 #[vx,vy,.int .i64 bound] w fun e w'=>∃ v',e=.returned (.tuple #[v',.int .i64 0])∧HCh w' v' L∧Below w.heap.size w w':=by
 obtain⟨xo,xc,rfl⟩:=Holds.form hx
 obtain⟨yo,yc,rfl⟩:=Holds.form hy
 obtain⟨KF,hKF⟩:∃ KF,sKeep bound x y=KF:=⟨_,rfl⟩
 have HK:Hid (Kpt x y KF):=(by rw[← hKF];exact sKeep_kpt bound x y)
 have HF:Hid (wrk (List.replicate x.length (-1)) (pcs (smid bound x y) x y (x.length+1) 0 x.length 0 y.length)=KF):=hKF
 rw[hKF] at hL
 clear hKF
 have hW1:Below w.heap.size w (w.alloc (.cells #[.int .i64 bound] 3)):=(Below.refl _ w).alloc (Nat.le_refl _) _
 have hf0:(w.alloc (.cells #[.int .i64 bound] 3)).cell? ⟨w.heap.size,0,none⟩=some (.int .i64 bound):=by
  rw[Lib.cell_of_heap (_root_.Go.heap_alloc_new w _)]
  rfl
 go_enter Tryz.func131,Tryz.ntmps131
 go_wp2_with fail
 refine (pDiff_f x y _ _ _ (HI.keep hx hW1 (Nat.le_refl _)) (HI.keep hy hW1 (Nat.le_refl _)) hxl hyl 192 #[.pointer (some ⟨w.heap.size,0,none⟩)] (enters_of Tryz.func192 (by kernel_rfl) rfl) KF HK (fun u g xo xc yo yc hS hp=>sfind_f x y _ g w.heap.size bound hf0 hxl hyl x.length u _ hS 0 x.length 0 y.length _ _ _ _ _ _ _ _ hp KF HF) L hL).mono ?_
 rintro e w2 ⟨v2,rfl,hv2,hB2⟩
 have hB:=hW1.trans (hB2.mono (by simp))
 clear hf0
 go_wp2
 go_ret2
 exact⟨_,rfl,hv2,hB⟩
end Go.Proofs.YtgiojkhmkeocfaaGreatDoor

/- Greedy from the last place down, as the reference goes: plain. -/
namespace Go.Proofs.YtgiojkhmkeocfaaGreatDoor
end Go.Proofs.YtgiojkhmkeocfaaGreatDoor

/- The reference's Greedy, walked. -/
namespace Go.Proofs.YtgiojkhmkeocfaaGreatDoor
open Go.RowKit
end Go.Proofs.YtgiojkhmkeocfaaGreatDoor

/- The reference's Diff of layer 9, walked. -/
namespace Go.Proofs.YtgiojkhmkeocfaaGreatDoor
open Go.RowKit
attribute [local simp] low_drew
end Go.Proofs.YtgiojkhmkeocfaaGreatDoor

/- The code's Changes of layer 11: a row of changes in a box; the closure that answers the change to go on with, walked. -/
namespace Go.Proofs.YtgiojkhmkeocfaaGreatDoor
open Go.RowKit
def Afar (a b:Int):List Ch→Prop
 | []=>True
 | c::_=>a-(c.A+c.AN)=b-(c.B+c.BN)
theorem al_true {a b:Int} {c:Ch} {r:List Ch} (h:Afar a b (c::r)) (hA:c.A+c.AN=a):opn a b (c::r)=c::r:=by
 simp only[Afar] at h
 unfold opn
 rw[if_pos (by simp only[endsAt,Bool.and_eq_true,decide_eq_true_eq];omega)]
theorem al_false {a b:Int} {c:Ch} {r:List Ch} (hA:c.A+c.AN≠a):opn a b (c::r)=⟨a,0,b,0⟩::c::r:=by
 unfold opn
 rw[if_neg (by simp only[endsAt,Bool.and_eq_true,decide_eq_true_eq];omega)]
structure Sc (W:World) (ov:Value) (r:List Ch) (u:World):Prop where
 low:Below W.heap.size W u
 box:u.heap[W.heap.size]?=some (.cells #[ov] 25)
 own:u.ownsRow (W.heap.size+1) 64 4 ov r.length (bch r)
section
variable {W u u':World} {ov ov':Value} {r r':List Ch}
theorem Sc.cell (h:Sc W ov r u):u.cell? ⟨W.heap.size,0,none⟩=some ov:=by rw[Lib.cell_of_heap h.box];rfl
theorem Sc.frozen (h:Sc W ov r u):u.frozen? ⟨W.heap.size,0,none⟩=false:=Lib.frozen_of_heap h.box 0
theorem Sc.lt (h:Sc W ov r u):W.heap.size<u.heap.size:=(Array.getElem?_eq_some_iff.1 h.box).1
theorem Sc.alloc (h:Sc W ov r u) (o:Obj):Sc W ov r (u.alloc o):=⟨h.low.alloc h.low.size o,(((Below.refl _ u).alloc (Nat.le_refl _) o).block _ h.lt).trans h.box,h.own.alloc o⟩
theorem Sc.drewN (h:Sc W ov r u) (n:Nat):Sc W ov r (u.drewN n):=⟨Below.dN h.low n,h.box,h.own⟩
theorem Sc.keep (h:Sc W ov r u) (hk:Below u.heap.size u u'):Sc W ov r u':=⟨h.low.trans (hk.mono h.low.size),(hk.block _ h.lt).trans h.box,owns_keep h.own hk⟩
theorem Sc.form (h:Sc W ov r u):∃ oo oc,ov=.slice oo r.length oc:=(holds_of h.own).form
theorem Sc.grow (h:Sc W ov r u) (hg:u.grownBy u' ov.ownBlock) (ho:u'.ownsRow (W.heap.size+1) 64 4 ov' r'.length (bch r')):(u'.cell? ⟨W.heap.size,0,none⟩=some ov∧u'.frozen? ⟨W.heap.size,0,none⟩=false)∧Sc W ov' r' (u'.setCell ⟨W.heap.size,0,none⟩ ov'):=by
 have hbx:u'.heap[W.heap.size]?=some (.cells #[ov] 25):=(hg.block _ h.lt (fun e=>by have:=owns_ge h.own e.symm;omega)).trans h.box
 have hs:=grown_set u' W.heap.size 0 ov'
 have hlow:Below W.heap.size W u':=h.low.grown hg h.low.size (fun j hj=>by have:=owns_ge h.own hj;omega)
 refine⟨⟨by rw[Lib.cell_of_heap hbx];rfl,Lib.frozen_of_heap hbx 0⟩,hlow.grown hs hlow.size (fun j hj=>by cases hj;exact Nat.le_refl _),heap_setCell_same u' _ 0 _ _ ov' hbx,own_kept ho hs ?_⟩
 intro k hk e
 cases hk
 have:=owns_ge ho e
 omega
theorem Sc.put (h:Sc W ov r u) {g j:Nat} {z:Value} (hb:ov.ownBlock=some g) (ho:(u.setCell ⟨g,j,none⟩ z).ownsRow (W.heap.size+1) 64 4 ov r'.length (bch r')) (hg:u.grownBy (u.setCell ⟨g,j,none⟩ z) (some g)):Sc W ov r' (u.setCell ⟨g,j,none⟩ z):=by
 have hge:=owns_ge h.own hb
 exact⟨h.low.grown hg h.low.size (fun j hj=>by cases hj;omega),(hg.block _ h.lt (fun e=>by cases e;omega)).trans h.box,ho⟩
end
theorem hAt_f (a b:Int) (W u:World) (ov:Value) (r t:List Ch) (c:Ch) (hS:Sc W ov r u) (_ha:-1≤a∧a≤4398046511104) (_hb:-1≤b∧b≤4398046511104) (hrl:r.length<2199023255552) (HHD:Hid (Hhd r)) (HAL:Hid (Afar a b r)) (HOP:Hid (opn a b r=c::t)):Calls Tryz.prog 48 #[.int .i64 a,.int .i64 b,.pointer (some ⟨W.heap.size,0,none⟩)] u fun e u'=>∃ g oc,e=.returned (.pointer (some ⟨g,t.length * 4,none⟩))∧Sc W (.slice (some ⟨g,0,none⟩) (t.length+1) oc) (c::t) u':=by
 obtain⟨oo,oc,rfl⟩:=hS.form
 have hbx:=hS.cell
 cases r with
 | nil =>
  have hop:opn a b []=[⟨a,0,b,0⟩]:=rfl
  have h2:=HOP.out
  rw[hop] at h2
  cases h2
  clear hop HOP HAL HHD
  simp only[List.length_nil] at hbx hS ⊢
  go_enter Tryz.func48,Tryz.ntmps48
  go_upto_region 2 with fail
  go_quiet (fail)
  have hS1:=hS.drewN nq
  have hbx1:=hS1.cell
  generalize u.drewN nq=u1 at *
  have hS2:=hS1.alloc (chO ⟨a,0,b,0⟩)
  have hlt:=hS2.lt
  have hW2:u1.alloc (Obj.cells #[.int .i64 a,.int .i64 0,.int .i64 b,.int .i64 0] 64)=u1.alloc (chO ⟨a,0,b,0⟩):=rfl
  clear hS hS1 hbx
  have hk1:([]:List Ch).length+1≤2199023255552:=(by simp only[List.length_nil];omega)
  go_wp2_with (at_builtin;refine wpList_append_w _ (by kernel_rfl) (.tmp 30) (.tmp 34) 25 64 (.agg #[.int .i64 0,.int .i64 0,.int .i64 0,.int .i64 0]) 4 32 rfl Tryz.underlying25 infoCh rfl (by decide) (by decide) (W.heap.size+1) _ _ _ rfl hS2.own _ 1 (chcells [⟨a,0,b,0⟩]) rfl (ch_row u1 ⟨a,0,b,0⟩) rfl (chcells_one _) hk1 (by omega) ?_)
  intro v3 u3 hown3 hg3 _
  rw[show chcells [(⟨a,0,b,0⟩:Ch)]=chC ⟨a,0,b,0⟩ by simp[chcells],← bch_cons] at hown3
  obtain⟨o3,c3,rfl⟩:=(holds_of hown3).form
  obtain⟨⟨f1,f2⟩,hS3⟩:=hS2.grow (r':=⟨a,0,b,0⟩::[]) hg3 hown3
  obtain⟨g,rfl⟩:=hown_at hown3
  have f3:=hS3.cell
  clear hown3 hg3 hS2
  go_wp2
  go_ret
  first | exact⟨g,c3,rfl,hS3⟩ | exact⟨g,rfl,c3,hS3⟩
 | cons c0 r0 =>
  have hown:=hS.own
  rw[List.length_cons] at hown
  obtain⟨g,rfl⟩:=hown_at hown
  obtain⟨q0,q1,q2,q3⟩:=bch_at c0 r0
  have d0:=(hown.cellAt (r0.length * 4) (by omega)).trans q0
  have d1:=(hown.cellAt (r0.length * 4+1) (by omega)).trans q1
  have hd:=HHD.out
  simp only[Hhd] at hd
  have w1:IntKind.i64.wrap (c0.A+c0.AN)=c0.A+c0.AN:=wrap_s (by omega) (by omega)
  obtain⟨n0,hn0⟩:∃ n,r0.length=n:=⟨_,rfl⟩
  have HN0:Hid (r0.length=n0):=hn0
  simp only[List.length_cons,hn0] at hbx hS d0 d1 hrl ⊢
  clear q0 q1 q2 q3 hown hn0 HHD
  have l0:IntKind.i64.wrap ((n0:Int)+1-1)=(n0:Int):=(by rw[show (n0:Int)+1-1=n0 by omega];exact wrap_s (by omega) (by omega))
  have l1:decide ((0:Int)≤(n0:Int))=true:=decide_eq_true (by omega)
  have l2:(0:Int)≤(n0:Int):=by omega
  have l3:(n0:Int)<(n0:Int)+1:=by omega
  by_cases hA:c0.A+c0.AN=a
  ·have h2:=HOP.out
   rw[al_true HAL.out hA] at h2
   have eA:(c0.A+c0.AN == a)=true:=by simpa using hA
   cases h2
   clear HOP HAL hA
   have hn0:=HN0.out
   subst hn0
   go_enter Tryz.func48,Tryz.ntmps48
   go_upto_region 2 with fail
   go_quiet (fail)
   have hS1:=hS.drewN nq
   have hbx1:=hS1.cell
   generalize u.drewN nq=u1 at *
   go_wp2
   go_ret
   first | exact⟨g,oc,rfl,hS1⟩ | exact⟨g,rfl,oc,hS1⟩
  ·have h2:=HOP.out
   rw[al_false hA] at h2
   cases h2
   have eA:(c0.A+c0.AN == a)=false:=by simpa using hA
   clear HOP HAL hA
   have hn0:=HN0.out
   subst hn0
   simp only[List.length_cons] at ⊢
   go_enter Tryz.func48,Tryz.ntmps48
   go_upto_region 2 with fail
   go_quiet (fail)
   have hS1:=hS.drewN nq
   have hbx1:=hS1.cell
   generalize u.drewN nq=u1 at *
   have hS2:=hS1.alloc (chO ⟨a,0,b,0⟩)
   have hlt:=hS2.lt
   have hW2:u1.alloc (Obj.cells #[.int .i64 a,.int .i64 0,.int .i64 b,.int .i64 0] 64)=u1.alloc (chO ⟨a,0,b,0⟩):=rfl
   clear hS hS1 hbx
   have hk1:(c0::r0:List Ch).length+1≤2199023255552:=(by simp only[List.length_cons];omega)
   go_wp2_with (at_builtin;refine wpList_append_w _ (by kernel_rfl) (.tmp 30) (.tmp 34) 25 64 (.agg #[.int .i64 0,.int .i64 0,.int .i64 0,.int .i64 0]) 4 32 rfl Tryz.underlying25 infoCh rfl (by decide) (by decide) (W.heap.size+1) _ _ _ rfl hS2.own _ 1 (chcells [⟨a,0,b,0⟩]) rfl (ch_row u1 ⟨a,0,b,0⟩) rfl (chcells_one _) hk1 (by omega) ?_)
   intro v3 u3 hown3 hg3 _
   rw[show chcells [(⟨a,0,b,0⟩:Ch)]=chC ⟨a,0,b,0⟩ by simp[chcells],← bch_cons] at hown3
   obtain⟨o3,c3,rfl⟩:=(holds_of hown3).form
   obtain⟨⟨f1,f2⟩,hS3⟩:=hS2.grow (r':=⟨a,0,b,0⟩::c0::r0) hg3 hown3
   obtain⟨g,rfl⟩:=hown_at hown3
   have f3:=hS3.cell
   have j1:(0:Int)≤(r0.length:Int)+1:=by omega
   have j2:(r0.length:Int)+1<(r0.length:Int)+1+1:=by omega
   clear hown3 hg3 hS2
   go_wp2
   go_ret
   first | exact⟨g,c3,rfl,hS3⟩ | exact⟨g,rfl,c3,hS3⟩
end Go.Proofs.YtgiojkhmkeocfaaGreatDoor
