/-
  Texts that belong together, joined: PcWk, PcKe, PcKm, PcPz, PcDf, PaUq, PaPc, PaPg, PaIn, PaRp, PaSr, PaHd, PaWi, PaBk, PaRs, MiWm, EdRMk, MiTb, PaRl, PaRg, PaRq, PaRt, PaRf, PaLg, PaPl, PaUn.
-/
import Derived.Test.YtgiojkhmkeocfaaGreatDoorUnedBA6
import Derived.Test.YtgiojkhmkeocfaaGreatDoorUnedBA4
import Derived.Deep.CutRange
import Derived.Shelf.RegionOpenPlain
import Derived.Test.YtgiojkhmkeocfaaGreatDoorUnedBA5
import Derived.Maps.OwnSet
import Derived.Carry

set_option maxHeartbeats 16000000
set_option maxRecDepth 100000
/- The package pieces: a piece as a value; Empty, UpTo, From, Keep, walked. -/
namespace Go.Proofs.YtgiojkhmkeocfaaGreatDoor
open Go.RowKit
def pzV (xo:Option Addr) (nx xc:Nat) (yo:Option Addr) (ny yc:Nat) (c:Nat) (ko:Option Addr) (kc:Nat):Value:=.agg #[.slice xo nx xc,.slice yo ny yc,.int .i64 c,.slice ko nx kc]
structure Pz (W0:World) (g:Nat) (x y:List Int) (a b c d:Nat) (xo:Option Addr) (nx xc:Nat) (yo:Option Addr) (ny yc:Nat) (ko:Option Addr) (kc:Nat):Prop where
 eb:b=a+nx
 ed:d=c+ny
 bx:b≤x.length
 dy:d≤y.length
 hx:Holds W0 (.slice xo nx xc) nx (icells (sub x a b))
 hy:Holds W0 (.slice yo ny yc) ny (icells (sub y c d))
 hk:nx≤kc
 at':0<nx→ko=some ⟨g,a,none⟩
section
variable {W0:World} {g:Nat} {x y:List Int} {a b c d:Nat} {xo:Option Addr} {nx xc:Nat} {yo:Option Addr} {ny yc:Nat} {ko:Option Addr} {kc:Nat}
theorem Pz.from (h:Pz W0 g x y a b c d xo nx xc yo ny yc ko kc) {i j:Nat} (hi:i≤nx) (hj:j≤ny):Pz W0 g x y (a+i) b (c+j) d (slF xo xc i) (nx-i) (xc-i) (slF yo yc j) (ny-j) (yc-j) (slF ko kc i) (kc-i):=by
 have e1:=h.eb
 have e2:=h.ed
 have e3:=h.hk
 refine⟨by omega,by omega,h.bx,h.dy,?_,?_,by omega,fun h0=>?_⟩
 ·rw[← sub_drop]
  exact hold_from h.hx (by rw[sub_length x a b h.bx];omega) hi
 ·rw[← sub_drop]
  exact hold_from h.hy (by rw[sub_length y c d h.dy];omega) hj
 ·rw[h.at' (by omega),slF,if_neg (by omega),Option.map_some,add_none]
theorem Pz.to (h:Pz W0 g x y a b c d xo nx xc yo ny yc ko kc) {i j:Nat} (hi:i≤nx) (hj:j≤ny):Pz W0 g x y a (a+i) c (c+j) xo i xc yo j yc ko kc:=by
 have e1:=h.eb
 have e2:=h.ed
 have e3:=h.hk
 have e4:=h.bx
 have e5:=h.dy
 refine⟨rfl,rfl,by omega,by omega,?_,?_,by omega,fun h0=>h.at' (by omega)⟩
 ·rw[← sub_take x a b i (by omega)]
  exact hold_to h.hx (by rw[sub_length x a b h.bx];omega) hi
 ·rw[← sub_take y c d j (by omega)]
  exact hold_to h.hy (by rw[sub_length y c d h.dy];omega) hj
end
theorem Empty_f (xo:Option Addr) (nx xc:Nat) (yo:Option Addr) (ny yc c:Nat) (ko:Option Addr) (kc:Nat) (w:World) (r:Bool) (hr:Hid (r=decide (nx=0∨ny=0))) :
  Calls Tryz.prog 183 #[pzV xo nx xc yo ny yc c ko kc] w fun e w'=>e=.returned (.bool r)∧Below w.heap.size w w':=by
 unfold pzV
 by_cases h0:nx=0
 ·subst h0
  obtain rfl:r=true:=by rw[hr.out];simp
  clear hr
  go_enter Tryz.func183,Tryz.ntmps183
  go_wp2
  go_ret
  exact⟨rfl,(Below.refl _ w).alloc (Nat.le_refl _) _⟩
 ·have e1:decide ((nx:Int)=0)=false:=decide_eq_false (by omega)
  have e2:decide (nx=0)=false:=decide_eq_false (by omega)
  have e3:((nx:Int) == 0)=false:=by simp;omega
  by_cases h1:ny=0
  ·subst h1
   obtain rfl:r=true:=by rw[hr.out];simp
   clear hr h0
   go_enter Tryz.func183,Tryz.ntmps183
   go_wp2
   go_ret
   exact⟨rfl,(Below.refl _ w).alloc (Nat.le_refl _) _⟩
  ·have e4:decide ((ny:Int)=0)=false:=decide_eq_false (by omega)
   have e6:((ny:Int) == 0)=false:=by simp;omega
   have e5:decide (ny=0)=false:=decide_eq_false (by omega)
   obtain rfl:r=false:=by rw[hr.out];simp[h0,h1]
   clear hr h0 h1
   go_enter Tryz.func183,Tryz.ntmps183
   go_wp2
   go_ret
   exact⟨rfl,(Below.refl _ w).alloc (Nat.le_refl _) _⟩
theorem UpTo_f (xo:Option Addr) (nx xc:Nat) (yo:Option Addr) (ny yc c:Nat) (ko:Option Addr) (kc:Nat) (w:World) (i j:Nat) (hi:i≤nx) (hj:j≤ny) (hxc:nx≤xc) (hyc:ny≤yc) (hkc:nx≤kc) :
  Calls Tryz.prog 187 #[pzV xo nx xc yo ny yc c ko kc,.int .i64 (i:Int),.int .i64 (j:Int)] w fun e w'=>e=.returned (pzV xo i xc yo j yc c ko kc)∧Below w.heap.size w w':=by
 unfold pzV
 have r1:=run_slT xo nx xc i hi hxc
 have r2:=run_slT yo ny yc j hj hyc
 have r3:=run_slT ko nx kc i hi hkc
 clear hi hj hxc hyc hkc
 go_enter Tryz.func187,Tryz.ntmps187
 go_wp2
 go_region
 go_wp2
 have k2:=alloc_second w (Obj.cells #[.slice xo nx xc,.slice yo ny yc,.int .i64 c,.slice ko nx kc] 243) (Obj.cells #[.slice xo i xc,.slice yo j yc,.int .i64 c,.slice ko i kc] 243)
 exact bodyPost_ret (v:=.agg #[.slice xo i xc,.slice yo j yc,.int .i64 c,.slice ko i kc]) (results_cell_row rfl _ _ (w.heap.size+1) 243 #[.slice xo i xc,.slice yo j yc,.int .i64 c,.slice ko i kc] (0,0) _ rfl k2 Tryz.underlying243 rfl (by kernel_rfl)) rfl ⟨rfl,(((Below.refl _ w).alloc (Nat.le_refl _) _).alloc (by simp) _).drew⟩
theorem From_f (xo:Option Addr) (nx xc:Nat) (yo:Option Addr) (ny yc c:Nat) (ko:Option Addr) (kc:Nat) (w:World) (i j:Nat) (hi:i≤nx) (hj:j≤ny) (hxc:nx≤xc) (hyc:ny≤yc) (hkc:nx≤kc) (hc:c+j≤1048576) :
  Calls Tryz.prog 188 #[pzV xo nx xc yo ny yc c ko kc,.int .i64 (i:Int),.int .i64 (j:Int)] w fun e w'=>e=.returned (pzV (slF xo xc i) (nx-i) (xc-i) (slF yo yc j) (ny-j) (yc-j) (c+j) (slF ko kc i) (kc-i))∧Below w.heap.size w w':=by
 unfold pzV
 have r1:=run_slF xo nx xc i hi hxc
 have r2:=run_slF yo ny yc j hj hyc
 have r3:=run_slF ko nx kc i hi hkc
 generalize slF xo xc i=xo' at *
 generalize slF yo yc j=yo' at *
 generalize slF ko kc i=ko' at *
 generalize nx-i=nx' at *
 generalize ny-j=ny' at *
 generalize xc-i=xc' at *
 generalize yc-j=yc' at *
 generalize kc-i=kc' at *
 obtain⟨c',hc'⟩:∃ c',c+j=c':=⟨_,rfl⟩
 have n1:(c:Int)+(j:Int)=(c':Int):=by omega
 rw[hc']
 clear hi hj hxc hyc hkc hc'
 go_enter Tryz.func188,Tryz.ntmps188
 go_wp2
 go_region
 go_wp2
 have k2:=alloc_second w (Obj.cells #[.slice xo nx xc,.slice yo ny yc,.int .i64 c,.slice ko nx kc] 243) (Obj.cells #[.slice xo' nx' xc',.slice yo' ny' yc',.int .i64 c',.slice ko' nx' kc'] 243)
 exact bodyPost_ret (v:=.agg #[.slice xo' nx' xc',.slice yo' ny' yc',.int .i64 c',.slice ko' nx' kc']) (results_cell_row rfl _ _ (w.heap.size+1) 243 #[.slice xo' nx' xc',.slice yo' ny' yc',.int .i64 c',.slice ko' nx' kc'] (0,0) _ rfl k2 Tryz.underlying243 rfl (by kernel_rfl)) rfl ⟨rfl,(((Below.refl _ w).alloc (Nat.le_refl _) _).alloc (by simp) _).drew⟩
theorem fp_snoc (a c k:Nat):fp a c (k+1)=fp a c k++[⟨(a+k:Nat),(c+k:Nat)⟩]:=by
 induction k generalizing a c with
 | zero=>simp[fp]
 | succ k ih =>
  rw[fp,ih (a+1) (c+1),fp]
  simp
  omega
def Qbx (u:World) (B:Nat) (v0 v1 v2 v3:Value):Prop:=u.heap[B]?=some (.cells #[v0,v1,v2,v3] 243 (0,0))
section
variable {u u':World} {B:Nat} {v0 v1 v2 v3:Value}
theorem Qbx.cells (h:Qbx u B v0 v1 v2 v3):u.cell? ⟨B,0,none⟩=some v0∧u.cell? ⟨B,1,none⟩=some v1∧u.cell? ⟨B,2,none⟩=some v2∧u.cell? ⟨B,3,none⟩=some v3:=by
 refine⟨?_,?_,?_,?_⟩<;>rw[Lib.cell_of_heap h]<;>rfl
theorem Qbx.frozen (h:Qbx u B v0 v1 v2 v3) (j:Nat):u.frozen? ⟨B,j,none⟩=false:=by
 unfold World.frozen?
 rw[h]
 rfl
theorem Qbx.lt (h:Qbx u B v0 v1 v2 v3):B<u.heap.size:=(Array.getElem?_eq_some_iff.1 h).1
theorem Qbx.keep (h:Qbx u B v0 v1 v2 v3) {r:Option Nat} (hg:u.grownBy u' r) (hr:some B≠r):Qbx u' B v0 v1 v2 v3:=(hg.block B h.lt hr).trans h
theorem Qbx.low (h:Qbx u B v0 v1 v2 v3) (hg:Below u.heap.size u u'):Qbx u' B v0 v1 v2 v3:=(hg.block B h.lt).trans h
theorem Qbx.drewN (h:Qbx u B v0 v1 v2 v3) (k:Nat):Qbx (u.drewN k) B v0 v1 v2 v3:=h
theorem Qbx.new (w:World) (v0 v1 v2 v3:Value):Qbx (w.alloc (.cells #[v0,v1,v2,v3] 243)) w.heap.size v0 v1 v2 v3:=_root_.Go.heap_alloc_new w _
theorem Qbx.put (h:Qbx u B v0 v1 v2 v3) (z0 z1 z2 z3:Value):Qbx ((((u.setCell ⟨B,0,none⟩ z0).setCell ⟨B,1,none⟩ z1).setCell ⟨B,2,none⟩ z2).setCell ⟨B,3,none⟩ z3) B z0 z1 z2 z3:=by
 have s1:=heap_setCell_same u B 0 _ _ z0 h
 have s2:=heap_setCell_same _ B 1 _ _ z1 s1
 have s3:=heap_setCell_same _ B 2 _ _ z2 s2
 exact heap_setCell_same _ B 3 _ _ z3 s3
end
theorem Keep_f {W0:World} {g N:Nat} (K:List Int) (xo:Option Addr) (nx xc:Nat) (yo:Option Addr) (ny yc a c:Nat) (ko:Option Addr) (kc:Nat) (w:World) (i j n:Nat) (hS:Ls W0 g N K w) (hko:0<nx→ko=some ⟨g,a,none⟩) (haN:a+nx≤N) (hN:N≤1048576) (hin:i+n≤nx) (hc:c+j+n≤1048576) :
  Calls Tryz.prog 189 #[pzV xo nx xc yo ny yc c ko kc,.int .i64 (i:Int),.int .i64 (j:Int),.int .i64 (n:Int)] w fun e w'=>e=.returned (.tuple #[])∧Ls W0 g N (wrk K (fp (a+i) (c+j) n)) w'∧w.grownBy w' (some g):=by
 unfold pzV
 have hgw:=hS.lt
 have hS0:=hS.keep ((Below.refl _ w).alloc (Nat.le_refl _) (.cells #[.slice xo nx xc,.slice yo ny yc,.int .i64 c,.slice ko nx kc] 243))
 have hG0:=low_grown ((Below.refl _ w).alloc (Nat.le_refl _) (.cells #[.slice xo nx xc,.slice yo ny yc,.int .i64 c,.slice ko nx kc] 243)) (some g)
 have hQ0:=Qbx.new w (.slice xo nx xc) (.slice yo ny yc) (.int .i64 c) (.slice ko nx kc)
 go_enter Tryz.func189,Tryz.ntmps189
 go_wp2
 go_loopw [10] (fun iv wr=>∃ k:Nat,k≤n∧iv=.int .i64 k∧Ls W0 g N (wrk K (fp (a+i) (c+j) k)) wr∧w.grownBy wr (some g)∧Qbx wr w.heap.size (.slice xo nx xc) (.slice yo ny yc) (.int .i64 c) (.slice ko nx kc)) (fun iv _=>n-(intOf iv).toNat)
 case atStart=>exact⟨0,Nat.zero_le _,rfl,hS0,hG0,hQ0⟩
 case round =>
  clear hS0 hG0 hQ0 hS
  obtain⟨k,hk,rfl,hS,hG,hQ⟩:=hrel
  by_cases hlt:k<n
  ·obtain rfl:=hko (by omega)
   obtain⟨c0,c1,c2,c3⟩:=hQ.cells
   obtain⟨q,hq⟩:∃ q,i+k=q:=⟨_,rfl⟩
   obtain⟨z,hz⟩:∃ z,c+j+k=z:=⟨_,rfl⟩
   obtain⟨z',hz'⟩:∃ z,c+j=z:=⟨_,rfl⟩
   have n1:(i:Int)+(k:Int)=(q:Int):=by omega
   have n2:(c:Int)+(j:Int)=(z':Int):=by omega
   have n3:(z':Int)+(k:Int)=(z:Int):=by omega
   have i1:0≤(q:Int):=by omega
   have i2:(q:Int)<(nx:Int):=by omega
   have i3:(k:Int)<(n:Int):=by omega
   have hl:=hS.len
   have d0:=hS.at (List.getElem?_eq_getElem (i:=a+q) (by omega))
   have f0:=hS.own.frozenAt (a+q)
   have hS1:=hS.set (a+q) (z:Int)
   have hG1:w.grownBy (wr.setCell ⟨g,a+q,none⟩ (.int .i64 (z:Int))) (some g):=hG.trans (grown_set wr g (a+q) _)
   have hQ1:=hQ.keep (grown_set wr g (a+q) (.int .i64 (z:Int))) (by simp;omega)
   have HE:Hid ((wrk K (fp (a+i) (c+j) k)).set (a+q) (z:Int)=wrk K (fp (a+i) (c+j) (k+1))):=(by
    show _=_
    rw[fp_snoc,wrk_append,← hz,← hq]
    simp only[wrk,List.foldl_cons,List.foldl_nil]
    congr 1
    omega)
   generalize (wrk K (fp (a+i) (c+j) k))[a+q]=z0 at d0
   clear hl hq hz hz' hko
   go_wp2
   go_roundw
   case rel=>exact⟨k+1,by omega,by go_num,by rw[← HE.out];exact hS1,hG1,hQ1⟩
   case measure=>simp[intOf];omega
  ·obtain rfl:k=n:=by omega
   go_wp2
   go_end0
   exact⟨rfl,hS,hG⟩
end Go.Proofs.YtgiojkhmkeocfaaGreatDoor

/- The package pieces: KeepEnds, walked. -/
namespace Go.Proofs.YtgiojkhmkeocfaaGreatDoor
open Go.RowKit
attribute [local simp] low_drew
def lenOf:Value→Nat | .slice _ n _=>n | _=>0
theorem load_pz {u:World} {B:Nat} {v0 v1 v2 v3:Value} (h:Qbx u B v0 v1 v2 v3) {op:Oper} (x:Operand) (ho:op.op=.load 243 x) {ev:Operand→Value} (hx:ev x=.pointer (some ⟨B,0,none⟩)) :
  (execOp ev op).run Tryz.prog u=.ok (.value (.agg #[v0,v1,v2,v3])) u:=by
 obtain⟨d0,d1,d2,d3⟩:=h.cells
 simp only[execOp,ho,hx]
 go_simp
theorem empty_held {u wr:World} {B:Nat} {xo:Option Addr} {nx xc:Nat} {yo:Option Addr} {ny yc c:Nat} {ko:Option Addr} {kc:Nat} {r:Bool} (h:Qbx u B (.slice xo nx xc) (.slice yo ny yc) (.int .i64 c) (.slice ko nx kc)∧Low wr u) (hr:Hid (r=decide (nx=0∨ny=0))∨False) :
  Calls Tryz.prog 183 #[.agg #[.slice xo nx xc,.slice yo ny yc,.int .i64 (c:Int),.slice ko nx kc]] u fun e w'=>e=.returned (.bool r)∧(Qbx w' B (.slice xo nx xc) (.slice yo ny yc) (.int .i64 c) (.slice ko nx kc)∧Low wr w'):=by
 refine (Empty_f xo nx xc yo ny yc c ko kc u r (hr.resolve_right id)).mono ?_
 rintro e w' ⟨rfl,hb⟩
 exact⟨rfl,h.1.low hb,Below.trans h.2 (hb.mono (Below.size h.2))⟩
theorem Empty_low (xo:Option Addr) (nx xc:Nat) (yo:Option Addr) (ny yc c:Nat) (ko:Option Addr) (kc:Nat) (u W:World) (r:Bool) (hr:Hid (r=decide (nx=0∨ny=0))) (hL:Low W u) :
  Calls Tryz.prog 183 #[.agg #[.slice xo nx xc,.slice yo ny yc,.int .i64 (c:Int),.slice ko nx kc]] u fun e w'=>e=.returned (.bool r)∧Low W w':=by
 refine (Empty_f xo nx xc yo ny yc c ko kc u r hr).mono ?_
 rintro e w' ⟨rfl,hb⟩
 exact⟨rfl,Below.trans hL (hb.mono (Below.size hL))⟩
theorem Keep_00 {W0:World} {g N:Nat} (K:List Int) (xo:Option Addr) (nx xc:Nat) (yo:Option Addr) (ny yc a c:Nat) (ko:Option Addr) (kc:Nat) (w:World) (hS:Ls W0 g N K w) (hko:0<nx→ko=some ⟨g,a,none⟩) (haN:a+nx≤N) (hN:N≤1048576) (hin:1≤nx) (hc:c+1≤1048576) :
  Calls Tryz.prog 189 #[.agg #[.slice xo nx xc,.slice yo ny yc,.int .i64 (c:Int),.slice ko nx kc],.int .i64 0,.int .i64 0,.int .i64 1] w fun e w'=>e=.returned (.tuple #[])∧Ls W0 g N (wrk K (fp a c 1)) w'∧w.grownBy w' (some g) :=
 Keep_f K xo nx xc yo ny yc a c ko kc w 0 0 1 hS hko haN hN (by omega) (by omega)
theorem Keep_1 {W0:World} {g N:Nat} (K:List Int) (xo:Option Addr) (nx xc:Nat) (yo:Option Addr) (ny yc a c:Nat) (ko:Option Addr) (kc:Nat) (w:World) (i j:Nat) (hS:Ls W0 g N K w) (hko:0<nx→ko=some ⟨g,a,none⟩) (haN:a+nx≤N) (hN:N≤1048576) (hin:i+1≤nx) (hc:c+j+1≤1048576) :
  Calls Tryz.prog 189 #[.agg #[.slice xo nx xc,.slice yo ny yc,.int .i64 (c:Int),.slice ko nx kc],.int .i64 (i:Int),.int .i64 (j:Int),.int .i64 1] w fun e w'=>e=.returned (.tuple #[])∧Ls W0 g N (wrk K (fp (a+i) (c+j) 1)) w'∧w.grownBy w' (some g) :=
 Keep_f K xo nx xc yo ny yc a c ko kc w i j 1 hS hko haN hN (by omega) (by omega)
theorem From_11 (xo:Option Addr) (nx xc:Nat) (yo:Option Addr) (ny yc c:Nat) (ko:Option Addr) (kc:Nat) (w:World) (hi:1≤nx) (hj:1≤ny) (hxc:nx≤xc) (hyc:ny≤yc) (hkc:nx≤kc) (hc:c+1≤1048576) :
  Calls Tryz.prog 188 #[.agg #[.slice xo nx xc,.slice yo ny yc,.int .i64 (c:Int),.slice ko nx kc],.int .i64 1,.int .i64 1] w fun e w'=>e=.returned (pzV (slF xo xc 1) (nx-1) (xc-1) (slF yo yc 1) (ny-1) (yc-1) (c+1) (slF ko kc 1) (kc-1))∧Below w.heap.size w w' :=
 From_f xo nx xc yo ny yc c ko kc w 1 1 hi hj hxc hyc hkc hc
structure Ke (W0 w:World) (g:Nat) (x y K:List Int) (a b c d:Nat) (xo:Option Addr) (nx xc:Nat) (yo:Option Addr) (ny yc:Nat) (ko:Option Addr) (kc:Nat) (u:World):Prop where
 pz:Pz W0 g x y a b c d xo nx xc yo ny yc ko kc
 ls:Ls W0 g x.length K u
 box:Qbx u w.heap.size (.slice xo nx xc) (.slice yo ny yc) (.int .i64 c) (.slice ko nx kc)
 res:Qbx u (w.heap.size+1) (.slice none 0 0) (.slice none 0 0) (.int .i64 0) (.slice none 0 0)
 gr:w.grownBy u (some g)
section
variable {W0 w:World} {g:Nat} {x y K:List Int} {a b c d:Nat} {xo:Option Addr} {nx xc:Nat} {yo:Option Addr} {ny yc:Nat} {ko:Option Addr} {kc:Nat} {u u':World}
theorem Ke.low (h:Ke W0 w g x y K a b c d xo nx xc yo ny yc ko kc u) (hb:Below u.heap.size u u'):Ke W0 w g x y K a b c d xo nx xc yo ny yc ko kc u' :=
 ⟨h.pz,h.ls.keep hb,h.box.low hb,h.res.low hb,h.gr.trans (low_grown hb _)⟩
theorem Ke.kept (h:Ke W0 w g x y K a b c d xo nx xc yo ny yc ko kc u) (hw:g<w.heap.size) {K':List Int} (hl:Ls W0 g x.length K' u') (hg:u.grownBy u' (some g)):Ke W0 w g x y K' a b c d xo nx xc yo ny yc ko kc u' :=
 ⟨h.pz,hl,h.box.keep hg (by simp;omega),h.res.keep hg (by simp;omega),h.gr.trans hg⟩
theorem Ke.put (h:Ke W0 w g x y K a b c d xo nx xc yo ny yc ko kc u) (hw:g<w.heap.size) {a' b' c' d':Nat} {xo':Option Addr} {nx' xc':Nat} {yo':Option Addr} {ny' yc':Nat} {ko':Option Addr} {kc':Nat} (hp:Pz W0 g x y a' b' c' d' xo' nx' xc' yo' ny' yc' ko' kc') :
  Ke W0 w g x y K a' b' c' d' xo' nx' xc' yo' ny' yc' ko' kc' ((((u.setCell ⟨w.heap.size,0,none⟩ (.slice xo' nx' xc')).setCell ⟨w.heap.size,1,none⟩ (.slice yo' ny' yc')).setCell ⟨w.heap.size,2,none⟩ (.int .i64 (c':Int))).setCell ⟨w.heap.size,3,none⟩ (.slice ko' nx' kc')):=by
 have hg:=h.ls.lt
 have hW:=h.ls.low.size
 have hs:=h.gr.size
 refine⟨hp,?_,h.box.put _ _ _ _,?_,?_⟩
 ·exact ls_other (ls_other (ls_other (ls_other h.ls (by omega) (by omega) _ _) (by omega) (by omega) _ _) (by omega) (by omega) _ _) (by omega) (by omega) _ _
 ·refine (heap_setCell_other _ _ _ _ (by simp)).trans ((heap_setCell_other _ _ _ _ (by simp)).trans ((heap_setCell_other _ _ _ _ (by simp)).trans ((heap_setCell_other _ _ _ _ (by simp)).trans h.res)))
 ·exact grown_new (grown_new (grown_new (grown_new h.gr (Nat.le_refl _) _ _) (Nat.le_refl _) _ _) (Nat.le_refl _) _ _) (Nat.le_refl _) _ _
end
theorem KeepEnds_f (x y:List Int) (W0 w:World) (g:Nat) (K:List Int) (a b c d:Nat) (xo:Option Addr) (nx xc:Nat) (yo:Option Addr) (ny yc:Nat) (ko:Option Addr) (kc:Nat) (hp:Pz W0 g x y a b c d xo nx xc yo ny yc ko kc) (hxl:x.length≤4096) (hyl:y.length≤4096) (hS:Ls W0 g x.length K w) :
  Calls Tryz.prog 182 #[pzV xo nx xc yo ny yc c ko kc] w fun e w'=>∃ (k m:Nat) (xo':Option Addr) (nx' xc':Nat) (yo':Option Addr) (ny' yc':Nat) (ko':Option Addr) (kc':Nat),k=tf x y a b c d∧m=tb x y (a+k) b (c+k) d∧e=.returned (pzV xo' nx' xc' yo' ny' yc' (c+k) ko' kc')∧Pz W0 g x y (a+k) (b-m) (c+k) (d-m) xo' nx' xc' yo' ny' yc' ko' kc'∧Ls W0 g x.length (wrk K (fp a c k++bp b d m)) w'∧w.grownBy w' (some g):=by
 obtain⟨k,hk⟩:∃ k,tf x y a b c d=k:=⟨_,rfl⟩
 obtain⟨m,hm⟩:∃ m,tb x y (a+k) b (c+k) d=m:=⟨_,rfl⟩
 obtain⟨KF,hKF⟩:∃ KF,wrk K (fp a c k)=KF:=⟨_,rfl⟩
 obtain⟨A1,hA1⟩:∃ A1,a+k=A1:=⟨_,rfl⟩
 obtain⟨C1,hC1⟩:∃ C1,c+k=C1:=⟨_,rfl⟩
 have HK:Hid (a+tf x y a b c d=A1∧c+tf x y a b c d=C1∧wrk K (fp a c (tf x y a b c d))=KF):=⟨by rw[hk,hA1],by rw[hk,hC1],by rw[hk,hKF]⟩
 have HM:Hid (tb x y A1 b C1 d=m):=(by rw[hA1,hC1] at hm;exact hm)
 have HFin:Hid (k=tf x y a b c d∧m=tb x y (a+k) b (c+k) d∧A1=a+k∧C1=c+k∧wrk KF (bp b d m)=wrk K (fp a c k++bp b d m)):=⟨hk.symm,hm.symm,hA1.symm,hC1.symm,by rw[wrk_append,hKF]⟩
 have hml:m≤b-A1∧m≤d-C1:=by rw[← HM.out];exact tb_le x y A1 b C1 d
 clear hk hm hKF hA1 hC1
 have hgw:=hS.lt.2
 have hT0:Ke W0 w g x y K a b c d xo nx xc yo ny yc ko kc ((w.alloc (.cells #[.slice xo nx xc,.slice yo ny yc,.int .i64 c,.slice ko nx kc] 243)).alloc (.cells #[.slice none 0 0,.slice none 0 0,.int .i64 0,.slice none 0 0] 243)) :=
  ⟨hp,hS.keep (((Below.refl _ w).alloc (Nat.le_refl _) _).alloc (by simp) _),(Below.heap_alloc _ _ _ (by simp)).trans (_root_.Go.heap_alloc_new w _),alloc_second w _ _,low_grown (((Below.refl _ w).alloc (Nat.le_refl _) _).alloc (by simp) _) _⟩
 unfold pzV
 go_enter Tryz.func182,Tryz.ntmps182
 go_wp2
 go_loopw [] (fun wr=>∃ (a' c':Nat) (K':List Int) (xo:Option Addr) (nx xc:Nat) (yo:Option Addr) (ny yc:Nat) (ko:Option Addr) (kc:Nat),Ke W0 w g x y K' a' b c' d xo nx xc yo ny yc ko kc wr∧Hid (a'+tf x y a' b c' d=A1∧c'+tf x y a' b c' d=C1∧wrk K' (fp a' c' (tf x y a' b c' d))=KF)) (fun wr=>lenOf ((wr.cell? ⟨w.heap.size,0,none⟩).getD undef))
 case atStart=>exact⟨a,c,K,xo,nx,xc,yo,ny,yc,ko,kc,hT0,HK⟩
 case round =>
  clear hT0 HK hS hp
  obtain⟨a',c',K',xo,nx,xc,yo,ny,yc,ko,kc,hT,HV⟩:=hrel
  have hQ:=hT.box
  obtain⟨c0,c1,c2,c3⟩:=hQ.cells
  have hb:=hT.pz.eb
  have hd:=hT.pz.ed
  have hbx:=hT.pz.bx
  have hdy:=hT.pz.dy
  obtain⟨r,hr⟩:∃ r,decide (a'<b∧c'<d∧x[a']?=y[c']?)=r:=⟨_,rfl⟩
  have HRr:Hid (decide (a'<b∧c'<d∧x[a']?=y[c']?)=r):=hr
  clear hr
  have hlow:=hT.ls.low
  go_wp2_with fail
  go_cut [18] from 5 to 22 (fun z wz=>z=.bool r∧Low wr wz)
  case first =>
   by_cases he:nx=0∨ny=0
   ·obtain rfl:r=false:=by rw[← HRr.out];simp;intro h1 h2;omega
    have HE:Hid (true=decide (nx=0∨ny=0)):=(decide_eq_true he).symm
    clear HRr
    refine wp_region_noPanic ?_
    refine wp_region_held_drew (S:=fun u=>Qbx u w.heap.size (.slice xo nx xc) (.slice yo ny yc) (.int .i64 (c':Int)) (.slice ko nx kc)∧Low wr u) (by kernel_rfl) ⟨hQ.drewN 1,Below.dN (Below.refl _ wr) 1⟩ (fun hHeld=>?_)
    refine go_take 0 5 _ (.agg #[.slice xo nx xc,.slice yo ny yc,.int .i64 (c':Int),.slice ko nx kc]) rfl (by kernel_rfl) (by kernel_rfl) (by kernel_rfl) (by kernel_rfl) (fun _ _ _ h=>h) (Or.inl ⟨by kernel_rfl,fun u hu=>load_pz hu.1 (.tmp 1) (by kernel_rfl) (by kernel_rfl)⟩) hHeld ?_
    simp only[Act.put,List.setIfInBounds_toArray,List.set_cons_zero,List.set_cons_succ]
    refine go_callH 1 6 _ rfl (by kernel_rfl) (by kernel_rfl) (by kernel_rfl) 183 #[.tmp 5] #[243] (by kernel_rfl) #[.agg #[.slice xo nx xc,.slice yo ny yc,.int .i64 (c':Int),.slice ko nx kc]] (by kernel_rfl) (enters_of Tryz.func183 (by kernel_rfl) rfl) (.bool true) (empty_held hHeld (.inl HE)) (fun u hHeld=>?_)
    simp only[Act.put,List.setIfInBounds_toArray,List.set_cons_zero,List.set_cons_succ]
    refine go_take 2 7 _ (.bool false) rfl (by kernel_rfl) (by kernel_rfl) (by kernel_rfl) (by kernel_rfl) (fun _ _ _ h=>h) (Or.inl ⟨by kernel_rfl,fun u hu=>by kernel_rfl⟩) hHeld ?_
    simp only[Act.put,List.setIfInBounds_toArray,List.set_cons_zero,List.set_cons_succ]
    refine go_take 3 8 _ (.bool false) rfl (by kernel_rfl) (by kernel_rfl) (by kernel_rfl) (by kernel_rfl) (fun _ _ _ h=>h) (Or.inl ⟨by kernel_rfl,fun u hu=>by kernel_rfl⟩) hHeld ?_
    simp only[Act.put,List.setIfInBounds_toArray,List.set_cons_zero,List.set_cons_succ]
    refine go_take 4 9 _ undef rfl (by kernel_rfl) (by kernel_rfl) (by kernel_rfl) (by kernel_rfl) (fun _ _ _ h=>h) (Or.inr ⟨by kernel_rfl,rfl⟩) hHeld ?_
    simp only[Act.put,List.setIfInBounds_toArray,List.set_cons_zero,List.set_cons_succ]
    refine go_take 5 10 _ undef rfl (by kernel_rfl) (by kernel_rfl) (by kernel_rfl) (by kernel_rfl) (fun _ _ _ h=>h) (Or.inr ⟨by kernel_rfl,rfl⟩) hHeld ?_
    simp only[Act.put,List.setIfInBounds_toArray,List.set_cons_zero,List.set_cons_succ]
    refine go_take 6 11 _ undef rfl (by kernel_rfl) (by kernel_rfl) (by kernel_rfl) (by kernel_rfl) (fun _ _ _ h=>h) (Or.inr ⟨by kernel_rfl,rfl⟩) hHeld ?_
    simp only[Act.put,List.setIfInBounds_toArray,List.set_cons_zero,List.set_cons_succ]
    refine go_take 7 12 _ undef rfl (by kernel_rfl) (by kernel_rfl) (by kernel_rfl) (by kernel_rfl) (fun _ _ _ h=>h) (Or.inr ⟨by kernel_rfl,rfl⟩) hHeld ?_
    simp only[Act.put,List.setIfInBounds_toArray,List.set_cons_zero,List.set_cons_succ]
    refine go_take 8 13 _ undef rfl (by kernel_rfl) (by kernel_rfl) (by kernel_rfl) (by kernel_rfl) (fun _ _ _ h=>h) (Or.inr ⟨by kernel_rfl,rfl⟩) hHeld ?_
    simp only[Act.put,List.setIfInBounds_toArray,List.set_cons_zero,List.set_cons_succ]
    refine go_take 9 14 _ undef rfl (by kernel_rfl) (by kernel_rfl) (by kernel_rfl) (by kernel_rfl) (fun _ _ _ h=>h) (Or.inr ⟨by kernel_rfl,rfl⟩) hHeld ?_
    simp only[Act.put,List.setIfInBounds_toArray,List.set_cons_zero,List.set_cons_succ]
    refine go_take 10 15 _ undef rfl (by kernel_rfl) (by kernel_rfl) (by kernel_rfl) (by kernel_rfl) (fun _ _ _ h=>h) (Or.inr ⟨by kernel_rfl,rfl⟩) hHeld ?_
    simp only[Act.put,List.setIfInBounds_toArray,List.set_cons_zero,List.set_cons_succ]
    refine go_take 11 16 _ undef rfl (by kernel_rfl) (by kernel_rfl) (by kernel_rfl) (by kernel_rfl) (fun _ _ _ h=>h) (Or.inr ⟨by kernel_rfl,rfl⟩) hHeld ?_
    simp only[Act.put,List.setIfInBounds_toArray,List.set_cons_zero,List.set_cons_succ]
    refine go_take 12 17 _ undef rfl (by kernel_rfl) (by kernel_rfl) (by kernel_rfl) (by kernel_rfl) (fun _ _ _ h=>h) (Or.inr ⟨by kernel_rfl,rfl⟩) hHeld ?_
    simp only[Act.put,List.setIfInBounds_toArray,List.set_cons_zero,List.set_cons_succ]
    refine go_take 13 18 _ (.bool false) rfl (by kernel_rfl) (by kernel_rfl) (by kernel_rfl) (by kernel_rfl) (fun _ _ _ h=>h) (Or.inl ⟨by kernel_rfl,fun u hu=>by kernel_rfl⟩) hHeld ?_
    simp only[Act.put,List.setIfInBounds_toArray,List.set_cons_zero,List.set_cons_succ]
    refine wpAnyH_done (by kernel_rfl) ?_ _
    refine NoPanic.normal ?_
    go_wp2_with fail
    go_meet
    case rel=>exact⟨rfl,hHeld.2⟩
   ·have h1:0<nx:=by omega
    have h2:0<ny:=by omega
    obtain⟨xb,xf,xcc,hxe,hxb,hcx⟩:=Holds.at (Holds.keep hT.pz.hx (fun q hq=>hlow.block q hq)) (by rw[icells_length,sub_length x a' b hbx];omega)
    obtain⟨yb,yf,ycc,hye,hyb,hcy⟩:=Holds.at (Holds.keep hT.pz.hy (fun q hq=>hlow.block q hq)) (by rw[icells_length,sub_length y c' d hdy];omega)
    cases hxe
    cases hye
    have x0:=hcx 0 (by rw[icells_length,sub_length x a' b hbx];omega)
    have y0:=hcy 0 (by rw[icells_length,sub_length y c' d hdy];omega)
    obtain⟨zx,hzx⟩:∃ z,(sub x a' b)[0]?=some z:=⟨_,List.getElem?_eq_getElem (by rw[sub_length x a' b hbx];omega)⟩
    obtain⟨zy,hzy⟩:∃ z,(sub y c' d)[0]?=some z:=⟨_,List.getElem?_eq_getElem (by rw[sub_length y c' d hdy];omega)⟩
    have x1:wr.cell? ⟨xb,xf,none⟩=some (.int .i64 zx):=by
     rw[Nat.add_zero] at x0
     rw[x0]
     have:=hzx
     rw[List.getElem?_eq_getElem (by rw[sub_length x a' b hbx];omega)] at this
     simp[icells,Option.some.inj this]
    have y1:wr.cell? ⟨yb,yf,none⟩=some (.int .i64 zy):=by
     rw[Nat.add_zero] at y0
     rw[y0]
     have:=hzy
     rw[List.getElem?_eq_getElem (by rw[sub_length y c' d hdy];omega)] at this
     simp[icells,Option.some.inj this]
    have e3:(zx == zy)=r:=by
     rw[← HRr.out,show x[a']?=some zx from (sub_some hzx).2,show y[c']?=some zy from (sub_some hzy).2]
     have q1:a'<b:=by omega
     have q2:c'<d:=by omega
     by_cases q:zx=zy<;>simp[q1,q2,q]
    have HE:Hid (false=decide (nx=0∨ny=0)):=(decide_eq_false he).symm
    have i1:(0:Int)<(nx:Int):=by omega
    have i2:(0:Int)<(ny:Int):=by omega
    have hcs:∀ u:World,Low wr u→u.cell? ⟨w.heap.size,0,none⟩=some (.slice (some ⟨xb,xf,none⟩) nx xc)∧u.cell? ⟨w.heap.size,1,none⟩=some (.slice (some ⟨yb,yf,none⟩) ny yc)∧u.cell? ⟨w.heap.size,2,none⟩=some (.int .i64 (c':Int))∧u.cell? ⟨w.heap.size,3,none⟩=some (.slice ko nx kc)∧u.cell? ⟨xb,xf,none⟩=some (.int .i64 zx)∧u.cell? ⟨yb,yf,none⟩=some (.int .i64 zy):=fun u hu=>by
     obtain⟨d0,d1,d2,d3⟩:=(hQ.low hu).cells
     exact⟨d0,d1,d2,d3,cell_low hu x1,cell_low hu y1⟩
    have hLw:Low wr wr:=Below.refl _ _
    clear x0 y0 hcx hcy hzx hzy HRr hxb hyb
    go_region_held3 (fun u=>u.cell? ⟨w.heap.size,0,none⟩=some (.slice (some ⟨xb,xf,none⟩) nx xc)∧u.cell? ⟨w.heap.size,1,none⟩=some (.slice (some ⟨yb,yf,none⟩) ny yc)∧u.cell? ⟨w.heap.size,2,none⟩=some (.int .i64 (c':Int))∧u.cell? ⟨w.heap.size,3,none⟩=some (.slice ko nx kc)∧u.cell? ⟨xb,xf,none⟩=some (.int .i64 zx)∧u.cell? ⟨yb,yf,none⟩=some (.int .i64 zy)∧Low wr u) (go_keep)
     (first | (go_at_call 183;refine (Empty_low (some ⟨xb,xf,none⟩) nx xc (some ⟨yb,yf,none⟩) ny yc c' ko kc _ wr false HE (by first | assumption | (simp[*];done))).mono ?_;rintro e wd ⟨rfl,hlw⟩;obtain⟨g0,g1,g2,g3,g4,g5⟩:=hcs wd hlw))
    go_wp2
    go_meet
    case rel=>exact⟨rfl,by first | assumption | (simp[*];done)⟩
  case rest =>
   obtain⟨rfl,hLz⟩:=hcut
   have hTz:=hT.low hLz
   have cw:=c0
   clear c0 c1 c2 c3 hT hlow hQ hLz
   generalize wc=u0 at hTz ⊢
   obtain⟨c0,c1,c2,c3⟩:=hTz.box.cells
   cases r with
   | true =>
    have hh:=of_decide_eq_true HRr.out
    obtain⟨h1,h2,h3⟩:=hh
    have HV2:Hid (a'+1+tf x y (a'+1) b (c'+1) d=A1∧c'+1+tf x y (a'+1) b (c'+1) d=C1∧wrk (wrk K' (fp a' c' 1)) (fp (a'+1) (c'+1) (tf x y (a'+1) b (c'+1) d))=KF):=(by
     have:=HV.out
     rw[tf_eq,if_pos ⟨h1,h2,h3⟩] at this
     obtain⟨q1,q2,q3⟩:=this
     refine⟨by omega,by omega,?_⟩
     rw[← q3,← wrk_append]
     rfl)
    clear HV HRr h3
    have hkk:=hTz.pz.hk
    have hxk:=hold_cap hTz.pz.hx
    have hyk:=hold_cap hTz.pz.hy
    go_wp2_with fail
    refine (Keep_00 K' xo nx xc yo ny yc a' c' ko kc u0 hTz.ls hTz.pz.at' (by omega) (by omega) (by omega) (by omega)).mono ?_
    rintro e u1 ⟨rfl,hS1,hG1⟩
    have hT1:=hTz.kept hgw hS1 hG1
    clear hTz c0 c1 c2 c3 hS1 hG1
    obtain⟨c0,c1,c2,c3⟩:=hT1.box.cells
    go_wp2_with fail
    refine (From_11 xo nx xc yo ny yc c' ko kc u1 (by omega) (by omega) hxk hyk hkk (by omega)).mono ?_
    rintro e u2 ⟨rfl,hB2⟩
    have hT2:=hT1.low hB2
    clear hT1 c0 c1 c2 c3 hB2
    obtain⟨c0,c1,c2,c3⟩:=hT2.box.cells
    have f0:=hT2.box.frozen
    have hT3:=hT2.put hgw (hT2.pz.from (i:=1) (j:=1) (by omega) (by omega))
    unfold pzV
    go_wp2
    go_roundw
    case rel=>exact⟨a'+1,c'+1,_,_,_,_,_,_,_,_,_,hT3,HV2⟩
    case measure =>
     refine Nat.lt_of_le_of_lt (Nat.le_of_eq (congrArg (fun o=>lenOf (Option.getD o undef)) hT3.box.cells.1)) ?_
     rw[cw]
     simp[lenOf]
     omega
   | false =>
    have hh:=of_decide_eq_false HRr.out
    have hz:tf x y a' b c' d=0:=by rw[tf_eq,if_neg hh]
    obtain⟨q1,q2,q3⟩:=HV.out
    rw[hz] at q1 q2 q3
    obtain rfl:A1=a':=by omega
    obtain rfl:C1=c':=by omega
    have q4:KF=K':=q3.symm
    subst q4
    clear hh hz q1 q2 q3 HV HRr cw c0 c1 c2 c3 hb hd hbx hdy
    have HM0:Hid (b-tb x y A1 b C1 d=b-m∧d-tb x y A1 b C1 d=d-m∧wrk KF (bp b d (tb x y A1 b C1 d))=wrk KF (bp b d m)):=(by rw[HM.out];exact⟨rfl,rfl,rfl⟩)
    go_wp2
    go_loopw [] (fun wr=>∃ (b' d':Nat) (K2:List Int) (xo:Option Addr) (nx xc:Nat) (yo:Option Addr) (ny yc:Nat) (ko:Option Addr) (kc:Nat),Ke W0 w g x y K2 A1 b' C1 d' xo nx xc yo ny yc ko kc wr∧Hid (b'-tb x y A1 b' C1 d'=b-m∧d'-tb x y A1 b' C1 d'=d-m∧wrk K2 (bp b' d' (tb x y A1 b' C1 d'))=wrk KF (bp b d m))) (fun wr=>lenOf ((wr.cell? ⟨w.heap.size,0,none⟩).getD undef))
    case atStart=>exact⟨b,d,KF,xo,nx,xc,yo,ny,yc,ko,kc,hTz,HM0⟩
    case round =>
     clear hTz HM0
     obtain⟨b',d',K2,xo,nx,xc,yo,ny,yc,ko,kc,hT,HV⟩:=hrel
     have hQ:=hT.box
     obtain⟨c0,c1,c2,c3⟩:=hQ.cells
     have hb:=hT.pz.eb
     have hd:=hT.pz.ed
     have hbx:=hT.pz.bx
     have hdy:=hT.pz.dy
     obtain⟨r,hr⟩:∃ r,decide (A1<b'∧C1<d'∧x[b'-1]?=y[d'-1]?)=r:=⟨_,rfl⟩
     have HRr:Hid (decide (A1<b'∧C1<d'∧x[b'-1]?=y[d'-1]?)=r):=hr
     clear hr
     have hlow:=hT.ls.low
     go_wp2_with fail
     go_cut [44] from 23 to 60 (fun z wz=>z=.bool r∧Low wr wz)
     case first =>
      by_cases he:nx=0∨ny=0
      ·obtain rfl:r=false:=by rw[← HRr.out];simp;intro h1 h2;omega
       have HE:Hid (true=decide (nx=0∨ny=0)):=(decide_eq_true he).symm
       clear HRr
       refine wp_region_noPanic ?_
       refine wp_region_held_drew (S:=fun u=>Qbx u w.heap.size (.slice xo nx xc) (.slice yo ny yc) (.int .i64 (C1:Int)) (.slice ko nx kc)∧Low wr u) (by kernel_rfl) ⟨hQ.drewN 1,Below.dN (Below.refl _ wr) 1⟩ (fun hHeld=>?_)
       refine go_take 0 23 _ (.agg #[.slice xo nx xc,.slice yo ny yc,.int .i64 (C1:Int),.slice ko nx kc]) rfl (by kernel_rfl) (by kernel_rfl) (by kernel_rfl) (by kernel_rfl) (fun _ _ _ h=>h) (Or.inl ⟨by kernel_rfl,fun u hu=>load_pz hu.1 (.tmp 1) (by kernel_rfl) (by kernel_rfl)⟩) hHeld ?_
       simp only[Act.put,List.setIfInBounds_toArray,List.set_cons_zero,List.set_cons_succ]
       refine go_callH 1 24 _ rfl (by kernel_rfl) (by kernel_rfl) (by kernel_rfl) 183 #[.tmp 23] #[243] (by kernel_rfl) #[.agg #[.slice xo nx xc,.slice yo ny yc,.int .i64 (C1:Int),.slice ko nx kc]] (by kernel_rfl) (enters_of Tryz.func183 (by kernel_rfl) rfl) (.bool true) (empty_held hHeld (.inl HE)) (fun u hHeld=>?_)
       simp only[Act.put,List.setIfInBounds_toArray,List.set_cons_zero,List.set_cons_succ]
       refine go_take 2 25 _ (.bool false) rfl (by kernel_rfl) (by kernel_rfl) (by kernel_rfl) (by kernel_rfl) (fun _ _ _ h=>h) (Or.inl ⟨by kernel_rfl,fun u hu=>by kernel_rfl⟩) hHeld ?_
       simp only[Act.put,List.setIfInBounds_toArray,List.set_cons_zero,List.set_cons_succ]
       refine go_take 3 26 _ (.bool false) rfl (by kernel_rfl) (by kernel_rfl) (by kernel_rfl) (by kernel_rfl) (fun _ _ _ h=>h) (Or.inl ⟨by kernel_rfl,fun u hu=>by kernel_rfl⟩) hHeld ?_
       simp only[Act.put,List.setIfInBounds_toArray,List.set_cons_zero,List.set_cons_succ]
       refine go_take 4 27 _ undef rfl (by kernel_rfl) (by kernel_rfl) (by kernel_rfl) (by kernel_rfl) (fun _ _ _ h=>h) (Or.inr ⟨by kernel_rfl,rfl⟩) hHeld ?_
       simp only[Act.put,List.setIfInBounds_toArray,List.set_cons_zero,List.set_cons_succ]
       refine go_take 5 28 _ undef rfl (by kernel_rfl) (by kernel_rfl) (by kernel_rfl) (by kernel_rfl) (fun _ _ _ h=>h) (Or.inr ⟨by kernel_rfl,rfl⟩) hHeld ?_
       simp only[Act.put,List.setIfInBounds_toArray,List.set_cons_zero,List.set_cons_succ]
       refine go_take 6 29 _ undef rfl (by kernel_rfl) (by kernel_rfl) (by kernel_rfl) (by kernel_rfl) (fun _ _ _ h=>h) (Or.inr ⟨by kernel_rfl,rfl⟩) hHeld ?_
       simp only[Act.put,List.setIfInBounds_toArray,List.set_cons_zero,List.set_cons_succ]
       refine go_take 7 30 _ undef rfl (by kernel_rfl) (by kernel_rfl) (by kernel_rfl) (by kernel_rfl) (fun _ _ _ h=>h) (Or.inr ⟨by kernel_rfl,rfl⟩) hHeld ?_
       simp only[Act.put,List.setIfInBounds_toArray,List.set_cons_zero,List.set_cons_succ]
       refine go_take 8 31 _ undef rfl (by kernel_rfl) (by kernel_rfl) (by kernel_rfl) (by kernel_rfl) (fun _ _ _ h=>h) (Or.inr ⟨by kernel_rfl,rfl⟩) hHeld ?_
       simp only[Act.put,List.setIfInBounds_toArray,List.set_cons_zero,List.set_cons_succ]
       refine go_take 9 32 _ undef rfl (by kernel_rfl) (by kernel_rfl) (by kernel_rfl) (by kernel_rfl) (fun _ _ _ h=>h) (Or.inr ⟨by kernel_rfl,rfl⟩) hHeld ?_
       simp only[Act.put,List.setIfInBounds_toArray,List.set_cons_zero,List.set_cons_succ]
       refine go_take 10 33 _ undef rfl (by kernel_rfl) (by kernel_rfl) (by kernel_rfl) (by kernel_rfl) (fun _ _ _ h=>h) (Or.inr ⟨by kernel_rfl,rfl⟩) hHeld ?_
       simp only[Act.put,List.setIfInBounds_toArray,List.set_cons_zero,List.set_cons_succ]
       refine go_take 11 34 _ undef rfl (by kernel_rfl) (by kernel_rfl) (by kernel_rfl) (by kernel_rfl) (fun _ _ _ h=>h) (Or.inr ⟨by kernel_rfl,rfl⟩) hHeld ?_
       simp only[Act.put,List.setIfInBounds_toArray,List.set_cons_zero,List.set_cons_succ]
       refine go_take 12 35 _ undef rfl (by kernel_rfl) (by kernel_rfl) (by kernel_rfl) (by kernel_rfl) (fun _ _ _ h=>h) (Or.inr ⟨by kernel_rfl,rfl⟩) hHeld ?_
       simp only[Act.put,List.setIfInBounds_toArray,List.set_cons_zero,List.set_cons_succ]
       refine go_take 13 36 _ undef rfl (by kernel_rfl) (by kernel_rfl) (by kernel_rfl) (by kernel_rfl) (fun _ _ _ h=>h) (Or.inr ⟨by kernel_rfl,rfl⟩) hHeld ?_
       simp only[Act.put,List.setIfInBounds_toArray,List.set_cons_zero,List.set_cons_succ]
       refine go_take 14 37 _ undef rfl (by kernel_rfl) (by kernel_rfl) (by kernel_rfl) (by kernel_rfl) (fun _ _ _ h=>h) (Or.inr ⟨by kernel_rfl,rfl⟩) hHeld ?_
       simp only[Act.put,List.setIfInBounds_toArray,List.set_cons_zero,List.set_cons_succ]
       refine go_take 15 38 _ undef rfl (by kernel_rfl) (by kernel_rfl) (by kernel_rfl) (by kernel_rfl) (fun _ _ _ h=>h) (Or.inr ⟨by kernel_rfl,rfl⟩) hHeld ?_
       simp only[Act.put,List.setIfInBounds_toArray,List.set_cons_zero,List.set_cons_succ]
       refine go_take 16 39 _ undef rfl (by kernel_rfl) (by kernel_rfl) (by kernel_rfl) (by kernel_rfl) (fun _ _ _ h=>h) (Or.inr ⟨by kernel_rfl,rfl⟩) hHeld ?_
       simp only[Act.put,List.setIfInBounds_toArray,List.set_cons_zero,List.set_cons_succ]
       refine go_take 17 40 _ undef rfl (by kernel_rfl) (by kernel_rfl) (by kernel_rfl) (by kernel_rfl) (fun _ _ _ h=>h) (Or.inr ⟨by kernel_rfl,rfl⟩) hHeld ?_
       simp only[Act.put,List.setIfInBounds_toArray,List.set_cons_zero,List.set_cons_succ]
       refine go_take 18 41 _ undef rfl (by kernel_rfl) (by kernel_rfl) (by kernel_rfl) (by kernel_rfl) (fun _ _ _ h=>h) (Or.inr ⟨by kernel_rfl,rfl⟩) hHeld ?_
       simp only[Act.put,List.setIfInBounds_toArray,List.set_cons_zero,List.set_cons_succ]
       refine go_take 19 42 _ undef rfl (by kernel_rfl) (by kernel_rfl) (by kernel_rfl) (by kernel_rfl) (fun _ _ _ h=>h) (Or.inr ⟨by kernel_rfl,rfl⟩) hHeld ?_
       simp only[Act.put,List.setIfInBounds_toArray,List.set_cons_zero,List.set_cons_succ]
       refine go_take 20 43 _ undef rfl (by kernel_rfl) (by kernel_rfl) (by kernel_rfl) (by kernel_rfl) (fun _ _ _ h=>h) (Or.inr ⟨by kernel_rfl,rfl⟩) hHeld ?_
       simp only[Act.put,List.setIfInBounds_toArray,List.set_cons_zero,List.set_cons_succ]
       refine go_take 21 44 _ (.bool false) rfl (by kernel_rfl) (by kernel_rfl) (by kernel_rfl) (by kernel_rfl) (fun _ _ _ h=>h) (Or.inl ⟨by kernel_rfl,fun u hu=>by kernel_rfl⟩) hHeld ?_
       simp only[Act.put,List.setIfInBounds_toArray,List.set_cons_zero,List.set_cons_succ]
       refine wpAnyH_done (by kernel_rfl) ?_ _
       refine NoPanic.normal ?_
       go_wp2_with fail
       go_meet
       case rel=>exact⟨rfl,hHeld.2⟩
      ·obtain⟨px,rfl⟩:∃ q,nx=q+1:=⟨nx-1,by omega⟩
       obtain⟨py,rfl⟩:∃ q,ny=q+1:=⟨ny-1,by omega⟩
       obtain⟨xb,xf,xcc,hxe,hxb,hcx⟩:=Holds.at (Holds.keep hT.pz.hx (fun q hq=>hlow.block q hq)) (by rw[icells_length,sub_length x A1 b' hbx];omega)
       obtain⟨yb,yf,ycc,hye,hyb,hcy⟩:=Holds.at (Holds.keep hT.pz.hy (fun q hq=>hlow.block q hq)) (by rw[icells_length,sub_length y C1 d' hdy];omega)
       cases hxe
       cases hye
       have x0:=hcx px (by rw[icells_length,sub_length x A1 b' hbx];omega)
       have y0:=hcy py (by rw[icells_length,sub_length y C1 d' hdy];omega)
       obtain⟨zx,hzx⟩:∃ z,(sub x A1 b')[px]?=some z:=⟨_,List.getElem?_eq_getElem (by rw[sub_length x A1 b' hbx];omega)⟩
       obtain⟨zy,hzy⟩:∃ z,(sub y C1 d')[py]?=some z:=⟨_,List.getElem?_eq_getElem (by rw[sub_length y C1 d' hdy];omega)⟩
       have x1:wr.cell? ⟨xb,xf+px,none⟩=some (.int .i64 zx):=by
        rw[x0]
        have:=hzx
        rw[List.getElem?_eq_getElem (by rw[sub_length x A1 b' hbx];omega)] at this
        simp[icells,Option.some.inj this]
       have y1:wr.cell? ⟨yb,yf+py,none⟩=some (.int .i64 zy):=by
        rw[y0]
        have:=hzy
        rw[List.getElem?_eq_getElem (by rw[sub_length y C1 d' hdy];omega)] at this
        simp[icells,Option.some.inj this]
       have e3:(zx == zy)=r:=by
        have q3:=(sub_some hzx).2
        have q4:=(sub_some hzy).2
        rw[← HRr.out,show b'-1=A1+px by omega,show d'-1=C1+py by omega,q3,q4]
        have q1:A1<b':=by omega
        have q2:C1<d':=by omega
        by_cases q:zx=zy<;>simp[q1,q2,q]
       have HE:Hid (false=decide (px+1=0∨py+1=0)):=(decide_eq_false (by omega)).symm
       have i1:(px:Int)<((px+1:Nat):Int):=by omega
       have i2:(py:Int)<((py+1:Nat):Int):=by omega
       have i1':(px:Int)<(px:Int)+1:=by omega
       have i2':(py:Int)<(py:Int)+1:=by omega
       have i3:0≤(px:Int):=by omega
       have i4:0≤(py:Int):=by omega
       have n1:IntKind.i64.wrap ((px:Int)+1-1)=(px:Int):=by rw[IntKind.wrap_i64];omega
       have n2:IntKind.i64.wrap ((py:Int)+1-1)=(py:Int):=by rw[IntKind.wrap_i64];omega
       have n3:IntKind.i64.wrap (px:Int)=(px:Int):=by rw[IntKind.wrap_i64];omega
       have n4:IntKind.i64.wrap (py:Int)=(py:Int):=by rw[IntKind.wrap_i64];omega
       have n5:(px:Int)+1-1=(px:Int):=by omega
       have n6:(py:Int)+1-1=(py:Int):=by omega
       have hcs:∀ u:World,Low wr u→u.cell? ⟨w.heap.size,0,none⟩=some (.slice (some ⟨xb,xf,none⟩) (px+1) xc)∧u.cell? ⟨w.heap.size,1,none⟩=some (.slice (some ⟨yb,yf,none⟩) (py+1) yc)∧u.cell? ⟨w.heap.size,2,none⟩=some (.int .i64 (C1:Int))∧u.cell? ⟨w.heap.size,3,none⟩=some (.slice ko (px+1) kc)∧u.cell? ⟨xb,xf+px,none⟩=some (.int .i64 zx)∧u.cell? ⟨yb,yf+py,none⟩=some (.int .i64 zy):=fun u hu=>by
        obtain⟨d0,d1,d2,d3⟩:=(hQ.low hu).cells
        exact⟨d0,d1,d2,d3,cell_low hu x1,cell_low hu y1⟩
       have hLw:Low wr wr:=Below.refl _ _
       clear x0 y0 hcx hcy hzx hzy HRr hxb hyb
       go_region_held3 (fun u=>u.cell? ⟨w.heap.size,0,none⟩=some (.slice (some ⟨xb,xf,none⟩) (px+1) xc)∧u.cell? ⟨w.heap.size,1,none⟩=some (.slice (some ⟨yb,yf,none⟩) (py+1) yc)∧u.cell? ⟨w.heap.size,2,none⟩=some (.int .i64 (C1:Int))∧u.cell? ⟨w.heap.size,3,none⟩=some (.slice ko (px+1) kc)∧u.cell? ⟨xb,xf+px,none⟩=some (.int .i64 zx)∧u.cell? ⟨yb,yf+py,none⟩=some (.int .i64 zy)∧Low wr u) (go_keep)
        (first | (go_at_call 183;refine (Empty_low (some ⟨xb,xf,none⟩) (px+1) xc (some ⟨yb,yf,none⟩) (py+1) yc C1 ko kc _ wr false HE (by first | assumption | (simp[*];done))).mono ?_;rintro e wd ⟨rfl,hlw⟩;obtain⟨g0,g1,g2,g3,g4,g5⟩:=hcs wd hlw))
       go_wp2
       go_meet
       case rel=>exact⟨rfl,by first | assumption | (simp[*];done)⟩
     case rest =>
      obtain⟨rfl,hLz⟩:=hcut
      have hTz:=hT.low hLz
      have cw:=c0
      clear c0 c1 c2 c3 hT hlow hQ hLz
      generalize wc=u0 at hTz ⊢
      obtain⟨c0,c1,c2,c3⟩:=hTz.box.cells
      cases r with
      | true =>
       have hh:=of_decide_eq_true HRr.out
       obtain⟨h1,h2,h3⟩:=hh
       obtain⟨px,rfl⟩:∃ q,nx=q+1:=⟨nx-1,by omega⟩
       obtain⟨py,rfl⟩:∃ q,ny=q+1:=⟨ny-1,by omega⟩
       have HV2:Hid (A1+px-tb x y A1 (A1+px) C1 (C1+py)=b-m∧C1+py-tb x y A1 (A1+px) C1 (C1+py)=d-m∧wrk (wrk K2 (fp (A1+px) (C1+py) 1)) (bp (A1+px) (C1+py) (tb x y A1 (A1+px) C1 (C1+py)))=wrk KF (bp b d m)):=(by
        have:=HV.out
        rw[tb,if_pos ⟨h1,h2,h3⟩,show b'-1=A1+px by omega,show d'-1=C1+py by omega] at this
        obtain⟨q1,q2,q3⟩:=this
        refine⟨by omega,by omega,?_⟩
        rw[← q3,← wrk_append,bp,show b'-1=A1+px by omega,show d'-1=C1+py by omega]
        rfl)
       clear HV HRr h3
       have hkk:=hTz.pz.hk
       have hxk:=hold_cap hTz.pz.hx
       have hyk:=hold_cap hTz.pz.hy
       have n1:IntKind.i64.wrap ((px:Int)+1-1)=(px:Int):=by rw[IntKind.wrap_i64];omega
       have n2:IntKind.i64.wrap ((py:Int)+1-1)=(py:Int):=by rw[IntKind.wrap_i64];omega
       have n3:IntKind.i64.wrap (px:Int)=(px:Int):=by rw[IntKind.wrap_i64];omega
       have n4:IntKind.i64.wrap (py:Int)=(py:Int):=by rw[IntKind.wrap_i64];omega
       have n5:(px:Int)+1-1=(px:Int):=by omega
       have n6:(py:Int)+1-1=(py:Int):=by omega
       go_wp2_with fail
       go_big_quiet (fail)
       have hTq:=hTz.low (Below.dN (Below.refl _ u0) nq)
       clear hTz c0 c1 c2 c3
       generalize u0.drewN nq=uq at hTq ⊢
       obtain⟨c0,c1,c2,c3⟩:=hTq.box.cells
       go_wp2_with fail
       refine (Keep_1 K2 xo (px+1) xc yo (py+1) yc A1 C1 ko kc uq px py hTq.ls hTq.pz.at' (by omega) (by omega) (by omega) (by omega)).mono ?_
       rintro e u1 ⟨rfl,hS1,hG1⟩
       have hT1:=hTq.kept hgw hS1 hG1
       clear hTq c0 c1 c2 c3 hS1 hG1
       obtain⟨c0,c1,c2,c3⟩:=hT1.box.cells
       go_wp2_with fail
       refine (UpTo_f xo (px+1) xc yo (py+1) yc C1 ko kc u1 px py (by omega) (by omega) hxk hyk hkk).mono ?_
       rintro e u2 ⟨rfl,hB2⟩
       have hT2:=hT1.low hB2
       clear hT1 c0 c1 c2 c3 hB2
       obtain⟨c0,c1,c2,c3⟩:=hT2.box.cells
       have f0:=hT2.box.frozen
       have hT3:=hT2.put hgw (hT2.pz.to (i:=px) (j:=py) (by omega) (by omega))
       unfold pzV
       go_wp2
       go_roundw
       case rel=>exact⟨A1+px,C1+py,_,_,_,_,_,_,_,_,_,hT3,HV2⟩
       case measure =>
        refine Nat.lt_of_le_of_lt (Nat.le_of_eq (congrArg (fun o=>lenOf (Option.getD o undef)) hT3.box.cells.1)) ?_
        rw[cw]
        simp[lenOf]
      | false =>
       have hh:=of_decide_eq_false HRr.out
       have hz:tb x y A1 b' C1 d'=0:=by rw[tb,if_neg hh]
       obtain⟨q1,q2,q3⟩:=HV.out
       rw[hz] at q1 q2 q3
       have HQ:Hid (K2=wrk KF (bp b d m)∧b'=b-m∧d'=d-m):=⟨q3,by omega,by omega⟩
       clear hh hz q1 q2 q3 HV HRr cw
       have f1:=hTz.res.frozen
       obtain⟨e0,e1,e2,e3⟩:=hTz.res.cells
       have s4:=hTz.res.put (.slice xo nx xc) (.slice yo ny yc) (.int .i64 (C1:Int)) (.slice ko nx kc)
       have hg1:=hTz.ls.lt
       have hl1:=hTz.ls.low.size
       have hs1:=hTz.gr.size
       have hlt:=hTz.res.lt
       have hL4:=ls_other (ls_other (ls_other (ls_other hTz.ls (g:=w.heap.size+1) (by omega) (by omega) 0 (.slice xo nx xc)) (g:=w.heap.size+1) (by omega) (by omega) 1 (.slice yo ny yc)) (g:=w.heap.size+1) (by omega) (by omega) 2 (.int .i64 (C1:Int))) (g:=w.heap.size+1) (by omega) (by omega) 3 (.slice ko nx kc)
       have hG4:=grown_new (grown_new (grown_new (grown_new hTz.gr (B:=w.heap.size+1) (by omega) 0 (.slice xo nx xc)) (B:=w.heap.size+1) (by omega) 1 (.slice yo ny yc)) (B:=w.heap.size+1) (by omega) 2 (.int .i64 (C1:Int))) (B:=w.heap.size+1) (by omega) 3 (.slice ko nx kc)
       have hpz:=hTz.pz
       go_wp2
       refine bodyPost_ret (v:=.agg #[.slice xo nx xc,.slice yo ny yc,.int .i64 (C1:Int),.slice ko nx kc]) (results_cell_row rfl _ _ (w.heap.size+1) 243 #[.slice xo nx xc,.slice yo ny yc,.int .i64 (C1:Int),.slice ko nx kc] (0,0) _ rfl s4 Tryz.underlying243 rfl (by kernel_rfl)) rfl ⟨k,m,xo,nx,xc,yo,ny,yc,ko,kc,HFin.out.1,HFin.out.2.1,?_,?_,?_,hG4⟩
       ·rw[← HFin.out.2.2.2.1]
       ·rw[← HFin.out.2.2.1,← HFin.out.2.2.2.1,← HQ.out.2.1,← HQ.out.2.2]
        exact hpz
       ·rw[← HFin.out.2.2.2.2,← HQ.out.1]
        exact hL4
end Go.Proofs.YtgiojkhmkeocfaaGreatDoor

/- The package pieces: KeepAt and KeepMost, walked. -/
namespace Go.Proofs.YtgiojkhmkeocfaaGreatDoor
open Go.RowKit
theorem KeepAt_f (x:List Int) (W0 w:World) (g B:Nat) (K Z:List Int) (a c:Nat) (xo:Option Addr) (nx xc:Nat) (yo:Option Addr) (ny yc:Nat) (ko:Option Addr) (kc:Nat) (hat:0<nx→ko=some ⟨g,a,none⟩) (hnx:a+nx≤x.length) (hny:c+ny≤4096) (hxl:x.length≤4096) (zo:Option Addr) (zc:Nat) (hZl:Z.length=nx) (hO0:w.ownsRow B 3 1 (.slice zo nx zc) nx (icells Z)) (hgB:g<B) (hV:Vk 0 ny Z) (hS:Ls W0 g x.length K w) (KF:List Int) (hKF:Hid (wrk K (lp a c Z)=KF)) :
  Calls Tryz.prog 193 #[.agg #[.slice xo nx xc,.slice yo ny yc,.int .i64 (c:Int),.slice ko nx kc],.slice zo nx zc] w fun e w'=>e=.returned (.tuple #[])∧Ls W0 g x.length KF w'∧w.grownBy w' (some g):=by
 have hgw:=hS.lt.2
 have HZL:Hid (Z.length=nx):=hZl
 have HV:Hid (Vk 0 ny Z):=hV
 have hB0:=(Below.refl w.heap.size w).alloc (Nat.le_refl _) (.cells #[.slice xo nx xc,.slice yo ny yc,.int .i64 c,.slice ko nx kc] 243)
 have hQ2:=Qbx.new w (.slice xo nx xc) (.slice yo ny yc) (.int .i64 c) (.slice ko nx kc)
 have hS2:=hS.keep hB0
 have hG2:=low_grown hB0 (some g)
 have hO:=owns_keep hO0 hB0
 clear hS hB0 hO0 hZl hV
 go_enter Tryz.func193,Tryz.ntmps193
 go_wp2
 go_loopw [8] (fun iv wr=>∃ (i:Nat) (K2:List Int),i≤nx∧iv=.int .i64 i∧Ls W0 g x.length K2 wr∧w.grownBy wr (some g)∧Qbx wr w.heap.size (.slice xo nx xc) (.slice yo ny yc) (.int .i64 c) (.slice ko nx kc)∧wr.ownsRow B 3 1 (.slice zo nx zc) nx (icells Z)∧Hid (wrk K2 (lp ((a:Int)+i) c (Z.drop i))=KF)) (fun iv _=>nx-(intOf iv).toNat)
 case atStart=>exact⟨0,K,Nat.zero_le _,rfl,hS2,hG2,hQ2,hO,by simpa using hKF⟩
 case round =>
  clear hS2 hG2 hQ2 hO hKF
  obtain⟨i,K2,hi,rfl,hS,hG,hQ,hO,HW⟩:=hrel
  by_cases hlt:i<nx
  ·have hiZ:i<Z.length:=by have:=HZL.out;omega
   obtain⟨zb,zf,zcc,hze,_,hcz⟩:=Holds.at (holds_of hO) (by rw[icells_length];omega)
   cases hze
   have z0:=hcz i (by rw[icells_length];omega)
   obtain⟨j,hj⟩:∃ j,Z[i]=j:=⟨_,rfl⟩
   have z1:wr.cell? ⟨zb,zf+i,none⟩=some (.int .i64 j):=by rw[z0];simp[icells,hj]
   have hjv:=(HV.out.each (Int.le_refl _)) j (by rw[← hj];exact List.getElem_mem _)
   have hjl:=HV.out.lt j (by rw[← hj];exact List.getElem_mem _)
   have HW2:Hid (wrk K2 ((if j=-1 then [] else [⟨(a:Int)+i,c+j⟩])++lp ((a:Int)+i+1) c (Z.drop (i+1)))=KF):=(by
    show _=_
    have:=HW.out
    rw[List.drop_eq_getElem_cons hiZ,lp,hj] at this
    exact this)
   clear z0 hcz hj HW
   have i1:0≤(i:Int):=by omega
   have i2:(i:Int)<(nx:Int):=by omega
   by_cases hj1:j=-1
   ·have e1:(j != -1)=false:=by simp[hj1]
    have HW3:Hid (wrk K2 (lp ((a:Int)+((i+1:Nat):Int)) c (Z.drop (i+1)))=KF):=(by
     show _=_
     rw[← HW2.out,if_pos hj1,List.nil_append,show (a:Int)+((i+1:Nat):Int)=(a:Int)+i+1 by omega])
    clear HW2 hj1 hjv hjl
    go_wp2
    go_roundw
    case rel=>exact⟨i+1,K2,by omega,by go_num,hS,hG,hQ,hO,HW3⟩
    case measure=>simp[intOf];omega
   ·have e1:(j != -1)=true:=by simp[hj1]
    obtain⟨q,rfl⟩:∃ q:Nat,j=q:=⟨j.toNat,by omega⟩
    have hqn:q<ny:=by omega
    have HW3:Hid (wrk (wrk K2 (fp (a+i) (c+q) 1)) (lp ((a:Int)+((i+1:Nat):Int)) c (Z.drop (i+1)))=KF):=(by
     show _=_
     rw[← HW2.out,if_neg hj1,← wrk_append,show (a:Int)+((i+1:Nat):Int)=(a:Int)+i+1 by omega]
     rfl)
    clear HW2 hj1 hjv hjl
    obtain⟨c0,c1,c2,c3⟩:=hQ.cells
    go_wp2_with fail
    refine (Keep_1 K2 xo nx xc yo ny yc a c ko kc wr i q hS hat hnx (by omega) (by omega) (by omega)).mono ?_
    rintro e u1 ⟨rfl,hS1,hG1⟩
    have hQ1:=hQ.keep hG1 (by simp;omega)
    have hO1:=holds_grown hO hG1 hgB
    have hG2:=hG.trans hG1
    clear c0 c1 c2 c3 hS hG hQ hO hG1
    go_wp2
    go_roundw
    case rel=>exact⟨i+1,_,by omega,by go_num,hS1,hG2,hQ1,hO1,HW3⟩
    case measure=>simp[intOf];omega
  ·obtain rfl:i=nx:=by omega
   have e:K2=KF:=by
    have:=HW.out
    rw[List.drop_of_length_le (by have:=HZL.out;omega)] at this
    exact this
   subst e
   go_wp2
   go_end0
   exact⟨rfl,hS,hG⟩
theorem KeepMost_f (x y:List Int) (W0 w:World) (g:Nat) (K:List Int) (a b c d:Nat) (xo:Option Addr) (nx xc:Nat) (yo:Option Addr) (ny yc:Nat) (ko:Option Addr) (kc:Nat) (hp:Pz W0 g x y a b c d xo nx xc yo ny yc ko kc) (hxl:x.length≤4096) (hyl:y.length≤4096) (hS:Ls W0 g x.length K w) (KF:List Int) (hKF:Hid (wrk K (lp a c (kp 0 (sub x a b) (sub y c d)))=KF)) :
  Calls Tryz.prog 186 #[.agg #[.slice xo nx xc,.slice yo ny yc,.int .i64 (c:Int),.slice ko nx kc]] w fun e w'=>e=.returned (.tuple #[])∧Ls W0 g x.length KF w'∧w.grownBy w' (some g):=by
 have hgw:=hS.lt.2
 have hlow:=hS.low
 obtain⟨X,hX⟩:∃ X,sub x a b=X:=⟨_,rfl⟩
 obtain⟨Y,hY⟩:∃ Y,sub y c d=Y:=⟨_,rfl⟩
 obtain⟨e1,e2,e3,e4,hx,hy,hk,hat⟩:=hp
 have hXl:X.length=nx:=by rw[← hX,sub_length x a b e3];omega
 have hYl:Y.length=ny:=by rw[← hY,sub_length y c d e4];omega
 rw[hX] at hx hKF
 rw[hY] at hy hKF
 obtain⟨Z,hZ⟩:∃ Z,kp 0 X Y=Z:=⟨_,rfl⟩
 have hZl:Z.length=nx:=by rw[← hZ,kp_length,hXl]
 have hV:Vk 0 Y.length Z:=by
  have:=kp_vk 0 X Y (Int.le_refl _)
  rw[hZ,Int.zero_add] at this
  exact this
 obtain⟨S,hS0⟩:∃ S,mkL Z Y.length=S:=⟨_,rfl⟩
 obtain⟨hSc,hkm,hlen⟩:=keep_mk hV (by omega) (by omega) (by omega)
 rw[hS0] at hSc hkm hlen
 have HS0:Hid (mkL (kp 0 X Y) Y.length=S):=(by show _=_;rw[hZ,hS0])
 rw[hZl,hYl] at hSc hkm hlen
 rw[hYl] at hV
 rw[hZ] at hKF
 have HKM:Hid (keepL S nx ny=Z):=hkm
 have hSl:S.length≤1048576:=by omega
 have HZL:Hid (Z.length=nx):=hZl
 have HV:Hid (Vk 0 ny Z):=hV
 have HE:Hid (b=a+nx∧d=c+ny∧b≤x.length∧d≤y.length∧X.length=nx∧Y.length=ny):=⟨e1,e2,e3,e4,hXl,hYl⟩
 have hnx:a+nx≤x.length:=by omega
 have hny:c+ny≤y.length:=by omega
 have hx0:HI (w.alloc (.cells #[.slice xo nx xc,.slice yo ny yc,.int .i64 c,.slice ko nx kc] 243)) (.slice xo nx xc) X:=(by
  unfold HI
  rw[hXl]
  exact Holds.keep hx (fun q hq=>((hlow.alloc hlow.size _).block q hq)))
 have hy0:HI (w.alloc (.cells #[.slice xo nx xc,.slice yo ny yc,.int .i64 c,.slice ko nx kc] 243)) (.slice yo ny yc) Y:=(by
  unfold HI
  rw[hYl]
  exact Holds.keep hy (fun q hq=>((hlow.alloc hlow.size _).block q hq)))
 have hQ0:=Qbx.new w (.slice xo nx xc) (.slice yo ny yc) (.int .i64 c) (.slice ko nx kc)
 have hB0:=(Below.refl w.heap.size w).alloc (Nat.le_refl _) (.cells #[.slice xo nx xc,.slice yo ny yc,.int .i64 c,.slice ko nx kc] 243)
 clear hX hY hZ hS0 hkm hlen hZl hV hXl hYl e1 e2 hlow
 go_enter Tryz.func186,Tryz.ntmps186
 go_wp2_with fail
 refine (Diff_f X Y _ _ _ hx0 hy0 (by have:=HE.out;omega) (by have:=HE.out;omega) S HS0).mono ?_
 rintro e w1 ⟨v1,rfl,hv1,hB1⟩
 obtain⟨so,sc,rfl⟩:=Holds.form hv1
 have hQ1:=hQ0.low hB1
 obtain⟨c0,c1,c2,c3⟩:=hQ1.cells
 have hBw1:Below w.heap.size w w1:=hB0.trans (hB1.mono (by simp))
 clear hQ0 hB1 hB0 hx0 hy0
 go_wp2_with fail
 refine (Keep_own S nx ny _ w1 hv1 hSc (by omega) (by omega) hSl).mono ?_
 rintro e W1 ⟨v2,B,rfl,hBB,hO,hB2⟩
 rw[HKM.out] at hO
 obtain⟨zo,zc,rfl⟩:=(holds_of hO).form
 rw[HZL.out]
 rw[HZL.out] at hO
 have hQ2:=hQ1.low hB2
 have hBW:Below w.heap.size w W1:=hBw1.trans (hB2.mono hBw1.size)
 have hS2:=hS.keep hBW
 have hG2:=low_grown hBW (some g)
 have hgB:g<B:=by have:=hBw1.size;omega
 have hnz:c+ny≤4096:=by omega
 obtain⟨q0,q1,q2,q3⟩:=hQ2.cells
 clear c0 c1 c2 c3 hQ1 hBw1 hB2 hBW hBB hS hv1 hSc hSl
 go_wp2_with fail
 refine (KeepAt_f x W0 W1 g B K Z a c xo nx xc yo ny yc ko kc hat hnx hnz hxl zo zc HZL.out hO hgB HV.out hS2 KF hKF).mono ?_
 rintro e u1 ⟨rfl,hS3,hG3⟩
 have hG4:=hG2.trans hG3
 go_wp2
 go_end0
 exact⟨rfl,hS3,hG4⟩
end Go.Proofs.YtgiojkhmkeocfaaGreatDoor

/- The package pieces: the calls as steps that hand a piece on. -/
namespace Go.Proofs.YtgiojkhmkeocfaaGreatDoor
open Go.RowKit
section
variable {W0:World} {g:Nat} {x y:List Int} {a b c d:Nat} {xo:Option Addr} {nx xc:Nat} {yo:Option Addr} {ny yc:Nat} {ko:Option Addr} {kc:Nat}
theorem UpTo_p (hp:Pz W0 g x y a b c d xo nx xc yo ny yc ko kc) (i j b2 d2:Nat) (hi:i≤nx) (hj:j≤ny) (hb:a+i=b2) (hd:c+j=d2) (W u:World) (hL:Low W u) :
  Calls Tryz.prog 187 #[.agg #[.slice xo nx xc,.slice yo ny yc,.int .i64 (c:Int),.slice ko nx kc],.int .i64 (i:Int),.int .i64 (j:Int)] u fun e w'=>∃ xo' nx' xc' yo' ny' yc' ko' kc',e=.returned (.agg #[.slice xo' nx' xc',.slice yo' ny' yc',.int .i64 (c:Int),.slice ko' nx' kc'])∧Pz W0 g x y a b2 c d2 xo' nx' xc' yo' ny' yc' ko' kc'∧Low W w':=by
 refine (UpTo_f xo nx xc yo ny yc c ko kc u i j hi hj (hold_cap hp.hx) (hold_cap hp.hy) hp.hk).mono ?_
 rintro e w' ⟨rfl,hB⟩
 subst hb hd
 exact⟨_,_,_,_,_,_,_,_,rfl,hp.to hi hj,Below.trans hL (hB.mono (Below.size hL))⟩
theorem From_p (hp:Pz W0 g x y a b c d xo nx xc yo ny yc ko kc) (hyl:y.length≤4096) (i j a2 c2:Nat) (hi:a2≤b) (hj:c2≤d) (ha:a+i=a2) (hc:c+j=c2) (W u:World) (hL:Low W u) :
  Calls Tryz.prog 188 #[.agg #[.slice xo nx xc,.slice yo ny yc,.int .i64 (c:Int),.slice ko nx kc],.int .i64 (i:Int),.int .i64 (j:Int)] u fun e w'=>∃ xo' nx' xc' yo' ny' yc' ko' kc',e=.returned (.agg #[.slice xo' nx' xc',.slice yo' ny' yc',.int .i64 (c2:Int),.slice ko' nx' kc'])∧Pz W0 g x y a2 b c2 d xo' nx' xc' yo' ny' yc' ko' kc'∧Low W w':=by
 have e1:=hp.eb
 have e2:=hp.ed
 have e3:=hp.dy
 refine (From_f xo nx xc yo ny yc c ko kc u i j (by omega) (by omega) (hold_cap hp.hx) (hold_cap hp.hy) hp.hk (by omega)).mono ?_
 rintro e w' ⟨rfl,hB⟩
 subst ha hc
 exact⟨_,_,_,_,_,_,_,_,rfl,hp.from (by omega) (by omega),Below.trans hL (hB.mono (Below.size hL))⟩
end
end Go.Proofs.YtgiojkhmkeocfaaGreatDoor

/- The package pieces: Diff with whatever function finds what is kept, walked. -/
namespace Go.Proofs.YtgiojkhmkeocfaaGreatDoor
open Go.RowKit
theorem betw_many (a b:Int) (l:List Rn):(betw a b l).length≤l.length:=by
 induction l generalizing a b with
 | nil=>simp[betw]
 | cons r l ih =>
  rw[betw]
  have:=ih (r.a+r.n) (r.b+r.n)
  split<;>simp<;>omega
theorem mk_many (K:List Int) (m:Int):(mkL K m).length≤K.length+1:=by
 unfold mkL
 have h1:=betw_many 0 0 (keptR 0 K++[⟨(K.length:Int),m,0⟩])
 have h2:=kept_len 0 K
 rw[List.length_append,List.length_singleton] at h1
 omega
theorem pDiff_f (x y:List Int) (vx vy:Value) (w:World) (hx:HI w vx x) (hy:HI w vy y) (hxl:x.length≤4096) (hyl:y.length≤4096) (F:Nat) (cap:Array Value) (eF:∀ args w,(callFunc F args).run Tryz.prog w=.ok (.enter F args) w) (KF:List Int) (hK:Hid (Kpt x y KF))
  (hf:Hid (∀ (u:World) (g:Nat) (xo:Option Addr) (xc:Nat) (yo:Option Addr) (yc:Nat),Ls w g x.length (List.replicate x.length (-1)) u→Pz w g x y 0 x.length 0 y.length xo x.length xc yo y.length yc (some ⟨g,0,none⟩) x.length→Calls Tryz.prog F (#[.agg #[.slice xo x.length xc,.slice yo y.length yc,.int .i64 0,.slice (some ⟨g,0,none⟩) x.length x.length]]++cap) u fun e w'=>e=.returned (.tuple #[])∧Ls w g x.length KF w'∧u.grownBy w' (some g))) (L:List Ch) (hL:Hid (mkL KF y.length=L)) :
  Calls Tryz.prog 190 #[vx,vy,.func (.func F) #[] cap] w fun e w'=>∃ v',e=.returned (.tuple #[v',.int .i64 0])∧HCh w' v' L∧Below w.heap.size w w':=by
 obtain⟨xo,xc,rfl⟩:=Holds.form hx
 obtain⟨yo,yc,rfl⟩:=Holds.form hy
 have e1:decide ((4096:Int)<(x.length:Int))=false:=decide_eq_false (by omega)
 have e2:decide ((4096:Int)<(y.length:Int))=false:=decide_eq_false (by omega)
 go_enter Tryz.func190,Tryz.ntmps190
 go_wp2_with fail
 have hB0:Below w.heap.size w (w.alloc (Obj.cells #[Value.int IntKind.i64 (-1)] 3)):=(Below.refl _ w).alloc (Nat.le_refl _) _
 refine (Repeat_f x.length (by omega) _ _ (show HI _ _ [-1] from new_holds w _ _ _ _ (by decide))).mono ?_
 rintro e w1 ⟨g,rfl,hO1,hB1⟩
 have hB01:=hB0.trans (hB1.mono hB0.size)
 have hO1':w1.ownsRow w.heap.size 3 1 (.slice (some ⟨g,0,none⟩) x.length x.length) x.length (icells (List.replicate x.length (-1))):=by
  refine⟨hO1.1,?_⟩
  rcases hO1.2 with h | ⟨g',cap,cur,q1,q2,q3⟩
  ·exact .inl h
  ·exact .inr ⟨g',cap,cur,q1,Nat.le_trans (by simp) q2,q3⟩
 have hp:Pz w g x y 0 x.length 0 y.length xo x.length xc yo y.length yc (some ⟨g,0,none⟩) x.length:=⟨by omega,by omega,Nat.le_refl _,Nat.le_refl _,by rw[sub_all];exact hx,by rw[sub_all];exact hy,Nat.le_refl _,fun _=>rfl⟩
 have hc:=hf.out w1 g xo xc yo yc ⟨hB01,hO1'⟩ hp
 clear hB0 hB1 hO1 hO1'
 go_wp2_with (first | (go_at_fn F;refine hc.mono ?_;rintro e w2 ⟨rfl,hS2,hG2⟩) | fail)
 have hKl:=hK.out.len
 have hv2:HI w2 (.slice (some ⟨g,0,none⟩) x.length x.length) KF:=by
  unfold HI
  rw[hKl]
  exact holds_of hS2.own
 refine (Make_f KF y.length L _ w2 hv2 (by omega) hK.out.vk (by omega) (by omega) hL).mono ?_
 rintro e w3 ⟨v3,rfl,hv3,hB3⟩
 have hB:=hS2.low.trans (hB3.mono hS2.low.size)
 clear hc hKl hv2
 go_wp2
 go_ret2
 exact⟨_,rfl,hv3,hB⟩
end Go.Proofs.YtgiojkhmkeocfaaGreatDoor

/- Lines that are there once: plain; the reference's times and Unique, and the law's same, walked. -/
namespace Go.Proofs.YtgiojkhmkeocfaaGreatDoor
open Go.RowKit
def tm (c:Int):List Int→Nat
 | []=>0
 | a::x=>(if a=c then 1 else 0)+tm c x
def ps (c i:Int):Int→List Int→List Pr
 | _,[]=>[]
 | j,b::y=>(if b=c then [⟨i,j⟩] else [])++ps c i (j+1) y
def uq (x0 y0:List Int):Int→List Int→List Pr
 | _,[]=>[]
 | i,a::x=>(if tm a x0=1∧tm a y0=1 then ps a i 0 y0 else [])++uq x0 y0 (i+1) x
def unq (x y:List Int):List Pr:=uq x y 0 x
end Go.Proofs.YtgiojkhmkeocfaaGreatDoor

/- What is kept of two pieces, by the layer patience: plain. -/
namespace Go.Proofs.YtgiojkhmkeocfaaGreatDoor
theorem pick_mem (left:Nat) (last:Option Pr) (l:List Pr) (ns:List Nat):∀ p∈pick left last l ns,p∈l:=by
 induction l generalizing left last ns with
 | nil=>intro p hp;simp[pick] at hp
 | cons a l ih =>
  intro p hp
  cases ns with
  | nil=>simp[pick] at hp
  | cons n ns =>
   rw[pick] at hp
   split at hp
   ·rcases List.mem_cons.1 hp with rfl | hp
    ·exact List.mem_cons_self ..
    ·exact List.mem_cons_of_mem _ (ih _ _ _ p hp)
   ·exact List.mem_cons_of_mem _ (ih _ _ _ p hp)
theorem pick_rise (left:Nat) (last:Option Pr) (l:List Pr) (ns:List Nat):(pick left last l ns).Pairwise (fun p q=>ab q p)∧∀ q,last=some q→∀ p∈pick left last l ns,ab p q:=by
 induction l generalizing left last ns with
 | nil=>exact⟨by simp[pick],fun _ _ p hp=>by simp[pick] at hp⟩
 | cons a l ih =>
  cases ns with
  | nil=>exact⟨by simp[pick],fun _ _ p hp=>by simp[pick] at hp⟩
  | cons n ns =>
   rw[pick]
   split
   ·rename_i h
    obtain⟨h1,h2⟩:=ih (left-1) (some a) ns
    refine⟨List.Pairwise.cons (fun q hq=>h2 a rfl q hq) h1,fun q hq p hp=>?_⟩
    rcases List.mem_cons.1 hp with rfl | hp
    ·exact h.2 q hq
    ·exact ab_trans (h2 a rfl p hp) (h.2 q hq)
   ·exact ih left last ns
theorem lng_mem (l:List Pr):∀ p∈lng l,p∈l:=pick_mem _ _ _ _
theorem lng_rise (l:List Pr):(lng l).Pairwise (fun p q=>ab q p):=(pick_rise _ _ _ _).1
theorem ps_mem {c i:Int} (y:List Int):∀ (j:Int) (p:Pr),p∈ps c i j y→p.X=i∧j≤p.Y∧p.Y<j+y.length:=by
 induction y with
 | nil=>intro j p hp;simp[ps] at hp
 | cons b y ih =>
  intro j p hp
  rw[ps,List.mem_append] at hp
  rcases hp with hp | hp
  ·split at hp
   ·simp at hp
    subst hp
    exact⟨rfl,Int.le_refl _,by simp;omega⟩
   ·simp at hp
  ·have:=ih (j+1) p hp
   simp only[List.length_cons]
   omega
theorem uq_mem (x0 y0:List Int) (x:List Int):∀ (i:Int) (p:Pr),p∈uq x0 y0 i x→i≤p.X∧p.X<i+x.length∧0≤p.Y∧p.Y<y0.length:=by
 induction x with
 | nil=>intro i p hp;simp[uq] at hp
 | cons a x ih =>
  intro i p hp
  rw[uq,List.mem_append] at hp
  rcases hp with hp | hp
  ·split at hp
   ·have:=ps_mem y0 0 p hp
    simp only[List.length_cons]
    omega
   ·simp at hp
  ·have:=ih (i+1) p hp
   simp only[List.length_cons]
   omega
theorem lu_mem (x y:List Int) (p:Pr) (hp:p∈lng (unq x y)):0≤p.X∧p.X<x.length∧0≤p.Y∧p.Y<y.length:=by
 have:=uq_mem x y x 0 p (lng_mem _ p hp)
 omega
def gos (rec:Nat→Nat→Nat→Nat→List Pr) (A C b d:Nat):Nat→Nat→List Pr→List Pr
 | a,c,[]=>rec a b c d
 | a,c,p::L=>rec a (A+p.X.toNat) c (C+p.Y.toNat)++⟨(A+p.X.toNat:Nat),(C+p.Y.toNat:Nat)⟩::gos rec A C b d (A+p.X.toNat+1) (C+p.Y.toNat+1) L
def pmid (x y:List Int) (rec:Nat→Nat→Nat→Nat→List Pr) (a b c d:Nat):List Pr :=
 if lng (unq (sub x a b) (sub y c d))=[] then lp a c (kp 0 (sub x a b) (sub y c d)) else gos rec a c b d a c (lng (unq (sub x a b) (sub y c d)))
theorem ps_eqs {c i:Int} (y:List Int):∀ (j:Nat) (p:Pr),p∈ps c i j y→y[p.Y.toNat-j]?=some c:=by
 induction y with
 | nil=>intro j p hp;simp[ps] at hp
 | cons b y ih =>
  intro j p hp
  rw[ps,List.mem_append] at hp
  rcases hp with hp | hp
  ·split at hp
   ·rename_i h
    simp at hp
    subst hp
    simp[h]
   ·simp at hp
  ·have h1:=ih (j+1) p (by simpa using hp)
   have h2:=ps_mem y (j+1:Int) p hp
   rw[show p.Y.toNat-j=(p.Y.toNat-(j+1))+1 by omega]
   simpa using h1
theorem uq_eqs (x0 y0:List Int) (x:List Int):∀ (i:Nat) (p:Pr),p∈uq x0 y0 i x→x[p.X.toNat-i]?=y0[p.Y.toNat]?:=by
 induction x with
 | nil=>intro i p hp;simp[uq] at hp
 | cons a x ih =>
  intro i p hp
  rw[uq,List.mem_append] at hp
  rcases hp with hp | hp
  ·split at hp
   ·have h1:=ps_eqs y0 0 p (by simpa using hp)
    have h2:=ps_mem y0 0 p hp
    simp at h1
    rw[h1,h2.1]
    simp
   ·simp at hp
  ·have h1:=ih (i+1) p (by simpa using hp)
   have h2:=uq_mem x0 y0 x (i+1:Int) p hp
   rw[show p.X.toNat-i=(p.X.toNat-(i+1))+1 by omega]
   simpa using h1
theorem row_in (x y:List Int) (a b c d:Nat) (hb:b≤x.length) (hd:d≤y.length) (p:Pr) (hp:p∈lng (unq (sub x a b) (sub y c d))):0≤p.X∧0≤p.Y∧a≤a+p.X.toNat∧a+p.X.toNat<b∧c≤c+p.Y.toNat∧c+p.Y.toNat<d∧x[a+p.X.toNat]?=y[c+p.Y.toNat]?:=by
 have h:=lu_mem _ _ p hp
 have h2:=uq_eqs _ _ _ 0 p (lng_mem _ p hp)
 rw[sub_length x a b hb,sub_length y c d hd] at h
 rw[Nat.sub_zero,sub_at x a b _ (by omega),sub_at y c d _ (by omega)] at h2
 refine⟨by omega,by omega,by omega,by omega,by omega,by omega,h2⟩
theorem gos_ok (x y:List Int) (rec:Nat→Nat→Nat→Nat→List Pr) (A C b d:Nat) (hrec:∀ a' b' c' d',a'≤b'→b'≤b→c'≤d'→d'≤d→Okp x y a' b' c' d' (rec a' b' c' d')) (L:List Pr) :
  ∀ a c,a≤b→c≤d→(∀ p∈L,0≤p.X∧0≤p.Y∧a≤A+p.X.toNat∧A+p.X.toNat<b∧c≤C+p.Y.toNat∧C+p.Y.toNat<d∧x[A+p.X.toNat]?=y[C+p.Y.toNat]?)→L.Pairwise (fun p q=>ab q p)→Okp x y a b c d (gos rec A C b d a c L):=by
 induction L with
 | nil=>intro a c ha hc _ _;exact hrec a b c d ha (Nat.le_refl _) hc (Nat.le_refl _)
 | cons p L ih =>
  intro a c ha hc hL hR
  rw[gos]
  have hp:=hL p (List.mem_cons_self ..)
  have hR':=List.pairwise_cons.1 hR
  have h1:=hrec a (A+p.X.toNat) c (C+p.Y.toNat) (by omega) (by omega) (by omega) (by omega)
  have h2:=Okp.one hp.2.2.2.2.2.2
  have h3:=ih (A+p.X.toNat+1) (C+p.Y.toNat+1) (by omega) (by omega) (fun q hq=>by
   have e1:=hL q (List.mem_cons_of_mem _ hq)
   have e2:=hR'.1 q hq
   unfold ab at e2
   refine⟨by omega,by omega,by omega,by omega,by omega,by omega,e1.2.2.2.2.2.2⟩) hR'.2
  exact h1.cat (h2.cat h3 (.inl ⟨by omega,by omega⟩) (A:=A+p.X.toNat) (B:=b) (C:=C+p.Y.toNat) (D:=d) ⟨by omega,by omega⟩ ⟨by omega,by omega⟩ ⟨by omega,by omega⟩ ⟨by omega,by omega⟩) (.inl ⟨by omega,by omega⟩) ⟨by omega,by omega⟩ ⟨by omega,by omega⟩ ⟨by omega,by omega⟩ ⟨by omega,by omega⟩
theorem pmid_ok (x y:List Int):MOk (pmid x y) x y:=by
 intro rec a b c d hab hb hcd hd hrec
 unfold pmid
 split
 ·exact least_ok x y a b c d (by omega) hb (by omega) hd
 ·exact gos_ok x y rec a c b d (fun a' b' c' d' h1 h2 h3 h4=>hrec a' b' c' d' h1 (by omega) h3 (by omega)) _ a c (by omega) (by omega) (fun p hp=>row_in x y a b c d hb hd p hp) (lng_rise _)
end Go.Proofs.YtgiojkhmkeocfaaGreatDoor

/- Going through the pairs of a row, piece by piece: plain. -/
namespace Go.Proofs.YtgiojkhmkeocfaaGreatDoor
structure Gs (rec:Nat→Nat→Nat→Nat→List Pr) (A C b d:Nat) (L:List Pr) (a c:Nat) (K KF:List Int):Prop where
 ab':a≤b
 cd:c≤d
 Aa:A≤a
 Cc:C≤c
 all:∀ p∈L,0≤p.X∧0≤p.Y∧a≤A+p.X.toNat∧A+p.X.toNat<b∧c≤C+p.Y.toNat∧C+p.Y.toNat<d
 up:L.Pairwise (fun p q=>ab q p)
 fin:wrk K (gos rec A C b d a c L)=KF
theorem Gs.start {rec:Nat→Nat→Nat→Nat→List Pr} {x y:List Int} {a b c d:Nat} (hab:a≤b) (hb:b≤x.length) (hcd:c≤d) (hd:d≤y.length) {K KF:List Int} (h:wrk K (gos rec a c b d a c (lng (unq (sub x a b) (sub y c d))))=KF):Gs rec a c b d (lng (unq (sub x a b) (sub y c d))) a c K KF :=
 ⟨hab,hcd,Nat.le_refl _,Nat.le_refl _,fun p hp=>by have:=row_in x y a b c d hb hd p hp;omega,lng_rise _,h⟩
section
variable {rec:Nat→Nat→Nat→Nat→List Pr} {A C b d:Nat} {p:Pr} {L:List Pr} {a c:Nat} {K KF:List Int}
theorem Gs.head (h:Gs rec A C b d (p::L) a c K KF):∃ u v:Nat,p.X=u∧p.Y=v∧a≤A+u∧A+u<b∧c≤C+v∧C+v<d:=by
 have:=h.all p (List.mem_cons_self ..)
 exact⟨p.X.toNat,p.Y.toNat,by omega,by omega,by omega,by omega,by omega,by omega⟩
theorem Gs.step (h:Gs rec A C b d (p::L) a c K KF) {u v:Nat} (hu:p.X=u) (hv:p.Y=v):Gs rec A C b d L (A+u+1) (C+v+1) (wrk (wrk K (rec a (A+u) c (C+v))) (fp (A+u) (C+v) 1)) KF:=by
 have h0:=h.all p (List.mem_cons_self ..)
 have h1:=List.pairwise_cons.1 h.up
 have e1:p.X.toNat=u:=by omega
 have e2:p.Y.toNat=v:=by omega
 refine⟨by omega,by omega,by have:=h.Aa;omega,by have:=h.Cc;omega,fun q hq=>?_,h1.2,?_⟩
 ·have h2:=h.all q (List.mem_cons_of_mem _ hq)
  have h3:=h1.1 q hq
  unfold ab at h3
  omega
 ·rw[← h.fin,gos,e1,e2,← wrk_append,← wrk_append]
  rfl
end
end Go.Proofs.YtgiojkhmkeocfaaGreatDoor

/- slices.Insert of one pair into a row of pairs, walked. -/
namespace Go.Proofs.YtgiojkhmkeocfaaGreatDoor
open Go.RowKit
end Go.Proofs.YtgiojkhmkeocfaaGreatDoor

/- slices.Replace by one pair in a row of pairs, walked. -/
namespace Go.Proofs.YtgiojkhmkeocfaaGreatDoor
open Go.RowKit
end Go.Proofs.YtgiojkhmkeocfaaGreatDoor

/- sort.Search, walked: the function value may lay blocks; what holds of the memory is kept. -/
namespace Go.Proofs.YtgiojkhmkeocfaaGreatDoor
open Go.RowKit
end Go.Proofs.YtgiojkhmkeocfaaGreatDoor

/- Heads of rows: upTo, behind, above of the code, walked. -/
namespace Go.Proofs.YtgiojkhmkeocfaaGreatDoor
open Go.RowKit
attribute [local simp] low_drew
def px (h:List Pr) (i:Nat):Int:=(h[i]?.map (·.X)).getD 0
def py (h:List Pr) (i:Nat):Int:=(h[i]?.map (·.Y)).getD 0
end Go.Proofs.YtgiojkhmkeocfaaGreatDoor

/- The heads and one more: heads.with, walked. -/
namespace Go.Proofs.YtgiojkhmkeocfaaGreatDoor
open Go.RowKit
attribute [local simp] low_drew low_alloc
structure Np (W:World) (gp:Nat) (p:Pr) (u:World):Prop where
 blk:Blk u gp (prC p)
 ge:W.heap.size≤gp
end Go.Proofs.YtgiojkhmkeocfaaGreatDoor

/- The iterator slices.Backward over a row of pairs: its contract for every loop body that keeps what it reads. -/
namespace Go.Proofs.YtgiojkhmkeocfaaGreatDoor
open Go.RowKit Go.Shelf
attribute [local go_sem] Oper.semAt_some
structure Kq (n₀ lo:Nat) (W W':World):Prop where
 low:Below n₀ W W'
 box:W'.heap[lo]?=W.heap[lo]?
section
variable {n₀ lo:Nat} {A B C:World}
theorem Kq.refl (W:World):Kq n₀ lo W W:=⟨Below.refl _ _,rfl⟩
theorem Kq.trans (h:Kq n₀ lo A B) (k:Kq n₀ lo B C):Kq n₀ lo A C:=⟨h.low.trans k.low,k.box.trans h.box⟩
theorem Kq.alloc {W:World} (hn:n₀≤W.heap.size) (hl:lo<W.heap.size) (o:Obj):Kq n₀ lo W (W.alloc o):=⟨(Below.refl _ W).alloc hn o,Below.heap_alloc W o lo hl⟩
theorem Kq.putObj {w:World} (hn:n₀≤w.heap.size) (hl:lo<w.heap.size) (W:World) (l:Nat) (o o':Obj) (hlw:w.heap.size≤l) (h:W.heap[l]?=some o) (hc:o.isCells=false) (hw:o.isWalk=false):Kq n₀ lo W (W.putObj l o') :=
 ⟨belowK_b hn W l o o' hlw h hc hw,by have hne:l≠lo:=(by omega);simp[World.putObj,hne]⟩
theorem Kq.drewN (W:World) (k:Nat):Kq n₀ lo W (W.drewN k):=⟨Below.dN (Below.refl _ W) k,rfl⟩
end
def en (k:Nat):List Pr→List (Nat × Pr)
 | []=>[]
 | p::t=>(k,p)::en (k+1) t
theorem HPr.lt {w:World} {ao:Option Addr} {n c:Nat} {l:List Pr} (h:HPr w (.slice ao n c) l) (a:Addr) (ha:ao=some a) (h0:0<l.length):a.block<w.heap.size:=by
 obtain⟨b,off,hb,hlt,_⟩:=HPr.at h h0
 rw[ha] at hb
 cases hb
 exact hlt
end Go.Proofs.YtgiojkhmkeocfaaGreatDoor

/- The heads of all lengths in memory; the closure that looks whether one of them may stand behind a pair, walked. -/
namespace Go.Proofs.YtgiojkhmkeocfaaGreatDoor
open Go.RowKit
attribute [local simp] low_drew low_alloc
theorem owns_cells {w:World} {base n:Nat} {e:TypeId} {s:Nat} {v:Value} {xs:List Value} (ho:w.ownsRow base e s v n xs) {g:Nat} (hg:v.ownBlock=some g):∃ cur,w.heap[g]?=some (.cells cur e (0,0))∧base≤g:=by
 rcases ho.2 with ⟨h1,_⟩ | ⟨g',cap,cur,q1,q2,q3,_⟩
 ·rw[h1] at hg;cases hg
 ·rw[q1] at hg;cases hg;exact⟨cur,q3,q2⟩
structure Al (W:World) (base:Nat) (va:Value) (vals:List Value) (H:List (List Pr)):Prop where
 row:W.ownsRow base 311 1 va vals.length vals
 len:vals.length=H.length
 own:∀ (n:Nat) (v:Value) (h:List Pr),vals[n]?=some v→H[n]?=some h→W.ownsRow base 249 2 v h.length (prcells h)
 apart:∀ (i j:Nat) (v v':Value) (g:Nat),i≠j→vals[i]?=some v→vals[j]?=some v'→v.ownBlock=some g→v'.ownBlock≠some g
theorem Al.keep {W u:World} {base:Nat} {va:Value} {vals:List Value} {H:List (List Pr)} (h:Al W base va vals H) (hb:Low W u):Al u base va vals H :=
 ⟨owns_keep h.row hb,h.len,fun n v k h1 h2=>owns_keep (h.own n v k h1 h2) hb,h.apart⟩
theorem Al.at {W:World} {base:Nat} {va:Value} {vals:List Value} {H:List (List Pr)} (h:Al W base va vals H) {n:Nat} (hn:n<H.length):∃ v,vals[n]?=some v∧HPr W v H[n]:=by
 have hl:=h.len
 exact⟨vals[n],List.getElem?_eq_getElem (by omega),holds_of (h.own n _ _ (List.getElem?_eq_getElem (by omega)) (List.getElem?_eq_getElem hn))⟩
theorem Al.cell {W:World} {base:Nat} {ao:Option Addr} {k c:Nat} {vals:List Value} {H:List (List Pr)} (h:Al W base (.slice ao k c) vals H) {n:Nat} {v:Value} (hv:vals[n]?=some v):∃ g,ao=some ⟨g,0,none⟩∧g<W.heap.size∧W.cell? ⟨g,n,none⟩=some v∧W.frozen? ⟨g,n,none⟩=false:=by
 have hn:=(List.getElem?_eq_some_iff.1 hv).1
 rcases h.row.2 with ⟨h1,h2⟩ | ⟨g,cap,cur,q1,q2,q3,q4⟩
 ·omega
 ·cases q1
  refine⟨g,rfl,(Array.getElem?_eq_some_iff.1 q3).1,?_,h.row.frozenAt n⟩
  rw[h.row.cellAt n (by omega),hv]
end Go.Proofs.YtgiojkhmkeocfaaGreatDoor

/- Which rows are the same, told by the script; SameInts of any two rows, walked. -/
namespace Go.Proofs.YtgiojkhmkeocfaaGreatDoor
open Go.RowKit
theorem kp_self (b:Int) (x:List Int):kp b x x=(List.range x.length).map fun (j:Nat)=>b+(j:Int):=by
 induction x generalizing b with
 | nil=>rw[kp_nil];rfl
 | cons a x ih =>
  rw[kp_cons,if_pos rfl,ih,List.length_cons,List.range_succ_eq_map,List.map_cons,List.map_map]
  simp
  intro j _
  omega
theorem mk_nil (x y:List Int) (hx:x.length≤4096) (hy:y.length≤4096):mkL (kp 0 x y) y.length=[]↔x=y:=by
 constructor
 ·intro h
  have hv:Vk 0 (y.length:Int) (kp 0 x y):=by
   have:=kp_vk 0 x y (Int.le_refl _)
   rwa [Int.zero_add] at this
  have hl:=kp_length 0 x y
  obtain⟨⟨_,_,hS⟩,hU⟩:=mk_script hv (by omega) (by omega) (by rw[hl];omega)
  rw[h] at hS hU
  rw[U_nil] at hU
  have hnm:x.length=y.length:=by
   have h1:=hS.2.2
   rw[hl] at h1
   omega
  apply List.ext_getElem hnm
  intro i h1 h2
  have hm:(⟨(i:Int),(i:Int),1⟩:Rn)∈keptR 0 (kp 0 x y):=by
   rw[← hU,mem_un]
   rw[hl]
   refine⟨rfl,?_,?_,?_⟩<;>dsimp only<;>omega
  rw[mem_keptR] at hm
  obtain⟨_,_,h3,_⟩:=hm
  dsimp only at h3
  rw[show ((i:Int)-0).toNat=i by omega] at h3
  obtain⟨_,c,h4,h5⟩:=kp_same 0 x y (Int.le_refl _) i i h3 (by omega)
  rw[show ((i:Int)-0).toNat=i by omega] at h5
  rw[List.getElem?_eq_getElem h1] at h4
  rw[List.getElem?_eq_getElem h2] at h5
  rw[Option.some.inj h4,Option.some.inj h5]
 ·rintro rfl
  unfold mkL
  rw[kp_self,keptR_run 0 0 (Int.le_refl _),betw_un]
  simp[betw]
end Go.Proofs.YtgiojkhmkeocfaaGreatDoor

/- The reference's Make, walked. -/
namespace Go.Proofs.YtgiojkhmkeocfaaGreatDoor
open Go.RowKit
end Go.Proofs.YtgiojkhmkeocfaaGreatDoor

/- The reference's table of lengths, filled: table, walked. -/
namespace Go.Proofs.YtgiojkhmkeocfaaGreatDoor
open Go.RowKit
theorem madeL (z:Value) (N:Nat):(madeCells #[z] N).toList=List.replicate N z:=by
 apply List.ext_getElem
 ·simp[madeCells]
 ·intro i h1 h2
  simp[madeCells,Nat.mod_one]
def rowB (B X k:Nat):Nat:=B+1+(X-k)
def rowV (B X Y k:Nat):Value:=.slice (some ⟨rowB B X k,0,none⟩) (Y+1) (Y+1)
structure Tb (w:World) (x y:List Int) (i c:Nat) (TS:List Value) (u:World):Prop where
 low:Below w.heap.size w u
 size:u.heap.size=w.heap.size+1+(x.length+1-i)
 top:u.ownsRow w.heap.size 71 1 (.slice (some ⟨w.heap.size,0,none⟩) (x.length+1) (x.length+1)) (x.length+1) TS
 tops:∀ k,i≤k→k≤x.length→TS[k]?=some (rowV w.heap.size x.length y.length k)
 rows:∀ k,i≤k→k≤x.length→∃ R,u.ownsRow w.heap.size 3 1 (rowV w.heap.size x.length y.length k) (y.length+1) R∧∀ j,j≤y.length→(i<k∨c≤j∨j=y.length∨k=x.length)→R[j]?=some (.int .i64 ((ln x y k j:Nat):Int))
section
variable {w u:World} {x y:List Int} {i c:Nat} {TS:List Value}
theorem Tb.drewN (h:Tb w x y i c TS u) (n:Nat):Tb w x y i c TS (u.drewN n):=⟨Below.dN h.low n,h.size,h.top,h.tops,h.rows⟩
theorem Tb.top_at (h:Tb w x y i c TS u) {k:Nat} (hi:i≤k) (hk:k≤x.length):u.cell? ⟨w.heap.size,k,none⟩=some (rowV w.heap.size x.length y.length k):=by
 rw[h.top.cellAt k (by omega)]
 exact h.tops k hi hk
theorem Tb.at (h:Tb w x y i c TS u) {k j:Nat} (hi:i≤k) (hk:k≤x.length) (hj:j≤y.length) (hc:i<k∨c≤j∨j=y.length∨k=x.length):u.cell? ⟨rowB w.heap.size x.length k,j,none⟩=some (.int .i64 ((ln x y k j:Nat):Int)):=by
 obtain⟨R,hR,hv⟩:=h.rows k hi hk
 unfold rowV at hR
 rw[hR.cellAt j (by omega)]
 exact hv j hj hc
theorem Tb.skip (h:Tb w x y i (c+1) TS u) (hc:c=y.length∨i=x.length):Tb w x y i c TS u:=by
 refine⟨h.low,h.size,h.top,h.tops,fun k h1 h2=>?_⟩
 obtain⟨R,hR,hv⟩:=h.rows k h1 h2
 exact⟨R,hR,fun j hj hq=>hv j hj (by omega)⟩
end
theorem Tb.start (w:World) (x y:List Int) (hX:x.length≤1048576):Tb w x y (x.length+1) 0 (List.replicate (x.length+1) (.slice none 0 0)) (w.alloc (.cells (madeCells #[.slice none 0 0] (x.length+1)) 71)):=by
 have hn:=World.ownsRow_lit (base:=w.heap.size) (e:=71) (size:=1) w (madeCells #[.slice none 0 0] (x.length+1)) (x.length+1) (Nat.le_refl _) (by unfold maxLen;omega) (by rw[size_madeCells];simp)
 rw[madeL] at hn
 exact⟨(Below.refl _ w).alloc (Nat.le_refl _) _,by simp,hn,fun k h1 h2=>by omega,fun k h1 h2=>by omega⟩
structure Rd (B:Nat) (x y:List Int) (u:World):Prop where
 lt:B+1+x.length<u.heap.size
 top:∀ k,k≤x.length→u.cell? ⟨B,k,none⟩=some (rowV B x.length y.length k)
 at':∀ k j,k≤x.length→j≤y.length→u.cell? ⟨rowB B x.length k,j,none⟩=some (.int .i64 ((ln x y k j:Nat):Int))
theorem cell_keep {u u':World} (h:Below u.heap.size u u') {b o:Nat} {v:Value} (hb:b<u.heap.size) (hc:u.cell? ⟨b,o,none⟩=some v):u'.cell? ⟨b,o,none⟩=some v:=by
 rw[← hc]
 unfold World.cell?
 rw[h.block b hb]
theorem Rd.keep {B:Nat} {x y:List Int} {u u':World} (h:Rd B x y u) (hb:Below u.heap.size u u'):Rd B x y u':=by
 have:=h.lt
 refine⟨Nat.lt_of_lt_of_le h.lt hb.size,fun k hk=>cell_keep hb (by omega) (h.top k hk),fun k j hk hj=>cell_keep hb ?_ (h.at' k j hk hj)⟩
 unfold rowB
 omega
theorem Tb.rd {w u:World} {x y:List Int} {TS:List Value} (h:Tb w x y 0 0 TS u):Rd w.heap.size x y u :=
 ⟨by rw[h.size];omega,fun _ hk=>h.top_at (Nat.zero_le _) hk,fun _ _ hk hj=>h.at (Nat.zero_le _) hk hj (.inr (.inl (Nat.zero_le _)))⟩
end Go.Proofs.YtgiojkhmkeocfaaGreatDoor

/- The longest rising row, by the reference: rises, Longest, walked. -/
namespace Go.Proofs.YtgiojkhmkeocfaaGreatDoor
open Go.RowKit
def Dn (R:List Nat) (k:Nat) (Z:List Int):Prop:=Z.length=R.length∧∀ j (hj:j<R.length),k≤j→Z[j]?=some ((R[j]:Nat):Int)
theorem Dn.set {R:List Nat} {k:Nat} {Z:List Int} (h:Dn R (k+1) Z) (hk:k<R.length) {m:Int} (hm:m=((R[k]:Nat):Int)):Dn R k (Z.set k m):=by
 refine⟨by rw[List.length_set];exact h.1,fun j hj hkj=>?_⟩
 by_cases e:j=k
 ·subst e
  rw[List.getElem?_set_self (by rw[h.1];exact hj),hm]
 ·rw[List.getElem?_set_ne (fun q=>e q.symm)]
  exact h.2 j hj (by omega)
attribute [local simp] low_drew
end Go.Proofs.YtgiojkhmkeocfaaGreatDoor

/- A region that draws its order, in a round: seven operations that read and a call, in whatever order, then the rest as the text has it. -/
namespace Go.Proofs.YtgiojkhmkeocfaaGreatDoor
namespace R8
open Go.RowKit Go.Shelf
abbrev B8:=Fin 8→Bool
def one (c:Bool):Nat:=if c then 1 else 0
def cnt (b:B8):Nat:=one (b 0)+one (b 1)+one (b 2)+one (b 3)+one (b 4)+one (b 5)+one (b 6)+one (b 7)
theorem one_le (c:Bool):one c≤1:=by cases c<;>simp[one]
theorem cnt_le (b:B8):cnt b≤8:=by
 have:=fun i=>one_le (b i)
 have h0:=this 0;have h1:=this 1;have h2:=this 2;have h3:=this 3;have h4:=this 4;have h5:=this 5;have h6:=this 6;have h7:=this 7
 unfold cnt
 omega
def pk (c:Bool) (v:Value):Value:=cond c v undef
end R8
end Go.Proofs.YtgiojkhmkeocfaaGreatDoor

/- What stands in memory while the lengths of rising rows are found; what a step of a round keeps. -/
namespace Go.Proofs.YtgiojkhmkeocfaaGreatDoor
open Go.RowKit Go.Shelf
attribute [local go_sem] Oper.semAt_some
def lz (n:Nat):List (Nat × Pr)→List Int
 | []=>List.replicate n 0
 | x::r=>(lz n r).set x.1 ((mxl x.2 (r.map (·.2)) (rl (r.map (·.2)))+1:Nat):Int)
structure Rs (w:World) (n:Nat) (r:List (Nat × Pr)) (va:Value) (vals:List Value) (H:List (List Pr)) (W:World):Prop where
 low:Below w.heap.size w W
 lbox:Boxed W (w.heap.size+1) 71 (.slice (some ⟨w.heap.size,0,none⟩) n n)
 lrow:W.ownsRow w.heap.size 3 1 (.slice (some ⟨w.heap.size,0,none⟩) n n) n (icells (lz n r))
 abox:Boxed W (w.heap.size+1+1) 306 va
 al:Al W w.heap.size va vals H
 hd:Hds (r.map (·.2)) H
 hl:H.length≤r.length
 hh:∀ h∈H,h.length≤r.length
theorem owns_kept_cells {W W':World} {row:Option Nat} {base n:Nat} {e:TypeId} {s:Nat} {v:Value} {xs:List Value} (ho:W.ownsRow base e s v n xs) (hg:W.grownBy W' row) (hr:∀ r,row=some r→∃ o:Obj,W.heap[r]?=some o∧o.isCells=false):W'.ownsRow base e s v n xs:=by
 refine ho.kept hg ?_
 cases h:v.ownBlock with
 | none=>exact .inl rfl
 | some g =>
  right
  intro q
  obtain⟨cur,h1,_⟩:=owns_cells ho h
  obtain⟨o,h2,h3⟩:=hr g q.symm
  rw[h1] at h2
  cases h2
  cases h3
theorem boxed_kept_cells {W W':World} {row:Option Nat} {B:Nat} {t:TypeId} {v:Value} (h:Boxed W B t v) (hg:W.grownBy W' row) (hr:∀ r,row=some r→∃ o:Obj,W.heap[r]?=some o∧o.isCells=false):Boxed W' B t v:=by
 refine h.kept hg (fun q=>?_)
 obtain⟨o,h2,h3⟩:=hr B q.symm
 unfold Boxed at h
 rw[h] at h2
 cases h2
 cases h3
theorem Rs.own {w:World} {n:Nat} {r:List (Nat × Pr)} {va:Value} {vals:List Value} {H:List (List Pr)} {W W':World} (h:Rs w n r va vals H W) {row:Option Nat} (hg:W.grownBy W' row) (hr:∀ r,row=some r→w.heap.size≤r∧∃ o:Obj,W.heap[r]?=some o∧o.isCells=false):Rs w n r va vals H W' :=
 ⟨h.low.grown hg h.low.size (fun j hj=>(hr j hj).1),boxed_kept_cells h.lbox hg (fun r e=>(hr r e).2),owns_kept_cells h.lrow hg (fun r e=>(hr r e).2),boxed_kept_cells h.abox hg (fun r e=>(hr r e).2),
  ⟨owns_kept_cells h.al.row hg (fun r e=>(hr r e).2),h.al.len,fun m v k h1 h2=>owns_kept_cells (h.al.own m v k h1 h2) hg (fun r e=>(hr r e).2),h.al.apart⟩,h.hd,h.hl,h.hh⟩
theorem Rs.keep {w:World} {n:Nat} {r:List (Nat × Pr)} {va:Value} {vals:List Value} {H:List (List Pr)} {W W':World} (h:Rs w n r va vals H W) (hb:Low W W'):Rs w n r va vals H W' :=
 h.own (low_grown hb none) (fun r e=>by cases e)
def Ty (W:World) (row:Option Nat) (e:TypeId):Prop:=∀ g,row=some g→∃ cur,W.heap[g]?=some (.cells cur e (0,0))
section
variable {W W':World} {row:Option Nat} {e:TypeId}
theorem bx_ty {B:Nat} {t:TypeId} {v:Value} (h:Boxed W B t v) (hg:W.grownBy W' row) (hy:Ty W row e) (hne:t≠e):Boxed W' B t v:=by
 refine h.kept hg (fun q=>?_)
 obtain⟨cur,h2⟩:=hy B q.symm
 unfold Boxed at h
 rw[h] at h2
 cases h2
 exact hne rfl
theorem ow_ty {base n:Nat} {t:TypeId} {s:Nat} {v:Value} {xs:List Value} (h:W.ownsRow base t s v n xs) (hg:W.grownBy W' row) (hy:Ty W row e) (hne:t≠e):W'.ownsRow base t s v n xs:=by
 refine h.kept hg ?_
 cases hb:v.ownBlock with
 | none=>exact .inl rfl
 | some g =>
  right
  intro q
  obtain⟨cur,h1,_⟩:=owns_cells h hb
  obtain⟨cur',h2⟩:=hy g q.symm
  rw[h1] at h2
  cases h2
  exact hne rfl
theorem al_ty {base:Nat} {va:Value} {vals:List Value} {H:List (List Pr)} (h:Al W base va vals H) (hg:W.grownBy W' row) (hy:Ty W row e) (h1:311≠e) (h2:249≠e):Al W' base va vals H :=
 ⟨ow_ty h.row hg hy h1,h.len,fun n v k a b=>ow_ty (h.own n v k a b) hg hy h2,h.apart⟩
end
theorem ko_low {W W':World} (h:Low W W'):KeepsOthers W W':=⟨Below.size h,fun k _ hk _=>(Below.block h k (Array.getElem?_eq_some_iff.1 hk).1).trans hk⟩
theorem kq_low {n₀ lo:Nat} {W W':World} (hn:n₀≤W.heap.size) (hl:lo<W.heap.size) (h:Low W W'):Kq n₀ lo W W':=⟨Below.mono h hn,Below.block h lo hl⟩
structure Rp (w:World) (n:Nat) (Z:List Int) (va:Value) (vals:List Value) (H:List (List Pr)) (vl:Value) (W:World):Prop where
 low:Below w.heap.size w W
 lbox:Boxed W (w.heap.size+1) 71 (.slice (some ⟨w.heap.size,0,none⟩) n n)
 lrow:W.ownsRow w.heap.size 3 1 (.slice (some ⟨w.heap.size,0,none⟩) n n) n (icells Z)
 abox:Boxed W (w.heap.size+1+1) 306 va
 al:Al W w.heap.size va vals H
 ibox:Boxed W (w.heap.size+1+1+1) 245 vl
structure Stp (w W W':World):Prop where
 ko:KeepsOthers W W'
 kq:Kq w.heap.size (w.heap.size+1+1+1) W W'
theorem Stp.trans {w A B C:World} (h:Stp w A B) (k:Stp w B C):Stp w A C:=⟨h.ko.trans k.ko,h.kq.trans k.kq⟩
section
variable {w:World} {n:Nat} {Z:List Int} {va:Value} {vals:List Value} {H:List (List Pr)} {vl:Value} {W W':World}
theorem Rp.lo (h:Rp w n Z va vals H vl W) (hb:Low W W'):Rp w n Z va vals H vl W'∧Stp w W W':=by
 have hg:=low_grown hb none
 have hy:∀ e,Ty W none e:=fun e g q=>by cases q
 have h3:=h.ibox.lt
 exact⟨⟨h.low.trans (Below.mono hb h.low.size),bx_ty h.lbox hg (hy 0) (by decide),ow_ty h.lrow hg (hy 0) (by decide),bx_ty h.abox hg (hy 0) (by decide),al_ty h.al hg (hy 0) (by decide) (by decide),bx_ty h.ibox hg (hy 0) (by decide)⟩,ko_low hb,kq_low h.low.size h3 hb⟩
end
end Go.Proofs.YtgiojkhmkeocfaaGreatDoor

/- A pair is put among the heads of its length: the region that draws its order, in a round. -/
namespace Go.Proofs.YtgiojkhmkeocfaaGreatDoor
open Go.RowKit Go.Shelf
attribute [local go_sem] Oper.semAt_some
end Go.Proofs.YtgiojkhmkeocfaaGreatDoor

/- How long the longest rising row is that begins with each member: risingFrom, walked. -/
namespace Go.Proofs.YtgiojkhmkeocfaaGreatDoor
open Go.RowKit Go.Shelf
attribute [local go_sem] Oper.semAt_some
end Go.Proofs.YtgiojkhmkeocfaaGreatDoor

/- The longest rising row: Longest of the code, walked. -/
namespace Go.Proofs.YtgiojkhmkeocfaaGreatDoor
open Go.RowKit
attribute [local simp] low_drew low_alloc
end Go.Proofs.YtgiojkhmkeocfaaGreatDoor

/- Where each class of a text stands: places, walked. -/
namespace Go.Proofs.YtgiojkhmkeocfaaGreatDoor
open Go.RowKit Go.Maps
theorem tm_snoc (c a:Int) (t:List Int):tm c (t++[a])=tm c t+if a=c then 1 else 0:=by
 induction t with
 | nil=>simp[tm]
 | cons b t ih=>rw[List.cons_append,tm,tm,ih];omega
theorem tm_zero {c:Int} {t:List Int}:tm c t=0↔c∉t:=by
 induction t with
 | nil=>simp[tm]
 | cons b t ih =>
  rw[tm,List.mem_cons]
  by_cases h:b=c
  ·simp[h]
  ·rw[if_neg h,Nat.zero_add,ih]
   constructor
   ·rintro h1 (h2 | h2)
    ·exact h h2.symm
    ·exact h1 h2
   ·exact fun h1 h2=>h1 (.inr h2)
def pf (t:List Int) (c:Int):Option Int:=if tm c t=0 then none else if tm c t=1 then some (t.idxOf c:Nat) else some (-1)
theorem pf_snoc (t:List Int) (a c:Int):pf (t++[a]) c=if a=c then some (if (pf t a).isSome then -1 else (t.length:Int)) else pf t c:=by
 unfold pf
 rw[tm_snoc]
 by_cases e:a=c
 ·subst e
  rw[if_pos rfl,if_pos rfl,if_neg (by omega)]
  by_cases h0:tm a t=0
  ·rw[if_pos (by omega),if_pos h0,List.idxOf_append,if_neg (tm_zero.1 h0)]
   simp
  ·rw[if_neg (by omega),if_neg h0]
   split<;>simp
 ·rw[if_neg e,if_neg e,Nat.add_zero]
  by_cases h0:tm c t=0
  ·rw[if_pos h0,if_pos h0]
  ·have hm:c∈t:=by
    by_cases q:c∈t
    ·exact q
    ·exact absurd (tm_zero.2 q) h0
   rw[if_neg h0,if_neg h0,List.idxOf_append,if_pos hm]
structure Plc {H:Type} (D:DataW H) (t:List Int):Prop where
 tidy:Tidy D
 has:∀ c,Maps.has D (.int .i64 c)=(pf t c).isSome
 at_:∀ c,D.atKey (.int .i64 c) (.lit (.int .i64 0))=.lit (.int .i64 ((pf t c).getD 0))
theorem Plc.nil {H:Type}:Plc (H:=H) (.map []) []:=⟨tidy_empty,fun _=>rfl,fun _=>by rw[atKey_of_not_has rfl];rfl⟩
theorem Plc.put {H:Type} {D:DataW H} {t:List Int} (h:Plc D t) (a:Int):Plc (D.put (.int .i64 a) (.lit (.int .i64 (if (pf t a).isSome then -1 else (t.length:Int))))) (t++[a]):=by
 have hk:WideAt.IsKeyLit (.int .i64 a):=trivial
 have hne:∀ {g:Int},a≠g→(Lit.int .i64 g)≠.int .i64 a:=fun hg e=>hg (by cases e;rfl)
 refine⟨h.tidy.put hk _,fun c=>?_,fun c=>?_⟩
 ·rw[pf_snoc]
  by_cases e:a=c
  ·subst e
   rw[has_put_same h.tidy.isMap hk,if_pos rfl];rfl
  ·rw[has_put_other (hne e),h.has,if_neg e]
 ·rw[pf_snoc]
  by_cases e:a=c
  ·subst e
   rw[atKey_put_same h.tidy.isMap hk,if_pos rfl];rfl
  ·rw[atKey_put_other (hne e),h.at_,if_neg e]
theorem intKeyed:Keyed Tryz.prog 3:=int_keyed Tryz.underlying3
theorem zeroI2 (w:World):(zeroValue 3).run Tryz.prog w=.ok (.int .i64 0) w:=by kernel_rfl
def Mo (t:List Int) (B:Nat) (w:World):Prop:=∃ D:DataW Unit,w.ownsMap Tryz.prog 3 (plainElem Tryz.prog 3) B t.length D∧Plc D t
section
variable {t:List Int} {B:Nat} {w w':World}
theorem Mo.lt (h:Mo t B w):B<w.heap.size:=by obtain⟨D,hm,_⟩:=h;exact hm.lt
theorem Mo.keep (h:Mo t B w) (hb:w'.heap[B]?=w.heap[B]?):Mo t B w':=by
 obtain⟨D,⟨es,clock,hm,r⟩,hd⟩:=h
 exact⟨D,⟨es,clock,hb.trans hm,r⟩,hd⟩
theorem key_int {c:Int} (hc:w64 c):keyOf Tryz.prog 3 (.int .i64 c)=some (.int .i64 c):=keyOf_int_mk Tryz.underlying3 (WalkArith.wf_i64 hc)
theorem Mo.look (h:Mo t B w) {c:Int} (hc:w64 c):(Instr.lookup 281 (.map (some B)) (.int .i64 c) true).run Tryz.prog w=.ok (.tuple #[.int .i64 ((pf t c).getD 0),.bool (pf t c).isSome]) w:=by
 obtain⟨D,hm,hd⟩:=h
 obtain⟨v,ps,hr,hv⟩:=hm.look_ok intKeyed Tryz.underlying281 (zeroI2 w) (plainElem_int Tryz.underlying3 (by decide)) (key_int hc)
 obtain⟨d,rfl,hc',_⟩:=plainElem_int_inv Tryz.underlying3 hv
 have e:=congrArg Prod.fst hc'
 dsimp only at e
 rw[hd.at_] at e
 cases e
 rw[hr,hd.has]
theorem Mo.store (h:Mo t B w) {a:Int} (ha:w64 a) (hl:t.length≤1099511627776) (z:Int) (hz:z=if (pf t a).isSome then -1 else (t.length:Int)) :
  ∃ w',(Instr.mapUpdate 281 (.map (some B)) (.int .i64 a) (.int .i64 z)).run Tryz.prog w=.ok () w'∧Mo (t++[a]) B w'∧w.grownBy w' (some B):=by
 obtain⟨D,hm,hd⟩:=h
 obtain⟨w',hr,ho,ht⟩:=hm.store (val:=.int .i64 z) intKeyed Tryz.underlying281 (by unfold maxLen;omega) (key_int ha) (plainElem_int Tryz.underlying3 (WalkArith.wf_i64 (by subst hz;split<;>omega)))
 exact⟨w',hr,⟨_,by simpa using ho,by subst hz;exact hd.put a⟩,ht.grown⟩
end
end Go.Proofs.YtgiojkhmkeocfaaGreatDoor

/- The lines that are there once in each text: Unique of the code, walked. -/
namespace Go.Proofs.YtgiojkhmkeocfaaGreatDoor
open Go.RowKit Go.Maps
end Go.Proofs.YtgiojkhmkeocfaaGreatDoor
