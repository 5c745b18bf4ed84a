/-
  Texts that belong together, joined: CpG, CpH, CpI, CpJ.
-/
import Derived.Test.YtgiojkhmkeocfaaGreatDoorCtmtBA15
import Derived.Test.YtgiojkhmkeocfaaGreatDoorCtmtBA13

set_option maxHeartbeats 16000000
set_option maxRecDepth 100000
namespace Go.Proofs.YtgiojkhmkeocfaaGreatDoor

section
open Go.RowKit
def cntR (a b:Int) (n:Nat):Bool:=decide ((n:Int)=b-a+1) || (decide ((n:Int)=0) && decide (b-a+1=1))
theorem ccounted_f (x a b:Int) (lo:Option Addr) (n c:Nat) (w:World) (ha:0≤a) (hb:b≤2147483647) (hab:a≤b) (_hn:n≤1099511627776) (r:Bool) (HR:Hid (cntR a b n=r)) :
  Calls Tryz.prog 214 #[.agg #[.int .i64 x,.int .i64 a,.int .i64 b,.slice lo n c]] w fun e w'=>e=.returned (.bool r)∧Below w.heap.size w w':=by
 have hBl:Below w.heap.size w (w.alloc (.cells #[.int .i64 x,.int .i64 a,.int .i64 b,.slice lo n c] 208)):=(Below.refl _ w).alloc (Nat.le_refl _) _
 have HR2:=HR.out
 unfold cntR at HR2
 clear HR
 go_enter Tryz.func214,Tryz.ntmps214
 by_cases h1:(n:Int)=b-a+1
 ·have f1:((n:Int) == b-a+1)=true:=beq_iff_eq.2 h1
  rw[decide_eq_true h1,Bool.true_or] at HR2
  subst HR2
  clear h1
  go_wp2
  go_ret
  exact⟨rfl,hBl⟩
 ·have f1:((n:Int) == b-a+1)=false:=beq_eq_false_iff_ne.2 h1
  rw[decide_eq_false h1,Bool.false_or] at HR2
  clear h1
  by_cases h2:(n:Int)=0
  ·have f2:((n:Int) == 0)=true:=beq_iff_eq.2 h2
   rw[decide_eq_true h2,Bool.true_and] at HR2
   have f3:(b-a+1 == 1)=r:=(by rw[← HR2,Bool.eq_iff_iff,beq_iff_eq,decide_eq_true_eq])
   clear h2 HR2
   go_wp2
   go_ret
   exact⟨rfl,hBl⟩
  ·have f2:((n:Int) == 0)=false:=beq_eq_false_iff_ne.2 h2
   rw[decide_eq_false h2,Bool.false_and] at HR2
   subst HR2
   clear h2
   go_wp2
   go_ret
   exact⟨rfl,hBl⟩
def rgX (r0 r1 z0 z1:Bool) (x0 x1:Int):Option (Int × Int) :=
 if r0=false then some (x0,120) else if r1=false then some (x1,120) else if z0=true then some (x0,2) else if z1=true then some (x1,2) else none
def RgQ (w:World) (Y:Option (Int × Int)) (e:Ending) (w':World):Prop:=Below w.heap.size w w'∧match Y with
 | none=>e=.returned (.tuple #[])
 | some (a,z)=>Thr a z e w'
theorem ccheckR_f (x0 a0 b0 x1 a1 b1:Int) (l0 l1:Option Addr) (n0 c0 n1 c1:Nat) (w:World) (ha0:0≤a0) (hb0:b0≤2147483647) (hab0:a0≤b0) (hn0:n0≤1099511627776) (ha1:0≤a1) (hb1:b1≤2147483647) (hab1:a1≤b1) (hn1:n1≤1099511627776) (Y:Option (Int × Int))
  (HY:Hid (rgX (cntR a0 b0 n0) (cntR a1 b1 n1) (decide (a0=0) && decide (0<n0)) (decide (a1=0) && decide (0<n1)) x0 x1=Y)) :
  Calls Tryz.prog 154 #[.agg #[.int .i64 x0,.int .i64 a0,.int .i64 b0,.slice l0 n0 c0],.agg #[.int .i64 x1,.int .i64 a1,.int .i64 b1,.slice l1 n1 c1]] w fun e w'=>RgQ w Y e w':=by
 obtain⟨r0,hr0⟩:∃ r,cntR a0 b0 n0=r:=⟨_,rfl⟩
 obtain⟨r1,hr1⟩:∃ r,cntR a1 b1 n1=r:=⟨_,rfl⟩
 obtain⟨z0,hz0⟩:∃ r,(decide (a0=0) && decide (0<n0))=r:=⟨_,rfl⟩
 obtain⟨z1,hz1⟩:∃ r,(decide (a1=0) && decide (0<n1))=r:=⟨_,rfl⟩
 rw[hr0,hr1,hz0,hz1] at HY
 have cc0:=fun u=>ccounted_f x0 a0 b0 l0 n0 c0 u ha0 hb0 hab0 hn0 r0 hr0
 have cc1:=fun u=>ccounted_f x1 a1 b1 l1 n1 c1 u ha1 hb1 hab1 hn1 r1 hr1
 have hB0:Below w.heap.size w (((w.alloc (.cells #[.int .i64 x0,.int .i64 a0,.int .i64 b0,.slice l0 n0 c0] 208)).alloc (.cells #[.int .i64 x1,.int .i64 a1,.int .i64 b1,.slice l1 n1 c1] 208)).alloc (.cells #[.int .i64 x0,.int .i64 a0,.int .i64 b0,.slice l0 n0 c0,.int .i64 x1,.int .i64 a1,.int .i64 b1,.slice l1 n1 c1] 208)):=(((Below.refl _ w).alloc (Nat.le_refl _) _).alloc (by simp) _).alloc (by simp;omega) _
 have hblk:=heap_alloc_new ((w.alloc (.cells #[.int .i64 x0,.int .i64 a0,.int .i64 b0,.slice l0 n0 c0] 208)).alloc (.cells #[.int .i64 x1,.int .i64 a1,.int .i64 b1,.slice l1 n1 c1] 208)) (.cells #[.int .i64 x0,.int .i64 a0,.int .i64 b0,.slice l0 n0 c0,.int .i64 x1,.int .i64 a1,.int .i64 b1,.slice l1 n1 c1] 208)
 have hsz:((w.alloc (.cells #[.int .i64 x0,.int .i64 a0,.int .i64 b0,.slice l0 n0 c0] 208)).alloc (.cells #[.int .i64 x1,.int .i64 a1,.int .i64 b1,.slice l1 n1 c1] 208)).heap.size=w.heap.size+2:=by simp
 rw[hsz] at hblk
 clear hr0 hr1 hsz
 go_enter Tryz.func154,Tryz.ntmps154
 go_wp2
 generalize ((w.alloc (.cells #[.int .i64 x0,.int .i64 a0,.int .i64 b0,.slice l0 n0 c0] 208)).alloc (.cells #[.int .i64 x1,.int .i64 a1,.int .i64 b1,.slice l1 n1 c1] 208)).alloc (.cells #[.int .i64 x0,.int .i64 a0,.int .i64 b0,.slice l0 n0 c0,.int .i64 x1,.int .i64 a1,.int .i64 b1,.slice l1 n1 c1] 208)=w0 at hB0 hblk ⊢
 go_loopw [14] (fun i wr=>∃ k:Nat,i=.int .i64 k∧(k=0∨k=1∧r0=true∨k=2∧r0=true∧r1=true)∧Below w.heap.size w wr∧wr.heap[w.heap.size+2]?=some (.cells #[.int .i64 x0,.int .i64 a0,.int .i64 b0,.slice l0 n0 c0,.int .i64 x1,.int .i64 a1,.int .i64 b1,.slice l1 n1 c1] 208)) (fun i _=>2-(intOf i).toNat)
 case atStart=>exact⟨0,by go_num,.inl rfl,hB0,hblk⟩
 case round =>
 clear hB0 hblk
 obtain⟨k,rfl,hk,hB,hbl⟩:=hrel
 have hAl:∀ O,Below w.heap.size w (wr.alloc O)∧(wr.alloc O).heap[w.heap.size+2]?=some (.cells #[.int .i64 x0,.int .i64 a0,.int .i64 b0,.slice l0 n0 c0,.int .i64 x1,.int .i64 a1,.int .i64 b1,.slice l1 n1 c1] 208):=fun O=>⟨hB.alloc hB.size _,(((Below.refl _ wr).alloc (Nat.le_refl _) O).block _ (Array.getElem?_eq_some_iff.1 hbl).1).trans hbl⟩
 rcases hk with rfl | ⟨rfl,h0⟩ | ⟨rfl,h0,h1⟩
 ·have e0:wr.cell? ⟨w.heap.size+2,0,none⟩=some (.int .i64 x0):=(by rw[Lib.cell_of_heap hbl];rfl)
  have e1:wr.cell? ⟨w.heap.size+2,1,none⟩=some (.int .i64 a0):=(by rw[Lib.cell_of_heap hbl];rfl)
  have e2:wr.cell? ⟨w.heap.size+2,2,none⟩=some (.int .i64 b0):=(by rw[Lib.cell_of_heap hbl];rfl)
  have e3:wr.cell? ⟨w.heap.size+2,3,none⟩=some (.slice l0 n0 c0):=(by rw[Lib.cell_of_heap hbl];rfl)
  obtain⟨hB1,hb1⟩:=hAl (.cells #[.int .i64 x0,.int .i64 a0,.int .i64 b0,.slice l0 n0 c0] 208)
  clear hAl hB hbl
  go_wp2_with fail
  refine (cc0 _).mono ?_
  rintro e w2 ⟨rfl,hC⟩
  have hB2:=hB1.trans (hC.mono hB1.size)
  have hb2:=(hC.block _ (Array.getElem?_eq_some_iff.1 hb1).1).trans hb1
  have e4:w2.cell? ⟨wr.heap.size,0,none⟩=some (.int .i64 x0):=(by rw[World.cell?_of_block (hC.block wr.heap.size (by simp))];simp)
  clear hC hB1 hb1
  cases r0 with
  | false =>
   have HE:Hid (some (x0,120)=Y):=HY
   go_wp2_with fail
   refine (cthrow_f x0 120 w2).mono ?_
   rintro e w3 ⟨⟨g,rfl,hg⟩,hC⟩
   go_wp2
   exact⟨rfl,hB2.trans (hC.mono hB2.size),by rw[← HE.out];exact⟨_,rfl,hg⟩⟩
  | true =>
   go_wp2
   exact⟨⟨1,by go_num,.inr (.inl ⟨rfl,trivial⟩),hB2,hb2⟩,by simp[intOf]⟩
 ·have e0:wr.cell? ⟨w.heap.size+2,4,none⟩=some (.int .i64 x1):=(by rw[Lib.cell_of_heap hbl];rfl)
  have e1:wr.cell? ⟨w.heap.size+2,5,none⟩=some (.int .i64 a1):=(by rw[Lib.cell_of_heap hbl];rfl)
  have e2:wr.cell? ⟨w.heap.size+2,6,none⟩=some (.int .i64 b1):=(by rw[Lib.cell_of_heap hbl];rfl)
  have e3:wr.cell? ⟨w.heap.size+2,7,none⟩=some (.slice l1 n1 c1):=(by rw[Lib.cell_of_heap hbl];rfl)
  obtain⟨hB1,hb1⟩:=hAl (.cells #[.int .i64 x1,.int .i64 a1,.int .i64 b1,.slice l1 n1 c1] 208)
  clear hAl hB hbl
  go_wp2_with fail
  refine (cc1 _).mono ?_
  rintro e w2 ⟨rfl,hC⟩
  have hB2:=hB1.trans (hC.mono hB1.size)
  have hb2:=(hC.block _ (Array.getElem?_eq_some_iff.1 hb1).1).trans hb1
  have e4:w2.cell? ⟨wr.heap.size,0,none⟩=some (.int .i64 x1):=(by rw[World.cell?_of_block (hC.block wr.heap.size (by simp))];simp)
  clear hC hB1 hb1
  cases r1 with
  | false =>
   have HE:Hid (some (x1,120)=Y):=(by have:=HY.out;rw[h0] at this;exact this)
   go_wp2_with fail
   refine (cthrow_f x1 120 w2).mono ?_
   rintro e w3 ⟨⟨g,rfl,hg⟩,hC⟩
   go_wp2
   exact⟨rfl,hB2.trans (hC.mono hB2.size),by rw[← HE.out];exact⟨_,rfl,hg⟩⟩
  | true =>
   go_wp2
   exact⟨⟨2,by go_num,.inr (.inr ⟨rfl,h0,trivial⟩),hB2,hb2⟩,by simp[intOf]⟩
 ·have HY2:Hid ((if z0=true then some (x0,2) else if z1=true then some (x1,2) else none)=Y):=(by have:=HY.out;rw[h0,h1] at this;exact this)
  clear HY h0 h1 hAl cc0 cc1
  go_wp2
  go_loopw [27] (fun i wr=>∃ k:Nat,i=.int .i64 k∧(k=0∨k=1∧z0=false∨k=2∧z0=false∧z1=false)∧Below w.heap.size w wr∧wr.heap[w.heap.size+2]?=some (.cells #[.int .i64 x0,.int .i64 a0,.int .i64 b0,.slice l0 n0 c0,.int .i64 x1,.int .i64 a1,.int .i64 b1,.slice l1 n1 c1] 208)) (fun i _=>2-(intOf i).toNat)
  case atStart=>exact⟨0,by go_num,.inl rfl,hB,hbl⟩
  case round =>
  clear hB hbl
  obtain⟨k,rfl,hk,hB,hbl⟩:=hrel
  have hAl:∀ O,Below w.heap.size w (wr.alloc O)∧(wr.alloc O).heap[w.heap.size+2]?=some (.cells #[.int .i64 x0,.int .i64 a0,.int .i64 b0,.slice l0 n0 c0,.int .i64 x1,.int .i64 a1,.int .i64 b1,.slice l1 n1 c1] 208):=fun O=>⟨hB.alloc hB.size _,(((Below.refl _ wr).alloc (Nat.le_refl _) O).block _ (Array.getElem?_eq_some_iff.1 hbl).1).trans hbl⟩
  rcases hk with rfl | ⟨rfl,h0⟩ | ⟨rfl,h0,h1⟩
  ·have e0:wr.cell? ⟨w.heap.size+2,0,none⟩=some (.int .i64 x0):=(by rw[Lib.cell_of_heap hbl];rfl)
   have e1:wr.cell? ⟨w.heap.size+2,1,none⟩=some (.int .i64 a0):=(by rw[Lib.cell_of_heap hbl];rfl)
   have e2:wr.cell? ⟨w.heap.size+2,2,none⟩=some (.int .i64 b0):=(by rw[Lib.cell_of_heap hbl];rfl)
   have e3:wr.cell? ⟨w.heap.size+2,3,none⟩=some (.slice l0 n0 c0):=(by rw[Lib.cell_of_heap hbl];rfl)
   obtain⟨hB1,hb1⟩:=hAl (.cells #[.int .i64 x0,.int .i64 a0,.int .i64 b0,.slice l0 n0 c0] 208)
   clear hAl hB hbl
   by_cases q1:a0=0
   ·have f1:(a0 == 0)=true:=beq_iff_eq.2 q1
    by_cases q2:0<n0
    ·have H:z0=true:=(by rw[← hz0,decide_eq_true q1,decide_eq_true q2];rfl)
     have f2:decide ((0:Int)<(n0:Int))=true:=decide_eq_true (by omega)
     have f3:(0:Int)<(n0:Int):=by omega
     have HE:Hid (some (x0,2)=Y):=(by have:=HY2.out;rw[H] at this;exact this)
     clear q1 q2 hz0 hz1 H
     go_wp2_with fail
     refine (cthrow_f x0 2 _).mono ?_
     rintro e w3 ⟨⟨g,rfl,hg⟩,hC⟩
     go_wp2
     exact⟨rfl,hB1.trans (hC.mono hB1.size),by rw[← HE.out];exact⟨_,rfl,hg⟩⟩
    ·have H:z0=false:=(by rw[← hz0,decide_eq_true q1,decide_eq_false q2];rfl)
     have f2:decide ((0:Int)<(n0:Int))=false:=decide_eq_false (by omega)
     have f3:¬ (0:Int)<(n0:Int):=by omega
     have HN:Hid (z0=false):=H
     clear q1 q2 hz0 hz1 H
     go_wp2
     have H:=HN.out
     exact⟨⟨1,by go_num,.inr (.inl ⟨rfl,H⟩),hB1,hb1⟩,by simp[intOf]⟩
   ·have f1:(a0 == 0)=false:=beq_eq_false_iff_ne.2 q1
    have HN:Hid (z0=false):=(by show _=_;rw[← hz0,decide_eq_false q1,Bool.false_and])
    clear q1 hz0 hz1
    go_wp2
    have H:=HN.out
    exact⟨⟨1,by go_num,.inr (.inl ⟨rfl,H⟩),hB1,hb1⟩,by simp[intOf]⟩
  ·have e0:wr.cell? ⟨w.heap.size+2,4,none⟩=some (.int .i64 x1):=(by rw[Lib.cell_of_heap hbl];rfl)
   have e1:wr.cell? ⟨w.heap.size+2,5,none⟩=some (.int .i64 a1):=(by rw[Lib.cell_of_heap hbl];rfl)
   have e2:wr.cell? ⟨w.heap.size+2,6,none⟩=some (.int .i64 b1):=(by rw[Lib.cell_of_heap hbl];rfl)
   have e3:wr.cell? ⟨w.heap.size+2,7,none⟩=some (.slice l1 n1 c1):=(by rw[Lib.cell_of_heap hbl];rfl)
   obtain⟨hB1,hb1⟩:=hAl (.cells #[.int .i64 x1,.int .i64 a1,.int .i64 b1,.slice l1 n1 c1] 208)
   clear hAl hB hbl
   by_cases q1:a1=0
   ·have f1:(a1 == 0)=true:=beq_iff_eq.2 q1
    by_cases q2:0<n1
    ·have H:z1=true:=(by rw[← hz1,decide_eq_true q1,decide_eq_true q2];rfl)
     have f2:decide ((0:Int)<(n1:Int))=true:=decide_eq_true (by omega)
     have f3:(0:Int)<(n1:Int):=by omega
     have HE:Hid (some (x1,2)=Y):=(by have:=HY2.out;rw[h0,H] at this;exact this)
     clear q1 q2 hz0 hz1 H
     go_wp2_with fail
     refine (cthrow_f x1 2 _).mono ?_
     rintro e w3 ⟨⟨g,rfl,hg⟩,hC⟩
     go_wp2
     exact⟨rfl,hB1.trans (hC.mono hB1.size),by rw[← HE.out];exact⟨_,rfl,hg⟩⟩
    ·have H:z1=false:=(by rw[← hz1,decide_eq_true q1,decide_eq_false q2];rfl)
     have f2:decide ((0:Int)<(n1:Int))=false:=decide_eq_false (by omega)
     have f3:¬ (0:Int)<(n1:Int):=by omega
     have HN:Hid (z1=false):=H
     clear q1 q2 hz0 hz1 H
     go_wp2
     have H:=HN.out
     exact⟨⟨2,by go_num,.inr (.inr ⟨rfl,h0,H⟩),hB1,hb1⟩,by simp[intOf]⟩
   ·have f1:(a1 == 0)=false:=beq_eq_false_iff_ne.2 q1
    have HN:Hid (z1=false):=(by show _=_;rw[← hz1,decide_eq_false q1,Bool.false_and])
    clear q1 hz0 hz1
    go_wp2
    have H:=HN.out
    exact⟨⟨2,by go_num,.inr (.inr ⟨rfl,h0,H⟩),hB1,hb1⟩,by simp[intOf]⟩
  ·have HE:Hid (none=Y):=(by have:=HY2.out;rw[h0,h1] at this;exact this)
   clear hz0 hz1 hAl
   go_wp2
   first
    | go_end0
    | refine bodyPost_ret (results_none rfl _ _ _) rfl ?_
    | refine bodyPost_end (results_none rfl _ _ _) rfl ?_
   exact⟨hB,by rw[← HE.out]⟩
end

section
open Go.RowKit
def rngC (e:UInt8) (p:Nat) (ls:List (List UInt8)):Except (Nat × Int) ((Int × Int) × List (List UInt8)) :=
 match barP [e,e,e,32] p ls with
 | .error x=>.error x
 | .ok (s,r)=>if Lib.hasSuffix s [32,e,e,e,e]=true then match nmC (s.take (s.length-5)) with
  | none=>.error (p+1,3)
  | some q=>.ok (q,r) else .error (p+1,3)
theorem rng_bar (e:UInt8) (p:Nat) (ls:List (List UInt8)):rngP e p ls=match rngC e p ls with
  | .error x=>.error x
  | .ok (q,r)=>.ok (sayC q,r):=by
 unfold rngP rngC barP
 cases nxt p ls with
 | error x=>rfl
 | ok z =>
  obtain⟨s,r⟩:=z
  dsimp only
  rw[inn_code]
  by_cases h1:[e,e,e,32].isPrefixOf s=true
  ·rw[if_pos h1,if_pos h1]
   have e4:([e,e,e,32]:List UInt8).length=4:=rfl
   rw[e4]
   dsimp only
   by_cases h2:Lib.hasSuffix (s.drop 4) [32,e,e,e,e]=true
   ·rw[if_pos h2,if_pos h2]
    dsimp only
    rw[rng_code]
    cases nmC ((s.drop 4).take ((s.drop 4).length-5))<;>rfl
   ·rw[if_neg h2,if_neg h2]
  ·rw[if_neg h1,if_neg h1]
def sidX (e sg:UInt8) (p:Nat) (ls:List (List UInt8)):Except (Nat × Int) ((Int × Int) × List Mk × Nat × List (List UInt8)) :=
 match rngC e p ls with
 | .error x=>.error x
 | .ok (q,r)=>match sdE sg (p+1) r with
  | .error x=>.error x
  | .ok (l,p1,r1)=>.ok (q,l,p1,r1)
theorem rdC_stop {sg:UInt8} {p:Nat} {L:List (List UInt8)} (h:∀ h:p<L.length,isSd sg L[p]=false):rdC sg p (L.drop p)=.ok ([],p,L.drop p):=by
 by_cases hp:p<L.length
 ·rw[List.drop_eq_getElem_cons hp]
  simp only[rdC]
  rw[if_neg (by rw[h hp];decide)]
 ·rw[List.drop_eq_nil_of_le (by omega)]
  simp only[rdC]
theorem rdC_go {sg:UInt8} {p:Nat} {L:List (List UInt8)} (hp:p<L.length) (h:isSd sg L[p]=true) (m:List Mk):thenL m (rdC sg p (L.drop p))=if fdB L[p]=true then thenL (m++[⟨((L[p].headD 0).toNat:Int),L[p].drop 2⟩]) (rdC sg (p+1) (L.drop (p+1))) else .error (p+1,3):=by
 rw[List.drop_eq_getElem_cons hp]
 simp only[rdC]
 rw[if_pos h]
 split
 ·cases rdC sg (p+1) (L.drop (p+1)) with
  | error e=>rfl
  | ok z=>simp[thenL]
 ·rfl
theorem nxt_at {p:Nat} {L:List (List UInt8)} (hp:p<L.length):nxt p (L.drop p)=if fdB L[p]=true then .ok (L[p].dropLast,L.drop (p+1)) else .error (p+1,3):=by
 rw[List.drop_eq_getElem_cons hp]
 rfl
def Fx (m:List Mk):Prop:=∀ x∈m,fdB x.tx=true∧x.tx.length≤1099511627776
theorem sd_form {sg:UInt8} {s:List UInt8} (h:isSd sg s=true) (hf:fdB s=true):∃ a b c t,s=a::b::c::t∧fdB (c::t)=true:=by
 match s,h,hf with
 | [a,b],h,hf =>
  simp only[isSd,Bool.and_eq_true,beq_iff_eq] at h
  obtain⟨_,rfl⟩:=h
  exact absurd hf (by simp[fdB])
 | a::b::c::t,_,hf =>
  refine⟨a,b,c,t,rfl,?_⟩
  simpa [fdB] using hf
structure Sxc (w:World) (R S:Nat) (vL:Value) (x a b:Int) (v:Value) (m:List Mk) (p:Nat) (u:World):Prop where
 gr:w.grownBy u (some R)
 box:u.heap[S]?=some (.cells #[.int .i64 x,.int .i64 a,.int .i64 b,v] 208)
 own:u.ownsRow w.heap.size 103 2 v m.length (mkcells m)
 ck:Ck u R vL (p:Int)
 ge:w.heap.size≤S
 rl:R<w.heap.size
 nil:m=[]→v=.slice none 0 0
section
variable {w u u':World} {R S:Nat} {vL v:Value} {x a b:Int} {m:List Mk} {p:Nat}
theorem Sxc.keep (h:Sxc w R S vL x a b v m p u) (hb:Below u.heap.size u u'):Sxc w R S vL x a b v m p u':=⟨grown_two h.gr (low_grown hb _),(hb.block S (Array.getElem?_eq_some_iff.1 h.box).1).trans h.box,owns_keep h.own hb,h.ck.low hb,h.ge,h.rl,h.nil⟩
theorem Sxc.cells (h:Sxc w R S vL x a b v m p u):u.cell? ⟨S,0,none⟩=some (.int .i64 x)∧u.cell? ⟨S,1,none⟩=some (.int .i64 a)∧u.cell? ⟨S,2,none⟩=some (.int .i64 b)∧u.cell? ⟨S,3,none⟩=some v:=by
 refine⟨?_,?_,?_,?_⟩<;>rw[Lib.cell_of_heap h.box]<;>rfl
theorem Sxc.frozen (h:Sxc w R S vL x a b v m p u) (j:Nat):u.frozen? ⟨S,j,none⟩=false:=Lib.frozen_of_heap h.box j
theorem Sxc.ne (h:Sxc w R S vL x a b v m p u):R≠S:=by have h1:=h.ge;have h2:=h.rl;omega
theorem Sxc.next (h:Sxc w R S vL x a b v m p u):Sxc w R S vL x a b v m (p+1) (u.setCell ⟨R,1,none⟩ (.int .i64 ((p:Int)+1))):=by
 have hg:=grown_set u R 1 (.int .i64 ((p:Int)+1))
 exact⟨grown_two h.gr hg,(hg.block S (Array.getElem?_eq_some_iff.1 h.box).1 (fun e=>h.ne (Option.some.inj e).symm)).trans h.box,owns_fr h.own hg h.rl,by have:=h.ck.at ((p:Int)+1);simpa using this,h.ge,h.rl,h.nil⟩
theorem Sxc.more (h:Sxc w R S vL x a b v m p u) {y:Mk} {v':Value} {n:Nat} (hg:u.grownBy u' v.ownBlock) (ho:u'.ownsRow w.heap.size 103 2 v' n (mkcells (m++[y]))) (hn:n=(m++[y]).length):Sxc w R S vL x a b v' (m++[y]) p (u'.setCell ⟨S,3,none⟩ v')∧u'.heap[S]?=some (.cells #[.int .i64 x,.int .i64 a,.int .i64 b,v] 208):=by
 subst hn
 have hb:u'.heap[S]?=some (.cells #[.int .i64 x,.int .i64 a,.int .i64 b,v] 208):=(hg.block S (Array.getElem?_eq_some_iff.1 h.box).1 (fun e=>own_box2 h.own h.box (by decide) e.symm)).trans h.box
 have hgR:w.grownBy u' (some R):=⟨hg.os.trans h.gr.os,hg.tape.trans h.gr.tape,hg.output.trans h.gr.output,Nat.le_trans h.gr.size hg.size,fun k h1 h2=>(hg.block k (Nat.lt_of_lt_of_le h1 h.gr.size) (fun e=>by have:=owns_ge h.own e.symm;omega)).trans (h.gr.block k h1 h2)⟩
 have hg2:=grown_set u' S 3 v'
 have hck:Ck u' R vL (p:Int):=h.ck.keep hg (fun e=>by have:=owns_ge h.own e.symm;have:=h.rl;omega)
 refine⟨⟨⟨hg2.os.trans hgR.os,hg2.tape.trans hgR.tape,hg2.output.trans hgR.output,Nat.le_trans hgR.size hg2.size,fun k h1 h2=>(hg2.block k (Nat.lt_of_lt_of_le h1 hgR.size) (fun e=>by cases e;have:=h.ge;omega)).trans (hgR.block k h1 h2)⟩,heap_setCell_same u' S 3 _ _ v' hb,?_,hck.keep hg2 (fun e=>h.ne (Option.some.inj e)),h.ge,h.rl,fun e=>by simp at e⟩,hb⟩
 refine⟨ho.1,?_⟩
 rcases ho.2 with q | ⟨g,cap,cur,rfl,q2,q3,q4⟩
 ·exact .inl q
 ·refine .inr ⟨g,cap,cur,rfl,q2,?_,q4⟩
  rw[hg2.block g (Array.getElem?_eq_some_iff.1 q3).1 (fun e=>by
   cases e
   rw[hb] at q3
   simp at q3)]
  exact q3
end
def SdX (R:Nat) (vL:Value) (p:Nat) (X:Except (Nat × Int) ((Int × Int) × List Mk × Nat × List (List UInt8))) (w:World) (e:Ending) (w':World):Prop :=
 match X with
 | .error (a,z)=>Thr (a:Int) z e w'∧w.grownBy w' (some R)
 | .ok (q,l,p1,_)=>∃ v',e=.returned (.agg #[.int .i64 ((p:Int)+1),.int .i64 q.1,.int .i64 q.2,v'])∧w'.ownsRow w.heap.size 103 2 v' l.length (mkcells l)∧(l=[]→v'=.slice none 0 0)∧Ck w' R vL (p1:Int)∧w.grownBy w' (some R)
end

section
open Go.RowKit
attribute [local go_sem] ByteArray.extract_mk no_at
def zsO:Obj:=.cells #[.int .i64 0,.int .i64 0,.int .i64 0,.slice none 0 0] 208
def ckN (u:World) (R:Nat):Nat:=match u.cell? ⟨R,1,none⟩ with
 | some v=>(intOf v).toNat
 | none=>0
theorem ckN_of {u:World} {R:Nat} {vL:Value} {p:Nat} (h:Ck u R vL (p:Int)):ckN u R=p:=by
 unfold ckN
 rw[h.cells.2]
 simp[intOf]
theorem grown_base {w u:World} {R:Nat} (O:Obj) (h:(w.alloc O).grownBy u (some R)):w.grownBy u (some R):=grown_two (World.grownBy_alloc w O _) h
theorem sid_err {e sg:UInt8} {p:Nat} {ls:List (List UInt8)} {x:Nat × Int} (h:rngC e p ls=.error x):sidX e sg p ls=.error x:=by
 unfold sidX
 rw[h]
theorem sid_ok {e sg:UInt8} {p:Nat} {ls r:List (List UInt8)} {q:Int × Int} (h:rngC e p ls=.ok (q,r)):sidX e sg p ls=match rdC sg (p+1) r with
  | .error x=>.error x
  | .ok (l,p1,r1)=>if (!l.isEmpty && endK l r1)=true then .ok (q,cutL l,p1+1,r1.tail) else .ok (q,l,p1,r1):=by
 unfold sidX
 rw[h]
 dsimp only
 unfold sdE
 cases rdC sg (p+1) r with
 | error x=>rfl
 | ok z =>
  obtain⟨l,p1,r1⟩:=z
  dsimp only
  by_cases hb:(!l.isEmpty && endK l r1)=true
  ·rw[if_pos hb,if_pos hb]
  ·rw[if_neg hb,if_neg hb]
def four (u:World) (Q:Nat) (x a b:Int) (v:Value):World:=(((u.setCell ⟨Q,0,none⟩ (.int .i64 x)).setCell ⟨Q,1,none⟩ (.int .i64 a)).setCell ⟨Q,2,none⟩ (.int .i64 b)).setCell ⟨Q,3,none⟩ v
theorem four_ok {w wa u:World} {R S:Nat} {vL v:Value} {x a b:Int} {m:List Mk} {p:Nat} (h:Sxc wa R S vL x a b v m p u) (hG:∀ u,wa.grownBy u (some R)→w.grownBy u (some R)) (hZ:wa.heap[w.heap.size]?=some zsO∧w.heap.size<wa.heap.size∧w.heap.size≠R) :
  (four u w.heap.size x a b v).heap[w.heap.size]?=some (.cells #[.int .i64 x,.int .i64 a,.int .i64 b,v] 208)∧(four u w.heap.size x a b v).ownsRow w.heap.size 103 2 v m.length (mkcells m)∧Ck (four u w.heap.size x a b v) R vL (p:Int)∧w.grownBy (four u w.heap.size x a b v) (some R):=by
 obtain⟨h1,h2,h3⟩:=hZ
 have hb:u.heap[w.heap.size]?=some zsO:=(h.gr.block _ h2 (fun e=>h3 (Option.some.inj e))).trans h1
 have hg:u.grownBy (four u w.heap.size x a b v) (some w.heap.size):=grown_two (grown_two (grown_two (grown_set u _ 0 _) (grown_set _ _ 1 _)) (grown_set _ _ 2 _)) (grown_set _ _ 3 _)
 refine⟨?_,own_base (owns_fr h.own hg h2) (by omega),h.ck.keep hg (fun e=>h3 (Option.some.inj e).symm),?_⟩
 ·have s0:=heap_setCell_same u w.heap.size 0 _ _ (.int .i64 x) hb
  have s1:=heap_setCell_same _ w.heap.size 1 _ _ (.int .i64 a) s0
  have s2:=heap_setCell_same _ w.heap.size 2 _ _ (.int .i64 b) s1
  exact heap_setCell_same _ w.heap.size 3 _ _ v s2
 ·exact grown_new (grown_new (grown_new (grown_new (hG _ h.gr) (Nat.le_refl _) 0 _) (Nat.le_refl _) 1 _) (Nat.le_refl _) 2 _) (Nat.le_refl _) 3 _
theorem four_cells {w wa u:World} {R S:Nat} {vL v:Value} {x a b:Int} {m:List Mk} {p:Nat} (h:Sxc wa R S vL x a b v m p u) (hZ:wa.heap[w.heap.size]?=some zsO∧w.heap.size<wa.heap.size∧w.heap.size≠R) (Q:Nat) (hQ:w.heap.size=Q) :
  u.cell? ⟨Q,0,none⟩=some (.int .i64 0)∧u.cell? ⟨Q,1,none⟩=some (.int .i64 0)∧u.cell? ⟨Q,2,none⟩=some (.int .i64 0)∧u.cell? ⟨Q,3,none⟩=some (.slice none 0 0)∧∀ j,u.frozen? ⟨Q,j,none⟩=false:=by
 obtain⟨h1,h2,h3⟩:=hZ
 have hb:u.heap[w.heap.size]?=some (.cells #[.int .i64 0,.int .i64 0,.int .i64 0,.slice none 0 0] 208):=(h.gr.block _ h2 (fun e=>h3 (Option.some.inj e))).trans h1
 rw[hQ] at hb
 refine⟨?_,?_,?_,?_,fun j=>Lib.frozen_of_heap hb j⟩<;>rw[Lib.cell_of_heap hb]<;>rfl
theorem Sxc.cut {w u:World} {R S:Nat} {vL v:Value} {x a b:Int} {m m':List Mk} {p:Nat} (h:Sxc w R S vL x a b v m p u) {g j:Nat} {z:Value} (hv:v.ownBlock=some g) (ho:(u.setCell ⟨g,j,none⟩ z).ownsRow w.heap.size 103 2 v m'.length (mkcells m')) (hn:m'≠[]):Sxc w R S vL x a b v m' p (u.setCell ⟨g,j,none⟩ z):=by
 have hg:=grown_set u g j z
 have hge:=owns_ge h.own hv
 have hSg:some S≠some g:=fun e=>own_box2 h.own h.box (by decide) (hv.trans e.symm)
 refine⟨grown_new h.gr hge j z,(hg.block S (Array.getElem?_eq_some_iff.1 h.box).1 hSg).trans h.box,ho,h.ck.keep hg (fun e=>by cases e;have:=h.rl;omega),h.ge,h.rl,fun e=>absurd e hn⟩
theorem end_last {m:List Mk} (h:m≠[]):∃ m1 y,m=m1++[y]:=⟨m.dropLast,m.getLast h,(List.dropLast_concat_getLast h).symm⟩
theorem crside_f {R:Nat} {L:List (List UInt8)} {lo:Option Addr} {lc:Nat} {p:Nat} (e sg:UInt8) (w:World) (q:Ck w R (.slice lo L.length lc) p) (HL:Hid (∀ u,w.grownBy u (some R)→HS u (.slice lo L.length lc) L)) (HPl:Hid (Plain L)) (hp:p≤L.length) (hLl:L.length≤1099511627776) (HSl:Hid (∀ s∈L,s.length≤1099511627776))
  (X:Except (Nat × Int) ((Int × Int) × List Mk × Nat × List (List UInt8))) (HX:Hid (sidX e sg p (L.drop p)=X)) :
  Calls Tryz.prog 151 #[.pointer (some ⟨R,0,none⟩),.string ⟨#[e,e,e,32]⟩,.string ⟨#[32,e,e,e,e]⟩,.int .u8 (sg.toNat:Int)] w fun x w'=>SdX R (.slice lo L.length lc) p X w x w':=by
 have q1:Ck (w.alloc zsO) R (.slice lo L.length lc) p:=q.low ((Below.refl _ w).alloc (Nat.le_refl _) _)
 have hL1:=HL.out _ (World.grownBy_alloc w zsO (some R))
 have HG:Hid (∀ u,(w.alloc zsO).grownBy u (some R)→w.grownBy u (some R)):=fun u hu=>grown_base zsO hu
 have hRl:=q.lt
 obtain⟨Y,hY⟩:∃ Y,barP [e,e,e,32] p (L.drop p)=Y:=⟨_,rfl⟩
 have hb:=cbare_f [e,e,e,32] (w.alloc zsO) q1 hL1 hp (by omega) HSl.out Y hY
 have hW:w.alloc (.cells #[.int .i64 0,.int .i64 0,.int .i64 0,.slice none 0 0] 208)=w.alloc zsO:=rfl
 cases Y with
 | error z =>
  obtain⟨a,z⟩:=z
  have hXe:X=.error (a,z):=(by
   rw[← HX.out]
   apply sid_err
   unfold rngC
   rw[hY])
  subst hXe
  clear HX hY
  go_enter Tryz.func151,Tryz.ntmps151
  go_wp2_with fail
  refine hb.mono ?_
  rintro x w1 ⟨⟨g,rfl,hg⟩,hgr⟩
  go_wp2
  exact⟨rfl,⟨_,rfl,hg⟩,HG.out _ hgr⟩
 | ok z =>
  obtain⟨s,r⟩:=z
  have hb2:Calls Tryz.prog 147 #[.pointer (some ⟨R,0,none⟩),.string ⟨#[e,e,e,32]⟩] (w.alloc zsO) fun x w'=>x=.returned (.string ⟨s.toArray⟩)∧∃ n,w'=(w.alloc zsO).drewN n:=hb
  have HBar:=hY
  unfold barP at hY
  cases hn:nxt p (L.drop p) with
  | error z2=>rw[hn] at hY;cases hY
  | ok z2 =>
  obtain⟨s0,r0⟩:=z2
  rw[hn] at hY
  dsimp only at hY
  split at hY
  ·obtain⟨hr,hpl,_,hLp⟩:=nxt_rest hn
   have hsl:=HSl.out L[p] (List.getElem_mem hpl)
   rw[hLp,List.length_append] at hsl
   have hs0:s.length≤s0.length:=(by injection hY with h;injection h with h1 h2;rw[← h1,List.length_drop];omega)
   have hrr:r=L.drop (p+1):=(by injection hY with h;injection h with h1 h2;rw[← h2,hr])
   have hsl2:s.length≤1099511627776:=(by omega)
   subst hrr
   have HXR:Hid (∀ z,rngC e p (L.drop p)=.error z→X=.error z):=fun z hz=>HX.out.symm.trans (sid_err hz)
   have HXK:Hid (∀ q,rngC e p (L.drop p)=.ok (q,L.drop (p+1))→X=match rdC sg (p+1) (L.drop (p+1)) with
    | .error x=>.error x
    | .ok (l,p1,r1)=>if (!l.isEmpty && endK l r1)=true then .ok (q,cutL l,p1+1,r1.tail) else .ok (q,l,p1,r1)):=fun z hz=>HX.out.symm.trans (sid_ok hz)
   have hRng:rngC e p (L.drop p)=if Lib.hasSuffix s [32,e,e,e,e]=true then match nmC (s.take (s.length-5)) with
    | none=>.error (p+1,3)
    | some q=>.ok (q,L.drop (p+1)) else .error (p+1,3):=(by unfold rngC;first | (rw[HBar];done) | (rw[HBar];rfl))
   clear HX hY hn hb hs0 hsl hLp hr HBar
   have hc:=fun u=>Tryz.strings_CutSuffix ⟨s.toArray⟩ ⟨#[32,e,e,e,e]⟩ u (by show s.length≤_;omega)
   have hcs:Lib.hasSuffix (⟨s.toArray⟩:ByteArray).data.toList (⟨#[32,e,e,e,e]⟩:ByteArray).data.toList=Lib.hasSuffix s [32,e,e,e,e]:=rfl
   have hct:Lib.trimSuffix (⟨s.toArray⟩:ByteArray).data.toList (⟨#[32,e,e,e,e]⟩:ByteArray).data.toList=Lib.trimSuffix s [32,e,e,e,e]:=rfl
   rw[hcs,hct] at hc
   go_enter Tryz.func151,Tryz.ntmps151
   go_wp2_with fail
   refine hb2.mono ?_
   rintro x w1 ⟨rfl,nn,rfl⟩
   have q2:=q1.dN nn
   have g2:=grown_drewN (low_grown (Below.refl (w.alloc zsO).heap.size (w.alloc zsO)) (some R)) nn
   clear hb2 q1 hL1
   have hRl1:R<(w.alloc zsO).heap.size:=(by simp;omega)
   have HZ:Hid ((w.alloc zsO).heap[w.heap.size]?=some zsO∧w.heap.size<(w.alloc zsO).heap.size∧w.heap.size≠R):=⟨heap_alloc_new w _,by simp,by omega⟩
   clear hW
   generalize (w.alloc zsO).drewN nn=W0 at q2 g2 ⊢
   generalize w.alloc zsO=wa at g2 HG HZ hRl1
   by_cases hsuf:Lib.hasSuffix s [32,e,e,e,e]=true
   ·rw[if_pos hsuf] at hRng
    have htr:Lib.trimSuffix s [32,e,e,e,e]=s.take (s.length-5):=(by unfold Lib.trimSuffix;rw[if_pos hsuf];rfl)
    rw[htr,hsuf] at hc
    have hDl:(s.take (s.length-5)).length≤1099511627776:=(by rw[List.length_take];omega)
    generalize s.take (s.length-5)=D at hc hDl hRng
    clear htr
    go_wp2_with fail
    refine (hc _).mono ?_
    rintro x w2 ⟨rfl,rfl⟩
    go_wp2_with fail
    refine (cnumbers_f D _ hDl).mono ?_
    rintro x w3 ⟨a,b,rr,rfl,hnm,hB3⟩
    have q3:=q2.low hB3
    have g3:=grown_two g2 (low_grown hB3 (some R))
    clear q2 g2 hB3 hc
    rw[hnm] at hRng
    cases rr with
    | false =>
     have hXe:=HXR.out _ hRng
     subst hXe
     clear hRng HXR HXK hnm
     go_wp2_with fail
     refine (crefuse_f 3 _ q3 (by omega)).mono ?_
     rintro x w4 ⟨⟨g,rfl,hg⟩,hgr⟩
     go_wp2
     exact⟨rfl,⟨_,rfl,by simpa using hg⟩,HG.out _ (grown_two g3 hgr)⟩
    | true =>
     have hXk:=HXK.out _ hRng
     have hok:=nmC_ok hnm
     clear hRng HXR HXK hnm
     obtain⟨c0,c1⟩:=q3.cells
     have f1:=q3.frozen 1
     have q4:=q3.at ((p:Int)+1)
     have g4:=grown_two g3 (grown_set w3 R 1 (.int .i64 ((p:Int)+1)))
     have hS0:Sxc wa R w3.heap.size (.slice lo L.length lc) ((p:Int)+1) a b (.slice none 0 0) [] (p+1) ((w3.setCell ⟨R,1,none⟩ (.int .i64 ((p:Int)+1))).alloc (.cells #[.int .i64 ((p:Int)+1),.int .i64 a,.int .i64 b,.slice none 0 0] 208)):=(by
      have hsz:(w3.setCell ⟨R,1,none⟩ (.int .i64 ((p:Int)+1))).heap.size=w3.heap.size:=by simp
      refine⟨grown_two g4 (World.grownBy_alloc _ _ _),?_,hnil_row _ _ _ _,?_,?_,hRl1,fun _=>rfl⟩
      ·rw[← hsz];exact heap_alloc_new _ _
      ·have:=q4.low ((Below.refl _ _).alloc (Nat.le_refl _) (.cells #[.int .i64 ((p:Int)+1),.int .i64 a,.int .i64 b,.slice none 0 0] 208))
       simpa using this
      ·exact g3.size)
     clear q3 g3 q4 g4
     obtain⟨Y,hY⟩:∃ Y,rdC sg (p+1) (L.drop (p+1))=Y:=⟨_,rfl⟩
     rw[hY] at hXk
     have HXe:Hid (∀ z,Y=.error z→X=.error z):=(by intro z hz;rw[hXk,hz])
     have HXo:Hid (∀ l p1 r1,Y=.ok (l,p1,r1)→X=if (!l.isEmpty && endK l r1)=true then .ok ((a,b),cutL l,p1+1,r1.tail) else .ok ((a,b),l,p1,r1)):=(by intro l p1 r1 hz;rw[hXk,hz])
     have HY0:Hid (thenL [] (rdC sg (p+1) (L.drop (p+1)))=Y):=(by show _=_;rw[thenL_nil,hY])
     clear hXk hY
     go_wp2
     generalize ((w3.setCell ⟨R,1,none⟩ (.int .i64 ((p:Int)+1))).alloc (.cells #[.int .i64 ((p:Int)+1),.int .i64 a,.int .i64 b,.slice none 0 0] 208))=w5 at hS0 ⊢
     generalize w3.heap.size=S at hS0 ⊢
     clear c0 c1 f1 q
     go_loopw [15] (fun _ wr=>∃ (m:List Mk) (p':Nat) (v:Value),Sxc wa R S (.slice lo L.length lc) ((p:Int)+1) a b v m p' wr∧p'≤L.length∧Hid (m.length≤p'∧Fx m)∧Hid (thenL m (rdC sg p' (L.drop p'))=Y)) (fun _ u=>L.length-ckN u R)
     case atStart=>exact⟨[],p+1,_,hS0,by omega,⟨Nat.zero_le _,fun x hx=>by cases hx⟩,HY0⟩
     case round =>
     clear hS0 HY0
     obtain⟨m,p',v,hS,hp',HM,HI⟩:=hrel
     have hLr:=HL.out wr (HG.out _ hS.gr)
     have hml:=HM.out.1
     have HK:Hid (ckN wr R=p'):=ckN_of hS.ck
     obtain⟨vo,vc,rfl⟩:=(holds_of hS.own).form
     obtain⟨c0,c1⟩:=hS.ck.cells
     by_cases hlt:p'<L.length
     ·obtain⟨bk,off,rfl,hbk,hcl⟩:=HS.at hLr (by omega)
      have d4:=hcl p' hlt
      clear hcl
      have hd:decide ((p':Int)<(L.length:Int))=true:=decide_eq_true (by omega)
      have i1:(0:Int)≤(p':Int):=by omega
      have i2:(p':Int)<(L.length:Int):=by omega
      have i3:(p':Int).toNat=p':=by omega
      have hsl:=HSl.out L[p'] (List.getElem_mem hlt)
      obtain⟨rs,hrs⟩:∃ r,isSd sg L[p']=r:=⟨_,rfl⟩
      have his:=fun u=>cisShown_f L[p'] sg u hsl rs hrs
      cases rs with
      | true =>
       have hgo:=rdC_go hlt hrs m
       rw[HI.out] at hgo
       have hnx:=nxt_at hlt
       obtain⟨s1,hs1⟩:∃ s,L[p']=s:=⟨_,rfl⟩
       rw[hs1] at d4 hsl his hrs hgo hnx
       go_wp2_with fail
       go_quiet ((go_at_call 207;exact Calls.quiet_of_same (his _)))
       have hSq:=hS.keep (below_drewN (Below.refl _ _) nq)
       have hLq:=HL.out _ (HG.out _ hSq.gr)
       clear hS hLr c0 c1 his
       generalize wr.drewN nq=w6 at hSq hLq ⊢
       by_cases hfd:fdB s1=true
       ·rw[if_pos hfd] at hgo hnx
        have hln:=crline_f w6 hSq.ck hLq hp' (by omega) HSl.out _ hnx
        obtain⟨a0,b0,c0,t,rfl,hfd2⟩:=sd_form hrs hfd
        have hln2:Calls Tryz.prog 203 #[.pointer (some ⟨R,0,none⟩)] w6 fun x w'=>x=.returned (.string ⟨(a0::b0::c0::t).toArray⟩)∧∃ n,w'=w6.drewN n:=(by
         refine hln.mono ?_
         rintro x w' ⟨h1,h2⟩
         rw[drop_feed hfd] at h1
         exact⟨h1,h2⟩)
        have HI2:Hid (thenL (m++[⟨(a0.toNat:Int),c0::t⟩]) (rdC sg (p'+1) (L.drop (p'+1)))=Y):=hgo.symm
        have HM2:Hid ((m++[(⟨(a0.toNat:Int),c0::t⟩:Mk)]).length≤p'+1∧Fx (m++[⟨(a0.toNat:Int),c0::t⟩])):=⟨by rw[List.length_append];simp;omega,by
         intro x hx
         rcases List.mem_append.1 hx with hx | hx
         ·exact HM.out.2 x hx
         ·rw[List.mem_singleton.1 hx]
          refine⟨hfd2,?_⟩
          simp only[List.length_cons] at hsl ⊢
          omega⟩
        clear hln hnx hgo HXe HXo HI HM hfd hfd2 hLq hrs hs1 d4
        go_wp2_with fail
        refine hln2.mono ?_
        rintro x w7 ⟨rfl,nn,rfl⟩
        have hS7:=hSq.keep (below_drewN (Below.refl _ _) nn)
        clear hSq hln2
        generalize w6.drewN nn=w7 at hS7 ⊢
        have hS8:=hS7.keep ((Below.refl _ w7).alloc (Nat.le_refl _) (.cells #[.int .u8 (a0.toNat:Int),.string ⟨(c0::t).toArray⟩] 103))
        have hS9:=hS8.keep (Below.drew (Below.refl _ _))
        obtain⟨_,_,_,k3⟩:=hS7.cells
        obtain⟨_,_,_,k3a⟩:=hS8.cells
        obtain⟨_,_,_,k3b⟩:=hS9.cells
        have hrow0:=mk_row w7 ⟨(a0.toNat:Int),c0::t⟩
        have hrow:Holds ((w7.alloc (.cells #[.int .u8 (a0.toNat:Int),.string ⟨(c0::t).toArray⟩] 103)).drew) (.slice (some ⟨w7.heap.size,0,none⟩) 1 1) 1 (mkcells [⟨(a0.toNat:Int),c0::t⟩]):=hrow0
        have hown:=hS9.own
        have hbase:=hS9.gr.size
        have hxb:m.length+1≤4398046511104:=by omega
        clear hrow0
        have j1:(0:Int)<(t.length:Int)+1+1+1:=by omega
        have j2:(2:Int)≤(t.length:Int)+1+1+1:=by omega
        have j3:(t.length:Int).toNat=t.length:=by omega
        go_wp2_with fail
        go_region_law (refine step_append_h _ rfl (.tmp 79) (.tmp 85) 57 103 (.agg #[.int .u8 0,.string ⟨#[]⟩]) 2 24 rfl Tryz.underlying57 infoMk rfl (by decide) (by decide) wa.heap.size _ _ _ rfl hown _ 1 (mkcells [⟨(a0.toNat:Int),c0::t⟩]) rfl hrow (mkcells_length _) (mkcells_one _) hxb hbase ?_;intro v8 u8 hown8 hg8;rw[← mkcells_append] at hown8;obtain⟨hS10,hbx⟩:=hS9.more hg8 hown8 (by rw[List.length_append];rfl);have kc:u8.cell? ⟨S,3,none⟩=some (.slice vo m.length vc):=(by rw[Lib.cell_of_heap hbx];rfl);have kf:u8.frozen? ⟨S,3,none⟩=false:=Lib.frozen_of_heap hbx 3;obtain⟨o8,c8,rfl⟩:=(holds_of hown8).form;obtain⟨d0,d1⟩:=hS10.ck.cells;have f1:=hS10.ck.frozen 1)
        all_goals (
         have hS11:=hS10.next
         first
         | exact⟨⟨_,p'+1,_,hS11,by omega,HM2,HI2⟩,by rw[ckN_of hS11.ck,HK.out];omega⟩
         | (go_wp2;exact⟨⟨_,p'+1,_,hS11,by omega,HM2,HI2⟩,by rw[ckN_of hS11.ck,HK.out];omega⟩))
       ·rw[if_neg hfd] at hgo hnx
        have hXe:=HXe.out _ hgo
        subst hXe
        have hln:=crline_f w6 hSq.ck hLq hp' (by omega) HSl.out _ hnx
        clear hgo hnx HXe HXo HI
        go_wp2_with fail
        refine hln.mono ?_
        rintro x w7 ⟨⟨g,rfl,hg⟩,hgr⟩
        go_wp2
        exact⟨rfl,⟨_,rfl,by simpa using hg⟩,HG.out _ (grown_two hSq.gr hgr)⟩
      | false =>
       have hYv:Y=.ok (m,p',L.drop p'):=(by
        rw[← HI.out,rdC_stop (fun _=>hrs)]
        simp[thenL])
       have hXv:=HXo.out m p' (L.drop p') hYv
       clear HXe HXo HI hYv
       go_wp2_with fail
       go_quiet ((go_at_call 207;exact Calls.quiet_of_same (his _)))
       have hSq:=hS.keep (below_drewN (Below.refl _ _) nq)
       have hLq:=HL.out _ (HG.out _ hSq.gr)
       clear hS hLr c0 c1
       generalize wr.drewN nq=w6 at hSq hLq ⊢
       by_cases hm0:m=[]
       ·subst hm0
        have hv0:=hSq.nil rfl
        injection hv0 with e1 e2 e3
        subst e1 e3
        have hXv2:X=.ok ((a,b),[],p',L.drop p'):=hXv
        subst hXv2
        clear hXv
        obtain⟨k0,k1,k2,k3⟩:=hSq.cells
        obtain⟨q0,q1,q2,q3,qf⟩:=four_cells hSq HZ.out _ rfl
        obtain⟨fh,fo,fq,fg⟩:=four_ok hSq HG.out HZ.out
        have qf0:=qf 0
        have qf1:=qf 1
        have qf2:=qf 2
        have qf3:=qf 3
        clear hSq qf
        go_wp2
        refine bodyPost_ret (v:=.agg #[.int .i64 ((p:Int)+1),.int .i64 a,.int .i64 b,.slice none 0 0]) (results_cell_row rfl _ _ w.heap.size 208 #[.int .i64 ((p:Int)+1),.int .i64 a,.int .i64 b,.slice none 0 0] (0,0) _ rfl fh Tryz.underlying208 rfl (by kernel_rfl)) rfl ⟨_,rfl,fo,fun _=>rfl,fq,fg⟩
       ·obtain⟨m1,y,rfl⟩:=end_last hm0
        have hne:(!(m1++[y]).isEmpty)=true:=(by cases m1<;>rfl)
        have hfd:=HM.out.2 y (by simp)
        rw[hne,Bool.true_and] at hXv
        unfold endK at hXv
        rw[lastT_snoc,cutL_snoc] at hXv
        obtain⟨N1,hN1⟩:∃ N1,m1.length=N1:=⟨_,rfl⟩
        have hlen:(m1++[y]).length=N1+1:=(by rw[List.length_append,hN1];rfl)
        have hown:=hSq.own
        have hown':=hown
        rw[List.length_append] at hown'
        obtain⟨g,cap,hvv,hBg,hgs,d1,df,hset⟩:=owns_last hown'
        rw[hN1] at d1 df hset
        injection hvv with hv1 hv2 hv3
        subst hv1 hv3
        have hgR:R≠g:=(by omega)
        clear hown' hv2 HM
        have hml2:N1+1≤p':=(by rw[hlen] at hml;exact hml)
        have j0:(0:Int)<((N1+1:Nat):Int):=by omega
        have j1:(0:Int)≤(N1:Int):=by omega
        have j2:(N1:Int)<(N1:Int)+1:=by omega
        have j3:(N1:Int)+1-1=(N1:Int):=by omega
        obtain⟨k0,k1,k2,k3⟩:=hSq.cells
        rw[hlen] at k3
        have HNm:Hid (∀ x:Mk,(m1++[x]).length=N1+1):=(by intro x;rw[← hN1];simp)
        cases hb:(y.tx != [10] && pkM (L.drop p')) with
        | false =>
         rw[hb,if_neg (by decide)] at hXv
         subst hXv
         have he:=crend_no (g:=g) (o:=N1 * 2) w6 hSq.ck hLq HPl.out hp' (by omega) y.tx d1 hb
         clear hb hset df hfd hown
         go_wp2_with fail
         refine he.mono ?_
         rintro x w7 ⟨rfl,nn,rfl⟩
         have hSr:=hSq.keep (below_drewN (Below.refl _ _) nn)
         clear he hSq k0 k1 k2 k3 d1
         generalize w6.drewN nn=w7 at hSr ⊢
         obtain⟨k0,k1,k2,k3⟩:=hSr.cells
         rw[hlen] at k3
         obtain⟨q0,q1,q2,q3,qf⟩:=four_cells hSr HZ.out _ rfl
         obtain⟨fh,fo,fq,fg⟩:=four_ok hSr HG.out HZ.out
         rw[hlen] at fh fo fq fg
         have qf0:=qf 0
         have qf1:=qf 1
         have qf2:=qf 2
         have qf3:=qf 3
         clear hSr qf
         go_wp2
         refine bodyPost_ret (v:=.agg #[.int .i64 ((p:Int)+1),.int .i64 a,.int .i64 b,.slice (some ⟨g,0,none⟩) (N1+1) vc]) (results_cell_row rfl _ _ w.heap.size 208 #[.int .i64 ((p:Int)+1),.int .i64 a,.int .i64 b,.slice (some ⟨g,0,none⟩) (N1+1) vc] (0,0) _ rfl fh Tryz.underlying208 rfl (by kernel_rfl)) rfl ⟨_,rfl,by rw[HNm.out];exact fo,fun e=>by simp at e,fq,fg⟩
        | true =>
         rw[hb,if_pos rfl] at hXv
         subst hXv
         have HTt:Hid (y.tx=y.tx.dropLast++[10]):=fd_form hfd.1
         have he:=crend_yes (g:=g) (o:=N1 * 2) w6 hSq.ck hLq HPl.out (by omega) hgR y.tx y.tx.dropLast HTt hfd.2 d1 df hb
         have hs2:=fun nn=>hset (w6.drewN nn) y.tx.dropLast rfl
         clear hb hset df hfd hown
         go_wp2_with fail
         refine he.mono ?_
         rintro x w7 ⟨rfl,nn,rfl⟩
         have hSr0:=hSq.keep (below_drewN (Below.refl _ _) nn)
         have hSr1:=hSr0.cut (g:=g) (j:=N1 * 2+1) (z:=.string ⟨y.tx.dropLast.toArray⟩) (m':=m1++[⟨y.sg,y.tx.dropLast⟩]) rfl (by rw[HNm.out ⟨y.sg,y.tx.dropLast⟩];rw[hlen];exact hs2 nn) (by simp)
         have hSr:=hSr1.next
         clear he hSq k0 k1 k2 k3 d1 hSr0 hSr1 hs2
         generalize ((w6.drewN nn).setCell ⟨g,N1 * 2+1,none⟩ (.string ⟨y.tx.dropLast.toArray⟩)).setCell ⟨R,1,none⟩ (.int .i64 ((p':Int)+1))=w7 at hSr ⊢
         obtain⟨k0,k1,k2,k3⟩:=hSr.cells
         rw[hlen] at k3
         obtain⟨q0,q1,q2,q3,qf⟩:=four_cells hSr HZ.out _ rfl
         obtain⟨fh,fo,fq,fg⟩:=four_ok hSr HG.out HZ.out
         rw[hlen] at fh fo fq fg
         have qf0:=qf 0
         have qf1:=qf 1
         have qf2:=qf 2
         have qf3:=qf 3
         clear hSr qf
         go_wp2
         refine bodyPost_ret (v:=.agg #[.int .i64 ((p:Int)+1),.int .i64 a,.int .i64 b,.slice (some ⟨g,0,none⟩) (N1+1) vc]) (results_cell_row rfl _ _ w.heap.size 208 #[.int .i64 ((p:Int)+1),.int .i64 a,.int .i64 b,.slice (some ⟨g,0,none⟩) (N1+1) vc] (0,0) _ rfl fh Tryz.underlying208 rfl (by kernel_rfl)) rfl ⟨_,rfl,by rw[HNm.out ⟨y.sg,y.tx.dropLast⟩] at fo ⊢;exact fo,fun e=>by simp at e,fq,fg⟩
     ·have hd:decide ((p':Int)<(L.length:Int))=false:=decide_eq_false (by omega)
      have hYv:Y=.ok (m,p',L.drop p'):=(by
       rw[← HI.out,rdC_stop (fun h=>absurd h hlt)]
       simp[thenL])
      have hXv:=HXo.out m p' (L.drop p') hYv
      clear HXe HXo HI hYv
      go_wp2_with fail
      go_quiet (fail)
      have hSq:=hS.keep (below_drewN (Below.refl _ _) nq)
      have hLq:=HL.out _ (HG.out _ hSq.gr)
      clear hS hLr c0 c1
      generalize wr.drewN nq=w6 at hSq hLq ⊢
      by_cases hm0:m=[]
      ·subst hm0
       have hv0:=hSq.nil rfl
       injection hv0 with e1 e2 e3
       subst e1 e3
       have hXv2:X=.ok ((a,b),[],p',L.drop p'):=hXv
       subst hXv2
       clear hXv
       obtain⟨k0,k1,k2,k3⟩:=hSq.cells
       obtain⟨q0,q1,q2,q3,qf⟩:=four_cells hSq HZ.out _ rfl
       obtain⟨fh,fo,fq,fg⟩:=four_ok hSq HG.out HZ.out
       have qf0:=qf 0
       have qf1:=qf 1
       have qf2:=qf 2
       have qf3:=qf 3
       clear hSq qf
       go_wp2
       refine bodyPost_ret (v:=.agg #[.int .i64 ((p:Int)+1),.int .i64 a,.int .i64 b,.slice none 0 0]) (results_cell_row rfl _ _ w.heap.size 208 #[.int .i64 ((p:Int)+1),.int .i64 a,.int .i64 b,.slice none 0 0] (0,0) _ rfl fh Tryz.underlying208 rfl (by kernel_rfl)) rfl ⟨_,rfl,fo,fun _=>rfl,fq,fg⟩
      ·obtain⟨m1,y,rfl⟩:=end_last hm0
       have hne:(!(m1++[y]).isEmpty)=true:=(by cases m1<;>rfl)
       have hfd:=HM.out.2 y (by simp)
       rw[hne,Bool.true_and] at hXv
       unfold endK at hXv
       rw[lastT_snoc,cutL_snoc] at hXv
       obtain⟨N1,hN1⟩:∃ N1,m1.length=N1:=⟨_,rfl⟩
       have hlen:(m1++[y]).length=N1+1:=(by rw[List.length_append,hN1];rfl)
       have hown:=hSq.own
       have hown':=hown
       rw[List.length_append] at hown'
       obtain⟨g,cap,hvv,hBg,hgs,d1,df,hset⟩:=owns_last hown'
       rw[hN1] at d1 df hset
       injection hvv with hv1 hv2 hv3
       subst hv1 hv3
       have hgR:R≠g:=(by omega)
       clear hown' hv2 HM
       have hml2:N1+1≤p':=(by rw[hlen] at hml;exact hml)
       have j0:(0:Int)<((N1+1:Nat):Int):=by omega
       have j1:(0:Int)≤(N1:Int):=by omega
       have j2:(N1:Int)<(N1:Int)+1:=by omega
       have j3:(N1:Int)+1-1=(N1:Int):=by omega
       obtain⟨k0,k1,k2,k3⟩:=hSq.cells
       rw[hlen] at k3
       have HNm:Hid (∀ x:Mk,(m1++[x]).length=N1+1):=(by intro x;rw[← hN1];simp)
       cases hb:(y.tx != [10] && pkM (L.drop p')) with
       | false =>
        rw[hb,if_neg (by decide)] at hXv
        subst hXv
        have he:=crend_no (g:=g) (o:=N1 * 2) w6 hSq.ck hLq HPl.out hp' (by omega) y.tx d1 hb
        clear hb hset df hfd hown
        go_wp2_with fail
        refine he.mono ?_
        rintro x w7 ⟨rfl,nn,rfl⟩
        have hSr:=hSq.keep (below_drewN (Below.refl _ _) nn)
        clear he hSq k0 k1 k2 k3 d1
        generalize w6.drewN nn=w7 at hSr ⊢
        obtain⟨k0,k1,k2,k3⟩:=hSr.cells
        rw[hlen] at k3
        obtain⟨q0,q1,q2,q3,qf⟩:=four_cells hSr HZ.out _ rfl
        obtain⟨fh,fo,fq,fg⟩:=four_ok hSr HG.out HZ.out
        rw[hlen] at fh fo fq fg
        have qf0:=qf 0
        have qf1:=qf 1
        have qf2:=qf 2
        have qf3:=qf 3
        clear hSr qf
        go_wp2
        refine bodyPost_ret (v:=.agg #[.int .i64 ((p:Int)+1),.int .i64 a,.int .i64 b,.slice (some ⟨g,0,none⟩) (N1+1) vc]) (results_cell_row rfl _ _ w.heap.size 208 #[.int .i64 ((p:Int)+1),.int .i64 a,.int .i64 b,.slice (some ⟨g,0,none⟩) (N1+1) vc] (0,0) _ rfl fh Tryz.underlying208 rfl (by kernel_rfl)) rfl ⟨_,rfl,by rw[HNm.out];exact fo,fun e=>by simp at e,fq,fg⟩
       | true =>
        rw[hb,if_pos rfl] at hXv
        subst hXv
        have HTt:Hid (y.tx=y.tx.dropLast++[10]):=fd_form hfd.1
        have he:=crend_yes (g:=g) (o:=N1 * 2) w6 hSq.ck hLq HPl.out (by omega) hgR y.tx y.tx.dropLast HTt hfd.2 d1 df hb
        have hs2:=fun nn=>hset (w6.drewN nn) y.tx.dropLast rfl
        clear hb hset df hfd hown
        go_wp2_with fail
        refine he.mono ?_
        rintro x w7 ⟨rfl,nn,rfl⟩
        have hSr0:=hSq.keep (below_drewN (Below.refl _ _) nn)
        have hSr1:=hSr0.cut (g:=g) (j:=N1 * 2+1) (z:=.string ⟨y.tx.dropLast.toArray⟩) (m':=m1++[⟨y.sg,y.tx.dropLast⟩]) rfl (by rw[HNm.out ⟨y.sg,y.tx.dropLast⟩];rw[hlen];exact hs2 nn) (by simp)
        have hSr:=hSr1.next
        clear he hSq k0 k1 k2 k3 d1 hSr0 hSr1 hs2
        generalize ((w6.drewN nn).setCell ⟨g,N1 * 2+1,none⟩ (.string ⟨y.tx.dropLast.toArray⟩)).setCell ⟨R,1,none⟩ (.int .i64 ((p':Int)+1))=w7 at hSr ⊢
        obtain⟨k0,k1,k2,k3⟩:=hSr.cells
        rw[hlen] at k3
        obtain⟨q0,q1,q2,q3,qf⟩:=four_cells hSr HZ.out _ rfl
        obtain⟨fh,fo,fq,fg⟩:=four_ok hSr HG.out HZ.out
        rw[hlen] at fh fo fq fg
        have qf0:=qf 0
        have qf1:=qf 1
        have qf2:=qf 2
        have qf3:=qf 3
        clear hSr qf
        go_wp2
        refine bodyPost_ret (v:=.agg #[.int .i64 ((p:Int)+1),.int .i64 a,.int .i64 b,.slice (some ⟨g,0,none⟩) (N1+1) vc]) (results_cell_row rfl _ _ w.heap.size 208 #[.int .i64 ((p:Int)+1),.int .i64 a,.int .i64 b,.slice (some ⟨g,0,none⟩) (N1+1) vc] (0,0) _ rfl fh Tryz.underlying208 rfl (by kernel_rfl)) rfl ⟨_,rfl,by rw[HNm.out ⟨y.sg,y.tx.dropLast⟩] at fo ⊢;exact fo,fun e=>by simp at e,fq,fg⟩
   ·rw[if_neg hsuf] at hRng
    have hXe:=HXR.out _ hRng
    subst hXe
    have hDl:(Lib.trimSuffix s [32,e,e,e,e]).length≤1099511627776:=(by
     unfold Lib.trimSuffix
     rw[if_neg hsuf]
     exact hsl2)
    rw[Bool.eq_false_iff.2 hsuf] at hc
    generalize Lib.trimSuffix s [32,e,e,e,e]=D at hc hDl
    clear hRng HXR HXK
    go_wp2_with fail
    refine (hc _).mono ?_
    rintro x w2 ⟨rfl,rfl⟩
    go_wp2_with fail
    refine (cnumbers_f D _ hDl).mono ?_
    rintro x w3 ⟨a,b,rr,rfl,_,hB3⟩
    have q3:=q2.low hB3
    have g3:=grown_two g2 (low_grown hB3 (some R))
    clear q2 g2 hB3 hc
    go_wp2_with fail
    refine (crefuse_f 3 _ q3 (by omega)).mono ?_
    rintro x w4 ⟨⟨g,rfl,hg⟩,hgr⟩
    go_wp2
    exact⟨rfl,⟨_,rfl,by simpa using hg⟩,HG.out _ (grown_two g3 hgr)⟩
  ·cases hY
end

section
open Go.RowKit
def sidR (e sg:UInt8) (p:Nat) (ls:List (List UInt8)):Except (Nat × Int) ((Int × Int) × Sde × Nat × List (List UInt8)) :=
 match rngC e p ls with
 | .error x=>.error x
 | .ok (q,r)=>match rdS sg (p+1) r with
  | .error x=>.error x
  | .ok (l,p1,r1)=>.ok (q,l,p1,r1)
def mapR (X:Except (Nat × Int) ((Int × Int) × Sde × Nat × List (List UInt8))):Except (Nat × Int) ((Int × Int) × List Mk × Nat × List (List UInt8)) :=
 match X with
 | .error x=>.error x
 | .ok (q,x,p,r)=>.ok (q,kM x,p,r)
theorem sid_R {e sg:UInt8} (h92:sg≠92) (p:Nat) (ls:List (List UInt8)):sidX e sg p ls=mapR (sidR e sg p ls):=by
 unfold sidX sidR
 cases rngC e p ls with
 | error x=>rfl
 | ok z =>
  obtain⟨q,r⟩:=z
  dsimp only
  rw[side_code h92]
  cases rdS sg (p+1) r with
  | error x=>rfl
  | ok z=>rfl
def finR (p p2:Nat) (q1 q2:Int × Int) (o w:Sde) (p4:Nat) (r4:List (List UInt8)):Except (Nat × Int) (Hk × Nat × List (List UInt8)) :=
 match finH (p+1) (p+2) (p2+1) q1.1 (sayC q1).2 q2.1 (sayC q2).2 o w with
 | .error e=>.error e
 | .ok h=>.ok (h,p4,r4)
theorem hk_code (k p:Nat) (ls:List (List UInt8)):cxH k p ls=match starsP k p ls with
  | .error e=>.error e
  | .ok r=>match sidR 42 45 (p+1) r with
   | .error e=>.error e
   | .ok (q1,o,p2,r2)=>match sidR 45 43 p2 r2 with
    | .error e=>.error e
    | .ok (q2,w,p4,r4)=>finR p p2 q1 q2 o w p4 r4:=by
 unfold cxH starsP
 cases nxt p ls with
 | error e=>rfl
 | ok z =>
  obtain⟨s,r⟩:=z
  dsimp only
  by_cases h1:isSt s=true
  ·rw[if_pos h1,if_pos h1]
   by_cases h2:4096≤k
   ·rw[if_pos h2,if_pos h2]
   ·rw[if_neg h2,if_neg h2]
    dsimp only
    unfold sidR
    rw[rng_bar]
    cases rngC 42 (p+1) r with
    | error e=>rfl
    | ok z =>
     obtain⟨q1,r1⟩:=z
     dsimp only
     cases rdS 45 (p+2) r1 with
     | error e=>rfl
     | ok z =>
      obtain⟨o,p2,r2⟩:=z
      dsimp only
      rw[rng_bar]
      cases rngC 45 p2 r2 with
      | error e=>rfl
      | ok z =>
       obtain⟨q2,r3⟩:=z
       dsimp only
       cases rdS 43 (p2+1) r3 with
       | error e=>rfl
       | ok z=>rfl
  ·rw[if_neg h1,if_neg h1]
theorem rd_drop {sg:UInt8} (ls:List (List UInt8)):∀ {p p1:Nat} {r:List (List UInt8)} {x:Sde},rdS sg p ls=.ok (x,p1,r)→∃ n,p1=p+n∧r=ls.drop n∧n≤ls.length∧x.length≤n:=by
 induction ls with
 | nil =>
  intro p p1 r x h
  simp only[rdS] at h
  injection h with h
  injection h with h1 h2
  injection h2 with h2 h3
  subst h1 h2 h3
  exact⟨0,rfl,rfl,Nat.le_refl _,Nat.le_refl _⟩
 | cons s t ih =>
  intro p p1 r x h
  simp only[rdS] at h
  split at h
  ·split at h
   ·split at h
    ·rename_i h3
     injection h with h
     injection h with h1 h2
     injection h2 with h2 h4
     subst h1 h2 h4
     cases t with
     | nil=>cases h3.1
     | cons u t=>exact⟨2,rfl,rfl,by simp,by simp⟩
    ·cases hr:rdS sg (p+1) t with
     | error e=>rw[hr] at h;cases h
     | ok z =>
      obtain⟨l,p2,r2⟩:=z
      rw[hr] at h
      injection h with h
      injection h with h1 h2
      injection h2 with h2 h4
      subst h1 h2 h4
      obtain⟨n,e1,e2,e3,e4⟩:=ih hr
      exact⟨n+1,by omega,by rw[e2];rfl,by simp;omega,by simp;omega⟩
   ·cases h
  ·injection h with h
   injection h with h1 h2
   injection h2 with h2 h3
   subst h1 h2 h3
   exact⟨0,rfl,rfl,Nat.zero_le _,Nat.le_refl _⟩
theorem rng_drop {e:UInt8} {p:Nat} {L r:List (List UInt8)} {q:Int × Int} (h:rngC e p (L.drop p)=.ok (q,r)):r=L.drop (p+1)∧p<L.length∧0≤q.1∧q.1≤q.2∧q.2≤2147483647:=by
 unfold rngC barP at h
 cases hn:nxt p (L.drop p) with
 | error x=>rw[hn] at h;cases h
 | ok z =>
  obtain⟨s,r0⟩:=z
  rw[hn] at h
  obtain⟨h1,h2,_⟩:=nxt_rest hn
  dsimp only at h
  split at h
  ·cases h
  ·rename_i heq
   split at heq
   ·injection heq with heq
    injection heq with e1 e2
    split at h
    ·split at h
     ·cases h
     ·rename_i q' hq
      injection h with h
      injection h with e3 e4
      obtain⟨b1,b2,b3⟩:=nmC_ok (a:=q'.1) (b:=q'.2) hq
      subst e3
      exact⟨by rw[← e4,← e2,h1],h2,b1,b2,b3⟩
    ·cases h
   ·cases heq
theorem sidR_drop {e sg:UInt8} {p p1:Nat} {L r:List (List UInt8)} {q:Int × Int} {x:Sde} (h:sidR e sg p (L.drop p)=.ok (q,x,p1,r)):r=L.drop p1∧p1≤L.length∧x.length≤L.length∧p<p1∧0≤q.1∧q.1≤q.2∧q.2≤2147483647:=by
 unfold sidR at h
 cases hq:rngC e p (L.drop p) with
 | error z=>rw[hq] at h;cases h
 | ok z =>
  obtain⟨q0,r0⟩:=z
  rw[hq] at h
  obtain⟨h1,h2,h3⟩:=rng_drop hq
  dsimp only at h
  cases hr:rdS sg (p+1) r0 with
  | error z=>rw[hr] at h;cases h
  | ok z =>
   obtain⟨l,p2,r2⟩:=z
   rw[hr] at h
   injection h with h
   injection h with e1 e2
   injection e2 with e2 e3
   injection e3 with e3 e4
   subst e1 e2 e3 e4
   obtain⟨n,f1,f2,f3,f4⟩:=rd_drop r0 hr
   rw[h1,List.length_drop] at f3
   exact⟨by rw[f2,h1,List.drop_drop,f1],by omega,by omega,by omega,h3⟩
theorem stars_drop {k p:Nat} {L r:List (List UInt8)} (h:starsP k p (L.drop p)=.ok r):r=L.drop (p+1)∧p<L.length:=by
 unfold starsP at h
 cases hn:nxt p (L.drop p) with
 | error x=>rw[hn] at h;cases h
 | ok z =>
  obtain⟨s,r0⟩:=z
  rw[hn] at h
  obtain⟨h1,h2,_⟩:=nxt_rest hn
  dsimp only at h
  split at h
  ·split at h
   ·cases h
   ·injection h with h
    exact⟨by rw[← h,h1],h2⟩
  ·cases h
theorem fin_code (at0 ato atw:Nat) (q1 q2:Int × Int) (h1:q1.1≤q1.2) (h2:q2.1≤q2.2) (o w O V:Sde) (hO:oldF o w=O) (hV:newF o w=V) :
  finH at0 ato atw q1.1 (sayC q1).2 q2.1 (sayC q2).2 o w=if (sameS O && sameS V)=true then .error (at0,50) else
   match rgX (cntR q1.1 q1.2 (kM O).length) (cntR q2.1 q2.2 (kM V).length) (decide (q1.1=0) && decide (0<(kM O).length)) (decide (q2.1=0) && decide (0<(kM V).length)) (ato:Int) (atw:Int) with
   | some (a,z)=>.error (a.toNat,z)
   | none=>match jnX O V with
    | none=>.error (at0,190)
    | some l=>.ok ⟨q1.1,O.length,q2.1,V.length,l⟩:=by
 have hs:(sameS o=true∧sameS w=true)↔(sameS O && sameS V)=true:=by
  rw[Bool.and_eq_true,← hO,← hV]
  unfold oldF newF
  have hk:∀ x:Sde,sameS (keptS x)=true:=fun x=>by simp[sameS,keptS]
  by_cases ho:o=[]
  ·subst ho
   rw[if_pos rfl,if_neg (by simp)]
   exact⟨fun h=>⟨hk _,h.2⟩,fun h=>⟨rfl,h.2⟩⟩
  ·rw[if_neg ho]
   by_cases hw:w=[]
   ·subst hw
    rw[if_pos ⟨ho,rfl⟩]
    exact⟨fun h=>⟨h.1,hk _⟩,fun h=>⟨h.1,rfl⟩⟩
   ·rw[if_neg (fun h=>hw h.2)]
 unfold finH
 rw[hO,hV]
 have c1:=cnt_code h1 O
 have c2:=cnt_code h2 V
 have e1:sayC (q1.1,q1.2)=sayC q1:=rfl
 have e2:sayC (q2.1,q2.2)=sayC q2:=rfl
 rw[e1] at c1
 rw[e2] at c2
 have d1:cntS (sayC q1).2 O=!cntR q1.1 q1.2 (kM O).length:=by rw[c1,kM_len];rfl
 have d2:cntS (sayC q2).2 V=!cntR q2.1 q2.2 (kM V).length:=by rw[c2,kM_len];rfl
 rw[d1,d2]
 have n1:(q1.1=0∧O≠[])↔(decide (q1.1=0) && decide (0<(kM O).length))=true:=by
  rw[Bool.and_eq_true,decide_eq_true_eq,decide_eq_true_eq,kM_len,List.length_pos_iff]
 have n2:(q2.1=0∧V≠[])↔(decide (q2.1=0) && decide (0<(kM V).length))=true:=by
  rw[Bool.and_eq_true,decide_eq_true_eq,decide_eq_true_eq,kM_len,List.length_pos_iff]
 generalize (decide (q1.1=0) && decide (0<(kM O).length))=z1 at n1
 generalize (decide (q2.1=0) && decide (0<(kM V).length))=z2 at n2
 generalize cntR q1.1 q1.2 (kM O).length=r1
 generalize cntR q2.1 q2.2 (kM V).length=r2
 by_cases hss:sameS o=true∧sameS w=true
 ·rw[if_pos hss,if_pos (hs.1 hss)]
 ·rw[if_neg hss,if_neg (fun h=>hss (hs.2 h))]
  unfold rgX
  cases r1 with
  | false=>simp
  | true =>
   cases r2 with
   | false=>simp
   | true =>
    cases z1 with
    | true=>rw[if_neg (by simp),if_neg (by simp),if_pos (n1.2 rfl)];simp
    | false =>
     have n1':¬ (q1.1=0∧O≠[]):=fun h=>by have:=n1.1 h;cases this
     rw[if_neg (by simp),if_neg (by simp),if_neg n1']
     cases z2 with
     | true=>rw[if_pos (n2.2 rfl)];simp
     | false =>
      have n2':¬ (q2.1=0∧V≠[]):=fun h=>by have:=n2.1 h;cases this
      rw[if_neg n2']
      simp only[Bool.true_eq_false,if_false,Bool.false_eq_true]
      rfl
end

end Go.Proofs.YtgiojkhmkeocfaaGreatDoor
