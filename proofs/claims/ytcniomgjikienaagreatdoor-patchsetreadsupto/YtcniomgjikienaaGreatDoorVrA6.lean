/-
  Texts that belong together, joined: QsD, PsC, NoRd, NoPk, NoMk, NoWs, NoPr, NoLen, NcW, PtL, NcL, NpE, NpM, NpF, NpG, NpH.
-/
import Derived.Test.YtcniomgjikienaaGreatDoorVrA5
import Derived.Deep.DeepRowAt
import Derived.Deep.RegionHeld3
import Derived.Deep.CutBlock
import Derived.Shelf.Strings.BuilderK
import Derived.Test.YtcniomgjikienaaGreatDoorProg
import Derived.Lib.AppendIntMem
import Derived.Lib.FrozenHead2
import Derived.WalkLawsBesides

set_option maxHeartbeats 16000000
set_option maxRecDepth 100000
namespace Go.Proofs.YtcniomgjikienaaGreatDoor

section
open Go.RowKit Go.Proofs.YtcniomgjikienaaGreatDoor.Tx
open Ln
attribute [local go_sem] Zhc
def Bx5 (u:World) (B:Nat) (v0 v1 v2 v3 v4:Value):Prop:=u.heap[B]?=some (.cells #[v0,v1,v2,v3,v4] 70 (0,0))
theorem Bx5.put {u:World} {B:Nat} {v0 v1 v2 v3 v4:Value} (h:Bx5 u B v0 v1 v2 v3 v4) (z0 z1 z2 z3 z4:Value):Bx5 (((((u.setCell ⟨B,0,none⟩ z0).setCell ⟨B,1,none⟩ z1).setCell ⟨B,2,none⟩ z2).setCell ⟨B,3,none⟩ z3).setCell ⟨B,4,none⟩ z4) B z0 z1 z2 z3 z4:=by
 have s1:=heap_setCell_same u B 0 _ _ z0 h
 have s2:=heap_setCell_same _ B 1 _ _ z1 s1
 have s3:=heap_setCell_same _ B 2 _ _ z2 s2
 have s4:=heap_setCell_same _ B 3 _ _ z3 s3
 exact heap_setCell_same _ B 4 _ _ z4 s4
theorem ZaA {N:Nat} {w u:World} {B:Nat} (h:Below N w u) (hB:N≤B) (z0 z1 z2 z3 z4:Value):Below N w (((((u.setCell ⟨B,0,none⟩ z0).setCell ⟨B,1,none⟩ z1).setCell ⟨B,2,none⟩ z2).setCell ⟨B,3,none⟩ z3).setCell ⟨B,4,none⟩ z4) :=
 ((((h.setCell hB _).setCell hB _).setCell hB _).setCell hB _).setCell hB _
theorem Bx5.cells {u:World} {B:Nat} {v0 v1 v2 v3 v4:Value} (h:Bx5 u B v0 v1 v2 v3 v4):u.cell? ⟨B,0,none⟩=some v0∧u.cell? ⟨B,1,none⟩=some v1∧u.cell? ⟨B,2,none⟩=some v2∧u.cell? ⟨B,3,none⟩=some v3∧u.cell? ⟨B,4,none⟩=some v4:=by
 unfold Bx5 at h
 refine⟨?_,?_,?_,?_,?_⟩<;>(rw[Lib.cell_of_heap h];rfl)
theorem ZdA (tmps:Array Value) (u:World) (B:Nat) (v0 v1 v2 v3 v4:Value) (h:Bx5 u B v0 v1 v2 v3 v4) {b:Value} (h2:tmps.getD 2 undef=.pointer (some ⟨B,0,none⟩)) (h3:tmps.getD 3 undef=b) :
  (results Tryz.f53 tmps).run Tryz.prog u=.ok (.tuple #[.agg #[v0,v1,v2,v3,v4],b]) u:=by
 rw[_root_.Go.results_cell_tmp rfl,h2,h3]
 have hL:(loadVar 70 ⟨B,0,none⟩).run Tryz.prog u=.ok (.agg #[v0,v1,v2,v3,v4]) u:=run_loadVar_row u B _ _ _ _ _ h Tryz.underlying70 rfl (by kernel_rfl)
 simp[asAddr,hL,Result.andThen]
theorem Zdt (tmps:Array Value) (u:World) (B:Nat) (v0 v1 v2 v3 v4:Value) (h:Bx5 u B v0 v1 v2 v3 v4) {b:Value} (h2:tmps.getD 2 undef=.pointer (some ⟨B,0,none⟩)) (h3:tmps.getD 3 undef=b) :
  (results Tryz.f27 tmps).run Tryz.prog u=.ok (.tuple #[.agg #[v0,v1,v2,v3,v4],b]) u:=by
 rw[_root_.Go.results_cell_tmp rfl,h2,h3]
 have hL:(loadVar 70 ⟨B,0,none⟩).run Tryz.prog u=.ok (.agg #[v0,v1,v2,v3,v4]) u:=run_loadVar_row u B _ _ _ _ _ h Tryz.underlying70 rfl (by kernel_rfl)
 simp[asAddr,hL,Result.andThen]
def Ask (w:World) (g:Nat) (cap:Value) (b:Nat→Bool):Prop:=∀ (B:Nat) (u:World),u.heap[B]?=some (stO dashT)→u.heap[B+1]?=some (stO starT)→Below w.heap.size w u→∀ j:Nat,j<3→Calls Tryz.prog g (#[.agg (fmA (bgV B) (bgV (B+1)) j)]++#[cap]) u fun e u'=>e=.returned (.bool (b j))∧Below u.heap.size u u'
def FmQ (w:World) (k:Nat) (e:Ending) (w':World):Prop:=∃ B,e=.returned (.tuple #[.agg (fmA (bgV B) (bgV (B+1)) k),.bool (decide (k<3))])∧Below w.heap.size w w'
theorem Zdv (g:Nat) (cap:Value) (b:Nat→Bool) (w:World) (eg:∀ args w,(callFunc g args).run Tryz.prog w=.ok (.enter g args) w) (hf:Hid (Ask w g cap b)) (k:Nat) (HK:Hid (kfs b=k)) :
  Calls Tryz.prog 53 #[.func (.func g) #[] #[cap]] w fun e w'=>FmQ w k e w':=by
 have hx0:Bx5 (w.alloc (.cells #[.int .i64 0,.nilFunc,.int .i64 0,.nilFunc,.nilFunc] 70)) w.heap.size (.int .i64 0) .nilFunc (.int .i64 0) .nilFunc .nilFunc:=_root_.Go.heap_alloc_new w _
 have hb0:Below w.heap.size w (w.alloc (.cells #[.int .i64 0,.nilFunc,.int .i64 0,.nilFunc,.nilFunc] 70)):=(Below.refl _ w).alloc (Nat.le_refl _) _
 have hz0:(w.alloc (.cells #[.int .i64 0,.nilFunc,.int .i64 0,.nilFunc,.nilFunc] 70)).heap.size=w.heap.size+1:=by simp
 go_enter Tryz.func53,Tryz.ntmps53
 go_wp2_with fail
 refine (Zdw _).mono ?_
 rintro e w1 ⟨rfl,hw1⟩
 generalize hW0:w.alloc (.cells #[.int .i64 0,.nilFunc,.int .i64 0,.nilFunc,.nilFunc] 70)=W0 at hx0 hb0 hz0 hw1 ⊢
 clear hW0
 obtain⟨B,hBe⟩:∃ B,W0.heap.size=B:=⟨_,rfl⟩
 have hb1:Below W0.heap.size W0 w1:=by rw[hw1];exact (((Below.refl _ W0).alloc (Nat.le_refl _) _).alloc (by simp) _).alloc (by simp;omega) _
 have hs1:w1.heap[B]?=some (stO dashT):=by
  rw[hw1,← hBe]
  have h1:=_root_.Go.heap_alloc_new W0 (stO dashT)
  have h2:=(((Below.refl (W0.alloc (stO dashT)).heap.size (W0.alloc (stO dashT))).alloc (Nat.le_refl _) (stO starT)).alloc (by simp) (frO (bgV W0.heap.size) (bgV (W0.heap.size+1)))).block W0.heap.size (by simp)
  exact h2.trans h1
 have hs2:w1.heap[B+1]?=some (stO starT):=by
  rw[hw1,← hBe]
  have h1:=_root_.Go.heap_alloc_new (W0.alloc (stO dashT)) (stO starT)
  have h2:=((Below.refl ((W0.alloc (stO dashT)).alloc (stO starT)).heap.size ((W0.alloc (stO dashT)).alloc (stO starT))).alloc (Nat.le_refl _) (frO (bgV W0.heap.size) (bgV (W0.heap.size+1)))).block (W0.heap.size+1) (by simp)
  refine h2.trans ?_
  simpa using h1
 have hs3:w1.heap[B+1+1]?=some (frO (bgV B) (bgV (B+1))):=by
  rw[hw1,← hBe]
  have h1:=_root_.Go.heap_alloc_new ((W0.alloc (stO dashT)).alloc (stO starT)) (frO (bgV W0.heap.size) (bgV (W0.heap.size+1)))
  simpa using h1
 rw[hBe]
 have hx1:Bx5 w1 w.heap.size (.int .i64 0) .nilFunc (.int .i64 0) .nilFunc .nilFunc:=(hb1.block _ (by omega)).trans hx0
 have hB1:Below w.heap.size w w1:=hb0.trans (hb1.mono (by omega))
 have hask:Hid (∀ j:Nat,j<3→∀ u,Below w1.heap.size w1 u→Calls Tryz.prog g (#[.agg (fmA (bgV B) (bgV (B+1)) j)]++#[cap]) u fun e u'=>e=.returned (.bool (b j))∧Below u.heap.size u u'):=by
  intro j hj u hu
  exact hf.out B u ((hu.block _ (Array.getElem?_eq_some_iff.1 hs1).1).trans hs1) ((hu.block _ (Array.getElem?_eq_some_iff.1 hs2).1).trans hs2) (hB1.trans (hu.mono hB1.size)) j hj
 have hI:=Zdc g cap (bgV B) (bgV (B+1)) b (B+1+1) w1 hs3 eg hask k HK
 have hk3:k≤3:=(by rw[← HK.out];unfold kfs;split;omega;split;omega;split<;>omega)
 clear hf hask hw1 hs1 hs2 hx0 hb0 HK
 go_wp2_with fail
 refine hI.mono ?_
 rintro e w2 ⟨rfl,hb2⟩
 have hx2:Bx5 w2 w.heap.size _ _ _ _ _:=(hb2.block _ (by have:=(Array.getElem?_eq_some_iff.1 hx1).1;exact this)).trans hx1
 have hT:=(hb2.block _ (Array.getElem?_eq_some_iff.1 hs3).1).trans hs3
 have hB2:Below w.heap.size w w2:=hB1.trans (hb2.mono hB1.size)
 clear hI hx1 hs3 hb1 hB1 hb2
 obtain⟨r0,r1,r2,r3,r4⟩:=hx2.cells
 have g00:=Lib.frozen_of_heap hx2 0
 have g01:=Lib.frozen_of_heap hx2 1
 have g02:=Lib.frozen_of_heap hx2 2
 have g03:=Lib.frozen_of_heap hx2 3
 have g04:=Lib.frozen_of_heap hx2 4
 rcases (by omega:k=0∨k=1∨k=2∨k=3) with rfl | rfl | rfl | rfl
 ·have hz:kfI 0=0:=rfl
  have c0:=Zdz hT 0 (.int .i64 3) rfl
  have c1:=Zdz hT 1 (.func (.func 138) #[] #[.pointer (some ⟨B,0,none⟩)]) rfl
  have c2:=Zdz hT 2 (.int .i64 64) rfl
  have c3:=Zdz hT 3 (.func (.func 140) #[] #[]) rfl
  have c4:=Zdz hT 4 (.func (.func 141) #[] #[]) rfl
  have hP:=hx2.put (.int .i64 3) (.func (.func 138) #[] #[.pointer (some ⟨B,0,none⟩)]) (.int .i64 64) (.func (.func 140) #[] #[]) (.func (.func 141) #[] #[])
  have hL:=ZaA hB2 (Nat.le_refl _) (.int .i64 3) (.func (.func 138) #[] #[.pointer (some ⟨B,0,none⟩)]) (.int .i64 64) (.func (.func 140) #[] #[]) (.func (.func 141) #[] #[])
  clear hT hx2 hB2
  rw[hz]
  go_wp2
  exact bodyPost_ret (ZdA _ _ _ _ _ _ _ _ hP rfl rfl) rfl ⟨B,rfl,hL⟩
 ·have hz:kfI 1=1:=rfl
  have c0:=Zdz hT 5 (.int .i64 2) rfl
  have c1:=Zdz hT 6 (.func (.func 138) #[] #[.pointer (some ⟨B+1,0,none⟩)]) rfl
  have c2:=Zdz hT 7 (.int .i64 64) rfl
  have c3:=Zdz hT 8 (.func (.func 142) #[] #[]) rfl
  have c4:=Zdz hT 9 (.func (.func 143) #[] #[]) rfl
  have hP:=hx2.put (.int .i64 2) (.func (.func 138) #[] #[.pointer (some ⟨B+1,0,none⟩)]) (.int .i64 64) (.func (.func 142) #[] #[]) (.func (.func 143) #[] #[])
  have hL:=ZaA hB2 (Nat.le_refl _) (.int .i64 2) (.func (.func 138) #[] #[.pointer (some ⟨B+1,0,none⟩)]) (.int .i64 64) (.func (.func 142) #[] #[]) (.func (.func 143) #[] #[])
  clear hT hx2 hB2
  rw[hz]
  go_wp2
  exact bodyPost_ret (ZdA _ _ _ _ _ _ _ _ hP rfl rfl) rfl ⟨B,rfl,hL⟩
 ·have hz:kfI 2=2:=rfl
  have c0:=Zdz hT 10 (.int .i64 1) rfl
  have c1:=Zdz hT 11 (.func (.func 144) #[] #[]) rfl
  have c2:=Zdz hT 12 (.int .i64 1) rfl
  have c3:=Zdz hT 13 (.func (.func 145) #[] #[]) rfl
  have c4:=Zdz hT 14 (.func (.func 146) #[] #[]) rfl
  have hP:=hx2.put (.int .i64 1) (.func (.func 144) #[] #[]) (.int .i64 1) (.func (.func 145) #[] #[]) (.func (.func 146) #[] #[])
  have hL:=ZaA hB2 (Nat.le_refl _) (.int .i64 1) (.func (.func 144) #[] #[]) (.int .i64 1) (.func (.func 145) #[] #[]) (.func (.func 146) #[] #[])
  clear hT hx2 hB2
  rw[hz]
  go_wp2
  exact bodyPost_ret (ZdA _ _ _ _ _ _ _ _ hP rfl rfl) rfl ⟨B,rfl,hL⟩
 ·have hz:kfI 3=-1:=rfl
  have hP:=hx2.put (.int .i64 0) .nilFunc (.int .i64 0) .nilFunc .nilFunc
  have hL:=ZaA hB2 (Nat.le_refl _) (.int .i64 0) .nilFunc (.int .i64 0) .nilFunc .nilFunc
  clear hT hx2 hB2
  rw[hz]
  go_wp2
  exact bodyPost_ret (ZdA _ _ _ _ _ _ _ _ hP rfl rfl) rfl ⟨B,rfl,hL⟩
def bgB (ls:List (List UInt8)) (j:Nat):Bool:=match ls with
 | []=>false
 | s::_=>if j=0 then dashT.isPrefixOf s else if j=1 then starT.isPrefixOf s else s.head?.any Pn.digB
def kOf (f:Int):Nat:=if f=3 then 0 else if f=2 then 1 else if f=1 then 2 else 3
theorem Zfm (ls:List (List UInt8)):kfs (bgB ls)=kOf (fmL ls):=by
 cases ls with
 | nil=>rfl
 | cons s r =>
  show kfs _=kOf (fmS s)
  unfold kfs fmS
  show (if dashT.isPrefixOf s=true then 0 else if starT.isPrefixOf s=true then 1 else if s.head?.any Pn.digB=true then 2 else 3)=kOf (if dashT.isPrefixOf s=true then 3 else if starT.isPrefixOf s=true then 2 else if s.head?.any Pn.digB=true then 1 else 0)
  cases dashT.isPrefixOf s<;>cases starT.isPrefixOf s<;>cases s.head?.any Pn.digB<;>rfl
theorem ZaC (s x:List UInt8) (B:Nat) (u:World) (hB:u.heap[B]?=some (stO x)) (r:Bool) (HR:Hid (x.isPrefixOf s=r)) :
  Calls Tryz.prog 138 (#[.string ⟨s.toArray⟩]++#[.pointer (some ⟨B,0,none⟩)]) u fun e u'=>e=.returned (.bool r)∧u'=u:=by
 have c0:u.cell? ⟨B,0,none⟩=some (.string ⟨x.toArray⟩):=by unfold stO at hB;rw[Lib.cell_of_heap hB];rfl
 have hhp:∀ u,Calls Tryz.prog 139 #[.string ⟨s.toArray⟩,.string ⟨x.toArray⟩] u fun e w'=>e=.returned (.bool r)∧w'=u:=(by
  intro u
  refine (Tryz.strings_HasPrefix ⟨s.toArray⟩ ⟨x.toArray⟩ u).mono ?_
  rintro e w' ⟨rfl,rfl⟩
  have e1:Lib.hasPrefix (⟨s.toArray⟩:ByteArray).data.toList (⟨x.toArray⟩:ByteArray).data.toList=r:=HR.out
  rw[e1]
  exact⟨rfl,rfl⟩)
 clear HR hB
 go_enter Tryz.func138,Tryz.ntmps138
 go_wp2_with fail
 refine (hhp _).mono ?_
 rintro e w1 ⟨rfl,rfl⟩
 go_wp2
 go_ret
 exact⟨rfl,rfl⟩
theorem ZeO (s:List UInt8) (h0:s≠[]) (u:World) (r:Bool) (HR:Hid (s.head?.any Pn.digB=r)) :
  Calls Tryz.prog 144 (#[.string ⟨s.toArray⟩]++#[]) u fun e u'=>e=.returned (.bool r)∧u'=u:=by
 obtain⟨c,t,rfl⟩:=List.exists_cons_of_ne_nil h0
 have i1:(0:Int)<(t.length:Int)+1:=by omega
 have hR:Pn.digB c=r:=HR.out
 have hd:Pn.digB c=true↔48≤(c.toNat:Int)∧(c.toNat:Int)≤57:=by
  unfold Pn.digB
  simp only[decide_eq_true_eq]
  omega
 obtain⟨n,hn⟩:∃ n:Int,(c.toNat:Int)=n:=⟨_,rfl⟩
 rw[hR,hn] at hd
 clear hR HR h0
 by_cases q1:48≤n
 ·by_cases q2:n≤57
  ·have hr:=hd.2 ⟨q1,q2⟩
   subst hr
   clear hd
   go_enter Tryz.func144,Tryz.ntmps144
   go_wp2
   go_ret
   exact⟨rfl,rfl⟩
  ·have hr:r=false:=by
    cases r
    ·rfl
    ·exact absurd (hd.1 rfl).2 q2
   subst hr
   clear hd
   go_enter Tryz.func144,Tryz.ntmps144
   go_wp2
   go_ret
   exact⟨rfl,rfl⟩
 ·have hr:r=false:=by
   cases r
   ·rfl
   ·exact absurd (hd.1 rfl).1 q1
  subst hr
  clear hd
  go_enter Tryz.func144,Tryz.ntmps144
  go_wp2
  go_ret
  exact⟨rfl,rfl⟩
def LsB (u:World) (B:Nat) (v:Value):Prop:=u.heap[B]?=some (.cells #[v] 49)
theorem ZeS (z0:Int) (v1 v2 v3 v4:Value) (LB:Nat) (u:World) (hL:LsB u LB (.slice none 0 0)∨∃ o c,LsB u LB (.slice o 0 c)) :
  Calls Tryz.prog 54 (#[.agg #[.int .i64 z0,v1,v2,v3,v4]]++#[.pointer (some ⟨LB,0,none⟩)]) u fun e u'=>e=.returned (.bool false)∧Below u.heap.size u u':=by
 obtain⟨o,c,hL⟩:∃ o c,LsB u LB (.slice o 0 c):=hL.elim (fun h=>⟨none,0,h⟩) id
 have hA:Below u.heap.size u (u.alloc (.cells #[.int .i64 z0,v1,v2,v3,v4] 70)):=(Below.refl _ u).alloc (Nat.le_refl _) _
 have l0:(u.alloc (.cells #[.int .i64 z0,v1,v2,v3,v4] 70)).cell? ⟨LB,0,none⟩=some (.slice o 0 c):=by rw[Lib.cell_of_heap ((hA.block _ (Array.getElem?_eq_some_iff.1 hL).1).trans hL)];rfl
 have hd:decide ((0:Int)<0)=false:=rfl
 clear hL
 go_enter Tryz.func54,Tryz.ntmps54
 go_wp2_with fail
 generalize u.alloc (.cells #[.int .i64 z0,v1,v2,v3,v4] 70)=W at *
 go_quiet (fail)
 go_wp2
 go_ret
 exact⟨rfl,Below.dN hA _⟩
theorem ZeT (z0:Int) (F:Nat) (cap:Array Value) (v2 v3 v4:Value) (LB:Nat) (lo:Option Addr) (n lc:Nat) (s:List UInt8) (u:World) (hL:LsB u LB (.slice lo n lc)) (hn:0<n) (bk off:Nat) (hlo:lo=some ⟨bk,off,none⟩) (hc:u.cell? ⟨bk,off,none⟩=some (.string ⟨s.toArray⟩)) (hbk:bk<u.heap.size)
  (r:Bool) (hen:∀ args w,(callFunc F args).run Tryz.prog w=.ok (.enter F args) w) (hcl:∀ x,Below u.heap.size u x→Calls Tryz.prog F (#[.string ⟨s.toArray⟩]++cap) x fun e u'=>e=.returned (.bool r)∧u'=x) :
  Calls Tryz.prog 54 (#[.agg #[.int .i64 z0,.func (.func F) #[] cap,v2,v3,v4]]++#[.pointer (some ⟨LB,0,none⟩)]) u fun e u'=>e=.returned (.bool r)∧Below u.heap.size u u':=by
 subst hlo
 have hA:Below u.heap.size u (u.alloc (.cells #[.int .i64 z0,.func (.func F) #[] cap,v2,v3,v4] 70)):=(Below.refl _ u).alloc (Nat.le_refl _) _
 have l0:(u.alloc (.cells #[.int .i64 z0,.func (.func F) #[] cap,v2,v3,v4] 70)).cell? ⟨LB,0,none⟩=some (.slice (some ⟨bk,off,none⟩) n lc):=by rw[Lib.cell_of_heap ((hA.block _ (Array.getElem?_eq_some_iff.1 hL).1).trans hL)];rfl
 have x1:(u.alloc (.cells #[.int .i64 z0,.func (.func F) #[] cap,v2,v3,v4] 70)).cell? ⟨u.heap.size,1,none⟩=some (.func (.func F) #[] cap):=by rw[Lib.cell_of_heap (_root_.Go.heap_alloc_new u _)];rfl
 have c0:=(World.cell?_of_block (hA.block bk hbk)).trans hc
 have hd:decide ((0:Int)<(n:Int))=true:=decide_eq_true (by omega)
 have i1:(0:Int)<(n:Int):=by omega
 have hdn:decide (0<n)=true:=decide_eq_true hn
 clear hL hc hbk
 go_enter Tryz.func54,Tryz.ntmps54
 go_wp2_with fail
 generalize u.alloc (.cells #[.int .i64 z0,.func (.func F) #[] cap,v2,v3,v4] 70)=W at *
 have hcl2:∀ m,Calls Tryz.prog F (#[.string ⟨s.toArray⟩]++cap) (W.drewN m) fun e u'=>e=.returned (.bool r)∧u'=W.drewN m:=fun m=>hcl _ (Below.dN hA m)
 have hcl0:=hcl _ hA
 clear hcl
 go_quiet ((go_at_fn F;first | exact Calls.quiet_of_same hcl0 | exact Calls.quiet_of_same (hcl2 _)))
 go_wp2
 go_ret
 exact⟨rfl,Below.dN hA _⟩
theorem ZeR (j:Nat) (hj:j<3) (B LB:Nat) (lo:Option Addr) (lc:Nat) (ls:List (List UInt8)) (u:World) (hD:u.heap[B]?=some (stO dashT)) (hS:u.heap[B+1]?=some (stO starT)) (hL:LsB u LB (.slice lo ls.length lc)) (hH:HS u (.slice lo ls.length lc) ls) (HNE:Hid (∀ s∈ls,s≠[])) (r:Bool) (HR:Hid (bgB ls j=r)) :
  Calls Tryz.prog 54 (#[.agg (fmA (bgV B) (bgV (B+1)) j)]++#[.pointer (some ⟨LB,0,none⟩)]) u fun e u'=>e=.returned (.bool r)∧Below u.heap.size u u':=by
 cases ls with
 | nil =>
  have hr:r=false:=HR.out.symm
  subst hr
  have hno:=fun z0 v1 v2 v3 v4=>ZeS z0 v1 v2 v3 v4 LB u (.inr ⟨lo,lc,hL⟩)
  rcases (by omega:j=0∨j=1∨j=2) with rfl | rfl | rfl
  ·exact hno _ _ _ _ _
  ·exact hno _ _ _ _ _
  ·exact hno _ _ _ _ _
 | cons s t =>
  obtain⟨bk,off,rfl,hbk,hc⟩:=HS.at hH (by simp)
  have c0:=hc 0 (by simp)
  have hne:=HNE.out s (by simp)
  have hyes:=fun z0 F cap v2 v3 v4 hen hcl=>ZeT z0 F cap v2 v3 v4 LB (some ⟨bk,off,none⟩) (s::t).length lc s u hL (by simp) bk off rfl c0 hbk r hen hcl
  rcases (by omega:j=0∨j=1∨j=2) with rfl | rfl | rfl
  ·exact hyes _ _ _ _ _ _ (enters_of Tryz.func138 (by kernel_rfl) rfl) fun x hx=>ZaC s dashT B x ((hx.block _ (Array.getElem?_eq_some_iff.1 hD).1).trans hD) r HR
  ·exact hyes _ _ _ _ _ _ (enters_of Tryz.func138 (by kernel_rfl) rfl) fun x hx=>ZaC s starT (B+1) x ((hx.block _ (Array.getElem?_eq_some_iff.1 hS).1).trans hS) r HR
  ·exact hyes _ _ _ _ _ _ (enters_of Tryz.func144 (by kernel_rfl) rfl) fun x _=>ZeO s hne x r HR
theorem Zax (LB:Nat) (lo:Option Addr) (lc:Nat) (ls:List (List UInt8)) (w:World) (hL:LsB w LB (.slice lo ls.length lc)) (hH:HS w (.slice lo ls.length lc) ls) (HNE:Hid (∀ s∈ls,s≠[])):Ask w 54 (.pointer (some ⟨LB,0,none⟩)) (bgB ls):=by
 intro B u hD hS hu j hj
 exact ZeR j hj B LB lo lc ls u hD hS ((hu.block _ (Array.getElem?_eq_some_iff.1 hL).1).trans hL) (Holds.keep hH fun k hk=>hu.block k hk) HNE _ rfl
theorem Zdr (B:Nat) (k:Nat):(∃ z m F c G H,k<3∧fmA (bgV B) (bgV (B+1)) k=#[.int .i64 z,.func (.func F) #[] c,.int .i64 m,.func (.func G) #[] #[],.func (.func H) #[] #[]])∨(¬ k<3∧fmA (bgV B) (bgV (B+1)) k=#[.int .i64 0,.nilFunc,.int .i64 0,.nilFunc,.nilFunc]):=by
 match k with
 | 0=>exact .inl ⟨_,_,_,_,_,_,by decide,rfl⟩
 | 1=>exact .inl ⟨_,_,_,_,_,_,by decide,rfl⟩
 | 2=>exact .inl ⟨_,_,_,_,_,_,by decide,rfl⟩
 | (_+3)=>exact .inr ⟨by omega,rfl⟩
theorem Zdu (lo:Option Addr) (lc:Nat) (ls:List (List UInt8)) (w:World) (hH:HS w (.slice lo ls.length lc) ls) (HNE:Hid (∀ s∈ls,s≠[])) (k:Nat) (HK:Hid (kOf (fmL ls)=k)) :
  Calls Tryz.prog 27 #[.slice lo ls.length lc] w fun e w'=>FmQ w k e w':=by
 have hL0:LsB (w.alloc (.cells #[.slice lo ls.length lc] 49)) w.heap.size (.slice lo ls.length lc):=_root_.Go.heap_alloc_new w _
 have hz0:(w.alloc (.cells #[.slice lo ls.length lc] 49)).heap.size=w.heap.size+1:=by simp
 have hb0:Below w.heap.size w (w.alloc (.cells #[.slice lo ls.length lc] 49)):=(Below.refl _ w).alloc (Nat.le_refl _) _
 have hx0:Bx5 ((w.alloc (.cells #[.slice lo ls.length lc] 49)).alloc (.cells #[.int .i64 0,.nilFunc,.int .i64 0,.nilFunc,.nilFunc] 70)) (w.heap.size+1) (.int .i64 0) .nilFunc (.int .i64 0) .nilFunc .nilFunc:=(by rw[← hz0];exact _root_.Go.heap_alloc_new _ _)
 have hb1:Below (w.heap.size+1) (w.alloc (.cells #[.slice lo ls.length lc] 49)) ((w.alloc (.cells #[.slice lo ls.length lc] 49)).alloc (.cells #[.int .i64 0,.nilFunc,.int .i64 0,.nilFunc,.nilFunc] 70)):=by rw[← hz0];exact (Below.refl _ _).alloc (Nat.le_refl _) _
 have hL1:=(hb1.block w.heap.size (by omega)).trans hL0
 have hH1:HS ((w.alloc (.cells #[.slice lo ls.length lc] 49)).alloc (.cells #[.int .i64 0,.nilFunc,.int .i64 0,.nilFunc,.nilFunc] 70)) (.slice lo ls.length lc) ls:=Holds.keep hH fun k hk=>(hb1.block k (by omega)).trans (hb0.block k hk)
 have hB1:=hb0.trans (hb1.mono (by omega))
 have hask:=Zax w.heap.size lo lc ls _ hL1 hH1 HNE
 have hth:=Zdv 54 (.pointer (some ⟨w.heap.size,0,none⟩)) (bgB ls) _ (enters_of Tryz.func54 (by kernel_rfl) rfl) hask k (by show _=_;rw[Zfm];exact HK.out)
 clear hask hL0 hL1 hH1 hb0 hb1 hH HNE HK hz0
 go_enter Tryz.func27,Tryz.ntmps27
 go_wp2_with fail
 refine hth.mono ?_
 generalize (w.alloc (.cells #[.slice lo ls.length lc] 49)).alloc (.cells #[.int .i64 0,.nilFunc,.int .i64 0,.nilFunc,.nilFunc] 70)=W1 at *
 rintro e w2 ⟨B,rfl,hb2⟩
 have hx2:Bx5 w2 (w.heap.size+1) _ _ _ _ _:=(hb2.block _ (Array.getElem?_eq_some_iff.1 hx0).1).trans hx0
 have hB2:Below w.heap.size w w2:=hB1.trans (hb2.mono hB1.size)
 clear hth hx0 hB1 hb2
 obtain⟨r0,r1,r2,r3,r4⟩:=hx2.cells
 have g00:=Lib.frozen_of_heap hx2 0
 have g01:=Lib.frozen_of_heap hx2 1
 have g02:=Lib.frozen_of_heap hx2 2
 have g03:=Lib.frozen_of_heap hx2 3
 have g04:=Lib.frozen_of_heap hx2 4
 rcases Zdr B k with ⟨z,m,F,c,G,H,hk,hv⟩ | ⟨hk,hv⟩
 ·have hP:=hx2.put (.int .i64 z) (.func (.func F) #[] c) (.int .i64 m) (.func (.func G) #[] #[]) (.func (.func H) #[] #[])
  have hL:=ZaA hB2 (by omega:w.heap.size≤w.heap.size+1) (.int .i64 z) (.func (.func F) #[] c) (.int .i64 m) (.func (.func G) #[] #[]) (.func (.func H) #[] #[])
  have HV:Hid (fmA (bgV B) (bgV (B+1)) k=#[.int .i64 z,.func (.func F) #[] c,.int .i64 m,.func (.func G) #[] #[],.func (.func H) #[] #[]]):=hv
  have hdk:decide (k<3)=true:=decide_eq_true hk
  have HBB:Hid (decide (k<3)=true):=hdk
  rw[hv,hdk]
  clear hx2 hB2 hv hdk hk
  go_wp2
  refine bodyPost_ret (Zdt _ _ _ _ _ _ _ _ hP rfl rfl) rfl ⟨B,?_,hL⟩
  rw[HV.out,HBB.out]
  rfl
 ·have hP:=hx2.put (.int .i64 0) .nilFunc (.int .i64 0) .nilFunc .nilFunc
  have hL:=ZaA hB2 (by omega:w.heap.size≤w.heap.size+1) (.int .i64 0) .nilFunc (.int .i64 0) .nilFunc .nilFunc
  have HV:Hid (fmA (bgV B) (bgV (B+1)) k=#[.int .i64 0,.nilFunc,.int .i64 0,.nilFunc,.nilFunc]):=hv
  have hdk:decide (k<3)=false:=decide_eq_false hk
  have HBB:Hid (decide (k<3)=false):=hdk
  rw[hv,hdk]
  clear hx2 hB2 hv hdk hk
  go_wp2
  refine bodyPost_ret (Zdt _ _ _ _ _ _ _ _ hP rfl rfl) rfl ⟨B,?_,hL⟩
  rw[HV.out,HBB.out]
  rfl
end

section
open Go.RowKit Go.Proofs.YtcniomgjikienaaGreatDoor.Tx
attribute [local go_sem] Zhc
attribute [local simp] Zce
end

section
open Go.RowKit
def rdO (vL:Value) (p fa fe:Int):Obj:=.cells #[vL,.int .i64 p,.int .i64 fa,.int .i64 fe] 123
def Rx (u:World) (R:Nat) (vL:Value) (p fa fe:Int):Prop:=u.heap[R]?=some (rdO vL p fa fe)
section
variable {u u':World} {R:Nat} {vL:Value} {p fa fe:Int}
theorem Rx.cells (q:Rx u R vL p fa fe):u.cell? ⟨R,0,none⟩=some vL∧u.cell? ⟨R,1,none⟩=some (.int .i64 p)∧u.cell? ⟨R,2,none⟩=some (.int .i64 fa)∧u.cell? ⟨R,3,none⟩=some (.int .i64 fe):=by
 unfold Rx rdO at q
 refine⟨?_,?_,?_,?_⟩<;>rw[Lib.cell_of_heap q]<;>rfl
theorem Rx.frozen (q:Rx u R vL p fa fe) (j:Nat):u.frozen? ⟨R,j,none⟩=false:=Lib.frozen_of_heap q j
theorem Rx.lt (q:Rx u R vL p fa fe):R<u.heap.size:=(Array.getElem?_eq_some_iff.1 q).1
theorem Rx.dN (q:Rx u R vL p fa fe) (n:Nat):Rx (u.drewN n) R vL p fa fe:=q
theorem Rx.at (q:Rx u R vL p fa fe) (p':Int):Rx (u.setCell ⟨R,1,none⟩ (.int .i64 p')) R vL p' fa fe:=heap_setCell_same u R 1 _ _ (.int .i64 p') q
theorem Rx.fault (q:Rx u R vL p fa fe) (x y:Int):Rx ((u.setCell ⟨R,2,none⟩ (.int .i64 x)).setCell ⟨R,3,none⟩ (.int .i64 y)) R vL p x y:=heap_setCell_same _ R 3 _ _ (.int .i64 y) (heap_setCell_same u R 2 _ _ (.int .i64 x) q)
end
theorem ZdT {w u v:World} {r:Option Nat} (h:w.grownBy u r) (h':u.grownBy v r):w.grownBy v r :=
 ⟨h'.os.trans h.os,h'.tape.trans h.tape,h'.output.trans h.output,Nat.le_trans h.size h'.size,fun k hk hr=>(h'.block k (Nat.lt_of_lt_of_le hk h.size) hr).trans (h.block k hk hr)⟩
theorem ZpA {R:Nat} {vL:Value} {p fa:Int} (e:Int) (w:World) (q:Rx w R vL p fa 0) :
  Calls Tryz.prog 63 #[.pointer (some ⟨R,0,none⟩),.int .i64 e] w fun x w'=>x=.returned (.tuple #[])∧Rx w' R vL p p e∧w.grownBy w' (some R):=by
 obtain⟨c0,c1,c2,c3⟩:=q.cells
 have f2:=q.frozen 2
 have f3:=q.frozen 3
 have HQ:Hid (Rx ((w.setCell ⟨R,2,none⟩ (.int .i64 p)).setCell ⟨R,3,none⟩ (.int .i64 e)) R vL p p e∧w.grownBy ((w.setCell ⟨R,2,none⟩ (.int .i64 p)).setCell ⟨R,3,none⟩ (.int .i64 e)) (some R)):=⟨q.fault p e,ZdT (ZdS w R 2 _) (ZdS _ R 3 _)⟩
 clear q
 go_enter Tryz.func63,Tryz.ntmps63
 go_wp2
 go_end0
 exact⟨rfl,HQ.out⟩
theorem Zpz {R:Nat} {vL:Value} {p fa fe:Int} (e:Int) (w:World) (q:Rx w R vL p fa fe) (hf:fe≠0) :
  Calls Tryz.prog 63 #[.pointer (some ⟨R,0,none⟩),.int .i64 e] w fun x w'=>x=.returned (.tuple #[])∧w'=w:=by
 obtain⟨c0,c1,c2,c3⟩:=q.cells
 have h1:(fe == 0)=false:=beq_eq_false_iff_ne.2 hf
 clear q
 go_enter Tryz.func63,Tryz.ntmps63
 go_wp2
 go_end0
 exact⟨rfl,rfl⟩
theorem ZpG {R:Nat} {L:List (List UInt8)} {lo:Option Addr} {lc:Nat} {p:Nat} {fa fe:Int} (w:World) (q:Rx w R (.slice lo L.length lc) p fa fe) :
  Calls Tryz.prog 61 #[.pointer (some ⟨R,0,none⟩)] w fun x w'=>x=.returned (.bool (decide (fe=0) && decide (p<L.length)))∧∃ m,w'=w.drewN m:=by
 obtain⟨c0,c1,c2,c3⟩:=q.cells
 clear q
 by_cases hf:fe=0
 ·have h1:(fe == 0)=true:=by rw[hf];rfl
  have h2:decide (fe=0)=true:=decide_eq_true hf
  rw[h2]
  by_cases hp:p<L.length
  ·have h3:decide (p<L.length)=true:=decide_eq_true hp
   have h4:decide ((p:Int)<(L.length:Int))=true:=decide_eq_true (by omega)
   rw[h3]
   clear hf
   go_enter Tryz.func61,Tryz.ntmps61
   go_wp2_with fail
   go_quiet (fail)
   go_wp2
   go_ret
   exact⟨rfl,_,rfl⟩
  ·have h3:decide (p<L.length)=false:=decide_eq_false hp
   have h4:decide ((p:Int)<(L.length:Int))=false:=decide_eq_false (by omega)
   rw[h3]
   clear hf
   go_enter Tryz.func61,Tryz.ntmps61
   go_wp2_with fail
   go_quiet (fail)
   go_wp2
   go_ret
   exact⟨rfl,_,rfl⟩
 ·have h1:(fe == 0)=false:=beq_eq_false_iff_ne.2 hf
  have h2:decide (fe=0)=false:=decide_eq_false hf
  rw[h2]
  go_enter Tryz.func61,Tryz.ntmps61
  go_wp2_with fail
  go_quiet (fail)
  go_wp2
  go_ret
  exact⟨rfl,_,rfl⟩
theorem ZpP {R:Nat} {vL:Value} {p fa fe:Int} (w:World) (q:Rx w R vL p fa fe) (hf:fe≠0) :
  Calls Tryz.prog 100 #[.pointer (some ⟨R,0,none⟩)] w fun x w'=>x=.returned (.string ⟨#[]⟩)∧w'=w:=by
 obtain⟨c0,c1,c2,c3⟩:=q.cells
 have h1:(fe != 0)=true:=bne_iff_ne.2 hf
 clear q
 go_enter Tryz.func100,Tryz.ntmps100
 go_wp2
 go_ret
 exact⟨rfl,rfl⟩
theorem Zhm {L:List (List UInt8)} {p:Nat} (hp:p<L.length):nxt p (L.drop p)=if fdB L[p]=true then .ok (L[p].dropLast,L.drop (p+1)) else .error (p+1,3):=by
 rw[List.drop_eq_getElem_cons hp]
 rfl
theorem Zhn {L:List (List UInt8)} {p:Nat} (hp:L.length≤p):nxt p (L.drop p)=.error (p+1,1):=by
 rw[List.drop_eq_nil_of_le hp]
 rfl
theorem Zpx (s:List UInt8) (hf:fdB s=true) (hs:s.length≤1099511627776) (w:World):Calls Tryz.prog 116 #[.string ⟨s.toArray⟩] w fun e w'=>e=.returned (.tuple #[.string ⟨s.dropLast.toArray⟩,.bool true])∧w'=w:=by
 have eb:bareT s=s.dropLast:=by unfold bareT;rw[if_pos hf]
 refine (Zpw s w (by omega)).mono ?_
 rintro e w' ⟨rfl,rfl⟩
 rw[eb,hf]
 exact⟨rfl,rfl⟩
theorem Zpv (s:List UInt8) (hf:fdB s=false) (hs:s.length≤1099511627776) (w:World):Calls Tryz.prog 116 #[.string ⟨s.toArray⟩] w fun e w'=>e=.returned (.tuple #[.string ⟨s.toArray⟩,.bool false])∧w'=w:=by
 have eb:bareT s=s:=by unfold bareT;rw[if_neg (by rw[hf];decide)]
 refine (Zpw s w (by omega)).mono ?_
 rintro e w' ⟨rfl,rfl⟩
 rw[eb,hf]
 exact⟨rfl,rfl⟩
theorem ZpN {R:Nat} {L:List (List UInt8)} {lo:Option Addr} {lc:Nat} {p:Nat} {fa:Int} (w:World) (q:Rx w R (.slice lo L.length lc) p fa 0) (_hL:HS w (.slice lo L.length lc) L) (_hR:∀ a,lo=some a→a.block≠R) (hp:p≤4398046511104) (hlt:L.length≤p) :
  Calls Tryz.prog 100 #[.pointer (some ⟨R,0,none⟩)] w fun x w'=>x=.returned (.string ⟨#[]⟩)∧Rx w' R (.slice lo L.length lc) ((p:Int)+1) ((p:Int)+1) 1∧w.grownBy w' (some R):=by
 obtain⟨c0,c1,c2,c3⟩:=q.cells
 have f1:=q.frozen 1
 have q1:=q.at ((p:Int)+1)
 have g1:=ZdS w R 1 (.int .i64 ((p:Int)+1))
 clear q
 go_enter Tryz.func100,Tryz.ntmps100
 go_upto_region 4 with fail
 generalize w.setCell ⟨R,1,none⟩ (.int .i64 ((p:Int)+1))=W1 at q1 g1 ⊢
 obtain⟨d0,d1,d2,d3⟩:=q1.cells
 have i0:(L.length:Int)<(p:Int)+1:=by omega
 clear c0 c1 c2 c3
 go_quiet (fail)
 go_wp2_with fail
 refine (ZpA 1 _ (q1.dN _)).mono ?_
 rintro e w2 ⟨rfl,q2,g2⟩
 go_wp2
 go_ret
 exact⟨rfl,q2,ZdT (ZdP g1 _) g2⟩
theorem ZpQ {R:Nat} {L:List (List UInt8)} {lo:Option Addr} {lc:Nat} {p:Nat} {fa:Int} (w:World) (q:Rx w R (.slice lo L.length lc) p fa 0) (hL:HS w (.slice lo L.length lc) L) (hR:∀ a,lo=some a→a.block≠R) (hp:p≤4398046511104) (hlt:p<L.length) {s:List UInt8} (hs:L[p]=s) (hsl:s.length≤1099511627776) (hf:fdB s=true) :
  Calls Tryz.prog 100 #[.pointer (some ⟨R,0,none⟩)] w fun x w'=>x=.returned (.string ⟨s.dropLast.toArray⟩)∧Rx w' R (.slice lo L.length lc) ((p:Int)+1) fa 0∧w.grownBy w' (some R):=by
 obtain⟨c0,c1,c2,c3⟩:=q.cells
 have f1:=q.frozen 1
 have q1:=q.at ((p:Int)+1)
 have g1:=ZdS w R 1 (.int .i64 ((p:Int)+1))
 clear q
 go_enter Tryz.func100,Tryz.ntmps100
 go_upto_region 4 with fail
 generalize w.setCell ⟨R,1,none⟩ (.int .i64 ((p:Int)+1))=W1 at q1 g1 ⊢
 obtain⟨d0,d1,d2,d3⟩:=q1.cells
 obtain⟨bk,off,rfl,hbk,hcl⟩:=HS.at hL (by omega)
 have d4:=hcl p hlt
 have hRb:bk≠R:=hR ⟨bk,off,none⟩ rfl
 have d5:W1.cell? ⟨bk,off+p,none⟩=some (.string ⟨L[p].toArray⟩):=(World.cell?_of_block (w:=w) (g1.block bk hbk (fun e=>hRb (Option.some.inj e)))).trans d4
 clear hcl d4 c0 c1 c2 c3 hL hR
 rw[hs] at d5
 have i0:¬ (L.length:Int)<(p:Int)+1:=by omega
 have e1:(p:Int)+1-1=(p:Int):=by omega
 have i1:0≤(p:Int):=by omega
 have i2:(p:Int)<(L.length:Int):=by omega
 have e3:IntKind.i64.wrap (p:Int)=(p:Int):=(by simp[IntKind.wrap,IntKind.bits,IntKind.signed];omega)
 have e4:wrap64 (p:Int)=(p:Int):=by unfold wrap64;omega
 go_quiet (fail)
 go_wp2_with fail
 have q2:=q1.dN nq
 have g2:=ZdP g1 nq
 have d6:(W1.drewN nq).cell? ⟨bk,off+p,none⟩=some (.string ⟨s.toArray⟩):=d5
 clear q1 g1 d5 d0 d1 d2 d3
 generalize W1.drewN nq=W2 at q2 g2 d6 ⊢
 obtain⟨d0,d1,d2,d3⟩:=q2.cells
 have j1:(0:Int)≤(p:Int):=by omega
 have j2:(p:Int)<(L.length:Int):=by omega
 have j3:(p:Int).toNat=p:=by omega
 go_quiet ((go_at_call 116;exact Calls.quiet_of_same (Zpx s hf hsl _)))
 go_wp2
 go_ret
 exact⟨rfl,q2.dN _,ZdP g2 _⟩
theorem ZpM {R:Nat} {L:List (List UInt8)} {lo:Option Addr} {lc:Nat} {p:Nat} {fa:Int} (w:World) (q:Rx w R (.slice lo L.length lc) p fa 0) (hL:HS w (.slice lo L.length lc) L) (hR:∀ a,lo=some a→a.block≠R) (hp:p≤4398046511104) (hlt:p<L.length) {s:List UInt8} (hs:L[p]=s) (hsl:s.length≤1099511627776) (hf:fdB s=false) :
  Calls Tryz.prog 100 #[.pointer (some ⟨R,0,none⟩)] w fun x w'=>x=.returned (.string ⟨#[]⟩)∧Rx w' R (.slice lo L.length lc) ((p:Int)+1) ((p:Int)+1) 3∧w.grownBy w' (some R):=by
 obtain⟨c0,c1,c2,c3⟩:=q.cells
 have f1:=q.frozen 1
 have q1:=q.at ((p:Int)+1)
 have g1:=ZdS w R 1 (.int .i64 ((p:Int)+1))
 clear q
 go_enter Tryz.func100,Tryz.ntmps100
 go_upto_region 4 with fail
 generalize w.setCell ⟨R,1,none⟩ (.int .i64 ((p:Int)+1))=W1 at q1 g1 ⊢
 obtain⟨d0,d1,d2,d3⟩:=q1.cells
 obtain⟨bk,off,rfl,hbk,hcl⟩:=HS.at hL (by omega)
 have d4:=hcl p hlt
 have hRb:bk≠R:=hR ⟨bk,off,none⟩ rfl
 have d5:W1.cell? ⟨bk,off+p,none⟩=some (.string ⟨L[p].toArray⟩):=(World.cell?_of_block (w:=w) (g1.block bk hbk (fun e=>hRb (Option.some.inj e)))).trans d4
 clear hcl d4 c0 c1 c2 c3 hL hR
 rw[hs] at d5
 have i0:¬ (L.length:Int)<(p:Int)+1:=by omega
 have e1:(p:Int)+1-1=(p:Int):=by omega
 have i1:0≤(p:Int):=by omega
 have i2:(p:Int)<(L.length:Int):=by omega
 have e3:IntKind.i64.wrap (p:Int)=(p:Int):=(by simp[IntKind.wrap,IntKind.bits,IntKind.signed];omega)
 have e4:wrap64 (p:Int)=(p:Int):=by unfold wrap64;omega
 go_quiet (fail)
 go_wp2_with fail
 have q2:=q1.dN nq
 have g2:=ZdP g1 nq
 have d6:(W1.drewN nq).cell? ⟨bk,off+p,none⟩=some (.string ⟨s.toArray⟩):=d5
 clear q1 g1 d5 d0 d1 d2 d3
 generalize W1.drewN nq=W2 at q2 g2 d6 ⊢
 obtain⟨d0,d1,d2,d3⟩:=q2.cells
 have j1:(0:Int)≤(p:Int):=by omega
 have j2:(p:Int)<(L.length:Int):=by omega
 have j3:(p:Int).toNat=p:=by omega
 go_quiet ((go_at_call 116;exact Calls.quiet_of_same (Zpv s hf hsl _)))
 go_wp2_with fail
 refine (ZpA 3 _ (q2.dN _)).mono ?_
 rintro e w2 ⟨rfl,q3,g3⟩
 go_wp2
 go_ret
 exact⟨rfl,q3,ZdT (ZdP g2 _) g3⟩
end

section
open Go.RowKit
attribute [local go_sem] ByteArray.extract_mk Zhc
theorem Zpc (sg l:List UInt8):sg.isPrefixOf l=(decide (sg.length≤l.length) && (l.take sg.length == sg)):=by
 rw[Bool.eq_iff_iff,List.isPrefixOf_iff_prefix,Bool.and_eq_true,decide_eq_true_eq,beq_iff_eq]
 constructor
 ·rintro⟨t,rfl⟩
  simp
 ·rintro⟨_,h⟩
  refine⟨l.drop sg.length,?_⟩
  have h2:=List.take_append_drop sg.length l
  rw[h] at h2
  exact h2
theorem ZpY {R:Nat} {L:List (List UInt8)} {lo:Option Addr} {lc:Nat} {p:Nat} {fa:Int} (w:World) (q:Rx w R (.slice lo L.length lc) p fa 0) (hL:HS w (.slice lo L.length lc) L) (hs:∀ s∈L,s.length≤1099511627776) (b:Bool) (HB:Hid (pkM (L.drop p)=b)) :
  Calls Tryz.prog 64 #[.pointer (some ⟨R,0,none⟩),.string ⟨markT.toArray⟩] w fun x w'=>x=.returned (.bool b)∧∃ m,w'=w.drewN m:=by
 by_cases hlt:p<L.length
 ·have hd:L.drop p=L[p]::L.drop (p+1):=List.drop_eq_getElem_cons hlt
  have hb:=HB.out
  rw[hd] at hb
  simp only[pkM] at hb
  obtain⟨bk,off,rfl,hbk,hcl⟩:=HS.at hL (by omega)
  have d4:=hcl p hlt
  have hsl:=hs L[p] (List.getElem_mem _)
  rw[Zpc] at hb
  generalize L[p]=s at d4 hsl hb
  clear hcl hd hs HB hL
  obtain⟨c0,c1,c2,c3⟩:=q.cells
  go_enter Tryz.func64,Tryz.ntmps64
  go_wp2_with fail
  refine (ZpG w q).mono ?_
  rintro e w1 ⟨rfl,m,rfl⟩
  have hmr:(decide ((0:Int)=0) && decide (p<L.length))=true:=by simp[hlt]
  rw[hmr]
  have f0:(w.drewN m).cell? ⟨R,0,none⟩=_:=c0
  have f1:(w.drewN m).cell? ⟨R,1,none⟩=_:=c1
  have f4:(w.drewN m).cell? ⟨bk,off+p,none⟩=_:=d4
  clear c0 c1 c2 c3 d4 q hmr
  have HM:Hid (∀ n,∃ k,(w.drewN m).drewN n=w.drewN k):=fun n=>⟨_,World.drewN_drewN w m n⟩
  generalize w.drewN m=W1 at f0 f1 f4 HM ⊢
  go_wp2_with fail
  have j1:(0:Int)≤(p:Int):=by omega
  have j2:(p:Int)<(L.length:Int):=by omega
  have j3:(p:Int).toNat=p:=by omega
  go_quiet (fail)
  by_cases hlen:28≤s.length
  ·have h1:(28:Int)≤(s.length:Int):=by omega
   have h2:(s.take 28 == markT)=b:=by rw[← hb];simp[markT,hlen]
   go_wp2
   go_ret
   refine⟨?_,HM.out _⟩
   rw[← h2]
   rfl
  ·have h1:¬ (28:Int)≤(s.length:Int):=by omega
   have h2:b=false:=by rw[← hb];simp[markT,hlen]
   subst h2
   go_wp2
   go_ret
   exact⟨rfl,HM.out _⟩
 ·have hd:L.drop p=[]:=List.drop_eq_nil_of_le (by omega)
  have hb:=HB.out
  rw[hd] at hb
  simp only[pkM] at hb
  subst hb
  go_enter Tryz.func64,Tryz.ntmps64
  go_wp2_with fail
  refine (ZpG w q).mono ?_
  rintro e w1 ⟨rfl,m,rfl⟩
  have hmr:(decide ((0:Int)=0) && decide (p<L.length))=false:=by simp[hlt]
  rw[hmr]
  go_wp2
  go_ret
  exact⟨rfl,m,rfl⟩
end

section
open Go.RowKit
attribute [local go_sem] ByteArray.extract_mk Zhc
theorem HS.away {w w':World} {R:Nat} {lo:Option Addr} {lc:Nat} {L:List (List UInt8)} (h:HS w (.slice lo L.length lc) L) (hg:w.grownBy w' (some R)) (hR:∀ a,lo=some a→a.block≠R):HS w' (.slice lo L.length lc) L:=by
 rcases h with h | ⟨ad,c,hv,hnc,hc⟩
 ·exact .inl h
 ·refine .inr ⟨ad,c,hv,hnc,fun j u hj=>?_⟩
  cases hv
  have h1:=hc j u hj
  have hb:(ad.add j).block=ad.block:=by unfold Addr.add;split<;>rfl
  have hlt:=World.block_lt_of_cell? w _ h1
  rw[World.cell?_of_block (w:=w) (hg.block _ hlt (fun e=>hR ad rfl (by rw[← hb];exact Option.some.inj e)))]
  exact h1
def MkP (R:Nat) (vL:Value) (L:List (List UInt8)) (fa:Int) (X:Except (Nat × Int) (List UInt8 × Nat × List (List UInt8))) (x:Ending) (w':World):Prop :=
 match X with
 | .error (a,e)=>∃ (t:List UInt8) (p':Int),x=.returned (.string ⟨t.toArray⟩)∧Rx w' R vL p' (a:Int) e∧e≠0
 | .ok (t,p1,r)=>x=.returned (.string ⟨t.toArray⟩)∧Rx w' R vL (p1:Int) fa 0∧L.drop p1=r
theorem ZpF {R:Nat} {L:List (List UInt8)} {lo:Option Addr} {lc:Nat} {p:Nat} {fa:Int} (w:World) (q:Rx w R (.slice lo L.length lc) p fa 0) (hL:HS w (.slice lo L.length lc) L) (hR:∀ a,lo=some a→a.block≠R) (hp:p≤2199023255552) (hs:∀ s∈L,s.length≤1099511627776)
  (sg:List UInt8) (hsg:sg.length=2) (last:Bool) (X:Except (Nat × Int) (List UInt8 × Nat × List (List UInt8))) (HX:Hid (mkd sg last p (L.drop p)=X)) :
  Calls Tryz.prog 112 #[.pointer (some ⟨R,0,none⟩),.string ⟨sg.toArray⟩,.bool last] w fun x w'=>MkP R (.slice lo L.length lc) L fa X x w'∧w.grownBy w' (some R):=by
 have hX:=HX.out
 clear HX
 unfold mkd at hX
 by_cases hlt:p<L.length
 ·rw[Zhm hlt] at hX
  obtain⟨s,hsd⟩:∃ s,L[p]=s:=⟨_,rfl⟩
  have hsl:=hs L[p] (List.getElem_mem _)
  rw[hsd] at hX hsl
  cases hf:fdB s with
  | true =>
   rw[if_pos hf] at hX
   dsimp only at hX
   have hn:=ZpQ w q hL hR (by omega) hlt hsd hsl hf
   obtain⟨t,ht⟩:∃ t,s.dropLast=t:=⟨_,rfl⟩
   have htl:t.length≤1099511627776:=(by rw[← ht,List.length_dropLast];omega)
   rw[ht] at hX hn
   clear ht hsd hf
   rw[Zpc,hsg] at hX
   by_cases hle:2≤t.length
   ·by_cases htk:t.take 2=sg
    ·have hc:(decide (2≤t.length) && (t.take 2 == sg))=true:=by simp[hle,htk]
     rw[if_pos hc] at hX
     have k1:¬ (t.length:Int)<(2:Int):=by omega
     have k2:(2:Int)≤(t.length:Int):=by omega
     have k3:(t.take 2 == sg)=true:=by simp[htk]
     obtain⟨b,hbd⟩:∃ b,pkM (L.drop (p+1))=b:=⟨_,rfl⟩
     have HB:Hid (pkM (L.drop (p+1))=b):=hbd
     rw[hbd] at hX
     have HXX:Hid (_=X):=hX
     clear hX hc hbd
     have k5:(t.drop 2).take (t.length-2)=t.drop 2:=List.take_of_length_le (by simp)
     have hdl:(t.drop 2).length≤1099511627776:=(by rw[List.length_drop];omega)
     cases last with
     | false =>
      have hX:=HXX.out
      rw[if_neg (by simp)] at hX
      clear HXX
      subst hX
      go_enter Tryz.func112,Tryz.ntmps112
      go_wp2_with fail
      refine hn.mono ?_
      rintro e w1 ⟨rfl,q1,g1⟩
      go_wp2
      go_ret
      exact⟨⟨by simp[Zmw],q1,rfl⟩,g1⟩
     | true =>
      cases b with
      | false =>
       have hX:=HXX.out
       rw[if_neg (by simp)] at hX
       clear HXX
       subst hX
       go_enter Tryz.func112,Tryz.ntmps112
       go_wp2_with fail
       refine hn.mono ?_
       rintro e w1 ⟨rfl,q1,g1⟩
       go_wp2_with fail
       refine (ZpY (p:=p+1) w1 q1 (hL.away g1 hR) hs _ HB).mono ?_
       rintro e w2 ⟨rfl,m,rfl⟩
       have q2:=q1.dN m
       have g2:=ZdP g1 m
       clear q1 g1
       generalize w1.drewN m=W2 at q2 g2 ⊢
       go_wp2
       go_ret
       exact⟨⟨by simp[Zmw],q2,rfl⟩,g2⟩
      | true =>
       have hX:=HXX.out
       rw[if_pos (by simp)] at hX
       clear HXX
       have hdr:L.drop (p+2)=(L.drop (p+1)).tail:=by simp
       by_cases hem:t.drop 2=[]
       ·rw[if_pos hem] at hX
        subst hX
        go_enter Tryz.func112,Tryz.ntmps112
        go_wp2_with fail
        refine hn.mono ?_
        rintro e w1 ⟨rfl,q1,g1⟩
        go_wp2_with fail
        refine (ZpY (p:=p+1) w1 q1 (hL.away g1 hR) hs _ HB).mono ?_
        rintro e w2 ⟨rfl,m,rfl⟩
        have q2:=q1.dN m
        have g2:=ZdP g1 m
        clear q1 g1
        generalize w1.drewN m=W2 at q2 g2 ⊢
        obtain⟨c0,c1,c2,c3⟩:=q2.cells
        have f1:=q2.frozen 1
        have q3:=q2.at ((p:Int)+1+1)
        have g3:=ZdT g2 (ZdS W2 R 1 (.int .i64 ((p:Int)+1+1)))
        have hl2:t.length=2:=(by
         have:=congrArg List.length hem
         simp at this
         omega)
        go_wp2_with fail
        refine (ZpA 3 _ q3).mono ?_
        rintro e w3 ⟨rfl,q4,g4⟩
        go_wp2
        go_ret
        exact⟨⟨[],_,rfl,q4,by decide⟩,ZdT g3 g4⟩
       ·rw[if_neg hem] at hX
        subst hX
        go_enter Tryz.func112,Tryz.ntmps112
        go_wp2_with fail
        refine hn.mono ?_
        rintro e w1 ⟨rfl,q1,g1⟩
        go_wp2_with fail
        refine (ZpY (p:=p+1) w1 q1 (hL.away g1 hR) hs _ HB).mono ?_
        rintro e w2 ⟨rfl,m,rfl⟩
        have q2:=q1.dN m
        have g2:=ZdP g1 m
        clear q1 g1
        generalize w1.drewN m=W2 at q2 g2 ⊢
        obtain⟨c0,c1,c2,c3⟩:=q2.cells
        have f1:=q2.frozen 1
        have q3:=q2.at ((p:Int)+1+1)
        have g3:=ZdT g2 (ZdS W2 R 1 (.int .i64 ((p:Int)+1+1)))
        have hl2:2<t.length:=(by
         have h0:0<(t.drop 2).length:=List.length_pos_iff.2 hem
         simp at h0
         omega)
        have hl3:((t.length-2:Nat):Int)≠0:=by omega
        go_wp2
        go_ret
        exact⟨⟨rfl,q3,hdr⟩,g3⟩
    ·have hc:¬ (decide (2≤t.length) && (t.take 2 == sg))=true:=by simp[htk]
     rw[if_neg hc] at hX
     subst hX
     have k1:¬ (t.length:Int)<(2:Int):=by omega
     have k2:(2:Int)≤(t.length:Int):=by omega
     have k3:(t.take 2 == sg)=false:=by simp[htk]
     clear hc
     go_enter Tryz.func112,Tryz.ntmps112
     go_wp2_with fail
     refine hn.mono ?_
     rintro e w1 ⟨rfl,q1,g1⟩
     go_wp2_with fail
     refine (ZpA 3 _ q1).mono ?_
     rintro e w2 ⟨rfl,q2,g2⟩
     go_wp2
     go_ret
     exact⟨⟨[],_,rfl,q2,by decide⟩,ZdT g1 g2⟩
   ·have hc:¬ (decide (2≤t.length) && (t.take 2 == sg))=true:=by simp[hle]
    rw[if_neg hc] at hX
    subst hX
    have k1:(t.length:Int)<(2:Int):=by omega
    clear hc
    go_enter Tryz.func112,Tryz.ntmps112
    go_wp2_with fail
    refine hn.mono ?_
    rintro e w1 ⟨rfl,q1,g1⟩
    go_wp2_with fail
    refine (ZpA 3 _ q1).mono ?_
    rintro e w2 ⟨rfl,q2,g2⟩
    go_wp2
    go_ret
    exact⟨⟨[],_,rfl,q2,by decide⟩,ZdT g1 g2⟩
  | false =>
   rw[if_neg (by rw[hf];decide)] at hX
   subst hX
   have hn:=ZpM w q hL hR (by omega) hlt hsd hsl hf
   clear hsd hf hs hsl
   go_enter Tryz.func112,Tryz.ntmps112
   go_wp2_with fail
   refine hn.mono ?_
   rintro e w1 ⟨rfl,q1,g1⟩
   have h2:(0:Int)<(sg.length:Int):=by omega
   go_wp2_with fail
   refine (Zpz 3 _ q1 (by decide)).mono ?_
   rintro e w2 ⟨rfl,rfl⟩
   go_wp2
   go_ret
   exact⟨⟨[],_,rfl,q1,by decide⟩,g1⟩
 ·rw[Zhn (by omega)] at hX
  dsimp only at hX
  subst hX
  have hn:=ZpN w q hL hR (by omega) (by omega)
  go_enter Tryz.func112,Tryz.ntmps112
  go_wp2_with fail
  refine hn.mono ?_
  rintro e w1 ⟨rfl,q1,g1⟩
  have h2:(0:Int)<(sg.length:Int):=by omega
  go_wp2_with fail
  refine (Zpz 3 _ q1 (by decide)).mono ?_
  rintro e w2 ⟨rfl,rfl⟩
  go_wp2
  go_ret
  exact⟨⟨[],_,rfl,q1,by decide⟩,g1⟩
end

end Go.Proofs.YtcniomgjikienaaGreatDoor

namespace Go.Proofs

section
open Go.Shelf Go.RowKit
end

end Go.Proofs

namespace Go.Proofs.YtcniomgjikienaaGreatDoor

section
open Go.RowKit
end

end Go.Proofs.YtcniomgjikienaaGreatDoor

/- How long the normal form of a script is; plain mathematics. -/
namespace Go.Proofs.YtcniomgjikienaaGreatDoor
end Go.Proofs.YtcniomgjikienaaGreatDoor

namespace Go.Proofs.YtcniomgjikienaaGreatDoor

section
open Go.RowKit
def Tab10 (w : World) : Prop := ∀ u : World, Below w.heap.size w u → Lib.TabIs Tryz.prog u "internal/strconv.uint64pow10" .u64 Lib.pow10Tab
theorem Tab10.on {w u:World} (h:Tab10 w) (hb:Below w.heap.size w u):Tab10 u:=fun v hv=>h v (hb.trans (hv.mono hb.size))
end

section
open Go.RowKit
theorem ZkK (s:List UInt8):Lib.hasSuffix s [10]=fdB s:=by
 unfold Lib.hasSuffix fdB
 rw[Bool.eq_iff_iff,List.isSuffixOf_iff_suffix,beq_iff_eq]
 constructor
 ·rintro⟨t,rfl⟩
  simp
 ·intro h
  obtain⟨t,rfl⟩:=List.getLast?_eq_some_iff.1 h
  exact⟨t,rfl⟩
end

section
open Go.RowKit
end

section
open Go.RowKit
attribute [local go_sem] ByteArray.extract_mk Zhc
def ryO (vL:Value) (p:Int):Obj:=.cells #[vL,.int .i64 p] 317
def Ry (u:World) (R:Nat) (vL:Value) (p:Int):Prop:=u.heap[R]?=some (ryO vL p)
def fltO (a z:Int):Obj:=.cells #[.int .i64 a,.iface 27 (.int .i64 z)] 64
section
variable {u u':World} {R:Nat} {vL:Value} {p:Int}
theorem Ry.cells (q:Ry u R vL p):u.cell? ⟨R,0,none⟩=some vL∧u.cell? ⟨R,1,none⟩=some (.int .i64 p):=by
 unfold Ry ryO at q
 refine⟨?_,?_⟩<;>rw[Lib.cell_of_heap q]<;>rfl
theorem Ry.frozen (q:Ry u R vL p) (j:Nat):u.frozen? ⟨R,j,none⟩=false:=Lib.frozen_of_heap q j
theorem Ry.lt (q:Ry u R vL p):R<u.heap.size:=(Array.getElem?_eq_some_iff.1 q).1
theorem Ry.dN (q:Ry u R vL p) (n:Nat):Ry (u.drewN n) R vL p:=q
theorem Ry.at (q:Ry u R vL p) (p':Int):Ry (u.setCell ⟨R,1,none⟩ (.int .i64 p')) R vL p':=heap_setCell_same u R 1 _ _ (.int .i64 p') q
theorem Ry.low (q:Ry u R vL p) (hg:Below u.heap.size u u'):Ry u' R vL p:=(hg.block R q.lt).trans q
theorem Ry.keep (q:Ry u R vL p) {g:Option Nat} (hg:u.grownBy u' g) (hr:some R≠g):Ry u' R vL p:=(hg.block R q.lt hr).trans q
end
def Thr (a z:Int) (x:Ending) (w':World):Prop:=∃ g,x=.panicked [{ v:=.iface 62 (.pointer (some ⟨g,0,none⟩)),recovered:=false }]∧w'.heap[g]?=some (fltO a z)
theorem Zhi {R:Nat} {vL:Value} {p:Nat} (z:Int) (w:World) (q:Ry w R vL (p:Int)) (hp:p≤4398046511104) :
  Calls Tryz.prog 318 #[.pointer (some ⟨R,0,none⟩),.int .i64 z] w fun x w'=>Thr ((p:Int)+1) z x w'∧w.grownBy w' (some R):=by
 obtain⟨c0,c1⟩:=q.cells
 have HQ:Hid ((w.alloc (fltO ((p:Int)+1) z)).heap[w.heap.size]?=some (fltO ((p:Int)+1) z)∧w.grownBy (w.alloc (fltO ((p:Int)+1) z)) (some R)):=⟨heap_alloc_new w _,World.grownBy_alloc w _ _⟩
 clear q
 go_enter Tryz.func318,Tryz.ntmps318
 go_wp2
 exact⟨rfl,⟨_,rfl,HQ.out.1⟩,HQ.out.2⟩
def LnQ (R:Nat) (_vL:Value) (_p:Nat) (X:Except (Nat × Int) (List UInt8 × List (List UInt8))) (w:World) (x:Ending) (w':World):Prop :=
 match X with
 | .error (a,e)=>Thr (a:Int) e x w'∧w.grownBy w' (some R)
 | .ok (s,_)=>x=.returned (.string ⟨(s++[10]).toArray⟩)∧∃ n,w'=w.drewN n
theorem ZcM {s:List UInt8} (h:fdB s=true):s.dropLast++[10]=s:=(Zdd h).symm
theorem ZgX {R:Nat} {L:List (List UInt8)} {lo:Option Addr} {lc:Nat} {p:Nat} (w:World) (q:Ry w R (.slice lo L.length lc) p) (hL:HS w (.slice lo L.length lc) L) (hp:p≤L.length) (hLl:L.length≤2199023255552) (hs:∀ s∈L,s.length≤1099511627776)
  (X:Except (Nat × Int) (List UInt8 × List (List UInt8))) (HX:Hid (nxt p (L.drop p)=X)) :
  Calls Tryz.prog 317 #[.pointer (some ⟨R,0,none⟩)] w fun x w'=>LnQ R (.slice lo L.length lc) p X w x w':=by
 have hX:=HX.out
 clear HX
 by_cases hlt:p<L.length
 ·rw[Zhm hlt] at hX
  obtain⟨bk,off,rfl,hbk,hcl⟩:=HS.at hL (by omega)
  have d4:=hcl p hlt
  have hsl:=hs L[p] (List.getElem_mem _)
  generalize L[p]=s at d4 hsl hX
  clear hcl hs hL
  obtain⟨c0,c1⟩:=q.cells
  have e0:((p:Int) == (L.length:Int))=false:=beq_eq_false_iff_ne.2 (by omega)
  have i1:(0:Int)≤(p:Int):=by omega
  have i2:(p:Int)<(L.length:Int):=by omega
  have i3:(p:Int).toNat=p:=by omega
  cases hf:fdB s with
  | true =>
   rw[if_pos hf] at hX
   subst hX
   have HD:Hid (s.dropLast++[10]=s):=ZcM hf
   clear q
   go_enter Tryz.func317,Tryz.ntmps317
   go_wp2_with fail
   go_quiet (fail)
   go_wp2_with fail
   have c0':(w.drewN nq).cell? ⟨R,0,none⟩=_:=c0
   have c1':(w.drewN nq).cell? ⟨R,1,none⟩=_:=c1
   have d4':(w.drewN nq).cell? ⟨bk,off+p,none⟩=_:=d4
   have HM:Hid (∀ n,∃ k,(w.drewN nq).drewN n=w.drewN k):=fun n=>⟨_,World.drewN_drewN w nq n⟩
   clear c0 c1 d4
   generalize w.drewN nq=W1 at c0' c1' d4' HM ⊢
   have j1:(0:Int)≤(p:Int):=by omega
   have j2:(p:Int)<(L.length:Int):=by omega
   have j3:(p:Int).toNat=p:=by omega
   go_quiet (fail)
   go_wp2_with fail
   refine (Tryz.strings_HasSuffix ⟨s.toArray⟩ ⟨#[10]⟩ _ (by show s.length≤_;omega)).mono ?_
   rintro e w2 ⟨rfl,rfl⟩
   have e1:Lib.hasSuffix (⟨s.toArray⟩:ByteArray).data.toList (⟨#[10]⟩:ByteArray).data.toList=true:=(ZkK s).trans hf
   rw[e1]
   clear e1 hf
   go_wp2
   go_ret
   refine⟨?_,HM.out _⟩
   rw[HD.out]
   rfl
  | false =>
   rw[if_neg (by rw[hf];decide)] at hX
   subst hX
   have q0:=q
   clear q
   go_enter Tryz.func317,Tryz.ntmps317
   go_wp2_with fail
   go_quiet (fail)
   go_wp2_with fail
   have c0':(w.drewN nq).cell? ⟨R,0,none⟩=_:=c0
   have c1':(w.drewN nq).cell? ⟨R,1,none⟩=_:=c1
   have d4':(w.drewN nq).cell? ⟨bk,off+p,none⟩=_:=d4
   have HM:Hid (∀ n,w.grownBy ((w.drewN nq).drewN n) (some R)):=fun n=>ZdP (ZdP (ZfO (Below.refl _ _) _) nq) n
   have HQ:Hid (∀ n,Ry ((w.drewN nq).drewN n) R (.slice (some ⟨bk,off,none⟩) L.length lc) p):=fun n=>(q0.dN nq).dN n
   clear c0 c1 d4 q0
   generalize w.drewN nq=W1 at c0' c1' d4' HM HQ ⊢
   have j1:(0:Int)≤(p:Int):=by omega
   have j2:(p:Int)<(L.length:Int):=by omega
   have j3:(p:Int).toNat=p:=by omega
   go_quiet (fail)
   go_wp2_with fail
   refine (Tryz.strings_HasSuffix ⟨s.toArray⟩ ⟨#[10]⟩ _ (by show s.length≤_;omega)).mono ?_
   rintro e w2 ⟨rfl,rfl⟩
   have e1:Lib.hasSuffix (⟨s.toArray⟩:ByteArray).data.toList (⟨#[10]⟩:ByteArray).data.toList=false:=(ZkK s).trans hf
   rw[e1]
   clear e1 hf
   go_wp2_with fail
   refine (Zhi 3 _ (HQ.out _) (by omega)).mono ?_
   rintro e w3 ⟨⟨g,rfl,hg⟩,hgr⟩
   go_wp2
   exact⟨rfl,⟨_,rfl,hg⟩,ZdT (HM.out _) hgr⟩
 ·rw[Zhn (by omega)] at hX
  subst hX
  obtain⟨c0,c1⟩:=q.cells
  have e0:((p:Int) == (L.length:Int))=true:=beq_iff_eq.2 (by omega)
  have HM:Hid (∀ n,w.grownBy (w.drewN n) (some R)):=fun n=>ZdP (ZfO (Below.refl _ _) _) n
  have HQ:Hid (∀ n,Ry (w.drewN n) R (.slice lo L.length lc) p):=fun n=>q.dN n
  clear q hs hL
  go_enter Tryz.func317,Tryz.ntmps317
  go_wp2_with fail
  go_quiet (fail)
  go_wp2_with fail
  refine (Zhi 1 _ (HQ.out _) (by omega)).mono ?_
  rintro e w3 ⟨⟨g,rfl,hg⟩,hgr⟩
  go_wp2
  exact⟨rfl,⟨_,rfl,hg⟩,ZdT (HM.out _) hgr⟩
end

section
open Ln
def rdL (sg:List UInt8) (S:Int):Nat→Nat→List (List UInt8)→Except (Nat × Int) (List Mk × Nat × List (List UInt8))
 | 0,p,ls=>.ok ([],p,ls)
 | n+1,p,ls=>match nxt p ls with
  | .error e=>.error e
  | .ok (s,r)=>if sg.isPrefixOf s=true then match rdL sg S n (p+1) r with
    | .error e=>.error e
    | .ok (l,p2,r2)=>.ok (⟨S,s.drop sg.length++[10]⟩::l,p2,r2)
   else .error (p+1,3)
def cutL:List Mk→List Mk
 | []=>[]
 | [m]=>[⟨m.sg,m.tx.dropLast⟩]
 | m::l=>m::cutL l
def lastT (l:List Mk):List UInt8:=(l.getLast?.map (·.tx)).getD []
def endK (l:List Mk) (r:List (List UInt8)):Bool:=lastT l != [10] && pkM r
def sdC (sg:List UInt8) (S:Int) (n p:Nat) (ls:List (List UInt8)):Except (Nat × Int) (List Mk × Nat × List (List UInt8)) :=
 match rdL sg S n p ls with
 | .error e=>.error e
 | .ok (l,p1,r)=>if (decide (0<n) && endK l r)=true then .ok (cutL l,p1+1,r.tail) else .ok (l,p1,r)
def hkK (k p:Nat) (ls:List (List UInt8)):Except (Nat × Int) (Hk × Nat × List (List UInt8)) :=
 match nxt p ls with
 | .error e=>.error e
 | .ok (s,r)=>match cmdP s with
  | none=>.error (p+1,3)
  | some (A,AN,B,BN)=>if k=4096 then .error (p+1,9) else match sdC [60,32] 45 AN.toNat (p+1) r with
   | .error e=>.error e
   | .ok (l1,p1,r1)=>match (if 0<AN∧0<BN then sepP p1 r1 else .ok (p1,r1)) with
    | .error e=>.error e
    | .ok (p2,r2)=>match sdC [62,32] 43 BN.toNat p2 r2 with
     | .error e=>.error e
     | .ok (l2,p3,r3)=>.ok (⟨A,AN,B,BN,l1++l2⟩,p3,r3)
def hksK:Nat→Nat→Nat→List (List UInt8)→Except (Nat × Int) (List Hk)
 | 0,_,_,_=>.ok []
 | f+1,k,p,ls=>if ls=[] then .ok [] else match hkK k p ls with
  | .error e=>.error e
  | .ok (h,p1,r)=>match hksK f (k+1) p1 r with
   | .error e=>.error e
   | .ok l=>.ok (h::l)
def Bad (X Y:Except (Nat × Int) (List Mk × Nat × List (List UInt8))):Prop:=∃ l p r,Y=.ok (l,p,markT::r)∧X=.error (p+1,3)
theorem ZfS {s:List UInt8} (hp:∀ c∈s.dropLast,c≠10) (h:markT.isPrefixOf s=true):s=markT:=by
 rw[List.isPrefixOf_iff_prefix] at h
 obtain⟨t,rfl⟩:=h
 cases t with
 | nil=>simp
 | cons c t =>
  exfalso
  have h1:(10:UInt8)∈(markT++c::t).dropLast:=by
   rw[List.dropLast_append_of_ne_nil (by simp)]
   exact List.mem_append_left _ (by decide)
  exact hp 10 h1 rfl
theorem Zcm {m:Mk} {l:List Mk} (h:l≠[]):cutL (m::l)=m::cutL l:=by
 cases l with
 | nil=>exact absurd rfl h
 | cons y l=>rfl
theorem Zco (l:List Mk) (m:Mk):cutL (l++[m])=l++[⟨m.sg,m.tx.dropLast⟩]:=by
 induction l with
 | nil=>rfl
 | cons x l ih =>
  rw[List.cons_append,Zcm (by simp),ih]
  rfl
theorem Zfs (l:List Mk) (m:Mk):lastT (l++[m])=m.tx:=by simp[lastT]
theorem ZjY (sg:List UInt8) (S:Int) (p:Nat) (ls:List (List UInt8)):sdC sg S 0 p ls=.ok ([],p,ls):=by
 unfold sdC rdL
 rfl
theorem Zfr {m:Mk} {l:List Mk} (h:l≠[]):lastT (m::l)=lastT l:=by
 cases l with
 | nil=>exact absurd rfl h
 | cons y l=>simp[lastT]
theorem Zja {sg:List UInt8} {S:Int} (n:Nat):∀ {p:Nat} {ls:List (List UInt8)} {l:List Mk} {p1:Nat} {r:List (List UInt8)},rdL sg S n p ls=.ok (l,p1,r)→l.length=n∧p1=p+n∧ls.drop n=r∧n≤ls.length:=by
 induction n with
 | zero =>
  intro p ls l p1 r h
  simp only[rdL] at h
  cases h
  exact⟨rfl,rfl,rfl,Nat.zero_le _⟩
 | succ n ih =>
  intro p ls l p1 r h
  simp only[rdL] at h
  split at h
  ·cases h
  ·rename_i s r0 hn
   have hls:=Zhp hn
   split at h
   ·split at h
    ·cases h
    ·rename_i l' q r' hq
     obtain⟨a1,a2,a3,a4⟩:=ih hq
     cases h
     subst hls
     exact⟨by simp[a1],by omega,by simpa using a3,by simp;omega⟩
   ·cases h
theorem Zkk {sg:List UInt8} {S:Int} (n:Nat):∀ {p:Nat} {ls:List (List UInt8)},Plain ls→rdN sg S n p ls=sdC sg S n p ls∨Bad (rdN sg S n p ls) (sdC sg S n p ls):=by
 induction n with
 | zero =>
  intro p ls _
  left
  rw[ZjY]
  rfl
 | succ n ih =>
  intro p ls hP
  unfold sdC
  simp only[rdN,rdL,mkd]
  cases hn:nxt p ls with
  | error e=>left;rfl
  | ok z =>
   obtain⟨s,r⟩:=z
   dsimp only
   have hls:=Zhp hn
   subst hls
   have hPr:Plain r:=fun x hx=>hP x (by simp[hx])
   have hsn:∀ c∈s,c≠10:=by
    have:=hP (s++[10]) (by simp)
    simpa using this
   by_cases hpre:sg.isPrefixOf s=true
   ·rw[if_pos hpre,if_pos hpre]
    cases n with
    | zero =>
     simp only[rdN,rdL]
     have e1:((0:Nat) == 0)=true:=rfl
     rw[e1,Bool.true_and]
     have e2:lastT [(⟨S,s.drop sg.length++[10]⟩:Mk)]=s.drop sg.length++[10]:=rfl
     unfold endK
     rw[e2]
     have e3:decide (0<0+1)=true:=rfl
     rw[e3,Bool.true_and]
     cases hk:pkM r with
     | false =>
      left
      rw[if_neg (by decide),Bool.and_false,if_neg (by decide)]
     | true =>
      rw[if_pos rfl,Bool.and_true]
      by_cases hem:s.drop sg.length=[]
      ·right
       rw[if_pos hem,hem]
       rw[if_neg (by decide)]
       cases r with
       | nil=>cases hk
       | cons y r =>
        have:y=markT:=ZfS (hPr y (by simp)) hk
        subst this
        exact⟨_,_,_,rfl,rfl⟩
      ·left
       have e4:(s.drop sg.length++[10] != [10])=true:=by
        rw[bne_iff_ne]
        intro h
        apply hem
        have:=congrArg List.length h
        simp at this
        exact List.eq_nil_of_length_eq_zero (by simpa using this)
       rw[if_neg hem,e4,if_pos rfl]
       simp[cutL]
    | succ n =>
     have e1:((n+1:Nat) == 0)=false:=rfl
     rw[e1,Bool.false_and,if_neg (by decide)]
     dsimp only
     have hi:=@ih (p+1) r hPr
     unfold sdC at hi
     cases hL:rdL sg S (n+1) (p+1) r with
     | error e =>
      rw[hL] at hi
      left
      rcases hi with hi | ⟨_,_,_,h,_⟩
      ·rw[hi]
      ·cases h
     | ok z =>
      obtain⟨l,p1,r1⟩:=z
      rw[hL] at hi
      dsimp only at hi ⊢
      have hlen:=(Zja _ hL).1
      have hne:l≠[]:=by
       rintro rfl
       simp at hlen
      unfold endK at hi ⊢
      rw[Zfr hne,Zcm hne]
      have e3:decide (0<n+1)=true:=decide_eq_true (by omega)
      have e4:decide (0<n+1+1)=true:=decide_eq_true (by omega)
      rw[e3] at hi
      rw[e4]
      by_cases hb:(true && (lastT l != [10] && pkM r1))=true
      ·rw[if_pos hb] at hi ⊢
       rcases hi with hi | ⟨l',p',r',h,h'⟩
       ·left
        rw[hi]
       ·right
        simp only[Except.ok.injEq,Prod.mk.injEq] at h
        obtain⟨rfl,rfl,h⟩:=h
        exact⟨_,_,r',by rw[h],by rw[h']⟩
      ·rw[if_neg hb] at hi ⊢
       rcases hi with hi | ⟨l',p',r',h,h'⟩
       ·left
        rw[hi]
       ·right
        cases h
        exact⟨_,_,_,rfl,by rw[h']⟩
   ·left
    rw[if_neg hpre,if_neg hpre]
theorem ZjV {sg:List UInt8} {S:Int} {n p:Nat} {ls:List (List UInt8)} {l:List Mk} {p1:Nat} {r:List (List UInt8)} (h:sdC sg S n p ls=.ok (l,p1,r)):∃ j,r=ls.drop j∧p1=p+j∧j≤ls.length:=by
 unfold sdC at h
 split at h
 ·cases h
 ·rename_i l' q r' hq
  obtain⟨a1,a2,a3,a4⟩:=Zja _ hq
  split at h
  ·rename_i hb
   cases h
   have hk:pkM r'=true:=by
    unfold endK at hb
    simp only[Bool.and_eq_true] at hb
    exact hb.2.2
   have h1:0<r'.length:=by
    cases r' with
    | nil=>cases hk
    | cons=>simp
   rw[← a3,List.length_drop] at h1
   exact⟨n+1,by rw[← a3,List.tail_drop],by omega,by omega⟩
  ·cases h
   exact⟨n,a3.symm,a2,a4⟩
theorem Zcn (l:List Mk):(cutL l).length=l.length:=by
 induction l with
 | nil=>rfl
 | cons m l ih =>
  cases l with
  | nil=>rfl
  | cons y l=>rw[Zcm (by simp),List.length_cons,ih];rfl
theorem ZjX {sg:List UInt8} {S:Int} {n p:Nat} {ls:List (List UInt8)} {l:List Mk} {p1:Nat} {r:List (List UInt8)} (h:sdC sg S n p ls=.ok (l,p1,r)):l.length=n:=by
 unfold sdC at h
 split at h
 ·cases h
 ·rename_i l' q r' hq
  obtain⟨a1,a2,a3,a4⟩:=Zja _ hq
  split at h
  ·cases h
   rw[Zcn,a1]
  ·cases h
   exact a1
theorem Zkb {p p1:Nat} {ls r:List (List UInt8)} (h:sepP p ls=.ok (p1,r)):r=ls.drop 1∧p1=p+1∧1≤ls.length:=by
 unfold sepP at h
 split at h
 ·cases h
 ·rename_i s r0 hn
  have:=Zhp hn
  subst this
  split at h
  ·cases h
   exact⟨rfl,rfl,by simp⟩
  ·cases h
theorem Zec {k p p1:Nat} {ls r:List (List UInt8)} {h:Hk} (hh:hkK k p ls=.ok (h,p1,r)):∃ j,r=ls.drop j∧p1=p+j∧1≤j∧j≤ls.length∧k≠4096:=by
 unfold hkK at hh
 split at hh
 ·cases hh
 ·rename_i s r0 hn
  have:=Zhp hn
  subst this
  split at hh
  ·cases hh
  ·split at hh
   ·cases hh
   ·rename_i hk
    split at hh
    ·cases hh
    ·rename_i l1 q1 r1 h1
     obtain⟨j1,b1,b2,b3⟩:=ZjV h1
     split at hh
     ·cases hh
     ·rename_i q2 r2 h2
      have hs:∃ j,r2=r1.drop j∧q2=q1+j∧j≤r1.length:=(by
       split at h2
       ·obtain⟨c1,c2,c3⟩:=Zkb h2
        exact⟨1,c1,c2,c3⟩
       ·cases h2
        exact⟨0,rfl,rfl,Nat.zero_le _⟩)
      obtain⟨j2,c1,c2,c3⟩:=hs
      split at hh
      ·cases hh
      ·rename_i l2 q3 r3 h3
       obtain⟨j3,d1,d2,d3⟩:=ZjV h3
       cases hh
       subst d1 c1 b1
       simp only[List.length_drop] at c3 d3
       refine⟨1+(j1+(j2+j3)),?_,by omega,by omega,by simp only[List.length_cons];omega,hk⟩
       rw[List.drop_drop,List.drop_drop,Nat.add_comm 1,List.drop_succ_cons]
theorem Zix {ls:List (List UInt8)} (h:Plain ls) (j:Nat):Plain (ls.drop j):=fun x hx=>h x (List.mem_of_mem_drop hx)
theorem ZfV (p:Nat) (r:List (List UInt8)):nxt p (markT::r)=.ok (markT.dropLast,r):=rfl
theorem ZfR:cmdP markT.dropLast=none:=by decide +kernel
theorem ZfW (p:Nat) (r:List (List UInt8)):sepP p (markT::r)=.error (p+1,3):=by
 unfold sepP
 rw[ZfV]
 rfl
theorem ZfT (k p:Nat) (r:List (List UInt8)):hkK k p (markT::r)=.error (p+1,3)∧hkP k p (markT::r)=.error (p+1,3):=by
 unfold hkK hkP
 rw[ZfV]
 dsimp only
 rw[ZfR]
 exact⟨rfl,rfl⟩
theorem Zef {k p:Nat} {ls:List (List UInt8)} (hP:Plain ls) (hk:k≤4096):hkP k p ls=hkK k p ls∨∃ h p1 r,hkK k p ls=.ok (h,p1,markT::r)∧hkP k p ls=.error (p1+1,3):=by
 unfold hkP hkK
 cases hn:nxt p ls with
 | error e=>left;rfl
 | ok z =>
  obtain⟨s,r⟩:=z
  dsimp only
  have hls:=Zhp hn
  subst hls
  have hPr:Plain r:=fun x hx=>hP x (by simp[hx])
  cases hc:cmdP s with
  | none=>left;rfl
  | some z =>
   obtain⟨A,AN,B,BN⟩:=z
   dsimp only
   by_cases hk2:k=4096
   ·left
    rw[if_pos (by omega),if_pos hk2]
   ·rw[if_neg (by omega),if_neg hk2]
    have hr:=ZbI hc
    rcases @Zkk [60,32] 45 AN.toNat (p+1) r hPr with h1 | ⟨l,q,r',h1,h2⟩
    ·rw[h1]
     cases hs:sdC [60,32] 45 AN.toNat (p+1) r with
     | error e=>left;rfl
     | ok z =>
      obtain⟨l1,p1,r1⟩:=z
      dsimp only
      obtain⟨j,b1,_,_⟩:=ZjV hs
      have hP1:Plain r1:=by rw[b1];exact Zix hPr j
      cases hp:(if 0<AN∧0<BN then sepP p1 r1 else Except.ok (p1,r1)) with
      | error e=>left;rfl
      | ok z =>
       obtain⟨p2,r2⟩:=z
       dsimp only
       have hP2:Plain r2:=(by
        split at hp
        ·obtain⟨c1,_,_⟩:=Zkb hp
         rw[c1]
         exact Zix hP1 1
        ·cases hp
         exact hP1)
       rcases @Zkk [62,32] 43 BN.toNat p2 r2 hP2 with h3 | ⟨l,q,r',h3,h4⟩
       ·left
        rw[h3]
        cases sdC [62,32] 43 BN.toNat p2 r2<;>rfl
       ·right
        rw[h3,h4]
        exact⟨_,_,_,rfl,rfl⟩
    ·rw[h1,h2]
     dsimp only
     by_cases hb:0<AN∧0<BN
     ·left
      rw[if_pos hb,ZfW]
     ·rw[if_neg hb]
      dsimp only
      have hBN:BN.toNat=0:=(by
       have hA:AN.toNat≠0:=(by
        intro h0
        rw[h0] at h2
        cases h2)
       omega)
      rw[hBN,ZjY]
      right
      exact⟨_,_,_,rfl,rfl⟩
theorem Zek (f:Nat):∀ {k p:Nat} {ls:List (List UInt8)},Plain ls→ls.length≤f→k≤4096→hksP f k p ls=hksK f k p ls:=by
 induction f with
 | zero=>intros;rfl
 | succ f ih =>
  intro k p ls hP hf hk
  simp only[hksP,hksK]
  by_cases h0:ls=[]
  ·rw[if_pos h0,if_pos h0]
  ·rw[if_neg h0,if_neg h0]
   rcases @Zef k p ls hP hk with h | ⟨h,p1,r,h1,h2⟩
   ·rw[h]
    cases hc:hkK k p ls with
    | error e=>rfl
    | ok z =>
     obtain⟨h',p1,r⟩:=z
     obtain⟨j,b1,b2,b3,b4,b5⟩:=Zec hc
     dsimp only
     rw[@ih (k+1) p1 r (by rw[b1];exact Zix hP j) (by rw[b1,List.length_drop];omega) (by omega)]
     cases hksK f (k+1) p1 r<;>rfl
   ·rw[h1,h2]
    dsimp only
    obtain⟨j,b1,b2,b3,b4,b5⟩:=Zec h1
    have hl:(markT::r).length≤f:=by rw[b1,List.length_drop];omega
    cases f with
    | zero=>simp at hl
    | succ f =>
     simp only[hksK]
     rw[if_neg (by simp),(ZfT (k+1) p1 r).1]
theorem ZiF (t:List UInt8):prsT t=if 1048576<t.length then .error (0,9) else hksK (splitL t).length 0 0 (splitL t):=by
 unfold prsT
 split
 ·rfl
 ·exact Zek _ (Zkx t) (Nat.le_refl _) (by omega)
end

section
open Go.RowKit
attribute [local go_sem] ByteArray.extract_mk Zhc
structure Fr (B R:Nat) (w w':World):Prop where
 os:w'.os=w.os
 tape:w'.tape=w.tape
 output:w'.output=w.output
 size:w.heap.size≤w'.heap.size
 block:∀ k,k<B→k≠R→w'.heap[k]?=w.heap[k]?
theorem Fr.refl (B R:Nat) (w:World):Fr B R w w:=⟨rfl,rfl,rfl,Nat.le_refl _,fun _ _ _=>rfl⟩
theorem Fr.trans {B R:Nat} {w u v:World} (h:Fr B R w u) (h':Fr B R u v):Fr B R w v:=⟨h'.os.trans h.os,h'.tape.trans h.tape,h'.output.trans h.output,Nat.le_trans h.size h'.size,fun k h1 h2=>(h'.block k h1 h2).trans (h.block k h1 h2)⟩
theorem Fr.of {B R:Nat} {w u:World} (h:w.grownBy u (some R)) (hB:B≤w.heap.size):Fr B R w u:=⟨h.os,h.tape,h.output,h.size,fun k h1 h2=>h.block k (Nat.lt_of_lt_of_le h1 hB) (fun e=>h2 (Option.some.inj e))⟩
theorem Fr.own {B R:Nat} {w u:World} {g:Option Nat} (h:w.grownBy u g) (hB:B≤w.heap.size) (hg:∀ j,g=some j→B≤j):Fr B R w u:=⟨h.os,h.tape,h.output,h.size,fun k h1 _=>h.block k (Nat.lt_of_lt_of_le h1 hB) (fun e=>by have:=hg k e.symm;omega)⟩
theorem Fr.low {B R:Nat} {w u:World} (h:Below w.heap.size w u) (hB:B≤w.heap.size):Fr B R w u:=Fr.of (ZfO h _) hB
theorem Fr.grown {R:Nat} {w u:World} (h:Fr w.heap.size R w u):w.grownBy u (some R):=⟨h.os,h.tape,h.output,h.size,fun k h1 h2=>h.block k h1 (fun e=>h2 (by rw[e]))⟩
def SpQ (R:Nat) (vL:Value) (X:Except (Nat × Int) (Nat × List (List UInt8))) (w:World) (x:Ending) (w':World):Prop :=
 match X with
 | .error (a,e)=>Thr (a:Int) e x w'∧w.grownBy w' (some R)
 | .ok (p1,_)=>x=.returned (.tuple #[])∧Ry w' R vL (p1:Int)∧w.grownBy w' (some R)
theorem ZgO {R:Nat} {L:List (List UInt8)} {lo:Option Addr} {lc:Nat} {p:Nat} (w:World) (q:Ry w R (.slice lo L.length lc) p) (hL:HS w (.slice lo L.length lc) L) (hp:p≤L.length) (hLl:L.length≤2199023255552) (hs:∀ s∈L,s.length≤1099511627776)
  (X:Except (Nat × Int) (Nat × List (List UInt8))) (HX:Hid (sepP p (L.drop p)=X)) :
  Calls Tryz.prog 320 #[.pointer (some ⟨R,0,none⟩)] w fun x w'=>SpQ R (.slice lo L.length lc) X w x w':=by
 obtain⟨Y,hY⟩:∃ Y,nxt p (L.drop p)=Y:=⟨_,rfl⟩
 have hl:=ZgX w q hL hp hLl hs Y hY
 have hX:=HX.out
 clear HX
 unfold sepP at hX
 rw[hY] at hX
 cases Y with
 | error z =>
  obtain⟨a,e⟩:=z
  dsimp only at hX
  subst hX
  go_enter Tryz.func320,Tryz.ntmps320
  go_wp2_with fail
  refine hl.mono ?_
  rintro x w1 ⟨⟨g,rfl,hg⟩,hgr⟩
  go_wp2
  exact⟨rfl,⟨_,rfl,hg⟩,hgr⟩
 | ok z =>
  obtain⟨s,r⟩:=z
  dsimp only at hX
  by_cases h:s=[45,45,45]
  ·rw[if_pos h] at hX
   subst hX h
   go_enter Tryz.func320,Tryz.ntmps320
   go_wp2_with fail
   refine hl.mono ?_
   rintro x w1 ⟨rfl,n,rfl⟩
   have q1:=q.dN n
   have g1:=ZdP (ZfO (Below.refl w.heap.size w) (some R)) n
   generalize w.drewN n=W1 at q1 g1 ⊢
   obtain⟨c0,c1⟩:=q1.cells
   have f1:=q1.frozen 1
   have HQ:Hid (Ry (W1.setCell ⟨R,1,none⟩ (.int .i64 ((p:Int)+1))) R (.slice lo L.length lc) (((p+1:Nat)):Int)∧w.grownBy (W1.setCell ⟨R,1,none⟩ (.int .i64 ((p:Int)+1))) (some R)):=⟨by have:=q1.at ((p:Int)+1);simpa using this,ZdT g1 (ZdS W1 R 1 _)⟩
   clear q q1 g1 hl hY
   go_wp2
   first
    | go_end0
    | refine bodyPost_ret (results_none rfl _ _ _) rfl ?_
    | refine bodyPost_end (results_none rfl _ _ _) rfl ?_
   exact⟨rfl,HQ.out⟩
  ·rw[if_neg h] at hX
   subst hX
   have hne:(s++[10] == [45,45,45,10])=false:=(by
    rw[beq_eq_false_iff_ne]
    intro e
    have e2:s++[10]=[45,45,45]++[10]:=e
    exact h (List.append_cancel_right e2))
   have q1:=fun n=>q.dN n
   have g1:=fun n=>ZdP (ZfO (Below.refl w.heap.size w) (some R)) n
   go_enter Tryz.func320,Tryz.ntmps320
   go_wp2_with fail
   refine hl.mono ?_
   rintro x w1 ⟨rfl,n,rfl⟩
   go_wp2_with fail
   refine (Zhi 3 _ (q1 n) (by omega)).mono ?_
   rintro e w3 ⟨⟨g,rfl,hg⟩,hgr⟩
   go_wp2
   exact⟨rfl,⟨_,rfl,by simpa using hg⟩,ZdT (g1 n) hgr⟩
end

section
open Go.RowKit
attribute [local go_sem] ByteArray.extract_mk Zhc
theorem Zim {L:List (List UInt8)} (hP:Plain L) {p:Nat} (h:p<L.length):pkM (L.drop p)=(L[p] == markT):=by
 rw[List.drop_eq_getElem_cons h]
 unfold pkM
 rw[Bool.eq_iff_iff,beq_iff_eq]
 constructor
 ·intro q
  exact ZfS (hP _ (List.getElem_mem h)) q
 ·intro q
  rw[q]
  show markT.isPrefixOf markT=true
  decide
theorem ZgP {R g o:Nat} {L:List (List UInt8)} {lo:Option Addr} {lc:Nat} {p:Nat} (w:World) (q:Ry w R (.slice lo L.length lc) p) (hL:HS w (.slice lo L.length lc) L) (hPl:Plain L) (hp:p≤L.length) (hLl:L.length≤2199023255552)
  (t:List UInt8) (ct:w.cell? ⟨g,o+1,none⟩=some (.string ⟨t.toArray⟩)) (HB:Hid ((t != [10] && pkM (L.drop p))=false)) :
  Calls Tryz.prog 340 #[.pointer (some ⟨R,0,none⟩),.pointer (some ⟨g,o,none⟩)] w fun x w'=>x=.returned (.tuple #[])∧∃ n,w'=w.drewN n:=by
 obtain⟨c0,c1⟩:=q.cells
 by_cases ht:t=[10]
 ·subst ht
  clear HB hL q
  go_enter Tryz.func340,Tryz.ntmps340
  go_wp2_with fail
  go_quiet (fail)
  go_wp2
  first
   | go_end0
   | refine bodyPost_ret (results_none rfl _ _ _) rfl ?_
   | refine bodyPost_end (results_none rfl _ _ _) rfl ?_
  exact⟨rfl,_,rfl⟩
 ·have e1:(t == [10])=false:=beq_eq_false_iff_ne.2 ht
  by_cases hlt:p<L.length
  ·have hm:(L[p] == markT)=false:=(by
    have h:=HB.out
    rw[Zim hPl hlt] at h
    have:(t != [10])=true:=bne_iff_ne.2 ht
    rw[this,Bool.true_and] at h
    exact h)
   obtain⟨bk,off,rfl,hbk,hcl⟩:=HS.at hL (by omega)
   have d4:=hcl p hlt
   generalize L[p]=s at d4 hm
   have hm2:(s == [92,32,78,111,32,110,101,119,108,105,110,101,32,97,116,32,101,110,100,32,111,102,32,102,105,108,101,10])=false:=hm
   have hm3:(s != [92,32,78,111,32,110,101,119,108,105,110,101,32,97,116,32,101,110,100,32,111,102,32,102,105,108,101,10])=true:=(by unfold bne;rw[hm2];rfl)
   have e0:((p:Int) == (L.length:Int))=false:=beq_eq_false_iff_ne.2 (by omega)
   clear HB hL q hcl hm hPl
   have i1:(0:Int)≤(p:Int):=by omega
   have i2:(p:Int)<(L.length:Int):=by omega
   have i3:(p:Int).toNat=p:=by omega
   go_enter Tryz.func340,Tryz.ntmps340
   go_wp2_with fail
   go_quiet (fail)
   go_wp2
   first
    | go_end0
    | refine bodyPost_ret (results_none rfl _ _ _) rfl ?_
    | refine bodyPost_end (results_none rfl _ _ _) rfl ?_
   exact⟨rfl,_,rfl⟩
  ·have e0:((p:Int) == (L.length:Int))=true:=beq_iff_eq.2 (by omega)
   clear HB hL q hPl
   go_enter Tryz.func340,Tryz.ntmps340
   go_wp2_with fail
   go_quiet (fail)
   go_wp2
   first
    | go_end0
    | refine bodyPost_ret (results_none rfl _ _ _) rfl ?_
    | refine bodyPost_end (results_none rfl _ _ _) rfl ?_
   exact⟨rfl,_,rfl⟩
theorem ZgQ {R g o:Nat} {L:List (List UInt8)} {lo:Option Addr} {lc:Nat} {p:Nat} (w:World) (q:Ry w R (.slice lo L.length lc) p) (hL:HS w (.slice lo L.length lc) L) (hPl:Plain L) (hLl:L.length≤2199023255552) (hgR:R≠g)
  (T t:List UInt8) (HTt:Hid (T=t++[10])) (htl:T.length≤1099511627776) (ct:w.cell? ⟨g,o+1,none⟩=some (.string ⟨T.toArray⟩)) (cf:w.frozen? ⟨g,o+1,none⟩=false) (HB:Hid ((T != [10] && pkM (L.drop p))=true)) :
  Calls Tryz.prog 340 #[.pointer (some ⟨R,0,none⟩),.pointer (some ⟨g,o,none⟩)] w fun x w'=>x=.returned (.tuple #[])∧∃ n,w'=((w.drewN n).setCell ⟨g,o+1,none⟩ (.string ⟨t.toArray⟩)).setCell ⟨R,1,none⟩ (.int .i64 ((p:Int)+1)):=by
 obtain⟨c0,c1⟩:=q.cells
 have hb:=HB.out
 rw[Bool.and_eq_true] at hb
 have hlt:p<L.length:=(by
  by_cases h:p<L.length
  ·exact h
  ·have e:L.drop p=[]:=List.drop_eq_nil_of_le (by omega)
   rw[e] at hb
   cases hb.2)
 have e1:(T == [10])=false:=(by
  have:=bne_iff_ne.1 hb.1
  exact beq_eq_false_iff_ne.2 this)
 have hm:L[p]=markT:=(by
  have h:=hb.2
  rw[Zim hPl hlt,beq_iff_eq] at h
  exact h)
 obtain⟨bk,off,rfl,hbk,hcl⟩:=HS.at hL (by omega)
 have d4:=hcl p hlt
 rw[hm] at d4
 have e0:((p:Int) == (L.length:Int))=false:=beq_eq_false_iff_ne.2 (by omega)
 have f1:=q.frozen 1
 have HTS:Hid (Lib.trimSuffix T [10]=t):=(by
  show _=_
  rw[HTt.out]
  unfold Lib.trimSuffix
  rw[ZkK,if_pos (Zdf t)]
  simp)
 unfold markT at d4
 clear HB hL q hcl hm hPl hb
 have i1:(0:Int)≤(p:Int):=by omega
 have i2:(p:Int)<(L.length:Int):=by omega
 have i3:(p:Int).toNat=p:=by omega
 go_enter Tryz.func340,Tryz.ntmps340
 go_wp2_with fail
 go_quiet (fail)
 go_wp2_with fail
 have c1':(w.drewN nq).cell? ⟨R,1,none⟩=_:=c1
 have ct':(w.drewN nq).cell? ⟨g,o+1,none⟩=_:=ct
 have cf':(w.drewN nq).frozen? ⟨g,o+1,none⟩=false:=cf
 have f1':(w.drewN nq).frozen? ⟨R,1,none⟩=false:=f1
 have HM:Hid (∃ k,w.drewN nq=w.drewN k):=⟨_,rfl⟩
 clear c0 c1 d4 ct cf f1
 generalize w.drewN nq=W1 at c1' ct' cf' f1' HM ⊢
 refine (Tryz.strings_TrimSuffix ⟨T.toArray⟩ ⟨#[10]⟩ W1 (by show T.length≤_;omega)).mono ?_
 rintro e w2 ⟨rfl,rfl⟩
 have e2:Lib.trimSuffix (⟨T.toArray⟩:ByteArray).data.toList (⟨#[10]⟩:ByteArray).data.toList=t:=HTS.out
 rw[e2]
 clear e2
 have c1'':(w2.setCell ⟨g,o+1,none⟩ (.string ⟨t.toArray⟩)).cell? ⟨R,1,none⟩=some (.int .i64 (p:Int)):=(by
  have h:=(ZdS w2 g (o+1) (.string ⟨t.toArray⟩)).cell c1' (fun e=>hgR (Option.some.inj e))
  exact h)
 have f1'':(w2.setCell ⟨g,o+1,none⟩ (.string ⟨t.toArray⟩)).frozen? ⟨R,1,none⟩=false:=(by
  unfold World.frozen? at f1' ⊢
  dsimp only at f1' ⊢
  rw[Below.heap_setCell _ _ _ R hgR]
  exact f1')
 go_wp2
 first
  | go_end0
  | refine bodyPost_ret (results_none rfl _ _ _) rfl ?_
  | refine bodyPost_end (results_none rfl _ _ _) rfl ?_
 obtain⟨k,hk⟩:=HM.out
 exact⟨rfl,k,by rw[← hk]⟩
end

section
open Go.RowKit
attribute [local go_sem] ByteArray.extract_mk Zhc
theorem ZhI {w u:World} {B R:Nat} {e:TypeId} {s:Nat} {v:Value} {n:Nat} {xs:List Value} (h:w.ownsRow B e s v n xs) (hg:w.grownBy u (some R)) (hR:R<B):u.ownsRow B e s v n xs:=by
 refine⟨h.1,?_⟩
 rcases h.2 with q | ⟨g,cap,cur,rfl,q2,q3,q4⟩
 ·exact .inl q
 ·refine .inr ⟨g,cap,cur,rfl,q2,?_,q4⟩
  rw[hg.block g (Array.getElem?_eq_some_iff.1 q3).1 (fun e=>by cases e;omega)]
  exact q3
theorem ZhL {w:World} {B:Nat} {v:Value} {l:List Mk} {m:Mk} (h:w.ownsRow B 47 2 v (l.length+1) (mkcells (l++[m]))):∃ g cap,v=.slice (some ⟨g,0,none⟩) (l.length+1) cap∧B≤g∧g<w.heap.size∧w.cell? ⟨g,l.length * 2+1,none⟩=some (.string ⟨m.tx.toArray⟩)∧w.frozen? ⟨g,l.length * 2+1,none⟩=false ∧
  ∀ (u:World) (t:List UInt8),u.heap[g]?=w.heap[g]?→(u.setCell ⟨g,l.length * 2+1,none⟩ (.string ⟨t.toArray⟩)).ownsRow B 47 2 v (l.length+1) (mkcells (l++[⟨m.sg,t⟩])):=by
 rcases h.2 with ⟨_,q⟩ | ⟨g,cap,cur,rfl,q2,q3,q4,q5,q6,q7⟩
 ·omega
 ·have hmk:∀ x:Mk,mkcells (l++[x])=mkcells l++[.int .u8 x.sg,.string ⟨x.tx.toArray⟩]:=fun x=>by rw[Zgl];rfl
  have hl:=Zgo l
  have hcur:cur.toList.take ((l.length+1) * 2)=mkcells l++[.int .u8 m.sg,.string ⟨m.tx.toArray⟩]:=by rw[q7,hmk]
  have hcell:cur[l.length * 2+1]?=some (.string ⟨m.tx.toArray⟩):=by
   have h1:(cur.toList.take ((l.length+1) * 2))[l.length * 2+1]?=some (.string ⟨m.tx.toArray⟩):=by
    rw[hcur,List.getElem?_append_right (by omega),hl]
    have:l.length * 2+1-l.length * 2=1:=by omega
    rw[this]
    rfl
   rw[List.getElem?_take_of_lt (by omega)] at h1
   simpa using h1
  refine⟨g,cap,rfl,q2,(Array.getElem?_eq_some_iff.1 q3).1,?_,Lib.frozen_of_heap q3 _,?_⟩
  ·rw[Lib.cell_of_heap q3]
   exact hcell
  ·intro u t hu
   have hs:=heap_setCell_same u g (l.length * 2+1) cur _ (.string ⟨t.toArray⟩) (hu.trans q3)
   refine⟨by rw[Zgo];simp,.inr ⟨g,cap,_,rfl,q2,hs,q4,q5,by simpa using q6,?_⟩⟩
   rw[hmk]
   have e1:(cur.setIfInBounds (l.length * 2+1) (.string ⟨t.toArray⟩)).toList=cur.toList.set (l.length * 2+1) (.string ⟨t.toArray⟩):=by simp
   rw[e1,List.take_set,hcur,List.set_append_right _ _ (by omega),hl]
   have:l.length * 2+1-l.length * 2=1:=by omega
   rw[this]
   rfl
theorem ZiE {sg s:List UInt8} (h:∀ c∈sg,c≠10):Lib.hasPrefix (s++[10]) sg=sg.isPrefixOf s:=by
 unfold Lib.hasPrefix
 rw[Bool.eq_iff_iff,List.isPrefixOf_iff_prefix,List.isPrefixOf_iff_prefix]
 constructor
 ·intro hp
  have hp2:=List.prefix_iff_eq_take.1 hp
  by_cases hl:sg.length≤s.length
  ·rw[List.take_append_of_le_length hl] at hp2
   exact List.prefix_iff_eq_take.2 hp2
  ·exfalso
   have h3:(s++[10]).take sg.length=s++[10]:=List.take_of_length_le (by simp;omega)
   rw[h3] at hp2
   exact h 10 (by rw[hp2];simp) rfl
 ·rintro⟨t,rfl⟩
  exact⟨t++[10],by simp⟩
theorem ZkU {sg s:List UInt8} (h:∀ c∈sg,c≠10) (hp:sg.isPrefixOf s=true):Lib.trimPrefix (s++[10]) sg=s.drop sg.length++[10]:=by
 unfold Lib.trimPrefix
 rw[ZiE h,if_pos hp,List.drop_append_of_le_length]
 exact (List.isPrefixOf_iff_prefix.1 hp).length_le
def SdQ (B R:Nat) (vL:Value) (m0:List Mk) (X:Except (Nat × Int) (List Mk × Nat × List (List UInt8))) (w:World) (x:Ending) (w':World):Prop :=
 match X with
 | .error (a,e)=>Thr (a:Int) e x w'∧Fr B R w w'
 | .ok (l,p1,_)=>∃ v',x=.returned v'∧w'.ownsRow B 47 2 v' (m0++l).length (mkcells (m0++l))∧Ry w' R vL (p1:Int)∧Fr B R w w'
def thenL (m:List Mk) (X:Except (Nat × Int) (List Mk × Nat × List (List UInt8))):Except (Nat × Int) (List Mk × Nat × List (List UInt8)) :=
 match X with
 | .error e=>.error e
 | .ok (l,p1,r)=>.ok (m++l,p1,r)
theorem ZkM (X:Except (Nat × Int) (List Mk × Nat × List (List UInt8))):thenL [] X=X:=by
 unfold thenL
 rcases X with e | ⟨l,p,r⟩<;>rfl
theorem Zjb {sg:List UInt8} {S:Int} {n p:Nat} {ls r:List (List UInt8)} {s:List UInt8} (h:nxt p ls=.ok (s,r)) (m:List Mk):thenL m (rdL sg S (n+1) p ls)=if sg.isPrefixOf s=true then thenL (m++[⟨S,s.drop sg.length++[10]⟩]) (rdL sg S n (p+1) r) else .error (p+1,3):=by
 simp only[rdL]
 rw[h]
 dsimp only
 split
 ·cases rdL sg S n (p+1) r with
  | error e=>rfl
  | ok z=>simp[thenL]
 ·rfl
theorem Zhr {p:Nat} {L r:List (List UInt8)} {s:List UInt8} (h:nxt p (L.drop p)=.ok (s,r)):r=L.drop (p+1)∧p<L.length∧∃ hp:p<L.length,L[p]=s++[10]:=by
 have h1:=Zhp h
 have hp:p<L.length:=by
  by_cases h2:p<L.length
  ·exact h2
  ·rw[List.drop_eq_nil_of_le (by omega)] at h1
   cases h1
 have h3:=List.drop_eq_getElem_cons hp
 rw[h3] at h1
 injection h1 with h4 h5
 exact⟨h5.symm,hp,hp,h4⟩
end

end Go.Proofs.YtcniomgjikienaaGreatDoor
