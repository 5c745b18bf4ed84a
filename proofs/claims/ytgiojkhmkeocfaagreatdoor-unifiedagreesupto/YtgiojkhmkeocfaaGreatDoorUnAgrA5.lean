/-
  Texts that belong together, joined: MiMs, MiFr, MiLc, MiRep, MiKp, MiKw, MiDf, MiKm, PcMath, HiMath, HiRuns, EdOpen, HiMp, PcSl, HiGr, HiCm, HiOd, HiBm, HuCn, HuOne, HuCh.
-/
import Derived.Test.YtgiojkhmkeocfaaGreatDoorUnAgrA4
import Derived.Sort.AtCall
import Derived.Laws.CopyOwn
import Derived.Laws.Bits64b
import Derived.Test.YtgiojkhmkeocfaaGreatDoorRows
import Derived.Test.YtgiojkhmkeocfaaGreatDoorChecked
import Derived.ProofKit
import Derived.OpenShut
import Derived.ShutString
import Derived.ChangeOld
import Derived.Below
import Derived.SliceStrings
import Derived.ChangeSlices
import Derived.Deep.Slices
import Derived.Deep.SlicePairs
import Derived.JoinedCond
import Derived.Maps.OwnSet
import Derived.Carry
import Derived.Maps.OwnRows
import Derived.Maps.GroupsBeside
import Derived.Deep.CutRange

set_option maxHeartbeats 16000000
set_option maxRecDepth 100000
namespace Go.Proofs.YtgiojkhmkeocfaaGreatDoor

section
open Go.RowKit
theorem ZiG {W i j i' j':Nat} (hj:j<W) (hj':j'<W) (h:i * W+j=i' * W+j'):i=i'∧j=j':=by
 have h1:(i * W+j) / W=i:=by rw[Nat.mul_comm,Nat.mul_add_div (by omega),Nat.div_eq_of_lt hj,Nat.add_zero]
 have h2:(i' * W+j') / W=i':=by rw[Nat.mul_comm,Nat.mul_add_div (by omega),Nat.div_eq_of_lt hj',Nat.add_zero]
 have h3:i=i':=by rw[← h1,← h2,h]
 subst h3
 exact⟨rfl,by omega⟩
theorem ZiH {W i j n:Nat} (hj:j<W) (hi:i≤n):i * W+j<(n+1) * W:=by
 have:i * W≤n * W:=Nat.mul_le_mul_right _ hi
 rw[Nat.succ_mul]
 omega
def Done (x y:List Int) (k c:Nat) (Y:List Value):Prop:=∀ i j,i≤x.length→j≤y.length→(k<i∨(i=k∧c≤j)∨j=y.length)→Y[i * (y.length+1)+j]?=some (.int .i16 ((ln x y i j:Nat):Int))
theorem Done.start (x y:List Int) (N:Nat) (hN:N=(x.length+1) * (y.length+1)):Done x y x.length 0 (List.replicate N (.int .i16 0)):=by
 intro i j hi hj h
 rw[Zkm x y i j (by omega),List.getElem?_replicate,if_pos (by rw[hN];exact ZiH (by omega) hi)]
 rfl
theorem Done.next {x y:List Int} {i:Nat} {Y:List Value} (h:Done x y (i+1) 0 Y):Done x y i y.length Y:=by
 intro i' j' hi hj hc
 exact h i' j' hi hj (by omega)
theorem Done.set {x y : List Int} {i j : Nat} {Y : List Value} (h : Done x y i (j + 1) Y) (hi : i ≤ x.length) (hj : j < y.length) (hY : Y.length = (x.length + 1) * (y.length + 1)) (p : Nat) (hp : p = i * (y.length + 1) + j) (v : Int) (hv : v = ((ln x y i j : Nat) : Int)) : Done x y i j (Y.set p (.int .i16 v)) := by
  intro i' j' hi' hj' hc
  subst hp hv
  by_cases e : i' * (y.length + 1) + j' = i * (y.length + 1) + j
  · obtain ⟨rfl, rfl⟩ := ZiG (by omega) (by omega) e
    rw [List.getElem?_set_self]
    rw [hY]
    exact ZiH (by omega) hi
  · rw [List.getElem?_set_ne (fun h => e h.symm)]
    refine h i' j' hi' hj' ?_
    rcases hc with hc | ⟨rfl, hc⟩ | hc
    · exact .inl hc
    · exact .inr (.inl ⟨rfl, by by_cases q : j' = j; · subst q; exact absurd rfl e
                                · omega⟩)
    · exact .inr (.inr hc)
structure Bx (b W g N:Nat) (wr w:World):Prop where
 box:w.heap[b]?=some (Obj.cells #[.int .i64 (W:Int),.slice (some ⟨g,0,none⟩) N N] 277 (0,0))
 low:Below wr.heap.size wr w
theorem Bx.cells {b W g N:Nat} {wr w:World} (h:Bx b W g N wr w):w.cell? ⟨b,0,none⟩=some (.int .i64 (W:Int))∧w.cell? ⟨b,1,none⟩=some (.slice (some ⟨g,0,none⟩) N N):=⟨by rw[Lib.cell_of_heap h.box];rfl,by rw[Lib.cell_of_heap h.box];rfl⟩
theorem ZbI (b W g N:Nat) (wr w:World):Bx b W g N wr w.drew↔Bx b W g N wr w:=⟨fun h=>⟨h.box,⟨h.low.os,h.low.tape,h.low.output,h.low.size,h.low.block⟩⟩,fun h=>⟨h.box,Below.dN h.low 1⟩⟩
theorem Bx.keep {b W g N:Nat} {wr w w':World} (h:Bx b W g N wr w) (hb:Below w.heap.size w w'):Bx b W g N wr w':=⟨(hb.block b (Array.getElem?_eq_some_iff.1 h.box).1).trans h.box,h.low.trans (hb.mono h.low.size)⟩
theorem ZbJ {P:Program} {f:FuncId} {args:Array Value} {v:Value} {w:World} (h:Calls P f args w fun e w'=>e=.returned v∧Below w.heap.size w w') (b W g N:Nat) (wr:World) (hS:Bx b W g N wr w) :
  Calls P f args w fun e w'=>e=.returned v∧w'.cell? ⟨b,0,none⟩=some (.int .i64 (W:Int))∧w'.cell? ⟨b,1,none⟩=some (.slice (some ⟨g,0,none⟩) N N)∧Bx b W g N wr w':=by
 refine h.mono ?_
 rintro e w' ⟨rfl,hb⟩
 have hS':=hS.keep hb
 exact⟨rfl,hS'.cells.1,hS'.cells.2,hS'⟩
attribute [local simp] ZbI
theorem ZqH (N:Nat) (hN:N≤1099511627776) (W:World) :
  (Instr.makeSlice 275 (.int .i64 (N:Int)) (.int .i64 (N:Int))).run Tryz.prog W=.ok (.slice (some ⟨W.heap.size,0,none⟩) N N) (W.alloc (.cells (madeCells #[.int .i16 0] N) 305)):=by
 obtain⟨i0,hi,hz0,hzs,hz2⟩:=info_parts info16
 have h1:i0.bytes * N≤2 * 1099511627776:=by rw[hz2];exact Nat.mul_le_mul_left _ hN
 have hr:=run_make (P:=Tryz.prog) W 275 305 i0 _ Tryz.underlying275 hi hz0 .i64 .i64 (N:Int) (N:Int) (by omega) (Int.le_refl _) (by
  have:((i0.bytes * N:Nat):Int)≤281474976710656:=by omega
  rwa [Int.natCast_mul] at this) (by omega)
 simpa [hzs,Value.cells] using hr
theorem made16 (N:Nat):(madeCells #[.int .i16 0] N).toList=List.replicate N (.int .i16 0):=by
 apply List.ext_getElem
 ·simp[madeCells]
 ·intro i h1 h2
  simp[madeCells,Nat.mod_one]
theorem Zrs {W:World} {b:Nat} {t:TypeId} {a0 a1:Value} (h:W.heap[b]?=some (Obj.cells #[a0,a1] t (0,0))) (v:Value):(W.setCell ⟨b,0,none⟩ v).heap[b]?=some (Obj.cells #[v,a1] t (0,0)):=by
 obtain⟨hlt,hk⟩:=Array.getElem?_eq_some_iff.1 h
 show (W.heap.modify b _)[b]?=_
 rw[Array.getElem?_eq_getElem (by rw[Array.size_modify];exact hlt),Array.getElem_modify_self,hk]
 rfl
theorem Zrt {W:World} {b:Nat} {t:TypeId} {a0 a1:Value} (h:W.heap[b]?=some (Obj.cells #[a0,a1] t (0,0))) (v:Value):(W.setCell ⟨b,1,none⟩ v).heap[b]?=some (Obj.cells #[a0,v] t (0,0)):=by
 obtain⟨hlt,hk⟩:=Array.getElem?_eq_some_iff.1 h
 show (W.heap.modify b _)[b]?=_
 rw[Array.getElem?_eq_getElem (by rw[Array.size_modify];exact hlt),Array.getElem_modify_self,hk]
 rfl
theorem ZgY (W:World) (b:Nat) (v:Value):W.grownBy (W.setCell ⟨b,1,none⟩ v) (some b) :=
 ⟨rfl,rfl,rfl,by show W.heap.size≤(W.heap.modify b _).size;simp,fun i hi hne=>by
  show (W.heap.modify b _)[i]?=_
  rw[Array.getElem?_modify,if_neg (fun e=>hne (by rw[e]))]⟩
structure Ms (w:World) (M N:Nat) (Y:List Value) (wr:World):Prop where
 low:Below w.heap.size w wr
 res:wr.heap[w.heap.size]?=some (Obj.cells #[Value.int IntKind.i64 0,Value.slice none 0 0] 277 (0,0))
 own:wr.ownsRow w.heap.size 305 1 (.slice (some ⟨w.heap.size+1,0,none⟩) N N) N Y
 box:wr.heap[w.heap.size+1+1]?=some (Obj.cells #[.int .i64 (M:Int),.slice (some ⟨w.heap.size+1,0,none⟩) N N] 277 (0,0))
theorem Ms.keep {w:World} {M N:Nat} {Y:List Value} {wr w':World} (h:Ms w M N Y wr) (hb:Below wr.heap.size wr w'):Ms w M N Y w' :=
 ⟨h.low.trans (hb.mono h.low.size),(hb.block _ (Array.getElem?_eq_some_iff.1 h.res).1).trans h.res,ZnI h.own hb,(hb.block _ (Array.getElem?_eq_some_iff.1 h.box).1).trans h.box⟩
theorem Ms.bx {w:World} {M N:Nat} {Y:List Value} {wr:World} (h:Ms w M N Y wr):Bx (w.heap.size+1+1) M (w.heap.size+1) N wr wr:=⟨h.box,Below.refl _ _⟩
theorem Ms.store {w:World} {M N:Nat} {Y:List Value} {wr:World} (h:Ms w M N Y wr) (p:Nat) (v:Value):Ms w M N (Y.set p v) (wr.setCell ⟨w.heap.size+1,p,none⟩ v):=by
 obtain⟨p1,g1⟩:=h.own.stored p v
 refine⟨h.low.grown g1 h.low.size (fun j hj=>by cases hj;omega),?_,p1,?_⟩
 ·exact (g1.block _ (Array.getElem?_eq_some_iff.1 h.res).1 (fun e=>by have:=Option.some.inj e;omega)).trans h.res
 ·exact (g1.block _ (Array.getElem?_eq_some_iff.1 h.box).1 (fun e=>by have:=Option.some.inj e;omega)).trans h.box
theorem Ms.drewN {w:World} {M N:Nat} {Y:List Value} {wr:World} (h:Ms w M N Y wr) (n:Nat):Ms w M N Y (wr.drewN n):=⟨Below.dN h.low n,h.res,h.own,h.box⟩
theorem Ms.at {w:World} {M N:Nat} {Y:List Value} {wr:World} (h:Ms w M N Y wr) {x y:List Int} {k c i j p:Nat} (hd:Done x y k c Y) (hM:M=y.length+1) (hN:N=(x.length+1) * M) (hi:i≤x.length) (hj:j≤y.length) (hc:k<i∨(i=k∧c≤j)∨j=y.length) (hp:p=i * M):wr.cell? ⟨w.heap.size+1,p+j,none⟩=some (.int .i16 ((ln x y i j:Nat):Int)):=by
 have:=h.own.cellAt (p+j) (by rw[hp,hN,Nat.mul_one];exact ZiH (by omega) hi)
 rw[this,hp,hM]
 exact hd i j hi hj hc
theorem Zld (x y:List Int) (vx vy:Value) (w:World) (hx:HI w vx x) (hy:HI w vy y) (hxl:x.length≤4096) (hyl:y.length≤4096) (N M:Nat) (hM:Hid (M=y.length+1)) (hN:Hid (N=(x.length+1) * M)) :
  Calls Tryz.prog 230 #[vx,vy] w fun e w'=>∃ g Y,e=.returned (tabV M g N)∧w'.ownsRow w.heap.size 305 1 (.slice (some ⟨g,0,none⟩) N N) N Y∧Done x y 0 0 Y∧Below w.heap.size w w':=by
 obtain⟨xo,xc,rfl⟩:=Holds.form hx
 obtain⟨yo,yc,rfl⟩:=Holds.form hy
 have hNb:N≤4097 * 4097:=by rw[hN.out,hM.out];exact Nat.mul_le_mul (by omega) (by omega)
 have hMb:M≤4097:=by rw[hM.out];omega
 have hmk:=ZqH N (by omega)
 have hmul:((x.length:Int)+1) * (M:Int)=(N:Int):=by rw[hN.out];simp
 have hMi:(y.length:Int)+1=(M:Int):=by rw[hM.out];simp
 have hrow:=World.ownsRow_lit (base:=w.heap.size) (e:=305) (size:=1) (w.alloc (Obj.cells #[Value.int IntKind.i64 0,Value.slice none 0 0] 277)) (madeCells #[Value.int IntKind.i16 0] N) N (by simp) (by unfold maxLen;omega) (by rw[size_madeCells];omega)
 rw[made16,World.size_alloc] at hrow
 go_enter Tryz.func230,Tryz.ntmps230
 go_wp2
 go_loopw [7] (fun iv wr=>∃ (k:Nat) (z:Int) (Y:List Value),k≤x.length∧iv=.int .i64 z∧z+1=k∧Ms w M N Y wr∧Hid (Done x y k 0 Y)) (fun iv _=>(intOf iv+1).toNat)
 case atStart =>
  refine⟨x.length,(x.length:Int)-1,_,Nat.le_refl _,by go_num,by omega,⟨?_,?_,?_,?_⟩,Done.start x y N (by rw[hN.out,hM.out])⟩
  ·exact (((Below.refl _ w).alloc (Nat.le_refl _) _).alloc (by simp) _).alloc (by simp;omega) _
  ·exact (Below.heap_alloc _ _ _ (by simp;omega)).trans ((Below.heap_alloc _ _ _ (by simp)).trans (_root_.Go.heap_alloc_new w _))
  ·exact hrow.alloc _
  ·have:=_root_.Go.heap_alloc_new ((w.alloc (Obj.cells #[Value.int IntKind.i64 0,Value.slice none 0 0] 277)).alloc (Obj.cells (madeCells #[Value.int IntKind.i16 0] N) 305)) (Obj.cells #[Value.int IntKind.i64 (M:Int),Value.slice (some ⟨w.heap.size+1,0,none⟩) N N] 277)
   rw[World.size_alloc,World.size_alloc] at this
   exact this
 case round =>
  obtain⟨k,z,Y,hk,rfl,hz,hS,hD⟩:=hrel
  have HMI:Hid ((y.length:Int)+1=(M:Int)):=hMi
  clear hMi hmul hmk hrow
  cases k with
  | zero =>
   obtain rfl:z=-1:=by omega
   have d0:=hS.bx.cells.1
   have d1:=hS.bx.cells.2
   have g0:wr.cell? ⟨w.heap.size,0,none⟩=some (.int .i64 0):=by rw[Lib.cell_of_heap hS.res];rfl
   have g1:wr.cell? ⟨w.heap.size,1,none⟩=some (.slice none 0 0):=by rw[Lib.cell_of_heap hS.res];rfl
   have f0:wr.frozen? ⟨w.heap.size,0,none⟩=false:=Lib.frozen_of_heap hS.res 0
   have f1:wr.frozen? ⟨w.heap.size,1,none⟩=false:=Lib.frozen_of_heap hS.res 1
   go_wp2
   have q1:=Zrt (Zrs hS.res (Value.int IntKind.i64 (M:Int))) (Value.slice (some ⟨w.heap.size+1,0,none⟩) N N)
   have G1:=grownBy_setCell' wr w.heap.size (Value.int IntKind.i64 (M:Int))
   have hG:∀ u:World,Ms w M N Y wr→wr.grownBy u (some w.heap.size)→u.ownsRow w.heap.size 305 1 (.slice (some ⟨w.heap.size+1,0,none⟩) N N) N Y∧Below w.heap.size w u:=fun u h g=>⟨h.own.kept g (.inr (by simp[Value.ownBlock])),h.low.grown g h.low.size (fun j hj=>by cases hj;exact Nat.le_refl _)⟩
   refine bodyPost_ret (v:=tabV M (w.heap.size+1) N) ?_ rfl ⟨w.heap.size+1,Y,rfl,?_,hD.out,?_⟩
   ·exact results_cell_row rfl _ _ w.heap.size 277 #[Value.int IntKind.i64 (M:Int),Value.slice (some ⟨w.heap.size+1,0,none⟩) N N] (0,0) _ rfl q1 Tryz.underlying277 rfl (by kernel_rfl)
   ·exact (hG _ hS (G1.trans (ZgY _ _ _))).1
   ·exact (hG _ hS (G1.trans (ZgY _ _ _))).2
  | succ i =>
   obtain rfl:z=(i:Int):=by omega
   clear hz
   have hX:=hS.bx
   obtain⟨c0,c1⟩:=hX.cells
   obtain⟨p,hp⟩:∃ p,p=i * M:=⟨_,rfl⟩
   obtain⟨q,hq⟩:∃ q,q=p+M:=⟨_,rfl⟩
   have hpi:(i:Int) * (M:Int)=(p:Int):=by rw[hp];simp
   have hqi:((i:Int)+1) * (M:Int)=(q:Int):=by rw[hq,Int.add_mul,hpi];simp
   have hM0:0<M:=by rw[hM.out];omega
   have hqN:q≤N:=by
    rw[hq,hp,hN.out]
    have:=Nat.mul_le_mul_right M (show i+1≤x.length+1 by omega)
    rw[Nat.succ_mul] at this
    exact this
   have hqN2:q+M≤N:=by
    rw[hq,hp,hN.out]
    have:=Nat.mul_le_mul_right M (show i+2≤x.length+1 by omega)
    rw[Nat.succ_mul,Nat.succ_mul] at this
    exact this
   have hq2:((i:Int)+1+1) * (M:Int)=((q+M:Nat):Int):=by rw[Int.add_mul,hqi];simp
   have hw1:IntKind.i64.wrap ((i:Int)+1)=(i:Int)+1:=by rw[IntKind.wrap_i64];omega
   have HP:Hid (p=i * M):=hp
   have HQ:Hid (q=p+M):=hq
   clear hp hq
   go_wp2_with fail
   go_region_held3 (fun w'=>w'.cell? ⟨w.heap.size+1+1,0,none⟩=some (.int .i64 (M:Int))∧w'.cell? ⟨w.heap.size+1+1,1,none⟩=some (.slice (some ⟨w.heap.size+1,0,none⟩) N N)∧Bx (w.heap.size+1+1) M (w.heap.size+1) N wr w') (go_keep)
    (first | (go_at_call_has 250 (Value.int IntKind.i64 (i:Int));refine (ZbJ (Zqf M (w.heap.size+1) N p q M (by have:=HQ.out;omega) (i:Int) _ hpi hqi (by have:=HQ.out;omega) hqN (by have:=HQ.out;omega) (by omega) (by omega) (by omega)) (w.heap.size+1+1) M (w.heap.size+1) N wr (by first | assumption | (rw[ZbI];assumption))).mono ?_;rintro e w' ⟨rfl,e0,e1,hbS⟩) | (go_at_call_has 250 (Value.int IntKind.i64 ((i:Int)+1));refine (ZbJ (Zqf M (w.heap.size+1) N q (q+M) M (by omega) ((i:Int)+1) _ hqi hq2 (by omega) hqN2 (by omega) (by omega) (by omega) (by omega)) (w.heap.size+1+1) M (w.heap.size+1) N wr (by first | assumption | (rw[ZbI];assumption))).mono ?_;rintro e w' ⟨rfl,e0,e1,hbS⟩))
   have hS1:=hS.keep hbS.low
   have HD:=hD.out.next
   clear hD hw1 hpi hqi hq2 hX c0 c1 e0 e1
   go_wp2
   go_loopw [10] (fun jv wi=>∃ (c:Nat) (z:Int) (Y':List Value),c≤y.length∧jv=.int .i64 z∧z+1=c∧Ms w M N Y' wi∧Hid (Done x y i c Y')) (fun jv _=>(intOf jv+1).toNat)
   case atStart=>exact⟨y.length,(y.length:Int)-1,Y,Nat.le_refl _,by go_num,by omega,hS1,HD⟩
   case round =>
    obtain⟨c,z,Y',hc,rfl,hz,hS2,hD2⟩:=hrel
    cases c with
    | zero =>
     obtain rfl:z=-1:=by omega
     go_wp2
     go_roundw
     case rel=>exact⟨i,(i:Int)-1,Y',by omega,by go_num,by omega,hS2,hD2⟩
     case measure=>simp[intOf]
    | succ j =>
     obtain rfl:z=(j:Int):=by omega
     clear hz
     obtain⟨bx,ox,rfl,_,hcx⟩:=HI.at (HI.keep hx hS2.low (Nat.le_refl _)) (by omega)
     obtain⟨by',oy,rfl,_,hcy⟩:=HI.at (HI.keep hy hS2.low (Nat.le_refl _)) (by omega)
     have d1:=hcx i (by omega)
     have d2:=hcy j (by omega)
     have hln:=Zko x y i j (by omega) (by omega)
     obtain⟨xi,hxi⟩:∃ z,x[i]=z:=⟨_,rfl⟩
     obtain⟨yj,hyj⟩:∃ z,y[j]=z:=⟨_,rfl⟩
     rw[hxi] at d1 hln
     rw[hyj] at d2 hln
     clear hcx hcy hxi hyj
     have r1:=hS2.at hD2.out hM.out hN.out (i:=i+1) (j:=j+1) (p:=q) (by omega) (by omega) (by omega) (by rw[HQ.out,HP.out,Nat.succ_mul])
     have r2:=hS2.at hD2.out hM.out hN.out (i:=i+1) (j:=j) (p:=q) (by omega) (by omega) (by omega) (by rw[HQ.out,HP.out,Nat.succ_mul])
     have r3:=hS2.at hD2.out hM.out hN.out (i:=i) (j:=j+1) (p:=p) (by omega) (by omega) (by omega) HP.out
     have HLN:Hid (ln x y i j=if xi=yj then ln x y (i+1) (j+1)+1 else max (ln x y (i+1) j) (ln x y i (j+1))):=hln
     have b1:=Zkn x y (i+1) (j+1)
     have b2:=Zkn x y (i+1) j
     have b3:=Zkn x y i (j+1)
     clear hln
     have i1:0≤(i:Int):=by omega
     have i2:(i:Int)<(x.length:Int):=by omega
     have i3:0≤(j:Int):=by omega
     have i4:(j:Int)<(y.length:Int):=by omega
     have hMy:M=y.length+1:=hM.out
     have i5:(j:Int)<(M:Int):=by omega
     have i6:(j:Int)+1<(M:Int):=by omega
     clear hMy
     have hpN:p+j<N:=by have:=HQ.out;have:=hM.out;omega
     have hYl:Y'.length=N:=by rw[hS2.own.1,Nat.mul_one]
     have f0:=hS2.own.frozenAt (p+j)
     have y0:=hS2.own.cellAt (p+j) (by omega)
     rw[List.getElem?_eq_getElem (by omega)] at y0
     obtain⟨z0,hz0⟩:∃ z,Y'[p+j]'(by omega)=z:=⟨_,rfl⟩
     rw[hz0] at y0
     clear hz0
     have HYL:Hid (Y'.length=(x.length+1) * (y.length+1)):=(by show _=_;rw[hYl,hN.out,hM.out])
     clear hYl
     have HPJ:Hid (p+j=i * (y.length+1)+j):=(by show _=_;rw[HP.out,hM.out])
     by_cases hxy:xi=yj
     ·have HL:Hid (ln x y i j=ln x y (i+1) (j+1)+1):=(by show _=_;rw[HLN.out,if_pos hxy])
      clear HLN r2 r3 b2 b3
      generalize ln x y (i+1) (j+1)=a1 at *
      go_wp2_with fail
      go_quiet (fail)
      go_wp2
      go_roundw
      case rel=>exact⟨j,(j:Int)-1,_,by omega,by go_num,by omega,(hS2.drewN _).store (p+j) (.int .i16 ((a1:Int)+1)),hD2.out.set (by omega) (by omega) HYL.out (p+j) HPJ.out ((a1:Int)+1) (by rw[HL.out];simp)⟩
      case measure=>simp[intOf]
     ·have HL:Hid (ln x y i j=max (ln x y (i+1) j) (ln x y i (j+1))):=(by show _=_;rw[HLN.out,if_neg hxy])
      clear HLN r1 b1
      have hxy':decide (xi=yj)=false:=decide_eq_false hxy
      generalize ln x y (i+1) j=a1 at *
      generalize ln x y i (j+1)=a2 at *
      go_wp2_with fail
      go_quiet (fail)
      go_wp2_with fail
      go_region
      go_wp2
      exact⟨⟨j,(j:Int)-1,_,by omega,by go_num,by omega,(hS2.drewN _).store (p+j) _,hD2.out.set (by omega) (by omega) HYL.out (p+j) HPJ.out _ (by rw[HL.out];first | (split<;>omega) | omega)⟩,by simp[intOf]⟩
end

section
open Go.RowKit
theorem ZgH (x y:List Int) (r:Nat) (vx vy:Value) (w:World) (hx:HI w vx x) (hy:HI w vy y) (hxl:x.length≤1048576) (hyl:y.length≤1048576) (hr:Hid (fr x y=r)) :
  Calls Tryz.prog 229 #[vx,vy] w fun e w'=>e=.returned (.int .i64 (r:Int))∧Below w.heap.size w w':=by
 obtain⟨xo,xc,rfl⟩:=Holds.form hx
 obtain⟨yo,yc,rfl⟩:=Holds.form hy
 obtain⟨m,hm⟩:∃ m:Nat,m=min x.length y.length:=⟨_,rfl⟩
 have hmi:(if y.length<x.length then (y.length:Int) else (x.length:Int))=(m:Int):=by split<;>omega
 have HM:Hid (m=min x.length y.length):=hm
 clear hm
 go_enter Tryz.func229,Tryz.ntmps229
 go_wp2
 clear hmi
 go_loopw [13] (fun iv wr=>∃ (k n:Nat),k≤m∧iv=.int .i64 (k:Int)∧wr=w.drewN n∧Hid (k+fr (x.drop k) (y.drop k)=r)) (fun iv _=>m-(intOf iv).toNat)
 case atStart=>exact⟨0,0,Nat.zero_le _,rfl,rfl,(by show _=_;rw[← hr.out];simp)⟩
 case round =>
  obtain⟨k,n,hk,rfl,rfl,hR⟩:=hrel
  by_cases hlt:k<m
  ·have hkx:k<x.length:=by have:=HM.out;omega
   have hky:k<y.length:=by have:=HM.out;omega
   obtain⟨bx,ox,rfl,_,hcx⟩:=HI.at hx (by omega)
   obtain⟨by',oy,rfl,_,hcy⟩:=HI.at hy (by omega)
   have d1:=hcx k hkx
   have d2:=hcy k hky
   have hR':=hR.out
   rw[ZgG x y k hkx hky] at hR'
   obtain⟨xi,hxi⟩:∃ z,x[k]=z:=⟨_,rfl⟩
   obtain⟨yj,hyj⟩:∃ z,y[k]=z:=⟨_,rfl⟩
   rw[hxi] at d1 hR'
   rw[hyj] at d2 hR'
   clear hcx hcy hxi hyj hR
   have i1:0≤(k:Int):=by omega
   have i2:(k:Int)<(x.length:Int):=by omega
   have i3:(k:Int)<(y.length:Int):=by omega
   have i4:(k:Int)<(m:Int):=by omega
   by_cases hxy:xi=yj
   ·rw[if_pos hxy] at hR'
    have HR:Hid (k+1+fr (x.drop (k+1)) (y.drop (k+1))=r):=(by show _=_;omega)
    clear hR'
    go_wp2_with fail
    go_quiet (fail)
    go_wp2
    go_roundw
    case rel=>exact⟨k+1,_,by omega,by go_num,rfl,HR⟩
    case measure=>simp[intOf];omega
   ·rw[if_neg hxy] at hR'
    have hxy':decide (xi=yj)=false:=decide_eq_false hxy
    obtain rfl:k=r:=by omega
    clear hR'
    go_wp2_with fail
    go_quiet (fail)
    go_wp2
    go_ret
    exact⟨rfl,Below.dN (Below.dN (Below.refl _ w) _) _⟩
  ·obtain rfl:k=m:=by omega
   go_wp2
   go_ret
   refine⟨ZpB ?_,Below.dN (Below.refl _ w) _⟩
   have h:=hR.out
   have hm:=HM.out
   have:fr (x.drop k) (y.drop k)=0:=by
    have:=ZgF (x.drop k) (y.drop k)
    simp at this
    omega
   omega
theorem ZsS (x y:List Int) (vx vy:Value) (w:World) (hx:HI w vx x) (hy:HI w vy y) (b:Bool) (hb:Hid (b=(decide (4096<x.length) || decide (4096<y.length)))) :
  Calls Tryz.prog 178 #[vx,vy] w fun e w'=>e=.returned (.bool b)∧w=w':=by
 obtain⟨xo,xc,rfl⟩:=Holds.form hx
 obtain⟨yo,yc,rfl⟩:=Holds.form hy
 have e1:decide (4096<x.length)=decide ((4096:Int)<(x.length:Int)):=decide_eq_decide.2 (by omega)
 have e2:decide (4096<y.length)=decide ((4096:Int)<(y.length:Int)):=decide_eq_decide.2 (by omega)
 have e3:=hb.out
 rw[e1,e2] at e3
 subst e3
 clear hb e1 e2
 go_enter Tryz.func178,Tryz.ntmps178
 go_wp2
 all_goals
  go_ret
  exact⟨by first | rfl | simp[*],rfl⟩
theorem ZqB (X:List Int) (ao:Option Addr) (cap k:Nat) (w:World) (hk:k≤X.length) (hX:HI w (.slice ao X.length cap) X) :
  ∃ vo vc,(∀ u:World,(Instr.slice 71 (.slice ao X.length cap) (some (.int .i64 (k:Int))) none none).run Tryz.prog u=.ok (.slice vo (X.length-k) vc) u)∧(∀ u:World,HI u (.slice ao X.length cap) X→HI u (.slice vo (X.length-k) vc) (X.drop k)):=by
 have hnc:X.length≤cap:=by
  rcases hX with ⟨h,_,h3⟩ | ⟨ad,c,h,h3,_⟩
  ·simp at h;simp[h]
  ·cases h;exact h3
 refine⟨if cap=k then ao else ao.map (·.add k),cap-k,fun u=>?_,fun u hu=>?_⟩
 ·rw[run_slice_l (P:=Tryz.prog) u 71 ao X.length cap (by kernel_rfl) .i64 k (by omega) (by omega)]
  have:(sizeOf (Tryz.prog.elem 71)).run Tryz.prog u=.ok 1 u:=by kernel_rfl
  rw[this]
  simp[Result.andThen,sliced]
 ·have hl:(X.drop k).length=X.length-k:=by simp
  unfold HI
  rw[hl]
  rcases hu with ⟨h,h3,h4⟩ | ⟨ad,c,h,h3,hc⟩
  ·have e:X=[]:=by simpa [icells] using h4
   subst e
   simp at h
   obtain⟨rfl,rfl⟩:=h
   simp at hk
   subst hk
   exact .inl ⟨by simp,by simp,by simp[icells]⟩
  ·cases h
   refine .inr ⟨if cap=k then ad else ad.add k,cap-k,by split<;>simp,by omega,fun j x hj=>?_⟩
   have hj':(icells X)[k+j]?=some x:=by
    simp only[icells,List.map_drop,List.getElem?_drop] at hj ⊢
    exact hj
   have hlt:=(List.getElem?_eq_some_iff.1 hj').1
   rw[icells_length] at hlt
   rw[if_neg (by omega)]
   have h0:=hc 0 _ (List.getElem?_eq_getElem (by rw[icells_length];omega))
   obtain⟨b,off,rfl⟩:=addr_of h0
   have:=hc _ _ hj'
   rw[add_none] at this
   rw[add_none,add_none,Nat.add_assoc]
   exact this
end

section
open Go.RowKit
attribute [local simp] ZkG
theorem Zfi {w:World} {base:Nat} {g N:Nat} {Y:List Value} (hO:w.ownsRow base 305 1 (.slice (some ⟨g,0,none⟩) N N) N Y) {x y:List Int} (hD:Done x y 0 0 Y) {M:Nat} (hM:M=y.length+1) (hN:N=(x.length+1) * M) (i j q:Nat) (hi:i≤x.length) (hj:j≤y.length) (hq:q=i * M+j):w.cell? ⟨g,q,none⟩=some (.int .i16 ((ln x y i j:Nat):Int)):=by
 have:=hO.cellAt q (by rw[hq,hN,Nat.mul_one];exact ZiH (by omega) hi)
 rw[this,hq,hM]
 exact hD i j hi hj (by omega)
end

section
open Go.RowKit
attribute [local simp] ZkG
theorem Zaq (n:Nat) (hn:n≤1048576) (w:World) :
  Calls Tryz.prog 277 #[.int .u64 1,.int .u64 (n:Int)] w fun e w'=>e=.returned (.tuple #[.int .u64 0,.int .u64 (n:Int)])∧w=w':=by
 have b1:bits BinOp.and IntKind.u64 1 4294967295=1:=by decide
 have b0:bits BinOp.and IntKind.u64 0 4294967295=0:=by decide
 have b2:bits BinOp.and IntKind.u64 (n:Int) 4294967295=(n:Int):=by
  have h:=bits_and_u64_nat n 4294967295 (by omega) (by omega)
  have e:n &&& 4294967295=n % 4294967296:=Nat.and_two_pow_sub_one_eq_mod n 32
  rw[e,Nat.mod_eq_of_lt (by omega)] at h
  exact h
 have d1:(n:Int) / 4294967296=0:=by omega
 go_enter Tryz.func277,Tryz.ntmps277
 go_wp2
 go_ret2
 exact⟨rfl,rfl⟩
theorem Zar (n:Nat) (hn:n≤1048576) (w:World) :
  Calls Tryz.prog 249 #[.int .u64 1,.int .u64 (n:Int)] w fun e w'=>e=.returned (.tuple #[.int .u64 0,.int .u64 (n:Int)])∧w=w':=by
 go_enter Tryz.func249,Tryz.ntmps249
 go_wp2_with fail
 refine (Zaq n hn w).mono ?_
 rintro e w' ⟨rfl,rfl⟩
 go_wp2
 go_ret2
 exact⟨rfl,rfl⟩
theorem ZqI (N:Nat) (hN:N≤1099511627776) (W:World) :
  (Instr.makeSlice 71 (.int .i64 (N:Int)) (.int .i64 (N:Int))).run Tryz.prog W=.ok (.slice (some ⟨W.heap.size,0,none⟩) N N) (W.alloc (.cells (madeCells #[.int .i64 0] N) 3)):=by
 obtain⟨i0,hi,hz0,hzs,hz2⟩:=info_parts infoInt
 have h1:i0.bytes * N≤8 * 1099511627776:=by rw[hz2];exact Nat.mul_le_mul_left _ hN
 have hr:=run_make (P:=Tryz.prog) W 71 3 i0 _ Tryz.underlying71 hi hz0 .i64 .i64 (N:Int) (N:Int) (by omega) (Int.le_refl _) (by
  have:((i0.bytes * N:Nat):Int)≤281474976710656:=by omega
  rwa [Int.natCast_mul] at this) (by omega)
 simpa [hzs,Value.cells] using hr
theorem madeI (N:Nat):madeCells #[.int .i64 0] N=(List.replicate N (Value.int .i64 0)).toArray:=by
 apply Array.toList_inj.1
 apply List.ext_getElem
 ·simp[madeCells]
 ·intro i h1 h2
  simp[madeCells,Nat.mod_one]
theorem ZqE (g N k:Nat) (hk:k<N) (u:World):(Instr.slice 71 (.slice (some ⟨g,0,none⟩) N N) (some (.int .i64 (k:Int))) none none).run Tryz.prog u=.ok (.slice (some ⟨g,k,none⟩) (N-k) (N-k)) u:=by
 rw[run_slice_l (P:=Tryz.prog) u 71 (some ⟨g,0,none⟩) N N (by kernel_rfl) .i64 k (by omega) (by omega)]
 have:(sizeOf (Tryz.prog.elem 71)).run Tryz.prog u=.ok 1 u:=by kernel_rfl
 rw[this]
 simp[Result.andThen,sliced,add_none]
 omega
theorem ZqC (g N k:Nat) (hk:k≤N) (u:World):(Instr.slice 71 (.slice (some ⟨g,0,none⟩) N N) none (some (.int .i64 (k:Int))) none).run Tryz.prog u=.ok (.slice (some ⟨g,0,none⟩) k N) u:=by
 rw[run_slice_h (P:=Tryz.prog) u 71 (some ⟨g,0,none⟩) N N (by kernel_rfl) .i64 k (by omega) (by omega)]
 have:(sizeOf (Tryz.prog.elem 71)).run Tryz.prog u=.ok 1 u:=by kernel_rfl
 rw[this]
 simp[Result.andThen,sliced,add_none]
theorem size1:(Tryz.prog.info? 3).map (·.size)=some 1:=by kernel_rfl
def Ones (cur:List Value) (N k:Nat):Prop:=cur.length=N∧cur.take k=icells (List.replicate k (-1))
theorem Ones.more {cur:List Value} {N k d:Nat} (h:Ones cur N k) (hk:k+d≤N):Ones (splice cur k (icells (List.replicate d (-1)))) N (k+d):=by
 refine⟨?_,?_⟩
 ·rw[length_splice _ _ _ (by rw[icells_length,h.1];simpa using hk),h.1]
 ·have h1:(cur.take k).length=k:=by rw[List.length_take,h.1];omega
  rw[splice,← List.append_assoc,List.take_left' (by rw[List.length_append,h1,icells_length,List.length_replicate]),h.2,← icells_append,List.replicate_append_replicate]
theorem Ones.cell {cur:List Value} {N k:Nat} (h:Ones cur N k) (j:Nat) (hj:j<k):cur[j]?=some (.int .i64 (-1)):=by
 have:(cur.take k)[j]?=some (.int .i64 (-1)):=by rw[h.2];simp[icells,hj]
 rw[List.getElem?_take] at this
 simpa [hj] using this
theorem Zau (N:Nat) (hN:N≤1048576) (v:Value) (w:World) (hv:HI w v [-1]) :
  Calls Tryz.prog 228 #[v,.int .i64 (N:Int)] w fun e w'=>∃ g,e=.returned (.slice (some ⟨g,0,none⟩) N N)∧w'.ownsRow w.heap.size 3 1 (.slice (some ⟨g,0,none⟩) N N) N (icells (List.replicate N (-1)))∧Below w.heap.size w w':=by
 obtain⟨ao,ca,rfl⟩:=Holds.form hv
 obtain⟨b,off,rfl,hb,hc⟩:=HI.at hv (by decide)
 have c0:w.cell? ⟨b,off,none⟩=some (.int .i64 (-1)):=hc 0 (by decide)
 clear hc hv
 have hmk:=ZqI N (by omega)
 rw[madeI] at hmk
 obtain⟨d,hd⟩:∃ d,d=Nat.min 1 N:=⟨_,rfl⟩
 have hd':d≤1∧d≤N∧(0<N→d=1):=by
  rw[hd]
  show min 1 N≤1∧min 1 N≤N∧(0<N→min 1 N=1)
  omega
 have HDn:Hid ((icells (List.replicate d (-1))).length=Nat.min 1 N):=(by show _=_;rw[icells_length,List.length_replicate,hd])
 clear hd
 simp only[List.length_singleton] at *
 go_enter Tryz.func228,Tryz.ntmps228
 go_wp2_with fail
 refine (Zar N hN w).mono ?_
 rintro e w0 ⟨rfl,rfl⟩
 have hcb:(w.alloc (Obj.cells (List.replicate N (Value.int .i64 0)).toArray 3)).cell? ⟨b,off,none⟩=some (.int .i64 (-1)):=by
  rw[World.cell?_of_block (w:=w) (Below.heap_alloc _ _ _ hb)];exact c0
 have hsrc:∀ j v,(icells (List.replicate d (-1)))[j]?=some v→(w.alloc (Obj.cells (List.replicate N (Value.int .i64 0)).toArray 3)).cell? ((⟨b,off,none⟩:Addr).add j)=some v:=by
  intro j v hj
  have hl:=(List.getElem?_eq_some_iff.1 hj).1
  rw[icells_length,List.length_replicate] at hl
  obtain rfl:j=0:=by omega
  simp[icells,hl] at hj
  rw[add_none,Nat.add_zero,hcb,hj]
 have hfit:0+(icells (List.replicate d (-1))).length≤(List.replicate N (Value.int .i64 0)).length:=by rw[icells_length];simp;omega
 go_wp2_with (refine wpList_copy_splice (o:=⟨some 33,_,_,_,_,none⟩) rfl (.tmp 31) (.tmp 32) 71 71 rfl 3 Tryz.underlying71 (by kernel_rfl) _ _ _ _ _ _ rfl rfl w.heap.size 0 (List.replicate N (Value.int .i64 0)) 3 (_root_.Go.heap_alloc_new w _) (icells (List.replicate d (-1))) HDn.out (fun _=>⟨rfl,_,rfl,hsrc⟩) hfit (Ziw _) w.heap.size w ((Below.refl _ w).alloc (Nat.le_refl _) _) (Nat.le_refl _) ?_)
 intro w1 hg1 hB1
 have hlen0:((icells (List.replicate d (-1))).length:Int)=(d:Int):=by rw[icells_length,List.length_replicate]
 simp only[hlen0]
 have hOn:Ones (splice (List.replicate N (Value.int .i64 0)) 0 (icells (List.replicate d (-1)))) N (0+d):=Ones.more ⟨by simp,by simp[icells]⟩ (by omega)
 rw[Nat.zero_add] at hOn
 generalize splice (List.replicate N (Value.int .i64 0)) 0 (icells (List.replicate d (-1)))=cur1 at *
 clear hsrc hfit hcb HDn hmk hlen0
 go_wp2
 go_loopw [8] (fun nv wr=>∃ (k:Nat) (cur:List Value),k≤N∧(0<N→0<k)∧nv=.int .i64 (k:Int)∧Below w.heap.size w wr∧Hid (wr.heap[w.heap.size]?=some (.cells cur.toArray 3 (0,0)))∧Hid (Ones cur N k)) (fun nv _=>N-(intOf nv).toNat)
 case atStart=>exact⟨d,cur1,by omega,by omega,rfl,hB1,hg1,hOn⟩
 case round =>
  obtain⟨k,cur,hk,hk0,rfl,hB,hg,hO⟩:=hrel
  by_cases hlt:k<N
  ·have s1:=ZqE w.heap.size N k hlt
   have s2:=ZqC w.heap.size N k (by omega)
   obtain⟨d,hd⟩:∃ d,d=Nat.min k (N-k):=⟨_,rfl⟩
   have hd':d≤k∧d≤N-k∧0<d:=by
    rw[hd]
    show min k (N-k)≤k∧min k (N-k)≤N-k∧0<min k (N-k)
    have:=hk0 (by omega)
    omega
   have HDn:Hid ((icells (List.replicate d (-1))).length=Nat.min k (N-k)):=(by show _=_;rw[icells_length,List.length_replicate,hd])
   clear hd
   have hlen0:((icells (List.replicate d (-1))).length:Int)=(d:Int):=by rw[icells_length,List.length_replicate]
   have hw1:IntKind.i64.wrap ((k:Int)+(d:Int))=((k+d:Nat):Int):=by rw[IntKind.wrap_i64];omega
   have hsrc:∀ u:World,u.heap=wr.heap→∀ j v,(icells (List.replicate d (-1)))[j]?=some v→u.cell? ((⟨w.heap.size,0,none⟩:Addr).add j)=some v:=by
    intro u hu j v hj
    have hl:=(List.getElem?_eq_some_iff.1 hj).1
    rw[icells_length,List.length_replicate] at hl
    simp[icells,hl] at hj
    have hgu:u.heap[w.heap.size]?=some (.cells cur.toArray 3 (0,0)):=by rw[hu];exact hg.out
    rw[add_none,Nat.zero_add,Lib.cell_of_heap hgu,← hj]
    have:=hO.out.cell j (by omega)
    simpa using this
   have hfit:k+(icells (List.replicate d (-1))).length≤cur.length:=by rw[icells_length,hO.out.1];simp;omega
   have hi1:(0:Int)≤(k:Int):=by omega
   have hi2:(k:Int)≤(N:Int):=by omega
   go_wp2_with fail
   have hlow:Low w wr:=hB
   go_region_held3 (fun u=>Low w u) (go_keep)
    (first | (refine step_copy_splice (P:=Tryz.prog) rfl (.tmp 41) (.tmp 44) 71 71 rfl 3 Tryz.underlying71 size1 (some ⟨w.heap.size,k,none⟩) (some ⟨w.heap.size,0,none⟩) (N-k) (N-k) k N rfl rfl w.heap.size k cur 3 hg.out (icells (List.replicate d (-1))) HDn.out (fun _=>⟨rfl,_,rfl,hsrc _ rfl⟩) hfit (Ziw _) w.heap.size w (Below.dN hB 1) (Nat.le_refl _) ?_;intro w2 hg2 hB2;have hlow2:Low w w2:=hB2;simp only[goInt,hlen0]))
   go_wp2
   go_roundw
   case rel=>exact⟨k+d,_,by omega,by omega,by go_num,hB2,hg2,hO.out.more (by omega)⟩
   case measure=>simp[intOf];omega
  ·obtain rfl:k=N:=by omega
   go_wp2
   go_ret
   have hL:=hO.out.2
   rw[List.take_of_length_le (by rw[hO.out.1];omega)] at hL
   refine⟨w.heap.size,rfl,?_,hB⟩
   refine⟨by rw[icells_length];simp,.inr ⟨w.heap.size,k,cur.toArray,rfl,Nat.le_refl _,hg.out,Nat.le_refl _,by unfold maxLen;omega,?_,?_⟩⟩
   ·simp[hO.out.1]
   ·rw[hL,List.take_of_length_le (by rw[icells_length];simp)]
end

section
open Go.RowKit
def Pt (K Z:List Int) (n a:Nat) (b:Int) (X Y:List Int):Prop:=∃ P:List Int,P.length=a∧a≤n∧Z=P++List.replicate (n-a) (-1)∧P++kp b X Y=K
theorem Pt.start (x y:List Int):Pt (kp 0 x y) (List.replicate x.length (-1)) x.length 0 0 x y:=⟨[],rfl,Nat.zero_le _,by simp,by simp⟩
theorem Pt.len {K Z:List Int} {n a:Nat} {b:Int} {X Y:List Int} (h:Pt K Z n a b X Y):Z.length=n:=by
 obtain⟨P,h1,h2,h3,_⟩:=h
 rw[h3,List.length_append,h1,List.length_replicate]
 omega
theorem Pt.pair {K Z:List Int} {n a:Nat} {b:Int} {X Y X' Y':List Int} (h:Pt K Z n a b X Y) (hn:a<n) (hk:kp b X Y=b::kp (b+1) X' Y'):Pt K (Z.set a b) n (a+1) (b+1) X' Y':=by
 obtain⟨P,h1,h2,h3,h4⟩:=h
 refine⟨P++[b],by simp[h1],hn,?_,by rw[← h4,hk];simp⟩
 rw[h3,show n-a=(n-(a+1))+1 by omega,List.replicate_succ,List.set_append_right _ _ (by omega),h1]
 simp
theorem Pt.out {K Z:List Int} {n a:Nat} {b:Int} {X Y X':List Int} (h:Pt K Z n a b X Y) (hn:a<n) (hk:kp b X Y=-1::kp b X' Y):Pt K Z n (a+1) b X' Y:=by
 obtain⟨P,h1,h2,h3,h4⟩:=h
 refine⟨P++[-1],by simp[h1],hn,?_,by rw[← h4,hk];simp⟩
 rw[h3,show n-a=(n-(a+1))+1 by omega,List.replicate_succ]
 simp
theorem Pt.skip {K Z:List Int} {n a:Nat} {b:Int} {X Y Y':List Int} (h:Pt K Z n a b X Y) (hk:kp b X Y=kp (b+1) X Y'):Pt K Z n a (b+1) X Y':=by
 obtain⟨P,h1,h2,h3,h4⟩:=h
 exact⟨P,h1,h2,h3,by rw[← h4,hk]⟩
theorem Pt.done {K Z:List Int} {n a:Nat} {b:Int} {X Y:List Int} (h:Pt K Z n a b X Y) (hX:X.length=n-a) (he:X=[]∨Y=[]):Z=K:=by
 obtain⟨P,h1,h2,h3,h4⟩:=h
 rcases he with rfl | rfl
 ·rw[ZjC,List.append_nil] at h4
  simp at hX
  rw[h3,← hX,← h4]
  simp
 ·rw[ZjD,hX] at h4
  rw[h3,h4]
structure Kst (w:World) (g gt bx n M N:Nat) (Z:List Int) (T:List Value) (wr:World):Prop where
 low:Below w.heap.size w wr
 own:wr.ownsRow w.heap.size 3 1 (.slice (some ⟨g,0,none⟩) n n) n (icells Z)
 tab:wr.ownsRow w.heap.size 305 1 (.slice (some ⟨gt,0,none⟩) N N) N T
 box:wr.heap[bx]?=some (Obj.cells #[.int .i64 (M:Int),.slice (some ⟨gt,0,none⟩) N N] 277 (0,0))
section
variable {w:World} {g gt bx n M N:Nat} {Z:List Int} {T:List Value} {wr:World}
theorem Kst.keep {w':World} (h:Kst w g gt bx n M N Z T wr) (hb:Below wr.heap.size wr w'):Kst w g gt bx n M N Z T w' :=
 ⟨h.low.trans (hb.mono h.low.size),ZnI h.own hb,ZnI h.tab hb,(hb.block _ (Array.getElem?_eq_some_iff.1 h.box).1).trans h.box⟩
theorem Kst.drewN (h:Kst w g gt bx n M N Z T wr) (k:Nat):Kst w g gt bx n M N Z T (wr.drewN k):=⟨Below.dN h.low k,h.own,h.tab,h.box⟩
theorem Kst.bx' (h:Kst w g gt bx n M N Z T wr):Bx bx M gt N wr wr:=⟨h.box,Below.refl _ _⟩
theorem Zny {base:Nat} {e:TypeId} {s:Nat} {g n c:Nat} {xs:List Value} (h:wr.ownsRow base e s (.slice (some ⟨g,0,none⟩) n c) n xs):base≤g∧∃ cur,wr.heap[g]?=some (.cells cur e (0,0)):=by
 rcases h.2 with ⟨h,_⟩ | ⟨g',cap,cur,h,hb,hc,_⟩
 ·cases h
 ·cases h
  exact⟨hb,cur,hc⟩
theorem Kst.store (h:Kst w g gt bx n M N Z T wr) (p:Nat) (v:Int):Kst w g gt bx n M N (Z.set p v) T (wr.setCell ⟨g,p,none⟩ (.int .i64 v)):=by
 obtain⟨p1,g1⟩:=h.own.stored p (.int .i64 v)
 obtain⟨hgb,cur,hg⟩:=Zny h.own
 obtain⟨_,cur',hgt⟩:=Zny h.tab
 have e:(icells Z).set p (.int .i64 v)=icells (Z.set p v):=by simp[icells,List.map_set]
 rw[e] at p1
 refine⟨h.low.grown g1 h.low.size (fun j hj=>by have:=Option.some.inj hj;omega),p1,?_,?_⟩
 ·refine h.tab.kept g1 (.inr ?_)
  intro q
  have:gt=g:=by simpa [Value.ownBlock] using q
  subst this
  rw[hg] at hgt
  cases hgt
 ·refine (g1.block _ (Array.getElem?_eq_some_iff.1 h.box).1 (fun q=>?_)).trans h.box
  have:bx=g:=by simpa using q
  subst this
  have:=h.box
  rw[hg] at this
  cases this
end
theorem Bx.cell {b W g N:Nat} {wr w:World} (h:Bx b W g N wr w) {a:Addr} {v:Value} (hc:wr.cell? a=some v):w.cell? a=some v:=by
 rw[World.cell?_of_block (w:=wr) (h.low.block _ (World.block_lt_of_cell? wr _ hc))];exact hc
end

section
open Go.RowKit
attribute [local simp] ZbI
theorem Zjs (x y:List Int) (vx vy:Value) (w:World) (hx:HI w vx x) (hy:HI w vy y) (hxl:x.length≤4096) (hyl:y.length≤4096) (K:List Int) (hK:Hid (kp 0 x y=K)) :
  Calls Tryz.prog 180 #[vx,vy] w fun e w'=>∃ v,e=.returned v∧HI w' v K∧Below w.heap.size w w':=by
 obtain⟨xo,xc,rfl⟩:=Holds.form hx
 obtain⟨yo,yc,rfl⟩:=Holds.form hy
 go_enter Tryz.func180,Tryz.ntmps180
 go_wp2_with fail
 have hB0:Below w.heap.size w (w.alloc (Obj.cells #[Value.int IntKind.i64 (-1)] 3)):=(Below.refl _ w).alloc (Nat.le_refl _) _
 refine (Zau x.length (by omega) _ _ (show HI _ _ [-1] from Zmn w _ _ _ _ (by decide))).mono ?_
 rintro e w1 ⟨g,rfl,hO1,hB1⟩
 have hB01:=hB0.trans (hB1.mono hB0.size)
 have hO1':w1.ownsRow w.heap.size 3 1 (.slice (some ⟨g,0,none⟩) x.length x.length) x.length (icells (List.replicate x.length (-1))):=by
  refine⟨hO1.1,?_⟩
  rcases hO1.2 with h | ⟨g',cap,cur,q1,q2,q3⟩
  ·exact .inl h
  ·exact .inr ⟨g',cap,cur,q1,Nat.le_trans (by simp) q2,q3⟩
 clear hB0 hB1 hO1
 have hx1:=HI.keep hx hB01 (Nat.le_refl _)
 have hy1:=HI.keep hy hB01 (Nat.le_refl _)
 go_wp2_with fail
 obtain⟨f,hf⟩:∃ f,fr x y=f:=⟨_,rfl⟩
 have hfl:=ZgF x y
 rw[hf] at hfl
 refine (ZgH x y f _ _ _ hx1 hy1 (by omega) (by omega) hf).mono ?_
 rintro e w2 ⟨rfl,hB2⟩
 have hB02:=hB01.trans (hB2.mono hB01.size)
 have hO2:=ZnI hO1' hB2
 have HF:Hid (fr x y=f):=hf
 clear hf hB01 hO1' hB2 hx1 hy1
 obtain⟨hfx,hfy⟩:=hfl
 go_wp2
 go_loopw [19] (fun iv wr=>∃ (k:Nat) (Z:List Int),k≤f∧iv=.int .i64 (k:Int)∧Below w.heap.size w wr∧wr.ownsRow w.heap.size 3 1 (.slice (some ⟨g,0,none⟩) x.length x.length) x.length (icells Z)∧Hid (Pt K Z x.length k k (x.drop k) (y.drop k))) (fun iv _=>f-(intOf iv).toNat)
 case atStart=>exact⟨0,_,Nat.zero_le _,rfl,hB02,hO2,(by rw[← hK.out];exact Pt.start x y)⟩
 case round =>
  obtain⟨k,Z,hk,rfl,hB,hO,hP⟩:=hrel
  by_cases hlt:k<f
  ·have hkx:k<x.length:=by omega
   have f0:=hO.frozenAt k
   have hZl:=hP.out.len
   have y0:=hO.cellAt k (by omega)
   rw[List.getElem?_eq_getElem (by rw[icells_length];omega)] at y0
   obtain⟨z0,hz0⟩:∃ z,(icells Z)[k]'(by rw[icells_length];omega)=z:=⟨_,rfl⟩
   rw[hz0] at y0
   clear hz0 hZl
   obtain⟨p1,g1⟩:=hO.stored k (.int .i64 (k:Int))
   rw[show (icells Z).set k (.int .i64 (k:Int))=icells (Z.set k (k:Int)) by simp[icells,List.map_set]] at p1
   have hB1:=hB.grown g1 hB.size (fun j hj=>by have:=Option.some.inj hj;have:=(Zny hO).1;omega)
   clear g1
   have i1:0≤(k:Int):=by omega
   have i2:(k:Int)<(x.length:Int):=by omega
   have i3:(k:Int)<(f:Int):=by omega
   have HP2:Hid (Pt K (Z.set k (k:Int)) x.length (k+1) ((k+1:Nat):Int) (x.drop (k+1)) (y.drop (k+1))):=hP.out.pair hkx (ZjF k x y k (by rw[HF.out];exact hlt))
   go_wp2
   go_roundw
   case rel=>exact⟨k+1,_,by omega,by go_num,hB1,p1,HP2⟩
   case measure=>simp[intOf];omega
  ·obtain rfl:k=f:=by omega
   obtain⟨vox,vcx,hsx,hhx⟩:=ZqB x xo xc k w hfx hx
   obtain⟨voy,vcy,hsy,hhy⟩:=ZqB y yo yc k w hfy hy
   have hX:=hhx w hx
   have hY:=hhy w hy
   have hlx:(x.drop k).length=x.length-k:=by simp
   have hly:(y.drop k).length=y.length-k:=by simp
   have HP:=hP.out
   have i1:(0:Int)≤(k:Int):=by omega
   have i2:(k:Int)≤(x.length:Int):=by omega
   have i3:(k:Int)≤(y.length:Int):=by omega
   go_wp2_with fail
   go_quiet (fail)
   go_wp2_with fail
   have hwq:Below w.heap.size w (wr.drewN nq):=Below.dN hB nq
   have hoq:(wr.drewN nq).ownsRow w.heap.size 3 1 (.slice (some ⟨g,0,none⟩) x.length x.length) x.length (icells Z):=hO
   generalize wr.drewN nq=wq at *
   rw[← hlx] at hX ⊢
   rw[← hly] at hY ⊢
   clear hsx hsy hhx hhy hP hO hB hO2 hB02 HF
   generalize x.drop k=X at *
   generalize y.drop k=Y at *
   have HXL:Hid (X.length=x.length-k):=hlx
   have hXb:X.length≤4096:=by omega
   have hYb:Y.length≤4096:=by omega
   have hkX:k+X.length=x.length:=by omega
   clear hlx hly
   obtain⟨M,hM⟩:∃ M,M=Y.length+1:=⟨_,rfl⟩
   obtain⟨N,hN⟩:∃ N,N=(X.length+1) * M:=⟨_,rfl⟩
   have HM:Hid (M=Y.length+1):=hM
   have HN:Hid (N=(X.length+1) * M):=hN
   clear hM hN
   refine (Zld X Y _ _ _ (HI.keep hX hwq (Nat.le_refl _)) (HI.keep hY hwq (Nat.le_refl _)) hXb hYb N M HM HN).mono ?_
   rintro e w3 ⟨gt,T,rfl,hT,hD,hB3⟩
   have hB03:=hwq.trans (hB3.mono hwq.size)
   have hO3:=ZnI hoq hB3
   have hT':w3.ownsRow w.heap.size 305 1 (.slice (some ⟨gt,0,none⟩) N N) N T:=by
    refine⟨hT.1,?_⟩
    rcases hT.2 with h | ⟨g',cap,cur,q1,q2,q3⟩
    ·exact .inl h
    ·exact .inr ⟨g',cap,cur,q1,Nat.le_trans hwq.size q2,q3⟩
   have hS0:Kst w g gt w3.heap.size x.length M N Z T (w3.alloc (Obj.cells #[.int .i64 (M:Int),.slice (some ⟨gt,0,none⟩) N N] 277)):=⟨hB03.alloc hB03.size _,hO3.alloc _,hT'.alloc _,_root_.Go.heap_alloc_new w3 _⟩
   obtain⟨bx,hbx⟩:∃ bx,bx=w3.heap.size:=⟨_,rfl⟩
   have HD:Hid (Done X Y 0 0 T):=hD
   have HP0:Hid (Pt K Z x.length k (k:Int) X Y):=HP
   clear hT hB3 hwq hoq hT' hO3 hB03 hD HP
   unfold tabV
   go_wp2
   go_loopw [9,10] (fun iv jv wi=>∃ (i j:Nat) (Z':List Int),i≤X.length∧j≤Y.length∧iv=.int .i64 (i:Int)∧jv=.int .i64 (j:Int)∧Kst w g gt w3.heap.size x.length M N Z' T wi∧Hid (Pt K Z' x.length (k+i) ((k:Int)+(j:Int)) (X.drop i) (Y.drop j))) (fun iv jv _=>X.length-(intOf iv).toNat+(Y.length-(intOf jv).toNat))
   case atStart=>exact⟨0,0,Z,Nat.zero_le _,Nat.zero_le _,rfl,rfl,hS0,(by show Pt _ _ _ _ _ _ _;simpa using HP0.out)⟩
   case round =>
    obtain⟨i,j,Z',hi,hj,rfl,rfl,hS,hP⟩:=hrel
    clear hS0 HP0
    by_cases hix:i<X.length
    ·by_cases hjy:j<Y.length
     ·obtain⟨bX,oX,rfl,_,hcx⟩:=HI.at (HI.keep hX hS.low (Nat.le_refl _)) (by omega)
      obtain⟨bY,oY,rfl,_,hcy⟩:=HI.at (HI.keep hY hS.low (Nat.le_refl _)) (by omega)
      have d1:=hcx i hix
      have d2:=hcy j hjy
      have hkp:=ZjH ((k:Int)+(j:Int)) X Y i j hix hjy
      obtain⟨xi,hxi⟩:∃ z,X[i]=z:=⟨_,rfl⟩
      obtain⟨yj,hyj⟩:∃ z,Y[j]=z:=⟨_,rfl⟩
      rw[hxi] at d1 hkp
      rw[hyj] at d2 hkp
      clear hcx hcy hxi hyj
      have i1:0≤(i:Int):=by omega
      have i2:(i:Int)<(X.length:Int):=by omega
      have i3:0≤(j:Int):=by omega
      have i4:(j:Int)<(Y.length:Int):=by omega
      by_cases hxy:xi=yj
      ·rw[if_pos hxy] at hkp
       have HKP:=hP.out.pair (by omega) hkp
       have HP2:Hid (Pt K (Z'.set (k+i) ((k:Int)+(j:Int))) x.length (k+(i+1)) ((k:Int)+((j+1:Nat):Int)) (X.drop (i+1)) (Y.drop (j+1))):=(by
        show Pt _ _ _ _ _ _ _
        rw[show k+(i+1)=k+i+1 by omega,show (k:Int)+((j+1:Nat):Int)=(k:Int)+(j:Int)+1 by omega]
        exact HKP)
       clear hkp HKP
       have f0:=hS.own.frozenAt (k+i)
       have hZl:=hP.out.len
       have y0:=hS.own.cellAt (k+i) (by omega)
       rw[List.getElem?_eq_getElem (by rw[icells_length];omega)] at y0
       obtain⟨z0,hz0⟩:∃ z,(icells Z')[k+i]'(by rw[icells_length];omega)=z:=⟨_,rfl⟩
       rw[hz0] at y0
       have i5:(k:Int)+(i:Int)<(x.length:Int):=by omega
       have i6:0≤(k:Int)+(i:Int):=by omega
       have i7:((k:Int)+(i:Int)).toNat=k+i:=by omega
       have HkX:Hid (k+X.length=x.length):=hkX
       clear hz0 hZl hkX
       go_wp2_with fail
       go_quiet (fail)
       go_wp2
       go_roundw
       case rel=>exact⟨i+1,j+1,_,by omega,by omega,by go_num,by go_num,(hS.drewN _).store (k+i) ((k:Int)+(j:Int)),HP2⟩
       case measure=>simp[intOf];omega
      ·have hxy':decide (xi=yj)=false:=decide_eq_false hxy
       rw[if_neg hxy] at hkp
       have HkX:Hid (k+X.length=x.length):=hkX
       obtain⟨a1,ha1⟩:∃ a,ln X Y (i+1) j=a:=⟨_,rfl⟩
       obtain⟨a2,ha2⟩:∃ a,ln X Y i (j+1)=a:=⟨_,rfl⟩
       obtain⟨p0,hp0⟩:∃ p,p=i * M:=⟨_,rfl⟩
       have hpi:(i:Int) * (M:Int)=(p0:Int):=by rw[hp0];simp
       have hpi1:((i:Int)+1) * (M:Int)=((p0+M:Nat):Int):=by rw[Int.add_mul,hpi];simp
       have t1:=Zfi hS.tab HD.out HM.out HN.out (i+1) j (p0+M+j) (by omega) (by omega) (by rw[hp0,Nat.succ_mul])
       have t2:=Zfi hS.tab HD.out HM.out HN.out i (j+1) (p0+(j+1)) (by omega) (by omega) (by rw[hp0])
       have b1:=Zkn X Y (i+1) j
       have b2:=Zkn X Y i (j+1)
       rw[ha1] at t1 b1 hkp
       rw[ha2] at t2 b2 hkp
       have hNb:N≤1099511627776:=by
        have h1:=HN.out
        have h2:=HM.out
        rw[h1,h2]
        exact Nat.le_trans (Nat.mul_le_mul (show X.length+1≤4097 by omega) (show Y.length+1≤4097 by omega)) (by decide)
       have hq1:p0+M+j<N:=by rw[HN.out,hp0,← Nat.succ_mul];exact ZiH (by have:=HM.out;omega) (by omega)
       have hq2:p0+(j+1)<N:=by rw[HN.out,hp0];exact ZiH (by have:=HM.out;omega) (by omega)
       have c1:((p0+M:Nat):Int)+(j:Int)=((p0+M+j:Nat):Int):=by omega
       have c2:(p0:Int)+((j:Int)+1)=((p0+(j+1):Nat):Int):=by omega
       have n1:(0:Int)≤(a1:Int):=by omega
       have n2:(a1:Int)≤4096:=by omega
       have n3:(0:Int)≤(a2:Int):=by omega
       have n4:(a2:Int)≤4096:=by omega
       have e1:(0:Int)≤(i:Int)+1:=by omega
       have e2:(0:Int)≤(j:Int)+1:=by omega
       have hw1:IntKind.i64.wrap ((i:Int)+1)=(i:Int)+1:=by rw[IntKind.wrap_i64];omega
       have hw2:IntKind.i64.wrap ((j:Int)+1)=(j:Int)+1:=by rw[IntKind.wrap_i64];omega
       clear ha1 ha2 hp0 hkX
       go_wp2_with fail
       go_quiet (fail)
       go_wp2_with fail
       have hSq:=hS.drewN nq
       have t1q:(wr.drewN nq).cell? ⟨gt,p0+M+j,none⟩=some (.int .i16 (a1:Int)):=t1
       have t2q:(wr.drewN nq).cell? ⟨gt,p0+(j+1),none⟩=some (.int .i16 (a2:Int)):=t2
       clear t1 t2 d1 d2 hS
       generalize wr.drewN nq=wq at *
       have hbS:=hSq.bx'
       obtain⟨q0,q1⟩:=hbS.cells
       go_region_held3 (fun u=>u.cell? ⟨w3.heap.size,0,none⟩=some (.int .i64 (M:Int))∧u.cell? ⟨w3.heap.size,1,none⟩=some (.slice (some ⟨gt,0,none⟩) N N)∧Bx w3.heap.size M gt N wq u) (go_keep)
        (first | (go_at_call_has 231 (Value.int IntKind.i64 ((i:Int)+1));refine (ZbJ (at_f M gt N (p0+M) (p0+M+j) ((i:Int)+1) (j:Int) (a1:Int) _ e1 i3 hpi1 c1 hNb hq1 (Bx.cell (show Bx w3.heap.size M gt N wq _ from (by first | assumption | (rw[ZbI];assumption))) t1q) n1 n2) w3.heap.size M gt N wq (by first | assumption | (rw[ZbI];assumption))).mono ?_;rintro e w' ⟨rfl,e0,e1,hbS1⟩) | (go_at_call_has 231 (Value.int IntKind.i64 ((j:Int)+1));refine (ZbJ (at_f M gt N p0 (p0+(j+1)) (i:Int) ((j:Int)+1) (a2:Int) _ i1 e2 hpi c2 hNb hq2 (Bx.cell (show Bx w3.heap.size M gt N wq _ from (by first | assumption | (rw[ZbI];assumption))) t2q) n3 n4) w3.heap.size M gt N wq (by first | assumption | (rw[ZbI];assumption))).mono ?_;rintro e w' ⟨rfl,e0,e1,hbS2⟩))
       have hSn:=hSq.keep hbS2.low
       clear hbS hbS1 hbS2 hSq t1q t2q q0 q1 e0 e1 hpi hpi1 c1 c2 hw1 hw2
       by_cases hle:a2≤a1
       ·rw[if_pos hle] at hkp
        have hle':(a2:Int)≤(a1:Int):=by omega
        have HP2:Hid (Pt K Z' x.length (k+(i+1)) ((k:Int)+(j:Int)) (X.drop (i+1)) (Y.drop j)):=(by
         show Pt _ _ _ _ _ _ _
         rw[show k+(i+1)=k+i+1 by omega]
         exact hP.out.out (by have:=HkX.out;omega) hkp)
        clear hkp
        go_wp2
        go_roundw
        case rel=>exact⟨i+1,j,Z',by omega,by omega,by go_num,rfl,hSn,HP2⟩
        case measure=>simp[intOf];omega
       ·rw[if_neg hle] at hkp
        have hle':¬ (a2:Int)≤(a1:Int):=by omega
        have HP2:Hid (Pt K Z' x.length (k+i) ((k:Int)+((j+1:Nat):Int)) (X.drop i) (Y.drop (j+1))):=(by
         show Pt _ _ _ _ _ _ _
         rw[show (k:Int)+((j+1:Nat):Int)=(k:Int)+(j:Int)+1 by omega]
         exact hP.out.skip hkp)
        clear hkp
        go_wp2
        go_roundw
        case rel=>exact⟨i,j+1,Z',by omega,by omega,rfl,by go_num,hSn,HP2⟩
        case measure=>simp[intOf];omega
     ·have hZ:Z'=K:=hP.out.done (by simp;omega) (.inr (List.drop_of_length_le (by omega)))
      have hj':¬ (j:Int)<(Y.length:Int):=by omega
      have hi':(i:Int)<(X.length:Int):=by omega
      subst hZ
      have hl:=hP.out.len
      go_wp2
      go_ret
      refine⟨_,rfl,?_,hS.low⟩
      unfold HI
      rw[hl]
      exact holds_of hS.own
    ·have hZ:Z'=K:=hP.out.done (by simp;omega) (.inl (List.drop_of_length_le (by omega)))
     have hi':¬ (i:Int)<(X.length:Int):=by omega
     subst hZ
     have hl:=hP.out.len
     go_wp2
     go_ret
     refine⟨_,rfl,?_,hS.low⟩
     unfold HI
     rw[hl]
     exact holds_of hS.own
end

section
open Go.RowKit
theorem Zah (x y:List Int) (vx vy:Value) (w:World) (hx:HI w vx x) (hy:HI w vy y) (hxl:x.length≤4096) (hyl:y.length≤4096) (L:List Ch) (hL:Hid (mkL (kp 0 x y) y.length=L)) :
  Calls Tryz.prog 127 #[vx,vy] w fun e w'=>∃ v',e=.returned (.tuple #[v',.int .i64 0])∧HCh w' v' L∧Below w.heap.size w w':=by
 obtain⟨xo,xc,rfl⟩:=Holds.form hx
 obtain⟨yo,yc,rfl⟩:=Holds.form hy
 go_enter Tryz.func127,Tryz.ntmps127
 go_wp2_with fail
 refine (ZsS x y _ _ _ hx hy false (by show _=_;symm;simp;omega)).mono ?_
 rintro e w0 ⟨rfl,rfl⟩
 go_wp2_with fail
 refine (Zjs x y _ _ _ hx hy hxl hyl (kp 0 x y) rfl).mono ?_
 rintro e w1 ⟨v,rfl,hv,hB1⟩
 have hkl:=ZjB 0 x y
 have hvk:Hid (Vk 0 (y.length:Int) (kp 0 x y)):=(by
  have:=ZjI 0 x y (Int.le_refl _)
  rw[Int.zero_add] at this
  exact this)
 generalize kp 0 x y=K at *
 obtain⟨o1,c1,rfl⟩:=Holds.form hv
 have hKl:K.length≤1048576:=by omega
 have HKL:Hid (K.length=x.length):=hkl
 clear hkl
 go_wp2_with fail
 refine (Zap K y.length L _ _ hv hKl hvk (by omega) (by omega) hL).mono ?_
 rintro e w2 ⟨v2,rfl,hv2,hB2⟩
 go_wp2
 go_ret2
 exact⟨_,rfl,hv2,hB1.trans (hB2.mono hB1.size)⟩
end

end Go.Proofs.YtgiojkhmkeocfaaGreatDoor

/- A script that is made of what is kept keeps it: plain. -/
namespace Go.Proofs.YtgiojkhmkeocfaaGreatDoor
end Go.Proofs.YtgiojkhmkeocfaaGreatDoor

namespace Go.Proofs.YtgiojkhmkeocfaaGreatDoor

section
def sub (x:List Int) (a b:Nat):List Int:=(x.drop a).take (b-a)
theorem Zsw (x:List Int) (a b:Nat) (hb:b≤x.length):(sub x a b).length=b-a:=by
 unfold sub
 rw[List.length_take,List.length_drop]
 omega
def tfN (x y:List Int):Nat→Nat→Nat→Nat
 | 0,_,_=>0
 | n+1,a,c=>if x[a]?=y[c]? then tfN x y n (a+1) (c+1)+1 else 0
def tf (x y:List Int) (a b c d:Nat):Nat:=tfN x y (min (b-a) (d-c)) a c
theorem ZsD (x y:List Int) (a b c d:Nat):tf x y a b c d=if a<b∧c<d∧x[a]?=y[c]? then tf x y (a+1) b (c+1) d+1 else 0:=by
 unfold tf
 by_cases h:a<b∧c<d
 ·rw[show min (b-a) (d-c)=min (b-(a+1)) (d-(c+1))+1 by omega,tfN]
  by_cases e:x[a]?=y[c]?
  ·rw[if_pos e,if_pos ⟨h.1,h.2,e⟩]
  ·rw[if_neg e,if_neg (fun q=>e q.2.2)]
 ·rw[show min (b-a) (d-c)=0 by omega,tfN,if_neg (fun q=>h ⟨q.1,q.2.1⟩)]
def tb (x y:List Int) (a b c d:Nat):Nat:=if a<b∧c<d∧x[b-1]?=y[d-1]? then tb x y a (b-1) c (d-1)+1 else 0
theorem ZsE (x y:List Int) (a b c d:Nat):tf x y a b c d≤b-a∧tf x y a b c d≤d-c:=by
 induction h:b-a generalizing a c with
 | zero=>rw[ZsD,if_neg (by omega)];omega
 | succ n ih =>
  rw[ZsD]
  split
  ·have:=ih (a+1) (c+1) (by omega)
   omega
  ·omega
theorem ZsA (x y:List Int) (a b c d:Nat):tb x y a b c d≤b-a∧tb x y a b c d≤d-c:=by
 induction h:b-a generalizing b d with
 | zero=>rw[tb,if_neg (by omega)];omega
 | succ n ih =>
  rw[tb]
  split
  ·have:=ih (b-1) (d-1) (by omega)
   omega
  ·omega
def fp (a c:Nat):Nat→List Pr
 | 0=>[]
 | k+1=>⟨a,c⟩::fp (a+1) (c+1) k
def bp (b d:Nat):Nat→List Pr
 | 0=>[]
 | k+1=>⟨(b-1:Nat),(d-1:Nat)⟩::bp (b-1) (d-1) k
def Wn (a b c d:Nat) (p:Pr):Prop:=(a:Int)≤p.X∧p.X<b∧(c:Int)≤p.Y∧p.Y<d
theorem ZbF (b d k:Nat) (hb:k≤b) (hd:k≤d):∀ p∈bp b d k,Wn (b-k) b (d-k) d p:=by
 induction k generalizing b d with
 | zero=>intro p hp;simp[bp] at hp
 | succ k ih =>
  intro p hp
  rw[bp] at hp
  rcases List.mem_cons.1 hp with rfl | hp
  ·unfold Wn
   dsimp only
   omega
  ·have:=ih (b-1) (d-1) (by omega) (by omega) p hp
   unfold Wn at this ⊢
   omega
def lp (a c:Int):List Int→List Pr
 | []=>[]
 | j::K=>(if j=-1 then [] else [⟨a,c+j⟩])++lp (a+1) c K
def ends (x y:List Int) (N:Nat→Nat→Nat→Nat→List Pr) (a b c d:Nat):List Pr :=
 fp a c (tf x y a b c d)++(bp b d (tb x y (a+tf x y a b c d) b (c+tf x y a b c d) d) ++
  (if a+tf x y a b c d<b-tb x y (a+tf x y a b c d) b (c+tf x y a b c d) d∧c+tf x y a b c d<d-tb x y (a+tf x y a b c d) b (c+tf x y a b c d) d then
   N (a+tf x y a b c d) (b-tb x y (a+tf x y a b c d) b (c+tf x y a b c d) d) (c+tf x y a b c d) (d-tb x y (a+tf x y a b c d) b (c+tf x y a b c d) d)
  else []))
def pcs (M:(Nat→Nat→Nat→Nat→List Pr)→Nat→Nat→Nat→Nat→List Pr) (x y:List Int):Nat→Nat→Nat→Nat→Nat→List Pr
 | 0,_,_,_,_=>[]
 | f+1,a,b,c,d=>ends x y (M (pcs M x y f)) a b c d
def wrk (K:List Int) (l:List Pr):List Int:=l.foldl (fun K p=>K.set p.X.toNat p.Y) K
theorem Zvh (K:List Int) (p:Pr) (b:List Pr):wrk K (p::b)=wrk (K.set p.X.toNat p.Y) b:=rfl
theorem Zvk (K:List Int) (l:List Pr):(wrk K l).length=K.length:=by
 induction l generalizing K with
 | nil=>rfl
 | cons p l ih=>rw[Zvh,ih,List.length_set]
theorem Zvg (K:List Int) (l:List Pr) (u:Nat) (v:Int) (h:∀ p∈l,p.X.toNat≠u):wrk (K.set u v) l=(wrk K l).set u v:=by
 induction l generalizing K with
 | nil=>rfl
 | cons p l ih =>
  rw[Zvh,Zvh,List.set_comm _ _ (fun e=>h p (List.mem_cons_self ..) e.symm),ih _ (fun q hq=>h q (List.mem_cons_of_mem _ hq))]
theorem ZsF (x y:List Int) (a b c d:Nat):∀ i,i<tf x y a b c d→x[a+i]?=y[c+i]?:=by
 induction h:b-a generalizing a c with
 | zero=>intro i hi;rw[ZsD,if_neg (by omega)] at hi;omega
 | succ n ih =>
  intro i hi
  rw[ZsD] at hi
  split at hi
  ·rename_i hh
   cases i with
   | zero=>exact hh.2.2
   | succ i =>
    have:=ih (a+1) (c+1) (by omega) i (by omega)
    rw[show a+(i+1)=a+1+i by omega,show c+(i+1)=c+1+i by omega]
    exact this
  ·omega
theorem ZsB (x y:List Int) (a b c d:Nat):∀ i,i<tb x y a b c d→x[b-(i+1)]?=y[d-(i+1)]?:=by
 induction h:b-a generalizing b d with
 | zero=>intro i hi;rw[tb,if_neg (by omega)] at hi;omega
 | succ n ih =>
  intro i hi
  rw[tb] at hi
  split at hi
  ·rename_i hh
   cases i with
   | zero=>exact hh.2.2
   | succ i =>
    have:=ih (b-1) (d-1) (by omega) i (by omega)
    rw[show b-(i+1+1)=b-1-(i+1) by omega,show d-(i+1+1)=d-1-(i+1) by omega]
    exact this
  ·omega
def Ris (l:List Pr):Prop:=∀ p∈l,∀ q∈l,p=q∨ab q p∨ab p q
structure Okp (x y:List Int) (a b c d:Nat) (l:List Pr):Prop where
 wn:∀ p∈l,Wn a b c d p
 ris:Ris l
 eqs:∀ p∈l,x[p.X.toNat]?=y[p.Y.toNat]?
section
variable {x y:List Int}
theorem Okp.nil (a b c d:Nat):Okp x y a b c d []:=⟨fun p hp=>by simp at hp,fun p hp=>by simp at hp,fun p hp=>by simp at hp⟩
theorem Okp.mono {a b c d a' b' c' d':Nat} {l:List Pr} (h:Okp x y a b c d l) (ha:a'≤a) (hb:b≤b') (hc:c'≤c) (hd:d≤d'):Okp x y a' b' c' d' l:=⟨fun p hp=>by have:=h.wn p hp;unfold Wn at this ⊢;omega,h.ris,h.eqs⟩
theorem Okp.one {a c:Nat} (h:x[a]?=y[c]?):Okp x y a (a+1) c (c+1) [⟨a,c⟩]:=⟨fun p hp=>by simp at hp;subst hp;unfold Wn;dsimp only;omega,fun p hp q hq=>by simp at hp hq;subst hp;subst hq;exact .inl rfl,fun p hp=>by simp at hp;subst hp;simpa using h⟩
theorem Okp.cat {a b c d a' b' c' d' A B C D:Nat} {l l':List Pr} (h:Okp x y a b c d l) (h':Okp x y a' b' c' d' l') (hs:(b≤a'∧d≤c')∨(b'≤a∧d'≤c)) (h1:A≤a∧A≤a') (h2:b≤B∧b'≤B) (h3:C≤c∧C≤c') (h4:d≤D∧d'≤D):Okp x y A B C D (l++l'):=by
 refine⟨fun p hp=>?_,fun p hp q hq=>?_,fun p hp=>?_⟩
 ·rcases List.mem_append.1 hp with hp | hp
  ·exact (h.mono h1.1 h2.1 h3.1 h4.1).wn p hp
  ·exact (h'.mono h1.2 h2.2 h3.2 h4.2).wn p hp
 ·rcases List.mem_append.1 hp with hp | hp<;>rcases List.mem_append.1 hq with hq | hq
  ·exact h.ris p hp q hq
  ·have e1:=h.wn p hp
   have e2:=h'.wn q hq
   unfold Wn at e1 e2
   rcases hs with hs | hs
   ·exact .inr (.inl ⟨by omega,by omega⟩)
   ·exact .inr (.inr ⟨by omega,by omega⟩)
  ·have e1:=h'.wn p hp
   have e2:=h.wn q hq
   unfold Wn at e1 e2
   rcases hs with hs | hs
   ·exact .inr (.inr ⟨by omega,by omega⟩)
   ·exact .inr (.inl ⟨by omega,by omega⟩)
  ·exact h'.ris p hp q hq
 ·rcases List.mem_append.1 hp with hp | hp
  ·exact h.eqs p hp
  ·exact h'.eqs p hp
theorem ZgD (a c k:Nat) (h:∀ i,i<k→x[a+i]?=y[c+i]?):Okp x y a (a+k) c (c+k) (fp a c k):=by
 induction k generalizing a c with
 | zero=>exact Okp.nil _ _ _ _
 | succ k ih=>exact (Okp.one (h 0 (by omega))).cat (ih (a+1) (c+1) (fun i hi=>by have:=h (i+1) (by omega);rw[show a+1+i=a+(i+1) by omega,show c+1+i=c+(i+1) by omega];exact this)) (.inl ⟨by omega,by omega⟩) ⟨by omega,by omega⟩ ⟨by omega,by omega⟩ ⟨by omega,by omega⟩ ⟨by omega,by omega⟩
theorem ZbE (b d k:Nat) (hb:k≤b) (hd:k≤d) (h:∀ i,i<k→x[b-(i+1)]?=y[d-(i+1)]?):Okp x y (b-k) b (d-k) d (bp b d k):=by
 induction k generalizing b d with
 | zero=>exact Okp.nil _ _ _ _
 | succ k ih =>
  have h0:Okp x y (b-1) (b-1+1) (d-1) (d-1+1) [⟨(b-1:Nat),(d-1:Nat)⟩]:=Okp.one (by simpa using h 0 (by omega))
  exact h0.cat (ih (b-1) (d-1) (by omega) (by omega) (fun i hi=>by have:=h (i+1) (by omega);rw[show b-1-(i+1)=b-(i+1+1) by omega,show d-1-(i+1)=d-(i+1+1) by omega];exact this)) (.inr ⟨by omega,by omega⟩) ⟨by omega,by omega⟩ ⟨by omega,by omega⟩ ⟨by omega,by omega⟩ ⟨by omega,by omega⟩
theorem ZkL (K:List Int):∀ (a c nx m:Nat),Vk nx m K→(∀ (i q:Nat),K[i]?=some (q:Int)→x[a+i]?=y[c+q]?)→Okp x y a (a+K.length) (c+nx) (c+m) (lp a c K):=by
 induction K with
 | nil=>intro a c nx m _ _;exact Okp.nil _ _ _ _
 | cons z K ih =>
  intro a c nx m h hs
  rw[lp]
  simp only[List.length_cons]
  have hs':∀ (i q:Nat),K[i]?=some (q:Int)→x[a+1+i]?=y[c+q]?:=fun i q hi=>by
   have:=hs (i+1) q (by simpa using hi)
   rw[show a+1+i=a+(i+1) by omega]
   exact this
  rcases h with ⟨hz,h⟩ | ⟨hz,h1,h2,h⟩
  ·rw[if_pos hz,List.nil_append]
   exact (ih (a+1) c nx m h hs').mono (by omega) (by omega) (by omega) (by omega)
  ·rw[if_neg hz]
   obtain⟨j,rfl⟩:∃ j:Nat,z=j:=⟨z.toNat,by omega⟩
   have e1:Okp x y a (a+1) (c+j) (c+j+1) [⟨(a:Int),(c:Int)+(j:Int)⟩]:=by simpa using Okp.one (x:=x) (y:=y) (a:=a) (c:=c+j) (by simpa using hs 0 j (by simp))
   exact e1.cat (ih (a+1) c (j+1) m (by simpa using h) hs') (.inl ⟨by omega,by omega⟩) ⟨by omega,by omega⟩ ⟨by omega,by omega⟩ ⟨by omega,by omega⟩ ⟨by omega,by omega⟩
end
theorem Zsv (x:List Int) (a b i:Nat) (hi:i<b-a):(sub x a b)[i]?=x[a+i]?:=by
 unfold sub
 rw[List.getElem?_take_of_lt hi,List.getElem?_drop]
theorem Zsx {x:List Int} {a b i:Nat} {z:Int} (h:(sub x a b)[i]?=some z):i<b-a∧x[a+i]?=some z:=by
 have h1:=(List.getElem?_eq_some_iff.1 h).1
 unfold sub at h1
 rw[List.length_take] at h1
 exact⟨by omega,by rw[← Zsv x a b i (by omega)];exact h⟩
theorem ZjU (x y:List Int) (a b c d:Nat) (hab:a≤b) (hb:b≤x.length) (hcd:c≤d) (hd:d≤y.length):Okp x y a b c d (lp a c (kp 0 (sub x a b) (sub y c d))):=by
 have h1:=ZkL (x:=x) (y:=y) (kp 0 (sub x a b) (sub y c d)) a c 0 (d-c) (by
  have:=ZjI 0 (sub x a b) (sub y c d) (Int.le_refl _)
  rw[Zsw y _ _ (by omega),Int.zero_add] at this
  exact this) (fun i q hq=>by
   obtain⟨_,z,h1,h2⟩:=ZjE 0 _ _ (Int.le_refl _) i q hq (by omega)
   rw[show ((q:Int)-0).toNat=q by omega] at h2
   rw[(Zsx h1).2,(Zsx h2).2])
 rw[ZjB,Zsw x _ _ (by omega)] at h1
 exact h1.mono (Nat.le_refl _) (by omega) (by omega) (by omega)
theorem Zfr (x y:List Int) (N:Nat→Nat→Nat→Nat→List Pr) (a b c d:Nat) (hab:a≤b) (_:b≤x.length) (hcd:c≤d) (_:d≤y.length) (hN:∀ a' b' c' d',a≤a'→a'<b'→b'≤b→c≤c'→c'<d'→d'≤d→Okp x y a' b' c' d' (N a' b' c' d')):Okp x y a b c d (ends x y N a b c d):=by
 unfold ends
 have hk:=ZsE x y a b c d
 have hks:=ZsF x y a b c d
 generalize tf x y a b c d=k at hk hks ⊢
 have hm:=ZsA x y (a+k) b (c+k) d
 have hms:=ZsB x y (a+k) b (c+k) d
 generalize tb x y (a+k) b (c+k) d=m at hm hms ⊢
 have hmid:Okp x y (a+k) (b-m) (c+k) (d-m) (if a+k<b-m∧c+k<d-m then N (a+k) (b-m) (c+k) (d-m) else []):=by
  split
  ·rename_i h
   exact hN _ _ _ _ (by omega) h.1 (by omega) (by omega) h.2 (by omega)
  ·exact Okp.nil _ _ _ _
 have h1:=ZgD (x:=x) (y:=y) a c k hks
 have h2:=ZbE (x:=x) (y:=y) b d m (by omega) (by omega) hms
 exact h1.cat (h2.cat hmid (.inr ⟨by omega,by omega⟩) (A:=a+k) (B:=b) (C:=c+k) (D:=d) ⟨by omega,by omega⟩ ⟨by omega,by omega⟩ ⟨by omega,by omega⟩ ⟨by omega,by omega⟩) (.inl ⟨by omega,by omega⟩) ⟨by omega,by omega⟩ ⟨by omega,by omega⟩ ⟨by omega,by omega⟩ ⟨by omega,by omega⟩
def MOk (M:(Nat→Nat→Nat→Nat→List Pr)→Nat→Nat→Nat→Nat→List Pr) (x y:List Int):Prop:=∀ (rec:Nat→Nat→Nat→Nat→List Pr) (a b c d:Nat),a<b→b≤x.length→c<d→d≤y.length→(∀ a' b' c' d',a'≤b'→b'≤x.length→c'≤d'→d'≤y.length→Okp x y a' b' c' d' (rec a' b' c' d'))→Okp x y a b c d (M rec a b c d)
theorem Zoe {M:(Nat→Nat→Nat→Nat→List Pr)→Nat→Nat→Nat→Nat→List Pr} {x y:List Int} (hM:MOk M x y) (f:Nat):∀ a b c d,a≤b→b≤x.length→c≤d→d≤y.length→Okp x y a b c d (pcs M x y f a b c d):=by
 induction f with
 | zero=>intro a b c d _ _ _ _;exact Okp.nil _ _ _ _
 | succ f ih =>
  intro a b c d hab hb hcd hd
  rw[pcs]
  exact Zfr x y _ a b c d hab hb hcd hd (fun a' b' c' d' _ h2 h3 _ h5 h6=>hM _ a' b' c' d' h2 (by omega) h5 (by omega) ih)
theorem Zvi (l:List Pr):∀ (K:List Int) (i:Nat) (z:Int),(wrk K l)[i]?=some z→K[i]?=some z∨∃ p∈l,p.X.toNat=i∧p.Y=z:=by
 induction l with
 | nil=>intro K i z h;exact .inl h
 | cons p l ih =>
  intro K i z h
  rw[Zvh] at h
  rcases ih _ i z h with h | ⟨q,hq,h⟩
  ·by_cases e:p.X.toNat=i
   ·subst e
    by_cases hl:p.X.toNat<K.length
    ·rw[List.getElem?_set_self hl] at h
     cases h
     exact .inr ⟨p,List.mem_cons_self ..,rfl,rfl⟩
    ·rw[List.getElem?_eq_none (by rw[List.length_set];omega)] at h
     cases h
   ·rw[List.getElem?_set_ne e] at h
    exact .inl h
  ·exact .inr ⟨q,List.mem_cons_of_mem _ hq,h⟩
theorem Zux (K:List Int):∀ (nx m:Int),(∀ z∈K,z=-1∨(nx≤z∧z<m))→K.Pairwise (fun z z'=>z=-1∨z'=-1∨z<z')→Vk nx m K:=by
 induction K with
 | nil=>intro _ _ _ _;trivial
 | cons z K ih =>
  intro nx m h1 h2
  have h2':=List.pairwise_cons.1 h2
  by_cases hz:z=-1
  ·exact .inl ⟨hz,ih nx m (fun y hy=>h1 y (List.mem_cons_of_mem _ hy)) h2'.2⟩
  ·have h3:=(h1 z (List.mem_cons_self ..)).resolve_left hz
   refine .inr ⟨hz,h3.1,h3.2,ih (z+1) m (fun y hy=>?_) h2'.2⟩
   rcases h1 y (List.mem_cons_of_mem _ hy) with e | e
   ·exact .inl e
   ·rcases h2'.1 y hy with q | q | q
    ·exact absurd q hz
    ·exact .inl q
    ·exact .inr ⟨by omega,e.2⟩
theorem Zvl {x y:List Int} (n m:Nat) (l:List Pr) (h:Okp x y 0 n 0 m l):Vk 0 m (wrk (List.replicate n (-1)) l):=by
 have hget:∀ (i:Nat) (z:Int),(wrk (List.replicate n (-1)) l)[i]?=some z→z=-1∨∃ p∈l,p.X=i∧p.Y=z:=fun i z hz=>by
  rcases Zvi l _ i z hz with q | ⟨p,hp,q1,q2⟩
  ·left
   rw[List.getElem?_replicate] at q
   split at q
   ·cases q;rfl
   ·cases q
  ·have:=h.wn p hp
   unfold Wn at this
   exact .inr ⟨p,hp,by omega,q2⟩
 refine Zux _ 0 m (fun z hz=>?_) (List.pairwise_iff_getElem.2 fun i j hi hj hij=>?_)
 ·obtain⟨i,hi,e⟩:=List.getElem_of_mem hz
  rcases hget i z (by rw[List.getElem?_eq_getElem hi,e]) with q | ⟨p,hp,_,q2⟩
  ·exact .inl q
  ·have:=h.wn p hp
   unfold Wn at this
   exact .inr ⟨by omega,by omega⟩
 ·rcases hget i _ (List.getElem?_eq_getElem hi) with q | ⟨p,hp,p1,p2⟩
  ·exact .inl q
  ·rcases hget j _ (List.getElem?_eq_getElem hj) with q | ⟨q,hq,q1,q2⟩
   ·exact .inr (.inl q)
   ·refine .inr (.inr ?_)
    rw[← p2,← q2]
    rcases h.ris p hp q hq with e | e | e
    ·subst e
     omega
    ·exact e.2
    ·have:=e.1
     omega
theorem Zvj (l:List Pr) (n:Nat) (hr:Ris l) (hw:∀ p∈l,0≤p.X∧p.X<n):∀ K:List Int,K.length=n→∀ p∈l,(wrk K l)[p.X.toNat]?=some p.Y:=by
 induction l with
 | nil=>intro K _ p hp;simp at hp
 | cons q l ih =>
  intro K hK p hp
  rw[Zvh]
  have ih':=ih (fun a ha b hb=>hr a (List.mem_cons_of_mem _ ha) b (List.mem_cons_of_mem _ hb)) (fun a ha=>hw a (List.mem_cons_of_mem _ ha)) (K.set q.X.toNat q.Y) (by rw[List.length_set];exact hK)
  by_cases h:p∈l
  ·exact ih' p h
  ·have e:p=q:=(List.mem_cons.1 hp).resolve_right h
   subst e
   have hb:=hw p (List.mem_cons_self ..)
   by_cases hx:∃ r∈l,r.X.toNat=p.X.toNat
   ·obtain⟨r,h1,h2⟩:=hx
    have hrb:=hw r (List.mem_cons_of_mem _ h1)
    rcases hr p (List.mem_cons_self ..) r (List.mem_cons_of_mem _ h1) with e | e | e
    ·subst e;exact ih' p h1
    ·have:=e.1;omega
    ·have:=e.1;omega
   ·rw[Zvg K l _ _ (fun r h1 h2=>hx ⟨r,h1,h2⟩),List.getElem?_set_self (by rw[Zvk];omega)]
theorem Zlx (n:Nat):mkL ((List.range n).map fun (j:Nat)=>(0:Int)+(j:Int)) n=[]:=by
 unfold mkL
 rw[Zjq 0 0 (Int.le_refl _)]
 have:=Zbo 0 0 n [⟨(n:Int),(n:Int),0⟩]
 simp at this ⊢
 first | (rw[this];simp[betw]) | simpa [betw] using this
theorem Zmt {K x y:List Int} (hV:Vk 0 y.length K) (hl:K.length=x.length) (hs:∀ (i q:Nat),K[i]?=some (q:Int)→x[i]?=y[q]?) (hx:x.length≤4096) (hy:y.length≤4096) (h:mkL K y.length=[]):x=y:=by
 obtain⟨⟨_,_,hS⟩,hU⟩:=ZlE hV (by omega) (by omega) (by rw[hl];omega)
 rw[h] at hS hU
 rw[Zax] at hU
 have hnm:x.length=y.length:=by
  have h1:=hS.2.2
  rw[hl] at h1
  omega
 apply List.ext_getElem? 
 intro i
 by_cases hi:i<x.length
 ·have hm:(⟨(i:Int),(i:Int),1⟩:Rn)∈keptR 0 K:=by
   rw[← hU,Zlp]
   rw[hl]
   refine⟨rfl,?_,?_,?_⟩<;>dsimp only<;>omega
  rw[Zln] at hm
  obtain⟨_,_,h3,_⟩:=hm
  dsimp only at h3
  rw[show ((i:Int)-0).toNat=i by omega] at h3
  exact hs i i h3
 ·rw[List.getElem?_eq_none (by omega),List.getElem?_eq_none (by omega)]
structure Kpt (x y K:List Int):Prop where
 vk:Vk 0 y.length K
 len:K.length=x.length
 eqs:∀ (i q:Nat),K[i]?=some (q:Int)→x[i]?=y[q]?
theorem Okp.kpt {x y:List Int} {l:List Pr} (h:Okp x y 0 x.length 0 y.length l):Kpt x y (wrk (List.replicate x.length (-1)) l):=by
 refine⟨Zvl _ _ _ h,by rw[Zvk];simp,fun i q hq=>?_⟩
 rcases Zvi l _ i q hq with e | ⟨p,hp,e1,e2⟩
 ·rw[List.getElem?_replicate] at e
  split at e
  ·simp at e
  ·cases e
 ·have h1:=h.eqs p hp
  rw[e1,e2] at h1
  simpa using h1
theorem Okp.at {x y:List Int} {l:List Pr} (h:Okp x y 0 x.length 0 y.length l) {p:Pr} (hp:p∈l):(wrk (List.replicate x.length (-1)) l)[p.X.toNat]?=some p.Y :=
 Zvj l x.length h.ris (fun q hq=>by have:=h.wn q hq;unfold Wn at this;omega) _ (by simp) p hp
theorem Zlm {a c k:Nat} {p:Pr}:p∈fp a c k↔∃ i,i<k∧p=⟨(a+i:Nat),(c+i:Nat)⟩:=by
 induction k generalizing a c with
 | zero=>simp[fp]
 | succ k ih =>
  rw[fp,List.mem_cons,ih]
  constructor
  ·rintro (rfl | ⟨i,hi,rfl⟩)
   ·exact⟨0,by omega,by simp⟩
   ·exact⟨i+1,by omega,by rw[show a+1+i=a+(i+1) by omega,show c+1+i=c+(i+1) by omega]⟩
  ·rintro⟨i,hi,rfl⟩
   cases i with
   | zero=>left;simp
   | succ i=>exact .inr ⟨i,by omega,by rw[show a+1+i=a+(i+1) by omega,show c+1+i=c+(i+1) by omega]⟩
theorem ZsC (x:List Int) (a b:Nat):tf x x a b a b=b-a:=by
 induction h:b-a generalizing a with
 | zero=>rw[ZsD,if_neg (by omega)]
 | succ n ih=>rw[ZsD,if_pos ⟨by omega,by omega,rfl⟩,ih (a+1) (by omega)]
end

section
structure Hr where
 X:Nat
 Y:Nat
 N:Nat
 R:Nat
def cnt (x:List Int) (k:Nat):Nat:=match x[k]? with
 | some c=>x.count c
 | none=>x.length
def rar (x:List Int) (i:Nat):Nat→Nat
 | 0=>x.length
 | n+1=>min (rar x i n) (cnt x (i+n))
def tl (x y:List Int) (i j:Nat):Nat:=tf x y i x.length j y.length
def hd (x y:List Int) (i j:Nat):Nat:=tb x y 0 i 0 j
theorem ZsP (x y:List Int) (i j:Nat):tl x y i j=if i<x.length∧j<y.length∧x[i]?=y[j]? then tl x y (i+1) (j+1)+1 else 0:=by unfold tl;rw[ZsD]
theorem ZsN (x y:List Int) (i j:Nat):tl x y i j≤x.length-i∧tl x y i j≤y.length-j:=ZsE x y i x.length j y.length
theorem ZsO (x y:List Int) (i j:Nat):∀ k,k<tl x y i j→x[i+k]?=y[j+k]?:=ZsF x y i x.length j y.length
structure IsRun (x y:List Int) (r:Hr):Prop where
 hx:r.X<x.length
 hy:r.Y<y.length
 same:x[r.X]?=y[r.Y]?
 fst:¬ (0<r.X∧0<r.Y∧x[r.X-1]?=y[r.Y-1]?)
 n:r.N=tl x y r.X r.Y
 r:r.R=rar x r.X r.N
def hlt (r b:Hr):Prop:=r.R<b.R∨(r.R=b.R∧(b.N<r.N∨(r.N=b.N∧(r.X<b.X∨(r.X=b.X∧r.Y<b.Y)))))
def Bst (x y:List Int) (b:Hr):Prop:=IsRun x y b∧∀ r,IsRun x y r→r=b∨hlt b r
theorem IsRun.pos {x y:List Int} {r:Hr} (h:IsRun x y r):0<r.N:=by
 rw[h.n,ZsP,if_pos ⟨h.hx,h.hy,h.same⟩]
 omega
def pickL (better:Hr→Hr→Bool) (b:Hr) (l:List Hr):Hr:=l.foldl (fun b r=>if better r b then r else b) b
def btR (r b:Hr):Bool:=decide (r.R<b.R) || (decide (r.R=b.R) && decide (b.N<r.N))
def lex (a b:Hr):Prop:=a.X<b.X∨(a.X=b.X∧a.Y<b.Y)
theorem Zof (l:List Hr):∀ (P:List Hr) (b:Hr),b∈P→(∀ r∈P,r=b∨hlt b r)→(P++l).Pairwise lex→pickL btR b l∈P++l∧∀ r∈P++l,r=pickL btR b l∨hlt (pickL btR b l) r:=by
 induction l with
 | nil=>intro P b hb h _;simp only[List.append_nil];exact⟨hb,h⟩
 | cons c l ih =>
  intro P b hb h hp
  have e:P++c::l=(P++[c])++l:=by simp
  rw[e] at hp ⊢
  have hbc:lex b c:=by
   have:=(List.pairwise_append.1 (List.pairwise_append.1 hp).1).2.2 b hb c (List.mem_singleton.2 rfl)
   exact this
  unfold pickL
  rw[List.foldl_cons]
  by_cases hb':btR c b=true
  ·rw[if_pos hb']
   refine ih (P++[c]) c (by simp) (fun r hr=>?_) hp
   rcases List.mem_append.1 hr with hr | hr
   ·right
    have h1:=h r hr
    simp[btR] at hb'
    rcases h1 with rfl | h1
    ·unfold hlt;omega
    ·unfold hlt at h1 ⊢;omega
   ·left
    simpa using hr
  ·rw[if_neg hb']
   refine ih (P++[c]) b (by simp[hb]) (fun r hr=>?_) hp
   rcases List.mem_append.1 hr with hr | hr
   ·exact h r hr
   ·right
    have e2:r=c:=by simpa using hr
    subst e2
    simp[btR] at hb'
    unfold lex at hbc
    unfold hlt
    omega
end

section
def rj (x y:List Int) (i j:Nat):List Hr:=if x[i]?=y[j]?∧¬ (0<i∧0<j∧x[i-1]?=y[j-1]?) then [⟨i,j,tl x y i j,rar x i (tl x y i j)⟩] else []
def rowR (x y:List Int) (i:Nat):List Hr:=(List.range' 0 y.length).flatMap (rj x y i)
def runs (x y:List Int):List Hr:=(List.range' 0 x.length).flatMap (rowR x y)
theorem Zlo (x y:List Int) (r:Hr):r∈runs x y↔IsRun x y r:=by
 unfold runs rowR rj
 simp only[List.mem_flatMap,List.mem_range'_1,Nat.zero_add]
 constructor
 ·rintro⟨i,⟨_,hi⟩,j,⟨_,hj⟩,h⟩
  split at h
  ·rename_i hh
   simp at h
   subst h
   exact⟨hi,hj,hh.1,hh.2,rfl,rfl⟩
  ·simp at h
 ·intro h
  refine⟨r.X,⟨Nat.zero_le _,h.hx⟩,r.Y,⟨Nat.zero_le _,h.hy⟩,?_⟩
  rw[if_pos ⟨h.same,h.fst⟩]
  simp
  obtain⟨X,Y,N,R⟩:=r
  have h1:=h.n
  have h2:=h.r
  simp only at h1 h2 ⊢
  rw[h2,← h1]
theorem Zgw {n:Nat} (f:Nat→List Hr) (s:Nat) (h1:∀ i,∀ r∈f i,r.X=i) (h2:∀ i,(f i).Pairwise lex):((List.range' s n).flatMap f).Pairwise lex:=by
 induction n generalizing s with
 | zero=>exact List.Pairwise.nil
 | succ n ih =>
  rw[List.range'_succ,List.flatMap_cons]
  refine List.pairwise_append.2 ⟨h2 s,ih (s+1),fun a ha b hb=>?_⟩
  rw[List.mem_flatMap] at hb
  obtain⟨i,hi,hb⟩:=hb
  rw[List.mem_range'_1] at hi
  have e1:=h1 s a ha
  have e2:=h1 i b hb
  left
  omega
theorem Zqi {n:Nat} (f:Nat→List Hr) (s X:Nat) (h1:∀ j,∀ r∈f j,r.X=X∧r.Y=j) (h2:∀ j,(f j).Pairwise lex):((List.range' s n).flatMap f).Pairwise lex:=by
 induction n generalizing s with
 | zero=>exact List.Pairwise.nil
 | succ n ih =>
  rw[List.range'_succ,List.flatMap_cons]
  refine List.pairwise_append.2 ⟨h2 s,ih (s+1),fun a ha b hb=>?_⟩
  rw[List.mem_flatMap] at hb
  obtain⟨i,hi,hb⟩:=hb
  rw[List.mem_range'_1] at hi
  have e1:=h1 s a ha
  have e2:=h1 i b hb
  right
  omega
theorem ZpQ (x y:List Int) (i j:Nat):(∀ r∈rj x y i j,r.X=i∧r.Y=j)∧(rj x y i j).Pairwise lex:=by
 unfold rj
 split
 ·refine⟨fun r hr=>?_,List.pairwise_singleton _ _⟩
  simp at hr
  subst hr
  exact⟨rfl,rfl⟩
 ·exact⟨fun r hr=>by simp at hr,List.Pairwise.nil⟩
theorem ZqK (x y:List Int):(runs x y).Pairwise lex:=by
 unfold runs
 refine Zgw _ 0 (fun i r hr=>?_) (fun i=>Zqi _ 0 i (fun j r hr=>(ZpQ x y i j).1 r hr) (fun j=>(ZpQ x y i j).2))
 unfold rowR at hr
 rw[List.mem_flatMap] at hr
 obtain⟨j,_,hr⟩:=hr
 exact ((ZpQ x y i j).1 r hr).1
def best (x y:List Int):Option Hr:=match runs x y with
 | []=>none
 | b::l=>some (pickL btR b l)
theorem Zbm {x y:List Int} {b:Hr} (h:best x y=some b):Bst x y b:=by
 unfold best at h
 cases hr:runs x y with
 | nil=>rw[hr] at h;cases h
 | cons c l =>
  rw[hr] at h
  cases h
  have:=Zof l [c] c (by simp) (fun r hr=>by simp at hr;exact .inl hr) (by have:=ZqK x y;rw[hr] at this;exact this)
  have e:[c]++l=runs x y:=by rw[hr];rfl
  rw[e] at this
  exact⟨(Zlo x y _).1 this.1,fun r h=>this.2 r ((Zlo x y r).2 h)⟩
def runAt (x y:List Int) (i j R:Nat):Hr:=⟨i-hd x y i j,j-hd x y i j,hd x y i j+tl x y i j,R⟩
def skp (x:List Int) (R i t:Nat):Bool:=(List.range t).any fun s=>cnt x (i-(s+1)) == R
def ck (x y:List Int) (R i j:Nat):List Hr:=if skp x R i (hd x y i j) then [] else [runAt x y i j R]
structure Rst (x y:List Int) (R:Nat):Prop where
 le:∀ i j,i<x.length→j<y.length→x[i]?=y[j]?→R≤cnt x i
 ex:∃ i j,i<x.length∧j<y.length∧x[i]?=y[j]?∧cnt x i=R
section
variable {x y:List Int} {R:Nat}
end
def rs (x:List Int):Nat→List Int→Nat
 | l,[]=>l
 | l,c::y=>rs x (if 0<x.count c∧(l=0∨x.count c<l) then x.count c else l) y
end

section
open Go.ChangeShapes Go.WideShapes Go.ChangeAt Go.RowKit
theorem own:ownKnob Tryz.prog.godebug=none:=by kernel_rfl
theorem laidOut:laidOutB Tryz.prog=true:=by kernel_rfl
theorem cellsInt:Tryz.prog.cellsOf 3=1:=by kernel_rfl
theorem cellsCh:Tryz.prog.cellsOf 64=4:=by kernel_rfl
def w64 (z:Int):Prop:=-9223372036854775808≤z∧z≤9223372036854775807
theorem Zuy {z:Int} (h:(Lit.int .i64 z).wf=true):w64 z:=bounds_i64 h
def wCh (c:Ch):Prop:=w64 c.A∧w64 c.AN∧w64 c.B∧w64 c.BN
theorem Zkk {H:Type} (l:List Int):l.length≤Rows.uptoBulkAll (lits (H:=H) .i64 l):=by
 induction l with
 | nil=>simp[lits,Rows.uptoBulkAll]
 | cons s t ih =>
  have e:lits (H:=H) .i64 (s::t)=.lit (.int .i64 s)::lits .i64 t:=rfl
  rw[e]
  simp only[Rows.uptoBulkAll,Rows.uptoBulk,List.length_cons]
  omega
theorem Znu {H:Type} {enc:TypeId × Value→H} {W:World} {fuel:Nat} {ao:Option Addr} {len cap:Nat} {d:DataW H} {p:List MemPlace}
  (h:DataW.trod enc Tryz.prog W 0 (fun _=>true) true fuel 71 [.slice ao len cap]=some (d,p)) :
  ∃ zs:List Int,HI W (.slice ao len cap) zs∧zs.length≤Rows.uptoBulk d∧∀ z∈zs,w64 z:=by
 rcases open_ints Tryz.underlying71 Tryz.underlying3 cellsInt h with ⟨hcs,hx⟩ | ⟨a,l,c,zs,hcs,_,hl,hm,hz,hx,hcell,hwf⟩
 ·simp at hcs
  obtain⟨rfl,rfl,rfl⟩:=hcs
  exact⟨[],.inl ⟨rfl,rfl,rfl⟩,by simp,by simp⟩
 ·simp at hcs
  obtain⟨rfl,rfl,rfl⟩:=hcs
  simp at hz
  simp only[Prod.mk.injEq] at hx
  obtain⟨rfl,_⟩:=hx
  have hlen:(zs.take len).length=len:=by simp;omega
  refine⟨zs.take len,.inr ⟨a,cap,by rw[hlen],by omega,fun j u hj=>?_⟩,?_,fun z hz=>Zuy (hwf z (List.mem_of_mem_take hz))⟩
  ·have hj':j<len:=by
    have:=(List.getElem?_eq_some_iff.1 hj).1
    rw[icells_length,hlen] at this
    exact this
   rw[hcell j (by omega)]
   have hjs:j<zs.length:=by omega
   simp[icells,hj',hjs] at hj
   simp[List.getD,hjs,← hj]
  ·have:=Zkk (H:=H) (zs.take len)
   rw[Rows.uptoBulk]
   omega
theorem ZbG {H:Type} (D:Nat→DataW H) (n:Nat) (h:∀ i,i<n→1≤Rows.uptoBulk (D i)):n≤Rows.uptoBulkAll ((List.range n).map D):=by
 have hall:∀ l:List (DataW H),(∀ d∈l,1≤Rows.uptoBulk d)→l.length≤Rows.uptoBulkAll l:=by
  intro l
  induction l with
  | nil=>simp
  | cons d t ih =>
   intro hd
   have h1:=hd d (List.mem_cons_self ..)
   have h2:=ih fun x hx=>hd x (List.mem_cons_of_mem _ hx)
   rw[Rows.uptoBulkAll]
   simp only[List.length_cons]
   omega
 have:=hall ((List.range n).map D) (by
  intro d hd
  simp only[List.mem_map,List.mem_range] at hd
  obtain⟨i,hi,rfl⟩:=hd
  exact h i hi)
 simpa using this
theorem Znt {H:Type} {enc:TypeId × Value→H} {W:World} {fuel:Nat} {ao:Option Addr} {len cap:Nat} {d:DataW H} {p:List MemPlace}
  (h:DataW.trod enc Tryz.prog W 0 (fun _=>true) true fuel 25 [.slice ao len cap]=some (d,p)) :
  ∃ l:List Ch,HCh W (.slice ao len cap) l∧l.length≤Rows.uptoBulk d∧∀ c∈l,wCh c:=by
 rcases Go.Deep.open_slice Tryz.underlying25 h with ⟨hcs,hx⟩ | ⟨a,l,c,m,n,D,Pl,hcs,_,hl,hm,hmm,hx,hel⟩
 ·simp at hcs
  obtain⟨rfl,rfl,rfl⟩:=hcs
  exact⟨[],.inl ⟨rfl,rfl,rfl⟩,by simp,by simp⟩
 ·simp at hcs
  obtain⟨rfl,rfl,rfl⟩:=hcs
  simp only[Prod.mk.injEq] at hx
  obtain⟨rfl,_⟩:=hx
  have hlm:len≤m:=by rw[hmm];split<;>omega
  have each:∀ i,i<len→∃ c:Ch,wCh c∧W.cell? (a.add (i * 4))=some (.int .i64 c.A)∧W.cell? (a.add (i * 4+1))=some (.int .i64 c.AN)∧W.cell? (a.add (i * 4+2))=some (.int .i64 c.B)∧W.cell? (a.add (i * 4+3))=some (.int .i64 c.BN)∧1≤Rows.uptoBulk (D i):=by
   intro i hi
   obtain⟨cs',h1,h2⟩:=hel i (by omega)
   rw[cellsCh] at h1
   obtain⟨_,hlen,hcell⟩:=World.cells?_some h1
   obtain⟨xs,k,hk,hxy,_,hxl,hf⟩:=DataW.trod_struct Tryz.underlying64 h2
   match xs,hxl,cs',hlen with
   | [y0,y1,y2,y3],_,[v0,v1,v2,v3],_ =>
    have g0:=hf 0 _ rfl
    have g1:=hf 1 _ rfl
    have g2:=hf 2 _ rfl
    have g3:=hf 3 _ rfl
    simp[cellsInt] at g0 g1 g2 g3
    obtain⟨z0,e0,_,w0⟩:=DataW.trod_int Tryz.underlying3 g0
    obtain⟨z1,e1,_,w1⟩:=DataW.trod_int Tryz.underlying3 g1
    obtain⟨z2,e2,_,w2⟩:=DataW.trod_int Tryz.underlying3 g2
    obtain⟨z3,e3,_,w3⟩:=DataW.trod_int Tryz.underlying3 g3
    cases e0
    cases e1
    cases e2
    cases e3
    have c0:=hcell 0 (by omega)
    have c1:=hcell 1 (by omega)
    have c2:=hcell 2 (by omega)
    have c3:=hcell 3 (by omega)
    rw[Go.Deep.add_add] at c0 c1 c2 c3
    simp only[Prod.mk.injEq] at hxy
    refine⟨⟨z0,z1,z2,z3⟩,⟨Zuy w0,Zuy w1,Zuy w2,Zuy w3⟩,by simpa using c0,by simpa using c1,by simpa using c2,by simpa using c3,?_⟩
    rw[hxy.1,Rows.uptoBulk]
    omega
  have:Inhabited Ch:=⟨⟨0,0,0,0⟩⟩
  obtain⟨f,hf⟩:=Go.Deep.choose_lt each
  have hlen:((List.range len).map f).length=len:=by simp
  refine⟨(List.range len).map f,.inr ⟨a,cap,by rw[hlen],by rw[hlen];exact hl,fun j u hj=>?_⟩,?_,?_⟩
  ·have hj':j<len * 4:=by
    have:=(List.getElem?_eq_some_iff.1 hj).1
    rw[ZcC,hlen] at this
    exact this
   obtain⟨h0,h1,h2,h3⟩:=ZcB ((List.range len).map f) (j / 4) (by rw[hlen];omega)
   obtain⟨_,g0,g1,g2,g3,_⟩:=hf (j / 4) (by omega)
   simp only[List.getElem_map,List.getElem_range] at h0 h1 h2 h3
   rcases (by omega:j=4 * (j / 4)∨j=4 * (j / 4)+1∨j=4 * (j / 4)+2∨j=4 * (j / 4)+3) with e | e | e | e
   ·rw[e,h0] at hj
    rw[e,Nat.mul_comm,g0,hj]
   ·rw[e,h1] at hj
    rw[e,Nat.mul_comm,g1,hj]
   ·rw[e,h2] at hj
    rw[e,Nat.mul_comm,g2,hj]
   ·rw[e,h3] at hj
    rw[e,Nat.mul_comm,g3,hj]
  ·rw[hlen,Rows.uptoBulk]
   have:=ZbG D len fun i hi=>(hf i hi).2.2.2.2.2
   omega
  ·intro c hc
   simp only[List.mem_map,List.mem_range] at hc
   obtain⟨i,hi,rfl⟩:=hc
   exact (hf i hi).1
end

section
open Go.RowKit Go.Maps
structure Cnt {H:Type} (D:DataW H) (t:List Int):Prop where
 tidy:Tidy D
 at_:∀ c,D.atKey (.int .i64 c) (.lit (.int .i64 0))=.lit (.int .i64 (t.count c:Nat))
def Mc (t:List Int) (B:Nat) (w:World):Prop:=∃ D:DataW Unit,w.ownsMap Tryz.prog 3 (plainElem Tryz.prog 3) B t.length D∧Cnt D t
section
variable {t:List Int} {B:Nat} {w w':World}
theorem Mc.lt (h:Mc t B w):B<w.heap.size:=by obtain⟨D,hm,_⟩:=h;exact hm.lt
theorem Mc.keep (h:Mc t B w) (hb:w'.heap[B]?=w.heap[B]?):Mc t B w':=by
 obtain⟨D,⟨es,clock,hm,r⟩,hd⟩:=h
 exact⟨D,⟨es,clock,hb.trans hm,r⟩,hd⟩
theorem Mc.low (h:Mc t B w) (hb:Below w.heap.size w w'):Mc t B w':=h.keep (hb.block B h.lt)
end
end

section
open Go.RowKit
end

section
open Go.RowKit Go.Maps
def nI (l:List Nat):List Int:=l.map fun (n:Nat)=>(n:Int)
structure Gd (D:DataW Unit) (f:Int→List Nat):Prop where
 tidy:IsMap D
 at_:∀ c,D.atKey (.int .i64 c) .nil=if f c=[] then .nil else .slice (ChangeShapes.lits .i64 (nI (f c))) []
end

section
open Go.RowKit
end

section
open Go.RowKit
def Hbx (u:World) (B:Nat) (r:Hr):Prop:=u.heap[B]?=some (.cells #[.int .i64 (r.X:Int),.int .i64 (r.Y:Int),.int .i64 (r.N:Int),.int .i64 (r.R:Int)] 286 (0,0))
section
variable {u u':World} {B:Nat} {r:Hr}
theorem Hbx.lt (h:Hbx u B r):B<u.heap.size:=(Array.getElem?_eq_some_iff.1 h).1
end
end

section
open Go.RowKit
theorem results_cell_tmp {P:Program} {fn:Func} {p q:Tmp} {ty:TypeId} (h:fn.results=#[.cell p ty,.tmp q]) (tmps:Array Value) (w:World) (g:Nat) (t:TypeId) (cs:Array Value) (fr:Nat × Nat) (d:TypeDesc)
  (hp:tmps.getD p undef=.pointer (some ⟨g,0,none⟩)) (hg:w.heap[g]?=some (.cells cs t fr))
  (hu:P.underlying ty=some d) (hd:(match d with | .struct _ | .array _ _=>true | _=>false)=true) (hi:(P.info? ty).map (·.size)=some cs.size) :
  (results fn tmps).run P w=.ok (.tuple #[.agg cs,tmps.getD q undef]) w:=by
 have hp':tmps[p]?.getD undef=.pointer (some ⟨g,0,none⟩):=by simpa using hp
 simp[results,h,hp',asAddr,run_loadVar_row w g t ty cs fr d hg hu hd hi]
end

section
open Go.RowKit
section
variable {u:World} {b:Nat} {A AN B BN:Int} {ls:List Mk} {v:Value}
end
end

section
open Go.RowKit
def chO (c:Ch):Obj:=.cells #[.int .i64 c.A,.int .i64 c.AN,.int .i64 c.B,.int .i64 c.BN] 64
def Cx (u:World) (b:Nat) (c:Ch):Prop:=u.heap[b]?=some (chO c)
section
variable {u u':World} {b:Nat} {c:Ch}
theorem Cx.cells (q:Cx u b c):u.cell? ⟨b,0,none⟩=some (.int .i64 c.A)∧u.cell? ⟨b,1,none⟩=some (.int .i64 c.AN)∧u.cell? ⟨b,2,none⟩=some (.int .i64 c.B)∧u.cell? ⟨b,3,none⟩=some (.int .i64 c.BN):=by
 unfold Cx chO at q
 refine⟨?_,?_,?_,?_⟩<;>rw[Lib.cell_of_heap q]<;>rfl
theorem Cx.lt (q:Cx u b c):b<u.heap.size:=(Array.getElem?_eq_some_iff.1 q).1
theorem Cx.low (q:Cx u b c) (hg:Below u.heap.size u u'):Cx u' b c:=(hg.block b q.lt).trans q
theorem Cx.new (w:World) (c:Ch):Cx (w.alloc (chO c)) w.heap.size c:=_root_.Go.heap_alloc_new w _
end
def ChAt (u:World) (b o:Nat) (x:Ch):Prop:=u.cell? ⟨b,o,none⟩=some (.int .i64 x.A)∧u.cell? ⟨b,o+1,none⟩=some (.int .i64 x.AN)∧u.cell? ⟨b,o+2,none⟩=some (.int .i64 x.B)∧u.cell? ⟨b,o+3,none⟩=some (.int .i64 x.BN)
theorem ZhG {u u':World} (hB:Low u u') {q:Addr} {z:Value} (hz:u.cell? q=some z):u'.cell? q=some z:=(World.cell?_of_block (w:=u) (Below.block hB _ (World.block_lt_of_cell? _ _ hz))).trans hz
theorem ChAt.low {u u':World} {b o:Nat} {x:Ch} (h:ChAt u b o x) (hB:Low u u'):ChAt u' b o x:=⟨ZhG hB h.1,ZhG hB h.2.1,ZhG hB h.2.2.1,ZhG hB h.2.2.2⟩
theorem Zku {u:World} {b o:Nat} {h:Ch} (q:ChAt u b o h) {op:Oper} (x:Operand) (ho:op.op=.load 64 x) {ev:Operand→Value} (hx:ev x=.pointer (some ⟨b,o,none⟩)) :
  (execOp ev op).run Tryz.prog u=.ok (.value (chV h)) u:=by
 obtain⟨d0,d1,d2,d3⟩:=q
 unfold chV
 simp only[execOp,ho,hx]
 go_simp
theorem Cx.keep {u u':World} {b:Nat} {c:Ch} (q:Cx u b c) {g:Option Nat} (hg:u.grownBy u' g) (hr:some b≠g):Cx u' b c:=(hg.block b q.lt hr).trans q
theorem ZlO (s:Int) (t:List UInt8) (x:List (List UInt8)):mks s (t::x)=⟨s,t⟩::mks s x:=rfl
end

section
open Go.RowKit
def tot:List Hk→Nat
 | []=>0
 | h::l=>h.ls.length+tot l
theorem Zin {u:World} {B:Nat} {e:TypeId} {s:Nat} {oo:Option Addr} {n oc:Nat} {xs:List Value} (h:u.ownsRow B e s (.slice oo (n+1) oc) (n+1) xs):∃ g,oo=some ⟨g,0,none⟩:=by
 rcases h.2 with ⟨_,h0⟩ | ⟨g,cap,cur,e,_⟩
 ·omega
 ·cases e
  exact⟨g,rfl⟩
end

end Go.Proofs.YtgiojkhmkeocfaaGreatDoor
