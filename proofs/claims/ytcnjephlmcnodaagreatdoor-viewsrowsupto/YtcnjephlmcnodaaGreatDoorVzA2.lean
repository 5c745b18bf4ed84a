/-
  Texts that belong together, joined: ItAll, ItRef, ItRefAll, CnTab.
-/
import Derived.Test.YtcnjephlmcnodaaGreatDoorVzA1
import Derived.Deep.OwnRows
import Derived.Maps.AppendAt
import Derived.Test.YtcnjephlmcnodaaGreatDoorRows

set_option maxHeartbeats 16000000
set_option maxRecDepth 100000
namespace Go.Proofs.YtcnjephlmcnodaaGreatDoor.Tx

section
open Cn It Go.RowKit Go.Maps
attribute [local go_sem] Zbs ByteArray.extract_mk Zbt
theorem But.setCell (w:World) (a:Addr) (v:Value):But (fun k=>k=a.block) w (w.setCell a v):=⟨rfl,rfl,rfl,by simp[World.setCell],fun k _ hk=>Below.heap_setCell w a v k hk⟩
theorem But.refl (S:Nat→Prop) (w:World):But S w w:=⟨rfl,rfl,rfl,Nat.le_refl _,fun _ _ _=>rfl⟩
theorem Tbl.cell_ne {o:Ig} {fs:List (List UInt8)} {t B b off:Nat} {w:World} {v:Value} (h:Tbl o fs t B w) (hc:w.cell? ⟨b,off,none⟩=some v):b≠B:=by
 intro e
 subst e
 obtain⟨D,⟨es,clock,hb,_⟩,_⟩:=h.map
 simp[World.cell?,hb] at hc
theorem Tbl.row_ne {o:Ig} {fs:List (List UInt8)} {t B g:Nat} {w:World} {C:Array Value} {e:TypeId} {fz:Nat × Nat} (h:Tbl o fs t B w) (hg:w.heap[g]?=some (.cells C e fz)):g≠B:=by
 intro e
 subst e
 obtain⟨D,⟨es,clock,hb,_⟩,_⟩:=h.map
 rw[hb] at hg
 cases hg
theorem Tbl.row_ne_t {o:Ig} {fs:List (List UInt8)} {t B g:Nat} {w:World} {C:Array Value} {e:TypeId} {fz:Nat × Nat} (h:Tbl o fs t B w) (hg:w.heap[g]?=some (.cells C e fz)) (he:e≠107):t≠g:=by
 intro e'
 subst e'
 have:=h.box
 rw[hg] at this
 cases this
 exact he rfl
def fill (ns:List Nat) (n:Nat):List Value:=icells ns++List.replicate (n-ns.length) (.int .i64 0)
theorem ZdU (n:Nat):fill [] n=List.replicate n (.int .i64 0):=by simp[fill,icells]
theorem ZdS {ns:List Nat} {n:Nat} (h:ns.length=n):fill ns n=icells ns:=by simp[fill,h]
theorem ZdV (ns:List Nat) (n m:Nat) (h:ns.length<n):(fill ns n).set ns.length (.int .i64 m)=fill (ns++[m]) n:=by
 unfold fill
 obtain⟨k,hk⟩:∃ k,n-ns.length=k+1:=⟨n-ns.length-1,by omega⟩
 have e:n-(ns++[m]).length=k:=by simp;omega
 rw[e,hk,List.set_append_right _ _ (by rw[icells_length];omega),icells_length,Nat.sub_self,List.replicate_succ,List.set_cons_zero,icells_append,List.append_assoc]
 rfl
theorem ZdT (ns:List Nat) (n:Nat) (h:ns.length≤n):(fill ns n).length=n:=by simp[fill,icells_length];omega
theorem Zhl (n:Nat):madeCells #[.int .i64 0] n=(fill [] n).toArray:=by
 rw[ZdU]
 apply Array.ext
 ·simp[madeCells]
 ·intro i h1 h2
  simp[madeCells,Nat.mod_one]
theorem ZjQ {b:Nat} {w:World} {l:List Value} {e:TypeId} (h:w.heap[b]?=some (.cells l.toArray e (0,0))) (j:Nat) (v:Value):(w.setCell ⟨b,j,none⟩ v).heap[b]?=some (.cells (l.set j v).toArray e (0,0)):=by
 simp only[World.setCell,Array.getElem?_modify,h]
 simp
theorem ZjK {b:Nat} {w:World} {C:Array Value} {e:TypeId} (h:w.heap[b]?=some (.cells C e (0,0))) (j:Nat):w.frozen? ⟨b,j,none⟩=false:=by
 simp[World.frozen?,h]
structure Filling (o:Ig) (fs fl:List (List UInt8)) (t B g:Nat) (W:World) (k:Nat) (w:World):Prop where
 tbl:Tbl o (adds fs (fl.take k)) t B w
 row:w.heap[g]?=some (.cells (fill (nums fs (fl.take k)) fl.length).toArray 3 (0,0))
 but:But (fun j=>j=B) W w
theorem Filling.step {o:Ig} {fs fl:List (List UInt8)} {t B g:Nat} {W:World} {k:Nat} {w w1:World} (h:Filling o fs fl t B g W k w) (hk:k<fl.length) (hgW:W.heap.size≤g) (hT:Tbl o (add (adds fs (fl.take k)) fl[k]) t B w1) (hb:But (fun j=>j=B) w w1) :
  Filling o fs fl t B g W (k+1) (w1.setCell ⟨g,k,none⟩ (.int .i64 (num (adds fs (fl.take k)) fl[k]))):=by
 have hgB:=h.tbl.row_ne h.row
 have hrow:w1.heap[g]?=some (.cells (fill (nums fs (fl.take k)) fl.length).toArray 3 (0,0)):=(hb.block g (Array.getElem?_eq_some_iff.1 h.row).1 hgB).trans h.row
 have htk:fl.take (k+1)=fl.take k++[fl[k]]:=(List.take_append_getElem hk).symm
 have hlen:(nums fs (fl.take k)).length=k:=by rw[nums_length,List.length_take];omega
 have htg:=hT.row_ne_t hrow (by decide)
 refine⟨?_,?_,?_⟩
 ·rw[htk,Zbn]
  exact hT.keep (But.setCell w1 ⟨g,k,none⟩ _) (fun e=>htg e) (fun e=>hgB e.symm)
 ·rw[htk,ZhX,ZjQ hrow]
  have e:=ZdV (nums fs (fl.take k)) fl.length (num (adds fs (fl.take k)) fl[k]) (by omega)
  rw[hlen] at e
  rw[e]
 ·exact (h.but.trans hb (fun _ _ h=>h)).trans (But.setCell w1 ⟨g,k,none⟩ _) (fun j hj e=>by simp at e;omega)
theorem Zcl (ls fl fs:List (List UInt8)) (o:Ig) (t B:Nat) (vl:Value) (w:World) (hfl:Hid (fl=ls.map (canonL o))) (hlen:fl.length=ls.length) (hl:Hid (∀ a∈ls,a.length≤137438953472)) (hn:fs.length+ls.length≤1099511627776) (hT:Tbl o fs t B w) (hv:Holds w vl (scells ls)) :
  Calls Tryz.prog 39 #[.pointer (some ⟨t,0,none⟩),vl] w fun e w'=>∃ v,e=.returned v∧w'.ownsRow w.heap.size 3 1 v ls.length (icells (nums fs fl))∧Tbl o (adds fs fl) t B w'∧But (fun j=>j=B) w w':=by
 have hmk:=run_make_row' (P:=Tryz.prog) 50 3 (.int .i64 0) 8 Tryz.underlying50 infoInt rfl .i64 .i64 ls.length (by omega) (by omega)
 have hF0:Filling o fs fl t B w.heap.size w 0 (w.alloc (.cells (madeCells #[.int .i64 0] ls.length) 3)):=by
  have hb:Below w.heap.size w (w.alloc (.cells (madeCells #[.int .i64 0] ls.length) 3)):=(Below.refl _ w).alloc (Nat.le_refl _) _
  refine⟨hT.keep (S:=fun _=>False) (.of_below hb) (fun h=>h) (fun h=>h),?_,.of_below hb⟩
  rw[Zhl,hlen]
  exact _root_.Go.heap_alloc_new w _
 have fin:∀ {wr:World},Filling o fs fl t B w.heap.size w ls.length wr→wr.ownsRow w.heap.size 3 1 (.slice (some ⟨w.heap.size,0,none⟩) ls.length ls.length) ls.length (icells (nums fs fl))∧Tbl o (adds fs fl) t B wr∧But (fun j=>j=B) w wr:=by
  intro wr h
  have e1:fl.take ls.length=fl:=List.take_of_length_le (by omega)
  have e2:(nums fs fl).length=fl.length:=nums_length _ _
  obtain⟨h1,h2,h3⟩:=h
  rw[e1] at h1 h2
  rw[ZdS e2] at h2
  refine⟨⟨by rw[icells_length,e2,hlen];omega,.inr ⟨_,_,_,rfl,Nat.le_refl _,h2,Nat.le_refl _,by unfold maxLen;omega,by simp[icells_length,e2,hlen],?_⟩⟩,h1,h3⟩
  rw[Nat.mul_one,← hlen,← e2,← icells_length]
  exact List.take_length
 have FIN:Hid (∀ {wr:World},Filling o fs fl t B w.heap.size w ls.length wr→wr.ownsRow w.heap.size 3 1 (.slice (some ⟨w.heap.size,0,none⟩) ls.length ls.length) ls.length (icells (nums fs fl))∧Tbl o (adds fs fl) t B wr∧But (fun j=>j=B) w wr):=fin
 clear fin
 by_cases h0:0<ls.length
 ·obtain⟨b,off,c,rfl,hbl,hc⟩:=hv.at (by rw[scells_length];exact h0)
  have hbB:b≠B:=hT.cell_ne (hc 0 (by rw[scells_length];exact h0))
  have HC:Hid (∀ j (h:j<ls.length),w.cell? ⟨b,off+j,none⟩=some (.string ⟨ls[j].toArray⟩)):=fun j h=>by rw[hc j (by rw[scells_length];exact h)];simp[scells]
  clear hc hv hT
  rw[scells_length]
  go_enter Tryz.func39,Tryz.ntmps39
  go_wp2
  clear hmk
  generalize w.alloc (.cells (madeCells #[.int .i64 0] ls.length) 3)=w0 at hF0 ⊢
  go_loopw [13] (fun i wr=>∃ k:Nat,k≤ls.length∧i=.int .i64 k∧Filling o fs fl t B w.heap.size w k wr) (fun i _=>ls.length-(intOf i).toNat)
  case atStart=>exact⟨0,Nat.zero_le _,rfl,hF0⟩
  case round =>
   obtain⟨k,hk,rfl,hF⟩:=hrel
   by_cases hlt:k<ls.length
   ·have d1:wr.cell? ⟨b,off+k,none⟩=some (.string ⟨ls[k].toArray⟩):=(World.cell?_of_block (w:=w) (hF.but.block b hbl hbB)).trans (HC.out k hlt)
    have i1:0≤(k:Int):=by omega
    have i2:(k:Int)<(ls.length:Int):=by omega
    have hkf:k<fl.length:=by omega
    have hcan:canonL o ls[k]=fl[k]:=by simp only[hfl.out,List.getElem_map]
    have hal:=adds_le (fl.take k) fs
    rw[List.length_take] at hal
    go_wp2_with fail
    refine (Zah ls[k] o _ t B wr (hl.out _ (List.getElem_mem hlt)) (by omega) hF.tbl).mono ?_
    rintro e w1 ⟨rfl,hT1,hb1⟩
    rw[hcan] at hT1 ⊢
    have hF1:=hF.step hkf (Nat.le_refl _) hT1 hb1
    have hg1:=(hb1.block w.heap.size (Array.getElem?_eq_some_iff.1 hF.row).1 (hF.tbl.row_ne hF.row)).trans hF.row
    have fz:=ZjK hg1 k
    have c1:w1.cell? ⟨w.heap.size,k,none⟩=(fill (nums fs (fl.take k)) fl.length)[k]?:=by rw[Lib.cell_of_heap hg1];simp
    rw[List.getElem?_eq_getElem (by rw[ZdT _ _ (by rw[nums_length,List.length_take];omega)];exact hkf)] at c1
    clear hT1 hb1 hg1 hcan hal d1
    generalize num (adds fs (fl.take k)) fl[k]=m at *
    go_wp2
    go_roundw
    case rel=>exact⟨k+1,by omega,by go_num,hF1⟩
    case measure=>simp[intOf];omega
   ·have e:k=ls.length:=by omega
    subst e
    go_wp2
    go_ret
    exact⟨_,rfl,FIN.out hF⟩
 ·obtain⟨ao,ca,rfl⟩:=hv.form
  have hz:ls=[]:=List.eq_nil_of_length_eq_zero (by omega)
  subst hz
  have hF1:=FIN.out hF0
  clear FIN hF0 hlen hfl hl hT hv hn h0
  simp only[scells,List.map_nil,List.length_nil,Int.natCast_zero] at hmk hF1 ⊢
  go_enter Tryz.func39,Tryz.ntmps39
  go_wp2
  refine wp_loop_rounds 1 ?_
  rw[rounds_succ]
  go_wp2
  go_ret
  exact⟨_,rfl,hF1⟩
theorem Tbl.owns {o:Ig} {fs:List (List UInt8)} {t B N:Nat} {e:TypeId} {v:Value} {n:Nat} {xs:List Value} {w w':World} (h:Tbl o fs t B w) (ho:w.ownsRow N e 1 v n xs) (hb:But (fun j=>j=B) w w'):w'.ownsRow N e 1 v n xs:=by
 refine⟨ho.1,?_⟩
 rcases ho.2 with h1 | ⟨g,cap,cur,q1,q2,q3,q4⟩
 ·exact .inl h1
 ·exact .inr ⟨g,cap,cur,q1,q2,(hb.block g (Array.getElem?_eq_some_iff.1 q3).1 (h.row_ne q3)).trans q3,q4⟩
theorem Zak (la lb fa fb:List (List UInt8)) (o:Ig) (va vb:Value) (w:World) (hfa:Hid (fa=la.map (canonL o))) (hfb:Hid (fb=lb.map (canonL o))) (hla:Hid (∀ a∈la,a.length≤137438953472)) (hlb:Hid (∀ a∈lb,a.length≤137438953472)) (hn:la.length+lb.length≤1099511627776)
  (ha:Holds w va (scells la)) (hb:Holds w vb (scells lb)) :
  Calls Tryz.prog 15 #[va,vb,igV o] w fun e w'=>∃ vx vy,e=.returned (.tuple #[vx,vy,.int .i64 (adds [] (fa++fb)).length])∧Holds w' vx (icells (nums [] fa))∧Holds w' vy (icells (nums (adds [] fa) fb))∧Below w.heap.size w w':=by
 have ea:fa.length=la.length:=by rw[hfa.out];simp
 have eb:fb.length=lb.length:=by rw[hfb.out];simp
 have hal:=adds_le fa []
 have hb0:Below w.heap.size w (w.alloc (.cells #[.bool o.sp,.bool o.wt,.bool o.bl,.bool o.cs,.bool o.tb,.bool o.tr] 33)):=(Below.refl _ w).alloc (Nat.le_refl _) _
 unfold igV
 go_enter Tryz.func15,Tryz.ntmps15
 go_wp2_with fail
 refine (ZaJ o _).mono ?_
 rintro e w1 ⟨t,B,rfl,hT,ht,hB,hb1⟩
 have hz0:=hb0.size
 have hb2:=hb0.trans (hb1.mono hz0)
 generalize w.alloc (.cells #[.bool o.sp,.bool o.wt,.bool o.bl,.bool o.cs,.bool o.tb,.bool o.tr] 33)=wb at *
 have ha1:=ha.keep hb2.block
 have hvb1:=hb.keep hb2.block
 go_wp2_with fail
 refine (Zcl la fa [] o t B va w1 hfa ea hla (by simp;omega) hT ha1).mono ?_
 rintro e w2 ⟨vx,rfl,hx,hT2,hb3⟩
 have hb4:=hb3.below hb2 hb2.size (fun k e=>by subst e;omega)
 have hvb2:=hb.keep hb4.block
 go_wp2_with fail
 refine (Zcl lb fb _ o t B vb w2 hfb eb hlb (by simp at hal;omega) hT2 hvb2).mono ?_
 rintro e w3 ⟨vy,rfl,hy,hT3,hb5⟩
 have hb6:=hb5.below hb4 hb4.size (fun k e=>by subst e;omega)
 have hx3:=hT2.owns hx hb5
 rw[← Zbl] at hT3
 go_wp2_with fail
 refine (ZaR o _ t B w3 hT3).mono ?_
 rintro e w4 ⟨rfl,rfl⟩
 go_wp2
 go_ret3
 exact⟨vx,vy,rfl,holds_of hx3,holds_of hy,hb6⟩
theorem Classes_any (la lb:List (List UInt8)) (o:Ig) (va vb:Value) (w:World) (hla:∀ a∈la,a.length≤137438953472) (hlb:∀ a∈lb,a.length≤137438953472) (hn:la.length+lb.length≤1099511627776) (ha:Holds w va (scells la)) (hb:Holds w vb (scells lb)) :
  Calls Tryz.prog 15 #[va,vb,igV o] w fun e w'=>∃ vx vy,e=.returned (.tuple #[vx,vy,.int .i64 (adds [] (la.map (canonL o)++lb.map (canonL o))).length])∧Holds w' vx (icells (nums [] (la.map (canonL o))))∧Holds w' vy (icells (nums (adds [] (la.map (canonL o))) (lb.map (canonL o))))∧Below w.heap.size w w' :=
 Zak la lb _ _ o va vb w (show _=_ from rfl) (show _=_ from rfl) hla hlb hn ha hb
end

section
open Cn It Go.RowKit Go.Maps
attribute [local go_sem] Zbs ByteArray.extract_mk Zbt
attribute [local simp] Zln
section
variable {o:Ig} {ls:List (List UInt8)} {t N:Nat} {v:Value} {w w':World}
end
end

section
open Cn It Go.RowKit Go.Maps
attribute [local go_sem] Zbs ByteArray.extract_mk Zbt
section
variable {o:Ig} {ls:List (List UInt8)} {t N base n:Nat} {v vx:Value} {xs:List Value} {w w':World}
theorem owns_ge {e:TypeId} (ho:w.ownsRow base e 1 vx n xs) {g:Nat} (hg:vx.ownBlock=some g):base≤g:=by
 rcases ho.2 with ⟨h1,_⟩ | ⟨g',cap,cur,q1,q2,_⟩
 ·rw[h1] at hg;cases hg
 ·rw[q1] at hg;cases hg;exact q2
end
end

section
def put (cs:Array Value):Obj→Obj
 | .cells _ t frozen=>.cells cs t frozen
 | o=>o
def laidOnU (w:World):World :=
 { w with heap:=(w.heap.modify 1 (put ((Go.Pinned.utf8FirstZ.map fun n:Nat=>Value.int .u8 (n:Int)).toArray))).modify 2 (put (([128,191,160,191,128,159,144,191,128,143,0,0,0,0,0,0,0,0,0,0,0,0,0,0,0,0,0,0,0,0,0,0]:List Int).map (Value.int .u8)).toArray) }
end

end Go.Proofs.YtcnjephlmcnodaaGreatDoor.Tx
