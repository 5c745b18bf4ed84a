/-
  Texts that belong together, joined: QtA, NoM4, CxMath, CxM2, CxM3, CxM4, CxM5, CxM6, CxM7, UnMath, UnM2, UnM3, PsM1, PsM2, PsM3, PsM4, PsM5, PsM6, NpS, PsA, PsB, PsC, NoRd, NoPk, NoMk, NpE, NpM, NpF, NpG, NpH, NoPs, NpN, NpX, NpC.
-/
import Derived.Test.YtcniomgjikienaaGreatDoorVpA7
import Derived.Test.YtcniomgjikienaaGreatDoorVpA5
import Derived.BigQuiet
import Derived.Deep.RegionHeld3
import Derived.Deep.CutBlock
import Derived.WalkLawsBesides
import Derived.Lib.OthersKept
import Derived.Laws.RangeAny
import Derived.Lib.IndexAny
import Derived.Deep.QuietTactic

set_option maxHeartbeats 16000000
set_option maxRecDepth 100000
namespace Go.Proofs.YtcniomgjikienaaGreatDoor

section
open Go.RowKit
theorem ZuQ {u:World} {x y:List UInt8} (h:Fits x y) {op:Oper} (p q:Operand) (ho:op.op=.binOp .add 9 p q 9) {ev:Operand→Value} (hx:ev p=.string ⟨x.toArray⟩) (hy:ev q=.string ⟨y.toArray⟩) :
  (execOp ev op).run Tryz.prog u=.ok (.value (.string ⟨(x++y).toArray⟩)) u:=by
 have h1:=Zsl h Tryz.prog u
 simp only[execOp,ho,hx,hy]
 go_simp
theorem ZxZ {e:TypeId} {b:Option Nat} {w u:World} (h:Below w.heap.size w u):Lib.OthersKept e b w u:=fun k _ hk _ _=>(h.block k (Array.getElem?_eq_some_iff.1 hk).1).trans hk
theorem ZAU {b:Nat} {acc s:List UInt8} {W w1 u:World} (hB:Lib.IsBuilderF 85 5 b b (Lib.byteCells acc) u) (hl:acc.length+s.length≤140737488355328) (hz:b≤u.heap.size) (hS:Lib.OthersKept 5 (some b) W u∧Below b w1 u) :
  Calls Tryz.prog 39 (#[.pointer (some ⟨b,0,none⟩),.string ⟨s.toArray⟩]++#[]) u fun e w'=>∃ v,e=.returned v∧(Lib.OthersKept 5 (some b) W w'∧Below b w1 w')∧(Lib.IsBuilderF 85 5 b b (Lib.byteCells (acc++s)) w'∧∃ z,v=.tuple #[z,.nilIface]):=by
 refine (Tryz.WriteString_h b b _ ⟨s.toArray⟩ u hB (by rw[Ztl];exact hl) hz).mono ?_
 rintro e w' ⟨rfl,h1,h2,h3⟩
 exact⟨_,rfl,⟨hS.1.trans h3,hS.2.trans h2⟩,.inr (by rw[Lib.byteCells_append];exact h1),_,rfl⟩
theorem Zwv {b:Nat} {cs:List Value} {u:World} (hB:Lib.IsBuilderF 85 5 b b cs u):b<u.heap.size:=by
 rcases hB with ⟨_,_,h,_⟩ | ⟨_,_,h,_⟩<;>exact (Array.getElem?_eq_some_iff.1 h).1
def dvT (h:Hk):List UInt8:=if h.AN=0 then [] else if h.BN=0 then [] else [45,45,45,10]
def nrT (h:Hk):List UInt8:=rgx h.A h.AN++ltrT h.AN h.BN++rgx h.B h.BN++[10]++((oldL h).flatMap (lnL [60,32])).flatten++dvT h++((newL h).flatMap (lnL [62,32])).flatten
theorem ZwT (h:Hk):(ltrT h.AN h.BN=[97]∧dvT h=[])∨(ltrT h.AN h.BN=[100]∧dvT h=[])∨(ltrT h.AN h.BN=[99]∧dvT h=[45,45,45,10]):=by
 unfold ltrT dvT
 by_cases h1:h.AN=0
 ·rw[if_pos h1,if_pos h1];exact .inl ⟨rfl,rfl⟩
 ·rw[if_neg h1,if_neg h1]
  by_cases h2:h.BN=0
  ·rw[if_pos h2,if_pos h2];exact .inr (.inl ⟨rfl,rfl⟩)
  ·rw[if_neg h2,if_neg h2];exact .inr (.inr ⟨rfl,rfl⟩)
theorem Zyg (x:Hk) (yo:Option Addr) (yc:Nat) (w:World) (hml:HMk w (.slice yo x.ls.length yc) x.ls) (hA0:0≤x.A∧x.A≤4611686018427387904∧0≤x.AN∧x.AN≤4611686018427387900∧0≤x.B∧x.B≤4611686018427387904∧0≤x.BN∧x.BN≤4611686018427387900) (hxl:x.ls.length≤1099511627776)
  (HTX:Hid (∀ m∈x.ls,m.tx.length≤1099511627776)) (HTb:Hid (Tab10 w)) (T:List UInt8) (HT:Hid (nrT x=T)) (hT:T.length≤70368744177664) :
  Calls Tryz.prog 181 #[hkV x (.slice yo x.ls.length yc)] w fun e w'=>e=.returned (.string ⟨T.toArray⟩)∧Below w.heap.size w w':=by
 obtain⟨RA,hRA⟩:∃ R,oldL x=R:=⟨_,rfl⟩
 obtain⟨RB,hRB⟩:∃ R,newL x=R:=⟨_,rfl⟩
 have HOl:Hid (oldL x=RA):=hRA
 have HNw:Hid (newL x=RB):=hRB
 have hRAl:RA.length≤x.ls.length:=(by rw[← hRA];exact Zyn _ _)
 have hRBl:RB.length≤x.ls.length:=(by rw[← hRB];exact Zyn _ _)
 have HRAt:Hid (∀ s∈RA,s.length≤1099511627776):=(by intro s hs;rw[← hRA] at hs;obtain⟨m,hm,rfl⟩:=Zyp hs;exact HTX.out m hm)
 have HRBt:Hid (∀ s∈RB,s.length≤1099511627776):=(by intro s hs;rw[← hRB] at hs;obtain⟨m,hm,rfl⟩:=Zyp hs;exact HTX.out m hm)
 obtain⟨T1,HT1⟩:∃ T1,Hid (rgx x.A x.AN=T1):=⟨_,rfl⟩
 obtain⟨T2,HT2⟩:∃ T1,Hid (ltrT x.AN x.BN=T1):=⟨_,rfl⟩
 obtain⟨T3,HT3⟩:∃ T1,Hid (rgx x.B x.BN=T1):=⟨_,rfl⟩
 obtain⟨dv,hdv⟩:∃ d,dvT x=d:=⟨_,rfl⟩
 have hcs:=ZwT x
 rw[hdv,HT2.out] at hcs
 have HCS:Hid ((T2=[97]∧dv=[])∨(T2=[100]∧dv=[])∨(T2=[99]∧dv=[45,45,45,10])):=hcs
 have l1:T1.length≤43:=(by rw[← HT1.out];exact Zzr (by omega) (by omega) (by omega) (by omega))
 have l2:T2.length=1:=(by rw[← HT2.out];exact ZwU _ _)
 have l3:T3.length≤43:=(by rw[← HT3.out];exact Zzr (by omega) (by omega) (by omega) (by omega))
 have hF1:Fits T1 T2:=by unfold Fits;omega
 have hF2:Fits (T1++T2) T3:=by unfold Fits;rw[List.length_append];omega
 have hF3:Fits (T1++T2++T3) [10]:=by unfold Fits;simp only[List.length_append,List.length_cons,List.length_nil];omega
 have hlC:(T1++T2++T3++[10]).length≤100:=by simp only[List.length_append,List.length_cons,List.length_nil];omega
 obtain⟨ac2,hA2⟩:∃ z,[]++(T1++T2++T3++[10])++(RA.flatMap (lnL [60,32])).flatten=z:=⟨_,rfl⟩
 have HA2:Hid ([]++(T1++T2++T3++[10])++(RA.flatMap (lnL [60,32])).flatten=ac2):=hA2
 have HA4:Hid (ac2++dv++(RB.flatMap (lnL [62,32])).flatten=T):=(by
  show _=_
  rw[← HT.out,← hA2,← hdv]
  unfold nrT
  rw[HT1.out,HT2.out,HT3.out,hRA,hRB,List.nil_append])
 have hal2:ac2.length+dv.length≤70368744177664:=(by
  have h:=congrArg List.length HA4.out
  rw[List.length_append,List.length_append] at h
  omega)
 have hx1:=Hx.new w x (.slice yo x.ls.length yc)
 have hL1:Below w.heap.size w (w.alloc (hkO x (.slice yo x.ls.length yc))):=(Below.refl _ w).alloc (Nat.le_refl _) _
 have hml1:=HMk.keep hml hL1 (Nat.le_refl _)
 have HTb1:Hid (Tab10 (w.alloc (hkO x (.slice yo x.ls.length yc)))):=HTb.out.on hL1
 have hW:w.alloc (Obj.cells #[.int .i64 x.A,.int .i64 x.AN,.int .i64 x.B,.int .i64 x.BN,.slice yo x.ls.length yc] 45)=w.alloc (hkO x (.slice yo x.ls.length yc)):=rfl
 have hz1:(w.alloc (hkO x (.slice yo x.ls.length yc))).heap.size=w.heap.size+1:=by simp
 have hV:hkV x (.slice yo x.ls.length yc)=.agg #[.int .i64 x.A,.int .i64 x.AN,.int .i64 x.B,.int .i64 x.BN,.slice yo x.ls.length yc]:=rfl
 rw[hV]
 clear hRA hRB hcs hdv hA2 HTX HT hml HTb hV
 go_enter Tryz.func181,Tryz.ntmps181
 go_upto_region 1 with fail
 generalize w.alloc (hkO x (.slice yo x.ls.length yc))=w1 at *
 obtain⟨hb,hhb⟩:∃ hb,w.heap.size=hb:=⟨_,rfl⟩
 simp only[hhb] at hx1 ⊢
 have hne1:hb≠w1.heap.size:=by omega
 have hle1:w.heap.size≤w1.heap.size:=by omega
 clear hW hz1 hhb
 have hF0:=Zwt w1
 have hBw:Below w1.heap.size w1 (w1.alloc (.cells #[.pointer none,.slice none 0 0] 85)):=(Below.refl _ w1).alloc (Nat.le_refl _) _
 have hx2:=hx1.low hBw
 obtain⟨d0,d1,d2,d3,d4⟩:=hx2.cells
 go_wp2_with fail
 generalize w1.alloc (.cells #[.pointer none,.slice none 0 0] 85)=W1 at *
 have hle:=Zxo x (.slice yo x.ls.length yc) W1 (HMk.keep hml1 hBw (Nat.le_refl _)) T2 HT2
 unfold hkV at hle
 refine hle.mono ?_
 rintro e W2 ⟨rfl,hB12⟩
 have hb2:Below w1.heap.size w1 W2:=hBw.trans (hB12.mono hBw.size)
 have hBr:=Zwu hF0 hB12
 have hx2:=hx2.low hB12
 have hHb:w1.heap.size<W2.heap.size:=(by
  rcases hBr with ⟨_,_,h,_⟩ | ⟨_,_,h,_⟩<;>exact (Array.getElem?_eq_some_iff.1 h).1)
 clear hle d0 d1 d2 d3 d4 hBw hF0 hB12
 go_upto_region 3 with fail
 have hS2:Lib.OthersKept 5 (some w1.heap.size) W2 W2.drew∧Below w1.heap.size w1 W2.drew:=⟨Lib.OthersKept.refl _ _ _,hb2.drew⟩
 have hxu:∀ u,Lib.OthersKept 5 (some w1.heap.size) W2 u→Hx u hb x (.slice yo x.ls.length yc):=fun u hu=>Zwm hx2 hu hne1
 have hBd:Lib.IsBuilderF 85 5 w1.heap.size w1.heap.size (Lib.byteCells []) W2.drew:=hBr
 refine wp_region_noPanic ?_
 refine wp_region_held_drew (S:=fun u=>Lib.OthersKept 5 (some w1.heap.size) W2 u∧Below w1.heap.size w1 u) (by kernel_rfl) hS2 (fun hHeld=>?_)
 clear hS2
 generalize W2.drew=wd at hHeld hBd ⊢
 refine Y_t 0 7 _ (.pointer (some ⟨hb,0,none⟩)) rfl (Or.inl ⟨by kernel_rfl,fun u hu=>by kernel_rfl⟩) hHeld ?_
 simp only[Act.put,Y_a,Y_b,Y_c]
 refine Y_t 1 8 _ (.int .i64 x.A) rfl (Or.inl ⟨by kernel_rfl,fun u hu=>Zon (hxu u hu.1).cells.1 (.tmp 7) (by kernel_rfl) (by kernel_rfl)⟩) hHeld ?_
 simp only[Act.put,Y_a,Y_b,Y_c]
 refine Y_t 2 9 _ (.pointer (some ⟨hb,1,none⟩)) rfl (Or.inl ⟨by kernel_rfl,fun u hu=>by kernel_rfl⟩) hHeld ?_
 simp only[Act.put,Y_a,Y_b,Y_c]
 refine Y_t 3 10 _ (.int .i64 x.AN) rfl (Or.inl ⟨by kernel_rfl,fun u hu=>Zon (hxu u hu.1).cells.2.1 (.tmp 9) (by kernel_rfl) (by kernel_rfl)⟩) hHeld ?_
 simp only[Act.put,Y_a,Y_b,Y_c]
 refine Y_t 5 12 _ (.string ⟨T2.toArray⟩) rfl (Or.inl ⟨by kernel_rfl,fun u hu=>by kernel_rfl⟩) hHeld ?_
 simp only[Act.put,Y_a,Y_b,Y_c]
 refine Y_t 7 14 _ (.pointer (some ⟨hb,2,none⟩)) rfl (Or.inl ⟨by kernel_rfl,fun u hu=>by kernel_rfl⟩) hHeld ?_
 simp only[Act.put,Y_a,Y_b,Y_c]
 refine Y_t 8 15 _ (.int .i64 x.B) rfl (Or.inl ⟨by kernel_rfl,fun u hu=>Zon (hxu u hu.1).cells.2.2.1 (.tmp 14) (by kernel_rfl) (by kernel_rfl)⟩) hHeld ?_
 simp only[Act.put,Y_a,Y_b,Y_c]
 refine Y_t 9 16 _ (.pointer (some ⟨hb,3,none⟩)) rfl (Or.inl ⟨by kernel_rfl,fun u hu=>by kernel_rfl⟩) hHeld ?_
 simp only[Act.put,Y_a,Y_b,Y_c]
 refine Y_t 10 17 _ (.int .i64 x.BN) rfl (Or.inl ⟨by kernel_rfl,fun u hu=>Zon (hxu u hu.1).cells.2.2.2.1 (.tmp 16) (by kernel_rfl) (by kernel_rfl)⟩) hHeld ?_
 simp only[Act.put,Y_a,Y_b,Y_c]
 refine Y_e 4 11 _ rfl 219 (.func 219) #[.tmp 8,.tmp 10] #[3,3] (by kernel_rfl) #[] (by kernel_rfl) #[.int .i64 x.A,.int .i64 x.AN] (by kernel_rfl) (enters_of Tryz.func219 (by kernel_rfl) rfl) (fun v u=>v=.string ⟨T1.toArray⟩∧Below wd.heap.size wd u) ((Zxw x.A x.AN (by omega) (by omega) (by omega) (by omega) wd (HTb1.out.on hHeld.2) T1 HT1).mono (fun _ q hq=>⟨_,hq.1,⟨hHeld.1.trans (ZxZ hq.2),hHeld.2.trans (hq.2.mono hHeld.2.size)⟩,rfl,hq.2⟩)) ?_
 rintro _ u1 hH1 ⟨rfl,hL1'⟩
 simp only[Act.put,Y_a,Y_b,Y_c]
 refine Y_t 6 13 _ (.string ⟨(T1++T2).toArray⟩) rfl (Or.inl ⟨by kernel_rfl,fun u hu=>ZuQ hF1 (.tmp 11) (.tmp 12) (by kernel_rfl) (by kernel_rfl) (by kernel_rfl)⟩) hH1 ?_
 simp only[Act.put,Y_a,Y_b,Y_c]
 refine Y_e 11 18 _ rfl 219 (.func 219) #[.tmp 15,.tmp 17] #[3,3] (by kernel_rfl) #[] (by kernel_rfl) #[.int .i64 x.B,.int .i64 x.BN] (by kernel_rfl) (enters_of Tryz.func219 (by kernel_rfl) rfl) (fun v u=>v=.string ⟨T3.toArray⟩∧Below u1.heap.size u1 u) ((Zxw x.B x.BN (by omega) (by omega) (by omega) (by omega) u1 (HTb1.out.on hH1.2) T3 HT3).mono (fun _ q hq=>⟨_,hq.1,⟨hH1.1.trans (ZxZ hq.2),hH1.2.trans (hq.2.mono hH1.2.size)⟩,rfl,hq.2⟩)) ?_
 rintro _ u3 hH3 ⟨rfl,hL3⟩
 simp only[Act.put,Y_a,Y_b,Y_c]
 refine Y_t 12 19 _ (.string ⟨(T1++T2++T3).toArray⟩) rfl (Or.inl ⟨by kernel_rfl,fun u hu=>ZuQ hF2 (.tmp 13) (.tmp 18) (by kernel_rfl) (by kernel_rfl) (by kernel_rfl)⟩) hH3 ?_
 simp only[Act.put,Y_a,Y_b,Y_c]
 refine Y_t 13 20 _ (.string ⟨(T1++T2++T3++[10]).toArray⟩) rfl (Or.inl ⟨by kernel_rfl,fun u hu=>ZuQ hF3 (.tmp 19) (.const (.string ⟨#[10]⟩)) (by kernel_rfl) (by kernel_rfl) (by kernel_rfl)⟩) hH3 ?_
 simp only[Act.put,Y_a,Y_b,Y_c]
 have hbS:Below wd.heap.size wd u3:=hL1'.trans (hL3.mono hL1'.size)
 have hB3:=Zwu hBd hbS
 have hz3:w1.heap.size≤u3.heap.size:=hH3.2.size
 have hws:=ZAU (s:=T1++T2++T3++[10]) hB3 (by simp only[List.length_nil];omega) hz3 hH3
 refine Y_e 14 21 _ rfl 39 (.func 39) #[.tmp 3,.tmp 20] #[85,9] (by kernel_rfl) #[] (by kernel_rfl) #[.pointer (some ⟨w1.heap.size,0,none⟩),.string ⟨(T1++T2++T3++[10]).toArray⟩] (by kernel_rfl) (enters_of Tryz.func39 (by kernel_rfl) rfl) (fun v u=>Lib.IsBuilderF 85 5 w1.heap.size w1.heap.size (Lib.byteCells ([]++(T1++T2++T3++[10]))) u∧∃ z,v=.tuple #[z,.nilIface]) (?_) ?_
 ·exact hws
 clear hws
 rintro _ u4 hH4 ⟨hB4,z4,rfl⟩
 simp only[Act.put,Y_a,Y_b,Y_c]
 refine wpAnyH_done (by kernel_rfl) ?_ _
 refine NoPanic.normal ?_
 have hx4:=hxu u4 hH4.1
 obtain⟨d0,d1,d2,d3,d4⟩:=hx4.cells
 clear hHeld hH1 hH3 hL1' hL3 hB3 hz3 hbS hBd hBr hb2
 go_wp2_with fail
 refine (ZvI x (.slice yo x.ls.length yc) u4 (HMk.keep hml1 hH4.2 (Nat.le_refl _)) hxl RA HOl).mono ?_
 rintro e u5 ⟨vo,rfl,hown5,hL5⟩
 have hform5:∃ vo1 vc1,vo=.slice vo1 RA.length vc1:=Holds.form (Zeo hown5)
 have hz4:w1.heap.size<u4.heap.size:=Zwv hB4
 have HV5:Hid (∀ u,Lib.OthersKept 5 (some w1.heap.size) u5 u→HS u vo RA):=fun u hu=>Zeo (Zyd hown5 hu (fun g hg=>by have:=ZhJ hown5 hg;omega))
 have hb5:=hH4.2.trans (hL5.mono hH4.2.size)
 have hB5:=Zwu hB4 hL5
 have hx5:=hx4.low hL5
 have hz5:w1.heap.size<u5.heap.size:=Nat.lt_of_lt_of_le hz4 hL5.size
 clear hown5 d0 d1 d2 d3 d4
 go_wp2_with fail
 refine (Zxp w1.heap.size w1.heap.size _ [60,32] RA vo u5 hB5 hb5.size hform5 HV5 (by omega) HRAt (by decide) ac2 HA2 (by omega)).mono ?_
 rintro e u6 ⟨rfl,hB6,hb6',ho6⟩
 have hx6:=Zwm hx5 ho6 hne1
 have hb6:=hb5.trans hb6'
 have hz6:w1.heap.size<u6.heap.size:=Nat.lt_of_lt_of_le hz5 hb6'.size
 clear hB5 hb5 hx5 HV5 hform5 hb6' ho6 hx4 hB4 hH4 HA2 hz4 hz5
 obtain⟨d0,d1,d2,d3,d4⟩:=hx6.cells
 rcases HCS.out with ⟨rfl,rfl⟩ | ⟨rfl,rfl⟩ | ⟨rfl,rfl⟩
 ·rw[List.append_nil] at HA4
  go_wp2_with fail
  refine (ZvG x (.slice yo x.ls.length yc) u6 (HMk.keep hml1 hb6 (Nat.le_refl _)) hxl RB HNw).mono ?_
  rintro e u8 ⟨vn,rfl,hown8,hL8⟩
  have hform8:∃ vo vc,vn=.slice vo RB.length vc:=Holds.form (Zeo hown8)
  have HV8:Hid (∀ u,Lib.OthersKept 5 (some w1.heap.size) u8 u→HS u vn RB):=fun u hu=>Zeo (Zyd hown8 hu (fun g hg=>by have:=ZhJ hown8 hg;omega))
  have hb8:=hb6.trans (hL8.mono hb6.size)
  have hB8:=Zwu hB6 hL8
  clear hown8 d0 d1 d2 d3 d4
  go_wp2_with fail
  refine (Zxp w1.heap.size w1.heap.size _ [62,32] RB vn u8 hB8 hb8.size hform8 HV8 (by omega) HRBt (by decide) T HA4 hT).mono ?_
  rintro e u9 ⟨rfl,hB9,hb9,ho9⟩
  have hb10:=hb8.trans hb9
  clear hB8 hb8 HV8 hform8 ho9
  go_wp2_with fail
  refine (Tryz.Builder_String_any_k w1.heap.size w1.heap.size T u9 hB9 hb10.size).mono ?_
  rintro e u10 ⟨rfl,-,hb11,-⟩
  have hfin:Below w.heap.size w u10:=hL1.trans ((hb10.trans hb11).mono hle1)
  go_wp2
  go_ret
  exact⟨rfl,hfin⟩
 ·rw[List.append_nil] at HA4
  go_wp2_with fail
  refine (ZvG x (.slice yo x.ls.length yc) u6 (HMk.keep hml1 hb6 (Nat.le_refl _)) hxl RB HNw).mono ?_
  rintro e u8 ⟨vn,rfl,hown8,hL8⟩
  have hform8:∃ vo vc,vn=.slice vo RB.length vc:=Holds.form (Zeo hown8)
  have HV8:Hid (∀ u,Lib.OthersKept 5 (some w1.heap.size) u8 u→HS u vn RB):=fun u hu=>Zeo (Zyd hown8 hu (fun g hg=>by have:=ZhJ hown8 hg;omega))
  have hb8:=hb6.trans (hL8.mono hb6.size)
  have hB8:=Zwu hB6 hL8
  clear hown8 d0 d1 d2 d3 d4
  go_wp2_with fail
  refine (Zxp w1.heap.size w1.heap.size _ [62,32] RB vn u8 hB8 hb8.size hform8 HV8 (by omega) HRBt (by decide) T HA4 hT).mono ?_
  rintro e u9 ⟨rfl,hB9,hb9,ho9⟩
  have hb10:=hb8.trans hb9
  clear hB8 hb8 HV8 hform8 ho9
  go_wp2_with fail
  refine (Tryz.Builder_String_any_k w1.heap.size w1.heap.size T u9 hB9 hb10.size).mono ?_
  rintro e u10 ⟨rfl,-,hb11,-⟩
  have hfin:Below w.heap.size w u10:=hL1.trans ((hb10.trans hb11).mono hle1)
  go_wp2
  go_ret
  exact⟨rfl,hfin⟩
 ·go_wp2_with fail
  refine (Tryz.WriteString_h w1.heap.size w1.heap.size _ _ u6 hB6 (by rw[Ztl];show ac2.length+4≤_;simp only[List.length_cons,List.length_nil] at hal2;omega) hb6.size).mono ?_
  rintro e u71 ⟨rfl,hB71,hb71,ho71⟩
  have hB72:Lib.IsBuilderF 85 5 w1.heap.size w1.heap.size (Lib.byteCells (ac2++[45,45,45,10])) u71:=.inr (by rw[Lib.byteCells_append];exact hB71)
  have hx72:=Zwm hx6 ho71 hne1
  have hb72:=hb6.trans hb71
  have hz72:w1.heap.size<u71.heap.size:=Nat.lt_of_lt_of_le hz6 hb71.size
  clear hB71 hb71 ho71 hB6 hx6 hb6 hz6 d0 d1 d2 d3 d4
  have hB6:=hB72
  have hx6:=hx72
  have hb6:=hb72
  have hz6:=hz72
  clear hB72 hx72 hb72 hz72
  generalize u71=u6 at *
  obtain⟨d0,d1,d2,d3,d4⟩:=hx6.cells
  go_wp2_with fail
  refine (ZvG x (.slice yo x.ls.length yc) u6 (HMk.keep hml1 hb6 (Nat.le_refl _)) hxl RB HNw).mono ?_
  rintro e u8 ⟨vn,rfl,hown8,hL8⟩
  have hform8:∃ vo vc,vn=.slice vo RB.length vc:=Holds.form (Zeo hown8)
  have HV8:Hid (∀ u,Lib.OthersKept 5 (some w1.heap.size) u8 u→HS u vn RB):=fun u hu=>Zeo (Zyd hown8 hu (fun g hg=>by have:=ZhJ hown8 hg;omega))
  have hb8:=hb6.trans (hL8.mono hb6.size)
  have hB8:=Zwu hB6 hL8
  clear hown8 d0 d1 d2 d3 d4
  go_wp2_with fail
  refine (Zxp w1.heap.size w1.heap.size _ [62,32] RB vn u8 hB8 hb8.size hform8 HV8 (by omega) HRBt (by decide) T HA4 hT).mono ?_
  rintro e u9 ⟨rfl,hB9,hb9,ho9⟩
  have hb10:=hb8.trans hb9
  clear hB8 hb8 HV8 hform8 ho9
  go_wp2_with fail
  refine (Tryz.Builder_String_any_k w1.heap.size w1.heap.size T u9 hB9 hb10.size).mono ?_
  rintro e u10 ⟨rfl,-,hb11,-⟩
  have hfin:Below w.heap.size w u10:=hL1.trans ((hb10.trans hb11).mono hle1)
  go_wp2
  go_ret
  exact⟨rfl,hfin⟩
end

section
open Ln
end

section
open Ln
structure Pth where
 old:List UInt8
 new:List UInt8
 hs:List Hk
def devN:List UInt8:=[47,100,101,118,47,110,117,108,108]
def nameC (c:UInt8):Bool:=decide (33≤c.toNat∧c.toNat≤126∧c.toNat≠34)
def nameT (s:List UInt8):List UInt8:=if s=[] then devN else if s.all nameC=true∧s≠devN then s else Q.quote s
def spanT (p n:Int):List UInt8:=if n≤1 then Lib.itoa p else Lib.itoa p++44::Lib.itoa (p+n-1)
def anyS (sg:Int):List Mk→Bool
 | []=>false
 | m::l=>if m.sg=32 then false else decide (m.sg=sg) || anyS sg l
def sidL (sg:Int):Bool→Bool→List Mk→List (List UInt8)
 | _,_,[]=>[]
 | r,a,m::l=>if m.sg=32 then lnL [32,32] m.tx++sidL sg false false l
  else if m.sg=sg then lnL (if ((r || anyS 45 (m::l)) && (a || anyS 43 (m::l)))=true then [33,32] else [UInt8.ofNat sg.toNat,32]) m.tx++sidL sg (r || decide (m.sg=45)) (a || decide (m.sg=43)) l
  else sidL sg (r || decide (m.sg=45)) (a || decide (m.sg=43)) l
def sideL (sg:Int) (l:List Mk):List (List UInt8):=if (l.any fun m=>decide (m.sg=sg))=true then sidL sg false false l else []
def starsT:List UInt8:=[42,42,42,42,42,42,42,42,42,42,42,42,42,42,42]
def rlT (e:UInt8) (p n:Int):List UInt8:=[e,e,e,32]++spanT p n++[32,e,e,e,e,10]
def hkL (h:Hk):List (List UInt8):=(starsT++[10])::rlT 42 h.A h.AN::(sideL 45 h.ls++rlT 45 h.B h.BN::sideL 43 h.ls)
def ptL (p:Pth):List (List UInt8):=if p.hs=[] then [] else ([42,42,42,32]++nameT p.old++[10])::([45,45,45,32]++nameT p.new++[10])::p.hs.flatMap hkL
def wrgP (p:Pth):Int:=if 64<p.old.length∨64<p.new.length then 253 else if 4096<p.hs.length then 9 else errs p.hs
def ptT (p:Pth):List UInt8:=if wrgP p=0 then (ptL p).flatten else []
abbrev Sde:=List (UInt8 × List UInt8)
/- names -/
/- ranges -/
end

section
open Ln
end

section
open Ln
end

section
open Ln
structure Gh (h:Hk):Prop where
 chk:chkH h=0
 nf:Nf false h.ls
 ea:2≤h.AN→h.A+h.AN-1≤2147483647
 eb:2≤h.BN→h.B+h.BN-1≤2147483647
theorem ZtX {h:Hk} (hc:chkH h=0):rngB h=true∧fldB h.ls=true∧h.AN=(oldL h).length∧h.BN=(newL h).length∧(h.ls.all fun m=>decide (m.sg=32))=false:=by
 unfold chkH at hc
 split at hc
 ·cases hc
 ·rename_i h1
  split at hc
  ·cases hc
  ·rename_i h2
   split at hc
   ·cases hc
   ·rename_i h3
    split at hc
    ·cases hc
    ·rename_i h4
     refine⟨by simpa using h1,by simpa using h2,?_,?_,by simpa using h4⟩<;>omega
theorem ZzK {h:Hk} (hr:rngB h=true):0≤h.A∧h.A≤2147483647∧0≤h.AN∧0≤h.B∧h.B≤2147483647∧0≤h.BN∧(h.A=0→h.AN≤0)∧(h.B=0→h.BN≤0):=by
 simp[rngB,nat31] at hr
 omega
end

section
open Ln
structure Gp (p:Pth):Prop where
 ne:p.hs≠[]
 old:p.old.length≤64
 new:p.new.length≤64
 few:p.hs.length≤4096
 gd:∀ h∈p.hs,Gh h
theorem ZyB {p:Pth} (h:p.hs≠[]):ptL p=([42,42,42,32]++nameT p.old++[10])::([45,45,45,32]++nameT p.new++[10])::p.hs.flatMap hkL:=by
 unfold ptL
 rw[if_neg h]
end

section
open Ln
end

section
open Ln
end

section
open Ln
def ucT (p n:Int):List UInt8:=if n=1 then Lib.itoa p else Lib.itoa p++44::Lib.itoa n
def uhT (h:Hk):List UInt8:=[64,64,32,45]++(ucT h.A h.AN++([32,43]++(ucT h.B h.BN++[32,64,64])))
def umL (m:Mk):List (List UInt8):=lnL [UInt8.ofNat m.sg.toNat] m.tx
def uhL (h:Hk):List (List UInt8):=(uhT h++[10])::h.ls.flatMap umL
def upL (p:Pth):List (List UInt8):=if p.hs=[] then [] else ([45,45,45,32]++nameT p.old++[10])::([43,43,43,32]++nameT p.new++[10])::p.hs.flatMap uhL
def upT (p:Pth):List UInt8:=if wrgP p=0 then (upL p).flatten else []
def tkN (c:UInt8):Nat:=if c=45 then 0 else 1
def okC (c:UInt8):Bool:=c == 32 || c == 45 || c == 43
end

section
open Ln
theorem ZzI {h:Hk} (hr:rngB h=true):h.AN≤2147483647∧h.BN≤2147483647:=by
 simp[rngB,nat31] at hr
 omega
theorem ZAf {s:Int} (h:okS s=true):s=32∨s=45∨s=43:=by
 simp[okS] at h
 omega
structure Gu (p:Pth):Prop where
 ne:p.hs≠[]
 old:p.old.length≤64
 new:p.new.length≤64
 few:p.hs.length≤4096
 gd:∀ h∈p.hs,chkH h=0
theorem ZAN {p:Pth} (h:p.hs≠[]):upL p=([45,45,45,32]++nameT p.old++[10])::([43,43,43,32]++nameT p.new++[10])::p.hs.flatMap uhL:=by
 unfold upL
 rw[if_neg h]
end

section
open Ln
/- by two bytes, or by four -/
end

section
open Ln
def Plc (n:Nat) (e:Nat × Int):Prop:=1≤e.1∧e.1≤n+1∧e.2≠0
theorem Plc.le {n m:Nat} {e:Nat × Int} (h:Plc n e) (hm:n≤m):Plc m e:=⟨h.1,by have:=h.2.1;omega,h.2.2⟩
/- names, and the unified form -/
/- the context form -/
end

section
open Ln
/- 18.5: remarks change nothing -/
/- 18.5: what is written is read again -/
/- the normal form -/
end

section
open Ln
def pieL (a b:Int) (o n:List (List UInt8)):List (List UInt8):=if o=[]∧n=[] then [] else
 (cmdT ⟨a,o.length,b,n.length⟩++[10])::(o.flatMap (lnL [60,32])++(sepL ⟨a,o.length,b,n.length⟩++n.flatMap (lnL [62,32])))
def nrmL:Int→Int→List (List UInt8)→List (List UInt8)→List Mk→List (List UInt8)
 | a,b,o,n,[]=>pieL a b o n
 | a,b,o,n,m::l=>if m.sg=32 then pieL a b o n++nrmL (a+o.length+1) (b+n.length+1) [] [] l else if m.sg=45 then nrmL a b (o++[m.tx]) n l else nrmL a b o (n++[m.tx]) l
def nrmH (h:Hk):List (List UInt8):=nrmL (atA h) (atB h) [] [] h.ls
def nrmT (h:Hk):List UInt8:=(nrmH h).flatten
def lonB (h:Hk):Int:=if 0<h.BN then atA h+1 else atA h
def lonH (h:Hk):Hk:=if 2147483647<lonB h then ⟨min 1 h.AN,h.AN,min 1 h.BN,h.BN,h.ls⟩ else ⟨h.A,h.AN,lonB h,h.BN,h.ls⟩
theorem ZwO {h:Hk} (hc:chkH h=0):atA (lonH h)=atB (lonH h)∧0≤atA (lonH h)∧(lonH h).ls=h.ls∧chkH (lonH h)=0:=by
 obtain⟨c1,c2,c3,c4,c5⟩:=ZtX hc
 have hr:=c1
 simp[rngB,nat31] at hr
 have hl:(lonH h).ls=h.ls:=by unfold lonH;split<;>rfl
 have hn:(lonH h).AN=h.AN∧(lonH h).BN=h.BN:=by unfold lonH;split<;>exact⟨rfl,rfl⟩
 have ha:atA (lonH h)=atB (lonH h)∧0≤atA (lonH h)∧rngB (lonH h)=true:=by
  by_cases p3:2147483647<lonB h
  ·have e:lonH h=⟨min 1 h.AN,h.AN,min 1 h.BN,h.BN,h.ls⟩:=by unfold lonH;rw[if_pos p3]
   rw[e]
   simp only[atA,atB,rngB,nat31,Bool.and_eq_true,Bool.not_eq_true',Bool.and_eq_false_iff,decide_eq_true_eq,decide_eq_false_iff_not]
   by_cases p1:0<h.AN
   ·by_cases p2:0<h.BN
    ·rw[if_pos p1,if_pos p2];omega
    ·rw[if_pos p1,if_neg p2];omega
   ·by_cases p2:0<h.BN
    ·rw[if_neg p1,if_pos p2];omega
    ·rw[if_neg p1,if_neg p2];omega
  ·have e:lonH h=⟨h.A,h.AN,lonB h,h.BN,h.ls⟩:=by unfold lonH;rw[if_neg p3]
   rw[e]
   simp only[atA,atB,rngB,nat31,Bool.and_eq_true,Bool.not_eq_true',Bool.and_eq_false_iff,decide_eq_true_eq,decide_eq_false_iff_not]
   have hB:lonB h=if 0<h.BN then (if 0<h.AN then h.A-1 else h.A)+1 else (if 0<h.AN then h.A-1 else h.A):=rfl
   by_cases p1:0<h.AN
   ·by_cases p2:0<h.BN
    ·rw[if_pos p2,if_pos p1] at hB;rw[if_pos p1,if_pos p2];omega
    ·rw[if_neg p2,if_pos p1] at hB;rw[if_pos p1,if_neg p2];omega
   ·by_cases p2:0<h.BN
    ·rw[if_pos p2,if_neg p1] at hB;rw[if_neg p1,if_pos p2];omega
    ·rw[if_neg p2,if_neg p1] at hB;rw[if_neg p1,if_neg p2];omega
 refine⟨ha.1,ha.2.1,hl,?_⟩
 unfold chkH oldL newL
 rw[ha.2.2,hl,c2,hn.1,hn.2,if_neg (by decide),if_neg (by decide),c5]
 unfold oldL at c3
 unfold newL at c4
 rw[if_neg (by omega)]
 rfl
theorem ZwQ {h:Hk} (hc:chkH h=0):ordH [lonH h]=0:=by
 obtain⟨a1,a2,a3,a4⟩:=ZwO hc
 have e1:errs [lonH h]=0:=by simp[errs,a4]
 have e2:ordB 0 0 [lonH h]=true:=by
  simp only[ordB,Bool.and_true,Bool.and_eq_true,decide_eq_true_eq]
  omega
 unfold ordH
 rw[e1,e2]
 rfl
def relL (u a b:Int) (old fresh:List (List UInt8)) (c:Ch):List (List UInt8):=(cmdT ⟨a+(c.A-u),c.AN,b+(c.B-u),c.BN⟩++[10])::((cut old (c.A-u) c.AN).flatMap (lnL [60,32])++(sepL c++(cut fresh (c.B-u) c.BN).flatMap (lnL [62,32])))
theorem Zxz (P o R:List (List UInt8)):cut (P++(o++R)) (P.length:Int) (o.length:Int)=o:=by
 unfold cut
 simp
theorem Zzp {u a b:Int} {P o R Q n S:List (List UInt8)} (h:¬ (o=[]∧n=[])):relL u a b (P++(o++R)) (Q++(n++S)) ⟨u+P.length,o.length,u+Q.length,n.length⟩=pieL (a+P.length) (b+Q.length) o n:=by
 unfold relL pieL
 rw[if_neg h]
 have e1:u+(P.length:Int)-u=P.length:=by omega
 have e2:u+(Q.length:Int)-u=Q.length:=by omega
 simp only[e1,e2,Zxz]
 rfl
theorem ZxA {a b:Int} {o n:List (List UInt8)} {m:Mk} {l:List Mk} (e:m.sg=32):nrmL a b o n (m::l)=pieL a b o n++nrmL (a+o.length+1) (b+n.length+1) [] [] l:=by simp only[nrmL];rw[if_pos e]
theorem ZxD {a b:Int} {o n:List (List UInt8)} {m:Mk} {l:List Mk} (e:m.sg=45):nrmL a b o n (m::l)=nrmL a b (o++[m.tx]) n l:=by simp only[nrmL];rw[if_neg (by omega),if_pos e]
theorem Zxy {a b:Int} {o n:List (List UInt8)} {m:Mk} {l:List Mk} (e:m.sg=43):nrmL a b o n (m::l)=nrmL a b o (n++[m.tx]) l:=by simp only[nrmL];rw[if_neg (by omega),if_neg (by omega)]
theorem Zub {a b:Int} {r:List Ch} {m:Mk} {l:List Mk} (e:m.sg=32):chLs a b r (m::l)=chLs (a+1) (b+1) r l:=by simp only[chLs];rw[if_pos e]
theorem Zuc {a b:Int} {r:List Ch} {m:Mk} {l:List Mk} (e:m.sg=45):chLs a b r (m::l)=chLs (a+1) b (bmA (opn a b r)) l:=by simp only[chLs];rw[if_neg (by omega),if_pos e]
theorem Zua {a b:Int} {r:List Ch} {m:Mk} {l:List Mk} (e:m.sg=43):chLs a b r (m::l)=chLs a (b+1) (bmB (opn a b r)) l:=by simp only[chLs];rw[if_neg (by omega),if_neg (by omega)]
theorem ZtH {u a b:Int} (l:List Mk):∀ (P Q o n:List (List UInt8)) (r:List Ch),(∀ m∈l,okS m.sg=true) →
  (∀ c∈r,c.A+c.AN<u+P.length∨c.A+c.AN=u+P.length∧o=[]∧n=[]∧False∨c.B+c.BN<u+Q.length) →
  ((chLs (u+P.length+o.length) (u+Q.length+n.length) (if o=[]∧n=[] then r else ⟨u+P.length,o.length,u+Q.length,n.length⟩::r) l).reverse.flatMap (relL u a b (P++(o++pkL 43 l)) (Q++(n++pkL 45 l)))) =
  r.reverse.flatMap (relL u a b (P++(o++pkL 43 l)) (Q++(n++pkL 45 l)))++nrmL (a+P.length) (b+Q.length) o n l:=by
 induction l with
 | nil =>
  intro P Q o n r _ _
  simp only[chLs,nrmL,pkL]
  by_cases h:o=[]∧n=[]
  ·rw[if_pos h]
   unfold pieL
   rw[if_pos h]
   exact (List.append_nil _).symm
  ·rw[if_neg h,List.reverse_cons,List.flatMap_append]
   congr 1
   rw[List.flatMap_cons,List.flatMap_nil,Zzp h]
   exact List.append_nil _
 | cons m l ih =>
  intro P Q o n r hk hr
  have hm:=hk m (by simp)
  have hl:∀ x∈l,okS x.sg=true:=fun x hx=>hk x (by simp[hx])
  rcases ZAf hm with e | e | e
  · -- a kept line
   have e1:pkL 43 (m::l)=m.tx::pkL 43 l:=by simp only[pkL];rw[if_pos ⟨by omega,hm⟩]
   have e2:pkL 45 (m::l)=m.tx::pkL 45 l:=by simp only[pkL];rw[if_pos ⟨by omega,hm⟩]
   have q1:P++(o++m.tx::pkL 43 l)=(P++(o++[m.tx]))++([]++pkL 43 l):=by simp
   have q2:Q++(n++m.tx::pkL 45 l)=(Q++(n++[m.tx]))++([]++pkL 45 l):=by simp
   rw[e1,e2,ZxA e,Zub e]
   have hI:=ih (P++(o++[m.tx])) (Q++(n++[m.tx])) [] [] (if o=[]∧n=[] then r else ⟨u+P.length,o.length,u+Q.length,n.length⟩::r) hl (by
    intro c hc
    have hz:c∈r∨c=⟨u+P.length,o.length,u+Q.length,n.length⟩:=by
     split at hc
     ·exact .inl hc
     ·rcases List.mem_cons.1 hc with rfl | hc
      ·exact .inr rfl
      ·exact .inl hc
    rcases hz with hz | rfl
    ·rcases hr c hz with h1 | h1 | h1
     ·left;simp only[List.length_append,List.length_cons,List.length_nil];omega
     ·exact absurd h1.2.2.2 (by simp)
     ·right;right;simp only[List.length_append,List.length_cons,List.length_nil];omega
    ·left;simp only[List.length_append,List.length_cons,List.length_nil];omega)
   rw[if_pos ⟨rfl,rfl⟩] at hI
   rw[q1,q2]
   have p1:u+(P.length:Int)+o.length+1=u+((P++(o++[m.tx])).length:Int)+(([]:List (List UInt8)).length:Int):=by simp only[List.length_append,List.length_cons,List.length_nil];omega
   have p2:u+(Q.length:Int)+n.length+1=u+((Q++(n++[m.tx])).length:Int)+(([]:List (List UInt8)).length:Int):=by simp only[List.length_append,List.length_cons,List.length_nil];omega
   have p3:a+(P.length:Int)+o.length+1=a+((P++(o++[m.tx])).length:Int):=by simp only[List.length_append,List.length_cons,List.length_nil];omega
   have p4:b+(Q.length:Int)+n.length+1=b+((Q++(n++[m.tx])).length:Int):=by simp only[List.length_append,List.length_cons,List.length_nil];omega
   rw[p1,p2,hI,p3,p4]
   by_cases h:o=[]∧n=[]
   ·rw[if_pos h]
    unfold pieL
    rw[if_pos h]
    rfl
   ·rw[if_neg h,List.reverse_cons,List.flatMap_append,List.append_assoc]
    congr 1
    rw[List.flatMap_cons,List.flatMap_nil]
    have w1:(P++(o++[m.tx]))++([]++pkL 43 l)=P++(o++(m.tx::pkL 43 l)):=by simp
    have w2:(Q++(n++[m.tx]))++([]++pkL 45 l)=Q++(n++(m.tx::pkL 45 l)):=by simp
    rw[w1,w2,Zzp h,List.append_nil]
  · -- a line that is taken out
   have e1:pkL 43 (m::l)=m.tx::pkL 43 l:=by simp only[pkL];rw[if_pos ⟨by omega,hm⟩]
   have e2:pkL 45 (m::l)=pkL 45 l:=by simp only[pkL];rw[if_neg (fun q=>q.1 e)]
   have q1:P++(o++m.tx::pkL 43 l)=P++((o++[m.tx])++pkL 43 l):=by simp
   rw[e1,e2,ZxD e,Zuc e,q1]
   have hI:=ih P Q (o++[m.tx]) n r hl (by
    intro c hc
    rcases hr c hc with h1 | h1 | h1
    ·exact .inl h1
    ·exact absurd h1.2.2.2 (by simp)
    ·exact .inr (.inr h1))
   rw[if_neg (by simp)] at hI
   have p1:u+(P.length:Int)+o.length+1=u+P.length+((o++[m.tx]).length:Int):=by simp only[List.length_append,List.length_cons,List.length_nil];omega
   rw[← hI,p1]
   congr 3
   by_cases h:o=[]∧n=[]
   ·rw[if_pos h]
    have ho:opn (u+(P.length:Int)+o.length) (u+(Q.length:Int)+n.length) r=⟨u+P.length+o.length,0,u+Q.length+n.length,0⟩::r:=by
     unfold opn
     rw[if_neg]
     cases r with
     | nil=>simp[endsAt]
     | cons c r =>
      simp only[endsAt,Bool.and_eq_true,decide_eq_true_eq]
      rcases hr c (by simp) with h1 | h1 | h1
      ·omega
      ·exact absurd h1.2.2.2 (by simp)
      ·omega
    rw[ho,h.1,h.2]
    simp[bmA]
   ·rw[if_neg h]
    have ho:opn (u+(P.length:Int)+o.length) (u+(Q.length:Int)+n.length) (⟨u+P.length,o.length,u+Q.length,n.length⟩::r)=⟨u+P.length,o.length,u+Q.length,n.length⟩::r:=by
     unfold opn
     rw[if_pos (by simp[endsAt])]
    rw[ho]
    simp[bmA]
  · -- a line that is put in
   have e1:pkL 43 (m::l)=pkL 43 l:=by simp only[pkL];rw[if_neg (fun q=>q.1 e)]
   have e2:pkL 45 (m::l)=m.tx::pkL 45 l:=by simp only[pkL];rw[if_pos ⟨by omega,hm⟩]
   have q2:Q++(n++m.tx::pkL 45 l)=Q++((n++[m.tx])++pkL 45 l):=by simp
   rw[e1,e2,Zxy e,Zua e,q2]
   have hI:=ih P Q o (n++[m.tx]) r hl (by
    intro c hc
    rcases hr c hc with h1 | h1 | h1
    ·exact .inl h1
    ·exact absurd h1.2.2.2 (by simp)
    ·exact .inr (.inr h1))
   rw[if_neg (by simp)] at hI
   have p1:u+(Q.length:Int)+n.length+1=u+Q.length+((n++[m.tx]).length:Int):=by simp only[List.length_append,List.length_cons,List.length_nil];omega
   rw[← hI,p1]
   congr 3
   by_cases h:o=[]∧n=[]
   ·rw[if_pos h]
    have ho:opn (u+(P.length:Int)+o.length) (u+(Q.length:Int)+n.length) r=⟨u+P.length+o.length,0,u+Q.length+n.length,0⟩::r:=by
     unfold opn
     rw[if_neg]
     cases r with
     | nil=>simp[endsAt]
     | cons c r =>
      simp only[endsAt,Bool.and_eq_true,decide_eq_true_eq]
      rcases hr c (by simp) with h1 | h1 | h1
      ·omega
      ·exact absurd h1.2.2.2 (by simp)
      ·omega
    rw[ho,h.1,h.2]
    simp[bmB]
   ·rw[if_neg h]
    have ho:opn (u+(P.length:Int)+o.length) (u+(Q.length:Int)+n.length) (⟨u+P.length,o.length,u+Q.length,n.length⟩::r)=⟨u+P.length,o.length,u+Q.length,n.length⟩::r:=by
     unfold opn
     rw[if_pos (by simp[endsAt])]
    rw[ho]
    simp[bmB]
theorem ZxB {h:Hk} (hc:chkH h=0):(chR [lonH h]).flatMap (relL (atA (lonH h)) (atA h) (atB h) (oldL h) (newL h))=nrmH h:=by
 obtain⟨a1,a2,a3,a4⟩:=ZwO hc
 have hk:∀ m∈h.ls,okS m.sg=true:=fun m hm=>(((Zdq h.ls).1 (ZtX hc).2.1).1 m hm).2
 have g:=ZtH (u:=atA (lonH h)) (a:=atA h) (b:=atB h) h.ls [] [] [] [] [] hk (by intro c hc;cases hc)
 rw[if_pos ⟨rfl,rfl⟩] at g
 unfold chR
 rw[ZwQ hc,if_pos rfl]
 simp only[chHs]
 rw[a3,← a1]
 simp only[List.nil_append,List.length_nil,List.reverse_nil,List.flatMap_nil,Int.natCast_zero,Int.add_zero] at g
 exact g
end

section
open Ln
def fstE:List Pth→Int
 | []=>0
 | p::L=>if wrgP p≠0 then wrgP p else fstE L
def rowE (f:Int) (L:List Pth):Int:=if ¬ (f=1∨f=2∨f=3) then 5 else if 64<L.length∨(f=1∧1<L.length) then 9 else fstE L
def rowP (f:Int) (p:Pth):List UInt8:=if f=3 then (upL p).flatten else if f=2 then (ptL p).flatten else (p.hs.flatMap nrmH).flatten
def rowT (f:Int) (L:List Pth):List UInt8:=if rowE f L=0 then (L.map (rowP f)).flatten else []
def invP (p:Pth):Pth:=⟨p.new,p.old,p.hs.map invH⟩
def cutSl:List UInt8→Option (List UInt8)
 | []=>none
 | c::t=>if c=47 then some t else cutSl t
def strp:Nat→List UInt8→List UInt8
 | 0,s=>s
 | n+1,s=>match cutSl s with
  | none=>s
  | some r=>strp n r
theorem ZkH {s:List UInt8} (h:cutSl s=none) (n:Nat):strp n s=s:=by
 cases n with
 | zero=>rfl
 | succ n=>simp[strp,h]
end

section
def Inn (u p q:Int) (c:Ch):Prop:=u≤c.A∧0≤c.AN∧c.A+c.AN≤p∧u≤c.B∧0≤c.BN∧c.B+c.BN≤q
theorem Inn.le {u p q p' q':Int} {c:Ch} (h:Inn u p q c) (hp:p≤p') (hq:q≤q'):Inn u p' q' c:=by
 obtain⟨h1,h2,h3,h4,h5,h6⟩:=h
 exact⟨h1,h2,by omega,h4,h5,by omega⟩
theorem Zwr {u p q:Int} {r:List Ch} (hp:u≤p) (hq:u≤q) (h:∀ c∈r,Inn u p q c):∀ c∈opn p q r,Inn u p q c:=by
 intro c hc
 unfold opn at hc
 split at hc
 ·exact h c hc
 ·rcases List.mem_cons.1 hc with rfl | hc
  ·exact⟨hp,Int.le_refl _,by simp,hq,Int.le_refl _,by simp⟩
  ·exact h c hc
theorem Zwp {u p q:Int} {r:List Ch} (h:∀ c∈r,Inn u p q c):∀ c∈bmA r,Inn u (p+1) q c:=by
 cases r with
 | nil=>intro c hc;cases hc
 | cons d r =>
  intro c hc
  rcases List.mem_cons.1 hc with rfl | hc
  ·obtain⟨h1,h2,h3,h4,h5,h6⟩:=h d (by simp)
   exact⟨h1,by dsimp only;omega,by dsimp only;omega,h4,h5,h6⟩
  ·exact (h c (by simp[hc])).le (by omega) (Int.le_refl _)
theorem Zwq {u p q:Int} {r:List Ch} (h:∀ c∈r,Inn u p q c):∀ c∈bmB r,Inn u p (q+1) c:=by
 cases r with
 | nil=>intro c hc;cases hc
 | cons d r =>
  intro c hc
  rcases List.mem_cons.1 hc with rfl | hc
  ·obtain⟨h1,h2,h3,h4,h5,h6⟩:=h d (by simp)
   exact⟨h1,h2,h3,h4,by dsimp only;omega,by dsimp only;omega⟩
  ·exact (h c (by simp[hc])).le (Int.le_refl _) (by omega)
theorem ZtI (u:Int) (l:List Mk):∀ (p q:Int) (r:List Ch),u≤p→u≤q→(∀ c∈r,Inn u p q c)→(∀ m∈l,okS m.sg=true)→∀ c∈chLs p q r l,Inn u (p+(pkL 43 l).length) (q+(pkL 45 l).length) c:=by
 induction l with
 | nil =>
  intro p q r hp hq h _ c hc
  exact (h c hc).le (by simp[pkL]) (by simp[pkL])
 | cons m l ih =>
  intro p q r hp hq h hk c hc
  have hm:=hk m (by simp)
  have hk':∀ m∈l,okS m.sg=true:=fun x hx=>hk x (by simp[hx])
  have hs:m.sg=32∨m.sg=45∨m.sg=43:=by
   unfold okS at hm
   simp only[Bool.or_eq_true,decide_eq_true_eq] at hm
   omega
  rcases hs with e | e | e
  ·rw[Zub e] at hc
   have h2:=ih _ _ _ (by omega) (by omega) (fun c hc=>(h c hc).le (p':=p+1) (q':=q+1) (by omega) (by omega)) hk' c hc
   refine h2.le ?_ ?_
   ·simp[pkL,e,okS];omega
   ·simp[pkL,e,okS];omega
  ·rw[Zuc e] at hc
   have h2:=ih _ _ _ (by omega) hq (Zwp (Zwr hp hq h)) hk' c hc
   refine h2.le ?_ ?_
   ·simp[pkL,e,okS];omega
   ·simp[pkL,e,okS]
  ·rw[Zua e] at hc
   have h2:=ih _ _ _ hp (by omega) (Zwq (Zwr hp hq h)) hk' c hc
   refine h2.le ?_ ?_
   ·simp[pkL,e,okS]
   ·simp[pkL,e,okS];omega
theorem ZwR {h:Hk} (hc:chkH h=0):∀ c∈chR [lonH h],Inn (atA (lonH h)) (atA (lonH h)+(oldL h).length) (atA (lonH h)+(newL h).length) c:=by
 obtain⟨a1,a2,a3,a4⟩:=ZwO hc
 have hk:∀ m∈h.ls,okS m.sg=true:=fun m hm=>(((Zdq h.ls).1 (ZtX hc).2.1).1 m hm).2
 intro c hm
 unfold chR at hm
 rw[ZwQ hc,if_pos rfl] at hm
 simp only[chHs] at hm
 rw[a3,← a1] at hm
 exact ZtI _ h.ls _ _ [] (Int.le_refl _) (Int.le_refl _) (by intro c hc;cases hc) hk c (List.mem_reverse.1 hm)
def onP (h:Hk) (c:Ch):List UInt8:=(relL (atA (lonH h)) (atA h) (atB h) (oldL h) (newL h) c).flatten
theorem ZxC {h:Hk} (hc:chkH h=0):((chR [lonH h]).map (onP h)).flatten=nrmT h:=by
 unfold nrmT
 rw[← ZxB hc]
 generalize chR [lonH h]=L
 induction L with
 | nil=>rfl
 | cons c L ih=>rw[List.map_cons,List.flatten_cons,ih,List.flatMap_cons,List.flatten_append];rfl
end

section
def lasA:Int→List Ch→Int
 | a,[]=>a
 | _,c::l=>lasA (c.A+c.AN) l
theorem ZwE (c:Ch) (l:List Ch):∀ a,lasA a (l++[c])=c.A+c.AN:=by
 induction l with
 | nil=>intro a;rfl
 | cons d l ih=>intro a;exact ih _
theorem ZzD {n m:Int} (c:Ch) (l:List Ch):∀ (f:Bool) (a b:Int),Right f a b n m (l++[c])↔Right f a b c.A c.B l∧numB c=true∧((l=[]∧f=true)∨lasA a l<c.A)∧c.A+c.AN≤n∧c.B+c.BN≤m∧n-(c.A+c.AN)=m-(c.B+c.BN):=by
 induction l with
 | nil =>
  intro f a b
  simp only[List.nil_append,Right,lasA,true_and]
  constructor
  ·rintro⟨⟨h1,h2,h3,h4⟩,h5,h6,h7⟩
   exact⟨⟨h3,by omega,h2⟩,h1,h4,h5,h6,h7⟩
  ·rintro⟨⟨h3,_,h2⟩,h1,h4,h5,h6,h7⟩
   exact⟨⟨h1,h2,h3,h4⟩,h5,h6,h7⟩
 | cons d l ih =>
  intro f a b
  simp only[List.cons_append,Right,ih,lasA]
  constructor
  ·rintro⟨h1,h2,h3,h4,h5⟩
   refine⟨⟨h1,h2⟩,h3,.inr ?_,h5⟩
   rcases h4 with h4 | h4
   ·exact absurd h4.2 (by simp)
   ·exact h4
  ·rintro⟨⟨h1,h2⟩,h3,h4,h5⟩
   refine⟨h1,h2,h3,.inr ?_,h5⟩
   rcases h4 with h4 | h4
   ·exact absurd h4.1 (by simp)
   ·exact h4
theorem ZzA {l:List Ch}:∀ {f:Bool} {a b n m:Int} (k:Int),0≤k→Right f a b n m l→Right f a b (n+k) (m+k) l:=by
 induction l with
 | nil =>
  intro f a b n m k hk h
  simp only[Right] at h ⊢
  omega
 | cons c l ih =>
  intro f a b n m k hk h
  simp only[Right] at h ⊢
  exact⟨h.1,ih k hk h.2⟩
theorem Zzy {l:List Ch} {c:Ch} {f:Bool} {a b n m:Int} (h:Right f a b n m (l++[c])):c.A+c.AN≤n∧n-(c.A+c.AN)=m-(c.B+c.BN):=by
 have:=(ZzD c l f a b).1 h
 exact⟨this.2.2.2.1,this.2.2.2.2.2⟩
theorem Zzv {p q:Int} {r:List Ch} (hp:0≤p) (hq:0≤q) (hb:p+1≤2147483647) (hb2:q≤2147483647) (h:Right true 0 0 p q r.reverse):Right true 0 0 (p+1) q (bmA (opn p q r)).reverse:=by
 unfold opn
 split
 ·rename_i he
  cases r with
  | nil=>cases he
  | cons c r =>
   simp only[endsAt,Bool.and_eq_true,decide_eq_true_eq] at he
   rw[List.reverse_cons] at h
   simp only[bmA,List.reverse_cons]
   have h2:=(ZzD c r.reverse true 0 0).1 h
   have h3:=(Zhj c).1 h2.2.1
   refine (ZzD _ _ _ _ _).2 ⟨h2.1,?_,h2.2.2.1,?_,?_,?_⟩
   ·rw[Zhj];dsimp only;omega
   ·dsimp only;omega
   ·dsimp only;omega
   ·dsimp only;omega
 ·rename_i he
  simp only[bmA,List.reverse_cons]
  refine (ZzD _ _ _ _ _).2 ⟨h,?_,?_,?_,?_,?_⟩
  ·rw[Zhj];dsimp only;omega
  ·cases r with
   | nil=>exact .inl ⟨rfl,rfl⟩
   | cons c r =>
    right
    rw[List.reverse_cons,ZwE]
    rw[List.reverse_cons] at h
    have h2:=Zzy h
    have he2:¬ (c.A+c.AN=p∧c.B+c.BN=q):=by simpa [endsAt] using he
    dsimp only
    omega
  ·dsimp only;omega
  ·dsimp only;omega
  ·dsimp only;omega
theorem Zzw {p q:Int} {r:List Ch} (hp:0≤p) (hq:0≤q) (hb:p≤2147483647) (hb2:q+1≤2147483647) (h:Right true 0 0 p q r.reverse):Right true 0 0 p (q+1) (bmB (opn p q r)).reverse:=by
 unfold opn
 split
 ·rename_i he
  cases r with
  | nil=>cases he
  | cons c r =>
   simp only[endsAt,Bool.and_eq_true,decide_eq_true_eq] at he
   rw[List.reverse_cons] at h
   simp only[bmB,List.reverse_cons]
   have h2:=(ZzD c r.reverse true 0 0).1 h
   have h3:=(Zhj c).1 h2.2.1
   refine (ZzD _ _ _ _ _).2 ⟨h2.1,?_,h2.2.2.1,?_,?_,?_⟩
   ·rw[Zhj];dsimp only;omega
   ·dsimp only;omega
   ·dsimp only;omega
   ·dsimp only;omega
 ·rename_i he
  simp only[bmB,List.reverse_cons]
  refine (ZzD _ _ _ _ _).2 ⟨h,?_,?_,?_,?_,?_⟩
  ·rw[Zhj];dsimp only;omega
  ·cases r with
   | nil=>exact .inl ⟨rfl,rfl⟩
   | cons c r =>
    right
    rw[List.reverse_cons,ZwE]
    rw[List.reverse_cons] at h
    have h2:=Zzy h
    have he2:¬ (c.A+c.AN=p∧c.B+c.BN=q):=by simpa [endsAt] using he
    dsimp only
    omega
  ·dsimp only;omega
  ·dsimp only;omega
  ·dsimp only;omega
theorem ZtJ (l:List Mk):∀ (p q:Int) (r:List Ch),0≤p→0≤q→p+(pkL 43 l).length≤2147483647→q+(pkL 45 l).length≤2147483647→(∀ m∈l,okS m.sg=true)→Right true 0 0 p q r.reverse→Right true 0 0 (p+(pkL 43 l).length) (q+(pkL 45 l).length) (chLs p q r l).reverse:=by
 induction l with
 | nil =>
  intro p q r _ _ _ _ _ h
  simpa [pkL,chLs] using h
 | cons m l ih =>
  intro p q r hp hq h1 h2 hk h
  have hm:=hk m (by simp)
  have hk':∀ m∈l,okS m.sg=true:=fun x hx=>hk x (by simp[hx])
  have hs:m.sg=32∨m.sg=45∨m.sg=43:=by
   unfold okS at hm
   simp only[Bool.or_eq_true,decide_eq_true_eq] at hm
   omega
  rcases hs with e | e | e
  ·have e1:((pkL 43 (m::l)).length:Int)=1+(pkL 43 l).length:=by simp[pkL,e,okS];omega
   have e2:((pkL 45 (m::l)).length:Int)=1+(pkL 45 l).length:=by simp[pkL,e,okS];omega
   rw[Zub e,e1,e2,← Int.add_assoc,← Int.add_assoc]
   rw[e1] at h1
   rw[e2] at h2
   exact ih _ _ _ (by omega) (by omega) (by omega) (by omega) hk' (ZzA 1 (by omega) h)
  ·have e1:((pkL 43 (m::l)).length:Int)=1+(pkL 43 l).length:=by simp[pkL,e,okS];omega
   have e2:((pkL 45 (m::l)).length:Int)=(pkL 45 l).length:=by simp[pkL,e,okS]
   rw[Zuc e,e1,e2,← Int.add_assoc]
   rw[e1] at h1
   rw[e2] at h2
   exact ih _ _ _ (by omega) hq (by omega) (by omega) hk' (Zzv hp hq (by omega) (by omega) h)
  ·have e1:((pkL 43 (m::l)).length:Int)=(pkL 43 l).length:=by simp[pkL,e,okS]
   have e2:((pkL 45 (m::l)).length:Int)=1+(pkL 45 l).length:=by simp[pkL,e,okS];omega
   rw[Zua e,e1,e2,← Int.add_assoc]
   rw[e1] at h1
   rw[e2] at h2
   exact ih _ _ _ hp (by omega) (by omega) (by omega) hk' (Zzw hp hq (by omega) (by omega) h)
def frnH (h:Hk):Hk:=⟨min h.AN 1,h.AN,min h.BN 1,h.BN,h.ls⟩
theorem Zvc {h:Hk} (hc:chkH h=0):atA (frnH h)=0∧atB (frnH h)=0∧chkH (frnH h)=0∧ordH [frnH h]=0:=by
 obtain⟨c1,c2,c3,c4,c5⟩:=ZtX hc
 simp only[rngB,nat31,Bool.and_eq_true,Bool.not_eq_true',Bool.and_eq_false_iff,decide_eq_true_eq,decide_eq_false_iff_not] at c1
 have a1:atA (frnH h)=0:=by
  unfold atA frnH
  dsimp only
  split<;>omega
 have a2:atB (frnH h)=0:=by
  unfold atB frnH
  dsimp only
  split<;>omega
 have hr:rngB (frnH h)=true:=by
  unfold frnH
  simp only[rngB,nat31,Bool.and_eq_true,Bool.not_eq_true',Bool.and_eq_false_iff,decide_eq_true_eq,decide_eq_false_iff_not]
  omega
 have a3:chkH (frnH h)=0:=by
  unfold chkH oldL newL
  rw[hr,show (frnH h).ls=h.ls from rfl,c2,show (frnH h).AN=h.AN from rfl,show (frnH h).BN=h.BN from rfl,if_neg (by decide),if_neg (by decide),c5]
  unfold oldL at c3
  unfold newL at c4
  rw[if_neg (by omega)]
  rfl
 refine⟨a1,a2,a3,?_⟩
 have e1:errs [frnH h]=0:=by simp[errs,a3]
 have e2:ordB 0 0 [frnH h]=true:=by
  simp only[ordB,Bool.and_true,Bool.and_eq_true,decide_eq_true_eq]
  omega
 unfold ordH
 rw[e1,e2]
 rfl
theorem Zvh {h:Hk} (hc:chkH h=0):Script (chR [frnH h]) (oldL h).length (newL h).length:=by
 obtain⟨a1,a2,a3,a4⟩:=Zvc hc
 obtain⟨c1,c2,c3,c4,c5⟩:=ZtX hc
 simp only[rngB,nat31,Bool.and_eq_true,Bool.not_eq_true',Bool.and_eq_false_iff,decide_eq_true_eq,decide_eq_false_iff_not] at c1
 have hk:∀ m∈h.ls,okS m.sg=true:=fun m hm=>(((Zdq h.ls).1 c2).1 m hm).2
 have g:=ZtJ h.ls 0 0 [] (Int.le_refl _) (Int.le_refl _) (by have:=c3;unfold oldL at this;omega) (by have:=c4;unfold newL at this;omega) hk (by simp[Right])
 refine⟨by omega,by omega,?_⟩
 unfold chR
 rw[a4,if_pos rfl]
 simp only[chHs]
 rw[a1,a2,show (frnH h).ls=h.ls from rfl]
 rw[Int.zero_add,Int.zero_add] at g
 exact g
theorem Zvg {h:Hk} (hc:chkH h=0):(chR [frnH h]).flatMap (relL 0 (atA h) (atB h) (oldL h) (newL h))=nrmH h:=by
 obtain⟨a1,a2,a3,a4⟩:=Zvc hc
 have hk:∀ m∈h.ls,okS m.sg=true:=fun m hm=>(((Zdq h.ls).1 (ZtX hc).2.1).1 m hm).2
 have g:=ZtH (u:=0) (a:=atA h) (b:=atB h) h.ls [] [] [] [] [] hk (by intro c hc;cases hc)
 rw[if_pos ⟨rfl,rfl⟩] at g
 unfold chR
 rw[a4,if_pos rfl]
 simp only[chHs]
 rw[a1,a2,show (frnH h).ls=h.ls from rfl]
 simp only[List.nil_append,List.length_nil,List.reverse_nil,List.flatMap_nil,Int.natCast_zero,Int.add_zero] at g
 exact g
def movH (h x:Hk):Hk:=⟨x.A+(h.A-min h.AN 1),x.AN,x.B+(h.B-min h.BN 1),x.BN,x.ls⟩
theorem Zxh {h:Hk} (hc:chkH h=0):h.A-min h.AN 1=atA h∧h.B-min h.BN 1=atB h∧0≤atA h∧0≤atB h∧atA h≤2147483647∧atB h≤2147483647:=by
 obtain⟨c1,c2,c3,c4,c5⟩:=ZtX hc
 simp only[rngB,nat31,Bool.and_eq_true,Bool.not_eq_true',Bool.and_eq_false_iff,decide_eq_true_eq,decide_eq_false_iff_not] at c1
 refine⟨?_,?_,?_,?_,?_,?_⟩<;>first | (unfold atA;split<;>omega) | (unfold atB;split<;>omega)
end

section
open Ln Go.RowKit
attribute [local go_sem] Zhc ByteArray.extract_mk
end

section
open Go.RowKit Go.Proofs.YtcniomgjikienaaGreatDoor.Tx
attribute [local go_sem] Zhc ByteArray.extract_mk
end

section
open Go.RowKit Go.Proofs.YtcniomgjikienaaGreatDoor.Tx
attribute [local go_sem] Zhc ByteArray.extract_mk
theorem Zus {u:List UInt8} {k:Nat} (hk:k<u.length) (h:47∉u.take k) (hc:u[k]=47):cutSl u=some (u.drop (k+1)):=by
 induction u generalizing k with
 | nil=>cases hk
 | cons c t ih =>
  cases k with
  | zero =>
   have hc:c=47:=hc
   simp[cutSl,hc]
  | succ k =>
   simp only[List.take_succ_cons,List.mem_cons,not_or] at h
   have:=ih (k:=k) (by simpa using hk) h.2 (by simpa using hc)
   simp only[cutSl]
   rw[if_neg (fun e=>h.1 e.symm),this]
   rfl
theorem Zut {u:List UInt8} (h:47∉u):cutSl u=none:=by
 induction u with
 | nil=>rfl
 | cons c t ih =>
  simp only[List.mem_cons,not_or] at h
  simp only[cutSl]
  rw[if_neg (fun e=>h.1 e.symm),ih h.2]
def szT18:Value→Nat
 | .string b=>b.size
 | _=>0
theorem ZAt (r:List UInt8):szT18 (.string ⟨r.toArray⟩)=r.length:=rfl
theorem Zzi (s:List UInt8) (n:Int) (hs:s.length≤1099511627776) (hn:-9223372036854775808≤n∧n≤9223372036854775807) (w:World) (R:List UInt8) (HR:Hid (strp n.toNat s=R)) :
  Calls Tryz.prog 20 #[.string ⟨s.toArray⟩,.int .i64 n] w fun e w'=>e=.returned (.string ⟨R.toArray⟩)∧w'=w:=by
 go_enter Tryz.func20,Tryz.ntmps20
 go_wp2
 go_loopw [0,1,5] (fun sv nv iv wr=>∃ (u:List UInt8) (m:Int) (k:Nat),sv=.string ⟨u.toArray⟩∧nv=.int .i64 m∧iv=.int .i64 (k:Int)∧wr=w∧k≤u.length∧u.length≤s.length∧m≤n∧-9223372036854775808≤m∧Hid (47∉u.take k)∧Hid (strp m.toNat u=R)) (fun sv _ iv _=>szT18 sv-(intOf iv).toNat)
 case atStart=>exact⟨s,n,0,rfl,rfl,by go_num,rfl,Nat.zero_le _,Nat.le_refl _,Int.le_refl _,hn.1,by simp[Hid],HR⟩
 case round =>
 clear HR
 obtain⟨u,m,k,rfl,rfl,rfl,rfl,hk,hu,hm,hm2,HN,HI⟩:=hrel
 by_cases hlt:k<u.length
 ·have i1:(0:Int)≤(k:Int):=by omega
  have i2:(k:Int)<(u.length:Int):=by omega
  by_cases hm0:0<m
  ·obtain⟨c,hc⟩:∃ c,u[k]=c:=⟨_,rfl⟩
   by_cases h47:c=47
   ·have hI:=HI.out
    have hct:=Zus hlt HN.out (hc.trans h47)
    rw[show m.toNat=(m-1).toNat+1 by omega] at hI
    simp only[strp,hct] at hI
    obtain⟨u2,hu2⟩:∃ u2,u.drop (k+1)=u2:=⟨_,rfl⟩
    rw[hu2] at hI
    have hl2:u2.length=u.length-(k+1):=by rw[← hu2,List.length_drop]
    have HI2:Hid (strp (m-1).toNat u2=R):=hI
    have j1:((c.toNat:Int) == 47)=true:=(by rw[h47];rfl)
    have i3:(0:Int)≤(k:Int)+1:=by omega
    have i4:(k:Int)+1≤(u.length:Int):=by omega
    have i5:((k:Int)+1).toNat=k+1:=by omega
    have w1:IntKind.i64.wrap (m-1)=m-1:=wrap_small _ (by omega) (by omega)
    have hex:List.take (u.length-(k+1)) u2=u2:=List.take_of_length_le (by omega)
    clear hI hct HI HN h47
    go_wp2
    exact⟨⟨u2,m-1,0,rfl,rfl,by go_num,by first | rfl | trivial,Nat.zero_le _,by omega,by omega,by omega,by simp[Hid],HI2⟩,by simp[intOf,ZAt];omega⟩
   ·have j1:((c.toNat:Int) == 47)=false:=(by
     rw[beq_eq_false_iff_ne]
     intro e
     exact h47 (UInt8.toNat_inj.1 (by show _=47;omega)))
    have HN2:Hid (47∉u.take (k+1)):=(by
     show ¬ _
     rw[List.take_succ_eq_append_getElem hlt,hc]
     intro h
     rcases List.mem_append.1 h with h | h
     ·exact HN.out h
     ·exact h47 (List.mem_singleton.1 h).symm)
    clear HN h47
    go_wp2
    exact⟨⟨u,m,k+1,rfl,rfl,by go_num,by first | rfl | trivial,by omega,hu,hm,hm2,HN2,HI⟩,by simp[intOf,ZAt];omega⟩
  ·have i3:¬ (0:Int)<m:=hm0
   have hI:=HI.out
   rw[show m.toNat=0 by omega] at hI
   have hI:u=R:=hI
   subst hI
   clear HI
   go_wp2
   go_ret
   exact⟨rfl,rfl⟩
 ·have hend:¬ (k:Int)<(u.length:Int):=by omega
  have hN:=HN.out
  rw[List.take_of_length_le (by omega)] at hN
  have hI:=HI.out
  rw[ZkH (Zut hN)] at hI
  subst hI
  clear HI HN hN
  go_wp2
  go_ret
  exact⟨rfl,rfl⟩
end

section
open Go.RowKit Go.Proofs.YtcniomgjikienaaGreatDoor.Tx
attribute [local go_sem] Zhc
attribute [local simp] Zce
theorem ZAQ {u:World} {p q r:Int} (h:IntKind.i64.wrap (p+q)=r) {op:Oper} (x l:Operand) (ho:op.op=.binOp .add 3 x l 3) {ev:Operand→Value} (hx:ev x=.int .i64 p) (hl:ev l=.int .i64 q) :
  (execOp ev op).run Tryz.prog u=.ok (.value (.int .i64 r)) u:=by
 subst h
 simp only[execOp,ho,hx,hl]
 go_simp
theorem ZAR {x y z:List UInt8} (h:∀ u:World,(Op.stringOp .add ⟨x.toArray⟩ ⟨y.toArray⟩).run Tryz.prog u=.ok (.string ⟨z.toArray⟩) u) {u:World} {op:Oper} (a b:Operand) (ho:op.op=.binOp .add 9 a b 9) {ev:Operand→Value} (ha:ev a=.string ⟨x.toArray⟩) (hb:ev b=.string ⟨y.toArray⟩) :
  (execOp ev op).run Tryz.prog u=.ok (.value (.string ⟨z.toArray⟩)) u:=by
 simp only[execOp,ho,ha,hb]
 go_simp
theorem ZyV (n:Int) (h0:0≤n) (h1:n≤4611686018427387904) (w:World) :
  Calls Tryz.prog 122 #[.int .i64 n] w fun e w'=>e=.returned (.string ⟨(Lib.itoa n).toArray⟩)∧Below w.heap.size w w':=by
 by_cases hn:n=0
 ·subst hn
  have e1:((0:Int) == 0)=true:=rfl
  go_enter Tryz.func122,Tryz.ntmps122
  go_wp2
  go_ret
  exact⟨by rw[show Lib.itoa 0=[48] by decide +kernel];rfl,Below.refl _ _⟩
 ·have e1:(n == 0)=false:=beq_eq_false_iff_ne.2 hn
  have wn:IntKind.i64.wrap (n-1)=n-1:=wrap_small _ (by omega) (by omega)
  have hr:=fun u=>Zzh (n-1) 1 (by omega) (by omega) (by omega) (by omega) u
  have e2:rngT (n-1) 1=Lib.itoa n:=by unfold rngT;rw[if_pos rfl];congr 1;omega
  rw[e2] at hr
  go_enter Tryz.func122,Tryz.ntmps122
  go_wp2_with fail
  refine (hr _).mono ?_
  rintro e w1 ⟨rfl,hB⟩
  go_wp2
  go_ret
  exact⟨rfl,hB⟩
def onL (a b:Int) (x y:List (List UInt8)) (c:Ch):List (List UInt8):=(cmdT ⟨a+c.A,c.AN,b+c.B,c.BN⟩++[10])::((cut x c.A c.AN).flatMap (lnL [60,32])++(sepL c++(cut y c.B c.BN).flatMap (lnL [62,32])))
theorem ZyX (c:Ch) (va vb:Value) (x y:List (List UInt8)) (a b:Int) (w:World) (ha:HS w va x) (hb:HS w vb y) (h0:0≤a∧a≤2147483648∧0≤b∧b≤2147483648)
  (hc:0≤c.A∧0≤c.AN∧c.A+c.AN≤x.length∧0≤c.B∧0≤c.BN∧c.B+c.BN≤y.length) (hla:x.length≤1099511627776) (hlb:y.length≤1099511627776) (hta:∀ s∈x,s.length≤1099511627776) (htb:∀ s∈y,s.length≤1099511627776) (T:List UInt8) (HT:Hid ((onL a b x y c).flatten=T)) (hT:T.length≤1152921504606846976) :
  Calls Tryz.prog 86 #[chV c,va,vb,.int .i64 a,.int .i64 b] w fun e w'=>e=.returned (.string ⟨T.toArray⟩)∧Below w.heap.size w w':=by
 have hbx:=Cs.fresh c w
 obtain⟨A,AN,B,BN⟩:=c
 dsimp only at hbx hc
 obtain⟨p1,p2,p3,p4,p5,p6⟩:=hc
 obtain⟨A,rfl⟩:=Int.eq_ofNat_of_zero_le p1
 obtain⟨AN,rfl⟩:=Int.eq_ofNat_of_zero_le p2
 obtain⟨B,rfl⟩:=Int.eq_ofNat_of_zero_le p4
 obtain⟨BN,rfl⟩:=Int.eq_ofNat_of_zero_le p5
 have wA:IntKind.i64.wrap (a+(A:Int))=a+(A:Int):=wrap_small _ (by omega) (by omega)
 have wB:IntKind.i64.wrap (b+(B:Int))=b+(B:Int):=wrap_small _ (by omega) (by omega)
 have r1:=ZzL (a+A) AN (by omega) (by omega) p2 (by omega)
 have r2:=ZzL (b+B) BN (by omega) (by omega) p5 (by omega)
 have r3:(Lib.itoa (a+(A:Int))).length≤43:=by have:=Zwz (a+A) (by omega) (by omega);omega
 have r4:(Lib.itoa (b+(B:Int))).length≤43:=by have:=Zwz (b+B) (by omega) (by omega);omega
 obtain⟨C,hC⟩:∃ C,cmdT ⟨a+A,AN,b+B,BN⟩=C:=⟨_,rfl⟩
 have HC:Hid (C=if (AN:Int)=0 then Lib.itoa (a+(A:Int))++97::rngT (b+(B:Int)) BN else if (BN:Int)=0 then rngT (a+(A:Int)) AN++100::Lib.itoa (b+(B:Int)) else rngT (a+(A:Int)) AN++99::rngT (b+(B:Int)) BN):=hC.symm
 have hCl:C.length≤100:=(by
  have h:=HC.out
  rw[h]
  split
  ·simp only[List.length_append,List.length_cons];omega
  ·split
   ·simp only[List.length_append,List.length_cons];omega
   ·simp only[List.length_append,List.length_cons];omega)
 obtain⟨ao,ca,rfl⟩:=Holds.form ha
 obtain⟨bo,cb,rfl⟩:=Holds.form hb
 unfold chV
 go_enter Tryz.func86,Tryz.ntmps86
 go_upto_block 0 with fail
 obtain⟨c,hc⟩:∃ c,(⟨A,AN,B,BN⟩:Ch)=c:=⟨_,rfl⟩
 have HCC:Hid ((⟨A,AN,B,BN⟩:Ch)=c):=hc
 have d0:=hbx.c0
 have d1:=hbx.c1
 have d2:=hbx.c2
 have d3:=hbx.c3
 dsimp only at d0 d1 d2 d3
 rw[hc] at hbx
 clear hc
 generalize w.alloc (.cells #[.int .i64 (A:Int),.int .i64 (AN:Int),.int .i64 (B:Int),.int .i64 (BN:Int)] 139)=wb at hbx d0 d1 d2 d3 ⊢
 generalize Value.agg #[.int .i64 (A:Int),.int .i64 (AN:Int),.int .i64 (B:Int),.int .i64 (BN:Int)]=V0
 go_cut [11] (fun z wz=>z=.string ⟨C.toArray⟩∧Cs c w.heap.size w wz)
 case first =>
  have hcd:=HCC.out
  by_cases h1:AN=0
  ·have e1:((AN:Int) == 0)=true:=by subst h1;rfl
   have HE0:Hid (C=Lib.itoa (a+(A:Int))++97::rngT (b+(B:Int)) (BN:Int)):=(by have h:=HC.out;rw[if_pos (by omega)] at h;exact h)
   clear HC
   subst hcd
   obtain⟨N1,hn1⟩:∃ x,Lib.itoa (a+(A:Int))=x:=⟨_,rfl⟩
   obtain⟨R2,hr2⟩:∃ x,rngT (b+(B:Int)) (BN:Int)=x:=⟨_,rfl⟩
   have hN0:=fun u=>(ZyV (a+(A:Int)) (by omega) (by omega)) u
   have hR0:=fun u=>(Zzh (b+(B:Int)) (BN:Int) (by omega) (by omega) (by omega) (by omega)) u
   rw[hn1] at hN0
   rw[hr2] at hR0
   have hN1:=fun u (hu:Cs ⟨A,AN,B,BN⟩ w.heap.size w u)=>(hN0 u).mono (R':=fun (e:Ending) u'=>e=.returned (.string ⟨N1.toArray⟩)∧Cs ⟨A,AN,B,BN⟩ w.heap.size w u') (by rintro e u' ⟨rfl,hB⟩;exact⟨rfl,hu.keep hB⟩)
   have hR2:=fun u (hu:Cs ⟨A,AN,B,BN⟩ w.heap.size w u)=>(hR0 u).mono (R':=fun (e:Ending) u'=>e=.returned (.string ⟨R2.toArray⟩)∧Cs ⟨A,AN,B,BN⟩ w.heap.size w u') (by rintro e u' ⟨rfl,hB⟩;exact⟨rfl,hu.keep hB⟩)
   obtain⟨Q1,hQ1⟩:∃ x,N1++[97]=x:=⟨_,rfl⟩
   obtain⟨Q2,hQ2⟩:∃ x,Q1++R2=x:=⟨_,rfl⟩
   have HE:Hid (C=Q2):=(by
    have h:=HE0.out
    show _=_
    rw[h,← hQ2,← hQ1,← hn1,← hr2]
    simp)
   have l1:N1.length≤43:=by rw[← hn1];assumption
   have l2:R2.length≤43:=by rw[← hr2];assumption
   have l3:=congrArg List.length hQ1
   have l4:=congrArg List.length hQ2
   simp only[List.length_append,List.length_cons,List.length_nil] at l3 l4
   have q1:=Zsl (x:=N1) (y:=[97]) (by unfold Fits;simp only[List.length_cons,List.length_nil];omega) Tryz.prog
   have q2:=Zsl (x:=Q1) (y:=R2) (by unfold Fits;omega) Tryz.prog
   rw[hQ1] at q1
   rw[hQ2] at q2
   clear hN0 hR0 HE0 hn1 hr2 hQ1 hQ2 l1 l2 l3 l4
   go_wp2_with fail
   refine wp_region_noPanic ?_
   refine wp_region_held_drew (S:=Cs ⟨A,AN,B,BN⟩ w.heap.size w) (by kernel_rfl) ((Zce _ _ _ _).2 hbx) (fun hHeld=>?_)
   refine Y_t 0 34 _ (.int .i64 a) rfl (Or.inl ⟨by kernel_rfl,fun u hu=>by kernel_rfl⟩) hHeld ?_
   simp only[Act.put,Y_a,Y_b,Y_c]
   refine Y_t 1 35 _ (.pointer (some ⟨w.heap.size,0,none⟩)) rfl (Or.inl ⟨by kernel_rfl,fun u hu=>by kernel_rfl⟩) hHeld ?_
   simp only[Act.put,Y_a,Y_b,Y_c]
   refine Y_t 2 36 _ (.int .i64 (A:Int)) rfl (Or.inl ⟨by kernel_rfl,fun u hu=>Zon (a:=⟨w.heap.size,0,none⟩) hu.c0 (.tmp 35) (by kernel_rfl) (by kernel_rfl)⟩) hHeld ?_
   simp only[Act.put,Y_a,Y_b,Y_c]
   refine Y_t 3 37 _ (.int .i64 (a+(A:Int))) rfl (Or.inl ⟨by kernel_rfl,fun u hu=>ZAQ wA (.tmp 34) (.tmp 36) (by kernel_rfl) (by kernel_rfl) (by kernel_rfl)⟩) hHeld ?_
   simp only[Act.put,Y_a,Y_b,Y_c]
   refine Y_t 6 40 _ (.int .i64 b) rfl (Or.inl ⟨by kernel_rfl,fun u hu=>by kernel_rfl⟩) hHeld ?_
   simp only[Act.put,Y_a,Y_b,Y_c]
   refine Y_t 7 41 _ (.pointer (some ⟨w.heap.size,2,none⟩)) rfl (Or.inl ⟨by kernel_rfl,fun u hu=>by kernel_rfl⟩) hHeld ?_
   simp only[Act.put,Y_a,Y_b,Y_c]
   refine Y_t 8 42 _ (.int .i64 (B:Int)) rfl (Or.inl ⟨by kernel_rfl,fun u hu=>Zon (a:=⟨w.heap.size,2,none⟩) hu.c2 (.tmp 41) (by kernel_rfl) (by kernel_rfl)⟩) hHeld ?_
   simp only[Act.put,Y_a,Y_b,Y_c]
   refine Y_t 9 43 _ (.int .i64 (b+(B:Int))) rfl (Or.inl ⟨by kernel_rfl,fun u hu=>ZAQ wB (.tmp 40) (.tmp 42) (by kernel_rfl) (by kernel_rfl) (by kernel_rfl)⟩) hHeld ?_
   simp only[Act.put,Y_a,Y_b,Y_c]
   refine Y_t 10 44 _ (.pointer (some ⟨w.heap.size,3,none⟩)) rfl (Or.inl ⟨by kernel_rfl,fun u hu=>by kernel_rfl⟩) hHeld ?_
   simp only[Act.put,Y_a,Y_b,Y_c]
   refine Y_t 11 45 _ (.int .i64 (BN:Int)) rfl (Or.inl ⟨by kernel_rfl,fun u hu=>Zon (a:=⟨w.heap.size,3,none⟩) hu.c3 (.tmp 44) (by kernel_rfl) (by kernel_rfl)⟩) hHeld ?_
   simp only[Act.put,Y_a,Y_b,Y_c]
   refine ZdD 4 38 _ rfl (by kernel_rfl) (by kernel_rfl) (by kernel_rfl) 122 #[.tmp 37] #[3] (by kernel_rfl) #[.int .i64 (a+(A:Int))] (by kernel_rfl) (enters_of Tryz.func122 (by kernel_rfl) rfl) (.string ⟨N1.toArray⟩) (hN1 _ hHeld) ?_
   intro wx hHeld
   simp only[Act.put,Y_a,Y_b,Y_c]
   refine Y_t 5 39 _ (.string ⟨Q1.toArray⟩) rfl (Or.inl ⟨by kernel_rfl,fun u hu=>ZAR q1 (.tmp 38) (.const (.string ⟨#[97]⟩)) (by kernel_rfl) (by kernel_rfl) (by kernel_rfl)⟩) hHeld ?_
   simp only[Act.put,Y_a,Y_b,Y_c]
   refine ZdD 12 46 _ rfl (by kernel_rfl) (by kernel_rfl) (by kernel_rfl) 123 #[.tmp 43,.tmp 45] #[3,3] (by kernel_rfl) #[.int .i64 (b+(B:Int)),.int .i64 (BN:Int)] (by kernel_rfl) (enters_of Tryz.func123 (by kernel_rfl) rfl) (.string ⟨R2.toArray⟩) (hR2 _ hHeld) ?_
   intro wx hHeld
   simp only[Act.put,Y_a,Y_b,Y_c]
   refine Y_t 13 47 _ (.string ⟨Q2.toArray⟩) rfl (Or.inl ⟨by kernel_rfl,fun u hu=>ZAR q2 (.tmp 39) (.tmp 46) (by kernel_rfl) (by kernel_rfl) (by kernel_rfl)⟩) hHeld ?_
   simp only[Act.put,Y_a,Y_b,Y_c]
   refine Y_t 14 11 _ (.string ⟨Q2.toArray⟩) rfl (Or.inl ⟨by kernel_rfl,fun u hu=>by kernel_rfl⟩) hHeld ?_
   simp only[Act.put,Y_a,Y_b,Y_c]
   refine wpAnyH_done (by kernel_rfl) ?_ _
   refine NoPanic.normal ?_
   go_wp2
   go_meet
   exact⟨by rw[HE.out],by assumption⟩
  ·have e1:((AN:Int) == 0)=false:=beq_eq_false_iff_ne.2 (by omega)
   by_cases h2:BN=0
   ·have e2:((BN:Int) == 0)=true:=by subst h2;rfl
    have HE0:Hid (C=rngT (a+(A:Int)) (AN:Int)++100::Lib.itoa (b+(B:Int))):=(by have h:=HC.out;rw[if_neg (by omega),if_pos (by omega)] at h;exact h)
    clear HC
    subst hcd
    obtain⟨N1,hn1⟩:∃ x,rngT (a+(A:Int)) (AN:Int)=x:=⟨_,rfl⟩
    obtain⟨R2,hr2⟩:∃ x,Lib.itoa (b+(B:Int))=x:=⟨_,rfl⟩
    have hN0:=fun u=>(Zzh (a+(A:Int)) (AN:Int) (by omega) (by omega) (by omega) (by omega)) u
    have hR0:=fun u=>(ZyV (b+(B:Int)) (by omega) (by omega)) u
    rw[hn1] at hN0
    rw[hr2] at hR0
    have hN1:=fun u (hu:Cs ⟨A,AN,B,BN⟩ w.heap.size w u)=>(hN0 u).mono (R':=fun (e:Ending) u'=>e=.returned (.string ⟨N1.toArray⟩)∧Cs ⟨A,AN,B,BN⟩ w.heap.size w u') (by rintro e u' ⟨rfl,hB⟩;exact⟨rfl,hu.keep hB⟩)
    have hR2:=fun u (hu:Cs ⟨A,AN,B,BN⟩ w.heap.size w u)=>(hR0 u).mono (R':=fun (e:Ending) u'=>e=.returned (.string ⟨R2.toArray⟩)∧Cs ⟨A,AN,B,BN⟩ w.heap.size w u') (by rintro e u' ⟨rfl,hB⟩;exact⟨rfl,hu.keep hB⟩)
    obtain⟨Q1,hQ1⟩:∃ x,N1++[100]=x:=⟨_,rfl⟩
    obtain⟨Q2,hQ2⟩:∃ x,Q1++R2=x:=⟨_,rfl⟩
    have HE:Hid (C=Q2):=(by
     have h:=HE0.out
     show _=_
     rw[h,← hQ2,← hQ1,← hn1,← hr2]
     simp)
    have l1:N1.length≤43:=by rw[← hn1];assumption
    have l2:R2.length≤43:=by rw[← hr2];assumption
    have l3:=congrArg List.length hQ1
    have l4:=congrArg List.length hQ2
    simp only[List.length_append,List.length_cons,List.length_nil] at l3 l4
    have q1:=Zsl (x:=N1) (y:=[100]) (by unfold Fits;simp only[List.length_cons,List.length_nil];omega) Tryz.prog
    have q2:=Zsl (x:=Q1) (y:=R2) (by unfold Fits;omega) Tryz.prog
    rw[hQ1] at q1
    rw[hQ2] at q2
    clear hN0 hR0 HE0 hn1 hr2 hQ1 hQ2 l1 l2 l3 l4
    go_wp2_with fail
    refine wp_region_noPanic ?_
    refine wp_region_held_drew (S:=Cs ⟨A,AN,B,BN⟩ w.heap.size w) (by kernel_rfl) ((Zce _ _ _ _).2 hbx) (fun hHeld=>?_)
    refine Y_t 0 52 _ (.int .i64 a) rfl (Or.inl ⟨by kernel_rfl,fun u hu=>by kernel_rfl⟩) hHeld ?_
    simp only[Act.put,Y_a,Y_b,Y_c]
    refine Y_t 1 53 _ (.pointer (some ⟨w.heap.size,0,none⟩)) rfl (Or.inl ⟨by kernel_rfl,fun u hu=>by kernel_rfl⟩) hHeld ?_
    simp only[Act.put,Y_a,Y_b,Y_c]
    refine Y_t 2 54 _ (.int .i64 (A:Int)) rfl (Or.inl ⟨by kernel_rfl,fun u hu=>Zon (a:=⟨w.heap.size,0,none⟩) hu.c0 (.tmp 53) (by kernel_rfl) (by kernel_rfl)⟩) hHeld ?_
    simp only[Act.put,Y_a,Y_b,Y_c]
    refine Y_t 3 55 _ (.int .i64 (a+(A:Int))) rfl (Or.inl ⟨by kernel_rfl,fun u hu=>ZAQ wA (.tmp 52) (.tmp 54) (by kernel_rfl) (by kernel_rfl) (by kernel_rfl)⟩) hHeld ?_
    simp only[Act.put,Y_a,Y_b,Y_c]
    refine Y_t 4 56 _ (.pointer (some ⟨w.heap.size,1,none⟩)) rfl (Or.inl ⟨by kernel_rfl,fun u hu=>by kernel_rfl⟩) hHeld ?_
    simp only[Act.put,Y_a,Y_b,Y_c]
    refine Y_t 5 57 _ (.int .i64 (AN:Int)) rfl (Or.inl ⟨by kernel_rfl,fun u hu=>Zon (a:=⟨w.heap.size,1,none⟩) hu.c1 (.tmp 56) (by kernel_rfl) (by kernel_rfl)⟩) hHeld ?_
    simp only[Act.put,Y_a,Y_b,Y_c]
    refine Y_t 8 60 _ (.int .i64 b) rfl (Or.inl ⟨by kernel_rfl,fun u hu=>by kernel_rfl⟩) hHeld ?_
    simp only[Act.put,Y_a,Y_b,Y_c]
    refine Y_t 9 61 _ (.pointer (some ⟨w.heap.size,2,none⟩)) rfl (Or.inl ⟨by kernel_rfl,fun u hu=>by kernel_rfl⟩) hHeld ?_
    simp only[Act.put,Y_a,Y_b,Y_c]
    refine Y_t 10 62 _ (.int .i64 (B:Int)) rfl (Or.inl ⟨by kernel_rfl,fun u hu=>Zon (a:=⟨w.heap.size,2,none⟩) hu.c2 (.tmp 61) (by kernel_rfl) (by kernel_rfl)⟩) hHeld ?_
    simp only[Act.put,Y_a,Y_b,Y_c]
    refine Y_t 11 63 _ (.int .i64 (b+(B:Int))) rfl (Or.inl ⟨by kernel_rfl,fun u hu=>ZAQ wB (.tmp 60) (.tmp 62) (by kernel_rfl) (by kernel_rfl) (by kernel_rfl)⟩) hHeld ?_
    simp only[Act.put,Y_a,Y_b,Y_c]
    refine ZdD 6 58 _ rfl (by kernel_rfl) (by kernel_rfl) (by kernel_rfl) 123 #[.tmp 55,.tmp 57] #[3,3] (by kernel_rfl) #[.int .i64 (a+(A:Int)),.int .i64 (AN:Int)] (by kernel_rfl) (enters_of Tryz.func123 (by kernel_rfl) rfl) (.string ⟨N1.toArray⟩) (hN1 _ hHeld) ?_
    intro wx hHeld
    simp only[Act.put,Y_a,Y_b,Y_c]
    refine Y_t 7 59 _ (.string ⟨Q1.toArray⟩) rfl (Or.inl ⟨by kernel_rfl,fun u hu=>ZAR q1 (.tmp 58) (.const (.string ⟨#[100]⟩)) (by kernel_rfl) (by kernel_rfl) (by kernel_rfl)⟩) hHeld ?_
    simp only[Act.put,Y_a,Y_b,Y_c]
    refine ZdD 12 64 _ rfl (by kernel_rfl) (by kernel_rfl) (by kernel_rfl) 122 #[.tmp 63] #[3] (by kernel_rfl) #[.int .i64 (b+(B:Int))] (by kernel_rfl) (enters_of Tryz.func122 (by kernel_rfl) rfl) (.string ⟨R2.toArray⟩) (hR2 _ hHeld) ?_
    intro wx hHeld
    simp only[Act.put,Y_a,Y_b,Y_c]
    refine Y_t 13 65 _ (.string ⟨Q2.toArray⟩) rfl (Or.inl ⟨by kernel_rfl,fun u hu=>ZAR q2 (.tmp 59) (.tmp 64) (by kernel_rfl) (by kernel_rfl) (by kernel_rfl)⟩) hHeld ?_
    simp only[Act.put,Y_a,Y_b,Y_c]
    refine Y_t 14 11 _ (.string ⟨Q2.toArray⟩) rfl (Or.inl ⟨by kernel_rfl,fun u hu=>by kernel_rfl⟩) hHeld ?_
    simp only[Act.put,Y_a,Y_b,Y_c]
    refine wpAnyH_done (by kernel_rfl) ?_ _
    refine NoPanic.normal ?_
    go_wp2
    go_meet
    exact⟨by rw[HE.out],by assumption⟩
   ·have e2:((BN:Int) == 0)=false:=beq_eq_false_iff_ne.2 (by omega)
    have HE0:Hid (C=rngT (a+(A:Int)) (AN:Int)++99::rngT (b+(B:Int)) (BN:Int)):=(by have h:=HC.out;rw[if_neg (by omega),if_neg (by omega)] at h;exact h)
    clear HC
    subst hcd
    obtain⟨N1,hn1⟩:∃ x,rngT (a+(A:Int)) (AN:Int)=x:=⟨_,rfl⟩
    obtain⟨R2,hr2⟩:∃ x,rngT (b+(B:Int)) (BN:Int)=x:=⟨_,rfl⟩
    have hN0:=fun u=>(Zzh (a+(A:Int)) (AN:Int) (by omega) (by omega) (by omega) (by omega)) u
    have hR0:=fun u=>(Zzh (b+(B:Int)) (BN:Int) (by omega) (by omega) (by omega) (by omega)) u
    rw[hn1] at hN0
    rw[hr2] at hR0
    have hN1:=fun u (hu:Cs ⟨A,AN,B,BN⟩ w.heap.size w u)=>(hN0 u).mono (R':=fun (e:Ending) u'=>e=.returned (.string ⟨N1.toArray⟩)∧Cs ⟨A,AN,B,BN⟩ w.heap.size w u') (by rintro e u' ⟨rfl,hB⟩;exact⟨rfl,hu.keep hB⟩)
    have hR2:=fun u (hu:Cs ⟨A,AN,B,BN⟩ w.heap.size w u)=>(hR0 u).mono (R':=fun (e:Ending) u'=>e=.returned (.string ⟨R2.toArray⟩)∧Cs ⟨A,AN,B,BN⟩ w.heap.size w u') (by rintro e u' ⟨rfl,hB⟩;exact⟨rfl,hu.keep hB⟩)
    obtain⟨Q1,hQ1⟩:∃ x,N1++[99]=x:=⟨_,rfl⟩
    obtain⟨Q2,hQ2⟩:∃ x,Q1++R2=x:=⟨_,rfl⟩
    have HE:Hid (C=Q2):=(by
     have h:=HE0.out
     show _=_
     rw[h,← hQ2,← hQ1,← hn1,← hr2]
     simp)
    have l1:N1.length≤43:=by rw[← hn1];assumption
    have l2:R2.length≤43:=by rw[← hr2];assumption
    have l3:=congrArg List.length hQ1
    have l4:=congrArg List.length hQ2
    simp only[List.length_append,List.length_cons,List.length_nil] at l3 l4
    have q1:=Zsl (x:=N1) (y:=[99]) (by unfold Fits;simp only[List.length_cons,List.length_nil];omega) Tryz.prog
    have q2:=Zsl (x:=Q1) (y:=R2) (by unfold Fits;omega) Tryz.prog
    rw[hQ1] at q1
    rw[hQ2] at q2
    clear hN0 hR0 HE0 hn1 hr2 hQ1 hQ2 l1 l2 l3 l4
    go_wp2_with fail
    refine wp_region_noPanic ?_
    refine wp_region_held_drew (S:=Cs ⟨A,AN,B,BN⟩ w.heap.size w) (by kernel_rfl) ((Zce _ _ _ _).2 hbx) (fun hHeld=>?_)
    refine Y_t 0 14 _ (.int .i64 a) rfl (Or.inl ⟨by kernel_rfl,fun u hu=>by kernel_rfl⟩) hHeld ?_
    simp only[Act.put,Y_a,Y_b,Y_c]
    refine Y_t 1 15 _ (.pointer (some ⟨w.heap.size,0,none⟩)) rfl (Or.inl ⟨by kernel_rfl,fun u hu=>by kernel_rfl⟩) hHeld ?_
    simp only[Act.put,Y_a,Y_b,Y_c]
    refine Y_t 2 16 _ (.int .i64 (A:Int)) rfl (Or.inl ⟨by kernel_rfl,fun u hu=>Zon (a:=⟨w.heap.size,0,none⟩) hu.c0 (.tmp 15) (by kernel_rfl) (by kernel_rfl)⟩) hHeld ?_
    simp only[Act.put,Y_a,Y_b,Y_c]
    refine Y_t 3 17 _ (.int .i64 (a+(A:Int))) rfl (Or.inl ⟨by kernel_rfl,fun u hu=>ZAQ wA (.tmp 14) (.tmp 16) (by kernel_rfl) (by kernel_rfl) (by kernel_rfl)⟩) hHeld ?_
    simp only[Act.put,Y_a,Y_b,Y_c]
    refine Y_t 4 18 _ (.pointer (some ⟨w.heap.size,1,none⟩)) rfl (Or.inl ⟨by kernel_rfl,fun u hu=>by kernel_rfl⟩) hHeld ?_
    simp only[Act.put,Y_a,Y_b,Y_c]
    refine Y_t 5 19 _ (.int .i64 (AN:Int)) rfl (Or.inl ⟨by kernel_rfl,fun u hu=>Zon (a:=⟨w.heap.size,1,none⟩) hu.c1 (.tmp 18) (by kernel_rfl) (by kernel_rfl)⟩) hHeld ?_
    simp only[Act.put,Y_a,Y_b,Y_c]
    refine Y_t 8 22 _ (.int .i64 b) rfl (Or.inl ⟨by kernel_rfl,fun u hu=>by kernel_rfl⟩) hHeld ?_
    simp only[Act.put,Y_a,Y_b,Y_c]
    refine Y_t 9 23 _ (.pointer (some ⟨w.heap.size,2,none⟩)) rfl (Or.inl ⟨by kernel_rfl,fun u hu=>by kernel_rfl⟩) hHeld ?_
    simp only[Act.put,Y_a,Y_b,Y_c]
    refine Y_t 10 24 _ (.int .i64 (B:Int)) rfl (Or.inl ⟨by kernel_rfl,fun u hu=>Zon (a:=⟨w.heap.size,2,none⟩) hu.c2 (.tmp 23) (by kernel_rfl) (by kernel_rfl)⟩) hHeld ?_
    simp only[Act.put,Y_a,Y_b,Y_c]
    refine Y_t 11 25 _ (.int .i64 (b+(B:Int))) rfl (Or.inl ⟨by kernel_rfl,fun u hu=>ZAQ wB (.tmp 22) (.tmp 24) (by kernel_rfl) (by kernel_rfl) (by kernel_rfl)⟩) hHeld ?_
    simp only[Act.put,Y_a,Y_b,Y_c]
    refine Y_t 12 26 _ (.pointer (some ⟨w.heap.size,3,none⟩)) rfl (Or.inl ⟨by kernel_rfl,fun u hu=>by kernel_rfl⟩) hHeld ?_
    simp only[Act.put,Y_a,Y_b,Y_c]
    refine Y_t 13 27 _ (.int .i64 (BN:Int)) rfl (Or.inl ⟨by kernel_rfl,fun u hu=>Zon (a:=⟨w.heap.size,3,none⟩) hu.c3 (.tmp 26) (by kernel_rfl) (by kernel_rfl)⟩) hHeld ?_
    simp only[Act.put,Y_a,Y_b,Y_c]
    refine ZdD 6 20 _ rfl (by kernel_rfl) (by kernel_rfl) (by kernel_rfl) 123 #[.tmp 17,.tmp 19] #[3,3] (by kernel_rfl) #[.int .i64 (a+(A:Int)),.int .i64 (AN:Int)] (by kernel_rfl) (enters_of Tryz.func123 (by kernel_rfl) rfl) (.string ⟨N1.toArray⟩) (hN1 _ hHeld) ?_
    intro wx hHeld
    simp only[Act.put,Y_a,Y_b,Y_c]
    refine Y_t 7 21 _ (.string ⟨Q1.toArray⟩) rfl (Or.inl ⟨by kernel_rfl,fun u hu=>ZAR q1 (.tmp 20) (.const (.string ⟨#[99]⟩)) (by kernel_rfl) (by kernel_rfl) (by kernel_rfl)⟩) hHeld ?_
    simp only[Act.put,Y_a,Y_b,Y_c]
    refine ZdD 14 28 _ rfl (by kernel_rfl) (by kernel_rfl) (by kernel_rfl) 123 #[.tmp 25,.tmp 27] #[3,3] (by kernel_rfl) #[.int .i64 (b+(B:Int)),.int .i64 (BN:Int)] (by kernel_rfl) (enters_of Tryz.func123 (by kernel_rfl) rfl) (.string ⟨R2.toArray⟩) (hR2 _ hHeld) ?_
    intro wx hHeld
    simp only[Act.put,Y_a,Y_b,Y_c]
    refine Y_t 15 29 _ (.string ⟨Q2.toArray⟩) rfl (Or.inl ⟨by kernel_rfl,fun u hu=>ZAR q2 (.tmp 21) (.tmp 28) (by kernel_rfl) (by kernel_rfl) (by kernel_rfl)⟩) hHeld ?_
    simp only[Act.put,Y_a,Y_b,Y_c]
    refine Y_t 16 11 _ (.string ⟨Q2.toArray⟩) rfl (Or.inl ⟨by kernel_rfl,fun u hu=>by kernel_rfl⟩) hHeld ?_
    simp only[Act.put,Y_a,Y_b,Y_c]
    refine wpAnyH_done (by kernel_rfl) ?_ _
    refine NoPanic.normal ?_
    go_wp2
    go_meet
    exact⟨by rw[HE.out],by assumption⟩
 case rest =>
  obtain⟨rfl,hbx⟩:=hcut
  obtain⟨X,HX⟩:∃ X:Nat→List UInt8,Hid (∀ k,X k=C++[10]++((cut x (A:Int) (k:Nat)).flatMap (lnL [60,32])).flatten):=⟨_,fun _=>rfl⟩
  obtain⟨S,HSp⟩:∃ S:List UInt8,Hid (S=(sepL ⟨A,AN,B,BN⟩).flatten):=⟨_,rfl⟩
  obtain⟨Y,HY⟩:∃ Y:Nat→List UInt8,Hid (∀ k,Y k=X AN++S++((cut y (B:Int) (k:Nat)).flatMap (lnL [62,32])).flatten):=⟨_,fun _=>rfl⟩
  have hTY:T=Y BN:=(by
   rw[← HT.out,HY.out,HX.out,HSp.out,← hC]
   simp only[onL,List.flatten_cons,List.flatten_append,List.append_assoc])
  have x0:X 0=C++[10]:=(by rw[HX.out];simp[cut])
  have HXs:Hid (∀ k (_:k<AN) (h2:A+k<x.length),X (k+1)=X k++(lnL [60,32] x[A+k]).flatten):=(by
   intro k hk h2
   rw[HX.out,HX.out,Zuw hk (by omega),ZuX]
   simp)
  have HYs:Hid (∀ k (_:k<BN) (h2:B+k<y.length),Y (k+1)=Y k++(lnL [62,32] y[B+k]).flatten):=(by
   intro k hk h2
   rw[HY.out,HY.out,Zuw hk (by omega),ZuX]
   simp)
  have HY0:Hid (Y 0=X AN++S):=(by show _=_;rw[HY.out];simp[cut])
  have HYl:Hid (∀ k,k≤BN→(Y k).length≤1152921504606846976):=(by
   intro k hk
   obtain⟨z,hz⟩:=@Zux y B BN k hk (lnL [62,32])
   have h1:=hTY
   rw[HY.out,hz] at h1
   rw[h1] at hT
   rw[HY.out]
   simp only[List.length_append] at hT ⊢
   omega)
  have hXA:(X AN).length+S.length≤1152921504606846976:=(by
   have h1:=HYl.out 0 (by omega)
   rw[HY0.out,List.length_append] at h1
   exact h1)
  have HXl:Hid (∀ k,k≤AN→(X k).length≤1152921504606846976):=(by
   intro k hk
   obtain⟨z,hz⟩:=@Zux x A AN k hk (lnL [60,32])
   have h1:=hXA
   rw[HX.out,hz] at h1
   rw[HX.out]
   simp only[List.length_append] at h1 ⊢
   omega)
  have HL:Hid (∀ (ah s:List UInt8),ah.length≤10→s.length≤1099511627776→(lnL ah s).flatten.length≤1099511627876):=(by
   intro ah s h1 h2
   unfold lnL
   split<;>simp[markT]<;>omega)
  have hwc:=hbx.low
  have d0:=hbx.c0
  have d1:=hbx.c1
  have d2:=hbx.c2
  have d3:=hbx.c3
  have hcc:=HCC.out
  rw[← hcc] at d0 d1 d2 d3
  dsimp only at d0 d1 d2 d3
  have haw:HS wc (.slice ao x.length ca) x:=ha.keep hwc (Nat.le_refl _)
  have hbw:HS wc (.slice bo y.length cb) y:=hb.keep hwc (Nat.le_refl _)
  clear hcc ha hb hbx HC hC HT hT r1 r2 r3 r4 HX HY
  go_wp2
  go_loopw [12,11] (fun i s wr=>∃ k:Nat,k≤AN∧i=.int .i64 ((A+k:Nat):Int)∧s=.string ⟨(X k).toArray⟩∧wr=wc) (fun i _ _=>A+AN-(intOf i).toNat)
  case atStart=>exact⟨0,Nat.zero_le _,rfl,by rw[x0];simp[Zmw],rfl⟩
  case round =>
   obtain⟨k,hk,rfl,rfl,rfl⟩:=hrel
   by_cases hlt:k<AN
   ·obtain⟨bk,off,rfl,_,hcl⟩:=HS.at haw (by omega)
    have d:=hcl (A+k) (by omega)
    clear hcl
    have hs1:=hta x[A+k] (List.getElem_mem _)
    have hl1:=HXl.out k (by omega)
    have hl2:=HL.out [60,32] x[A+k] (by decide) hs1
    have hl3:=HXl.out (k+1) (by omega)
    have HE:Hid (X (k+1)=X k++(lnL [60,32] x[A+k]).flatten):=HXs.out k hlt (by omega)
    have i1:0≤((A+k:Nat):Int):=by omega
    have i2:((A+k:Nat):Int)<(x.length:Int):=by omega
    have i3:((A+k:Nat):Int)<(A:Int)+(AN:Int):=by omega
    generalize hak:x[A+k]=s1 at *
    go_wp2_with fail
    refine (ZyQ [60,32] s1 _ (by decide) (by omega)).mono ?_
    rintro e w1 ⟨rfl,rfl⟩
    generalize (lnL [60,32] s1).flatten=Z at *
    generalize X k=x1 at *
    go_wp2
    go_roundw
    case rel=>exact⟨k+1,by omega,by go_num,by rw[HE.out];simp[Zmw],trivial⟩
    case measure=>simp[intOf];omega
   ·have ek:k=AN:=by omega
    subst ek
    have i3:¬ ((A+k:Nat):Int)<(A:Int)+(k:Int):=by omega
    have hl1:=hXA
    clear HXs HXl
    obtain⟨q,hq⟩:∃ q,(decide (0<k) && decide (0<BN))=q:=⟨_,rfl⟩
    have HQ:Hid ((decide (0<k) && decide (0<BN))=q):=hq
    clear hq
    go_upto_region 12 with fail
    go_cut [93] (fun z wz=>z=.bool q∧wz=wr)
    case first =>
     by_cases h1:0<k
     ·have g1:(0:Int)<(k:Int):=by omega
      by_cases h2:0<BN
      ·have g2:(0:Int)<(BN:Int):=by omega
       have hq:q=true:=(by rw[← HQ.out];simp[h1,h2])
       subst hq
       go_wp2
       go_meet
       case rel=>exact⟨rfl,rfl⟩
      ·have g2:¬ (0:Int)<(BN:Int):=by omega
       have hq:q=false:=(by rw[← HQ.out];simp[h2])
       subst hq
       go_wp2
       go_meet
       case rel=>exact⟨rfl,rfl⟩
     ·have g1:¬ (0:Int)<(k:Int):=by omega
      have hq:q=false:=(by rw[← HQ.out];simp[h1])
      subst hq
      go_wp2
      go_meet
      case rel=>exact⟨rfl,rfl⟩
    case rest =>
     obtain⟨rfl,rfl⟩:=hcut
     go_upto_if 93 with fail
     go_cut [11] (fun z wz=>z=.string ⟨(Y 0).toArray⟩∧wz=wc)
     case first =>
      have HE:=HY0
      cases q with
      | true =>
       have hS:S=[45,45,45,10]:=(by
        have h:=HQ.out
        simp only[Bool.and_eq_true,decide_eq_true_eq] at h
        rw[HSp.out]
        unfold sepL
        rw[if_pos (by dsimp only;omega)]
        rfl)
       have hSl:S.length=4:=by rw[hS];rfl
       go_wp2
       go_meet
       case rel=>exact⟨by rw[HE.out,hS];simp[Zmw],rfl⟩
      | false =>
       have hS:S=[]:=(by
        have h:=HQ.out
        simp only[Bool.and_eq_false_iff,decide_eq_false_iff_not] at h
        rw[HSp.out]
        unfold sepL
        rw[if_neg (by dsimp only;omega)]
        rfl)
       go_wp2
       go_meet
       case rel=>exact⟨by rw[HE.out,hS];simp,rfl⟩
     case rest =>
      obtain⟨rfl,rfl⟩:=hcut
      clear HY0 HQ HSp hl1 i3
      generalize Value.int IntKind.i64 ((A+k:Nat):Int)=V8
      go_wp2
      go_loopw [13,11] (fun i s wr=>∃ k:Nat,k≤BN∧i=.int .i64 ((B+k:Nat):Int)∧s=.string ⟨(Y k).toArray⟩∧wr=wc) (fun i _ _=>B+BN-(intOf i).toNat)
      case atStart=>exact⟨0,Nat.zero_le _,rfl,rfl,rfl⟩
      case round =>
       obtain⟨j,hj,rfl,rfl,rfl⟩:=hrel
       by_cases hlt:j<BN
       ·obtain⟨bk,off,rfl,_,hcl⟩:=HS.at hbw (by omega)
        have d:=hcl (B+j) (by omega)
        clear hcl
        have hs1:=htb y[B+j] (List.getElem_mem _)
        have hl1:=HYl.out j (by omega)
        have hl2:=HL.out [62,32] y[B+j] (by decide) hs1
        have hl3:=HYl.out (j+1) (by omega)
        have HE:Hid (Y (j+1)=Y j++(lnL [62,32] y[B+j]).flatten):=HYs.out j hlt (by omega)
        have i1:0≤((B+j:Nat):Int):=by omega
        have i2:((B+j:Nat):Int)<(y.length:Int):=by omega
        have i3:((B+j:Nat):Int)<(B:Int)+(BN:Int):=by omega
        generalize hak:y[B+j]=s1 at *
        go_wp2_with fail
        refine (ZyQ [62,32] s1 _ (by decide) (by omega)).mono ?_
        rintro e w1 ⟨rfl,rfl⟩
        generalize (lnL [62,32] s1).flatten=Z at *
        generalize Y j=x1 at *
        go_wp2
        go_roundw
        case rel=>exact⟨j+1,by omega,by go_num,by rw[HE.out];simp[Zmw],trivial⟩
        case measure=>simp[intOf];omega
       ·have ej:j=BN:=by omega
        subst ej
        have i3:¬ ((B+j:Nat):Int)<(B:Int)+(j:Int):=by omega
        go_wp2
        go_ret
        exact⟨by first | rfl | (rw[hTY];rfl),hwc⟩
end

section
open Go.RowKit
def rdO (vL:Value) (p fa fe:Int):Obj:=.cells #[vL,.int .i64 p,.int .i64 fa,.int .i64 fe] 123
def Rx (u:World) (R:Nat) (vL:Value) (p fa fe:Int):Prop:=u.heap[R]?=some (rdO vL p fa fe)
section
variable {u u':World} {R:Nat} {vL:Value} {p fa fe:Int}
theorem Rx.cells (q:Rx u R vL p fa fe):u.cell? ⟨R,0,none⟩=some vL∧u.cell? ⟨R,1,none⟩=some (.int .i64 p)∧u.cell? ⟨R,2,none⟩=some (.int .i64 fa)∧u.cell? ⟨R,3,none⟩=some (.int .i64 fe):=by
 unfold Rx rdO at q
 refine⟨?_,?_,?_,?_⟩<;>rw[Lib.cell_of_heap q]<;>rfl
theorem Rx.frozen (q:Rx u R vL p fa fe) (j:Nat):u.frozen? ⟨R,j,none⟩=false:=Lib.frozen_of_heap q j
theorem Rx.lt (q:Rx u R vL p fa fe):R<u.heap.size:=(Array.getElem?_eq_some_iff.1 q).1
theorem Rx.dN (q:Rx u R vL p fa fe) (n:Nat):Rx (u.drewN n) R vL p fa fe:=q
theorem Rx.at (q:Rx u R vL p fa fe) (p':Int):Rx (u.setCell ⟨R,1,none⟩ (.int .i64 p')) R vL p' fa fe:=heap_setCell_same u R 1 _ _ (.int .i64 p') q
theorem Rx.fault (q:Rx u R vL p fa fe) (x y:Int):Rx ((u.setCell ⟨R,2,none⟩ (.int .i64 x)).setCell ⟨R,3,none⟩ (.int .i64 y)) R vL p x y:=heap_setCell_same _ R 3 _ _ (.int .i64 y) (heap_setCell_same u R 2 _ _ (.int .i64 x) q)
end
theorem ZdT {w u v:World} {r:Option Nat} (h:w.grownBy u r) (h':u.grownBy v r):w.grownBy v r :=
 ⟨h'.os.trans h.os,h'.tape.trans h.tape,h'.output.trans h.output,Nat.le_trans h.size h'.size,fun k hk hr=>(h'.block k (Nat.lt_of_lt_of_le hk h.size) hr).trans (h.block k hk hr)⟩
end

section
open Go.RowKit
attribute [local go_sem] ByteArray.extract_mk Zhc
end

section
open Go.RowKit
attribute [local go_sem] ByteArray.extract_mk Zhc
end

section
open Go.RowKit
attribute [local go_sem] ByteArray.extract_mk Zhc
def ryO (vL:Value) (p:Int):Obj:=.cells #[vL,.int .i64 p] 317
def Ry (u:World) (R:Nat) (vL:Value) (p:Int):Prop:=u.heap[R]?=some (ryO vL p)
def fltO (a z:Int):Obj:=.cells #[.int .i64 a,.iface 27 (.int .i64 z)] 64
section
variable {u u':World} {R:Nat} {vL:Value} {p:Int}
theorem Ry.cells (q:Ry u R vL p):u.cell? ⟨R,0,none⟩=some vL∧u.cell? ⟨R,1,none⟩=some (.int .i64 p):=by
 unfold Ry ryO at q
 refine⟨?_,?_⟩<;>rw[Lib.cell_of_heap q]<;>rfl
theorem Ry.frozen (q:Ry u R vL p) (j:Nat):u.frozen? ⟨R,j,none⟩=false:=Lib.frozen_of_heap q j
theorem Ry.lt (q:Ry u R vL p):R<u.heap.size:=(Array.getElem?_eq_some_iff.1 q).1
theorem Ry.dN (q:Ry u R vL p) (n:Nat):Ry (u.drewN n) R vL p:=q
theorem Ry.at (q:Ry u R vL p) (p':Int):Ry (u.setCell ⟨R,1,none⟩ (.int .i64 p')) R vL p':=heap_setCell_same u R 1 _ _ (.int .i64 p') q
theorem Ry.low (q:Ry u R vL p) (hg:Below u.heap.size u u'):Ry u' R vL p:=(hg.block R q.lt).trans q
theorem Ry.keep (q:Ry u R vL p) {g:Option Nat} (hg:u.grownBy u' g) (hr:some R≠g):Ry u' R vL p:=(hg.block R q.lt hr).trans q
end
end

section
open Ln
end

section
open Go.RowKit
attribute [local go_sem] ByteArray.extract_mk Zhc
structure Fr (B R:Nat) (w w':World):Prop where
 os:w'.os=w.os
 tape:w'.tape=w.tape
 output:w'.output=w.output
 size:w.heap.size≤w'.heap.size
 block:∀ k,k<B→k≠R→w'.heap[k]?=w.heap[k]?
theorem Fr.refl (B R:Nat) (w:World):Fr B R w w:=⟨rfl,rfl,rfl,Nat.le_refl _,fun _ _ _=>rfl⟩
theorem Fr.trans {B R:Nat} {w u v:World} (h:Fr B R w u) (h':Fr B R u v):Fr B R w v:=⟨h'.os.trans h.os,h'.tape.trans h.tape,h'.output.trans h.output,Nat.le_trans h.size h'.size,fun k h1 h2=>(h'.block k h1 h2).trans (h.block k h1 h2)⟩
theorem Fr.of {B R:Nat} {w u:World} (h:w.grownBy u (some R)) (hB:B≤w.heap.size):Fr B R w u:=⟨h.os,h.tape,h.output,h.size,fun k h1 h2=>h.block k (Nat.lt_of_lt_of_le h1 hB) (fun e=>h2 (Option.some.inj e))⟩
theorem Fr.own {B R:Nat} {w u:World} {g:Option Nat} (h:w.grownBy u g) (hB:B≤w.heap.size) (hg:∀ j,g=some j→B≤j):Fr B R w u:=⟨h.os,h.tape,h.output,h.size,fun k h1 _=>h.block k (Nat.lt_of_lt_of_le h1 hB) (fun e=>by have:=hg k e.symm;omega)⟩
theorem Fr.low {B R:Nat} {w u:World} (h:Below w.heap.size w u) (hB:B≤w.heap.size):Fr B R w u:=Fr.of (ZfO h _) hB
theorem Fr.grown {R:Nat} {w u:World} (h:Fr w.heap.size R w u):w.grownBy u (some R):=⟨h.os,h.tape,h.output,h.size,fun k h1 h2=>h.block k h1 (fun e=>h2 (by rw[e]))⟩
end

section
open Go.RowKit
attribute [local go_sem] ByteArray.extract_mk Zhc
end

section
open Go.RowKit
attribute [local go_sem] ByteArray.extract_mk Zhc
theorem ZhI {w u:World} {B R:Nat} {e:TypeId} {s:Nat} {v:Value} {n:Nat} {xs:List Value} (h:w.ownsRow B e s v n xs) (hg:w.grownBy u (some R)) (hR:R<B):u.ownsRow B e s v n xs:=by
 refine⟨h.1,?_⟩
 rcases h.2 with q | ⟨g,cap,cur,rfl,q2,q3,q4⟩
 ·exact .inl q
 ·refine .inr ⟨g,cap,cur,rfl,q2,?_,q4⟩
  rw[hg.block g (Array.getElem?_eq_some_iff.1 q3).1 (fun e=>by cases e;omega)]
  exact q3
def thenL (m:List Mk) (X:Except (Nat × Int) (List Mk × Nat × List (List UInt8))):Except (Nat × Int) (List Mk × Nat × List (List UInt8)) :=
 match X with
 | .error e=>.error e
 | .ok (l,p1,r)=>.ok (m++l,p1,r)
end

section
open Pn Go.RowKit
attribute [local go_sem] Zhc
end

section
open Pn Go.RowKit
attribute [local go_sem] Zhc
end

section
open Go.RowKit
attribute [local go_sem] Zhc ByteArray.extract_mk
end

section
open Go.RowKit
attribute [local go_sem] ByteArray.extract_mk Zhc
end

end Go.Proofs.YtcniomgjikienaaGreatDoor
