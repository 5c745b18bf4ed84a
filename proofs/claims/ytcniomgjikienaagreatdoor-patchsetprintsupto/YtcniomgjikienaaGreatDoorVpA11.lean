/-
  Texts that belong together, joined: CrC, CrD, PsE, HuC3, HuC6, CpL, CpM, CpN.
-/
import Derived.Test.YtcniomgjikienaaGreatDoorVpA10
import Derived.Test.YtcniomgjikienaaGreatDoorVpA6
import Derived.Defers
import Derived.Recover

set_option maxHeartbeats 16000000
set_option maxRecDepth 100000
namespace Go.Proofs.YtcniomgjikienaaGreatDoor

section
open Go.RowKit
theorem ZAu (w:World) (x:Int) (h0:0≤x) (h1:x<256) :
  (convert 83 9 (.slice (some ⟨w.heap.size,0,none⟩) 2 2)).run Tryz.prog (w.alloc (.cells #[.int .u8 x,.int .u8 32] 5))=.ok (.string ⟨#[UInt8.ofNat x.toNat,32]⟩) (w.alloc (.cells #[.int .u8 x,.int .u8 32] 5)):=by
 have hx:((UInt8.ofNat x.toNat).toNat:Int)=x:=by simp only[UInt8.toNat_ofNat'];omega
 refine run_convert_bytes_back (w.alloc (.cells #[.int .u8 x,.int .u8 32] 5)) 83 9 5 ⟨w.heap.size,0,none⟩ 2 [UInt8.ofNat x.toNat,32] Tryz.underlying83 Tryz.underlying5 Tryz.underlying9 ?_
 intro j hj
 have hb:=heap_alloc_new w (.cells #[.int .u8 x,.int .u8 32] 5)
 match j,hj with
 | 0,_ =>
  show (w.alloc (.cells #[.int .u8 x,.int .u8 32] 5)).cell? ⟨w.heap.size,0+0,none⟩=some (.int .u8 ((UInt8.ofNat x.toNat).toNat:Int))
  rw[hx,Lib.cell_of_heap hb]
  rfl
 | 1,_ =>
  show (w.alloc (.cells #[.int .u8 x,.int .u8 32] 5)).cell? ⟨w.heap.size,0+1,none⟩=some (.int .u8 32)
  rw[Lib.cell_of_heap hb]
  rfl
theorem ZvN (k:Int) (l:List Mk) (j:Nat) (hj:j<l.length):hasM k (l.take (j+1))=(hasM k (l.take j) || (l[j].sg == k)):=by
 rw[List.take_succ_eq_append_getElem hj,ZvL]
 simp[hasM]
theorem ZzQ (h:Hk) (v:Value) (sg:Int) (hsg:sg=45∨sg=43) (w:World) (hv:HMk w v h.ls) (hl:h.ls.length≤1099511627776) (HTx:Hid (∀ m∈h.ls,m.tx.length≤1099511627776)) (Z:List UInt8) (HZ:Hid ((sideL sg h.ls).flatten=Z)) (Z2:List UInt8) (HZ2:Hid ((sidL sg false false h.ls).flatten=Z2)) (hZ:Z2.length≤1152921504606846976) :
  Calls Tryz.prog 80 #[hkV h v,.int .u8 sg] w fun e w'=>e=.returned (.string ⟨Z.toArray⟩)∧Below w.heap.size w w':=by
 obtain⟨A,AN,B,BN,ls⟩:=h
 dsimp only at hv hl HTx HZ HZ2
 obtain⟨lo,lc,rfl⟩:=HMk.form hv
 have hBl:Below w.heap.size w (w.alloc (.cells #[.int .i64 A,.int .i64 AN,.int .i64 B,.int .i64 BN,.slice lo ls.length lc] 45)):=(Below.refl _ w).alloc (Nat.le_refl _) _
 have hx:Hx (w.alloc (.cells #[.int .i64 A,.int .i64 AN,.int .i64 B,.int .i64 BN,.slice lo ls.length lc] 45)) w.heap.size ⟨A,AN,B,BN,ls⟩ (.slice lo ls.length lc):=heap_alloc_new w _
 have hv2:=hv.keep hBl (Nat.le_refl _)
 have hkv:hkV ⟨A,AN,B,BN,ls⟩ (.slice lo ls.length lc)=.agg #[.int .i64 A,.int .i64 AN,.int .i64 B,.int .i64 BN,.slice lo ls.length lc]:=rfl
 have HB:=fun (a:Nat) (ha:a<ls.length) (u:World) (hu:HMk u (.slice lo ls.length lc) ls) (r:Bool) (HR:Hid (bothM (ls.take a) (ls.drop a)=r))=>Zzm ⟨A,AN,B,BN,ls⟩ (.slice lo ls.length lc) a ha u hu hl r HR
 rw[hkv] at HB ⊢
 clear hkv hv
 have HI0:Hid ([]++(fromS sg (ls.take 0) (ls.drop 0)).flatten=Z2):=(by show _=_;rw[List.take_zero,List.drop_zero,Zvi,List.nil_append];exact HZ2.out)
 have HC0:Hid (hasM sg (ls.take 0)=false):=rfl
 obtain⟨g0,hg0⟩:∃ g,hasM sg ls=g:=⟨_,rfl⟩
 have HFin:Hid (hasM sg ls=g0∧(if g0=true then Z2 else [])=Z):=(by
  refine⟨hg0,?_⟩
  rw[← HZ.out,← HZ2.out,← hg0]
  unfold sideL
  have:(ls.any fun m=>decide (m.sg=sg))=hasM sg ls:=rfl
  rw[this]
  split<;>rfl)
 clear hg0 HZ HZ2
 go_enter Tryz.func80,Tryz.ntmps80
 go_wp2
 generalize w.alloc (.cells #[.int .i64 A,.int .i64 AN,.int .i64 B,.int .i64 BN,.slice lo ls.length lc] 45)=W at hBl hx hv2 ⊢
 generalize w.heap.size=M at hx ⊢
 go_loopw [5,6,7] (fun s cv i wr=>∃ (k:Nat) (ac:List UInt8) (c:Bool),k≤ls.length∧i=.int .i64 k∧s=.string ⟨ac.toArray⟩∧cv=.bool c∧Below W.heap.size W wr∧Hid (hasM sg (ls.take k)=c)∧Hid (ac++(fromS sg (ls.take k) (ls.drop k)).flatten=Z2)) (fun _ _ i _=>ls.length-(intOf i).toNat)
 case atStart=>exact⟨0,[],false,Nat.zero_le _,rfl,rfl,rfl,Below.refl _ _,HC0,HI0⟩
 case round =>
 clear HI0 HC0
 obtain⟨k,ac,c,hk,rfl,rfl,rfl,hB,HCk,HI⟩:=hrel
 obtain⟨d0,d1,d2,d3,d4⟩:=(hx.low hB).cells
 by_cases hlt:k<ls.length
 ·obtain⟨bk,off,rfl,hbk,_⟩:=HMk.at hv2 (by omega)
  obtain⟨m,hm⟩:∃ m,ls[k]=m:=⟨_,rfl⟩
  obtain⟨c0,c1⟩:=Low.mk hB hv2 k hlt hm
  have htx:=HTx.out m (by rw[← hm];exact List.getElem_mem hlt)
  have i1:(0:Int)≤(k:Int):=by omega
  have i2:(k:Int)<(ls.length:Int):=by omega
  have HI2:=HI.out
  have hdr:ls.drop k=m::ls.drop (k+1):=(by rw[List.drop_eq_getElem_cons hlt,hm])
  have hta:ls.take k++[m]=ls.take (k+1):=(by rw[List.take_succ_eq_append_getElem hlt,hm])
  rw[hdr,Zvj,hta,List.flatten_append,← List.append_assoc] at HI2
  obtain⟨A2,hA2⟩:∃ Y,ac++(lineS sg (ls.take k) m (ls.drop (k+1))).flatten=Y:=⟨_,rfl⟩
  rw[hA2] at HI2
  have HI3:Hid (A2++(fromS sg (ls.take (k+1)) (ls.drop (k+1))).flatten=Z2):=HI2
  have hAl:A2.length≤1152921504606846976:=(by have:=congrArg List.length HI2;rw[List.length_append] at this;omega)
  have HCn:Hid (hasM sg (ls.take (k+1))=(c || (m.sg == sg))):=(by show _=_;rw[ZvN sg ls k hlt,HCk.out,hm])
  obtain⟨br,hbr⟩:∃ b,bothM (ls.take k) (ls.drop k)=b:=⟨_,rfl⟩
  have hbc:=fun u hu=>HB k hlt u hu br hbr
  have HLs:Hid (ac++(if m.sg=32 then lnL [32,32] m.tx else if m.sg=sg then lnL (if br=true then [33,32] else [UInt8.ofNat sg.toNat,32]) m.tx else []).flatten=A2):=(by
   show _=_
   rw[← hA2]
   unfold lineS
   rw[← hdr,hbr])
  have hBm:=hB.alloc hB.size (.cells #[.int .u8 m.sg,.string ⟨m.tx.toArray⟩] 47)
  clear HI HI2 hA2 hbr hdr hta HCk HB hm
  obtain⟨z,tx⟩:=m
  dsimp only at c0 c1 htx HCn HLs hBm
  by_cases h1:z=32
  ·have e1:(z != 32)=false:=by simp[h1]
   have e2:(z == sg)=false:=beq_eq_false_iff_ne.2 (by omega)
   have HC2:Hid (hasM sg (ls.take (k+1))=c):=(by show _=_;rw[HCn.out,e2,Bool.or_false])
   obtain⟨Y,hY⟩:∃ Y,(lnL [32,32] tx).flatten=Y:=⟨_,rfl⟩
   have hAY:ac++Y=A2:=(by rw[← hY];have h:=HLs.out;rw[if_pos h1] at h;exact h)
   have hlY:=congrArg List.length hAY
   rw[List.length_append] at hlY
   have q1:=Zsl (x:=ac) (y:=Y) (by unfold Fits;omega) Tryz.prog
   rw[hAY] at q1
   have HY:Hid ((lnL [32,32] tx).flatten=Y):=hY
   clear hY hAY hlY HLs
   clear HCn hbc h1
   go_wp2_with fail
   refine (ZyQ [32,32] tx _ (by decide) (by omega)).mono ?_
   rintro e wl ⟨rfl,rfl⟩
   rw[HY.out]
   go_wp2
   exact⟨⟨k+1,A2,c,by omega,by go_num,rfl,rfl,hBm,HC2,HI3⟩,by simp[intOf];omega⟩
  ·have e1:(z != 32)=true:=by simp[h1]
   by_cases h2:z=sg
   ·subst h2
    have e2:(z != z)=false:=by simp
    have e3:(z == z)=true:=by simp
    have hz0:0≤z∧z<256:=by omega
    have hcv:=ZAu (wr.alloc (.cells #[.int .u8 z,.string ⟨tx.toArray⟩] 47)) z hz0.1 hz0.2
    have hBt:=hBm.alloc hBm.size (.cells #[.int .u8 z,.int .u8 32] 5)
    have hxt:=hx.low hBt
    have hvt:=hv2.keep hBt (Nat.le_refl _)
    have HC2:Hid (hasM z (ls.take (k+1))=true):=(by show _=_;rw[HCn.out,e3,Bool.or_true])
    have hz1:(wr.alloc (.cells #[.int .u8 z,.string ⟨tx.toArray⟩] 47)).heap.size=wr.heap.size+1:=by simp
    rw[hz1] at hcv
    clear hz1
    cases br with
    | true =>
     obtain⟨Y,hY⟩:∃ Y,(lnL [33,32] tx).flatten=Y:=⟨_,rfl⟩
     have hAY:ac++Y=A2:=(by rw[← hY];have h:=HLs.out;rw[if_neg h1,if_pos rfl,if_pos rfl] at h;exact h)
     have hlY:=congrArg List.length hAY
     rw[List.length_append] at hlY
     have q1:=Zsl (x:=ac) (y:=Y) (by unfold Fits;omega) Tryz.prog
     rw[hAY] at q1
     have HY:Hid ((lnL [33,32] tx).flatten=Y):=hY
     clear hY hAY hlY HLs
     clear HCn h1 e2 hz0
     go_upto_region 12 with fail
     have hmb:((wr.alloc (.cells #[.int .u8 z,.string ⟨tx.toArray⟩] 47)).alloc (.cells #[.int .u8 z,.int .u8 32] 5)).heap[wr.heap.size]?=some (.cells #[.int .u8 z,.string ⟨tx.toArray⟩] 47):=(Lib.alloc_old _ _ _ (by simp)).trans (heap_alloc_new wr _)
     have hml:wr.heap.size<((wr.alloc (.cells #[.int .u8 z,.string ⟨tx.toArray⟩] 47)).alloc (.cells #[.int .u8 z,.int .u8 32] 5)).heap.size:=by simp;omega
     have hbc2:=hbc _ hvt
     generalize (wr.alloc (.cells #[.int .u8 z,.string ⟨tx.toArray⟩] 47)).alloc (.cells #[.int .u8 z,.int .u8 32] 5)=Wt at hBt hxt hvt hmb hml hbc2 ⊢
     generalize wr.heap.size=Mb at hmb hml ⊢
     obtain⟨t0,t1,t2,t3,t4⟩:=hxt.cells
     go_wp2_with fail
     refine hbc2.mono ?_
     rintro e w2 ⟨rfl,hB2⟩
     have hm2:=(hB2.block Mb hml).trans hmb
     have m0:w2.cell? ⟨Mb,0,none⟩=some (.int .u8 z):=(by rw[Lib.cell_of_heap hm2];rfl)
     have m1:w2.cell? ⟨Mb,1,none⟩=some (.string ⟨tx.toArray⟩):=(by rw[Lib.cell_of_heap hm2];rfl)
     clear t0 t1 t2 t3 t4 hm2 c0 c1
     go_wp2_with fail
     refine (ZyQ [33,32] tx _ (by decide) (by omega)).mono ?_
     rintro e wl ⟨rfl,rfl⟩
     rw[HY.out]
     go_wp2
     exact⟨⟨k+1,A2,true,by omega,by go_num,rfl,rfl,hBt.trans (hB2.mono hBt.size),HC2,HI3⟩,by simp[intOf];omega⟩
    | false =>
     obtain⟨Y,hY⟩:∃ Y,(lnL [UInt8.ofNat z.toNat,32] tx).flatten=Y:=⟨_,rfl⟩
     have hAY:ac++Y=A2:=(by rw[← hY];have h:=HLs.out;rw[if_neg h1,if_pos rfl,if_neg (by decide)] at h;exact h)
     have hlY:=congrArg List.length hAY
     rw[List.length_append] at hlY
     have q1:=Zsl (x:=ac) (y:=Y) (by unfold Fits;omega) Tryz.prog
     rw[hAY] at q1
     have HY:Hid ((lnL [UInt8.ofNat z.toNat,32] tx).flatten=Y):=hY
     clear hY hAY hlY HLs
     clear HCn h1 e2 hz0
     go_upto_region 12 with fail
     have hmb:((wr.alloc (.cells #[.int .u8 z,.string ⟨tx.toArray⟩] 47)).alloc (.cells #[.int .u8 z,.int .u8 32] 5)).heap[wr.heap.size]?=some (.cells #[.int .u8 z,.string ⟨tx.toArray⟩] 47):=(Lib.alloc_old _ _ _ (by simp)).trans (heap_alloc_new wr _)
     have hml:wr.heap.size<((wr.alloc (.cells #[.int .u8 z,.string ⟨tx.toArray⟩] 47)).alloc (.cells #[.int .u8 z,.int .u8 32] 5)).heap.size:=by simp;omega
     have hbc2:=hbc _ hvt
     generalize (wr.alloc (.cells #[.int .u8 z,.string ⟨tx.toArray⟩] 47)).alloc (.cells #[.int .u8 z,.int .u8 32] 5)=Wt at hBt hxt hvt hmb hml hbc2 ⊢
     generalize wr.heap.size=Mb at hmb hml ⊢
     obtain⟨t0,t1,t2,t3,t4⟩:=hxt.cells
     go_wp2_with fail
     refine hbc2.mono ?_
     rintro e w2 ⟨rfl,hB2⟩
     have hm2:=(hB2.block Mb hml).trans hmb
     have m0:w2.cell? ⟨Mb,0,none⟩=some (.int .u8 z):=(by rw[Lib.cell_of_heap hm2];rfl)
     have m1:w2.cell? ⟨Mb,1,none⟩=some (.string ⟨tx.toArray⟩):=(by rw[Lib.cell_of_heap hm2];rfl)
     clear t0 t1 t2 t3 t4 hm2 c0 c1
     go_wp2_with fail
     refine (ZyQ [UInt8.ofNat z.toNat,32] tx _ (by simp) (by omega)).mono ?_
     rintro e wl ⟨rfl,rfl⟩
     rw[HY.out]
     go_wp2
     exact⟨⟨k+1,A2,true,by omega,by go_num,rfl,rfl,hBt.trans (hB2.mono hBt.size),HC2,HI3⟩,by simp[intOf];omega⟩
   ·have e2:(z != sg)=true:=by simp[h2]
    have e3:(z == sg)=false:=beq_eq_false_iff_ne.2 h2
    have hAA:ac=A2:=(by have h:=HLs.out;rw[if_neg h1,if_neg h2] at h;simpa using h)
    have HC2:Hid (hasM sg (ls.take (k+1))=c):=(by show _=_;rw[HCn.out,e3,Bool.or_false])
    subst hAA
    clear HCn hbc h1 h2 HLs
    go_wp2
    exact⟨⟨k+1,ac,c,by omega,by go_num,rfl,rfl,hBm,HC2,HI3⟩,by simp[intOf];omega⟩
 ·have hend:¬ (k:Int)<(ls.length:Int):=by omega
  have HE:Hid ((if c=true then ac else [])=Z):=(by
   show _=_
   have h:=HI.out
   rw[List.drop_of_length_le (by omega)] at h
   have h1:ac=Z2:=by rw[← h];simp[fromS,sidL]
   have h2:=HCk.out
   rw[List.take_of_length_le (by omega),HFin.out.1] at h2
   rw[h1,← h2]
   exact HFin.out.2)
  clear HI HCk HFin
  cases c with
  | true =>
   have HE2:Hid (ac=Z):=(by have h:=HE.out;rw[if_pos rfl] at h;exact h)
   go_wp2
   go_ret
   exact⟨by rw[← HE2.out];rfl,hBl.trans (hB.mono hBl.size)⟩
  | false =>
   have HE2:Hid ([]=Z):=(by have h:=HE.out;rw[if_neg (by decide)] at h;exact h)
   go_wp2
   go_ret
   exact⟨by rw[← HE2.out];rfl,hBl.trans (hB.mono hBl.size)⟩
end

section
open Go.RowKit
theorem Zuz {x y z:List UInt8} (h:∀ u:World,(Op.stringOp .add ⟨x.toArray⟩ ⟨y.toArray⟩).run Tryz.prog u=.ok (.string ⟨z.toArray⟩) u) {u:World} {op:Oper} (a b:Operand) (ho:op.op=.binOp .add 9 a b 9) {ev:Operand→Value} (ha:ev a=.string ⟨x.toArray⟩) (hb:ev b=.string ⟨y.toArray⟩) :
  (execOp ev op).run Tryz.prog u=.ok (.value (.string ⟨z.toArray⟩)) u:=by
 simp only[execOp,ho,ha,hb]
 go_simp
theorem ZuB {u:World} {M:Nat} {A AN Bn BN:Int} {ls:List Mk} {o:Option Addr} {n c:Nat} (q:Hx u M ⟨A,AN,Bn,BN,ls⟩ (.slice o n c)) {op:Oper} (x:Operand) (ho:op.op=.load 45 x) {ev:Operand→Value} (hx:ev x=.pointer (some ⟨M,0,none⟩)) :
  (execOp ev op).run Tryz.prog u=.ok (.value (.agg #[.int .i64 A,.int .i64 AN,.int .i64 Bn,.int .i64 BN,.slice o n c])) u:=by
 obtain⟨d0,d1,d2,d3,d4⟩:=q.cells
 simp only[execOp,ho,hx]
 go_simp
theorem ZyZ (p:Pth) (q:List (Hk × Value)) (HQ:Hid (q.map (·.1)=p.hs)) (v:Value) (w:World) (hv:HHp w v q) (hok:HOk q) (ho:p.old.length≤1099511627776) (hn:p.new.length≤1099511627776) (Z:List UInt8) (r:Int) (HR:Hid (wrgP p=r)) (HZ:Hid (ptT p=Z)) (hZ:Z.length≤70368744177664) (HX:Hid (∀ x∈p.hs,∀ sg,(sidL sg false false x.ls).flatten.length≤70368744177664)) :
  Calls Tryz.prog 42 #[ptV p v] w fun e w'=>e=.returned (.tuple #[.string ⟨Z.toArray⟩,.int .i64 r])∧Below w.heap.size w w':=by
 obtain⟨lo,lc,rfl⟩:=Holds.form hv.row
 have HO:=fun h=>(ZAT (p:=p) h)
 obtain⟨old,new,hs⟩:=p
 dsimp only at HQ ho hn HX
 have hql:hs.length=q.length:=(by rw[← HQ.out,List.length_map])
 have hZZ:=HZ.out
 unfold ptT at hZZ
 rw[HR.out] at hZZ
 have hBm:Below w.heap.size w (w.alloc (.cells #[.string ⟨old.toArray⟩,.string ⟨new.toArray⟩,.slice lo q.length lc] 42)):=(Below.refl _ w).alloc (Nat.le_refl _) _
 have hMx:Px (w.alloc (.cells #[.string ⟨old.toArray⟩,.string ⟨new.toArray⟩,.slice lo q.length lc] 42)) w.heap.size ⟨old,new,hs⟩ (.slice lo q.length lc):=heap_alloc_new w _
 have hvm:=hv.keep hBm (Nat.le_refl _)
 have hc:=Zzl ⟨old,new,hs⟩ q HQ (.slice lo q.length lc) _ hvm hok ho hn r HR
 have e:ptV ⟨old,new,hs⟩ (.slice lo q.length lc)=.agg #[.string ⟨old.toArray⟩,.string ⟨new.toArray⟩,.slice lo q.length lc]:=rfl
 rw[e] at hc ⊢
 obtain⟨d0,d1,d2⟩:=hMx.cells
 clear e hvm
 by_cases hr0:r=0
 ·subst hr0
  rw[if_pos rfl] at hZZ
  obtain⟨o1,o2,o3,o4⟩:=HO HR.out
  dsimp only at o1 o2 o3 o4
  have HCh:Hid (∀ x∈hs,chkH x=0):=o4
  clear o4 HO
  by_cases hq0:q.length=0
  ·have HE:Hid ([]=Z):=(by
    show _=_
    rw[← hZZ]
    have:hs=[]:=List.eq_nil_of_length_eq_zero (by omega)
    rw[this]
    rfl)
   have i1:((q.length:Int) == 0)=true:=(by rw[hq0];rfl)
   clear hZZ HZ hq0 hql
   go_enter Tryz.func42,Tryz.ntmps42
   go_wp2_with fail
   refine hc.mono ?_
   rintro e w1 ⟨rfl,hB1⟩
   have hM1:=hMx.low hB1
   clear d0 d1 d2
   obtain⟨d0,d1,d2⟩:=hM1.cells
   go_wp2
   go_ret2
   exact⟨by rw[← HE.out];rfl,hBm.trans (hB1.mono hBm.size)⟩
  ·have hne:hs≠[]:=(by intro e;rw[e] at hql;simp at hql;omega)
   rw[ZyB (p:=⟨old,new,hs⟩) hne] at hZZ
   dsimp only at hZZ
   obtain⟨N1,hN1⟩:∃ Y,nameT old=Y:=⟨_,rfl⟩
   obtain⟨N2,hN2⟩:∃ Y,nameT new=Y:=⟨_,rfl⟩
   obtain⟨U1,hU1⟩:∃ Y,[42,42,42,32]++N1=Y:=⟨_,rfl⟩
   obtain⟨U2,hU2⟩:∃ Y,U1++[10,45,45,45,32]=Y:=⟨_,rfl⟩
   obtain⟨U3,hU3⟩:∃ Y,U2++N2=Y:=⟨_,rfl⟩
   obtain⟨Z2,hZ2⟩:∃ Y,U3++[10]=Y:=⟨_,rfl⟩
   have HE:Hid (Z2++(((q.map (·.1)).drop 0).flatMap hkL).flatten=Z):=(by
    show _=_
    rw[← hZZ,← hZ2,← hU3,← hU2,← hU1,hN1,hN2,HQ.out,List.drop_zero]
    simp)
   have n1:=Zxk old
   have n2:=Zxk new
   rw[hN1] at n1
   rw[hN2] at n2
   have u1:=congrArg List.length hU1
   have u2:=congrArg List.length hU2
   have u3:=congrArg List.length hU3
   simp only[List.length_append,List.length_cons,List.length_nil] at u1 u2 u3
   have q1:=Zsl (x:=[42,42,42,32]) (y:=N1) (by unfold Fits;simp only[List.length_cons,List.length_nil];omega) Tryz.prog
   have q2:=Zsl (x:=U1) (y:=[10,45,45,45,32]) (by unfold Fits;simp only[List.length_cons,List.length_nil];omega) Tryz.prog
   have q3:=Zsl (x:=U2) (y:=N2) (by unfold Fits;omega) Tryz.prog
   have q4:=Zsl (x:=U3) (y:=[10]) (by unfold Fits;simp only[List.length_cons,List.length_nil];omega) Tryz.prog
   rw[hU1] at q1
   rw[hU2] at q2
   rw[hU3] at q3
   rw[hZ2] at q4
   have i1:((q.length:Int) == 0)=false:=beq_eq_false_iff_ne.2 (by omega)
   have hq4:q.length≤4096:=by omega
   have HN1:Hid (nameT old=N1):=hN1
   have HN2:Hid (nameT new=N2):=hN2
   clear hZZ HZ hq0 hql n1 n2 hN1 hN2 hU1 hU2 hU3 hZ2 hne o3 u1 u2 u3
   go_enter Tryz.func42,Tryz.ntmps42
   go_wp2_with fail
   refine hc.mono ?_
   rintro e W1 ⟨rfl,hB1⟩
   have hPx:=hMx.low hB1
   have hBw1:=hBm.trans (hB1.mono hBm.size)
   clear d0 d1 d2 hBm hMx hB1 hc
   generalize w.heap.size=M at hPx ⊢
   obtain⟨d0,d1,d2⟩:=hPx.cells
   have HCn1:Hid (∀ u,Below W1.heap.size W1 u→Calls Tryz.prog 78 (#[.string ⟨old.toArray⟩]++#[]) u fun e w2=>∃ v2,e=.returned v2∧Below W1.heap.size W1 w2∧v2=.string ⟨N1.toArray⟩):=(by
    intro u hu
    refine (ZpJ old u ho N1 HN1).mono ?_
    rintro e w2 ⟨rfl,h⟩
    exact⟨_,rfl,hu.trans (h.mono hu.size),rfl⟩)
   have HCn2:Hid (∀ u,Below W1.heap.size W1 u→Calls Tryz.prog 78 (#[.string ⟨new.toArray⟩]++#[]) u fun e w2=>∃ v2,e=.returned v2∧Below W1.heap.size W1 w2∧v2=.string ⟨N2.toArray⟩):=(by
    intro u hu
    refine (ZpJ new u hn N2 HN2).mono ?_
    rintro e w2 ⟨rfl,h⟩
    exact⟨_,rfl,hu.trans (h.mono hu.size),rfl⟩)
   go_upto_region 4 with fail
   refine wp_region_noPanic ?_
   refine wp_region_held_drew (S:=fun u=>Below W1.heap.size W1 u) (by kernel_rfl) ((Below.refl _ W1).drew) (fun hHeld=>?_)
   generalize W1.drew=wd at hHeld ⊢
   refine Y_t 0 19 _ (.pointer (some ⟨M,0,none⟩)) rfl (Or.inl ⟨by kernel_rfl,fun u hu=>by kernel_rfl⟩) hHeld ?_
   simp only[Act.put,Y_a,Y_b,Y_c]
   refine Y_t 1 20 _ (.string ⟨old.toArray⟩) rfl (Or.inl ⟨by kernel_rfl,fun u hu=>ZuE (hPx.low hu).cells.1 (.tmp 19) (by kernel_rfl) (by kernel_rfl)⟩) hHeld ?_
   simp only[Act.put,Y_a,Y_b,Y_c]
   refine Y_t 5 24 _ (.pointer (some ⟨M,1,none⟩)) rfl (Or.inl ⟨by kernel_rfl,fun u hu=>by kernel_rfl⟩) hHeld ?_
   simp only[Act.put,Y_a,Y_b,Y_c]
   refine Y_t 6 25 _ (.string ⟨new.toArray⟩) rfl (Or.inl ⟨by kernel_rfl,fun u hu=>ZuE (hPx.low hu).cells.2.1 (.tmp 24) (by kernel_rfl) (by kernel_rfl)⟩) hHeld ?_
   simp only[Act.put,Y_a,Y_b,Y_c]
   refine Y_e 2 21 _ rfl 78 (.func 78) #[.tmp 20] #[9] (by kernel_rfl) #[] (by kernel_rfl) #[.string ⟨old.toArray⟩] (by kernel_rfl) (enters_of Tryz.func78 (by kernel_rfl) rfl) (fun v2 _=>v2=.string ⟨N1.toArray⟩) ?_ ?_
   ·exact HCn1.out wd hHeld
   rintro _ w2 hw2 rfl
   simp only[Act.put,Y_a,Y_b,Y_c]
   refine Y_t 3 22 _ (.string ⟨U1.toArray⟩) rfl (Or.inl ⟨by kernel_rfl,fun u hu=>Zuz q1 (.const (.string ⟨#[42,42,42,32]⟩)) (.tmp 21) (by kernel_rfl) (by kernel_rfl) (by kernel_rfl)⟩) hw2 ?_
   simp only[Act.put,Y_a,Y_b,Y_c]
   refine Y_t 4 23 _ (.string ⟨U2.toArray⟩) rfl (Or.inl ⟨by kernel_rfl,fun u hu=>Zuz q2 (.tmp 22) (.const (.string ⟨#[10,45,45,45,32]⟩)) (by kernel_rfl) (by kernel_rfl) (by kernel_rfl)⟩) hw2 ?_
   simp only[Act.put,Y_a,Y_b,Y_c]
   refine Y_e 7 26 _ rfl 78 (.func 78) #[.tmp 25] #[9] (by kernel_rfl) #[] (by kernel_rfl) #[.string ⟨new.toArray⟩] (by kernel_rfl) (enters_of Tryz.func78 (by kernel_rfl) rfl) (fun v2 _=>v2=.string ⟨N2.toArray⟩) ?_ ?_
   ·exact HCn2.out w2 hw2
   rintro _ w3 hw3 rfl
   simp only[Act.put,Y_a,Y_b,Y_c]
   refine Y_t 8 27 _ (.string ⟨U3.toArray⟩) rfl (Or.inl ⟨by kernel_rfl,fun u hu=>Zuz q3 (.tmp 23) (.tmp 26) (by kernel_rfl) (by kernel_rfl) (by kernel_rfl)⟩) hw3 ?_
   simp only[Act.put,Y_a,Y_b,Y_c]
   refine Y_t 9 28 _ (.string ⟨Z2.toArray⟩) rfl (Or.inl ⟨by kernel_rfl,fun u hu=>Zuz q4 (.tmp 27) (.const (.string ⟨#[10]⟩)) (by kernel_rfl) (by kernel_rfl) (by kernel_rfl)⟩) hw3 ?_
   simp only[Act.put,Y_a,Y_b,Y_c]
   refine Y_t 10 5 _ (.string ⟨Z2.toArray⟩) rfl (Or.inl ⟨by kernel_rfl,fun u hu=>by kernel_rfl⟩) hw3 ?_
   simp only[Act.put,Y_a,Y_b,Y_c]
   refine wpAnyH_done (by kernel_rfl) ?_ _
   refine NoPanic.normal ?_
   clear q1 q2 q3 q4 HCn1 HCn2 hHeld hw2 d0 d1 d2
   go_wp2
   go_loopw [5,6] (fun s i wr=>∃ (k:Nat) (ac:List UInt8),k≤q.length∧i=.int .i64 k∧s=.string ⟨ac.toArray⟩∧Below W1.heap.size W1 wr∧Hid (ac++(((q.map (·.1)).drop k).flatMap hkL).flatten=Z)) (fun _ i _=>q.length-(intOf i).toNat)
   case atStart=>exact⟨0,Z2,Nat.zero_le _,rfl,rfl,hw3,HE⟩
   case round =>
   clear HE hw3
   obtain⟨k,ac,hk,rfl,rfl,hB,HI⟩:=hrel
   obtain⟨d0,d1,d2⟩:=(hPx.low hB).cells
   by_cases hlt:k<q.length
   ·have hv1:=hv.keep hBw1 (Nat.le_refl _)
    obtain⟨bk,off,rfl,hbk,_⟩:=hv1.at (by omega)
    obtain⟨h,y,hx⟩:∃ h y,q[k]=(h,y):=⟨_,_,rfl⟩
    obtain⟨⟨c0,c1,c2,c3,c4⟩,hm⟩:=HHp.take hv1 hB k hlt hx
    obtain⟨x1,x2⟩:=hok.2 q[k] (List.getElem_mem hlt)
    have hmem:h∈hs:=(by rw[← HQ.out];have h2:=List.mem_map_of_mem (f:=(·.1)) (List.getElem_mem hlt);rw[hx] at h2;exact h2)
    have hch:=HCh.out h hmem
    have hxl:=HX.out h hmem
    rw[hx] at x1 x2
    dsimp only at x1 x2
    have hr:=(ZtX hch).1
    obtain⟨r1,r2,r3,r4,r5,r6,rx⟩:=ZzK hr
    obtain⟨r7,r8⟩:=ZtS hr
    have HI2:=HI.out
    rw[List.drop_eq_getElem_cons (show k<(q.map (·.1)).length by rw[List.length_map];exact hlt),List.getElem_map,hx,List.flatMap_cons,List.flatten_append,← List.append_assoc] at HI2
    dsimp only at HI2
    obtain⟨yo,yc,rfl⟩:=HMk.form hm
    obtain⟨A,AN,Bn,BN,ls⟩:=h
    dsimp only at x1 x2 c0 c1 c2 c3 c4 hm r1 r2 r3 r4 r5 r6 r7 r8 hxl
    clear rx hr hch hmem hx HI
    obtain⟨T1,hT1⟩:∃ T,spanT A AN=T:=⟨_,rfl⟩
    obtain⟨T2,hT2⟩:∃ T,spanT Bn BN=T:=⟨_,rfl⟩
    have t1:=ZAr (p:=A) (n:=AN) r1 r2 r7
    have t2:=ZAr (p:=Bn) (n:=BN) r4 r5 r8
    rw[hT1] at t1
    rw[hT2] at t2
    obtain⟨X1,hX1⟩:∃ X,(sideL 45 ls).flatten=X:=⟨_,rfl⟩
    obtain⟨X2,hX2⟩:∃ X,(sideL 43 ls).flatten=X:=⟨_,rfl⟩
    obtain⟨a1,e1⟩:∃ Y,ac++starsT=Y:=⟨_,rfl⟩
    obtain⟨a2,e2⟩:∃ Y,a1++[10,42,42,42,32]=Y:=⟨_,rfl⟩
    obtain⟨a3,e3⟩:∃ Y,a2++T1=Y:=⟨_,rfl⟩
    obtain⟨a4,e4⟩:∃ Y,a3++[32,42,42,42,42,10]=Y:=⟨_,rfl⟩
    obtain⟨a5,e5⟩:∃ Y,a4++X1=Y:=⟨_,rfl⟩
    obtain⟨a6,e6⟩:∃ Y,a5++[45,45,45,32]=Y:=⟨_,rfl⟩
    obtain⟨a7,e7⟩:∃ Y,a6++T2=Y:=⟨_,rfl⟩
    obtain⟨a8,e8⟩:∃ Y,a7++[32,45,45,45,45,10]=Y:=⟨_,rfl⟩
    obtain⟨a9,e9⟩:∃ Y,a8++X2=Y:=⟨_,rfl⟩
    have HI3:Hid (a9++(((q.map (·.1)).drop (k+1)).flatMap hkL).flatten=Z):=(by
     show _=_
     rw[← HI2,← e9,← e8,← e7,← e6,← e5,← e4,← e3,← e2,← e1,← hX1,← hX2,← hT1,← hT2]
     simp[hkL,rlT])
    have l9:=congrArg List.length HI3.out
    have m9:=congrArg List.length e9
    have m8:=congrArg List.length e8
    have m7:=congrArg List.length e7
    have m6:=congrArg List.length e6
    have m5:=congrArg List.length e5
    have m4:=congrArg List.length e4
    have m3:=congrArg List.length e3
    have m2:=congrArg List.length e2
    have m1:=congrArg List.length e1
    simp only[List.length_append] at l9 m9 m8 m7 m6 m5 m4 m3 m2 m1
    have q1:=Zsl (x:=ac) (y:=starsT) (by unfold Fits;omega) Tryz.prog
    have q2:=Zsl (x:=a1) (y:=[10,42,42,42,32]) (by unfold Fits;omega) Tryz.prog
    have q3:=Zsl (x:=a2) (y:=T1) (by unfold Fits;omega) Tryz.prog
    have q4:=Zsl (x:=a3) (y:=[32,42,42,42,42,10]) (by unfold Fits;omega) Tryz.prog
    have q5:=Zsl (x:=a4) (y:=X1) (by unfold Fits;omega) Tryz.prog
    have q6:=Zsl (x:=a5) (y:=[45,45,45,32]) (by unfold Fits;omega) Tryz.prog
    have q7:=Zsl (x:=a6) (y:=T2) (by unfold Fits;omega) Tryz.prog
    have q8:=Zsl (x:=a7) (y:=[32,45,45,45,45,10]) (by unfold Fits;omega) Tryz.prog
    have q9:=Zsl (x:=a8) (y:=X2) (by unfold Fits;omega) Tryz.prog
    rw[e1] at q1
    rw[e2] at q2
    rw[e3] at q3
    rw[e4] at q4
    rw[e5] at q5
    rw[e6] at q6
    rw[e7] at q7
    rw[e8] at q8
    rw[e9] at q9
    have hBn:Below wr.heap.size wr (wr.alloc (.cells #[.int .i64 A,.int .i64 AN,.int .i64 Bn,.int .i64 BN,.slice yo ls.length yc] 45)):=(Below.refl _ wr).alloc (Nat.le_refl _) _
    have hHx:Hx (wr.alloc (.cells #[.int .i64 A,.int .i64 AN,.int .i64 Bn,.int .i64 BN,.slice yo ls.length yc] 45)) wr.heap.size ⟨A,AN,Bn,BN,ls⟩ (.slice yo ls.length yc):=heap_alloc_new wr _
    have hmm:=hm.keep hBn (Nat.le_refl _)
    have hBm:=hB.trans (hBn.mono hB.size)
    have i4:(0:Int)≤(k:Int):=by omega
    have i5:(k:Int)<(q.length:Int):=by omega
    have hkv:hkV ⟨A,AN,Bn,BN,ls⟩ (.slice yo ls.length yc)=.agg #[.int .i64 A,.int .i64 AN,.int .i64 Bn,.int .i64 BN,.slice yo ls.length yc]:=rfl
    have HS1:=fun (sg:Int) (hsg:sg=45∨sg=43) (u:World) (hu:HMk u (.slice yo ls.length yc) ls) (X:List UInt8) (hX:(sideL sg ls).flatten=X)=>ZzQ ⟨A,AN,Bn,BN,ls⟩ (.slice yo ls.length yc) sg hsg u hu x1 x2 X hX _ rfl (Nat.le_trans (hxl sg) (by decide))
    rw[hkv] at HS1
    clear l9 m9 m8 m7 m6 m5 m4 m3 m2 m1 e1 e2 e3 e4 e5 e6 e7 e8 e9 HI2 hm hkv
    go_upto_region 9 with fail
    generalize wr.alloc (.cells #[.int .i64 A,.int .i64 AN,.int .i64 Bn,.int .i64 BN,.slice yo ls.length yc] 45)=Wm at hHx hmm hBm hBn ⊢
    generalize wr.heap.size=Mh at hHx ⊢
    have HC1:Hid (∀ u,Below Wm.heap.size Wm u→Calls Tryz.prog 79 (#[.int .i64 A,.int .i64 AN]++#[]) u fun e w2=>∃ v2,e=.returned v2∧Below Wm.heap.size Wm w2∧v2=.string ⟨T1.toArray⟩):=(by
     intro u hu
     refine (ZzR A AN r1 (by omega) r3 (by omega) u T1 hT1).mono ?_
     rintro e w2 ⟨rfl,h⟩
     exact⟨_,rfl,hu.trans (h.mono hu.size),rfl⟩)
    have HC3:Hid (∀ u,Below Wm.heap.size Wm u→Calls Tryz.prog 79 (#[.int .i64 Bn,.int .i64 BN]++#[]) u fun e w2=>∃ v2,e=.returned v2∧Below Wm.heap.size Wm w2∧v2=.string ⟨T2.toArray⟩):=(by
     intro u hu
     refine (ZzR Bn BN r4 (by omega) r6 (by omega) u T2 hT2).mono ?_
     rintro e w2 ⟨rfl,h⟩
     exact⟨_,rfl,hu.trans (h.mono hu.size),rfl⟩)
    have HC2:Hid (∀ u,Below Wm.heap.size Wm u→Calls Tryz.prog 80 (#[.agg #[.int .i64 A,.int .i64 AN,.int .i64 Bn,.int .i64 BN,.slice yo ls.length yc],.int .u8 45]++#[]) u fun e w2=>∃ v2,e=.returned v2∧Below Wm.heap.size Wm w2∧v2=.string ⟨X1.toArray⟩):=(by
     intro u hu
     refine (HS1 45 (.inl rfl) u (hmm.keep hu (Nat.le_refl _)) X1 hX1).mono ?_
     rintro e w2 ⟨rfl,h⟩
     exact⟨_,rfl,hu.trans (h.mono hu.size),rfl⟩)
    have HC4:Hid (∀ u,Below Wm.heap.size Wm u→Calls Tryz.prog 80 (#[.agg #[.int .i64 A,.int .i64 AN,.int .i64 Bn,.int .i64 BN,.slice yo ls.length yc],.int .u8 43]++#[]) u fun e w2=>∃ v2,e=.returned v2∧Below Wm.heap.size Wm w2∧v2=.string ⟨X2.toArray⟩):=(by
     intro u hu
     refine (HS1 43 (.inr rfl) u (hmm.keep hu (Nat.le_refl _)) X2 hX2).mono ?_
     rintro e w2 ⟨rfl,h⟩
     exact⟨_,rfl,hu.trans (h.mono hu.size),rfl⟩)
    clear HS1 hX1 hX2 hT1 hT2 c0 c1 c2 c3 c4 d0 d1 d2 hxl r1 r2 r3 r4 r5 r6 r7 r8 t1 t2
    refine wp_region_noPanic ?_
    refine wp_region_held_drew (S:=fun u=>Below Wm.heap.size Wm u) (by kernel_rfl) ((Below.refl _ Wm).drew) (fun hHeld=>?_)
    generalize Wm.drew=wd at hHeld ⊢
    refine Y_t 0 41 _ (.string ⟨ac.toArray⟩) rfl (Or.inl ⟨by kernel_rfl,fun u hu=>by kernel_rfl⟩) hHeld ?_
    simp only[Act.put,Y_a,Y_b,Y_c]
    refine Y_t 1 42 _ (.string ⟨a1.toArray⟩) rfl (Or.inl ⟨by kernel_rfl,fun u hu=>Zuz q1 (.tmp 41) (.const (.string ⟨#[42,42,42,42,42,42,42,42,42,42,42,42,42,42,42]⟩)) (by kernel_rfl) (by kernel_rfl) (by kernel_rfl)⟩) hHeld ?_
    simp only[Act.put,Y_a,Y_b,Y_c]
    refine Y_t 2 43 _ (.string ⟨a2.toArray⟩) rfl (Or.inl ⟨by kernel_rfl,fun u hu=>Zuz q2 (.tmp 42) (.const (.string ⟨#[10,42,42,42,32]⟩)) (by kernel_rfl) (by kernel_rfl) (by kernel_rfl)⟩) hHeld ?_
    simp only[Act.put,Y_a,Y_b,Y_c]
    refine Y_t 3 44 _ (.pointer (some ⟨Mh,0,none⟩)) rfl (Or.inl ⟨by kernel_rfl,fun u hu=>by kernel_rfl⟩) hHeld ?_
    simp only[Act.put,Y_a,Y_b,Y_c]
    refine Y_t 4 45 _ (.int .i64 A) rfl (Or.inl ⟨by kernel_rfl,fun u hu=>Zon (hHx.low hu).cells.1 (.tmp 44) (by kernel_rfl) (by kernel_rfl)⟩) hHeld ?_
    simp only[Act.put,Y_a,Y_b,Y_c]
    refine Y_t 5 46 _ (.pointer (some ⟨Mh,1,none⟩)) rfl (Or.inl ⟨by kernel_rfl,fun u hu=>by kernel_rfl⟩) hHeld ?_
    simp only[Act.put,Y_a,Y_b,Y_c]
    refine Y_t 6 47 _ (.int .i64 AN) rfl (Or.inl ⟨by kernel_rfl,fun u hu=>Zon (hHx.low hu).cells.2.1 (.tmp 46) (by kernel_rfl) (by kernel_rfl)⟩) hHeld ?_
    simp only[Act.put,Y_a,Y_b,Y_c]
    refine Y_t 10 51 _ (.agg #[.int .i64 A,.int .i64 AN,.int .i64 Bn,.int .i64 BN,.slice yo ls.length yc]) rfl (Or.inl ⟨by kernel_rfl,fun u hu=>ZuB (hHx.low hu) (.tmp 7) (by kernel_rfl) (by kernel_rfl)⟩) hHeld ?_
    simp only[Act.put,Y_a,Y_b,Y_c]
    refine Y_t 14 55 _ (.pointer (some ⟨Mh,2,none⟩)) rfl (Or.inl ⟨by kernel_rfl,fun u hu=>by kernel_rfl⟩) hHeld ?_
    simp only[Act.put,Y_a,Y_b,Y_c]
    refine Y_t 15 56 _ (.int .i64 Bn) rfl (Or.inl ⟨by kernel_rfl,fun u hu=>Zon (hHx.low hu).cells.2.2.1 (.tmp 55) (by kernel_rfl) (by kernel_rfl)⟩) hHeld ?_
    simp only[Act.put,Y_a,Y_b,Y_c]
    refine Y_t 16 57 _ (.pointer (some ⟨Mh,3,none⟩)) rfl (Or.inl ⟨by kernel_rfl,fun u hu=>by kernel_rfl⟩) hHeld ?_
    simp only[Act.put,Y_a,Y_b,Y_c]
    refine Y_t 17 58 _ (.int .i64 BN) rfl (Or.inl ⟨by kernel_rfl,fun u hu=>Zon (hHx.low hu).cells.2.2.2.1 (.tmp 57) (by kernel_rfl) (by kernel_rfl)⟩) hHeld ?_
    simp only[Act.put,Y_a,Y_b,Y_c]
    refine Y_t 21 62 _ (.agg #[.int .i64 A,.int .i64 AN,.int .i64 Bn,.int .i64 BN,.slice yo ls.length yc]) rfl (Or.inl ⟨by kernel_rfl,fun u hu=>ZuB (hHx.low hu) (.tmp 7) (by kernel_rfl) (by kernel_rfl)⟩) hHeld ?_
    simp only[Act.put,Y_a,Y_b,Y_c]
    refine Y_e 7 48 _ rfl 79 (.func 79) #[.tmp 45,.tmp 47] #[3,3] (by kernel_rfl) #[] (by kernel_rfl) #[.int .i64 A,.int .i64 AN] (by kernel_rfl) (enters_of Tryz.func79 (by kernel_rfl) rfl) (fun v2 _=>v2=.string ⟨T1.toArray⟩) ?_ ?_
    ·exact HC1.out wd hHeld
    rintro _ w2 hw2 rfl
    simp only[Act.put,Y_a,Y_b,Y_c]
    refine Y_t 8 49 _ (.string ⟨a3.toArray⟩) rfl (Or.inl ⟨by kernel_rfl,fun u hu=>Zuz q3 (.tmp 43) (.tmp 48) (by kernel_rfl) (by kernel_rfl) (by kernel_rfl)⟩) hw2 ?_
    simp only[Act.put,Y_a,Y_b,Y_c]
    refine Y_t 9 50 _ (.string ⟨a4.toArray⟩) rfl (Or.inl ⟨by kernel_rfl,fun u hu=>Zuz q4 (.tmp 49) (.const (.string ⟨#[32,42,42,42,42,10]⟩)) (by kernel_rfl) (by kernel_rfl) (by kernel_rfl)⟩) hw2 ?_
    simp only[Act.put,Y_a,Y_b,Y_c]
    refine Y_e 11 52 _ rfl 80 (.func 80) #[.tmp 51,.const (.int .u8 45)] #[45,5] (by kernel_rfl) #[] (by kernel_rfl) #[.agg #[.int .i64 A,.int .i64 AN,.int .i64 Bn,.int .i64 BN,.slice yo ls.length yc],.int .u8 45] (by kernel_rfl) (enters_of Tryz.func80 (by kernel_rfl) rfl) (fun v2 _=>v2=.string ⟨X1.toArray⟩) ?_ ?_
    ·exact HC2.out w2 hw2
    rintro _ w3 hw3 rfl
    simp only[Act.put,Y_a,Y_b,Y_c]
    refine Y_t 12 53 _ (.string ⟨a5.toArray⟩) rfl (Or.inl ⟨by kernel_rfl,fun u hu=>Zuz q5 (.tmp 50) (.tmp 52) (by kernel_rfl) (by kernel_rfl) (by kernel_rfl)⟩) hw3 ?_
    simp only[Act.put,Y_a,Y_b,Y_c]
    refine Y_t 13 54 _ (.string ⟨a6.toArray⟩) rfl (Or.inl ⟨by kernel_rfl,fun u hu=>Zuz q6 (.tmp 53) (.const (.string ⟨#[45,45,45,32]⟩)) (by kernel_rfl) (by kernel_rfl) (by kernel_rfl)⟩) hw3 ?_
    simp only[Act.put,Y_a,Y_b,Y_c]
    refine Y_e 18 59 _ rfl 79 (.func 79) #[.tmp 56,.tmp 58] #[3,3] (by kernel_rfl) #[] (by kernel_rfl) #[.int .i64 Bn,.int .i64 BN] (by kernel_rfl) (enters_of Tryz.func79 (by kernel_rfl) rfl) (fun v2 _=>v2=.string ⟨T2.toArray⟩) ?_ ?_
    ·exact HC3.out w3 hw3
    rintro _ w4 hw4 rfl
    simp only[Act.put,Y_a,Y_b,Y_c]
    refine Y_t 19 60 _ (.string ⟨a7.toArray⟩) rfl (Or.inl ⟨by kernel_rfl,fun u hu=>Zuz q7 (.tmp 54) (.tmp 59) (by kernel_rfl) (by kernel_rfl) (by kernel_rfl)⟩) hw4 ?_
    simp only[Act.put,Y_a,Y_b,Y_c]
    refine Y_t 20 61 _ (.string ⟨a8.toArray⟩) rfl (Or.inl ⟨by kernel_rfl,fun u hu=>Zuz q8 (.tmp 60) (.const (.string ⟨#[32,45,45,45,45,10]⟩)) (by kernel_rfl) (by kernel_rfl) (by kernel_rfl)⟩) hw4 ?_
    simp only[Act.put,Y_a,Y_b,Y_c]
    refine Y_e 22 63 _ rfl 80 (.func 80) #[.tmp 62,.const (.int .u8 43)] #[45,5] (by kernel_rfl) #[] (by kernel_rfl) #[.agg #[.int .i64 A,.int .i64 AN,.int .i64 Bn,.int .i64 BN,.slice yo ls.length yc],.int .u8 43] (by kernel_rfl) (enters_of Tryz.func80 (by kernel_rfl) rfl) (fun v2 _=>v2=.string ⟨X2.toArray⟩) ?_ ?_
    ·exact HC4.out w4 hw4
    rintro _ w5 hw5 rfl
    simp only[Act.put,Y_a,Y_b,Y_c]
    refine Y_t 23 64 _ (.string ⟨a9.toArray⟩) rfl (Or.inl ⟨by kernel_rfl,fun u hu=>Zuz q9 (.tmp 61) (.tmp 63) (by kernel_rfl) (by kernel_rfl) (by kernel_rfl)⟩) hw5 ?_
    simp only[Act.put,Y_a,Y_b,Y_c]
    refine Y_t 24 5 _ (.string ⟨a9.toArray⟩) rfl (Or.inl ⟨by kernel_rfl,fun u hu=>by kernel_rfl⟩) hw5 ?_
    simp only[Act.put,Y_a,Y_b,Y_c]
    refine wpAnyH_done (by kernel_rfl) ?_ _
    refine NoPanic.normal ?_
    clear q1 q2 q3 q4 q5 q6 q7 q8 q9 HC1 HC2 HC3 HC4 hHeld hw2 hw3 hw4
    go_wp2
    exact⟨⟨k+1,a9,by omega,by go_num,rfl,hBm.trans (hw5.mono hBm.size),HI3⟩,by simp[intOf];omega⟩
   ·have hend:¬ (k:Int)<(q.length:Int):=by omega
    have hE:ac=Z:=(by
     have h:=HI.out
     rw[List.drop_of_length_le (by rw[List.length_map];omega)] at h
     simpa using h)
    subst hE
    clear HI
    go_wp2
    go_ret2
    exact⟨rfl,hBw1.trans (hB.mono hBw1.size)⟩
 ·rw[if_neg hr0] at hZZ
  have HE:Hid ([]=Z):=hZZ
  have e1:(r != 0)=true:=bne_iff_ne.2 hr0
  clear hZZ HZ HO hr0
  go_enter Tryz.func42,Tryz.ntmps42
  go_wp2_with fail
  refine hc.mono ?_
  rintro e w1 ⟨rfl,hB1⟩
  go_wp2
  go_ret2
  exact⟨by rw[← HE.out];rfl,hBm.trans (hB1.mono hBm.size)⟩
end

section
open Go.RowKit Go.Proofs.YtcniomgjikienaaGreatDoor.Tx
attribute [local go_sem] Zhc
theorem ZxL (h:Hk) (c:Ch):(onL (atA h) (atB h) (oldL h) (newL h) ⟨c.A-atA (lonH h),c.AN,c.B-atA (lonH h),c.BN⟩).flatten=onP h c:=rfl
theorem ZzH {h:Hk} (hc:chkH h=0):(0≤h.A∧h.A≤2147483647)∧(0≤h.AN∧h.AN≤2147483647)∧(0≤h.B∧h.B≤2147483647)∧(0≤h.BN∧h.BN≤2147483647)∧¬ (h.A=0∧0<h.AN)∧¬ (h.B=0∧0<h.BN):=by
 have hr:=(ZtX hc).1
 unfold rngB nat31 at hr
 simp only[Bool.and_eq_true,Bool.not_eq_true',Bool.and_eq_false_iff,decide_eq_true_eq,decide_eq_false_iff_not] at hr
 omega
theorem ZxK (h:Hk):(oldL h).length≤h.ls.length∧(newL h).length≤h.ls.length:=by
 have key:∀ (no:Int) (l:List Mk),(pkL no l).length≤l.length:=by
  intro no l
  induction l with
  | nil=>simp[pkL]
  | cons m l ih=>simp only[pkL];split<;>simp<;>omega
 exact⟨key _ _,key _ _⟩
theorem Zyt {M:Nat} {l:List Mk} (h:∀ m∈l,m.tx.length≤M) (no:Int):∀ s∈pkL no l,s.length≤M:=by
 induction l with
 | nil=>intro s hs;cases hs
 | cons m l ih =>
  intro s hs
  simp only[pkL] at hs
  split at hs
  ·rcases List.mem_cons.1 hs with rfl | hs
   ·exact h m (by simp)
   ·exact ih (fun x hx=>h x (by simp[hx])) s hs
  ·exact ih (fun x hx=>h x (by simp[hx])) s hs
theorem Ztr (r:List Ch):(bmA r).length=r.length:=by cases r<;>rfl
theorem Zts (r:List Ch):(bmB r).length=r.length:=by cases r<;>rfl
theorem ZxW (p q:Int) (r:List Ch):(opn p q r).length≤r.length+1:=by unfold opn;split<;>simp
theorem ZtG (l:List Mk):∀ (p q:Int) (r:List Ch),(chLs p q r l).length≤r.length+l.length:=by
 induction l with
 | nil=>intro p q r;simp[chLs]
 | cons m l ih =>
  intro p q r
  have h0:=ZxW p q r
  simp only[chLs,List.length_cons]
  split
  ·have:=ih (p+1) (q+1) r
   omega
  ·split
   ·have:=ih (p+1) q (bmA (opn p q r))
    rw[Ztr] at this
    omega
   ·have:=ih p (q+1) (bmB (opn p q r))
    rw[Zts] at this
    omega
theorem ZwP {h:Hk} (hc:chkH h=0):(chR [lonH h]).length≤h.ls.length:=by
 obtain⟨_,_,a3,_⟩:=ZwO hc
 unfold chR
 rw[ZwQ hc,if_pos rfl,List.length_reverse]
 simp only[chHs]
 have:=ZtG (lonH h).ls (atA (lonH h)) (atB (lonH h)) []
 rw[a3] at this ⊢
 simpa using this
theorem ZyU (h:Hk) (ao:Option Addr) (ac:Nat) (w:World) (hv:HMk w (.slice ao h.ls.length ac) h.ls) (hc:chkH h=0) (hl:h.ls.length≤1099511627776) (htx:∀ m∈h.ls,m.tx.length≤1099511627776) (T:List UInt8) (HT:Hid (nrmT h=T)) (hT:T.length≤1152921504606846976) :
  Calls Tryz.prog 43 #[hkV h (.slice ao h.ls.length ac)] w fun e w'=>e=.returned (.string ⟨T.toArray⟩)∧Below w.heap.size w w':=by
 obtain⟨rA,rAN,rB,rBN,_,_⟩:=ZzH hc
 obtain⟨R,hR⟩:∃ R,lonH h=R:=⟨_,rfl⟩
 obtain⟨a1,a2,a3,a4⟩:=ZwO hc
 have hord:=ZwQ hc
 have hrg:=ZwR hc
 have hLl:=ZwP hc
 have hpt:=ZxC hc
 obtain⟨qA,qAN,qB,qBN,qz1,qz2⟩:=ZzH a4
 have hon:=ZxL h
 rw[hR] at a1 a2 a3 hord hrg hLl hpt qA qAN qB qBN hon qz1 qz2
 obtain⟨L,hL⟩:∃ L,chR [R]=L:=⟨_,rfl⟩
 rw[hL] at hrg hpt hLl
 rw[HT.out] at hpt
 have hlo:=fun u=>ZyR h ao h.ls.length ac u rA rAN rB rBN R hR
 obtain⟨a,ha⟩:∃ a,atA h=a:=⟨_,rfl⟩
 obtain⟨b,hb⟩:∃ b,atB h=b:=⟨_,rfl⟩
 obtain⟨U,hU⟩:∃ U,atA R=U:=⟨_,rfl⟩
 have hat:=fun u=>ZyK h (.slice ao h.ls.length ac) u (by omega) (by omega) (by omega) (by omega) a b ha hb
 have hat2:=fun u=>ZyK R (.slice ao h.ls.length ac) u (by omega) (by omega) (by omega) (by omega) U (atB R) hU rfl
 generalize atB R=U2 at hat2
 have ra:0≤a∧a≤2147483647:=by rw[← ha];unfold atA;split<;>omega
 have rb:0≤b∧b≤2147483647:=by rw[← hb];unfold atB;split<;>omega
 have rU:0≤U∧U≤2147483647:=by rw[← hU];unfold atA;split<;>omega
 obtain⟨O,hO⟩:∃ O,oldL h=O:=⟨_,rfl⟩
 obtain⟨N,hN⟩:∃ N,newL h=N:=⟨_,rfl⟩
 have hos:=ZxK h
 rw[hO,hN] at hos
 have HTO:Hid (∀ s∈O,s.length≤1099511627776):=(by rw[← hO];exact Zyt htx 43)
 have HTN:Hid (∀ s∈N,s.length≤1099511627776):=(by rw[← hN];exact Zyt htx 45)
 rw[ha,hb,hU,hO,hN] at hon
 rw[hU,hO,hN] at hrg
 obtain⟨PF,hPF⟩:∃ f,onP h=f:=⟨_,rfl⟩
 rw[hPF] at hon hpt
 have HON:Hid (∀ c:Ch,(onL a b O N ⟨c.A-U,c.AN,c.B-U,c.BN⟩).flatten=PF c):=hon
 have HRG:Hid (∀ c∈L,Inn U (U+O.length) (U+N.length) c):=hrg
 have HPT:Hid ((L.map PF).flatten=T):=hpt
 have hRl:R.ls=h.ls:=a3
 have hx0:=Hx.new w h (.slice ao h.ls.length ac)
 have hB0:Below w.heap.size w (w.alloc (hkO h (.slice ao h.ls.length ac))):=(Below.refl _ w).alloc (Nat.le_refl _) _
 have hOld:=fun u (hu:Below w.heap.size w u)=>ZyW h (.slice ao h.ls.length ac) u (HMk.keep hv hu (Nat.le_refl _)) hl O hO
 have hNew:=fun u (hu:Below w.heap.size w u)=>ZyT h (.slice ao h.ls.length ac) u (HMk.keep hv hu (Nat.le_refl _)) hl N hN
 have hCh:=fun u v9 (hu:HHp u v9 [(R,.slice ao h.ls.length ac)])=>ZyL [(R,.slice ao h.ls.length ac)] v9 u hu ⟨by simp,by intro x hx;rw[List.mem_singleton.1 hx];dsimp only;rw[hRl];exact⟨hl,htx⟩⟩ (by simp[tot,hRl];omega) 0 hord L hL
 obtain⟨d0,d1,d2,d3,d4⟩:=hx0.cells
 obtain⟨A,AN,B,BN,ls⟩:=h
 unfold hkV at hlo hat hOld hNew ⊢
 dsimp only at *
 unfold hkO at hB0 hx0 d0 d1 d2 d3 d4
 dsimp only at hB0 hx0 d0 d1 d2 d3 d4
 clear hPF hc HT hR hon hrg hpt hord a1 a2 a4 ha hb hU hO hN hL
 go_enter Tryz.func43,Tryz.ntmps43
 go_wp2_with fail
 refine (hlo _).mono ?_
 rintro e w1 ⟨rfl,hB1⟩
 have hx1:=hx0.low hB1
 have hBw:=hB0.trans (hB1.mono hB0.size)
 have hv1:=HMk.keep hv hBw (Nat.le_refl _)
 have hr1:HHp (w1.alloc (.cells #[.int .i64 R.A,.int .i64 R.AN,.int .i64 R.B,.int .i64 R.BN,.slice ao ls.length ac] 45)) (.slice (some ⟨w1.heap.size,0,none⟩) 1 1) [(R,.slice ao ls.length ac)]:=(by
  refine⟨?_,fun x hx=>?_⟩
  ·have:=ZgR w1 #[.int .i64 R.A,.int .i64 R.AN,.int .i64 R.B,.int .i64 R.BN,.slice ao ls.length ac] 45 1 1 (by decide)
   simpa [hkcells,hkC] using this
  ·rw[List.mem_singleton.1 hx]
   dsimp only
   rw[hRl]
   exact HMk.keep hv1 ((Below.refl _ w1).alloc (Nat.le_refl _) _) (Nat.le_refl _))
 have hx1':=hx1.low ((Below.refl _ w1).alloc (Nat.le_refl _) (.cells #[.int .i64 R.A,.int .i64 R.AN,.int .i64 R.B,.int .i64 R.BN,.slice ao ls.length ac] 45))
 have hBw':=hBw.alloc hBw.size (.cells #[.int .i64 R.A,.int .i64 R.AN,.int .i64 R.B,.int .i64 R.BN,.slice ao ls.length ac] 45)
 clear d0 d1 d2 d3 d4 hx0 hB0 hB1 hx1 hBw hv1
 go_wp2_with fail
 refine (hCh _ _ hr1).mono ?_
 rintro e w2 ⟨vL,rfl,hL2,hB2⟩
 have hx2:=hx1'.low hB2
 have hBw2:=hBw'.trans (hB2.mono hBw'.size)
 clear hCh hr1 hx1' hBw' hB2
 obtain⟨d0,d1,d2,d3,d4⟩:=hx2.cells
 dsimp only at d0 d1 d2 d3
 go_wp2_with fail
 refine (hat _).mono ?_
 rintro e w3 ⟨rfl,hB3⟩
 have hL3:=HCh.keep hL2 hB3 (Nat.le_refl _)
 have hx3:=hx2.low hB3
 have hB3:=hBw2.trans (hB3.mono hBw2.size)
 clear hat d0 d1 d2 d3 d4 hL2 hx2 hBw2
 go_upto_region 4 with fail
 refine wp_region_noPanic ?_
 refine wp_region_held_drew (S:=fun u=>Low w3 u) (by kernel_rfl) ((Below.refl _ w3).drew) (fun hHeld=>?_)
 refine Y_t 0 27 _ (.agg #[.int .i64 A,.int .i64 AN,.int .i64 B,.int .i64 BN,.slice ao ls.length ac]) rfl (Or.inl ⟨by kernel_rfl,fun u hu=>ZuB (M:=w.heap.size) (hx3.low hu) (.tmp 1) (by kernel_rfl) (by kernel_rfl)⟩) hHeld ?_
 simp only[Act.put,Y_a,Y_b,Y_c]
 refine Y_t 2 29 _ (.agg #[.int .i64 A,.int .i64 AN,.int .i64 B,.int .i64 BN,.slice ao ls.length ac]) rfl (Or.inl ⟨by kernel_rfl,fun u hu=>ZuB (M:=w.heap.size) (hx3.low hu) (.tmp 1) (by kernel_rfl) (by kernel_rfl)⟩) hHeld ?_
 simp only[Act.put,Y_a,Y_b,Y_c]
 refine Y_e 1 28 _ rfl 84 (.func 84) #[.tmp 27] #[45] (by kernel_rfl) #[] (by kernel_rfl) #[.agg #[.int .i64 A,.int .i64 AN,.int .i64 B,.int .i64 BN,.slice ao ls.length ac]] (by kernel_rfl) (enters_of Tryz.func84 (by kernel_rfl) rfl) (fun v u'=>HS u' v O) ((hOld _ (hB3.trans (hHeld.mono hB3.size))).mono (fun e u' h=>by obtain⟨v,h1,h2,h3⟩:=h;exact⟨v,h1,hHeld.trans (h3.mono hHeld.size),h2⟩)) ?_
 rintro vo w4 hHeld hO4
 simp only[Act.put,Y_a,Y_b,Y_c]
 refine Y_e 3 30 _ rfl 85 (.func 85) #[.tmp 29] #[45] (by kernel_rfl) #[] (by kernel_rfl) #[.agg #[.int .i64 A,.int .i64 AN,.int .i64 B,.int .i64 BN,.slice ao ls.length ac]] (by kernel_rfl) (enters_of Tryz.func85 (by kernel_rfl) rfl) (fun v u'=>HS u' v N∧HS u' vo O) ((hNew _ (hB3.trans (hHeld.mono hB3.size))).mono (fun e u' h=>by obtain⟨v,h1,h2,h3⟩:=h;exact⟨v,h1,hHeld.trans (h3.mono hHeld.size),h2,HS.keep hO4 h3 (Nat.le_refl _)⟩)) ?_
 rintro vn w5 hHeld ⟨hN5,hO5⟩
 simp only[Act.put,Y_a,Y_b,Y_c]
 refine Y_t 4 8 _ (vo) rfl (Or.inl ⟨by kernel_rfl,fun u hu=>by kernel_rfl⟩) hHeld ?_
 simp only[Act.put,Y_a,Y_b,Y_c]
 refine Y_t 5 9 _ (vn) rfl (Or.inl ⟨by kernel_rfl,fun u hu=>by kernel_rfl⟩) hHeld ?_
 simp only[Act.put,Y_a,Y_b,Y_c]
 refine wpAnyH_done (by kernel_rfl) ?_ _
 refine NoPanic.normal ?_
 have hL5:=HCh.keep hL3 hHeld (Nat.le_refl _)
 have hx5:=hx3.low hHeld
 have hB5:=hB3.trans (hHeld.mono hB3.size)
 clear hL3 hx3 hB3 hHeld hOld hNew hO4
 obtain⟨d0,d1,d2,d3,d4⟩:=hx5.cells
 dsimp only at d0 d1 d2 d3
 go_wp2_with fail
 refine (hlo _).mono ?_
 rintro e w6 ⟨rfl,hB6⟩
 clear hlo
 go_wp2_with fail
 refine (hat2 _).mono ?_
 rintro e w7 ⟨rfl,hB7⟩
 have hB57:=hB6.trans (hB7.mono hB6.size)
 have hL7:=HCh.keep hL5 hB57 (Nat.le_refl _)
 have hO7:=HS.keep hO5 hB57 (Nat.le_refl _)
 have hN7:=HS.keep hN5 hB57 (Nat.le_refl _)
 have hB7w:=hB5.trans (hB57.mono hB5.size)
 clear hat2 d0 d1 d2 d3 d4 hx5 hL5 hO5 hN5 hB5 hB6 hB7 hB57
 obtain⟨lo,lc,rfl⟩:=Holds.form hL7
 obtain⟨oo,oc,rfl⟩:=Holds.form hO7
 obtain⟨no,nc,rfl⟩:=Holds.form hN7
 have hLw:Low w7 w7:=Below.refl _ _
 have H0:Hid (([]:List UInt8)++((L.drop 0).map PF).flatten=T):=HPT.out
 clear HPT
 go_wp2
 go_loopw [7,12] (fun s i wr=>∃ (k:Nat) (P:List UInt8),k≤L.length∧s=.string ⟨P.toArray⟩∧i=.int .i64 (k:Int)∧Low w7 wr∧Hid (P++((L.drop k).map PF).flatten=T)) (fun _ i _=>L.length-(intOf i).toNat)
 case atStart=>exact⟨0,[],Nat.zero_le _,rfl,by go_num,hLw,H0⟩
 case round =>
 clear H0 hLw
 obtain⟨k,P,hk,rfl,rfl,hLr,HI⟩:=hrel
 by_cases hlt:k<L.length
 ·obtain⟨bk,off,rfl,hbk,hc⟩:=HCh.at (HCh.keep hL7 hLr (Nat.le_refl _)) (by omega)
  obtain⟨c0,c1,c2,c3⟩:=hc k hlt
  have hI:=HI.out
  have hin:=HRG.out L[k] (List.getElem_mem hlt)
  have hon:=HON.out L[k]
  rw[List.drop_eq_getElem_cons hlt,List.map_cons,List.flatten_cons,← List.append_assoc] at hI
  obtain⟨c,hcc⟩:∃ c,L[k]=c:=⟨_,rfl⟩
  rw[hcc] at c0 c1 c2 c3 hI hin hon
  obtain⟨Z,hZ⟩:∃ Z,PF c=Z:=⟨_,rfl⟩
  rw[hZ] at hI hon
  obtain⟨P1,hP1⟩:∃ Q,P++Z=Q:=⟨_,rfl⟩
  rw[hP1] at hI
  have HI2:Hid (P1++((L.drop (k+1)).map PF).flatten=T):=hI
  have z1:P1.length≤1152921504606846976:=(by have:=congrArg List.length hI;rw[List.length_append] at this;omega)
  have z2:=congrArg List.length hP1
  rw[List.length_append] at z2
  have q1:=Zsl (x:=P) (y:=Z) (by unfold Fits;omega) Tryz.prog
  rw[hP1] at q1
  clear hc hcc hI HI hZ hP1
  obtain⟨cA,cN,cB,cM⟩:=c
  unfold Inn at hin
  dsimp only at c0 c1 c2 c3 hin hon
  have wA:IntKind.i64.wrap (cA-U)=cA-U:=wrap_small _ (by omega) (by omega)
  have wB:IntKind.i64.wrap (cB-U)=cB-U:=wrap_small _ (by omega) (by omega)
  have hbx:=Cs.fresh ⟨cA,cN,cB,cM⟩ wr
  have hLx:Low w7 (wr.alloc (.cells #[.int .i64 cA,.int .i64 cN,.int .i64 cB,.int .i64 cM] 139)):=Below.alloc hLr hLr.size _
  dsimp only at hbx
  have hone:=fun u (hu:Low w7 u)=>ZyX ⟨cA-U,cN,cB-U,cM⟩ _ _ O N a b u (HS.keep hO7 hu (Nat.le_refl _)) (HS.keep hN7 hu (Nat.le_refl _)) (by omega) ⟨by dsimp only;omega,by dsimp only;omega,by dsimp only;omega,by dsimp only;omega,by dsimp only;omega,by dsimp only;omega⟩ (by omega) (by omega) HTO.out HTN.out Z hon (by omega)
  unfold chV at hone
  dsimp only at hone
  have e0:=hbx.c0
  have e1:=hbx.c1
  have e2:=hbx.c2
  have e3:=hbx.c3
  dsimp only at e0 e1 e2 e3
  have i1:(0:Int)≤(k:Int):=by omega
  have i2:(k:Int)<(L.length:Int):=by omega
  clear hon hbx
  go_wp2_with fail
  refine (hone _ hLx).mono ?_
  rintro e w9 ⟨rfl,hB9⟩
  have hL9:Low w7 w9:=Below.trans hLx (hB9.mono hLx.size)
  clear hone hLx hB9 e0 e1 e2 e3 hLr
  go_wp2
  exact⟨⟨k+1,P1,by omega,by first | rfl | simp,by go_num,hL9,HI2⟩,by simp[intOf];omega⟩
 ·have hend:¬ (k:Int)<(L.length:Int):=by omega
  have hI:=HI.out
  rw[List.drop_of_length_le (by omega),List.map_nil,List.flatten_nil,List.append_nil] at hI
  subst hI
  clear HI
  go_wp2
  go_ret
  exact⟨rfl,hB7w.trans (hLr.mono hB7w.size)⟩
end

section
open Go.RowKit
theorem ZvJ (p:List (Hk × Value)) (v:Value) (w:World) (hv:HHp w v p) (hok:HOk p) (r:Int) (HR:Hid (ordH (p.map (·.1))=r)):Calls Tryz.prog 269 #[v] w fun e w'=>e=.returned (.int .i64 r)∧Below w.heap.size w w':=by
 obtain⟨vo,vc,rfl⟩:=Holds.form hv.row
 have hpl:p.length≤1099511627776:=hok.1
 have HOK:Hid (HOk p):=hok
 obtain⟨l,hl⟩:∃ l,p.map (·.1)=l:=⟨_,rfl⟩
 have hll:p.length=l.length:=by rw[← hl];simp
 have HL:Hid (p.map (·.1)=l):=hl
 have HLL:Hid (p.length=l.length):=hll
 rw[hl] at HR
 clear hl hll hok
 go_enter Tryz.func269,Tryz.ntmps269
 go_wp2
 go_loopw [14] (fun iv wr=>∃ (k:Nat),k≤p.length∧iv=.int .i64 (k:Int)∧Below w.heap.size w wr∧Hid (errs l=errs (l.drop k))) (fun iv _=>p.length-(intOf iv).toNat)
 case atStart=>exact⟨0,Nat.zero_le _,by go_num,Below.refl _ _,rfl⟩
 case round =>
  obtain⟨k,hk,rfl,hB,HI⟩:=hrel
  by_cases hlt:k<p.length
  ·obtain⟨b,off,rfl,hb,_⟩:=hv.at (by omega)
   obtain⟨x,y,hxy⟩:∃ x y,p[k]=(x,y):=⟨_,_,rfl⟩
   obtain⟨⟨c0,c1,c2,c3,c4⟩,hm⟩:=hv.take hB k hlt hxy
   have hmem:(x,y)∈p:=by rw[← hxy];exact List.getElem_mem hlt
   have hbd:=HOK.out.2 _ hmem
   have hlk:l[k]'(by have:=HLL.out;omega)=x:=by
    have hz:l[k]?=some x:=by rw[← HL.out];simp[hlt,hxy]
    exact (List.getElem?_eq_some_iff.1 hz).2
   have HI2:Hid (errs l=if chkH x≠0 then chkH x else errs (l.drop (k+1))):=(by
    show _=_
    rw[HI.out,ZuO (by have:=HLL.out;omega),hlk])
   obtain⟨yo,yc,rfl⟩:=hm.form
   have i1:0≤(k:Int):=by omega
   have i2:(k:Int)<(p.length:Int):=by omega
   obtain⟨z,hz⟩:∃ z,chkH x=z:=⟨_,rfl⟩
   have HZ:Hid (chkH x=z):=hz
   have hBx:Below wr.heap.size wr (wr.alloc (hkO x (.slice yo x.ls.length yc))):=(Below.refl _ wr).alloc (Nat.le_refl _) _
   have hm1:=HMk.keep hm hBx (Nat.le_refl _)
   have hB1:=hB.trans (hBx.mono hB.size)
   obtain⟨x0,x1,x2,x3,x4⟩:=(Hx.new wr x (.slice yo x.ls.length yc)).cells
   have hW:wr.alloc (Obj.cells #[Value.int IntKind.i64 x.A,Value.int IntKind.i64 x.AN,Value.int IntKind.i64 x.B,Value.int IntKind.i64 x.BN,.slice yo x.ls.length yc] 45)=wr.alloc (hkO x (.slice yo x.ls.length yc)):=rfl
   clear HI hlk hz hxy hmem
   generalize wr.alloc (hkO x (.slice yo x.ls.length yc))=w1 at *
   go_wp2_with fail
   refine (Zvz x _ _ hm1 hbd.1 hbd.2 z HZ).mono ?_
   rintro e w2 ⟨rfl,hB2⟩
   have hB02:=hB1.trans (hB2.mono hB1.size)
   by_cases hz0:z=0
   ·subst hz0
    have HI3:Hid (errs l=errs (l.drop (k+1))):=(by
     show _=_
     rw[HI2.out,HZ.out]
     simp)
    clear HI2 HZ
    go_wp2
    exact⟨⟨k+1,by omega,by go_num,hB02,HI3⟩,by simp[intOf];omega⟩
   ·have hz1:(z != 0)=true:=by simpa using hz0
    have HE:Hid (r=z):=(by
     have h1:errs l=z:=by rw[HI2.out,HZ.out,if_pos hz0]
     show _=_
     rw[← HR.out]
     exact ZxX h1 hz0)
    clear HI2 HZ HR
    go_wp2
    go_ret
    exact⟨ret_int HE.out.symm,hB02⟩
  ·have HE0:Hid (errs l=0):=(by
    show _=_
    rw[HI.out,List.drop_of_length_le (by have:=HLL.out;omega)]
    rfl)
   have HE:Hid ((if ordB 0 0 l=true then (0:Int) else 121)=r):=(by
    show _=_
    rw[← HR.out]
    exact (ZxY HE0.out).symm)
   have hend:decide ((k:Int)<(p.length:Int))=false:=decide_eq_false (by omega)
   clear HI HR
   go_wp2
   go_loopw [6,7,26] (fun uv vv iv wr=>∃ (k:Nat) (u v:Int),k≤p.length∧uv=.int .i64 u∧vv=.int .i64 v∧iv=.int .i64 (k:Int)∧(-1≤u∧u≤8589934592)∧(-1≤v∧v≤8589934592)∧Below w.heap.size w wr∧Hid ((if ordB u v (l.drop k)=true then (0:Int) else 121)=r)) (fun _ _ iv _=>p.length-(intOf iv).toNat)
   case atStart=>exact⟨0,0,0,Nat.zero_le _,by go_num,by go_num,by go_num,by omega,by omega,hB,HE⟩
   case round =>
    obtain⟨k,u,v,hk,rfl,rfl,rfl,hu,hv',hB,HI⟩:=hrel
    by_cases hlt:k<p.length
    ·obtain⟨b,off,rfl,hb,_⟩:=hv.at (by omega)
     obtain⟨x,y,hxy⟩:∃ x y,p[k]=(x,y):=⟨_,_,rfl⟩
     obtain⟨⟨c0,c1,c2,c3,c4⟩,hm⟩:=hv.take hB k hlt hxy
     have hlk:l[k]'(by have:=HLL.out;omega)=x:=by
      have hz:l[k]?=some x:=by rw[← HL.out];simp[hlt,hxy]
      exact (List.getElem?_eq_some_iff.1 hz).2
     have hck:chkH x=0:=ZuP HE0.out x (by rw[← hlk];exact List.getElem_mem _)
     have hn:=ZtV hck
     obtain⟨X,hX⟩:∃ X,atA x=X:=⟨_,rfl⟩
     obtain⟨Y,hY⟩:∃ Y,atB x=Y:=⟨_,rfl⟩
     have ha:=Zti hck
     rw[hX,hY] at ha
     have HX:Hid ((if 0<x.AN then x.A-1 else x.A)=X):=hX
     have HY:Hid ((if 0<x.BN then x.B-1 else x.B)=Y):=hY
     obtain⟨yo,yc,rfl⟩:=hm.form
     have i1:0≤(k:Int):=by omega
     have i2:(k:Int)<(p.length:Int):=by omega
     have HI2:Hid ((if (decide (u≤X) && decide (X-u=Y-v) && ordB (X+x.AN) (Y+x.BN) (l.drop (k+1)))=true then (0:Int) else 121)=r):=(by
      show _=_
      have e:ordB u v (x::l.drop (k+1))=(decide (u≤X) && decide (X-u=Y-v) && ordB (X+x.AN) (Y+x.BN) (l.drop (k+1))):=by
       simp only[ordB]
       rw[hX,hY]
      rw[← HI.out,List.drop_eq_getElem_cons (l:=l) (i:=k) (by have:=HLL.out;omega),hlk,e])
     have hBx:Below wr.heap.size wr (wr.alloc (hkO x (.slice yo x.ls.length yc))):=(Below.refl _ wr).alloc (Nat.le_refl _) _
     have hB1:=hB.trans (hBx.mono hB.size)
     have hx1:=Hx.new wr x (.slice yo x.ls.length yc)
     have hW:wr.alloc (Obj.cells #[Value.int IntKind.i64 x.A,Value.int IntKind.i64 x.AN,Value.int IntKind.i64 x.B,Value.int IntKind.i64 x.BN,.slice yo x.ls.length yc] 45)=wr.alloc (hkO x (.slice yo x.ls.length yc)):=rfl
     clear HI hlk hck hxy hX hY HE
     generalize wr.alloc (hkO x (.slice yo x.ls.length yc))=w1 at *
     go_upto_region 12 with fail
     clear hW c0 c1 c2 c3 c4
     generalize hBX:wr.heap.size=BX at *
     have hxx:∀ u:World,Low w1 u→Hx u BX x (.slice yo x.ls.length yc):=fun u hu=>hx1.low hu
     have hlow:Low w1 (w1.drewN 1):=Below.dN (Below.refl _ w1) 1
     refine wp_region_noPanic ?_
     refine wp_region_held_drew (S:=fun u=>Low w1 u) (by kernel_rfl) hlow (fun hHeld=>?_)
     refine Y_t 0 30 _ (.pointer (some ⟨BX,0,none⟩)) rfl (Or.inl ⟨by kernel_rfl,fun u hu=>by kernel_rfl⟩) hHeld ?_
     simp only[Act.put,Y_a,Y_b,Y_c]
     refine Y_t 1 31 _ (.int .i64 x.A) rfl (Or.inl ⟨by kernel_rfl,fun u hu=>Zon (hxx u hu).cells.1 (.tmp 30) (by kernel_rfl) (by kernel_rfl)⟩) hHeld ?_
     simp only[Act.put,Y_a,Y_b,Y_c]
     refine Y_t 2 32 _ (.pointer (some ⟨BX,1,none⟩)) rfl (Or.inl ⟨by kernel_rfl,fun u hu=>by kernel_rfl⟩) hHeld ?_
     simp only[Act.put,Y_a,Y_b,Y_c]
     refine Y_t 3 33 _ (.int .i64 x.AN) rfl (Or.inl ⟨by kernel_rfl,fun u hu=>Zon (hxx u hu).cells.2.1 (.tmp 32) (by kernel_rfl) (by kernel_rfl)⟩) hHeld ?_
     simp only[Act.put,Y_a,Y_b,Y_c]
     refine Y_t 5 35 _ (.pointer (some ⟨BX,2,none⟩)) rfl (Or.inl ⟨by kernel_rfl,fun u hu=>by kernel_rfl⟩) hHeld ?_
     simp only[Act.put,Y_a,Y_b,Y_c]
     refine Y_t 6 36 _ (.int .i64 x.B) rfl (Or.inl ⟨by kernel_rfl,fun u hu=>Zon (hxx u hu).cells.2.2.1 (.tmp 35) (by kernel_rfl) (by kernel_rfl)⟩) hHeld ?_
     simp only[Act.put,Y_a,Y_b,Y_c]
     refine Y_t 7 37 _ (.pointer (some ⟨BX,3,none⟩)) rfl (Or.inl ⟨by kernel_rfl,fun u hu=>by kernel_rfl⟩) hHeld ?_
     simp only[Act.put,Y_a,Y_b,Y_c]
     refine Y_t 8 38 _ (.int .i64 x.BN) rfl (Or.inl ⟨by kernel_rfl,fun u hu=>Zon (hxx u hu).cells.2.2.2.1 (.tmp 37) (by kernel_rfl) (by kernel_rfl)⟩) hHeld ?_
     simp only[Act.put,Y_a,Y_b,Y_c]
     refine ZdD 4 34 _ rfl (by kernel_rfl) (by kernel_rfl) (by kernel_rfl) 271 #[.tmp 31,.tmp 33] #[3,3] (by kernel_rfl) #[.int .i64 x.A,.int .i64 x.AN] (by kernel_rfl) (enters_of Tryz.func271 (by kernel_rfl) rfl) (.int .i64 X) ((Zwg x.A x.AN _ (by omega) (by omega) X HX).mono (fun _ _ h=>⟨h.1,by rw[h.2];exact hHeld⟩)) ?_
     intro w1 hHeld
     simp only[Act.put,Y_a,Y_b,Y_c]
     refine ZdD 9 39 _ rfl (by kernel_rfl) (by kernel_rfl) (by kernel_rfl) 271 #[.tmp 36,.tmp 38] #[3,3] (by kernel_rfl) #[.int .i64 x.B,.int .i64 x.BN] (by kernel_rfl) (enters_of Tryz.func271 (by kernel_rfl) rfl) (.int .i64 Y) ((Zwg x.B x.BN _ (by omega) (by omega) Y HY).mono (fun _ _ h=>⟨h.1,by rw[h.2];exact hHeld⟩)) ?_
     intro w2 hHeld
     simp only[Act.put,Y_a,Y_b,Y_c]
     refine Y_t 10 10 _ (.int .i64 X) rfl (Or.inl ⟨by kernel_rfl,fun u hu=>by kernel_rfl⟩) hHeld ?_
     simp only[Act.put,Y_a,Y_b,Y_c]
     refine Y_t 11 11 _ (.int .i64 Y) rfl (Or.inl ⟨by kernel_rfl,fun u hu=>by kernel_rfl⟩) hHeld ?_
     simp only[Act.put,Y_a,Y_b,Y_c]
     refine wpAnyH_done (by kernel_rfl) ?_ _
     refine NoPanic.normal ?_
     obtain⟨d0,d1,d2,d3,d4⟩:=(hxx w2 hHeld).cells
     have hB01:=hB1.trans (Below.mono hHeld hB1.size)
     generalize w2=w4 at *
     by_cases h1:X<u
     ·have HE3:Hid (r=121):=(by
       show _=_
       rw[← HI2.out]
       simp[show ¬ u≤X by omega])
      clear HI2 HX HY
      go_wp2
      go_ret
      exact⟨ret_int HE3.out.symm,hB01⟩
     ·have h1':decide (X<u)=false:=decide_eq_false h1
      by_cases h2:X-u=Y-v
      ·have h2':(X-u != Y-v)=false:=by simpa using h2
       have HI3:Hid ((if ordB (X+x.AN) (Y+x.BN) (l.drop (k+1))=true then (0:Int) else 121)=r):=(by
        show _=_
        rw[← HI2.out]
        simp[show u≤X by omega,h2])
       clear HI2 HX HY h2
       go_upto_region 15 with fail
       go_quiet (fail)
       go_wp2
       exact⟨⟨k+1,X+x.AN,Y+x.BN,by omega,by go_num,by go_num,by go_num,by omega,by omega,Below.dN hB01 _,HI3⟩,by simp[intOf];omega⟩
      ·have h2':(X-u != Y-v)=true:=by simpa using h2
       have HE3:Hid (r=121):=(by
        show _=_
        rw[← HI2.out]
        simp[h2])
       clear HI2 HX HY h2
       go_wp2
       go_ret
       exact⟨ret_int HE3.out.symm,hB01⟩
    ·have HE3:Hid (r=0):=(by
      show _=_
      rw[← HI.out,List.drop_of_length_le (by have:=HLL.out;omega)]
      rfl)
     have hend2:decide ((k:Int)<(p.length:Int))=false:=decide_eq_false (by omega)
     clear HI HE
     go_wp2
     go_ret
     exact⟨ret_int HE3.out.symm,hB⟩
end

section
open Go.RowKit
theorem ZsW {a b n:Int} {r:List Ch} (h:Afar a b r):Afar (a+n) (b+n) r:=by
 cases r with
 | nil=>trivial
 | cons c r=>simp only[Afar] at h ⊢;omega
theorem ZsY {u v X Y:Int} {r:List Ch} (h:Afar u v r) (hx:X-u=Y-v):Afar X Y r:=by
 cases r with
 | nil=>trivial
 | cons c r=>simp only[Afar] at h ⊢;omega
theorem ZtT {h:Hk} (hc:chkH h=0):allB h.ls=true∧((pkL 43 h.ls).length:Int)=h.AN∧((pkL 45 h.ls).length:Int)=h.BN:=by
 have hr:rngB h=true:=by
  cases hq:rngB h with
  | true=>rfl
  | false=>rw[ZtY hq] at hc;cases hc
 have hf:fldB h.ls=true:=by
  cases hq:fldB h.ls with
  | true=>rfl
  | false=>rw[ZtR hr hq] at hc;cases hc
 refine⟨?_,?_,?_⟩
 ·have:=ZuZ h.ls
  rw[hf] at this
  simp only[Bool.true_eq,Bool.and_eq_true] at this
  exact this.1.1
 ·by_cases hq:h.AN≠(oldL h).length
  ·rw[ZtP hr hf (.inl hq)] at hc;cases hc
  ·simp only[ne_eq,Decidable.not_not] at hq;exact hq.symm
 ·by_cases hq:h.BN≠(newL h).length
  ·rw[ZtP hr hf (.inr hq)] at hc;cases hc
  ·simp only[ne_eq,Decidable.not_not] at hq;exact hq.symm
theorem Zyu {l:List Mk} {j:Nat} (hj:j<l.length) {sg:Int} {tx:List UInt8} (hm:l[j]=⟨sg,tx⟩) (no:Int):((pkL no (l.drop j)).length:Int)=(if sg≠no∧okS sg=true then 1 else 0)+((pkL no (l.drop (j+1))).length:Int):=by
 rw[List.drop_eq_getElem_cons hj,hm]
 simp only[pkL]
 split<;>simp<;>omega
theorem all_at {l:List Mk} (h:allB l=true) {j:Nat} (hj:j<l.length) {sg:Int} {tx:List UInt8} (hm:l[j]=⟨sg,tx⟩):sg=32∨sg=45∨sg=43:=by
 have:=List.all_eq_true.1 h l[j] (List.getElem_mem hj)
 rw[hm] at this
 simp only[okS,Bool.or_eq_true,decide_eq_true_eq] at this
 omega
theorem Zvy (p:List (Hk × Value)) (v:Value) (w:World) (hv:HHp w v p) (hok:HOk p) (ht:tot (p.map (·.1))≤1099511627776) (z:Int) (HZ:Hid (ordH (p.map (·.1))=z)) (R:List Ch) (HR:Hid (chR (p.map (·.1))=R)):Calls Tryz.prog 222 #[v] w fun e w'=>∃ v',e=.returned (.tuple #[v',.int .i64 z])∧HCh w' v' R∧Below w.heap.size w w':=by
 obtain⟨vo,vc,rfl⟩:=Holds.form hv.row
 have hpl:p.length≤1099511627776:=hok.1
 have HOK:Hid (HOk p):=hok
 obtain⟨l,hl⟩:∃ l,p.map (·.1)=l:=⟨_,rfl⟩
 have hll:p.length=l.length:=by rw[← hl];simp
 have HL:Hid (p.map (·.1)=l):=hl
 have HLL:Hid (p.length=l.length):=hll
 have hZ2:Hid (ordH (p.map (·.1))=z):=HZ
 rw[hl] at HR HZ ht
 clear hl hll hok
 go_enter Tryz.func222,Tryz.ntmps222
 go_wp2_with fail
 refine (ZvJ p _ w hv HOK.out z hZ2).mono ?_
 rintro e W ⟨rfl,hBW⟩
 by_cases hz:z=0
 ·subst hz
  have HR2:Hid ((chHs [] l).reverse=R):=(by
   show _=_
   rw[← HR.out]
   unfold chR
   rw[if_pos HZ.out])
  have he0:errs l=0:=(by
   have h:=HZ.out
   unfold ordH at h
   by_cases hq:errs l=0
   ·exact hq
   ·rw[if_pos hq] at h
    exact h)
  have HCK:Hid (∀ x∈l,chkH x=0):=ZuP he0
  have HOB:Hid (ordB 0 0 l=true∧Afar 0 0 []):=(by
   have h:=HZ.out
   rw[ZxY he0] at h
   refine⟨?_,trivial⟩
   by_cases hq:ordB 0 0 l=true
   ·exact hq
   ·rw[if_neg hq] at h
    cases h)
  have hS0:Sc W (.slice none 0 0) [] (W.alloc (.cells #[.slice none 0 0] 93)):=⟨(Below.refl _ W).alloc (Nat.le_refl _) _,_root_.Go.heap_alloc_new W _,Zen _ _ _ _⟩
  clear HR HZ hZ2 he0
  go_wp2
  generalize W.alloc (Obj.cells #[.slice none 0 0] 93)=W1 at *
  go_loopw [21] (fun iv wr=>∃ (k:Nat) (r:List Ch) (u v:Int) (ov:Value),k≤p.length∧iv=.int .i64 (k:Int)∧r.length+tot (l.drop k)≤1099511627776∧Hid (Hhd r)∧Sc W ov r wr∧Hid (ordB u v (l.drop k)=true∧Afar u v r)∧Hid ((chHs r (l.drop k)).reverse=R)) (fun iv _=>p.length-(intOf iv).toNat)
  case atStart=>exact⟨0,[],0,0,_,Nat.zero_le _,by go_num,by simpa using ht,trivial,hS0,HOB,HR2⟩
  case round =>
   obtain⟨k,r,u,v,ov,hk,rfl,hrt,HHD,hS,HUV,HI⟩:=hrel
   clear HR2 HOB hS0
   have hB:=hBW.trans (hS.low.mono hBW.size)
   by_cases hlt:k<p.length
   ·obtain⟨b,off,rfl,hb,_⟩:=hv.at (by omega)
    obtain⟨x,y,hxy⟩:∃ x y,p[k]=(x,y):=⟨_,_,rfl⟩
    obtain⟨⟨c0,c1,c2,c3,c4⟩,hm⟩:=hv.take hB k hlt hxy
    have hbd:=(HOK.out.2 _ (List.getElem_mem hlt)).1
    rw[hxy] at hbd
    have hlk:l[k]'(by have:=HLL.out;omega)=x:=by
     have hz:l[k]?=some x:=by rw[← HL.out];simp[hlt,hxy]
     exact (List.getElem?_eq_some_iff.1 hz).2
    have hck:chkH x=0:=HCK.out x (by rw[← hlk];exact List.getElem_mem _)
    have hdr:l.drop k=x::l.drop (k+1):=by rw[List.drop_eq_getElem_cons (l:=l) (i:=k) (by have:=HLL.out;omega),hlk]
    have hn:=ZtV hck
    have HCL:Hid (allB x.ls=true∧((pkL 43 x.ls).length:Int)=x.AN∧((pkL 45 x.ls).length:Int)=x.BN):=ZtT hck
    obtain⟨X,hX⟩:∃ X,atA x=X:=⟨_,rfl⟩
    obtain⟨Y,hY⟩:∃ Y,atB x=Y:=⟨_,rfl⟩
    have ha:=Zti hck
    rw[hX,hY] at ha
    have HX:Hid ((if 0<x.AN then x.A-1 else x.A)=X):=hX
    have HY:Hid ((if 0<x.BN then x.B-1 else x.B)=Y):=hY
    have HUV2:Hid (ordB (X+x.AN) (Y+x.BN) (l.drop (k+1))=true∧Afar X Y r):=(by
     obtain⟨h1,h2⟩:=HUV.out
     rw[hdr] at h1
     simp only[ordB,Bool.and_eq_true,decide_eq_true_eq] at h1
     rw[hX,hY] at h1
     exact⟨h1.2,ZsY h2 h1.1.2⟩)
    have HI2:Hid ((chHs (chLs X Y r x.ls) (l.drop (k+1))).reverse=R):=(by
     show _=_
     rw[← HI.out,hdr]
     simp only[chHs]
     rw[hX,hY])
    have hrt2:r.length+x.ls.length+tot (l.drop (k+1))≤1099511627776:=by
     rw[hdr] at hrt
     simp only[tot] at hrt
     omega
    obtain⟨yo,yc,rfl⟩:=hm.form
    have i1:0≤(k:Int):=by omega
    have i2:(k:Int)<(p.length:Int):=by omega
    obtain⟨T,hT⟩:∃ T,tot (l.drop (k+1))=T:=⟨_,rfl⟩
    rw[hT] at hrt2
    have HT:Hid (tot (l.drop (k+1))=T):=hT
    dsimp only at hbd
    have hBx:Below wr.heap.size wr (wr.alloc (hkO x (.slice yo x.ls.length yc))):=(Below.refl _ wr).alloc (Nat.le_refl _) _
    have hx1:=Hx.new wr x (.slice yo x.ls.length yc)
    have hS1:=hS.alloc (hkO x (.slice yo x.ls.length yc))
    have hW:wr.alloc (Obj.cells #[Value.int IntKind.i64 x.A,Value.int IntKind.i64 x.AN,Value.int IntKind.i64 x.B,Value.int IntKind.i64 x.BN,.slice yo x.ls.length yc] 45)=wr.alloc (hkO x (.slice yo x.ls.length yc)):=rfl
    clear HI hlk hck hX hY hdr hrt hT HUV hS hm
    generalize wr.alloc (hkO x (.slice yo x.ls.length yc))=w1 at *
    go_upto_region 9 with fail
    clear hW c0 c1 c2 c3 c4
    generalize hBX:wr.heap.size=BX at *
    have hxx:∀ u:World,Low w1 u→Hx u BX x (.slice yo x.ls.length yc):=fun u hu=>hx1.low hu
    have hlow:Low w1 (w1.drewN 1):=Below.dN (Below.refl _ w1) 1
    refine wp_region_noPanic ?_
    refine wp_region_held_drew (S:=fun u=>Low w1 u) (by kernel_rfl) hlow (fun hHeld=>?_)
    refine Y_t 0 25 _ (.pointer (some ⟨BX,0,none⟩)) rfl (Or.inl ⟨by kernel_rfl,fun u hu=>by kernel_rfl⟩) hHeld ?_
    simp only[Act.put,Y_a,Y_b,Y_c]
    refine Y_t 1 26 _ (.int .i64 x.A) rfl (Or.inl ⟨by kernel_rfl,fun u hu=>Zon (hxx u hu).cells.1 (.tmp 25) (by kernel_rfl) (by kernel_rfl)⟩) hHeld ?_
    simp only[Act.put,Y_a,Y_b,Y_c]
    refine Y_t 2 27 _ (.pointer (some ⟨BX,1,none⟩)) rfl (Or.inl ⟨by kernel_rfl,fun u hu=>by kernel_rfl⟩) hHeld ?_
    simp only[Act.put,Y_a,Y_b,Y_c]
    refine Y_t 3 28 _ (.int .i64 x.AN) rfl (Or.inl ⟨by kernel_rfl,fun u hu=>Zon (hxx u hu).cells.2.1 (.tmp 27) (by kernel_rfl) (by kernel_rfl)⟩) hHeld ?_
    simp only[Act.put,Y_a,Y_b,Y_c]
    refine Y_t 5 30 _ (.pointer (some ⟨BX,2,none⟩)) rfl (Or.inl ⟨by kernel_rfl,fun u hu=>by kernel_rfl⟩) hHeld ?_
    simp only[Act.put,Y_a,Y_b,Y_c]
    refine Y_t 6 31 _ (.int .i64 x.B) rfl (Or.inl ⟨by kernel_rfl,fun u hu=>Zon (hxx u hu).cells.2.2.1 (.tmp 30) (by kernel_rfl) (by kernel_rfl)⟩) hHeld ?_
    simp only[Act.put,Y_a,Y_b,Y_c]
    refine Y_t 7 32 _ (.pointer (some ⟨BX,3,none⟩)) rfl (Or.inl ⟨by kernel_rfl,fun u hu=>by kernel_rfl⟩) hHeld ?_
    simp only[Act.put,Y_a,Y_b,Y_c]
    refine Y_t 8 33 _ (.int .i64 x.BN) rfl (Or.inl ⟨by kernel_rfl,fun u hu=>Zon (hxx u hu).cells.2.2.2.1 (.tmp 32) (by kernel_rfl) (by kernel_rfl)⟩) hHeld ?_
    simp only[Act.put,Y_a,Y_b,Y_c]
    refine ZdD 4 29 _ rfl (by kernel_rfl) (by kernel_rfl) (by kernel_rfl) 271 #[.tmp 26,.tmp 28] #[3,3] (by kernel_rfl) #[.int .i64 x.A,.int .i64 x.AN] (by kernel_rfl) (enters_of Tryz.func271 (by kernel_rfl) rfl) (.int .i64 X) ((Zwg x.A x.AN _ (by omega) (by omega) X HX).mono (fun _ _ h=>⟨h.1,by rw[h.2];exact hHeld⟩)) ?_
    intro w1 hHeld
    simp only[Act.put,Y_a,Y_b,Y_c]
    refine ZdD 9 34 _ rfl (by kernel_rfl) (by kernel_rfl) (by kernel_rfl) 271 #[.tmp 31,.tmp 33] #[3,3] (by kernel_rfl) #[.int .i64 x.B,.int .i64 x.BN] (by kernel_rfl) (enters_of Tryz.func271 (by kernel_rfl) rfl) (.int .i64 Y) ((Zwg x.B x.BN _ (by omega) (by omega) Y HY).mono (fun _ _ h=>⟨h.1,by rw[h.2];exact hHeld⟩)) ?_
    intro w2 hHeld
    simp only[Act.put,Y_a,Y_b,Y_c]
    refine Y_t 10 9 _ (.int .i64 X) rfl (Or.inl ⟨by kernel_rfl,fun u hu=>by kernel_rfl⟩) hHeld ?_
    simp only[Act.put,Y_a,Y_b,Y_c]
    refine Y_t 11 10 _ (.int .i64 Y) rfl (Or.inl ⟨by kernel_rfl,fun u hu=>by kernel_rfl⟩) hHeld ?_
    simp only[Act.put,Y_a,Y_b,Y_c]
    refine wpAnyH_done (by kernel_rfl) ?_ _
    refine NoPanic.normal ?_
    obtain⟨d0,d1,d2,d3,d4⟩:=(hxx w2 hHeld).cells
    have hS2:=hS1.keep hHeld
    generalize w2=w4 at *
    clear hS1 HX HY hB
    go_wp2
    clear d0 d1 d2 d3 d4
    go_loopw [9,10,38] (fun av bv jv wr=>∃ (j:Nat) (a b:Int) (r:List Ch) (ov:Value),j≤x.ls.length∧av=.int .i64 a∧bv=.int .i64 b∧jv=.int .i64 (j:Int)∧(-1≤a∧a≤2147483647+(j:Int))∧(-1≤b∧b≤2147483647+(j:Int))∧r.length+(x.ls.length-j)+T≤1099511627776∧Hid (Hhd r)∧Sc W ov r wr∧Hid (Afar a b r)∧Hid (a+((pkL 43 (x.ls.drop j)).length:Int)=X+x.AN∧b+((pkL 45 (x.ls.drop j)).length:Int)=Y+x.BN)∧Hid ((chHs (chLs a b r (x.ls.drop j)) (l.drop (k+1))).reverse=R)) (fun _ _ jv _=>x.ls.length-(intOf jv).toNat)
    case atStart=>exact⟨0,X,Y,r,ov,Nat.zero_le _,by go_num,by go_num,by go_num,by omega,by omega,by omega,HHD,hS2,HUV2.out.2,⟨by rw[List.drop_zero,HCL.out.2.1],by rw[List.drop_zero,HCL.out.2.2]⟩,HI2⟩
    case round =>
     obtain⟨j,a,bb,r,ov,hj,rfl,rfl,rfl,hab,hbb,hrt,HHD,hS,HAL,HPK,HI⟩:=hrel
     clear HI2 hrt2 hS2
     have hB:=hBW.trans (hS.low.mono hBW.size)
     have hmr:=(hv.take hB k hlt hxy).2
     by_cases hjl:j<x.ls.length
     ·obtain⟨mb,mo,rfl,_,hmc⟩:=HMk.at hmr (by omega)
      obtain⟨m,hmj⟩:∃ m,x.ls[j]=m:=⟨_,rfl⟩
      obtain⟨c0,c1⟩:=hmc j hjl
      rw[hmj] at c0 c1
      obtain⟨sg,tx⟩:=m
      dsimp only at c0 c1
      have hsg:=all_at HCL.out.1 hjl hmj
      have HP1:=Zyu hjl hmj 43
      have HP2:=Zyu hjl hmj 45
      have HPK2:Hid (a+((if sg≠43∧okS sg=true then 1 else 0)+((pkL 43 (x.ls.drop (j+1))).length:Int))=X+x.AN∧bb+((if sg≠45∧okS sg=true then 1 else 0)+((pkL 45 (x.ls.drop (j+1))).length:Int))=Y+x.BN):=(by
       have h:=HPK.out
       rw[HP1,HP2] at h
       exact h)
      have HI3:Hid ((chHs (if sg=32 then chLs (a+1) (bb+1) r (x.ls.drop (j+1)) else if sg=45 then chLs (a+1) bb (bmA (opn a bb r)) (x.ls.drop (j+1)) else chLs a (bb+1) (bmB (opn a bb r)) (x.ls.drop (j+1))) (l.drop (k+1))).reverse=R):=(by
       show _=_
       rw[← HI.out,List.drop_eq_getElem_cons hjl,hmj]
       rfl)
      have j1:0≤(j:Int):=by omega
      have j2:(j:Int)<(x.ls.length:Int):=by omega
      obtain⟨m0,m1⟩:=(Mx.new wr ⟨sg,tx⟩).cells
      have hSm:=hS.alloc (mkO ⟨sg,tx⟩)
      have hW:wr.alloc (Obj.cells #[Value.int IntKind.u8 sg,Value.string ⟨tx.toArray⟩] 47)=wr.alloc (mkO ⟨sg,tx⟩):=rfl
      dsimp only at m0 m1
      clear HI hmj hmc hmr HP1 HP2 HPK hS
      generalize wr.alloc (mkO ⟨sg,tx⟩)=wm at *
      rcases hsg with rfl | rfl | rfl
      ·have HI4:Hid ((chHs (chLs (a+1) (bb+1) r (x.ls.drop (j+1))) (l.drop (k+1))).reverse=R):=(by
        have h:=HI3.out
        rw[if_pos rfl] at h
        exact h)
       have HPK3:Hid (a+1+((pkL 43 (x.ls.drop (j+1))).length:Int)=X+x.AN∧bb+1+((pkL 45 (x.ls.drop (j+1))).length:Int)=Y+x.BN):=(by
        have h:=HPK2.out
        rw[if_pos (by decide),if_pos (by decide)] at h
        refine⟨?_,?_⟩<;>omega)
       clear HI3 HPK2
       go_wp2
       exact⟨⟨j+1,_,_,r,ov,by omega,by go_num,by go_num,by go_num,by omega,by omega,by omega,HHD,hSm,ZsW HAL.out,HPK3,HI4⟩,by simp[intOf];omega⟩
      ·obtain⟨c,t,hop,hcA,hcB⟩:=ZxV a bb r
       have HOP:Hid (opn a bb r=c::t):=hop
       have hd:(-1≤c.A∧0≤c.AN)∧-1≤c.B∧0≤c.BN:=(by
        have h1:=HHD.out
        unfold opn at hop
        by_cases hq:endsAt a bb r=true
        ·rw[if_pos hq] at hop
         rw[hop] at h1
         simp only[Hhd] at h1
         omega
        ·rw[if_neg hq] at hop
         cases hop
         dsimp only
         omega)
       have hlen:t.length≤r.length:=(by
        unfold opn at hop
        by_cases hq:endsAt a bb r=true
        ·rw[if_pos hq] at hop
         rw[hop]
         simp
        ·rw[if_neg hq] at hop
         cases hop
         exact Nat.le_refl _)
       obtain⟨cA,cAN,cB,cBN⟩:=c
       dsimp only at hd hcA hcB
       have HI4:Hid ((chHs (chLs (a+1) (bb) (⟨cA,cAN+1,cB,cBN⟩::t) (x.ls.drop (j+1))) (l.drop (k+1))).reverse=R):=(by
        have h:=HI3.out
        rw[if_neg (by decide),if_pos rfl,hop] at h
        exact h)
       have HPK3:Hid (a+1+((pkL 43 (x.ls.drop (j+1))).length:Int)=X+x.AN∧bb+((pkL 45 (x.ls.drop (j+1))).length:Int)=Y+x.BN):=(by
        have h:=HPK2.out
        rw[if_pos (by decide),if_neg (by decide)] at h
        refine⟨?_,?_⟩<;>omega)
       have HCC:Hid (cA+cAN=a∧cB+cBN=bb):=⟨hcA,hcB⟩
       clear HI3 HPK2 hop hcA hcB
       go_wp2_with fail
       refine (Zvx a bb W wm ov r t ⟨cA,cAN,cB,cBN⟩ hSm (by omega) (by omega) (by omega) HHD HAL HOP).mono ?_
       rintro e wz ⟨g,oc,rfl,hS3⟩
       obtain⟨q0,q1,q2,q3⟩:=Ztm ⟨cA,cAN,cB,cBN⟩ t
       have hown:=hS3.own
       rw[List.length_cons] at hown
       have d1:=(hown.cellAt (t.length * 4+1) (by omega)).trans q1
       have f1:=hown.frozenAt (t.length * 4+1)
       have hst:=hown.stored (t.length * 4+1) (.int .i64 (cAN+1))
       rw[Ztp] at hst
       have hS4:=hS3.put (g:=g) rfl hst.1 hst.2
       dsimp only at d1
       have hcc:=HCC.out
       clear q0 q1 q2 q3 hst hown HOP hS3 HCC
       go_wp2
       exact⟨⟨j+1,_,_,⟨cA,cAN+1,cB,cBN⟩::t,_,by omega,by go_num,by go_num,by go_num,by omega,by omega,by simp only[List.length_cons];omega,by simp only[Hhd];show _∧_;omega,hS4,by show _=_;dsimp only;omega,HPK3,HI4⟩,by simp[intOf];omega⟩
      ·obtain⟨c,t,hop,hcA,hcB⟩:=ZxV a bb r
       have HOP:Hid (opn a bb r=c::t):=hop
       have hd:(-1≤c.A∧0≤c.AN)∧-1≤c.B∧0≤c.BN:=(by
        have h1:=HHD.out
        unfold opn at hop
        by_cases hq:endsAt a bb r=true
        ·rw[if_pos hq] at hop
         rw[hop] at h1
         simp only[Hhd] at h1
         omega
        ·rw[if_neg hq] at hop
         cases hop
         dsimp only
         omega)
       have hlen:t.length≤r.length:=(by
        unfold opn at hop
        by_cases hq:endsAt a bb r=true
        ·rw[if_pos hq] at hop
         rw[hop]
         simp
        ·rw[if_neg hq] at hop
         cases hop
         exact Nat.le_refl _)
       obtain⟨cA,cAN,cB,cBN⟩:=c
       dsimp only at hd hcA hcB
       have HI4:Hid ((chHs (chLs (a) (bb+1) (⟨cA,cAN,cB,cBN+1⟩::t) (x.ls.drop (j+1))) (l.drop (k+1))).reverse=R):=(by
        have h:=HI3.out
        rw[if_neg (by decide),if_neg (by decide),hop] at h
        exact h)
       have HPK3:Hid (a+((pkL 43 (x.ls.drop (j+1))).length:Int)=X+x.AN∧bb+1+((pkL 45 (x.ls.drop (j+1))).length:Int)=Y+x.BN):=(by
        have h:=HPK2.out
        rw[if_neg (by decide),if_pos (by decide)] at h
        refine⟨?_,?_⟩<;>omega)
       have HCC:Hid (cA+cAN=a∧cB+cBN=bb):=⟨hcA,hcB⟩
       clear HI3 HPK2 hop hcA hcB
       go_wp2_with fail
       refine (Zvx a bb W wm ov r t ⟨cA,cAN,cB,cBN⟩ hSm (by omega) (by omega) (by omega) HHD HAL HOP).mono ?_
       rintro e wz ⟨g,oc,rfl,hS3⟩
       obtain⟨q0,q1,q2,q3⟩:=Ztm ⟨cA,cAN,cB,cBN⟩ t
       have hown:=hS3.own
       rw[List.length_cons] at hown
       have d1:=(hown.cellAt (t.length * 4+3) (by omega)).trans q3
       have f1:=hown.frozenAt (t.length * 4+3)
       have hst:=hown.stored (t.length * 4+3) (.int .i64 (cBN+1))
       rw[Ztq] at hst
       have hS4:=hS3.put (g:=g) rfl hst.1 hst.2
       dsimp only at d1
       have hcc:=HCC.out
       clear q0 q1 q2 q3 hst hown HOP hS3 HCC
       go_wp2
       exact⟨⟨j+1,_,_,⟨cA,cAN,cB,cBN+1⟩::t,_,by omega,by go_num,by go_num,by go_num,by omega,by omega,by simp only[List.length_cons];omega,by simp only[Hhd];show _∧_;omega,hS4,by show _=_;dsimp only;omega,HPK3,HI4⟩,by simp[intOf];omega⟩
     ·have HI3:Hid ((chHs r (l.drop (k+1))).reverse=R):=(by
       have h:=HI.out
       rw[List.drop_of_length_le (by omega)] at h
       exact h)
      have HUV3:Hid (ordB (X+x.AN) (Y+x.BN) (l.drop (k+1))=true∧Afar (X+x.AN) (Y+x.BN) r):=(by
       have h:=HPK.out
       rw[List.drop_of_length_le (by omega)] at h
       simp[pkL] at h
       refine⟨HUV2.out.1,?_⟩
       rw[← h.1,← h.2]
       exact HAL.out)
      have hend:decide ((j:Int)<(x.ls.length:Int))=false:=decide_eq_false (by omega)
      clear HI HPK HAL
      go_wp2
      exact⟨⟨k+1,r,_,_,ov,by omega,by go_num,by have:=HT.out;omega,HHD,hS,HUV3,HI3⟩,by simp[intOf];omega⟩
   ·have HI3:Hid (r.reverse=R):=(by
     have h:=HI.out
     rw[List.drop_of_length_le (by have:=HLL.out;omega)] at h
     exact h)
    have hend:decide ((k:Int)<(p.length:Int))=false:=decide_eq_false (by omega)
    obtain⟨oo,oc,rfl⟩:=hS.form
    have hbx:=hS.cell
    clear HI
    go_wp2
    go_ret2
    refine⟨_,rfl,?_,hB⟩
    have h:=Zeo hS.own
    rw[← HI3.out]
    unfold HCh
    rw[List.length_reverse]
    exact h
 ·have hz1:(z != 0)=true:=by simpa using hz
  obtain rfl:R=[]:=by
   rw[← HR.out]
   unfold chR
   rw[if_neg (by rw[HZ.out];exact hz)]
  clear HR HZ hZ2 hz
  go_wp2
  go_ret2
  exact⟨_,rfl,Holds.nil _,hBW⟩
end

section
open Go.RowKit
structure Pzc (wb:World) (R S:Nat) (vL:Value) (n1 n2:List UInt8) (hv:Value) (P:List (Hk × Value)) (p:Nat) (u:World):Prop where
 gr:wb.grownBy u (some R)
 box:u.heap[S]?=some (.cells #[.string ⟨n1.toArray⟩,.string ⟨n2.toArray⟩,hv] 42)
 own:u.ownsRow wb.heap.size 45 5 hv P.length (hkcells P)
 ins:∀ x∈P,u.ownsRow wb.heap.size 47 2 x.2 x.1.ls.length (mkcells x.1.ls)
 ck:Ck u R vL (p:Int)
 ge:wb.heap.size≤S
 rl:R<wb.heap.size
section
variable {wb u u':World} {R S:Nat} {vL hv:Value} {n1 n2:List UInt8} {P:List (Hk × Value)} {p p':Nat}
theorem Pzc.keep (h:Pzc wb R S vL n1 n2 hv P p u) (hb:Below u.heap.size u u'):Pzc wb R S vL n1 n2 hv P p u':=⟨ZdT h.gr (ZfO hb _),(hb.block S (Array.getElem?_eq_some_iff.1 h.box).1).trans h.box,ZhK h.own hb,fun x hx=>ZhK (h.ins x hx) hb,h.ck.low hb,h.ge,h.rl⟩
theorem Pzc.ne (h:Pzc wb R S vL n1 n2 hv P p u):R≠S:=by have h1:=h.ge;have h2:=h.rl;omega
theorem Pzc.call (h:Pzc wb R S vL n1 n2 hv P p u) (hg:u.grownBy u' (some R)) (q:Ck u' R vL (p':Int)):Pzc wb R S vL n1 n2 hv P p' u':=⟨ZdT h.gr hg,(hg.block S (Array.getElem?_eq_some_iff.1 h.box).1 (fun e=>h.ne (Option.some.inj e).symm)).trans h.box,ZhI h.own hg h.rl,fun x hx=>ZhI (h.ins x hx) hg h.rl,q,h.ge,h.rl⟩
theorem Pzc.next (h:Pzc wb R S vL n1 n2 hv P p u):Pzc wb R S vL n1 n2 hv P (p+1) (u.setCell ⟨R,1,none⟩ (.int .i64 ((p:Int)+1))):=h.call (ZdS u R 1 _) (by have:=h.ck.at ((p:Int)+1);simpa using this)
theorem Pzc.cells (h:Pzc wb R S vL n1 n2 hv P p u):u.cell? ⟨S,0,none⟩=some (.string ⟨n1.toArray⟩)∧u.cell? ⟨S,1,none⟩=some (.string ⟨n2.toArray⟩)∧u.cell? ⟨S,2,none⟩=some hv:=by
 refine⟨?_,?_,?_⟩<;>rw[Lib.cell_of_heap h.box]<;>rfl
theorem Pzc.frozen (h:Pzc wb R S vL n1 n2 hv P p u) (j:Nat):u.frozen? ⟨S,j,none⟩=false:=Lib.frozen_of_heap h.box j
theorem Pzc.put (h:Pzc wb R S vL n1 n2 hv P p u) (j:Nat) (z:Value) {m1 m2:List UInt8} {hv':Value} (hc:#[Value.string ⟨n1.toArray⟩,.string ⟨n2.toArray⟩,hv].setIfInBounds j z=#[.string ⟨m1.toArray⟩,.string ⟨m2.toArray⟩,hv']) (ho:u.ownsRow wb.heap.size 45 5 hv' P.length (hkcells P)):Pzc wb R S vL m1 m2 hv' P p (u.setCell ⟨S,j,none⟩ z):=by
 have hg:=ZdS u S j z
 refine⟨ZdR h.gr h.ge j z,?_,ho.kept hg (.inr (ZhE ho h.box (by decide))),fun x hx=>(h.ins x hx).kept hg (.inr (ZhE (h.ins x hx) h.box (by decide))),h.ck.keep hg (fun e=>h.ne (Option.some.inj e)),h.ge,h.rl⟩
 have:=heap_setCell_same u S j _ _ z h.box
 rw[hc] at this
 exact this
theorem Pzc.more (h:Pzc wb R S vL n1 n2 hv P p u) {x:Hk} {y hv':Value} (hy:u.ownsRow wb.heap.size 47 2 y x.ls.length (mkcells x.ls)) (hg:u.grownBy u' hv.ownBlock) (ho:u'.ownsRow wb.heap.size 45 5 hv' (P.length+1) (hkcells P++hkC x y)) :
  Pzc wb R S vL n1 n2 hv' (P++[(x,y)]) p (u'.setCell ⟨S,2,none⟩ hv')∧u'.cell? ⟨S,2,none⟩=some hv∧u'.frozen? ⟨S,2,none⟩=false:=by
 have hge:∀ j,hv.ownBlock=some j→wb.heap.size≤j:=fun j hj=>ZhJ h.own hj
 have hb:u'.heap[S]?=some (.cells #[.string ⟨n1.toArray⟩,.string ⟨n2.toArray⟩,hv] 42):=(hg.block S (Array.getElem?_eq_some_iff.1 h.box).1 (fun e=>ZhE h.own h.box (by decide) e.symm)).trans h.box
 have hgR:wb.grownBy u' (some R):=⟨hg.os.trans h.gr.os,hg.tape.trans h.gr.tape,hg.output.trans h.gr.output,Nat.le_trans h.gr.size hg.size,fun k h1 h2=>(hg.block k (Nat.lt_of_lt_of_le h1 h.gr.size) (fun e=>by have:=hge k e.symm;omega)).trans (h.gr.block k h1 h2)⟩
 have hck:Ck u' R vL (p:Int):=h.ck.keep hg (fun e=>by have:=hge R e.symm;have:=h.rl;omega)
 have key:∀ {v:Value} {n:Nat} {xs:List Value},u.ownsRow wb.heap.size 47 2 v n xs→u'.ownsRow wb.heap.size 47 2 v n xs:=by
  intro v n xs hv2
  refine⟨hv2.1,?_⟩
  rcases hv2.2 with q | ⟨b,cap,cur,rfl,q2,q3,q4⟩
  ·exact .inl q
  ·refine .inr ⟨b,cap,cur,rfl,q2,?_,q4⟩
   rw[hg.block b (Array.getElem?_eq_some_iff.1 q3).1 (fun e=>ZhE h.own q3 (by decide) e.symm)]
   exact q3
 have hg2:=ZdS u' S 2 hv'
 have hkc:hkcells (P++[(x,y)])=hkcells P++hkC x y:=by rw[Zeh];simp[hkcells,hkC]
 refine⟨⟨ZdR hgR h.ge 2 hv',heap_setCell_same u' S 2 _ _ hv' hb,?_,?_,hck.keep hg2 (fun e=>h.ne (Option.some.inj e)),h.ge,h.rl⟩,by rw[Lib.cell_of_heap hb];rfl,Lib.frozen_of_heap hb 2⟩
 ·rw[List.length_append,hkc]
  exact ho.kept hg2 (.inr (ZhE ho hb (by decide)))
 ·intro z hz
  rcases List.mem_append.1 hz with hz | hz
  ·exact (key (h.ins z hz)).kept hg2 (.inr (ZhE (key (h.ins z hz)) hb (by decide)))
  ·rw[List.mem_singleton.1 hz]
   exact (key hy).kept hg2 (.inr (ZhE (key hy) hb (by decide)))
end
end

section
open Go.RowKit
theorem ZaY {P:Program} {A:Act} {op:Oper} {w:World} {F:Nat} {x:Operand} {xs:Array Operand} {ts:Array TypeId} (ho:op.op=.call { callee:=.value x,args:=xs,argTypes:=ts }) {cap:Array Value} (hxv:A.eval x=.func (.func F) #[] cap) {args:Array Value} (hx:xs.map A.eval=args) (hen:∀ args w,(callFunc F args).run P w=.ok (.enter F args) w):(execOp A.eval op).run P w=.ok (.enter F (args++cap)) w:=by
 have h1:=hen (args++cap) w
 simp only[execOp,ho,resolve,invoke]
 simp only[hxv,Deferred.ofValue,Sem.run_bind,Sem.run_pure,Result.andThen_ok,hx,Array.empty_append]
 exact h1
theorem ZdF {P:Program} {S:World→Prop} {md:Region.Mode} {ops:Array Oper} {Q:Exit→Act→World→Prop} {fuel:Nat} {listed:Array Bool} {A:Act} {w:World}
  (i d:Nat) (op:Oper) (hi:ops[i]?=some op) (hd:op.dst=some d) (hr:Region.ready md ops listed=[i]) (hwt:Region.wanted op (yielded ops A.tmps)=true)
  (F:Nat) (x:Operand) (xs:Array Operand) (ts:Array TypeId) (ho:op.op=.call { callee:=.value x,args:=xs,argTypes:=ts })
  (cap:Array Value) (hxv:A.eval x=.func (.func F) #[] cap) (args:Array Value) (hx:xs.map A.eval=args) (hen:∀ args w,(callFunc F args).run P w=.ok (.enter F args) w) (R:Value→World→Prop) (Pn:List PanicEntry→World→Prop)
  (hp:∀ c w',Pn c w'→Q (.panic c) A w')
  (hc:Calls P F (args++cap) w fun e w'=>(∃ v,e=.returned v∧S w'∧R v w')∨(∃ c,e=.panicked c∧Pn c w'))
  (h:∀ v w',S w'→R v w'→wpAnyH P md ops Q S fuel (listed.setIfInBounds i true) (A.put (some d) v) w') :
  wpAnyH P md ops Q S (fuel+1) listed A w:=by
 refine wpAnyH_ready hr (by simp) (AllReadyH.cons hi (fun K hK=>?_) AllReadyH.nil)
 refine ZkF hwt ?_
 unfold Oper.wp
 rw[ZaY ho hxv hx hen,Oper.upon_enter]
 refine hc.mono ?_
 rintro e w' (⟨v,rfl,hb,hR⟩ | ⟨c,rfl,hpn⟩)
 ·exact hK.out _ _ hb (fun hu=>by rw[hd];exact h v w' hu hR)
 ·exact hp c w' hpn
theorem ZdM {P:Program} {S:World→Prop} {md:Region.Mode} {ops:Array Oper} {Q:Exit→Act→World→Prop} {fuel:Nat} {listed:Array Bool} {A:Act} {w:World}
  (j e:Nat) (oq:Oper) (i d:Nat) (op:Oper) (hj:ops[j]?=some oq) (he:oq.dst=some e) (hi:ops[i]?=some op) (hd:op.dst=some d) (hr:Region.ready md ops listed=[j,i]) (hwq:Region.wanted oq (yielded ops A.tmps)=true) (hwt:Region.wanted op (yielded ops A.tmps)=true)
  (vq:Value) (wq:World) (hq:(execOp A.eval oq).run P w=.ok (.value vq) wq) (hS:S wq)
  (F:Nat) (x:Operand) (xs:Array Operand) (ts:Array TypeId) (ho:op.op=.call { callee:=.value x,args:=xs,argTypes:=ts })
  (cap:Array Value) (hxv:A.eval x=.func (.func F) #[] cap) (args:Array Value) (hx:xs.map A.eval=args) (hen:∀ args w,(callFunc F args).run P w=.ok (.enter F args) w) (R:Value→World→Prop) (Pn:List PanicEntry→World→Prop)
  (hp:∀ c w',Pn c w'→Q (.panic c) A w')
  (hc:Calls P F (args++cap) w fun e w'=>(∃ v,e=.returned v∧S w'∧R v w')∨(∃ c,e=.panicked c∧Pn c w'))
  (h2:wpAnyH P md ops Q S fuel (listed.setIfInBounds j true) (A.put (some e) vq) wq)
  (h:∀ v w',S w'→R v w'→wpAnyH P md ops Q S fuel (listed.setIfInBounds i true) (A.put (some d) v) w') :
  wpAnyH P md ops Q S (fuel+1) listed A w:=by
 refine wpAnyH_ready hr (by simp) (AllReadyH.cons hj (fun K hK=>?_) (AllReadyH.cons hi (fun K hK=>?_) AllReadyH.nil))
 ·refine ZkF hwq ?_
  unfold Oper.wp
  rw[hq,Oper.upon_value]
  exact hK.out _ _ hS (fun _=>by rw[he];exact h2)
 ·refine ZkF hwt ?_
  unfold Oper.wp
  rw[ZaY ho hxv hx hen,Oper.upon_enter]
  refine hc.mono ?_
  rintro e w' (⟨v,rfl,hb,hR⟩ | ⟨c,rfl,hpn⟩)
  ·exact hK.out _ _ hb (fun hu=>by rw[hd];exact h v w' hu hR)
  ·exact hp c w' hpn
theorem ZfJ {u:World} {a:Addr} {o:Option Addr} {n c:Nat} (h:u.cell? a=some (.slice o n c)) {op:Oper} (x:Operand) (ho:op.op=.load 40 x) {ev:Operand→Value} (hx:ev x=.pointer (some a)) :
  (execOp ev op).run Tryz.prog u=.ok (.value (.slice o n c)) u:=by
 simp only[execOp,ho,hx]
 go_simp
theorem ZcZ {u:World} {a:Addr} {v0:Value} (hc:u.cell? a=some v0) (hf:u.frozen? a=false) {o:Option Addr} {n c:Nat} {op:Oper} (x y:Operand) (ho:op.op=.store 40 x y) {ev:Operand→Value} (hx:ev x=.pointer (some a)) (hy:ev y=.slice o n c) :
  (execOp ev op).run Tryz.prog u=.ok .skip (u.setCell a (.slice o n c)):=by
 simp only[execOp,ho,hx,hy]
 go_simp
def three (u:World) (Q:Nat) (n1 n2:List UInt8) (v:Value):World:=((u.setCell ⟨Q,0,none⟩ (.string ⟨n1.toArray⟩)).setCell ⟨Q,1,none⟩ (.string ⟨n2.toArray⟩)).setCell ⟨Q,2,none⟩ v
end

section
open Go.RowKit
def PanC (Q:Exit→Act→World→Prop) (Pn:List PanicEntry→World→Prop) (p2 p3:Value) (ds:List Deferred):Exit→Act→World→Prop
 | .panic c,a,w=>Pn c w∧a.tmps.getD 2 undef=p2∧a.tmps.getD 3 undef=p3∧a.defers=ds
 | .normal,a,w=>Q .normal a w
 | _,_,_=>False
theorem PanC.normal {Q:Exit→Act→World→Prop} {Pn:List PanicEntry→World→Prop} {p2 p3:Value} {ds:List Deferred} {a:Act} {w:World} (h:Q .normal a w):PanC Q Pn p2 p3 ds .normal a w:=h
end

end Go.Proofs.YtcniomgjikienaaGreatDoor
