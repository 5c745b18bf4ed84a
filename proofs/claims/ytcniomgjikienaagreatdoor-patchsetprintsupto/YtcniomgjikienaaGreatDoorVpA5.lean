/-
  Texts that belong together, joined: HuC8, HuC9, HuMk, HuCa, PaMath, MiMath, EdMk, MiLen, MiMs, MiFr, MiLc, MiRep, MiKp, MiKw, MiDf, MiKm, PcMath, HiMath, HiRuns, EdOpen, HiMp, PcSl, HiGr, HiCm, HiOd, HiBm, PaRow, PaCp.
-/
import Derived.Test.YtcniomgjikienaaGreatDoorVpA4
import Derived.Deep.CutRange
import Derived.Sort.AtCall
import Derived.Laws.CopyOwn
import Derived.Laws.Bits64b
import Derived.Test.YtcniomgjikienaaGreatDoorRows
import Derived.Test.YtcniomgjikienaaGreatDoorChecked
import Derived.ProofKit
import Derived.OpenShut
import Derived.ShutString
import Derived.ChangeOld
import Derived.Below
import Derived.SliceStrings
import Derived.ChangeSlices
import Derived.Deep.Slices
import Derived.Deep.SlicePairs
import Derived.JoinedCond
import Derived.Maps.OwnSet
import Derived.Carry
import Derived.Maps.OwnRows
import Derived.Maps.GroupsBeside
import Derived.Lib.Overlaps
import Derived.Lib.AppendZerosOnto

set_option maxHeartbeats 16000000
set_option maxRecDepth 100000
namespace Go.Proofs.YtcniomgjikienaaGreatDoor

section
open Go.RowKit
structure La (w:World) (q:Hk) (ov:Value) (u:World):Prop where
 low:Below w.heap.size w u
 box:Hx u w.heap.size q ov
 own:u.ownsRow (w.heap.size+1) 47 2 ov q.ls.length (mkcells q.ls)
def CK (u u':World):Prop:=∀ B c,Cx u B c→Cx u' B c
theorem Zuf (u:World):CK u u:=fun _ _ h=>h
theorem Zug {u u' u'':World} (h:CK u u') (h':CK u' u''):CK u u'':=fun B c q=>h' B c (h B c q)
theorem Zue {u u':World} (h:Below u.heap.size u u'):CK u u':=fun _ _ q=>q.low h
theorem ZcB {u:World} {b:Nat} {d:Ch} (h:Cx u b d) {B s n:Nat} {v:Value} {xs:List Value} (ho:u.ownsRow B 47 s v n xs):v.ownBlock≠some b:=by
 intro e
 rcases ho.2 with ⟨rfl,_⟩ | ⟨g,cap,cur,rfl,_,hg,_⟩
 ·cases e
 ·simp only[Value.ownBlock,Option.some.injEq] at e
  subst e
  unfold Cx chO at h
  rw[h] at hg
  simp at hg
theorem ZcA {u:World} {b b':Nat} {d:Ch} (h:Cx u b d) {q:Hk} {v:Value} (hx:Hx u b' q v):b≠b':=by
 rintro rfl
 unfold Cx chO at h
 unfold Hx hkO at hx
 rw[h] at hx
 simp at hx
section
variable {w u u':World} {q:Hk} {ov ov':Value} {x':List Mk}
theorem La.alloc (h:La w q ov u) (o:Obj):La w q ov (u.alloc o):=⟨h.low.alloc h.low.size o,h.box.low ((Below.refl _ u).alloc (Nat.le_refl _) o),h.own.alloc o⟩
theorem La.drewN (h:La w q ov u) (n:Nat):La w q ov (u.drewN n):=⟨Below.dN h.low n,h.box,h.own⟩
theorem La.keep (h:La w q ov u) (hk:Below u.heap.size u u'):La w q ov u':=⟨h.low.trans (hk.mono h.low.size),h.box.low hk,ZhK h.own hk⟩
theorem La.ck (h:La w q ov u) (j:Nat) (z:Value):CK u (u.setCell ⟨w.heap.size,j,none⟩ z):=fun _ _ p=>p.keep (ZdS u _ j z) (fun e=>ZcA p h.box (Option.some.inj e))
theorem La.grow (h:La w q ov u) (hg:u.grownBy u' ov.ownBlock) (ho:u'.ownsRow (w.heap.size+1) 47 2 ov' x'.length (mkcells x')):Hx u' w.heap.size q ov∧La w ⟨q.A,q.AN,q.B,q.BN,x'⟩ ov' (u'.setCell ⟨w.heap.size,4,none⟩ ov')∧CK u (u'.setCell ⟨w.heap.size,4,none⟩ ov'):=by
 have hbx:Hx u' w.heap.size q ov:=h.box.keep hg (fun e=>by have:=ZhJ h.own e.symm;omega)
 have hs:=ZdS u' w.heap.size 4 ov'
 have hlow:Below w.heap.size w u':=h.low.grown hg h.low.size (fun j hj=>by have:=ZhJ h.own hj;omega)
 refine⟨hbx,⟨hlow.grown hs hlow.size (fun j hj=>by cases hj;exact Nat.le_refl _),hbx.setl ov',ZhF ho hs ?_⟩,?_⟩
 ·intro k hk e
  cases hk
  have:=ZhJ ho e
  omega
 ·intro B c p
  have p1:=p.keep hg (fun e=>ZcB p h.own e.symm)
  exact p1.keep hs (fun e=>ZcA p1 hbx (Option.some.inj e))
theorem La.own_set (h:La w q ov u) (j:Nat) (z:Value):Below w.heap.size w (u.setCell ⟨w.heap.size,j,none⟩ z)∧(u.setCell ⟨w.heap.size,j,none⟩ z).ownsRow (w.heap.size+1) 47 2 ov q.ls.length (mkcells q.ls):=by
 have hs:=ZdS u w.heap.size j z
 refine⟨h.low.grown hs h.low.size (fun j hj=>by cases hj;exact Nat.le_refl _),ZhF h.own hs ?_⟩
 intro k hk e
 cases hk
 have:=ZhJ h.own e
 omega
theorem La.setA (h:La w q ov u) (z:Int):La w ⟨z,q.AN,q.B,q.BN,q.ls⟩ ov (u.setCell ⟨w.heap.size,0,none⟩ (.int .i64 z)):=⟨(h.own_set 0 _).1,heap_setCell_same u _ 0 _ _ _ h.box,(h.own_set 0 _).2⟩
theorem La.setAN (h:La w q ov u) (z:Int):La w ⟨q.A,z,q.B,q.BN,q.ls⟩ ov (u.setCell ⟨w.heap.size,1,none⟩ (.int .i64 z)):=⟨(h.own_set 1 _).1,heap_setCell_same u _ 1 _ _ _ h.box,(h.own_set 1 _).2⟩
theorem La.setB (h:La w q ov u) (z:Int):La w ⟨q.A,q.AN,z,q.BN,q.ls⟩ ov (u.setCell ⟨w.heap.size,2,none⟩ (.int .i64 z)):=⟨(h.own_set 2 _).1,heap_setCell_same u _ 2 _ _ _ h.box,(h.own_set 2 _).2⟩
theorem La.setBN (h:La w q ov u) (z:Int):La w ⟨q.A,q.AN,q.B,z,q.ls⟩ ov (u.setCell ⟨w.heap.size,3,none⟩ (.int .i64 z)):=⟨(h.own_set 3 _).1,heap_setCell_same u _ 3 _ _ _ h.box,(h.own_set 3 _).2⟩
end
theorem Zyq {no sg:Int} (t:List (List UInt8)):pkL no (mks sg t)=if sg≠no∧okS sg=true then t else []:=by
 induction t with
 | nil=>simp[mks,pkL]
 | cons s t ih =>
  rw[Zxf,pkL,ih]
  split<;>rfl
theorem Zxg (sg:Int) (t:List (List UInt8)):(mks sg t).length=t.length:=by simp[mks]
theorem ZvZ (w u:World) (q:Hk) (ov:Value) (sg:Int) (t:List (List UInt8)) (vt:Value) (hL:La w q ov u) (hsg:sg=32∨sg=45∨sg=43) (ht:HS w vt t) (hlen:q.ls.length+t.length≤1099511627776) (han:0≤q.AN∧q.AN≤4611686018427387904) (hbn:0≤q.BN∧q.BN≤4611686018427387904) (an bn:Int) (x':List Mk) (HAN:Hid (q.AN+((pkL 43 (mks sg t)).length:Int)=an)) (HBN:Hid (q.BN+((pkL 45 (mks sg t)).length:Int)=bn)) (HX:Hid (q.ls++mks sg t=x')):Calls Tryz.prog 129 #[.int .u8 sg,vt,.pointer (some ⟨w.heap.size,0,none⟩)] u fun e u'=>e=.returned (.tuple #[])∧(∃ ov',La w ⟨q.A,an,q.B,bn,x'⟩ ov' u')∧CK u u':=by
 obtain⟨tO,tc,rfl⟩:=Holds.form ht
 obtain⟨A,AN,B,BN,ls⟩:=q
 dsimp only at hlen han hbn HAN HBN HX ⊢
 go_enter Tryz.func129,Tryz.ntmps129
 go_wp2
 go_loopw [9] (fun iv wr=>∃ (k:Nat) (ov:Value) (x:List Mk),k≤t.length∧iv=.int .i64 (k:Int)∧x.length=ls.length+k∧La w ⟨A,AN,B,BN,x⟩ ov wr∧CK u wr∧Hid (x++mks sg (t.drop k)=x')) (fun iv _=>t.length-(intOf iv).toNat)
 case atStart=>exact⟨0,ov,ls,Nat.zero_le _,by go_num,rfl,hL,Zuf _,HX⟩
 case round =>
  obtain⟨k,ov,x,hk,rfl,hxl,hL,hck,HI⟩:=hrel
  clear HX
  obtain⟨oo,oc,hov⟩:=(Zeo hL.own).form
  subst hov
  obtain⟨b0,b1,b2,b3,b4⟩:=hL.box.cells
  dsimp only at b0 b1 b2 b3 b4
  by_cases hlt:k<t.length
  ·obtain⟨tb,tf,rfl,_,htc⟩:=HS.at (HS.keep ht hL.low (Nat.le_refl _)) (by omega)
   obtain⟨tx,htx⟩:∃ tx,t[k]=tx:=⟨_,rfl⟩
   have c0:=htc k hlt
   rw[htx] at c0
   have HI2:Hid (x++[⟨sg,tx⟩]++mks sg (t.drop (k+1))=x'):=(by
    have h:=HI.out
    rw[List.drop_eq_getElem_cons hlt,htx,Zxf] at h
    show _=_
    rw[← h]
    simp)
   have i1:0≤(k:Int):=by omega
   have i2:(k:Int)<(t.length:Int):=by omega
   have hL2:=hL.alloc (mkO ⟨sg,tx⟩)
   have hck2:=Zug hck (Zue ((Below.refl _ wr).alloc (Nat.le_refl _) (mkO ⟨sg,tx⟩)))
   have hrow:=Zgj wr ⟨sg,tx⟩
   have hbl:=hL.box.lt
   have HS2:Hid ((wr.alloc (mkO ⟨sg,tx⟩)).heap.size=wr.heap.size+1):=(by show _=_;simp)
   have hW:wr.alloc (Obj.cells #[Value.int IntKind.u8 sg,Value.string ⟨tx.toArray⟩] 47)=wr.alloc (mkO ⟨sg,tx⟩):=rfl
   have hxk:x.length+1≤2199023255552:=by omega
   have HXL:Hid (x.length=ls.length+k):=hxl
   clear HI htx htc hxl
   go_wp2_with (at_builtin;refine Zmi _ (by kernel_rfl) (.tmp 14) (.tmp 18) 43 47 (.agg #[.int .u8 0,.string ⟨#[]⟩]) 2 24 rfl Tryz.underlying43 infoMk rfl (by decide) (by decide) (w.heap.size+1) _ _ _ rfl hL2.own _ 1 (mkcells [⟨sg,tx⟩]) rfl hrow (Zgo _) (Zgp _) hxk (by have:=HS2.out;omega) ?_)
   intro v3 u3 hown3 hg3 _
   rw[← Zgl] at hown3
   obtain⟨o3,c3,rfl⟩:=(Zeo hown3).form
   obtain⟨hbx3,hL4,hck4⟩:=hL2.grow (x':=x++[⟨sg,tx⟩]) hg3 (by rw[List.length_append];exact hown3)
   obtain⟨f0,f1,f2,f3,f4⟩:=hbx3.cells
   have ff:=hbx3.frozen 4
   clear hW hg3 hown3
   go_wp2
   exact⟨⟨k+1,_,x++[⟨sg,tx⟩],by omega,by go_num,by have:=HXL.out;simp;omega,hL4,Zug hck2 hck4,HI2⟩,by simp[intOf];omega⟩
  ·have HX2:Hid (x=x'):=(by
    have h:=HI.out
    rw[List.drop_of_length_le (by omega)] at h
    show x=x'
    simpa [mks] using h)
   have hend:decide ((k:Int)<(t.length:Int))=false:=decide_eq_false (by omega)
   have hf1:=hL.box.frozen 1
   have hf3:=hL.box.frozen 3
   have HP1:=Zyq (no:=43) (sg:=sg) t
   have HP2:=Zyq (no:=45) (sg:=sg) t
   rw[HP1] at HAN
   rw[HP2] at HBN
   clear HI HP1 HP2 hxl
   rcases hsg with rfl | rfl | rfl
   ·have hA:Hid (AN+(t.length:Int)=an):=(by have h:=HAN.out;rw[if_pos (by decide)] at h;exact h)
    have hB:Hid (BN+(t.length:Int)=bn):=(by have h:=HBN.out;rw[if_pos (by decide)] at h;exact h)
    have hL4:=hL.setAN (AN+(t.length:Int))
    have hk4:=hL.ck 1 (.int .i64 (AN+(t.length:Int)))
    have hL5:=hL4.setBN (BN+(t.length:Int))
    have hk5:=hL4.ck 3 (.int .i64 (BN+(t.length:Int)))
    obtain⟨g0,g1,g2,g3,g4⟩:=hL4.box.cells
    dsimp only at g0 g1 g2 g3 g4
    have hg3:=hL4.box.frozen 3
    clear HAN HBN
    go_wp2
    (try simp only[Exit.inBlock,Exit.then])
    first | refine bodyPost_ret (results_none rfl _ _ _) rfl ?_ | refine bodyPost_end (results_none rfl _ _ _) rfl ?_
    refine⟨rfl,⟨.slice oo x.length oc,?_⟩,Zug hck (Zug hk4 hk5)⟩
    rw[← hA.out,← hB.out,← HX2.out]
    exact hL5
   ·have hA:Hid (AN+(t.length:Int)=an):=(by have h:=HAN.out;rw[if_pos (by decide)] at h;exact h)
    have hB:Hid (BN=bn):=(by have h:=HBN.out;rw[if_neg (by decide)] at h;show _=_;simpa using h)
    have hL4:=hL.setAN (AN+(t.length:Int))
    have hk4:=hL.ck 1 (.int .i64 (AN+(t.length:Int)))
    clear HAN HBN
    go_wp2
    (try simp only[Exit.inBlock,Exit.then])
    first | refine bodyPost_ret (results_none rfl _ _ _) rfl ?_ | refine bodyPost_end (results_none rfl _ _ _) rfl ?_
    refine⟨rfl,⟨.slice oo x.length oc,?_⟩,Zug hck hk4⟩
    rw[← hA.out,← hB.out,← HX2.out]
    exact hL4
   ·have hA:Hid (AN=an):=(by have h:=HAN.out;rw[if_neg (by decide)] at h;show _=_;simpa using h)
    have hB:Hid (BN+(t.length:Int)=bn):=(by have h:=HBN.out;rw[if_pos (by decide)] at h;exact h)
    have hL4:=hL.setBN (BN+(t.length:Int))
    have hk4:=hL.ck 3 (.int .i64 (BN+(t.length:Int)))
    clear HAN HBN
    go_wp2
    (try simp only[Exit.inBlock,Exit.then])
    first | refine bodyPost_ret (results_none rfl _ _ _) rfl ?_ | refine bodyPost_end (results_none rfl _ _ _) rfl ?_
    refine⟨rfl,⟨.slice oo x.length oc,?_⟩,Zug hck hk4⟩
    rw[← hA.out,← hB.out,← HX2.out]
    exact hL4
end

section
open Go.RowKit
def Lb (w:World) (x:List Mk) (u:World):Prop:=∃ (ov:Value) (an bn:Int),La w ⟨0,an,0,bn,x⟩ ov u∧((pkL 43 x).length:Int)=an∧((pkL 45 x).length:Int)=bn
theorem Lb.alloc {w u:World} {x:List Mk} (h:Lb w x u) (o:Obj):Lb w x (u.alloc o):=by
 obtain⟨ov,an,bn,h1,h2⟩:=h
 exact⟨ov,an,bn,h1.alloc o,h2⟩
theorem Lb.low {w u:World} {x:List Mk} (h:Lb w x u):Below w.heap.size w u:=by
 obtain⟨ov,an,bn,h1,h2⟩:=h
 exact h1.low
theorem Zyo (no:Int) (x y:List Mk):((pkL no x).length:Int)+((pkL no y).length:Int)=((pkL no (x++y)).length:Int):=by
 rw[Zil,List.length_append]
 omega
theorem ZvY (w u:World) (x:List Mk) (sg:Int) (t:List (List UInt8)) (vt:Value) (hL:Lb w x u) (hsg:sg=32∨sg=45∨sg=43) (ht:HS w vt t) (x':List Mk) (HX:Hid (x++mks sg t=x')) (hlen:x'.length≤1099511627776):Calls Tryz.prog 129 #[.int .u8 sg,vt,.pointer (some ⟨w.heap.size,0,none⟩)] u fun e u'=>e=.returned (.tuple #[])∧Lb w x' u'∧CK u u':=by
 obtain⟨ov,an,bn,h1,h2,h3⟩:=hL
 have e1:=Zyn 43 x
 have e2:=Zyn 45 x
 have hl:x.length+t.length=x'.length:=by rw[← HX.out,List.length_append,Zxg]
 have h4:an+((pkL 43 (mks sg t)).length:Int)=((pkL 43 x').length:Int):=by rw[← h2,← HX.out];exact Zyo 43 _ _
 have h5:bn+((pkL 45 (mks sg t)).length:Int)=((pkL 45 x').length:Int):=by rw[← h3,← HX.out];exact Zyo 45 _ _
 refine (ZvZ w u ⟨0,an,0,bn,x⟩ ov sg t vt h1 hsg ht (by dsimp only;omega) (by dsimp only;omega) (by dsimp only;omega) _ _ x' h4 h5 HX).mono ?_
 rintro e u' ⟨rfl,⟨ov',h6⟩,h7⟩
 exact⟨rfl,⟨ov',_,_,h6,rfl,rfl⟩,h7⟩
theorem ZuV {u:World} {p q:Int} (h:IntKind.i64.wrap (p-q)=p-q) {op:Oper} (x y:Operand) (ho:op.op=.binOp .sub 3 x y 3) {ev:Operand→Value} (hx:ev x=.int .i64 p) (hy:ev y=.int .i64 q) :
  (execOp ev op).run Tryz.prog u=.ok (.value (.int .i64 (p-q))) u:=by
 simp only[execOp,ho,hx,hy]
 go_simp
theorem ZuU {u:World} {a:Addr} (hf:u.frozen? a=false) {z0:Int} (hc:u.cell? a=some (.int .i64 z0)) {z:Int} {op:Oper} (x y:Operand) (ho:op.op=.store 3 x y) {ev:Operand→Value} (hx:ev x=.pointer (some a)) (hy:ev y=.int .i64 z) :
  (execOp ev op).run Tryz.prog u=.ok .skip (u.setCell a (.int .i64 z)):=by
 simp only[execOp,ho,hx,hy]
 go_simp
theorem ZvK (g rest:List Ch) (f:Ch) (a b:List (List UInt8)) (ctx:Int) (vg va vb:Value) (w:World) (hg:HCh w vg (f::g)) (ha:HS w va a) (hb:HS w vb b) (hal:a.length≤1099511627776) (hbl:b.length≤1099511627776) (hgl:g.length≤1099511627776) (hc:0≤ctx∧ctx≤100) (hR:Right true (f.A-min ctx f.A) (f.B-min ctx f.A) a.length b.length (f::g++rest))
  (hfb:0≤f.B-min ctx f.A) (hnl:∀ c∈f::g,0≤c.A∧c.A≤2147483647∧0≤c.AN∧c.AN≤2147483647) (R:Hk) (HR:Hid (oneH a b ctx (f::g)=R)) (hRl:R.ls.length≤549755813888):Calls Tryz.prog 91 #[vg,va,vb,.int .i64 ctx] w fun e w'=>∃ v',e=.returned (hkV R v')∧w'.ownsRow w.heap.size 47 2 v' R.ls.length (mkcells R.ls)∧Below w.heap.size w w':=by
 obtain⟨go,gc,rfl⟩:=Holds.form hg
 obtain⟨ao,ac,rfl⟩:=Holds.form ha
 obtain⟨bo,bc,rfl⟩:=Holds.form hb
 obtain⟨gb,gf,rfl,_,hgc⟩:=HCh.at hg (by simp)
 have p0:=hgc 0 (by simp)
 rw[List.getElem_cons_zero] at p0
 clear hgc
 obtain⟨N,hN⟩:∃ N,g.length=N:=⟨_,rfl⟩
 have HNN:Hid (g.length=N):=hN
 rw[hN] at hgl
 rw[List.length_cons,hN] at hg ⊢
 clear hN
 have hnf:=hnl f (by simp)
 have hRf:=hR
 rw[List.cons_append] at hRf
 have hnumf:=(Zhj f).1 hRf.1.1
 obtain⟨m,hm⟩:∃ m,min ctx f.A=m:=⟨_,rfl⟩
 have hm1:(if f.A<ctx then f.A else ctx)=m:=by rw[← hm];split<;>omega
 have hmb:0≤m∧m≤f.A∧m≤ctx:=by omega
 obtain⟨E,hE⟩:∃ E,endH a.length ctx (f::g)=E:=⟨_,rfl⟩
 obtain⟨RL,hRL⟩:∃ RL,bodyH a b E (f.A-m) (f::g)=RL:=⟨_,rfl⟩
 have HRR:Hid (R=cntH (f.A-m) (f.B-m) RL):=(by
  show _=_
  rw[← HR.out]
  show cntH (f.A-min ctx f.A) (f.B-min ctx f.A) (bodyH a b (endH a.length ctx (f::g)) (f.A-min ctx f.A) (f::g))=_
  rw[hm,hE,hRL])
 have hRLl:RL.length≤549755813888:=by have:=hRl;rw[HRR.out] at this;exact this
 have HEE:Hid (min (a.length:Int) (endA (f.A-m) (f::g)+ctx)=E):=(by show _=_;rw[← hE,ZuM _ _ _ _ (f.A-m)])
 have HRL:Hid (bodyH a b E (f.A-m) (f::g)=RL):=hRL
 rw[hm] at hR hfb
 have HRT:Hid (Right true (f.A-m) (f.B-m) a.length b.length (f::g++rest)∧0≤f.B-m):=⟨hR,hfb⟩
 have HNL:Hid (∀ c∈f::g,0≤c.A∧c.A≤2147483647∧0≤c.AN∧c.AN≤2147483647):=hnl
 have HRLL:Hid (R.ls.length=RL.length):=(by show _=_;rw[HRR.out];rfl)
 clear hRL hR HR hE hm hRf hnl hRl
 -- the boxes
 have hz0:=Hx.new w ⟨0,0,0,0,[]⟩ (.slice none 0 0)
 have hB0:Below w.heap.size w (w.alloc (hkO ⟨0,0,0,0,[]⟩ (.slice none 0 0))):=(Below.refl _ w).alloc (Nat.le_refl _) _
 have HW1:Hid ((w.alloc (hkO ⟨0,0,0,0,[]⟩ (.slice none 0 0))).heap.size=w.heap.size+1):=(by show _=_;simp)
 have hWa:w.alloc (Obj.cells #[Value.int IntKind.i64 0,Value.int IntKind.i64 0,Value.int IntKind.i64 0,Value.int IntKind.i64 0,.slice none 0 0] 45)=w.alloc (hkO ⟨0,0,0,0,[]⟩ (.slice none 0 0)):=rfl
 generalize hW1:w.alloc (hkO ⟨0,0,0,0,[]⟩ (.slice none 0 0))=W1 at *
 have hB1:Below W1.heap.size W1 (W1.alloc (hkO ⟨0,0,0,0,[]⟩ (.slice none 0 0))):=(Below.refl _ W1).alloc (Nat.le_refl _) _
 have hLb:Lb W1 [] (W1.alloc (hkO ⟨0,0,0,0,[]⟩ (.slice none 0 0))):=⟨_,0,0,⟨hB1,Hx.new W1 _ _,Zen _ _ _ _⟩,rfl,rfl⟩
 have HW2:Hid ((W1.alloc (hkO ⟨0,0,0,0,[]⟩ (.slice none 0 0))).heap.size=W1.heap.size+1):=(by show _=_;simp)
 have hWb:W1.alloc (Obj.cells #[Value.int IntKind.i64 0,Value.int IntKind.i64 0,Value.int IntKind.i64 0,Value.int IntKind.i64 0,.slice none 0 0] 45)=W1.alloc (hkO ⟨0,0,0,0,[]⟩ (.slice none 0 0)):=rfl
 generalize hW2:W1.alloc (hkO ⟨0,0,0,0,[]⟩ (.slice none 0 0))=W2 at *
 have hB02:=hB0.trans (hB1.mono hB0.size)
 have r0:ChAt W2 gb (gf+0 * 4) f:=ChAt.low p0 hB02
 rw[show gf+0 * 4=gf by omega] at r0
 obtain⟨q0,q1,q2,q3⟩:=r0
 have hc11:=Cx.new W2 f
 have hLb2:=hLb.alloc (chO f)
 obtain⟨x0,x1,x2,x3⟩:=hc11.cells
 have hWc:W2.alloc (Obj.cells #[Value.int IntKind.i64 f.A,Value.int IntKind.i64 f.AN,Value.int IntKind.i64 f.B,Value.int IntKind.i64 f.BN] 139)=W2.alloc (chO f):=rfl
 clear p0 hW1 hW2 hLb
 generalize hW3:W2.alloc (chO f)=W3 at *
 have n1:(0:Int)<(N:Int)+1:=by omega
 go_enter Tryz.func91,Tryz.ntmps91
 go_wp2
 clear hWa hWb hWc q0 q1 q2 q3 x0 x1 x2 x3 hW3
 generalize hB11:W2.heap.size=B11 at *
 have hA1:HS W1 (.slice ao a.length ac) a:=HS.keep ha hB0 (Nat.le_refl _)
 have hA2:HS W1 (.slice bo b.length bc) b:=HS.keep hb hB0 (Nat.le_refl _)
 go_loopw [13,30] (fun nv iv wr=>∃ (i:Nat) (p q:Int) (fl:Bool) (x:List Mk),i≤N+1∧nv=.int .i64 p∧iv=.int .i64 (i:Int)∧(0≤p∧p≤4294967296)∧Lb W1 x wr∧Cx wr B11 f∧Hid (min (a.length:Int) (endA p ((f::g).drop i)+ctx)=E)∧Hid (Right fl p q a.length b.length ((f::g).drop i++rest)∧0≤q)∧Hid (x++bodyH a b E p ((f::g).drop i)=RL)) (fun _ iv _=>N+1-(intOf iv).toNat)
 case atStart=>exact⟨0,f.A-m,f.B-m,true,[],Nat.zero_le _,rfl,by go_num,by omega,hLb2,hc11,HEE,HRT,HRL⟩
 case round =>
  obtain⟨i,p,q,fl,x,hi,rfl,rfl,hpb,hL,hc11,HEi,HRi,HI⟩:=hrel
  clear HEE HRT HRL hLb2
  have hBw:Below w.heap.size w wr:=hB0.trans (hL.low.mono hB0.size)
  by_cases hlt:i<N+1
  ·have hil:i<(f::g).length:=by rw[List.length_cons,HNN.out];exact hlt
   obtain⟨c,hci⟩:∃ c,(f::g)[i]=c:=⟨_,rfl⟩
   have hdr:(f::g).drop i=c::(f::g).drop (i+1):=by rw[List.drop_eq_getElem_cons hil,hci]
   have hgA:ChAt wr gb (gf+i * 4) c:=(by
    have hg2:HCh w (.slice (some ⟨gb,gf,none⟩) (N+1) gc) (f::g):=hg
    obtain⟨b',off',e,_,hc'⟩:=HCh.at (HCh.keep hg2 hBw (Nat.le_refl _)) (by simp)
    cases e
    have:=hc' i hil
    rw[hci] at this
    exact this)
   have hncl:=HNL.out c (by rw[← hci];exact List.getElem_mem hil)
   have hRi:=HRi.out
   rw[hdr,List.cons_append] at hRi
   obtain⟨⟨⟨k1,k2,k3,k4⟩,k5⟩,hq0⟩:=hRi
   have k1':=(Zhj c).1 k1
   have k6:=k5.le
   have HRn:Hid (Right false (c.A+c.AN) (c.B+c.BN) a.length b.length ((f::g).drop (i+1)++rest)∧0≤c.B+c.BN):=⟨k5,by omega⟩
   have HEn:Hid (min (a.length:Int) (endA (c.A+c.AN) ((f::g).drop (i+1))+ctx)=E):=(by have h:=HEi.out;rw[hdr] at h;exact h)
   have HI1:Hid (x++bodyH a b E p (c::(f::g).drop (i+1))=RL):=(by have h:=HI.out;rw[hdr] at h;exact h)
   obtain⟨cA,cAN,cB,cBN⟩:=c
   dsimp only at k1' k2 k3 k4 k5 k6 HRn HEn hncl
   obtain⟨RS,hRS⟩:∃ r,bodyH a b E (cA+cAN) ((f::g).drop (i+1))=r:=⟨_,rfl⟩
   have HRS:Hid (bodyH a b E (cA+cAN) ((f::g).drop (i+1))=RS):=hRS
   obtain⟨v1o,v1c,r1,h1⟩:=ZsP a ao ac p cA hpb.1 k3 (by omega) W1 hA1
   obtain⟨t1,ht1⟩:∃ t,cut a p (cA-p)=t:=⟨_,rfl⟩
   obtain⟨v2,r2,h2⟩:=ZsN a ao ac cA cAN (by omega) (by omega) (by omega) W1 hA1
   obtain⟨t2,ht2⟩:∃ t,cut a cA cAN=t:=⟨_,rfl⟩
   obtain⟨v3,r3,h3⟩:=ZsN b bo bc cB cBN (by omega) (by omega) (by omega) W1 hA2
   obtain⟨t3,ht3⟩:∃ t,cut b cB cBN=t:=⟨_,rfl⟩
   have s1:=h1 W1 hA1
   have s2:=h2 W1 hA1
   have s3:=h3 W1 hA2
   rw[ht1] at r1 s1
   rw[ht2] at s2
   rw[ht3] at s3
   obtain⟨v2o,v2c,rfl⟩:=Holds.form s2
   obtain⟨v3o,v3c,rfl⟩:=Holds.form s3
   obtain⟨x1,hx1⟩:∃ y,x++mks 32 t1=y:=⟨_,rfl⟩
   obtain⟨x2,hx2⟩:∃ y,x1++mks 45 t2=y:=⟨_,rfl⟩
   obtain⟨x3,hx3⟩:∃ y,x2++mks 43 t3=y:=⟨_,rfl⟩
   have hI3:x3++RS=RL:=(by
    have h:=HI1.out
    simp only[bodyH] at h
    rw[ht1,ht2,ht3,hRS] at h
    rw[← hx3,← hx2,← hx1,← h]
    simp)
   have HX1:Hid (x++mks 32 t1=x1):=hx1
   have HX2:Hid (x1++mks 45 t2=x2):=hx2
   have HX3:Hid (x2++mks 43 t3=x3):=hx3
   have HI3:Hid (x3++bodyH a b E (cA+cAN) ((f::g).drop (i+1))=RL):=(by show _=_;rw[hRS];exact hI3)
   have l3:x3.length≤549755813888:=by have:=congrArg List.length hI3;rw[List.length_append] at this;omega
   have l2:x2.length≤549755813888:=by have:=congrArg List.length hx3;rw[List.length_append] at this;omega
   have l1:x1.length≤549755813888:=by have:=congrArg List.length hx2;rw[List.length_append] at this;omega
   have i1:0≤(i:Int):=by omega
   have i2:(i:Int)<(N:Int)+1:=by omega
   obtain⟨d0,d1,d2,d3⟩:=hgA
   have hcc:=Cx.new wr ⟨cA,cAN,cB,cBN⟩
   have hL1:=hL.alloc (chO ⟨cA,cAN,cB,cBN⟩)
   have hf1:Cx (wr.alloc (chO ⟨cA,cAN,cB,cBN⟩)) B11 f:=hc11.low ((Below.refl _ wr).alloc (Nat.le_refl _) _)
   obtain⟨y0,y1,y2,y3⟩:=hcc.cells
   have hW:wr.alloc (Obj.cells #[Value.int IntKind.i64 cA,Value.int IntKind.i64 cAN,Value.int IntKind.i64 cB,Value.int IntKind.i64 cBN] 139)=wr.alloc (chO ⟨cA,cAN,cB,cBN⟩):=rfl
   dsimp only at d0 d1 d2 d3 y0 y1 y2 y3
   clear HI HI1 HEi HRi k5 hdr hci hil ht1 ht2 ht3 hx1 hx2 hx3 hI3 hRS h1 h2 h3 hL hc11
   generalize hwr1:wr.alloc (chO ⟨cA,cAN,cB,cBN⟩)=wr1 at *
   go_wp2_with fail
   generalize hBC:wr.heap.size=bC at *
   refine (ZvY W1 wr1 x 32 t1 _ hL1 (.inl rfl) s1 x1 HX1 (by omega)).mono ?_
   rintro e u1 ⟨rfl,hL2,hk1⟩
   have hcc1:=hk1 _ _ hcc
   have hf2:=hk1 _ _ hf1
   obtain⟨z0,z1,z2,z3⟩:=hcc1.cells
   dsimp only at z0 z1 z2 z3
   clear y0 y1 y2 y3 hW d0 d1 d2 d3 hL1 hcc hf1 hk1
   go_wp2_with fail
   refine (ZvY W1 u1 x1 45 t2 _ hL2 (.inr (.inl rfl)) s2 x2 HX2 (by omega)).mono ?_
   rintro e u2 ⟨rfl,hL3,hk2⟩
   have hcc2:=hk2 _ _ hcc1
   have hf3:=hk2 _ _ hf2
   obtain⟨y0,y1,y2,y3⟩:=hcc2.cells
   dsimp only at y0 y1 y2 y3
   clear z0 z1 z2 z3 hL2 hcc1 hf2 hk2
   go_wp2_with fail
   refine (ZvY W1 u2 x2 43 t3 _ hL3 (.inr (.inr rfl)) s3 x3 HX3 (by omega)).mono ?_
   rintro e u3 ⟨rfl,hL4,hk3⟩
   have hf4:=hk3 _ _ hf3
   clear y0 y1 y2 y3 hL3 hcc2 hf3 hk3
   go_wp2
   exact⟨⟨i+1,cA+cAN,cB+cBN,false,x3,by omega,rfl,by go_num,by omega,hL4,hf4,HEn,HRn,HI3⟩,by simp[intOf];omega⟩
  ·have hdr:(f::g).drop i=[]:=List.drop_of_length_le (by rw[List.length_cons,HNN.out];omega)
   have hE2:min (a.length:Int) (p+ctx)=E:=(by have h:=HEi.out;rw[hdr] at h;exact h)
   have hE1:(if (a.length:Int)<p+ctx then (a.length:Int) else p+ctx)=E:=by rw[← hE2];split<;>omega
   have hRi:=HRi.out.1
   rw[hdr,List.nil_append] at hRi
   have k6:=hRi.le
   have HI1:Hid (x++mks 32 (cut a p (E-p))=RL):=(by have h:=HI.out;rw[hdr] at h;exact h)
   obtain⟨v1o,v1c,r1,h1⟩:=ZsP a ao ac p E hpb.1 (by omega) (by omega) W1 hA1
   obtain⟨t1,ht1⟩:∃ t,cut a p (E-p)=t:=⟨_,rfl⟩
   have s1:=h1 W1 hA1
   rw[ht1] at r1 s1 HI1
   have hend:decide ((i:Int)<(N:Int)+1)=false:=decide_eq_false (by omega)
   clear HI HEi HRi hdr hRi ht1 h1 hE2
   go_wp2_with fail
   refine (ZvY W1 wr x 32 t1 _ hL (.inl rfl) s1 RL HI1 (by omega)).mono ?_
   rintro e wz ⟨rfl,hL2,hk1⟩
   have hf2:=hk1 _ _ hc11
   obtain⟨ov,an,bn,hL3,han,hbn⟩:=hL2
   have HAN:Hid (((pkL 43 RL).length:Int)=an):=han
   have HBN:Hid (((pkL 45 RL).length:Int)=bn):=hbn
   obtain⟨nA,hnA⟩:∃ z,(if 0<an then f.A-m+1 else f.A-m)=z:=⟨_,rfl⟩
   obtain⟨nB,hnB⟩:∃ z,(if 0<bn then f.B-m+1 else f.B-m)=z:=⟨_,rfl⟩
   have HNA:Hid ((if 0<an then f.A-m+1 else f.A-m)=nA):=hnA
   have HNB:Hid ((if 0<bn then f.B-m+1 else f.B-m)=nB):=hnB
   have HRv:Hid (R=⟨nA,an,nB,bn,RL⟩):=(by
    show _=_
    rw[HRR.out,← hnA,← hnB,← han,← hbn]
    unfold cntH
    simp only[Int.natCast_pos])
   have hw1:IntKind.i64.wrap (f.A-m)=f.A-m:=Zmm (by omega) (by omega)
   have hw2:IntKind.i64.wrap (f.B-m)=f.B-m:=Zmm (by omega) (by omega)
   clear hnA hnB han hbn hk1 hL hc11
   obtain⟨oo,oc,hov⟩:=(Zeo hL3.own).form
   dsimp only at hov
   subst hov
   have hLD:=hL3.drewN 1
   have hfD:Cx (wz.drewN 1) B11 f:=hf2
   have hcD0:=hLD.box.cells.1
   have hfD0:=hLD.box.frozen 0
   have hL4:=hLD.setA nA
   have hf4:=hLD.ck 0 (.int .i64 nA) _ _ hfD
   have hcD2:=hL4.box.cells.2.2.1
   have hfD2:=hL4.box.frozen 2
   have hL5:=hL4.setB nB
   have hf5:=hL4.ck 2 (.int .i64 nB) _ _ hf4
   dsimp only at hcD0 hcD2 hL4 hL5
   have hSD:∃ A B,La W1 ⟨A,an,B,bn,RL⟩ (.slice oo RL.length oc) (wz.drewN 1)∧Cx (wz.drewN 1) B11 f:=⟨0,0,hLD,hfD⟩
   have hS1:∃ A B,La W1 ⟨A,an,B,bn,RL⟩ (.slice oo RL.length oc) ((wz.drewN 1).setCell ⟨W1.heap.size,0,none⟩ (.int .i64 nA))∧Cx ((wz.drewN 1).setCell ⟨W1.heap.size,0,none⟩ (.int .i64 nA)) B11 f:=⟨nA,0,hL4,hf4⟩
   have hS2:∃ A B,La W1 ⟨A,an,B,bn,RL⟩ (.slice oo RL.length oc) (((wz.drewN 1).setCell ⟨W1.heap.size,0,none⟩ (.int .i64 nA)).setCell ⟨W1.heap.size,2,none⟩ (.int .i64 nB))∧Cx (((wz.drewN 1).setCell ⟨W1.heap.size,0,none⟩ (.int .i64 nA)).setCell ⟨W1.heap.size,2,none⟩ (.int .i64 nB)) B11 f:=⟨nA,nB,hL5,hf5⟩
   go_upto_region 15 with fail
   refine wp_region_noPanic ?_
   refine wp_region_held_drew (S:=fun u=>∃ A B,La W1 ⟨A,an,B,bn,RL⟩ (.slice oo RL.length oc) u∧Cx u B11 f) (by kernel_rfl) hSD (fun hHeld=>?_)
   refine Y_t 0 76 _ (.pointer (some ⟨B11,0,none⟩)) rfl (Or.inl ⟨by kernel_rfl,fun u hu=>by kernel_rfl⟩) hHeld ?_
   simp only[Act.put,Y_a,Y_b,Y_c]
   refine Y_t 1 77 _ (.int .i64 f.A) rfl (Or.inl ⟨by kernel_rfl,fun u hu=>(by obtain⟨_,_,_,hc⟩:=hu;exact Zon hc.cells.1 (.tmp 76) (by kernel_rfl) (by kernel_rfl))⟩) hHeld ?_
   simp only[Act.put,Y_a,Y_b,Y_c]
   refine Y_t 2 78 _ (.int .i64 m) rfl (Or.inl ⟨by kernel_rfl,fun u hu=>by kernel_rfl⟩) hHeld ?_
   simp only[Act.put,Y_a,Y_b,Y_c]
   refine Y_t 3 79 _ (.int .i64 (f.A-m)) rfl (Or.inl ⟨by kernel_rfl,fun u hu=>ZuV hw1 (.tmp 77) (.tmp 78) (by kernel_rfl) (by kernel_rfl) (by kernel_rfl)⟩) hHeld ?_
   simp only[Act.put,Y_a,Y_b,Y_c]
   refine Y_t 4 80 _ (.pointer (some ⟨W1.heap.size,1,none⟩)) rfl (Or.inl ⟨by kernel_rfl,fun u hu=>by kernel_rfl⟩) hHeld ?_
   simp only[Act.put,Y_a,Y_b,Y_c]
   refine Y_t 5 81 _ (.int .i64 an) rfl (Or.inl ⟨by kernel_rfl,fun u hu=>(by obtain⟨_,_,hl,_⟩:=hu;exact Zon hl.box.cells.2.1 (.tmp 80) (by kernel_rfl) (by kernel_rfl))⟩) hHeld ?_
   simp only[Act.put,Y_a,Y_b,Y_c]
   refine Y_t 7 83 _ (.pointer (some ⟨B11,2,none⟩)) rfl (Or.inl ⟨by kernel_rfl,fun u hu=>by kernel_rfl⟩) hHeld ?_
   simp only[Act.put,Y_a,Y_b,Y_c]
   refine Y_t 8 84 _ (.int .i64 f.B) rfl (Or.inl ⟨by kernel_rfl,fun u hu=>(by obtain⟨_,_,_,hc⟩:=hu;exact Zon hc.cells.2.2.1 (.tmp 83) (by kernel_rfl) (by kernel_rfl))⟩) hHeld ?_
   simp only[Act.put,Y_a,Y_b,Y_c]
   refine Y_t 9 85 _ (.int .i64 m) rfl (Or.inl ⟨by kernel_rfl,fun u hu=>by kernel_rfl⟩) hHeld ?_
   simp only[Act.put,Y_a,Y_b,Y_c]
   refine Y_t 10 86 _ (.int .i64 (f.B-m)) rfl (Or.inl ⟨by kernel_rfl,fun u hu=>ZuV hw2 (.tmp 84) (.tmp 85) (by kernel_rfl) (by kernel_rfl) (by kernel_rfl)⟩) hHeld ?_
   simp only[Act.put,Y_a,Y_b,Y_c]
   refine Y_t 11 87 _ (.pointer (some ⟨W1.heap.size,3,none⟩)) rfl (Or.inl ⟨by kernel_rfl,fun u hu=>by kernel_rfl⟩) hHeld ?_
   simp only[Act.put,Y_a,Y_b,Y_c]
   refine Y_t 12 88 _ (.int .i64 bn) rfl (Or.inl ⟨by kernel_rfl,fun u hu=>(by obtain⟨_,_,hl,_⟩:=hu;exact Zon hl.box.cells.2.2.2.1 (.tmp 87) (by kernel_rfl) (by kernel_rfl))⟩) hHeld ?_
   simp only[Act.put,Y_a,Y_b,Y_c]
   refine Y_e 6 82 _ rfl 130 (.func 130) #[.tmp 79,.tmp 81] #[3,3] (by kernel_rfl) #[] (by kernel_rfl) #[.int .i64 (f.A-m),.int .i64 an] (by kernel_rfl) (enters_of Tryz.func130 (by kernel_rfl) rfl) (fun v u=>v=.int .i64 nA∧u=wz.drewN 1) ((Zwb (f.A-m) an _ (by omega) (by omega) nA HNA).mono (fun _ _ h=>⟨_,h.1,by rw[h.2];exact hSD,rfl,h.2⟩)) ?_
   rintro v w5 hHeld ⟨rfl,rfl⟩
   simp only[Act.put,Y_a,Y_b,Y_c]
   refine Y_t 14 90 _ (.pointer (some ⟨W1.heap.size,0,none⟩)) rfl (Or.inl ⟨by kernel_rfl,fun u hu=>by kernel_rfl⟩) hHeld ?_
   simp only[Act.put,Y_a,Y_b,Y_c]
   refine Y_e 13 89 _ rfl 130 (.func 130) #[.tmp 86,.tmp 88] #[3,3] (by kernel_rfl) #[] (by kernel_rfl) #[.int .i64 (f.B-m),.int .i64 bn] (by kernel_rfl) (enters_of Tryz.func130 (by kernel_rfl) rfl) (fun v u=>v=.int .i64 nB∧u=wz.drewN 1) ((Zwb (f.B-m) bn _ (by omega) (by omega) nB HNB).mono (fun _ _ h=>⟨_,h.1,by rw[h.2];exact hSD,rfl,h.2⟩)) ?_
   rintro v w6 hHeld ⟨rfl,rfl⟩
   simp only[Act.put,Y_a,Y_b,Y_c]
   refine Y_s 15 _ rfl ((wz.drewN 1).setCell ⟨W1.heap.size,0,none⟩ (.int .i64 nA)) (ZuU hfD0 hcD0 (.tmp 90) (.tmp 82) (by kernel_rfl) (by kernel_rfl) (by kernel_rfl)) (hS1) ?_
   refine Y_t 16 91 _ (.pointer (some ⟨W1.heap.size,2,none⟩)) rfl (Or.inl ⟨by kernel_rfl,fun u hu=>by kernel_rfl⟩) hS1 ?_
   simp only[Act.put,Y_a,Y_b,Y_c]
   refine Y_s 17 _ rfl (((wz.drewN 1).setCell ⟨W1.heap.size,0,none⟩ (.int .i64 nA)).setCell ⟨W1.heap.size,2,none⟩ (.int .i64 nB)) (ZuU hfD2 hcD2 (.tmp 91) (.tmp 89) (by kernel_rfl) (by kernel_rfl) (by kernel_rfl)) (hS2) ?_
   refine wpAnyH_done (by kernel_rfl) ?_ _
   refine NoPanic.normal ?_
   generalize ((wz.drewN 1).setCell ⟨W1.heap.size,0,none⟩ (.int .i64 nA)).setCell ⟨W1.heap.size,2,none⟩ (.int .i64 nB)=W4 at *
   have hz4:=hz0.low hL5.low
   obtain⟨t0,t1,t2,t3,t4⟩:=hL5.box.cells
   obtain⟨z0,z1,z2,z3,z4⟩:=hz4.cells
   have zf:=hz4.frozen
   have zf0:=zf 0
   have zf1:=zf 1
   have zf2:=zf 2
   have zf3:=zf 3
   have zf4:=zf 4
   dsimp only at t0 t1 t2 t3 t4 z0 z1 z2 z3 z4
   have hP:=hz4.put5 (.int .i64 nA) (.int .i64 an) (.int .i64 nB) (.int .i64 bn) (.slice oo RL.length oc)
   have hlw:Below w.heap.size w W4:=hB0.trans (hL5.low.mono hB0.size)
   have hown5:=hL5.own
   clear zf
   go_wp2
   rw[HRv.out]
   refine bodyPost_ret (v:=hkV ⟨nA,an,nB,bn,RL⟩ (.slice oo RL.length oc)) (results_cell_row rfl _ _ w.heap.size 45 #[.int .i64 nA,.int .i64 an,.int .i64 nB,.int .i64 bn,.slice oo RL.length oc] (0,0) _ rfl hP Tryz.underlying45 rfl (by kernel_rfl)) rfl ⟨_,rfl,?_,?_⟩
   ·have key:∀ (u:World) (j:Nat) (z:Value),u.ownsRow w.heap.size 47 2 (.slice oo RL.length oc) RL.length (mkcells RL)→(∀ g,(Value.slice oo RL.length oc).ownBlock=some g→w.heap.size<g)→(u.setCell ⟨w.heap.size,j,none⟩ z).ownsRow w.heap.size 47 2 (.slice oo RL.length oc) RL.length (mkcells RL):=fun u j z ho hg=>ZhF ho (ZdS u _ j z) (fun k hk e=>by cases hk;have:=hg _ e;omega)
    have hgg:∀ g,(Value.slice oo RL.length oc).ownBlock=some g→w.heap.size<g:=fun g hg=>by have:=ZhJ hown5 hg;have:=HW1.out;omega
    have h0:W4.ownsRow w.heap.size 47 2 (.slice oo RL.length oc) RL.length (mkcells RL):=ZhC hown5 (by have:=HW1.out;omega)
    exact key _ _ _ (key _ _ _ (key _ _ _ (key _ _ _ (key _ _ _ h0 hgg) hgg) hgg) hgg) hgg
   ·exact ((((hlw.setCell (by simp) _).setCell (by simp) _).setCell (by simp) _).setCell (by simp) _).setCell (by simp) _
end

section
open Go.RowKit
theorem Hs.base {w W u:World} {ov:Value} {P:List (Hk × Value)} (h:Hs W ov P u) (hB:Below w.heap.size w W):Hs w ov P u :=
 ⟨hB.trans (h.low.mono hB.size),ZhC h.own hB.size,fun x hx=>ZhC (h.ins x hx) hB.size⟩
theorem Gr.at {w W u:World} {oo:Option Addr} {n oc:Nat} {G:List (List Ch × Value)} (h:Gr w (.slice oo n oc) G W) (hB:Below W.heap.size W u) {i:Nat} (hi:i<G.length) {g:List Ch} {gv:Value} (hg:G[i]=(g,gv)):∃ q,oo=some ⟨q,0,none⟩∧u.cell? ⟨q,i,none⟩=some gv∧HCh u gv g:=by
 have hh:=Zeo h.own
 obtain⟨b,off,c',hv,hb,hc⟩:=Holds.at hh (by simp;omega)
 rcases h.own.2 with ⟨_,h0⟩ | ⟨q,cap,cur,e,_⟩
 ·omega
 ·cases e
  cases hv
  refine⟨_,rfl,?_,?_⟩
  ·have h1:=hc i (by simpa using hi)
   rw[Nat.zero_add] at h1
   refine ZdW hB ?_
   rw[h1]
   simp[hg]
  ·have hin:=h.ins (g,gv) (by rw[← hg];exact List.getElem_mem hi)
   exact HCh.keep (Zeo hin) hB (Nat.le_refl _)
end

section
open Go.RowKit
theorem ZvE (l:List Ch) (a b:List (List UInt8)) (ctx:Int) (v va vb:Value) (w:World) (hv:HCh w v l) (ha:HS w va a) (hb:HS w vb b) (hl:l.length≤1099511627776) (hal:a.length≤137438953472) (hbl:b.length≤137438953472) (z:Int) (HZ:Hid (grpE l a.length b.length ctx=z)) (R:List Hk) (HR:Hid (mkR l a b ctx=R)):Calls Tryz.prog 48 #[v,va,vb,.int .i64 ctx] w fun e w'=>∃ v' P,e=.returned (.tuple #[v',.int .i64 z])∧Hs w v' P w'∧P.map (·.1)=R:=by
 obtain⟨vo,lc,rfl⟩:=Holds.form hv
 obtain⟨ao,ac,rfl⟩:=Holds.form ha
 obtain⟨bo,bc,rfl⟩:=Holds.form hb
 obtain⟨GR,hGR⟩:∃ GR,grpR l a.length b.length ctx=GR:=⟨_,rfl⟩
 have HGR:Hid (grpR l a.length b.length ctx=GR):=hGR
 have HR1:Hid (GR.map (oneH a b ctx)=R):=(by show _=_;rw[← HR.out,← hGR];rfl)
 clear hGR
 go_enter Tryz.func48,Tryz.ntmps48
 go_wp2_with fail
 refine (ZvB l a.length b.length ctx _ w hv hl (by omega) (by omega) z HZ GR HGR).mono ?_
 rintro e W ⟨gv0,G,rfl,hG,_,hGm⟩
 obtain⟨go,gc,rfl⟩:=(Zeo hG.own).form
 have HGM:Hid (G.map (·.1)=GR):=hGm
 clear hGm HR
 by_cases hz:z=0
 ·subst hz
  have HE:Hid (grp ctx l=GR∧Script l a.length b.length∧0≤ctx∧ctx≤100):=(by
   have h1:=HZ.out
   have h2:=HGR.out
   unfold grpR at h2
   rw[h1,if_pos rfl] at h2
   refine⟨h2,?_⟩
   unfold grpE at h1
   by_cases hs:Script l a.length b.length
   ·refine⟨hs,?_⟩
    rw[ZtW hs] at h1
    by_cases hx:ctx<0∨100<ctx
    ·simp[hx] at h1
    ·omega
   ·rw[ZtU hs] at h1
    simp at h1)
  have hctx:=HE.out.2.2
  have hGl:G.length≤1099511627776:=(by
   have h1:=congrArg List.length HGM.out
   have h2:(grp ctx l).length≤l.length:=(by
    have key:∀ l:List Ch,(grp ctx l).length≤l.length:=by
     intro l
     induction l with
     | nil=>simp[grp]
     | cons c l ih =>
      cases l with
      | nil=>simp[grp,gcons]
      | cons d l =>
       obtain⟨g,gs,p1,p2⟩:=Zvn ctx c d l
       rw[p2]
       rw[p1] at ih
       split<;>simp at ih ⊢<;>omega
    exact key l)
   rw[HE.out.1] at h2
   simp at h1
   omega)
  clear HZ HGR
  go_wp2
  go_loopw [12,30] (fun ov iv wr=>∃ (i:Nat) (P:List (Hk × Value)),i≤G.length∧iv=.int .i64 (i:Int)∧(∃ oo oc,ov=.slice oo i oc)∧Hs W ov P wr∧Hid (P.length=i∧P.map (·.1)=(GR.take i).map (oneH a b ctx))) (fun _ iv _=>G.length-(intOf iv).toNat)
  case atStart=>exact⟨0,[],Nat.zero_le _,by go_num,⟨_,_,rfl⟩,Hs.nil W,⟨rfl,rfl⟩⟩
  case round =>
   obtain⟨i,P,hi,rfl,⟨oo,oc,rfl⟩,hS,HP⟩:=hrel
   by_cases hlt:i<G.length
   ·obtain⟨g,gv,hgi⟩:∃ g gv,G[i]=(g,gv):=⟨_,_,rfl⟩
    obtain⟨q,rfl,hcell,hch⟩:=hG.at hS.low hlt hgi
    have hGRl:GR.length=G.length:=by rw[← HGM.out];simp
    have hGRi:GR[i]'(by omega)=g:=by
     have h1:GR[i]?=some g:=by rw[← HGM.out];simp[hlt,hgi]
     exact (List.getElem?_eq_some_iff.1 h1).2
    have hsp:GR=GR.take i++g::GR.drop (i+1):=by
     rw[← hGRi,← List.drop_eq_getElem_cons (by omega),List.take_append_drop]
    have hgne:g≠[]:=Zvr ctx l g (by rw[HE.out.1,← hGRi];exact List.getElem_mem _)
    obtain⟨f,g',rfl⟩:∃ f g',g=f::g':=by
     cases g with
     | nil=>exact absurd rfl hgne
     | cons f g'=>exact⟨f,g',rfl⟩
    obtain⟨hR1,hR2,hR3,hR4⟩:=ZzZ hctx.1 HE.out.2.1 (HE.out.1.trans hsp)
    have hnums:=ZzB hR1
    have hgl:g'.length≤1099511627776:=(by
     have h1:=congrArg List.length (Zvo ctx l)
     rw[HE.out.1,hsp] at h1
     simp only[List.flatten_append,List.flatten_cons,List.length_append,List.length_cons] at h1
     omega)
    obtain⟨H,hH⟩:∃ H,oneH a b ctx (f::g')=H:=⟨_,rfl⟩
    have HH:Hid (oneH a b ctx (f::g')=H):=hH
    rw[hH] at hR4
    have hBw:Below w.heap.size w wr:=hG.low.trans (hS.low.mono hG.low.size)
    have ha':=HS.keep ha hBw (Nat.le_refl _)
    have hb':=HS.keep hb hBw (Nat.le_refl _)
    obtain⟨ho,hc,rfl⟩:=Holds.form hch
    have HP2:∀ y:Value,Hid ((P++[(H,y)]).length=i+1∧(P++[(H,y)]).map (·.1)=(GR.take (i+1)).map (oneH a b ctx)):=fun y=>(by
     refine⟨by rw[List.length_append,HP.out.1];rfl,?_⟩
     rw[List.map_append,HP.out.2,List.take_succ_eq_append_getElem (by omega),List.map_append,hGRi]
     simp[hH])
    have i1:0≤(i:Int):=by omega
    have i2:(i:Int)<(G.length:Int):=by omega
    clear hsp hGRi hGRl hgne hgi hH
    go_wp2_with fail
    refine (ZvK g' (GR.drop (i+1)).flatten f a b ctx _ _ _ wr hch ha' hb' (by omega) (by omega) hgl hctx hR1 hR3 (fun c hc=>by have:=(Zhj c).1 (hnums c (by simp at hc ⊢;rcases hc with hc | hc;exact .inl hc;exact .inr (.inl hc)));omega) H HH (by omega)).mono ?_
    rintro e wr1 ⟨v1,rfl,hown1,hB1⟩
    obtain⟨ro,rc,rfl⟩:=(Zeo hown1).form
    have hS1:Hs W (.slice oo i oc) P wr1:=⟨hS.low.trans (hB1.mono hS.low.size),ZhK hS.own hB1,fun x hx=>ZhK (hS.ins x hx) hB1⟩
    have hown1':=ZhC hown1 hS.low.size
    have hS5:=hS1.alloc (hkO H (.slice ro H.ls.length rc))
    have hrow5:=Zhz wr1 H (.slice ro H.ls.length rc)
    have hown5:=hown1'.alloc (hkO H (.slice ro H.ls.length rc))
    have hl4:=hS1.low.size
    have hW5:wr1.alloc (Obj.cells #[Value.int IntKind.i64 H.A,Value.int IntKind.i64 H.AN,Value.int IntKind.i64 H.B,Value.int IntKind.i64 H.BN,.slice ro H.ls.length rc] 45)=wr1.alloc (hkO H (.slice ro H.ls.length rc)):=rfl
    have HS5:Hid ((wr1.alloc (hkO H (.slice ro H.ls.length rc))).heap.size=wr1.heap.size+1):=(by show _=_;simp)
    have hownP:=hS5.own
    rw[HP.out.1] at hownP
    unfold hkV
    clear hB1 hown1 hR1 hnums hch hcell
    go_wp2_with (at_builtin;refine Zmi _ (by kernel_rfl) (.tmp 34) (.tmp 40) 40 45 (.agg #[.int .i64 0,.int .i64 0,.int .i64 0,.int .i64 0,.slice none 0 0]) 5 56 rfl Tryz.underlying40 infoHk rfl (by decide) (by decide) W.heap.size _ _ _ rfl hownP _ 1 (hkC H (.slice ro H.ls.length rc)) rfl hrow5 rfl (Zeb _) (by omega) (by have:=HS5.out;omega) ?_)
    intro v6 W6 hown6 hg6 _
    have hS6:=hS5.more hown5 hg6 (ov':=v6) (by rw[HP.out.1];exact hown6)
    obtain⟨ro6,rc6,rfl⟩:=(Zeo hown6).form
    clear hg6 hown6 hownP hrow5
    go_wp2
    exact⟨⟨i+1,P++[(H,.slice ro H.ls.length rc)],by omega,by go_num,⟨_,_,rfl⟩,hS6,HP2 _⟩,by simp[intOf];omega⟩
   ·have hend:decide ((i:Int)<(G.length:Int))=false:=decide_eq_false (by omega)
    have HF:Hid (P.map (·.1)=R):=(by
     have hGRl:GR.length=G.length:=by rw[← HGM.out];simp
     show _=_
     rw[HP.out.2,List.take_of_length_le (by omega)]
     exact HR1.out)
    go_wp2
    go_ret2
    exact⟨_,P,rfl,hS.base hG.low,HF.out⟩
 ·have hz1:(z != 0)=true:=by simpa using hz
  have HRN:Hid (R=[]):=(by
   show _=_
   rw[← HR1.out,← HGR.out]
   unfold grpR
   rw[HZ.out,if_neg hz]
   rfl)
  clear HZ HGR hz
  go_wp2
  go_ret2
  rw[HRN.out]
  exact⟨_,[],rfl,⟨hG.low,Zen _ _ _ _,fun _ h=>by cases h⟩,rfl⟩
end

section
structure Pr where
 X:Int
 Y:Int
abbrev ab (p q:Pr):Prop:=q.X<p.X∧q.Y<p.Y
theorem Zal {p q r:Pr} (h:ab p q) (h':ab q r):ab p r:=⟨Int.lt_trans h'.1 h.1,Int.lt_trans h'.2 h.2⟩
def mxl (p:Pr):List Pr→List Nat→Nat
 | t::ts,n::ns=>if ab t p then max n (mxl p ts ns) else mxl p ts ns
 | _,_=>0
def rl:List Pr→List Nat
 | []=>[]
 | p::t=>(mxl p t (rl t)+1)::rl t
theorem Zgx (p:Pr) (t:List Pr) (ns:List Nat) (k:Nat) (q:Pr) (n:Nat) (hq:t[k]?=some q) (hn:ns[k]?=some n) (ha:ab q p):n≤mxl p t ns:=by
 induction t generalizing ns k with
 | nil=>simp at hq
 | cons a t ih =>
  cases ns with
  | nil=>simp at hn
  | cons b ns =>
   rw[mxl]
   cases k with
   | zero =>
    simp at hq hn
    subst hq hn
    rw[if_pos ha]
    omega
   | succ k =>
    have:=ih ns k (by simpa using hq) (by simpa using hn)
    split<;>omega
theorem Zgw (p:Pr) (t:List Pr) (ns:List Nat) (h:0<mxl p t ns):∃ (k:Nat) (q:Pr),t[k]?=some q∧ns[k]?=some (mxl p t ns)∧ab q p:=by
 induction t generalizing ns with
 | nil=>simp[mxl] at h
 | cons a t ih =>
  cases ns with
  | nil=>simp[mxl] at h
  | cons b ns =>
   rw[mxl] at h ⊢
   by_cases ha:ab a p
   ·rw[if_pos ha] at h ⊢
    by_cases hb:mxl p t ns≤b
    ·exact⟨0,a,rfl,by simp;omega,ha⟩
    ·obtain⟨k,q,h1,h2,h3⟩:=ih ns (by omega)
     exact⟨k+1,q,by simpa using h1,by simp[h2];omega,h3⟩
   ·rw[if_neg ha] at h ⊢
    obtain⟨k,q,h1,h2,h3⟩:=ih ns h
    exact⟨k+1,q,by simpa using h1,by simpa using h2,h3⟩
def Hd (t:List Pr) (n:Nat) (p:Pr):Prop:=∃ (k:Nat) (q:Pr),t[k]?=some q∧(rl t)[k]?=some (n+1)∧ab q p
theorem Hd.down {t:List Pr} {n:Nat} {p:Pr} (h:Hd t (n+1) p):Hd t n p:=by
 obtain⟨k,q,h1,h2,h3⟩:=h
 induction t generalizing k with
 | nil=>simp at h1
 | cons a t ih =>
  cases k with
  | zero =>
   simp[rl] at h1 h2
   subst h1
   obtain⟨j,r,g1,g2,g3⟩:=Zgw a t (rl t) (by omega)
   exact⟨j+1,r,by simpa using g1,by simp[rl,g2,h2],Zal g3 h3⟩
  | succ k =>
   obtain⟨j,r,g1,g2,g3⟩:=ih k (by simpa using h1) (by simpa [rl] using h2)
   exact⟨j+1,r,by simpa using g1,by simpa [rl] using g2,g3⟩
theorem Hd.downs {t : List Pr} {n m : Nat} {p : Pr} (h : Hd t n p) (hm : m ≤ n) : Hd t m p := by
  induction n with
  | zero => obtain rfl : m = 0 := by omega
            exact h
  | succ n ih =>
    by_cases e : m = n + 1
    · subst e; exact h
    · exact ih h.down (by omega)
def Stair (h:List Pr):Prop:=h.Pairwise fun a b=>b.X≤a.X∧a.Y≤b.Y
structure Hds (t:List Pr) (H:List (List Pr)):Prop where
 st:∀ h∈H,Stair h
 eq:∀ n h,H[n]?=some h→∀ p,(∃ a∈h,ab a p)↔Hd t n p
 top:∀ n∈rl t,n≤H.length
theorem Hds.start:Hds [] []:=⟨by simp,by simp,by simp[rl]⟩
theorem Hds.beyond {t:List Pr} {H:List (List Pr)} (h:Hds t H) {n:Nat} (hn:H.length≤n) (p:Pr):¬ Hd t n p:=by
 rintro⟨k,q,h1,h2,h3⟩
 have:=h.top (n+1) (List.mem_of_getElem? h2)
 omega
theorem Zgy {t:List Pr} {H:List (List Pr)} (_h:Hds t H) {p:Pr} {n:Nat} (h1:∀ m,m<n→Hd t m p) (h2:¬ Hd t n p):mxl p t (rl t)=n:=by
 have hle:mxl p t (rl t)≤n:=by
  by_cases hc:mxl p t (rl t)≤n
  ·exact hc
  ·exfalso
   obtain⟨k,q,g1,g2,g3⟩:=Zgw p t (rl t) (by omega)
   have:Hd t (mxl p t (rl t)-1) p:=⟨k,q,g1,by rw[g2];congr 1;omega,g3⟩
   exact h2 (this.downs (by omega))
 cases n with
 | zero=>omega
 | succ n =>
  obtain⟨k,q,g1,g2,g3⟩:=h1 n (Nat.lt_succ_self n)
  have:=Zgx p t (rl t) k q (n+1) g1 g2 g3
  omega
def upto (h:List Pr) (x:Int):Nat:=h.findIdx fun a=>decide (a.X≤x)
def grt (h:List Pr) (y:Int):Nat:=h.findIdx fun a=>decide (y<a.Y)
def ins (h:List Pr) (p:Pr):List Pr:=h.take (upto h p.X)++p::h.drop (grt h p.Y)
theorem ZlN (h:List Pr) (x:Int):upto h x≤h.length:=List.findIdx_le_length
theorem ZlO {h:List Pr} {x:Int} {i:Nat} (hi:i<upto h x) (hl:i<h.length):x<h[i].X:=by
 have:=List.not_of_lt_findIdx (p:=fun a:Pr=>decide (a.X≤x)) (xs:=h) hi
 simpa using this
theorem ZlL {h:List Pr} (hs:Stair h) {x:Int} {i:Nat} (hi:upto h x≤i) (hl:i<h.length):h[i].X≤x:=by
 have h0:upto h x<h.length:=by omega
 have h1:h[upto h x].X≤x:=of_decide_eq_true (List.findIdx_getElem (p:=fun a:Pr=>decide (a.X≤x)) (xs:=h) (w:=h0))
 by_cases e:upto h x=i
 ·simpa [e] using h1
 ·have:=(List.pairwise_iff_getElem.1 hs) (upto h x) i h0 hl (by omega)
  omega
theorem ZdV {h:List Pr} {y:Int} {i:Nat} (hi:i<grt h y) (hl:i<h.length):h[i].Y≤y:=by
 have:=List.not_of_lt_findIdx (p:=fun a:Pr=>decide (y<a.Y)) (xs:=h) hi
 simpa using this
theorem ZdU {h:List Pr} (hs:Stair h) {y:Int} {i:Nat} (hi:grt h y≤i) (hl:i<h.length):y<h[i].Y:=by
 have h0:grt h y<h.length:=by omega
 have h1:y<h[grt h y].Y:=of_decide_eq_true (List.findIdx_getElem (p:=fun a:Pr=>decide (y<a.Y)) (xs:=h) (w:=h0))
 by_cases e:grt h y=i
 ·simpa [e] using h1
 ·have:=(List.pairwise_iff_getElem.1 hs) (grt h y) i h0 hl (by omega)
  omega
theorem ZlM {h:List Pr} (hs:Stair h) {p:Pr} (hn:¬ ∃ a∈h,ab a p):upto h p.X≤grt h p.Y:=by
 by_cases c:upto h p.X≤grt h p.Y
 ·exact c
 ·exfalso
  have hl:=ZlN h p.X
  exact hn ⟨h[grt h p.Y]'(by omega),List.getElem_mem _,ZlO (by omega) (by omega),ZdU hs (Nat.le_refl _) (by omega)⟩
theorem ZeL {h:List Pr} (hs:Stair h) {p:Pr} (hn:¬ ∃ a∈h,ab a p):Stair (ins h p):=by
 unfold ins Stair
 rw[List.pairwise_append]
 refine⟨hs.take,?_,?_⟩
 ·rw[List.pairwise_cons]
  refine⟨fun a ha=>?_,hs.drop⟩
  obtain⟨i,hi,rfl⟩:=List.getElem_of_mem ha
  rw[List.length_drop] at hi
  rw[List.getElem_drop]
  have hug:=ZlM hs hn
  exact⟨ZlL hs (by omega) (by omega),Int.le_of_lt (ZdU hs (by omega) (by omega))⟩
 ·intro a ha b hb
  obtain⟨i,hi,rfl⟩:=List.getElem_of_mem ha
  rw[List.length_take] at hi
  rw[List.getElem_take]
  have h1:=ZlO (h:=h) (x:=p.X) (i:=i) (by omega) (by omega)
  rw[List.mem_cons] at hb
  rcases hb with hb | hb
  ·rw[hb]
   refine⟨Int.le_of_lt h1,?_⟩
   by_cases c:h[i].Y≤p.Y
   ·exact c
   ·exact absurd ⟨h[i],List.getElem_mem _,h1,by omega⟩ hn
  ·obtain⟨j,hj,rfl⟩:=List.getElem_of_mem hb
   rw[List.length_drop] at hj
   rw[List.getElem_drop]
   have hug:=ZlM hs hn
   exact (List.pairwise_iff_getElem.1 hs) i (grt h p.Y+j) (by omega) (by omega) (by omega)
theorem ZeK {h:List Pr} (hs:Stair h) {p:Pr} (hn:¬ ∃ a∈h,ab a p) (q:Pr):(∃ a∈ins h p,ab a q)↔ab p q∨∃ a∈h,ab a q:=by
 constructor
 ·rintro⟨a,ha,hq⟩
  unfold ins at ha
  rw[List.mem_append,List.mem_cons] at ha
  rcases ha with ha | rfl | ha
  ·exact .inr ⟨a,List.mem_of_mem_take ha,hq⟩
  ·exact .inl hq
  ·exact .inr ⟨a,List.mem_of_mem_drop ha,hq⟩
 ·rintro (hq | ⟨a,ha,hq⟩)
  ·exact⟨p,by simp[ins],hq⟩
  ·obtain⟨i,hi,rfl⟩:=List.getElem_of_mem ha
   by_cases c1:i<upto h p.X
   ·refine⟨h[i],?_,hq⟩
    unfold ins
    rw[List.mem_append]
    left
    rw[List.mem_take_iff_getElem]
    exact⟨i,by omega,rfl⟩
   ·by_cases c2:i<grt h p.Y
    ·have h1:=ZlL hs (x:=p.X) (i:=i) (by omega) hi
     have h2:=ZdV (y:=p.Y) (i:=i) c2 hi
     have:=hq.1
     have:=hq.2
     exact⟨p,by simp[ins],by unfold ab;omega⟩
    ·refine⟨h[i],?_,hq⟩
     unfold ins
     rw[List.mem_append,List.mem_cons]
     right;right
     rw[List.mem_drop_iff_getElem]
     exact⟨i-grt h p.Y,by omega,by congr 1;omega⟩
def room (H:List (List Pr)) (n:Nat):List (List Pr):=if n=H.length then H++[[]] else H
theorem Hds.step {t:List Pr} {H:List (List Pr)} (h:Hds t H) {p:Pr} {n:Nat} (hn:n≤H.length) (h1:∀ m,m<n→Hd t m p) (h2:¬ Hd t n p) (g:List Pr) (hg:(room H n)[n]?=some g) :
  Hds (p::t) ((room H n).set n (ins g p))∧rl (p::t)=(n+1)::rl t∧Stair g∧¬ ∃ a∈g,ab a p:=by
 have hm:=Zgy h h1 h2
 have hr:rl (p::t)=(n+1)::rl t:=by rw[rl,hm]
 have hgs:Stair g∧∀ q,(∃ a∈g,ab a q)↔Hd t n q:=by
  unfold room at hg
  by_cases e:n=H.length
  ·rw[if_pos e,e,List.getElem?_append_right (Nat.le_refl _)] at hg
   simp at hg
   subst hg
   exact⟨List.Pairwise.nil,fun q=>⟨by simp,fun hh=>absurd hh (h.beyond (by omega) q)⟩⟩
  ·rw[if_neg e] at hg
   exact⟨h.st g (List.mem_of_getElem? hg),h.eq n g hg⟩
 have hna:¬ ∃ a∈g,ab a p:=fun c=>h2 ((hgs.2 p).1 c)
 have hlen:H.length≤(room H n).length∧n<(room H n).length:=by unfold room;split<;>simp<;>omega
 refine⟨⟨?_,?_,?_⟩,hr,hgs.1,hna⟩
 ·intro k hk
  rcases List.mem_or_eq_of_mem_set hk with hk | rfl
  ·unfold room at hk
   split at hk
   ·rw[List.mem_append,List.mem_singleton] at hk
    rcases hk with hk | rfl
    ·exact h.st k hk
    ·exact List.Pairwise.nil
   ·exact h.st k hk
  ·exact ZeL hgs.1 hna
 ·intro m k hk q
  by_cases e:m=n
  ·subst e
   rw[List.getElem?_set_self hlen.2] at hk
   cases hk
   rw[ZeK hgs.1 hna,hgs.2]
   constructor
   ·rintro (hq | ⟨j,r,g1,g2,g3⟩)
    ·exact⟨0,p,rfl,by rw[hr];rfl,hq⟩
    ·exact⟨j+1,r,by simpa using g1,by rw[hr];simpa using g2,g3⟩
   ·rintro⟨j,r,g1,g2,g3⟩
    cases j with
    | zero=>simp at g1;subst g1;exact .inl g3
    | succ j=>exact .inr ⟨j,r,by simpa using g1,by rw[hr] at g2;simpa using g2,g3⟩
  ·rw[List.getElem?_set_ne (fun e'=>e e'.symm)] at hk
   have hk':H[m]?=some k:=by
    unfold room at hk
    split at hk
    ·by_cases hml:m<H.length
     ·rwa [List.getElem?_append_left hml] at hk
     ·have:=(List.getElem?_eq_some_iff.1 hk).1
      simp at this
      omega
    ·exact hk
   rw[h.eq m k hk']
   constructor
   ·rintro⟨j,r,g1,g2,g3⟩
    exact⟨j+1,r,by simpa using g1,by rw[hr];simpa using g2,g3⟩
   ·rintro⟨j,r,g1,g2,g3⟩
    cases j with
    | zero=>rw[hr] at g2;simp at g2;omega
    | succ j=>exact⟨j,r,by simpa using g1,by rw[hr] at g2;simpa using g2,g3⟩
 ·intro m hm'
  rw[hr,List.mem_cons] at hm'
  rw[List.length_set]
  rcases hm' with rfl | hm'
  ·omega
  ·have:=h.top m hm'
   omega
end

section
def lc:List Int→List Int→Nat
 | [],_=>0
 | _::_,[]=>0
 | a::x,b::y=>if a=b then lc x y+1 else max (lc x (b::y)) (lc (a::x) y)
theorem Zoi (y:List Int):lc [] y=0:=by rw[lc]
theorem Zoj (x:List Int):lc x []=0:=by cases x<;>rw[lc]
def gr:List Int→List Int→Nat
 | [],_=>0
 | _::_,[]=>0
 | a::x,b::y=>if a=b then gr x y+1 else gr (a::x) y
def kp (b:Int):List Int→List Int→List Int
 | [],_=>[]
 | _::x,[]=>-1::kp b x []
 | a::x,c::y=>if a=c then b::kp (b+1) x y else if lc (a::x) y≤lc x (c::y) then -1::kp b x (c::y) else kp (b+1) (a::x) y
theorem Zfn (b:Int) (y:List Int):kp b [] y=[]:=by rw[kp]
theorem Zfo (b:Int) (x:List Int):kp b x []=List.replicate x.length (-1):=by
 induction x with
 | nil=>rw[kp];rfl
 | cons a x ih=>rw[kp,ih];rfl
theorem Vk.up {a b m:Int} {K:List Int} (h:Vk b m K) (hab:a≤b):Vk a m K:=by
 induction K with
 | nil=>trivial
 | cons z t ih =>
  rcases h with ⟨h1,h2⟩ | ⟨h1,h2,h3⟩
  ·exact .inl ⟨h1,ih h2⟩
  ·exact .inr ⟨h1,by omega,h3⟩
theorem Vk.none (b m:Int) (k:Nat):Vk b m (List.replicate k (-1)):=by
 induction k with
 | zero=>trivial
 | succ k ih=>exact .inl ⟨rfl,ih⟩
def fr:List Int→List Int→Nat
 | a::x,b::y=>if a=b then fr x y+1 else 0
 | _,_=>0
def ln (x y:List Int) (i j:Nat):Nat:=lc (x.drop i) (y.drop j)
theorem Zok (x y:List Int) (i j:Nat) (h:x.length≤i∨y.length≤j):ln x y i j=0:=by
 rcases h with h | h
 ·rw[ln,List.drop_of_length_le h,Zoi]
 ·rw[ln,List.drop_of_length_le h,Zoj]
end

section
open Go.RowKit
theorem Vk.lt {nx m:Int} {K:List Int} (h:Vk nx m K):∀ z∈K,z=-1∨z<m:=by
 induction K generalizing nx with
 | nil=>simp
 | cons y t ih =>
  intro z hz
  rw[List.mem_cons] at hz
  rcases h with ⟨rfl,h⟩ | ⟨hy,h1,h2,h3⟩
  ·rcases hz with rfl | hz
   ·exact .inl rfl
   ·exact ih h z hz
  ·rcases hz with rfl | hz
   ·exact .inr h2
   ·exact ih h3 z hz
end

section
open Go.RowKit
end

section
open Go.RowKit
theorem ZeC {W i j i' j':Nat} (hj:j<W) (hj':j'<W) (h:i * W+j=i' * W+j'):i=i'∧j=j':=by
 have h1:(i * W+j) / W=i:=by rw[Nat.mul_comm,Nat.mul_add_div (by omega),Nat.div_eq_of_lt hj,Nat.add_zero]
 have h2:(i' * W+j') / W=i':=by rw[Nat.mul_comm,Nat.mul_add_div (by omega),Nat.div_eq_of_lt hj',Nat.add_zero]
 have h3:i=i':=by rw[← h1,← h2,h]
 subst h3
 exact⟨rfl,by omega⟩
theorem ZeD {W i j n:Nat} (hj:j<W) (hi:i≤n):i * W+j<(n+1) * W:=by
 have:i * W≤n * W:=Nat.mul_le_mul_right _ hi
 rw[Nat.succ_mul]
 omega
def Done (x y:List Int) (k c:Nat) (Y:List Value):Prop:=∀ i j,i≤x.length→j≤y.length→(k<i∨(i=k∧c≤j)∨j=y.length)→Y[i * (y.length+1)+j]?=some (.int .i16 ((ln x y i j:Nat):Int))
theorem Done.start (x y:List Int) (N:Nat) (hN:N=(x.length+1) * (y.length+1)):Done x y x.length 0 (List.replicate N (.int .i16 0)):=by
 intro i j hi hj h
 rw[Zok x y i j (by omega),List.getElem?_replicate,if_pos (by rw[hN];exact ZeD (by omega) hi)]
 rfl
theorem Done.next {x y:List Int} {i:Nat} {Y:List Value} (h:Done x y (i+1) 0 Y):Done x y i y.length Y:=by
 intro i' j' hi hj hc
 exact h i' j' hi hj (by omega)
theorem Done.set {x y : List Int} {i j : Nat} {Y : List Value} (h : Done x y i (j + 1) Y) (hi : i ≤ x.length) (hj : j < y.length) (hY : Y.length = (x.length + 1) * (y.length + 1)) (p : Nat) (hp : p = i * (y.length + 1) + j) (v : Int) (hv : v = ((ln x y i j : Nat) : Int)) : Done x y i j (Y.set p (.int .i16 v)) := by
  intro i' j' hi' hj' hc
  subst hp hv
  by_cases e : i' * (y.length + 1) + j' = i * (y.length + 1) + j
  · obtain ⟨rfl, rfl⟩ := ZeC (by omega) (by omega) e
    rw [List.getElem?_set_self]
    rw [hY]
    exact ZeD (by omega) hi
  · rw [List.getElem?_set_ne (fun h => e h.symm)]
    refine h i' j' hi' hj' ?_
    rcases hc with hc | ⟨rfl, hc⟩ | hc
    · exact .inl hc
    · exact .inr (.inl ⟨rfl, by by_cases q : j' = j; · subst q; exact absurd rfl e
                                · omega⟩)
    · exact .inr (.inr hc)
structure Bx (b W g N:Nat) (wr w:World):Prop where
 box:w.heap[b]?=some (Obj.cells #[.int .i64 (W:Int),.slice (some ⟨g,0,none⟩) N N] 282 (0,0))
 low:Below wr.heap.size wr w
theorem Bx.cells {b W g N:Nat} {wr w:World} (h:Bx b W g N wr w):w.cell? ⟨b,0,none⟩=some (.int .i64 (W:Int))∧w.cell? ⟨b,1,none⟩=some (.slice (some ⟨g,0,none⟩) N N):=⟨by rw[Lib.cell_of_heap h.box];rfl,by rw[Lib.cell_of_heap h.box];rfl⟩
theorem ZaL (b W g N:Nat) (wr w:World):Bx b W g N wr w.drew↔Bx b W g N wr w:=⟨fun h=>⟨h.box,⟨h.low.os,h.low.tape,h.low.output,h.low.size,h.low.block⟩⟩,fun h=>⟨h.box,Below.dN h.low 1⟩⟩
theorem Bx.keep {b W g N:Nat} {wr w w':World} (h:Bx b W g N wr w) (hb:Below w.heap.size w w'):Bx b W g N wr w':=⟨(hb.block b (Array.getElem?_eq_some_iff.1 h.box).1).trans h.box,h.low.trans (hb.mono h.low.size)⟩
attribute [local simp] ZaL
structure Ms (w:World) (M N:Nat) (Y:List Value) (wr:World):Prop where
 low:Below w.heap.size w wr
 res:wr.heap[w.heap.size]?=some (Obj.cells #[Value.int IntKind.i64 0,Value.slice none 0 0] 282 (0,0))
 own:wr.ownsRow w.heap.size 323 1 (.slice (some ⟨w.heap.size+1,0,none⟩) N N) N Y
 box:wr.heap[w.heap.size+1+1]?=some (Obj.cells #[.int .i64 (M:Int),.slice (some ⟨w.heap.size+1,0,none⟩) N N] 282 (0,0))
theorem Ms.keep {w:World} {M N:Nat} {Y:List Value} {wr w':World} (h:Ms w M N Y wr) (hb:Below wr.heap.size wr w'):Ms w M N Y w' :=
 ⟨h.low.trans (hb.mono h.low.size),(hb.block _ (Array.getElem?_eq_some_iff.1 h.res).1).trans h.res,ZhK h.own hb,(hb.block _ (Array.getElem?_eq_some_iff.1 h.box).1).trans h.box⟩
theorem Ms.bx {w:World} {M N:Nat} {Y:List Value} {wr:World} (h:Ms w M N Y wr):Bx (w.heap.size+1+1) M (w.heap.size+1) N wr wr:=⟨h.box,Below.refl _ _⟩
theorem Ms.store {w:World} {M N:Nat} {Y:List Value} {wr:World} (h:Ms w M N Y wr) (p:Nat) (v:Value):Ms w M N (Y.set p v) (wr.setCell ⟨w.heap.size+1,p,none⟩ v):=by
 obtain⟨p1,g1⟩:=h.own.stored p v
 refine⟨h.low.grown g1 h.low.size (fun j hj=>by cases hj;omega),?_,p1,?_⟩
 ·exact (g1.block _ (Array.getElem?_eq_some_iff.1 h.res).1 (fun e=>by have:=Option.some.inj e;omega)).trans h.res
 ·exact (g1.block _ (Array.getElem?_eq_some_iff.1 h.box).1 (fun e=>by have:=Option.some.inj e;omega)).trans h.box
theorem Ms.drewN {w:World} {M N:Nat} {Y:List Value} {wr:World} (h:Ms w M N Y wr) (n:Nat):Ms w M N Y (wr.drewN n):=⟨Below.dN h.low n,h.res,h.own,h.box⟩
theorem Ms.at {w:World} {M N:Nat} {Y:List Value} {wr:World} (h:Ms w M N Y wr) {x y:List Int} {k c i j p:Nat} (hd:Done x y k c Y) (hM:M=y.length+1) (hN:N=(x.length+1) * M) (hi:i≤x.length) (hj:j≤y.length) (hc:k<i∨(i=k∧c≤j)∨j=y.length) (hp:p=i * M):wr.cell? ⟨w.heap.size+1,p+j,none⟩=some (.int .i16 ((ln x y i j:Nat):Int)):=by
 have:=h.own.cellAt (p+j) (by rw[hp,hN,Nat.mul_one];exact ZeD (by omega) hi)
 rw[this,hp,hM]
 exact hd i j hi hj hc
end

section
open Go.RowKit
end

section
open Go.RowKit
attribute [local simp] ZfM
theorem Low.then {W w w':World} (h:Low W w) (hb:Below w.heap.size w w'):Low W w':=Below.trans h (hb.mono (Below.size h))
end

section
open Go.RowKit
attribute [local simp] ZfM
def Ones (cur:List Value) (N k:Nat):Prop:=cur.length=N∧cur.take k=icells (List.replicate k (-1))
theorem Ones.more {cur:List Value} {N k d:Nat} (h:Ones cur N k) (hk:k+d≤N):Ones (splice cur k (icells (List.replicate d (-1)))) N (k+d):=by
 refine⟨?_,?_⟩
 ·rw[length_splice _ _ _ (by rw[Zes,h.1];simpa using hk),h.1]
 ·have h1:(cur.take k).length=k:=by rw[List.length_take,h.1];omega
  rw[splice,← List.append_assoc,List.take_left' (by rw[List.length_append,h1,Zes,List.length_replicate]),h.2,← Zer,List.replicate_append_replicate]
theorem Ones.cell {cur:List Value} {N k:Nat} (h:Ones cur N k) (j:Nat) (hj:j<k):cur[j]?=some (.int .i64 (-1)):=by
 have:(cur.take k)[j]?=some (.int .i64 (-1)):=by rw[h.2];simp[icells,hj]
 rw[List.getElem?_take] at this
 simpa [hj] using this
end

section
open Go.RowKit
def Pt (K Z:List Int) (n a:Nat) (b:Int) (X Y:List Int):Prop:=∃ P:List Int,P.length=a∧a≤n∧Z=P++List.replicate (n-a) (-1)∧P++kp b X Y=K
theorem Pt.start (x y:List Int):Pt (kp 0 x y) (List.replicate x.length (-1)) x.length 0 0 x y:=⟨[],rfl,Nat.zero_le _,by simp,by simp⟩
theorem Pt.len {K Z:List Int} {n a:Nat} {b:Int} {X Y:List Int} (h:Pt K Z n a b X Y):Z.length=n:=by
 obtain⟨P,h1,h2,h3,_⟩:=h
 rw[h3,List.length_append,h1,List.length_replicate]
 omega
theorem Pt.pair {K Z:List Int} {n a:Nat} {b:Int} {X Y X' Y':List Int} (h:Pt K Z n a b X Y) (hn:a<n) (hk:kp b X Y=b::kp (b+1) X' Y'):Pt K (Z.set a b) n (a+1) (b+1) X' Y':=by
 obtain⟨P,h1,h2,h3,h4⟩:=h
 refine⟨P++[b],by simp[h1],hn,?_,by rw[← h4,hk];simp⟩
 rw[h3,show n-a=(n-(a+1))+1 by omega,List.replicate_succ,List.set_append_right _ _ (by omega),h1]
 simp
theorem Pt.out {K Z:List Int} {n a:Nat} {b:Int} {X Y X':List Int} (h:Pt K Z n a b X Y) (hn:a<n) (hk:kp b X Y=-1::kp b X' Y):Pt K Z n (a+1) b X' Y:=by
 obtain⟨P,h1,h2,h3,h4⟩:=h
 refine⟨P++[-1],by simp[h1],hn,?_,by rw[← h4,hk];simp⟩
 rw[h3,show n-a=(n-(a+1))+1 by omega,List.replicate_succ]
 simp
theorem Pt.skip {K Z:List Int} {n a:Nat} {b:Int} {X Y Y':List Int} (h:Pt K Z n a b X Y) (hk:kp b X Y=kp (b+1) X Y'):Pt K Z n a (b+1) X Y':=by
 obtain⟨P,h1,h2,h3,h4⟩:=h
 exact⟨P,h1,h2,h3,by rw[← h4,hk]⟩
theorem Pt.done {K Z:List Int} {n a:Nat} {b:Int} {X Y:List Int} (h:Pt K Z n a b X Y) (hX:X.length=n-a) (he:X=[]∨Y=[]):Z=K:=by
 obtain⟨P,h1,h2,h3,h4⟩:=h
 rcases he with rfl | rfl
 ·rw[Zfn,List.append_nil] at h4
  simp at hX
  rw[h3,← hX,← h4]
  simp
 ·rw[Zfo,hX] at h4
  rw[h3,h4]
structure Kst (w:World) (g gt bx n M N:Nat) (Z:List Int) (T:List Value) (wr:World):Prop where
 low:Below w.heap.size w wr
 own:wr.ownsRow w.heap.size 3 1 (.slice (some ⟨g,0,none⟩) n n) n (icells Z)
 tab:wr.ownsRow w.heap.size 323 1 (.slice (some ⟨gt,0,none⟩) N N) N T
 box:wr.heap[bx]?=some (Obj.cells #[.int .i64 (M:Int),.slice (some ⟨gt,0,none⟩) N N] 282 (0,0))
section
variable {w:World} {g gt bx n M N:Nat} {Z:List Int} {T:List Value} {wr:World}
theorem Kst.keep {w':World} (h:Kst w g gt bx n M N Z T wr) (hb:Below wr.heap.size wr w'):Kst w g gt bx n M N Z T w' :=
 ⟨h.low.trans (hb.mono h.low.size),ZhK h.own hb,ZhK h.tab hb,(hb.block _ (Array.getElem?_eq_some_iff.1 h.box).1).trans h.box⟩
theorem Kst.drewN (h:Kst w g gt bx n M N Z T wr) (k:Nat):Kst w g gt bx n M N Z T (wr.drewN k):=⟨Below.dN h.low k,h.own,h.tab,h.box⟩
theorem ZhB {base:Nat} {e:TypeId} {s:Nat} {g n c:Nat} {xs:List Value} (h:wr.ownsRow base e s (.slice (some ⟨g,0,none⟩) n c) n xs):base≤g∧∃ cur,wr.heap[g]?=some (.cells cur e (0,0)):=by
 rcases h.2 with ⟨h,_⟩ | ⟨g',cap,cur,h,hb,hc,_⟩
 ·cases h
 ·cases h
  exact⟨hb,cur,hc⟩
theorem Kst.store (h:Kst w g gt bx n M N Z T wr) (p:Nat) (v:Int):Kst w g gt bx n M N (Z.set p v) T (wr.setCell ⟨g,p,none⟩ (.int .i64 v)):=by
 obtain⟨p1,g1⟩:=h.own.stored p (.int .i64 v)
 obtain⟨hgb,cur,hg⟩:=ZhB h.own
 obtain⟨_,cur',hgt⟩:=ZhB h.tab
 have e:(icells Z).set p (.int .i64 v)=icells (Z.set p v):=by simp[icells,List.map_set]
 rw[e] at p1
 refine⟨h.low.grown g1 h.low.size (fun j hj=>by have:=Option.some.inj hj;omega),p1,?_,?_⟩
 ·refine h.tab.kept g1 (.inr ?_)
  intro q
  have:gt=g:=by simpa [Value.ownBlock] using q
  subst this
  rw[hg] at hgt
  cases hgt
 ·refine (g1.block _ (Array.getElem?_eq_some_iff.1 h.box).1 (fun q=>?_)).trans h.box
  have:bx=g:=by simpa using q
  subst this
  have:=h.box
  rw[hg] at this
  cases this
end
theorem Bx.cell {b W g N:Nat} {wr w:World} (h:Bx b W g N wr w) {a:Addr} {v:Value} (hc:wr.cell? a=some v):w.cell? a=some v:=by
 rw[World.cell?_of_block (w:=wr) (h.low.block _ (World.block_lt_of_cell? wr _ hc))];exact hc
end

section
open Go.RowKit
attribute [local simp] ZaL
end

section
open Go.RowKit
end

section
theorem Right.many {f:Bool} {a b n m:Int} {l:List Ch} (h:Right f a b n m l):(l.length:Int)≤(n-a)+(m-b):=by
 induction l generalizing f a b with
 | nil=>have:=h.le;simp;omega
 | cons c l ih =>
  obtain⟨⟨h1,h2,h3,h4⟩,h5⟩:=h
  rw[Zhj] at h1
  have:=ih h5
  simp only[List.length_cons]
  omega
end

section
def sub (x:List Int) (a b:Nat):List Int:=(x.drop a).take (b-a)
def tfN (x y:List Int):Nat→Nat→Nat→Nat
 | 0,_,_=>0
 | n+1,a,c=>if x[a]?=y[c]? then tfN x y n (a+1) (c+1)+1 else 0
def tf (x y:List Int) (a b c d:Nat):Nat:=tfN x y (min (b-a) (d-c)) a c
theorem ZkL (x y:List Int) (a b c d:Nat):tf x y a b c d=if a<b∧c<d∧x[a]?=y[c]? then tf x y (a+1) b (c+1) d+1 else 0:=by
 unfold tf
 by_cases h:a<b∧c<d
 ·rw[show min (b-a) (d-c)=min (b-(a+1)) (d-(c+1))+1 by omega,tfN]
  by_cases e:x[a]?=y[c]?
  ·rw[if_pos e,if_pos ⟨h.1,h.2,e⟩]
  ·rw[if_neg e,if_neg (fun q=>e q.2.2)]
 ·rw[show min (b-a) (d-c)=0 by omega,tfN,if_neg (fun q=>h ⟨q.1,q.2.1⟩)]
def tb (x y:List Int) (a b c d:Nat):Nat:=if a<b∧c<d∧x[b-1]?=y[d-1]? then tb x y a (b-1) c (d-1)+1 else 0
def fp (a c:Nat):Nat→List Pr
 | 0=>[]
 | k+1=>⟨a,c⟩::fp (a+1) (c+1) k
def bp (b d:Nat):Nat→List Pr
 | 0=>[]
 | k+1=>⟨(b-1:Nat),(d-1:Nat)⟩::bp (b-1) (d-1) k
def Wn (a b c d:Nat) (p:Pr):Prop:=(a:Int)≤p.X∧p.X<b∧(c:Int)≤p.Y∧p.Y<d
def ends (x y:List Int) (N:Nat→Nat→Nat→Nat→List Pr) (a b c d:Nat):List Pr :=
 fp a c (tf x y a b c d)++(bp b d (tb x y (a+tf x y a b c d) b (c+tf x y a b c d) d) ++
  (if a+tf x y a b c d<b-tb x y (a+tf x y a b c d) b (c+tf x y a b c d) d∧c+tf x y a b c d<d-tb x y (a+tf x y a b c d) b (c+tf x y a b c d) d then
   N (a+tf x y a b c d) (b-tb x y (a+tf x y a b c d) b (c+tf x y a b c d) d) (c+tf x y a b c d) (d-tb x y (a+tf x y a b c d) b (c+tf x y a b c d) d)
  else []))
def wrk (K:List Int) (l:List Pr):List Int:=l.foldl (fun K p=>K.set p.X.toNat p.Y) K
theorem Zmo (K:List Int) (p:Pr) (b:List Pr):wrk K (p::b)=wrk (K.set p.X.toNat p.Y) b:=rfl
theorem Zmq (K:List Int) (l:List Pr):(wrk K l).length=K.length:=by
 induction l generalizing K with
 | nil=>rfl
 | cons p l ih=>rw[Zmo,ih,List.length_set]
theorem Zmn (K:List Int) (l:List Pr) (u:Nat) (v:Int) (h:∀ p∈l,p.X.toNat≠u):wrk (K.set u v) l=(wrk K l).set u v:=by
 induction l generalizing K with
 | nil=>rfl
 | cons p l ih =>
  rw[Zmo,Zmo,List.set_comm _ _ (fun e=>h p (List.mem_cons_self ..) e.symm),ih _ (fun q hq=>h q (List.mem_cons_of_mem _ hq))]
def Ris (l:List Pr):Prop:=∀ p∈l,∀ q∈l,p=q∨ab q p∨ab p q
structure Okp (x y:List Int) (a b c d:Nat) (l:List Pr):Prop where
 wn:∀ p∈l,Wn a b c d p
 ris:Ris l
 eqs:∀ p∈l,x[p.X.toNat]?=y[p.Y.toNat]?
section
variable {x y:List Int}
theorem Okp.nil (a b c d:Nat):Okp x y a b c d []:=⟨fun p hp=>by simp at hp,fun p hp=>by simp at hp,fun p hp=>by simp at hp⟩
theorem Okp.mono {a b c d a' b' c' d':Nat} {l:List Pr} (h:Okp x y a b c d l) (ha:a'≤a) (hb:b≤b') (hc:c'≤c) (hd:d≤d'):Okp x y a' b' c' d' l:=⟨fun p hp=>by have:=h.wn p hp;unfold Wn at this ⊢;omega,h.ris,h.eqs⟩
theorem Okp.one {a c:Nat} (h:x[a]?=y[c]?):Okp x y a (a+1) c (c+1) [⟨a,c⟩]:=⟨fun p hp=>by simp at hp;subst hp;unfold Wn;dsimp only;omega,fun p hp q hq=>by simp at hp hq;subst hp;subst hq;exact .inl rfl,fun p hp=>by simp at hp;subst hp;simpa using h⟩
end
theorem Zmp (l:List Pr) (n:Nat) (hr:Ris l) (hw:∀ p∈l,0≤p.X∧p.X<n):∀ K:List Int,K.length=n→∀ p∈l,(wrk K l)[p.X.toNat]?=some p.Y:=by
 induction l with
 | nil=>intro K _ p hp;simp at hp
 | cons q l ih =>
  intro K hK p hp
  rw[Zmo]
  have ih':=ih (fun a ha b hb=>hr a (List.mem_cons_of_mem _ ha) b (List.mem_cons_of_mem _ hb)) (fun a ha=>hw a (List.mem_cons_of_mem _ ha)) (K.set q.X.toNat q.Y) (by rw[List.length_set];exact hK)
  by_cases h:p∈l
  ·exact ih' p h
  ·have e:p=q:=(List.mem_cons.1 hp).resolve_right h
   subst e
   have hb:=hw p (List.mem_cons_self ..)
   by_cases hx:∃ r∈l,r.X.toNat=p.X.toNat
   ·obtain⟨r,h1,h2⟩:=hx
    have hrb:=hw r (List.mem_cons_of_mem _ h1)
    rcases hr p (List.mem_cons_self ..) r (List.mem_cons_of_mem _ h1) with e | e | e
    ·subst e;exact ih' p h1
    ·have:=e.1;omega
    ·have:=e.1;omega
   ·rw[Zmn K l _ _ (fun r h1 h2=>hx ⟨r,h1,h2⟩),List.getElem?_set_self (by rw[Zmq];omega)]
structure Kpt (x y K:List Int):Prop where
 vk:Vk 0 y.length K
 len:K.length=x.length
 eqs:∀ (i q:Nat),K[i]?=some (q:Int)→x[i]?=y[q]?
theorem Okp.at {x y:List Int} {l:List Pr} (h:Okp x y 0 x.length 0 y.length l) {p:Pr} (hp:p∈l):(wrk (List.replicate x.length (-1)) l)[p.X.toNat]?=some p.Y :=
 Zmp l x.length h.ris (fun q hq=>by have:=h.wn q hq;unfold Wn at this;omega) _ (by simp) p hp
end

section
structure Hr where
 X:Nat
 Y:Nat
 N:Nat
 R:Nat
def cnt (x:List Int) (k:Nat):Nat:=match x[k]? with
 | some c=>x.count c
 | none=>x.length
def rar (x:List Int) (i:Nat):Nat→Nat
 | 0=>x.length
 | n+1=>min (rar x i n) (cnt x (i+n))
def tl (x y:List Int) (i j:Nat):Nat:=tf x y i x.length j y.length
def hd (x y:List Int) (i j:Nat):Nat:=tb x y 0 i 0 j
theorem ZkT (x y:List Int) (i j:Nat):tl x y i j=if i<x.length∧j<y.length∧x[i]?=y[j]? then tl x y (i+1) (j+1)+1 else 0:=by unfold tl;rw[ZkL]
structure IsRun (x y:List Int) (r:Hr):Prop where
 hx:r.X<x.length
 hy:r.Y<y.length
 same:x[r.X]?=y[r.Y]?
 fst:¬ (0<r.X∧0<r.Y∧x[r.X-1]?=y[r.Y-1]?)
 n:r.N=tl x y r.X r.Y
 r:r.R=rar x r.X r.N
def hlt (r b:Hr):Prop:=r.R<b.R∨(r.R=b.R∧(b.N<r.N∨(r.N=b.N∧(r.X<b.X∨(r.X=b.X∧r.Y<b.Y)))))
def Bst (x y:List Int) (b:Hr):Prop:=IsRun x y b∧∀ r,IsRun x y r→r=b∨hlt b r
theorem Bst.one {x y:List Int} {a b:Hr} (ha:Bst x y a) (hb:Bst x y b):a=b:=by
 rcases ha.2 b hb.1 with h | h
 ·exact h.symm
 ·rcases hb.2 a ha.1 with h' | h'
  ·exact h'
  ·unfold hlt at h h'
   omega
theorem IsRun.pos {x y:List Int} {r:Hr} (h:IsRun x y r):0<r.N:=by
 rw[h.n,ZkT,if_pos ⟨h.hx,h.hy,h.same⟩]
 omega
end

section
def rj (x y:List Int) (i j:Nat):List Hr:=if x[i]?=y[j]?∧¬ (0<i∧0<j∧x[i-1]?=y[j-1]?) then [⟨i,j,tl x y i j,rar x i (tl x y i j)⟩] else []
def rowR (x y:List Int) (i:Nat):List Hr:=(List.range' 0 y.length).flatMap (rj x y i)
def runs (x y:List Int):List Hr:=(List.range' 0 x.length).flatMap (rowR x y)
def runAt (x y:List Int) (i j R:Nat):Hr:=⟨i-hd x y i j,j-hd x y i j,hd x y i j+tl x y i j,R⟩
def skp (x:List Int) (R i t:Nat):Bool:=(List.range t).any fun s=>cnt x (i-(s+1)) == R
def pj (x y:List Int) (R i:Nat):List Nat:=if cnt x i=R then (List.range y.length).filter (fun j=>decide (y[j]?=x[i]?)) else []
def ck (x y:List Int) (R i j:Nat):List Hr:=if skp x R i (hd x y i j) then [] else [runAt x y i j R]
structure Rst (x y:List Int) (R:Nat):Prop where
 le:∀ i j,i<x.length→j<y.length→x[i]?=y[j]?→R≤cnt x i
 ex:∃ i j,i<x.length∧j<y.length∧x[i]?=y[j]?∧cnt x i=R
section
variable {x y:List Int} {R:Nat}
end
def rs (x:List Int):Nat→List Int→Nat
 | l,[]=>l
 | l,c::y=>rs x (if 0<x.count c∧(l=0∨x.count c<l) then x.count c else l) y
end

section
open Go.ChangeShapes Go.WideShapes Go.ChangeAt Go.RowKit
theorem own:ownKnob Tryz.prog.godebug=none:=by kernel_rfl
theorem laidOut:laidOutB Tryz.prog=true:=by kernel_rfl
theorem cellsInt:Tryz.prog.cellsOf 3=1:=by kernel_rfl
def w64 (z:Int):Prop:=-9223372036854775808≤z∧z≤9223372036854775807
theorem ZsU {z:Int} (h:(Lit.int .i64 z).wf=true):w64 z:=bounds_i64 h
end

section
open Go.RowKit Go.Maps
structure Cnt {H:Type} (D:DataW H) (t:List Int):Prop where
 tidy:Tidy D
 at_:∀ c,D.atKey (.int .i64 c) (.lit (.int .i64 0))=.lit (.int .i64 (t.count c:Nat))
theorem Cnt.nil {H:Type}:Cnt (H:=H) (.map []) []:=⟨tidy_empty,fun _=>by rw[atKey_of_not_has rfl];rfl⟩
theorem Cnt.put {H:Type} {D:DataW H} {t:List Int} (h:Cnt D t) (a:Int):Cnt (D.put (.int .i64 a) (.lit (.int .i64 ((t.count a:Nat)+1)))) (t++[a]):=by
 have hk:WideAt.IsKeyLit (.int .i64 a):=trivial
 have hne:∀ {g:Int},a≠g→(Lit.int .i64 g)≠.int .i64 a:=fun hg e=>hg (by cases e;rfl)
 refine⟨h.tidy.put hk _,fun c=>?_⟩
 by_cases e:a=c
 ·subst e
  rw[atKey_put_same h.tidy.isMap hk,List.count_append,List.count_singleton_self]
  rfl
 ·rw[atKey_put_other (hne e),h.at_,List.count_append]
  have:[a].count c=0:=by rw[List.count_eq_zero];simp;exact fun q=>e q.symm
  rw[this,Nat.add_zero]
theorem hKeyed:Keyed Tryz.prog 3:=int_keyed Tryz.underlying3
theorem hKey {c:Int} (hc:w64 c):keyOf Tryz.prog 3 (.int .i64 c)=some (.int .i64 c):=keyOf_int_mk Tryz.underlying3 (WalkArith.wf_i64 hc)
def Mc (t:List Int) (B:Nat) (w:World):Prop:=∃ D:DataW Unit,w.ownsMap Tryz.prog 3 (plainElem Tryz.prog 3) B t.length D∧Cnt D t
section
variable {t:List Int} {B:Nat} {w w':World}
theorem Mc.lt (h:Mc t B w):B<w.heap.size:=by obtain⟨D,hm,_⟩:=h;exact hm.lt
theorem Mc.keep (h:Mc t B w) (hb:w'.heap[B]?=w.heap[B]?):Mc t B w':=by
 obtain⟨D,⟨es,clock,hm,r⟩,hd⟩:=h
 exact⟨D,⟨es,clock,hb.trans hm,r⟩,hd⟩
theorem Mc.low (h:Mc t B w) (hb:Below w.heap.size w w'):Mc t B w':=h.keep (hb.block B h.lt)
theorem Mc.store (h:Mc t B w) {a:Int} (ha:w64 a) (hl:t.length≤1099511627776) (z:Int) (hz:z=(t.count a:Nat)+1) :
  ∃ w',(Instr.mapUpdate 286 (.map (some B)) (.int .i64 a) (.int .i64 z)).run Tryz.prog w=.ok () w'∧Mc (t++[a]) B w'∧w.grownBy w' (some B):=by
 obtain⟨D,hm,hd⟩:=h
 have hcl:t.count a≤t.length:=List.count_le_length
 obtain⟨w',hr,ho,ht⟩:=hm.store (val:=.int .i64 z) hKeyed Tryz.underlying286 (by unfold maxLen;omega) (hKey ha) (plainElem_int Tryz.underlying3 (WalkArith.wf_i64 (by omega)))
 exact⟨w',hr,⟨_,by simpa using ho,by subst hz;exact hd.put a⟩,ht.grown⟩
end
end

section
open Go.RowKit
theorem Ls.lt {w u:World} {g n:Nat} {Z:List Int} (h:Ls w g n Z u):w.heap.size≤g∧g<u.heap.size:=by
 rcases h.own.2 with ⟨h1,_⟩ | ⟨g',cap,cur,h1,h2,h3,_⟩
 ·cases h1
 ·cases h1
  exact⟨h2,(Array.getElem?_eq_some_iff.1 h3).1⟩
end

section
open Go.RowKit Go.Maps
def pl (x:List Int) (R:Nat) (t:List Int) (c:Int):List Nat:=if x.count c=R then (List.range t.length).filter (fun j=>decide (t[j]?=some c)) else []
theorem Ziu (x:List Int) (R:Nat) (t:List Int) (a c:Int):pl x R (t++[a]) c=if x.count a=R∧a=c then pl x R t c++[t.length] else pl x R t c:=by
 unfold pl
 have hf:((List.range t.length).filter fun j=>decide ((t++[a])[j]?=some c))=(List.range t.length).filter fun j=>decide (t[j]?=some c):=by
  apply List.filter_congr
  intro j hj
  rw[List.mem_range] at hj
  rw[List.getElem?_append_left hj]
 by_cases h:x.count c=R
 ·rw[if_pos h,if_pos h,List.length_append,List.length_singleton,List.range_succ,List.filter_append,hf]
  by_cases e:a=c
  ·subst e
   rw[if_pos ⟨h,rfl⟩]
   congr 1
   simp
  ·rw[if_neg (fun q=>e q.2)]
   have:([t.length].filter fun j=>decide ((t++[a])[j]?=some c))=[]:=by simp[e]
   rw[this,List.append_nil]
 ·rw[if_neg h,if_neg h]
  by_cases e:a=c
  ·subst e
   rw[if_neg (fun q=>h q.1)]
  ·rw[if_neg (fun q=>e q.2)]
theorem Zit (x:List Int) (R:Nat) (c:Int):pl x R [] c=[]:=by simp[pl]
def nI (l:List Nat):List Int:=l.map fun (n:Nat)=>(n:Int)
theorem ZgB (a b:List Nat):nI (a++b)=nI a++nI b:=by simp[nI]
structure Gd (D:DataW Unit) (f:Int→List Nat):Prop where
 tidy:IsMap D
 at_:∀ c,D.atKey (.int .i64 c) .nil=if f c=[] then .nil else .slice (ChangeShapes.lits .i64 (nI (f c))) []
theorem ZfF {a b:List Int} (h:ChangeShapes.lits (H:=Unit) .i64 a=ChangeShapes.lits .i64 b):a=b:=by
 unfold ChangeShapes.lits at h
 exact (List.map_inj_right (fun u v huv=>by cases huv;rfl)).1 h
theorem Gd.zs {D:DataW Unit} {f:Int→List Nat} (h:Gd D f) {w:World} {base:Nat} {e:TypeId} {v:Value} {zs:List Int} {c:Int} (ho:w.ownsInts base e .i64 v zs) (ha:D.atKey (.int .i64 c) .nil=rowDatum .i64 v zs):zs=nI (f c):=by
 rw[h.at_] at ha
 rcases ho.datum (H:=Unit) with ⟨h1,h2⟩ | h1
 ·rw[h1] at ha
  by_cases e:f c=[]
  ·rw[h2,e];rfl
  ·rw[if_neg e] at ha;cases ha
 ·rw[h1] at ha
  by_cases e:f c=[]
  ·rw[if_pos e] at ha;cases ha
  ·rw[if_neg e] at ha
   injection ha with ha
   exact (ZfF ha).symm
theorem Gd.nil (x:List Int) (R:Nat):Gd (.map []) (pl x R []):=⟨isMap_empty,fun c=>by rw[atKey_of_not_has rfl,if_pos (Zit x R c)]⟩
theorem Gd.put {D:DataW Unit} {x:List Int} {R:Nat} {t:List Int} (h:Gd D (pl x R t)) {a:Int} (ha:x.count a=R):Gd (D.put (.int .i64 a) (.slice (ChangeShapes.lits .i64 (nI (pl x R t a)++[(t.length:Int)])) [])) (pl x R (t++[a])):=by
 have hk:WideAt.IsKeyLit (.int .i64 a):=trivial
 have hne:∀ {g:Int},a≠g→(Lit.int .i64 g)≠.int .i64 a:=fun hg e=>hg (by cases e;rfl)
 refine⟨h.tidy.put _ _,fun c=>?_⟩
 by_cases e:a=c
 ·subst e
  have e2:pl x R (t++[a]) a=pl x R t a++[t.length]:=by rw[Ziu,if_pos ⟨ha,rfl⟩]
  rw[atKey_put_same h.tidy hk,e2,if_neg (by simp),ZgB]
  rfl
 ·have e2:pl x R (t++[a]) c=pl x R t c:=by rw[Ziu,if_neg (fun q=>e q.2)]
  rw[atKey_put_other (hne e),h.at_,e2]
theorem Gd.skip {D:DataW Unit} {x:List Int} {R:Nat} {t:List Int} (h:Gd D (pl x R t)) {a:Int} (ha:x.count a≠R):Gd D (pl x R (t++[a])):=by
 refine⟨h.tidy,fun c=>?_⟩
 have e2:pl x R (t++[a]) c=pl x R t c:=by rw[Ziu,if_neg (fun q=>ha q.1)]
 rw[e2]
 exact h.at_ c
def Gm (x:List Int) (R:Nat) (t:List Int) (b base:Nat) (w:World):Prop:=∃ m D,m≤t.length∧w.ownsGroups Tryz.prog 3 base 3 .i64 b m D∧Gd D (pl x R t)
theorem Gm.low {x:List Int} {R:Nat} {t:List Int} {b base:Nat} {w w':World} (h:Gm x R t b base w) (hb:Below w.heap.size w w'):Gm x R t b base w':=by
 obtain⟨m,D,h1,h2,h3⟩:=h
 exact⟨m,D,h1,h2.kept (ZfO hb none) (by simp) (fun _ _ _ e _=>by cases e.val.ownBlock<;>simp),h3⟩
def Prt (x y:List Int) (R base k:Nat) (vs:List Value) (w:World):Prop:=vs.length=x.length∧∀ i,i<k→∃ v,vs[i]?=some v∧w.ownsInts base 3 .i64 v (nI (pj x y R i))
theorem ZeM {w:World} {base:Nat} {v:Value} {zs:List Int} (h:w.ownsInts base 3 .i64 v zs) {g:Nat} {cs:Array Value} {fz:Nat × Nat} (hg:w.heap[g]?=some (.cells cs 55 fz)) (j:Nat) (u:Value):(w.setCell ⟨g,j,none⟩ u).ownsInts base 3 .i64 v zs:=by
 refine h.kept (ZdS w g j u) ?_
 rcases h.1.2 with ⟨rfl,_⟩ | ⟨g',cap,cur,rfl,_,h2,_⟩
 ·exact .inl rfl
 ·right
  intro e
  simp[Value.ownBlock] at e
  subst e
  rw[h2] at hg
  cases hg
theorem Prt.set {x y:List Int} {R base k:Nat} {vs:List Value} {w:World} (h:Prt x y R base k vs w) (hk:k<x.length) {g:Nat} {cs:Array Value} {fz:Nat × Nat} (hg:w.heap[g]?=some (.cells cs 55 fz)) {v:Value} (hv:w.ownsInts base 3 .i64 v (nI (pj x y R k))):Prt x y R base (k+1) (vs.set k v) (w.setCell ⟨g,k,none⟩ v):=by
 refine⟨by rw[List.length_set];exact h.1,fun i hi=>?_⟩
 by_cases e:i=k
 ·subst e
  exact⟨v,List.getElem?_set_self (by rw[h.1];exact hk),ZeM hv hg _ _⟩
 ·obtain⟨u,h1,h2⟩:=h.2 i (by omega)
  exact⟨u,by rw[List.getElem?_set_ne (fun q=>e q.symm)];exact h1,ZeM h2 hg _ _⟩
theorem Prt.low {x y:List Int} {R base k:Nat} {vs:List Value} {w w':World} (h:Prt x y R base k vs w) (hb:Below w.heap.size w w'):Prt x y R base k vs w' :=
 ⟨h.1,fun i hi=>by obtain⟨v,h1,h2⟩:=h.2 i hi;exact⟨v,h1,h2.kept (ZfO hb none) (by cases v.ownBlock<;>simp)⟩⟩
end

section
open Go.RowKit
end

section
open Go.RowKit
def Hbx (u:World) (B:Nat) (r:Hr):Prop:=u.heap[B]?=some (.cells #[.int .i64 (r.X:Int),.int .i64 (r.Y:Int),.int .i64 (r.N:Int),.int .i64 (r.R:Int)] 291 (0,0))
section
variable {u u':World} {B:Nat} {r:Hr}
theorem Hbx.cells (h:Hbx u B r):u.cell? ⟨B,0,none⟩=some (.int .i64 (r.X:Int))∧u.cell? ⟨B,1,none⟩=some (.int .i64 (r.Y:Int))∧u.cell? ⟨B,2,none⟩=some (.int .i64 (r.N:Int))∧u.cell? ⟨B,3,none⟩=some (.int .i64 (r.R:Int)):=by
 refine⟨?_,?_,?_,?_⟩<;>rw[Lib.cell_of_heap h]<;>rfl
theorem Hbx.frozen (h:Hbx u B r) (j:Nat):u.frozen? ⟨B,j,none⟩=false:=by
 unfold World.frozen?
 rw[h]
 rfl
theorem Hbx.lt (h:Hbx u B r):B<u.heap.size:=(Array.getElem?_eq_some_iff.1 h).1
theorem Hbx.keep (h:Hbx u B r) {g:Option Nat} (hg:u.grownBy u' g) (hr:some B≠g):Hbx u' B r:=(hg.block B h.lt hr).trans h
theorem Hbx.low (h:Hbx u B r) (hg:Below u.heap.size u u'):Hbx u' B r:=(hg.block B h.lt).trans h
theorem Hbx.new (w:World) (r:Hr):Hbx (w.alloc (.cells #[.int .i64 (r.X:Int),.int .i64 (r.Y:Int),.int .i64 (r.N:Int),.int .i64 (r.R:Int)] 291)) w.heap.size r:=_root_.Go.heap_alloc_new w _
end
end

section
open Go.RowKit
theorem results_cell_tmp {P:Program} {fn:Func} {p q:Tmp} {ty:TypeId} (h:fn.results=#[.cell p ty,.tmp q]) (tmps:Array Value) (w:World) (g:Nat) (t:TypeId) (cs:Array Value) (fr:Nat × Nat) (d:TypeDesc)
  (hp:tmps.getD p undef=.pointer (some ⟨g,0,none⟩)) (hg:w.heap[g]?=some (.cells cs t fr))
  (hu:P.underlying ty=some d) (hd:(match d with | .struct _ | .array _ _=>true | _=>false)=true) (hi:(P.info? ty).map (·.size)=some cs.size) :
  (results fn tmps).run P w=.ok (.tuple #[.agg cs,tmps.getD q undef]) w:=by
 have hp':tmps[p]?.getD undef=.pointer (some ⟨g,0,none⟩):=by simpa using hp
 simp[results,h,hp',asAddr,run_loadVar_row w g t ty cs fr d hg hu hd hi]
end

section
open Go.RowKit
def prC (p:Pr):List Value:=[.int .i64 p.X,.int .i64 p.Y]
def prcells (l:List Pr):List Value:=l.flatMap prC
theorem ZiD (l:List Pr):(prcells l).length=l.length * 2:=by
 induction l with
 | nil=>rfl
 | cons p t ih=>simp only[prcells,List.flatMap_cons,List.length_append,List.length_cons,prC,List.length_nil] at ih ⊢;omega
theorem ZiC (l:List Pr) (k:Nat) (hk:k<l.length):(prcells l)[2 * k]?=some (.int .i64 l[k].X)∧(prcells l)[2 * k+1]?=some (.int .i64 l[k].Y):=by
 induction l generalizing k with
 | nil=>simp at hk
 | cons p t ih =>
  have e:prcells (p::t)=.int .i64 p.X::.int .i64 p.Y::prcells t:=rfl
  cases k with
  | zero=>rw[e];exact⟨rfl,rfl⟩
  | succ k =>
   have:=ih k (by simpa using hk)
   rw[e,show 2 * (k+1)=2 * k+1+1 by omega]
   simpa using this
def HPr (w:World) (v:Value) (l:List Pr):Prop:=Holds w v l.length (prcells l)
theorem HPr.keep {w w':World} {v:Value} {l:List Pr} (h:HPr w v l) {N:Nat} (hk:Below N w w') (hN:w.heap.size≤N):HPr w' v l:=Holds.keep h fun k hk'=>hk.block k (by omega)
theorem HPr.at {w:World} {ao:Option Addr} {n c:Nat} {l:List Pr} (h:HPr w (.slice ao n c) l) (h0:0<l.length):∃ b off,ao=some ⟨b,off,none⟩∧b<w.heap.size ∧
  ∀ k (hk:k<l.length),w.cell? ⟨b,off+k * 2,none⟩=some (.int .i64 l[k].X)∧w.cell? ⟨b,off+k * 2+1,none⟩=some (.int .i64 l[k].Y):=by
 obtain⟨b,off,c',hv,hb,hc⟩:=Holds.at h (by rw[ZiD];omega)
 cases hv
 refine⟨b,off,rfl,hb,fun k hk=>?_⟩
 obtain⟨h1,h2⟩:=ZiC l k hk
 obtain⟨l1,e1⟩:=List.getElem?_eq_some_iff.1 h1
 obtain⟨l2,e2⟩:=List.getElem?_eq_some_iff.1 h2
 have g1:=hc _ l1
 have g2:=hc _ l2
 rw[e1] at g1
 rw[e2] at g2
 rw[show k * 2=2 * k by omega,Nat.add_assoc]
 exact⟨g1,g2⟩
end

section
open Go.RowKit
def Blk (w:World) (g:Nat) (cur:List Value):Prop:=w.heap[g]?=some (.cells cur.toArray 256 (0,0))
theorem Blk.cell {w:World} {g:Nat} {cur:List Value} (h:Blk w g cur) (j:Nat):w.cell? ⟨g,j,none⟩=cur[j]?:=by
 rw[cell_of_row w g j cur.toArray _ (0,0) h]
 simp
end

end Go.Proofs.YtcniomgjikienaaGreatDoor
