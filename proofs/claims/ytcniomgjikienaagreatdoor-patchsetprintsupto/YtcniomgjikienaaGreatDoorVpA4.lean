/-
  Texts that belong together, joined: HuIv, HuCn, HuOne, HuCh, HuGr, HuC7, EdReg, EdApp, EdSameS, EdRApp.
-/
import Derived.Test.YtcniomgjikienaaGreatDoorVpA3

set_option maxHeartbeats 16000000
set_option maxRecDepth 100000
namespace Go.Proofs.YtcniomgjikienaaGreatDoor

section
open Go.RowKit
theorem ZdJ {P:Program} {S:World→Prop} {md:Region.Mode} {ops:Array Oper} {Q:Exit→Act→World→Prop} {fuel:Nat} {listed:Array Bool} {A:Act} {w:World}
  (i d:Nat) (op:Oper) (j e:Nat) (oq:Oper) (hi:ops[i]?=some op) (hd:op.dst=some d) (hj:ops[j]?=some oq) (he:oq.dst=some e) (hr:Region.ready md ops listed=[i,j]) (hwt:Region.wanted op (yielded ops A.tmps)=true) (hwq:Region.wanted oq (yielded ops A.tmps)=true)
  (vp:Value) (wp:World) (hp:(execOp A.eval op).run P w=.ok (.value vp) wp) (hSp:S wp)
  (vq:Value) (wq:World) (hq:(execOp A.eval oq).run P w=.ok (.value vq) wq) (hSq:S wq)
  (h:wpAnyH P md ops Q S fuel (listed.setIfInBounds i true) (A.put (some d) vp) wp)
  (h2:wpAnyH P md ops Q S fuel (listed.setIfInBounds j true) (A.put (some e) vq) wq) :
  wpAnyH P md ops Q S (fuel+1) listed A w:=by
 refine wpAnyH_ready hr (by simp) (AllReadyH.cons hi (fun K hK=>?_) (AllReadyH.cons hj (fun K hK=>?_) AllReadyH.nil))
 ·refine ZkF hwt ?_
  unfold Oper.wp
  rw[hp,Oper.upon_value]
  exact hK.out _ _ hSp (fun _=>by rw[hd];exact h)
 ·refine ZkF hwq ?_
  unfold Oper.wp
  rw[hq,Oper.upon_value]
  exact hK.out _ _ hSq (fun _=>by rw[he];exact h2)
theorem ZcT {w w':World} {T:TypeId} {v vx v':Value} {op:Oper} (x y:Operand) (ho:op.op=.call { callee:=.builtin .append,args:=#[x,y],argTypes:=#[T,T] }) {ev:Operand→Value} (hx:ev x=v) (hy:ev y=vx) (hr:(Builtin.append_ #[T,T] op.type #[v,vx]).run Tryz.prog w=.ok v' w') :
  (execOp ev op).run Tryz.prog w=.ok (.value v') w':=by
 simp[execOp,ho,resolve,invoke,builtin,hx,hy,hr,Result.andThen]
theorem ZwN {u:World} {b:Nat} {m:Mk} (q:Mx u b m) {op:Oper} (x:Operand) (ho:op.op=.load 47 x) {ev:Operand→Value} (hx:ev x=.pointer (some ⟨b,0,none⟩)) :
  (execOp ev op).run Tryz.prog u=.ok (.value (.agg #[.int .u8 m.sg,.string ⟨m.tx.toArray⟩])) u:=by
 have hL:(loadVar 47 ⟨b,0,none⟩).run Tryz.prog u=.ok (.agg #[.int .u8 m.sg,.string ⟨m.tx.toArray⟩]) u:=run_loadVar_row u b _ _ _ _ _ q Tryz.underlying47 rfl (by kernel_rfl)
 simp only[execOp,ho,hx,Instr.loadAt,Instr.sureAddr,Sem.run_bind,Sem.run_pure,Result.andThen_ok,hL]
theorem Zoo {u:World} {a:Addr} {o:Option Addr} {n c:Nat} (h:u.cell? a=some (.slice o n c)) {op:Oper} (x:Operand) (ho:op.op=.load 43 x) {ev:Operand→Value} (hx:ev x=.pointer (some a)) :
  (execOp ev op).run Tryz.prog u=.ok (.value (.slice o n c)) u:=by
 simp only[execOp,ho,hx]
 go_simp
structure Iv (w:World) (q:Hk) (ov:Value) (x:List Mk) (av:Value) (y:List Mk) (u:World):Prop where
 low:Below w.heap.size w u
 box:Hx u w.heap.size q ov
 own:u.ownsRow (w.heap.size+1) 47 2 ov x.length (mkcells x)
 add:u.ownsRow (w.heap.size+1) 47 2 av y.length (mkcells y)
 ne:∀ g,ov.ownBlock=some g→av.ownBlock≠some g
section
variable {w:World} {q:Hk} {ov ov' av av':Value} {x x' y y':List Mk} {u u':World}
theorem Iv.alloc (h:Iv w q ov x av y u) (o:Obj):Iv w q ov x av y (u.alloc o) :=
 ⟨h.low.alloc h.low.size o,h.box.low ((Below.refl _ u).alloc (Nat.le_refl _) o),h.own.alloc o,h.add.alloc o,h.ne⟩
theorem Iv.drewN (h:Iv w q ov x av y u) (n:Nat):Iv w q ov x av y (u.drewN n):=⟨Below.dN h.low n,h.box,h.own,h.add,h.ne⟩
theorem ZhF {e:TypeId} {s B:Nat} {v:Value} {n:Nat} {xs:List Value} (ho:u.ownsRow B e s v n xs) {g:Option Nat} (hg:u.grownBy u' g) (hne:∀ k,g=some k→v.ownBlock≠some k):u'.ownsRow B e s v n xs:=by
 refine⟨ho.1,?_⟩
 rcases ho.2 with q | ⟨b,cap,cur,rfl,q2,q3,q4⟩
 ·exact .inl q
 ·refine .inr ⟨b,cap,cur,rfl,q2,?_,q4⟩
  rw[hg.block b (Array.getElem?_eq_some_iff.1 q3).1 (fun e=>hne b e.symm rfl)]
  exact q3
theorem Iv.grow (h:Iv w q ov x av y u) (hg:u.grownBy u' ov.ownBlock) (ho:u'.ownsRow (w.heap.size+1) 47 2 ov' x'.length (mkcells x')) (hb:ov'.ownBlock=ov.ownBlock∨ov'.ownBlock=some u.heap.size):Hx u' w.heap.size q ov∧Iv w q ov' x' av y (u'.setCell ⟨w.heap.size,4,none⟩ ov'):=by
 have hbx:Hx u' w.heap.size q ov:=h.box.keep hg (fun e=>by have:=ZhJ h.own e.symm;omega)
 have hadd:=ZhF h.add hg (fun k hk=>h.ne k hk)
 have hs:=ZdS u' w.heap.size 4 ov'
 have hlow:Below w.heap.size w u':=h.low.grown hg h.low.size (fun j hj=>by have:=ZhJ h.own hj;omega)
 refine⟨hbx,hlow.grown hs hlow.size (fun j hj=>by cases hj;exact Nat.le_refl _),hbx.setl ov',ZhF ho hs ?_,ZhF hadd hs ?_,?_⟩
 ·intro k hk e
  cases hk
  have:=ZhJ ho e
  omega
 ·intro k hk e
  cases hk
  have:=ZhJ h.add e
  omega
 ·intro g hg' e
  rcases hb with hb | hb
  ·rw[hb] at hg'
   exact h.ne g hg' e
  ·rw[hb] at hg'
   cases hg'
   have:=ZhG h.add e
   omega
theorem Iv.wait (h:Iv w q ov x av y u) (hg:u.grownBy u' av.ownBlock) (ho:u'.ownsRow (w.heap.size+1) 47 2 av' y'.length (mkcells y')) (hb:av'.ownBlock=av.ownBlock∨av'.ownBlock=some u.heap.size):Iv w q ov x av' y' u':=by
 refine⟨h.low.grown hg h.low.size (fun j hj=>by have:=ZhJ h.add hj;omega),h.box.keep hg (fun e=>by have:=ZhJ h.add e.symm;omega),ZhF h.own hg (fun k hk e=>h.ne k e hk),ho,?_⟩
 intro g hg' e
 rcases hb with hb | hb
 ·rw[hb] at e
  exact h.ne g hg' e
 ·rw[hb] at e
  cases e
  have:=ZhG h.own hg'
  omega
theorem Iv.last (h:Iv w q ov x av y u) (hg:u.grownBy u' ov.ownBlock) (ho:u'.ownsRow (w.heap.size+1) 47 2 ov' x'.length (mkcells x')):Hx u' w.heap.size q ov∧Iv w q ov' x' (.slice none 0 0) [] (u'.setCell ⟨w.heap.size,4,none⟩ ov'):=by
 have hbx:Hx u' w.heap.size q ov:=h.box.keep hg (fun e=>by have:=ZhJ h.own e.symm;omega)
 have hs:=ZdS u' w.heap.size 4 ov'
 have hlow:Below w.heap.size w u':=h.low.grown hg h.low.size (fun j hj=>by have:=ZhJ h.own hj;omega)
 refine⟨hbx,hlow.grown hs hlow.size (fun j hj=>by cases hj;exact Nat.le_refl _),hbx.setl ov',ZhF ho hs ?_,Zen _ _ _ _,fun g _ e=>by cases e⟩
 intro k hk e
 cases hk
 have:=ZhJ ho e
 omega
theorem Zvl {r r':Option Nat} {u'':World} (h:u.grownBy u' r) (h':u'.grownBy u'' r') (hr:r'=r∨∃ k,r'=some k∧u.heap.size≤k):u.grownBy u'' r:=by
 refine⟨h'.os.trans h.os,h'.tape.trans h.tape,h'.output.trans h.output,Nat.le_trans h.size h'.size,fun k hk hne=>?_⟩
 rw[h'.block k (Nat.lt_of_lt_of_le hk h.size) ?_]
 ·exact h.block k hk hne
 ·intro e
  rcases hr with hr | ⟨j,hr,hj⟩
  ·exact hne (e.trans hr)
  ·rw[hr] at e
   cases e
   omega
theorem Zvk {r:Option Nat} (h:u.grownBy u' r) (o:Obj):u.grownBy (u'.alloc o) r :=
 ⟨h.os,h.tape,h.output,Nat.le_trans h.size (by simp),fun k hk hne=>by rw[Below.heap_alloc _ _ _ (Nat.lt_of_lt_of_le hk h.size)];exact h.block k hk hne⟩
theorem Hx.put5 {b:Nat} {h:Hk} {v:Value} (p:Hx u b h v) (z0 z1 z2 z3 z4:Value):(((((u.setCell ⟨b,0,none⟩ z0).setCell ⟨b,1,none⟩ z1).setCell ⟨b,2,none⟩ z2).setCell ⟨b,3,none⟩ z3).setCell ⟨b,4,none⟩ z4).heap[b]?=some (.cells #[z0,z1,z2,z3,z4] 45 (0,0)):=by
 have s1:=heap_setCell_same u b 0 _ _ z0 p
 have s2:=heap_setCell_same _ b 1 _ _ z1 s1
 have s3:=heap_setCell_same _ b 2 _ _ z2 s2
 have s4:=heap_setCell_same _ b 3 _ _ z3 s3
 exact heap_setCell_same _ b 4 _ _ z4 s4
theorem ZhC {e:TypeId} {s B B':Nat} {v:Value} {n:Nat} {xs:List Value} (ho:u.ownsRow B e s v n xs) (hB:B'≤B):u.ownsRow B' e s v n xs:=by
 refine⟨ho.1,?_⟩
 rcases ho.2 with q | ⟨b,cap,cur,rfl,q2,q3,q4⟩
 ·exact .inl q
 ·exact .inr ⟨b,cap,cur,rfl,by omega,q3,q4⟩
theorem Iv.none (h:Iv w q ov x av y u):Iv w q ov x (.slice none 0 0) [] u:=⟨h.low,h.box,h.own,Zen _ _ _ _,fun g _ e=>by cases e⟩
end
theorem Zgj (w:World) (m:Mk):Holds (w.alloc (mkO m)) (.slice (some ⟨w.heap.size,0,none⟩) 1 1) 1 (mkcells [m]):=ZgR w #[.int .u8 m.sg,.string ⟨m.tx.toArray⟩] 47 1 1 (by decide)
theorem Znc {u:World} {b j:Nat} {v:Value} (hf:u.frozen? ⟨b,j,none⟩=false) {o n c} (hc:u.cell? ⟨b,j,none⟩=some (.slice o n c)) {o' n' c'} (hv:v=.slice o' n' c') {op:Oper} (x y:Operand) (ho:op.op=.store 43 x y) {ev:Operand→Value} (hx:ev x=.pointer (some ⟨b,j,none⟩)) (hy:ev y=v) :
  (execOp ev op).run Tryz.prog u=.ok .skip (u.setCell ⟨b,j,none⟩ v):=by
 subst hv
 simp only[execOp,ho,hx,hy]
 go_simp
theorem Zzu (h:Hk) (v:Value) (w:World) (hv:HMk w v h.ls) (hl:h.ls.length≤549755813888) (R:List Mk) (HR:Hid (invG [] h.ls=R)):Calls Tryz.prog 45 #[hkV h v] w fun e w'=>∃ v',e=.returned (hkV ⟨h.B,h.BN,h.A,h.AN,R⟩ v')∧w'.ownsRow w.heap.size 47 2 v' R.length (mkcells R)∧Below w.heap.size w w':=by
 obtain⟨A,AN,B,BN,ls⟩:=h
 dsimp only at hv hl HR ⊢
 obtain⟨lo,lc,rfl⟩:=HMk.form hv
 have hx:=Hx.new w ⟨A,AN,B,BN,ls⟩ (.slice lo ls.length lc)
 have hB1:Below w.heap.size w (w.alloc (hkO ⟨A,AN,B,BN,ls⟩ (.slice lo ls.length lc))):=(Below.refl _ w).alloc (Nat.le_refl _) _
 have hBz:Below (w.alloc (hkO ⟨A,AN,B,BN,ls⟩ (.slice lo ls.length lc))).heap.size (w.alloc (hkO ⟨A,AN,B,BN,ls⟩ (.slice lo ls.length lc))) ((w.alloc (hkO ⟨A,AN,B,BN,ls⟩ (.slice lo ls.length lc))).alloc (hkO ⟨0,0,0,0,[]⟩ (.slice none 0 0))):=(Below.refl _ _).alloc (Nat.le_refl _) _
 have hx2:=hx.low hBz
 have hB2:=hB1.trans (hBz.mono hB1.size)
 have hv2:=HMk.keep hv hB2 (Nat.le_refl _)
 have hz2:Hx ((w.alloc (hkO ⟨A,AN,B,BN,ls⟩ (.slice lo ls.length lc))).alloc (hkO ⟨0,0,0,0,[]⟩ (.slice none 0 0))) (w.heap.size+1) ⟨0,0,0,0,[]⟩ (.slice none 0 0):=Zmu w _ _
 obtain⟨x0,x1,x2,x3,x4⟩:=hx2.cells
 have HSZ:Hid (((w.alloc (hkO ⟨A,AN,B,BN,ls⟩ (.slice lo ls.length lc))).alloc (hkO ⟨0,0,0,0,[]⟩ (.slice none 0 0))).heap.size=w.heap.size+1+1):=(by show _=_;simp)
 have hW0:(w.alloc (hkO ⟨A,AN,B,BN,ls⟩ (.slice lo ls.length lc))).alloc (hkO ⟨0,0,0,0,[]⟩ (.slice none 0 0))=(w.alloc (Obj.cells #[Value.int IntKind.i64 A,Value.int IntKind.i64 AN,Value.int IntKind.i64 B,Value.int IntKind.i64 BN,.slice lo ls.length lc] 45)).alloc (Obj.cells #[Value.int IntKind.i64 0,Value.int IntKind.i64 0,Value.int IntKind.i64 0,Value.int IntKind.i64 0,.slice none 0 0] 45):=rfl
 unfold hkV
 dsimp only at x0 x1 x2 x3 x4 ⊢
 clear hx hB1 hBz hv
 generalize (w.alloc (hkO ⟨A,AN,B,BN,ls⟩ (.slice lo ls.length lc))).alloc (hkO ⟨0,0,0,0,[]⟩ (.slice none 0 0))=W at *
 have hW:=hW0.symm
 clear hW0
 have hI:Iv W ⟨B,BN,A,AN,[]⟩ (.slice none 0 0) [] (.slice none 0 0) [] (W.alloc (hkO ⟨B,BN,A,AN,[]⟩ (.slice none 0 0))) :=
  ⟨(Below.refl _ W).alloc (Nat.le_refl _) _,Hx.new W _ _,Zen _ _ _ _,Zen _ _ _ _,fun g e=>by cases e⟩
 go_enter Tryz.func45,Tryz.ntmps45
 go_wp2
 have hW1:W.alloc (Obj.cells #[Value.int IntKind.i64 B,Value.int IntKind.i64 BN,Value.int IntKind.i64 A,Value.int IntKind.i64 AN,.slice none 0 0] 45)=W.alloc (hkO ⟨B,BN,A,AN,[]⟩ (.slice none 0 0)):=rfl
 rw[hW1]
 clear hW1 hW x0 x1 x2 x3 x4
 generalize W.alloc (hkO ⟨B,BN,A,AN,[]⟩ (.slice none 0 0))=W1 at *
 go_loopw [4,5] (fun av iv wr=>∃ (k:Nat) (ov:Value) (x y:List Mk),k≤ls.length∧iv=.int .i64 (k:Int)∧(∃ oo oc,ov=.slice oo x.length oc)∧(∃ ao ac,av=.slice ao y.length ac)∧x.length+y.length≤k∧Iv W ⟨B,BN,A,AN,[]⟩ ov x av y wr∧Hid (x++invG y (ls.drop k)=R)) (fun _ iv _=>ls.length-(intOf iv).toNat)
 case atStart=>exact⟨0,_,[],[],Nat.zero_le _,by go_num,⟨_,_,rfl⟩,⟨_,_,rfl⟩,Nat.le_refl _,hI,HR⟩
 case round =>
  obtain⟨k,ov,x,y,hk,rfl,⟨oo,oc,rfl⟩,⟨ao,ac,rfl⟩,hxy,hI1,HI⟩:=hrel
  clear hI HR
  obtain⟨x0,x1,x2,x3,x4⟩:=(hx2.low hI1.low).cells
  obtain⟨b0,b1,b2,b3,b4⟩:=hI1.box.cells
  by_cases hlt:k<ls.length
  ·obtain⟨b,off,rfl,hb,_⟩:=HMk.at hv2 (by omega)
   obtain⟨m,hm⟩:∃ m,ls[k]=m:=⟨_,rfl⟩
   obtain⟨c0,c1⟩:=Low.mk hI1.low hv2 k hlt hm
   have HI2:Hid (x++(if m.sg=43 then ⟨45,m.tx⟩::invG y (ls.drop (k+1)) else if m.sg=45 then invG (y++[⟨43,m.tx⟩]) (ls.drop (k+1)) else y++m::invG [] (ls.drop (k+1)))=R):=(by
    show _=_
    rw[← HI.out,List.drop_eq_getElem_cons hlt,hm]
    rfl)
   have i1:0≤(k:Int):=by omega
   have i2:(k:Int)<(ls.length:Int):=by omega
   have hsW:=hI1.low.size
   have hmx:=Mx.new wr m
   have hI2:=hI1.alloc (mkO m)
   have hBm:Below wr.heap.size wr (wr.alloc (mkO m)):=(Below.refl _ wr).alloc (Nat.le_refl _) _
   obtain⟨m0,m1⟩:=hmx.cells
   obtain⟨d0,d1,d2,d3,d4⟩:=hI2.box.cells
   have HSM:Hid ((wr.alloc (mkO m)).heap.size=wr.heap.size+1):=(by show _=_;simp)
   have hW2:wr.alloc (Obj.cells #[Value.int IntKind.u8 m.sg,Value.string ⟨m.tx.toArray⟩] 47)=wr.alloc (mkO m):=rfl
   have hlts:=hI1.own
   clear HI hm
   go_upto_region 7 with fail
   obtain⟨sg,tx⟩:=m
   dsimp only at m0 m1 c0 c1 HI2 hW2
   generalize hwr1:wr.alloc (mkO ⟨sg,tx⟩)=wr1 at *
   clear hW2
   by_cases h1:sg=43
   ·subst h1
    have HI3:Hid (x++[⟨45,tx⟩]++invG y (ls.drop (k+1))=R):=(by
     have h:=HI2.out
     show _=_
     rw[if_pos rfl] at h
     rw[← h]
     simp)
    have hI3:=hI2.alloc (mkO ⟨45,tx⟩)
    have hrow:=Zgj wr1 ⟨45,tx⟩
    have hW3:wr1.alloc (Obj.cells #[Value.int IntKind.u8 45,Value.string ⟨tx.toArray⟩] 47)=wr1.alloc (mkO ⟨45,tx⟩):=rfl
    have HS3:Hid ((wr1.alloc (mkO ⟨45,tx⟩)).heap.size=wr1.heap.size+1):=(by show _=_;simp)
    have hs1:=hI2.low.size
    clear HI2
    go_wp2_with (at_builtin;refine Zmi _ (by kernel_rfl) (.tmp 41) (.tmp 45) 43 47 (.agg #[.int .u8 0,.string ⟨#[]⟩]) 2 24 rfl Tryz.underlying43 infoMk rfl (by decide) (by decide) (W.heap.size+1) _ _ _ rfl hI3.own _ 1 (mkcells [⟨45,tx⟩]) rfl hrow (Zgo _) (Zgp _) (by omega) (by have:=HS3.out;have:=HSM.out;omega) ?_)
    intro v3 u3 hown3 hg3 hb3
    rw[← Zgl] at hown3
    obtain⟨o3,c3,rfl⟩:=(Zeo hown3).form
    obtain⟨hbx3,hI4⟩:=hI3.grow (x':=x++[⟨45,tx⟩]) hg3 (by rw[List.length_append];exact hown3) (by rw[HS3.out];exact hb3)
    obtain⟨f0,f1,f2,f3,f4⟩:=hbx3.cells
    have ff:=hbx3.frozen 4
    clear hW3 hg3 hown3
    go_wp2
    exact⟨⟨k+1,_,x++[⟨45,tx⟩],y,by omega,by go_num,⟨_,_,by rw[List.length_append];rfl⟩,⟨_,_,rfl⟩,by simp;omega,hI4,HI3⟩,by simp[intOf];omega⟩
   ·have e1:(sg == 43)=false:=by simpa using h1
    by_cases h2:sg=45
    ·subst h2
     have HI3:Hid (x++invG (y++[⟨43,tx⟩]) (ls.drop (k+1))=R):=(by
      have h:=HI2.out
      show _=_
      rw[if_neg (by decide),if_pos rfl] at h
      exact h)
     have hI3:=hI2.alloc (mkO ⟨43,tx⟩)
     have hrow:=Zgj wr1 ⟨43,tx⟩
     have hW3:wr1.alloc (Obj.cells #[Value.int IntKind.u8 43,Value.string ⟨tx.toArray⟩] 47)=wr1.alloc (mkO ⟨43,tx⟩):=rfl
     have HS3:Hid ((wr1.alloc (mkO ⟨43,tx⟩)).heap.size=wr1.heap.size+1):=(by show _=_;simp)
     have hs1:=hI2.low.size
     clear HI2
     go_wp2_with (at_builtin;refine Zmi _ (by kernel_rfl) (.tmp 50) (.tmp 54) 43 47 (.agg #[.int .u8 0,.string ⟨#[]⟩]) 2 24 rfl Tryz.underlying43 infoMk rfl (by decide) (by decide) (W.heap.size+1) _ _ _ rfl hI3.add _ 1 (mkcells [⟨43,tx⟩]) rfl hrow (Zgo _) (Zgp _) (by omega) (by have:=HS3.out;have:=HSM.out;omega) ?_)
     intro v3 u3 hown3 hg3 hb3
     rw[← Zgl] at hown3
     obtain⟨o3,c3,rfl⟩:=(Zeo hown3).form
     have hI4:=hI3.wait (y':=y++[⟨43,tx⟩]) hg3 (by rw[List.length_append];exact hown3) (by rw[HS3.out];exact hb3)
     clear hW3 hg3 hown3
     go_wp2
     exact⟨⟨k+1,_,x,y++[⟨43,tx⟩],by omega,by go_num,⟨_,_,rfl⟩,⟨_,_,by rw[List.length_append];rfl⟩,by simp;omega,hI4,HI3⟩,by simp[intOf];omega⟩
    ·have e2:(sg == 45)=false:=by simpa using h2
     have HI3:Hid (x++(y++[⟨sg,tx⟩])++invG [] (ls.drop (k+1))=R):=(by
      have h:=HI2.out
      show _=_
      rw[if_neg h1,if_neg h2] at h
      rw[← h]
      simp)
     clear HI2
     go_upto_region 8 with fail
     have hsd:=hI2.low.size
     have hsm:=HSM.out
     have hdr:(wr1.drewN 1).heap.size=wr1.heap.size:=rfl
     have hdr2:((wr1.drewN 1).alloc (mkO ⟨sg,tx⟩)).heap.size=wr1.heap.size+1:=by simp
     obtain⟨v3,u3,hr3,hown3,hg3,hb3⟩:=ZjJ (wr1.drewN 1) 43 47 43 (.agg #[.int .u8 0,.string ⟨#[]⟩]) 2 24 Tryz.underlying43 infoMk rfl (by decide) (by decide) (W.heap.size+1) _ _ _ (hI2.own) _ y.length (mkcells y) (Zeo hI2.add) (Zgo _) (Zgp _) (by first | omega | (simp;omega)) (by first | omega | (simp;omega))
     rw[← Zgl] at hown3
     obtain⟨v6,u6,hr6,hown6,hg6,hb6⟩:=ZjJ ((wr1.drewN 1).alloc (mkO ⟨sg,tx⟩)) 43 47 43 (.agg #[.int .u8 0,.string ⟨#[]⟩]) 2 24 Tryz.underlying43 infoMk rfl (by decide) (by decide) (W.heap.size+1) _ _ _ (hI2.own.alloc (mkO ⟨sg,tx⟩)) _ y.length (mkcells y) (Zeo (hI2.add.alloc (mkO ⟨sg,tx⟩))) (Zgo _) (Zgp _) (by first | omega | (simp;omega)) (by first | omega | (simp;omega))
     rw[← Zgl] at hown6
     have hS3:wr1.grownBy u3 (Value.slice oo x.length oc).ownBlock:=Zvl (ZdP (World.grownBy.refl _ _) 1) hg3 (.inl rfl)
     have hS6:wr1.grownBy u6 (Value.slice oo x.length oc).ownBlock:=Zvl (Zvk (ZdP (World.grownBy.refl _ _) 1) (mkO ⟨sg,tx⟩)) hg6 (.inl rfl)
     have hz3:=hg3.size
     have hz6:=hg6.size
     rw[hdr] at hz3
     rw[hdr2] at hz6
     have hrb3:v3.ownBlock=(Value.slice oo x.length oc).ownBlock∨∃ j,v3.ownBlock=some j∧wr1.heap.size≤j:=(by
      rcases hb3 with h | h
      ·exact .inl h
      ·exact .inr ⟨_,h,Nat.le_refl _⟩)
     have hrb6:v6.ownBlock=(Value.slice oo x.length oc).ownBlock∨∃ j,v6.ownBlock=some j∧wr1.heap.size≤j:=(by
      rcases hb6 with h | h
      ·exact .inl h
      ·exact .inr ⟨_,h,by simp⟩)
     have hob:∀ j,(Value.slice oo x.length oc).ownBlock=some j→j<wr.heap.size:=fun j hj=>ZhG hI1.own hj
     have hrow3:Holds (u3.alloc (mkO ⟨sg,tx⟩)) (.slice (some ⟨u3.heap.size,0,none⟩) 1 1) 1 (mkcells [⟨sg,tx⟩]):=Zgj u3 ⟨sg,tx⟩
     have hrow6:Holds u6 (.slice (some ⟨(wr1.drewN 1).heap.size,0,none⟩) 1 1) 1 (mkcells [⟨sg,tx⟩]):=(by
      have hd:=Zgj (wr1.drewN 1) ⟨sg,tx⟩
      refine .inr ⟨⟨(wr1.drewN 1).heap.size,0,none⟩,1,rfl,Nat.le_refl _,fun j z hj=>?_⟩
      rcases hd with ⟨h,_,_⟩ | ⟨ad,c,e,_,hc⟩
      ·cases h
      ·cases e
       have h1:=hc j z hj
       rw[World.cell?_of_block (w:=((wr1.drewN 1).alloc (mkO ⟨sg,tx⟩))) (hg6.block _ (World.block_lt_of_cell? _ _ h1) (fun e=>?_))]
       ·exact h1
       ·rw[Zao] at e
        have h2:wr1.heap.size<wr.heap.size:=hob _ e.symm
        omega)
     have hmD:Mx (wr1.drewN 1) wr.heap.size ⟨sg,tx⟩:=hmx
     have hm3:Mx u3 wr.heap.size ⟨sg,tx⟩:=(hS3.block _ hmx.lt (fun e=>by have:=hob _ e.symm;omega)).trans hmx
     have hbD:(wr1.drewN 1).cell? ⟨W.heap.size,4,none⟩=some (.slice oo x.length oc):=hI2.box.cells.2.2.2.2
     have hbA:((wr1.drewN 1).alloc (mkO ⟨sg,tx⟩)).cell? ⟨W.heap.size,4,none⟩=some (.slice oo x.length oc):=((hI2.drewN 1).alloc (mkO ⟨sg,tx⟩)).box.cells.2.2.2.2
     obtain⟨v4,u4,hr4,hown4,hg4,hb4⟩:=ZjJ (u3.alloc (mkO ⟨sg,tx⟩)) 43 47 43 (.agg #[.int .u8 0,.string ⟨#[]⟩]) 2 24 Tryz.underlying43 infoMk rfl (by decide) (by decide) (W.heap.size+1) _ _ _ (hown3.alloc (mkO ⟨sg,tx⟩)) _ 1 (mkcells [⟨sg,tx⟩]) (hrow3) (Zgo _) (Zgp _) (by first | omega | (simp;omega)) (by first | omega | (simp;omega))
     rw[← Zgl] at hown4
     obtain⟨v7,u7,hr7,hown7,hg7,hb7⟩:=ZjJ u6 43 47 43 (.agg #[.int .u8 0,.string ⟨#[]⟩]) 2 24 Tryz.underlying43 infoMk rfl (by decide) (by decide) (W.heap.size+1) _ _ _ (hown6) _ 1 (mkcells [⟨sg,tx⟩]) (hrow6) (Zgo _) (Zgp _) (by first | omega | (simp;omega)) (by first | omega | (simp;omega))
     rw[← Zgl] at hown7
     have hS4:wr1.grownBy u4 (Value.slice oo x.length oc).ownBlock:=Zvl (Zvk hS3 _) hg4 hrb3
     obtain⟨p4,q4,hv4⟩:=(Zeo hown4).form
     subst hv4
     obtain⟨hbx4,hI4⟩:=hI2.last (x':=x++y++[⟨sg,tx⟩]) hS4 (by simp only[List.length_append];exact hown4)
     have hS7:wr1.grownBy u7 (Value.slice oo x.length oc).ownBlock:=Zvl hS6 hg7 hrb6
     obtain⟨p7,q7,hv7⟩:=(Zeo hown7).form
     subst hv7
     obtain⟨hbx7,hI7⟩:=hI2.last (x':=x++y++[⟨sg,tx⟩]) hS7 (by simp only[List.length_append];exact hown7)
     clear hS3 hS6 hrb3 hrb6 hob hrow3 hrow6 hg3 hg6 hb3 hb6 hown3 hown6 hown4 hown7 hS4 hS7 hg4 hg7 hb4 hb7
     refine wp_region_noPanic ?_
     refine wp_region_held_drew (S:=fun _=>True) (by kernel_rfl) trivial (fun hHeld=>?_)
     refine Y_t 0 30 _ (.pointer (some ⟨W.heap.size,4,none⟩)) rfl (Or.inl ⟨by kernel_rfl,fun u hu=>by kernel_rfl⟩) hHeld ?_
     simp only[Act.put,Y_a,Y_b,Y_c]
     refine Y_t 2 32 _ (.slice ao y.length ac) rfl (Or.inl ⟨by kernel_rfl,fun u hu=>by kernel_rfl⟩) hHeld ?_
     simp only[Act.put,Y_a,Y_b,Y_c]
     refine ZdJ 1 31 _ 4 34 _ rfl (by kernel_rfl) rfl (by kernel_rfl) (by kernel_rfl) (by kernel_rfl) (by kernel_rfl) (.slice oo x.length oc) (wr1.drewN 1) (Zoo hbD (.tmp 30) (by kernel_rfl) (by kernel_rfl)) trivial (.agg #[.int .u8 sg,.string ⟨tx.toArray⟩]) (wr1.drewN 1) (ZwN hmD (.tmp 6) (by kernel_rfl) (by kernel_rfl)) trivial ?_ ?_
     ·simp only[Act.put,Y_a,Y_b,Y_c]
      refine ZdJ 3 33 _ 4 34 _ rfl (by kernel_rfl) rfl (by kernel_rfl) (by kernel_rfl) (by kernel_rfl) (by kernel_rfl) (v3) u3 (ZcT (.tmp 31) (.tmp 32) (by kernel_rfl) (by kernel_rfl) (by kernel_rfl) hr3) trivial (.agg #[.int .u8 sg,.string ⟨tx.toArray⟩]) (wr1.drewN 1) (ZwN hmD (.tmp 6) (by kernel_rfl) (by kernel_rfl)) trivial ?_ ?_
      ·simp only[Act.put,Y_a,Y_b,Y_c]
       refine Y_v 4 34 _ rfl (.agg #[.int .u8 sg,.string ⟨tx.toArray⟩]) u3 (ZwN hm3 (.tmp 6) (by kernel_rfl) (by kernel_rfl)) trivial ?_
       simp only[Act.put,Y_a,Y_b,Y_c]
       refine Y_v 5 35 _ rfl (.slice (some ⟨u3.heap.size,0,none⟩) 1 1) (u3.alloc (mkO ⟨sg,tx⟩)) (by kernel_rfl) trivial ?_
       simp only[Act.put,Y_a,Y_b,Y_c]
       refine Y_v 6 36 _ rfl _ u4 (ZcT (.tmp 33) (.tmp 35) (by kernel_rfl) (by kernel_rfl) (by kernel_rfl) hr4) trivial ?_
       simp only[Act.put,Y_a,Y_b,Y_c]
       refine Y_t 7 37 _ (.pointer (some ⟨W.heap.size,4,none⟩)) rfl (Or.inl ⟨by kernel_rfl,fun u hu=>by kernel_rfl⟩) hHeld ?_
       simp only[Act.put,Y_a,Y_b,Y_c]
       refine Y_s 8 _ rfl (u4.setCell ⟨W.heap.size,4,none⟩ (.slice p4 (x.length+y.length+1) q4)) (Znc (v:=.slice p4 (x.length+y.length+1) q4) (o':=p4) (n':=x.length+y.length+1) (c':=q4) (hbx4.frozen 4) hbx4.cells.2.2.2.2 rfl (.tmp 37) (.tmp 36) (by kernel_rfl) (by kernel_rfl) (by kernel_rfl)) trivial ?_
       refine wpAnyH_done (by kernel_rfl) ?_ _
       refine NoPanic.normal ?_
       go_wp2
       exact⟨⟨k+1,_,x++y++[⟨sg,tx⟩],[],by omega,by go_num,⟨_,_,by simp only[List.length_append];rfl⟩,⟨_,_,rfl⟩,by simp;omega,hI4,by have h:=HI3.out;show _=_;rw[← h];simp⟩,by simp[intOf];omega⟩
      ·simp only[Act.put,Y_a,Y_b,Y_c]
       refine ZdJ 3 33 _ 5 35 _ rfl (by kernel_rfl) rfl (by kernel_rfl) (by kernel_rfl) (by kernel_rfl) (by kernel_rfl) (v3) u3 (ZcT (.tmp 31) (.tmp 32) (by kernel_rfl) (by kernel_rfl) (by kernel_rfl) hr3) trivial (.slice (some ⟨(wr1.drewN 1).heap.size,0,none⟩) 1 1) ((wr1.drewN 1).alloc (mkO ⟨sg,tx⟩)) (by kernel_rfl) trivial ?_ ?_
       ·simp only[Act.put,Y_a,Y_b,Y_c]
        refine Y_v 5 35 _ rfl (.slice (some ⟨u3.heap.size,0,none⟩) 1 1) (u3.alloc (mkO ⟨sg,tx⟩)) (by kernel_rfl) trivial ?_
        simp only[Act.put,Y_a,Y_b,Y_c]
        refine Y_v 6 36 _ rfl _ u4 (ZcT (.tmp 33) (.tmp 35) (by kernel_rfl) (by kernel_rfl) (by kernel_rfl) hr4) trivial ?_
        simp only[Act.put,Y_a,Y_b,Y_c]
        refine Y_t 7 37 _ (.pointer (some ⟨W.heap.size,4,none⟩)) rfl (Or.inl ⟨by kernel_rfl,fun u hu=>by kernel_rfl⟩) hHeld ?_
        simp only[Act.put,Y_a,Y_b,Y_c]
        refine Y_s 8 _ rfl (u4.setCell ⟨W.heap.size,4,none⟩ (.slice p4 (x.length+y.length+1) q4)) (Znc (v:=.slice p4 (x.length+y.length+1) q4) (o':=p4) (n':=x.length+y.length+1) (c':=q4) (hbx4.frozen 4) hbx4.cells.2.2.2.2 rfl (.tmp 37) (.tmp 36) (by kernel_rfl) (by kernel_rfl) (by kernel_rfl)) trivial ?_
        refine wpAnyH_done (by kernel_rfl) ?_ _
        refine NoPanic.normal ?_
        go_wp2
        exact⟨⟨k+1,_,x++y++[⟨sg,tx⟩],[],by omega,by go_num,⟨_,_,by simp only[List.length_append];rfl⟩,⟨_,_,rfl⟩,by simp;omega,hI4,by have h:=HI3.out;show _=_;rw[← h];simp⟩,by simp[intOf];omega⟩
       ·simp only[Act.put,Y_a,Y_b,Y_c]
        refine Y_v 3 33 _ rfl (v6) u6 (ZcT (.tmp 31) (.tmp 32) (by kernel_rfl) (by kernel_rfl) (by kernel_rfl) hr6) trivial ?_
        simp only[Act.put,Y_a,Y_b,Y_c]
        refine Y_v 6 36 _ rfl _ u7 (ZcT (.tmp 33) (.tmp 35) (by kernel_rfl) (by kernel_rfl) (by kernel_rfl) hr7) trivial ?_
        simp only[Act.put,Y_a,Y_b,Y_c]
        refine Y_t 7 37 _ (.pointer (some ⟨W.heap.size,4,none⟩)) rfl (Or.inl ⟨by kernel_rfl,fun u hu=>by kernel_rfl⟩) hHeld ?_
        simp only[Act.put,Y_a,Y_b,Y_c]
        refine Y_s 8 _ rfl (u7.setCell ⟨W.heap.size,4,none⟩ (.slice p7 (x.length+y.length+1) q7)) (Znc (v:=.slice p7 (x.length+y.length+1) q7) (o':=p7) (n':=x.length+y.length+1) (c':=q7) (hbx7.frozen 4) hbx7.cells.2.2.2.2 rfl (.tmp 37) (.tmp 36) (by kernel_rfl) (by kernel_rfl) (by kernel_rfl)) trivial ?_
        refine wpAnyH_done (by kernel_rfl) ?_ _
        refine NoPanic.normal ?_
        go_wp2
        exact⟨⟨k+1,_,x++y++[⟨sg,tx⟩],[],by omega,by go_num,⟨_,_,by simp only[List.length_append];rfl⟩,⟨_,_,rfl⟩,by simp;omega,hI7,by have h:=HI3.out;show _=_;rw[← h];simp⟩,by simp[intOf];omega⟩
     ·simp only[Act.put,Y_a,Y_b,Y_c]
      refine ZdJ 1 31 _ 5 35 _ rfl (by kernel_rfl) rfl (by kernel_rfl) (by kernel_rfl) (by kernel_rfl) (by kernel_rfl) (.slice oo x.length oc) (wr1.drewN 1) (Zoo hbD (.tmp 30) (by kernel_rfl) (by kernel_rfl)) trivial (.slice (some ⟨(wr1.drewN 1).heap.size,0,none⟩) 1 1) ((wr1.drewN 1).alloc (mkO ⟨sg,tx⟩)) (by kernel_rfl) trivial ?_ ?_
      ·simp only[Act.put,Y_a,Y_b,Y_c]
       refine ZdJ 3 33 _ 5 35 _ rfl (by kernel_rfl) rfl (by kernel_rfl) (by kernel_rfl) (by kernel_rfl) (by kernel_rfl) (v3) u3 (ZcT (.tmp 31) (.tmp 32) (by kernel_rfl) (by kernel_rfl) (by kernel_rfl) hr3) trivial (.slice (some ⟨(wr1.drewN 1).heap.size,0,none⟩) 1 1) ((wr1.drewN 1).alloc (mkO ⟨sg,tx⟩)) (by kernel_rfl) trivial ?_ ?_
       ·simp only[Act.put,Y_a,Y_b,Y_c]
        refine Y_v 5 35 _ rfl (.slice (some ⟨u3.heap.size,0,none⟩) 1 1) (u3.alloc (mkO ⟨sg,tx⟩)) (by kernel_rfl) trivial ?_
        simp only[Act.put,Y_a,Y_b,Y_c]
        refine Y_v 6 36 _ rfl _ u4 (ZcT (.tmp 33) (.tmp 35) (by kernel_rfl) (by kernel_rfl) (by kernel_rfl) hr4) trivial ?_
        simp only[Act.put,Y_a,Y_b,Y_c]
        refine Y_t 7 37 _ (.pointer (some ⟨W.heap.size,4,none⟩)) rfl (Or.inl ⟨by kernel_rfl,fun u hu=>by kernel_rfl⟩) hHeld ?_
        simp only[Act.put,Y_a,Y_b,Y_c]
        refine Y_s 8 _ rfl (u4.setCell ⟨W.heap.size,4,none⟩ (.slice p4 (x.length+y.length+1) q4)) (Znc (v:=.slice p4 (x.length+y.length+1) q4) (o':=p4) (n':=x.length+y.length+1) (c':=q4) (hbx4.frozen 4) hbx4.cells.2.2.2.2 rfl (.tmp 37) (.tmp 36) (by kernel_rfl) (by kernel_rfl) (by kernel_rfl)) trivial ?_
        refine wpAnyH_done (by kernel_rfl) ?_ _
        refine NoPanic.normal ?_
        go_wp2
        exact⟨⟨k+1,_,x++y++[⟨sg,tx⟩],[],by omega,by go_num,⟨_,_,by simp only[List.length_append];rfl⟩,⟨_,_,rfl⟩,by simp;omega,hI4,by have h:=HI3.out;show _=_;rw[← h];simp⟩,by simp[intOf];omega⟩
       ·simp only[Act.put,Y_a,Y_b,Y_c]
        refine Y_v 3 33 _ rfl (v6) u6 (ZcT (.tmp 31) (.tmp 32) (by kernel_rfl) (by kernel_rfl) (by kernel_rfl) hr6) trivial ?_
        simp only[Act.put,Y_a,Y_b,Y_c]
        refine Y_v 6 36 _ rfl _ u7 (ZcT (.tmp 33) (.tmp 35) (by kernel_rfl) (by kernel_rfl) (by kernel_rfl) hr7) trivial ?_
        simp only[Act.put,Y_a,Y_b,Y_c]
        refine Y_t 7 37 _ (.pointer (some ⟨W.heap.size,4,none⟩)) rfl (Or.inl ⟨by kernel_rfl,fun u hu=>by kernel_rfl⟩) hHeld ?_
        simp only[Act.put,Y_a,Y_b,Y_c]
        refine Y_s 8 _ rfl (u7.setCell ⟨W.heap.size,4,none⟩ (.slice p7 (x.length+y.length+1) q7)) (Znc (v:=.slice p7 (x.length+y.length+1) q7) (o':=p7) (n':=x.length+y.length+1) (c':=q7) (hbx7.frozen 4) hbx7.cells.2.2.2.2 rfl (.tmp 37) (.tmp 36) (by kernel_rfl) (by kernel_rfl) (by kernel_rfl)) trivial ?_
        refine wpAnyH_done (by kernel_rfl) ?_ _
        refine NoPanic.normal ?_
        go_wp2
        exact⟨⟨k+1,_,x++y++[⟨sg,tx⟩],[],by omega,by go_num,⟨_,_,by simp only[List.length_append];rfl⟩,⟨_,_,rfl⟩,by simp;omega,hI7,by have h:=HI3.out;show _=_;rw[← h];simp⟩,by simp[intOf];omega⟩
      ·simp only[Act.put,Y_a,Y_b,Y_c]
       refine Y_v 1 31 _ rfl (.slice oo x.length oc) ((wr1.drewN 1).alloc (mkO ⟨sg,tx⟩)) (Zoo hbA (.tmp 30) (by kernel_rfl) (by kernel_rfl)) trivial ?_
       simp only[Act.put,Y_a,Y_b,Y_c]
       refine Y_v 3 33 _ rfl (v6) u6 (ZcT (.tmp 31) (.tmp 32) (by kernel_rfl) (by kernel_rfl) (by kernel_rfl) hr6) trivial ?_
       simp only[Act.put,Y_a,Y_b,Y_c]
       refine Y_v 6 36 _ rfl _ u7 (ZcT (.tmp 33) (.tmp 35) (by kernel_rfl) (by kernel_rfl) (by kernel_rfl) hr7) trivial ?_
       simp only[Act.put,Y_a,Y_b,Y_c]
       refine Y_t 7 37 _ (.pointer (some ⟨W.heap.size,4,none⟩)) rfl (Or.inl ⟨by kernel_rfl,fun u hu=>by kernel_rfl⟩) hHeld ?_
       simp only[Act.put,Y_a,Y_b,Y_c]
       refine Y_s 8 _ rfl (u7.setCell ⟨W.heap.size,4,none⟩ (.slice p7 (x.length+y.length+1) q7)) (Znc (v:=.slice p7 (x.length+y.length+1) q7) (o':=p7) (n':=x.length+y.length+1) (c':=q7) (hbx7.frozen 4) hbx7.cells.2.2.2.2 rfl (.tmp 37) (.tmp 36) (by kernel_rfl) (by kernel_rfl) (by kernel_rfl)) trivial ?_
       refine wpAnyH_done (by kernel_rfl) ?_ _
       refine NoPanic.normal ?_
       go_wp2
       exact⟨⟨k+1,_,x++y++[⟨sg,tx⟩],[],by omega,by go_num,⟨_,_,by simp only[List.length_append];rfl⟩,⟨_,_,rfl⟩,by simp;omega,hI7,by have h:=HI3.out;show _=_;rw[← h];simp⟩,by simp[intOf];omega⟩
  ·have HI3:Hid (x++y=R):=(by
    have h:=HI.out
    rw[List.drop_of_length_le (by omega)] at h
    exact h)
   have hend:decide ((k:Int)<(ls.length:Int))=false:=decide_eq_false (by omega)
   have hsd:=hI1.low.size
   clear HI
   go_wp2_with (at_builtin;refine Zmi _ (by kernel_rfl) (.tmp 57) (.tmp 58) 43 47 (.agg #[.int .u8 0,.string ⟨#[]⟩]) 2 24 rfl Tryz.underlying43 infoMk rfl (by decide) (by decide) (W.heap.size+1) _ _ _ rfl hI1.own _ y.length (mkcells y) rfl (Zeo hI1.add) (Zgo _) (Zgp _) (by omega) (by have:=hI1.box.lt;omega) ?_)
   intro v3 u3 hown3 hg3 hb3
   rw[← Zgl] at hown3
   obtain⟨o3,c3,rfl⟩:=(Zeo hown3).form
   obtain⟨hbx3,hI4⟩:=hI1.last (x':=x++y) hg3 (by rw[List.length_append];exact hown3)
   obtain⟨f0,f1,f2,f3,f4⟩:=hbx3.cells
   have ff:=hbx3.frozen 4
   have hz4:=hz2.low hI4.low
   obtain⟨t0,t1,t2,t3,t4⟩:=hI4.box.cells
   obtain⟨z0,z1,z2,z3,z4⟩:=hz4.cells
   have zf:=hz4.frozen
   have zf0:=zf 0
   have zf1:=zf 1
   have zf2:=zf 2
   have zf3:=zf 3
   have zf4:=zf 4
   have hP:=hz4.put5 (.int .i64 B) (.int .i64 BN) (.int .i64 A) (.int .i64 AN) (.slice o3 (x.length+y.length) c3)
   have hlw:Below w.heap.size w (u3.setCell ⟨W.heap.size,4,none⟩ (.slice o3 (x.length+y.length) c3)):=hB2.trans (hI4.low.mono hB2.size)
   have hown5:=hI4.own
   have HR3:Hid (x++y=R):=HI3
   clear zf hg3 hb3 hown3 f0 f1 f2 f3 x0 x1 x2 x3 x4 b0 b1 b2 b3 b4 HI3
   go_upto_region 15 with fail
   generalize u3.setCell ⟨W.heap.size,4,none⟩ (.slice o3 (x.length+y.length) c3)=W4 at *
   go_wp2
   refine bodyPost_ret (v:=hkV ⟨B,BN,A,AN,R⟩ (.slice o3 (x.length+y.length) c3)) (results_cell_row rfl _ _ (w.heap.size+1) 45 #[.int .i64 B,.int .i64 BN,.int .i64 A,.int .i64 AN,.slice o3 (x.length+y.length) c3] (0,0) _ rfl hP Tryz.underlying45 rfl (by kernel_rfl)) rfl ⟨_,rfl,?_,?_⟩
   ·rw[← HR3.out]
    have hsw:=HSZ.out
    have key:∀ (u:World) (j:Nat) (z:Value),u.ownsRow w.heap.size 47 2 (.slice o3 (x.length+y.length) c3) (x++y).length (mkcells (x++y))→(∀ g,(Value.slice o3 (x.length+y.length) c3).ownBlock=some g→w.heap.size+1<g)→(u.setCell ⟨w.heap.size+1,j,none⟩ z).ownsRow w.heap.size 47 2 (.slice o3 (x.length+y.length) c3) (x++y).length (mkcells (x++y)):=fun u j z ho hg=>ZhF ho (ZdS u _ j z) (fun k hk e=>by cases hk;have:=hg _ e;omega)
    have hgg:∀ g,(Value.slice o3 (x.length+y.length) c3).ownBlock=some g→w.heap.size+1<g:=fun g hg=>by have:=ZhJ hown5 hg;omega
    have h0:W4.ownsRow w.heap.size 47 2 (.slice o3 (x.length+y.length) c3) (x++y).length (mkcells (x++y)):=ZhC hown5 (by omega)
    exact key _ _ _ (key _ _ _ (key _ _ _ (key _ _ _ (key _ _ _ h0 hgg) hgg) hgg) hgg) hgg
   ·exact ((((hlw.setCell (by simp) _).setCell (by simp) _).setCell (by simp) _).setCell (by simp) _).setCell (by simp) _
end

section
open Go.RowKit
section
variable {u:World} {b:Nat} {A AN B BN:Int} {ls:List Mk} {v:Value}
theorem Hx.setA (q:Hx u b ⟨A,AN,B,BN,ls⟩ v) (z:Int):Hx (u.setCell ⟨b,0,none⟩ (.int .i64 z)) b ⟨z,AN,B,BN,ls⟩ v:=heap_setCell_same u b 0 _ _ _ q
theorem Hx.setAN (q:Hx u b ⟨A,AN,B,BN,ls⟩ v) (z:Int):Hx (u.setCell ⟨b,1,none⟩ (.int .i64 z)) b ⟨A,z,B,BN,ls⟩ v:=heap_setCell_same u b 1 _ _ _ q
theorem Hx.setB (q:Hx u b ⟨A,AN,B,BN,ls⟩ v) (z:Int):Hx (u.setCell ⟨b,2,none⟩ (.int .i64 z)) b ⟨A,AN,z,BN,ls⟩ v:=heap_setCell_same u b 2 _ _ _ q
theorem Hx.setBN (q:Hx u b ⟨A,AN,B,BN,ls⟩ v) (z:Int):Hx (u.setCell ⟨b,3,none⟩ (.int .i64 z)) b ⟨A,AN,B,z,ls⟩ v:=heap_setCell_same u b 3 _ _ _ q
theorem Hx.other (q:Hx u b ⟨A,AN,B,BN,ls⟩ v) {g:Nat} (hg:b≠g) (j:Nat) (z:Value):Hx (u.setCell ⟨g,j,none⟩ z) b ⟨A,AN,B,BN,ls⟩ v:=q.keep (ZdS u g j z) (fun e=>hg (Option.some.inj e))
end
end

section
open Go.RowKit
def chO (c:Ch):Obj:=.cells #[.int .i64 c.A,.int .i64 c.AN,.int .i64 c.B,.int .i64 c.BN] 139
def Cx (u:World) (b:Nat) (c:Ch):Prop:=u.heap[b]?=some (chO c)
section
variable {u u':World} {b:Nat} {c:Ch}
theorem Cx.cells (q:Cx u b c):u.cell? ⟨b,0,none⟩=some (.int .i64 c.A)∧u.cell? ⟨b,1,none⟩=some (.int .i64 c.AN)∧u.cell? ⟨b,2,none⟩=some (.int .i64 c.B)∧u.cell? ⟨b,3,none⟩=some (.int .i64 c.BN):=by
 unfold Cx chO at q
 refine⟨?_,?_,?_,?_⟩<;>rw[Lib.cell_of_heap q]<;>rfl
theorem Cx.lt (q:Cx u b c):b<u.heap.size:=(Array.getElem?_eq_some_iff.1 q).1
theorem Cx.low (q:Cx u b c) (hg:Below u.heap.size u u'):Cx u' b c:=(hg.block b q.lt).trans q
theorem Cx.new (w:World) (c:Ch):Cx (w.alloc (chO c)) w.heap.size c:=_root_.Go.heap_alloc_new w _
end
def ChAt (u:World) (b o:Nat) (x:Ch):Prop:=u.cell? ⟨b,o,none⟩=some (.int .i64 x.A)∧u.cell? ⟨b,o+1,none⟩=some (.int .i64 x.AN)∧u.cell? ⟨b,o+2,none⟩=some (.int .i64 x.B)∧u.cell? ⟨b,o+3,none⟩=some (.int .i64 x.BN)
theorem ZdW {u u':World} (hB:Low u u') {q:Addr} {z:Value} (hz:u.cell? q=some z):u'.cell? q=some z:=(World.cell?_of_block (w:=u) (Below.block hB _ (World.block_lt_of_cell? _ _ hz))).trans hz
theorem ChAt.low {u u':World} {b o:Nat} {x:Ch} (h:ChAt u b o x) (hB:Low u u'):ChAt u' b o x:=⟨ZdW hB h.1,ZdW hB h.2.1,ZdW hB h.2.2.1,ZdW hB h.2.2.2⟩
theorem ZwK {u:World} {b o:Nat} {h:Ch} (q:ChAt u b o h) {op:Oper} (x:Operand) (ho:op.op=.load 139 x) {ev:Operand→Value} (hx:ev x=.pointer (some ⟨b,o,none⟩)) :
  (execOp ev op).run Tryz.prog u=.ok (.value (chV h)) u:=by
 obtain⟨d0,d1,d2,d3⟩:=q
 unfold chV
 simp only[execOp,ho,hx]
 go_simp
theorem Cx.keep {u u':World} {b:Nat} {c:Ch} (q:Cx u b c) {g:Option Nat} (hg:u.grownBy u' g) (hr:some b≠g):Cx u' b c:=(hg.block b q.lt hr).trans q
theorem Zxf (s:Int) (t:List UInt8) (x:List (List UInt8)):mks s (t::x)=⟨s,t⟩::mks s x:=rfl
end

section
open Go.RowKit
def Hhd:List Ch→Prop
 | []=>True
 | c::_=>(-1≤c.A∧0≤c.AN∧c.A+c.AN≤4398046511104)∧-1≤c.B∧0≤c.BN∧c.B+c.BN≤4398046511104
def tot:List Hk→Nat
 | []=>0
 | h::l=>h.ls.length+tot l
def bch (r:List Ch):List Value:=chcells r.reverse
theorem Ztn (c:Ch) (r:List Ch):bch (c::r)=bch r++chC c:=by simp[bch,chcells]
theorem Zto (r:List Ch):(bch r).length=r.length * 4:=by simp[bch,Zbn]
theorem Ztm (c:Ch) (r:List Ch):(bch (c::r))[r.length * 4]?=some (.int .i64 c.A)∧(bch (c::r))[r.length * 4+1]?=some (.int .i64 c.AN)∧(bch (c::r))[r.length * 4+2]?=some (.int .i64 c.B)∧(bch (c::r))[r.length * 4+3]?=some (.int .i64 c.BN):=by
 have hl:=Zto r
 rw[Ztn]
 refine⟨?_,?_,?_,?_⟩<;>rw[List.getElem?_append_right (by omega)]<;>simp[hl,chC]
theorem Ztp (c:Ch) (r:List Ch) (z:Int):(bch (c::r)).set (r.length * 4+1) (.int .i64 z)=bch (⟨c.A,z,c.B,c.BN⟩::r):=by
 have hl:=Zto r
 rw[Ztn,Ztn,List.set_append_right _ _ (by omega)]
 simp[hl,chC]
theorem Ztq (c:Ch) (r:List Ch) (z:Int):(bch (c::r)).set (r.length * 4+3) (.int .i64 z)=bch (⟨c.A,c.AN,c.B,z⟩::r):=by
 have hl:=Zto r
 rw[Ztn,Ztn,List.set_append_right _ _ (by omega)]
 simp[hl,chC]
theorem Zep {u:World} {B:Nat} {e:TypeId} {s:Nat} {oo:Option Addr} {n oc:Nat} {xs:List Value} (h:u.ownsRow B e s (.slice oo (n+1) oc) (n+1) xs):∃ g,oo=some ⟨g,0,none⟩:=by
 rcases h.2 with ⟨_,h0⟩ | ⟨g,cap,cur,e,_⟩
 ·omega
 ·cases e
  exact⟨g,rfl⟩
theorem ZxV (a b:Int) (r:List Ch):∃ c t,opn a b r=c::t∧c.A+c.AN=a∧c.B+c.BN=b:=by
 unfold opn
 cases r with
 | nil=>exact⟨_,_,rfl,by simp,by simp⟩
 | cons c r =>
  by_cases h:endsAt a b (c::r)=true
  ·rw[if_pos h]
   simp only[endsAt,Bool.and_eq_true,decide_eq_true_eq] at h
   exact⟨c,r,rfl,h.1,h.2⟩
  ·rw[if_neg h]
   exact⟨_,_,rfl,by simp,by simp⟩
theorem ZyL (p:List (Hk × Value)) (v:Value) (w:World) (hv:HHp w v p) (hok:HOk p) (ht:tot (p.map (·.1))≤1099511627776) (z:Int) (HZ:Hid (ordH (p.map (·.1))=z)) (R:List Ch) (HR:Hid (chR (p.map (·.1))=R)):Calls Tryz.prog 81 #[v] w fun e w'=>∃ v',e=.returned (.tuple #[v',.int .i64 z])∧HCh w' v' R∧Below w.heap.size w w':=by
 obtain⟨vo,vc,rfl⟩:=Holds.form hv.row
 have hpl:p.length≤1099511627776:=hok.1
 have HOK:Hid (HOk p):=hok
 obtain⟨l,hl⟩:∃ l,p.map (·.1)=l:=⟨_,rfl⟩
 have hll:p.length=l.length:=by rw[← hl];simp
 have HL:Hid (p.map (·.1)=l):=hl
 have HLL:Hid (p.length=l.length):=hll
 have hZ2:Hid (ordH (p.map (·.1))=z):=HZ
 rw[hl] at HR HZ ht
 clear hl hll hok
 go_enter Tryz.func81,Tryz.ntmps81
 go_wp2_with fail
 refine (ZyY p _ w hv HOK.out z hZ2).mono ?_
 rintro e W ⟨rfl,hBW⟩
 by_cases hz:z=0
 ·subst hz
  have HR2:Hid ((chHs [] l).reverse=R):=(by
   show _=_
   rw[← HR.out]
   unfold chR
   rw[if_pos HZ.out])
  have HCK:Hid (∀ x∈l,chkH x=0):=(by
   refine ZuP ?_
   have h:=HZ.out
   unfold ordH at h
   by_cases hq:errs l=0
   ·exact hq
   ·rw[if_pos hq] at h
    exact h)
  clear HR HZ hZ2
  go_wp2
  go_loopw [5,6] (fun ov iv wr=>∃ (k:Nat) (r:List Ch),k≤p.length∧iv=.int .i64 (k:Int)∧(∃ oo oc,ov=.slice oo r.length oc)∧r.length+tot (l.drop k)≤1099511627776∧Hid (Hhd r)∧St W 139 4 ov r.length (bch r) wr∧Hid ((chHs r (l.drop k)).reverse=R)) (fun _ iv _=>p.length-(intOf iv).toNat)
  case atStart=>exact⟨0,[],Nat.zero_le _,by go_num,⟨_,_,rfl⟩,by simpa using ht,trivial,⟨Zen _ _ _ _,Below.refl _ _⟩,HR2⟩
  case round =>
   obtain⟨k,r,hk,rfl,⟨oo,oc,rfl⟩,hrt,HHD,hS,HI⟩:=hrel
   clear HR2
   have hB:=hBW.trans (hS.low.mono hBW.size)
   by_cases hlt:k<p.length
   ·obtain⟨b,off,rfl,hb,_⟩:=hv.at (by omega)
    obtain⟨x,y,hxy⟩:∃ x y,p[k]=(x,y):=⟨_,_,rfl⟩
    obtain⟨⟨c0,c1,c2,c3,c4⟩,hm⟩:=hv.take hB k hlt hxy
    have hmW:=(hv.take hBW k hlt hxy).2
    have hbd:=(HOK.out.2 _ (List.getElem_mem hlt)).1
    rw[hxy] at hbd
    have hlk:l[k]'(by have:=HLL.out;omega)=x:=by
     have hz:l[k]?=some x:=by rw[← HL.out];simp[hlt,hxy]
     exact (List.getElem?_eq_some_iff.1 hz).2
    have hck:chkH x=0:=HCK.out x (by rw[← hlk];exact List.getElem_mem _)
    have hdr:l.drop k=x::l.drop (k+1):=by rw[List.drop_eq_getElem_cons (l:=l) (i:=k) (by have:=HLL.out;omega),hlk]
    have hn:=ZtV hck
    obtain⟨X,hX⟩:∃ X,atA x=X:=⟨_,rfl⟩
    obtain⟨Y,hY⟩:∃ Y,atB x=Y:=⟨_,rfl⟩
    have ha:=Zti hck
    rw[hX,hY] at ha
    have HX:Hid (atA x=X):=hX
    have HY:Hid (atB x=Y):=hY
    have HI2:Hid ((chHs (chLs X Y r x.ls) (l.drop (k+1))).reverse=R):=(by
     show _=_
     rw[← HI.out,hdr]
     simp only[chHs]
     rw[hX,hY])
    have hrt2:r.length+x.ls.length+tot (l.drop (k+1))≤1099511627776:=by
     rw[hdr] at hrt
     simp only[tot] at hrt
     omega
    obtain⟨yo,yc,rfl⟩:=hm.form
    have i1:0≤(k:Int):=by omega
    have i2:(k:Int)<(p.length:Int):=by omega
    obtain⟨T,hT⟩:∃ T,tot (l.drop (k+1))=T:=⟨_,rfl⟩
    rw[hT] at hrt2
    have HT:Hid (tot (l.drop (k+1))=T):=hT
    dsimp only at hbd
    clear HI hlk hck hX hY hdr hrt hT
    go_wp2_with fail
    refine (ZyK x _ _ (by omega) (by omega) (by omega) (by omega) X Y HX HY).mono ?_
    rintro e wr1 ⟨rfl,hB1⟩
    have hS1:St W 139 4 (.slice oo r.length oc) r.length (bch r) wr1:=⟨ZhK hS.own hB1,hS.low.trans (hB1.mono hS.low.size)⟩
    clear hS hB1 hB hm c0 c1 c2 c3 c4 HX HY
    go_wp2
    go_loopw [5,7,8,9] (fun ov av bv jv wr=>∃ (j:Nat) (a b:Int) (r:List Ch),j≤x.ls.length∧av=.int .i64 a∧bv=.int .i64 b∧jv=.int .i64 (j:Int)∧(∃ oo oc,ov=.slice oo r.length oc)∧(-1≤a∧a≤2147483647+(j:Int))∧(-1≤b∧b≤2147483647+(j:Int))∧r.length+(x.ls.length-j)+T≤1099511627776∧Hid (Hhd r)∧St W 139 4 ov r.length (bch r) wr∧Hid ((chHs (chLs a b r (x.ls.drop j)) (l.drop (k+1))).reverse=R)) (fun _ _ _ jv _=>x.ls.length-(intOf jv).toNat)
    case atStart=>exact⟨0,X,Y,r,Nat.zero_le _,by go_num,by go_num,by go_num,⟨_,_,rfl⟩,by omega,by omega,by omega,HHD,hS1,HI2⟩
    case round =>
     obtain⟨j,a,bb,r,hj,rfl,rfl,rfl,⟨oo,oc,rfl⟩,hab,hbb,hrt,HHD,hS,HI⟩:=hrel
     clear HI2 hrt2 hS1
     have hB:=hBW.trans (hS.low.mono hBW.size)
     obtain⟨⟨c0,c1,c2,c3,c4⟩,hm⟩:=hv.take hB k hlt hxy
     by_cases hjl:j<x.ls.length
     ·obtain⟨mb,mo,rfl,_,hmc⟩:=HMk.at hm (by omega)
      obtain⟨m0,m1⟩:=hmc j hjl
      obtain⟨m,hmj⟩:∃ m,x.ls[j]=m:=⟨_,rfl⟩
      rw[hmj] at m0 m1
      obtain⟨sg,tx⟩:=m
      dsimp only at m0 m1
      have HI3:Hid ((chHs (if sg=32 then chLs (a+1) (bb+1) r (x.ls.drop (j+1)) else if sg=45 then chLs (a+1) bb (bmA (opn a bb r)) (x.ls.drop (j+1)) else chLs a (bb+1) (bmB (opn a bb r)) (x.ls.drop (j+1))) (l.drop (k+1))).reverse=R):=(by
       show _=_
       rw[← HI.out,List.drop_eq_getElem_cons hjl,hmj]
       rfl)
      have j1:0≤(j:Int):=by omega
      have j2:(j:Int)<(x.ls.length:Int):=by omega
      clear HI hmj hmc m1 hm
      by_cases h32:sg=32
      ·subst h32
       have HI4:Hid ((chHs (chLs (a+1) (bb+1) r (x.ls.drop (j+1))) (l.drop (k+1))).reverse=R):=(by
        have h:=HI3.out
        rw[if_pos rfl] at h
        exact h)
       clear HI3
       go_wp2
       exact⟨⟨j+1,_,_,r,by omega,by go_num,by go_num,by go_num,⟨_,_,rfl⟩,by omega,by omega,by omega,HHD,hS,HI4⟩,by simp[intOf];omega⟩
      ·have e32:(sg == 32)=false:=by simpa using h32
       obtain⟨c,t,hop,hcA,hcB⟩:=ZxV a bb r
       have HOP:Hid (opn a bb r=c::t):=hop
       have HCC:Hid (c.A+c.AN=a∧c.B+c.BN=bb):=⟨hcA,hcB⟩
       have HI4:Hid ((chHs (if sg=45 then chLs (a+1) bb (⟨c.A,c.AN+1,c.B,c.BN⟩::t) (x.ls.drop (j+1)) else chLs a (bb+1) (⟨c.A,c.AN,c.B,c.BN+1⟩::t) (x.ls.drop (j+1))) (l.drop (k+1))).reverse=R):=(by
        have h:=HI3.out
        rw[if_neg h32,hop] at h
        exact h)
       clear HI3 hop hcA hcB
       go_upto_region 17 with fail
       obtain⟨eb,heb⟩:∃ eb,endsAt a bb r=eb:=⟨_,rfl⟩
       have HEB:Hid (endsAt a bb r=eb):=heb
       clear heb
       go_cut [5,11,90] from 31 to 120 (fun ov nv c wz=>ov=.slice oo r.length oc∧nv=.int .i64 ((r.length:Int)-1)∧c=.bool (!eb)∧∃ m,wz=wr.drewN m)
       case first =>
        cases r with
        | nil =>
         obtain rfl:eb=false:=HEB.out.symm
         clear HEB HI4 HOP
         go_quiet (fail)
         go_wp2_with fail
         go_meet
         case rel=>exact⟨rfl,by simp,rfl,_,rfl⟩
        | cons c0 r0 =>
         have hd:=HHD.out
         obtain⟨cA,cAN,cB,cBN⟩:=c0
         simp only[Hhd] at hd
         have hown:=hS.own
         rw[List.length_cons] at hown
         obtain⟨g,rfl⟩:=Zep hown
         obtain⟨q0,q1,q2,q3⟩:=Ztm ⟨cA,cAN,cB,cBN⟩ r0
         have d0:=(hown.cellAt (r0.length * 4) (by omega)).trans q0
         have d1:=(hown.cellAt (r0.length * 4+1) (by omega)).trans q1
         have d2:=(hown.cellAt (r0.length * 4+2) (by omega)).trans q2
         have d3:=(hown.cellAt (r0.length * 4+3) (by omega)).trans q3
         dsimp only at d0 d1 d2 d3
         have HEB2:Hid ((decide (cA+cAN=a) && decide (cB+cBN=bb))=eb):=HEB.out
         clear HEB q0 q1 q2 q3
         obtain⟨n0,hn0⟩:∃ n,r0.length=n:=⟨_,rfl⟩
         have HN0:Hid (r0.length=n0):=hn0
         simp only[List.length_cons,hn0] at d0 d1 d2 d3 ⊢
         clear hn0
         have l1:decide ((n0:Int)<0)=false:=decide_eq_false (by omega)
         have l2:(0:Int)≤(n0:Int):=by omega
         have l3:(n0:Int)<(n0:Int)+1:=by omega
         have w1:IntKind.i64.wrap (cA+cAN)=cA+cAN:=Zmm (by omega) (by omega)
         have w2:IntKind.i64.wrap (cB+cBN)=cB+cBN:=Zmm (by omega) (by omega)
         by_cases hA:cA+cAN=a
         ·have eA:(cA+cAN != a)=false:=by simpa using hA
          by_cases hBq:cB+cBN=bb
          ·have eB:(cB+cBN != bb)=false:=by simpa using hBq
           obtain rfl:eb=true:=by rw[← HEB2.out];simp[hA,hBq]
           clear HEB2 HI4 HOP hA hBq HCC
           go_quiet (fail)
           go_wp2_with fail
           go_meet
           case rel=>exact⟨by simp[HN0.out],by simp[HN0.out],rfl,_,rfl⟩
          ·have eB:(cB+cBN != bb)=true:=by simpa using hBq
           obtain rfl:eb=false:=by rw[← HEB2.out];simp[hBq]
           clear HEB2 HI4 HOP hA hBq HCC
           go_quiet (fail)
           go_wp2_with fail
           go_meet
           case rel=>exact⟨by simp[HN0.out],by simp[HN0.out],rfl,_,rfl⟩
         ·have eA:(cA+cAN != a)=true:=by simpa using hA
          obtain rfl:eb=false:=by rw[← HEB2.out];simp[hA]
          clear HEB2 HI4 HOP hA HCC
          go_quiet (fail)
          go_wp2_with fail
          go_meet
          case rel=>exact⟨by simp[HN0.out],by simp[HN0.out],rfl,_,rfl⟩
       case rest =>
        obtain⟨rfl,rfl,rfl,mm,rfl⟩:=hcut
        have hSd:St W 139 4 (.slice oo r.length oc) r.length (bch r) (wr.drewN mm):=⟨hS.own,Below.dN hS.low mm⟩
        clear hS c0 c1 c2 c3 c4 m0
        generalize wr.drewN mm=w2 at *
        go_upto_if 90 with fail
        go_cut [5,11] from 31 to 120 (fun ov nv wz=>(∃ oo oc,ov=.slice oo (t.length+1) oc)∧nv=.int .i64 (t.length:Int)∧St W 139 4 ov (t.length+1) (bch (c::t)) wz)
        case first =>
         cases eb with
         | true =>
          obtain⟨c0,r0,rfl⟩:∃ c0 r0,r=c0::r0:=by
           cases r with
           | nil=>have:=HEB.out;cases this
           | cons c0 r0=>exact⟨c0,r0,rfl⟩
          have hop:=HOP.out
          unfold opn at hop
          rw[if_pos HEB.out] at hop
          cases hop
          clear HEB HOP HI4 HCC
          go_wp2_with fail
          go_meet
          case rel=>exact⟨⟨_,_,rfl⟩,by simp,by rw[List.length_cons] at hSd;exact hSd⟩
         | false =>
          have hop:=HOP.out
          unfold opn at hop
          rw[if_neg (by rw[HEB.out];simp)] at hop
          cases hop
          have hs2:=hSd.low.size
          have hrow:=ZgR w2 #[.int .i64 a,.int .i64 0,.int .i64 bb,.int .i64 0] 139 1 1 (by decide)
          clear HEB HOP HI4 HCC
          go_wp2_with (at_builtin;refine Zmg _ (by kernel_rfl) (.tmp 91) (.tmp 95) 93 139 (.agg #[.int .i64 0,.int .i64 0,.int .i64 0,.int .i64 0]) 4 32 rfl Tryz.underlying93 infoCh rfl (by decide) (by decide) W.heap.size _ _ _ rfl (hSd.own.alloc _) _ 1 (chcells [⟨a,0,bb,0⟩]) rfl hrow rfl (ZtO _) (by omega) (by simp;omega) ?_)
          intro v3 u3 hown3 hg3
          have hS3:=(ZAs (Obj.cells #[.int .i64 a,.int .i64 0,.int .i64 bb,.int .i64 0] 139) hSd).grown hown3 hg3
          obtain⟨o3,c3,rfl⟩:=(Zeo hown3).form
          rw[show chcells [(⟨a,0,bb,0⟩:Ch)]=chC ⟨a,0,bb,0⟩ by simp[chcells]] at hS3
          clear hown3 hg3
          go_wp2_with fail
          go_meet
          case rel=>exact⟨⟨_,_,rfl⟩,by go_num,by rw[Ztn];exact hS3⟩
        case rest =>
         obtain⟨⟨o4,c4,rfl⟩,rfl,hS4⟩:=hcut
         obtain⟨g,rfl⟩:=Zep hS4.own
         obtain⟨q0,q1,q2,q3⟩:=Ztm c t
         have hd:(-1≤c.A∧0≤c.AN)∧-1≤c.B∧0≤c.BN:=(by
          have h1:=HHD.out
          have h2:=HOP.out
          unfold opn at h2
          by_cases hq:endsAt a bb r=true
          ·rw[if_pos hq] at h2
           rw[h2] at h1
           simp only[Hhd] at h1
           omega
          ·rw[if_neg hq] at h2
           cases h2
           dsimp only
           omega)
         have hlen:t.length+1≤r.length+1:=(by
          have h2:=HOP.out
          unfold opn at h2
          by_cases hq:endsAt a bb r=true
          ·rw[if_pos hq] at h2
           rw[h2]
           simp
          ·rw[if_neg hq] at h2
           cases h2
           simp)
         have hcc:=HCC.out
         obtain⟨cA,cAN,cB,cBN⟩:=c
         dsimp only at hd hcc HI4 q0 q1 q2 q3
         have d1:=(hS4.own.cellAt (t.length * 4+1) (by omega)).trans q1
         have d3:=(hS4.own.cellAt (t.length * 4+3) (by omega)).trans q3
         have f1:=hS4.own.frozenAt (t.length * 4+1)
         have f3:=hS4.own.frozenAt (t.length * 4+3)
         have k1:0≤(t.length:Int):=by omega
         have k2:(t.length:Int)<(t.length:Int)+1:=by omega
         clear q0 q1 q2 q3 HHD HOP HCC HEB hSd
         by_cases h45:sg=45
         ·subst h45
          have HI5:Hid ((chHs (chLs (a+1) bb (⟨cA,cAN+1,cB,cBN⟩::t) (x.ls.drop (j+1))) (l.drop (k+1))).reverse=R):=(by
           have h:=HI4.out
           rw[if_pos rfl] at h
           exact h)
          have hst:=hS4.own.stored (t.length * 4+1) (.int .i64 (cAN+1))
          rw[Ztp] at hst
          have hS5:St W 139 4 (.slice (some ⟨g,0,none⟩) (t.length+1) c4) (t.length+1) (bch (⟨cA,cAN+1,cB,cBN⟩::t)) (wc.setCell ⟨g,t.length * 4+1,none⟩ (.int .i64 (cAN+1))):=hS4.grown hst.1 hst.2
          clear HI4 hst hS4 d3 f3
          go_wp2
          exact⟨⟨j+1,_,_,⟨cA,cAN+1,cB,cBN⟩::t,by omega,by go_num,by go_num,by go_num,⟨_,_,rfl⟩,by omega,by omega,by simp only[List.length_cons];omega,by simp only[Hhd];show _∧_;omega,hS5,HI5⟩,by simp[intOf];omega⟩
         ·have e45:(sg == 45)=false:=by simpa using h45
          have HI5:Hid ((chHs (chLs a (bb+1) (⟨cA,cAN,cB,cBN+1⟩::t) (x.ls.drop (j+1))) (l.drop (k+1))).reverse=R):=(by
           have h:=HI4.out
           rw[if_neg h45] at h
           exact h)
          have hst:=hS4.own.stored (t.length * 4+3) (.int .i64 (cBN+1))
          rw[Ztq] at hst
          have hS5:St W 139 4 (.slice (some ⟨g,0,none⟩) (t.length+1) c4) (t.length+1) (bch (⟨cA,cAN,cB,cBN+1⟩::t)) (wc.setCell ⟨g,t.length * 4+3,none⟩ (.int .i64 (cBN+1))):=hS4.grown hst.1 hst.2
          clear HI4 hst hS4 d1 f1
          go_wp2
          exact⟨⟨j+1,_,_,⟨cA,cAN,cB,cBN+1⟩::t,by omega,by go_num,by go_num,by go_num,⟨_,_,rfl⟩,by omega,by omega,by simp only[List.length_cons];omega,by simp only[Hhd];show _∧_;omega,hS5,HI5⟩,by simp[intOf];omega⟩
     ·have HI3:Hid ((chHs r (l.drop (k+1))).reverse=R):=(by
       have h:=HI.out
       rw[List.drop_of_length_le (by omega)] at h
       exact h)
      have hend:decide ((j:Int)<(x.ls.length:Int))=false:=decide_eq_false (by omega)
      clear HI
      go_wp2
      exact⟨⟨k+1,r,by omega,by go_num,⟨_,_,rfl⟩,by have:=HT.out;omega,HHD,hS,HI3⟩,by simp[intOf];omega⟩
   ·have HI3:Hid (r.reverse=R):=(by
     have h:=HI.out
     rw[List.drop_of_length_le (by have:=HLL.out;omega)] at h
     exact h)
    have hend:decide ((k:Int)<(p.length:Int))=false:=decide_eq_false (by omega)
    clear HI
    go_wp2
    go_ret2
    refine⟨_,rfl,?_,hB⟩
    have h:=Zeo hS.own
    rw[← HI3.out]
    unfold HCh
    rw[List.length_reverse]
    exact h
 ·have hz1:(z != 0)=true:=by simpa using hz
  obtain rfl:R=[]:=by
   rw[← HR.out]
   unfold chR
   rw[if_neg (by rw[HZ.out];exact hz)]
  clear HR HZ hZ2 hz
  go_wp2
  go_ret2
  exact⟨_,rfl,Holds.nil _,hBW⟩
end

section
open Go.RowKit
theorem infoCs:(Tryz.prog.info? 93).map (fun i=>(i.zero,i.size,i.bytes))=some (some (.slice none 0 0),1,24):=by kernel_rfl
structure Gr (w:World) (ov:Value) (G:List (List Ch × Value)) (u:World):Prop where
 low:Below w.heap.size w u
 own:u.ownsRow w.heap.size 93 1 ov G.length (G.map (·.2))
 ins:∀ x∈G,u.ownsRow w.heap.size 139 4 x.2 x.1.length (chcells x.1)
def Lst (G:List (List Ch × Value)):Prop:=∀ P x,G=P++[x]→∀ y∈P,∀ b,x.2.ownBlock=some b→y.2.ownBlock≠some b
section
variable {w u u':World} {ov ov':Value} {G P:List (List Ch × Value)}
theorem Gr.nil (w:World):Gr w (.slice none 0 0) [] w:=⟨Below.refl _ _,Zen _ _ _ _,fun _ h=>by cases h⟩
theorem Gr.alloc (h:Gr w ov G u) (o:Obj):Gr w ov G (u.alloc o):=⟨h.low.alloc h.low.size o,h.own.alloc o,fun x hx=>(h.ins x hx).alloc o⟩
theorem Gr.drewN (h:Gr w ov G u) (n:Nat):Gr w ov G (u.drewN n):=⟨Below.dN h.low n,h.own,h.ins⟩
theorem Gr.keep (h:Gr w ov G u) (hk:Below u.heap.size u u'):Gr w ov G u':=⟨h.low.trans (hk.mono h.low.size),ZhK h.own hk,fun x hx=>ZhK (h.ins x hx) hk⟩
theorem Gr.more (h:Gr w ov G u) {g:List Ch} {gv:Value} (hgv:u.ownsRow w.heap.size 139 4 gv g.length (chcells g)) (hg:u.grownBy u' ov.ownBlock) (ho:u'.ownsRow w.heap.size 93 1 ov' (G.length+1) (G.map (·.2)++[gv])):Gr w ov' (G++[(g,gv)]) u':=by
 have key:∀ {v:Value} {n:Nat} {xs:List Value},u.ownsRow w.heap.size 139 4 v n xs→u'.ownsRow w.heap.size 139 4 v n xs:=fun hv=>ZhF hv hg (fun k hk=>ZhH h.own hv (by decide) hk)
 refine⟨h.low.grown hg h.low.size (fun j hj=>ZhJ h.own hj),?_,fun z hz=>?_⟩
 ·rw[List.length_append,List.map_append]
  exact ho
 ·rcases List.mem_append.1 hz with hz | hz
  ·exact key (h.ins z hz)
  ·rw[List.mem_singleton.1 hz]
   exact key hgv
theorem Gr.last {g g':List Ch} {gv gv':Value} (h:Gr w ov (P++[(g,gv)]) u) (hL:Lst (P++[(g,gv)])) (hg:u.grownBy u' gv.ownBlock) (ho:u'.ownsRow w.heap.size 139 4 gv' g'.length (chcells g')) (hb:gv'.ownBlock=gv.ownBlock∨gv'.ownBlock=some u.heap.size) :
  ∃ q cap,ov=.slice (some ⟨q,0,none⟩) (P.length+1) cap∧u'.cell? ⟨q,P.length,none⟩=some gv∧u'.frozen? ⟨q,P.length,none⟩=false∧Gr w ov (P++[(g',gv')]) (u'.setCell ⟨q,P.length,none⟩ gv')∧Lst (P++[(g',gv')]):=by
 have hown:=h.own
 rw[List.length_append,List.length_singleton] at hown
 have hgl:=h.ins (g,gv) (by simp)
 obtain⟨oo,oc,hov⟩:=(Zeo hown).form
 subst hov
 obtain⟨q,rfl⟩:=Zep hown
 have hown':=ZhF hown hg (fun k hk=>ZhH hgl hown (by decide) hk)
 have hst:=hown'.stored P.length gv'
 have hset:((P++[(g,gv)]).map (·.2)).set P.length gv'=(P++[(g',gv')]).map (·.2):=by simp
 rw[hset] at hst
 have hlow:Below w.heap.size w u':=h.low.grown hg h.low.size (fun j hj=>ZhJ hgl hj)
 refine⟨q,oc,rfl,?_,hown'.frozenAt _,⟨hlow.grown hst.2 hlow.size (fun j hj=>by cases hj;exact ZhJ hown rfl),?_,?_⟩,?_⟩
 ·rw[hown'.cellAt P.length (by omega)]
  simp
 ·rw[List.length_append,List.length_singleton]
  exact hst.1
 ·intro x hx
  have hqx:∀ {v:Value} {n:Nat} {xs:List Value},u'.ownsRow w.heap.size 139 4 v n xs→(u'.setCell ⟨q,P.length,none⟩ gv').ownsRow w.heap.size 139 4 v n xs:=fun hv=>ZhF hv hst.2 (fun k hk=>ZhH hown' hv (by decide) hk)
  rcases List.mem_append.1 hx with hx | hx
  ·exact hqx (ZhF (h.ins x (List.mem_append_left _ hx)) hg (fun k hk=>hL P (g,gv) rfl x hx k hk))
  ·rw[List.mem_singleton.1 hx]
   exact hqx ho
 ·intro P' x' he y hy b' hb'
  have he2:=List.append_inj' he rfl
  obtain⟨rfl,hx'⟩:=he2
  have hx2:(g',gv')=x':=by simpa using hx'
  subst hx2
  rcases hb with hb | hb
  ·rw[hb] at hb'
   exact hL P (g,gv) rfl y hy b' hb'
  ·rw[hb] at hb'
   cases hb'
   intro e
   have:=ZhG (h.ins y (List.mem_append_left _ hy)) e
   omega
end
theorem ZzB {fl:Bool} {p q n m:Int} {l:List Ch} (h:Right fl p q n m l):∀ c∈l,numB c=true:=by
 induction l generalizing fl p q with
 | nil=>intro c hc;cases hc
 | cons d l ih =>
  intro c hc
  rcases List.mem_cons.1 hc with rfl | hc
  ·exact h.1.1
  ·exact ih h.2 c hc
theorem ZwL {u:World} {a:Addr} {o:Option Addr} {n c:Nat} (h:u.cell? a=some (.slice o n c)) {op:Oper} (x:Operand) (ho:op.op=.load 93 x) {ev:Operand→Value} (hx:ev x=.pointer (some a)) :
  (execOp ev op).run Tryz.prog u=.ok (.value (.slice o n c)) u:=by
 simp only[execOp,ho,hx]
 go_simp
theorem ZuT {u:World} {b j:Nat} (hf:u.frozen? ⟨b,j,none⟩=false) {o n c} (hc:u.cell? ⟨b,j,none⟩=some (.slice o n c)) {o' n' c'} {op:Oper} (x y:Operand) (ho:op.op=.store 93 x y) {ev:Operand→Value} (hx:ev x=.pointer (some ⟨b,j,none⟩)) (hy:ev y=.slice o' n' c') :
  (execOp ev op).run Tryz.prog u=.ok .skip (u.setCell ⟨b,j,none⟩ (.slice o' n' c')):=by
 simp only[execOp,ho,hx,hy]
 go_simp
theorem ZtK (w:World) (c:Ch):Holds (w.alloc (chO c)) (.slice (some ⟨w.heap.size,0,none⟩) 1 1) 1 (chcells [c]):=ZgR w #[.int .i64 c.A,.int .i64 c.AN,.int .i64 c.B,.int .i64 c.BN] 139 1 1 (by decide)
theorem ZwV {G:List (List Ch × Value)} {gs:List (List Ch)} {g:List Ch} (h:G.map (·.1)=gs++[g]):∃ P gv,G=P++[(g,gv)]∧P.map (·.1)=gs:=by
 rcases List.eq_nil_or_concat G with rfl | ⟨P,x,rfl⟩
 ·have:=congrArg List.length h
  simp at this
 ·rw[List.concat_eq_append] at h ⊢
  rw[List.map_append] at h
  have h2:=List.append_inj' h rfl
  obtain⟨gx,gv⟩:=x
  have h3:gx=g:=by simpa using h2.2
  subst h3
  exact⟨P,gv,rfl,h2.1⟩
def nrB (ctx:Int) (l:List Ch) (i:Nat) (d:Ch):Bool:=match (l.take i).getLast? with
 | none=>false
 | some c=>decide (d.A-c.A-c.AN≤2 * ctx)
theorem ZwF {l:List Ch} {j:Nat} (hj:j<l.length):(l.take (j+1)).getLast?=some l[j]:=by
 rw[List.take_succ_eq_append_getElem hj,List.getLast?_append]
 simp
theorem Zvt {ctx:Int} {l:List Ch} {i:Nat} (hi:i<l.length):(nrB ctx l i l[i]=true→∃ gs gl,grp ctx (l.take i)=gs++[gl]∧grp ctx (l.take (i+1))=gs++[gl++[l[i]]])∧(nrB ctx l i l[i]=false→grp ctx (l.take (i+1))=grp ctx (l.take i)++[[l[i]]]):=by
 cases i with
 | zero =>
  refine⟨fun h=>by simp[nrB] at h,fun _=>?_⟩
  rw[List.take_succ_eq_append_getElem hi]
  rfl
 | succ j =>
  have e1:l.take (j+1)=l.take j++[l[j]]:=List.take_succ_eq_append_getElem (by omega)
  have e2:l.take (j+1+1)=l.take j++[l[j]]++[l[j+1]]:=by rw[List.take_succ_eq_append_getElem hi,e1]
  obtain⟨gs,g,h1,h2⟩:=Zvs ctx (l.take j) l[j] l[j+1]
  have hn:nrB ctx l (j+1) l[j+1]=decide (l[j+1].A-l[j].A-l[j].AN≤2 * ctx):=by
   unfold nrB
   rw[ZwF (by omega)]
  rw[hn,e1,e2,h1,h2]
  refine⟨fun h=>?_,fun h=>?_⟩
  ·rw[if_pos (of_decide_eq_true h)]
   exact⟨gs,g++[l[j]],rfl,rfl⟩
  ·rw[if_neg (of_decide_eq_false h)]
end

section
open Go.RowKit
def Apt (G:List (List Ch × Value)):Prop:=G.Pairwise fun x y=>∀ b,x.2.ownBlock=some b→y.2.ownBlock≠some b
theorem Ztf {G:List (List Ch × Value)} (h:Apt G):Lst G:=by
 intro P x he y hy b hb e
 subst he
 exact (List.pairwise_append.1 h).2.2 y hy x (by simp) b e hb
theorem Ztg {G:List (List Ch × Value)} (h:Apt G) (g:List Ch):Apt (G++[(g,.slice none 0 0)]):=by
 refine List.pairwise_append.2 ⟨h,List.pairwise_singleton _ _,?_⟩
 intro x _ y hy b _ e
 rw[List.mem_singleton.1 hy] at e
 cases e
theorem Zte {P:List (List Ch × Value)} {g g':List Ch} {gv gv':Value} (h:Apt (P++[(g,gv)])) {w u:World} {ov:Value} (hG:Gr w ov (P++[(g,gv)]) u) (hb:gv'.ownBlock=gv.ownBlock∨gv'.ownBlock=some u.heap.size):Apt (P++[(g',gv')]):=by
 obtain⟨h1,_,h3⟩:=List.pairwise_append.1 h
 refine List.pairwise_append.2 ⟨h1,List.pairwise_singleton _ _,?_⟩
 intro x hx y hy b hxb e
 rw[List.mem_singleton.1 hy] at e
 dsimp only at e
 rcases hb with hb | hb
 ·rw[hb] at e
  exact h3 x hx (g,gv) (by simp) b hxb e
 ·rw[hb] at e
  cases e
  have:=ZhG (hG.ins x (List.mem_append_left _ hx)) hxb
  omega
theorem ZuG {u:World} {b:Nat} {d:Ch} (h:Cx u b d) {B s n:Nat} {v:Value} {xs:List Value} (ho:u.ownsRow B 93 s v n xs):v.ownBlock≠some b:=by
 intro e
 rcases ho.2 with ⟨rfl,_⟩ | ⟨g,cap,cur,rfl,_,hg,_⟩
 ·cases e
 ·simp only[Value.ownBlock,Option.some.injEq] at e
  subst e
  unfold Cx chO at h
  rw[h] at hg
  simp at hg
theorem ZuS {u:World} {a:Addr} {op:Oper} (x:Operand) (ho:op.op=.nilCheck x) {ev:Operand→Value} (hx:ev x=.pointer (some a)):(execOp ev op).run Tryz.prog u=.ok (.value (.pointer (some a))) u:=by
 simp only[execOp,ho,hx]
 go_simp
def enL (l:List Ch) (i:Nat):Int:=match (l.take i).getLast? with
 | none=>0
 | some c=>c.A+c.AN
theorem ZuL {l:List Ch} {i:Nat} (hi:i<l.length):enL l (i+1)=l[i].A+l[i].AN:=by
 unfold enL
 rw[ZwF hi]
theorem Zxt {l:List Ch} {i:Nat} (hi:i<l.length) {ctx:Int} {d:Ch}:nrB ctx l i d=(decide (0<i) && decide (d.A-enL l i≤2 * ctx)):=by
 cases i with
 | zero=>rfl
 | succ j =>
  unfold nrB enL
  rw[ZwF (by omega),decide_eq_true (Nat.succ_pos j),Bool.true_and]
  dsimp only
  rw[show d.A-(l[j].A+l[j].AN)=d.A-l[j].A-l[j].AN by omega]
theorem ZuK {l:List Ch} (h:∀ c∈l,numB c=true) {i:Nat} (hi:i≤l.length):0≤enL l i∧enL l i≤4294967296:=by
 cases i with
 | zero=>exact⟨by unfold enL;simp,by unfold enL;simp⟩
 | succ j =>
  rw[ZuL (by omega)]
  have:=(Zhj l[j]).1 (h _ (List.getElem_mem _))
  omega
theorem Zxm (w:World):Holds (w.alloc (.cells #[.slice none 0 0] 93)) (.slice (some ⟨w.heap.size,0,none⟩) 1 1) 1 [.slice none 0 0]:=ZgR w #[.slice none 0 0] 93 1 1 (by decide)
theorem ZvB (l:List Ch) (n m ctx:Int) (v:Value) (w:World) (hv:HCh w v l) (hl:l.length≤1099511627776) (hn:n≤9223372036854775807) (hm:m≤9223372036854775807) (z:Int) (HZ:Hid (grpE l n m ctx=z)) (R:List (List Ch)) (HR:Hid (grpR l n m ctx=R)):Calls Tryz.prog 90 #[v,.int .i64 n,.int .i64 m,.int .i64 ctx] w fun e w'=>∃ v' G,e=.returned (.tuple #[v',.int .i64 z])∧Gr w v' G w'∧Apt G∧G.map (·.1)=R:=by
 obtain⟨vo,lc,rfl⟩:=Holds.form hv
 obtain⟨ck,hck⟩:∃ c,chk l n m=c:=⟨_,rfl⟩
 have HCK:Hid (chk l n m=ck):=hck
 clear hck
 go_enter Tryz.func90,Tryz.ntmps90
 go_wp2_with fail
 refine (ZsV l n m ck _ w hv hl hn hm HCK).mono ?_
 rintro e W ⟨rfl,hBW⟩
 by_cases hc0:ck=0
 ·subst hc0
  by_cases hx1:ctx<0
  ·have HE:Hid (z=2):=(by
    show _=_
    rw[← HZ.out]
    unfold grpE
    rw[HCK.out]
    simp[hx1])
   have HRN:Hid (R=[]):=(by
    show _=_
    rw[← HR.out]
    unfold grpR
    rw[HZ.out,HE.out,if_neg (by decide)])
   clear HZ HR HCK
   go_wp2
   go_ret2
   rw[HE.out,HRN.out]
   exact⟨_,[],rfl,⟨hBW,Zen _ _ _ _,fun _ h=>by cases h⟩,List.Pairwise.nil,rfl⟩
  ·have ex1:decide (ctx<0)=false:=decide_eq_false hx1
   by_cases hx2:100<ctx
   ·have HE:Hid (z=2):=(by
     show _=_
     rw[← HZ.out]
     unfold grpE
     rw[HCK.out]
     simp[hx2])
    have HRN:Hid (R=[]):=(by
     show _=_
     rw[← HR.out]
     unfold grpR
     rw[HZ.out,HE.out,if_neg (by decide)])
    clear HZ HR HCK
    go_wp2
    go_ret2
    rw[HE.out,HRN.out]
    exact⟨_,[],rfl,⟨hBW,Zen _ _ _ _,fun _ h=>by cases h⟩,List.Pairwise.nil,rfl⟩
   ·have ex2:decide (100<ctx)=false:=decide_eq_false hx2
    have HZ0:Hid (z=0):=(by
     show _=_
     rw[← HZ.out]
     unfold grpE
     rw[HCK.out]
     simp[hx1,hx2])
    have HR2:Hid (grp ctx l=R):=(by
     show _=_
     rw[← HR.out]
     unfold grpR
     rw[HZ.out,HZ0.out,if_pos rfl])
    have HNB:Hid (∀ c∈l,numB c=true):=(by
     have h:Script l n m:=(by
      have h:=HCK.out
      by_cases hq:Script l n m
      ·exact hq
      ·rw[ZtU hq] at h;cases h)
     exact ZzB h.2.2)
    obtain rfl:z=0:=HZ0.out
    clear HZ HR HCK HZ0
    go_wp2
    go_loopw [11,12,31] (fun ov ev iv wr=>∃ (i:Nat) (G:List (List Ch × Value)) (E:Int),i≤l.length∧ev=.int .i64 E∧iv=.int .i64 (i:Int)∧(∃ oo oc,ov=.slice oo G.length oc)∧G.length≤i∧Gr w ov G wr∧Hid (Apt G)∧Hid (G.map (·.1)=grp ctx (l.take i))∧Hid (enL l i=E)) (fun _ _ iv _=>l.length-(intOf iv).toNat)
    case atStart=>exact⟨0,[],0,Nat.zero_le _,by go_num,by go_num,⟨_,_,rfl⟩,Nat.le_refl _,⟨hBW,Zen _ _ _ _,fun _ h=>by cases h⟩,List.Pairwise.nil,rfl,rfl⟩
    case round =>
     obtain⟨i,G,E,hi,rfl,rfl,⟨oo,oc,rfl⟩,hGi,hS,HAP,HI,HEL⟩:=hrel
     by_cases hlt:i<l.length
     ·obtain⟨lb,lf,rfl,_,_⟩:=HCh.at hv (by omega)
      obtain⟨d,hd⟩:∃ d,l[i]=d:=⟨_,rfl⟩
      have hgA:ChAt wr lb (lf+i * 4) d:=(by
       obtain⟨b',off',e,_,hc'⟩:=HCh.at (HCh.keep hv hS.low (Nat.le_refl _)) (by omega)
       cases e
       have h:=hc' i hlt
       rw[hd] at h
       exact h)
      have hnd:=(Zhj d).1 (HNB.out d (by rw[← hd];exact List.getElem_mem hlt))
      have hEb:=ZuK HNB.out hi
      rw[HEL.out] at hEb
      have HEN:Hid (enL l (i+1)=d.A+d.AN):=(by show _=_;rw[ZuL hlt,hd])
      obtain⟨nr,hnr⟩:∃ nr,nrB ctx l i d=nr:=⟨_,rfl⟩
      have HNR:Hid (nrB ctx l i d=nr):=hnr
      have HNE:Hid ((decide (0<i) && decide (d.A-E≤2 * ctx))=nr):=(by show _=_;rw[← hnr,Zxt hlt,HEL.out])
      have hgt:=Zvt (ctx:=ctx) hlt
      rw[hd] at hgt
      have HGT:Hid ((nrB ctx l i d=true→∃ gs gl,grp ctx (l.take i)=gs++[gl]∧grp ctx (l.take (i+1))=gs++[gl++[d]])∧(nrB ctx l i d=false→grp ctx (l.take (i+1))=grp ctx (l.take i)++[[d]])):=hgt
      have i1:0≤(i:Int):=by omega
      have i2:(i:Int)<(l.length:Int):=by omega
      obtain⟨d0,d1,d2,d3⟩:=hgA
      have hbc:=Cx.new wr d
      obtain⟨x0,x1,x2,x3⟩:=hbc.cells
      have hS1:=hS.alloc (chO d)
      have hsz0:=hS.low.size
      have HSX:Hid ((wr.alloc (chO d)).heap.size=wr.heap.size+1):=(by show _=_;simp)
      have hW:wr.alloc (Obj.cells #[Value.int IntKind.i64 d.A,Value.int IntKind.i64 d.AN,Value.int IntKind.i64 d.B,Value.int IntKind.i64 d.BN] 139)=wr.alloc (chO d):=rfl
      have HIB:Hid (∀ x∈G,∀ j,x.2.ownBlock=some j→j<wr.heap.size):=fun x hx j hj=>ZhG (hS.ins x hx) hj
      clear hnr hgt HEL hS
      generalize hwr1:wr.alloc (chO d)=wr1 at *
      go_upto_region 11 with fail
      clear hW d0 d1 d2 d3
      generalize hbC:wr.heap.size=bc at *
      go_cut [46] from 32 to 68 (fun c wz=>c=.bool (!nr)∧wr1=wz)
      case first =>
       by_cases hi0:i=0
       ·have e1:((i:Int) == 0)=true:=(by rw[beq_iff_eq];omega)
        obtain rfl:nr=false:=(by rw[← HNE.out,hi0];rfl)
        clear HI HNR HGT HNE hi0
        go_wp2_with fail
        go_meet
        case rel=>exact⟨rfl,rfl⟩
       ·have e1:((i:Int) == 0)=false:=(by rw[beq_eq_false_iff_ne];omega)
        have hne:=HNE.out
        rw[decide_eq_true (by omega:0<i),Bool.true_and] at hne
        have e2:decide (2 * ctx<d.A-E)=!nr:=(by
         rw[← hne]
         by_cases hq:d.A-E≤2 * ctx
         ·rw[decide_eq_true hq,decide_eq_false (by omega)];rfl
         ·rw[decide_eq_false hq,decide_eq_true (by omega)];rfl)
        clear HI HNR HGT HNE hi0 hne
        go_wp2_with fail
        go_meet
        case rel=>exact⟨rfl,rfl⟩
      case rest =>
      obtain⟨rfl,rfl⟩:=hcut
      go_upto_if 46 with fail
      go_cut [11] from 32 to 68 (fun ov wz=>∃ (P:List (List Ch × Value)) (gl:List Ch) (gv:Value) (oo:Option Addr) (oc:Nat),ov=.slice oo (P.length+1) oc∧P.length≤i∧gl.length≤l.length∧Gr w ov (P++[(gl,gv)]) wz∧Cx wz bc d∧Hid (gv.ownBlock≠some bc)∧Hid (Apt (P++[(gl,gv)]))∧Hid (P.map (·.1)++[gl++[d]]=grp ctx (l.take (i+1))))
      case first =>
       cases nr with
       | true =>
        obtain⟨gs,gl,hg1,hg2⟩:=HGT.out.1 HNR.out
        have hI:=HI.out
        rw[hg1] at hI
        obtain⟨P,gv,rfl,hPm⟩:=ZwV hI
        have hgll:gl.length≤l.length:=(by
         have hf:=Zvo ctx (l.take i)
         rw[hg1] at hf
         have:=congrArg List.length hf
         simp at this
         omega)
        have HN:Hid (P.map (·.1)++[gl++[d]]=grp ctx (l.take (i+1))):=(by show _=_;rw[hg2,hPm])
        have eP:(P++[(gl,gv)]).length=P.length+1:=by simp
        have hPl:P.length≤i:=by rw[eP] at hGi;omega
        rw[eP] at hS1 ⊢
        clear HI HNR HGT hg1 hg2 hI hPm HNE hGi eP
        go_wp2_with fail
        go_meet
        case rel=>exact⟨P,gl,gv,_,_,rfl,hPl,hgll,hS1,hbc,fun e=>(by have:=HIB.out (gl,gv) (by simp) bc e;omega),HAP,HN⟩
       | false =>
        have hg2:=HGT.out.2 HNR.out
        have HN:Hid (G.map (·.1)++[[]++[d]]=grp ctx (l.take (i+1))):=(by
         show _=_
         rw[hg2,HI.out]
         rfl)
        have hS2:=hS1.alloc (.cells #[.slice none 0 0] 93)
        have hrow2:=Zxm wr1
        have HS2:Hid ((wr1.alloc (.cells #[.slice none 0 0] 93)).heap.size=wr1.heap.size+1):=(by show _=_;simp)
        have hbc2:Cx (wr1.alloc (.cells #[.slice none 0 0] 93)) bc d:=hbc.low ((Below.refl _ wr1).alloc (Nat.le_refl _) _)
        have hGl:G.length≤1099511627776:=by omega
        have HAM:Hid (Apt (G++[([],.slice none 0 0)])):=Ztg HAP.out []
        clear HI HNR HGT hg2 HNE
        go_wp2_with (at_builtin;refine Zmi _ (by kernel_rfl) (.tmp 47) (.tmp 48) 148 93 (.slice none 0 0) 1 24 rfl Tryz.underlying148 infoCs rfl (by decide) (by decide) w.heap.size _ _ _ rfl hS2.own _ 1 [.slice none 0 0] rfl hrow2 rfl (by intro u hu;simp at hu;subst hu;rfl) (by omega) (by have:=HS2.out;have:=HSX.out;omega) ?_)
        intro v3 u3 hown3 hg3 _
        have hS3:=hS2.more (g:=[]) (gv:=.slice none 0 0) (Zen _ _ _ _) hg3 (ov':=v3) hown3
        have hbc3:=hbc2.keep hg3 (fun e=>ZuG hbc2 hS2.own e.symm)
        obtain⟨o3,c3,rfl⟩:=(Zeo hown3).form
        clear hown3 hg3
        go_wp2_with fail
        go_meet
        case rel=>exact⟨G,[],_,_,_,rfl,hGi,Nat.zero_le _,hS3,hbc3,(fun e=>by cases e),HAM,HN⟩
      case rest =>
       obtain⟨P,gl,gv,oo,oc,rfl,hPl,hgll,hS4,hbz,HGV,HAP4,HN4⟩:=hcut
       generalize wc=wz at *
       have HN:∀ gv':Value,Hid ((P++[(gl++[d],gv')]).map (·.1)=grp ctx (l.take (i+1))):=fun gv'=>(by
        show _=_
        rw[← HN4.out,List.map_append]
        rfl)
       clear HN4 hS1 hbc x0 x1 x2 x3 HAP HNR HNE HI HGT
       obtain⟨qb,rfl⟩:=Zep (by have h:=hS4.own;rw[List.length_append,List.length_singleton] at h;exact h)
       have k1:(0:Int)≤(P.length:Int):=by omega
       have k2:(P.length:Int)<(P.length:Int)+1:=by omega
       go_upto_region 14 with fail
       have hGD:=(hS4.drewN 1).alloc (chO d)
       have hda:((wz.drewN 1).alloc (chO d)).heap.size=wz.heap.size+1:=by simp
       have hsz:=hS4.low.size
       have hlastown:((wz.drewN 1).alloc (chO d)).ownsRow w.heap.size 139 4 gv gl.length (chcells gl):=hGD.ins (gl,gv) (by simp)
       obtain⟨go,gc,hgv⟩:=(Zeo hlastown).form
       subst hgv
       obtain⟨v3,u3,hr3,hown3,hg3,hb3⟩:=ZjJ ((wz.drewN 1).alloc (chO d)) 93 139 93 (.agg #[.int .i64 0,.int .i64 0,.int .i64 0,.int .i64 0]) 4 32 Tryz.underlying93 infoCh rfl (by decide) (by decide) w.heap.size _ _ _ hlastown _ 1 (chcells [d]) (ZtK (wz.drewN 1) d) rfl (ZtO _) (by omega) (by rw[hda];omega)
       rw[← ZtN] at hown3
       obtain⟨p3,q3,hv3⟩:=(Zeo hown3).form
       subst hv3
       have HA4:Hid (Apt (P++[(gl++[d],Value.slice p3 (gl.length+1) q3)])):=Zte HAP4.out hGD hb3
       obtain⟨qb',cap,hov,hcell3,hfr3,hG4,_⟩:=hGD.last (g':=gl++[d]) (Ztf HAP4.out) hg3 (by rw[List.length_append];exact hown3) hb3
       simp only[Value.slice.injEq,Option.some.injEq,Addr.mk.injEq] at hov
       obtain⟨⟨rfl,_⟩,_,rfl⟩:=hov
       have hcellD:(wz.drewN 1).cell? ⟨qb,P.length,none⟩=some (.slice go gl.length gc):=(by
        have h:=hS4.own
        rw[List.length_append,List.length_singleton] at h
        have:=h.cellAt P.length (by omega)
        rw[show (wz.drewN 1).cell? ⟨qb,P.length,none⟩=wz.cell? ⟨qb,P.length,none⟩ from rfl,this]
        simp)
       have hcellA:((wz.drewN 1).alloc (chO d)).cell? ⟨qb,P.length,none⟩=some (.slice go gl.length gc):=(by
        have h:=hGD.own
        rw[List.length_append,List.length_singleton] at h
        have:=h.cellAt P.length (by omega)
        rw[this]
        simp)
       have hLD:Low w (wz.drewN 1):=Below.dN hS4.low 1
       have hLA:Low w ((wz.drewN 1).alloc (chO d)):=ZwS _ hLD
       have hL3:Low w u3:=Below.grown hLA hg3 (Below.size hLA) (fun j hj=>ZhJ hlastown hj)
       have hL5:Low w (u3.setCell ⟨qb,P.length,none⟩ (.slice p3 (gl.length+1) q3)):=hG4.low
       have hSD:Low w (wz.drewN 1)∧Cx (wz.drewN 1) bc d:=⟨hLD,hbz⟩
       have hSA:Low w ((wz.drewN 1).alloc (chO d))∧Cx ((wz.drewN 1).alloc (chO d)) bc d:=⟨hLA,Cx.low (u:=wz.drewN 1) hbz ((Below.refl _ (wz.drewN 1)).alloc (Nat.le_refl _) _)⟩
       have hS3:Low w u3∧Cx u3 bc d:=⟨hL3,hSA.2.keep hg3 (fun e=>HGV.out e.symm)⟩
       have hS5:Low w (u3.setCell ⟨qb,P.length,none⟩ (.slice p3 (gl.length+1) q3))∧Cx (u3.setCell ⟨qb,P.length,none⟩ (.slice p3 (gl.length+1) q3)) bc d:=⟨hL5,hS3.2.keep (ZdS u3 qb P.length _) (fun e=>ZuG hbz hS4.own e.symm)⟩
       obtain⟨y0,y1,y2,y3⟩:=hS5.2.cells
       clear hown3 hg3 hb3 hlastown
       refine wp_region_noPanic ?_
       refine wp_region_held_drew (S:=fun u=>Low w u∧Cx u bc d) (by kernel_rfl) hSD (fun hHeld=>?_)
       refine Y_t 0 55 _ (.pointer (some ⟨qb,P.length,none⟩)) rfl (Or.inl ⟨by kernel_rfl,fun u hu=>by kernel_rfl⟩) hHeld ?_
       simp only[Act.put,Y_a,Y_b,Y_c]
       refine Y_t 1 56 _ (.pointer (some ⟨qb,P.length,none⟩)) rfl (Or.inl ⟨by kernel_rfl,fun u hu=>by kernel_rfl⟩) hHeld ?_
       simp only[Act.put,Y_a,Y_b,Y_c]
       refine Y_t 2 57 _ (.pointer (some ⟨qb,P.length,none⟩)) rfl (Or.inl ⟨by kernel_rfl,fun u hu=>ZuS (.tmp 56) (by kernel_rfl) (by kernel_rfl)⟩) hHeld ?_
       simp only[Act.put,Y_a,Y_b,Y_c]
       refine Y_t 4 59 _ (chV d) rfl (Or.inl ⟨by kernel_rfl,fun u hu=>ZwK hu.2.cells (.tmp 14) (by kernel_rfl) (by kernel_rfl)⟩) hHeld ?_
       simp only[Act.put,Y_a,Y_b,Y_c]
       refine ZdJ 3 58 _ 5 60 _ rfl (by kernel_rfl) rfl (by kernel_rfl) (by kernel_rfl) (by kernel_rfl) (by kernel_rfl) (.slice go gl.length gc) (wz.drewN 1) (ZwL hcellD (.tmp 57) (by kernel_rfl) (by kernel_rfl)) hSD (.slice (some ⟨(wz.drewN 1).heap.size,0,none⟩) 1 1) ((wz.drewN 1).alloc (chO d)) (by kernel_rfl) hSA ?_ ?_
       ·simp only[Act.put,Y_a,Y_b,Y_c]
        refine Y_v 5 60 _ rfl (.slice (some ⟨(wz.drewN 1).heap.size,0,none⟩) 1 1) ((wz.drewN 1).alloc (chO d)) (by kernel_rfl) (hSA) ?_
        simp only[Act.put,Y_a,Y_b,Y_c]
        refine Y_v 6 61 _ rfl (.slice p3 (gl.length+1) q3) (u3) (ZcT (.tmp 58) (.tmp 60) (by kernel_rfl) (by kernel_rfl) (by kernel_rfl) hr3) (hS3) ?_
        simp only[Act.put,Y_a,Y_b,Y_c]
        refine Y_t 7 62 _ (.pointer (some ⟨qb,P.length,none⟩)) rfl (Or.inl ⟨by kernel_rfl,fun u hu=>ZuS (.tmp 55) (by kernel_rfl) (by kernel_rfl)⟩) hS3 ?_
        simp only[Act.put,Y_a,Y_b,Y_c]
        refine Y_s 8 _ rfl (u3.setCell ⟨qb,P.length,none⟩ (.slice p3 (gl.length+1) q3)) (ZuT hfr3 hcell3 (.tmp 62) (.tmp 61) (by kernel_rfl) (by kernel_rfl) (by kernel_rfl)) (hS5) ?_
        refine wpAnyH_done (by kernel_rfl) ?_ _
        refine NoPanic.normal ?_
        go_wp2
        exact⟨⟨i+1,P++[(gl++[d],.slice p3 (gl.length+1) q3)],_,by omega,by go_num,by go_num,⟨_,_,by rw[List.length_append,List.length_singleton]⟩,by rw[List.length_append,List.length_singleton];omega,hG4,HA4,HN _,HEN⟩,by simp[intOf];omega⟩
       ·simp only[Act.put,Y_a,Y_b,Y_c]
        refine Y_v 3 58 _ rfl (.slice go gl.length gc) ((wz.drewN 1).alloc (chO d)) (ZwL hcellA (.tmp 57) (by kernel_rfl) (by kernel_rfl)) (hSA) ?_
        simp only[Act.put,Y_a,Y_b,Y_c]
        refine Y_v 6 61 _ rfl (.slice p3 (gl.length+1) q3) (u3) (ZcT (.tmp 58) (.tmp 60) (by kernel_rfl) (by kernel_rfl) (by kernel_rfl) hr3) (hS3) ?_
        simp only[Act.put,Y_a,Y_b,Y_c]
        refine Y_t 7 62 _ (.pointer (some ⟨qb,P.length,none⟩)) rfl (Or.inl ⟨by kernel_rfl,fun u hu=>ZuS (.tmp 55) (by kernel_rfl) (by kernel_rfl)⟩) hS3 ?_
        simp only[Act.put,Y_a,Y_b,Y_c]
        refine Y_s 8 _ rfl (u3.setCell ⟨qb,P.length,none⟩ (.slice p3 (gl.length+1) q3)) (ZuT hfr3 hcell3 (.tmp 62) (.tmp 61) (by kernel_rfl) (by kernel_rfl) (by kernel_rfl)) (hS5) ?_
        refine wpAnyH_done (by kernel_rfl) ?_ _
        refine NoPanic.normal ?_
        go_wp2
        exact⟨⟨i+1,P++[(gl++[d],.slice p3 (gl.length+1) q3)],_,by omega,by go_num,by go_num,⟨_,_,by rw[List.length_append,List.length_singleton]⟩,by rw[List.length_append,List.length_singleton];omega,hG4,HA4,HN _,HEN⟩,by simp[intOf];omega⟩
     ·have HIe:Hid (G.map (·.1)=R):=(by
       show _=_
       rw[HI.out,List.take_of_length_le (by omega)]
       exact HR2.out)
      have hend:decide ((i:Int)<(l.length:Int))=false:=decide_eq_false (by omega)
      clear HI
      go_wp2
      go_ret2
      exact⟨_,G,rfl,hS,HAP.out,HIe.out⟩
 ·have hc1:(ck != 0)=true:=by simpa using hc0
  have HE:Hid (z=ck):=(by
   show _=_
   rw[← HZ.out]
   unfold grpE
   rw[HCK.out]
   simp[hc0])
  have HRN:Hid (R=[]):=(by
   show _=_
   rw[← HR.out]
   unfold grpR
   rw[HZ.out,HE.out,if_neg (by exact hc0)])
  clear HZ HR HCK hc0
  go_wp2
  go_ret2
  rw[HE.out,HRN.out]
  exact⟨_,[],rfl,⟨hBW,Zen _ _ _ _,fun _ h=>by cases h⟩,List.Pairwise.nil,rfl⟩
end

end Go.Proofs.YtcniomgjikienaaGreatDoor

/- A region that draws its order, in a round: ten operations that read, in whatever order, then the rest as the text has it. -/
namespace Go.Proofs.YtcniomgjikienaaGreatDoor
open Go.RowKit Go.Shelf
namespace R10
abbrev B10:=Fin 10→Bool
def one (c:Bool):Nat:=if c then 1 else 0
def cnt (b:B10):Nat:=one (b 0)+one (b 1)+one (b 2)+one (b 3)+one (b 4)+one (b 5)+one (b 6)+one (b 7)+one (b 8)+one (b 9)
end R10
end Go.Proofs.YtcniomgjikienaaGreatDoor

namespace Go.Proofs.YtcniomgjikienaaGreatDoor

section
open Go.RowKit Go.Shelf
open R10
attribute [local go_sem] Oper.semAt_some
theorem Zsm (A:List (List UInt8)) (i n:Int) (j:Nat) (u:Value) (h:(scells (cut A i n))[j]?=some u):(scells A)[i.toNat+j]?=some u∧j<n.toNat:=by
 simp only[scells,cut,List.getElem?_map,List.getElem?_take,List.getElem?_drop] at h ⊢
 split at h
 ·exact⟨h,by assumption⟩
 ·simp at h
theorem Zso (A:List (List UInt8)) (i n:Int) (h0:0≤i) (h1:0≤n) (h2:i+n≤A.length):(cut A i n).length=n.toNat:=by
 simp[cut];omega
theorem ZsN (A:List (List UInt8)) (ao:Option Addr) (cap:Nat) (i n:Int) (h0:0≤i) (h1:0≤n) (h2:i+n≤A.length) (w:World) (hA:HS w (.slice ao A.length cap) A) :
  ∃ vs,(∀ u:World,(Instr.slice 49 (.slice ao A.length cap) (some (.int .i64 i)) (some (.int .i64 (i+n))) none).run Tryz.prog u=.ok vs u)∧(∀ u:World,HS u (.slice ao A.length cap) A→HS u vs (cut A i n)):=by
 have hnc:A.length≤cap∧(ao=none→A=[]):=by
  rcases hA with ⟨h,h3,_⟩ | ⟨ad,c,h,h3,_⟩
  ·exact⟨by omega,fun _=>List.eq_nil_of_length_eq_zero h3⟩
  ·cases h
   exact⟨h3,fun h=>by cases h⟩
 refine⟨.slice (if cap=i.toNat then ao else ao.map (·.add i.toNat)) n.toNat (cap-i.toNat),fun u=>?_,fun u hu=>?_⟩
 ·rw[run_slice_lh (P:=Tryz.prog) u 49 ao A.length cap (by kernel_rfl) .i64 .i64 i (i+n) h0 (by omega) (by omega)]
  have:(sizeOf (Tryz.prog.elem 49)).run Tryz.prog u=.ok 1 u:=by kernel_rfl
  rw[this]
  simp only[Result.andThen,sliced,Nat.mul_one]
  congr 2
  omega
 ·unfold HS
  rw[Zso A i n h0 h1 h2]
  cases ao with
  | none =>
   have hA0:=hnc.2 rfl
   subst hA0
   have:i=0:=by simp at h2;omega
   subst this
   have:n=0:=by simp at h2;omega
   subst this
   refine .inl ⟨?_,rfl,by simp[cut,scells]⟩
   rcases hA with ⟨h,h3,_⟩ | ⟨ad,c,h,h3,_⟩
   ·cases h;simp
   ·cases h
  | some ad =>
   refine .inr ⟨if cap=i.toNat then ad else ad.add i.toNat,cap-i.toNat,by split<;>simp,by omega,fun j x hj=>?_⟩
   obtain⟨h4,h5⟩:=Zsm A i n j x hj
   rcases hu with ⟨h,_⟩ | ⟨ad',c,h,h3,hc⟩
   ·cases h
   ·cases h
    have:=hc _ _ h4
    rw[if_neg (by omega)]
    obtain⟨b,off,rfl⟩:=Zap (hc 0 _ (List.getElem?_eq_getElem (by rw[ZjT];omega)))
    rw[Zao] at this
    rw[Zao,Zao,Nat.add_assoc]
    exact this
end

section
open Go.RowKit
end

section
open Go.RowKit
attribute [local simp] ZkA ZfM
theorem ZsP (A:List (List UInt8)) (ao:Option Addr) (cap:Nat) (i h:Int) (h0:0≤i) (h1:i≤h) (h2:h≤A.length) (w:World) (hA:HS w (.slice ao A.length cap) A) :
  ∃ vo vc,(∀ u:World,(Instr.slice 49 (.slice ao A.length cap) (some (.int .i64 i)) (some (.int .i64 h)) none).run Tryz.prog u=.ok (.slice vo (cut A i (h-i)).length vc) u)∧(∀ u:World,HS u (.slice ao A.length cap) A→HS u (.slice vo (cut A i (h-i)).length vc) (cut A i (h-i))):=by
 obtain⟨vs,h3,h4⟩:=ZsN A ao cap i (h-i) h0 (by omega) (by omega) w hA
 obtain⟨vo,vc,rfl⟩:=Holds.form (h4 w hA)
 have e:i+(h-i)=h:=by omega
 rw[e] at h3
 exact⟨vo,vc,h3,h4⟩
end

end Go.Proofs.YtcniomgjikienaaGreatDoor
