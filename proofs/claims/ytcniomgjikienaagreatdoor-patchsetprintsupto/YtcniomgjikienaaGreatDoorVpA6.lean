/-
  Texts that belong together, joined: HuC5, HuC4, EdOpenS, HuOpen.
-/
import Derived.Laws.Slices
import Derived.Test.YtcniomgjikienaaGreatDoorVpA5

set_option maxHeartbeats 16000000
set_option maxRecDepth 100000
namespace Go.Proofs.YtcniomgjikienaaGreatDoor

section
open Go.RowKit
def Afar (a b:Int):List Ch→Prop
 | []=>True
 | c::_=>a-(c.A+c.AN)=b-(c.B+c.BN)
theorem ZsZ {a b:Int} {c:Ch} {r:List Ch} (h:Afar a b (c::r)) (hA:c.A+c.AN=a):opn a b (c::r)=c::r:=by
 simp only[Afar] at h
 unfold opn
 rw[if_pos (by simp only[endsAt,Bool.and_eq_true,decide_eq_true_eq];omega)]
theorem ZsX {a b:Int} {c:Ch} {r:List Ch} (hA:c.A+c.AN≠a):opn a b (c::r)=⟨a,0,b,0⟩::c::r:=by
 unfold opn
 rw[if_neg (by simp only[endsAt,Bool.and_eq_true,decide_eq_true_eq];omega)]
structure Sc (W:World) (ov:Value) (r:List Ch) (u:World):Prop where
 low:Below W.heap.size W u
 box:u.heap[W.heap.size]?=some (.cells #[ov] 93)
 own:u.ownsRow (W.heap.size+1) 139 4 ov r.length (bch r)
section
variable {W u u':World} {ov ov':Value} {r r':List Ch}
theorem Sc.cell (h:Sc W ov r u):u.cell? ⟨W.heap.size,0,none⟩=some ov:=by rw[Lib.cell_of_heap h.box];rfl
theorem Sc.frozen (h:Sc W ov r u):u.frozen? ⟨W.heap.size,0,none⟩=false:=Lib.frozen_of_heap h.box 0
theorem Sc.lt (h:Sc W ov r u):W.heap.size<u.heap.size:=(Array.getElem?_eq_some_iff.1 h.box).1
theorem Sc.alloc (h:Sc W ov r u) (o:Obj):Sc W ov r (u.alloc o):=⟨h.low.alloc h.low.size o,(((Below.refl _ u).alloc (Nat.le_refl _) o).block _ h.lt).trans h.box,h.own.alloc o⟩
theorem Sc.drewN (h:Sc W ov r u) (n:Nat):Sc W ov r (u.drewN n):=⟨Below.dN h.low n,h.box,h.own⟩
theorem Sc.keep (h:Sc W ov r u) (hk:Below u.heap.size u u'):Sc W ov r u':=⟨h.low.trans (hk.mono h.low.size),(hk.block _ h.lt).trans h.box,ZhK h.own hk⟩
theorem Sc.form (h:Sc W ov r u):∃ oo oc,ov=.slice oo r.length oc:=(Zeo h.own).form
theorem Sc.grow (h:Sc W ov r u) (hg:u.grownBy u' ov.ownBlock) (ho:u'.ownsRow (W.heap.size+1) 139 4 ov' r'.length (bch r')):(u'.cell? ⟨W.heap.size,0,none⟩=some ov∧u'.frozen? ⟨W.heap.size,0,none⟩=false)∧Sc W ov' r' (u'.setCell ⟨W.heap.size,0,none⟩ ov'):=by
 have hbx:u'.heap[W.heap.size]?=some (.cells #[ov] 93):=(hg.block _ h.lt (fun e=>by have:=ZhJ h.own e.symm;omega)).trans h.box
 have hs:=ZdS u' W.heap.size 0 ov'
 have hlow:Below W.heap.size W u':=h.low.grown hg h.low.size (fun j hj=>by have:=ZhJ h.own hj;omega)
 refine⟨⟨by rw[Lib.cell_of_heap hbx];rfl,Lib.frozen_of_heap hbx 0⟩,hlow.grown hs hlow.size (fun j hj=>by cases hj;exact Nat.le_refl _),heap_setCell_same u' _ 0 _ _ ov' hbx,ZhF ho hs ?_⟩
 intro k hk e
 cases hk
 have:=ZhJ ho e
 omega
theorem Sc.put (h:Sc W ov r u) {g j:Nat} {z:Value} (hb:ov.ownBlock=some g) (ho:(u.setCell ⟨g,j,none⟩ z).ownsRow (W.heap.size+1) 139 4 ov r'.length (bch r')) (hg:u.grownBy (u.setCell ⟨g,j,none⟩ z) (some g)):Sc W ov r' (u.setCell ⟨g,j,none⟩ z):=by
 have hge:=ZhJ h.own hb
 exact⟨h.low.grown hg h.low.size (fun j hj=>by cases hj;omega),(hg.block _ h.lt (fun e=>by cases e;omega)).trans h.box,ho⟩
end
theorem Zvx (a b:Int) (W u:World) (ov:Value) (r t:List Ch) (c:Ch) (hS:Sc W ov r u) (_ha:-1≤a∧a≤4398046511104) (_hb:-1≤b∧b≤4398046511104) (hrl:r.length<2199023255552) (HHD:Hid (Hhd r)) (HAL:Hid (Afar a b r)) (HOP:Hid (opn a b r=c::t)):Calls Tryz.prog 270 #[.int .i64 a,.int .i64 b,.pointer (some ⟨W.heap.size,0,none⟩)] u fun e u'=>∃ g oc,e=.returned (.pointer (some ⟨g,t.length * 4,none⟩))∧Sc W (.slice (some ⟨g,0,none⟩) (t.length+1) oc) (c::t) u':=by
 obtain⟨oo,oc,rfl⟩:=hS.form
 have hbx:=hS.cell
 cases r with
 | nil =>
  have hop:opn a b []=[⟨a,0,b,0⟩]:=rfl
  have h2:=HOP.out
  rw[hop] at h2
  cases h2
  clear hop HOP HAL HHD
  simp only[List.length_nil] at hbx hS ⊢
  go_enter Tryz.func270,Tryz.ntmps270
  go_upto_region 2 with fail
  go_quiet (fail)
  have hS1:=hS.drewN nq
  have hbx1:=hS1.cell
  generalize u.drewN nq=u1 at *
  have hS2:=hS1.alloc (chO ⟨a,0,b,0⟩)
  have hlt:=hS2.lt
  have hW2:u1.alloc (Obj.cells #[.int .i64 a,.int .i64 0,.int .i64 b,.int .i64 0] 139)=u1.alloc (chO ⟨a,0,b,0⟩):=rfl
  clear hS hS1 hbx
  have hk1:([]:List Ch).length+1≤2199023255552:=(by simp only[List.length_nil];omega)
  go_wp2_with (at_builtin;refine Zmi _ (by kernel_rfl) (.tmp 30) (.tmp 34) 93 139 (.agg #[.int .i64 0,.int .i64 0,.int .i64 0,.int .i64 0]) 4 32 rfl Tryz.underlying93 infoCh rfl (by decide) (by decide) (W.heap.size+1) _ _ _ rfl hS2.own _ 1 (chcells [⟨a,0,b,0⟩]) rfl (ZtK u1 ⟨a,0,b,0⟩) rfl (ZtO _) hk1 (by omega) ?_)
  intro v3 u3 hown3 hg3 _
  rw[show chcells [(⟨a,0,b,0⟩:Ch)]=chC ⟨a,0,b,0⟩ by simp[chcells],← Ztn] at hown3
  obtain⟨o3,c3,rfl⟩:=(Zeo hown3).form
  obtain⟨⟨f1,f2⟩,hS3⟩:=hS2.grow (r':=⟨a,0,b,0⟩::[]) hg3 hown3
  obtain⟨g,rfl⟩:=Zep hown3
  have f3:=hS3.cell
  clear hown3 hg3 hS2
  go_wp2
  go_ret
  first | exact⟨g,c3,rfl,hS3⟩ | exact⟨g,rfl,c3,hS3⟩
 | cons c0 r0 =>
  have hown:=hS.own
  rw[List.length_cons] at hown
  obtain⟨g,rfl⟩:=Zep hown
  obtain⟨q0,q1,q2,q3⟩:=Ztm c0 r0
  have d0:=(hown.cellAt (r0.length * 4) (by omega)).trans q0
  have d1:=(hown.cellAt (r0.length * 4+1) (by omega)).trans q1
  have hd:=HHD.out
  simp only[Hhd] at hd
  have w1:IntKind.i64.wrap (c0.A+c0.AN)=c0.A+c0.AN:=Zmm (by omega) (by omega)
  obtain⟨n0,hn0⟩:∃ n,r0.length=n:=⟨_,rfl⟩
  have HN0:Hid (r0.length=n0):=hn0
  simp only[List.length_cons,hn0] at hbx hS d0 d1 hrl ⊢
  clear q0 q1 q2 q3 hown hn0 HHD
  have l0:IntKind.i64.wrap ((n0:Int)+1-1)=(n0:Int):=(by rw[show (n0:Int)+1-1=n0 by omega];exact Zmm (by omega) (by omega))
  have l1:decide ((0:Int)≤(n0:Int))=true:=decide_eq_true (by omega)
  have l2:(0:Int)≤(n0:Int):=by omega
  have l3:(n0:Int)<(n0:Int)+1:=by omega
  by_cases hA:c0.A+c0.AN=a
  ·have h2:=HOP.out
   rw[ZsZ HAL.out hA] at h2
   have eA:(c0.A+c0.AN == a)=true:=by simpa using hA
   cases h2
   clear HOP HAL hA
   have hn0:=HN0.out
   subst hn0
   go_enter Tryz.func270,Tryz.ntmps270
   go_upto_region 2 with fail
   go_quiet (fail)
   have hS1:=hS.drewN nq
   have hbx1:=hS1.cell
   generalize u.drewN nq=u1 at *
   go_wp2
   go_ret
   first | exact⟨g,oc,rfl,hS1⟩ | exact⟨g,rfl,oc,hS1⟩
  ·have h2:=HOP.out
   rw[ZsX hA] at h2
   cases h2
   have eA:(c0.A+c0.AN == a)=false:=by simpa using hA
   clear HOP HAL hA
   have hn0:=HN0.out
   subst hn0
   simp only[List.length_cons] at ⊢
   go_enter Tryz.func270,Tryz.ntmps270
   go_upto_region 2 with fail
   go_quiet (fail)
   have hS1:=hS.drewN nq
   have hbx1:=hS1.cell
   generalize u.drewN nq=u1 at *
   have hS2:=hS1.alloc (chO ⟨a,0,b,0⟩)
   have hlt:=hS2.lt
   have hW2:u1.alloc (Obj.cells #[.int .i64 a,.int .i64 0,.int .i64 b,.int .i64 0] 139)=u1.alloc (chO ⟨a,0,b,0⟩):=rfl
   clear hS hS1 hbx
   have hk1:(c0::r0:List Ch).length+1≤2199023255552:=(by simp only[List.length_cons];omega)
   go_wp2_with (at_builtin;refine Zmi _ (by kernel_rfl) (.tmp 30) (.tmp 34) 93 139 (.agg #[.int .i64 0,.int .i64 0,.int .i64 0,.int .i64 0]) 4 32 rfl Tryz.underlying93 infoCh rfl (by decide) (by decide) (W.heap.size+1) _ _ _ rfl hS2.own _ 1 (chcells [⟨a,0,b,0⟩]) rfl (ZtK u1 ⟨a,0,b,0⟩) rfl (ZtO _) hk1 (by omega) ?_)
   intro v3 u3 hown3 hg3 _
   rw[show chcells [(⟨a,0,b,0⟩:Ch)]=chC ⟨a,0,b,0⟩ by simp[chcells],← Ztn] at hown3
   obtain⟨o3,c3,rfl⟩:=(Zeo hown3).form
   obtain⟨⟨f1,f2⟩,hS3⟩:=hS2.grow (r':=⟨a,0,b,0⟩::c0::r0) hg3 hown3
   obtain⟨g,rfl⟩:=Zep hown3
   have f3:=hS3.cell
   have j1:(0:Int)≤(r0.length:Int)+1:=by omega
   have j2:(r0.length:Int)+1<(r0.length:Int)+1+1:=by omega
   clear hown3 hg3 hS2
   go_wp2
   go_ret
   first | exact⟨g,c3,rfl,hS3⟩ | exact⟨g,rfl,c3,hS3⟩
end

section
open Go.RowKit
theorem ZzT (ao:Option Addr) (n cap:Nat) (u:World):(Instr.slice 43 (.slice ao n cap) none (some (.int .i64 0)) none).run Tryz.prog u=.ok (.slice ao 0 cap) u:=by
 rw[run_slice_h (P:=Tryz.prog) u 43 ao n cap (by kernel_rfl) .i64 0 (by omega) (by omega)]
 have:(sizeOf (Tryz.prog.elem 43)).run Tryz.prog u=.ok 2 u:=by kernel_rfl
 rw[this]
 cases ao with
 | none=>simp[Result.andThen,sliced]
 | some ad=>simp[Result.andThen,sliced,show ad.add 0=ad by unfold Addr.add;split<;>simp_all]
theorem Zyb {u:World} {B:Nat} {e:TypeId} {s:Nat} {ao:Option Addr} {n c:Nat} {xs:List Value} (h:u.ownsRow B e s (.slice ao n c) n xs):u.ownsRow B e s (.slice ao 0 c) 0 []:=by
 refine⟨by simp,?_⟩
 rcases h.2 with ⟨q,_⟩ | ⟨g,cap,cur,q1,q2,q3,q4,q5,q6,_⟩
 ·cases q
  exact .inl ⟨rfl,rfl⟩
 ·cases q1
  exact .inr ⟨g,c,cur,rfl,q2,q3,Nat.zero_le _,q5,q6,by simp⟩
theorem ZwA {w:World} {q:Hk} {ov ov':Value} {x x' y:List Mk} {u u':World} {ao:Option Addr} {ac:Nat} (h:Iv w q ov x (.slice ao y.length ac) y u) (hg:u.grownBy u' ov.ownBlock) (ho:u'.ownsRow (w.heap.size+1) 47 2 ov' x'.length (mkcells x')) (hb:ov'.ownBlock=ov.ownBlock∨∃ j,ov'.ownBlock=some j∧u.heap.size≤j):Hx u' w.heap.size q ov∧Iv w q ov' x' (.slice ao 0 ac) [] (u'.setCell ⟨w.heap.size,4,none⟩ ov'):=by
 have hbx:Hx u' w.heap.size q ov:=h.box.keep hg (fun e=>by have:=ZhJ h.own e.symm;omega)
 have hadd:=ZhF h.add hg (fun k hk=>h.ne k hk)
 have hs:=ZdS u' w.heap.size 4 ov'
 have hlow:Below w.heap.size w u':=h.low.grown hg h.low.size (fun j hj=>by have:=ZhJ h.own hj;omega)
 refine⟨hbx,hlow.grown hs hlow.size (fun j hj=>by cases hj;exact Nat.le_refl _),hbx.setl ov',ZhF ho hs ?_,Zyb (ZhF hadd hs ?_),?_⟩
 ·intro k hk e
  cases hk
  have:=ZhJ ho e
  omega
 ·intro k hk e
  cases hk
  have:=ZhJ h.add e
  omega
 ·intro g hg' e
  have e':(Value.slice ao y.length ac).ownBlock=some g:=by cases ao<;>exact e
  rcases hb with hb | ⟨j,hb,hj⟩
  ·rw[hb] at hg'
   exact h.ne g hg' e'
  ·rw[hb] at hg'
   cases hg'
   have:=ZhG h.add e'
   omega
theorem ZvD (h:Hk) (v:Value) (w:World) (hv:HMk w v h.ls) (hl:h.ls.length≤549755813888) (R:List Mk) (HR:Hid (invG [] h.ls=R)):Calls Tryz.prog 44 #[hkV h v] w fun e w'=>∃ v',e=.returned (hkV ⟨h.B,h.BN,h.A,h.AN,R⟩ v')∧w'.ownsRow w.heap.size 47 2 v' R.length (mkcells R)∧Below w.heap.size w w':=by
 obtain⟨A,AN,B,BN,ls⟩:=h
 dsimp only at hv hl HR ⊢
 obtain⟨lo,lc,rfl⟩:=HMk.form hv
 have hx:=Hx.new w ⟨A,AN,B,BN,ls⟩ (.slice lo ls.length lc)
 have hB1:Below w.heap.size w (w.alloc (hkO ⟨A,AN,B,BN,ls⟩ (.slice lo ls.length lc))):=(Below.refl _ w).alloc (Nat.le_refl _) _
 have hBz:Below (w.alloc (hkO ⟨A,AN,B,BN,ls⟩ (.slice lo ls.length lc))).heap.size (w.alloc (hkO ⟨A,AN,B,BN,ls⟩ (.slice lo ls.length lc))) ((w.alloc (hkO ⟨A,AN,B,BN,ls⟩ (.slice lo ls.length lc))).alloc (hkO ⟨0,0,0,0,[]⟩ (.slice none 0 0))):=(Below.refl _ _).alloc (Nat.le_refl _) _
 have hx2:=hx.low hBz
 have hB2:=hB1.trans (hBz.mono hB1.size)
 have hv2:=HMk.keep hv hB2 (Nat.le_refl _)
 have hz2:Hx ((w.alloc (hkO ⟨A,AN,B,BN,ls⟩ (.slice lo ls.length lc))).alloc (hkO ⟨0,0,0,0,[]⟩ (.slice none 0 0))) (w.heap.size+1) ⟨0,0,0,0,[]⟩ (.slice none 0 0):=Zmu w _ _
 obtain⟨x0,x1,x2,x3,x4⟩:=hx2.cells
 have HSZ:Hid (((w.alloc (hkO ⟨A,AN,B,BN,ls⟩ (.slice lo ls.length lc))).alloc (hkO ⟨0,0,0,0,[]⟩ (.slice none 0 0))).heap.size=w.heap.size+1+1):=(by show _=_;simp)
 have hW0:(w.alloc (hkO ⟨A,AN,B,BN,ls⟩ (.slice lo ls.length lc))).alloc (hkO ⟨0,0,0,0,[]⟩ (.slice none 0 0))=(w.alloc (Obj.cells #[Value.int IntKind.i64 A,Value.int IntKind.i64 AN,Value.int IntKind.i64 B,Value.int IntKind.i64 BN,.slice lo ls.length lc] 45)).alloc (Obj.cells #[Value.int IntKind.i64 0,Value.int IntKind.i64 0,Value.int IntKind.i64 0,Value.int IntKind.i64 0,.slice none 0 0] 45):=rfl
 unfold hkV
 dsimp only at x0 x1 x2 x3 x4 ⊢
 clear hx hB1 hBz hv
 generalize (w.alloc (hkO ⟨A,AN,B,BN,ls⟩ (.slice lo ls.length lc))).alloc (hkO ⟨0,0,0,0,[]⟩ (.slice none 0 0))=W at *
 have hW:=hW0.symm
 clear hW0
 have hI:Iv W ⟨B,BN,A,AN,[]⟩ (.slice none 0 0) [] (.slice none 0 0) [] (W.alloc (hkO ⟨B,BN,A,AN,[]⟩ (.slice none 0 0))) :=
  ⟨(Below.refl _ W).alloc (Nat.le_refl _) _,Hx.new W _ _,Zen _ _ _ _,Zen _ _ _ _,fun g e=>by cases e⟩
 have y4:=(hx2.low hI.low).cells.2.2.2.2
 unfold hkO at y4
 dsimp only at y4
 go_enter Tryz.func44,Tryz.ntmps44
 go_wp2
 have hW1:W.alloc (Obj.cells #[Value.int IntKind.i64 B,Value.int IntKind.i64 BN,Value.int IntKind.i64 A,Value.int IntKind.i64 AN,.slice none 0 0] 45)=W.alloc (hkO ⟨B,BN,A,AN,[]⟩ (.slice none 0 0)):=rfl
 rw[hW1]
 clear hW1 hW x0 x1 x2 x3 x4 y4
 generalize W.alloc (hkO ⟨B,BN,A,AN,[]⟩ (.slice none 0 0))=W1 at *
 go_loopw [4,19] (fun av iv wr=>∃ (k:Nat) (ov:Value) (x y:List Mk),k≤ls.length∧iv=.int .i64 (k:Int)∧(∃ oo oc,ov=.slice oo x.length oc)∧(∃ ao ac,av=.slice ao y.length ac)∧x.length+y.length≤k∧Iv W ⟨B,BN,A,AN,[]⟩ ov x av y wr∧Hid (x++invG y (ls.drop k)=R)) (fun _ iv _=>ls.length-(intOf iv).toNat)
 case atStart=>exact⟨0,_,[],[],Nat.zero_le _,by go_num,⟨_,_,rfl⟩,⟨_,_,rfl⟩,Nat.le_refl _,hI,HR⟩
 case round =>
  obtain⟨k,ov,x,y,hk,rfl,⟨oo,oc,rfl⟩,⟨ao,ac,rfl⟩,hxy,hI1,HI⟩:=hrel
  clear hI HR
  obtain⟨x0,x1,x2,x3,x4⟩:=(hx2.low hI1.low).cells
  obtain⟨b0,b1,b2,b3,b4⟩:=hI1.box.cells
  by_cases hlt:k<ls.length
  ·obtain⟨b,off,rfl,hb,_⟩:=HMk.at hv2 (by omega)
   obtain⟨m,hm⟩:∃ m,ls[k]=m:=⟨_,rfl⟩
   obtain⟨c0,c1⟩:=Low.mk hI1.low hv2 k hlt hm
   have HI2:Hid (x++(if m.sg=43 then ⟨45,m.tx⟩::invG y (ls.drop (k+1)) else if m.sg=45 then invG (y++[⟨43,m.tx⟩]) (ls.drop (k+1)) else y++m::invG [] (ls.drop (k+1)))=R):=(by
    show _=_
    rw[← HI.out,List.drop_eq_getElem_cons hlt,hm]
    rfl)
   have i1:0≤(k:Int):=by omega
   have i2:(k:Int)<(ls.length:Int):=by omega
   have hsW:=hI1.low.size
   have hmx:=Mx.new wr m
   have hI2:=hI1.alloc (mkO m)
   have hBm:Below wr.heap.size wr (wr.alloc (mkO m)):=(Below.refl _ wr).alloc (Nat.le_refl _) _
   obtain⟨m0,m1⟩:=hmx.cells
   obtain⟨d0,d1,d2,d3,d4⟩:=hI2.box.cells
   have HSM:Hid ((wr.alloc (mkO m)).heap.size=wr.heap.size+1):=(by show _=_;simp)
   have hW2:wr.alloc (Obj.cells #[Value.int IntKind.u8 m.sg,Value.string ⟨m.tx.toArray⟩] 47)=wr.alloc (mkO m):=rfl
   have hlts:=hI1.own
   clear HI hm
   go_upto_region 6 with fail
   obtain⟨sg,tx⟩:=m
   dsimp only at m0 m1 c0 c1 HI2 hW2
   generalize hwr1:wr.alloc (mkO ⟨sg,tx⟩)=wr1 at *
   clear hW2
   by_cases h1:sg=43
   ·subst h1
    have HI3:Hid (x++[⟨45,tx⟩]++invG y (ls.drop (k+1))=R):=(by
     have h:=HI2.out
     show _=_
     rw[if_pos rfl] at h
     rw[← h]
     simp)
    have hI3:=hI2.alloc (mkO ⟨45,tx⟩)
    have hrow:=Zgj wr1 ⟨45,tx⟩
    have hW3:wr1.alloc (Obj.cells #[Value.int IntKind.u8 45,Value.string ⟨tx.toArray⟩] 47)=wr1.alloc (mkO ⟨45,tx⟩):=rfl
    have HS3:Hid ((wr1.alloc (mkO ⟨45,tx⟩)).heap.size=wr1.heap.size+1):=(by show _=_;simp)
    have hs1:=hI2.low.size
    clear HI2
    go_wp2_with (at_builtin;refine Zmi _ (by kernel_rfl) (.tmp 38) (.tmp 42) 43 47 (.agg #[.int .u8 0,.string ⟨#[]⟩]) 2 24 rfl Tryz.underlying43 infoMk rfl (by decide) (by decide) (W.heap.size+1) _ _ _ rfl hI3.own _ 1 (mkcells [⟨45,tx⟩]) rfl hrow (Zgo _) (Zgp _) (by omega) (by have:=HS3.out;have:=HSM.out;omega) ?_)
    intro v3 u3 hown3 hg3 hb3
    rw[← Zgl] at hown3
    obtain⟨o3,c3,rfl⟩:=(Zeo hown3).form
    obtain⟨hbx3,hI4⟩:=hI3.grow (x':=x++[⟨45,tx⟩]) hg3 (by rw[List.length_append];exact hown3) (by rw[HS3.out];exact hb3)
    obtain⟨f0,f1,f2,f3,f4⟩:=hbx3.cells
    have ff:=hbx3.frozen 4
    clear hW3 hg3 hown3
    go_wp2
    exact⟨⟨k+1,_,x++[⟨45,tx⟩],y,by omega,by go_num,⟨_,_,by rw[List.length_append];rfl⟩,⟨_,_,rfl⟩,by simp;omega,hI4,HI3⟩,by simp[intOf];omega⟩
   ·have e1:(sg == 43)=false:=by simpa using h1
    by_cases h2:sg=45
    ·subst h2
     have HI3:Hid (x++invG (y++[⟨43,tx⟩]) (ls.drop (k+1))=R):=(by
      have h:=HI2.out
      show _=_
      rw[if_neg (by decide),if_pos rfl] at h
      exact h)
     have hI3:=hI2.alloc (mkO ⟨43,tx⟩)
     have hrow:=Zgj wr1 ⟨43,tx⟩
     have hW3:wr1.alloc (Obj.cells #[Value.int IntKind.u8 43,Value.string ⟨tx.toArray⟩] 47)=wr1.alloc (mkO ⟨43,tx⟩):=rfl
     have HS3:Hid ((wr1.alloc (mkO ⟨43,tx⟩)).heap.size=wr1.heap.size+1):=(by show _=_;simp)
     have hs1:=hI2.low.size
     clear HI2
     go_wp2_with (at_builtin;refine Zmi _ (by kernel_rfl) (.tmp 47) (.tmp 51) 43 47 (.agg #[.int .u8 0,.string ⟨#[]⟩]) 2 24 rfl Tryz.underlying43 infoMk rfl (by decide) (by decide) (W.heap.size+1) _ _ _ rfl hI3.add _ 1 (mkcells [⟨43,tx⟩]) rfl hrow (Zgo _) (Zgp _) (by omega) (by have:=HS3.out;have:=HSM.out;omega) ?_)
     intro v3 u3 hown3 hg3 hb3
     rw[← Zgl] at hown3
     obtain⟨o3,c3,rfl⟩:=(Zeo hown3).form
     have hI4:=hI3.wait (y':=y++[⟨43,tx⟩]) hg3 (by rw[List.length_append];exact hown3) (by rw[HS3.out];exact hb3)
     clear hW3 hg3 hown3
     go_wp2
     exact⟨⟨k+1,_,x,y++[⟨43,tx⟩],by omega,by go_num,⟨_,_,rfl⟩,⟨_,_,by rw[List.length_append];rfl⟩,by simp;omega,hI4,HI3⟩,by simp[intOf];omega⟩
    ·have e2:(sg == 45)=false:=by simpa using h2
     have HI3:Hid (x++(y++[⟨sg,tx⟩])++invG [] (ls.drop (k+1))=R):=(by
      have h:=HI2.out
      show _=_
      rw[if_neg h1,if_neg h2] at h
      rw[← h]
      simp)
     clear HI2
     go_upto_region 7 with fail
     have hsd:=hI2.low.size
     have hsm:=HSM.out
     have hdr:(wr1.drewN 1).heap.size=wr1.heap.size:=rfl
     have hdr2:((wr1.drewN 1).alloc (mkO ⟨sg,tx⟩)).heap.size=wr1.heap.size+1:=by simp
     obtain⟨v3,u3,hr3,hown3,hg3,hb3⟩:=ZjJ (wr1.drewN 1) 43 47 43 (.agg #[.int .u8 0,.string ⟨#[]⟩]) 2 24 Tryz.underlying43 infoMk rfl (by decide) (by decide) (W.heap.size+1) _ _ _ (hI2.own) _ y.length (mkcells y) (Zeo hI2.add) (Zgo _) (Zgp _) (by first | omega | (simp;omega)) (by first | omega | (simp;omega))
     rw[← Zgl] at hown3
     obtain⟨v6,u6,hr6,hown6,hg6,hb6⟩:=ZjJ ((wr1.drewN 1).alloc (mkO ⟨sg,tx⟩)) 43 47 43 (.agg #[.int .u8 0,.string ⟨#[]⟩]) 2 24 Tryz.underlying43 infoMk rfl (by decide) (by decide) (W.heap.size+1) _ _ _ (hI2.own.alloc (mkO ⟨sg,tx⟩)) _ y.length (mkcells y) (Zeo (hI2.add.alloc (mkO ⟨sg,tx⟩))) (Zgo _) (Zgp _) (by first | omega | (simp;omega)) (by first | omega | (simp;omega))
     rw[← Zgl] at hown6
     have hS3:wr1.grownBy u3 (Value.slice oo x.length oc).ownBlock:=Zvl (ZdP (World.grownBy.refl _ _) 1) hg3 (.inl rfl)
     have hS6:wr1.grownBy u6 (Value.slice oo x.length oc).ownBlock:=Zvl (Zvk (ZdP (World.grownBy.refl _ _) 1) (mkO ⟨sg,tx⟩)) hg6 (.inl rfl)
     have hz3:=hg3.size
     have hz6:=hg6.size
     rw[hdr] at hz3
     rw[hdr2] at hz6
     have hrb3:v3.ownBlock=(Value.slice oo x.length oc).ownBlock∨∃ j,v3.ownBlock=some j∧wr1.heap.size≤j:=(by
      rcases hb3 with h | h
      ·exact .inl h
      ·exact .inr ⟨_,h,Nat.le_refl _⟩)
     have hrb6:v6.ownBlock=(Value.slice oo x.length oc).ownBlock∨∃ j,v6.ownBlock=some j∧wr1.heap.size≤j:=(by
      rcases hb6 with h | h
      ·exact .inl h
      ·exact .inr ⟨_,h,by simp⟩)
     have hob:∀ j,(Value.slice oo x.length oc).ownBlock=some j→j<wr.heap.size:=fun j hj=>ZhG hI1.own hj
     have hrow3:Holds (u3.alloc (mkO ⟨sg,tx⟩)) (.slice (some ⟨u3.heap.size,0,none⟩) 1 1) 1 (mkcells [⟨sg,tx⟩]):=Zgj u3 ⟨sg,tx⟩
     have hrow6:Holds u6 (.slice (some ⟨(wr1.drewN 1).heap.size,0,none⟩) 1 1) 1 (mkcells [⟨sg,tx⟩]):=(by
      have hd:=Zgj (wr1.drewN 1) ⟨sg,tx⟩
      refine .inr ⟨⟨(wr1.drewN 1).heap.size,0,none⟩,1,rfl,Nat.le_refl _,fun j z hj=>?_⟩
      rcases hd with ⟨h,_,_⟩ | ⟨ad,c,e,_,hc⟩
      ·cases h
      ·cases e
       have h1:=hc j z hj
       rw[World.cell?_of_block (w:=((wr1.drewN 1).alloc (mkO ⟨sg,tx⟩))) (hg6.block _ (World.block_lt_of_cell? _ _ h1) (fun e=>?_))]
       ·exact h1
       ·rw[Zao] at e
        have h2:wr1.heap.size<wr.heap.size:=hob _ e.symm
        omega)
     have hmD:Mx (wr1.drewN 1) wr.heap.size ⟨sg,tx⟩:=hmx
     have hm3:Mx u3 wr.heap.size ⟨sg,tx⟩:=(hS3.block _ hmx.lt (fun e=>by have:=hob _ e.symm;omega)).trans hmx
     have hbD:(wr1.drewN 1).cell? ⟨W.heap.size,4,none⟩=some (.slice oo x.length oc):=hI2.box.cells.2.2.2.2
     have hbA:((wr1.drewN 1).alloc (mkO ⟨sg,tx⟩)).cell? ⟨W.heap.size,4,none⟩=some (.slice oo x.length oc):=((hI2.drewN 1).alloc (mkO ⟨sg,tx⟩)).box.cells.2.2.2.2
     obtain⟨v4,u4,hr4,hown4,hg4,hb4⟩:=ZjJ (u3.alloc (mkO ⟨sg,tx⟩)) 43 47 43 (.agg #[.int .u8 0,.string ⟨#[]⟩]) 2 24 Tryz.underlying43 infoMk rfl (by decide) (by decide) (W.heap.size+1) _ _ _ (hown3.alloc (mkO ⟨sg,tx⟩)) _ 1 (mkcells [⟨sg,tx⟩]) (hrow3) (Zgo _) (Zgp _) (by first | omega | (simp;omega)) (by first | omega | (simp;omega))
     rw[← Zgl] at hown4
     obtain⟨v7,u7,hr7,hown7,hg7,hb7⟩:=ZjJ u6 43 47 43 (.agg #[.int .u8 0,.string ⟨#[]⟩]) 2 24 Tryz.underlying43 infoMk rfl (by decide) (by decide) (W.heap.size+1) _ _ _ (hown6) _ 1 (mkcells [⟨sg,tx⟩]) (hrow6) (Zgo _) (Zgp _) (by first | omega | (simp;omega)) (by first | omega | (simp;omega))
     rw[← Zgl] at hown7
     have hS4:wr1.grownBy u4 (Value.slice oo x.length oc).ownBlock:=Zvl (Zvk hS3 _) hg4 hrb3
     obtain⟨p4,q4,hv4⟩:=(Zeo hown4).form
     subst hv4
     have hrb4:(Value.slice p4 (x.length+y.length+1) q4).ownBlock=(Value.slice oo x.length oc).ownBlock∨∃ j,(Value.slice p4 (x.length+y.length+1) q4).ownBlock=some j∧wr1.heap.size≤j:=(by
      rcases hb4 with h | h
      ·rw[h];exact hrb3
      ·exact .inr ⟨_,h,by first | omega | (simp;omega)⟩)
     obtain⟨hbx4,hI4⟩:=ZwA hI2 (x':=x++y++[⟨sg,tx⟩]) hS4 (by simp only[List.length_append];exact hown4) hrb4
     have hS7:wr1.grownBy u7 (Value.slice oo x.length oc).ownBlock:=Zvl hS6 hg7 hrb6
     obtain⟨p7,q7,hv7⟩:=(Zeo hown7).form
     subst hv7
     have hrb7:(Value.slice p7 (x.length+y.length+1) q7).ownBlock=(Value.slice oo x.length oc).ownBlock∨∃ j,(Value.slice p7 (x.length+y.length+1) q7).ownBlock=some j∧wr1.heap.size≤j:=(by
      rcases hb7 with h | h
      ·rw[h];exact hrb6
      ·exact .inr ⟨_,h,by first | omega | (simp;omega)⟩)
     obtain⟨hbx7,hI7⟩:=ZwA hI2 (x':=x++y++[⟨sg,tx⟩]) hS7 (by simp only[List.length_append];exact hown7) hrb7
     have r0:=ZzT ao y.length ac
     clear hrb4 hrb7 hS3 hS6 hrb3 hrb6 hob hrow3 hrow6 hg3 hg6 hb3 hb6 hown3 hown6 hown4 hown7 hS4 hS7 hg4 hg7 hb4 hb7
     refine wp_region_noPanic ?_
     refine wp_region_held_drew (S:=fun _=>True) (by kernel_rfl) trivial (fun hHeld=>?_)
     refine Y_t 0 25 _ (.pointer (some ⟨W.heap.size,4,none⟩)) rfl (Or.inl ⟨by kernel_rfl,fun u hu=>by kernel_rfl⟩) hHeld ?_
     simp only[Act.put,Y_a,Y_b,Y_c]
     refine Y_t 2 27 _ (.slice ao y.length ac) rfl (Or.inl ⟨by kernel_rfl,fun u hu=>by kernel_rfl⟩) hHeld ?_
     simp only[Act.put,Y_a,Y_b,Y_c]
     refine ZdJ 1 26 _ 4 29 _ rfl (by kernel_rfl) rfl (by kernel_rfl) (by kernel_rfl) (by kernel_rfl) (by kernel_rfl) (.slice oo x.length oc) (wr1.drewN 1) (Zoo hbD (.tmp 25) (by kernel_rfl) (by kernel_rfl)) trivial (.agg #[.int .u8 sg,.string ⟨tx.toArray⟩]) (wr1.drewN 1) (ZwN hmD (.tmp 6) (by kernel_rfl) (by kernel_rfl)) trivial ?_ ?_
     ·simp only[Act.put,Y_a,Y_b,Y_c]
      refine ZdJ 3 28 _ 4 29 _ rfl (by kernel_rfl) rfl (by kernel_rfl) (by kernel_rfl) (by kernel_rfl) (by kernel_rfl) (v3) u3 (ZcT (.tmp 26) (.tmp 27) (by kernel_rfl) (by kernel_rfl) (by kernel_rfl) hr3) trivial (.agg #[.int .u8 sg,.string ⟨tx.toArray⟩]) (wr1.drewN 1) (ZwN hmD (.tmp 6) (by kernel_rfl) (by kernel_rfl)) trivial ?_ ?_
      ·simp only[Act.put,Y_a,Y_b,Y_c]
       refine Y_v 4 29 _ rfl (.agg #[.int .u8 sg,.string ⟨tx.toArray⟩]) u3 (ZwN hm3 (.tmp 6) (by kernel_rfl) (by kernel_rfl)) trivial ?_
       simp only[Act.put,Y_a,Y_b,Y_c]
       refine Y_v 5 30 _ rfl (.slice (some ⟨u3.heap.size,0,none⟩) 1 1) (u3.alloc (mkO ⟨sg,tx⟩)) (by kernel_rfl) trivial ?_
       simp only[Act.put,Y_a,Y_b,Y_c]
       refine Y_v 6 31 _ rfl _ u4 (ZcT (.tmp 28) (.tmp 30) (by kernel_rfl) (by kernel_rfl) (by kernel_rfl) hr4) trivial ?_
       simp only[Act.put,Y_a,Y_b,Y_c]
       refine Y_t 7 32 _ (.pointer (some ⟨W.heap.size,4,none⟩)) rfl (Or.inl ⟨by kernel_rfl,fun u hu=>by kernel_rfl⟩) hHeld ?_
       simp only[Act.put,Y_a,Y_b,Y_c]
       refine Y_s 8 _ rfl (u4.setCell ⟨W.heap.size,4,none⟩ (.slice p4 (x.length+y.length+1) q4)) (Znc (v:=.slice p4 (x.length+y.length+1) q4) (o':=p4) (n':=x.length+y.length+1) (c':=q4) (hbx4.frozen 4) hbx4.cells.2.2.2.2 rfl (.tmp 32) (.tmp 31) (by kernel_rfl) (by kernel_rfl) (by kernel_rfl)) trivial ?_
       refine wpAnyH_done (by kernel_rfl) ?_ _
       refine NoPanic.normal ?_
       go_wp2
       exact⟨⟨k+1,_,x++y++[⟨sg,tx⟩],[],by omega,by go_num,⟨_,_,by simp only[List.length_append];rfl⟩,⟨_,_,rfl⟩,by simp;omega,hI4,by have h:=HI3.out;show _=_;rw[← h];simp⟩,by simp[intOf];omega⟩
      ·simp only[Act.put,Y_a,Y_b,Y_c]
       refine ZdJ 3 28 _ 5 30 _ rfl (by kernel_rfl) rfl (by kernel_rfl) (by kernel_rfl) (by kernel_rfl) (by kernel_rfl) (v3) u3 (ZcT (.tmp 26) (.tmp 27) (by kernel_rfl) (by kernel_rfl) (by kernel_rfl) hr3) trivial (.slice (some ⟨(wr1.drewN 1).heap.size,0,none⟩) 1 1) ((wr1.drewN 1).alloc (mkO ⟨sg,tx⟩)) (by kernel_rfl) trivial ?_ ?_
       ·simp only[Act.put,Y_a,Y_b,Y_c]
        refine Y_v 5 30 _ rfl (.slice (some ⟨u3.heap.size,0,none⟩) 1 1) (u3.alloc (mkO ⟨sg,tx⟩)) (by kernel_rfl) trivial ?_
        simp only[Act.put,Y_a,Y_b,Y_c]
        refine Y_v 6 31 _ rfl _ u4 (ZcT (.tmp 28) (.tmp 30) (by kernel_rfl) (by kernel_rfl) (by kernel_rfl) hr4) trivial ?_
        simp only[Act.put,Y_a,Y_b,Y_c]
        refine Y_t 7 32 _ (.pointer (some ⟨W.heap.size,4,none⟩)) rfl (Or.inl ⟨by kernel_rfl,fun u hu=>by kernel_rfl⟩) hHeld ?_
        simp only[Act.put,Y_a,Y_b,Y_c]
        refine Y_s 8 _ rfl (u4.setCell ⟨W.heap.size,4,none⟩ (.slice p4 (x.length+y.length+1) q4)) (Znc (v:=.slice p4 (x.length+y.length+1) q4) (o':=p4) (n':=x.length+y.length+1) (c':=q4) (hbx4.frozen 4) hbx4.cells.2.2.2.2 rfl (.tmp 32) (.tmp 31) (by kernel_rfl) (by kernel_rfl) (by kernel_rfl)) trivial ?_
        refine wpAnyH_done (by kernel_rfl) ?_ _
        refine NoPanic.normal ?_
        go_wp2
        exact⟨⟨k+1,_,x++y++[⟨sg,tx⟩],[],by omega,by go_num,⟨_,_,by simp only[List.length_append];rfl⟩,⟨_,_,rfl⟩,by simp;omega,hI4,by have h:=HI3.out;show _=_;rw[← h];simp⟩,by simp[intOf];omega⟩
       ·simp only[Act.put,Y_a,Y_b,Y_c]
        refine Y_v 3 28 _ rfl (v6) u6 (ZcT (.tmp 26) (.tmp 27) (by kernel_rfl) (by kernel_rfl) (by kernel_rfl) hr6) trivial ?_
        simp only[Act.put,Y_a,Y_b,Y_c]
        refine Y_v 6 31 _ rfl _ u7 (ZcT (.tmp 28) (.tmp 30) (by kernel_rfl) (by kernel_rfl) (by kernel_rfl) hr7) trivial ?_
        simp only[Act.put,Y_a,Y_b,Y_c]
        refine Y_t 7 32 _ (.pointer (some ⟨W.heap.size,4,none⟩)) rfl (Or.inl ⟨by kernel_rfl,fun u hu=>by kernel_rfl⟩) hHeld ?_
        simp only[Act.put,Y_a,Y_b,Y_c]
        refine Y_s 8 _ rfl (u7.setCell ⟨W.heap.size,4,none⟩ (.slice p7 (x.length+y.length+1) q7)) (Znc (v:=.slice p7 (x.length+y.length+1) q7) (o':=p7) (n':=x.length+y.length+1) (c':=q7) (hbx7.frozen 4) hbx7.cells.2.2.2.2 rfl (.tmp 32) (.tmp 31) (by kernel_rfl) (by kernel_rfl) (by kernel_rfl)) trivial ?_
        refine wpAnyH_done (by kernel_rfl) ?_ _
        refine NoPanic.normal ?_
        go_wp2
        exact⟨⟨k+1,_,x++y++[⟨sg,tx⟩],[],by omega,by go_num,⟨_,_,by simp only[List.length_append];rfl⟩,⟨_,_,rfl⟩,by simp;omega,hI7,by have h:=HI3.out;show _=_;rw[← h];simp⟩,by simp[intOf];omega⟩
     ·simp only[Act.put,Y_a,Y_b,Y_c]
      refine ZdJ 1 26 _ 5 30 _ rfl (by kernel_rfl) rfl (by kernel_rfl) (by kernel_rfl) (by kernel_rfl) (by kernel_rfl) (.slice oo x.length oc) (wr1.drewN 1) (Zoo hbD (.tmp 25) (by kernel_rfl) (by kernel_rfl)) trivial (.slice (some ⟨(wr1.drewN 1).heap.size,0,none⟩) 1 1) ((wr1.drewN 1).alloc (mkO ⟨sg,tx⟩)) (by kernel_rfl) trivial ?_ ?_
      ·simp only[Act.put,Y_a,Y_b,Y_c]
       refine ZdJ 3 28 _ 5 30 _ rfl (by kernel_rfl) rfl (by kernel_rfl) (by kernel_rfl) (by kernel_rfl) (by kernel_rfl) (v3) u3 (ZcT (.tmp 26) (.tmp 27) (by kernel_rfl) (by kernel_rfl) (by kernel_rfl) hr3) trivial (.slice (some ⟨(wr1.drewN 1).heap.size,0,none⟩) 1 1) ((wr1.drewN 1).alloc (mkO ⟨sg,tx⟩)) (by kernel_rfl) trivial ?_ ?_
       ·simp only[Act.put,Y_a,Y_b,Y_c]
        refine Y_v 5 30 _ rfl (.slice (some ⟨u3.heap.size,0,none⟩) 1 1) (u3.alloc (mkO ⟨sg,tx⟩)) (by kernel_rfl) trivial ?_
        simp only[Act.put,Y_a,Y_b,Y_c]
        refine Y_v 6 31 _ rfl _ u4 (ZcT (.tmp 28) (.tmp 30) (by kernel_rfl) (by kernel_rfl) (by kernel_rfl) hr4) trivial ?_
        simp only[Act.put,Y_a,Y_b,Y_c]
        refine Y_t 7 32 _ (.pointer (some ⟨W.heap.size,4,none⟩)) rfl (Or.inl ⟨by kernel_rfl,fun u hu=>by kernel_rfl⟩) hHeld ?_
        simp only[Act.put,Y_a,Y_b,Y_c]
        refine Y_s 8 _ rfl (u4.setCell ⟨W.heap.size,4,none⟩ (.slice p4 (x.length+y.length+1) q4)) (Znc (v:=.slice p4 (x.length+y.length+1) q4) (o':=p4) (n':=x.length+y.length+1) (c':=q4) (hbx4.frozen 4) hbx4.cells.2.2.2.2 rfl (.tmp 32) (.tmp 31) (by kernel_rfl) (by kernel_rfl) (by kernel_rfl)) trivial ?_
        refine wpAnyH_done (by kernel_rfl) ?_ _
        refine NoPanic.normal ?_
        go_wp2
        exact⟨⟨k+1,_,x++y++[⟨sg,tx⟩],[],by omega,by go_num,⟨_,_,by simp only[List.length_append];rfl⟩,⟨_,_,rfl⟩,by simp;omega,hI4,by have h:=HI3.out;show _=_;rw[← h];simp⟩,by simp[intOf];omega⟩
       ·simp only[Act.put,Y_a,Y_b,Y_c]
        refine Y_v 3 28 _ rfl (v6) u6 (ZcT (.tmp 26) (.tmp 27) (by kernel_rfl) (by kernel_rfl) (by kernel_rfl) hr6) trivial ?_
        simp only[Act.put,Y_a,Y_b,Y_c]
        refine Y_v 6 31 _ rfl _ u7 (ZcT (.tmp 28) (.tmp 30) (by kernel_rfl) (by kernel_rfl) (by kernel_rfl) hr7) trivial ?_
        simp only[Act.put,Y_a,Y_b,Y_c]
        refine Y_t 7 32 _ (.pointer (some ⟨W.heap.size,4,none⟩)) rfl (Or.inl ⟨by kernel_rfl,fun u hu=>by kernel_rfl⟩) hHeld ?_
        simp only[Act.put,Y_a,Y_b,Y_c]
        refine Y_s 8 _ rfl (u7.setCell ⟨W.heap.size,4,none⟩ (.slice p7 (x.length+y.length+1) q7)) (Znc (v:=.slice p7 (x.length+y.length+1) q7) (o':=p7) (n':=x.length+y.length+1) (c':=q7) (hbx7.frozen 4) hbx7.cells.2.2.2.2 rfl (.tmp 32) (.tmp 31) (by kernel_rfl) (by kernel_rfl) (by kernel_rfl)) trivial ?_
        refine wpAnyH_done (by kernel_rfl) ?_ _
        refine NoPanic.normal ?_
        go_wp2
        exact⟨⟨k+1,_,x++y++[⟨sg,tx⟩],[],by omega,by go_num,⟨_,_,by simp only[List.length_append];rfl⟩,⟨_,_,rfl⟩,by simp;omega,hI7,by have h:=HI3.out;show _=_;rw[← h];simp⟩,by simp[intOf];omega⟩
      ·simp only[Act.put,Y_a,Y_b,Y_c]
       refine Y_v 1 26 _ rfl (.slice oo x.length oc) ((wr1.drewN 1).alloc (mkO ⟨sg,tx⟩)) (Zoo hbA (.tmp 25) (by kernel_rfl) (by kernel_rfl)) trivial ?_
       simp only[Act.put,Y_a,Y_b,Y_c]
       refine Y_v 3 28 _ rfl (v6) u6 (ZcT (.tmp 26) (.tmp 27) (by kernel_rfl) (by kernel_rfl) (by kernel_rfl) hr6) trivial ?_
       simp only[Act.put,Y_a,Y_b,Y_c]
       refine Y_v 6 31 _ rfl _ u7 (ZcT (.tmp 28) (.tmp 30) (by kernel_rfl) (by kernel_rfl) (by kernel_rfl) hr7) trivial ?_
       simp only[Act.put,Y_a,Y_b,Y_c]
       refine Y_t 7 32 _ (.pointer (some ⟨W.heap.size,4,none⟩)) rfl (Or.inl ⟨by kernel_rfl,fun u hu=>by kernel_rfl⟩) hHeld ?_
       simp only[Act.put,Y_a,Y_b,Y_c]
       refine Y_s 8 _ rfl (u7.setCell ⟨W.heap.size,4,none⟩ (.slice p7 (x.length+y.length+1) q7)) (Znc (v:=.slice p7 (x.length+y.length+1) q7) (o':=p7) (n':=x.length+y.length+1) (c':=q7) (hbx7.frozen 4) hbx7.cells.2.2.2.2 rfl (.tmp 32) (.tmp 31) (by kernel_rfl) (by kernel_rfl) (by kernel_rfl)) trivial ?_
       refine wpAnyH_done (by kernel_rfl) ?_ _
       refine NoPanic.normal ?_
       go_wp2
       exact⟨⟨k+1,_,x++y++[⟨sg,tx⟩],[],by omega,by go_num,⟨_,_,by simp only[List.length_append];rfl⟩,⟨_,_,rfl⟩,by simp;omega,hI7,by have h:=HI3.out;show _=_;rw[← h];simp⟩,by simp[intOf];omega⟩
  ·have HI3:Hid (x++y=R):=(by
    have h:=HI.out
    rw[List.drop_of_length_le (by omega)] at h
    exact h)
   have hend:decide ((k:Int)<(ls.length:Int))=false:=decide_eq_false (by omega)
   have hsd:=hI1.low.size
   clear HI
   go_wp2_with (at_builtin;refine Zmi _ (by kernel_rfl) (.tmp 55) (.tmp 56) 43 47 (.agg #[.int .u8 0,.string ⟨#[]⟩]) 2 24 rfl Tryz.underlying43 infoMk rfl (by decide) (by decide) (W.heap.size+1) _ _ _ rfl hI1.own _ y.length (mkcells y) rfl (Zeo hI1.add) (Zgo _) (Zgp _) (by omega) (by have:=hI1.box.lt;omega) ?_)
   intro v3 u3 hown3 hg3 hb3
   rw[← Zgl] at hown3
   obtain⟨o3,c3,rfl⟩:=(Zeo hown3).form
   obtain⟨hbx3,hI4⟩:=hI1.last (x':=x++y) hg3 (by rw[List.length_append];exact hown3)
   obtain⟨f0,f1,f2,f3,f4⟩:=hbx3.cells
   have ff:=hbx3.frozen 4
   have hz4:=hz2.low hI4.low
   obtain⟨t0,t1,t2,t3,t4⟩:=hI4.box.cells
   obtain⟨z0,z1,z2,z3,z4⟩:=hz4.cells
   have zf:=hz4.frozen
   have zf0:=zf 0
   have zf1:=zf 1
   have zf2:=zf 2
   have zf3:=zf 3
   have zf4:=zf 4
   have hP:=hz4.put5 (.int .i64 B) (.int .i64 BN) (.int .i64 A) (.int .i64 AN) (.slice o3 (x.length+y.length) c3)
   have hlw:Below w.heap.size w (u3.setCell ⟨W.heap.size,4,none⟩ (.slice o3 (x.length+y.length) c3)):=hB2.trans (hI4.low.mono hB2.size)
   have hown5:=hI4.own
   have HR3:Hid (x++y=R):=HI3
   clear zf hg3 hb3 hown3 f0 f1 f2 f3 x0 x1 x2 x3 x4 b0 b1 b2 b3 b4 HI3
   go_upto_region 15 with fail
   generalize u3.setCell ⟨W.heap.size,4,none⟩ (.slice o3 (x.length+y.length) c3)=W4 at *
   go_wp2
   refine bodyPost_ret (v:=hkV ⟨B,BN,A,AN,R⟩ (.slice o3 (x.length+y.length) c3)) (results_cell_row rfl _ _ (w.heap.size+1) 45 #[.int .i64 B,.int .i64 BN,.int .i64 A,.int .i64 AN,.slice o3 (x.length+y.length) c3] (0,0) _ rfl hP Tryz.underlying45 rfl (by kernel_rfl)) rfl ⟨_,rfl,?_,?_⟩
   ·rw[← HR3.out]
    have hsw:=HSZ.out
    have key:∀ (u:World) (j:Nat) (z:Value),u.ownsRow w.heap.size 47 2 (.slice o3 (x.length+y.length) c3) (x++y).length (mkcells (x++y))→(∀ g,(Value.slice o3 (x.length+y.length) c3).ownBlock=some g→w.heap.size+1<g)→(u.setCell ⟨w.heap.size+1,j,none⟩ z).ownsRow w.heap.size 47 2 (.slice o3 (x.length+y.length) c3) (x++y).length (mkcells (x++y)):=fun u j z ho hg=>ZhF ho (ZdS u _ j z) (fun k hk e=>by cases hk;have:=hg _ e;omega)
    have hgg:∀ g,(Value.slice o3 (x.length+y.length) c3).ownBlock=some g→w.heap.size+1<g:=fun g hg=>by have:=ZhJ hown5 hg;omega
    have h0:W4.ownsRow w.heap.size 47 2 (.slice o3 (x.length+y.length) c3) (x++y).length (mkcells (x++y)):=ZhC hown5 (by omega)
    exact key _ _ _ (key _ _ _ (key _ _ _ (key _ _ _ (key _ _ _ h0 hgg) hgg) hgg) hgg) hgg
   ·exact ((((hlw.setCell (by simp) _).setCell (by simp) _).setCell (by simp) _).setCell (by simp) _).setCell (by simp) _
end

section
open Go.ChangeShapes Go.WideShapes Go.ChangeAt Go.RowKit
theorem cellsStr:Tryz.prog.cellsOf 9=1:=by kernel_rfl
end

section
open Go.ChangeShapes Go.WideShapes Go.ChangeAt Go.RowKit
theorem cellsMk:Tryz.prog.cellsOf 47=2:=by kernel_rfl
theorem cellsHk:Tryz.prog.cellsOf 45=5:=by kernel_rfl
theorem cellsU8:Tryz.prog.cellsOf 5=1:=by kernel_rfl
theorem cellsMks:Tryz.prog.cellsOf 43=1:=by kernel_rfl
def mb:List Mk→Nat
 | []=>0
 | m::l=>m.tx.length+1+mb l
def hbk:List Hk→Nat
 | []=>0
 | h::l=>mb h.ls+1+hbk l
theorem ZwW (l:List Mk):l.length≤mb l:=by
 induction l with
 | nil=>simp
 | cons m l ih=>simp only[mb,List.length_cons];omega
theorem ZwX (l:List Mk):∀ m∈l,m.tx.length≤mb l:=by
 induction l with
 | nil=>intro m hm;cases hm
 | cons x l ih =>
  intro m hm
  simp only[mb]
  rcases List.mem_cons.1 hm with rfl | hm
  ·omega
  ·have:=ih m hm
   omega
theorem ZvO (l:List Hk):l.length≤hbk l:=by
 induction l with
 | nil=>simp
 | cons m l ih=>simp only[hbk,List.length_cons];omega
theorem ZvP (l:List Hk):∀ h∈l,mb h.ls≤hbk l:=by
 induction l with
 | nil=>intro m hm;cases hm
 | cons x l ih =>
  intro m hm
  simp only[hbk]
  rcases List.mem_cons.1 hm with rfl | hm
  ·omega
  ·have:=ih m hm
   omega
theorem ZwY (f:Nat→Mk) (n:Nat):mb ((List.range n).map f)=((List.range n).map fun i=>(f i).tx.length+1).sum:=by
 have key:∀ l:List Mk,mb l=(l.map fun m=>m.tx.length+1).sum:=by
  intro l
  induction l with
  | nil=>rfl
  | cons m l ih=>simp only[mb,ih,List.map_cons,List.sum_cons]
 rw[key,List.map_map]
 rfl
theorem ZvQ (f:Nat→Hk) (n:Nat):hbk ((List.range n).map f)=((List.range n).map fun i=>mb (f i).ls+1).sum:=by
 have key:∀ l:List Hk,hbk l=(l.map fun m=>mb m.ls+1).sum:=by
  intro l
  induction l with
  | nil=>rfl
  | cons m l ih=>simp only[hbk,ih,List.map_cons,List.sum_cons]
 rw[key,List.map_map]
 rfl
theorem Ztw {H:Type} (D:Nat→DataW H) (c:Nat→Nat) (n:Nat) (h:∀ i,i<n→c i≤Rows.uptoBulk (D i)):((List.range n).map c).sum≤Rows.uptoBulkAll ((List.range n).map D):=by
 have key:∀ l:List Nat,(∀ i∈l,c i≤Rows.uptoBulk (D i))→(l.map c).sum≤Rows.uptoBulkAll (l.map D):=by
  intro l
  induction l with
  | nil=>intro _;simp
  | cons i l ih =>
   intro hl
   have h1:=hl i (by simp)
   have h2:=ih fun j hj=>hl j (by simp[hj])
   simp only[List.map_cons,List.sum_cons,Rows.uptoBulkAll]
   omega
 exact key _ fun i hi=>h i (by simpa using hi)
theorem ZxS {H:Type} {enc:TypeId × Value→H} {W:World} {fuel:Nat} {cs:List Value} {d:DataW H} {p:List MemPlace}
  (h:DataW.trod enc Tryz.prog W 0 (fun _=>true) true fuel 43 cs=some (d,p)) :
  ∃ (v:Value) (l:List Mk),cs=[v]∧HMk W v l∧mb l≤Rows.uptoBulk d∧∀ m∈l,0≤m.sg∧m.sg≤255:=by
 rcases Go.Deep.open_slice Tryz.underlying43 h with ⟨hcs,hx⟩ | ⟨a,len,cap,m,n,D,Pl,hcs,_,hl,hm,hmm,hx,hel⟩
 ·exact⟨_,[],hcs,.inl ⟨rfl,rfl,rfl⟩,by simp[mb],by simp⟩
 ·simp only[Prod.mk.injEq] at hx
  obtain⟨rfl,_⟩:=hx
  have hlm:len≤m:=by rw[hmm];split<;>omega
  have each:∀ i,i<len→∃ c:Mk,(0≤c.sg∧c.sg≤255)∧W.cell? (a.add (i * 2))=some (.int .u8 c.sg)∧W.cell? (a.add (i * 2+1))=some (.string ⟨c.tx.toArray⟩)∧c.tx.length+1≤Rows.uptoBulk (D i):=by
   intro i hi
   obtain⟨cs',h1,h2⟩:=hel i (by omega)
   rw[cellsMk] at h1
   obtain⟨_,hlen,hcell⟩:=World.cells?_some h1
   obtain⟨xs,k,hk,hxy,_,hxl,hf⟩:=DataW.trod_struct Tryz.underlying47 h2
   match xs,hxl,cs',hlen with
   | [y0,y1],_,[v0,v1],_ =>
    have g0:=hf 0 _ rfl
    have g1:=hf 1 _ rfl
    simp[cellsU8,cellsStr] at g0 g1
    obtain⟨z0,e0,q0,w0⟩:=DataW.trod_int Tryz.underlying5 g0
    obtain⟨z1,e1,q1,_⟩:=DataW.trod_string Tryz.underlying9 g1
    cases e0
    cases e1
    have c0:=hcell 0 (by omega)
    have c1:=hcell 1 (by omega)
    rw[Go.Deep.add_add] at c0 c1
    simp only[Prod.mk.injEq] at hxy
    have hw:0≤z0∧z0≤255:=bounds_u8 w0
    refine⟨⟨z0,z1.data.toList⟩,hw,by simpa using c0,by simpa using c1,?_⟩
    rw[hxy.1,q0,q1]
    simp[Rows.uptoBulk,Rows.uptoBulkAll]
    omega
  have:Inhabited Mk:=⟨⟨0,[]⟩⟩
  obtain⟨f,hf⟩:=Go.Deep.choose_lt each
  have hlen:((List.range len).map f).length=len:=by simp
  refine⟨_,(List.range len).map f,hcs,.inr ⟨a,cap,by rw[hlen],by rw[hlen];exact hl,fun j u hj=>?_⟩,?_,?_⟩
  ·have hj':j<len * 2:=by
    have:=(List.getElem?_eq_some_iff.1 hj).1
    rw[Zgo,hlen] at this
    exact this
   obtain⟨h0,h1⟩:=Zgm ((List.range len).map f) (j / 2) (by rw[hlen];omega)
   obtain⟨_,g0,g1,_⟩:=hf (j / 2) (by omega)
   simp only[List.getElem_map,List.getElem_range] at h0 h1
   rcases (by omega:j=2 * (j / 2)∨j=2 * (j / 2)+1) with e | e
   ·rw[e,h0] at hj
    rw[e,Nat.mul_comm,g0,hj]
   ·rw[e,h1] at hj
    rw[e,Nat.mul_comm,g1,hj]
  ·rw[ZwY,Rows.uptoBulk]
   have:=Ztw D (fun i=>(f i).tx.length+1) len fun i hi=>(hf i hi).2.2.2
   omega
  ·intro c hc
   simp only[List.mem_map,List.mem_range] at hc
   obtain⟨i,hi,rfl⟩:=hc
   exact (hf i hi).1
theorem ZxQ {H:Type} {enc:TypeId × Value→H} {W:World} {fuel:Nat} {cs:List Value} {d:DataW H} {p:List MemPlace}
  (h:DataW.trod enc Tryz.prog W 0 (fun _=>true) true fuel 45 cs=some (d,p)) :
  ∃ (x:Hk) (y:Value),cs=hkC x y∧HMk W y x.ls∧mb x.ls+1≤Rows.uptoBulk d∧(w64 x.A∧w64 x.AN∧w64 x.B∧w64 x.BN)∧∀ m∈x.ls,0≤m.sg∧m.sg≤255:=by
 obtain⟨xs,k,hk,hxy,hlen,hxl,hf⟩:=DataW.trod_struct Tryz.underlying45 h
 rw[cellsHk] at hlen
 match xs,hxl,cs,hlen with
 | [y0,y1,y2,y3,y4],_,[v0,v1,v2,v3,v4],_ =>
  have g0:=hf 0 _ rfl
  have g1:=hf 1 _ rfl
  have g2:=hf 2 _ rfl
  have g3:=hf 3 _ rfl
  have g4:=hf 4 _ rfl
  simp[cellsInt,cellsMks] at g0 g1 g2 g3 g4
  obtain⟨z0,e0,q0,w0⟩:=DataW.trod_int Tryz.underlying3 g0
  obtain⟨z1,e1,q1,w1⟩:=DataW.trod_int Tryz.underlying3 g1
  obtain⟨z2,e2,q2,w2⟩:=DataW.trod_int Tryz.underlying3 g2
  obtain⟨z3,e3,q3,w3⟩:=DataW.trod_int Tryz.underlying3 g3
  obtain⟨y4d,y4p⟩:=y4
  obtain⟨v,l,e4,hm,hb,hs⟩:=ZxS g4
  cases e0
  cases e1
  cases e2
  cases e3
  cases e4
  simp only[Prod.mk.injEq] at hxy
  refine⟨⟨z0,z1,z2,z3,l⟩,v4,rfl,hm,?_,⟨ZsU w0,ZsU w1,ZsU w2,ZsU w3⟩,hs⟩
  rw[hxy.1,q0,q1,q2,q3]
  simp[Rows.uptoBulk,Rows.uptoBulkAll]
  omega
theorem ZxR {H:Type} {enc:TypeId × Value→H} {W:World} {fuel:Nat} {ao:Option Addr} {len cap:Nat} {d:DataW H} {p:List MemPlace}
  (h:DataW.trod enc Tryz.prog W 0 (fun _=>true) true fuel 40 [.slice ao len cap]=some (d,p)) :
  ∃ l:List (Hk × Value),HHp W (.slice ao len cap) l∧hbk (l.map (·.1))≤Rows.uptoBulk d∧∀ x∈l,(w64 x.1.A∧w64 x.1.AN∧w64 x.1.B∧w64 x.1.BN)∧∀ m∈x.1.ls,0≤m.sg∧m.sg≤255:=by
 rcases Go.Deep.open_slice Tryz.underlying40 h with ⟨hcs,hx⟩ | ⟨a,l,c,m,n,D,Pl,hcs,_,hl,hm,hmm,hx,hel⟩
 ·simp at hcs
  obtain⟨rfl,rfl,rfl⟩:=hcs
  exact⟨[],⟨.inl ⟨rfl,rfl,rfl⟩,by simp⟩,by simp[hbk],by simp⟩
 ·simp at hcs
  obtain⟨rfl,rfl,rfl⟩:=hcs
  simp only[Prod.mk.injEq] at hx
  obtain⟨rfl,_⟩:=hx
  have hlm:len≤m:=by rw[hmm];split<;>omega
  have each:∀ i,i<len→∃ c:Hk × Value,(∀ j,j<5→W.cell? (a.add (i * 5+j))=(hkC c.1 c.2)[j]?)∧HMk W c.2 c.1.ls∧mb c.1.ls+1≤Rows.uptoBulk (D i)∧(w64 c.1.A∧w64 c.1.AN∧w64 c.1.B∧w64 c.1.BN)∧∀ m∈c.1.ls,0≤m.sg∧m.sg≤255:=by
   intro i hi
   obtain⟨cs',h1,h2⟩:=hel i (by omega)
   rw[cellsHk] at h1
   obtain⟨_,hlen,hcell⟩:=World.cells?_some h1
   obtain⟨x,y,rfl,hm,hb,hw,hs⟩:=ZxQ h2
   refine⟨(x,y),fun j hj=>?_,hm,hb,hw,hs⟩
   have:=hcell j (by simpa [hkC] using hj)
   rw[Go.Deep.add_add] at this
   rw[this]
  have:Inhabited (Hk × Value):=⟨(⟨0,0,0,0,[]⟩,.slice none 0 0)⟩
  obtain⟨f,hf⟩:=Go.Deep.choose_lt each
  have hlen:((List.range len).map f).length=len:=by simp
  refine⟨(List.range len).map f,⟨.inr ⟨a,cap,by rw[hlen],by rw[hlen];exact hl,fun j u hj=>?_⟩,?_⟩,?_,?_⟩
  ·have hj':j<len * 5:=by
    have:=(List.getElem?_eq_some_iff.1 hj).1
    rw[Zej,hlen] at this
    exact this
   obtain⟨h0,h1,h2,h3,h4⟩:=Zei ((List.range len).map f) (j / 5) (by rw[hlen];omega)
   have hfj:=(hf (j / 5) (by omega)).1
   simp only[List.getElem_map,List.getElem_range] at h0 h1 h2 h3 h4
   rcases (by omega:j=5 * (j / 5)∨j=5 * (j / 5)+1∨j=5 * (j / 5)+2∨j=5 * (j / 5)+3∨j=5 * (j / 5)+4) with e | e | e | e | e
   ·rw[e,h0] at hj
    have:=hfj 0 (by omega)
    rw[e,Nat.mul_comm]
    rw[Nat.add_zero] at this
    rw[this,← hj]
    rfl
   ·rw[e,h1] at hj
    rw[e,Nat.mul_comm,hfj 1 (by omega),← hj]
    rfl
   ·rw[e,h2] at hj
    rw[e,Nat.mul_comm,hfj 2 (by omega),← hj]
    rfl
   ·rw[e,h3] at hj
    rw[e,Nat.mul_comm,hfj 3 (by omega),← hj]
    rfl
   ·rw[e,h4] at hj
    rw[e,Nat.mul_comm,hfj 4 (by omega),← hj]
    rfl
  ·intro x hx
   simp only[List.mem_map,List.mem_range] at hx
   obtain⟨i,hi,rfl⟩:=hx
   exact (hf i hi).2.1
  ·rw[List.map_map]
   have e:=ZvQ (fun i=>(f i).1) len
   have h2:=Ztw D (fun i=>mb (f i).1.ls+1) len fun i hi=>(hf i hi).2.2.1
   rw[Rows.uptoBulk]
   show hbk ((List.range len).map fun i=>(f i).1)≤_
   omega
  ·intro x hx
   simp only[List.mem_map,List.mem_range] at hx
   obtain⟨i,hi,rfl⟩:=hx
   exact (hf i hi).2.2.2
end

end Go.Proofs.YtcniomgjikienaaGreatDoor
