/-
  Texts that belong together, joined: HuIv, HuCn, HuOne, HuCh, HuGr, HuC7, EdReg, EdApp, EdSameS, EdRApp, HuC8, HuC9, HuMk, HuCa.
-/
import Derived.Test.YtgiojkhmkeocfaaGreatDoorNoalBA3
import Derived.Test.YtgiojkhmkeocfaaGreatDoorNoalBA2

set_option maxHeartbeats 16000000
set_option maxRecDepth 100000
/- The reference's Invert of layer 11, walked. -/
namespace Go.Proofs.YtgiojkhmkeocfaaGreatDoor
open Go.RowKit
theorem go_two {P:Program} {S:World→Prop} {md:Region.Mode} {ops:Array Oper} {Q:Exit→Act→World→Prop} {fuel:Nat} {listed:Array Bool} {A:Act} {w:World}
  (i d:Nat) (op:Oper) (j e:Nat) (oq:Oper) (hi:ops[i]?=some op) (hd:op.dst=some d) (hj:ops[j]?=some oq) (he:oq.dst=some e) (hr:Region.ready md ops listed=[i,j]) (hwt:Region.wanted op (yielded ops A.tmps)=true) (hwq:Region.wanted oq (yielded ops A.tmps)=true)
  (vp:Value) (wp:World) (hp:(execOp A.eval op).run P w=.ok (.value vp) wp) (hSp:S wp)
  (vq:Value) (wq:World) (hq:(execOp A.eval oq).run P w=.ok (.value vq) wq) (hSq:S wq)
  (h:wpAnyH P md ops Q S fuel (listed.setIfInBounds i true) (A.put (some d) vp) wp)
  (h2:wpAnyH P md ops Q S fuel (listed.setIfInBounds j true) (A.put (some e) vq) wq) :
  wpAnyH P md ops Q S (fuel+1) listed A w:=by
 refine wpAnyH_ready hr (by simp) (AllReadyH.cons hi (fun K hK=>?_) (AllReadyH.cons hj (fun K hK=>?_) AllReadyH.nil))
 ·refine step_want hwt ?_
  unfold Oper.wp
  rw[hp,Oper.upon_value]
  exact hK.out _ _ hSp (fun _=>by rw[hd];exact h)
 ·refine step_want hwq ?_
  unfold Oper.wp
  rw[hq,Oper.upon_value]
  exact hK.out _ _ hSq (fun _=>by rw[he];exact h2)
theorem exec_app {w w':World} {T:TypeId} {v vx v':Value} {op:Oper} (x y:Operand) (ho:op.op=.call { callee:=.builtin .append,args:=#[x,y],argTypes:=#[T,T] }) {ev:Operand→Value} (hx:ev x=v) (hy:ev y=vx) (hr:(Builtin.append_ #[T,T] op.type #[v,vx]).run Tryz.prog w=.ok v' w') :
  (execOp ev op).run Tryz.prog w=.ok (.value v') w':=by
 simp[execOp,ho,resolve,invoke,builtin,hx,hy,hr,Result.andThen]
structure Iv (w:World) (q:Hk) (ov:Value) (x:List Mk) (av:Value) (y:List Mk) (u:World):Prop where
 low:Below w.heap.size w u
 box:Hx u w.heap.size q ov
 own:u.ownsRow (w.heap.size+1) 103 2 ov x.length (mkcells x)
 add:u.ownsRow (w.heap.size+1) 103 2 av y.length (mkcells y)
 ne:∀ g,ov.ownBlock=some g→av.ownBlock≠some g
section
variable {w:World} {q:Hk} {ov ov' av av':Value} {x x' y y':List Mk} {u u':World}
theorem Iv.alloc (h:Iv w q ov x av y u) (o:Obj):Iv w q ov x av y (u.alloc o) :=
 ⟨h.low.alloc h.low.size o,h.box.low ((Below.refl _ u).alloc (Nat.le_refl _) o),h.own.alloc o,h.add.alloc o,h.ne⟩
theorem Iv.drewN (h:Iv w q ov x av y u) (n:Nat):Iv w q ov x av y (u.drewN n):=⟨Below.dN h.low n,h.box,h.own,h.add,h.ne⟩
theorem own_kept {e:TypeId} {s B:Nat} {v:Value} {n:Nat} {xs:List Value} (ho:u.ownsRow B e s v n xs) {g:Option Nat} (hg:u.grownBy u' g) (hne:∀ k,g=some k→v.ownBlock≠some k):u'.ownsRow B e s v n xs:=by
 refine⟨ho.1,?_⟩
 rcases ho.2 with q | ⟨b,cap,cur,rfl,q2,q3,q4⟩
 ·exact .inl q
 ·refine .inr ⟨b,cap,cur,rfl,q2,?_,q4⟩
  rw[hg.block b (Array.getElem?_eq_some_iff.1 q3).1 (fun e=>hne b e.symm rfl)]
  exact q3
theorem Hx.put5 {b:Nat} {h:Hk} {v:Value} (p:Hx u b h v) (z0 z1 z2 z3 z4:Value):(((((u.setCell ⟨b,0,none⟩ z0).setCell ⟨b,1,none⟩ z1).setCell ⟨b,2,none⟩ z2).setCell ⟨b,3,none⟩ z3).setCell ⟨b,4,none⟩ z4).heap[b]?=some (.cells #[z0,z1,z2,z3,z4] 59 (0,0)):=by
 have s1:=heap_setCell_same u b 0 _ _ z0 p
 have s2:=heap_setCell_same _ b 1 _ _ z1 s1
 have s3:=heap_setCell_same _ b 2 _ _ z2 s2
 have s4:=heap_setCell_same _ b 3 _ _ z3 s3
 exact heap_setCell_same _ b 4 _ _ z4 s4
theorem own_base {e:TypeId} {s B B':Nat} {v:Value} {n:Nat} {xs:List Value} (ho:u.ownsRow B e s v n xs) (hB:B'≤B):u.ownsRow B' e s v n xs:=by
 refine⟨ho.1,?_⟩
 rcases ho.2 with q | ⟨b,cap,cur,rfl,q2,q3,q4⟩
 ·exact .inl q
 ·exact .inr ⟨b,cap,cur,rfl,by omega,q3,q4⟩
theorem Iv.none (h:Iv w q ov x av y u):Iv w q ov x (.slice none 0 0) [] u:=⟨h.low,h.box,h.own,hnil_row _ _ _ _,fun g _ e=>by cases e⟩
end
theorem mk_row (w:World) (m:Mk):Holds (w.alloc (mkO m)) (.slice (some ⟨w.heap.size,0,none⟩) 1 1) 1 (mkcells [m]):=new_holds w #[.int .u8 m.sg,.string ⟨m.tx.toArray⟩] 103 1 1 (by decide)
end Go.Proofs.YtgiojkhmkeocfaaGreatDoor

/- The reference's count of layer 11, walked. -/
namespace Go.Proofs.YtgiojkhmkeocfaaGreatDoor
open Go.RowKit
section
variable {u:World} {b:Nat} {A AN B BN:Int} {ls:List Mk} {v:Value}
theorem Hx.setA (q:Hx u b ⟨A,AN,B,BN,ls⟩ v) (z:Int):Hx (u.setCell ⟨b,0,none⟩ (.int .i64 z)) b ⟨z,AN,B,BN,ls⟩ v:=heap_setCell_same u b 0 _ _ _ q
theorem Hx.setAN (q:Hx u b ⟨A,AN,B,BN,ls⟩ v) (z:Int):Hx (u.setCell ⟨b,1,none⟩ (.int .i64 z)) b ⟨A,z,B,BN,ls⟩ v:=heap_setCell_same u b 1 _ _ _ q
theorem Hx.setB (q:Hx u b ⟨A,AN,B,BN,ls⟩ v) (z:Int):Hx (u.setCell ⟨b,2,none⟩ (.int .i64 z)) b ⟨A,AN,z,BN,ls⟩ v:=heap_setCell_same u b 2 _ _ _ q
theorem Hx.setBN (q:Hx u b ⟨A,AN,B,BN,ls⟩ v) (z:Int):Hx (u.setCell ⟨b,3,none⟩ (.int .i64 z)) b ⟨A,AN,B,z,ls⟩ v:=heap_setCell_same u b 3 _ _ _ q
theorem Hx.other (q:Hx u b ⟨A,AN,B,BN,ls⟩ v) {g:Nat} (hg:b≠g) (j:Nat) (z:Value):Hx (u.setCell ⟨g,j,none⟩ z) b ⟨A,AN,B,BN,ls⟩ v:=q.keep (grown_set u g j z) (fun e=>hg (Option.some.inj e))
end
end Go.Proofs.YtgiojkhmkeocfaaGreatDoor

/- The reference's one of layer 11, walked. -/
namespace Go.Proofs.YtgiojkhmkeocfaaGreatDoor
open Go.RowKit
def chO (c:Ch):Obj:=.cells #[.int .i64 c.A,.int .i64 c.AN,.int .i64 c.B,.int .i64 c.BN] 64
def Cx (u:World) (b:Nat) (c:Ch):Prop:=u.heap[b]?=some (chO c)
section
variable {u u':World} {b:Nat} {c:Ch}
theorem Cx.cells (q:Cx u b c):u.cell? ⟨b,0,none⟩=some (.int .i64 c.A)∧u.cell? ⟨b,1,none⟩=some (.int .i64 c.AN)∧u.cell? ⟨b,2,none⟩=some (.int .i64 c.B)∧u.cell? ⟨b,3,none⟩=some (.int .i64 c.BN):=by
 unfold Cx chO at q
 refine⟨?_,?_,?_,?_⟩<;>rw[Lib.cell_of_heap q]<;>rfl
theorem Cx.lt (q:Cx u b c):b<u.heap.size:=(Array.getElem?_eq_some_iff.1 q).1
theorem Cx.low (q:Cx u b c) (hg:Below u.heap.size u u'):Cx u' b c:=(hg.block b q.lt).trans q
theorem Cx.new (w:World) (c:Ch):Cx (w.alloc (chO c)) w.heap.size c:=_root_.Go.heap_alloc_new w _
end
def ChAt (u:World) (b o:Nat) (x:Ch):Prop:=u.cell? ⟨b,o,none⟩=some (.int .i64 x.A)∧u.cell? ⟨b,o+1,none⟩=some (.int .i64 x.AN)∧u.cell? ⟨b,o+2,none⟩=some (.int .i64 x.B)∧u.cell? ⟨b,o+3,none⟩=some (.int .i64 x.BN)
theorem hcell_keep {u u':World} (hB:Low u u') {q:Addr} {z:Value} (hz:u.cell? q=some z):u'.cell? q=some z:=(World.cell?_of_block (w:=u) (Below.block hB _ (World.block_lt_of_cell? _ _ hz))).trans hz
theorem ChAt.low {u u':World} {b o:Nat} {x:Ch} (h:ChAt u b o x) (hB:Low u u'):ChAt u' b o x:=⟨hcell_keep hB h.1,hcell_keep hB h.2.1,hcell_keep hB h.2.2.1,hcell_keep hB h.2.2.2⟩
theorem load_chR {u:World} {b o:Nat} {h:Ch} (q:ChAt u b o h) {op:Oper} (x:Operand) (ho:op.op=.load 64 x) {ev:Operand→Value} (hx:ev x=.pointer (some ⟨b,o,none⟩)) :
  (execOp ev op).run Tryz.prog u=.ok (.value (chV h)) u:=by
 obtain⟨d0,d1,d2,d3⟩:=q
 unfold chV
 simp only[execOp,ho,hx]
 go_simp
theorem Cx.keep {u u':World} {b:Nat} {c:Ch} (q:Cx u b c) {g:Option Nat} (hg:u.grownBy u' g) (hr:some b≠g):Cx u' b c:=(hg.block b q.lt hr).trans q
theorem mks_cons (s:Int) (t:List UInt8) (x:List (List UInt8)):mks s (t::x)=⟨s,t⟩::mks s x:=rfl
end Go.Proofs.YtgiojkhmkeocfaaGreatDoor

/- The reference's Changes of layer 11, walked. -/
namespace Go.Proofs.YtgiojkhmkeocfaaGreatDoor
open Go.RowKit
def Hhd:List Ch→Prop
 | []=>True
 | c::_=>(-1≤c.A∧0≤c.AN∧c.A+c.AN≤4398046511104)∧-1≤c.B∧0≤c.BN∧c.B+c.BN≤4398046511104
def tot:List Hk→Nat
 | []=>0
 | h::l=>h.ls.length+tot l
def bch (r:List Ch):List Value:=chcells r.reverse
theorem bch_cons (c:Ch) (r:List Ch):bch (c::r)=bch r++chC c:=by simp[bch,chcells]
theorem bch_length (r:List Ch):(bch r).length=r.length * 4:=by simp[bch,chcells_length]
theorem bch_at (c:Ch) (r:List Ch):(bch (c::r))[r.length * 4]?=some (.int .i64 c.A)∧(bch (c::r))[r.length * 4+1]?=some (.int .i64 c.AN)∧(bch (c::r))[r.length * 4+2]?=some (.int .i64 c.B)∧(bch (c::r))[r.length * 4+3]?=some (.int .i64 c.BN):=by
 have hl:=bch_length r
 rw[bch_cons]
 refine⟨?_,?_,?_,?_⟩<;>rw[List.getElem?_append_right (by omega)]<;>simp[hl,chC]
theorem bch_setA (c:Ch) (r:List Ch) (z:Int):(bch (c::r)).set (r.length * 4+1) (.int .i64 z)=bch (⟨c.A,z,c.B,c.BN⟩::r):=by
 have hl:=bch_length r
 rw[bch_cons,bch_cons,List.set_append_right _ _ (by omega)]
 simp[hl,chC]
theorem bch_setB (c:Ch) (r:List Ch) (z:Int):(bch (c::r)).set (r.length * 4+3) (.int .i64 z)=bch (⟨c.A,c.AN,c.B,z⟩::r):=by
 have hl:=bch_length r
 rw[bch_cons,bch_cons,List.set_append_right _ _ (by omega)]
 simp[hl,chC]
theorem hown_at {u:World} {B:Nat} {e:TypeId} {s:Nat} {oo:Option Addr} {n oc:Nat} {xs:List Value} (h:u.ownsRow B e s (.slice oo (n+1) oc) (n+1) xs):∃ g,oo=some ⟨g,0,none⟩:=by
 rcases h.2 with ⟨_,h0⟩ | ⟨g,cap,cur,e,_⟩
 ·omega
 ·cases e
  exact⟨g,rfl⟩
theorem opn_head (a b:Int) (r:List Ch):∃ c t,opn a b r=c::t∧c.A+c.AN=a∧c.B+c.BN=b:=by
 unfold opn
 cases r with
 | nil=>exact⟨_,_,rfl,by simp,by simp⟩
 | cons c r =>
  by_cases h:endsAt a b (c::r)=true
  ·rw[if_pos h]
   simp only[endsAt,Bool.and_eq_true,decide_eq_true_eq] at h
   exact⟨c,r,rfl,h.1,h.2⟩
  ·rw[if_neg h]
   exact⟨_,_,rfl,by simp,by simp⟩
end Go.Proofs.YtgiojkhmkeocfaaGreatDoor

/- The reference's Group of layer 11, walked. -/
namespace Go.Proofs.YtgiojkhmkeocfaaGreatDoor
open Go.RowKit
theorem infoCs:(Tryz.prog.info? 25).map (fun i=>(i.zero,i.size,i.bytes))=some (some (.slice none 0 0),1,24):=by kernel_rfl
structure Gr (w:World) (ov:Value) (G:List (List Ch × Value)) (u:World):Prop where
 low:Below w.heap.size w u
 own:u.ownsRow w.heap.size 25 1 ov G.length (G.map (·.2))
 ins:∀ x∈G,u.ownsRow w.heap.size 64 4 x.2 x.1.length (chcells x.1)
def Lst (G:List (List Ch × Value)):Prop:=∀ P x,G=P++[x]→∀ y∈P,∀ b,x.2.ownBlock=some b→y.2.ownBlock≠some b
section
variable {w u u':World} {ov ov':Value} {G P:List (List Ch × Value)}
theorem Gr.nil (w:World):Gr w (.slice none 0 0) [] w:=⟨Below.refl _ _,hnil_row _ _ _ _,fun _ h=>by cases h⟩
theorem Gr.alloc (h:Gr w ov G u) (o:Obj):Gr w ov G (u.alloc o):=⟨h.low.alloc h.low.size o,h.own.alloc o,fun x hx=>(h.ins x hx).alloc o⟩
theorem Gr.drewN (h:Gr w ov G u) (n:Nat):Gr w ov G (u.drewN n):=⟨Below.dN h.low n,h.own,h.ins⟩
theorem Gr.keep (h:Gr w ov G u) (hk:Below u.heap.size u u'):Gr w ov G u':=⟨h.low.trans (hk.mono h.low.size),owns_keep h.own hk,fun x hx=>owns_keep (h.ins x hx) hk⟩
theorem Gr.more (h:Gr w ov G u) {g:List Ch} {gv:Value} (hgv:u.ownsRow w.heap.size 64 4 gv g.length (chcells g)) (hg:u.grownBy u' ov.ownBlock) (ho:u'.ownsRow w.heap.size 25 1 ov' (G.length+1) (G.map (·.2)++[gv])):Gr w ov' (G++[(g,gv)]) u':=by
 have key:∀ {v:Value} {n:Nat} {xs:List Value},u.ownsRow w.heap.size 64 4 v n xs→u'.ownsRow w.heap.size 64 4 v n xs:=fun hv=>own_kept hv hg (fun k hk=>own_ne h.own hv (by decide) hk)
 refine⟨h.low.grown hg h.low.size (fun j hj=>owns_ge h.own hj),?_,fun z hz=>?_⟩
 ·rw[List.length_append,List.map_append]
  exact ho
 ·rcases List.mem_append.1 hz with hz | hz
  ·exact key (h.ins z hz)
  ·rw[List.mem_singleton.1 hz]
   exact key hgv
theorem Gr.last {g g':List Ch} {gv gv':Value} (h:Gr w ov (P++[(g,gv)]) u) (hL:Lst (P++[(g,gv)])) (hg:u.grownBy u' gv.ownBlock) (ho:u'.ownsRow w.heap.size 64 4 gv' g'.length (chcells g')) (hb:gv'.ownBlock=gv.ownBlock∨gv'.ownBlock=some u.heap.size) :
  ∃ q cap,ov=.slice (some ⟨q,0,none⟩) (P.length+1) cap∧u'.cell? ⟨q,P.length,none⟩=some gv∧u'.frozen? ⟨q,P.length,none⟩=false∧Gr w ov (P++[(g',gv')]) (u'.setCell ⟨q,P.length,none⟩ gv')∧Lst (P++[(g',gv')]):=by
 have hown:=h.own
 rw[List.length_append,List.length_singleton] at hown
 have hgl:=h.ins (g,gv) (by simp)
 obtain⟨oo,oc,hov⟩:=(holds_of hown).form
 subst hov
 obtain⟨q,rfl⟩:=hown_at hown
 have hown':=own_kept hown hg (fun k hk=>own_ne hgl hown (by decide) hk)
 have hst:=hown'.stored P.length gv'
 have hset:((P++[(g,gv)]).map (·.2)).set P.length gv'=(P++[(g',gv')]).map (·.2):=by simp
 rw[hset] at hst
 have hlow:Below w.heap.size w u':=h.low.grown hg h.low.size (fun j hj=>owns_ge hgl hj)
 refine⟨q,oc,rfl,?_,hown'.frozenAt _,⟨hlow.grown hst.2 hlow.size (fun j hj=>by cases hj;exact owns_ge hown rfl),?_,?_⟩,?_⟩
 ·rw[hown'.cellAt P.length (by omega)]
  simp
 ·rw[List.length_append,List.length_singleton]
  exact hst.1
 ·intro x hx
  have hqx:∀ {v:Value} {n:Nat} {xs:List Value},u'.ownsRow w.heap.size 64 4 v n xs→(u'.setCell ⟨q,P.length,none⟩ gv').ownsRow w.heap.size 64 4 v n xs:=fun hv=>own_kept hv hst.2 (fun k hk=>own_ne hown' hv (by decide) hk)
  rcases List.mem_append.1 hx with hx | hx
  ·exact hqx (own_kept (h.ins x (List.mem_append_left _ hx)) hg (fun k hk=>hL P (g,gv) rfl x hx k hk))
  ·rw[List.mem_singleton.1 hx]
   exact hqx ho
 ·intro P' x' he y hy b' hb'
  have he2:=List.append_inj' he rfl
  obtain⟨rfl,hx'⟩:=he2
  have hx2:(g',gv')=x':=by simpa using hx'
  subst hx2
  rcases hb with hb | hb
  ·rw[hb] at hb'
   exact hL P (g,gv) rfl y hy b' hb'
  ·rw[hb] at hb'
   cases hb'
   intro e
   have:=own_lt (h.ins y (List.mem_append_left _ hy)) e
   omega
end
theorem right_nums {fl:Bool} {p q n m:Int} {l:List Ch} (h:Right fl p q n m l):∀ c∈l,numB c=true:=by
 induction l generalizing fl p q with
 | nil=>intro c hc;cases hc
 | cons d l ih =>
  intro c hc
  rcases List.mem_cons.1 hc with rfl | hc
  ·exact h.1.1
  ·exact ih h.2 c hc
theorem load_chs {u:World} {a:Addr} {o:Option Addr} {n c:Nat} (h:u.cell? a=some (.slice o n c)) {op:Oper} (x:Operand) (ho:op.op=.load 25 x) {ev:Operand→Value} (hx:ev x=.pointer (some a)) :
  (execOp ev op).run Tryz.prog u=.ok (.value (.slice o n c)) u:=by
 simp only[execOp,ho,hx]
 go_simp
theorem exec_storeG {u:World} {b j:Nat} (hf:u.frozen? ⟨b,j,none⟩=false) {o n c} (hc:u.cell? ⟨b,j,none⟩=some (.slice o n c)) {o' n' c'} {op:Oper} (x y:Operand) (ho:op.op=.store 25 x y) {ev:Operand→Value} (hx:ev x=.pointer (some ⟨b,j,none⟩)) (hy:ev y=.slice o' n' c') :
  (execOp ev op).run Tryz.prog u=.ok .skip (u.setCell ⟨b,j,none⟩ (.slice o' n' c')):=by
 simp only[execOp,ho,hx,hy]
 go_simp
theorem ch_row (w:World) (c:Ch):Holds (w.alloc (chO c)) (.slice (some ⟨w.heap.size,0,none⟩) 1 1) 1 (chcells [c]):=new_holds w #[.int .i64 c.A,.int .i64 c.AN,.int .i64 c.B,.int .i64 c.BN] 64 1 1 (by decide)
theorem map_split {G:List (List Ch × Value)} {gs:List (List Ch)} {g:List Ch} (h:G.map (·.1)=gs++[g]):∃ P gv,G=P++[(g,gv)]∧P.map (·.1)=gs:=by
 rcases List.eq_nil_or_concat G with rfl | ⟨P,x,rfl⟩
 ·have:=congrArg List.length h
  simp at this
 ·rw[List.concat_eq_append] at h ⊢
  rw[List.map_append] at h
  have h2:=List.append_inj' h rfl
  obtain⟨gx,gv⟩:=x
  have h3:gx=g:=by simpa using h2.2
  subst h3
  exact⟨P,gv,rfl,h2.1⟩
def nrB (ctx:Int) (l:List Ch) (i:Nat) (d:Ch):Bool:=match (l.take i).getLast? with
 | none=>false
 | some c=>decide (d.A-c.A-c.AN≤2 * ctx)
theorem last_take {l:List Ch} {j:Nat} (hj:j<l.length):(l.take (j+1)).getLast?=some l[j]:=by
 rw[List.take_succ_eq_append_getElem hj,List.getLast?_append]
 simp
theorem grp_take {ctx:Int} {l:List Ch} {i:Nat} (hi:i<l.length):(nrB ctx l i l[i]=true→∃ gs gl,grp ctx (l.take i)=gs++[gl]∧grp ctx (l.take (i+1))=gs++[gl++[l[i]]])∧(nrB ctx l i l[i]=false→grp ctx (l.take (i+1))=grp ctx (l.take i)++[[l[i]]]):=by
 cases i with
 | zero =>
  refine⟨fun h=>by simp[nrB] at h,fun _=>?_⟩
  rw[List.take_succ_eq_append_getElem hi]
  rfl
 | succ j =>
  have e1:l.take (j+1)=l.take j++[l[j]]:=List.take_succ_eq_append_getElem (by omega)
  have e2:l.take (j+1+1)=l.take j++[l[j]]++[l[j+1]]:=by rw[List.take_succ_eq_append_getElem hi,e1]
  obtain⟨gs,g,h1,h2⟩:=grp_snoc ctx (l.take j) l[j] l[j+1]
  have hn:nrB ctx l (j+1) l[j+1]=decide (l[j+1].A-l[j].A-l[j].AN≤2 * ctx):=by
   unfold nrB
   rw[last_take (by omega)]
  rw[hn,e1,e2,h1,h2]
  refine⟨fun h=>?_,fun h=>?_⟩
  ·rw[if_pos (of_decide_eq_true h)]
   exact⟨gs,g++[l[j]],rfl,rfl⟩
  ·rw[if_neg (of_decide_eq_false h)]
end Go.Proofs.YtgiojkhmkeocfaaGreatDoor

/- The code's Group of layer 11, walked. -/
namespace Go.Proofs.YtgiojkhmkeocfaaGreatDoor
open Go.RowKit
def Apt (G:List (List Ch × Value)):Prop:=G.Pairwise fun x y=>∀ b,x.2.ownBlock=some b→y.2.ownBlock≠some b
theorem apt_lst {G:List (List Ch × Value)} (h:Apt G):Lst G:=by
 intro P x he y hy b hb e
 subst he
 exact (List.pairwise_append.1 h).2.2 y hy x (by simp) b e hb
theorem apt_more {G:List (List Ch × Value)} (h:Apt G) (g:List Ch):Apt (G++[(g,.slice none 0 0)]):=by
 refine List.pairwise_append.2 ⟨h,List.pairwise_singleton _ _,?_⟩
 intro x _ y hy b _ e
 rw[List.mem_singleton.1 hy] at e
 cases e
theorem apt_last {P:List (List Ch × Value)} {g g':List Ch} {gv gv':Value} (h:Apt (P++[(g,gv)])) {w u:World} {ov:Value} (hG:Gr w ov (P++[(g,gv)]) u) (hb:gv'.ownBlock=gv.ownBlock∨gv'.ownBlock=some u.heap.size):Apt (P++[(g',gv')]):=by
 obtain⟨h1,_,h3⟩:=List.pairwise_append.1 h
 refine List.pairwise_append.2 ⟨h1,List.pairwise_singleton _ _,?_⟩
 intro x hx y hy b hxb e
 rw[List.mem_singleton.1 hy] at e
 dsimp only at e
 rcases hb with hb | hb
 ·rw[hb] at e
  exact h3 x hx (g,gv) (by simp) b hxb e
 ·rw[hb] at e
  cases e
  have:=own_lt (hG.ins x (List.mem_append_left _ hx)) hxb
  omega
theorem cx_ne {u:World} {b:Nat} {d:Ch} (h:Cx u b d) {B s n:Nat} {v:Value} {xs:List Value} (ho:u.ownsRow B 25 s v n xs):v.ownBlock≠some b:=by
 intro e
 rcases ho.2 with ⟨rfl,_⟩ | ⟨g,cap,cur,rfl,_,hg,_⟩
 ·cases e
 ·simp only[Value.ownBlock,Option.some.injEq] at e
  subst e
  unfold Cx chO at h
  rw[h] at hg
  simp at hg
theorem exec_nil {u:World} {a:Addr} {op:Oper} (x:Operand) (ho:op.op=.nilCheck x) {ev:Operand→Value} (hx:ev x=.pointer (some a)):(execOp ev op).run Tryz.prog u=.ok (.value (.pointer (some a))) u:=by
 simp only[execOp,ho,hx]
 go_simp
def enL (l:List Ch) (i:Nat):Int:=match (l.take i).getLast? with
 | none=>0
 | some c=>c.A+c.AN
theorem enL_succ {l:List Ch} {i:Nat} (hi:i<l.length):enL l (i+1)=l[i].A+l[i].AN:=by
 unfold enL
 rw[last_take hi]
theorem nr_en {l:List Ch} {i:Nat} (hi:i<l.length) {ctx:Int} {d:Ch}:nrB ctx l i d=(decide (0<i) && decide (d.A-enL l i≤2 * ctx)):=by
 cases i with
 | zero=>rfl
 | succ j =>
  unfold nrB enL
  rw[last_take (by omega),decide_eq_true (Nat.succ_pos j),Bool.true_and]
  dsimp only
  rw[show d.A-(l[j].A+l[j].AN)=d.A-l[j].A-l[j].AN by omega]
theorem enL_num {l:List Ch} (h:∀ c∈l,numB c=true) {i:Nat} (hi:i≤l.length):0≤enL l i∧enL l i≤4294967296:=by
 cases i with
 | zero=>exact⟨by unfold enL;simp,by unfold enL;simp⟩
 | succ j =>
  rw[enL_succ (by omega)]
  have:=(numB_iff l[j]).1 (h _ (List.getElem_mem _))
  omega
theorem nil_row1 (w:World):Holds (w.alloc (.cells #[.slice none 0 0] 25)) (.slice (some ⟨w.heap.size,0,none⟩) 1 1) 1 [.slice none 0 0]:=new_holds w #[.slice none 0 0] 25 1 1 (by decide)
theorem hGroup_f (l:List Ch) (n m ctx:Int) (v:Value) (w:World) (hv:HCh w v l) (hl:l.length≤1099511627776) (hn:n≤9223372036854775807) (hm:m≤9223372036854775807) (z:Int) (HZ:Hid (grpE l n m ctx=z)) (R:List (List Ch)) (HR:Hid (grpR l n m ctx=R)):Calls Tryz.prog 43 #[v,.int .i64 n,.int .i64 m,.int .i64 ctx] w fun e w'=>∃ v' G,e=.returned (.tuple #[v',.int .i64 z])∧Gr w v' G w'∧Apt G∧G.map (·.1)=R:=by
 obtain⟨vo,lc,rfl⟩:=Holds.form hv
 obtain⟨ck,hck⟩:∃ c,chk l n m=c:=⟨_,rfl⟩
 have HCK:Hid (chk l n m=ck):=hck
 clear hck
 go_enter Tryz.func43,Tryz.ntmps43
 go_wp2_with fail
 refine (Check_f l n m ck _ w hv hl hn hm HCK).mono ?_
 rintro e W ⟨rfl,hBW⟩
 by_cases hc0:ck=0
 ·subst hc0
  by_cases hx1:ctx<0
  ·have HE:Hid (z=2):=(by
    show _=_
    rw[← HZ.out]
    unfold grpE
    rw[HCK.out]
    simp[hx1])
   have HRN:Hid (R=[]):=(by
    show _=_
    rw[← HR.out]
    unfold grpR
    rw[HZ.out,HE.out,if_neg (by decide)])
   clear HZ HR HCK
   go_wp2
   go_ret2
   rw[HE.out,HRN.out]
   exact⟨_,[],rfl,⟨hBW,hnil_row _ _ _ _,fun _ h=>by cases h⟩,List.Pairwise.nil,rfl⟩
  ·have ex1:decide (ctx<0)=false:=decide_eq_false hx1
   by_cases hx2:100<ctx
   ·have HE:Hid (z=2):=(by
     show _=_
     rw[← HZ.out]
     unfold grpE
     rw[HCK.out]
     simp[hx2])
    have HRN:Hid (R=[]):=(by
     show _=_
     rw[← HR.out]
     unfold grpR
     rw[HZ.out,HE.out,if_neg (by decide)])
    clear HZ HR HCK
    go_wp2
    go_ret2
    rw[HE.out,HRN.out]
    exact⟨_,[],rfl,⟨hBW,hnil_row _ _ _ _,fun _ h=>by cases h⟩,List.Pairwise.nil,rfl⟩
   ·have ex2:decide (100<ctx)=false:=decide_eq_false hx2
    have HZ0:Hid (z=0):=(by
     show _=_
     rw[← HZ.out]
     unfold grpE
     rw[HCK.out]
     simp[hx1,hx2])
    have HR2:Hid (grp ctx l=R):=(by
     show _=_
     rw[← HR.out]
     unfold grpR
     rw[HZ.out,HZ0.out,if_pos rfl])
    have HNB:Hid (∀ c∈l,numB c=true):=(by
     have h:Script l n m:=(by
      have h:=HCK.out
      by_cases hq:Script l n m
      ·exact hq
      ·rw[chk_no hq] at h;cases h)
     exact right_nums h.2.2)
    obtain rfl:z=0:=HZ0.out
    clear HZ HR HCK HZ0
    go_wp2
    go_loopw [11,12,31] (fun ov ev iv wr=>∃ (i:Nat) (G:List (List Ch × Value)) (E:Int),i≤l.length∧ev=.int .i64 E∧iv=.int .i64 (i:Int)∧(∃ oo oc,ov=.slice oo G.length oc)∧G.length≤i∧Gr w ov G wr∧Hid (Apt G)∧Hid (G.map (·.1)=grp ctx (l.take i))∧Hid (enL l i=E)) (fun _ _ iv _=>l.length-(intOf iv).toNat)
    case atStart=>exact⟨0,[],0,Nat.zero_le _,by go_num,by go_num,⟨_,_,rfl⟩,Nat.le_refl _,⟨hBW,hnil_row _ _ _ _,fun _ h=>by cases h⟩,List.Pairwise.nil,rfl,rfl⟩
    case round =>
     obtain⟨i,G,E,hi,rfl,rfl,⟨oo,oc,rfl⟩,hGi,hS,HAP,HI,HEL⟩:=hrel
     by_cases hlt:i<l.length
     ·obtain⟨lb,lf,rfl,_,_⟩:=HCh.at hv (by omega)
      obtain⟨d,hd⟩:∃ d,l[i]=d:=⟨_,rfl⟩
      have hgA:ChAt wr lb (lf+i * 4) d:=(by
       obtain⟨b',off',e,_,hc'⟩:=HCh.at (HCh.keep hv hS.low (Nat.le_refl _)) (by omega)
       cases e
       have h:=hc' i hlt
       rw[hd] at h
       exact h)
      have hnd:=(numB_iff d).1 (HNB.out d (by rw[← hd];exact List.getElem_mem hlt))
      have hEb:=enL_num HNB.out hi
      rw[HEL.out] at hEb
      have HEN:Hid (enL l (i+1)=d.A+d.AN):=(by show _=_;rw[enL_succ hlt,hd])
      obtain⟨nr,hnr⟩:∃ nr,nrB ctx l i d=nr:=⟨_,rfl⟩
      have HNR:Hid (nrB ctx l i d=nr):=hnr
      have HNE:Hid ((decide (0<i) && decide (d.A-E≤2 * ctx))=nr):=(by show _=_;rw[← hnr,nr_en hlt,HEL.out])
      have hgt:=grp_take (ctx:=ctx) hlt
      rw[hd] at hgt
      have HGT:Hid ((nrB ctx l i d=true→∃ gs gl,grp ctx (l.take i)=gs++[gl]∧grp ctx (l.take (i+1))=gs++[gl++[d]])∧(nrB ctx l i d=false→grp ctx (l.take (i+1))=grp ctx (l.take i)++[[d]])):=hgt
      have i1:0≤(i:Int):=by omega
      have i2:(i:Int)<(l.length:Int):=by omega
      obtain⟨d0,d1,d2,d3⟩:=hgA
      have hbc:=Cx.new wr d
      obtain⟨x0,x1,x2,x3⟩:=hbc.cells
      have hS1:=hS.alloc (chO d)
      have hsz0:=hS.low.size
      have HSX:Hid ((wr.alloc (chO d)).heap.size=wr.heap.size+1):=(by show _=_;simp)
      have hW:wr.alloc (Obj.cells #[Value.int IntKind.i64 d.A,Value.int IntKind.i64 d.AN,Value.int IntKind.i64 d.B,Value.int IntKind.i64 d.BN] 64)=wr.alloc (chO d):=rfl
      have HIB:Hid (∀ x∈G,∀ j,x.2.ownBlock=some j→j<wr.heap.size):=fun x hx j hj=>own_lt (hS.ins x hx) hj
      clear hnr hgt HEL hS
      generalize hwr1:wr.alloc (chO d)=wr1 at *
      go_upto_region 11 with fail
      clear hW d0 d1 d2 d3
      generalize hbC:wr.heap.size=bc at *
      go_cut [46] from 32 to 68 (fun c wz=>c=.bool (!nr)∧wr1=wz)
      case first =>
       by_cases hi0:i=0
       ·have e1:((i:Int) == 0)=true:=(by rw[beq_iff_eq];omega)
        obtain rfl:nr=false:=(by rw[← HNE.out,hi0];rfl)
        clear HI HNR HGT HNE hi0
        go_wp2_with fail
        go_meet
        case rel=>exact⟨rfl,rfl⟩
       ·have e1:((i:Int) == 0)=false:=(by rw[beq_eq_false_iff_ne];omega)
        have hne:=HNE.out
        rw[decide_eq_true (by omega:0<i),Bool.true_and] at hne
        have e2:decide (2 * ctx<d.A-E)=!nr:=(by
         rw[← hne]
         by_cases hq:d.A-E≤2 * ctx
         ·rw[decide_eq_true hq,decide_eq_false (by omega)];rfl
         ·rw[decide_eq_false hq,decide_eq_true (by omega)];rfl)
        clear HI HNR HGT HNE hi0 hne
        go_wp2_with fail
        go_meet
        case rel=>exact⟨rfl,rfl⟩
      case rest =>
      obtain⟨rfl,rfl⟩:=hcut
      go_upto_if 46 with fail
      go_cut [11] from 32 to 68 (fun ov wz=>∃ (P:List (List Ch × Value)) (gl:List Ch) (gv:Value) (oo:Option Addr) (oc:Nat),ov=.slice oo (P.length+1) oc∧P.length≤i∧gl.length≤l.length∧Gr w ov (P++[(gl,gv)]) wz∧Cx wz bc d∧Hid (gv.ownBlock≠some bc)∧Hid (Apt (P++[(gl,gv)]))∧Hid (P.map (·.1)++[gl++[d]]=grp ctx (l.take (i+1))))
      case first =>
       cases nr with
       | true =>
        obtain⟨gs,gl,hg1,hg2⟩:=HGT.out.1 HNR.out
        have hI:=HI.out
        rw[hg1] at hI
        obtain⟨P,gv,rfl,hPm⟩:=map_split hI
        have hgll:gl.length≤l.length:=(by
         have hf:=grp_flatten ctx (l.take i)
         rw[hg1] at hf
         have:=congrArg List.length hf
         simp at this
         omega)
        have HN:Hid (P.map (·.1)++[gl++[d]]=grp ctx (l.take (i+1))):=(by show _=_;rw[hg2,hPm])
        have eP:(P++[(gl,gv)]).length=P.length+1:=by simp
        have hPl:P.length≤i:=by rw[eP] at hGi;omega
        rw[eP] at hS1 ⊢
        clear HI HNR HGT hg1 hg2 hI hPm HNE hGi eP
        go_wp2_with fail
        go_meet
        case rel=>exact⟨P,gl,gv,_,_,rfl,hPl,hgll,hS1,hbc,fun e=>(by have:=HIB.out (gl,gv) (by simp) bc e;omega),HAP,HN⟩
       | false =>
        have hg2:=HGT.out.2 HNR.out
        have HN:Hid (G.map (·.1)++[[]++[d]]=grp ctx (l.take (i+1))):=(by
         show _=_
         rw[hg2,HI.out]
         rfl)
        have hS2:=hS1.alloc (.cells #[.slice none 0 0] 25)
        have hrow2:=nil_row1 wr1
        have HS2:Hid ((wr1.alloc (.cells #[.slice none 0 0] 25)).heap.size=wr1.heap.size+1):=(by show _=_;simp)
        have hbc2:Cx (wr1.alloc (.cells #[.slice none 0 0] 25)) bc d:=hbc.low ((Below.refl _ wr1).alloc (Nat.le_refl _) _)
        have hGl:G.length≤1099511627776:=by omega
        have HAM:Hid (Apt (G++[([],.slice none 0 0)])):=apt_more HAP.out []
        clear HI HNR HGT hg2 HNE
        go_wp2_with (at_builtin;refine wpList_append_w _ (by kernel_rfl) (.tmp 47) (.tmp 48) 90 25 (.slice none 0 0) 1 24 rfl Tryz.underlying90 infoCs rfl (by decide) (by decide) w.heap.size _ _ _ rfl hS2.own _ 1 [.slice none 0 0] rfl hrow2 rfl (by intro u hu;simp at hu;subst hu;rfl) (by omega) (by have:=HS2.out;have:=HSX.out;omega) ?_)
        intro v3 u3 hown3 hg3 _
        have hS3:=hS2.more (g:=[]) (gv:=.slice none 0 0) (hnil_row _ _ _ _) hg3 (ov':=v3) hown3
        have hbc3:=hbc2.keep hg3 (fun e=>cx_ne hbc2 hS2.own e.symm)
        obtain⟨o3,c3,rfl⟩:=(holds_of hown3).form
        clear hown3 hg3
        go_wp2_with fail
        go_meet
        case rel=>exact⟨G,[],_,_,_,rfl,hGi,Nat.zero_le _,hS3,hbc3,(fun e=>by cases e),HAM,HN⟩
      case rest =>
       obtain⟨P,gl,gv,oo,oc,rfl,hPl,hgll,hS4,hbz,HGV,HAP4,HN4⟩:=hcut
       generalize wc=wz at *
       have HN:∀ gv':Value,Hid ((P++[(gl++[d],gv')]).map (·.1)=grp ctx (l.take (i+1))):=fun gv'=>(by
        show _=_
        rw[← HN4.out,List.map_append]
        rfl)
       clear HN4 hS1 hbc x0 x1 x2 x3 HAP HNR HNE HI HGT
       obtain⟨qb,rfl⟩:=hown_at (by have h:=hS4.own;rw[List.length_append,List.length_singleton] at h;exact h)
       have k1:(0:Int)≤(P.length:Int):=by omega
       have k2:(P.length:Int)<(P.length:Int)+1:=by omega
       go_upto_region 14 with fail
       have hGD:=(hS4.drewN 1).alloc (chO d)
       have hda:((wz.drewN 1).alloc (chO d)).heap.size=wz.heap.size+1:=by simp
       have hsz:=hS4.low.size
       have hlastown:((wz.drewN 1).alloc (chO d)).ownsRow w.heap.size 64 4 gv gl.length (chcells gl):=hGD.ins (gl,gv) (by simp)
       obtain⟨go,gc,hgv⟩:=(holds_of hlastown).form
       subst hgv
       obtain⟨v3,u3,hr3,hown3,hg3,hb3⟩:=run_append_w ((wz.drewN 1).alloc (chO d)) 25 64 25 (.agg #[.int .i64 0,.int .i64 0,.int .i64 0,.int .i64 0]) 4 32 Tryz.underlying25 infoCh rfl (by decide) (by decide) w.heap.size _ _ _ hlastown _ 1 (chcells [d]) (ch_row (wz.drewN 1) d) rfl (chcells_one _) (by omega) (by rw[hda];omega)
       rw[← chcells_append] at hown3
       obtain⟨p3,q3,hv3⟩:=(holds_of hown3).form
       subst hv3
       have HA4:Hid (Apt (P++[(gl++[d],Value.slice p3 (gl.length+1) q3)])):=apt_last HAP4.out hGD hb3
       obtain⟨qb',cap,hov,hcell3,hfr3,hG4,_⟩:=hGD.last (g':=gl++[d]) (apt_lst HAP4.out) hg3 (by rw[List.length_append];exact hown3) hb3
       simp only[Value.slice.injEq,Option.some.injEq,Addr.mk.injEq] at hov
       obtain⟨⟨rfl,_⟩,_,rfl⟩:=hov
       have hcellD:(wz.drewN 1).cell? ⟨qb,P.length,none⟩=some (.slice go gl.length gc):=(by
        have h:=hS4.own
        rw[List.length_append,List.length_singleton] at h
        have:=h.cellAt P.length (by omega)
        rw[show (wz.drewN 1).cell? ⟨qb,P.length,none⟩=wz.cell? ⟨qb,P.length,none⟩ from rfl,this]
        simp)
       have hcellA:((wz.drewN 1).alloc (chO d)).cell? ⟨qb,P.length,none⟩=some (.slice go gl.length gc):=(by
        have h:=hGD.own
        rw[List.length_append,List.length_singleton] at h
        have:=h.cellAt P.length (by omega)
        rw[this]
        simp)
       have hLD:Low w (wz.drewN 1):=Below.dN hS4.low 1
       have hLA:Low w ((wz.drewN 1).alloc (chO d)):=low_alloc _ hLD
       have hL3:Low w u3:=Below.grown hLA hg3 (Below.size hLA) (fun j hj=>owns_ge hlastown hj)
       have hL5:Low w (u3.setCell ⟨qb,P.length,none⟩ (.slice p3 (gl.length+1) q3)):=hG4.low
       have hSD:Low w (wz.drewN 1)∧Cx (wz.drewN 1) bc d:=⟨hLD,hbz⟩
       have hSA:Low w ((wz.drewN 1).alloc (chO d))∧Cx ((wz.drewN 1).alloc (chO d)) bc d:=⟨hLA,Cx.low (u:=wz.drewN 1) hbz ((Below.refl _ (wz.drewN 1)).alloc (Nat.le_refl _) _)⟩
       have hS3:Low w u3∧Cx u3 bc d:=⟨hL3,hSA.2.keep hg3 (fun e=>HGV.out e.symm)⟩
       have hS5:Low w (u3.setCell ⟨qb,P.length,none⟩ (.slice p3 (gl.length+1) q3))∧Cx (u3.setCell ⟨qb,P.length,none⟩ (.slice p3 (gl.length+1) q3)) bc d:=⟨hL5,hS3.2.keep (grown_set u3 qb P.length _) (fun e=>cx_ne hbz hS4.own e.symm)⟩
       obtain⟨y0,y1,y2,y3⟩:=hS5.2.cells
       clear hown3 hg3 hb3 hlastown
       refine wp_region_noPanic ?_
       refine wp_region_held_drew (S:=fun u=>Low w u∧Cx u bc d) (by kernel_rfl) hSD (fun hHeld=>?_)
       refine go_take 0 55 _ (.pointer (some ⟨qb,P.length,none⟩)) rfl (by kernel_rfl) (by kernel_rfl) (by kernel_rfl) (by kernel_rfl) (fun _ _ _ h=>h) (Or.inl ⟨by kernel_rfl,fun u hu=>by kernel_rfl⟩) hHeld ?_
       simp only[Act.put,List.setIfInBounds_toArray,List.set_cons_zero,List.set_cons_succ]
       refine go_take 1 56 _ (.pointer (some ⟨qb,P.length,none⟩)) rfl (by kernel_rfl) (by kernel_rfl) (by kernel_rfl) (by kernel_rfl) (fun _ _ _ h=>h) (Or.inl ⟨by kernel_rfl,fun u hu=>by kernel_rfl⟩) hHeld ?_
       simp only[Act.put,List.setIfInBounds_toArray,List.set_cons_zero,List.set_cons_succ]
       refine go_take 2 57 _ (.pointer (some ⟨qb,P.length,none⟩)) rfl (by kernel_rfl) (by kernel_rfl) (by kernel_rfl) (by kernel_rfl) (fun _ _ _ h=>h) (Or.inl ⟨by kernel_rfl,fun u hu=>exec_nil (.tmp 56) (by kernel_rfl) (by kernel_rfl)⟩) hHeld ?_
       simp only[Act.put,List.setIfInBounds_toArray,List.set_cons_zero,List.set_cons_succ]
       refine go_take 4 59 _ (chV d) rfl (by kernel_rfl) (by kernel_rfl) (by kernel_rfl) (by kernel_rfl) (fun _ _ _ h=>h) (Or.inl ⟨by kernel_rfl,fun u hu=>load_chR hu.2.cells (.tmp 14) (by kernel_rfl) (by kernel_rfl)⟩) hHeld ?_
       simp only[Act.put,List.setIfInBounds_toArray,List.set_cons_zero,List.set_cons_succ]
       refine go_two 3 58 _ 5 60 _ rfl (by kernel_rfl) rfl (by kernel_rfl) (by kernel_rfl) (by kernel_rfl) (by kernel_rfl) (.slice go gl.length gc) (wz.drewN 1) (load_chs hcellD (.tmp 57) (by kernel_rfl) (by kernel_rfl)) hSD (.slice (some ⟨(wz.drewN 1).heap.size,0,none⟩) 1 1) ((wz.drewN 1).alloc (chO d)) (by kernel_rfl) hSA ?_ ?_
       ·simp only[Act.put,List.setIfInBounds_toArray,List.set_cons_zero,List.set_cons_succ]
        refine go_val 5 60 _ rfl (by kernel_rfl) (by kernel_rfl) (by kernel_rfl) (.slice (some ⟨(wz.drewN 1).heap.size,0,none⟩) 1 1) ((wz.drewN 1).alloc (chO d)) (by kernel_rfl) (hSA) ?_
        simp only[Act.put,List.setIfInBounds_toArray,List.set_cons_zero,List.set_cons_succ]
        refine go_val 6 61 _ rfl (by kernel_rfl) (by kernel_rfl) (by kernel_rfl) (.slice p3 (gl.length+1) q3) (u3) (exec_app (.tmp 58) (.tmp 60) (by kernel_rfl) (by kernel_rfl) (by kernel_rfl) hr3) (hS3) ?_
        simp only[Act.put,List.setIfInBounds_toArray,List.set_cons_zero,List.set_cons_succ]
        refine go_take 7 62 _ (.pointer (some ⟨qb,P.length,none⟩)) rfl (by kernel_rfl) (by kernel_rfl) (by kernel_rfl) (by kernel_rfl) (fun _ _ _ h=>h) (Or.inl ⟨by kernel_rfl,fun u hu=>exec_nil (.tmp 55) (by kernel_rfl) (by kernel_rfl)⟩) hS3 ?_
        simp only[Act.put,List.setIfInBounds_toArray,List.set_cons_zero,List.set_cons_succ]
        refine go_skip 8 _ rfl (by kernel_rfl) (by kernel_rfl) (by kernel_rfl) (u3.setCell ⟨qb,P.length,none⟩ (.slice p3 (gl.length+1) q3)) (exec_storeG hfr3 hcell3 (.tmp 62) (.tmp 61) (by kernel_rfl) (by kernel_rfl) (by kernel_rfl)) (hS5) ?_
        refine wpAnyH_done (by kernel_rfl) ?_ _
        refine NoPanic.normal ?_
        go_wp2
        exact⟨⟨i+1,P++[(gl++[d],.slice p3 (gl.length+1) q3)],_,by omega,by go_num,by go_num,⟨_,_,by rw[List.length_append,List.length_singleton]⟩,by rw[List.length_append,List.length_singleton];omega,hG4,HA4,HN _,HEN⟩,by simp[intOf];omega⟩
       ·simp only[Act.put,List.setIfInBounds_toArray,List.set_cons_zero,List.set_cons_succ]
        refine go_val 3 58 _ rfl (by kernel_rfl) (by kernel_rfl) (by kernel_rfl) (.slice go gl.length gc) ((wz.drewN 1).alloc (chO d)) (load_chs hcellA (.tmp 57) (by kernel_rfl) (by kernel_rfl)) (hSA) ?_
        simp only[Act.put,List.setIfInBounds_toArray,List.set_cons_zero,List.set_cons_succ]
        refine go_val 6 61 _ rfl (by kernel_rfl) (by kernel_rfl) (by kernel_rfl) (.slice p3 (gl.length+1) q3) (u3) (exec_app (.tmp 58) (.tmp 60) (by kernel_rfl) (by kernel_rfl) (by kernel_rfl) hr3) (hS3) ?_
        simp only[Act.put,List.setIfInBounds_toArray,List.set_cons_zero,List.set_cons_succ]
        refine go_take 7 62 _ (.pointer (some ⟨qb,P.length,none⟩)) rfl (by kernel_rfl) (by kernel_rfl) (by kernel_rfl) (by kernel_rfl) (fun _ _ _ h=>h) (Or.inl ⟨by kernel_rfl,fun u hu=>exec_nil (.tmp 55) (by kernel_rfl) (by kernel_rfl)⟩) hS3 ?_
        simp only[Act.put,List.setIfInBounds_toArray,List.set_cons_zero,List.set_cons_succ]
        refine go_skip 8 _ rfl (by kernel_rfl) (by kernel_rfl) (by kernel_rfl) (u3.setCell ⟨qb,P.length,none⟩ (.slice p3 (gl.length+1) q3)) (exec_storeG hfr3 hcell3 (.tmp 62) (.tmp 61) (by kernel_rfl) (by kernel_rfl) (by kernel_rfl)) (hS5) ?_
        refine wpAnyH_done (by kernel_rfl) ?_ _
        refine NoPanic.normal ?_
        go_wp2
        exact⟨⟨i+1,P++[(gl++[d],.slice p3 (gl.length+1) q3)],_,by omega,by go_num,by go_num,⟨_,_,by rw[List.length_append,List.length_singleton]⟩,by rw[List.length_append,List.length_singleton];omega,hG4,HA4,HN _,HEN⟩,by simp[intOf];omega⟩
     ·have HIe:Hid (G.map (·.1)=R):=(by
       show _=_
       rw[HI.out,List.take_of_length_le (by omega)]
       exact HR2.out)
      have hend:decide ((i:Int)<(l.length:Int))=false:=decide_eq_false (by omega)
      clear HI
      go_wp2
      go_ret2
      exact⟨_,G,rfl,hS,HAP.out,HIe.out⟩
 ·have hc1:(ck != 0)=true:=by simpa using hc0
  have HE:Hid (z=ck):=(by
   show _=_
   rw[← HZ.out]
   unfold grpE
   rw[HCK.out]
   simp[hc0])
  have HRN:Hid (R=[]):=(by
   show _=_
   rw[← HR.out]
   unfold grpR
   rw[HZ.out,HE.out,if_neg (by exact hc0)])
  clear HZ HR HCK hc0
  go_wp2
  go_ret2
  rw[HE.out,HRN.out]
  exact⟨_,[],rfl,⟨hBW,hnil_row _ _ _ _,fun _ h=>by cases h⟩,List.Pairwise.nil,rfl⟩
end Go.Proofs.YtgiojkhmkeocfaaGreatDoor

/- A region that draws its order, in a round: ten operations that read, in whatever order, then the rest as the text has it. -/
namespace Go.Proofs.YtgiojkhmkeocfaaGreatDoor
open Go.RowKit Go.Shelf
namespace R10
abbrev B10:=Fin 10→Bool
def lst (b:B10):Array Bool:=#[b 0,b 1,b 2,b 3,b 4,b 5,b 6,b 7,b 8,b 9,false,false]
def upd (b:B10) (i:Fin 10):B10:=fun j=>if j=i then true else b j
def one (c:Bool):Nat:=if c then 1 else 0
def cnt (b:B10):Nat:=one (b 0)+one (b 1)+one (b 2)+one (b 3)+one (b 4)+one (b 5)+one (b 6)+one (b 7)+one (b 8)+one (b 9)
theorem lst_upd (b:B10) (i:Fin 10):(lst b).setIfInBounds i.1 true=lst (upd b i):=by
 rcases i with ⟨i,hi⟩
 rcases (by omega:i=0∨i=1∨i=2∨i=3∨i=4∨i=5∨i=6∨i=7∨i=8∨i=9) with rfl | rfl | rfl | rfl | rfl | rfl | rfl | rfl | rfl | rfl<;>simp[lst,upd]
theorem one_le (c:Bool):one c≤1:=by cases c<;>simp[one]
theorem cnt_le (b:B10):cnt b≤10:=by
 have:=fun i=>one_le (b i)
 have h0:=this 0;have h1:=this 1;have h2:=this 2;have h3:=this 3;have h4:=this 4;have h5:=this 5;have h6:=this 6;have h7:=this 7;have h8:=this 8;have h9:=this 9
 unfold cnt
 omega
def deps:Fin 10→List (Fin 10)
 | 3=>[2]
 | 5=>[4]
 | 7=>[6]
 | 8=>[5,7]
 | 9=>[1,3,8]
 | _=>[]
def closedB (b:B10):Bool:=(List.finRange 10).all fun i=>!(b i) || (deps i).all b
def chkReady (ops:Array Oper) (b:B10):Bool :=
 !(closedB b) || !(Region.ready .any ops (lst b)).isEmpty && (Region.ready .any ops (lst b)).all fun i =>
  if h:i<10 then !(b ⟨i,h⟩) && (deps ⟨i,h⟩).all b else i == 10 && (List.finRange 10).all b
def mk10 (b0 b1 b2 b3 b4 b5 b6 b7 b8 b9:Bool):B10:=fun i=>match i with
 | 0=>b0 | 1=>b1 | 2=>b2 | 3=>b3 | 4=>b4 | 5=>b5 | 6=>b6 | 7=>b7 | 8=>b8 | 9=>b9
theorem mk10_eta (b:B10):b=mk10 (b 0) (b 1) (b 2) (b 3) (b 4) (b 5) (b 6) (b 7) (b 8) (b 9):=by
 funext ⟨i,hi⟩
 rcases (by omega:i=0∨i=1∨i=2∨i=3∨i=4∨i=5∨i=6∨i=7∨i=8∨i=9) with rfl | rfl | rfl | rfl | rfl | rfl | rfl | rfl | rfl | rfl<;>rfl
theorem chk_all {ops:Array Oper} (h:∀ b0 b1 b2 b3 b4 b5 b6 b7 b8 b9:Bool,chkReady ops (mk10 b0 b1 b2 b3 b4 b5 b6 b7 b8 b9)=true) (b:B10):chkReady ops b=true:=by
 rw[mk10_eta b]
 exact h _ _ _ _ _ _ _ _ _ _
end R10
end Go.Proofs.YtgiojkhmkeocfaaGreatDoor

/- What a script makes of a text: the code's Apply, walked. -/
namespace Go.Proofs.YtgiojkhmkeocfaaGreatDoor
open Go.RowKit Go.Shelf
open R10
attribute [local go_sem] Oper.semAt_some
theorem cut_at (A:List (List UInt8)) (i n:Int) (j:Nat) (u:Value) (h:(scells (cut A i n))[j]?=some u):(scells A)[i.toNat+j]?=some u∧j<n.toNat:=by
 simp only[scells,cut,List.getElem?_map,List.getElem?_take,List.getElem?_drop] at h ⊢
 split at h
 ·exact⟨h,by assumption⟩
 ·simp at h
theorem cut_length (A:List (List UInt8)) (i n:Int) (h0:0≤i) (h1:0≤n) (h2:i+n≤A.length):(cut A i n).length=n.toNat:=by
 simp[cut];omega
theorem run_cut (A:List (List UInt8)) (ao:Option Addr) (cap:Nat) (i n:Int) (h0:0≤i) (h1:0≤n) (h2:i+n≤A.length) (w:World) (hA:HS w (.slice ao A.length cap) A) :
  ∃ vs,(∀ u:World,(Instr.slice 23 (.slice ao A.length cap) (some (.int .i64 i)) (some (.int .i64 (i+n))) none).run Tryz.prog u=.ok vs u)∧(∀ u:World,HS u (.slice ao A.length cap) A→HS u vs (cut A i n)):=by
 have hnc:A.length≤cap∧(ao=none→A=[]):=by
  rcases hA with ⟨h,h3,_⟩ | ⟨ad,c,h,h3,_⟩
  ·exact⟨by omega,fun _=>List.eq_nil_of_length_eq_zero h3⟩
  ·cases h
   exact⟨h3,fun h=>by cases h⟩
 refine⟨.slice (if cap=i.toNat then ao else ao.map (·.add i.toNat)) n.toNat (cap-i.toNat),fun u=>?_,fun u hu=>?_⟩
 ·rw[run_slice_lh (P:=Tryz.prog) u 23 ao A.length cap (by kernel_rfl) .i64 .i64 i (i+n) h0 (by omega) (by omega)]
  have:(sizeOf (Tryz.prog.elem 23)).run Tryz.prog u=.ok 1 u:=by kernel_rfl
  rw[this]
  simp only[Result.andThen,sliced,Nat.mul_one]
  congr 2
  omega
 ·unfold HS
  rw[cut_length A i n h0 h1 h2]
  cases ao with
  | none =>
   have hA0:=hnc.2 rfl
   subst hA0
   have:i=0:=by simp at h2;omega
   subst this
   have:n=0:=by simp at h2;omega
   subst this
   refine .inl ⟨?_,rfl,by simp[cut,scells]⟩
   rcases hA with ⟨h,h3,_⟩ | ⟨ad,c,h,h3,_⟩
   ·cases h;simp
   ·cases h
  | some ad =>
   refine .inr ⟨if cap=i.toNat then ad else ad.add i.toNat,cap-i.toNat,by split<;>simp,by omega,fun j x hj=>?_⟩
   obtain⟨h4,h5⟩:=cut_at A i n j x hj
   rcases hu with ⟨h,_⟩ | ⟨ad',c,h,h3,hc⟩
   ·cases h
   ·cases h
    have:=hc _ _ h4
    rw[if_neg (by omega)]
    obtain⟨b,off,rfl⟩:=addr_of (hc 0 _ (List.getElem?_eq_getElem (by rw[scells_length];omega)))
    rw[add_none] at this
    rw[add_none,add_none,Nat.add_assoc]
    exact this
end Go.Proofs.YtgiojkhmkeocfaaGreatDoor

/- SameStrings of the reference, walked at two slices that hold the same. -/
namespace Go.Proofs.YtgiojkhmkeocfaaGreatDoor
open Go.RowKit
end Go.Proofs.YtgiojkhmkeocfaaGreatDoor

/- What a script makes of a text: the reference's Apply, walked. -/
namespace Go.Proofs.YtgiojkhmkeocfaaGreatDoor
open Go.RowKit
attribute [local simp] st_drew low_drew
theorem run_cut_to (A:List (List UInt8)) (ao:Option Addr) (cap:Nat) (i h:Int) (h0:0≤i) (h1:i≤h) (h2:h≤A.length) (w:World) (hA:HS w (.slice ao A.length cap) A) :
  ∃ vo vc,(∀ u:World,(Instr.slice 23 (.slice ao A.length cap) (some (.int .i64 i)) (some (.int .i64 h)) none).run Tryz.prog u=.ok (.slice vo (cut A i (h-i)).length vc) u)∧(∀ u:World,HS u (.slice ao A.length cap) A→HS u (.slice vo (cut A i (h-i)).length vc) (cut A i (h-i))):=by
 obtain⟨vs,h3,h4⟩:=run_cut A ao cap i (h-i) h0 (by omega) (by omega) w hA
 obtain⟨vo,vc,rfl⟩:=Holds.form (h4 w hA)
 have e:i+(h-i)=h:=by omega
 rw[e] at h3
 exact⟨vo,vc,h3,h4⟩
end Go.Proofs.YtgiojkhmkeocfaaGreatDoor

/- The code's closure that lays the lines of a hunk, walked: the hunk in a box of one's own. -/
namespace Go.Proofs.YtgiojkhmkeocfaaGreatDoor
open Go.RowKit
structure La (w:World) (q:Hk) (ov:Value) (u:World):Prop where
 low:Below w.heap.size w u
 box:Hx u w.heap.size q ov
 own:u.ownsRow (w.heap.size+1) 103 2 ov q.ls.length (mkcells q.ls)
def CK (u u':World):Prop:=∀ B c,Cx u B c→Cx u' B c
theorem ck_refl (u:World):CK u u:=fun _ _ h=>h
theorem ck_trans {u u' u'':World} (h:CK u u') (h':CK u' u''):CK u u'':=fun B c q=>h' B c (h B c q)
theorem ck_low {u u':World} (h:Below u.heap.size u u'):CK u u':=fun _ _ q=>q.low h
theorem cx_neM {u:World} {b:Nat} {d:Ch} (h:Cx u b d) {B s n:Nat} {v:Value} {xs:List Value} (ho:u.ownsRow B 103 s v n xs):v.ownBlock≠some b:=by
 intro e
 rcases ho.2 with ⟨rfl,_⟩ | ⟨g,cap,cur,rfl,_,hg,_⟩
 ·cases e
 ·simp only[Value.ownBlock,Option.some.injEq] at e
  subst e
  unfold Cx chO at h
  rw[h] at hg
  simp at hg
theorem cx_neH {u:World} {b b':Nat} {d:Ch} (h:Cx u b d) {q:Hk} {v:Value} (hx:Hx u b' q v):b≠b':=by
 rintro rfl
 unfold Cx chO at h
 unfold Hx hkO at hx
 rw[h] at hx
 simp at hx
section
variable {w u u':World} {q:Hk} {ov ov':Value} {x':List Mk}
theorem La.alloc (h:La w q ov u) (o:Obj):La w q ov (u.alloc o):=⟨h.low.alloc h.low.size o,h.box.low ((Below.refl _ u).alloc (Nat.le_refl _) o),h.own.alloc o⟩
theorem La.drewN (h:La w q ov u) (n:Nat):La w q ov (u.drewN n):=⟨Below.dN h.low n,h.box,h.own⟩
theorem La.keep (h:La w q ov u) (hk:Below u.heap.size u u'):La w q ov u':=⟨h.low.trans (hk.mono h.low.size),h.box.low hk,owns_keep h.own hk⟩
theorem La.ck (h:La w q ov u) (j:Nat) (z:Value):CK u (u.setCell ⟨w.heap.size,j,none⟩ z):=fun _ _ p=>p.keep (grown_set u _ j z) (fun e=>cx_neH p h.box (Option.some.inj e))
theorem La.grow (h:La w q ov u) (hg:u.grownBy u' ov.ownBlock) (ho:u'.ownsRow (w.heap.size+1) 103 2 ov' x'.length (mkcells x')):Hx u' w.heap.size q ov∧La w ⟨q.A,q.AN,q.B,q.BN,x'⟩ ov' (u'.setCell ⟨w.heap.size,4,none⟩ ov')∧CK u (u'.setCell ⟨w.heap.size,4,none⟩ ov'):=by
 have hbx:Hx u' w.heap.size q ov:=h.box.keep hg (fun e=>by have:=owns_ge h.own e.symm;omega)
 have hs:=grown_set u' w.heap.size 4 ov'
 have hlow:Below w.heap.size w u':=h.low.grown hg h.low.size (fun j hj=>by have:=owns_ge h.own hj;omega)
 refine⟨hbx,⟨hlow.grown hs hlow.size (fun j hj=>by cases hj;exact Nat.le_refl _),hbx.setl ov',own_kept ho hs ?_⟩,?_⟩
 ·intro k hk e
  cases hk
  have:=owns_ge ho e
  omega
 ·intro B c p
  have p1:=p.keep hg (fun e=>cx_neM p h.own e.symm)
  exact p1.keep hs (fun e=>cx_neH p1 hbx (Option.some.inj e))
theorem La.own_set (h:La w q ov u) (j:Nat) (z:Value):Below w.heap.size w (u.setCell ⟨w.heap.size,j,none⟩ z)∧(u.setCell ⟨w.heap.size,j,none⟩ z).ownsRow (w.heap.size+1) 103 2 ov q.ls.length (mkcells q.ls):=by
 have hs:=grown_set u w.heap.size j z
 refine⟨h.low.grown hs h.low.size (fun j hj=>by cases hj;exact Nat.le_refl _),own_kept h.own hs ?_⟩
 intro k hk e
 cases hk
 have:=owns_ge h.own e
 omega
theorem La.setA (h:La w q ov u) (z:Int):La w ⟨z,q.AN,q.B,q.BN,q.ls⟩ ov (u.setCell ⟨w.heap.size,0,none⟩ (.int .i64 z)):=⟨(h.own_set 0 _).1,heap_setCell_same u _ 0 _ _ _ h.box,(h.own_set 0 _).2⟩
theorem La.setAN (h:La w q ov u) (z:Int):La w ⟨q.A,z,q.B,q.BN,q.ls⟩ ov (u.setCell ⟨w.heap.size,1,none⟩ (.int .i64 z)):=⟨(h.own_set 1 _).1,heap_setCell_same u _ 1 _ _ _ h.box,(h.own_set 1 _).2⟩
theorem La.setB (h:La w q ov u) (z:Int):La w ⟨q.A,q.AN,z,q.BN,q.ls⟩ ov (u.setCell ⟨w.heap.size,2,none⟩ (.int .i64 z)):=⟨(h.own_set 2 _).1,heap_setCell_same u _ 2 _ _ _ h.box,(h.own_set 2 _).2⟩
theorem La.setBN (h:La w q ov u) (z:Int):La w ⟨q.A,q.AN,q.B,z,q.ls⟩ ov (u.setCell ⟨w.heap.size,3,none⟩ (.int .i64 z)):=⟨(h.own_set 3 _).1,heap_setCell_same u _ 3 _ _ _ h.box,(h.own_set 3 _).2⟩
end
theorem pk_mks {no sg:Int} (t:List (List UInt8)):pkL no (mks sg t)=if sg≠no∧okS sg=true then t else []:=by
 induction t with
 | nil=>simp[mks,pkL]
 | cons s t ih =>
  rw[mks_cons,pkL,ih]
  split<;>rfl
theorem mks_length (sg:Int) (t:List (List UInt8)):(mks sg t).length=t.length:=by simp[mks]
theorem hlay_f (w u:World) (q:Hk) (ov:Value) (sg:Int) (t:List (List UInt8)) (vt:Value) (hL:La w q ov u) (hsg:sg=32∨sg=45∨sg=43) (ht:HS w vt t) (hlen:q.ls.length+t.length≤1099511627776) (han:0≤q.AN∧q.AN≤4611686018427387904) (hbn:0≤q.BN∧q.BN≤4611686018427387904) (an bn:Int) (x':List Mk) (HAN:Hid (q.AN+((pkL 43 (mks sg t)).length:Int)=an)) (HBN:Hid (q.BN+((pkL 45 (mks sg t)).length:Int)=bn)) (HX:Hid (q.ls++mks sg t=x')):Calls Tryz.prog 87 #[.int .u8 sg,vt,.pointer (some ⟨w.heap.size,0,none⟩)] u fun e u'=>e=.returned (.tuple #[])∧(∃ ov',La w ⟨q.A,an,q.B,bn,x'⟩ ov' u')∧CK u u':=by
 obtain⟨tO,tc,rfl⟩:=Holds.form ht
 obtain⟨A,AN,B,BN,ls⟩:=q
 dsimp only at hlen han hbn HAN HBN HX ⊢
 go_enter Tryz.func87,Tryz.ntmps87
 go_wp2
 go_loopw [9] (fun iv wr=>∃ (k:Nat) (ov:Value) (x:List Mk),k≤t.length∧iv=.int .i64 (k:Int)∧x.length=ls.length+k∧La w ⟨A,AN,B,BN,x⟩ ov wr∧CK u wr∧Hid (x++mks sg (t.drop k)=x')) (fun iv _=>t.length-(intOf iv).toNat)
 case atStart=>exact⟨0,ov,ls,Nat.zero_le _,by go_num,rfl,hL,ck_refl _,HX⟩
 case round =>
  obtain⟨k,ov,x,hk,rfl,hxl,hL,hck,HI⟩:=hrel
  clear HX
  obtain⟨oo,oc,hov⟩:=(holds_of hL.own).form
  subst hov
  obtain⟨b0,b1,b2,b3,b4⟩:=hL.box.cells
  dsimp only at b0 b1 b2 b3 b4
  by_cases hlt:k<t.length
  ·obtain⟨tb,tf,rfl,_,htc⟩:=HS.at (HS.keep ht hL.low (Nat.le_refl _)) (by omega)
   obtain⟨tx,htx⟩:∃ tx,t[k]=tx:=⟨_,rfl⟩
   have c0:=htc k hlt
   rw[htx] at c0
   have HI2:Hid (x++[⟨sg,tx⟩]++mks sg (t.drop (k+1))=x'):=(by
    have h:=HI.out
    rw[List.drop_eq_getElem_cons hlt,htx,mks_cons] at h
    show _=_
    rw[← h]
    simp)
   have i1:0≤(k:Int):=by omega
   have i2:(k:Int)<(t.length:Int):=by omega
   have hL2:=hL.alloc (mkO ⟨sg,tx⟩)
   have hck2:=ck_trans hck (ck_low ((Below.refl _ wr).alloc (Nat.le_refl _) (mkO ⟨sg,tx⟩)))
   have hrow:=mk_row wr ⟨sg,tx⟩
   have hbl:=hL.box.lt
   have HS2:Hid ((wr.alloc (mkO ⟨sg,tx⟩)).heap.size=wr.heap.size+1):=(by show _=_;simp)
   have hW:wr.alloc (Obj.cells #[Value.int IntKind.u8 sg,Value.string ⟨tx.toArray⟩] 103)=wr.alloc (mkO ⟨sg,tx⟩):=rfl
   have hxk:x.length+1≤2199023255552:=by omega
   have HXL:Hid (x.length=ls.length+k):=hxl
   clear HI htx htc hxl
   go_wp2_with (at_builtin;refine wpList_append_w _ (by kernel_rfl) (.tmp 14) (.tmp 18) 57 103 (.agg #[.int .u8 0,.string ⟨#[]⟩]) 2 24 rfl Tryz.underlying57 infoMk rfl (by decide) (by decide) (w.heap.size+1) _ _ _ rfl hL2.own _ 1 (mkcells [⟨sg,tx⟩]) rfl hrow (mkcells_length _) (mkcells_one _) hxk (by have:=HS2.out;omega) ?_)
   intro v3 u3 hown3 hg3 _
   rw[← mkcells_append] at hown3
   obtain⟨o3,c3,rfl⟩:=(holds_of hown3).form
   obtain⟨hbx3,hL4,hck4⟩:=hL2.grow (x':=x++[⟨sg,tx⟩]) hg3 (by rw[List.length_append];exact hown3)
   obtain⟨f0,f1,f2,f3,f4⟩:=hbx3.cells
   have ff:=hbx3.frozen 4
   clear hW hg3 hown3
   go_wp2
   exact⟨⟨k+1,_,x++[⟨sg,tx⟩],by omega,by go_num,by have:=HXL.out;simp;omega,hL4,ck_trans hck2 hck4,HI2⟩,by simp[intOf];omega⟩
  ·have HX2:Hid (x=x'):=(by
    have h:=HI.out
    rw[List.drop_of_length_le (by omega)] at h
    show x=x'
    simpa [mks] using h)
   have hend:decide ((k:Int)<(t.length:Int))=false:=decide_eq_false (by omega)
   have hf1:=hL.box.frozen 1
   have hf3:=hL.box.frozen 3
   have HP1:=pk_mks (no:=43) (sg:=sg) t
   have HP2:=pk_mks (no:=45) (sg:=sg) t
   rw[HP1] at HAN
   rw[HP2] at HBN
   clear HI HP1 HP2 hxl
   rcases hsg with rfl | rfl | rfl
   ·have hA:Hid (AN+(t.length:Int)=an):=(by have h:=HAN.out;rw[if_pos (by decide)] at h;exact h)
    have hB:Hid (BN+(t.length:Int)=bn):=(by have h:=HBN.out;rw[if_pos (by decide)] at h;exact h)
    have hL4:=hL.setAN (AN+(t.length:Int))
    have hk4:=hL.ck 1 (.int .i64 (AN+(t.length:Int)))
    have hL5:=hL4.setBN (BN+(t.length:Int))
    have hk5:=hL4.ck 3 (.int .i64 (BN+(t.length:Int)))
    obtain⟨g0,g1,g2,g3,g4⟩:=hL4.box.cells
    dsimp only at g0 g1 g2 g3 g4
    have hg3:=hL4.box.frozen 3
    clear HAN HBN
    go_wp2
    (try simp only[Exit.inBlock,Exit.then])
    first | refine bodyPost_ret (results_none rfl _ _ _) rfl ?_ | refine bodyPost_end (results_none rfl _ _ _) rfl ?_
    refine⟨rfl,⟨.slice oo x.length oc,?_⟩,ck_trans hck (ck_trans hk4 hk5)⟩
    rw[← hA.out,← hB.out,← HX2.out]
    exact hL5
   ·have hA:Hid (AN+(t.length:Int)=an):=(by have h:=HAN.out;rw[if_pos (by decide)] at h;exact h)
    have hB:Hid (BN=bn):=(by have h:=HBN.out;rw[if_neg (by decide)] at h;show _=_;simpa using h)
    have hL4:=hL.setAN (AN+(t.length:Int))
    have hk4:=hL.ck 1 (.int .i64 (AN+(t.length:Int)))
    clear HAN HBN
    go_wp2
    (try simp only[Exit.inBlock,Exit.then])
    first | refine bodyPost_ret (results_none rfl _ _ _) rfl ?_ | refine bodyPost_end (results_none rfl _ _ _) rfl ?_
    refine⟨rfl,⟨.slice oo x.length oc,?_⟩,ck_trans hck hk4⟩
    rw[← hA.out,← hB.out,← HX2.out]
    exact hL4
   ·have hA:Hid (AN=an):=(by have h:=HAN.out;rw[if_neg (by decide)] at h;show _=_;simpa using h)
    have hB:Hid (BN+(t.length:Int)=bn):=(by have h:=HBN.out;rw[if_pos (by decide)] at h;exact h)
    have hL4:=hL.setBN (BN+(t.length:Int))
    have hk4:=hL.ck 3 (.int .i64 (BN+(t.length:Int)))
    clear HAN HBN
    go_wp2
    (try simp only[Exit.inBlock,Exit.then])
    first | refine bodyPost_ret (results_none rfl _ _ _) rfl ?_ | refine bodyPost_end (results_none rfl _ _ _) rfl ?_
    refine⟨rfl,⟨.slice oo x.length oc,?_⟩,ck_trans hck hk4⟩
    rw[← hA.out,← hB.out,← HX2.out]
    exact hL4
end Go.Proofs.YtgiojkhmkeocfaaGreatDoor

/- The code's hunk of a group, layer 11, walked. -/
namespace Go.Proofs.YtgiojkhmkeocfaaGreatDoor
open Go.RowKit
def Lb (w:World) (x:List Mk) (u:World):Prop:=∃ (ov:Value) (an bn:Int),La w ⟨0,an,0,bn,x⟩ ov u∧((pkL 43 x).length:Int)=an∧((pkL 45 x).length:Int)=bn
theorem Lb.alloc {w u:World} {x:List Mk} (h:Lb w x u) (o:Obj):Lb w x (u.alloc o):=by
 obtain⟨ov,an,bn,h1,h2⟩:=h
 exact⟨ov,an,bn,h1.alloc o,h2⟩
theorem Lb.low {w u:World} {x:List Mk} (h:Lb w x u):Below w.heap.size w u:=by
 obtain⟨ov,an,bn,h1,h2⟩:=h
 exact h1.low
theorem pk_add (no:Int) (x y:List Mk):((pkL no x).length:Int)+((pkL no y).length:Int)=((pkL no (x++y)).length:Int):=by
 rw[pkL_append,List.length_append]
 omega
theorem hlay2_f (w u:World) (x:List Mk) (sg:Int) (t:List (List UInt8)) (vt:Value) (hL:Lb w x u) (hsg:sg=32∨sg=45∨sg=43) (ht:HS w vt t) (x':List Mk) (HX:Hid (x++mks sg t=x')) (hlen:x'.length≤1099511627776):Calls Tryz.prog 87 #[.int .u8 sg,vt,.pointer (some ⟨w.heap.size,0,none⟩)] u fun e u'=>e=.returned (.tuple #[])∧Lb w x' u'∧CK u u':=by
 obtain⟨ov,an,bn,h1,h2,h3⟩:=hL
 have e1:=pkL_length 43 x
 have e2:=pkL_length 45 x
 have hl:x.length+t.length=x'.length:=by rw[← HX.out,List.length_append,mks_length]
 have h4:an+((pkL 43 (mks sg t)).length:Int)=((pkL 43 x').length:Int):=by rw[← h2,← HX.out];exact pk_add 43 _ _
 have h5:bn+((pkL 45 (mks sg t)).length:Int)=((pkL 45 x').length:Int):=by rw[← h3,← HX.out];exact pk_add 45 _ _
 refine (hlay_f w u ⟨0,an,0,bn,x⟩ ov sg t vt h1 hsg ht (by dsimp only;omega) (by dsimp only;omega) (by dsimp only;omega) _ _ x' h4 h5 HX).mono ?_
 rintro e u' ⟨rfl,⟨ov',h6⟩,h7⟩
 exact⟨rfl,⟨ov',_,_,h6,rfl,rfl⟩,h7⟩
theorem exec_subI {u:World} {p q:Int} (h:IntKind.i64.wrap (p-q)=p-q) {op:Oper} (x y:Operand) (ho:op.op=.binOp .sub 3 x y 3) {ev:Operand→Value} (hx:ev x=.int .i64 p) (hy:ev y=.int .i64 q) :
  (execOp ev op).run Tryz.prog u=.ok (.value (.int .i64 (p-q))) u:=by
 simp only[execOp,ho,hx,hy]
 go_simp
theorem exec_storeI {u:World} {a:Addr} (hf:u.frozen? a=false) {z0:Int} (hc:u.cell? a=some (.int .i64 z0)) {z:Int} {op:Oper} (x y:Operand) (ho:op.op=.store 3 x y) {ev:Operand→Value} (hx:ev x=.pointer (some a)) (hy:ev y=.int .i64 z) :
  (execOp ev op).run Tryz.prog u=.ok .skip (u.setCell a (.int .i64 z)):=by
 simp only[execOp,ho,hx,hy]
 go_simp
theorem haround_f (g rest:List Ch) (f:Ch) (a b:List (List UInt8)) (ctx:Int) (vg va vb:Value) (w:World) (hg:HCh w vg (f::g)) (ha:HS w va a) (hb:HS w vb b) (hal:a.length≤1099511627776) (hbl:b.length≤1099511627776) (hgl:g.length≤1099511627776) (hc:0≤ctx∧ctx≤100) (hR:Right true (f.A-min ctx f.A) (f.B-min ctx f.A) a.length b.length (f::g++rest))
  (hfb:0≤f.B-min ctx f.A) (hnl:∀ c∈f::g,0≤c.A∧c.A≤2147483647∧0≤c.AN∧c.AN≤2147483647) (R:Hk) (HR:Hid (oneH a b ctx (f::g)=R)) (hRl:R.ls.length≤549755813888):Calls Tryz.prog 44 #[vg,va,vb,.int .i64 ctx] w fun e w'=>∃ v',e=.returned (hkV R v')∧w'.ownsRow w.heap.size 103 2 v' R.ls.length (mkcells R.ls)∧Below w.heap.size w w':=by
 obtain⟨go,gc,rfl⟩:=Holds.form hg
 obtain⟨ao,ac,rfl⟩:=Holds.form ha
 obtain⟨bo,bc,rfl⟩:=Holds.form hb
 obtain⟨gb,gf,rfl,_,hgc⟩:=HCh.at hg (by simp)
 have p0:=hgc 0 (by simp)
 rw[List.getElem_cons_zero] at p0
 clear hgc
 obtain⟨N,hN⟩:∃ N,g.length=N:=⟨_,rfl⟩
 have HNN:Hid (g.length=N):=hN
 rw[hN] at hgl
 rw[List.length_cons,hN] at hg ⊢
 clear hN
 have hnf:=hnl f (by simp)
 have hRf:=hR
 rw[List.cons_append] at hRf
 have hnumf:=(numB_iff f).1 hRf.1.1
 obtain⟨m,hm⟩:∃ m,min ctx f.A=m:=⟨_,rfl⟩
 have hm1:(if f.A<ctx then f.A else ctx)=m:=by rw[← hm];split<;>omega
 have hmb:0≤m∧m≤f.A∧m≤ctx:=by omega
 obtain⟨E,hE⟩:∃ E,endH a.length ctx (f::g)=E:=⟨_,rfl⟩
 obtain⟨RL,hRL⟩:∃ RL,bodyH a b E (f.A-m) (f::g)=RL:=⟨_,rfl⟩
 have HRR:Hid (R=cntH (f.A-m) (f.B-m) RL):=(by
  show _=_
  rw[← HR.out]
  show cntH (f.A-min ctx f.A) (f.B-min ctx f.A) (bodyH a b (endH a.length ctx (f::g)) (f.A-min ctx f.A) (f::g))=_
  rw[hm,hE,hRL])
 have hRLl:RL.length≤549755813888:=by have:=hRl;rw[HRR.out] at this;exact this
 have HEE:Hid (min (a.length:Int) (endA (f.A-m) (f::g)+ctx)=E):=(by show _=_;rw[← hE,endH_eq _ _ _ _ (f.A-m)])
 have HRL:Hid (bodyH a b E (f.A-m) (f::g)=RL):=hRL
 rw[hm] at hR hfb
 have HRT:Hid (Right true (f.A-m) (f.B-m) a.length b.length (f::g++rest)∧0≤f.B-m):=⟨hR,hfb⟩
 have HNL:Hid (∀ c∈f::g,0≤c.A∧c.A≤2147483647∧0≤c.AN∧c.AN≤2147483647):=hnl
 have HRLL:Hid (R.ls.length=RL.length):=(by show _=_;rw[HRR.out];rfl)
 clear hRL hR HR hE hm hRf hnl hRl
 -- the boxes
 have hz0:=Hx.new w ⟨0,0,0,0,[]⟩ (.slice none 0 0)
 have hB0:Below w.heap.size w (w.alloc (hkO ⟨0,0,0,0,[]⟩ (.slice none 0 0))):=(Below.refl _ w).alloc (Nat.le_refl _) _
 have HW1:Hid ((w.alloc (hkO ⟨0,0,0,0,[]⟩ (.slice none 0 0))).heap.size=w.heap.size+1):=(by show _=_;simp)
 have hWa:w.alloc (Obj.cells #[Value.int IntKind.i64 0,Value.int IntKind.i64 0,Value.int IntKind.i64 0,Value.int IntKind.i64 0,.slice none 0 0] 59)=w.alloc (hkO ⟨0,0,0,0,[]⟩ (.slice none 0 0)):=rfl
 generalize hW1:w.alloc (hkO ⟨0,0,0,0,[]⟩ (.slice none 0 0))=W1 at *
 have hB1:Below W1.heap.size W1 (W1.alloc (hkO ⟨0,0,0,0,[]⟩ (.slice none 0 0))):=(Below.refl _ W1).alloc (Nat.le_refl _) _
 have hLb:Lb W1 [] (W1.alloc (hkO ⟨0,0,0,0,[]⟩ (.slice none 0 0))):=⟨_,0,0,⟨hB1,Hx.new W1 _ _,hnil_row _ _ _ _⟩,rfl,rfl⟩
 have HW2:Hid ((W1.alloc (hkO ⟨0,0,0,0,[]⟩ (.slice none 0 0))).heap.size=W1.heap.size+1):=(by show _=_;simp)
 have hWb:W1.alloc (Obj.cells #[Value.int IntKind.i64 0,Value.int IntKind.i64 0,Value.int IntKind.i64 0,Value.int IntKind.i64 0,.slice none 0 0] 59)=W1.alloc (hkO ⟨0,0,0,0,[]⟩ (.slice none 0 0)):=rfl
 generalize hW2:W1.alloc (hkO ⟨0,0,0,0,[]⟩ (.slice none 0 0))=W2 at *
 have hB02:=hB0.trans (hB1.mono hB0.size)
 have r0:ChAt W2 gb (gf+0 * 4) f:=ChAt.low p0 hB02
 rw[show gf+0 * 4=gf by omega] at r0
 obtain⟨q0,q1,q2,q3⟩:=r0
 have hc11:=Cx.new W2 f
 have hLb2:=hLb.alloc (chO f)
 obtain⟨x0,x1,x2,x3⟩:=hc11.cells
 have hWc:W2.alloc (Obj.cells #[Value.int IntKind.i64 f.A,Value.int IntKind.i64 f.AN,Value.int IntKind.i64 f.B,Value.int IntKind.i64 f.BN] 64)=W2.alloc (chO f):=rfl
 clear p0 hW1 hW2 hLb
 generalize hW3:W2.alloc (chO f)=W3 at *
 have n1:(0:Int)<(N:Int)+1:=by omega
 go_enter Tryz.func44,Tryz.ntmps44
 go_wp2
 clear hWa hWb hWc q0 q1 q2 q3 x0 x1 x2 x3 hW3
 generalize hB11:W2.heap.size=B11 at *
 have hA1:HS W1 (.slice ao a.length ac) a:=HS.keep ha hB0 (Nat.le_refl _)
 have hA2:HS W1 (.slice bo b.length bc) b:=HS.keep hb hB0 (Nat.le_refl _)
 go_loopw [13,30] (fun nv iv wr=>∃ (i:Nat) (p q:Int) (fl:Bool) (x:List Mk),i≤N+1∧nv=.int .i64 p∧iv=.int .i64 (i:Int)∧(0≤p∧p≤4294967296)∧Lb W1 x wr∧Cx wr B11 f∧Hid (min (a.length:Int) (endA p ((f::g).drop i)+ctx)=E)∧Hid (Right fl p q a.length b.length ((f::g).drop i++rest)∧0≤q)∧Hid (x++bodyH a b E p ((f::g).drop i)=RL)) (fun _ iv _=>N+1-(intOf iv).toNat)
 case atStart=>exact⟨0,f.A-m,f.B-m,true,[],Nat.zero_le _,rfl,by go_num,by omega,hLb2,hc11,HEE,HRT,HRL⟩
 case round =>
  obtain⟨i,p,q,fl,x,hi,rfl,rfl,hpb,hL,hc11,HEi,HRi,HI⟩:=hrel
  clear HEE HRT HRL hLb2
  have hBw:Below w.heap.size w wr:=hB0.trans (hL.low.mono hB0.size)
  by_cases hlt:i<N+1
  ·have hil:i<(f::g).length:=by rw[List.length_cons,HNN.out];exact hlt
   obtain⟨c,hci⟩:∃ c,(f::g)[i]=c:=⟨_,rfl⟩
   have hdr:(f::g).drop i=c::(f::g).drop (i+1):=by rw[List.drop_eq_getElem_cons hil,hci]
   have hgA:ChAt wr gb (gf+i * 4) c:=(by
    have hg2:HCh w (.slice (some ⟨gb,gf,none⟩) (N+1) gc) (f::g):=hg
    obtain⟨b',off',e,_,hc'⟩:=HCh.at (HCh.keep hg2 hBw (Nat.le_refl _)) (by simp)
    cases e
    have:=hc' i hil
    rw[hci] at this
    exact this)
   have hncl:=HNL.out c (by rw[← hci];exact List.getElem_mem hil)
   have hRi:=HRi.out
   rw[hdr,List.cons_append] at hRi
   obtain⟨⟨⟨k1,k2,k3,k4⟩,k5⟩,hq0⟩:=hRi
   have k1':=(numB_iff c).1 k1
   have k6:=k5.le
   have HRn:Hid (Right false (c.A+c.AN) (c.B+c.BN) a.length b.length ((f::g).drop (i+1)++rest)∧0≤c.B+c.BN):=⟨k5,by omega⟩
   have HEn:Hid (min (a.length:Int) (endA (c.A+c.AN) ((f::g).drop (i+1))+ctx)=E):=(by have h:=HEi.out;rw[hdr] at h;exact h)
   have HI1:Hid (x++bodyH a b E p (c::(f::g).drop (i+1))=RL):=(by have h:=HI.out;rw[hdr] at h;exact h)
   obtain⟨cA,cAN,cB,cBN⟩:=c
   dsimp only at k1' k2 k3 k4 k5 k6 HRn HEn hncl
   obtain⟨RS,hRS⟩:∃ r,bodyH a b E (cA+cAN) ((f::g).drop (i+1))=r:=⟨_,rfl⟩
   have HRS:Hid (bodyH a b E (cA+cAN) ((f::g).drop (i+1))=RS):=hRS
   obtain⟨v1o,v1c,r1,h1⟩:=run_cut_to a ao ac p cA hpb.1 k3 (by omega) W1 hA1
   obtain⟨t1,ht1⟩:∃ t,cut a p (cA-p)=t:=⟨_,rfl⟩
   obtain⟨v2,r2,h2⟩:=run_cut a ao ac cA cAN (by omega) (by omega) (by omega) W1 hA1
   obtain⟨t2,ht2⟩:∃ t,cut a cA cAN=t:=⟨_,rfl⟩
   obtain⟨v3,r3,h3⟩:=run_cut b bo bc cB cBN (by omega) (by omega) (by omega) W1 hA2
   obtain⟨t3,ht3⟩:∃ t,cut b cB cBN=t:=⟨_,rfl⟩
   have s1:=h1 W1 hA1
   have s2:=h2 W1 hA1
   have s3:=h3 W1 hA2
   rw[ht1] at r1 s1
   rw[ht2] at s2
   rw[ht3] at s3
   obtain⟨v2o,v2c,rfl⟩:=Holds.form s2
   obtain⟨v3o,v3c,rfl⟩:=Holds.form s3
   obtain⟨x1,hx1⟩:∃ y,x++mks 32 t1=y:=⟨_,rfl⟩
   obtain⟨x2,hx2⟩:∃ y,x1++mks 45 t2=y:=⟨_,rfl⟩
   obtain⟨x3,hx3⟩:∃ y,x2++mks 43 t3=y:=⟨_,rfl⟩
   have hI3:x3++RS=RL:=(by
    have h:=HI1.out
    simp only[bodyH] at h
    rw[ht1,ht2,ht3,hRS] at h
    rw[← hx3,← hx2,← hx1,← h]
    simp)
   have HX1:Hid (x++mks 32 t1=x1):=hx1
   have HX2:Hid (x1++mks 45 t2=x2):=hx2
   have HX3:Hid (x2++mks 43 t3=x3):=hx3
   have HI3:Hid (x3++bodyH a b E (cA+cAN) ((f::g).drop (i+1))=RL):=(by show _=_;rw[hRS];exact hI3)
   have l3:x3.length≤549755813888:=by have:=congrArg List.length hI3;rw[List.length_append] at this;omega
   have l2:x2.length≤549755813888:=by have:=congrArg List.length hx3;rw[List.length_append] at this;omega
   have l1:x1.length≤549755813888:=by have:=congrArg List.length hx2;rw[List.length_append] at this;omega
   have i1:0≤(i:Int):=by omega
   have i2:(i:Int)<(N:Int)+1:=by omega
   obtain⟨d0,d1,d2,d3⟩:=hgA
   have hcc:=Cx.new wr ⟨cA,cAN,cB,cBN⟩
   have hL1:=hL.alloc (chO ⟨cA,cAN,cB,cBN⟩)
   have hf1:Cx (wr.alloc (chO ⟨cA,cAN,cB,cBN⟩)) B11 f:=hc11.low ((Below.refl _ wr).alloc (Nat.le_refl _) _)
   obtain⟨y0,y1,y2,y3⟩:=hcc.cells
   have hW:wr.alloc (Obj.cells #[Value.int IntKind.i64 cA,Value.int IntKind.i64 cAN,Value.int IntKind.i64 cB,Value.int IntKind.i64 cBN] 64)=wr.alloc (chO ⟨cA,cAN,cB,cBN⟩):=rfl
   dsimp only at d0 d1 d2 d3 y0 y1 y2 y3
   clear HI HI1 HEi HRi k5 hdr hci hil ht1 ht2 ht3 hx1 hx2 hx3 hI3 hRS h1 h2 h3 hL hc11
   generalize hwr1:wr.alloc (chO ⟨cA,cAN,cB,cBN⟩)=wr1 at *
   go_wp2_with fail
   generalize hBC:wr.heap.size=bC at *
   refine (hlay2_f W1 wr1 x 32 t1 _ hL1 (.inl rfl) s1 x1 HX1 (by omega)).mono ?_
   rintro e u1 ⟨rfl,hL2,hk1⟩
   have hcc1:=hk1 _ _ hcc
   have hf2:=hk1 _ _ hf1
   obtain⟨z0,z1,z2,z3⟩:=hcc1.cells
   dsimp only at z0 z1 z2 z3
   clear y0 y1 y2 y3 hW d0 d1 d2 d3 hL1 hcc hf1 hk1
   go_wp2_with fail
   refine (hlay2_f W1 u1 x1 45 t2 _ hL2 (.inr (.inl rfl)) s2 x2 HX2 (by omega)).mono ?_
   rintro e u2 ⟨rfl,hL3,hk2⟩
   have hcc2:=hk2 _ _ hcc1
   have hf3:=hk2 _ _ hf2
   obtain⟨y0,y1,y2,y3⟩:=hcc2.cells
   dsimp only at y0 y1 y2 y3
   clear z0 z1 z2 z3 hL2 hcc1 hf2 hk2
   go_wp2_with fail
   refine (hlay2_f W1 u2 x2 43 t3 _ hL3 (.inr (.inr rfl)) s3 x3 HX3 (by omega)).mono ?_
   rintro e u3 ⟨rfl,hL4,hk3⟩
   have hf4:=hk3 _ _ hf3
   clear y0 y1 y2 y3 hL3 hcc2 hf3 hk3
   go_wp2
   exact⟨⟨i+1,cA+cAN,cB+cBN,false,x3,by omega,rfl,by go_num,by omega,hL4,hf4,HEn,HRn,HI3⟩,by simp[intOf];omega⟩
  ·have hdr:(f::g).drop i=[]:=List.drop_of_length_le (by rw[List.length_cons,HNN.out];omega)
   have hE2:min (a.length:Int) (p+ctx)=E:=(by have h:=HEi.out;rw[hdr] at h;exact h)
   have hE1:(if (a.length:Int)<p+ctx then (a.length:Int) else p+ctx)=E:=by rw[← hE2];split<;>omega
   have hRi:=HRi.out.1
   rw[hdr,List.nil_append] at hRi
   have k6:=hRi.le
   have HI1:Hid (x++mks 32 (cut a p (E-p))=RL):=(by have h:=HI.out;rw[hdr] at h;exact h)
   obtain⟨v1o,v1c,r1,h1⟩:=run_cut_to a ao ac p E hpb.1 (by omega) (by omega) W1 hA1
   obtain⟨t1,ht1⟩:∃ t,cut a p (E-p)=t:=⟨_,rfl⟩
   have s1:=h1 W1 hA1
   rw[ht1] at r1 s1 HI1
   have hend:decide ((i:Int)<(N:Int)+1)=false:=decide_eq_false (by omega)
   clear HI HEi HRi hdr hRi ht1 h1 hE2
   go_wp2_with fail
   refine (hlay2_f W1 wr x 32 t1 _ hL (.inl rfl) s1 RL HI1 (by omega)).mono ?_
   rintro e wz ⟨rfl,hL2,hk1⟩
   have hf2:=hk1 _ _ hc11
   obtain⟨ov,an,bn,hL3,han,hbn⟩:=hL2
   have HAN:Hid (((pkL 43 RL).length:Int)=an):=han
   have HBN:Hid (((pkL 45 RL).length:Int)=bn):=hbn
   obtain⟨nA,hnA⟩:∃ z,(if 0<an then f.A-m+1 else f.A-m)=z:=⟨_,rfl⟩
   obtain⟨nB,hnB⟩:∃ z,(if 0<bn then f.B-m+1 else f.B-m)=z:=⟨_,rfl⟩
   have HNA:Hid ((if 0<an then f.A-m+1 else f.A-m)=nA):=hnA
   have HNB:Hid ((if 0<bn then f.B-m+1 else f.B-m)=nB):=hnB
   have HRv:Hid (R=⟨nA,an,nB,bn,RL⟩):=(by
    show _=_
    rw[HRR.out,← hnA,← hnB,← han,← hbn]
    unfold cntH
    simp only[Int.natCast_pos])
   have hw1:IntKind.i64.wrap (f.A-m)=f.A-m:=wrap_s (by omega) (by omega)
   have hw2:IntKind.i64.wrap (f.B-m)=f.B-m:=wrap_s (by omega) (by omega)
   clear hnA hnB han hbn hk1 hL hc11
   obtain⟨oo,oc,hov⟩:=(holds_of hL3.own).form
   dsimp only at hov
   subst hov
   have hLD:=hL3.drewN 1
   have hfD:Cx (wz.drewN 1) B11 f:=hf2
   have hcD0:=hLD.box.cells.1
   have hfD0:=hLD.box.frozen 0
   have hL4:=hLD.setA nA
   have hf4:=hLD.ck 0 (.int .i64 nA) _ _ hfD
   have hcD2:=hL4.box.cells.2.2.1
   have hfD2:=hL4.box.frozen 2
   have hL5:=hL4.setB nB
   have hf5:=hL4.ck 2 (.int .i64 nB) _ _ hf4
   dsimp only at hcD0 hcD2 hL4 hL5
   have hSD:∃ A B,La W1 ⟨A,an,B,bn,RL⟩ (.slice oo RL.length oc) (wz.drewN 1)∧Cx (wz.drewN 1) B11 f:=⟨0,0,hLD,hfD⟩
   have hS1:∃ A B,La W1 ⟨A,an,B,bn,RL⟩ (.slice oo RL.length oc) ((wz.drewN 1).setCell ⟨W1.heap.size,0,none⟩ (.int .i64 nA))∧Cx ((wz.drewN 1).setCell ⟨W1.heap.size,0,none⟩ (.int .i64 nA)) B11 f:=⟨nA,0,hL4,hf4⟩
   have hS2:∃ A B,La W1 ⟨A,an,B,bn,RL⟩ (.slice oo RL.length oc) (((wz.drewN 1).setCell ⟨W1.heap.size,0,none⟩ (.int .i64 nA)).setCell ⟨W1.heap.size,2,none⟩ (.int .i64 nB))∧Cx (((wz.drewN 1).setCell ⟨W1.heap.size,0,none⟩ (.int .i64 nA)).setCell ⟨W1.heap.size,2,none⟩ (.int .i64 nB)) B11 f:=⟨nA,nB,hL5,hf5⟩
   go_upto_region 15 with fail
   refine wp_region_noPanic ?_
   refine wp_region_held_drew (S:=fun u=>∃ A B,La W1 ⟨A,an,B,bn,RL⟩ (.slice oo RL.length oc) u∧Cx u B11 f) (by kernel_rfl) hSD (fun hHeld=>?_)
   refine go_take 0 76 _ (.pointer (some ⟨B11,0,none⟩)) rfl (by kernel_rfl) (by kernel_rfl) (by kernel_rfl) (by kernel_rfl) (fun _ _ _ h=>h) (Or.inl ⟨by kernel_rfl,fun u hu=>by kernel_rfl⟩) hHeld ?_
   simp only[Act.put,List.setIfInBounds_toArray,List.set_cons_zero,List.set_cons_succ]
   refine go_take 1 77 _ (.int .i64 f.A) rfl (by kernel_rfl) (by kernel_rfl) (by kernel_rfl) (by kernel_rfl) (fun _ _ _ h=>h) (Or.inl ⟨by kernel_rfl,fun u hu=>(by obtain⟨_,_,_,hc⟩:=hu;exact load_int hc.cells.1 (.tmp 76) (by kernel_rfl) (by kernel_rfl))⟩) hHeld ?_
   simp only[Act.put,List.setIfInBounds_toArray,List.set_cons_zero,List.set_cons_succ]
   refine go_take 2 78 _ (.int .i64 m) rfl (by kernel_rfl) (by kernel_rfl) (by kernel_rfl) (by kernel_rfl) (fun _ _ _ h=>h) (Or.inl ⟨by kernel_rfl,fun u hu=>by kernel_rfl⟩) hHeld ?_
   simp only[Act.put,List.setIfInBounds_toArray,List.set_cons_zero,List.set_cons_succ]
   refine go_take 3 79 _ (.int .i64 (f.A-m)) rfl (by kernel_rfl) (by kernel_rfl) (by kernel_rfl) (by kernel_rfl) (fun _ _ _ h=>h) (Or.inl ⟨by kernel_rfl,fun u hu=>exec_subI hw1 (.tmp 77) (.tmp 78) (by kernel_rfl) (by kernel_rfl) (by kernel_rfl)⟩) hHeld ?_
   simp only[Act.put,List.setIfInBounds_toArray,List.set_cons_zero,List.set_cons_succ]
   refine go_take 4 80 _ (.pointer (some ⟨W1.heap.size,1,none⟩)) rfl (by kernel_rfl) (by kernel_rfl) (by kernel_rfl) (by kernel_rfl) (fun _ _ _ h=>h) (Or.inl ⟨by kernel_rfl,fun u hu=>by kernel_rfl⟩) hHeld ?_
   simp only[Act.put,List.setIfInBounds_toArray,List.set_cons_zero,List.set_cons_succ]
   refine go_take 5 81 _ (.int .i64 an) rfl (by kernel_rfl) (by kernel_rfl) (by kernel_rfl) (by kernel_rfl) (fun _ _ _ h=>h) (Or.inl ⟨by kernel_rfl,fun u hu=>(by obtain⟨_,_,hl,_⟩:=hu;exact load_int hl.box.cells.2.1 (.tmp 80) (by kernel_rfl) (by kernel_rfl))⟩) hHeld ?_
   simp only[Act.put,List.setIfInBounds_toArray,List.set_cons_zero,List.set_cons_succ]
   refine go_take 7 83 _ (.pointer (some ⟨B11,2,none⟩)) rfl (by kernel_rfl) (by kernel_rfl) (by kernel_rfl) (by kernel_rfl) (fun _ _ _ h=>h) (Or.inl ⟨by kernel_rfl,fun u hu=>by kernel_rfl⟩) hHeld ?_
   simp only[Act.put,List.setIfInBounds_toArray,List.set_cons_zero,List.set_cons_succ]
   refine go_take 8 84 _ (.int .i64 f.B) rfl (by kernel_rfl) (by kernel_rfl) (by kernel_rfl) (by kernel_rfl) (fun _ _ _ h=>h) (Or.inl ⟨by kernel_rfl,fun u hu=>(by obtain⟨_,_,_,hc⟩:=hu;exact load_int hc.cells.2.2.1 (.tmp 83) (by kernel_rfl) (by kernel_rfl))⟩) hHeld ?_
   simp only[Act.put,List.setIfInBounds_toArray,List.set_cons_zero,List.set_cons_succ]
   refine go_take 9 85 _ (.int .i64 m) rfl (by kernel_rfl) (by kernel_rfl) (by kernel_rfl) (by kernel_rfl) (fun _ _ _ h=>h) (Or.inl ⟨by kernel_rfl,fun u hu=>by kernel_rfl⟩) hHeld ?_
   simp only[Act.put,List.setIfInBounds_toArray,List.set_cons_zero,List.set_cons_succ]
   refine go_take 10 86 _ (.int .i64 (f.B-m)) rfl (by kernel_rfl) (by kernel_rfl) (by kernel_rfl) (by kernel_rfl) (fun _ _ _ h=>h) (Or.inl ⟨by kernel_rfl,fun u hu=>exec_subI hw2 (.tmp 84) (.tmp 85) (by kernel_rfl) (by kernel_rfl) (by kernel_rfl)⟩) hHeld ?_
   simp only[Act.put,List.setIfInBounds_toArray,List.set_cons_zero,List.set_cons_succ]
   refine go_take 11 87 _ (.pointer (some ⟨W1.heap.size,3,none⟩)) rfl (by kernel_rfl) (by kernel_rfl) (by kernel_rfl) (by kernel_rfl) (fun _ _ _ h=>h) (Or.inl ⟨by kernel_rfl,fun u hu=>by kernel_rfl⟩) hHeld ?_
   simp only[Act.put,List.setIfInBounds_toArray,List.set_cons_zero,List.set_cons_succ]
   refine go_take 12 88 _ (.int .i64 bn) rfl (by kernel_rfl) (by kernel_rfl) (by kernel_rfl) (by kernel_rfl) (fun _ _ _ h=>h) (Or.inl ⟨by kernel_rfl,fun u hu=>(by obtain⟨_,_,hl,_⟩:=hu;exact load_int hl.box.cells.2.2.2.1 (.tmp 87) (by kernel_rfl) (by kernel_rfl))⟩) hHeld ?_
   simp only[Act.put,List.setIfInBounds_toArray,List.set_cons_zero,List.set_cons_succ]
   refine go_callE 6 82 _ rfl (by kernel_rfl) (by kernel_rfl) (by kernel_rfl) 88 (.func 88) #[.tmp 79,.tmp 81] #[3,3] (by kernel_rfl) #[] (by kernel_rfl) #[.int .i64 (f.A-m),.int .i64 an] (by kernel_rfl) (enters_of Tryz.func88 (by kernel_rfl) rfl) (fun v u=>v=.int .i64 nA∧u=wz.drewN 1) ((hnumberOf_f (f.A-m) an _ (by omega) (by omega) nA HNA).mono (fun _ _ h=>⟨_,h.1,by rw[h.2];exact hSD,rfl,h.2⟩)) ?_
   rintro v w5 hHeld ⟨rfl,rfl⟩
   simp only[Act.put,List.setIfInBounds_toArray,List.set_cons_zero,List.set_cons_succ]
   refine go_take 14 90 _ (.pointer (some ⟨W1.heap.size,0,none⟩)) rfl (by kernel_rfl) (by kernel_rfl) (by kernel_rfl) (by kernel_rfl) (fun _ _ _ h=>h) (Or.inl ⟨by kernel_rfl,fun u hu=>by kernel_rfl⟩) hHeld ?_
   simp only[Act.put,List.setIfInBounds_toArray,List.set_cons_zero,List.set_cons_succ]
   refine go_callE 13 89 _ rfl (by kernel_rfl) (by kernel_rfl) (by kernel_rfl) 88 (.func 88) #[.tmp 86,.tmp 88] #[3,3] (by kernel_rfl) #[] (by kernel_rfl) #[.int .i64 (f.B-m),.int .i64 bn] (by kernel_rfl) (enters_of Tryz.func88 (by kernel_rfl) rfl) (fun v u=>v=.int .i64 nB∧u=wz.drewN 1) ((hnumberOf_f (f.B-m) bn _ (by omega) (by omega) nB HNB).mono (fun _ _ h=>⟨_,h.1,by rw[h.2];exact hSD,rfl,h.2⟩)) ?_
   rintro v w6 hHeld ⟨rfl,rfl⟩
   simp only[Act.put,List.setIfInBounds_toArray,List.set_cons_zero,List.set_cons_succ]
   refine go_skip 15 _ rfl (by kernel_rfl) (by kernel_rfl) (by kernel_rfl) ((wz.drewN 1).setCell ⟨W1.heap.size,0,none⟩ (.int .i64 nA)) (exec_storeI hfD0 hcD0 (.tmp 90) (.tmp 82) (by kernel_rfl) (by kernel_rfl) (by kernel_rfl)) (hS1) ?_
   refine go_take 16 91 _ (.pointer (some ⟨W1.heap.size,2,none⟩)) rfl (by kernel_rfl) (by kernel_rfl) (by kernel_rfl) (by kernel_rfl) (fun _ _ _ h=>h) (Or.inl ⟨by kernel_rfl,fun u hu=>by kernel_rfl⟩) hS1 ?_
   simp only[Act.put,List.setIfInBounds_toArray,List.set_cons_zero,List.set_cons_succ]
   refine go_skip 17 _ rfl (by kernel_rfl) (by kernel_rfl) (by kernel_rfl) (((wz.drewN 1).setCell ⟨W1.heap.size,0,none⟩ (.int .i64 nA)).setCell ⟨W1.heap.size,2,none⟩ (.int .i64 nB)) (exec_storeI hfD2 hcD2 (.tmp 91) (.tmp 89) (by kernel_rfl) (by kernel_rfl) (by kernel_rfl)) (hS2) ?_
   refine wpAnyH_done (by kernel_rfl) ?_ _
   refine NoPanic.normal ?_
   generalize ((wz.drewN 1).setCell ⟨W1.heap.size,0,none⟩ (.int .i64 nA)).setCell ⟨W1.heap.size,2,none⟩ (.int .i64 nB)=W4 at *
   have hz4:=hz0.low hL5.low
   obtain⟨t0,t1,t2,t3,t4⟩:=hL5.box.cells
   obtain⟨z0,z1,z2,z3,z4⟩:=hz4.cells
   have zf:=hz4.frozen
   have zf0:=zf 0
   have zf1:=zf 1
   have zf2:=zf 2
   have zf3:=zf 3
   have zf4:=zf 4
   dsimp only at t0 t1 t2 t3 t4 z0 z1 z2 z3 z4
   have hP:=hz4.put5 (.int .i64 nA) (.int .i64 an) (.int .i64 nB) (.int .i64 bn) (.slice oo RL.length oc)
   have hlw:Below w.heap.size w W4:=hB0.trans (hL5.low.mono hB0.size)
   have hown5:=hL5.own
   clear zf
   go_wp2
   rw[HRv.out]
   refine bodyPost_ret (v:=hkV ⟨nA,an,nB,bn,RL⟩ (.slice oo RL.length oc)) (results_cell_row rfl _ _ w.heap.size 59 #[.int .i64 nA,.int .i64 an,.int .i64 nB,.int .i64 bn,.slice oo RL.length oc] (0,0) _ rfl hP Tryz.underlying59 rfl (by kernel_rfl)) rfl ⟨_,rfl,?_,?_⟩
   ·have key:∀ (u:World) (j:Nat) (z:Value),u.ownsRow w.heap.size 103 2 (.slice oo RL.length oc) RL.length (mkcells RL)→(∀ g,(Value.slice oo RL.length oc).ownBlock=some g→w.heap.size<g)→(u.setCell ⟨w.heap.size,j,none⟩ z).ownsRow w.heap.size 103 2 (.slice oo RL.length oc) RL.length (mkcells RL):=fun u j z ho hg=>own_kept ho (grown_set u _ j z) (fun k hk e=>by cases hk;have:=hg _ e;omega)
    have hgg:∀ g,(Value.slice oo RL.length oc).ownBlock=some g→w.heap.size<g:=fun g hg=>by have:=owns_ge hown5 hg;have:=HW1.out;omega
    have h0:W4.ownsRow w.heap.size 103 2 (.slice oo RL.length oc) RL.length (mkcells RL):=own_base hown5 (by have:=HW1.out;omega)
    exact key _ _ _ (key _ _ _ (key _ _ _ (key _ _ _ (key _ _ _ h0 hgg) hgg) hgg) hgg) hgg
   ·exact ((((hlw.setCell (by simp) _).setCell (by simp) _).setCell (by simp) _).setCell (by simp) _).setCell (by simp) _
end Go.Proofs.YtgiojkhmkeocfaaGreatDoor

/- The reference's Make of layer 11, walked. -/
namespace Go.Proofs.YtgiojkhmkeocfaaGreatDoor
open Go.RowKit
theorem Hs.base {w W u:World} {ov:Value} {P:List (Hk × Value)} (h:Hs W ov P u) (hB:Below w.heap.size w W):Hs w ov P u :=
 ⟨hB.trans (h.low.mono hB.size),own_base h.own hB.size,fun x hx=>own_base (h.ins x hx) hB.size⟩
theorem Gr.at {w W u:World} {oo:Option Addr} {n oc:Nat} {G:List (List Ch × Value)} (h:Gr w (.slice oo n oc) G W) (hB:Below W.heap.size W u) {i:Nat} (hi:i<G.length) {g:List Ch} {gv:Value} (hg:G[i]=(g,gv)):∃ q,oo=some ⟨q,0,none⟩∧u.cell? ⟨q,i,none⟩=some gv∧HCh u gv g:=by
 have hh:=holds_of h.own
 obtain⟨b,off,c',hv,hb,hc⟩:=Holds.at hh (by simp;omega)
 rcases h.own.2 with ⟨_,h0⟩ | ⟨q,cap,cur,e,_⟩
 ·omega
 ·cases e
  cases hv
  refine⟨_,rfl,?_,?_⟩
  ·have h1:=hc i (by simpa using hi)
   rw[Nat.zero_add] at h1
   refine hcell_keep hB ?_
   rw[h1]
   simp[hg]
  ·have hin:=h.ins (g,gv) (by rw[← hg];exact List.getElem_mem hi)
   exact HCh.keep (holds_of hin) hB (Nat.le_refl _)
end Go.Proofs.YtgiojkhmkeocfaaGreatDoor

/- The code's Make of layer 11, walked. -/
namespace Go.Proofs.YtgiojkhmkeocfaaGreatDoor
open Go.RowKit
theorem hMake_f (l:List Ch) (a b:List (List UInt8)) (ctx:Int) (v va vb:Value) (w:World) (hv:HCh w v l) (ha:HS w va a) (hb:HS w vb b) (hl:l.length≤1099511627776) (hal:a.length≤137438953472) (hbl:b.length≤137438953472) (z:Int) (HZ:Hid (grpE l a.length b.length ctx=z)) (R:List Hk) (HR:Hid (mkR l a b ctx=R)):Calls Tryz.prog 16 #[v,va,vb,.int .i64 ctx] w fun e w'=>∃ v' P,e=.returned (.tuple #[v',.int .i64 z])∧Hs w v' P w'∧P.map (·.1)=R:=by
 obtain⟨vo,lc,rfl⟩:=Holds.form hv
 obtain⟨ao,ac,rfl⟩:=Holds.form ha
 obtain⟨bo,bc,rfl⟩:=Holds.form hb
 obtain⟨GR,hGR⟩:∃ GR,grpR l a.length b.length ctx=GR:=⟨_,rfl⟩
 have HGR:Hid (grpR l a.length b.length ctx=GR):=hGR
 have HR1:Hid (GR.map (oneH a b ctx)=R):=(by show _=_;rw[← HR.out,← hGR];rfl)
 clear hGR
 go_enter Tryz.func16,Tryz.ntmps16
 go_wp2_with fail
 refine (hGroup_f l a.length b.length ctx _ w hv hl (by omega) (by omega) z HZ GR HGR).mono ?_
 rintro e W ⟨gv0,G,rfl,hG,_,hGm⟩
 obtain⟨go,gc,rfl⟩:=(holds_of hG.own).form
 have HGM:Hid (G.map (·.1)=GR):=hGm
 clear hGm HR
 by_cases hz:z=0
 ·subst hz
  have HE:Hid (grp ctx l=GR∧Script l a.length b.length∧0≤ctx∧ctx≤100):=(by
   have h1:=HZ.out
   have h2:=HGR.out
   unfold grpR at h2
   rw[h1,if_pos rfl] at h2
   refine⟨h2,?_⟩
   unfold grpE at h1
   by_cases hs:Script l a.length b.length
   ·refine⟨hs,?_⟩
    rw[chk_ok hs] at h1
    by_cases hx:ctx<0∨100<ctx
    ·simp[hx] at h1
    ·omega
   ·rw[chk_no hs] at h1
    simp at h1)
  have hctx:=HE.out.2.2
  have hGl:G.length≤1099511627776:=(by
   have h1:=congrArg List.length HGM.out
   have h2:(grp ctx l).length≤l.length:=(by
    have key:∀ l:List Ch,(grp ctx l).length≤l.length:=by
     intro l
     induction l with
     | nil=>simp[grp]
     | cons c l ih =>
      cases l with
      | nil=>simp[grp,gcons]
      | cons d l =>
       obtain⟨g,gs,p1,p2⟩:=grp_cons2 ctx c d l
       rw[p2]
       rw[p1] at ih
       split<;>simp at ih ⊢<;>omega
    exact key l)
   rw[HE.out.1] at h2
   simp at h1
   omega)
  clear HZ HGR
  go_wp2
  go_loopw [12,30] (fun ov iv wr=>∃ (i:Nat) (P:List (Hk × Value)),i≤G.length∧iv=.int .i64 (i:Int)∧(∃ oo oc,ov=.slice oo i oc)∧Hs W ov P wr∧Hid (P.length=i∧P.map (·.1)=(GR.take i).map (oneH a b ctx))) (fun _ iv _=>G.length-(intOf iv).toNat)
  case atStart=>exact⟨0,[],Nat.zero_le _,by go_num,⟨_,_,rfl⟩,Hs.nil W,⟨rfl,rfl⟩⟩
  case round =>
   obtain⟨i,P,hi,rfl,⟨oo,oc,rfl⟩,hS,HP⟩:=hrel
   by_cases hlt:i<G.length
   ·obtain⟨g,gv,hgi⟩:∃ g gv,G[i]=(g,gv):=⟨_,_,rfl⟩
    obtain⟨q,rfl,hcell,hch⟩:=hG.at hS.low hlt hgi
    have hGRl:GR.length=G.length:=by rw[← HGM.out];simp
    have hGRi:GR[i]'(by omega)=g:=by
     have h1:GR[i]?=some g:=by rw[← HGM.out];simp[hlt,hgi]
     exact (List.getElem?_eq_some_iff.1 h1).2
    have hsp:GR=GR.take i++g::GR.drop (i+1):=by
     rw[← hGRi,← List.drop_eq_getElem_cons (by omega),List.take_append_drop]
    have hgne:g≠[]:=grp_ne ctx l g (by rw[HE.out.1,← hGRi];exact List.getElem_mem _)
    obtain⟨f,g',rfl⟩:∃ f g',g=f::g':=by
     cases g with
     | nil=>exact absurd rfl hgne
     | cons f g'=>exact⟨f,g',rfl⟩
    obtain⟨hR1,hR2,hR3,hR4⟩:=script_at hctx.1 HE.out.2.1 (HE.out.1.trans hsp)
    have hnums:=right_nums hR1
    have hgl:g'.length≤1099511627776:=(by
     have h1:=congrArg List.length (grp_flatten ctx l)
     rw[HE.out.1,hsp] at h1
     simp only[List.flatten_append,List.flatten_cons,List.length_append,List.length_cons] at h1
     omega)
    obtain⟨H,hH⟩:∃ H,oneH a b ctx (f::g')=H:=⟨_,rfl⟩
    have HH:Hid (oneH a b ctx (f::g')=H):=hH
    rw[hH] at hR4
    have hBw:Below w.heap.size w wr:=hG.low.trans (hS.low.mono hG.low.size)
    have ha':=HS.keep ha hBw (Nat.le_refl _)
    have hb':=HS.keep hb hBw (Nat.le_refl _)
    obtain⟨ho,hc,rfl⟩:=Holds.form hch
    have HP2:∀ y:Value,Hid ((P++[(H,y)]).length=i+1∧(P++[(H,y)]).map (·.1)=(GR.take (i+1)).map (oneH a b ctx)):=fun y=>(by
     refine⟨by rw[List.length_append,HP.out.1];rfl,?_⟩
     rw[List.map_append,HP.out.2,List.take_succ_eq_append_getElem (by omega),List.map_append,hGRi]
     simp[hH])
    have i1:0≤(i:Int):=by omega
    have i2:(i:Int)<(G.length:Int):=by omega
    clear hsp hGRi hGRl hgne hgi hH
    go_wp2_with fail
    refine (haround_f g' (GR.drop (i+1)).flatten f a b ctx _ _ _ wr hch ha' hb' (by omega) (by omega) hgl hctx hR1 hR3 (fun c hc=>by have:=(numB_iff c).1 (hnums c (by simp at hc ⊢;rcases hc with hc | hc;exact .inl hc;exact .inr (.inl hc)));omega) H HH (by omega)).mono ?_
    rintro e wr1 ⟨v1,rfl,hown1,hB1⟩
    obtain⟨ro,rc,rfl⟩:=(holds_of hown1).form
    have hS1:Hs W (.slice oo i oc) P wr1:=⟨hS.low.trans (hB1.mono hS.low.size),owns_keep hS.own hB1,fun x hx=>owns_keep (hS.ins x hx) hB1⟩
    have hown1':=own_base hown1 hS.low.size
    have hS5:=hS1.alloc (hkO H (.slice ro H.ls.length rc))
    have hrow5:=one_row wr1 H (.slice ro H.ls.length rc)
    have hown5:=hown1'.alloc (hkO H (.slice ro H.ls.length rc))
    have hl4:=hS1.low.size
    have hW5:wr1.alloc (Obj.cells #[Value.int IntKind.i64 H.A,Value.int IntKind.i64 H.AN,Value.int IntKind.i64 H.B,Value.int IntKind.i64 H.BN,.slice ro H.ls.length rc] 59)=wr1.alloc (hkO H (.slice ro H.ls.length rc)):=rfl
    have HS5:Hid ((wr1.alloc (hkO H (.slice ro H.ls.length rc))).heap.size=wr1.heap.size+1):=(by show _=_;simp)
    have hownP:=hS5.own
    rw[HP.out.1] at hownP
    unfold hkV
    clear hB1 hown1 hR1 hnums hch hcell
    go_wp2_with (at_builtin;refine wpList_append_w _ (by kernel_rfl) (.tmp 34) (.tmp 40) 34 59 (.agg #[.int .i64 0,.int .i64 0,.int .i64 0,.int .i64 0,.slice none 0 0]) 5 56 rfl Tryz.underlying34 infoHk rfl (by decide) (by decide) W.heap.size _ _ _ rfl hownP _ 1 (hkC H (.slice ro H.ls.length rc)) rfl hrow5 rfl (hkC_one _) (by omega) (by have:=HS5.out;omega) ?_)
    intro v6 W6 hown6 hg6 _
    have hS6:=hS5.more hown5 hg6 (ov':=v6) (by rw[HP.out.1];exact hown6)
    obtain⟨ro6,rc6,rfl⟩:=(holds_of hown6).form
    clear hg6 hown6 hownP hrow5
    go_wp2
    exact⟨⟨i+1,P++[(H,.slice ro H.ls.length rc)],by omega,by go_num,⟨_,_,rfl⟩,hS6,HP2 _⟩,by simp[intOf];omega⟩
   ·have hend:decide ((i:Int)<(G.length:Int))=false:=decide_eq_false (by omega)
    have HF:Hid (P.map (·.1)=R):=(by
     have hGRl:GR.length=G.length:=by rw[← HGM.out];simp
     show _=_
     rw[HP.out.2,List.take_of_length_le (by omega)]
     exact HR1.out)
    go_wp2
    go_ret2
    exact⟨_,P,rfl,hS.base hG.low,HF.out⟩
 ·have hz1:(z != 0)=true:=by simpa using hz
  have HRN:Hid (R=[]):=(by
   show _=_
   rw[← HR1.out,← HGR.out]
   unfold grpR
   rw[HZ.out,if_neg hz]
   rfl)
  clear HZ HGR hz
  go_wp2
  go_ret2
  rw[HRN.out]
  exact⟨_,[],rfl,⟨hG.low,hnil_row _ _ _ _,fun _ h=>by cases h⟩,rfl⟩
end Go.Proofs.YtgiojkhmkeocfaaGreatDoor
