/-
  Texts that belong together, joined: HuGr, HuC7, EdReg, EdApp, EdSameS, EdRApp, HuC8, HuC9, HuMk, HuCa, HuLw, PcWk, PcKe, PcKm, PcPz, PcDf, PaUq, PaPc, PaPg, PaIn, PaRp, PaSr, PaHd, PaWi, PaBk, PaRs, MiWm, EdRMk, MiTb, PaRl, PaRg, PaRq, PaRt, PaRf, PaLg, PaPl, PaUn, PaFd.
-/
import Derived.Test.YtgiojkhmkeocfaaGreatDoorUnAgrA5
import Derived.Deep.CutRange
import Derived.Shelf.RegionOpenPlain
import Derived.Maps.OwnSet
import Derived.Carry

set_option maxHeartbeats 16000000
set_option maxRecDepth 100000
namespace Go.Proofs.YtgiojkhmkeocfaaGreatDoor

section
open Go.RowKit
theorem infoCs:(Tryz.prog.info? 25).map (fun i=>(i.zero,i.size,i.bytes))=some (some (.slice none 0 0),1,24):=by kernel_rfl
structure Gr (w:World) (ov:Value) (G:List (List Ch × Value)) (u:World):Prop where
 low:Below w.heap.size w u
 own:u.ownsRow w.heap.size 25 1 ov G.length (G.map (·.2))
 ins:∀ x∈G,u.ownsRow w.heap.size 64 4 x.2 x.1.length (chcells x.1)
def Lst (G:List (List Ch × Value)):Prop:=∀ P x,G=P++[x]→∀ y∈P,∀ b,x.2.ownBlock=some b→y.2.ownBlock≠some b
section
variable {w u u':World} {ov ov':Value} {G P:List (List Ch × Value)}
theorem Gr.alloc (h:Gr w ov G u) (o:Obj):Gr w ov G (u.alloc o):=⟨h.low.alloc h.low.size o,h.own.alloc o,fun x hx=>(h.ins x hx).alloc o⟩
theorem Gr.drewN (h:Gr w ov G u) (n:Nat):Gr w ov G (u.drewN n):=⟨Below.dN h.low n,h.own,h.ins⟩
theorem Gr.more (h:Gr w ov G u) {g:List Ch} {gv:Value} (hgv:u.ownsRow w.heap.size 64 4 gv g.length (chcells g)) (hg:u.grownBy u' ov.ownBlock) (ho:u'.ownsRow w.heap.size 25 1 ov' (G.length+1) (G.map (·.2)++[gv])):Gr w ov' (G++[(g,gv)]) u':=by
 have key:∀ {v:Value} {n:Nat} {xs:List Value},u.ownsRow w.heap.size 64 4 v n xs→u'.ownsRow w.heap.size 64 4 v n xs:=fun hv=>ZnC hv hg (fun k hk=>ZnE h.own hv (by decide) hk)
 refine⟨h.low.grown hg h.low.size (fun j hj=>ZnH h.own hj),?_,fun z hz=>?_⟩
 ·rw[List.length_append,List.map_append]
  exact ho
 ·rcases List.mem_append.1 hz with hz | hz
  ·exact key (h.ins z hz)
  ·rw[List.mem_singleton.1 hz]
   exact key hgv
theorem Gr.last {g g':List Ch} {gv gv':Value} (h:Gr w ov (P++[(g,gv)]) u) (hL:Lst (P++[(g,gv)])) (hg:u.grownBy u' gv.ownBlock) (ho:u'.ownsRow w.heap.size 64 4 gv' g'.length (chcells g')) (hb:gv'.ownBlock=gv.ownBlock∨gv'.ownBlock=some u.heap.size) :
  ∃ q cap,ov=.slice (some ⟨q,0,none⟩) (P.length+1) cap∧u'.cell? ⟨q,P.length,none⟩=some gv∧u'.frozen? ⟨q,P.length,none⟩=false∧Gr w ov (P++[(g',gv')]) (u'.setCell ⟨q,P.length,none⟩ gv')∧Lst (P++[(g',gv')]):=by
 have hown:=h.own
 rw[List.length_append,List.length_singleton] at hown
 have hgl:=h.ins (g,gv) (by simp)
 obtain⟨oo,oc,hov⟩:=(holds_of hown).form
 subst hov
 obtain⟨q,rfl⟩:=Zin hown
 have hown':=ZnC hown hg (fun k hk=>ZnE hgl hown (by decide) hk)
 have hst:=hown'.stored P.length gv'
 have hset:((P++[(g,gv)]).map (·.2)).set P.length gv'=(P++[(g',gv')]).map (·.2):=by simp
 rw[hset] at hst
 have hlow:Below w.heap.size w u':=h.low.grown hg h.low.size (fun j hj=>ZnH hgl hj)
 refine⟨q,oc,rfl,?_,hown'.frozenAt _,⟨hlow.grown hst.2 hlow.size (fun j hj=>by cases hj;exact ZnH hown rfl),?_,?_⟩,?_⟩
 ·rw[hown'.cellAt P.length (by omega)]
  simp
 ·rw[List.length_append,List.length_singleton]
  exact hst.1
 ·intro x hx
  have hqx:∀ {v:Value} {n:Nat} {xs:List Value},u'.ownsRow w.heap.size 64 4 v n xs→(u'.setCell ⟨q,P.length,none⟩ gv').ownsRow w.heap.size 64 4 v n xs:=fun hv=>ZnC hv hst.2 (fun k hk=>ZnE hown' hv (by decide) hk)
  rcases List.mem_append.1 hx with hx | hx
  ·exact hqx (ZnC (h.ins x (List.mem_append_left _ hx)) hg (fun k hk=>hL P (g,gv) rfl x hx k hk))
  ·rw[List.mem_singleton.1 hx]
   exact hqx ho
 ·intro P' x' he y hy b' hb'
  have he2:=List.append_inj' he rfl
  obtain⟨rfl,hx'⟩:=he2
  have hx2:(g',gv')=x':=by simpa using hx'
  subst hx2
  rcases hb with hb | hb
  ·rw[hb] at hb'
   exact hL P (g,gv) rfl y hy b' hb'
  ·rw[hb] at hb'
   cases hb'
   intro e
   have:=ZnD (h.ins y (List.mem_append_left _ hy)) e
   omega
end
theorem ZpL {fl:Bool} {p q n m:Int} {l:List Ch} (h:Right fl p q n m l):∀ c∈l,numB c=true:=by
 induction l generalizing fl p q with
 | nil=>intro c hc;cases hc
 | cons d l ih =>
  intro c hc
  rcases List.mem_cons.1 hc with rfl | hc
  ·exact h.1.1
  ·exact ih h.2 c hc
theorem Zkv {u:World} {a:Addr} {o:Option Addr} {n c:Nat} (h:u.cell? a=some (.slice o n c)) {op:Oper} (x:Operand) (ho:op.op=.load 25 x) {ev:Operand→Value} (hx:ev x=.pointer (some a)) :
  (execOp ev op).run Tryz.prog u=.ok (.value (.slice o n c)) u:=by
 simp only[execOp,ho,hx]
 go_simp
theorem ZfG {u:World} {b j:Nat} (hf:u.frozen? ⟨b,j,none⟩=false) {o n c} (hc:u.cell? ⟨b,j,none⟩=some (.slice o n c)) {o' n' c'} {op:Oper} (x y:Operand) (ho:op.op=.store 25 x y) {ev:Operand→Value} (hx:ev x=.pointer (some ⟨b,j,none⟩)) (hy:ev y=.slice o' n' c') :
  (execOp ev op).run Tryz.prog u=.ok .skip (u.setCell ⟨b,j,none⟩ (.slice o' n' c')):=by
 simp only[execOp,ho,hx,hy]
 go_simp
theorem Zcw (w:World) (c:Ch):Holds (w.alloc (chO c)) (.slice (some ⟨w.heap.size,0,none⟩) 1 1) 1 (chcells [c]):=Zmn w #[.int .i64 c.A,.int .i64 c.AN,.int .i64 c.B,.int .i64 c.BN] 64 1 1 (by decide)
theorem ZkW {G:List (List Ch × Value)} {gs:List (List Ch)} {g:List Ch} (h:G.map (·.1)=gs++[g]):∃ P gv,G=P++[(g,gv)]∧P.map (·.1)=gs:=by
 rcases List.eq_nil_or_concat G with rfl | ⟨P,x,rfl⟩
 ·have:=congrArg List.length h
  simp at this
 ·rw[List.concat_eq_append] at h ⊢
  rw[List.map_append] at h
  have h2:=List.append_inj' h rfl
  obtain⟨gx,gv⟩:=x
  have h3:gx=g:=by simpa using h2.2
  subst h3
  exact⟨P,gv,rfl,h2.1⟩
def nrB (ctx:Int) (l:List Ch) (i:Nat) (d:Ch):Bool:=match (l.take i).getLast? with
 | none=>false
 | some c=>decide (d.A-c.A-c.AN≤2 * ctx)
theorem ZjM {l:List Ch} {j:Nat} (hj:j<l.length):(l.take (j+1)).getLast?=some l[j]:=by
 rw[List.take_succ_eq_append_getElem hj,List.getLast?_append]
 simp
theorem Zhn {ctx:Int} {l:List Ch} {i:Nat} (hi:i<l.length):(nrB ctx l i l[i]=true→∃ gs gl,grp ctx (l.take i)=gs++[gl]∧grp ctx (l.take (i+1))=gs++[gl++[l[i]]])∧(nrB ctx l i l[i]=false→grp ctx (l.take (i+1))=grp ctx (l.take i)++[[l[i]]]):=by
 cases i with
 | zero =>
  refine⟨fun h=>by simp[nrB] at h,fun _=>?_⟩
  rw[List.take_succ_eq_append_getElem hi]
  rfl
 | succ j =>
  have e1:l.take (j+1)=l.take j++[l[j]]:=List.take_succ_eq_append_getElem (by omega)
  have e2:l.take (j+1+1)=l.take j++[l[j]]++[l[j+1]]:=by rw[List.take_succ_eq_append_getElem hi,e1]
  obtain⟨gs,g,h1,h2⟩:=Zhm ctx (l.take j) l[j] l[j+1]
  have hn:nrB ctx l (j+1) l[j+1]=decide (l[j+1].A-l[j].A-l[j].AN≤2 * ctx):=by
   unfold nrB
   rw[ZjM (by omega)]
  rw[hn,e1,e2,h1,h2]
  refine⟨fun h=>?_,fun h=>?_⟩
  ·rw[if_pos (of_decide_eq_true h)]
   exact⟨gs,g++[l[j]],rfl,rfl⟩
  ·rw[if_neg (of_decide_eq_false h)]
end

section
open Go.RowKit
def Apt (G:List (List Ch × Value)):Prop:=G.Pairwise fun x y=>∀ b,x.2.ownBlock=some b→y.2.ownBlock≠some b
theorem Zbe {G:List (List Ch × Value)} (h:Apt G):Lst G:=by
 intro P x he y hy b hb e
 subst he
 exact (List.pairwise_append.1 h).2.2 y hy x (by simp) b e hb
theorem Zbf {G:List (List Ch × Value)} (h:Apt G) (g:List Ch):Apt (G++[(g,.slice none 0 0)]):=by
 refine List.pairwise_append.2 ⟨h,List.pairwise_singleton _ _,?_⟩
 intro x _ y hy b _ e
 rw[List.mem_singleton.1 hy] at e
 cases e
theorem Zbd {P:List (List Ch × Value)} {g g':List Ch} {gv gv':Value} (h:Apt (P++[(g,gv)])) {w u:World} {ov:Value} (hG:Gr w ov (P++[(g,gv)]) u) (hb:gv'.ownBlock=gv.ownBlock∨gv'.ownBlock=some u.heap.size):Apt (P++[(g',gv')]):=by
 obtain⟨h1,_,h3⟩:=List.pairwise_append.1 h
 refine List.pairwise_append.2 ⟨h1,List.pairwise_singleton _ _,?_⟩
 intro x hx y hy b hxb e
 rw[List.mem_singleton.1 hy] at e
 dsimp only at e
 rcases hb with hb | hb
 ·rw[hb] at e
  exact h3 x hx (g,gv) (by simp) b hxb e
 ·rw[hb] at e
  cases e
  have:=ZnD (hG.ins x (List.mem_append_left _ hx)) hxb
  omega
theorem ZeQ {u:World} {b:Nat} {d:Ch} (h:Cx u b d) {B s n:Nat} {v:Value} {xs:List Value} (ho:u.ownsRow B 25 s v n xs):v.ownBlock≠some b:=by
 intro e
 rcases ho.2 with ⟨rfl,_⟩ | ⟨g,cap,cur,rfl,_,hg,_⟩
 ·cases e
 ·simp only[Value.ownBlock,Option.some.injEq] at e
  subst e
  unfold Cx chO at h
  rw[h] at hg
  simp at hg
theorem ZfD {u:World} {a:Addr} {op:Oper} (x:Operand) (ho:op.op=.nilCheck x) {ev:Operand→Value} (hx:ev x=.pointer (some a)):(execOp ev op).run Tryz.prog u=.ok (.value (.pointer (some a))) u:=by
 simp only[execOp,ho,hx]
 go_simp
def enL (l:List Ch) (i:Nat):Int:=match (l.take i).getLast? with
 | none=>0
 | some c=>c.A+c.AN
theorem Zfm {l:List Ch} {i:Nat} (hi:i<l.length):enL l (i+1)=l[i].A+l[i].AN:=by
 unfold enL
 rw[ZjM hi]
theorem ZmG {l:List Ch} {i:Nat} (hi:i<l.length) {ctx:Int} {d:Ch}:nrB ctx l i d=(decide (0<i) && decide (d.A-enL l i≤2 * ctx)):=by
 cases i with
 | zero=>rfl
 | succ j =>
  unfold nrB enL
  rw[ZjM (by omega),decide_eq_true (Nat.succ_pos j),Bool.true_and]
  dsimp only
  rw[show d.A-(l[j].A+l[j].AN)=d.A-l[j].A-l[j].AN by omega]
theorem Zfl {l:List Ch} (h:∀ c∈l,numB c=true) {i:Nat} (hi:i≤l.length):0≤enL l i∧enL l i≤4294967296:=by
 cases i with
 | zero=>exact⟨by unfold enL;simp,by unfold enL;simp⟩
 | succ j =>
  rw[Zfm (by omega)]
  have:=(ZmM l[j]).1 (h _ (List.getElem_mem _))
  omega
theorem Zms (w:World):Holds (w.alloc (.cells #[.slice none 0 0] 25)) (.slice (some ⟨w.heap.size,0,none⟩) 1 1) 1 [.slice none 0 0]:=Zmn w #[.slice none 0 0] 25 1 1 (by decide)
theorem Zhu (l:List Ch) (n m ctx:Int) (v:Value) (w:World) (hv:HCh w v l) (hl:l.length≤1099511627776) (hn:n≤9223372036854775807) (hm:m≤9223372036854775807) (z:Int) (HZ:Hid (grpE l n m ctx=z)) (R:List (List Ch)) (HR:Hid (grpR l n m ctx=R)):Calls Tryz.prog 43 #[v,.int .i64 n,.int .i64 m,.int .i64 ctx] w fun e w'=>∃ v' G,e=.returned (.tuple #[v',.int .i64 z])∧Gr w v' G w'∧Apt G∧G.map (·.1)=R:=by
 obtain⟨vo,lc,rfl⟩:=Holds.form hv
 obtain⟨ck,hck⟩:∃ c,chk l n m=c:=⟨_,rfl⟩
 have HCK:Hid (chk l n m=ck):=hck
 clear hck
 go_enter Tryz.func43,Tryz.ntmps43
 go_wp2_with fail
 refine (Zac l n m ck _ w hv hl hn hm HCK).mono ?_
 rintro e W ⟨rfl,hBW⟩
 by_cases hc0:ck=0
 ·subst hc0
  by_cases hx1:ctx<0
  ·have HE:Hid (z=2):=(by
    show _=_
    rw[← HZ.out]
    unfold grpE
    rw[HCK.out]
    simp[hx1])
   have HRN:Hid (R=[]):=(by
    show _=_
    rw[← HR.out]
    unfold grpR
    rw[HZ.out,HE.out,if_neg (by decide)])
   clear HZ HR HCK
   go_wp2
   go_ret2
   rw[HE.out,HRN.out]
   exact⟨_,[],rfl,⟨hBW,Zii _ _ _ _,fun _ h=>by cases h⟩,List.Pairwise.nil,rfl⟩
  ·have ex1:decide (ctx<0)=false:=decide_eq_false hx1
   by_cases hx2:100<ctx
   ·have HE:Hid (z=2):=(by
     show _=_
     rw[← HZ.out]
     unfold grpE
     rw[HCK.out]
     simp[hx2])
    have HRN:Hid (R=[]):=(by
     show _=_
     rw[← HR.out]
     unfold grpR
     rw[HZ.out,HE.out,if_neg (by decide)])
    clear HZ HR HCK
    go_wp2
    go_ret2
    rw[HE.out,HRN.out]
    exact⟨_,[],rfl,⟨hBW,Zii _ _ _ _,fun _ h=>by cases h⟩,List.Pairwise.nil,rfl⟩
   ·have ex2:decide (100<ctx)=false:=decide_eq_false hx2
    have HZ0:Hid (z=0):=(by
     show _=_
     rw[← HZ.out]
     unfold grpE
     rw[HCK.out]
     simp[hx1,hx2])
    have HR2:Hid (grp ctx l=R):=(by
     show _=_
     rw[← HR.out]
     unfold grpR
     rw[HZ.out,HZ0.out,if_pos rfl])
    have HNB:Hid (∀ c∈l,numB c=true):=(by
     have h:Script l n m:=(by
      have h:=HCK.out
      by_cases hq:Script l n m
      ·exact hq
      ·rw[ZcU hq] at h;cases h)
     exact ZpL h.2.2)
    obtain rfl:z=0:=HZ0.out
    clear HZ HR HCK HZ0
    go_wp2
    go_loopw [11,12,31] (fun ov ev iv wr=>∃ (i:Nat) (G:List (List Ch × Value)) (E:Int),i≤l.length∧ev=.int .i64 E∧iv=.int .i64 (i:Int)∧(∃ oo oc,ov=.slice oo G.length oc)∧G.length≤i∧Gr w ov G wr∧Hid (Apt G)∧Hid (G.map (·.1)=grp ctx (l.take i))∧Hid (enL l i=E)) (fun _ _ iv _=>l.length-(intOf iv).toNat)
    case atStart=>exact⟨0,[],0,Nat.zero_le _,by go_num,by go_num,⟨_,_,rfl⟩,Nat.le_refl _,⟨hBW,Zii _ _ _ _,fun _ h=>by cases h⟩,List.Pairwise.nil,rfl,rfl⟩
    case round =>
     obtain⟨i,G,E,hi,rfl,rfl,⟨oo,oc,rfl⟩,hGi,hS,HAP,HI,HEL⟩:=hrel
     by_cases hlt:i<l.length
     ·obtain⟨lb,lf,rfl,_,_⟩:=HCh.at hv (by omega)
      obtain⟨d,hd⟩:∃ d,l[i]=d:=⟨_,rfl⟩
      have hgA:ChAt wr lb (lf+i * 4) d:=(by
       obtain⟨b',off',e,_,hc'⟩:=HCh.at (HCh.keep hv hS.low (Nat.le_refl _)) (by omega)
       cases e
       have h:=hc' i hlt
       rw[hd] at h
       exact h)
      have hnd:=(ZmM d).1 (HNB.out d (by rw[← hd];exact List.getElem_mem hlt))
      have hEb:=Zfl HNB.out hi
      rw[HEL.out] at hEb
      have HEN:Hid (enL l (i+1)=d.A+d.AN):=(by show _=_;rw[Zfm hlt,hd])
      obtain⟨nr,hnr⟩:∃ nr,nrB ctx l i d=nr:=⟨_,rfl⟩
      have HNR:Hid (nrB ctx l i d=nr):=hnr
      have HNE:Hid ((decide (0<i) && decide (d.A-E≤2 * ctx))=nr):=(by show _=_;rw[← hnr,ZmG hlt,HEL.out])
      have hgt:=Zhn (ctx:=ctx) hlt
      rw[hd] at hgt
      have HGT:Hid ((nrB ctx l i d=true→∃ gs gl,grp ctx (l.take i)=gs++[gl]∧grp ctx (l.take (i+1))=gs++[gl++[d]])∧(nrB ctx l i d=false→grp ctx (l.take (i+1))=grp ctx (l.take i)++[[d]])):=hgt
      have i1:0≤(i:Int):=by omega
      have i2:(i:Int)<(l.length:Int):=by omega
      obtain⟨d0,d1,d2,d3⟩:=hgA
      have hbc:=Cx.new wr d
      obtain⟨x0,x1,x2,x3⟩:=hbc.cells
      have hS1:=hS.alloc (chO d)
      have hsz0:=hS.low.size
      have HSX:Hid ((wr.alloc (chO d)).heap.size=wr.heap.size+1):=(by show _=_;simp)
      have hW:wr.alloc (Obj.cells #[Value.int IntKind.i64 d.A,Value.int IntKind.i64 d.AN,Value.int IntKind.i64 d.B,Value.int IntKind.i64 d.BN] 64)=wr.alloc (chO d):=rfl
      have HIB:Hid (∀ x∈G,∀ j,x.2.ownBlock=some j→j<wr.heap.size):=fun x hx j hj=>ZnD (hS.ins x hx) hj
      clear hnr hgt HEL hS
      generalize hwr1:wr.alloc (chO d)=wr1 at *
      go_upto_region 11 with fail
      clear hW d0 d1 d2 d3
      generalize hbC:wr.heap.size=bc at *
      go_cut [46] from 32 to 68 (fun c wz=>c=.bool (!nr)∧wr1=wz)
      case first =>
       by_cases hi0:i=0
       ·have e1:((i:Int) == 0)=true:=(by rw[beq_iff_eq];omega)
        obtain rfl:nr=false:=(by rw[← HNE.out,hi0];rfl)
        clear HI HNR HGT HNE hi0
        go_wp2_with fail
        go_meet
        case rel=>exact⟨rfl,rfl⟩
       ·have e1:((i:Int) == 0)=false:=(by rw[beq_eq_false_iff_ne];omega)
        have hne:=HNE.out
        rw[decide_eq_true (by omega:0<i),Bool.true_and] at hne
        have e2:decide (2 * ctx<d.A-E)=!nr:=(by
         rw[← hne]
         by_cases hq:d.A-E≤2 * ctx
         ·rw[decide_eq_true hq,decide_eq_false (by omega)];rfl
         ·rw[decide_eq_false hq,decide_eq_true (by omega)];rfl)
        clear HI HNR HGT HNE hi0 hne
        go_wp2_with fail
        go_meet
        case rel=>exact⟨rfl,rfl⟩
      case rest =>
      obtain⟨rfl,rfl⟩:=hcut
      go_upto_if 46 with fail
      go_cut [11] from 32 to 68 (fun ov wz=>∃ (P:List (List Ch × Value)) (gl:List Ch) (gv:Value) (oo:Option Addr) (oc:Nat),ov=.slice oo (P.length+1) oc∧P.length≤i∧gl.length≤l.length∧Gr w ov (P++[(gl,gv)]) wz∧Cx wz bc d∧Hid (gv.ownBlock≠some bc)∧Hid (Apt (P++[(gl,gv)]))∧Hid (P.map (·.1)++[gl++[d]]=grp ctx (l.take (i+1))))
      case first =>
       cases nr with
       | true =>
        obtain⟨gs,gl,hg1,hg2⟩:=HGT.out.1 HNR.out
        have hI:=HI.out
        rw[hg1] at hI
        obtain⟨P,gv,rfl,hPm⟩:=ZkW hI
        have hgll:gl.length≤l.length:=(by
         have hf:=Zhi ctx (l.take i)
         rw[hg1] at hf
         have:=congrArg List.length hf
         simp at this
         omega)
        have HN:Hid (P.map (·.1)++[gl++[d]]=grp ctx (l.take (i+1))):=(by show _=_;rw[hg2,hPm])
        have eP:(P++[(gl,gv)]).length=P.length+1:=by simp
        have hPl:P.length≤i:=by rw[eP] at hGi;omega
        rw[eP] at hS1 ⊢
        clear HI HNR HGT hg1 hg2 hI hPm HNE hGi eP
        go_wp2_with fail
        go_meet
        case rel=>exact⟨P,gl,gv,_,_,rfl,hPl,hgll,hS1,hbc,fun e=>(by have:=HIB.out (gl,gv) (by simp) bc e;omega),HAP,HN⟩
       | false =>
        have hg2:=HGT.out.2 HNR.out
        have HN:Hid (G.map (·.1)++[[]++[d]]=grp ctx (l.take (i+1))):=(by
         show _=_
         rw[hg2,HI.out]
         rfl)
        have hS2:=hS1.alloc (.cells #[.slice none 0 0] 25)
        have hrow2:=Zms wr1
        have HS2:Hid ((wr1.alloc (.cells #[.slice none 0 0] 25)).heap.size=wr1.heap.size+1):=(by show _=_;simp)
        have hbc2:Cx (wr1.alloc (.cells #[.slice none 0 0] 25)) bc d:=hbc.low ((Below.refl _ wr1).alloc (Nat.le_refl _) _)
        have hGl:G.length≤1099511627776:=by omega
        have HAM:Hid (Apt (G++[([],.slice none 0 0)])):=Zbf HAP.out []
        clear HI HNR HGT hg2 HNE
        go_wp2_with (at_builtin;refine ZuZ _ (by kernel_rfl) (.tmp 47) (.tmp 48) 90 25 (.slice none 0 0) 1 24 rfl Tryz.underlying90 infoCs rfl (by decide) (by decide) w.heap.size _ _ _ rfl hS2.own _ 1 [.slice none 0 0] rfl hrow2 rfl (by intro u hu;simp at hu;subst hu;rfl) (by omega) (by have:=HS2.out;have:=HSX.out;omega) ?_)
        intro v3 u3 hown3 hg3 _
        have hS3:=hS2.more (g:=[]) (gv:=.slice none 0 0) (Zii _ _ _ _) hg3 (ov':=v3) hown3
        have hbc3:=hbc2.keep hg3 (fun e=>ZeQ hbc2 hS2.own e.symm)
        obtain⟨o3,c3,rfl⟩:=(holds_of hown3).form
        clear hown3 hg3
        go_wp2_with fail
        go_meet
        case rel=>exact⟨G,[],_,_,_,rfl,hGi,Nat.zero_le _,hS3,hbc3,(fun e=>by cases e),HAM,HN⟩
      case rest =>
       obtain⟨P,gl,gv,oo,oc,rfl,hPl,hgll,hS4,hbz,HGV,HAP4,HN4⟩:=hcut
       generalize wc=wz at *
       have HN:∀ gv':Value,Hid ((P++[(gl++[d],gv')]).map (·.1)=grp ctx (l.take (i+1))):=fun gv'=>(by
        show _=_
        rw[← HN4.out,List.map_append]
        rfl)
       clear HN4 hS1 hbc x0 x1 x2 x3 HAP HNR HNE HI HGT
       obtain⟨qb,rfl⟩:=Zin (by have h:=hS4.own;rw[List.length_append,List.length_singleton] at h;exact h)
       have k1:(0:Int)≤(P.length:Int):=by omega
       have k2:(P.length:Int)<(P.length:Int)+1:=by omega
       go_upto_region 14 with fail
       have hGD:=(hS4.drewN 1).alloc (chO d)
       have hda:((wz.drewN 1).alloc (chO d)).heap.size=wz.heap.size+1:=by simp
       have hsz:=hS4.low.size
       have hlastown:((wz.drewN 1).alloc (chO d)).ownsRow w.heap.size 64 4 gv gl.length (chcells gl):=hGD.ins (gl,gv) (by simp)
       obtain⟨go,gc,hgv⟩:=(holds_of hlastown).form
       subst hgv
       obtain⟨v3,u3,hr3,hown3,hg3,hb3⟩:=Zqx ((wz.drewN 1).alloc (chO d)) 25 64 25 (.agg #[.int .i64 0,.int .i64 0,.int .i64 0,.int .i64 0]) 4 32 Tryz.underlying25 infoCh rfl (by decide) (by decide) w.heap.size _ _ _ hlastown _ 1 (chcells [d]) (Zcw (wz.drewN 1) d) rfl (ZcD _) (by omega) (by rw[hda];omega)
       rw[← ZcA] at hown3
       obtain⟨p3,q3,hv3⟩:=(holds_of hown3).form
       subst hv3
       have HA4:Hid (Apt (P++[(gl++[d],Value.slice p3 (gl.length+1) q3)])):=Zbd HAP4.out hGD hb3
       obtain⟨qb',cap,hov,hcell3,hfr3,hG4,_⟩:=hGD.last (g':=gl++[d]) (Zbe HAP4.out) hg3 (by rw[List.length_append];exact hown3) hb3
       simp only[Value.slice.injEq,Option.some.injEq,Addr.mk.injEq] at hov
       obtain⟨⟨rfl,_⟩,_,rfl⟩:=hov
       have hcellD:(wz.drewN 1).cell? ⟨qb,P.length,none⟩=some (.slice go gl.length gc):=(by
        have h:=hS4.own
        rw[List.length_append,List.length_singleton] at h
        have:=h.cellAt P.length (by omega)
        rw[show (wz.drewN 1).cell? ⟨qb,P.length,none⟩=wz.cell? ⟨qb,P.length,none⟩ from rfl,this]
        simp)
       have hcellA:((wz.drewN 1).alloc (chO d)).cell? ⟨qb,P.length,none⟩=some (.slice go gl.length gc):=(by
        have h:=hGD.own
        rw[List.length_append,List.length_singleton] at h
        have:=h.cellAt P.length (by omega)
        rw[this]
        simp)
       have hLD:Low w (wz.drewN 1):=Below.dN hS4.low 1
       have hLA:Low w ((wz.drewN 1).alloc (chO d)):=ZkF _ hLD
       have hL3:Low w u3:=Below.grown hLA hg3 (Below.size hLA) (fun j hj=>ZnH hlastown hj)
       have hL5:Low w (u3.setCell ⟨qb,P.length,none⟩ (.slice p3 (gl.length+1) q3)):=hG4.low
       have hSD:Low w (wz.drewN 1)∧Cx (wz.drewN 1) bc d:=⟨hLD,hbz⟩
       have hSA:Low w ((wz.drewN 1).alloc (chO d))∧Cx ((wz.drewN 1).alloc (chO d)) bc d:=⟨hLA,Cx.low (u:=wz.drewN 1) hbz ((Below.refl _ (wz.drewN 1)).alloc (Nat.le_refl _) _)⟩
       have hS3:Low w u3∧Cx u3 bc d:=⟨hL3,hSA.2.keep hg3 (fun e=>HGV.out e.symm)⟩
       have hS5:Low w (u3.setCell ⟨qb,P.length,none⟩ (.slice p3 (gl.length+1) q3))∧Cx (u3.setCell ⟨qb,P.length,none⟩ (.slice p3 (gl.length+1) q3)) bc d:=⟨hL5,hS3.2.keep (Zhd u3 qb P.length _) (fun e=>ZeQ hbz hS4.own e.symm)⟩
       obtain⟨y0,y1,y2,y3⟩:=hS5.2.cells
       clear hown3 hg3 hb3 hlastown
       refine wp_region_noPanic ?_
       refine wp_region_held_drew (S:=fun u=>Low w u∧Cx u bc d) (by kernel_rfl) hSD (fun hHeld=>?_)
       refine Y_t 0 55 _ (.pointer (some ⟨qb,P.length,none⟩)) rfl (Or.inl ⟨by kernel_rfl,fun u hu=>by kernel_rfl⟩) hHeld ?_
       simp only[Act.put,Y_a,Y_b,Y_c]
       refine Y_t 1 56 _ (.pointer (some ⟨qb,P.length,none⟩)) rfl (Or.inl ⟨by kernel_rfl,fun u hu=>by kernel_rfl⟩) hHeld ?_
       simp only[Act.put,Y_a,Y_b,Y_c]
       refine Y_t 2 57 _ (.pointer (some ⟨qb,P.length,none⟩)) rfl (Or.inl ⟨by kernel_rfl,fun u hu=>ZfD (.tmp 56) (by kernel_rfl) (by kernel_rfl)⟩) hHeld ?_
       simp only[Act.put,Y_a,Y_b,Y_c]
       refine Y_t 4 59 _ (chV d) rfl (Or.inl ⟨by kernel_rfl,fun u hu=>Zku hu.2.cells (.tmp 14) (by kernel_rfl) (by kernel_rfl)⟩) hHeld ?_
       simp only[Act.put,Y_a,Y_b,Y_c]
       refine ZgT 3 58 _ 5 60 _ rfl (by kernel_rfl) rfl (by kernel_rfl) (by kernel_rfl) (by kernel_rfl) (by kernel_rfl) (.slice go gl.length gc) (wz.drewN 1) (Zkv hcellD (.tmp 57) (by kernel_rfl) (by kernel_rfl)) hSD (.slice (some ⟨(wz.drewN 1).heap.size,0,none⟩) 1 1) ((wz.drewN 1).alloc (chO d)) (by kernel_rfl) hSA ?_ ?_
       ·simp only[Act.put,Y_a,Y_b,Y_c]
        refine Y_v 5 60 _ rfl (.slice (some ⟨(wz.drewN 1).heap.size,0,none⟩) 1 1) ((wz.drewN 1).alloc (chO d)) (by kernel_rfl) (hSA) ?_
        simp only[Act.put,Y_a,Y_b,Y_c]
        refine Y_v 6 61 _ rfl (.slice p3 (gl.length+1) q3) (u3) (Zfz (.tmp 58) (.tmp 60) (by kernel_rfl) (by kernel_rfl) (by kernel_rfl) hr3) (hS3) ?_
        simp only[Act.put,Y_a,Y_b,Y_c]
        refine Y_t 7 62 _ (.pointer (some ⟨qb,P.length,none⟩)) rfl (Or.inl ⟨by kernel_rfl,fun u hu=>ZfD (.tmp 55) (by kernel_rfl) (by kernel_rfl)⟩) hS3 ?_
        simp only[Act.put,Y_a,Y_b,Y_c]
        refine Y_s 8 _ rfl (u3.setCell ⟨qb,P.length,none⟩ (.slice p3 (gl.length+1) q3)) (ZfG hfr3 hcell3 (.tmp 62) (.tmp 61) (by kernel_rfl) (by kernel_rfl) (by kernel_rfl)) (hS5) ?_
        refine wpAnyH_done (by kernel_rfl) ?_ _
        refine NoPanic.normal ?_
        go_wp2
        exact⟨⟨i+1,P++[(gl++[d],.slice p3 (gl.length+1) q3)],_,by omega,by go_num,by go_num,⟨_,_,by rw[List.length_append,List.length_singleton]⟩,by rw[List.length_append,List.length_singleton];omega,hG4,HA4,HN _,HEN⟩,by simp[intOf];omega⟩
       ·simp only[Act.put,Y_a,Y_b,Y_c]
        refine Y_v 3 58 _ rfl (.slice go gl.length gc) ((wz.drewN 1).alloc (chO d)) (Zkv hcellA (.tmp 57) (by kernel_rfl) (by kernel_rfl)) (hSA) ?_
        simp only[Act.put,Y_a,Y_b,Y_c]
        refine Y_v 6 61 _ rfl (.slice p3 (gl.length+1) q3) (u3) (Zfz (.tmp 58) (.tmp 60) (by kernel_rfl) (by kernel_rfl) (by kernel_rfl) hr3) (hS3) ?_
        simp only[Act.put,Y_a,Y_b,Y_c]
        refine Y_t 7 62 _ (.pointer (some ⟨qb,P.length,none⟩)) rfl (Or.inl ⟨by kernel_rfl,fun u hu=>ZfD (.tmp 55) (by kernel_rfl) (by kernel_rfl)⟩) hS3 ?_
        simp only[Act.put,Y_a,Y_b,Y_c]
        refine Y_s 8 _ rfl (u3.setCell ⟨qb,P.length,none⟩ (.slice p3 (gl.length+1) q3)) (ZfG hfr3 hcell3 (.tmp 62) (.tmp 61) (by kernel_rfl) (by kernel_rfl) (by kernel_rfl)) (hS5) ?_
        refine wpAnyH_done (by kernel_rfl) ?_ _
        refine NoPanic.normal ?_
        go_wp2
        exact⟨⟨i+1,P++[(gl++[d],.slice p3 (gl.length+1) q3)],_,by omega,by go_num,by go_num,⟨_,_,by rw[List.length_append,List.length_singleton]⟩,by rw[List.length_append,List.length_singleton];omega,hG4,HA4,HN _,HEN⟩,by simp[intOf];omega⟩
     ·have HIe:Hid (G.map (·.1)=R):=(by
       show _=_
       rw[HI.out,List.take_of_length_le (by omega)]
       exact HR2.out)
      have hend:decide ((i:Int)<(l.length:Int))=false:=decide_eq_false (by omega)
      clear HI
      go_wp2
      go_ret2
      exact⟨_,G,rfl,hS,HAP.out,HIe.out⟩
 ·have hc1:(ck != 0)=true:=by simpa using hc0
  have HE:Hid (z=ck):=(by
   show _=_
   rw[← HZ.out]
   unfold grpE
   rw[HCK.out]
   simp[hc0])
  have HRN:Hid (R=[]):=(by
   show _=_
   rw[← HR.out]
   unfold grpR
   rw[HZ.out,HE.out,if_neg (by exact hc0)])
  clear HZ HR HCK hc0
  go_wp2
  go_ret2
  rw[HE.out,HRN.out]
  exact⟨_,[],rfl,⟨hBW,Zii _ _ _ _,fun _ h=>by cases h⟩,List.Pairwise.nil,rfl⟩
end

end Go.Proofs.YtgiojkhmkeocfaaGreatDoor

/- A region that draws its order, in a round: ten operations that read, in whatever order, then the rest as the text has it. -/
namespace Go.Proofs.YtgiojkhmkeocfaaGreatDoor
open Go.RowKit Go.Shelf
namespace R10
abbrev B10:=Fin 10→Bool
def one (c:Bool):Nat:=if c then 1 else 0
def cnt (b:B10):Nat:=one (b 0)+one (b 1)+one (b 2)+one (b 3)+one (b 4)+one (b 5)+one (b 6)+one (b 7)+one (b 8)+one (b 9)
end R10
end Go.Proofs.YtgiojkhmkeocfaaGreatDoor

namespace Go.Proofs.YtgiojkhmkeocfaaGreatDoor

section
open Go.RowKit Go.Shelf
open R10
attribute [local go_sem] Oper.semAt_some
theorem Zeu (A:List (List UInt8)) (i n:Int) (j:Nat) (u:Value) (h:(scells (cut A i n))[j]?=some u):(scells A)[i.toNat+j]?=some u∧j<n.toNat:=by
 simp only[scells,cut,List.getElem?_map,List.getElem?_take,List.getElem?_drop] at h ⊢
 split at h
 ·exact⟨h,by assumption⟩
 ·simp at h
theorem ZeB (A:List (List UInt8)) (i n:Int) (h0:0≤i) (h1:0≤n) (h2:i+n≤A.length):(cut A i n).length=n.toNat:=by
 simp[cut];omega
theorem Zqz (A:List (List UInt8)) (ao:Option Addr) (cap:Nat) (i n:Int) (h0:0≤i) (h1:0≤n) (h2:i+n≤A.length) (w:World) (hA:HS w (.slice ao A.length cap) A) :
  ∃ vs,(∀ u:World,(Instr.slice 23 (.slice ao A.length cap) (some (.int .i64 i)) (some (.int .i64 (i+n))) none).run Tryz.prog u=.ok vs u)∧(∀ u:World,HS u (.slice ao A.length cap) A→HS u vs (cut A i n)):=by
 have hnc:A.length≤cap∧(ao=none→A=[]):=by
  rcases hA with ⟨h,h3,_⟩ | ⟨ad,c,h,h3,_⟩
  ·exact⟨by omega,fun _=>List.eq_nil_of_length_eq_zero h3⟩
  ·cases h
   exact⟨h3,fun h=>by cases h⟩
 refine⟨.slice (if cap=i.toNat then ao else ao.map (·.add i.toNat)) n.toNat (cap-i.toNat),fun u=>?_,fun u hu=>?_⟩
 ·rw[run_slice_lh (P:=Tryz.prog) u 23 ao A.length cap (by kernel_rfl) .i64 .i64 i (i+n) h0 (by omega) (by omega)]
  have:(sizeOf (Tryz.prog.elem 23)).run Tryz.prog u=.ok 1 u:=by kernel_rfl
  rw[this]
  simp only[Result.andThen,sliced,Nat.mul_one]
  congr 2
  omega
 ·unfold HS
  rw[ZeB A i n h0 h1 h2]
  cases ao with
  | none =>
   have hA0:=hnc.2 rfl
   subst hA0
   have:i=0:=by simp at h2;omega
   subst this
   have:n=0:=by simp at h2;omega
   subst this
   refine .inl ⟨?_,rfl,by simp[cut,scells]⟩
   rcases hA with ⟨h,h3,_⟩ | ⟨ad,c,h,h3,_⟩
   ·cases h;simp
   ·cases h
  | some ad =>
   refine .inr ⟨if cap=i.toNat then ad else ad.add i.toNat,cap-i.toNat,by split<;>simp,by omega,fun j x hj=>?_⟩
   obtain⟨h4,h5⟩:=Zeu A i n j x hj
   rcases hu with ⟨h,_⟩ | ⟨ad',c,h,h3,hc⟩
   ·cases h
   ·cases h
    have:=hc _ _ h4
    rw[if_neg (by omega)]
    obtain⟨b,off,rfl⟩:=addr_of (hc 0 _ (List.getElem?_eq_getElem (by rw[scells_length];omega)))
    rw[add_none] at this
    rw[add_none,add_none,Nat.add_assoc]
    exact this
end

section
open Go.RowKit
end

section
open Go.RowKit
attribute [local simp] ZvC ZkG
theorem ZqA (A:List (List UInt8)) (ao:Option Addr) (cap:Nat) (i h:Int) (h0:0≤i) (h1:i≤h) (h2:h≤A.length) (w:World) (hA:HS w (.slice ao A.length cap) A) :
  ∃ vo vc,(∀ u:World,(Instr.slice 23 (.slice ao A.length cap) (some (.int .i64 i)) (some (.int .i64 h)) none).run Tryz.prog u=.ok (.slice vo (cut A i (h-i)).length vc) u)∧(∀ u:World,HS u (.slice ao A.length cap) A→HS u (.slice vo (cut A i (h-i)).length vc) (cut A i (h-i))):=by
 obtain⟨vs,h3,h4⟩:=Zqz A ao cap i (h-i) h0 (by omega) (by omega) w hA
 obtain⟨vo,vc,rfl⟩:=Holds.form (h4 w hA)
 have e:i+(h-i)=h:=by omega
 rw[e] at h3
 exact⟨vo,vc,h3,h4⟩
end

section
open Go.RowKit
structure La (w:World) (q:Hk) (ov:Value) (u:World):Prop where
 low:Below w.heap.size w u
 box:Hx u w.heap.size q ov
 own:u.ownsRow (w.heap.size+1) 103 2 ov q.ls.length (mkcells q.ls)
def CK (u u':World):Prop:=∀ B c,Cx u B c→Cx u' B c
theorem Zdh (u:World):CK u u:=fun _ _ h=>h
theorem Zdi {u u' u'':World} (h:CK u u') (h':CK u' u''):CK u u'':=fun B c q=>h' B c (h B c q)
theorem Zdg {u u':World} (h:Below u.heap.size u u'):CK u u':=fun _ _ q=>q.low h
theorem ZeS {u:World} {b:Nat} {d:Ch} (h:Cx u b d) {B s n:Nat} {v:Value} {xs:List Value} (ho:u.ownsRow B 103 s v n xs):v.ownBlock≠some b:=by
 intro e
 rcases ho.2 with ⟨rfl,_⟩ | ⟨g,cap,cur,rfl,_,hg,_⟩
 ·cases e
 ·simp only[Value.ownBlock,Option.some.injEq] at e
  subst e
  unfold Cx chO at h
  rw[h] at hg
  simp at hg
theorem ZeR {u:World} {b b':Nat} {d:Ch} (h:Cx u b d) {q:Hk} {v:Value} (hx:Hx u b' q v):b≠b':=by
 rintro rfl
 unfold Cx chO at h
 unfold Hx hkO at hx
 rw[h] at hx
 simp at hx
section
variable {w u u':World} {q:Hk} {ov ov':Value} {x':List Mk}
theorem La.alloc (h:La w q ov u) (o:Obj):La w q ov (u.alloc o):=⟨h.low.alloc h.low.size o,h.box.low ((Below.refl _ u).alloc (Nat.le_refl _) o),h.own.alloc o⟩
theorem La.drewN (h:La w q ov u) (n:Nat):La w q ov (u.drewN n):=⟨Below.dN h.low n,h.box,h.own⟩
theorem La.ck (h:La w q ov u) (j:Nat) (z:Value):CK u (u.setCell ⟨w.heap.size,j,none⟩ z):=fun _ _ p=>p.keep (Zhd u _ j z) (fun e=>ZeR p h.box (Option.some.inj e))
theorem La.grow (h:La w q ov u) (hg:u.grownBy u' ov.ownBlock) (ho:u'.ownsRow (w.heap.size+1) 103 2 ov' x'.length (mkcells x')):Hx u' w.heap.size q ov∧La w ⟨q.A,q.AN,q.B,q.BN,x'⟩ ov' (u'.setCell ⟨w.heap.size,4,none⟩ ov')∧CK u (u'.setCell ⟨w.heap.size,4,none⟩ ov'):=by
 have hbx:Hx u' w.heap.size q ov:=h.box.keep hg (fun e=>by have:=ZnH h.own e.symm;omega)
 have hs:=Zhd u' w.heap.size 4 ov'
 have hlow:Below w.heap.size w u':=h.low.grown hg h.low.size (fun j hj=>by have:=ZnH h.own hj;omega)
 refine⟨hbx,⟨hlow.grown hs hlow.size (fun j hj=>by cases hj;exact Nat.le_refl _),hbx.setl ov',ZnC ho hs ?_⟩,?_⟩
 ·intro k hk e
  cases hk
  have:=ZnH ho e
  omega
 ·intro B c p
  have p1:=p.keep hg (fun e=>ZeS p h.own e.symm)
  exact p1.keep hs (fun e=>ZeR p1 hbx (Option.some.inj e))
theorem La.own_set (h:La w q ov u) (j:Nat) (z:Value):Below w.heap.size w (u.setCell ⟨w.heap.size,j,none⟩ z)∧(u.setCell ⟨w.heap.size,j,none⟩ z).ownsRow (w.heap.size+1) 103 2 ov q.ls.length (mkcells q.ls):=by
 have hs:=Zhd u w.heap.size j z
 refine⟨h.low.grown hs h.low.size (fun j hj=>by cases hj;exact Nat.le_refl _),ZnC h.own hs ?_⟩
 intro k hk e
 cases hk
 have:=ZnH h.own e
 omega
theorem La.setA (h:La w q ov u) (z:Int):La w ⟨z,q.AN,q.B,q.BN,q.ls⟩ ov (u.setCell ⟨w.heap.size,0,none⟩ (.int .i64 z)):=⟨(h.own_set 0 _).1,heap_setCell_same u _ 0 _ _ _ h.box,(h.own_set 0 _).2⟩
theorem La.setAN (h:La w q ov u) (z:Int):La w ⟨q.A,z,q.B,q.BN,q.ls⟩ ov (u.setCell ⟨w.heap.size,1,none⟩ (.int .i64 z)):=⟨(h.own_set 1 _).1,heap_setCell_same u _ 1 _ _ _ h.box,(h.own_set 1 _).2⟩
theorem La.setB (h:La w q ov u) (z:Int):La w ⟨q.A,q.AN,z,q.BN,q.ls⟩ ov (u.setCell ⟨w.heap.size,2,none⟩ (.int .i64 z)):=⟨(h.own_set 2 _).1,heap_setCell_same u _ 2 _ _ _ h.box,(h.own_set 2 _).2⟩
theorem La.setBN (h:La w q ov u) (z:Int):La w ⟨q.A,q.AN,q.B,z,q.ls⟩ ov (u.setCell ⟨w.heap.size,3,none⟩ (.int .i64 z)):=⟨(h.own_set 3 _).1,heap_setCell_same u _ 3 _ _ _ h.box,(h.own_set 3 _).2⟩
end
theorem Zov {no sg:Int} (t:List (List UInt8)):pkL no (mks sg t)=if sg≠no∧okS sg=true then t else []:=by
 induction t with
 | nil=>simp[mks,pkL]
 | cons s t ih =>
  rw[ZlO,pkL,ih]
  split<;>rfl
theorem ZlP (sg:Int) (t:List (List UInt8)):(mks sg t).length=t.length:=by simp[mks]
theorem Zie (w u:World) (q:Hk) (ov:Value) (sg:Int) (t:List (List UInt8)) (vt:Value) (hL:La w q ov u) (hsg:sg=32∨sg=45∨sg=43) (ht:HS w vt t) (hlen:q.ls.length+t.length≤1099511627776) (han:0≤q.AN∧q.AN≤4611686018427387904) (hbn:0≤q.BN∧q.BN≤4611686018427387904) (an bn:Int) (x':List Mk) (HAN:Hid (q.AN+((pkL 43 (mks sg t)).length:Int)=an)) (HBN:Hid (q.BN+((pkL 45 (mks sg t)).length:Int)=bn)) (HX:Hid (q.ls++mks sg t=x')):Calls Tryz.prog 87 #[.int .u8 sg,vt,.pointer (some ⟨w.heap.size,0,none⟩)] u fun e u'=>e=.returned (.tuple #[])∧(∃ ov',La w ⟨q.A,an,q.B,bn,x'⟩ ov' u')∧CK u u':=by
 obtain⟨tO,tc,rfl⟩:=Holds.form ht
 obtain⟨A,AN,B,BN,ls⟩:=q
 dsimp only at hlen han hbn HAN HBN HX ⊢
 go_enter Tryz.func87,Tryz.ntmps87
 go_wp2
 go_loopw [9] (fun iv wr=>∃ (k:Nat) (ov:Value) (x:List Mk),k≤t.length∧iv=.int .i64 (k:Int)∧x.length=ls.length+k∧La w ⟨A,AN,B,BN,x⟩ ov wr∧CK u wr∧Hid (x++mks sg (t.drop k)=x')) (fun iv _=>t.length-(intOf iv).toNat)
 case atStart=>exact⟨0,ov,ls,Nat.zero_le _,by go_num,rfl,hL,Zdh _,HX⟩
 case round =>
  obtain⟨k,ov,x,hk,rfl,hxl,hL,hck,HI⟩:=hrel
  clear HX
  obtain⟨oo,oc,hov⟩:=(holds_of hL.own).form
  subst hov
  obtain⟨b0,b1,b2,b3,b4⟩:=hL.box.cells
  dsimp only at b0 b1 b2 b3 b4
  by_cases hlt:k<t.length
  ·obtain⟨tb,tf,rfl,_,htc⟩:=HS.at (HS.keep ht hL.low (Nat.le_refl _)) (by omega)
   obtain⟨tx,htx⟩:∃ tx,t[k]=tx:=⟨_,rfl⟩
   have c0:=htc k hlt
   rw[htx] at c0
   have HI2:Hid (x++[⟨sg,tx⟩]++mks sg (t.drop (k+1))=x'):=(by
    have h:=HI.out
    rw[List.drop_eq_getElem_cons hlt,htx,ZlO] at h
    show _=_
    rw[← h]
    simp)
   have i1:0≤(k:Int):=by omega
   have i2:(k:Int)<(t.length:Int):=by omega
   have hL2:=hL.alloc (mkO ⟨sg,tx⟩)
   have hck2:=Zdi hck (Zdg ((Below.refl _ wr).alloc (Nat.le_refl _) (mkO ⟨sg,tx⟩)))
   have hrow:=ZlD wr ⟨sg,tx⟩
   have hbl:=hL.box.lt
   have HS2:Hid ((wr.alloc (mkO ⟨sg,tx⟩)).heap.size=wr.heap.size+1):=(by show _=_;simp)
   have hW:wr.alloc (Obj.cells #[Value.int IntKind.u8 sg,Value.string ⟨tx.toArray⟩] 103)=wr.alloc (mkO ⟨sg,tx⟩):=rfl
   have hxk:x.length+1≤2199023255552:=by omega
   have HXL:Hid (x.length=ls.length+k):=hxl
   clear HI htx htc hxl
   go_wp2_with (at_builtin;refine ZuZ _ (by kernel_rfl) (.tmp 14) (.tmp 18) 57 103 (.agg #[.int .u8 0,.string ⟨#[]⟩]) 2 24 rfl Tryz.underlying57 infoMk rfl (by decide) (by decide) (w.heap.size+1) _ _ _ rfl hL2.own _ 1 (mkcells [⟨sg,tx⟩]) rfl hrow (ZlK _) (ZlL _) hxk (by have:=HS2.out;omega) ?_)
   intro v3 u3 hown3 hg3 _
   rw[← ZlH] at hown3
   obtain⟨o3,c3,rfl⟩:=(holds_of hown3).form
   obtain⟨hbx3,hL4,hck4⟩:=hL2.grow (x':=x++[⟨sg,tx⟩]) hg3 (by rw[List.length_append];exact hown3)
   obtain⟨f0,f1,f2,f3,f4⟩:=hbx3.cells
   have ff:=hbx3.frozen 4
   clear hW hg3 hown3
   go_wp2
   exact⟨⟨k+1,_,x++[⟨sg,tx⟩],by omega,by go_num,by have:=HXL.out;simp;omega,hL4,Zdi hck2 hck4,HI2⟩,by simp[intOf];omega⟩
  ·have HX2:Hid (x=x'):=(by
    have h:=HI.out
    rw[List.drop_of_length_le (by omega)] at h
    show x=x'
    simpa [mks] using h)
   have hend:decide ((k:Int)<(t.length:Int))=false:=decide_eq_false (by omega)
   have hf1:=hL.box.frozen 1
   have hf3:=hL.box.frozen 3
   have HP1:=Zov (no:=43) (sg:=sg) t
   have HP2:=Zov (no:=45) (sg:=sg) t
   rw[HP1] at HAN
   rw[HP2] at HBN
   clear HI HP1 HP2 hxl
   rcases hsg with rfl | rfl | rfl
   ·have hA:Hid (AN+(t.length:Int)=an):=(by have h:=HAN.out;rw[if_pos (by decide)] at h;exact h)
    have hB:Hid (BN+(t.length:Int)=bn):=(by have h:=HBN.out;rw[if_pos (by decide)] at h;exact h)
    have hL4:=hL.setAN (AN+(t.length:Int))
    have hk4:=hL.ck 1 (.int .i64 (AN+(t.length:Int)))
    have hL5:=hL4.setBN (BN+(t.length:Int))
    have hk5:=hL4.ck 3 (.int .i64 (BN+(t.length:Int)))
    obtain⟨g0,g1,g2,g3,g4⟩:=hL4.box.cells
    dsimp only at g0 g1 g2 g3 g4
    have hg3:=hL4.box.frozen 3
    clear HAN HBN
    go_wp2
    (try simp only[Exit.inBlock,Exit.then])
    first | refine bodyPost_ret (results_none rfl _ _ _) rfl ?_ | refine bodyPost_end (results_none rfl _ _ _) rfl ?_
    refine⟨rfl,⟨.slice oo x.length oc,?_⟩,Zdi hck (Zdi hk4 hk5)⟩
    rw[← hA.out,← hB.out,← HX2.out]
    exact hL5
   ·have hA:Hid (AN+(t.length:Int)=an):=(by have h:=HAN.out;rw[if_pos (by decide)] at h;exact h)
    have hB:Hid (BN=bn):=(by have h:=HBN.out;rw[if_neg (by decide)] at h;show _=_;simpa using h)
    have hL4:=hL.setAN (AN+(t.length:Int))
    have hk4:=hL.ck 1 (.int .i64 (AN+(t.length:Int)))
    clear HAN HBN
    go_wp2
    (try simp only[Exit.inBlock,Exit.then])
    first | refine bodyPost_ret (results_none rfl _ _ _) rfl ?_ | refine bodyPost_end (results_none rfl _ _ _) rfl ?_
    refine⟨rfl,⟨.slice oo x.length oc,?_⟩,Zdi hck hk4⟩
    rw[← hA.out,← hB.out,← HX2.out]
    exact hL4
   ·have hA:Hid (AN=an):=(by have h:=HAN.out;rw[if_neg (by decide)] at h;show _=_;simpa using h)
    have hB:Hid (BN+(t.length:Int)=bn):=(by have h:=HBN.out;rw[if_pos (by decide)] at h;exact h)
    have hL4:=hL.setBN (BN+(t.length:Int))
    have hk4:=hL.ck 3 (.int .i64 (BN+(t.length:Int)))
    clear HAN HBN
    go_wp2
    (try simp only[Exit.inBlock,Exit.then])
    first | refine bodyPost_ret (results_none rfl _ _ _) rfl ?_ | refine bodyPost_end (results_none rfl _ _ _) rfl ?_
    refine⟨rfl,⟨.slice oo x.length oc,?_⟩,Zdi hck hk4⟩
    rw[← hA.out,← hB.out,← HX2.out]
    exact hL4
end

section
open Go.RowKit
def Lb (w:World) (x:List Mk) (u:World):Prop:=∃ (ov:Value) (an bn:Int),La w ⟨0,an,0,bn,x⟩ ov u∧((pkL 43 x).length:Int)=an∧((pkL 45 x).length:Int)=bn
theorem Lb.alloc {w u:World} {x:List Mk} (h:Lb w x u) (o:Obj):Lb w x (u.alloc o):=by
 obtain⟨ov,an,bn,h1,h2⟩:=h
 exact⟨ov,an,bn,h1.alloc o,h2⟩
theorem Lb.low {w u:World} {x:List Mk} (h:Lb w x u):Below w.heap.size w u:=by
 obtain⟨ov,an,bn,h1,h2⟩:=h
 exact h1.low
theorem Zor (no:Int) (x y:List Mk):((pkL no x).length:Int)+((pkL no y).length:Int)=((pkL no (x++y)).length:Int):=by
 rw[Zol,List.length_append]
 omega
theorem Zid (w u:World) (x:List Mk) (sg:Int) (t:List (List UInt8)) (vt:Value) (hL:Lb w x u) (hsg:sg=32∨sg=45∨sg=43) (ht:HS w vt t) (x':List Mk) (HX:Hid (x++mks sg t=x')) (hlen:x'.length≤1099511627776):Calls Tryz.prog 87 #[.int .u8 sg,vt,.pointer (some ⟨w.heap.size,0,none⟩)] u fun e u'=>e=.returned (.tuple #[])∧Lb w x' u'∧CK u u':=by
 obtain⟨ov,an,bn,h1,h2,h3⟩:=hL
 have e1:=Zom 43 x
 have e2:=Zom 45 x
 have hl:x.length+t.length=x'.length:=by rw[← HX.out,List.length_append,ZlP]
 have h4:an+((pkL 43 (mks sg t)).length:Int)=((pkL 43 x').length:Int):=by rw[← h2,← HX.out];exact Zor 43 _ _
 have h5:bn+((pkL 45 (mks sg t)).length:Int)=((pkL 45 x').length:Int):=by rw[← h3,← HX.out];exact Zor 45 _ _
 refine (Zie w u ⟨0,an,0,bn,x⟩ ov sg t vt h1 hsg ht (by dsimp only;omega) (by dsimp only;omega) (by dsimp only;omega) _ _ x' h4 h5 HX).mono ?_
 rintro e u' ⟨rfl,⟨ov',h6⟩,h7⟩
 exact⟨rfl,⟨ov',_,_,h6,rfl,rfl⟩,h7⟩
theorem ZfL {u:World} {p q:Int} (h:IntKind.i64.wrap (p-q)=p-q) {op:Oper} (x y:Operand) (ho:op.op=.binOp .sub 3 x y 3) {ev:Operand→Value} (hx:ev x=.int .i64 p) (hy:ev y=.int .i64 q) :
  (execOp ev op).run Tryz.prog u=.ok (.value (.int .i64 (p-q))) u:=by
 simp only[execOp,ho,hx,hy]
 go_simp
theorem ZfJ {u:World} {a:Addr} (hf:u.frozen? a=false) {z0:Int} (hc:u.cell? a=some (.int .i64 z0)) {z:Int} {op:Oper} (x y:Operand) (ho:op.op=.store 3 x y) {ev:Operand→Value} (hx:ev x=.pointer (some a)) (hy:ev y=.int .i64 z) :
  (execOp ev op).run Tryz.prog u=.ok .skip (u.setCell a (.int .i64 z)):=by
 simp only[execOp,ho,hx,hy]
 go_simp
theorem ZhF (g rest:List Ch) (f:Ch) (a b:List (List UInt8)) (ctx:Int) (vg va vb:Value) (w:World) (hg:HCh w vg (f::g)) (ha:HS w va a) (hb:HS w vb b) (hal:a.length≤1099511627776) (hbl:b.length≤1099511627776) (hgl:g.length≤1099511627776) (hc:0≤ctx∧ctx≤100) (hR:Right true (f.A-min ctx f.A) (f.B-min ctx f.A) a.length b.length (f::g++rest))
  (hfb:0≤f.B-min ctx f.A) (hnl:∀ c∈f::g,0≤c.A∧c.A≤2147483647∧0≤c.AN∧c.AN≤2147483647) (R:Hk) (HR:Hid (oneH a b ctx (f::g)=R)) (hRl:R.ls.length≤549755813888):Calls Tryz.prog 44 #[vg,va,vb,.int .i64 ctx] w fun e w'=>∃ v',e=.returned (hkV R v')∧w'.ownsRow w.heap.size 103 2 v' R.ls.length (mkcells R.ls)∧Below w.heap.size w w':=by
 obtain⟨go,gc,rfl⟩:=Holds.form hg
 obtain⟨ao,ac,rfl⟩:=Holds.form ha
 obtain⟨bo,bc,rfl⟩:=Holds.form hb
 obtain⟨gb,gf,rfl,_,hgc⟩:=HCh.at hg (by simp)
 have p0:=hgc 0 (by simp)
 rw[List.getElem_cons_zero] at p0
 clear hgc
 obtain⟨N,hN⟩:∃ N,g.length=N:=⟨_,rfl⟩
 have HNN:Hid (g.length=N):=hN
 rw[hN] at hgl
 rw[List.length_cons,hN] at hg ⊢
 clear hN
 have hnf:=hnl f (by simp)
 have hRf:=hR
 rw[List.cons_append] at hRf
 have hnumf:=(ZmM f).1 hRf.1.1
 obtain⟨m,hm⟩:∃ m,min ctx f.A=m:=⟨_,rfl⟩
 have hm1:(if f.A<ctx then f.A else ctx)=m:=by rw[← hm];split<;>omega
 have hmb:0≤m∧m≤f.A∧m≤ctx:=by omega
 obtain⟨E,hE⟩:∃ E,endH a.length ctx (f::g)=E:=⟨_,rfl⟩
 obtain⟨RL,hRL⟩:∃ RL,bodyH a b E (f.A-m) (f::g)=RL:=⟨_,rfl⟩
 have HRR:Hid (R=cntH (f.A-m) (f.B-m) RL):=(by
  show _=_
  rw[← HR.out]
  show cntH (f.A-min ctx f.A) (f.B-min ctx f.A) (bodyH a b (endH a.length ctx (f::g)) (f.A-min ctx f.A) (f::g))=_
  rw[hm,hE,hRL])
 have hRLl:RL.length≤549755813888:=by have:=hRl;rw[HRR.out] at this;exact this
 have HEE:Hid (min (a.length:Int) (endA (f.A-m) (f::g)+ctx)=E):=(by show _=_;rw[← hE,Zfo _ _ _ _ (f.A-m)])
 have HRL:Hid (bodyH a b E (f.A-m) (f::g)=RL):=hRL
 rw[hm] at hR hfb
 have HRT:Hid (Right true (f.A-m) (f.B-m) a.length b.length (f::g++rest)∧0≤f.B-m):=⟨hR,hfb⟩
 have HNL:Hid (∀ c∈f::g,0≤c.A∧c.A≤2147483647∧0≤c.AN∧c.AN≤2147483647):=hnl
 have HRLL:Hid (R.ls.length=RL.length):=(by show _=_;rw[HRR.out];rfl)
 clear hRL hR HR hE hm hRf hnl hRl
 -- the boxes
 have hz0:=Hx.new w ⟨0,0,0,0,[]⟩ (.slice none 0 0)
 have hB0:Below w.heap.size w (w.alloc (hkO ⟨0,0,0,0,[]⟩ (.slice none 0 0))):=(Below.refl _ w).alloc (Nat.le_refl _) _
 have HW1:Hid ((w.alloc (hkO ⟨0,0,0,0,[]⟩ (.slice none 0 0))).heap.size=w.heap.size+1):=(by show _=_;simp)
 have hWa:w.alloc (Obj.cells #[Value.int IntKind.i64 0,Value.int IntKind.i64 0,Value.int IntKind.i64 0,Value.int IntKind.i64 0,.slice none 0 0] 59)=w.alloc (hkO ⟨0,0,0,0,[]⟩ (.slice none 0 0)):=rfl
 generalize hW1:w.alloc (hkO ⟨0,0,0,0,[]⟩ (.slice none 0 0))=W1 at *
 have hB1:Below W1.heap.size W1 (W1.alloc (hkO ⟨0,0,0,0,[]⟩ (.slice none 0 0))):=(Below.refl _ W1).alloc (Nat.le_refl _) _
 have hLb:Lb W1 [] (W1.alloc (hkO ⟨0,0,0,0,[]⟩ (.slice none 0 0))):=⟨_,0,0,⟨hB1,Hx.new W1 _ _,Zii _ _ _ _⟩,rfl,rfl⟩
 have HW2:Hid ((W1.alloc (hkO ⟨0,0,0,0,[]⟩ (.slice none 0 0))).heap.size=W1.heap.size+1):=(by show _=_;simp)
 have hWb:W1.alloc (Obj.cells #[Value.int IntKind.i64 0,Value.int IntKind.i64 0,Value.int IntKind.i64 0,Value.int IntKind.i64 0,.slice none 0 0] 59)=W1.alloc (hkO ⟨0,0,0,0,[]⟩ (.slice none 0 0)):=rfl
 generalize hW2:W1.alloc (hkO ⟨0,0,0,0,[]⟩ (.slice none 0 0))=W2 at *
 have hB02:=hB0.trans (hB1.mono hB0.size)
 have r0:ChAt W2 gb (gf+0 * 4) f:=ChAt.low p0 hB02
 rw[show gf+0 * 4=gf by omega] at r0
 obtain⟨q0,q1,q2,q3⟩:=r0
 have hc11:=Cx.new W2 f
 have hLb2:=hLb.alloc (chO f)
 obtain⟨x0,x1,x2,x3⟩:=hc11.cells
 have hWc:W2.alloc (Obj.cells #[Value.int IntKind.i64 f.A,Value.int IntKind.i64 f.AN,Value.int IntKind.i64 f.B,Value.int IntKind.i64 f.BN] 64)=W2.alloc (chO f):=rfl
 clear p0 hW1 hW2 hLb
 generalize hW3:W2.alloc (chO f)=W3 at *
 have n1:(0:Int)<(N:Int)+1:=by omega
 go_enter Tryz.func44,Tryz.ntmps44
 go_wp2
 clear hWa hWb hWc q0 q1 q2 q3 x0 x1 x2 x3 hW3
 generalize hB11:W2.heap.size=B11 at *
 have hA1:HS W1 (.slice ao a.length ac) a:=HS.keep ha hB0 (Nat.le_refl _)
 have hA2:HS W1 (.slice bo b.length bc) b:=HS.keep hb hB0 (Nat.le_refl _)
 go_loopw [13,30] (fun nv iv wr=>∃ (i:Nat) (p q:Int) (fl:Bool) (x:List Mk),i≤N+1∧nv=.int .i64 p∧iv=.int .i64 (i:Int)∧(0≤p∧p≤4294967296)∧Lb W1 x wr∧Cx wr B11 f∧Hid (min (a.length:Int) (endA p ((f::g).drop i)+ctx)=E)∧Hid (Right fl p q a.length b.length ((f::g).drop i++rest)∧0≤q)∧Hid (x++bodyH a b E p ((f::g).drop i)=RL)) (fun _ iv _=>N+1-(intOf iv).toNat)
 case atStart=>exact⟨0,f.A-m,f.B-m,true,[],Nat.zero_le _,rfl,by go_num,by omega,hLb2,hc11,HEE,HRT,HRL⟩
 case round =>
  obtain⟨i,p,q,fl,x,hi,rfl,rfl,hpb,hL,hc11,HEi,HRi,HI⟩:=hrel
  clear HEE HRT HRL hLb2
  have hBw:Below w.heap.size w wr:=hB0.trans (hL.low.mono hB0.size)
  by_cases hlt:i<N+1
  ·have hil:i<(f::g).length:=by rw[List.length_cons,HNN.out];exact hlt
   obtain⟨c,hci⟩:∃ c,(f::g)[i]=c:=⟨_,rfl⟩
   have hdr:(f::g).drop i=c::(f::g).drop (i+1):=by rw[List.drop_eq_getElem_cons hil,hci]
   have hgA:ChAt wr gb (gf+i * 4) c:=(by
    have hg2:HCh w (.slice (some ⟨gb,gf,none⟩) (N+1) gc) (f::g):=hg
    obtain⟨b',off',e,_,hc'⟩:=HCh.at (HCh.keep hg2 hBw (Nat.le_refl _)) (by simp)
    cases e
    have:=hc' i hil
    rw[hci] at this
    exact this)
   have hncl:=HNL.out c (by rw[← hci];exact List.getElem_mem hil)
   have hRi:=HRi.out
   rw[hdr,List.cons_append] at hRi
   obtain⟨⟨⟨k1,k2,k3,k4⟩,k5⟩,hq0⟩:=hRi
   have k1':=(ZmM c).1 k1
   have k6:=k5.le
   have HRn:Hid (Right false (c.A+c.AN) (c.B+c.BN) a.length b.length ((f::g).drop (i+1)++rest)∧0≤c.B+c.BN):=⟨k5,by omega⟩
   have HEn:Hid (min (a.length:Int) (endA (c.A+c.AN) ((f::g).drop (i+1))+ctx)=E):=(by have h:=HEi.out;rw[hdr] at h;exact h)
   have HI1:Hid (x++bodyH a b E p (c::(f::g).drop (i+1))=RL):=(by have h:=HI.out;rw[hdr] at h;exact h)
   obtain⟨cA,cAN,cB,cBN⟩:=c
   dsimp only at k1' k2 k3 k4 k5 k6 HRn HEn hncl
   obtain⟨RS,hRS⟩:∃ r,bodyH a b E (cA+cAN) ((f::g).drop (i+1))=r:=⟨_,rfl⟩
   have HRS:Hid (bodyH a b E (cA+cAN) ((f::g).drop (i+1))=RS):=hRS
   obtain⟨v1o,v1c,r1,h1⟩:=ZqA a ao ac p cA hpb.1 k3 (by omega) W1 hA1
   obtain⟨t1,ht1⟩:∃ t,cut a p (cA-p)=t:=⟨_,rfl⟩
   obtain⟨v2,r2,h2⟩:=Zqz a ao ac cA cAN (by omega) (by omega) (by omega) W1 hA1
   obtain⟨t2,ht2⟩:∃ t,cut a cA cAN=t:=⟨_,rfl⟩
   obtain⟨v3,r3,h3⟩:=Zqz b bo bc cB cBN (by omega) (by omega) (by omega) W1 hA2
   obtain⟨t3,ht3⟩:∃ t,cut b cB cBN=t:=⟨_,rfl⟩
   have s1:=h1 W1 hA1
   have s2:=h2 W1 hA1
   have s3:=h3 W1 hA2
   rw[ht1] at r1 s1
   rw[ht2] at s2
   rw[ht3] at s3
   obtain⟨v2o,v2c,rfl⟩:=Holds.form s2
   obtain⟨v3o,v3c,rfl⟩:=Holds.form s3
   obtain⟨x1,hx1⟩:∃ y,x++mks 32 t1=y:=⟨_,rfl⟩
   obtain⟨x2,hx2⟩:∃ y,x1++mks 45 t2=y:=⟨_,rfl⟩
   obtain⟨x3,hx3⟩:∃ y,x2++mks 43 t3=y:=⟨_,rfl⟩
   have hI3:x3++RS=RL:=(by
    have h:=HI1.out
    simp only[bodyH] at h
    rw[ht1,ht2,ht3,hRS] at h
    rw[← hx3,← hx2,← hx1,← h]
    simp)
   have HX1:Hid (x++mks 32 t1=x1):=hx1
   have HX2:Hid (x1++mks 45 t2=x2):=hx2
   have HX3:Hid (x2++mks 43 t3=x3):=hx3
   have HI3:Hid (x3++bodyH a b E (cA+cAN) ((f::g).drop (i+1))=RL):=(by show _=_;rw[hRS];exact hI3)
   have l3:x3.length≤549755813888:=by have:=congrArg List.length hI3;rw[List.length_append] at this;omega
   have l2:x2.length≤549755813888:=by have:=congrArg List.length hx3;rw[List.length_append] at this;omega
   have l1:x1.length≤549755813888:=by have:=congrArg List.length hx2;rw[List.length_append] at this;omega
   have i1:0≤(i:Int):=by omega
   have i2:(i:Int)<(N:Int)+1:=by omega
   obtain⟨d0,d1,d2,d3⟩:=hgA
   have hcc:=Cx.new wr ⟨cA,cAN,cB,cBN⟩
   have hL1:=hL.alloc (chO ⟨cA,cAN,cB,cBN⟩)
   have hf1:Cx (wr.alloc (chO ⟨cA,cAN,cB,cBN⟩)) B11 f:=hc11.low ((Below.refl _ wr).alloc (Nat.le_refl _) _)
   obtain⟨y0,y1,y2,y3⟩:=hcc.cells
   have hW:wr.alloc (Obj.cells #[Value.int IntKind.i64 cA,Value.int IntKind.i64 cAN,Value.int IntKind.i64 cB,Value.int IntKind.i64 cBN] 64)=wr.alloc (chO ⟨cA,cAN,cB,cBN⟩):=rfl
   dsimp only at d0 d1 d2 d3 y0 y1 y2 y3
   clear HI HI1 HEi HRi k5 hdr hci hil ht1 ht2 ht3 hx1 hx2 hx3 hI3 hRS h1 h2 h3 hL hc11
   generalize hwr1:wr.alloc (chO ⟨cA,cAN,cB,cBN⟩)=wr1 at *
   go_wp2_with fail
   generalize hBC:wr.heap.size=bC at *
   refine (Zid W1 wr1 x 32 t1 _ hL1 (.inl rfl) s1 x1 HX1 (by omega)).mono ?_
   rintro e u1 ⟨rfl,hL2,hk1⟩
   have hcc1:=hk1 _ _ hcc
   have hf2:=hk1 _ _ hf1
   obtain⟨z0,z1,z2,z3⟩:=hcc1.cells
   dsimp only at z0 z1 z2 z3
   clear y0 y1 y2 y3 hW d0 d1 d2 d3 hL1 hcc hf1 hk1
   go_wp2_with fail
   refine (Zid W1 u1 x1 45 t2 _ hL2 (.inr (.inl rfl)) s2 x2 HX2 (by omega)).mono ?_
   rintro e u2 ⟨rfl,hL3,hk2⟩
   have hcc2:=hk2 _ _ hcc1
   have hf3:=hk2 _ _ hf2
   obtain⟨y0,y1,y2,y3⟩:=hcc2.cells
   dsimp only at y0 y1 y2 y3
   clear z0 z1 z2 z3 hL2 hcc1 hf2 hk2
   go_wp2_with fail
   refine (Zid W1 u2 x2 43 t3 _ hL3 (.inr (.inr rfl)) s3 x3 HX3 (by omega)).mono ?_
   rintro e u3 ⟨rfl,hL4,hk3⟩
   have hf4:=hk3 _ _ hf3
   clear y0 y1 y2 y3 hL3 hcc2 hf3 hk3
   go_wp2
   exact⟨⟨i+1,cA+cAN,cB+cBN,false,x3,by omega,rfl,by go_num,by omega,hL4,hf4,HEn,HRn,HI3⟩,by simp[intOf];omega⟩
  ·have hdr:(f::g).drop i=[]:=List.drop_of_length_le (by rw[List.length_cons,HNN.out];omega)
   have hE2:min (a.length:Int) (p+ctx)=E:=(by have h:=HEi.out;rw[hdr] at h;exact h)
   have hE1:(if (a.length:Int)<p+ctx then (a.length:Int) else p+ctx)=E:=by rw[← hE2];split<;>omega
   have hRi:=HRi.out.1
   rw[hdr,List.nil_append] at hRi
   have k6:=hRi.le
   have HI1:Hid (x++mks 32 (cut a p (E-p))=RL):=(by have h:=HI.out;rw[hdr] at h;exact h)
   obtain⟨v1o,v1c,r1,h1⟩:=ZqA a ao ac p E hpb.1 (by omega) (by omega) W1 hA1
   obtain⟨t1,ht1⟩:∃ t,cut a p (E-p)=t:=⟨_,rfl⟩
   have s1:=h1 W1 hA1
   rw[ht1] at r1 s1 HI1
   have hend:decide ((i:Int)<(N:Int)+1)=false:=decide_eq_false (by omega)
   clear HI HEi HRi hdr hRi ht1 h1 hE2
   go_wp2_with fail
   refine (Zid W1 wr x 32 t1 _ hL (.inl rfl) s1 RL HI1 (by omega)).mono ?_
   rintro e wz ⟨rfl,hL2,hk1⟩
   have hf2:=hk1 _ _ hc11
   obtain⟨ov,an,bn,hL3,han,hbn⟩:=hL2
   have HAN:Hid (((pkL 43 RL).length:Int)=an):=han
   have HBN:Hid (((pkL 45 RL).length:Int)=bn):=hbn
   obtain⟨nA,hnA⟩:∃ z,(if 0<an then f.A-m+1 else f.A-m)=z:=⟨_,rfl⟩
   obtain⟨nB,hnB⟩:∃ z,(if 0<bn then f.B-m+1 else f.B-m)=z:=⟨_,rfl⟩
   have HNA:Hid ((if 0<an then f.A-m+1 else f.A-m)=nA):=hnA
   have HNB:Hid ((if 0<bn then f.B-m+1 else f.B-m)=nB):=hnB
   have HRv:Hid (R=⟨nA,an,nB,bn,RL⟩):=(by
    show _=_
    rw[HRR.out,← hnA,← hnB,← han,← hbn]
    unfold cntH
    simp only[Int.natCast_pos])
   have hw1:IntKind.i64.wrap (f.A-m)=f.A-m:=Zvd (by omega) (by omega)
   have hw2:IntKind.i64.wrap (f.B-m)=f.B-m:=Zvd (by omega) (by omega)
   clear hnA hnB han hbn hk1 hL hc11
   obtain⟨oo,oc,hov⟩:=(holds_of hL3.own).form
   dsimp only at hov
   subst hov
   have hLD:=hL3.drewN 1
   have hfD:Cx (wz.drewN 1) B11 f:=hf2
   have hcD0:=hLD.box.cells.1
   have hfD0:=hLD.box.frozen 0
   have hL4:=hLD.setA nA
   have hf4:=hLD.ck 0 (.int .i64 nA) _ _ hfD
   have hcD2:=hL4.box.cells.2.2.1
   have hfD2:=hL4.box.frozen 2
   have hL5:=hL4.setB nB
   have hf5:=hL4.ck 2 (.int .i64 nB) _ _ hf4
   dsimp only at hcD0 hcD2 hL4 hL5
   have hSD:∃ A B,La W1 ⟨A,an,B,bn,RL⟩ (.slice oo RL.length oc) (wz.drewN 1)∧Cx (wz.drewN 1) B11 f:=⟨0,0,hLD,hfD⟩
   have hS1:∃ A B,La W1 ⟨A,an,B,bn,RL⟩ (.slice oo RL.length oc) ((wz.drewN 1).setCell ⟨W1.heap.size,0,none⟩ (.int .i64 nA))∧Cx ((wz.drewN 1).setCell ⟨W1.heap.size,0,none⟩ (.int .i64 nA)) B11 f:=⟨nA,0,hL4,hf4⟩
   have hS2:∃ A B,La W1 ⟨A,an,B,bn,RL⟩ (.slice oo RL.length oc) (((wz.drewN 1).setCell ⟨W1.heap.size,0,none⟩ (.int .i64 nA)).setCell ⟨W1.heap.size,2,none⟩ (.int .i64 nB))∧Cx (((wz.drewN 1).setCell ⟨W1.heap.size,0,none⟩ (.int .i64 nA)).setCell ⟨W1.heap.size,2,none⟩ (.int .i64 nB)) B11 f:=⟨nA,nB,hL5,hf5⟩
   go_upto_region 15 with fail
   refine wp_region_noPanic ?_
   refine wp_region_held_drew (S:=fun u=>∃ A B,La W1 ⟨A,an,B,bn,RL⟩ (.slice oo RL.length oc) u∧Cx u B11 f) (by kernel_rfl) hSD (fun hHeld=>?_)
   refine Y_t 0 76 _ (.pointer (some ⟨B11,0,none⟩)) rfl (Or.inl ⟨by kernel_rfl,fun u hu=>by kernel_rfl⟩) hHeld ?_
   simp only[Act.put,Y_a,Y_b,Y_c]
   refine Y_t 1 77 _ (.int .i64 f.A) rfl (Or.inl ⟨by kernel_rfl,fun u hu=>(by obtain⟨_,_,_,hc⟩:=hu;exact ZkA hc.cells.1 (.tmp 76) (by kernel_rfl) (by kernel_rfl))⟩) hHeld ?_
   simp only[Act.put,Y_a,Y_b,Y_c]
   refine Y_t 2 78 _ (.int .i64 m) rfl (Or.inl ⟨by kernel_rfl,fun u hu=>by kernel_rfl⟩) hHeld ?_
   simp only[Act.put,Y_a,Y_b,Y_c]
   refine Y_t 3 79 _ (.int .i64 (f.A-m)) rfl (Or.inl ⟨by kernel_rfl,fun u hu=>ZfL hw1 (.tmp 77) (.tmp 78) (by kernel_rfl) (by kernel_rfl) (by kernel_rfl)⟩) hHeld ?_
   simp only[Act.put,Y_a,Y_b,Y_c]
   refine Y_t 4 80 _ (.pointer (some ⟨W1.heap.size,1,none⟩)) rfl (Or.inl ⟨by kernel_rfl,fun u hu=>by kernel_rfl⟩) hHeld ?_
   simp only[Act.put,Y_a,Y_b,Y_c]
   refine Y_t 5 81 _ (.int .i64 an) rfl (Or.inl ⟨by kernel_rfl,fun u hu=>(by obtain⟨_,_,hl,_⟩:=hu;exact ZkA hl.box.cells.2.1 (.tmp 80) (by kernel_rfl) (by kernel_rfl))⟩) hHeld ?_
   simp only[Act.put,Y_a,Y_b,Y_c]
   refine Y_t 7 83 _ (.pointer (some ⟨B11,2,none⟩)) rfl (Or.inl ⟨by kernel_rfl,fun u hu=>by kernel_rfl⟩) hHeld ?_
   simp only[Act.put,Y_a,Y_b,Y_c]
   refine Y_t 8 84 _ (.int .i64 f.B) rfl (Or.inl ⟨by kernel_rfl,fun u hu=>(by obtain⟨_,_,_,hc⟩:=hu;exact ZkA hc.cells.2.2.1 (.tmp 83) (by kernel_rfl) (by kernel_rfl))⟩) hHeld ?_
   simp only[Act.put,Y_a,Y_b,Y_c]
   refine Y_t 9 85 _ (.int .i64 m) rfl (Or.inl ⟨by kernel_rfl,fun u hu=>by kernel_rfl⟩) hHeld ?_
   simp only[Act.put,Y_a,Y_b,Y_c]
   refine Y_t 10 86 _ (.int .i64 (f.B-m)) rfl (Or.inl ⟨by kernel_rfl,fun u hu=>ZfL hw2 (.tmp 84) (.tmp 85) (by kernel_rfl) (by kernel_rfl) (by kernel_rfl)⟩) hHeld ?_
   simp only[Act.put,Y_a,Y_b,Y_c]
   refine Y_t 11 87 _ (.pointer (some ⟨W1.heap.size,3,none⟩)) rfl (Or.inl ⟨by kernel_rfl,fun u hu=>by kernel_rfl⟩) hHeld ?_
   simp only[Act.put,Y_a,Y_b,Y_c]
   refine Y_t 12 88 _ (.int .i64 bn) rfl (Or.inl ⟨by kernel_rfl,fun u hu=>(by obtain⟨_,_,hl,_⟩:=hu;exact ZkA hl.box.cells.2.2.2.1 (.tmp 87) (by kernel_rfl) (by kernel_rfl))⟩) hHeld ?_
   simp only[Act.put,Y_a,Y_b,Y_c]
   refine Y_e 6 82 _ rfl 88 (.func 88) #[.tmp 79,.tmp 81] #[3,3] (by kernel_rfl) #[] (by kernel_rfl) #[.int .i64 (f.A-m),.int .i64 an] (by kernel_rfl) (enters_of Tryz.func88 (by kernel_rfl) rfl) (fun v u=>v=.int .i64 nA∧u=wz.drewN 1) ((Zij (f.A-m) an _ (by omega) (by omega) nA HNA).mono (fun _ _ h=>⟨_,h.1,by rw[h.2];exact hSD,rfl,h.2⟩)) ?_
   rintro v w5 hHeld ⟨rfl,rfl⟩
   simp only[Act.put,Y_a,Y_b,Y_c]
   refine Y_t 14 90 _ (.pointer (some ⟨W1.heap.size,0,none⟩)) rfl (Or.inl ⟨by kernel_rfl,fun u hu=>by kernel_rfl⟩) hHeld ?_
   simp only[Act.put,Y_a,Y_b,Y_c]
   refine Y_e 13 89 _ rfl 88 (.func 88) #[.tmp 86,.tmp 88] #[3,3] (by kernel_rfl) #[] (by kernel_rfl) #[.int .i64 (f.B-m),.int .i64 bn] (by kernel_rfl) (enters_of Tryz.func88 (by kernel_rfl) rfl) (fun v u=>v=.int .i64 nB∧u=wz.drewN 1) ((Zij (f.B-m) bn _ (by omega) (by omega) nB HNB).mono (fun _ _ h=>⟨_,h.1,by rw[h.2];exact hSD,rfl,h.2⟩)) ?_
   rintro v w6 hHeld ⟨rfl,rfl⟩
   simp only[Act.put,Y_a,Y_b,Y_c]
   refine Y_s 15 _ rfl ((wz.drewN 1).setCell ⟨W1.heap.size,0,none⟩ (.int .i64 nA)) (ZfJ hfD0 hcD0 (.tmp 90) (.tmp 82) (by kernel_rfl) (by kernel_rfl) (by kernel_rfl)) (hS1) ?_
   refine Y_t 16 91 _ (.pointer (some ⟨W1.heap.size,2,none⟩)) rfl (Or.inl ⟨by kernel_rfl,fun u hu=>by kernel_rfl⟩) hS1 ?_
   simp only[Act.put,Y_a,Y_b,Y_c]
   refine Y_s 17 _ rfl (((wz.drewN 1).setCell ⟨W1.heap.size,0,none⟩ (.int .i64 nA)).setCell ⟨W1.heap.size,2,none⟩ (.int .i64 nB)) (ZfJ hfD2 hcD2 (.tmp 91) (.tmp 89) (by kernel_rfl) (by kernel_rfl) (by kernel_rfl)) (hS2) ?_
   refine wpAnyH_done (by kernel_rfl) ?_ _
   refine NoPanic.normal ?_
   generalize ((wz.drewN 1).setCell ⟨W1.heap.size,0,none⟩ (.int .i64 nA)).setCell ⟨W1.heap.size,2,none⟩ (.int .i64 nB)=W4 at *
   have hz4:=hz0.low hL5.low
   obtain⟨t0,t1,t2,t3,t4⟩:=hL5.box.cells
   obtain⟨z0,z1,z2,z3,z4⟩:=hz4.cells
   have zf:=hz4.frozen
   have zf0:=zf 0
   have zf1:=zf 1
   have zf2:=zf 2
   have zf3:=zf 3
   have zf4:=zf 4
   dsimp only at t0 t1 t2 t3 t4 z0 z1 z2 z3 z4
   have hP:=hz4.put5 (.int .i64 nA) (.int .i64 an) (.int .i64 nB) (.int .i64 bn) (.slice oo RL.length oc)
   have hlw:Below w.heap.size w W4:=hB0.trans (hL5.low.mono hB0.size)
   have hown5:=hL5.own
   clear zf
   go_wp2
   rw[HRv.out]
   refine bodyPost_ret (v:=hkV ⟨nA,an,nB,bn,RL⟩ (.slice oo RL.length oc)) (results_cell_row rfl _ _ w.heap.size 59 #[.int .i64 nA,.int .i64 an,.int .i64 nB,.int .i64 bn,.slice oo RL.length oc] (0,0) _ rfl hP Tryz.underlying59 rfl (by kernel_rfl)) rfl ⟨_,rfl,?_,?_⟩
   ·have key:∀ (u:World) (j:Nat) (z:Value),u.ownsRow w.heap.size 103 2 (.slice oo RL.length oc) RL.length (mkcells RL)→(∀ g,(Value.slice oo RL.length oc).ownBlock=some g→w.heap.size<g)→(u.setCell ⟨w.heap.size,j,none⟩ z).ownsRow w.heap.size 103 2 (.slice oo RL.length oc) RL.length (mkcells RL):=fun u j z ho hg=>ZnC ho (Zhd u _ j z) (fun k hk e=>by cases hk;have:=hg _ e;omega)
    have hgg:∀ g,(Value.slice oo RL.length oc).ownBlock=some g→w.heap.size<g:=fun g hg=>by have:=ZnH hown5 hg;have:=HW1.out;omega
    have h0:W4.ownsRow w.heap.size 103 2 (.slice oo RL.length oc) RL.length (mkcells RL):=Znz hown5 (by have:=HW1.out;omega)
    exact key _ _ _ (key _ _ _ (key _ _ _ (key _ _ _ (key _ _ _ h0 hgg) hgg) hgg) hgg) hgg
   ·exact ((((hlw.setCell (by simp) _).setCell (by simp) _).setCell (by simp) _).setCell (by simp) _).setCell (by simp) _
end

section
open Go.RowKit
theorem Hs.base {w W u:World} {ov:Value} {P:List (Hk × Value)} (h:Hs W ov P u) (hB:Below w.heap.size w W):Hs w ov P u :=
 ⟨hB.trans (h.low.mono hB.size),Znz h.own hB.size,fun x hx=>Znz (h.ins x hx) hB.size⟩
theorem Gr.at {w W u:World} {oo:Option Addr} {n oc:Nat} {G:List (List Ch × Value)} (h:Gr w (.slice oo n oc) G W) (hB:Below W.heap.size W u) {i:Nat} (hi:i<G.length) {g:List Ch} {gv:Value} (hg:G[i]=(g,gv)):∃ q,oo=some ⟨q,0,none⟩∧u.cell? ⟨q,i,none⟩=some gv∧HCh u gv g:=by
 have hh:=holds_of h.own
 obtain⟨b,off,c',hv,hb,hc⟩:=Holds.at hh (by simp;omega)
 rcases h.own.2 with ⟨_,h0⟩ | ⟨q,cap,cur,e,_⟩
 ·omega
 ·cases e
  cases hv
  refine⟨_,rfl,?_,?_⟩
  ·have h1:=hc i (by simpa using hi)
   rw[Nat.zero_add] at h1
   refine ZhG hB ?_
   rw[h1]
   simp[hg]
  ·have hin:=h.ins (g,gv) (by rw[← hg];exact List.getElem_mem hi)
   exact HCh.keep (holds_of hin) hB (Nat.le_refl _)
end

section
open Go.RowKit
theorem ZhA (l:List Ch) (a b:List (List UInt8)) (ctx:Int) (v va vb:Value) (w:World) (hv:HCh w v l) (ha:HS w va a) (hb:HS w vb b) (hl:l.length≤1099511627776) (hal:a.length≤137438953472) (hbl:b.length≤137438953472) (z:Int) (HZ:Hid (grpE l a.length b.length ctx=z)) (R:List Hk) (HR:Hid (mkR l a b ctx=R)):Calls Tryz.prog 16 #[v,va,vb,.int .i64 ctx] w fun e w'=>∃ v' P,e=.returned (.tuple #[v',.int .i64 z])∧Hs w v' P w'∧P.map (·.1)=R:=by
 obtain⟨vo,lc,rfl⟩:=Holds.form hv
 obtain⟨ao,ac,rfl⟩:=Holds.form ha
 obtain⟨bo,bc,rfl⟩:=Holds.form hb
 obtain⟨GR,hGR⟩:∃ GR,grpR l a.length b.length ctx=GR:=⟨_,rfl⟩
 have HGR:Hid (grpR l a.length b.length ctx=GR):=hGR
 have HR1:Hid (GR.map (oneH a b ctx)=R):=(by show _=_;rw[← HR.out,← hGR];rfl)
 clear hGR
 go_enter Tryz.func16,Tryz.ntmps16
 go_wp2_with fail
 refine (Zhu l a.length b.length ctx _ w hv hl (by omega) (by omega) z HZ GR HGR).mono ?_
 rintro e W ⟨gv0,G,rfl,hG,_,hGm⟩
 obtain⟨go,gc,rfl⟩:=(holds_of hG.own).form
 have HGM:Hid (G.map (·.1)=GR):=hGm
 clear hGm HR
 by_cases hz:z=0
 ·subst hz
  have HE:Hid (grp ctx l=GR∧Script l a.length b.length∧0≤ctx∧ctx≤100):=(by
   have h1:=HZ.out
   have h2:=HGR.out
   unfold grpR at h2
   rw[h1,if_pos rfl] at h2
   refine⟨h2,?_⟩
   unfold grpE at h1
   by_cases hs:Script l a.length b.length
   ·refine⟨hs,?_⟩
    rw[ZcV hs] at h1
    by_cases hx:ctx<0∨100<ctx
    ·simp[hx] at h1
    ·omega
   ·rw[ZcU hs] at h1
    simp at h1)
  have hctx:=HE.out.2.2
  have hGl:G.length≤1099511627776:=(by
   have h1:=congrArg List.length HGM.out
   have h2:(grp ctx l).length≤l.length:=(by
    have key:∀ l:List Ch,(grp ctx l).length≤l.length:=by
     intro l
     induction l with
     | nil=>simp[grp]
     | cons c l ih =>
      cases l with
      | nil=>simp[grp,gcons]
      | cons d l =>
       obtain⟨g,gs,p1,p2⟩:=Zhg ctx c d l
       rw[p2]
       rw[p1] at ih
       split<;>simp at ih ⊢<;>omega
    exact key l)
   rw[HE.out.1] at h2
   simp at h1
   omega)
  clear HZ HGR
  go_wp2
  go_loopw [12,30] (fun ov iv wr=>∃ (i:Nat) (P:List (Hk × Value)),i≤G.length∧iv=.int .i64 (i:Int)∧(∃ oo oc,ov=.slice oo i oc)∧Hs W ov P wr∧Hid (P.length=i∧P.map (·.1)=(GR.take i).map (oneH a b ctx))) (fun _ iv _=>G.length-(intOf iv).toNat)
  case atStart=>exact⟨0,[],Nat.zero_le _,by go_num,⟨_,_,rfl⟩,Hs.nil W,⟨rfl,rfl⟩⟩
  case round =>
   obtain⟨i,P,hi,rfl,⟨oo,oc,rfl⟩,hS,HP⟩:=hrel
   by_cases hlt:i<G.length
   ·obtain⟨g,gv,hgi⟩:∃ g gv,G[i]=(g,gv):=⟨_,_,rfl⟩
    obtain⟨q,rfl,hcell,hch⟩:=hG.at hS.low hlt hgi
    have hGRl:GR.length=G.length:=by rw[← HGM.out];simp
    have hGRi:GR[i]'(by omega)=g:=by
     have h1:GR[i]?=some g:=by rw[← HGM.out];simp[hlt,hgi]
     exact (List.getElem?_eq_some_iff.1 h1).2
    have hsp:GR=GR.take i++g::GR.drop (i+1):=by
     rw[← hGRi,← List.drop_eq_getElem_cons (by omega),List.take_append_drop]
    have hgne:g≠[]:=Zhl ctx l g (by rw[HE.out.1,← hGRi];exact List.getElem_mem _)
    obtain⟨f,g',rfl⟩:∃ f g',g=f::g':=by
     cases g with
     | nil=>exact absurd rfl hgne
     | cons f g'=>exact⟨f,g',rfl⟩
    obtain⟨hR1,hR2,hR3,hR4⟩:=ZqZ hctx.1 HE.out.2.1 (HE.out.1.trans hsp)
    have hnums:=ZpL hR1
    have hgl:g'.length≤1099511627776:=(by
     have h1:=congrArg List.length (Zhi ctx l)
     rw[HE.out.1,hsp] at h1
     simp only[List.flatten_append,List.flatten_cons,List.length_append,List.length_cons] at h1
     omega)
    obtain⟨H,hH⟩:∃ H,oneH a b ctx (f::g')=H:=⟨_,rfl⟩
    have HH:Hid (oneH a b ctx (f::g')=H):=hH
    rw[hH] at hR4
    have hBw:Below w.heap.size w wr:=hG.low.trans (hS.low.mono hG.low.size)
    have ha':=HS.keep ha hBw (Nat.le_refl _)
    have hb':=HS.keep hb hBw (Nat.le_refl _)
    obtain⟨ho,hc,rfl⟩:=Holds.form hch
    have HP2:∀ y:Value,Hid ((P++[(H,y)]).length=i+1∧(P++[(H,y)]).map (·.1)=(GR.take (i+1)).map (oneH a b ctx)):=fun y=>(by
     refine⟨by rw[List.length_append,HP.out.1];rfl,?_⟩
     rw[List.map_append,HP.out.2,List.take_succ_eq_append_getElem (by omega),List.map_append,hGRi]
     simp[hH])
    have i1:0≤(i:Int):=by omega
    have i2:(i:Int)<(G.length:Int):=by omega
    clear hsp hGRi hGRl hgne hgi hH
    go_wp2_with fail
    refine (ZhF g' (GR.drop (i+1)).flatten f a b ctx _ _ _ wr hch ha' hb' (by omega) (by omega) hgl hctx hR1 hR3 (fun c hc=>by have:=(ZmM c).1 (hnums c (by simp at hc ⊢;rcases hc with hc | hc;exact .inl hc;exact .inr (.inl hc)));omega) H HH (by omega)).mono ?_
    rintro e wr1 ⟨v1,rfl,hown1,hB1⟩
    obtain⟨ro,rc,rfl⟩:=(holds_of hown1).form
    have hS1:Hs W (.slice oo i oc) P wr1:=⟨hS.low.trans (hB1.mono hS.low.size),ZnI hS.own hB1,fun x hx=>ZnI (hS.ins x hx) hB1⟩
    have hown1':=Znz hown1 hS.low.size
    have hS5:=hS1.alloc (hkO H (.slice ro H.ls.length rc))
    have hrow5:=Znr wr1 H (.slice ro H.ls.length rc)
    have hown5:=hown1'.alloc (hkO H (.slice ro H.ls.length rc))
    have hl4:=hS1.low.size
    have hW5:wr1.alloc (Obj.cells #[Value.int IntKind.i64 H.A,Value.int IntKind.i64 H.AN,Value.int IntKind.i64 H.B,Value.int IntKind.i64 H.BN,.slice ro H.ls.length rc] 59)=wr1.alloc (hkO H (.slice ro H.ls.length rc)):=rfl
    have HS5:Hid ((wr1.alloc (hkO H (.slice ro H.ls.length rc))).heap.size=wr1.heap.size+1):=(by show _=_;simp)
    have hownP:=hS5.own
    rw[HP.out.1] at hownP
    unfold hkV
    clear hB1 hown1 hR1 hnums hch hcell
    go_wp2_with (at_builtin;refine ZuZ _ (by kernel_rfl) (.tmp 34) (.tmp 40) 34 59 (.agg #[.int .i64 0,.int .i64 0,.int .i64 0,.int .i64 0,.slice none 0 0]) 5 56 rfl Tryz.underlying34 infoHk rfl (by decide) (by decide) W.heap.size _ _ _ rfl hownP _ 1 (hkC H (.slice ro H.ls.length rc)) rfl hrow5 rfl (ZhO _) (by omega) (by have:=HS5.out;omega) ?_)
    intro v6 W6 hown6 hg6 _
    have hS6:=hS5.more hown5 hg6 (ov':=v6) (by rw[HP.out.1];exact hown6)
    obtain⟨ro6,rc6,rfl⟩:=(holds_of hown6).form
    clear hg6 hown6 hownP hrow5
    go_wp2
    exact⟨⟨i+1,P++[(H,.slice ro H.ls.length rc)],by omega,by go_num,⟨_,_,rfl⟩,hS6,HP2 _⟩,by simp[intOf];omega⟩
   ·have hend:decide ((i:Int)<(G.length:Int))=false:=decide_eq_false (by omega)
    have HF:Hid (P.map (·.1)=R):=(by
     have hGRl:GR.length=G.length:=by rw[← HGM.out];simp
     show _=_
     rw[HP.out.2,List.take_of_length_le (by omega)]
     exact HR1.out)
    go_wp2
    go_ret2
    exact⟨_,P,rfl,hS.base hG.low,HF.out⟩
 ·have hz1:(z != 0)=true:=by simpa using hz
  have HRN:Hid (R=[]):=(by
   show _=_
   rw[← HR1.out,← HGR.out]
   unfold grpR
   rw[HZ.out,if_neg hz]
   rfl)
  clear HZ HGR hz
  go_wp2
  go_ret2
  rw[HRN.out]
  exact⟨_,[],rfl,⟨hG.low,Zii _ _ _ _,fun _ h=>by cases h⟩,rfl⟩
end

section
open Go.RowKit
end

section
open Go.RowKit
structure Pz (W0:World) (g:Nat) (x y:List Int) (a b c d:Nat) (xo:Option Addr) (nx xc:Nat) (yo:Option Addr) (ny yc:Nat) (ko:Option Addr) (kc:Nat):Prop where
 eb:b=a+nx
 ed:d=c+ny
 bx:b≤x.length
 dy:d≤y.length
 hx:Holds W0 (.slice xo nx xc) nx (icells (sub x a b))
 hy:Holds W0 (.slice yo ny yc) ny (icells (sub y c d))
 hk:nx≤kc
 at':0<nx→ko=some ⟨g,a,none⟩
section
variable {W0:World} {g:Nat} {x y:List Int} {a b c d:Nat} {xo:Option Addr} {nx xc:Nat} {yo:Option Addr} {ny yc:Nat} {ko:Option Addr} {kc:Nat}
end
def Qbx (u:World) (B:Nat) (v0 v1 v2 v3:Value):Prop:=u.heap[B]?=some (.cells #[v0,v1,v2,v3] 243 (0,0))
section
variable {u u':World} {B:Nat} {v0 v1 v2 v3:Value}
theorem Qbx.lt (h:Qbx u B v0 v1 v2 v3):B<u.heap.size:=(Array.getElem?_eq_some_iff.1 h).1
theorem Qbx.drewN (h:Qbx u B v0 v1 v2 v3) (k:Nat):Qbx (u.drewN k) B v0 v1 v2 v3:=h
end
end

section
open Go.RowKit
attribute [local simp] ZkG
structure Ke (W0 w:World) (g:Nat) (x y K:List Int) (a b c d:Nat) (xo:Option Addr) (nx xc:Nat) (yo:Option Addr) (ny yc:Nat) (ko:Option Addr) (kc:Nat) (u:World):Prop where
 pz:Pz W0 g x y a b c d xo nx xc yo ny yc ko kc
 ls:Ls W0 g x.length K u
 box:Qbx u w.heap.size (.slice xo nx xc) (.slice yo ny yc) (.int .i64 c) (.slice ko nx kc)
 res:Qbx u (w.heap.size+1) (.slice none 0 0) (.slice none 0 0) (.int .i64 0) (.slice none 0 0)
 gr:w.grownBy u (some g)
section
variable {W0 w:World} {g:Nat} {x y K:List Int} {a b c d:Nat} {xo:Option Addr} {nx xc:Nat} {yo:Option Addr} {ny yc:Nat} {ko:Option Addr} {kc:Nat} {u u':World}
end
end

section
open Go.RowKit
end

section
open Go.RowKit
section
variable {W0:World} {g:Nat} {x y:List Int} {a b c d:Nat} {xo:Option Addr} {nx xc:Nat} {yo:Option Addr} {ny yc:Nat} {ko:Option Addr} {kc:Nat}
end
end

section
open Go.RowKit
theorem Zbn (a b:Int) (l:List Rn):(betw a b l).length≤l.length:=by
 induction l generalizing a b with
 | nil=>simp[betw]
 | cons r l ih =>
  rw[betw]
  have:=ih (r.a+r.n) (r.b+r.n)
  split<;>simp<;>omega
theorem Zly (K:List Int) (m:Int):(mkL K m).length≤K.length+1:=by
 unfold mkL
 have h1:=Zbn 0 0 (keptR 0 K++[⟨(K.length:Int),m,0⟩])
 have h2:=Zju 0 K
 rw[List.length_append,List.length_singleton] at h1
 omega
end

section
open Go.RowKit
def tm (c:Int):List Int→Nat
 | []=>0
 | a::x=>(if a=c then 1 else 0)+tm c x
def ps (c i:Int):Int→List Int→List Pr
 | _,[]=>[]
 | j,b::y=>(if b=c then [⟨i,j⟩] else [])++ps c i (j+1) y
def uq (x0 y0:List Int):Int→List Int→List Pr
 | _,[]=>[]
 | i,a::x=>(if tm a x0=1∧tm a y0=1 then ps a i 0 y0 else [])++uq x0 y0 (i+1) x
def unq (x y:List Int):List Pr:=uq x y 0 x
end

section
theorem Zog (left:Nat) (last:Option Pr) (l:List Pr) (ns:List Nat):∀ p∈pick left last l ns,p∈l:=by
 induction l generalizing left last ns with
 | nil=>intro p hp;simp[pick] at hp
 | cons a l ih =>
  intro p hp
  cases ns with
  | nil=>simp[pick] at hp
  | cons n ns =>
   rw[pick] at hp
   split at hp
   ·rcases List.mem_cons.1 hp with rfl | hp
    ·exact List.mem_cons_self ..
    ·exact List.mem_cons_of_mem _ (ih _ _ _ p hp)
   ·exact List.mem_cons_of_mem _ (ih _ _ _ p hp)
theorem Zok (left:Nat) (last:Option Pr) (l:List Pr) (ns:List Nat):(pick left last l ns).Pairwise (fun p q=>ab q p)∧∀ q,last=some q→∀ p∈pick left last l ns,ab p q:=by
 induction l generalizing left last ns with
 | nil=>exact⟨by simp[pick],fun _ _ p hp=>by simp[pick] at hp⟩
 | cons a l ih =>
  cases ns with
  | nil=>exact⟨by simp[pick],fun _ _ p hp=>by simp[pick] at hp⟩
  | cons n ns =>
   rw[pick]
   split
   ·rename_i h
    obtain⟨h1,h2⟩:=ih (left-1) (some a) ns
    refine⟨List.Pairwise.cons (fun q hq=>h2 a rfl q hq) h1,fun q hq p hp=>?_⟩
    rcases List.mem_cons.1 hp with rfl | hp
    ·exact h.2 q hq
    ·exact ZaB (h2 a rfl p hp) (h.2 q hq)
   ·exact ih left last ns
theorem Zkp (l:List Pr):∀ p∈lng l,p∈l:=Zog _ _ _ _
theorem Zkq (l:List Pr):(lng l).Pairwise (fun p q=>ab q p):=(Zok _ _ _ _).1
theorem ZoR {c i:Int} (y:List Int):∀ (j:Int) (p:Pr),p∈ps c i j y→p.X=i∧j≤p.Y∧p.Y<j+y.length:=by
 induction y with
 | nil=>intro j p hp;simp[ps] at hp
 | cons b y ih =>
  intro j p hp
  rw[ps,List.mem_append] at hp
  rcases hp with hp | hp
  ·split at hp
   ·simp at hp
    subst hp
    exact⟨rfl,Int.le_refl _,by simp;omega⟩
   ·simp at hp
  ·have:=ih (j+1) p hp
   simp only[List.length_cons]
   omega
theorem Zui (x0 y0:List Int) (x:List Int):∀ (i:Int) (p:Pr),p∈uq x0 y0 i x→i≤p.X∧p.X<i+x.length∧0≤p.Y∧p.Y<y0.length:=by
 induction x with
 | nil=>intro i p hp;simp[uq] at hp
 | cons a x ih =>
  intro i p hp
  rw[uq,List.mem_append] at hp
  rcases hp with hp | hp
  ·split at hp
   ·have:=ZoR y0 0 p hp
    simp only[List.length_cons]
    omega
   ·simp at hp
  ·have:=ih (i+1) p hp
   simp only[List.length_cons]
   omega
theorem ZkO (x y:List Int) (p:Pr) (hp:p∈lng (unq x y)):0≤p.X∧p.X<x.length∧0≤p.Y∧p.Y<y.length:=by
 have:=Zui x y x 0 p (Zkp _ p hp)
 omega
def gos (rec:Nat→Nat→Nat→Nat→List Pr) (A C b d:Nat):Nat→Nat→List Pr→List Pr
 | a,c,[]=>rec a b c d
 | a,c,p::L=>rec a (A+p.X.toNat) c (C+p.Y.toNat)++⟨(A+p.X.toNat:Nat),(C+p.Y.toNat:Nat)⟩::gos rec A C b d (A+p.X.toNat+1) (C+p.Y.toNat+1) L
def pmid (x y:List Int) (rec:Nat→Nat→Nat→Nat→List Pr) (a b c d:Nat):List Pr :=
 if lng (unq (sub x a b) (sub y c d))=[] then lp a c (kp 0 (sub x a b) (sub y c d)) else gos rec a c b d a c (lng (unq (sub x a b) (sub y c d)))
theorem ZoQ {c i:Int} (y:List Int):∀ (j:Nat) (p:Pr),p∈ps c i j y→y[p.Y.toNat-j]?=some c:=by
 induction y with
 | nil=>intro j p hp;simp[ps] at hp
 | cons b y ih =>
  intro j p hp
  rw[ps,List.mem_append] at hp
  rcases hp with hp | hp
  ·split at hp
   ·rename_i h
    simp at hp
    subst hp
    simp[h]
   ·simp at hp
  ·have h1:=ih (j+1) p (by simpa using hp)
   have h2:=ZoR y (j+1:Int) p hp
   rw[show p.Y.toNat-j=(p.Y.toNat-(j+1))+1 by omega]
   simpa using h1
theorem Zuh (x0 y0:List Int) (x:List Int):∀ (i:Nat) (p:Pr),p∈uq x0 y0 i x→x[p.X.toNat-i]?=y0[p.Y.toNat]?:=by
 induction x with
 | nil=>intro i p hp;simp[uq] at hp
 | cons a x ih =>
  intro i p hp
  rw[uq,List.mem_append] at hp
  rcases hp with hp | hp
  ·split at hp
   ·have h1:=ZoQ y0 0 p (by simpa using hp)
    have h2:=ZoR y0 0 p hp
    simp at h1
    rw[h1,h2.1]
    simp
   ·simp at hp
  ·have h1:=ih (i+1) p (by simpa using hp)
   have h2:=Zui x0 y0 x (i+1:Int) p hp
   rw[show p.X.toNat-i=(p.X.toNat-(i+1))+1 by omega]
   simpa using h1
theorem Zqh (x y:List Int) (a b c d:Nat) (hb:b≤x.length) (hd:d≤y.length) (p:Pr) (hp:p∈lng (unq (sub x a b) (sub y c d))):0≤p.X∧0≤p.Y∧a≤a+p.X.toNat∧a+p.X.toNat<b∧c≤c+p.Y.toNat∧c+p.Y.toNat<d∧x[a+p.X.toNat]?=y[c+p.Y.toNat]?:=by
 have h:=ZkO _ _ p hp
 have h2:=Zuh _ _ _ 0 p (Zkp _ p hp)
 rw[Zsw x a b hb,Zsw y c d hd] at h
 rw[Nat.sub_zero,Zsv x a b _ (by omega),Zsv y c d _ (by omega)] at h2
 refine⟨by omega,by omega,by omega,by omega,by omega,by omega,h2⟩
theorem ZgX (x y:List Int) (rec:Nat→Nat→Nat→Nat→List Pr) (A C b d:Nat) (hrec:∀ a' b' c' d',a'≤b'→b'≤b→c'≤d'→d'≤d→Okp x y a' b' c' d' (rec a' b' c' d')) (L:List Pr) :
  ∀ a c,a≤b→c≤d→(∀ p∈L,0≤p.X∧0≤p.Y∧a≤A+p.X.toNat∧A+p.X.toNat<b∧c≤C+p.Y.toNat∧C+p.Y.toNat<d∧x[A+p.X.toNat]?=y[C+p.Y.toNat]?)→L.Pairwise (fun p q=>ab q p)→Okp x y a b c d (gos rec A C b d a c L):=by
 induction L with
 | nil=>intro a c ha hc _ _;exact hrec a b c d ha (Nat.le_refl _) hc (Nat.le_refl _)
 | cons p L ih =>
  intro a c ha hc hL hR
  rw[gos]
  have hp:=hL p (List.mem_cons_self ..)
  have hR':=List.pairwise_cons.1 hR
  have h1:=hrec a (A+p.X.toNat) c (C+p.Y.toNat) (by omega) (by omega) (by omega) (by omega)
  have h2:=Okp.one hp.2.2.2.2.2.2
  have h3:=ih (A+p.X.toNat+1) (C+p.Y.toNat+1) (by omega) (by omega) (fun q hq=>by
   have e1:=hL q (List.mem_cons_of_mem _ hq)
   have e2:=hR'.1 q hq
   unfold ab at e2
   refine⟨by omega,by omega,by omega,by omega,by omega,by omega,e1.2.2.2.2.2.2⟩) hR'.2
  exact h1.cat (h2.cat h3 (.inl ⟨by omega,by omega⟩) (A:=A+p.X.toNat) (B:=b) (C:=C+p.Y.toNat) (D:=d) ⟨by omega,by omega⟩ ⟨by omega,by omega⟩ ⟨by omega,by omega⟩ ⟨by omega,by omega⟩) (.inl ⟨by omega,by omega⟩) ⟨by omega,by omega⟩ ⟨by omega,by omega⟩ ⟨by omega,by omega⟩ ⟨by omega,by omega⟩
theorem ZoG (x y:List Int):MOk (pmid x y) x y:=by
 intro rec a b c d hab hb hcd hd hrec
 unfold pmid
 split
 ·exact ZjU x y a b c d (by omega) hb (by omega) hd
 ·exact ZgX x y rec a c b d (fun a' b' c' d' h1 h2 h3 h4=>hrec a' b' c' d' h1 (by omega) h3 (by omega)) _ a c (by omega) (by omega) (fun p hp=>Zqh x y a b c d hb hd p hp) (Zkq _)
end

section
structure Gs (rec:Nat→Nat→Nat→Nat→List Pr) (A C b d:Nat) (L:List Pr) (a c:Nat) (K KF:List Int):Prop where
 ab':a≤b
 cd:c≤d
 Aa:A≤a
 Cc:C≤c
 all:∀ p∈L,0≤p.X∧0≤p.Y∧a≤A+p.X.toNat∧A+p.X.toNat<b∧c≤C+p.Y.toNat∧C+p.Y.toNat<d
 up:L.Pairwise (fun p q=>ab q p)
 fin:wrk K (gos rec A C b d a c L)=KF
section
variable {rec:Nat→Nat→Nat→Nat→List Pr} {A C b d:Nat} {p:Pr} {L:List Pr} {a c:Nat} {K KF:List Int}
end
end

section
open Go.RowKit
end

section
open Go.RowKit
end

section
open Go.RowKit
end

section
open Go.RowKit
attribute [local simp] ZkG
end

section
open Go.RowKit
attribute [local simp] ZkG ZkF
structure Np (W:World) (gp:Nat) (p:Pr) (u:World):Prop where
 blk:Blk u gp (prC p)
 ge:W.heap.size≤gp
end

section
open Go.RowKit Go.Shelf
attribute [local go_sem] Oper.semAt_some
structure Kq (n₀ lo:Nat) (W W':World):Prop where
 low:Below n₀ W W'
 box:W'.heap[lo]?=W.heap[lo]?
section
variable {n₀ lo:Nat} {A B C:World}
theorem Kq.refl (W:World):Kq n₀ lo W W:=⟨Below.refl _ _,rfl⟩
end
def en (k:Nat):List Pr→List (Nat × Pr)
 | []=>[]
 | p::t=>(k,p)::en (k+1) t
end

section
open Go.RowKit
attribute [local simp] ZkG ZkF
structure Al (W:World) (base:Nat) (va:Value) (vals:List Value) (H:List (List Pr)):Prop where
 row:W.ownsRow base 311 1 va vals.length vals
 len:vals.length=H.length
 own:∀ (n:Nat) (v:Value) (h:List Pr),vals[n]?=some v→H[n]?=some h→W.ownsRow base 249 2 v h.length (prcells h)
 apart:∀ (i j:Nat) (v v':Value) (g:Nat),i≠j→vals[i]?=some v→vals[j]?=some v'→v.ownBlock=some g→v'.ownBlock≠some g
end

section
open Go.RowKit
theorem ZjG (b:Int) (x:List Int):kp b x x=(List.range x.length).map fun (j:Nat)=>b+(j:Int):=by
 induction x generalizing b with
 | nil=>rw[ZjC];rfl
 | cons a x ih =>
  rw[Zjz,if_pos rfl,ih,List.length_cons,List.range_succ_eq_map,List.map_cons,List.map_map]
  simp
  intro j _
  omega
theorem ZlA (x y:List Int) (hx:x.length≤4096) (hy:y.length≤4096):mkL (kp 0 x y) y.length=[]↔x=y:=by
 constructor
 ·intro h
  have hv:Vk 0 (y.length:Int) (kp 0 x y):=by
   have:=ZjI 0 x y (Int.le_refl _)
   rwa [Int.zero_add] at this
  have hl:=ZjB 0 x y
  obtain⟨⟨_,_,hS⟩,hU⟩:=ZlE hv (by omega) (by omega) (by rw[hl];omega)
  rw[h] at hS hU
  rw[Zax] at hU
  have hnm:x.length=y.length:=by
   have h1:=hS.2.2
   rw[hl] at h1
   omega
  apply List.ext_getElem hnm
  intro i h1 h2
  have hm:(⟨(i:Int),(i:Int),1⟩:Rn)∈keptR 0 (kp 0 x y):=by
   rw[← hU,Zlp]
   rw[hl]
   refine⟨rfl,?_,?_,?_⟩<;>dsimp only<;>omega
  rw[Zln] at hm
  obtain⟨_,_,h3,_⟩:=hm
  dsimp only at h3
  rw[show ((i:Int)-0).toNat=i by omega] at h3
  obtain⟨_,c,h4,h5⟩:=ZjE 0 x y (Int.le_refl _) i i h3 (by omega)
  rw[show ((i:Int)-0).toNat=i by omega] at h5
  rw[List.getElem?_eq_getElem h1] at h4
  rw[List.getElem?_eq_getElem h2] at h5
  rw[Option.some.inj h4,Option.some.inj h5]
 ·rintro rfl
  unfold mkL
  rw[ZjG,Zjq 0 0 (Int.le_refl _),Zbo]
  simp[betw]
end

section
open Go.RowKit
end

section
open Go.RowKit
def rowB (B X k:Nat):Nat:=B+1+(X-k)
def rowV (B X Y k:Nat):Value:=.slice (some ⟨rowB B X k,0,none⟩) (Y+1) (Y+1)
structure Tb (w:World) (x y:List Int) (i c:Nat) (TS:List Value) (u:World):Prop where
 low:Below w.heap.size w u
 size:u.heap.size=w.heap.size+1+(x.length+1-i)
 top:u.ownsRow w.heap.size 71 1 (.slice (some ⟨w.heap.size,0,none⟩) (x.length+1) (x.length+1)) (x.length+1) TS
 tops:∀ k,i≤k→k≤x.length→TS[k]?=some (rowV w.heap.size x.length y.length k)
 rows:∀ k,i≤k→k≤x.length→∃ R,u.ownsRow w.heap.size 3 1 (rowV w.heap.size x.length y.length k) (y.length+1) R∧∀ j,j≤y.length→(i<k∨c≤j∨j=y.length∨k=x.length)→R[j]?=some (.int .i64 ((ln x y k j:Nat):Int))
section
variable {w u:World} {x y:List Int} {i c:Nat} {TS:List Value}
end
structure Rd (B:Nat) (x y:List Int) (u:World):Prop where
 lt:B+1+x.length<u.heap.size
 top:∀ k,k≤x.length→u.cell? ⟨B,k,none⟩=some (rowV B x.length y.length k)
 at':∀ k j,k≤x.length→j≤y.length→u.cell? ⟨rowB B x.length k,j,none⟩=some (.int .i64 ((ln x y k j:Nat):Int))
end

section
open Go.RowKit
attribute [local simp] ZkG
end

end Go.Proofs.YtgiojkhmkeocfaaGreatDoor

/- A region that draws its order, in a round: seven operations that read and a call, in whatever order, then the rest as the text has it. -/
namespace Go.Proofs.YtgiojkhmkeocfaaGreatDoor
namespace R8
open Go.RowKit Go.Shelf
abbrev B8:=Fin 8→Bool
def one (c:Bool):Nat:=if c then 1 else 0
def cnt (b:B8):Nat:=one (b 0)+one (b 1)+one (b 2)+one (b 3)+one (b 4)+one (b 5)+one (b 6)+one (b 7)
end R8
end Go.Proofs.YtgiojkhmkeocfaaGreatDoor

namespace Go.Proofs.YtgiojkhmkeocfaaGreatDoor

section
open Go.RowKit Go.Shelf
attribute [local go_sem] Oper.semAt_some
def lz (n:Nat):List (Nat × Pr)→List Int
 | []=>List.replicate n 0
 | x::r=>(lz n r).set x.1 ((mxl x.2 (r.map (·.2)) (rl (r.map (·.2)))+1:Nat):Int)
structure Rs (w:World) (n:Nat) (r:List (Nat × Pr)) (va:Value) (vals:List Value) (H:List (List Pr)) (W:World):Prop where
 low:Below w.heap.size w W
 lbox:Boxed W (w.heap.size+1) 71 (.slice (some ⟨w.heap.size,0,none⟩) n n)
 lrow:W.ownsRow w.heap.size 3 1 (.slice (some ⟨w.heap.size,0,none⟩) n n) n (icells (lz n r))
 abox:Boxed W (w.heap.size+1+1) 306 va
 al:Al W w.heap.size va vals H
 hd:Hds (r.map (·.2)) H
 hl:H.length≤r.length
 hh:∀ h∈H,h.length≤r.length
section
variable {W W':World} {row:Option Nat} {e:TypeId}
end
structure Rp (w:World) (n:Nat) (Z:List Int) (va:Value) (vals:List Value) (H:List (List Pr)) (vl:Value) (W:World):Prop where
 low:Below w.heap.size w W
 lbox:Boxed W (w.heap.size+1) 71 (.slice (some ⟨w.heap.size,0,none⟩) n n)
 lrow:W.ownsRow w.heap.size 3 1 (.slice (some ⟨w.heap.size,0,none⟩) n n) n (icells Z)
 abox:Boxed W (w.heap.size+1+1) 306 va
 al:Al W w.heap.size va vals H
 ibox:Boxed W (w.heap.size+1+1+1) 245 vl
structure Stp (w W W':World):Prop where
 ko:KeepsOthers W W'
 kq:Kq w.heap.size (w.heap.size+1+1+1) W W'
section
variable {w:World} {n:Nat} {Z:List Int} {va:Value} {vals:List Value} {H:List (List Pr)} {vl:Value} {W W':World}
end
end

section
open Go.RowKit Go.Shelf
attribute [local go_sem] Oper.semAt_some
end

section
open Go.RowKit Go.Shelf
attribute [local go_sem] Oper.semAt_some
end

section
open Go.RowKit
attribute [local simp] ZkG ZkF
end

section
open Go.RowKit Go.Maps
def pf (t:List Int) (c:Int):Option Int:=if tm c t=0 then none else if tm c t=1 then some (t.idxOf c:Nat) else some (-1)
structure Plc {H:Type} (D:DataW H) (t:List Int):Prop where
 tidy:Tidy D
 has:∀ c,Maps.has D (.int .i64 c)=(pf t c).isSome
 at_:∀ c,D.atKey (.int .i64 c) (.lit (.int .i64 0))=.lit (.int .i64 ((pf t c).getD 0))
def Mo (t:List Int) (B:Nat) (w:World):Prop:=∃ D:DataW Unit,w.ownsMap Tryz.prog 3 (plainElem Tryz.prog 3) B t.length D∧Plc D t
section
variable {t:List Int} {B:Nat} {w w':World}
theorem Mo.lt (h:Mo t B w):B<w.heap.size:=by obtain⟨D,hm,_⟩:=h;exact hm.lt
end
end

section
open Go.RowKit Go.Maps
end

section
open Go.RowKit
attribute [local simp] ZkG
def Bx2 (u:World) (B:Nat) (p q:Nat):Prop:=u.heap[B]?=some (.cells #[.int .i64 (p:Int),.int .i64 (q:Int)] 249 (0,0))
section
variable {u u':World} {B p q:Nat}
theorem Bx2.lt (h:Bx2 u B p q):B<u.heap.size:=(Array.getElem?_eq_some_iff.1 h).1
end
end

end Go.Proofs.YtgiojkhmkeocfaaGreatDoor
