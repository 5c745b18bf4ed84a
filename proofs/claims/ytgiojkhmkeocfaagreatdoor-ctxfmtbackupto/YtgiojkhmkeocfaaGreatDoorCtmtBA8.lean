/-
  Texts that belong together, joined: PaPc, PaPg, PaIn, PaRp, PaSr, PaHd, PaWi, PaBk, PaRs, MiWm, EdRMk, MiTb, PaRl, PaRg.
-/
import Derived.Test.YtgiojkhmkeocfaaGreatDoorCtmtBA7
import Derived.Test.YtgiojkhmkeocfaaGreatDoorCtmtBA5
import Derived.Deep.CutRange
import Derived.Test.YtgiojkhmkeocfaaGreatDoorCtmtBA4
import Derived.Shelf.RegionOpenPlain

set_option maxHeartbeats 16000000
set_option maxRecDepth 100000
namespace Go.Proofs.YtgiojkhmkeocfaaGreatDoor

section
theorem pick_mem (left:Nat) (last:Option Pr) (l:List Pr) (ns:List Nat):∀ p∈pick left last l ns,p∈l:=by
 induction l generalizing left last ns with
 | nil=>intro p hp;simp[pick] at hp
 | cons a l ih =>
  intro p hp
  cases ns with
  | nil=>simp[pick] at hp
  | cons n ns =>
   rw[pick] at hp
   split at hp
   ·rcases List.mem_cons.1 hp with rfl | hp
    ·exact List.mem_cons_self ..
    ·exact List.mem_cons_of_mem _ (ih _ _ _ p hp)
   ·exact List.mem_cons_of_mem _ (ih _ _ _ p hp)
theorem pick_rise (left:Nat) (last:Option Pr) (l:List Pr) (ns:List Nat):(pick left last l ns).Pairwise (fun p q=>ab q p)∧∀ q,last=some q→∀ p∈pick left last l ns,ab p q:=by
 induction l generalizing left last ns with
 | nil=>exact⟨by simp[pick],fun _ _ p hp=>by simp[pick] at hp⟩
 | cons a l ih =>
  cases ns with
  | nil=>exact⟨by simp[pick],fun _ _ p hp=>by simp[pick] at hp⟩
  | cons n ns =>
   rw[pick]
   split
   ·rename_i h
    obtain⟨h1,h2⟩:=ih (left-1) (some a) ns
    refine⟨List.Pairwise.cons (fun q hq=>h2 a rfl q hq) h1,fun q hq p hp=>?_⟩
    rcases List.mem_cons.1 hp with rfl | hp
    ·exact h.2 q hq
    ·exact ab_trans (h2 a rfl p hp) (h.2 q hq)
   ·exact ih left last ns
theorem lng_mem (l:List Pr):∀ p∈lng l,p∈l:=pick_mem _ _ _ _
theorem lng_rise (l:List Pr):(lng l).Pairwise (fun p q=>ab q p):=(pick_rise _ _ _ _).1
theorem ps_mem {c i:Int} (y:List Int):∀ (j:Int) (p:Pr),p∈ps c i j y→p.X=i∧j≤p.Y∧p.Y<j+y.length:=by
 induction y with
 | nil=>intro j p hp;simp[ps] at hp
 | cons b y ih =>
  intro j p hp
  rw[ps,List.mem_append] at hp
  rcases hp with hp | hp
  ·split at hp
   ·simp at hp
    subst hp
    exact⟨rfl,Int.le_refl _,by simp;omega⟩
   ·simp at hp
  ·have:=ih (j+1) p hp
   simp only[List.length_cons]
   omega
theorem uq_mem (x0 y0:List Int) (x:List Int):∀ (i:Int) (p:Pr),p∈uq x0 y0 i x→i≤p.X∧p.X<i+x.length∧0≤p.Y∧p.Y<y0.length:=by
 induction x with
 | nil=>intro i p hp;simp[uq] at hp
 | cons a x ih =>
  intro i p hp
  rw[uq,List.mem_append] at hp
  rcases hp with hp | hp
  ·split at hp
   ·have:=ps_mem y0 0 p hp
    simp only[List.length_cons]
    omega
   ·simp at hp
  ·have:=ih (i+1) p hp
   simp only[List.length_cons]
   omega
theorem lu_mem (x y:List Int) (p:Pr) (hp:p∈lng (unq x y)):0≤p.X∧p.X<x.length∧0≤p.Y∧p.Y<y.length:=by
 have:=uq_mem x y x 0 p (lng_mem _ p hp)
 omega
def gos (rec:Nat→Nat→Nat→Nat→List Pr) (A C b d:Nat):Nat→Nat→List Pr→List Pr
 | a,c,[]=>rec a b c d
 | a,c,p::L=>rec a (A+p.X.toNat) c (C+p.Y.toNat)++⟨(A+p.X.toNat:Nat),(C+p.Y.toNat:Nat)⟩::gos rec A C b d (A+p.X.toNat+1) (C+p.Y.toNat+1) L
def pmid (x y:List Int) (rec:Nat→Nat→Nat→Nat→List Pr) (a b c d:Nat):List Pr :=
 if lng (unq (sub x a b) (sub y c d))=[] then lp a c (kp 0 (sub x a b) (sub y c d)) else gos rec a c b d a c (lng (unq (sub x a b) (sub y c d)))
theorem ps_eqs {c i:Int} (y:List Int):∀ (j:Nat) (p:Pr),p∈ps c i j y→y[p.Y.toNat-j]?=some c:=by
 induction y with
 | nil=>intro j p hp;simp[ps] at hp
 | cons b y ih =>
  intro j p hp
  rw[ps,List.mem_append] at hp
  rcases hp with hp | hp
  ·split at hp
   ·rename_i h
    simp at hp
    subst hp
    simp[h]
   ·simp at hp
  ·have h1:=ih (j+1) p (by simpa using hp)
   have h2:=ps_mem y (j+1:Int) p hp
   rw[show p.Y.toNat-j=(p.Y.toNat-(j+1))+1 by omega]
   simpa using h1
theorem uq_eqs (x0 y0:List Int) (x:List Int):∀ (i:Nat) (p:Pr),p∈uq x0 y0 i x→x[p.X.toNat-i]?=y0[p.Y.toNat]?:=by
 induction x with
 | nil=>intro i p hp;simp[uq] at hp
 | cons a x ih =>
  intro i p hp
  rw[uq,List.mem_append] at hp
  rcases hp with hp | hp
  ·split at hp
   ·have h1:=ps_eqs y0 0 p (by simpa using hp)
    have h2:=ps_mem y0 0 p hp
    simp at h1
    rw[h1,h2.1]
    simp
   ·simp at hp
  ·have h1:=ih (i+1) p (by simpa using hp)
   have h2:=uq_mem x0 y0 x (i+1:Int) p hp
   rw[show p.X.toNat-i=(p.X.toNat-(i+1))+1 by omega]
   simpa using h1
theorem row_in (x y:List Int) (a b c d:Nat) (hb:b≤x.length) (hd:d≤y.length) (p:Pr) (hp:p∈lng (unq (sub x a b) (sub y c d))):0≤p.X∧0≤p.Y∧a≤a+p.X.toNat∧a+p.X.toNat<b∧c≤c+p.Y.toNat∧c+p.Y.toNat<d∧x[a+p.X.toNat]?=y[c+p.Y.toNat]?:=by
 have h:=lu_mem _ _ p hp
 have h2:=uq_eqs _ _ _ 0 p (lng_mem _ p hp)
 rw[sub_length x a b hb,sub_length y c d hd] at h
 rw[Nat.sub_zero,sub_at x a b _ (by omega),sub_at y c d _ (by omega)] at h2
 refine⟨by omega,by omega,by omega,by omega,by omega,by omega,h2⟩
theorem gos_ok (x y:List Int) (rec:Nat→Nat→Nat→Nat→List Pr) (A C b d:Nat) (hrec:∀ a' b' c' d',a'≤b'→b'≤b→c'≤d'→d'≤d→Okp x y a' b' c' d' (rec a' b' c' d')) (L:List Pr) :
  ∀ a c,a≤b→c≤d→(∀ p∈L,0≤p.X∧0≤p.Y∧a≤A+p.X.toNat∧A+p.X.toNat<b∧c≤C+p.Y.toNat∧C+p.Y.toNat<d∧x[A+p.X.toNat]?=y[C+p.Y.toNat]?)→L.Pairwise (fun p q=>ab q p)→Okp x y a b c d (gos rec A C b d a c L):=by
 induction L with
 | nil=>intro a c ha hc _ _;exact hrec a b c d ha (Nat.le_refl _) hc (Nat.le_refl _)
 | cons p L ih =>
  intro a c ha hc hL hR
  rw[gos]
  have hp:=hL p (List.mem_cons_self ..)
  have hR':=List.pairwise_cons.1 hR
  have h1:=hrec a (A+p.X.toNat) c (C+p.Y.toNat) (by omega) (by omega) (by omega) (by omega)
  have h2:=Okp.one hp.2.2.2.2.2.2
  have h3:=ih (A+p.X.toNat+1) (C+p.Y.toNat+1) (by omega) (by omega) (fun q hq=>by
   have e1:=hL q (List.mem_cons_of_mem _ hq)
   have e2:=hR'.1 q hq
   unfold ab at e2
   refine⟨by omega,by omega,by omega,by omega,by omega,by omega,e1.2.2.2.2.2.2⟩) hR'.2
  exact h1.cat (h2.cat h3 (.inl ⟨by omega,by omega⟩) (A:=A+p.X.toNat) (B:=b) (C:=C+p.Y.toNat) (D:=d) ⟨by omega,by omega⟩ ⟨by omega,by omega⟩ ⟨by omega,by omega⟩ ⟨by omega,by omega⟩) (.inl ⟨by omega,by omega⟩) ⟨by omega,by omega⟩ ⟨by omega,by omega⟩ ⟨by omega,by omega⟩ ⟨by omega,by omega⟩
theorem pmid_ok (x y:List Int):MOk (pmid x y) x y:=by
 intro rec a b c d hab hb hcd hd hrec
 unfold pmid
 split
 ·exact least_ok x y a b c d (by omega) hb (by omega) hd
 ·exact gos_ok x y rec a c b d (fun a' b' c' d' h1 h2 h3 h4=>hrec a' b' c' d' h1 (by omega) h3 (by omega)) _ a c (by omega) (by omega) (fun p hp=>row_in x y a b c d hb hd p hp) (lng_rise _)
end

section
structure Gs (rec:Nat→Nat→Nat→Nat→List Pr) (A C b d:Nat) (L:List Pr) (a c:Nat) (K KF:List Int):Prop where
 ab':a≤b
 cd:c≤d
 Aa:A≤a
 Cc:C≤c
 all:∀ p∈L,0≤p.X∧0≤p.Y∧a≤A+p.X.toNat∧A+p.X.toNat<b∧c≤C+p.Y.toNat∧C+p.Y.toNat<d
 up:L.Pairwise (fun p q=>ab q p)
 fin:wrk K (gos rec A C b d a c L)=KF
theorem Gs.start {rec:Nat→Nat→Nat→Nat→List Pr} {x y:List Int} {a b c d:Nat} (hab:a≤b) (hb:b≤x.length) (hcd:c≤d) (hd:d≤y.length) {K KF:List Int} (h:wrk K (gos rec a c b d a c (lng (unq (sub x a b) (sub y c d))))=KF):Gs rec a c b d (lng (unq (sub x a b) (sub y c d))) a c K KF :=
 ⟨hab,hcd,Nat.le_refl _,Nat.le_refl _,fun p hp=>by have:=row_in x y a b c d hb hd p hp;omega,lng_rise _,h⟩
section
variable {rec:Nat→Nat→Nat→Nat→List Pr} {A C b d:Nat} {p:Pr} {L:List Pr} {a c:Nat} {K KF:List Int}
theorem Gs.head (h:Gs rec A C b d (p::L) a c K KF):∃ u v:Nat,p.X=u∧p.Y=v∧a≤A+u∧A+u<b∧c≤C+v∧C+v<d:=by
 have:=h.all p (List.mem_cons_self ..)
 exact⟨p.X.toNat,p.Y.toNat,by omega,by omega,by omega,by omega,by omega,by omega⟩
theorem Gs.step (h:Gs rec A C b d (p::L) a c K KF) {u v:Nat} (hu:p.X=u) (hv:p.Y=v):Gs rec A C b d L (A+u+1) (C+v+1) (wrk (wrk K (rec a (A+u) c (C+v))) (fp (A+u) (C+v) 1)) KF:=by
 have h0:=h.all p (List.mem_cons_self ..)
 have h1:=List.pairwise_cons.1 h.up
 have e1:p.X.toNat=u:=by omega
 have e2:p.Y.toNat=v:=by omega
 refine⟨by omega,by omega,by have:=h.Aa;omega,by have:=h.Cc;omega,fun q hq=>?_,h1.2,?_⟩
 ·have h2:=h.all q (List.mem_cons_of_mem _ hq)
  have h3:=h1.1 q hq
  unfold ab at h3
  omega
 ·rw[← h.fin,gos,e1,e2,← wrk_append,← wrk_append]
  rfl
theorem Gs.end' (h:Gs rec A C b d [] a c K KF):wrk K (rec a b c d)=KF:=h.fin
end
end

section
open Go.RowKit
theorem undH:Tryz.prog.underlying 311=some (.slice 249):=by kernel_rfl
theorem undP:Tryz.prog.underlying 245=some (.slice 249):=by kernel_rfl
theorem elemH:Tryz.prog.elem 311=249:=by kernel_rfl
theorem row_blk {w:World} {base:Nat} {v:Value} {n:Nat} {xs:List Value} (hO:w.ownsRow base 249 2 v n xs) (h0:0<n):∃ g cap cur,v=.slice (some ⟨g,0,none⟩) n cap∧base≤g∧Blk w g cur∧n≤cap∧cap≤maxLen∧cur.length=cap * 2∧cur.take (n * 2)=xs:=by
 rcases hO.2 with ⟨_,h1,_⟩ | ⟨g,cap,cur,q1,q2,q3,q4,q5,q6,q7⟩
 ·omega
 ·exact⟨g,cap,cur.toList,q1,q2,by unfold Blk;simpa using q3,q4,q5,by simpa using q6,q7⟩
theorem blk_row {w:World} {base g n cap:Nat} {cur xs:List Value} (hg:Blk w g cur) (hb:base≤g) (hn:n≤cap) (hc:cap≤maxLen) (hl:cur.length=cap * 2) (ht:cur.take (n * 2)=xs):w.ownsRow base 249 2 (.slice (some ⟨g,0,none⟩) n cap) n xs:=by
 refine⟨?_,.inr ⟨g,cap,cur.toArray,rfl,hb,hg,hn,hc,by simpa using hl,by simpa using ht⟩⟩
 rw[← ht,List.length_take]
 omega
theorem pr_src {w:World} {gp:Nat} {p:Pr} (h:Blk w gp (prC p)):∀ j v,(prC p)[j]?=some v→w.cell? ((⟨gp,0,none⟩:Addr).add j)=some v:=fun j v hj=>by
 rw[add_none,Nat.zero_add,h.cell j]
 exact hj
theorem prC_one (p:Pr):∀ u∈prC p,u.oneCell'=true:=by intro u hu;simp[prC] at hu;rcases hu with rfl | rfl<;>rfl
def Grows (base:Nat) (w:World) (v:Value) (v':Value) (l:List Pr) (w':World):Prop :=
 w'.ownsRow base 249 2 v' l.length (prcells l)∧w.grownBy w' v.ownBlock∧(v'.ownBlock=v.ownBlock∨∃ g,v'.ownBlock=some g∧w.heap.size≤g)
theorem drew_grown (w:World) (r:Option Nat):w.grownBy w.drew r:=⟨rfl,rfl,rfl,Nat.le_refl _,fun _ _ _=>rfl⟩
theorem Insert_end (h:List Pr) (p:Pr) (v:Value) (gp base:Nat) (w:World) (hO:w.ownsRow base 249 2 v h.length (prcells h)) (hb:base≤w.heap.size) (hp:Blk w gp (prC p)) (hl:h.length≤1048576) :
  Calls Tryz.prog 295 #[v,.int .i64 (h.length:Int),.slice (some ⟨gp,0,none⟩) 1 1] w fun e w'=>∃ v',e=.returned v'∧Grows base w v v' (h++[p]) w':=by
 obtain⟨ao,c,rfl⟩:=(holds_of hO).form
 have hh:Holds w (.slice (some ⟨gp,0,none⟩) 1 1) 1 (prC p):=.inr ⟨_,1,rfl,Nat.le_refl _,pr_src hp⟩
 obtain⟨v',w',hr,h2,h3,h4⟩:=run_append_h w 311 249 311 (.agg #[.int .i64 0,.int .i64 0]) 2 16 undH infoPr rfl (by decide) (by decide) base (.slice ao h.length c) h.length (prcells h) hO (.slice (some ⟨gp,0,none⟩) 1 1) 1 (prC p) hh rfl (prC_one p) (by omega) hb
 have hr':∀ ty,(Builtin.append_ #[311,245] ty #[.slice ao h.length c,.slice (some ⟨gp,0,none⟩) 1 1]).run Tryz.prog w=.ok v' w':=fun ty=>(run_append_types undH undP ty _ _ _ _ _ _ w).trans hr
 obtain⟨ao',c',rfl⟩:=(holds_of h2).form
 obtain⟨x0,x1,x2,s0⟩:∃ x0 x1 x2,∀ u:World,(Instr.slice 311 (.slice ao h.length c) (some (.int .i64 (h.length:Int))) none none).run Tryz.prog u=.ok (.slice x0 x1 x2) u:=⟨_,_,_,fun u=>by
  rw[run_slice_l (P:=Tryz.prog) u 311 ao h.length c (by rw[undH,← elemH]) .i64 h.length (by omega) (by omega),elemH,size_of_pr]
  rfl⟩
 go_enter Tryz.func295,Tryz.ntmps295
 go_wp2_with (at_builtin;refine wpList_ap _ (by kernel_rfl) (.tmp 23) (.tmp 24) 311 245 rfl _ _ rfl rfl _ _ (hr' _) ?_)
 go_wp2
 go_ret
 refine⟨_,rfl,?_,h3,?_⟩
 ·rw[List.length_append,prcells_append]
  exact h2
 ·rcases h4 with h4 | h4
  ·exact .inl h4
  ·exact .inr ⟨_,h4,Nat.le_refl _⟩
theorem Insert_room (h:List Pr) (p:Pr) (n i g cap gp base:Nat) (HN:Hid (h.length=n)) (cur:List Value) (w:World) (hg:Blk w g cur) (hgb:base≤g) (hi:i<n) (hroom:n+1≤cap) (hcm:cap≤maxLen) (hcl:Hid (cur.length=cap * 2)) (hct:Hid (cur.take (n * 2)=prcells h)) (hp:Blk w gp (prC p)) (hne:gp≠g) (hl:n≤1048576) :
  Calls Tryz.prog 295 #[.slice (some ⟨g,0,none⟩) n cap,.int .i64 (i:Int),.slice (some ⟨gp,0,none⟩) 1 1] w fun e w'=>∃ v',e=.returned v'∧Grows base w (.slice (some ⟨g,0,none⟩) n cap) v' (h.take i++p::h.drop i) w':=by
 have s0:=sl_from undH elemH g n cap i (by omega) (by omega)
 have s1:=sl_to undH elemH g n cap (n+1) hroom
 have s2:=sl_from undH elemH g (n+1) cap (i+1) (by omega) (by omega)
 have s3:=sl_from undH elemH g (n+1) cap i (by omega) (by omega)
 rw[show ((n+1:Nat):Int)=(n:Int)+1 by simp] at s1
 rw[show ((i+1:Nat):Int)=(i:Int)+1 by simp] at s2
 have hw1:IntKind.i64.wrap ((i:Int)+1)=(i:Int)+1:=by rw[IntKind.wrap_i64];omega
 have hne1:((i:Int) == (n:Int))=false:=by simp;omega
 have hcap:decide ((cap:Int)<(n:Int)+1)=false:=decide_eq_false (by omega)
 have hcs1:((prcells h).drop (i * 2)).length=(n-i) * 2:=by rw[List.length_drop,prcells_length,HN.out];omega
 have hcp1:∀ (u:World) (ty:TypeId),u.heap=w.heap→(Builtin.copy_ #[311,311] ty #[.slice (some ⟨g,(i+1) * 2,none⟩) (n-i) (cap-(i+1)),.slice (some ⟨g,i * 2,none⟩) (n+1-i) (cap-i)]).run Tryz.prog u=.ok (goInt (n-i:Nat)) (u.setRow g (spl cur ((i+1) * 2) ((prcells h).drop (i * 2))).toArray):=fun u ty hu=>by
  have hgu:Blk u g cur:=by unfold Blk;rw[hu];exact hg
  refine run_copy_pr undH u ty g _ _ _ ⟨g,i * 2,none⟩ _ _ cur _ (n-i) hgu (by simp only[Nat.min_def];split<;>omega) hcs1 (fun j v hj=>?_) (by rw[hcs1,hcl.out];omega) (fun v hv=>prcells_one h v (List.mem_of_mem_drop hv))
  rw[add_none,hgu.cell,← hj,List.getElem?_drop,← hct.out,List.getElem?_take,if_pos]
  have:=(List.getElem?_eq_some_iff.1 hj).1
  rw[hcs1] at this
  omega
 have hov:(callFunc 296 #[.slice (some ⟨gp,0,none⟩) 1 1,.slice (some ⟨g,(i+1) * 2,none⟩) (n-i) (cap-(i+1))]).run Tryz.prog w=.ok (.value (.bool false)) w:=by
  rw[run_callFunc_extern Tryz.func296 (by kernel_rfl) (by kernel_rfl) (by kernel_rfl) (e:=Extern.SlicesOverlaps.overlaps #[245,245] #[4]) (by kernel_rfl),Lib.run_overlaps_apart w 245 4 249 undP 2 size_of_pr ⟨gp,0,none⟩ ⟨g,(i+1) * 2,none⟩ 1 1 _ _ hne 249 249 2 cur.length (by unfold Blk at hp;simp[World.shape?,hp,prC]) (by unfold Blk at hg;simp[World.shape?,hg]) (by have:=hcl.out;omega) (by unfold Blk at hp;simp[World.frozen?,hp]) (by unfold Blk at hp;simp[World.frozen?,hp])]
  rfl
 go_enter Tryz.func295,Tryz.ntmps295
 go_wp2_with (simp only[hov])
 go_region_held3 (fun _=>True) (trivial) (first | (refine step_cp _ rfl (.tmp 73) (.tmp 76) 311 311 rfl _ _ rfl rfl _ _ (hcp1 _ _ (by first | rfl | trivial)) ?_))
 obtain⟨cur1,hcur1⟩:∃ c,spl cur ((i+1) * 2) ((prcells h).drop (i * 2))=c:=⟨_,rfl⟩
 obtain⟨W1,hW1⟩:∃ u,w.drew.setRow g cur1.toArray=u:=⟨_,rfl⟩
 have hG1:w.grownBy W1 (some g):=by rw[← hW1];exact (drew_grown w (some g)).trans (setRow_grown w.drew g _)
 have hB1:Blk W1 g cur1:=by rw[← hW1];exact setRow_heap w.drew g _ _ _ _ hg
 have hP1:Blk W1 gp (prC p):=(hG1.block gp (Array.getElem?_eq_some_iff.1 hp).1 (fun e=>hne (Option.some.inj e))).trans hp
 have hl1:cur1.length=cap * 2:=by rw[← hcur1,spl_length (by rw[hcs1,hcl.out];omega),hcl.out]
 have HC1:Hid (cur1=spl cur ((i+1) * 2) ((prcells h).drop (i * 2))):=hcur1.symm
 rw[hcur1,hW1]
 clear hcur1 hW1 hcp1 hov
 have hcp2:∀ ty,(Builtin.copy_ #[311,245] ty #[.slice (some ⟨g,i * 2,none⟩) (n+1-i) (cap-i),.slice (some ⟨gp,0,none⟩) 1 1]).run Tryz.prog W1=.ok (goInt (1:Nat)) (W1.setRow g (spl cur1 (i * 2) (prC p)).toArray):=fun ty =>
  run_copy_pr undH W1 ty g _ _ _ ⟨gp,0,none⟩ _ _ cur1 _ 1 hB1 (by simp only[Nat.min_def];split<;>omega) rfl (pr_src hP1) (by rw[hl1];simp[prC];omega) (prC_one p)
 go_wp2_with (at_builtin;refine wpList_cp _ (by kernel_rfl) (.tmp 80) (.tmp 81) 311 245 rfl _ _ rfl rfl _ _ (hcp2 _) ?_)
 have hG2:=hG1.trans (setRow_grown W1 g (spl cur1 (i * 2) (prC p)).toArray)
 have hB2:Blk (W1.setRow g (spl cur1 (i * 2) (prC p)).toArray) g (spl cur1 (i * 2) (prC p)):=setRow_heap W1 g _ _ _ _ hB1
 generalize W1.setRow g (spl cur1 (i * 2) (prC p)).toArray=W2 at hG2 hB2 ⊢
 go_wp2
 go_ret
 refine⟨_,rfl,?_,hG2,.inl rfl⟩
 have hcp:(prC p).length=2:=rfl
 have hlen:(h.take i++p::h.drop i).length=n+1:=by
  have:=HN.out
  rw[List.length_append,List.length_cons,List.length_take,List.length_drop]
  omega
 rw[hlen]
 refine blk_row hB2 hgb hroom hcm (by rw[spl_length (by rw[hcp,hl1];omega),hl1]) ?_
 have e1:cur1.take (i * 2)=prcells (h.take i):=by
  rw[HC1.out,spl,List.append_assoc,List.take_append_of_le_length (by rw[List.length_take,hcl.out];omega),List.take_take,prcells_take,← hct.out,List.take_take]
  congr 1
  omega
 have e2:(cur1.drop (i * 2+2)).take ((n-i) * 2)=prcells (h.drop i):=by
  rw[HC1.out,spl,List.append_assoc,List.drop_append_of_le_length (by rw[List.length_take,hcl.out];omega),List.drop_of_length_le (by rw[List.length_take,hcl.out];omega),List.nil_append,List.take_left' hcs1,prcells_drop,Nat.mul_comm 2 i]
 unfold spl
 rw[hcp,e1]
 have e3:prcells (h.take i++p::h.drop i)=prcells (h.take i)++prC p++prcells (h.drop i):=by
  rw[prcells_append,List.append_assoc]
  rfl
 have e4:(prcells (h.take i)++prC p).length=i * 2+2:=by
  have:=HN.out
  rw[List.length_append,prcells_length,List.length_take,hcp]
  omega
 rw[e3,← e2,List.take_append,e4,List.take_of_length_le (by rw[e4];omega)]
 congr 2
 omega
theorem Insert_grow (h:List Pr) (p:Pr) (n i g gp base:Nat) (HN:Hid (h.length=n)) (cur:List Value) (w:World) (hg:Blk w g cur) (hbw:base≤w.heap.size) (hi:i<n) (_hcl:Hid (cur.length=n * 2)) (hct:Hid (cur.take (n * 2)=prcells h)) (hp:Blk w gp (prC p)) (hl:n≤1048576) :
  Calls Tryz.prog 295 #[.slice (some ⟨g,0,none⟩) n n,.int .i64 (i:Int),.slice (some ⟨gp,0,none⟩) 1 1] w fun e w'=>∃ v',e=.returned v'∧Grows base w (.slice (some ⟨g,0,none⟩) n n) v' (h.take i++p::h.drop i) w':=by
 obtain⟨i0,hi0,hz0,hzs,hzb⟩:=info_parts infoPr
 have hpre:(prcells (h.take i)).length=i * 2:=by have:=HN.out;rw[prcells_length,List.length_take];omega
 have hold:(Builtin.firstCells i0.size i (.slice (some ⟨g,0,none⟩) i n)).run Tryz.prog w.drew=.ok (prcells (h.take i)).toArray w.drew:=by
  have hgd:Blk w.drew g cur:=hg
  have:=run_loadCells_list (P:=Tryz.prog) w.drew ⟨g,0,none⟩ (prcells (h.take i)) (fun j v hj=>by
   have hlt:=(List.getElem?_eq_some_iff.1 hj).1
   rw[hpre] at hlt
   rw[add_none,Nat.zero_add,hgd.cell,← hj,prcells_take,← hct.out,List.getElem?_take,if_pos (by omega),List.getElem?_take,if_pos (by omega)])
  rw[hpre] at this
  simp only[Builtin.firstCells,hzs]
  exact this
 obtain⟨G,hG⟩:∃ G,grownCap w (n+1) n 249=G:=⟨_,rfl⟩
 have hGge:n+1≤G:=by rw[← hG];exact grownCap_ge _ _ _ _
 have hGle:G≤maxLen:=by rw[← hG];exact grownCap_le_maxLen _ _ _ _ (by unfold maxLen;omega)
 obtain⟨row,hrow⟩:∃ row:List Value,((prcells (h.take i)).toArray++Builtin.zeroCells (Value.agg #[.int .i64 0,.int .i64 0]).cells (n+1-i)++Builtin.zeroCells (Value.agg #[.int .i64 0,.int .i64 0]).cells (G-(n+1))).toList=row:=⟨_,rfl⟩
 have hrl:row.length=G * 2:=by
  rw[← hrow]
  simp[Builtin.zeroCells,Value.cells,hpre]
  omega
 have hrt:row.take (i * 2)=prcells (h.take i):=by
  rw[← hrow]
  simp only[Array.toList_append,List.append_assoc]
  rw[List.take_left' hpre]
 obtain⟨W0,hW0⟩:∃ W0,w.drew.alloc (.cells row.toArray 249)=W0:=⟨_,rfl⟩
 have hkk:(n:Int)+1-(i:Int)=((n+1-i:Nat):Int):=by omega
 have hrz:∀ ty,(Builtin.append_ #[311,3] ty #[.slice (some ⟨g,0,none⟩) i n,.int .i64 ((n:Int)+1-(i:Int))]).run Tryz.prog w=.ok (.slice (some ⟨w.heap.size,0,none⟩) (n+1) G) W0:=fun ty=>by
  have h:=Lib.run_append_grow_zeros (P:=Tryz.prog) w 311 3 ty 249 i0 _ .i64 .i64 undH (by kernel_rfl) hi0 hz0 (some ⟨g,0,none⟩) i n (prcells (h.take i)) hold (n+1-i) (by omega) (by omega) (by omega) (by omega) (by rw[hzb];omega) (by
   rw[hzb,show i+(n+1-i)=n+1 by omega]
   exact growslice_fits (by omega) (by omega))
  rw[show i+(n+1-i)=n+1 by omega,hG] at h
  rw[hkk,h,← hW0,← hrow]
 have hs0:W0.heap.size=w.heap.size+1:=by rw[← hW0];simp
 have hB0:Blk W0 w.heap.size row:=by rw[← hW0];exact _root_.Go.heap_alloc_new w.drew _
 have hG0:w.grownBy W0 none:=by rw[← hW0];exact (drew_grown w none).trans (World.grownBy_alloc _ _ _)
 have hP0:Blk W0 gp (prC p):=(hG0.block gp (Array.getElem?_eq_some_iff.1 hp).1 (by simp)).trans hp
 have hg0:Blk W0 g cur:=(hG0.block g (Array.getElem?_eq_some_iff.1 hg).1 (by simp)).trans hg
 have hne:gp≠w.heap.size:=Nat.ne_of_lt (Array.getElem?_eq_some_iff.1 hp).1
 have hne2:g≠w.heap.size:=Nat.ne_of_lt (Array.getElem?_eq_some_iff.1 hg).1
 have hcp:(prC p).length=2:=rfl
 have hcp1:∀ ty,(Builtin.copy_ #[311,245] ty #[.slice (some ⟨w.heap.size,i * 2,none⟩) (n+1-i) (G-i),.slice (some ⟨gp,0,none⟩) 1 1]).run Tryz.prog W0=.ok (goInt (1:Nat)) (W0.setRow w.heap.size (spl row (i * 2) (prC p)).toArray):=fun ty =>
  run_copy_pr undH W0 ty _ _ _ _ ⟨gp,0,none⟩ _ _ row _ 1 hB0 (by simp only[Nat.min_def];split<;>omega) rfl (pr_src hP0) (by rw[hrl,hcp];omega) (prC_one p)
 obtain⟨W1,hW1⟩:∃ u,W0.setRow w.heap.size (spl row (i * 2) (prC p)).toArray=u:=⟨_,rfl⟩
 have hB1:Blk W1 w.heap.size (spl row (i * 2) (prC p)):=by rw[← hW1];exact setRow_heap W0 _ _ _ _ _ hB0
 have hG1:W0.grownBy W1 (some w.heap.size):=by rw[← hW1];exact setRow_grown _ _ _
 have hg1:Blk W1 g cur:=(hG1.block g (Array.getElem?_eq_some_iff.1 hg0).1 (fun e=>hne2 (Option.some.inj e))).trans hg0
 rw[hW1] at hcp1
 have hl1:(spl row (i * 2) (prC p)).length=G * 2:=by rw[spl_length (by rw[hrl,hcp];omega),hrl]
 have ht1:(spl row (i * 2) (prC p)).take (i * 2+2)=prcells (h.take i)++prC p:=by rw[spl_take (cur:=row) (o:=i * 2) (cs:=prC p) (by rw[hrl,hcp];omega) (i * 2+2) rfl,hrt]
 generalize spl row (i * 2) (prC p)=cur1 at hB1 hl1 ht1
 have hcs1:((prcells h).drop (i * 2)).length=(n-i) * 2:=by rw[List.length_drop,prcells_length,HN.out];omega
 have hcp2:∀ (u:World) (ty:TypeId),u.heap=W1.heap→(Builtin.copy_ #[311,311] ty #[.slice (some ⟨w.heap.size,(i+1) * 2,none⟩) (n-i) (G-(i+1)),.slice (some ⟨g,i * 2,none⟩) (n-i) (n-i)]).run Tryz.prog u=.ok (goInt (n-i:Nat)) (u.setRow w.heap.size (spl cur1 ((i+1) * 2) ((prcells h).drop (i * 2))).toArray):=fun u ty hu=>by
  have hgu:Blk u w.heap.size cur1:=by unfold Blk;rw[hu];exact hB1
  have hgs:Blk u g cur:=by unfold Blk;rw[hu];exact hg1
  refine run_copy_pr undH u ty _ _ _ _ ⟨g,i * 2,none⟩ _ _ cur1 _ (n-i) hgu (by simp only[Nat.min_def];split<;>omega) hcs1 (fun j v hj=>?_) (by rw[hcs1,hl1];omega) (fun v hv=>prcells_one h v (List.mem_of_mem_drop hv))
  rw[add_none,hgs.cell,← hj,List.getElem?_drop,← hct.out,List.getElem?_take,if_pos]
  have:=(List.getElem?_eq_some_iff.1 hj).1
  rw[hcs1] at this
  omega
 have s0:=sl_from undH elemH g n n i (by omega) (by omega)
 have s1:=sl_to undH elemH g n n i (by omega)
 have s2:=sl_from undH elemH w.heap.size (n+1) G i (by omega) (by omega)
 have s3:=sl_from undH elemH w.heap.size (n+1) G (i+1) (by omega) (by omega)
 rw[show ((i+1:Nat):Int)=(i:Int)+1 by simp] at s3
 have hw1:IntKind.i64.wrap ((i:Int)+1)=(i:Int)+1:=by rw[IntKind.wrap_i64];omega
 have hne1:((i:Int) == (n:Int))=false:=by simp;omega
 have hcap:decide ((n:Int)<(n:Int)+1)=true:=decide_eq_true (by omega)
 have hGW:w.grownBy W1 none:=⟨hG1.os.trans hG0.os,hG1.tape.trans hG0.tape,hG1.output.trans hG0.output,Nat.le_trans hG0.size hG1.size,fun k hk _=>(hG1.block k (by rw[hs0];omega) (fun e=>by have:=Option.some.inj e;omega)).trans (hG0.block k hk (by simp))⟩
 clear hW0 hW1 hold hi0 hz0 hzs hzb hrow hrl hrt hkk hg0 hP0 hB0 hG1
 go_enter Tryz.func295,Tryz.ntmps295
 go_wp2_with (at_builtin;refine wpList_ap _ (by kernel_rfl) (.tmp 34) (.tmp 39) 311 3 rfl _ _ rfl rfl _ _ (hrz _) ?_)
 go_wp2_with (at_builtin;refine wpList_cp _ (by kernel_rfl) (.tmp 43) (.tmp 44) 311 245 rfl _ _ rfl rfl _ _ (hcp1 _) ?_)
 go_wp2_with fail
 go_region_held3 (fun _=>True) (trivial) (first | (refine step_cp _ rfl (.tmp 50) (.tmp 53) 311 311 rfl _ _ rfl rfl _ _ (hcp2 _ _ (by first | rfl | trivial)) ?_))
 have hGF:w.grownBy (W1.drew.setRow w.heap.size (spl cur1 ((i+1) * 2) ((prcells h).drop (i * 2))).toArray) none:=⟨hGW.os,hGW.tape,hGW.output,by simpa [World.setRow] using hGW.size,fun k hk _=>(setRow_other W1.drew _ k _ (by omega)).trans (hGW.block k hk (by simp))⟩
 have hBF:Blk (W1.drew.setRow w.heap.size (spl cur1 ((i+1) * 2) ((prcells h).drop (i * 2))).toArray) w.heap.size (spl cur1 ((i+1) * 2) ((prcells h).drop (i * 2))):=setRow_heap W1.drew _ _ _ _ _ hB1
 generalize W1.drew.setRow w.heap.size (spl cur1 ((i+1) * 2) ((prcells h).drop (i * 2))).toArray=WF at hGF hBF ⊢
 go_wp2
 go_ret
 have hlen:(h.take i++p::h.drop i).length=n+1:=by
  have:=HN.out
  rw[List.length_append,List.length_cons,List.length_take,List.length_drop]
  omega
 refine⟨_,rfl,?_,⟨hGF.os,hGF.tape,hGF.output,hGF.size,fun k hk _=>hGF.block k hk (by simp)⟩,.inr ⟨_,rfl,Nat.le_refl _⟩⟩
 rw[hlen]
 refine blk_row hBF hbw hGge hGle (by rw[spl_length (by rw[hcs1,hl1];omega),hl1]) ?_
 have e3:prcells (h.take i++p::h.drop i)=prcells (h.take i)++prC p++prcells (h.drop i):=by
  rw[prcells_append,List.append_assoc]
  rfl
 rw[spl_take (by rw[hcs1,hl1];omega) _ (by rw[hcs1];omega),show (i+1) * 2=i * 2+2 by omega,ht1,e3,prcells_drop,Nat.mul_comm 2 i]
end

section
open Go.RowKit
theorem Insert_f (h:List Pr) (p:Pr) (i gp base:Nat) (v:Value) (w:World) (hO:w.ownsRow base 249 2 v h.length (prcells h)) (hb:base≤w.heap.size) (hi:i≤h.length) (hp:Blk w gp (prC p)) (hne:v.ownBlock≠some gp) (hl:h.length≤1048576) :
  Calls Tryz.prog 295 #[v,.int .i64 (i:Int),.slice (some ⟨gp,0,none⟩) 1 1] w fun e w'=>∃ v',e=.returned v'∧Grows base w v v' (h.take i++p::h.drop i) w':=by
 by_cases hin:i=h.length
 ·have e:h.take i++p::h.drop i=h++[p]:=by subst hin;simp
  rw[e,hin]
  exact Insert_end h p v gp base w hO hb hp hl
 ·obtain⟨g,cap,cur,rfl,q2,q3,q4,q5,q6,q7⟩:=row_blk hO (by omega)
  by_cases hroom:h.length+1≤cap
  ·exact Insert_room h p h.length i g cap gp base rfl cur w q3 q2 (by omega) hroom q5 q6 q7 hp (fun e=>hne (by rw[e];rfl)) hl
  ·obtain rfl:cap=h.length:=by omega
   exact Insert_grow h p h.length i g gp base rfl cur w q3 hb (by omega) q6 q7 hp hl
theorem sl_both (ao:Option Addr) (n cap l h:Nat) (hl:l≤h) (hc:h≤cap):∃ x0 x1 x2,∀ u:World,(Instr.slice 311 (.slice ao n cap) (some (.int .i64 (l:Int))) (some (.int .i64 (h:Int))) none).run Tryz.prog u=.ok (.slice x0 x1 x2) u:=⟨_,_,_,fun u=>by
 rw[run_slice_lh (P:=Tryz.prog) u 311 ao n cap (by rw[undH,← elemH]) .i64 .i64 l h (by omega) (by omega) (by omega),elemH,size_of_pr]
 rfl⟩
theorem owns_cap {w:World} {base:Nat} {e:TypeId} {s:Nat} {ao:Option Addr} {n cap:Nat} {xs:List Value} (hO:w.ownsRow base e s (.slice ao n cap) n xs):n≤cap:=by
 rcases hO.2 with ⟨h,h1⟩ | ⟨g,cap',cur,q1,q2,q3,q4,_⟩
 ·cases h;exact Nat.le_refl _
 ·cases q1;exact q4
theorem Replace_ins (h:List Pr) (p:Pr) (i gp base:Nat) (v:Value) (w:World) (hO:w.ownsRow base 249 2 v h.length (prcells h)) (hb:base≤w.heap.size) (hi:i≤h.length) (hp:Blk w gp (prC p)) (hne:v.ownBlock≠some gp) (hl:h.length≤1048576) :
  Calls Tryz.prog 281 #[v,.int .i64 (i:Int),.int .i64 (i:Int),.slice (some ⟨gp,0,none⟩) 1 1] w fun e w'=>∃ v',e=.returned v'∧Grows base w v v' (h.take i++p::h.drop i) w':=by
 obtain⟨ao,c,rfl⟩:=(holds_of hO).form
 obtain⟨x0,x1,x2,s0⟩:=sl_both ao h.length c i i (Nat.le_refl _) (Nat.le_trans hi (owns_cap hO))
 have hI:=Insert_f h p i gp base _ w hO hb hi hp hne hl
 generalize h.take i++p::h.drop i=H' at hI ⊢
 go_enter Tryz.func281,Tryz.ntmps281
 go_wp2_with fail
 refine hI.mono ?_
 rintro e w1 ⟨v',rfl,hG⟩
 obtain⟨ao',c',rfl⟩:=(holds_of hG.1).form
 go_wp2
 go_ret
 exact⟨_,rfl,hG⟩
theorem Replace_tail (h:List Pr) (p:Pr) (n i g cap gp base:Nat) (HN:Hid (h.length=n)) (cur:List Value) (w:World) (hg:Blk w g cur) (hgb:base≤g) (hi:i<n) (hnc:n≤cap) (hcm:cap≤maxLen) (hcl:Hid (cur.length=cap * 2)) (hct:Hid (cur.take (n * 2)=prcells h)) (hp:Blk w gp (prC p)) (_hl:n≤1048576) :
  Calls Tryz.prog 281 #[.slice (some ⟨g,0,none⟩) n cap,.int .i64 (i:Int),.int .i64 (n:Int),.slice (some ⟨gp,0,none⟩) 1 1] w fun e w'=>∃ v',e=.returned v'∧Grows base w (.slice (some ⟨g,0,none⟩) n cap) v' (h.take i++p::h.drop n) w':=by
 obtain⟨x0,x1,x2,s0⟩:=sl_both (some ⟨g,0,none⟩) n cap i n (by omega) hnc
 have s1:=sl_to undH elemH g n cap i (by omega)
 have hcp:(prC p).length=2:=rfl
 have hfit:i * 2+(prC p).length≤cur.length:=by rw[hcp,hcl.out];omega
 have hap:∀ ty,(Builtin.append_ #[311,245] ty #[.slice (some ⟨g,0,none⟩) i cap,.slice (some ⟨gp,0,none⟩) 1 1]).run Tryz.prog w=.ok (.slice (some ⟨g,0,none⟩) (i+1) cap) (w.setRow g (spl cur (i * 2) (prC p)).toArray):=fun ty =>
  run_append_room undH undP w ty g i cap ⟨gp,0,none⟩ 1 1 cur (prC p) hg (by omega) rfl (pr_src hp) hfit (prC_one p)
 have hG1:=setRow_grown w g (spl cur (i * 2) (prC p)).toArray
 have hB1:Blk (w.setRow g (spl cur (i * 2) (prC p)).toArray) g (spl cur (i * 2) (prC p)):=setRow_heap w g _ _ _ _ hg
 have hl1:(spl cur (i * 2) (prC p)).length=cap * 2:=by rw[spl_length hfit,hcl.out]
 have ht1:(spl cur (i * 2) (prC p)).take ((i+1) * 2)=prcells (h.take i++p::h.drop n):=by
  rw[spl_take hfit _ (by rw[hcp];omega),List.drop_of_length_le (by rw[HN.out];exact Nat.le_refl _),prcells_append,prcells_take,← hct.out,List.take_take]
  congr 2
  omega
 generalize w.setRow g (spl cur (i * 2) (prC p)).toArray=W1 at hap hG1 hB1
 generalize spl cur (i * 2) (prC p)=cur1 at hB1 hl1 ht1
 have hlen:(h.take i++p::h.drop n).length=i+1:=by
  have:=HN.out
  rw[List.length_append,List.length_cons,List.length_take,List.length_drop]
  omega
 have HE:Hid ((h.take i++p::h.drop n).length=i+1):=hlen
 clear hlen
 have hne1:((i:Int) == (n:Int))=false:=by simp;omega
 by_cases hin:i+1<n
 ·have s2:=sl_from undH elemH g n cap (i+1) (by omega) (by omega)
  rw[show ((i+1:Nat):Int)=(i:Int)+1 by simp] at s2
  obtain⟨W2,hr2,hG2,cur2,hB2,hl2,ht2⟩:=run_clear_pr undH W1 0 g ((i+1) * 2) (n-(i+1)) (cap-(i+1)) cur1 hB1 (by rw[hl1];omega)
  have hd:decide ((i:Int)+1<(n:Int))=true:=decide_eq_true (by omega)
  go_enter Tryz.func281,Tryz.ntmps281
  go_wp2_with (at_builtin;refine wpList_ap _ (by kernel_rfl) (.tmp 32) (.tmp 33) 311 245 rfl _ _ rfl rfl _ _ (hap _) ?_)
  go_wp2_with (at_builtin;refine wpList_cl _ (by kernel_rfl) (.tmp 43) 311 rfl _ rfl _ _ hr2 ?_)
  go_wp2
  go_ret
  refine⟨_,rfl,?_,hG1.trans hG2,.inl rfl⟩
  rw[HE.out]
  exact blk_row hB2 hgb (by omega) hcm (by rw[hl2,hl1]) (by rw[ht2,ht1])
 ·have hd:decide ((i:Int)+1<(n:Int))=false:=decide_eq_false (by omega)
  go_enter Tryz.func281,Tryz.ntmps281
  go_wp2_with (at_builtin;refine wpList_ap _ (by kernel_rfl) (.tmp 32) (.tmp 33) 311 245 rfl _ _ rfl rfl _ _ (hap _) ?_)
  go_wp2
  go_ret
  refine⟨_,rfl,?_,hG1,.inl rfl⟩
  rw[HE.out]
  exact blk_row hB1 hgb (by omega) hcm hl1 ht1
theorem Replace_mid (h:List Pr) (p:Pr) (n i j g cap gp base:Nat) (HN:Hid (h.length=n)) (cur:List Value) (w:World) (hg:Blk w g cur) (hgb:base≤g) (hi:i<j) (hj:j<n) (hnc:n≤cap) (hcm:cap≤maxLen) (hcl:Hid (cur.length=cap * 2)) (hct:Hid (cur.take (n * 2)=prcells h)) (hp:Blk w gp (prC p)) (_hne:gp≠g) (hl:n≤1048576) :
  Calls Tryz.prog 281 #[.slice (some ⟨g,0,none⟩) n cap,.int .i64 (i:Int),.int .i64 (j:Int),.slice (some ⟨gp,0,none⟩) 1 1] w fun e w'=>∃ v',e=.returned v'∧Grows base w (.slice (some ⟨g,0,none⟩) n cap) v' (h.take i++p::h.drop j) w':=by
 obtain⟨x0,x1,x2,s0⟩:=sl_both (some ⟨g,0,none⟩) n cap i j (by omega) (by omega)
 obtain⟨tot,htot⟩:∃ t,t=i+1+(n-j):=⟨_,rfl⟩
 have s1:=sl_to undH elemH g n cap i (by omega)
 have s2:=sl_from undH elemH g n cap j (by omega) (by omega)
 have s3:=sl_to undH elemH g n cap tot (by omega)
 have s4:=sl_from undH elemH g tot cap i (by omega) (by omega)
 have s5:=sl_from undH elemH g tot cap (i+1) (by omega) (by omega)
 rw[show ((i+1:Nat):Int)=(i:Int)+1 by simp] at s5
 have hw1:IntKind.i64.wrap ((i:Int)+1)=(i:Int)+1:=by rw[IntKind.wrap_i64];omega
 have hw2:IntKind.i64.wrap ((i:Int)+1+((n-j:Nat):Int))=(tot:Int):=by rw[IntKind.wrap_i64];omega
 have hw3:(i:Int)+1+((n-j:Nat):Int)=(tot:Int):=by omega
 have hne1:((i:Int) == (j:Int))=false:=by simp;omega
 have hne2:((j:Int) == (n:Int))=false:=by simp;omega
 have hd1:decide ((cap:Int)<(tot:Int))=false:=decide_eq_false (by omega)
 have hd2:decide ((i:Int)+1≤(j:Int))=true:=decide_eq_true (by omega)
 have HT:Hid (tot=i+1+(n-j)):=htot
 clear htot
 go_enter Tryz.func281,Tryz.ntmps281
 go_wp2_with fail
 go_quiet (fail)
 have hgd:Blk (w.drewN nq) g cur:=hg
 have hpd:Blk (w.drewN nq) gp (prC p):=hp
 have hGd:w.grownBy (w.drewN nq) (some g):=⟨rfl,rfl,rfl,Nat.le_refl _,fun _ _ _=>rfl⟩
 generalize w.drewN nq=wd at hgd hpd hGd ⊢
 have hcp:(prC p).length=2:=rfl
 have hfit:i * 2+(prC p).length≤cur.length:=by rw[hcp,hcl.out];omega
 have hcp1:∀ ty,(Builtin.copy_ #[311,245] ty #[.slice (some ⟨g,i * 2,none⟩) (tot-i) (cap-i),.slice (some ⟨gp,0,none⟩) 1 1]).run Tryz.prog wd=.ok (goInt (1:Nat)) (wd.setRow g (spl cur (i * 2) (prC p)).toArray):=fun ty =>
  run_copy_pr undH wd ty g _ _ _ ⟨gp,0,none⟩ _ _ cur _ 1 hgd (by have:=HT.out;simp only[Nat.min_def];split<;>omega) rfl (pr_src hpd) hfit (prC_one p)
 have hG1:=hGd.trans (setRow_grown wd g (spl cur (i * 2) (prC p)).toArray)
 have hB1:Blk (wd.setRow g (spl cur (i * 2) (prC p)).toArray) g (spl cur (i * 2) (prC p)):=setRow_heap wd g _ _ _ _ hgd
 have hl1:(spl cur (i * 2) (prC p)).length=cap * 2:=by rw[spl_length hfit,hcl.out]
 have ht1:(spl cur (i * 2) (prC p)).take ((i+1) * 2)=prcells (h.take i)++prC p:=by
  rw[spl_take hfit _ (by rw[hcp];omega),prcells_take,← hct.out,List.take_take]
  congr 2
  omega
 have hcs1:((prcells h).drop (j * 2)).length=(n-j) * 2:=by rw[List.length_drop,prcells_length,HN.out];omega
 have hsrc:∀ k v,((prcells h).drop (j * 2))[k]?=some v→(spl cur (i * 2) (prC p))[j * 2+k]?=some v:=fun k v hk=>by
  have hlt:=(List.getElem?_eq_some_iff.1 hk).1
  rw[hcs1] at hlt
  rw[← hk,List.getElem?_drop,← hct.out,List.getElem?_take,if_pos (by omega)]
  unfold spl
  rw[List.getElem?_append_right (by rw[List.length_append,List.length_take,hcp,hcl.out];omega),List.getElem?_drop]
  congr 1
  rw[List.length_append,List.length_take,hcp,hcl.out]
  omega
 generalize wd.setRow g (spl cur (i * 2) (prC p)).toArray=W1 at hcp1 hG1 hB1
 generalize spl cur (i * 2) (prC p)=cur1 at hB1 hl1 ht1 hsrc
 have hcp2:∀ (u:World) (ty:TypeId),u.heap=W1.heap→(Builtin.copy_ #[311,311] ty #[.slice (some ⟨g,(i+1) * 2,none⟩) (tot-(i+1)) (cap-(i+1)),.slice (some ⟨g,j * 2,none⟩) (n-j) (cap-j)]).run Tryz.prog u=.ok (goInt (n-j:Nat)) (u.setRow g (spl cur1 ((i+1) * 2) ((prcells h).drop (j * 2))).toArray):=fun u ty hu=>by
  have hgu:Blk u g cur1:=by unfold Blk;rw[hu];exact hB1
  refine run_copy_pr undH u ty _ _ _ _ ⟨g,j * 2,none⟩ _ _ cur1 _ (n-j) hgu (by have:=HT.out;simp only[Nat.min_def];split<;>omega) hcs1 (fun k v hk=>?_) (by rw[hcs1,hl1];omega) (fun v hv=>prcells_one h v (List.mem_of_mem_drop hv))
  rw[add_none,hgu.cell]
  exact hsrc k v hk
 go_wp2_with (at_builtin;refine wpList_cp _ (by kernel_rfl) (.tmp 95) (.tmp 96) 311 245 rfl _ _ rfl rfl _ _ (hcp1 _) ?_)
 go_wp2_with fail
 go_region_held3 (fun _=>True) (trivial) (first | (refine step_cp _ rfl (.tmp 103) (.tmp 106) 311 311 rfl _ _ rfl rfl _ _ (hcp2 _ _ (by first | rfl | trivial)) ?_))
 have hG2:w.grownBy (W1.drew.setRow g (spl cur1 ((i+1) * 2) ((prcells h).drop (j * 2))).toArray) (some g):=hG1.trans ((drew_grown W1 (some g)).trans (setRow_grown W1.drew g _))
 have hfit2:(i+1) * 2+((prcells h).drop (j * 2)).length≤cur1.length:=by rw[hcs1,hl1];omega
 have hB2:Blk (W1.drew.setRow g (spl cur1 ((i+1) * 2) ((prcells h).drop (j * 2))).toArray) g (spl cur1 ((i+1) * 2) ((prcells h).drop (j * 2))):=setRow_heap W1.drew g _ _ _ _ hB1
 have hl2:(spl cur1 ((i+1) * 2) ((prcells h).drop (j * 2))).length=cap * 2:=by rw[spl_length hfit2,hl1]
 have ht2:(spl cur1 ((i+1) * 2) ((prcells h).drop (j * 2))).take (tot * 2)=prcells (h.take i++p::h.drop j):=by
  have e3:prcells (h.take i++p::h.drop j)=prcells (h.take i)++prC p++prcells (h.drop j):=by
   rw[prcells_append,List.append_assoc]
   rfl
  rw[spl_take hfit2 _ (by rw[hcs1,HT.out];omega),ht1,e3,prcells_drop,Nat.mul_comm 2 j]
 generalize W1.drew.setRow g (spl cur1 ((i+1) * 2) ((prcells h).drop (j * 2))).toArray=W2 at hG2 hB2 ⊢
 generalize spl cur1 ((i+1) * 2) ((prcells h).drop (j * 2))=cur2 at hB2 hl2 ht2
 have hlen:Hid ((h.take i++p::h.drop j).length=tot):=(by
  show _=_
  have:=HN.out
  rw[List.length_append,List.length_cons,List.length_take,List.length_drop,HT.out]
  omega)
 clear hcp1 hcp2 hB1 ht1 hsrc hgd hpd hGd hG1
 by_cases hji:j=i+1
 ·have hT2:tot=n:=by rw[HT.out];omega
  obtain⟨x3,x4,s6⟩:∃ x3 x4,∀ u:World,(Instr.slice 311 (.slice (some ⟨g,0,none⟩) n cap) (some (.int .i64 (tot:Int))) none none).run Tryz.prog u=.ok (.slice x3 0 x4) u:=⟨_,_,fun u=>by
   rw[run_slice_l (P:=Tryz.prog) u 311 (some ⟨g,0,none⟩) n cap (by rw[undH,← elemH]) .i64 tot (by omega) (by omega),elemH,size_of_pr]
   simp[Result.andThen,sliced,hT2]
   exact⟨rfl,rfl⟩⟩
  have hr2:∀ ty,(Builtin.clear_ #[311] ty #[.slice x3 0 x4]).run Tryz.prog W2=.ok (.tuple #[]) W2:=fun ty=>by cases x3<;>simp[Builtin.clear_,run_underlying undH]
  clear hT2
  go_wp2_with (at_builtin;refine wpList_cl _ (by kernel_rfl) (.tmp 110) 311 rfl _ rfl _ _ (hr2 _) ?_)
  go_wp2
  go_ret
  refine⟨_,rfl,?_,hG2,.inl rfl⟩
  rw[hlen.out]
  exact blk_row hB2 hgb (by have:=HT.out;omega) hcm hl2 ht2
 ·have s6:=sl_from undH elemH g n cap tot (by have:=HT.out;omega) (by have:=HT.out;omega)
  obtain⟨W3,hr3,hG3,cur3,hB3,hl3,ht3⟩:=run_clear_pr undH W2 0 g (tot * 2) (n-tot) (cap-tot) cur2 hB2 (by rw[hl2];have:=HT.out;omega)
  go_wp2_with (at_builtin;refine wpList_cl _ (by kernel_rfl) (.tmp 110) 311 rfl _ rfl _ _ hr3 ?_)
  go_wp2
  go_ret
  refine⟨_,rfl,?_,hG2.trans hG3,.inl rfl⟩
  rw[hlen.out]
  exact blk_row hB3 hgb (by have:=HT.out;omega) hcm (by rw[hl3,hl2]) (by rw[ht3,ht2])
theorem Replace_f (h:List Pr) (p:Pr) (i j gp base:Nat) (v:Value) (w:World) (hO:w.ownsRow base 249 2 v h.length (prcells h)) (hb:base≤w.heap.size) (hij:i≤j) (hj:j≤h.length) (hp:Blk w gp (prC p)) (hne:v.ownBlock≠some gp) (hl:h.length≤1048576) :
  Calls Tryz.prog 281 #[v,.int .i64 (i:Int),.int .i64 (j:Int),.slice (some ⟨gp,0,none⟩) 1 1] w fun e w'=>∃ v',e=.returned v'∧Grows base w v v' (h.take i++p::h.drop j) w':=by
 by_cases e:i=j
 ·subst e
  exact Replace_ins h p i gp base v w hO hb hj hp hne hl
 ·obtain⟨g,cap,cur,rfl,q2,q3,q4,q5,q6,q7⟩:=row_blk hO (by omega)
  by_cases e2:j=h.length
  ·subst e2
   exact Replace_tail h p h.length i g cap gp base rfl cur w q3 q2 (by omega) q4 q5 q6 q7 hp hl
  ·exact Replace_mid h p h.length i j g cap gp base rfl cur w q3 q2 (by omega) (by omega) q4 q5 q6 q7 hp (fun e=>hne (by rw[e];rfl)) hl
end

section
open Go.RowKit
theorem Search_f (g:Nat) (cb:Array Value) (n r:Nat) (p:Nat→Bool) (S:World→Prop) (w:World) (hS:S w) (eg:∀ args w,(callFunc g args).run Tryz.prog w=.ok (.enter g args) w) (hn:n≤1099511627776) (hr:r≤n)
  (hf:Hid (∀ i:Nat,i<n→∀ u:World,S u→Calls Tryz.prog g (#[.int .i64 (i:Int)]++cb) u fun e u'=>e=.returned (.bool (p i))∧S u'))
  (lo:Hid (∀ i,i<r→p i=false)) (hi:Hid (∀ i,r≤i→i<n→p i=true)) :
  Calls Tryz.prog 252 #[.int .i64 (n:Int),.func (.func g) #[] cb] w fun e w'=>e=.returned (.int .i64 (r:Int))∧S w':=by
 go_enter Tryz.func252,Tryz.ntmps252
 go_wp2
 go_loopw [5,6] (fun iv jv wr=>∃ (i j:Nat),iv=.int .i64 i∧jv=.int .i64 j∧i≤r∧r≤j∧j≤n∧S wr) (fun iv jv _=>(intOf jv).toNat-(intOf iv).toNat)
 case atStart=>exact⟨0,n,rfl,rfl,Nat.zero_le _,hr,Nat.le_refl _,hS⟩
 case round =>
  obtain⟨i,j,rfl,rfl,h1,h2,h3,hSr⟩:=hrel
  by_cases hij:i<j
  ·have hc:=hf.out ((i+j) / 2) (by omega) wr hSr
   rw[show (((i+j) / 2:Nat):Int)=((i:Int)+(j:Int)) / 2 by omega] at hc
   by_cases hm:(i+j) / 2<r
   ·rw[lo.out _ hm] at hc
    go_wp2_with (go_at_fn g;refine hc.mono ?_;rintro e w' ⟨rfl,hS'⟩)
    go_roundw
    case rel=>exact⟨(i+j) / 2+1,j,by go_num,rfl,by omega,h2,h3,hS'⟩
    case measure=>simp[intOf];omega
   ·rw[hi.out _ (by omega) (by omega)] at hc
    go_wp2_with (go_at_fn g;refine hc.mono ?_;rintro e w' ⟨rfl,hS'⟩)
    go_roundw
    case rel=>exact⟨i,(i+j) / 2,rfl,by go_num,h1,by omega,by omega,hS'⟩
    case measure=>simp[intOf];omega
  ·obtain rfl:i=r:=by omega
   go_wp2
   go_ret
   exact⟨rfl,hSr⟩
end

section
open Go.RowKit
attribute [local simp] low_drew
theorem cell_stay {u u':World} (h:Below u.heap.size u u') {b o:Nat} {v:Value} (hb:b<u.heap.size) (hc:u.cell? ⟨b,o,none⟩=some v):u'.cell? ⟨b,o,none⟩=some v:=by
 rw[← hc]
 unfold World.cell?
 rw[h.block b hb]
def px (h:List Pr) (i:Nat):Int:=(h[i]?.map (·.X)).getD 0
def py (h:List Pr) (i:Nat):Int:=(h[i]?.map (·.Y)).getD 0
theorem px_eq {h:List Pr} {i:Nat} (hi:i<h.length):px h i=h[i].X:=by simp[px,hi]
theorem py_eq {h:List Pr} {i:Nat} (hi:i<h.length):py h i=h[i].Y:=by simp[py,hi]
theorem upTo1_f (h:List Pr) (x:Int) (i B1 B2:Nat) (hv:Value) (W u:World) (hL:Low W u) (hb1:B1<W.heap.size) (hb2:B2<W.heap.size) (c1:W.cell? ⟨B1,0,none⟩=some hv) (c2:W.cell? ⟨B2,0,none⟩=some (.int .i64 x)) (hh:HPr W hv h) (hi:i<h.length) :
  Calls Tryz.prog 294 #[.int .i64 (i:Int),.pointer (some ⟨B1,0,none⟩),.pointer (some ⟨B2,0,none⟩)] u fun e u'=>e=.returned (.bool (decide (px h i≤x)))∧Low W u':=by
 obtain⟨ho,hc,rfl⟩:=Holds.form hh
 obtain⟨b,off,rfl,hbl,hcs⟩:=HPr.at hh (by omega)
 have d1:=cell_stay hL hb1 c1
 have d2:=cell_stay hL hb2 c2
 have d3:=cell_stay hL hbl (hcs i hi).1
 rw[px_eq hi]
 generalize h[i].X=X at *
 clear c1 c2 hcs
 have i1:0≤(i:Int):=by omega
 have i2:(i:Int)<(h.length:Int):=by omega
 go_enter Tryz.func294,Tryz.ntmps294
 go_wp2_with fail
 go_quiet (fail)
 go_wp2
 go_ret
 exact⟨rfl,Below.dN hL _⟩
theorem with1_f (h:List Pr) (p:Pr) (i B1 B2:Nat) (hv:Value) (W u:World) (hL:Low W u) (hb1:B1<W.heap.size) (hb2:B2<W.heap.size) (c1:W.cell? ⟨B1,0,none⟩=some hv) (c2:W.cell? ⟨B2,1,none⟩=some (.int .i64 p.Y)) (hh:HPr W hv h) (hi:i<h.length) :
  Calls Tryz.prog 280 #[.int .i64 (i:Int),.pointer (some ⟨B1,0,none⟩),.pointer (some ⟨B2,0,none⟩)] u fun e u'=>e=.returned (.bool (decide (p.Y<py h i)))∧Low W u':=by
 obtain⟨ho,hc,rfl⟩:=Holds.form hh
 obtain⟨b,off,rfl,hbl,hcs⟩:=HPr.at hh (by omega)
 have d1:=cell_stay hL hb1 c1
 have d2:=cell_stay hL hb2 c2
 have d3:=cell_stay hL hbl (hcs i hi).2
 rw[py_eq hi]
 generalize h[i].Y=X at *
 clear c1 c2 hcs
 have i1:0≤(i:Int):=by omega
 have i2:(i:Int)<(h.length:Int):=by omega
 go_enter Tryz.func280,Tryz.ntmps280
 go_wp2_with fail
 go_quiet (fail)
 go_wp2
 go_ret
 exact⟨rfl,Below.dN hL _⟩
theorem upTo_f (h:List Pr) (x:Int) (v:Value) (w:World) (hh:HPr w v h) (hl:h.length≤1048576) (hs:Hid (Stair h)) (r:Nat) (hr:Hid (upto h x=r)) :
  Calls Tryz.prog 279 #[v,.int .i64 x] w fun e w'=>e=.returned (.int .i64 (r:Int))∧Below w.heap.size w w':=by
 obtain⟨ho,hc,rfl⟩:=Holds.form hh
 have hrl:r≤h.length:=by rw[← hr.out];exact upto_le h x
 obtain⟨W2,hW2⟩:∃ W2,(w.alloc (Obj.cells #[.slice ho h.length hc] 311)).alloc (Obj.cells #[.int .i64 x] 3)=W2:=⟨_,rfl⟩
 have hB:Below w.heap.size w W2:=by rw[← hW2];exact ((Below.refl _ w).alloc (Nat.le_refl _) _).alloc (by simp) _
 have hsz:W2.heap.size=w.heap.size+1+1:=by rw[← hW2];simp
 have k1:W2.heap[w.heap.size]?=some (Obj.cells #[.slice ho h.length hc] 311 (0,0)):=by rw[← hW2];exact (Below.heap_alloc _ _ _ (by simp)).trans (_root_.Go.heap_alloc_new w _)
 have k2:W2.heap[w.heap.size+1]?=some (Obj.cells #[.int .i64 x] 3 (0,0)):=by rw[← hW2];exact alloc_second w _ _
 have c1:W2.cell? ⟨w.heap.size,0,none⟩=some (.slice ho h.length hc):=by rw[Lib.cell_of_heap k1];rfl
 have c2:W2.cell? ⟨w.heap.size+1,0,none⟩=some (.int .i64 x):=by rw[Lib.cell_of_heap k2];rfl
 have hh2:=HPr.keep hh hB (Nat.le_refl _)
 go_enter Tryz.func279,Tryz.ntmps279
 go_wp2_with fail
 refine (Search_f 294 #[.pointer (some ⟨w.heap.size,0,none⟩),.pointer (some ⟨w.heap.size+1,0,none⟩)] h.length r (fun i=>decide (px h i≤x)) (fun u=>Low W2 u) W2 (Below.refl _ _) (enters_of Tryz.func294 (by kernel_rfl) rfl) (by omega) hrl
  (fun i hi u hu=>upTo1_f h x i w.heap.size (w.heap.size+1) _ W2 u hu (by omega) (by omega) c1 c2 hh2 hi)
  (fun i hi=>by
   have hi':i<h.length:=by omega
   rw[← hr.out] at hi
   have:=upto_lt hi hi'
   rw[px_eq hi']
   exact decide_eq_false (by omega))
  (fun i hi hil=>by
   rw[← hr.out] at hi
   rw[px_eq hil]
   exact decide_eq_true (upto_ge hs.out hi hil))).mono ?_
 rintro e w3 ⟨rfl,hL3⟩
 go_wp2
 go_ret
 exact⟨rfl,hB.trans (Below.mono hL3 (by omega))⟩
theorem above_f (p q:Pr) (r:Bool) (w:World) (hr:Hid (decide (ab p q)=r)) :
  Calls Tryz.prog 233 #[prV p,prV q] w fun e w'=>e=.returned (.bool r)∧Below w.heap.size w w':=by
 obtain⟨ax,ay⟩:=p
 obtain⟨bx,by'⟩:=q
 unfold prV
 have h:=hr.out
 unfold ab at h
 dsimp only at h
 go_enter Tryz.func233,Tryz.ntmps233
 subst h
 clear hr
 by_cases h1:bx<ax
 ·go_wp2
  go_ret
  exact⟨ret_bool (by simp[h1]),((Below.refl _ w).alloc (Nat.le_refl _) _).alloc (by simp) _⟩
 ·go_wp2
  go_ret
  exact⟨ret_bool (by simp;omega),((Below.refl _ w).alloc (Nat.le_refl _) _).alloc (by simp) _⟩
theorem behind_f (h:List Pr) (p:Pr) (v:Value) (w:World) (hh:HPr w v h) (hl:h.length≤1048576) (hs:Hid (Stair h)) (r:Bool) (hr:Hid (r=true↔∃ a∈h,ab a p)) :
  Calls Tryz.prog 254 #[v,prV p] w fun e w'=>e=.returned (.bool r)∧Below w.heap.size w w':=by
 obtain⟨ho,hc,rfl⟩:=Holds.form hh
 obtain⟨X,Y⟩:=p
 have hrr:=hr.out
 rw[behind_iff hs.out] at hrr
 dsimp only at hrr
 obtain⟨k,hk⟩:∃ k,upto h X=k:=⟨_,rfl⟩
 have hkl:=upto_le h X
 rw[hk] at hrr hkl
 have HK:Hid (upto h X=k):=hk
 have HR:Hid (r=true↔0<k∧∃ a,h[k-1]?=some a∧Y<a.Y):=hrr
 clear hk hrr hr
 unfold prV
 dsimp only
 obtain⟨W1,hW1⟩:∃ W1,w.alloc (Obj.cells #[.int .i64 X,.int .i64 Y] 249)=W1:=⟨_,rfl⟩
 have hB:Below w.heap.size w W1:=by rw[← hW1];exact (Below.refl _ w).alloc (Nat.le_refl _) _
 have hsz:W1.heap.size=w.heap.size+1:=by rw[← hW1];simp
 have k1:W1.heap[w.heap.size]?=some (Obj.cells #[.int .i64 X,.int .i64 Y] 249 (0,0)):=by rw[← hW1];exact _root_.Go.heap_alloc_new w _
 have c1:W1.cell? ⟨w.heap.size,0,none⟩=some (.int .i64 X):=by rw[Lib.cell_of_heap k1];rfl
 have c2:W1.cell? ⟨w.heap.size,1,none⟩=some (.int .i64 Y):=by rw[Lib.cell_of_heap k1];rfl
 have hh1:=HPr.keep hh hB (Nat.le_refl _)
 go_enter Tryz.func254,Tryz.ntmps254
 go_wp2_with fail
 refine (upTo_f h X _ W1 hh1 hl hs k HK).mono ?_
 rintro e w2 ⟨rfl,hB2⟩
 have hB02:Below w.heap.size w w2:=hB.trans (hB2.mono (by omega))
 have d2:=cell_stay hB2 (by omega) c2
 have hh2:=HPr.keep hh1 hB2 (Nat.le_refl _)
 clear c1 c2 k1 hh1 hW1
 cases k with
 | zero =>
  have:r=false:=by
   cases r with
   | false=>rfl
   | true=>have:=(HR.out.1 rfl).1;omega
  subst this
  have e1:decide ((0:Int)<0)=false:=rfl
  go_wp2_with fail
  go_big_quiet (fail)
  go_wp2
  go_ret
  exact⟨rfl,Below.dN hB02 _⟩
 | succ k =>
  obtain⟨b,off,rfl,_,hcs⟩:=HPr.at hh2 (by omega)
  have d3:=(hcs k (by omega)).2
  obtain⟨Z,hZ⟩:∃ Z,h[k].Y=Z:=⟨_,rfl⟩
  rw[hZ] at d3
  have hrz:r=decide (Y<Z):=by
   have:=HR.out
   rw[Nat.add_sub_cancel,List.getElem?_eq_getElem (by omega)] at this
   cases r with
   | false =>
    symm
    refine decide_eq_false (fun c=>?_)
    have:=this.2 ⟨by omega,_,rfl,by rw[hZ];exact c⟩
    cases this
   | true =>
    obtain⟨_,a,ha,hya⟩:=this.1 rfl
    cases ha
    rw[hZ] at hya
    exact (decide_eq_true hya).symm
  subst hrz
  clear hcs hZ HR HK
  have e1:decide ((0:Int)<(k:Int)+1)=true:=decide_eq_true (by omega)
  have i1:0≤(k:Int):=by omega
  have i2:(k:Int)<(h.length:Int):=by omega
  have n4:IntKind.i64.wrap ((k:Int)+1-1)=(k:Int):=by rw[IntKind.wrap_i64];omega
  have n6:(k:Int)+1-1=(k:Int):=by omega
  go_wp2_with fail
  go_big_quiet (fail)
  go_wp2
  go_ret
  exact⟨rfl,Below.dN hB02 _⟩
end

section
open Go.RowKit
attribute [local simp] low_drew low_alloc
theorem owns_lt2 {w:World} {base n:Nat} {e:TypeId} {s:Nat} {v:Value} {xs:List Value} (ho:w.ownsRow base e s v n xs) {g:Nat} (hg:v.ownBlock=some g):g<w.heap.size:=by
 rcases ho.2 with ⟨h1,_⟩ | ⟨g',cap,cur,q1,q2,q3,_⟩
 ·rw[h1] at hg;cases hg
 ·rw[q1] at hg;cases hg;exact (Array.getElem?_eq_some_iff.1 q3).1
theorem blk_new (u:World) (p:Pr):Blk (u.alloc (.cells #[.int .i64 p.X,.int .i64 p.Y] 249)) u.heap.size (prC p):=_root_.Go.heap_alloc_new u _
structure Np (W:World) (gp:Nat) (p:Pr) (u:World):Prop where
 blk:Blk u gp (prC p)
 ge:W.heap.size≤gp
theorem upTo_low (h:List Pr) (x:Int) (v:Value) (W u:World) (hh:HPr W v h) (hl:h.length≤1048576) (hs:Hid (Stair h)) (r:Nat) (hr:Hid (upto h x=r)) (hL:Low W u) :
  Calls Tryz.prog 279 #[v,.int .i64 x] u fun e w'=>e=.returned (.int .i64 (r:Int))∧Low W w':=by
 refine (upTo_f h x v u (HPr.keep hh hL (Nat.le_refl _)) hl hs r hr).mono ?_
 rintro e w' ⟨rfl,h2⟩
 exact⟨rfl,Below.trans hL (h2.mono (Below.size hL))⟩
theorem upTo_np (h:List Pr) (x:Int) (v:Value) (W u:World) (hh:HPr W v h) (hl:h.length≤1048576) (hs:Hid (Stair h)) (r:Nat) (hr:Hid (upto h x=r)) (hL:Low W u) (gp:Nat) (p:Pr) (hp:Np W gp p u) :
  Calls Tryz.prog 279 #[v,.int .i64 x] u fun e w'=>e=.returned (.int .i64 (r:Int))∧Low W w'∧Np W gp p w':=by
 refine (upTo_f h x v u (HPr.keep hh hL (Nat.le_refl _)) hl hs r hr).mono ?_
 rintro e w' ⟨rfl,h2⟩
 exact⟨rfl,Below.trans hL (h2.mono (Below.size hL)),(h2.block gp (Array.getElem?_eq_some_iff.1 hp.blk).1).trans hp.blk,hp.ge⟩
theorem Replace_low (h:List Pr) (p:Pr) (i j gp base:Nat) (v:Value) (W u:World) (hO:W.ownsRow base 249 2 v h.length (prcells h)) (hb:base≤W.heap.size) (hij:i≤j) (hj:j≤h.length) (hl:h.length≤1048576) (hL:Low W u) (hp:Np W gp p u) :
  Calls Tryz.prog 281 #[v,.int .i64 (i:Int),.int .i64 (j:Int),.slice (some ⟨gp,0,none⟩) 1 1] u fun e w'=>∃ v',e=.returned v'∧Grows base W v v' (h.take i++p::h.drop j) w':=by
 refine (Replace_f h p i j gp base v u (owns_keep hO hL) (Nat.le_trans hb (Below.size hL)) hij hj hp.blk (fun e=>by have:=owns_lt2 hO e;have:=hp.ge;omega) hl).mono ?_
 rintro e w' ⟨v',rfl,h1,h2,h3⟩
 refine⟨v',rfl,h1,(low_grown hL _).trans h2,?_⟩
 rcases h3 with h3 | ⟨g,h3,h4⟩
 ·exact .inl h3
 ·exact .inr ⟨g,h3,Nat.le_trans (Below.size hL) h4⟩
theorem with_f (h:List Pr) (p:Pr) (base:Nat) (v:Value) (w:World) (hO:w.ownsRow base 249 2 v h.length (prcells h)) (hb:base≤w.heap.size) (hs:Hid (Stair h)) (hn:Hid (¬ ∃ a∈h,ab a p)) (hl:h.length≤1048576) (L:List Pr) (hL:Hid (ins h p=L)) :
  Calls Tryz.prog 255 #[v,prV p] w fun e w'=>∃ v',e=.returned v'∧Grows base w v v' L w':=by
 obtain⟨ho,hc,rfl⟩:=(holds_of hO).form
 obtain⟨X,Y⟩:=p
 obtain⟨i,hi⟩:∃ i,upto h X=i:=⟨_,rfl⟩
 obtain⟨j,hj⟩:∃ j,grt h Y=j:=⟨_,rfl⟩
 have hij:i≤j:=by rw[← hi,← hj];exact upto_grt hs.out hn.out
 have hjl:j≤h.length:=by rw[← hj];exact grt_le h Y
 have HI:Hid (upto h X=i):=hi
 have HJ:Hid (grt h Y=j):=hj
 have HL:Hid (h.take i++⟨X,Y⟩::h.drop j=L):=(by show _=_;rw[← hL.out,← hi,← hj];rfl)
 clear hi hj hL
 unfold prV
 dsimp only
 obtain⟨W2,hW2⟩:∃ W2,(w.alloc (Obj.cells #[.slice ho h.length hc] 311)).alloc (Obj.cells #[.int .i64 X,.int .i64 Y] 249)=W2:=⟨_,rfl⟩
 have hB:Below w.heap.size w W2:=by rw[← hW2];exact ((Below.refl _ w).alloc (Nat.le_refl _) _).alloc (by simp) _
 have hsz:W2.heap.size=w.heap.size+1+1:=by rw[← hW2];simp
 have k1:W2.heap[w.heap.size]?=some (Obj.cells #[.slice ho h.length hc] 311 (0,0)):=by rw[← hW2];exact (Below.heap_alloc _ _ _ (by simp)).trans (_root_.Go.heap_alloc_new w _)
 have k2:W2.heap[w.heap.size+1]?=some (Obj.cells #[.int .i64 X,.int .i64 Y] 249 (0,0)):=by rw[← hW2];exact alloc_second w _ _
 have c1:W2.cell? ⟨w.heap.size,0,none⟩=some (.slice ho h.length hc):=by rw[Lib.cell_of_heap k1];rfl
 have c2:W2.cell? ⟨w.heap.size+1,0,none⟩=some (.int .i64 X):=by rw[Lib.cell_of_heap k2];rfl
 have c3:W2.cell? ⟨w.heap.size+1,1,none⟩=some (.int .i64 Y):=by rw[Lib.cell_of_heap k2];rfl
 have hO2:=owns_keep hO hB
 have hh2:HPr W2 (.slice ho h.length hc) h:=holds_of hO2
 have hcs:∀ u:World,Low W2 u→u.cell? ⟨w.heap.size,0,none⟩=some (.slice ho h.length hc)∧u.cell? ⟨w.heap.size+1,0,none⟩=some (.int .i64 X)∧u.cell? ⟨w.heap.size+1,1,none⟩=some (.int .i64 Y):=fun u hu=>⟨cell_stay hu (by omega) c1,cell_stay hu (by omega) c2,cell_stay hu (by omega) c3⟩
 have hcs2:∀ u:World,W2.grownBy u (Value.slice ho h.length hc).ownBlock→u.cell? ⟨w.heap.size,0,none⟩=some (.slice ho h.length hc)∧u.cell? ⟨w.heap.size+1,0,none⟩=some (.int .i64 X)∧u.cell? ⟨w.heap.size+1,1,none⟩=some (.int .i64 Y):=fun u hu=>by
  have n1:=hu.block w.heap.size (by omega) (fun e=>Nat.lt_irrefl _ (owns_lt2 hO e.symm))
  have n2:=hu.block (w.heap.size+1) (by omega) (fun e=>by have:=owns_lt2 hO e.symm;omega)
  exact⟨by rw[Lib.cell_of_heap (n1.trans k1)];rfl,by rw[Lib.cell_of_heap (n2.trans k2)];rfl,by rw[Lib.cell_of_heap (n2.trans k2)];rfl⟩
 clear k1 k2
 go_enter Tryz.func255,Tryz.ntmps255
 go_wp2_with fail
 refine (Search_f 280 #[.pointer (some ⟨w.heap.size,0,none⟩),.pointer (some ⟨w.heap.size+1,0,none⟩)] h.length j (fun i=>decide (Y<py h i)) (fun u=>Low W2 u) W2 (Below.refl _ _) (enters_of Tryz.func280 (by kernel_rfl) rfl) (by omega) hjl
  (fun i hi u hu=>with1_f h ⟨X,Y⟩ i w.heap.size (w.heap.size+1) _ W2 u hu (by omega) (by omega) c1 c3 hh2 hi)
  (fun i hi=>by
   have hi':i<h.length:=by omega
   rw[← HJ.out] at hi
   have:=grt_lt hi hi'
   rw[py_eq hi']
   exact decide_eq_false (by omega))
  (fun i hi hil=>by
   rw[← HJ.out] at hi
   rw[py_eq hil]
   exact decide_eq_true (grt_ge hs.out hi hil))).mono ?_
 rintro e w3 ⟨rfl,hL3⟩
 obtain⟨d1,d2,d3⟩:=hcs w3 hL3
 have hL3':Low W2 w3:=hL3
 clear c1 c2 c3
 go_wp2_with fail
 go_region_held3 (fun w'=>w'.cell? ⟨w.heap.size,0,none⟩=some (.slice ho h.length hc)∧w'.cell? ⟨w.heap.size+1,0,none⟩=some (.int .i64 X)∧w'.cell? ⟨w.heap.size+1,1,none⟩=some (.int .i64 Y)) (go_keep)
  (first
   | (go_at_call 279;refine (upTo_np h X _ W2 _ hh2 hl hs i HI (by first | assumption | (simp[*];done)) _ ⟨X,Y⟩ (by exact⟨blk_new w3 ⟨X,Y⟩,Below.size hL3'⟩)).mono ?_;rintro e u1 ⟨rfl,hlow,hnp⟩;obtain⟨e1,e2,e3⟩:=hcs u1 hlow)
   | (go_at_call 279;refine (upTo_low h X _ W2 _ hh2 hl hs i HI (by first | assumption | (simp[*];done))).mono ?_;rintro e u1 ⟨rfl,hlow⟩;obtain⟨e1,e2,e3⟩:=hcs u1 hlow)
   | (go_at_call 281;refine (Replace_low h ⟨X,Y⟩ i j _ base _ W2 _ hO2 (by omega) hij hjl hl (by first | assumption | (simp[*];done)) (by first | exact hnp | exact⟨hnp.blk,hnp.ge⟩ | exact⟨blk_new u1 ⟨X,Y⟩,Below.size hlow⟩)).mono ?_;rintro e u2 ⟨v',rfl,hG⟩;obtain⟨e1,e2,e3⟩:=hcs2 u2 hG.2.1))
 all_goals
  rw[HL.out] at hG
  obtain⟨ao',c',rfl⟩:=(holds_of hG.1).form
  go_wp2
  go_ret
  refine⟨_,rfl,?_,(low_grown hB _).trans hG.2.1,?_⟩
  ·exact hG.1
  ·rcases hG.2.2 with h3 | ⟨g,h3,h4⟩
   ·exact .inl h3
   ·exact .inr ⟨g,h3,by omega⟩
end

section
open Go.RowKit Go.Shelf
attribute [local go_sem] Oper.semAt_some
structure Kq (n₀ lo:Nat) (W W':World):Prop where
 low:Below n₀ W W'
 box:W'.heap[lo]?=W.heap[lo]?
section
variable {n₀ lo:Nat} {A B C:World}
theorem Kq.refl (W:World):Kq n₀ lo W W:=⟨Below.refl _ _,rfl⟩
theorem Kq.trans (h:Kq n₀ lo A B) (k:Kq n₀ lo B C):Kq n₀ lo A C:=⟨h.low.trans k.low,k.box.trans h.box⟩
theorem Kq.alloc {W:World} (hn:n₀≤W.heap.size) (hl:lo<W.heap.size) (o:Obj):Kq n₀ lo W (W.alloc o):=⟨(Below.refl _ W).alloc hn o,Below.heap_alloc W o lo hl⟩
theorem Kq.putObj {w:World} (hn:n₀≤w.heap.size) (hl:lo<w.heap.size) (W:World) (l:Nat) (o o':Obj) (hlw:w.heap.size≤l) (h:W.heap[l]?=some o) (hc:o.isCells=false) (hw:o.isWalk=false):Kq n₀ lo W (W.putObj l o') :=
 ⟨belowK_b hn W l o o' hlw h hc hw,by have hne:l≠lo:=(by omega);simp[World.putObj,hne]⟩
theorem Kq.drewN (W:World) (k:Nat):Kq n₀ lo W (W.drewN k):=⟨Below.dN (Below.refl _ W) k,rfl⟩
end
def en (k:Nat):List Pr→List (Nat × Pr)
 | []=>[]
 | p::t=>(k,p)::en (k+1) t
theorem en_append (k:Nat) (a b:List Pr):en k (a++b)=en k a++en (k+a.length) b:=by
 induction a generalizing k with
 | nil=>rfl
 | cons p t ih=>simp[en,ih];congr 1;omega
theorem en_take (l:List Pr) (i:Nat) (hi:i<l.length):(en 0 (l.take (i+1))).reverse=(i,l[i])::(en 0 (l.take i)).reverse:=by
 rw[List.take_succ_eq_append_getElem hi,en_append,List.reverse_append]
 have:0+(l.take i).length=i:=by rw[List.length_take];omega
 rw[this]
 rfl
theorem en_snd (k:Nat) (l:List Pr):(en k l).map (·.2)=l:=by
 induction l generalizing k with
 | nil=>rfl
 | cons p t ih=>simp[en,ih]
abbrev Mp (n:Nat):={ x:Nat × Pr // x.1<n }
theorem Backward_any (ao:Option Addr) (len c:Nat) (w:World) :
  Calls Tryz.prog 251 #[.slice ao len c] w fun e w' =>
   e=.returned (.func (.func 278) #[] #[.pointer (some ⟨w.heap.size,0,none⟩)])∧w'=w.alloc (.cells #[.slice ao len c] 245):=by
 go_enter Tryz.func251,Tryz.ntmps251
 go_wp2
 go_ret
 exact⟨rfl,rfl⟩
theorem back1_in (N:Nat) (hN:1≤N) (lp lo n₀:Nat) (ao:Option Addr) (ca:Nat) (l:List Pr) (hlen:l.length≤1048576)
  (J Jx:List (Mp l.length)→World→Prop) (W:World) (_hJ:AbidesFrom W.heap.size J)
  (hY:∀ pre (x:Mp l.length) W1,J pre W1→pre.length<l.length→YieldAt Fence.wide (N-1) Tryz.prog lp #[.int .i64 (x.1.1:Int),prV x.1.2] W1 fun e W' =>
   (e=.returned (.bool true)∧J (pre++[x]) W'∧Kq n₀ lo W1 W')∨(e=.returned (.bool false)∧Jx (pre++[x]) W'))
  (_hlo:n₀≤lo) (_hsz:lo<W.heap.size) (hb0:W.heap[lo]?=some (.cells #[.slice ao l.length ca] 245 (0,0)))
  (hl:HPr W (.slice ao l.length ca) l) (hb:∀ a,ao=some a→0<l.length→a.block<n₀) (h0:J [] W) :
  CallsIn Fence.wide N Tryz.prog 278 #[.func (.yield lp) #[] #[],.pointer (some ⟨lo,0,none⟩)] W fun e W'=>(∃ v,e=.returned v) ∧
   ((∃ ys:List (Mp l.length),ys.map (·.1)=(en 0 l).reverse∧J ys W')∨(∃ pre,True∧Jx pre W')):=by
 have d0:W.cell? ⟨lo,0,none⟩=some (.slice ao l.length ca):=by rw[Lib.cell_of_heap hb0];rfl
 refine callsIn_of_wp Tryz.func278 rfl trivial ?_ rfl
 simp only[Tryz.ntmps278,List.size_toArray,List.length_cons,List.length_nil,Nat.reduceAdd,Nat.reduceSub,Array.replicate_succ,Array.replicate_zero,List.push_toArray,List.append_toArray,List.nil_append,List.cons_append]
 gi_wp2
 gi_loopw [3] (fun iv wr=>∃ (k:Nat) (z:Int) (pre:List (Mp l.length)),k≤l.length∧pre.length+k=l.length∧iv=.int .i64 z∧z+1=k∧Kq n₀ lo W wr∧J pre wr∧Hid (pre.map (·.1)++(en 0 (l.take k)).reverse=(en 0 l).reverse)) (fun iv _=>(intOf iv+1).toNat)
 case atStart=>exact⟨l.length,(l.length:Int)-1,[],Nat.le_refl _,by simp,by go_num,by omega,Kq.refl W,h0,(by show _=_;simp)⟩
 case round =>
  obtain⟨k,z,pre,hk,hpl,rfl,hz,hK,hJr,hR⟩:=hrel
  have hszr:=hK.low.size
  have hbx:=hK.box.trans hb0
  have d1:wr.cell? ⟨lo,0,none⟩=some (.slice ao l.length ca):=by rw[Lib.cell_of_heap hbx];rfl
  cases k with
  | zero =>
   obtain rfl:z=-1:=by omega
   gi_wp2
   go_end0
   exact⟨⟨_,rfl⟩,.inl ⟨pre,by have h:=hR.out;rw[← h];simp[en],hJr⟩⟩
  | succ i =>
   obtain rfl:z=(i:Int):=by omega
   have hlt:i<l.length:=by omega
   obtain⟨bk,off,rfl,hbk,hc⟩:=HPr.at hl (by omega)
   have hbn:=hb _ rfl (by omega)
   have hcell:∀ o v,W.cell? ⟨bk,o,none⟩=some v→wr.cell? ⟨bk,o,none⟩=some v:=fun o v h=>by
    rw[← h]
    unfold World.cell?
    rw[hK.low.block bk hbn]
   obtain⟨c0',c1'⟩:=hc i hlt
   have c0:=hcell _ _ c0'
   have c1:=hcell _ _ c1'
   have HR:Hid (pre.map (·.1)++(i,l[i])::(en 0 (l.take i)).reverse=(en 0 l).reverse):=(by
    show _=_
    rw[← en_take l i hlt]
    exact hR.out)
   obtain⟨p,hp⟩:∃ p,l[i]=p:=⟨_,rfl⟩
   rw[hp] at c0 c1 HR
   clear hc c0' c1' hcell hR hp
   have i1:0≤(i:Int):=by omega
   have i2:(i:Int)<(l.length:Int):=by omega
   obtain⟨X,Y⟩:=p
   dsimp only at c0 c1
   obtain⟨fn,tmps,assign,body,hy,hRd⟩:=hY pre ⟨(i,⟨X,Y⟩),hlt⟩ wr hJr (by omega)
   simp only[prV] at hy
   gi_wp2
   refine hRd.mono ?_
   rintro e W3 (⟨rfl,hJ3,hk3⟩ | ⟨rfl,hJx3⟩)
   ·gi_wp2
    go_roundw
    case rel=>exact⟨i,(i:Int)-1,pre++[⟨(i,⟨X,Y⟩),hlt⟩],by omega,by simp;omega,by go_num,by omega,hK.trans hk3,hJ3,(by show _=_;rw[← HR.out];simp)⟩
    case measure=>simp[intOf]
   ·gi_wp2
    refine bodyPost_ret (results_none rfl _ _ _) rfl ?_
    exact⟨⟨_,rfl⟩,.inr ⟨_,trivial,hJx3⟩⟩
theorem HPr.lt {w:World} {ao:Option Addr} {n c:Nat} {l:List Pr} (h:HPr w (.slice ao n c) l) (a:Addr) (ha:ao=some a) (h0:0<l.length):a.block<w.heap.size:=by
 obtain⟨b,off,hb,hlt,_⟩:=HPr.at h h0
 rw[ha] at hb
 cases hb
 exact hlt
theorem back_stops (N:Nat) (hN:1≤N) (lo n₀:Nat) (ao:Option Addr) (ca:Nat) (l:List Pr) (hlen:l.length≤1048576) (w:World)
  (hlo:n₀≤lo) (hsz:lo<w.heap.size) (hb0:w.heap[lo]?=some (.cells #[.slice ao l.length ca] 245 (0,0))) (hl:HPr w (.slice ao l.length ca) l) (hb:∀ a,ao=some a→0<l.length→a.block<n₀) :
  SeqStopsK Fence.wide N Tryz.prog 278 #[.pointer (some ⟨lo,0,none⟩)] (fun x:Mp l.length=>#[.int .i64 (x.1.1:Int),prV x.1.2]) (Kq n₀ lo) (fun ys=>ys.map (·.1)=(en 0 l).reverse) (fun _=>True) l.length w:=fun lp J Jx W hW hJ _ hY h0 =>
 back1_in N hN lp lo n₀ ao ca l hlen J Jx W hJ hY hlo (Nat.lt_of_lt_of_le hsz hW.size) ((hW.block _ hsz).trans hb0) (HPr.keep hl hW (Nat.le_refl _)) hb h0
end

section
open Go.RowKit
attribute [local simp] low_drew low_alloc
theorem owns_cells {w:World} {base n:Nat} {e:TypeId} {s:Nat} {v:Value} {xs:List Value} (ho:w.ownsRow base e s v n xs) {g:Nat} (hg:v.ownBlock=some g):∃ cur,w.heap[g]?=some (.cells cur e (0,0))∧base≤g:=by
 rcases ho.2 with ⟨h1,_⟩ | ⟨g',cap,cur,q1,q2,q3,_⟩
 ·rw[h1] at hg;cases hg
 ·rw[q1] at hg;cases hg;exact⟨cur,q3,q2⟩
theorem owns_differ {w:World} {base base' n n':Nat} {e e':TypeId} {s s':Nat} {v v':Value} {xs xs':List Value} (ho:w.ownsRow base e s v n xs) (ho':w.ownsRow base' e' s' v' n' xs') (hne:e≠e'):v.ownBlock=none∨v.ownBlock≠v'.ownBlock:=by
 cases h:v.ownBlock with
 | none=>exact .inl rfl
 | some g =>
  right
  intro e2
  obtain⟨cur,h1,_⟩:=owns_cells ho h
  obtain⟨cur',h2,_⟩:=owns_cells ho' e2.symm
  rw[h1] at h2
  cases h2
  exact hne rfl
structure Al (W:World) (base:Nat) (va:Value) (vals:List Value) (H:List (List Pr)):Prop where
 row:W.ownsRow base 311 1 va vals.length vals
 len:vals.length=H.length
 own:∀ (n:Nat) (v:Value) (h:List Pr),vals[n]?=some v→H[n]?=some h→W.ownsRow base 249 2 v h.length (prcells h)
 apart:∀ (i j:Nat) (v v':Value) (g:Nat),i≠j→vals[i]?=some v→vals[j]?=some v'→v.ownBlock=some g→v'.ownBlock≠some g
theorem Al.keep {W u:World} {base:Nat} {va:Value} {vals:List Value} {H:List (List Pr)} (h:Al W base va vals H) (hb:Low W u):Al u base va vals H :=
 ⟨owns_keep h.row hb,h.len,fun n v k h1 h2=>owns_keep (h.own n v k h1 h2) hb,h.apart⟩
theorem Al.at {W:World} {base:Nat} {va:Value} {vals:List Value} {H:List (List Pr)} (h:Al W base va vals H) {n:Nat} (hn:n<H.length):∃ v,vals[n]?=some v∧HPr W v H[n]:=by
 have hl:=h.len
 exact⟨vals[n],List.getElem?_eq_getElem (by omega),holds_of (h.own n _ _ (List.getElem?_eq_getElem (by omega)) (List.getElem?_eq_getElem hn))⟩
theorem Al.cell {W:World} {base:Nat} {ao:Option Addr} {k c:Nat} {vals:List Value} {H:List (List Pr)} (h:Al W base (.slice ao k c) vals H) {n:Nat} {v:Value} (hv:vals[n]?=some v):∃ g,ao=some ⟨g,0,none⟩∧g<W.heap.size∧W.cell? ⟨g,n,none⟩=some v∧W.frozen? ⟨g,n,none⟩=false:=by
 have hn:=(List.getElem?_eq_some_iff.1 hv).1
 rcases h.row.2 with ⟨h1,h2⟩ | ⟨g,cap,cur,q1,q2,q3,q4⟩
 ·omega
 ·cases q1
  refine⟨g,rfl,(Array.getElem?_eq_some_iff.1 q3).1,?_,h.row.frozenAt n⟩
  rw[h.row.cellAt n (by omega),hv]
theorem Al.set {W u:World} {base:Nat} {g k c:Nat} {vals:List Value} {H:List (List Pr)} (h:Al W base (.slice (some ⟨g,0,none⟩) k c) vals H) {n:Nat} {v v':Value} {h':List Pr} (hv:vals[n]?=some v) (hG:Grows base W v v' h' u):Al (u.setCell ⟨g,n,none⟩ v') base (.slice (some ⟨g,0,none⟩) k c) (vals.set n v') (H.set n h'):=by
 have hn:=(List.getElem?_eq_some_iff.1 hv).1
 have hl:=h.len
 obtain⟨g1,g2,g3⟩:=hG
 have hnH:n<H.length:=by omega
 have hOn:=h.own n v H[n] hv (List.getElem?_eq_getElem hnH)
 have hrow:u.ownsRow base 311 1 (.slice (some ⟨g,0,none⟩) k c) vals.length vals:=h.row.kept g2 (owns_differ h.row hOn (by decide))
 have hkk:k=vals.length:=by
  rcases h.row.2 with ⟨h1,h2⟩ | ⟨g',cap,cur,q1,_⟩
  ·cases h1
  ·cases q1;rfl
 subst hkk
 obtain⟨p1,gs⟩:=hrow.stored n v'
 refine⟨by rw[List.length_set];exact p1,by simp[hl],fun m x y hx hy=>?_,fun i j x y b hij hx hy hb=>?_⟩
 ·by_cases e:m=n
  ·subst e
   rw[List.getElem?_set_self hn] at hx
   rw[List.getElem?_set_self hnH] at hy
   cases hx
   cases hy
   exact g1.kept gs (by simpa [Value.ownBlock] using owns_differ g1 hrow (by decide))
  ·rw[List.getElem?_set_ne (fun q=>e q.symm)] at hx hy
   have hOm:=h.own m x y hx hy
   have hOu:u.ownsRow base 249 2 x y.length (prcells y):=hOm.kept g2 (by
    cases hb:x.ownBlock with
    | none=>exact .inl rfl
    | some b=>exact .inr (fun q=>h.apart m n x v b e hx hv hb q.symm))
   exact hOu.kept gs (by simpa [Value.ownBlock] using owns_differ hOu hrow (by decide))
 ·have key:∀ m y,m≠n→vals[m]?=some y→∀ b,y.ownBlock=some b→v'.ownBlock≠some b:=fun m y hmn hy b hb q=>by
   rcases g3 with g3 | ⟨g',g3,g4⟩
   ·exact h.apart m n y v b hmn hy hv hb (g3 ▸ q)
   ·rw[g3] at q
    cases q
    have hm:=(List.getElem?_eq_some_iff.1 hy).1
    have:=owns_lt2 (h.own m y H[m] hy (List.getElem?_eq_getElem (by omega))) hb
    omega
  by_cases ei:i=n
  ·subst ei
   rw[List.getElem?_set_self hn] at hx
   cases hx
   rw[List.getElem?_set_ne hij] at hy
   exact fun q=>key j y (fun q'=>hij q'.symm) hy b q hb
  ·rw[List.getElem?_set_ne (fun q=>ei q.symm)] at hx
   by_cases ej:j=n
   ·subst ej
    rw[List.getElem?_set_self hn] at hy
    cases hy
    exact key i x ei hx b hb
   ·rw[List.getElem?_set_ne (fun q=>ej q.symm)] at hy
    exact h.apart i j x y b hij hx hy hb
theorem Al.more {W w1:World} {base:Nat} {va va':Value} {vals:List Value} {H:List (List Pr)} (h:Al W base va vals H) (hO:w1.ownsRow base 311 1 va' (vals.length+1) (vals++[.slice none 0 0])) (hg:W.grownBy w1 va.ownBlock):Al w1 base va' (vals++[.slice none 0 0]) (H++[[]]):=by
 have hl:=h.len
 refine⟨by rw[List.length_append];exact hO,by simp[hl],fun n v k hv hk=>?_,fun i j x y b hij hx hy hb=>?_⟩
 ·by_cases e:n<vals.length
  ·rw[List.getElem?_append_left e] at hv
   rw[List.getElem?_append_left (by omega)] at hk
   have:=h.own n v k hv hk
   exact this.kept hg (owns_differ this h.row (by decide))
  ·have hn:n=vals.length:=by
    have:=(List.getElem?_eq_some_iff.1 hv).1
    simp at this
    omega
   subst hn
   rw[List.getElem?_append_right (Nat.le_refl _)] at hv
   rw[hl,List.getElem?_append_right (Nat.le_refl _)] at hk
   simp at hv hk
   subst hv hk
   exact World.ownsRow_nil _ _ _ _
 ·have key:∀ (m:Nat) (y:Value),(vals++[.slice none 0 0])[m]?=some y→y.ownBlock≠none→vals[m]?=some y:=fun m y hy hn=>by
   by_cases e:m<vals.length
   ·rwa [List.getElem?_append_left e] at hy
   ·rw[List.getElem?_append_right (by omega)] at hy
    have:=(List.getElem?_eq_some_iff.1 hy).1
    simp at this
    have e2:m-vals.length=0:=by omega
    rw[e2] at hy
    simp at hy
    subst hy
    exact absurd rfl hn
  intro q
  exact h.apart i j x y b hij (key i x hx (by rw[hb];simp)) (key j y hy (by rw[q];simp)) hb q
theorem behind_low (h:List Pr) (p:Pr) (v:Value) (W u:World) (hh:HPr W v h) (hl:h.length≤1048576) (hs:Hid (Stair h)) (r:Bool) (hr:Hid (r=true↔∃ a∈h,ab a p)) (hL:Low W u) :
  Calls Tryz.prog 254 #[v,prV p] u fun e w'=>e=.returned (.bool r)∧Low W w':=by
 refine (behind_f h p v u (HPr.keep hh hL (Nat.le_refl _)) hl hs r hr).mono ?_
 rintro e w' ⟨rfl,h2⟩
 exact⟨rfl,Below.trans hL (h2.mono (Below.size hL))⟩
theorem rf1_f (H:List (List Pr)) (p:Pr) (i B4 Bp base:Nat) (va:Value) (vals:List Value) (W u:World) (hL:Low W u) (hA:Al W base va vals H) (c4:W.cell? ⟨B4,0,none⟩=some va) (hb4:B4<W.heap.size) (cX:W.cell? ⟨Bp,0,none⟩=some (.int .i64 p.X)) (cY:W.cell? ⟨Bp,1,none⟩=some (.int .i64 p.Y)) (hbp:Bp<W.heap.size) (hi:i<H.length) (hst:Hid (∀ h∈H,Stair h∧h.length≤1048576)) (_hHl:H.length≤1048576) (r:Bool) (hr:Hid (r=true↔∃ a∈H[i],ab a p)) :
  Calls Tryz.prog 253 #[.int .i64 (i:Int),.pointer (some ⟨B4,0,none⟩),.pointer (some ⟨Bp,0,none⟩)] u fun e u'=>e=.returned (.bool !r)∧Low W u':=by
 obtain⟨ao,c,rfl⟩:=(holds_of hA.row).form
 obtain⟨v,hv,hh⟩:=hA.at hi
 obtain⟨g,rfl,hgl,cv,_⟩:=hA.cell hv
 have hs:=hst.out _ (List.getElem_mem hi)
 obtain⟨vo,vc,rfl⟩:=Holds.form hh
 have hlen:=hA.len
 obtain⟨X,Y⟩:=p
 dsimp only at cX cY
 have hcs:∀ z:World,Low W z→z.cell? ⟨B4,0,none⟩=some (.slice (some ⟨g,0,none⟩) vals.length c)∧z.cell? ⟨g,i,none⟩=some (.slice vo H[i].length vc)∧z.cell? ⟨Bp,0,none⟩=some (.int .i64 X)∧z.cell? ⟨Bp,1,none⟩=some (.int .i64 Y):=fun z hz=>⟨cell_stay hz hb4 c4,cell_stay hz hgl cv,cell_stay hz hbp cX,cell_stay hz hbp cY⟩
 obtain⟨d1,d2,d3,d4⟩:=hcs u hL
 obtain⟨h,hh'⟩:∃ h,H[i]=h:=⟨_,rfl⟩
 rw[hh'] at hh hs d2 hcs hr
 have HS:Hid (Stair h):=hs.1
 have hhl:=hs.2
 clear hh' c4 cX cY cv hs
 have i1:0≤(i:Int):=by omega
 have i2:(i:Int)<(vals.length:Int):=by omega
 go_enter Tryz.func253,Tryz.ntmps253
 go_wp2_with fail
 go_region_held3 (fun w'=>w'.cell? ⟨B4,0,none⟩=some (.slice (some ⟨g,0,none⟩) vals.length c)∧w'.cell? ⟨g,i,none⟩=some (.slice vo h.length vc)∧w'.cell? ⟨Bp,0,none⟩=some (.int .i64 X)∧w'.cell? ⟨Bp,1,none⟩=some (.int .i64 Y)∧Low W w') (go_keep)
  (first | (go_at_call 254;refine (behind_low h ⟨X,Y⟩ _ W _ hh hhl HS r hr (by first | assumption | (simp[*];done))).mono ?_;rintro e w' ⟨rfl,hlow⟩;obtain⟨g0,g1,g2,g3⟩:=hcs w' hlow))
 go_wp2
 go_ret
 exact⟨rfl,hlow⟩
end

section
open Go.RowKit
theorem kp_self (b:Int) (x:List Int):kp b x x=(List.range x.length).map fun (j:Nat)=>b+(j:Int):=by
 induction x generalizing b with
 | nil=>rw[kp_nil];rfl
 | cons a x ih =>
  rw[kp_cons,if_pos rfl,ih,List.length_cons,List.range_succ_eq_map,List.map_cons,List.map_map]
  simp
  intro j _
  omega
theorem mk_nil (x y:List Int) (hx:x.length≤4096) (hy:y.length≤4096):mkL (kp 0 x y) y.length=[]↔x=y:=by
 constructor
 ·intro h
  have hv:Vk 0 (y.length:Int) (kp 0 x y):=by
   have:=kp_vk 0 x y (Int.le_refl _)
   rwa [Int.zero_add] at this
  have hl:=kp_length 0 x y
  obtain⟨⟨_,_,hS⟩,hU⟩:=mk_script hv (by omega) (by omega) (by rw[hl];omega)
  rw[h] at hS hU
  rw[U_nil] at hU
  have hnm:x.length=y.length:=by
   have h1:=hS.2.2
   rw[hl] at h1
   omega
  apply List.ext_getElem hnm
  intro i h1 h2
  have hm:(⟨(i:Int),(i:Int),1⟩:Rn)∈keptR 0 (kp 0 x y):=by
   rw[← hU,mem_un]
   rw[hl]
   refine⟨rfl,?_,?_,?_⟩<;>dsimp only<;>omega
  rw[mem_keptR] at hm
  obtain⟨_,_,h3,_⟩:=hm
  dsimp only at h3
  rw[show ((i:Int)-0).toNat=i by omega] at h3
  obtain⟨_,c,h4,h5⟩:=kp_same 0 x y (Int.le_refl _) i i h3 (by omega)
  rw[show ((i:Int)-0).toNat=i by omega] at h5
  rw[List.getElem?_eq_getElem h1] at h4
  rw[List.getElem?_eq_getElem h2] at h5
  rw[Option.some.inj h4,Option.some.inj h5]
 ·rintro rfl
  unfold mkL
  rw[kp_self,keptR_run 0 0 (Int.le_refl _),betw_un]
  simp[betw]
end

section
open Go.RowKit
end

section
open Go.RowKit
theorem run_makeN {T E:TypeId} {z:Value} {bytes:Nat} (hT:Tryz.prog.underlying T=some (.slice E)) (hinfo:(Tryz.prog.info? E).map (fun i=>(i.zero,i.size,i.bytes))=some (some z,1,bytes)) (hby:bytes≤32) (n:Int) (N:Nat) (hn:n=(N:Int)) (hN:N≤1099511627776) (W:World) :
  (Instr.makeSlice T (.int .i64 n) (.int .i64 n)).run Tryz.prog W=.ok (.slice (some ⟨W.heap.size,0,none⟩) N N) (W.alloc (.cells (madeCells z.cells N) E)):=by
 subst hn
 obtain⟨i0,hi,hz0,hzs,hz2⟩:=info_parts hinfo
 have h1:i0.bytes * N≤32 * 1099511627776:=by rw[hz2];exact Nat.mul_le_mul hby hN
 have hr:=run_make (P:=Tryz.prog) W T E i0 z hT hi hz0 .i64 .i64 (N:Int) (N:Int) (by omega) (Int.le_refl _) (by
  have:((i0.bytes * N:Nat):Int)≤281474976710656:=by omega
  rwa [Int.natCast_mul] at this) (by omega)
 simpa [hzs] using hr
theorem madeL (z:Value) (N:Nat):(madeCells #[z] N).toList=List.replicate N z:=by
 apply List.ext_getElem
 ·simp[madeCells]
 ·intro i h1 h2
  simp[madeCells,Nat.mod_one]
def rowB (B X k:Nat):Nat:=B+1+(X-k)
def rowV (B X Y k:Nat):Value:=.slice (some ⟨rowB B X k,0,none⟩) (Y+1) (Y+1)
structure Tb (w:World) (x y:List Int) (i c:Nat) (TS:List Value) (u:World):Prop where
 low:Below w.heap.size w u
 size:u.heap.size=w.heap.size+1+(x.length+1-i)
 top:u.ownsRow w.heap.size 71 1 (.slice (some ⟨w.heap.size,0,none⟩) (x.length+1) (x.length+1)) (x.length+1) TS
 tops:∀ k,i≤k→k≤x.length→TS[k]?=some (rowV w.heap.size x.length y.length k)
 rows:∀ k,i≤k→k≤x.length→∃ R,u.ownsRow w.heap.size 3 1 (rowV w.heap.size x.length y.length k) (y.length+1) R∧∀ j,j≤y.length→(i<k∨c≤j∨j=y.length∨k=x.length)→R[j]?=some (.int .i64 ((ln x y k j:Nat):Int))
section
variable {w u:World} {x y:List Int} {i c:Nat} {TS:List Value}
theorem Tb.drewN (h:Tb w x y i c TS u) (n:Nat):Tb w x y i c TS (u.drewN n):=⟨Below.dN h.low n,h.size,h.top,h.tops,h.rows⟩
theorem Tb.top_at (h:Tb w x y i c TS u) {k:Nat} (hi:i≤k) (hk:k≤x.length):u.cell? ⟨w.heap.size,k,none⟩=some (rowV w.heap.size x.length y.length k):=by
 rw[h.top.cellAt k (by omega)]
 exact h.tops k hi hk
theorem Tb.at (h:Tb w x y i c TS u) {k j:Nat} (hi:i≤k) (hk:k≤x.length) (hj:j≤y.length) (hc:i<k∨c≤j∨j=y.length∨k=x.length):u.cell? ⟨rowB w.heap.size x.length k,j,none⟩=some (.int .i64 ((ln x y k j:Nat):Int)):=by
 obtain⟨R,hR,hv⟩:=h.rows k hi hk
 unfold rowV at hR
 rw[hR.cellAt j (by omega)]
 exact hv j hj hc
theorem Tb.skip (h:Tb w x y i (c+1) TS u) (hc:c=y.length∨i=x.length):Tb w x y i c TS u:=by
 refine⟨h.low,h.size,h.top,h.tops,fun k h1 h2=>?_⟩
 obtain⟨R,hR,hv⟩:=h.rows k h1 h2
 exact⟨R,hR,fun j hj hq=>hv j hj (by omega)⟩
end
structure Rd (B:Nat) (x y:List Int) (u:World):Prop where
 lt:B+1+x.length<u.heap.size
 top:∀ k,k≤x.length→u.cell? ⟨B,k,none⟩=some (rowV B x.length y.length k)
 at':∀ k j,k≤x.length→j≤y.length→u.cell? ⟨rowB B x.length k,j,none⟩=some (.int .i64 ((ln x y k j:Nat):Int))
theorem cell_keep {u u':World} (h:Below u.heap.size u u') {b o:Nat} {v:Value} (hb:b<u.heap.size) (hc:u.cell? ⟨b,o,none⟩=some v):u'.cell? ⟨b,o,none⟩=some v:=by
 rw[← hc]
 unfold World.cell?
 rw[h.block b hb]
theorem Tb.rd {w u:World} {x y:List Int} {TS:List Value} (h:Tb w x y 0 0 TS u):Rd w.heap.size x y u :=
 ⟨by rw[h.size];omega,fun _ hk=>h.top_at (Nat.zero_le _) hk,fun _ _ hk hj=>h.at (Nat.zero_le _) hk hj (.inr (.inl (Nat.zero_le _)))⟩
end

section
open Go.RowKit
theorem rl_pos (l:List Pr):∀ n∈rl l,0<n:=by
 induction l with
 | nil=>simp[rl]
 | cons p t ih =>
  intro n hn
  rw[rl,List.mem_cons] at hn
  rcases hn with rfl | hn
  ·omega
  ·exact ih n hn
theorem mxl_le (p:Pr) (t:List Pr) (ns:List Nat) (N:Nat) (h:∀ n∈ns,n≤N):mxl p t ns≤N:=by
 induction t generalizing ns with
 | nil=>simp[mxl]
 | cons a t ih =>
  cases ns with
  | nil=>simp[mxl]
  | cons n ns =>
   rw[mxl]
   have h1:=ih ns (fun m hm=>h m (List.mem_cons_of_mem _ hm))
   have h2:=h n (List.mem_cons_self ..)
   split<;>omega
theorem rl_le (l:List Pr):∀ n∈rl l,n≤l.length:=by
 induction l with
 | nil=>simp[rl]
 | cons p t ih =>
  intro n hn
  rw[rl,List.mem_cons] at hn
  rw[List.length_cons]
  rcases hn with rfl | hn
  ·have:=mxl_le p t (rl t) t.length ih
   omega
  ·have:=ih n hn
   omega
theorem pick_length (left:Nat) (last:Option Pr) (l:List Pr) (ns:List Nat):(pick left last l ns).length≤l.length:=by
 induction l generalizing ns last left with
 | nil=>simp[pick]
 | cons p l ih =>
  cases ns with
  | nil=>simp[pick]
  | cons n ns =>
   rw[pick]
   split
   ·have:=ih (left-1) (some p) ns
    simp only[List.length_cons]
    omega
   ·have:=ih left last ns
    simp only[List.length_cons]
    omega
theorem pick_step (left:Nat) (last:Option Pr) (l:List Pr) (R:List Nat) (i:Nat) (hi:i<l.length) (hr:i<R.length):pick left last (l.drop i) (R.drop i)=if R[i]=left∧(∀ q,last=some q→ab l[i] q) then l[i]::pick (left-1) (some l[i]) (l.drop (i+1)) (R.drop (i+1)) else pick left last (l.drop (i+1)) (R.drop (i+1)):=by
 rw[List.drop_eq_getElem_cons hi,List.drop_eq_getElem_cons hr,pick]
attribute [local simp] low_drew
end

end Go.Proofs.YtgiojkhmkeocfaaGreatDoor

/- A region that draws its order, in a round: seven operations that read and a call, in whatever order, then the rest as the text has it. -/
namespace Go.Proofs.YtgiojkhmkeocfaaGreatDoor
namespace R8
open Go.RowKit Go.Shelf
abbrev B8:=Fin 8→Bool
def lst (b:B8):Array Bool:=#[b 0,b 1,b 2,b 3,b 4,b 5,b 6,b 7,false,false]
def upd (b:B8) (i:Fin 8):B8:=fun j=>if j=i then true else b j
def one (c:Bool):Nat:=if c then 1 else 0
def cnt (b:B8):Nat:=one (b 0)+one (b 1)+one (b 2)+one (b 3)+one (b 4)+one (b 5)+one (b 6)+one (b 7)
theorem lst_upd (b:B8) (i:Fin 8):(lst b).setIfInBounds i.1 true=lst (upd b i):=by
 rcases i with ⟨i,hi⟩
 rcases (by omega:i=0∨i=1∨i=2∨i=3∨i=4∨i=5∨i=6∨i=7) with rfl | rfl | rfl | rfl | rfl | rfl | rfl | rfl<;>simp[lst,upd]
theorem cnt_upd (b:B8) (i:Fin 8) (h:b i=false):cnt (upd b i)=cnt b+1:=by
 rcases i with ⟨i,hi⟩
 rcases (by omega:i=0∨i=1∨i=2∨i=3∨i=4∨i=5∨i=6∨i=7) with rfl | rfl | rfl | rfl | rfl | rfl | rfl | rfl<;>(simp only[Fin.isValue,Fin.mk_zero,Fin.mk_one,Fin.reduceFinMk] at h;simp[cnt,upd,one,h];try omega)
theorem one_le (c:Bool):one c≤1:=by cases c<;>simp[one]
theorem cnt_le (b:B8):cnt b≤8:=by
 have:=fun i=>one_le (b i)
 have h0:=this 0;have h1:=this 1;have h2:=this 2;have h3:=this 3;have h4:=this 4;have h5:=this 5;have h6:=this 6;have h7:=this 7
 unfold cnt
 omega
def deps:Fin 8→List (Fin 8)
 | 4=>[2,3]
 | 5=>[4]
 | 7=>[5,6]
 | _=>[]
def closedB (b:B8):Bool:=(List.finRange 8).all fun i=>!(b i) || (deps i).all b
theorem closed_upd (b:B8) (i:Fin 8) (h:closedB b=true) (hd:∀ j∈deps i,b j=true):closedB (upd b i)=true:=by
 simp only[closedB,List.all_eq_true,List.mem_finRange,Bool.or_eq_true,Bool.not_eq_true',forall_const] at h ⊢
 intro k
 have hup:∀ j,b j=true→upd b i j=true:=fun j hj=>by unfold upd;split<;>simp_all
 by_cases hk:k=i
 ·exact .inr fun j hj=>hup j (hd j (hk ▸ hj))
 ·rcases h k with h1 | h1
  ·left
   unfold upd
   rw[if_neg hk]
   exact h1
  ·exact .inr fun j hj=>hup j (h1 j hj)
theorem closed_at (b:B8) (h:closedB b=true) (i:Fin 8) (hi:b i=true):∀ j∈deps i,b j=true:=by
 simp only[closedB,List.all_eq_true,List.mem_finRange,Bool.or_eq_true,Bool.not_eq_true',forall_const] at h
 rcases h i with h1 | h1
 ·rw[hi] at h1;cases h1
 ·exact h1
theorem closed_call (b:B8) (h:closedB b=true) (h7:b 7=true):b 2=true∧b 3=true∧b 4=true∧b 5=true∧b 6=true:=by
 have h5:=closed_at b h 7 h7 5 (by simp[deps])
 have h6:=closed_at b h 7 h7 6 (by simp[deps])
 have h4:=closed_at b h 5 h5 4 (by simp[deps])
 exact⟨closed_at b h 4 h4 2 (by simp[deps]),closed_at b h 4 h4 3 (by simp[deps]),h4,h5,h6⟩
def chkReady (ops:Array Oper) (b:B8):Bool :=
 !(closedB b) || !(Region.ready .any ops (lst b)).isEmpty && (Region.ready .any ops (lst b)).all fun i =>
  if h:i<8 then !(b ⟨i,h⟩) && (deps ⟨i,h⟩).all b else i == 8 && (List.finRange 8).all b
theorem any8 {F:Fence} {n:Nat} {P:Program} {ops:Array Oper} {Q:Exit→Act→World→Prop} {w:World} (act:B8→Value→Act) (Post:Value→World→Prop)
  (hr:∀ b,chkReady ops b=true)
  (hstep:∀ (b:B8) (i:Fin 8),i≠7→b i=false→(∀ j∈deps i,b j=true)→closedB b=true→∀ v u,((b 7=false∧u=w)∨(b 7=true∧Post v u))→∀ K:Act→World→Prop,K (act (upd b i) v) u→wpOpIn F n P ops Q i.1 K (act b v) u)
  (hcall:∀ (b:B8) v,b 7=false→b 5=true→b 6=true→∀ K:Act→World→Prop,(∀ v' u,Post v' u→K (act (upd b 7) v') u)→wpOpIn F n P ops Q 7 K (act b v) w)
  (hfin:∀ v u,Post v u→wpOpIn F n P ops Q 8 (wpAnyIn F n P .any ops Q 1 #[true,true,true,true,true,true,true,true,true,false]) (act (fun _=>true) v) u) (v0:Value) :
  wpAnyIn F n P .any ops Q 10 (lst fun _=>false) (act (fun _=>false) v0) w:=by
 have main:∀ (fuel:Nat) (b:B8) (v:Value) (u:World),closedB b=true→fuel+cnt b=10→((b 7=false∧u=w)∨(b 7=true∧Post v u))→wpAnyIn F n P .any ops Q fuel (lst b) (act b v) u:=by
  intro fuel
  induction fuel with
  | zero=>intro b _ _ _ h;have:=cnt_le b;omega
  | succ f ih =>
   intro b v u hcl h hst
   have hb:=hr b
   unfold chkReady at hb
   rw[hcl] at hb
   simp only[Bool.not_true,Bool.false_or] at hb
   simp only[Bool.and_eq_true,List.all_eq_true] at hb
   refine⟨fun h0=>?_,fun i hi=>?_⟩
   ·rw[h0] at hb
    simp at hb
   ·have h1:=hb.2 i hi
    split at h1
    ·rename_i hlt
     simp only[Bool.and_eq_true,Bool.not_eq_true',List.all_eq_true] at h1
     have e:=lst_upd b ⟨i,hlt⟩
     dsimp only at e
     by_cases h7:i=7
     ·subst h7
      rcases hst with ⟨q1,rfl⟩ | ⟨q1,_⟩
      ·refine hcall b v q1 (h1.2 5 (by simp[deps])) (h1.2 6 (by simp[deps])) _ (fun v' u' hp=>?_)
       rw[e]
       exact ih _ v' u' (closed_upd b 7 hcl h1.2) (by have:=cnt_upd b ⟨7,hlt⟩ q1;omega) (.inr ⟨by simp[upd],hp⟩)
      ·have:=h1.1
       rw[show (⟨7,hlt⟩:Fin 8)=7 from rfl,q1] at this
       cases this
     ·refine hstep b ⟨i,hlt⟩ (fun q=>h7 (congrArg Fin.val q)) h1.1 h1.2 hcl v u hst _ ?_
      rw[e]
      refine ih _ v u (closed_upd b ⟨i,hlt⟩ hcl h1.2) (by rw[cnt_upd b ⟨i,hlt⟩ h1.1];omega) ?_
      have hne:(7:Fin 8)≠⟨i,hlt⟩:=fun q=>h7 (congrArg Fin.val q).symm
      have hu:upd b ⟨i,hlt⟩ 7=b 7:=by unfold upd;rw[if_neg hne]
      rw[hu]
      exact hst
    ·simp only[Bool.and_eq_true,beq_iff_eq,List.all_eq_true,List.mem_finRange,forall_const] at h1
     obtain⟨rfl,hall⟩:=h1
     obtain rfl:b=fun _=>true:=funext hall
     obtain rfl:f=1:=by
      have:cnt (fun _=>true)=8:=rfl
      omega
     rcases hst with ⟨q1,_⟩ | ⟨_,hp⟩
     ·cases q1
     ·exact hfin v u hp
 exact main 10 _ v0 w rfl rfl (.inl ⟨rfl,rfl⟩)
def pk (c:Bool) (v:Value):Value:=cond c v undef
theorem pk_true {c:Bool} (h:c=true) (v:Value):pk c v=v:=by rw[h];rfl
theorem wpOpIn_yield {F:Fence} {n:Nat} {P:Program} {ops:Array Oper} {Q:Exit→Act→World→Prop} {i:Nat} {o:Oper} {K:Act→World→Prop} {a:Act} {w:World} {v:Value} (ho:ops[i]?=some o) (hg:o.guard=none) (hnd:∀ c,o.op≠.defer c)
  (hab:o.about P w a.eval=none) (hrun:(execOp a.eval o).run P w=.ok (.value v) w) (hK:K (a.put o.dst v) w):wpOpIn F n P ops Q i K a w:=by
 unfold wpOpIn
 simp only[ho]
 have hw:Region.wanted o (yielded ops a.tmps)=true:=by simp[Region.wanted,hg]
 rw[if_pos hw]
 refine⟨fun f hf=>(by rw[hab] at hf;cases hf),?_⟩
 rw[Oper.semAt_plain F _ _ hnd,hrun]
 exact hK
def mk8 (b0 b1 b2 b3 b4 b5 b6 b7:Bool):B8:=fun i=>match i with
 | 0=>b0 | 1=>b1 | 2=>b2 | 3=>b3 | 4=>b4 | 5=>b5 | 6=>b6 | 7=>b7
theorem mk8_eta (b:B8):b=mk8 (b 0) (b 1) (b 2) (b 3) (b 4) (b 5) (b 6) (b 7):=by
 funext ⟨i,hi⟩
 rcases (by omega:i=0∨i=1∨i=2∨i=3∨i=4∨i=5∨i=6∨i=7) with rfl | rfl | rfl | rfl | rfl | rfl | rfl | rfl<;>rfl
theorem chk_all {ops:Array Oper} (h:∀ b0 b1 b2 b3 b4 b5 b6 b7:Bool,chkReady ops (mk8 b0 b1 b2 b3 b4 b5 b6 b7)=true) (b:B8):chkReady ops b=true:=by
 rw[mk8_eta b]
 exact h _ _ _ _ _ _ _ _
end R8
end Go.Proofs.YtgiojkhmkeocfaaGreatDoor
