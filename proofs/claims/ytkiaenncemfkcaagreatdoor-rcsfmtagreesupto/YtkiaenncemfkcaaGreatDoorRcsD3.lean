/-
  Texts that belong together, joined: RcSp, RcRw, RcWk, RcLen.
-/
import Derived.Test.YtkiaenncemfkcaaGreatDoorRcsD2
import Derived.Test.YtkiaenncemfkcaaGreatDoorRcsD1
import Derived.Deep.DeepCutAuto
import Derived.Deep.RegionHeld3

set_option maxHeartbeats 16000000
set_option maxRecDepth 100000
namespace Go.Proofs.YtkiaenncemfkcaaGreatDoor

section
open Go.RowKit
def rcG (a S out:List (List UInt8)) (p dn:Nat) (fl:Bool) (x0 x1 x2:Nat):Except (Nat × Int) (List (List UInt8) × Nat × Bool × Nat) :=
 if x0<dn∨(x0=dn∧0<x2∧fl=true) then .error (p+1,121) else if a.length<x0+x1 then .error (p+1,2) else if S.length<p+1+x2 then .error (S.length+1,1) else .ok (out++(a.drop dn).take (x0-dn)++(S.drop (p+1)).take x2,x0+x1,decide (0<x2),p+1+x2)
def rcv:Option (Bool × Nat × Nat)→Nat × Nat × Nat × Bool
 | none=>(0,0,0,false)
 | some (true,ah,n)=>(ah,0,n,true)
 | some (false,ah,n)=>(ah,n,0,true)
def rcH (a S out:List (List UInt8)) (p dn:Nat) (fl:Bool) (r:Option (Bool × Nat × Nat)):Except (Nat × Int) (List (List UInt8) × Nat × Bool × Nat):=match r with
 | none=>.error (p+1,3)
 | some q=>rcG a S out p dn fl (rcv (some q)).1 (rcv (some q)).2.1 (rcv (some q)).2.2.1
def rcSR (a:List (List UInt8)) (p:Nat) (s:List UInt8) (r out:List (List UInt8)) (dn:Nat) (fl:Bool):Except (Nat × Int) (List (List UInt8) × Nat × Bool × Nat):=match rcS a p s r out dn fl with
 | .error e=>.error e
 | .ok (o,d,g,q,_)=>.ok (o,d,g,q)
theorem Zuc {a S out:List (List UInt8)} {p dn:Nat} {fl:Bool} (hp:p<S.length):rcSR a p S[p] (S.drop (p+1)) out dn fl=rcH a S out p dn fl (rcmF S[p]):=by
 unfold rcSR rcS
 cases hr:rcmF S[p] with
 | none=>rfl
 | some q =>
  obtain⟨ad,ah,n⟩:=q
  have hb:0<n:=by
   unfold rcmF at hr
   split at hr
   ·exact (ZuH hr).2.1
   ·cases hr
  have hl:(S.drop (p+1)).length=S.length-(p+1):=List.length_drop
  dsimp only
  cases ad with
  | true =>
   have e:rcH a S out p dn fl (some (true,ah,n))=rcG a S out p dn fl ah 0 n:=rfl
   rw[e]
   unfold rcG
   by_cases h1:ah<dn∨(ah=dn∧fl=true)
   ·have c1:ah<dn∨(ah=dn∧true=true∧fl=true):=h1.imp id (fun h=>⟨h.1,rfl,h.2⟩)
    have c2:ah<dn∨(ah=dn∧0<n∧fl=true):=h1.imp id (fun h=>⟨h.1,hb,h.2⟩)
    rw[if_pos c1,if_pos c2]
   ·have c1:¬ (ah<dn∨(ah=dn∧true=true∧fl=true)):=fun q=>h1 (q.imp id (fun h=>⟨h.1,h.2.2⟩))
    have c2:¬ (ah<dn∨(ah=dn∧0<n∧fl=true)):=fun q=>h1 (q.imp id (fun h=>⟨h.1,h.2.2⟩))
    rw[if_neg c1,if_neg c2,if_pos rfl,if_pos rfl]
    by_cases h2:a.length<ah+0
    ·rw[if_pos h2,if_pos h2]
    ·rw[if_neg h2,if_neg h2]
     by_cases h3:(S.drop (p+1)).length<n
     ·rw[if_pos h3,if_pos (by omega),hl]
      dsimp only
      congr 2
      omega
     ·rw[if_neg h3,if_neg (by omega),decide_eq_true hb]
      simp
  | false =>
   have e:rcH a S out p dn fl (some (false,ah,n))=rcG a S out p dn fl ah n 0:=rfl
   rw[e]
   unfold rcG
   by_cases h1:ah<dn
   ·rw[if_pos (.inl h1),if_pos (.inl h1)]
   ·have c1:¬ (ah<dn∨(ah=dn∧false=true∧fl=true)):=fun q=>q.elim h1 (fun h=>by cases h.2.1)
    have c2:¬ (ah<dn∨(ah=dn∧0<0∧fl=true)):=fun q=>q.elim h1 (fun h=>absurd h.2.1 (by omega))
    have z:(if (false:Bool)=true then 0 else n)=n:=rfl
    have f0:¬ ((false:Bool)=true):=by decide
    rw[if_neg c1,if_neg c2,z]
    by_cases h2:a.length<ah+n
    ·rw[if_pos h2,if_pos h2]
    ·have h3:¬ S.length<p+1+0:=by omega
     rw[if_neg h2,if_neg h2,if_neg f0,if_neg h3]
     simp
def RsQ (W:World) (g:Nat) (vs vo:Value) (S a:List (List UInt8)) (r:Except (Nat × Int) (List (List UInt8) × Nat × Bool × Nat)) (e:Ending) (w':World):Prop :=
 match r with
 | .error (k,z)=>e=.returned (.int .i64 z)∧z≠0∧∃ p dn fl vm out,k=p+1∧Rrn W g vs vo vm S a out p dn fl w'
 | .ok (o,d,f,q)=>e=.returned (.int .i64 0)∧∃ vm,Rrn W g vs vo vm S a o q d f w'
theorem Zub (c:UInt8) (t:List UInt8) (w:World) (hl:t.length≤1099511627776) (x0 x1 x2:Nat) (ok:Bool) (HR:Hid (rcv (rcmK c t)=(x0,x1,x2,ok))) :
  Calls Tryz.prog 60 #[.string ⟨(c::t).toArray⟩] w fun e w'=>e=.returned (.tuple #[.agg #[.int .i64 (x0:Int),.int .i64 (x1:Int),.int .i64 (x2:Int)],.bool ok])∧Below w.heap.size w w':=by
 refine (Zua c t w hl _ rfl).mono ?_
 rintro e w' ⟨hb,he⟩
 have h:=HR.out
 cases hq:rcmK c t with
 | none =>
  rw[hq] at h he
  simp only[rcv,Prod.mk.injEq] at h
  obtain⟨rfl,rfl,rfl,rfl⟩:=h
  exact⟨he,hb⟩
 | some q =>
  obtain⟨ad,ah,n⟩:=q
  rw[hq] at h he
  cases ad with
  | true =>
   simp only[rcv,Prod.mk.injEq] at h
   obtain⟨rfl,rfl,rfl,rfl⟩:=h
   exact⟨he,hb⟩
  | false =>
   simp only[rcv,Prod.mk.injEq] at h
   obtain⟨rfl,rfl,rfl,rfl⟩:=h
   exact⟨he,hb⟩
theorem Zxs {u:World} {B:Nat} {x0 x1 x2:Value} (h:Rcb u B (.int .i64 0) (.int .i64 0) (.int .i64 0)) (y0 y1 y2:Int) (hx:x0=.int .i64 y0∧x1=.int .i64 y1∧x2=.int .i64 y2):∃ u',Rcb u' B x0 x1 x2∧u.grownBy u' (some B)∧∀ {op:Oper} (x y:Operand) (_:op.op=.store 126 x y) {ev:Operand→Value} (_:ev x=.pointer (some ⟨B,0,none⟩)) (_:ev y=.agg #[x0,x1,x2]),
  (execOp ev op).run Tryz.prog u=.ok .skip u':=by
 obtain⟨rfl,rfl,rfl⟩:=hx
 refine⟨_,h.put _ _ _,ZjY (ZjY (ZjW u B 0 _) (ZjW _ B 1 _)) (ZjW _ B 2 _),?_⟩
 intro op x y ho ev hx hy
 obtain⟨c0,c1,c2⟩:=h.cells
 have f0:=h.frozen 0
 have f1:=h.frozen 1
 have f2:=h.frozen 2
 simp only[execOp,ho,hx,hy]
 go_simp
theorem ZuF {u:World} {B b:Nat} {v0 v1 v2:Value} (h:Rcb u B v0 v1 v2) {s n:Nat} {v:Value} {xs:List Value} (ho:u.ownsRow b 9 s v n xs):v.ownBlock≠some B:=by
 intro e
 rcases ho.2 with ⟨rfl,_⟩ | ⟨g,cap,cur,rfl,_,hg,_⟩
 ·cases e
 ·simp only[Value.ownBlock,Option.some.injEq] at e
  subst e
  unfold Rcb at h
  rw[h] at hg
  simp at hg
theorem ZuE {u:World} {B g:Nat} {v0 v1 v2:Value} (h:Rcb u B v0 v1 v2) {vs vo vm:Value} {p dn:Nat} {fl:Bool} (hb:Rbx u g vs p vo dn fl vm):B≠g:=by
 rintro rfl
 unfold Rcb at h
 unfold Rbx at hb
 rw[h] at hb
 simp at hb
theorem ZwA (W:World) (g:Nat) (vs vo vm:Value) (S a out:List (List UInt8)) (p dn:Nat) (fl:Bool) (w:World) (hR:Rrn W g vs vo vm S a out p dn fl w) (hS:S.length≤1099511627776) (k:Nat) (hk:p+k≤S.length) (B:Nat) (v0 v1 v2:Value) (hX:Rcb w B v0 v1 v2) :
  Calls Tryz.prog 61 #[.pointer (some ⟨g,0,none⟩),.int .i64 (k:Int)] w fun e w'=>∃ vo1 vc1,e=.returned (.tuple #[.slice vo1 k vc1,.int .i64 0])∧HS W (.slice vo1 k vc1) ((S.drop p).take k)∧Rrn W g vs vo vm S a out (p+k) dn fl w'∧Rcb w' B v0 v1 v2:=by
 refine (Zwz W g vs vo vm S a out p dn fl w hR hS k hk).mono ?_
 rintro e w' ⟨vo1,vc1,he,hH,hR',hgr⟩
 exact⟨vo1,vc1,he,hH,hR',(hgr.block B hX.lt (fun q=>ZuE hX hR.box (Option.some.inj q))).trans hX⟩
theorem Zwr {W u:World} {g:Nat} {vs vo vm vm':Value} {S a out':List (List UInt8)} {p dn:Nat} {fl:Bool} (hgW:W.heap.size≤g) (hb:Rbx u g vs p vo dn fl vm) (hl:Below W.heap.size W u) (hs:HS W vs S) (ho:HS W vo a) (hown:u.ownsRow (g+1) 9 1 vm' out'.length (scells out')) (d':Nat) (hd:d'≤a.length) (hp:p≤S.length) (hob:out'.length≤d'+p) (f':Bool) (z:Int) (hz:z=(d':Int)) :
  Rrn W g vs vo vm' S a out' p d' f' (((u.setCell ⟨g,5,none⟩ vm').setCell ⟨g,3,none⟩ (.int .i64 z)).setCell ⟨g,4,none⟩ (.bool f')):=by
 subst hz
 have b1:=heap_setCell_same u g 5 _ _ vm' hb
 have b3:=heap_setCell_same _ g 3 _ _ (.int .i64 (d':Int)) b1
 have b4:=heap_setCell_same _ g 4 _ _ (.bool f') b3
 have o1:=Zuy hown (ZjW u g 5 vm') (Nat.lt_succ_self _)
 have o3:=Zuy o1 (ZjW _ g 3 (.int .i64 (d':Int))) (Nat.lt_succ_self _)
 have o4:=Zuy o3 (ZjW _ g 4 (.bool f')) (Nat.lt_succ_self _)
 exact⟨((hl.setCell hgW _).setCell hgW _).setCell hgW _,hgW,b4,hs,ho,o4,hp,hd,hob⟩
theorem Zwx (W:World) (g:Nat) (vs vo vm:Value) (S a out:List (List UInt8)) (p dn:Nat) (fl:Bool) (w:World) (hR:Rrn W g vs vo vm S a out p dn fl w) (hS:S.length≤274877906944) (ha:a.length≤274877906944) (HLS:Hid (∀ s∈S,s.length≤1099511627776∧s≠[]∧∀ d∈s.dropLast,d≠10)) (hp1:p<S.length)
  (r:Except (Nat × Int) (List (List UInt8) × Nat × Bool × Nat)) (HR:Hid (rcSR a p S[p] (S.drop (p+1)) out dn fl=r)) :
  Calls Tryz.prog 34 #[.pointer (some ⟨g,0,none⟩)] w fun e w'=>RsQ W g vs vo S a r e w':=by
 obtain⟨so,sc,rfl⟩:=Holds.form hR.scr
 obtain⟨bk,off,rfl,hbk,hcl⟩:=HS.at hR.scr (by omega)
 obtain⟨hsl,hne,hpl⟩:=HLS.out S[p] (List.getElem_mem hp1)
 have hrr:rcH a S out p dn fl (rcmF S[p])=r:=(by rw[← HR.out,Zuc hp1])
 have HCL0:Hid (∀ u:World,Below W.heap.size W u→u.cell? ⟨bk,off+p,none⟩=some (.string ⟨S[p].toArray⟩)):=(by
  intro u hu
  rw[World.cell?_of_block (w:=W) (hu.block bk hbk)]
  exact hcl p hp1)
 obtain⟨c,t,hct⟩:∃ c t,S[p]=c::t:=(by
  cases hq:S[p] with
  | nil=>exact absurd hq hne
  | cons c t=>exact⟨c,t,rfl⟩)
 rw[hct] at hsl hpl hrr HCL0
 rw[ZuK hpl] at hrr
 obtain⟨x0,x1,x2,ok,hx⟩:∃ x0 x1 x2 ok,rcv (rcmK c t)=(x0,x1,x2,ok):=⟨_,_,_,_,rfl⟩
 have HX:Hid (rcv (rcmK c t)=(x0,x1,x2,ok)):=hx
 have htl:t.length≤1099511627776:=by simp only[List.length_cons] at hsl;omega
 have HC0:Hid (∀ u:World,Calls Tryz.prog 60 #[.string ⟨(c::t).toArray⟩] u fun e w'=>e=.returned (.tuple #[.agg #[.int .i64 (x0:Int),.int .i64 (x1:Int),.int .i64 (x2:Int)],.bool ok])∧Below u.heap.size u w'):=fun u=>Zub c t u htl x0 x1 x2 ok HX
 have HG:Hid ((ok=false→r=.error (p+1,3))∧(ok=true→rcG a S out p dn fl x0 x1 x2=r)):=(by
  show _∧_
  rw[← hrr]
  cases hq:rcmK c t with
  | none =>
   rw[hq] at hx
   simp only[rcv,Prod.mk.injEq] at hx
   exact⟨fun _=>rfl,fun q=>by rw[← hx.2.2.2] at q;cases q⟩
  | some q =>
   rw[hq] at hx
   refine⟨fun e=>?_,fun _=>?_⟩
   ·obtain⟨ad,ah,n⟩:=q
    cases ad<;>(simp only[rcv,Prod.mk.injEq] at hx;rw[← hx.2.2.2] at e;cases e)
   ·show _=rcG a S out p dn fl (rcv (some q)).1 (rcv (some q)).2.1 (rcv (some q)).2.2.1
    rw[hx])
 have hxb:x0≤2147483647∧x1≤2147483647∧x2≤2147483647:=(by
  cases hq:rcmK c t with
  | none =>
   rw[hq] at hx
   simp only[rcv,Prod.mk.injEq] at hx
   omega
  | some q =>
   obtain⟨ad,ah,n⟩:=q
   rw[← ZuK hpl] at hq
   have hb:ah≤2147483647∧0<n∧n≤2147483647:=(by
    unfold rcmF at hq
    split at hq
    ·exact ZuH hq
    ·cases hq)
   rw[ZuK hpl] at hq
   rw[hq] at hx
   cases ad<;>(simp only[rcv,Prod.mk.injEq] at hx;omega))
 obtain⟨L,hL⟩:∃ L,(c::t).toArray=L:=⟨_,rfl⟩
 rw[hL] at HC0 HCL0
 have HC:=HC0
 have HCL:=HCL0
 have hpS:=hR.hp
 have hdA:=hR.hd
 have hob:=hR.ob
 clear hL HC0 HCL0 hcl hsl hne hpl hrr hct hx HX htl HLS HR
 go_enter Tryz.func34,Tryz.ntmps34
 go_upto_region 1 with fail
 go_cut [3,4] (fun bx o wz=>∃ B,bx=.pointer (some ⟨B,0,none⟩)∧o=.bool ok∧Rcb wz B (.int .i64 (x0:Int)) (.int .i64 (x1:Int)) (.int .i64 (x2:Int))∧Rrn W g (.slice (some ⟨bk,off,none⟩) S.length sc) vo vm S a out p dn fl wz)
 case first =>
  refine wp_region_noPanic ?_
  refine wp_region_held_drew (S:=fun u=>Rrn W g (.slice (some ⟨bk,off,none⟩) S.length sc) vo vm S a out p dn fl u) (by kernel_rfl) (hR.keep (Below.refl _ w).drew) (fun hHeld=>?_)
  generalize w.drew=wd at hHeld ⊢
  refine Y_t 0 8 _ (.pointer (some ⟨g,0,none⟩)) rfl (Or.inl ⟨by kernel_rfl,fun u hu=>by kernel_rfl⟩) hHeld ?_
  simp only[Act.put,Y_a,Y_b,Y_c]
  refine Y_t 1 9 _ (.pointer (some ⟨g,0,none⟩)) rfl (Or.inl ⟨by kernel_rfl,fun u hu=>by kernel_rfl⟩) hHeld ?_
  simp only[Act.put,Y_a,Y_b,Y_c]
  refine Y_t 2 10 _ (.pointer (some ⟨g,0,none⟩)) rfl (Or.inl ⟨by kernel_rfl,fun u hu=>by kernel_rfl⟩) hHeld ?_
  simp only[Act.put,Y_a,Y_b,Y_c]
  refine Y_t 3 11 _ (.slice (some ⟨bk,off,none⟩) S.length sc) rfl (Or.inl ⟨by kernel_rfl,fun u hu=>Zxp hu.box.cells.1 (.tmp 10) (by kernel_rfl) (by kernel_rfl)⟩) hHeld ?_
  simp only[Act.put,Y_a,Y_b,Y_c]
  refine Y_t 4 12 _ (.pointer (some ⟨g,0,none⟩)) rfl (Or.inl ⟨by kernel_rfl,fun u hu=>by kernel_rfl⟩) hHeld ?_
  simp only[Act.put,Y_a,Y_b,Y_c]
  refine Y_t 5 13 _ (.pointer (some ⟨g,0,none⟩)) rfl (Or.inl ⟨by kernel_rfl,fun u hu=>by kernel_rfl⟩) hHeld ?_
  simp only[Act.put,Y_a,Y_b,Y_c]
  refine Y_t 6 14 _ (.pointer (some ⟨g,1,none⟩)) rfl (Or.inl ⟨by kernel_rfl,fun u hu=>by kernel_rfl⟩) hHeld ?_
  simp only[Act.put,Y_a,Y_b,Y_c]
  refine Y_t 7 15 _ (.int .i64 (p:Int)) rfl (Or.inl ⟨by kernel_rfl,fun u hu=>Zok hu.box.cells.2.1 (.tmp 14) (by kernel_rfl) (by kernel_rfl)⟩) hHeld ?_
  simp only[Act.put,Y_a,Y_b,Y_c]
  refine Y_t 8 16 _ (.pointer (some ⟨bk,off+p,none⟩)) rfl (Or.inl ⟨by kernel_rfl,fun u hu=>Zxo (c:=sc) hp1 (.tmp 11) (.tmp 15) (by kernel_rfl) (by kernel_rfl) (by kernel_rfl)⟩) hHeld ?_
  simp only[Act.put,Y_a,Y_b,Y_c]
  refine Y_t 9 17 _ (.string ⟨L⟩) rfl (Or.inl ⟨by kernel_rfl,fun u hu=>Zxu (HCL.out u hu.low) (.tmp 16) (by kernel_rfl) (by kernel_rfl)⟩) hHeld ?_
  simp only[Act.put,Y_a,Y_b,Y_c]
  refine Zuq 10 18 _ 14 3 _ rfl (by kernel_rfl) rfl (by kernel_rfl) (by kernel_rfl) (by kernel_rfl) (by kernel_rfl) 60 (.func 60) #[.tmp 17] #[9] (by kernel_rfl) #[] (by kernel_rfl) #[.string ⟨L⟩] (by kernel_rfl) (enters_of Tryz.func60 (by kernel_rfl) rfl) (fun v w2=>v=.tuple #[.agg #[.int .i64 (x0:Int),.int .i64 (x1:Int),.int .i64 (x2:Int)],.bool ok]∧Below wd.heap.size wd w2) ?_ (.pointer (some ⟨wd.heap.size,0,none⟩)) (wd.alloc (.cells #[.int .i64 0,.int .i64 0,.int .i64 0] 126)) (by kernel_rfl) (hHeld.keep ((Below.refl _ wd).alloc (Nat.le_refl _) _)) ?_ ?_
  ·refine (HC.out wd).mono ?_
   rintro e w2 ⟨rfl,hb2⟩
   exact⟨_,rfl,hHeld.keep hb2,rfl,hb2⟩
  ·rintro _ w2 hR2 ⟨rfl,hb2⟩
   simp only[Act.put,Y_a,Y_b,Y_c]
   refine Y_t 11 7 _ (.tuple #[.agg #[.int .i64 (x0:Int),.int .i64 (x1:Int),.int .i64 (x2:Int)],.bool ok]) rfl (Or.inl ⟨by kernel_rfl,fun u hu=>by kernel_rfl⟩) hR2 ?_
   simp only[Act.put,Y_a,Y_b,Y_c]
   refine Y_t 12 19 _ (.agg #[.int .i64 (x0:Int),.int .i64 (x1:Int),.int .i64 (x2:Int)]) rfl (Or.inl ⟨by kernel_rfl,fun u hu=>by kernel_rfl⟩) hR2 ?_
   simp only[Act.put,Y_a,Y_b,Y_c]
   refine Y_t 13 20 _ (.bool ok) rfl (Or.inl ⟨by kernel_rfl,fun u hu=>by kernel_rfl⟩) hR2 ?_
   simp only[Act.put,Y_a,Y_b,Y_c]
   refine Y_v 14 3 _ rfl (.pointer (some ⟨w2.heap.size,0,none⟩)) (w2.alloc (.cells #[.int .i64 0,.int .i64 0,.int .i64 0] 126)) (by kernel_rfl) (hR2.keep ((Below.refl _ w2).alloc (Nat.le_refl _) _)) ?_
   simp only[Act.put,Y_a,Y_b,Y_c]
   have hR4:=hR2
   have hb5:Below w2.heap.size w2 (w2.alloc (.cells #[.int .i64 0,.int .i64 0,.int .i64 0] 126)):=(Below.refl _ w2).alloc (Nat.le_refl _) _
   have hle5:=Nat.le_refl w2.heap.size
   have hz5:Rcb (w2.alloc (.cells #[.int .i64 0,.int .i64 0,.int .i64 0] 126)) w2.heap.size (.int .i64 0) (.int .i64 0) (.int .i64 0):=_root_.Go.heap_alloc_new w2 _
   generalize w2.alloc (.cells #[.int .i64 0,.int .i64 0,.int .i64 0] 126)=u5 at hb5 hz5 ⊢
   obtain⟨u6,hx6,hg6,he6⟩:=Zxs (x0:=.int .i64 (x0:Int)) (x1:=.int .i64 (x1:Int)) (x2:=.int .i64 (x2:Int)) hz5 (x0:Int) (x1:Int) (x2:Int) ⟨rfl,rfl,rfl⟩
   have hb6:=hb5.grown hg6 hb5.size (fun j hj=>by cases hj;exact hle5)
   have hR6:=hR4.keep hb6
   refine Y_s 15 _ rfl (u6) (he6 (.tmp 3) (.tmp 19) (by kernel_rfl) (by kernel_rfl) (by kernel_rfl)) (hR6) ?_
   refine Y_t 16 4 _ (.bool ok) rfl (Or.inl ⟨by kernel_rfl,fun u hu=>by kernel_rfl⟩) hR6 ?_
   simp only[Act.put,Y_a,Y_b,Y_c]
   refine wpAnyH_done (by kernel_rfl) ?_ _
   refine NoPanic.normal ?_
   go_wp2
   go_meet
   exact⟨_,rfl,rfl,hx6,hR6⟩
  ·simp only[Act.put,Y_a,Y_b,Y_c]
   have hR4:=hHeld
   have hb4:Below wd.heap.size wd (wd.alloc (.cells #[.int .i64 0,.int .i64 0,.int .i64 0] 126)):=(Below.refl _ wd).alloc (Nat.le_refl _) _
   have hz4:Rcb (wd.alloc (.cells #[.int .i64 0,.int .i64 0,.int .i64 0] 126)) wd.heap.size (.int .i64 0) (.int .i64 0) (.int .i64 0):=_root_.Go.heap_alloc_new wd _
   generalize wd.alloc (.cells #[.int .i64 0,.int .i64 0,.int .i64 0] 126)=u4 at hb4 hz4 ⊢
   have hz4l:=hz4.lt
   refine Y_e 10 18 _ rfl 60 (.func 60) #[.tmp 17] #[9] (by kernel_rfl) #[] (by kernel_rfl) #[.string ⟨L⟩] (by kernel_rfl) (enters_of Tryz.func60 (by kernel_rfl) rfl) (fun v w2=>v=.tuple #[.agg #[.int .i64 (x0:Int),.int .i64 (x1:Int),.int .i64 (x2:Int)],.bool ok]∧Below u4.heap.size u4 w2) ?_ ?_
   ·refine (HC.out u4).mono ?_
    rintro e w2 ⟨rfl,hb2⟩
    exact⟨_,rfl,(hR4.keep hb4).keep hb2,rfl,hb2⟩
   ·rintro _ u5 hR2 ⟨rfl,hb2⟩
    simp only[Act.put,Y_a,Y_b,Y_c]
    have hz5:=hz4.low hb2 hz4l
    have hb5:=hb4.trans (hb2.mono hb4.size)
    have hle5:=Nat.le_refl wd.heap.size
    refine Y_t 11 7 _ (.tuple #[.agg #[.int .i64 (x0:Int),.int .i64 (x1:Int),.int .i64 (x2:Int)],.bool ok]) rfl (Or.inl ⟨by kernel_rfl,fun u hu=>by kernel_rfl⟩) hR2 ?_
    simp only[Act.put,Y_a,Y_b,Y_c]
    refine Y_t 12 19 _ (.agg #[.int .i64 (x0:Int),.int .i64 (x1:Int),.int .i64 (x2:Int)]) rfl (Or.inl ⟨by kernel_rfl,fun u hu=>by kernel_rfl⟩) hR2 ?_
    simp only[Act.put,Y_a,Y_b,Y_c]
    refine Y_t 13 20 _ (.bool ok) rfl (Or.inl ⟨by kernel_rfl,fun u hu=>by kernel_rfl⟩) hR2 ?_
    simp only[Act.put,Y_a,Y_b,Y_c]
    obtain⟨u6,hx6,hg6,he6⟩:=Zxs (x0:=.int .i64 (x0:Int)) (x1:=.int .i64 (x1:Int)) (x2:=.int .i64 (x2:Int)) hz5 (x0:Int) (x1:Int) (x2:Int) ⟨rfl,rfl,rfl⟩
    have hb6:=hb5.grown hg6 hb5.size (fun j hj=>by cases hj;exact hle5)
    have hR6:=hR4.keep hb6
    refine Y_s 15 _ rfl (u6) (he6 (.tmp 3) (.tmp 19) (by kernel_rfl) (by kernel_rfl) (by kernel_rfl)) (hR6) ?_
    refine Y_t 16 4 _ (.bool ok) rfl (Or.inl ⟨by kernel_rfl,fun u hu=>by kernel_rfl⟩) hR6 ?_
    simp only[Act.put,Y_a,Y_b,Y_c]
    refine wpAnyH_done (by kernel_rfl) ?_ _
    refine NoPanic.normal ?_
    go_wp2
    go_meet
    exact⟨_,rfl,rfl,hx6,hR6⟩
 case rest =>
  obtain⟨B,rfl,rfl,hX,hR1⟩:=hcut
  clear hR
  generalize wc=w1 at hX hR1 ⊢
  obtain⟨ao,ac,rfl⟩:=Holds.form hR1.old
  cases ok with
  | false =>
   have hr:=HG.out.1 rfl
   subst hr
   have HR1:Hid (Rrn W g (.slice (some ⟨bk,off,none⟩) S.length sc) (.slice ao a.length ac) vm S a out p dn fl w1):=hR1
   clear hR1
   go_wp2
   go_ret
   exact⟨rfl,by decide,_,_,_,_,_,rfl,HR1.out⟩
  | true =>
   have hg:=HG.out.2 rfl
   have HGr:Hid (rcG a S out p dn fl x0 x1 x2=r):=hg
   clear hg HG
   obtain⟨q0,q1,q2⟩:=hX.cells
   obtain⟨e0,e1,e2,e3,e4,e5⟩:=hR1.box.cells
   obtain⟨bad,hbad⟩:∃ bad,decide (x0<dn∨(x0=dn∧0<x2∧fl=true))=bad:=⟨_,rfl⟩
   have HB:Hid (decide (x0<dn∨(x0=dn∧0<x2∧fl=true))=bad):=hbad
   clear hbad
   go_upto_region 4 with fail
   go_cut [49] (fun z wz=>z=.bool bad∧∃ n,wz=w1.drewN n)
   case first =>
    by_cases h1:x0<dn
    ·have l1:(x0:Int)<(dn:Int):=by omega
     have l2:decide ((x0:Int)<(dn:Int))=true:=decide_eq_true l1
     have l3:decide (x0<dn)=true:=decide_eq_true h1
     obtain rfl:bad=true:=by rw[← HB.out];simp[h1]
     clear HB
     go_quiet (fail)
     go_wp2
     go_meet
     exact⟨rfl,_,rfl⟩
    ·have l2:decide ((x0:Int)<(dn:Int))=false:=decide_eq_false (by omega)
     have l3:decide (x0<dn)=false:=decide_eq_false h1
     by_cases h2:x0=dn
     ·have m1:((x0:Int) == (dn:Int))=true:=by rw[h2];simp
      have m2:(x0 == dn)=true:=by rw[h2];simp
      by_cases h3:0<x2
      ·have n1:decide ((0:Int)<(x2:Int))=true:=decide_eq_true (by omega)
       have n2:decide (0<x2)=true:=decide_eq_true h3
       obtain rfl:bad=fl:=(by rw[← HB.out];cases fl<;>simp[h2,h3])
       clear HB h1 h2
       go_quiet (fail)
       go_wp2
       go_meet
       exact⟨rfl,_,rfl⟩
      ·have n1:decide ((0:Int)<(x2:Int))=false:=decide_eq_false (by omega)
       have n2:decide (0<x2)=false:=decide_eq_false h3
       obtain rfl:bad=false:=(by rw[← HB.out];simp[h1,h3])
       clear HB h1 h2
       go_quiet (fail)
       go_wp2
       go_meet
       exact⟨rfl,_,rfl⟩
     ·have m1:((x0:Int) == (dn:Int))=false:=beq_eq_false_iff_ne.2 (by omega)
      have m2:(x0 == dn)=false:=beq_eq_false_iff_ne.2 h2
      obtain rfl:bad=false:=(by rw[← HB.out];simp[h1,h2])
      clear HB h1 h2
      go_quiet (fail)
      go_wp2
      go_meet
      exact⟨rfl,_,rfl⟩
   case rest =>
    obtain⟨rfl,n4,rfl⟩:=hcut
    have hR2:=hR1.dN n4
    have hX2:=hX.low (Below.dN (Below.refl _ w1) n4) hX.lt
    generalize w1.drewN n4=w2 at hR2 hX2 ⊢
    clear hR1 hX q0 q1 q2 e0 e1 e2 e3 e4 e5
    have hg:=HGr.out
    unfold rcG at hg
    cases bad with
    | true =>
     rw[if_pos (of_decide_eq_true HB.out)] at hg
     subst hg
     have HR2:Hid (Rrn W g (.slice (some ⟨bk,off,none⟩) S.length sc) (.slice ao a.length ac) vm S a out p dn fl w2):=hR2
     clear hR2
     go_wp2
     go_ret
     exact⟨rfl,by decide,_,_,_,_,_,rfl,HR2.out⟩
    | false =>
     have hok:=of_decide_eq_false HB.out
     rw[if_neg hok] at hg
     have hdx:dn≤x0:=(by
      rcases Nat.lt_or_ge x0 dn with h | h
      ·exact absurd (.inl h) hok
      ·exact h)
     clear HB hok HGr
     obtain⟨q0,q1,q2⟩:=hX2.cells
     obtain⟨e0,e1,e2,e3,e4,e5⟩:=hR2.box.cells
     have hw1:IntKind.i64.wrap ((a.length:Int)-(x0:Int))=(a.length:Int)-(x0:Int):=ZuB (by omega) (by omega)
     by_cases h2:a.length<x0+x1
     ·rw[if_pos h2] at hg
      subst hg
      have l1:(a.length:Int)-(x0:Int)<(x1:Int):=by omega
      have l2:decide ((a.length:Int)-(x0:Int)<(x1:Int))=true:=decide_eq_true l1
      have HR2:Hid (∀ n,Rrn W g (.slice (some ⟨bk,off,none⟩) S.length sc) (.slice ao a.length ac) vm S a out p dn fl (w2.drewN n)):=fun n=>hR2.dN n
      clear hR2
      go_wp2_with fail
      go_quiet (fail)
      go_wp2
      go_ret
      exact⟨rfl,by decide,_,_,_,_,_,rfl,HR2.out _⟩
     ·rw[if_neg h2] at hg
      have l1:¬ (a.length:Int)-(x0:Int)<(x1:Int):=by omega
      have l2:decide ((a.length:Int)-(x0:Int)<(x1:Int))=false:=decide_eq_false l1
      go_wp2_with fail
      go_quiet (fail)
      have hR3:=hR2.dN nq
      have hX3:=hX2.low (Below.dN (Below.refl _ w2) nq) hX2.lt
      generalize w2.drewN nq=w3 at hR3 hX3 ⊢
      clear hR2 hX2 q0 q1 q2 e0 e1 e2 e3 e4 e5
      have hR4:=hR3.setP (p+1) (by omega) (by omega) ((p:Int)+1) (by omega)
      have hX4:Rcb (w3.setCell ⟨g,1,none⟩ (.int .i64 ((p:Int)+1))) B (.int .i64 (x0:Int)) (.int .i64 (x1:Int)) (.int .i64 (x2:Int)):=(heap_setCell_other _ _ _ _ (ZuE hX3 hR3.box)).trans hX3
      obtain⟨e0,e1,e2,e3,e4,e5⟩:=hR3.box.cells
      have f1:=hR3.box.frozen 1
      have q2:(w3.setCell ⟨g,1,none⟩ (.int .i64 ((p:Int)+1))).cell? ⟨B,2,none⟩=some (.int .i64 (x2:Int)):=hX4.cells.2.2
      have HG3:Hid ((if S.length<p+1+x2 then .error (S.length+1,1) else .ok (out++(a.drop dn).take (x0-dn)++(S.drop (p+1)).take x2,x0+x1,decide (0<x2),p+1+x2))=r):=hg
      clear hg hR3 hX3
      go_wp2_with fail
      by_cases h3:S.length<p+1+x2
      ·have hg:=HG3.out
       rw[if_pos h3] at hg
       subst hg
       refine (Zwy W g _ _ vm S a out (p+1) dn fl _ hR4 (by omega) x2 h3).mono ?_
       rintro e w5 ⟨rfl,hR5⟩
       have HR5:Hid (Rrn W g (.slice (some ⟨bk,off,none⟩) S.length sc) (.slice ao a.length ac) vm S a out S.length dn fl w5):=hR5
       clear hR5 hR4 hX4 q2
       go_wp2
       go_ret
       exact⟨rfl,by decide,_,_,_,_,_,rfl,HR5.out⟩
      ·have hg:=HG3.out
       rw[if_neg h3] at hg
       clear HG3
       refine (ZwA W g _ _ vm S a out (p+1) dn fl _ hR4 (by omega) x2 (by omega) B _ _ _ hX4).mono ?_
       rintro e w5 ⟨po5,pc5,rfl,hH5,hR5,hX5⟩
       clear hR4 hX4 q2 e0 e1 e2 e3 e4 e5 f1
       obtain⟨po,pc,hsl,hsY⟩:=ZwO a ao ac (dn:Int) (x0:Int) (by omega) (by omega) (by omega) W hR5.old
       have eY:cut a (dn:Int) ((x0:Int)-(dn:Int))=(a.drop dn).take (x0-dn):=(by unfold cut;rw[Int.toNat_natCast];congr 1;omega)
       rw[eY] at hsl hsY
       have HYl:Hid (((a.drop dn).take (x0-dn)).length=x0-dn):=(by show _=_;rw[List.length_take,List.length_drop];omega)
       have HZl:Hid (((S.drop (p+1)).take x2).length=x2):=(by show _=_;rw[List.length_take,List.length_drop];omega)
       obtain⟨Y,hY⟩:∃ Y,(a.drop dn).take (x0-dn)=Y:=⟨_,rfl⟩
       obtain⟨Z,hZ⟩:∃ Z,(S.drop (p+1)).take x2=Z:=⟨_,rfl⟩
       rw[hY] at hsl hsY HYl hg
       rw[hZ] at hH5 HZl hg
       have HGE:Hid (.ok (out++Y++Z,x0+x1,decide (0<x2),p+1+x2)=r):=hg
       have hbY:out.length+Y.length≤4398046511104:=(by have:=HYl.out;omega)
       clear eY hY hZ hg
       go_upto_region 12 with fail
       refine wp_region_noPanic ?_
       refine wp_region_held_drew (S:=fun u=>u.cell? ⟨g,2,none⟩=some (.slice ao a.length ac)∧u.cell? ⟨g,3,none⟩=some (.int .i64 (dn:Int))∧u.cell? ⟨B,0,none⟩=some (.int .i64 (x0:Int))) (by kernel_rfl) ⟨hR5.box.cells.2.2.1,hR5.box.cells.2.2.2.1,hX5.cells.1⟩ (fun hSP=>?_)
       have hR6:=hR5.keep (Below.refl _ w5).drew
       have hX6:=hX5.low (Below.refl _ w5).drew hX5.lt
       generalize w5.drew=w6 at hSP hR6 hX6 ⊢
       clear hR5 hX5
       refine Y_t 0 78 _ (.pointer (some ⟨g,0,none⟩)) rfl (Or.inl ⟨by kernel_rfl,fun u hu=>by kernel_rfl⟩) hSP ?_
       simp only[Act.put,Y_a,Y_b,Y_c]
       refine Y_t 1 79 _ (.pointer (some ⟨g,0,none⟩)) rfl (Or.inl ⟨by kernel_rfl,fun u hu=>by kernel_rfl⟩) hSP ?_
       simp only[Act.put,Y_a,Y_b,Y_c]
       refine Y_t 2 80 _ (.pointer (some ⟨g,0,none⟩)) rfl (Or.inl ⟨by kernel_rfl,fun u hu=>by kernel_rfl⟩) hSP ?_
       simp only[Act.put,Y_a,Y_b,Y_c]
       refine Y_t 3 81 _ (.pointer (some ⟨g,5,none⟩)) rfl (Or.inl ⟨by kernel_rfl,fun u hu=>by kernel_rfl⟩) hSP ?_
       simp only[Act.put,Y_a,Y_b,Y_c]
       refine Y_t 5 83 _ (.pointer (some ⟨g,0,none⟩)) rfl (Or.inl ⟨by kernel_rfl,fun u hu=>by kernel_rfl⟩) hSP ?_
       simp only[Act.put,Y_a,Y_b,Y_c]
       refine Y_t 6 84 _ (.pointer (some ⟨g,0,none⟩)) rfl (Or.inl ⟨by kernel_rfl,fun u hu=>by kernel_rfl⟩) hSP ?_
       simp only[Act.put,Y_a,Y_b,Y_c]
       refine Y_t 7 85 _ (.pointer (some ⟨g,2,none⟩)) rfl (Or.inl ⟨by kernel_rfl,fun u hu=>by kernel_rfl⟩) hSP ?_
       simp only[Act.put,Y_a,Y_b,Y_c]
       refine Y_t 8 86 _ (.slice ao a.length ac) rfl (Or.inl ⟨by kernel_rfl,fun u hu=>Zxp hu.1 (.tmp 85) (by kernel_rfl) (by kernel_rfl)⟩) hSP ?_
       simp only[Act.put,Y_a,Y_b,Y_c]
       refine Y_t 9 87 _ (.pointer (some ⟨g,0,none⟩)) rfl (Or.inl ⟨by kernel_rfl,fun u hu=>by kernel_rfl⟩) hSP ?_
       simp only[Act.put,Y_a,Y_b,Y_c]
       refine Y_t 10 88 _ (.pointer (some ⟨g,0,none⟩)) rfl (Or.inl ⟨by kernel_rfl,fun u hu=>by kernel_rfl⟩) hSP ?_
       simp only[Act.put,Y_a,Y_b,Y_c]
       refine Y_t 11 89 _ (.pointer (some ⟨g,3,none⟩)) rfl (Or.inl ⟨by kernel_rfl,fun u hu=>by kernel_rfl⟩) hSP ?_
       simp only[Act.put,Y_a,Y_b,Y_c]
       refine Y_t 12 90 _ (.int .i64 (dn:Int)) rfl (Or.inl ⟨by kernel_rfl,fun u hu=>Zok hu.2.1 (.tmp 89) (by kernel_rfl) (by kernel_rfl)⟩) hSP ?_
       simp only[Act.put,Y_a,Y_b,Y_c]
       refine Y_t 13 91 _ (.pointer (some ⟨B,0,none⟩)) rfl (Or.inl ⟨by kernel_rfl,fun u hu=>by kernel_rfl⟩) hSP ?_
       simp only[Act.put,Y_a,Y_b,Y_c]
       refine Y_t 14 92 _ (.int .i64 (x0:Int)) rfl (Or.inl ⟨by kernel_rfl,fun u hu=>Zok hu.2.2 (.tmp 91) (by kernel_rfl) (by kernel_rfl)⟩) hSP ?_
       simp only[Act.put,Y_a,Y_b,Y_c]
       refine Y_t 15 93 _ (.slice po Y.length pc) rfl (Or.inl ⟨by kernel_rfl,fun u hu=>Zxq hsl (.tmp 86) (.tmp 90) (.tmp 92) (by kernel_rfl) (by kernel_rfl) (by kernel_rfl) (by kernel_rfl)⟩) hSP ?_
       simp only[Act.put,Y_a,Y_b,Y_c]
       obtain⟨mo,mc,rfl⟩:=Zuv hR6.own
       refine Y_v 4 82 _ rfl (.slice mo out.length mc) (w6) (Zxp hR6.box.cells.2.2.2.2.2 (.tmp 81) (by kernel_rfl) (by kernel_rfl)) (hSP) ?_
       simp only[Act.put,Y_a,Y_b,Y_c]
       obtain⟨v7,w7,hr7,ho7,hg7,hn7⟩:=Zun w6 23 (g+1) _ out hR6.own _ Y (hsY w6 (HS.keep hR6.old hR6.low (Nat.le_refl _))) (by omega) hR6.box.lt
       obtain⟨hb7,hl7⟩:=hR6.grow hg7
       have hX7:Rcb w7 B (.int .i64 (x0:Int)) (.int .i64 (x1:Int)) (.int .i64 (x2:Int)):=(hg7.block B hX6.lt (fun e=>ZuF hX6 hR6.own e.symm)).trans hX6
       obtain⟨mo7,mc7,rfl⟩:=Zuv ho7
       refine Y_v 16 94 _ rfl (.slice mo7 (out++Y).length mc7) (w7) (Zxn (.tmp 82) (.tmp 93) (by kernel_rfl) (by kernel_rfl) (by kernel_rfl) hr7) (⟨hb7.cells.2.2.1,hb7.cells.2.2.2.1,hX7.cells.1⟩) ?_
       simp only[Act.put,Y_a,Y_b,Y_c]
       have hSP7:w7.cell? ⟨g,2,none⟩=some (.slice ao a.length ac)∧w7.cell? ⟨g,3,none⟩=some (.int .i64 (dn:Int))∧w7.cell? ⟨B,0,none⟩=some (.int .i64 (x0:Int)):=⟨hb7.cells.2.2.1,hb7.cells.2.2.2.1,hX7.cells.1⟩
       refine Y_t 17 95 _ (.pointer (some ⟨g,0,none⟩)) rfl (Or.inl ⟨by kernel_rfl,fun u hu=>by kernel_rfl⟩) hSP7 ?_
       simp only[Act.put,Y_a,Y_b,Y_c]
       refine Y_t 18 96 _ (.pointer (some ⟨g,5,none⟩)) rfl (Or.inl ⟨by kernel_rfl,fun u hu=>by kernel_rfl⟩) hSP7 ?_
       simp only[Act.put,Y_a,Y_b,Y_c]
       have hb8:Rbx (w7.setCell ⟨g,5,none⟩ (.slice mo7 (out++Y).length mc7)) g (.slice (some ⟨bk,off,none⟩) S.length sc) (p+1+x2) (.slice ao a.length ac) dn fl (.slice mo7 (out++Y).length mc7):=heap_setCell_same w7 g 5 _ _ _ hb7
       have hX8:Rcb (w7.setCell ⟨g,5,none⟩ (.slice mo7 (out++Y).length mc7)) B (.int .i64 (x0:Int)) (.int .i64 (x1:Int)) (.int .i64 (x2:Int)):=(heap_setCell_other _ _ _ _ (ZuE hX7 hb7)).trans hX7
       have ho8:=Zuy ho7 (ZjW w7 g 5 (.slice mo7 (out++Y).length mc7)) (Nat.lt_succ_self _)
       have hl8:=hl7.setCell (p:=⟨g,5,none⟩) hR6.gW (.slice mo7 (out++Y).length mc7)
       refine Y_s 19 _ rfl (w7.setCell ⟨g,5,none⟩ (.slice mo7 (out++Y).length mc7)) (Zxt (v:=.slice mo7 (out++Y).length mc7) (hb7.frozen 5) hb7.cells.2.2.2.2.2 rfl (.tmp 96) (.tmp 94) (by kernel_rfl) (by kernel_rfl) (by kernel_rfl)) (⟨hb8.cells.2.2.1,hb8.cells.2.2.2.1,hX8.cells.1⟩) ?_
       refine wpAnyH_done (by kernel_rfl) ?_ _
       refine NoPanic.normal ?_
       obtain⟨W8,hW8⟩:∃ W8,w7.setCell ⟨g,5,none⟩ (.slice mo7 (out++Y).length mc7)=W8:=⟨_,rfl⟩
       have hgW:=hR6.gW
       have hscr:=hR6.scr
       have hold:=hR6.old
       rw[hW8] at hb8 hX8 ho8 hl8 ⊢
       clear hW8 hb7 hl7 hX7 ho7 hg7 hn7 hr7 hSP hSP7 hR6 hX6 hsl hsY
       have hH8:HS W8 (.slice po5 x2 pc5) Z:=HS.keep hH5 hl8 (Nat.le_refl _)
       obtain⟨e0,e1,e2,e3,e4,e5⟩:=hb8.cells
       have hgl:=hb8.lt
       obtain⟨N,hN⟩:∃ N,(out++Y).length=N:=⟨_,rfl⟩
       have HN:Hid ((out++Y).length=N):=hN
       have hNb:N+x2≤2199023255552:=(by have h1:=HYl.out;have h2:=HN.out;rw[List.length_append] at h2;omega)
       have hH9:Holds W8 (.slice po5 x2 pc5) x2 (scells Z):=(by have h:=hH8;unfold HS at h;rw[HZl.out] at h;exact h)
       have hZl2:(scells Z).length=x2 * 1:=by rw[scells_length,HZl.out,Nat.mul_one]
       rw[hN] at ho8 hb8 e5 ⊢
       have HZC:Hid ((scells Z).length=x2 * 1):=hZl2
       clear hN hH8 hZl2
       go_wp2_with (at_builtin;refine ZBB _ (by kernel_rfl) (.tmp 101) (.tmp 102) 23 9 (.string ⟨#[]⟩) 1 16 rfl Tryz.underlying23 infoStr rfl (by decide) (by decide) (g+1) _ _ _ rfl ho8 _ x2 (scells Z) rfl hH9 HZC.out (scells_one _) hNb hgl ?_)
       intro v9 w9 ho9 hg9 hn9
       obtain⟨mo9,mc9,rfl⟩:=Zuv ho9
       have hb9:Rbx w9 g (.slice (some ⟨bk,off,none⟩) S.length sc) (p+1+x2) (.slice ao a.length ac) dn fl (.slice mo7 N mc7):=hb8.grow hg9 (fun e=>by have:=owns_ge ho8 e;omega)
       have hl9:Below W.heap.size W w9:=hl8.grown hg9 hl8.size (fun j hj=>by have:=owns_ge ho8 hj;omega)
       have hX9:Rcb w9 B (.int .i64 (x0:Int)) (.int .i64 (x1:Int)) (.int .i64 (x2:Int)):=(hg9.block B hX8.lt (fun e=>ZuF hX8 ho8 e.symm)).trans hX8
       have e5':=hb9.cells.2.2.2.2.2
       have f5:=hb9.frozen 5
       have HE:Hid (N+x2=(out++Y++Z).length):=(by show _=_;rw[List.length_append,HN.out,HZl.out])
       have ho10:w9.ownsRow (g+1) 9 1 (.slice mo9 (N+x2) mc9) (out++Y++Z).length (scells (out++Y++Z)):=(by rw[scells_append,← HE.out];exact ho9)
       have hfin:=Zwr hgW hb9 hl9 hscr hold ho10 (x0+x1) (by omega) (by omega) (by have h1:=HYl.out;have h2:=HE.out;have h3:=HN.out;rw[List.length_append] at h3;omega) (decide (0<x2)) ((x0:Int)+(x1:Int)) (by omega)
       have HF:Hid (Rrn W g (.slice (some ⟨bk,off,none⟩) S.length sc) (.slice ao a.length ac) (.slice mo9 (N+x2) mc9) S a (out++Y++Z) (p+1+x2) (x0+x1) (decide (0<x2)) (((w9.setCell ⟨g,5,none⟩ (.slice mo9 (N+x2) mc9)).setCell ⟨g,3,none⟩ (.int .i64 ((x0:Int)+(x1:Int)))).setCell ⟨g,4,none⟩ (.bool (decide (0<x2))))):=hfin
       have b1:=heap_setCell_same w9 g 5 _ _ (.slice mo9 (N+x2) mc9) hb9
       have b1':Rbx (w9.setCell ⟨g,5,none⟩ (.slice mo9 (N+x2) mc9)) g (.slice (some ⟨bk,off,none⟩) S.length sc) (p+1+x2) (.slice ao a.length ac) dn fl (.slice mo9 (N+x2) mc9):=b1
       have hX10:Rcb (w9.setCell ⟨g,5,none⟩ (.slice mo9 (N+x2) mc9)) B (.int .i64 (x0:Int)) (.int .i64 (x1:Int)) (.int .i64 (x2:Int)):=(heap_setCell_other _ _ _ _ (ZuE hX9 hb9)).trans hX9
       obtain⟨y0,y1,_⟩:=hX10.cells
       have g3:=b1'.cells.2.2.2.1
       have f3:=b1'.frozen 3
       have hX11:Rcb ((w9.setCell ⟨g,5,none⟩ (.slice mo9 (N+x2) mc9)).setCell ⟨g,3,none⟩ (.int .i64 ((x0:Int)+(x1:Int)))) B (.int .i64 (x0:Int)) (.int .i64 (x1:Int)) (.int .i64 (x2:Int)):=(heap_setCell_other _ _ _ _ (ZuE hX10 b1')).trans hX10
       obtain⟨_,_,y2⟩:=hX11.cells
       have b2:=heap_setCell_same (w9.setCell ⟨g,5,none⟩ (.slice mo9 (N+x2) mc9)) g 3 _ _ (.int .i64 ((x0:Int)+(x1:Int))) b1
       have g4:((w9.setCell ⟨g,5,none⟩ (.slice mo9 (N+x2) mc9)).setCell ⟨g,3,none⟩ (.int .i64 ((x0:Int)+(x1:Int)))).cell? ⟨g,4,none⟩=some (.bool fl):=(by rw[Lib.cell_of_heap b2];rfl)
       have f4:((w9.setCell ⟨g,5,none⟩ (.slice mo9 (N+x2) mc9)).setCell ⟨g,3,none⟩ (.int .i64 ((x0:Int)+(x1:Int)))).frozen? ⟨g,4,none⟩=false:=Lib.frozen_of_heap b2 4
       have hwx:IntKind.i64.wrap ((x0:Int)+(x1:Int))=(x0:Int)+(x1:Int):=ZuB (by omega) (by omega)
       clear hfin b1 b1' b2 hX9 hX10 hX11 hb9 ho9 ho10 hg9 hn9 hl9 hX8 hb8 hl8 ho8 hH9 HE
       have hge:=HGE.out
       clear HGE
       go_wp2
       go_ret
       subst hge
       exact⟨rfl,_,HF.out⟩
end

section
open Go.RowKit
def RcQ (w:World) (R:Except (Nat × Int) (List (List UInt8))) (e:Ending) (w':World):Prop :=
 match R with
 | .error (a,z)=>∃ g,e=.returned (.tuple #[.slice none 0 0,.iface 69 (.pointer (some ⟨g,0,none⟩))])∧w'.heap[g]?=some (fltO (a:Int) z)∧Below w.heap.size w w'
 | .ok l=>∃ v,e=.returned (.tuple #[v,.nilIface])∧w'.ownsRow w.heap.size 9 1 v l.length (scells l)∧Below w.heap.size w w'
theorem Zup {w:World} {B B':Nat} {e:TypeId} {s n:Nat} {v:Value} {xs:List Value} (h:w.ownsRow B e s v n xs) (hB:B'≤B):w.ownsRow B' e s v n xs:=by
 refine⟨h.1,?_⟩
 rcases h.2 with h | ⟨g,cap,cur,q1,q2,q3,q4⟩
 ·exact .inl h
 ·exact .inr ⟨g,cap,cur,q1,Nat.le_trans hB q2,q3,q4⟩
theorem Zux {a:List (List UInt8)} {t:List UInt8} (h:t∈a):t.length≤a.flatten.length:=by
 induction a with
 | nil=>cases h
 | cons s a ih =>
  rw[List.flatten_cons,List.length_append]
  rcases List.mem_cons.1 h with rfl | h
  ·omega
  ·have:=ih h
   omega
theorem Zuh {a r out o r2:List (List UInt8)} {p dn d q:Nat} {s:List UInt8} {fl g:Bool} (h:rcS a p s r out dn fl=.ok (o,d,g,q,r2)):p<q∧r2=r.drop (q-(p+1))∧∀ x∈o,x∈out∨x∈a∨x∈r:=by
 have key:∀ (m:Nat) (x:List UInt8),x∈out++(a.drop dn).take m→x∈out∨x∈a∨x∈r:=by
  intro m x hx
  rcases List.mem_append.1 hx with hx | hx
  ·exact .inl hx
  ·exact .inr (.inl (List.mem_of_mem_drop (List.mem_of_mem_take hx)))
 unfold rcS at h
 cases hr:rcmF s with
 | none=>rw[hr] at h;cases h
 | some x =>
  obtain⟨ad,ah,n⟩:=x
  rw[hr] at h
  dsimp only at h
  by_cases h1:ah<dn∨(ah=dn∧ad=true∧fl=true)
  ·rw[if_pos h1] at h
   cases h
  ·rw[if_neg h1] at h
   by_cases h2:a.length<ah+(if ad=true then 0 else n)
   ·rw[if_pos h2] at h
    cases h
   ·rw[if_neg h2] at h
    by_cases h3:ad=true
    ·rw[if_pos h3] at h
     by_cases h4:r.length<n
     ·rw[if_pos h4] at h
      cases h
     ·rw[if_neg h4] at h
      cases h
      refine⟨by omega,by congr 1;omega,fun x hx=>?_⟩
      rcases List.mem_append.1 hx with hx | hx
      ·exact key _ x hx
      ·exact .inr (.inr (List.mem_of_mem_take hx))
    ·rw[if_neg h3] at h
     cases h
     exact⟨by omega,by simp,fun x hx=>key _ x hx⟩
theorem ZtZ {a S out:List (List UInt8)} {q dn f:Nat} {fl:Bool} {R:Except (Nat × Int) (List (List UInt8))} (hq:q<S.length) (hf:S.length-q≤f) (h:rcE a f q (S.drop q) out dn fl=R) :
  (∃ e,rcSR a q S[q] (S.drop (q+1)) out dn fl=.error e∧R=.error e)∨(∃ o d g q',rcSR a q S[q] (S.drop (q+1)) out dn fl=.ok (o,d,g,q')∧q<q'∧S.length-q'≤f-1∧rcE a (f-1) q' (S.drop q') o d g=R∧∀ x∈o,x∈out∨x∈a∨x∈S):=by
 cases f with
 | zero=>omega
 | succ f =>
  rw[List.drop_eq_getElem_cons hq,rcE] at h
  unfold rcSR
  cases hs:rcS a q S[q] (S.drop (q+1)) out dn fl with
  | error e =>
   rw[hs] at h
   exact .inl ⟨e,rfl,h.symm⟩
  | ok x =>
   obtain⟨o,d,g,q',r2⟩:=x
   rw[hs] at h
   obtain⟨h1,h2,h3⟩:=Zuh hs
   right
   refine⟨o,d,g,q',rfl,h1,by omega,?_,fun x hx=>?_⟩
   ·rw[Nat.add_sub_cancel,← h,h2,List.drop_drop]
    dsimp only
    congr 2
    omega
   ·rcases h3 x hx with h | h | h
    ·exact .inl h
    ·exact .inr (.inl h)
    ·exact .inr (.inr (List.mem_of_mem_drop h))
def rcP (g:Nat) (w:World):Nat:=match w.cell? ⟨g,1,none⟩ with
 | some (.int _ z)=>z.toNat
 | _=>0
theorem Zue {w:World} {g:Nat} {vs vo vm:Value} {p dn:Nat} {fl:Bool} (h:Rbx w g vs p vo dn fl vm):rcP g w=p:=by
 unfold rcP
 rw[h.cells.2.1]
 simp
theorem Zug (t:List UInt8) (a:List (List UInt8)) (va:Value) (w:World) (ha:HS w va a) (htl:t.length≤1099511627776) (hla:a.length≤137438953472) (HTA:Hid (∀ s∈a,s.length≤1099511627776)) (R:Except (Nat × Int) (List (List UInt8))) (HR:Hid (rcR t a=R)) :
  Calls Tryz.prog 15 #[.string ⟨t.toArray⟩,va] w fun e w'=>RcQ w R e w':=by
 have hR:=HR.out
 unfold rcR at hR
 clear HR
 obtain⟨ao,ac,rfl⟩:=Holds.form ha
 by_cases hlong:1048576<t.length
 ·rw[if_pos hlong] at hR
  subst hR
  have HA:Hid ((w.alloc (fltO ((0:Nat):Int) 9)).heap[w.heap.size]?=some (fltO ((0:Nat):Int) 9)∧Below w.heap.size w (w.alloc (fltO ((0:Nat):Int) 9))):=⟨heap_alloc_new w _,(Below.refl _ w).alloc (Nat.le_refl _) _⟩
  have i1:(1048576:Int)<(t.length:Int):=by omega
  go_enter Tryz.func15,Tryz.ntmps15
  go_wp2
  go_ret2
  exact⟨_,rfl,HA.out.1,HA.out.2⟩
 ·rw[if_neg hlong] at hR
  have i1:¬ (1048576:Int)<(t.length:Int):=by omega
  have hsl:=Ln.split_len t
  have HSB:Hid (∀ s∈Ln.splitL t,s.length≤1099511627776∧s≠[]∧∀ d∈s.dropLast,d≠10):=(by
   intro s hs
   have h1:=congrArg List.length (Ln.split_join t)
   have h2:=Zux hs
   have h3:=ZnK (Zwo (Zwp (Ln.split_right t)) s hs)
   exact⟨by omega,h3.1,h3.2⟩)
  have hs:=ZpV t w htl
  have HR2:Hid (rcE a (Ln.splitL t).length 0 (Ln.splitL t) [] 0 false=R):=hR
  clear hR
  obtain⟨S,hSd⟩:∃ S,Ln.splitL t=S:=⟨_,rfl⟩
  rw[hSd] at hsl HSB hs HR2
  clear hSd
  have hSl:S.length≤1048576:=by omega
  go_enter Tryz.func15,Tryz.ntmps15
  go_wp2_with fail
  refine hs.mono ?_
  rintro e w1 ⟨vs,rfl,hown,hb1⟩
  have hScr:HS w1 vs S:=holds_of hown
  obtain⟨so,sc,rfl⟩:=Holds.form hScr
  have ha1:=HS.keep ha hb1 (Nat.le_refl _)
  clear hown hs ha
  have hbB:Below w1.heap.size w1 (w1.alloc (.cells #[.slice so S.length sc,.int .i64 0,.slice ao a.length ac,.int .i64 0,.bool false,.slice none 0 0] 87)):=(Below.refl _ w1).alloc (Nat.le_refl _) _
  have hE0:Rrn w1 w1.heap.size (.slice so S.length sc) (.slice ao a.length ac) (.slice none 0 0) S a [] 0 0 false (w1.alloc (.cells #[.slice so S.length sc,.int .i64 0,.slice ao a.length ac,.int .i64 0,.bool false,.slice none 0 0] 87)) :=
   ⟨hbB,Nat.le_refl _,heap_alloc_new w1 _,hScr,ha1,World.ownsRow_nil _ _ _ _,Nat.zero_le _,Nat.zero_le _,Nat.zero_le _⟩
  have HE0:Hid (Rrn w1 w1.heap.size (.slice so S.length sc) (.slice ao a.length ac) (.slice none 0 0) S a [] 0 0 false (w1.alloc (.cells #[.slice so S.length sc,.int .i64 0,.slice ao a.length ac,.int .i64 0,.bool false,.slice none 0 0] 87))):=hE0
  clear hE0 hbB
  go_wp2
  generalize w1.alloc (.cells #[.slice so S.length sc,.int .i64 0,.slice ao a.length ac,.int .i64 0,.bool false,.slice none 0 0] 87)=W4 at HE0 ⊢
  obtain⟨G,hG⟩:∃ G,w1.heap.size=G:=⟨_,rfl⟩
  rw[hG] at HE0 ⊢
  have HGE:Hid (w1.heap.size=G):=hG
  clear hG
  go_loopw [] (fun wr=>∃ (q:Nat) (vm:Value) (out:List (List UInt8)) (dn:Nat) (fl:Bool) (f:Nat),Hid (Rrn w1 G (.slice so S.length sc) (.slice ao a.length ac) vm S a out q dn fl wr)∧q≤S.length∧Hid (S.length-q≤f∧rcE a f q (S.drop q) out dn fl=R)∧Hid (∀ s∈out,s.length≤1099511627776)) (fun wr=>S.length-rcP G wr)
  case atStart =>
   exact⟨0,_,[],0,false,S.length,HE0,Nat.zero_le _,(⟨Nat.le_refl _,HR2.out⟩:_∧_),fun s hs=>by cases hs⟩
  case round =>
   clear HE0 HR2
   obtain⟨q,vm,out,dn,fl,f,HE,hq,HF,HB⟩:=hrel
   have hmeas:=Zue HE.out.box
   obtain⟨c0,c1,_,_,_,_⟩:=HE.out.box.cells
   by_cases hlt:q<S.length
   ·have l1:(q:Int)<(S.length:Int):=by omega
    obtain⟨r,hr⟩:∃ r,rcSR a q S[q] (S.drop (q+1)) out dn fl=r:=⟨_,rfl⟩
    have HRs:Hid (rcSR a q S[q] (S.drop (q+1)) out dn fl=r):=hr
    have hst:=Zwx w1 G _ _ vm S a out q dn fl wr HE.out (by omega) (by omega) HSB hlt r HRs
    have hE:=ZtZ hlt HF.out.1 HF.out.2
    rw[hr] at hE
    have HLow:Hid (Below w.heap.size w w1):=hb1
    clear hr HF HRs
    go_wp2_with fail
    refine hst.mono ?_
    intro e w5 hQ
    rcases hE with ⟨⟨k,z⟩,rfl,rfl⟩ | ⟨o,d,g',q',rfl,hqq,hfl,hrec,hmem⟩
    ·obtain⟨rfl,hz,p5,dn5,fl5,vm5,out5,rfl,hE5⟩:=hQ
     have hzb:(z != 0)=true:=bne_iff_ne.2 hz
     obtain⟨_,d1,_,_,_,_⟩:=hE5.box.cells
     have hp5:=hE5.hp
     have hlow5:Below w.heap.size w w5:=HLow.out.trans (hE5.low.mono HLow.out.size)
     have d1d:w5.drew.cell? ⟨G,1,none⟩=some (.int .i64 (p5:Int)):=d1
     have hw:IntKind.i64.wrap ((p5:Int)+1)=(p5:Int)+1:=ZuB (by omega) (by omega)
     have HA:Hid ((w5.drew.alloc (fltO ((p5+1:Nat):Int) z)).heap[w5.heap.size]?=some (fltO ((p5+1:Nat):Int) z)∧Below w.heap.size w (w5.drew.alloc (fltO ((p5+1:Nat):Int) z))):=⟨heap_alloc_new w5.drew _,hlow5.drew.alloc hlow5.size _⟩
     clear hE5
     go_wp2_with fail
     go_region_held3 (fun w'=>w'.cell? ⟨G,1,none⟩=some (.int .i64 (p5:Int))) (go_keep) (fail)
     go_wp2
     go_ret2
     exact⟨_,rfl,HA.out.1,HA.out.2⟩
    ·obtain⟨rfl,vm5,hE5⟩:=hQ
     have hp5:=hE5.hp
     have HE5:Hid (Rrn w1 G (.slice so S.length sc) (.slice ao a.length ac) vm5 S a o q' d g' w5):=hE5
     have hm5:=Zue hE5.box
     have HF5:Hid (S.length-q'≤f-1∧rcE a (f-1) q' (S.drop q') o d g'=R):=⟨hfl,hrec⟩
     have HB5:Hid (∀ s∈o,s.length≤1099511627776):=fun s hs=>(by
      rcases hmem s hs with h | h | h
      ·exact HB.out s h
      ·exact HTA.out s h
      ·exact (HSB.out s h).1)
     clear hE5 hrec hmem
     go_wp2
     exact⟨⟨q',vm5,o,d,g',f-1,HE5,hp5,HF5,HB5⟩,by rw[hm5,hmeas];omega⟩
   ·have eq:q=S.length:=by omega
    subst eq
    have l1:decide ((S.length:Int)<(S.length:Int))=false:=decide_eq_false (by omega)
    have hRR:rcF S.length (out++a.drop dn)=R:=(by
     have h:=HF.out.2
     rw[List.drop_of_length_le (Nat.le_refl _),ZtY] at h
     exact h)
    have hR5:=HE.out
    have hdn:=hR5.hd
    have hob:=hR5.ob
    obtain⟨po,pc,hsl,hsY⟩:=ZwN a ao ac (dn:Int) (by omega) (by omega) w1 hR5.old
    rw[ZfN a dn hdn] at hsl hsY
    have HYl:Hid ((a.drop dn).length=a.length-dn):=List.length_drop
    have HYB:Hid (∀ s∈out++a.drop dn,s.length≤1099511627776):=(by
     intro s hs
     rcases List.mem_append.1 hs with h | h
     ·exact HB.out s h
     ·exact HTA.out s (List.mem_of_mem_drop h))
    obtain⟨Y,hY⟩:∃ Y,a.drop dn=Y:=⟨_,rfl⟩
    rw[hY] at hsl hsY HYl HYB hRR
    have hbY:out.length+Y.length≤4398046511104:=(by have:=HYl.out;omega)
    have HRR:Hid (rcF S.length (out++Y)=R):=hRR
    clear HF HE HB hmeas hY hRR
    obtain⟨mo,mc,rfl⟩:=Zuv hR5.own
    have hGW:=hR5.gW
    go_upto_region 8 with fail
    refine wp_region_noPanic ?_
    refine wp_region_held_drew (S:=fun u=>u.cell? ⟨G,5,none⟩=some (.slice mo out.length mc)∧u.cell? ⟨G,3,none⟩=some (.int .i64 (dn:Int))) (by kernel_rfl) ⟨hR5.box.cells.2.2.2.2.2,hR5.box.cells.2.2.2.1⟩ (fun hSP=>?_)
    have hR6:=hR5.keep (Below.refl _ wr).drew
    generalize wr.drew=w6 at hSP hR6 ⊢
    clear hR5
    refine Y_t 0 38 _ (.pointer (some ⟨G,5,none⟩)) rfl (Or.inl ⟨by kernel_rfl,fun u hu=>by kernel_rfl⟩) hSP ?_
    simp only[Act.put,Y_a,Y_b,Y_c]
    refine Y_t 1 39 _ (.slice mo out.length mc) rfl (Or.inl ⟨by kernel_rfl,fun u hu=>Zxp hu.1 (.tmp 38) (by kernel_rfl) (by kernel_rfl)⟩) hSP ?_
    simp only[Act.put,Y_a,Y_b,Y_c]
    refine Y_t 2 40 _ (.slice ao a.length ac) rfl (Or.inl ⟨by kernel_rfl,fun u hu=>by kernel_rfl⟩) hSP ?_
    simp only[Act.put,Y_a,Y_b,Y_c]
    refine Y_t 3 41 _ (.pointer (some ⟨G,3,none⟩)) rfl (Or.inl ⟨by kernel_rfl,fun u hu=>by kernel_rfl⟩) hSP ?_
    simp only[Act.put,Y_a,Y_b,Y_c]
    refine Y_t 4 42 _ (.int .i64 (dn:Int)) rfl (Or.inl ⟨by kernel_rfl,fun u hu=>Zok hu.2 (.tmp 41) (by kernel_rfl) (by kernel_rfl)⟩) hSP ?_
    simp only[Act.put,Y_a,Y_b,Y_c]
    refine Y_t 5 43 _ (.slice po Y.length pc) rfl (Or.inl ⟨by kernel_rfl,fun u hu=>Zxr hsl (.tmp 40) (.tmp 42) (by kernel_rfl) (by kernel_rfl) (by kernel_rfl)⟩) hSP ?_
    simp only[Act.put,Y_a,Y_b,Y_c]
    obtain⟨v7,w7,hr7,ho7,hg7,hn7⟩:=Zun w6 23 (G+1) _ out hR6.own _ Y (hsY w6 (HS.keep hR6.old hR6.low (Nat.le_refl _))) hbY hR6.box.lt
    obtain⟨hb7,hl7⟩:=hR6.grow hg7
    obtain⟨mo7,mc7,rfl⟩:=Zuv ho7
    refine Y_v 6 44 _ rfl (.slice mo7 (out++Y).length mc7) (w7) (Zxn (.tmp 39) (.tmp 43) (by kernel_rfl) (by kernel_rfl) (by kernel_rfl) hr7) (⟨hb7.cells.2.2.2.2.2,hb7.cells.2.2.2.1⟩) ?_
    simp only[Act.put,Y_a,Y_b,Y_c]
    refine Y_t 7 8 _ (.slice mo7 (out++Y).length mc7) rfl (Or.inl ⟨by kernel_rfl,fun u hu=>by kernel_rfl⟩) ⟨hb7.cells.2.2.2.2.2,hb7.cells.2.2.2.1⟩ ?_
    simp only[Act.put,Y_a,Y_b,Y_c]
    refine wpAnyH_done (by kernel_rfl) ?_ _
    refine NoPanic.normal ?_
    have hGE:=HGE.out
    have hH7:HS w7 (.slice mo7 (out++Y).length mc7) (out++Y):=holds_of ho7
    have hlw:Below w.heap.size w w7:=hb1.trans (hl7.mono hb1.size)
    have HO7:Hid (w7.ownsRow w.heap.size 9 1 (.slice mo7 (out++Y).length mc7) (out++Y).length (scells (out++Y))):=Zup ho7 (by have:=hb1.size;omega)
    obtain⟨N,hN⟩:∃ N,(out++Y).length=N:=⟨_,rfl⟩
    have hNb:N≤1099511627776:=(by rw[← hN,List.length_append];have:=HYl.out;omega)
    obtain⟨V,hV⟩:∃ V,out++Y=V:=⟨_,rfl⟩
    rw[hV] at hN hH7 HO7 HRR HYB ho7
    rw[hV]
    have HNV:Hid (V.length=N):=hN
    obtain⟨ck,hck⟩:∃ ck,Ln.checkB V=ck:=⟨_,rfl⟩
    have HCK:Hid (Ln.checkB V=ck):=hck
    have hcc:=Zld (.slice mo7 V.length mc7) V w7 (by omega) HYB.out hH7 ck HCK (if ck=true then 0 else 6) rfl
    obtain⟨_,d1,_,_,_,_⟩:=hb7.cells
    clear hN hck hH7 hV ho7 hg7 hn7 hr7 hR6 hSP hsl hsY hl7
    go_wp2_with fail
    refine hcc.mono ?_
    rintro e w8 ⟨rfl,rfl⟩
    have hrr:=HRR.out
    unfold rcF at hrr
    rw[HCK.out] at hrr
    cases ck with
    | true =>
     rw[if_pos rfl] at hrr ⊢
     subst hrr
     go_wp2
     go_ret2
     exact⟨_,rfl,HO7.out,hlw⟩
    | false =>
     rw[if_neg (by decide)] at hrr ⊢
     subst hrr
     have d1d:w7.drew.cell? ⟨G,1,none⟩=some (.int .i64 (S.length:Int)):=d1
     have hw:IntKind.i64.wrap ((S.length:Int)+1)=(S.length:Int)+1:=ZuB (by omega) (by omega)
     have HA:Hid ((w7.drew.alloc (fltO ((S.length+1:Nat):Int) 6)).heap[w7.heap.size]?=some (fltO ((S.length+1:Nat):Int) 6)∧Below w.heap.size w (w7.drew.alloc (fltO ((S.length+1:Nat):Int) 6))):=⟨heap_alloc_new w7.drew _,hlw.drew.alloc hlw.size _⟩
     clear hb7
     go_wp2_with fail
     go_region_held3 (fun w'=>w'.cell? ⟨G,1,none⟩=some (.int .i64 (S.length:Int))) (go_keep) (fail)
     go_wp2
     go_ret2
     exact⟨_,rfl,HA.out.1,HA.out.2⟩
end

section
open Go.RowKit
def rwA:List (List UInt8):=[[49,10],[50,10],[51,10]]
def rwB:List (List UInt8):=[[49,10],[120,10],[121,10]]
def rwL:List Ch:=[⟨1,2,1,2⟩]
def rwT:List UInt8:=[100,50,32,50,10,97,51,32,50,10,120,10,121,10]
theorem Zxj:chk rwL rwA.length rwB.length=0:=by decide +kernel
theorem Zxk:rcT rwL rwB=rwT:=by decide +kernel
theorem Zxl:rcR rwT rwA=.ok rwB:=by kernel_rfl
theorem Zxm (w:World) (HTb:Hid (Tab10 w)):Calls Tryz.prog 13 #[] w fun e w'=>e=.returned (.bool true)∧Below w.heap.size w w':=by
 have HR:Hid (chk rwL rwA.length rwB.length=0):=Zxj
 have HT:Hid ((if (0:Int)=0 then rcT rwL rwB else [])=rwT):=(by show _=_;rw[if_pos rfl];exact Zxk)
 have HX:Hid (rcR rwT rwA=.ok rwB):=Zxl
 have HTAA:Hid (∀ s∈rwA,s.length≤1099511627776):=(by show ∀ s∈rwA,s.length≤1099511627776;decide +kernel)
 obtain⟨u1,hu1⟩:∃ u,w.alloc (.cells #[.string ⟨#[49,10]⟩,.string ⟨#[50,10]⟩,.string ⟨#[51,10]⟩] 9)=u:=⟨_,rfl⟩
 obtain⟨u2,hu2⟩:∃ u,u1.alloc (.cells #[.int .i64 1,.int .i64 2,.int .i64 1,.int .i64 2] 45)=u:=⟨_,rfl⟩
 obtain⟨u3,hu3⟩:∃ u,u2.alloc (.cells #[.string ⟨#[49,10]⟩,.string ⟨#[120,10]⟩,.string ⟨#[121,10]⟩] 9)=u:=⟨_,rfl⟩
 have b1:Below w.heap.size w u1:=by rw[← hu1];exact (Below.refl _ w).alloc (Nat.le_refl _) _
 have b2:Below u1.heap.size u1 u2:=by rw[← hu2];exact (Below.refl _ u1).alloc (Nat.le_refl _) _
 have b3:Below u2.heap.size u2 u3:=by rw[← hu3];exact (Below.refl _ u2).alloc (Nat.le_refl _) _
 have s1:u1.heap.size=w.heap.size+1:=by rw[← hu1];simp
 have s2:u2.heap.size=w.heap.size+1+1:=by rw[← hu2,World.size_alloc,s1]
 have ha0:HS u1 (.slice (some ⟨w.heap.size,0,none⟩) 3 3) rwA:=by rw[← hu1];exact Zqa w #[.string ⟨#[49,10]⟩,.string ⟨#[50,10]⟩,.string ⟨#[51,10]⟩] 9 3 3 (by decide)
 have hl0:HCh u2 (.slice (some ⟨w.heap.size+1,0,none⟩) 1 1) rwL:=by rw[← hu2,← s1];exact Zqa u1 #[.int .i64 1,.int .i64 2,.int .i64 1,.int .i64 2] 45 1 1 (by decide)
 have hb0:HS u3 (.slice (some ⟨w.heap.size+1+1,0,none⟩) 3 3) rwB:=by rw[← hu3,← s2];exact Zqa u2 #[.string ⟨#[49,10]⟩,.string ⟨#[120,10]⟩,.string ⟨#[121,10]⟩] 9 3 3 (by decide)
 have ha3:HS u3 (.slice (some ⟨w.heap.size,0,none⟩) 3 3) rwA:=HS.keep (HS.keep ha0 b2 (Nat.le_refl _)) b3 (Nat.le_refl _)
 have hl3:HCh u3 (.slice (some ⟨w.heap.size+1,0,none⟩) 1 1) rwL:=HCh.keep hl0 b3 (Nat.le_refl _)
 have b12:=b1.trans (b2.mono b1.size)
 have b13:=b12.trans (b3.mono b12.size)
 have HTb3:Hid (Tab10 u3):=HTb.out.on b13
 clear b1 b2 b3 b12 hl0 ha0
 go_enter Tryz.func13,Tryz.ntmps13
 go_wp2_with fail
 refine (Zuf rwL _ _ _ rwA rwB u3 hl3 ha3 hb0 (by decide) (by decide) (by decide) (by decide) HTb3 0 HR rwT HT (by decide)).mono ?_
 rintro e w2 ⟨rfl,hB2⟩
 have hB02:=b13.trans (hB2.mono b13.size)
 have ha4:=HS.keep ha3 hB2 (Nat.le_refl _)
 clear hl3 ha3 hb0 b13 hB2 HTb3 HT HR HTb hu1 hu2 hu3 s1 s2
 unfold rwT at HX ⊢
 go_wp2_with fail
 refine (Zug [100,50,32,50,10,97,51,32,50,10,120,10,121,10] rwA _ w2 ha4 (by decide) (by decide) HTAA _ HX).mono ?_
 rintro e w3 ⟨v,rfl,hv,hB3⟩
 have hB03:=hB02.trans (hB3.mono hB02.size)
 have hv3:HS w3 v rwB:=holds_of hv
 obtain⟨vo,vc,rfl⟩:=Holds.form hv3
 have hJ:=Znl (.slice vo rwB.length vc) rwB w3 (by decide) (by decide) hv3
 have eJ:rwB.flatten=[49,10,120,10,121,10]:=rfl
 rw[eJ] at hJ
 clear ha4 hB02 hB3 HX hv hv3 eJ
 go_wp2_with fail
 refine hJ.mono ?_
 rintro e w6 ⟨rfl,hB6⟩
 go_wp2
 go_ret
 exact⟨rfl,hB03.trans (hB6.mono hB03.size)⟩
end

section
theorem ZtX (b:List (List UInt8)) (c:Ch) (hn:numB c=true):(rcC b c).flatten.length≤90+b.flatten.length:=by
 have h:=(Zqy c).1 hn
 have h1:=@ZtU 100 (c.A+1) c.AN (by omega) (by omega) (by omega) (by omega)
 have h2:=@ZtU 97 (c.A+c.AN) c.BN (by omega) (by omega) (by omega) (by omega)
 have h3:=(Zuu (b:=b) c.B c.BN).2
 unfold rcC
 rw[List.flatten_append,List.length_append]
 have k1:((if 0<c.AN then [rcB 100 (c.A+1) c.AN++[10]] else []):List (List UInt8)).flatten.length≤45:=by
  split
  ·simpa using h1
  ·simp
 have k2:((if 0<c.BN then (rcB 97 (c.A+c.AN) c.BN++[10])::cut b c.B c.BN else []):List (List UInt8)).flatten.length≤45+b.flatten.length:=by
  split
  ·rw[List.flatten_cons,List.length_append];omega
  ·simp
 omega
theorem Zui (b:List (List UInt8)) (hb:b.flatten.length≤2097152) (l:List Ch) (h:∀ c∈l,numB c=true):(rcT l b).length≤l.length * 33554432:=by
 induction l with
 | nil=>simp[rcT,rcL]
 | cons c l ih =>
  have h1:=ZtX b c (h c (by simp))
  have h2:=ih fun x hx=>h x (by simp[hx])
  unfold rcT rcL at h2 ⊢
  rw[List.flatMap_cons,List.flatten_append,List.length_append,List.length_cons,Nat.add_mul]
  omega
end

end Go.Proofs.YtkiaenncemfkcaaGreatDoor
