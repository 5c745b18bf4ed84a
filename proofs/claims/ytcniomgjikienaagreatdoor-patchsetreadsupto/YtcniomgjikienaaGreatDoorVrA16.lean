/-
  Texts that belong together, joined: UkD, UnD, UkE, UkF, UkG, UrC.
-/
import Derived.ChangeKeysEq
import Derived.Laws.StructEq
import Derived.Test.YtcniomgjikienaaGreatDoorVrA15

set_option maxHeartbeats 16000000
set_option maxRecDepth 100000
namespace Go.Proofs.YtcniomgjikienaaGreatDoor

section
open Go.RowKit Go.Proofs.YtcniomgjikienaaGreatDoor.Tx
attribute [local go_sem] ByteArray.extract_mk Zhc
def ctV (a b:Int):Value:=.agg #[.int .i64 a,.int .i64 b]
def ctO (a b:Int):Obj:=.cells #[.int .i64 a,.int .i64 b] 300
theorem Zcg (x y a b:Int) (u:World):(Op.equalIn 10000 300 (.agg #[.int .i64 x,.int .i64 y]) (.agg #[.int .i64 a,.int .i64 b])).run Tryz.prog u=.ok (x == a && y == b) u:=by
 have hu:Tryz.prog.underlying 300=some (.array 2 3):=by kernel_rfl
 have h0:(Tryz.prog.info? 3).isSome=true:=by kernel_rfl
 obtain⟨i,hi⟩:=Option.isSome_iff_exists.1 h0
 rw[run_equalIn_array u 9999 _ _ hu hi]
 have hc:Tryz.prog.cellsOf 3=1:=by kernel_rfl
 have hr:List.range 2=[0,1]:=rfl
 rw[hc,hr]
 have p0:∀ (x y:Int) (u:World),(part 3 #[.int .i64 x,.int .i64 y] (0 * 1)).run Tryz.prog u=.ok (.int .i64 x) u:=fun _ _ _=>by kernel_rfl
 have p1:∀ (x y:Int) (u:World),(part 3 #[.int .i64 x,.int .i64 y] (1 * 1)).run Tryz.prog u=.ok (.int .i64 y) u:=fun _ _ _=>by kernel_rfl
 have q1:=run_equalIn_int (P:=Tryz.prog) u 9998 3 .i64 .i64 x a Tryz.underlying3
 have q2:=run_equalIn_int (P:=Tryz.prog) u 9998 3 .i64 .i64 y b Tryz.underlying3
 simp only[Op.eqItems,Sem.run_bind,p0,p1,q1,q2,Result.andThen_ok,Sem.run_ite,Sem.run_pure]
 cases x == a<;>cases y == b<;>rfl
theorem Zch (x y a b:Int) (u:World):(binOp .eql 300 (.agg #[.int .i64 x,.int .i64 y]) (.agg #[.int .i64 a,.int .i64 b])).run Tryz.prog u=.ok (.bool (x == a && y == b)) u:=by
 rw[run_eql_struct,Zcg]
 rfl
theorem Zci (x y a b:Int) (u:World):(binOp .neq 300 (.agg #[.int .i64 x,.int .i64 y]) (.agg #[.int .i64 a,.int .i64 b])).run Tryz.prog u=.ok (.bool (!(x == a && y == b))) u:=by
 rw[run_neq_struct,Zcg]
 rfl
def cO (c:UInt8):Int:=if okC c=true then (tkO c:Int) else 0
def cN (c:UInt8):Int:=if okC c=true then (tkN c:Int) else 0
theorem Zlc (c:UInt8) (w:World) :
  Calls Tryz.prog 295 #[.int .u8 (c.toNat:Int)] w fun e w'=>e=.returned (ctV (cO c) (cN c))∧Below w.heap.size w w':=by
 have hcn:=c.toNat_lt
 have hE:∀ (x y:Int),cO c=x→cN c=y→ctV (cO c) (cN c)=.agg #[.int .i64 x,.int .i64 y]:=(by intro x y h1 h2;rw[h1,h2];rfl)
 by_cases h1:c=32
 ·have i1:((c.toNat:Int) == 32)=true:=(by rw[h1];rfl)
  have he:=hE 1 1 (by rw[h1];rfl) (by rw[h1];rfl)
  rw[he]
  clear h1 hE
  go_enter Tryz.func295,Tryz.ntmps295
  go_wp2
  refine bodyPost_ret (v:=.agg #[.int .i64 1,.int .i64 1]) (results_cell_row rfl _ _ w.heap.size 300 #[.int .i64 1,.int .i64 1] (0,0) _ rfl (heap_alloc_new w _) Tryz.underlying300 rfl (by kernel_rfl)) rfl ⟨rfl,(Below.refl _ w).alloc (Nat.le_refl _) _⟩
 ·have i1:((c.toNat:Int) == 32)=false:=beq_eq_false_iff_ne.2 (fun e=>h1 (by rw[← UInt8.toNat_inj];show c.toNat=32;omega))
  by_cases h2:c=45
  ·have i2:((c.toNat:Int) == 45)=true:=(by rw[h2];rfl)
   have he:=hE 1 0 (by rw[h2];rfl) (by rw[h2];rfl)
   rw[he]
   clear h1 h2 hE
   go_enter Tryz.func295,Tryz.ntmps295
   go_wp2
   refine bodyPost_ret (v:=.agg #[.int .i64 1,.int .i64 0]) (results_cell_row rfl _ _ w.heap.size 300 #[.int .i64 1,.int .i64 0] (0,0) _ rfl (heap_alloc_new w _) Tryz.underlying300 rfl (by kernel_rfl)) rfl ⟨rfl,(Below.refl _ w).alloc (Nat.le_refl _) _⟩
  ·have i2:((c.toNat:Int) == 45)=false:=beq_eq_false_iff_ne.2 (fun e=>h2 (by rw[← UInt8.toNat_inj];show c.toNat=45;omega))
   by_cases h3:c=43
   ·have i3:((c.toNat:Int) == 43)=true:=(by rw[h3];rfl)
    have he:=hE 0 1 (by rw[h3];rfl) (by rw[h3];rfl)
    rw[he]
    clear h1 h2 h3 hE
    go_enter Tryz.func295,Tryz.ntmps295
    go_wp2
    refine bodyPost_ret (v:=.agg #[.int .i64 0,.int .i64 1]) (results_cell_row rfl _ _ w.heap.size 300 #[.int .i64 0,.int .i64 1] (0,0) _ rfl (heap_alloc_new w _) Tryz.underlying300 rfl (by kernel_rfl)) rfl ⟨rfl,(Below.refl _ w).alloc (Nat.le_refl _) _⟩
   ·have i3:((c.toNat:Int) == 43)=false:=beq_eq_false_iff_ne.2 (fun e=>h3 (by rw[← UInt8.toNat_inj];show c.toNat=43;omega))
    have hk:okC c=false:=(by unfold okC;simp[h1,h2,h3])
    have he:=hE 0 0 (by unfold cO;rw[hk];rfl) (by unfold cN;rw[hk];rfl)
    rw[he]
    clear h1 h2 h3 hk hE
    go_enter Tryz.func295,Tryz.ntmps295
    go_wp2
    refine bodyPost_ret (v:=.agg #[.int .i64 0,.int .i64 0]) (results_cell_row rfl _ _ w.heap.size 300 #[.int .i64 0,.int .i64 0] (0,0) _ rfl (heap_alloc_new w _) Tryz.underlying300 rfl (by kernel_rfl)) rfl ⟨rfl,(Below.refl _ w).alloc (Nat.le_refl _) _⟩
theorem Zlq (x y a b:Int) (w:World) (r:Bool) (HR:Hid (((x == 0 || a == 0) && (y == 0 || b == 0))=r)) :
  Calls Tryz.prog 296 #[.agg #[.int .i64 x,.int .i64 y],.agg #[.int .i64 a,.int .i64 b]] w fun e w'=>e=.returned (.bool r)∧Below w.heap.size w w':=by
 have hB:Below w.heap.size w ((w.alloc (ctO x y)).alloc (ctO a b)):=((Below.refl _ w).alloc (Nat.le_refl _) _).alloc (by simp) _
 unfold ctO at hB
 cases h1:x == 0 with
 | true =>
  cases h2:y == 0 with
  | true =>
   have HE:Hid (true=r):=(by show _=_;rw[← HR.out,h1,h2];rfl)
   clear HR
   go_enter Tryz.func296,Tryz.ntmps296
   go_wp2
   go_ret
   exact⟨by rw[← HE.out];rfl,hB⟩
  | false =>
   have HE:Hid ((b == 0)=r):=(by show _=_;rw[← HR.out,h1,h2];rfl)
   clear HR
   go_enter Tryz.func296,Tryz.ntmps296
   go_wp2
   go_ret
   exact⟨by rw[← HE.out];rfl,hB⟩
 | false =>
  cases h3:a == 0 with
  | true =>
   cases h2:y == 0 with
   | true =>
    have HE:Hid (true=r):=(by show _=_;rw[← HR.out,h1,h2,h3];rfl)
    clear HR
    go_enter Tryz.func296,Tryz.ntmps296
    go_wp2
    go_ret
    exact⟨by rw[← HE.out];rfl,hB⟩
   | false =>
    have HE:Hid ((b == 0)=r):=(by show _=_;rw[← HR.out,h1,h2,h3];rfl)
    clear HR
    go_enter Tryz.func296,Tryz.ntmps296
    go_wp2
    go_ret
    exact⟨by rw[← HE.out];rfl,hB⟩
  | false =>
   have HE:Hid (false=r):=(by show _=_;rw[← HR.out,h1,h3];rfl)
   clear HR
   go_enter Tryz.func296,Tryz.ntmps296
   go_wp2
   go_ret
   exact⟨by rw[← HE.out];rfl,hB⟩
theorem ZlY {R:Nat} {L:List (List UInt8)} {lo:Option Addr} {lc:Nat} {p:Nat} (w:World) (q:Uk w R (.slice lo L.length lc) p) (hL:HS w (.slice lo L.length lc) L) (hPl:Plain L) (hLl:L.length≤2199023255552)
  (t:List UInt8) (r:Bool) (HR:Hid ((t != [10] && pkM (L.drop p))=r)) :
  Calls Tryz.prog 297 #[.pointer (some ⟨R,0,none⟩),.string ⟨t.toArray⟩] w fun x w'=>x=.returned (.bool r)∧∃ n,w'=w.drewN n:=by
 obtain⟨c0,c1⟩:=q.cells
 by_cases ht:t=[10]
 ·have HE:Hid (false=r):=(by show _=_;rw[← HR.out,ht];rfl)
  subst ht
  clear HR hL q
  go_enter Tryz.func297,Tryz.ntmps297
  go_wp2_with fail
  go_quiet (fail)
  go_wp2
  go_ret
  exact⟨by rw[← HE.out];rfl,_,rfl⟩
 ·have e1:(t == [10])=false:=beq_eq_false_iff_ne.2 ht
  have e1b:(t != [10])=true:=bne_iff_ne.2 ht
  by_cases hlt:p<L.length
  ·have HE:Hid ((L[p] == markT)=r):=(by
    have h:=HR.out
    rw[Zim hPl hlt,e1b,Bool.true_and] at h
    exact h)
   obtain⟨bk,off,rfl,hbk,hcl⟩:=HS.at hL (by omega)
   have d4:=hcl p hlt
   generalize L[p]=s at d4 HE
   have HE2:Hid ((s == [92,32,78,111,32,110,101,119,108,105,110,101,32,97,116,32,101,110,100,32,111,102,32,102,105,108,101,10])=r):=HE
   have hd:decide ((p:Int)<(L.length:Int))=true:=decide_eq_true (by omega)
   clear HR hL q hcl hPl HE ht
   have i1:(0:Int)≤(p:Int):=by omega
   have i2:(p:Int)<(L.length:Int):=by omega
   have i3:(p:Int).toNat=p:=by omega
   go_enter Tryz.func297,Tryz.ntmps297
   go_wp2_with fail
   go_quiet (fail)
   go_wp2
   go_ret
   exact⟨by rw[← HE2.out];rfl,_,rfl⟩
  ·have HE:Hid (false=r):=(by
    have h:=HR.out
    rw[List.drop_of_length_le (by omega),e1b] at h
    exact h)
   have hd:decide ((p:Int)<(L.length:Int))=false:=decide_eq_false (by omega)
   clear HR hL q hPl ht
   go_enter Tryz.func297,Tryz.ntmps297
   go_wp2_with fail
   go_quiet (fail)
   go_wp2
   go_ret
   exact⟨by rw[← HE.out];rfl,_,rfl⟩
end

section
open Ln
theorem Zkp (s:List UInt8):∃ c t,s++[10]=c::t:=by
 cases s with
 | nil=>exact⟨10,[],rfl⟩
 | cons c t=>exact⟨c,t++[10],rfl⟩
theorem Zlv {a b p:Nat} {ls r:List (List UInt8)} {s t:List UInt8} {c:UInt8} (hn:nxt p ls=.ok (s,r)) (hs:s++[10]=c::t):ulnP a b p ls=if okC c=true∧tkO c≤a∧tkN c≤b then (if (uendB c (a-tkO c) (b-tkN c) && (t != [10] && pkM r))=true then .ok (⟨c.toNat,t.dropLast⟩,p+2,r.tail) else .ok (⟨c.toNat,t⟩,p+1,r)) else .error (p+1,3):=by
 unfold ulnP
 rw[hn]
 cases s with
 | nil =>
  simp only[List.nil_append,List.cons.injEq] at hs
  obtain⟨rfl,_⟩:=hs
  rfl
 | cons d u =>
  simp only[List.cons_append,List.cons.injEq] at hs
  obtain⟨rfl,rfl⟩:=hs
  dsimp only
  split
  ·rw[List.dropLast_concat]
   have e:(u++[10] != [10])=decide (u≠[]):=by
    cases u with
    | nil=>rfl
    | cons x y =>
     have h1:¬ (x::y++[10]=[10]):=by
      intro h
      have:=congrArg List.length h
      simp at this
     rw[bne_iff_ne.2 h1]
     rfl
   rw[e]
   by_cases h1:uendB d (a-tkO d) (b-tkN d)=true
   ·by_cases h2:u=[]
    ·rw[if_neg (fun q=>q.2.1 h2),if_neg (by simp[h2])]
    ·by_cases h3:pkM r=true
     ·rw[if_pos ⟨h1,h2,h3⟩,if_pos (by simp[h1,h2,h3])]
     ·rw[if_neg (fun q=>h3 q.2.2),if_neg (by simp[h3])]
   ·rw[if_neg (fun q=>h1 q.1),if_neg (by simp[h1])]
  ·rfl
theorem ZaV {c:UInt8} (h:okC c=true):cO c=(tkO c:Int)∧cN c=(tkN c:Int)∧((cO c == 0)=(c == 43))∧((cN c == 0)=(c == 45))∧(cO c == 0 && cN c == 0)=false∧0≤cO c∧cO c≤1∧0≤cN c∧cN c≤1:=by
 rcases Zhw h with rfl | rfl | rfl<;>exact⟨rfl,rfl,rfl,rfl,rfl,by decide,by decide,by decide,by decide⟩
theorem ZaU {c:UInt8} (h:okC c=false):cO c=0∧cN c=0:=by
 unfold cO cN
 rw[h]
 exact⟨rfl,rfl⟩
theorem ZcQ {c:UInt8} (h:okC c=true) {a b:Nat} {a' b':Int} (ha:a'=a) (hb:b'=b):((cO c == 0 || a' == 0) && (cN c == 0 || b' == 0))=uendB c a b:=by
 obtain⟨_,_,h1,h2,_⟩:=ZaV h
 have e1:(a' == 0)=(a == 0):=by rw[ha,Bool.eq_iff_iff,beq_iff_eq,beq_iff_eq];omega
 have e2:(b' == 0)=(b == 0):=by rw[hb,Bool.eq_iff_iff,beq_iff_eq,beq_iff_eq];omega
 unfold uendB
 rw[h1,h2,e1,e2]
theorem Zfw {c:UInt8} (h:okC c=true) (t:List UInt8):sgO ⟨c.toNat,t⟩=tkO c∧sgN ⟨c.toNat,t⟩=tkN c:=⟨(ZkR h t).2.1,(ZkR h t).2.2.1⟩
end

section
open Go.RowKit Go.Proofs.YtcniomgjikienaaGreatDoor.Tx
def mk0:Obj:=.cells #[.int .u8 0,.string ⟨#[]⟩] 47
structure Mz (w:World) (R:Nat) (vL:Value) (T:Nat) (p:Nat) (a b x y:Int) (u:World):Prop where
 gr:w.grownBy u (some R)
 b1:u.heap[w.heap.size]?=some (ctO a b)
 b2:u.heap[w.heap.size+1]?=some mk0
 b3:u.heap[w.heap.size+2]?=some (ctO 0 0)
 bt:u.heap[T]?=some (ctO x y)
 ck:Uk u R vL (p:Int)
 tl:w.heap.size+2<T
 rl:R<w.heap.size
section
variable {w u u':World} {R T p:Nat} {vL:Value} {a b x y:Int}
theorem Mz.low (h:Mz w R vL T p a b x y u) (hb:Below u.heap.size u u'):Mz w R vL T p a b x y u' :=
 ⟨ZdT h.gr (ZfO hb _),(hb.block _ (Array.getElem?_eq_some_iff.1 h.b1).1).trans h.b1,(hb.block _ (Array.getElem?_eq_some_iff.1 h.b2).1).trans h.b2,(hb.block _ (Array.getElem?_eq_some_iff.1 h.b3).1).trans h.b3,(hb.block _ (Array.getElem?_eq_some_iff.1 h.bt).1).trans h.bt,h.ck.low hb,h.tl,h.rl⟩
theorem Mz.other (h:Mz w R vL T p a b x y u) {g:Nat} (j:Nat) (z:Value) (h0:w.heap.size+2<g) (h1:g≠T):Mz w R vL T p a b x y (u.setCell ⟨g,j,none⟩ z):=by
 have hs:=h.rl
 have k:∀ (i:Nat) (o:Obj),i≠g→u.heap[i]?=some o→(u.setCell ⟨g,j,none⟩ z).heap[i]?=some o:=fun i o hi ho=>(Below.heap_setCell _ _ _ i hi).trans ho
 exact⟨ZdR h.gr (by omega) j z,k _ _ (by omega) h.b1,k _ _ (by omega) h.b2,k _ _ (by omega) h.b3,k _ _ (fun e=>h1 e.symm) h.bt,k _ _ (by omega) h.ck,h.tl,h.rl⟩
theorem Mz.setA (h:Mz w R vL T p a b x y u) (z:Int):Mz w R vL T p z b x y (u.setCell ⟨w.heap.size,0,none⟩ (.int .i64 z)):=by
 have hs:=h.rl
 have ht:=h.tl
 have k:∀ (i:Nat) (o:Obj),i≠w.heap.size→u.heap[i]?=some o→(u.setCell ⟨w.heap.size,0,none⟩ (.int .i64 z)).heap[i]?=some o:=fun i o hi ho=>(Below.heap_setCell _ _ _ i hi).trans ho
 exact⟨ZdR h.gr (Nat.le_refl _) 0 _,heap_setCell_same u _ 0 _ _ _ h.b1,k _ _ (by omega) h.b2,k _ _ (by omega) h.b3,k _ _ (by omega) h.bt,k _ _ (by omega) h.ck,h.tl,h.rl⟩
theorem Mz.setB (h:Mz w R vL T p a b x y u) (z:Int):Mz w R vL T p a z x y (u.setCell ⟨w.heap.size,1,none⟩ (.int .i64 z)):=by
 have hs:=h.rl
 have ht:=h.tl
 have k:∀ (i:Nat) (o:Obj),i≠w.heap.size→u.heap[i]?=some o→(u.setCell ⟨w.heap.size,1,none⟩ (.int .i64 z)).heap[i]?=some o:=fun i o hi ho=>(Below.heap_setCell _ _ _ i hi).trans ho
 exact⟨ZdR h.gr (Nat.le_refl _) 1 _,heap_setCell_same u _ 1 _ _ _ h.b1,k _ _ (by omega) h.b2,k _ _ (by omega) h.b3,k _ _ (by omega) h.bt,k _ _ (by omega) h.ck,h.tl,h.rl⟩
theorem Mz.next (h:Mz w R vL T p a b x y u):Mz w R vL T (p+1) a b x y (u.setCell ⟨R,1,none⟩ (.int .i64 ((p:Int)+1))):=by
 have hs:=h.rl
 have ht:=h.tl
 have k:∀ (i:Nat) (o:Obj),i≠R→u.heap[i]?=some o→(u.setCell ⟨R,1,none⟩ (.int .i64 ((p:Int)+1))).heap[i]?=some o:=fun i o hi ho=>(Below.heap_setCell _ _ _ i hi).trans ho
 exact⟨ZdT h.gr (ZdS u R 1 _),k _ _ (by omega) h.b1,k _ _ (by omega) h.b2,k _ _ (by omega) h.b3,k _ _ (by omega) h.bt,by have:=h.ck.at ((p:Int)+1);simpa using this,h.tl,h.rl⟩
theorem Mz.left (h:Mz w R vL T p a b x y u):u.cell? ⟨w.heap.size,0,none⟩=some (.int .i64 a)∧u.cell? ⟨w.heap.size,1,none⟩=some (.int .i64 b)∧u.frozen? ⟨w.heap.size,0,none⟩=false∧u.frozen? ⟨w.heap.size,1,none⟩=false:=by
 have e:u.heap[w.heap.size]?=some (.cells #[.int .i64 a,.int .i64 b] 300):=h.b1
 exact⟨by rw[Lib.cell_of_heap e];rfl,by rw[Lib.cell_of_heap e];rfl,Lib.frozen_of_heap e 0,Lib.frozen_of_heap e 1⟩
theorem Mz.taken (h:Mz w R vL T p a b x y u):u.cell? ⟨T,0,none⟩=some (.int .i64 x)∧u.cell? ⟨T,1,none⟩=some (.int .i64 y):=by
 have e:u.heap[T]?=some (.cells #[.int .i64 x,.int .i64 y] 300):=h.bt
 exact⟨by rw[Lib.cell_of_heap e];rfl,by rw[Lib.cell_of_heap e];rfl⟩
theorem Mz.res (h:Mz w R vL T p a b x y u):(∀ j,u.frozen? ⟨w.heap.size+1,j,none⟩=false)∧(∀ j,u.frozen? ⟨w.heap.size+1+1,j,none⟩=false)∧u.cell? ⟨w.heap.size+1,0,none⟩=some (.int .u8 0)∧u.cell? ⟨w.heap.size+1,1,none⟩=some (.string ⟨#[]⟩)∧u.cell? ⟨w.heap.size+1+1,0,none⟩=some (.int .i64 0)∧u.cell? ⟨w.heap.size+1+1,1,none⟩=some (.int .i64 0):=by
 have e:u.heap[w.heap.size+1]?=some (.cells #[.int .u8 0,.string ⟨#[]⟩] 47):=h.b2
 have e2:u.heap[w.heap.size+1+1]?=some (.cells #[.int .i64 0,.int .i64 0] 300):=h.b3
 exact⟨fun j=>Lib.frozen_of_heap e j,fun j=>Lib.frozen_of_heap e2 j,by rw[Lib.cell_of_heap e];rfl,by rw[Lib.cell_of_heap e];rfl,by rw[Lib.cell_of_heap e2];rfl,by rw[Lib.cell_of_heap e2];rfl⟩
theorem Mz.fin (h:Mz w R vL T p a b x y u) (z:Int) (tx:List UInt8) :
  ((((u.setCell ⟨w.heap.size+1,0,none⟩ (.int .u8 z)).setCell ⟨w.heap.size+1,1,none⟩ (.string ⟨tx.toArray⟩)).setCell ⟨w.heap.size+1+1,0,none⟩ (.int .i64 a)).setCell ⟨w.heap.size+1+1,1,none⟩ (.int .i64 b)).drew.heap[w.heap.size+1]?=some (.cells #[.int .u8 z,.string ⟨tx.toArray⟩] 47) ∧
  ((((u.setCell ⟨w.heap.size+1,0,none⟩ (.int .u8 z)).setCell ⟨w.heap.size+1,1,none⟩ (.string ⟨tx.toArray⟩)).setCell ⟨w.heap.size+1+1,0,none⟩ (.int .i64 a)).setCell ⟨w.heap.size+1+1,1,none⟩ (.int .i64 b)).drew.heap[w.heap.size+1+1]?=some (.cells #[.int .i64 a,.int .i64 b] 300) ∧
  Uk ((((u.setCell ⟨w.heap.size+1,0,none⟩ (.int .u8 z)).setCell ⟨w.heap.size+1,1,none⟩ (.string ⟨tx.toArray⟩)).setCell ⟨w.heap.size+1+1,0,none⟩ (.int .i64 a)).setCell ⟨w.heap.size+1+1,1,none⟩ (.int .i64 b)).drew R vL (p:Int) ∧
  w.grownBy ((((u.setCell ⟨w.heap.size+1,0,none⟩ (.int .u8 z)).setCell ⟨w.heap.size+1,1,none⟩ (.string ⟨tx.toArray⟩)).setCell ⟨w.heap.size+1+1,0,none⟩ (.int .i64 a)).setCell ⟨w.heap.size+1+1,1,none⟩ (.int .i64 b)).drew (some R):=by
 have hr:=h.rl
 have e1:=heap_setCell_same _ _ 1 _ _ (.string ⟨tx.toArray⟩) (heap_setCell_same u _ 0 _ _ (.int .u8 z) h.b2)
 have e2:((u.setCell ⟨w.heap.size+1,0,none⟩ (.int .u8 z)).setCell ⟨w.heap.size+1,1,none⟩ (.string ⟨tx.toArray⟩)).heap[w.heap.size+1+1]?=some (ctO 0 0):=(Below.heap_setCell _ _ _ _ (show w.heap.size+1+1≠w.heap.size+1 by omega)).trans ((Below.heap_setCell _ _ _ _ (show w.heap.size+1+1≠w.heap.size+1 by omega)).trans h.b3)
 have e3:=heap_setCell_same _ _ 1 _ _ (.int .i64 b) (heap_setCell_same _ _ 0 _ _ (.int .i64 a) e2)
 refine⟨?_,e3,?_,?_⟩
 ·exact (Below.heap_setCell _ _ _ _ (show w.heap.size+1≠w.heap.size+1+1 by omega)).trans ((Below.heap_setCell _ _ _ _ (show w.heap.size+1≠w.heap.size+1+1 by omega)).trans e1)
 ·exact (Below.heap_setCell _ _ _ _ (show R≠w.heap.size+1+1 by omega)).trans ((Below.heap_setCell _ _ _ _ (show R≠w.heap.size+1+1 by omega)).trans ((Below.heap_setCell _ _ _ _ (show R≠w.heap.size+1 by omega)).trans ((Below.heap_setCell _ _ _ _ (show R≠w.heap.size+1 by omega)).trans h.ck)))
 ·exact ZdP (ZdR (ZdR (ZdR (ZdR h.gr (by omega) 0 _) (by omega) 1 _) (by omega) 0 _) (by omega) 1 _) 1
end
def UlX (R:Nat) (vL:Value) (a b:Nat) (X:Except (Nat × Int) (Mk × Nat × List (List UInt8))) (w:World) (e:Ending) (w':World):Prop :=
 match X with
 | .error (z,k)=>Thr (z:Int) k e w'∧w.grownBy w' (some R)
 | .ok (m,p1,_)=>e=.returned (.tuple #[.agg #[.int .u8 m.sg,.string ⟨m.tx.toArray⟩],.agg #[.int .i64 ((a-sgO m:Nat):Int),.int .i64 ((b-sgN m:Nat):Int)]])∧Uk w' R vL (p1:Int)∧w.grownBy w' (some R)
theorem Zjl {P:Program} {fn:Func} {p q:Tmp} {ty tz:TypeId} (h:fn.results=#[.cell p ty,.cell q tz]) (tmps:Array Value) (w:World) (g g':Nat) (t t':TypeId) (cs ds:Array Value) (fr fr':Nat × Nat) (d d':TypeDesc)
  (hp:tmps.getD p undef=.pointer (some ⟨g,0,none⟩)) (hg:w.heap[g]?=some (.cells cs t fr)) (hu:P.underlying ty=some d) (hd:(match d with | .struct _ | .array _ _=>true | _=>false)=true) (hi:(P.info? ty).map (·.size)=some cs.size)
  (hq:tmps.getD q undef=.pointer (some ⟨g',0,none⟩)) (hg':w.heap[g']?=some (.cells ds t' fr')) (hu':P.underlying tz=some d') (hd':(match d' with | .struct _ | .array _ _=>true | _=>false)=true) (hi':(P.info? tz).map (·.size)=some ds.size) :
  (results fn tmps).run P w=.ok (.tuple #[.agg cs,.agg ds]) w:=by
 have hp':tmps[p]?.getD undef=.pointer (some ⟨g,0,none⟩):=by simpa using hp
 have hq':tmps[q]?.getD undef=.pointer (some ⟨g',0,none⟩):=by simpa using hq
 simp[results,h,hp',hq',asAddr,run_loadVar_row w g t ty cs fr d hg hu hd hi,run_loadVar_row w g' t' tz ds fr' d' hg' hu' hd' hi',Result.andThen]
end

section
open Go.RowKit Go.Proofs.YtcniomgjikienaaGreatDoor.Tx
attribute [local go_sem] ByteArray.extract_mk Zhc
theorem Zlz {R:Nat} {L:List (List UInt8)} {lo:Option Addr} {lc:Nat} {p:Nat} (a b:Nat) (w:World) (q:Uk w R (.slice lo L.length lc) p) (HLs:Hid (∀ u,w.grownBy u (some R)→HS u (.slice lo L.length lc) L)) (hPl:Plain L) (hp:p≤L.length) (hLl:L.length≤2199023255552) (hs:∀ s∈L,s.length≤1099511627776) (ha:a≤2147483647) (hb:b≤2147483647)
  (X:Except (Nat × Int) (Mk × Nat × List (List UInt8))) (HX:Hid (ulnP a b p (L.drop p)=X)) :
  Calls Tryz.prog 244 #[.pointer (some ⟨R,0,none⟩),.agg #[.int .i64 (a:Int),.int .i64 (b:Int)]] w fun e w'=>UlX R (.slice lo L.length lc) a b X w e w':=by
 have hRl:=q.lt
 obtain⟨W0,hW0⟩:∃ u,((w.alloc (ctO a b)).alloc mk0).alloc (ctO 0 0)=u:=⟨_,rfl⟩
 have hB0:Below w.heap.size w W0:=(by rw[← hW0];exact (((Below.refl _ w).alloc (Nat.le_refl _) _).alloc (by simp) _).alloc (by simp;omega) _)
 have k1:W0.heap[w.heap.size]?=some (ctO a b):=(by
  rw[← hW0,Below.heap_alloc _ _ _ (by simp;omega),Below.heap_alloc _ _ _ (by simp)]
  exact heap_alloc_new w _)
 have k2:W0.heap[w.heap.size+1]?=some mk0:=(by
  rw[← hW0,Below.heap_alloc _ _ _ (by simp)]
  have:=heap_alloc_new (w.alloc (ctO a b)) mk0
  simpa using this)
 have k3:W0.heap[w.heap.size+2]?=some (ctO 0 0):=(by
  rw[← hW0]
  have:=heap_alloc_new ((w.alloc (ctO a b)).alloc mk0) (ctO 0 0)
  simpa using this)
 have q0:=q.low hB0
 have hL0:=HLs.out W0 (ZfO hB0 _)
 obtain⟨Y,hY⟩:∃ Y,nxt p (L.drop p)=Y:=⟨_,rfl⟩
 have hl:=ZlV W0 q0 hL0 hp hLl hs Y hY
 have hX:=HX.out
 clear HX
 unfold ctO mk0 at hW0
 cases Y with
 | error z =>
  obtain⟨z1,e1⟩:=z
  have hX2:X=.error (z1,e1):=(by rw[← hX];unfold ulnP;rw[hY])
  subst hX2
  clear hX k1 k2 k3
  go_enter Tryz.func244,Tryz.ntmps244
  go_wp2_with fail
  refine hl.mono ?_
  rintro x w1 ⟨⟨g,rfl,hg⟩,hgr⟩
  go_wp2
  exact⟨rfl,⟨_,rfl,hg⟩,ZdT (ZfO hB0 _) hgr⟩
 | ok z =>
  obtain⟨s,r⟩:=z
  obtain⟨c,st,hst⟩:=Zkp s
  have hl2:Calls Tryz.prog 240 #[.pointer (some ⟨R,0,none⟩)] W0 fun x w'=>x=.returned (.string ⟨(s++[10]).toArray⟩)∧∃ n,w'=W0.drewN n:=hl
  rw[hst] at hl2
  have hr:=(Zhr hY).1
  have hsl:(c::st).length≤1099511627777:=(by
   obtain⟨_,hpl,_,hLp⟩:=Zhr hY
   have hsl:=hs L[p] (List.getElem_mem hpl)
   rw[hLp] at hsl
   rw[← hst]
   omega)
  rw[Zlv hY hst] at hX
  simp only[List.length_cons] at hsl
  obtain⟨x,hx⟩:∃ x,cO c=x:=⟨_,rfl⟩
  obtain⟨y,hy⟩:∃ y,cN c=y:=⟨_,rfl⟩
  have hcn:=c.toNat_lt
  have hco:∀ u:World,Calls Tryz.prog 295 #[.int .u8 (c.toNat:Int)] u fun e w'=>e=.returned (.agg #[.int .i64 x,.int .i64 y])∧Below u.heap.size u w':=(by
   intro u
   have h:=Zlc c u
   rw[hx,hy] at h
   exact h)
  have hxy:0≤x∧x≤1∧0≤y∧y≤1:=(by
   rw[← hx,← hy]
   cases h:okC c with
   | true =>
    have:=(ZaV h).2.2.2.2.2
    exact⟨this.1,this.2.1,this.2.2.1,this.2.2.2⟩
   | false =>
    obtain⟨h1,h2⟩:=ZaU h
    rw[h1,h2]
    decide)
  have i1:(0:Int)<(st.length:Int)+1:=by omega
  clear hl
  go_enter Tryz.func244,Tryz.ntmps244
  go_wp2_with fail
  refine hl2.mono ?_
  rintro e W1 ⟨rfl,n1,rfl⟩
  have hB1:Below w.heap.size w (W0.drewN n1):=Below.dN hB0 n1
  have k1':(W0.drewN n1).heap[w.heap.size]?=some (ctO a b):=k1
  have k2':(W0.drewN n1).heap[w.heap.size+1]?=some mk0:=k2
  have k3':(W0.drewN n1).heap[w.heap.size+2]?=some (ctO 0 0):=k3
  have q1:=q0.dN n1
  generalize W0.drewN n1=W1 at hB1 k1' k2' k3' q1 ⊢
  clear hW0 hB0 k1 k2 k3 q0 hL0 hl2
  go_wp2_with fail
  refine (hco _).mono ?_
  rintro e W2 ⟨rfl,hB2⟩
  have hM3:Mz w R (.slice lo L.length lc) W2.heap.size p a b x y (W2.alloc (ctO x y)):=(by
   have hB3:Below W1.heap.size W1 (W2.alloc (ctO x y)):=hB2.alloc hB2.size _
   have e1:=Array.getElem?_eq_some_iff.1 k3'
   have e2:=hB2.size
   exact⟨ZfO (hB1.trans (hB3.mono hB1.size)) _,(hB3.block _ (Array.getElem?_eq_some_iff.1 k1').1).trans k1',(hB3.block _ (Array.getElem?_eq_some_iff.1 k2').1).trans k2',(hB3.block _ e1.1).trans k3',heap_alloc_new W2 _,q1.low hB3,by have:=e1.1;omega,hRl⟩)
  clear hB1 k1' k2' k3' q1 hB2 hco
  unfold ctO at hM3
  go_upto_region 3 with fail
  generalize W2.alloc (.cells #[.int .i64 x,.int .i64 y] 300)=W3 at hM3 ⊢
  generalize W2.heap.size=T at hM3 ⊢
  obtain⟨l0,l1,f0,f1⟩:=hM3.left
  obtain⟨t0,t1⟩:=hM3.taken
  have hM4:=hM3.setA ((a:Int)-x)
  have hM5:=hM4.setB ((b:Int)-y)
  obtain⟨l0',l1',f0',f1'⟩:=hM4.left
  obtain⟨t0',t1'⟩:=hM4.taken
  go_upto_region 5 with fail
  clear l0 l1 f0 f1 t0 t1 l0' l1' f0' f1' t0' t1' hM3 hM4
  generalize (W3.setCell ⟨w.heap.size,0,none⟩ (.int .i64 ((a:Int)-x))).setCell ⟨w.heap.size,1,none⟩ (.int .i64 ((b:Int)-y))=W5 at hM5 ⊢
  generalize hva:(a:Int)-x=va at hM5 ⊢
  generalize hvb:(b:Int)-y=vb at hM5 ⊢
  obtain⟨l0,l1,f0,f1⟩:=hM5.left
  obtain⟨t0,t1⟩:=hM5.taken
  have heq:=Zch x y 0 0
  have hgd:Tryz.prog.eqGuardType Tryz.prog.depth 300=false:=by kernel_rfl
  by_cases hgood:okC c=true∧tkO c≤a∧tkN c≤b
  ·rw[if_pos hgood] at hX
   obtain⟨g1,g2,g3⟩:=hgood
   obtain⟨u1,u2,u3,u4,u5,_⟩:=ZaV g1
   rw[hx,hy] at u5
   rw[u5] at heq
   rw[hx] at u1
   rw[hy] at u2
   have HV:Hid (va=((a-tkO c:Nat):Int)∧vb=((b-tkN c:Nat):Int)):=⟨by omega,by omega⟩
   have d1:decide (va<0)=false:=decide_eq_false (by omega)
   have d2:decide (vb<0)=false:=decide_eq_false (by omega)
   have HXY:Hid (cO c=x∧cN c=y):=⟨hx,hy⟩
   have hM7:=hM5.next
   clear u1 u2 u3 u4 u5 hva hvb hx hy
   obtain⟨r0,r1⟩:=hM5.ck.cells
   have rf1:=hM5.ck.frozen 1
   go_upto_region 8 with fail
   clear r0 r1 rf1 l0 l1 f0 f1 t0 t1 d1 d2 heq hM5
   generalize W5.setCell ⟨R,1,none⟩ (.int .i64 ((p:Int)+1))=W7 at hM7 ⊢
   have HS1:Hid (T<W7.heap.size):=(Array.getElem?_eq_some_iff.1 hM7.bt).1
   have hB8:Below W7.heap.size W7 (W7.alloc (.cells #[.int .u8 (c.toNat:Int),.string ⟨st.toArray⟩] 47)).drew:=((Below.refl _ W7).alloc (Nat.le_refl _) _).drew
   have hM8:=hM7.low hB8
   have hm8:(W7.alloc (.cells #[.int .u8 (c.toNat:Int),.string ⟨st.toArray⟩] 47)).drew.heap[W7.heap.size]?=some (.cells #[.int .u8 (c.toNat:Int),.string ⟨st.toArray⟩] 47):=heap_alloc_new W7 _
   go_region
   clear hM7 hB8
   generalize (W7.alloc (.cells #[.int .u8 (c.toNat:Int),.string ⟨st.toArray⟩] 47)).drew=W8 at hM8 hm8 ⊢
   generalize W7.heap.size=S at HS1 hm8 ⊢
   obtain⟨r1,hr1⟩:∃ z,uendB c (a-tkO c) (b-tkN c)=z:=⟨_,rfl⟩
   obtain⟨r2,hr2⟩:∃ z,(st != [10] && pkM r)=z:=⟨_,rfl⟩
   rw[hr1,hr2] at hX
   have HR1:Hid (((x == 0 || va == 0) && (y == 0 || vb == 0))=r1):=(by
    show _=_
    rw[← hr1,← HXY.out.1,← HXY.out.2]
    exact ZcQ g1 HV.out.1 HV.out.2)
   have HR2:Hid ((st != [10] && pkM (L.drop (p+1)))=r2):=(by show _=_;rw[← hr,hr2])
   have HXX:Hid ((if (r1 && r2)=true then Except.ok ((⟨(c.toNat:Int),st.dropLast⟩:Mk),p+2,r.tail) else Except.ok (⟨(c.toNat:Int),st⟩,p+1,r))=X):=hX
   have Hr:Hid (r=L.drop (p+1)):=hr
   have HST:Hid (s++[10]=c::st):=hst
   have HOK:Hid (okC c=true):=g1
   clear hX hr1 hr2 hr hst hY g1 g2 g3
   go_upto_region 9 with fail
   go_cut [61] (fun bv wz=>bv=.bool (r1 && r2)∧Mz w R (.slice lo L.length lc) T (p+1) va vb x y wz∧wz.heap[S]?=some (.cells #[.int .u8 (c.toNat:Int),.string ⟨st.toArray⟩] 47))
   case first =>
    obtain⟨l0,l1,f0,f1⟩:=hM8.left
    obtain⟨t0,t1⟩:=hM8.taken
    go_wp2_with fail
    refine (Zlq x y va vb _ r1 HR1).mono ?_
    rintro e W9 ⟨rfl,hB9⟩
    have hM9:=hM8.low hB9
    have hm9:W9.heap[S]?=_:=(hB9.block S (Array.getElem?_eq_some_iff.1 hm8).1).trans hm8
    clear hM8 hm8 l0 l1 f0 f1 t0 t1 hB9
    cases r1 with
    | false =>
     go_wp2
     go_meet
     case rel=>exact⟨rfl,hM9,hm9⟩
    | true =>
     have m1:W9.cell? ⟨S,1,none⟩=some (.string ⟨st.toArray⟩):=(by rw[Lib.cell_of_heap hm9];rfl)
     go_wp2_with fail
     refine (ZlY W9 hM9.ck (HLs.out W9 hM9.gr) hPl hLl st r2 HR2).mono ?_
     rintro e W10 ⟨rfl,n10,rfl⟩
     have hM10:=hM9.low (Below.dN (Below.refl _ W9) n10)
     have hm10:(W9.drewN n10).heap[S]?=_:=hm9
     go_wp2
     go_meet
     case rel=>exact⟨by simp,hM10,hm10⟩
   case rest =>
   obtain⟨rfl,hM11,hm11⟩:=hcut
   clear hM8 hm8 HR1 HR2
   go_upto_if 61 with fail
   go_cut [] (fun wz=>∃ (tx:List UInt8) (pn:Nat),Mz w R (.slice lo L.length lc) T pn va vb x y wz∧wz.heap[S]?=some (.cells #[.int .u8 (c.toNat:Int),.string ⟨tx.toArray⟩] 47)∧Hid (Except.ok ((⟨(c.toNat:Int),tx⟩:Mk),pn,L.drop pn)=X))
   case first =>
    cases hb:(r1 && r2) with
    | false =>
     have HE:Hid (Except.ok ((⟨(c.toNat:Int),st⟩:Mk),p+1,L.drop (p+1))=X):=(by have h:=HXX.out;rw[hb,if_neg (by decide),Hr.out] at h;exact h)
     clear HXX
     go_wp2
     go_meet
     case rel=>exact⟨st,p+1,hM11,hm11,HE⟩
    | true =>
     have HE:Hid (Except.ok ((⟨(c.toNat:Int),st.dropLast⟩:Mk),p+2,L.drop (p+2))=X):=(by
      have h:=HXX.out
      rw[hb,if_pos rfl,Hr.out,List.tail_drop] at h
      exact h)
     obtain⟨u,hu⟩:∃ u,st=u++[10]:=(by
      have h:=HST.out
      cases s with
      | nil =>
       simp only[List.nil_append,List.cons.injEq] at h
       have:=HOK.out
       rw[← h.1] at this
       cases this
      | cons d u =>
       simp only[List.cons_append,List.cons.injEq] at h
       exact⟨u,h.2.symm⟩)
     have hts:Lib.trimSuffix st [10]=st.dropLast:=(by rw[hu,ZkV,List.dropLast_concat])
     obtain⟨sd,hsd⟩:∃ z,st.dropLast=z:=⟨_,rfl⟩
     rw[hsd] at hts HE
     have HTr:Hid (∀ u,Calls Tryz.prog 239 #[.string ⟨st.toArray⟩,.string ⟨#[10]⟩] u fun e w'=>e=.returned (.string ⟨sd.toArray⟩)∧w'=u):=(by
      intro u
      refine (Tryz.strings_TrimSuffix ⟨st.toArray⟩ ⟨#[10]⟩ u (by show st.length≤_;omega)).mono ?_
      rintro e w' ⟨rfl,rfl⟩
      have e1:Lib.trimSuffix (⟨st.toArray⟩:ByteArray).data.toList (⟨#[10]⟩:ByteArray).data.toList=sd:=hts
      rw[e1]
      exact⟨rfl,rfl⟩)
     clear HXX hu hts hsd
     have m1:wc.cell? ⟨S,1,none⟩=some (.string ⟨st.toArray⟩):=(by rw[Lib.cell_of_heap hm11];rfl)
     have mf1:wc.frozen? ⟨S,1,none⟩=false:=Lib.frozen_of_heap hm11 1
     have hST:=HS1.out
     have htl:=hM11.tl
     have hM12:=hM11.other (g:=S) 1 (.string ⟨sd.toArray⟩) (by omega) (by omega)
     have hm12:(wc.setCell ⟨S,1,none⟩ (.string ⟨sd.toArray⟩)).heap[S]?=some (.cells #[.int .u8 (c.toNat:Int),.string ⟨sd.toArray⟩] 47):=heap_setCell_same _ S 1 _ _ _ hm11
     have hM13:=hM12.next
     have hm13:((wc.setCell ⟨S,1,none⟩ (.string ⟨sd.toArray⟩)).setCell ⟨R,1,none⟩ (.int .i64 (((p+1:Nat):Int)+1))).heap[S]?=some (.cells #[.int .u8 (c.toNat:Int),.string ⟨sd.toArray⟩] 47):=(Below.heap_setCell _ _ _ S (show S≠R by omega)).trans hm12
     obtain⟨r0,r1'⟩:=hM12.ck.cells
     have rf1:=hM12.ck.frozen 1
     have e2:((p+1:Nat):Int)=(p:Int)+1:=by omega
     rw[e2] at r1' hM13 hm13
     clear hST htl e2
     go_wp2_with fail
     refine (HTr.out _).mono ?_
     rintro e w2 ⟨rfl,rfl⟩
     go_wp2
     go_meet
     case rel=>exact⟨sd,p+1+1,hM13,hm13,HE⟩
   case rest =>
   obtain⟨tx,pn,hM14,hm14,HE⟩:=hcut
   clear hM11 hm11 HXX
   have hXe:=HE.out
   subst hXe
   obtain⟨l0,l1,f0,f1⟩:=hM14.left
   obtain⟨yf1,yf2,y0,y1,y2,y3⟩:=hM14.res
   have zf0:=yf1 0
   have zf1:=yf1 1
   have zf2:=yf2 0
   have zf3:=yf2 1
   have m0:wc.cell? ⟨S,0,none⟩=some (.int .u8 (c.toNat:Int)):=(by rw[Lib.cell_of_heap hm14];rfl)
   have m1:wc.cell? ⟨S,1,none⟩=some (.string ⟨tx.toArray⟩):=(by rw[Lib.cell_of_heap hm14];rfl)
   clear yf1 yf2
   go_upto_region 12 with fail
   obtain⟨k1,k2,k3,k4⟩:=hM14.fin (c.toNat:Int) tx
   go_region
   clear y0 y1 y2 y3 zf0 zf1 zf2 zf3 m0 m1 l0 l1 f0 f1 hM14 hm14
   go_wp2
   refine bodyPost_ret (v:=.tuple #[.agg #[.int .u8 (c.toNat:Int),.string ⟨tx.toArray⟩],.agg #[.int .i64 va,.int .i64 vb]]) (Zjl rfl _ _ (w.heap.size+1) (w.heap.size+1+1) 47 300 #[.int .u8 (c.toNat:Int),.string ⟨tx.toArray⟩] #[.int .i64 va,.int .i64 vb] (0,0) (0,0) _ _ rfl k1 Tryz.underlying47 rfl (by kernel_rfl) rfl k2 Tryz.underlying300 rfl (by kernel_rfl)) rfl ⟨?_,k3,k4⟩
   rw[(Zfw HOK.out tx).1,(Zfw HOK.out tx).2,← HV.out.1,← HV.out.2]
  ·rw[if_neg hgood] at hX
   subst hX
   have hbad:¬ (x == 0 && y == 0)=true→¬ va<0→vb<0:=(by
    intro n1 n2
    cases ho:okC c with
    | false =>
     obtain⟨h1,h2⟩:=ZaU ho
     rw[hx] at h1
     rw[hy] at h2
     exact absurd (by rw[h1,h2];rfl) n1
    | true =>
     obtain⟨u1,u2,_⟩:=ZaV ho
     rw[hx] at u1
     rw[hy] at u2
     have n3:¬ (tkO c≤a∧tkN c≤b):=fun z=>hgood ⟨ho,z⟩
     omega)
   have hck:=hM5.ck
   have hgr5:=hM5.gr
   by_cases e0:(x == 0 && y == 0)=true
   ·rw[e0] at heq
    clear hbad hM5 hgood hx hy
    go_wp2_with fail
    refine (ZlU 3 _ hck (by omega)).mono ?_
    rintro e w3 ⟨⟨g,rfl,hg⟩,hgr⟩
    go_wp2
    exact⟨rfl,⟨_,rfl,by simpa using hg⟩,ZdT hgr5 hgr⟩
   ·have e0':(x == 0 && y == 0)=false:=by simpa using e0
    rw[e0'] at heq
    by_cases e1:va<0
    ·have d1:decide (va<0)=true:=decide_eq_true e1
     clear hbad hM5 hgood hx hy e0 e0'
     go_wp2_with fail
     refine (ZlU 3 _ hck (by omega)).mono ?_
     rintro e w3 ⟨⟨g,rfl,hg⟩,hgr⟩
     go_wp2
     exact⟨rfl,⟨_,rfl,by simpa using hg⟩,ZdT hgr5 hgr⟩
    ·have d1:decide (va<0)=false:=decide_eq_false e1
     have d2:decide (vb<0)=true:=decide_eq_true (hbad e0 e1)
     clear hbad hM5 hgood hx hy e0 e0'
     go_wp2_with fail
     refine (ZlU 3 _ hck (by omega)).mono ?_
     rintro e w3 ⟨⟨g,rfl,hg⟩,hgr⟩
     go_wp2
     exact⟨rfl,⟨_,rfl,by simpa using hg⟩,ZdT hgr5 hgr⟩
end

section
open Go.RowKit Go.Proofs.YtcniomgjikienaaGreatDoor.Tx
attribute [local go_sem] ByteArray.extract_mk Zhc
def uheadP (k p:Nat) (ls:List (List UInt8)):Except (Nat × Int) ((Int × Int × Int × Int) × List (List UInt8)) :=
 match nxt p ls with
 | .error e=>.error e
 | .ok (s,r)=>match uhdP s with
  | none=>.error (p+1,3)
  | some (A,AN,B,BN)=>if 4096≤k then .error (p+1,9) else if A=0∧0<AN∨B=0∧0<BN then .error (p+1,2) else .ok ((A,AN,B,BN),r)
theorem Zlg (k p:Nat) (ls:List (List UInt8)):uhkP k p ls=match uheadP k p ls with
  | .error e=>.error e
  | .ok ((A,AN,B,BN),r)=>match urdP (AN.toNat+BN.toNat) AN.toNat BN.toNat (p+1) r with
   | .error e=>.error e
   | .ok (l,p1,r1)=>if smB l=true then .error (p+1,50) else .ok (⟨A,AN,B,BN,l⟩,p1,r1):=by
 unfold uhkP uheadP
 cases nxt p ls with
 | error e=>rfl
 | ok z =>
  obtain⟨s,r⟩:=z
  dsimp only
  cases uhdP s with
  | none=>rfl
  | some z =>
   obtain⟨A,AN,B,BN⟩:=z
   dsimp only
   split
   ·rfl
   ·split
    ·rfl
    ·rfl
def HdX (R:Nat) (vL:Value) (p:Nat) (X:Except (Nat × Int) ((Int × Int × Int × Int) × List (List UInt8))) (w:World) (e:Ending) (w':World):Prop :=
 match X with
 | .error (z,k)=>Thr (z:Int) k e w'∧w.grownBy w' (some R)
 | .ok ((A,AN,B,BN),_)=>e=.returned (hk0 A AN B BN)∧Uk w' R vL ((p+1:Nat):Int)∧w.grownBy w' (some R)
theorem Zdp {u:World} {R b:Nat} {vL:Value} {p:Int} (q:Uk u R vL p) (hb:R≠b) (A AN B BN:Int) (z:Value):Uk (five u b A AN B BN z) R vL p :=
 (Below.heap_setCell _ _ _ _ (show R≠b from hb)).trans ((Below.heap_setCell _ _ _ _ (show R≠b from hb)).trans ((Below.heap_setCell _ _ _ _ (show R≠b from hb)).trans ((Below.heap_setCell _ _ _ _ (show R≠b from hb)).trans ((Below.heap_setCell _ _ _ _ (show R≠b from hb)).trans q))))
theorem Zdl {w u:World} {R b:Nat} (h:w.grownBy u (some R)) (hb:w.heap.size≤b) (A AN B BN:Int) (z:Value):w.grownBy (five u b A AN B BN z) (some R):=ZdR (ZdR (ZdR (ZdR (ZdR h hb 0 _) hb 1 _) hb 2 _) hb 3 _) hb 4 _
theorem Zdm {u:World} {b:Nat} {h:Hk} {v:Value} (p:Hx u b h v) (A AN B BN:Int) (z:Value):(five u b A AN B BN z).heap[b]?=some (.cells #[.int .i64 A,.int .i64 AN,.int .i64 B,.int .i64 BN,z] 45 (0,0)):=p.put5 _ _ _ _ _
theorem Zlf {R:Nat} {L:List (List UInt8)} {lo:Option Addr} {lc:Nat} {p k:Nat} (hk:k≤4096) (w:World) (q:Uk w R (.slice lo L.length lc) p) (HLs:Hid (∀ u,w.grownBy u (some R)→HS u (.slice lo L.length lc) L)) (hp:p≤L.length) (hLl:L.length≤2199023255552) (HSl:Hid (∀ s∈L,s.length≤1099511627)) (hm:Mxl w)
  (X:Except (Nat × Int) ((Int × Int × Int × Int) × List (List UInt8))) (HX:Hid (uheadP k p (L.drop p)=X)) :
  Calls Tryz.prog 243 #[.pointer (some ⟨R,0,none⟩),.int .i64 (k:Int)] w fun e w'=>HdX R (.slice lo L.length lc) p X w e w':=by
 have hRl:=q.lt
 obtain⟨W0,hW0⟩:∃ u,w.alloc (hkO zhk (.slice none 0 0))=u:=⟨_,rfl⟩
 have hB0:Below w.heap.size w W0:=(by rw[← hW0];exact (Below.refl _ w).alloc (Nat.le_refl _) _)
 have hx0:Hx W0 w.heap.size zhk (.slice none 0 0):=(by rw[← hW0];exact Hx.new w _ _)
 have q0:=q.low hB0
 have hm0:=hm.low hB0
 obtain⟨Y,hY⟩:∃ Y,nxt p (L.drop p)=Y:=⟨_,rfl⟩
 have hl:=ZlV W0 q0 (HLs.out W0 (ZfO hB0 _)) hp hLl (fun s h=>by have:=HSl.out s h;omega) Y hY
 have hX:=HX.out
 unfold uheadP at hX
 rw[hY] at hX
 clear HX hm
 unfold hkO zhk at hW0
 dsimp only at hW0
 cases Y with
 | error z =>
  obtain⟨z1,e1⟩:=z
  dsimp only at hX
  subst hX
  go_enter Tryz.func243,Tryz.ntmps243
  go_wp2_with fail
  refine hl.mono ?_
  rintro x w1 ⟨⟨g,rfl,hg⟩,hgr⟩
  go_wp2
  exact⟨rfl,⟨_,rfl,hg⟩,ZdT (ZfO hB0 _) hgr⟩
 | ok z =>
  obtain⟨s,r⟩:=z
  dsimp only at hX
  have hl2:Calls Tryz.prog 240 #[.pointer (some ⟨R,0,none⟩)] W0 fun x w'=>x=.returned (.string ⟨(s++[10]).toArray⟩)∧∃ n,w'=W0.drewN n:=hl
  have hsl:s.length≤1099511627:=(by
   obtain⟨_,hpl,_,hLp⟩:=Zhr hY
   have hsl:=HSl.out L[p] (List.getElem_mem hpl)
   rw[hLp,List.length_append] at hsl
   omega)
  obtain⟨sf,hsf⟩:∃ t,s++[10]=t:=⟨_,rfl⟩
  have hsfl:sf.length≤1099511628:=(by rw[← hsf,List.length_append];simp only[List.length_cons,List.length_nil];omega)
  have hts:Lib.trimSuffix sf [10]=s:=(by rw[← hsf];exact ZkV s)
  rw[hsf] at hl2
  have HTr:Hid (∀ u,Calls Tryz.prog 239 #[.string ⟨sf.toArray⟩,.string ⟨#[10]⟩] u fun e w'=>e=.returned (.string ⟨s.toArray⟩)∧w'=u):=(by
   intro u
   refine (Tryz.strings_TrimSuffix ⟨sf.toArray⟩ ⟨#[10]⟩ u (by show sf.length≤_;omega)).mono ?_
   rintro e w' ⟨rfl,rfl⟩
   have e1:Lib.trimSuffix (⟨sf.toArray⟩:ByteArray).data.toList (⟨#[10]⟩:ByteArray).data.toList=s:=hts
   rw[e1]
   exact⟨rfl,rfl⟩)
  have HBg:Hid (∀ u,Mxl u→Calls Tryz.prog 294 #[.string ⟨s.toArray⟩] u fun e w'=>BgQ u s e w'):=fun u hu=>Zlb s u hsl hu
  clear hl hsf hsfl hts
  go_enter Tryz.func243,Tryz.ntmps243
  go_wp2_with fail
  refine hl2.mono ?_
  rintro e W1 ⟨rfl,n1,rfl⟩
  have hB1:Below w.heap.size w (W0.drewN n1):=Below.dN hB0 n1
  have hx1:=hx0.row n1
  have q1:=q0.dN n1
  have hm1:=hm0.low (Below.dN (Below.refl _ W0) n1)
  generalize W0.drewN n1=W1 at hB1 hx1 q1 hm1 ⊢
  clear hW0 hB0 hx0 q0 hm0 hl2
  go_wp2_with fail
  refine (HTr.out _).mono ?_
  rintro e W1' ⟨rfl,rfl⟩
  go_wp2_with fail
  refine (HBg.out _ hm1).mono ?_
  rintro e W2 ⟨A,AN,B,BN,ok,rfl,hU,hB2⟩
  rw[hU] at hX
  have hB2w:=hB1.trans (hB2.mono hB1.size)
  have hx2:=hx1.low hB2
  have q2:=q1.low hB2
  clear hx1 q1 hB1 hB2 hm1 HTr HBg hU
  have hB3:Below W2.heap.size W2 (W2.alloc (hkO ⟨A,AN,B,BN,[]⟩ (.slice none 0 0))):=(Below.refl _ W2).alloc (Nat.le_refl _) _
  have hB3w:=hB2w.trans (hB3.mono hB2w.size)
  have hx3:=hx2.low hB3
  have q3:=q2.low hB3
  have hh3:=Hx.new W2 ⟨A,AN,B,BN,[]⟩ (.slice none 0 0)
  unfold hkO at hB3 hB3w hx3 q3 hh3
  dsimp only at hB3 hB3w hx3 q3 hh3
  have e0:hk0 A AN B BN=.agg #[.int .i64 A,.int .i64 AN,.int .i64 B,.int .i64 BN,.slice none 0 0]:=rfl
  rw[e0]
  clear e0
  go_upto_region 2 with fail
  have HT:Hid (w.heap.size<W2.heap.size):=hx2.lt
  generalize W2.alloc (.cells #[.int .i64 A,.int .i64 AN,.int .i64 B,.int .i64 BN,.slice none 0 0] 45)=W3 at hB3 hB3w hx3 q3 hh3 ⊢
  generalize W2.heap.size=T at hB3 hh3 HT ⊢
  clear hB3 hB2w hx2 q2
  cases ok with
  | false =>
   rw[if_neg (by decide)] at hX
   dsimp only at hX
   subst hX
   go_wp2_with fail
   refine (ZlU 3 _ q3 (by omega)).mono ?_
   rintro e w3 ⟨⟨g,rfl,hg⟩,hgr⟩
   go_wp2
   exact⟨rfl,⟨_,rfl,by simpa using hg⟩,ZdT (ZfO hB3w _) hgr⟩
  | true =>
   rw[if_pos rfl] at hX
   dsimp only at hX
   by_cases hk4:4096≤k
   ·rw[if_pos hk4] at hX
    subst hX
    have e1:((k:Int) == 4096)=true:=beq_iff_eq.2 (by omega)
    go_wp2_with fail
    refine (ZlU 9 _ q3 (by omega)).mono ?_
    rintro e w3 ⟨⟨g,rfl,hg⟩,hgr⟩
    go_wp2
    exact⟨rfl,⟨_,rfl,by simpa using hg⟩,ZdT (ZfO hB3w _) hgr⟩
   ·rw[if_neg hk4] at hX
    have e1:((k:Int) == 4096)=false:=beq_eq_false_iff_ne.2 (by omega)
    obtain⟨z0,z1,z2,z3,z4⟩:=hh3.cells
    dsimp only at z0 z1 z2 z3
    go_upto_region 6 with fail
    obtain⟨rg,hrg⟩:∃ b,((A == 0 && decide (0<AN)) || (B == 0 && decide (0<BN)))=b:=⟨_,rfl⟩
    have HRG:Hid (((A == 0 && decide (0<AN)) || (B == 0 && decide (0<BN)))=rg):=hrg
    have HX4:Hid ((if rg=true then Except.error (p+1,2) else Except.ok ((A,AN,B,BN),r))=X):=(by
     show _=_
     rw[← hX,← hrg]
     simp)
    clear hX hrg
    go_cut [39] (fun bv wz=>bv=.bool rg∧wz=W3)
    case first =>
     have HR2:=HRG.out
     clear HRG HX4
     cases a1:A == 0 with
     | false =>
      rw[a1,Bool.false_and,Bool.false_or] at HR2
      cases b1:B == 0 with
      | false =>
       rw[b1,Bool.false_and] at HR2
       subst HR2
       go_wp2
       go_meet
       case rel=>exact⟨rfl,rfl⟩
      | true =>
       rw[b1,Bool.true_and] at HR2
       have HE:Hid (decide (0<BN)=rg):=HR2
       clear HR2
       go_wp2
       go_meet
       case rel=>exact⟨by rw[← HE.out],rfl⟩
     | true =>
      rw[a1,Bool.true_and] at HR2
      cases a2:decide (0<AN) with
      | true =>
       rw[a2,Bool.true_or] at HR2
       subst HR2
       go_wp2
       go_meet
       case rel=>exact⟨rfl,rfl⟩
      | false =>
       rw[a2,Bool.false_or] at HR2
       cases b1:B == 0 with
       | false =>
        rw[b1,Bool.false_and] at HR2
        subst HR2
        go_wp2
        go_meet
        case rel=>exact⟨rfl,rfl⟩
       | true =>
        rw[b1,Bool.true_and] at HR2
        have HE:Hid (decide (0<BN)=rg):=HR2
        clear HR2
        go_wp2
        go_meet
        case rel=>exact⟨by rw[← HE.out],rfl⟩
    case rest =>
    obtain⟨rfl,hwc⟩:=hcut
    subst hwc
    clear HRG
    cases rg with
    | true =>
     have hX5:=HX4.out
     rw[if_pos rfl] at hX5
     subst hX5
     clear HX4
     go_wp2_with fail
     refine (ZlU 2 _ q3 (by omega)).mono ?_
     rintro e w3 ⟨⟨g,rfl,hg⟩,hgr⟩
     go_wp2
     exact⟨rfl,⟨_,rfl,by simpa using hg⟩,ZdT (ZfO hB3w _) hgr⟩
    | false =>
     have hX5:=HX4.out
     rw[if_neg (by decide)] at hX5
     subst hX5
     clear HX4
     obtain⟨r0,r1⟩:=q3.cells
     have rf1:=q3.frozen 1
     have hne:=HT.out
     go_upto_region 9 with fail
     have q5:Uk (wc.setCell ⟨R,1,none⟩ (.int .i64 ((p:Int)+1))) R (.slice lo L.length lc) (((p+1:Nat)):Int):=(by have:=q3.at ((p:Int)+1);simpa using this)
     have g5:=ZdT (ZfO hB3w (some R)) (ZdS wc R 1 (.int .i64 ((p:Int)+1)))
     have hx5:=hx3.keep (ZdS wc R 1 (.int .i64 ((p:Int)+1))) (fun e=>by have:=Option.some.inj e;omega)
     have hh5:=hh3.keep (ZdS wc R 1 (.int .i64 ((p:Int)+1))) (fun e=>by have:=Option.some.inj e;omega)
     clear z0 z1 z2 z3 z4 r0 r1 rf1 q3 hx3 hh3 hB3w
     generalize wc.setCell ⟨R,1,none⟩ (.int .i64 ((p:Int)+1))=W5 at q5 g5 hx5 hh5 ⊢
     obtain⟨z0,z1,z2,z3,z4⟩:=hh5.cells
     dsimp only at z0 z1 z2 z3
     obtain⟨y0,y1,y2,y3,y4⟩:=hx5.cells
     dsimp only[zhk] at y0 y1 y2 y3
     have yf0:=hx5.frozen 0
     have yf1:=hx5.frozen 1
     have yf2:=hx5.frozen 2
     have yf3:=hx5.frozen 3
     have yf4:=hx5.frozen 4
     have fh:=Zdm hx5 A AN B BN (.slice none 0 0)
     have fq:=Zdp q5 (by omega:R≠w.heap.size) A AN B BN (.slice none 0 0)
     have fg:=Zdl g5 (Nat.le_refl _) A AN B BN (.slice none 0 0)
     unfold five at fh fq fg
     clear q5 g5 hx5 hh5 hne
     go_wp2
     exact bodyPost_ret (v:=hk0 A AN B BN) (results_cell_row rfl _ _ w.heap.size 45 #[.int .i64 A,.int .i64 AN,.int .i64 B,.int .i64 BN,.slice none 0 0] (0,0) _ rfl fh Tryz.underlying45 rfl (by kernel_rfl)) rfl ⟨rfl,fq,fg⟩
end

section
open Go.RowKit Go.Proofs.YtcniomgjikienaaGreatDoor.Tx
attribute [local go_sem] ByteArray.extract_mk Zhc
def RhQ (w:World) (s:List UInt8) (e:Ending) (w':World):Prop:=∃ A AN B BN r,e=.returned (.tuple #[hk0 A AN B BN,.bool r])∧uhdP s=(if r=true then some (A,AN,B,BN) else none)∧(0≤A∧A≤2147483647∧0≤AN∧AN≤2147483647)∧(0≤B∧B≤2147483647∧0≤BN∧BN≤2147483647)∧Below w.heap.size w w'
theorem ZrN {s:List UInt8} (h:s.length<4):uhdP s=none:=by
 unfold uhdP
 rw[if_neg]
 intro hp
 have:=(List.isPrefixOf_iff_prefix.1 hp).length_le
 simp only[List.length_cons,List.length_nil] at this
 omega
theorem ZrM {s:List UInt8} (h:(s.take 4 == [64,64,32,45])=false):uhdP s=none:=by
 unfold uhdP
 rw[if_neg]
 intro hp
 have:=List.prefix_iff_eq_take.1 (List.isPrefixOf_iff_prefix.1 hp)
 rw[beq_eq_false_iff_ne] at h
 exact h this.symm
theorem ZrO {s:List UInt8} (h:(s.take 4 == [64,64,32,45])=true):([64,64,32,45]:List UInt8).isPrefixOf s=true:=by
 rw[List.isPrefixOf_iff_prefix,List.prefix_iff_eq_take]
 exact (beq_iff_eq.1 h).symm
structure Hd2 (w:World) (A AN B BN:Int) (u:World):Prop where
 low:Below w.heap.size w u
 b0:Hx u w.heap.size ⟨0,0,0,0,[]⟩ (.slice none 0 0)
 b1:Hx u (w.heap.size+1) ⟨A,AN,B,BN,[]⟩ (.slice none 0 0)
section
variable {w u u':World} {A AN B BN:Int}
theorem Hd2.keep (h:Hd2 w A AN B BN u) (hb:Below u.heap.size u u'):Hd2 w A AN B BN u':=⟨h.low.trans (hb.mono h.low.size),h.b0.low hb,h.b1.low hb⟩
theorem Hd2.setA (h:Hd2 w A AN B BN u) (z y:Int):Hd2 w z y B BN ((u.setCell ⟨w.heap.size+1,0,none⟩ (.int .i64 z)).setCell ⟨w.heap.size+1,1,none⟩ (.int .i64 y)):=⟨(h.low.setCell (p:=⟨w.heap.size+1,0,none⟩) (by show w.heap.size≤w.heap.size+1;omega) _).setCell (p:=⟨w.heap.size+1,1,none⟩) (by show w.heap.size≤w.heap.size+1;omega) _,(Below.heap_setCell _ _ _ _ (show w.heap.size≠w.heap.size+1 by omega)).trans ((Below.heap_setCell _ _ _ _ (show w.heap.size≠w.heap.size+1 by omega)).trans h.b0),heap_setCell_same _ _ 1 _ _ _ (heap_setCell_same _ _ 0 _ _ _ h.b1)⟩
theorem Hd2.setB (h:Hd2 w A AN B BN u) (z y:Int):Hd2 w A AN z y ((u.setCell ⟨w.heap.size+1,2,none⟩ (.int .i64 z)).setCell ⟨w.heap.size+1,3,none⟩ (.int .i64 y)):=⟨(h.low.setCell (p:=⟨w.heap.size+1,2,none⟩) (by show w.heap.size≤w.heap.size+1;omega) _).setCell (p:=⟨w.heap.size+1,3,none⟩) (by show w.heap.size≤w.heap.size+1;omega) _,(Below.heap_setCell _ _ _ _ (show w.heap.size≠w.heap.size+1 by omega)).trans ((Below.heap_setCell _ _ _ _ (show w.heap.size≠w.heap.size+1 by omega)).trans h.b0),heap_setCell_same _ _ 3 _ _ _ (heap_setCell_same _ _ 2 _ _ _ h.b1)⟩
theorem Hd2.fin (h:Hd2 w A AN B BN u):(five u w.heap.size A AN B BN (.slice none 0 0)).heap[w.heap.size]?=some (.cells #[.int .i64 A,.int .i64 AN,.int .i64 B,.int .i64 BN,.slice none 0 0] 45 (0,0))∧Below w.heap.size w (five u w.heap.size A AN B BN (.slice none 0 0)):=⟨h.b0.put5 _ _ _ _ _,ZiK h.low (Nat.le_refl _) _ _ _ _ _⟩
theorem Hd2.new (w:World):Hd2 w 0 0 0 0 ((w.alloc (hkO ⟨0,0,0,0,[]⟩ (.slice none 0 0))).alloc (hkO ⟨0,0,0,0,[]⟩ (.slice none 0 0))):=by
 have hz:(w.alloc (hkO ⟨0,0,0,0,[]⟩ (.slice none 0 0))).heap.size=w.heap.size+1:=by simp
 refine⟨((Below.refl _ w).alloc (Nat.le_refl _) _).alloc (by rw[hz];omega) _,(Below.heap_alloc _ _ _ (by rw[hz];omega)).trans (Hx.new w _ _),?_⟩
 have:=Hx.new (w.alloc (hkO ⟨0,0,0,0,[]⟩ (.slice none 0 0))) ⟨0,0,0,0,[]⟩ (.slice none 0 0)
 rw[hz] at this
 exact this
end
theorem ZqJ (s:List UInt8) (w:World) (hl:s.length≤1099511627776) :
  Calls Tryz.prog 102 #[.string ⟨s.toArray⟩] w fun e w'=>RhQ w s e w':=by
 have hD0:=Hd2.new w
 unfold hkO at hD0
 dsimp only at hD0
 by_cases h4:s.length<4
 ·have HU:Hid (uhdP s=none):=ZrN h4
  have i1:(s.length:Int)<4:=by omega
  go_enter Tryz.func102,Tryz.ntmps102
  go_wp2
  exact bodyPost_ret (results_cell_tmp rfl _ _ w.heap.size 45 #[.int .i64 0,.int .i64 0,.int .i64 0,.int .i64 0,.slice none 0 0] (0,0) _ rfl hD0.b0 Tryz.underlying45 rfl (by kernel_rfl)) rfl ⟨0,0,0,0,false,rfl,HU.out,by decide,by decide,hD0.low⟩
 ·have i1:¬ (s.length:Int)<4:=by omega
  have i1b:(4:Int)≤(s.length:Int):=by omega
  cases hp:(s.take 4 == [64,64,32,45]) with
  | false =>
   have HU:Hid (uhdP s=none):=ZrM hp
   have hp2:(s.take 4 != [64,64,32,45])=true:=(by unfold bne;rw[hp];rfl)
   clear h4
   go_enter Tryz.func102,Tryz.ntmps102
   go_wp2
   exact bodyPost_ret (results_cell_tmp rfl _ _ w.heap.size 45 #[.int .i64 0,.int .i64 0,.int .i64 0,.int .i64 0,.slice none 0 0] (0,0) _ rfl hD0.b0 Tryz.underlying45 rfl (by kernel_rfl)) rfl ⟨0,0,0,0,false,rfl,HU.out,by decide,by decide,hD0.low⟩
  | true =>
   have hp2:(s.take 4 != [64,64,32,45])=false:=(by unfold bne;rw[hp];rfl)
   have hpre:=ZrO hp
   obtain⟨s1,hs1⟩:∃ t,s.drop 4=t:=⟨_,rfl⟩
   have hl1:s1.length≤1099511627776:=(by rw[← hs1,List.length_drop];omega)
   have HD:Hid (List.take (s.length-4) (s.drop 4)=s1):=(by show _=_;rw[hs1];exact List.take_of_length_le (by rw[← hs1,List.length_drop];omega))
   obtain⟨o,ho⟩:∃ t,ctA [32,43] s1=t:=⟨_,rfl⟩
   obtain⟨s2,hs2⟩:∃ t,ctB [32,43] s1=t:=⟨_,rfl⟩
   obtain⟨k1,hk1⟩:∃ t,ctK [32,43] s1=t:=⟨_,rfl⟩
   obtain⟨f,hf⟩:∃ t,ctA [32,64,64] s2=t:=⟨_,rfl⟩
   obtain⟨t,ht⟩:∃ t,ctB [32,64,64] s2=t:=⟨_,rfl⟩
   obtain⟨k2,hk2⟩:∃ t,ctK [32,64,64] s2=t:=⟨_,rfl⟩
   have c1:=Zct [32,43] s1
   have c2:=Zct [32,64,64] s2
   rw[ho,hs2] at c1
   rw[hf,ht] at c2
   have hC1:∀ u,Calls Tryz.prog 147 #[.string ⟨s1.toArray⟩,.string ⟨#[32,43]⟩] u fun e w'=>e=.returned (.tuple #[.string ⟨o.toArray⟩,.string ⟨s2.toArray⟩,.bool k1])∧Below u.heap.size u w':=(by
    intro u
    have h:=Zqo s1 [32,43] (by simp) (by decide) hl1 u
    rw[ho,hs2,hk1] at h
    exact h)
   have hC2:∀ u,Calls Tryz.prog 147 #[.string ⟨s2.toArray⟩,.string ⟨#[32,64,64]⟩] u fun e w'=>e=.returned (.tuple #[.string ⟨f.toArray⟩,.string ⟨t.toArray⟩,.bool k2])∧Below u.heap.size u w':=(by
    intro u
    have h:=Zqo s2 [32,64,64] (by simp) (by decide) (by omega) u
    rw[hf,ht,hk2] at h
    exact h)
   have hN1:=fun u=>Zqn o (by omega) u
   have hN2:=fun u=>Zqn f (by omega) u
   have HW:Hid (∀ (a an b bn:Int) (ra rb:Bool),cntP o=(if ra=true then some (a,an) else none)→cntP f=(if rb=true then some (b,bn) else none)→uhdP s=if (true && (k1 && (k2 && (ra && (rb && tlB t)))))=true then some (a,an,b,bn) else none):=(by
    intro a an b bn ra rb ca cb
    have h:=Zld hpre (s1:=s1) (fun _=>hs1.symm) ho hs2 hf ht ca cb
    rw[hk1,hk2] at h
    exact h)
   have HN0:Hid ((k1 && (k2 && tlB t))=false→uhdP s=none):=(by
    intro hq
    obtain⟨a,an,ra,ca⟩:∃ a an ra,cntP o=if ra=true then some (a,an) else none:=(by
     cases cntP o with
     | none=>exact⟨0,0,false,rfl⟩
     | some p=>exact⟨p.1,p.2,true,rfl⟩)
    obtain⟨b,bn,rb,cb⟩:∃ a an ra,cntP f=if ra=true then some (a,an) else none:=(by
     cases cntP f with
     | none=>exact⟨0,0,false,rfl⟩
     | some p=>exact⟨p.1,p.2,true,rfl⟩)
    rw[HW.out a an b bn ra rb ca cb]
    cases k1<;>cases k2<;>cases htl:tlB t<;>simp[htl] at hq ⊢)
   clear ho hs2 hk1 hf ht hk2 c1 c2 hl1 hpre hs1 h4
   go_enter Tryz.func102,Tryz.ntmps102
   go_upto_region 4 with fail
   generalize (w.alloc (.cells #[.int .i64 0,.int .i64 0,.int .i64 0,.int .i64 0,.slice none 0 0] 45)).alloc (.cells #[.int .i64 0,.int .i64 0,.int .i64 0,.int .i64 0,.slice none 0 0] 45)=W0 at hD0 ⊢
   go_wp2_with fail
   rw[HD.out]
   refine (hC1 _).mono ?_
   rintro e W1 ⟨rfl,hB1⟩
   have hD1:=hD0.keep hB1
   clear hD0 hB1
   go_wp2_with fail
   refine (hC2 _).mono ?_
   rintro e W2 ⟨rfl,hB2⟩
   have hD2:=hD1.keep hB2
   clear hD1 hB2
   go_upto_region 6 with fail
   obtain⟨r,hr⟩:∃ r,(!(k1 && (k2 && tlB t)))=r:=⟨_,rfl⟩
   have HR:Hid ((!(k1 && (k2 && tlB t)))=r):=hr
   clear hr
   go_cut [49] (fun rv wz=>rv=.bool r∧wz=W2)
   case first =>
    cases k1 with
    | false =>
     have HE:Hid (true=r):=HR
     clear HR HW HN0
     go_wp2
     go_meet
     case rel=>exact⟨by rw[← HE.out],rfl⟩
    | true =>
    cases k2 with
    | false =>
     have HE:Hid (true=r):=HR
     clear HR HW HN0
     go_wp2
     go_meet
     case rel=>exact⟨by rw[← HE.out],rfl⟩
    | true =>
    cases t with
    | nil =>
     have HE:Hid (false=r):=HR
     clear HR HW HN0
     go_wp2
     go_meet
     case rel=>exact⟨by rw[← HE.out],rfl⟩
    | cons c t =>
     have HE:Hid (((c.toNat:Int) != 32)=r):=(by
      show _=_
      rw[← HR.out]
      unfold bne
      rw[← ZkS c t]
      rfl)
     have j1:(0:Int)<(t.length:Int)+1:=by omega
     clear HR HW HN0
     go_wp2
     go_meet
     case rel=>exact⟨by rw[← HE.out],rfl⟩
   case rest =>
   obtain⟨rfl,hwc⟩:=hcut
   subst hwc
   cases r with
   | true =>
    have HU:Hid (uhdP s=none):=HN0.out (by have h:=HR.out;revert h;cases k1<;>cases k2<;>cases tlB t<;>decide)
    clear HR HW HN0
    obtain⟨z0,z1,z2,z3,z4⟩:=hD2.b1.cells
    dsimp only at z0 z1 z2 z3
    obtain⟨y0,y1,y2,y3,y4⟩:=hD2.b0.cells
    dsimp only at y0 y1 y2 y3
    have yf0:=hD2.b0.frozen 0
    have yf1:=hD2.b0.frozen 1
    have yf2:=hD2.b0.frozen 2
    have yf3:=hD2.b0.frozen 3
    have yf4:=hD2.b0.frozen 4
    obtain⟨fh,fb⟩:=hD2.fin
    unfold five at fh fb
    clear hD2
    go_wp2
    exact bodyPost_ret (results_cell_tmp rfl _ _ w.heap.size 45 #[.int .i64 0,.int .i64 0,.int .i64 0,.int .i64 0,.slice none 0 0] (0,0) _ rfl fh Tryz.underlying45 rfl (by kernel_rfl)) rfl ⟨0,0,0,0,false,rfl,HU.out,by decide,by decide,fb⟩
   | false =>
    have HT:Hid (k1=true∧k2=true∧tlB t=true):=(by show _∧_∧_;have h:=HR.out;simpa using h)
    clear HR HN0
    go_wp2_with fail
    refine (hN1 _).mono ?_
    rintro e W3 ⟨⟨a,an,ra,rfl,ca,ba⟩,hB3⟩
    have hD3:=hD2.keep hB3
    have hD4:=hD3.setA a an
    obtain⟨z0,z1,z2,z3,z4⟩:=hD3.b1.cells
    dsimp only at z0 z1 z2 z3
    have zf0:=hD3.b1.frozen 0
    have zf1:=hD3.b1.frozen 1
    clear hD2 hB3
    go_upto_region 10 with fail
    clear z0 z1 z2 z3 z4 zf0 zf1 hD3
    generalize (W3.setCell ⟨w.heap.size+1,0,none⟩ (.int .i64 a)).setCell ⟨w.heap.size+1,1,none⟩ (.int .i64 an)=W4 at hD4 ⊢
    go_wp2_with fail
    refine (hN2 _).mono ?_
    rintro e W5 ⟨⟨b,bn,rb,rfl,cb,bb⟩,hB5⟩
    have hD5:=hD4.keep hB5
    have hD6:=hD5.setB b bn
    obtain⟨z0,z1,z2,z3,z4⟩:=hD5.b1.cells
    dsimp only at z0 z1 z2 z3
    have zf2:=hD5.b1.frozen 2
    have zf3:=hD5.b1.frozen 3
    have HU:Hid (uhdP s=if (ra && rb)=true then some (a,an,b,bn) else none):=(by
     show _=_
     rw[HW.out a an b bn ra rb ca cb,HT.out.1,HT.out.2.1,HT.out.2.2]
     simp)
    clear hD4 hB5 HW HT ca cb hN1 hN2 hC1 hC2
    go_upto_region 11 with fail
    clear z0 z1 z2 z3 z4 zf2 zf3 hD5
    generalize (W5.setCell ⟨w.heap.size+1,2,none⟩ (.int .i64 b)).setCell ⟨w.heap.size+1,3,none⟩ (.int .i64 bn)=W6 at hD6 ⊢
    obtain⟨z0,z1,z2,z3,z4⟩:=hD6.b1.cells
    dsimp only at z0 z1 z2 z3
    obtain⟨y0,y1,y2,y3,y4⟩:=hD6.b0.cells
    dsimp only at y0 y1 y2 y3
    have yf0:=hD6.b0.frozen 0
    have yf1:=hD6.b0.frozen 1
    have yf2:=hD6.b0.frozen 2
    have yf3:=hD6.b0.frozen 3
    have yf4:=hD6.b0.frozen 4
    obtain⟨fh,fb⟩:=hD6.fin
    unfold five at fh fb
    clear hD6
    cases ra with
    | false =>
     go_wp2
     exact bodyPost_ret (results_cell_tmp rfl _ _ w.heap.size 45 #[.int .i64 a,.int .i64 an,.int .i64 b,.int .i64 bn,.slice none 0 0] (0,0) _ rfl fh Tryz.underlying45 rfl (by kernel_rfl)) rfl ⟨a,an,b,bn,false,rfl,HU.out,ba,bb,fb⟩
    | true =>
     have HU2:Hid (uhdP s=if rb=true then some (a,an,b,bn) else none):=HU
     clear HU
     go_wp2
     exact bodyPost_ret (results_cell_tmp rfl _ _ w.heap.size 45 #[.int .i64 a,.int .i64 an,.int .i64 b,.int .i64 bn,.slice none 0 0] (0,0) _ rfl fh Tryz.underlying45 rfl (by kernel_rfl)) rfl ⟨a,an,b,bn,rb,rfl,HU2.out,ba,bb,fb⟩
end

end Go.Proofs.YtcniomgjikienaaGreatDoor
