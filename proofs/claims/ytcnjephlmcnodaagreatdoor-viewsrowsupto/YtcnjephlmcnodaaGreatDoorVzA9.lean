/-
  Texts that belong together, joined: HiOd, HiBm, HiBs, HiFd, HiRt, HiRr, HiRb, HiPi, HiDf, SpCd, SpFd, SpGr, SpRg, SpDf, HuRow, HuRf1, HuRf2, HuRf3, HuRf4, HuRf5, HuRf6, HuRf7, HuOwn, HuIv, HuCn.
-/
import Derived.Test.YtcnjephlmcnodaaGreatDoorVzA8
import Derived.Deep.CutRange
import Derived.WalkMore
import Derived.Laws.EntriesVeiled
import Derived.Deep.DeepCutAuto

set_option maxHeartbeats 16000000
set_option maxRecDepth 100000
namespace Go.Proofs.YtcnjephlmcnodaaGreatDoor

section
open Go.RowKit
def hrV (r:Hr):Value:=.agg #[.int .i64 (r.X:Int),.int .i64 (r.Y:Int),.int .i64 (r.N:Int),.int .i64 (r.R:Int)]
def Hbx (u:World) (B:Nat) (r:Hr):Prop:=u.heap[B]?=some (.cells #[.int .i64 (r.X:Int),.int .i64 (r.Y:Int),.int .i64 (r.N:Int),.int .i64 (r.R:Int)] 161 (0,0))
section
variable {u u':World} {B:Nat} {r:Hr}
theorem Hbx.cells (h:Hbx u B r):u.cell? ⟨B,0,none⟩=some (.int .i64 (r.X:Int))∧u.cell? ⟨B,1,none⟩=some (.int .i64 (r.Y:Int))∧u.cell? ⟨B,2,none⟩=some (.int .i64 (r.N:Int))∧u.cell? ⟨B,3,none⟩=some (.int .i64 (r.R:Int)):=by
 refine⟨?_,?_,?_,?_⟩<;>rw[Lib.cell_of_heap h]<;>rfl
theorem Hbx.frozen (h:Hbx u B r) (j:Nat):u.frozen? ⟨B,j,none⟩=false:=by
 unfold World.frozen?
 rw[h]
 rfl
theorem Hbx.lt (h:Hbx u B r):B<u.heap.size:=(Array.getElem?_eq_some_iff.1 h).1
theorem Hbx.keep (h:Hbx u B r) {g:Option Nat} (hg:u.grownBy u' g) (hr:some B≠g):Hbx u' B r:=(hg.block B h.lt hr).trans h
theorem Hbx.low (h:Hbx u B r) (hg:Below u.heap.size u u'):Hbx u' B r:=(hg.block B h.lt).trans h
theorem Hbx.new (w:World) (r:Hr):Hbx (w.alloc (.cells #[.int .i64 (r.X:Int),.int .i64 (r.Y:Int),.int .i64 (r.N:Int),.int .i64 (r.R:Int)] 161)) w.heap.size r:=_root_.Go.heap_alloc_new w _
end
theorem ZcR {a b r:Int} {W u:World} (hr:Hid (cmpI a b=r)) (hL:Low W u):Calls Tryz.prog 138 (#[.int .i64 a,.int .i64 b]++#[]) u fun e w'=>∃ v,e=.returned v∧Low W w'∧v=.int .i64 r:=by
 refine (Zal a b r u hr).mono ?_
 rintro e w' ⟨rfl,rfl⟩
 exact⟨_,rfl,hL,rfl⟩
theorem Zia (l:List Int) {v:Value} {W u:World} (hl:HI u v l) (hll:l.length≤1048576) {r:Int} (hr:Hid (orL l=r)) (hL:Low W u):Calls Tryz.prog 137 (#[v]++#[]) u fun e w'=>∃ v,e=.returned v∧Low W w'∧v=.int .i64 r:=by
 refine (Or_f l v u hl hll r hr).mono ?_
 rintro e w' ⟨rfl,rfl⟩
 exact⟨_,rfl,hL,rfl⟩
theorem Zib (r b:Hr) (q:Bool) (w:World) (hq:Hid (btC r b=q)) :
  Calls Tryz.prog 127 #[hrV r,hrV b] w fun e w'=>e=.returned (.bool q)∧Below w.heap.size w w':=by
 unfold hrV
 obtain⟨z1,h1⟩:∃ z,cmpI r.N b.N=z:=⟨_,rfl⟩
 obtain⟨z2,h2⟩:∃ z,cmpI b.X r.X=z:=⟨_,rfl⟩
 obtain⟨z3,h3⟩:∃ z,cmpI b.Y r.Y=z:=⟨_,rfl⟩
 obtain⟨z4,h4⟩:∃ z,orL [z1,z2,z3]=z:=⟨_,rfl⟩
 have HQ:Hid (decide (0<z4)=q):=(by show _=_;rw[← hq.out,← ZhZ,h1,h2,h3,h4])
 have H1:Hid (cmpI r.N b.N=z1):=h1
 have H2:Hid (cmpI b.X r.X=z2):=h2
 have H3:Hid (cmpI b.Y r.Y=z3):=h3
 have H4:Hid (orL [z1,z2,z3]=z4):=h4
 clear h1 h2 h3 h4 hq
 have hb1:=(Hbx.new w r).low ((Below.refl _ _).alloc (Nat.le_refl _) (.cells #[.int .i64 (b.X:Int),.int .i64 (b.Y:Int),.int .i64 (b.N:Int),.int .i64 (b.R:Int)] 161))
 have hb2:Hbx ((w.alloc (.cells #[.int .i64 (r.X:Int),.int .i64 (r.Y:Int),.int .i64 (r.N:Int),.int .i64 (r.R:Int)] 161)).alloc (.cells #[.int .i64 (b.X:Int),.int .i64 (b.Y:Int),.int .i64 (b.N:Int),.int .i64 (b.R:Int)] 161)) (w.heap.size+1) b:=Zbq w _ _
 have hB:Below w.heap.size w ((w.alloc (.cells #[.int .i64 (r.X:Int),.int .i64 (r.Y:Int),.int .i64 (r.N:Int),.int .i64 (r.R:Int)] 161)).alloc (.cells #[.int .i64 (b.X:Int),.int .i64 (b.Y:Int),.int .i64 (b.N:Int),.int .i64 (b.R:Int)] 161)):=((Below.refl _ w).alloc (Nat.le_refl _) _).alloc (by simp) _
 obtain⟨W,hW⟩:∃ W,(w.alloc (.cells #[.int .i64 (r.X:Int),.int .i64 (r.Y:Int),.int .i64 (r.N:Int),.int .i64 (r.R:Int)] 161)).alloc (.cells #[.int .i64 (b.X:Int),.int .i64 (b.Y:Int),.int .i64 (b.N:Int),.int .i64 (b.R:Int)] 161)=W:=⟨_,rfl⟩
 rw[hW] at hb1 hb2 hB
 have hcs:∀ u:World,Low W u→(u.cell? ⟨w.heap.size,0,none⟩=some (.int .i64 (r.X:Int))∧u.cell? ⟨w.heap.size,1,none⟩=some (.int .i64 (r.Y:Int))∧u.cell? ⟨w.heap.size,2,none⟩=some (.int .i64 (r.N:Int)))∧u.cell? ⟨w.heap.size+1,0,none⟩=some (.int .i64 (b.X:Int))∧u.cell? ⟨w.heap.size+1,1,none⟩=some (.int .i64 (b.Y:Int))∧u.cell? ⟨w.heap.size+1,2,none⟩=some (.int .i64 (b.N:Int)):=fun u hu=>by
  obtain⟨t0,t1,t2,_⟩:=(hb1.low hu).cells
  obtain⟨t4,t5,t6,_⟩:=(hb2.low hu).cells
  exact⟨⟨t0,t1,t2⟩,t4,t5,t6⟩
 go_enter Tryz.func127,Tryz.ntmps127
 go_wp2_with fail
 clear hW
 refine wp_region_noPanic ?_
 refine wp_region_held_drew (S:=fun u=>Low W u) (by kernel_rfl) (Below.dN (Below.refl _ W) 1) (fun hHeld=>?_)
 refine Y_t 0 5 _ (.pointer (some ⟨w.heap.size,2,none⟩)) rfl (Or.inl ⟨by kernel_rfl,fun u hu=>by kernel_rfl⟩) hHeld ?_
 simp only[Act.put,Y_a,Y_b,Y_c]
 refine Y_t 1 6 _ (.int .i64 (r.N:Int)) rfl (Or.inl ⟨by kernel_rfl,fun u hu=>ZgQ (hcs u hu).1.2.2 (.tmp 5) (by kernel_rfl) (by kernel_rfl)⟩) hHeld ?_
 simp only[Act.put,Y_a,Y_b,Y_c]
 refine Y_t 2 7 _ (.pointer (some ⟨w.heap.size+1,2,none⟩)) rfl (Or.inl ⟨by kernel_rfl,fun u hu=>by kernel_rfl⟩) hHeld ?_
 simp only[Act.put,Y_a,Y_b,Y_c]
 refine Y_t 3 8 _ (.int .i64 (b.N:Int)) rfl (Or.inl ⟨by kernel_rfl,fun u hu=>ZgQ (hcs u hu).2.2.2 (.tmp 7) (by kernel_rfl) (by kernel_rfl)⟩) hHeld ?_
 simp only[Act.put,Y_a,Y_b,Y_c]
 refine Y_t 5 10 _ (.pointer (some ⟨w.heap.size+1,0,none⟩)) rfl (Or.inl ⟨by kernel_rfl,fun u hu=>by kernel_rfl⟩) hHeld ?_
 simp only[Act.put,Y_a,Y_b,Y_c]
 refine Y_t 6 11 _ (.int .i64 (b.X:Int)) rfl (Or.inl ⟨by kernel_rfl,fun u hu=>ZgQ (hcs u hu).2.1 (.tmp 10) (by kernel_rfl) (by kernel_rfl)⟩) hHeld ?_
 simp only[Act.put,Y_a,Y_b,Y_c]
 refine Y_t 7 12 _ (.pointer (some ⟨w.heap.size,0,none⟩)) rfl (Or.inl ⟨by kernel_rfl,fun u hu=>by kernel_rfl⟩) hHeld ?_
 simp only[Act.put,Y_a,Y_b,Y_c]
 refine Y_t 8 13 _ (.int .i64 (r.X:Int)) rfl (Or.inl ⟨by kernel_rfl,fun u hu=>ZgQ (hcs u hu).1.1 (.tmp 12) (by kernel_rfl) (by kernel_rfl)⟩) hHeld ?_
 simp only[Act.put,Y_a,Y_b,Y_c]
 refine Y_t 10 15 _ (.pointer (some ⟨w.heap.size+1,1,none⟩)) rfl (Or.inl ⟨by kernel_rfl,fun u hu=>by kernel_rfl⟩) hHeld ?_
 simp only[Act.put,Y_a,Y_b,Y_c]
 refine Y_t 11 16 _ (.int .i64 (b.Y:Int)) rfl (Or.inl ⟨by kernel_rfl,fun u hu=>ZgQ (hcs u hu).2.2.1 (.tmp 15) (by kernel_rfl) (by kernel_rfl)⟩) hHeld ?_
 simp only[Act.put,Y_a,Y_b,Y_c]
 refine Y_t 12 17 _ (.pointer (some ⟨w.heap.size,1,none⟩)) rfl (Or.inl ⟨by kernel_rfl,fun u hu=>by kernel_rfl⟩) hHeld ?_
 simp only[Act.put,Y_a,Y_b,Y_c]
 refine Y_t 13 18 _ (.int .i64 (r.Y:Int)) rfl (Or.inl ⟨by kernel_rfl,fun u hu=>ZgQ (hcs u hu).1.2.1 (.tmp 17) (by kernel_rfl) (by kernel_rfl)⟩) hHeld ?_
 simp only[Act.put,Y_a,Y_b,Y_c]
 refine Y_e 4 9 _ rfl 138 (.func 138) #[.tmp 6,.tmp 8] #[3,3] (by kernel_rfl) #[] (by kernel_rfl) #[.int .i64 (r.N:Int),.int .i64 (b.N:Int)] (by kernel_rfl) (enters_of Tryz.func138 (by kernel_rfl) rfl) _ (ZcR H1 hHeld) ?_
 rintro _ u4 hHeld rfl
 simp only[Act.put,Y_a,Y_b,Y_c]
 refine Y_e 9 14 _ rfl 138 (.func 138) #[.tmp 11,.tmp 13] #[3,3] (by kernel_rfl) #[] (by kernel_rfl) #[.int .i64 (b.X:Int),.int .i64 (r.X:Int)] (by kernel_rfl) (enters_of Tryz.func138 (by kernel_rfl) rfl) _ (ZcR H2 hHeld) ?_
 rintro _ u9 hHeld rfl
 simp only[Act.put,Y_a,Y_b,Y_c]
 refine Y_e 14 19 _ rfl 138 (.func 138) #[.tmp 16,.tmp 18] #[3,3] (by kernel_rfl) #[] (by kernel_rfl) #[.int .i64 (b.Y:Int),.int .i64 (r.Y:Int)] (by kernel_rfl) (enters_of Tryz.func138 (by kernel_rfl) rfl) _ (ZcR H3 hHeld) ?_
 rintro _ u14 hHeld rfl
 simp only[Act.put,Y_a,Y_b,Y_c]
 refine Y_v 15 20 _ rfl (.slice (some ⟨u14.heap.size,0,none⟩) 3 3) (u14.alloc (.cells #[.int .i64 z1,.int .i64 z2,.int .i64 z3] 3)) (by kernel_rfl) (Below.alloc hHeld (Below.size hHeld) _) ?_
 simp only[Act.put,Y_a,Y_b,Y_c]
 have hHeld2:Low W (u14.alloc (.cells #[.int .i64 z1,.int .i64 z2,.int .i64 z3] 3)):=Below.alloc hHeld (Below.size hHeld) _
 refine Y_e 16 21 _ rfl 137 (.func 137) #[.tmp 20] #[50] (by kernel_rfl) #[] (by kernel_rfl) #[.slice (some ⟨u14.heap.size,0,none⟩) 3 3] (by kernel_rfl) (enters_of Tryz.func137 (by kernel_rfl) rfl) _ (Zia [z1,z2,z3] (ZhL u14 _ _ 3 3 (by decide)) (by simp) H4 hHeld2) ?_
 rintro _ u16 hHeld rfl
 simp only[Act.put,Y_a,Y_b,Y_c]
 refine Y_t 17 22 _ (.bool q) rfl (Or.inl ⟨by kernel_rfl,fun u hu=>by rw[← HQ.out];kernel_rfl⟩) hHeld ?_
 simp only[Act.put,Y_a,Y_b,Y_c]
 refine Y_t 18 4 _ (.bool q) rfl (Or.inl ⟨by kernel_rfl,fun u hu=>by kernel_rfl⟩) hHeld ?_
 simp only[Act.put,Y_a,Y_b,Y_c]
 refine wpAnyH_done (by kernel_rfl) ?_ _
 refine NoPanic.normal ?_
 have hB2:=hB.trans (Below.mono hHeld hB.size)
 go_wp2
 go_ret
 exact⟨rfl,hB2⟩
end

section
open Go.RowKit
theorem ZlP (x y:List Int):∀ i j,i≤x.length→j≤y.length→tl x y i j=fr (x.drop i) (y.drop j):=by
 intro i j
 induction h:x.length-i generalizing i j with
 | zero =>
  intro h1 h2
  rw[ZlT,if_neg (by omega),List.drop_of_length_le (by omega)]
  simp[fr]
 | succ n ih =>
  intro h1 h2
  by_cases hy:j<y.length
  ·rw[ZlT,List.drop_eq_getElem_cons (by omega:i<x.length),List.drop_eq_getElem_cons hy,fr,List.getElem?_eq_getElem (by omega),List.getElem?_eq_getElem hy]
   by_cases e:x[i]=y[j]
   ·rw[if_pos ⟨by omega,hy,by rw[e]⟩,if_pos e,ih (i+1) (j+1) (by omega) (by omega) (by omega)]
   ·rw[if_neg (fun q=>e (by simpa using q.2.2)),if_neg e]
  ·rw[ZlT,if_neg (by omega),List.drop_of_length_le (l:=y) (by omega)]
   cases x.drop i<;>simp[fr]
def restC (x y:List Int) (R i k:Nat):List Hr:=((pj x y R i).drop k).flatMap (ck x y R i)++(List.range' (i+1) (x.length-(i+1))).flatMap fun i=>(pj x y R i).flatMap (ck x y R i)
def restI (x y:List Int) (R i:Nat):List Hr:=(List.range' i (x.length-i)).flatMap fun i=>(pj x y R i).flatMap (ck x y R i)
theorem Zjs (x y:List Int) (R:Nat):restI x y R 0=cands x y R:=by simp[restI,cands]
theorem Zjr (x y:List Int) (R i:Nat) (hi:i<x.length):restI x y R i=restC x y R i 0:=by
 unfold restI restC
 rw[show x.length-i=(x.length-(i+1))+1 by omega,List.range'_succ,List.flatMap_cons,List.drop_zero]
theorem Zjq (x y:List Int) (R i:Nat) (hi:x.length≤i):restI x y R i=[]:=by
 unfold restI
 rw[show x.length-i=0 by omega]
 rfl
theorem Zjp (x y:List Int) (R i k:Nat) (hk:k<(pj x y R i).length):restC x y R i k=ck x y R i (pj x y R i)[k]++restC x y R i (k+1):=by
 unfold restC
 rw[List.drop_eq_getElem_cons hk,List.flatMap_cons,List.append_assoc]
theorem Zjo (x y:List Int) (R i k:Nat) (hk:(pj x y R i).length≤k):restC x y R i k=restI x y R (i+1):=by
 unfold restC restI
 rw[List.drop_of_length_le hk]
 rfl
theorem Ziz (f:Hr→Hr→Bool) (b:Hr) (l m:List Hr):pickL f b (l++m)=pickL f (pickL f b l) m:=by simp[pickL]
theorem ZiB (x y:List Int) (R i j:Nat) (b:Hr) (h:skp x R i (hd x y i j)=false):pickL btC b (ck x y R i j)=if btC (runAt x y i j R) b then runAt x y i j R else b:=by
 unfold ck
 rw[h]
 rfl
theorem ZiF (x y:List Int) (R i j:Nat) (b:Hr) (h:skp x R i (hd x y i j)=true):pickL btC b (ck x y R i j)=b:=by
 unfold ck
 rw[h]
 rfl
theorem ZkY {x:List Int} {R i t s:Nat} (hs:s<t) (h:cnt x (i-(s+1))=R):skp x R i t=true:=by
 unfold skp
 rw[List.any_eq_true]
 exact⟨s,List.mem_range.2 hs,by simpa using h⟩
theorem ZkX {x:List Int} {R i t:Nat} (h:∀ s,s<t→cnt x (i-(s+1))≠R):skp x R i t=false:=by
 unfold skp
 rw[List.any_eq_false]
 intro s hs
 simpa using h s (List.mem_range.1 hs)
theorem ZiL {x y:List Int} {R i j:Nat} (hj:j<y.length) (he:x[i]?=y[j]?):0<(pj x y R i).length↔cnt x i=R:=by
 rw[List.length_pos_iff_exists_mem]
 constructor
 ·rintro⟨k,hk⟩
  exact ((Zht x y R i k).1 hk).1
 ·intro h
  exact⟨j,(Zht x y R i j).2 ⟨h,hj,he⟩⟩
theorem ZdA {u:World} {ao:Option Addr} {n cap k:Nat} (hk:k≤n) (hn:n≤cap) {op:Oper} (x l:Operand) (ho:op.op=.slice 50 x (some l) none none) {ev:Operand→Value} (hx:ev x=.slice ao n cap) (hl:ev l=.int .i64 (k:Int)) :
  (execOp ev op).run Tryz.prog u=.ok (.value (.slice (slF ao cap k) (n-k) (cap-k))) u:=by
 have h:=ZkE ao n cap k hk hn u
 have h2:=run_sliceAt_slice (P:=Tryz.prog) (w:=u) 50 (.slice ao n cap) (some (.int .i64 (k:Int))) none none (by kernel_rfl)
 simp only[execOp,ho,hx,hl,Option.map_some,Option.map_none,Sem.run_bind,h2,h,Result.andThen_ok,Sem.run_pure]
theorem ZdC {u:World} {p q r:Int} (h:IntKind.i64.wrap (p-q)=r) {op:Oper} (x l:Operand) (ho:op.op=.binOp .sub 3 x l 3) {ev:Operand→Value} (hx:ev x=.int .i64 p) (hl:ev l=.int .i64 q) :
  (execOp ev op).run Tryz.prog u=.ok (.value (.int .i64 r)) u:=by
 subst h
 simp only[execOp,ho,hx,hl]
 go_simp
theorem Zdz {u:World} {p q r:Int} (h:IntKind.i64.wrap (p+q)=r) {op:Oper} (x l:Operand) (ho:op.op=.binOp .add 3 x l 3) {ev:Operand→Value} (hx:ev x=.int .i64 p) (hl:ev l=.int .i64 q) :
  (execOp ev op).run Tryz.prog u=.ok (.value (.int .i64 r)) u:=by
 subst h
 simp only[execOp,ho,hx,hl]
 go_simp
theorem ZdB {u:World} {a:Addr} {z z0:Int} (h:u.cell? a=some (.int .i64 z0)) (hf:u.frozen? a=false) {op:Oper} (x l:Operand) (ho:op.op=.store 3 x l) {ev:Operand→Value} (hx:ev x=.pointer (some a)) (hl:ev l=.int .i64 z) :
  (execOp ev op).run Tryz.prog u=.ok .skip (u.setCell a (.int .i64 z)):=by
 simp only[execOp,ho,hx,hl]
 go_simp
theorem results_cell_tmp {P:Program} {fn:Func} {p q:Tmp} {ty:TypeId} (h:fn.results=#[.cell p ty,.tmp q]) (tmps:Array Value) (w:World) (g:Nat) (t:TypeId) (cs:Array Value) (fr:Nat × Nat) (d:TypeDesc)
  (hp:tmps.getD p undef=.pointer (some ⟨g,0,none⟩)) (hg:w.heap[g]?=some (.cells cs t fr))
  (hu:P.underlying ty=some d) (hd:(match d with | .struct _ | .array _ _=>true | _=>false)=true) (hi:(P.info? ty).map (·.size)=some cs.size) :
  (results fn tmps).run P w=.ok (.tuple #[.agg cs,tmps.getD q undef]) w:=by
 have hp':tmps[p]?.getD undef=.pointer (some ⟨g,0,none⟩):=by simpa using hp
 simp[results,h,hp',asAddr,run_loadVar_row w g t ty cs fr d hg hu hd hi]
end

section
open Go.RowKit
def Sx (Wq:World) (Br X Y N R:Nat) (u:World):Prop:=Low Wq u∨(Hbx u Br ⟨X,Y,N,R⟩∧Wq.grownBy u (some Br))
theorem Sx.x {Wq:World} {Br X Y N R:Nat} {u:World} (h:Sx Wq Br X Y N R u) (hb:Hbx Wq Br ⟨X,Y,0,R⟩):u.cell? ⟨Br,0,none⟩=some (.int .i64 (X:Int)):=by
 rcases h with h | h
 ·exact (hb.low h).cells.1
 ·exact h.1.cells.1
theorem ZkK {x y:List Int} {vx vy:Value} {Wq u:World} {Br X Y N R:Nat} (hx:HI u vx x) (hy:HI u vy y) (hxl:x.length≤1048576) {r:Nat} (hr:Hid (fr x y=r)) (hL:Low Wq u) :
  Calls Tryz.prog 126 (#[vx,vy]++#[]) u fun e w'=>∃ v,e=.returned v∧Sx Wq Br X Y N R w'∧(v=.int .i64 (r:Int)∧Low Wq w'):=by
 refine (ZkJ x y vx vy u hx hy hxl r hr).mono ?_
 rintro e w' ⟨rfl,hb⟩
 have h2:Low Wq w':=Below.trans hL (hb.mono (Below.size hL))
 exact⟨_,rfl,.inl h2,rfl,h2⟩
theorem Zad (x y:List Int) (vx vy:Value) (w:World) (hx:HI w vx x) (hy:HI w vy y) (hxl:x.length≤1048576) (hyl:y.length≤1048576) (hwx:∀ c∈x,w64 c) (hwy:∀ c∈y,w64 c) (h0:Hid (rs x 0 y=0)) :
  Calls Tryz.prog 110 #[vx,vy] w fun e w'=>e=.returned (.tuple #[hrV ⟨0,0,0,0⟩,.bool false])∧Below w.heap.size w w':=by
 obtain⟨xo,xc,rfl⟩:=Holds.form hx
 obtain⟨yo,yc,rfl⟩:=Holds.form hy
 have hB0:Below w.heap.size w (w.alloc (.cells #[.int .i64 0,.int .i64 0,.int .i64 0,.int .i64 0] 161)):=(Below.refl _ w).alloc (Nat.le_refl _) _
 have hR0:Hbx (w.alloc (.cells #[.int .i64 0,.int .i64 0,.int .i64 0,.int .i64 0] 161)) w.heap.size ⟨0,0,0,0⟩:=Hbx.new w ⟨0,0,0,0⟩
 have HWX:Hid (∀ z∈x,w64 z):=hwx
 have HWY:Hid (∀ z∈y,w64 z):=hwy
 clear hwx hwy
 go_enter Tryz.func110,Tryz.ntmps110
 go_wp2_with fail
 refine (ZcT x _ _ (HI.keep hx hB0 (Nat.le_refl _)) hxl HWX.out).mono ?_
 rintro e w1 ⟨Bc,rfl,hM1,hbc,hB1⟩
 have hB01:=hB0.trans (hB1.mono (by simp))
 have hR1:=hR0.low hB1
 clear hB1 hB0 hR0
 go_wp2_with fail
 refine (Zjn x y Bc _ w1 hM1 (HI.keep hy hB01 (Nat.le_refl _)) hxl hyl HWY.out 0 h0).mono ?_
 rintro e w2 ⟨rfl,rfl⟩
 obtain⟨c0,c1,c2,c3⟩:=hR1.cells
 have f0:=hR1.frozen
 have s1:=heap_setCell_same w1 w.heap.size 0 _ _ (.int .i64 0) hR1
 have s2:=heap_setCell_same _ w.heap.size 1 _ _ (.int .i64 0) s1
 have s3:=heap_setCell_same _ w.heap.size 2 _ _ (.int .i64 0) s2
 have s4:=heap_setCell_same _ w.heap.size 3 _ _ (.int .i64 0) s3
 have hBf:Below w.heap.size w ((((w1.setCell ⟨w.heap.size,0,none⟩ (.int .i64 0)).setCell ⟨w.heap.size,1,none⟩ (.int .i64 0)).setCell ⟨w.heap.size,2,none⟩ (.int .i64 0)).setCell ⟨w.heap.size,3,none⟩ (.int .i64 0)):=(((hB01.setCell (p:=⟨w.heap.size,0,none⟩) (Nat.le_refl _) _).setCell (p:=⟨w.heap.size,1,none⟩) (Nat.le_refl _) _).setCell (p:=⟨w.heap.size,2,none⟩) (Nat.le_refl _) _).setCell (p:=⟨w.heap.size,3,none⟩) (Nat.le_refl _) _
 go_wp2
 exact bodyPost_ret (results_cell_tmp rfl _ _ w.heap.size 161 #[.int .i64 0,.int .i64 0,.int .i64 0,.int .i64 0] (0,0) _ rfl s4 Tryz.underlying161 rfl (by kernel_rfl)) rfl ⟨rfl,hBf⟩
theorem Zae (x y:List Int) (vx vy:Value) (w:World) (hx:HI w vx x) (hy:HI w vy y) (hxl:x.length≤1048576) (hyl:y.length≤1048576) (hwx:∀ c∈x,w64 c) (hwy:∀ c∈y,w64 c) (R:Nat) (h0:Hid (rs x 0 y=R)) (hR:0<R) (b:Hr) (hb:Hid (pickL btC ⟨0,0,0,0⟩ (cands x y R)=b)) :
  Calls Tryz.prog 110 #[vx,vy] w fun e w'=>e=.returned (.tuple #[hrV b,.bool true])∧Below w.heap.size w w':=by
 obtain⟨xo,xc,rfl⟩:=Holds.form hx
 obtain⟨yo,yc,rfl⟩:=Holds.form hy
 have hcx:=Zfg hx
 have hcy:=Zfg hy
 have hRl:R≤x.length:=by rw[← h0.out];exact ZjX x y 0 (Nat.zero_le _)
 have hB0:Below w.heap.size w (w.alloc (.cells #[.int .i64 0,.int .i64 0,.int .i64 0,.int .i64 0] 161)):=(Below.refl _ w).alloc (Nat.le_refl _) _
 have hR0:Hbx (w.alloc (.cells #[.int .i64 0,.int .i64 0,.int .i64 0,.int .i64 0] 161)) w.heap.size ⟨0,0,0,0⟩:=Hbx.new w ⟨0,0,0,0⟩
 have HWX:Hid (∀ z∈x,w64 z):=hwx
 have HWY:Hid (∀ z∈y,w64 z):=hwy
 have HB0:Hid (pickL btC ⟨0,0,0,0⟩ (restI x y R 0)=b):=(by rw[Zjs];exact hb)
 clear hwx hwy hb
 have e0:((R:Int) == 0)=false:=beq_eq_false_iff_ne.2 (by omega)
 go_enter Tryz.func110,Tryz.ntmps110
 go_wp2_with fail
 refine (ZcT x _ _ (HI.keep hx hB0 (Nat.le_refl _)) hxl HWX.out).mono ?_
 rintro e w1 ⟨Bc,rfl,hM1,hbc,hB1⟩
 have hB01:=hB0.trans (hB1.mono (by simp))
 have hR1:=hR0.low hB1
 clear hB1 hB0 hR0
 go_wp2_with fail
 refine (Zjn x y Bc _ w1 hM1 (HI.keep hy hB01 (Nat.le_refl _)) hxl hyl HWY.out R h0).mono ?_
 rintro e w2 ⟨rfl,rfl⟩
 go_wp2_with fail
 refine (Zfl x y R Bc _ w1 hM1 (HI.keep hy hB01 (Nat.le_refl _)) hyl HWY.out).mono ?_
 rintro e w3 ⟨rfl,hG3,hB3⟩
 have hB03:=hB01.trans (hB3.mono hB01.size)
 have hR3:=hR1.low hB3
 obtain⟨base,hbase⟩:∃ base,w1.heap.size+1=base:=⟨_,rfl⟩
 rw[hbase] at hG3
 clear hB3 hB01 hR1 hM1 hbase
 go_wp2_with fail
 refine (Ziv x y R w1.heap.size base _ w3 hG3 (HI.keep hx hB03 (Nat.le_refl _)) hxl hyl HWX.out).mono ?_
 rintro e W1 ⟨vs,rfl,hO4,hP4,hB4⟩
 have hB04:=hB03.trans (hB4.mono hB03.size)
 have hR4:=hR3.low hB4
 obtain⟨gp,hgp⟩:∃ gp,w3.heap.size=gp:=⟨_,rfl⟩
 rw[hgp] at hO4 ⊢
 clear hB4 hB03 hR3 hG3 hgp HWX HWY hbc
 have hBx:=Hbx.new W1 ⟨0,0,0,0⟩
 have hw1:=hB04.size
 have hr4:=hR4.lt
 go_wp2
 go_loopw [31] (fun iv wr=>∃ (i:Nat) (c:Hr),i≤x.length∧iv=.int .i64 i∧Low W1 wr∧Hbx wr W1.heap.size c∧Hid (pickL btC c (restI x y R i)=b)) (fun iv _=>x.length-(intOf iv).toNat)
 case atStart=>exact⟨0,⟨0,0,0,0⟩,Nat.zero_le _,rfl,(Below.refl _ W1).alloc (Nat.le_refl _) _,hBx,HB0⟩
 case round =>
  clear hBx HB0
  obtain⟨i,c,hi,rfl,hL,hC,HB⟩:=hrel
  have hsr:=Below.size hL
  by_cases hil:i<x.length
  ·have HB2:Hid (pickL btC c (restC x y R i 0)=b):=(by rw[← Zjr x y R i hil];exact HB)
   obtain⟨v,hv1,hv2⟩:=hP4.2 i hil
   obtain⟨so,sc,rfl⟩:=(holds_of hv2.1).form
   have hvl:=hP4.1
   have p0:=(Zin hO4 hL).cellAt i (by omega)
   rw[hv1] at p0
   obtain⟨n2,hn2⟩:∃ n,(nI (pj x y R i)).length=n:=⟨_,rfl⟩
   have hv3:Holds W1 (.slice so n2 sc) n2 (icells (nI (pj x y R i))):=by
    have:=holds_of hv2.1
    rw[hn2] at this
    exact this
   have hn3:(pj x y R i).length=n2:=by rw[← hn2];simp[nI]
   have hn4:n2≤y.length:=by rw[← hn3,← ZiQ x y R i hil];exact ZiO x R y _
   rw[hn2] at p0
   have HN:Hid (n2=(pj x y R i).length):=hn3.symm
   clear hn2 hv2 hv1 HB hn3
   have i1:0≤(i:Int):=by omega
   have i2:(i:Int)<(x.length:Int):=by omega
   go_wp2
   go_step3
   go_wp2
   go_step3
   go_wp2
   clear p0
   go_loopw [38] (fun kv wq=>∃ (k:Nat) (c:Hr),k≤n2∧kv=.int .i64 k∧Low W1 wq∧Hbx wq W1.heap.size c∧Hid (pickL btC c (restC x y R i k)=b)) (fun kv _=>n2-(intOf kv).toNat)
   case atStart=>exact⟨0,c,Nat.zero_le _,rfl,hL,hC,HB2⟩
   case round =>
    clear HB2 hL hC hsr
    obtain⟨k,c,hk,rfl,hL,hC,HB⟩:=hrel
    have hsr:=Below.size hL
    by_cases hkl:k<n2
    ·have hkp:k<(pj x y R i).length:=by rw[← HN.out];exact hkl
     obtain⟨j,hj⟩:∃ j,(pj x y R i)[k]=j:=⟨_,rfl⟩
     have hmj:=(Zht x y R i j).1 (by rw[← hj];exact List.getElem_mem _)
     obtain⟨hcR,hjl,hxy⟩:=hmj
     have HB2:Hid (pickL btC c (ck x y R i j++restC x y R i (k+1))=b):=(by rw[← hj,← Zjp x y R i k hkp];exact HB)
     obtain⟨sb,sf,scc,hse,_,hcs⟩:=Holds.at (Holds.keep hv3 (fun q hq=>Below.block hL q hq)) (by rw[icells_length];simp[nI];omega)
     cases hse
     have q0:wr.cell? ⟨sb,sf+k,none⟩=some (.int .i64 (j:Int)):=by
      rw[hcs k (by rw[icells_length];simp[nI];omega)]
      simp[icells,nI,hj]
     clear hcs hj HB
     have k1:0≤(k:Int):=by omega
     have k2:(k:Int)<(n2:Int):=by omega
     have hRn:=Hbx.new wr ⟨i,j,0,R⟩
     obtain⟨Br,hBr⟩:∃ Br,wr.heap.size=Br:=⟨_,rfl⟩
     rw[hBr] at hRn
     have hLn:Low W1 (wr.alloc (.cells #[.int .i64 (i:Int),.int .i64 (j:Int),.int .i64 ((0:Nat):Int),.int .i64 (R:Int)] 161)):=Below.alloc hL hsr _
     have hCn:=hC.low ((Below.refl _ wr).alloc (Nat.le_refl _) (.cells #[.int .i64 (i:Int),.int .i64 (j:Int),.int .i64 ((0:Nat):Int),.int .i64 (R:Int)] 161))
     have hCl:=hC.lt
     have HH0:Hid (hd x y i j=0+hd x y (i-0) (j-0)):=(by show _=_;simp)
     go_wp2
     have hBrl:Br<wr.heap.size+1:=by omega
     clear q0
     go_loopw [] (fun wz=>∃ (s X Y:Nat),X+s=i∧Y+s=j∧Low W1 wz∧Hbx wz W1.heap.size c∧Hbx wz Br ⟨X,Y,0,R⟩∧Hid (hd x y i j=s+hd x y X Y)∧Hid (∀ s',s'<s→cnt x (i-(s'+1))≠R)) (fun wz=>(intOf ((wz.cell? ⟨Br,0,none⟩).getD undef)).toNat)
     case atStart=>exact⟨0,i,j,rfl,rfl,hLn,hCn,hRn,HH0,fun s' hs'=>by omega⟩
     case round =>
      clear hRn hLn hCn HH0 hL hC
      have hBw:W1.heap.size<Br:=by omega
      clear hBr hBrl hCl hsr
      obtain⟨s,X,Y,hX,hY,hL,hC,hH,HH,HS⟩:=hrel
      have hsz:=Below.size hL
      obtain⟨c0,c1,c2,c3⟩:=hH.cells
      have hB0z:=hB04.trans (Below.mono hL hw1)
      obtain⟨q,hq⟩:∃ q,decide (0<X∧0<Y∧x[X-1]?=y[Y-1]?)=q:=⟨_,rfl⟩
      have HQ:Hid (decide (0<X∧0<Y∧x[X-1]?=y[Y-1]?)=q):=hq
      clear hq
      go_wp2_with fail
      go_cut [68] from 46 to 83 (fun z wc=>z=.bool q∧∃ m,wc=wr.drewN m)
      case first =>
       by_cases hX0:0<X
       ·obtain⟨px,rfl⟩:∃ p,X=p+1:=⟨X-1,by omega⟩
        have g1:decide ((0:Int)<((px+1:Nat):Int))=true:=decide_eq_true (by omega)
        have g1':(0:Int)<(px:Int)+1:=by omega
        by_cases hY0:0<Y
        ·obtain⟨py,rfl⟩:∃ p,Y=p+1:=⟨Y-1,by omega⟩
         have g2':(0:Int)<(py:Int)+1:=by omega
         obtain⟨xb,xf,rfl,_,hqx⟩:=HI.at (HI.keep hx hB0z (Nat.le_refl _)) (by omega)
         obtain⟨yb,yf,rfl,_,hqy⟩:=HI.at (HI.keep hy hB0z (Nat.le_refl _)) (by omega)
         have x0:=hqx px (by omega)
         have y0:=hqy py (by omega)
         obtain⟨zx,hzx⟩:∃ z,x[px]=z:=⟨_,rfl⟩
         obtain⟨zy,hzy⟩:∃ z,y[py]=z:=⟨_,rfl⟩
         rw[hzx] at x0
         rw[hzy] at y0
         have e9:(zx == zy)=q:=by
          rw[← HQ.out,Nat.add_sub_cancel,Nat.add_sub_cancel,List.getElem?_eq_getElem (by omega),List.getElem?_eq_getElem (by omega),hzx,hzy]
          by_cases q:zx=zy<;>simp[q]
         have n1:IntKind.i64.wrap ((px:Int)+1-1)=(px:Int):=by rw[IntKind.wrap_i64];omega
         have n2:IntKind.i64.wrap ((py:Int)+1-1)=(py:Int):=by rw[IntKind.wrap_i64];omega
         have n3:IntKind.i64.wrap (px:Int)=(px:Int):=by rw[IntKind.wrap_i64];omega
         have n4:IntKind.i64.wrap (py:Int)=(py:Int):=by rw[IntKind.wrap_i64];omega
         have n5:(px:Int)+1-1=(px:Int):=by omega
         have n6:(py:Int)+1-1=(py:Int):=by omega
         have j1:0≤(px:Int):=by omega
         have j2:(px:Int)<(x.length:Int):=by omega
         have j3:0≤(py:Int):=by omega
         have j4:(py:Int)<(y.length:Int):=by omega
         clear hqx hqy hzx hzy HQ HH HS
         go_big_quiet (fail)
         go_wp2
         go_meet
         case rel=>exact⟨rfl,_,rfl⟩
        ·obtain rfl:Y=0:=by omega
         obtain rfl:q=false:=by rw[← HQ.out];simp
         clear HQ HH HS
         go_big_quiet (fail)
         go_wp2
         go_meet
         case rel=>exact⟨rfl,_,rfl⟩
       ·obtain rfl:X=0:=by omega
        obtain rfl:q=false:=by rw[← HQ.out];simp
        clear HQ HH HS
        go_big_quiet (fail)
        go_wp2
        go_meet
        case rel=>exact⟨rfl,_,rfl⟩
      case rest =>
       obtain⟨rfl,mq,rfl⟩:=hcut
       have hLq:Low W1 (wr.drewN mq):=Below.dN hL mq
       have hCq:Hbx (wr.drewN mq) W1.heap.size c:=hC
       have hHq:Hbx (wr.drewN mq) Br ⟨X,Y,0,R⟩:=hH
       have cw:=c0
       clear hL hC hH c0 c1 c2 c3 hB0z hsz
       generalize wr.drewN mq=Wq at hLq hCq hHq ⊢
       obtain⟨c0,c1,c2,c3⟩:=hHq.cells
       have fz:=hHq.frozen
       have hsz:=Below.size hLq
       cases q with
       | true =>
        obtain⟨hX0,hY0,hxy2⟩:=of_decide_eq_true HQ.out
        obtain⟨px,rfl⟩:∃ p,X=p+1:=⟨X-1,by omega⟩
        obtain⟨py,rfl⟩:∃ p,Y=p+1:=⟨Y-1,by omega⟩
        rw[Nat.add_sub_cancel,Nat.add_sub_cancel] at hxy2
        have HH2:Hid (hd x y i j=s+1+hd x y px py):=(by
         show _=_
         have:=HH.out
         rw[ZeW x y (px+1) (py+1),if_pos ⟨by omega,by omega,by rw[Nat.add_sub_cancel,Nat.add_sub_cancel];exact hxy2⟩,Nat.add_sub_cancel,Nat.add_sub_cancel] at this
         omega)
        have hpx:i-(s+1)=px:=by omega
        obtain⟨v2,hv1,hv2⟩:=hP4.2 px (by omega)
        obtain⟨pto,ptc,rfl⟩:=(holds_of hv2.1).form
        have hpp:=ZiL (x:=x) (y:=y) (R:=R) (i:=px) (j:=py) (by omega) hxy2
        have hn9:(nI (pj x y R px)).length=(pj x y R px).length:=by simp[nI]
        rw[hn9] at hv1
        obtain⟨n9,hn8⟩:∃ n,(pj x y R px).length=n:=⟨_,rfl⟩
        rw[hn8] at hv1 hpp
        have hvl2:=hP4.1
        have hb1:=heap_setCell_same Wq Br 0 _ _ (.int .i64 (px:Int)) hHq
        have hb2:Hbx ((Wq.setCell ⟨Br,0,none⟩ (.int .i64 (px:Int))).setCell ⟨Br,1,none⟩ (.int .i64 (py:Int))) Br ⟨px,py,0,R⟩:=heap_setCell_same _ Br 1 _ _ (.int .i64 (py:Int)) hb1
        have hg2:Wq.grownBy ((Wq.setCell ⟨Br,0,none⟩ (.int .i64 (px:Int))).setCell ⟨Br,1,none⟩ (.int .i64 (py:Int))) (some Br):=(ZeH Wq Br 0 _).trans (ZeH _ Br 1 _)
        have hL2:Low W1 ((Wq.setCell ⟨Br,0,none⟩ (.int .i64 (px:Int))).setCell ⟨Br,1,none⟩ (.int .i64 (py:Int))):=Below.grown hLq hg2 hsz (fun q hq=>by cases hq;omega)
        have hC2:=hCq.keep hg2 (by simp;omega)
        have p0:=(Zin hO4 hL2).cellAt px (by omega)
        rw[hv1] at p0
        obtain⟨d0,d1,d2,d3⟩:=hb2.cells
        have cm:((Wq.setCell ⟨Br,0,none⟩ (.int .i64 (px:Int))).setCell ⟨Br,1,none⟩ (.int .i64 (py:Int))).cell? ⟨Br,0,none⟩=some (.int .i64 (px:Int)):=d0
        have c1s:(Wq.setCell ⟨Br,0,none⟩ (.int .i64 (px:Int))).cell? ⟨Br,1,none⟩=some (.int .i64 ((py:Int)+1)):=by
         have:Hbx (Wq.setCell ⟨Br,0,none⟩ (.int .i64 (px:Int))) Br ⟨px,py+1,0,R⟩:=hb1
         exact this.cells.2.1
        have c0s:Wq.cell? ⟨Br,0,none⟩=some (.int .i64 ((px:Int)+1)):=c0
        have c1t:Wq.cell? ⟨Br,1,none⟩=some (.int .i64 ((py:Int)+1)):=c1
        have f1s:(Wq.setCell ⟨Br,0,none⟩ (.int .i64 (px:Int))).frozen? ⟨Br,1,none⟩=false:=by
         have:Hbx (Wq.setCell ⟨Br,0,none⟩ (.int .i64 (px:Int))) Br ⟨px,py+1,0,R⟩:=hb1
         exact this.frozen 1
        have f0s:=fz 0
        have n5:(px:Int)+1-1=(px:Int):=by omega
        have n6:(py:Int)+1-1=(py:Int):=by omega
        have j1:0≤(px:Int):=by omega
        have j2:(px:Int)<(x.length:Int):=by omega
        clear c0 c1 c2 c3 fz hv1 hv2 hn8 hn9 hb1 HH HQ d1 d2 d3 hHq hCq hLq hg2
        by_cases hc:cnt x px=R
        ·have hn0:0<n9:=hpp.2 hc
         have hn0':(0:Int)<(n9:Int):=by omega
         have HB3:Hid (pickL btC c (restC x y R i (k+1))=b):=(by
          show _=_
          rw[← HB2.out,Ziz,ZiF x y R i j c (ZkY (s:=s) (by rw[HH2.out];omega) (by rw[hpx];exact hc))]
          )
         clear HB2 hpp hc hpx
         go_wp2
         go_roundw
         case rel=>exact⟨k+1,c,by omega,by go_num,hL2,hC2,HB3⟩
         case measure=>simp[intOf];omega
        ·have hn0:n9=0:=by
          rcases Nat.eq_zero_or_pos n9 with h | h
          ·exact h
          ·exact absurd (hpp.1 h) hc
         subst hn0
         have HS2:Hid (∀ s',s'<s+1→cnt x (i-(s'+1))≠R):=(by
          intro s' hs'
          by_cases e:s'=s
          ·subst e;rw[hpx];exact hc
          ·exact HS.out s' (by omega))
         clear hpp hc hpx HS
         go_wp2
         go_roundw
         case rel=>exact⟨s+1,px,py,by omega,by omega,hL2,hC2,hb2,HH2,HS2⟩
         case measure =>
          rw[cw,cm]
          simp[intOf]
       | false =>
        have hnq:=of_decide_eq_false HQ.out
        have hhd:hd x y i j=s:=by
         have:=HH.out
         rw[ZeW x y X Y,if_neg hnq] at this
         omega
        obtain⟨t,ht⟩:∃ t,tl x y i j=t:=⟨_,rfl⟩
        obtain⟨N,hN⟩:∃ N,s+t=N:=⟨_,rfl⟩
        have HSk:Hid (skp x R i (hd x y i j)=false):=ZkX (by rw[hhd];exact HS.out)
        have HRun:Hid (runAt x y i j R=⟨X,Y,N,R⟩):=(by
         show _=_
         unfold runAt
         rw[hhd,ht,hN,show i-s=X by omega,show j-s=Y by omega])
        have htl:=ZlQ x y i j
        rw[ht] at htl
        have HTL:Hid (fr (x.drop i) (y.drop j)=t):=(by show _=_;rw[← ZlP x y i j (by omega) (by omega)];exact ht)
        have HXl:Hid ((x.drop i).length≤1048576):=(by show _≤_;simp;omega)
        have hBw:Below w.heap.size w (Wq.drewN 1):=Below.dN (hB04.trans (Below.mono hLq hw1)) 1
        have hxs:HI (Wq.drewN 1) (.slice (slF xo xc i) (x.length-i) (xc-i)) (x.drop i)∧HI (Wq.drewN 1) (.slice (slF yo yc j) (y.length-j) (yc-j)) (y.drop j):=by
         have h1:=Zfh (HI.keep hx hBw (Nat.le_refl _)) rfl (Nat.le_of_lt hil)
         have h2:=Zfh (HI.keep hy hBw (Nat.le_refl _)) rfl (Nat.le_of_lt hjl)
         unfold HI
         rw[List.length_drop,List.length_drop]
         exact⟨h1,h2⟩
        have n1:IntKind.i64.wrap ((i:Int)-(X:Int))=(s:Int):=by rw[IntKind.wrap_i64];omega
        have n2:IntKind.i64.wrap ((s:Int)+(t:Int))=(N:Int):=by rw[IntKind.wrap_i64];omega
        have hHb:=hHq
        clear HH HQ HS hnq hhd ht hN c0 c1 c2 c3 fz cw
        go_wp2_with fail
        refine wp_region_noPanic ?_
        refine wp_region_held_drew (S:=fun u=>Sx Wq Br X Y N R u) (by kernel_rfl) (.inl (Below.dN (Below.refl _ Wq) 1)) (fun hHeld=>?_)
        refine Y_t 0 84 _ (.int .i64 (i:Int)) rfl (Or.inl ⟨by kernel_rfl,fun u hu=>by kernel_rfl⟩) hHeld ?_
        simp only[Act.put,Y_a,Y_b,Y_c]
        refine Y_t 1 85 _ (.pointer (some ⟨Br,0,none⟩)) rfl (Or.inl ⟨by kernel_rfl,fun u hu=>by kernel_rfl⟩) hHeld ?_
        simp only[Act.put,Y_a,Y_b,Y_c]
        refine Y_t 2 86 _ (.int .i64 (X:Int)) rfl (Or.inl ⟨by kernel_rfl,fun u hu=>ZgQ (hu.x hHb) (.tmp 85) (by kernel_rfl) (by kernel_rfl)⟩) hHeld ?_
        simp only[Act.put,Y_a,Y_b,Y_c]
        refine Y_t 3 87 _ (.int .i64 (s:Int)) rfl (Or.inl ⟨by kernel_rfl,fun u hu=>ZdC n1 (.tmp 84) (.tmp 86) (by kernel_rfl) (by kernel_rfl) (by kernel_rfl)⟩) hHeld ?_
        simp only[Act.put,Y_a,Y_b,Y_c]
        refine Y_t 4 88 _ (.slice xo x.length xc) rfl (Or.inl ⟨by kernel_rfl,fun u hu=>by kernel_rfl⟩) hHeld ?_
        simp only[Act.put,Y_a,Y_b,Y_c]
        refine Y_t 5 89 _ (.int .i64 (i:Int)) rfl (Or.inl ⟨by kernel_rfl,fun u hu=>by kernel_rfl⟩) hHeld ?_
        simp only[Act.put,Y_a,Y_b,Y_c]
        refine Y_t 6 90 _ (.slice (slF xo xc i) (x.length-i) (xc-i)) rfl (Or.inl ⟨by kernel_rfl,fun u hu=>ZdA (Nat.le_of_lt hil) hcx (.tmp 88) (.tmp 89) (by kernel_rfl) (by kernel_rfl) (by kernel_rfl)⟩) hHeld ?_
        simp only[Act.put,Y_a,Y_b,Y_c]
        refine Y_t 7 91 _ (.slice yo y.length yc) rfl (Or.inl ⟨by kernel_rfl,fun u hu=>by kernel_rfl⟩) hHeld ?_
        simp only[Act.put,Y_a,Y_b,Y_c]
        refine Y_t 8 92 _ (.int .i64 (j:Int)) rfl (Or.inl ⟨by kernel_rfl,fun u hu=>by kernel_rfl⟩) hHeld ?_
        simp only[Act.put,Y_a,Y_b,Y_c]
        refine Y_t 9 93 _ (.slice (slF yo yc j) (y.length-j) (yc-j)) rfl (Or.inl ⟨by kernel_rfl,fun u hu=>ZdA (Nat.le_of_lt hjl) hcy (.tmp 91) (.tmp 92) (by kernel_rfl) (by kernel_rfl) (by kernel_rfl)⟩) hHeld ?_
        simp only[Act.put,Y_a,Y_b,Y_c]
        refine Y_e 10 94 _ rfl 126 (.func 126) #[.tmp 90,.tmp 93] #[50,50] (by kernel_rfl) #[] (by kernel_rfl) #[.slice (slF xo xc i) (x.length-i) (xc-i),.slice (slF yo yc j) (y.length-j) (yc-j)] (by kernel_rfl) (enters_of Tryz.func126 (by kernel_rfl) rfl) _ (ZkK (N:=N) (X:=X) (Y:=Y) (R:=R) (Br:=Br) hxs.1 hxs.2 HXl.out HTL (Below.dN (Below.refl _ Wq) 1)) ?_
        rintro _ u10 hHeld ⟨rfl,hL10⟩
        simp only[Act.put,Y_a,Y_b,Y_c]
        refine Y_t 11 95 _ (.int .i64 (N:Int)) rfl (Or.inl ⟨by kernel_rfl,fun u hu=>Zdz n2 (.tmp 87) (.tmp 94) (by kernel_rfl) (by kernel_rfl) (by kernel_rfl)⟩) hHeld ?_
        simp only[Act.put,Y_a,Y_b,Y_c]
        refine Y_t 12 96 _ (.pointer (some ⟨Br,2,none⟩)) rfl (Or.inl ⟨by kernel_rfl,fun u hu=>by kernel_rfl⟩) hHeld ?_
        simp only[Act.put,Y_a,Y_b,Y_c]
        have hHd:=hHb.low hL10
        have hFin:Hbx (u10.setCell ⟨Br,2,none⟩ (.int .i64 (N:Int))) Br ⟨X,Y,N,R⟩:=heap_setCell_same u10 Br 2 _ _ _ hHd
        have hGr:Wq.grownBy (u10.setCell ⟨Br,2,none⟩ (.int .i64 (N:Int))) (some Br):=(ZgY hL10 (some Br)).trans (ZeH u10 Br 2 _)
        refine Y_s 13 _ rfl (u10.setCell ⟨Br,2,none⟩ (.int .i64 (N:Int))) (ZdB hHd.cells.2.2.1 (hHd.frozen 2) (.tmp 96) (.tmp 95) (by kernel_rfl) (by kernel_rfl) (by kernel_rfl)) (.inr ⟨hFin,hGr⟩) ?_
        refine wpAnyH_done (by kernel_rfl) ?_ _
        refine NoPanic.normal ?_
        have hL3:Low W1 (u10.setCell ⟨Br,2,none⟩ (.int .i64 (N:Int))):=Below.grown hLq hGr hsz (fun q hq=>by cases hq;omega)
        have hC3:=hCq.keep hGr (by simp;omega)
        clear hHeld hHd hGr hL10 hHb hHq hCq hLq hxs n1 n2 HTL HXl hBw
        generalize u10.setCell ⟨Br,2,none⟩ (.int .i64 (N:Int))=u3 at hFin hL3 hC3 ⊢
        obtain⟨c0,c1,c2,c3⟩:=hFin.cells
        obtain⟨d0,d1,d2,d3⟩:=hC3.cells
        obtain⟨q,hq⟩:∃ q,btC ⟨X,Y,N,R⟩ c=q:=⟨_,rfl⟩
        have HQ2:Hid (btC ⟨X,Y,N,R⟩ c=q):=hq
        have HB3:Hid (pickL btC (if q then ⟨X,Y,N,R⟩ else c) (restC x y R i (k+1))=b):=(by
         show _=_
         rw[← HB2.out,Ziz,ZiB x y R i j c HSk.out,HRun.out,hq])
        clear hq HB2 HSk HRun
        go_wp2_with fail
        refine (Zib ⟨X,Y,N,R⟩ c q u3 HQ2).mono ?_
        rintro e u4 ⟨rfl,hB4⟩
        have hL4:Low W1 u4:=Below.trans hL3 (hB4.mono (Below.size hL3))
        have hC4:=hC3.low hB4
        have hF4:=hFin.low hB4
        clear c0 c1 c2 c3 d0 d1 d2 d3 hL3 hC3 hFin hB4
        have hs4:=Below.size hL4
        cases q with
        | true =>
         obtain⟨c0,c1,c2,c3⟩:=hF4.cells
         obtain⟨d0,d1,d2,d3⟩:=hC4.cells
         have f4:=hC4.frozen
         have s1:=heap_setCell_same u4 W1.heap.size 0 _ _ (.int .i64 (X:Int)) hC4
         have s2:=heap_setCell_same _ W1.heap.size 1 _ _ (.int .i64 (Y:Int)) s1
         have s3:=heap_setCell_same _ W1.heap.size 2 _ _ (.int .i64 (N:Int)) s2
         have s4:Hbx ((((u4.setCell ⟨W1.heap.size,0,none⟩ (.int .i64 (X:Int))).setCell ⟨W1.heap.size,1,none⟩ (.int .i64 (Y:Int))).setCell ⟨W1.heap.size,2,none⟩ (.int .i64 (N:Int))).setCell ⟨W1.heap.size,3,none⟩ (.int .i64 (R:Int))) W1.heap.size ⟨X,Y,N,R⟩:=heap_setCell_same _ W1.heap.size 3 _ _ (.int .i64 (R:Int)) s3
         have hL5:Low W1 ((((u4.setCell ⟨W1.heap.size,0,none⟩ (.int .i64 (X:Int))).setCell ⟨W1.heap.size,1,none⟩ (.int .i64 (Y:Int))).setCell ⟨W1.heap.size,2,none⟩ (.int .i64 (N:Int))).setCell ⟨W1.heap.size,3,none⟩ (.int .i64 (R:Int))):=(((Below.setCell (p:=⟨W1.heap.size,0,none⟩) hL4 (Nat.le_refl _) _).setCell (p:=⟨W1.heap.size,1,none⟩) (Nat.le_refl _) _).setCell (p:=⟨W1.heap.size,2,none⟩) (Nat.le_refl _) _).setCell (p:=⟨W1.heap.size,3,none⟩) (Nat.le_refl _) _
         go_wp2
         go_roundw
         case rel=>exact⟨k+1,⟨X,Y,N,R⟩,by omega,by go_num,hL5,s4,HB3⟩
         case measure=>simp[intOf];omega
        | false =>
         go_wp2
         go_roundw
         case rel=>exact⟨k+1,c,by omega,by go_num,hL4,hC4,HB3⟩
         case measure=>simp[intOf];omega
    ·have HB2:Hid (pickL btC c (restI x y R (i+1))=b):=(by rw[← Zjo x y R i k (by rw[← HN.out];omega)];exact HB)
     have hk':¬ (k:Int)<(n2:Int):=by omega
     clear HB
     go_wp2
     go_roundw
     case rel=>exact⟨i+1,c,by omega,by go_num,hL,hC,HB2⟩
     case measure=>simp[intOf];omega
  ·have e:c=b:=by
    have:=HB.out
    rw[Zjq x y R i (by omega)] at this
    exact this
   subst e
   have hi':¬ (i:Int)<(x.length:Int):=by omega
   have hR5:=hR4.low hL
   obtain⟨c0,c1,c2,c3⟩:=hC.cells
   obtain⟨d0,d1,d2,d3⟩:=hR5.cells
   have f0:=hR5.frozen
   have s1:=heap_setCell_same wr w.heap.size 0 _ _ (.int .i64 (c.X:Int)) hR5
   have s2:=heap_setCell_same _ w.heap.size 1 _ _ (.int .i64 (c.Y:Int)) s1
   have s3:=heap_setCell_same _ w.heap.size 2 _ _ (.int .i64 (c.N:Int)) s2
   have s4:=heap_setCell_same _ w.heap.size 3 _ _ (.int .i64 (c.R:Int)) s3
   have hBr:=hB04.trans (Below.mono hL hw1)
   have hBf:Below w.heap.size w ((((wr.setCell ⟨w.heap.size,0,none⟩ (.int .i64 (c.X:Int))).setCell ⟨w.heap.size,1,none⟩ (.int .i64 (c.Y:Int))).setCell ⟨w.heap.size,2,none⟩ (.int .i64 (c.N:Int))).setCell ⟨w.heap.size,3,none⟩ (.int .i64 (c.R:Int))):=(((hBr.setCell (p:=⟨w.heap.size,0,none⟩) (Nat.le_refl _) _).setCell (p:=⟨w.heap.size,1,none⟩) (Nat.le_refl _) _).setCell (p:=⟨w.heap.size,2,none⟩) (Nat.le_refl _) _).setCell (p:=⟨w.heap.size,3,none⟩) (Nat.le_refl _) _
   go_wp2
   exact bodyPost_ret (results_cell_tmp rfl _ _ w.heap.size 161 #[.int .i64 (c.X:Int),.int .i64 (c.Y:Int),.int .i64 (c.N:Int),.int .i64 (c.R:Int)] (0,0) _ rfl s4 Tryz.underlying161 rfl (by kernel_rfl)) rfl ⟨rfl,hBf⟩
end

section
open Go.RowKit
theorem Zac (x y:List Int) (vx vy:Value) (w:World) (hx:HI w vx x) (hy:HI w vy y) (hxl:x.length≤1048576) (hyl:y.length≤1048576) (hwx:∀ c∈x,w64 c) (hwy:∀ c∈y,w64 c) (o:Option Hr) (ho:Hid (best x y=o)) :
  Calls Tryz.prog 110 #[vx,vy] w fun e w'=>e=.returned (.tuple #[hrV (o.getD ⟨0,0,0,0⟩),.bool o.isSome])∧Below w.heap.size w w':=by
 rcases Nat.eq_zero_or_pos (rs x 0 y) with h | h
 ·have e:o=none:=by
   rw[← ho.out]
   cases hb:best x y with
   | none=>rfl
   | some r=>exact absurd (ZbG hb).1 (Zke h r)
  subst e
  exact Zad x y vx vy w hx hy hxl hyl hwx hwy h
 ·have e:o=some (pickL btC ⟨0,0,0,0⟩ (cands x y (rs x 0 y))):=by rw[← ho.out];exact ZbF (ZcQ (Zkb rfl h))
  subst e
  exact Zae x y vx vy w hx hy hxl hyl hwx hwy _ rfl h _ rfl
theorem ZeZ (x y:List Int) (W0:World) (g:Nat) (hxl:x.length≤4096) (hyl:y.length≤4096) (hwx:∀ c∈x,w64 c) (hwy:∀ c∈y,w64 c) (f:Nat):∀ (w:World) (K:List Int) (_:Ls W0 g x.length K w) (a b c d:Nat) (xo:Option Addr) (nx xc:Nat) (yo:Option Addr) (ny yc:Nat) (ko:Option Addr) (kc:Nat) (_:Pz W0 g x y a b c d xo nx xc yo ny yc ko kc) (_:b-a<f) (KF:List Int) (_:Hid (wrk K (pcs (hmid x y) x y f a b c d)=KF)),
  Calls Tryz.prog 91 #[.agg #[.slice xo nx xc,.slice yo ny yc,.int .i64 (c:Int),.slice ko nx kc]] w fun e w'=>e=.returned (.tuple #[])∧Ls W0 g x.length KF w'∧w.grownBy w' (some g):=by
 induction f with
 | zero=>intro w K hS a b c d xo nx xc yo ny yc ko kc hp hf;omega
 | succ f ih =>
  intro w K hS a b c d xo nx xc yo ny yc ko kc hp hf KF hKF
  have hg:=hS.lt
  have HKF:Hid (∀ k m,k=tf x y a b c d→m=tb x y (a+k) b (c+k) d→wrk (wrk K (fp a c k++bp b d m)) (if a+k<b-m∧c+k<d-m then hmid x y (pcs (hmid x y) x y f) (a+k) (b-m) (c+k) (d-m) else [])=KF):=(by
   intro k m hk hm
   rw[← hKF.out,pcs,ends,← hk,← hm,Zoj,Zoj,Zoj])
  have hQ0:=Qbx.new w (.slice xo nx xc) (.slice yo ny yc) (.int .i64 c) (.slice ko nx kc)
  have hB0:=(Below.refl w.heap.size w).alloc (Nat.le_refl _) (.cells #[.slice xo nx xc,.slice yo ny yc,.int .i64 c,.slice ko nx kc] 127)
  clear hKF
  go_enter Tryz.func91,Tryz.ntmps91
  go_wp2_with fail
  refine (Zaz x y W0 _ g K a b c d xo nx xc yo ny yc ko kc hp hxl hyl (hS.keep hB0)).mono ?_
  rintro e w1 ⟨k,m,xo1,nx1,xc1,yo1,ny1,yc1,ko1,kc1,hk,hm,rfl,hp1,hS1,hG1⟩
  have HK2:=HKF.out k m hk hm
  have hkl:=ZlG x y a b c d
  have hml:=ZlD x y (a+k) b (c+k) d
  rw[← hk] at hkl
  rw[← hm] at hml
  have hQ1:=hQ0.keep hG1 (by simp;omega)
  have hG1':w.grownBy w1 (some g):=(ZgY hB0 _).trans hG1
  have hb0:=hp.eb
  have hf':=hp.bx
  clear hk hm HKF hS hB0 hQ0 hG1 hp
  obtain⟨A,hA⟩:∃ A,a+k=A:=⟨_,rfl⟩
  obtain⟨C,hC⟩:∃ C,c+k=C:=⟨_,rfl⟩
  obtain⟨b1,hb1⟩:∃ B,b-m=B:=⟨_,rfl⟩
  obtain⟨d1,hd1⟩:∃ D,d-m=D:=⟨_,rfl⟩
  obtain⟨K1,hK1⟩:∃ K1,wrk K (fp a c k++bp b d m)=K1:=⟨_,rfl⟩
  rw[hK1] at hS1 HK2
  rw[hA,hC,hb1,hd1] at HK2 hp1
  rw[hC]
  have HK3:Hid (wrk K1 (if A<b1∧C<d1 then hmid x y (pcs (hmid x y) x y f) A b1 C d1 else [])=KF):=HK2
  have hf1:b1-A≤f:=by omega
  clear hA hC hb1 hd1 hK1 hkl hml hf HK2 hb0 hf'
  obtain⟨c0,c1,c2,c3⟩:=hQ1.cells
  have f0:=hQ1.frozen
  have hQ2:=hQ1.put (.slice xo1 nx1 xc1) (.slice yo1 ny1 yc1) (.int .i64 (C:Int)) (.slice ko1 nx1 kc1)
  have hgw:=hS1.low.size
  have hS2:=Zhe (Zhe (Zhe (Zhe hS1 (g:=w.heap.size) (by omega) (by omega) 0 (.slice xo1 nx1 xc1)) (g:=w.heap.size) (by omega) (by omega) 1 (.slice yo1 ny1 yc1)) (g:=w.heap.size) (by omega) (by omega) 2 (.int .i64 (C:Int))) (g:=w.heap.size) (by omega) (by omega) 3 (.slice ko1 nx1 kc1)
  have hG2:=ZeG (ZeG (ZeG (ZeG hG1' (B:=w.heap.size) (by omega) 0 (.slice xo1 nx1 xc1)) (B:=w.heap.size) (by omega) 1 (.slice yo1 ny1 yc1)) (B:=w.heap.size) (by omega) 2 (.int .i64 (C:Int))) (B:=w.heap.size) (by omega) 3 (.slice ko1 nx1 kc1)
  obtain⟨W2,hW2⟩:∃ W2,(((w1.setCell ⟨w.heap.size,0,none⟩ (.slice xo1 nx1 xc1)).setCell ⟨w.heap.size,1,none⟩ (.slice yo1 ny1 yc1)).setCell ⟨w.heap.size,2,none⟩ (.int .i64 (C:Int))).setCell ⟨w.heap.size,3,none⟩ (.slice ko1 nx1 kc1)=W2:=⟨_,rfl⟩
  rw[hW2] at hQ2 hS2 hG2
  unfold pzV
  have hAb:=hp1.eb
  have hCd:=hp1.ed
  obtain⟨r,hr⟩:∃ r,r=decide (nx1=0∨ny1=0):=⟨_,rfl⟩
  have HR:Hid (r=decide (nx1=0∨ny1=0)):=hr
  obtain⟨q0,q1,q2,q3⟩:=hQ2.cells
  clear hr
  go_wp2_with fail
  refine (Zan xo1 nx1 xc1 yo1 ny1 yc1 C ko1 kc1 W2 r HR).mono ?_
  rintro e w3 ⟨rfl,hB3⟩
  clear q0 q1 q2 q3 c0 c1 c2 c3 f0 hW2 hQ1 hS1 hG1'
  have hQ3:=hQ2.low hB3
  have hS3:=hS2.keep hB3
  have hG3:=hG2.trans (ZgY hB3 (some g))
  clear hQ2 hS2 hG2 hB3
  cases r with
  | true =>
   have e:K1=KF:=by
    have h1:=of_decide_eq_true HR.out.symm
    have:=HK3.out
    rw[if_neg (by omega)] at this
    exact this
   subst e
   go_wp2
   (try simp only[Exit.inBlock,Exit.then])
   refine bodyPost_ret (results_none rfl _ _ _) rfl ?_
   exact⟨rfl,hS3,hG3⟩
  | false =>
   have h1:=of_decide_eq_false HR.out.symm
   have hm0:A<b1∧C<d1:=by omega
   have HK2:Hid (wrk K1 (hmid x y (pcs (hmid x y) x y f) A b1 C d1)=KF):=(by
    show _=_
    have:=HK3.out
    rw[if_pos hm0] at this
    exact this)
   clear HK3 HR
   have hbx:=hp1.bx
   have hdy:=hp1.dy
   obtain⟨X,hX⟩:∃ X,sub x A b1=X:=⟨_,rfl⟩
   obtain⟨Y,hY⟩:∃ Y,sub y C d1=Y:=⟨_,rfl⟩
   have hXl:X.length=nx1:=by rw[← hX,Zlz x A b1 hbx];omega
   have hYl:Y.length=ny1:=by rw[← hY,Zlz y C d1 hdy];omega
   have hx3:HI w3 (.slice xo1 nx1 xc1) X:=by
    unfold HI
    rw[hXl,← hX]
    exact Holds.keep hp1.hx (fun q hq=>hS3.low.block q hq)
   have hy3:HI w3 (.slice yo1 ny1 yc1) Y:=by
    unfold HI
    rw[hYl,← hY]
    exact Holds.keep hp1.hy (fun q hq=>hS3.low.block q hq)
   have HW:Hid ((∀ c∈X,w64 c)∧(∀ c∈Y,w64 c)):=(by
    refine⟨fun c hc=>hwx c ?_,fun c hc=>hwy c ?_⟩
    ·rw[← hX] at hc
     exact List.mem_of_mem_drop (List.mem_of_mem_take hc)
    ·rw[← hY] at hc
     exact List.mem_of_mem_drop (List.mem_of_mem_take hc))
   have HX:Hid (X.length≤1048576∧Y.length≤1048576):=(by refine⟨?_,?_⟩<;>omega)
   obtain⟨o,ho⟩:∃ o,best X Y=o:=⟨_,rfl⟩
   have HO:Hid (best X Y=o):=ho
   have HK4:Hid (wrk K1 (hsel x y (pcs (hmid x y) x y f) A b1 C d1 o)=KF):=(by
    show _=_
    have:=HK2.out
    rw[hmid,hX,hY,ho] at this
    exact this)
   have HIn:Hid (∀ r,o=some r→0<r.N∧A+r.X+r.N≤b1∧C+r.Y+r.N≤d1∧r.R≤4096):=(by
    intro r hr
    have hrun:=(ZbG (ho.trans hr)).1
    have h2:=Zkw (x:=x) (y:=y) (a:=A) (b:=b1) (c:=C) (d:=d1) hbx hdy (by rw[hX,hY];exact hrun)
    have h3:r.R≤X.length:=by
     rw[hrun.r]
     have:∀ n,rar X r.X n≤X.length:=by
      intro n
      induction n with
      | zero=>exact Nat.le_refl _
      | succ n ih=>rw[rar];omega
     exact this _
    exact⟨h2.1,h2.2.1,h2.2.2.1,by omega⟩)
   clear hX hY hXl hYl HK2 ho
   obtain⟨q0,q1,q2,q3⟩:=hQ3.cells
   go_wp2_with fail
   refine (Zac X Y _ _ w3 hx3 hy3 HX.out.1 HX.out.2 HW.out.1 HW.out.2 o HO).mono ?_
   rintro e w4 ⟨rfl,hB4⟩
   have hQ4:=hQ3.low hB4
   have hS4:=hS3.keep hB4
   have hG4:=hG3.trans (ZgY hB4 (some g))
   clear q0 q1 q2 q3 hx3 hy3 HW HX HO hQ3 hS3 hG3 hB4
   have hs4:=hS4.low.size
   have hl4:=hS4.lt
   have hg4:=hG4.size
   have hq4:=hQ4.lt
   cases o with
   | none =>
    have e:K1=KF:=HK4.out
    subst e
    have hLn:Below w4.heap.size w4 (w4.alloc (.cells #[.int .i64 ((0:Nat):Int),.int .i64 ((0:Nat):Int),.int .i64 ((0:Nat):Int),.int .i64 ((0:Nat):Int)] 161)):=(Below.refl _ w4).alloc (Nat.le_refl _) _
    have hS5:=hS4.keep hLn
    have hG5:=hG4.trans (ZgY hLn (some g))
    simp only[Option.getD_none,Option.isSome_none,hrV]
    go_wp2
    (try simp only[Exit.inBlock,Exit.then])
    refine bodyPost_ret (results_none rfl _ _ _) rfl ?_
    exact⟨rfl,hS5,hG5⟩
   | some r =>
    obtain⟨hr1,hr2,hr3,hr4⟩:=HIn.out r rfl
    obtain⟨rX,rY,rN,rR⟩:=r
    simp only at hr1 hr2 hr3 hr4
    have HK4:Hid (wrk K1 (if 64<rR then lp A C (kp 0 (sub x A b1) (sub y C d1)) else fp (A+rX) (C+rY) rN++(pcs (hmid x y) x y f A (A+rX) C (C+rY)++pcs (hmid x y) x y f (A+rX+rN) b1 (C+rY+rN) d1))=KF):=HK4
    simp only[Option.getD_some,Option.isSome_some,hrV]
    have hHb:=Hbx.new w4 ⟨rX,rY,rN,rR⟩
    have hLn:Below w4.heap.size w4 (w4.alloc (.cells #[.int .i64 (rX:Int),.int .i64 (rY:Int),.int .i64 (rN:Int),.int .i64 (rR:Int)] 161)):=(Below.refl _ w4).alloc (Nat.le_refl _) _
    have hQ5:=hQ4.low hLn
    have hS5:=hS4.keep hLn
    have hG5:=hG4.trans (ZgY hLn (some g))
    obtain⟨W5,hW5⟩:∃ W5,w4.alloc (.cells #[.int .i64 (rX:Int),.int .i64 (rY:Int),.int .i64 (rN:Int),.int .i64 (rR:Int)] 161)=W5:=⟨_,rfl⟩
    have hgB:g≠w4.heap.size:=by omega
    obtain⟨B5,hB5⟩:∃ B,w4.heap.size=B:=⟨_,rfl⟩
    rw[hW5] at hHb hQ5 hS5 hG5
    rw[hB5] at hHb hgB
    clear hQ4 hS4 hG4 hLn HIn
    obtain⟨q0,q1,q2,q3⟩:=hQ5.cells
    obtain⟨t0,t1,t2,t3⟩:=hHb.cells
    by_cases h64:64<rR
    ·have e64:decide ((64:Int)<(rR:Int))=true:=decide_eq_true (by omega)
     have HK5:Hid (wrk K1 (lp A C (kp 0 (sub x A b1) (sub y C d1)))=KF):=(by
      show _=_
      have:=HK4.out
      rw[if_pos h64] at this
      exact this)
     clear HK4
     go_wp2_with fail
     clear hW5 hB5
     refine (ZaA x y W0 W5 g K1 A b1 C d1 xo1 nx1 xc1 yo1 ny1 yc1 ko1 kc1 hp1 hxl hyl hS5 KF HK5).mono ?_
     rintro e w6 ⟨rfl,hS6,hG6⟩
     have hG7:=hG5.trans hG6
     go_wp2
     (try simp only[Exit.inBlock,Exit.then])
     refine bodyPost_ret (results_none rfl _ _ _) rfl ?_
     exact⟨rfl,hS6,hG7⟩
    ·have e64:decide ((64:Int)<(rR:Int))=false:=decide_eq_false (by omega)
     have e64':decide (64<rR)=false:=decide_eq_false h64
     obtain⟨K6,hK6⟩:∃ K6,wrk K1 (fp (A+rX) (C+rY) rN)=K6:=⟨_,rfl⟩
     obtain⟨u2,hu⟩:∃ u,A+rX=u:=⟨_,rfl⟩
     obtain⟨v2,hv⟩:∃ v,C+rY=v:=⟨_,rfl⟩
     obtain⟨K7,hK7⟩:∃ K7,wrk K6 (pcs (hmid x y) x y f A u2 C v2)=K7:=⟨_,rfl⟩
     have HK7:Hid (wrk K6 (pcs (hmid x y) x y f A u2 C v2)=K7):=hK7
     obtain⟨p2,hp2⟩:∃ p,rX+rN=p:=⟨_,rfl⟩
     obtain⟨p3,hp3⟩:∃ p,rY+rN=p:=⟨_,rfl⟩
     obtain⟨u3,hu3⟩:∃ u,A+p2=u:=⟨_,rfl⟩
     obtain⟨v3,hv3⟩:∃ v,C+p3=v:=⟨_,rfl⟩
     have HK8:Hid (wrk K7 (pcs (hmid x y) x y f u3 b1 v3 d1)=KF):=(by
      show _=_
      have:=HK4.out
      rw[if_neg h64,Zoj,Zoj,hK6,hu,hv,hK7,show u2+rN=u3 by omega,show v2+rN=v3 by omega] at this
      exact this)
     clear HK4 hK7
     go_wp2_with fail
     clear hW5 hB5
     refine (ZaD K1 xo1 nx1 xc1 yo1 ny1 yc1 A C ko1 kc1 W5 rX rY rN hS5 hp1.at' (by omega) (by omega) (by omega) (by omega)).mono ?_
     rintro e w6 ⟨rfl,hS6,hG6⟩
     rw[hK6] at hS6
     have hQ6:=hQ5.keep hG6 (by simp;omega)
     have hH6:=hHb.keep hG6 (by simp;omega)
     have hG6':=hG5.trans hG6
     clear hK6 hQ5 hHb hS5 hG5 hG6 q0 q1 q2 q3 t0 t1 t2 t3
     obtain⟨q0,q1,q2,q3⟩:=hQ6.cells
     obtain⟨t0,t1,t2,t3⟩:=hH6.cells
     go_wp2_with fail
     refine (ZaW hp1 rX rY u2 v2 (by omega) (by omega) hu hv w6 w6 (Below.refl _ _)).mono ?_
     rintro e w7 ⟨xo2,nx2,xc2,yo2,ny2,yc2,ko2,kc2,rfl,hpa,hL7⟩
     have hS7:=hS6.keep hL7
     have hQ7:=hQ6.low hL7
     have hH7:=hH6.low hL7
     have hG7:=hG6'.trans (ZgY hL7 (some g))
     clear hQ6 hH6 hS6 hG6' hL7 q0 q1 q2 q3 t0 t1 t2 t3
     go_wp2_with fail
     refine (ih w7 K6 hS7 A u2 C v2 xo2 nx2 xc2 yo2 ny2 yc2 ko2 kc2 hpa (by omega) K7 HK7).mono ?_
     rintro e w8 ⟨rfl,hS8,hG8⟩
     have hQ8:=hQ7.keep hG8 (by simp;omega)
     have hH8:=hH7.keep hG8 (by simp;omega)
     have hG8':=hG7.trans hG8
     clear hQ7 hH7 hS7 hG7 hG8 hpa
     obtain⟨q0,q1,q2,q3⟩:=hQ8.cells
     obtain⟨t0,t1,t2,t3⟩:=hH8.cells
     have n1:(rX:Int)+(rN:Int)=(p2:Int):=by omega
     have n2:(rY:Int)+(rN:Int)=(p3:Int):=by omega
     go_wp2_with fail
     refine (Zas hp1 hyl p2 p3 u3 v3 (by omega) (by omega) hu3 hv3 w8 w8 (Below.refl _ _)).mono ?_
     rintro e w9 ⟨xo3,nx3,xc3,yo3,ny3,yc3,ko3,kc3,rfl,hpb,hL9⟩
     have hS9:=hS8.keep hL9
     have hG9:=hG8'.trans (ZgY hL9 (some g))
     clear hQ8 hH8 hS8 hG8' hL9 q0 q1 q2 q3 t0 t1 t2 t3
     go_wp2_with fail
     refine (ih w9 K7 hS9 u3 b1 v3 d1 xo3 nx3 xc3 yo3 ny3 yc3 ko3 kc3 hpb (by omega) KF HK8).mono ?_
     rintro e w10 ⟨rfl,hS10,hG10⟩
     have hG11:=hG9.trans hG10
     go_wp2
     go_end0
     exact⟨rfl,hS10,hG11⟩
theorem Zfa (x y:List Int) (vx vy:Value) (w:World) (hx:HI w vx x) (hy:HI w vy y) (hxl:x.length≤4096) (hyl:y.length≤4096) (hwx:∀ c∈x,w64 c) (hwy:∀ c∈y,w64 c) (L:List Ch) (hL:Hid (mkL (hKeep x y) y.length=L)) :
  Calls Tryz.prog 62 #[vx,vy] w fun e w'=>∃ v',e=.returned (.tuple #[v',.int .i64 0])∧HCh w' v' L∧Below w.heap.size w w':=by
 obtain⟨xo,xc,rfl⟩:=Holds.form hx
 obtain⟨yo,yc,rfl⟩:=Holds.form hy
 obtain⟨KF,hKF⟩:∃ KF,hKeep x y=KF:=⟨_,rfl⟩
 have HK:Hid (Kpt x y KF):=(by rw[← hKF];exact ZeO x y)
 have HF:Hid (wrk (List.replicate x.length (-1)) (pcs (hmid x y) x y (x.length+1) 0 x.length 0 y.length)=KF):=hKF
 rw[hKF] at hL
 have HWX:Hid (∀ c∈x,w64 c):=hwx
 have HWY:Hid (∀ c∈y,w64 c):=hwy
 clear hKF hwx hwy
 go_enter Tryz.func62,Tryz.ntmps62
 go_wp2_with fail
 refine (Ziq x y _ _ w hx hy hxl hyl 91 #[] (enters_of Tryz.func91 (by kernel_rfl) rfl) KF HK (fun u g xo xc yo yc hS hp=>ZeZ x y _ g hxl hyl HWX.out HWY.out (x.length+1) u _ hS 0 x.length 0 y.length _ _ _ _ _ _ _ _ hp (by omega) KF HF) L hL).mono ?_
 rintro e w2 ⟨v2,rfl,hv2,hB2⟩
 go_wp2
 go_ret2
 exact⟨_,rfl,hv2,hB2⟩
end

section
open Go.RowKit
def hrC (r:Hr):List Value:=[.int .i64 (r.X:Int),.int .i64 (r.Y:Int),.int .i64 (r.N:Int),.int .i64 (r.R:Int)]
def hrcells (l:List Hr):List Value:=l.flatMap hrC
theorem Zfn (l:List Hr):(hrcells l).length=l.length * 4:=by
 induction l with
 | nil=>rfl
 | cons c l ih=>simp only[hrcells,List.flatMap_cons,List.length_append,List.length_cons] at ih ⊢;rw[ih];simp[hrC];omega
theorem Zfm (l:List Hr) (k:Nat) (hk:k<l.length):(hrcells l)[4 * k]?=some (.int .i64 (l[k].X:Int))∧(hrcells l)[4 * k+1]?=some (.int .i64 (l[k].Y:Int))∧(hrcells l)[4 * k+2]?=some (.int .i64 (l[k].N:Int))∧(hrcells l)[4 * k+3]?=some (.int .i64 (l[k].R:Int)):=by
 induction l generalizing k with
 | nil=>simp at hk
 | cons c l ih =>
  cases k with
  | zero=>simp[hrcells,hrC]
  | succ k =>
   have h:=ih k (by simpa using hk)
   have e:∀ i,(hrcells (c::l))[4 * (k+1)+i]?=(hrcells l)[4 * k+i]?:=by
    intro i
    have:hrcells (c::l)=hrC c++hrcells l:=rfl
    rw[this,List.getElem?_append_right (by simp[hrC];omega)]
    congr 1
    simp[hrC];omega
   simp only[List.getElem_cons_succ]
   refine⟨by rw[← (h).1];exact e 0,by rw[← h.2.1];exact e 1,by rw[← h.2.2.1];exact e 2,by rw[← h.2.2.2];exact e 3⟩
def HHr (w:World) (v:Value) (l:List Hr):Prop:=Holds w v l.length (hrcells l)
theorem HHr.keep {w w':World} {v:Value} {l:List Hr} (h:HHr w v l) {N:Nat} (hk:Below N w w') (hN:w.heap.size≤N):HHr w' v l:=Holds.keep h fun k hk'=>hk.block k (by omega)
theorem HHr.at {w:World} {ao:Option Addr} {n c:Nat} {l:List Hr} (h:HHr w (.slice ao n c) l) (h0:0<l.length):∃ b off,ao=some ⟨b,off,none⟩∧b<w.heap.size ∧
  ∀ k (hk:k<l.length),w.cell? ⟨b,off+k * 4,none⟩=some (.int .i64 (l[k].X:Int))∧w.cell? ⟨b,off+k * 4+1,none⟩=some (.int .i64 (l[k].Y:Int))∧w.cell? ⟨b,off+k * 4+2,none⟩=some (.int .i64 (l[k].N:Int))∧w.cell? ⟨b,off+k * 4+3,none⟩=some (.int .i64 (l[k].R:Int)):=by
 obtain⟨b,off,c',hv,hb,hc⟩:=Holds.at h (by rw[Zfn];omega)
 cases hv
 refine⟨b,off,rfl,hb,fun k hk=>?_⟩
 obtain⟨h0,h1,h2,h3⟩:=Zfm l k hk
 have hlen:=Zfn l
 have e:k * 4=4 * k:=by omega
 rw[e]
 refine⟨?_,?_,?_,?_⟩
 ·have:=hc (4 * k) (by omega)
  rw[← h0,this,List.getElem?_eq_getElem]
 ·have:=hc (4 * k+1) (by omega)
  rw[← h1,Nat.add_assoc,this,List.getElem?_eq_getElem]
 ·have:=hc (4 * k+2) (by omega)
  rw[← h2,Nat.add_assoc,this,List.getElem?_eq_getElem]
 ·have:=hc (4 * k+3) (by omega)
  rw[← h3,Nat.add_assoc,this,List.getElem?_eq_getElem]
section
variable {u u':World} {B:Nat} {r:Hr}
end
end

section
open Go.RowKit
attribute [local simp] ZgX
end

section
open Go.RowKit
end

section
open Go.RowKit
attribute [local simp] ZgX
end

section
open Go.RowKit
end

section
open Go.RowKit
theorem Zeo {c:Int} {y:List Int} {nx k:Nat} {far:Int} (h1:nx≤k) (h2:(k:Int)-(nx:Int)<far) (h3:y[k]?=some c) (h4:∀ j,nx≤j→j<k→y[j]?≠some c):gdn c y nx far=some k:=by
 cases h:gdn c y nx far with
 | none=>exact absurd h3 (Zeq h k h1 (by omega))
 | some j =>
  obtain⟨q1,q2,q3,q4,q5⟩:=Zer h
  rcases Nat.lt_trichotomy j k with e | e | e
  ·exact absurd q4 (h4 j q1 e)
  ·rw[e]
  ·exact absurd h3 (q5 k h1 e)
theorem Zep {c:Int} {y:List Int} {nx k:Nat} {far:Int} (h2:y.length≤k∨far≤(k:Int)-(nx:Int)) (h4:∀ j,nx≤j→j<k→y[j]?≠some c):gdn c y nx far=none:=by
 cases h:gdn c y nx far with
 | none=>rfl
 | some j =>
  obtain⟨q1,q2,q3,q4,q5⟩:=Zer h
  exact absurd q4 (h4 j q1 (by omega))
def Gw (y:List Int) (far:Int) (G:List Int) (n:Nat) (x:List Int) (i nx:Nat) (Z:List Int):Prop:=Z.length=n∧Z.take i++gdy y far nx x=G
theorem Gw.hit {y:List Int} {far:Int} {G:List Int} {n i nx j:Nat} {c:Int} {x Z:List Int} (h:Gw y far G n (c::x) i nx Z) (hi:i<n) (hj:gdn c y nx far=some j):Gw y far G n x (i+1) (j+1) (Z.set i (j:Int)):=by
 refine⟨by rw[List.length_set];exact h.1,?_⟩
 rw[← h.2,gdy,hj,List.take_add_one,List.getElem?_set_self (by rw[h.1];exact hi)]
 rw[List.take_set_of_le (Nat.le_refl _)]
 simp
theorem Gw.miss {y:List Int} {far:Int} {G:List Int} {n i nx:Nat} {c:Int} {x Z:List Int} (h:Gw y far G n (c::x) i nx Z) (hi:i<n) (hj:gdn c y nx far=none):Gw y far G n x (i+1) nx (Z.set i (-1)):=by
 refine⟨by rw[List.length_set];exact h.1,?_⟩
 rw[← h.2,gdy,hj,List.take_add_one,List.getElem?_set_self (by rw[h.1];exact hi)]
 rw[List.take_set_of_le (Nat.le_refl _)]
 simp
theorem Zat (x y:List Int) (far:Int) (vx vy:Value) (w:World) (hx:HI w vx x) (hy:HI w vy y) (hxl:x.length≤1048576) (hyl:y.length≤1048576) (G:List Int) (hG:Hid (gdy y far 0 x=G)) :
  Calls Tryz.prog 94 #[vx,vy,.int .i64 far] w fun e w'=>∃ zo zc,e=.returned (.slice zo x.length zc)∧w'.ownsRow w.heap.size 3 1 (.slice zo x.length zc) x.length (icells G)∧Below w.heap.size w w':=by
 obtain⟨xo,xc,rfl⟩:=Holds.form hx
 obtain⟨yo,yc,rfl⟩:=Holds.form hy
 have hmk:=ZkA x.length (by omega)
 have hrow:=World.ownsRow_lit (base:=w.heap.size) (e:=3) (size:=1) w (madeCells #[Value.int IntKind.i64 0] x.length) x.length (Nat.le_refl _) (by unfold maxLen;omega) (by rw[size_madeCells];omega)
 have hB0:Below w.heap.size w (w.alloc (Obj.cells (madeCells #[Value.int IntKind.i64 0] x.length) 3)):=(Below.refl _ w).alloc (Nat.le_refl _) _
 rw[madeI] at hmk hrow hB0
 have hrow':(w.alloc (Obj.cells (List.replicate x.length (Value.int .i64 0)).toArray 3)).ownsRow w.heap.size 3 1 (.slice (some ⟨w.heap.size,0,none⟩) x.length x.length) x.length (icells (List.replicate x.length 0)):=by
  simpa [icells] using hrow
 have HW0:Hid (Gw y far G x.length (x.drop 0) 0 0 (List.replicate x.length 0)):=(by
  refine⟨by simp,?_⟩
  rw[List.take_zero,List.drop_zero,List.nil_append]
  exact hG.out)
 clear hrow hG
 go_enter Tryz.func94,Tryz.ntmps94
 go_wp2
 go_step3
 go_wp2
 go_step3
 go_wp2
 go_loopw [8,17] (fun fv iv wr=>∃ (i nx:Nat) (Z:List Int),i≤x.length∧nx≤y.length∧fv=.int .i64 nx∧iv=.int .i64 i∧Below w.heap.size w wr∧wr.ownsRow w.heap.size 3 1 (.slice (some ⟨w.heap.size,0,none⟩) x.length x.length) x.length (icells Z)∧Hid (Gw y far G x.length (x.drop i) i nx Z)) (fun _ iv _=>x.length-(intOf iv).toNat)
 case atStart=>exact⟨0,0,_,Nat.zero_le _,Nat.zero_le _,rfl,rfl,hB0,hrow',HW0⟩
 case round =>
  clear hB0 hrow' HW0 hmk
  obtain⟨i,nx,Z,hi,hnx,rfl,rfl,hB,hO,HW⟩:=hrel
  by_cases hlt:i<x.length
  ·obtain⟨xb,xf,rfl,_,hqx⟩:=HI.at (HI.keep hx hB (Nat.le_refl _)) (by omega)
   have x0:=hqx i hlt
   obtain⟨c,hc⟩:∃ c,x[i]=c:=⟨_,rfl⟩
   rw[hc] at x0
   have HW1:Hid (Gw y far G x.length (c::x.drop (i+1)) i nx Z):=(by
    have:=HW.out
    rw[List.drop_eq_getElem_cons hlt,hc] at this
    exact this)
   clear hqx hc HW
   have i1:0≤(i:Int):=by omega
   have i2:(i:Int)<(x.length:Int):=by omega
   go_wp2
   go_loopw [8,11] (fun fv av wi=>∃ (k:Nat),nx≤k∧k≤y.length∧fv=.int .i64 nx∧av=.int .i64 k∧wi=wr∧Hid (∀ j,nx≤j→j<k→y[j]?≠some c)) (fun _ av _=>y.length-(intOf av).toNat)
   case atStart=>exact⟨nx,Nat.le_refl _,hnx,rfl,rfl,rfl,fun j h1 h2=>by omega⟩
   case round =>
    clear x0
    obtain⟨k,hk1,hk2,rfl,rfl,rfl,HF⟩:=hrel
    have y1:=hO.frozenAt i
    have hZl:=HW1.out.1
    have z0:=hO.cellAt i (by omega)
    rw[List.getElem?_eq_getElem (by rw[icells_length];omega)] at z0
    obtain⟨z1,hz1⟩:∃ z,(icells Z)[i]'(by rw[icells_length];omega)=z:=⟨_,rfl⟩
    rw[hz1] at z0
    clear hz1 hZl
    by_cases hky:k<y.length
    ·by_cases hkf:(k:Int)-(nx:Int)<far
     ·obtain⟨yb,yf,rfl,_,hqy⟩:=HI.at (HI.keep hy hB (Nat.le_refl _)) (by omega)
      have y0:=hqy k hky
      obtain⟨d,hd⟩:∃ d,y[k]=d:=⟨_,rfl⟩
      rw[hd] at y0
      have HD:Hid (y[k]?=some d):=(by show _=_;rw[List.getElem?_eq_getElem hky,hd])
      have k1:(k:Int)<(y.length:Int):=by omega
      have k2:0≤(k:Int):=by omega
      have n1:IntKind.i64.wrap ((k:Int)-(nx:Int))=(k:Int)-(nx:Int):=by rw[IntKind.wrap_i64];omega
      clear hqy hd
      by_cases hcd:d=c
      ·subst hcd
       obtain⟨p1,g1⟩:=hO.stored i (.int .i64 (k:Int))
       rw[show (icells Z).set i (.int .i64 (k:Int))=icells (Z.set i (k:Int)) by simp[icells,List.map_set]] at p1
       have hB1:=hB.grown g1 hB.size (fun j hj=>by have:=Option.some.inj hj;omega)
       have HW2:Hid (Gw y far G x.length (x.drop (i+1)) (i+1) (k+1) (Z.set i (k:Int))):=HW1.out.hit hlt (Zeo hk1 hkf HD.out HF.out)
       clear g1
       go_wp2
       go_roundw
       case rel=>exact⟨i+1,k+1,_,by omega,by omega,by go_num,by go_num,hB1,p1,HW2⟩
       case measure=>simp[intOf];omega
      ·have e1:(d == c)=false:=by simpa using hcd
       have HF2:Hid (∀ j,nx≤j→j<k+1→y[j]?≠some c):=(by
        intro j h1 h2 h3
        by_cases e:j=k
        ·subst e
         rw[HD.out] at h3
         exact hcd (Option.some.inj h3)
        ·exact HF.out j h1 (by omega) h3)
       go_wp2
       go_roundw
       case rel=>exact⟨k+1,by omega,by omega,rfl,by go_num,trivial,HF2⟩
       case measure=>simp[intOf];omega
     ·have k1:(k:Int)<(y.length:Int):=by omega
      have n1:IntKind.i64.wrap ((k:Int)-(nx:Int))=(k:Int)-(nx:Int):=by rw[IntKind.wrap_i64];omega
      have hkf':far≤(k:Int)-(nx:Int):=by omega
      obtain⟨p1,g1⟩:=hO.stored i (.int .i64 (-1))
      rw[show (icells Z).set i (.int .i64 (-1))=icells (Z.set i (-1)) by simp[icells,List.map_set]] at p1
      have hB1:=hB.grown g1 hB.size (fun j hj=>by have:=Option.some.inj hj;omega)
      have HW2:Hid (Gw y far G x.length (x.drop (i+1)) (i+1) nx (Z.set i (-1))):=HW1.out.miss hlt (Zep (.inr hkf') HF.out)
      clear g1
      go_wp2
      go_roundw
      case rel=>exact⟨i+1,nx,_,by omega,hnx,by go_num,by go_num,hB1,p1,HW2⟩
      case measure=>simp[intOf];omega
    ·obtain rfl:k=y.length:=by omega
     obtain⟨p1,g1⟩:=hO.stored i (.int .i64 (-1))
     rw[show (icells Z).set i (.int .i64 (-1))=icells (Z.set i (-1)) by simp[icells,List.map_set]] at p1
     have hB1:=hB.grown g1 hB.size (fun j hj=>by have:=Option.some.inj hj;omega)
     have HW2:Hid (Gw y far G x.length (x.drop (i+1)) (i+1) nx (Z.set i (-1))):=HW1.out.miss hlt (Zep (.inl (Nat.le_refl _)) HF.out)
     clear g1
     go_wp2
     go_roundw
     case rel=>exact⟨i+1,nx,_,by omega,hnx,by go_num,by go_num,hB1,p1,HW2⟩
     case measure=>simp[intOf];omega
  ·obtain rfl:i=x.length:=by omega
   have e:Z=G:=by
    have:=HW.out
    rw[← this.2,List.drop_of_length_le (Nat.le_refl _),gdy,List.append_nil,List.take_of_length_le (by rw[this.1];exact Nat.le_refl _)]
   subst e
   clear HW
   go_wp2
   (try rw[Exit.noGoto_ret])
   go_ret
   exact⟨_,_,rfl,hO,hB⟩
end

section
open Go.RowKit
theorem Zhc (Z:List Int):∀ (a c:Int),(∀ z∈Z,z=-1)→lp a c Z=[]:=by
 induction Z with
 | nil=>intro a c _;rfl
 | cons z Z ih =>
  intro a c h
  rw[lp,if_pos (h z List.mem_cons_self),ih (a+1) c (fun q hq=>h q (List.mem_cons_of_mem _ hq))]
  rfl
theorem Zhb (a c:Int) (X Y:List Int) (h:X.length=0∨Y.length=0):lp a c (kp 0 X Y)=[]:=by
 refine Zhc _ a c fun z hz=>?_
 have hV:=Zgj 0 X Y (Int.le_refl _)
 rw[Int.zero_add] at hV
 rcases h with h | h
 ·rw[List.eq_nil_of_length_eq_zero h] at hz
  have:=Zgd 0 [] Y
  rw[List.eq_nil_of_length_eq_zero this] at hz
  cases hz
 ·have h1:=hV.each (Int.le_refl _) z hz
  have h2:=hV.lt z hz
  omega
theorem Zld (B:Int) (x y:List Int) (rec:Nat→Nat→Nat→Nat→List Pr) (A b C d:Nat) (hA:A≤b) (hC:C≤d) (hb:b≤x.length) (hd:d≤y.length):(if A<b∧C<d then smid B x y rec A b C d else [])=if ((b-A:Nat):Int) * ((d-C:Nat):Int)≤max 0 B then lp A C (kp 0 (sub x A b) (sub y C d)) else lp A C (gdy (sub y C d) 64 0 (sub x A b)):=by
 by_cases h:A<b∧C<d
 ·rw[if_pos h]
  rfl
 ·have h0:((b-A:Nat):Int) * ((d-C:Nat):Int)=0:=by
   rcases Nat.lt_or_ge A b with h1 | h1
   ·rw[show d-C=0 by omega]
    simp
   ·rw[show b-A=0 by omega]
    simp
  rw[if_neg h,if_pos (by rw[h0];omega),Zhb]
  rw[Zlz x A b hb,Zlz y C d hd]
  omega
theorem ZgS {u:World} {a:Addr} {ao:Option Addr} {n c:Nat} (h:u.cell? a=some (.slice ao n c)) {op:Oper} (x:Operand) (ho:op.op=.load 50 x) {ev:Operand→Value} (hx:ev x=.pointer (some a)) :
  (execOp ev op).run Tryz.prog u=.ok (.value (.slice ao n c)) u:=by
 simp only[execOp,ho,hx]
 go_simp
theorem ZeD {X Y:List Int} {xo:Option Addr} {nx xc:Nat} {yo:Option Addr} {ny yc:Nat} {u:World} {G:List Int} {B:Nat} {v0 v1 v2 v3:Value} (hl:X.length≤1048576∧Y.length≤1048576) (hX:X.length=nx) (hx:HI u (.slice xo nx xc) X) (hy:HI u (.slice yo ny yc) Y) (hG:Hid (gdy Y 64 0 X=G)) (hQ:Qbx u B v0 v1 v2 v3) :
  Calls Tryz.prog 94 (#[.slice xo nx xc,.slice yo ny yc,.int .i64 64]++#[]) u fun e w'=>∃ v,e=.returned v∧Qbx w' B v0 v1 v2 v3∧∃ zo zc,v=.slice zo nx zc∧w'.ownsRow u.heap.size 3 1 (.slice zo nx zc) nx (icells G)∧Below u.heap.size u w':=by
 subst hX
 refine (Zat X Y 64 _ _ u hx hy hl.1 hl.2 G hG).mono ?_
 rintro e w' ⟨zo,zc,rfl,h1,h2⟩
 exact⟨_,rfl,hQ.low h2,zo,zc,rfl,h1,h2⟩
theorem ZfO {x:List Int} {W0 u:World} {g B:Nat} {K Z:List Int} {a c:Nat} {xo:Option Addr} {nx xc:Nat} {yo:Option Addr} {ny yc:Nat} {ko:Option Addr} {kc:Nat} (hat:0<nx→ko=some ⟨g,a,none⟩) (hnx:a+nx≤x.length) (hny:c+ny≤4096) (hxl:x.length≤4096) {zo:Option Addr} {zc:Nat} (hZl:Z.length=nx) (hO:u.ownsRow B 3 1 (.slice zo nx zc) nx (icells Z)) (hgB:g<B) (hV:Vk 0 ny Z) (hS:Ls W0 g x.length K u) {KF:List Int} (hKF:Hid (wrk K (lp a c Z)=KF)) {Q:Nat} {v0 v1 v2 v3:Value} (hQ:Qbx u Q v0 v1 v2 v3) (hg:g≠Q) :
  Calls Tryz.prog 93 (#[.agg #[.slice xo nx xc,.slice yo ny yc,.int .i64 (c:Int),.slice ko nx kc],.slice zo nx zc]++#[]) u fun e w'=>∃ v,e=.returned v∧Qbx w' Q v0 v1 v2 v3∧v=.tuple #[]∧Ls W0 g x.length KF w'∧u.grownBy w' (some g):=by
 refine (Zay x W0 u g B K Z a c xo nx xc yo ny yc ko kc hat hnx hny hxl zo zc hZl hO hgB hV hS KF hKF).mono ?_
 rintro e w' ⟨rfl,h1,h2⟩
 exact⟨_,rfl,hQ.keep h2 (fun q=>hg (Option.some.inj q).symm),rfl,h1,h2⟩
theorem ZkR (x y:List Int) (W0:World) (g Bf:Nat) (bound:Int) (hf0:W0.cell? ⟨Bf,0,none⟩=some (.int .i64 bound)) (hxl:x.length≤4096) (hyl:y.length≤4096) (f:Nat) (w:World) (K:List Int) (hS:Ls W0 g x.length K w) (a b c d:Nat) (xo:Option Addr) (nx xc:Nat) (yo:Option Addr) (ny yc:Nat) (ko:Option Addr) (kc:Nat) (hp:Pz W0 g x y a b c d xo nx xc yo ny yc ko kc) (KF:List Int) (hKF:Hid (wrk K (pcs (smid bound x y) x y (f+1) a b c d)=KF)) :
  Calls Tryz.prog 92 #[.agg #[.slice xo nx xc,.slice yo ny yc,.int .i64 (c:Int),.slice ko nx kc],.pointer (some ⟨Bf,0,none⟩)] w fun e w'=>e=.returned (.tuple #[])∧Ls W0 g x.length KF w'∧w.grownBy w' (some g):=by
 have hg:=hS.lt
 have HKF:Hid (∀ k m,k=tf x y a b c d→m=tb x y (a+k) b (c+k) d→wrk (wrk K (fp a c k++bp b d m)) (if a+k<b-m∧c+k<d-m then smid bound x y (pcs (smid bound x y) x y f) (a+k) (b-m) (c+k) (d-m) else [])=KF):=(by
  intro k m hk hm
  rw[← hKF.out,pcs,ends,← hk,← hm,Zoj,Zoj,Zoj])
 have hQ0:=Qbx.new w (.slice xo nx xc) (.slice yo ny yc) (.int .i64 c) (.slice ko nx kc)
 have hB0:=(Below.refl w.heap.size w).alloc (Nat.le_refl _) (.cells #[.slice xo nx xc,.slice yo ny yc,.int .i64 c,.slice ko nx kc] 127)
 clear hKF
 go_enter Tryz.func92,Tryz.ntmps92
 go_wp2_with fail
 refine (Zaz x y W0 _ g K a b c d xo nx xc yo ny yc ko kc hp hxl hyl (hS.keep hB0)).mono ?_
 rintro e w1 ⟨k,m,xo1,nx1,xc1,yo1,ny1,yc1,ko1,kc1,hk,hm,rfl,hp1,hS1,hG1⟩
 have HK2:=HKF.out k m hk hm
 have hkl:=ZlG x y a b c d
 have hml:=ZlD x y (a+k) b (c+k) d
 rw[← hk] at hkl
 rw[← hm] at hml
 have hQ1:=hQ0.keep hG1 (by simp;omega)
 have hG1':w.grownBy w1 (some g):=(ZgY hB0 _).trans hG1
 clear hk hm HKF hS hB0 hQ0 hG1
 obtain⟨A,hA⟩:∃ A,a+k=A:=⟨_,rfl⟩
 obtain⟨C,hC⟩:∃ C,c+k=C:=⟨_,rfl⟩
 obtain⟨b1,hb1⟩:∃ B,b-m=B:=⟨_,rfl⟩
 obtain⟨d1,hd1⟩:∃ D,d-m=D:=⟨_,rfl⟩
 obtain⟨K1,hK1⟩:∃ K1,wrk K (fp a c k++bp b d m)=K1:=⟨_,rfl⟩
 rw[hK1] at hS1 HK2
 rw[hA,hC,hb1,hd1] at HK2 hp1
 rw[hC]
 clear hA hC hb1 hd1 hK1 hkl hml hp
 have hAb:=hp1.eb
 have hCd:=hp1.ed
 have hbx:=hp1.bx
 have hdy:=hp1.dy
 rw[Zld bound x y _ A b1 C d1 (by omega) (by omega) hbx hdy] at HK2
 obtain⟨P,hP⟩:∃ P,nx1 * ny1=P:=⟨_,rfl⟩
 obtain⟨M,hM⟩:∃ M,max 0 bound=M:=⟨_,rfl⟩
 have hPi:(nx1:Int) * (ny1:Int)=(P:Int):=by rw[← hP];simp
 have hPb:P≤4096 * 4096:=by rw[← hP];exact Nat.mul_le_mul (by omega) (by omega)
 have HK3:Hid (wrk K1 (if (P:Int)≤M then lp A C (kp 0 (sub x A b1) (sub y C d1)) else lp A C (gdy (sub y C d1) 64 0 (sub x A b1)))=KF):=(by
  show _=_
  rw[show b1-A=nx1 by omega,show d1-C=ny1 by omega,hPi,hM] at HK2
  exact HK2)
 have hmax:∀ w:World,(Builtin.max_ #[3,3] 3 #[.int .i64 bound,.int .i64 0]).run Tryz.prog w=.ok (.int .i64 M) w:=by
  intro w
  rw[run_max_int2,← hM]
  congr 2
  split<;>omega
 clear HK2 hP
 obtain⟨c0,c1,c2,c3⟩:=hQ1.cells
 have f0:=hQ1.frozen
 have hQ2:=hQ1.put (.slice xo1 nx1 xc1) (.slice yo1 ny1 yc1) (.int .i64 (C:Int)) (.slice ko1 nx1 kc1)
 have hgw:=hS1.low.size
 have hgl:=hS1.lt
 have hS2:=Zhe (Zhe (Zhe (Zhe hS1 (g:=w.heap.size) (by omega) (by omega) 0 (.slice xo1 nx1 xc1)) (g:=w.heap.size) (by omega) (by omega) 1 (.slice yo1 ny1 yc1)) (g:=w.heap.size) (by omega) (by omega) 2 (.int .i64 (C:Int))) (g:=w.heap.size) (by omega) (by omega) 3 (.slice ko1 nx1 kc1)
 have hG2:=ZeG (ZeG (ZeG (ZeG hG1' (B:=w.heap.size) (by omega) 0 (.slice xo1 nx1 xc1)) (B:=w.heap.size) (by omega) 1 (.slice yo1 ny1 yc1)) (B:=w.heap.size) (by omega) 2 (.int .i64 (C:Int))) (B:=w.heap.size) (by omega) 3 (.slice ko1 nx1 kc1)
 obtain⟨W2,hW2⟩:∃ W2,(((w1.setCell ⟨w.heap.size,0,none⟩ (.slice xo1 nx1 xc1)).setCell ⟨w.heap.size,1,none⟩ (.slice yo1 ny1 yc1)).setCell ⟨w.heap.size,2,none⟩ (.int .i64 (C:Int))).setCell ⟨w.heap.size,3,none⟩ (.slice ko1 nx1 kc1)=W2:=⟨_,rfl⟩
 rw[hW2] at hQ2 hS2 hG2
 have hbd:W2.cell? ⟨Bf,0,none⟩=some (.int .i64 bound):=by
  have:Bf<W0.heap.size:=by
   rcases Nat.lt_or_ge Bf W0.heap.size with h | h
   ·exact h
   ·unfold World.cell? at hf0
    rw[Array.getElem?_eq_none h] at hf0
    cases hf0
  rw[World.cell?_of_block (w:=W0) (hS2.low.block Bf this)]
  exact hf0
 unfold pzV
 obtain⟨q0,q1,q2,q3⟩:=hQ2.cells
 by_cases hle:(P:Int)≤M
 ·have HK4:Hid (wrk K1 (lp A C (kp 0 (sub x A b1) (sub y C d1)))=KF):=(by
   show _=_
   have:=HK3.out
   rw[if_pos hle] at this
   exact this)
  clear HK3
  go_wp2_with fail
  clear hW2
  refine (ZaA x y W0 W2 g K1 A b1 C d1 xo1 nx1 xc1 yo1 ny1 yc1 ko1 kc1 hp1 hxl hyl hS2 KF HK4).mono ?_
  rintro e w6 ⟨rfl,hS6,hG6⟩
  have hG7:=hG2.trans hG6
  go_wp2
  go_end0
  exact⟨rfl,hS6,hG7⟩
 ·obtain⟨X,hX⟩:∃ X,sub x A b1=X:=⟨_,rfl⟩
  obtain⟨Y,hY⟩:∃ Y,sub y C d1=Y:=⟨_,rfl⟩
  obtain⟨G,hG⟩:∃ G,gdy Y 64 0 X=G:=⟨_,rfl⟩
  have hXl:X.length=nx1:=by rw[← hX,Zlz x A b1 hbx];omega
  have hYl:Y.length=ny1:=by rw[← hY,Zlz y C d1 hdy];omega
  have hx3:HI W2.drew (.slice xo1 nx1 xc1) X:=by
   unfold HI
   rw[hXl,← hX]
   exact Holds.keep hp1.hx (fun q hq=>hS2.low.block q hq)
  have hy3:HI W2.drew (.slice yo1 ny1 yc1) Y:=by
   unfold HI
   rw[hYl,← hY]
   exact Holds.keep hp1.hy (fun q hq=>hS2.low.block q hq)
  have HG:Hid (gdy Y 64 0 X=G):=hG
  have HGl:Hid (G.length=nx1):=(by show _=_;rw[← hG,Zes,hXl])
  have HGv:Hid (Vk 0 ny1 G):=(by
   have:=Zev Y 64 X 0
   rw[hG,hYl] at this
   exact this)
  have HX:Hid (X.length≤1048576∧Y.length≤1048576):=(by refine⟨?_,?_⟩<;>omega)
  have HK4:Hid (wrk K1 (lp A C G)=KF):=(by
   show _=_
   have:=HK3.out
   rw[if_neg hle,hX,hY,hG] at this
   exact this)
  have hnx1:A+nx1≤x.length:=by omega
  have hny1:C+ny1≤4096:=by omega
  have hgW:g<W2.drew.heap.size:=hS2.lt.2
  have hgw2:g≠w.heap.size:=by omega
  have hle':M<(P:Int):=by omega
  have hle2:decide ((P:Int)≤M)=false:=decide_eq_false hle
  clear HK3 hG hX hY
  go_wp2_with fail
  clear hW2 q0 q1 q2 q3 c0 c1 c2 c3
  refine wp_region_noPanic ?_
  refine wp_region_held_drew (S:=fun u=>Qbx u w.heap.size (.slice xo1 nx1 xc1) (.slice yo1 ny1 yc1) (.int .i64 (C:Int)) (.slice ko1 nx1 kc1)) (by kernel_rfl) (hQ2.drewN 1) (fun hHeld=>?_)
  refine Y_t 0 17 _ (.agg #[.slice xo1 nx1 xc1,.slice yo1 ny1 yc1,.int .i64 (C:Int),.slice ko1 nx1 kc1]) rfl (Or.inl ⟨by kernel_rfl,fun u hu=>ZgR hu (.tmp 2) (by kernel_rfl) (by kernel_rfl)⟩) hHeld ?_
  simp only[Act.put,Y_a,Y_b,Y_c]
  refine Y_t 1 18 _ (.pointer (some ⟨w.heap.size,0,none⟩)) rfl (Or.inl ⟨by kernel_rfl,fun u hu=>by kernel_rfl⟩) hHeld ?_
  simp only[Act.put,Y_a,Y_b,Y_c]
  refine Y_t 2 19 _ (.slice xo1 nx1 xc1) rfl (Or.inl ⟨by kernel_rfl,fun u hu=>ZgS hu.cells.1 (.tmp 18) (by kernel_rfl) (by kernel_rfl)⟩) hHeld ?_
  simp only[Act.put,Y_a,Y_b,Y_c]
  refine Y_t 3 20 _ (.pointer (some ⟨w.heap.size,1,none⟩)) rfl (Or.inl ⟨by kernel_rfl,fun u hu=>by kernel_rfl⟩) hHeld ?_
  simp only[Act.put,Y_a,Y_b,Y_c]
  refine Y_t 4 21 _ (.slice yo1 ny1 yc1) rfl (Or.inl ⟨by kernel_rfl,fun u hu=>ZgS hu.cells.2.1 (.tmp 20) (by kernel_rfl) (by kernel_rfl)⟩) hHeld ?_
  simp only[Act.put,Y_a,Y_b,Y_c]
  refine Y_e 5 22 _ rfl 94 (.func 94) #[.tmp 19,.tmp 21,.const (.int .i64 64)] #[50,50,3] (by kernel_rfl) #[] (by kernel_rfl) #[.slice xo1 nx1 xc1,.slice yo1 ny1 yc1,.int .i64 64] (by kernel_rfl) (enters_of Tryz.func94 (by kernel_rfl) rfl) _ (ZeD HX.out hXl hx3 hy3 HG hHeld) ?_
  rintro _ u5 hHeld ⟨zo,zc,rfl,hO5,hL5⟩
  simp only[Act.put,Y_a,Y_b,Y_c]
  have hgB:g<W2.drew.heap.size:=hgW
  have hS5:=(hS2.keep (Below.dN (Below.refl _ W2) 1)).keep hL5
  have hG5:=hG2.trans (ZgY ((Below.dN (Below.refl W2.heap.size W2) 1).trans hL5) (some g))
  refine Y_e 6 23 _ rfl 93 (.func 93) #[.tmp 17,.tmp 22] #[127,50] (by kernel_rfl) #[] (by kernel_rfl) #[.agg #[.slice xo1 nx1 xc1,.slice yo1 ny1 yc1,.int .i64 (C:Int),.slice ko1 nx1 kc1],.slice zo nx1 zc] (by kernel_rfl) (enters_of Tryz.func93 (by kernel_rfl) rfl) _ (ZfO (by have:=hp1.at';exact this) hnx1 hny1 hxl HGl.out hO5 hgB HGv.out hS5 HK4 hHeld hgw2) ?_
  rintro _ u6 hHeld ⟨rfl,hS6,hG6⟩
  simp only[Act.put,Y_a,Y_b,Y_c]
  refine wpAnyH_done (by kernel_rfl) ?_ _
  refine NoPanic.normal ?_
  have hG7:=hG5.trans hG6
  go_wp2
  go_end0
  exact⟨rfl,hS6,hG7⟩
theorem Zlf (x y:List Int) (bound:Int) (vx vy:Value) (w:World) (hx:HI w vx x) (hy:HI w vy y) (hxl:x.length≤4096) (hyl:y.length≤4096) (L:List Ch) (hL:Hid (mkL (sKeep bound x y) y.length=L)) :
  Calls Tryz.prog 64 #[vx,vy,.int .i64 bound] w fun e w'=>∃ v',e=.returned (.tuple #[v',.int .i64 0])∧HCh w' v' L∧Below w.heap.size w w':=by
 obtain⟨xo,xc,rfl⟩:=Holds.form hx
 obtain⟨yo,yc,rfl⟩:=Holds.form hy
 obtain⟨KF,hKF⟩:∃ KF,sKeep bound x y=KF:=⟨_,rfl⟩
 have HK:Hid (Kpt x y KF):=(by rw[← hKF];exact ZkH bound x y)
 have HF:Hid (wrk (List.replicate x.length (-1)) (pcs (smid bound x y) x y (x.length+1) 0 x.length 0 y.length)=KF):=hKF
 rw[hKF] at hL
 clear hKF
 have hW1:Below w.heap.size w (w.alloc (.cells #[.int .i64 bound] 3)):=(Below.refl _ w).alloc (Nat.le_refl _) _
 have hf0:(w.alloc (.cells #[.int .i64 bound] 3)).cell? ⟨w.heap.size,0,none⟩=some (.int .i64 bound):=by
  rw[Lib.cell_of_heap (_root_.Go.heap_alloc_new w _)]
  rfl
 go_enter Tryz.func64,Tryz.ntmps64
 go_wp2_with fail
 refine (Ziq x y _ _ _ (HI.keep hx hW1 (Nat.le_refl _)) (HI.keep hy hW1 (Nat.le_refl _)) hxl hyl 92 #[.pointer (some ⟨w.heap.size,0,none⟩)] (enters_of Tryz.func92 (by kernel_rfl) rfl) KF HK (fun u g xo xc yo yc hS hp=>ZkR x y _ g w.heap.size bound hf0 hxl hyl x.length u _ hS 0 x.length 0 y.length _ _ _ _ _ _ _ _ hp KF HF) L hL).mono ?_
 rintro e w2 ⟨v2,rfl,hv2,hB2⟩
 have hB:=hW1.trans (hB2.mono (by simp))
 clear hf0
 go_wp2
 go_ret2
 exact⟨_,rfl,hv2,hB⟩
end

end Go.Proofs.YtcnjephlmcnodaaGreatDoor

/- Greedy from the last place down, as the reference goes: plain. -/
namespace Go.Proofs.YtcnjephlmcnodaaGreatDoor
end Go.Proofs.YtcnjephlmcnodaaGreatDoor

namespace Go.Proofs.YtcnjephlmcnodaaGreatDoor

section
open Go.RowKit
end

section
open Go.RowKit
attribute [local simp] ZgX
end

section
open Go.RowKit
def mkC (m:Mk):List Value:=[.int .u8 m.sg,.string ⟨m.tx.toArray⟩]
def mkcells (l:List Mk):List Value:=l.flatMap mkC
theorem ZhD (l:List Mk):(mkcells l).length=l.length * 2:=by
 induction l with
 | nil=>rfl
 | cons c l ih=>simp only[mkcells,List.flatMap_cons,List.length_append,List.length_cons] at ih ⊢;rw[ih];simp[mkC];omega
theorem ZhC (l:List Mk) (k:Nat) (hk:k<l.length):(mkcells l)[2 * k]?=some (.int .u8 l[k].sg)∧(mkcells l)[2 * k+1]?=some (.string ⟨l[k].tx.toArray⟩):=by
 induction l generalizing k with
 | nil=>simp at hk
 | cons c l ih =>
  cases k with
  | zero=>simp[mkcells,mkC]
  | succ k =>
   have h:=ih k (by simpa using hk)
   have e:∀ i,(mkcells (c::l))[2 * (k+1)+i]?=(mkcells l)[2 * k+i]?:=by
    intro i
    have:mkcells (c::l)=mkC c++mkcells l:=rfl
    rw[this,List.getElem?_append_right (by simp[mkC];omega)]
    congr 1
    simp[mkC];omega
   simp only[List.getElem_cons_succ]
   refine⟨by rw[← (h).1];exact e 0,by rw[← h.2];exact e 1⟩
def HMk (w:World) (v:Value) (l:List Mk):Prop:=Holds w v l.length (mkcells l)
theorem HMk.keep {w w':World} {v:Value} {l:List Mk} (h:HMk w v l) {N:Nat} (hk:Below N w w') (hN:w.heap.size≤N):HMk w' v l:=Holds.keep h fun k hk'=>hk.block k (by omega)
theorem HMk.at {w:World} {ao:Option Addr} {n c:Nat} {l:List Mk} (h:HMk w (.slice ao n c) l) (h0:0<l.length):∃ b off,ao=some ⟨b,off,none⟩∧b<w.heap.size ∧
  ∀ k (hk:k<l.length),w.cell? ⟨b,off+k * 2,none⟩=some (.int .u8 l[k].sg)∧w.cell? ⟨b,off+k * 2+1,none⟩=some (.string ⟨l[k].tx.toArray⟩):=by
 obtain⟨b,off,c',hv,hb,hc⟩:=Holds.at h (by rw[ZhD];omega)
 cases hv
 refine⟨b,off,rfl,hb,fun k hk=>?_⟩
 obtain⟨h0,h1⟩:=ZhC l k hk
 have hlen:=ZhD l
 have e:k * 2=2 * k:=by omega
 rw[e]
 refine⟨?_,?_⟩
 ·have:=hc (2 * k) (by omega)
  rw[← h0,this,List.getElem?_eq_getElem]
 ·have:=hc (2 * k+1) (by omega)
  rw[← h1,Nat.add_assoc,this,List.getElem?_eq_getElem]
def hkC (h:Hk) (v:Value):List Value:=[.int .i64 h.A,.int .i64 h.AN,.int .i64 h.B,.int .i64 h.BN,v]
section
variable {u u':World} {b:Nat} {h:Hk} {v:Value}
end
def hkcells:List (Hk × Value)→List Value
 | []=>[]
 | (h,v)::l=>hkC h v++hkcells l
theorem Zfd (l:List (Hk × Value)):(hkcells l).length=l.length * 5:=by
 induction l with
 | nil=>rfl
 | cons c l ih =>
  obtain⟨h,v⟩:=c
  simp only[hkcells,List.length_append,List.length_cons]
  rw[ih]
  simp[hkC];omega
theorem Zfc (l:List (Hk × Value)) (k:Nat) (hk:k<l.length):(hkcells l)[5 * k]?=some (.int .i64 l[k].1.A)∧(hkcells l)[5 * k+1]?=some (.int .i64 l[k].1.AN)∧(hkcells l)[5 * k+2]?=some (.int .i64 l[k].1.B)∧(hkcells l)[5 * k+3]?=some (.int .i64 l[k].1.BN)∧(hkcells l)[5 * k+4]?=some l[k].2:=by
 induction l generalizing k with
 | nil=>simp at hk
 | cons c l ih =>
  obtain⟨x,y⟩:=c
  cases k with
  | zero=>simp[hkcells,hkC]
  | succ k =>
   have h:=ih k (by simpa using hk)
   have e:∀ i,(hkcells ((x,y)::l))[5 * (k+1)+i]?=(hkcells l)[5 * k+i]?:=by
    intro i
    have:hkcells ((x,y)::l)=hkC x y++hkcells l:=rfl
    rw[this,List.getElem?_append_right (by simp[hkC];omega)]
    congr 1
    simp[hkC];omega
   simp only[List.getElem_cons_succ]
   refine⟨by rw[← (h).1];exact e 0,by rw[← h.2.1];exact e 1,by rw[← h.2.2.1];exact e 2,by rw[← h.2.2.2.1];exact e 3,by rw[← h.2.2.2.2];exact e 4⟩
structure HHp (w:World) (v:Value) (p:List (Hk × Value)):Prop where
 row:Holds w v p.length (hkcells p)
 ins:∀ x∈p,HMk w x.2 x.1.ls
def HHk (w:World) (v:Value) (l:List Hk):Prop:=∃ p:List (Hk × Value),p.map (·.1)=l∧HHp w v p
theorem HHp.keep {w w':World} {v:Value} {p:List (Hk × Value)} (h:HHp w v p) {N:Nat} (hk:Below N w w') (hN:w.heap.size≤N):HHp w' v p :=
 ⟨Holds.keep h.row fun k hk'=>hk.block k (by omega),fun x hx=>HMk.keep (h.ins x hx) hk hN⟩
theorem HHk.keep {w w':World} {v:Value} {l:List Hk} (h:HHk w v l) {N:Nat} (hk:Below N w w') (hN:w.heap.size≤N):HHk w' v l:=by
 obtain⟨p,hp,h⟩:=h
 exact⟨p,hp,h.keep hk hN⟩
theorem HHp.at {w:World} {ao:Option Addr} {n c:Nat} {l:List (Hk × Value)} (h:HHp w (.slice ao n c) l) (h0:0<l.length):∃ b off,ao=some ⟨b,off,none⟩∧b<w.heap.size ∧
  ∀ k (hk:k<l.length),w.cell? ⟨b,off+k * 5,none⟩=some (.int .i64 l[k].1.A)∧w.cell? ⟨b,off+k * 5+1,none⟩=some (.int .i64 l[k].1.AN)∧w.cell? ⟨b,off+k * 5+2,none⟩=some (.int .i64 l[k].1.B)∧w.cell? ⟨b,off+k * 5+3,none⟩=some (.int .i64 l[k].1.BN)∧w.cell? ⟨b,off+k * 5+4,none⟩=some l[k].2:=by
 obtain⟨b,off,c',hv,hb,hc⟩:=Holds.at h.row (by rw[Zfd];omega)
 cases hv
 refine⟨b,off,rfl,hb,fun k hk=>?_⟩
 obtain⟨h0,h1,h2,h3,h4⟩:=Zfc l k hk
 have hlen:=Zfd l
 have e:k * 5=5 * k:=by omega
 rw[e]
 refine⟨?_,?_,?_,?_,?_⟩
 ·have:=hc (5 * k) (by omega)
  rw[← h0,this,List.getElem?_eq_getElem]
 ·have:=hc (5 * k+1) (by omega)
  rw[← h1,Nat.add_assoc,this,List.getElem?_eq_getElem]
 ·have:=hc (5 * k+2) (by omega)
  rw[← h2,Nat.add_assoc,this,List.getElem?_eq_getElem]
 ·have:=hc (5 * k+3) (by omega)
  rw[← h3,Nat.add_assoc,this,List.getElem?_eq_getElem]
 ·have:=hc (5 * k+4) (by omega)
  rw[← h4,Nat.add_assoc,this,List.getElem?_eq_getElem]
theorem HMk.form {w:World} {v:Value} {l:List Mk} (h:HMk w v l):∃ ao c,v=.slice ao l.length c:=Holds.form h
theorem Zff (w:World) (base:Nat) (e:TypeId) (s:Nat):w.ownsRow base e s (.slice none 0 0) 0 []:=⟨by simp,.inl ⟨rfl,rfl⟩⟩
end

section
open Go.RowKit
end

section
open Go.RowKit
theorem bat (l:List UInt8) (k:Nat) (h:k<(⟨l.toArray⟩:ByteArray).size):(⟨l.toArray⟩:ByteArray)[k]'h=l[k]'(h):=rfl
attribute [local go_sem] bat ByteArray.extract_mk
end

section
open Go.RowKit
section
variable {u u':World} {b:Nat} {m:Mk}
end
end

section
open Go.RowKit
end

section
open Go.RowKit
theorem HHp.take {w W:World} {b off n c:Nat} {p:List (Hk × Value)} (h:HHp w (.slice (some ⟨b,off,none⟩) n c) p) (hB:Below w.heap.size w W) (k:Nat) (hk:k<p.length) {x:Hk} {y:Value} (hx:p[k]=(x,y)):(W.cell? ⟨b,off+k * 5,none⟩=some (.int .i64 x.A)∧W.cell? ⟨b,off+k * 5+1,none⟩=some (.int .i64 x.AN)∧W.cell? ⟨b,off+k * 5+2,none⟩=some (.int .i64 x.B)∧W.cell? ⟨b,off+k * 5+3,none⟩=some (.int .i64 x.BN)∧W.cell? ⟨b,off+k * 5+4,none⟩=some y)∧HMk W y x.ls:=by
 have h2:=h.keep hB (Nat.le_refl _)
 obtain⟨b',off',e,_,hc⟩:=h2.at (by omega)
 cases e
 have:=hc k hk
 rw[hx] at this
 refine⟨this,?_⟩
 have hi:=h2.ins p[k] (List.getElem_mem hk)
 rw[hx] at hi
 exact hi
end

section
open Go.RowKit
end

section
open Go.RowKit
def HkAt (u:World) (b o:Nat) (x:Hk) (y:Value):Prop:=u.cell? ⟨b,o,none⟩=some (.int .i64 x.A)∧u.cell? ⟨b,o+1,none⟩=some (.int .i64 x.AN)∧u.cell? ⟨b,o+2,none⟩=some (.int .i64 x.B)∧u.cell? ⟨b,o+3,none⟩=some (.int .i64 x.BN)∧u.cell? ⟨b,o+4,none⟩=some y
theorem HkAt.low {u u':World} {b o:Nat} {x:Hk} {y:Value} (h:HkAt u b o x y) (hB:Low u u'):HkAt u' b o x y:=by
 have key:∀ (q:Addr) (z:Value),u.cell? q=some z→u'.cell? q=some z:=fun q z hz=>(World.cell?_of_block (w:=u) (Below.block hB _ (World.block_lt_of_cell? _ _ hz))).trans hz
 exact⟨key _ _ h.1,key _ _ h.2.1,key _ _ h.2.2.1,key _ _ h.2.2.2.1,key _ _ h.2.2.2.2⟩
end

section
open Go.RowKit
theorem Zig {u:World} {base:Nat} {e:TypeId} {s:Nat} {v:Value} {n:Nat} {xs:List Value} (h:u.ownsRow base e s v n xs) {g:Nat} (hg:v.ownBlock=some g):g<u.heap.size:=by
 rcases h.2 with ⟨rfl,_⟩ | ⟨b,cap,cur,rfl,_,hb,_⟩
 ·cases hg
 ·simp[Value.ownBlock] at hg
  subst hg
  exact (Array.getElem?_eq_some_iff.1 hb).1
theorem Zih {u:World} {base base':Nat} {e e':TypeId} {s s':Nat} {v v':Value} {n n':Nat} {xs xs':List Value} (h:u.ownsRow base e s v n xs) (h':u.ownsRow base' e' s' v' n' xs') (he:e≠e') {g:Nat} (hg:v.ownBlock=some g):v'.ownBlock≠some g:=by
 intro hg'
 rcases h.2 with ⟨rfl,_⟩ | ⟨b,cap,cur,rfl,_,hb,_⟩
 ·cases hg
 ·rcases h'.2 with ⟨rfl,_⟩ | ⟨b',cap',cur',rfl,_,hb',_⟩
  ·cases hg'
  ·simp[Value.ownBlock] at hg hg'
   subst hg hg'
   rw[hb] at hb'
   simp at hb'
   exact he hb'.2
end

section
open Go.RowKit
section
variable {w:World} {q:Hk} {ov ov' av av':Value} {x x' y y':List Mk} {u u':World}
theorem Zif {e:TypeId} {s B:Nat} {v:Value} {n:Nat} {xs:List Value} (ho:u.ownsRow B e s v n xs) {g:Option Nat} (hg:u.grownBy u' g) (hne:∀ k,g=some k→v.ownBlock≠some k):u'.ownsRow B e s v n xs:=by
 refine⟨ho.1,?_⟩
 rcases ho.2 with q | ⟨b,cap,cur,rfl,q2,q3,q4⟩
 ·exact .inl q
 ·refine .inr ⟨b,cap,cur,rfl,q2,?_,q4⟩
  rw[hg.block b (Array.getElem?_eq_some_iff.1 q3).1 (fun e=>hne b e.symm rfl)]
  exact q3
end
end

section
open Go.RowKit
section
variable {u:World} {b:Nat} {A AN B BN:Int} {ls:List Mk} {v:Value}
end
end

end Go.Proofs.YtcnjephlmcnodaaGreatDoor
