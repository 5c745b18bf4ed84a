/-
  Texts that belong together, joined: PaCp, PaIn, PaRp, PaSr, PaHd, PaWi, PaBk, PaRs, MiWm, EdRMk, MiTb, PaRl, PaRg.
-/
import Derived.Test.YtkiaenncemfkcaaGreatDoorRcsA5
import Derived.Laws.CopyOwn
import Derived.Lib.Overlaps
import Derived.Lib.AppendZerosOnto
import Derived.Deep.CutRange
import Derived.Shelf.RegionOpenPlain

set_option maxHeartbeats 16000000
set_option maxRecDepth 100000
namespace Go.Proofs.YtkiaenncemfkcaaGreatDoor

section
open Go.RowKit
def Blk (w:World) (g:Nat) (cur:List Value):Prop:=w.heap[g]?=some (.cells cur.toArray 187 (0,0))
def spl (cur:List Value) (o:Nat) (cs:List Value):List Value:=cur.take o++cs++cur.drop (o+cs.length)
theorem ZyE {cur:List Value} {o:Nat} {cs:List Value} (h:o+cs.length≤cur.length):(spl cur o cs).length=cur.length:=by
 unfold spl
 simp
 omega
theorem ZyF {cur:List Value} {o:Nat} {cs:List Value} (h:o+cs.length≤cur.length) (k:Nat) (hk:k=o+cs.length):(spl cur o cs).take k=cur.take o++cs:=by
 unfold spl
 subst hk
 rw[List.take_left' (by simp;omega)]
theorem Blk.cell {w:World} {g:Nat} {cur:List Value} (h:Blk w g cur) (j:Nat):w.cell? ⟨g,j,none⟩=cur[j]?:=by
 rw[cell_of_row w g j cur.toArray _ (0,0) h]
 simp
theorem ZxY:∀ u:World,(sizeOf 187).run Tryz.prog u=.ok 2 u:=fun u=>by kernel_rfl
theorem ZxT (w:World) (g:Nat) (cs:Array Value):w.grownBy (w.setRow g cs) (some g) :=
 ⟨rfl,rfl,rfl,by simp[World.setRow],fun k _ hk=>setRow_other w g k cs (fun e=>hk (by rw[e]))⟩
theorem ZwL {T T':TypeId} (hT:Tryz.prog.underlying T=some (.slice 187)) (w:World) (ty:TypeId) (g o dLen dCap:Nat) (a:Addr) (sLen sCap:Nat) (cur cs:List Value) (k:Nat)
  (hg:Blk w g cur) (hk:Nat.min sLen dLen=k) (hn:cs.length=k * 2) (hsrc:∀ j v,cs[j]?=some v→w.cell? (a.add j)=some v) (hfit:o+cs.length≤cur.length) (h1:∀ v∈cs,v.oneCell'=true) :
  (Builtin.copy_ #[T,T'] ty #[.slice (some ⟨g,o,none⟩) dLen dCap,.slice (some a) sLen sCap]).run Tryz.prog w=.ok (goInt k) (w.setRow g (spl cur o cs).toArray):=by
 have hl:=run_loadCells_list (P:=Tryz.prog) w a cs hsrc
 have hst:=run_storeCells_at Tryz.prog g o _ cs 0 cur.toArray w hg (by simpa using hfit) h1
 have hz:=ZxY w
 rw[hn] at hl
 simp[Builtin.copy_,run_underlying hT,Builtin.lenOf,Builtin.firstCells,hz,hk,hl,hst,spl]
theorem ZwK {T:TypeId} (hT:Tryz.prog.underlying T=some (.slice 187)) (w:World) (ty:TypeId) (g o n c:Nat) (cur:List Value) (hg:Blk w g cur) (hfit:o+n * 2≤cur.length) :
  ∃ u,(Builtin.clear_ #[T] ty #[.slice (some ⟨g,o,none⟩) n c]).run Tryz.prog w=.ok (.tuple #[]) u∧w.grownBy u (some g)∧∃ cur':List Value,Blk u g cur'∧cur'.length=cur.length∧cur'.take o=cur.take o:=by
 cases n with
 | zero=>exact⟨w,by simp[Builtin.clear_,run_underlying hT],World.grownBy.refl _ _,cur,hg,rfl,rfl⟩
 | succ n =>
  obtain⟨zs,hzs⟩:∃ zs:List Value,(Builtin.zeroCells (Value.agg #[.int .i64 0,.int .i64 0]).cells (n+1)).toList=zs:=⟨_,rfl⟩
  have hzl:zs.length=(n+1) * 2:=by rw[← hzs];simp[Builtin.zeroCells,Value.cells]
  have hz1:∀ v∈zs,v.oneCell'=true:=by
   intro v hv
   rw[← hzs] at hv
   simp[Builtin.zeroCells,Value.cells] at hv
   obtain⟨k,hk,rfl⟩:=hv
   have:k % 2=0∨k % 2=1:=by omega
   rcases this with h | h<;>simp[h]<;>rfl
  have hst:=run_storeCells_at Tryz.prog g o _ zs 0 cur.toArray w hg (by simp;omega) hz1
  have hzv:(zeroValue 187).run Tryz.prog w=.ok (.agg #[.int .i64 0,.int .i64 0]) w:=by
   obtain⟨i0,hi,hz0,_,_⟩:=info_parts infoPr
   simp[zeroValue,typeInfo,hi,hz0]
  refine⟨w.setRow g (spl cur o zs).toArray,?_,ZxT _ _ _,_,setRow_heap w g _ _ _ _ hg,ZyE (by omega),?_⟩
  ·simp[Builtin.clear_,run_underlying hT,hzv,hzs,hst,spl]
  ·unfold spl
   rw[List.append_assoc,List.take_left' (by simp;omega)]
theorem ZwG {T T':TypeId} (hT:Tryz.prog.underlying T=some (.slice 187)) (hT':Tryz.prog.underlying T'=some (.slice 187)) (ty:TypeId) (ao bo:Option Addr) (n c m d:Nat) (w:World):(Builtin.append_ #[T,T'] ty #[.slice ao n c,.slice bo m d]).run Tryz.prog w=(Builtin.append_ #[T,T] ty #[.slice ao n c,.slice bo m d]).run Tryz.prog w:=by
 have h1:=run_underlying hT
 have h2:=run_underlying hT'
 unfold Builtin.append_
 simp[h1,h2]
theorem ZwF {T T':TypeId} (hT:Tryz.prog.underlying T=some (.slice 187)) (hT':Tryz.prog.underlying T'=some (.slice 187)) (w:World) (ty:TypeId) (g n cap:Nat) (a:Addr) (m c:Nat) (cur cs:List Value)
  (hg:Blk w g cur) (hroom:n+m≤cap) (hn:cs.length=m * 2) (hsrc:∀ j v,cs[j]?=some v→w.cell? (a.add j)=some v) (hfit:n * 2+cs.length≤cur.length) (h1:∀ v∈cs,v.oneCell'=true) :
  (Builtin.append_ #[T,T'] ty #[.slice (some ⟨g,0,none⟩) n cap,.slice (some a) m c]).run Tryz.prog w=.ok (.slice (some ⟨g,0,none⟩) (n+m) cap) (w.setRow g (spl cur (n * 2) cs).toArray):=by
 have hl:=run_loadCells_list (P:=Tryz.prog) w a cs hsrc
 have hst:=run_storeCells_at Tryz.prog g (n * 2) _ cs 0 cur.toArray w hg (by simpa using hfit) h1
 have hz:=ZxY w
 rw[hn] at hl
 have h1:=run_underlying hT
 have h2:=run_underlying hT'
 simp[Builtin.append_,h1,h2,Builtin.lenOf,Builtin.firstCells,hz,hl,hroom,add_none,hst,spl]
theorem ZBA {ops:Array Oper} {rest:List Oper} {o:Oper} {a:Act} {Q:Exit→Act→World→Prop} (w:World) (hw:Region.wanted o (yielded ops a.tmps)=true) (d s:Operand) (T T':TypeId)
  (ho:o.op=.call { callee:=.builtin .copy,args:=#[d,s],argTypes:=#[T,T'] }) (v u:Value) (hd:a.eval d=v) (hs:a.eval s=u) (v':Value) (w':World)
  (hr:(Builtin.copy_ #[T,T'] o.type #[v,u]).run Tryz.prog w=.ok v' w') (h:wpList Tryz.prog ops Q rest (a.put o.dst v') w'):wpList Tryz.prog ops Q (o::rest) a w:=by
 refine wpList_step fun K hK=>?_
 rw[if_pos hw]
 unfold Oper.wp
 simp[execOp,ho,resolve,invoke,builtin,hd,hs,hr,Result.andThen]
 exact hK _ _ h
theorem ZyZ {ops:Array Oper} {o:Oper} {a:Act} {K:Act→World→Prop} {Q:Exit→Act→World→Prop} {X:Prop} (w:World) (hgd:o.guard=none) (d s:Operand) (T T':TypeId)
  (ho:o.op=.call { callee:=.builtin .copy,args:=#[d,s],argTypes:=#[T,T'] }) (v u:Value) (hd:a.eval d=v) (hs:a.eval s=u) (v':Value) (w':World)
  (hr:(Builtin.copy_ #[T,T'] o.type #[v,u]).run Tryz.prog w=.ok v' w') (h:K (a.put o.dst v') w'):if Region.wanted o (yielded ops a.tmps)=true then Oper.wp Tryz.prog o a w K Q else X:=by
 have hw:Region.wanted o (yielded ops a.tmps)=true:=by simp[Region.wanted,hgd]
 rw[if_pos hw]
 unfold Oper.wp
 simp[execOp,ho,resolve,invoke,builtin,hd,hs,hr,Result.andThen]
 exact h
theorem ZBu {ops:Array Oper} {rest:List Oper} {o:Oper} {a:Act} {Q:Exit→Act→World→Prop} (w:World) (hw:Region.wanted o (yielded ops a.tmps)=true) (d s:Operand) (T T':TypeId)
  (ho:o.op=.call { callee:=.builtin .append,args:=#[d,s],argTypes:=#[T,T'] }) (v u:Value) (hd:a.eval d=v) (hs:a.eval s=u) (v':Value) (w':World)
  (hr:(Builtin.append_ #[T,T'] o.type #[v,u]).run Tryz.prog w=.ok v' w') (h:wpList Tryz.prog ops Q rest (a.put o.dst v') w'):wpList Tryz.prog ops Q (o::rest) a w:=by
 refine wpList_step fun K hK=>?_
 rw[if_pos hw]
 unfold Oper.wp
 simp[execOp,ho,resolve,invoke,builtin,hd,hs,hr,Result.andThen]
 exact hK _ _ h
theorem ZBz {ops:Array Oper} {rest:List Oper} {o:Oper} {a:Act} {Q:Exit→Act→World→Prop} (w:World) (hw:Region.wanted o (yielded ops a.tmps)=true) (d:Operand) (T:TypeId)
  (ho:o.op=.call { callee:=.builtin .clear,args:=#[d],argTypes:=#[T] }) (v:Value) (hd:a.eval d=v) (v':Value) (w':World)
  (hr:(Builtin.clear_ #[T] o.type #[v]).run Tryz.prog w=.ok v' w') (h:wpList Tryz.prog ops Q rest (a.put o.dst v') w'):wpList Tryz.prog ops Q (o::rest) a w:=by
 refine wpList_step fun K hK=>?_
 rw[if_pos hw]
 unfold Oper.wp
 simp[execOp,ho,resolve,invoke,builtin,hd,hr,Result.andThen]
 exact hK _ _ h
theorem Zyf {T:TypeId} (hT:Tryz.prog.underlying T=some (.slice 187)) (he:Tryz.prog.elem T=187) (g n cap l:Nat) (hl:l≤n) (hc:l<cap) (u:World):(Instr.slice T (.slice (some ⟨g,0,none⟩) n cap) (some (.int .i64 (l:Int))) none none).run Tryz.prog u=.ok (.slice (some ⟨g,l * 2,none⟩) (n-l) (cap-l)) u:=by
 rw[run_slice_l (P:=Tryz.prog) u T (some ⟨g,0,none⟩) n cap (by rw[hT,← he]) .i64 l (by omega) (by omega),he,ZxY]
 simp only[Result.andThen,sliced,Option.map_some,add_none]
 rw[if_neg (by omega)]
 simp
theorem Zyg {T:TypeId} (hT:Tryz.prog.underlying T=some (.slice 187)) (he:Tryz.prog.elem T=187) (g n cap h:Nat) (hc:h≤cap) (u:World):(Instr.slice T (.slice (some ⟨g,0,none⟩) n cap) none (some (.int .i64 (h:Int))) none).run Tryz.prog u=.ok (.slice (some ⟨g,0,none⟩) h cap) u:=by
 rw[run_slice_h (P:=Tryz.prog) u T (some ⟨g,0,none⟩) n cap (by rw[hT,← he]) .i64 h (by omega) (by omega),he,ZxY]
 simp only[Result.andThen,sliced,Option.map_some,add_none]
 simp
end

section
open Go.RowKit
theorem undH:Tryz.prog.underlying 240=some (.slice 187):=by kernel_rfl
theorem undP:Tryz.prog.underlying 183=some (.slice 187):=by kernel_rfl
theorem elemH:Tryz.prog.elem 240=187:=by kernel_rfl
theorem Zwd {w:World} {base:Nat} {v:Value} {n:Nat} {xs:List Value} (hO:w.ownsRow base 187 2 v n xs) (h0:0<n):∃ g cap cur,v=.slice (some ⟨g,0,none⟩) n cap∧base≤g∧Blk w g cur∧n≤cap∧cap≤maxLen∧cur.length=cap * 2∧cur.take (n * 2)=xs:=by
 rcases hO.2 with ⟨_,h1,_⟩ | ⟨g,cap,cur,q1,q2,q3,q4,q5,q6,q7⟩
 ·omega
 ·exact⟨g,cap,cur.toList,q1,q2,by unfold Blk;simpa using q3,q4,q5,by simpa using q6,q7⟩
theorem ZcT {w:World} {base g n cap:Nat} {cur xs:List Value} (hg:Blk w g cur) (hb:base≤g) (hn:n≤cap) (hc:cap≤maxLen) (hl:cur.length=cap * 2) (ht:cur.take (n * 2)=xs):w.ownsRow base 187 2 (.slice (some ⟨g,0,none⟩) n cap) n xs:=by
 refine⟨?_,.inr ⟨g,cap,cur.toArray,rfl,hb,hg,hn,hc,by simpa using hl,by simpa using ht⟩⟩
 rw[← ht,List.length_take]
 omega
theorem Zta {w:World} {gp:Nat} {p:Pr} (h:Blk w gp (prC p)):∀ j v,(prC p)[j]?=some v→w.cell? ((⟨gp,0,none⟩:Addr).add j)=some v:=fun j v hj=>by
 rw[add_none,Nat.zero_add,h.cell j]
 exact hj
theorem ZsZ (p:Pr):∀ u∈prC p,u.oneCell'=true:=by intro u hu;simp[prC] at hu;rcases hu with rfl | rfl<;>rfl
def Grows (base:Nat) (w:World) (v:Value) (v':Value) (l:List Pr) (w':World):Prop :=
 w'.ownsRow base 187 2 v' l.length (prcells l)∧w.grownBy w' v.ownBlock∧(v'.ownBlock=v.ownBlock∨∃ g,v'.ownBlock=some g∧w.heap.size≤g)
theorem Zgu (w:World) (r:Option Nat):w.grownBy w.drew r:=⟨rfl,rfl,rfl,Nat.le_refl _,fun _ _ _=>rfl⟩
theorem ZaE (h:List Pr) (p:Pr) (v:Value) (gp base:Nat) (w:World) (hO:w.ownsRow base 187 2 v h.length (prcells h)) (hb:base≤w.heap.size) (hp:Blk w gp (prC p)) (hl:h.length≤1048576) :
  Calls Tryz.prog 177 #[v,.int .i64 (h.length:Int),.slice (some ⟨gp,0,none⟩) 1 1] w fun e w'=>∃ v',e=.returned v'∧Grows base w v v' (h++[p]) w':=by
 obtain⟨ao,c,rfl⟩:=(holds_of hO).form
 have hh:Holds w (.slice (some ⟨gp,0,none⟩) 1 1) 1 (prC p):=.inr ⟨_,1,rfl,Nat.le_refl _,Zta hp⟩
 obtain⟨v',w',hr,h2,h3,h4⟩:=ZwD w 240 187 240 (.agg #[.int .i64 0,.int .i64 0]) 2 16 undH infoPr rfl (by decide) (by decide) base (.slice ao h.length c) h.length (prcells h) hO (.slice (some ⟨gp,0,none⟩) 1 1) 1 (prC p) hh rfl (ZsZ p) (by omega) hb
 have hr':∀ ty,(Builtin.append_ #[240,183] ty #[.slice ao h.length c,.slice (some ⟨gp,0,none⟩) 1 1]).run Tryz.prog w=.ok v' w':=fun ty=>(ZwG undH undP ty _ _ _ _ _ _ w).trans hr
 obtain⟨ao',c',rfl⟩:=(holds_of h2).form
 obtain⟨x0,x1,x2,s0⟩:∃ x0 x1 x2,∀ u:World,(Instr.slice 240 (.slice ao h.length c) (some (.int .i64 (h.length:Int))) none none).run Tryz.prog u=.ok (.slice x0 x1 x2) u:=⟨_,_,_,fun u=>by
  rw[run_slice_l (P:=Tryz.prog) u 240 ao h.length c (by rw[undH,← elemH]) .i64 h.length (by omega) (by omega),elemH,ZxY]
  rfl⟩
 go_enter Tryz.func177,Tryz.ntmps177
 go_wp2_with (at_builtin;refine ZBu _ (by kernel_rfl) (.tmp 23) (.tmp 24) 240 183 rfl _ _ rfl rfl _ _ (hr' _) ?_)
 go_wp2
 go_ret
 refine⟨_,rfl,?_,h3,?_⟩
 ·rw[List.length_append,Ztb]
  exact h2
 ·rcases h4 with h4 | h4
  ·exact .inl h4
  ·exact .inr ⟨_,h4,Nat.le_refl _⟩
theorem ZaH (h:List Pr) (p:Pr) (n i g cap gp base:Nat) (HN:Hid (h.length=n)) (cur:List Value) (w:World) (hg:Blk w g cur) (hgb:base≤g) (hi:i<n) (hroom:n+1≤cap) (hcm:cap≤maxLen) (hcl:Hid (cur.length=cap * 2)) (hct:Hid (cur.take (n * 2)=prcells h)) (hp:Blk w gp (prC p)) (hne:gp≠g) (hl:n≤1048576) :
  Calls Tryz.prog 177 #[.slice (some ⟨g,0,none⟩) n cap,.int .i64 (i:Int),.slice (some ⟨gp,0,none⟩) 1 1] w fun e w'=>∃ v',e=.returned v'∧Grows base w (.slice (some ⟨g,0,none⟩) n cap) v' (h.take i++p::h.drop i) w':=by
 have s0:=Zyf undH elemH g n cap i (by omega) (by omega)
 have s1:=Zyg undH elemH g n cap (n+1) hroom
 have s2:=Zyf undH elemH g (n+1) cap (i+1) (by omega) (by omega)
 have s3:=Zyf undH elemH g (n+1) cap i (by omega) (by omega)
 rw[show ((n+1:Nat):Int)=(n:Int)+1 by simp] at s1
 rw[show ((i+1:Nat):Int)=(i:Int)+1 by simp] at s2
 have hw1:IntKind.i64.wrap ((i:Int)+1)=(i:Int)+1:=by rw[IntKind.wrap_i64];omega
 have hne1:((i:Int) == (n:Int))=false:=by simp;omega
 have hcap:decide ((cap:Int)<(n:Int)+1)=false:=decide_eq_false (by omega)
 have hcs1:((prcells h).drop (i * 2)).length=(n-i) * 2:=by rw[List.length_drop,Zte,HN.out];omega
 have hcp1:∀ (u:World) (ty:TypeId),u.heap=w.heap→(Builtin.copy_ #[240,240] ty #[.slice (some ⟨g,(i+1) * 2,none⟩) (n-i) (cap-(i+1)),.slice (some ⟨g,i * 2,none⟩) (n+1-i) (cap-i)]).run Tryz.prog u=.ok (goInt (n-i:Nat)) (u.setRow g (spl cur ((i+1) * 2) ((prcells h).drop (i * 2))).toArray):=fun u ty hu=>by
  have hgu:Blk u g cur:=by unfold Blk;rw[hu];exact hg
  refine ZwL undH u ty g _ _ _ ⟨g,i * 2,none⟩ _ _ cur _ (n-i) hgu (by simp only[Nat.min_def];split<;>omega) hcs1 (fun j v hj=>?_) (by rw[hcs1,hcl.out];omega) (fun v hv=>Ztf h v (List.mem_of_mem_drop hv))
  rw[add_none,hgu.cell,← hj,List.getElem?_drop,← hct.out,List.getElem?_take,if_pos]
  have:=(List.getElem?_eq_some_iff.1 hj).1
  rw[hcs1] at this
  omega
 have hov:(callFunc 178 #[.slice (some ⟨gp,0,none⟩) 1 1,.slice (some ⟨g,(i+1) * 2,none⟩) (n-i) (cap-(i+1))]).run Tryz.prog w=.ok (.value (.bool false)) w:=by
  rw[run_callFunc_extern Tryz.func178 (by kernel_rfl) (by kernel_rfl) (by kernel_rfl) (e:=Extern.SlicesOverlaps.overlaps #[183,183] #[4]) (by kernel_rfl),Lib.run_overlaps_apart w 183 4 187 undP 2 ZxY ⟨gp,0,none⟩ ⟨g,(i+1) * 2,none⟩ 1 1 _ _ hne 187 187 2 cur.length (by unfold Blk at hp;simp[World.shape?,hp,prC]) (by unfold Blk at hg;simp[World.shape?,hg]) (by have:=hcl.out;omega) (by unfold Blk at hp;simp[World.frozen?,hp]) (by unfold Blk at hp;simp[World.frozen?,hp])]
  rfl
 go_enter Tryz.func177,Tryz.ntmps177
 go_wp2_with (simp only[hov])
 go_region_held3 (fun _=>True) (trivial) (first | (refine ZyZ _ rfl (.tmp 73) (.tmp 76) 240 240 rfl _ _ rfl rfl _ _ (hcp1 _ _ (by first | rfl | trivial)) ?_))
 obtain⟨cur1,hcur1⟩:∃ c,spl cur ((i+1) * 2) ((prcells h).drop (i * 2))=c:=⟨_,rfl⟩
 obtain⟨W1,hW1⟩:∃ u,w.drew.setRow g cur1.toArray=u:=⟨_,rfl⟩
 have hG1:w.grownBy W1 (some g):=by rw[← hW1];exact (Zgu w (some g)).trans (ZxT w.drew g _)
 have hB1:Blk W1 g cur1:=by rw[← hW1];exact setRow_heap w.drew g _ _ _ _ hg
 have hP1:Blk W1 gp (prC p):=(hG1.block gp (Array.getElem?_eq_some_iff.1 hp).1 (fun e=>hne (Option.some.inj e))).trans hp
 have hl1:cur1.length=cap * 2:=by rw[← hcur1,ZyE (by rw[hcs1,hcl.out];omega),hcl.out]
 have HC1:Hid (cur1=spl cur ((i+1) * 2) ((prcells h).drop (i * 2))):=hcur1.symm
 rw[hcur1,hW1]
 clear hcur1 hW1 hcp1 hov
 have hcp2:∀ ty,(Builtin.copy_ #[240,183] ty #[.slice (some ⟨g,i * 2,none⟩) (n+1-i) (cap-i),.slice (some ⟨gp,0,none⟩) 1 1]).run Tryz.prog W1=.ok (goInt (1:Nat)) (W1.setRow g (spl cur1 (i * 2) (prC p)).toArray):=fun ty =>
  ZwL undH W1 ty g _ _ _ ⟨gp,0,none⟩ _ _ cur1 _ 1 hB1 (by simp only[Nat.min_def];split<;>omega) rfl (Zta hP1) (by rw[hl1];simp[prC];omega) (ZsZ p)
 go_wp2_with (at_builtin;refine ZBA _ (by kernel_rfl) (.tmp 80) (.tmp 81) 240 183 rfl _ _ rfl rfl _ _ (hcp2 _) ?_)
 have hG2:=hG1.trans (ZxT W1 g (spl cur1 (i * 2) (prC p)).toArray)
 have hB2:Blk (W1.setRow g (spl cur1 (i * 2) (prC p)).toArray) g (spl cur1 (i * 2) (prC p)):=setRow_heap W1 g _ _ _ _ hB1
 generalize W1.setRow g (spl cur1 (i * 2) (prC p)).toArray=W2 at hG2 hB2 ⊢
 go_wp2
 go_ret
 refine⟨_,rfl,?_,hG2,.inl rfl⟩
 have hcp:(prC p).length=2:=rfl
 have hlen:(h.take i++p::h.drop i).length=n+1:=by
  have:=HN.out
  rw[List.length_append,List.length_cons,List.length_take,List.length_drop]
  omega
 rw[hlen]
 refine ZcT hB2 hgb hroom hcm (by rw[ZyE (by rw[hcp,hl1];omega),hl1]) ?_
 have e1:cur1.take (i * 2)=prcells (h.take i):=by
  rw[HC1.out,spl,List.append_assoc,List.take_append_of_le_length (by rw[List.length_take,hcl.out];omega),List.take_take,Ztg,← hct.out,List.take_take]
  congr 1
  omega
 have e2:(cur1.drop (i * 2+2)).take ((n-i) * 2)=prcells (h.drop i):=by
  rw[HC1.out,spl,List.append_assoc,List.drop_append_of_le_length (by rw[List.length_take,hcl.out];omega),List.drop_of_length_le (by rw[List.length_take,hcl.out];omega),List.nil_append,List.take_left' hcs1,Ztd,Nat.mul_comm 2 i]
 unfold spl
 rw[hcp,e1]
 have e3:prcells (h.take i++p::h.drop i)=prcells (h.take i)++prC p++prcells (h.drop i):=by
  rw[Ztb,List.append_assoc]
  rfl
 have e4:(prcells (h.take i)++prC p).length=i * 2+2:=by
  have:=HN.out
  rw[List.length_append,Zte,List.length_take,hcp]
  omega
 rw[e3,← e2,List.take_append,e4,List.take_of_length_le (by rw[e4];omega)]
 congr 2
 omega
theorem ZaG (h:List Pr) (p:Pr) (n i g gp base:Nat) (HN:Hid (h.length=n)) (cur:List Value) (w:World) (hg:Blk w g cur) (hbw:base≤w.heap.size) (hi:i<n) (_hcl:Hid (cur.length=n * 2)) (hct:Hid (cur.take (n * 2)=prcells h)) (hp:Blk w gp (prC p)) (hl:n≤1048576) :
  Calls Tryz.prog 177 #[.slice (some ⟨g,0,none⟩) n n,.int .i64 (i:Int),.slice (some ⟨gp,0,none⟩) 1 1] w fun e w'=>∃ v',e=.returned v'∧Grows base w (.slice (some ⟨g,0,none⟩) n n) v' (h.take i++p::h.drop i) w':=by
 obtain⟨i0,hi0,hz0,hzs,hzb⟩:=info_parts infoPr
 have hpre:(prcells (h.take i)).length=i * 2:=by have:=HN.out;rw[Zte,List.length_take];omega
 have hold:(Builtin.firstCells i0.size i (.slice (some ⟨g,0,none⟩) i n)).run Tryz.prog w.drew=.ok (prcells (h.take i)).toArray w.drew:=by
  have hgd:Blk w.drew g cur:=hg
  have:=run_loadCells_list (P:=Tryz.prog) w.drew ⟨g,0,none⟩ (prcells (h.take i)) (fun j v hj=>by
   have hlt:=(List.getElem?_eq_some_iff.1 hj).1
   rw[hpre] at hlt
   rw[add_none,Nat.zero_add,hgd.cell,← hj,Ztg,← hct.out,List.getElem?_take,if_pos (by omega),List.getElem?_take,if_pos (by omega)])
  rw[hpre] at this
  simp only[Builtin.firstCells,hzs]
  exact this
 obtain⟨G,hG⟩:∃ G,grownCap w (n+1) n 187=G:=⟨_,rfl⟩
 have hGge:n+1≤G:=by rw[← hG];exact grownCap_ge _ _ _ _
 have hGle:G≤maxLen:=by rw[← hG];exact grownCap_le_maxLen _ _ _ _ (by unfold maxLen;omega)
 obtain⟨row,hrow⟩:∃ row:List Value,((prcells (h.take i)).toArray++Builtin.zeroCells (Value.agg #[.int .i64 0,.int .i64 0]).cells (n+1-i)++Builtin.zeroCells (Value.agg #[.int .i64 0,.int .i64 0]).cells (G-(n+1))).toList=row:=⟨_,rfl⟩
 have hrl:row.length=G * 2:=by
  rw[← hrow]
  simp[Builtin.zeroCells,Value.cells,hpre]
  omega
 have hrt:row.take (i * 2)=prcells (h.take i):=by
  rw[← hrow]
  simp only[Array.toList_append,List.append_assoc]
  rw[List.take_left' hpre]
 obtain⟨W0,hW0⟩:∃ W0,w.drew.alloc (.cells row.toArray 187)=W0:=⟨_,rfl⟩
 have hkk:(n:Int)+1-(i:Int)=((n+1-i:Nat):Int):=by omega
 have hrz:∀ ty,(Builtin.append_ #[240,3] ty #[.slice (some ⟨g,0,none⟩) i n,.int .i64 ((n:Int)+1-(i:Int))]).run Tryz.prog w=.ok (.slice (some ⟨w.heap.size,0,none⟩) (n+1) G) W0:=fun ty=>by
  have h:=Lib.run_append_grow_zeros (P:=Tryz.prog) w 240 3 ty 187 i0 _ .i64 .i64 undH (by kernel_rfl) hi0 hz0 (some ⟨g,0,none⟩) i n (prcells (h.take i)) hold (n+1-i) (by omega) (by omega) (by omega) (by omega) (by rw[hzb];omega) (by
   rw[hzb,show i+(n+1-i)=n+1 by omega]
   exact growslice_fits (by omega) (by omega))
  rw[show i+(n+1-i)=n+1 by omega,hG] at h
  rw[hkk,h,← hW0,← hrow]
 have hs0:W0.heap.size=w.heap.size+1:=by rw[← hW0];simp
 have hB0:Blk W0 w.heap.size row:=by rw[← hW0];exact _root_.Go.heap_alloc_new w.drew _
 have hG0:w.grownBy W0 none:=by rw[← hW0];exact (Zgu w none).trans (World.grownBy_alloc _ _ _)
 have hP0:Blk W0 gp (prC p):=(hG0.block gp (Array.getElem?_eq_some_iff.1 hp).1 (by simp)).trans hp
 have hg0:Blk W0 g cur:=(hG0.block g (Array.getElem?_eq_some_iff.1 hg).1 (by simp)).trans hg
 have hne:gp≠w.heap.size:=Nat.ne_of_lt (Array.getElem?_eq_some_iff.1 hp).1
 have hne2:g≠w.heap.size:=Nat.ne_of_lt (Array.getElem?_eq_some_iff.1 hg).1
 have hcp:(prC p).length=2:=rfl
 have hcp1:∀ ty,(Builtin.copy_ #[240,183] ty #[.slice (some ⟨w.heap.size,i * 2,none⟩) (n+1-i) (G-i),.slice (some ⟨gp,0,none⟩) 1 1]).run Tryz.prog W0=.ok (goInt (1:Nat)) (W0.setRow w.heap.size (spl row (i * 2) (prC p)).toArray):=fun ty =>
  ZwL undH W0 ty _ _ _ _ ⟨gp,0,none⟩ _ _ row _ 1 hB0 (by simp only[Nat.min_def];split<;>omega) rfl (Zta hP0) (by rw[hrl,hcp];omega) (ZsZ p)
 obtain⟨W1,hW1⟩:∃ u,W0.setRow w.heap.size (spl row (i * 2) (prC p)).toArray=u:=⟨_,rfl⟩
 have hB1:Blk W1 w.heap.size (spl row (i * 2) (prC p)):=by rw[← hW1];exact setRow_heap W0 _ _ _ _ _ hB0
 have hG1:W0.grownBy W1 (some w.heap.size):=by rw[← hW1];exact ZxT _ _ _
 have hg1:Blk W1 g cur:=(hG1.block g (Array.getElem?_eq_some_iff.1 hg0).1 (fun e=>hne2 (Option.some.inj e))).trans hg0
 rw[hW1] at hcp1
 have hl1:(spl row (i * 2) (prC p)).length=G * 2:=by rw[ZyE (by rw[hrl,hcp];omega),hrl]
 have ht1:(spl row (i * 2) (prC p)).take (i * 2+2)=prcells (h.take i)++prC p:=by rw[ZyF (cur:=row) (o:=i * 2) (cs:=prC p) (by rw[hrl,hcp];omega) (i * 2+2) rfl,hrt]
 generalize spl row (i * 2) (prC p)=cur1 at hB1 hl1 ht1
 have hcs1:((prcells h).drop (i * 2)).length=(n-i) * 2:=by rw[List.length_drop,Zte,HN.out];omega
 have hcp2:∀ (u:World) (ty:TypeId),u.heap=W1.heap→(Builtin.copy_ #[240,240] ty #[.slice (some ⟨w.heap.size,(i+1) * 2,none⟩) (n-i) (G-(i+1)),.slice (some ⟨g,i * 2,none⟩) (n-i) (n-i)]).run Tryz.prog u=.ok (goInt (n-i:Nat)) (u.setRow w.heap.size (spl cur1 ((i+1) * 2) ((prcells h).drop (i * 2))).toArray):=fun u ty hu=>by
  have hgu:Blk u w.heap.size cur1:=by unfold Blk;rw[hu];exact hB1
  have hgs:Blk u g cur:=by unfold Blk;rw[hu];exact hg1
  refine ZwL undH u ty _ _ _ _ ⟨g,i * 2,none⟩ _ _ cur1 _ (n-i) hgu (by simp only[Nat.min_def];split<;>omega) hcs1 (fun j v hj=>?_) (by rw[hcs1,hl1];omega) (fun v hv=>Ztf h v (List.mem_of_mem_drop hv))
  rw[add_none,hgs.cell,← hj,List.getElem?_drop,← hct.out,List.getElem?_take,if_pos]
  have:=(List.getElem?_eq_some_iff.1 hj).1
  rw[hcs1] at this
  omega
 have s0:=Zyf undH elemH g n n i (by omega) (by omega)
 have s1:=Zyg undH elemH g n n i (by omega)
 have s2:=Zyf undH elemH w.heap.size (n+1) G i (by omega) (by omega)
 have s3:=Zyf undH elemH w.heap.size (n+1) G (i+1) (by omega) (by omega)
 rw[show ((i+1:Nat):Int)=(i:Int)+1 by simp] at s3
 have hw1:IntKind.i64.wrap ((i:Int)+1)=(i:Int)+1:=by rw[IntKind.wrap_i64];omega
 have hne1:((i:Int) == (n:Int))=false:=by simp;omega
 have hcap:decide ((n:Int)<(n:Int)+1)=true:=decide_eq_true (by omega)
 have hGW:w.grownBy W1 none:=⟨hG1.os.trans hG0.os,hG1.tape.trans hG0.tape,hG1.output.trans hG0.output,Nat.le_trans hG0.size hG1.size,fun k hk _=>(hG1.block k (by rw[hs0];omega) (fun e=>by have:=Option.some.inj e;omega)).trans (hG0.block k hk (by simp))⟩
 clear hW0 hW1 hold hi0 hz0 hzs hzb hrow hrl hrt hkk hg0 hP0 hB0 hG1
 go_enter Tryz.func177,Tryz.ntmps177
 go_wp2_with (at_builtin;refine ZBu _ (by kernel_rfl) (.tmp 34) (.tmp 39) 240 3 rfl _ _ rfl rfl _ _ (hrz _) ?_)
 go_wp2_with (at_builtin;refine ZBA _ (by kernel_rfl) (.tmp 43) (.tmp 44) 240 183 rfl _ _ rfl rfl _ _ (hcp1 _) ?_)
 go_wp2_with fail
 go_region_held3 (fun _=>True) (trivial) (first | (refine ZyZ _ rfl (.tmp 50) (.tmp 53) 240 240 rfl _ _ rfl rfl _ _ (hcp2 _ _ (by first | rfl | trivial)) ?_))
 have hGF:w.grownBy (W1.drew.setRow w.heap.size (spl cur1 ((i+1) * 2) ((prcells h).drop (i * 2))).toArray) none:=⟨hGW.os,hGW.tape,hGW.output,by simpa [World.setRow] using hGW.size,fun k hk _=>(setRow_other W1.drew _ k _ (by omega)).trans (hGW.block k hk (by simp))⟩
 have hBF:Blk (W1.drew.setRow w.heap.size (spl cur1 ((i+1) * 2) ((prcells h).drop (i * 2))).toArray) w.heap.size (spl cur1 ((i+1) * 2) ((prcells h).drop (i * 2))):=setRow_heap W1.drew _ _ _ _ _ hB1
 generalize W1.drew.setRow w.heap.size (spl cur1 ((i+1) * 2) ((prcells h).drop (i * 2))).toArray=WF at hGF hBF ⊢
 go_wp2
 go_ret
 have hlen:(h.take i++p::h.drop i).length=n+1:=by
  have:=HN.out
  rw[List.length_append,List.length_cons,List.length_take,List.length_drop]
  omega
 refine⟨_,rfl,?_,⟨hGF.os,hGF.tape,hGF.output,hGF.size,fun k hk _=>hGF.block k hk (by simp)⟩,.inr ⟨_,rfl,Nat.le_refl _⟩⟩
 rw[hlen]
 refine ZcT hBF hbw hGge hGle (by rw[ZyE (by rw[hcs1,hl1];omega),hl1]) ?_
 have e3:prcells (h.take i++p::h.drop i)=prcells (h.take i)++prC p++prcells (h.drop i):=by
  rw[Ztb,List.append_assoc]
  rfl
 rw[ZyF (by rw[hcs1,hl1];omega) _ (by rw[hcs1];omega),show (i+1) * 2=i * 2+2 by omega,ht1,e3,Ztd,Nat.mul_comm 2 i]
end

section
open Go.RowKit
theorem ZaF (h:List Pr) (p:Pr) (i gp base:Nat) (v:Value) (w:World) (hO:w.ownsRow base 187 2 v h.length (prcells h)) (hb:base≤w.heap.size) (hi:i≤h.length) (hp:Blk w gp (prC p)) (hne:v.ownBlock≠some gp) (hl:h.length≤1048576) :
  Calls Tryz.prog 177 #[v,.int .i64 (i:Int),.slice (some ⟨gp,0,none⟩) 1 1] w fun e w'=>∃ v',e=.returned v'∧Grows base w v v' (h.take i++p::h.drop i) w':=by
 by_cases hin:i=h.length
 ·have e:h.take i++p::h.drop i=h++[p]:=by subst hin;simp
  rw[e,hin]
  exact ZaE h p v gp base w hO hb hp hl
 ·obtain⟨g,cap,cur,rfl,q2,q3,q4,q5,q6,q7⟩:=Zwd hO (by omega)
  by_cases hroom:h.length+1≤cap
  ·exact ZaH h p h.length i g cap gp base rfl cur w q3 q2 (by omega) hroom q5 q6 q7 hp (fun e=>hne (by rw[e];rfl)) hl
  ·obtain rfl:cap=h.length:=by omega
   exact ZaG h p h.length i g gp base rfl cur w q3 hb (by omega) q6 q7 hp hl
theorem Zye (ao:Option Addr) (n cap l h:Nat) (hl:l≤h) (hc:h≤cap):∃ x0 x1 x2,∀ u:World,(Instr.slice 240 (.slice ao n cap) (some (.int .i64 (l:Int))) (some (.int .i64 (h:Int))) none).run Tryz.prog u=.ok (.slice x0 x1 x2) u:=⟨_,_,_,fun u=>by
 rw[run_slice_lh (P:=Tryz.prog) u 240 ao n cap (by rw[undH,← elemH]) .i64 .i64 l h (by omega) (by omega) (by omega),elemH,ZxY]
 rfl⟩
theorem Zrt {w:World} {base:Nat} {e:TypeId} {s:Nat} {ao:Option Addr} {n cap:Nat} {xs:List Value} (hO:w.ownsRow base e s (.slice ao n cap) n xs):n≤cap:=by
 rcases hO.2 with ⟨h,h1⟩ | ⟨g,cap',cur,q1,q2,q3,q4,_⟩
 ·cases h;exact Nat.le_refl _
 ·cases q1;exact q4
theorem ZaY (h:List Pr) (p:Pr) (i gp base:Nat) (v:Value) (w:World) (hO:w.ownsRow base 187 2 v h.length (prcells h)) (hb:base≤w.heap.size) (hi:i≤h.length) (hp:Blk w gp (prC p)) (hne:v.ownBlock≠some gp) (hl:h.length≤1048576) :
  Calls Tryz.prog 162 #[v,.int .i64 (i:Int),.int .i64 (i:Int),.slice (some ⟨gp,0,none⟩) 1 1] w fun e w'=>∃ v',e=.returned v'∧Grows base w v v' (h.take i++p::h.drop i) w':=by
 obtain⟨ao,c,rfl⟩:=(holds_of hO).form
 obtain⟨x0,x1,x2,s0⟩:=Zye ao h.length c i i (Nat.le_refl _) (Nat.le_trans hi (Zrt hO))
 have hI:=ZaF h p i gp base _ w hO hb hi hp hne hl
 generalize h.take i++p::h.drop i=H' at hI ⊢
 go_enter Tryz.func162,Tryz.ntmps162
 go_wp2_with fail
 refine hI.mono ?_
 rintro e w1 ⟨v',rfl,hG⟩
 obtain⟨ao',c',rfl⟩:=(holds_of hG.1).form
 go_wp2
 go_ret
 exact⟨_,rfl,hG⟩
theorem Zbb (h:List Pr) (p:Pr) (n i g cap gp base:Nat) (HN:Hid (h.length=n)) (cur:List Value) (w:World) (hg:Blk w g cur) (hgb:base≤g) (hi:i<n) (hnc:n≤cap) (hcm:cap≤maxLen) (hcl:Hid (cur.length=cap * 2)) (hct:Hid (cur.take (n * 2)=prcells h)) (hp:Blk w gp (prC p)) (_hl:n≤1048576) :
  Calls Tryz.prog 162 #[.slice (some ⟨g,0,none⟩) n cap,.int .i64 (i:Int),.int .i64 (n:Int),.slice (some ⟨gp,0,none⟩) 1 1] w fun e w'=>∃ v',e=.returned v'∧Grows base w (.slice (some ⟨g,0,none⟩) n cap) v' (h.take i++p::h.drop n) w':=by
 obtain⟨x0,x1,x2,s0⟩:=Zye (some ⟨g,0,none⟩) n cap i n (by omega) hnc
 have s1:=Zyg undH elemH g n cap i (by omega)
 have hcp:(prC p).length=2:=rfl
 have hfit:i * 2+(prC p).length≤cur.length:=by rw[hcp,hcl.out];omega
 have hap:∀ ty,(Builtin.append_ #[240,183] ty #[.slice (some ⟨g,0,none⟩) i cap,.slice (some ⟨gp,0,none⟩) 1 1]).run Tryz.prog w=.ok (.slice (some ⟨g,0,none⟩) (i+1) cap) (w.setRow g (spl cur (i * 2) (prC p)).toArray):=fun ty =>
  ZwF undH undP w ty g i cap ⟨gp,0,none⟩ 1 1 cur (prC p) hg (by omega) rfl (Zta hp) hfit (ZsZ p)
 have hG1:=ZxT w g (spl cur (i * 2) (prC p)).toArray
 have hB1:Blk (w.setRow g (spl cur (i * 2) (prC p)).toArray) g (spl cur (i * 2) (prC p)):=setRow_heap w g _ _ _ _ hg
 have hl1:(spl cur (i * 2) (prC p)).length=cap * 2:=by rw[ZyE hfit,hcl.out]
 have ht1:(spl cur (i * 2) (prC p)).take ((i+1) * 2)=prcells (h.take i++p::h.drop n):=by
  rw[ZyF hfit _ (by rw[hcp];omega),List.drop_of_length_le (by rw[HN.out];exact Nat.le_refl _),Ztb,Ztg,← hct.out,List.take_take]
  congr 2
  omega
 generalize w.setRow g (spl cur (i * 2) (prC p)).toArray=W1 at hap hG1 hB1
 generalize spl cur (i * 2) (prC p)=cur1 at hB1 hl1 ht1
 have hlen:(h.take i++p::h.drop n).length=i+1:=by
  have:=HN.out
  rw[List.length_append,List.length_cons,List.length_take,List.length_drop]
  omega
 have HE:Hid ((h.take i++p::h.drop n).length=i+1):=hlen
 clear hlen
 have hne1:((i:Int) == (n:Int))=false:=by simp;omega
 by_cases hin:i+1<n
 ·have s2:=Zyf undH elemH g n cap (i+1) (by omega) (by omega)
  rw[show ((i+1:Nat):Int)=(i:Int)+1 by simp] at s2
  obtain⟨W2,hr2,hG2,cur2,hB2,hl2,ht2⟩:=ZwK undH W1 0 g ((i+1) * 2) (n-(i+1)) (cap-(i+1)) cur1 hB1 (by rw[hl1];omega)
  have hd:decide ((i:Int)+1<(n:Int))=true:=decide_eq_true (by omega)
  go_enter Tryz.func162,Tryz.ntmps162
  go_wp2_with (at_builtin;refine ZBu _ (by kernel_rfl) (.tmp 32) (.tmp 33) 240 183 rfl _ _ rfl rfl _ _ (hap _) ?_)
  go_wp2_with (at_builtin;refine ZBz _ (by kernel_rfl) (.tmp 43) 240 rfl _ rfl _ _ hr2 ?_)
  go_wp2
  go_ret
  refine⟨_,rfl,?_,hG1.trans hG2,.inl rfl⟩
  rw[HE.out]
  exact ZcT hB2 hgb (by omega) hcm (by rw[hl2,hl1]) (by rw[ht2,ht1])
 ·have hd:decide ((i:Int)+1<(n:Int))=false:=decide_eq_false (by omega)
  go_enter Tryz.func162,Tryz.ntmps162
  go_wp2_with (at_builtin;refine ZBu _ (by kernel_rfl) (.tmp 32) (.tmp 33) 240 183 rfl _ _ rfl rfl _ _ (hap _) ?_)
  go_wp2
  go_ret
  refine⟨_,rfl,?_,hG1,.inl rfl⟩
  rw[HE.out]
  exact ZcT hB1 hgb (by omega) hcm hl1 ht1
theorem Zba (h:List Pr) (p:Pr) (n i j g cap gp base:Nat) (HN:Hid (h.length=n)) (cur:List Value) (w:World) (hg:Blk w g cur) (hgb:base≤g) (hi:i<j) (hj:j<n) (hnc:n≤cap) (hcm:cap≤maxLen) (hcl:Hid (cur.length=cap * 2)) (hct:Hid (cur.take (n * 2)=prcells h)) (hp:Blk w gp (prC p)) (_hne:gp≠g) (hl:n≤1048576) :
  Calls Tryz.prog 162 #[.slice (some ⟨g,0,none⟩) n cap,.int .i64 (i:Int),.int .i64 (j:Int),.slice (some ⟨gp,0,none⟩) 1 1] w fun e w'=>∃ v',e=.returned v'∧Grows base w (.slice (some ⟨g,0,none⟩) n cap) v' (h.take i++p::h.drop j) w':=by
 obtain⟨x0,x1,x2,s0⟩:=Zye (some ⟨g,0,none⟩) n cap i j (by omega) (by omega)
 obtain⟨tot,htot⟩:∃ t,t=i+1+(n-j):=⟨_,rfl⟩
 have s1:=Zyg undH elemH g n cap i (by omega)
 have s2:=Zyf undH elemH g n cap j (by omega) (by omega)
 have s3:=Zyg undH elemH g n cap tot (by omega)
 have s4:=Zyf undH elemH g tot cap i (by omega) (by omega)
 have s5:=Zyf undH elemH g tot cap (i+1) (by omega) (by omega)
 rw[show ((i+1:Nat):Int)=(i:Int)+1 by simp] at s5
 have hw1:IntKind.i64.wrap ((i:Int)+1)=(i:Int)+1:=by rw[IntKind.wrap_i64];omega
 have hw2:IntKind.i64.wrap ((i:Int)+1+((n-j:Nat):Int))=(tot:Int):=by rw[IntKind.wrap_i64];omega
 have hw3:(i:Int)+1+((n-j:Nat):Int)=(tot:Int):=by omega
 have hne1:((i:Int) == (j:Int))=false:=by simp;omega
 have hne2:((j:Int) == (n:Int))=false:=by simp;omega
 have hd1:decide ((cap:Int)<(tot:Int))=false:=decide_eq_false (by omega)
 have hd2:decide ((i:Int)+1≤(j:Int))=true:=decide_eq_true (by omega)
 have HT:Hid (tot=i+1+(n-j)):=htot
 clear htot
 go_enter Tryz.func162,Tryz.ntmps162
 go_wp2_with fail
 go_quiet (fail)
 have hgd:Blk (w.drewN nq) g cur:=hg
 have hpd:Blk (w.drewN nq) gp (prC p):=hp
 have hGd:w.grownBy (w.drewN nq) (some g):=⟨rfl,rfl,rfl,Nat.le_refl _,fun _ _ _=>rfl⟩
 generalize w.drewN nq=wd at hgd hpd hGd ⊢
 have hcp:(prC p).length=2:=rfl
 have hfit:i * 2+(prC p).length≤cur.length:=by rw[hcp,hcl.out];omega
 have hcp1:∀ ty,(Builtin.copy_ #[240,183] ty #[.slice (some ⟨g,i * 2,none⟩) (tot-i) (cap-i),.slice (some ⟨gp,0,none⟩) 1 1]).run Tryz.prog wd=.ok (goInt (1:Nat)) (wd.setRow g (spl cur (i * 2) (prC p)).toArray):=fun ty =>
  ZwL undH wd ty g _ _ _ ⟨gp,0,none⟩ _ _ cur _ 1 hgd (by have:=HT.out;simp only[Nat.min_def];split<;>omega) rfl (Zta hpd) hfit (ZsZ p)
 have hG1:=hGd.trans (ZxT wd g (spl cur (i * 2) (prC p)).toArray)
 have hB1:Blk (wd.setRow g (spl cur (i * 2) (prC p)).toArray) g (spl cur (i * 2) (prC p)):=setRow_heap wd g _ _ _ _ hgd
 have hl1:(spl cur (i * 2) (prC p)).length=cap * 2:=by rw[ZyE hfit,hcl.out]
 have ht1:(spl cur (i * 2) (prC p)).take ((i+1) * 2)=prcells (h.take i)++prC p:=by
  rw[ZyF hfit _ (by rw[hcp];omega),Ztg,← hct.out,List.take_take]
  congr 2
  omega
 have hcs1:((prcells h).drop (j * 2)).length=(n-j) * 2:=by rw[List.length_drop,Zte,HN.out];omega
 have hsrc:∀ k v,((prcells h).drop (j * 2))[k]?=some v→(spl cur (i * 2) (prC p))[j * 2+k]?=some v:=fun k v hk=>by
  have hlt:=(List.getElem?_eq_some_iff.1 hk).1
  rw[hcs1] at hlt
  rw[← hk,List.getElem?_drop,← hct.out,List.getElem?_take,if_pos (by omega)]
  unfold spl
  rw[List.getElem?_append_right (by rw[List.length_append,List.length_take,hcp,hcl.out];omega),List.getElem?_drop]
  congr 1
  rw[List.length_append,List.length_take,hcp,hcl.out]
  omega
 generalize wd.setRow g (spl cur (i * 2) (prC p)).toArray=W1 at hcp1 hG1 hB1
 generalize spl cur (i * 2) (prC p)=cur1 at hB1 hl1 ht1 hsrc
 have hcp2:∀ (u:World) (ty:TypeId),u.heap=W1.heap→(Builtin.copy_ #[240,240] ty #[.slice (some ⟨g,(i+1) * 2,none⟩) (tot-(i+1)) (cap-(i+1)),.slice (some ⟨g,j * 2,none⟩) (n-j) (cap-j)]).run Tryz.prog u=.ok (goInt (n-j:Nat)) (u.setRow g (spl cur1 ((i+1) * 2) ((prcells h).drop (j * 2))).toArray):=fun u ty hu=>by
  have hgu:Blk u g cur1:=by unfold Blk;rw[hu];exact hB1
  refine ZwL undH u ty _ _ _ _ ⟨g,j * 2,none⟩ _ _ cur1 _ (n-j) hgu (by have:=HT.out;simp only[Nat.min_def];split<;>omega) hcs1 (fun k v hk=>?_) (by rw[hcs1,hl1];omega) (fun v hv=>Ztf h v (List.mem_of_mem_drop hv))
  rw[add_none,hgu.cell]
  exact hsrc k v hk
 go_wp2_with (at_builtin;refine ZBA _ (by kernel_rfl) (.tmp 95) (.tmp 96) 240 183 rfl _ _ rfl rfl _ _ (hcp1 _) ?_)
 go_wp2_with fail
 go_region_held3 (fun _=>True) (trivial) (first | (refine ZyZ _ rfl (.tmp 103) (.tmp 106) 240 240 rfl _ _ rfl rfl _ _ (hcp2 _ _ (by first | rfl | trivial)) ?_))
 have hG2:w.grownBy (W1.drew.setRow g (spl cur1 ((i+1) * 2) ((prcells h).drop (j * 2))).toArray) (some g):=hG1.trans ((Zgu W1 (some g)).trans (ZxT W1.drew g _))
 have hfit2:(i+1) * 2+((prcells h).drop (j * 2)).length≤cur1.length:=by rw[hcs1,hl1];omega
 have hB2:Blk (W1.drew.setRow g (spl cur1 ((i+1) * 2) ((prcells h).drop (j * 2))).toArray) g (spl cur1 ((i+1) * 2) ((prcells h).drop (j * 2))):=setRow_heap W1.drew g _ _ _ _ hB1
 have hl2:(spl cur1 ((i+1) * 2) ((prcells h).drop (j * 2))).length=cap * 2:=by rw[ZyE hfit2,hl1]
 have ht2:(spl cur1 ((i+1) * 2) ((prcells h).drop (j * 2))).take (tot * 2)=prcells (h.take i++p::h.drop j):=by
  have e3:prcells (h.take i++p::h.drop j)=prcells (h.take i)++prC p++prcells (h.drop j):=by
   rw[Ztb,List.append_assoc]
   rfl
  rw[ZyF hfit2 _ (by rw[hcs1,HT.out];omega),ht1,e3,Ztd,Nat.mul_comm 2 j]
 generalize W1.drew.setRow g (spl cur1 ((i+1) * 2) ((prcells h).drop (j * 2))).toArray=W2 at hG2 hB2 ⊢
 generalize spl cur1 ((i+1) * 2) ((prcells h).drop (j * 2))=cur2 at hB2 hl2 ht2
 have hlen:Hid ((h.take i++p::h.drop j).length=tot):=(by
  show _=_
  have:=HN.out
  rw[List.length_append,List.length_cons,List.length_take,List.length_drop,HT.out]
  omega)
 clear hcp1 hcp2 hB1 ht1 hsrc hgd hpd hGd hG1
 by_cases hji:j=i+1
 ·have hT2:tot=n:=by rw[HT.out];omega
  obtain⟨x3,x4,s6⟩:∃ x3 x4,∀ u:World,(Instr.slice 240 (.slice (some ⟨g,0,none⟩) n cap) (some (.int .i64 (tot:Int))) none none).run Tryz.prog u=.ok (.slice x3 0 x4) u:=⟨_,_,fun u=>by
   rw[run_slice_l (P:=Tryz.prog) u 240 (some ⟨g,0,none⟩) n cap (by rw[undH,← elemH]) .i64 tot (by omega) (by omega),elemH,ZxY]
   simp[Result.andThen,sliced,hT2]
   exact⟨rfl,rfl⟩⟩
  have hr2:∀ ty,(Builtin.clear_ #[240] ty #[.slice x3 0 x4]).run Tryz.prog W2=.ok (.tuple #[]) W2:=fun ty=>by cases x3<;>simp[Builtin.clear_,run_underlying undH]
  clear hT2
  go_wp2_with (at_builtin;refine ZBz _ (by kernel_rfl) (.tmp 110) 240 rfl _ rfl _ _ (hr2 _) ?_)
  go_wp2
  go_ret
  refine⟨_,rfl,?_,hG2,.inl rfl⟩
  rw[hlen.out]
  exact ZcT hB2 hgb (by have:=HT.out;omega) hcm hl2 ht2
 ·have s6:=Zyf undH elemH g n cap tot (by have:=HT.out;omega) (by have:=HT.out;omega)
  obtain⟨W3,hr3,hG3,cur3,hB3,hl3,ht3⟩:=ZwK undH W2 0 g (tot * 2) (n-tot) (cap-tot) cur2 hB2 (by rw[hl2];have:=HT.out;omega)
  go_wp2_with (at_builtin;refine ZBz _ (by kernel_rfl) (.tmp 110) 240 rfl _ rfl _ _ hr3 ?_)
  go_wp2
  go_ret
  refine⟨_,rfl,?_,hG2.trans hG3,.inl rfl⟩
  rw[hlen.out]
  exact ZcT hB3 hgb (by have:=HT.out;omega) hcm (by rw[hl3,hl2]) (by rw[ht3,ht2])
theorem ZaX (h:List Pr) (p:Pr) (i j gp base:Nat) (v:Value) (w:World) (hO:w.ownsRow base 187 2 v h.length (prcells h)) (hb:base≤w.heap.size) (hij:i≤j) (hj:j≤h.length) (hp:Blk w gp (prC p)) (hne:v.ownBlock≠some gp) (hl:h.length≤1048576) :
  Calls Tryz.prog 162 #[v,.int .i64 (i:Int),.int .i64 (j:Int),.slice (some ⟨gp,0,none⟩) 1 1] w fun e w'=>∃ v',e=.returned v'∧Grows base w v v' (h.take i++p::h.drop j) w':=by
 by_cases e:i=j
 ·subst e
  exact ZaY h p i gp base v w hO hb hj hp hne hl
 ·obtain⟨g,cap,cur,rfl,q2,q3,q4,q5,q6,q7⟩:=Zwd hO (by omega)
  by_cases e2:j=h.length
  ·subst e2
   exact Zbb h p h.length i g cap gp base rfl cur w q3 q2 (by omega) q4 q5 q6 q7 hp hl
  ·exact Zba h p h.length i j g cap gp base rfl cur w q3 q2 (by omega) (by omega) q4 q5 q6 q7 hp (fun e=>hne (by rw[e];rfl)) hl
end

section
open Go.RowKit
theorem Zbd (g:Nat) (cb:Array Value) (n r:Nat) (p:Nat→Bool) (S:World→Prop) (w:World) (hS:S w) (eg:∀ args w,(callFunc g args).run Tryz.prog w=.ok (.enter g args) w) (hn:n≤1099511627776) (hr:r≤n)
  (hf:Hid (∀ i:Nat,i<n→∀ u:World,S u→Calls Tryz.prog g (#[.int .i64 (i:Int)]++cb) u fun e u'=>e=.returned (.bool (p i))∧S u'))
  (lo:Hid (∀ i,i<r→p i=false)) (hi:Hid (∀ i,r≤i→i<n→p i=true)) :
  Calls Tryz.prog 137 #[.int .i64 (n:Int),.func (.func g) #[] cb] w fun e w'=>e=.returned (.int .i64 (r:Int))∧S w':=by
 go_enter Tryz.func137,Tryz.ntmps137
 go_wp2
 go_loopw [5,6] (fun iv jv wr=>∃ (i j:Nat),iv=.int .i64 i∧jv=.int .i64 j∧i≤r∧r≤j∧j≤n∧S wr) (fun iv jv _=>(intOf jv).toNat-(intOf iv).toNat)
 case atStart=>exact⟨0,n,rfl,rfl,Nat.zero_le _,hr,Nat.le_refl _,hS⟩
 case round =>
  obtain⟨i,j,rfl,rfl,h1,h2,h3,hSr⟩:=hrel
  by_cases hij:i<j
  ·have hc:=hf.out ((i+j) / 2) (by omega) wr hSr
   rw[show (((i+j) / 2:Nat):Int)=((i:Int)+(j:Int)) / 2 by omega] at hc
   by_cases hm:(i+j) / 2<r
   ·rw[lo.out _ hm] at hc
    go_wp2_with (go_at_fn g;refine hc.mono ?_;rintro e w' ⟨rfl,hS'⟩)
    go_roundw
    case rel=>exact⟨(i+j) / 2+1,j,by go_num,rfl,by omega,h2,h3,hS'⟩
    case measure=>simp[intOf];omega
   ·rw[hi.out _ (by omega) (by omega)] at hc
    go_wp2_with (go_at_fn g;refine hc.mono ?_;rintro e w' ⟨rfl,hS'⟩)
    go_roundw
    case rel=>exact⟨i,(i+j) / 2,rfl,by go_num,h1,by omega,by omega,hS'⟩
    case measure=>simp[intOf];omega
  ·obtain rfl:i=r:=by omega
   go_wp2
   go_ret
   exact⟨rfl,hSr⟩
end

section
open Go.RowKit
attribute [local simp] Zou
theorem ZdL {u u':World} (h:Below u.heap.size u u') {b o:Nat} {v:Value} (hb:b<u.heap.size) (hc:u.cell? ⟨b,o,none⟩=some v):u'.cell? ⟨b,o,none⟩=some v:=by
 rw[← hc]
 unfold World.cell?
 rw[h.block b hb]
def px (h:List Pr) (i:Nat):Int:=(h[i]?.map (·.X)).getD 0
def py (h:List Pr) (i:Nat):Int:=(h[i]?.map (·.Y)).getD 0
theorem ZtI {h:List Pr} {i:Nat} (hi:i<h.length):px h i=h[i].X:=by simp[px,hi]
theorem ZtJ {h:List Pr} {i:Nat} (hi:i<h.length):py h i=h[i].Y:=by simp[py,hi]
theorem ZAA (h:List Pr) (x:Int) (i B1 B2:Nat) (hv:Value) (W u:World) (hL:Low W u) (hb1:B1<W.heap.size) (hb2:B2<W.heap.size) (c1:W.cell? ⟨B1,0,none⟩=some hv) (c2:W.cell? ⟨B2,0,none⟩=some (.int .i64 x)) (hh:HPr W hv h) (hi:i<h.length) :
  Calls Tryz.prog 176 #[.int .i64 (i:Int),.pointer (some ⟨B1,0,none⟩),.pointer (some ⟨B2,0,none⟩)] u fun e u'=>e=.returned (.bool (decide (px h i≤x)))∧Low W u':=by
 obtain⟨ho,hc,rfl⟩:=Holds.form hh
 obtain⟨b,off,rfl,hbl,hcs⟩:=HPr.at hh (by omega)
 have d1:=ZdL hL hb1 c1
 have d2:=ZdL hL hb2 c2
 have d3:=ZdL hL hbl (hcs i hi).1
 rw[ZtI hi]
 generalize h[i].X=X at *
 clear c1 c2 hcs
 have i1:0≤(i:Int):=by omega
 have i2:(i:Int)<(h.length:Int):=by omega
 go_enter Tryz.func176,Tryz.ntmps176
 go_wp2_with fail
 go_quiet (fail)
 go_wp2
 go_ret
 exact⟨rfl,Below.dN hL _⟩
theorem ZBe (h:List Pr) (p:Pr) (i B1 B2:Nat) (hv:Value) (W u:World) (hL:Low W u) (hb1:B1<W.heap.size) (hb2:B2<W.heap.size) (c1:W.cell? ⟨B1,0,none⟩=some hv) (c2:W.cell? ⟨B2,1,none⟩=some (.int .i64 p.Y)) (hh:HPr W hv h) (hi:i<h.length) :
  Calls Tryz.prog 161 #[.int .i64 (i:Int),.pointer (some ⟨B1,0,none⟩),.pointer (some ⟨B2,0,none⟩)] u fun e u'=>e=.returned (.bool (decide (p.Y<py h i)))∧Low W u':=by
 obtain⟨ho,hc,rfl⟩:=Holds.form hh
 obtain⟨b,off,rfl,hbl,hcs⟩:=HPr.at hh (by omega)
 have d1:=ZdL hL hb1 c1
 have d2:=ZdL hL hb2 c2
 have d3:=ZdL hL hbl (hcs i hi).2
 rw[ZtJ hi]
 generalize h[i].Y=X at *
 clear c1 c2 hcs
 have i1:0≤(i:Int):=by omega
 have i2:(i:Int)<(h.length:Int):=by omega
 go_enter Tryz.func161,Tryz.ntmps161
 go_wp2_with fail
 go_quiet (fail)
 go_wp2
 go_ret
 exact⟨rfl,Below.dN hL _⟩
theorem ZAB (h:List Pr) (x:Int) (v:Value) (w:World) (hh:HPr w v h) (hl:h.length≤1048576) (hs:Hid (Stair h)) (r:Nat) (hr:Hid (upto h x=r)) :
  Calls Tryz.prog 160 #[v,.int .i64 x] w fun e w'=>e=.returned (.int .i64 (r:Int))∧Below w.heap.size w w':=by
 obtain⟨ho,hc,rfl⟩:=Holds.form hh
 have hrl:r≤h.length:=by rw[← hr.out];exact ZAK h x
 obtain⟨W2,hW2⟩:∃ W2,(w.alloc (Obj.cells #[.slice ho h.length hc] 240)).alloc (Obj.cells #[.int .i64 x] 3)=W2:=⟨_,rfl⟩
 have hB:Below w.heap.size w W2:=by rw[← hW2];exact ((Below.refl _ w).alloc (Nat.le_refl _) _).alloc (by simp) _
 have hsz:W2.heap.size=w.heap.size+1+1:=by rw[← hW2];simp
 have k1:W2.heap[w.heap.size]?=some (Obj.cells #[.slice ho h.length hc] 240 (0,0)):=by rw[← hW2];exact (Below.heap_alloc _ _ _ (by simp)).trans (_root_.Go.heap_alloc_new w _)
 have k2:W2.heap[w.heap.size+1]?=some (Obj.cells #[.int .i64 x] 3 (0,0)):=by rw[← hW2];exact ZbP w _ _
 have c1:W2.cell? ⟨w.heap.size,0,none⟩=some (.slice ho h.length hc):=by rw[Lib.cell_of_heap k1];rfl
 have c2:W2.cell? ⟨w.heap.size+1,0,none⟩=some (.int .i64 x):=by rw[Lib.cell_of_heap k2];rfl
 have hh2:=HPr.keep hh hB (Nat.le_refl _)
 go_enter Tryz.func160,Tryz.ntmps160
 go_wp2_with fail
 refine (Zbd 176 #[.pointer (some ⟨w.heap.size,0,none⟩),.pointer (some ⟨w.heap.size+1,0,none⟩)] h.length r (fun i=>decide (px h i≤x)) (fun u=>Low W2 u) W2 (Below.refl _ _) (enters_of Tryz.func176 (by kernel_rfl) rfl) (by omega) hrl
  (fun i hi u hu=>ZAA h x i w.heap.size (w.heap.size+1) _ W2 u hu (by omega) (by omega) c1 c2 hh2 hi)
  (fun i hi=>by
   have hi':i<h.length:=by omega
   rw[← hr.out] at hi
   have:=ZAL hi hi'
   rw[ZtI hi']
   exact decide_eq_false (by omega))
  (fun i hi hil=>by
   rw[← hr.out] at hi
   rw[ZtI hil]
   exact decide_eq_true (ZAI hs.out hi hil))).mono ?_
 rintro e w3 ⟨rfl,hL3⟩
 go_wp2
 go_ret
 exact⟨rfl,hB.trans (Below.mono hL3 (by omega))⟩
theorem Zbr (p q:Pr) (r:Bool) (w:World) (hr:Hid (decide (ab p q)=r)) :
  Calls Tryz.prog 127 #[prV p,prV q] w fun e w'=>e=.returned (.bool r)∧Below w.heap.size w w':=by
 obtain⟨ax,ay⟩:=p
 obtain⟨bx,by'⟩:=q
 unfold prV
 have h:=hr.out
 unfold ab at h
 dsimp only at h
 go_enter Tryz.func127,Tryz.ntmps127
 subst h
 clear hr
 by_cases h1:bx<ax
 ·go_wp2
  go_ret
  exact⟨ret_bool (by simp[h1]),((Below.refl _ w).alloc (Nat.le_refl _) _).alloc (by simp) _⟩
 ·go_wp2
  go_ret
  exact⟨ret_bool (by simp;omega),((Below.refl _ w).alloc (Nat.le_refl _) _).alloc (by simp) _⟩
theorem Zcz (h:List Pr) (p:Pr) (v:Value) (w:World) (hh:HPr w v h) (hl:h.length≤1048576) (hs:Hid (Stair h)) (r:Bool) (hr:Hid (r=true↔∃ a∈h,ab a p)) :
  Calls Tryz.prog 139 #[v,prV p] w fun e w'=>e=.returned (.bool r)∧Below w.heap.size w w':=by
 obtain⟨ho,hc,rfl⟩:=Holds.form hh
 obtain⟨X,Y⟩:=p
 have hrr:=hr.out
 rw[ZcA hs.out] at hrr
 dsimp only at hrr
 obtain⟨k,hk⟩:∃ k,upto h X=k:=⟨_,rfl⟩
 have hkl:=ZAK h X
 rw[hk] at hrr hkl
 have HK:Hid (upto h X=k):=hk
 have HR:Hid (r=true↔0<k∧∃ a,h[k-1]?=some a∧Y<a.Y):=hrr
 clear hk hrr hr
 unfold prV
 dsimp only
 obtain⟨W1,hW1⟩:∃ W1,w.alloc (Obj.cells #[.int .i64 X,.int .i64 Y] 187)=W1:=⟨_,rfl⟩
 have hB:Below w.heap.size w W1:=by rw[← hW1];exact (Below.refl _ w).alloc (Nat.le_refl _) _
 have hsz:W1.heap.size=w.heap.size+1:=by rw[← hW1];simp
 have k1:W1.heap[w.heap.size]?=some (Obj.cells #[.int .i64 X,.int .i64 Y] 187 (0,0)):=by rw[← hW1];exact _root_.Go.heap_alloc_new w _
 have c1:W1.cell? ⟨w.heap.size,0,none⟩=some (.int .i64 X):=by rw[Lib.cell_of_heap k1];rfl
 have c2:W1.cell? ⟨w.heap.size,1,none⟩=some (.int .i64 Y):=by rw[Lib.cell_of_heap k1];rfl
 have hh1:=HPr.keep hh hB (Nat.le_refl _)
 go_enter Tryz.func139,Tryz.ntmps139
 go_wp2_with fail
 refine (ZAB h X _ W1 hh1 hl hs k HK).mono ?_
 rintro e w2 ⟨rfl,hB2⟩
 have hB02:Below w.heap.size w w2:=hB.trans (hB2.mono (by omega))
 have d2:=ZdL hB2 (by omega) c2
 have hh2:=HPr.keep hh1 hB2 (Nat.le_refl _)
 clear c1 c2 k1 hh1 hW1
 cases k with
 | zero =>
  have:r=false:=by
   cases r with
   | false=>rfl
   | true=>have:=(HR.out.1 rfl).1;omega
  subst this
  have e1:decide ((0:Int)<0)=false:=rfl
  go_wp2_with fail
  go_big_quiet (fail)
  go_wp2
  go_ret
  exact⟨rfl,Below.dN hB02 _⟩
 | succ k =>
  obtain⟨b,off,rfl,_,hcs⟩:=HPr.at hh2 (by omega)
  have d3:=(hcs k (by omega)).2
  obtain⟨Z,hZ⟩:∃ Z,h[k].Y=Z:=⟨_,rfl⟩
  rw[hZ] at d3
  have hrz:r=decide (Y<Z):=by
   have:=HR.out
   rw[Nat.add_sub_cancel,List.getElem?_eq_getElem (by omega)] at this
   cases r with
   | false =>
    symm
    refine decide_eq_false (fun c=>?_)
    have:=this.2 ⟨by omega,_,rfl,by rw[hZ];exact c⟩
    cases this
   | true =>
    obtain⟨_,a,ha,hya⟩:=this.1 rfl
    cases ha
    rw[hZ] at hya
    exact (decide_eq_true hya).symm
  subst hrz
  clear hcs hZ HR HK
  have e1:decide ((0:Int)<(k:Int)+1)=true:=decide_eq_true (by omega)
  have i1:0≤(k:Int):=by omega
  have i2:(k:Int)<(h.length:Int):=by omega
  have n4:IntKind.i64.wrap ((k:Int)+1-1)=(k:Int):=by rw[IntKind.wrap_i64];omega
  have n6:(k:Int)+1-1=(k:Int):=by omega
  go_wp2_with fail
  go_big_quiet (fail)
  go_wp2
  go_ret
  exact⟨rfl,Below.dN hB02 _⟩
end

section
open Go.RowKit
attribute [local simp] Zou Zos
theorem ZrB {w:World} {base n:Nat} {e:TypeId} {s:Nat} {v:Value} {xs:List Value} (ho:w.ownsRow base e s v n xs) {g:Nat} (hg:v.ownBlock=some g):g<w.heap.size:=by
 rcases ho.2 with ⟨h1,_⟩ | ⟨g',cap,cur,q1,q2,q3,_⟩
 ·rw[h1] at hg;cases hg
 ·rw[q1] at hg;cases hg;exact (Array.getElem?_eq_some_iff.1 q3).1
theorem ZcS (u:World) (p:Pr):Blk (u.alloc (.cells #[.int .i64 p.X,.int .i64 p.Y] 187)) u.heap.size (prC p):=_root_.Go.heap_alloc_new u _
structure Np (W:World) (gp:Nat) (p:Pr) (u:World):Prop where
 blk:Blk u gp (prC p)
 ge:W.heap.size≤gp
theorem ZAD (h:List Pr) (x:Int) (v:Value) (W u:World) (hh:HPr W v h) (hl:h.length≤1048576) (hs:Hid (Stair h)) (r:Nat) (hr:Hid (upto h x=r)) (hL:Low W u) :
  Calls Tryz.prog 160 #[v,.int .i64 x] u fun e w'=>e=.returned (.int .i64 (r:Int))∧Low W w':=by
 refine (ZAB h x v u (HPr.keep hh hL (Nat.le_refl _)) hl hs r hr).mono ?_
 rintro e w' ⟨rfl,h2⟩
 exact⟨rfl,Below.trans hL (h2.mono (Below.size hL))⟩
theorem ZAE (h:List Pr) (x:Int) (v:Value) (W u:World) (hh:HPr W v h) (hl:h.length≤1048576) (hs:Hid (Stair h)) (r:Nat) (hr:Hid (upto h x=r)) (hL:Low W u) (gp:Nat) (p:Pr) (hp:Np W gp p u) :
  Calls Tryz.prog 160 #[v,.int .i64 x] u fun e w'=>e=.returned (.int .i64 (r:Int))∧Low W w'∧Np W gp p w':=by
 refine (ZAB h x v u (HPr.keep hh hL (Nat.le_refl _)) hl hs r hr).mono ?_
 rintro e w' ⟨rfl,h2⟩
 exact⟨rfl,Below.trans hL (h2.mono (Below.size hL)),(h2.block gp (Array.getElem?_eq_some_iff.1 hp.blk).1).trans hp.blk,hp.ge⟩
theorem ZaZ (h:List Pr) (p:Pr) (i j gp base:Nat) (v:Value) (W u:World) (hO:W.ownsRow base 187 2 v h.length (prcells h)) (hb:base≤W.heap.size) (hij:i≤j) (hj:j≤h.length) (hl:h.length≤1048576) (hL:Low W u) (hp:Np W gp p u) :
  Calls Tryz.prog 162 #[v,.int .i64 (i:Int),.int .i64 (j:Int),.slice (some ⟨gp,0,none⟩) 1 1] u fun e w'=>∃ v',e=.returned v'∧Grows base W v v' (h.take i++p::h.drop j) w':=by
 refine (ZaX h p i j gp base v u (Zrx hO hL) (Nat.le_trans hb (Below.size hL)) hij hj hp.blk (fun e=>by have:=ZrB hO e;have:=hp.ge;omega) hl).mono ?_
 rintro e w' ⟨v',rfl,h1,h2,h3⟩
 refine⟨v',rfl,h1,(Zow hL _).trans h2,?_⟩
 rcases h3 with h3 | ⟨g,h3,h4⟩
 ·exact .inl h3
 ·exact .inr ⟨g,h3,Nat.le_trans (Below.size hL) h4⟩
theorem ZBg (h:List Pr) (p:Pr) (base:Nat) (v:Value) (w:World) (hO:w.ownsRow base 187 2 v h.length (prcells h)) (hb:base≤w.heap.size) (hs:Hid (Stair h)) (hn:Hid (¬ ∃ a∈h,ab a p)) (hl:h.length≤1048576) (L:List Pr) (hL:Hid (ins h p=L)) :
  Calls Tryz.prog 140 #[v,prV p] w fun e w'=>∃ v',e=.returned v'∧Grows base w v v' L w':=by
 obtain⟨ho,hc,rfl⟩:=(holds_of hO).form
 obtain⟨X,Y⟩:=p
 obtain⟨i,hi⟩:∃ i,upto h X=i:=⟨_,rfl⟩
 obtain⟨j,hj⟩:∃ j,grt h Y=j:=⟨_,rfl⟩
 have hij:i≤j:=by rw[← hi,← hj];exact ZAJ hs.out hn.out
 have hjl:j≤h.length:=by rw[← hj];exact Zkn h Y
 have HI:Hid (upto h X=i):=hi
 have HJ:Hid (grt h Y=j):=hj
 have HL:Hid (h.take i++⟨X,Y⟩::h.drop j=L):=(by show _=_;rw[← hL.out,← hi,← hj];rfl)
 clear hi hj hL
 unfold prV
 dsimp only
 obtain⟨W2,hW2⟩:∃ W2,(w.alloc (Obj.cells #[.slice ho h.length hc] 240)).alloc (Obj.cells #[.int .i64 X,.int .i64 Y] 187)=W2:=⟨_,rfl⟩
 have hB:Below w.heap.size w W2:=by rw[← hW2];exact ((Below.refl _ w).alloc (Nat.le_refl _) _).alloc (by simp) _
 have hsz:W2.heap.size=w.heap.size+1+1:=by rw[← hW2];simp
 have k1:W2.heap[w.heap.size]?=some (Obj.cells #[.slice ho h.length hc] 240 (0,0)):=by rw[← hW2];exact (Below.heap_alloc _ _ _ (by simp)).trans (_root_.Go.heap_alloc_new w _)
 have k2:W2.heap[w.heap.size+1]?=some (Obj.cells #[.int .i64 X,.int .i64 Y] 187 (0,0)):=by rw[← hW2];exact ZbP w _ _
 have c1:W2.cell? ⟨w.heap.size,0,none⟩=some (.slice ho h.length hc):=by rw[Lib.cell_of_heap k1];rfl
 have c2:W2.cell? ⟨w.heap.size+1,0,none⟩=some (.int .i64 X):=by rw[Lib.cell_of_heap k2];rfl
 have c3:W2.cell? ⟨w.heap.size+1,1,none⟩=some (.int .i64 Y):=by rw[Lib.cell_of_heap k2];rfl
 have hO2:=Zrx hO hB
 have hh2:HPr W2 (.slice ho h.length hc) h:=holds_of hO2
 have hcs:∀ u:World,Low W2 u→u.cell? ⟨w.heap.size,0,none⟩=some (.slice ho h.length hc)∧u.cell? ⟨w.heap.size+1,0,none⟩=some (.int .i64 X)∧u.cell? ⟨w.heap.size+1,1,none⟩=some (.int .i64 Y):=fun u hu=>⟨ZdL hu (by omega) c1,ZdL hu (by omega) c2,ZdL hu (by omega) c3⟩
 have hcs2:∀ u:World,W2.grownBy u (Value.slice ho h.length hc).ownBlock→u.cell? ⟨w.heap.size,0,none⟩=some (.slice ho h.length hc)∧u.cell? ⟨w.heap.size+1,0,none⟩=some (.int .i64 X)∧u.cell? ⟨w.heap.size+1,1,none⟩=some (.int .i64 Y):=fun u hu=>by
  have n1:=hu.block w.heap.size (by omega) (fun e=>Nat.lt_irrefl _ (ZrB hO e.symm))
  have n2:=hu.block (w.heap.size+1) (by omega) (fun e=>by have:=ZrB hO e.symm;omega)
  exact⟨by rw[Lib.cell_of_heap (n1.trans k1)];rfl,by rw[Lib.cell_of_heap (n2.trans k2)];rfl,by rw[Lib.cell_of_heap (n2.trans k2)];rfl⟩
 clear k1 k2
 go_enter Tryz.func140,Tryz.ntmps140
 go_wp2_with fail
 refine (Zbd 161 #[.pointer (some ⟨w.heap.size,0,none⟩),.pointer (some ⟨w.heap.size+1,0,none⟩)] h.length j (fun i=>decide (Y<py h i)) (fun u=>Low W2 u) W2 (Below.refl _ _) (enters_of Tryz.func161 (by kernel_rfl) rfl) (by omega) hjl
  (fun i hi u hu=>ZBe h ⟨X,Y⟩ i w.heap.size (w.heap.size+1) _ W2 u hu (by omega) (by omega) c1 c3 hh2 hi)
  (fun i hi=>by
   have hi':i<h.length:=by omega
   rw[← HJ.out] at hi
   have:=Zko hi hi'
   rw[ZtJ hi']
   exact decide_eq_false (by omega))
  (fun i hi hil=>by
   rw[← HJ.out] at hi
   rw[ZtJ hil]
   exact decide_eq_true (Zkm hs.out hi hil))).mono ?_
 rintro e w3 ⟨rfl,hL3⟩
 obtain⟨d1,d2,d3⟩:=hcs w3 hL3
 have hL3':Low W2 w3:=hL3
 clear c1 c2 c3
 go_wp2_with fail
 go_region_held3 (fun w'=>w'.cell? ⟨w.heap.size,0,none⟩=some (.slice ho h.length hc)∧w'.cell? ⟨w.heap.size+1,0,none⟩=some (.int .i64 X)∧w'.cell? ⟨w.heap.size+1,1,none⟩=some (.int .i64 Y)) (go_keep)
  (first
   | (go_at_call 160;refine (ZAE h X _ W2 _ hh2 hl hs i HI (by first | assumption | (simp[*];done)) _ ⟨X,Y⟩ (by exact⟨ZcS w3 ⟨X,Y⟩,Below.size hL3'⟩)).mono ?_;rintro e u1 ⟨rfl,hlow,hnp⟩;obtain⟨e1,e2,e3⟩:=hcs u1 hlow)
   | (go_at_call 160;refine (ZAD h X _ W2 _ hh2 hl hs i HI (by first | assumption | (simp[*];done))).mono ?_;rintro e u1 ⟨rfl,hlow⟩;obtain⟨e1,e2,e3⟩:=hcs u1 hlow)
   | (go_at_call 162;refine (ZaZ h ⟨X,Y⟩ i j _ base _ W2 _ hO2 (by omega) hij hjl hl (by first | assumption | (simp[*];done)) (by first | exact hnp | exact⟨hnp.blk,hnp.ge⟩ | exact⟨ZcS u1 ⟨X,Y⟩,Below.size hlow⟩)).mono ?_;rintro e u2 ⟨v',rfl,hG⟩;obtain⟨e1,e2,e3⟩:=hcs2 u2 hG.2.1))
 all_goals
  rw[HL.out] at hG
  obtain⟨ao',c',rfl⟩:=(holds_of hG.1).form
  go_wp2
  go_ret
  refine⟨_,rfl,?_,(Zow hB _).trans hG.2.1,?_⟩
  ·exact hG.1
  ·rcases hG.2.2 with h3 | ⟨g,h3,h4⟩
   ·exact .inl h3
   ·exact .inr ⟨g,h3,by omega⟩
end

section
open Go.RowKit Go.Shelf
attribute [local go_sem] Oper.semAt_some
structure Kq (n₀ lo:Nat) (W W':World):Prop where
 low:Below n₀ W W'
 box:W'.heap[lo]?=W.heap[lo]?
section
variable {n₀ lo:Nat} {A B C:World}
theorem Kq.refl (W:World):Kq n₀ lo W W:=⟨Below.refl _ _,rfl⟩
theorem Kq.trans (h:Kq n₀ lo A B) (k:Kq n₀ lo B C):Kq n₀ lo A C:=⟨h.low.trans k.low,k.box.trans h.box⟩
theorem Kq.alloc {W:World} (hn:n₀≤W.heap.size) (hl:lo<W.heap.size) (o:Obj):Kq n₀ lo W (W.alloc o):=⟨(Below.refl _ W).alloc hn o,Below.heap_alloc W o lo hl⟩
theorem Kq.putObj {w:World} (hn:n₀≤w.heap.size) (hl:lo<w.heap.size) (W:World) (l:Nat) (o o':Obj) (hlw:w.heap.size≤l) (h:W.heap[l]?=some o) (hc:o.isCells=false) (hw:o.isWalk=false):Kq n₀ lo W (W.putObj l o') :=
 ⟨belowK_b hn W l o o' hlw h hc hw,by have hne:l≠lo:=(by omega);simp[World.putObj,hne]⟩
theorem Kq.drewN (W:World) (k:Nat):Kq n₀ lo W (W.drewN k):=⟨Below.dN (Below.refl _ W) k,rfl⟩
end
def en (k:Nat):List Pr→List (Nat × Pr)
 | []=>[]
 | p::t=>(k,p)::en (k+1) t
theorem Zhi (k:Nat) (a b:List Pr):en k (a++b)=en k a++en (k+a.length) b:=by
 induction a generalizing k with
 | nil=>rfl
 | cons p t ih=>simp[en,ih];congr 1;omega
theorem Zhk (l:List Pr) (i:Nat) (hi:i<l.length):(en 0 (l.take (i+1))).reverse=(i,l[i])::(en 0 (l.take i)).reverse:=by
 rw[List.take_succ_eq_append_getElem hi,Zhi,List.reverse_append]
 have:0+(l.take i).length=i:=by rw[List.length_take];omega
 rw[this]
 rfl
theorem Zhj (k:Nat) (l:List Pr):(en k l).map (·.2)=l:=by
 induction l generalizing k with
 | nil=>rfl
 | cons p t ih=>simp[en,ih]
abbrev Mp (n:Nat):={ x:Nat × Pr // x.1<n }
theorem Zab (ao:Option Addr) (len c:Nat) (w:World) :
  Calls Tryz.prog 136 #[.slice ao len c] w fun e w' =>
   e=.returned (.func (.func 159) #[] #[.pointer (some ⟨w.heap.size,0,none⟩)])∧w'=w.alloc (.cells #[.slice ao len c] 183):=by
 go_enter Tryz.func136,Tryz.ntmps136
 go_wp2
 go_ret
 exact⟨rfl,rfl⟩
theorem Zcg (N:Nat) (hN:1≤N) (lp lo n₀:Nat) (ao:Option Addr) (ca:Nat) (l:List Pr) (hlen:l.length≤1048576)
  (J Jx:List (Mp l.length)→World→Prop) (W:World) (_hJ:AbidesFrom W.heap.size J)
  (hY:∀ pre (x:Mp l.length) W1,J pre W1→pre.length<l.length→YieldAt Fence.wide (N-1) Tryz.prog lp #[.int .i64 (x.1.1:Int),prV x.1.2] W1 fun e W' =>
   (e=.returned (.bool true)∧J (pre++[x]) W'∧Kq n₀ lo W1 W')∨(e=.returned (.bool false)∧Jx (pre++[x]) W'))
  (_hlo:n₀≤lo) (_hsz:lo<W.heap.size) (hb0:W.heap[lo]?=some (.cells #[.slice ao l.length ca] 183 (0,0)))
  (hl:HPr W (.slice ao l.length ca) l) (hb:∀ a,ao=some a→0<l.length→a.block<n₀) (h0:J [] W) :
  CallsIn Fence.wide N Tryz.prog 159 #[.func (.yield lp) #[] #[],.pointer (some ⟨lo,0,none⟩)] W fun e W'=>(∃ v,e=.returned v) ∧
   ((∃ ys:List (Mp l.length),ys.map (·.1)=(en 0 l).reverse∧J ys W')∨(∃ pre,True∧Jx pre W')):=by
 have d0:W.cell? ⟨lo,0,none⟩=some (.slice ao l.length ca):=by rw[Lib.cell_of_heap hb0];rfl
 refine callsIn_of_wp Tryz.func159 rfl trivial ?_ rfl
 simp only[Tryz.ntmps159,List.size_toArray,List.length_cons,List.length_nil,Nat.reduceAdd,Nat.reduceSub,Array.replicate_succ,Array.replicate_zero,List.push_toArray,List.append_toArray,List.nil_append,List.cons_append]
 gi_wp2
 gi_loopw [3] (fun iv wr=>∃ (k:Nat) (z:Int) (pre:List (Mp l.length)),k≤l.length∧pre.length+k=l.length∧iv=.int .i64 z∧z+1=k∧Kq n₀ lo W wr∧J pre wr∧Hid (pre.map (·.1)++(en 0 (l.take k)).reverse=(en 0 l).reverse)) (fun iv _=>(intOf iv+1).toNat)
 case atStart=>exact⟨l.length,(l.length:Int)-1,[],Nat.le_refl _,by simp,by go_num,by omega,Kq.refl W,h0,(by show _=_;simp)⟩
 case round =>
  obtain⟨k,z,pre,hk,hpl,rfl,hz,hK,hJr,hR⟩:=hrel
  have hszr:=hK.low.size
  have hbx:=hK.box.trans hb0
  have d1:wr.cell? ⟨lo,0,none⟩=some (.slice ao l.length ca):=by rw[Lib.cell_of_heap hbx];rfl
  cases k with
  | zero =>
   obtain rfl:z=-1:=by omega
   gi_wp2
   go_end0
   exact⟨⟨_,rfl⟩,.inl ⟨pre,by have h:=hR.out;rw[← h];simp[en],hJr⟩⟩
  | succ i =>
   obtain rfl:z=(i:Int):=by omega
   have hlt:i<l.length:=by omega
   obtain⟨bk,off,rfl,hbk,hc⟩:=HPr.at hl (by omega)
   have hbn:=hb _ rfl (by omega)
   have hcell:∀ o v,W.cell? ⟨bk,o,none⟩=some v→wr.cell? ⟨bk,o,none⟩=some v:=fun o v h=>by
    rw[← h]
    unfold World.cell?
    rw[hK.low.block bk hbn]
   obtain⟨c0',c1'⟩:=hc i hlt
   have c0:=hcell _ _ c0'
   have c1:=hcell _ _ c1'
   have HR:Hid (pre.map (·.1)++(i,l[i])::(en 0 (l.take i)).reverse=(en 0 l).reverse):=(by
    show _=_
    rw[← Zhk l i hlt]
    exact hR.out)
   obtain⟨p,hp⟩:∃ p,l[i]=p:=⟨_,rfl⟩
   rw[hp] at c0 c1 HR
   clear hc c0' c1' hcell hR hp
   have i1:0≤(i:Int):=by omega
   have i2:(i:Int)<(l.length:Int):=by omega
   obtain⟨X,Y⟩:=p
   dsimp only at c0 c1
   obtain⟨fn,tmps,assign,body,hy,hRd⟩:=hY pre ⟨(i,⟨X,Y⟩),hlt⟩ wr hJr (by omega)
   simp only[prV] at hy
   gi_wp2
   refine hRd.mono ?_
   rintro e W3 (⟨rfl,hJ3,hk3⟩ | ⟨rfl,hJx3⟩)
   ·gi_wp2
    go_roundw
    case rel=>exact⟨i,(i:Int)-1,pre++[⟨(i,⟨X,Y⟩),hlt⟩],by omega,by simp;omega,by go_num,by omega,hK.trans hk3,hJ3,(by show _=_;rw[← HR.out];simp)⟩
    case measure=>simp[intOf]
   ·gi_wp2
    refine bodyPost_ret (results_none rfl _ _ _) rfl ?_
    exact⟨⟨_,rfl⟩,.inr ⟨_,trivial,hJx3⟩⟩
theorem HPr.lt {w:World} {ao:Option Addr} {n c:Nat} {l:List Pr} (h:HPr w (.slice ao n c) l) (a:Addr) (ha:ao=some a) (h0:0<l.length):a.block<w.heap.size:=by
 obtain⟨b,off,hb,hlt,_⟩:=HPr.at h h0
 rw[ha] at hb
 cases hb
 exact hlt
theorem Zch (N:Nat) (hN:1≤N) (lo n₀:Nat) (ao:Option Addr) (ca:Nat) (l:List Pr) (hlen:l.length≤1048576) (w:World)
  (hlo:n₀≤lo) (hsz:lo<w.heap.size) (hb0:w.heap[lo]?=some (.cells #[.slice ao l.length ca] 183 (0,0))) (hl:HPr w (.slice ao l.length ca) l) (hb:∀ a,ao=some a→0<l.length→a.block<n₀) :
  SeqStopsK Fence.wide N Tryz.prog 159 #[.pointer (some ⟨lo,0,none⟩)] (fun x:Mp l.length=>#[.int .i64 (x.1.1:Int),prV x.1.2]) (Kq n₀ lo) (fun ys=>ys.map (·.1)=(en 0 l).reverse) (fun _=>True) l.length w:=fun lp J Jx W hW hJ _ hY h0 =>
 Zcg N hN lp lo n₀ ao ca l hlen J Jx W hJ hY hlo (Nat.lt_of_lt_of_le hsz hW.size) ((hW.block _ hsz).trans hb0) (HPr.keep hl hW (Nat.le_refl _)) hb h0
end

section
open Go.RowKit
attribute [local simp] Zou Zos
theorem Zru {w:World} {base n:Nat} {e:TypeId} {s:Nat} {v:Value} {xs:List Value} (ho:w.ownsRow base e s v n xs) {g:Nat} (hg:v.ownBlock=some g):∃ cur,w.heap[g]?=some (.cells cur e (0,0))∧base≤g:=by
 rcases ho.2 with ⟨h1,_⟩ | ⟨g',cap,cur,q1,q2,q3,_⟩
 ·rw[h1] at hg;cases hg
 ·rw[q1] at hg;cases hg;exact⟨cur,q3,q2⟩
theorem Zrw {w:World} {base base' n n':Nat} {e e':TypeId} {s s':Nat} {v v':Value} {xs xs':List Value} (ho:w.ownsRow base e s v n xs) (ho':w.ownsRow base' e' s' v' n' xs') (hne:e≠e'):v.ownBlock=none∨v.ownBlock≠v'.ownBlock:=by
 cases h:v.ownBlock with
 | none=>exact .inl rfl
 | some g =>
  right
  intro e2
  obtain⟨cur,h1,_⟩:=Zru ho h
  obtain⟨cur',h2,_⟩:=Zru ho' e2.symm
  rw[h1] at h2
  cases h2
  exact hne rfl
structure Al (W:World) (base:Nat) (va:Value) (vals:List Value) (H:List (List Pr)):Prop where
 row:W.ownsRow base 240 1 va vals.length vals
 len:vals.length=H.length
 own:∀ (n:Nat) (v:Value) (h:List Pr),vals[n]?=some v→H[n]?=some h→W.ownsRow base 187 2 v h.length (prcells h)
 apart:∀ (i j:Nat) (v v':Value) (g:Nat),i≠j→vals[i]?=some v→vals[j]?=some v'→v.ownBlock=some g→v'.ownBlock≠some g
theorem Al.keep {W u:World} {base:Nat} {va:Value} {vals:List Value} {H:List (List Pr)} (h:Al W base va vals H) (hb:Low W u):Al u base va vals H :=
 ⟨Zrx h.row hb,h.len,fun n v k h1 h2=>Zrx (h.own n v k h1 h2) hb,h.apart⟩
theorem Al.at {W:World} {base:Nat} {va:Value} {vals:List Value} {H:List (List Pr)} (h:Al W base va vals H) {n:Nat} (hn:n<H.length):∃ v,vals[n]?=some v∧HPr W v H[n]:=by
 have hl:=h.len
 exact⟨vals[n],List.getElem?_eq_getElem (by omega),holds_of (h.own n _ _ (List.getElem?_eq_getElem (by omega)) (List.getElem?_eq_getElem hn))⟩
theorem Al.cell {W:World} {base:Nat} {ao:Option Addr} {k c:Nat} {vals:List Value} {H:List (List Pr)} (h:Al W base (.slice ao k c) vals H) {n:Nat} {v:Value} (hv:vals[n]?=some v):∃ g,ao=some ⟨g,0,none⟩∧g<W.heap.size∧W.cell? ⟨g,n,none⟩=some v∧W.frozen? ⟨g,n,none⟩=false:=by
 have hn:=(List.getElem?_eq_some_iff.1 hv).1
 rcases h.row.2 with ⟨h1,h2⟩ | ⟨g,cap,cur,q1,q2,q3,q4⟩
 ·omega
 ·cases q1
  refine⟨g,rfl,(Array.getElem?_eq_some_iff.1 q3).1,?_,h.row.frozenAt n⟩
  rw[h.row.cellAt n (by omega),hv]
theorem Al.set {W u:World} {base:Nat} {g k c:Nat} {vals:List Value} {H:List (List Pr)} (h:Al W base (.slice (some ⟨g,0,none⟩) k c) vals H) {n:Nat} {v v':Value} {h':List Pr} (hv:vals[n]?=some v) (hG:Grows base W v v' h' u):Al (u.setCell ⟨g,n,none⟩ v') base (.slice (some ⟨g,0,none⟩) k c) (vals.set n v') (H.set n h'):=by
 have hn:=(List.getElem?_eq_some_iff.1 hv).1
 have hl:=h.len
 obtain⟨g1,g2,g3⟩:=hG
 have hnH:n<H.length:=by omega
 have hOn:=h.own n v H[n] hv (List.getElem?_eq_getElem hnH)
 have hrow:u.ownsRow base 240 1 (.slice (some ⟨g,0,none⟩) k c) vals.length vals:=h.row.kept g2 (Zrw h.row hOn (by decide))
 have hkk:k=vals.length:=by
  rcases h.row.2 with ⟨h1,h2⟩ | ⟨g',cap,cur,q1,_⟩
  ·cases h1
  ·cases q1;rfl
 subst hkk
 obtain⟨p1,gs⟩:=hrow.stored n v'
 refine⟨by rw[List.length_set];exact p1,by simp[hl],fun m x y hx hy=>?_,fun i j x y b hij hx hy hb=>?_⟩
 ·by_cases e:m=n
  ·subst e
   rw[List.getElem?_set_self hn] at hx
   rw[List.getElem?_set_self hnH] at hy
   cases hx
   cases hy
   exact g1.kept gs (by simpa [Value.ownBlock] using Zrw g1 hrow (by decide))
  ·rw[List.getElem?_set_ne (fun q=>e q.symm)] at hx hy
   have hOm:=h.own m x y hx hy
   have hOu:u.ownsRow base 187 2 x y.length (prcells y):=hOm.kept g2 (by
    cases hb:x.ownBlock with
    | none=>exact .inl rfl
    | some b=>exact .inr (fun q=>h.apart m n x v b e hx hv hb q.symm))
   exact hOu.kept gs (by simpa [Value.ownBlock] using Zrw hOu hrow (by decide))
 ·have key:∀ m y,m≠n→vals[m]?=some y→∀ b,y.ownBlock=some b→v'.ownBlock≠some b:=fun m y hmn hy b hb q=>by
   rcases g3 with g3 | ⟨g',g3,g4⟩
   ·exact h.apart m n y v b hmn hy hv hb (g3 ▸ q)
   ·rw[g3] at q
    cases q
    have hm:=(List.getElem?_eq_some_iff.1 hy).1
    have:=ZrB (h.own m y H[m] hy (List.getElem?_eq_getElem (by omega))) hb
    omega
  by_cases ei:i=n
  ·subst ei
   rw[List.getElem?_set_self hn] at hx
   cases hx
   rw[List.getElem?_set_ne hij] at hy
   exact fun q=>key j y (fun q'=>hij q'.symm) hy b q hb
  ·rw[List.getElem?_set_ne (fun q=>ei q.symm)] at hx
   by_cases ej:j=n
   ·subst ej
    rw[List.getElem?_set_self hn] at hy
    cases hy
    exact key i x ei hx b hb
   ·rw[List.getElem?_set_ne (fun q=>ej q.symm)] at hy
    exact h.apart i j x y b hij hx hy hb
theorem Al.more {W w1:World} {base:Nat} {va va':Value} {vals:List Value} {H:List (List Pr)} (h:Al W base va vals H) (hO:w1.ownsRow base 240 1 va' (vals.length+1) (vals++[.slice none 0 0])) (hg:W.grownBy w1 va.ownBlock):Al w1 base va' (vals++[.slice none 0 0]) (H++[[]]):=by
 have hl:=h.len
 refine⟨by rw[List.length_append];exact hO,by simp[hl],fun n v k hv hk=>?_,fun i j x y b hij hx hy hb=>?_⟩
 ·by_cases e:n<vals.length
  ·rw[List.getElem?_append_left e] at hv
   rw[List.getElem?_append_left (by omega)] at hk
   have:=h.own n v k hv hk
   exact this.kept hg (Zrw this h.row (by decide))
  ·have hn:n=vals.length:=by
    have:=(List.getElem?_eq_some_iff.1 hv).1
    simp at this
    omega
   subst hn
   rw[List.getElem?_append_right (Nat.le_refl _)] at hv
   rw[hl,List.getElem?_append_right (Nat.le_refl _)] at hk
   simp at hv hk
   subst hv hk
   exact World.ownsRow_nil _ _ _ _
 ·have key:∀ (m:Nat) (y:Value),(vals++[.slice none 0 0])[m]?=some y→y.ownBlock≠none→vals[m]?=some y:=fun m y hy hn=>by
   by_cases e:m<vals.length
   ·rwa [List.getElem?_append_left e] at hy
   ·rw[List.getElem?_append_right (by omega)] at hy
    have:=(List.getElem?_eq_some_iff.1 hy).1
    simp at this
    have e2:m-vals.length=0:=by omega
    rw[e2] at hy
    simp at hy
    subst hy
    exact absurd rfl hn
  intro q
  exact h.apart i j x y b hij (key i x hx (by rw[hb];simp)) (key j y hy (by rw[q];simp)) hb q
theorem ZcB (h:List Pr) (p:Pr) (v:Value) (W u:World) (hh:HPr W v h) (hl:h.length≤1048576) (hs:Hid (Stair h)) (r:Bool) (hr:Hid (r=true↔∃ a∈h,ab a p)) (hL:Low W u) :
  Calls Tryz.prog 139 #[v,prV p] u fun e w'=>e=.returned (.bool r)∧Low W w':=by
 refine (Zcz h p v u (HPr.keep hh hL (Nat.le_refl _)) hl hs r hr).mono ?_
 rintro e w' ⟨rfl,h2⟩
 exact⟨rfl,Below.trans hL (h2.mono (Below.size hL))⟩
theorem Zvp (H:List (List Pr)) (p:Pr) (i B4 Bp base:Nat) (va:Value) (vals:List Value) (W u:World) (hL:Low W u) (hA:Al W base va vals H) (c4:W.cell? ⟨B4,0,none⟩=some va) (hb4:B4<W.heap.size) (cX:W.cell? ⟨Bp,0,none⟩=some (.int .i64 p.X)) (cY:W.cell? ⟨Bp,1,none⟩=some (.int .i64 p.Y)) (hbp:Bp<W.heap.size) (hi:i<H.length) (hst:Hid (∀ h∈H,Stair h∧h.length≤1048576)) (_hHl:H.length≤1048576) (r:Bool) (hr:Hid (r=true↔∃ a∈H[i],ab a p)) :
  Calls Tryz.prog 138 #[.int .i64 (i:Int),.pointer (some ⟨B4,0,none⟩),.pointer (some ⟨Bp,0,none⟩)] u fun e u'=>e=.returned (.bool !r)∧Low W u':=by
 obtain⟨ao,c,rfl⟩:=(holds_of hA.row).form
 obtain⟨v,hv,hh⟩:=hA.at hi
 obtain⟨g,rfl,hgl,cv,_⟩:=hA.cell hv
 have hs:=hst.out _ (List.getElem_mem hi)
 obtain⟨vo,vc,rfl⟩:=Holds.form hh
 have hlen:=hA.len
 obtain⟨X,Y⟩:=p
 dsimp only at cX cY
 have hcs:∀ z:World,Low W z→z.cell? ⟨B4,0,none⟩=some (.slice (some ⟨g,0,none⟩) vals.length c)∧z.cell? ⟨g,i,none⟩=some (.slice vo H[i].length vc)∧z.cell? ⟨Bp,0,none⟩=some (.int .i64 X)∧z.cell? ⟨Bp,1,none⟩=some (.int .i64 Y):=fun z hz=>⟨ZdL hz hb4 c4,ZdL hz hgl cv,ZdL hz hbp cX,ZdL hz hbp cY⟩
 obtain⟨d1,d2,d3,d4⟩:=hcs u hL
 obtain⟨h,hh'⟩:∃ h,H[i]=h:=⟨_,rfl⟩
 rw[hh'] at hh hs d2 hcs hr
 have HS:Hid (Stair h):=hs.1
 have hhl:=hs.2
 clear hh' c4 cX cY cv hs
 have i1:0≤(i:Int):=by omega
 have i2:(i:Int)<(vals.length:Int):=by omega
 go_enter Tryz.func138,Tryz.ntmps138
 go_wp2_with fail
 go_region_held3 (fun w'=>w'.cell? ⟨B4,0,none⟩=some (.slice (some ⟨g,0,none⟩) vals.length c)∧w'.cell? ⟨g,i,none⟩=some (.slice vo h.length vc)∧w'.cell? ⟨Bp,0,none⟩=some (.int .i64 X)∧w'.cell? ⟨Bp,1,none⟩=some (.int .i64 Y)∧Low W w') (go_keep)
  (first | (go_at_call 139;refine (ZcB h ⟨X,Y⟩ _ W _ hh hhl HS r hr (by first | assumption | (simp[*];done))).mono ?_;rintro e w' ⟨rfl,hlow⟩;obtain⟨g0,g1,g2,g3⟩:=hcs w' hlow))
 go_wp2
 go_ret
 exact⟨rfl,hlow⟩
end

section
open Go.RowKit
theorem Zna (b:Int) (x:List Int):kp b x x=(List.range x.length).map fun (j:Nat)=>b+(j:Int):=by
 induction x generalizing b with
 | nil=>rw[ZmW];rfl
 | cons a x ih =>
  rw[ZmT,if_pos rfl,ih,List.length_cons,List.range_succ_eq_map,List.map_cons,List.map_map]
  simp
  intro j _
  omega
theorem Zpz (x y:List Int) (hx:x.length≤4096) (hy:y.length≤4096):mkL (kp 0 x y) y.length=[]↔x=y:=by
 constructor
 ·intro h
  have hv:Vk 0 (y.length:Int) (kp 0 x y):=by
   have:=Znc 0 x y (Int.le_refl _)
   rwa [Int.zero_add] at this
  have hl:=ZmV 0 x y
  obtain⟨⟨_,_,hS⟩,hU⟩:=ZpA hv (by omega) (by omega) (by rw[hl];omega)
  rw[h] at hS hU
  rw[Zbh] at hU
  have hnm:x.length=y.length:=by
   have h1:=hS.2.2
   rw[hl] at h1
   omega
  apply List.ext_getElem hnm
  intro i h1 h2
  have hm:(⟨(i:Int),(i:Int),1⟩:Rn)∈keptR 0 (kp 0 x y):=by
   rw[← hU,Zps]
   rw[hl]
   refine⟨rfl,?_,?_,?_⟩<;>dsimp only<;>omega
  rw[Zpo] at hm
  obtain⟨_,_,h3,_⟩:=hm
  dsimp only at h3
  rw[show ((i:Int)-0).toNat=i by omega] at h3
  obtain⟨_,c,h4,h5⟩:=ZmY 0 x y (Int.le_refl _) i i h3 (by omega)
  rw[show ((i:Int)-0).toNat=i by omega] at h5
  rw[List.getElem?_eq_getElem h1] at h4
  rw[List.getElem?_eq_getElem h2] at h5
  rw[Option.some.inj h4,Option.some.inj h5]
 ·rintro rfl
  unfold mkL
  rw[Zna,ZmG 0 0 (Int.le_refl _),ZcM]
  simp[betw]
end

section
open Go.RowKit
end

section
open Go.RowKit
theorem ZwY {T E:TypeId} {z:Value} {bytes:Nat} (hT:Tryz.prog.underlying T=some (.slice E)) (hinfo:(Tryz.prog.info? E).map (fun i=>(i.zero,i.size,i.bytes))=some (some z,1,bytes)) (hby:bytes≤32) (n:Int) (N:Nat) (hn:n=(N:Int)) (hN:N≤1099511627776) (W:World) :
  (Instr.makeSlice T (.int .i64 n) (.int .i64 n)).run Tryz.prog W=.ok (.slice (some ⟨W.heap.size,0,none⟩) N N) (W.alloc (.cells (madeCells z.cells N) E)):=by
 subst hn
 obtain⟨i0,hi,hz0,hzs,hz2⟩:=info_parts hinfo
 have h1:i0.bytes * N≤32 * 1099511627776:=by rw[hz2];exact Nat.mul_le_mul hby hN
 have hr:=run_make (P:=Tryz.prog) W T E i0 z hT hi hz0 .i64 .i64 (N:Int) (N:Int) (by omega) (Int.le_refl _) (by
  have:((i0.bytes * N:Nat):Int)≤281474976710656:=by omega
  rwa [Int.natCast_mul] at this) (by omega)
 simpa [hzs] using hr
theorem madeL (z:Value) (N:Nat):(madeCells #[z] N).toList=List.replicate N z:=by
 apply List.ext_getElem
 ·simp[madeCells]
 ·intro i h1 h2
  simp[madeCells,Nat.mod_one]
def rowB (B X k:Nat):Nat:=B+1+(X-k)
def rowV (B X Y k:Nat):Value:=.slice (some ⟨rowB B X k,0,none⟩) (Y+1) (Y+1)
structure Tb (w:World) (x y:List Int) (i c:Nat) (TS:List Value) (u:World):Prop where
 low:Below w.heap.size w u
 size:u.heap.size=w.heap.size+1+(x.length+1-i)
 top:u.ownsRow w.heap.size 52 1 (.slice (some ⟨w.heap.size,0,none⟩) (x.length+1) (x.length+1)) (x.length+1) TS
 tops:∀ k,i≤k→k≤x.length→TS[k]?=some (rowV w.heap.size x.length y.length k)
 rows:∀ k,i≤k→k≤x.length→∃ R,u.ownsRow w.heap.size 3 1 (rowV w.heap.size x.length y.length k) (y.length+1) R∧∀ j,j≤y.length→(i<k∨c≤j∨j=y.length∨k=x.length)→R[j]?=some (.int .i64 ((ln x y k j:Nat):Int))
section
variable {w u:World} {x y:List Int} {i c:Nat} {TS:List Value}
theorem Tb.drewN (h:Tb w x y i c TS u) (n:Nat):Tb w x y i c TS (u.drewN n):=⟨Below.dN h.low n,h.size,h.top,h.tops,h.rows⟩
theorem Tb.top_len (h:Tb w x y i c TS u):TS.length=x.length+1:=by rw[h.top.1,Nat.mul_one]
theorem Tb.top_at (h:Tb w x y i c TS u) {k:Nat} (hi:i≤k) (hk:k≤x.length):u.cell? ⟨w.heap.size,k,none⟩=some (rowV w.heap.size x.length y.length k):=by
 rw[h.top.cellAt k (by omega)]
 exact h.tops k hi hk
theorem Tb.at (h:Tb w x y i c TS u) {k j:Nat} (hi:i≤k) (hk:k≤x.length) (hj:j≤y.length) (hc:i<k∨c≤j∨j=y.length∨k=x.length):u.cell? ⟨rowB w.heap.size x.length k,j,none⟩=some (.int .i64 ((ln x y k j:Nat):Int)):=by
 obtain⟨R,hR,hv⟩:=h.rows k hi hk
 unfold rowV at hR
 rw[hR.cellAt j (by omega)]
 exact hv j hj hc
theorem ZxZ (W:World) (b o:Nat) (v:Value):(W.setCell ⟨b,o,none⟩ v).heap.size=W.heap.size:=by
 show (W.heap.modify b _).size=_
 simp
theorem Tb.skip (h:Tb w x y i (c+1) TS u) (hc:c=y.length∨i=x.length):Tb w x y i c TS u:=by
 refine⟨h.low,h.size,h.top,h.tops,fun k h1 h2=>?_⟩
 obtain⟨R,hR,hv⟩:=h.rows k h1 h2
 exact⟨R,hR,fun j hj hq=>hv j hj (by omega)⟩
theorem Tb.next (h:Tb w x y (i+1) 0 TS u) (hi:i≤x.length) (hY:y.length≤1048576):Tb w x y i (y.length+1) (TS.set i (rowV w.heap.size x.length y.length i)) ((u.alloc (.cells (madeCells #[.int .i64 0] (y.length+1)) 3)).setCell ⟨w.heap.size,i,none⟩ (rowV w.heap.size x.length y.length i)):=by
 have hsz:u.heap.size=rowB w.heap.size x.length i:=by rw[h.size];unfold rowB;omega
 obtain⟨p1,g1⟩:=(h.top.alloc (.cells (madeCells #[.int .i64 0] (y.length+1)) 3)).stored i (rowV w.heap.size x.length y.length i)
 refine⟨?_,?_,p1,fun k h1 h2=>?_,fun k h1 h2=>?_⟩
 ·exact (h.low.alloc h.low.size _).grown g1 (by rw[World.size_alloc];have:=h.low.size;omega) (fun j hj=>by cases hj;exact Nat.le_refl _)
 ·rw[ZxZ,World.size_alloc,h.size]
  omega
 ·by_cases e:k=i
  ·subst e
   rw[List.getElem?_set_self (by rw[h.top_len];omega)]
  ·rw[List.getElem?_set_ne (fun q=>e q.symm)]
   exact h.tops k (by omega) h2
 ·by_cases e:k=i
  ·subst e
   have hn:=World.ownsRow_lit (base:=w.heap.size) (e:=3) (size:=1) u (madeCells #[.int .i64 0] (y.length+1)) (y.length+1) h.low.size (by unfold maxLen;omega) (by rw[size_madeCells];simp)
   rw[madeL,hsz] at hn
   refine⟨_,hn.kept g1 (.inr (by simp[Value.ownBlock,rowB];omega)),fun j hj hq=>?_⟩
   rw[List.getElem?_replicate,if_pos (by omega),ZnW x y k j (by omega)]
   rfl
  ·obtain⟨R,hR,hv⟩:=h.rows k (by omega) h2
   exact⟨R,(hR.alloc _).kept g1 (.inr (by unfold rowV rowB;simp[Value.ownBlock];omega)),fun j hj hq=>hv j hj (by omega)⟩
theorem Tb.set (h:Tb w x y i (c+1) TS u) (hi:i≤x.length) (hc:c≤y.length) (v:Int) (hv:v=((ln x y i c:Nat):Int)):Tb w x y i c TS (u.setCell ⟨rowB w.heap.size x.length i,c,none⟩ (.int .i64 v)):=by
 subst hv
 obtain⟨R,hR,hr⟩:=h.rows i (Nat.le_refl _) hi
 have hR':=hR
 unfold rowV at hR'
 obtain⟨p1,g1⟩:=hR'.stored c (.int .i64 ((ln x y i c:Nat):Int))
 have hl:R.length=y.length+1:=by rw[hR.1,Nat.mul_one]
 refine⟨?_,?_,?_,h.tops,fun k h1 h2=>?_⟩
 ·exact h.low.grown g1 h.low.size (fun j hj=>by cases hj;unfold rowB;omega)
 ·rw[ZxZ,h.size]
 ·exact h.top.kept g1 (.inr (by simp[Value.ownBlock,rowB];omega))
 ·by_cases e:k=i
  ·subst e
   refine⟨_,p1,fun j hj hq=>?_⟩
   by_cases q:j=c
   ·subst q
    rw[List.getElem?_set_self (by omega)]
   ·rw[List.getElem?_set_ne (fun q'=>q q'.symm)]
    exact hr j hj (by omega)
  ·obtain⟨R2,hR2,hv2⟩:=h.rows k h1 h2
   exact⟨R2,hR2.kept g1 (.inr (by unfold rowV rowB;simp[Value.ownBlock];omega)),fun j hj hq=>hv2 j hj (by omega)⟩
end
theorem Tb.start (w:World) (x y:List Int) (hX:x.length≤1048576):Tb w x y (x.length+1) 0 (List.replicate (x.length+1) (.slice none 0 0)) (w.alloc (.cells (madeCells #[.slice none 0 0] (x.length+1)) 52)):=by
 have hn:=World.ownsRow_lit (base:=w.heap.size) (e:=52) (size:=1) w (madeCells #[.slice none 0 0] (x.length+1)) (x.length+1) (Nat.le_refl _) (by unfold maxLen;omega) (by rw[size_madeCells];simp)
 rw[madeL] at hn
 exact⟨(Below.refl _ w).alloc (Nat.le_refl _) _,by simp,hn,fun k h1 h2=>by omega,fun k h1 h2=>by omega⟩
structure Rd (B:Nat) (x y:List Int) (u:World):Prop where
 lt:B+1+x.length<u.heap.size
 top:∀ k,k≤x.length→u.cell? ⟨B,k,none⟩=some (rowV B x.length y.length k)
 at':∀ k j,k≤x.length→j≤y.length→u.cell? ⟨rowB B x.length k,j,none⟩=some (.int .i64 ((ln x y k j:Nat):Int))
theorem ZdJ {u u':World} (h:Below u.heap.size u u') {b o:Nat} {v:Value} (hb:b<u.heap.size) (hc:u.cell? ⟨b,o,none⟩=some v):u'.cell? ⟨b,o,none⟩=some v:=by
 rw[← hc]
 unfold World.cell?
 rw[h.block b hb]
theorem Rd.keep {B:Nat} {x y:List Int} {u u':World} (h:Rd B x y u) (hb:Below u.heap.size u u'):Rd B x y u':=by
 have:=h.lt
 refine⟨Nat.lt_of_lt_of_le h.lt hb.size,fun k hk=>ZdJ hb (by omega) (h.top k hk),fun k j hk hj=>ZdJ hb ?_ (h.at' k j hk hj)⟩
 unfold rowB
 omega
theorem Tb.rd {w u:World} {x y:List Int} {TS:List Value} (h:Tb w x y 0 0 TS u):Rd w.heap.size x y u :=
 ⟨by rw[h.size];omega,fun _ hk=>h.top_at (Nat.zero_le _) hk,fun _ _ hk hj=>h.at (Nat.zero_le _) hk hj (.inr (.inl (Nat.zero_le _)))⟩
end

section
open Go.RowKit
theorem ZvT (l:List Pr):∀ n∈rl l,0<n:=by
 induction l with
 | nil=>simp[rl]
 | cons p t ih =>
  intro n hn
  rw[rl,List.mem_cons] at hn
  rcases hn with rfl | hn
  ·omega
  ·exact ih n hn
theorem ZpO (p:Pr) (t:List Pr) (ns:List Nat) (N:Nat) (h:∀ n∈ns,n≤N):mxl p t ns≤N:=by
 induction t generalizing ns with
 | nil=>simp[mxl]
 | cons a t ih =>
  cases ns with
  | nil=>simp[mxl]
  | cons n ns =>
   rw[mxl]
   have h1:=ih ns (fun m hm=>h m (List.mem_cons_of_mem _ hm))
   have h2:=h n (List.mem_cons_self ..)
   split<;>omega
theorem ZvR (l:List Pr):∀ n∈rl l,n≤l.length:=by
 induction l with
 | nil=>simp[rl]
 | cons p t ih =>
  intro n hn
  rw[rl,List.mem_cons] at hn
  rw[List.length_cons]
  rcases hn with rfl | hn
  ·have:=ZpO p t (rl t) t.length ih
   omega
  ·have:=ih n hn
   omega
theorem Zsh (left:Nat) (last:Option Pr) (l:List Pr) (ns:List Nat):(pick left last l ns).length≤l.length:=by
 induction l generalizing ns last left with
 | nil=>simp[pick]
 | cons p l ih =>
  cases ns with
  | nil=>simp[pick]
  | cons n ns =>
   rw[pick]
   split
   ·have:=ih (left-1) (some p) ns
    simp only[List.length_cons]
    omega
   ·have:=ih left last ns
    simp only[List.length_cons]
    omega
theorem Zsp (left:Nat) (last:Option Pr) (l:List Pr) (R:List Nat) (i:Nat) (hi:i<l.length) (hr:i<R.length):pick left last (l.drop i) (R.drop i)=if R[i]=left∧(∀ q,last=some q→ab l[i] q) then l[i]::pick (left-1) (some l[i]) (l.drop (i+1)) (R.drop (i+1)) else pick left last (l.drop (i+1)) (R.drop (i+1)):=by
 rw[List.drop_eq_getElem_cons hi,List.drop_eq_getElem_cons hr,pick]
def Dn (R:List Nat) (k:Nat) (Z:List Int):Prop:=Z.length=R.length∧∀ j (hj:j<R.length),k≤j→Z[j]?=some ((R[j]:Nat):Int)
theorem Dn.set {R:List Nat} {k:Nat} {Z:List Int} (h:Dn R (k+1) Z) (hk:k<R.length) {m:Int} (hm:m=((R[k]:Nat):Int)):Dn R k (Z.set k m):=by
 refine⟨by rw[List.length_set];exact h.1,fun j hj hkj=>?_⟩
 by_cases e:j=k
 ·subst e
  rw[List.getElem?_set_self (by rw[h.1];exact hj),hm]
 ·rw[List.getElem?_set_ne (fun q=>e q.symm)]
  exact h.2 j hj (by omega)
attribute [local simp] Zou
end

end Go.Proofs.YtkiaenncemfkcaaGreatDoor

/- A region that draws its order, in a round: seven operations that read and a call, in whatever order, then the rest as the text has it. -/
namespace Go.Proofs.YtkiaenncemfkcaaGreatDoor
namespace R8
open Go.RowKit Go.Shelf
abbrev B8:=Fin 8→Bool
def lst (b:B8):Array Bool:=#[b 0,b 1,b 2,b 3,b 4,b 5,b 6,b 7,false,false]
def upd (b:B8) (i:Fin 8):B8:=fun j=>if j=i then true else b j
def one (c:Bool):Nat:=if c then 1 else 0
def cnt (b:B8):Nat:=one (b 0)+one (b 1)+one (b 2)+one (b 3)+one (b 4)+one (b 5)+one (b 6)+one (b 7)
theorem lst_upd (b:B8) (i:Fin 8):(lst b).setIfInBounds i.1 true=lst (upd b i):=by
 rcases i with ⟨i,hi⟩
 rcases (by omega:i=0∨i=1∨i=2∨i=3∨i=4∨i=5∨i=6∨i=7) with rfl | rfl | rfl | rfl | rfl | rfl | rfl | rfl<;>simp[lst,upd]
theorem cnt_upd (b:B8) (i:Fin 8) (h:b i=false):cnt (upd b i)=cnt b+1:=by
 rcases i with ⟨i,hi⟩
 rcases (by omega:i=0∨i=1∨i=2∨i=3∨i=4∨i=5∨i=6∨i=7) with rfl | rfl | rfl | rfl | rfl | rfl | rfl | rfl<;>(simp only[Fin.isValue,Fin.mk_zero,Fin.mk_one,Fin.reduceFinMk] at h;simp[cnt,upd,one,h];try omega)
theorem one_le (c:Bool):one c≤1:=by cases c<;>simp[one]
theorem cnt_le (b:B8):cnt b≤8:=by
 have:=fun i=>one_le (b i)
 have h0:=this 0;have h1:=this 1;have h2:=this 2;have h3:=this 3;have h4:=this 4;have h5:=this 5;have h6:=this 6;have h7:=this 7
 unfold cnt
 omega
def deps:Fin 8→List (Fin 8)
 | 4=>[2,3]
 | 5=>[4]
 | 7=>[5,6]
 | _=>[]
def closedB (b:B8):Bool:=(List.finRange 8).all fun i=>!(b i) || (deps i).all b
theorem closed_upd (b:B8) (i:Fin 8) (h:closedB b=true) (hd:∀ j∈deps i,b j=true):closedB (upd b i)=true:=by
 simp only[closedB,List.all_eq_true,List.mem_finRange,Bool.or_eq_true,Bool.not_eq_true',forall_const] at h ⊢
 intro k
 have hup:∀ j,b j=true→upd b i j=true:=fun j hj=>by unfold upd;split<;>simp_all
 by_cases hk:k=i
 ·exact .inr fun j hj=>hup j (hd j (hk ▸ hj))
 ·rcases h k with h1 | h1
  ·left
   unfold upd
   rw[if_neg hk]
   exact h1
  ·exact .inr fun j hj=>hup j (h1 j hj)
theorem ZeH (b:B8) (h:closedB b=true) (i:Fin 8) (hi:b i=true):∀ j∈deps i,b j=true:=by
 simp only[closedB,List.all_eq_true,List.mem_finRange,Bool.or_eq_true,Bool.not_eq_true',forall_const] at h
 rcases h i with h1 | h1
 ·rw[hi] at h1;cases h1
 ·exact h1
theorem closed_call (b:B8) (h:closedB b=true) (h7:b 7=true):b 2=true∧b 3=true∧b 4=true∧b 5=true∧b 6=true:=by
 have h5:=ZeH b h 7 h7 5 (by simp[deps])
 have h6:=ZeH b h 7 h7 6 (by simp[deps])
 have h4:=ZeH b h 5 h5 4 (by simp[deps])
 exact⟨ZeH b h 4 h4 2 (by simp[deps]),ZeH b h 4 h4 3 (by simp[deps]),h4,h5,h6⟩
def chkReady (ops:Array Oper) (b:B8):Bool :=
 !(closedB b) || !(Region.ready .any ops (lst b)).isEmpty && (Region.ready .any ops (lst b)).all fun i =>
  if h:i<8 then !(b ⟨i,h⟩) && (deps ⟨i,h⟩).all b else i == 8 && (List.finRange 8).all b
theorem any8 {F:Fence} {n:Nat} {P:Program} {ops:Array Oper} {Q:Exit→Act→World→Prop} {w:World} (act:B8→Value→Act) (Post:Value→World→Prop)
  (hr:∀ b,chkReady ops b=true)
  (hstep:∀ (b:B8) (i:Fin 8),i≠7→b i=false→(∀ j∈deps i,b j=true)→closedB b=true→∀ v u,((b 7=false∧u=w)∨(b 7=true∧Post v u))→∀ K:Act→World→Prop,K (act (upd b i) v) u→wpOpIn F n P ops Q i.1 K (act b v) u)
  (hcall:∀ (b:B8) v,b 7=false→b 5=true→b 6=true→∀ K:Act→World→Prop,(∀ v' u,Post v' u→K (act (upd b 7) v') u)→wpOpIn F n P ops Q 7 K (act b v) w)
  (hfin:∀ v u,Post v u→wpOpIn F n P ops Q 8 (wpAnyIn F n P .any ops Q 1 #[true,true,true,true,true,true,true,true,true,false]) (act (fun _=>true) v) u) (v0:Value) :
  wpAnyIn F n P .any ops Q 10 (lst fun _=>false) (act (fun _=>false) v0) w:=by
 have main:∀ (fuel:Nat) (b:B8) (v:Value) (u:World),closedB b=true→fuel+cnt b=10→((b 7=false∧u=w)∨(b 7=true∧Post v u))→wpAnyIn F n P .any ops Q fuel (lst b) (act b v) u:=by
  intro fuel
  induction fuel with
  | zero=>intro b _ _ _ h;have:=cnt_le b;omega
  | succ f ih =>
   intro b v u hcl h hst
   have hb:=hr b
   unfold chkReady at hb
   rw[hcl] at hb
   simp only[Bool.not_true,Bool.false_or] at hb
   simp only[Bool.and_eq_true,List.all_eq_true] at hb
   refine⟨fun h0=>?_,fun i hi=>?_⟩
   ·rw[h0] at hb
    simp at hb
   ·have h1:=hb.2 i hi
    split at h1
    ·rename_i hlt
     simp only[Bool.and_eq_true,Bool.not_eq_true',List.all_eq_true] at h1
     have e:=lst_upd b ⟨i,hlt⟩
     dsimp only at e
     by_cases h7:i=7
     ·subst h7
      rcases hst with ⟨q1,rfl⟩ | ⟨q1,_⟩
      ·refine hcall b v q1 (h1.2 5 (by simp[deps])) (h1.2 6 (by simp[deps])) _ (fun v' u' hp=>?_)
       rw[e]
       exact ih _ v' u' (closed_upd b 7 hcl h1.2) (by have:=cnt_upd b ⟨7,hlt⟩ q1;omega) (.inr ⟨by simp[upd],hp⟩)
      ·have:=h1.1
       rw[show (⟨7,hlt⟩:Fin 8)=7 from rfl,q1] at this
       cases this
     ·refine hstep b ⟨i,hlt⟩ (fun q=>h7 (congrArg Fin.val q)) h1.1 h1.2 hcl v u hst _ ?_
      rw[e]
      refine ih _ v u (closed_upd b ⟨i,hlt⟩ hcl h1.2) (by rw[cnt_upd b ⟨i,hlt⟩ h1.1];omega) ?_
      have hne:(7:Fin 8)≠⟨i,hlt⟩:=fun q=>h7 (congrArg Fin.val q).symm
      have hu:upd b ⟨i,hlt⟩ 7=b 7:=by unfold upd;rw[if_neg hne]
      rw[hu]
      exact hst
    ·simp only[Bool.and_eq_true,beq_iff_eq,List.all_eq_true,List.mem_finRange,forall_const] at h1
     obtain⟨rfl,hall⟩:=h1
     obtain rfl:b=fun _=>true:=funext hall
     obtain rfl:f=1:=by
      have:cnt (fun _=>true)=8:=rfl
      omega
     rcases hst with ⟨q1,_⟩ | ⟨_,hp⟩
     ·cases q1
     ·exact hfin v u hp
 exact main 10 _ v0 w rfl rfl (.inl ⟨rfl,rfl⟩)
def pk (c:Bool) (v:Value):Value:=cond c v undef
theorem pk_true {c:Bool} (h:c=true) (v:Value):pk c v=v:=by rw[h];rfl
theorem wpOpIn_yield {F:Fence} {n:Nat} {P:Program} {ops:Array Oper} {Q:Exit→Act→World→Prop} {i:Nat} {o:Oper} {K:Act→World→Prop} {a:Act} {w:World} {v:Value} (ho:ops[i]?=some o) (hg:o.guard=none) (hnd:∀ c,o.op≠.defer c)
  (hab:o.about P w a.eval=none) (hrun:(execOp a.eval o).run P w=.ok (.value v) w) (hK:K (a.put o.dst v) w):wpOpIn F n P ops Q i K a w:=by
 unfold wpOpIn
 simp only[ho]
 have hw:Region.wanted o (yielded ops a.tmps)=true:=by simp[Region.wanted,hg]
 rw[if_pos hw]
 refine⟨fun f hf=>(by rw[hab] at hf;cases hf),?_⟩
 rw[Oper.semAt_plain F _ _ hnd,hrun]
 exact hK
def mk8 (b0 b1 b2 b3 b4 b5 b6 b7:Bool):B8:=fun i=>match i with
 | 0=>b0 | 1=>b1 | 2=>b2 | 3=>b3 | 4=>b4 | 5=>b5 | 6=>b6 | 7=>b7
theorem Zpu (b:B8):b=mk8 (b 0) (b 1) (b 2) (b 3) (b 4) (b 5) (b 6) (b 7):=by
 funext ⟨i,hi⟩
 rcases (by omega:i=0∨i=1∨i=2∨i=3∨i=4∨i=5∨i=6∨i=7) with rfl | rfl | rfl | rfl | rfl | rfl | rfl | rfl<;>rfl
theorem chk_all {ops:Array Oper} (h:∀ b0 b1 b2 b3 b4 b5 b6 b7:Bool,chkReady ops (mk8 b0 b1 b2 b3 b4 b5 b6 b7)=true) (b:B8):chkReady ops b=true:=by
 rw[Zpu b]
 exact h _ _ _ _ _ _ _ _
end R8
end Go.Proofs.YtkiaenncemfkcaaGreatDoor
