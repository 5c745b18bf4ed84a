/-
  Texts that belong together, joined: EnMath, EnRow, EnRd, EnFo, EnCd, EnWk.
-/
import Derived.Test.YtcnjephlmcnodaaGreatDoorVzA2
import Derived.Test.YtcnjephlmcnodaaGreatDoorVzA9
import Derived.Laws.EntriesVeiled

set_option maxHeartbeats 16000000
set_option maxRecDepth 100000
namespace Go.Proofs.YtcnjephlmcnodaaGreatDoor

section
def frm (o:Tx.Cn.Ig) (a b:List (List UInt8)):List (List UInt8):=Tx.It.adds [] (a.map (Tx.Cn.canonL o)++b.map (Tx.Cn.canonL o))
def cls (o:Tx.Cn.Ig) (a b:List (List UInt8)) (l:List UInt8):Int:=((Tx.It.num (frm o a b) (Tx.Cn.canonL o l):Nat):Int)
def clx (o:Tx.Cn.Ig) (a b:List (List UInt8)):List Int:=a.map (cls o a b)
def cly (o:Tx.Cn.Ig) (a b:List (List UInt8)):List Int:=b.map (cls o a b)
theorem Zco (o:Tx.Cn.Ig) (a b:List (List UInt8)):(clx o a b).length=a.length:=by simp[clx]
theorem Zcr (o:Tx.Cn.Ig) (a b:List (List UInt8)):(cly o a b).length=b.length:=by simp[cly]
theorem ZhW (fa fb:List (List UInt8)):Tx.It.nums [] fa=fa.map (Tx.It.num (Tx.It.adds [] (fa++fb)))∧Tx.It.nums (Tx.It.adds [] fa) fb=fb.map (Tx.It.num (Tx.It.adds [] (fa++fb))):=by
 have h1:=Tx.It.nums_eq (fa++fb) []
 rw[Tx.It.nums_append,List.map_append] at h1
 exact List.append_inj h1 (by rw[Tx.It.nums_length,List.length_map])
theorem Zcp (o:Tx.Cn.Ig) (a b:List (List UInt8)):(Tx.It.nums [] (a.map (Tx.Cn.canonL o))).map (fun (n:Nat)=>(n:Int))=clx o a b:=by
 rw[(ZhW (a.map (Tx.Cn.canonL o)) (b.map (Tx.Cn.canonL o))).1,List.map_map,List.map_map]
 rfl
theorem Zcs (o:Tx.Cn.Ig) (a b:List (List UInt8)):(Tx.It.nums (Tx.It.adds [] (a.map (Tx.Cn.canonL o))) (b.map (Tx.Cn.canonL o))).map (fun (n:Nat)=>(n:Int))=cly o a b:=by
 rw[(ZhW (a.map (Tx.Cn.canonL o)) (b.map (Tx.Cn.canonL o))).2,List.map_map,List.map_map]
 rfl
theorem Zcn {o:Tx.Cn.Ig} {a b:List (List UInt8)} {p q:List UInt8} (hp:p∈a∨p∈b) (hq:q∈a∨q∈b):cls o a b p=cls o a b q↔Tx.Cn.canonL o p=Tx.Cn.canonL o q:=by
 have hm:∀ l:List UInt8,l∈a∨l∈b→Tx.Cn.canonL o l∈frm o a b:=fun l hl=>by
  refine Tx.It.mem_adds_self _ [] _ ?_
  rw[List.mem_append,List.mem_map,List.mem_map]
  exact hl.imp (fun h=>⟨l,h,rfl⟩) (fun h=>⟨l,h,rfl⟩)
 rw[← Tx.It.num_inj (hm p hp) (hm q hq)]
 unfold cls
 omega
theorem Zck (o:Tx.Cn.Ig) (a b:List (List UInt8)) {i j:Nat} (hi:i<a.length) (hj:j<b.length):(clx o a b)[i]?=(cly o a b)[j]?↔Tx.Cn.canonL o a[i]=Tx.Cn.canonL o b[j]:=by
 unfold clx cly
 rw[List.getElem?_map,List.getElem?_map,List.getElem?_eq_getElem hi,List.getElem?_eq_getElem hj,Option.map_some,Option.map_some,← Zcn (a:=a) (b:=b) (.inl (List.getElem_mem hi)) (.inr (List.getElem_mem hj))]
 exact⟨fun h=>Option.some.inj h,fun h=>by rw[h]⟩
theorem ZhU (o:Tx.Cn.Ig) (a b:List (List UInt8)) (l:List UInt8) (hn:a.length+b.length≤1099511627776):w64 (cls o a b l):=by
 have h1:=Tx.It.num_le (frm o a b) (Tx.Cn.canonL o l)
 have h2:=Tx.It.adds_le (a.map (Tx.Cn.canonL o)++b.map (Tx.Cn.canonL o)) []
 simp only[List.length_append,List.length_map,List.length_nil] at h2
 unfold cls frm w64
 unfold frm at h1
 omega
theorem Zcq (o:Tx.Cn.Ig) (a b:List (List UInt8)) (hn:a.length+b.length≤1099511627776):∀ c∈clx o a b,w64 c:=by
 intro c hc
 obtain⟨l,_,rfl⟩:=List.mem_map.1 hc
 exact ZhU o a b l hn
theorem Zct (o:Tx.Cn.Ig) (a b:List (List UInt8)) (hn:a.length+b.length≤1099511627776):∀ c∈cly o a b,w64 c:=by
 intro c hc
 obtain⟨l,_,rfl⟩:=List.mem_map.1 hc
 exact ZhU o a b l hn
def eng (k:Int) (x y:List Int):List Int:=if k=2 then pKeep x y else if k=3 then hKeep x y else if k=4 then sKeep 4096 x y else kp 0 x y
theorem Zgc (x y:List Int):Kpt x y (kp 0 x y):=by
 refine⟨?_,Zgd 0 x y,fun i q h=>?_⟩
 ·have:=Zgj 0 x y (Int.le_refl _)
  rwa [Int.zero_add] at this
 ·obtain⟨_,c,h1,h2⟩:=Zgg 0 x y (Int.le_refl _) i q h (by omega)
  rw[h1,← h2]
  congr 1
theorem Zdy (k:Int) (x y:List Int):Kpt x y (eng k x y):=by
 unfold eng
 split
 ·exact Zir x y
 ·split
  ·exact ZeO x y
  ·split
   ·exact ZkH 4096 x y
   ·exact Zgc x y
def ig0:Tx.Cn.Ig:=⟨false,false,false,false,false,false⟩
end

section
open Go.RowKit
theorem Zmd (ns:List Nat):Tx.icells ns=icells (ns.map fun (n:Nat)=>(n:Int)):=by simp[Tx.icells,icells]
theorem ZhY {w:World} {v:Value} {xs:List Value} (h:Tx.Holds w v xs):Holds w v xs.length xs:=by
 rcases h with ⟨rfl,rfl⟩ | ⟨ad,c,rfl,hc,h⟩
 ·exact .inl ⟨rfl,rfl,rfl⟩
 ·exact .inr ⟨ad,c,rfl,hc,h⟩
theorem ZlZ {w:World} {v:Value} {xs:List Value} (h:Holds w v xs.length xs):Tx.Holds w v xs:=by
 rcases h with ⟨rfl,_,rfl⟩ | ⟨ad,c,rfl,hc,h⟩
 ·exact .inl ⟨rfl,rfl⟩
 ·exact .inr ⟨ad,c,rfl,hc,h⟩
theorem Zfq {w:World} {v:Value} {l:List (List UInt8)} (h:HS w v l):Tx.Holds w v (Tx.scells l):=ZlZ (by rw[Tx.scells_length];exact h)
theorem Zfb {w:World} {v:Value} {ns:List Nat} {l:List Int} (h:Tx.Holds w v (Tx.icells ns)) (e:(ns.map fun (n:Nat)=>(n:Int))=l):HI w v l:=by
 have h1:=ZhY h
 rw[Zmd,e,icells_length] at h1
 exact h1
theorem Zds (a b:List (List UInt8)) (o:Tx.Cn.Ig) (va vb:Value) (w:World) (ha:HS w va a) (hb:HS w vb b) (hla:∀ l∈a,l.length≤137438953472) (hlb:∀ l∈b,l.length≤137438953472) (hn:a.length+b.length≤1099511627776) (x y:List Int) (hx:Hid (clx o a b=x)) (hy:Hid (cly o a b=y)) :
  Calls Tryz.prog 15 #[va,vb,Tx.igV o] w fun e w'=>∃ vx vy n,e=.returned (.tuple #[vx,vy,.int .i64 n])∧HI w' vx x∧HI w' vy y∧Below w.heap.size w w':=by
 refine (Tx.Classes_any a b o va vb w hla hlb hn (Zfq ha) (Zfq hb)).mono ?_
 rintro e w' ⟨vx,vy,rfl,h1,h2,h3⟩
 exact⟨vx,vy,_,rfl,Zfb h1 ((Zcp o a b).trans hx.out),Zfb h2 ((Zcs o a b).trans hy.out),h3⟩
end

section
open Go.RowKit
def igC (o:Tx.Cn.Ig):Obj:=.cells #[.bool o.sp,.bool o.wt,.bool o.bl,.bool o.cs,.bool o.tb,.bool o.tr] 33
end

section
open Go.RowKit
def enN:Nat→Value
 | 0=>.string ⟨#[109,105,110,105,109,97,108]⟩
 | 1=>.string ⟨#[112,97,116,105,101,110,99,101]⟩
 | 2=>.string ⟨#[104,105,115,116,111,103,114,97,109]⟩
 | _=>.string ⟨#[115,112,101,101,100,121]⟩
def enP:Nat→Value
 | 0=>.func (.func 60) #[] #[]
 | 1=>.func (.func 61) #[] #[]
 | 2=>.func (.func 62) #[] #[]
 | _=>.func (.func 63) #[] #[]
def enC:Array Value:=#[.int .i64 1,enN 0,enP 0,.int .i64 2,enN 1,enP 1,.int .i64 3,enN 2,enP 2,.int .i64 4,enN 3,enP 3]
def enW:Obj:=.cells enC 47
theorem ZdZ (w:World):Calls Tryz.prog 37 #[] w fun e w'=>e=.returned (.slice (some ⟨w.heap.size,0,none⟩) 4 4)∧w'=w.alloc enW:=by
 unfold enW enC enN enP
 go_enter Tryz.func37,Tryz.ntmps37
 go_wp2
 go_ret
 exact⟨rfl,rfl⟩
def Tbx (u:World) (B:Nat) (v0 v1 v2:Value):Prop:=u.heap[B]?=some (.cells #[v0,v1,v2] 47 (0,0))
section
variable {u u':World} {B:Nat} {v0 v1 v2:Value}
theorem Tbx.lt (h:Tbx u B v0 v1 v2):B<u.heap.size:=(Array.getElem?_eq_some_iff.1 h).1
theorem Tbx.low (h:Tbx u B v0 v1 v2) (hg:Below u.heap.size u u'):Tbx u' B v0 v1 v2:=(hg.block B h.lt).trans h
theorem Tbx.put (h:Tbx u B v0 v1 v2) (z0 z1 z2:Value):Tbx (((u.setCell ⟨B,0,none⟩ z0).setCell ⟨B,1,none⟩ z1).setCell ⟨B,2,none⟩ z2) B z0 z1 z2:=by
 have s1:=heap_setCell_same u B 0 _ _ z0 h
 have s2:=heap_setCell_same _ B 1 _ _ z1 s1
 exact heap_setCell_same _ B 2 _ _ z2 s2
end
structure Fo (w u:World):Prop where
 low:Below w.heap.size w u
 res:Tbx u w.heap.size (.int .i64 0) (.string ⟨#[]⟩) .nilFunc
 tab:u.heap[w.heap.size+1]?=some enW
theorem Fo.new (w:World):Fo w ((w.alloc (.cells #[.int .i64 0,.string ⟨#[]⟩,.nilFunc] 47)).alloc enW) :=
 ⟨((Below.refl _ w).alloc (Nat.le_refl _) _).alloc (by simp) _,Tbx.low (B:=w.heap.size) (_root_.Go.heap_alloc_new w _) ((Below.refl _ _).alloc (Nat.le_refl _) _),Zbq w _ _⟩
theorem Fo.alloc {w u:World} (h:Fo w u) (o:Obj):Fo w (u.alloc o):=by
 have hB:Below u.heap.size u (u.alloc o):=(Below.refl _ u).alloc (Nat.le_refl _) _
 exact⟨h.low.trans (hB.mono h.low.size),h.res.low hB,(hB.block _ (Array.getElem?_eq_some_iff.1 h.tab).1).trans h.tab⟩
theorem Fo.cell {w u:World} (h:Fo w u) (j:Nat) (v:Value) (hj:enC[j]?=some v):u.cell? ⟨w.heap.size+1,j,none⟩=some v:=by
 have ht:=h.tab
 unfold enW at ht
 rw[Lib.cell_of_heap ht]
 exact hj
def foV (k:Int):Value:=if k=1 then .agg #[.int .i64 1,enN 0,enP 0] else if k=2 then .agg #[.int .i64 2,enN 1,enP 1] else if k=3 then .agg #[.int .i64 3,enN 2,enP 2] else if k=4 then .agg #[.int .i64 4,enN 3,enP 3] else .agg #[.int .i64 0,.string ⟨#[]⟩,.nilFunc]
def foB (k:Int):Bool:=decide (1≤k∧k≤4)
theorem Zeg (tmps:Array Value) (u:World) (B:Nat) (v0 v1 v2:Value) (h:Tbx u B v0 v1 v2) {b:Value} (h2:tmps.getD 2 undef=.pointer (some ⟨B,0,none⟩)) (h3:tmps.getD 3 undef=b) :
  (results Tryz.f14 tmps).run Tryz.prog u=.ok (.tuple #[.agg #[v0,v1,v2],b]) u:=by
 rw[_root_.Go.results_cell_tmp rfl,h2,h3]
 have hL:(loadVar 47 ⟨B,0,none⟩).run Tryz.prog u=.ok (.agg #[v0,v1,v2]) u:=run_loadVar_row u B _ _ _ _ _ h Tryz.underlying47 rfl (by kernel_rfl)
 simp[asAddr,hL,Result.andThen]
theorem Zef {w u:World} (h:Below w.heap.size w u) (z0 z1 z2:Value):Below w.heap.size w (((u.setCell ⟨w.heap.size,0,none⟩ z0).setCell ⟨w.heap.size,1,none⟩ z1).setCell ⟨w.heap.size,2,none⟩ z2) :=
 ((h.setCell (Nat.le_refl _) _).setCell (Nat.le_refl _) _).setCell (Nat.le_refl _) _
theorem ZdX (k:Int) (w:World):Calls Tryz.prog 14 #[.int .i64 k] w fun e w'=>e=.returned (.tuple #[foV k,.bool (foB k)])∧Below w.heap.size w w':=by
 have h0:=Fo.new w
 go_enter Tryz.func14,Tryz.ntmps14
 go_wp2_with fail
 refine (ZdZ _).mono ?_
 rintro e w1 ⟨rfl,rfl⟩
 go_wp2
 generalize (w.alloc (.cells #[.int .i64 0,.string ⟨#[]⟩,.nilFunc] 47)).alloc enW=W0 at h0 ⊢
 go_loopw [8] (fun iv wr=>∃ i:Nat,i≤4∧iv=.int .i64 (i:Int)∧Hid (∀ j:Nat,j<i→k≠(j:Int)+1)∧Fo w wr) (fun iv _=>(4-intOf iv).toNat)
 case atStart=>exact⟨0,by omega,by go_num,fun j hj=>by omega,h0⟩
 case round =>
  obtain⟨i,hi,rfl,HK,hF⟩:=hrel
  clear h0
  rcases (by omega:i=0∨i=1∨i=2∨i=3∨i=4) with rfl | rfl | rfl | rfl | rfl
  ·have c0:=hF.cell 0 (.int .i64 1) rfl
   have c1:=hF.cell 1 (.string ⟨#[109,105,110,105,109,97,108]⟩) rfl
   have c2:=hF.cell 2 (.func (.func 60) #[] #[]) rfl
   have hF2:=hF.alloc (.cells #[.int .i64 1,.string ⟨#[109,105,110,105,109,97,108]⟩,.func (.func 60) #[] #[]] 47)
   have hb:=_root_.Go.heap_alloc_new wr (.cells #[.int .i64 1,.string ⟨#[109,105,110,105,109,97,108]⟩,.func (.func 60) #[] #[]] 47)
   have d0:(wr.alloc (.cells #[.int .i64 1,.string ⟨#[109,105,110,105,109,97,108]⟩,.func (.func 60) #[] #[]] 47)).cell? ⟨wr.heap.size,0,none⟩=some (.int .i64 1):=by rw[Lib.cell_of_heap hb];rfl
   have d1:(wr.alloc (.cells #[.int .i64 1,.string ⟨#[109,105,110,105,109,97,108]⟩,.func (.func 60) #[] #[]] 47)).cell? ⟨wr.heap.size,1,none⟩=some (.string ⟨#[109,105,110,105,109,97,108]⟩):=by rw[Lib.cell_of_heap hb];rfl
   have d2:(wr.alloc (.cells #[.int .i64 1,.string ⟨#[109,105,110,105,109,97,108]⟩,.func (.func 60) #[] #[]] 47)).cell? ⟨wr.heap.size,2,none⟩=some (.func (.func 60) #[] #[]):=by rw[Lib.cell_of_heap hb];rfl
   have g0:∀ j,(wr.alloc (.cells #[.int .i64 1,.string ⟨#[109,105,110,105,109,97,108]⟩,.func (.func 60) #[] #[]] 47)).frozen? ⟨w.heap.size,j,none⟩=false:=fun j=>Lib.frozen_of_heap hF2.res j
   have g00:=g0 0
   have g01:=g0 1
   have g02:=g0 2
   have r0:(wr.alloc (.cells #[.int .i64 1,.string ⟨#[109,105,110,105,109,97,108]⟩,.func (.func 60) #[] #[]] 47)).cell? ⟨w.heap.size,0,none⟩=some (.int .i64 0):=by rw[Lib.cell_of_heap hF2.res];rfl
   have r1:(wr.alloc (.cells #[.int .i64 1,.string ⟨#[109,105,110,105,109,97,108]⟩,.func (.func 60) #[] #[]] 47)).cell? ⟨w.heap.size,1,none⟩=some (.string ⟨#[]⟩):=by rw[Lib.cell_of_heap hF2.res];rfl
   have r2:(wr.alloc (.cells #[.int .i64 1,.string ⟨#[109,105,110,105,109,97,108]⟩,.func (.func 60) #[] #[]] 47)).cell? ⟨w.heap.size,2,none⟩=some .nilFunc:=by rw[Lib.cell_of_heap hF2.res];rfl
   have hP:=hF2.res.put (.int .i64 1) (.string ⟨#[109,105,110,105,109,97,108]⟩) (.func (.func 60) #[] #[])
   clear g0 hb
   by_cases hk:k=1
   ·subst hk
    clear HK
    go_wp2
    refine bodyPost_ret (v:=.tuple #[.agg #[.int .i64 1,.string ⟨#[109,105,110,105,109,97,108]⟩,.func (.func 60) #[] #[]],.bool true]) (Zeg _ _ _ _ _ _ hP rfl rfl) rfl ⟨rfl,?_⟩
    exact Zef hF2.low _ _ _
   ·have ek:decide ((1:Int)=k)=false:=decide_eq_false (fun h=>hk h.symm)
    have ek2:(((1:Int)) == k)=false:=by simpa using ek
    have HK2:Hid (∀ j:Nat,j<1→k≠(j:Int)+1):=(fun j hj=>by have:=HK.out j;omega)
    clear hk HK
    go_wp2
    exact⟨⟨1,by omega,by go_num,HK2,hF2⟩,by simp[intOf]⟩
  ·have c0:=hF.cell 3 (.int .i64 2) rfl
   have c1:=hF.cell 4 (.string ⟨#[112,97,116,105,101,110,99,101]⟩) rfl
   have c2:=hF.cell 5 (.func (.func 61) #[] #[]) rfl
   have hF2:=hF.alloc (.cells #[.int .i64 2,.string ⟨#[112,97,116,105,101,110,99,101]⟩,.func (.func 61) #[] #[]] 47)
   have hb:=_root_.Go.heap_alloc_new wr (.cells #[.int .i64 2,.string ⟨#[112,97,116,105,101,110,99,101]⟩,.func (.func 61) #[] #[]] 47)
   have d0:(wr.alloc (.cells #[.int .i64 2,.string ⟨#[112,97,116,105,101,110,99,101]⟩,.func (.func 61) #[] #[]] 47)).cell? ⟨wr.heap.size,0,none⟩=some (.int .i64 2):=by rw[Lib.cell_of_heap hb];rfl
   have d1:(wr.alloc (.cells #[.int .i64 2,.string ⟨#[112,97,116,105,101,110,99,101]⟩,.func (.func 61) #[] #[]] 47)).cell? ⟨wr.heap.size,1,none⟩=some (.string ⟨#[112,97,116,105,101,110,99,101]⟩):=by rw[Lib.cell_of_heap hb];rfl
   have d2:(wr.alloc (.cells #[.int .i64 2,.string ⟨#[112,97,116,105,101,110,99,101]⟩,.func (.func 61) #[] #[]] 47)).cell? ⟨wr.heap.size,2,none⟩=some (.func (.func 61) #[] #[]):=by rw[Lib.cell_of_heap hb];rfl
   have g0:∀ j,(wr.alloc (.cells #[.int .i64 2,.string ⟨#[112,97,116,105,101,110,99,101]⟩,.func (.func 61) #[] #[]] 47)).frozen? ⟨w.heap.size,j,none⟩=false:=fun j=>Lib.frozen_of_heap hF2.res j
   have g00:=g0 0
   have g01:=g0 1
   have g02:=g0 2
   have r0:(wr.alloc (.cells #[.int .i64 2,.string ⟨#[112,97,116,105,101,110,99,101]⟩,.func (.func 61) #[] #[]] 47)).cell? ⟨w.heap.size,0,none⟩=some (.int .i64 0):=by rw[Lib.cell_of_heap hF2.res];rfl
   have r1:(wr.alloc (.cells #[.int .i64 2,.string ⟨#[112,97,116,105,101,110,99,101]⟩,.func (.func 61) #[] #[]] 47)).cell? ⟨w.heap.size,1,none⟩=some (.string ⟨#[]⟩):=by rw[Lib.cell_of_heap hF2.res];rfl
   have r2:(wr.alloc (.cells #[.int .i64 2,.string ⟨#[112,97,116,105,101,110,99,101]⟩,.func (.func 61) #[] #[]] 47)).cell? ⟨w.heap.size,2,none⟩=some .nilFunc:=by rw[Lib.cell_of_heap hF2.res];rfl
   have hP:=hF2.res.put (.int .i64 2) (.string ⟨#[112,97,116,105,101,110,99,101]⟩) (.func (.func 61) #[] #[])
   clear g0 hb
   by_cases hk:k=2
   ·subst hk
    clear HK
    go_wp2
    refine bodyPost_ret (v:=.tuple #[.agg #[.int .i64 2,.string ⟨#[112,97,116,105,101,110,99,101]⟩,.func (.func 61) #[] #[]],.bool true]) (Zeg _ _ _ _ _ _ hP rfl rfl) rfl ⟨rfl,?_⟩
    exact Zef hF2.low _ _ _
   ·have ek:decide ((2:Int)=k)=false:=decide_eq_false (fun h=>hk h.symm)
    have ek2:(((2:Int)) == k)=false:=by simpa using ek
    have HK2:Hid (∀ j:Nat,j<2→k≠(j:Int)+1):=(fun j hj=>by have:=HK.out j;omega)
    clear hk HK
    go_wp2
    exact⟨⟨2,by omega,by go_num,HK2,hF2⟩,by simp[intOf]⟩
  ·have c0:=hF.cell 6 (.int .i64 3) rfl
   have c1:=hF.cell 7 (.string ⟨#[104,105,115,116,111,103,114,97,109]⟩) rfl
   have c2:=hF.cell 8 (.func (.func 62) #[] #[]) rfl
   have hF2:=hF.alloc (.cells #[.int .i64 3,.string ⟨#[104,105,115,116,111,103,114,97,109]⟩,.func (.func 62) #[] #[]] 47)
   have hb:=_root_.Go.heap_alloc_new wr (.cells #[.int .i64 3,.string ⟨#[104,105,115,116,111,103,114,97,109]⟩,.func (.func 62) #[] #[]] 47)
   have d0:(wr.alloc (.cells #[.int .i64 3,.string ⟨#[104,105,115,116,111,103,114,97,109]⟩,.func (.func 62) #[] #[]] 47)).cell? ⟨wr.heap.size,0,none⟩=some (.int .i64 3):=by rw[Lib.cell_of_heap hb];rfl
   have d1:(wr.alloc (.cells #[.int .i64 3,.string ⟨#[104,105,115,116,111,103,114,97,109]⟩,.func (.func 62) #[] #[]] 47)).cell? ⟨wr.heap.size,1,none⟩=some (.string ⟨#[104,105,115,116,111,103,114,97,109]⟩):=by rw[Lib.cell_of_heap hb];rfl
   have d2:(wr.alloc (.cells #[.int .i64 3,.string ⟨#[104,105,115,116,111,103,114,97,109]⟩,.func (.func 62) #[] #[]] 47)).cell? ⟨wr.heap.size,2,none⟩=some (.func (.func 62) #[] #[]):=by rw[Lib.cell_of_heap hb];rfl
   have g0:∀ j,(wr.alloc (.cells #[.int .i64 3,.string ⟨#[104,105,115,116,111,103,114,97,109]⟩,.func (.func 62) #[] #[]] 47)).frozen? ⟨w.heap.size,j,none⟩=false:=fun j=>Lib.frozen_of_heap hF2.res j
   have g00:=g0 0
   have g01:=g0 1
   have g02:=g0 2
   have r0:(wr.alloc (.cells #[.int .i64 3,.string ⟨#[104,105,115,116,111,103,114,97,109]⟩,.func (.func 62) #[] #[]] 47)).cell? ⟨w.heap.size,0,none⟩=some (.int .i64 0):=by rw[Lib.cell_of_heap hF2.res];rfl
   have r1:(wr.alloc (.cells #[.int .i64 3,.string ⟨#[104,105,115,116,111,103,114,97,109]⟩,.func (.func 62) #[] #[]] 47)).cell? ⟨w.heap.size,1,none⟩=some (.string ⟨#[]⟩):=by rw[Lib.cell_of_heap hF2.res];rfl
   have r2:(wr.alloc (.cells #[.int .i64 3,.string ⟨#[104,105,115,116,111,103,114,97,109]⟩,.func (.func 62) #[] #[]] 47)).cell? ⟨w.heap.size,2,none⟩=some .nilFunc:=by rw[Lib.cell_of_heap hF2.res];rfl
   have hP:=hF2.res.put (.int .i64 3) (.string ⟨#[104,105,115,116,111,103,114,97,109]⟩) (.func (.func 62) #[] #[])
   clear g0 hb
   by_cases hk:k=3
   ·subst hk
    clear HK
    go_wp2
    refine bodyPost_ret (v:=.tuple #[.agg #[.int .i64 3,.string ⟨#[104,105,115,116,111,103,114,97,109]⟩,.func (.func 62) #[] #[]],.bool true]) (Zeg _ _ _ _ _ _ hP rfl rfl) rfl ⟨rfl,?_⟩
    exact Zef hF2.low _ _ _
   ·have ek:decide ((3:Int)=k)=false:=decide_eq_false (fun h=>hk h.symm)
    have ek2:(((3:Int)) == k)=false:=by simpa using ek
    have HK2:Hid (∀ j:Nat,j<3→k≠(j:Int)+1):=(fun j hj=>by have:=HK.out j;omega)
    clear hk HK
    go_wp2
    exact⟨⟨3,by omega,by go_num,HK2,hF2⟩,by simp[intOf]⟩
  ·have c0:=hF.cell 9 (.int .i64 4) rfl
   have c1:=hF.cell 10 (.string ⟨#[115,112,101,101,100,121]⟩) rfl
   have c2:=hF.cell 11 (.func (.func 63) #[] #[]) rfl
   have hF2:=hF.alloc (.cells #[.int .i64 4,.string ⟨#[115,112,101,101,100,121]⟩,.func (.func 63) #[] #[]] 47)
   have hb:=_root_.Go.heap_alloc_new wr (.cells #[.int .i64 4,.string ⟨#[115,112,101,101,100,121]⟩,.func (.func 63) #[] #[]] 47)
   have d0:(wr.alloc (.cells #[.int .i64 4,.string ⟨#[115,112,101,101,100,121]⟩,.func (.func 63) #[] #[]] 47)).cell? ⟨wr.heap.size,0,none⟩=some (.int .i64 4):=by rw[Lib.cell_of_heap hb];rfl
   have d1:(wr.alloc (.cells #[.int .i64 4,.string ⟨#[115,112,101,101,100,121]⟩,.func (.func 63) #[] #[]] 47)).cell? ⟨wr.heap.size,1,none⟩=some (.string ⟨#[115,112,101,101,100,121]⟩):=by rw[Lib.cell_of_heap hb];rfl
   have d2:(wr.alloc (.cells #[.int .i64 4,.string ⟨#[115,112,101,101,100,121]⟩,.func (.func 63) #[] #[]] 47)).cell? ⟨wr.heap.size,2,none⟩=some (.func (.func 63) #[] #[]):=by rw[Lib.cell_of_heap hb];rfl
   have g0:∀ j,(wr.alloc (.cells #[.int .i64 4,.string ⟨#[115,112,101,101,100,121]⟩,.func (.func 63) #[] #[]] 47)).frozen? ⟨w.heap.size,j,none⟩=false:=fun j=>Lib.frozen_of_heap hF2.res j
   have g00:=g0 0
   have g01:=g0 1
   have g02:=g0 2
   have r0:(wr.alloc (.cells #[.int .i64 4,.string ⟨#[115,112,101,101,100,121]⟩,.func (.func 63) #[] #[]] 47)).cell? ⟨w.heap.size,0,none⟩=some (.int .i64 0):=by rw[Lib.cell_of_heap hF2.res];rfl
   have r1:(wr.alloc (.cells #[.int .i64 4,.string ⟨#[115,112,101,101,100,121]⟩,.func (.func 63) #[] #[]] 47)).cell? ⟨w.heap.size,1,none⟩=some (.string ⟨#[]⟩):=by rw[Lib.cell_of_heap hF2.res];rfl
   have r2:(wr.alloc (.cells #[.int .i64 4,.string ⟨#[115,112,101,101,100,121]⟩,.func (.func 63) #[] #[]] 47)).cell? ⟨w.heap.size,2,none⟩=some .nilFunc:=by rw[Lib.cell_of_heap hF2.res];rfl
   have hP:=hF2.res.put (.int .i64 4) (.string ⟨#[115,112,101,101,100,121]⟩) (.func (.func 63) #[] #[])
   clear g0 hb
   by_cases hk:k=4
   ·subst hk
    clear HK
    go_wp2
    refine bodyPost_ret (v:=.tuple #[.agg #[.int .i64 4,.string ⟨#[115,112,101,101,100,121]⟩,.func (.func 63) #[] #[]],.bool true]) (Zeg _ _ _ _ _ _ hP rfl rfl) rfl ⟨rfl,?_⟩
    exact Zef hF2.low _ _ _
   ·have ek:decide ((4:Int)=k)=false:=decide_eq_false (fun h=>hk h.symm)
    have ek2:(((4:Int)) == k)=false:=by simpa using ek
    have HK2:Hid (∀ j:Nat,j<4→k≠(j:Int)+1):=(fun j hj=>by have:=HK.out j;omega)
    clear hk HK
    go_wp2
    exact⟨⟨4,by omega,by go_num,HK2,hF2⟩,by simp[intOf]⟩
  ·have k1:=HK.out 0 (by omega)
   have k2:=HK.out 1 (by omega)
   have k3:=HK.out 2 (by omega)
   have k4:=HK.out 3 (by omega)
   have g0:∀ j,wr.frozen? ⟨w.heap.size,j,none⟩=false:=fun j=>Lib.frozen_of_heap hF.res j
   have g00:=g0 0
   have g01:=g0 1
   have g02:=g0 2
   have r0:wr.cell? ⟨w.heap.size,0,none⟩=some (.int .i64 0):=by rw[Lib.cell_of_heap hF.res];rfl
   have r1:wr.cell? ⟨w.heap.size,1,none⟩=some (.string ⟨#[]⟩):=by rw[Lib.cell_of_heap hF.res];rfl
   have r2:wr.cell? ⟨w.heap.size,2,none⟩=some .nilFunc:=by rw[Lib.cell_of_heap hF.res];rfl
   have hP:=hF.res.put (.int .i64 0) (.string ⟨#[]⟩) .nilFunc
   clear g0
   have E:Hid (foV k=.agg #[.int .i64 0,.string ⟨#[]⟩,.nilFunc]∧foB k=false):=(by
    refine⟨?_,?_⟩
    ·unfold foV
     rw[if_neg (by omega),if_neg (by omega),if_neg (by omega),if_neg (by omega)]
    ·unfold foB
     exact decide_eq_false (by omega))
   clear k1 k2 k3 k4 HK
   go_wp2
   refine bodyPost_ret (v:=.tuple #[.agg #[.int .i64 0,.string ⟨#[]⟩,.nilFunc],.bool false]) (Zeg _ _ _ _ _ _ hP rfl rfl) rfl ⟨by rw[E.out.1,E.out.2],?_⟩
   exact Zef hF.low _ _ _
end

section
open Go.RowKit
theorem ZdY (x y:List Int) (vx vy:Value) (w:World) (hx:HI w vx x) (hy:HI w vy y) (hxl:x.length≤4096) (hyl:y.length≤4096) (L:List Ch) (hL:Hid (mkL (sKeep 4096 x y) y.length=L)) :
  Calls Tryz.prog 63 #[vx,vy] w fun e w'=>∃ v',e=.returned (.tuple #[v',.int .i64 0])∧HCh w' v' L∧Below w.heap.size w w':=by
 obtain⟨xo,xc,rfl⟩:=Holds.form hx
 obtain⟨yo,yc,rfl⟩:=Holds.form hy
 go_enter Tryz.func63,Tryz.ntmps63
 go_wp2_with fail
 refine (Zlf x y 4096 _ _ w hx hy hxl hyl L hL).mono ?_
 rintro e w2 ⟨v2,rfl,hv2,hB2⟩
 go_wp2
 go_ret2
 exact⟨_,rfl,hv2,hB2⟩
theorem En_f (k:Int) (o:Tx.Cn.Ig) (a b:List (List UInt8)) (va vb:Value) (w:World) (ha:HS w va a) (hb:HS w vb b) (hk:1≤k∧k≤4) (hal:a.length≤4096) (hbl:b.length≤4096) (hla:∀ l∈a,l.length≤137438953472) (hlb:∀ l∈b,l.length≤137438953472) (L:List Ch) (hL:Hid (mkL (eng k (clx o a b) (cly o a b)) b.length=L)) :
  Calls Tryz.prog 9 #[.int .i64 k,va,vb,Tx.igV o] w fun e w'=>∃ v,e=.returned (.tuple #[v,.int .i64 0])∧HCh w' v L∧Below w.heap.size w w':=by
 obtain⟨ao,ac,rfl⟩:=Holds.form ha
 obtain⟨bo,bc,rfl⟩:=Holds.form hb
 obtain⟨x,hx⟩:∃ x,clx o a b=x:=⟨_,rfl⟩
 obtain⟨y,hy⟩:∃ y,cly o a b=y:=⟨_,rfl⟩
 have HX:Hid (clx o a b=x):=hx
 have HY:Hid (cly o a b=y):=hy
 have hxl:x.length=a.length:=by rw[← hx,Zco]
 have hyl:y.length=b.length:=by rw[← hy,Zcr]
 have HWX:Hid (∀ c∈x,w64 c):=(by rw[← hx];exact Zcq o a b (by omega))
 have HWY:Hid (∀ c∈y,w64 c):=(by rw[← hy];exact Zct o a b (by omega))
 rw[hx,hy,← hyl] at hL
 have HXL:Hid (x.length≤4096∧y.length≤4096):=(by refine⟨?_,?_⟩<;>omega)
 have HLA:Hid (∀ l∈a,l.length≤137438953472):=hla
 have HLB:Hid (∀ l∈b,l.length≤137438953472):=hlb
 have hB:=(Below.refl w.heap.size w).alloc (Nat.le_refl _) (igC o)
 have ha1:=HS.keep ha hB (Nat.le_refl _)
 have hb1:=HS.keep hb hB (Nat.le_refl _)
 have e3:decide ((4096:Int)<(a.length:Int))=false:=decide_eq_false (by omega)
 have e4:decide ((4096:Int)<(b.length:Int))=false:=decide_eq_false (by omega)
 clear hx hy hxl hyl hla hlb
 unfold igC at hB ha1 hb1
 unfold Tx.igV
 go_enter Tryz.func9,Tryz.ntmps9
 go_wp2_with fail
 refine (ZdX k _).mono ?_
 rintro e w0 ⟨rfl,hB0⟩
 have hB00:=hB.trans (hB0.mono hB.size)
 have hig:Tx.Boxed o w.heap.size w0:=(Tx.Boxed.fresh o w).keep hB0
 have ha2:=HS.keep ha1 hB0 (Nat.le_refl _)
 have hb2:=HS.keep hb1 hB0 (Nat.le_refl _)
 clear hB hB0 ha1 hb1
 rcases (by omega:k=1∨k=2∨k=3∨k=4) with rfl | rfl | rfl | rfl
 ·have HL2:Hid (mkL (kp 0 x y) y.length=L):=hL
  clear hL hk
  rw[show foV 1=.agg #[.int .i64 1,.string ⟨#[109,105,110,105,109,97,108]⟩,.func (.func 60) #[] #[]] from rfl,show foB 1=true from rfl]
  have hA:=(Below.refl _ w0).alloc (Nat.le_refl _) (.cells #[.int .i64 1,.string ⟨#[109,105,110,105,109,97,108]⟩,.func (.func 60) #[] #[]] 47)
  have hbx:=_root_.Go.heap_alloc_new w0 (.cells #[.int .i64 1,.string ⟨#[109,105,110,105,109,97,108]⟩,.func (.func 60) #[] #[]] 47)
  have hB01:=hB00.trans (hA.mono hB00.size)
  have ha3:=HS.keep ha2 hA (Nat.le_refl _)
  have hb3:=HS.keep hb2 hA (Nat.le_refl _)
  obtain⟨i0,i1,i2,i3,i4,i5⟩:=(hig.keep hA).cells
  go_wp2_with fail
  generalize w0.alloc (.cells #[.int .i64 1,.string ⟨#[109,105,110,105,109,97,108]⟩,.func (.func 60) #[] #[]] 47)=W1 at *
  refine (Zds a b o _ _ _ ha3 hb3 HLA.out HLB.out (by omega) x y HX HY).mono ?_
  rintro e w1 ⟨vx,vy,n,rfl,hx1,hy1,hB1⟩
  have hB02:=hB01.trans (hB1.mono hB01.size)
  have hbx1:=(hB1.block _ (Array.getElem?_eq_some_iff.1 hbx).1).trans hbx
  have f2:w1.cell? ⟨w0.heap.size,2,none⟩=some (.func (.func 60) #[] #[]):=by rw[Lib.cell_of_heap hbx1];rfl
  obtain⟨xo,xc,rfl⟩:=Holds.form hx1
  obtain⟨yo,yc,rfl⟩:=Holds.form hy1
  clear hB1 ha3 hb3 HX HY HLA HLB ha2 hb2 hbx hbx1 i0 i1 i2 i3 i4 i5 hA hB01 hig
  go_wp2_with fail
  refine (Zam x y _ _ _ hx1 hy1 HXL.out.1 HXL.out.2 L HL2).mono ?_
  rintro e w3 ⟨v3,rfl,hv3,hB3⟩
  have hB03:=hB02.trans (hB3.mono hB02.size)
  go_wp2
  go_ret2
  exact⟨_,rfl,hv3,hB03⟩
 ·have HL2:Hid (mkL (pKeep x y) y.length=L):=hL
  clear hL hk
  rw[show foV 2=.agg #[.int .i64 2,.string ⟨#[112,97,116,105,101,110,99,101]⟩,.func (.func 61) #[] #[]] from rfl,show foB 2=true from rfl]
  have hA:=(Below.refl _ w0).alloc (Nat.le_refl _) (.cells #[.int .i64 2,.string ⟨#[112,97,116,105,101,110,99,101]⟩,.func (.func 61) #[] #[]] 47)
  have hbx:=_root_.Go.heap_alloc_new w0 (.cells #[.int .i64 2,.string ⟨#[112,97,116,105,101,110,99,101]⟩,.func (.func 61) #[] #[]] 47)
  have hB01:=hB00.trans (hA.mono hB00.size)
  have ha3:=HS.keep ha2 hA (Nat.le_refl _)
  have hb3:=HS.keep hb2 hA (Nat.le_refl _)
  obtain⟨i0,i1,i2,i3,i4,i5⟩:=(hig.keep hA).cells
  go_wp2_with fail
  generalize w0.alloc (.cells #[.int .i64 2,.string ⟨#[112,97,116,105,101,110,99,101]⟩,.func (.func 61) #[] #[]] 47)=W1 at *
  refine (Zds a b o _ _ _ ha3 hb3 HLA.out HLB.out (by omega) x y HX HY).mono ?_
  rintro e w1 ⟨vx,vy,n,rfl,hx1,hy1,hB1⟩
  have hB02:=hB01.trans (hB1.mono hB01.size)
  have hbx1:=(hB1.block _ (Array.getElem?_eq_some_iff.1 hbx).1).trans hbx
  have f2:w1.cell? ⟨w0.heap.size,2,none⟩=some (.func (.func 61) #[] #[]):=by rw[Lib.cell_of_heap hbx1];rfl
  obtain⟨xo,xc,rfl⟩:=Holds.form hx1
  obtain⟨yo,yc,rfl⟩:=Holds.form hy1
  clear hB1 ha3 hb3 HX HY HLA HLB ha2 hb2 hbx hbx1 i0 i1 i2 i3 i4 i5 hA hB01 hig
  go_wp2_with fail
  refine (Zit x y _ _ _ hx1 hy1 HXL.out.1 HXL.out.2 HWX.out HWY.out L HL2).mono ?_
  rintro e w3 ⟨v3,rfl,hv3,hB3⟩
  have hB03:=hB02.trans (hB3.mono hB02.size)
  go_wp2
  go_ret2
  exact⟨_,rfl,hv3,hB03⟩
 ·have HL2:Hid (mkL (hKeep x y) y.length=L):=hL
  clear hL hk
  rw[show foV 3=.agg #[.int .i64 3,.string ⟨#[104,105,115,116,111,103,114,97,109]⟩,.func (.func 62) #[] #[]] from rfl,show foB 3=true from rfl]
  have hA:=(Below.refl _ w0).alloc (Nat.le_refl _) (.cells #[.int .i64 3,.string ⟨#[104,105,115,116,111,103,114,97,109]⟩,.func (.func 62) #[] #[]] 47)
  have hbx:=_root_.Go.heap_alloc_new w0 (.cells #[.int .i64 3,.string ⟨#[104,105,115,116,111,103,114,97,109]⟩,.func (.func 62) #[] #[]] 47)
  have hB01:=hB00.trans (hA.mono hB00.size)
  have ha3:=HS.keep ha2 hA (Nat.le_refl _)
  have hb3:=HS.keep hb2 hA (Nat.le_refl _)
  obtain⟨i0,i1,i2,i3,i4,i5⟩:=(hig.keep hA).cells
  go_wp2_with fail
  generalize w0.alloc (.cells #[.int .i64 3,.string ⟨#[104,105,115,116,111,103,114,97,109]⟩,.func (.func 62) #[] #[]] 47)=W1 at *
  refine (Zds a b o _ _ _ ha3 hb3 HLA.out HLB.out (by omega) x y HX HY).mono ?_
  rintro e w1 ⟨vx,vy,n,rfl,hx1,hy1,hB1⟩
  have hB02:=hB01.trans (hB1.mono hB01.size)
  have hbx1:=(hB1.block _ (Array.getElem?_eq_some_iff.1 hbx).1).trans hbx
  have f2:w1.cell? ⟨w0.heap.size,2,none⟩=some (.func (.func 62) #[] #[]):=by rw[Lib.cell_of_heap hbx1];rfl
  obtain⟨xo,xc,rfl⟩:=Holds.form hx1
  obtain⟨yo,yc,rfl⟩:=Holds.form hy1
  clear hB1 ha3 hb3 HX HY HLA HLB ha2 hb2 hbx hbx1 i0 i1 i2 i3 i4 i5 hA hB01 hig
  go_wp2_with fail
  refine (Zfa x y _ _ _ hx1 hy1 HXL.out.1 HXL.out.2 HWX.out HWY.out L HL2).mono ?_
  rintro e w3 ⟨v3,rfl,hv3,hB3⟩
  have hB03:=hB02.trans (hB3.mono hB02.size)
  go_wp2
  go_ret2
  exact⟨_,rfl,hv3,hB03⟩
 ·have HL2:Hid (mkL (sKeep 4096 x y) y.length=L):=hL
  clear hL hk
  rw[show foV 4=.agg #[.int .i64 4,.string ⟨#[115,112,101,101,100,121]⟩,.func (.func 63) #[] #[]] from rfl,show foB 4=true from rfl]
  have hA:=(Below.refl _ w0).alloc (Nat.le_refl _) (.cells #[.int .i64 4,.string ⟨#[115,112,101,101,100,121]⟩,.func (.func 63) #[] #[]] 47)
  have hbx:=_root_.Go.heap_alloc_new w0 (.cells #[.int .i64 4,.string ⟨#[115,112,101,101,100,121]⟩,.func (.func 63) #[] #[]] 47)
  have hB01:=hB00.trans (hA.mono hB00.size)
  have ha3:=HS.keep ha2 hA (Nat.le_refl _)
  have hb3:=HS.keep hb2 hA (Nat.le_refl _)
  obtain⟨i0,i1,i2,i3,i4,i5⟩:=(hig.keep hA).cells
  go_wp2_with fail
  generalize w0.alloc (.cells #[.int .i64 4,.string ⟨#[115,112,101,101,100,121]⟩,.func (.func 63) #[] #[]] 47)=W1 at *
  refine (Zds a b o _ _ _ ha3 hb3 HLA.out HLB.out (by omega) x y HX HY).mono ?_
  rintro e w1 ⟨vx,vy,n,rfl,hx1,hy1,hB1⟩
  have hB02:=hB01.trans (hB1.mono hB01.size)
  have hbx1:=(hB1.block _ (Array.getElem?_eq_some_iff.1 hbx).1).trans hbx
  have f2:w1.cell? ⟨w0.heap.size,2,none⟩=some (.func (.func 63) #[] #[]):=by rw[Lib.cell_of_heap hbx1];rfl
  obtain⟨xo,xc,rfl⟩:=Holds.form hx1
  obtain⟨yo,yc,rfl⟩:=Holds.form hy1
  clear hB1 ha3 hb3 HX HY HLA HLB ha2 hb2 hbx hbx1 i0 i1 i2 i3 i4 i5 hA hB01 hig
  go_wp2_with fail
  refine (ZdY x y _ _ _ hx1 hy1 HXL.out.1 HXL.out.2 L HL2).mono ?_
  rintro e w3 ⟨v3,rfl,hv3,hB3⟩
  have hB03:=hB02.trans (hB3.mono hB02.size)
  go_wp2
  go_ret2
  exact⟨_,rfl,hv3,hB03⟩
end

section
open Go.RowKit
theorem canon0 (l:List UInt8):Tx.Cn.canonL ig0 l=l:=by
 show Tx.Cn.bareL l++Tx.Cn.feedL l=l
 unfold Tx.Cn.bareL Tx.Cn.feedL
 cases h:Tx.Cn.feedB l with
 | false=>simp
 | true =>
  have h1:l.getLast?=some 10:=by simpa [Tx.Cn.feedB] using h
  obtain⟨q,rfl⟩:=List.getLast?_eq_some_iff.1 h1
  simp
end

end Go.Proofs.YtcnjephlmcnodaaGreatDoor
