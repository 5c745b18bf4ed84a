/-
  Texts that belong together, joined: CpN, NpS, CpO, CpP, CwG, HuC2, CwH.
-/
import Derived.Test.YtgiojkhmkeocfaaGreatDoorUnAgrA14
import Derived.Defers
import Derived.Recover
import Derived.BigQuiet

set_option maxHeartbeats 16000000
set_option maxRecDepth 100000
namespace Go.Proofs.YtgiojkhmkeocfaaGreatDoor

section
open Go.RowKit
theorem Zcg (p q:Addr) (w:World) :
  CallsD Tryz.prog 50 #[.pointer (some p),.pointer (some q)] .returning w fun e u' w'=>e=.returned (.tuple #[])∧u'=.returning∧w'=w:=by
 refine callsD_of_wpS Tryz.func50 rfl fun c₀ cs hu=>?_
 apply wpS_seq
 apply wpS_region
 simp[wpOpsS,go_sem,recoverD,hu,Tryz.ntmps50,Exit.thenS]
 apply wpS_seq
 apply wpS_region
 simp[wpOpsS,go_sem,Exit.thenS]
 refine wpS_cond (t:=false) (by simp[Act.eval,Array.replicate]) ?_
 simp only[Bool.false_eq_true,if_false]
 refine wpS_of_wp (wp_skip ?_)
 cases c₀
 simp_all [bodyPostS,results,Tryz.results50]
theorem Zcd (F0 F1 g:Nat) (v0 v1:Value) (older:List PanicEntry) (w:World) (h01:F0≠F1) (c0:w.cell? ⟨F0,0,none⟩=some v0) (f0:w.frozen? ⟨F0,0,none⟩=false) (c1:w.cell? ⟨F1,0,none⟩=some v1) (f1:w.frozen? ⟨F1,0,none⟩=false) :
  CallsD Tryz.prog 50 #[.pointer (some ⟨F0,0,none⟩),.pointer (some ⟨F1,0,none⟩)] (.panicking ({ v:=.iface 86 (.pointer (some ⟨g,0,none⟩)),recovered:=false }::older)) w fun e u' w'=>e=.returned (.tuple #[])∧u'=.panicking ({ v:=.iface 86 (.pointer (some ⟨g,0,none⟩)),recovered:=true }::older)∧w'=((w.setCell ⟨F0,0,none⟩ (.slice none 0 0)).setCell ⟨F1,0,none⟩ (.iface 86 (.pointer (some ⟨g,0,none⟩)))).drew:=by
 refine callsD_of_wpS Tryz.func50 rfl fun c₀ cs hu=>?_
 apply wpS_seq
 apply wpS_region
 simp[wpOpsS,go_sem,recoverD,hu,Tryz.ntmps50,Exit.thenS]
 apply wpS_seq
 apply wpS_region
 simp[wpOpsS,go_sem,Exit.thenS]
 refine wpS_cond (t:=true) (by simp[Act.eval,Array.replicate]) ?_
 simp only[if_true]
 refine wpS_of_wp ?_
 have hta:∀ (v:Value) (u:World),(Instr.typeAssert (.iface 86 v) 20 86 false).run Tryz.prog u=.ok v u:=fun _ _=>by kernel_rfl
 generalize hA:({ tmps:=_,defers:=[] }:Act)=A
 have hA2:A={ tmps:=#[.pointer (some ⟨F0,0,none⟩),.pointer (some ⟨F1,0,none⟩),.iface 86 (.pointer (some ⟨g,0,none⟩)),.iface 86 (.pointer (some ⟨g,0,none⟩)),.iface 86 (.pointer (some ⟨g,0,none⟩)),.bool true,undef,undef,undef],defers:=[] }:=hA.symm.trans rfl
 subst hA2
 clear hA
 go_region
 cases c₀
 simp_all [bodyPostS,results,Tryz.results50]
def PanC (Q:Exit→Act→World→Prop) (Pn:List PanicEntry→World→Prop) (p2 p3:Value) (ds:List Deferred):Exit→Act→World→Prop
 | .panic c,a,w=>Pn c w∧a.tmps.getD 2 undef=p2∧a.tmps.getD 3 undef=p3∧a.defers=ds
 | .normal,a,w=>Q .normal a w
 | _,_,_=>False
theorem PanC.normal {Q:Exit→Act→World→Prop} {Pn:List PanicEntry→World→Prop} {p2 p3:Value} {ds:List Deferred} {a:Act} {w:World} (h:Q .normal a w):PanC Q Pn p2 p3 ds .normal a w:=h
theorem Zvb {P:Program} {id:Nat} {ops:Array Oper} {b:Bool} {Q:Exit→Act→World→Prop} {a:Act} {w:World} (Pn:List PanicEntry→World→Prop) (p2 p3:Value) (ds:List Deferred) (hP:∀ c a w,Pn c w→a.tmps.getD 2 undef=p2→a.tmps.getD 3 undef=p3→a.defers=ds→Q (.panic c) a w) (h:(Code.region id ops b).wp P (PanC Q Pn p2 p3 ds) a w):(Code.region id ops b).wp P Q a w:=by
 refine Code.wp_mono (fun e a w h=>?_) h
 cases e with
 | panic c=>exact hP c a w h.1 h.2.1 h.2.2.1 h.2.2.2
 | normal=>exact h
 | _=>exact (h:False).elim
theorem ZnW {Q:Exit→Act→World→Prop} {Pn:List PanicEntry→World→Prop} {p2 p3:Value} {ds:List Deferred} {d:Nat} {v:Value} (h2:d≠2) (h3:d≠3):∀ c a w,PanC Q Pn p2 p3 ds (.panic c) (a.put (some d) v) w→PanC Q Pn p2 p3 ds (.panic c) a w:=by
 rintro c a w ⟨x1,x2,x3,x4⟩
 refine⟨x1,?_,?_,x4⟩
 ·rw[← x2]
  simp[Act.put,Array.getD_eq_getD_getElem?,Array.getElem?_setIfInBounds_ne h2]
 ·rw[← x3]
  simp[Act.put,Array.getD_eq_getD_getElem?,Array.getElem?_setIfInBounds_ne h3]
theorem Zpv (tmps:Array Value) (u:World) (F0 F1 n c:Nat) (o:Option Addr) (v1:Value) (h2:tmps.getD 2 undef=.pointer (some ⟨F0,0,none⟩)) (h3:tmps.getD 3 undef=.pointer (some ⟨F1,0,none⟩)) (c0:u.cell? ⟨F0,0,none⟩=some (.slice o n c)) (c1:u.cell? ⟨F1,0,none⟩=some v1) :
  (results Tryz.f20 tmps).run Tryz.prog u=.ok (.tuple #[.slice o n c,v1]) u:=by
 have hL0:(loadVar 48 ⟨F0,0,none⟩).run Tryz.prog u=.ok (.slice o n c) u:=by
  simp[loadVar,isAgg,underlying,Tryz.underlying48,c0,Result.andThen]
 have hL1:(loadVar 36 ⟨F1,0,none⟩).run Tryz.prog u=.ok v1 u:=by
  simp[loadVar,isAgg,underlying,Tryz.underlying36,c1,Result.andThen]
 have e2:tmps[2]?.getD undef=.pointer (some ⟨F0,0,none⟩):=by rw[← h2];simp
 have e3:tmps[3]?.getD undef=.pointer (some ⟨F1,0,none⟩):=by rw[← h3];simp
 simp[results,Tryz.results20,e2,e3,asAddr,hL0,hL1,Result.andThen]
end

section
open Ln Go.RowKit
attribute [local go_sem] ZvA ByteArray.extract_mk
theorem ZqW (ws:List (List UInt8)) (a:List UInt8):scells (ws++[a])=scells ws++[.string ⟨a.toArray⟩]:=by simp[scells]
theorem ZrY (a:ByteArray):∀ u∈[Value.string a],u.oneCell'=true:=by intro u hu;simp at hu;subst hu;rfl
theorem ZrX (w:World) (C:List Value) (t:TypeId):∀ j u,C[j]?=some u→(w.alloc (.cells C.toArray t)).cell? ((⟨w.heap.size,0,none⟩:Addr).add j)=some u:=by
 intro j u hj
 have hadd:(⟨w.heap.size,0,none⟩:Addr).add j=⟨w.heap.size,j,none⟩:=by unfold Addr.add;split<;>simp_all
 rw[hadd,cell_of_row _ w.heap.size j C.toArray t (0,0) (_root_.Go.heap_alloc_new w _)]
 simpa using hj
def sizeT:Value→Nat
 | .string s=>s.size
 | _=>0
theorem sizeT_mk (r:List UInt8):sizeT (.string ⟨r.toArray⟩)=r.length:=rfl
theorem ZaG {acc:List (List UInt8)} {r l:List UInt8} (h:acc++splitL r=splitL l):acc.length≤l.length:=by
 have h1:=congrArg List.length h
 have h2:=split_len l
 rw[List.length_append] at h1
 omega
theorem ZlX (l:List UInt8) (w:World) (hl:l.length≤1099511627776) :
  Calls Tryz.prog 12 #[.string ⟨l.toArray⟩] w fun e w'=>∃ v,e=.returned v∧w'.ownsRow w.heap.size 9 1 v (splitL l).length (scells (splitL l))∧Below w.heap.size w w':=by
 obtain⟨i0,hi,hz0,hz1,hz2⟩:=info_parts infoStr
 go_enter Tryz.func12,Tryz.ntmps12
 go_wp2
 go_loopw [0,3,4] (fun s acc _ wr=>∃ (xs:List (List UInt8)) (r:List UInt8),s=.string ⟨r.toArray⟩∧wr.ownsRow w.heap.size 9 1 acc xs.length (scells xs)∧Below w.heap.size w wr∧r.length≤l.length∧xs++splitL r=splitL l) (fun s _ _ _=>sizeT s)
 case atStart=>exact⟨[],l,rfl,World.ownsRow_nil _ _ _ _,Below.refl _ _,Nat.le_refl _,rfl⟩
 case round =>
  obtain⟨acc,r,rfl,hown,hbr,hrl,hw⟩:=hrel
  have hacc:=ZaG hw
  have HW:Hid (acc++splitL r=splitL l):=hw
  clear hw
  have hbz:=hbr.size
  obtain⟨ao,cap,rfl⟩:=(holds_of hown).form
  rcases Int.lt_or_le (Lib.indexByte r 10) 0 with hq | hq
  ·obtain⟨q1,q2⟩:=ZiM hq
   clear hq
   cases r with
   | nil =>
    have HE:Hid (splitL l=acc):=by have:=HW.out;show _=_;simpa [splitL] using this.symm
    go_wp2_with fail
    refine (Tryz.strings_Index_one ⟨([]:List UInt8).toArray⟩ 10 _).mono ?_
    rintro e w1 ⟨rfl,rfl⟩
    go_wp2
    go_ret
    rw[HE.out]
    exact⟨_,rfl,hown,hbr⟩
   | cons c t =>
    have HE:Hid (splitL l=acc++[c::t]):=by
     have:=HW.out
     rw[Zsf _ q2 (by simp)] at this
     exact this.symm
    clear q2
    go_wp2_with fail
    refine (Tryz.strings_Index_one ⟨(c::t).toArray⟩ 10 _).mono ?_
    rintro e w1 ⟨rfl,rfl⟩
    have hi2:Lib.indexByte (⟨(c::t).toArray⟩:ByteArray).data.toList 10=-1:=q1
    rw[hi2]
    go_wp2_with (at_builtin;refine wpList_append_own _ rfl _ _ 23 rfl w.heap.size 9 i0 (.string ⟨#[]⟩) 1 16 Tryz.underlying23 hi hz0 hz1 hz2 rfl (by decide) _ _ _ rfl (hown.alloc _) ⟨w1.heap.size,0,none⟩ 1 1 [.string ⟨(c::t).toArray⟩] rfl rfl (ZrX _ _ _) (ZrY _) ?c3 ?c4 ?c5 ?_)
    case c3=>unfold maxLen;omega
    case c4=>omega
    case c5=>simp;omega
    intro v' w3 hown3 hgrow hfr
    have hbr3:=(hbr.alloc hbz (.cells #[.string ⟨(c::t).toArray⟩] 9)).grown hgrow (by simp;omega) (fun j hj=>(hown.lt j hj).1)
    go_wp2
    go_ret
    rw[HE.out,ZqW]
    exact⟨_,rfl,by simpa using hown3,hbr3⟩
  ·obtain⟨a,b,rfl,hn,he⟩:=ZiN hq
   have HE:Hid (acc++[a++[10]]++splitL b=splitL l):=by
    have:=HW.out
    rw[Zsd a b hn] at this
    show _=_
    simpa using this
   clear hn hq
   have hlen:(a++10::b).length=a.length+1+b.length:=by simp;omega
   have ht:(a++10::b).take (a.length+1)=a++[10]:=by
    rw[show a++10::b=(a++[10])++b by simp,List.take_left' (by simp)]
   have hd:(a++10::b).drop (a.length+1)=b:=by
    rw[show a++10::b=(a++[10])++b by simp,List.drop_left' (by simp)]
   generalize a++10::b=r at *
   have i1:0≤(a.length:Int)+1:=by omega
   have i2:(a.length:Int)+1≤(r.length:Int):=by omega
   have i3:((a.length:Int)+1).toNat=a.length+1:=by omega
   go_wp2_with fail
   refine (Tryz.strings_Index_one ⟨r.toArray⟩ 10 _).mono ?_
   rintro e w1 ⟨rfl,rfl⟩
   have hi2:Lib.indexByte (⟨r.toArray⟩:ByteArray).data.toList 10=a.length:=he
   rw[hi2]
   go_wp2_with (at_builtin;refine wpList_append_own _ rfl _ _ 23 rfl w.heap.size 9 i0 (.string ⟨#[]⟩) 1 16 Tryz.underlying23 hi hz0 hz1 hz2 rfl (by decide) _ _ _ rfl (hown.alloc _) ⟨w1.heap.size,0,none⟩ 1 1 [.string ⟨(a++[10]).toArray⟩] rfl rfl (ZrX _ _ _) (ZrY _) ?c3 ?c4 ?c5 ?_)
   case c3=>unfold maxLen;omega
   case c4=>omega
   case c5=>simp;omega
   intro v' w3 hown3 hgrow hfr
   have hbr3:=(hbr.alloc hbz (.cells #[.string ⟨(a++[10]).toArray⟩] 9)).grown hgrow (by simp;omega) (fun j hj=>(hown.lt j hj).1)
   go_wp2
   go_roundw
   case rel=>exact⟨acc++[a++[10]],b,rfl,by rw[ZqW];simpa using hown3,hbr3,by omega,HE.out⟩
   case measure=>rw[sizeT_mk,sizeT_mk];omega
end

section
open Go.RowKit
theorem infoPx:(Tryz.prog.info? 55).map (fun i=>(i.zero,i.size,i.bytes))=some (some (.agg #[.string ⟨#[]⟩,.string ⟨#[]⟩,.slice none 0 0]),3,56):=by kernel_rfl
structure Pfd where
 x:Pth
 v:Value
 hs:List (Hk × Value)
def pxC (f:Pfd):List Value:=[.string ⟨f.x.old.toArray⟩,.string ⟨f.x.new.toArray⟩,f.v]
def pxcells (F:List Pfd):List Value:=F.flatMap pxC
def pxO (f:Pfd):Obj:=.cells #[.string ⟨f.x.old.toArray⟩,.string ⟨f.x.new.toArray⟩,f.v] 55
structure Pown (B:Nat) (u:World) (f:Pfd):Prop where
 eq:f.x.hs=f.hs.map (·.1)
 own:u.ownsRow B 59 5 f.v f.hs.length (hkcells f.hs)
 ins:∀ y∈f.hs,u.ownsRow B 103 2 y.2 y.1.ls.length (mkcells y.1.ls)
structure Pw (w:World) (ov:Value) (F:List Pfd) (u:World):Prop where
 low:Below w.heap.size w u
 own:u.ownsRow w.heap.size 55 3 ov F.length (pxcells F)
 ins:∀ f∈F,Pown w.heap.size u f
theorem Pown.kept {B k:Nat} {u u':World} {f:Pfd} (h:Pown B u f) (hg:u.grownBy u' (some k)) (h1:f.v.ownBlock≠some k) (h2:∀ y∈f.hs,y.2.ownBlock≠some k):Pown B u' f:=⟨h.eq,h.own.kept hg (.inr h1),fun y hy=>(h.ins y hy).kept hg (.inr (h2 y hy))⟩
theorem Pown.keep {B:Nat} {u u':World} {f:Pfd} (h:Pown B u f) (hb:Below u.heap.size u u'):Pown B u' f:=⟨h.eq,ZnI h.own hb,fun y hy=>ZnI (h.ins y hy) hb⟩
theorem Pown.box {B k:Nat} {u u':World} {f:Pfd} {cs:Array Value} {t:TypeId} {fr:Nat × Nat} (h:Pown B u f) (hb:u.heap[k]?=some (.cells cs t fr)) (h1:59≠t) (h2:103≠t) (hg:u.grownBy u' (some k)):Pown B u' f:=h.kept hg (ZnB h.own hb h1) (fun y hy=>ZnB (h.ins y hy) hb h2)
theorem Zqj {B:Nat} {u u':World} {e e':TypeId} {s s':Nat} {v v':Value} {n n':Nat} {xs xs':List Value} (h:u.ownsRow B e s v n xs) (ho:u.ownsRow B e' s' v' n' xs') (hne:e'≠e) (hg:u.grownBy u' v'.ownBlock):u'.ownsRow B e s v n xs:=by
 refine⟨h.1,?_⟩
 rcases h.2 with q | ⟨b,cap,cur,rfl,q2,q3,q4⟩
 ·exact .inl q
 ·refine .inr ⟨b,cap,cur,rfl,q2,?_,q4⟩
  rw[hg.block b (Array.getElem?_eq_some_iff.1 q3).1 (fun e=>ZnB ho q3 hne e.symm)]
  exact q3
structure RdP (w:World) (R:Nat) (L:List (List UInt8)) (vL ov:Value) (F:List Pfd) (p:Nat) (u:World):Prop where
 pw:Pw w ov F u
 f0:u.heap[w.heap.size]?=some (.cells #[ov] 48)
 f1:u.heap[w.heap.size+1]?=some (.cells #[.nilIface] 36)
 ck:Ck u R vL (p:Int)
 rl:w.heap.size+1<R
 ln:u.ownsRow w.heap.size 9 1 vL L.length (scells L)
section
variable {w u u':World} {R:Nat} {L:List (List UInt8)} {vL ov:Value} {F:List Pfd} {p p':Nat}
theorem RdP.c0 (h:RdP w R L vL ov F p u):u.cell? ⟨w.heap.size,0,none⟩=some ov:=by rw[Lib.cell_of_heap h.f0];rfl
theorem RdP.keep (h:RdP w R L vL ov F p u) (hb:Below u.heap.size u u'):RdP w R L vL ov F p u':=⟨⟨h.pw.low.trans (hb.mono h.pw.low.size),ZnI h.pw.own hb,fun f hf=>(h.pw.ins f hf).keep hb⟩,(hb.block _ (Array.getElem?_eq_some_iff.1 h.f0).1).trans h.f0,(hb.block _ (Array.getElem?_eq_some_iff.1 h.f1).1).trans h.f1,h.ck.low hb,h.rl,ZnI h.ln hb⟩
theorem RdP.call (h:RdP w R L vL ov F p u) (hg:u.grownBy u' (some R)) (q:Ck u' R vL (p':Int)):RdP w R L vL ov F p' u':=by
 have hk:∀ k x,k≠R→u.heap[k]?=some x→u'.heap[k]?=some x:=fun k _ hk hx=>(hg.block k (Array.getElem?_eq_some_iff.1 hx).1 (fun e=>hk (Option.some.inj e))).trans hx
 have hb:u.heap[R]?=some (.cells #[vL,.int .i64 (p:Int)] 105):=h.ck
 have hr:=h.rl
 exact⟨⟨h.pw.low.grown hg h.pw.low.size (fun k e=>by cases e;omega),h.pw.own.kept hg (.inr (ZnB h.pw.own hb (by decide))),fun f hf=>(h.pw.ins f hf).box hb (by decide) (by decide) hg⟩,hk _ _ (by omega) h.f0,hk _ _ (by omega) h.f1,q,h.rl,h.ln.kept hg (.inr (ZnB h.ln hb (by decide)))⟩
theorem RdP.lines (h:RdP w R L vL ov F p u) (hg:u.grownBy u' (some R)):HS u' vL L:=by
 have hb:u.heap[R]?=some (.cells #[vL,.int .i64 (p:Int)] 105):=h.ck
 exact holds_of (h.ln.kept hg (.inr (ZnB h.ln hb (by decide))))
theorem RdP.more (h:RdP w R L vL ov F p u) {f:Pfd} {ov':Value} (hy:Pown w.heap.size u f) (hg:u.grownBy u' ov.ownBlock) (ho:u'.ownsRow w.heap.size 55 3 ov' (F.length+1) (pxcells F++pxC f)) :
  RdP w R L vL ov' (F++[f]) p (u'.setCell ⟨w.heap.size,0,none⟩ ov')∧u'.cell? ⟨w.heap.size,0,none⟩=some ov∧u'.frozen? ⟨w.heap.size,0,none⟩=false:=by
 have hk:∀ (k:Nat) (cs:Array Value) (t:TypeId) (fr:Nat × Nat),t≠55→u.heap[k]?=some (Obj.cells cs t fr)→u'.heap[k]?=some (Obj.cells cs t fr):=fun k cs t fr ht hx=>(hg.block k (Array.getElem?_eq_some_iff.1 hx).1 (fun e=>ZnB h.pw.own hx ht.symm e.symm)).trans hx
 have f0:=hk _ _ _ _ (by decide) h.f0
 have f1:=hk _ _ _ _ (by decide) h.f1
 have ck:Ck u' R vL (p:Int):=hk _ _ _ _ (by decide) h.ck
 have hg2:=Zhd u' w.heap.size 0 ov'
 have hin:∀ g,Pown w.heap.size u g→Pown w.heap.size u' g:=fun g hp=>⟨hp.eq,Zqj hp.own h.pw.own (by decide) hg,fun y hy=>Zqj (hp.ins y hy) h.pw.own (by decide) hg⟩
 have hlow:=h.pw.low.grown hg h.pw.low.size (fun k e=>ZnH h.pw.own e)
 have hr:=h.rl
 refine⟨⟨⟨hlow.setCell (Nat.le_refl _) _,?_,?_⟩,heap_setCell_same u' _ 0 _ _ ov' f0,(Below.heap_setCell _ _ _ _ (by simp)).trans f1,ck.keep hg2 (fun e=>by have:=Option.some.inj e;omega),h.rl,(Zqj h.ln h.pw.own (by decide) hg).kept hg2 (.inr (ZnB (Zqj h.ln h.pw.own (by decide) hg) f0 (by decide)))⟩,by rw[Lib.cell_of_heap f0];rfl,Lib.frozen_of_heap f0 0⟩
 ·have e1:pxcells (F++[f])=pxcells F++pxC f:=by simp[pxcells]
  rw[List.length_append,e1]
  exact ho.kept hg2 (.inr (ZnB ho f0 (by decide)))
 ·intro g hgm
  have hP:Pown w.heap.size u' g:=by
   rcases List.mem_append.1 hgm with hm | hm
   ·exact hin g (h.pw.ins g hm)
   ·rw[List.mem_singleton.1 hm];exact hin f hy
  exact hP.box f0 (by decide) (by decide) hg2
end
theorem Znp (w:World) (f:Pfd):Holds (w.alloc (pxO f)) (.slice (some ⟨w.heap.size,0,none⟩) 1 1) 1 (pxC f):=by
 refine .inr ⟨⟨w.heap.size,0,none⟩,1,rfl,Nat.le_refl _,?_⟩
 intro j u hj
 have hb:=heap_alloc_new w (pxO f)
 match j,hj with
 | 0,hj=>rw[show ((⟨w.heap.size,0,none⟩:Addr).add 0)=⟨w.heap.size,0,none⟩ from rfl,Lib.cell_of_heap hb];exact hj
 | 1,hj=>rw[show ((⟨w.heap.size,0,none⟩:Addr).add 1)=⟨w.heap.size,1,none⟩ from rfl,Lib.cell_of_heap hb];exact hj
 | 2,hj=>rw[show ((⟨w.heap.size,0,none⟩:Addr).add 2)=⟨w.heap.size,2,none⟩ from rfl,Lib.cell_of_heap hb];exact hj
 | n+3,hj=>simp[pxC] at hj
theorem Zob {k p:Nat} {L r:List (List UInt8)} {x:Pth} {p1:Nat} (h:patP k p (L.drop p)=.ok (x,p1,r)):k<64:=by
 unfold patP at h
 cases hn:namP [42,42,42,32] p (L.drop p) with
 | error e=>rw[hn] at h;cases h
 | ok z =>
  rw[hn] at h
  dsimp only at h
  split at h
  ·cases h
  ·omega
def thenPs (l:List Pth) (X:Except (Nat × Int) (List Pth)):Except (Nat × Int) (List Pth) :=
 match X with
 | .error e=>.error e
 | .ok m=>.ok (l++m)
def PrQ (w:World) (X:Except (Nat × Int) (List Pth)) (e:Ending) (w':World):Prop :=
 match X with
 | .error (a,z)=>∃ g,e=.returned (.tuple #[.slice none 0 0,.iface 86 (.pointer (some ⟨g,0,none⟩))])∧w'.heap[g]?=some (fltO (a:Int) z)∧Below w.heap.size w w'
 | .ok l=>∃ v' F,e=.returned (.tuple #[v',.nilIface])∧Pw w v' F w'∧F.map (·.x)=l
end

section
open Go.RowKit
open Ln
theorem ZeK (f:Nat):∀ {k p:Nat} {L r:List (List UInt8)} {hs:List Hk} {p1:Nat},k≤4096→cxHs f k p (L.drop p)=.ok (hs,p1,r)→r=L.drop p1∧p<p1∧p1≤L.length:=by
 induction f with
 | zero =>
  intro k p L r hs p1 _ h
  simp only[cxHs] at h
  cases h
 | succ f ih =>
  intro k p L r hs p1 hk h
  simp only[cxHs] at h
  cases hh:cxH k p (L.drop p) with
  | error e=>rw[hh] at h;cases h
  | ok z =>
   obtain⟨x,p2,r2⟩:=z
   obtain⟨rfl,b2,b3,b4⟩:=ZeJ hk hh
   rw[hh] at h
   dsimp only at h
   split at h
   ·cases h2:cxHs f (k+1) p2 (L.drop p2) with
    | error e=>rw[h2] at h;cases h
    | ok z =>
     obtain⟨l,p3,r3⟩:=z
     rw[h2] at h
     injection h with h
     injection h with e1 e2
     injection e2 with e2 e3
     subst e2 e3
     obtain⟨c1,c2,c3⟩:=ih (by omega) h2
     exact⟨c1,by omega,c3⟩
   ·injection h with h
    injection h with e1 e2
    injection e2 with e2 e3
    subst e2 e3
    exact⟨rfl,b2,b3⟩
theorem Zod {k p:Nat} {L r:List (List UInt8)} {x:Pth} {p1:Nat} (h:patP k p (L.drop p)=.ok (x,p1,r)):r=L.drop p1∧p<p1∧p1≤L.length∧k<64:=by
 have hk:=Zob h
 unfold patP at h
 cases hn:namP [42,42,42,32] p (L.drop p) with
 | error e=>rw[hn] at h;cases h
 | ok z =>
  obtain⟨n1,r1⟩:=z
  obtain⟨rfl,b1⟩:=Zma hn
  rw[hn] at h
  dsimp only at h
  rw[if_neg (by omega)] at h
  cases hn2:namP [45,45,45,32] (p+1) (L.drop (p+1)) with
  | error e=>rw[hn2] at h;cases h
  | ok z =>
   obtain⟨n2,r2⟩:=z
   obtain⟨rfl,b2⟩:=Zma hn2
   rw[hn2] at h
   dsimp only at h
   cases hh:cxHs ((L.drop (p+1+1)).length+1) 0 (p+2) (L.drop (p+1+1)) with
   | error e=>rw[hh] at h;cases h
   | ok z =>
    obtain⟨hs,p3,r3⟩:=z
    rw[hh] at h
    injection h with h
    injection h with e1 e2
    injection e2 with e2 e3
    subst e2 e3
    obtain⟨c1,c2,c3⟩:=ZeK _ (L:=L) (p:=p+2) (by omega) hh
    exact⟨c1,by omega,c3,hk⟩
theorem Zlk (l:List (List UInt8)):∀ s∈l,s.length≤l.flatten.length:=by
 induction l with
 | nil=>intro s hs;cases hs
 | cons a l ih =>
  intro s hs
  rw[List.flatten_cons,List.length_append]
  rcases List.mem_cons.1 hs with rfl | h
  ·omega
  ·have:=ih s h
   omega
theorem Zsk {t:List UInt8} {M:Nat} (h:t.length≤M):∀ s∈Ln.splitL t,s.length≤M:=by
 intro s hs
 have h1:=congrArg List.length (Ln.split_join t)
 have h2:=Zlk _ s hs
 omega
theorem ZkC {u:World} {a:Addr} {o:Option Addr} {n c:Nat} (h:u.cell? a=some (.slice o n c)) {op:Oper} (x:Operand) (ho:op.op=.load 48 x) {ev:Operand→Value} (hx:ev x=.pointer (some a)) :
  (execOp ev op).run Tryz.prog u=.ok (.value (.slice o n c)) u:=by
 simp only[execOp,ho,hx]
 go_simp
theorem ZfK {u:World} {a:Addr} {v0:Value} (hc:u.cell? a=some v0) (hf:u.frozen? a=false) {o:Option Addr} {n c:Nat} {op:Oper} (x y:Operand) (ho:op.op=.store 48 x y) {ev:Operand→Value} (hx:ev x=.pointer (some a)) (hy:ev y=.slice o n c) :
  (execOp ev op).run Tryz.prog u=.ok .skip (u.setCell a (.slice o n c)):=by
 simp only[execOp,ho,hx,hy]
 go_simp
def PnP (w:World) (X:Except (Nat × Int) (List Pth)) (c:List PanicEntry) (u:World):Prop :=
 ∃ (g a:Nat) (z:Int) (v0:Value),c=[{ v:=.iface 86 (.pointer (some ⟨g,0,none⟩)),recovered:=false }]∧u.heap[g]?=some (fltO (a:Int) z)∧X=.error (a,z)∧Below w.heap.size w u∧u.heap[w.heap.size]?=some (.cells #[v0] 48)∧u.heap[w.heap.size+1]?=some (.cells #[.nilIface] 36)
theorem ZoK {w:World} {X:Except (Nat × Int) (List Pth)}:∀ c (a:Act) u,PnP w X c u→a.tmps.getD 2 undef=.pointer (some ⟨w.heap.size,0,none⟩)→a.tmps.getD 3 undef=.pointer (some ⟨w.heap.size+1,0,none⟩)→a.defers=[{ target:=.fn (.func 50) #[.pointer (some ⟨w.heap.size,0,none⟩),.pointer (some ⟨w.heap.size+1,0,none⟩)],args:=#[] }]→bodyPostD Tryz.prog Tryz.f20 (fun e w'=>PrQ w X e w') (.panic c) a u:=by
 rintro c a u ⟨g,pa,z,v0,rfl,hg,rfl,hlow,f0,f1⟩ h2 h3 hd
 show Leaves Tryz.prog Tryz.f20 a.tmps (fun e w'=>PrQ w (.error (pa,z)) e w') a.defers _ u
 rw[hd]
 have g0:g≠w.heap.size:=(by rintro rfl;rw[f0] at hg;unfold fltO at hg;simp at hg)
 have g1:g≠w.heap.size+1:=(by rintro rfl;rw[f1] at hg;unfold fltO at hg;simp at hg)
 refine leaves_cons (f:=50) (args:=#[.pointer (some ⟨w.heap.size,0,none⟩),.pointer (some ⟨w.heap.size+1,0,none⟩)]) (by simp) (by simp[go_sem]) ?_
 refine (Zcd w.heap.size (w.heap.size+1) g v0 .nilIface [] u (by omega) (by rw[Lib.cell_of_heap f0];rfl) (Lib.frozen_of_heap f0 0) (by rw[Lib.cell_of_heap f1];rfl) (Lib.frozen_of_heap f1 0)).mono ?_
 rintro e u' w'' ⟨rfl,rfl,rfl⟩
 have s0:=heap_setCell_same u w.heap.size 0 _ _ (.slice none 0 0) f0
 have s1:(u.setCell ⟨w.heap.size,0,none⟩ (.slice none 0 0)).heap[w.heap.size+1]?=some (.cells #[.nilIface] 36):=(Below.heap_setCell _ _ _ _ (by simp)).trans f1
 have s2:=heap_setCell_same _ (w.heap.size+1) 0 _ _ (.iface 86 (.pointer (some ⟨g,0,none⟩))) s1
 have s3:((u.setCell ⟨w.heap.size,0,none⟩ (.slice none 0 0)).setCell ⟨w.heap.size+1,0,none⟩ (.iface 86 (.pointer (some ⟨g,0,none⟩)))).heap[w.heap.size]?=some (.cells #[.slice none 0 0] 48):=(Below.heap_setCell _ _ _ _ (by simp)).trans s0
 have s4:((u.setCell ⟨w.heap.size,0,none⟩ (.slice none 0 0)).setCell ⟨w.heap.size+1,0,none⟩ (.iface 86 (.pointer (some ⟨g,0,none⟩)))).heap[g]?=some (fltO (pa:Int) z):=((Below.heap_setCell _ _ _ _ (by simpa using g1)).trans (Below.heap_setCell _ _ _ _ (by simpa using g0))).trans hg
 have hl:Below w.heap.size w ((u.setCell ⟨w.heap.size,0,none⟩ (.slice none 0 0)).setCell ⟨w.heap.size+1,0,none⟩ (.iface 86 (.pointer (some ⟨g,0,none⟩)))).drew:=((hlow.setCell (Nat.le_refl _) _).setCell (by show w.heap.size≤w.heap.size+1;omega) _).drew
 generalize (u.setCell ⟨w.heap.size,0,none⟩ (.slice none 0 0)).setCell ⟨w.heap.size+1,0,none⟩ (.iface 86 (.pointer (some ⟨g,0,none⟩)))=W at *
 exact⟨_,Zpv a.tmps W.drew w.heap.size (w.heap.size+1) 0 0 none _ h2 h3 (by rw[Lib.cell_of_heap (w:=W.drew) s3];rfl) (by rw[Lib.cell_of_heap (w:=W.drew) s2];rfl),g,rfl,s4,hl⟩
theorem ZbQ (t:List UInt8) (w:World) (X:Except (Nat × Int) (List Pth)) (HX:Hid (cxT t=X)) (hl:t.length≤1099511627776) :
  Calls Tryz.prog 20 #[.string ⟨t.toArray⟩] w fun e w'=>PrQ w X e w':=by
 have hmf:∀ (fn:Fn) (first cap:Array Value) (w:World),(Instr.makeFunc fn first cap).run Tryz.prog w=.ok (.func fn first cap) w:=fun _ _ _ _=>rfl
 have HX2:=HX.out
 unfold cxT at HX2
 clear HX
 by_cases hlong:1048576<t.length
 ·rw[if_pos hlong] at HX2
  have hXe:=HX2.symm
  subst hXe
  clear HX2
  have hbig:(1048576:Int)<(t.length:Int):=by omega
  go_enter_defers Tryz.func20,Tryz.ntmps20
  have z1:(w.alloc (.cells #[.slice none 0 0] 48)).heap.size=w.heap.size+1:=by simp
  have z2:((w.alloc (.cells #[.slice none 0 0] 48)).alloc (.cells #[.iface 86 (.pointer (some ⟨w.heap.size+1+1,0,none⟩))] 36)).heap.size=w.heap.size+1+1:=by simp
  have a1:=heap_alloc_new w (.cells #[.slice none 0 0] 48)
  have a2:=heap_alloc_new (w.alloc (.cells #[.slice none 0 0] 48)) (.cells #[.iface 86 (.pointer (some ⟨w.heap.size+1+1,0,none⟩))] 36)
  have a3:=heap_alloc_new ((w.alloc (.cells #[.slice none 0 0] 48)).alloc (.cells #[.iface 86 (.pointer (some ⟨w.heap.size+1+1,0,none⟩))] 36)) (fltO 0 9)
  rw[z1] at a2
  rw[z2] at a3
  have b1:=(Lib.alloc_old _ (fltO 0 9) _ (by rw[z2];omega)).trans ((Lib.alloc_old _ (.cells #[.iface 86 (.pointer (some ⟨w.heap.size+1+1,0,none⟩))] 36) _ (by rw[z1];omega)).trans a1)
  have b2:=(Lib.alloc_old _ (fltO 0 9) _ (by rw[z2];omega)).trans a2
  have hlow:Below w.heap.size w (((w.alloc (.cells #[.slice none 0 0] 48)).alloc (.cells #[.iface 86 (.pointer (some ⟨w.heap.size+1+1,0,none⟩))] 36)).alloc (fltO 0 9)):=(((Below.refl _ w).alloc (Nat.le_refl _) _).alloc (by rw[z1];omega) _).alloc (by rw[z2];omega) _
  have HA:Hid ((((w.alloc (.cells #[.slice none 0 0] 48)).alloc (.cells #[.iface 86 (.pointer (some ⟨w.heap.size+1+1,0,none⟩))] 36)).alloc (fltO 0 9)).cell? ⟨w.heap.size,0,none⟩=some (.slice none 0 0)∧(((w.alloc (.cells #[.slice none 0 0] 48)).alloc (.cells #[.iface 86 (.pointer (some ⟨w.heap.size+1+1,0,none⟩))] 36)).alloc (fltO 0 9)).cell? ⟨w.heap.size+1,0,none⟩=some (.iface 86 (.pointer (some ⟨w.heap.size+1+1,0,none⟩)))):=⟨by rw[Lib.cell_of_heap b1];rfl,by rw[Lib.cell_of_heap b2];rfl⟩
  have HB:Hid ((((w.alloc (.cells #[.slice none 0 0] 48)).alloc (.cells #[.iface 86 (.pointer (some ⟨w.heap.size+1+1,0,none⟩))] 36)).alloc (fltO 0 9)).heap[w.heap.size+1+1]?=some (fltO 0 9)):=a3
  clear a1 a2 a3 b1 b2 z1 z2
  go_wp2
  exact⟨_,Zpv _ _ w.heap.size (w.heap.size+1) 0 0 none (.iface 86 (.pointer (some ⟨w.heap.size+1+1,0,none⟩))) rfl rfl HA.out.1 HA.out.2,w.heap.size+1+1,rfl,HB.out,hlow⟩
 ·rw[if_neg hlong] at HX2
  obtain⟨L,hL⟩:∃ L,splitL t=L:=⟨_,rfl⟩
  rw[hL] at HX2
  have hshort:¬ (1048576:Int)<(t.length:Int):=by omega
  obtain⟨Pn,hPnd⟩:∃ Pn,PnP w X=Pn:=⟨_,rfl⟩
  have HPn:Hid (∀ c (a:Act) u,Pn c u→a.tmps.getD 2 undef=.pointer (some ⟨w.heap.size,0,none⟩)→a.tmps.getD 3 undef=.pointer (some ⟨w.heap.size+1,0,none⟩)→a.defers=[{ target:=.fn (.func 50) #[.pointer (some ⟨w.heap.size,0,none⟩),.pointer (some ⟨w.heap.size+1,0,none⟩)],args:=#[] }]→bodyPostD Tryz.prog Tryz.f20 (fun e w'=>PrQ w X e w') (.panic c) a u):=(by rw[← hPnd];exact ZoK)
  have HPd:Hid (PnP w X=Pn):=hPnd
  clear hPnd
  have hs:=fun u=>ZlX t u hl
  rw[hL] at hs
  have HPl:Hid (Plain L):=(by rw[← hL];exact Zsg t)
  have HSl:Hid (∀ s∈L,s.length≤1099511627776):=(by
   intro s hs
   rw[← hL] at hs
   have:=Zsk (M:=1048576) (t:=t) (by omega) s hs
   omega)
  have hLl:L.length≤137438953472:=(by
   rw[← hL]
   have:=split_len t
   omega)
  clear hL
  go_enter_defers Tryz.func20,Tryz.ntmps20
  go_wp2_with fail
  refine (hs _).mono ?_
  rintro e w1 ⟨vL,rfl,hown,hB1⟩
  obtain⟨lo,lc,rfl⟩:=(holds_of hown).form
  obtain⟨wA,hwA⟩:∃ u,(w.alloc (.cells #[.slice none 0 0] 48)).alloc (.cells #[.nilIface] 36)=u:=⟨_,rfl⟩
  have a1:=heap_alloc_new w (.cells #[.slice none 0 0] 48)
  have a2:=heap_alloc_new (w.alloc (.cells #[.slice none 0 0] 48)) (.cells #[.nilIface] 36)
  have z1:(w.alloc (.cells #[.slice none 0 0] 48)).heap.size=w.heap.size+1:=by simp
  have z2:wA.heap.size=w.heap.size+1+1:=(by rw[← hwA];simp)
  rw[z1] at a2
  have a3:=(Lib.alloc_old (w.alloc (.cells #[.slice none 0 0] 48)) (.cells #[.nilIface] 36) w.heap.size (by rw[z1];omega)).trans a1
  rw[hwA] at a2 a3 hown hB1
  have b1:Below w.heap.size w wA:=(by rw[← hwA];exact ((Below.refl _ w).alloc (Nat.le_refl _) _).alloc (by rw[z1];omega) _)
  have hR0:RdP w w1.heap.size L (.slice lo L.length lc) (.slice none 0 0) [] 0 (w1.alloc (.cells #[.slice lo L.length lc,.int .i64 0] 105)):=(by
   have hsz:=hB1.size
   have hB2:Below w1.heap.size w1 (w1.alloc (.cells #[.slice lo L.length lc,.int .i64 0] 105)):=(Below.refl _ w1).alloc (Nat.le_refl _) _
   refine⟨⟨(b1.trans (hB1.mono (by omega))).trans (hB2.mono (by omega)),Zii _ _ _ _,fun f hf=>(by cases hf)⟩,?_,?_,heap_alloc_new _ _,by omega,ZnI (Znz hown (by omega)) hB2⟩
   ·exact (hB2.block _ (by omega)).trans ((hB1.block _ (by omega)).trans a3)
   ·exact (hB2.block _ (by omega)).trans ((hB1.block _ (by omega)).trans a2))
  have HX0:Hid (thenPs (([]:List Pfd).map (·.x)) (cxPs L.length ([]:List Pfd).length 0 (L.drop 0))=X):=(by
   show _=_
   rw[← HX2]
   simp only[List.map_nil,List.drop_zero,List.length_nil]
   cases cxPs L.length 0 0 L<;>rfl)
  clear HX2 hs hown hB1 hwA a1 a2 a3 b1 z1 z2
  go_wp2
  generalize w1.alloc (.cells #[.slice lo L.length lc,.int .i64 0] 105)=w2 at hR0 ⊢
  generalize w1.heap.size=R at hR0 ⊢
  go_loopw [] (fun wr=>∃ (ov:Value) (F:List Pfd) (p f:Nat),(∃ o c,ov=.slice o F.length c)∧RdP w R L (.slice lo L.length lc) ov F p wr∧p≤L.length∧F.length≤64∧Hid ((L.drop p).length≤f)∧Hid (thenPs (F.map (·.x)) (cxPs f F.length p (L.drop p))=X)) (fun wr=>L.length-ckN wr R)
  case atStart=>exact⟨_,[],0,L.length,⟨none,0,rfl⟩,hR0,Nat.zero_le _,Nat.zero_le _,(by show _≤_;simp),HX0⟩
  case round =>
  clear hR0 HX0
  obtain⟨ov,F,p,f,⟨o,c,rfl⟩,hR,hp,hFl,HF,HI⟩:=hrel
  obtain⟨d0,d1⟩:=hR.ck.cells
  have HK:Hid (ckN wr R=p):=Zdf hR.ck
  by_cases hlt:p<L.length
  ·have hf:=HF.out
   have hfl:0<f:=(by rw[List.length_drop] at hf;omega)
   obtain⟨f',rfl⟩:∃ f',f=f'+1:=⟨f-1,by omega⟩
   have hne:L.drop p≠[]:=(by intro h;have:=congrArg List.length h;rw[List.length_drop] at this;simp at this;omega)
   have HIe:Hid (∀ e,patP F.length p (L.drop p)=.error e→X=.error e):=(by
    intro e he
    rw[← HI.out,ZeM,if_neg hne,he]
    rfl)
   have HN:Hid (∀ x p2 r,patP F.length p (L.drop p)=.ok (x,p2,r)→p2≤L.length∧p<p2∧Hid ((L.drop p2).length≤f')∧F.length<64∧r=L.drop p2):=(by
    intro x p2 r hk
    obtain⟨b1,b2,b3,b4⟩:=Zod hk
    rw[List.length_drop] at hf
    exact⟨b3,b2,(by show _≤_;rw[List.length_drop];omega),b4,b1⟩)
   have HN2:Hid (∀ x p2 r v H,patP F.length p (L.drop p)=.ok (x,p2,r)→Hid (thenPs ((F++[(⟨x,v,H⟩:Pfd)]).map (·.x)) (cxPs f' (F++[(⟨x,v,H⟩:Pfd)]).length p2 (L.drop p2))=X)):=(by
    intro x p2 r v H hk
    show _=_
    have hr:=(HN.out x p2 r hk).2.2.2.2
    rw[← HI.out,ZeM,if_neg hne,hk]
    dsimp only
    rw[hr,List.length_append,List.map_append]
    show thenPs (F.map (·.x)++[x]) (cxPs f' (F.length+1) p2 (L.drop p2))=_
    cases cxPs f' (F.length+1) p2 (L.drop p2) with
    | error e=>rfl
    | ok m=>simp[thenPs])
   have hRd:=hR.keep (Below.drew (Below.refl _ _))
   obtain⟨Rr,hRr⟩:∃ Rr:Value→World→Prop,(fun v u=>∃ x p2 r vo vc H,patP F.length p (L.drop p)=.ok (x,p2,r)∧v=.agg #[.string ⟨x.old.toArray⟩,.string ⟨x.new.toArray⟩,.slice vo H.length vc]∧RdP w R L (.slice lo L.length lc) (.slice o F.length c) F p2 u∧Pown w.heap.size u ⟨x,.slice vo H.length vc,H⟩)=Rr:=⟨_,rfl⟩
   have hcall:Calls Tryz.prog 51 (#[.pointer (some ⟨R,0,none⟩),.int .i64 (F.length:Int)]++#[]) wr.drew fun e w'=>(∃ v,e=.returned v∧True∧Rr v w')∨(∃ c,e=.panicked c∧Pn c w'):=(by
    obtain⟨Y,hY⟩:∃ Y,patP F.length p (L.drop p)=Y:=⟨_,rfl⟩
    have hsz:=hRd.pw.low.size
    have hrl:=hRd.rl
    refine (ZdV hFl wr.drew hRd.ck (fun u hu=>hRd.lines hu) HPl hp hLl HSl Y hY).mono ?_
    intro e w' hq
    cases Y with
    | error z =>
     obtain⟨a,z⟩:=z
     obtain⟨⟨g,rfl,hg⟩,hgr⟩:=hq
     right
     refine⟨_,rfl,?_⟩
     rw[← HPd.out]
     have hk:∀ k x,k≠R→wr.drew.heap[k]?=some x→w'.heap[k]?=some x:=fun k _ hk hx=>(hgr.block k (Array.getElem?_eq_some_iff.1 hx).1 (fun e=>hk (Option.some.inj e))).trans hx
     exact⟨g,a,z,_,rfl,hg,HIe.out _ hY,hRd.pw.low.grown hgr hsz (fun k e=>by cases e;omega),hk _ _ (by omega) hRd.f0,hk _ _ (by omega) hRd.f1⟩
    | ok z =>
     obtain⟨x,p2,r⟩:=z
     obtain⟨hv,H,rfl,hxe,hown,hins,q,hgr⟩:=hq
     obtain⟨vo,vc,rfl⟩:=(holds_of hown).form
     left
     rw[← hRr]
     exact⟨_,rfl,trivial,x,p2,r,vo,vc,H,hY,rfl,hRd.call hgr q,⟨hxe,Znz hown hsz,fun y hy=>Znz (hins y hy) hsz⟩⟩)
   have i1:(p:Int)<(L.length:Int):=by omega
   have HRr:Hid (_=Rr):=hRr
   clear hRr HI
   go_upto_region 6 with fail
   refine Zvb Pn (.pointer (some ⟨w.heap.size,0,none⟩)) (.pointer (some ⟨w.heap.size+1,0,none⟩)) [{ target:=.fn (.func 50) #[.pointer (some ⟨w.heap.size,0,none⟩),.pointer (some ⟨w.heap.size+1,0,none⟩)],args:=#[] }] (fun c a u h1 h2 h3 h4=>HPn.out c a u h1 h2 h3 h4) ?_
   refine wp_region_held_drew (S:=fun _=>True) (by kernel_rfl) trivial (fun _=>?_)
   generalize wr.drew=wd at hRd hcall ⊢
   have c0d:=hRd.c0
   refine ZgT 0 22 _ 1 23 _ rfl (by kernel_rfl) rfl (by kernel_rfl) (by kernel_rfl) (by kernel_rfl) (by kernel_rfl) (.slice o F.length c) wd (ZkC c0d (.tmp 2) (by kernel_rfl) (by kernel_rfl)) trivial (.slice o F.length c) wd (ZkC c0d (.tmp 2) (by kernel_rfl) (by kernel_rfl)) trivial ?_ ?_
   ·simp only[Act.put,Y_a,Y_b,Y_c]
    refine Y_v 1 23 _ rfl (.slice o F.length c) wd (ZkC c0d (.tmp 2) (by kernel_rfl) (by kernel_rfl)) trivial ?_
    simp only[Act.put,Y_a,Y_b,Y_c]
    refine ZgS 2 24 _ (.int .i64 (F.length:Int)) rfl (by kernel_rfl) (by kernel_rfl) (by kernel_rfl) (by kernel_rfl) (ZnW (by decide) (by decide)) (Or.inl ⟨by kernel_rfl,fun u hu=>by kernel_rfl⟩) trivial ?_
    simp only[Act.put,Y_a,Y_b,Y_c]
    refine ZgQ 3 25 _ rfl (by kernel_rfl) (by kernel_rfl) (by kernel_rfl) 51 (.func 51) #[.tmp 4,.tmp 24] #[105,3] (by kernel_rfl) #[] (by kernel_rfl) #[.pointer (some ⟨R,0,none⟩),.int .i64 (F.length:Int)] (by kernel_rfl) (enters_of Tryz.func51 (by kernel_rfl) rfl) Rr Pn (fun c u h=>⟨h,rfl,rfl,rfl⟩) ?_ ?_
    ·exact hcall
    intro v0 u1 _ hq
    rw[← HRr.out] at hq
    obtain⟨x,p2,r,vo,vc,H,hk2,rfl,hR1,hown1⟩:=hq
    have c1u:=hR1.c0
    have hRA:=hR1.keep ((Below.refl _ u1).alloc (Nat.le_refl _) (pxO ⟨x,.slice vo H.length vc,H⟩))
    have c2u:=hRA.c0
    simp only[Act.put,Y_a,Y_b,Y_c]
    refine Y_v 4 26 _ rfl (.slice (some ⟨u1.heap.size,0,none⟩) 1 1) (u1.alloc (pxO ⟨x,.slice vo H.length vc,H⟩)) (by kernel_rfl) trivial ?_
    simp only[Act.put,Y_a,Y_b,Y_c]
    have hlt2:=HN.out x p2 r hk2
    have hownA:=hown1.keep ((Below.refl _ u1).alloc (Nat.le_refl _) (pxO ⟨x,.slice vo H.length vc,H⟩))
    obtain⟨v3,u3,hr3,hown3,hg3,_⟩:=Zqx (u1.alloc (pxO ⟨x,.slice vo H.length vc,H⟩)) 48 55 48 (.agg #[.string ⟨#[]⟩,.string ⟨#[]⟩,.slice none 0 0]) 3 56 Tryz.underlying48 infoPx rfl (by decide) (by decide) w.heap.size _ _ _ hRA.pw.own _ 1 (pxC ⟨x,.slice vo H.length vc,H⟩) (Znp u1 ⟨x,.slice vo H.length vc,H⟩) rfl (fun u hu=>by simp[pxC] at hu;rcases hu with rfl | rfl | rfl<;>rfl) (by omega) hRA.pw.low.size
    have hR3:=hRA.more hownA hg3 hown3
    obtain⟨o3,k3,rfl⟩:=(holds_of hown3).form
    refine Y_v 5 27 _ rfl (.slice o3 (F.length+1) k3) u3 (Zfz (.tmp 22) (.tmp 26) (by kernel_rfl) (by kernel_rfl) (by kernel_rfl) hr3) trivial ?_
    simp only[Act.put,Y_a,Y_b,Y_c]
    refine Y_s 6 _ rfl (u3.setCell ⟨w.heap.size,0,none⟩ (.slice o3 (F.length+1) k3)) (ZfK hR3.2.1 hR3.2.2 (.tmp 2) (.tmp 27) (by kernel_rfl) (by kernel_rfl) (by kernel_rfl)) trivial ?_
    refine wpAnyH_done (by kernel_rfl) ?_ _
    refine PanC.normal ?_
    have hR4:=hR3.1
    go_wp2
    refine⟨⟨_,F++[⟨x,.slice vo H.length vc,H⟩],p2,f',⟨o3,k3,by rw[List.length_append];rfl⟩,hR4,hlt2.1,by rw[List.length_append];simp;omega,hlt2.2.2.1,HN2.out x p2 r _ _ hk2⟩,?_⟩
    rw[Zdf hR4.ck,HK.out]
    omega
   ·simp only[Act.put,Y_a,Y_b,Y_c]
    refine ZgS 2 24 _ (.int .i64 (F.length:Int)) rfl (by kernel_rfl) (by kernel_rfl) (by kernel_rfl) (by kernel_rfl) (ZnW (by decide) (by decide)) (Or.inl ⟨by kernel_rfl,fun u hu=>by kernel_rfl⟩) trivial ?_
    simp only[Act.put,Y_a,Y_b,Y_c]
    refine ZgW 0 22 _ 3 25 _ rfl (by kernel_rfl) rfl (by kernel_rfl) (by kernel_rfl) (by kernel_rfl) (by kernel_rfl) (.slice o F.length c) wd (ZkC c0d (.tmp 2) (by kernel_rfl) (by kernel_rfl)) trivial 51 (.func 51) #[.tmp 4,.tmp 24] #[105,3] (by kernel_rfl) #[] (by kernel_rfl) #[.pointer (some ⟨R,0,none⟩),.int .i64 (F.length:Int)] (by kernel_rfl) (enters_of Tryz.func51 (by kernel_rfl) rfl) Rr Pn (fun c u h=>⟨h,rfl,rfl,rfl⟩) ?_ ?_ ?_
    ·exact hcall
    ·simp only[Act.put,Y_a,Y_b,Y_c]
     refine ZgQ 3 25 _ rfl (by kernel_rfl) (by kernel_rfl) (by kernel_rfl) 51 (.func 51) #[.tmp 4,.tmp 24] #[105,3] (by kernel_rfl) #[] (by kernel_rfl) #[.pointer (some ⟨R,0,none⟩),.int .i64 (F.length:Int)] (by kernel_rfl) (enters_of Tryz.func51 (by kernel_rfl) rfl) Rr Pn (fun c u h=>⟨h,rfl,rfl,rfl⟩) ?_ ?_
     ·exact hcall
     intro v0 u1 _ hq
     rw[← HRr.out] at hq
     obtain⟨x,p2,r,vo,vc,H,hk2,rfl,hR1,hown1⟩:=hq
     have c1u:=hR1.c0
     have hRA:=hR1.keep ((Below.refl _ u1).alloc (Nat.le_refl _) (pxO ⟨x,.slice vo H.length vc,H⟩))
     have c2u:=hRA.c0
     simp only[Act.put,Y_a,Y_b,Y_c]
     refine Y_v 4 26 _ rfl (.slice (some ⟨u1.heap.size,0,none⟩) 1 1) (u1.alloc (pxO ⟨x,.slice vo H.length vc,H⟩)) (by kernel_rfl) trivial ?_
     simp only[Act.put,Y_a,Y_b,Y_c]
     have hlt2:=HN.out x p2 r hk2
     have hownA:=hown1.keep ((Below.refl _ u1).alloc (Nat.le_refl _) (pxO ⟨x,.slice vo H.length vc,H⟩))
     obtain⟨v3,u3,hr3,hown3,hg3,_⟩:=Zqx (u1.alloc (pxO ⟨x,.slice vo H.length vc,H⟩)) 48 55 48 (.agg #[.string ⟨#[]⟩,.string ⟨#[]⟩,.slice none 0 0]) 3 56 Tryz.underlying48 infoPx rfl (by decide) (by decide) w.heap.size _ _ _ hRA.pw.own _ 1 (pxC ⟨x,.slice vo H.length vc,H⟩) (Znp u1 ⟨x,.slice vo H.length vc,H⟩) rfl (fun u hu=>by simp[pxC] at hu;rcases hu with rfl | rfl | rfl<;>rfl) (by omega) hRA.pw.low.size
     have hR3:=hRA.more hownA hg3 hown3
     obtain⟨o3,k3,rfl⟩:=(holds_of hown3).form
     refine Y_v 5 27 _ rfl (.slice o3 (F.length+1) k3) u3 (Zfz (.tmp 22) (.tmp 26) (by kernel_rfl) (by kernel_rfl) (by kernel_rfl) hr3) trivial ?_
     simp only[Act.put,Y_a,Y_b,Y_c]
     refine Y_s 6 _ rfl (u3.setCell ⟨w.heap.size,0,none⟩ (.slice o3 (F.length+1) k3)) (ZfK hR3.2.1 hR3.2.2 (.tmp 2) (.tmp 27) (by kernel_rfl) (by kernel_rfl) (by kernel_rfl)) trivial ?_
     refine wpAnyH_done (by kernel_rfl) ?_ _
     refine PanC.normal ?_
     have hR4:=hR3.1
     go_wp2
     refine⟨⟨_,F++[⟨x,.slice vo H.length vc,H⟩],p2,f',⟨o3,k3,by rw[List.length_append];rfl⟩,hR4,hlt2.1,by rw[List.length_append];simp;omega,hlt2.2.2.1,HN2.out x p2 r _ _ hk2⟩,?_⟩
     rw[Zdf hR4.ck,HK.out]
     omega
    ·intro v0 u1 _ hq
     rw[← HRr.out] at hq
     obtain⟨x,p2,r,vo,vc,H,hk2,rfl,hR1,hown1⟩:=hq
     have c1u:=hR1.c0
     have hRA:=hR1.keep ((Below.refl _ u1).alloc (Nat.le_refl _) (pxO ⟨x,.slice vo H.length vc,H⟩))
     have c2u:=hRA.c0
     simp only[Act.put,Y_a,Y_b,Y_c]
     refine ZgT 0 22 _ 4 26 _ rfl (by kernel_rfl) rfl (by kernel_rfl) (by kernel_rfl) (by kernel_rfl) (by kernel_rfl) (.slice o F.length c) u1 (ZkC c1u (.tmp 2) (by kernel_rfl) (by kernel_rfl)) trivial (.slice (some ⟨u1.heap.size,0,none⟩) 1 1) (u1.alloc (pxO ⟨x,.slice vo H.length vc,H⟩)) (by kernel_rfl) trivial ?_ ?_
     ·simp only[Act.put,Y_a,Y_b,Y_c]
      refine Y_v 4 26 _ rfl (.slice (some ⟨u1.heap.size,0,none⟩) 1 1) (u1.alloc (pxO ⟨x,.slice vo H.length vc,H⟩)) (by kernel_rfl) trivial ?_
      simp only[Act.put,Y_a,Y_b,Y_c]
      have hlt2:=HN.out x p2 r hk2
      have hownA:=hown1.keep ((Below.refl _ u1).alloc (Nat.le_refl _) (pxO ⟨x,.slice vo H.length vc,H⟩))
      obtain⟨v3,u3,hr3,hown3,hg3,_⟩:=Zqx (u1.alloc (pxO ⟨x,.slice vo H.length vc,H⟩)) 48 55 48 (.agg #[.string ⟨#[]⟩,.string ⟨#[]⟩,.slice none 0 0]) 3 56 Tryz.underlying48 infoPx rfl (by decide) (by decide) w.heap.size _ _ _ hRA.pw.own _ 1 (pxC ⟨x,.slice vo H.length vc,H⟩) (Znp u1 ⟨x,.slice vo H.length vc,H⟩) rfl (fun u hu=>by simp[pxC] at hu;rcases hu with rfl | rfl | rfl<;>rfl) (by omega) hRA.pw.low.size
      have hR3:=hRA.more hownA hg3 hown3
      obtain⟨o3,k3,rfl⟩:=(holds_of hown3).form
      refine Y_v 5 27 _ rfl (.slice o3 (F.length+1) k3) u3 (Zfz (.tmp 22) (.tmp 26) (by kernel_rfl) (by kernel_rfl) (by kernel_rfl) hr3) trivial ?_
      simp only[Act.put,Y_a,Y_b,Y_c]
      refine Y_s 6 _ rfl (u3.setCell ⟨w.heap.size,0,none⟩ (.slice o3 (F.length+1) k3)) (ZfK hR3.2.1 hR3.2.2 (.tmp 2) (.tmp 27) (by kernel_rfl) (by kernel_rfl) (by kernel_rfl)) trivial ?_
      refine wpAnyH_done (by kernel_rfl) ?_ _
      refine PanC.normal ?_
      have hR4:=hR3.1
      go_wp2
      refine⟨⟨_,F++[⟨x,.slice vo H.length vc,H⟩],p2,f',⟨o3,k3,by rw[List.length_append];rfl⟩,hR4,hlt2.1,by rw[List.length_append];simp;omega,hlt2.2.2.1,HN2.out x p2 r _ _ hk2⟩,?_⟩
      rw[Zdf hR4.ck,HK.out]
      omega
     ·simp only[Act.put,Y_a,Y_b,Y_c]
      refine Y_v 0 22 _ rfl (.slice o F.length c) (u1.alloc (pxO ⟨x,.slice vo H.length vc,H⟩)) (ZkC c2u (.tmp 2) (by kernel_rfl) (by kernel_rfl)) trivial ?_
      simp only[Act.put,Y_a,Y_b,Y_c]
      have hlt2:=HN.out x p2 r hk2
      have hownA:=hown1.keep ((Below.refl _ u1).alloc (Nat.le_refl _) (pxO ⟨x,.slice vo H.length vc,H⟩))
      obtain⟨v3,u3,hr3,hown3,hg3,_⟩:=Zqx (u1.alloc (pxO ⟨x,.slice vo H.length vc,H⟩)) 48 55 48 (.agg #[.string ⟨#[]⟩,.string ⟨#[]⟩,.slice none 0 0]) 3 56 Tryz.underlying48 infoPx rfl (by decide) (by decide) w.heap.size _ _ _ hRA.pw.own _ 1 (pxC ⟨x,.slice vo H.length vc,H⟩) (Znp u1 ⟨x,.slice vo H.length vc,H⟩) rfl (fun u hu=>by simp[pxC] at hu;rcases hu with rfl | rfl | rfl<;>rfl) (by omega) hRA.pw.low.size
      have hR3:=hRA.more hownA hg3 hown3
      obtain⟨o3,k3,rfl⟩:=(holds_of hown3).form
      refine Y_v 5 27 _ rfl (.slice o3 (F.length+1) k3) u3 (Zfz (.tmp 22) (.tmp 26) (by kernel_rfl) (by kernel_rfl) (by kernel_rfl) hr3) trivial ?_
      simp only[Act.put,Y_a,Y_b,Y_c]
      refine Y_s 6 _ rfl (u3.setCell ⟨w.heap.size,0,none⟩ (.slice o3 (F.length+1) k3)) (ZfK hR3.2.1 hR3.2.2 (.tmp 2) (.tmp 27) (by kernel_rfl) (by kernel_rfl) (by kernel_rfl)) trivial ?_
      refine wpAnyH_done (by kernel_rfl) ?_ _
      refine PanC.normal ?_
      have hR4:=hR3.1
      go_wp2
      refine⟨⟨_,F++[⟨x,.slice vo H.length vc,H⟩],p2,f',⟨o3,k3,by rw[List.length_append];rfl⟩,hR4,hlt2.1,by rw[List.length_append];simp;omega,hlt2.2.2.1,HN2.out x p2 r _ _ hk2⟩,?_⟩
      rw[Zdf hR4.ck,HK.out]
      omega
  ·have hend:decide ((p:Int)<(L.length:Int))=false:=decide_eq_false (by omega)
   have hXv:X=.ok (F.map (·.x)):=(by
    rw[← HI.out,List.drop_eq_nil_of_le (by omega)]
    cases f with
    | zero=>simp[cxPs,thenPs]
    | succ f=>simp[cxPs,thenPs])
   have c0:=hR.c0
   have c1:wr.cell? ⟨w.heap.size+1,0,none⟩=some .nilIface:=by rw[Lib.cell_of_heap hR.f1];rfl
   have z0:=Lib.frozen_of_heap hR.f0 0
   have z1:=Lib.frozen_of_heap hR.f1 0
   have g0:=Zhd wr w.heap.size 0 (.slice o F.length c)
   have s0:=heap_setCell_same wr w.heap.size 0 _ _ (.slice o F.length c) hR.f0
   have h1:Pw w (.slice o F.length c) F (wr.setCell ⟨w.heap.size,0,none⟩ (.slice o F.length c)):=⟨hR.pw.low.setCell (Nat.le_refl _) _,hR.pw.own.kept g0 (.inr (ZnB hR.pw.own hR.f0 (by decide))),fun f hf=>(hR.pw.ins f hf).box hR.f0 (by decide) (by decide) g0⟩
   have t1:(wr.setCell ⟨w.heap.size,0,none⟩ (.slice o F.length c)).heap[w.heap.size+1]?=some (.cells #[.nilIface] 36):=(Below.heap_setCell _ _ _ _ (by simp)).trans hR.f1
   have g1:=Zhd (wr.setCell ⟨w.heap.size,0,none⟩ (.slice o F.length c)) (w.heap.size+1) 0 .nilIface
   have s1:=heap_setCell_same _ (w.heap.size+1) 0 _ _ .nilIface t1
   have s2:((wr.setCell ⟨w.heap.size,0,none⟩ (.slice o F.length c)).setCell ⟨w.heap.size+1,0,none⟩ .nilIface).heap[w.heap.size]?=_:=(Below.heap_setCell _ _ _ _ (by simp)).trans s0
   have h2:Pw w (.slice o F.length c) F ((wr.setCell ⟨w.heap.size,0,none⟩ (.slice o F.length c)).setCell ⟨w.heap.size+1,0,none⟩ .nilIface):=⟨h1.low.setCell (by show w.heap.size≤w.heap.size+1;omega) _,h1.own.kept g1 (.inr (ZnB h1.own t1 (by decide))),fun f hf=>(h1.ins f hf).box t1 (by decide) (by decide) g1⟩
   have c1':(wr.setCell ⟨w.heap.size,0,none⟩ (.slice o F.length c)).cell? ⟨w.heap.size+1,0,none⟩=some .nilIface:=by rw[Lib.cell_of_heap t1];rfl
   have z1':=Lib.frozen_of_heap t1 0
   have e0:((wr.setCell ⟨w.heap.size,0,none⟩ (.slice o F.length c)).setCell ⟨w.heap.size+1,0,none⟩ .nilIface).cell? ⟨w.heap.size,0,none⟩=some (.slice o F.length c):=by rw[Lib.cell_of_heap s2];rfl
   have e1:((wr.setCell ⟨w.heap.size,0,none⟩ (.slice o F.length c)).setCell ⟨w.heap.size+1,0,none⟩ .nilIface).cell? ⟨w.heap.size+1,0,none⟩=some .nilIface:=by rw[Lib.cell_of_heap s1];rfl
   subst hXv
   clear HI HPn HPd hR h1 g0 g1 s0 s1 s2 t1
   go_wp2
   refine leaves_cons (f:=50) (args:=#[.pointer (some ⟨w.heap.size,0,none⟩),.pointer (some ⟨w.heap.size+1,0,none⟩)]) (by simp) (by simp[go_sem]) ?_
   refine (Zcg _ _ _).mono ?_
   rintro e u' w'' ⟨rfl,rfl,rfl⟩
   exact⟨_,Zpv _ _ w.heap.size (w.heap.size+1) F.length c o .nilIface rfl rfl e0 e1,_,F,rfl,h2,rfl⟩
end

section
open Go.RowKit Go.Proofs.YtgiojkhmkeocfaaGreatDoor.Tx
theorem ZeI {u:World} {a:Addr} {z:Int} (h:u.cell? a=some (.int .u8 z)) {op:Oper} (x:Operand) (ho:op.op=.load 5 x) {ev:Operand→Value} (hx:ev x=.pointer (some a)) :
  (execOp ev op).run Tryz.prog u=.ok (.value (.int .u8 z)) u:=by
 simp only[execOp,ho,hx]
 go_simp
theorem ZeH {u:World} {a:Addr} {s:ByteArray} (h:u.cell? a=some (.string s)) {op:Oper} (x:Operand) (ho:op.op=.load 9 x) {ev:Operand→Value} (hx:ev x=.pointer (some a)) :
  (execOp ev op).run Tryz.prog u=.ok (.value (.string s)) u:=by
 simp only[execOp,ho,hx]
 go_simp
theorem ZeG {u:World} {b off n c i:Nat} (hi:i<n) {op:Oper} (x y:Operand) (ho:op.op=.indexAddr 75 x y) {ev:Operand→Value} (hx:ev x=.slice (some ⟨b,off,none⟩) n c) (hy:ev y=.int .i64 (i:Int)) :
  (execOp ev op).run Tryz.prog u=.ok (.value (.pointer (some ⟨b,off+i,none⟩))) u:=by
 have i1:0≤(i:Int):=by omega
 have i2:(i:Int)<(n:Int):=by omega
 simp only[execOp,ho,hx,hy]
 go_simp
theorem Ziu {w:World} {ao:Option Addr} {n c:Nat} {l:List Int} (h:Holds w (.slice ao n c) n (ucells l)) (hl:l.length=n) (h0:0<n):∃ b off,ao=some ⟨b,off,none⟩∧∀ k (hk:k<l.length),w.cell? ⟨b,off+k,none⟩=some (.int .u8 l[k]):=by
 rcases h with ⟨_,h1,_⟩ | ⟨ad,c',h,_,hc⟩
 ·omega
 ·cases h
  have h1:=hc 0 _ (List.getElem?_eq_getElem (by rw[Zth];omega))
  obtain⟨b,off,rfl⟩:=addr_of h1
  refine⟨b,off,rfl,fun k hk=>?_⟩
  have:=hc k (.int .u8 l[k]) (by simp[ucells,hk])
  rw[add_none] at this
  exact this
theorem ZrE (sg:Int) (l:List Mk) (sh:List Int) (k:Nat) (h:l.length=sh.length) (hk:k<l.length):sidZ sg (l.drop k) (sh.drop k)=(if l[k].sg=32∨l[k].sg=sg then lnL [UInt8.ofNat (sh[k]'(by omega)).toNat,32] l[k].tx else [])++sidZ sg (l.drop (k+1)) (sh.drop (k+1)):=by
 rw[List.drop_eq_getElem_cons hk,List.drop_eq_getElem_cons (show k<sh.length by omega)]
 rfl
theorem Zeg (B b:Nat) (v:Value) (sg:Int) (l:List Mk) (sh:List Int) (lv sv:Value) (acc Z:List UInt8) (w:World) (h:Pg B b v acc w) (hBw:B≤w.heap.size) (hll:l.length≤1099511627776) (HSl:Hid (l.length=sh.length)) (HSh:Hid (∀ x∈sh,0≤x∧x<256)) (HTx:Hid (∀ m∈l,m.tx.length≤1099511627776))
  (hlv:HMk w lv l) (HL:Hid (∀ v' u,Wr B b v v' w u→HMk u lv l)) (HS:Hid (∀ v' u,Wr B b v v' w u→Holds u sv sh.length (ucells sh)))
  (HZ:Hid (acc++(if hasM sg l=true then sidZ sg l sh else []).flatten=Z)) (hZ:Z.length≤70368744177664) :
  Calls Tryz.prog 113 #[.pointer (some ⟨b,0,none⟩),lv,sv,.int .u8 sg] w fun e w'=>e=.returned (.tuple #[])∧∃ v',Pg B b v' Z w'∧Wr B b v v' w w':=by
 obtain⟨lo,lc,rfl⟩:=HMk.form hlv
 obtain⟨so,sc,rfl⟩:∃ so sc,sv=.slice so sh.length sc:=(HS.out v w (Wr.refl _ _ _ _)).form
 cases hh:hasM sg l with
 | false =>
  have HE:Hid (acc=Z):=(by show _=_;have h:=HZ.out;rw[hh,if_neg (by decide)] at h;simpa using h)
  have hc:=Zcz sg l _ w hlv hll false hh
  clear HZ hh HL HS
  go_enter Tryz.func113,Tryz.ntmps113
  go_wp2_with fail
  refine hc.mono ?_
  rintro e w1 ⟨rfl,hB1⟩
  go_wp2
  first
   | go_end0
   | refine bodyPost_ret (results_none rfl _ _ _) rfl ?_
   | refine bodyPost_end (results_none rfl _ _ _) rfl ?_
  exact⟨rfl,v,by rw[← HE.out];exact h.low hB1,Wr.low hB1 hBw⟩
 | true =>
  have HZ0:Hid (acc++(sidZ sg (l.drop 0) (sh.drop 0)).flatten=Z):=(by have h:=HZ.out;rw[hh,if_pos rfl] at h;exact h)
  have hc:=Zcz sg l _ w hlv hll true hh
  clear HZ hh
  rw[← HSl.out] at HS
  rw[← HSl.out]
  go_enter Tryz.func113,Tryz.ntmps113
  go_wp2_with fail
  refine hc.mono ?_
  rintro e w1 ⟨rfl,hB1⟩
  have hP1:=h.low hB1
  have hW1:Wr B b v v w w1:=Wr.low hB1 hBw
  clear hc hB1 h
  go_wp2
  go_loopw [16] (fun i wr=>∃ (k:Nat) (v1:Value) (ac:List UInt8),k≤l.length∧i=.int .i64 k∧Pg B b v1 ac wr∧Wr B b v v1 w wr∧Hid (ac++(sidZ sg (l.drop k) (sh.drop k)).flatten=Z)) (fun i _=>l.length-(intOf i).toNat)
  case atStart=>exact⟨0,v,acc,Nat.zero_le _,by go_num,hP1,hW1,HZ0⟩
  case round =>
  clear HZ0 hP1 hW1
  obtain⟨k,v1,ac,hk,rfl,hP,hW,HI⟩:=hrel
  have hsz:=hW.size
  by_cases hlt:k<l.length
  ·obtain⟨bk,off,rfl,hbk,hcl⟩:=HMk.at (HL.out v1 wr hW) (by omega)
   obtain⟨sb,soff,rfl,hscl⟩:=Ziu (HS.out v1 wr hW) HSl.out.symm (by omega)
   obtain⟨c0,c1⟩:=hcl k hlt
   have s0:=hscl k (by have:=HSl.out;omega)
   have HI2:=HI.out
   rw[ZrE sg l sh k HSl.out hlt] at HI2
   have hx:=HSh.out (sh[k]'(by have:=HSl.out;omega)) (List.getElem_mem _)
   have htx:=HTx.out l[k] (List.getElem_mem _)
   obtain⟨m,hm⟩:∃ m,l[k]=m:=⟨_,rfl⟩
   obtain⟨x,hxx⟩:∃ x,sh[k]'(by have:=HSl.out;omega)=x:=⟨_,rfl⟩
   rw[hm] at c0 c1 HI2 htx
   rw[hxx] at s0 HI2 hx
   have HX:Hid (sh[k]'(by have:=HSl.out;omega)=x):=hxx
   clear hcl hscl HI hm hxx
   have i1:(0:Int)≤(k:Int):=by omega
   have i2:(k:Int)<(l.length:Int):=by omega
   obtain⟨q,hq⟩:∃ q:Bool,decide (m.sg=32∨m.sg=sg)=q:=⟨_,rfl⟩
   have HQ:Hid (decide (m.sg=32∨m.sg=sg)=q):=hq
   clear hq
   go_upto_region 4 with fail
   go_cut [29] from 17 to 38 (fun cv wz=>cv=.bool q∧wz=wr.alloc (.cells #[.int .u8 m.sg,.string ⟨m.tx.toArray⟩] 103))
   case first =>
    by_cases h1:m.sg=32
    ·have e1:(m.sg == 32)=true:=beq_iff_eq.2 h1
     have HE:Hid (true=q):=(by show _=_;rw[← HQ.out];simp[h1])
     clear h1
     go_wp2
     go_meet
     case rel=>exact⟨by rw[← HE.out],rfl⟩
    ·have e1:(m.sg == 32)=false:=beq_eq_false_iff_ne.2 h1
     have HE:Hid ((m.sg == sg)=q):=(by show _=_;rw[← HQ.out];simp only[h1,false_or];rfl)
     clear h1
     go_wp2
     go_meet
     case rel=>exact⟨by rw[← HE.out],rfl⟩
   case rest =>
   obtain⟨rfl,rfl⟩:=hcut
   have hBm:Below wr.heap.size wr (wr.alloc (.cells #[.int .u8 m.sg,.string ⟨m.tx.toArray⟩] 103)):=(Below.refl _ wr).alloc (Nat.le_refl _) _
   have hPm:=hP.low hBm
   have hWm:=hW.trans (Wr.low hBm (Nat.le_trans hBw hsz))
   have hMb:(wr.alloc (.cells #[.int .u8 m.sg,.string ⟨m.tx.toArray⟩] 103)).heap[wr.heap.size]?=some (.cells #[.int .u8 m.sg,.string ⟨m.tx.toArray⟩] 103):=heap_alloc_new wr _
   have hOff:Off wr.heap.size b v1:=⟨by have:=Bld.lt hP;omega,fun e=>by have:=(hP.2.2.1.lt _ e).2;omega⟩
   have hsm:wr.heap.size≤(wr.alloc (.cells #[.int .u8 m.sg,.string ⟨m.tx.toArray⟩] 103)).heap.size:=by simp
   clear c0 c1 s0
   generalize wr.alloc (.cells #[.int .u8 m.sg,.string ⟨m.tx.toArray⟩] 103)=Wm at hPm hWm hMb hsm hBm ⊢
   generalize wr.heap.size=M at hMb hOff hsm
   cases q with
   | true =>
    have hq1:m.sg=32∨m.sg=sg:=of_decide_eq_true HQ.out
    rw[if_pos hq1,List.flatten_append,← List.append_assoc] at HI2
    obtain⟨A2,hA2⟩:∃ A2,ac++(lnL [UInt8.ofNat x.toNat,32] m.tx).flatten=A2:=⟨_,rfl⟩
    rw[hA2] at HI2
    have HI3:Hid (A2++(sidZ sg (l.drop (k+1)) (sh.drop (k+1))).flatten=Z):=HI2
    have hAl:A2.length≤70368744177664:=(by
     have:=congrArg List.length HI2
     rw[List.length_append] at this
     omega)
    have hcl:∀ (v':Value) (u:World),Wr B b v v' w u→u.cell? ⟨sb,soff+k,none⟩=some (.int .u8 x):=(by
     intro v' u hu
     obtain⟨sb',soff',he,hsc⟩:=Ziu (HS.out v' u hu) HSl.out.symm (by omega)
     cases he
     rw[hsc k (by have:=HSl.out;omega)]
     rw[HX.out])
    have d0:Wm.drew.cell? ⟨sb,soff+k,none⟩=some (.int .u8 x):=hcl _ _ (hWm.trans (Wr.low ((Below.refl _ Wm).drew) (by have:=hWm.size;omega)))
    have d1:Wm.drew.cell? ⟨M,1,none⟩=some (.string ⟨m.tx.toArray⟩):=(by rw[Lib.cell_of_heap (w:=Wm.drew) hMb];rfl)
    have hPd:Pg B b v1 ac Wm.drew:=hPm.low ((Below.refl _ Wm).drew)
    have hWd:Wr B b v v1 w Wm.drew:=hWm.trans (Wr.low ((Below.refl _ Wm).drew) (by have:=hWm.size;omega))
    have HC:Hid (Calls Tryz.prog 166 (#[.pointer (some ⟨b,0,none⟩),.int .u8 x,.string ⟨m.tx.toArray⟩]++#[]) Wm.drew fun e w2=>∃ v2,e=.returned v2∧(w2.cell? ⟨sb,soff+k,none⟩=some (.int .u8 x)∧w2.cell? ⟨M,1,none⟩=some (.string ⟨m.tx.toArray⟩))∧v2=.tuple #[]∧∃ v',Pg B b v' A2 w2∧Wr B b v v' w w2):=(by
     refine (Zdq B b v1 x hx.1 hx.2 ac m.tx A2 Wm.drew hPd (Nat.le_trans hBw hWd.size) hA2 hAl htx).mono ?_
     rintro e w2 ⟨rfl,v2,h1,h2⟩
     have h3:=hWd.trans h2
     obtain⟨h4,_⟩:=h2.block (k:=M) hMb hOff
     exact⟨_,rfl,⟨hcl _ _ h3,by rw[Lib.cell_of_heap h4];rfl⟩,rfl,v2,h1,h3⟩)
    clear HI2 hA2 HQ hcl hPd hWd hPm hWm hP hW hMb hOff HL HS
    go_upto_region 5 with fail
    refine wp_region_noPanic ?_
    refine wp_region_held_drew (S:=fun u=>u.cell? ⟨sb,soff+k,none⟩=some (.int .u8 x)∧u.cell? ⟨M,1,none⟩=some (.string ⟨m.tx.toArray⟩)) (by kernel_rfl) ⟨d0,d1⟩ (fun hHeld=>?_)
    generalize Wm.drew=wd at hHeld HC ⊢
    refine Y_t 0 30 _ (.pointer (some ⟨b,0,none⟩)) rfl (Or.inl ⟨by kernel_rfl,fun u hu=>by kernel_rfl⟩) hHeld ?_
    simp only[Act.put,Y_a,Y_b,Y_c]
    refine Y_t 1 31 _ (.slice (some ⟨sb,soff,none⟩) l.length sc) rfl (Or.inl ⟨by kernel_rfl,fun u hu=>by kernel_rfl⟩) hHeld ?_
    simp only[Act.put,Y_a,Y_b,Y_c]
    refine Y_t 2 32 _ (.int .i64 (k:Int)) rfl (Or.inl ⟨by kernel_rfl,fun u hu=>by kernel_rfl⟩) hHeld ?_
    simp only[Act.put,Y_a,Y_b,Y_c]
    refine Y_t 3 33 _ (.pointer (some ⟨sb,soff+k,none⟩)) rfl (Or.inl ⟨by kernel_rfl,fun u hu=>ZeG (c:=sc) hlt (.tmp 31) (.tmp 32) (by kernel_rfl) (by kernel_rfl) (by kernel_rfl)⟩) hHeld ?_
    simp only[Act.put,Y_a,Y_b,Y_c]
    refine Y_t 4 34 _ (.int .u8 x) rfl (Or.inl ⟨by kernel_rfl,fun u hu=>ZeI hu.1 (.tmp 33) (by kernel_rfl) (by kernel_rfl)⟩) hHeld ?_
    simp only[Act.put,Y_a,Y_b,Y_c]
    refine Y_t 5 35 _ (.pointer (some ⟨M,1,none⟩)) rfl (Or.inl ⟨by kernel_rfl,fun u hu=>by kernel_rfl⟩) hHeld ?_
    simp only[Act.put,Y_a,Y_b,Y_c]
    refine Y_t 6 36 _ (.string ⟨m.tx.toArray⟩) rfl (Or.inl ⟨by kernel_rfl,fun u hu=>ZeH hu.2 (.tmp 35) (by kernel_rfl) (by kernel_rfl)⟩) hHeld ?_
    simp only[Act.put,Y_a,Y_b,Y_c]
    refine Y_e 7 37 _ rfl 166 (.func 166) #[.tmp 30,.tmp 34,.tmp 36] #[167,5,9] (by kernel_rfl) #[] (by kernel_rfl) #[.pointer (some ⟨b,0,none⟩),.int .u8 x,.string ⟨m.tx.toArray⟩] (by kernel_rfl) (enters_of Tryz.func166 (by kernel_rfl) rfl) (fun v2 w2=>v2=.tuple #[]∧∃ v',Pg B b v' A2 w2∧Wr B b v v' w w2) ?_ ?_
    ·exact HC.out
    rintro _ w2 _ ⟨rfl,v2,hP2,hW2⟩
    simp only[Act.put,Y_a,Y_b,Y_c]
    refine wpAnyH_done (by kernel_rfl) ?_ _
    refine NoPanic.normal ?_
    clear HC hHeld
    go_wp2
    exact⟨⟨k+1,v2,A2,by omega,by go_num,hP2,hW2,HI3⟩,by simp[intOf];omega⟩
   | false =>
    have hq1:¬ (m.sg=32∨m.sg=sg):=of_decide_eq_false HQ.out
    rw[if_neg hq1,List.nil_append] at HI2
    have HI3:Hid (ac++(sidZ sg (l.drop (k+1)) (sh.drop (k+1))).flatten=Z):=HI2
    clear HI2 HQ
    go_wp2
    exact⟨⟨k+1,v1,ac,by omega,by go_num,hPm,hWm,HI3⟩,by simp[intOf];omega⟩
  ·have hend:decide ((k:Int)<(l.length:Int))=false:=decide_eq_false (by omega)
   have HE:Hid (ac=Z):=(by
    have h:=HI.out
    rw[List.drop_of_length_le (by omega)] at h
    show _=_
    simpa [sidZ] using h)
   clear HI
   go_wp2
   first
    | go_end0
    | refine bodyPost_ret (results_none rfl _ _ _) rfl ?_
    | refine bodyPost_end (results_none rfl _ _ _) rfl ?_
   exact⟨rfl,v1,by rw[← HE.out];exact hP,hW⟩
end

section
open Ln Go.RowKit
theorem Zqb (h:Hk):rngB h=(nmB h.A h.AN && nmB h.B h.BN):=by
 unfold rngB nmB
 cases nat31 h.A<;>cases nat31 h.AN<;>cases nat31 h.B<;>cases nat31 h.BN<;>cases decide (h.A=0)<;>cases decide (0<h.AN)<;>cases decide (h.B=0)<;>cases decide (0<h.BN)<;>rfl
theorem Zou {no:Int} {l:List Mk} {a:List UInt8} (h:a∈pkL no l):∃ m∈l,m.tx=a:=by
 induction l with
 | nil=>cases h
 | cons m l ih =>
  simp only[pkL] at h
  split at h
  ·rcases List.mem_cons.1 h with rfl | h
   ·exact⟨m,by simp,rfl⟩
   ·obtain⟨x,hx,e⟩:=ih h
    exact⟨x,by simp[hx],e⟩
  ·obtain⟨x,hx,e⟩:=ih h
   exact⟨x,by simp[hx],e⟩
theorem ZcX {h:Hk} (hq:rngB h=false):chkH h=2:=by
 unfold chkH
 rw[if_pos hq]
theorem ZcS {h:Hk} (h1:rngB h=true) (hq:fldB h.ls=false):chkH h=6:=by
 unfold chkH
 rw[if_neg (by rw[h1];decide),if_pos hq]
theorem ZcQ {h:Hk} (h1:rngB h=true) (h2:fldB h.ls=true) (hq:h.AN≠(oldL h).length∨h.BN≠(newL h).length):chkH h=120:=by
 unfold chkH
 rw[if_neg (by rw[h1];decide),if_neg (by rw[h2];decide),if_pos hq]
theorem ZaT {l:List Mk} (ha:allB l=true):l.all (fun m=>decide (m.sg=32))=!l.any chgB:=by
 induction l with
 | nil=>rfl
 | cons m l ih =>
  simp only[allB,List.all_cons,Bool.and_eq_true] at ha
  simp only[List.all_cons,List.any_cons]
  rw[ih ha.2]
  have hm:=ha.1
  simp only[okS,Bool.or_eq_true,decide_eq_true_eq] at hm
  unfold chgB
  rcases hm with (hm | hm) | hm<;>rw[hm]<;>simp
theorem ZcR {h:Hk} (h1:rngB h=true) (h2:fldB h.ls=true) (h3:h.AN=(oldL h).length) (h4:h.BN=(newL h).length) {q:Bool} (hq:h.ls.any chgB=q):chkH h=if q=true then 0 else 50:=by
 unfold chkH
 rw[if_neg (by rw[h1];decide),if_neg (by rw[h2];decide),if_neg (fun k=>by rcases k with k | k<;>contradiction)]
 have ha:allB h.ls=true:=by
  have:=Zgx h.ls
  rw[h2] at this
  simp only[Bool.true_eq,Bool.and_eq_true] at this
  exact this.1.1
 rw[ZaT ha,hq]
 cases q<;>rfl
theorem Zbc (l:List Mk):l.any (fun m=>!okS m.sg)=!allB l:=by
 induction l with
 | nil=>rfl
 | cons m l ih =>
  simp only[List.any_cons,allB,List.all_cons,Bool.not_and] at ih ⊢
  rw[ih]
theorem Zil {h:Hk} {v:Value} {W u:World} (hv:HMk W v h.ls) (hl:h.ls.length≤1099511627776) {R:List (List UInt8)} (HR:Hid (oldL h=R)) (hL:Low W u):Calls Tryz.prog 38 (#[hkV h v]++#[]) u fun e w'=>∃ x,e=.returned x∧Low W w'∧(HS w' x R∧Below u.heap.size u w'):=by
 refine (ZhD h v u (HMk.keep hv hL (Nat.le_refl _)) hl R HR).mono ?_
 rintro e w' ⟨x,rfl,hx,hB⟩
 exact⟨_,rfl,hL.trans (hB.mono hL.size),hx,hB⟩
theorem Zih {h:Hk} {v:Value} {W u:World} (hv:HMk W v h.ls) (hl:h.ls.length≤1099511627776) {R:List (List UInt8)} (HR:Hid (newL h=R)) (hL:Low W u):Calls Tryz.prog 40 (#[hkV h v]++#[]) u fun e w'=>∃ x,e=.returned x∧Low W w'∧(HS w' x R∧Below u.heap.size u w'):=by
 refine (ZhB h v u (HMk.keep hv hL (Nat.le_refl _)) hl R HR).mono ?_
 rintro e w' ⟨x,rfl,hx,hB⟩
 exact⟨_,rfl,hL.trans (hB.mono hL.size),hx,hB⟩
theorem Zhs (h:Hk) (v:Value) (w:World) (hv:HMk w v h.ls) (hl:h.ls.length≤1099511627776) (htx:∀ m∈h.ls,m.tx.length≤1099511627776) (r:Int) (HR:Hid (chkH h=r)):Calls Tryz.prog 23 #[hkV h v] w fun e w'=>e=.returned (.int .i64 r)∧Below w.heap.size w w':=by
 obtain⟨A,AN,B,BN,ls⟩:=h
 dsimp only at hv hl htx
 obtain⟨lo,lc,rfl⟩:=HMk.form hv
 have hx:=Hx.new w ⟨A,AN,B,BN,ls⟩ (.slice lo ls.length lc)
 have hBl:Below w.heap.size w (w.alloc (hkO ⟨A,AN,B,BN,ls⟩ (.slice lo ls.length lc))):=(Below.refl _ w).alloc (Nat.le_refl _) _
 have hv1:=HMk.keep hv hBl (Nat.le_refl _)
 have HTX:Hid (∀ m∈ls,m.tx.length≤1099511627776):=htx
 clear htx hv
 obtain⟨x0,x1,x2,x3,x4⟩:=hx.cells
 unfold hkV
 dsimp only at x0 x1 x2 x3 x4 ⊢
 have hW0:w.alloc (hkO ⟨A,AN,B,BN,ls⟩ (.slice lo ls.length lc))=w.alloc (Obj.cells #[Value.int IntKind.i64 A,Value.int IntKind.i64 AN,Value.int IntKind.i64 B,Value.int IntKind.i64 BN,.slice lo ls.length lc] 59):=rfl
 generalize w.alloc (hkO ⟨A,AN,B,BN,ls⟩ (.slice lo ls.length lc))=W at *
 have hW:=hW0.symm
 clear hW0
 obtain⟨p1,hp1⟩:∃ p,nmB A AN=p:=⟨_,rfl⟩
 obtain⟨p2,hp2⟩:∃ p,nmB B BN=p:=⟨_,rfl⟩
 have HG:Hid (rngB ⟨A,AN,B,BN,ls⟩=(p1 && p2)):=(by show _=_;rw[Zqb,← hp1,← hp2])
 have HP1:Hid (nmB A AN=p1):=hp1
 have HP2:Hid (nmB B BN=p2):=hp2
 clear hp1 hp2
 go_enter Tryz.func23,Tryz.ntmps23
 go_wp2_with fail
 refine (Zik A AN W p1 HP1).mono ?_
 rintro e w1 ⟨rfl,rfl⟩
 clear hW HP1
 cases p1 with
 | false =>
  have HE:Hid (2=r):=(by show _=_;rw[← HR.out,ZcX (by rw[HG.out];rfl)])
  clear HR HG
  go_wp2
  go_ret
  exact⟨by rw[← HE.out];rfl,hBl⟩
 | true =>
 go_wp2_with fail
 refine (Zik B BN w1 p2 HP2).mono ?_
 rintro e W ⟨rfl,rfl⟩
 clear HP2
 cases p2 with
 | false =>
  have HE:Hid (2=r):=(by show _=_;rw[← HR.out,ZcX (by rw[HG.out];rfl)])
  clear HR HG
  go_wp2
  go_ret
  exact⟨by rw[← HE.out];rfl,hBl⟩
 | true =>
  obtain⟨RO,hRO⟩:∃ r,oldL ⟨A,AN,B,BN,ls⟩=r:=⟨_,rfl⟩
  obtain⟨RN,hRN⟩:∃ r,newL ⟨A,AN,B,BN,ls⟩=r:=⟨_,rfl⟩
  have HO:Hid (oldL ⟨A,AN,B,BN,ls⟩=RO):=hRO
  have HN:Hid (newL ⟨A,AN,B,BN,ls⟩=RN):=hRN
  have HF:Hid (fldB ls=(allB ls && checkB RO && checkB RN)):=(by show _=_;rw[← hRO,← hRN];exact Zgx ls)
  have hROl:RO.length≤1099511627776:=by rw[← hRO];have:=Zom 43 ls;simp only[oldL];omega
  have hRNl:RN.length≤1099511627776:=by rw[← hRN];have:=Zom 45 ls;simp only[newL];omega
  have HROm:Hid (∀ a∈RO,a.length≤1099511627776):=(by
   intro a ha
   rw[← hRO] at ha
   obtain⟨m,hm,rfl⟩:=Zou ha
   exact HTX.out m hm)
  have HRNm:Hid (∀ a∈RN,a.length≤1099511627776):=(by
   intro a ha
   rw[← hRN] at ha
   obtain⟨m,hm,rfl⟩:=Zou ha
   exact HTX.out m hm)
  clear hRO hRN HTX
  have hxx:∀ u:World,Low W u→Hx u w.heap.size ⟨A,AN,B,BN,ls⟩ (.slice lo ls.length lc):=fun u hu=>hx.low hu
  go_upto_region 3 with fail
  go_cut [3,4] from 5 to 51 (fun a b wz=>∃ oo oc no nc,a=.slice oo RO.length oc∧b=.slice no RN.length nc∧HS wz a RO∧HS wz b RN∧Below W.heap.size W wz)
  case first =>
   have hlow:Low W (W.drewN 1):=Below.dN (Below.refl _ W) 1
   refine wp_region_noPanic ?_
   refine wp_region_held_drew (S:=fun u=>Low W u) (by kernel_rfl) hlow (fun hHeld=>?_)
   refine Y_t 0 19 _ (hkV ⟨A,AN,B,BN,ls⟩ (.slice lo ls.length lc)) rfl (Or.inl ⟨by kernel_rfl,fun u hu=>Zkw (hxx u hu) (.tmp 1) (by kernel_rfl) (by kernel_rfl)⟩) hHeld ?_
   simp only[Act.put,Y_a,Y_b,Y_c]
   refine Y_t 2 21 _ (hkV ⟨A,AN,B,BN,ls⟩ (.slice lo ls.length lc)) rfl (Or.inl ⟨by kernel_rfl,fun u hu=>Zkw (hxx u hu) (.tmp 1) (by kernel_rfl) (by kernel_rfl)⟩) hHeld ?_
   simp only[Act.put,Y_a,Y_b,Y_c]
   refine Y_e 1 20 _ rfl 38 (.func 38) #[.tmp 19] #[59] (by kernel_rfl) #[] (by kernel_rfl) #[hkV ⟨A,AN,B,BN,ls⟩ (.slice lo ls.length lc)] (by kernel_rfl) (enters_of Tryz.func38 (by kernel_rfl) rfl) _ (Zil hv1 hl HO hHeld) ?_
   rintro vo w1 hHeld1 ⟨hvo,hBo⟩
   obtain⟨oo,oc,rfl⟩:=Holds.form hvo
   simp only[Act.put,Y_a,Y_b,Y_c]
   refine Y_e 3 22 _ rfl 40 (.func 40) #[.tmp 21] #[59] (by kernel_rfl) #[] (by kernel_rfl) #[hkV ⟨A,AN,B,BN,ls⟩ (.slice lo ls.length lc)] (by kernel_rfl) (enters_of Tryz.func40 (by kernel_rfl) rfl) _ (Zih hv1 hl HN hHeld1) ?_
   rintro vn w2 hHeld ⟨hvn,hBn⟩
   obtain⟨no,nc,rfl⟩:=Holds.form hvn
   simp only[Act.put,Y_a,Y_b,Y_c]
   refine Y_t 4 3 _ (.slice oo RO.length oc) rfl (Or.inl ⟨by kernel_rfl,fun u hu=>by kernel_rfl⟩) hHeld ?_
   simp only[Act.put,Y_a,Y_b,Y_c]
   refine Y_t 5 4 _ (.slice no RN.length nc) rfl (Or.inl ⟨by kernel_rfl,fun u hu=>by kernel_rfl⟩) hHeld ?_
   simp only[Act.put,Y_a,Y_b,Y_c]
   refine wpAnyH_done (by kernel_rfl) ?_ _
   refine NoPanic.normal ?_
   go_wp2_with fail
   go_meet
   case rel=>exact⟨_,_,_,_,rfl,rfl,HS.keep hvo hBn (Nat.le_refl _),hvn,hHeld⟩
  case rest =>
   obtain⟨oo,oc,no,nc,rfl,rfl,hvo,hvn,hBz⟩:=hcut
   have hB2:=hBl.trans (hBz.mono hBl.size)
   obtain⟨y0,y1,y2,y3,y4⟩:=(hxx _ hBz).cells
   dsimp only at y0 y1 y2 y3 y4
   have hv2:=HMk.keep hv1 hBz (Nat.le_refl _)
   generalize wc=w2 at *
   clear x0 x1 x2 x3 x4
   obtain⟨s,hs⟩:∃ s,allB ls=s:=⟨_,rfl⟩
   have HS1:Hid (ls.any (fun m=>!okS m.sg)=!s):=(by show _=_;rw[Zbc,hs])
   have HF2:Hid (fldB ls=(s && checkB RO && checkB RN)):=(by have h:=HF.out;rw[hs] at h;exact h)
   clear HF hs
   go_wp2_with fail
   refine (Zht 61 ls (fun m=>!okS m.sg) _ w2 hv2 hl (enters_of Tryz.func61 (by kernel_rfl) rfl) (fun m _ u=>Zit m u) (!s) HS1).mono ?_
   rintro e w3 ⟨rfl,hB3⟩
   have hx3:=(hxx _ hBz).low hB3
   have hvo3:=HS.keep hvo hB3 (Nat.le_refl _)
   have hvn3:=HS.keep hvn hB3 (Nat.le_refl _)
   have hv3:=HMk.keep hv2 hB3 (Nat.le_refl _)
   have hB4:=hB2.trans (hB3.mono hB2.size)
   obtain⟨z0,z1,z2,z3,z4⟩:=hx3.cells
   dsimp only at z0 z1 z2 z3 z4
   clear y0 y1 y2 y3 y4 HS1
   cases s with
   | false =>
    have HE:Hid (6=r):=(by show _=_;rw[← HR.out,ZcS HG.out (by rw[HF2.out];rfl)])
    clear HR HG HF2
    go_wp2
    go_ret
    exact⟨by rw[← HE.out];rfl,hB4⟩
   | true =>
   obtain⟨q1,hq1⟩:∃ q,checkB RO=q:=⟨_,rfl⟩
   obtain⟨q2,hq2⟩:∃ q,checkB RN=q:=⟨_,rfl⟩
   have HQ1:Hid (checkB RO=q1):=hq1
   have HQ2:Hid (checkB RN=q2):=hq2
   have HF3:Hid (fldB ls=(q1 && q2)):=(by have h:=HF2.out;rw[hq1,hq2,Bool.true_and] at h;exact h)
   clear HF2 hq1 hq2
   cases q1 with
   | false =>
    have HE:Hid (6=r):=(by show _=_;rw[← HR.out,ZcS HG.out (by rw[HF3.out];rfl)])
    clear HR HG HF3
    go_wp2_with fail
    refine (Zic _ RO w3 hROl HROm.out hvo3 false HQ1 6 rfl).mono ?_
    rintro e w4 ⟨rfl,rfl⟩
    go_wp2
    go_ret
    exact⟨by rw[← HE.out];rfl,hB4⟩
   | true =>
   go_wp2_with fail
   refine (Zic _ RO w3 hROl HROm.out hvo3 true HQ1 0 rfl).mono ?_
   rintro e w4 ⟨rfl,rfl⟩
   cases q2 with
   | false =>
    have HE:Hid (6=r):=(by show _=_;rw[← HR.out,ZcS HG.out (by rw[HF3.out];rfl)])
    clear HR HG HF3
    go_wp2_with fail
    refine (Zic _ RN w3 hRNl HRNm.out hvn3 false HQ2 6 rfl).mono ?_
    rintro e w4 ⟨rfl,rfl⟩
    go_wp2
    go_ret
    exact⟨by rw[← HE.out];rfl,hB4⟩
   | true =>
   go_wp2_with fail
   refine (Zic _ RN w3 hRNl HRNm.out hvn3 true HQ2 0 rfl).mono ?_
   rintro e w4 ⟨rfl,rfl⟩
   have HFT:Hid (fldB ls=true):=(by have h:=HF3.out;exact h)
   clear HF3 HQ1 HQ2
   by_cases ha:(RO.length:Int)=AN
   ·have ea:((RO.length:Int) != AN)=false:=by simpa using ha
    by_cases hb:(RN.length:Int)=BN
    ·have eb:((RN.length:Int) != BN)=false:=by simpa using hb
     obtain⟨q,hq⟩:∃ q,ls.any chgB=q:=⟨_,rfl⟩
     have HQ:Hid (ls.any chgB=q):=hq
     have HE:Hid ((if q=true then 0 else 50)=r):=(by
      show _=_
      rw[← HR.out,ZcR (h:=⟨A,AN,B,BN,ls⟩) HG.out HFT.out (by rw[HO.out,ha]) (by rw[HN.out,hb]) hq])
     clear HR HG HFT hq ha hb
     go_wp2_with fail
     refine (Zht 63 ls chgB _ w3 hv3 hl (enters_of Tryz.func63 (by kernel_rfl) rfl) (fun m _ u=>ZhH m u) q HQ).mono ?_
     rintro e w5 ⟨rfl,hB5⟩
     have hB6:=hB4.trans (hB5.mono hB4.size)
     cases q with
     | false =>
      go_wp2
      go_ret
      exact⟨by rw[← HE.out];rfl,hB6⟩
     | true =>
      go_wp2
      go_ret
      exact⟨by rw[← HE.out];rfl,hB6⟩
    ·have eb:((RN.length:Int) != BN)=true:=by simpa using hb
     have HE:Hid (120=r):=(by
      show _=_
      rw[← HR.out,ZcQ (h:=⟨A,AN,B,BN,ls⟩) HG.out HFT.out (.inr (by rw[HN.out];exact fun k=>hb k.symm))])
     clear HR HG HFT ha hb
     go_wp2
     go_ret
     exact⟨by rw[← HE.out];rfl,hB4⟩
   ·have ea:((RO.length:Int) != AN)=true:=by simpa using ha
    have HE:Hid (120=r):=(by
     show _=_
     rw[← HR.out,ZcQ (h:=⟨A,AN,B,BN,ls⟩) HG.out HFT.out (.inl (by rw[HO.out];exact fun k=>ha k.symm))])
    clear HR HG HFT ha
    go_wp2
    go_ret
    exact⟨by rw[← HE.out];rfl,hB4⟩
end

section
open Go.RowKit Go.Proofs.YtgiojkhmkeocfaaGreatDoor.Tx
theorem Hx.wr {B b:Nat} {v v':Value} {w w':World} {M:Nat} {h:Hk} {y:Value} (q:Hx w M h y) (hw:Wr B b v v' w w') (ho:Off M b v):Hx w' M h y∧Off M b v':=hw.block q ho
theorem Zry {B b base:Nat} {v:Value} {w:World} {sv:Value} {n:Nat} {xs:List Value} (h:w.ownsRow base 5 1 sv n xs) (hb:b<base) (hv:∀ g,v.ownBlock=some g→g<base):∀ (v':Value) (u:World),Wr B b v v' w u→Holds u sv n xs:=by
 intro v' u hw
 rcases h.2 with ⟨rfl,h0⟩ | ⟨g,cap,cur,rfl,hg,hgb,hnc,_⟩
 ·exact .inl ⟨rfl,h0,List.eq_nil_of_length_eq_zero (by rw[h.1,h0,Nat.zero_mul])⟩
 ·refine .inr ⟨⟨g,0,none⟩,cap,rfl,hnc,fun j x hj=>?_⟩
  have h1:=h.cells (g:=g) rfl j x hj
  obtain⟨h2,_⟩:=hw.block hgb ⟨by omega,fun e=>by have:=hv g e;omega⟩
  rw[add_none] at h1 ⊢
  rw[World.cell?_of_block (w:=w) (by show u.heap[g]?=w.heap[g]?;rw[h2,hgb])]
  exact h1
theorem ZrB (l:List Mk) (h:∀ m∈l,okS m.sg=true):∀ r a,∀ x∈shwL r a l,0≤x∧x<256:=by
 induction l with
 | nil=>intro r a x hx;cases hx
 | cons m l ih =>
  intro r a x hx
  have hi:=ih fun y hy=>h y (by simp[hy])
  have hm:=h m (by simp)
  have hc:m.sg=32∨m.sg=45∨m.sg=43:=by simp[okS] at hm;omega
  simp only[shwL] at hx
  split at hx
  ·rcases List.mem_cons.1 hx with rfl | hx
   ·omega
   ·exact hi _ _ x hx
  ·rcases List.mem_cons.1 hx with rfl | hx
   ·split<;>omega
   ·exact hi _ _ x hx
theorem ZrN (sg:Int) (l:List Mk):(if hasM sg l=true then sidZ sg l (shwL false false l) else [])=sideL sg l:=by
 unfold sideL
 rw[ZrK]
 rfl
theorem ZcY {h:Hk} (hc:chkH h=0):∀ m∈h.ls,okS m.sg=true:=by
 obtain⟨_,hf,_⟩:=ZcW hc
 exact fun m hm=>(((Zgy _).1 hf).1 m hm).2
theorem Zda (B b:Nat) (v:Value) (h:Hk) (y:Value) (acc Z:List UInt8) (w:World) (hP:Pg B b v acc w) (hBw:B≤w.heap.size) (hll:h.ls.length≤1099511627776) (HTx:Hid (∀ m∈h.ls,m.tx.length≤1099511627776)) (HC:Hid (chkH h=0))
  (HL:Hid (∀ u,Below B w u→HMk u y h.ls)) (HT:Hid (∀ u,Below B w u→Tab10 u)) (HZ:Hid (acc++(hkL h).flatten=Z)) (hZ:Z.length≤70368744177664) :
  Calls Tryz.prog 67 #[.pointer (some ⟨b,0,none⟩),hkV h y] w fun e w'=>e=.returned (.tuple #[])∧∃ v',Pg B b v' Z w'∧Wr B b v v' w w':=by
 obtain⟨lo,lc,rfl⟩:=HMk.form (HL.out w (Below.refl _ _))
 have HSg:Hid (∀ x∈shwL false false h.ls,0≤x∧x<256):=ZrB _ (ZcY HC.out) _ _
 have hr:=(ZcW HC.out).1
 obtain⟨r1,r2,r3,r4,r5,r6,rx⟩:=Zqd hr
 clear rx
 obtain⟨r7,r8⟩:=ZcT hr
 have hSl:=Zrz h.ls false false
 have HS45:=ZrN 45 h.ls
 have HS43:=ZrN 43 h.ls
 obtain⟨A,AN,Bn,BN,ls⟩:=h
 dsimp only at hll r1 r2 r3 r4 r5 r6 r7 r8 hSl HS45 HS43
 obtain⟨R,hR⟩:∃ R,shwL false false ls=R:=⟨_,rfl⟩
 obtain⟨T1,hT1⟩:∃ T,spanT A AN=T:=⟨_,rfl⟩
 obtain⟨T2,hT2⟩:∃ T,spanT Bn BN=T:=⟨_,rfl⟩
 have t1:=Zsa (p:=A) (n:=AN) r1 r2 r7
 have t2:=Zsa (p:=Bn) (n:=BN) r4 r5 r8
 rw[hT1] at t1
 rw[hT2] at t2
 obtain⟨X1,hX1⟩:∃ X,(if hasM 45 ls=true then sidZ 45 ls R else []).flatten=X:=⟨_,rfl⟩
 obtain⟨X2,hX2⟩:∃ X,(if hasM 43 ls=true then sidZ 43 ls R else []).flatten=X:=⟨_,rfl⟩
 obtain⟨Z1,hZ1⟩:∃ Y,acc++starsT++[10]=Y:=⟨_,rfl⟩
 obtain⟨U1,hU1⟩:∃ Y,[42,42,42,32]++T1=Y:=⟨_,rfl⟩
 obtain⟨U2,hU2⟩:∃ Y,[45,45,45,32]++T2=Y:=⟨_,rfl⟩
 obtain⟨V1,hV1⟩:∃ Y,U1++[32,42,42,42,42]=Y:=⟨_,rfl⟩
 obtain⟨V2,hV2⟩:∃ Y,U2++[32,45,45,45,45]=Y:=⟨_,rfl⟩
 obtain⟨Z2,hZ2⟩:∃ Y,Z1++V1++[10]=Y:=⟨_,rfl⟩
 obtain⟨Z3,hZ3⟩:∃ Y,Z2++X1=Y:=⟨_,rfl⟩
 obtain⟨Z4,hZ4⟩:∃ Y,Z3++V2++[10]=Y:=⟨_,rfl⟩
 have HE:Hid (Z4++X2=Z):=(by
  show _=_
  rw[← HZ.out,← hZ4,← hZ3,← hZ2,← hZ1,← hV1,← hV2,← hU1,← hU2,← hX1,← hX2,← hR,HS45,HS43,← hT1,← hT2]
  simp[hkL,rlT])
 have hE:=congrArg List.length HE.out
 have l4:=congrArg List.length hZ4
 have l3:=congrArg List.length hZ3
 have l2:=congrArg List.length hZ2
 have l1:=congrArg List.length hZ1
 simp only[List.length_append] at hE l4 l3 l2 l1
 have b4:Z4.length≤70368744177664:=by omega
 have b3:Z3.length≤70368744177664:=by omega
 have b2:Z2.length≤70368744177664:=by omega
 have b1:Z1.length≤70368744177664:=by omega
 have u1:=congrArg List.length hU1
 have u2:=congrArg List.length hU2
 simp only[List.length_append,List.length_cons,List.length_nil] at u1 u2
 have q1:=ZaJ (x:=[42,42,42,32]) (y:=T1) (by unfold Fits;simp only[List.length_cons,List.length_nil];omega) Tryz.prog
 have q2:=ZaJ (x:=U1) (y:=[32,42,42,42,42]) (by unfold Fits;simp only[List.length_cons,List.length_nil];omega) Tryz.prog
 have q3:=ZaJ (x:=[45,45,45,32]) (y:=T2) (by unfold Fits;simp only[List.length_cons,List.length_nil];omega) Tryz.prog
 have q4:=ZaJ (x:=U2) (y:=[32,45,45,45,45]) (by unfold Fits;simp only[List.length_cons,List.length_nil];omega) Tryz.prog
 rw[hU1] at q1
 rw[hU2] at q3
 rw[hV1] at q2
 rw[hV2] at q4
 have HRl:Hid (ls.length=R.length):=(by show _=_;rw[← hR,hSl])
 rw[hR] at HSg
 have HR:Hid (shwL false false ls=R):=hR
 have HT1:Hid (spanT A AN=T1):=hT1
 have HT2:Hid (spanT Bn BN=T2):=hT2
 have HX1:Hid (Z2++(if hasM 45 ls=true then sidZ 45 ls R else []).flatten=Z3):=(by show _=_;rw[hX1];exact hZ3)
 have HX2:Hid (Z4++(if hasM 43 ls=true then sidZ 43 ls R else []).flatten=Z):=(by show _=_;rw[hX2];exact HE.out)
 have HZ1:Hid (acc++starsT++[10]=Z1):=hZ1
 have HZ2:Hid (Z1++V1++[10]=Z2):=hZ2
 have HZ4:Hid (Z3++V2++[10]=Z4):=hZ4
 have hBm:Below w.heap.size w (w.alloc (.cells #[.int .i64 A,.int .i64 AN,.int .i64 Bn,.int .i64 BN,.slice lo ls.length lc] 59)):=(Below.refl _ w).alloc (Nat.le_refl _) _
 have hMx:Hx (w.alloc (.cells #[.int .i64 A,.int .i64 AN,.int .i64 Bn,.int .i64 BN,.slice lo ls.length lc] 59)) w.heap.size ⟨A,AN,Bn,BN,ls⟩ (.slice lo ls.length lc):=heap_alloc_new w _
 have hOff:Off w.heap.size b v:=⟨by have:=Bld.lt hP;omega,fun e=>by have:=(hP.2.2.1.lt _ e).2;omega⟩
 have hvl:Hid (∀ g,v.ownBlock=some g→g<w.heap.size):=fun g e=>(hP.2.2.1.lt _ e).2
 have hbl:=Bld.lt hP
 have hsm:Hid (w.heap.size<(w.alloc (.cells #[.int .i64 A,.int .i64 AN,.int .i64 Bn,.int .i64 BN,.slice lo ls.length lc] 59)).heap.size):=(by show _<_;simp)
 have hPm:=hP.low hBm
 have hWm:Wr B b v v w (w.alloc (.cells #[.int .i64 A,.int .i64 AN,.int .i64 Bn,.int .i64 BN,.slice lo ls.length lc] 59)):=Wr.low hBm hBw
 clear hE l1 l2 l3 l4 hX1 hX2 hZ1 hZ2 hZ3 hZ4 hT1 hT2 hR hV1 hV2 hU1 hU2 u1 u2 HS45 HS43 HZ HE hSl hr hP
 have e:hkV ⟨A,AN,Bn,BN,ls⟩ (.slice lo ls.length lc)=.agg #[.int .i64 A,.int .i64 AN,.int .i64 Bn,.int .i64 BN,.slice lo ls.length lc]:=rfl
 rw[e]
 clear e
 go_enter Tryz.func67,Tryz.ntmps67
 go_wp2_with fail
 refine (Zef ls (.slice lo ls.length lc) _ (HL.out _ hWm.below) hll R HR).mono ?_
 generalize w.alloc (.cells #[.int .i64 A,.int .i64 AN,.int .i64 Bn,.int .i64 BN,.slice lo ls.length lc] 59)=Wm at hPm hWm hMx hsm hBm ⊢
 rintro e w1 ⟨sv,rfl,hown,hB1⟩
 have hW1:=hWm.trans (Wr.low hB1 (by have:=hWm.size;omega))
 have hP1:=hPm.low hB1
 have hM1:=hMx.low hB1
 have hSK:∀ (v':Value) (u:World),Wr B b v v' w1 u→Holds u sv R.length (ucells R):=Zry hown (by have:=hsm.out;omega) (fun g e=>by have:=hvl.out g e;have:=hsm.out;omega)
 obtain⟨so,sc,rfl⟩:=(holds_of hown).form
 clear hBm hPm hWm hMx hB1 hown hvl hbl hsm
 generalize w.heap.size=M at hM1 hOff
 obtain⟨c0,c1,c2,c3,c4⟩:=hM1.cells
 have hz1:=hW1.size
 go_wp2_with fail
 refine (Zed B b v acc starsT Z1 w1 hP1 (by omega) HZ1 b1).mono ?_
 rintro e w2 ⟨rfl,v2,hP2,hW2⟩
 obtain⟨hM2,hO2⟩:=hM1.wr hW2 hOff
 have hW12:=hW1.trans hW2
 have hz2:=hW12.size
 clear c0 c1 c2 c3 c4
 obtain⟨c0,c1,c2,c3,c4⟩:=hM2.cells
 go_wp2_with fail
 refine (ZdX A AN r1 (by omega) r3 (by omega) w2 (HT.out w2 hW12.below) T1 HT1).mono ?_
 rintro e w3 ⟨rfl,hB3⟩
 have hM3:=hM2.low hB3
 have hP3:=hP2.low hB3
 have hW13:=hW12.trans (Wr.low hB3 (by omega))
 have hW23:Wr B b v2 v2 w2 w3:=Wr.low hB3 (by omega)
 have hz3:=hW13.size
 clear c0 c1 c2 c3 c4
 go_wp2_with fail
 refine (Zed B b v2 Z1 V1 Z2 w3 hP3 (by omega) HZ2 b2).mono ?_
 rintro e w4 ⟨rfl,v4,hP4,hW4⟩
 obtain⟨hM4,hO4⟩:=hM3.wr hW4 hO2
 have hW14:=hW13.trans hW4
 have hWs4:=(hW2.trans hW23).trans hW4
 have hz4:=hW14.size
 obtain⟨c0,c1,c2,c3,c4⟩:=hM4.cells
 go_wp2_with fail
 refine (Zeg B b v4 45 ls R (.slice lo ls.length lc) (.slice so R.length sc) Z2 Z3 w4 hP4 (by omega) hll HRl HSg HTx (HL.out _ hW14.below) (fun v' u hu=>HL.out u (hW14.trans hu).below) (fun v' u hu=>hSK v' u (hWs4.trans hu)) HX1 b3).mono ?_
 rintro e w5 ⟨rfl,v5,hP5,hW5⟩
 obtain⟨hM5,hO5⟩:=hM4.wr hW5 hO4
 have hW15:=hW14.trans hW5
 have hWs5:=hWs4.trans hW5
 have hz5:=hW15.size
 clear c0 c1 c2 c3 c4
 obtain⟨c0,c1,c2,c3,c4⟩:=hM5.cells
 go_wp2_with fail
 refine (ZdX Bn BN r4 (by omega) r6 (by omega) w5 (HT.out w5 hW15.below) T2 HT2).mono ?_
 rintro e w6 ⟨rfl,hB6⟩
 have hM6:=hM5.low hB6
 have hP6:=hP5.low hB6
 have hW56:Wr B b v5 v5 w5 w6:=Wr.low hB6 (by omega)
 have hW16:=hW15.trans hW56
 have hz6:=hW16.size
 clear c0 c1 c2 c3 c4
 go_wp2_with fail
 refine (Zed B b v5 Z3 V2 Z4 w6 hP6 (by omega) HZ4 b4).mono ?_
 rintro e w7 ⟨rfl,v7,hP7,hW7⟩
 obtain⟨hM7,hO7⟩:=hM6.wr hW7 hO5
 have hW17:=hW16.trans hW7
 have hWs7:=(hWs5.trans hW56).trans hW7
 have hz7:=hW17.size
 obtain⟨c0,c1,c2,c3,c4⟩:=hM7.cells
 go_wp2_with fail
 refine (Zeg B b v7 43 ls R (.slice lo ls.length lc) (.slice so R.length sc) Z4 Z w7 hP7 (by omega) hll HRl HSg HTx (HL.out _ hW17.below) (fun v' u hu=>HL.out u (hW17.trans hu).below) (fun v' u hu=>hSK v' u (hWs7.trans hu)) HX2 hZ).mono ?_
 rintro e w8 ⟨rfl,v8,hP8,hW8⟩
 go_wp2
 first
  | go_end0
  | refine bodyPost_ret (results_none rfl _ _ _) rfl ?_
  | refine bodyPost_end (results_none rfl _ _ _) rfl ?_
 exact⟨rfl,v8,hP8,hW17.trans hW8⟩
end

end Go.Proofs.YtgiojkhmkeocfaaGreatDoor
