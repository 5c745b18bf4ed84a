/-
  Texts that belong together, joined: UpY, HuC3, HuWk, NcP, NpI, NoLs, NoCm, NpD, NpJ, NpK, NpL.
-/
import Derived.Test.YtgiojkhmkeocfaaGreatDoorUnAgrA18
import Derived.Test.YtgiojkhmkeocfaaGreatDoorUnAgrA6
import Derived.Deep.CutBlock
import Derived.Defers
import Derived.Recover

set_option maxHeartbeats 16000000
set_option maxRecDepth 100000
namespace Go.Proofs.YtgiojkhmkeocfaaGreatDoor

section
open Go.RowKit
theorem Zpj (p1 p2:Pth) (q1 q2:List (Hk × Value)) (H1:Hid (q1.map (·.1)=p1.hs)) (H2:Hid (q2.map (·.1)=p2.hs)) (v1 v2:Value) (w:World) (hv1:HHp w v1 q1) (hv2:HHp w v2 q2) (hok:HOw q1) (r:Bool) (HR:Hid (r=true↔p1=p2)) :
  Calls Tryz.prog 72 #[ptV p1 v1,ptV p2 v2] w fun e w'=>e=.returned (.bool r)∧Below w.heap.size w w':=by
 obtain⟨lo,lc,rfl⟩:=Holds.form hv1.row
 obtain⟨mo,mc,rfl⟩:=Holds.form hv2.row
 have hB:Below w.heap.size w ((w.alloc (ptO p1 (.slice lo q1.length lc))).alloc (ptO p2 (.slice mo q2.length mc))):=((Below.refl _ w).alloc (Nat.le_refl _) _).alloc (by simp) _
 have hc:=Zpm p1 p2 q1 q2 H1 H2 (.slice lo q1.length lc) (.slice mo q2.length mc) _ (hv1.keep hB (Nat.le_refl _)) (hv2.keep hB (Nat.le_refl _)) hok r HR
 unfold ptO ptV at hc
 unfold ptV
 unfold ptO at hB
 go_enter Tryz.func72,Tryz.ntmps72
 go_wp2_with fail
 refine hc.mono ?_
 rintro e w1 ⟨rfl,hB1⟩
 go_wp2
 go_ret
 exact⟨rfl,hB.trans (hB1.mono hB.size)⟩
def wkM6:Obj:=.cells #[.int .u8 32,.string ⟨#[49,10]⟩,.int .u8 45,.string ⟨#[50]⟩] 103
def wkH6 (b:Nat):Obj:=.cells #[.int .i64 1,.int .i64 2,.int .i64 1,.int .i64 1,.slice (some ⟨b,0,none⟩) 2 2] 59
def wkK6:Hk:=⟨1,2,1,1,[⟨32,[49,10]⟩,⟨45,[50]⟩]⟩
theorem ZuJ (w:World) (n m:Nat) (hn:w.heap.size=n) (hm:n+1=m):HHp ((w.alloc wkM6).alloc (wkH6 n)) (.slice (some ⟨m,0,none⟩) 1 1) [(wkK6,.slice (some ⟨n,0,none⟩) 2 2)]:=by
 have hz:(w.alloc wkM6).heap.size=m:=by rw[← hm,← hn];simp
 refine⟨?_,?_⟩
 ·exact Zmo (w.alloc wkM6) m hz #[.int .i64 1,.int .i64 2,.int .i64 1,.int .i64 1,.slice (some ⟨n,0,none⟩) 2 2] 59 1 1 (by simp)
 ·intro y hy
  rw[List.mem_singleton.1 hy]
  have h:=Zmo w n hn #[.int .u8 32,.string ⟨#[49,10]⟩,.int .u8 45,.string ⟨#[50]⟩] 103 2 2 (by decide)
  have h2:HMk (w.alloc wkM6) (.slice (some ⟨n,0,none⟩) 2 2) wkK6.ls:=h
  exact h2.keep ((Below.refl _ _).alloc (Nat.le_refl _) _) (Nat.le_refl _)
theorem ZuK (v:Value):HOk [(wkK6,v)]:=by
 refine⟨show 1≤_ by decide,fun x hx=>?_⟩
 rw[List.mem_singleton.1 hx]
 exact⟨show wkK6.ls.length≤_ by decide,show ∀ m∈wkK6.ls,m.tx.length≤1099511627776 by decide⟩
theorem Zut (w:World) (HTb:Hid (Tab10 w)) (hmx:Mxl w):Calls Tryz.prog 29 #[] w fun e w'=>e=.returned (.bool true)∧Below w.heap.size w w':=by
 have hh:=ZuJ w w.heap.size (w.heap.size+1) rfl rfl
 have hB1:Below w.heap.size w ((w.alloc wkM6).alloc (wkH6 w.heap.size)):=((Below.refl _ w).alloc (Nat.le_refl _) _).alloc (by simp) _
 have hz1:((w.alloc wkM6).alloc (wkH6 w.heap.size)).heap.size=w.heap.size+1+1:=by simp
 have hW:(w.alloc (.cells #[.int .u8 32,.string ⟨#[49,10]⟩,.int .u8 45,.string ⟨#[50]⟩] 103)).alloc (.cells #[.int .i64 1,.int .i64 2,.int .i64 1,.int .i64 1,.slice (some ⟨w.heap.size,0,none⟩) 2 2] 59)=(w.alloc wkM6).alloc (wkH6 w.heap.size):=rfl
 go_enter Tryz.func29,Tryz.ntmps29
 go_wp2_with fail
 have hA:Below ((w.alloc wkM6).alloc (wkH6 w.heap.size)).heap.size ((w.alloc wkM6).alloc (wkH6 w.heap.size)) (((w.alloc wkM6).alloc (wkH6 w.heap.size)).alloc (.cells #[.string ⟨#[97]⟩,.string ⟨#[98]⟩,.slice (some ⟨w.heap.size+1,0,none⟩) 1 1] 55)):=(Below.refl _ _).alloc (Nat.le_refl _) _
 have hx2:(((w.alloc wkM6).alloc (wkH6 w.heap.size)).alloc (.cells #[.string ⟨#[97]⟩,.string ⟨#[98]⟩,.slice (some ⟨w.heap.size+1,0,none⟩) 1 1] 55)).heap[w.heap.size+1+1]?=some (.cells #[.string ⟨#[97]⟩,.string ⟨#[98]⟩,.slice (some ⟨w.heap.size+1,0,none⟩) 1 1] 55):=(by rw[← hz1];exact heap_alloc_new _ _)
 have hh2:=hh.keep hA (Nat.le_refl _)
 have hB2:=hB1.trans (hA.mono hB1.size)
 clear hh hB1 hz1 hW hA
 generalize ((w.alloc wkM6).alloc (wkH6 w.heap.size)).alloc (.cells #[.string ⟨#[97]⟩,.string ⟨#[98]⟩,.slice (some ⟨w.heap.size+1,0,none⟩) 1 1] 55)=W2 at hh2 hB2 hx2 ⊢
 have HTb2:Hid (Tab10 W2):=HTb.out.on hB2
 have hcall:=Zta wkP6 [(wkK6,.slice (some ⟨w.heap.size,0,none⟩) 2 2)] (show Hid _ from rfl) (.slice (some ⟨w.heap.size+1,0,none⟩) 1 1) W2 hh2 (ZuK _) (by decide) (by decide) HTb2 wkT6 0 ZuI ZuH (by decide)
 refine hcall.mono ?_
 rintro e w3 ⟨rfl,hB3⟩
 have hB03:=hB2.trans (hB3.mono hB2.size)
 have hh3:=hh2.keep hB3 (Nat.le_refl _)
 have hx3:=(hB3.block _ (Array.getElem?_eq_some_iff.1 hx2).1).trans hx2
 have HX:Hid (unT atC wkT6=.ok [wkP6]):=ZuG
 have hTl:wkT6.length≤1099511627776:=(by decide)
 clear hcall hh2 hx2 hB2 hB3 HTb2 HTb
 go_wp2_with fail
 refine (ZsZ wkT6 w3 _ HX hTl (hmx.low hB03)).mono ?_
 rintro e w4 ⟨v4,F,rfl,hPw,hFm⟩
 obtain⟨f,rfl,hfx⟩:=ZuN hFm
 have hv4:=hPw.holds
 obtain⟨o4,c4,rfl⟩:=Holds.form hv4.row
 have hB04:=hB03.trans (hPw.low.mono hB03.size)
 have hh4:=hh3.keep hPw.low (Nat.le_refl _)
 have hx4:=(hPw.low.block _ (Array.getElem?_eq_some_iff.1 hx3).1).trans hx3
 have hp4:=(Array.getElem?_eq_some_iff.1 hx4).1
 obtain⟨b4,f4,rfl,hb4,hc4⟩:=HPp.at hv4 (by simp)
 obtain⟨d0,d1,d2⟩:=hc4 0 (by simp)
 obtain⟨g1,g2⟩:=hv4.ins f (by simp)
 have hov:HOw f.hs:=(by
  have h0:f.hs.map (·.1)=[wkK6]:=by rw[g1,hfx];rfl
  refine⟨?_,fun z hz=>?_⟩
  ·have:=congrArg List.length h0
   rw[List.length_map] at this
   rw[this]
   decide
  ·have h2:z.1∈[wkK6]:=by rw[← h0];exact List.mem_map_of_mem hz
   rw[List.mem_singleton.1 h2]
   decide)
 have hcall:=fun u (hu:Below w4.heap.size w4 u)=>Zpj f.x wkP6 f.hs [(wkK6,.slice (some ⟨w.heap.size,0,none⟩) 2 2)] g1 (show Hid _ from rfl) f.v (.slice (some ⟨w.heap.size+1,0,none⟩) 1 1) u (g2.keep hu (Nat.le_refl _)) (hh4.keep hu (Nat.le_refl _)) hov true (show Hid (true=true↔f.x=wkP6) from ⟨fun _=>hfx,fun _=>rfl⟩)
 obtain⟨fo,fc,hfv⟩:=Holds.form g2.row
 have e0:w4.cell? ⟨b4,f4,none⟩=some (.string ⟨f.x.old.toArray⟩):=(by simpa using d0)
 have e4:w4.cell? ⟨b4,f4+1,none⟩=some (.string ⟨f.x.new.toArray⟩):=(by simpa using d1)
 have e5:w4.cell? ⟨b4,f4+2,none⟩=some (.slice fo f.hs.length fc):=(by rw[← hfv];simpa using d2)
 have p0:w4.cell? ⟨w.heap.size+1+1,0,none⟩=some (.string ⟨#[97]⟩):=(by rw[Lib.cell_of_heap hx4];rfl)
 have p1:w4.cell? ⟨w.heap.size+1+1,1,none⟩=some (.string ⟨#[98]⟩):=(by rw[Lib.cell_of_heap hx4];rfl)
 have p2:w4.cell? ⟨w.heap.size+1+1,2,none⟩=some (.slice (some ⟨w.heap.size+1,0,none⟩) 1 1):=(by rw[Lib.cell_of_heap hx4];rfl)
 unfold ptV at hcall
 rw[hfv] at hcall
 have hcall2:∀ u,Below w4.heap.size w4 u→Calls Tryz.prog 72 #[.agg #[.string ⟨f.x.old.toArray⟩,.string ⟨f.x.new.toArray⟩,.slice fo f.hs.length fc],.agg #[.string ⟨#[97]⟩,.string ⟨#[98]⟩,.slice (some ⟨w.heap.size+1,0,none⟩) 1 1]] u fun e w'=>e=.returned (.bool true)∧Below u.heap.size u w':=hcall
 have hlo:=Below.refl w4.heap.size w4
 clear hcall hPw hFm HX hv4 hc4 d0 d1 d2 g1 g2 hfx hfv hh3 hh4 hx3 hx4 hB03 hov hTl
 generalize f.x.old=fold at *
 generalize f.x.new=fnew at *
 have HC:Hid (∀ u,Below w4.heap.size w4 u→u.cell? ⟨b4,f4,none⟩=some (.string ⟨fold.toArray⟩)∧u.cell? ⟨b4,f4+1,none⟩=some (.string ⟨fnew.toArray⟩)∧u.cell? ⟨b4,f4+2,none⟩=some (.slice fo f.hs.length fc)∧u.cell? ⟨w.heap.size+1+1,0,none⟩=some (.string ⟨#[97]⟩)∧u.cell? ⟨w.heap.size+1+1,1,none⟩=some (.string ⟨#[98]⟩)∧u.cell? ⟨w.heap.size+1+1,2,none⟩=some (.slice (some ⟨w.heap.size+1,0,none⟩) 1 1)):=fun u hu =>
  ⟨(World.cell?_of_block (hu.block b4 hb4)).trans e0,(World.cell?_of_block (hu.block b4 hb4)).trans e4,(World.cell?_of_block (hu.block b4 hb4)).trans e5,(World.cell?_of_block (hu.block _ hp4)).trans p0,(World.cell?_of_block (hu.block _ hp4)).trans p1,(World.cell?_of_block (hu.block _ hp4)).trans p2⟩
 clear e0 e4 e5 p0 p1 p2
 simp only[List.length_cons,List.length_nil,Nat.zero_add]
 go_upto_region 4 with fail
 refine wp_region_noPanic ?_
 refine wp_region_held_drew (S:=fun u=>Below w4.heap.size w4 u) (by kernel_rfl) (Below.refl _ w4).drew (fun hHeld=>?_)
 generalize w4.drew=wd at hHeld ⊢
 refine Y_t 0 22 _ (.int .i64 0) rfl (Or.inl ⟨by kernel_rfl,fun u hu=>by kernel_rfl⟩) hHeld ?_
 simp only[Act.put,Y_a,Y_b,Y_c]
 refine Y_t 1 23 _ (.bool true) rfl (Or.inl ⟨by kernel_rfl,fun u hu=>by kernel_rfl⟩) hHeld ?_
 simp only[Act.put,Y_a,Y_b,Y_c]
 refine Y_t 2 24 _ (.bool true) rfl (Or.inl ⟨by kernel_rfl,fun u hu=>by kernel_rfl⟩) hHeld ?_
 simp only[Act.put,Y_a,Y_b,Y_c]
 refine Y_t 3 25 _ (.string ⟨wkT6.toArray⟩) rfl (Or.inl ⟨by kernel_rfl,fun u hu=>by kernel_rfl⟩) hHeld ?_
 simp only[Act.put,Y_a,Y_b,Y_c]
 refine Y_t 4 26 _ (.bool true) rfl (Or.inl ⟨by kernel_rfl,fun u hu=>by kernel_rfl⟩) hHeld ?_
 simp only[Act.put,Y_a,Y_b,Y_c]
 refine Y_t 5 27 _ (.bool true) rfl (Or.inl ⟨by kernel_rfl,fun u hu=>by kernel_rfl⟩) hHeld ?_
 simp only[Act.put,Y_a,Y_b,Y_c]
 refine Y_t 6 28 _ (.bool true) rfl (Or.inl ⟨by kernel_rfl,fun u hu=>by kernel_rfl⟩) hHeld ?_
 simp only[Act.put,Y_a,Y_b,Y_c]
 refine Y_t 7 29 _ (.nilIface) rfl (Or.inl ⟨by kernel_rfl,fun u hu=>by kernel_rfl⟩) hHeld ?_
 simp only[Act.put,Y_a,Y_b,Y_c]
 refine Y_t 8 30 _ (.bool true) rfl (Or.inl ⟨by kernel_rfl,fun u hu=>by kernel_rfl⟩) hHeld ?_
 simp only[Act.put,Y_a,Y_b,Y_c]
 refine Y_t 9 31 _ (.bool true) rfl (Or.inl ⟨by kernel_rfl,fun u hu=>by kernel_rfl⟩) hHeld ?_
 simp only[Act.put,Y_a,Y_b,Y_c]
 refine Y_t 10 32 _ (.bool true) rfl (Or.inl ⟨by kernel_rfl,fun u hu=>by kernel_rfl⟩) hHeld ?_
 simp only[Act.put,Y_a,Y_b,Y_c]
 refine Y_t 11 33 _ (.slice (some ⟨b4,f4,none⟩) 1 c4) rfl (Or.inl ⟨by kernel_rfl,fun u hu=>by kernel_rfl⟩) hHeld ?_
 simp only[Act.put,Y_a,Y_b,Y_c]
 refine Y_t 12 34 _ (.int .i64 1) rfl (Or.inl ⟨by kernel_rfl,fun u hu=>by kernel_rfl⟩) hHeld ?_
 simp only[Act.put,Y_a,Y_b,Y_c]
 refine Y_t 13 35 _ (.bool true) rfl (Or.inl ⟨by kernel_rfl,fun u hu=>by kernel_rfl⟩) hHeld ?_
 simp only[Act.put,Y_a,Y_b,Y_c]
 refine Y_t 14 36 _ (.bool true) rfl (Or.inl ⟨by kernel_rfl,fun u hu=>by kernel_rfl⟩) hHeld ?_
 simp only[Act.put,Y_a,Y_b,Y_c]
 refine Y_t 15 37 _ (.bool true) rfl (Or.inl ⟨by kernel_rfl,fun u hu=>by kernel_rfl⟩) hHeld ?_
 simp only[Act.put,Y_a,Y_b,Y_c]
 refine Y_t 16 38 _ (.slice (some ⟨b4,f4,none⟩) 1 c4) rfl (Or.inl ⟨by kernel_rfl,fun u hu=>by kernel_rfl⟩) hHeld ?_
 simp only[Act.put,Y_a,Y_b,Y_c]
 refine Y_t 17 39 _ (.pointer (some ⟨b4,f4,none⟩)) rfl (Or.inl ⟨by kernel_rfl,fun u hu=>by kernel_rfl⟩) hHeld ?_
 simp only[Act.put,Y_a,Y_b,Y_c]
 refine Y_t 18 40 _ (.agg #[.string ⟨fold.toArray⟩,.string ⟨fnew.toArray⟩,.slice fo f.hs.length fc]) rfl (Or.inl ⟨by kernel_rfl,fun u hu=>ZkB (HC.out u hu).1 (HC.out u hu).2.1 (HC.out u hu).2.2.1 (.tmp 39) (by kernel_rfl) (by kernel_rfl)⟩) hHeld ?_
 simp only[Act.put,Y_a,Y_b,Y_c]
 refine Y_t 19 41 _ (.agg #[.string ⟨#[97]⟩,.string ⟨#[98]⟩,.slice (some ⟨w.heap.size+1,0,none⟩) 1 1]) rfl (Or.inl ⟨by kernel_rfl,fun u hu=>ZkB (HC.out u hu).2.2.2.1 (HC.out u hu).2.2.2.2.1 (HC.out u hu).2.2.2.2.2 (.tmp 1) (by kernel_rfl) (by kernel_rfl)⟩) hHeld ?_
 simp only[Act.put,Y_a,Y_b,Y_c]
 refine Y_e 20 42 _ rfl 72 (.func 72) #[.tmp 40,.tmp 41] #[55,55] (by kernel_rfl) #[] (by kernel_rfl) #[.agg #[.string ⟨fold.toArray⟩,.string ⟨fnew.toArray⟩,.slice fo f.hs.length fc],.agg #[.string ⟨#[97]⟩,.string ⟨#[98]⟩,.slice (some ⟨w.heap.size+1,0,none⟩) 1 1]] (by kernel_rfl) (enters_of Tryz.func72 (by kernel_rfl) rfl) (fun v _=>v=.bool true) ?_ ?_
 ·refine (hcall2 wd hHeld).mono ?_
  rintro e w5 ⟨rfl,hB5⟩
  exact⟨_,rfl,hHeld.trans (hB5.mono hHeld.size),rfl⟩
 clear hHeld
 rintro v w5 hHeld rfl
 simp only[Act.put,Y_a,Y_b,Y_c]
 refine Y_t 21 43 _ (.bool true) rfl (Or.inl ⟨by kernel_rfl,fun u hu=>by kernel_rfl⟩) hHeld ?_
 simp only[Act.put,Y_a,Y_b,Y_c]
 refine Y_t 22 0 _ (.bool true) rfl (Or.inl ⟨by kernel_rfl,fun u hu=>by kernel_rfl⟩) hHeld ?_
 simp only[Act.put,List.setIfInBounds_toArray,List.set_cons_zero]
 refine wpAnyH_done (by kernel_rfl) ?_ _
 refine NoPanic.normal ?_
 have hB6:=hB04.trans (hHeld.mono hB04.size)
 go_wp2
 go_ret
 exact⟨rfl,hB6⟩
end

section
open Go.RowKit
end

section
open Go.RowKit
end

section
open Go.RowKit
theorem Zfy {u:World} {x y:List UInt8} (h:Fits x y) {op:Oper} (p q:Operand) (ho:op.op=.binOp .add 9 p q 9) {ev:Operand→Value} (hx:ev p=.string ⟨x.toArray⟩) (hy:ev q=.string ⟨y.toArray⟩) :
  (execOp ev op).run Tryz.prog u=.ok (.value (.string ⟨(x++y).toArray⟩)) u:=by
 have h1:=ZaJ h Tryz.prog u
 simp only[execOp,ho,hx,hy]
 go_simp
theorem Znx {e:TypeId} {b:Option Nat} {w u:World} (h:Below w.heap.size w u):Lib.OthersKept e b w u:=fun k _ hk _ _=>(h.block k (Array.getElem?_eq_some_iff.1 hk).1).trans hk
theorem ZpI {p n:Int} (h:1≤n):rgx (p+1) n=rngT p n:=by
 unfold rgx rngT
 by_cases h1:n=1
 ·rw[if_pos (by omega),if_pos h1]
 ·rw[if_neg (by omega),if_neg h1]
  have e:p+1+n-1=p+n:=by omega
  rw[e]
theorem ZdD {c:Ch} (hn:numB c=true):rgx (noA c.A c.AN) c.AN++ltrT c.AN c.BN++rgx (noA c.B c.BN) c.BN=cmdT c:=by
 have h:=(ZmM c).1 hn
 unfold ltrT cmdT noA
 by_cases h1:c.AN=0
 ·have e1:rgx c.A c.AN=Lib.itoa c.A:=by unfold rgx;rw[if_pos (by omega)]
  rw[if_pos h1,if_pos h1,if_neg (by omega),if_pos (by omega),ZpI (by omega),e1]
  simp
 ·rw[if_neg h1,if_neg h1,if_pos (by omega),ZpI (by omega)]
  by_cases h2:c.BN=0
  ·have e1:rgx c.B c.BN=Lib.itoa c.B:=by unfold rgx;rw[if_pos (by omega)]
   rw[if_pos h2,if_pos h2,if_neg (by omega),e1]
   simp
  ·rw[if_neg h2,if_neg h2,if_pos (by omega),ZpI (by omega)]
   simp
theorem Zvt (X Y:List (List UInt8)):pkL 43 (mks 45 X++mks 43 Y)=X:=by
 rw[Zol,ZmF,ZmF,if_pos (by decide),if_neg (by decide)]
 simp
theorem Zvs (X Y:List (List UInt8)):pkL 45 (mks 45 X++mks 43 Y)=Y:=by
 rw[Zol,ZmF,ZmF,if_neg (by decide),if_pos (by decide)]
 simp
theorem Zhf (l:List Ch) (n m:Int):grpE l n m 0=chk l n m:=by
 unfold grpE
 split
 ·rfl
 ·rename_i h
  rw[if_neg (by omega)]
  omega
theorem ZcJ (a b:List (List UInt8)) (c:Ch):(chgL a b c).flatten=cmdT c++[10]++((cut a c.A c.AN).flatMap (lnL [60,32])).flatten++(sepL c).flatten++((cut b c.B c.BN).flatMap (lnL [62,32])).flatten:=by
 unfold chgL
 simp only[List.flatten_cons,List.flatten_append,List.append_assoc]
theorem Zvp {b:Nat} {acc s:List UInt8} {W w1 u:World} (hB:Lib.IsBuilderF 77 5 b b (Lib.byteCells acc) u) (hl:acc.length+s.length≤140737488355328) (hz:b≤u.heap.size) (hS:Lib.OthersKept 5 (some b) W u∧Below b w1 u) :
  Calls Tryz.prog 34 (#[.pointer (some ⟨b,0,none⟩),.string ⟨s.toArray⟩]++#[]) u fun e w'=>∃ v,e=.returned v∧(Lib.OthersKept 5 (some b) W w'∧Below b w1 w')∧(Lib.IsBuilderF 77 5 b b (Lib.byteCells (acc++s)) w'∧∃ z,v=.tuple #[z,.nilIface]):=by
 refine (Tryz.WriteString_h b b _ ⟨s.toArray⟩ u hB (by rw[Zbk];exact hl) hz).mono ?_
 rintro e w' ⟨rfl,h1,h2,h3⟩
 exact⟨_,rfl,⟨hS.1.trans h3,hS.2.trans h2⟩,.inr (by rw[Lib.byteCells_append];exact h1),_,rfl⟩
theorem ZlW (l:List Ch) (vl va vb:Value) (a b:List (List UInt8)) (w:World) (hl:HCh w vl l) (ha:HS w va a) (hb:HS w vb b) (hll:l.length≤1099511627776) (hla:a.length≤137438953472) (hlb:b.length≤137438953472) (hta:∀ s∈a,s.length≤1099511627776) (htb:∀ s∈b,s.length≤1099511627776) (HTb:Hid (Tab10 w))
  (r:Int) (HR:Hid (chk l a.length b.length=r)) (T:List UInt8) (HT:Hid ((if r=0 then prtT l a b else [])=T)) (hT:T.length≤70368744177664) :
  Calls Tryz.prog 14 #[vl,va,vb] w fun e w'=>e=.returned (.tuple #[.string ⟨T.toArray⟩,.int .i64 r])∧Below w.heap.size w w':=by
 obtain⟨lo,lc,rfl⟩:=Holds.form hl
 obtain⟨ao,ca,rfl⟩:=Holds.form ha
 obtain⟨bo,cb,rfl⟩:=Holds.form hb
 have HZ0:Hid (grpE l a.length b.length 0=r):=(by show _=_;rw[Zhf];exact HR.out)
 obtain⟨M,hM⟩:∃ M,mkR l a b 0=M:=⟨_,rfl⟩
 have HM:Hid (mkR l a b 0=M):=hM
 have HTA:Hid (∀ s∈a,s.length≤1099511627776):=hta
 have HTB:Hid (∀ s∈b,s.length≤1099511627776):=htb
 clear hM hta htb
 go_enter Tryz.func14,Tryz.ntmps14
 go_wp2_with fail
 refine (ZhA l a b 0 _ _ _ w hl ha hb (by omega) (by omega) (by omega) r HZ0 M HM).mono ?_
 rintro e w1 ⟨v1,P,rfl,hHs,hPM⟩
 have HPM:Hid (P.map (·.1)=M):=hPM
 clear hPM hl ha hb
 have hlow:=hHs.low
 have hH:=hHs.holds
 obtain⟨po,pc,rfl⟩:=hH.1.form
 clear hHs
 by_cases hr:r=0
 ·subst hr
  have hTT:=HT.out
  rw[if_pos rfl] at hTT
  have hs:Script l a.length b.length:=(by
   by_cases h:Script l a.length b.length
   ·exact h
   ·have:=ZcU h
    rw[HR.out] at this
    cases this)
  have hMP:P.map (·.1)=l.map fun c=>oneH a b 0 [c]:=(by rw[HPM.out,← HM.out];exact ZlG hs)
  have HMP:Hid (P.map (·.1)=l.map fun c=>oneH a b 0 [c]):=hMP
  have HPl:Hid (P.length=l.length):=(by show P.length=l.length;have:=congrArg List.length hMP;simpa using this)
  have HMH:Hid (∀ c∈l,numB c=true∧c.A+c.AN≤(a.length:Int)∧c.B+c.BN≤(b.length:Int)):=ZpK hs.2.2
  have HT1:Hid (Tab10 w1):=HTb.out.on hlow
  have HTT:Hid (prtT l a b=T):=hTT
  clear hs hMP HT HR HZ0 HPM HM hTT HTb
  have HTb:=HT1
  clear HT1
  have hF0:=ZiS w1
  have hBw:Below w1.heap.size w1 (w1.alloc (.cells #[.pointer none,.slice none 0 0] 77)):=(Below.refl _ w1).alloc (Nat.le_refl _) _
  have HPl2:=HPl.out
  have hPl:P.length≤1099511627776:=by omega
  clear HPl2
  go_wp2
  go_loopw [25] (fun i wr=>∃ (k:Nat) (acc:List UInt8),k≤P.length∧i=.int .i64 (k:Int)∧Lib.IsBuilderF 77 5 w1.heap.size w1.heap.size (Lib.byteCells acc) wr∧Below w1.heap.size w1 wr∧Hid (acc++prtT (l.drop k) a b=T)) (fun i _=>P.length-(intOf i).toNat)
  case atStart=>exact⟨0,[],Nat.zero_le _,by go_num,hF0,hBw,HTT⟩
  case round =>
  clear hF0 hBw HTT
  obtain⟨k,acc,hk,rfl,hBr,hbr,HI⟩:=hrel
  by_cases hlt:k<P.length
  ·have hkl:k<l.length:=(by have:=HPl.out;omega)
   obtain⟨⟨x,y⟩,hxy⟩:∃ q,P[k]=q:=⟨_,rfl⟩
   obtain⟨c,hc⟩:∃ c,l[k]=c:=⟨_,rfl⟩
   have hx:x=oneH a b 0 [c]:=(by
    have h1:(P.map (·.1))[k]?=(l.map fun c=>oneH a b 0 [c])[k]?:=by rw[HMP.out]
    rw[List.getElem?_map,List.getElem?_map,List.getElem?_eq_getElem hlt,List.getElem?_eq_getElem hkl,hxy,hc] at h1
    simpa using h1)
   have hm:=HMH.out l[k] (List.getElem_mem hkl)
   rw[hc] at hm
   rw[Zns hm.1 hm.2.1 hm.2.2] at hx
   have hn:=(ZmM c).1 hm.1
   obtain⟨bk,off,rfl,hbk,_⟩:=HHp.at hH (by omega)
   obtain⟨⟨c0,c1,c2,c3,c4⟩,hml2⟩:=HHp.take hH hbr k hlt hxy
   have hml:HMk w1 y x.ls:=(by
    have h:=hH.2 P[k] (List.getElem_mem hlt)
    rw[hxy] at h
    exact h)
   obtain⟨yo,yc,rfl⟩:=HMk.form hml
   obtain⟨RA,hRA⟩:∃ R,cut a c.A c.AN=R:=⟨_,rfl⟩
   obtain⟨RB,hRB⟩:∃ R,cut b c.B c.BN=R:=⟨_,rfl⟩
   have HOl:Hid (oldL x=RA):=(by show _=_;rw[hx,← hRA];exact Zvt _ _)
   have HNw:Hid (newL x=RB):=(by show _=_;rw[hx,← hRB];exact Zvs _ _)
   have hA0:0≤x.A∧x.A≤2147483648∧0≤x.AN∧x.AN≤2147483648∧0≤x.B∧x.B≤2147483648∧0≤x.BN∧x.BN≤2147483648:=(by
    rw[hx]
    unfold noA
    dsimp only
    refine⟨?_,?_,by omega,by omega,?_,?_,by omega,by omega⟩<;>split<;>omega)
   have hRAl:RA.length≤a.length:=(by rw[← hRA];unfold cut;simp only[List.length_take,List.length_drop];omega)
   have hRBl:RB.length≤b.length:=(by rw[← hRB];unfold cut;simp only[List.length_take,List.length_drop];omega)
   have hxl:x.ls.length≤1099511627776:=(by rw[hx];dsimp only;rw[List.length_append];unfold mks;rw[List.length_map,List.length_map,hRA,hRB];omega)
   have HRAt:Hid (∀ s∈RA,s.length≤1099511627776):=(by intro s hs;rw[← hRA] at hs;exact HTA.out s (Zli hs))
   have HRBt:Hid (∀ s∈RB,s.length≤1099511627776):=(by intro s hs;rw[← hRB] at hs;exact HTB.out s (Zli hs))
   obtain⟨T1,HT1⟩:∃ T1,Hid (rgx x.A x.AN=T1):=⟨_,rfl⟩
   obtain⟨T2,HT2⟩:∃ T1,Hid (ltrT x.AN x.BN=T1):=⟨_,rfl⟩
   obtain⟨T3,HT3⟩:∃ T1,Hid (rgx x.B x.BN=T1):=⟨_,rfl⟩
   have l1:T1.length≤43:=(by rw[← HT1.out];exact ZpH (by omega) (by omega) (by omega) (by omega))
   have l2:T2.length=1:=(by rw[← HT2.out];exact ZkN _ _)
   have l3:T3.length≤43:=(by rw[← HT3.out];exact ZpH (by omega) (by omega) (by omega) (by omega))
   have hF1:Fits T1 T2:=by unfold Fits;omega
   have hF2:Fits (T1++T2) T3:=by unfold Fits;rw[List.length_append];omega
   have hF3:Fits (T1++T2++T3) [10]:=by unfold Fits;simp only[List.length_append,List.length_cons,List.length_nil];omega
   have hlC:(T1++T2++T3++[10]).length≤100:=by simp only[List.length_append,List.length_cons,List.length_nil];omega
   obtain⟨dv,HDV⟩:∃ dv,Hid ((decide (0<x.AN) && decide (0<x.BN))=dv):=⟨_,rfl⟩
   obtain⟨ac2,hA2⟩:∃ z,acc++(T1++T2++T3++[10])++(RA.flatMap (lnL [60,32])).flatten=z:=⟨_,rfl⟩
   have HA2:Hid (acc++(T1++T2++T3++[10])++(RA.flatMap (lnL [60,32])).flatten=ac2):=hA2
   clear hA2
   obtain⟨ac4,hA4⟩:∃ z,ac2++(if dv=true then [45,45,45,10] else [])++(RB.flatMap (lnL [62,32])).flatten=z:=⟨_,rfl⟩
   have HA4:Hid (ac2++(if dv=true then [45,45,45,10] else [])++(RB.flatMap (lnL [62,32])).flatten=ac4):=hA4
   clear hA4
   have HEnd:Hid (ac4++prtT (l.drop (k+1)) a b=T):=(by
    show _=_
    have e1:prtT (l.drop k) a b=(chgL a b c).flatten++prtT (l.drop (k+1)) a b:=(by
     rw[List.drop_eq_getElem_cons hkl,hc]
     unfold prtT prtL
     rw[List.flatMap_cons,List.flatten_append])
    have e2:(sepL c).flatten=(if dv=true then [45,45,45,10] else []):=(by
     rw[← HDV.out,hx]
     unfold sepL
     dsimp only
     by_cases hb1:0<c.AN
     ·by_cases hb2:0<c.BN
      ·rw[if_pos ⟨hb1,hb2⟩,if_pos (by simp[hb1,hb2])]
       rfl
      ·rw[if_neg (fun h=>hb2 h.2),if_neg (by simp[hb2])]
       rfl
     ·rw[if_neg (fun h=>hb1 h.1),if_neg (by simp[hb1])]
      rfl)
    have e3:T1++T2++T3=cmdT c:=(by
     rw[← HT1.out,← HT2.out,← HT3.out,hx]
     exact ZdD hm.1)
    rw[← HI.out,e1,ZcJ,← HA4.out,← HA2.out,e2,e3,hRA,hRB]
    simp only[List.append_assoc])
   have hal4:ac4.length≤70368744177664:=(by
    have h:=congrArg List.length HEnd.out
    rw[List.length_append] at h
    omega)
   have hal2:ac2.length+(if dv=true then [45,45,45,10] else ([]:List UInt8)).length≤70368744177664:=(by
    have h:=congrArg List.length HA4.out
    rw[List.length_append,List.length_append] at h
    omega)
   have hal0:acc.length≤70368744177664:=(by
    have h:=congrArg List.length HA2.out
    rw[List.length_append,List.length_append] at h
    omega)
   have i1:0≤(k:Int):=by omega
   have i2:(k:Int)<(P.length:Int):=by omega
   have hx2:=Hx.new wr x (.slice yo x.ls.length yc)
   have hb2:Below w1.heap.size w1 (wr.alloc (hkO x (.slice yo x.ls.length yc))):=hbr.alloc hbr.size _
   have hB2:=ZiU hBr ((Below.refl _ wr).alloc (Nat.le_refl _) (hkO x (.slice yo x.ls.length yc)))
   have hHb:w1.heap.size<wr.heap.size:=(by
    rcases hBr with ⟨_,_,h,_⟩ | ⟨_,_,h,_⟩<;>exact (Array.getElem?_eq_some_iff.1 h).1)
   have hW:wr.alloc (Obj.cells #[.int .i64 x.A,.int .i64 x.AN,.int .i64 x.B,.int .i64 x.BN,.slice yo x.ls.length yc] 59)=wr.alloc (hkO x (.slice yo x.ls.length yc)):=rfl
   clear hx hxy hc hm hn hRA hRB HI hml2 HMP HMH HTA HTB hkl HPl
   go_upto_region 8 with fail
   generalize wr.alloc (hkO x (.slice yo x.ls.length yc))=W2 at *
   clear hW c0 c1 c2 c3 c4 hBr
   have hS2:Lib.OthersKept 5 (some w1.heap.size) W2 W2.drew∧Below w1.heap.size w1 W2.drew:=⟨Lib.OthersKept.refl _ _ _,hb2.drew⟩
   have hxu:∀ u,Lib.OthersKept 5 (some w1.heap.size) W2 u→Hx u wr.heap.size x (.slice yo x.ls.length yc):=fun u hu=>Ziv hx2 hu (by omega)
   have hBd:Lib.IsBuilderF 77 5 w1.heap.size w1.heap.size (Lib.byteCells acc) W2.drew:=hB2
   refine wp_region_noPanic ?_
   refine wp_region_held_drew (S:=fun u=>Lib.OthersKept 5 (some w1.heap.size) W2 u∧Below w1.heap.size w1 u) (by kernel_rfl) hS2 (fun hHeld=>?_)
   clear hS2
   generalize W2.drew=wd at hHeld hBd ⊢
   refine Y_t 0 29 _ (.pointer (some ⟨wr.heap.size,0,none⟩)) rfl (Or.inl ⟨by kernel_rfl,fun u hu=>by kernel_rfl⟩) hHeld ?_
   simp only[Act.put,Y_a,Y_b,Y_c]
   refine Y_t 1 30 _ (.int .i64 x.A) rfl (Or.inl ⟨by kernel_rfl,fun u hu=>ZkA (hxu u hu.1).cells.1 (.tmp 29) (by kernel_rfl) (by kernel_rfl)⟩) hHeld ?_
   simp only[Act.put,Y_a,Y_b,Y_c]
   refine Y_t 2 31 _ (.pointer (some ⟨wr.heap.size,1,none⟩)) rfl (Or.inl ⟨by kernel_rfl,fun u hu=>by kernel_rfl⟩) hHeld ?_
   simp only[Act.put,Y_a,Y_b,Y_c]
   refine Y_t 3 32 _ (.int .i64 x.AN) rfl (Or.inl ⟨by kernel_rfl,fun u hu=>ZkA (hxu u hu.1).cells.2.1 (.tmp 31) (by kernel_rfl) (by kernel_rfl)⟩) hHeld ?_
   simp only[Act.put,Y_a,Y_b,Y_c]
   refine Y_t 5 34 _ (hkV x (.slice yo x.ls.length yc)) rfl (Or.inl ⟨by kernel_rfl,fun u hu=>Zkw (hxu u hu.1) (.tmp 12) (by kernel_rfl) (by kernel_rfl)⟩) hHeld ?_
   simp only[Act.put,Y_a,Y_b,Y_c]
   refine Y_t 8 37 _ (.pointer (some ⟨wr.heap.size,2,none⟩)) rfl (Or.inl ⟨by kernel_rfl,fun u hu=>by kernel_rfl⟩) hHeld ?_
   simp only[Act.put,Y_a,Y_b,Y_c]
   refine Y_t 9 38 _ (.int .i64 x.B) rfl (Or.inl ⟨by kernel_rfl,fun u hu=>ZkA (hxu u hu.1).cells.2.2.1 (.tmp 37) (by kernel_rfl) (by kernel_rfl)⟩) hHeld ?_
   simp only[Act.put,Y_a,Y_b,Y_c]
   refine Y_t 10 39 _ (.pointer (some ⟨wr.heap.size,3,none⟩)) rfl (Or.inl ⟨by kernel_rfl,fun u hu=>by kernel_rfl⟩) hHeld ?_
   simp only[Act.put,Y_a,Y_b,Y_c]
   refine Y_t 11 40 _ (.int .i64 x.BN) rfl (Or.inl ⟨by kernel_rfl,fun u hu=>ZkA (hxu u hu.1).cells.2.2.2.1 (.tmp 39) (by kernel_rfl) (by kernel_rfl)⟩) hHeld ?_
   simp only[Act.put,Y_a,Y_b,Y_c]
   refine Y_e 4 33 _ rfl 35 (.func 35) #[.tmp 30,.tmp 32] #[3,3] (by kernel_rfl) #[] (by kernel_rfl) #[.int .i64 x.A,.int .i64 x.AN] (by kernel_rfl) (enters_of Tryz.func35 (by kernel_rfl) rfl) (fun v u=>v=.string ⟨T1.toArray⟩∧Below wd.heap.size wd u) ((ZmH x.A x.AN (by omega) (by omega) (by omega) (by omega) wd (HTb.out.on hHeld.2) T1 HT1).mono (fun _ q hq=>⟨_,hq.1,⟨hHeld.1.trans (Znx hq.2),hHeld.2.trans (hq.2.mono hHeld.2.size)⟩,rfl,hq.2⟩)) ?_
   rintro _ u1 hH1 ⟨rfl,hL1⟩
   simp only[Act.put,Y_a,Y_b,Y_c]
   refine Y_e 6 35 _ rfl 36 (.func 36) #[.tmp 34] #[59] (by kernel_rfl) #[] (by kernel_rfl) #[hkV x (.slice yo x.ls.length yc)] (by kernel_rfl) (enters_of Tryz.func36 (by kernel_rfl) rfl) (fun v u=>v=.string ⟨T2.toArray⟩∧Below u1.heap.size u1 u) ((Zmw x _ u1 (HMk.keep hml hH1.2 (Nat.le_refl _)) T2 HT2).mono (fun _ q hq=>⟨_,hq.1,⟨hH1.1.trans (Znx hq.2),hH1.2.trans (hq.2.mono hH1.2.size)⟩,rfl,hq.2⟩)) ?_
   rintro _ u2 hH2 ⟨rfl,hL2⟩
   simp only[Act.put,Y_a,Y_b,Y_c]
   refine Y_t 7 36 _ (.string ⟨(T1++T2).toArray⟩) rfl (Or.inl ⟨by kernel_rfl,fun u hu=>Zfy hF1 (.tmp 33) (.tmp 35) (by kernel_rfl) (by kernel_rfl) (by kernel_rfl)⟩) hH2 ?_
   simp only[Act.put,Y_a,Y_b,Y_c]
   refine Y_e 12 41 _ rfl 35 (.func 35) #[.tmp 38,.tmp 40] #[3,3] (by kernel_rfl) #[] (by kernel_rfl) #[.int .i64 x.B,.int .i64 x.BN] (by kernel_rfl) (enters_of Tryz.func35 (by kernel_rfl) rfl) (fun v u=>v=.string ⟨T3.toArray⟩∧Below u2.heap.size u2 u) ((ZmH x.B x.BN (by omega) (by omega) (by omega) (by omega) u2 (HTb.out.on hH2.2) T3 HT3).mono (fun _ q hq=>⟨_,hq.1,⟨hH2.1.trans (Znx hq.2),hH2.2.trans (hq.2.mono hH2.2.size)⟩,rfl,hq.2⟩)) ?_
   rintro _ u3 hH3 ⟨rfl,hL3⟩
   simp only[Act.put,Y_a,Y_b,Y_c]
   refine Y_t 13 42 _ (.string ⟨(T1++T2++T3).toArray⟩) rfl (Or.inl ⟨by kernel_rfl,fun u hu=>Zfy hF2 (.tmp 36) (.tmp 41) (by kernel_rfl) (by kernel_rfl) (by kernel_rfl)⟩) hH3 ?_
   simp only[Act.put,Y_a,Y_b,Y_c]
   refine Y_t 14 43 _ (.string ⟨(T1++T2++T3++[10]).toArray⟩) rfl (Or.inl ⟨by kernel_rfl,fun u hu=>Zfy hF3 (.tmp 42) (.const (.string ⟨#[10]⟩)) (by kernel_rfl) (by kernel_rfl) (by kernel_rfl)⟩) hH3 ?_
   simp only[Act.put,Y_a,Y_b,Y_c]
   have hbS:Below wd.heap.size wd u3:=hL1.trans ((hL2.trans (hL3.mono hL2.size)).mono hL1.size)
   have hB3:=ZiU hBd hbS
   have hz3:w1.heap.size≤u3.heap.size:=hH3.2.size
   have hws:=Zvp (s:=T1++T2++T3++[10]) hB3 (by omega) hz3 hH3
   refine Y_e 15 44 _ rfl 34 (.func 34) #[.tmp 10,.tmp 43] #[77,9] (by kernel_rfl) #[] (by kernel_rfl) #[.pointer (some ⟨w1.heap.size,0,none⟩),.string ⟨(T1++T2++T3++[10]).toArray⟩] (by kernel_rfl) (enters_of Tryz.func34 (by kernel_rfl) rfl) (fun v u=>Lib.IsBuilderF 77 5 w1.heap.size w1.heap.size (Lib.byteCells (acc++(T1++T2++T3++[10]))) u∧∃ z,v=.tuple #[z,.nilIface]) (?_) ?_
   ·exact hws
   clear hws
   rintro _ u4 hH4 ⟨hB4,z4,rfl⟩
   simp only[Act.put,Y_a,Y_b,Y_c]
   refine wpAnyH_done (by kernel_rfl) ?_ _
   refine NoPanic.normal ?_
   have hx4:=hxu u4 hH4.1
   obtain⟨d0,d1,d2,d3,d4⟩:=hx4.cells
   clear hHeld hH1 hH2 hH3 hL1 hL2 hL3 hB3 hz3 hbS hBd hB2
   go_wp2_with fail
   refine (ZhE x (.slice yo x.ls.length yc) u4 (HMk.keep hml hH4.2 (Nat.le_refl _)) hxl RA HOl).mono ?_
   rintro e u5 ⟨vo,rfl,hown5,hL5⟩
   have hform5:∃ vo1 vc1,vo=.slice vo1 RA.length vc1:=Holds.form (holds_of hown5)
   have hz4:w1.heap.size<u4.heap.size:=Nat.lt_trans hHb hx4.lt
   have HV5:Hid (∀ u,Lib.OthersKept 5 (some w1.heap.size) u5 u→HS u vo RA):=fun u hu=>holds_of (ZnM hown5 hu (fun g hg=>by have:=ZnH hown5 hg;omega))
   have hb5:=hH4.2.trans (hL5.mono hH4.2.size)
   have hB5:=ZiU hB4 hL5
   have hx5:=hx4.low hL5
   clear hown5 d0 d1 d2 d3 d4
   go_wp2_with fail
   refine (Zmy w1.heap.size w1.heap.size _ [60,32] RA vo u5 hB5 hb5.size hform5 HV5 (by omega) HRAt (by decide) ac2 HA2 (by omega)).mono ?_
   rintro e u6 ⟨rfl,hB6,hb6',ho6⟩
   have hx6:=Ziv hx5 ho6 (by omega)
   have hb6:=hb5.trans hb6'
   clear hB5 hb5 hx5 HV5 hform5 hb6' ho6 hx4 hB4 hH4 HA2
   obtain⟨d0,d1,d2,d3,d4⟩:=hx6.cells
   go_wp2_with fail
   refine (Zmj x (.slice yo x.ls.length yc) u6 ⟨_,_,_,rfl⟩ dv HDV).mono ?_
   rintro e u7 ⟨rfl,hL7⟩
   have hx7:=hx6.low hL7
   have hb7:=hb6.trans (hL7.mono hb6.size)
   have hB7:=ZiU hB6 hL7
   clear d0 d1 d2 d3 d4 hx6 hb6 hB6 hL7 HDV
   cases dv with
   | false =>
    rw[if_neg (by decide),List.append_nil] at HA4
    obtain⟨d0,d1,d2,d3,d4⟩:=hx7.cells
    go_wp2_with fail
    refine (ZhC x (.slice yo x.ls.length yc) u7 (HMk.keep hml hb7 (Nat.le_refl _)) hxl RB HNw).mono ?_
    rintro e u8 ⟨vn,rfl,hown8,hL8⟩
    have hform8:∃ vo vc,vn=.slice vo RB.length vc:=Holds.form (holds_of hown8)
    have hz7:w1.heap.size<u7.heap.size:=Nat.lt_of_lt_of_le hHb (Nat.le_of_lt hx7.lt)
    have HV8:Hid (∀ u,Lib.OthersKept 5 (some w1.heap.size) u8 u→HS u vn RB):=fun u hu=>holds_of (ZnM hown8 hu (fun g hg=>by have:=ZnH hown8 hg;omega))
    have hb8:=hb7.trans (hL8.mono hb7.size)
    have hB8:=ZiU hB7 hL8
    clear hown8 d0 d1 d2 d3 d4
    go_wp2_with fail
    refine (Zmy w1.heap.size w1.heap.size _ [62,32] RB vn u8 hB8 hb8.size hform8 HV8 (by omega) HRBt (by decide) ac4 HA4 hal4).mono ?_
    rintro e u9 ⟨rfl,hB9,hb9,ho9⟩
    go_wp2
    exact⟨⟨k+1,ac4,by omega,by go_num,hB9,hb8.trans hb9,HEnd⟩,by simp[intOf];omega⟩
   | true =>
    rw[if_pos rfl] at HA4 hal2
    have hz7b:w1.heap.size≤u7.heap.size:=hb7.size
    go_wp2_with fail
    refine (Tryz.WriteString_h w1.heap.size w1.heap.size _ _ u7 hB7 (by rw[Zbk];show ac2.length+4≤_;simp only[List.length_cons,List.length_nil] at hal2;omega) hz7b).mono ?_
    rintro e u71 ⟨rfl,hB71,hb71,ho71⟩
    have hB72:Lib.IsBuilderF 77 5 w1.heap.size w1.heap.size (Lib.byteCells (ac2++[45,45,45,10])) u71:=.inr (by rw[Lib.byteCells_append];exact hB71)
    have hx72:=Ziv hx7 ho71 (by omega)
    have hb72:=hb7.trans hb71
    clear hB71 hb71 ho71 hB7 hx7 hb7 hz7b
    have hB7:=hB72
    have hx7:=hx72
    have hb7:=hb72
    clear hB72 hx72 hb72
    generalize u71=u7 at *
    obtain⟨d0,d1,d2,d3,d4⟩:=hx7.cells
    go_wp2_with fail
    refine (ZhC x (.slice yo x.ls.length yc) u7 (HMk.keep hml hb7 (Nat.le_refl _)) hxl RB HNw).mono ?_
    rintro e u8 ⟨vn,rfl,hown8,hL8⟩
    have hform8:∃ vo vc,vn=.slice vo RB.length vc:=Holds.form (holds_of hown8)
    have hz7:w1.heap.size<u7.heap.size:=Nat.lt_of_lt_of_le hHb (Nat.le_of_lt hx7.lt)
    have HV8:Hid (∀ u,Lib.OthersKept 5 (some w1.heap.size) u8 u→HS u vn RB):=fun u hu=>holds_of (ZnM hown8 hu (fun g hg=>by have:=ZnH hown8 hg;omega))
    have hb8:=hb7.trans (hL8.mono hb7.size)
    have hB8:=ZiU hB7 hL8
    clear hown8 d0 d1 d2 d3 d4
    go_wp2_with fail
    refine (Zmy w1.heap.size w1.heap.size _ [62,32] RB vn u8 hB8 hb8.size hform8 HV8 (by omega) HRBt (by decide) ac4 HA4 hal4).mono ?_
    rintro e u9 ⟨rfl,hB9,hb9,ho9⟩
    go_wp2
    exact⟨⟨k+1,ac4,by omega,by go_num,hB9,hb8.trans hb9,HEnd⟩,by simp[intOf];omega⟩
  ·have HE:Hid (acc=T):=(by
    have h:=HI.out
    rw[List.drop_of_length_le (by have:=HPl.out;omega)] at h
    show acc=T
    simpa [prtT,prtL] using h)
   have hend:decide ((k:Int)<(P.length:Int))=false:=decide_eq_false (by omega)
   have hz:=hbr.size
   clear HI
   go_wp2_with fail
   refine (Tryz.Builder_String_any_k w1.heap.size w1.heap.size acc wr hBr hz).mono ?_
   rintro e w2 ⟨rfl,-,hb2,-⟩
   go_wp2
   go_ret2
   exact⟨by rw[HE.out];rfl,hlow.trans ((hbr.trans hb2).mono hlow.size)⟩
 ·have hrb:(r != 0)=true:=bne_iff_ne.2 hr
  have hTT:=HT.out
  rw[if_neg hr] at hTT
  subst hTT
  go_wp2
  go_ret2
  exact⟨rfl,hlow⟩
end

section
open Go.RowKit
attribute [local go_sem] ByteArray.extract_mk ZvA
def Fd (m:List Mk):Prop:=∀ x∈m,fdB x.tx=true∧x.tx.length≤1099511627776
theorem Zrd {sg:List UInt8} {S:Int} {n p:Nat} {ls:List (List UInt8)} {e:Nat × Int} (h:rdL sg S n p ls=.error e):sdC sg S n p ls=.error e:=by
 unfold sdC
 rw[h]
theorem ZmJ {B R:Nat} {L:List (List UInt8)} {lo:Option Addr} {lc:Nat} {p:Nat} (w:World) (q:Ry w R (.slice lo L.length lc) p) (HL:Hid (∀ u,Fr B R w u→HS u (.slice lo L.length lc) L)) (HPl:Hid (Plain L)) (hp:p≤L.length) (hLl:L.length≤2199023255552) (HSl:Hid (∀ s∈L,s.length≤1099511627776))
  (hB:B≤w.heap.size) (hRB:R<B) (sg:List UInt8) (HSG:Hid (∀ c∈sg,c≠10)) (S:Int) (n:Nat) (hn:n≤2147483647) (v:Value) (m0:List Mk) (hm0:m0.length≤1099511627776) (hv:w.ownsRow B 103 2 v m0.length (mkcells m0))
  (X:Except (Nat × Int) (List Mk × Nat × List (List UInt8))) (HX:Hid (sdC sg S n p (L.drop p)=X)) :
  Calls Tryz.prog 140 #[.pointer (some ⟨R,0,none⟩),v,.int .i64 (n:Int),.string ⟨sg.toArray⟩,.int .u8 S] w fun x w'=>SdQ B R (.slice lo L.length lc) m0 X w x w':=by
 obtain⟨vo,vc,rfl⟩:=(holds_of hv).form
 obtain⟨Y,hY⟩:∃ Y,rdL sg S n p (L.drop p)=Y:=⟨_,rfl⟩
 have HY:Hid (thenL [] (rdL sg S (n-0) p (L.drop p))=Y):=(by show _=_;rw[ZsG];exact hY)
 have HXE:Hid (∀ e,Y=.error e→X=.error e):=(by
  intro e he
  rw[← HX.out]
  exact Zrd (hY.trans he))
 have HXO:Hid (∀ l p1 r,Y=.ok (l,p1,r)→X=if (decide (0<n) && endK l r)=true then .ok (cutL l,p1+1,r.tail) else .ok (l,p1,r)):=(by
  intro l p1 r he
  rw[← HX.out]
  unfold sdC
  rw[hY.trans he])
 have hv0:w.ownsRow B 103 2 (.slice vo m0.length vc) m0.length (mkcells (m0++[])):=(by rw[List.append_nil];exact hv)
 have HF0:Hid (Fd []∧([]:List Mk).length=0∧(m0++[]).length=m0.length):=⟨(fun x hx=>by cases hx),rfl,by rw[List.append_nil]⟩
 clear hY HX hv
 go_enter Tryz.func140,Tryz.ntmps140
 go_wp2
 go_loopw [1,14] (fun mv i wr=>∃ (k:Nat) (m:List Mk) (p' N:Nat),k≤n∧i=.int .i64 (k:Int)∧N≤1099511627776+k∧(∃ o c,mv=.slice o N c)∧wr.ownsRow B 103 2 mv N (mkcells (m0++m))∧Ry wr R (.slice lo L.length lc) (p':Int)∧Fr B R w wr∧p'≤L.length∧Hid (Fd m∧m.length=k∧(m0++m).length=N)∧Hid (thenL m (rdL sg S (n-k) p' (L.drop p'))=Y)) (fun _ i _=>n-(intOf i).toNat)
 case atStart=>exact⟨0,[],p,m0.length,Nat.zero_le _,by go_num,by omega,⟨vo,vc,rfl⟩,hv0,q,Fr.refl _ _ _,hp,HF0,HY⟩
 case round =>
 obtain⟨k,m,p1,N,hk,rfl,hNk,⟨o,c,rfl⟩,hown,q1,hF,hp1,HF,HI⟩:=hrel
 have hsz:=hF.size
 have hLr:=HL.out wr hF
 by_cases hlt:k<n
 ·obtain⟨Z,hZ⟩:∃ Z,nxt p1 (L.drop p1)=Z:=⟨_,rfl⟩
  have hl:=Zmx wr q1 hLr hp1 hLl HSl.out Z hZ
  have hnk:n-k=(n-(k+1))+1:=by omega
  cases Z with
  | error z =>
   obtain⟨a,e⟩:=z
   have hXe:X=.error (a,e):=(by
    apply HXE.out
    rw[← HI.out,hnk]
    unfold thenL rdL
    rw[hZ])
   subst hXe
   have HDone:Hid (∀ u,wr.grownBy u (some R)→Fr B R w u):=fun u hu=>hF.trans (Fr.of hu (Nat.le_trans hB hsz))
   clear HXE HXO HI hZ hown hnk
   go_wp2_with fail
   refine hl.mono ?_
   rintro x w1 ⟨⟨g,rfl,hg⟩,hgr⟩
   go_wp2
   exact⟨rfl,⟨_,rfl,hg⟩,HDone.out _ hgr⟩
  | ok z =>
   obtain⟨s,r⟩:=z
   obtain⟨hr,hpl,_,hLp⟩:=Znf hZ
   have hsl:=HSl.out L[p1] (List.getElem_mem hpl)
   rw[hLp,List.length_append] at hsl
   have hst:=Zpr (sg:=sg) (S:=S) (n:=n-(k+1)) hZ m
   rw[← hnk,HI.out] at hst
   obtain⟨T,hT⟩:∃ T,s++[10]=T:=⟨_,rfl⟩
   obtain⟨U,hU⟩:∃ U,s.drop sg.length++[10]=U:=⟨_,rfl⟩
   have hUl:U.length≤1099511627776:=(by rw[← hU,List.length_append,List.length_drop];simp only[List.length_cons,List.length_nil] at hsl ⊢;omega)
   have hUf:fdB U=true:=(by rw[← hU];exact ZfR _)
   have hl2:Calls Tryz.prog 138 #[.pointer (some ⟨R,0,none⟩)] wr fun x w'=>x=.returned (.string ⟨T.toArray⟩)∧∃ n,w'=wr.drewN n:=(by
    refine hl.mono ?_
    rintro x w' ⟨h1,h2⟩
    rw[hT] at h1
    exact⟨h1,h2⟩)
   have hc:=fun u=>Tryz.strings_CutPrefix ⟨T.toArray⟩ ⟨sg.toArray⟩ u
   have hpf:Lib.hasPrefix (⟨T.toArray⟩:ByteArray).data.toList (⟨sg.toArray⟩:ByteArray).data.toList=sg.isPrefixOf s:=(by
    show Lib.hasPrefix T sg=_
    rw[← hT]
    exact ZoL HSG.out)
   rw[hpf] at hc
   by_cases hpre:sg.isPrefixOf s=true
   ·rw[if_pos hpre,hU,hr] at hst
    have htr:Lib.trimPrefix (⟨T.toArray⟩:ByteArray).data.toList (⟨sg.toArray⟩:ByteArray).data.toList=U:=(by
     show Lib.trimPrefix T sg=_
     rw[← hT,← hU]
     exact trim_feed HSG.out hpre)
    rw[htr,hpre] at hc
    have HI2:Hid (thenL (m++[⟨S,U⟩]) (rdL sg S (n-(k+1)) (p1+1) (L.drop (p1+1)))=Y):=hst.symm
    have HF2:Hid (Fd (m++[⟨S,U⟩])∧(m++[(⟨S,U⟩:Mk)]).length=k+1∧(m0++(m++[(⟨S,U⟩:Mk)])).length=N+1):=⟨(by
     intro x hx
     rcases List.mem_append.1 hx with hx | hx
     ·exact HF.out.1 x hx
     ·rw[List.mem_singleton.1 hx]
      exact⟨hUf,hUl⟩),(by have:=HF.out.2.1;simp[this]),(by have:=HF.out.2.2;rw[← List.append_assoc,List.length_append,this];rfl)⟩
    clear hst hpf htr hpre hZ hl hLp hsl hUf hr HI HXE HXO hT hU HF hnk
    go_wp2_with fail
    refine hl2.mono ?_
    rintro x w1 ⟨rfl,nn,rfl⟩
    have q2:=q1.dN nn
    have hown2:(wr.drewN nn).ownsRow B 103 2 (.slice o N c) N (mkcells (m0++m)):=hown
    have hF2:Fr B R w (wr.drewN nn):=hF.trans ⟨rfl,rfl,rfl,Nat.le_refl _,fun _ _ _=>rfl⟩
    clear q1 hown hF hLr hl2
    generalize wr.drewN nn=W1 at q2 hown2 hF2 ⊢
    go_wp2_with fail
    refine (hc W1).mono ?_
    rintro x w2 ⟨rfl,rfl⟩
    have hsz2:=hF2.size
    have hrow:=ZlD w2 ⟨S,U⟩
    have hownA:=hown2.alloc (mkO ⟨S,U⟩)
    have qA:Ry (w2.alloc (mkO ⟨S,U⟩)) R (.slice lo L.length lc) (p1:Int):=q2.low ((Below.refl _ w2).alloc (Nat.le_refl _) _)
    have hFA:Fr B R w (w2.alloc (mkO ⟨S,U⟩)):=hF2.trans (Fr.of (World.grownBy_alloc w2 _ _) (Nat.le_trans hB hsz2))
    have HS2:Hid ((w2.alloc (mkO ⟨S,U⟩)).heap.size=w2.heap.size+1):=(by show _=_;simp)
    have hW:w2.alloc (Obj.cells #[Value.int IntKind.u8 S,Value.string ⟨U.toArray⟩] 103)=w2.alloc (mkO ⟨S,U⟩):=rfl
    have hxk:N+1≤2199023255552:=by omega
    clear hown2 q2 hF2 hc
    go_wp2_with (at_builtin;refine ZuZ _ (by kernel_rfl) (.tmp 27) (.tmp 31) 57 103 (.agg #[.int .u8 0,.string ⟨#[]⟩]) 2 24 rfl Tryz.underlying57 infoMk rfl (by decide) (by decide) B _ _ _ rfl hownA _ 1 (mkcells [⟨S,U⟩]) rfl hrow (ZlK _) (ZlL _) hxk (by have:=HS2.out;omega) ?_)
    intro v3 u3 hown3 hg3 _
    rw[← ZlH,List.append_assoc] at hown3
    have hne3:(some R:Option Nat)≠(Value.slice o N c).ownBlock:=(by
     intro e
     have:=ZnH hownA e.symm
     omega)
    have q3:=qA.keep hg3 hne3
    have hF3:=hFA.trans (Fr.own (R:=R) hg3 (by have:=HS2.out;omega) (fun j hj=>ZnH hownA hj))
    obtain⟨o3,c3,rfl⟩:=(holds_of hown3).form
    obtain⟨d0,d1⟩:=q3.cells
    have f1:=q3.frozen 1
    have q4:=q3.at ((p1:Int)+1)
    have hg4:=Zhd u3 R 1 (.int .i64 ((p1:Int)+1))
    have hown4:=ZnG hown3 hg4 hRB
    have hsz3:=hF3.size
    have hF4:=hF3.trans (Fr.of hg4 (Nat.le_trans hB hsz3))
    clear hW hg3 hownA hown3 hrow qA hFA q3 hF3 hg4 HS2
    go_wp2
    refine⟨⟨k+1,m++[⟨S,U⟩],p1+1,N+1,by omega,by go_num,by omega,⟨o3,c3,rfl⟩,hown4,by simpa using q4,hF4,by omega,HF2,HI2⟩,by simp[intOf];omega⟩
   ·have hXe:X=.error (p1+1,3):=(by
     apply HXE.out
     rw[hst,if_neg hpre])
    have hpr2:sg.isPrefixOf s=false:=Bool.eq_false_iff.2 hpre
    rw[hpr2] at hc
    subst hXe
    have HDone:Hid (∀ u,wr.grownBy u (some R)→Fr B R w u):=fun u hu=>hF.trans (Fr.of hu (Nat.le_trans hB hsz))
    have q2:=fun nn=>q1.dN nn
    clear HXE HXO HI hZ hown hnk hst hpf hpre hpr2 hl hLp hsl hr hT hU
    generalize Lib.trimPrefix (⟨T.toArray⟩:ByteArray).data.toList (⟨sg.toArray⟩:ByteArray).data.toList=U2 at hc
    go_wp2_with fail
    refine hl2.mono ?_
    rintro x w1 ⟨rfl,nn,rfl⟩
    go_wp2_with fail
    refine (hc _).mono ?_
    rintro x w2 ⟨rfl,rfl⟩
    go_wp2_with fail
    refine (ZmK 3 _ (q2 nn) (by omega)).mono ?_
    rintro e w3 ⟨⟨g,rfl,hg⟩,hgr⟩
    go_wp2
    exact⟨rfl,⟨_,rfl,by simpa using hg⟩,HDone.out _ (Zhe (Zha (ZkI (Below.refl wr.heap.size wr) (some R)) nn) hgr)⟩
 ·have hkn:k=n:=by omega
  subst hkn
  have hYv:Y=.ok (m,p1,L.drop p1):=(by
   rw[← HI.out,Nat.sub_self]
   simp[thenL,rdL])
  have hXv:=HXO.out m p1 (L.drop p1) hYv
  have hend:decide ((k:Int)<(k:Int))=false:=decide_eq_false (by omega)
  clear HXE HXO HI hYv HL
  by_cases h0:0<k
  ·have h0d:decide (0<k)=true:=decide_eq_true h0
   rw[h0d,Bool.true_and] at hXv
   obtain⟨m1,mk,hmm⟩:∃ m1 mk,m=m1++[mk]:=(by
    have hne:m≠[]:=(by
     rintro rfl
     have:=HF.out.2.1
     simp at this
     omega)
    exact⟨m.dropLast,m.getLast hne,(List.dropLast_concat_getLast hne).symm⟩)
   subst hmm
   have hfd:=HF.out.1 mk (by simp)
   obtain⟨N1,hN1⟩:∃ N1,(m0++m1).length=N1:=⟨_,rfl⟩
   have hNN:N=N1+1:=(by have:=HF.out.2.2;rw[← this,← hN1];simp;omega)
   subst hNN
   have hown':=hown
   rw[← hN1,← List.append_assoc] at hown'
   obtain⟨g,cap,hvv,hBg,hgs,d1,df,hset⟩:=ZnJ hown'
   rw[hN1] at d1 df hset hvv
   injection hvv with hv1 hv2 hv3
   subst hv1 hv3
   have hgR:R≠g:=by omega
   unfold endK at hXv
   rw[ZjL,Zes] at hXv
   have HNn:Hid (∀ x:Mk,(m0++(m1++[x])).length=N1+1):=(by intro x;rw[← hN1];simp;omega)
   clear hown' hN1 HF
   have j0:(0:Int)<(k:Int):=by omega
   have j1:(0:Int)≤(N1:Int):=by omega
   have j2:(N1:Int)<(N1:Int)+1:=by omega
   have j3:(N1:Int)+1-1=(N1:Int):=by omega
   have j4:IntKind.i64.wrap (N1:Int)=(N1:Int):=Zvd (by omega) (by omega)
   cases hb:(mk.tx != [10] && pkM (L.drop p1)) with
   | false =>
    rw[hb,if_neg (by decide)] at hXv
    subst hXv
    have he:=Zml (g:=g) (o:=N1 * 2) wr q1 hLr HPl.out hp1 hLl mk.tx d1 hb
    clear hb hset df hfd
    go_wp2_with fail
    refine he.mono ?_
    rintro x w1 ⟨rfl,nn,rfl⟩
    go_wp2
    go_ret
    exact⟨_,rfl,by rw[HNn.out];exact hown,q1,hF.trans ⟨rfl,rfl,rfl,Nat.le_refl _,fun _ _ _=>rfl⟩⟩
   | true =>
    rw[hb,if_pos rfl] at hXv
    subst hXv
    have HTt:Hid (mk.tx=mk.tx.dropLast++[10]):=ZfQ hfd.1
    have he:=Zmm (g:=g) (o:=N1 * 2) wr q1 hLr HPl.out hLl hgR mk.tx mk.tx.dropLast HTt hfd.2 d1 df hb
    have hs2:=fun nn=>hset (wr.drewN nn) mk.tx.dropLast rfl
    clear hb hset df hfd
    go_wp2_with fail
    refine he.mono ?_
    rintro x w1 ⟨rfl,nn,rfl⟩
    have hg1:=Zhd (wr.drewN nn) g (N1 * 2+1) (.string ⟨mk.tx.dropLast.toArray⟩)
    have q2:=((q1.dN nn).keep hg1 (fun e=>hgR (Option.some.inj e))).at ((p1:Int)+1)
    have hg2:=Zhd ((wr.drewN nn).setCell ⟨g,N1 * 2+1,none⟩ (.string ⟨mk.tx.dropLast.toArray⟩)) R 1 (.int .i64 ((p1:Int)+1))
    have hown2:=ZnG (hs2 nn) hg2 hRB
    have hF1:Fr B R w (wr.drewN nn):=hF.trans ⟨rfl,rfl,rfl,Nat.le_refl _,fun _ _ _=>rfl⟩
    have hF2:=hF1.trans (Fr.own (R:=R) hg1 (Nat.le_trans hB hsz) (fun j hj=>by cases hj;exact hBg))
    have hF3:=hF2.trans (Fr.of hg2 (Nat.le_trans hB hF2.size))
    go_wp2
    go_ret
    refine⟨_,rfl,?_,by simpa using q2,hF3⟩
    rw[HNn.out,← List.append_assoc]
    exact hown2
  ·have h0d:decide (0<k)=false:=decide_eq_false h0
   rw[h0d,Bool.false_and,if_neg (by decide)] at hXv
   subst hXv
   have j0:¬ (0:Int)<(k:Int):=by omega
   go_wp2
   go_ret
   exact⟨_,rfl,by rw[HF.out.2.2];exact hown,q1,hF⟩
end

section
open Go.RowKit
attribute [local go_sem] ByteArray.extract_mk ZvA
end

section
open Go.RowKit
attribute [local go_sem] ByteArray.extract_mk ZvA
def CmdP (s:List UInt8) (x:Ending):Prop :=
 match cmdP s with
 | some (A,AN,B,BN)=>x=.returned (.tuple #[hkV ⟨A,AN,B,BN,[]⟩ (.slice none 0 0),.bool true])
 | none=>∃ A AN B BN,x=.returned (.tuple #[hkV ⟨A,AN,B,BN,[]⟩ (.slice none 0 0),.bool false])
section
variable {u:World} {b:Nat} {h:Hk} {v:Value}
theorem Hx.putH5 (q:Hx u b h v) (A AN B BN:Int) (l:List Mk) (z:Value):Hx (((((u.setCell ⟨b,0,none⟩ (.int .i64 A)).setCell ⟨b,1,none⟩ (.int .i64 AN)).setCell ⟨b,2,none⟩ (.int .i64 B)).setCell ⟨b,3,none⟩ (.int .i64 BN)).setCell ⟨b,4,none⟩ z) b ⟨A,AN,B,BN,l⟩ z:=by
 have s1:=heap_setCell_same u b 0 _ _ (.int .i64 A) q
 have s2:=heap_setCell_same _ b 1 _ _ (.int .i64 AN) s1
 have s3:=heap_setCell_same _ b 2 _ _ (.int .i64 B) s2
 have s4:=heap_setCell_same _ b 3 _ _ (.int .i64 BN) s3
 exact heap_setCell_same _ b 4 _ _ z s4
end
theorem Zdz {w u:World} (h:Below w.heap.size w u) (z0 z1 z2 z3 z4:Value):Below w.heap.size w (((((u.setCell ⟨w.heap.size,0,none⟩ z0).setCell ⟨w.heap.size,1,none⟩ z1).setCell ⟨w.heap.size,2,none⟩ z2).setCell ⟨w.heap.size,3,none⟩ z3).setCell ⟨w.heap.size,4,none⟩ z4) :=
 ((((h.setCell (Nat.le_refl _) _).setCell (Nat.le_refl _) _).setCell (Nat.le_refl _) _).setCell (Nat.le_refl _) _).setCell (Nat.le_refl _) _
end

section
open Go.RowKit
attribute [local go_sem] ByteArray.extract_mk ZvA
theorem ZkH {W u:World} (h:Low W u):Low W u.drew:=Below.drew h
theorem ZfF {u:World} {s x:List UInt8} {k:Nat} (hk:k≤s.length) (hx:s.take k=x) {op:Oper} (p q:Operand) (ho:op.op=.slice 9 p none (some q) none) {ev:Operand→Value} (h1:ev p=.string ⟨s.toArray⟩) (h2:ev q=.int .i64 (k:Int)) :
  (execOp ev op).run Tryz.prog u=.ok (.value (.string ⟨x.toArray⟩)) u:=by
 have i1:(0:Int)≤(k:Int):=by omega
 have i2:(k:Int)≤(s.length:Int):=by omega
 subst hx
 simp only[execOp,ho,h1,h2,Option.map]
 go_simp
theorem ZfE {u:World} {s y:List UInt8} {k:Nat} (hk:k<s.length) (hy:s.drop (k+1)=y) {op:Oper} (p q:Operand) (ho:op.op=.slice 9 p (some q) none none) {ev:Operand→Value} (h1:ev p=.string ⟨s.toArray⟩) (h2:ev q=.int .i64 ((k:Int)+1)) :
  (execOp ev op).run Tryz.prog u=.ok (.value (.string ⟨y.toArray⟩)) u:=by
 have i1:(0:Int)≤(k:Int)+1:=by omega
 have i2:(k:Int)+1≤(s.length:Int):=by omega
 have i3:((k:Int)+1).toNat=k+1:=by omega
 subst hy
 have k5:(s.drop (k+1)).take (s.length-(k+1))=s.drop (k+1):=List.take_of_length_le (by simp)
 simp only[execOp,ho,h1,h2,Option.map]
 go_simp
theorem ZfC {u:World} {s:List UInt8} {k:Nat} {c:UInt8} (hk:k<s.length) (hc:s[k]=c) {op:Oper} (p q:Operand) (ho:op.op=.index 9 p q) {ev:Operand→Value} (h1:ev p=.string ⟨s.toArray⟩) (h2:ev q=.int .i64 (k:Int)) :
  (execOp ev op).run Tryz.prog u=.ok (.value (.int .u8 (c.toNat:Int))) u:=by
 have i1:(0:Int)≤(k:Int):=by omega
 have i2:(k:Int)<(s.length:Int):=by omega
 subst hc
 simp only[execOp,ho,h1,h2]
 go_simp
theorem ZsW (c d:UInt8):((c.toNat:Int) == (d.toNat:Int))=(c == d):=by
 rw[Bool.eq_iff_iff,beq_iff_eq,beq_iff_eq,← UInt8.toNat_inj]
 omega
theorem ZfA {u:World} {a b:Int} {r:Bool} {op:Oper} (p q:Operand) (ho:op.op=.binOp .eql 5 p q 5) {ev:Operand→Value} (h1:ev p=.int .u8 a) (h2:ev q=.int .u8 b) (hr:(a == b)=r) :
  (execOp ev op).run Tryz.prog u=.ok (.value (.bool r)) u:=by
 simp only[execOp,ho,h1,h2]
 go_simp
theorem Zfx {u:World} {p q:Int} (h:IntKind.i64.wrap (p+q)=p+q) {op:Oper} (x y:Operand) (ho:op.op=.binOp .add 3 x y 3) {ev:Operand→Value} (hx:ev x=.int .i64 p) (hy:ev y=.int .i64 q) :
  (execOp ev op).run Tryz.prog u=.ok (.value (.int .i64 (p+q))) u:=by
 simp only[execOp,ho,hx,hy]
 go_simp
theorem ZmS {W u:World} {s:List UInt8} {no:Bool} (hL:Low W u) (hl:s.length≤1099511627776):Calls Tryz.prog 199 (#[.string ⟨s.toArray⟩,.bool no]++#[]) u fun e w'=>∃ v,e=.returned v∧Low W w'∧∃ A AN b1,v=.tuple #[.int .i64 A,.int .i64 AN,.bool b1]∧nmP no s=(if b1=true then some (A,AN) else none):=by
 refine (ZmC s no u hl).mono ?_
 rintro e w' ⟨x,n,r,rfl,h1,h2⟩
 exact⟨_,rfl,Below.trans hL (h2.mono (Below.size hL)),x,n,r,rfl,h1⟩
theorem ZmB (tmps:Array Value) (u:World) (B:Nat) (g:Hk) (v:Value) (h:Hx u B g v) {b:Value} (h2:tmps.getD 2 undef=.pointer (some ⟨B,0,none⟩)) (h3:tmps.getD 3 undef=b) :
  (results Tryz.f136 tmps).run Tryz.prog u=.ok (.tuple #[hkV g v,b]) u:=by
 rw[_root_.Go.results_cell_tmp rfl,h2,h3]
 have hL:(loadVar 59 ⟨B,0,none⟩).run Tryz.prog u=.ok (hkV g v) u:=run_loadVar_row u B _ _ _ _ _ h Tryz.underlying59 rfl (by kernel_rfl)
 simp[asAddr,hL,Result.andThen]
theorem Zmi (s:List UInt8) (hs:s.length<4294967281) (w:World) :
  Calls Tryz.prog 136 #[.string ⟨s.toArray⟩] w fun x w'=>CmdP s x∧Below w.heap.size w w':=by
 have hx0:=Hx.new w ⟨0,0,0,0,[]⟩ (.slice none 0 0)
 have hB0:Below w.heap.size w (w.alloc (hkO ⟨0,0,0,0,[]⟩ (.slice none 0 0))):=(Below.refl _ w).alloc (Nat.le_refl _) _
 unfold hkO at hx0 hB0
 dsimp only at hx0 hB0
 have hIx:=fun u=>Zak s hs u
 rcases ZuB s with ⟨h1,h2⟩ | ⟨k,hlt,h1,h2,h3⟩
 ·have HC:Hid (∀ A AN B BN,CmdP s (.returned (.tuple #[hkV ⟨A,AN,B,BN,[]⟩ (.slice none 0 0),.bool false]))):=(by
   intro A AN B BN
   unfold CmdP cmdP
   rw[h1]
   exact⟨_,_,_,_,rfl⟩)
  rw[h2] at hIx
  clear h1 h2
  go_enter Tryz.func136,Tryz.ntmps136
  go_wp2_with fail
  generalize w.alloc (.cells #[.int .i64 0,.int .i64 0,.int .i64 0,.int .i64 0,.slice none 0 0] 59)=W at hx0 hB0 ⊢
  refine (hIx _).mono ?_
  rintro e w1 ⟨rfl,hb1⟩
  have hx1:=hx0.low hb1
  have hB1:=hB0.trans (hb1.mono hB0.size)
  obtain⟨c0,c1,c2,c3,c4⟩:=hx1.cells
  have f0:=hx1.frozen 0
  have f1:=hx1.frozen 1
  have f2:=hx1.frozen 2
  have f3:=hx1.frozen 3
  have f4:=hx1.frozen 4
  have hP:=hx1.putH5 0 0 0 0 [] (.slice none 0 0)
  have hBP:=Zdz hB1 (.int .i64 0) (.int .i64 0) (.int .i64 0) (.int .i64 0) (.slice none 0 0)
  go_wp2
  refine bodyPost_ret (ZmB _ _ _ _ _ hP rfl rfl) rfl ⟨HC.out _ _ _ _,hBP⟩
 ·obtain⟨c,hcd⟩:∃ c,s[k]=c:=⟨_,rfl⟩
  obtain⟨x,hx⟩:∃ x,s.take k=x:=⟨_,rfl⟩
  obtain⟨y,hy⟩:∃ y,s.drop (k+1)=y:=⟨_,rfl⟩
  have hxl:x.length≤1099511627776:=(by rw[← hx,List.length_take];omega)
  have hyl:y.length≤1099511627776:=(by rw[← hy,List.length_drop];omega)
  have hkl:k≤s.length:=by omega
  have HC:Hid (∀ A AN B BN b1 b2,nmP (c == 97) x=(if b1=true then some (A,AN) else none)→nmP (c == 100) y=(if b2=true then some (B,BN) else none)→CmdP s (.returned (.tuple #[hkV ⟨A,AN,B,BN,[]⟩ (.slice none 0 0),.bool (b1 && b2)]))):=(by
   intro A AN B BN b1 b2 hA hB
   unfold CmdP cmdP
   rw[h2,hcd,hx,hy]
   dsimp only
   have e1:(if c=97 then oneP x else lnsP x)=nmP (c == 97) x:=(by
    unfold nmP
    by_cases h:c=97<;>simp[h])
   have e2:(if c=100 then oneP y else lnsP y)=nmP (c == 100) y:=(by
    unfold nmP
    by_cases h:c=100<;>simp[h])
   rw[e1,e2,hA,hB]
   cases b1<;>cases b2
   ·exact⟨_,_,_,_,rfl⟩
   ·exact⟨_,_,_,_,rfl⟩
   ·exact⟨_,_,_,_,rfl⟩
   ·rfl)
  rw[h1] at hIx
  clear h1 h2 h3
  go_enter Tryz.func136,Tryz.ntmps136
  go_wp2_with fail
  generalize w.alloc (.cells #[.int .i64 0,.int .i64 0,.int .i64 0,.int .i64 0,.slice none 0 0] 59)=W0 at hx0 hB0 ⊢
  refine (hIx _).mono ?_
  rintro e W ⟨rfl,hb1⟩
  have hx1:=hx0.low hb1
  have hB1:=hB0.trans (hb1.mono hB0.size)
  clear hx0 hB0 hb1
  have hlow:Low W W.drew:=Below.drew (Below.refl _ _)
  have i0:¬ ((k:Int)<0):=by omega
  go_upto_region 4 with fail
  refine wp_region_noPanic ?_
  refine wp_region_held_drew (S:=fun u=>Low W u) (by kernel_rfl) hlow (fun hHeld=>?_)
  generalize W.drew=wd at hHeld ⊢
  refine Y_t 0 17 _ (.string ⟨s.toArray⟩) rfl (Or.inl ⟨by kernel_rfl,fun u hu=>by kernel_rfl⟩) hHeld ?_
  simp only[Act.put,Y_a,Y_b,Y_c]
  refine Y_t 1 18 _ (.int .i64 (k:Int)) rfl (Or.inl ⟨by kernel_rfl,fun u hu=>by kernel_rfl⟩) hHeld ?_
  simp only[Act.put,Y_a,Y_b,Y_c]
  refine Y_t 2 19 _ (.string ⟨x.toArray⟩) rfl (Or.inl ⟨by kernel_rfl,fun u hu=>ZfF hkl hx (.tmp 17) (.tmp 18) (by kernel_rfl) (by kernel_rfl) (by kernel_rfl)⟩) hHeld ?_
  simp only[Act.put,Y_a,Y_b,Y_c]
  refine Y_t 3 20 _ (.string ⟨s.toArray⟩) rfl (Or.inl ⟨by kernel_rfl,fun u hu=>by kernel_rfl⟩) hHeld ?_
  simp only[Act.put,Y_a,Y_b,Y_c]
  refine Y_t 4 21 _ (.int .i64 (k:Int)) rfl (Or.inl ⟨by kernel_rfl,fun u hu=>by kernel_rfl⟩) hHeld ?_
  simp only[Act.put,Y_a,Y_b,Y_c]
  refine Y_t 5 22 _ (.int .u8 (c.toNat:Int)) rfl (Or.inl ⟨by kernel_rfl,fun u hu=>ZfC hlt hcd (.tmp 20) (.tmp 21) (by kernel_rfl) (by kernel_rfl) (by kernel_rfl)⟩) hHeld ?_
  simp only[Act.put,Y_a,Y_b,Y_c]
  refine Y_t 6 23 _ (.bool (c == 97)) rfl (Or.inl ⟨by kernel_rfl,fun u hu=>ZfA (.tmp 22) (.const (.int .u8 97)) (by kernel_rfl) (by kernel_rfl) (by kernel_rfl) (ZsW c 97)⟩) hHeld ?_
  simp only[Act.put,Y_a,Y_b,Y_c]
  refine Y_e 7 24 _ rfl 199 (.func 199) #[.tmp 19,.tmp 23] #[9,4] (by kernel_rfl) #[] (by kernel_rfl) #[.string ⟨x.toArray⟩,.bool (c == 97)] (by kernel_rfl) (enters_of Tryz.func199 (by kernel_rfl) rfl) (fun v u=>∃ A AN b1,v=.tuple #[.int .i64 A,.int .i64 AN,.bool b1]∧nmP (c == 97) x=(if b1=true then some (A,AN) else none)) ?_ ?_
  ·exact ZmS hHeld hxl
  rintro _ u1 hH1 ⟨A,AN,b1,rfl,hA⟩
  simp only[Act.put,Y_a,Y_b,Y_c]
  refine Y_t 8 16 _ (.tuple #[.int .i64 A,.int .i64 AN,.bool b1]) rfl (Or.inl ⟨by kernel_rfl,fun u hu=>by kernel_rfl⟩) hH1 ?_
  simp only[Act.put,Y_a,Y_b,Y_c]
  refine Y_t 9 25 _ (.int .i64 A) rfl (Or.inl ⟨by kernel_rfl,fun u hu=>by kernel_rfl⟩) hH1 ?_
  simp only[Act.put,Y_a,Y_b,Y_c]
  refine Y_t 10 26 _ (.int .i64 AN) rfl (Or.inl ⟨by kernel_rfl,fun u hu=>by kernel_rfl⟩) hH1 ?_
  simp only[Act.put,Y_a,Y_b,Y_c]
  refine Y_t 11 27 _ (.bool b1) rfl (Or.inl ⟨by kernel_rfl,fun u hu=>by kernel_rfl⟩) hH1 ?_
  simp only[Act.put,Y_a,Y_b,Y_c]
  refine Y_t 12 5 _ (.int .i64 A) rfl (Or.inl ⟨by kernel_rfl,fun u hu=>by kernel_rfl⟩) hH1 ?_
  simp only[Act.put,Y_a,Y_b,Y_c]
  refine Y_t 13 6 _ (.int .i64 AN) rfl (Or.inl ⟨by kernel_rfl,fun u hu=>by kernel_rfl⟩) hH1 ?_
  simp only[Act.put,Y_a,Y_b,Y_c]
  refine Y_t 14 7 _ (.bool b1) rfl (Or.inl ⟨by kernel_rfl,fun u hu=>by kernel_rfl⟩) hH1 ?_
  simp only[Act.put,Y_a,Y_b,Y_c]
  refine wpAnyH_done (by kernel_rfl) ?_ _
  refine NoPanic.normal ?_
  go_upto_region 5 with fail
  refine wp_region_noPanic ?_
  refine wp_region_held_drew (S:=fun u=>Low W u) (by kernel_rfl) (ZkH hH1) (fun hHeld=>?_)
  generalize u1.drew=wd2 at hHeld ⊢
  refine Y_t 0 29 _ (.string ⟨s.toArray⟩) rfl (Or.inl ⟨by kernel_rfl,fun u hu=>by kernel_rfl⟩) hHeld ?_
  simp only[Act.put,Y_a,Y_b,Y_c]
  refine Y_t 1 30 _ (.int .i64 (k:Int)) rfl (Or.inl ⟨by kernel_rfl,fun u hu=>by kernel_rfl⟩) hHeld ?_
  simp only[Act.put,Y_a,Y_b,Y_c]
  refine Y_t 2 31 _ (.int .i64 ((k:Int)+1)) rfl (Or.inl ⟨by kernel_rfl,fun u hu=>Zfx (p:=(k:Int)) (q:=1) (Zvd (by omega) (by omega)) (.tmp 30) (.const (.int .i64 1)) (by kernel_rfl) (by kernel_rfl) (by kernel_rfl)⟩) hHeld ?_
  simp only[Act.put,Y_a,Y_b,Y_c]
  refine Y_t 3 32 _ (.string ⟨y.toArray⟩) rfl (Or.inl ⟨by kernel_rfl,fun u hu=>ZfE hlt hy (.tmp 29) (.tmp 31) (by kernel_rfl) (by kernel_rfl) (by kernel_rfl)⟩) hHeld ?_
  simp only[Act.put,Y_a,Y_b,Y_c]
  refine Y_t 4 33 _ (.string ⟨s.toArray⟩) rfl (Or.inl ⟨by kernel_rfl,fun u hu=>by kernel_rfl⟩) hHeld ?_
  simp only[Act.put,Y_a,Y_b,Y_c]
  refine Y_t 5 34 _ (.int .i64 (k:Int)) rfl (Or.inl ⟨by kernel_rfl,fun u hu=>by kernel_rfl⟩) hHeld ?_
  simp only[Act.put,Y_a,Y_b,Y_c]
  refine Y_t 6 35 _ (.int .u8 (c.toNat:Int)) rfl (Or.inl ⟨by kernel_rfl,fun u hu=>ZfC hlt hcd (.tmp 33) (.tmp 34) (by kernel_rfl) (by kernel_rfl) (by kernel_rfl)⟩) hHeld ?_
  simp only[Act.put,Y_a,Y_b,Y_c]
  refine Y_t 7 36 _ (.bool (c == 100)) rfl (Or.inl ⟨by kernel_rfl,fun u hu=>ZfA (.tmp 35) (.const (.int .u8 100)) (by kernel_rfl) (by kernel_rfl) (by kernel_rfl) (ZsW c 100)⟩) hHeld ?_
  simp only[Act.put,Y_a,Y_b,Y_c]
  refine Y_e 8 37 _ rfl 199 (.func 199) #[.tmp 32,.tmp 36] #[9,4] (by kernel_rfl) #[] (by kernel_rfl) #[.string ⟨y.toArray⟩,.bool (c == 100)] (by kernel_rfl) (enters_of Tryz.func199 (by kernel_rfl) rfl) (fun v u=>∃ A AN b1,v=.tuple #[.int .i64 A,.int .i64 AN,.bool b1]∧nmP (c == 100) y=(if b1=true then some (A,AN) else none)) ?_ ?_
  ·exact ZmS hHeld hyl
  rintro _ u2 hH2 ⟨B,BN,b2,rfl,hB⟩
  simp only[Act.put,Y_a,Y_b,Y_c]
  refine Y_t 9 28 _ (.tuple #[.int .i64 B,.int .i64 BN,.bool b2]) rfl (Or.inl ⟨by kernel_rfl,fun u hu=>by kernel_rfl⟩) hH2 ?_
  simp only[Act.put,Y_a,Y_b,Y_c]
  refine Y_t 10 38 _ (.int .i64 B) rfl (Or.inl ⟨by kernel_rfl,fun u hu=>by kernel_rfl⟩) hH2 ?_
  simp only[Act.put,Y_a,Y_b,Y_c]
  refine Y_t 11 39 _ (.int .i64 BN) rfl (Or.inl ⟨by kernel_rfl,fun u hu=>by kernel_rfl⟩) hH2 ?_
  simp only[Act.put,Y_a,Y_b,Y_c]
  refine Y_t 12 40 _ (.bool b2) rfl (Or.inl ⟨by kernel_rfl,fun u hu=>by kernel_rfl⟩) hH2 ?_
  simp only[Act.put,Y_a,Y_b,Y_c]
  refine Y_t 13 8 _ (.int .i64 B) rfl (Or.inl ⟨by kernel_rfl,fun u hu=>by kernel_rfl⟩) hH2 ?_
  simp only[Act.put,Y_a,Y_b,Y_c]
  refine Y_t 14 9 _ (.int .i64 BN) rfl (Or.inl ⟨by kernel_rfl,fun u hu=>by kernel_rfl⟩) hH2 ?_
  simp only[Act.put,Y_a,Y_b,Y_c]
  refine Y_t 15 10 _ (.bool b2) rfl (Or.inl ⟨by kernel_rfl,fun u hu=>by kernel_rfl⟩) hH2 ?_
  simp only[Act.put,Y_a,Y_b,Y_c]
  refine wpAnyH_done (by kernel_rfl) ?_ _
  refine NoPanic.normal ?_
  have hx2:=hx1.low hH2
  have hB2:=hB1.trans (Below.mono hH2 hB1.size)
  obtain⟨c0,c1,c2,c3,c4⟩:=hx2.cells
  have f0:=hx2.frozen 0
  have f1:=hx2.frozen 1
  have f2:=hx2.frozen 2
  have f3:=hx2.frozen 3
  have f4:=hx2.frozen 4
  have hP:=hx2.putH5 A AN B BN [] (.slice none 0 0)
  have hBP:=Zdz hB2 (.int .i64 A) (.int .i64 AN) (.int .i64 B) (.int .i64 BN) (.slice none 0 0)
  have HD:=HC.out A AN B BN b1 b2 hA hB
  clear HC hA hB hx hy hcd
  cases b1 with
  | true =>
   go_wp2
   refine bodyPost_ret (ZmB _ _ _ _ _ hP rfl rfl) rfl ⟨?_,hBP⟩
   simpa using HD
  | false =>
   go_wp2
   refine bodyPost_ret (ZmB _ _ _ _ _ hP rfl rfl) rfl ⟨?_,hBP⟩
   simpa using HD
end

section
open Go.RowKit
attribute [local go_sem] ByteArray.extract_mk ZvA
theorem Zhb {R B:Nat} {w u v:World} (h:w.grownBy u (some R)) (h':Fr B R u v) (hB:w.heap.size≤B):w.grownBy v (some R) :=
 ⟨h'.os.trans h.os,h'.tape.trans h.tape,h'.output.trans h.output,Nat.le_trans h.size h'.size,fun k h1 h2=>(h'.block k (Nat.lt_of_lt_of_le h1 hB) (fun e=>h2 (by rw[e]))).trans (h.block k h1 h2)⟩
theorem Hx.fr {u u':World} {b B R:Nat} {h:Hk} {v:Value} (q:Hx u b h v) (hf:Fr B R u u') (hb:b<B) (hR:b≠R):Hx u' b h v:=(hf.block b hb hR).trans q
theorem Hx.put4 {u:World} {b:Nat} {h:Hk} {v:Value} (q:Hx u b h v) (l:List Mk) (z:Value):Hx (u.setCell ⟨b,4,none⟩ z) b ⟨h.A,h.AN,h.B,h.BN,l⟩ z:=heap_setCell_same u b 4 _ _ z q
theorem Zgs {w:World} {B:Nat} {v:Value} {n:Nat} {xs:List Value} (h:w.ownsRow B 103 2 v n xs) {b:Nat} (hne:v.ownBlock≠some b) (A AN C CN:Int) (z:Value):(((((w.setCell ⟨b,0,none⟩ (.int .i64 A)).setCell ⟨b,1,none⟩ (.int .i64 AN)).setCell ⟨b,2,none⟩ (.int .i64 C)).setCell ⟨b,3,none⟩ (.int .i64 CN)).setCell ⟨b,4,none⟩ z).ownsRow B 103 2 v n xs :=
 ((((h.kept (Zhd _ b 0 _) (.inr hne)).kept (Zhd _ b 1 _) (.inr hne)).kept (Zhd _ b 2 _) (.inr hne)).kept (Zhd _ b 3 _) (.inr hne)).kept (Zhd _ b 4 _) (.inr hne)
theorem Zgt {w:World} {R:Nat} {vL:Value} {p:Int} (h:Ry w R vL p) {b:Nat} (hne:R≠b) (A AN C CN:Int) (z:Value):Ry (((((w.setCell ⟨b,0,none⟩ (.int .i64 A)).setCell ⟨b,1,none⟩ (.int .i64 AN)).setCell ⟨b,2,none⟩ (.int .i64 C)).setCell ⟨b,3,none⟩ (.int .i64 CN)).setCell ⟨b,4,none⟩ z) R vL p :=
 have hn:∀ _:Nat,(some R:Option Nat)≠some b:=fun _ e=>hne (Option.some.inj e)
 ((((h.keep (Zhd _ b 0 _) (hn 0)).keep (Zhd _ b 1 _) (hn 0)).keep (Zhd _ b 2 _) (hn 0)).keep (Zhd _ b 3 _) (hn 0)).keep (Zhd _ b 4 _) (hn 0)
def hkEnd (A AN B BN:Int) (l1:List Mk) (X2:Except (Nat × Int) (List Mk × Nat × List (List UInt8))):Except (Nat × Int) (Hk × Nat × List (List UInt8)) :=
 match X2 with
 | .error e=>.error e
 | .ok (l2,p3,r3)=>.ok (⟨A,AN,B,BN,l1++l2⟩,p3,r3)
def HkQ (R:Nat) (vL:Value) (X:Except (Nat × Int) (Hk × Nat × List (List UInt8))) (w:World) (x:Ending) (w':World):Prop :=
 match X with
 | .error (a,e)=>Thr (a:Int) e x w'∧w.grownBy w' (some R)
 | .ok (h,p1,_)=>∃ v',x=.returned (hkV h v')∧w'.ownsRow w.heap.size 103 2 v' h.ls.length (mkcells h.ls)∧Ry w' R vL (p1:Int)∧w.grownBy w' (some R)
theorem Zmr {R:Nat} {L:List (List UInt8)} {lo:Option Addr} {lc:Nat} {p:Nat} (w:World) (q:Ry w R (.slice lo L.length lc) p) (HL:Hid (∀ u,w.grownBy u (some R)→HS u (.slice lo L.length lc) L)) (HPl:Hid (Plain L)) (hp:p≤L.length) (hLl:L.length≤1048576) (HSl:Hid (∀ s∈L,s.length≤1048576))
  (k:Nat) (hk:k≤4096) (X:Except (Nat × Int) (Hk × Nat × List (List UInt8))) (HX:Hid (hkK k p (L.drop p)=X)) :
  Calls Tryz.prog 85 #[.pointer (some ⟨R,0,none⟩),.int .i64 (k:Int)] w fun x w'=>HkQ R (.slice lo L.length lc) X w x w':=by
 have hRw:=q.lt
 have HSl2:Hid (∀ s∈L,s.length≤1099511627776):=fun s hs=>by have:=HSl.out s hs;omega
 have hr0:=Hx.new w ⟨0,0,0,0,[]⟩ (.slice none 0 0)
 have g0:w.grownBy (w.alloc (hkO ⟨0,0,0,0,[]⟩ (.slice none 0 0))) (some R):=World.grownBy_alloc w _ _
 have q0:Ry (w.alloc (hkO ⟨0,0,0,0,[]⟩ (.slice none 0 0))) R (.slice lo L.length lc) p:=q.low ((Below.refl _ w).alloc (Nat.le_refl _) _)
 have HZ0:Hid ((w.alloc (hkO ⟨0,0,0,0,[]⟩ (.slice none 0 0))).heap.size=w.heap.size+1):=(by show _=_;simp)
 have hW0:w.alloc (.cells #[.int .i64 0,.int .i64 0,.int .i64 0,.int .i64 0,.slice none 0 0] 59)=w.alloc (hkO ⟨0,0,0,0,[]⟩ (.slice none 0 0)):=rfl
 obtain⟨Z,hZ⟩:∃ Z,nxt p (L.drop p)=Z:=⟨_,rfl⟩
 have hX:=HX.out
 clear HX q
 unfold hkK at hX
 rw[hZ] at hX
 go_enter Tryz.func85,Tryz.ntmps85
 go_wp2_with fail
 generalize w.alloc (hkO ⟨0,0,0,0,[]⟩ (.slice none 0 0))=W0 at *
 clear hW0
 have hl:=Zmx W0 q0 (HL.out W0 g0) hp (by omega) HSl2.out Z hZ
 cases Z with
 | error z =>
  obtain⟨a,e⟩:=z
  dsimp only at hX
  subst hX
  refine hl.mono ?_
  rintro x w1 ⟨⟨g,rfl,hg⟩,hgr⟩
  have hfin:=Zhe g0 hgr
  go_wp2
  exact⟨rfl,⟨_,rfl,hg⟩,hfin⟩
 | ok z =>
  obtain⟨s,r⟩:=z
  dsimp only at hX
  obtain⟨hr,hpl,_,hLp⟩:=Znf hZ
  subst hr
  have hsl:=HSl.out L[p] (List.getElem_mem hpl)
  rw[hLp,List.length_append] at hsl
  obtain⟨T,hT⟩:∃ T,s++[10]=T:=⟨_,rfl⟩
  have hTl:T.length≤1048576:=(by rw[← hT,List.length_append];exact hsl)
  have hTS:Lib.trimSuffix (⟨T.toArray⟩:ByteArray).data.toList (⟨#[10]⟩:ByteArray).data.toList=s:=(by
   show Lib.trimSuffix T [10]=s
   rw[← hT]
   unfold Lib.trimSuffix
   rw[Zsy,if_pos (ZfR s)]
   simp)
  have htr:=fun u=>Tryz.strings_TrimSuffix ⟨T.toArray⟩ ⟨#[10]⟩ u (by show T.length≤_;omega)
  rw[hTS] at htr
  have hcm:=fun u=>Zmi s (by simp only[List.length_cons,List.length_nil] at hsl;omega) u
  clear hTS hZ hLp hsl
  refine hl.mono ?_
  rintro x w1 ⟨hx1,nn,rfl⟩
  rw[hT] at hx1
  subst hx1
  clear hl hT
  have q1:=q0.dN nn
  have hr1:Hx (W0.drewN nn) w.heap.size ⟨0,0,0,0,[]⟩ (.slice none 0 0):=hr0
  have g1:=Zha g0 nn
  have HZ1:Hid ((W0.drewN nn).heap.size=w.heap.size+1):=HZ0
  clear q0 hr0 g0 HZ0
  generalize W0.drewN nn=W1 at *
  go_wp2_with fail
  refine (htr W1).mono ?_
  rintro x w2 ⟨rfl,rfl⟩
  go_wp2_with fail
  refine (hcm w2).mono ?_
  rintro x w2b ⟨hCP,hb2⟩
  have q2:=q1.low hb2
  have hr2:=hr1.low hb2
  have g2:=Zhe g1 (ZkI hb2 _)
  have hz2:w.heap.size+1≤w2b.heap.size:=(by have:=HZ1.out;have:=hb2.size;omega)
  clear q1 hr1 g1 HZ1 hb2 htr hcm
  unfold CmdP at hCP
  cases hc:cmdP s with
  | none =>
   rw[hc] at hCP hX
   dsimp only at hX
   subst hX
   obtain⟨A,AN,B,BN,rfl⟩:=hCP
   have g3:=Zhe g2 (World.grownBy_alloc w2b (hkO ⟨A,AN,B,BN,[]⟩ (.slice none 0 0)) (some R))
   have q3:Ry (w2b.alloc (hkO ⟨A,AN,B,BN,[]⟩ (.slice none 0 0))) R (.slice lo L.length lc) p:=q2.low ((Below.refl _ w2b).alloc (Nat.le_refl _) _)
   unfold hkV
   dsimp only
   go_wp2_with fail
   refine (ZmK 3 _ q3 (by omega)).mono ?_
   rintro x w3 ⟨⟨g,rfl,hg⟩,hgr⟩
   have hfin:=Zhe g3 hgr
   go_wp2
   exact⟨rfl,⟨_,rfl,by simpa using hg⟩,hfin⟩
  | some z =>
   obtain⟨A,AN,B,BN⟩:=z
   have hcr:=ZdF hc
   rw[hc] at hCP hX
   dsimp only at hCP hX
   subst hCP
   obtain⟨an,rfl⟩:=Int.eq_ofNat_of_zero_le hcr.1.2.2.1
   obtain⟨bn,rfl⟩:=Int.eq_ofNat_of_zero_le hcr.2.1.2.2.1
   have han:an≤2147483647:=by omega
   have hbn:bn≤2147483647:=by omega
   clear hcr hc
   have g3:=Zhe g2 (World.grownBy_alloc w2b (hkO ⟨A,(an:Int),B,(bn:Int),[]⟩ (.slice none 0 0)) (some R))
   have q3:Ry (w2b.alloc (hkO ⟨A,(an:Int),B,(bn:Int),[]⟩ (.slice none 0 0))) R (.slice lo L.length lc) p:=q2.low ((Below.refl _ w2b).alloc (Nat.le_refl _) _)
   have hx3:=Hx.new w2b ⟨A,(an:Int),B,(bn:Int),[]⟩ (.slice none 0 0)
   have hr3:Hx (w2b.alloc (hkO ⟨A,(an:Int),B,(bn:Int),[]⟩ (.slice none 0 0))) w.heap.size ⟨0,0,0,0,[]⟩ (.slice none 0 0):=hr2.low ((Below.refl _ w2b).alloc (Nat.le_refl _) _)
   have HZ3:Hid ((w2b.alloc (hkO ⟨A,(an:Int),B,(bn:Int),[]⟩ (.slice none 0 0))).heap.size=w2b.heap.size+1):=(by show _=_;simp)
   obtain⟨H,hH⟩:∃ H,w2b.heap.size=H:=⟨_,rfl⟩
   rw[hH] at hx3 HZ3
   have HH:Hid (w2b.heap.size=H):=hH
   rw[Int.toNat_natCast,Int.toNat_natCast] at hX
   by_cases hk2:k=4096
   ·rw[if_pos hk2] at hX
    subst hX hk2
    unfold hkV
    dsimp only
    go_wp2_with fail
    refine (ZmK 9 _ q3 (by omega)).mono ?_
    rintro x w3 ⟨⟨g,rfl,hg⟩,hgr⟩
    have hfin:=Zhe g3 hgr
    go_wp2
    exact⟨rfl,⟨_,rfl,by simpa using hg⟩,hfin⟩
   ·rw[if_neg hk2] at hX
    have hkb:((k:Int) == 4096)=false:=beq_eq_false_iff_ne.2 (by omega)
    have hQH:w.heap.size≠H:=by omega
    obtain⟨d0,d1⟩:=q3.cells
    have df1:=q3.frozen 1
    have q4:=q3.at ((p:Int)+1)
    have gs:=Zhd (w2b.alloc (hkO ⟨A,(an:Int),B,(bn:Int),[]⟩ (.slice none 0 0))) R 1 (.int .i64 ((p:Int)+1))
    have hHR:H≠R:=by omega
    have hQR:w.heap.size≠R:=by omega
    have hx4:=hx3.keep gs (fun e=>hHR (Option.some.inj e))
    have hr4:=hr3.keep gs (fun e=>hQR (Option.some.inj e))
    have g4:=Zhe g3 gs
    have HZ4:Hid (H+1≤((w2b.alloc (hkO ⟨A,(an:Int),B,(bn:Int),[]⟩ (.slice none 0 0))).setCell ⟨R,1,none⟩ (.int .i64 ((p:Int)+1))).heap.size):=(by have h1:=HZ3.out;have h2:=gs.size;show _≤_;omega)
    obtain⟨f0,f1,f2,f3,f4⟩:=hx4.cells
    dsimp only at f0 f1 f2 f3 f4
    have if4':=hx4.frozen 4
    unfold hkV
    dsimp only
    clear hr2 q2 g2 hr3 hx3 g3 gs
    unfold hkO at q4 hx4 hr4 g4 HZ4 f0 f1 f2 f3 f4 if4' d0 d1 df1
    dsimp only at q4 hx4 hr4 g4 HZ4 f0 f1 f2 f3 f4 if4' d0 d1 df1
    go_wp2_with fail
    generalize hw3d:(w2b.alloc (.cells #[.int .i64 A,.int .i64 (an:Int),.int .i64 B,.int .i64 (bn:Int),.slice none 0 0] 59)).setCell ⟨R,1,none⟩ (.int .i64 ((p:Int)+1))=w3 at *
    clear HZ3 hw3d d0 d1 df1 q3
    have hRB:R<w3.heap.size:=by have:=HZ4.out;omega
    have hHl:H<w3.heap.size:=by have:=HZ4.out;omega
    have hQl:w.heap.size<w3.heap.size:=by have:=HZ4.out;omega
    have hw3:w.heap.size≤w3.heap.size:=by omega
    have HG1:Hid (∀ c∈([60,32]:List UInt8),c≠10):=(by show ∀ c∈([60,32]:List UInt8),c≠10;decide)
    have HG2:Hid (∀ c∈([62,32]:List UInt8),c≠10):=(by show ∀ c∈([62,32]:List UInt8),c≠10;decide)
    have HL4:Hid (∀ u,Fr w3.heap.size R w3 u→HS u (.slice lo L.length lc) L):=fun u hu=>HL.out u (Zhb g4 hu hw3)
    have q4':Ry w3 R (.slice lo L.length lc) ((p+1:Nat):Int):=(by simpa using q4)
    obtain⟨X1,hX1⟩:∃ X1,sdC [60,32] 45 an (p+1) (L.drop (p+1))=X1:=⟨_,rfl⟩
    have hs1:=ZmJ w3 q4' HL4 HPl (by omega) (by omega) HSl2 (Nat.le_refl _) hRB [60,32] HG1 45 an (by omega) (.slice none 0 0) [] (by simp) (Zii _ _ _ _) X1 hX1
    rw[hX1] at hX
    clear q4 q4' HL4
    refine hs1.mono ?_
    cases X1 with
    | error z =>
     obtain⟨a,e⟩:=z
     dsimp only at hX
     subst hX
     rintro x w4 ⟨⟨g,rfl,hg⟩,hgr⟩
     have hfin:=Zhb g4 hgr hw3
     go_wp2
     exact⟨rfl,⟨_,rfl,hg⟩,hfin⟩
    | ok z =>
     obtain⟨l1,p1,r1⟩:=z
     obtain⟨j,hj1,hj2,hj3⟩:=Zrc hX1
     rw[List.drop_drop] at hj1
     have hr1e:r1=L.drop p1:=by rw[hj1,hj2]
     have hp1:p1≤L.length:=(by rw[List.length_drop] at hj3;omega)
     subst hr1e
     have hl1k:l1.length≤1099511627776:=(by
      have:=Zre hX1
      omega)
     clear hj1 hj2 hj3 hX1 hs1
     dsimp only at hX
     rintro x w4 ⟨v1,rfl,hown4,q5,hF4⟩
     rw[List.nil_append] at hown4
     obtain⟨o1,c1,rfl⟩:=(holds_of hown4).form
     have hx5:=hx4.fr hF4 hHl hHR
     have hr5:=hr4.fr hF4 hQl hQR
     have g5:=Zhb g4 hF4 hw3
     have hz5:=hF4.size
     have hne5:(Value.slice o1 l1.length c1).ownBlock≠some H:=(by intro e;have:=ZnH hown4 e;omega)
     have gs5:=Zhd w4 H 4 (.slice o1 l1.length c1)
     have hx6:=hx5.put4 l1 (.slice o1 l1.length c1)
     have hr6:=hr5.keep gs5 (fun e=>hQH (Option.some.inj e))
     have hown6:=hown4.kept gs5 (.inr hne5)
     have q6:=q5.keep gs5 (fun e=>hHR (Option.some.inj e).symm)
     have g6:=Zhc g5 (B:=H) (by omega) 4 (.slice o1 l1.length c1)
     have hz6:w3.heap.size≤(w4.setCell ⟨H,4,none⟩ (.slice o1 l1.length c1)).heap.size:=Nat.le_trans hz5 gs5.size
     obtain⟨f0,f1,f2,f3,f4⟩:=hx5.cells
     dsimp only at f0 f1 f2 f3 f4
     have ff4:=hx5.frozen 4
     clear hx4 hr4 g4 q5 hown4 hF4 gs5 g5 hr5
     dsimp only at hx6
     obtain⟨k0,k1,k2,k3,k4⟩:=hx6.cells
     dsimp only at k0 k1 k2 k3 k4
     go_wp2_with fail
     generalize w4.setCell ⟨H,4,none⟩ (.slice o1 l1.length c1)=w5 at *
     clear hx5 f0 f1 f2 f3 f4 ff4
     obtain⟨dv,hdv⟩:∃ dv,(decide (0<(an:Int)) && decide (0<(bn:Int)))=dv:=⟨_,rfl⟩
     refine (Zmj ⟨A,(an:Int),B,(bn:Int),l1⟩ (.slice o1 l1.length c1) w5 ⟨_,_,_,rfl⟩ dv hdv).mono ?_
     rintro x w6 ⟨rfl,hb6⟩
     have hx7a:=hx6.low hb6
     have hr7a:=hr6.low hb6
     have hown7a:=ZnI hown6 hb6
     have q7a:=q6.low hb6
     have g7a:=Zhe g6 (ZkI hb6 _)
     have hz7a:w3.heap.size≤w6.heap.size:=Nat.le_trans hz6 hb6.size
     clear hx6 hr6 hown6 q6 g6 hb6 k0 k1 k2 k3 k4
     cases dv with
     | false =>
      have hnb:¬ (0<(an:Int)∧0<(bn:Int)):=(by intro h;simp at hdv;omega)
      rw[if_neg hnb] at hX
      dsimp only at hX
      obtain⟨X2,hX2⟩:∃ X2,sdC [62,32] 43 bn p1 (L.drop p1)=X2:=⟨_,rfl⟩
      have HX2:Hid (sdC [62,32] 43 bn p1 (L.drop p1)=X2):=hX2
      rw[hX2] at hX
      have HXf:Hid (X=hkEnd A (an:Int) B (bn:Int) l1 X2):=(by show _=_;rw[← hX];unfold hkEnd;rfl)
      clear hX hX2 hdv hnb
      have hx7:=hx7a
      have hr7:=hr7a
      have hown7:=hown7a
      have q7:=q7a
      have g7:=g7a
      have hw37:=hz7a
      have hp2:=hp1
      clear hx7a hr7a hown7a q7a g7a hz7a hp1
      generalize w6=w7 at *
      obtain⟨e0,e1,e2,e3,e4⟩:=hx7.cells
      have hg7s:w.heap.size≤w7.heap.size:=g7.size
      have HL7:Hid (∀ u,Fr w3.heap.size R w7 u→HS u (.slice lo L.length lc) L):=fun u hu=>HL.out u (Zhb g7 hu hw3)
      have hs2:=ZmJ w7 q7 HL7 HPl hp2 (by omega) HSl2 hw37 hRB [62,32] HG2 43 bn (by omega) (.slice o1 l1.length c1) l1 hl1k hown7 X2 HX2
      clear HL7
      go_wp2_with fail
      refine hs2.mono ?_
      cases X2 with
      | error z =>
       obtain⟨a,e⟩:=z
       have hXe:X=.error (a,e):=HXf.out
       subst hXe
       rintro x w8 ⟨⟨g,rfl,hg⟩,hgr⟩
       have hfin:=Zhb g7 hgr hw3
       go_wp2
       exact⟨rfl,⟨_,rfl,hg⟩,hfin⟩
      | ok z =>
       obtain⟨l2,p3,r3⟩:=z
       have hXe:X=.ok (⟨A,(an:Int),B,(bn:Int),l1++l2⟩,p3,r3):=HXf.out
       subst hXe
       rintro x w8 ⟨v2,rfl,hown8,q8,hF8⟩
       obtain⟨o2,c2,rfl⟩:=(holds_of hown8).form
       have hx8:=hx7.fr hF8 hHl hHR
       have hr8:=hr7.fr hF8 hQl hQR
       have hg8:=Zhb g7 hF8 hw3
       have hne8:(Value.slice o2 (l1++l2).length c2).ownBlock≠some H:=(by intro e;have:=ZnH hown8 e;omega)
       have hne8q:(Value.slice o2 (l1++l2).length c2).ownBlock≠some w.heap.size:=(by intro e;have:=ZnH hown8 e;omega)
       have hx9:=hx8.put4 (l1++l2) (.slice o2 (l1++l2).length c2)
       have hgs9:=Zhd w8 H 4 (.slice o2 (l1++l2).length c2)
       have hr9:=hr8.keep hgs9 (fun e=>hQH (Option.some.inj e))
       have hown9:=hown8.kept hgs9 (.inr hne8)
       have q9:=q8.keep hgs9 (fun e=>hHR (Option.some.inj e).symm)
       have hg9:=Zhc hg8 (B:=H) (by omega) 4 (.slice o2 (l1++l2).length c2)
       obtain⟨i0,i1,i2,i3,i4⟩:=hx8.cells
       have if4:=hx8.frozen 4
       have HN2:Hid ((l1++l2).length=(l1++l2).length):=rfl
       generalize hM:(l1++l2).length=M at *
       obtain⟨z0,z1,z2,z3,z4⟩:=hx9.cells
       dsimp only at z0 z1 z2 z3 z4 i0 i1 i2 i3 i4
       obtain⟨y0,y1,y2,y3,y4⟩:=hr9.cells
       have yf0:=hr9.frozen 0
       have yf1:=hr9.frozen 1
       have yf2:=hr9.frozen 2
       have yf3:=hr9.frozen 3
       have yf4:=hr9.frozen 4
       have hP:=hr9.putH5 A (an:Int) B (bn:Int) (l1++l2) (.slice o2 M c2)
       have hgP:=((((Zhc hg9 (B:=w.heap.size) (Nat.le_refl _) 0 (.int .i64 A)) |> fun h=>Zhc h (B:=w.heap.size) (Nat.le_refl _) 1 (.int .i64 (an:Int))) |> fun h=>Zhc h (B:=w.heap.size) (Nat.le_refl _) 2 (.int .i64 B)) |> fun h=>Zhc h (B:=w.heap.size) (Nat.le_refl _) 3 (.int .i64 (bn:Int))) |> fun h=>Zhc h (B:=w.heap.size) (Nat.le_refl _) 4 (.slice o2 M c2)
       have hownP:=Zgs hown9 (b:=w.heap.size) hne8q A (an:Int) B (bn:Int) (.slice o2 M c2)
       have qP:=Zgt q9 (b:=w.heap.size) (by omega) A (an:Int) B (bn:Int) (.slice o2 M c2)
       clear hx9 hx8 hr8 hr9 hown8 hown9 q8 q9 hg8 hg9 hgs9 hF8
       go_wp2
       refine bodyPost_ret (v:=hkV ⟨A,(an:Int),B,(bn:Int),l1++l2⟩ (.slice o2 M c2)) (results_cell_row rfl _ _ w.heap.size 59 #[.int .i64 A,.int .i64 (an:Int),.int .i64 B,.int .i64 (bn:Int),.slice o2 M c2] (0,0) _ rfl hP Tryz.underlying59 rfl (by kernel_rfl)) rfl ⟨_,rfl,?_,qP,hgP⟩
       dsimp only
       rw[hM]
       exact ZnK hownP (Nat.le_of_lt (by omega))
     | true =>
      have hnb:0<(an:Int)∧0<(bn:Int):=(by simpa using hdv)
      rw[if_pos hnb] at hX
      obtain⟨Y,hY⟩:∃ Y,sepP p1 (L.drop p1)=Y:=⟨_,rfl⟩
      rw[hY] at hX
      have hdvr:=Zmk w6 q7a (HL.out w6 g7a) hp1 (by omega) HSl2.out Y hY
      clear hdv hnb
      cases Y with
      | error z =>
       obtain⟨a,e⟩:=z
       dsimp only at hX
       subst hX
       go_wp2_with fail
       refine hdvr.mono ?_
       rintro x w7 ⟨⟨g,rfl,hg⟩,hgr⟩
       have hfin:=Zhe g7a hgr
       go_wp2
       exact⟨rfl,⟨_,rfl,hg⟩,hfin⟩
      | ok z =>
       obtain⟨p2,r2⟩:=z
       obtain⟨hc1,hc2,hc3⟩:=Zrq hY
       rw[List.drop_drop] at hc1
       have hr2e:r2=L.drop p2:=by rw[hc1,hc2]
       have hp2:p2≤L.length:=(by rw[List.length_drop] at hc3;omega)
       subst hr2e
       clear hc1 hc2 hc3 hY
       dsimp only at hX
       obtain⟨X2,hX2⟩:∃ X2,sdC [62,32] 43 bn p2 (L.drop p2)=X2:=⟨_,rfl⟩
       have HX2:Hid (sdC [62,32] 43 bn p2 (L.drop p2)=X2):=hX2
       rw[hX2] at hX
       have HXf:Hid (X=hkEnd A (an:Int) B (bn:Int) l1 X2):=(by show _=_;rw[← hX];unfold hkEnd;rfl)
       clear hX hX2
       go_wp2_with fail
       refine hdvr.mono ?_
       rintro x w7 ⟨rfl,q7,hg7⟩
       have hx7:=hx7a.keep hg7 (fun e=>hHR (Option.some.inj e))
       have hr7:=hr7a.keep hg7 (fun e=>hQR (Option.some.inj e))
       have hown7:=ZnG hown7a hg7 hRB
       have g7:=Zhe g7a hg7
       have hw37:w3.heap.size≤w7.heap.size:=Nat.le_trans hz7a hg7.size
       clear hx7a hr7a hown7a q7a g7a hz7a hg7 hdvr hp1
       obtain⟨e0,e1,e2,e3,e4⟩:=hx7.cells
       have hg7s:w.heap.size≤w7.heap.size:=g7.size
       have HL7:Hid (∀ u,Fr w3.heap.size R w7 u→HS u (.slice lo L.length lc) L):=fun u hu=>HL.out u (Zhb g7 hu hw3)
       have hs2:=ZmJ w7 q7 HL7 HPl hp2 (by omega) HSl2 hw37 hRB [62,32] HG2 43 bn (by omega) (.slice o1 l1.length c1) l1 hl1k hown7 X2 HX2
       clear HL7
       go_wp2_with fail
       refine hs2.mono ?_
       cases X2 with
       | error z =>
        obtain⟨a,e⟩:=z
        have hXe:X=.error (a,e):=HXf.out
        subst hXe
        rintro x w8 ⟨⟨g,rfl,hg⟩,hgr⟩
        have hfin:=Zhb g7 hgr hw3
        go_wp2
        exact⟨rfl,⟨_,rfl,hg⟩,hfin⟩
       | ok z =>
        obtain⟨l2,p3,r3⟩:=z
        have hXe:X=.ok (⟨A,(an:Int),B,(bn:Int),l1++l2⟩,p3,r3):=HXf.out
        subst hXe
        rintro x w8 ⟨v2,rfl,hown8,q8,hF8⟩
        obtain⟨o2,c2,rfl⟩:=(holds_of hown8).form
        have hx8:=hx7.fr hF8 hHl hHR
        have hr8:=hr7.fr hF8 hQl hQR
        have hg8:=Zhb g7 hF8 hw3
        have hne8:(Value.slice o2 (l1++l2).length c2).ownBlock≠some H:=(by intro e;have:=ZnH hown8 e;omega)
        have hne8q:(Value.slice o2 (l1++l2).length c2).ownBlock≠some w.heap.size:=(by intro e;have:=ZnH hown8 e;omega)
        have hx9:=hx8.put4 (l1++l2) (.slice o2 (l1++l2).length c2)
        have hgs9:=Zhd w8 H 4 (.slice o2 (l1++l2).length c2)
        have hr9:=hr8.keep hgs9 (fun e=>hQH (Option.some.inj e))
        have hown9:=hown8.kept hgs9 (.inr hne8)
        have q9:=q8.keep hgs9 (fun e=>hHR (Option.some.inj e).symm)
        have hg9:=Zhc hg8 (B:=H) (by omega) 4 (.slice o2 (l1++l2).length c2)
        obtain⟨i0,i1,i2,i3,i4⟩:=hx8.cells
        have if4:=hx8.frozen 4
        have HN2:Hid ((l1++l2).length=(l1++l2).length):=rfl
        generalize hM:(l1++l2).length=M at *
        obtain⟨z0,z1,z2,z3,z4⟩:=hx9.cells
        dsimp only at z0 z1 z2 z3 z4 i0 i1 i2 i3 i4
        obtain⟨y0,y1,y2,y3,y4⟩:=hr9.cells
        have yf0:=hr9.frozen 0
        have yf1:=hr9.frozen 1
        have yf2:=hr9.frozen 2
        have yf3:=hr9.frozen 3
        have yf4:=hr9.frozen 4
        have hP:=hr9.putH5 A (an:Int) B (bn:Int) (l1++l2) (.slice o2 M c2)
        have hgP:=((((Zhc hg9 (B:=w.heap.size) (Nat.le_refl _) 0 (.int .i64 A)) |> fun h=>Zhc h (B:=w.heap.size) (Nat.le_refl _) 1 (.int .i64 (an:Int))) |> fun h=>Zhc h (B:=w.heap.size) (Nat.le_refl _) 2 (.int .i64 B)) |> fun h=>Zhc h (B:=w.heap.size) (Nat.le_refl _) 3 (.int .i64 (bn:Int))) |> fun h=>Zhc h (B:=w.heap.size) (Nat.le_refl _) 4 (.slice o2 M c2)
        have hownP:=Zgs hown9 (b:=w.heap.size) hne8q A (an:Int) B (bn:Int) (.slice o2 M c2)
        have qP:=Zgt q9 (b:=w.heap.size) (by omega) A (an:Int) B (bn:Int) (.slice o2 M c2)
        clear hx9 hx8 hr8 hr9 hown8 hown9 q8 q9 hg8 hg9 hgs9 hF8
        go_wp2
        refine bodyPost_ret (v:=hkV ⟨A,(an:Int),B,(bn:Int),l1++l2⟩ (.slice o2 M c2)) (results_cell_row rfl _ _ w.heap.size 59 #[.int .i64 A,.int .i64 (an:Int),.int .i64 B,.int .i64 (bn:Int),.slice o2 M c2] (0,0) _ rfl hP Tryz.underlying59 rfl (by kernel_rfl)) rfl ⟨_,rfl,?_,qP,hgP⟩
        dsimp only
        rw[hM]
        exact ZnK hownP (Nat.le_of_lt (by omega))
end

section
open Go.RowKit
theorem Zcf (p q:Addr) (w:World) :
  CallsD Tryz.prog 84 #[.pointer (some p),.pointer (some q)] .returning w fun e u' w'=>e=.returned (.tuple #[])∧u'=.returning∧w'=w:=by
 refine callsD_of_wpS Tryz.func84 rfl fun c₀ cs hu=>?_
 apply wpS_seq
 apply wpS_region
 simp[wpOpsS,go_sem,recoverD,hu,Tryz.ntmps84,Exit.thenS]
 apply wpS_seq
 apply wpS_region
 simp[wpOpsS,go_sem,Exit.thenS]
 refine wpS_cond (t:=false) (by simp[Act.eval,Array.replicate]) ?_
 simp only[Bool.false_eq_true,if_false]
 refine wpS_of_wp (wp_skip ?_)
 cases c₀
 simp_all [bodyPostS,results,Tryz.results84]
theorem Zcc (F0 F1 g:Nat) (v0 v1:Value) (older:List PanicEntry) (w:World) (h01:F0≠F1) (c0:w.cell? ⟨F0,0,none⟩=some v0) (f0:w.frozen? ⟨F0,0,none⟩=false) (c1:w.cell? ⟨F1,0,none⟩=some v1) (f1:w.frozen? ⟨F1,0,none⟩=false) :
  CallsD Tryz.prog 84 #[.pointer (some ⟨F0,0,none⟩),.pointer (some ⟨F1,0,none⟩)] (.panicking ({ v:=.iface 86 (.pointer (some ⟨g,0,none⟩)),recovered:=false }::older)) w fun e u' w'=>e=.returned (.tuple #[])∧u'=.panicking ({ v:=.iface 86 (.pointer (some ⟨g,0,none⟩)),recovered:=true }::older)∧w'=((w.setCell ⟨F0,0,none⟩ (.slice none 0 0)).setCell ⟨F1,0,none⟩ (.iface 86 (.pointer (some ⟨g,0,none⟩)))).drew:=by
 refine callsD_of_wpS Tryz.func84 rfl fun c₀ cs hu=>?_
 apply wpS_seq
 apply wpS_region
 simp[wpOpsS,go_sem,recoverD,hu,Tryz.ntmps84,Exit.thenS]
 apply wpS_seq
 apply wpS_region
 simp[wpOpsS,go_sem,Exit.thenS]
 refine wpS_cond (t:=true) (by simp[Act.eval,Array.replicate]) ?_
 simp only[if_true]
 refine wpS_of_wp ?_
 have hta:∀ (v:Value) (u:World),(Instr.typeAssert (.iface 86 v) 20 86 false).run Tryz.prog u=.ok v u:=fun _ _=>by kernel_rfl
 generalize hA:({ tmps:=_,defers:=[] }:Act)=A
 have hA2:A={ tmps:=#[.pointer (some ⟨F0,0,none⟩),.pointer (some ⟨F1,0,none⟩),.iface 86 (.pointer (some ⟨g,0,none⟩)),.iface 86 (.pointer (some ⟨g,0,none⟩)),.iface 86 (.pointer (some ⟨g,0,none⟩)),.bool true,undef,undef,undef],defers:=[] }:=hA.symm.trans rfl
 subst hA2
 clear hA
 go_region
 cases c₀
 simp_all [bodyPostS,results,Tryz.results84]
end

section
open Go.RowKit
def PanQ (Q:Exit→Act→World→Prop) (Pn:List PanicEntry→World→Prop) (p2 p3:Value) (ds:List Deferred):Exit→Act→World→Prop
 | .panic c,a,w=>Pn c w∧a.tmps.getD 2 undef=p2∧a.tmps.getD 3 undef=p3∧a.defers=ds
 | .normal,a,w=>Q .normal a w
 | _,_,_=>False
theorem PanQ.normal {Q:Exit→Act→World→Prop} {Pn:List PanicEntry→World→Prop} {p2 p3:Value} {ds:List Deferred} {a:Act} {w:World} (h:Q .normal a w):PanQ Q Pn p2 p3 ds .normal a w:=h
theorem Zvc {P:Program} {id:Nat} {ops:Array Oper} {b:Bool} {Q:Exit→Act→World→Prop} {a:Act} {w:World} (Pn:List PanicEntry→World→Prop) (p2 p3:Value) (ds:List Deferred) (hP:∀ c a w,Pn c w→a.tmps.getD 2 undef=p2→a.tmps.getD 3 undef=p3→a.defers=ds→Q (.panic c) a w) (h:(Code.region id ops b).wp P (PanQ Q Pn p2 p3 ds) a w):(Code.region id ops b).wp P Q a w:=by
 refine Code.wp_mono (fun e a w h=>?_) h
 cases e with
 | panic c=>exact hP c a w h.1 h.2.1 h.2.2.1 h.2.2.2
 | normal=>exact h
 | _=>exact (h:False).elim
theorem ZnX {Q:Exit→Act→World→Prop} {Pn:List PanicEntry→World→Prop} {p2 p3:Value} {ds:List Deferred} {d:Nat} {v:Value} (h2:d≠2) (h3:d≠3):∀ c a w,PanQ Q Pn p2 p3 ds (.panic c) (a.put (some d) v) w→PanQ Q Pn p2 p3 ds (.panic c) a w:=by
 rintro c a w ⟨x1,x2,x3,x4⟩
 refine⟨x1,?_,?_,x4⟩
 ·rw[← x2]
  simp[Act.put,Array.getD_eq_getD_getElem?,Array.getElem?_setIfInBounds_ne h2]
 ·rw[← x3]
  simp[Act.put,Array.getD_eq_getD_getElem?,Array.getElem?_setIfInBounds_ne h3]
theorem ZbX {P:Program} {A:Act} {op:Oper} {w:World} {F:Nat} {x:Operand} {xs:Array Operand} {ts:Array TypeId} (ho:op.op=.call { callee:=.value x,args:=xs,argTypes:=ts }) {cap:Array Value} (hxv:A.eval x=.func (.func F) #[] cap) {args:Array Value} (hx:xs.map A.eval=args) (hen:∀ args w,(callFunc F args).run P w=.ok (.enter F args) w):(execOp A.eval op).run P w=.ok (.enter F (args++cap)) w:=by
 have h1:=hen (args++cap) w
 simp only[execOp,ho,resolve,invoke]
 simp only[hxv,Deferred.ofValue,Sem.run_bind,Sem.run_pure,Result.andThen_ok,hx,Array.empty_append]
 exact h1
theorem ZgP {P:Program} {S:World→Prop} {md:Region.Mode} {ops:Array Oper} {Q:Exit→Act→World→Prop} {fuel:Nat} {listed:Array Bool} {A:Act} {w:World}
  (i d:Nat) (op:Oper) (hi:ops[i]?=some op) (hd:op.dst=some d) (hr:Region.ready md ops listed=[i]) (hwt:Region.wanted op (yielded ops A.tmps)=true)
  (F:Nat) (x:Operand) (xs:Array Operand) (ts:Array TypeId) (ho:op.op=.call { callee:=.value x,args:=xs,argTypes:=ts })
  (cap:Array Value) (hxv:A.eval x=.func (.func F) #[] cap) (args:Array Value) (hx:xs.map A.eval=args) (hen:∀ args w,(callFunc F args).run P w=.ok (.enter F args) w) (R:Value→World→Prop) (Pn:List PanicEntry→World→Prop)
  (hp:∀ c w',Pn c w'→Q (.panic c) A w')
  (hc:Calls P F (args++cap) w fun e w'=>(∃ v,e=.returned v∧S w'∧R v w')∨(∃ c,e=.panicked c∧Pn c w'))
  (h:∀ v w',S w'→R v w'→wpAnyH P md ops Q S fuel (listed.setIfInBounds i true) (A.put (some d) v) w') :
  wpAnyH P md ops Q S (fuel+1) listed A w:=by
 refine wpAnyH_ready hr (by simp) (AllReadyH.cons hi (fun K hK=>?_) AllReadyH.nil)
 refine Zsq hwt ?_
 unfold Oper.wp
 rw[ZbX ho hxv hx hen,Oper.upon_enter]
 refine hc.mono ?_
 rintro e w' (⟨v,rfl,hb,hR⟩ | ⟨c,rfl,hpn⟩)
 ·exact hK.out _ _ hb (fun hu=>by rw[hd];exact h v w' hu hR)
 ·exact hp c w' hpn
theorem ZgV {P:Program} {S:World→Prop} {md:Region.Mode} {ops:Array Oper} {Q:Exit→Act→World→Prop} {fuel:Nat} {listed:Array Bool} {A:Act} {w:World}
  (j e:Nat) (oq:Oper) (i d:Nat) (op:Oper) (hj:ops[j]?=some oq) (he:oq.dst=some e) (hi:ops[i]?=some op) (hd:op.dst=some d) (hr:Region.ready md ops listed=[j,i]) (hwq:Region.wanted oq (yielded ops A.tmps)=true) (hwt:Region.wanted op (yielded ops A.tmps)=true)
  (vq:Value) (wq:World) (hq:(execOp A.eval oq).run P w=.ok (.value vq) wq) (hS:S wq)
  (F:Nat) (x:Operand) (xs:Array Operand) (ts:Array TypeId) (ho:op.op=.call { callee:=.value x,args:=xs,argTypes:=ts })
  (cap:Array Value) (hxv:A.eval x=.func (.func F) #[] cap) (args:Array Value) (hx:xs.map A.eval=args) (hen:∀ args w,(callFunc F args).run P w=.ok (.enter F args) w) (R:Value→World→Prop) (Pn:List PanicEntry→World→Prop)
  (hp:∀ c w',Pn c w'→Q (.panic c) A w')
  (hc:Calls P F (args++cap) w fun e w'=>(∃ v,e=.returned v∧S w'∧R v w')∨(∃ c,e=.panicked c∧Pn c w'))
  (h2:wpAnyH P md ops Q S fuel (listed.setIfInBounds j true) (A.put (some e) vq) wq)
  (h:∀ v w',S w'→R v w'→wpAnyH P md ops Q S fuel (listed.setIfInBounds i true) (A.put (some d) v) w') :
  wpAnyH P md ops Q S (fuel+1) listed A w:=by
 refine wpAnyH_ready hr (by simp) (AllReadyH.cons hj (fun K hK=>?_) (AllReadyH.cons hi (fun K hK=>?_) AllReadyH.nil))
 ·refine Zsq hwq ?_
  unfold Oper.wp
  rw[hq,Oper.upon_value]
  exact hK.out _ _ hS (fun _=>by rw[he];exact h2)
 ·refine Zsq hwt ?_
  unfold Oper.wp
  rw[ZbX ho hxv hx hen,Oper.upon_enter]
  refine hc.mono ?_
  rintro e w' (⟨v,rfl,hb,hR⟩ | ⟨c,rfl,hpn⟩)
  ·exact hK.out _ _ hb (fun hu=>by rw[hd];exact h v w' hu hR)
  ·exact hp c w' hpn
theorem Zpu (tmps:Array Value) (u:World) (F0 F1 n c:Nat) (o:Option Addr) (v1:Value) (h2:tmps.getD 2 undef=.pointer (some ⟨F0,0,none⟩)) (h3:tmps.getD 3 undef=.pointer (some ⟨F1,0,none⟩)) (c0:u.cell? ⟨F0,0,none⟩=some (.slice o n c)) (c1:u.cell? ⟨F1,0,none⟩=some v1) :
  (results Tryz.f42 tmps).run Tryz.prog u=.ok (.tuple #[.slice o n c,v1]) u:=by
 have hL0:(loadVar 34 ⟨F0,0,none⟩).run Tryz.prog u=.ok (.slice o n c) u:=by
  simp[loadVar,isAgg,underlying,Tryz.underlying34,c0,Result.andThen]
 have hL1:(loadVar 36 ⟨F1,0,none⟩).run Tryz.prog u=.ok v1 u:=by
  simp[loadVar,isAgg,underlying,Tryz.underlying36,c1,Result.andThen]
 have e2:tmps[2]?.getD undef=.pointer (some ⟨F0,0,none⟩):=by rw[← h2];simp
 have e3:tmps[3]?.getD undef=.pointer (some ⟨F1,0,none⟩):=by rw[← h3];simp
 simp[results,Tryz.results42,e2,e3,asAddr,hL0,hL1,Result.andThen]
end

end Go.Proofs.YtgiojkhmkeocfaaGreatDoor
