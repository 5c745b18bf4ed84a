/-
  Texts that belong together, joined: CxC, CxLen, CxR, CxP, CxC2, Copy, CqL, CqQ, CwC, CwD, CqB, CqU, CpA, CpB, UkA, UkN, UnC, UkB, UkC, CpC, CpD, CpE, CwA, CwB, CwE, CwF.
-/
import Derived.Test.YtcniomgjikienaaGreatDoorVpA8
import Derived.Shelf.Strings.Builder1
import Derived.Test.YtcniomgjikienaaGreatDoorProg
import Derived.WalkKit
import Derived.WalkSpells
import Derived.WalkLawsBesides
import Derived.BigQuiet
import Derived.Lib.IndexAny
import Derived.Laws.RangeAny
import Derived.Deep.QuietTactic
import Derived.Deep.DeepCutAuto
import Derived.Deep.CutBlock
import Derived.Lib.IndexMore
import Derived.Lib.FrozenHead2

set_option maxHeartbeats 16000000
set_option maxRecDepth 100000
namespace Go.Proofs.YtcniomgjikienaaGreatDoor

section
open Ln
/- ranges -/
end

section
open Ln
def txS:List Mk→Nat
 | []=>0
 | m::l=>m.tx.length+txS l
theorem Zui (ah s:List UInt8):(lnL ah s).flatten.length≤ah.length+s.length+29:=by
 unfold lnL
 split
 ·simp only[List.flatten_cons,List.flatten_nil,List.length_append,List.length_nil]
  omega
 ·simp only[List.flatten_cons,List.flatten_nil,List.length_append,List.length_nil,List.length_cons,markT]
  omega
theorem ZAn (sg:Int) (l:List Mk):∀ r a,(sidL sg r a l).flatten.length≤31 * l.length+txS l:=by
 induction l with
 | nil=>intro r a;exact Nat.le_refl _
 | cons m l ih =>
  intro r a
  simp only[sidL,txS,List.length_cons]
  split
  ·have h1:=Zui [32,32] m.tx
   have h2:=ih false false
   simp only[List.flatten_append,List.length_append,List.length_cons,List.length_nil] at h1 ⊢
   omega
  ·split
   ·have h2:=ih (r || decide (m.sg=45)) (a || decide (m.sg=43))
    have h1:=Zui (if ((r || anyS 45 (m::l)) && (a || anyS 43 (m::l)))=true then [33,32] else [UInt8.ofNat sg.toNat,32]) m.tx
    have h3:(if ((r || anyS 45 (m::l)) && (a || anyS 43 (m::l)))=true then [33,32] else [UInt8.ofNat sg.toNat,32]).length=2:=by split<;>rfl
    rw[h3] at h1
    simp only[List.flatten_append,List.length_append]
    omega
   ·have h2:=ih (r || decide (m.sg=45)) (a || decide (m.sg=43))
    omega
theorem ZAq (sg:Int) (l:List Mk):(sideL sg l).flatten.length≤31 * l.length+txS l:=by
 unfold sideL
 split
 ·exact ZAn sg l _ _
 ·exact Nat.zero_le _
theorem ZAr {p n:Int} (hp:0≤p) (hb:p≤2147483647) (hn:n≤2147483647):(spanT p n).length≤61:=by
 have r1:=Zwz p (by omega) (by omega)
 unfold spanT
 split
 ·omega
 ·have r2:=Zwz (p+n-1) (by omega) (by omega)
  simp only[List.length_append,List.length_cons]
  omega
theorem ZtS {h:Hk} (hr:rngB h=true):h.AN≤2147483647∧h.BN≤2147483647:=by
 simp[rngB,nat31] at hr
 omega
theorem ZvV {h:Hk} (hc:chkH h=0):(hkL h).flatten.length≤200+62 * h.ls.length+2 * txS h.ls:=by
 obtain⟨c1,_⟩:=ZtX hc
 obtain⟨r1,r2,r3,r4,r5,r6,_⟩:=ZzK c1
 obtain⟨r7,r8⟩:=ZtS c1
 have s1:=ZAq 45 h.ls
 have s2:=ZAq 43 h.ls
 have s3:=ZAr r1 r2 r7
 have s4:=ZAr r4 r5 r8
 simp only[hkL,rlT,starsT,List.flatten_cons,List.flatten_append,List.length_append,List.length_cons,List.length_nil]
 omega
def hsS:List Hk→Nat
 | []=>0
 | h::l=>200+62 * h.ls.length+2 * txS h.ls+hsS l
theorem ZvW {l:List Hk} (h:∀ x∈l,chkH x=0):(l.flatMap hkL).flatten.length≤hsS l:=by
 induction l with
 | nil=>exact Nat.le_refl _
 | cons x l ih =>
  have h1:=ih fun y hy=>h y (by simp[hy])
  have h2:=ZvV (h x (by simp))
  simp only[List.flatMap_cons,List.flatten_append,List.length_append,hsS]
  omega
theorem Zxk (n:List UInt8):(nameT n).length≤3 * n.length+11:=by
 unfold nameT
 split
 ·simp only[devN,List.length_cons,List.length_nil]
  omega
 ·split
  ·omega
  ·have:=Q.quote_length n
   omega
theorem ZyF {p:Pth} (h:∀ x∈p.hs,chkH x=0):(ptL p).flatten.length≤32+3 * p.old.length+3 * p.new.length+hsS p.hs:=by
 unfold ptL
 split
 ·exact Nat.zero_le _
 ·have h1:=ZvW h
  have h2:=Zxk p.old
  have h3:=Zxk p.new
  simp only[List.flatten_cons,List.length_append,List.length_cons,List.length_nil]
  omega
theorem ZtF {l:List Hk} (h:errs l=0):∀ x∈l,chkH x=0:=by
 induction l with
 | nil=>intro x hx;cases hx
 | cons y l ih =>
  simp only[errs] at h
  split at h
  ·rename_i hq
   exact absurd h hq
  ·rename_i hq
   intro x hx
   rcases List.mem_cons.1 hx with rfl | hx
   ·omega
   ·exact ih h x hx
theorem ZAT {p:Pth} (h:wrgP p=0):p.old.length≤64∧p.new.length≤64∧p.hs.length≤4096∧∀ x∈p.hs,chkH x=0:=by
 unfold wrgP at h
 split at h
 ·cases h
 ·split at h
  ·cases h
  ·exact⟨by omega,by omega,by omega,ZtF h⟩
theorem ZyA (p:Pth):(ptT p).length≤416+hsS p.hs:=by
 unfold ptT
 split
 ·rename_i h
  obtain⟨h1,h2,_,h4⟩:=ZAT h
  have:=ZyF h4
  omega
 ·exact Nat.zero_le _
end

section
def endS (sg:Int) (P:List Mk):Bool:=anyS sg P.reverse
theorem ZuN (sg:Int) (P:List Mk) (m:Mk):endS sg (P++[m])=if m.sg=32 then false else endS sg P || decide (m.sg=sg):=by
 unfold endS
 rw[List.reverse_append]
 simp only[List.reverse_cons,List.reverse_nil,List.nil_append,List.cons_append,anyS]
 split
 ·rfl
 ·exact Bool.or_comm _ _
def bothM (P S:List Mk):Bool:=(endS 45 P || anyS 45 S) && (endS 43 P || anyS 43 S)
def lineS (sg:Int) (P:List Mk) (m:Mk) (S:List Mk):List (List UInt8):=if m.sg=32 then lnL [32,32] m.tx else if m.sg=sg then lnL (if bothM P (m::S)=true then [33,32] else [UInt8.ofNat sg.toNat,32]) m.tx else []
def fromS (sg:Int) (P S:List Mk):List (List UInt8):=sidL sg (endS 45 P) (endS 43 P) S
theorem Zvj (sg:Int) (P:List Mk) (m:Mk) (S:List Mk):fromS sg P (m::S)=lineS sg P m S++fromS sg (P++[m]) S:=by
 unfold fromS lineS
 simp only[sidL,ZuN]
 by_cases h:m.sg=32
 ·rw[if_pos h,if_pos h,if_pos h,if_pos h]
 ·rw[if_neg h,if_neg h,if_neg h,if_neg h]
  by_cases h2:m.sg=sg
  ·rw[if_pos h2,if_pos h2]
   rfl
  ·rw[if_neg h2,if_neg h2]
   rfl
theorem Zvi (sg:Int) (l:List Mk):fromS sg [] l=sidL sg false false l:=rfl
end

section
open Ln
def chgM (l:List Mk):List Mk:=l.takeWhile fun m=>m.sg != 32
def rstM (l:List Mk):List Mk:=l.dropWhile fun m=>m.sg != 32
/- signs that are shown -/
def shwL:Bool→Bool→List Mk→List Int
 | _,_,[]=>[]
 | r,a,m::l=>if m.sg=32 then 32::shwL false false l else (if ((r || anyS 45 (m::l)) && (a || anyS 43 (m::l)))=true then 33 else m.sg)::shwL (r || decide (m.sg=45)) (a || decide (m.sg=43)) l
theorem ZAh (l:List Mk):∀ r a,(shwL r a l).length=l.length:=by
 induction l with
 | nil=>intro r a;rfl
 | cons m l ih =>
  intro r a
  simp only[shwL]
  split<;>simp[ih]
def sidZ (sg:Int):List Mk→List Int→List (List UInt8)
 | m::l,c::sh=>(if m.sg=32∨m.sg=sg then lnL [UInt8.ofNat c.toNat,32] m.tx else [])++sidZ sg l sh
 | _,_=>[]
theorem ZAo (sg:Int) (l:List Mk):∀ r a,sidZ sg l (shwL r a l)=sidL sg r a l:=by
 induction l with
 | nil=>intro r a;rfl
 | cons m l ih =>
  intro r a
  simp only[shwL,sidL]
  by_cases h:m.sg=32
  ·rw[if_pos h,if_pos h]
   simp only[sidZ]
   rw[if_pos (.inl h),ih]
   rfl
  ·rw[if_neg h,if_neg h]
   simp only[sidZ]
   rw[ih]
   by_cases h2:m.sg=sg
   ·rw[if_pos (.inr h2),if_pos h2,h2]
    split<;>rfl
   ·rw[if_neg (fun q=>q.elim h h2),if_neg h2]
    rfl
def hasM (k:Int) (l:List Mk):Bool:=l.any fun m=>m.sg == k
def mixM (c:List Mk):List Int:=c.map fun m=>if (hasM 45 c && hasM 43 c)=true then 33 else m.sg
theorem Ztc (sg:Int) (l:List Mk):anyS sg l=hasM sg (chgM l):=by
 induction l with
 | nil=>rfl
 | cons m l ih =>
  simp only[anyS,chgM,List.takeWhile_cons]
  by_cases h:m.sg=32
  ·rw[if_pos h]
   have:(m.sg != 32)=false:=by simp[h]
   rw[this]
   rfl
  ·rw[if_neg h,ih]
   have:(m.sg != 32)=true:=by simp[h]
   rw[this]
   simp only[hasM,if_true,List.any_cons,chgM]
   rfl
def tlM:List Mk→List Int
 | []=>[]
 | _::t=>32::shwL false false t
theorem ZAi (l:List Mk):∀ r a,shwL r a l=(chgM l).map (fun m=>if ((r || hasM 45 (chgM l)) && (a || hasM 43 (chgM l)))=true then 33 else m.sg)++tlM (rstM l):=by
 induction l with
 | nil=>intro r a;rfl
 | cons m l ih =>
  intro r a
  by_cases h:m.sg=32
  ·have h1:(m.sg != 32)=false:=by simp[h]
   have e1:chgM (m::l)=[]:=by simp only[chgM,List.takeWhile_cons,h1];rfl
   have e2:rstM (m::l)=m::l:=by simp only[rstM,List.dropWhile_cons,h1];rfl
   rw[e1,e2]
   simp only[shwL]
   rw[if_pos h]
   rfl
  ·have h1:(m.sg != 32)=true:=by simp[h]
   have e1:chgM (m::l)=m::chgM l:=by simp only[chgM,List.takeWhile_cons,h1];rfl
   have e2:rstM (m::l)=rstM l:=by simp only[rstM,List.dropWhile_cons,h1];rfl
   simp only[shwL]
   rw[if_neg h,Ztc 45,Ztc 43,ih,e1,e2]
   have q:∀ k:Int,hasM k (m::chgM l)=(decide (m.sg=k) || hasM k (chgM l)):=fun k=>by
    simp only[hasM,List.any_cons]
    rfl
   rw[q,q]
   simp only[List.map_cons,List.cons_append,Bool.or_assoc]
theorem ZAk (l:List Mk):shwL false false l=mixM (chgM l)++tlM (rstM l):=by
 rw[ZAi]
 simp only[Bool.false_or]
 rfl
theorem Zbv (l:List Mk):chgM l++rstM l=l:=List.takeWhile_append_dropWhile
end

section
open Ln
/- pieces -/
/- names -/
end

end Go.Proofs.YtcniomgjikienaaGreatDoor

namespace Go.Proofs

section
open Go.Shelf
def Tryz.lays240_ren:Go.Shelf.Ren:=⟨fun | 240=>72 | 276=>114 | n=>n,fun | 0=>0 | 4=>4 | 9=>9 | 20=>20 | 70=>82 | 72=>85 | 37=>83 | 164=>105 | n=>n,fun | n=>n⟩
theorem Tryz.lays240:Go.Proofs.Lays.n240 Tryz.prog Tryz.lays240_ren:={
 mixed:=by kernel_rfl
 f240:= Go.fk Tryz.func72
 f276:= Go.fk Tryz.func114
 t0:=Tryz.underlying0
 a0:=Tryz.isAgg0
 z0:=Tryz.sizeOf0
 v0:=Tryz.zeroValue0
 t4:=Tryz.underlying4
 a4:=Tryz.isAgg4
 z4:=Tryz.sizeOf4
 v4:=Tryz.zeroValue4
 t9:=Tryz.underlying9
 a9:=Tryz.isAgg9
 z9:=Tryz.sizeOf9
 v9:=Tryz.zeroValue9
 t20:=Tryz.underlying20
 a20:=Tryz.isAgg20
 z20:=Tryz.sizeOf20
 v20:=Tryz.zeroValue20
 t70:=Tryz.underlying82
 a70:=Tryz.isAgg82
 z70:=Tryz.sizeOf82
 v70:=Tryz.zeroValue82
 t72:=Tryz.underlying85
 a72:=Tryz.isAgg85
 z72:=Tryz.sizeOf85
 v72:=Tryz.zeroValue85
 t164:=Tryz.underlying105
 a164:=Tryz.isAgg105
 z164:=Tryz.sizeOf105
 v164:=Tryz.zeroValue105 }
theorem Tryz.Builder_X72_240:Builder.X72 Tryz.prog Tryz.lays240_ren:={
 sizeBuilder:=by kernel_rfl
 liesBuilder:=by kernel_rfl }
theorem Tryz.copyCheck_fresh (b:Nat) (w:World) (h0:w.cell? ⟨b,0,none⟩=some (.pointer none)) (hsh:w.shape? b=some (85,2)) (hfz:w.frozen? ⟨b,0,none⟩=false) :
  Calls Tryz.prog 72 #[.pointer (some ⟨b,0,none⟩)] w fun e w'=>e=.returned (.tuple #[])∧w'=w.setCell ⟨b,0,none⟩ (.pointer (some ⟨b,0,none⟩)):=Any.Builder_copyCheck_fresh Tryz.lays240 Tryz.Builder_X72_240 b w h0 hsh hfz
theorem Tryz.copyCheck_used (b:Nat) (w:World) (h0:w.cell? ⟨b,0,none⟩=some (.pointer (some ⟨b,0,none⟩))) :
  Calls Tryz.prog 72 #[.pointer (some ⟨b,0,none⟩)] w fun e w'=>e=.returned (.tuple #[])∧w'=w:=Any.Builder_copyCheck_used Tryz.lays240 Tryz.Builder_X72_240 b w h0
end

end Go.Proofs

namespace Go.Proofs.YtcniomgjikienaaGreatDoor

section
open Q Go.RowKit Go.Proofs.YtcniomgjikienaaGreatDoor.Tx
attribute [local go_sem] ZaB Zea
theorem ZeU (n:Int) (w:World) :
  Calls Tryz.prog 263 #[.int .u8 n] w fun e w'=>e=.returned (.bool (plainI n))∧w=w':=by
 go_enter Tryz.func263,Tryz.ntmps263
 go_wp2
 all_goals go_ret
 all_goals exact⟨ret_bool (by rw[Bool.eq_iff_iff];simp[plainI];omega),rfl⟩
theorem ZoX (n:Int) (w:World) :
  Calls Tryz.prog 157 #[.int .u8 n] w fun e w'=>e=.returned (.bool (plainI n))∧w=w':=by
 go_enter Tryz.func157,Tryz.ntmps157
 go_wp2
 all_goals go_ret
 all_goals exact⟨ret_bool (by rw[Bool.eq_iff_iff];simp[plainI];omega),rfl⟩
theorem infoU8:(Tryz.prog.info? 5).map (fun i=>(i.zero,i.size,i.bytes))=some (some (.int .u8 0),1,1):=by kernel_rfl
theorem ZbV (B b:Nat) (v:Value) (bs:List Value) (w:World) (h:Bld 85 5 B b v bs w) :
  Calls Tryz.prog 72 #[.pointer (some ⟨b,0,none⟩)] w fun e w'=>e=.returned (.tuple #[])∧w'.heap[b]?=some (.cells #[.pointer (some ⟨b,0,none⟩),v] 85 (0,0))∧Bld 85 5 B b v bs w'∧Hid (∀ k,k≠b→w'.heap[k]?=w.heap[k]?)∧Below B w w':=by
 have h':=h
 obtain⟨hB,⟨p,hp,hbk⟩,hown,hne⟩:=h
 have hlt:b<w.heap.size:=(Array.getElem?_eq_some_iff.1 hbk).1
 have c0:w.cell? ⟨b,0,none⟩=some p:=by rw[Lib.cell_of_heap hbk];rfl
 have f0:w.frozen? ⟨b,0,none⟩=false:=Lib.frozen_of_heap hbk 0
 rcases hp with rfl | rfl
 ·refine (Tryz.copyCheck_fresh b w c0 (by simp[World.shape?,hbk]) f0).mono ?_
  rintro e w' ⟨rfl,rfl⟩
  have hb':(w.setCell ⟨b,0,none⟩ (.pointer (some ⟨b,0,none⟩))).heap[b]?=some (.cells #[.pointer (some ⟨b,0,none⟩),v] 85 (0,0)):=by
   simp only[World.setCell,Array.getElem?_modify,hbk]
   simp
  have ho:∀ k,k≠b→(w.setCell ⟨b,0,none⟩ (.pointer (some ⟨b,0,none⟩))).heap[k]?=w.heap[k]?:=fun k hk=>Below.heap_setCell w _ _ k hk
  refine⟨rfl,hb',⟨hB,⟨_,.inr rfl,hb'⟩,?_,hne⟩,ho,(Below.refl B w).setCell (p:=⟨b,0,none⟩) hB _⟩
  refine⟨hown.1,?_⟩
  rcases hown.2 with h | ⟨g,cap,cur,fz,q1,q2,q3,q4⟩
  ·exact .inl h
  ·exact .inr ⟨g,cap,cur,fz,q1,q2,(ho g (fun e=>hne (by rw[q1,e];rfl))).trans q3,q4⟩
 ·refine (Tryz.copyCheck_used b w c0).mono ?_
  rintro e w' ⟨rfl,rfl⟩
  exact⟨rfl,hbk,h',fun _ _=>rfl,Below.refl B _⟩
theorem Zak (B b:Nat) (v:Value) (bs:List Value) (c:Int) (w:World) (h:Bld 85 5 B b v bs w) (hlen:bs.length+1≤140737488355328) (hBw:B≤w.heap.size) :
  Calls Tryz.prog 209 #[.pointer (some ⟨b,0,none⟩),.int .u8 c] w fun e w'=>e=.returned .nilIface∧∃ v',Bld 85 5 B b v' (bs++[.int .u8 c]) w'∧Go.Proofs.YtcniomgjikienaaGreatDoor.Tx.Aside b v w w'∧Fresh v v' w∧Below B w w':=by
 obtain⟨i0,hi,hz0,hz1,hz2⟩:=info_parts infoU8
 go_enter Tryz.func209,Tryz.ntmps209
 go_wp2_with (go_at_call 72;refine (ZbV B b v bs _ h).mono ?_)
 rintro e w1 ⟨rfl,hbk,⟨hB,_,hown,hne⟩,ho1,hb1⟩
 have c0:w1.cell? ⟨b,0,none⟩=some (.pointer (some ⟨b,0,none⟩)):=by rw[Lib.cell_of_heap hbk];rfl
 have c1:w1.cell? ⟨b,1,none⟩=some v:=by rw[Lib.cell_of_heap hbk];rfl
 have hlt:b<w1.heap.size:=(Array.getElem?_eq_some_iff.1 hbk).1
 go_wp2_with (at_builtin;refine Zmh _ rfl _ _ 83 rfl B 5 i0 (.int .u8 0) 1 1 Tryz.underlying83 hi hz0 hz1 hz2 rfl (by decide) _ _ _ rfl (hown.alloc _) ⟨w1.heap.size,0,none⟩ 1 1 [.int .u8 c] rfl rfl ?c1 ?c2 ?c3 ?c4 ?c5 ?_)
 case c1 =>
  intro j u hj
  match j,hj with
  | 0,hj=>simp at hj;subst hj;simp[Addr.add]
 case c2=>intro u hu;simp at hu;subst hu;rfl
 case c3=>unfold maxLen;omega
 case c4=>omega
 case c5=>have:=hb1.size;simp;omega
 intro v' w2 hown' hgrow hfr
 have hb2:w2.heap[b]?=some (.cells #[.pointer (some ⟨b,0,none⟩),v] 85 (0,0)):=by
  rw[hgrow.block b (by simp;omega) (fun e=>hne e.symm),Lib.alloc_old w1 _ b hlt]
  exact hbk
 have d0:w2.cell? ⟨b,0,none⟩=some (.pointer (some ⟨b,0,none⟩)):=by rw[Lib.cell_of_heap hb2];rfl
 have d1:w2.cell? ⟨b,1,none⟩=some v:=by rw[Lib.cell_of_heap hb2];rfl
 have f1:w2.frozen? ⟨b,1,none⟩=false:=Lib.frozen_of_heap hb2 1
 obtain⟨g,cap,rfl⟩:∃ g cap,v'=.slice (some ⟨g,0,none⟩) (bs.length+1) cap:=by
  rcases hown'.2 with ⟨_,h0⟩ | ⟨g,cap,cur,fz,hv,_⟩
  ·omega
  ·exact⟨g,cap,hv⟩
 go_wp2
 go_ret
 refine⟨rfl,_,Bld.put hB (.inr rfl) hb2 (by simpa using hown') (by decide),?_,?_,?_⟩
 ·intro k hk hkb hkv
  rw[Below.heap_setCell w2 _ _ k hkb,hgrow.block k (by have:=hb1.size;simp;omega) (fun e=>hkv e.symm),Lib.alloc_old w1 _ k (by have:=hb1.size;omega)]
  exact ho1.out k hkb
 ·rcases hfr with h | ⟨g',h,h2⟩
  ·exact .inl h
  ·exact .inr ⟨g',h,by have:=hb1.size;omega⟩
 ·exact ((hb1.alloc (by have:=hb1.size;omega) _).grown hgrow (by have:=hb1.size;simp;omega) (fun k hk=>(hown.lt k hk).1)).setCell (p:=⟨b,1,none⟩) hB _
end

section
open Q Go.RowKit Go.Proofs.YtcniomgjikienaaGreatDoor.Tx
theorem Zaf (l:List UInt8) (w:World) (hl:l.length≤1099511627776) :
  Calls Tryz.prog 217 #[.string ⟨l.toArray⟩] w fun e w'=>e=.returned (.string ⟨(quote l).toArray⟩)∧Below w.heap.size w w':=by
 go_enter Tryz.func217,Tryz.ntmps217
 go_wp2_with fail
 refine (Zak w.heap.size w.heap.size (.slice none 0 0) [] 34 _ (Bld.fresh 85 5 w) (by simp) (by simp)).mono ?_
 rintro e w1 ⟨rfl,v1,hB1,ha1,hf1,hb1⟩
 obtain⟨cap,C,fz,w2,hcv,hR,hC,hb2,hlt2⟩:=ZbU (P:=Tryz.prog) w1 9 83 5 l Tryz.underlying9 Tryz.underlying83 Tryz.underlying5
 have hB2:=hB1.kept (ZaD hb2)
 have hRb:Beside w1.heap.size (.cells C 5 fz) w.heap.size v1 w2:=⟨hR,by have:=hB1.lt;omega,by
  intro e
  have:=(hB1.2.2.1.lt _ e).2
  omega⟩
 have hbw:Below w.heap.size w w2:=(((Below.refl _ w).alloc (Nat.le_refl _) _).trans hb1).trans (hb2.mono (by have:=hb1.size;simp at this;omega))
 generalize hRR:w1.heap.size=R at *
 have HR:Hid (w1.heap.size=R):=hRR
 clear hRR
 go_wp2
 go_loopw [10] (fun i wr=>∃ (k:Nat) (acc:List UInt8) (v:Value),k≤l.length∧i=.int .i64 k∧Bld 85 5 w.heap.size w.heap.size v (Lib.byteCells acc) wr∧Beside R (.cells C 5 fz) w.heap.size v wr∧Below w.heap.size w wr∧acc++qbody (l.drop k)=[34]++qbody l∧acc.length≤3 * k+1) (fun i _=>l.length-(intOf i).toNat)
 case atStart=>exact⟨0,[34],v1,Nat.zero_le _,rfl,hB2,hRb,hbw,rfl,by simp⟩
 case round =>
  obtain⟨k,acc,v,hk,rfl,hB,hR',hbr,hacc,hal⟩:=hrel
  by_cases hlt:k<l.length
  ·have hc:=(hR'.cell k).trans (hC k hlt)
   have hdk:l.drop k=l[k]::l.drop (k+1):=List.drop_eq_getElem_cons hlt
   have HD:Hid (acc++(q1 l[k]++qbody (l.drop (k+1)))=[34]++qbody l):=by
    rw[hdk] at hacc
    exact hacc
   clear hacc hdk
   generalize l[k]=x at *
   have hx:x.toNat<256:=x.toNat_lt
   go_wp2_with fail
   refine (ZeU _ _).mono ?_
   rintro e w' ⟨rfl,rfl⟩
   cases hpl:plainI x.toNat
   ·have HP:Hid (q1 x=[92,hexc (x.toNat / 16),hexc (x.toNat % 16)]):=by
     show q1 x=_
     simp[q1,hpl]
    go_wp2_with fail
    refine (Zak w.heap.size w.heap.size v _ 92 _ hB (by rw[Lib.byteCells_length];omega) (by have:=hbr.size;omega)).mono ?_
    rintro e w3 ⟨rfl,v3,hB3,ha3,hf3,hb3⟩
    go_wp2_with fail
    rw[ZdY]
    refine (Zak w.heap.size w.heap.size v3 _ _ _ hB3 (by simp[Lib.byteCells_length];omega) (by have:=hbr.size;have:=hb3.size;omega)).mono ?_
    rintro e w4 ⟨rfl,v4,hB4,ha4,hf4,hb4⟩
    go_wp2_with fail
    rw[ZdY]
    refine (Zak w.heap.size w.heap.size v4 _ _ _ hB4 (by simp[Lib.byteCells_length];omega) (by have:=hbr.size;have:=hb3.size;have:=hb4.size;omega)).mono ?_
    rintro e w5 ⟨rfl,v5,hB5,ha5,hf5,hb5⟩
    go_wp2
    go_roundw
    case rel =>
     refine⟨k+1,acc++[92,hexc (x.toNat / 16),hexc (x.toNat % 16)],v5,by omega,by go_num,?_,((hR'.step ha3 hf3).step ha4 hf4).step ha5 hf5,((hbr.trans hb3).trans hb4).trans hb5,by rw[← HD.out,HP.out];simp,by simp;omega⟩
     have e:Lib.byteCells (acc++[92,hexc (x.toNat / 16),hexc (x.toNat % 16)])=Lib.byteCells acc++[.int .u8 92]++[.int .u8 (hexc (x.toNat / 16)).toNat]++[.int .u8 (hexc (x.toNat % 16)).toNat]:=by
      rw[Lib.byteCells_append];simp[Lib.byteCells]
     rw[e]
     exact hB5
    case measure=>simp[intOf];omega
   ·have HP:Hid (q1 x=[x]):=by
     show q1 x=_
     simp[q1,hpl]
    go_wp2_with fail
    refine (Zak w.heap.size w.heap.size v _ _ _ hB (by rw[Lib.byteCells_length];omega) (by have:=hbr.size;omega)).mono ?_
    rintro e w3 ⟨rfl,v3,hB3,ha3,hf3,hb3⟩
    go_wp2
    go_roundw
    case rel=>exact⟨k+1,acc++[x],v3,by omega,by go_num,by rw[Lib.byteCells_append];exact hB3,hR'.step ha3 hf3,hbr.trans hb3,by rw[← HD.out,HP.out];simp,by simp;omega⟩
    case measure=>simp[intOf];omega
  ·have HD:Hid (acc=[34]++qbody l):=by
    have e:l.drop k=[]:=List.drop_eq_nil_of_le (by omega)
    rw[e] at hacc
    show acc=_
    simpa [qbody] using hacc
   clear hacc
   go_wp2_with fail
   refine (Zak w.heap.size w.heap.size v _ 34 _ hB (by rw[Lib.byteCells_length];omega) (by have:=hbr.size;omega)).mono ?_
   rintro e w3 ⟨rfl,v3,hB3,ha3,hf3,hb3⟩
   go_wp2_with fail
   have hB4:Bld 85 5 w.heap.size w.heap.size v3 (Lib.byteCells (acc++[34])) w3:=by rw[Lib.byteCells_append];exact hB3
   refine (Tryz.Builder_String_any_k w.heap.size w.heap.size _ _ hB4.isF (by have:=hbr.size;have:=hb3.size;omega)).mono ?_
   rintro e w4 ⟨rfl,_,hb4,_⟩
   go_wp2
   go_ret
   rw[HD.out]
   exact⟨rfl,(hbr.trans hb3).trans hb4⟩
end

section
open Ln Go.RowKit
def idxI (p:Mk→Bool):Nat→List Mk→Int
 | _,[]=>-1
 | k,m::l=>if p m=true then (k:Int) else idxI p (k+1) l
theorem Zew (p:Mk→Bool) (l:List Mk):∀ k,decide (0≤idxI p k l)=l.any p:=by
 induction l with
 | nil=>intro k;rfl
 | cons m l ih =>
  intro k
  rw[List.any_cons]
  by_cases h:p m=true
  ·have e:idxI p k (m::l)=(k:Int):=if_pos h
   rw[e,h]
   simp
  ·have e:idxI p k (m::l)=idxI p (k+1) l:=if_neg h
   rw[e,ih,Bool.eq_false_iff.2 h]
   rfl
theorem Zbr {m:Mk} {l:List Mk} (h:m.sg≠32):chgM (m::l)=m::chgM l∧rstM (m::l)=rstM l:=by
 have h1:(m.sg != 32)=true:=by simp[h]
 constructor
 ·simp only[chgM,List.takeWhile_cons,h1];rfl
 ·simp only[rstM,List.dropWhile_cons,h1];rfl
theorem Zbq {m:Mk} {l:List Mk} (h:m.sg=32):chgM (m::l)=[]∧rstM (m::l)=m::l:=by
 have h1:(m.sg != 32)=false:=by simp[h]
 constructor
 ·simp only[chgM,List.takeWhile_cons,h1];rfl
 ·simp only[rstM,List.dropWhile_cons,h1];rfl
theorem Zex (l:List Mk):∀ k,idxI (fun m=>m.sg == 32) k l=if rstM l=[] then -1 else (k:Int)+(chgM l).length:=by
 induction l with
 | nil=>intro k;rfl
 | cons m l ih =>
  intro k
  by_cases h:m.sg=32
  ·have e:idxI (fun m=>m.sg == 32) k (m::l)=(k:Int):=if_pos (by simp[h])
   rw[e,(Zbq h).1,(Zbq h).2,if_neg (by simp)]
   simp
  ·have e:idxI (fun m=>m.sg == 32) k (m::l)=idxI (fun m=>m.sg == 32) (k+1) l:=if_neg (by simp[h])
   rw[e,ih,(Zbr h).1,(Zbr h).2]
   by_cases hq:rstM l=[]
   ·rw[if_pos hq,if_pos hq]
   ·rw[if_neg hq,if_neg hq]
    simp only[List.length_cons];omega
theorem Zey {p:Mk→Bool} {l:List Mk} {k:Nat} (hk:k<l.length):idxI p k (l.drop k)=if p l[k]=true then (k:Int) else idxI p (k+1) (l.drop (k+1)):=by
 rw[List.drop_eq_getElem_cons hk]
 rfl
theorem ZaR (g:Nat) (cap:Array Value) (l:List Mk) (p:Mk→Bool) (v:Value) (w:World) (hv:HMk w v l) (hl:l.length≤1099511627776) (eg:∀ args w,(callFunc g args).run Tryz.prog w=.ok (.enter g args) w)
  (hf:Hid (∀ m∈l,∀ u:World,Below w.heap.size w u→Calls Tryz.prog g (#[.agg #[.int .u8 m.sg,.string ⟨m.tx.toArray⟩]]++cap) u fun e u'=>e=.returned (.bool (p m))∧Below u.heap.size u u')) (z:Int) (HR:Hid (idxI p 0 l=z)) :
  Calls Tryz.prog 298 #[v,.func (.func g) #[] cap] w fun e w'=>e=.returned (.int .i64 z)∧Below w.heap.size w w':=by
 obtain⟨lo,lc,rfl⟩:=HMk.form hv
 go_enter Tryz.func298,Tryz.ntmps298
 go_wp2
 go_loopw [5,8] (fun _ i wr=>∃ k:Nat,k≤l.length∧i=.int .i64 k∧Below w.heap.size w wr∧Hid (idxI p k (l.drop k)=z)) (fun _ i _=>l.length-(intOf i).toNat)
 case atStart=>exact⟨0,Nat.zero_le _,rfl,Below.refl _ _,HR⟩
 case round =>
  obtain⟨k,hk,rfl,hB,HI⟩:=hrel
  clear HR
  by_cases hlt:k<l.length
  ·obtain⟨b,off,rfl,hb,_⟩:=HMk.at hv (by omega)
   obtain⟨m,hm⟩:∃ m,l[k]=m:=⟨_,rfl⟩
   obtain⟨c0,c1⟩:=Low.mk hB hv k hlt hm
   have hc:=hf.out m (by rw[← hm];exact List.getElem_mem hlt) wr hB
   have i1:0≤(k:Int):=by omega
   have i2:(k:Int)<(l.length:Int):=by omega
   have HI2:Hid ((if p m=true then (k:Int) else idxI p (k+1) (l.drop (k+1)))=z):=(by
    have h:=HI.out
    rw[Zey hlt,hm] at h
    exact h)
   obtain⟨q,hq⟩:∃ q,p m=q:=⟨_,rfl⟩
   rw[hq] at hc HI2
   clear HI hm hq
   cases q with
   | true =>
    have HE:Hid ((k:Int)=z):=(by have h:=HI2.out;rw[if_pos rfl] at h;exact h)
    clear HI2
    go_wp2_with (go_at_fn g;refine hc.mono ?_;rintro e w' ⟨rfl,hB1⟩)
    go_ret
    exact⟨by rw[HE.out];rfl,hB.trans (hB1.mono hB.size)⟩
   | false =>
    have HE:Hid (idxI p (k+1) (l.drop (k+1))=z):=(by have h:=HI2.out;rw[if_neg (by decide)] at h;exact h)
    clear HI2
    go_wp2_with (go_at_fn g;refine hc.mono ?_;rintro e w' ⟨rfl,hB1⟩)
    exact⟨⟨k+1,by omega,by go_num,hB.trans (hB1.mono hB.size),HE⟩,by simp[intOf];omega⟩
  ·have HE:Hid (-1=z):=(by
    have h:=HI.out
    rw[List.drop_of_length_le (by omega)] at h
    exact h)
   clear HI
   have hend:decide ((k:Int)<(l.length:Int))=false:=decide_eq_false (by omega)
   go_wp2
   go_ret
   exact⟨by rw[HE.out];rfl,hB⟩
theorem ZaQ (g:Nat) (cap:Array Value) (l:List Mk) (p:Mk→Bool) (v:Value) (w:World) (hv:HMk w v l) (hl:l.length≤1099511627776) (eg:∀ args w,(callFunc g args).run Tryz.prog w=.ok (.enter g args) w)
  (hf:Hid (∀ m∈l,∀ u:World,Below w.heap.size w u→Calls Tryz.prog g (#[.agg #[.int .u8 m.sg,.string ⟨m.tx.toArray⟩]]++cap) u fun e u'=>e=.returned (.bool (p m))∧Below u.heap.size u u')) (r:Bool) (HR:Hid (l.any p=r)) :
  Calls Tryz.prog 245 #[v,.func (.func g) #[] cap] w fun e w'=>e=.returned (.bool r)∧Below w.heap.size w w':=by
 obtain⟨z,hz⟩:∃ z,idxI p 0 l=z:=⟨_,rfl⟩
 have HC:=ZaR g cap l p v w hv hl eg hf z hz
 have HZ:Hid (decide (0≤z)=r):=(by show _=_;rw[← hz,Zew];exact HR.out)
 clear hz HR
 obtain⟨lo,lc,rfl⟩:=HMk.form hv
 go_enter Tryz.func245,Tryz.ntmps245
 go_wp2_with fail
 refine HC.mono ?_
 rintro e w1 ⟨rfl,hB⟩
 go_wp2
 go_ret
 exact⟨by rw[HZ.out];rfl,hB⟩
theorem Zby (m:Mk) (w:World):Calls Tryz.prog 309 #[.agg #[.int .u8 m.sg,.string ⟨m.tx.toArray⟩]] w fun e w'=>e=.returned (.bool (m.sg == 32))∧Below w.heap.size w w':=by
 have hBl:Below w.heap.size w (w.alloc (.cells #[.int .u8 m.sg,.string ⟨m.tx.toArray⟩] 47)):=(Below.refl _ w).alloc (Nat.le_refl _) _
 go_enter Tryz.func309,Tryz.ntmps309
 go_wp2
 go_ret
 exact⟨rfl,hBl⟩
theorem ZtL (k:Int) (X:Nat) (m:Mk) (w:World) (cX:w.cell? ⟨X,0,none⟩=some (.int .u8 k)) (hX:X<w.heap.size):Calls Tryz.prog 315 #[.agg #[.int .u8 m.sg,.string ⟨m.tx.toArray⟩],.pointer (some ⟨X,0,none⟩)] w fun e w'=>e=.returned (.bool (m.sg == k))∧Below w.heap.size w w':=by
 have hBl:Below w.heap.size w (w.alloc (.cells #[.int .u8 m.sg,.string ⟨m.tx.toArray⟩] 47)):=(Below.refl _ w).alloc (Nat.le_refl _) _
 have cX2:(w.alloc (.cells #[.int .u8 m.sg,.string ⟨m.tx.toArray⟩] 47)).cell? ⟨X,0,none⟩=some (.int .u8 k):=(World.cell?_of_block (w:=w) (hBl.block X hX)).trans cX
 go_enter Tryz.func315,Tryz.ntmps315
 go_wp2
 go_ret
 exact⟨rfl,hBl⟩
theorem ZtM (k:Int) (l:List Mk) (v:Value) (w:World) (hv:HMk w v l) (hl:l.length≤1099511627776) (r:Bool) (HR:Hid (hasM k l=r)) :
  Calls Tryz.prog 265 #[v,.int .u8 k] w fun e w'=>e=.returned (.bool r)∧Below w.heap.size w w':=by
 have hBl:Below w.heap.size w (w.alloc (.cells #[.int .u8 k] 5)):=(Below.refl _ w).alloc (Nat.le_refl _) _
 have cX:(w.alloc (.cells #[.int .u8 k] 5)).cell? ⟨w.heap.size,0,none⟩=some (.int .u8 k):=(by rw[Lib.cell_of_heap (heap_alloc_new w _)];rfl)
 have hsz:(w.alloc (.cells #[.int .u8 k] 5)).heap.size=w.heap.size+1:=by simp
 have hv1:HMk (w.alloc (.cells #[.int .u8 k] 5)) v l:=hv.keep hBl (Nat.le_refl _)
 have HC:Hid (Calls Tryz.prog 245 #[v,.func (.func 315) #[] #[.pointer (some ⟨w.heap.size,0,none⟩)]] (w.alloc (.cells #[.int .u8 k] 5)) fun e w'=>e=.returned (.bool r)∧Below w.heap.size w w'):=(by
  refine (ZaQ 315 #[.pointer (some ⟨w.heap.size,0,none⟩)] l (fun m=>m.sg == k) v _ hv1 hl (enters_of Tryz.func315 (by kernel_rfl) rfl) ?_ r HR).mono ?_
  ·intro m _ u hu
   refine ZtL k w.heap.size m u ((World.cell?_of_block (hu.block w.heap.size (by rw[hsz];omega))).trans cX) (Nat.lt_of_lt_of_le (by rw[hsz];omega) hu.size)
  ·rintro e w' ⟨h1,h2⟩
   exact⟨h1,hBl.trans (h2.mono (by rw[hsz];omega))⟩)
 obtain⟨lo,lc,rfl⟩:=HMk.form hv
 clear cX hsz hv1 HR hBl
 have hmf:∀ (fn:Fn) (first cap:Array Value) (w:World),(Instr.makeFunc fn first cap).run Tryz.prog w=.ok (.func fn first cap) w:=fun _ _ _ _=>rfl
 go_enter Tryz.func265,Tryz.ntmps265
 go_wp2_with fail
 refine HC.out.mono ?_
 rintro e w1 ⟨rfl,hB⟩
 go_wp2
 go_ret
 exact⟨rfl,hB⟩
theorem Zbw (l:List Mk):l.take (chgM l).length=chgM l:=by
 have h:=Zbv l
 have h2:(chgM l++rstM l).take (chgM l).length=chgM l:=List.take_left
 rw[h] at h2
 exact h2
theorem Zbt (l:List Mk):(chgM l).length≤l.length:=by
 have h:=congrArg List.length (Zbv l)
 rw[List.length_append] at h
 omega
theorem ZjG {l:List Mk} (h:rstM l=[]):chgM l=l:=by
 have h1:=Zbv l
 rw[h,List.append_nil] at h1
 exact h1
def mslF (ao:Option Addr) (cap k:Nat):Option Addr:=if cap=k then ao else ao.map (·.add (k * 2))
theorem ZjL (ao:Option Addr) (n cap k:Nat) (hk:k≤n) (_:n≤cap) (u:World):(Instr.slice 43 (.slice ao n cap) (some (.int .i64 (k:Int))) none none).run Tryz.prog u=.ok (.slice (mslF ao cap k) (n-k) (cap-k)) u:=by
 rw[run_slice_l (P:=Tryz.prog) u 43 ao n cap (by kernel_rfl) .i64 k (by omega) (by omega)]
 have:(sizeOf (Tryz.prog.elem 43)).run Tryz.prog u=.ok 2 u:=by kernel_rfl
 rw[this]
 simp[Result.andThen,sliced,mslF]
theorem ZfQ (ad:Addr):ad.add 0=ad:=by unfold Addr.add;split<;>simp_all
theorem ZjM (ao:Option Addr) (n cap k:Nat) (hk:k≤n) (hn:n≤cap) (u:World):(Instr.slice 43 (.slice ao n cap) none (some (.int .i64 (k:Int))) none).run Tryz.prog u=.ok (.slice ao k cap) u:=by
 rw[run_slice_h (P:=Tryz.prog) u 43 ao n cap (by kernel_rfl) .i64 k (by omega) (by omega)]
 have:(sizeOf (Tryz.prog.elem 43)).run Tryz.prog u=.ok 2 u:=by kernel_rfl
 rw[this]
 cases ao with
 | none=>simp[Result.andThen,sliced]
 | some ad=>simp[Result.andThen,sliced,ZfQ]
theorem Zgb {w:World} {ao:Option Addr} {n c:Nat} {xs:List Value} (h:Holds w (.slice ao n c) n xs):n≤c:=by
 rcases h with ⟨h,h0,_⟩ | ⟨ad,c',h,h3,_⟩
 ·omega
 ·cases h;exact h3
theorem Zgr (l:List Mk) (k:Nat):(mkcells l).take (k * 2)=mkcells (l.take k):=by
 induction k generalizing l with
 | zero=>simp[mkcells]
 | succ k ih =>
  cases l with
  | nil=>simp[mkcells]
  | cons m l =>
   have e:(k+1) * 2=k * 2+1+1:=by omega
   have h1:mkcells (m::l)=.int .u8 m.sg::.string ⟨m.tx.toArray⟩::mkcells l:=rfl
   have h2:mkcells ((m::l).take (k+1))=.int .u8 m.sg::.string ⟨m.tx.toArray⟩::mkcells (l.take k):=rfl
   rw[e,h1,h2,List.take_succ_cons,List.take_succ_cons,ih]
theorem Zgn (l:List Mk) (k:Nat):(mkcells l).drop (k * 2)=mkcells (l.drop k):=by
 induction k generalizing l with
 | zero=>simp
 | succ k ih =>
  cases l with
  | nil=>simp[mkcells]
  | cons m l =>
   have e:(k+1) * 2=k * 2+1+1:=by omega
   have h1:mkcells (m::l)=.int .u8 m.sg::.string ⟨m.tx.toArray⟩::mkcells l:=rfl
   rw[e,h1,List.drop_succ_cons,List.drop_succ_cons,ih]
   rfl
theorem Zgk {w:World} {ao:Option Addr} {c:Nat} {l:List Mk} (h:HMk w (.slice ao l.length c) l) (k:Nat) (hk:k≤l.length):HMk w (.slice ao k c) (l.take k):=by
 have hlt:(l.take k).length=k:=by rw[List.length_take];omega
 unfold HMk at h ⊢
 rw[hlt]
 rcases h with ⟨h,h0,h4⟩ | ⟨ad,c',h,h3,hc⟩
 ·have hl0:l=[]:=List.eq_nil_of_length_eq_zero h0
  subst hl0
  cases h
  have hk0:k=0:=by simpa using hk
  subst hk0
  exact .inl ⟨by simp,rfl,by simp[mkcells]⟩
 ·cases h
  refine .inr ⟨ad,c,rfl,by omega,fun j v hj=>hc j v ?_⟩
  rw[← Zgr] at hj
  by_cases hjk:j<k * 2
  ·rw[List.getElem?_take_of_lt hjk] at hj
   exact hj
  ·rw[List.getElem?_eq_none (by simp;omega)] at hj
   cases hj
theorem Zgf {w:World} {ao:Option Addr} {c:Nat} {l:List Mk} (h:HMk w (.slice ao l.length c) l) (k:Nat) (hk:k≤l.length):HMk w (.slice (mslF ao c k) (l.length-k) (c-k)) (l.drop k):=by
 have hlt:(l.drop k).length=l.length-k:=by rw[List.length_drop]
 have hnc:=Zgb h
 unfold HMk at h ⊢
 rw[hlt]
 rcases h with ⟨h,h0,h4⟩ | ⟨ad,c',h,h3,hc⟩
 ·have hl0:l=[]:=List.eq_nil_of_length_eq_zero h0
  subst hl0
  cases h
  have hk0:k=0:=by simpa using hk
  subst hk0
  exact .inl ⟨by simp[mslF],rfl,by simp[mkcells]⟩
 ·cases h
  refine .inr ⟨if c=k then ad else ad.add (k * 2),c-k,by unfold mslF;split<;>simp,by omega,fun j v hj=>?_⟩
  rw[← Zgn,List.getElem?_drop] at hj
  have hlt2:=(List.getElem?_eq_some_iff.1 hj).1
  rw[Zgo] at hlt2
  rw[if_neg (by omega)]
  have h0:=hc 0 _ (List.getElem?_eq_getElem (by rw[Zgo];omega))
  obtain⟨b,off,rfl⟩:=Zap h0
  have:=hc _ _ hj
  rw[Zao] at this
  rw[Zao,Zao,Nat.add_assoc]
  exact this
theorem ZbX (l:List Mk) (ao:Option Addr) (c:Nat) (w:World) (hv:HMk w (.slice ao l.length c) l) (hl:l.length≤1099511627776) (n:Nat) (HN:Hid ((chgM l).length=n)) :
  Calls Tryz.prog 264 #[.slice ao l.length c] w fun e w'=>e=.returned (.slice ao n c)∧Below w.heap.size w w':=by
 have hnc:=Zgb hv
 have hle:=Zbt l
 rw[HN.out] at hle
 have hc:=fun z HZ=>ZaR 309 #[] l (fun m=>m.sg == 32) (.slice ao l.length c) w hv hl (enters_of Tryz.func309 (by kernel_rfl) rfl) (fun m _ u _=>Zby m u) z HZ
 by_cases hr:rstM l=[]
 ·have HE:Hid (l.length=n):=(by show _=_;rw[← HN.out,ZjG hr])
  have hc1:=hc (-1) (by show _=_;rw[Zex,if_pos hr])
  clear HN hr hc hv
  go_enter Tryz.func264,Tryz.ntmps264
  go_wp2_with fail
  refine hc1.mono ?_
  rintro e w1 ⟨rfl,hB⟩
  go_wp2
  go_ret
  exact⟨by rw[HE.out];rfl,hB⟩
 ·have hc1:=hc (n:Int) (by show _=_;rw[Zex,if_neg hr,HN.out];simp)
  have hs:=ZjM ao l.length c n hle hnc
  have i1:(0:Int)≤(n:Int):=by omega
  have i2:(n:Int)≤(l.length:Int):=by omega
  have i3:(n:Int)≤(c:Int):=by omega
  clear HN hr hc hv
  go_enter Tryz.func264,Tryz.ntmps264
  go_wp2_with fail
  refine hc1.mono ?_
  rintro e w1 ⟨rfl,hB⟩
  go_wp2
  go_ret
  exact⟨rfl,hB⟩
end

section
open Go.RowKit
attribute [local go_sem] ByteArray.extract_mk
def oddI (r:Int):Bool:=decide (r<33) || decide (126<r) || decide (r=34)
theorem Zbz (r:Int) (w:World) (q:Bool) (HQ:Hid (oddI r=q)):Calls Tryz.prog 216 #[.int .i32 r] w fun e w'=>e=.returned (.bool q)∧w=w':=by
 by_cases h1:r<33
 ·have HE:Hid (true=q):=(by show _=_;rw[← HQ.out];simp[oddI,h1])
  go_enter Tryz.func216,Tryz.ntmps216
  go_wp2
  go_ret
  exact⟨by rw[← HE.out];rfl,rfl⟩
 ·by_cases h2:126<r
  ·have HE:Hid (true=q):=(by show _=_;rw[← HQ.out];simp[oddI,h2])
   go_enter Tryz.func216,Tryz.ntmps216
   go_wp2
   go_ret
   exact⟨by rw[← HE.out];rfl,rfl⟩
  ·have HE:Hid ((r == 34)=q):=(by show _=_;rw[← HQ.out];simp only[oddI,h1,h2,decide_false,Bool.false_or];rfl)
   go_enter Tryz.func216,Tryz.ntmps216
   go_wp2
   go_ret
   exact⟨by rw[← HE.out];rfl,rfl⟩
theorem Zhu (c:UInt8):oddI (c.toNat:Int)=!nameC c:=by
 unfold oddI nameC
 rw[Bool.eq_iff_iff]
 simp only[Bool.or_eq_true,decide_eq_true_eq,Bool.not_eq_true',decide_eq_false_iff_not]
 omega
def oddW:Nat→List UInt8→Int
 | _,[]=>-1
 | k,c::l=>if nameC c=true then oddW (k+1) l else (k:Int)
theorem Zhs (l:List UInt8):∀ k,decide (0≤oddW k l)=!l.all nameC:=by
 induction l with
 | nil=>intro k;rfl
 | cons c l ih =>
  intro k
  rw[List.all_cons]
  by_cases h:nameC c=true
  ·have e:oddW k (c::l)=oddW (k+1) l:=if_pos h
   rw[e,ih,h]
   rfl
  ·have e:oddW k (c::l)=(k:Int):=if_neg h
   rw[e,Bool.eq_false_iff.2 h]
   simp
theorem Zht {l:List UInt8} {k:Nat} (hk:k<l.length):oddW k (l.drop k)=if nameC l[k]=true then oddW (k+1) (l.drop (k+1)) else (k:Int):=by
 rw[List.drop_eq_getElem_cons hk]
 rfl
theorem Zbx (l:List UInt8) (w:World) (_hl:l.length≤1099511627776) (z:Int) (HZ:Hid (oddW 0 l=z)) :
  Calls Tryz.prog 314 #[.string ⟨l.toArray⟩,.func (.func 216) #[] #[],.bool true] w fun e w'=>e=.returned (.int .i64 z)∧Below w.heap.size w w':=by
 go_enter Tryz.func314,Tryz.ntmps314
 go_wp2
 go_loopw [] (fun wr=>∃ pos:Nat,pos≤l.length∧wr.heap[w.heap.size]?=some (.stringIter ⟨l.toArray⟩ pos)∧Below w.heap.size w wr∧Hid (oddW pos (l.drop pos)=z)) (fun wr=>l.length-wr.iterPos w.heap.size)
 case atStart=>exact⟨0,Nat.zero_le _,World.iter_heap w _ 0,(Below.refl _ w).alloc (Nat.le_refl _) _,HZ⟩
 case round =>
  obtain⟨pos,hp,hit,hbr,HA⟩:=hrel
  have hwl:w.heap.size<wr.heap.size:=(Array.getElem?_eq_some_iff.1 hit).1
  by_cases hlt:pos<l.length
  ·have HS:=HA.out
   rw[Zht hlt] at HS
   by_cases ha:l[pos].toNat<128
   ·have hnx:∀ ty,(Instr.next (.pointer (some ⟨w.heap.size,0,none⟩)) true ty).run Tryz.prog wr=_:=fun ty=>Lib.run_next_ascii_at wr w.heap.size ⟨l.toArray⟩ pos ty hit hlt ha
    have hit2:=Lib.iterAt_heap wr w.heap.size ⟨l.toArray⟩ pos (pos+1) hit
    have hbr2:=Lib.below_iterAt hbr (k:=w.heap.size) (Nat.le_refl _) ⟨l.toArray⟩ (pos+1)
    cases hn:nameC l[pos] with
    | true =>
     have HI:Hid (oddW (pos+1) (l.drop (pos+1))=z):=(by rw[hn,if_pos rfl] at HS;exact HS)
     have hc:=fun u=>Zbz (l[pos].toNat:Int) u false (by show _=_;rw[Zhu,hn];rfl)
     clear HS hn HA
     go_wp2_with fail
     refine (hc _).mono ?_
     rintro e w4 ⟨rfl,rfl⟩
     go_wp2
     go_roundw
     case rel=>exact⟨pos+1,by omega,hit2,hbr2,HI⟩
     case measure=>simp only[World.iterPos,hit,hit2];omega
    | false =>
     have HE:Hid ((pos:Int)=z):=(by rw[hn,if_neg (by decide)] at HS;exact HS)
     have hc:=fun u=>Zbz (l[pos].toNat:Int) u true (by show _=_;rw[Zhu,hn];rfl)
     clear HS hn HA
     go_wp2_with fail
     refine (hc _).mono ?_
     rintro e w4 ⟨rfl,rfl⟩
     go_wp2
     go_ret
     exact⟨by rw[HE.out];rfl,hbr2⟩
   ·have hdh:=(decode_high ⟨l.toArray⟩ pos hlt (by show 128≤l[pos].toNat;omega))
    have hnx:∀ ty,(Instr.next (.pointer (some ⟨w.heap.size,0,none⟩)) true ty).run Tryz.prog wr=_:=fun ty=>Lib.run_next_any_at wr w.heap.size ⟨l.toArray⟩ pos ty hit hlt
    have hbr2:=Lib.below_iterAt hbr (k:=w.heap.size) (Nat.le_refl _) ⟨l.toArray⟩ (pos+(Utf8.decode ⟨l.toArray⟩ pos).2)
    have hdl:=decode_le ⟨l.toArray⟩ pos
    have HE:Hid ((pos:Int)=z):=(by
     have hn:nameC l[pos]=false:=(by unfold nameC;exact decide_eq_false (by omega))
     rw[hn,if_neg (by decide)] at HS
     exact HS)
    obtain⟨hd1,hd2⟩:=hdh
    generalize Utf8.decode ⟨l.toArray⟩ pos=dd at *
    have hc:=fun u=>Zbz (dd.1:Int) u true (by
     show _=_
     unfold oddI
     have:decide (126<(dd.1:Int))=true:=decide_eq_true (by omega)
     rw[this]
     simp)
    clear HS HA
    go_wp2_with fail
    refine (hc _).mono ?_
    rintro e w4 ⟨rfl,rfl⟩
    go_wp2
    go_ret
    exact⟨by rw[HE.out];rfl,hbr2⟩
  ·have hnx:∀ ty,(Instr.next (.pointer (some ⟨w.heap.size,0,none⟩)) true ty).run Tryz.prog wr=_:=fun ty=>Lib.run_next_end_at wr w.heap.size ⟨l.toArray⟩ pos ty hit hlt
   have HE:Hid (-1=z):=(by
    have h:=HA.out
    rw[List.drop_of_length_le (by omega)] at h
    exact h)
   clear HA
   go_wp2
   go_ret
   exact⟨by rw[HE.out];rfl,hbr⟩
theorem ZaS (l:List UInt8) (w:World) (hl:l.length≤1099511627776) (z:Int) (HZ:Hid (oddW 0 l=z)) :
  Calls Tryz.prog 262 #[.string ⟨l.toArray⟩,.func (.func 216) #[] #[]] w fun e w'=>e=.returned (.int .i64 z)∧Below w.heap.size w w':=by
 go_enter Tryz.func262,Tryz.ntmps262
 go_wp2_with fail
 refine (Zbx l w hl z HZ).mono ?_
 rintro e w1 ⟨rfl,hB⟩
 go_wp2
 go_ret
 exact⟨rfl,hB⟩
theorem ZaP (l:List UInt8) (w:World) (hl:l.length≤1099511627776) (q:Bool) (HQ:Hid ((!l.all nameC)=q)) :
  Calls Tryz.prog 215 #[.string ⟨l.toArray⟩,.func (.func 216) #[] #[]] w fun e w'=>e=.returned (.bool q)∧Below w.heap.size w w':=by
 obtain⟨z,hz⟩:∃ z,oddW 0 l=z:=⟨_,rfl⟩
 have HC:=ZaS l w hl z hz
 have HZ:Hid (decide (0≤z)=q):=(by show _=_;rw[← hz,Zhs];exact HQ.out)
 clear hz HQ
 go_enter Tryz.func215,Tryz.ntmps215
 go_wp2_with fail
 refine HC.mono ?_
 rintro e w1 ⟨rfl,hB⟩
 go_wp2
 go_ret
 exact⟨by rw[HZ.out];rfl,hB⟩
theorem ZbJ (l:List UInt8) (w:World) (hl:l.length≤1099511627776) (t:List UInt8) (HT:Hid (nameT l=t)) :
  Calls Tryz.prog 177 #[.string ⟨l.toArray⟩] w fun e w'=>e=.returned (.string ⟨t.toArray⟩)∧Below w.heap.size w w':=by
 by_cases h0:l=[]
 ·have HE:Hid (devN=t):=(by have h:=HT.out;unfold nameT at h;rw[if_pos h0] at h;exact h)
  subst h0
  go_enter Tryz.func177,Tryz.ntmps177
  go_wp2
  go_ret
  exact⟨by rw[← HE.out];rfl,Below.refl _ _⟩
 ·have e0:l.isEmpty=false:=(by cases l with | nil=>exact absurd rfl h0 | cons _ _=>rfl)
  have hq:=Zaf l
  by_cases h1:l=devN
  ·have HE:Hid (Q.quote l=t):=(by have h:=HT.out;unfold nameT at h;rw[if_neg h0,if_neg (fun q=>q.2 h1)] at h;exact h)
   have e1:(l == [47,100,101,118,47,110,117,108,108])=true:=(by rw[beq_iff_eq];exact h1)
   clear HT h1
   go_enter Tryz.func177,Tryz.ntmps177
   go_wp2_with fail
   refine (hq _ hl).mono ?_
   rintro e w1 ⟨rfl,hB⟩
   go_wp2
   go_ret
   exact⟨by rw[← HE.out];rfl,hB⟩
  ·have e1:(l == [47,100,101,118,47,110,117,108,108])=false:=beq_eq_false_iff_ne.2 h1
   cases hn:l.all nameC with
   | true =>
    have HE:Hid (l=t):=(by have h:=HT.out;unfold nameT at h;rw[if_neg h0,if_pos ⟨hn,h1⟩] at h;exact h)
    have hc:=fun u=>ZaP l u hl false (by show _=_;rw[hn];rfl)
    clear HT h1 hn
    go_enter Tryz.func177,Tryz.ntmps177
    go_wp2_with fail
    refine (hc _).mono ?_
    rintro e w1 ⟨rfl,hB⟩
    go_wp2
    go_ret
    exact⟨by rw[← HE.out];rfl,hB⟩
   | false =>
    have HE:Hid (Q.quote l=t):=(by have h:=HT.out;unfold nameT at h;rw[if_neg h0,if_neg (fun q=>by rw[hn] at q;cases q.1)] at h;exact h)
    have hc:=fun u=>ZaP l u hl true (by show _=_;rw[hn];rfl)
    clear HT h1 hn
    go_enter Tryz.func177,Tryz.ntmps177
    go_wp2_with fail
    refine (hc _).mono ?_
    rintro e w1 ⟨rfl,hB⟩
    go_wp2_with fail
    refine (hq _ hl).mono ?_
    rintro e w2 ⟨rfl,hB2⟩
    go_wp2
    go_ret
    exact⟨by rw[← HE.out];rfl,hB.trans (hB2.mono hB.size)⟩
end

section
open Q Go.RowKit Go.Proofs.YtcniomgjikienaaGreatDoor.Tx
attribute [local go_sem] ZaB Zea
end

section
open Q Go.RowKit Go.Proofs.YtcniomgjikienaaGreatDoor.Tx
attribute [local go_sem] ZaB ByteArray.extract_mk
end

section
open Go.RowKit
attribute [local go_sem] ByteArray.extract_mk Zhc
def ckO (vL:Value) (p:Int):Obj:=.cells #[vL,.int .i64 p] 233
def Ck (u:World) (R:Nat) (vL:Value) (p:Int):Prop:=u.heap[R]?=some (ckO vL p)
section
variable {u u':World} {R:Nat} {vL:Value} {p:Int}
theorem Ck.cells (q:Ck u R vL p):u.cell? ⟨R,0,none⟩=some vL∧u.cell? ⟨R,1,none⟩=some (.int .i64 p):=by
 unfold Ck ckO at q
 refine⟨?_,?_⟩<;>rw[Lib.cell_of_heap q]<;>rfl
theorem Ck.frozen (q:Ck u R vL p) (j:Nat):u.frozen? ⟨R,j,none⟩=false:=Lib.frozen_of_heap q j
theorem Ck.lt (q:Ck u R vL p):R<u.heap.size:=(Array.getElem?_eq_some_iff.1 q).1
theorem Ck.dN (q:Ck u R vL p) (n:Nat):Ck (u.drewN n) R vL p:=q
theorem Ck.at (q:Ck u R vL p) (p':Int):Ck (u.setCell ⟨R,1,none⟩ (.int .i64 p')) R vL p':=heap_setCell_same u R 1 _ _ (.int .i64 p') q
theorem Ck.low (q:Ck u R vL p) (hg:Below u.heap.size u u'):Ck u' R vL p:=(hg.block R q.lt).trans q
theorem Ck.keep (q:Ck u R vL p) {g:Option Nat} (hg:u.grownBy u' g) (hr:some R≠g):Ck u' R vL p:=(hg.block R q.lt hr).trans q
end
end

section
open Go.RowKit Go.Proofs.YtcniomgjikienaaGreatDoor.Tx
attribute [local go_sem] ByteArray.extract_mk Zhc
end

section
open Go.RowKit Go.Proofs.YtcniomgjikienaaGreatDoor.Tx
attribute [local go_sem] ByteArray.extract_mk Zhc
def ukO (vL:Value) (p:Int):Obj:=.cells #[vL,.int .i64 p] 229
def Uk (u:World) (R:Nat) (vL:Value) (p:Int):Prop:=u.heap[R]?=some (ukO vL p)
section
variable {u u':World} {R:Nat} {vL:Value} {p:Int}
theorem Uk.cells (q:Uk u R vL p):u.cell? ⟨R,0,none⟩=some vL∧u.cell? ⟨R,1,none⟩=some (.int .i64 p):=by
 unfold Uk ukO at q
 refine⟨?_,?_⟩<;>rw[Lib.cell_of_heap q]<;>rfl
theorem Uk.frozen (q:Uk u R vL p) (j:Nat):u.frozen? ⟨R,j,none⟩=false:=Lib.frozen_of_heap q j
theorem Uk.lt (q:Uk u R vL p):R<u.heap.size:=(Array.getElem?_eq_some_iff.1 q).1
theorem Uk.dN (q:Uk u R vL p) (n:Nat):Uk (u.drewN n) R vL p:=q
theorem Uk.at (q:Uk u R vL p) (p':Int):Uk (u.setCell ⟨R,1,none⟩ (.int .i64 p')) R vL p':=heap_setCell_same u R 1 _ _ (.int .i64 p') q
theorem Uk.low (q:Uk u R vL p) (hg:Below u.heap.size u u'):Uk u' R vL p:=(hg.block R q.lt).trans q
theorem Uk.keep (q:Uk u R vL p) {g:Option Nat} (hg:u.grownBy u' g) (hr:some R≠g):Uk u' R vL p:=(hg.block R q.lt hr).trans q
end
end

section
open Go.RowKit Go.Proofs.YtcniomgjikienaaGreatDoor.Tx
attribute [local go_sem] ByteArray.extract_mk Zhc
end

section
open Ln
end

section
open Go.RowKit Go.Proofs.YtcniomgjikienaaGreatDoor.Tx
attribute [local go_sem] ByteArray.extract_mk Zhc
def Mxl (w:World):Prop:=∃ m,w.cell? ⟨1,0,none⟩=some (.int .i64 m)
theorem Mxl.low {w w':World} (h:Mxl w) (hb:Below w.heap.size w w'):Mxl w':=by
 obtain⟨m,h⟩:=h
 exact⟨m,(World.cell?_of_block (hb.block _ (block_lt_of_cell h))).trans h⟩
theorem Mxl.keep {w w':World} {R:Nat} (h:Mxl w) (hg:w.grownBy w' (some R)) (hR:1<R):Mxl w':=by
 obtain⟨m,h⟩:=h
 exact⟨m,(World.cell?_of_block (hg.block _ (block_lt_of_cell h) (fun e=>by have:=Option.some.inj e;simp at this;omega))).trans h⟩
end

section
open Go.RowKit Go.Proofs.YtcniomgjikienaaGreatDoor.Tx
attribute [local go_sem] ByteArray.extract_mk Zhc
def hk0 (A AN B BN:Int):Value:=.agg #[.int .i64 A,.int .i64 AN,.int .i64 B,.int .i64 BN,.slice none 0 0]
theorem ZiK {B b:Nat} {w u:World} (h:Below B w u) (hb:B≤b) (z0 z1 z2 z3 z4:Value):Below B w (((((u.setCell ⟨b,0,none⟩ z0).setCell ⟨b,1,none⟩ z1).setCell ⟨b,2,none⟩ z2).setCell ⟨b,3,none⟩ z3).setCell ⟨b,4,none⟩ z4):=((((h.setCell (p:=⟨b,0,none⟩) hb z0).setCell (p:=⟨b,1,none⟩) hb z1).setCell (p:=⟨b,2,none⟩) hb z2).setCell (p:=⟨b,3,none⟩) hb z3).setCell (p:=⟨b,4,none⟩) hb z4
end

section
open Go.RowKit
attribute [local go_sem] ByteArray.extract_mk Zhc
end

section
open Go.RowKit
structure Mrow (w:World) (g n cap:Nat) (r:List Mk):Prop where
 ex:∃ cur:Array Value,w.heap[g]?=some (.cells cur 47 (0,0))∧cur.size=cap * 2∧cur.toList.take (n * 2)=mkcells r
 le:n≤cap
 len:r.length=n
theorem Zgq (r:List Mk):∀ (i:Nat) (m:Mk),i<r.length→((mkcells r).set (i * 2) (.int .u8 m.sg)).set (i * 2+1) (.string ⟨m.tx.toArray⟩)=mkcells (r.set i m):=by
 induction r with
 | nil=>intro i m h;simp at h
 | cons x r ih =>
  intro i m h
  have e1:mkcells (x::r)=.int .u8 x.sg::.string ⟨x.tx.toArray⟩::mkcells r:=rfl
  cases i with
  | zero=>rw[e1];rfl
  | succ i =>
   have e2:(i+1) * 2=i * 2+1+1:=by omega
   have e3:mkcells ((x::r).set (i+1) m)=.int .u8 x.sg::.string ⟨x.tx.toArray⟩::mkcells (r.set i m):=rfl
   rw[e1,e2,e3]
   simp only[List.set_cons_succ]
   rw[ih i m (by simpa using h)]
section
variable {w u:World} {g n cap:Nat} {r:List Mk}
theorem Mrow.low (h:Mrow w g n cap r) (hb:Below w.heap.size w u):Mrow u g n cap r:=by
 obtain⟨⟨cur,h1,h2,h3⟩,hl,hn⟩:=h
 exact⟨⟨cur,(hb.block g (Array.getElem?_eq_some_iff.1 h1).1).trans h1,h2,h3⟩,hl,hn⟩
theorem Mrow.lt (h:Mrow w g n cap r):g<w.heap.size:=by
 obtain⟨⟨cur,h1,_⟩,_⟩:=h
 exact (Array.getElem?_eq_some_iff.1 h1).1
theorem Mrow.holds (h:Mrow w g n cap r) (k:Nat) (hk:k≤n):HMk w (.slice (some ⟨g,0,none⟩) k cap) (r.take k):=by
 obtain⟨⟨cur,h1,h2,h3⟩,hl,hn⟩:=h
 have hlk:(r.take k).length=k:=by rw[List.length_take];omega
 unfold HMk
 rw[hlk]
 refine .inr ⟨⟨g,0,none⟩,cap,rfl,by omega,fun j v hj=>?_⟩
 rw[← Zgr,← h3,List.take_take] at hj
 have hjl:j<k * 2:=by
  have:=(List.getElem?_eq_some_iff.1 hj).1
  rw[List.length_take] at this
  omega
 rw[List.getElem?_take_of_lt (by omega)] at hj
 rw[Zao,Nat.zero_add,Lib.cell_of_heap h1]
 simpa using hj
theorem Mrow.store (h:Mrow w g n cap r) (i:Nat) (hi:i<n) (m:Mk):Mrow ((w.setCell ⟨g,i * 2,none⟩ (.int .u8 m.sg)).setCell ⟨g,i * 2+1,none⟩ (.string ⟨m.tx.toArray⟩)) g n cap (r.set i m):=by
 obtain⟨⟨cur,h1,h2,h3⟩,hl,hn⟩:=h
 have s1:=heap_setCell_same w g (i * 2) cur _ (.int .u8 m.sg) h1
 have s2:=heap_setCell_same _ g (i * 2+1) _ _ (.string ⟨m.tx.toArray⟩) s1
 refine⟨⟨_,s2,by simpa using h2,?_⟩,hl,by simpa using hn⟩
 have e1:((cur.setIfInBounds (i * 2) (.int .u8 m.sg)).setIfInBounds (i * 2+1) (.string ⟨m.tx.toArray⟩)).toList=(cur.toList.set (i * 2) (.int .u8 m.sg)).set (i * 2+1) (.string ⟨m.tx.toArray⟩):=by simp
 rw[e1,List.take_set,List.take_set,h3,Zgq r i m (by omega)]
theorem Mrow.cells (h:Mrow w g n cap r) (i:Nat) (hi:i<n):∃ x y,w.cell? ⟨g,i * 2,none⟩=some (.int .u8 x)∧w.cell? ⟨g,i * 2+1,none⟩=some (.string y):=by
 have hh:=h.holds n (Nat.le_refl _)
 have hl:=h.len
 obtain⟨b,off,he,hb,hcl⟩:=HMk.at hh (by rw[List.length_take];omega)
 cases he
 have hc:=hcl i (by rw[List.length_take];omega)
 rw[Nat.zero_add] at hc
 exact⟨_,_,hc.1,hc.2⟩
theorem Mrow.frozen (h:Mrow w g n cap r) (j:Nat):w.frozen? ⟨g,j,none⟩=false:=by
 obtain⟨⟨cur,h1,_⟩,_⟩:=h
 exact Lib.frozen_of_heap h1 j
end
end

section
open Go.RowKit
structure Nl (w:World) (v:Value) (l:List Mk):Prop where
 hold:HMk w v l
 nil:l=[]→v=.slice none 0 0
theorem Nl.keep {w u:World} {v:Value} {l:List Mk} (h:Nl w v l) (hb:Below w.heap.size w u):Nl u v l:=⟨h.hold.keep hb (Nat.le_refl _),h.nil⟩
end

section
open Go.RowKit Go.Proofs.YtcniomgjikienaaGreatDoor.Tx Go.Lib
section
variable {P:Program} (w:World)
theorem ZzS (base:Nat) (t u ty e:TypeId) (i:TypeInfo) (ht:P.underlying t=some (.slice e)) (hu:P.underlying u=some .string) (hi:P.info? e=some i) (hz:i.zero=some (.int .u8 0))
  (hsize:i.size=1) (hby:i.bytes=1)
  (v:Value) (n:Nat) (xs:List Value) (hown:w.ownsRowF base e 1 v n xs) (s:ByteArray)
  (h63:n+s.size≤maxLen) (hbytes:n+s.size≤140737488355328) (hbase:base≤w.heap.size) :
  ∃ v' w',(Builtin.append_ #[t,u] ty #[v,.string s]).run P w=.ok v' w'∧w'.ownsRowF base e 1 v' (n+s.size) (xs++strCells s)∧w.grownBy w' v.ownBlock ∧
   (v'.ownBlock=v.ownBlock∨∃ g,v'.ownBlock=some g∧w.heap.size≤g):=by
 rcases hown.2 with ⟨rfl,rfl⟩ | ⟨g,cap,cur,fz,rfl,hbg,hg,hfz,hnc,hcm,hcs,htake⟩
 ·obtain⟨v',w',r1,r2,r3,r4⟩:=run_append_own_string (P:=P) w w.heap.size t u ty e i ht hu hi hz hsize hby (.slice none 0 0) 0 xs ⟨hown.1,.inl ⟨rfl,rfl⟩⟩ s h63 hbytes (Nat.le_refl _)
  have r5:=World.ownsRowF_of r2
  refine⟨v',w',r1,⟨r5.1,?_⟩,r3,?_⟩
  ·rcases r5.2 with h | ⟨g,cap,cur,fz,q1,q2,q3⟩
   ·exact .inl h
   ·exact .inr ⟨g,cap,cur,fz,q1,by omega,q3⟩
  ·rcases r5.2 with ⟨h,_⟩ | ⟨g,cap,cur,fz,q1,q2,q3⟩
   ·exact .inl (by rw[h])
   ·exact .inr ⟨g,by rw[q1];rfl,q2⟩
 ·have hsmall:n+s.size≤9223372036854775807:=by simp only[maxLen] at h63;omega
  have hxl:xs.length=n:=by simpa using hown.1
  have hlen:(xs++strCells s).length=(n+s.size) * 1:=by rw[List.length_append,hxl,strCells_length,Nat.mul_one]
  by_cases hroom:n+s.size≤cap
  ·have hcs':cur.size=cap:=by simpa using hcs
   have hr:=run_append_room_stringF (P:=P) w t u ty e i ht hu hi hsize g n cap cur fz hg (by simpa using hfz) s hroom (by omega)
   refine⟨_,_,hr,⟨hlen,.inr ⟨g,cap,_,fz,rfl,hbg,setRow_heap w g cur _ e _ hg,by omega,hroom,hcm,?_,?_⟩⟩,⟨rfl,rfl,rfl,by simp,fun k _ hk=>setRow_other w g k _ (fun e=>hk (by simp[Value.ownBlock,e]))⟩,.inl rfl⟩
   ·simp only[List.size_toArray,List.length_append,List.length_take,List.length_drop,Array.length_toList,strCells_length]
    omega
   ·have ht':cur.toList.take n=xs:=by simpa using htake
    rw[ht',← hlen]
    exact List.take_left
  ·have holds:∀ j u,xs[j]?=some u→w.cell? ((⟨g,0,none⟩:Addr).add j)=some u:=hown.cells (g:=g) rfl
   have hr:=run_append_grow_string (P:=P) w t u ty e i (.int .u8 0) ht hu hi hz ⟨g,0,none⟩ n cap xs (by rw[hsize];simpa using hxl) holds s (by omega) (by omega) (by rw[hby];exact growslice_fits (by omega) (by omega))
   have hge:=grownCap_ge w (n+s.size) cap e
   have hcm2:grownCap w (n+s.size) cap e≤maxLen:=grownCap_le_maxLen w (n+s.size) cap e h63
   refine⟨_,_,hr,⟨hlen,.inr ⟨w.heap.size,_,_,(0,0),rfl,hbase,_root_.Go.heap_alloc_new w.drew _,Nat.zero_le _,hge,hcm2,?_,?_⟩⟩,⟨rfl,rfl,rfl,by simp,fun k hk _=>Below.heap_alloc w.drew _ k hk⟩,.inr ⟨_,rfl,Nat.le_refl _⟩⟩
   ·have hz1:(Value.int IntKind.u8 0).cells.size=1:=rfl
    simp only[Array.size_append,List.size_toArray,size_zeroCells,hz1,hxl,strCells_length]
    omega
   ·simp only[Array.toList_append,List.append_assoc]
    rw[← List.append_assoc,← hlen]
    exact List.take_left
theorem ZAS {ops:Array Oper} {rest:List Oper} {o:Oper} {a:Act} {Q:Exit→Act→World→Prop} (hgd:o.guard=none) (sl x:Operand) (t u:TypeId)
  (ho:o.op=.call { callee:=.builtin .append,args:=#[sl,x],argTypes:=#[t,u] })
  (base:Nat) (e:TypeId) (i:TypeInfo) (ht:P.underlying t=some (.slice e)) (hu:P.underlying u=some .string) (hi:P.info? e=some i) (hz:i.zero=some (.int .u8 0))
  (hsize:i.size=1) (hby:i.bytes=1)
  (v:Value) (n:Nat) (xs:List Value) (hs:a.eval sl=v) (hown:w.ownsRowF base e 1 v n xs) (s:ByteArray) (hx:a.eval x=.string s)
  (h63:n+s.size≤maxLen) (hbytes:n+s.size≤140737488355328) (hbase:base≤w.heap.size)
  (h:∀ v' w',w'.ownsRowF base e 1 v' (n+s.size) (xs++strCells s)→w.grownBy w' v.ownBlock→(v'.ownBlock=v.ownBlock∨∃ g,v'.ownBlock=some g∧w.heap.size≤g)→wpList P ops Q rest (a.put o.dst v') w'):wpList P ops Q (o::rest) a w:=by
 refine wpList_plain hgd fun K hK=>?_
 obtain⟨v',w',hr,h2,h3,h4⟩:=ZzS (P:=P) w base t u o.type e i ht hu hi hz hsize hby v n xs hown s h63 hbytes hbase
 unfold Oper.wp execOp
 simp only[ho,resolve,invoke,builtin,Sem.run_bind,Sem.run_pure,Result.andThen_ok,List.map_toArray,List.map_cons,List.map_nil,hs,hx,hr]
 exact hK _ _ (h v' w' h2 h3 h4)
end
structure Wr (B b:Nat) (v v':Value) (w w':World):Prop where
 aside:Go.Proofs.YtcniomgjikienaaGreatDoor.Tx.Aside b v w w'
 fresh:Fresh v v' w
 below:Below B w w'
theorem Wr.refl (B b:Nat) (v:Value) (w:World):Wr B b v v w w:=⟨fun _ _ _ _=>rfl,.inl rfl,Below.refl B w⟩
theorem Wr.trans {B b:Nat} {v v1 v2:Value} {w w1 w2:World} (h:Wr B b v v1 w w1) (h':Wr B b v1 v2 w1 w2):Wr B b v v2 w w2:=by
 have hsz:=h.below.size
 have hn:∀ k,k<w.heap.size→v.ownBlock≠some k→v1.ownBlock≠some k:=by
  intro k hk hv
  rcases h.fresh with q | ⟨g,q,hg⟩
  ·rw[q];exact hv
  ·rw[q]
   intro e
   have:=Option.some.inj e
   omega
 refine⟨fun k hk hb hv=>(h'.aside k (by omega) hb (hn k hk hv)).trans (h.aside k hk hb hv),?_,h.below.trans h'.below⟩
 rcases h'.fresh with q | ⟨g,q,hg⟩
 ·rcases h.fresh with q2 | ⟨g,q2,hg⟩
  ·exact .inl (q.trans q2)
  ·exact .inr ⟨g,q.trans q2,hg⟩
 ·exact .inr ⟨g,q,by omega⟩
theorem Wr.low {B b:Nat} {v:Value} {w w1:World} (h:Below w.heap.size w w1) (hB:B≤w.heap.size):Wr B b v v w w1:=⟨fun k hk _ _=>h.block k hk,.inl rfl,h.mono hB⟩
theorem Wr.size {B b:Nat} {v v':Value} {w w':World} (h:Wr B b v v' w w'):w.heap.size≤w'.heap.size:=h.below.size
def Off (k:Nat) (b:Nat) (v:Value):Prop:=k≠b∧v.ownBlock≠some k
theorem Wr.block {B b:Nat} {v v':Value} {w w':World} (h:Wr B b v v' w w') {k:Nat} {o:Obj} (hk:w.heap[k]?=some o) (ho:Off k b v):w'.heap[k]?=some o∧Off k b v':=by
 have hlt:k<w.heap.size:=(Array.getElem?_eq_some_iff.1 hk).1
 refine⟨(h.aside k hlt ho.1 ho.2).trans hk,ho.1,?_⟩
 rcases h.fresh with q | ⟨g,q,hg⟩
 ·rw[q];exact ho.2
 ·rw[q]
  intro e
  have:=Option.some.inj e
  omega
end

section
open Go.RowKit Go.Proofs.YtcniomgjikienaaGreatDoor.Tx
theorem cwU8:(Tryz.prog.info? 5).map (fun i=>(i.zero,i.size,i.bytes))=some (some (.int .u8 0),1,1):=by kernel_rfl
theorem cwBs:(Tryz.prog.info? 85).map (·.size)=some 2:=by kernel_rfl
def LaysB (T:TypeId):Prop:=liesAt Tryz.prog Tryz.prog.depth T (2 / Tryz.prog.cellsOf T) 0 85 1=true∧T≠5
theorem ZwG:LaysB 85:=⟨by kernel_rfl,by decide⟩
theorem ZtD {T:TypeId} (hT:LaysB T) (b:Nat) (w:World) (h0:w.cell? ⟨b,0,none⟩=some (.pointer none)) (hsh:w.shape? b=some (T,2)) (hfz:w.frozen? ⟨b,0,none⟩=false) :
  Calls Tryz.prog 72 #[.pointer (some ⟨b,0,none⟩)] w fun e w'=>e=.returned (.tuple #[])∧w'=w.setCell ⟨b,0,none⟩ (.pointer (some ⟨b,0,none⟩)):=by
 obtain⟨j,hj,hjs⟩:=Option.map_eq_some_iff.1 cwBs
 go_enter Tryz.func72,Tryz.ntmps72
 go_wp2
 rw[Lib.run_to_unsafe w ⟨b,0,none⟩ Tryz.underlying82 Tryz.underlying105 hj (by rw[hjs];decide) hsh (Nat.zero_lt_succ 1)]
 simp only[Result.andThen]
 rw[Oper.upon_value]
 go_wp2
 rw[run_callFunc_extern Tryz.func114 (by kernel_rfl) (by kernel_rfl) (by kernel_rfl) (e:=Extern.AbiNoEscape.same) (by kernel_rfl)]
 rw[Lib.run_noEscape]
 simp only[Result.andThen]
 rw[Oper.upon_value]
 go_wp2
 rw[Lib.run_from_unsafe w ⟨b,0,none⟩ Tryz.underlying105 Tryz.underlying82 hj hsh hT.1]
 simp only[Result.andThen]
 rw[Oper.upon_value]
 go_wp2
 go_end0
 exact⟨rfl,rfl⟩
theorem ZtC {T:TypeId} (hT:LaysB T) (B b:Nat) (v:Value) (bs:List Value) (w:World) (h:Bld T 5 B b v bs w) :
  Calls Tryz.prog 72 #[.pointer (some ⟨b,0,none⟩)] w fun e w'=>e=.returned (.tuple #[])∧w'.heap[b]?=some (.cells #[.pointer (some ⟨b,0,none⟩),v] T (0,0))∧Bld T 5 B b v bs w'∧Hid (∀ k,k≠b→w'.heap[k]?=w.heap[k]?)∧Below B w w':=by
 have h':=h
 obtain⟨hB,⟨p,hp,hbk⟩,hown,hne⟩:=h
 have hlt:b<w.heap.size:=(Array.getElem?_eq_some_iff.1 hbk).1
 have c0:w.cell? ⟨b,0,none⟩=some p:=by rw[Lib.cell_of_heap hbk];rfl
 have f0:w.frozen? ⟨b,0,none⟩=false:=Lib.frozen_of_heap hbk 0
 rcases hp with rfl | rfl
 ·refine (ZtD hT b w c0 (by simp[World.shape?,hbk]) f0).mono ?_
  rintro e w' ⟨rfl,rfl⟩
  have hb':(w.setCell ⟨b,0,none⟩ (.pointer (some ⟨b,0,none⟩))).heap[b]?=some (.cells #[.pointer (some ⟨b,0,none⟩),v] T (0,0)):=by
   simp only[World.setCell,Array.getElem?_modify,hbk]
   simp
  have ho:∀ k,k≠b→(w.setCell ⟨b,0,none⟩ (.pointer (some ⟨b,0,none⟩))).heap[k]?=w.heap[k]?:=fun k hk=>Below.heap_setCell w _ _ k hk
  refine⟨rfl,hb',⟨hB,⟨_,.inr rfl,hb'⟩,?_,hne⟩,ho,(Below.refl B w).setCell (p:=⟨b,0,none⟩) hB _⟩
  refine⟨hown.1,?_⟩
  rcases hown.2 with h | ⟨g,cap,cur,fz,q1,q2,q3,q4⟩
  ·exact .inl h
  ·exact .inr ⟨g,cap,cur,fz,q1,q2,(ho g (fun e=>hne (by rw[q1,e];rfl))).trans q3,q4⟩
 ·refine (Tryz.copyCheck_used b w c0).mono ?_
  rintro e w' ⟨rfl,rfl⟩
  exact⟨rfl,hbk,h',fun _ _=>rfl,Below.refl B _⟩
theorem Ztx {T:TypeId} (hT:LaysB T) (B b:Nat) (v:Value) (bs:List Value) (c:Int) (w:World) (h:Bld T 5 B b v bs w) (hlen:bs.length+1≤140737488355328) (hBw:B≤w.heap.size) :
  Calls Tryz.prog 209 #[.pointer (some ⟨b,0,none⟩),.int .u8 c] w fun e w'=>e=.returned .nilIface∧∃ v',Bld T 5 B b v' (bs++[.int .u8 c]) w'∧Wr B b v v' w w':=by
 obtain⟨i0,hi,hz0,hz1,hz2⟩:=info_parts cwU8
 go_enter Tryz.func209,Tryz.ntmps209
 go_wp2_with (go_at_call 72;refine (ZtC hT B b v bs _ h).mono ?_)
 rintro e w1 ⟨rfl,hbk,⟨hB,_,hown,hne⟩,ho1,hb1⟩
 have c0:w1.cell? ⟨b,0,none⟩=some (.pointer (some ⟨b,0,none⟩)):=by rw[Lib.cell_of_heap hbk];rfl
 have c1:w1.cell? ⟨b,1,none⟩=some v:=by rw[Lib.cell_of_heap hbk];rfl
 have hlt:b<w1.heap.size:=(Array.getElem?_eq_some_iff.1 hbk).1
 go_wp2_with (at_builtin;refine Zmh _ rfl _ _ 83 rfl B 5 i0 (.int .u8 0) 1 1 Tryz.underlying83 hi hz0 hz1 hz2 rfl (by decide) _ _ _ rfl (hown.alloc _) ⟨w1.heap.size,0,none⟩ 1 1 [.int .u8 c] rfl rfl ?c1 ?c2 ?c3 ?c4 ?c5 ?_)
 case c1 =>
  intro j u hj
  match j,hj with
  | 0,hj=>simp at hj;subst hj;simp[Addr.add]
 case c2=>intro u hu;simp at hu;subst hu;rfl
 case c3=>unfold maxLen;omega
 case c4=>omega
 case c5=>have:=hb1.size;simp;omega
 intro v' w2 hown' hgrow hfr
 have hb2:w2.heap[b]?=some (.cells #[.pointer (some ⟨b,0,none⟩),v] T (0,0)):=by
  rw[hgrow.block b (by simp;omega) (fun e=>hne e.symm),Lib.alloc_old w1 _ b hlt]
  exact hbk
 have d0:w2.cell? ⟨b,0,none⟩=some (.pointer (some ⟨b,0,none⟩)):=by rw[Lib.cell_of_heap hb2];rfl
 have d1:w2.cell? ⟨b,1,none⟩=some v:=by rw[Lib.cell_of_heap hb2];rfl
 have f1:w2.frozen? ⟨b,1,none⟩=false:=Lib.frozen_of_heap hb2 1
 obtain⟨g,cap,rfl⟩:∃ g cap,v'=.slice (some ⟨g,0,none⟩) (bs.length+1) cap:=by
  rcases hown'.2 with ⟨_,h0⟩ | ⟨g,cap,cur,fz,hv,_⟩
  ·omega
  ·exact⟨g,cap,hv⟩
 go_wp2
 go_ret
 refine⟨rfl,_,Bld.put hB (.inr rfl) hb2 (by simpa using hown') hT.2,?_,?_,?_⟩
 ·intro k hk hkb hkv
  rw[Below.heap_setCell w2 _ _ k hkb,hgrow.block k (by have:=hb1.size;simp;omega) (fun e=>hkv e.symm),Lib.alloc_old w1 _ k (by have:=hb1.size;omega)]
  exact ho1.out k hkb
 ·rcases hfr with h | ⟨g',h,h2⟩
  ·exact .inl h
  ·exact .inr ⟨g',h,by have:=hb1.size;omega⟩
 ·exact ((hb1.alloc (by have:=hb1.size;omega) _).grown hgrow (by have:=hb1.size;simp;omega) (fun k hk=>(hown.lt k hk).1)).setCell (p:=⟨b,1,none⟩) hB _
theorem Ztz {T:TypeId} (hT:LaysB T) (B b:Nat) (v:Value) (bs:List Value) (s:List UInt8) (w:World) (h:Bld T 5 B b v bs w) (hlen:bs.length+s.length≤140737488355328) (hBw:B≤w.heap.size) :
  Calls Tryz.prog 39 #[.pointer (some ⟨b,0,none⟩),.string ⟨s.toArray⟩] w fun e w'=>e=.returned (.tuple #[.int .i64 s.length,.nilIface])∧∃ v',Bld T 5 B b v' (bs++Lib.byteCells s) w'∧Wr B b v v' w w':=by
 obtain⟨i0,hi,hz0,hz1,hz2⟩:=info_parts cwU8
 go_enter Tryz.func39,Tryz.ntmps39
 go_wp2_with (go_at_call 72;refine (ZtC hT B b v bs _ h).mono ?_)
 rintro e w1 ⟨rfl,hbk,⟨hB,_,hown,hne⟩,ho1,hb1⟩
 have c0:w1.cell? ⟨b,0,none⟩=some (.pointer (some ⟨b,0,none⟩)):=by rw[Lib.cell_of_heap hbk];rfl
 have c1:w1.cell? ⟨b,1,none⟩=some v:=by rw[Lib.cell_of_heap hbk];rfl
 have hlt:b<w1.heap.size:=(Array.getElem?_eq_some_iff.1 hbk).1
 go_wp2_with (at_builtin;refine ZAS _ rfl _ _ 83 9 rfl B 5 i0 Tryz.underlying83 Tryz.underlying9 hi hz0 hz1 hz2 _ _ _ rfl hown ⟨s.toArray⟩ rfl ?c3 ?c4 ?c5 ?_)
 case c3=>unfold maxLen;show bs.length+s.length≤_;omega
 case c4=>show bs.length+s.length≤_;omega
 case c5=>have:=hb1.size;omega
 intro v' w2 hown' hgrow hfr
 have hb2:w2.heap[b]?=some (.cells #[.pointer (some ⟨b,0,none⟩),v] T (0,0)):=by
  rw[hgrow.block b hlt (fun e=>hne e.symm)]
  exact hbk
 have d0:w2.cell? ⟨b,0,none⟩=some (.pointer (some ⟨b,0,none⟩)):=by rw[Lib.cell_of_heap hb2];rfl
 have d1:w2.cell? ⟨b,1,none⟩=some v:=by rw[Lib.cell_of_heap hb2];rfl
 have f1:w2.frozen? ⟨b,1,none⟩=false:=Lib.frozen_of_heap hb2 1
 obtain⟨ao,n',cap,rfl⟩:∃ ao n' cap,v'=.slice ao n' cap:=by
  rcases hown'.2 with ⟨hv,_⟩ | ⟨g,cap,cur,fz,hv,_⟩
  ·exact⟨_,_,_,hv⟩
  ·exact⟨_,_,_,hv⟩
 have hlen2:(bs++Lib.byteCells s).length=bs.length+s.length:=by rw[List.length_append,Lib.byteCells_length]
 go_wp2
 go_ret2
 refine⟨rfl,_,Bld.put hB (.inr rfl) hb2 (by rw[hlen2];exact hown') hT.2,?_,?_,?_⟩
 ·intro k hk hkb hkv
  rw[Below.heap_setCell w2 _ _ k hkb,hgrow.block k (by have:=hb1.size;omega) (fun e=>hkv e.symm)]
  exact ho1.out k hkb
 ·rcases hfr with h | ⟨g',h,h2⟩
  ·exact .inl h
  ·exact .inr ⟨g',h,by have:=hb1.size;omega⟩
 ·exact (hb1.grown hgrow (by have:=hb1.size;omega) (fun k hk=>(hown.lt k hk).1)).setCell (p:=⟨b,1,none⟩) hB _
theorem ZtA {T:TypeId} (B b:Nat) (v:Value) (l:List UInt8) (h0:l≠[]) (w:World) (h:Bld T 5 B b v (Lib.byteCells l) w) :
  Calls Tryz.prog 40 #[.pointer (some ⟨b,0,none⟩)] w fun e w'=>e=.returned (.string ⟨l.toArray⟩)∧Below B w w':=by
 obtain⟨hB,⟨p,hp,hbk⟩,hown,hne⟩:=h
 have hl0:l.length≠0:=by simpa using h0
 rw[Lib.byteCells_length] at hown
 obtain⟨g,cap,cur,fz,rfl,hbg,hg,hfz,hnc,hcm,hcs,htake⟩:∃ g cap cur fz,v=.slice (some ⟨g,0,none⟩) l.length cap∧B≤g∧w.heap[g]?=some (.cells cur 5 fz)∧fz.2≤l.length * 1∧l.length≤cap∧cap≤maxLen∧cur.size=cap * 1∧cur.toList.take (l.length * 1)=Lib.byteCells l:=by
  rcases hown.2 with ⟨_,hz⟩ | ⟨g,cap,cur,fz,hv,r⟩
  ·exact absurd hz hl0
  ·exact⟨g,cap,cur,fz,hv,r⟩
 have c1:w.drew.cell? ⟨b,1,none⟩=some (.slice (some ⟨g,0,none⟩) l.length cap):=by
  have:w.drew.heap[b]?=some (.cells #[p,.slice (some ⟨g,0,none⟩) l.length cap] T (0,0)):=hbk
  rw[Lib.cell_of_heap this];rfl
 have hSD:(Builtin.unsafeSliceData_ #[83] 128 #[.slice (some ⟨g,0,none⟩) l.length cap]).run Tryz.prog w.drew=.ok (.pointer (some ⟨g,0,none⟩)) w.drew :=
  Lib.run_unsafeSliceData_row _ _ _ _ _ _ (by omega)
 have hUS:(Builtin.unsafeString_ #[128,3] 9 #[.pointer (some ⟨g,0,none⟩),.int .i64 l.length]).run Tryz.prog w.drew=.ok (.string ⟨l.toArray⟩) (w.drew.freeze ⟨g,0,none⟩ l.length):=by
  refine Lib.run_unsafeString_row w.drew 128 3 9 5 Tryz.underlying128 (by kernel_rfl) g cur.size (by have hg':w.drew.heap[g]?=some (.cells cur 5 fz):=hg;simp[World.shape?,hg']) l h0 (by omega) (by unfold maxLen at hcm;omega) ?_
  intro j x hx
  have:=hown.cells (g:=g) rfl j (.int .u8 x.toNat) (by simp[Lib.byteCells,hx])
  exact this
 have HF:Hid (Below B w (w.drew.freeze ⟨g,0,none⟩ l.length)):=Lib.below_freeze (Below.drew (Below.refl B w)) (p:=⟨g,0,none⟩) hbg _
 clear hfz htake hown hg
 have mixed:Tryz.prog.follows Departure.mixedOrders=true:=by kernel_rfl
 go_enter Tryz.func40,Tryz.ntmps40
 go_wp2
 go_region_o
 all_goals (go_wp2;go_ret;exact⟨rfl,HF.out⟩)
end

section
open Go.RowKit Go.Proofs.YtcniomgjikienaaGreatDoor.Tx
theorem ZwH:LaysB 235:=⟨by kernel_rfl,by decide⟩
def Pg (B b:Nat) (v:Value) (acc:List UInt8) (w:World):Prop:=Bld 235 5 B b v (Lib.byteCells acc) w
theorem Pg.low {B b:Nat} {v:Value} {acc:List UInt8} {w w':World} (h:Pg B b v acc w) (hb:Below w.heap.size w w'):Pg B b v acc w':=Bld.kept h hb.block
theorem Zup (B b:Nat) (v:Value) (acc s Z:List UInt8) (w:World) (h:Pg B b v acc w) (hBw:B≤w.heap.size) (HZ:Hid (acc++s++[10]=Z)) (hZ:Z.length≤70368744177664) :
  Calls Tryz.prog 176 #[.pointer (some ⟨b,0,none⟩),.string ⟨s.toArray⟩] w fun e w'=>e=.returned (.tuple #[])∧∃ v',Pg B b v' Z w'∧Wr B b v v' w w':=by
 have hl:=congrArg List.length HZ.out
 simp only[List.length_append,List.length_cons,List.length_nil] at hl
 go_enter Tryz.func176,Tryz.ntmps176
 go_wp2_with fail
 refine (Ztz ZwH B b v _ s _ h (by rw[Ztl];omega) hBw).mono ?_
 rintro e w1 ⟨rfl,v1,h1,hw1⟩
 go_wp2_with fail
 refine (Ztz ZwH B b v1 _ [10] _ h1 (by rw[List.length_append,Ztl,Ztl];simp;omega) (Nat.le_trans hBw hw1.size)).mono ?_
 rintro e w2 ⟨rfl,v2,h2,hw2⟩
 go_wp2
 first
  | go_end0
  | refine bodyPost_ret (results_none rfl _ _ _) rfl ?_
  | refine bodyPost_end (results_none rfl _ _ _) rfl ?_
 refine⟨rfl,v2,?_,hw1.trans hw2⟩
 rw[← HZ.out]
 unfold Pg
 rw[Lib.byteCells_append,Lib.byteCells_append]
 exact h2
theorem ZtE {c:Int} (h0:0≤c) (h1:c<256):Lib.byteCells [UInt8.ofNat c.toNat]=[.int .u8 c]:=by
 have:((UInt8.ofNat c.toNat).toNat:Int)=c:=by
  rw[UInt8.toNat_ofNat']
  omega
 simp only[Lib.byteCells,List.map_cons,List.map_nil,this]
theorem Zuh (B b:Nat) (v:Value) (c:Int) (h0:0≤c) (h1:c<256) (acc s Z:List UInt8) (w:World) (h:Pg B b v acc w) (hBw:B≤w.heap.size) (HZ:Hid (acc++(lnL [UInt8.ofNat c.toNat,32] s).flatten=Z)) (hZ:Z.length≤70368744177664) (hs:s.length≤1099511627776) :
  Calls Tryz.prog 266 #[.pointer (some ⟨b,0,none⟩),.int .u8 c,.string ⟨s.toArray⟩] w fun e w'=>e=.returned (.tuple #[])∧∃ v',Pg B b v' Z w'∧Wr B b v v' w w':=by
 obtain⟨T,hT⟩:∃ T,plT s=T:=⟨_,rfl⟩
 have HT:Hid (plT s=T):=hT
 have HE:Hid (acc++([UInt8.ofNat c.toNat,32]++T)=Z):=(by
  show _=_
  rw[← HZ.out,Zyw,hT])
 have hl:=congrArg List.length HE.out
 simp only[List.length_append,List.length_cons,List.length_nil] at hl
 have hA:Hid (Lib.byteCells acc++[.int .u8 c]++[.int .u8 32]++Lib.byteCells T=Lib.byteCells Z):=(by
  show _=_
  rw[← HE.out,Lib.byteCells_append,Lib.byteCells_append]
  have:Lib.byteCells [UInt8.ofNat c.toNat,32]=[.int .u8 c]++[.int .u8 32]:=(by
   have h:=ZtE h0 h1
   simp only[Lib.byteCells,List.map_cons,List.map_nil] at h ⊢
   rw[List.cons_eq_cons.1 h |>.1]
   rfl)
  rw[this]
  simp only[List.append_assoc])
 have hbl:=Ztl acc
 have hsl:=Ztl T
 clear HZ HE hT
 go_enter Tryz.func266,Tryz.ntmps266
 go_wp2_with fail
 refine (Ztx ZwH B b v _ c _ h (by omega) hBw).mono ?_
 rintro e w1 ⟨rfl,v1,q1,hw1⟩
 go_wp2_with fail
 refine (Ztx ZwH B b v1 _ 32 _ q1 (by rw[List.length_append];simp;omega) (Nat.le_trans hBw hw1.size)).mono ?_
 rintro e w2 ⟨rfl,v2,q2,hw2⟩
 have hw12:=hw1.trans hw2
 have q2d:Bld 235 5 B b v2 _ w2.drew:=Bld.kept q2 ((Below.refl _ w2).drew).block
 have hwd:Wr B b v v2 w w2.drew:=hw12.trans (Wr.low ((Below.refl _ w2).drew) (by have:=hw12.size;omega))
 have hszd:B≤w2.drew.heap.size:=Nat.le_trans hBw hwd.size
 clear q1 q2 hw1 hw2 hw12 h
 go_upto_region 2 with fail
 refine wp_region_noPanic ?_
 refine wp_region_held_drew (S:=fun _=>True) (by kernel_rfl) trivial (fun hHeld=>?_)
 generalize w2.drew=wd at q2d hwd hszd ⊢
 refine Y_t 0 15 _ (.pointer (some ⟨b,0,none⟩)) rfl (Or.inl ⟨by kernel_rfl,fun u hu=>by kernel_rfl⟩) hHeld ?_
 simp only[Act.put,Y_a,Y_b,Y_c]
 refine Y_t 1 16 _ (.pointer (some ⟨b,0,none⟩)) rfl (Or.inl ⟨by kernel_rfl,fun u hu=>by kernel_rfl⟩) hHeld ?_
 simp only[Act.put,Y_a,Y_b,Y_c]
 refine Y_t 2 17 _ (.pointer (some ⟨b,0,none⟩)) rfl (Or.inl ⟨by kernel_rfl,fun u hu=>by kernel_rfl⟩) hHeld ?_
 simp only[Act.put,Y_a,Y_b,Y_c]
 refine Y_t 3 18 _ (.string ⟨s.toArray⟩) rfl (Or.inl ⟨by kernel_rfl,fun u hu=>by kernel_rfl⟩) hHeld ?_
 simp only[Act.put,Y_a,Y_b,Y_c]
 refine Y_e 4 19 _ rfl 210 (.func 210) #[.tmp 18] #[9] (by kernel_rfl) #[] (by kernel_rfl) #[.string ⟨s.toArray⟩] (by kernel_rfl) (enters_of Tryz.func210 (by kernel_rfl) rfl) (fun v3 w3=>v3=.string ⟨T.toArray⟩∧w3=wd) ?_ ?_
 ·refine (Zyx s wd hs T HT).mono ?_
  rintro e w3 ⟨rfl,rfl⟩
  exact⟨_,rfl,trivial,rfl,rfl⟩
 rintro _ w3 _ ⟨rfl,rfl⟩
 simp only[Act.put,Y_a,Y_b,Y_c]
 refine Y_e 5 20 _ rfl 39 (.func 39) #[.tmp 17,.tmp 19] #[85,9] (by kernel_rfl) #[] (by kernel_rfl) #[.pointer (some ⟨b,0,none⟩),.string ⟨T.toArray⟩] (by kernel_rfl) (enters_of Tryz.func39 (by kernel_rfl) rfl) (fun _ w4=>∃ v',Pg B b v' Z w4∧Wr B b v v' w w4) ?_ ?_
 ·refine (Ztz ZwH B b v2 _ T _ q2d (by rw[List.length_append,List.length_append];simp;omega) hszd).mono ?_
  rintro e w4 ⟨rfl,v4,q4,hw4⟩
  exact⟨_,rfl,trivial,v4,by unfold Pg;rw[← hA.out];exact q4,hwd.trans hw4⟩
 rintro _ w4 _ ⟨v4,q4,hw4⟩
 simp only[Act.put,Y_a,Y_b,Y_c]
 refine wpAnyH_done (by kernel_rfl) ?_ _
 refine NoPanic.normal ?_
 go_wp2
 first
  | go_end0
  | refine bodyPost_ret (results_none rfl _ _ _) rfl ?_
  | refine bodyPost_end (results_none rfl _ _ _) rfl ?_
 exact⟨rfl,v4,q4,hw4⟩
theorem Zuo (A N:Int) (h0:0≤A) (h1:A≤4611686018427387904) (h2:0≤N) (h3:N≤4611686018427387900) (w:World) (HT:Hid (Tab10 w)) (T:List UInt8) (HR:Hid (spanT A N=T)) :
  Calls Tryz.prog 219 #[.int .i64 A,.int .i64 N] w fun e w'=>e=.returned (.string ⟨T.toArray⟩)∧Below w.heap.size w w':=by
 have l1:=Zwz A (by omega) (by omega)
 have l2:=Zwz (A+N-1) (by omega) (by omega)
 by_cases hN:N≤1
 ·have HE1:Hid (Lib.itoa A=T):=(by have h:=HR.out;unfold spanT at h;rw[if_pos hN] at h;exact h)
  clear HR
  go_enter Tryz.func219,Tryz.ntmps219
  go_wp2_with fail
  refine (Zxj A (by omega) (by omega) _ HT).mono ?_
  rintro e w1 ⟨rfl,hb1⟩
  go_wp2
  go_ret
  exact⟨by rw[← HE1.out];rfl,hb1⟩
 ·have HE:Hid (Lib.itoa A++44::Lib.itoa (A+N-1)=T):=(by have h:=HR.out;unfold spanT at h;rw[if_neg hN] at h;exact h)
  clear HR
  have q1:=Zsl (x:=Lib.itoa A) (y:=[44]) (by unfold Fits;simp only[List.length_cons,List.length_nil];omega) Tryz.prog
  have q2:=Zsl (x:=Lib.itoa A++[44]) (y:=Lib.itoa (A+N-1)) (by unfold Fits;simp only[List.length_append,List.length_cons,List.length_nil];omega) Tryz.prog
  go_enter Tryz.func219,Tryz.ntmps219
  go_wp2_with fail
  refine (Zxj A (by omega) (by omega) _ HT).mono ?_
  rintro e w1 ⟨rfl,hb1⟩
  have HT1:Hid (Tab10 w1):=HT.out.on hb1
  go_wp2_with fail
  refine (Zxj (A+N-1) (by omega) (by omega) _ HT1).mono ?_
  rintro e w2 ⟨rfl,hb2⟩
  go_wp2
  go_ret
  exact⟨by rw[← HE.out];rfl,hb1.trans (hb2.mono hb1.size)⟩
end

section
open Go.RowKit
def ucells (l:List Int):List Value:=l.map fun n=>.int .u8 n
theorem ZAD (l:List Int):(ucells l).length=l.length:=by simp[ucells]
theorem ZAC (a b:List Int):ucells (a++b)=ucells a++ucells b:=by simp[ucells]
theorem ZAE (l:List Int):∀ u∈ucells l,u.oneCell'=true:=by
 intro u hu
 simp only[ucells,List.mem_map] at hu
 obtain⟨n,_,rfl⟩:=hu
 rfl
theorem infoU:(Tryz.prog.info? 5).map (fun i=>(i.zero,i.size,i.bytes))=some (some (.int .u8 0),1,1):=by kernel_rfl
theorem ZAA (w:World) (c:Int):Holds (w.alloc (.cells #[.int .u8 c] 5)) (.slice (some ⟨w.heap.size,0,none⟩) 1 1) 1 (ucells [c]):=ZgR w #[.int .u8 c] 5 1 1 (by decide)
def lenW:Value→Nat
 | .slice _ n _=>n
 | _=>0
theorem Zxc (c:List Mk):(mixM c).length=c.length:=by simp[mixM]
theorem Zxb (c:List Mk) (mx:Bool) (HM:(hasM 45 c && hasM 43 c)=mx) (k:Nat) (hk:k<c.length):(mixM c).drop k=(if mx=true then 33 else c[k].sg)::(mixM c).drop (k+1):=by
 have hl:k<(mixM c).length:=by rw[Zxc];exact hk
 rw[List.drop_eq_getElem_cons hl]
 congr 1
 simp only[mixM,List.getElem_map,HM]
theorem Zuq (l:List Mk) (v:Value) (w:World) (hv:HMk w v l) (hl:l.length≤1099511627776) (R:List Int) (HR:Hid (shwL false false l=R)) :
  Calls Tryz.prog 218 #[v] w fun e w'=>∃ v',e=.returned v'∧w'.ownsRow w.heap.size 5 1 v' R.length (ucells R)∧Below w.heap.size w w':=by
 obtain⟨lo,lc,rfl⟩:=HMk.form hv
 have hnc:=Zgb hv
 have HR0:Hid (([]:List Int)++shwL false false (l.drop 0)=R):=(by show _=_;simp only[List.nil_append,List.drop_zero];exact HR.out)
 have hown0:w.ownsRow w.heap.size 5 1 (.slice none 0 0) 0 (ucells []):=Zen _ _ _ _
 clear HR
 go_enter Tryz.func218,Tryz.ntmps218
 go_wp2
 go_loopw [3] (fun sv wr=>∃ (acc:List Int) (N:Nat),N≤l.length∧(∃ o c,sv=.slice o N c)∧wr.ownsRow w.heap.size 5 1 sv N (ucells acc)∧Below w.heap.size w wr∧Hid (acc.length=N)∧Hid (acc++shwL false false (l.drop N)=R)) (fun sv _=>l.length-lenW sv)
 case atStart=>exact⟨[],0,Nat.zero_le _,⟨none,0,rfl⟩,hown0,Below.refl _ _,rfl,HR0⟩
 case round =>
 obtain⟨acc,N,hN,⟨o,c,rfl⟩,hown,hB,HLn,HI⟩:=hrel
 clear HR0 hown0
 by_cases hlt:N<l.length
 ·have hsub:=Zgf hv N hN
  have hs:=ZjL lo l.length lc N hN hnc
  have HST:=HI.out
  rw[ZAk] at HST
  have hll:(l.drop N).length=l.length-N:=List.length_drop
  obtain⟨D,hD⟩:∃ D,l.drop N=D:=⟨_,rfl⟩
  have HDr:Hid (l.drop N=D):=hD
  rw[hD] at hll hsub HST
  rw[← hll] at hsub hs
  clear hD HI
  generalize mslF lo lc N=ao2 at hs hsub
  generalize lc-N=c2 at hs hsub
  obtain⟨n,hn⟩:∃ n,(chgM D).length=n:=⟨_,rfl⟩
  have hnD:n≤D.length:=(by rw[← hn];exact Zbt D)
  have hp:=ZbX D ao2 c2 wr (hsub.keep hB (Nat.le_refl _)) (by omega) n hn
  have hto:=Zgk hsub n hnD
  have hct:D.take n=chgM D:=(by rw[← hn];exact Zbw D)
  rw[hct] at hto
  obtain⟨T,hT⟩:∃ T,tlM (rstM D)=T:=⟨_,rfl⟩
  rw[hT] at HST
  have HTl:Hid ((n=D.length∧T=[])∨(n<D.length∧T=32::shwL false false (l.drop (N+n+1)))):=(by
   have h1:=congrArg List.length (Zbv D)
   rw[List.length_append,hn] at h1
   cases hr:rstM D with
   | nil =>
    rw[hr] at hT h1
    exact .inl ⟨by simpa using h1,hT.symm⟩
   | cons x t =>
    rw[hr] at hT h1
    refine .inr ⟨by simp at h1;omega,?_⟩
    rw[← hT]
    have h2:l.drop (N+n+1)=t:=(by
     rw[← List.drop_drop,← List.drop_drop,HDr.out]
     have h3:=Zbv D
     rw[hr] at h3
     have h4:D.drop n=x::t:=(by rw[← h3,← hn,List.drop_left])
     rw[h4]
     rfl)
    rw[h2]
    rfl)
  have HS:Hid (acc++(mixM (chgM D)++T)=R):=HST
  have hhas:=fun k u hu r HR=>ZtM k (chgM D) (.slice ao2 n c2) u ((hto.keep hB (Nat.le_refl _)).keep hu (Nat.le_refl _)) (by rw[hn];omega) r HR
  obtain⟨mx,hmx⟩:∃ b,(hasM 45 (chgM D) && hasM 43 (chgM D))=b:=⟨_,rfl⟩
  have HMX:Hid ((hasM 45 (chgM D) && hasM 43 (chgM D))=mx):=hmx
  have h45:=fun u hu=>hhas 45 u hu _ rfl
  have h43:=fun u hu=>hhas 43 u hu _ rfl
  have HCn:Hid ((chgM D).length=n):=hn
  have HDl:Hid (D.length=l.length-N):=hll
  have hn2:n≤1099511627776:=by omega
  clear HST hT hsub hct hhas hn HDr hll hmx
  generalize chgM D=C at hto HS h45 h43 HMX HCn
  go_wp2_with fail
  refine hp.mono ?_
  rintro e w1 ⟨rfl,hB1⟩
  go_upto_region 4 with fail
  go_cut [5] from 9 to 46 (fun mv wz=>mv=.bool mx∧Below wr.heap.size wr wz)
  case first =>
   cases h1:hasM 45 C with
   | true =>
    rw[h1] at h45
    go_wp2_with fail
    refine (h45 w1 hB1).mono ?_
    rintro e w2 ⟨rfl,hB2⟩
    have hB12:=hB1.trans (hB2.mono hB1.size)
    have HE:Hid (hasM 43 C=mx):=(by have h:=HMX.out;rw[h1,Bool.true_and] at h;exact h)
    go_wp2_with fail
    refine (h43 w2 hB12).mono ?_
    rintro e w3 ⟨rfl,hB3⟩
    go_wp2
    go_meet
    case rel=>exact⟨by rw[HE.out],hB12.trans (hB3.mono hB12.size)⟩
   | false =>
    rw[h1] at h45
    have HE:Hid (false=mx):=(by have h:=HMX.out;rw[h1,Bool.false_and] at h;exact h)
    go_wp2_with fail
    refine (h45 w1 hB1).mono ?_
    rintro e w2 ⟨rfl,hB2⟩
    go_wp2
    go_meet
    case rel=>exact⟨by rw[HE.out],hB1.trans (hB2.mono hB1.size)⟩
  case rest =>
  obtain⟨rfl,hBc⟩:=hcut
  clear hp h45 h43 hs hB1
  have hown2:wc.ownsRow w.heap.size 5 1 (.slice o N c) N (ucells acc):=ZhK hown hBc
  have hB2:=hB.trans (hBc.mono hB.size)
  clear hown hB hBc
  generalize wc=W2 at hown2 hB2 ⊢
  have HS0:Hid (acc++((mixM C).drop 0++T)=R):=(by show _=_;rw[List.drop_zero];exact HS.out)
  have HL0:Hid (acc.length=N∧N=N+0):=⟨HLn.out,rfl⟩
  clear HS HLn
  go_wp2
  go_loopw [3,27] (fun sv i wr=>∃ (k:Nat) (ac:List Int) (N2:Nat),k≤n∧i=.int .i64 k∧N2≤l.length∧(∃ o c,sv=.slice o N2 c)∧wr.ownsRow w.heap.size 5 1 sv N2 (ucells ac)∧Below w.heap.size w wr∧Hid (ac.length=N2∧N2=N+k)∧Hid (ac++((mixM C).drop k++T)=R)) (fun _ i _=>n-(intOf i).toNat)
  case atStart=>exact⟨0,acc,N,Nat.zero_le _,by go_num,hN,⟨o,c,rfl⟩,hown2,hB2,HL0,HS0⟩
  case round =>
  clear HS0 HL0 hown2
  obtain⟨k,ac,N2,hk,rfl,hN2,⟨o2,c2',rfl⟩,hown3,hB3,HL3,HI3⟩:=hrel
  have hsz3:=hB3.size
  by_cases hkn:k<n
  ·obtain⟨bk,off,rfl,hbk,_⟩:=HMk.at hto (by have:=HCn.out;omega)
   have hkC:k<C.length:=(by have:=HCn.out;omega)
   obtain⟨m,hm⟩:∃ m,C[k]=m:=⟨_,rfl⟩
   obtain⟨c0,c1⟩:=Low.mk hB3 hto k hkC hm
   have i1:(0:Int)≤(k:Int):=by omega
   have i2:(k:Int)<(n:Int):=by omega
   obtain⟨S,hS⟩:∃ S:Int,(if mx=true then 33 else m.sg)=S:=⟨_,rfl⟩
   have HI4:Hid ((ac++[S])++((mixM C).drop (k+1)++T)=R):=(by
    show _=_
    have h:=HI3.out
    rw[Zxb C _ HMX.out k hkC,hm,hS] at h
    rw[← h]
    simp)
   have HL4:Hid ((ac++[S]).length=N2+1∧N2+1=N+(k+1)∧N2+1≤l.length∧k+1≤n):=⟨by rw[List.length_append,HL3.out.1];rfl,by have:=HL3.out.2;omega,by have:=HL3.out.2;have:=HDl.out;omega,by omega⟩
   have hownM:=hown3.alloc (.cells #[.int .u8 m.sg,.string ⟨m.tx.toArray⟩] 47)
   have hBM:=hB3.alloc hB3.size (.cells #[.int .u8 m.sg,.string ⟨m.tx.toArray⟩] 47)
   have HS2:Hid ((if mx=true then 33 else m.sg)=S):=hS
   clear HI3 HMX hto hS hown3 hB3
   go_upto_region 8 with fail
   go_cut [8] from 28 to 38 (fun sv wz=>sv=.int .u8 m.sg∧wz=wr.alloc (.cells #[.int .u8 m.sg,.string ⟨m.tx.toArray⟩] 47))
   case first =>
    go_wp2
    go_meet
    case rel=>exact⟨rfl,rfl⟩
   case rest =>
   obtain⟨rfl,rfl⟩:=hcut
   go_upto_if 33 with fail
   go_cut [8] from 28 to 38 (fun sv wz=>sv=.int .u8 S∧wz=wr.alloc (.cells #[.int .u8 m.sg,.string ⟨m.tx.toArray⟩] 47))
   case first =>
    cases mx with
    | true =>
     have HE:Hid (33=S):=(by have h:=HS2.out;rw[if_pos rfl] at h;exact h)
     go_wp2
     go_meet
     case rel=>exact⟨by rw[HE.out],rfl⟩
    | false =>
     have HE:Hid (m.sg=S):=(by have h:=HS2.out;rw[if_neg (by decide)] at h;exact h)
     go_wp2
     go_meet
     case rel=>exact⟨by rw[HE.out],rfl⟩
   case rest =>
   obtain⟨rfl,rfl⟩:=hcut
   clear c0 c1 HS2
   generalize wr.alloc (.cells #[.int .u8 m.sg,.string ⟨m.tx.toArray⟩] 47)=Wm at hownM hBM ⊢
   have hszM:w.heap.size≤Wm.heap.size:=hBM.size
   have hrow:=ZAA Wm S
   have hownA:=hownM.alloc (.cells #[.int .u8 S] 5)
   have hszA:Wm.heap.size≤(Wm.alloc (.cells #[.int .u8 S] 5)).heap.size:=by simp
   go_wp2_with (at_builtin;refine Zmi _ (by kernel_rfl) (.tmp 34) (.tmp 36) 83 5 (.int .u8 0) 1 1 rfl Tryz.underlying83 infoU rfl (by decide) (by decide) w.heap.size _ _ _ rfl hownA _ 1 (ucells [S]) rfl hrow (ZAD _) (ZAE _) (by omega) (by omega) ?_)
   intro v3 u3 hown4 hg4 _
   rw[← ZAC] at hown4
   have hB4:Below w.heap.size w u3:=((hBM.alloc hBM.size _).grown hg4 (hBM.alloc hBM.size _).size (fun j hj=>ZhJ hownA hj))
   obtain⟨o4,c4,rfl⟩:=(Zeo hown4).form
   clear hrow hownA hg4 hszA hownM hBM
   go_wp2
   exact⟨⟨k+1,_,N2+1,HL4.out.2.2.2,by go_num,HL4.out.2.2.1,⟨o4,c4,rfl⟩,hown4,hB4,⟨HL4.out.1,HL4.out.2.1⟩,HI4⟩,by have:=HL4.out.2.2.2;simp[intOf];omega⟩
  ·have hend:decide ((k:Int)<(n:Int))=false:=decide_eq_false (by omega)
   have hkk:k=n:=by omega
   subst hkk
   have HI4:Hid (ac++T=R):=(by
    have h:=HI3.out
    rw[List.drop_of_length_le (by rw[Zxc,HCn.out];omega),List.nil_append] at h
    exact h)
   have HNk:Hid (N2=N+k):=HL3.out.2
   have HAl:Hid (ac.length=N2):=HL3.out.1
   clear HI3 HL3 HMX hto
   by_cases hfull:k<D.length
   ·have HT:Hid (T=32::shwL false false (l.drop (N2+1))):=(by
     rcases HTl.out with h | h
     ·omega
     ·show _=_
      rw[HNk.out]
      exact h.2)
    have j1:(N2:Int)<(l.length:Int):=(by have:=HNk.out;have:=HDl.out;omega)
    have HI5:Hid ((ac++[32])++shwL false false (l.drop (N2+1))=R):=(by
     show _=_
     rw[← HI4.out,HT.out]
     simp)
    have HL5:Hid ((ac++[(32:Int)]).length=N2+1):=(by show _=_;rw[List.length_append,HAl.out];rfl)
    have hdec:l.length-(N2+1)<l.length-N:=(by have:=HNk.out;omega)
    have hownM:=hown3
    have hBM:=hB3
    clear HI4 HT HTl
    have hszA:(wr).heap.size≤((wr).alloc (.cells #[.int .u8 (32)] 5)).heap.size:=by simp
    have hrow:=ZAA (wr) (32)
    have hownA:=hownM.alloc (.cells #[.int .u8 (32)] 5)
    go_wp2_with (at_builtin;refine Zmi _ (by kernel_rfl) (.tmp 44) (.tmp 45) 83 5 (.int .u8 0) 1 1 rfl Tryz.underlying83 infoU rfl (by decide) (by decide) w.heap.size _ _ _ rfl hownA _ 1 (ucells [32]) rfl hrow (ZAD _) (ZAE _) (by omega) (by omega) ?_)
    intro v3 u3 hown4 hg4 _
    rw[← ZAC] at hown4
    have hB4:Below w.heap.size w u3:=((hBM.alloc hBM.size _).grown hg4 (hBM.alloc hBM.size _).size (fun j hj=>ZhJ hownA hj))
    obtain⟨o4,c4,rfl⟩:=(Zeo hown4).form
    clear hrow hownA hg4 hszA
    go_wp2
    exact⟨⟨_,N2+1,by omega,⟨o4,c4,rfl⟩,hown4,hB4,HL5,HI5⟩,hdec⟩
   ·have HT:Hid (T=[]):=(by
     rcases HTl.out with h | h
     ·exact h.2
     ·omega)
    have j1:¬ (N2:Int)<(l.length:Int):=(by have:=HNk.out;have:=HDl.out;omega)
    have HI5:Hid (ac++shwL false false (l.drop N2)=R):=(by
     show _=_
     rw[← HI4.out,HT.out,List.drop_of_length_le (by omega)]
     rfl)
    have hdec:l.length-N2<l.length-N:=(by have:=HNk.out;have:=HDl.out;omega)
    clear HI4 HT HTl
    go_wp2
    exact⟨⟨ac,N2,hN2,⟨o2,c2',rfl⟩,hown3,hB3,HAl,HI5⟩,hdec⟩
 ·have hend:¬ (N:Int)<(l.length:Int):=by omega
  have HE:Hid (acc=R∧R.length=N):=(by
   have h:=HI.out
   rw[List.drop_of_length_le (by omega)] at h
   have h2:acc=R:=(by rw[← h];simp[shwL])
   exact⟨h2,by rw[← h2];exact HLn.out⟩)
  clear HI HLn
  go_wp2
  go_ret
  obtain⟨h1,h2⟩:=HE.out
  subst h1
  exact⟨_,rfl,by rw[h2];exact hown,hB⟩
end

end Go.Proofs.YtcniomgjikienaaGreatDoor
