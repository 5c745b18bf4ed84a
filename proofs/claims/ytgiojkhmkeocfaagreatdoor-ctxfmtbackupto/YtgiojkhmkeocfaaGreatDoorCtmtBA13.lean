/-
  Texts that belong together, joined: NpH, CxMath, CxM2, CxM3, CxM4, CxM5, CxM6, CxM7, NoPs, NpN, NpX, NpC, CxC, CxLen, CxR, CxP, CxC2, Copy, CqL.
-/
import Derived.Test.YtgiojkhmkeocfaaGreatDoorCtmtBA12
import Derived.Lib.OthersKept
import Derived.Laws.RangeAny
import Derived.Lib.IndexAny
import Derived.Deep.QuietTactic
import Derived.BigQuiet
import Derived.Deep.CutBlock
import Derived.Shelf.Strings.Builder1
import Derived.Test.YtgiojkhmkeocfaaGreatDoorProg
import Derived.Test.YtgiojkhmkeocfaaGreatDoorCtmtBA1
import Derived.WalkKit
import Derived.WalkSpells
import Derived.WalkLawsBesides

set_option maxHeartbeats 16000000
set_option maxRecDepth 100000
namespace Go.Proofs.YtgiojkhmkeocfaaGreatDoor

section
open Go.RowKit
attribute [local go_sem] ByteArray.extract_mk no_at
theorem owns_fr {w u:World} {B R:Nat} {e:TypeId} {s:Nat} {v:Value} {n:Nat} {xs:List Value} (h:w.ownsRow B e s v n xs) (hg:w.grownBy u (some R)) (hR:R<B):u.ownsRow B e s v n xs:=by
 refine⟨h.1,?_⟩
 rcases h.2 with q | ⟨g,cap,cur,rfl,q2,q3,q4⟩
 ·exact .inl q
 ·refine .inr ⟨g,cap,cur,rfl,q2,?_,q4⟩
  rw[hg.block g (Array.getElem?_eq_some_iff.1 q3).1 (fun e=>by cases e;omega)]
  exact q3
theorem owns_last {w:World} {B:Nat} {v:Value} {l:List Mk} {m:Mk} (h:w.ownsRow B 103 2 v (l.length+1) (mkcells (l++[m]))):∃ g cap,v=.slice (some ⟨g,0,none⟩) (l.length+1) cap∧B≤g∧g<w.heap.size∧w.cell? ⟨g,l.length * 2+1,none⟩=some (.string ⟨m.tx.toArray⟩)∧w.frozen? ⟨g,l.length * 2+1,none⟩=false ∧
  ∀ (u:World) (t:List UInt8),u.heap[g]?=w.heap[g]?→(u.setCell ⟨g,l.length * 2+1,none⟩ (.string ⟨t.toArray⟩)).ownsRow B 103 2 v (l.length+1) (mkcells (l++[⟨m.sg,t⟩])):=by
 rcases h.2 with ⟨_,q⟩ | ⟨g,cap,cur,rfl,q2,q3,q4,q5,q6,q7⟩
 ·omega
 ·have hmk:∀ x:Mk,mkcells (l++[x])=mkcells l++[.int .u8 x.sg,.string ⟨x.tx.toArray⟩]:=fun x=>by rw[mkcells_append];rfl
  have hl:=mkcells_length l
  have hcur:cur.toList.take ((l.length+1) * 2)=mkcells l++[.int .u8 m.sg,.string ⟨m.tx.toArray⟩]:=by rw[q7,hmk]
  have hcell:cur[l.length * 2+1]?=some (.string ⟨m.tx.toArray⟩):=by
   have h1:(cur.toList.take ((l.length+1) * 2))[l.length * 2+1]?=some (.string ⟨m.tx.toArray⟩):=by
    rw[hcur,List.getElem?_append_right (by omega),hl]
    have:l.length * 2+1-l.length * 2=1:=by omega
    rw[this]
    rfl
   rw[List.getElem?_take_of_lt (by omega)] at h1
   simpa using h1
  refine⟨g,cap,rfl,q2,(Array.getElem?_eq_some_iff.1 q3).1,?_,Lib.frozen_of_heap q3 _,?_⟩
  ·rw[Lib.cell_of_heap q3]
   exact hcell
  ·intro u t hu
   have hs:=heap_setCell_same u g (l.length * 2+1) cur _ (.string ⟨t.toArray⟩) (hu.trans q3)
   refine⟨by rw[mkcells_length];simp,.inr ⟨g,cap,_,rfl,q2,hs,q4,q5,by simpa using q6,?_⟩⟩
   rw[hmk]
   have e1:(cur.setIfInBounds (l.length * 2+1) (.string ⟨t.toArray⟩)).toList=cur.toList.set (l.length * 2+1) (.string ⟨t.toArray⟩):=by simp
   rw[e1,List.take_set,hcur,List.set_append_right _ _ (by omega),hl]
   have:l.length * 2+1-l.length * 2=1:=by omega
   rw[this]
   rfl
theorem pre_feed {sg s:List UInt8} (h:∀ c∈sg,c≠10):Lib.hasPrefix (s++[10]) sg=sg.isPrefixOf s:=by
 unfold Lib.hasPrefix
 rw[Bool.eq_iff_iff,List.isPrefixOf_iff_prefix,List.isPrefixOf_iff_prefix]
 constructor
 ·intro hp
  have hp2:=List.prefix_iff_eq_take.1 hp
  by_cases hl:sg.length≤s.length
  ·rw[List.take_append_of_le_length hl] at hp2
   exact List.prefix_iff_eq_take.2 hp2
  ·exfalso
   have h3:(s++[10]).take sg.length=s++[10]:=List.take_of_length_le (by simp;omega)
   rw[h3] at hp2
   exact h 10 (by rw[hp2];simp) rfl
 ·rintro⟨t,rfl⟩
  exact⟨t++[10],by simp⟩
theorem trim_feed {sg s:List UInt8} (h:∀ c∈sg,c≠10) (hp:sg.isPrefixOf s=true):Lib.trimPrefix (s++[10]) sg=s.drop sg.length++[10]:=by
 unfold Lib.trimPrefix
 rw[pre_feed h,if_pos hp,List.drop_append_of_le_length]
 exact (List.isPrefixOf_iff_prefix.1 hp).length_le
def thenL (m:List Mk) (X:Except (Nat × Int) (List Mk × Nat × List (List UInt8))):Except (Nat × Int) (List Mk × Nat × List (List UInt8)) :=
 match X with
 | .error e=>.error e
 | .ok (l,p1,r)=>.ok (m++l,p1,r)
theorem thenL_nil (X:Except (Nat × Int) (List Mk × Nat × List (List UInt8))):thenL [] X=X:=by
 unfold thenL
 rcases X with e | ⟨l,p,r⟩<;>rfl
theorem nxt_rest {p:Nat} {L r:List (List UInt8)} {s:List UInt8} (h:nxt p (L.drop p)=.ok (s,r)):r=L.drop (p+1)∧p<L.length∧∃ hp:p<L.length,L[p]=s++[10]:=by
 have h1:=nxt_ok h
 have hp:p<L.length:=by
  by_cases h2:p<L.length
  ·exact h2
  ·rw[List.drop_eq_nil_of_le (by omega)] at h1
   cases h1
 have h3:=List.drop_eq_getElem_cons hp
 rw[h3] at h1
 injection h1 with h4 h5
 exact⟨h5.symm,hp,hp,h4⟩
end

section
open Ln
structure Pth where
 old:List UInt8
 new:List UInt8
 hs:List Hk
def devN:List UInt8:=[47,100,101,118,47,110,117,108,108]
def nameC (c:UInt8):Bool:=decide (33≤c.toNat∧c.toNat≤126∧c.toNat≠34)
def nameT (s:List UInt8):List UInt8:=if s=[] then devN else if s.all nameC=true∧s≠devN then s else Q.quote s
def unN (s:List UInt8):Option (List UInt8):=if s=devN then some [] else if s.head?=some 34 then (match Q.unquote s with | some (t,[])=>some t | _=>none) else some s
def namedP (s:List UInt8):Option (List UInt8):=match unN s with
 | none=>none
 | some n=>if n.length≤64∧nameT n=s then some n else none
def spanT (p n:Int):List UInt8:=if n≤1 then Lib.itoa p else Lib.itoa p++44::Lib.itoa (p+n-1)
def anyS (sg:Int):List Mk→Bool
 | []=>false
 | m::l=>if m.sg=32 then false else decide (m.sg=sg) || anyS sg l
def sidL (sg:Int):Bool→Bool→List Mk→List (List UInt8)
 | _,_,[]=>[]
 | r,a,m::l=>if m.sg=32 then lnL [32,32] m.tx++sidL sg false false l
  else if m.sg=sg then lnL (if ((r || anyS 45 (m::l)) && (a || anyS 43 (m::l)))=true then [33,32] else [UInt8.ofNat sg.toNat,32]) m.tx++sidL sg (r || decide (m.sg=45)) (a || decide (m.sg=43)) l
  else sidL sg (r || decide (m.sg=45)) (a || decide (m.sg=43)) l
def sideL (sg:Int) (l:List Mk):List (List UInt8):=if (l.any fun m=>decide (m.sg=sg))=true then sidL sg false false l else []
def starsT:List UInt8:=[42,42,42,42,42,42,42,42,42,42,42,42,42,42,42]
def rlT (e:UInt8) (p n:Int):List UInt8:=[e,e,e,32]++spanT p n++[32,e,e,e,e,10]
def hkL (h:Hk):List (List UInt8):=(starsT++[10])::rlT 42 h.A h.AN::(sideL 45 h.ls++rlT 45 h.B h.BN::sideL 43 h.ls)
def ptL (p:Pth):List (List UInt8):=if p.hs=[] then [] else ([42,42,42,32]++nameT p.old++[10])::([45,45,45,32]++nameT p.new++[10])::p.hs.flatMap hkL
def wrgP (p:Pth):Int:=if 64<p.old.length∨64<p.new.length then 253 else if 4096<p.hs.length then 9 else errs p.hs
def ptT (p:Pth):List UInt8:=if wrgP p=0 then (ptL p).flatten else []
def namP (ah:List UInt8) (p:Nat) (ls:List (List UInt8)):Except (Nat × Int) (List UInt8 × List (List UInt8)) :=
 match nxt p ls with
 | .error e=>.error e
 | .ok (s,r)=>if ah.isPrefixOf s=true then match namedP (s.drop 4) with
  | none=>.error (p+1,253)
  | some n=>.ok (n,r) else .error (p+1,3)
def rngI (s:List UInt8):Option (Int × Int):=if Pn.parseE s=0 then some (Pn.parseV s,-1) else lnsP s
def innR (e:UInt8) (s:List UInt8):Option (List UInt8):=if 9≤s.length∧s.take 4=[e,e,e,32]∧s.drop (s.length-5)=[32,e,e,e,e] then some ((s.drop 4).take (s.length-9)) else none
def rngP (e:UInt8) (p:Nat) (ls:List (List UInt8)):Except (Nat × Int) ((Int × Int) × List (List UInt8)) :=
 match nxt p ls with
 | .error x=>.error x
 | .ok (s,r)=>match innR e s with
  | none=>.error (p+1,3)
  | some t=>match rngI t with
   | none=>.error (p+1,3)
   | some q=>.ok (q,r)
def isSd (sg:UInt8):List UInt8→Bool
 | a::b::_=>(a == 32 || a == sg || a == 33) && b == 32
 | _=>false
def rdS (sg:UInt8):Nat→List (List UInt8)→Except (Nat × Int) (List (UInt8 × List UInt8) × Nat × List (List UInt8))
 | p,[]=>.ok ([],p,[])
 | p,s::r=>if isSd sg s=true then if fdB s=true then if pkM r=true∧3<s.length then .ok ([(s.headD 0,(s.drop 2).dropLast)],p+2,r.tail) else match rdS sg (p+1) r with
   | .error e=>.error e
   | .ok (l,p2,r2)=>.ok ((s.headD 0,s.drop 2)::l,p2,r2)
  else .error (p+1,3) else .ok ([],p,s::r)
abbrev Sde:=List (UInt8 × List UInt8)
def keptS (x:Sde):Sde:=x.filter fun y=>y.1 == 32
def sameS (x:Sde):Bool:=x.all fun y=>y.1 == 32
def chgS (x:Sde):Sde:=x.takeWhile fun y=>y.1 != 32
def rstS (x:Sde):Sde:=x.dropWhile fun y=>y.1 != 32
def allS (k:UInt8) (x:Sde):Bool:=x.all fun y=>y.1 == k
def okJ (x y:Sde):Bool:=if x≠[]∧y≠[] then allS 33 x && allS 33 y else allS 45 x && allS 43 y
def mkS (s:Int) (x:Sde):List Mk:=x.map fun y=>⟨s,y.2⟩
def jnS:Nat→Sde→Sde→Option (List Mk)
 | 0,_,_=>none
 | f+1,o,w=>if okJ (chgS o) (chgS w)=true then match rstS o,rstS w with
   | [],[]=>some (mkS 45 (chgS o)++mkS 43 (chgS w))
   | (_,s)::o2,(_,t)::w2=>if s=t then match jnS f o2 w2 with
    | none=>none
    | some l=>some (mkS 45 (chgS o)++(mkS 43 (chgS w)++⟨32,s⟩::l)) else none
   | _,_=>none
  else none
def cntS (n:Int) (x:Sde):Bool:=decide (n<0∧1<x.length∨0≤n∧n≠x.length)
def oldF (o w:Sde):Sde:=if o=[] then keptS w else o
def newF (o w:Sde):Sde:=if o≠[]∧w=[] then keptS o else w
def finH (at0 ato atw:Nat) (po no pw nw:Int) (o w:Sde):Except (Nat × Int) Hk :=
 if sameS o=true∧sameS w=true then .error (at0,50) else
 if cntS no (oldF o w)=true then .error (ato,120) else
 if cntS nw (newF o w)=true then .error (atw,120) else
 if po=0∧oldF o w≠[] then .error (ato,2) else
 if pw=0∧newF o w≠[] then .error (atw,2) else
 match jnS ((oldF o w).length+1) (oldF o w) (newF o w) with
 | none=>.error (at0,190)
 | some l=>.ok ⟨po,(oldF o w).length,pw,(newF o w).length,l⟩
def isSt (s:List UInt8):Bool:=starsT.isPrefixOf s && ((s.drop 15).isEmpty || (s.drop 15).head? == some 32)
def cxH (k p:Nat) (ls:List (List UInt8)):Except (Nat × Int) (Hk × Nat × List (List UInt8)) :=
 match nxt p ls with
 | .error e=>.error e
 | .ok (s,r)=>if isSt s=true then if 4096≤k then .error (p+1,9) else match rngP 42 (p+1) r with
  | .error e=>.error e
  | .ok ((po,no),r1)=>match rdS 45 (p+2) r1 with
   | .error e=>.error e
   | .ok (o,p2,r2)=>match rngP 45 p2 r2 with
    | .error e=>.error e
    | .ok ((pw,nw),r3)=>match rdS 43 (p2+1) r3 with
     | .error e=>.error e
     | .ok (w,p4,r4)=>match finH (p+1) (p+2) (p2+1) po no pw nw o w with
      | .error e=>.error e
      | .ok h=>.ok (h,p4,r4)
  else .error (p+1,3)
def pkS:List (List UInt8)→Bool
 | []=>false
 | s::_=>starsT.isPrefixOf s
def cxHs:Nat→Nat→Nat→List (List UInt8)→Except (Nat × Int) (List Hk × Nat × List (List UInt8))
 | 0,_,p,_=>.error (p+1,1)
 | f+1,k,p,ls=>match cxH k p ls with
  | .error e=>.error e
  | .ok (h,p1,r)=>if pkS r=true then match cxHs f (k+1) p1 r with
    | .error e=>.error e
    | .ok (l,p2,r2)=>.ok (h::l,p2,r2)
   else .ok ([h],p1,r)
def cxPs:Nat→Nat→Nat→List (List UInt8)→Except (Nat × Int) (List Pth)
 | 0,_,_,_=>.ok []
 | f+1,k,p,ls=>if ls=[] then .ok [] else match namP [42,42,42,32] p ls with
  | .error e=>.error e
  | .ok (n1,r1)=>if 64≤k then .error (p+1,9) else match namP [45,45,45,32] (p+1) r1 with
   | .error e=>.error e
   | .ok (n2,r2)=>match cxHs (r2.length+1) 0 (p+2) r2 with
    | .error e=>.error e
    | .ok (hs,p3,r3)=>match cxPs f (k+1) p3 r3 with
     | .error e=>.error e
     | .ok l=>.ok (⟨n1,n2,hs⟩::l)
def cxT (t:List UInt8):Except (Nat × Int) (List Pth):=if 1048576<t.length then .error (0,9) else cxPs (splitL t).length 0 0 (splitL t)
/- names -/
theorem quote_head (s:List UInt8):(Q.quote s).head?=some 34:=by simp[Q.quote]
theorem quote_dev (s:List UInt8):Q.quote s≠devN:=by
 intro h
 have:=congrArg List.head? h
 rw[quote_head] at this
 exact absurd this (by decide)
theorem name_un (n:List UInt8):unN (nameT n)=some n:=by
 unfold nameT
 split
 ·rename_i h
  subst h
  rfl
 ·split
  ·rename_i h0 h
   unfold unN
   rw[if_neg h.2,if_neg ?_]
   cases n with
   | nil=>exact absurd rfl h0
   | cons c t =>
    intro hq
    simp only[List.head?_cons,Option.some.injEq] at hq
    have:=List.all_eq_true.1 h.1 c (by simp)
    rw[hq] at this
    exact absurd this (by decide)
  ·unfold unN
   rw[if_neg (quote_dev n),if_pos (quote_head n)]
   have:=unquote_back n []
   rw[List.append_nil] at this
   rw[this]
theorem named_iff (s n:List UInt8):namedP s=some n↔s=nameT n∧n.length≤64:=by
 constructor
 ·intro h
  unfold namedP at h
  split at h
  ·cases h
  ·split at h
   ·rename_i hq
    cases h
    exact⟨hq.2.symm,hq.1⟩
   ·cases h
 ·rintro⟨rfl,h⟩
  unfold namedP
  rw[name_un]
  show (if n.length≤64∧nameT n=nameT n then some n else none)=some n
  rw[if_pos ⟨h,rfl⟩]
theorem nameC_ne {c:UInt8} (h:nameC c=true):c≠10:=by
 intro e
 subst e
 exact absurd h (by decide)
theorem name_plain (n:List UInt8):∀ c∈nameT n,c≠10:=by
 unfold nameT
 split
 ·decide
 ·split
  ·rename_i h
   intro c hc
   exact nameC_ne (List.all_eq_true.1 h.1 c hc)
  ·intro c hc e
   subst e
   have:=(quote_print n 10 hc).1
   exact absurd this (by decide)
/- ranges -/
theorem span_plain {p n:Int} (hp:0≤p):∀ c∈spanT p n,numC c=true:=by
 unfold spanT
 split
 ·intro c hc
  simp[numC,itoa_dig hp c hc]
 ·intro c hc
  rcases List.mem_append.1 hc with hc | hc
  ·simp[numC,itoa_dig hp c hc]
  ·rcases List.mem_cons.1 hc with rfl | hc
   ·decide
   ·simp[numC,itoa_dig (by omega) c hc]
def sayN (n:Int):Int:=if n≤1 then -1 else n
theorem not_num {x y:List UInt8}:Pn.parseE (x++44::y)≠0:=by
 have h:Pn.isNum (x++44::y)=false:=by
  refine Pn.isNum_bad x.length (by simp) ?_
  simp
 unfold Pn.parseE
 rw[if_neg (by rw[h];decide)]
 decide
theorem span_back {p n:Int} (hp:0≤p) (h1:2≤n→1≤p) (hb:p≤2147483647) (h2:2≤n→p+n-1≤2147483647):rngI (spanT p n)=some (p,sayN n):=by
 unfold spanT sayN rngI
 by_cases h:n≤1
 ·rw[if_pos h,if_pos h]
  obtain⟨e1,e2⟩:=parse_itoa_ok hp hb
  rw[if_pos e2,e1]
 ·rw[if_neg h,if_neg h,if_neg not_num]
  have:=lnsP_rng (p:=p-1) (n:=n) (by have:=h1 (by omega);omega) (by omega) (by have:=h2 (by omega);omega)
  unfold rngT at this
  rw[if_neg (by omega)] at this
  have e1:p-1+1=p:=by omega
  have e2:p-1+n=p+n-1:=by omega
  rw[e1,e2] at this
  exact this
theorem inn_back (e:UInt8) (t:List UInt8):innR e ([e,e,e,32]++t++[32,e,e,e,e])=some t:=by
 unfold innR
 have hl:([e,e,e,32]++t++[32,e,e,e,e]).length=t.length+9:=by simp
 rw[if_pos]
 ·rw[hl]
  simp
 ·refine⟨by omega,by simp,?_⟩
  rw[hl]
  have:t.length+9-5=([e,e,e,32]++t).length:=by simp
  rw[this,List.drop_left]
theorem rl_back {e:UInt8} (p:Nat) {q n:Int} (hp:0≤q) (h1:2≤n→1≤q) (hb:q≤2147483647) (h2:2≤n→q+n-1≤2147483647) (r:List (List UInt8)):rngP e p (rlT e q n::r)=.ok ((q,sayN n),r):=by
 have e1:rlT e q n=([e,e,e,32]++spanT q n++[32,e,e,e,e])++[10]:=by simp[rlT]
 unfold rngP
 rw[e1]
 simp only[nxt,fd_snoc,if_true,List.dropLast_concat]
 rw[inn_back]
 simp only
 rw[span_back hp h1 hb h2]
end

section
open Ln
def kdS (sg:Int) (b:Bool):UInt8:=if b=true then 33 else UInt8.ofNat sg.toNat
def sdK (sg:Int):Bool→Bool→List Mk→Sde
 | _,_,[]=>[]
 | r,a,m::l=>if m.sg=32 then (32,m.tx)::sdK sg false false l
  else if m.sg=sg then (kdS sg ((r || anyS 45 (m::l)) && (a || anyS 43 (m::l))),m.tx)::sdK sg (r || decide (m.sg=45)) (a || decide (m.sg=43)) l
  else sdK sg (r || decide (m.sg=45)) (a || decide (m.sg=43)) l
def sdL (x:Sde):List (List UInt8):=x.flatMap fun y=>lnL [y.1,32] y.2
theorem sid_sd (sg:Int) (l:List Mk):∀ r a,sidL sg r a l=sdL (sdK sg r a l):=by
 induction l with
 | nil=>intro r a;rfl
 | cons m l ih =>
  intro r a
  simp only[sidL,sdK]
  split
  ·rw[ih];rfl
  ·split
   ·rw[ih]
    simp only[sdL,List.flatMap_cons,kdS]
    split<;>rfl
   ·exact ih _ _
theorem sd_texts {sg no:Int} (hs:sg=45∧no=43∨sg=43∧no=45) (l:List Mk) (hl:∀ m∈l,okS m.sg=true):∀ r a,(sdK sg r a l).map (·.2)=pkL no l:=by
 induction l with
 | nil=>intro r a;rfl
 | cons m l ih =>
  intro r a
  have hi:=ih fun x hx=>hl x (by simp[hx])
  have hm:=hl m (by simp)
  have hc:m.sg=32∨m.sg=45∨m.sg=43:=by simp[okS] at hm;omega
  simp only[sdK,pkL]
  by_cases h1:m.sg=32
  ·rw[if_pos h1,if_pos ⟨by omega,hm⟩,List.map_cons,hi]
  ·rw[if_neg h1]
   by_cases h2:m.sg=sg
   ·rw[if_pos h2,if_pos ⟨by omega,hm⟩,List.map_cons,hi]
   ·rw[if_neg h2,if_neg (fun q=>q.1 (by omega)),hi]
theorem sd_kinds {sg:Int} (l:List Mk):∀ r a,∀ y∈sdK sg r a l,y.1=32∨y.1=UInt8.ofNat sg.toNat∨y.1=33:=by
 induction l with
 | nil=>intro r a y hy;cases hy
 | cons m l ih =>
  intro r a y hy
  simp only[sdK] at hy
  split at hy
  ·rcases List.mem_cons.1 hy with rfl | hy
   ·exact .inl rfl
   ·exact ih _ _ y hy
  ·split at hy
   ·rcases List.mem_cons.1 hy with rfl | hy
    ·simp only[kdS]
     split
     ·exact .inr (.inr rfl)
     ·exact .inr (.inl rfl)
    ·exact ih _ _ y hy
   ·exact ih _ _ y hy
def Beh (sg:UInt8) (rest:List (List UInt8)):Prop:=pkM rest=false∧∀ s r,rest=s::r→isSd sg s=false
theorem pkM_first {s:List UInt8} {r:List (List UInt8)} {c:UInt8} {t:List UInt8} (h:s=c::t) (hc:c≠92):pkM (s::r)=false:=by
 subst h
 simp only[pkM,markT,List.isPrefixOf,Bool.and_eq_false_iff]
 exact .inl (by simpa using fun q=>hc q.symm)
theorem sdL_first {x:Sde} {rest:List (List UInt8)} (hx:∀ y∈x,y.1≠92) (hr:pkM rest=false):pkM (sdL x++rest)=false:=by
 cases x with
 | nil=>exact hr
 | cons y x =>
  have h:=hx y (by simp)
  simp only[sdL,List.flatMap_cons,lnL]
  split
  ·exact pkM_first rfl h
  ·exact pkM_first rfl h
theorem rd_side {sg:UInt8} (hsg:sg≠92) (x:Sde):∀ (p:Nat) (rest:List (List UInt8)),(∀ y∈x,(y.1=32∨y.1=sg∨y.1=33)∧linB y.2=true)→abl (x.map (·.2))=true→Beh sg rest→rdS sg p (sdL x++rest)=.ok (x,p+(sdL x).length,rest):=by
 induction x with
 | nil =>
  intro p rest _ _ hb
  cases rest with
  | nil=>rfl
  | cons s r =>
   simp only[sdL,List.flatMap_nil,List.nil_append,rdS]
   rw[if_neg (by rw[hb.2 s r rfl];decide)]
   rfl
 | cons y x ih =>
  intro p rest hx ha hb
  obtain⟨hy,hlin⟩:=hx y (by simp)
  have hk92:∀ z∈x,z.1≠92:=by
   intro z hz e
   rcases (hx z (by simp[hz])).1 with h | h | h
   ·rw[h] at e;exact absurd e (by decide)
   ·rw[h] at e;exact hsg e
   ·rw[h] at e;exact absurd e (by decide)
  have hne:y.2≠[]:=by
   intro e
   rw[e] at hlin
   exact absurd hlin (by decide)
  have hsd:∀ t:List UInt8,isSd sg (y.1::32::t)=true:=by
   intro t
   simp only[isSd,Bool.and_eq_true,Bool.or_eq_true,beq_iff_eq]
   exact⟨by rcases hy with h | h | h<;>simp[h],trivial⟩
  simp only[List.map_cons,abl,Bool.and_eq_true,Bool.or_eq_true] at ha
  by_cases hf:fdB y.2=true
  ·have e1:sdL (y::x)++rest=(y.1::32::y.2)::(sdL x++rest):=by
    simp[sdL,lnL,hf]
   have e2:(sdL (y::x)).length=1+(sdL x).length:=by
    simp only[sdL,List.flatMap_cons,List.length_append]
    rw[lnL,if_pos hf]
    rfl
   have hfs:fdB (y.1::32::y.2)=true:=by
    unfold fdB at hf ⊢
    have:(y.1::32::y.2).getLast?=y.2.getLast?:=by
     cases hq:y.2 with
     | nil=>exact absurd hq hne
     | cons c t=>simp[List.getLast?_cons_cons]
    rw[this]
    exact hf
   rw[e1,e2]
   simp only[rdS]
   rw[if_pos (hsd _),if_pos hfs,if_neg (fun q=>by rw[sdL_first hk92 hb.1] at q;exact absurd q.1 (by decide)),ih (p+1) rest (fun z hz=>hx z (by simp[hz])) ha.2 hb]
   simp only[List.headD_cons,List.drop_succ_cons,List.drop_zero]
   congr 3
   omega
  ·have hx0:x=[]:=by
    rcases ha.1 with h | h
    ·simpa using h
    ·exact absurd h hf
   subst hx0
   have e1:sdL [y]++rest=(y.1::32::(y.2++[10]))::markT::rest:=by
    simp[sdL,lnL,hf]
   have e2:(sdL [y]).length=2:=by
    simp[sdL,lnL,hf]
   have hfs:fdB (y.1::32::(y.2++[10]))=true:=fd_snoc (y.1::32::y.2)
   have hl:0<y.2.length:=List.length_pos_iff.2 hne
   rw[e1,e2]
   simp only[rdS]
   rw[if_pos (hsd _),if_pos hfs,if_pos ⟨by simp[pkM],by simp only[List.length_cons,List.length_append];omega⟩]
   simp
theorem any_app {sg:Int} {R:List Mk} {s:Int} (hs:s≠32) (hR:AllS s R) (t:List Mk):anyS sg (R++t)=(decide (R≠[]∧s=sg) || anyS sg t):=by
 induction R with
 | nil=>simp
 | cons m R ih =>
  have hm:=hR m (by simp)
  have hi:=ih fun x hx=>hR x (by simp[hx])
  simp only[List.cons_append,anyS]
  rw[if_neg (by omega),hi,hm]
  by_cases h:s=sg<;>simp[h]
end

section
open Ln
def Pe (t:List Mk):Prop:=t=[]∨∃ m r,t=m::r∧m.sg=32
theorem any_pe {sg:Int} {t:List Mk} (h:Pe t):anyS sg t=false:=by
 rcases h with rfl | ⟨m,r,rfl,hm⟩
 ·rfl
 ·simp[anyS,hm]
theorem sdK_in {sg no:Int} (hs:sg=45∧no=43∨sg=43∧no=45) {R:List Mk} (hR:AllS sg R) (t:List Mk):∀ r a,sdK sg r a (R++t)=R.map (fun m=>(kdS sg (if sg=45 then a || anyS 43 t else r || anyS 45 t),m.tx))++sdK sg (r || decide (R≠[]∧sg=45)) (a || decide (R≠[]∧sg=43)) t:=by
 induction R with
 | nil=>intro r a;simp
 | cons m R ih =>
  intro r a
  have hm:=hR m (by simp)
  have hR2:AllS sg R:=fun x hx=>hR x (by simp[hx])
  have hi:=ih hR2
  simp only[List.cons_append,sdK,List.map_cons]
  rw[if_neg (by omega),if_pos hm,hi]
  have h1:anyS sg (m::(R++t))=true:=by
   simp only[anyS]
   rw[if_neg (by omega)]
   simp[hm]
  have h2:anyS no (m::(R++t))=anyS no t:=by
   simp only[anyS]
   rw[if_neg (by omega),any_app (by omega) hR2]
   have e1:decide (m.sg=no)=false:=decide_eq_false (by omega)
   have e2:decide (R≠[]∧sg=no)=false:=decide_eq_false (by omega)
   rw[e1,e2]
   simp
  rcases hs with ⟨rfl,rfl⟩ | ⟨rfl,rfl⟩
  ·rw[h1,h2,hm]
   cases r<;>cases a<;>simp
  ·rw[h1,h2,hm]
   cases r<;>cases a<;>simp
theorem sdK_out {sg no:Int} (hs:sg=45∧no=43∨sg=43∧no=45) {R:List Mk} (hR:AllS no R) (t:List Mk):∀ r a,sdK sg r a (R++t)=sdK sg (r || decide (R≠[]∧no=45)) (a || decide (R≠[]∧no=43)) t:=by
 induction R with
 | nil=>intro r a;simp
 | cons m R ih =>
  intro r a
  have hm:=hR m (by simp)
  have hi:=ih fun x hx=>hR x (by simp[hx])
  simp only[List.cons_append,sdK]
  rw[if_neg (by omega),if_neg (by omega),hi,hm]
  rcases hs with ⟨rfl,rfl⟩ | ⟨rfl,rfl⟩
  ·cases r<;>cases a<;>simp
  ·cases r<;>cases a<;>simp
theorem sdK_pe {sg:Int} {t:List Mk} (h:Pe t) (r a:Bool):sdK sg r a t=sdK sg false false t:=by
 rcases h with rfl | ⟨m,u,rfl,hm⟩
 ·rfl
 ·simp[sdK,hm]
theorem chg_app {X Y:Sde} (hX:∀ y∈X,y.1≠32) (hY:Y=[]∨∃ s Z,Y=(32,s)::Z):chgS (X++Y)=X∧rstS (X++Y)=Y:=by
 induction X with
 | nil =>
  rcases hY with rfl | ⟨s,Z,rfl⟩
  ·exact⟨rfl,rfl⟩
  ·exact⟨by simp[chgS],by simp[rstS]⟩
 | cons y X ih =>
  have h:=hX y (by simp)
  obtain⟨i1,i2⟩:=ih fun z hz=>hX z (by simp[hz])
  have hb:(y.1 != 32)=true:=by simpa using h
  constructor
  ·simp only[chgS,List.cons_append,List.takeWhile_cons,hb,if_true]
   exact congrArg _ i1
  ·simp only[rstS,List.cons_append,List.dropWhile_cons,hb,if_true]
   exact i2
theorem mkS_map {s:Int} {R:List Mk} (h:AllS s R) (k:UInt8):mkS s (R.map fun m=>(k,m.tx))=R:=by
 induction R with
 | nil=>rfl
 | cons m R ih =>
  have hm:=h m (by simp)
  have hi:=ih fun x hx=>h x (by simp[hx])
  simp only[mkS,List.map_cons,List.map_map] at hi ⊢
  rw[hi]
  cases m
  simp only at hm
  rw[hm]
theorem kds_ne {sg:Int} (hs:sg=45∨sg=43) (b:Bool):kdS sg b≠32:=by
 rcases hs with rfl | rfl<;>cases b<;>decide
theorem okJ_map (R A:List Mk):okJ (R.map fun m=>(kdS 45 (decide (A≠[])),m.tx)) (A.map fun m=>(kdS 43 (decide (R≠[])),m.tx))=true:=by
 unfold okJ
 cases R with
 | nil =>
  cases A with
  | nil=>rfl
  | cons b A =>
   rw[if_neg (by simp)]
   simp[allS,kdS]
 | cons m R =>
  cases A with
  | nil =>
   rw[if_neg (by simp)]
   simp[allS,kdS]
  | cons b A =>
   rw[if_pos (by simp)]
   simp[allS,kdS]
theorem jn_back (n:Nat):∀ (l:List Mk) (f:Nat),l.length≤n→Nf false l→(∀ m∈l,okS m.sg=true)→(sdK 45 false false l).length<f→jnS f (sdK 45 false false l) (sdK 43 false false l)=some l:=by
 induction n with
 | zero =>
  intro l f hn _ _ hf
  have:l=[]:=List.length_eq_zero_iff.1 (by omega)
  subst this
  cases f with
  | zero=>exact absurd hf (by omega)
  | succ f=>rfl
 | succ n ih =>
  intro l f hn hN ho hf
  obtain⟨R,A,t,rfl,hR,hA,ht⟩:=nf_false hN
  have hP:Pe t:=by
   rcases ht with h | ⟨m,r,h,h1,h2,_⟩
   ·exact .inl h
   ·refine .inr ⟨m,r,h,?_⟩
    have:=ho m (by simp[h])
    simp[okS] at this
    omega
  have e1:sdK 45 false false (R++(A++t))=R.map (fun m=>(kdS 45 (decide (A≠[])),m.tx))++sdK 45 false false t:=by
   rw[sdK_in (.inl ⟨rfl,rfl⟩) hR,sdK_out (.inl ⟨rfl,rfl⟩) hA,sdK_pe hP,any_app (by omega) hA,any_pe hP]
   simp
  have e2:sdK 43 false false (R++(A++t))=A.map (fun m=>(kdS 43 (decide (R≠[])),m.tx))++sdK 43 false false t:=by
   rw[sdK_out (.inr ⟨rfl,rfl⟩) hR,sdK_in (.inr ⟨rfl,rfl⟩) hA,sdK_pe hP]
   simp[any_pe hP]
  have hX:∀ y∈R.map (fun m=>(kdS 45 (decide (A≠[])),m.tx)),y.1≠32:=by
   intro y hy
   obtain⟨m,_,rfl⟩:=List.mem_map.1 hy
   exact kds_ne (.inl rfl) _
  have hY:∀ y∈A.map (fun m=>(kdS 43 (decide (R≠[])),m.tx)),y.1≠32:=by
   intro y hy
   obtain⟨m,_,rfl⟩:=List.mem_map.1 hy
   exact kds_ne (.inr rfl) _
  cases f with
  | zero=>exact absurd hf (by omega)
  | succ f =>
   rw[e1,e2]
   rw[e1] at hf
   rcases ht with rfl | ⟨m,r,rfl,h1,h2,hNr⟩
   ·obtain⟨c1,c2⟩:=chg_app hX (.inl rfl:([]:Sde)=[]∨_)
    obtain⟨c3,c4⟩:=chg_app hY (.inl rfl:([]:Sde)=[]∨_)
    simp only[sdK]
    rw[jnS,c1,c3,okJ_map,if_pos rfl,c2,c4]
    simp only
    rw[mkS_map hR,mkS_map hA]
    simp
   ·have hm:m.sg=32:=by
     have:=ho m (by simp)
     simp[okS] at this
     omega
    have s1:∀ sg,sdK sg false false (m::r)=(32,m.tx)::sdK sg false false r:=by
     intro sg
     simp[sdK,hm]
    rw[s1,s1]
    rw[s1] at hf
    obtain⟨c1,c2⟩:=chg_app hX (.inr ⟨m.tx,sdK 45 false false r,rfl⟩)
    obtain⟨c3,c4⟩:=chg_app hY (.inr ⟨m.tx,sdK 43 false false r,rfl⟩)
    rw[jnS,c1,c3,okJ_map,if_pos rfl,c2,c4]
    simp only[if_true]
    simp only[List.length_append,List.length_cons] at hn hf
    rw[ih r f (by omega) hNr (fun x hx=>ho x (by simp[hx])) (by omega)]
    simp only
    rw[mkS_map hR,mkS_map hA]
    cases m
    simp only at hm
    rw[hm]
theorem kept_sd {sg no:Int} (hs:sg=45∧no=43∨sg=43∧no=45) (l:List Mk) (ho:∀ m∈l,okS m.sg=true) (hn:(l.any fun m=>decide (m.sg=sg))=false):∀ r a r2 a2,keptS (sdK no r a l)=sdK sg r2 a2 l:=by
 induction l with
 | nil=>intro r a r2 a2;rfl
 | cons m l ih =>
  intro r a r2 a2
  simp only[List.any_cons,Bool.or_eq_false_iff,decide_eq_false_iff_not] at hn
  have hi:=ih (fun x hx=>ho x (by simp[hx])) hn.2
  have hm:=ho m (by simp)
  have hc:m.sg=32∨m.sg=45∨m.sg=43:=by simp[okS] at hm;omega
  simp only[sdK]
  by_cases h1:m.sg=32
  ·rw[if_pos h1,if_pos h1]
   have:=hi false false false false
   simp only[keptS] at this ⊢
   rw[List.filter_cons_of_pos (by rfl),this]
  ·rw[if_neg h1,if_neg h1,if_pos (by omega:m.sg=no),if_neg hn.1]
   have hk:=kds_ne (sg:=no) (by omega) ((r || anyS 45 (m::l)) && (a || anyS 43 (m::l)))
   have:=hi (r || decide (m.sg=45)) (a || decide (m.sg=43)) (r2 || decide (m.sg=45)) (a2 || decide (m.sg=43))
   simp only[keptS] at this ⊢
   rw[List.filter_cons_of_neg (by simpa using hk),this]
theorem sd_any {sg:Int} (l:List Mk) (hs:sg=45∨sg=43):∀ r a,sameS (sdK sg r a l)=!(l.any fun m=>decide (m.sg=sg)):=by
 induction l with
 | nil=>intro r a;rfl
 | cons m l ih =>
  intro r a
  simp only[sdK,List.any_cons]
  by_cases h1:m.sg=32
  ·have:decide (m.sg=sg)=false:=decide_eq_false (by omega)
   rw[if_pos h1,this]
   have:=ih false false
   simp only[sameS] at this ⊢
   simp[this]
  ·rw[if_neg h1]
   by_cases h2:m.sg=sg
   ·have hk:=kds_ne hs ((r || anyS 45 (m::l)) && (a || anyS 43 (m::l)))
    rw[if_pos h2,decide_eq_true h2]
    simp only[sameS,List.all_cons]
    have:(kdS sg ((r || anyS 45 (m::l)) && (a || anyS 43 (m::l))) == 32)=false:=by simpa using hk
    rw[this]
    rfl
   ·rw[if_neg h2,decide_eq_false h2]
    have:=ih (r || decide (m.sg=45)) (a || decide (m.sg=43))
    rw[this]
    simp
end

section
open Ln
structure Gh (h:Hk):Prop where
 chk:chkH h=0
 nf:Nf false h.ls
 ea:2≤h.AN→h.A+h.AN-1≤2147483647
 eb:2≤h.BN→h.B+h.BN-1≤2147483647
theorem chk_out {h:Hk} (hc:chkH h=0):rngB h=true∧fldB h.ls=true∧h.AN=(oldL h).length∧h.BN=(newL h).length∧(h.ls.all fun m=>decide (m.sg=32))=false:=by
 unfold chkH at hc
 split at hc
 ·cases hc
 ·rename_i h1
  split at hc
  ·cases hc
  ·rename_i h2
   split at hc
   ·cases hc
   ·rename_i h3
    split at hc
    ·cases hc
    ·rename_i h4
     refine⟨by simpa using h1,by simpa using h2,?_,?_,by simpa using h4⟩<;>omega
theorem rng_out {h:Hk} (hr:rngB h=true):0≤h.A∧h.A≤2147483647∧0≤h.AN∧0≤h.B∧h.B≤2147483647∧0≤h.BN∧(h.A=0→h.AN≤0)∧(h.B=0→h.BN≤0):=by
 simp[rngB,nat31] at hr
 omega
def sdF (sg:Int) (l:List Mk):Sde:=if (l.any fun m=>decide (m.sg=sg))=true then sdK sg false false l else []
theorem side_sd (sg:Int) (l:List Mk):sideL sg l=sdL (sdF sg l):=by
 unfold sideL sdF
 split
 ·exact sid_sd sg l false false
 ·rfl
theorem same_ne {x:Sde} (h:sameS x=false):x≠[]:=by
 intro e
 subst e
 cases h
theorem cx_pk {no:Int} {l:List Mk} {t:List UInt8} (h:t∈pkL no l):∃ m∈l,m.tx=t:=by
 induction l with
 | nil=>cases h
 | cons m l ih =>
  simp only[pkL] at h
  split at h
  ·rcases List.mem_cons.1 h with h | h
   ·exact⟨m,by simp,h.symm⟩
   ·obtain⟨x,hx,e⟩:=ih h
    exact⟨x,by simp[hx],e⟩
  ·obtain⟨x,hx,e⟩:=ih h
   exact⟨x,by simp[hx],e⟩
theorem rd_sdF {sg no:Int} {c:UInt8} (hc:UInt8.ofNat sg.toNat=c) (h92:c≠92) (hs:sg=45∧no=43∨sg=43∧no=45) {l:List Mk} (hl:∀ m∈l,linB m.tx=true∧okS m.sg=true) (ha:abl (pkL no l)=true) (p:Nat) {rest:List (List UInt8)} (hb:Beh c rest):rdS c p (sideL sg l++rest)=.ok (sdF sg l,p+(sideL sg l).length,rest):=by
 rw[side_sd]
 refine rd_side h92 (sdF sg l) p rest ?_ ?_ hb
 ·intro y hy
  unfold sdF at hy
  split at hy
  ·refine⟨?_,?_⟩
   ·have:=sd_kinds l false false y hy
    rw[hc] at this
    exact this
   ·have h1:y.2∈(sdK sg false false l).map (·.2):=List.mem_map.2 ⟨y,hy,rfl⟩
    rw[sd_texts hs l (fun m hm=>(hl m hm).2)] at h1
    obtain⟨m,hm,e⟩:=cx_pk h1
    rw[← e]
    exact (hl m hm).1
  ·cases hy
 ·unfold sdF
  split
  ·rw[sd_texts hs l (fun m hm=>(hl m hm).2)]
   exact ha
  ·rfl
theorem cx_fill {l:List Mk} (ho:∀ m∈l,okS m.sg=true) (hn:(l.all fun m=>decide (m.sg=32))=false):oldF (sdF 45 l) (sdF 43 l)=sdK 45 false false l∧newF (sdF 45 l) (sdF 43 l)=sdK 43 false false l∧¬ (sameS (sdF 45 l)=true∧sameS (sdF 43 l)=true):=by
 have k45:=sd_any (sg:=45) l (.inl rfl) false false
 have k43:=sd_any (sg:=43) l (.inr rfl) false false
 cases h45:l.any fun m=>decide (m.sg=45) with
 | true =>
  rw[h45] at k45
  have hne:=same_ne (x:=sdK 45 false false l) (by rw[k45];rfl)
  have e:sdF 45 l=sdK 45 false false l:=by unfold sdF;rw[if_pos h45]
  rw[e]
  refine⟨by unfold oldF;rw[if_neg hne],?_,fun q=>by rw[k45] at q;exact absurd q.1 (by decide)⟩
  cases h43:l.any fun m=>decide (m.sg=43) with
  | true =>
   rw[h43] at k43
   have hne2:=same_ne (x:=sdK 43 false false l) (by rw[k43];rfl)
   have e2:sdF 43 l=sdK 43 false false l:=by unfold sdF;rw[if_pos h43]
   rw[e2]
   unfold newF
   rw[if_neg (fun q=>hne2 q.2)]
  | false =>
   have e2:sdF 43 l=[]:=by unfold sdF;rw[if_neg (by rw[h43];decide)]
   rw[e2]
   unfold newF
   rw[if_pos ⟨hne,rfl⟩]
   exact kept_sd (.inr ⟨rfl,rfl⟩) l ho h43 _ _ _ _
 | false =>
  have h43:(l.any fun m=>decide (m.sg=43))=true:=by
   cases h43:l.any fun m=>decide (m.sg=43) with
   | true=>rfl
   | false =>
    exfalso
    have:(l.all fun m=>decide (m.sg=32))=true:=by
     rw[List.all_eq_true]
     intro m hm
     have h1:=ho m hm
     have h2:=List.any_eq_false.1 h45 m hm
     have h3:=List.any_eq_false.1 h43 m hm
     simp[okS] at h1 h2 h3 ⊢
     omega
    rw[this] at hn
    cases hn
  rw[h43] at k43
  have e:sdF 45 l=[]:=by unfold sdF;rw[if_neg (by rw[h45];decide)]
  have e2:sdF 43 l=sdK 43 false false l:=by unfold sdF;rw[if_pos h43]
  rw[e,e2]
  refine⟨?_,by unfold newF;rw[if_neg (fun q=>q.1 rfl)],fun q=>by rw[k43] at q;exact absurd q.2 (by decide)⟩
  unfold oldF
  rw[if_pos rfl]
  exact kept_sd (.inl ⟨rfl,rfl⟩) l ho h45 _ _ _ _
theorem cnt_say {n:Int} {x:Sde} (h:n=x.length):cntS (sayN n) x=false:=by
 unfold cntS sayN
 refine decide_eq_false ?_
 split<;>omega
theorem rl_beh {sg e:UInt8} {p n:Int} (he:e≠92) (h32:e≠32) (r:List (List UInt8)):Beh sg (rlT e p n::r):=by
 refine⟨pkM_first (t:=e::e::32::(spanT p n++[32,e,e,e,e,10])) (by simp[rlT]) he,?_⟩
 intro s q hq
 cases hq
 have:rlT e p n=e::e::(e::32::(spanT p n++[32,e,e,e,e,10])):=by simp[rlT]
 rw[this]
 simp[isSd,h32]
theorem nxt_feed {s:List UInt8} (p:Nat) (r:List (List UInt8)):nxt p ((s++[10])::r)=.ok (s,r):=by
 simp only[nxt,fd_snoc,if_true,List.dropLast_concat]
theorem cxh_back {h:Hk} (g:Gh h) {k:Nat} (hk:k<4096) (p:Nat) {rest:List (List UInt8)} (hb:Beh 43 rest):cxH k p (hkL h++rest)=.ok (h,p+(hkL h).length,rest):=by
 obtain⟨c1,c2,c3,c4,c5⟩:=chk_out g.chk
 obtain⟨r1,r2,r3,r4,r5,r6,r7,r8⟩:=rng_out c1
 obtain⟨f1,f2,f3⟩:=(fld_iff h.ls).1 c2
 obtain⟨q1,q2,q3⟩:=cx_fill (fun m hm=>(f1 m hm).2) c5
 have l1:(sdK 45 false false h.ls).length=(oldL h).length:=by
  have:=congrArg List.length (sd_texts (.inl ⟨rfl,rfl⟩) h.ls (fun m hm=>(f1 m hm).2) false false)
  rw[List.length_map] at this
  exact this
 have l2:(sdK 43 false false h.ls).length=(newL h).length:=by
  have:=congrArg List.length (sd_texts (.inr ⟨rfl,rfl⟩) h.ls (fun m hm=>(f1 m hm).2) false false)
  rw[List.length_map] at this
  exact this
 have e0:hkL h++rest=(starsT++[10])::rlT 42 h.A h.AN::(sideL 45 h.ls++(rlT 45 h.B h.BN::(sideL 43 h.ls++rest))):=by
  simp[hkL]
 have e1:(hkL h).length=3+(sideL 45 h.ls).length+(sideL 43 h.ls).length:=by
  simp only[hkL,List.length_cons,List.length_append]
  omega
 have hfin:finH (p+1) (p+2) (p+2+(sideL 45 h.ls).length+1) h.A (sayN h.AN) h.B (sayN h.BN) (sdF 45 h.ls) (sdF 43 h.ls)=.ok h:=by
  unfold finH
  rw[if_neg q3,q1,q2]
  rw[if_neg (by rw[cnt_say (by omega)];decide),if_neg (by rw[cnt_say (by omega)];decide)]
  rw[if_neg,if_neg]
  ·rw[jn_back h.ls.length h.ls _ (Nat.le_refl _) g.nf (fun m hm=>(f1 m hm).2) (by omega)]
   simp only
   have a1:((sdK 45 false false h.ls).length:Int)=h.AN:=by omega
   have a2:((sdK 43 false false h.ls).length:Int)=h.BN:=by omega
   rw[a1,a2]
  ·rintro⟨x,y⟩
   have:=List.length_pos_iff.2 y
   have:=r8 x
   omega
  ·rintro⟨x,y⟩
   have:=List.length_pos_iff.2 y
   have:=r7 x
   omega
 unfold cxH
 rw[e0,nxt_feed]
 simp only
 rw[if_pos (by decide),if_neg (by omega)]
 rw[rl_back (p+1) r1 (fun x=>by omega) r2 g.ea]
 simp only
 rw[rd_sdF (c:=45) rfl (by decide) (.inl ⟨rfl,rfl⟩) f1 f2 (p+2) (rl_beh (by decide) (by decide) _)]
 simp only
 rw[rl_back _ r4 (fun x=>by omega) r5 g.eb]
 simp only
 rw[rd_sdF (c:=43) rfl (by decide) (.inr ⟨rfl,rfl⟩) f1 f3 _ hb]
 simp only
 rw[hfin]
 simp only
 rw[e1]
 congr 3
 omega
end

section
open Ln
structure Gp (p:Pth):Prop where
 ne:p.hs≠[]
 old:p.old.length≤64
 new:p.new.length≤64
 few:p.hs.length≤4096
 gd:∀ h∈p.hs,Gh h
theorem stars_beh {sg:UInt8} (h:Hk) (r:List (List UInt8)):Beh sg (hkL h++r):=by
 refine⟨rfl,?_⟩
 intro s q hq
 simp only[hkL,List.cons_append,List.cons.injEq] at hq
 rw[← hq.1]
 simp[starsT,isSd]
theorem cxhs_back (hs:List Hk):∀ (f k p:Nat) (rest:List (List UInt8)),hs≠[]→(∀ h∈hs,Gh h)→k+hs.length≤4096→hs.length≤f→Beh 43 rest→pkS rest=false→cxHs f k p (hs.flatMap hkL++rest)=.ok (hs,p+(hs.flatMap hkL).length,rest):=by
 induction hs with
 | nil=>intro f k p rest h;exact absurd rfl h
 | cons h hs ih =>
  intro f k p rest _ hg hk hf hb hr
  cases f with
  | zero=>exact absurd hf (by simp)
  | succ f =>
   simp only[List.length_cons] at hk hf
   have hgh:=hg h (by simp)
   simp only[List.flatMap_cons,List.append_assoc,cxHs]
   cases hs with
   | nil =>
    simp only[List.flatMap_nil,List.nil_append,List.append_nil]
    rw[cxh_back hgh (by omega) p hb]
    simp only
    rw[if_neg (by rw[hr];decide)]
   | cons h2 hs =>
    have hi:=ih f (k+1) (p+(hkL h).length) rest (by simp) (fun x hx=>hg x (by simp[hx])) (by omega) (by omega) hb hr
    have hb2:Beh 43 ((h2::hs).flatMap hkL++rest):=by
     rw[List.flatMap_cons,List.append_assoc]
     exact stars_beh h2 _
    rw[cxh_back hgh (by omega) p hb2]
    simp only
    have hp:pkS ((h2::hs).flatMap hkL++rest)=true:=rfl
    rw[if_pos hp,hi]
    simp only[List.length_append]
    congr 3
    omega
theorem name_back {ah n:List UInt8} (hn:n.length≤64) (h4:ah.length=4) (p:Nat) (r:List (List UInt8)):namP ah p ((ah++nameT n++[10])::r)=.ok (n,r):=by
 unfold namP
 rw[nxt_feed]
 simp only
 rw[if_pos (by rw[List.isPrefixOf_iff_prefix];exact List.prefix_append _ _)]
 have:(ah++nameT n).drop 4=nameT n:=by rw[← h4,List.drop_left]
 rw[this,(named_iff (nameT n) n).2 ⟨rfl,hn⟩]
theorem pt_lines {p:Pth} (h:p.hs≠[]):ptL p=([42,42,42,32]++nameT p.old++[10])::([45,45,45,32]++nameT p.new++[10])::p.hs.flatMap hkL:=by
 unfold ptL
 rw[if_neg h]
theorem pts_beh {L:List Pth} (h:∀ p∈L,Gp p):Beh 43 (L.flatMap ptL)∧pkS (L.flatMap ptL)=false:=by
 cases L with
 | nil=>exact⟨⟨rfl,fun s r q=>by cases q⟩,rfl⟩
 | cons p L =>
  rw[List.flatMap_cons,pt_lines (h p (by simp)).ne]
  refine⟨⟨rfl,?_⟩,rfl⟩
  intro s r q
  simp only[List.cons_append,List.cons.injEq] at q
  rw[← q.1]
  simp[isSd]
theorem hk_few (hs:List Hk):hs.length≤(hs.flatMap hkL).length:=by
 induction hs with
 | nil=>exact Nat.le_refl _
 | cons h hs ih =>
  simp only[List.flatMap_cons,List.length_append,List.length_cons]
  have:1≤(hkL h).length:=by simp[hkL]
  omega
theorem cxps_back (L:List Pth):∀ (f k p:Nat),(∀ q∈L,Gp q)→k+L.length≤64→L.length≤f→cxPs f k p (L.flatMap ptL)=.ok L:=by
 induction L with
 | nil =>
  intro f k p _ _ _
  cases f with
  | zero=>rfl
  | succ f=>rfl
 | cons q L ih =>
  intro f k p hg hk hf
  cases f with
  | zero=>exact absurd hf (by simp)
  | succ f =>
   have g:=hg q (by simp)
   have hg2:∀ x∈L,Gp x:=fun x hx=>hg x (by simp[hx])
   simp only[List.length_cons] at hk hf
   simp only[List.flatMap_cons,cxPs]
   rw[pt_lines g.ne]
   rw[if_neg (by simp)]
   simp only[List.cons_append]
   have n1:=name_back (ah:=[42,42,42,32]) g.old rfl p (([45,45,45,32]++nameT q.new++[10])::(q.hs.flatMap hkL++L.flatMap ptL))
   have n2:=name_back (ah:=[45,45,45,32]) g.new rfl (p+1) (q.hs.flatMap hkL++L.flatMap ptL)
   simp only[List.cons_append,List.nil_append] at n1 n2 ⊢
   rw[n1]
   simp only
   rw[if_neg (by omega),n2]
   simp only
   obtain⟨b1,b2⟩:=pts_beh hg2
   rw[cxhs_back q.hs _ 0 (p+2) _ g.ne g.gd (by have:=g.few;omega) (by have:=hk_few q.hs;simp only[List.length_append];omega) b1 b2]
   simp only
   rw[ih f (k+1) _ hg2 (by omega) (by omega)]
theorem fed_app {x y:List (List UInt8)} (hx:Fed x) (hy:Fed y):Fed (x++y):=fun s hs=>(List.mem_append.1 hs).elim (hx s) (hy s)
theorem fed_cons {t:List UInt8} {y:List (List UInt8)} (ht:∀ c∈t,c≠10) (hy:Fed y):Fed ((t++[10])::y):=by
 intro s hs
 rcases List.mem_cons.1 hs with rfl | hs
 ·exact⟨t,rfl,ht⟩
 ·exact hy s hs
theorem fed_nil:Fed []:=fun s hs=>by cases hs
theorem fed_side {sg:Int} (h10:UInt8.ofNat sg.toNat≠10) {l:List Mk} (hl:∀ m∈l,linB m.tx=true):Fed (sideL sg l):=by
 have h:∀ r a,Fed (sidL sg r a l):=by
  induction l with
  | nil=>intro r a;exact fed_nil
  | cons m l ih =>
   intro r a
   have hi:=ih fun x hx=>hl x (by simp[hx])
   have hm:=hl m (by simp)
   simp only[sidL]
   split
   ·exact fed_app (fed_line (by decide) hm) (hi _ _)
   ·split
    ·refine fed_app (fed_line ?_ hm) (hi _ _)
     split
     ·decide
     ·intro c hc
      rcases List.mem_cons.1 hc with rfl | hc
      ·exact h10
      ·rw[List.mem_singleton.1 hc]
       decide
    ·exact hi _ _
 unfold sideL
 split
 ·exact h _ _
 ·exact fed_nil
theorem fed_rl {e:UInt8} (he:e≠10) {p n:Int} (hp:0≤p) {y:List (List UInt8)} (hy:Fed y):Fed (rlT e p n::y):=by
 have e1:rlT e p n=([e,e,e,32]++spanT p n++[32,e,e,e,e])++[10]:=by simp[rlT]
 rw[e1]
 refine fed_cons ?_ hy
 intro c hc
 rcases List.mem_append.1 hc with hc | hc
 ·rcases List.mem_append.1 hc with hc | hc
  ·simp only[List.mem_cons,List.not_mem_nil,or_false] at hc
   rcases hc with rfl | rfl | rfl | rfl
   ·exact he
   ·exact he
   ·exact he
   ·decide
  ·exact (num_facts (span_plain hp c hc)).2.1
 ·simp only[List.mem_cons,List.not_mem_nil,or_false] at hc
  rcases hc with rfl | rfl | rfl | rfl | rfl
  ·decide
  ·exact he
  ·exact he
  ·exact he
  ·exact he
theorem fed_hk {h:Hk} (g:Gh h):Fed (hkL h):=by
 obtain⟨c1,c2,c3,c4,c5⟩:=chk_out g.chk
 obtain⟨r1,r2,r3,r4,r5,r6,r7,r8⟩:=rng_out c1
 have f1:=((fld_iff h.ls).1 c2).1
 unfold hkL
 refine fed_cons (by decide) (fed_rl (by decide) r1 (fed_app (fed_side (by decide) fun m hm=>(f1 m hm).1) (fed_rl (by decide) r4 (fed_side (by decide) fun m hm=>(f1 m hm).1))))
theorem fed_pts {L:List Pth} (h:∀ p∈L,Gp p):Fed (L.flatMap ptL):=by
 intro s hs
 obtain⟨p,hp,hs⟩:=List.mem_flatMap.1 hs
 have g:=h p hp
 rw[pt_lines g.ne] at hs
 refine fed_cons ?_ (fed_cons ?_ ?_) s hs
 ·intro c hc
  rcases List.mem_append.1 hc with hc | hc
  ·exact (by decide:∀ c∈([42,42,42,32]:List UInt8),c≠10) c hc
  ·exact name_plain _ c hc
 ·intro c hc
  rcases List.mem_append.1 hc with hc | hc
  ·exact (by decide:∀ c∈([45,45,45,32]:List UInt8),c≠10) c hc
  ·exact name_plain _ c hc
 ·intro x hx
  obtain⟨k,hk,hx⟩:=List.mem_flatMap.1 hx
  exact fed_hk (g.gd k hk) x hx
theorem cx_back {L:List Pth} (h:∀ p∈L,Gp p) (hn:L.length≤64) (hl:((L.flatMap ptL).flatten).length≤1048576):cxT (L.flatMap ptL).flatten=.ok L:=by
 unfold cxT
 rw[if_neg (by omega),right_split _ (fed_check (fed_pts h))]
 refine cxps_back L _ 0 0 h (by omega) ?_
 clear hn hl
 induction L with
 | nil=>exact Nat.le_refl _
 | cons p L ih =>
  have:=ih fun x hx=>h x (by simp[hx])
  simp only[List.flatMap_cons,List.length_append,List.length_cons]
  rw[pt_lines (h p (by simp)).ne]
  simp only[List.length_cons]
  omega
end

section
open Ln
theorem rst_head {x z:Sde} {y:UInt8 × List UInt8} (h:rstS x=y::z):y.1=32:=by
 induction x with
 | nil=>cases h
 | cons a x ih =>
  simp only[rstS,List.dropWhile_cons] at h
  split at h
  ·exact ih h
  ·rename_i hq
   cases h
   simpa using hq
theorem chg_rst (x:Sde):chgS x++rstS x=x:=List.takeWhile_append_dropWhile
end

section
open Ln
theorem cx_errs {hs:List Hk} (h:∀ x∈hs,chkH x=0):errs hs=0:=by
 induction hs with
 | nil=>rfl
 | cons x hs ih =>
  simp only[errs]
  rw[h x (by simp)]
  simpa using ih fun y hy=>h y (by simp[hy])
theorem wrg_ok {p:Pth} (g:Gp p):wrgP p=0:=by
 unfold wrgP
 have:=g.old
 have:=g.new
 have:=g.few
 rw[if_neg (by omega),if_neg (by omega)]
 exact cx_errs fun x hx=>(g.gd x hx).chk
theorem pts_text {L:List Pth} (h:∀ q∈L,Gp q):L.flatMap ptT=(L.flatMap ptL).flatten:=by
 induction L with
 | nil=>rfl
 | cons p L ih =>
  rw[List.flatMap_cons,List.flatMap_cons,List.flatten_append,ih fun x hx=>h x (by simp[hx])]
  unfold ptT
  rw[if_pos (wrg_ok (h p (by simp)))]
end

section
open Pn Go.RowKit
attribute [local go_sem] no_at
theorem ret_pair {k k':IntKind} {a b a' b':Int} (h:a=a') (h':b=b'):Ending.returned (.tuple #[.int k a,.int k' b])=.returned (.tuple #[.int k a',.int k' b']):=by rw[h,h']
end

section
open Pn Go.RowKit
attribute [local go_sem] no_at
theorem nisNumber_loop (L:List UInt8) (w:World) (hl:L.length≤maxLen) (h0:0<L.length) (hz:(((L[0].toNat:Int) == 48)=false)∨((((L[0].toNat:Int) == 48)=true)∧(L.length:Int)≤1))
  (HY:Hid ((∀ k (hk:k<L.length),48≤L[k].toNat∧L[k].toNat≤57)→isNum L=true)) :
  Calls Tryz.prog 275 #[.string ⟨L.toArray⟩] w fun e w'=>e=.returned (.bool (isNum L))∧Below w.heap.size w w':=by
 unfold maxLen at hl
 have hne:L.isEmpty=false:=by cases L;simp at h0;rfl
 have hnil:¬ L=[]:=by intro h;rw[h] at h0;simp at h0
 rcases hz with hz | ⟨hz,hz1⟩
 all_goals
  go_enter Tryz.func275,Tryz.ntmps275
  go_wp2
  go_loopw [] (fun wr=>∃ pos:Nat,pos≤L.length∧wr.heap[w.heap.size]?=some (.stringIter ⟨L.toArray⟩ pos)∧Below w.heap.size w wr∧(∀ k (hk:k<L.length),k<pos→48≤L[k].toNat∧L[k].toNat≤57)) (fun wr=>L.length-wr.iterPos w.heap.size)
  case atStart =>
   refine⟨0,Nat.zero_le _,World.iter_heap w _ 0,(Below.refl _ w).alloc (Nat.le_refl _) _,fun k _ h=>by omega⟩
  case round =>
   obtain⟨pos,hp,hit,hbr,hall⟩:=hrel
   have HA:Hid (∀ k (hk:k<L.length),k<pos→48≤L[k].toNat∧L[k].toNat≤57):=hall
   clear hall
   have hss:(⟨L.toArray⟩:ByteArray).size=L.length:=rfl
   by_cases hlt:pos<L.length
   ·by_cases ha:L[pos].toNat<128
    ·have hnx:∀ ty,(Instr.next (.pointer (some ⟨w.heap.size,0,none⟩)) true ty).run Tryz.prog wr=_:=fun ty=>Lib.run_next_ascii_at wr w.heap.size ⟨L.toArray⟩ pos ty hit hlt ha
     have hit2:=Lib.iterAt_heap wr w.heap.size ⟨L.toArray⟩ pos (pos+1) hit
     have hbr2:=Lib.below_iterAt hbr (k:=w.heap.size) (Nat.le_refl _) ⟨L.toArray⟩ (pos+1)
     by_cases hd:48≤L[pos].toNat∧L[pos].toNat≤57
     ·obtain⟨hd1,hd2⟩:=hd
      go_wp2
      go_roundw
      case rel =>
       refine⟨pos+1,by omega,hit2,hbr2,fun k hk h=>?_⟩
       by_cases e:k=pos
       ·subst e;exact⟨hd1,hd2⟩
       ·exact HA.out k hk (by omega)
      case measure=>simp only[World.iterPos,hit,hit2];omega
     ·have HN:Hid (isNum L=false):=isNum_bad pos hlt hd
      by_cases hd1:L[pos].toNat<48
      ·clear hd
       go_wp2
       go_ret
       exact⟨ret_bool HN.out.symm,hbr2⟩
      ·have hd2:57<L[pos].toNat:=by omega
       clear hd
       go_wp2
       go_ret
       exact⟨ret_bool HN.out.symm,hbr2⟩
    ·have HN:Hid (isNum L=false):=isNum_bad pos hlt (by omega)
     have hdh:=(decode_high ⟨L.toArray⟩ pos hlt (by show 128≤L[pos].toNat;omega)).1
     have hnx:∀ ty,(Instr.next (.pointer (some ⟨w.heap.size,0,none⟩)) true ty).run Tryz.prog wr=_:=fun ty=>Lib.run_next_any_at wr w.heap.size ⟨L.toArray⟩ pos ty hit hlt
     have hbr2:=Lib.below_iterAt hbr (k:=w.heap.size) (Nat.le_refl _) ⟨L.toArray⟩ (pos+(Utf8.decode ⟨L.toArray⟩ pos).2)
     have hdl:=decode_le ⟨L.toArray⟩ pos
     generalize Utf8.decode ⟨L.toArray⟩ pos=dd at *
     have q1:¬ ((dd.1:Int)<48):=by omega
     have q2:57<(dd.1:Int):=by omega
     go_wp2
     go_ret
     exact⟨ret_bool HN.out.symm,hbr2⟩
   ·have hnx:∀ ty,(Instr.next (.pointer (some ⟨w.heap.size,0,none⟩)) true ty).run Tryz.prog wr=_:=fun ty=>Lib.run_next_end_at wr w.heap.size ⟨L.toArray⟩ pos ty hit hlt
    have HN:Hid (isNum L=true):=HY.out fun k hk=>HA.out k hk (by omega)
    go_wp2
    go_ret
    exact⟨ret_bool HN.out.symm,hbr⟩
theorem nisNumber_any (l:List UInt8) (w:World) (hl:l.length≤maxLen) :
  Calls Tryz.prog 275 #[.string ⟨l.toArray⟩] w fun e w'=>e=.returned (.bool (isNum l))∧Below w.heap.size w w':=by
 match l,hl with
 | [],_ =>
  go_enter Tryz.func275,Tryz.ntmps275
  go_wp2
  go_ret
  exact⟨rfl,Below.refl _ _⟩
 | [c],hl =>
  refine nisNumber_loop [c] w hl (by simp) ?_ (isNum_yes (by simp))
  cases h:((([c]:List UInt8)[0].toNat:Int) == 48)
  ·exact .inl rfl
  ·exact .inr ⟨rfl,by simp⟩
 | c::d::t,hl =>
  by_cases h:c.toNat=48
  ·have hb:((c.toNat:Int) == 48)=true:=by simp;omega
   have HN:Hid (isNum (c::d::t)=false):=isNum_zero h
   have hl2:(1:Int)<(t.length:Int)+1+1:=by omega
   clear h
   go_enter Tryz.func275,Tryz.ntmps275
   go_wp2
   go_ret
   exact⟨ret_bool HN.out.symm,Below.refl _ _⟩
  ·refine nisNumber_loop (c::d::t) w hl (by simp) (.inl ?_) (isNum_yes (by simp[h]))
   simp;omega
theorem nParse_any (l:List UInt8) (w:World) (hl:l.length≤maxLen) :
  Calls Tryz.prog 245 #[.string ⟨l.toArray⟩] w fun e w'=>e=.returned (.tuple #[.int .i64 (parseV l),.int .i64 (parseE l)])∧Below w.heap.size w w':=by
 go_enter Tryz.func245,Tryz.ntmps245
 go_wp2_with fail
 refine (nisNumber_any l _ hl).mono ?_
 rintro e w1 ⟨rfl,hb1⟩
 unfold maxLen at hl
 cases hn:isNum l
 ·have HN:Hid (isNum l=false):=hn
  go_wp2
  go_ret2
  have h:=parse_no HN.out
  exact⟨ret_pair h.1 h.2,hb1⟩
 ·have HN:Hid (isNum l=true):=hn
  have hal:=isNum_all hn
  have HAL:Hid (l.all digB=true):=hal
  clear hal
  go_wp2
  go_loopw [4] (fun n wr=>∃ (pos:Nat) (v:Int),pos≤l.length∧n=.int .i64 v∧0≤v∧v≤2147483647∧wr.heap[w1.heap.size]?=some (.stringIter ⟨l.toArray⟩ pos)∧Below w.heap.size w wr∧sat v (l.drop pos)=sat 0 l) (fun _ wr=>l.length-wr.iterPos w1.heap.size)
  case atStart =>
   refine⟨0,0,Nat.zero_le _,rfl,by omega,by omega,World.iter_heap w1 _ 0,hb1.alloc hb1.size _,rfl⟩
  case round =>
   obtain⟨pos,v,hp,rfl,hv0,hv1,hit,hbr,hsat⟩:=hrel
   have HS:Hid (sat v (l.drop pos)=sat 0 l):=hsat
   clear hsat
   have hss:(⟨l.toArray⟩:ByteArray).size=l.length:=rfl
   have hz1:=hb1.size
   by_cases hlt:pos<l.length
   ·have hd:=all_at HAL.out pos hlt
    obtain⟨hd1,hd2⟩:=hd
    have HS2:Hid (sat (min (v * 10+((l[pos].toNat:Int)-48)) 2147483648) (l.drop (pos+1))=sat 0 l):=by
     show sat _ _=_
     rw[← sat_step hlt];exact HS.out
    have hnx:∀ ty,(Instr.next (.pointer (some ⟨w1.heap.size,0,none⟩)) true ty).run Tryz.prog wr=_:=fun ty=>Lib.run_next_ascii_at wr w1.heap.size ⟨l.toArray⟩ pos ty hit hlt (by show l[pos].toNat<128;omega)
    have hit2:=Lib.iterAt_heap wr w1.heap.size ⟨l.toArray⟩ pos (pos+1) hit
    have hbr2:=Lib.below_iterAt hbr (k:=w1.heap.size) hb1.size ⟨l.toArray⟩ (pos+1)
    by_cases hfar:(2147483647-((l[pos].toNat:Int)-48)) / 10<v
    ·have HF:Hid (sat 0 l=2147483648):=by
      have e:min (v * 10+((l[pos].toNat:Int)-48)) 2147483648=2147483648:=by omega
      have h:=HS2.out
      rw[e,sat_top _ (all_drop HAL.out _)] at h
      exact h.symm
     go_wp2
     go_ret2
     have h:=parse_far HN.out HF.out
     exact⟨ret_pair h.1 h.2,hbr2⟩
    ·go_wp2
     go_roundw
     case rel =>
      refine⟨pos+1,v * 10+((l[pos].toNat:Int)-48),by omega,rfl,by omega,by omega,hit2,hbr2,?_⟩
      have e:min (v * 10+((l[pos].toNat:Int)-48)) 2147483648=v * 10+((l[pos].toNat:Int)-48):=by omega
      rw[← HS2.out,e]
     case measure=>simp only[World.iterPos,hit,hit2];omega
   ·have hnx:∀ ty,(Instr.next (.pointer (some ⟨w1.heap.size,0,none⟩)) true ty).run Tryz.prog wr=_:=fun ty=>Lib.run_next_end_at wr w1.heap.size ⟨l.toArray⟩ pos ty hit hlt
    have HF:Hid (sat 0 l=v):=by
     have h:=HS.out
     rw[List.drop_eq_nil_of_le (by omega)] at h
     exact h.symm
    go_wp2
    go_ret2
    have h:=parse_ok HN.out HF.out hv1
    exact⟨ret_pair h.1 h.2,hbr⟩
end

section
open Go.RowKit
attribute [local go_sem] no_at ByteArray.extract_mk
theorem contains_three (c:UInt8):([97,99,100]:List UInt8).contains c=isC c:=by
 rw[Bool.eq_iff_iff]
 simp[isC,or_assoc]
def wend (l:List UInt8):Int:=Lib.indexAny l [97,99,100]
theorem wend_sp (l:List UInt8):(spB isC l=none∧wend l=-1)∨(∃ k:Nat,∃ h:k<l.length,wend l=k∧spB isC l=some (l.take k,l[k],l.drop (k+1))∧isC l[k]=true):=by
 induction l with
 | nil=>exact .inl ⟨rfl,rfl⟩
 | cons c l ih =>
  unfold wend Lib.indexAny
  rw[contains_three]
  simp only[spB]
  cases hc:isC c with
  | true =>
   right
   refine⟨0,by simp,by simp,by simp,by simpa using hc⟩
  | false =>
   rw[if_neg (by decide),if_neg (by decide)]
   rcases ih with ⟨h1,h2⟩ | ⟨k,hk,h1,h2,h3⟩
   ·left
    unfold wend at h2
    rw[h1,h2]
    exact⟨rfl,rfl⟩
   ·right
    unfold wend at h1
    refine⟨k+1,by simpa using hk,?_,?_,by simpa using h3⟩
    ·rw[h1,if_neg (by simp)]
     omega
    ·rw[h2]
     rfl
theorem comma_sp (l:List UInt8):(spB isK l=none∧Lib.indexByte l 44=-1)∨(∃ k:Nat,∃ h:k<l.length,Lib.indexByte l 44=k∧spB isK l=some (l.take k,l[k],l.drop (k+1))):=by
 induction l with
 | nil=>exact .inl ⟨rfl,rfl⟩
 | cons c l ih =>
  unfold Lib.indexByte
  simp only[spB]
  have e:(c == 44)=isK c:=rfl
  rw[e]
  cases hc:isK c with
  | true =>
   right
   exact⟨0,by simp,by simp,by simp⟩
  | false =>
   rw[if_neg (by decide),if_neg (by decide)]
   rcases ih with ⟨h1,h2⟩ | ⟨k,hk,h1,h2⟩
   ·left
    rw[h1,h2]
    exact⟨rfl,rfl⟩
   ·right
    refine⟨k+1,by simpa using hk,?_,?_⟩
    ·rw[h1,if_neg (by simp)]
     omega
    ·rw[h2]
     rfl
end

section
open Go.RowKit
attribute [local go_sem] ByteArray.extract_mk no_at
def kA (l:List UInt8):List UInt8:=match spB isK l with | none=>l | some (x,_,_)=>x
def kB (l:List UInt8):List UInt8:=match spB isK l with | none=>[] | some (_,_,y)=>y
def kS (l:List UInt8):Bool:=match spB isK l with | none=>false | some _=>true
theorem slCut_f (l:List UInt8) (w:World) (hl:l.length≤1099511627776) :
  Calls Tryz.prog 274 #[.string ⟨l.toArray⟩,.string ⟨#[44]⟩] w fun e w'=>e=.returned (.tuple #[.string ⟨(kA l).toArray⟩,.string ⟨(kB l).toArray⟩,.bool (kS l)])∧∃ n,w'=w.drewN n:=by
 rcases comma_sp l with ⟨h1,h2⟩ | ⟨k,hk,h1,h2⟩
 ·have HA:Hid (kA l=l∧kB l=[]∧kS l=false):=(by unfold kA kB kS;rw[h1];exact⟨rfl,rfl,rfl⟩)
  have HI:Hid (Lib.indexByte l 44=-1):=h2
  clear h1 h2
  go_enter Tryz.func274,Tryz.ntmps274
  go_wp2_with fail
  refine (Tryz.stringslite_Index_one ⟨l.toArray⟩ 44 w).mono ?_
  rintro e w1 ⟨rfl,rfl⟩
  have e1:Lib.indexByte (⟨l.toArray⟩:ByteArray).data.toList 44=-1:=HI.out
  rw[e1]
  clear e1
  go_wp2
  go_ret3
  obtain⟨a1,a2,a3⟩:=HA.out
  rw[a1,a2,a3]
  exact⟨rfl,0,rfl⟩
 ·have HA:Hid (kA l=l.take k∧kB l=l.drop (k+1)∧kS l=true):=(by unfold kA kB kS;rw[h2];exact⟨rfl,rfl,rfl⟩)
  have HI:Hid (Lib.indexByte l 44=(k:Int)):=h1
  clear h1 h2
  go_enter Tryz.func274,Tryz.ntmps274
  go_wp2_with fail
  refine (Tryz.stringslite_Index_one ⟨l.toArray⟩ 44 w).mono ?_
  rintro e w1 ⟨rfl,rfl⟩
  have e1:Lib.indexByte (⟨l.toArray⟩:ByteArray).data.toList 44=(k:Int):=HI.out
  rw[e1]
  clear e1
  have i1:(0:Int)≤(k:Int):=by omega
  have i2:(k:Int)≤(l.length:Int):=by omega
  have i3:(k:Int)+1≤(l.length:Int):=by omega
  have i4:(0:Int)≤(k:Int)+1:=by omega
  have i5:IntKind.i64.wrap ((k:Int)+1)=(k:Int)+1:=wrap_s (by omega) (by omega)
  have i6:((k:Int)+1).toNat=k+1:=by omega
  go_wp2_with fail
  go_quiet (fail)
  go_wp2
  go_ret3
  obtain⟨a1,a2,a3⟩:=HA.out
  rw[a1,a2,a3]
  have k5:(l.drop (k+1)).take (l.length-(k+1))=l.drop (k+1):=List.take_of_length_le (by simp)
  exact⟨by simp[k5],_,rfl⟩
theorem nCut_f (l:List UInt8) (w:World) (hl:l.length≤1099511627776) :
  Calls Tryz.prog 244 #[.string ⟨l.toArray⟩,.string ⟨#[44]⟩] w fun e w'=>e=.returned (.tuple #[.string ⟨(kA l).toArray⟩,.string ⟨(kB l).toArray⟩,.bool (kS l)])∧∃ n,w'=w.drewN n:=by
 go_enter Tryz.func244,Tryz.ntmps244
 go_wp2_with fail
 refine (slCut_f l w hl).mono ?_
 rintro e w1 ⟨rfl,n,rfl⟩
 go_wp2
 go_ret3
 exact⟨rfl,n,rfl⟩
theorem comma_no {s:List UInt8} (h:kS s=true):Pn.parseE s≠0:=by
 unfold kS at h
 rcases comma_sp s with ⟨h1,_⟩ | ⟨k,hk,_,h2⟩
 ·rw[h1] at h
  cases h
 ·have hc:isK s[k]=true:=(by
   have:∀ (l:List UInt8) {a b:List UInt8} {c:UInt8},spB isK l=some (a,c,b)→isK c=true:=(by
    intro l
    induction l with
    | nil=>intro a b c h;cases h
    | cons x l ih =>
     intro a b c h
     simp only[spB] at h
     split at h
     ·rename_i hx
      cases h
      exact hx
     ·split at h
      ·cases h
      ·rename_i hq
       cases h
       exact ih hq)
   exact this s h2)
  have hn:Pn.isNum s=false:=Pn.isNum_bad k hk (by
   unfold isK at hc
   have:s[k]=44:=by simpa using hc
   rw[this]
   decide)
  have:=(Pn.parse_no hn).2
  omega
theorem kA_self {s:List UInt8} (h:kS s=false):kA s=s∧spB isK s=none:=by
 unfold kS at h
 unfold kA
 cases hq:spB isK s with
 | none=>exact⟨rfl,rfl⟩
 | some q=>rw[hq] at h;cases h
theorem kS_some {s:List UInt8} (h:kS s=true):∃ c,spB isK s=some (kA s,c,kB s):=by
 unfold kS at h
 unfold kA kB
 cases hq:spB isK s with
 | none=>rw[hq] at h;cases h
 | some q=>exact⟨q.2.1,rfl⟩
theorem kA_le (s:List UInt8):(kA s).length≤s.length∧(kB s).length≤s.length:=by
 unfold kA kB
 rcases comma_sp s with ⟨h1,_⟩ | ⟨k,hk,_,h2⟩
 ·rw[h1];simp
 ·rw[h2];simp only[List.length_take,List.length_drop];omega
end

section
open Ln
def kM (x:Sde):List Mk:=x.map fun y=>⟨(y.1.toNat:Int),y.2⟩
theorem kM_len (x:Sde):(kM x).length=x.length:=by simp[kM]
theorem kM_cons (y:UInt8 × List UInt8) (x:Sde):kM (y::x)=⟨(y.1.toNat:Int),y.2⟩::kM x:=rfl
theorem kM_nil {x:Sde}:kM x=[]↔x=[]:=by simp[kM]
def rdC (sg:UInt8):Nat→List (List UInt8)→Except (Nat × Int) (List Mk × Nat × List (List UInt8))
 | p,[]=>.ok ([],p,[])
 | p,s::r=>if isSd sg s=true then if fdB s=true then match rdC sg (p+1) r with
   | .error e=>.error e
   | .ok (l,p2,r2)=>.ok (⟨((s.headD 0).toNat:Int),s.drop 2⟩::l,p2,r2)
  else .error (p+1,3) else .ok ([],p,s::r)
def sdE (sg:UInt8) (p:Nat) (ls:List (List UInt8)):Except (Nat × Int) (List Mk × Nat × List (List UInt8)) :=
 match rdC sg p ls with
 | .error e=>.error e
 | .ok (l,p1,r)=>if (!l.isEmpty && endK l r)=true then .ok (cutL l,p1+1,r.tail) else .ok (l,p1,r)
def mapS (X:Except (Nat × Int) (Sde × Nat × List (List UInt8))):Except (Nat × Int) (List Mk × Nat × List (List UInt8)) :=
 match X with
 | .error e=>.error e
 | .ok (x,p,r)=>.ok (kM x,p,r)
theorem mark_noSd {sg:UInt8} (h92:sg≠92) {t:List UInt8} (h:markT.isPrefixOf t=true):isSd sg t=false:=by
 obtain⟨u,rfl⟩:=List.isPrefixOf_iff_prefix.1 h
 unfold markT
 simp only[List.cons_append,isSd]
 have h1:((92:UInt8) == sg)=false:=beq_eq_false_iff_ne.2 (fun e=>h92 e.symm)
 rw[h1]
 decide
theorem rdC_mark {sg:UInt8} (h92:sg≠92) {r:List (List UInt8)} (h:pkM r=true) (p:Nat):rdC sg p r=.ok ([],p,r):=by
 cases r with
 | nil=>cases h
 | cons t r =>
  simp only[rdC]
  rw[if_neg (by rw[mark_noSd h92 h];decide)]
theorem side_short {sg:UInt8} {s:List UInt8} (h:isSd sg s=true) (hf:fdB s=true) (hl:s.length≤3):s.drop 2=[10]:=by
 match s,h,hf,hl with
 | [a,b],h,hf,_ =>
  simp only[isSd,Bool.and_eq_true,beq_iff_eq] at h
  obtain⟨_,rfl⟩:=h
  exact absurd hf (by simp[fdB])
 | [a,b,c],h,hf,_ =>
  have:c=10:=by simpa [fdB] using hf
  rw[this]
  rfl
theorem side_code {sg:UInt8} (h92:sg≠92) (ls:List (List UInt8)):∀ p,sdE sg p ls=mapS (rdS sg p ls):=by
 induction ls with
 | nil=>intro p;rfl
 | cons s r ih =>
  intro p
  by_cases hs:isSd sg s=true
  ·by_cases hf:fdB s=true
   ·by_cases hm:pkM r=true∧3<s.length
    ·have h1:rdC sg p (s::r)=.ok ([⟨((s.headD 0).toNat:Int),s.drop 2⟩],p+1,r):=by
      simp only[rdC]
      rw[if_pos hs,if_pos hf,rdC_mark h92 hm.1]
     have h2:endK [⟨((s.headD 0).toNat:Int),s.drop 2⟩] r=true:=by
      unfold endK
      rw[hm.1,Bool.and_true]
      have:lastT [(⟨((s.headD 0).toNat:Int),s.drop 2⟩:Mk)]=s.drop 2:=rfl
      rw[this,bne_iff_ne]
      intro e
      have:=congrArg List.length e
      rw[List.length_drop] at this
      simp at this
      omega
     unfold sdE
     rw[h1]
     dsimp only
     rw[if_pos (by rw[h2];rfl)]
     simp only[rdS]
     rw[if_pos hs,if_pos hf,if_pos hm]
     rfl
    ·have hi:=ih (p+1)
     simp only[rdS]
     rw[if_pos hs,if_pos hf,if_neg hm]
     unfold sdE at hi ⊢
     simp only[rdC]
     rw[if_pos hs,if_pos hf]
     cases hc:rdC sg (p+1) r with
     | error e =>
      rw[hc] at hi
      cases hr:rdS sg (p+1) r with
      | error e2 =>
       rw[hr] at hi
       simp only[mapS] at hi ⊢
       injection hi with hi
       rw[hi]
      | ok z =>
       obtain⟨x,p2,r2⟩:=z
       rw[hr] at hi
       simp only[mapS] at hi
       cases hi
     | ok z =>
      obtain⟨l,p2,r2⟩:=z
      rw[hc] at hi
      dsimp only at hi ⊢
      cases hr:rdS sg (p+1) r with
      | error e2 =>
       rw[hr] at hi
       simp only[mapS] at hi
       split at hi<;>cases hi
      | ok z =>
       obtain⟨x,p3,r3⟩:=z
       rw[hr] at hi
       simp only[mapS] at hi ⊢
       by_cases hl:l=[]
       ·subst hl
        rw[if_neg (by simp)] at hi
        have hi2:([]:List Mk)=kM x∧p2=p3∧r2=r3:=by
         injection hi with hi
         injection hi with h1 h2
         injection h2 with h2 h3
         exact⟨h1,h2,h3⟩
        obtain⟨hx,rfl,rfl⟩:=hi2
        have hx0:x=[]:=kM_nil.1 hx.symm
        subst hx0
        have hr2:r2=r:=by
         cases r with
         | nil=>simp only[rdC] at hc;cases hc;rfl
         | cons t r =>
          simp only[rdC] at hc
          split at hc
          ·split at hc
           ·split at hc
            ·cases hc
            ·cases hc
           ·cases hc
          ·cases hc;rfl
        subst hr2
        have he:endK [⟨((s.headD 0).toNat:Int),s.drop 2⟩] r2=false:=by
         unfold endK
         have:lastT [(⟨((s.headD 0).toNat:Int),s.drop 2⟩:Mk)]=s.drop 2:=rfl
         rw[this]
         cases hp:pkM r2 with
         | false=>rw[Bool.and_false]
         | true =>
          rw[side_short hs hf (Nat.le_of_not_lt fun q=>hm ⟨hp,q⟩)]
          rfl
        rw[if_neg (by rw[he];simp)]
        rfl
       ·have hl1:l.isEmpty=false:=by cases l with | nil=>exact absurd rfl hl | cons _ _=>rfl
        have he:endK (⟨((s.headD 0).toNat:Int),s.drop 2⟩::l) r2=endK l r2:=by
         unfold endK
         rw[lastT_cons hl]
        rw[he]
        rw[hl1] at hi
        simp only[Bool.not_false,Bool.true_and,List.isEmpty_cons] at hi ⊢
        by_cases hk:endK l r2=true
        ·rw[if_pos hk] at hi ⊢
         rw[cutL_cons hl]
         injection hi with hi
         injection hi with h1 h2
         rw[h1,h2]
         rfl
        ·rw[if_neg hk] at hi ⊢
         injection hi with hi
         injection hi with h1 h2
         rw[h1,h2]
         rfl
   ·unfold sdE
    simp only[rdC,rdS]
    rw[if_pos hs,if_neg hf,if_pos hs,if_neg hf]
    rfl
  ·unfold sdE
   simp only[rdC,rdS]
   rw[if_neg hs,if_neg hs]
   rfl
/- ranges -/
def nmC (s:List UInt8):Option (Int × Int) :=
 if Pn.parseE (kA s)=0 then if kS s=true then if Pn.parseE (kB s)=0∧0<Pn.parseV (kA s)∧Pn.parseV (kA s)<Pn.parseV (kB s) then some (Pn.parseV (kA s),Pn.parseV (kB s)) else none else some (Pn.parseV (kA s),Pn.parseV (kA s)) else none
def sayC (x:Int × Int):Int × Int:=(x.1,if x.1=x.2 then -1 else x.2-x.1+1)
theorem rng_code (s:List UInt8):rngI s=(nmC s).map sayC:=by
 unfold rngI nmC
 cases hk:kS s with
 | false =>
  obtain⟨h1,h2⟩:=kA_self hk
  rw[h1,if_neg (show ¬ (false=true) by decide)]
  by_cases he:Pn.parseE s=0
  ·rw[if_pos he,if_pos he]
   simp[sayC]
  ·rw[if_neg he,if_neg he]
   unfold lnsP
   rw[h2]
   exact if_neg (fun q=>he q.1)
 | true =>
  obtain⟨c,hc⟩:=kS_some hk
  rw[if_neg (comma_no hk),if_pos rfl]
  unfold lnsP
  rw[hc]
  dsimp only
  by_cases h1:Pn.parseE (kA s)=0
  ·rw[if_pos h1]
   by_cases h2:Pn.parseE (kB s)=0∧0<Pn.parseV (kA s)∧Pn.parseV (kA s)<Pn.parseV (kB s)
   ·rw[if_pos ⟨h1,h2.1,by omega,h2.2.2⟩,if_pos h2]
    simp only[Option.map_some,sayC]
    rw[if_neg (by omega)]
   ·rw[if_neg (fun q=>h2 ⟨q.2.1,by omega,q.2.2.2⟩),if_neg h2]
    rfl
  ·rw[if_neg (fun q=>h1 q.1),if_neg h1]
   rfl
theorem nmC_ok {s:List UInt8} {a b:Int} (h:nmC s=some (a,b)):0≤a∧a≤b∧b≤2147483647:=by
 unfold nmC at h
 have b1:=@prs_num (kA s)
 have b2:=@prs_num (kB s)
 split at h
 ·split at h
  ·split at h
   ·rename_i h3
    cases h
    omega
   ·cases h
  ·cases h
   omega
 ·cases h
theorem cnt_code {a b:Int} (h:a≤b) (x:Sde):cntS (sayC (a,b)).2 x=!(decide ((x.length:Int)=b-a+1) || (decide ((x.length:Int)=0) && decide (b-a+1=1))):=by
 unfold cntS sayC
 dsimp only
 rw[Bool.eq_iff_iff]
 simp only[decide_eq_true_eq,Bool.not_eq_true',Bool.or_eq_false_iff,Bool.and_eq_false_iff,decide_eq_false_iff_not]
 split<;>omega
end

section
open Ln
def txS:List Mk→Nat
 | []=>0
 | m::l=>m.tx.length+txS l
theorem cln_len (ah s:List UInt8):(lnL ah s).flatten.length≤ah.length+s.length+29:=by
 unfold lnL
 split
 ·simp only[List.flatten_cons,List.flatten_nil,List.length_append,List.length_nil]
  omega
 ·simp only[List.flatten_cons,List.flatten_nil,List.length_append,List.length_nil,List.length_cons,markT]
  omega
theorem sid_len (sg:Int) (l:List Mk):∀ r a,(sidL sg r a l).flatten.length≤31 * l.length+txS l:=by
 induction l with
 | nil=>intro r a;exact Nat.le_refl _
 | cons m l ih =>
  intro r a
  simp only[sidL,txS,List.length_cons]
  split
  ·have h1:=cln_len [32,32] m.tx
   have h2:=ih false false
   simp only[List.flatten_append,List.length_append,List.length_cons,List.length_nil] at h1 ⊢
   omega
  ·split
   ·have h2:=ih (r || decide (m.sg=45)) (a || decide (m.sg=43))
    have h1:=cln_len (if ((r || anyS 45 (m::l)) && (a || anyS 43 (m::l)))=true then [33,32] else [UInt8.ofNat sg.toNat,32]) m.tx
    have h3:(if ((r || anyS 45 (m::l)) && (a || anyS 43 (m::l)))=true then [33,32] else [UInt8.ofNat sg.toNat,32]).length=2:=by split<;>rfl
    rw[h3] at h1
    simp only[List.flatten_append,List.length_append]
    omega
   ·have h2:=ih (r || decide (m.sg=45)) (a || decide (m.sg=43))
    omega
theorem side_len (sg:Int) (l:List Mk):(sideL sg l).flatten.length≤31 * l.length+txS l:=by
 unfold sideL
 split
 ·exact sid_len sg l _ _
 ·exact Nat.zero_le _
theorem span_len {p n:Int} (hp:0≤p) (hb:p≤2147483647) (hn:n≤2147483647):(spanT p n).length≤61:=by
 have r1:=itoa_short p (by omega) (by omega)
 unfold spanT
 split
 ·omega
 ·have r2:=itoa_short (p+n-1) (by omega) (by omega)
  simp only[List.length_append,List.length_cons]
  omega
theorem chk_hi {h:Hk} (hr:rngB h=true):h.AN≤2147483647∧h.BN≤2147483647:=by
 simp[rngB,nat31] at hr
 omega
theorem hkl_len {h:Hk} (hc:chkH h=0):(hkL h).flatten.length≤200+62 * h.ls.length+2 * txS h.ls:=by
 obtain⟨c1,_⟩:=chk_out hc
 obtain⟨r1,r2,r3,r4,r5,r6,_⟩:=rng_out c1
 obtain⟨r7,r8⟩:=chk_hi c1
 have s1:=side_len 45 h.ls
 have s2:=side_len 43 h.ls
 have s3:=span_len r1 r2 r7
 have s4:=span_len r4 r5 r8
 simp only[hkL,rlT,starsT,List.flatten_cons,List.flatten_append,List.length_append,List.length_cons,List.length_nil]
 omega
def hsS:List Hk→Nat
 | []=>0
 | h::l=>200+62 * h.ls.length+2 * txS h.ls+hsS l
theorem hks_len {l:List Hk} (h:∀ x∈l,chkH x=0):(l.flatMap hkL).flatten.length≤hsS l:=by
 induction l with
 | nil=>exact Nat.le_refl _
 | cons x l ih =>
  have h1:=ih fun y hy=>h y (by simp[hy])
  have h2:=hkl_len (h x (by simp))
  simp only[List.flatMap_cons,List.flatten_append,List.length_append,hsS]
  omega
theorem name_len (n:List UInt8):(nameT n).length≤3 * n.length+11:=by
 unfold nameT
 split
 ·simp only[devN,List.length_cons,List.length_nil]
  omega
 ·split
  ·omega
  ·have:=Q.quote_length n
   omega
theorem ptl_len {p:Pth} (h:∀ x∈p.hs,chkH x=0):(ptL p).flatten.length≤32+3 * p.old.length+3 * p.new.length+hsS p.hs:=by
 unfold ptL
 split
 ·exact Nat.zero_le _
 ·have h1:=hks_len h
  have h2:=name_len p.old
  have h3:=name_len p.new
  simp only[List.flatten_cons,List.length_append,List.length_cons,List.length_nil]
  omega
theorem cerrs_out {l:List Hk} (h:errs l=0):∀ x∈l,chkH x=0:=by
 induction l with
 | nil=>intro x hx;cases hx
 | cons y l ih =>
  simp only[errs] at h
  split at h
  ·rename_i hq
   exact absurd h hq
  ·rename_i hq
   intro x hx
   rcases List.mem_cons.1 hx with rfl | hx
   ·omega
   ·exact ih h x hx
theorem wrg_out {p:Pth} (h:wrgP p=0):p.old.length≤64∧p.new.length≤64∧p.hs.length≤4096∧∀ x∈p.hs,chkH x=0:=by
 unfold wrgP at h
 split at h
 ·cases h
 ·split at h
  ·cases h
  ·exact⟨by omega,by omega,by omega,cerrs_out h⟩
theorem pt_len (p:Pth):(ptT p).length≤416+hsS p.hs:=by
 unfold ptT
 split
 ·rename_i h
  obtain⟨h1,h2,_,h4⟩:=wrg_out h
  have:=ptl_len h4
  omega
 ·exact Nat.zero_le _
end

end Go.Proofs.YtgiojkhmkeocfaaGreatDoor

/- The context form: a side's lines one by one, by what lies ahead of a place and behind it (the reference's way); plain mathematics. -/
namespace Go.Proofs.YtgiojkhmkeocfaaGreatDoor
end Go.Proofs.YtgiojkhmkeocfaaGreatDoor

namespace Go.Proofs.YtgiojkhmkeocfaaGreatDoor

section
open Ln
def chgM (l:List Mk):List Mk:=l.takeWhile fun m=>m.sg != 32
def rstM (l:List Mk):List Mk:=l.dropWhile fun m=>m.sg != 32
/- signs that are shown -/
def shwL:Bool→Bool→List Mk→List Int
 | _,_,[]=>[]
 | r,a,m::l=>if m.sg=32 then 32::shwL false false l else (if ((r || anyS 45 (m::l)) && (a || anyS 43 (m::l)))=true then 33 else m.sg)::shwL (r || decide (m.sg=45)) (a || decide (m.sg=43)) l
theorem shw_len (l:List Mk):∀ r a,(shwL r a l).length=l.length:=by
 induction l with
 | nil=>intro r a;rfl
 | cons m l ih =>
  intro r a
  simp only[shwL]
  split<;>simp[ih]
def sidZ (sg:Int):List Mk→List Int→List (List UInt8)
 | m::l,c::sh=>(if m.sg=32∨m.sg=sg then lnL [UInt8.ofNat c.toNat,32] m.tx else [])++sidZ sg l sh
 | _,_=>[]
theorem sid_shw (sg:Int) (l:List Mk):∀ r a,sidZ sg l (shwL r a l)=sidL sg r a l:=by
 induction l with
 | nil=>intro r a;rfl
 | cons m l ih =>
  intro r a
  simp only[shwL,sidL]
  by_cases h:m.sg=32
  ·rw[if_pos h,if_pos h]
   simp only[sidZ]
   rw[if_pos (.inl h),ih]
   rfl
  ·rw[if_neg h,if_neg h]
   simp only[sidZ]
   rw[ih]
   by_cases h2:m.sg=sg
   ·rw[if_pos (.inr h2),if_pos h2,h2]
    split<;>rfl
   ·rw[if_neg (fun q=>q.elim h h2),if_neg h2]
    rfl
def hasM (k:Int) (l:List Mk):Bool:=l.any fun m=>m.sg == k
def mixM (c:List Mk):List Int:=c.map fun m=>if (hasM 45 c && hasM 43 c)=true then 33 else m.sg
theorem anyS_chg (sg:Int) (l:List Mk):anyS sg l=hasM sg (chgM l):=by
 induction l with
 | nil=>rfl
 | cons m l ih =>
  simp only[anyS,chgM,List.takeWhile_cons]
  by_cases h:m.sg=32
  ·rw[if_pos h]
   have:(m.sg != 32)=false:=by simp[h]
   rw[this]
   rfl
  ·rw[if_neg h,ih]
   have:(m.sg != 32)=true:=by simp[h]
   rw[this]
   simp only[hasM,if_true,List.any_cons,chgM]
   rfl
def tlM:List Mk→List Int
 | []=>[]
 | _::t=>32::shwL false false t
theorem shw_piece (l:List Mk):∀ r a,shwL r a l=(chgM l).map (fun m=>if ((r || hasM 45 (chgM l)) && (a || hasM 43 (chgM l)))=true then 33 else m.sg)++tlM (rstM l):=by
 induction l with
 | nil=>intro r a;rfl
 | cons m l ih =>
  intro r a
  by_cases h:m.sg=32
  ·have h1:(m.sg != 32)=false:=by simp[h]
   have e1:chgM (m::l)=[]:=by simp only[chgM,List.takeWhile_cons,h1];rfl
   have e2:rstM (m::l)=m::l:=by simp only[rstM,List.dropWhile_cons,h1];rfl
   rw[e1,e2]
   simp only[shwL]
   rw[if_pos h]
   rfl
  ·have h1:(m.sg != 32)=true:=by simp[h]
   have e1:chgM (m::l)=m::chgM l:=by simp only[chgM,List.takeWhile_cons,h1];rfl
   have e2:rstM (m::l)=rstM l:=by simp only[rstM,List.dropWhile_cons,h1];rfl
   simp only[shwL]
   rw[if_neg h,anyS_chg 45,anyS_chg 43,ih,e1,e2]
   have q:∀ k:Int,hasM k (m::chgM l)=(decide (m.sg=k) || hasM k (chgM l)):=fun k=>by
    simp only[hasM,List.any_cons]
    rfl
   rw[q,q]
   simp only[List.map_cons,List.cons_append,Bool.or_assoc]
theorem shw_step (l:List Mk):shwL false false l=mixM (chgM l)++tlM (rstM l):=by
 rw[shw_piece]
 simp only[Bool.false_or]
 rfl
theorem chg_rstM (l:List Mk):chgM l++rstM l=l:=List.takeWhile_append_dropWhile
end

section
open Ln
/- pieces -/
def allM (k:Int) (l:List Mk):Bool:=l.all fun m=>m.sg == k
def keptM (l:List Mk):List Mk:=l.filter fun m=>m.sg == 32
theorem kd_ne (a:UInt8) (k:UInt8):(((a.toNat:Int)) != (k.toNat:Int))=(a != k):=by
 rw[Bool.eq_iff_iff,bne_iff_ne,bne_iff_ne,ne_eq,ne_eq,Int.natCast_inj,UInt8.toNat_inj]
theorem kd_eq (a:UInt8) (k:UInt8):(((a.toNat:Int)) == (k.toNat:Int))=(a == k):=by
 rw[Bool.eq_iff_iff,beq_iff_eq,beq_iff_eq,Int.natCast_inj,UInt8.toNat_inj]
theorem chg_kM (x:Sde):chgM (kM x)=kM (chgS x):=by
 induction x with
 | nil=>rfl
 | cons y x ih =>
  have h:=kd_ne y.1 32
  simp only[chgM,kM_cons,chgS,List.takeWhile_cons] at ih ⊢
  have h2:(((y.1.toNat:Int)) != 32)=(y.1 != 32):=h
  rw[h2]
  split
  ·rw[ih];rfl
  ·rfl
theorem rst_kM (x:Sde):rstM (kM x)=kM (rstS x):=by
 induction x with
 | nil=>rfl
 | cons y x ih =>
  have h:=kd_ne y.1 32
  simp only[rstM,kM_cons,rstS,List.dropWhile_cons] at ih ⊢
  have h2:(((y.1.toNat:Int)) != 32)=(y.1 != 32):=h
  rw[h2]
  split
  ·rw[ih]
  ·rfl
theorem all_kM (k:UInt8) (x:Sde):allM (k.toNat:Int) (kM x)=allS k x:=by
 unfold allM allS kM
 rw[List.all_map]
 refine congrArg (fun f=>x.all f) ?_
 funext y
 exact kd_eq y.1 k
theorem kept_kM (x:Sde):keptM (kM x)=kM (keptS x):=by
 unfold keptM keptS kM
 rw[List.filter_map]
 refine congrArg (List.map _) (congrArg (fun f=>x.filter f) ?_)
 funext y
 exact kd_eq y.1 32
def mtM (g c:List Mk):Bool:=if c=[] then allM 45 g else if g=[] then allM 43 c else allM 33 g && allM 33 c
theorem mt_kM (x y:Sde):mtM (kM x) (kM y)=okJ x y:=by
 unfold mtM okJ
 have a1:allM 45 (kM x)=allS 45 x:=all_kM 45 x
 have a2:allM 43 (kM y)=allS 43 y:=all_kM 43 y
 have a3:allM 33 (kM x)=allS 33 x:=all_kM 33 x
 have a4:allM 33 (kM y)=allS 33 y:=all_kM 33 y
 rw[a1,a2,a3,a4]
 by_cases hy:y=[]
 ·subst hy
  rw[if_pos (show kM []=[] from rfl),if_neg (fun q=>q.2 rfl)]
  have:allS 43 []=true:=rfl
  rw[this,Bool.and_true]
 ·rw[if_neg (fun q=>hy (kM_nil.1 q))]
  by_cases hx:x=[]
  ·subst hx
   rw[if_pos (show kM []=[] from rfl),if_neg (fun q=>q.1 rfl)]
   have:allS 45 []=true:=rfl
   rw[this,Bool.true_and]
  ·rw[if_neg (fun q=>hx (kM_nil.1 q)),if_pos ⟨hx,hy⟩]
theorem mkS_kM (s:Int) (x:Sde):mkS s x=(kM x).map fun m=>⟨s,m.tx⟩:=by
 simp[mkS,kM]
theorem same_kM (x:Sde):allM 32 (kM x)=sameS x:=all_kM 32 x
theorem jn_fuel (n:Nat):∀ (o w:Sde) (f g:Nat),o.length≤n→o.length<f→o.length<g→jnS f o w=jnS g o w:=by
 induction n with
 | zero =>
  intro o w f g h hf hg
  obtain⟨f,rfl⟩:∃ f',f=f'+1:=⟨f-1,by omega⟩
  obtain⟨g,rfl⟩:∃ g',g=g'+1:=⟨g-1,by omega⟩
  have ho:o=[]:=List.eq_nil_of_length_eq_zero (by omega)
  subst ho
  simp only[jnS]
  have:rstS []=[]:=rfl
  rw[this]
  cases rstS w<;>rfl
 | succ n ih =>
  intro o w f g h hf hg
  obtain⟨f,rfl⟩:∃ f',f=f'+1:=⟨f-1,by omega⟩
  obtain⟨g,rfl⟩:∃ g',g=g'+1:=⟨g-1,by omega⟩
  simp only[jnS]
  split
  ·have hl:(rstS o).length≤o.length:=by
    have:=congrArg List.length (chg_rst o)
    rw[List.length_append] at this
    omega
   cases hro:rstS o with
   | nil=>cases rstS w<;>rfl
   | cons y o2 =>
    rw[hro] at hl
    cases hrw:rstS w with
    | nil=>rfl
    | cons z w2 =>
     dsimp only
     rw[ih o2 w2 f g (by simp at hl;omega) (by simp at hl;omega) (by simp at hl;omega)]
  ·rfl
def jnX (o w:Sde):Option (List Mk):=jnS (o.length+1) o w
theorem jnX_eq (o w : Sde) : jnX o w = if okJ (chgS o) (chgS w) = true then match rstS o, rstS w with
      | [], [] => some (mkS 45 (chgS o) ++ mkS 43 (chgS w))
      | (_, s) :: o2, (_, t) :: w2 => if s = t then match jnX o2 w2 with
        | none => none
        | some l => some (mkS 45 (chgS o) ++ (mkS 43 (chgS w) ++ ⟨32, s⟩ :: l)) else none
      | _, _ => none
    else none := by
  have hl : (rstS o).length ≤ o.length := by
    have := congrArg List.length (chg_rst o)
    rw [List.length_append] at this
    omega
  have hX : jnX o w = jnS (o.length + 1) o w := rfl
  rw [hX]
  simp only [jnS]
  split
  · cases hro : rstS o with
    | nil => cases rstS w <;> rfl
    | cons y o2 =>
      rw [hro] at hl
      simp only [List.length_cons] at hl
      cases hrw : rstS w with
      | nil => rfl
      | cons z w2 =>
        dsimp only
        rw [jn_fuel o.length o2 w2 o.length (o2.length + 1) (by omega) (by omega) (by omega)]
        rfl
  · rfl
/- names -/
def unC (s:List UInt8):List UInt8:=if s=devN then [] else if s.head?=some 34 then Q.uqa s else s
theorem un_code {s n:List UInt8} (h:unN s=some n):unC s=n:=by
 unfold unN at h
 unfold unC
 split at h
 ·rename_i h1
  rw[if_pos h1]
  cases h
  rfl
 ·rename_i h1
  rw[if_neg h1]
  split at h
  ·rename_i h2
   rw[if_pos h2]
   unfold Q.uqa
   split at h
   ·rename_i h3
    rw[h3]
    cases h
    rfl
   ·cases h
  ·rename_i h2
   rw[if_neg h2]
   cases h
   rfl
def nokC (s:List UInt8):Bool:=decide ((unC s).length≤64) && (nameT (unC s) == s)
theorem named_code (s:List UInt8):namedP s=if nokC s=true then some (unC s) else none:=by
 by_cases h:nokC s=true
 ·rw[if_pos h]
  unfold nokC at h
  rw[Bool.and_eq_true,decide_eq_true_eq,beq_iff_eq] at h
  exact (named_iff s (unC s)).2 ⟨h.2.symm,h.1⟩
 ·rw[if_neg h]
  cases hn:namedP s with
  | none=>rfl
  | some n =>
   exfalso
   obtain⟨h1,h2⟩:=(named_iff s n).1 hn
   have h3:unC s=n:=by rw[h1];exact un_code (name_un n)
   apply h
   unfold nokC
   rw[h3,Bool.and_eq_true,decide_eq_true_eq,beq_iff_eq]
   exact⟨h2,h1.symm⟩
theorem inn_code (e:UInt8) (s:List UInt8):innR e s=if [e,e,e,32].isPrefixOf s=true then if Lib.hasSuffix (s.drop 4) [32,e,e,e,e]=true then some ((s.drop 4).take ((s.drop 4).length-5)) else none else none:=by
 unfold innR
 by_cases h1:[e,e,e,32].isPrefixOf s=true
 ·rw[if_pos h1]
  obtain⟨t,rfl⟩:=List.isPrefixOf_iff_prefix.1 h1
  have e1:([e,e,e,32]++t).drop 4=t:=rfl
  have e2:([e,e,e,32]++t).length=t.length+4:=by simp
  rw[e1,e2]
  by_cases h2:Lib.hasSuffix t [32,e,e,e,e]=true
  ·rw[if_pos h2]
   unfold Lib.hasSuffix at h2
   obtain⟨u,rfl⟩:=List.isSuffixOf_iff_suffix.1 h2
   have e3:(u++[32,e,e,e,e]).length=u.length+5:=by simp
   rw[e3,if_pos]
   ·have e4:u.length+5+4-9=u.length+5-5:=by omega
    rw[e4]
   ·refine⟨by omega,rfl,?_⟩
    have e5:u.length+5+4-5=([e,e,e,32]++u).length:=by simp
    rw[e5,← List.append_assoc,List.drop_left]
  ·rw[if_neg h2,if_neg]
   rintro⟨h3,_,h4⟩
   apply h2
   unfold Lib.hasSuffix
   rw[List.isSuffixOf_iff_suffix]
   have e6:([e,e,e,32]++t).drop (t.length+4-5)=t.drop (t.length-5):=by
    have:t.length+4-5=4+(t.length-5):=by omega
    rw[this,← List.drop_drop]
    rfl
   rw[e6] at h4
   exact⟨t.take (t.length-5),by rw[← h4,List.take_append_drop]⟩
 ·rw[if_neg h1,if_neg]
  rintro⟨_,h2,_⟩
  apply h1
  rw[List.isPrefixOf_iff_prefix]
  exact⟨s.drop 4,by rw[← h2,List.take_append_drop]⟩
end

end Go.Proofs.YtgiojkhmkeocfaaGreatDoor

namespace Go.Proofs

section
open Go.Shelf
def Tryz.lays240_ren:Go.Shelf.Ren:=⟨fun | 240=>80 | 276=>133 | n=>n,fun | 0=>0 | 4=>4 | 9=>9 | 20=>20 | 70=>74 | 72=>77 | 37=>75 | 164=>143 | n=>n,fun | n=>n⟩
theorem Tryz.lays240:Go.Proofs.Lays.n240 Tryz.prog Tryz.lays240_ren:={
 mixed:=by kernel_rfl
 f240:=Tryz.func80.trans (congrArg some (by kernel_rfl))
 f276:=Tryz.func133.trans (congrArg some (by kernel_rfl))
 t0:=Tryz.underlying0
 a0:=Tryz.isAgg0
 z0:=Tryz.sizeOf0
 v0:=Tryz.zeroValue0
 t4:=Tryz.underlying4
 a4:=Tryz.isAgg4
 z4:=Tryz.sizeOf4
 v4:=Tryz.zeroValue4
 t9:=Tryz.underlying9
 a9:=Tryz.isAgg9
 z9:=Tryz.sizeOf9
 v9:=Tryz.zeroValue9
 t20:=Tryz.underlying20
 a20:=Tryz.isAgg20
 z20:=Tryz.sizeOf20
 v20:=Tryz.zeroValue20
 t70:=Tryz.underlying74
 a70:=Tryz.isAgg74
 z70:=Tryz.sizeOf74
 v70:=Tryz.zeroValue74
 t72:=Tryz.underlying77
 a72:=Tryz.isAgg77
 z72:=Tryz.sizeOf77
 v72:=Tryz.zeroValue77
 t164:=Tryz.underlying143
 a164:=Tryz.isAgg143
 z164:=Tryz.sizeOf143
 v164:=Tryz.zeroValue143 }
theorem Tryz.Builder_X72_240:Builder.X72 Tryz.prog Tryz.lays240_ren:={
 sizeBuilder:=by kernel_rfl
 liesBuilder:=by kernel_rfl }
theorem Tryz.copyCheck_fresh (b:Nat) (w:World) (h0:w.cell? ⟨b,0,none⟩=some (.pointer none)) (hsh:w.shape? b=some (77,2)) (hfz:w.frozen? ⟨b,0,none⟩=false) :
  Calls Tryz.prog 80 #[.pointer (some ⟨b,0,none⟩)] w fun e w'=>e=.returned (.tuple #[])∧w'=w.setCell ⟨b,0,none⟩ (.pointer (some ⟨b,0,none⟩)):=Any.Builder_copyCheck_fresh Tryz.lays240 Tryz.Builder_X72_240 b w h0 hsh hfz
theorem Tryz.copyCheck_used (b:Nat) (w:World) (h0:w.cell? ⟨b,0,none⟩=some (.pointer (some ⟨b,0,none⟩))) :
  Calls Tryz.prog 80 #[.pointer (some ⟨b,0,none⟩)] w fun e w'=>e=.returned (.tuple #[])∧w'=w:=Any.Builder_copyCheck_used Tryz.lays240 Tryz.Builder_X72_240 b w h0
end

end Go.Proofs

namespace Go.Proofs.YtgiojkhmkeocfaaGreatDoor

section
open Q Go.RowKit Go.Proofs.YtgiojkhmkeocfaaGreatDoor.Tx
attribute [local go_sem] ba_at hexl_at
theorem isPlain_any (n:Int) (w:World) :
  Calls Tryz.prog 163 #[.int .u8 n] w fun e w'=>e=.returned (.bool (plainI n))∧w=w':=by
 go_enter Tryz.func163,Tryz.ntmps163
 go_wp2
 all_goals go_ret
 all_goals exact⟨ret_bool (by rw[Bool.eq_iff_iff];simp[plainI];omega),rfl⟩
theorem infoU8:(Tryz.prog.info? 5).map (fun i=>(i.zero,i.size,i.bytes))=some (some (.int .u8 0),1,1):=by kernel_rfl
theorem copyCheck_any (B b:Nat) (v:Value) (bs:List Value) (w:World) (h:Bld 77 5 B b v bs w) :
  Calls Tryz.prog 80 #[.pointer (some ⟨b,0,none⟩)] w fun e w'=>e=.returned (.tuple #[])∧w'.heap[b]?=some (.cells #[.pointer (some ⟨b,0,none⟩),v] 77 (0,0))∧Bld 77 5 B b v bs w'∧Hid (∀ k,k≠b→w'.heap[k]?=w.heap[k]?)∧Below B w w':=by
 have h':=h
 obtain⟨hB,⟨p,hp,hbk⟩,hown,hne⟩:=h
 have hlt:b<w.heap.size:=(Array.getElem?_eq_some_iff.1 hbk).1
 have c0:w.cell? ⟨b,0,none⟩=some p:=by rw[Lib.cell_of_heap hbk];rfl
 have f0:w.frozen? ⟨b,0,none⟩=false:=Lib.frozen_of_heap hbk 0
 rcases hp with rfl | rfl
 ·refine (Tryz.copyCheck_fresh b w c0 (by simp[World.shape?,hbk]) f0).mono ?_
  rintro e w' ⟨rfl,rfl⟩
  have hb':(w.setCell ⟨b,0,none⟩ (.pointer (some ⟨b,0,none⟩))).heap[b]?=some (.cells #[.pointer (some ⟨b,0,none⟩),v] 77 (0,0)):=by
   simp only[World.setCell,Array.getElem?_modify,hbk]
   simp
  have ho:∀ k,k≠b→(w.setCell ⟨b,0,none⟩ (.pointer (some ⟨b,0,none⟩))).heap[k]?=w.heap[k]?:=fun k hk=>Below.heap_setCell w _ _ k hk
  refine⟨rfl,hb',⟨hB,⟨_,.inr rfl,hb'⟩,?_,hne⟩,ho,(Below.refl B w).setCell (p:=⟨b,0,none⟩) hB _⟩
  refine⟨hown.1,?_⟩
  rcases hown.2 with h | ⟨g,cap,cur,fz,q1,q2,q3,q4⟩
  ·exact .inl h
  ·exact .inr ⟨g,cap,cur,fz,q1,q2,(ho g (fun e=>hne (by rw[q1,e];rfl))).trans q3,q4⟩
 ·refine (Tryz.copyCheck_used b w c0).mono ?_
  rintro e w' ⟨rfl,rfl⟩
  exact⟨rfl,hbk,h',fun _ _=>rfl,Below.refl B _⟩
theorem WriteByte_any (B b:Nat) (v:Value) (bs:List Value) (c:Int) (w:World) (h:Bld 77 5 B b v bs w) (hlen:bs.length+1≤140737488355328) (hBw:B≤w.heap.size) :
  Calls Tryz.prog 122 #[.pointer (some ⟨b,0,none⟩),.int .u8 c] w fun e w'=>e=.returned .nilIface∧∃ v',Bld 77 5 B b v' (bs++[.int .u8 c]) w'∧Go.Proofs.YtgiojkhmkeocfaaGreatDoor.Tx.Aside b v w w'∧Fresh v v' w∧Below B w w':=by
 obtain⟨i0,hi,hz0,hz1,hz2⟩:=info_parts infoU8
 go_enter Tryz.func122,Tryz.ntmps122
 go_wp2_with (go_at_call 80;refine (copyCheck_any B b v bs _ h).mono ?_)
 rintro e w1 ⟨rfl,hbk,⟨hB,_,hown,hne⟩,ho1,hb1⟩
 have c0:w1.cell? ⟨b,0,none⟩=some (.pointer (some ⟨b,0,none⟩)):=by rw[Lib.cell_of_heap hbk];rfl
 have c1:w1.cell? ⟨b,1,none⟩=some v:=by rw[Lib.cell_of_heap hbk];rfl
 have hlt:b<w1.heap.size:=(Array.getElem?_eq_some_iff.1 hbk).1
 go_wp2_with (at_builtin;refine wpList_append_ownX _ rfl _ _ 75 rfl B 5 i0 (.int .u8 0) 1 1 Tryz.underlying75 hi hz0 hz1 hz2 rfl (by decide) _ _ _ rfl (hown.alloc _) ⟨w1.heap.size,0,none⟩ 1 1 [.int .u8 c] rfl rfl ?c1 ?c2 ?c3 ?c4 ?c5 ?_)
 case c1 =>
  intro j u hj
  match j,hj with
  | 0,hj=>simp at hj;subst hj;simp[Addr.add]
 case c2=>intro u hu;simp at hu;subst hu;rfl
 case c3=>unfold maxLen;omega
 case c4=>omega
 case c5=>have:=hb1.size;simp;omega
 intro v' w2 hown' hgrow hfr
 have hb2:w2.heap[b]?=some (.cells #[.pointer (some ⟨b,0,none⟩),v] 77 (0,0)):=by
  rw[hgrow.block b (by simp;omega) (fun e=>hne e.symm),Lib.alloc_old w1 _ b hlt]
  exact hbk
 have d0:w2.cell? ⟨b,0,none⟩=some (.pointer (some ⟨b,0,none⟩)):=by rw[Lib.cell_of_heap hb2];rfl
 have d1:w2.cell? ⟨b,1,none⟩=some v:=by rw[Lib.cell_of_heap hb2];rfl
 have f1:w2.frozen? ⟨b,1,none⟩=false:=Lib.frozen_of_heap hb2 1
 obtain⟨g,cap,rfl⟩:∃ g cap,v'=.slice (some ⟨g,0,none⟩) (bs.length+1) cap:=by
  rcases hown'.2 with ⟨_,h0⟩ | ⟨g,cap,cur,fz,hv,_⟩
  ·omega
  ·exact⟨g,cap,hv⟩
 go_wp2
 go_ret
 refine⟨rfl,_,Bld.put hB (.inr rfl) hb2 (by simpa using hown') (by decide),?_,?_,?_⟩
 ·intro k hk hkb hkv
  rw[Below.heap_setCell w2 _ _ k hkb,hgrow.block k (by have:=hb1.size;simp;omega) (fun e=>hkv e.symm),Lib.alloc_old w1 _ k (by have:=hb1.size;omega)]
  exact ho1.out k hkb
 ·rcases hfr with h | ⟨g',h,h2⟩
  ·exact .inl h
  ·exact .inr ⟨g',h,by have:=hb1.size;omega⟩
 ·exact ((hb1.alloc (by have:=hb1.size;omega) _).grown hgrow (by have:=hb1.size;simp;omega) (fun k hk=>(hown.lt k hk).1)).setCell (p:=⟨b,1,none⟩) hB _
end

end Go.Proofs.YtgiojkhmkeocfaaGreatDoor
