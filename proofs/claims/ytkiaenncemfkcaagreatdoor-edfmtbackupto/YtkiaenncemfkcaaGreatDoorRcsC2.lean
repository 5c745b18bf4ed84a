/-
  Texts that belong together, joined: EfMath, EfM2, EfCw, EfBk, EfCp, EfBl, EfCh.
-/
import Derived.Test.YtkiaenncemfkcaaGreatDoorRcsA11
import Derived.Test.YtkiaenncemfkcaaGreatDoorRcsC1

set_option maxHeartbeats 16000000
set_option maxRecDepth 100000
namespace Go.Proofs.YtkiaenncemfkcaaGreatDoor

section
open Ln
def shB:List UInt8:=[115,47,46,47,47]
def shL:List UInt8:=[115,47,46,47,47,10]
def dotsL:List (List UInt8):=[[46,46,10],[46,10],shL]
def txF:Bool→List (List UInt8)→List (List UInt8)
 | true,[]=>[[46,10]]
 | false,[]=>[]
 | o,s::l=>(if o=true then [] else [[97,10]])++(if bareT s=[46] then dotsL++txF false l else (bareT s++[10])::txF true l)
def edC (c:Ch):List UInt8:=if c.AN=0 then Lib.itoa c.A++[97] else if c.BN=0 then rngT c.A c.AN++[100] else rngT c.A c.AN++[99]
def edL (b:List (List UInt8)) (c:Ch):List (List UInt8):=(edC c++[10])::(if c.BN=0 then [] else txF true (cut b c.B c.BN))
def lkB (b:List (List UInt8)):Bool:=match b.getLast? with
 | none=>false
 | some s=>!fdB s
def endL (b:List (List UInt8)):List (List UInt8):=if lkB b=true then [markT] else []
def epL (l:List Ch) (b:List (List UInt8)):List (List UInt8):=l.reverse.flatMap (edL b)++endL b
def epT (l:List Ch) (b:List (List UInt8)):List UInt8:=(epL l b).flatten
def txR:Nat→List (List UInt8)→Except (Nat × Int) (List (List UInt8) × Nat × List (List UInt8))
 | p,[]=>.error (p+1,1)
 | p,s::r=>if fdB s=true then if s.dropLast=[46] then .ok ([],p+1,r) else match txR (p+1) r with
   | .error e=>.error e
   | .ok (l,q,r2)=>.ok (s.dropLast::l,q,r2)
  else .error (p+1,3)
def cmF (s:List UInt8):Option (Int × Int × Bool) :=
 match s.getLast? with
 | none=>none
 | some c=>if c=97 then (if Pn.parseE s.dropLast=0 then some (Pn.parseV s.dropLast,Pn.parseV s.dropLast,true) else none)
  else if c=99 then (match lnsP s.dropLast with
   | none=>none
   | some (p,n)=>some (p-1,p-1+n,true))
  else if c=100 then (match lnsP s.dropLast with
   | none=>none
   | some (p,n)=>some (p-1,p-1+n,false))
  else none
def mkB:List UInt8:=[92,32,78,111,32,110,101,119,108,105,110,101,32,97,116,32,101,110,100,32,111,102,32,102,105,108,101]
def doE (tx:Bool) (p:Nat) (r:List (List UInt8)):Except (Nat × Int) (List (List UInt8) × Nat × List (List UInt8)):=if tx=true then txR p r else .ok ([],p,r)
def putE (T:List (List UInt8)) (i j:Nat) (l:List (List UInt8)):List (List UInt8):=T.take i++(l++T.drop j)
def curE (i:Nat) (l:List (List UInt8)):Nat:=if l.length=0 then 0 else i+l.length
def dodE (T:List (List UInt8)) (i j:Nat) (tx:Bool) (p:Nat) (r:List (List UInt8)):Except (Nat × Int) (List (List UInt8) × Nat × Nat × List (List UInt8)) :=
 match doE tx p r with
 | .error e=>.error e
 | .ok (l,q,r2)=>.ok (putE T i j l,curE i l,q,r2)
def stE (p:Nat) (s:List UInt8) (r T:List (List UInt8)) (cur:Nat):Except (Nat × Int) (List (List UInt8) × Nat × Nat × List (List UInt8)) :=
 if s=shB then if cur=0∨T.getD (cur-1) []=[] then .error (p+1,130) else .ok (T.set (cur-1) (T.getD (cur-1) []).tail,cur,p+1,r)
 else if s=[97] then if cur=0 then .error (p+1,130) else dodE T cur cur true (p+1) r
 else match cmF s with
  | none=>.error (p+1,3)
  | some (i,j,tx)=>if (T.length:Int)<j then .error (p+1,2) else dodE T i.toNat j.toNat tx (p+1) r
def resE (T:List (List UInt8)) (en:Bool):List (List UInt8):=(T.take (T.length-(if en=true then 1 else 0))).map (·++[10])++T.drop (T.length-(if en=true then 1 else 0))
def sdE (p:Nat) (s:List UInt8) (r T:List (List UInt8)) (cur:Nat) (en:Bool):Except (Nat × Int) (List (List UInt8) × Nat × Bool × Nat × List (List UInt8)) :=
 if fdB s=true then if en=true then .error (p+1,7) else if s.dropLast=mkB then .ok (T,cur,true,p+1,r) else match stE p s.dropLast r T cur with
  | .error e=>.error e
  | .ok (T1,c1,q,r2)=>.ok (T1,c1,false,q,r2)
 else .error (p+1,3)
def runE:Nat→Nat→List (List UInt8)→List (List UInt8)→Nat→Bool→Except (Nat × Int) (List (List UInt8))
 | 0,_,_,T,_,en=>.ok (resE T en)
 | _+1,_,[],T,_,en=>.ok (resE T en)
 | f+1,p,s::r,T,cur,en=>match sdE p s r T cur en with
  | .error e=>.error e
  | .ok (T1,c1,e1,q,r2)=>runE f q r2 T1 c1 e1
def edR (t:List UInt8) (a:List (List UInt8)):Except (Nat × Int) (List (List UInt8)):=if 1048576<t.length then .error (0,9) else runE (splitL t).length 0 (splitL t) (a.map bareT) 0 false
theorem ZwC (f p:Nat) (T:List (List UInt8)) (cur:Nat) (en:Bool):runE f p [] T cur en=.ok (resE T en):=by cases f<;>rfl
theorem ZAl:∀ {r:List (List UInt8)} {p q:Nat} {l r2:List (List UInt8)},txR p r=.ok (l,q,r2)→r2.length<r.length∧q+r2.length=p+r.length
 | [],p,q,l,r2,h=>by cases h
 | s::r,p,q,l,r2,h=>by
  simp only[txR] at h
  split at h
  ·split at h
   ·cases h
    simp only[List.length_cons]
    omega
   ·split at h
    ·cases h
    ·rename_i l' q' r' h'
     cases h
     have:=ZAl h'
     simp only[List.length_cons]
     omega
  ·cases h
theorem ZAk:∀ {r:List (List UInt8)} {p q:Nat} {l r2:List (List UInt8)},txR p r=.ok (l,q,r2)→p≤q∧r2=r.drop (q-p)
 | [],p,q,l,r2,h=>by cases h
 | s::r,p,q,l,r2,h=>by
  simp only[txR] at h
  split at h
  ·split at h
   ·cases h
    refine⟨by omega,?_⟩
    rw[show p+1-p=1 by omega]
    rfl
   ·split at h
    ·cases h
    ·rename_i l' q' r' h'
     cases h
     have:=ZAk h'
     refine⟨by omega,?_⟩
     rw[this.2,show q-p=(q-(p+1))+1 by omega,List.drop_succ_cons]
  ·cases h
def Runs (p:Nat) (ls T:List (List UInt8)) (cur:Nat) (p':Nat) (ls' T':List (List UInt8)) (cur':Nat):Prop :=
 ∀ f,ls.length≤f→∃ f',ls'.length≤f'∧runE f p ls T cur false=runE f' p' ls' T' cur' false
theorem Runs.refl (p:Nat) (ls T:List (List UInt8)) (cur:Nat):Runs p ls T cur p ls T cur:=fun f hf=>⟨f,hf,rfl⟩
theorem Runs.trans {p p1 p2:Nat} {ls ls1 ls2 T T1 T2:List (List UInt8)} {c c1 c2:Nat} (h:Runs p ls T c p1 ls1 T1 c1) (k:Runs p1 ls1 T1 c1 p2 ls2 T2 c2):Runs p ls T c p2 ls2 T2 c2:=fun f hf=>by
 obtain⟨f1,h1,e1⟩:=h f hf
 obtain⟨f2,h2,e2⟩:=k f1 h1
 exact⟨f2,h2,e1.trans e2⟩
theorem Runs.step {p q:Nat} {s:List UInt8} {r r2 T T1:List (List UInt8)} {cur c1:Nat} (hm:s≠mkB) (h:stE p s r T cur=.ok (T1,c1,q,r2)) (hl:r2.length≤r.length):Runs p ((s++[10])::r) T cur q r2 T1 c1:=fun f hf=>by
 cases f with
 | zero=>simp at hf
 | succ f =>
  refine⟨f,by simp only[List.length_cons] at hf;omega,?_⟩
  have e:sdE p (s++[10]) r T cur false=.ok (T1,c1,false,q,r2):=by
   unfold sdE
   rw[if_pos (Ziq s),if_neg (by decide),List.dropLast_concat,if_neg hm,h]
  rw[runE,e]
def sgF:List (List UInt8)→List (List UInt8)
 | []=>[]
 | s::l=>if bareT s=[46] then [[46,46]] else bareT s::sgF l
def rsF:List (List UInt8)→List (List UInt8)
 | []=>[]
 | s::l=>if bareT s=[46] then shL::txF false l else rsF l
theorem ZAm (R:List (List UInt8)):∀ (L:List (List UInt8)) (p:Nat),∃ q,txR p (txF true L++R)=.ok (sgF L,q,rsF L++R)
 | [],p=>⟨p+1,by simp[txF,txR,sgF,rsF,fdB]⟩
 | s::l,p=>by
  by_cases h:bareT s=[46]
  ·refine⟨p+1+1,?_⟩
   simp[txF,h,dotsL,txR,sgF,rsF,fdB]
  ·obtain⟨q,hq⟩:=ZAm R l (p+1)
   refine⟨q,?_⟩
   have e:txF true (s::l)++R=(bareT s++[10])::(txF true l++R):=by simp[txF,h]
   rw[e,txR,if_pos (Ziq _),List.dropLast_concat,if_neg h,hq]
   simp[sgF,rsF,h]
theorem ZxX:∀ (L:List (List UInt8)),(sgF L=L.map bareT∧rsF L=[])∨∃ L1 s L2,L=L1++s::L2∧bareT s=[46]∧sgF L=L1.map bareT++[[46,46]]∧rsF L=shL::txF false L2
 | []=>.inl ⟨rfl,rfl⟩
 | s::l=>by
  by_cases h:bareT s=[46]
  ·exact .inr ⟨[],s,l,rfl,h,by simp[sgF,h],by simp[rsF,h]⟩
  ·rcases ZxX l with ⟨h1,h2⟩ | ⟨L1,t,L2,h1,h2,h3,h4⟩
   ·exact .inl ⟨by simp[sgF,h,h1],by simp[rsF,h,h2]⟩
   ·exact .inr ⟨s::L1,t,L2,by rw[h1];rfl,h2,by simp[sgF,h,h3],by simp[rsF,h,h4]⟩
theorem ZAh {s:List UInt8} {l:List (List UInt8)}:txF false (s::l)=[97,10]::txF true (s::l):=by simp[txF]
theorem ZtE (T X Y:List (List UInt8)) (i j:Nat) (hi:i≤T.length):putE (putE T i j X) (i+X.length) (i+X.length) Y=putE T i j (X++Y):=by
 have l1:(T.take i).length=i:=by rw[List.length_take];omega
 unfold putE
 have e1:(T.take i++(X++T.drop j)).take (i+X.length)=T.take i++X:=by
  rw[← List.append_assoc,List.take_append_of_le_length (by rw[List.length_append,l1];omega),List.take_of_length_le (by rw[List.length_append,l1];omega)]
 have e2:(T.take i++(X++T.drop j)).drop (i+X.length)=T.drop j:=by
  rw[← List.append_assoc,List.drop_append_of_le_length (by rw[List.length_append,l1];omega),List.drop_of_length_le (by rw[List.length_append,l1];omega),List.nil_append]
 rw[e1,e2]
 simp
theorem ZtD (T X:List (List UInt8)) (i j:Nat) (hi:i≤T.length):i+X.length≤(putE T i j X).length:=by
 unfold putE
 simp only[List.length_append,List.length_take,List.length_drop]
 omega
theorem ZtC (R:List (List UInt8)):∀ (n:Nat) (L:List (List UInt8)),L.length≤n→L≠[]→∀ (T:List (List UInt8)) (i j q:Nat),i≤T.length→∃ q' c',Runs q (rsF L++R) (putE T i j (sgF L)) (curE i (sgF L)) q' R (putE T i j (L.map bareT)) c':=by
 intro n
 induction n with
 | zero =>
  intro L hn h0
  exact absurd (List.eq_nil_of_length_eq_zero (by omega)) h0
 | succ n ih =>
  intro L hn h0 T i j q hi
  rcases ZxX L with ⟨h1,h2⟩ | ⟨L1,s,L2,hL,hs,h3,h4⟩
  ·rw[h1,h2]
   exact⟨q,_,Runs.refl _ _ _ _⟩
  ·rw[h3,h4]
   have hcur:curE i (L1.map bareT++[[46,46]])=i+L1.length+1:=by
    unfold curE
    rw[if_neg (by simp)]
    simp
    omega
   have l1:(T.take i).length=i:=by rw[List.length_take];omega
   have hg:∀ z:List UInt8,(putE T i j (L1.map bareT++[z]))=(T.take i++L1.map bareT)++z::T.drop j:=fun z=>by simp[putE]
   have hlen:(T.take i++L1.map bareT).length=i+L1.length:=by rw[List.length_append,l1,List.length_map]
   have hget:(putE T i j (L1.map bareT++[[46,46]])).getD (i+L1.length+1-1) []=[46,46]:=by
    rw[hg,List.getD_eq_getElem?_getD,List.getElem?_append_right (by omega),hlen,show i+L1.length+1-1-(i+L1.length)=0 by omega]
    rfl
   have hset:(putE T i j (L1.map bareT++[[46,46]])).set (i+L1.length+1-1) [46]=putE T i j (L1.map bareT++[[46]]):=by
    rw[hg,hg,List.set_append_right _ _ (by omega),hlen,show i+L1.length+1-1-(i+L1.length)=0 by omega]
    rfl
   have s1:stE q shB (txF false L2++R) (putE T i j (L1.map bareT++[[46,46]])) (i+L1.length+1)=.ok (putE T i j (L1.map bareT++[[46]]),i+L1.length+1,q+1,txF false L2++R):=by
    unfold stE
    rw[if_pos rfl,hget,if_neg (by simp),List.tail_cons,hset]
   have r1:Runs q (shL::txF false L2++R) (putE T i j (L1.map bareT++[[46,46]])) (i+L1.length+1) (q+1) (txF false L2++R) (putE T i j (L1.map bareT++[[46]])) (i+L1.length+1):=Runs.step (s:=shB) (by decide) s1 (Nat.le_refl _)
   rw[hcur]
   cases L2 with
   | nil =>
    refine⟨q+1,i+L1.length+1,?_⟩
    have e:L.map bareT=L1.map bareT++[[46]]:=by rw[hL];simp[hs]
    rw[e]
    exact r1
   | cons t L2 =>
    obtain⟨q2,hq2⟩:=ZAm R (t::L2) (q+1+1)
    have hX:(L1.map bareT++[[46]]).length=L1.length+1:=by simp
    have s2:stE (q+1) [97] (txF true (t::L2)++R) (putE T i j (L1.map bareT++[[46]])) (i+L1.length+1)=.ok (putE (putE T i j (L1.map bareT++[[46]])) (i+L1.length+1) (i+L1.length+1) (sgF (t::L2)),curE (i+L1.length+1) (sgF (t::L2)),q2,rsF (t::L2)++R):=by
     unfold stE
     rw[if_neg (by decide),if_pos rfl,if_neg (by omega)]
     unfold dodE doE
     rw[if_pos rfl,hq2]
    have hle:=(ZAl hq2).1
    have r2:=Runs.step (s:=[97]) (by decide) s2 (Nat.le_of_lt hle)
    have hpl:=ZtD T (L1.map bareT++[[46]]) i j hi
    rw[hX] at hpl
    obtain⟨q3,c3,r3⟩:=ih (t::L2) (by rw[hL] at hn;simp at hn ⊢;omega) (by simp) (putE T i j (L1.map bareT++[[46]])) (i+L1.length+1) (i+L1.length+1) q2 (by omega)
    have e:=ZtE T (L1.map bareT++[[46]]) ((t::L2).map bareT) i j hi
    rw[hX,← Nat.add_assoc] at e
    rw[e] at r3
    have e2:L.map bareT=(L1.map bareT++[[46]])++(t::L2).map bareT:=by rw[hL];simp[hs]
    refine⟨q3,c3,?_⟩
    rw[e2]
    rw[ZAh] at r1
    exact r1.trans (r2.trans r3)
theorem Zgo {s:List UInt8} {t:List UInt8} (hs:∀ c∈s,Pn.digB c=true) (h0:s≠[]):s++t≠shB∧s++t≠[97]∧s++t≠mkB:=by
 cases s with
 | nil=>exact absurd rfl h0
 | cons c s =>
  have h:=Pn.digB_out (hs c (by simp))
  refine⟨?_,?_,?_⟩<;>(intro e;rw[List.cons_append] at e;injection e with e1 _;rw[e1] at h;simp at h)
theorem ZvY {p n:Int} (t:List UInt8) (hp:0≤p):rngT p n++t≠shB∧rngT p n++t≠[97]∧rngT p n++t≠mkB:=by
 unfold rngT
 split
 ·exact Zgo (Zmr (by omega)) (Zmt (by omega))
 ·rw[List.append_assoc]
  exact Zgo (Zmr (by omega)) (Zmt (by omega))
theorem Zgy {c:Ch} (hn:numB c=true) (hA:c.A+c.AN≤2147483647):(edC c≠shB∧edC c≠[97]∧edC c≠mkB)∧cmF (edC c)=some (c.A,c.A+c.AN,decide (c.BN≠0)):=by
 have h:=(Zqy c).1 hn
 unfold edC
 by_cases h1:c.AN=0
 ·rw[if_pos h1]
  refine⟨Zgo (Zmr (by omega)) (Zmt (by omega)),?_⟩
  obtain⟨e1,e2⟩:=ZrW (n:=c.A) (by omega) (by omega)
  unfold cmF
  rw[List.getLast?_concat,List.dropLast_concat]
  simp only[if_true]
  rw[if_pos e2,e1,h1,Int.add_zero,decide_eq_true (by omega:c.BN≠0)]
 ·rw[if_neg h1]
  by_cases h2:c.BN=0
  ·rw[if_pos h2]
   refine⟨ZvY _ (by omega),?_⟩
   unfold cmF
   rw[List.getLast?_concat,List.dropLast_concat]
   simp only
   rw[if_neg (by decide),if_neg (by decide),if_pos trivial,Zod (by omega) (by omega) hA]
   simp only[Int.add_sub_cancel]
   rw[decide_eq_false (by omega:¬ c.BN≠0)]
  ·rw[if_neg h2]
   refine⟨ZvY _ (by omega),?_⟩
   unfold cmF
   rw[List.getLast?_concat,List.dropLast_concat]
   simp only
   rw[if_neg (by decide),if_pos trivial,Zod (by omega) (by omega) hA]
   simp only[Int.add_sub_cancel]
   rw[decide_eq_true (by omega:c.BN≠0)]
theorem ZdN {c:Ch} {b:List (List UInt8)} (hn:numB c=true) (hA:c.A+c.AN≤2147483647) (hB:c.B+c.BN≤b.length) (R T:List (List UInt8)) (hT:c.A+c.AN≤T.length) (p cur:Nat) :
  ∃ p' c',Runs p (edL b c++R) T cur p' R (putE T c.A.toNat (c.A+c.AN).toNat ((cut b c.B c.BN).map bareT)) c':=by
 have h:=(Zqy c).1 hn
 obtain⟨⟨n1,n2,n3⟩,hc⟩:=Zgy hn hA
 unfold edL
 by_cases h2:c.BN=0
 ·rw[if_pos h2]
  have e:(cut b c.B c.BN).map bareT=[]:=by rw[h2];simp[cut]
  rw[e]
  refine⟨p+1,curE c.A.toNat [],Runs.step n3 ?_ (Nat.le_refl _)⟩
  unfold stE
  rw[if_neg n1,if_neg n2,hc]
  simp only
  rw[if_neg (by omega)]
  unfold dodE doE
  rw[if_neg (by simp[h2])]
  rfl
 ·rw[if_neg h2]
  have hl:((cut b c.B c.BN).length:Int)=c.BN:=ZkA (by omega) (by omega) hB
  obtain⟨q,hq⟩:=ZAm R (cut b c.B c.BN) (p+1)
  have s1:stE p (edC c) (txF true (cut b c.B c.BN)++R) T cur=.ok (putE T c.A.toNat (c.A+c.AN).toNat (sgF (cut b c.B c.BN)),curE c.A.toNat (sgF (cut b c.B c.BN)),q,rsF (cut b c.B c.BN)++R):=by
   unfold stE
   rw[if_neg n1,if_neg n2,hc]
   simp only
   rw[if_neg (by omega)]
   unfold dodE doE
   rw[if_pos (by simp[h2]),hq]
  have r1:=Runs.step n3 s1 (Nat.le_of_lt (ZAl hq).1)
  obtain⟨q2,c2,r2⟩:=ZtC R _ (cut b c.B c.BN) (Nat.le_refl _) (by intro e;rw[e] at hl;simp at hl;omega) T c.A.toNat (c.A+c.AN).toNat q (by omega)
  exact⟨q2,c2,r1.trans r2⟩
theorem Zen {a b:List (List UInt8)} (hal:a.length≤2147483647) (l:List Ch):∀ (fl:Bool) (x y:Int),0≤x→0≤y→Right fl x y a.length b.length l→∀ (X R:List (List UInt8)),(X.length:Int)=x→∀ (p cur:Nat),∃ p' c',Runs p (l.reverse.flatMap (edL b)++R) (X++(a.drop x.toNat).map bareT) cur p' R (X++((piecesL x y a.length b.length l).flatMap (pa a b)).map bareT) c':=by
 induction l with
 | nil =>
  intro fl x y hx hy hr X R hX p cur
  obtain⟨h1,h2,h3⟩:=hr
  refine⟨p,cur,?_⟩
  have e:(piecesL x y a.length b.length []).flatMap (pa a b)=a.drop x.toNat:=by
   simp only[piecesL,List.flatMap_cons,List.flatMap_nil,List.append_nil,pa]
   have e1:cut b (b.length:Int) 0=[]:=by simp[cut]
   rw[e1,List.append_nil,cut,List.take_of_length_le (by rw[List.length_drop];omega)]
  rw[e]
  exact Runs.refl _ _ _ _
 | cons c l ih =>
  intro fl x y hx hy hr X R hX p cur
  obtain⟨⟨h1,h2,h3,h4⟩,h5⟩:=hr
  have hn:=(Zqy c).1 h1
  have hle:=h5.le
  obtain⟨d,hd⟩:∃ d,(a.drop x.toNat)=d:=⟨_,rfl⟩
  have hdl:d.length=a.length-x.toNat:=by rw[← hd,List.length_drop]
  have hd2:a.drop (c.A+c.AN).toNat=d.drop (c.A+c.AN-x).toNat:=by
   rw[← hd,List.drop_drop]
   congr 1
   omega
  have hc1:cut a x (c.A-x)=d.take (c.A-x).toNat:=by rw[cut,hd]
  obtain⟨X2,hX2⟩:∃ X2,X++(d.take (c.A+c.AN-x).toNat).map bareT=X2:=⟨_,rfl⟩
  have hX2l:(X2.length:Int)=c.A+c.AN:=by
   rw[← hX2,List.length_append,List.length_map,List.length_take]
   omega
  have e0:X++d.map bareT=X2++(a.drop (c.A+c.AN).toNat).map bareT:=by
   rw[← hX2,hd2,List.append_assoc,← List.map_append,List.take_append_drop]
  have er:(c::l).reverse.flatMap (edL b)++R=l.reverse.flatMap (edL b)++(edL b c++R):=by
   rw[List.reverse_cons,List.flatMap_append,List.flatMap_singleton,List.append_assoc]
  obtain⟨p1,c1,r1⟩:=ih false (c.A+c.AN) (c.B+c.BN) (by omega) (by omega) h5 X2 (edL b c++R) hX2l p cur
  obtain⟨Y,hY⟩:∃ Y,(piecesL (c.A+c.AN) (c.B+c.BN) a.length b.length l).flatMap (pa a b)=Y:=⟨_,rfl⟩
  rw[hY] at r1
  obtain⟨p2,c2,r2⟩:=ZdN (b:=b) h1 (by omega) (by omega) R (X2++Y.map bareT) (by rw[List.length_append];omega) p1 c1
  refine⟨p2,c2,?_⟩
  rw[er,hd,e0]
  have ef:X++((piecesL x y a.length b.length (c::l)).flatMap (pa a b)).map bareT=putE (X2++Y.map bareT) c.A.toNat (c.A+c.AN).toNat ((cut b c.B c.BN).map bareT):=by
   simp only[piecesL,List.flatMap_cons,hY,pa]
   unfold putE
   have t1:(X2++Y.map bareT).drop (c.A+c.AN).toNat=Y.map bareT:=by
    rw[List.drop_append_of_le_length (by omega),List.drop_of_length_le (by omega),List.nil_append]
   have t2:(X2++Y.map bareT).take c.A.toNat=X++(cut a x (c.A-x)).map bareT:=by
    rw[List.take_append_of_le_length (by omega),← hX2,List.take_append,List.take_of_length_le (by omega),hc1,← List.map_take,List.take_take]
    congr 4
    omega
   rw[t1,t2]
   simp
  rw[ef]
  exact r1.trans r2
end

section
open Ln
theorem ZgR {s:List UInt8} (h:fdB s=true):bareT s++[10]=s:=by
 unfold bareT
 rw[if_pos h]
 exact (Zin h).symm
theorem ZgS {s:List UInt8} (h:fdB s=false):bareT s=s:=by
 unfold bareT
 rw[if_neg (by rw[h];decide)]
theorem ZgQ {s:List UInt8} (h:linB s=true):∀ c∈bareT s,c≠10:=by
 obtain⟨h0,h1⟩:=ZnK h
 cases hf:fdB s with
 | true =>
  unfold bareT
  rw[if_pos hf]
  exact h1
 | false =>
  rw[ZgS hf]
  intro c hc e
  subst e
  rcases List.eq_nil_or_concat s with rfl | ⟨q,y,rfl⟩
  ·cases hc
  ·rw[List.concat_eq_append] at hc hf h1
   rcases List.mem_append.1 hc with hc | hc
   ·exact h1 10 (by simpa using hc) rfl
   ·have:y=10:=(List.mem_singleton.1 hc).symm
    subst this
    rw[Ziq] at hf
    cases hf
theorem Zwn {b:List (List UInt8)} (h:Rows b):∀ s∈b.dropLast,fdB s=true:=by
 induction b with
 | nil=>intro s hs;cases hs
 | cons x t ih =>
  intro s hs
  cases t with
  | nil=>cases hs
  | cons y t =>
   rw[List.dropLast_cons_of_ne_nil (by simp)] at hs
   rcases List.mem_cons.1 hs with rfl | hs
   ·exact h.2.1 (by simp)
   ·exact ih h.2.2 s hs
theorem ZoX {x:List (List UInt8)} (h:∀ s∈x,fdB s=true):(x.map bareT).map (·++[10])=x:=by
 induction x with
 | nil=>rfl
 | cons s x ih =>
  rw[List.map_cons,List.map_cons,ih fun t ht=>h t (by simp[ht]),ZgR (h s (by simp))]
theorem ZuX {b:List (List UInt8)} (h:Rows b):resE (b.map bareT) (lkB b)=b:=by
 rcases List.eq_nil_or_concat b with rfl | ⟨x,z,rfl⟩
 ·rfl
 ·rw[List.concat_eq_append] at h ⊢
  have hi:=Zwn h
  rw[List.dropLast_concat] at hi
  have hl:lkB (x++[z])=!fdB z:=by
   unfold lkB
   rw[List.getLast?_concat]
  rw[hl]
  unfold resE
  rw[List.map_append]
  have e:((x.map bareT)++[z].map bareT).length=x.length+1:=by simp
  rw[e]
  cases hf:fdB z with
  | true =>
   rw[show (!true)=false from rfl,if_neg (by decide),Nat.sub_zero,List.take_of_length_le (by omega),List.drop_of_length_le (by omega),List.append_nil,List.map_append,ZoX hi]
   simp[ZgR hf]
  | false =>
   rw[show (!false)=true from rfl,if_pos rfl,Nat.add_sub_cancel]
   have e1:(x.map bareT++[z].map bareT).take x.length=x.map bareT:=by
    rw[List.take_append_of_le_length (by simp),List.take_of_length_le (by simp)]
   have e2:(x.map bareT++[z].map bareT).drop x.length=[z]:=by
    rw[List.drop_append_of_le_length (by simp),List.drop_of_length_le (by simp)]
    simp[ZgS hf]
   rw[e1,e2,ZoX hi]
theorem Ziv (L:List (List UInt8)) (h:∀ s∈L,linB s=true):∀ o,Fed (txF o L):=by
 induction L with
 | nil =>
  intro o
  cases o with
  | true =>
   intro s hs
   rw[List.mem_singleton.1 hs]
   exact⟨[46],rfl,by decide⟩
  | false =>
   intro s hs
   cases hs
 | cons x L ih =>
  intro o s hs
  have hih:=ih fun t ht=>h t (by simp[ht])
  simp only[txF] at hs
  rcases List.mem_append.1 hs with hs | hs
  ·split at hs
   ·cases hs
   ·rw[List.mem_singleton.1 hs]
    exact⟨[97],rfl,by decide⟩
  ·split at hs
   ·rcases List.mem_append.1 hs with hs | hs
    ·unfold dotsL shL at hs
     simp only[List.mem_cons,List.not_mem_nil,or_false] at hs
     rcases hs with rfl | rfl | rfl
     ·exact⟨[46,46],rfl,by decide⟩
     ·exact⟨[46],rfl,by decide⟩
     ·exact⟨shB,rfl,by decide⟩
    ·exact hih false s hs
   ·rcases List.mem_cons.1 hs with rfl | hs
    ·exact⟨bareT x,rfl,ZgQ (h x (by simp))⟩
    ·exact hih true s hs
theorem Zgz {c:Ch} (hn:numB c=true):∀ x∈edC c,x≠10:=by
 have h:=(Zqy c).1 hn
 intro x hx
 unfold edC at hx
 split at hx
 ·rcases List.mem_append.1 hx with hx | hx
  ·exact (Zgn (Zmr (by omega) x hx)).2.2.1
  ·rw[List.mem_singleton.1 hx];decide
 ·split at hx
  ·rcases List.mem_append.1 hx with hx | hx
   ·exact (ZqD (Zwb (by omega) (by omega) x hx)).2.1
   ·rw[List.mem_singleton.1 hx];decide
  ·rcases List.mem_append.1 hx with hx | hx
   ·exact (ZqD (Zwb (by omega) (by omega) x hx)).2.1
   ·rw[List.mem_singleton.1 hx];decide
theorem Zis {l:List Ch} {b:List (List UInt8)} (hb:checkB b=true) (h:∀ c∈l,numB c=true):Fed (epL l b):=by
 intro s hs
 unfold epL at hs
 rcases List.mem_append.1 hs with hs | hs
 ·obtain⟨c,hc,hs⟩:=List.mem_flatMap.1 hs
  have hn:=h c (List.mem_reverse.1 hc)
  unfold edL at hs
  rcases List.mem_cons.1 hs with rfl | hs
  ·exact⟨edC c,rfl,Zgz hn⟩
  ·split at hs
   ·cases hs
   ·exact Ziv _ (Zwo (Zwl hb c.B c.BN)) true s hs
 ·unfold endL at hs
  split at hs
  ·rw[List.mem_singleton.1 hs]
   exact⟨markT.dropLast,rfl,by decide⟩
  ·cases hs
theorem ZyJ {l:List Ch} {b:List (List UInt8)} (hb:checkB b=true) (h:∀ c∈l,numB c=true):splitL (epT l b)=epL l b:=Zvv _ (Zir (Zis hb h))
theorem ZgD {l:List Ch} {a b:List (List UInt8)} (hs:Script l a.length b.length) (hb:checkB b=true) (hal:a.length≤2147483647) (same:∀ r∈U 0 0 a.length b.length l,a[r.a.toNat]?=b[r.b.toNat]?) :
  edR (epT l b) a=if 1048576<(epT l b).length then .error (0,9) else .ok b:=by
 have hm:=Zvs hs.2.2
 unfold edR
 rw[ZyJ hb fun c hc=>(hm c hc).1]
 split
 ·rfl
 ·obtain⟨p1,c1,r1⟩:=Zen hal l true 0 0 (Int.le_refl _) (Int.le_refl _) hs.2.2 [] (endL b) rfl 0 0
  rw[reach hs.2.2 (Int.le_refl _) (Int.le_refl _) same] at r1
  obtain⟨f,hf,e⟩:=r1 (epL l b).length (Nat.le_refl _)
  have e':runE (epL l b).length 0 (epL l b) (a.map bareT) 0 false=runE f p1 (endL b) (b.map bareT) c1 false:=e
  rw[e']
  have hR:=ZuX (Zwp hb)
  unfold endL at hf ⊢
  by_cases hk:lkB b=true
  ·rw[if_pos hk] at hf ⊢
   rw[hk] at hR
   cases f with
   | zero=>simp at hf
   | succ f =>
    have e1:sdE p1 markT [] (b.map bareT) c1 false=.ok (b.map bareT,c1,true,p1+1,[]):=by
     unfold sdE
     rw[if_pos (by decide),if_neg (by decide),if_pos (by decide)]
    rw[runE,e1]
    simp only
    rw[ZwC,hR]
  ·rw[if_neg hk]
   rw[Bool.eq_false_iff.2 hk] at hR
   rw[ZwC,hR]
def wrF:List (List UInt8)→List (List UInt8)
 | []=>[]
 | s::l=>(if bareT s=[46] then dotsL++(if l.length=0 then [] else [[97,10]]) else if l.length=0 then [bareT s++[10],[46,10]] else [bareT s++[10]])++wrF l
theorem ZBG:∀ (l:List (List UInt8)),l≠[]→wrF l=txF true l
 | [],h=>absurd rfl h
 | [s],_=>by
  by_cases h:bareT s=[46]
  ·simp[wrF,txF,h]
  ·simp[wrF,txF,h]
 | s::t::l,_=>by
  have hi:=ZBG (t::l) (by simp)
  rw[wrF,hi]
  by_cases h:bareT s=[46]
  ·have e:txF true (s::t::l)=dotsL++txF false (t::l):=by rw[txF];simp[h]
   rw[e,ZAh,if_pos h,if_neg (by simp)]
   simp
  ·have e:txF true (s::t::l)=(bareT s++[10])::txF true (t::l):=by rw[txF];simp[h]
   rw[e,if_neg h,if_neg (by simp)]
   rfl
end

section
open Go.RowKit
theorem ZAb (s:List UInt8):Lib.trimSuffix s [10]=bareT s:=by
 unfold Lib.trimSuffix bareT
 rw[Zzq,List.dropLast_eq_take]
 rfl
theorem Znk (l:List UInt8) (w:World) (hl:l.length≤9223372036854775807) :
  Calls Tryz.prog 46 #[.string ⟨l.toArray⟩] w fun e w'=>e=.returned (.tuple #[.string ⟨(bareT l).toArray⟩,.bool (fdB l)])∧w=w':=by
 go_enter Tryz.func46,Tryz.ntmps46
 go_wp2_with fail
 refine (Tryz.strings_CutSuffix ⟨l.toArray⟩ ⟨#[10]⟩ _ hl).mono ?_
 rintro e w1 ⟨rfl,rfl⟩
 go_wp2
 go_ret2
 rw[← ZAb,← Zzq]
 exact⟨rfl,rfl⟩
theorem Zhx (p n:Int) (h0:0≤p) (h1:p≤4611686018427387904) (h2:1≤n) (h3:n≤4611686018427387900) (w:World) (HT:Hid (Tab10 w)) (T:List UInt8) (HR:Hid (rngT p n=T)) :
  Calls Tryz.prog 45 #[.int .i64 (p+1),.int .i64 (p+n)] w fun e w'=>e=.returned (.string ⟨T.toArray⟩)∧Below w.heap.size w w':=by
 have l1:=Zmu (p+1) (by omega) (by omega)
 have l2:=Zmu (p+n) (by omega) (by omega)
 by_cases hN:n=1
 ·have HE1:Hid (Lib.itoa (p+1)=T):=(by have h:=HR.out;unfold rngT at h;rw[if_pos hN] at h;exact h)
  have e1:(p+1 == p+n)=true:=by rw[hN];simp
  clear HR hN
  go_enter Tryz.func45,Tryz.ntmps45
  go_wp2_with fail
  refine (ZpW (p+1) (by omega) (by omega) _ HT).mono ?_
  rintro e w1 ⟨rfl,hb1⟩
  go_wp2
  go_ret
  exact⟨by rw[← HE1.out];rfl,hb1⟩
 ·have HE:Hid (Lib.itoa (p+1)++44::Lib.itoa (p+n)=T):=(by have h:=HR.out;unfold rngT at h;rw[if_neg hN] at h;exact h)
  have e1:(p+1 == p+n)=false:=beq_eq_false_iff_ne.2 (by omega)
  clear HR hN
  have q1:=Zbw (x:=Lib.itoa (p+1)) (y:=[44]) (by unfold Fits;simp only[List.length_cons,List.length_nil];omega) Tryz.prog
  have q2:=Zbw (x:=Lib.itoa (p+1)++[44]) (y:=Lib.itoa (p+n)) (by unfold Fits;simp only[List.length_append,List.length_cons,List.length_nil];omega) Tryz.prog
  go_enter Tryz.func45,Tryz.ntmps45
  go_wp2_with fail
  refine (ZpW (p+1) (by omega) (by omega) _ HT).mono ?_
  rintro e w1 ⟨rfl,hb1⟩
  have HT1:Hid (Tab10 w1):=HT.out.on hb1
  go_wp2_with fail
  refine (ZpW (p+n) (by omega) (by omega) _ HT1).mono ?_
  rintro e w2 ⟨rfl,hb2⟩
  go_wp2
  go_ret
  exact⟨by rw[← HE.out];simp,hb1.trans (hb2.mono hb1.size)⟩
theorem ZgA {c:Ch} (h0:0≤c.A) (h1:c.A≤2147483647) (h2:0≤c.AN) (h3:c.AN≤2147483647):(edC c).length≤44:=by
 have r1:=Zwc c.A c.AN (by omega) (by omega) (by omega) (by omega)
 have r3:=Zmu c.A (by omega) (by omega)
 unfold edC
 split
 ·simp only[List.length_append,List.length_cons,List.length_nil];omega
 ·split<;>(simp only[List.length_append,List.length_cons,List.length_nil];omega)
theorem ZeS (c:Ch) (hA:0≤c.A∧c.A≤2147483647∧0≤c.AN∧c.AN≤2147483647) (w:World) (HT:Hid (Tab10 w)) (T:List UInt8) (HR:Hid (edC c=T)) :
  Calls Tryz.prog 23 #[chV c] w fun e w'=>e=.returned (.string ⟨T.toArray⟩)∧Below w.heap.size w w':=by
 have hbx:=Cs.fresh c w
 have r1:=Zwc c.A c.AN (by omega) (by omega) (by omega) (by omega)
 have r3:=Zmu c.A (by omega) (by omega)
 obtain⟨A,AN,B,BN⟩:=c
 have d0:=hbx.c0
 have d1:=hbx.c1
 have d3:=hbx.c3
 dsimp only at d0 d1 d3 hA r1 r3
 have hlow:=hbx.low
 have HT1:Hid (Tab10 (w.alloc (.cells #[.int .i64 A,.int .i64 AN,.int .i64 B,.int .i64 BN] 45))):=HT.out.on hlow
 clear hbx
 unfold chV
 dsimp only
 by_cases h1:AN=0
 ·have e1:(AN == 0)=true:=by rw[h1];rfl
  have HE:Hid (Lib.itoa A++[97]=T):=(by have h:=HR.out;unfold edC at h;rw[if_pos h1] at h;exact h)
  clear HR h1
  have q1:=Zbw (x:=Lib.itoa A) (y:=[97]) (by unfold Fits;simp only[List.length_cons,List.length_nil];omega) Tryz.prog
  go_enter Tryz.func23,Tryz.ntmps23
  go_wp2_with fail
  refine (ZpW A (by omega) (by omega) _ HT1).mono ?_
  rintro e w1 ⟨rfl,hb1⟩
  go_wp2
  go_ret
  exact⟨by rw[← HE.out];rfl,hlow.trans (hb1.mono hlow.size)⟩
 ·have e1:(AN == 0)=false:=beq_eq_false_iff_ne.2 h1
  obtain⟨R,HRR⟩:∃ R,Hid (rngT A AN=R):=⟨_,rfl⟩
  have hRl:R.length≤43:=by rw[← HRR.out];exact r1
  by_cases h2:BN=0
  ·have e2:(BN == 0)=true:=by rw[h2];rfl
   have HE:Hid (R++[100]=T):=(by have h:=HR.out;unfold edC at h;rw[if_neg h1,if_pos h2] at h;rw[← HRR.out];exact h)
   clear HR h2
   have q1:=Zbw (x:=R) (y:=[100]) (by unfold Fits;simp only[List.length_cons,List.length_nil];omega) Tryz.prog
   go_enter Tryz.func23,Tryz.ntmps23
   go_wp2_with fail
   refine (Zhx A AN (by omega) (by omega) (by omega) (by omega) _ HT1 R HRR).mono ?_
   rintro e w1 ⟨rfl,hb1⟩
   go_wp2
   go_ret
   exact⟨by rw[← HE.out];rfl,hlow.trans (hb1.mono hlow.size)⟩
  ·have e2:(BN == 0)=false:=beq_eq_false_iff_ne.2 h2
   have HE:Hid (R++[99]=T):=(by have h:=HR.out;unfold edC at h;rw[if_neg h1,if_neg h2] at h;rw[← HRR.out];exact h)
   clear HR h2
   have q1:=Zbw (x:=R) (y:=[99]) (by unfold Fits;simp only[List.length_cons,List.length_nil];omega) Tryz.prog
   go_enter Tryz.func23,Tryz.ntmps23
   go_wp2_with fail
   refine (Zhx A AN (by omega) (by omega) (by omega) (by omega) _ HT1 R HRR).mono ?_
   rintro e w1 ⟨rfl,hb1⟩
   go_wp2
   go_ret
   exact⟨by rw[← HE.out];rfl,hlow.trans (hb1.mono hlow.size)⟩
theorem ZhF (B b:Nat) (acc s:List UInt8) (w:World) (hB:Lib.IsBuilderF 59 5 B b (Lib.byteCells acc) w) (hBw:B≤w.heap.size) (hl:acc.length+s.length≤140737488355328) :
  Calls Tryz.prog 22 #[.pointer (some ⟨b,0,none⟩),.string ⟨s.toArray⟩] w fun e w'=>e=.returned (.tuple #[.int .i64 (s.length:Int),.nilIface])∧Lib.IsBuilderF 59 5 B b (Lib.byteCells (acc++s)) w'∧Below B w w'∧Lib.OthersKept 5 (some b) w w':=by
 refine (Tryz.WriteString_h B b _ ⟨s.toArray⟩ w hB (by rw[Zct];exact hl) hBw).mono ?_
 rintro e w' ⟨rfl,h1,h2,h3⟩
 exact⟨rfl,.inr (by rw[Lib.byteCells_append];exact h1),h2,h3⟩
def dotT (last:Bool):List UInt8:=[46,46,10,46,10,115,47,46,47,47,10]++if last=true then [] else [97,10]
theorem ZAW (B b:Nat) (acc:List UInt8) (last:Bool) (w:World) (hB:Lib.IsBuilderF 59 5 B b (Lib.byteCells acc) w) (hBw:B≤w.heap.size) (hl:acc.length≤70368744177664) :
  Calls Tryz.prog 47 #[.pointer (some ⟨b,0,none⟩),.bool last] w fun e w'=>e=.returned (.tuple #[])∧Lib.IsBuilderF 59 5 B b (Lib.byteCells (acc++dotT last)) w'∧Below B w w'∧Lib.OthersKept 5 (some b) w w':=by
 go_enter Tryz.func47,Tryz.ntmps47
 go_wp2_with fail
 refine (ZhF B b acc [46,46,10,46,10,115,47,46,47,47,10] w hB hBw (by simp only[List.length_cons,List.length_nil];omega)).mono ?_
 rintro e w1 ⟨rfl,hB1,hb1,ho1⟩
 cases last with
 | true =>
  go_wp2
  first
   | go_end0
   | refine bodyPost_ret (results_none rfl _ _ _) rfl ?_
   | refine bodyPost_end (results_none rfl _ _ _) rfl ?_
  exact⟨rfl,hB1,hb1,ho1⟩
 | false =>
  go_wp2_with fail
  refine (ZhF B b _ [97,10] w1 hB1 (Nat.le_trans hBw hb1.size) (by simp only[List.length_append,List.length_cons,List.length_nil];omega)).mono ?_
  rintro e w2 ⟨rfl,hB2,hb2,ho2⟩
  go_wp2
  first
   | go_end0
   | refine bodyPost_ret (results_none rfl _ _ _) rfl ?_
   | refine bodyPost_end (results_none rfl _ _ _) rfl ?_
  exact⟨rfl,by rw[List.append_assoc] at hB2;exact hB2,hb1.trans hb2,ho1.trans ho2⟩
def wr1 (s:List UInt8) (last:Bool):List UInt8:=if bareT s=[46] then dotT last else if last=true then bareT s++[10,46,10] else bareT s++[10]
theorem ZBE (x:List (List UInt8)) (k:Nat) (h:k<x.length):(wrF (x.drop k)).flatten=wr1 x[k] (decide (k+1=x.length))++(wrF (x.drop (k+1))).flatten:=by
 rw[List.drop_eq_getElem_cons h,wrF]
 have e:(x.drop (k+1)).length=0↔k+1=x.length:=by rw[List.length_drop];omega
 unfold wr1 dotT
 by_cases hq:k+1=x.length
 ·rw[decide_eq_true hq]
  by_cases hd:bareT x[k]=[46]
  ·simp[hd,e.2 hq,dotsL,shL]
  ·simp[hd,e.2 hq]
 ·rw[decide_eq_false hq]
  have h0:¬ (x.drop (k+1)).length=0:=fun q=>hq (e.1 q)
  by_cases hd:bareT x[k]=[46]
  ·rw[if_pos hd,if_pos hd,if_neg h0]
   simp[dotsL,shL]
  ·rw[if_neg hd,if_neg hd,if_neg h0]
   simp
theorem ZAX (B b:Nat) (acc:List UInt8) (x:List (List UInt8)) (v:Value) (w:World) (hB:Lib.IsBuilderF 59 5 B b (Lib.byteCells acc) w) (hBw:B≤w.heap.size)
  (hv:∃ vo vc,v=.slice vo x.length vc) (HV:Hid (∀ u,Lib.OthersKept 5 (some b) w u→Below B w u→HS u v x)) (hxl:x.length≤1099511627776) (HTX:Hid (∀ s∈x,s.length≤1099511627776)) (Z:List UInt8) (HZ:Hid (acc++(wrF x).flatten=Z)) (hZ:Z.length≤70368744177664) :
  Calls Tryz.prog 24 #[.pointer (some ⟨b,0,none⟩),v] w fun e w'=>e=.returned (.tuple #[])∧Lib.IsBuilderF 59 5 B b (Lib.byteCells Z) w'∧Below B w w'∧Lib.OthersKept 5 (some b) w w':=by
 obtain⟨vo,vc,rfl⟩:=hv
 go_enter Tryz.func24,Tryz.ntmps24
 go_wp2
 go_loopw [11] (fun i wr=>∃ (k:Nat) (ac:List UInt8),k≤x.length∧i=.int .i64 (k:Int)∧Lib.IsBuilderF 59 5 B b (Lib.byteCells ac) wr∧Below B w wr∧Lib.OthersKept 5 (some b) w wr∧Hid (ac++(wrF (x.drop k)).flatten=Z)) (fun i _=>x.length-(intOf i).toNat)
 case atStart=>exact⟨0,acc,Nat.zero_le _,by go_num,hB,Below.refl _ _,Lib.OthersKept.refl _ _ _,HZ⟩
 case round =>
  obtain⟨k,ac,hk,rfl,hBr,hbr,hor,HI⟩:=hrel
  have hbz:B≤wr.heap.size:=Nat.le_trans hBw hbr.size
  have hacl:ac.length≤70368744177664:=(by
   have h1:=congrArg List.length HI.out
   rw[List.length_append] at h1
   omega)
  by_cases hlt:k<x.length
  ·obtain⟨bk,off,rfl,hbk,hcl⟩:=HS.at (HV.out wr hor hbr) (by omega)
   have c0:=hcl k hlt
   have hsl:=HTX.out x[k] (List.getElem_mem _)
   have HE:Hid (ac++wr1 x[k] (decide (k+1=x.length))++(wrF (x.drop (k+1))).flatten=Z):=(by
    show _=_
    rw[← HI.out,ZBE x k hlt,List.append_assoc])
   obtain⟨s,hs⟩:∃ s,x[k]=s:=⟨_,rfl⟩
   rw[hs] at c0 hsl HE
   clear hcl hs HI HV HTX HZ
   have hbl:(bareT s).length≤s.length:=(by
    unfold bareT
    split
    ·rw[List.length_dropLast];omega
    ·exact Nat.le_refl _)
   have i1:0≤(k:Int):=by omega
   have i2:(k:Int)<(x.length:Int):=by omega
   go_wp2_with fail
   refine (Znk s _ (by omega)).mono ?_
   rintro e w1 ⟨rfl,rfl⟩
   obtain⟨t,ht⟩:∃ t,bareT s=t:=⟨_,rfl⟩
   have HW:Hid (wr1 s (decide (k+1=x.length))=if t=[46] then dotT (decide (k+1=x.length)) else if decide (k+1=x.length)=true then t++[10,46,10] else t++[10]):=(by
    show _=_
    rw[← ht]
    rfl)
   rw[ht] at hbl ⊢
   clear ht
   have hq1:((k:Int) == (x.length:Int)-1)=decide (k+1=x.length):=(by
    by_cases hq:k+1=x.length
    ·rw[decide_eq_true hq,beq_iff_eq];omega
    ·rw[decide_eq_false hq,beq_eq_false_iff_ne];omega)
   obtain⟨lst,hlst⟩:∃ lst,decide (k+1=x.length)=lst:=⟨_,rfl⟩
   rw[hlst] at hq1 HE HW
   clear hlst
   by_cases hd:t=[46]
   ·subst hd
    have HE2:Hid (ac++dotT lst++(wrF (x.drop (k+1))).flatten=Z):=(by
     show _=_
     rw[← HE.out,HW.out,if_pos rfl])
    clear HE HW
    go_wp2_with fail
    refine (ZAW B b ac lst wr hBr hbz (by omega)).mono ?_
    rintro e w2 ⟨rfl,hB2,hb2,ho2⟩
    go_wp2
    exact⟨⟨k+1,_,by omega,by go_num,hB2,hbr.trans hb2,hor.trans ho2,HE2⟩,by simp[intOf];omega⟩
   ·have hdb:(t == [46])=false:=beq_eq_false_iff_ne.2 hd
    cases lst with
    | true =>
     have HE2:Hid (ac++(t++[10,46,10])++(wrF (x.drop (k+1))).flatten=Z):=(by
      show _=_
      rw[← HE.out,HW.out,if_neg hd,if_pos rfl])
     clear HE HW hd
     have q1:=Zbw (x:=t) (y:=[10]) (by unfold Fits;simp only[List.length_cons,List.length_nil];omega) Tryz.prog
     have q2:=Zbw (x:=t++[10]) (y:=[46]) (by unfold Fits;simp only[List.length_append,List.length_cons,List.length_nil];omega) Tryz.prog
     have q3:=Zbw (x:=t++[10,46]) (y:=[10]) (by unfold Fits;simp only[List.length_append,List.length_cons,List.length_nil];omega) Tryz.prog
     go_wp2_with fail
     refine (ZhF B b ac (t++[10,46,10]) wr hBr hbz (by simp only[List.length_append,List.length_cons,List.length_nil];omega)).mono ?_
     rintro e w2 ⟨rfl,hB2,hb2,ho2⟩
     go_wp2
     exact⟨⟨k+1,_,by omega,by go_num,hB2,hbr.trans hb2,hor.trans ho2,HE2⟩,by simp[intOf];omega⟩
    | false =>
     have HE2:Hid (ac++(t++[10])++(wrF (x.drop (k+1))).flatten=Z):=(by
      show _=_
      rw[← HE.out,HW.out,if_neg hd,if_neg (by decide)])
     clear HE HW hd
     have q1:=Zbw (x:=t) (y:=[10]) (by unfold Fits;simp only[List.length_cons,List.length_nil];omega) Tryz.prog
     go_wp2_with fail
     refine (ZhF B b ac (t++[10]) wr hBr hbz (by simp only[List.length_append,List.length_cons,List.length_nil];omega)).mono ?_
     rintro e w2 ⟨rfl,hB2,hb2,ho2⟩
     go_wp2
     exact⟨⟨k+1,_,by omega,by go_num,hB2,hbr.trans hb2,hor.trans ho2,HE2⟩,by simp[intOf];omega⟩
  ·have HE:Hid (ac=Z):=(by
    have h:=HI.out
    rw[List.drop_of_length_le (by omega)] at h
    show ac=Z
    simpa [wrF] using h)
   have hend:decide ((k:Int)<(x.length:Int))=false:=decide_eq_false (by omega)
   clear HI
   go_wp2
   first
    | go_end0
    | refine bodyPost_ret (results_none rfl _ _ _) rfl ?_
    | refine bodyPost_end (results_none rfl _ _ _) rfl ?_
   exact⟨rfl,by rw[← HE.out];exact hBr,hbr,hor⟩
theorem Znm (b:List (List UInt8)) (v:Value) (w:World) (hb:HS w v b) (hlb:b.length≤1099511627776) (HTB:Hid (∀ s∈b,s.length≤1099511627776)) :
  Calls Tryz.prog 25 #[v] w fun e w'=>e=.returned (.bool (lkB b))∧w=w':=by
 obtain⟨bo,cb,rfl⟩:=Holds.form hb
 by_cases h0:0<b.length
 ·obtain⟨bk,off,rfl,hbk,hcl⟩:=HS.at hb h0
  have c0:=hcl (b.length-1) (by omega)
  obtain⟨s,hs⟩:∃ s,b[b.length-1]=s:=⟨_,rfl⟩
  have hsl:=HTB.out b[b.length-1] (List.getElem_mem _)
  have hlk:lkB b=!fdB s:=(by
   unfold lkB
   rw[List.getLast?_eq_getElem?,List.getElem?_eq_getElem (by omega),hs])
  rw[hs] at c0 hsl
  rw[hlk]
  clear hcl hs hlk
  have i0:((b.length:Int) == 0)=false:=beq_eq_false_iff_ne.2 (by omega)
  have i1:0≤(b.length:Int)-1:=by omega
  have i2:(b.length:Int)-1<(b.length:Int):=by omega
  have i3:((b.length:Int)-1).toNat=b.length-1:=by omega
  go_enter Tryz.func25,Tryz.ntmps25
  go_wp2_with fail
  refine (Znk s _ (by omega)).mono ?_
  rintro e w2 ⟨rfl,rfl⟩
  go_wp2
  go_ret
  exact⟨rfl,rfl⟩
 ·have e:b=[]:=List.eq_nil_of_length_eq_zero (by omega)
  subst e
  go_enter Tryz.func25,Tryz.ntmps25
  go_wp2
  go_ret
  exact⟨rfl,rfl⟩
end

section
open Go.RowKit Go.Shelf
attribute [local go_sem] Oper.semAt_some
structure Kc (n₀ lo:Nat) (W W':World):Prop where
 low:Below n₀ W W'
 box:W'.heap[lo]?=W.heap[lo]?
section
variable {n₀ lo:Nat} {A B C:World}
theorem Kc.refl (W:World):Kc n₀ lo W W:=⟨Below.refl _ _,rfl⟩
theorem Kc.trans (h:Kc n₀ lo A B) (k:Kc n₀ lo B C):Kc n₀ lo A C:=⟨h.low.trans k.low,k.box.trans h.box⟩
theorem Kc.alloc {W:World} (hn:n₀≤W.heap.size) (hl:lo<W.heap.size) (o:Obj):Kc n₀ lo W (W.alloc o):=⟨(Below.refl _ W).alloc hn o,Below.heap_alloc W o lo hl⟩
theorem Kc.putObj {w:World} (hn:n₀≤w.heap.size) (hl:lo<w.heap.size) (W:World) (l:Nat) (o o':Obj) (hlw:w.heap.size≤l) (h:W.heap[l]?=some o) (hc:o.isCells=false) (hw:o.isWalk=false):Kc n₀ lo W (W.putObj l o') :=
 ⟨belowK_b hn W l o o' hlw h hc hw,by have hne:l≠lo:=(by omega);simp[World.putObj,hne]⟩
theorem Kc.drewN (W:World) (k:Nat):Kc n₀ lo W (W.drewN k):=⟨Below.dN (Below.refl _ W) k,rfl⟩
end
def enCh (k:Nat):List Ch→List (Nat × Ch)
 | []=>[]
 | p::t=>(k,p)::enCh (k+1) t
theorem Zhc (k:Nat) (a b:List Ch):enCh k (a++b)=enCh k a++enCh (k+a.length) b:=by
 induction a generalizing k with
 | nil=>rfl
 | cons p t ih=>simp[enCh,ih];congr 1;omega
theorem Zhe (l:List Ch) (i:Nat) (hi:i<l.length):(enCh 0 (l.take (i+1))).reverse=(i,l[i])::(enCh 0 (l.take i)).reverse:=by
 rw[List.take_succ_eq_append_getElem hi,Zhc,List.reverse_append]
 have:0+(l.take i).length=i:=by rw[List.length_take];omega
 rw[this]
 rfl
theorem Zhd (k:Nat) (l:List Ch):(enCh k l).map (·.2)=l:=by
 induction l generalizing k with
 | nil=>rfl
 | cons p t ih=>simp[enCh,ih]
abbrev Mch (l:List Ch):={ x:Nat × Ch // ∃ h:x.1<l.length,l[x.1]=x.2 }
theorem Zdt (ao:Option Addr) (len c:Nat) (w:World) :
  Calls Tryz.prog 21 #[.slice ao len c] w fun e w' =>
   e=.returned (.func (.func 42) #[] #[.pointer (some ⟨w.heap.size,0,none⟩)])∧w'=w.alloc (.cells #[.slice ao len c] 25):=by
 go_enter Tryz.func21,Tryz.ntmps21
 go_wp2
 go_ret
 exact⟨rfl,rfl⟩
theorem ZdG (N:Nat) (hN:1≤N) (lp lo n₀:Nat) (ao:Option Addr) (ca:Nat) (l:List Ch) (hlen:l.length≤1048576)
  (J Jx:List (Mch l)→World→Prop) (W:World) (_hJ:AbidesFrom W.heap.size J)
  (hY:∀ pre (x:Mch l) W1,J pre W1→pre.length<l.length→YieldAt Fence.wide (N-1) Tryz.prog lp #[.int .i64 (x.1.1:Int),chV x.1.2] W1 fun e W' =>
   (e=.returned (.bool true)∧J (pre++[x]) W'∧Kc n₀ lo W1 W')∨(e=.returned (.bool false)∧Jx (pre++[x]) W'))
  (_hlo:n₀≤lo) (_hsz:lo<W.heap.size) (hb0:W.heap[lo]?=some (.cells #[.slice ao l.length ca] 25 (0,0)))
  (hl:HCh W (.slice ao l.length ca) l) (hb:∀ a,ao=some a→0<l.length→a.block<n₀) (h0:J [] W) :
  CallsIn Fence.wide N Tryz.prog 42 #[.func (.yield lp) #[] #[],.pointer (some ⟨lo,0,none⟩)] W fun e W'=>(∃ v,e=.returned v) ∧
   ((∃ ys:List (Mch l),ys.map (·.1)=(enCh 0 l).reverse∧J ys W')∨(∃ pre,True∧Jx pre W')):=by
 have d0:W.cell? ⟨lo,0,none⟩=some (.slice ao l.length ca):=by rw[Lib.cell_of_heap hb0];rfl
 refine callsIn_of_wp Tryz.func42 rfl trivial ?_ rfl
 simp only[Tryz.ntmps42,List.size_toArray,List.length_cons,List.length_nil,Nat.reduceAdd,Nat.reduceSub,Array.replicate_succ,Array.replicate_zero,List.push_toArray,List.append_toArray,List.nil_append,List.cons_append]
 gi_wp2
 gi_loopw [3] (fun iv wr=>∃ (k:Nat) (z:Int) (pre:List (Mch l)),k≤l.length∧pre.length+k=l.length∧iv=.int .i64 z∧z+1=k∧Kc n₀ lo W wr∧J pre wr∧Hid (pre.map (·.1)++(enCh 0 (l.take k)).reverse=(enCh 0 l).reverse)) (fun iv _=>(intOf iv+1).toNat)
 case atStart=>exact⟨l.length,(l.length:Int)-1,[],Nat.le_refl _,by simp,by go_num,by omega,Kc.refl W,h0,(by show _=_;simp)⟩
 case round =>
  obtain⟨k,z,pre,hk,hpl,rfl,hz,hK,hJr,hR⟩:=hrel
  have hszr:=hK.low.size
  have hbx:=hK.box.trans hb0
  have d1:wr.cell? ⟨lo,0,none⟩=some (.slice ao l.length ca):=by rw[Lib.cell_of_heap hbx];rfl
  cases k with
  | zero =>
   obtain rfl:z=-1:=by omega
   gi_wp2
   go_end0
   exact⟨⟨_,rfl⟩,.inl ⟨pre,by have h:=hR.out;rw[← h];simp[enCh],hJr⟩⟩
  | succ i =>
   obtain rfl:z=(i:Int):=by omega
   have hlt:i<l.length:=by omega
   obtain⟨bk,off,rfl,hbk,hc⟩:=HCh.at hl (by omega)
   have hbn:=hb _ rfl (by omega)
   have hcell:∀ o v,W.cell? ⟨bk,o,none⟩=some v→wr.cell? ⟨bk,o,none⟩=some v:=fun o v h=>by
    rw[← h]
    unfold World.cell?
    rw[hK.low.block bk hbn]
   obtain⟨c0',c1',c2',c3'⟩:=hc i hlt
   have c0:=hcell _ _ c0'
   have c1:=hcell _ _ c1'
   have c2:=hcell _ _ c2'
   have c3:=hcell _ _ c3'
   have HR:Hid (pre.map (·.1)++(i,l[i])::(enCh 0 (l.take i)).reverse=(enCh 0 l).reverse):=(by
    show _=_
    rw[← Zhe l i hlt]
    exact hR.out)
   obtain⟨p,hp⟩:∃ p,l[i]=p:=⟨_,rfl⟩
   rw[hp] at c0 c1 c2 c3 HR
   have HPc:Hid (l[i]=p):=hp
   clear hc c0' c1' c2' c3' hcell hR hp
   have i1:0≤(i:Int):=by omega
   have i2:(i:Int)<(l.length:Int):=by omega
   obtain⟨cA,cAN,cB,cBN⟩:=p
   dsimp only at c0 c1 c2 c3
   obtain⟨fn,tmps,assign,body,hy,hRd⟩:=hY pre ⟨(i,⟨cA,cAN,cB,cBN⟩),hlt,HPc.out⟩ wr hJr (by omega)
   simp only[chV] at hy
   gi_wp2
   refine hRd.mono ?_
   rintro e W3 (⟨rfl,hJ3,hk3⟩ | ⟨rfl,hJx3⟩)
   ·gi_wp2
    go_roundw
    case rel=>exact⟨i,(i:Int)-1,pre++[⟨(i,⟨cA,cAN,cB,cBN⟩),hlt,HPc.out⟩],by omega,by simp;omega,by go_num,by omega,hK.trans hk3,hJ3,(by show _=_;rw[← HR.out];simp)⟩
    case measure=>simp[intOf]
   ·gi_wp2
    refine bodyPost_ret (results_none rfl _ _ _) rfl ?_
    exact⟨⟨_,rfl⟩,.inr ⟨_,trivial,hJx3⟩⟩
theorem ZdH (N:Nat) (hN:1≤N) (lo n₀:Nat) (ao:Option Addr) (ca:Nat) (l:List Ch) (hlen:l.length≤1048576) (w:World)
  (hlo:n₀≤lo) (hsz:lo<w.heap.size) (hb0:w.heap[lo]?=some (.cells #[.slice ao l.length ca] 25 (0,0))) (hl:HCh w (.slice ao l.length ca) l) (hb:∀ a,ao=some a→0<l.length→a.block<n₀) :
  SeqStopsK Fence.wide N Tryz.prog 42 #[.pointer (some ⟨lo,0,none⟩)] (fun x:Mch l=>#[.int .i64 (x.1.1:Int),chV x.1.2]) (Kc n₀ lo) (fun ys=>ys.map (·.1)=(enCh 0 l).reverse) (fun _=>True) l.length w:=fun lp J Jx W hW hJ _ hY h0 =>
 ZdG N hN lp lo n₀ ao ca l hlen J Jx W hJ hY hlo (Nat.lt_of_lt_of_le hsz hW.size) ((hW.block _ hsz).trans hb0) (HCh.keep hl hW (Nat.le_refl _)) hb h0
end

section
open Go.RowKit Go.Shelf
attribute [local go_sem] Oper.semAt_some
theorem Zmg {T e:TypeId} {B b:Nat} {bs:List Value} {w:World} (h:Lib.IsBuilderF T e B b bs w):∃ c fz,w.heap[b]?=some (.cells c T fz):=by
 rcases h with ⟨_,v,h2,_⟩ | ⟨_,v,h2,_⟩
 ·exact⟨_,_,h2⟩
 ·exact⟨_,_,h2⟩
theorem Zmk {T e:TypeId} {B b:Nat} {bs:List Value} {w w':World} {row:Option Nat} (h:Lib.IsBuilderF T e B b bs w) (hg:w.grownBy w' row) (hr:∀ r,row=some r→∃ o:Obj,w.heap[r]?=some o∧o.isCells=false):Lib.IsBuilderF T e B b bs w':=by
 have blk:∀ (k:Nat) (c:Array Value) (t:TypeId) (fz:Nat × Nat),w.heap[k]?=some (.cells c t fz)→w'.heap[k]?=some (.cells c t fz):=by
  intro k c t fz hk
  refine (hg.block k (Array.getElem?_eq_some_iff.1 hk).1 (fun e=>?_)).trans hk
  obtain⟨o,ho,hc⟩:=hr k e.symm
  rw[hk] at ho
  cases ho
  cases hc
 have key:∀ p,Lib.BuilderAtF T e B b p bs w→Lib.BuilderAtF T e B b p bs w':=by
  rintro p ⟨h1,v,h2,h3,h4⟩
  refine⟨h1,v,blk _ _ _ _ h2,⟨h3.1,?_⟩,h4⟩
  rcases h3.2 with q | ⟨g,cap,cur,fz,q1,q2,q3,q4⟩
  ·exact .inl q
  ·exact .inr ⟨g,cap,cur,fz,q1,q2,blk _ _ _ _ q3,q4⟩
 rcases h with h | h
 ·exact .inl (key _ h)
 ·exact .inr (key _ h)
theorem ZmR {T e:TypeId} {B b:Nat} {bs:List Value} {w w':World} (h:Lib.IsBuilderF T e B b bs w) (hk:Lib.OthersKept e (some b) w w') (hb:Below B w w'):KeepsOthers w w':=by
 refine⟨hb.size,fun k o hk' ho=>hk k o hk' (fun q=>?_) (fun c fz q=>?_)⟩
 ·cases q
  obtain⟨c,fz,hq⟩:=Zmg h
  rw[hk'] at hq
  cases hq
  cases ho
 ·subst q
  cases ho
theorem ZgW {w w':World} (hb:Below w.heap.size w w'):KeepsOthers w w':=⟨hb.size,fun k _ hk _=>(hb.block k (Array.getElem?_eq_some_iff.1 hk).1).trans hk⟩
structure Pj (w:World) (BB:Nat) (vb vi:Value) (acc:List UInt8) (W:World):Prop where
 bl:Lib.IsBuilderF 59 5 BB BB (Lib.byteCells acc) W
 low:Below w.heap.size w W
 box:Boxed W w.heap.size 23 vb
 siz:BB+1<W.heap.size
 gt:w.heap.size<BB
 it:Boxed W (BB+1) 25 vi
section
variable {w W W':World} {BB:Nat} {vb vi:Value} {acc:List UInt8}
theorem Pj.step (h:Pj w BB vb vi acc W) (hb:Below W.heap.size W W'):Pj w BB vb vi acc W' :=
 ⟨Zmj h.bl hb,h.low.trans (hb.mono h.low.size),(hb.block _ (by have:=h.siz;have:=h.gt;omega)).trans h.box,Nat.lt_of_lt_of_le h.siz hb.size,h.gt,(hb.block _ h.siz).trans h.it⟩
theorem Pj.wrote {ac2:List UInt8} (h:Pj w BB vb vi acc W) (hB:Lib.IsBuilderF 59 5 BB BB (Lib.byteCells ac2) W') (hb:Below BB W W') (hk:Lib.OthersKept 5 (some BB) W W'):Pj w BB vb vi ac2 W' :=
 ⟨hB,h.low.trans (hb.mono (Nat.le_of_lt h.gt)),hk _ _ h.box (fun e=>by cases e;have:=h.gt;omega) (fun c fz e=>by cases e),Nat.lt_of_lt_of_le h.siz hb.size,h.gt,hk _ _ h.it (fun e=>by injection e with e;omega) (fun c fz e=>by cases e)⟩
theorem Pj.own {row:Option Nat} (h:Pj w BB vb vi acc W) (hg:W.grownBy W' row) (hr:∀ r,row=some r→w.heap.size≤r∧∃ o:Obj,W.heap[r]?=some o∧o.isCells=false):Pj w BB vb vi acc W':=by
 have bx:∀ (k:Nat) (t:TypeId) (v:Value),Boxed W k t v→Boxed W' k t v:=by
  intro k t v hbx
  unfold Boxed at hbx ⊢
  refine (hg.block _ (Array.getElem?_eq_some_iff.1 hbx).1 (fun e=>?_)).trans hbx
  obtain⟨_,o,ho,hc⟩:=hr _ e.symm
  rw[hbx] at ho
  cases ho
  cases hc
 exact⟨Zmk h.bl hg (fun r e=>(hr r e).2),h.low.grown hg h.low.size (fun j e=>(hr j e).1),bx _ _ _ h.box,Nat.lt_of_lt_of_le h.siz hg.size,h.gt,bx _ _ _ h.it⟩
end
def prA (b:List (List UInt8)) (l:List Ch):List UInt8:=(l.flatMap (edL b)).flatten
theorem ZgB (b:List (List UInt8)) (c:Ch) (hn:numB c=true) (hB:c.B+c.BN≤b.length):(edL b c).flatten=edC c++[10]++(wrF (cut b c.B c.BN)).flatten:=by
 have h:=(Zqy c).1 hn
 unfold edL
 have hl:((cut b c.B c.BN).length:Int)=c.BN:=ZkA (by omega) (by omega) hB
 by_cases h0:c.BN=0
 ·rw[if_pos h0]
  have e:cut b c.B c.BN=[]:=List.eq_nil_of_length_eq_zero (by omega)
  rw[e]
  simp[wrF]
 ·rw[if_neg h0,ZBG _ (fun e=>by rw[e] at hl;simp at hl;omega)]
  simp
theorem ZBF (x:List (List UInt8)):(wrF x).flatten.length≤14 * x.length+x.flatten.length:=by
 induction x with
 | nil=>simp[wrF]
 | cons s x ih =>
  have hb:(bareT s).length≤s.length:=(by
   unfold bareT
   split
   ·rw[List.length_dropLast];omega
   ·exact Nat.le_refl _)
  have h1:(if bareT s=[46] then dotsL++(if x.length=0 then [] else [[97,10]]) else if x.length=0 then [bareT s++[10],[46,10]] else [bareT s++[10]]).flatten.length≤14+s.length:=(by
   split
   ·split<;>(simp[dotsL,shL];omega)
   ·split
    ·simp;omega
    ·simp;omega)
  rw[wrF,List.flatten_append,List.length_append,List.flatten_cons,List.length_append,List.length_cons]
  omega
theorem ZgY (x:List (List UInt8)) (n:Nat):(x.take n).flatten.length≤x.flatten.length:=by
 have h:x.flatten=(x.take n).flatten++(x.drop n).flatten:=by rw[← List.flatten_append,List.take_append_drop]
 rw[h,List.length_append]
 omega
theorem ZgX (x:List (List UInt8)) (n:Nat):(x.drop n).flatten.length≤x.flatten.length:=by
 have h:x.flatten=(x.take n).flatten++(x.drop n).flatten:=by rw[← List.flatten_append,List.take_append_drop]
 rw[h,List.length_append]
 omega
theorem ZgF (b:List (List UInt8)) (hb:b.length+b.flatten.length≤2097152) (c:Ch) (hn:numB c=true) (hB:c.B+c.BN≤b.length):(edL b c).flatten.length≤33554432:=by
 have h:=(Zqy c).1 hn
 have h1:=@ZgA c (by omega) (by omega) (by omega) (by omega)
 have h2:=ZBF (cut b c.B c.BN)
 have h3:(cut b c.B c.BN).length≤b.length:=(by unfold cut;simp only[List.length_take,List.length_drop];omega)
 have h4:(cut b c.B c.BN).flatten.length≤b.flatten.length:=(by unfold cut;exact Nat.le_trans (ZgY _ _) (ZgX _ _))
 rw[ZgB b c hn hB]
 simp only[List.length_append,List.length_cons,List.length_nil]
 omega
theorem ZsX (b:List (List UInt8)) (hb:b.length+b.flatten.length≤2097152) (l:List Ch) (h:∀ c∈l,numB c=true∧c.B+c.BN≤(b.length:Int)):(prA b l).length≤l.length * 33554432:=by
 induction l with
 | nil=>simp[prA]
 | cons c l ih =>
  have h1:=ZgF b hb c (h c (by simp)).1 (h c (by simp)).2
  have h2:=ih fun x hx=>h x (by simp[hx])
  unfold prA at h2 ⊢
  rw[List.flatMap_cons,List.flatten_append,List.length_append,List.length_cons,Nat.add_mul]
  omega
theorem ZsY (b:List (List UInt8)) (l:List Ch) (c:Ch):prA b (l++[c])=prA b l++(edL b c).flatten:=by simp[prA]
theorem Zgx (l:List Ch) (vl va vb:Value) (a b:List (List UInt8)) (w:World) (hl:HCh w vl l) (ha:HS w va a) (hb:HS w vb b) (hll:l.length≤1048576) (hla:a.length≤1099511627776) (hlb:b.length+b.flatten.length≤2097152) (HTB:Hid (∀ s∈b,s.length≤1099511627776)) (HTb:Hid (Tab10 w))
  (r:Int) (HR:Hid (chk l a.length b.length=r)) (T:List UInt8) (HT:Hid ((if r=0 then epT l b else [])=T)) (hT:T.length≤70368744177664) :
  Calls Tryz.prog 9 #[vl,va,vb] w fun e w'=>e=.returned (.tuple #[.string ⟨T.toArray⟩,.int .i64 r])∧Below w.heap.size w w':=by
 obtain⟨ao,ca,rfl⟩:=Holds.form hl
 obtain⟨aa,caa,rfl⟩:=Holds.form ha
 obtain⟨ab,cab,rfl⟩:=Holds.form hb
 have hBx:Below w.heap.size w (w.alloc (.cells #[.slice ab b.length cab] 23)):=(Below.refl _ w).alloc (Nat.le_refl _) _
 have bB:=Boxed.new w 23 (.slice ab b.length cab)
 obtain⟨wb,hwb⟩:∃ wb,w.alloc (.cells #[.slice ab b.length cab] 23)=wb:=⟨_,rfl⟩
 have hszb:wb.heap.size=w.heap.size+1:=by rw[← hwb];simp
 rw[hwb] at hBx bB
 have cB:=bB.cell
 by_cases hr:r=0
 ·subst hr
  have hTT:=HT.out
  rw[if_pos rfl] at hTT
  have hs:Script l a.length b.length:=(by
   by_cases h:Script l a.length b.length
   ·exact h
   ·have:=Zej h
    rw[HR.out] at this
    cases this)
  have HMH:Hid (∀ c∈l,numB c=true∧c.A+c.AN≤(a.length:Int)∧c.B+c.BN≤(b.length:Int)):=Zvs hs.2.2
  have HTT:Hid (prA b l.reverse++(endL b).flatten=T):=(by
   show _=_
   rw[← hTT]
   unfold epT epL prA
   rw[List.flatten_append])
  clear hs HT hTT
  refine (callsIn_wide (n:=3)).1 ?_
  refine callsIn_of_wp_marks Tryz.func9 rfl trivial ?_ rfl
  simp only[Tryz.ntmps9,List.size_toArray,List.length_cons,List.length_nil,Nat.reduceAdd,Nat.reduceSub,Array.replicate_succ,Array.replicate_zero,List.push_toArray,List.append_toArray,List.nil_append,List.cons_append]
  gi_wp2_with (refine⟨trivial,?_⟩;gi_at_call 20;refine (callsIn_wide.2 (Zah l a.length b.length 0 _ wb (HCh.keep hl hBx (Nat.le_refl _)) (by omega) (by omega) (by omega) HR)).mono ?_;rintro e w1 ⟨rfl,hB1⟩;have hs1:=hB1.size;have bB1:Boxed w1 w.heap.size 23 (.slice ab b.length cab):=(hB1.block _ (by omega)).trans bB)
  gi_wp2_with (refine⟨trivial,?_⟩;gi_at_call 21;refine (callsIn_wide.2 (Zdt _ _ _ _)).mono ?_;rintro e w' ⟨rfl,rfl⟩)
  obtain⟨W0,hW0⟩:∃ W0,(w1.alloc (.cells #[.pointer none,.slice none 0 0] 59)).alloc (.cells #[.slice ao l.length ca] 25)=W0:=⟨_,rfl⟩
  have hsz:W0.heap.size=w1.heap.size+1+1:=by rw[← hW0];simp
  have hB01:Below w1.heap.size w1 W0:=by rw[← hW0];exact ((Below.refl _ w1).alloc (Nat.le_refl _) _).alloc (by simp) _
  have hBw1:Below w.heap.size w w1:=hBx.trans (hB1.mono hBx.size)
  have hBw:Below w.heap.size w W0:=hBw1.trans (hB01.mono hBw1.size)
  have b3:W0.heap[w1.heap.size+1]?=some (.cells #[.slice ao l.length ca] 25 (0,0)):=(by
   rw[← hW0]
   have:=_root_.Go.heap_alloc_new (w1.alloc (.cells #[.pointer none,.slice none 0 0] 59)) (.cells #[.slice ao l.length ca] 25)
   rw[World.size_alloc] at this
   exact this)
  have hP0:Pj w w1.heap.size (.slice ab b.length cab) (.slice ao l.length ca) [] W0:=(by
   refine⟨?_,hBw,(hB01.block _ (by omega)).trans bB1,by omega,by omega,b3⟩
   rw[← hW0]
   exact Zmj (Zmh w1) ((Below.refl _ _).alloc (Nat.le_refl _) _))
  rw[hW0]
  clear hW0
  have hlw:HCh W0 (.slice ao l.length ca) l:=HCh.keep hl hBw (Nat.le_refl _)
  refine wpIn_rangeFunc_ownH rfl (by omega) (gf:=42) (lb:=#[.pointer (some ⟨w1.heap.size+1,0,none⟩)]) rfl trivial (enters_of Tryz.func42 (by kernel_rfl) rfl)
   (ZdH 2 (by omega) (w1.heap.size+1) w.heap.size ao ca l hll W0 (by omega) (by omega) b3 hlw (fun q hq h0=>HCh.lt hl q hq h0)) Kc.trans (Kc.putObj (by omega) (by omega)) (Below.refl _ _) (fun _=>rfl)
   (fun pre W=>Pj w w1.heap.size (.slice ab b.length cab) (.slice ao l.length ca) (prA b (pre.map fun x:Mch l=>x.1.2)) W)
   (fun _ _ _=>False)
   (fun pre W W' row hI hg hr=>hI.own hg (fun q e=>⟨by have:=(hr q e).1;omega,(hr q e).2⟩))
   (fun _ _ _ _ _ hs _ _=>hs)
   hP0
   (fun x a' W=>∃ Bx,w1.heap.size<Bx∧W.heap[Bx]?=some (Obj.cells #[.int .i64 x.1.2.A,.int .i64 x.1.2.AN,.int .i64 x.1.2.B,.int .i64 x.1.2.BN] 45 (0,0))∧a'={ tmps:=#[.slice ao l.length ca,.slice aa a.length caa,.slice ab b.length cab,undef,undef,.pointer (some ⟨w.heap.size,0,none⟩),.string ⟨#[]⟩,.int .i64 0,.int .i64 0,.pointer (some ⟨w1.heap.size,0,none⟩),undef,.pointer (some ⟨Bx,0,none⟩),.slice ao l.length ca,.slice aa a.length caa,.int .i64 (a.length:Int),.slice ab b.length cab,.int .i64 (b.length:Int),.int .i64 0,.int .i64 0,.bool false,undef,.slice ao l.length ca,.func (.func 42) #[] #[.pointer (some ⟨w1.heap.size+1,0,none⟩)],.int .i64 (x.1.1:Int),chV x.1.2,undef,undef,undef,undef,undef,undef,undef,undef,undef,undef,undef,undef,undef,undef,undef,undef,undef,undef],defers:=[] })
   ?hAx ?assign ?body ?done ?stop
  case hAx =>
   rintro x a' _ A B row ⟨Bx,hgt,hx,rfl⟩ hg hr
   refine⟨Bx,hgt,(hg.block Bx (Array.getElem?_eq_some_iff.1 hx).1 (fun e=>?_)).trans hx,rfl⟩
   obtain⟨_,o,ho,hc⟩:=hr Bx e.symm
   rw[hx] at ho
   cases ho
   cases hc
  case assign =>
   rintro lp pre x W K hP hK
   have hs:=hP.low.size
   have hlt:=hP.siz
   simp only[chV]
   gi_wp2
   exact hK _ _ ((KeepsOthers.alloc _ _).from _) (Kc.alloc (by omega) (by omega) _) (hP.step ((Below.refl _ W).alloc (Nat.le_refl _) _)) ⟨W.heap.size,by omega,_root_.Go.heap_alloc_new W _,rfl⟩
  case body =>
   rintro lp pre x a' W hlp ⟨q,hq⟩ hP ⟨Bx,hgt,hx,rfl⟩ hlt
   have hpl:=ZsX b hlb (pre.map fun x:Mch l=>x.1.2) (fun c hc=>by
    obtain⟨y,_,rfl⟩:=List.mem_map.1 hc
    obtain⟨hy,hy2⟩:=y.2
    have:=HMH.out y.1.2 (hy2 ▸ List.getElem_mem hy)
    exact⟨this.1,this.2.2⟩)
   rw[List.length_map] at hpl
   obtain⟨⟨i,c⟩,hi,hci⟩:=x
   dsimp only at hi hci hx
   have hm:=HMH.out c (hci ▸ List.getElem_mem hi)
   have hn:=(Zqy c).1 hm.1
   have hsW:=hP.siz
   have hgW:=hP.gt
   have hbx:=(Array.getElem?_eq_some_iff.1 hx).1
   have hel:=ZgF b hlb c hm.1 hm.2.2
   have HZ:Hid (prA b ((pre++[(⟨(i,c),hi,hci⟩:Mch l)]).map fun x:Mch l=>x.1.2)=prA b (pre.map fun x:Mch l=>x.1.2)++(edC c++[10])++(wrF (cut b c.B c.BN)).flatten):=(by
    show _=_
    rw[List.map_append,List.map_singleton,ZsY,ZgB b c hm.1 hm.2.2]
    simp)
   have hzl:(prA b (pre.map fun x:Mch l=>x.1.2)).length+(edC c++[10]).length+(wrF (cut b c.B c.BN)).flatten.length≤70368744177664:=(by
    rw[ZgB b c hm.1 hm.2.2,List.length_append] at hel
    have h1:pre.length * 33554432≤1048576 * 33554432:=Nat.mul_le_mul_right _ (by omega)
    omega)
   obtain⟨acc,hacc⟩:∃ acc,prA b (pre.map fun x:Mch l=>x.1.2)=acc:=⟨_,rfl⟩
   rw[hacc] at hP HZ hzl
   clear hacc hpl hel
   have hbW:HS W (.slice ab b.length cab) b:=HS.keep hb hP.low (Nat.le_refl _)
   obtain⟨vs,hvs,hsB⟩:=ZwM b ab cab c.B c.BN (by omega) (by omega) (by omega) W hbW
   obtain⟨vo,vc,hvf⟩:=Holds.form (hsB _ hbW)
   rw[hvf] at hvs hsB
   clear hvf
   have hlC:(cut b c.B c.BN).length≤1099511627776:=(by unfold cut;simp only[List.length_take,List.length_drop];omega)
   have HCB:Hid (∀ s∈cut b c.B c.BN,s.length≤1099511627776):=fun s hs=>HTB.out s (List.mem_of_mem_drop (List.mem_of_mem_take hs))
   obtain⟨L,hL⟩:∃ L,cut b c.B c.BN=L:=⟨_,rfl⟩
   rw[hL] at hvs hsB hlC HCB HZ hzl
   clear hL
   obtain⟨X,HX⟩:∃ X,Hid ((wrF L).flatten=X):=⟨_,rfl⟩
   have HZ2:Hid (prA b ((pre++[(⟨(i,c),hi,hci⟩:Mch l)]).map fun x:Mch l=>x.1.2)=acc++(edC c++[10])++X):=(by show _=_;rw[HZ.out,HX.out])
   rw[HX.out] at hzl
   clear HZ
   have hcl:=@ZgA c (by omega) (by omega) (by omega) (by omega)
   obtain⟨T1,HT1⟩:∃ T1,Hid (edC c=T1):=⟨_,rfl⟩
   rw[HT1.out] at HZ2 hzl hcl
   have HTW:Hid (Tab10 W):=HTb.out.on hP.low
   have hwr:IntKind.i64.wrap (c.B+c.BN)=c.B+c.BN:=wrap_small _ (by omega) (by omega)
   have hA4:0≤c.A∧c.A≤2147483647∧0≤c.AN∧c.AN≤2147483647:=by omega
   have q1:=Zbw (x:=T1) (y:=[10]) (by unfold Fits;simp only[List.length_cons,List.length_nil];omega) Tryz.prog
   have x0:W.cell? ⟨Bx,0,none⟩=some (.int .i64 c.A):=by rw[Lib.cell_of_heap hx];rfl
   have x1:W.cell? ⟨Bx,1,none⟩=some (.int .i64 c.AN):=by rw[Lib.cell_of_heap hx];rfl
   have x2:W.cell? ⟨Bx,2,none⟩=some (.int .i64 c.B):=by rw[Lib.cell_of_heap hx];rfl
   have x3:W.cell? ⟨Bx,3,none⟩=some (.int .i64 c.BN):=by rw[Lib.cell_of_heap hx];rfl
   have HAL:Hid (acc.length+(T1++[10]).length≤140737488355328):=(by show _≤_;omega)
   have HZl:Hid ((acc++(T1++[10])++X).length≤70368744177664):=(by show _≤_;rw[List.length_append,List.length_append];omega)
   obtain⟨Z,hZd⟩:∃ Z,acc++(T1++[10])++X=Z:=⟨_,rfl⟩
   have HZd:Hid (acc++(T1++[10])++(wrF L).flatten=Z):=(by show _=_;rw[HX.out];exact hZd)
   rw[hZd] at HZ2 HZl
   clear hZd hzl HX
   gi_wp2_with (refine⟨trivial,?_⟩;gi_at_call 23;refine (CallsIn.inRound lp (callsIn_wide.2 (ZeS c hA4 W HTW T1 HT1))).mono ?_;rintro e W1 ⟨rfl,hb1⟩)
   have hP1:=hP.step hb1
   have hx1:=(hb1.block Bx hbx).trans hx
   have hz1:w1.heap.size≤W1.heap.size:=by have:=hP1.siz;omega
   clear x0 x1 x2 x3
   gi_wp2_with (refine⟨trivial,?_⟩;gi_at_call 22;refine (CallsIn.inRound lp (callsIn_wide.2 (ZhF w1.heap.size w1.heap.size acc (T1++[10]) W1 hP1.bl hz1 HAL.out))).mono ?_;rintro e W2 ⟨rfl,hB2,hb2,ho2⟩;have hP2:=hP1.wrote hB2 hb2 ho2;have hko2:=ZmR hP1.bl ho2 hb2;have hx2:=ho2 Bx _ hx1 (fun e=>by cases e;omega) (fun c fz e=>by cases e);have y2:W2.cell? ⟨Bx,2,none⟩=some (.int .i64 c.B):=(by rw[Lib.cell_of_heap hx2];rfl);have y3:W2.cell? ⟨Bx,3,none⟩=some (.int .i64 c.BN):=(by rw[Lib.cell_of_heap hx2];rfl);have cb2:=hP2.box.cell)
   have hz2:w1.heap.size≤W2.heap.size:=by have:=hP2.siz;omega
   have HV:Hid (∀ u,Lib.OthersKept 5 (some w1.heap.size) W2 u→Below w1.heap.size W2 u→HS u (.slice vo L.length vc) L):=fun u _ hu2=>hsB u (HS.keep hb (hP2.low.trans (hu2.mono (by omega))) (Nat.le_refl _))
   gi_wp2_with (refine⟨trivial,?_⟩;gi_at_call 24;refine (CallsIn.inRound lp (callsIn_wide.2 (ZAX w1.heap.size w1.heap.size (acc++(T1++[10])) L (.slice vo L.length vc) W2 hP2.bl hz2 ⟨_,_,rfl⟩ HV hlC HCB Z HZd HZl.out))).mono ?_;rintro e W3 ⟨rfl,hB3,hb3,ho3⟩)
   have hP3:=hP2.wrote hB3 hb3 ho3
   have hko3:=ZmR hP2.bl ho3 hb3
   have hlW:w.heap.size≤W.heap.size:=by omega
   refine⟨((ZgW hb1).trans (hko2.trans hko3)).from _,⟨(hb1.mono hlW).trans ((hb2.mono (by omega)).trans (hb3.mono (by omega))),?_⟩,?_⟩
   ·have h1:=hP3.it
    have h2:=hP.it
    unfold Boxed at h1 h2
    rw[h1,h2]
   ·have h:=hP3
    rw[← HZ2.out] at h
    exact h
  case done =>
   rintro D ys W hD hys hP hK
   have hyl:ys.map (fun x:Mch l=>x.1.2)=l.reverse:=(by
    have:=congrArg (List.map (·.2)) hys
    rw[List.map_map,List.map_reverse,Zhd] at this
    exact this)
   rw[hyl] at hP
   obtain⟨acc,hacc⟩:∃ acc,prA b l.reverse=acc:=⟨_,rfl⟩
   rw[hacc] at hP HTT
   clear hacc hyl hys
   have cb:=hP.box.cell
   have hbW:HS W (.slice ab b.length cab) b:=HS.keep hb hP.low (Nat.le_refl _)
   have hlf:=Znm b _ W hbW (by omega) HTB
   have hz:w1.heap.size≤W.heap.size:=by have:=hP.siz;omega
   have hacl:acc.length≤70368744177664:=(by
    have h1:=congrArg List.length HTT.out
    rw[List.length_append] at h1
    omega)
   cases hlk:lkB b with
   | true =>
    rw[hlk] at hlf
    have HE:Hid (acc++markT=T):=(by
     show _=_
     rw[← HTT.out]
     unfold endL
     rw[if_pos hlk]
     simp)
    gi_wp2_with (refine⟨trivial,?_⟩;gi_at_call 25;refine (callsIn_wide.2 hlf).mono ?_;rintro e W' ⟨rfl,rfl⟩)
    gi_wp2_with (refine⟨trivial,?_⟩;gi_at_call 22;refine (callsIn_wide.2 (ZhF w1.heap.size w1.heap.size acc markT W hP.bl hz (by simp only[markT,List.length_cons,List.length_nil];omega))).mono ?_;rintro e W2 ⟨rfl,hB2,hb2,ho2⟩)
    have hP2:=hP.wrote hB2 hb2 ho2
    have hko2:=ZmR hP.bl ho2 hb2
    have hz2:w1.heap.size≤W2.heap.size:=by have:=hP2.siz;omega
    gi_wp2_with (refine⟨trivial,?_⟩;gi_at_call 26;refine (callsIn_wide.2 (Tryz.Builder_String_any_k w1.heap.size w1.heap.size (acc++markT) W2 hP2.bl hz2)).mono ?_;rintro e W3 ⟨rfl,hB3,hb3,ho3⟩)
    have hP3:=hP2.wrote hB3 hb3 ho3
    have hK3:=(ZmR hP2.bl ho3 hb3).same D _ (hko2.same D _ hK rfl) rfl
    refine⟨by simp,.inl ⟨_,_,rfl,run_takeDeferred hK3,?_⟩⟩
    exact⟨_,results_tmp2 rfl _ _ _,by rw[← HE.out];rfl,hP3.low.trans (belowK_b (w:=w) (Nat.le_refl _) W3 D _ _ (by omega) hK3 rfl rfl)⟩
   | false =>
    rw[hlk] at hlf
    have HE:Hid (acc=T):=(by
     show _=_
     rw[← HTT.out]
     unfold endL
     rw[if_neg (by rw[hlk];decide)]
     simp)
    gi_wp2_with (refine⟨trivial,?_⟩;gi_at_call 25;refine (callsIn_wide.2 hlf).mono ?_;rintro e W' ⟨rfl,rfl⟩)
    gi_wp2_with (refine⟨trivial,?_⟩;gi_at_call 26;refine (callsIn_wide.2 (Tryz.Builder_String_any_k w1.heap.size w1.heap.size acc W hP.bl hz)).mono ?_;rintro e W3 ⟨rfl,hB3,hb3,ho3⟩)
    have hP3:=hP.wrote hB3 hb3 ho3
    have hK3:=(ZmR hP.bl ho3 hb3).same D _ hK rfl
    refine⟨by simp,.inl ⟨_,_,rfl,run_takeDeferred hK3,?_⟩⟩
    exact⟨_,results_tmp2 rfl _ _ _,by rw[← HE.out];rfl,hP3.low.trans (belowK_b (w:=w) (Nat.le_refl _) W3 D _ _ (by omega) hK3 rfl rfl)⟩
  case stop =>
   rintro D c pre W _ _ h _
   exact h.elim
 ·have hrb:(r != 0)=true:=bne_iff_ne.2 hr
  have hTT:=HT.out
  rw[if_neg hr] at hTT
  subst hTT
  go_enter Tryz.func9,Tryz.ntmps9
  go_wp2_with fail
  refine (Zah l a.length b.length r _ wb (HCh.keep hl hBx (Nat.le_refl _)) (by omega) (by omega) (by omega) HR).mono ?_
  rintro e w1 ⟨rfl,hB1⟩
  go_wp2
  go_ret2
  exact⟨rfl,hBx.trans (hB1.mono hBx.size)⟩
end

section
open Go.RowKit
structure Bck where
 g:Nat
 o:Nat
 c:Nat
 xs:List (List UInt8)
def Bck.v (x:Bck):Value:=.slice (some ⟨x.g,x.o,none⟩) x.xs.length x.c
def cat (X:List Bck):List (List UInt8):=X.flatMap (·.xs)
theorem Zdy (X Y:List Bck):cat (X++Y)=cat X++cat Y:=by simp[cat]
theorem Zdz (x:Bck) (X:List Bck):cat (x::X)=x.xs++cat X:=by simp[cat]
def HB (w:World) (N:Nat) (x:Bck):Prop:=N≤x.g∧x.xs.length≤x.c∧∃ cs:Array Value,w.heap[x.g]?=some (.cells cs 9 (0,0))∧∀ j (hj:j<x.xs.length),cs[x.o+j]?=some (.string ⟨x.xs[j].toArray⟩)
def Apart (x y:Bck):Prop:=x.g≠y.g∨x.o+x.xs.length≤y.o∨y.o+y.xs.length≤x.o
theorem HB.lt {w:World} {N:Nat} {x:Bck} (h:HB w N x):x.g<w.heap.size:=by
 obtain⟨_,_,cs,h1,_⟩:=h
 exact (Array.getElem?_eq_some_iff.1 h1).1
theorem HB.keep {w w':World} {N:Nat} {x:Bck} (h:HB w N x) (hb:w'.heap[x.g]?=w.heap[x.g]?):HB w' N x:=by
 obtain⟨h0,h1,cs,h2,h3⟩:=h
 exact⟨h0,h1,cs,hb.trans h2,h3⟩
theorem HB.low {w w':World} {N:Nat} {x:Bck} (h:HB w N x) (hb:Below w.heap.size w w'):HB w' N x:=h.keep (hb.block _ h.lt)
theorem HB.cell {w:World} {N:Nat} {x:Bck} (h:HB w N x) (j:Nat) (hj:j<x.xs.length):w.cell? ⟨x.g,x.o+j,none⟩=some (.string ⟨x.xs[j].toArray⟩)∧w.frozen? ⟨x.g,x.o+j,none⟩=false:=by
 obtain⟨_,_,cs,h2,h3⟩:=h
 exact⟨by rw[Lib.cell_of_heap h2];exact h3 j hj,by simp[World.frozen?,h2]⟩
theorem HB.take {w:World} {N:Nat} {x:Bck} (h:HB w N x) (k:Nat) (hk:k≤x.xs.length):Holds w (.slice (some ⟨x.g,x.o,none⟩) k x.c) k (scells (x.xs.take k)):=by
 obtain⟨_,h1,cs,h2,h3⟩:=h
 refine .inr ⟨_,_,rfl,by omega,fun j u hj=>?_⟩
 have hl:=(List.getElem?_eq_some_iff.1 hj).1
 rw[scells_length,List.length_take] at hl
 rw[add_none,Lib.cell_of_heap h2,h3 j (by omega),← hj]
 simp[scells,List.getElem?_take]
 refine⟨by omega,?_⟩
 rw[List.getElem?_eq_getElem (by omega)]
 rfl
theorem HB.drop {w:World} {N:Nat} {x:Bck} (h:HB w N x) (k:Nat) (hk:k≤x.xs.length):Holds w (.slice (slG (some ⟨x.g,x.o,none⟩) x.c k) (x.xs.length-k) (x.c-k)) (x.xs.length-k) (scells (x.xs.drop k)):=by
 obtain⟨_,h1,cs,h2,h3⟩:=h
 unfold slG
 by_cases hc:x.c=k
 ·rw[if_pos hc]
  refine .inr ⟨_,_,rfl,by omega,fun j u hj=>?_⟩
  have hl:=(List.getElem?_eq_some_iff.1 hj).1
  rw[scells_length,List.length_drop] at hl
  omega
 ·rw[if_neg hc,Option.map_some]
  refine .inr ⟨_,_,rfl,by omega,fun j u hj=>?_⟩
  have hl:=(List.getElem?_eq_some_iff.1 hj).1
  rw[scells_length,List.length_drop] at hl
  rw[add_none,add_none,Lib.cell_of_heap h2,Nat.add_assoc,h3 (k+j) (by omega),← hj]
  simp[scells,List.getElem?_drop]
  rw[List.getElem?_eq_getElem (by omega)]
  rfl
theorem HB.all {w:World} {N:Nat} {x:Bck} (h:HB w N x):HS w x.v x.xs:=by
 have:=h.take x.xs.length (Nat.le_refl _)
 rw[List.take_length] at this
 exact this
theorem HB.new {w:World} {g N n:Nat} {xs:List (List UInt8)} (hN:N≤g) (hn:xs.length=n) (h:w.heap[g]?=some (.cells (scells xs).toArray 9 (0,0))):HB w N ⟨g,0,n,xs⟩:=by
 refine⟨hN,by dsimp only;omega,_,h,fun j hj=>?_⟩
 dsimp only at hj ⊢
 rw[Nat.zero_add]
 simp[scells,hj]
structure Bks (w:World) (N:Nat) (v:Value) (X:List Bck):Prop where
 row:∃ (o c:Nat) (cs:Array Value),v=.slice (some ⟨o,0,none⟩) X.length c∧X.length≤c∧N≤o∧w.heap[o]?=some (.cells cs 23 (0,0))∧∀ j (hj:j<X.length),cs[j]?=some X[j].v
 ne:X≠[]
 blk:∀ x∈X,HB w N x
 apart:X.Pairwise Apart
theorem Bks.low {w w':World} {N:Nat} {v:Value} {X:List Bck} (h:Bks w N v X) (hb:Below w.heap.size w w'):Bks w' N v X:=by
 obtain⟨o,c,cs,h1,h2,h3,h4,h5⟩:=h.row
 exact⟨⟨o,c,cs,h1,h2,h3,(hb.block _ (Array.getElem?_eq_some_iff.1 h4).1).trans h4,h5⟩,h.ne,fun x hx=>(h.blk x hx).low hb,h.apart⟩
theorem Bks.holds {w:World} {N:Nat} {v:Value} {X:List Bck} (h:Bks w N v X):Holds w v X.length (X.map Bck.v):=by
 obtain⟨o,c,cs,rfl,h2,_,h4,h5⟩:=h.row
 refine .inr ⟨_,_,rfl,h2,fun j u hj=>?_⟩
 have hl:=(List.getElem?_eq_some_iff.1 hj).1
 rw[List.length_map] at hl
 rw[add_none,Lib.cell_of_heap h4,Nat.zero_add,h5 j hl,← hj]
 simp[hl]
theorem Bks.at {w:World} {N:Nat} {ao:Option Addr} {n c:Nat} {X:List Bck} (h:Bks w N (.slice ao n c) X):∃ o,ao=some ⟨o,0,none⟩∧n=X.length∧X.length≤c∧o<w.heap.size∧∀ j (hj:j<X.length),w.cell? ⟨o,j,none⟩=some X[j].v:=by
 obtain⟨o,c',cs,h1,h2,_,h4,h5⟩:=h.row
 cases h1
 exact⟨o,rfl,rfl,h2,(Array.getElem?_eq_some_iff.1 h4).1,fun j hj=>by rw[Lib.cell_of_heap h4];exact h5 j hj⟩
theorem ZcP (X:List Bck):∀ u∈X.map Bck.v,u.oneCell'=true:=by
 intro u hu
 obtain⟨x,_,rfl⟩:=List.mem_map.1 hu
 rfl
theorem Bks.new {w:World} {N g n:Nat} {X:List Bck} (h:w.heap[g]?=some (.cells (X.map Bck.v).toArray 23 (0,0))) (hN:N≤g) (hn:X.length=n) (h0:X≠[]) (hb:∀ x∈X,HB w N x) (ha:X.Pairwise Apart):Bks w N (.slice (some ⟨g,0,none⟩) n n) X:=by
 refine⟨⟨g,n,_,by rw[hn],by omega,hN,h,fun j hj=>?_⟩,h0,hb,ha⟩
 simp[hj]
structure Fnd (X:List Bck) (a i k:Nat):Prop where
 lt:i<X.length
 le:k≤(X[i]'lt).xs.length
 eq:(cat (X.take i)).length+k=a
 pos:0<a→0<k
 zero:a=0→i=0
theorem ZdE (X:List Bck) (i:Nat) (hi:i<X.length):cat (X.take (i+1))=cat (X.take i)++X[i].xs:=by
 rw[List.take_succ_eq_append_getElem hi,Zdy]
 simp[cat]
theorem ZdD (X:List Bck) (i:Nat) (hi:i<X.length):cat X=cat (X.take i)++(X[i].xs++cat (X.drop (i+1))):=by
 have h:X=X.take i++(X[i]::X.drop (i+1)):=by rw[← List.drop_eq_getElem_cons hi,List.take_append_drop]
 have h2:=congrArg cat h
 rw[Zdy,Zdz] at h2
 exact h2
theorem ZdB (X:List Bck) (i j:Nat) (h:i≤j):(cat (X.take i)).length≤(cat (X.take j)).length:=by
 have e:X.take i=(X.take j).take i:=by rw[List.take_take];congr 1;omega
 have h2:=congrArg cat (List.take_append_drop i (X.take j))
 rw[Zdy,← e] at h2
 rw[← h2,List.length_append]
 omega
theorem Fnd.order {X:List Bck} {a b i j k m:Nat} (h:Fnd X a i k) (h':Fnd X b j m) (hab:a≤b):i≤j:=by
 by_cases h0:a=0
 ·rw[h.zero h0];omega
 ·have hk:=h.pos (by omega)
  by_cases hij:i≤j
  ·exact hij
  ·exfalso
   have h1:=ZdB X (j+1) i (by omega)
   rw[ZdE X j h'.lt,List.length_append] at h1
   have:=h.eq
   have:=h'.eq
   have:=h'.le
   omega
theorem Fnd.take {X:List Bck} {a i k:Nat} (h:Fnd X a i k):(cat X).take a=cat (X.take i)++(X[i]'h.lt).xs.take k:=by
 rw[ZdD X i h.lt,List.take_append,List.take_of_length_le (by have:=h.eq;omega),List.take_append_of_le_length (by have:=h.eq;have:=h.le;omega)]
 congr 2
 have:=h.eq
 omega
theorem Fnd.drop {X:List Bck} {a i k:Nat} (h:Fnd X a i k):(cat X).drop a=(X[i]'h.lt).xs.drop k++cat (X.drop (i+1)):=by
 have he:=h.eq
 have hl:=h.le
 rw[ZdD X i h.lt,List.drop_append,List.drop_of_length_le (by omega),List.nil_append,List.drop_append_of_le_length (by omega)]
 congr 2
 omega
end

section
open Go.RowKit Go.Shelf
attribute [local go_sem] Oper.semAt_some
def ckB (x:Bck) (p m:Nat):Bck:=⟨x.g,x.o+p,m,(x.xs.drop p).take m⟩
def ckN (x:Bck) (k:Nat):Bck:=ckB x (512 * k) (min 512 (x.xs.length-512 * k))
def cks (x:Bck) (m:Nat):List Bck:=(List.range m).map (ckN x)
theorem Zez (x:Bck) (m:Nat):cks x (m+1)=cks x m++[ckN x m]:=by simp[cks,List.range_succ]
theorem Zey (x:Bck) (m:Nat):(cks x m).length=m:=by simp[cks]
theorem Zeq (x:Bck) (p m:Nat) (h:p+m≤x.xs.length):(ckB x p m).xs.length=m:=by
 unfold ckB
 simp only[List.length_take,List.length_drop]
 omega
theorem Zer (x:Bck) (k:Nat):(ckN x k).xs.length=min 512 (x.xs.length-512 * k):=by
 unfold ckN
 by_cases h:512 * k≤x.xs.length
 ·exact Zeq _ _ _ (by omega)
 ·unfold ckB
  simp only[List.length_take,List.length_drop]
  omega
theorem Zew (x:Bck) (m:Nat):cat (cks x m)=x.xs.take (512 * m):=by
 induction m with
 | zero=>simp[cks,cat]
 | succ m ih =>
  rw[Zez,Zdy,ih]
  have e:cat [ckN x m]=(x.xs.drop (512 * m)).take 512:=by
   simp only[cat,List.flatMap_cons,List.flatMap_nil,List.append_nil]
   unfold ckN ckB
   dsimp only
   by_cases h:512≤x.xs.length-512 * m
   ·rw[Nat.min_eq_left h]
   ·rw[Nat.min_eq_right (by omega),List.take_of_length_le (by rw[List.length_drop];omega),List.take_of_length_le (by rw[List.length_drop];omega)]
  rw[e,show 512 * (m+1)=512 * m+512 by omega,List.take_add]
theorem Zex {w:World} {N:Nat} {x:Bck} (h:HB w N x) (m:Nat):∀ y∈cks x m,HB w N y∧y.g=x.g:=by
 intro y hy
 obtain⟨k,_,rfl⟩:=List.mem_map.1 hy
 obtain⟨h0,h1,cs,h2,h3⟩:=h
 refine⟨⟨h0,?_,cs,h2,fun j hj=>?_⟩,rfl⟩
 ·rw[Zer];exact Nat.le_refl _
 ·rw[Zer] at hj
  have:=h3 (512 * k+j) (by omega)
  have e:(ckN x k).o+j=x.o+(512 * k+j):=by show x.o+512 * k+j=_;omega
  rw[e,this]
  congr 4
  simp[ckN,ckB]
theorem Zev (x:Bck) (m:Nat):(cks x m).Pairwise Apart:=by
 unfold cks
 rw[List.pairwise_map]
 refine List.Pairwise.imp ?_ (List.pairwise_lt_range (n:=m))
 intro a b hab
 right
 left
 rw[Zer]
 show x.o+512 * a+_≤x.o+512 * b
 omega
theorem Zai (ao:Option Addr) (len c:Nat) (w:World) :
  Calls Tryz.prog 77 #[.slice ao len c,.int .i64 512] w fun e w' =>
   e=.returned (.func (.func 113) #[] #[.pointer (some ⟨w.heap.size,0,none⟩),.pointer (some ⟨w.heap.size+1,0,none⟩)])∧w'=(w.alloc (.cells #[.slice ao len c] 23)).alloc (.cells #[.int .i64 512] 3):=by
 go_enter Tryz.func77,Tryz.ntmps77
 go_wp2
 go_ret
 exact⟨rfl,rfl⟩
theorem ZwJ {ao:Option Addr} {n c p m:Nat} (h:p+m≤n) (hc:n≤c) (hm:0<m) (g o:Nat) (ha:ao=some ⟨g,o,none⟩) (q:Int) (hq:q=((p+m:Nat):Int)) (u:World) :
  (Instr.slice 23 (.slice ao n c) (some (.int .i64 (p:Int))) (some (.int .i64 q)) (some (.int .i64 q))).run Tryz.prog u=.ok (.slice (some ⟨g,o+p,none⟩) m m) u:=by
 subst hq ha
 rw[run_slice_lhm (P:=Tryz.prog) u 23 (some ⟨g,o,none⟩) n c (by kernel_rfl) .i64 .i64 .i64 (p:Int) ((p+m:Nat):Int) ((p+m:Nat):Int) (by omega) (by omega) (by omega) (by omega),efsT u]
 simp[Result.andThen,sliced,add_none]
 omega
theorem Zeo (N:Nat) (hN:1≤N) (lp lo n₀:Nat) (x:Bck) (M:Nat) (HM:Hid (x.xs.length≤512 * M∧512 * M<x.xs.length+512)) (hn:x.xs.length≤1099511627776) (hxc:x.xs.length≤x.c)
  (J Jx:List Bck→World→Prop) (W:World) (_hJ:AbidesFrom W.heap.size J)
  (hY:∀ pre (y:Bck) W1,J pre W1→pre.length<M→YieldAt Fence.wide (N-1) Tryz.prog lp #[y.v] W1 fun e W' =>
   (e=.returned (.bool true)∧J (pre++[y]) W'∧Below n₀ W1 W')∨(e=.returned (.bool false)∧Jx (pre++[y]) W'))
  (_hlo:lo+1<n₀) (_hsz:n₀≤W.heap.size) (hb0:W.heap[lo]?=some (.cells #[x.v] 23 (0,0))) (hb1:W.heap[lo+1]?=some (.cells #[.int .i64 512] 3 (0,0))) (h0:J [] W) :
  CallsIn Fence.wide N Tryz.prog 113 #[.func (.yield lp) #[] #[],.pointer (some ⟨lo,0,none⟩),.pointer (some ⟨lo+1,0,none⟩)] W fun e W'=>(∃ v,e=.returned v) ∧
   ((∃ ys:List Bck,ys=cks x M∧J ys W')∨(∃ pre,True∧Jx pre W')):=by
 obtain⟨n,hnn⟩:∃ n,x.xs.length=n:=⟨_,rfl⟩
 have hxv:x.v=.slice (some ⟨x.g,x.o,none⟩) n x.c:=by rw[← hnn];rfl
 rw[hxv] at hb0
 have HNN:Hid (x.xs.length=n):=hnn
 rw[hnn] at hn hxc HM
 clear hnn hxv
 have hw0:=fun (wr:World) (hK:Below n₀ W wr)=>(hK.block lo (by omega)).trans hb0
 have hw1:=fun (wr:World) (hK:Below n₀ W wr)=>(hK.block (lo+1) (by omega)).trans hb1
 refine callsIn_of_wp Tryz.func113 rfl trivial ?_ rfl
 simp only[Tryz.ntmps113,List.size_toArray,List.length_cons,List.length_nil,Nat.reduceAdd,Nat.reduceSub,Array.replicate_succ,Array.replicate_zero,List.push_toArray,List.append_toArray,List.nil_append,List.cons_append]
 gi_wp2
 gi_loopw [4] (fun iv wr=>∃ (k p:Nat) (pre:List Bck),k≤M∧iv=.int .i64 (p:Int)∧Hid (p=512 * k)∧Below n₀ W wr∧J pre wr∧Hid (pre=cks x k)) (fun iv _=>n+512-(intOf iv).toNat)
 case atStart=>exact⟨0,0,[],Nat.zero_le _,by go_num,rfl,Below.refl _ _,h0,rfl⟩
 case round =>
  obtain⟨k,p,pre,hk,rfl,hp,hK,hJr,hR⟩:=hrel
  have d0:wr.cell? ⟨lo,0,none⟩=some (.slice (some ⟨x.g,x.o,none⟩) n x.c):=by rw[Lib.cell_of_heap (hw0 wr hK)];rfl
  have d1:wr.cell? ⟨lo+1,0,none⟩=some (.int .i64 512):=by rw[Lib.cell_of_heap (hw1 wr hK)];rfl
  by_cases hlt:p<n
  ·have i1:(p:Int)<(n:Int):=by omega
   have hkM:k<M:=(by have:=hp.out;have:=HM.out;omega)
   obtain⟨m,hm⟩:∃ m,min 512 (n-p)=m:=⟨_,rfl⟩
   have hm1:0<m∧m≤512∧p+m≤n:=by omega
   have hsl:=fun u=>Zxd (T:=23) (by kernel_rfl) efsT (some ⟨x.g,x.o,none⟩) n x.c p (by omega) u
   have hck:=fun u=>ZwJ (p:=p) (m:=m) hm1.2.2 hxc hm1.1 x.g x.o rfl ((p:Int)+(m:Int)) (by omega) u
   have HE:Hid (ckN x k=⟨x.g,x.o+p,m,(x.xs.drop p).take m⟩):=(by
    show _=_
    unfold ckN ckB
    rw[HNN.out,← hp.out,hm])
   have hpre:pre.length=k:=by rw[hR.out,Zey]
   obtain⟨fn,tmps,assign,body,hy,hRd⟩:=hY pre (ckN x k) wr.drew (_hJ pre wr wr.drew none hJr ⟨rfl,rfl,rfl,Nat.le_refl _,fun _ _ _=>rfl⟩ (fun q e=>by cases e)) (by omega)
   have hyv:(ckN x k).v=.slice (some ⟨x.g,x.o+p,none⟩) m m:=(by
    rw[HE.out]
    unfold Bck.v
    dsimp only
    have:((x.xs.drop p).take m).length=m:=by rw[List.length_take,List.length_drop,HNN.out];omega
    rw[this])
   rw[hyv] at hy
   have hmin:(if ((n-p:Nat):Int)<512 then ((n-p:Nat):Int) else 512)=(m:Int):=(by split<;>omega)
   have hmin2:min (512:Int) ((n-p:Nat):Int)=(m:Int):=(by omega)
   have e0:wr.drew.cell? ⟨lo,0,none⟩=some (.slice (some ⟨x.g,x.o,none⟩) n x.c):=d0
   have i2:(p:Int)+(m:Int)≤9223372036854775807:=by omega
   have i3:IntKind.i64.wrap ((p:Int)+(m:Int))=(p:Int)+(m:Int):=wrap_small _ (by omega) (by omega)
   gi_wp2
   gi_region
   gi_wp2
   refine hRd.mono ?_
   rintro e W3 (⟨rfl,hJ3,hk3⟩ | ⟨rfl,hJx3⟩)
   ·have hK3:Below n₀ W W3:=hK.drew.trans hk3
    have f1:W3.cell? ⟨lo+1,0,none⟩=some (.int .i64 512):=by rw[Lib.cell_of_heap (hw1 W3 hK3)];rfl
    have i4:IntKind.i64.wrap ((p:Int)+512)=(p:Int)+512:=wrap_small _ (by omega) (by omega)
    gi_wp2
    go_roundw
    case rel=>exact⟨k+1,p+512,pre++[ckN x k],by omega,by go_num,(by show _=_;have:=hp.out;omega),hK3,hJ3,(by show _=_;rw[Zez,← hR.out])⟩
    case measure=>simp[intOf];omega
   ·gi_wp2
    refine bodyPost_ret (results_none rfl _ _ _) rfl ?_
    exact⟨⟨_,rfl⟩,.inr ⟨_,trivial,hJx3⟩⟩
  ·have hkM:k=M:=(by have:=hp.out;have:=HM.out;omega)
   have i1:decide ((p:Int)<(n:Int))=false:=decide_eq_false (by omega)
   gi_wp2
   go_end0
   exact⟨⟨_,rfl⟩,.inl ⟨pre,by rw[hR.out,hkM],hJr⟩⟩
theorem Zep (N:Nat) (hN:1≤N) (lo n₀:Nat) (x:Bck) (M:Nat) (HM:Hid (x.xs.length≤512 * M∧512 * M<x.xs.length+512)) (hn:x.xs.length≤1099511627776) (hxc:x.xs.length≤x.c) (w:World)
  (hlo:lo+1<n₀) (hsz:n₀≤w.heap.size) (hb0:w.heap[lo]?=some (.cells #[x.v] 23 (0,0))) (hb1:w.heap[lo+1]?=some (.cells #[.int .i64 512] 3 (0,0))) :
  SeqStopsK Fence.wide N Tryz.prog 113 #[.pointer (some ⟨lo,0,none⟩),.pointer (some ⟨lo+1,0,none⟩)] (fun y:Bck=>#[y.v]) (Below n₀) (fun ys=>ys=cks x M) (fun _=>True) M w:=fun lp J Jx W hW hJ _ hY h0 =>
 Zeo N hN lp lo n₀ x M HM hn hxc J Jx W hJ hY hlo (Nat.le_trans hsz hW.size) ((hW.block _ (by omega)).trans hb0) ((hW.block _ (by omega)).trans hb1) h0
structure Cj (n₀:Nat) (v:Value) (k:Nat) (xs:List Value) (W:World):Prop where
 box:Boxed W n₀ 72 v
 row:W.ownsRow n₀ 23 1 v k xs
theorem Cj.alloc {n₀:Nat} {v:Value} {k:Nat} {xs:List Value} {W:World} (h:Cj n₀ v k xs W) (o:Obj):Cj n₀ v k xs (W.alloc o):=⟨h.box.alloc o,h.row.alloc o⟩
theorem Cj.appended {n₀:Nat} {v v':Value} {k m:Nat} {xs ys:List Value} {W w1:World} (h:Cj n₀ v k xs W) (hsz:n₀≤W.heap.size) (hown':w1.ownsRow n₀ 23 1 v' m ys) (hgrow:W.grownBy w1 v.ownBlock) :
  Boxed w1 n₀ 72 v∧Cj n₀ v' m ys (w1.setCell ⟨n₀,0,none⟩ v')∧KeepsOthers W (w1.setCell ⟨n₀,0,none⟩ v')∧Below n₀ W (w1.setCell ⟨n₀,0,none⟩ v'):=by
 have hte:72≠23:=by decide
 have hv1:Boxed w1 n₀ 72 v:=h.box.kept hgrow (h.box.not_row hte h.row)
 have hset:=grownBy_setCell' w1 n₀ v'
 have hrow:∀ j,v.ownBlock=some j→∃ cur,W.heap[j]?=some (.cells cur 23 (0,0))∧n₀≤j:=by
  intro j ej
  rcases h.row.2 with ⟨rfl,_⟩ | ⟨g,cap,cur,rfl,hb,hgb,_⟩
  ·simp[Value.ownBlock] at ej
  ·obtain rfl:g=j:=by simpa [Value.ownBlock] using ej
   exact⟨cur,hgb,hb⟩
 refine⟨hv1,⟨hv1.set v',hown'.kept hset (.inr (hv1.not_row hte hown').symm)⟩,?_,?_⟩
 ·refine (KeepsOthers.of_grownBy hgrow fun j o ej hj=>?_).trans (KeepsOthers.setCell _ _ _)
  obtain⟨cur,hc,_⟩:=hrow j ej
  rw[hc] at hj
  cases hj
  rfl
 ·refine ((Below.refl n₀ W).grown hgrow hsz fun j ej=>?_).setCell (p:=⟨n₀,0,none⟩) (Nat.le_refl _) v'
  obtain⟨_,_,h2⟩:=hrow j ej
  exact h2
theorem Zaa (lo:Nat) (x:Bck) (M:Nat) (HM:Hid (x.xs.length≤512 * M∧512 * M<x.xs.length+512)) (hn:x.xs.length≤1099511627776) (hxc:x.xs.length≤x.c) (w:World)
  (hlo:lo+1<w.heap.size) (hb0:w.heap[lo]?=some (.cells #[x.v] 23 (0,0))) (hb1:w.heap[lo+1]?=some (.cells #[.int .i64 512] 3 (0,0))) :
  Calls Tryz.prog 112 #[.slice none 0 0,.func (.func 113) #[] #[.pointer (some ⟨lo,0,none⟩),.pointer (some ⟨lo+1,0,none⟩)]] w fun e w'=>∃ v,e=.returned v∧w'.ownsRow w.heap.size 23 1 v (cks x M).length ((cks x M).map Bck.v)∧Below w.heap.size w w':=by
 have hMb:M≤2199023255552:=by have:=HM.out;omega
 refine (callsIn_wide (n:=3)).1 ?_
 refine callsIn_of_wp_marks Tryz.func112 rfl trivial ?_ rfl
 simp only[Tryz.ntmps112,List.size_toArray,List.length_cons,List.length_nil,Nat.reduceAdd,Nat.reduceSub,Array.replicate_succ,Array.replicate_zero,List.push_toArray,List.append_toArray,List.nil_append,List.cons_append]
 gi_wp2
 obtain⟨W0,hW0⟩:∃ W0,w.alloc (.cells #[.slice none 0 0] 72)=W0:=⟨_,rfl⟩
 have hsz:W0.heap.size=w.heap.size+1:=by rw[← hW0];simp
 have hB0:Below w.heap.size w W0:=by rw[← hW0];exact (Below.refl _ w).alloc (Nat.le_refl _) _
 have bK:Boxed W0 w.heap.size 72 (.slice none 0 0):=by rw[← hW0];exact Boxed.new w _ _
 rw[hW0]
 clear hW0
 refine wpIn_rangeFunc_ownH rfl (by omega) (gf:=113) (lb:=#[.pointer (some ⟨lo,0,none⟩),.pointer (some ⟨lo+1,0,none⟩)]) rfl trivial (enters_of Tryz.func113 (by kernel_rfl) rfl)
  (Zep 2 (by omega) lo w.heap.size x M HM hn hxc W0 hlo (by omega) ((hB0.block _ (by omega)).trans hb0) ((hB0.block _ (by omega)).trans hb1)) Below.trans (belowK_b (by omega)) (Below.refl _ _) (fun _=>rfl)
  (fun pre W=>(∃ v,Boxed W w.heap.size 72 v∧W.ownsRow w.heap.size 23 1 v (pre:List Bck).length (pre.map Bck.v)∧True)∧Below w.heap.size W0 W)
  (fun _ _ _=>False)
  (OwnFrom.and (Own.from (holdsRow_own (β:=List Bck) w.heap.size w.heap.size 72 23 1 (fun pre=>pre.length) (fun pre=>pre.map Bck.v) (fun _ _=>True)) _) (ownFrom_below (by omega) (by omega)))
  (fun _ _ _ _ _ hs _ _=>hs)
  ⟨⟨_,bK,World.ownsRow_nil _ _ _ _,trivial⟩,Below.refl _ _⟩
  (fun y a' _=>a'={ tmps:=#[.slice none 0 0,.func (.func 113) #[] #[.pointer (some ⟨lo,0,none⟩),.pointer (some ⟨lo+1,0,none⟩)],.pointer (some ⟨w.heap.size,0,none⟩),undef,.slice none 0 0,y.v,.func (.func 113) #[] #[.pointer (some ⟨lo,0,none⟩),.pointer (some ⟨lo+1,0,none⟩)],y.v,undef,undef,undef,undef,undef],defers:=[] })
  ?hAx ?assign ?body ?done ?stop
 case hAx =>
  rintro y a' _ A B row rfl hg hr
  rfl
 case assign =>
  rintro lp pre y W K hI hK
  gi_wp2
  exact hK _ _ ((KeepsOthers.refl _).from _) (Below.refl _ _) hI rfl
 case body =>
  rintro lp pre y a' W hlp ⟨r,hr⟩ ⟨⟨v,hbx,hrw,_⟩,hB⟩ rfl hlt
  have hO:Cj w.heap.size v pre.length (pre.map Bck.v) W:=⟨hbx,hrw⟩
  have hs:=hB.size
  have hc:=hbx.cell
  clear hbx hrw
  obtain⟨yv,hyv⟩:∃ yv,y.v=yv:=⟨_,rfl⟩
  obtain⟨yg,yn,yc,hyf⟩:∃ yg yn yc,yv=Value.slice (some yg) yn yc:=⟨_,_,_,hyv.symm⟩
  have HY:Hid (y.v=yv):=hyv
  rw[hyv]
  clear hyv
  subst hyf
  gi_wp2_with (gi_at_builtin;refine ZBt _ rfl (.tmp 8) (.tmp 10) 72 23 rfl (.slice none 0 0) 1 24 Tryz.underlying72 infoL rfl (by decide) (by decide) w.heap.size v _ _ rfl (hO.row.alloc _) _ 1 [.slice (some yg) yn yc] rfl (Zqa _ _ _ _ _ (by decide)) rfl (by intro u hu;rw[List.mem_singleton.1 hu];rfl) (by omega) (by simp;omega) ?_;intro v' w1 hown' hgrow hp;obtain⟨g',cap',rfl⟩:=ownsRow_succ hown';obtain⟨hv1,hO2,hk2,hp2⟩:=(hO.alloc _).appended (by simp;omega) hown' hgrow;have hc1:=hv1.cell;have hf1:=hv1.frozen)
  have hkp:=((Below.refl w.heap.size W).alloc (by omega) _).trans hp2
  refine⟨((KeepsOthers.alloc W _).trans hk2).from _,hkp,⟨.slice (some ⟨g',0,none⟩) (pre.length+1) cap',hO2.box,?_,trivial⟩,hB.trans hkp⟩
  have:=hO2.row
  rw[← HY.out] at this
  simpa using this
 case done =>
  rintro D ys W hD hys ⟨⟨v,hbx,hrw,_⟩,hB⟩ hK
  have hc:=hbx.cell
  gi_wp2
  refine⟨by simp,.inl ⟨_,_,rfl,run_takeDeferred hK,?_⟩⟩
  refine⟨_,results_tmp rfl _ _ _,v,rfl,?_,(hB0.trans hB).trans (belowK_b (w:=w) (Nat.le_refl _) W D _ _ (by omega) hK rfl rfl)⟩
  have:=ownsRow_putObj hrw (Obj.deferred none) hK rfl
  rw[hys] at this
  exact this
 case stop =>
  rintro D c pre W _ _ h _
  exact h.elim
end

end Go.Proofs.YtkiaenncemfkcaaGreatDoor
