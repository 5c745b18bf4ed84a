/-
  Texts that belong together, joined: RcMath, RcRj, RcRp, RcCp, RcCf, RcC2, RcRu, RcSt.
-/
import Derived.Test.YtkiaenncemfkcaaGreatDoorRcsA11
import Derived.Lib.AppendStr
import Derived.BigQuiet
import Derived.Deep.CutBlock
import Derived.Laws.EntriesVeiled
import Derived.BigRegion
import Derived.Deep.DeepCutAuto

set_option maxHeartbeats 16000000
set_option maxRecDepth 100000
namespace Go.Proofs.YtkiaenncemfkcaaGreatDoor

section
open Ln
def rcB (t:UInt8) (p n:Int):List UInt8:=t::(Lib.itoa p++32::Lib.itoa n)
def rcC (b:List (List UInt8)) (c:Ch):List (List UInt8):=(if 0<c.AN then [rcB 100 (c.A+1) c.AN++[10]] else [])++(if 0<c.BN then (rcB 97 (c.A+c.AN) c.BN++[10])::cut b c.B c.BN else [])
def rcL (l:List Ch) (b:List (List UInt8)):List (List UInt8):=l.flatMap (rcC b)
def rcT (l:List Ch) (b:List (List UInt8)):List UInt8:=(rcL l b).flatten
def isW (c:UInt8):Bool:=c == 32
def rcmP:List UInt8→Option (Bool × Nat × Nat)
 | []=>none
 | c::t=>match spB isW t with
  | none=>none
  | some (x,_,y)=>if Pn.parseE x=0∧Pn.parseE y=0∧0<Pn.parseV y then if c=97 then some (true,(Pn.parseV x).toNat,(Pn.parseV y).toNat) else if c=100∧0<Pn.parseV x then some (false,(Pn.parseV x-1).toNat,(Pn.parseV y).toNat) else none else none
def rcmF (s:List UInt8):Option (Bool × Nat × Nat):=if fdB s=true then rcmP s.dropLast else none
def rcS (a:List (List UInt8)) (p:Nat) (s:List UInt8) (r out:List (List UInt8)) (dn:Nat) (fl:Bool):Except (Nat × Int) (List (List UInt8) × Nat × Bool × Nat × List (List UInt8)) :=
 match rcmF s with
 | none=>.error (p+1,3)
 | some (ad,ah,n)=>if ah<dn∨(ah=dn∧ad=true∧fl=true) then .error (p+1,121)
  else if a.length<ah+(if ad=true then 0 else n) then .error (p+1,2)
  else if ad=true then if r.length<n then .error (p+1+r.length+1,1) else .ok (out++(a.drop dn).take (ah-dn)++r.take n,ah,true,p+1+n,r.drop n)
  else .ok (out++(a.drop dn).take (ah-dn),ah+n,false,p+1,r)
def rcF (p:Nat) (l:List (List UInt8)):Except (Nat × Int) (List (List UInt8)):=if checkB l=true then .ok l else .error (p+1,6)
def rcE (a:List (List UInt8)):Nat→Nat→List (List UInt8)→List (List UInt8)→Nat→Bool→Except (Nat × Int) (List (List UInt8))
 | 0,p,_,out,dn,_=>rcF p (out++a.drop dn)
 | _+1,p,[],out,dn,_=>rcF p (out++a.drop dn)
 | f+1,p,s::r,out,dn,fl=>match rcS a p s r out dn fl with
  | .error e=>.error e
  | .ok (o,d,g,q,r2)=>rcE a f q r2 o d g
def rcR (t:List UInt8) (a:List (List UInt8)):Except (Nat × Int) (List (List UInt8)):=if 1048576<t.length then .error (0,9) else rcE a (splitL t).length 0 (splitL t) [] 0 false
theorem ZtY (a:List (List UInt8)) (f p:Nat) (out:List (List UInt8)) (dn:Nat) (fl:Bool):rcE a f p [] out dn fl=rcF p (out++a.drop dn):=by cases f<;>rfl
theorem ZuH {s:List UInt8} {ad:Bool} {ah n:Nat} (h:rcmP s=some (ad,ah,n)):ah≤2147483647∧0<n∧n≤2147483647:=by
 cases s with
 | nil=>cases h
 | cons c t =>
  simp only[rcmP] at h
  split at h
  ·cases h
  ·rename_i x d y _
   have b1:=@Zto x
   have b2:=@Zto y
   split at h
   ·rename_i hq
    split at h
    ·cases h
     omega
    ·split at h
     ·cases h
      omega
     ·cases h
   ·cases h
def RcRuns (a:List (List UInt8)) (p:Nat) (ls out:List (List UInt8)) (dn:Nat) (fl:Bool) (p':Nat) (ls' out':List (List UInt8)) (dn':Nat) (fl':Bool):Prop :=
 ∀ f,ls.length≤f→∃ f',ls'.length≤f'∧rcE a f p ls out dn fl=rcE a f' p' ls' out' dn' fl'
theorem RcRuns.refl (a:List (List UInt8)) (p:Nat) (ls out:List (List UInt8)) (dn:Nat) (fl:Bool):RcRuns a p ls out dn fl p ls out dn fl:=fun f hf=>⟨f,hf,rfl⟩
theorem RcRuns.trans {a:List (List UInt8)} {p p1 p2:Nat} {ls ls1 ls2 o o1 o2:List (List UInt8)} {d d1 d2:Nat} {g g1 g2:Bool} (h:RcRuns a p ls o d g p1 ls1 o1 d1 g1) (k:RcRuns a p1 ls1 o1 d1 g1 p2 ls2 o2 d2 g2):RcRuns a p ls o d g p2 ls2 o2 d2 g2:=fun f hf=>by
 obtain⟨f1,h1,e1⟩:=h f hf
 obtain⟨f2,h2,e2⟩:=k f1 h1
 exact⟨f2,h2,e1.trans e2⟩
theorem RcRuns.step {a:List (List UInt8)} {p q:Nat} {s:List UInt8} {r r2 o o1:List (List UInt8)} {d d1:Nat} {g g1:Bool} (h:rcS a p s r o d g=.ok (o1,d1,g1,q,r2)) (hl:r2.length≤r.length):RcRuns a p (s::r) o d g q r2 o1 d1 g1:=fun f hf=>by
 cases f with
 | zero=>simp at hf
 | succ f =>
  refine⟨f,by simp only[List.length_cons] at hf;omega,?_⟩
  rw[rcE,h]
theorem Zgm {n:Int} (h:0≤n):∀ c∈Lib.itoa n,isW c=false:=by
 intro c hc
 have h1:=Pn.digB_out (Zmr h c hc)
 unfold isW
 rw[beq_eq_false_iff_ne]
 rintro rfl
 simp at h1
theorem ZuI {p n:Int} (hp:0≤p) (hp1:p≤2147483647) (hn:0<n) (hn1:n≤2147483647):rcmP (rcB 97 p n)=some (true,p.toNat,n.toNat):=by
 unfold rcB rcmP
 dsimp only
 rw[Zyu (Zgm hp) (by decide)]
 obtain⟨e1,e2⟩:=ZrW hp hp1
 obtain⟨e3,e4⟩:=ZrW (n:=n) (by omega) hn1
 dsimp only
 rw[e1,e2,e3,e4,if_pos ⟨rfl,rfl,hn⟩,if_pos rfl]
theorem ZuJ {p n:Int} (hp:0≤p) (hp1:p+1≤2147483647) (hn:0<n) (hn1:n≤2147483647):rcmP (rcB 100 (p+1) n)=some (false,p.toNat,n.toNat):=by
 unfold rcB rcmP
 dsimp only
 rw[Zyu (Zgm (by omega)) (by decide)]
 obtain⟨e1,e2⟩:=ZrW (n:=p+1) (by omega) hp1
 obtain⟨e3,e4⟩:=ZrW (n:=n) (by omega) hn1
 dsimp only
 rw[e1,e2,e3,e4,if_pos ⟨rfl,rfl,hn⟩,if_neg (by decide),if_pos ⟨rfl,by omega⟩,Int.add_sub_cancel]
theorem ZuG (s:List UInt8):rcmF (s++[10])=rcmP s:=by
 unfold rcmF
 rw[if_pos (Ziq s),List.dropLast_concat]
theorem ZtT {t:UInt8} {p n:Int} (ht:t≠10) (hp:0≤p) (hn:0≤n):∀ c∈rcB t p n,c≠10:=by
 intro c hc
 unfold rcB at hc
 rcases List.mem_cons.1 hc with rfl | hc
 ·exact ht
 ·rcases List.mem_append.1 hc with hc | hc
  ·exact (Zgn (Zmr hp c hc)).2.2.1
  ·rcases List.mem_cons.1 hc with rfl | hc
   ·decide
   ·exact (Zgn (Zmr hn c hc)).2.2.1
theorem Zus {a b : List (List UInt8)} {c : Ch} (hn : numB c = true) (hal : a.length ≤ 2147483647) (hA : c.A + c.AN ≤ a.length) (hB : c.B + c.BN ≤ b.length) (R out : List (List UInt8)) (p dn : Nat) (g : Bool) (hd : (dn : Int) ≤ c.A) (hg : g = true → (dn : Int) < c.A) :
    ∃ p' g', RcRuns a p (rcC b c ++ R) out dn g p' R (out ++ cut a dn (c.A - dn) ++ cut b c.B c.BN) (c.A + c.AN).toNat g' := by
  have h := (Zqy c).1 hn
  have hcl := ZkA (A := b) (p := c.B) (k := c.BN) (by omega) (by omega) hB
  have ecut : cut a dn (c.A - dn) = (a.drop dn).take (c.A.toNat - dn) := by
    unfold cut
    rw [Int.toNat_natCast]
    congr 1
    omega
  have tk : (cut b c.B c.BN ++ R).take c.BN.toNat = cut b c.B c.BN := by
    rw [List.take_append_of_le_length (by omega), List.take_of_length_le (by omega)]
  have dk : (cut b c.B c.BN ++ R).drop c.BN.toNat = R := by
    rw [List.drop_append_of_le_length (by omega), List.drop_of_length_le (by omega), List.nil_append]
  unfold rcC
  by_cases h1 : 0 < c.AN
  · rw [if_pos h1]
    have s1 : ∀ (r : List (List UInt8)), rcS a p (rcB 100 (c.A + 1) c.AN ++ [10]) r out dn g = .ok (out ++ cut a dn (c.A - dn), (c.A + c.AN).toNat, false, p + 1, r) := fun r => by
      unfold rcS
      rw [ZuG, ZuJ (by omega) (by omega) h1 (by omega)]
      dsimp only
      rw [if_neg (by intro q; rcases q with q | q; · omega
                     · cases q.2.1), if_neg (by rw [if_neg (by decide)]; omega), if_neg (by decide), ecut]
      congr 3
      omega
    by_cases h2 : 0 < c.BN
    · rw [if_pos h2]
      refine ⟨p + 1 + 1 + c.BN.toNat, true, ?_⟩
      have r1 := RcRuns.step (s1 ((rcB 97 (c.A + c.AN) c.BN ++ [10]) :: (cut b c.B c.BN ++ R))) (Nat.le_refl _)
      refine r1.trans ?_
      have s2 : rcS a (p + 1) (rcB 97 (c.A + c.AN) c.BN ++ [10]) (cut b c.B c.BN ++ R) (out ++ cut a dn (c.A - dn)) (c.A + c.AN).toNat false = .ok (out ++ cut a dn (c.A - dn) ++ cut b c.B c.BN, (c.A + c.AN).toNat, true, p + 1 + 1 + c.BN.toNat, R) := by
        unfold rcS
        rw [ZuG, ZuI (by omega) (by omega) h2 (by omega)]
        dsimp only
        rw [if_neg (by intro q; rcases q with q | q; · omega
                       · cases q.2.2), if_neg (by rw [if_pos rfl]; omega), if_pos rfl, if_neg (by rw [List.length_append]; omega), tk, dk, Nat.sub_self]
        simp
      exact RcRuns.step s2 (by simp)
    · rw [if_neg h2]
      refine ⟨p + 1, false, ?_⟩
      have e : cut b c.B c.BN = [] := List.eq_nil_of_length_eq_zero (by omega)
      rw [e]
      simp only [List.append_nil]
      exact RcRuns.step (s1 R) (Nat.le_refl _)
  · have h2 : 0 < c.BN := by omega
    have h0 : c.AN = 0 := by omega
    rw [if_neg h1, if_pos h2]
    refine ⟨p + 1 + c.BN.toNat, true, ?_⟩
    have s2 : rcS a p (rcB 97 (c.A + c.AN) c.BN ++ [10]) (cut b c.B c.BN ++ R) out dn g = .ok (out ++ cut a dn (c.A - dn) ++ cut b c.B c.BN, (c.A + c.AN).toNat, true, p + 1 + c.BN.toNat, R) := by
      unfold rcS
      rw [ZuG, ZuI (by omega) (by omega) h2 (by omega)]
      dsimp only
      rw [if_neg (by intro q; rcases q with q | q; · omega
                     · have := hg q.2.2; omega), if_neg (by rw [if_pos rfl]; omega), if_pos rfl, if_neg (by rw [List.length_append]; omega), tk, dk, ecut]
      congr 5
      omega
    exact RcRuns.step s2 (by simp)
theorem Zut {a b:List (List UInt8)} (hal:a.length≤2147483647) (l:List Ch):∀ (fl:Bool) (x y:Int),0≤x→0≤y→Right fl x y a.length b.length l→∀ (R out:List (List UInt8)) (p:Nat) (g:Bool),(fl=true→g=false)→∃ p' d' g' out',RcRuns a p (l.flatMap (rcC b)++R) out x.toNat g p' R out' d' g'∧out'++a.drop d'=out++(piecesL x y a.length b.length l).flatMap (pa a b):=by
 induction l with
 | nil =>
  intro fl x y hx hy hr R out p g hg
  obtain⟨h1,h2,h3⟩:=hr
  refine⟨p,x.toNat,g,out,RcRuns.refl _ _ _ _ _ _,?_⟩
  have e:(piecesL x y a.length b.length []).flatMap (pa a b)=a.drop x.toNat:=by
   simp only[piecesL,List.flatMap_cons,List.flatMap_nil,List.append_nil,pa]
   have e1:cut b (b.length:Int) 0=[]:=by simp[cut]
   rw[e1,List.append_nil,cut,List.take_of_length_le (by rw[List.length_drop];omega)]
  rw[e]
 | cons c l ih =>
  intro fl x y hx hy hr R out p g hg
  obtain⟨⟨h1,h2,h3,h4⟩,h5⟩:=hr
  have hn:=(Zqy c).1 h1
  have hle:=h5.le
  obtain⟨p1,g1,r1⟩:=Zus (b:=b) h1 hal (by omega) (by omega) (l.flatMap (rcC b)++R) out p x.toNat g (by omega) (fun e=>by
   rcases h4 with h4 | h4
   ·rw[hg h4] at e;cases e
   ·omega)
  obtain⟨p2,d2,g2,o2,r2,e2⟩:=ih false (c.A+c.AN) (c.B+c.BN) (by omega) (by omega) h5 R (out++cut a x.toNat (c.A-x.toNat)++cut b c.B c.BN) p1 g1 (fun e=>by cases e)
  refine⟨p2,d2,g2,o2,?_,?_⟩
  ·rw[List.flatMap_cons,List.append_assoc]
   exact r1.trans r2
  ·rw[e2]
   simp only[piecesL,List.flatMap_cons,pa]
   rw[Int.toNat_of_nonneg hx]
   simp
theorem ZdZ {X Y:List (List UInt8)} (hX:checkB X=true) (hY:checkB Y=true) (h:Y=[]∨∀ s∈X,fdB s=true):checkB (X++Y)=true:=by
 rcases h with rfl | h
 ·rw[List.append_nil];exact hX
 ·induction X with
  | nil=>exact hY
  | cons s t ih =>
   simp only[checkB,Bool.and_eq_true,List.cons_append] at hX ⊢
   refine⟨?_,ih hX.2 fun x hx=>h x (by simp[hx])⟩
   have h1:=hX.1
   rw[ZnP] at h1 ⊢
   simp only[Bool.and_eq_true] at h1 ⊢
   refine⟨h1.1,?_⟩
   rw[h s (by simp),Bool.or_true]
theorem Zea {X:List (List UInt8)} (hX:checkB X=true) (n:Nat):checkB (X.drop n)=true:=by
 induction n generalizing X with
 | zero=>exact hX
 | succ n ih =>
  cases X with
  | nil=>rfl
  | cons s t =>
   simp only[checkB,Bool.and_eq_true] at hX
   exact ih hX.2
theorem Zed {X:List (List UInt8)} (hX:checkB X=true) (n:Nat):checkB (X.take n)=true:=by
 induction n generalizing X with
 | zero=>rfl
 | succ n ih =>
  cases X with
  | nil=>rfl
  | cons s t =>
   simp only[checkB,Bool.and_eq_true,List.take_succ_cons] at hX ⊢
   refine⟨?_,ih hX.2⟩
   have h1:=hX.1
   rw[ZnP] at h1 ⊢
   simp only[Bool.and_eq_true] at h1 ⊢
   refine⟨h1.1,?_⟩
   cases t with
   | nil=>simp
   | cons x t =>
    have h2:=h1.2
    simp only[List.isEmpty_cons,Bool.false_or] at h2
    rw[h2,Bool.or_true]
theorem Zeb {X:List (List UInt8)} (hX:checkB X=true) (n:Nat) (hn:n<X.length):∀ s∈X.take n,fdB s=true:=by
 induction n generalizing X with
 | zero=>intro s hs;cases hs
 | succ n ih =>
  cases X with
  | nil=>intro s hs;cases hs
  | cons x t =>
   simp only[checkB,Bool.and_eq_true] at hX
   simp only[List.length_cons] at hn
   intro s hs
   rw[List.take_succ_cons] at hs
   rcases List.mem_cons.1 hs with rfl | hs
   ·have h1:=hX.1
    rw[ZnP] at h1
    simp only[Bool.and_eq_true] at h1
    have h2:=h1.2
    cases t with
    | nil=>simp at hn
    | cons y t =>
     simp only[List.isEmpty_cons,Bool.false_or] at h2
     exact h2
   ·exact ih hX.2 (by omega) s hs
theorem ZtV {t:UInt8} {p n:Int} (ht:t≠10) (hp:0≤p) (hn:0≤n) (last:Bool):lineB (rcB t p n++[10]) last=true:=by
 rw[show rcB t p n++[10]=rcB t p n++10::[] from rfl,ZnO (ZtT ht hp hn)]
 rfl
theorem ZtW {b:List (List UInt8)} {c:Ch} (hb:checkB b=true) (hn:numB c=true):checkB (rcC b c)=true∧(c.B+c.BN<b.length→∀ s∈rcC b c,fdB s=true):=by
 have h:=(Zqy c).1 hn
 have hc1:checkB (cut b c.B c.BN)=true:=Zed (Zea hb _) _
 have hc2:c.B+c.BN<b.length→∀ s∈cut b c.B c.BN,fdB s=true:=fun q=>Zeb (Zea hb _) _ (by rw[List.length_drop];omega)
 have hx1:checkB (if 0<c.AN then [rcB 100 (c.A+1) c.AN++[10]] else [])=true:=by
  split
  ·simp only[checkB,Bool.and_eq_true]
   exact⟨ZtV (by decide) (by omega) (by omega) _,trivial⟩
  ·rfl
 have hx2:∀ s∈(if 0<c.AN then [rcB 100 (c.A+1) c.AN++[10]] else []),fdB s=true:=by
  intro s hs
  split at hs
  ·rw[List.mem_singleton.1 hs];exact Ziq _
  ·cases hs
 have hy1:checkB (if 0<c.BN then (rcB 97 (c.A+c.AN) c.BN++[10])::cut b c.B c.BN else [])=true:=by
  split
  ·simp only[checkB,Bool.and_eq_true]
   exact⟨ZtV (by decide) (by omega) (by omega) _,hc1⟩
  ·rfl
 refine⟨ZdZ hx1 hy1 (.inr hx2),fun q s hs=>?_⟩
 unfold rcC at hs
 rcases List.mem_append.1 hs with hs | hs
 ·exact hx2 s hs
 ·split at hs
  ·rcases List.mem_cons.1 hs with rfl | hs
   ·exact Ziq _
   ·exact hc2 q s hs
  ·cases hs
theorem Zud {b:List (List UInt8)} (hb:checkB b=true) {n:Int} (l:List Ch):∀ (fl:Bool) (x y:Int),0≤y→Right fl x y n b.length l→checkB (rcL l b)=true:=by
 induction l with
 | nil=>intro _ _ _ _ _;rfl
 | cons c l ih =>
  intro fl x y hy hr
  obtain⟨⟨h1,h2,h3,h4⟩,h5⟩:=hr
  have hn:=(Zqy c).1 h1
  have hc:=ZtW hb h1
  have hi:=ih false (c.A+c.AN) (c.B+c.BN) (by omega) h5
  unfold rcL at hi ⊢
  rw[List.flatMap_cons]
  refine ZdZ hc.1 hi ?_
  cases l with
  | nil=>exact .inl rfl
  | cons d l =>
   refine .inr (hc.2 ?_)
   obtain⟨⟨k1,k2,k3,k4⟩,k5⟩:=h5
   have kn:=(Zqy d).1 k1
   have kl:=k5.le
   rcases k4 with k4 | k4
   ·cases k4
   ·omega
theorem ZyR {b:List (List UInt8)} {l:List Ch} {n:Int} (hb:checkB b=true) (hs:Script l n b.length):splitL (rcT l b)=rcL l b:=Zvv _ (Zud hb l true 0 0 (Int.le_refl _) hs.2.2)
theorem Zuo {l:List Ch} {a b:List (List UInt8)} (hs:Script l a.length b.length) (hb:checkB b=true) (hal:a.length≤2147483647) (same:∀ r∈U 0 0 a.length b.length l,a[r.a.toNat]?=b[r.b.toNat]?) :
  rcR (rcT l b) a=if 1048576<(rcT l b).length then .error (0,9) else .ok b:=by
 unfold rcR
 rw[ZyR hb hs]
 split
 ·rfl
 ·obtain⟨p1,d1,g1,o1,r1,e1⟩:=Zut hal l true 0 0 (Int.le_refl _) (Int.le_refl _) hs.2.2 [] [] 0 false (fun _=>rfl)
  rw[reach hs.2.2 (Int.le_refl _) (Int.le_refl _) same] at e1
  obtain⟨f,hf,e⟩:=r1 (rcL l b).length (by rw[List.append_nil];exact Nat.le_refl _)
  rw[List.append_nil] at e
  have e':rcE a (rcL l b).length 0 (rcL l b) [] 0 false=rcE a f p1 [] o1 d1 g1:=e
  rw[e',ZtY,e1]
  unfold rcF
  have e2:([]:List (List UInt8))++b.drop (0:Int).toNat=b:=rfl
  rw[e2,if_pos hb]
end

section
open Ln Go.RowKit
attribute [local go_sem] Zqp ByteArray.extract_mk
theorem ZvM (ws:List (List UInt8)) (k:Nat):(ws.take k).flatten.length≤ws.flatten.length:=by
 conv=>rhs;rw[← List.take_append_drop k ws,List.flatten_append,List.length_append]
 omega
end

section
open Go.RowKit
attribute [local simp] ZfI
theorem ZbA {x y z:List UInt8} (hz:x++y=z) (h:Fits x y) (P:Program) (u:World):(Op.stringOp .add ⟨x.toArray⟩ ⟨y.toArray⟩).run P u=.ok (.string ⟨z.toArray⟩) u:=by
 subst hz
 exact Zbw h P u
theorem Zul {l:List Ch} {b:List (List UInt8)} {k:Nat} (h:k<l.length):rcT (l.drop k) b=(rcC b l[k]).flatten++rcT (l.drop (k+1)) b:=by
 unfold rcT rcL
 rw[List.drop_eq_getElem_cons h,List.flatMap_cons,List.flatten_append]
theorem Zuu {b:List (List UInt8)} (p n:Int):(cut b p n).length≤b.length∧(cut b p n).flatten.length≤b.flatten.length:=by
 unfold cut
 refine⟨by simp only[List.length_take,List.length_drop];omega,?_⟩
 have h1:=ZvM (b.drop p.toNat) n.toNat
 have h2:(b.drop p.toNat).flatten.length≤b.flatten.length:=by
  conv=>rhs;rw[← List.take_append_drop p.toNat b,List.flatten_append,List.length_append]
  omega
 omega
end

section
open Go.RowKit
theorem ZeR (t:UInt8) (p n:Int) (h0:0≤p) (h1:p≤4611686018427387904) (h2:0≤n) (h3:n≤4611686018427387904) (w:World) (HT:Hid (Tab10 w)) (T:List UInt8) (HR:Hid (rcB t p n++[10]=T)) :
  Calls Tryz.prog 33 #[.string ⟨#[t]⟩,.int .i64 p,.int .i64 n] w fun e w'=>e=.returned (.string ⟨T.toArray⟩)∧Below w.heap.size w w':=by
 have s1:=Zmu p (by omega) (by omega)
 have s2:=Zmu n (by omega) (by omega)
 obtain⟨Z2,hHZ2⟩:∃ Z,[t]++Lib.itoa p=Z:=⟨_,rfl⟩
 have HZ2:Hid ([t]++Lib.itoa p=Z2):=hHZ2
 clear hHZ2
 obtain⟨Z3,hHZ3⟩:∃ Z,Z2++[32]=Z:=⟨_,rfl⟩
 have HZ3:Hid (Z2++[32]=Z3):=hHZ3
 clear hHZ3
 obtain⟨Z4,hHZ4⟩:∃ Z,Z3++Lib.itoa n=Z:=⟨_,rfl⟩
 have HZ4:Hid (Z3++Lib.itoa n=Z4):=hHZ4
 clear hHZ4
 have HE:Hid (Z4++[10]=T):=(by
  show _=_
  rw[← HR.out,← HZ4.out,← HZ3.out,← HZ2.out]
  unfold rcB
  simp)
 have l2:Z2.length≤22:=(by rw[← HZ2.out];simp only[List.length_append,List.length_cons,List.length_nil];omega)
 have l3:Z3.length≤23:=(by rw[← HZ3.out];simp only[List.length_append,List.length_cons,List.length_nil];omega)
 have l4:Z4.length≤44:=(by rw[← HZ4.out];simp only[List.length_append];omega)
 have q2:=ZbA HZ2.out (by unfold Fits;simp only[List.length_cons,List.length_nil];omega) Tryz.prog
 have q3:=ZbA HZ3.out (by unfold Fits;simp only[List.length_cons,List.length_nil];omega) Tryz.prog
 have q4:=ZbA HZ4.out (by unfold Fits;omega) Tryz.prog
 have q5:=ZbA HE.out (by unfold Fits;simp only[List.length_cons,List.length_nil];omega) Tryz.prog
 clear HR
 go_enter Tryz.func33,Tryz.ntmps33
 go_wp2_with fail
 refine (ZpW p (by omega) (by omega) _ HT).mono ?_
 rintro e w1 ⟨rfl,hb1⟩
 have HT1:Hid (Tab10 w1):=HT.out.on hb1
 go_wp2_with fail
 refine (ZpW n (by omega) (by omega) _ HT1).mono ?_
 rintro e w2 ⟨rfl,hb2⟩
 go_wp2
 go_ret
 exact⟨rfl,hb1.trans (hb2.mono hb1.size)⟩
def Cbx (W:World) (k:Nat) (A AN B BN:Int):Prop:=W.heap[k]?=some (.cells #[.int .i64 A,.int .i64 AN,.int .i64 B,.int .i64 BN] 45)
theorem Cbx.cells {W:World} {k:Nat} {A AN B BN:Int} (h:Cbx W k A AN B BN):W.cell? ⟨k,0,none⟩=some (.int .i64 A)∧W.cell? ⟨k,1,none⟩=some (.int .i64 AN)∧W.cell? ⟨k,2,none⟩=some (.int .i64 B)∧W.cell? ⟨k,3,none⟩=some (.int .i64 BN):=by
 unfold Cbx at h
 refine⟨?_,?_,?_,?_⟩<;>rw[Lib.cell_of_heap h]<;>rfl
theorem Cbx.low {W u:World} {k:Nat} {A AN B BN:Int} (h:Cbx W k A AN B BN) (hb:Below W.heap.size W u):Cbx u k A AN B BN:=(hb.block k (Array.getElem?_eq_some_iff.1 h).1).trans h
theorem Cbx.others {W u:World} {k b:Nat} {A AN B BN:Int} (h:Cbx W k A AN B BN) (hk:Lib.OthersKept 5 (some b) W u) (hne:k≠b):Cbx u k A AN B BN:=hk k _ h (fun e=>by injection e with e;omega) (fun c fz e=>by cases e)
theorem ZuC (b:Nat) (acc s Z:List UInt8) (w:World) (hB:Lib.IsBuilderF 59 5 b b (Lib.byteCells acc) w) (hBw:b≤w.heap.size) (hl:acc.length+s.length≤140737488355328) (HZ:Hid (acc++s=Z)) :
  Calls Tryz.prog 22 #[.pointer (some ⟨b,0,none⟩),.string ⟨s.toArray⟩] w fun e w'=>e=.returned (.tuple #[.int .i64 (s.length:Int),.nilIface])∧Lib.IsBuilderF 59 5 b b (Lib.byteCells Z) w'∧Below b w w'∧Lib.OthersKept 5 (some b) w w':=by
 have hz:=HZ.out
 subst hz
 refine (Tryz.WriteString_h b b _ ⟨s.toArray⟩ w hB (by rw[Zct];exact hl) hBw).mono ?_
 rintro e w' ⟨rfl,h1,h2,h3⟩
 exact⟨rfl,.inr (by rw[Lib.byteCells_append];exact h1),h2,h3⟩
theorem ZtU {t:UInt8} {p n:Int} (h0:0≤p) (h1:p≤4611686018427387904) (h2:0≤n) (h3:n≤4611686018427387904):(rcB t p n++[10]).length≤45:=by
 have s1:=Zmu p (by omega) (by omega)
 have s2:=Zmu n (by omega) (by omega)
 unfold rcB
 simp only[List.length_append,List.length_cons,List.length_nil]
 omega
theorem Zuf (l:List Ch) (vl va vb:Value) (a b:List (List UInt8)) (w:World) (hl:HCh w vl l) (ha:HS w va a) (hb:HS w vb b) (hll:l.length≤1099511627776) (hla:a.length≤1099511627776) (hlb:b.length≤1099511627776) (hfb:b.flatten.length≤1099511627776) (HTb:Hid (Tab10 w))
  (r:Int) (HR:Hid (chk l a.length b.length=r)) (T:List UInt8) (HT:Hid ((if r=0 then rcT l b else [])=T)) (hT:T.length≤70368744177664) :
  Calls Tryz.prog 14 #[vl,va,vb] w fun e w'=>e=.returned (.tuple #[.string ⟨T.toArray⟩,.int .i64 r])∧Below w.heap.size w w':=by
 obtain⟨lo,lc,rfl⟩:=Holds.form hl
 obtain⟨ao,ca,rfl⟩:=Holds.form ha
 obtain⟨bo,cb,rfl⟩:=Holds.form hb
 go_enter Tryz.func14,Tryz.ntmps14
 go_wp2_with fail
 refine (Zah l a.length b.length r (.slice lo l.length lc) _ hl (by omega) (by omega) (by omega) HR).mono ?_
 rintro e w1 ⟨rfl,hb1⟩
 by_cases hr:r=0
 ·subst hr
  have hTT:=HT.out
  rw[if_pos rfl] at hTT
  have hs:Script l a.length b.length:=(by
   by_cases h:Script l a.length b.length
   ·exact h
   ·have:=Zej h
    rw[HR.out] at this
    cases this)
  have HMH:Hid (∀ c∈l,numB c=true∧c.A+c.AN≤(a.length:Int)∧c.B+c.BN≤(b.length:Int)):=Zvs hs.2.2
  have HI0:Hid ([]++rcT (l.drop 0) b=T):=(by show _=_;rw[← hTT];rfl)
  have HT1:Hid (Tab10 w1):=HTb.out.on hb1
  have hl1:=HCh.keep hl hb1 (Nat.le_refl _)
  have hB1:=HS.keep hb hb1 (Nat.le_refl _)
  clear hs HT hTT HR HTb hl ha hb
  have hF0:=Zmh w1
  have hBw:Below w1.heap.size w1 (w1.alloc (.cells #[.pointer none,.slice none 0 0] 59)):=(Below.refl _ w1).alloc (Nat.le_refl _) _
  go_wp2
  go_loopw [23] (fun i wr=>∃ (k:Nat) (acc:List UInt8),k≤l.length∧i=.int .i64 (k:Int)∧Lib.IsBuilderF 59 5 w1.heap.size w1.heap.size (Lib.byteCells acc) wr∧Below w1.heap.size w1 wr∧Hid (acc++rcT (l.drop k) b=T)) (fun i _=>l.length-(intOf i).toNat)
  case atStart=>exact⟨0,[],Nat.zero_le _,by go_num,hF0,hBw,HI0⟩
  case round =>
   clear hF0 hBw HI0
   obtain⟨k,acc,hk,rfl,hBr,hbr,HI⟩:=hrel
   have hHb:w1.heap.size<wr.heap.size:=(by
    rcases hBr with ⟨_,_,h,_⟩ | ⟨_,_,h,_⟩<;>exact (Array.getElem?_eq_some_iff.1 h).1)
   have hacl:acc.length≤70368744177664:=(by
    have h1:=congrArg List.length HI.out
    simp only[List.length_append] at h1
    omega)
   by_cases hlt:k<l.length
   ·obtain⟨bk,off,rfl,hbk,hc⟩:=HCh.at (HCh.keep hl1 hbr (Nat.le_refl _)) (by omega)
    obtain⟨c0,c1,c2,c3⟩:=hc k hlt
    have HI2:Hid (acc++((rcC b l[k]).flatten++rcT (l.drop (k+1)) b)=T):=(by
     show _=_
     rw[← HI.out,Zul hlt])
    obtain⟨c,hcd⟩:∃ c,l[k]=c:=⟨_,rfl⟩
    have hm:=HMH.out l[k] (List.getElem_mem hlt)
    rw[hcd] at hm c0 c1 c2 c3 HI2
    clear hcd hc HI
    have hn:=(Zqy c).1 hm.1
    have i1:0≤(k:Int):=by omega
    have i2:(k:Int)<(l.length:Int):=by omega
    obtain⟨vs,hvs,hsB⟩:=ZwM b bo cb c.B c.BN (by omega) (by omega) (by omega) w1 hB1
    obtain⟨vo2,vc2,rfl⟩:=Holds.form (hsB w1 hB1)
    have hCl:=Zuu (b:=b) c.B c.BN
    have hlow:Below wr.heap.size wr (wr.alloc (.cells #[.int .i64 c.A,.int .i64 c.AN,.int .i64 c.B,.int .i64 c.BN] 45)):=(Below.refl _ wr).alloc (Nat.le_refl _) _
    have hbx:Cbx (wr.alloc (.cells #[.int .i64 c.A,.int .i64 c.AN,.int .i64 c.B,.int .i64 c.BN] 45)) wr.heap.size c.A c.AN c.B c.BN:=heap_alloc_new wr _
    obtain⟨L,hL⟩:∃ L,cut b c.B c.BN=L:=⟨_,rfl⟩
    rw[hL] at hvs hsB hCl
    have hLl:L.length≤1099511627776:=by omega
    obtain⟨X,HX⟩:∃ X,Hid (L.flatten=X):=⟨_,rfl⟩
    have hXl:X.length≤1099511627776:=by rw[← HX.out];omega
    clear hCl
    have hwr:IntKind.i64.wrap (c.B+c.BN)=c.B+c.BN:=wrap_small _ (by omega) (by omega)
    have hwr1:IntKind.i64.wrap (c.A+1)=c.A+1:=wrap_small _ (by omega) (by omega)
    have hwr2:IntKind.i64.wrap (c.A+c.AN)=c.A+c.AN:=wrap_small _ (by omega) (by omega)
    obtain⟨D,hHD⟩:∃ D,rcB 100 (c.A+1) c.AN++[10]=D:=⟨_,rfl⟩
    have HD:Hid (rcB 100 (c.A+1) c.AN++[10]=D):=hHD
    clear hHD
    obtain⟨P,hHP⟩:∃ P,rcB 97 (c.A+c.AN) c.BN++[10]=P:=⟨_,rfl⟩
    have HP:Hid (rcB 97 (c.A+c.AN) c.BN++[10]=P):=hHP
    clear hHP
    have hDl:D.length≤45:=by rw[← HD.out];exact ZtU (by omega) (by omega) (by omega) (by omega)
    have hPl:P.length≤45:=by rw[← HP.out];exact ZtU (by omega) (by omega) (by omega) (by omega)
    obtain⟨A,AN,B,BN⟩:=c
    dsimp only at c0 c1 c2 c3 hbx hlow hn hm hvs hsB hwr hwr1 hwr2 hL HD HP
    obtain⟨wb,hwb⟩:∃ wb,wr.alloc (.cells #[.int .i64 A,.int .i64 AN,.int .i64 B,.int .i64 BN] 45)=wb:=⟨_,rfl⟩
    rw[hwb] at hbx hlow
    have hBb:=Zmj hBr hlow
    have hbb:=hbr.trans (hlow.mono hbr.size)
    have hzb:wr.heap.size<wb.heap.size:=(Array.getElem?_eq_some_iff.1 hbx).1
    obtain⟨d0,d1,d2,d3⟩:=hbx.cells
    have HTB:Hid (Tab10 wb):=HT1.out.on hbb
    clear hBr hlow
    by_cases h1:0<AN
    ·obtain⟨Z,hHZ⟩:∃ Z,acc++D=Z:=⟨_,rfl⟩
     have HZ:Hid (acc++D=Z):=hHZ
     clear hHZ
     have hZl:Z.length≤70368744177664+45:=by rw[← HZ.out,List.length_append];omega
     go_wp2_with fail
     refine (ZeR 100 (A+1) AN (by omega) (by omega) (by omega) (by omega) wb HTB D HD).mono ?_
     rintro e w2 ⟨rfl,hl2⟩
     have hB2:=Zmj hBb hl2
     have hx2:=hbx.low hl2
     have hb2:=hbb.trans (hl2.mono hbb.size)
     clear d0 d1 d2 d3
     go_wp2_with fail
     refine (ZuC w1.heap.size acc D Z w2 hB2 (by have:=hl2.size;omega) (by omega) HZ).mono ?_
     rintro e w3 ⟨rfl,hB3,hl3,ho3⟩
     have hx3:=hx2.others ho3 (by omega)
     have hb3:=hb2.trans hl3
     obtain⟨d0,d1,d2,d3⟩:=hx3.cells
     clear hB2 hx2 hb2 hl2
     by_cases h2:0<BN
     ·obtain⟨Y,hHY⟩:∃ Y,Z++P=Y:=⟨_,rfl⟩
      have HY:Hid (Z++P=Y):=hHY
      clear hHY
      have hYl:Y.length≤70368744177664+90:=by rw[← HY.out,List.length_append];omega
      obtain⟨Q,hHQ⟩:∃ Q,Y++X=Q:=⟨_,rfl⟩
      have HQ:Hid (Y++X=Q):=hHQ
      clear hHQ
      have HE:Hid (Q++rcT (l.drop (k+1)) b=T):=(by
       show _=_
       rw[← HI2.out,← HQ.out,← HY.out,← HP.out,← HX.out,← HZ.out,← HD.out]
       unfold rcC
       dsimp only
       rw[if_pos h1,if_pos h2,hL]
       simp)
      have HTC:Hid (Tab10 w3):=HT1.out.on hb3
      clear HI2
      go_wp2_with fail
      refine (ZeR 97 (A+AN) BN (by omega) (by omega) (by omega) (by omega) w3 HTC P HP).mono ?_
      rintro e w4 ⟨rfl,hl4⟩
      have hB4:=Zmj hB3 hl4
      have hx4:=hx3.low hl4
      have hb4:=hb3.trans (hl4.mono hb3.size)
      clear d0 d1 d2 d3
      go_wp2_with fail
      refine (ZuC w1.heap.size Z P Y w4 hB4 hb4.size (by omega) HY).mono ?_
      rintro e w5 ⟨rfl,hB5,hl5,ho5⟩
      have hx5:=hx4.others ho5 (by omega)
      have hb5:=hb4.trans hl5
      obtain⟨d0,d1,d2,d3⟩:=hx5.cells
      have hs5:HS w5 (.slice vo2 L.length vc2) L:=hsB w5 (HS.keep hB1 hb5 (Nat.le_refl _))
      go_wp2_with fail
      refine (Znl _ L w5 hLl (by rw[HX.out];exact hXl) hs5).mono ?_
      rw[HX.out]
      rintro e w6 ⟨rfl,hl6⟩
      have hB6:=Zmj hB5 hl6
      have hb6:=hb5.trans (hl6.mono hb5.size)
      go_wp2_with fail
      refine (ZuC w1.heap.size Y X Q w6 hB6 hb6.size (by omega) HQ).mono ?_
      rintro e w7 ⟨rfl,hB7,hl7,ho7⟩
      have hb7:=hb6.trans hl7
      go_wp2
      exact⟨⟨k+1,_,by omega,by go_num,hB7,hb7,HE⟩,by simp[intOf];omega⟩
     ·have HE:Hid (Z++rcT (l.drop (k+1)) b=T):=(by
       show _=_
       rw[← HI2.out,← HZ.out,← HD.out]
       unfold rcC
       dsimp only
       rw[if_pos h1,if_neg h2]
       simp)
      clear HI2
      go_wp2
      exact⟨⟨k+1,_,by omega,by go_num,hB3,hb3,HE⟩,by simp[intOf];omega⟩
    ·have h2:0<BN:=by omega
     obtain⟨Y,hHY⟩:∃ Y,acc++P=Y:=⟨_,rfl⟩
     have HY:Hid (acc++P=Y):=hHY
     clear hHY
     have hYl:Y.length≤70368744177664+90:=by rw[← HY.out,List.length_append];omega
     obtain⟨Q,hHQ⟩:∃ Q,Y++X=Q:=⟨_,rfl⟩
     have HQ:Hid (Y++X=Q):=hHQ
     clear hHQ
     have HE:Hid (Q++rcT (l.drop (k+1)) b=T):=(by
      show _=_
      rw[← HI2.out,← HQ.out,← HY.out,← HP.out,← HX.out]
      unfold rcC
      dsimp only
      rw[if_neg h1,if_pos h2,hL]
      simp)
     have HTC:Hid (Tab10 wb):=HT1.out.on hbb
     clear HI2
     go_wp2_with fail
     refine (ZeR 97 (A+AN) BN (by omega) (by omega) (by omega) (by omega) wb HTC P HP).mono ?_
     rintro e w4 ⟨rfl,hl4⟩
     have hB4:=Zmj hBb hl4
     have hx4:=hbx.low hl4
     have hb4:=hbb.trans (hl4.mono hbb.size)
     clear d0 d1 d2 d3
     go_wp2_with fail
     refine (ZuC w1.heap.size acc P Y w4 hB4 hb4.size (by omega) HY).mono ?_
     rintro e w5 ⟨rfl,hB5,hl5,ho5⟩
     have hx5:=hx4.others ho5 (by omega)
     have hb5:=hb4.trans hl5
     obtain⟨d0,d1,d2,d3⟩:=hx5.cells
     have hs5:HS w5 (.slice vo2 L.length vc2) L:=hsB w5 (HS.keep hB1 hb5 (Nat.le_refl _))
     go_wp2_with fail
     refine (Znl _ L w5 hLl (by rw[HX.out];exact hXl) hs5).mono ?_
     rw[HX.out]
     rintro e w6 ⟨rfl,hl6⟩
     have hB6:=Zmj hB5 hl6
     have hb6:=hb5.trans (hl6.mono hb5.size)
     go_wp2_with fail
     refine (ZuC w1.heap.size Y X Q w6 hB6 hb6.size (by omega) HQ).mono ?_
     rintro e w7 ⟨rfl,hB7,hl7,ho7⟩
     have hb7:=hb6.trans hl7
     go_wp2
     exact⟨⟨k+1,_,by omega,by go_num,hB7,hb7,HE⟩,by simp[intOf];omega⟩
   ·have HE:Hid (acc=T):=(by
     have h:=HI.out
     rw[List.drop_of_length_le (by omega)] at h
     show acc=T
     simpa [rcT,rcL] using h)
    have hend:decide ((k:Int)<(l.length:Int))=false:=decide_eq_false (by omega)
    clear HI
    go_wp2_with fail
    refine (Tryz.Builder_String_any_k w1.heap.size w1.heap.size acc wr hBr (by omega)).mono ?_
    rintro e w3 ⟨rfl,hB3,hb3,ho3⟩
    have hb4:=hb1.trans ((hbr.trans hb3).mono hb1.size)
    go_wp2
    go_ret2
    exact⟨by rw[← HE.out];rfl,hb4⟩
 ·have hrb:(r != 0)=true:=bne_iff_ne.2 hr
  have hTT:=HT.out
  rw[if_neg hr] at hTT
  subst hTT
  go_wp2
  go_ret2
  exact⟨rfl,hb1⟩
end

section
open Go.RowKit
attribute [local go_sem] ByteArray.extract_mk Zqp
def cQ (x c:UInt8):Bool:=c == x
def cA (x:UInt8) (l:List UInt8):List UInt8:=match spB (cQ x) l with | none=>l | some (a,_,_)=>a
def cB (x:UInt8) (l:List UInt8):List UInt8:=match spB (cQ x) l with | none=>[] | some (_,_,b)=>b
def cS (x:UInt8) (l:List UInt8):Bool:=match spB (cQ x) l with | none=>false | some _=>true
theorem Zds (x:UInt8) (l:List UInt8):(spB (cQ x) l=none∧Lib.indexByte l x=-1)∨(∃ k:Nat,∃ h:k<l.length,Lib.indexByte l x=k∧spB (cQ x) l=some (l.take k,l[k],l.drop (k+1))):=by
 induction l with
 | nil=>exact .inl ⟨rfl,rfl⟩
 | cons c l ih =>
  unfold Lib.indexByte
  simp only[spB]
  have e:(c == x)=cQ x c:=rfl
  rw[e]
  cases hc:cQ x c with
  | true =>
   right
   exact⟨0,by simp,by simp,by simp⟩
  | false =>
   rw[if_neg (by decide),if_neg (by decide)]
   rcases ih with ⟨h1,h2⟩ | ⟨k,hk,h1,h2⟩
   ·left
    rw[h1,h2]
    exact⟨rfl,rfl⟩
   ·right
    refine⟨k+1,by simpa using hk,?_,?_⟩
    ·rw[h1,if_neg (by simp)]
     omega
    ·rw[h2]
     rfl
theorem ZuM (x:UInt8) (l:List UInt8):(cA x l).length≤l.length∧(cB x l).length≤l.length:=by
 unfold cA cB
 rcases Zds x l with ⟨h1,_⟩ | ⟨k,hk,_,h2⟩
 ·rw[h1];exact⟨Nat.le_refl _,Nat.zero_le _⟩
 ·rw[h2];dsimp only;exact⟨by rw[List.length_take];omega,by rw[List.length_drop];omega⟩
theorem ZuB {n:Int} (h0:-9223372036854775808≤n) (h1:n≤9223372036854775807):IntKind.i64.wrap n=n:=by
 simp[IntKind.wrap,IntKind.bits,IntKind.signed]
 split<;>omega
theorem Zyc (x:UInt8) (l:List UInt8) (w:World) (hl:l.length≤1099511627776) :
  Calls Tryz.prog 120 #[.string ⟨l.toArray⟩,.string ⟨#[x]⟩] w fun e w'=>e=.returned (.tuple #[.string ⟨(cA x l).toArray⟩,.string ⟨(cB x l).toArray⟩,.bool (cS x l)])∧∃ n,w'=w.drewN n:=by
 rcases Zds x l with ⟨h1,h2⟩ | ⟨k,hk,h1,h2⟩
 ·have HA:Hid (cA x l=l∧cB x l=[]∧cS x l=false):=(by unfold cA cB cS;rw[h1];exact⟨rfl,rfl,rfl⟩)
  have HI:Hid (Lib.indexByte l x=-1):=h2
  clear h1 h2
  go_enter Tryz.func120,Tryz.ntmps120
  go_wp2_with fail
  refine (Tryz.stringslite_Index_one ⟨l.toArray⟩ x w).mono ?_
  rintro e w1 ⟨rfl,rfl⟩
  have e1:Lib.indexByte (⟨l.toArray⟩:ByteArray).data.toList x=-1:=HI.out
  rw[e1]
  clear e1
  go_wp2
  go_ret3
  obtain⟨a1,a2,a3⟩:=HA.out
  rw[a1,a2,a3]
  exact⟨rfl,0,rfl⟩
 ·have HA:Hid (cA x l=l.take k∧cB x l=l.drop (k+1)∧cS x l=true):=(by unfold cA cB cS;rw[h2];exact⟨rfl,rfl,rfl⟩)
  have HI:Hid (Lib.indexByte l x=(k:Int)):=h1
  clear h1 h2
  go_enter Tryz.func120,Tryz.ntmps120
  go_wp2_with fail
  refine (Tryz.stringslite_Index_one ⟨l.toArray⟩ x w).mono ?_
  rintro e w1 ⟨rfl,rfl⟩
  have e1:Lib.indexByte (⟨l.toArray⟩:ByteArray).data.toList x=(k:Int):=HI.out
  rw[e1]
  clear e1
  have i1:(0:Int)≤(k:Int):=by omega
  have i2:(k:Int)≤(l.length:Int):=by omega
  have i3:(k:Int)+1≤(l.length:Int):=by omega
  have i4:(0:Int)≤(k:Int)+1:=by omega
  have i5:IntKind.i64.wrap ((k:Int)+1)=(k:Int)+1:=ZuB (by omega) (by omega)
  have i6:((k:Int)+1).toNat=k+1:=by omega
  go_wp2_with fail
  go_quiet (fail)
  go_wp2
  go_ret3
  obtain⟨a1,a2,a3⟩:=HA.out
  rw[a1,a2,a3]
  have k5:(l.drop (k+1)).take (l.length-(k+1))=l.drop (k+1):=List.take_of_length_le (by simp)
  exact⟨by simp[k5],_,rfl⟩
theorem ZfM (x:UInt8) (l:List UInt8) (w:World) (hl:l.length≤1099511627776) :
  Calls Tryz.prog 89 #[.string ⟨l.toArray⟩,.string ⟨#[x]⟩] w fun e w'=>e=.returned (.tuple #[.string ⟨(cA x l).toArray⟩,.string ⟨(cB x l).toArray⟩,.bool (cS x l)])∧∃ n,w'=w.drewN n:=by
 go_enter Tryz.func89,Tryz.ntmps89
 go_wp2_with fail
 refine (Zyc x l w hl).mono ?_
 rintro e w1 ⟨rfl,n,rfl⟩
 go_wp2
 go_ret3
 exact⟨rfl,n,rfl⟩
structure Nb (w:World) (g h:Nat) (rest:List UInt8) (rt:Bool) (u:World):Prop where
 rb:u.heap[g]?=some (.cells #[.string ⟨rest.toArray⟩] 9)
 bb:u.heap[h]?=some (.cells #[.bool rt] 4)
 low:Below w.heap.size w u
 lg:w.heap.size≤g
 lh:w.heap.size≤h
theorem Nb.keep {w u u':World} {g h:Nat} {rest:List UInt8} {rt:Bool} (q:Nb w g h rest rt u) (hb:Below u.heap.size u u'):Nb w g h rest rt u' :=
 ⟨(hb.block g (Array.getElem?_eq_some_iff.1 q.rb).1).trans q.rb,(hb.block h (Array.getElem?_eq_some_iff.1 q.bb).1).trans q.bb,q.low.trans (hb.mono q.low.size),q.lg,q.lh⟩
theorem Nb.ne {w u:World} {g h:Nat} {rest:List UInt8} {rt:Bool} (q:Nb w g h rest rt u):g≠h:=by
 intro e
 have h1:=q.rb
 rw[e,q.bb] at h1
 simp at h1
theorem Nb.cells {w u:World} {g h:Nat} {rest:List UInt8} {rt:Bool} (q:Nb w g h rest rt u):u.cell? ⟨g,0,none⟩=some (.string ⟨rest.toArray⟩)∧u.cell? ⟨h,0,none⟩=some (.bool rt):=by
 refine⟨?_,?_⟩
 ·rw[Lib.cell_of_heap q.rb];rfl
 ·rw[Lib.cell_of_heap q.bb];rfl
theorem Nb.frozen {w u:World} {g h:Nat} {rest:List UInt8} {rt:Bool} (q:Nb w g h rest rt u):u.frozen? ⟨g,0,none⟩=false∧u.frozen? ⟨h,0,none⟩=false:=⟨Lib.frozen_of_heap q.rb 0,Lib.frozen_of_heap q.bb 0⟩
theorem Nb.setB {w u:World} {g h:Nat} {rest:List UInt8} {rt:Bool} (q:Nb w g h rest rt u) (z:Bool):Nb w g h rest z (u.setCell ⟨h,0,none⟩ (.bool z)):=by
 refine⟨(heap_setCell_other _ _ _ _ q.ne).trans q.rb,heap_setCell_same u h 0 _ _ _ q.bb,q.low.setCell q.lh _,q.lg,q.lh⟩
theorem Nb.setR {w u:World} {g h:Nat} {rest:List UInt8} {rt:Bool} (q:Nb w g h rest rt u) (z:List UInt8):Nb w g h z rt (u.setCell ⟨g,0,none⟩ (.string ⟨z.toArray⟩)):=by
 refine⟨heap_setCell_same u g 0 _ _ _ q.rb,(heap_setCell_other _ _ _ _ q.ne.symm).trans q.bb,q.low.setCell q.lg _,q.lg,q.lh⟩
theorem ZqH (w:World) (g h:Nat) (rest:List UInt8) (rt:Bool) (x:UInt8) (u:World) (q:Nb w g h rest rt u) (hl:rest.length≤1099511627776) (V E:Int) (HV:Hid (Pn.parseV (cA x rest)=V)) (HE:Hid (Pn.parseE (cA x rest)=E)) (R:Bool) (HR:Hid ((rt && cS x rest && decide (E=0))=R)) :
  Calls Tryz.prog 88 #[.string ⟨#[x]⟩,.pointer (some ⟨g,0,none⟩),.pointer (some ⟨h,0,none⟩)] u fun e w'=>e=.returned (.int .i64 V)∧Nb w g h (cB x rest) R w':=by
 have hle:=(ZuM x rest).1
 have hC:=ZfM x rest u hl
 have hP:=fun u:World=>ZpU (cA x rest) u (by unfold maxLen;omega)
 rw[HV.out,HE.out] at hP
 obtain⟨a1,ha1⟩:∃ z,cA x rest=z:=⟨_,rfl⟩
 obtain⟨b1,hb1⟩:∃ z,cB x rest=z:=⟨_,rfl⟩
 obtain⟨s1,hs1⟩:∃ z,cS x rest=z:=⟨_,rfl⟩
 rw[ha1] at hC hP
 rw[hb1] at hC ⊢
 rw[hs1] at hC HR
 clear ha1 hb1 hs1 HV HE hle
 obtain⟨c0,_⟩:=q.cells
 go_enter Tryz.func88,Tryz.ntmps88
 go_wp2_with fail
 refine hC.mono ?_
 rintro e w1 ⟨rfl,n,rfl⟩
 have q1:Nb w g h rest rt (u.drewN n):=q.keep (Below.dN (Below.refl _ u) n)
 generalize u.drewN n=w1 at q1 ⊢
 clear q c0 hC
 go_wp2_with fail
 refine (hP w1).mono ?_
 rintro e w2 ⟨rfl,hb2⟩
 have q2:=q1.keep hb2
 clear q1 hb2
 obtain⟨_,c2⟩:=q2.cells
 obtain⟨_,f2⟩:=q2.frozen
 have q3:=q2.setB R
 obtain⟨c3,_⟩:=q3.cells
 obtain⟨f3,_⟩:=q3.frozen
 have q4:=q3.setR b1
 have HQ:Hid (Nb w g h b1 R ((w2.setCell ⟨h,0,none⟩ (.bool R)).setCell ⟨g,0,none⟩ (.string ⟨b1.toArray⟩))):=q4
 clear q2 q3 q4
 cases rt with
 | false =>
  have hR:R=false:=(by rw[← HR.out];rfl)
  subst hR
  clear HR
  go_wp2
  go_ret
  exact⟨rfl,HQ.out⟩
 | true =>
  cases s1 with
  | false =>
   have hR:R=false:=(by rw[← HR.out];rfl)
   subst hR
   clear HR
   go_wp2
   go_ret
   exact⟨rfl,HQ.out⟩
  | true =>
   by_cases hE:E=0
   ·have hR:R=true:=(by rw[← HR.out];simp[hE])
    have e1:(E == 0)=true:=by rw[hE];rfl
    subst hR
    clear HR hE
    go_wp2
    go_ret
    exact⟨rfl,HQ.out⟩
   ·have hR:R=false:=(by rw[← HR.out];simp[hE])
    have e1:(E == 0)=false:=beq_eq_false_iff_ne.2 hE
    subst hR
    clear HR hE
    go_wp2
    go_ret
    exact⟨rfl,HQ.out⟩
end

section
open Go.RowKit
attribute [local go_sem] ByteArray.extract_mk Zqp
theorem Zyx {q:UInt8→Bool} {z:UInt8} (hz:q z=false) (s:List UInt8):spB q (s++[z])=match spB q s with | none=>none | some (a,d,b)=>some (a,d,b++[z]):=by
 induction s with
 | nil=>simp[spB,hz]
 | cons c s ih =>
  simp only[List.cons_append,spB]
  cases hc:q c with
  | true=>simp
  | false =>
   rw[if_neg (by decide),if_neg (by decide),ih]
   cases spB q s with
   | none=>rfl
   | some x=>rfl
theorem Zyv {q:UInt8→Bool}:∀ {s a b:List UInt8} {d:UInt8},spB q s=some (a,d,b)→∀ e∈b,e∈s
 | [],a,b,d,h=>by cases h
 | c::s,a,b,d,h=>by
  simp only[spB] at h
  split at h
  ·cases h
   intro e he
   exact List.mem_cons_of_mem _ he
  ·split at h
   ·cases h
   ·rename_i a' d' b' h'
    cases h
    intro e he
    exact List.mem_cons_of_mem _ (Zyv h' e he)
def rk1 (t:List UInt8):List UInt8:=cA 32 t
def rk2 (t:List UInt8):List UInt8:=cA 10 (cB 32 t)
def rkR (t:List UInt8):Bool:=(true && cS 32 t && decide (Pn.parseE (rk1 t)=0)) && cS 10 (cB 32 t) && decide (Pn.parseE (rk2 t)=0)
def rcmK (c:UInt8) (t:List UInt8):Option (Bool × Nat × Nat):=if rkR t=true∧Pn.parseV (rk2 t)≠0 then if c=97 then some (true,(Pn.parseV (rk1 t)).toNat,(Pn.parseV (rk2 t)).toNat) else if c=100∧0<Pn.parseV (rk1 t) then some (false,(Pn.parseV (rk1 t)-1).toNat,(Pn.parseV (rk2 t)).toNat) else none else none
theorem Zim {c:UInt8} {t:List UInt8} (h:t≠[]):fdB (c::t)=fdB t:=by
 cases t with
 | nil=>exact absurd rfl h
 | cons d t=>simp[fdB]
theorem ZuK {c:UInt8} {t:List UInt8} (hl:∀ d∈(c::t).dropLast,d≠10):rcmF (c::t)=rcmK c t:=by
 have eW:isW=cQ 32:=rfl
 by_cases h0:t=[]
 ·subst h0
  have e:rcmK c []=none:=by
   unfold rcmK
   rw[if_neg (fun q=>by have:=q.1;simp[rkR,cS,spB] at this)]
  rw[e]
  unfold rcmF
  split<;>rfl
 ·rw[List.dropLast_cons_of_ne_nil h0] at hl
  unfold rcmF
  rw[Zim h0]
  cases hf:fdB t with
  | true =>
   rw[if_pos rfl,List.dropLast_cons_of_ne_nil h0]
   have ht:=Zin hf
   obtain⟨s,hs⟩:∃ s,t.dropLast=s:=⟨_,rfl⟩
   rw[hs] at ht hl ⊢
   have hs10:∀ d∈s,d≠10:=fun d hd=>hl d (List.mem_cons_of_mem _ hd)
   have hsp:spB (cQ 32) t=match spB (cQ 32) s with | none=>none | some (a,d,b)=>some (a,d,b++[10]):=by
    rw[ht]
    exact Zyx (by decide) s
   unfold rcmP
   dsimp only
   rw[eW]
   cases hq:spB (cQ 32) s with
   | none =>
    rw[hq] at hsp
    unfold rcmK
    rw[if_neg (fun q=>by have:=q.1;simp[rkR,cS,hsp] at this)]
   | some x =>
    obtain⟨a,d,b⟩:=x
    rw[hq] at hsp
    dsimp only at hsp ⊢
    have hb10:∀ e∈b,cQ 10 e=false:=fun e he=>by
     unfold cQ
     rw[beq_eq_false_iff_ne]
     exact hs10 e (Zyv hq e he)
    have h10:spB (cQ 10) (b++[10])=some (b,10,[]):=Zyu hb10 (by decide)
    have e1:rk1 t=a:=by unfold rk1 cA;rw[hsp]
    have e2:cB 32 t=b++[10]:=by unfold cB;rw[hsp]
    have e3:rk2 t=b:=by unfold rk2 cA;rw[e2,h10]
    have e4:rkR t=(decide (Pn.parseE a=0) && decide (Pn.parseE b=0)):=by
     unfold rkR
     rw[e1,e3,e2]
     unfold cS
     rw[hsp,h10]
     simp
    have b2:=@Zto b
    unfold rcmK
    rw[e4,e1,e3]
    by_cases hg:Pn.parseE a=0∧Pn.parseE b=0∧0<Pn.parseV b
    ·have hg2:(decide (Pn.parseE a=0) && decide (Pn.parseE b=0))=true∧Pn.parseV b≠0:=⟨by simp[hg.1,hg.2.1],by omega⟩
     rw[if_pos hg,if_pos hg2]
    ·rw[if_neg hg,if_neg (fun q=>hg (by
      have q1:=q.1
      simp only[Bool.and_eq_true,decide_eq_true_eq] at q1
      exact⟨q1.1,q1.2,by omega⟩))]
  | false =>
   rw[if_neg (by decide)]
   have ht10:∀ d∈t,d≠10:=by
    intro d hd e
    subst e
    rcases List.eq_nil_or_concat t with rfl | ⟨s,y,rfl⟩
    ·exact h0 rfl
    ·rw[List.concat_eq_append] at hd hf hl
     rw[List.dropLast_concat] at hl
     rcases List.mem_append.1 hd with hd | hd
     ·exact hl 10 (List.mem_cons_of_mem _ hd) rfl
     ·have:y=10:=(List.mem_singleton.1 hd).symm
      subst this
      rw[Ziq] at hf
      cases hf
   have hb:cS 10 (cB 32 t)=false:=by
    have hn:spB (cQ 10) (cB 32 t)=none:=Zyw (fun e he=>by
     unfold cQ
     rw[beq_eq_false_iff_ne]
     unfold cB at he
     cases hq:spB (cQ 32) t with
     | none=>rw[hq] at he;cases he
     | some x =>
      obtain⟨a,d,b⟩:=x
      rw[hq] at he
      exact ht10 e (Zyv hq e he))
    unfold cS
    rw[hn]
   unfold rcmK
   rw[if_neg (fun q=>by have:=q.1;simp[rkR,hb] at this)]
def RcmQ (w:World) (r:Option (Bool × Nat × Nat)) (e:Ending) (w':World):Prop:=Below w.heap.size w w'∧match r with
 | none=>e=.returned (.tuple #[.agg #[.int .i64 0,.int .i64 0,.int .i64 0],.bool false])
 | some (true,ah,n)=>e=.returned (.tuple #[.agg #[.int .i64 (ah:Int),.int .i64 0,.int .i64 (n:Int)],.bool true])
 | some (false,ah,n)=>e=.returned (.tuple #[.agg #[.int .i64 (ah:Int),.int .i64 (n:Int),.int .i64 0],.bool true])
theorem Zuz (c:UInt8) (t:List UInt8) (u:World):(Instr.slice 9 (.string ⟨(c::t).toArray⟩) (some (.int .i64 1)) none none).run Tryz.prog u=.ok (.string ⟨t.toArray⟩) u:=by
 rw[run_slice_string_l (P:=Tryz.prog) u 9 ⟨(c::t).toArray⟩ Tryz.underlying9 .i64 1 (by decide) (by show (1:Int)≤((t.length+1:Nat):Int);omega)]
 have hs:(⟨(c::t).toArray⟩:ByteArray).size=t.length+1:=rfl
 rw[hs,ByteArray.extract_mk]
 simp
theorem Zuw (c:UInt8) (t:List UInt8) (u:World):(Instr.slice 9 (.string ⟨(c::t).toArray⟩) none (some (.int .i64 1)) none).run Tryz.prog u=.ok (.string ⟨#[c]⟩) u:=by
 rw[run_slice_string_h (P:=Tryz.prog) u 9 ⟨(c::t).toArray⟩ Tryz.underlying9 .i64 1 (by decide) (by show (1:Int)≤((t.length+1:Nat):Int);omega)]
 rw[ByteArray.extract_mk]
 simp
def Rcb (u:World) (B:Nat) (v0 v1 v2:Value):Prop:=u.heap[B]?=some (.cells #[v0,v1,v2] 126 (0,0))
section
variable {u u':World} {B:Nat} {v0 v1 v2:Value}
theorem Rcb.lt (h:Rcb u B v0 v1 v2):B<u.heap.size:=(Array.getElem?_eq_some_iff.1 h).1
theorem Rcb.low (h:Rcb u B v0 v1 v2) {N:Nat} (hg:Below N u u') (hN:B<N):Rcb u' B v0 v1 v2:=(hg.block B hN).trans h
theorem Rcb.cells (h:Rcb u B v0 v1 v2):u.cell? ⟨B,0,none⟩=some v0∧u.cell? ⟨B,1,none⟩=some v1∧u.cell? ⟨B,2,none⟩=some v2:=by
 unfold Rcb at h
 exact⟨by rw[Lib.cell_of_heap h];rfl,by rw[Lib.cell_of_heap h];rfl,by rw[Lib.cell_of_heap h];rfl⟩
theorem Rcb.frozen (h:Rcb u B v0 v1 v2) (j:Nat):u.frozen? ⟨B,j,none⟩=false:=by
 unfold Rcb at h
 simp[World.frozen?,h]
theorem Rcb.put (h:Rcb u B v0 v1 v2) (z0 z1 z2:Value):Rcb (((u.setCell ⟨B,0,none⟩ z0).setCell ⟨B,1,none⟩ z1).setCell ⟨B,2,none⟩ z2) B z0 z1 z2:=by
 have s1:=heap_setCell_same u B 0 _ _ z0 h
 have s2:=heap_setCell_same _ B 1 _ _ z1 s1
 exact heap_setCell_same _ B 2 _ _ z2 s2
end
theorem ZuD {w u:World} (h:Below w.heap.size w u) (z0 z1 z2:Value):Below w.heap.size w (((u.setCell ⟨w.heap.size,0,none⟩ z0).setCell ⟨w.heap.size,1,none⟩ z1).setCell ⟨w.heap.size,2,none⟩ z2) :=
 ((h.setCell (Nat.le_refl _) _).setCell (Nat.le_refl _) _).setCell (Nat.le_refl _) _
theorem ZuL {P:Program} {fn:Func} {p q:Tmp} {ty:TypeId} (h:fn.results=#[.cell p ty,.tmp q]) (tmps:Array Value) (w:World) (g:Nat) (t:TypeId) (cs:Array Value) (fr:Nat × Nat) (d:TypeDesc)
  (hp:tmps.getD p undef=.pointer (some ⟨g,0,none⟩)) (hg:w.heap[g]?=some (.cells cs t fr))
  (hu:P.underlying ty=some d) (hd:(match d with | .struct _ | .array _ _=>true | _=>false)=true) (hi:(P.info? ty).map (·.size)=some cs.size) :
  (results fn tmps).run P w=.ok (.tuple #[.agg cs,tmps.getD q undef]) w:=by
 have hp':tmps[p]?.getD undef=.pointer (some ⟨g,0,none⟩):=by simpa using hp
 simp[results,h,hp',asAddr,run_loadVar_row w g t ty cs fr d hg hu hd hi]
theorem ZpX (w:World) (t:List UInt8):Nb w w.heap.size (w.heap.size+1) t true ((w.alloc (.cells #[.string ⟨t.toArray⟩] 9)).alloc (.cells #[.bool true] 4)).drew:=by
 have b1:Below w.heap.size w (w.alloc (.cells #[.string ⟨t.toArray⟩] 9)):=(Below.refl _ w).alloc (Nat.le_refl _) _
 have h1:=heap_alloc_new w (.cells #[.string ⟨t.toArray⟩] 9)
 have b2:Below (w.alloc (.cells #[.string ⟨t.toArray⟩] 9)).heap.size (w.alloc (.cells #[.string ⟨t.toArray⟩] 9)) ((w.alloc (.cells #[.string ⟨t.toArray⟩] 9)).alloc (.cells #[.bool true] 4)):=(Below.refl _ _).alloc (Nat.le_refl _) _
 have h2:=heap_alloc_new (w.alloc (.cells #[.string ⟨t.toArray⟩] 9)) (.cells #[.bool true] 4)
 rw[World.size_alloc] at h2
 exact⟨(b2.block _ (by rw[World.size_alloc];omega)).trans h1,h2,(b1.trans (b2.mono b1.size)).drew,Nat.le_refl _,by omega⟩
theorem ZpY (w:World) (t:List UInt8):Nb w (w.heap.size+1) w.heap.size t true ((w.alloc (.cells #[.bool true] 4)).alloc (.cells #[.string ⟨t.toArray⟩] 9)).drew:=by
 have b1:Below w.heap.size w (w.alloc (.cells #[.bool true] 4)):=(Below.refl _ w).alloc (Nat.le_refl _) _
 have h1:=heap_alloc_new w (.cells #[.bool true] 4)
 have b2:Below (w.alloc (.cells #[.bool true] 4)).heap.size (w.alloc (.cells #[.bool true] 4)) ((w.alloc (.cells #[.bool true] 4)).alloc (.cells #[.string ⟨t.toArray⟩] 9)):=(Below.refl _ _).alloc (Nat.le_refl _) _
 have h2:=heap_alloc_new (w.alloc (.cells #[.bool true] 4)) (.cells #[.string ⟨t.toArray⟩] 9)
 rw[World.size_alloc] at h2
 exact⟨h2,(b2.block _ (by rw[World.size_alloc];omega)).trans h1,(b1.trans (b2.mono b1.size)).drew,by omega,Nat.le_refl _⟩
theorem Zua (c:UInt8) (t:List UInt8) (w:World) (hl:t.length≤1099511627776) (r:Option (Bool × Nat × Nat)) (HR:Hid (rcmK c t=r)) :
  Calls Tryz.prog 60 #[.string ⟨(c::t).toArray⟩] w fun e w'=>RcmQ w r e w':=by
 have hs1:=Zuw c t
 have hs2:=Zuz c t
 obtain⟨L,hL⟩:∃ L,(c::t).toArray=L:=⟨_,rfl⟩
 rw[hL] at hs1 hs2 ⊢
 clear hL
 have b1:=@Zto (rk1 t)
 have b2:=@Zto (rk2 t)
 obtain⟨V1,hV1⟩:∃ V,Pn.parseV (rk1 t)=V:=⟨_,rfl⟩
 obtain⟨V2,hV2⟩:∃ V,Pn.parseV (rk2 t)=V:=⟨_,rfl⟩
 obtain⟨E1,hE1⟩:∃ V,Pn.parseE (rk1 t)=V:=⟨_,rfl⟩
 obtain⟨E2,hE2⟩:∃ V,Pn.parseE (rk2 t)=V:=⟨_,rfl⟩
 obtain⟨R1,hR1⟩:∃ R,(true && cS 32 t && decide (E1=0))=R:=⟨_,rfl⟩
 obtain⟨R2,hR2⟩:∃ R,(R1 && cS 10 (cB 32 t) && decide (E2=0))=R:=⟨_,rfl⟩
 have HK:Hid ((if R2=true∧V2≠0 then if c=97 then some (true,V1.toNat,V2.toNat) else if c=100∧0<V1 then some (false,(V1-1).toNat,V2.toNat) else none else none)=r):=(by
  show _=_
  rw[← HR.out]
  unfold rcmK rkR
  rw[hV1,hV2,hE1,hE2,hR1,hR2])
 have HV1:Hid (Pn.parseV (cA 32 t)=V1):=hV1
 have HV2:Hid (Pn.parseV (cA 10 (cB 32 t))=V2):=hV2
 have HE1:Hid (Pn.parseE (cA 32 t)=E1):=hE1
 have HE2:Hid (Pn.parseE (cA 10 (cB 32 t))=E2):=hE2
 have HR1:Hid ((true && cS 32 t && decide (E1=0))=R1):=hR1
 have HR2:Hid ((R1 && cS 10 (cB 32 t) && decide (E2=0))=R2):=hR2
 have hle:=(ZuM 32 t).2
 rw[hV1] at b1
 rw[hV2] at b2
 clear hV1 hV2 hE1 hE2 hR1 hR2 HR
 have hb0:Below w.heap.size w (w.alloc (.cells #[.int .i64 0,.int .i64 0,.int .i64 0] 126)):=(Below.refl _ w).alloc (Nat.le_refl _) _
 have hc0:Rcb (w.alloc (.cells #[.int .i64 0,.int .i64 0,.int .i64 0] 126)) w.heap.size (.int .i64 0) (.int .i64 0) (.int .i64 0):=_root_.Go.heap_alloc_new w _
 have hsz:(w.alloc (.cells #[.int .i64 0,.int .i64 0,.int .i64 0] 126)).heap.size=w.heap.size+1:=World.size_alloc _ _
 go_enter Tryz.func60,Tryz.ntmps60
 go_upto_region 1 with fail
 generalize w.alloc (.cells #[.int .i64 0,.int .i64 0,.int .i64 0] 126)=W at hb0 hc0 hsz ⊢
 go_cut [4,5,6] (fun x p q wz=>x=.string ⟨#[c]⟩∧∃ g h,p=.pointer (some ⟨g,0,none⟩)∧q=.pointer (some ⟨h,0,none⟩)∧Nb W g h t true wz)
 case first =>
  go_region
  ·go_wp2
   go_meet
   exact⟨rfl,_,_,rfl,rfl,by rw[← hsz];exact ZpX W t⟩
  ·go_wp2
   go_meet
   exact⟨rfl,_,_,rfl,rfl,by rw[← hsz];exact ZpY W t⟩
 case rest =>
  obtain⟨rfl,g,h,rfl,rfl,hq⟩:=hcut
  have hl1:(cB 32 t).length≤1099511627776:=by omega
  go_wp2_with fail
  refine (ZqH W g h t true 32 wc hq hl V1 E1 HV1 HE1 R1 HR1).mono ?_
  rintro e w1 ⟨rfl,hq1⟩
  obtain⟨t1,ht1⟩:∃ z,cB 32 t=z:=⟨_,rfl⟩
  rw[ht1] at hq1 hl1 HV2 HE2 HR2
  clear ht1 hq HV1 HE1 HR1 hle
  go_wp2_with fail
  refine (ZqH W g h t1 R1 10 w1 hq1 hl1 V2 E2 HV2 HE2 R2 HR2).mono ?_
  rintro e w2 ⟨rfl,hq2⟩
  have hc2:Rcb w2 w.heap.size (.int .i64 0) (.int .i64 0) (.int .i64 0):=hc0.low hq2.low (by omega)
  have hlow:=hb0.trans (hq2.low.mono hb0.size)
  obtain⟨_,d⟩:=hq2.cells
  obtain⟨c0,c1,c2⟩:=hc2.cells
  have f0:=hc2.frozen 0
  have f1:=hc2.frozen 1
  have f2:=hc2.frozen 2
  clear hq1 hq2 HV2 HE2 HR2 hc0 hb0
  have hk:=HK.out
  clear HK
  cases R2 with
  | false =>
   rw[if_neg (fun q=>by cases q.1)] at hk
   subst hk
   have hP:=hc2.put (.int .i64 0) (.int .i64 0) (.int .i64 0)
   go_wp2
   refine bodyPost_ret (ZuL rfl _ _ w.heap.size 126 #[(.int .i64 0),(.int .i64 0),(.int .i64 0)] (0,0) _ rfl hP Tryz.underlying126 rfl (by kernel_rfl)) rfl ?_
   exact⟨ZuD hlow _ _ _,rfl⟩
  | true =>
   by_cases h2:V2=0
   ·rw[if_neg (fun q=>q.2 h2)] at hk
    subst hk
    have e2:(V2 == 0)=true:=by rw[h2];rfl
    have hP:=hc2.put (.int .i64 0) (.int .i64 0) (.int .i64 0)
    go_wp2
    refine bodyPost_ret (ZuL rfl _ _ w.heap.size 126 #[(.int .i64 0),(.int .i64 0),(.int .i64 0)] (0,0) _ rfl hP Tryz.underlying126 rfl (by kernel_rfl)) rfl ?_
    exact⟨ZuD hlow _ _ _,rfl⟩
   ·rw[if_pos ⟨rfl,h2⟩] at hk
    have e2:(V2 == 0)=false:=beq_eq_false_iff_ne.2 h2
    obtain⟨m,rfl⟩:=Int.eq_ofNat_of_zero_le (by omega:0≤V2)
    rw[Int.toNat_natCast] at hk
    by_cases h97:c=97
    ·rw[if_pos h97] at hk
     obtain⟨n,rfl⟩:=Int.eq_ofNat_of_zero_le (by omega:0≤V1)
     rw[Int.toNat_natCast] at hk
     subst hk
     subst h97
     have hP:=hc2.put (.int .i64 (n:Int)) (.int .i64 0) (.int .i64 (m:Int))
     go_wp2
     refine bodyPost_ret (ZuL rfl _ _ w.heap.size 126 #[(.int .i64 (n:Int)),(.int .i64 0),(.int .i64 (m:Int))] (0,0) _ rfl hP Tryz.underlying126 rfl (by kernel_rfl)) rfl ?_
     exact⟨ZuD hlow _ _ _,rfl⟩
    ·rw[if_neg h97] at hk
     have e3:(c == 97)=false:=beq_eq_false_iff_ne.2 h97
     have e4:([c] == [97])=false:=beq_eq_false_iff_ne.2 (by simpa using h97)
     by_cases h100:c=100
     ·subst h100
      by_cases h1:0<V1
      ·rw[if_pos ⟨rfl,h1⟩] at hk
       obtain⟨n,hn⟩:=Int.eq_ofNat_of_zero_le (by omega:0≤V1-1)
       have hw:IntKind.i64.wrap (V1-1)=(n:Int):=by rw[← hn];exact ZuB (by omega) (by omega)
       rw[hn,Int.toNat_natCast] at hk
       subst hk
       have hn2:V1=(n:Int)+1:=by omega
       subst hn2
       clear hn
       rw[Int.add_sub_cancel] at hw
       have hP:=hc2.put (.int .i64 (n:Int)) (.int .i64 (m:Int)) (.int .i64 0)
       go_wp2
       refine bodyPost_ret (ZuL rfl _ _ w.heap.size 126 #[(.int .i64 (n:Int)),(.int .i64 (m:Int)),(.int .i64 0)] (0,0) _ rfl hP Tryz.underlying126 rfl (by kernel_rfl)) rfl ?_
       exact⟨ZuD hlow _ _ _,rfl⟩
      ·rw[if_neg (fun q=>h1 q.2)] at hk
       subst hk
       have hP:=hc2.put (.int .i64 0) (.int .i64 0) (.int .i64 0)
       go_wp2
       refine bodyPost_ret (ZuL rfl _ _ w.heap.size 126 #[(.int .i64 0),(.int .i64 0),(.int .i64 0)] (0,0) _ rfl hP Tryz.underlying126 rfl (by kernel_rfl)) rfl ?_
       exact⟨ZuD hlow _ _ _,rfl⟩
     ·rw[if_neg (fun q=>h100 q.1)] at hk
      subst hk
      have e5:(c == 100)=false:=beq_eq_false_iff_ne.2 h100
      have e6:([c] == [100])=false:=beq_eq_false_iff_ne.2 (by simpa using h100)
      have hP:=hc2.put (.int .i64 0) (.int .i64 0) (.int .i64 0)
      go_wp2
      refine bodyPost_ret (ZuL rfl _ _ w.heap.size 126 #[(.int .i64 0),(.int .i64 0),(.int .i64 0)] (0,0) _ rfl hP Tryz.underlying126 rfl (by kernel_rfl)) rfl ?_
      exact⟨ZuD hlow _ _ _,rfl⟩
end

section
open Go.RowKit
theorem Zxn {w w':World} {T:TypeId} {v vx v':Value} {op:Oper} (x y:Operand) (ho:op.op=.call { callee:=.builtin .append,args:=#[x,y],argTypes:=#[T,T] }) {ev:Operand→Value} (hx:ev x=v) (hy:ev y=vx) (hr:(Builtin.append_ #[T,T] op.type #[v,vx]).run Tryz.prog w=.ok v' w') :
  (execOp ev op).run Tryz.prog w=.ok (.value v') w':=by
 simp[execOp,ho,resolve,invoke,builtin,hx,hy,hr,Result.andThen]
theorem Zxp {u:World} {a:Addr} {o:Option Addr} {n c:Nat} (h:u.cell? a=some (.slice o n c)) {op:Oper} (x:Operand) (ho:op.op=.load 23 x) {ev:Operand→Value} (hx:ev x=.pointer (some a)) :
  (execOp ev op).run Tryz.prog u=.ok (.value (.slice o n c)) u:=by
 simp only[execOp,ho,hx]
 go_simp
theorem Zxu {u:World} {a:Addr} {s:ByteArray} (h:u.cell? a=some (.string s)) {op:Oper} (x:Operand) (ho:op.op=.load 9 x) {ev:Operand→Value} (hx:ev x=.pointer (some a)) :
  (execOp ev op).run Tryz.prog u=.ok (.value (.string s)) u:=by
 simp only[execOp,ho,hx]
 go_simp
theorem Zxo {u:World} {b off n c i:Nat} (hi:i<n) {op:Oper} (x y:Operand) (ho:op.op=.indexAddr 23 x y) {ev:Operand→Value} (hx:ev x=.slice (some ⟨b,off,none⟩) n c) (hy:ev y=.int .i64 (i:Int)) :
  (execOp ev op).run Tryz.prog u=.ok (.value (.pointer (some ⟨b,off+i,none⟩))) u:=by
 have i1:0≤(i:Int):=by omega
 have i2:(i:Int)<(n:Int):=by omega
 simp only[execOp,ho,hx,hy]
 go_simp
theorem Zxt {u:World} {b j:Nat} {v:Value} (hf:u.frozen? ⟨b,j,none⟩=false) {o n c} (hc:u.cell? ⟨b,j,none⟩=some (.slice o n c)) {o' n' c'} (hv:v=.slice o' n' c') {op:Oper} (x y:Operand) (ho:op.op=.store 23 x y) {ev:Operand→Value} (hx:ev x=.pointer (some ⟨b,j,none⟩)) (hy:ev y=v) :
  (execOp ev op).run Tryz.prog u=.ok .skip (u.setCell ⟨b,j,none⟩ v):=by
 subst hv
 simp only[execOp,ho,hx,hy]
 go_simp
theorem Zxq {u:World} {ao ao':Option Addr} {n cap n' c':Nat} {p q:Int} (hr:∀ u:World,(Instr.slice 23 (.slice ao n cap) (some (.int .i64 p)) (some (.int .i64 q)) none).run Tryz.prog u=.ok (.slice ao' n' c') u) {op:Oper} (x y z:Operand) (ho:op.op=.slice 23 x (some y) (some z) none) {ev:Operand→Value} (hx:ev x=.slice ao n cap) (hy:ev y=.int .i64 p) (hz:ev z=.int .i64 q) :
  (execOp ev op).run Tryz.prog u=.ok (.value (.slice ao' n' c')) u:=by
 have h2:=run_sliceAt_slice (P:=Tryz.prog) (w:=u) 23 (.slice ao n cap) (some (.int .i64 p)) (some (.int .i64 q)) none (by kernel_rfl)
 simp only[execOp,ho,hx,hy,hz,Option.map_some,Option.map_none,Sem.run_bind,h2,hr,Result.andThen_ok,Sem.run_pure]
theorem Zxr {u:World} {ao ao':Option Addr} {n cap n' c':Nat} {p:Int} (hr:∀ u:World,(Instr.slice 23 (.slice ao n cap) (some (.int .i64 p)) none none).run Tryz.prog u=.ok (.slice ao' n' c') u) {op:Oper} (x y:Operand) (ho:op.op=.slice 23 x (some y) none none) {ev:Operand→Value} (hx:ev x=.slice ao n cap) (hy:ev y=.int .i64 p) :
  (execOp ev op).run Tryz.prog u=.ok (.value (.slice ao' n' c')) u:=by
 have h2:=run_sliceAt_slice (P:=Tryz.prog) (w:=u) 23 (.slice ao n cap) (some (.int .i64 p)) none none (by kernel_rfl)
 simp only[execOp,ho,hx,hy,Option.map_some,Option.map_none,Sem.run_bind,h2,hr,Result.andThen_ok,Sem.run_pure]
theorem Zuq {P:Program} {S:World→Prop} {md:Region.Mode} {ops:Array Oper} {Q:Exit→Act→World→Prop} {fuel:Nat} {listed:Array Bool} {A:Act} {w:World}
  (i d:Nat) (op:Oper) (j e:Nat) (oq:Oper) (hi:ops[i]?=some op) (hd:op.dst=some d) (hj:ops[j]?=some oq) (he:oq.dst=some e) (hr:Region.ready md ops listed=[i,j]) (hwt:Region.wanted op (yielded ops A.tmps)=true) (hwq:Region.wanted oq (yielded ops A.tmps)=true)
  (F:Nat) (x:Operand) (xs:Array Operand) (ts:Array TypeId) (ho:op.op=.call { callee:=.value x,args:=xs,argTypes:=ts })
  (cap:Array Value) (hxv:A.eval x=.func (.func F) #[] cap) (args:Array Value) (hx:xs.map A.eval=args) (hen:∀ args w,(callFunc F args).run P w=.ok (.enter F args) w) (R:Value→World→Prop)
  (hc:Calls P F (args++cap) w fun e w'=>∃ v,e=.returned v∧S w'∧R v w')
  (vq:Value) (wq:World) (hq:(execOp A.eval oq).run P w=.ok (.value vq) wq) (hS:S wq)
  (h:∀ v w',S w'→R v w'→wpAnyH P md ops Q S fuel (listed.setIfInBounds i true) (A.put (some d) v) w')
  (h2:wpAnyH P md ops Q S fuel (listed.setIfInBounds j true) (A.put (some e) vq) wq) :
  wpAnyH P md ops Q S (fuel+1) listed A w:=by
 refine wpAnyH_ready hr (by simp) (AllReadyH.cons hi (fun K hK=>?_) (AllReadyH.cons hj (fun K hK=>?_) AllReadyH.nil))
 ·refine Zzc hwt ?_
  unfold Oper.wp
  have e:(execOp A.eval op).run P w=.ok (.enter F (args++cap)) w:=by
   have h1:=hen (args++cap) w
   simp only[execOp,ho,resolve,invoke]
   simp only[hxv,Deferred.ofValue,Sem.run_bind,Sem.run_pure,Result.andThen_ok,hx,Array.empty_append]
   exact h1
  rw[e,Oper.upon_enter]
  refine hc.mono ?_
  rintro e w' ⟨v,rfl,hb,hR⟩
  exact hK.out _ _ hb (fun hu=>by rw[hd];exact h v w' hu hR)
 ·refine Zzc hwq ?_
  unfold Oper.wp
  rw[hq,Oper.upon_value]
  exact hK.out _ _ hS (fun _=>by rw[he];exact h2)
theorem Zun (w:World) (ty:TypeId) (base:Nat) (v:Value) (xs:List (List UInt8)) (hown:w.ownsRow base 9 1 v xs.length (scells xs)) (vx:Value) (ys:List (List UInt8)) (hh:HS w vx ys) (hk:xs.length+ys.length≤4398046511104) (hbase:base≤w.heap.size) :
  ∃ v' w',(Builtin.append_ #[23,23] ty #[v,vx]).run Tryz.prog w=.ok v' w'∧w'.ownsRow base 9 1 v' (xs++ys).length (scells (xs++ys))∧w.grownBy w' v.ownBlock∧(v'.ownBlock=v.ownBlock∨v'.ownBlock=some w.heap.size):=by
 have hinfo:(Tryz.prog.info? 9).map (fun i=>(i.zero,i.size,i.bytes))=some (some (.string ⟨#[]⟩),1,16):=by kernel_rfl
 obtain⟨i0,hi0,hz0,hzs,hz2⟩:=info_parts hinfo
 have hT:Tryz.prog.underlying 23=some (.slice 9):=Tryz.underlying23
 rw[List.length_append,scells_append]
 rcases hh with ⟨rfl,h0,h1⟩ | ⟨ad,c,rfl,_,hc⟩
 ·have e:ys=[]:=List.eq_nil_of_length_eq_zero h0
  subst e
  exact⟨v,w,run_append_owned_none (P:=Tryz.prog) (w:=w) base 23 ty 9 i0 1 hT hi0 v xs.length (scells xs) hown,by simpa [scells] using hown,World.grownBy.refl _ _,.inl rfl⟩
 ·obtain⟨v',w',hr,h2,h3,_,h5⟩:=run_append_own_at (P:=Tryz.prog) w base 23 ty 9 i0 (.string ⟨#[]⟩) 1 16 hT hi0 hz0 hzs hz2 rfl (by decide) v xs.length (scells xs) hown ad ys.length c (scells ys) (by rw[scells_length,Nat.mul_one]) hc (scells_one ys) (by unfold maxLen;omega) (by omega) hbase
  exact⟨v',w',hr,h2,h3,h5⟩
theorem Zuv {w:World} {B:Nat} {e:TypeId} {s n:Nat} {v:Value} {xs:List Value} (h:w.ownsRow B e s v n xs):∃ ao c,v=.slice ao n c:=by
 rcases h.2 with ⟨rfl,rfl⟩ | ⟨g,cap,cur,q1,_⟩
 ·exact⟨_,_,rfl⟩
 ·exact⟨_,_,q1⟩
theorem Zuy {u u':World} {e:TypeId} {s B:Nat} {v:Value} {n:Nat} {xs:List Value} (ho:u.ownsRow B e s v n xs) {g:Nat} (hg:u.grownBy u' (some g)) (hB:g<B):u'.ownsRow B e s v n xs:=by
 refine ho.kept hg ?_
 cases hb:v.ownBlock with
 | none=>exact .inl rfl
 | some j =>
  have:=owns_ge ho hb
  exact .inr (fun q=>by cases q;omega)
theorem ZuA (ao:Option Addr) (n cap k:Nat) (hk:k≤n) (hn:n≤cap) (u:World):(Instr.slice 23 (.slice ao n cap) none (some (.int .i64 (k:Int))) none).run Tryz.prog u=.ok (.slice ao k cap) u:=by
 rw[run_slice_h (P:=Tryz.prog) u 23 ao n cap (by kernel_rfl) .i64 k (by omega) (by omega)]
 have:(sizeOf (Tryz.prog.elem 23)).run Tryz.prog u=.ok 1 u:=by kernel_rfl
 rw[this]
 have hz:∀ ad:Addr,ad.add 0=ad:=fun ad=>by unfold Addr.add;split<;>simp_all
 cases ao with
 | none=>simp[Result.andThen,sliced]
 | some ad=>simp[Result.andThen,sliced,hz]
theorem Zur {w:World} {ao:Option Addr} {c:Nat} {L:List (List UInt8)} (h:HS w (.slice ao L.length c) L):L.length≤c:=by
 rcases h with ⟨h,h0,_⟩ | ⟨ad,c',h,h3,_⟩
 ·omega
 ·cases h;exact h3
theorem Zlv {w:World} {ao:Option Addr} {c k:Nat} {L:List (List UInt8)} (h:HS w (.slice ao L.length c) L) (hk:k≤L.length):HS w (.slice ao k c) (L.take k):=by
 have hnc:=Zur h
 have el:(L.take k).length=k:=by rw[List.length_take];omega
 unfold HS
 rw[el]
 rcases h with ⟨h,h0,h4⟩ | ⟨ad,c',h,h3,hc⟩
 ·simp only[Value.slice.injEq] at h
  obtain⟨rfl,_,rfl⟩:=h
  have e:L=[]:=List.eq_nil_of_length_eq_zero h0
  subst e
  have:k=0:=by simpa using hk
  subst this
  exact .inl ⟨rfl,rfl,by simp[scells]⟩
 ·cases h
  refine .inr ⟨ad,c,rfl,by omega,fun j v hj=>hc j v ?_⟩
  rw[scells,List.map_take] at hj
  rw[scells]
  by_cases hjk:j<k
  ·rw[List.getElem?_take_of_lt hjk] at hj
   exact hj
  ·rw[List.getElem?_eq_none (by simp;omega)] at hj
   cases hj
def Rbx (w:World) (g:Nat) (vs:Value) (p:Nat) (vo:Value) (dn:Nat) (fl:Bool) (vm:Value):Prop:=w.heap[g]?=some (.cells #[vs,.int .i64 (p:Int),vo,.int .i64 (dn:Int),.bool fl,vm] 87 (0,0))
section
variable {w u:World} {g:Nat} {vs vo vm:Value} {p dn:Nat} {fl:Bool}
theorem Rbx.lt (h:Rbx w g vs p vo dn fl vm):g<w.heap.size:=(Array.getElem?_eq_some_iff.1 h).1
theorem Rbx.cells (h:Rbx w g vs p vo dn fl vm):w.cell? ⟨g,0,none⟩=some vs∧w.cell? ⟨g,1,none⟩=some (.int .i64 (p:Int))∧w.cell? ⟨g,2,none⟩=some vo∧w.cell? ⟨g,3,none⟩=some (.int .i64 (dn:Int))∧w.cell? ⟨g,4,none⟩=some (.bool fl)∧w.cell? ⟨g,5,none⟩=some vm:=by
 unfold Rbx at h
 refine⟨?_,?_,?_,?_,?_,?_⟩<;>rw[Lib.cell_of_heap h]<;>rfl
theorem Rbx.frozen (h:Rbx w g vs p vo dn fl vm) (j:Nat):w.frozen? ⟨g,j,none⟩=false:=by
 unfold Rbx at h
 simp[World.frozen?,h]
theorem Rbx.low (h:Rbx w g vs p vo dn fl vm) {N:Nat} (hb:Below N w u) (hN:g<N):Rbx u g vs p vo dn fl vm:=(hb.block g hN).trans h
theorem Rbx.grow (h:Rbx w g vs p vo dn fl vm) {r:Option Nat} (hb:w.grownBy u r) (hr:r≠some g):Rbx u g vs p vo dn fl vm:=(hb.block g h.lt (fun e=>hr e.symm)).trans h
end
structure Rrn (W:World) (g:Nat) (vs vo vm:Value) (S a out:List (List UInt8)) (p dn:Nat) (fl:Bool) (w:World):Prop where
 low:Below W.heap.size W w
 gW:W.heap.size≤g
 box:Rbx w g vs p vo dn fl vm
 scr:HS W vs S
 old:HS W vo a
 own:w.ownsRow (g+1) 9 1 vm out.length (scells out)
 hp:p≤S.length
 hd:dn≤a.length
 ob:out.length≤dn+p
section
variable {W w u:World} {g:Nat} {vs vo vm vm':Value} {S a out out':List (List UInt8)} {p dn:Nat} {fl:Bool}
theorem Rrn.keep (h:Rrn W g vs vo vm S a out p dn fl w) (hb:Below w.heap.size w u):Rrn W g vs vo vm S a out p dn fl u :=
 ⟨h.low.trans (hb.mono h.low.size),h.gW,h.box.low hb h.box.lt,h.scr,h.old,Zrx h.own hb,h.hp,h.hd,h.ob⟩
theorem Rrn.dN (h:Rrn W g vs vo vm S a out p dn fl w) (n:Nat):Rrn W g vs vo vm S a out p dn fl (w.drewN n):=h.keep (Below.dN (Below.refl _ w) n)
theorem Rrn.setL (h:Rrn W g vs vo vm S a out p dn fl w) (j:Nat) (v:Value):Below W.heap.size W (w.setCell ⟨g,j,none⟩ v)∧(w.setCell ⟨g,j,none⟩ v).ownsRow (g+1) 9 1 vm out.length (scells out) :=
 ⟨h.low.setCell h.gW v,Zuy h.own (ZjW w g j v) (Nat.lt_succ_self _)⟩
theorem Rrn.setP (h:Rrn W g vs vo vm S a out p dn fl w) (p':Nat) (hp:p'≤S.length) (hpp:p≤p') (z:Int) (hz:z=(p':Int)):Rrn W g vs vo vm S a out p' dn fl (w.setCell ⟨g,1,none⟩ (.int .i64 z)):=by
 subst hz
 exact⟨(h.setL 1 _).1,h.gW,heap_setCell_same w g 1 _ _ _ h.box,h.scr,h.old,(h.setL 1 _).2,hp,h.hd,by have:=h.ob;omega⟩
theorem Rrn.grow (h:Rrn W g vs vo vm S a out p dn fl w) (hg:w.grownBy u vm.ownBlock):Rbx u g vs p vo dn fl vm∧Below W.heap.size W u:=by
 refine⟨h.box.grow hg (fun e=>by have:=owns_ge h.own e;omega),?_⟩
 exact h.low.grown hg h.low.size (fun j hj=>by have:=owns_ge h.own hj;have:=h.gW;omega)
end
end

section
open Go.RowKit
theorem ZfN (S:List (List UInt8)) (p:Nat) (hp:p≤S.length):cut S (p:Int) ((S.length:Int)-(p:Int))=S.drop p:=by
 unfold cut
 rw[Int.toNat_natCast,List.take_of_length_le (by rw[List.length_drop];omega)]
theorem Zwy (W:World) (g:Nat) (vs vo vm:Value) (S a out:List (List UInt8)) (p dn:Nat) (fl:Bool) (w:World) (hR:Rrn W g vs vo vm S a out p dn fl w) (_hS:S.length≤1099511627776) (k:Nat) (hk:S.length<p+k) :
  Calls Tryz.prog 61 #[.pointer (some ⟨g,0,none⟩),.int .i64 (k:Int)] w fun e w'=>e=.returned (.tuple #[.slice none 0 0,.int .i64 1])∧Rrn W g vs vo vm S a out S.length dn fl w':=by
 obtain⟨so,sc,rfl⟩:=Holds.form hR.scr
 obtain⟨v1,c1,hsl,hH⟩:=ZwN S so sc (p:Int) (by omega) (by have:=hR.hp;omega) W hR.scr
 rw[ZfN S p hR.hp] at hsl hH
 have HD:Hid ((S.drop p).length=S.length-p):=List.length_drop
 obtain⟨D,hD⟩:∃ D,S.drop p=D:=⟨_,rfl⟩
 rw[hD] at hsl hH HD
 clear hD hH
 obtain⟨e0,e1,_,_,_,_⟩:=hR.box.cells
 have hpl:=hR.hp
 have hlt:(D.length:Int)<(k:Int):=(by have:=HD.out;omega)
 go_enter Tryz.func61,Tryz.ntmps61
 go_wp2_with fail
 go_quiet (fail)
 have hR1:=hR.dN nq
 generalize w.drewN nq=w1 at hR1 ⊢
 obtain⟨d0,d1,_,_,_,_⟩:=hR1.box.cells
 have f1:=hR1.box.frozen 1
 have hR2:=hR1.setP S.length (Nat.le_refl _) hR.hp _ rfl
 have HR2:Hid (Rrn W g (.slice so S.length sc) vo vm S a out S.length dn fl (w1.setCell ⟨g,1,none⟩ (.int .i64 (S.length:Int)))):=hR2
 clear hR hR1 hR2 e0 e1
 go_wp2
 go_ret2
 exact⟨rfl,HR2.out⟩
theorem Zwz (W:World) (g:Nat) (vs vo vm:Value) (S a out:List (List UInt8)) (p dn:Nat) (fl:Bool) (w:World) (hR:Rrn W g vs vo vm S a out p dn fl w) (hS:S.length≤1099511627776) (k:Nat) (hk:p+k≤S.length) :
  Calls Tryz.prog 61 #[.pointer (some ⟨g,0,none⟩),.int .i64 (k:Int)] w fun e w'=>∃ vo1 vc1,e=.returned (.tuple #[.slice vo1 k vc1,.int .i64 0])∧HS W (.slice vo1 k vc1) ((S.drop p).take k)∧Rrn W g vs vo vm S a out (p+k) dn fl w'∧w.grownBy w' (some g):=by
 obtain⟨so,sc,rfl⟩:=Holds.form hR.scr
 obtain⟨v1,c1,hsl,hH⟩:=ZwN S so sc (p:Int) (by omega) (by have:=hR.hp;omega) W hR.scr
 rw[ZfN S p hR.hp] at hsl hH
 have HD:Hid ((S.drop p).length=S.length-p):=List.length_drop
 obtain⟨D,hD⟩:∃ D,S.drop p=D:=⟨_,rfl⟩
 rw[hD] at hsl hH HD ⊢
 clear hD
 have hHD:=hH W hR.scr
 clear hH
 have hkD:k≤D.length:=(by have:=HD.out;omega)
 have ht:=ZuA v1 D.length c1 k hkD (Zur hHD)
 have HT:Hid (HS W (.slice v1 k c1) (D.take k)):=Zlv hHD hkD
 clear hHD
 obtain⟨e0,e1,_,_,_,_⟩:=hR.box.cells
 have hpl:=hR.hp
 have hlt:¬ (D.length:Int)<(k:Int):=(by omega)
 go_enter Tryz.func61,Tryz.ntmps61
 go_wp2_with fail
 go_quiet (fail)
 have hR1:=hR.dN nq
 have hg1:w.grownBy (w.drewN nq) (some g):=ZjU (World.grownBy.refl w (some g)) nq
 generalize w.drewN nq=w1 at hR1 hg1 ⊢
 have HG2:Hid (w.grownBy (w1.setCell ⟨g,1,none⟩ (.int .i64 ((p:Int)+(k:Int)))) (some g)):=ZjY hg1 (ZjW w1 g 1 _)
 obtain⟨d0,d1,_,_,_,_⟩:=hR1.box.cells
 have f1:=hR1.box.frozen 1
 have hR2:=hR1.setP (p+k) hk (by omega) ((p:Int)+(k:Int)) (by omega)
 have HR2:Hid (Rrn W g (.slice so S.length sc) vo vm S a out (p+k) dn fl (w1.setCell ⟨g,1,none⟩ (.int .i64 ((p:Int)+(k:Int))))):=hR2
 have hwr:IntKind.i64.wrap ((p:Int)+(k:Int))=(p:Int)+(k:Int):=ZuB (by omega) (by omega)
 clear hR hR1 hR2 e0 e1
 go_wp2
 go_ret2
 exact⟨v1,c1,rfl,HT.out,HR2.out,HG2.out⟩
end

end Go.Proofs.YtkiaenncemfkcaaGreatDoor
