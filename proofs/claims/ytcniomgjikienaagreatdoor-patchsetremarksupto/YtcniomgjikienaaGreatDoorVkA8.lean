/-
  Texts that belong together, joined: CpC, CpD, CpE, CwA, CwB, CwE, CwF, CpF, CpG, CpH.
-/
import Derived.Test.YtcniomgjikienaaGreatDoorVkA7
import Derived.Lib.FrozenHead2
import Derived.Test.YtcniomgjikienaaGreatDoorProg
import Derived.Shelf.Strings.Builder1
import Derived.WalkKit
import Derived.WalkSpells
import Derived.WalkLawsBesides
import Derived.BigQuiet
import Derived.Laws.StructEq

set_option maxHeartbeats 16000000
set_option maxRecDepth 100000
namespace Go.Proofs.YtcniomgjikienaaGreatDoor

section
open Go.RowKit
attribute [local go_sem] ByteArray.extract_mk Zhc
def NcQ (w:World) (s:List UInt8) (e:Ending) (w':World):Prop:=∃ x n r,e=.returned (.tuple #[.int .i64 x,.int .i64 n,.bool r])∧nmC s=(if r=true then some (x,n) else none)∧Below w.heap.size w w'
theorem ZbQ (s:List UInt8) (w:World) (hl:s.length≤1099511627776) :
  Calls Tryz.prog 303 #[.string ⟨s.toArray⟩] w fun e w'=>NcQ w s e w':=by
 have hkl:=Zfa s
 have b1:=@ZiG (kA s)
 have b2:=@ZiG (kB s)
 obtain⟨V1,hV1⟩:∃ V,Pn.parseV (kA s)=V:=⟨_,rfl⟩
 obtain⟨E1,hE1⟩:∃ V,Pn.parseE (kA s)=V:=⟨_,rfl⟩
 obtain⟨V2,hV2⟩:∃ V,Pn.parseV (kB s)=V:=⟨_,rfl⟩
 obtain⟨E2,hE2⟩:∃ V,Pn.parseE (kB s)=V:=⟨_,rfl⟩
 have P1:∀ u:World,Calls Tryz.prog 337 #[.string ⟨(kA s).toArray⟩] u fun e w'=>e=.returned (.tuple #[.int .i64 V1,.int .i64 E1])∧Below u.heap.size u w':=(by
  intro u
  have h:=ZgD (kA s) u (by unfold maxLen;omega)
  rw[hV1,hE1] at h
  exact h)
 have P2:∀ u:World,Calls Tryz.prog 337 #[.string ⟨(kB s).toArray⟩] u fun e w'=>e=.returned (.tuple #[.int .i64 V2,.int .i64 E2])∧Below u.heap.size u w':=(by
  intro u
  have h:=ZgD (kB s) u (by unfold maxLen;omega)
  rw[hV2,hE2] at h
  exact h)
 rw[hV1] at b1
 rw[hV2] at b2
 have HM:Hid (nmC s=if E1=0 then if kS s=true then if E2=0∧0<V1∧V1<V2 then some (V1,V2) else none else some (V1,V1) else none):=(by
  show _=_
  unfold nmC
  rw[hV1,hE1,hV2,hE2])
 have C1:=ZgA s w hl
 obtain⟨ks,hks⟩:∃ k,kS s=k:=⟨_,rfl⟩
 rw[hks] at C1 HM
 clear hV1 hE1 hV2 hE2 hks
 by_cases he1:E1=0
 ·have f1:(E1 != 0)=false:=by simp[he1]
  have f2:(E1 == 0)=true:=by simp[he1]
  cases ks with
  | false =>
   have HN:Hid (nmC s=some (V1,V1)):=(by have h:=HM.out;rw[if_pos he1,if_neg (by decide)] at h;exact h)
   clear HM he1 P2
   go_enter Tryz.func303,Tryz.ntmps303
   go_wp2_with fail
   refine C1.mono ?_
   rintro e w1 ⟨rfl,n,rfl⟩
   go_wp2_with fail
   refine (P1 _).mono ?_
   rintro e w2 ⟨rfl,hb2⟩
   go_wp2
   go_ret3
   exact⟨_,_,_,rfl,HN.out,(Below.dN (Below.refl _ w) n).trans hb2⟩
  | true =>
   have HN:Hid (nmC s=if E2=0∧0<V1∧V1<V2 then some (V1,V2) else none):=(by have h:=HM.out;rw[if_pos he1,if_pos rfl] at h;exact h)
   clear HM he1
   go_enter Tryz.func303,Tryz.ntmps303
   go_wp2_with fail
   refine C1.mono ?_
   rintro e w1 ⟨rfl,n,rfl⟩
   go_wp2_with fail
   refine (P1 _).mono ?_
   rintro e w2 ⟨rfl,hb2⟩
   go_wp2_with fail
   refine (P2 _).mono ?_
   rintro e w3 ⟨rfl,hb3⟩
   have hb23:=(Below.dN (Below.refl _ w) n).trans (hb2.trans (hb3.mono hb2.size))
   by_cases h1:E2=0
   ·have g1:(E2 == 0)=true:=by simp[h1]
    by_cases h2:0<V1
    ·have HN2:Hid (nmC s=if decide (V1<V2)=true then some (V1,V2) else none):=(by
      show _=_
      rw[HN.out]
      simp[h1,h2])
     clear HN h1
     go_wp2
     go_ret3
     exact⟨_,_,_,rfl,HN2.out,hb23⟩
    ·have HN2:Hid (nmC s=none):=(by have h:=HN.out;rw[if_neg (by simp[h2])] at h;exact h)
     clear HN h1
     go_wp2
     go_ret3
     exact⟨_,_,_,rfl,HN2.out,hb23⟩
   ·have g1:(E2 == 0)=false:=by simp[h1]
    have HN2:Hid (nmC s=none):=(by have h:=HN.out;rw[if_neg (by simp[h1])] at h;exact h)
    clear HN h1
    go_wp2
    go_ret3
    exact⟨_,_,_,rfl,HN2.out,hb23⟩
 ·have f1:(E1 != 0)=true:=by simp[he1]
  have f2:(E1 == 0)=false:=by simp[he1]
  have HN:Hid (nmC s=none):=(by have h:=HM.out;rw[if_neg he1] at h;exact h)
  clear HM he1 P2
  go_enter Tryz.func303,Tryz.ntmps303
  go_wp2_with fail
  refine C1.mono ?_
  rintro e w1 ⟨rfl,n,rfl⟩
  go_wp2_with fail
  refine (P1 _).mono ?_
  rintro e w2 ⟨rfl,hb2⟩
  go_wp2
  go_ret3
  exact⟨_,_,_,rfl,HN.out,(Below.dN (Below.refl _ w) n).trans hb2⟩
theorem Zka (sg a b:UInt8) (t:List UInt8):isSd sg (a::b::t)=(decide (b.toNat=32) && (decide (a.toNat=32) || decide (a.toNat=33) || decide (a.toNat=sg.toNat))):=by
 simp only[isSd]
 rw[Bool.eq_iff_iff]
 simp only[Bool.and_eq_true,Bool.or_eq_true,beq_iff_eq,decide_eq_true_eq,← UInt8.toNat_inj]
 constructor
 ·rintro⟨(h | h) | h,h2⟩<;>exact⟨h2,by simp[h]⟩
 ·rintro⟨h2,(h | h) | h⟩<;>exact⟨by simp[h],h2⟩
theorem ZbA (l:List UInt8) (sg:UInt8) (w:World) (hl:l.length≤1099511627776) (r:Bool) (HR:Hid (isSd sg l=r)) :
  Calls Tryz.prog 304 #[.string ⟨l.toArray⟩,.int .u8 (sg.toNat:Int)] w fun e w'=>e=.returned (.bool r)∧w'=w:=by
 match l,hl,HR with
 | [],_,HR =>
  have HE:Hid (false=r):=HR
  go_enter Tryz.func304,Tryz.ntmps304
  go_wp2
  go_ret
  exact⟨by rw[← HE.out];rfl,rfl⟩
 | [a],_,HR =>
  have HE:Hid (false=r):=HR
  go_enter Tryz.func304,Tryz.ntmps304
  go_wp2
  go_ret
  exact⟨by rw[← HE.out];rfl,rfl⟩
 | a::b::t,hl,HR =>
  have HR2:=HR.out
  rw[Zka] at HR2
  have ha:=a.toNat_lt
  have hb:=b.toNat_lt
  have hs:=sg.toNat_lt
  simp only[List.length_cons] at hl
  have i1:¬ (t.length:Int)+1+1<2:=by omega
  have i2:(1:Int)<(t.length:Int)+1+1:=by omega
  have i3:(0:Int)<(t.length:Int)+1+1:=by omega
  by_cases h1:b.toNat=32
  ·have e1:((b.toNat:Int) != 32)=false:=by simp;omega
   rw[decide_eq_true h1,Bool.true_and] at HR2
   by_cases h2:a.toNat=32
   ·have e2:((a.toNat:Int) == 32)=true:=by simp;omega
    have HE:Hid (true=r):=(by show _=_;rw[← HR2,decide_eq_true h2];rfl)
    clear HR HR2 h1 h2
    go_enter Tryz.func304,Tryz.ntmps304
    go_wp2
    go_ret
    exact⟨by rw[← HE.out];rfl,rfl⟩
   ·have e2:((a.toNat:Int) == 32)=false:=by simp;omega
    rw[decide_eq_false h2,Bool.false_or] at HR2
    by_cases h3:a.toNat=33
    ·have e3:((a.toNat:Int) == 33)=true:=by simp;omega
     have HE:Hid (true=r):=(by show _=_;rw[← HR2,decide_eq_true h3];rfl)
     clear HR HR2 h1 h2 h3
     go_enter Tryz.func304,Tryz.ntmps304
     go_wp2
     go_ret
     exact⟨by rw[← HE.out];rfl,rfl⟩
    ·have e3:((a.toNat:Int) == 33)=false:=by simp;omega
     rw[decide_eq_false h3,Bool.false_or] at HR2
     have HE:Hid (((a.toNat:Int) == (sg.toNat:Int))=r):=(by
      show _=_
      rw[← HR2,Bool.eq_iff_iff,beq_iff_eq,decide_eq_true_eq]
      omega)
     clear HR HR2 h1 h2 h3
     go_enter Tryz.func304,Tryz.ntmps304
     go_wp2
     go_ret
     exact⟨by rw[← HE.out];rfl,rfl⟩
  ·have e1:((b.toNat:Int) != 32)=true:=by simp;omega
   have HE:Hid (false=r):=(by show _=_;rw[← HR2,decide_eq_false h1];rfl)
   clear HR HR2 h1
   go_enter Tryz.func304,Tryz.ntmps304
   go_wp2
   go_ret
   exact⟨by rw[← HE.out];rfl,rfl⟩
theorem Zin {L:List (List UInt8)} {p:Nat} (h:p<L.length):pkS (L.drop p)=starsT.isPrefixOf L[p]:=by
 rw[List.drop_eq_getElem_cons h]
 rfl
theorem Zba {R:Nat} {L:List (List UInt8)} {lo:Option Addr} {lc:Nat} {p:Nat} (w:World) (q:Ck w R (.slice lo L.length lc) p) (hL:HS w (.slice lo L.length lc) L) (hp:p≤L.length) (hLl:L.length≤2199023255552) (r:Bool) (HR:Hid (pkS (L.drop p)=r)) :
  Calls Tryz.prog 213 #[.pointer (some ⟨R,0,none⟩)] w fun x w'=>x=.returned (.bool r)∧∃ n,w'=w.drewN n:=by
 obtain⟨c0,c1⟩:=q.cells
 by_cases hlt:p<L.length
 ·obtain⟨bk,off,rfl,hbk,hcl⟩:=HS.at hL (by omega)
  have d4:=hcl p hlt
  have HR2:=HR.out
  rw[Zin hlt] at HR2
  generalize L[p]=s at d4 HR2
  have hd:decide ((p:Int)<(L.length:Int))=true:=decide_eq_true (by omega)
  have i1:(0:Int)≤(p:Int):=by omega
  have i2:(p:Int)<(L.length:Int):=by omega
  have i3:(p:Int).toNat=p:=by omega
  have hhp:∀ u,Calls Tryz.prog 139 #[.string ⟨s.toArray⟩,.string ⟨starsT.toArray⟩] u fun e w'=>e=.returned (.bool r)∧w'=u:=(by
   intro u
   refine (Tryz.strings_HasPrefix ⟨s.toArray⟩ ⟨starsT.toArray⟩ u).mono ?_
   rintro e w' ⟨rfl,rfl⟩
   have e1:Lib.hasPrefix (⟨s.toArray⟩:ByteArray).data.toList (⟨starsT.toArray⟩:ByteArray).data.toList=r:=HR2
   rw[e1]
   exact⟨rfl,rfl⟩)
  clear hcl hL q HR HR2
  go_enter Tryz.func213,Tryz.ntmps213
  go_wp2_with fail
  go_quiet ((go_at_call 139;exact Calls.quiet_of_same (hhp _)))
  go_wp2
  go_ret
  exact⟨rfl,_,rfl⟩
 ·have HE:Hid (false=r):=(by have h:=HR.out;rw[List.drop_of_length_le (by omega)] at h;exact h)
  have hd:decide ((p:Int)<(L.length:Int))=false:=decide_eq_false (by omega)
  clear hL q HR
  go_enter Tryz.func213,Tryz.ntmps213
  go_wp2_with fail
  go_quiet (fail)
  go_wp2
  go_ret
  exact⟨by rw[← HE.out];rfl,_,rfl⟩
def starsP (k p:Nat) (ls:List (List UInt8)):Except (Nat × Int) (List (List UInt8)) :=
 match nxt p ls with
 | .error e=>.error e
 | .ok (s,r)=>if isSt s=true then if 4096≤k then .error (p+1,9) else .ok r else .error (p+1,3)
def StX (R:Nat) (vL:Value) (p:Nat) (X:Except (Nat × Int) (List (List UInt8))) (w:World) (x:Ending) (w':World):Prop :=
 match X with
 | .error (a,e)=>Thr (a:Int) e x w'∧w.grownBy w' (some R)
 | .ok _=>x=.returned (.int .i64 ((p:Int)+1))∧Ck w' R vL ((p+1:Nat):Int)∧w.grownBy w' (some R)
theorem ZkB (k p:Nat) (ls:List (List UInt8)):starsP k p ls=match barP starsT p ls with
  | .error e=>.error e
  | .ok (t,r)=>if (t.isEmpty || t.head? == some 32)=true then if 4096≤k then .error (p+1,9) else .ok r else .error (p+1,3):=by
 unfold starsP barP
 cases nxt p ls with
 | error e=>rfl
 | ok z =>
  obtain⟨s,r⟩:=z
  dsimp only
  unfold isSt
  by_cases h:starsT.isPrefixOf s=true
  ·rw[h,Bool.true_and,if_pos rfl]
   rfl
  ·rw[Bool.eq_false_iff.2 h,Bool.false_and,if_neg (by decide),if_neg (by decide)]
theorem Zcf {R:Nat} {L:List (List UInt8)} {lo:Option Addr} {lc:Nat} {p k:Nat} (hk:k≤4096) (w:World) (q:Ck w R (.slice lo L.length lc) p) (hL:HS w (.slice lo L.length lc) L) (hp:p≤L.length) (hLl:L.length≤2199023255552) (hs:∀ s∈L,s.length≤1099511627776)
  (X:Except (Nat × Int) (List (List UInt8))) (HX:Hid (starsP k p (L.drop p)=X)) :
  Calls Tryz.prog 256 #[.pointer (some ⟨R,0,none⟩),.int .i64 (k:Int)] w fun x w'=>StX R (.slice lo L.length lc) p X w x w':=by
 obtain⟨Y,hY⟩:∃ Y,barP starsT p (L.drop p)=Y:=⟨_,rfl⟩
 have hl:=Zbh starsT w q hL hp hLl hs Y hY
 have hX:=HX.out
 rw[ZkB,hY] at hX
 clear HX
 cases Y with
 | error z =>
  obtain⟨a,e⟩:=z
  dsimp only at hX
  subst hX
  go_enter Tryz.func256,Tryz.ntmps256
  go_wp2_with fail
  refine hl.mono ?_
  rintro x w1 ⟨⟨g,rfl,hg⟩,hgr⟩
  go_wp2
  exact⟨rfl,⟨_,rfl,hg⟩,hgr⟩
 | ok z =>
  obtain⟨t,r⟩:=z
  dsimp only at hX
  have hl2:Calls Tryz.prog 254 #[.pointer (some ⟨R,0,none⟩),.string ⟨starsT.toArray⟩] w fun x w'=>x=.returned (.string ⟨t.toArray⟩)∧∃ n,w'=w.drewN n:=hl
  have q2:=fun nn=>q.dN nn
  clear hY hl
  by_cases ht:(t.isEmpty || t.head? == some 32)=true
  ·rw[if_pos ht] at hX
   go_enter Tryz.func256,Tryz.ntmps256
   go_wp2_with fail
   refine hl2.mono ?_
   rintro x w1 ⟨rfl,nn,rfl⟩
   go_upto_region 2 with fail
   go_cut [14] (fun cv wz=>cv=.bool false∧wz=w.drewN nn)
   case first =>
    cases t with
    | nil =>
     go_wp2
     go_meet
     case rel=>exact⟨rfl,rfl⟩
    | cons c t =>
     have hc:c=32:=(by simpa using ht)
     subst hc
     clear ht
     go_wp2
     go_meet
     case rel=>exact⟨rfl,rfl⟩
   case rest =>
   obtain⟨rfl,rfl⟩:=hcut
   have q3:=q2 nn
   have g3:=ZdP (ZfO (Below.refl w.heap.size w) (some R)) nn
   generalize w.drewN nn=W1 at q3 g3 ⊢
   by_cases hk2:4096≤k
   ·rw[if_pos hk2] at hX
    subst hX
    have e1:((k:Int) == 4096)=true:=beq_iff_eq.2 (by omega)
    go_wp2_with fail
    refine (ZbY 9 _ q3 (by omega)).mono ?_
    rintro e w3 ⟨⟨g,rfl,hg⟩,hgr⟩
    go_wp2
    exact⟨rfl,⟨_,rfl,by simpa using hg⟩,ZdT g3 hgr⟩
   ·rw[if_neg hk2] at hX
    subst hX
    have e1:((k:Int) == 4096)=false:=beq_eq_false_iff_ne.2 (by omega)
    obtain⟨c0,c1⟩:=q3.cells
    have f1:=q3.frozen 1
    have q4:Ck (W1.setCell ⟨R,1,none⟩ (.int .i64 ((p:Int)+1))) R (.slice lo L.length lc) (((p+1:Nat)):Int):=(by have:=q3.at ((p:Int)+1);simpa using this)
    have g4:=ZdT g3 (ZdS W1 R 1 (.int .i64 ((p:Int)+1)))
    clear q3 g3
    go_wp2
    go_ret
    exact⟨rfl,q4,g4⟩
  ·rw[if_neg ht] at hX
   subst hX
   cases t with
   | nil=>exact absurd rfl ht
   | cons c t =>
    have hc:c≠32:=(by simpa using ht)
    have hcl:=c.toNat_lt
    have e1:((c.toNat:Int) != 32)=true:=(by
     rw[bne_iff_ne]
     intro e
     apply hc
     rw[← UInt8.toNat_inj]
     show c.toNat=32
     omega)
    have i1:(0:Int)<(t.length:Int)+1:=by omega
    clear ht hc
    go_enter Tryz.func256,Tryz.ntmps256
    go_wp2_with fail
    refine hl2.mono ?_
    rintro x w1 ⟨rfl,nn,rfl⟩
    go_wp2_with fail
    refine (ZbY 3 _ (q2 nn) (by omega)).mono ?_
    rintro e w3 ⟨⟨g,rfl,hg⟩,hgr⟩
    go_wp2
    exact⟨rfl,⟨_,rfl,by simpa using hg⟩,ZdT (ZdP (ZfO (Below.refl w.heap.size w) (some R)) nn) hgr⟩
end

section
open Go.RowKit
structure Mrow (w:World) (g n cap:Nat) (r:List Mk):Prop where
 ex:∃ cur:Array Value,w.heap[g]?=some (.cells cur 47 (0,0))∧cur.size=cap * 2∧cur.toList.take (n * 2)=mkcells r
 le:n≤cap
 len:r.length=n
theorem Zgq (r:List Mk):∀ (i:Nat) (m:Mk),i<r.length→((mkcells r).set (i * 2) (.int .u8 m.sg)).set (i * 2+1) (.string ⟨m.tx.toArray⟩)=mkcells (r.set i m):=by
 induction r with
 | nil=>intro i m h;simp at h
 | cons x r ih =>
  intro i m h
  have e1:mkcells (x::r)=.int .u8 x.sg::.string ⟨x.tx.toArray⟩::mkcells r:=rfl
  cases i with
  | zero=>rw[e1];rfl
  | succ i =>
   have e2:(i+1) * 2=i * 2+1+1:=by omega
   have e3:mkcells ((x::r).set (i+1) m)=.int .u8 x.sg::.string ⟨x.tx.toArray⟩::mkcells (r.set i m):=rfl
   rw[e1,e2,e3]
   simp only[List.set_cons_succ]
   rw[ih i m (by simpa using h)]
section
variable {w u:World} {g n cap:Nat} {r:List Mk}
theorem Mrow.low (h:Mrow w g n cap r) (hb:Below w.heap.size w u):Mrow u g n cap r:=by
 obtain⟨⟨cur,h1,h2,h3⟩,hl,hn⟩:=h
 exact⟨⟨cur,(hb.block g (Array.getElem?_eq_some_iff.1 h1).1).trans h1,h2,h3⟩,hl,hn⟩
theorem Mrow.lt (h:Mrow w g n cap r):g<w.heap.size:=by
 obtain⟨⟨cur,h1,_⟩,_⟩:=h
 exact (Array.getElem?_eq_some_iff.1 h1).1
theorem Mrow.holds (h:Mrow w g n cap r) (k:Nat) (hk:k≤n):HMk w (.slice (some ⟨g,0,none⟩) k cap) (r.take k):=by
 obtain⟨⟨cur,h1,h2,h3⟩,hl,hn⟩:=h
 have hlk:(r.take k).length=k:=by rw[List.length_take];omega
 unfold HMk
 rw[hlk]
 refine .inr ⟨⟨g,0,none⟩,cap,rfl,by omega,fun j v hj=>?_⟩
 rw[← Zgr,← h3,List.take_take] at hj
 have hjl:j<k * 2:=by
  have:=(List.getElem?_eq_some_iff.1 hj).1
  rw[List.length_take] at this
  omega
 rw[List.getElem?_take_of_lt (by omega)] at hj
 rw[Zao,Nat.zero_add,Lib.cell_of_heap h1]
 simpa using hj
theorem Mrow.store (h:Mrow w g n cap r) (i:Nat) (hi:i<n) (m:Mk):Mrow ((w.setCell ⟨g,i * 2,none⟩ (.int .u8 m.sg)).setCell ⟨g,i * 2+1,none⟩ (.string ⟨m.tx.toArray⟩)) g n cap (r.set i m):=by
 obtain⟨⟨cur,h1,h2,h3⟩,hl,hn⟩:=h
 have s1:=heap_setCell_same w g (i * 2) cur _ (.int .u8 m.sg) h1
 have s2:=heap_setCell_same _ g (i * 2+1) _ _ (.string ⟨m.tx.toArray⟩) s1
 refine⟨⟨_,s2,by simpa using h2,?_⟩,hl,by simpa using hn⟩
 have e1:((cur.setIfInBounds (i * 2) (.int .u8 m.sg)).setIfInBounds (i * 2+1) (.string ⟨m.tx.toArray⟩)).toList=(cur.toList.set (i * 2) (.int .u8 m.sg)).set (i * 2+1) (.string ⟨m.tx.toArray⟩):=by simp
 rw[e1,List.take_set,List.take_set,h3,Zgq r i m (by omega)]
theorem Mrow.cells (h:Mrow w g n cap r) (i:Nat) (hi:i<n):∃ x y,w.cell? ⟨g,i * 2,none⟩=some (.int .u8 x)∧w.cell? ⟨g,i * 2+1,none⟩=some (.string y):=by
 have hh:=h.holds n (Nat.le_refl _)
 have hl:=h.len
 obtain⟨b,off,he,hb,hcl⟩:=HMk.at hh (by rw[List.length_take];omega)
 cases he
 have hc:=hcl i (by rw[List.length_take];omega)
 rw[Nat.zero_add] at hc
 exact⟨_,_,hc.1,hc.2⟩
theorem Mrow.frozen (h:Mrow w g n cap r) (j:Nat):w.frozen? ⟨g,j,none⟩=false:=by
 obtain⟨⟨cur,h1,_⟩,_⟩:=h
 exact Lib.frozen_of_heap h1 j
end
theorem Zgu {w:World} {B n:Nat} {v:Value} {l:List Mk} (h:w.ownsRow B 47 2 v n (mkcells l)) (h0:0<n):∃ g cap,v=.slice (some ⟨g,0,none⟩) n cap∧B≤g∧Mrow w g n cap l:=by
 have hl:=h.1
 rw[Zgo] at hl
 rcases h.2 with ⟨_,h1⟩ | ⟨g,cap,cur,rfl,q2,q3,q4,q5,q6,q7⟩
 ·omega
 ·exact⟨g,cap,rfl,q2,⟨cur,q3,q6,q7⟩,q4,by omega⟩
theorem ZjK (w:World) (ty:TypeId) (g o n c:Nat) (cur:List Value) (hg:w.heap[g]?=some (.cells cur.toArray 47 (0,0))) (hfit:o+n * 2≤cur.length) :
  ∃ u,(Builtin.clear_ #[43] ty #[.slice (some ⟨g,o,none⟩) n c]).run Tryz.prog w=.ok (.tuple #[]) u∧w.grownBy u (some g)∧∃ cur':List Value,u.heap[g]?=some (.cells cur'.toArray 47 (0,0))∧cur'.length=cur.length∧cur'.take o=cur.take o:=by
 have hT:=Tryz.underlying43
 cases n with
 | zero=>exact⟨w,by simp[Builtin.clear_,run_underlying hT],World.grownBy.refl _ _,cur,hg,rfl,rfl⟩
 | succ n =>
  obtain⟨zs,hzs⟩:∃ zs:List Value,(Builtin.zeroCells (Value.agg #[.int .u8 0,.string ⟨#[]⟩]).cells (n+1)).toList=zs:=⟨_,rfl⟩
  have hzl:zs.length=(n+1) * 2:=by rw[← hzs];simp[Builtin.zeroCells,Value.cells]
  have hz1:∀ v∈zs,v.oneCell'=true:=by
   intro v hv
   rw[← hzs] at hv
   simp[Builtin.zeroCells,Value.cells] at hv
   obtain⟨k,hk,rfl⟩:=hv
   have:k % 2=0∨k % 2=1:=by omega
   rcases this with h | h<;>simp[h]<;>rfl
  have hst:=run_storeCells_at Tryz.prog g o _ zs 0 cur.toArray w hg (by simp;omega) hz1
  have hzv:(zeroValue 47).run Tryz.prog w=.ok (.agg #[.int .u8 0,.string ⟨#[]⟩]) w:=by
   obtain⟨i0,hi,hz0,_,_⟩:=info_parts infoMk
   simp[zeroValue,typeInfo,hi,hz0]
  refine⟨w.setRow g (spl cur o zs).toArray,?_,Zke _ _ _,_,setRow_heap w g _ _ _ _ hg,Zku (by omega),?_⟩
  ·simp[Builtin.clear_,run_underlying hT,hzv,hzs,hst,spl]
  ·unfold spl
   rw[List.append_assoc,List.take_left' (by simp;omega)]
theorem Zez (p:Mk→Bool) (l:List Mk):∀ k,(idxI p k l=-1∧∀ m∈l,p m=false)∨∃ i,∃ h:i<l.length,idxI p k l=((k+i:Nat):Int)∧p l[i]=true∧∀ m∈l.take i,p m=false:=by
 induction l with
 | nil=>intro k;exact .inl ⟨rfl,fun m hm=>by cases hm⟩
 | cons x l ih =>
  intro k
  by_cases h:p x=true
  ·refine .inr ⟨0,by simp,?_,by simpa using h,by simp⟩
   have e:idxI p k (x::l)=(k:Int):=if_pos h
   rw[e];simp
  ·have e:idxI p k (x::l)=idxI p (k+1) l:=if_neg h
   rcases ih (k+1) with ⟨h1,h2⟩ | ⟨i,hi,h1,h2,h3⟩
   ·refine .inl ⟨e.trans h1,fun m hm=>?_⟩
    rcases List.mem_cons.1 hm with rfl | hm
    ·exact Bool.eq_false_iff.2 h
    ·exact h2 m hm
   ·refine .inr ⟨i+1,by simpa using hi,?_,by simpa using h2,fun m hm=>?_⟩
    ·rw[e,h1];congr 1;omega
    ·rw[List.take_succ_cons] at hm
     rcases List.mem_cons.1 hm with rfl | hm
     ·exact Bool.eq_false_iff.2 h
     ·exact h3 m hm
theorem Zfj {l:List Mk} (h:∀ m∈l,(m.sg != 32)=false):keptM l=l:=by
 unfold keptM
 rw[List.filter_eq_self]
 intro m hm
 have:=h m hm
 simpa using this
theorem Zfl (l:List Mk) (j:Nat) (hj:j<l.length):keptM (l.take (j+1))=keptM (l.take j)++(if l[j].sg=32 then [l[j]] else []):=by
 rw[List.take_succ_eq_append_getElem hj]
 unfold keptM
 rw[List.filter_append]
 congr 1
 by_cases h:l[j].sg=32
 ·rw[if_pos h];simp[h]
 ·rw[if_neg h];simp[h]
theorem ZbC (m:Mk) (w:World):Calls Tryz.prog 308 #[.agg #[.int .u8 m.sg,.string ⟨m.tx.toArray⟩]] w fun e w'=>e=.returned (.bool (m.sg != 32))∧Below w.heap.size w w':=by
 have hBl:Below w.heap.size w (w.alloc (.cells #[.int .u8 m.sg,.string ⟨m.tx.toArray⟩] 47)):=(Below.refl _ w).alloc (Nat.le_refl _) _
 have hc:=Zby m (w.alloc (.cells #[.int .u8 m.sg,.string ⟨m.tx.toArray⟩] 47))
 go_enter Tryz.func308,Tryz.ntmps308
 go_wp2_with fail
 refine hc.mono ?_
 rintro e w1 ⟨rfl,hB⟩
 go_wp2
 go_ret
 exact⟨rfl,hBl.trans (hB.mono hBl.size)⟩
theorem Zbl (l:List Mk) (g n cap:Nat) (w:World) (hr:Mrow w g n cap l) (hn:n≤1099511627776) :
  Calls Tryz.prog 306 #[.slice (some ⟨g,0,none⟩) n cap,.func (.func 308) #[] #[]] w fun e w'=>∃ k,e=.returned (.slice (some ⟨g,0,none⟩) k cap)∧HMk w' (.slice (some ⟨g,0,none⟩) k cap) (keptM l)∧k=(keptM l).length∧w.grownBy w' (some g):=by
 have hln:=hr.len
 have hcap:=hr.le
 have hv:HMk w (.slice (some ⟨g,0,none⟩) n cap) l:=(by
  have h:=hr.holds n (Nat.le_refl _)
  rw[List.take_of_length_le (by omega)] at h
  exact h)
 have hix:=fun z HZ=>ZaR 308 #[] l (fun m=>m.sg != 32) (.slice (some ⟨g,0,none⟩) n cap) w hv (by omega) (enters_of Tryz.func308 (by kernel_rfl) rfl) (fun m _ u _=>ZbC m u) z HZ
 rcases Zez (fun m=>m.sg != 32) l 0 with ⟨h1,h2⟩ | ⟨i0,hi0,h1,h2,h3⟩
 ·have hk:keptM l=l:=Zfj h2
  have hc:=hix (-1) h1
  have HH:Hid (∀ u,Below w.heap.size w u→HMk u (.slice (some ⟨g,0,none⟩) n cap) (keptM l)∧n=(keptM l).length):=(by
   intro u hu
   rw[hk]
   exact⟨hv.keep hu (Nat.le_refl _),hln.symm⟩)
  clear hix h1 h2 hk hv hr
  go_enter Tryz.func306,Tryz.ntmps306
  go_wp2_with fail
  refine hc.mono ?_
  rintro e w1 ⟨rfl,hB⟩
  go_wp2
  go_ret
  exact⟨n,rfl,(HH.out w1 hB).1,(HH.out w1 hB).2,ZfO hB _⟩
 ·have hc:=hix (i0:Int) (by show _=_;rw[h1];simp)
  have HI0:Hid (l.take i0=keptM (l.take (i0+1))∧l.drop (i0+1)=l.drop (i0+1)):=⟨by
   have h4:¬ l[i0].sg=32:=by simpa using h2
   rw[Zfl l i0 hi0,if_neg h4,List.append_nil,Zfj h3],rfl⟩
  have j0:((i0:Int) == -1)=false:=beq_eq_false_iff_ne.2 (by omega)
  clear hix h1 h2 h3 hv
  go_enter Tryz.func306,Tryz.ntmps306
  go_wp2_with fail
  refine hc.mono ?_
  rintro e w1 ⟨rfl,hB⟩
  have hr1:=hr.low hB
  have hg1:=ZfO hB (some g)
  clear hc hr hB
  go_wp2
  go_loopw [5,6] (fun iv jv wr=>∃ (i j:Nat) (r:List Mk),i<j∧j≤n∧iv=.int .i64 i∧jv=.int .i64 j∧Mrow wr g n cap r∧w.grownBy wr (some g)∧Hid (r.take i=keptM (l.take j)∧r.drop j=l.drop j)) (fun _ jv _=>n-(intOf jv).toNat)
  case atStart=>exact⟨i0,i0+1,l,by omega,by omega,rfl,by go_num,hr1,hg1,⟨HI0.out.1,rfl⟩⟩
  case round =>
  clear HI0 hr1 hg1
  obtain⟨i,j,r,hij,hj,rfl,rfl,hr,hg,HI⟩:=hrel
  by_cases hlt:j<n
  ·have hh:=hr.holds n (Nat.le_refl _)
   obtain⟨b,off,he,hb,hcl⟩:=HMk.at hh (by rw[List.length_take];have:=hr.len;omega)
   have he2:b=g∧off=0:=(by cases he;exact⟨rfl,rfl⟩)
   obtain⟨rfl,rfl⟩:=he2
   have hrl:=hr.len
   have hcj:=hcl j (by rw[List.length_take];omega)
   have hrj:(r.take n)[j]'(by rw[List.length_take];omega)=l[j]'(by omega):=(by
    have h:=congrArg (fun x=>x[0]?) HI.out.2
    simp only[List.getElem?_drop,Nat.add_zero] at h
    rw[List.getElem?_eq_getElem (by omega),List.getElem?_eq_getElem (by omega),Option.some.injEq] at h
    rw[List.getElem_take,h])
   rw[hrj] at hcj
   obtain⟨c0,c1⟩:=hcj
   rw[Nat.zero_add] at c0 c1
   have HK:=Zfl l j (by omega)
   obtain⟨m,hm⟩:∃ m,l[j]'(by omega)=m:=⟨_,rfl⟩
   rw[hm] at c0 c1 HK
   have i1:(0:Int)≤(j:Int):=by omega
   have i2:(j:Int)<(n:Int):=by omega
   have i3:(0:Int)≤(i:Int):=by omega
   have i4:(i:Int)<(n:Int):=by omega
   have hBm:Below wr.heap.size wr (wr.alloc (.cells #[.int .u8 m.sg,.string ⟨m.tx.toArray⟩] 47)):=(Below.refl _ wr).alloc (Nat.le_refl _) _
   have hkc:=ZbC m (wr.alloc (.cells #[.int .u8 m.sg,.string ⟨m.tx.toArray⟩] 47))
   have hMb:(wr.alloc (.cells #[.int .u8 m.sg,.string ⟨m.tx.toArray⟩] 47)).heap[wr.heap.size]?=some (.cells #[.int .u8 m.sg,.string ⟨m.tx.toArray⟩] 47):=heap_alloc_new wr _
   have hMl:wr.heap.size<(wr.alloc (.cells #[.int .u8 m.sg,.string ⟨m.tx.toArray⟩] 47)).heap.size:=by simp
   clear hcl hrj hh he hb
   by_cases hs:m.sg=32
   ·have e1:(m.sg != 32)=false:=by simp[hs]
    rw[e1] at hkc
    rw[if_pos hs] at HK
    have HI2:Hid ((r.set i m).take (i+1)=keptM (l.take (j+1))∧(r.set i m).drop (j+1)=l.drop (j+1)):=(by
     constructor
     ·rw[HK,← HI.out.1,List.take_succ_eq_append_getElem (by simp;omega),List.take_set,List.set_eq_of_length_le (by rw[List.length_take];omega)]
      simp
     ·rw[List.drop_set_of_lt (by omega)]
      have h:=congrArg List.tail HI.out.2
      simpa using h)
    clear HI HK hs e1 hm
    go_upto_region 8 with fail
    go_wp2_with fail
    refine hkc.mono ?_
    rintro e w2 ⟨rfl,hB2⟩
    have hm2:=(hB2.block _ hMl).trans hMb
    have m0:w2.cell? ⟨wr.heap.size,0,none⟩=some (.int .u8 m.sg):=(by rw[Lib.cell_of_heap hm2];rfl)
    have m1:w2.cell? ⟨wr.heap.size,1,none⟩=some (.string ⟨m.tx.toArray⟩):=(by rw[Lib.cell_of_heap hm2];rfl)
    have hr2:=(hr.low hBm).low hB2
    have hg2:=ZdT (ZdT hg (ZfO hBm (some b))) (ZfO hB2 (some b))
    obtain⟨x0,y0,t0,t1⟩:=hr2.cells i (by omega)
    have f0:=hr2.frozen (i * 2)
    have f1:=hr2.frozen (i * 2+1)
    have hr3:=hr2.store i (by omega) m
    have hg3:=ZdT (ZdT hg2 (ZdS w2 b (i * 2) (.int .u8 m.sg))) (ZdS _ b (i * 2+1) (.string ⟨m.tx.toArray⟩))
    clear c0 c1 hkc hMb hMl hm2 hr hg hr2 hg2 hB2 hBm
    go_wp2
    exact⟨⟨i+1,j+1,_,by omega,by omega,by go_num,by go_num,hr3,hg3,HI2⟩,by simp[intOf];omega⟩
   ·have e1:(m.sg != 32)=true:=by simp[hs]
    rw[e1] at hkc
    rw[if_neg hs,List.append_nil] at HK
    have HI2:Hid (r.take i=keptM (l.take (j+1))∧r.drop (j+1)=l.drop (j+1)):=⟨HI.out.1.trans HK.symm,by
     have h:=congrArg List.tail HI.out.2
     simpa using h⟩
    have hr2:=hr.low hBm
    have hg2:=ZdT hg (ZfO hBm (some b))
    clear HI HK hs e1 hm hMb hMl hr hg hBm
    go_wp2_with fail
    refine hkc.mono ?_
    rintro e w2 ⟨rfl,hB2⟩
    have hr3:=hr2.low hB2
    have hg3:=ZdT hg2 (ZfO hB2 (some b))
    clear c0 c1 hkc hr2 hg2 hB2
    go_wp2
    exact⟨⟨i,j+1,r,by omega,by omega,rfl,by go_num,hr3,hg3,HI2⟩,by simp[intOf];omega⟩
  ·have hend:¬ (j:Int)<(n:Int):=by omega
   have hjn:j=n:=by omega
   subst hjn
   have hi1:i≤j:=by omega
   have HK:Hid (r.take i=keptM l∧i=(keptM l).length):=(by
    have h:=HI.out.1
    rw[List.take_of_length_le (show l.length≤j by omega)] at h
    refine⟨h,?_⟩
    rw[← h,List.length_take]
    have:=hr.len
    omega)
   have hs1:=ZjL (some ⟨g,0,none⟩) j cap i hi1 hcap
   have hs2:=ZjM (some ⟨g,0,none⟩) j cap i hi1 hcap
   have hsf:mslF (some ⟨g,0,none⟩) cap i=some ⟨g,i * 2,none⟩:=(by
    unfold mslF
    rw[if_neg (by omega)]
    simp[Zao])
   rw[hsf] at hs1
   obtain⟨cur,q1,q2,q3⟩:=hr.ex
   obtain⟨u,hcr,hcg,cur',k1,k2,k3⟩:=ZjK wr 0 g (i * 2) (j-i) (cap-i) cur.toList (by simpa using q1) (by simp;omega)
   have hHu:HMk u (.slice (some ⟨g,0,none⟩) i cap) (keptM l):=(by
    have hl2:(keptM l).length=i:=HK.out.2.symm
    unfold HMk
    rw[hl2]
    refine .inr ⟨⟨g,0,none⟩,cap,rfl,by omega,fun t v ht=>?_⟩
    have htl:t<i * 2:=(by
     have:=(List.getElem?_eq_some_iff.1 ht).1
     rw[Zgo,hl2] at this
     exact this)
    have h1:cur.toList.take (i * 2)=mkcells (keptM l):=(by
     rw[← HK.out.1,← Zgr,← q3,List.take_take]
     congr 1
     omega)
    rw[← h1,← k3,List.getElem?_take_of_lt htl] at ht
    rw[Zao,Nat.zero_add,Lib.cell_of_heap k1]
    simpa using ht)
   have hgu:=ZdT hg hcg
   clear HI hsf q1 q2 q3 k1 k2 k3 hr hg hcg
   go_wp2_with (first | (refine Zmj (o:=⟨none,_,_,_,_,none⟩) _ rfl (.tmp 38) 43 rfl _ rfl _ _ hcr ?_) | fail)
   go_wp2
   go_ret
   exact⟨i,rfl,hHu,HK.out.2,hgu⟩
end

section
open Go.RowKit
theorem Zgi (n c:Nat) (ao:Addr) (u:World):(binOp .eql 43 (.slice (some ao) n c) (.slice none 0 0)).run Tryz.prog u=.ok (.bool false) u:=by kernel_rfl
theorem Zgh (u:World):(binOp .eql 43 (.slice none 0 0) (.slice none 0 0)).run Tryz.prog u=.ok (.bool true) u:=by kernel_rfl
theorem Zbj (l:List Mk) (ao:Addr) (c:Nat) (w:World) (hv:HMk w (.slice (some ao) l.length c) l) (hl:l.length≤1099511627776) :
  Calls Tryz.prog 307 #[.slice (some ao) l.length c] w fun e w'=>∃ v',e=.returned v'∧w'.ownsRow w.heap.size 47 2 v' l.length (mkcells l)∧Below w.heap.size w w':=by
 have hBa:Below w.heap.size w (w.alloc (.cells #[] 47)):=(Below.refl _ w).alloc (Nat.le_refl _) _
 have hva:=hv.keep hBa (Nat.le_refl _)
 have hown:(w.alloc (.cells #[] 47)).ownsRow w.heap.size 47 2 (.slice (some ⟨w.heap.size,0,none⟩) 0 0) 0 []:=⟨rfl,.inr ⟨w.heap.size,0,#[],rfl,Nat.le_refl _,heap_alloc_new w _,Nat.le_refl _,by unfold maxLen;omega,rfl,rfl⟩⟩
 have hz:w.heap.size≤(w.alloc (.cells #[] 47)).heap.size:=by simp
 have hnn:=Zgi l.length c ao
 clear hv
 go_enter Tryz.func307,Tryz.ntmps307
 go_wp2_with (at_builtin;refine Zmi _ (by kernel_rfl) (.tmp 5) (.tmp 6) 43 47 (.agg #[.int .u8 0,.string ⟨#[]⟩]) 2 24 rfl Tryz.underlying43 infoMk rfl (by decide) (by decide) w.heap.size _ _ _ rfl hown _ l.length (mkcells l) rfl hva (Zgo _) (Zgp _) (by omega) hz ?_)
 intro v3 u3 hown3 hg3 _
 have hB3:Below w.heap.size w u3:=hBa.grown hg3 hBa.size (fun j hj=>ZhJ hown hj)
 obtain⟨o3,c3,rfl⟩:=(Zeo hown3).form
 go_wp2
 go_ret
 exact⟨_,rfl,hown3,hB3⟩
structure Nl (w:World) (v:Value) (l:List Mk):Prop where
 hold:HMk w v l
 nil:l=[]→v=.slice none 0 0
theorem Nl.keep {w u:World} {v:Value} {l:List Mk} (h:Nl w v l) (hb:Below w.heap.size w u):Nl u v l:=⟨h.hold.keep hb (Nat.le_refl _),h.nil⟩
theorem ZbD (l:List Mk) (v:Value) (w:World) (hv:Nl w v l) (hl:l.length≤1099511627776) (K:List Mk) (HK:Hid (keptM l=K)) :
  Calls Tryz.prog 258 #[v] w fun e w'=>∃ v',e=.returned v'∧HMk w' v' K∧(l=[]→v'=.slice none 0 0)∧Below w.heap.size w w':=by
 by_cases h0:l=[]
 ·obtain rfl:=hv.nil h0
  subst h0
  have hK:K=[]:=HK.out.symm
  subst hK
  have hcl:∀ u,Calls Tryz.prog 307 #[.slice none 0 0] u fun e w'=>e=.returned (.slice none 0 0)∧w'=u:=(by
   intro u
   have hnn:=Zgh
   go_enter Tryz.func307,Tryz.ntmps307
   go_wp2
   go_ret
   exact⟨rfl,rfl⟩)
  have hix:∀ u,Calls Tryz.prog 298 #[.slice none 0 0,.func (.func 308) #[] #[]] u fun e w'=>e=.returned (.int .i64 (-1))∧Below u.heap.size u w':=fun u=>ZaR 308 #[] [] (fun m=>m.sg != 32) (.slice none 0 0) u (.inl ⟨rfl,rfl,rfl⟩) (by simp) (enters_of Tryz.func308 (by kernel_rfl) rfl) (fun m _ u _=>ZbC m u) (-1) rfl
  have hdl:∀ u,Calls Tryz.prog 306 #[.slice none 0 0,.func (.func 308) #[] #[]] u fun e w'=>e=.returned (.slice none 0 0)∧Below u.heap.size u w':=(by
   intro u
   go_enter Tryz.func306,Tryz.ntmps306
   go_wp2_with fail
   refine (hix u).mono ?_
   rintro e w1 ⟨rfl,hB⟩
   go_wp2
   go_ret
   exact⟨rfl,hB⟩)
  go_enter Tryz.func258,Tryz.ntmps258
  go_wp2_with fail
  refine (hcl _).mono ?_
  rintro e w1 ⟨rfl,rfl⟩
  go_wp2_with fail
  refine (hdl _).mono ?_
  rintro e w2 ⟨rfl,hB⟩
  go_wp2
  go_ret
  exact⟨_,rfl,.inl ⟨rfl,rfl,rfl⟩,fun _=>rfl,hB⟩
 ·obtain⟨lo,lc,rfl⟩:=HMk.form hv.hold
  have hlp:0<l.length:=List.length_pos_iff.2 h0
  obtain⟨bk,off,rfl,_,_⟩:=HMk.at hv.hold hlp
  have hc:=Zbj l ⟨bk,off,none⟩ lc w hv.hold hl
  have HN:Hid (l≠[]):=h0
  clear hv h0
  go_enter Tryz.func258,Tryz.ntmps258
  go_wp2_with fail
  refine hc.mono ?_
  rintro e w1 ⟨v',rfl,hown,hB1⟩
  obtain⟨g,cap,rfl,hg,hr⟩:=Zgu hown hlp
  have hd:=Zbl l g l.length cap w1 hr hl
  clear hc hown
  go_wp2_with fail
  refine hd.mono ?_
  rintro e w2 ⟨k,rfl,hH,hk,hgr⟩
  clear hk
  go_wp2
  go_ret
  refine⟨_,rfl,by rw[← HK.out];exact hH,fun e=>absurd e HN.out,hB1.grown hgr hB1.size (fun j hj=>by cases hj;exact hg)⟩
theorem ZaW (k:Int) (X:Nat) (m:Mk) (w:World) (cX:w.cell? ⟨X,0,none⟩=some (.int .u8 k)) (hX:X<w.heap.size):Calls Tryz.prog 310 #[.agg #[.int .u8 m.sg,.string ⟨m.tx.toArray⟩],.pointer (some ⟨X,0,none⟩)] w fun e w'=>e=.returned (.bool (m.sg != k))∧Below w.heap.size w w':=by
 have hBl:Below w.heap.size w (w.alloc (.cells #[.int .u8 m.sg,.string ⟨m.tx.toArray⟩] 47)):=(Below.refl _ w).alloc (Nat.le_refl _) _
 have cX2:(w.alloc (.cells #[.int .u8 m.sg,.string ⟨m.tx.toArray⟩] 47)).cell? ⟨X,0,none⟩=some (.int .u8 k):=(World.cell?_of_block (w:=w) (hBl.block X hX)).trans cX
 go_enter Tryz.func310,Tryz.ntmps310
 go_wp2
 go_ret
 exact⟨rfl,hBl⟩
theorem Zaq (k:Int) (l:List Mk):(l.any fun m=>m.sg != k)=!allM k l:=by
 unfold allM
 induction l with
 | nil=>rfl
 | cons m l ih =>
  rw[List.any_cons,List.all_cons,ih]
  cases h:m.sg == k<;>simp[bne,h]
theorem ZaZ (k:Int) (l:List Mk) (v:Value) (w:World) (hv:HMk w v l) (hl:l.length≤1099511627776) (r:Bool) (HR:Hid (allM k l=r)) :
  Calls Tryz.prog 259 #[v,.int .u8 k] w fun e w'=>e=.returned (.bool r)∧Below w.heap.size w w':=by
 have hBl:Below w.heap.size w (w.alloc (.cells #[.int .u8 k] 5)):=(Below.refl _ w).alloc (Nat.le_refl _) _
 have cX:(w.alloc (.cells #[.int .u8 k] 5)).cell? ⟨w.heap.size,0,none⟩=some (.int .u8 k):=(by rw[Lib.cell_of_heap (heap_alloc_new w _)];rfl)
 have hsz:(w.alloc (.cells #[.int .u8 k] 5)).heap.size=w.heap.size+1:=by simp
 have hv1:HMk (w.alloc (.cells #[.int .u8 k] 5)) v l:=hv.keep hBl (Nat.le_refl _)
 obtain⟨r2,hr2⟩:∃ b,(!r)=b:=⟨_,rfl⟩
 have HC:Hid (Calls Tryz.prog 245 #[v,.func (.func 310) #[] #[.pointer (some ⟨w.heap.size,0,none⟩)]] (w.alloc (.cells #[.int .u8 k] 5)) fun e w'=>e=.returned (.bool r2)∧Below w.heap.size w w'):=(by
  refine (ZaQ 310 #[.pointer (some ⟨w.heap.size,0,none⟩)] l (fun m=>m.sg != k) v _ hv1 hl (enters_of Tryz.func310 (by kernel_rfl) rfl) ?_ r2 (by show _=_;rw[Zaq,HR.out,hr2])).mono ?_
  ·intro m _ u hu
   refine ZaW k w.heap.size m u ((World.cell?_of_block (hu.block w.heap.size (by rw[hsz];omega))).trans cX) (Nat.lt_of_lt_of_le (by rw[hsz];omega) hu.size)
  ·rintro e w' ⟨h1,h2⟩
   exact⟨h1,hBl.trans (h2.mono (by rw[hsz];omega))⟩)
 have HE:Hid ((!r2)=r):=(by show _=_;rw[← hr2,Bool.not_not])
 obtain⟨lo,lc,rfl⟩:=HMk.form hv
 clear cX hsz hv1 HR hBl hr2
 have hmf:∀ (fn:Fn) (first cap:Array Value) (w:World),(Instr.makeFunc fn first cap).run Tryz.prog w=.ok (.func fn first cap) w:=fun _ _ _ _=>rfl
 go_enter Tryz.func259,Tryz.ntmps259
 go_wp2_with fail
 refine HC.out.mono ?_
 rintro e w1 ⟨rfl,hB⟩
 go_wp2
 go_ret
 exact⟨by rw[← HE.out];rfl,hB⟩
theorem ZbH (a b:List Mk) (va vb:Value) (w:World) (ha:HMk w va a) (hb:HMk w vb b) (hla:a.length≤1099511627776) (hlb:b.length≤1099511627776) (r:Bool) (HR:Hid (mtM a b=r)) :
  Calls Tryz.prog 313 #[va,vb] w fun e w'=>e=.returned (.bool r)∧Below w.heap.size w w':=by
 have HRR:=HR.out
 unfold mtM at HRR
 obtain⟨ao,ac,rfl⟩:=HMk.form ha
 obtain⟨bo,bc,rfl⟩:=HMk.form hb
 by_cases h1:b=[]
 ·rw[if_pos h1] at HRR
  have e1:((b.length:Int) == 0)=true:=(by rw[h1];rfl)
  have hc:=ZaZ 45 a _ w ha hla r HRR
  clear HR HRR h1
  go_enter Tryz.func313,Tryz.ntmps313
  go_wp2_with fail
  refine hc.mono ?_
  rintro e w1 ⟨rfl,hB⟩
  go_wp2
  go_ret
  exact⟨rfl,hB⟩
 ·rw[if_neg h1] at HRR
  have e1:((b.length:Int) == 0)=false:=(by rw[beq_eq_false_iff_ne];intro e;exact h1 (List.eq_nil_of_length_eq_zero (by omega)))
  by_cases h2:a=[]
  ·rw[if_pos h2] at HRR
   have e2:((a.length:Int) == 0)=true:=(by rw[h2];rfl)
   have hc:=ZaZ 43 b _ w hb hlb r HRR
   clear HR HRR h1 h2
   go_enter Tryz.func313,Tryz.ntmps313
   go_wp2_with fail
   refine hc.mono ?_
   rintro e w1 ⟨rfl,hB⟩
   go_wp2
   go_ret
   exact⟨rfl,hB⟩
  ·rw[if_neg h2] at HRR
   have e2:((a.length:Int) == 0)=false:=(by rw[beq_eq_false_iff_ne];intro e;exact h2 (List.eq_nil_of_length_eq_zero (by omega)))
   cases h3:allM 33 a with
   | true =>
    rw[h3,Bool.true_and] at HRR
    have hc:=ZaZ 33 a _ w ha hla true h3
    have hd:=fun u hu=>ZaZ 33 b _ u (hb.keep hu (Nat.le_refl _)) hlb r HRR
    clear HR HRR h1 h2 h3
    go_enter Tryz.func313,Tryz.ntmps313
    go_wp2_with fail
    refine hc.mono ?_
    rintro e w1 ⟨rfl,hB⟩
    go_wp2_with fail
    refine (hd w1 hB).mono ?_
    rintro e w2 ⟨rfl,hB2⟩
    go_wp2
    go_ret
    exact⟨rfl,hB.trans (hB2.mono hB.size)⟩
   | false =>
    rw[h3,Bool.false_and] at HRR
    have HE:Hid (false=r):=HRR
    have hc:=ZaZ 33 a _ w ha hla false h3
    clear HR HRR h1 h2 h3
    go_enter Tryz.func313,Tryz.ntmps313
    go_wp2_with fail
    refine hc.mono ?_
    rintro e w1 ⟨rfl,hB⟩
    go_wp2
    go_ret
    exact⟨by rw[← HE.out];rfl,hB⟩
end

section
open Go.RowKit Go.Proofs.YtcniomgjikienaaGreatDoor.Tx Go.Lib
section
variable {P:Program} (w:World)
end
structure Wr (B b:Nat) (v v':Value) (w w':World):Prop where
 aside:Go.Proofs.YtcniomgjikienaaGreatDoor.Tx.Aside b v w w'
 fresh:Fresh v v' w
 below:Below B w w'
theorem Wr.refl (B b:Nat) (v:Value) (w:World):Wr B b v v w w:=⟨fun _ _ _ _=>rfl,.inl rfl,Below.refl B w⟩
theorem Wr.trans {B b:Nat} {v v1 v2:Value} {w w1 w2:World} (h:Wr B b v v1 w w1) (h':Wr B b v1 v2 w1 w2):Wr B b v v2 w w2:=by
 have hsz:=h.below.size
 have hn:∀ k,k<w.heap.size→v.ownBlock≠some k→v1.ownBlock≠some k:=by
  intro k hk hv
  rcases h.fresh with q | ⟨g,q,hg⟩
  ·rw[q];exact hv
  ·rw[q]
   intro e
   have:=Option.some.inj e
   omega
 refine⟨fun k hk hb hv=>(h'.aside k (by omega) hb (hn k hk hv)).trans (h.aside k hk hb hv),?_,h.below.trans h'.below⟩
 rcases h'.fresh with q | ⟨g,q,hg⟩
 ·rcases h.fresh with q2 | ⟨g,q2,hg⟩
  ·exact .inl (q.trans q2)
  ·exact .inr ⟨g,q.trans q2,hg⟩
 ·exact .inr ⟨g,q,by omega⟩
theorem Wr.low {B b:Nat} {v:Value} {w w1:World} (h:Below w.heap.size w w1) (hB:B≤w.heap.size):Wr B b v v w w1:=⟨fun k hk _ _=>h.block k hk,.inl rfl,h.mono hB⟩
theorem Wr.size {B b:Nat} {v v':Value} {w w':World} (h:Wr B b v v' w w'):w.heap.size≤w'.heap.size:=h.below.size
def Off (k:Nat) (b:Nat) (v:Value):Prop:=k≠b∧v.ownBlock≠some k
theorem Wr.block {B b:Nat} {v v':Value} {w w':World} (h:Wr B b v v' w w') {k:Nat} {o:Obj} (hk:w.heap[k]?=some o) (ho:Off k b v):w'.heap[k]?=some o∧Off k b v':=by
 have hlt:k<w.heap.size:=(Array.getElem?_eq_some_iff.1 hk).1
 refine⟨(h.aside k hlt ho.1 ho.2).trans hk,ho.1,?_⟩
 rcases h.fresh with q | ⟨g,q,hg⟩
 ·rw[q];exact ho.2
 ·rw[q]
  intro e
  have:=Option.some.inj e
  omega
end

section
open Go.RowKit Go.Proofs.YtcniomgjikienaaGreatDoor.Tx
end

section
open Go.RowKit Go.Proofs.YtcniomgjikienaaGreatDoor.Tx
def Pg (B b:Nat) (v:Value) (acc:List UInt8) (w:World):Prop:=Bld 235 5 B b v (Lib.byteCells acc) w
theorem Pg.low {B b:Nat} {v:Value} {acc:List UInt8} {w w':World} (h:Pg B b v acc w) (hb:Below w.heap.size w w'):Pg B b v acc w':=Bld.kept h hb.block
end

section
open Go.RowKit
def lenW:Value→Nat
 | .slice _ n _=>n
 | _=>0
end

section
open Go.RowKit
structure Ly (W:World) (X:Nat) (lv:Value) (acc:List Mk) (u:World):Prop where
 low:Below W.heap.size W u
 box:u.heap[X]?=some (.cells #[lv] 43)
 own:u.ownsRow W.heap.size 47 2 lv acc.length (mkcells acc)
 ge:W.heap.size≤X
section
variable {W u u':World} {X:Nat} {lv:Value} {acc:List Mk}
theorem Ly.keep (h:Ly W X lv acc u) (hb:Below u.heap.size u u'):Ly W X lv acc u':=⟨h.low.trans (hb.mono h.low.size),(hb.block X (Array.getElem?_eq_some_iff.1 h.box).1).trans h.box,ZhK h.own hb,h.ge⟩
theorem Ly.cell (h:Ly W X lv acc u):u.cell? ⟨X,0,none⟩=some lv:=by rw[Lib.cell_of_heap h.box];rfl
theorem Ly.frozen (h:Ly W X lv acc u):u.frozen? ⟨X,0,none⟩=false:=Lib.frozen_of_heap h.box 0
theorem ZhE {B:Nat} {e t:TypeId} {s:Nat} {v:Value} {n k:Nat} {xs:List Value} {cs:Array Value} {fr:Nat × Nat} (h:u.ownsRow B e s v n xs) (hb:u.heap[k]?=some (.cells cs t fr)) (he:e≠t):v.ownBlock≠some k:=by
 intro hg
 rcases h.2 with ⟨rfl,_⟩ | ⟨g,cap,cur,rfl,_,hg2,_⟩
 ·cases hg
 ·simp[Value.ownBlock] at hg
  subst hg
  rw[hb] at hg2
  simp at hg2
  exact he hg2.2.1.symm
theorem Ly.more (h:Ly W X lv acc u) {m:Mk} {lv':Value} {n:Nat} (hg:u.grownBy u' lv.ownBlock) (ho:u'.ownsRow W.heap.size 47 2 lv' n (mkcells (acc++[m]))) (hn:n=(acc++[m]).length):Ly W X lv' (acc++[m]) (u'.setCell ⟨X,0,none⟩ lv')∧u'.cell? ⟨X,0,none⟩=some lv∧u'.frozen? ⟨X,0,none⟩=false:=by
 subst hn
 have hb:u'.heap[X]?=some (.cells #[lv] 43):=(hg.block X (Array.getElem?_eq_some_iff.1 h.box).1 (fun e=>ZhE h.own h.box (by decide) e.symm)).trans h.box
 have hlow:Below W.heap.size W u':=h.low.grown hg h.low.size (fun j hj=>ZhJ h.own hj)
 refine⟨⟨hlow.setCell h.ge _,heap_setCell_same u' X 0 _ _ lv' hb,?_,h.ge⟩,by rw[Lib.cell_of_heap hb];rfl,Lib.frozen_of_heap hb 0⟩
 have hg2:=ZdS u' X 0 lv'
 refine⟨ho.1,?_⟩
 rcases ho.2 with q | ⟨g,cap,cur,rfl,q2,q3,q4⟩
 ·exact .inl q
 ·refine .inr ⟨g,cap,cur,rfl,q2,?_,q4⟩
  rw[hg2.block g (Array.getElem?_eq_some_iff.1 q3).1 (fun e=>by
   cases e
   rw[hb] at q3
   simp at q3)]
  exact q3
end
theorem ZbF (sg:Int) (l acc:List Mk) (W:World) (X:Nat) (lv v:Value) (w:World) (hy:Ly W X lv acc w) (hv:HMk W v l) (hl:l.length≤1099511627776) (ha:acc.length≤1099511627776) (R:List Mk) (HR:Hid (acc++l.map (fun m=>⟨sg,m.tx⟩)=R)) :
  Calls Tryz.prog 312 #[.int .u8 sg,v,.pointer (some ⟨X,0,none⟩)] w fun e w'=>e=.returned (.tuple #[])∧∃ lv',Ly W X lv' R w':=by
 obtain⟨lo,lc,rfl⟩:=HMk.form hv
 have HR0:Hid (acc++(l.drop 0).map (fun m=>(⟨sg,m.tx⟩:Mk))=R∧acc.length=acc.length+0):=⟨by rw[List.drop_zero];exact HR.out,rfl⟩
 clear HR
 go_enter Tryz.func312,Tryz.ntmps312
 go_wp2
 go_loopw [9] (fun i wr=>∃ (k:Nat) (lv':Value) (ac:List Mk),k≤l.length∧i=.int .i64 k∧Ly W X lv' ac wr∧Hid (ac++(l.drop k).map (fun m=>(⟨sg,m.tx⟩:Mk))=R∧ac.length=acc.length+k)) (fun i _=>l.length-(intOf i).toNat)
 case atStart=>exact⟨0,lv,acc,Nat.zero_le _,by go_num,hy,HR0⟩
 case round =>
 clear HR0 hy
 obtain⟨k,lv1,ac,hk,rfl,hy,HI⟩:=hrel
 by_cases hlt:k<l.length
 ·obtain⟨bk,off,rfl,hbk,_⟩:=HMk.at hv (by omega)
  obtain⟨m,hm⟩:∃ m,l[k]=m:=⟨_,rfl⟩
  obtain⟨c0,c1⟩:=Low.mk hy.low hv k hlt hm
  have i1:(0:Int)≤(k:Int):=by omega
  have i2:(k:Int)<(l.length:Int):=by omega
  have HI2:Hid ((ac++[⟨sg,m.tx⟩])++(l.drop (k+1)).map (fun m=>(⟨sg,m.tx⟩:Mk))=R∧(ac++[(⟨sg,m.tx⟩:Mk)]).length=acc.length+(k+1)):=(by
   have h:=HI.out
   rw[List.drop_eq_getElem_cons hlt,hm] at h
   refine⟨?_,?_⟩
   ·rw[← h.1];simp
   ·rw[List.length_append,h.2];simp;omega)
  have hal:ac.length≤2199023255551:=(by have:=HI.out.2;omega)
  have hBa:Below wr.heap.size wr (wr.alloc (.cells #[.int .u8 m.sg,.string ⟨m.tx.toArray⟩] 47)):=(Below.refl _ wr).alloc (Nat.le_refl _) _
  have hya:=hy.keep hBa
  have hBb:Below (wr.alloc (.cells #[.int .u8 m.sg,.string ⟨m.tx.toArray⟩] 47)).heap.size (wr.alloc (.cells #[.int .u8 m.sg,.string ⟨m.tx.toArray⟩] 47)) ((wr.alloc (.cells #[.int .u8 m.sg,.string ⟨m.tx.toArray⟩] 47)).alloc (mkO ⟨sg,m.tx⟩)):=(Below.refl _ _).alloc (Nat.le_refl _) _
  have hyb:=hya.keep hBb
  have hrow:=Zgj (wr.alloc (.cells #[.int .u8 m.sg,.string ⟨m.tx.toArray⟩] 47)) ⟨sg,m.tx⟩
  rw[show (wr.alloc (.cells #[.int .u8 m.sg,.string ⟨m.tx.toArray⟩] 47)).heap.size=wr.heap.size+1 by simp] at hrow
  have hx0:=hya.cell
  have hx1:=hy.cell
  have hW:(wr.alloc (.cells #[.int .u8 m.sg,.string ⟨m.tx.toArray⟩] 47)).alloc (.cells #[.int .u8 sg,.string ⟨m.tx.toArray⟩] 47)=(wr.alloc (.cells #[.int .u8 m.sg,.string ⟨m.tx.toArray⟩] 47)).alloc (mkO ⟨sg,m.tx⟩):=rfl
  have hownb:=hyb.own
  have hlow:=hyb.low.size
  obtain⟨o1,n1,c1',rfl⟩:∃ o n c,lv1=.slice o n c:=(by obtain⟨o,c,h⟩:=(Zeo hy.own).form;exact⟨o,_,c,h⟩)
  clear HI hm hBa hBb hya hy
  go_wp2_with (at_builtin;refine Zmi _ (by kernel_rfl) (.tmp 13) (.tmp 18) 43 47 (.agg #[.int .u8 0,.string ⟨#[]⟩]) 2 24 rfl Tryz.underlying43 infoMk rfl (by decide) (by decide) W.heap.size _ _ _ rfl hownb _ 1 (mkcells [⟨sg,m.tx⟩]) rfl hrow (Zgo _) (Zgp _) (by omega) hlow ?_)
  intro v3 u3 hown3 hg3 _
  rw[← Zgl] at hown3
  obtain⟨hy3,x1,x2⟩:=hyb.more hg3 hown3 (by rw[List.length_append];rfl)
  obtain⟨o3,c3,rfl⟩:=(Zeo hown3).form
  clear hW hrow hownb hown3 hg3 hyb hx0 hx1 c0 c1
  go_wp2
  exact⟨⟨k+1,_,_,by omega,by go_num,hy3,HI2⟩,by simp[intOf];omega⟩
 ·have hend:decide ((k:Int)<(l.length:Int))=false:=decide_eq_false (by omega)
  have hE:ac=R:=(by
   have h:=HI.out.1
   rw[List.drop_of_length_le (by omega)] at h
   simpa using h)
  subst hE
  clear HI
  go_wp2
  first
   | go_end0
   | refine bodyPost_ret (results_none rfl _ _ _) rfl ?_
   | refine bodyPost_end (results_none rfl _ _ _) rfl ?_
  exact⟨rfl,lv1,hy⟩
theorem Zgg (s t:List UInt8) (r:Bool) (h:(s != t)=r) (u:World):(binOp .neq 47 (.agg #[.int .u8 32,.string ⟨s.toArray⟩]) (.agg #[.int .u8 32,.string ⟨t.toArray⟩])).run Tryz.prog u=.ok (.bool r) u:=by
 have hst:Tryz.prog.underlying 47=some (.struct (Tryz.prog.fieldsOf 47)):=by kernel_rfl
 have hsi:Tryz.prog.stoodInHeld 47=false:=by kernel_rfl
 have hff : (Tryz.prog.fieldsOf 47).toList = [⟨"Sign", 5, 0, false, "", "", 0⟩, ⟨"Text", 9, 1, false, "", "", 8⟩] := by kernel_rfl
 rw[run_neq_struct,run_equalIn_agg u 9999 _ _ _ hst hsi,hff]
 have p1:∀ (x y:Value) (u:World),(part 5 #[.int .u8 32,y] 0).run Tryz.prog u=.ok (.int .u8 32) u:=fun _ _ _=>by kernel_rfl
 have p2:∀ (z:ByteArray) (u:World),(part 9 #[.int .u8 32,.string z] 1).run Tryz.prog u=.ok (.string z) u:=fun _ _=>by kernel_rfl
 have q1:=run_equalIn_int (P:=Tryz.prog) u 9998 5 .u8 .u8 32 32 Tryz.underlying5
 have q2:=run_equalIn_string (P:=Tryz.prog) u 9998 9 ⟨s.toArray⟩ ⟨t.toArray⟩ Tryz.underlying9
 have e1:(⟨s.toArray⟩:ByteArray).toList=s:=by rw[ByteArray.toList_eq]
 have e2:(⟨t.toArray⟩:ByteArray).toList=t:=by rw[ByteArray.toList_eq]
 rw[e1,e2] at q2
 have n1 : ("Sign" : String) ≠ "_" := by decide
 have n2 : ("Text" : String) ≠ "_" := by decide
 simp only[Op.eqFields,n1,n2,ne_eq,not_false_eq_true,if_true,Sem.run_bind,p1 .nilIface,p2,q1,q2,Result.andThen_ok,Sem.run_ite]
 rw[← h]
 cases hst2:(s == t)<;>simp[bne,hst2]
theorem ZjD (l:List Mk):l.drop (chgM l).length=rstM l:=by
 have h:=Zbv l
 have h2:(chgM l++rstM l).drop (chgM l).length=rstM l:=List.drop_left
 rw[h] at h2
 exact h2
def thenJ (a:List Mk) (X:Option (List Mk)):Option (List Mk):=X.map (a++·)
def LdQ (w:World) (X:Option (List Mk)) (e:Ending) (w':World):Prop:=∃ v r,e=.returned (.tuple #[v,.bool r])∧Below w.heap.size w w'∧match X with
 | none=>r=false
 | some l=>r=true∧w'.ownsRow w.heap.size 47 2 v l.length (mkcells l)
theorem ZbE (o v:Sde) (vo vv:Value) (w:World) (ho:HMk w vo (kM o)) (hv:HMk w vv (kM v)) (hol:o.length≤137438953472) (hvl:v.length≤137438953472) (Y:Option (List Mk)) (HY:Hid (jnX o v=Y)) :
  Calls Tryz.prog 261 #[vo,vv] w fun e w'=>LdQ w Y e w':=by
 have hX0:Ly w w.heap.size (.slice none 0 0) [] (w.alloc (.cells #[.slice none 0 0] 43)):=⟨(Below.refl _ w).alloc (Nat.le_refl _) _,heap_alloc_new w _,Zen _ _ _ _,Nat.le_refl _⟩
 have HI0:Hid (thenJ [] (jnX o v)=Y∧([]:List Mk).length+o.length+v.length≤o.length+v.length):=⟨by rw[← HY.out];unfold thenJ;cases jnX o v<;>rfl,by simp⟩
 obtain⟨T,hT⟩:∃ T,o.length+v.length=T:=⟨_,rfl⟩
 rw[hT] at HI0
 have hTl:T≤274877906944:=by omega
 obtain⟨ao,ac,rfl⟩:=HMk.form ho
 obtain⟨bo,bc,rfl⟩:=HMk.form hv
 clear HY hT
 have hmf:∀ (fn:Fn) (first cap:Array Value) (w:World),(Instr.makeFunc fn first cap).run Tryz.prog w=.ok (.func fn first cap) w:=fun _ _ _ _=>rfl
 go_enter Tryz.func261,Tryz.ntmps261
 go_wp2
 generalize hX:w.heap.size=X at hX0 ⊢
 have HX:Hid (w.heap.size=X):=hX
 clear hX
 go_loopw [0,1] (fun ov nv wr=>∃ (o v:Sde) (lv:Value) (acc:List Mk) (ao bo:Option Addr) (ac bc:Nat),ov=.slice ao (kM o).length ac∧nv=.slice bo (kM v).length bc∧HMk w (.slice ao (kM o).length ac) (kM o)∧HMk w (.slice bo (kM v).length bc) (kM v)∧Ly w X lv acc wr∧Hid (thenJ acc (jnX o v)=Y∧acc.length+o.length+v.length≤T)) (fun ov _ _=>lenW ov)
 case atStart=>exact⟨o,v,_,[],ao,bo,ac,bc,rfl,rfl,ho,hv,hX0,HI0⟩
 case round =>
 clear HI0 hX0 ho hv hol hvl
 obtain⟨o,v,lv,acc,ao,bo,ac,bc,rfl,rfl,ho,hv,hy,HI⟩:=hrel
 have hoT:o.length≤274877906944:=(by have:=HI.out.2;omega)
 obtain⟨n1,hn1⟩:∃ n,(chgM (kM o)).length=n:=⟨_,rfl⟩
 obtain⟨n2,hn2⟩:∃ n,(chgM (kM v)).length=n:=⟨_,rfl⟩
 have le1:n1≤(kM o).length:=(by rw[← hn1];exact Zbt _)
 have le2:n2≤(kM v).length:=(by rw[← hn2];exact Zbt _)
 have g1:=Zgk ho n1 le1
 have g2:=Zgk hv n2 le2
 rw[show (kM o).take n1=chgM (kM o) by rw[← hn1];exact Zbw _] at g1
 rw[show (kM v).take n2=chgM (kM v) by rw[← hn2];exact Zbw _] at g2
 have d1:=Zgf ho n1 le1
 have d2:=Zgf hv n2 le2
 have s1:=ZjL ao (kM o).length ac n1 le1 (Zgb ho)
 have s2:=ZjL bo (kM v).length bc n2 le2 (Zgb hv)
 rw[show (kM o).drop n1=kM (rstS o) by rw[← hn1,ZjD,ZjF]] at d1
 rw[show (kM v).drop n2=kM (rstS v) by rw[← hn2,ZjD,ZjF]] at d2
 have x1:(kM o).length-n1=(kM (rstS o)).length:=(by rw[← ZjF,← ZjD,hn1,List.length_drop])
 have x2:(kM v).length-n2=(kM (rstS v)).length:=(by rw[← ZjF,← ZjD,hn2,List.length_drop])
 rw[x1] at d1 s1
 rw[x2] at d2 s2
 clear x1 x2
 have HLen:Hid (acc.length+o.length+v.length≤T∧n1+(rstS o).length=o.length∧n2+(rstS v).length=v.length):=⟨HI.out.2,by
  have h:=congrArg List.length (Zbu o)
  rw[List.length_append] at h
  rw[← hn1,Zbs,Zfd]
  exact h,by
  have h:=congrArg List.length (Zbu v)
  rw[List.length_append] at h
  rw[← hn2,Zbs,Zfd]
  exact h⟩
 obtain⟨mr,hmr⟩:∃ r,mtM (chgM (kM o)) (chgM (kM v))=r:=⟨_,rfl⟩
 have hokr:okJ (chgS o) (chgS v)=mr:=(by rw[← hmr,Zbs,Zbs,Zgv])
 have HJ:=HI.out.1
 rw[ZeW,hokr] at HJ
 obtain⟨A1,hA1⟩:∃ Z,acc++(chgM (kM o)).map (fun m=>(⟨45,m.tx⟩:Mk))=Z:=⟨_,rfl⟩
 obtain⟨A2,hA2⟩:∃ Z,A1++(chgM (kM v)).map (fun m=>(⟨43,m.tx⟩:Mk))=Z:=⟨_,rfl⟩
 have HA:Hid (acc++(mkS 45 (chgS o)++mkS 43 (chgS v))=A2):=(by
  show _=_
  rw[← hA2,← hA1,Zgd,Zgd,← Zbs,← Zbs,List.append_assoc])
 have HAl:Hid (acc.length≤274877906944∧A1.length=acc.length+n1∧A2.length=acc.length+n1+n2):=(by
  have h1:=congrArg List.length hA1
  have h2:=congrArg List.length hA2
  simp only[List.length_append,List.length_map,hn1,hn2] at h1 h2
  have:=HLen.out.1
  exact⟨by omega,by omega,by omega⟩)
 have cp1:=fun u hu=>ZbX (kM o) ao ac u (ho.keep hu (Nat.le_refl _)) (by have:=HLen.out;rw[Zfd];omega) n1 hn1
 have cp2:=fun u hu=>ZbX (kM v) bo bc u (hv.keep hu (Nat.le_refl _)) (by have:=HLen.out;rw[Zfd];omega) n2 hn2
 have cm:=fun u hu=>ZbH (chgM (kM o)) (chgM (kM v)) (.slice ao n1 ac) (.slice bo n2 bc) u (g1.keep hu (Nat.le_refl _)) (g2.keep hu (Nat.le_refl _)) (by have:=HLen.out;rw[hn1];omega) (by have:=HLen.out;rw[hn2];omega) mr hmr
 generalize mslF ao ac n1=ao2 at d1 s1
 generalize ac-n1=ac2 at d1 s1
 generalize mslF bo bc n2=bo2 at d2 s2
 generalize bc-n2=bc2 at d2 s2
 clear hmr hokr HI
 go_wp2_with fail
 refine (cp1 wr hy.low).mono ?_
 rintro e w1 ⟨rfl,hB1⟩
 have hy1:=hy.keep hB1
 go_wp2_with fail
 refine (cp2 w1 hy1.low).mono ?_
 rintro e w2 ⟨rfl,hB2⟩
 have hy2:=hy1.keep hB2
 go_wp2_with fail
 refine (cm w2 hy2.low).mono ?_
 rintro e w3 ⟨rfl,hB3⟩
 have hy3:=hy2.keep hB3
 clear hy hy1 hy2 hB1 hB2 hB3 cp1 cp2 cm
 cases mr with
 | false =>
  rw[if_neg (by decide)] at HJ
  have HE:Hid (none=Y):=HJ
  clear HJ
  go_wp2
  go_ret2
  exact⟨_,_,rfl,hy3.low,by rw[← HE.out]⟩
 | true =>
  rw[if_pos rfl] at HJ
  have cl1:=fun lv u (hy:Ly w X lv acc u)=>ZbF 45 (chgM (kM o)) acc w X lv (.slice ao n1 ac) u hy g1 (by have:=HLen.out;rw[hn1];omega) (by have:=HAl.out;omega) A1 hA1
  have cl2:=fun lv u (hy:Ly w X lv A1 u)=>ZbF 43 (chgM (kM v)) A1 w X lv (.slice bo n2 bc) u hy g2 (by have:=HLen.out;rw[hn2];omega) (by have:=HAl.out;have:=HLen.out;omega) A2 hA2
  have HJ2:Hid (thenJ acc (match rstS o,rstS v with
   | [],[]=>some (mkS 45 (chgS o)++mkS 43 (chgS v))
   | (_,s)::o2,(_,t)::w2=>if s=t then match jnX o2 w2 with
    | none=>none
    | some l=>some (mkS 45 (chgS o)++(mkS 43 (chgS v)++⟨32,s⟩::l)) else none
   | _,_=>none)=Y):=HJ
  have HF:Hid ((∀ y x2,rstS o=y::x2→y.1=32)∧(∀ y x2,rstS v=y::x2→y.1=32)):=⟨fun y x2 h=>ZjE h,fun y x2 h=>ZjE h⟩
  clear HJ hA1 hA2 g1 g2 hn1 hn2 ho hv
  go_wp2_with fail
  refine (cl1 _ _ hy3).mono ?_
  rintro e w4 ⟨rfl,lv4,hy4⟩
  clear hy3 cl1
  go_wp2_with fail
  refine (cl2 _ _ hy4).mono ?_
  rintro e w5 ⟨rfl,lv5,hy5⟩
  clear hy4 cl2
  go_wp2_with fail
  go_quiet (fail)
  have hyd:Ly w X lv5 A2 (w5.drewN nq):=hy5.keep (below_drewN (Below.refl _ _) nq)
  clear hy5 s1 s2
  generalize w5.drewN nq=w6 at hyd ⊢
  have hYc:=hyd.cell
  generalize rstS o=O at d1 HJ2 HF HLen ⊢
  generalize rstS v=V at d2 HJ2 HF HLen ⊢
  have HR:Hid (ac2+bc2+n1+n2+n1+n2 ≥ 0):=Nat.zero_le _
  cases O with
  | nil =>
   have e0:(kM ([]:Sde)).length=0:=rfl
   rw[e0]
   cases V with
   | nil =>
    rw[e0]
    have HE:Hid (some A2=Y):=(by rw[← HJ2.out];show _=thenJ acc (some _);show _=some (acc++_);rw[HA.out])
    clear HJ2 HF d1 d2
    go_wp2
    go_ret2
    exact⟨_,_,rfl,hyd.low,by rw[← HE.out];exact⟨rfl,hyd.own⟩⟩
   | cons z v3 =>
    have f2:(((0:Nat):Int) == ((kM (z::v3)).length:Int))=false:=(by simp[kM];omega)
    have HE:Hid (none=Y):=HJ2.out
    clear HJ2 HF d1 d2
    generalize (kM (z::v3)).length=L2 at f2 ⊢
    go_wp2
    go_ret2
    exact⟨_,_,rfl,hyd.low,by rw[← HE.out];exact f2⟩
  | cons y o3 =>
   have f1:(((kM (y::o3)).length:Int) == 0)=false:=(by simp[kM];omega)
   cases V with
   | nil =>
    have e0:(kM ([]:Sde)).length=0:=rfl
    rw[e0]
    have HE:Hid (none=Y):=HJ2.out
    clear HJ2 HF d1 d2
    generalize (kM (y::o3)).length=L1 at f1 ⊢
    go_wp2
    go_ret2
    exact⟨_,_,rfl,hyd.low,by rw[← HE.out]⟩
   | cons z v3 =>
    have f2:(((kM (z::v3)).length:Int) == 0)=false:=(by simp[kM];omega)
    obtain⟨yk,ys⟩:=y
    obtain⟨zk,zs⟩:=z
    obtain rfl:yk=32:=HF.out.1 _ _ rfl
    obtain rfl:zk=32:=HF.out.2 _ _ rfl
    obtain⟨L1,hL1⟩:∃ n,(kM ((32,ys)::o3)).length=n:=⟨_,rfl⟩
    obtain⟨L2,hL2⟩:∃ n,(kM ((32,zs)::v3)).length=n:=⟨_,rfl⟩
    have p1:0<L1:=(by rw[← hL1,Zfc];exact Nat.succ_pos _)
    have p2:0<L2:=(by rw[← hL2,Zfc];exact Nat.succ_pos _)
    have k1:=Zgb d1
    have k2:=Zgb d2
    obtain⟨ob,oo,rfl,hob,_⟩:=HMk.at d1 (by rw[hL1];exact p1)
    obtain⟨vb,vo,rfl,hvb,_⟩:=HMk.at d2 (by rw[hL2];exact p2)
    obtain⟨y1,y2⟩:=Low.mk hyd.low d1 0 (by rw[hL1];exact p1) (x:=⟨32,ys⟩) rfl
    obtain⟨z1,z2⟩:=Low.mk hyd.low d2 0 (by rw[hL2];exact p2) (x:=⟨32,zs⟩) rfl
    have s1:=ZjL (some ⟨ob,oo,none⟩) L1 ac2 1 (by omega) (by omega)
    have s2:=ZjL (some ⟨vb,vo,none⟩) L2 bc2 1 (by omega) (by omega)
    have t1:=ZjM (some ⟨ob,oo,none⟩) L1 ac2 1 (by omega) (by omega)
    have r1:=Zgf d1 1 (by omega)
    have r2:=Zgf d2 1 (by omega)
    have ra:=Zgk d1 1 (by omega)
    rw[hL1] at r1 f1
    rw[hL2] at r2 f2
    rw[hL1,hL2]
    have hg1:L1-1=(kM o3).length:=(by rw[← hL1,Zfc];rfl)
    have hg2:L2-1=(kM v3).length:=(by rw[← hL2,Zfc];rfl)
    rw[hg1] at r1 s1
    rw[hg2] at r2 s2
    have hr1:HMk w (.slice (mslF (some ⟨ob,oo,none⟩) ac2 1) (kM o3).length (ac2-1)) (kM o3):=r1
    have hr2:HMk w (.slice (mslF (some ⟨vb,vo,none⟩) bc2 1) (kM v3).length (bc2-1)) (kM v3):=r2
    have hra:HMk w (.slice (some ⟨ob,oo,none⟩) 1 ac2) [⟨32,ys⟩]:=ra
    clear r1 r2 ra d1 d2
    obtain⟨ao4,hao4⟩:∃ x,mslF (some ⟨ob,oo,none⟩) ac2 1=x:=⟨_,rfl⟩
    rw[hao4] at s1 hr1
    have HA4:Hid ((if ac2=1 then some (⟨ob,oo,none⟩:Addr) else some ⟨ob,oo+2,none⟩)=ao4):=(by
     show _=_
     rw[← hao4,mslF]
     split<;>rfl)
    clear hao4
    obtain⟨bo4,hbo4⟩:∃ x,mslF (some ⟨vb,vo,none⟩) bc2 1=x:=⟨_,rfl⟩
    rw[hbo4] at s2 hr2
    have HB:Hid ((if bc2=1 then some (⟨vb,vo,none⟩:Addr) else some ⟨vb,vo+2,none⟩)=bo4):=(by
     show _=_
     rw[← hbo4,mslF]
     split<;>rfl)
    clear hbo4
    rw[Nat.zero_mul,Nat.add_zero] at y1 y2 z1 z2
    obtain⟨r,hr⟩:∃ r,(ys != zs)=r:=⟨_,rfl⟩
    have hne:=Zgg ys zs r hr
    have hg:Tryz.prog.eqGuardType Tryz.prog.depth 47=false:=by kernel_rfl
    clear hmf
    have HLen2:Hid (A2.length+1+o3.length+v3.length≤T):=(by
     have h1:=HLen.out
     have h2:=HAl.out
     simp only[List.length_cons] at h1
     show _≤_
     omega)
    have cl:=fun lv u (hy:Ly w X lv A2 u)=>ZbF 32 [⟨32,ys⟩] A2 w X lv (.slice (some ⟨ob,oo,none⟩) 1 ac2) u hy hra (by simp) (by have:=HLen2.out;omega) (A2++[(⟨32,ys⟩:Mk)]) (by show _=_;rfl)
    have i1:(0:Int)<(L1:Int):=by omega
    have i2:(0:Int)<(L2:Int):=by omega
    go_wp2_with fail
    go_quiet (fail)
    have hye:=hyd.keep (below_drewN (Below.refl _ _) nq)
    clear hyd hYc y1 y2 z1 z2 hne i1 i2 hg f1 f2
    generalize w6.drewN nq=w7 at hye ⊢
    cases r with
    | true =>
     have hne2:ys≠zs:=(by intro e;subst e;simp at hr)
     have HE:Hid (none=Y):=(by
      have h:=HJ2.out
      rw[if_neg hne2] at h
      exact h)
     clear HJ2
     go_wp2
     go_ret2
     exact⟨_,_,rfl,hye.low,by rw[← HE.out]⟩
    | false =>
     have he2:ys=zs:=(by simpa using hr)
     have HE:Hid (thenJ (A2++[⟨32,ys⟩]) (jnX o3 v3)=Y):=(by
      have h:=HJ2.out
      rw[if_pos he2] at h
      show _=_
      rw[← h,← HA.out]
      cases jnX o3 v3 with
      | none=>rfl
      | some l=>simp[thenJ])
     clear HJ2 HF hr
     go_wp2_with fail
     refine (cl _ _ hye).mono ?_
     rintro e w8 ⟨rfl,lv8,hy8⟩
     clear hye cl
     go_wp2_with fail
     go_quiet (fail)
     have hy9:=hy8.keep (below_drewN (Below.refl _ _) nq)
     clear hy8
     go_wp2
     refine⟨⟨o3,v3,lv8,_,ao4,bo4,ac2-1,bc2-1,by first | rfl | rw[HA4.out],by first | rfl | rw[HB.out],hr1,hr2,hy9,⟨HE.out,?_⟩⟩,?_⟩
     ·have h:=HLen2.out
      rw[List.length_append]
      simp only[List.length_singleton]
      omega
     ·have h:=HLen.out.2.1
      simp only[List.length_cons] at h
      simp only[lenW,Zfd]
      omega
end

section
open Go.RowKit
def cntR (a b:Int) (n:Nat):Bool:=decide ((n:Int)=b-a+1) || (decide ((n:Int)=0) && decide (b-a+1=1))
theorem Zbk (x a b:Int) (lo:Option Addr) (n c:Nat) (w:World) (ha:0≤a) (hb:b≤2147483647) (hab:a≤b) (_hn:n≤1099511627776) (r:Bool) (HR:Hid (cntR a b n=r)) :
  Calls Tryz.prog 311 #[.agg #[.int .i64 x,.int .i64 a,.int .i64 b,.slice lo n c]] w fun e w'=>e=.returned (.bool r)∧Below w.heap.size w w':=by
 have hBl:Below w.heap.size w (w.alloc (.cells #[.int .i64 x,.int .i64 a,.int .i64 b,.slice lo n c] 308)):=(Below.refl _ w).alloc (Nat.le_refl _) _
 have HR2:=HR.out
 unfold cntR at HR2
 clear HR
 go_enter Tryz.func311,Tryz.ntmps311
 by_cases h1:(n:Int)=b-a+1
 ·have f1:((n:Int) == b-a+1)=true:=beq_iff_eq.2 h1
  rw[decide_eq_true h1,Bool.true_or] at HR2
  subst HR2
  clear h1
  go_wp2
  go_ret
  exact⟨rfl,hBl⟩
 ·have f1:((n:Int) == b-a+1)=false:=beq_eq_false_iff_ne.2 h1
  rw[decide_eq_false h1,Bool.false_or] at HR2
  clear h1
  by_cases h2:(n:Int)=0
  ·have f2:((n:Int) == 0)=true:=beq_iff_eq.2 h2
   rw[decide_eq_true h2,Bool.true_and] at HR2
   have f3:(b-a+1 == 1)=r:=(by rw[← HR2,Bool.eq_iff_iff,beq_iff_eq,decide_eq_true_eq])
   clear h2 HR2
   go_wp2
   go_ret
   exact⟨rfl,hBl⟩
  ·have f2:((n:Int) == 0)=false:=beq_eq_false_iff_ne.2 h2
   rw[decide_eq_false h2,Bool.false_and] at HR2
   subst HR2
   clear h2
   go_wp2
   go_ret
   exact⟨rfl,hBl⟩
def rgX (r0 r1 z0 z1:Bool) (x0 x1:Int):Option (Int × Int) :=
 if r0=false then some (x0,120) else if r1=false then some (x1,120) else if z0=true then some (x0,2) else if z1=true then some (x1,2) else none
def RgQ (w:World) (Y:Option (Int × Int)) (e:Ending) (w':World):Prop:=Below w.heap.size w w'∧match Y with
 | none=>e=.returned (.tuple #[])
 | some (a,z)=>Thr a z e w'
theorem Zbi (x0 a0 b0 x1 a1 b1:Int) (l0 l1:Option Addr) (n0 c0 n1 c1:Nat) (w:World) (ha0:0≤a0) (hb0:b0≤2147483647) (hab0:a0≤b0) (hn0:n0≤1099511627776) (ha1:0≤a1) (hb1:b1≤2147483647) (hab1:a1≤b1) (hn1:n1≤1099511627776) (Y:Option (Int × Int))
  (HY:Hid (rgX (cntR a0 b0 n0) (cntR a1 b1 n1) (decide (a0=0) && decide (0<n0)) (decide (a1=0) && decide (0<n1)) x0 x1=Y)) :
  Calls Tryz.prog 260 #[.agg #[.int .i64 x0,.int .i64 a0,.int .i64 b0,.slice l0 n0 c0],.agg #[.int .i64 x1,.int .i64 a1,.int .i64 b1,.slice l1 n1 c1]] w fun e w'=>RgQ w Y e w':=by
 obtain⟨r0,hr0⟩:∃ r,cntR a0 b0 n0=r:=⟨_,rfl⟩
 obtain⟨r1,hr1⟩:∃ r,cntR a1 b1 n1=r:=⟨_,rfl⟩
 obtain⟨z0,hz0⟩:∃ r,(decide (a0=0) && decide (0<n0))=r:=⟨_,rfl⟩
 obtain⟨z1,hz1⟩:∃ r,(decide (a1=0) && decide (0<n1))=r:=⟨_,rfl⟩
 rw[hr0,hr1,hz0,hz1] at HY
 have cc0:=fun u=>Zbk x0 a0 b0 l0 n0 c0 u ha0 hb0 hab0 hn0 r0 hr0
 have cc1:=fun u=>Zbk x1 a1 b1 l1 n1 c1 u ha1 hb1 hab1 hn1 r1 hr1
 have hB0:Below w.heap.size w (((w.alloc (.cells #[.int .i64 x0,.int .i64 a0,.int .i64 b0,.slice l0 n0 c0] 308)).alloc (.cells #[.int .i64 x1,.int .i64 a1,.int .i64 b1,.slice l1 n1 c1] 308)).alloc (.cells #[.int .i64 x0,.int .i64 a0,.int .i64 b0,.slice l0 n0 c0,.int .i64 x1,.int .i64 a1,.int .i64 b1,.slice l1 n1 c1] 308)):=(((Below.refl _ w).alloc (Nat.le_refl _) _).alloc (by simp) _).alloc (by simp;omega) _
 have hblk:=heap_alloc_new ((w.alloc (.cells #[.int .i64 x0,.int .i64 a0,.int .i64 b0,.slice l0 n0 c0] 308)).alloc (.cells #[.int .i64 x1,.int .i64 a1,.int .i64 b1,.slice l1 n1 c1] 308)) (.cells #[.int .i64 x0,.int .i64 a0,.int .i64 b0,.slice l0 n0 c0,.int .i64 x1,.int .i64 a1,.int .i64 b1,.slice l1 n1 c1] 308)
 have hsz:((w.alloc (.cells #[.int .i64 x0,.int .i64 a0,.int .i64 b0,.slice l0 n0 c0] 308)).alloc (.cells #[.int .i64 x1,.int .i64 a1,.int .i64 b1,.slice l1 n1 c1] 308)).heap.size=w.heap.size+2:=by simp
 rw[hsz] at hblk
 clear hr0 hr1 hsz
 go_enter Tryz.func260,Tryz.ntmps260
 go_wp2
 generalize ((w.alloc (.cells #[.int .i64 x0,.int .i64 a0,.int .i64 b0,.slice l0 n0 c0] 308)).alloc (.cells #[.int .i64 x1,.int .i64 a1,.int .i64 b1,.slice l1 n1 c1] 308)).alloc (.cells #[.int .i64 x0,.int .i64 a0,.int .i64 b0,.slice l0 n0 c0,.int .i64 x1,.int .i64 a1,.int .i64 b1,.slice l1 n1 c1] 308)=w0 at hB0 hblk ⊢
 go_loopw [14] (fun i wr=>∃ k:Nat,i=.int .i64 k∧(k=0∨k=1∧r0=true∨k=2∧r0=true∧r1=true)∧Below w.heap.size w wr∧wr.heap[w.heap.size+2]?=some (.cells #[.int .i64 x0,.int .i64 a0,.int .i64 b0,.slice l0 n0 c0,.int .i64 x1,.int .i64 a1,.int .i64 b1,.slice l1 n1 c1] 308)) (fun i _=>2-(intOf i).toNat)
 case atStart=>exact⟨0,by go_num,.inl rfl,hB0,hblk⟩
 case round =>
 clear hB0 hblk
 obtain⟨k,rfl,hk,hB,hbl⟩:=hrel
 have hAl:∀ O,Below w.heap.size w (wr.alloc O)∧(wr.alloc O).heap[w.heap.size+2]?=some (.cells #[.int .i64 x0,.int .i64 a0,.int .i64 b0,.slice l0 n0 c0,.int .i64 x1,.int .i64 a1,.int .i64 b1,.slice l1 n1 c1] 308):=fun O=>⟨hB.alloc hB.size _,(((Below.refl _ wr).alloc (Nat.le_refl _) O).block _ (Array.getElem?_eq_some_iff.1 hbl).1).trans hbl⟩
 rcases hk with rfl | ⟨rfl,h0⟩ | ⟨rfl,h0,h1⟩
 ·have e0:wr.cell? ⟨w.heap.size+2,0,none⟩=some (.int .i64 x0):=(by rw[Lib.cell_of_heap hbl];rfl)
  have e1:wr.cell? ⟨w.heap.size+2,1,none⟩=some (.int .i64 a0):=(by rw[Lib.cell_of_heap hbl];rfl)
  have e2:wr.cell? ⟨w.heap.size+2,2,none⟩=some (.int .i64 b0):=(by rw[Lib.cell_of_heap hbl];rfl)
  have e3:wr.cell? ⟨w.heap.size+2,3,none⟩=some (.slice l0 n0 c0):=(by rw[Lib.cell_of_heap hbl];rfl)
  obtain⟨hB1,hb1⟩:=hAl (.cells #[.int .i64 x0,.int .i64 a0,.int .i64 b0,.slice l0 n0 c0] 308)
  clear hAl hB hbl
  go_wp2_with fail
  refine (cc0 _).mono ?_
  rintro e w2 ⟨rfl,hC⟩
  have hB2:=hB1.trans (hC.mono hB1.size)
  have hb2:=(hC.block _ (Array.getElem?_eq_some_iff.1 hb1).1).trans hb1
  have e4:w2.cell? ⟨wr.heap.size,0,none⟩=some (.int .i64 x0):=(by rw[World.cell?_of_block (hC.block wr.heap.size (by simp))];simp)
  clear hC hB1 hb1
  cases r0 with
  | false =>
   have HE:Hid (some (x0,120)=Y):=HY
   go_wp2_with fail
   refine (Zcl x0 120 w2).mono ?_
   rintro e w3 ⟨⟨g,rfl,hg⟩,hC⟩
   go_wp2
   exact⟨rfl,hB2.trans (hC.mono hB2.size),by rw[← HE.out];exact⟨_,rfl,hg⟩⟩
  | true =>
   go_wp2
   exact⟨⟨1,by go_num,.inr (.inl ⟨rfl,trivial⟩),hB2,hb2⟩,by simp[intOf]⟩
 ·have e0:wr.cell? ⟨w.heap.size+2,4,none⟩=some (.int .i64 x1):=(by rw[Lib.cell_of_heap hbl];rfl)
  have e1:wr.cell? ⟨w.heap.size+2,5,none⟩=some (.int .i64 a1):=(by rw[Lib.cell_of_heap hbl];rfl)
  have e2:wr.cell? ⟨w.heap.size+2,6,none⟩=some (.int .i64 b1):=(by rw[Lib.cell_of_heap hbl];rfl)
  have e3:wr.cell? ⟨w.heap.size+2,7,none⟩=some (.slice l1 n1 c1):=(by rw[Lib.cell_of_heap hbl];rfl)
  obtain⟨hB1,hb1⟩:=hAl (.cells #[.int .i64 x1,.int .i64 a1,.int .i64 b1,.slice l1 n1 c1] 308)
  clear hAl hB hbl
  go_wp2_with fail
  refine (cc1 _).mono ?_
  rintro e w2 ⟨rfl,hC⟩
  have hB2:=hB1.trans (hC.mono hB1.size)
  have hb2:=(hC.block _ (Array.getElem?_eq_some_iff.1 hb1).1).trans hb1
  have e4:w2.cell? ⟨wr.heap.size,0,none⟩=some (.int .i64 x1):=(by rw[World.cell?_of_block (hC.block wr.heap.size (by simp))];simp)
  clear hC hB1 hb1
  cases r1 with
  | false =>
   have HE:Hid (some (x1,120)=Y):=(by have:=HY.out;rw[h0] at this;exact this)
   go_wp2_with fail
   refine (Zcl x1 120 w2).mono ?_
   rintro e w3 ⟨⟨g,rfl,hg⟩,hC⟩
   go_wp2
   exact⟨rfl,hB2.trans (hC.mono hB2.size),by rw[← HE.out];exact⟨_,rfl,hg⟩⟩
  | true =>
   go_wp2
   exact⟨⟨2,by go_num,.inr (.inr ⟨rfl,h0,trivial⟩),hB2,hb2⟩,by simp[intOf]⟩
 ·have HY2:Hid ((if z0=true then some (x0,2) else if z1=true then some (x1,2) else none)=Y):=(by have:=HY.out;rw[h0,h1] at this;exact this)
  clear HY h0 h1 hAl cc0 cc1
  go_wp2
  go_loopw [27] (fun i wr=>∃ k:Nat,i=.int .i64 k∧(k=0∨k=1∧z0=false∨k=2∧z0=false∧z1=false)∧Below w.heap.size w wr∧wr.heap[w.heap.size+2]?=some (.cells #[.int .i64 x0,.int .i64 a0,.int .i64 b0,.slice l0 n0 c0,.int .i64 x1,.int .i64 a1,.int .i64 b1,.slice l1 n1 c1] 308)) (fun i _=>2-(intOf i).toNat)
  case atStart=>exact⟨0,by go_num,.inl rfl,hB,hbl⟩
  case round =>
  clear hB hbl
  obtain⟨k,rfl,hk,hB,hbl⟩:=hrel
  have hAl:∀ O,Below w.heap.size w (wr.alloc O)∧(wr.alloc O).heap[w.heap.size+2]?=some (.cells #[.int .i64 x0,.int .i64 a0,.int .i64 b0,.slice l0 n0 c0,.int .i64 x1,.int .i64 a1,.int .i64 b1,.slice l1 n1 c1] 308):=fun O=>⟨hB.alloc hB.size _,(((Below.refl _ wr).alloc (Nat.le_refl _) O).block _ (Array.getElem?_eq_some_iff.1 hbl).1).trans hbl⟩
  rcases hk with rfl | ⟨rfl,h0⟩ | ⟨rfl,h0,h1⟩
  ·have e0:wr.cell? ⟨w.heap.size+2,0,none⟩=some (.int .i64 x0):=(by rw[Lib.cell_of_heap hbl];rfl)
   have e1:wr.cell? ⟨w.heap.size+2,1,none⟩=some (.int .i64 a0):=(by rw[Lib.cell_of_heap hbl];rfl)
   have e2:wr.cell? ⟨w.heap.size+2,2,none⟩=some (.int .i64 b0):=(by rw[Lib.cell_of_heap hbl];rfl)
   have e3:wr.cell? ⟨w.heap.size+2,3,none⟩=some (.slice l0 n0 c0):=(by rw[Lib.cell_of_heap hbl];rfl)
   obtain⟨hB1,hb1⟩:=hAl (.cells #[.int .i64 x0,.int .i64 a0,.int .i64 b0,.slice l0 n0 c0] 308)
   clear hAl hB hbl
   by_cases q1:a0=0
   ·have f1:(a0 == 0)=true:=beq_iff_eq.2 q1
    by_cases q2:0<n0
    ·have H:z0=true:=(by rw[← hz0,decide_eq_true q1,decide_eq_true q2];rfl)
     have f2:decide ((0:Int)<(n0:Int))=true:=decide_eq_true (by omega)
     have f3:(0:Int)<(n0:Int):=by omega
     have HE:Hid (some (x0,2)=Y):=(by have:=HY2.out;rw[H] at this;exact this)
     clear q1 q2 hz0 hz1 H
     go_wp2_with fail
     refine (Zcl x0 2 _).mono ?_
     rintro e w3 ⟨⟨g,rfl,hg⟩,hC⟩
     go_wp2
     exact⟨rfl,hB1.trans (hC.mono hB1.size),by rw[← HE.out];exact⟨_,rfl,hg⟩⟩
    ·have H:z0=false:=(by rw[← hz0,decide_eq_true q1,decide_eq_false q2];rfl)
     have f2:decide ((0:Int)<(n0:Int))=false:=decide_eq_false (by omega)
     have f3:¬ (0:Int)<(n0:Int):=by omega
     have HN:Hid (z0=false):=H
     clear q1 q2 hz0 hz1 H
     go_wp2
     have H:=HN.out
     exact⟨⟨1,by go_num,.inr (.inl ⟨rfl,H⟩),hB1,hb1⟩,by simp[intOf]⟩
   ·have f1:(a0 == 0)=false:=beq_eq_false_iff_ne.2 q1
    have HN:Hid (z0=false):=(by show _=_;rw[← hz0,decide_eq_false q1,Bool.false_and])
    clear q1 hz0 hz1
    go_wp2
    have H:=HN.out
    exact⟨⟨1,by go_num,.inr (.inl ⟨rfl,H⟩),hB1,hb1⟩,by simp[intOf]⟩
  ·have e0:wr.cell? ⟨w.heap.size+2,4,none⟩=some (.int .i64 x1):=(by rw[Lib.cell_of_heap hbl];rfl)
   have e1:wr.cell? ⟨w.heap.size+2,5,none⟩=some (.int .i64 a1):=(by rw[Lib.cell_of_heap hbl];rfl)
   have e2:wr.cell? ⟨w.heap.size+2,6,none⟩=some (.int .i64 b1):=(by rw[Lib.cell_of_heap hbl];rfl)
   have e3:wr.cell? ⟨w.heap.size+2,7,none⟩=some (.slice l1 n1 c1):=(by rw[Lib.cell_of_heap hbl];rfl)
   obtain⟨hB1,hb1⟩:=hAl (.cells #[.int .i64 x1,.int .i64 a1,.int .i64 b1,.slice l1 n1 c1] 308)
   clear hAl hB hbl
   by_cases q1:a1=0
   ·have f1:(a1 == 0)=true:=beq_iff_eq.2 q1
    by_cases q2:0<n1
    ·have H:z1=true:=(by rw[← hz1,decide_eq_true q1,decide_eq_true q2];rfl)
     have f2:decide ((0:Int)<(n1:Int))=true:=decide_eq_true (by omega)
     have f3:(0:Int)<(n1:Int):=by omega
     have HE:Hid (some (x1,2)=Y):=(by have:=HY2.out;rw[h0,H] at this;exact this)
     clear q1 q2 hz0 hz1 H
     go_wp2_with fail
     refine (Zcl x1 2 _).mono ?_
     rintro e w3 ⟨⟨g,rfl,hg⟩,hC⟩
     go_wp2
     exact⟨rfl,hB1.trans (hC.mono hB1.size),by rw[← HE.out];exact⟨_,rfl,hg⟩⟩
    ·have H:z1=false:=(by rw[← hz1,decide_eq_true q1,decide_eq_false q2];rfl)
     have f2:decide ((0:Int)<(n1:Int))=false:=decide_eq_false (by omega)
     have f3:¬ (0:Int)<(n1:Int):=by omega
     have HN:Hid (z1=false):=H
     clear q1 q2 hz0 hz1 H
     go_wp2
     have H:=HN.out
     exact⟨⟨2,by go_num,.inr (.inr ⟨rfl,h0,H⟩),hB1,hb1⟩,by simp[intOf]⟩
   ·have f1:(a1 == 0)=false:=beq_eq_false_iff_ne.2 q1
    have HN:Hid (z1=false):=(by show _=_;rw[← hz1,decide_eq_false q1,Bool.false_and])
    clear q1 hz0 hz1
    go_wp2
    have H:=HN.out
    exact⟨⟨2,by go_num,.inr (.inr ⟨rfl,h0,H⟩),hB1,hb1⟩,by simp[intOf]⟩
  ·have HE:Hid (none=Y):=(by have:=HY2.out;rw[h0,h1] at this;exact this)
   clear hz0 hz1 hAl
   go_wp2
   first
    | go_end0
    | refine bodyPost_ret (results_none rfl _ _ _) rfl ?_
    | refine bodyPost_end (results_none rfl _ _ _) rfl ?_
   exact⟨hB,by rw[← HE.out]⟩
end

section
open Go.RowKit
def rngC (e:UInt8) (p:Nat) (ls:List (List UInt8)):Except (Nat × Int) ((Int × Int) × List (List UInt8)) :=
 match barP [e,e,e,32] p ls with
 | .error x=>.error x
 | .ok (s,r)=>if Lib.hasSuffix s [32,e,e,e,e]=true then match nmC (s.take (s.length-5)) with
  | none=>.error (p+1,3)
  | some q=>.ok (q,r) else .error (p+1,3)
theorem Zjv (e:UInt8) (p:Nat) (ls:List (List UInt8)):rngP e p ls=match rngC e p ls with
  | .error x=>.error x
  | .ok (q,r)=>.ok (sayC q,r):=by
 unfold rngP rngC barP
 cases nxt p ls with
 | error x=>rfl
 | ok z =>
  obtain⟨s,r⟩:=z
  dsimp only
  rw[ZeJ]
  by_cases h1:[e,e,e,32].isPrefixOf s=true
  ·rw[if_pos h1,if_pos h1]
   have e4:([e,e,e,32]:List UInt8).length=4:=rfl
   rw[e4]
   dsimp only
   by_cases h2:Lib.hasSuffix (s.drop 4) [32,e,e,e,e]=true
   ·rw[if_pos h2,if_pos h2]
    dsimp only
    rw[Zjw]
    cases nmC ((s.drop 4).take ((s.drop 4).length-5))<;>rfl
   ·rw[if_neg h2,if_neg h2]
  ·rw[if_neg h1,if_neg h1]
def sidX (e sg:UInt8) (p:Nat) (ls:List (List UInt8)):Except (Nat × Int) ((Int × Int) × List Mk × Nat × List (List UInt8)) :=
 match rngC e p ls with
 | .error x=>.error x
 | .ok (q,r)=>match sdE sg (p+1) r with
  | .error x=>.error x
  | .ok (l,p1,r1)=>.ok (q,l,p1,r1)
theorem ZiZ {sg:UInt8} {p:Nat} {L:List (List UInt8)} (h:∀ h:p<L.length,isSd sg L[p]=false):rdC sg p (L.drop p)=.ok ([],p,L.drop p):=by
 by_cases hp:p<L.length
 ·rw[List.drop_eq_getElem_cons hp]
  simp only[rdC]
  rw[if_neg (by rw[h hp];decide)]
 ·rw[List.drop_eq_nil_of_le (by omega)]
  simp only[rdC]
theorem ZiX {sg:UInt8} {p:Nat} {L:List (List UInt8)} (hp:p<L.length) (h:isSd sg L[p]=true) (m:List Mk):thenL m (rdC sg p (L.drop p))=if fdB L[p]=true then thenL (m++[⟨((L[p].headD 0).toNat:Int),L[p].drop 2⟩]) (rdC sg (p+1) (L.drop (p+1))) else .error (p+1,3):=by
 rw[List.drop_eq_getElem_cons hp]
 simp only[rdC]
 rw[if_pos h]
 split
 ·cases rdC sg (p+1) (L.drop (p+1)) with
  | error e=>rfl
  | ok z=>simp[thenL]
 ·rfl
theorem Zhl {p:Nat} {L:List (List UInt8)} (hp:p<L.length):nxt p (L.drop p)=if fdB L[p]=true then .ok (L[p].dropLast,L.drop (p+1)) else .error (p+1,3):=by
 rw[List.drop_eq_getElem_cons hp]
 rfl
def Fx (m:List Mk):Prop:=∀ x∈m,fdB x.tx=true∧x.tx.length≤1099511627776
theorem ZjZ {sg:UInt8} {s:List UInt8} (h:isSd sg s=true) (hf:fdB s=true):∃ a b c t,s=a::b::c::t∧fdB (c::t)=true:=by
 match s,h,hf with
 | [a,b],h,hf =>
  simp only[isSd,Bool.and_eq_true,beq_iff_eq] at h
  obtain⟨_,rfl⟩:=h
  exact absurd hf (by simp[fdB])
 | a::b::c::t,_,hf =>
  refine⟨a,b,c,t,rfl,?_⟩
  simpa [fdB] using hf
structure Sxc (w:World) (R S:Nat) (vL:Value) (x a b:Int) (v:Value) (m:List Mk) (p:Nat) (u:World):Prop where
 gr:w.grownBy u (some R)
 box:u.heap[S]?=some (.cells #[.int .i64 x,.int .i64 a,.int .i64 b,v] 308)
 own:u.ownsRow w.heap.size 47 2 v m.length (mkcells m)
 ck:Ck u R vL (p:Int)
 ge:w.heap.size≤S
 rl:R<w.heap.size
 nil:m=[]→v=.slice none 0 0
section
variable {w u u':World} {R S:Nat} {vL v:Value} {x a b:Int} {m:List Mk} {p:Nat}
theorem Sxc.keep (h:Sxc w R S vL x a b v m p u) (hb:Below u.heap.size u u'):Sxc w R S vL x a b v m p u':=⟨ZdT h.gr (ZfO hb _),(hb.block S (Array.getElem?_eq_some_iff.1 h.box).1).trans h.box,ZhK h.own hb,h.ck.low hb,h.ge,h.rl,h.nil⟩
theorem Sxc.cells (h:Sxc w R S vL x a b v m p u):u.cell? ⟨S,0,none⟩=some (.int .i64 x)∧u.cell? ⟨S,1,none⟩=some (.int .i64 a)∧u.cell? ⟨S,2,none⟩=some (.int .i64 b)∧u.cell? ⟨S,3,none⟩=some v:=by
 refine⟨?_,?_,?_,?_⟩<;>rw[Lib.cell_of_heap h.box]<;>rfl
theorem Sxc.frozen (h:Sxc w R S vL x a b v m p u) (j:Nat):u.frozen? ⟨S,j,none⟩=false:=Lib.frozen_of_heap h.box j
theorem Sxc.ne (h:Sxc w R S vL x a b v m p u):R≠S:=by have h1:=h.ge;have h2:=h.rl;omega
theorem Sxc.next (h:Sxc w R S vL x a b v m p u):Sxc w R S vL x a b v m (p+1) (u.setCell ⟨R,1,none⟩ (.int .i64 ((p:Int)+1))):=by
 have hg:=ZdS u R 1 (.int .i64 ((p:Int)+1))
 exact⟨ZdT h.gr hg,(hg.block S (Array.getElem?_eq_some_iff.1 h.box).1 (fun e=>h.ne (Option.some.inj e).symm)).trans h.box,ZhI h.own hg h.rl,by have:=h.ck.at ((p:Int)+1);simpa using this,h.ge,h.rl,h.nil⟩
theorem Sxc.more (h:Sxc w R S vL x a b v m p u) {y:Mk} {v':Value} {n:Nat} (hg:u.grownBy u' v.ownBlock) (ho:u'.ownsRow w.heap.size 47 2 v' n (mkcells (m++[y]))) (hn:n=(m++[y]).length):Sxc w R S vL x a b v' (m++[y]) p (u'.setCell ⟨S,3,none⟩ v')∧u'.heap[S]?=some (.cells #[.int .i64 x,.int .i64 a,.int .i64 b,v] 308):=by
 subst hn
 have hb:u'.heap[S]?=some (.cells #[.int .i64 x,.int .i64 a,.int .i64 b,v] 308):=(hg.block S (Array.getElem?_eq_some_iff.1 h.box).1 (fun e=>ZhE h.own h.box (by decide) e.symm)).trans h.box
 have hgR:w.grownBy u' (some R):=⟨hg.os.trans h.gr.os,hg.tape.trans h.gr.tape,hg.output.trans h.gr.output,Nat.le_trans h.gr.size hg.size,fun k h1 h2=>(hg.block k (Nat.lt_of_lt_of_le h1 h.gr.size) (fun e=>by have:=ZhJ h.own e.symm;omega)).trans (h.gr.block k h1 h2)⟩
 have hg2:=ZdS u' S 3 v'
 have hck:Ck u' R vL (p:Int):=h.ck.keep hg (fun e=>by have:=ZhJ h.own e.symm;have:=h.rl;omega)
 refine⟨⟨⟨hg2.os.trans hgR.os,hg2.tape.trans hgR.tape,hg2.output.trans hgR.output,Nat.le_trans hgR.size hg2.size,fun k h1 h2=>(hg2.block k (Nat.lt_of_lt_of_le h1 hgR.size) (fun e=>by cases e;have:=h.ge;omega)).trans (hgR.block k h1 h2)⟩,heap_setCell_same u' S 3 _ _ v' hb,?_,hck.keep hg2 (fun e=>h.ne (Option.some.inj e)),h.ge,h.rl,fun e=>by simp at e⟩,hb⟩
 refine⟨ho.1,?_⟩
 rcases ho.2 with q | ⟨g,cap,cur,rfl,q2,q3,q4⟩
 ·exact .inl q
 ·refine .inr ⟨g,cap,cur,rfl,q2,?_,q4⟩
  rw[hg2.block g (Array.getElem?_eq_some_iff.1 q3).1 (fun e=>by
   cases e
   rw[hb] at q3
   simp at q3)]
  exact q3
end
def SdX (R:Nat) (vL:Value) (p:Nat) (X:Except (Nat × Int) ((Int × Int) × List Mk × Nat × List (List UInt8))) (w:World) (e:Ending) (w':World):Prop :=
 match X with
 | .error (a,z)=>Thr (a:Int) z e w'∧w.grownBy w' (some R)
 | .ok (q,l,p1,_)=>∃ v',e=.returned (.agg #[.int .i64 ((p:Int)+1),.int .i64 q.1,.int .i64 q.2,v'])∧w'.ownsRow w.heap.size 47 2 v' l.length (mkcells l)∧(l=[]→v'=.slice none 0 0)∧Ck w' R vL (p1:Int)∧w.grownBy w' (some R)
end

end Go.Proofs.YtcniomgjikienaaGreatDoor
