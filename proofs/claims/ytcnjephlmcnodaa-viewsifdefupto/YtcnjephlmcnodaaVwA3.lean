/-
  Texts that belong together, joined: LnShelf, LnMath, HuLm, Math, PMath, BackMath, NoMath, NoB, ViMath, NoM2, NoM3, NoM4, CxMath, CxM2, CxM3, CxM4, CxM5, ViM2, ViM3, NoJn, NoTx, NoRf, NoCg, ViR, ViS, CwA, Copy, CwB, VcX, ViU, NpS, ViV, ViW, VcT.
-/
import Derived.Test.YtcnjephlmcnodaaProg
import Derived.Lib.Bytealg
import Derived.Lib.Join
import Derived.Test.YtcnjephlmcnodaaVwA2
import Derived.Lib.ItoaNum
import Derived.Test.YtcnjephlmcnodaaVwA1
import Derived.Laws.IdiomStrings
import Derived.Deep.RegionHeld3
import Derived.Deep.CutBlock
import Derived.Deep.DeepCutAuto
import Derived.Lib.FrozenHead2
import Derived.Shelf.Strings.Builder1
import Derived.WalkKit
import Derived.WalkSpells
import Derived.WalkLawsBesides
import Derived.BigQuiet

set_option maxHeartbeats 16000000
set_option maxRecDepth 100000
/- Nothing of the library is wanted here. -/
namespace Go.Proofs.Ytcnjephlmcnodaa
end Go.Proofs.Ytcnjephlmcnodaa

namespace Go.Proofs.Ytcnjephlmcnodaa.Ln

section
open Go
def feedB (s:List UInt8):Bool:=s.getLast? == some 10
def bareL (s:List UInt8):List UInt8:=if feedB s then s.dropLast else s
end

end Go.Proofs.Ytcnjephlmcnodaa.Ln

namespace Go.Proofs.Ytcnjephlmcnodaa

section
open Ln
end

end Go.Proofs.Ytcnjephlmcnodaa

namespace Go.Proofs.Ytcnjephlmcnodaa.Q

section
def plainI (n:Int):Bool:=decide (32≤n∧n≤126∧n≠34∧n≠92)
def hexl:List UInt8:=[48,49,50,51,52,53,54,55,56,57,97,98,99,100,101,102]
def hexc (n:Nat):UInt8:=hexl.getD n 0
def q1 (c:UInt8):List UInt8:=if plainI c.toNat then [c] else [92,hexc (c.toNat / 16),hexc (c.toNat % 16)]
end

end Go.Proofs.Ytcnjephlmcnodaa.Q

/- Plain facts on the texts of numbers: nothing of a program. -/
namespace Go.Proofs.Ytcnjephlmcnodaa.Pn
end Go.Proofs.Ytcnjephlmcnodaa.Pn

namespace Go.Proofs.Ytcnjephlmcnodaa

section
open Q Pn
end

section
open Ln
end

section
open Go.RowKit
attribute [local go_sem] ByteArray.extract_mk
theorem Zbn (l:List UInt8) (k:Nat) (h:k<(⟨l.toArray⟩:ByteArray).size):(⟨l.toArray⟩:ByteArray)[k]'h=l[k]'(h):=rfl
attribute [local go_sem] Zbn
def bareT (s:List UInt8):List UInt8:=if fdB s=true then s.dropLast else s
theorem Zaj {l:List UInt8} (h0:0<l.length) (h:l[l.length-1]=10):bareT l=l.take (l.length-1)∧fdB l=true:=by
 have hf:fdB l=true:=by unfold fdB;rw[List.getLast?_eq_getElem?,List.getElem?_eq_getElem (by omega),h];rfl
 exact⟨by rw[bareT,hf,List.dropLast_eq_take];rfl,hf⟩
theorem Zai {l:List UInt8} (h0:0<l.length) (h:l[l.length-1]≠10):bareT l=l∧fdB l=false:=by
 have hf:fdB l=false:=by unfold fdB;rw[List.getLast?_eq_getElem?,List.getElem?_eq_getElem (by omega)];simpa using h
 exact⟨by rw[bareT,hf];rfl,hf⟩
theorem Zbu (l:List UInt8) (w:World) (hl:l.length≤9223372036854775807) :
  Calls Try.prog 26 #[.string ⟨l.toArray⟩] w fun e w'=>e=.returned (.tuple #[.string ⟨(bareT l).toArray⟩,.bool (fdB l)])∧w=w':=by
 rcases Nat.eq_zero_or_pos l.length with h0 | h0
 ·obtain rfl:=List.eq_nil_of_length_eq_zero h0
  go_enter Try.func26,Try.ntmps26
  go_wp2
  go_ret2
  exact⟨rfl,rfl⟩
 ·have hn:((l.length:Int) == 0)=false:=beq_eq_false_iff_ne.2 (by omega)
  have hi:(((l.length:Int)-1).toNat)=l.length-1:=by omega
  have i1:0≤(l.length:Int)-1:=by omega
  have i2:(l.length:Int)-1<(l.length:Int):=by omega
  have i3:(l.length:Int)-1≤(l.length:Int):=by omega
  by_cases h:l[l.length-1]=10
  ·obtain⟨e1,e2⟩:=Zaj h0 h
   rw[e1,e2]
   have hb:((l[l.length-1].toNat:Int) != 10)=false:=by rw[h];rfl
   go_enter Try.func26,Try.ntmps26
   go_wp2
   go_ret2
   exact⟨rfl,rfl⟩
  ·obtain⟨e1,e2⟩:=Zai h0 h
   rw[e1,e2]
   have hb:((l[l.length-1].toNat:Int) != 10)=true:=(by
    rw[bne_iff_ne]
    intro hq
    exact h (UInt8.toNat_inj.1 (by show _=10;omega)))
   go_enter Try.func26,Try.ntmps26
   go_wp2
   go_ret2
   exact⟨rfl,rfl⟩
end

section
open Ln
def wlL (l:List (List UInt8)):List (List UInt8):=l.map fun s=>bareT s++[10]
def cmT (nm:List UInt8):Nat→List UInt8
 | 1=>[35,105,102,100,101,102,32]++(nm++[10])
 | 2=>[35,105,102,110,100,101,102,32]++(nm++[10])
 | 3=>[35,101,108,115,101,32,47,42,32]++(nm++[32,42,47,10])
 | 4=>[35,101,110,100,105,102,32,47,42,32]++(nm++[32,42,47,10])
 | _=>[35,101,110,100,105,102,32,47,42,32,33,32]++(nm++[32,42,47,10])
def ifC (nm:List UInt8) (o w:List (List UInt8)):List (List UInt8) :=
 if o=[]∧w=[] then [] else if w=[] then cmT nm 2::(wlL o++[cmT nm 5]) else if o=[] then cmT nm 1::(wlL w++[cmT nm 4])
 else cmT nm 2::(wlL o++cmT nm 3::(wlL w++[cmT nm 4]))
def ifP (nm:List UInt8) (A B:List (List UInt8)) (x:Rn × Ch):List (List UInt8):=wlL (cut A x.1.a x.1.n)++ifC nm (cut A x.2.A x.2.AN) (cut B x.2.B x.2.BN)
def ifL (nm:List UInt8) (l:List Ch) (A B:List (List UInt8)):List (List UInt8):=(piecesL 0 0 A.length B.length l).flatMap (ifP nm A B)
def ltB (c:UInt8):Bool:=(decide (97≤c.toNat) && decide (c.toNat≤122)) || (decide (65≤c.toNat) && decide (c.toNat≤90)) || c == 95
def dgB (c:UInt8):Bool:=decide (48≤c.toNat) && decide (c.toNat≤57)
def cnB (s:List UInt8):Bool:=match s with
 | []=>false
 | c::t=>decide (s.length≤64) && ltB c && t.all fun x=>ltB x || dgB x
/- the five commands are five -/
end

section
open Ln
def Rows:List (List UInt8)→Prop
 | []=>True
 | x::r=>linB x=true∧(r≠[]→fdB x=true)∧Rows r
end

section
open Ln
end

section
open Ln
end

section
open Ln
structure Pth where
 old:List UInt8
 new:List UInt8
 hs:List Hk
/- names -/
/- ranges -/
end

section
open Ln
end

section
open Ln
end

section
open Ln
structure Gh (h:Hk):Prop where
 chk:chkH h=0
 nf:Nf false h.ls
 ea:2≤h.AN→h.A+h.AN-1≤2147483647
 eb:2≤h.BN→h.B+h.BN-1≤2147483647
end

section
open Ln
structure Gp (p:Pth):Prop where
 ne:p.hs≠[]
 old:p.old.length≤64
 new:p.new.length≤64
 few:p.hs.length≤4096
 gd:∀ h∈p.hs,Gh h
end

section
open Ln
theorem ZaC {nm:List UInt8} (h:cnB nm=true):∀ c∈nm,c≠10:=by
 cases nm with
 | nil=>cases h
 | cons c t =>
  simp only[cnB,Bool.and_eq_true,List.all_eq_true] at h
  intro x hx e
  subst e
  rcases List.mem_cons.1 hx with hx | hx
  ·rw[← hx] at h
   exact absurd h.1.2 (by decide)
  ·exact absurd (h.2 _ hx) (by decide)
/- rows -/
end

section
open Ln
end

section
theorem Zah (a b:List UInt8):((⟨a.toArray⟩:ByteArray)++(⟨b.toArray⟩:ByteArray))=⟨(a++b).toArray⟩:=by
 apply ByteArray.ext
 simp
end

section
open Go.RowKit
end

section
open Go.RowKit
attribute [local go_sem] ByteArray.extract_mk Zbn
end

section
open Go.RowKit
def Fits (x y:List UInt8):Prop:=x.length+y.length≤4611686018427387904
theorem Zad {x y:List UInt8} (h:Fits x y) (P:Program) (u:World):(Op.stringOp .add ⟨x.toArray⟩ ⟨y.toArray⟩).run P u=.ok (.string ⟨(x++y).toArray⟩) u:=by
 unfold Fits at h
 have e:¬ (((⟨x.toArray⟩:ByteArray).size+(⟨y.toArray⟩:ByteArray).size:Nat):Int) > IntKind.i64.max:=by
  have h1:(⟨x.toArray⟩:ByteArray).size=x.length:=rfl
  have h2:(⟨y.toArray⟩:ByteArray).size=y.length:=rfl
  have h3:IntKind.i64.max=9223372036854775807:=rfl
  rw[h1,h2,h3]
  omega
 unfold Op.stringOp
 dsimp only
 rw[if_neg e,Zah]
 rfl
structure Cs (c:Ch) (b:Nat) (W w:World):Prop where
 c0:w.cell? ⟨b,0,none⟩=some (.int .i64 c.A)
 c1:w.cell? ⟨b,1,none⟩=some (.int .i64 c.AN)
 c2:w.cell? ⟨b,2,none⟩=some (.int .i64 c.B)
 c3:w.cell? ⟨b,3,none⟩=some (.int .i64 c.BN)
 lt:b<w.heap.size
 low:Below W.heap.size W w
theorem Cs.keep {c:Ch} {b:Nat} {W w w':World} (h:Cs c b W w) (hb:Below w.heap.size w w'):Cs c b W w':=by
 have hk:∀ o,w'.cell? ⟨b,o,none⟩=w.cell? ⟨b,o,none⟩:=fun o=>by
  unfold World.cell?
  dsimp only
  rw[hb.block b h.lt]
 exact⟨(hk 0).trans h.c0,(hk 1).trans h.c1,(hk 2).trans h.c2,(hk 3).trans h.c3,Nat.lt_of_lt_of_le h.lt hb.size,h.low.trans (hb.mono h.low.size)⟩
theorem ZaE (c:Ch) (b:Nat) (W w:World):Cs c b W w.drew↔Cs c b W w:=⟨fun h=>⟨h.c0,h.c1,h.c2,h.c3,h.lt,(h.low.trans ⟨rfl,rfl,rfl,Nat.le_refl _,fun _ _=>rfl⟩:Below W.heap.size W w)⟩,fun h=>⟨h.c0,h.c1,h.c2,h.c3,h.lt,h.low.drew⟩⟩
attribute [local simp] ZaE
theorem Cs.fresh (c:Ch) (w:World):Cs c w.heap.size w (w.alloc (.cells #[.int .i64 c.A,.int .i64 c.AN,.int .i64 c.B,.int .i64 c.BN] 48)):=by
 have h:=heap_alloc_new w (.cells #[.int .i64 c.A,.int .i64 c.AN,.int .i64 c.B,.int .i64 c.BN] 48)
 have hk:∀ o,(w.alloc (.cells #[.int .i64 c.A,.int .i64 c.AN,.int .i64 c.B,.int .i64 c.BN] 48)).cell? ⟨w.heap.size,o,none⟩=(#[Value.int .i64 c.A,.int .i64 c.AN,.int .i64 c.B,.int .i64 c.BN])[o]?:=fun o=>by
  unfold World.cell?
  dsimp only
  rw[h]
  rfl
 exact⟨hk 0,hk 1,hk 2,hk 3,by rw[World.alloc];simp,(Below.refl _ w).alloc (Nat.le_refl _) _⟩
end

section
open Go.RowKit Go.Proofs.Ytcnjephlmcnodaa.Tx
attribute [local go_sem] ByteArray.extract_mk Zbn
end

section
open Go.RowKit Go.Proofs.Ytcnjephlmcnodaa.Tx
attribute [local go_sem] Zbn
def ltI (n:Int):Bool:=decide (97≤n∧n≤122∨65≤n∧n≤90∨n=95)
theorem Zbg (c:UInt8):ltI c.toNat=ltB c:=by
 unfold ltI ltB
 rw[Bool.eq_iff_iff]
 have:(c == 95)=decide (c.toNat=95):=by
  rw[Bool.eq_iff_iff,beq_iff_eq,decide_eq_true_eq]
  constructor
  ·rintro rfl;rfl
  ·intro h;exact UInt8.toNat_inj.1 h
 rw[this]
 simp only[decide_eq_true_eq,Bool.or_eq_true,Bool.and_eq_true]
 omega
theorem Zby (n:Int) (w:World) :
  Calls Try.prog 25 #[.int .u8 n] w fun e w'=>e=.returned (.bool (ltI n))∧w=w':=by
 go_enter Try.func25,Try.ntmps25
 go_wp2
 all_goals go_ret
 all_goals exact⟨ret_bool (by rw[Bool.eq_iff_iff];simp[ltI];omega),rfl⟩
theorem Zbz {n:Int} {b:Bool} (h:ltI n=b) (w:World) :
  Calls Try.prog 25 #[.int .u8 n] w fun e w'=>e=.returned (.bool b)∧w=w':=by
 subst h
 exact Zby n w
def nmK:Nat→List UInt8→Bool
 | _,[]=>true
 | k,c::t=>(ltB c || (decide (k≠0) && dgB c)) && nmK (k+1) t
theorem Zbl (t:List UInt8):∀ k:Nat,0<k→nmK k t=t.all fun x=>ltB x || dgB x:=by
 induction t with
 | nil=>intro k _;rfl
 | cons c t ih =>
  intro k hk
  rw[nmK,ih (k+1) (by omega),List.all_cons,decide_eq_true (show k≠0 by omega),Bool.true_and]
theorem Zay (l:List UInt8):cnB l=(decide (l.length≠0∧l.length≤64) && nmK 0 l):=by
 cases l with
 | nil=>rfl
 | cons c t =>
  unfold cnB
  rw[nmK,Zbl t 1 (by omega)]
  simp[Bool.and_assoc]
theorem Zbm {l:List UInt8} {k:Nat} (hk:k<l.length):nmK k (l.drop k)=((ltB l[k] || (decide (k≠0) && dgB l[k])) && nmK (k+1) (l.drop (k+1))):=by
 rw[List.drop_eq_getElem_cons hk,nmK]
theorem Zbw (l:List UInt8) (w:World) (b:Bool) (HB:Hid (cnB l=b)) :
  Calls Try.prog 17 #[.string ⟨l.toArray⟩] w fun e w'=>e=.returned (.bool b)∧w'=w:=by
 have HB2:Hid ((decide (l.length≠0∧l.length≤64) && nmK 0 l)=b):=(by show _=_;rw[← Zay];exact HB.out)
 clear HB
 by_cases h0:l.length=0
 ·have HE:Hid (false=b):=(by show _=_;rw[← HB2.out,decide_eq_false (fun q=>q.1 h0)];rfl)
  obtain rfl:=List.eq_nil_of_length_eq_zero h0
  clear HB2 h0
  go_enter Try.func17,Try.ntmps17
  go_wp2
  go_ret
  exact⟨by rw[← HE.out];rfl,rfl⟩
 ·have h1:((l.length:Int) == 0)=false:=by rw[beq_eq_false_iff_ne];omega
  by_cases h2:l.length≤64
  ·have h3:¬ (64:Int)<(l.length:Int):=by omega
   have HI0:Hid (nmK 0 (l.drop 0)=b):=(by show _=_;rw[← HB2.out,decide_eq_true ⟨h0,h2⟩];rfl)
   go_enter Try.func17,Try.ntmps17
   go_wp2
   go_loopw [3] (fun i wr=>∃ k:Nat,k≤l.length∧i=.int .i64 k∧wr=w∧Hid (nmK k (l.drop k)=b)) (fun i _=>l.length-(intOf i).toNat)
   case atStart=>exact⟨0,Nat.zero_le _,by go_num,rfl,HI0⟩
   case round =>
   obtain⟨k,hk,rfl,rfl,HI⟩:=hrel
   clear HI0
   by_cases hlt:k<l.length
   ·have HI2:=HI.out
    rw[Zbm hlt] at HI2
    have i1:(0:Int)≤(k:Int):=by omega
    have i2:(k:Int)<(l.length:Int):=by omega
    obtain⟨c,hc⟩:∃ c,l[k]=c:=⟨_,rfl⟩
    rw[hc] at HI2
    have hcn:=c.toNat_lt
    clear HI
    cases hL:ltB c with
    | true =>
     rw[hL,Bool.true_or,Bool.true_and] at HI2
     have HI3:Hid (nmK (k+1) (l.drop (k+1))=b):=HI2
     have HC:=fun u=>Zbz (n:=c.toNat) (b:=true) (by rw[Zbg,hL]) u
     clear HI2 hL
     go_wp2_with fail
     refine (HC _).mono ?_
     rintro e w1 ⟨rfl,rfl⟩
     clear HC
     go_wp2
     exact⟨⟨k+1,by omega,by go_num,by first | rfl | trivial,HI3⟩,by simp[intOf];omega⟩
    | false =>
     rw[hL,Bool.false_or] at HI2
     have HC:=fun u=>Zbz (n:=c.toNat) (b:=false) (by rw[Zbg,hL]) u
     clear hL
     by_cases hk0:k=0
     ·subst hk0
      have HE:Hid (false=b):=(by show _=_;rw[← HI2];rfl)
      clear HI2
      go_wp2_with fail
      refine (HC _).mono ?_
      rintro e w1 ⟨rfl,rfl⟩
      clear HC
      go_wp2
      go_ret
      exact⟨by rw[← HE.out];rfl,rfl⟩
     ·have i3:((k:Int) == 0)=false:=by rw[beq_eq_false_iff_ne];omega
      rw[decide_eq_true hk0,Bool.true_and] at HI2
      cases hD:dgB c with
      | true =>
       rw[hD,Bool.true_and] at HI2
       have HI3:Hid (nmK (k+1) (l.drop (k+1))=b):=HI2
       unfold dgB at hD
       simp only[Bool.and_eq_true,decide_eq_true_eq] at hD
       have j1:¬ (c.toNat:Int)<48:=by omega
       have j2:¬ (57:Int)<(c.toNat:Int):=by omega
       clear HI2 hD
       go_wp2_with fail
       refine (HC _).mono ?_
       rintro e w1 ⟨rfl,rfl⟩
       clear HC
       go_wp2
       exact⟨⟨k+1,by omega,by go_num,by first | rfl | trivial,HI3⟩,by simp[intOf];omega⟩
      | false =>
       have HE:Hid (false=b):=(by show _=_;rw[← HI2,hD];rfl)
       unfold dgB at hD
       simp only[Bool.and_eq_false_iff,decide_eq_false_iff_not] at hD
       clear HI2
       by_cases j1:(c.toNat:Int)<48
       ·clear hD
        go_wp2_with fail
        refine (HC _).mono ?_
        rintro e w1 ⟨rfl,rfl⟩
        clear HC
        go_wp2
        go_ret
        exact⟨by rw[← HE.out];rfl,rfl⟩
       ·have j2:(57:Int)<(c.toNat:Int):=by omega
        clear hD
        go_wp2_with fail
        refine (HC _).mono ?_
        rintro e w1 ⟨rfl,rfl⟩
        clear HC
        go_wp2
        go_ret
        exact⟨by rw[← HE.out];rfl,rfl⟩
   ·have HE:Hid (true=b):=(by
     have h:=HI.out
     rw[List.drop_of_length_le (by omega)] at h
     exact h)
    have hend:¬ (k:Int)<(l.length:Int):=by omega
    clear HI
    go_wp2
    go_ret
    exact⟨by rw[← HE.out];rfl,rfl⟩
  ·have HE:Hid (false=b):=(by show _=_;rw[← HB2.out,decide_eq_false (fun q=>h2 q.2)];rfl)
   have h3:(64:Int)<(l.length:Int):=by omega
   go_enter Try.func17,Try.ntmps17
   go_wp2
   go_ret
   exact⟨by rw[← HE.out];rfl,rfl⟩
end

section
open Go.RowKit Go.Proofs.Ytcnjephlmcnodaa.Tx Go.Lib
section
variable {P:Program} (w:World)
theorem ZbD (base:Nat) (t u ty e:TypeId) (i:TypeInfo) (ht:P.underlying t=some (.slice e)) (hu:P.underlying u=some .string) (hi:P.info? e=some i) (hz:i.zero=some (.int .u8 0))
  (hsize:i.size=1) (hby:i.bytes=1)
  (v:Value) (n:Nat) (xs:List Value) (hown:w.ownsRowF base e 1 v n xs) (s:ByteArray)
  (h63:n+s.size≤maxLen) (hbytes:n+s.size≤140737488355328) (hbase:base≤w.heap.size) :
  ∃ v' w',(Builtin.append_ #[t,u] ty #[v,.string s]).run P w=.ok v' w'∧w'.ownsRowF base e 1 v' (n+s.size) (xs++strCells s)∧w.grownBy w' v.ownBlock ∧
   (v'.ownBlock=v.ownBlock∨∃ g,v'.ownBlock=some g∧w.heap.size≤g):=by
 rcases hown.2 with ⟨rfl,rfl⟩ | ⟨g,cap,cur,fz,rfl,hbg,hg,hfz,hnc,hcm,hcs,htake⟩
 ·obtain⟨v',w',r1,r2,r3,r4⟩:=run_append_own_string (P:=P) w w.heap.size t u ty e i ht hu hi hz hsize hby (.slice none 0 0) 0 xs ⟨hown.1,.inl ⟨rfl,rfl⟩⟩ s h63 hbytes (Nat.le_refl _)
  have r5:=World.ownsRowF_of r2
  refine⟨v',w',r1,⟨r5.1,?_⟩,r3,?_⟩
  ·rcases r5.2 with h | ⟨g,cap,cur,fz,q1,q2,q3⟩
   ·exact .inl h
   ·exact .inr ⟨g,cap,cur,fz,q1,by omega,q3⟩
  ·rcases r5.2 with ⟨h,_⟩ | ⟨g,cap,cur,fz,q1,q2,q3⟩
   ·exact .inl (by rw[h])
   ·exact .inr ⟨g,by rw[q1];rfl,q2⟩
 ·have hsmall:n+s.size≤9223372036854775807:=by simp only[maxLen] at h63;omega
  have hxl:xs.length=n:=by simpa using hown.1
  have hlen:(xs++strCells s).length=(n+s.size) * 1:=by rw[List.length_append,hxl,strCells_length,Nat.mul_one]
  by_cases hroom:n+s.size≤cap
  ·have hcs':cur.size=cap:=by simpa using hcs
   have hr:=run_append_room_stringF (P:=P) w t u ty e i ht hu hi hsize g n cap cur fz hg (by simpa using hfz) s hroom (by omega)
   refine⟨_,_,hr,⟨hlen,.inr ⟨g,cap,_,fz,rfl,hbg,setRow_heap w g cur _ e _ hg,by omega,hroom,hcm,?_,?_⟩⟩,⟨rfl,rfl,rfl,by simp,fun k _ hk=>setRow_other w g k _ (fun e=>hk (by simp[Value.ownBlock,e]))⟩,.inl rfl⟩
   ·simp only[List.size_toArray,List.length_append,List.length_take,List.length_drop,Array.length_toList,strCells_length]
    omega
   ·have ht':cur.toList.take n=xs:=by simpa using htake
    rw[ht',← hlen]
    exact List.take_left
  ·have holds:∀ j u,xs[j]?=some u→w.cell? ((⟨g,0,none⟩:Addr).add j)=some u:=hown.cells (g:=g) rfl
   have hr:=run_append_grow_string (P:=P) w t u ty e i (.int .u8 0) ht hu hi hz ⟨g,0,none⟩ n cap xs (by rw[hsize];simpa using hxl) holds s (by omega) (by omega) (by rw[hby];exact growslice_fits (by omega) (by omega))
   have hge:=grownCap_ge w (n+s.size) cap e
   have hcm2:grownCap w (n+s.size) cap e≤maxLen:=grownCap_le_maxLen w (n+s.size) cap e h63
   refine⟨_,_,hr,⟨hlen,.inr ⟨w.heap.size,_,_,(0,0),rfl,hbase,_root_.Go.heap_alloc_new w.drew _,Nat.zero_le _,hge,hcm2,?_,?_⟩⟩,⟨rfl,rfl,rfl,by simp,fun k hk _=>Below.heap_alloc w.drew _ k hk⟩,.inr ⟨_,rfl,Nat.le_refl _⟩⟩
   ·have hz1:(Value.int IntKind.u8 0).cells.size=1:=rfl
    simp only[Array.size_append,List.size_toArray,size_zeroCells,hz1,hxl,strCells_length]
    omega
   ·simp only[Array.toList_append,List.append_assoc]
    rw[← List.append_assoc,← hlen]
    exact List.take_left
theorem Zco {ops:Array Oper} {rest:List Oper} {o:Oper} {a:Act} {Q:Exit→Act→World→Prop} (hgd:o.guard=none) (sl x:Operand) (t u:TypeId)
  (ho:o.op=.call { callee:=.builtin .append,args:=#[sl,x],argTypes:=#[t,u] })
  (base:Nat) (e:TypeId) (i:TypeInfo) (ht:P.underlying t=some (.slice e)) (hu:P.underlying u=some .string) (hi:P.info? e=some i) (hz:i.zero=some (.int .u8 0))
  (hsize:i.size=1) (hby:i.bytes=1)
  (v:Value) (n:Nat) (xs:List Value) (hs:a.eval sl=v) (hown:w.ownsRowF base e 1 v n xs) (s:ByteArray) (hx:a.eval x=.string s)
  (h63:n+s.size≤maxLen) (hbytes:n+s.size≤140737488355328) (hbase:base≤w.heap.size)
  (h:∀ v' w',w'.ownsRowF base e 1 v' (n+s.size) (xs++strCells s)→w.grownBy w' v.ownBlock→(v'.ownBlock=v.ownBlock∨∃ g,v'.ownBlock=some g∧w.heap.size≤g)→wpList P ops Q rest (a.put o.dst v') w'):wpList P ops Q (o::rest) a w:=by
 refine wpList_plain hgd fun K hK=>?_
 obtain⟨v',w',hr,h2,h3,h4⟩:=ZbD (P:=P) w base t u o.type e i ht hu hi hz hsize hby v n xs hown s h63 hbytes hbase
 unfold Oper.wp execOp
 simp only[ho,resolve,invoke,builtin,Sem.run_bind,Sem.run_pure,Result.andThen_ok,List.map_toArray,List.map_cons,List.map_nil,hs,hx,hr]
 exact hK _ _ (h v' w' h2 h3 h4)
end
structure Wr (B b:Nat) (v v':Value) (w w':World):Prop where
 aside:Go.Proofs.Ytcnjephlmcnodaa.Tx.Aside b v w w'
 fresh:Fresh v v' w
 below:Below B w w'
theorem Wr.refl (B b:Nat) (v:Value) (w:World):Wr B b v v w w:=⟨fun _ _ _ _=>rfl,.inl rfl,Below.refl B w⟩
theorem Wr.trans {B b:Nat} {v v1 v2:Value} {w w1 w2:World} (h:Wr B b v v1 w w1) (h':Wr B b v1 v2 w1 w2):Wr B b v v2 w w2:=by
 have hsz:=h.below.size
 have hn:∀ k,k<w.heap.size→v.ownBlock≠some k→v1.ownBlock≠some k:=by
  intro k hk hv
  rcases h.fresh with q | ⟨g,q,hg⟩
  ·rw[q];exact hv
  ·rw[q]
   intro e
   have:=Option.some.inj e
   omega
 refine⟨fun k hk hb hv=>(h'.aside k (by omega) hb (hn k hk hv)).trans (h.aside k hk hb hv),?_,h.below.trans h'.below⟩
 rcases h'.fresh with q | ⟨g,q,hg⟩
 ·rcases h.fresh with q2 | ⟨g,q2,hg⟩
  ·exact .inl (q.trans q2)
  ·exact .inr ⟨g,q.trans q2,hg⟩
 ·exact .inr ⟨g,q,by omega⟩
theorem Wr.low {B b:Nat} {v:Value} {w w1:World} (h:Below w.heap.size w w1) (hB:B≤w.heap.size):Wr B b v v w w1:=⟨fun k hk _ _=>h.block k hk,.inl rfl,h.mono hB⟩
theorem Wr.size {B b:Nat} {v v':Value} {w w':World} (h:Wr B b v v' w w'):w.heap.size≤w'.heap.size:=h.below.size
def Off (k:Nat) (b:Nat) (v:Value):Prop:=k≠b∧v.ownBlock≠some k
theorem Wr.block {B b:Nat} {v v':Value} {w w':World} (h:Wr B b v v' w w') {k:Nat} {o:Obj} (hk:w.heap[k]?=some o) (ho:Off k b v):w'.heap[k]?=some o∧Off k b v':=by
 have hlt:k<w.heap.size:=(Array.getElem?_eq_some_iff.1 hk).1
 refine⟨(h.aside k hlt ho.1 ho.2).trans hk,ho.1,?_⟩
 rcases h.fresh with q | ⟨g,q,hg⟩
 ·rw[q];exact ho.2
 ·rw[q]
  intro e
  have:=Option.some.inj e
  omega
end

end Go.Proofs.Ytcnjephlmcnodaa

namespace Go.Proofs

section
open Go.Shelf
def Try.lays240_ren:Go.Shelf.Ren:=⟨fun | 240=>23 | 276=>28 | n=>n,fun | 0=>0 | 4=>4 | 9=>9 | 20=>20 | 70=>30 | 72=>33 | 37=>31 | 164=>56 | n=>n,fun | n=>n⟩
theorem Try.lays240:Go.Proofs.Lays.n240 Try.prog Try.lays240_ren:={
 mixed:=by kernel_rfl
 f240:= Go.fk Try.func23
 f276:= Go.fk Try.func28
 t0:=Try.underlying0
 a0:=Try.isAgg0
 z0:=Try.sizeOf0
 v0:=Try.zeroValue0
 t4:=Try.underlying4
 a4:=Try.isAgg4
 z4:=Try.sizeOf4
 v4:=Try.zeroValue4
 t9:=Try.underlying9
 a9:=Try.isAgg9
 z9:=Try.sizeOf9
 v9:=Try.zeroValue9
 t20:=Try.underlying20
 a20:=Try.isAgg20
 z20:=Try.sizeOf20
 v20:=Try.zeroValue20
 t70:=Try.underlying30
 a70:=Try.isAgg30
 z70:=Try.sizeOf30
 v70:=Try.zeroValue30
 t72:=Try.underlying33
 a72:=Try.isAgg33
 z72:=Try.sizeOf33
 v72:=Try.zeroValue33
 t164:=Try.underlying56
 a164:=Try.isAgg56
 z164:=Try.sizeOf56
 v164:=Try.zeroValue56 }
theorem Try.Builder_X72_240:Builder.X72 Try.prog Try.lays240_ren:={
 sizeBuilder:=by kernel_rfl
 liesBuilder:=by kernel_rfl }
theorem Try.copyCheck_used (b:Nat) (w:World) (h0:w.cell? ⟨b,0,none⟩=some (.pointer (some ⟨b,0,none⟩))) :
  Calls Try.prog 23 #[.pointer (some ⟨b,0,none⟩)] w fun e w'=>e=.returned (.tuple #[])∧w'=w:=Any.Builder_copyCheck_used Try.lays240 Try.Builder_X72_240 b w h0
end

end Go.Proofs

namespace Go.Proofs.Ytcnjephlmcnodaa

section
open Go.RowKit Go.Proofs.Ytcnjephlmcnodaa.Tx
theorem cwU8:(Try.prog.info? 5).map (fun i=>(i.zero,i.size,i.bytes))=some (some (.int .u8 0),1,1):=by kernel_rfl
theorem cwBs:(Try.prog.info? 33).map (·.size)=some 2:=by kernel_rfl
def LaysB (T:TypeId):Prop:=liesAt Try.prog Try.prog.depth T (2 / Try.prog.cellsOf T) 0 33 1=true∧T≠5
theorem Zbd:LaysB 33:=⟨by kernel_rfl,by decide⟩
theorem Zao {T:TypeId} (hT:LaysB T) (b:Nat) (w:World) (h0:w.cell? ⟨b,0,none⟩=some (.pointer none)) (hsh:w.shape? b=some (T,2)) (hfz:w.frozen? ⟨b,0,none⟩=false) :
  Calls Try.prog 23 #[.pointer (some ⟨b,0,none⟩)] w fun e w'=>e=.returned (.tuple #[])∧w'=w.setCell ⟨b,0,none⟩ (.pointer (some ⟨b,0,none⟩)):=by
 obtain⟨j,hj,hjs⟩:=Option.map_eq_some_iff.1 cwBs
 go_enter Try.func23,Try.ntmps23
 go_wp2
 rw[Lib.run_to_unsafe w ⟨b,0,none⟩ Try.underlying30 Try.underlying56 hj (by rw[hjs];decide) hsh (Nat.zero_lt_succ 1)]
 simp only[Result.andThen]
 rw[Oper.upon_value]
 go_wp2
 rw[run_callFunc_extern Try.func28 (by kernel_rfl) (by kernel_rfl) (by kernel_rfl) (e:=Extern.AbiNoEscape.same) (by kernel_rfl)]
 rw[Lib.run_noEscape]
 simp only[Result.andThen]
 rw[Oper.upon_value]
 go_wp2
 rw[Lib.run_from_unsafe w ⟨b,0,none⟩ Try.underlying56 Try.underlying30 hj hsh hT.1]
 simp only[Result.andThen]
 rw[Oper.upon_value]
 go_wp2
 go_end0
 exact⟨rfl,rfl⟩
theorem Zan {T:TypeId} (hT:LaysB T) (B b:Nat) (v:Value) (bs:List Value) (w:World) (h:Bld T 5 B b v bs w) :
  Calls Try.prog 23 #[.pointer (some ⟨b,0,none⟩)] w fun e w'=>e=.returned (.tuple #[])∧w'.heap[b]?=some (.cells #[.pointer (some ⟨b,0,none⟩),v] T (0,0))∧Bld T 5 B b v bs w'∧Hid (∀ k,k≠b→w'.heap[k]?=w.heap[k]?)∧Below B w w':=by
 have h':=h
 obtain⟨hB,⟨p,hp,hbk⟩,hown,hne⟩:=h
 have hlt:b<w.heap.size:=(Array.getElem?_eq_some_iff.1 hbk).1
 have c0:w.cell? ⟨b,0,none⟩=some p:=by rw[Lib.cell_of_heap hbk];rfl
 have f0:w.frozen? ⟨b,0,none⟩=false:=Lib.frozen_of_heap hbk 0
 rcases hp with rfl | rfl
 ·refine (Zao hT b w c0 (by simp[World.shape?,hbk]) f0).mono ?_
  rintro e w' ⟨rfl,rfl⟩
  have hb':(w.setCell ⟨b,0,none⟩ (.pointer (some ⟨b,0,none⟩))).heap[b]?=some (.cells #[.pointer (some ⟨b,0,none⟩),v] T (0,0)):=by
   simp only[World.setCell,Array.getElem?_modify,hbk]
   simp
  have ho:∀ k,k≠b→(w.setCell ⟨b,0,none⟩ (.pointer (some ⟨b,0,none⟩))).heap[k]?=w.heap[k]?:=fun k hk=>Below.heap_setCell w _ _ k hk
  refine⟨rfl,hb',⟨hB,⟨_,.inr rfl,hb'⟩,?_,hne⟩,ho,(Below.refl B w).setCell (p:=⟨b,0,none⟩) hB _⟩
  refine⟨hown.1,?_⟩
  rcases hown.2 with h | ⟨g,cap,cur,fz,q1,q2,q3,q4⟩
  ·exact .inl h
  ·exact .inr ⟨g,cap,cur,fz,q1,q2,(ho g (fun e=>hne (by rw[q1,e];rfl))).trans q3,q4⟩
 ·refine (Try.copyCheck_used b w c0).mono ?_
  rintro e w' ⟨rfl,rfl⟩
  exact⟨rfl,hbk,h',fun _ _=>rfl,Below.refl B _⟩
theorem Zam {T:TypeId} (hT:LaysB T) (B b:Nat) (v:Value) (bs:List Value) (s:List UInt8) (w:World) (h:Bld T 5 B b v bs w) (hlen:bs.length+s.length≤140737488355328) (hBw:B≤w.heap.size) :
  Calls Try.prog 10 #[.pointer (some ⟨b,0,none⟩),.string ⟨s.toArray⟩] w fun e w'=>e=.returned (.tuple #[.int .i64 s.length,.nilIface])∧∃ v',Bld T 5 B b v' (bs++Lib.byteCells s) w'∧Wr B b v v' w w':=by
 obtain⟨i0,hi,hz0,hz1,hz2⟩:=info_parts cwU8
 go_enter Try.func10,Try.ntmps10
 go_wp2_with (go_at_call 23;refine (Zan hT B b v bs _ h).mono ?_)
 rintro e w1 ⟨rfl,hbk,⟨hB,_,hown,hne⟩,ho1,hb1⟩
 have c0:w1.cell? ⟨b,0,none⟩=some (.pointer (some ⟨b,0,none⟩)):=by rw[Lib.cell_of_heap hbk];rfl
 have c1:w1.cell? ⟨b,1,none⟩=some v:=by rw[Lib.cell_of_heap hbk];rfl
 have hlt:b<w1.heap.size:=(Array.getElem?_eq_some_iff.1 hbk).1
 go_wp2_with (at_builtin;refine Zco _ rfl _ _ 31 9 rfl B 5 i0 Try.underlying31 Try.underlying9 hi hz0 hz1 hz2 _ _ _ rfl hown ⟨s.toArray⟩ rfl ?c3 ?c4 ?c5 ?_)
 case c3=>unfold maxLen;show bs.length+s.length≤_;omega
 case c4=>show bs.length+s.length≤_;omega
 case c5=>have:=hb1.size;omega
 intro v' w2 hown' hgrow hfr
 have hb2:w2.heap[b]?=some (.cells #[.pointer (some ⟨b,0,none⟩),v] T (0,0)):=by
  rw[hgrow.block b hlt (fun e=>hne e.symm)]
  exact hbk
 have d0:w2.cell? ⟨b,0,none⟩=some (.pointer (some ⟨b,0,none⟩)):=by rw[Lib.cell_of_heap hb2];rfl
 have d1:w2.cell? ⟨b,1,none⟩=some v:=by rw[Lib.cell_of_heap hb2];rfl
 have f1:w2.frozen? ⟨b,1,none⟩=false:=Lib.frozen_of_heap hb2 1
 obtain⟨ao,n',cap,rfl⟩:∃ ao n' cap,v'=.slice ao n' cap:=by
  rcases hown'.2 with ⟨hv,_⟩ | ⟨g,cap,cur,fz,hv,_⟩
  ·exact⟨_,_,_,hv⟩
  ·exact⟨_,_,_,hv⟩
 have hlen2:(bs++Lib.byteCells s).length=bs.length+s.length:=by rw[List.length_append,Lib.byteCells_length]
 go_wp2
 go_ret2
 refine⟨rfl,_,Bld.put hB (.inr rfl) hb2 (by rw[hlen2];exact hown') hT.2,?_,?_,?_⟩
 ·intro k hk hkb hkv
  rw[Below.heap_setCell w2 _ _ k hkb,hgrow.block k (by have:=hb1.size;omega) (fun e=>hkv e.symm)]
  exact ho1.out k hkb
 ·rcases hfr with h | ⟨g',h,h2⟩
  ·exact .inl h
  ·exact .inr ⟨g',h,by have:=hb1.size;omega⟩
 ·exact (hb1.grown hgrow (by have:=hb1.size;omega) (fun k hk=>(hown.lt k hk).1)).setCell (p:=⟨b,1,none⟩) hB _
end

section
open Go.RowKit Go.Proofs.Ytcnjephlmcnodaa.Tx
attribute [local go_sem] ByteArray.extract_mk Zbn
theorem Zcf (s:List UInt8):Lib.hasSuffix s [10]=fdB s:=by
 unfold Lib.hasSuffix fdB
 rw[Bool.eq_iff_iff,List.isSuffixOf_iff_suffix,beq_iff_eq]
 constructor
 ·rintro⟨t,rfl⟩;simp
 ·intro h
  obtain⟨t,rfl⟩:=List.getLast?_eq_some_iff.1 h
  exact⟨t,rfl⟩
theorem Zce (s:List UInt8):Lib.trimSuffix s [10]=bareT s:=by
 unfold Lib.trimSuffix bareT
 rw[Zcf,List.dropLast_eq_take]
 rfl
theorem ZbR (l:List UInt8) (w:World) (hl:l.length≤9223372036854775807) :
  Calls Try.prog 9 #[.string ⟨l.toArray⟩] w fun e w'=>e=.returned (.tuple #[.string ⟨(bareT l).toArray⟩,.bool (fdB l)])∧w=w':=by
 go_enter Try.func9,Try.ntmps9
 go_wp2_with fail
 refine (Try.strings_CutSuffix ⟨l.toArray⟩ ⟨#[10]⟩ _ hl).mono ?_
 rintro e w1 ⟨rfl,rfl⟩
 go_wp2
 go_ret2
 rw[← Zce,← Zcf]
 exact⟨rfl,rfl⟩
def Vsd (w:World) (b:Nat) (RS:List (Nat × Obj)) (T:List UInt8) (u:World):Prop :=
 ∃ v,Bld 33 5 w.heap.size b v (Lib.byteCells T) u∧(∀ x∈RS,u.heap[x.1]?=some x.2∧x.1≠b∧v.ownBlock≠some x.1)∧Below w.heap.size w u
section
variable {w u u':World} {b:Nat} {RS:List (Nat × Obj)} {T:List UInt8}
theorem Vsd.low (h:Vsd w b RS T u):Below w.heap.size w u:=by
 obtain⟨_,_,_,h⟩:=h
 exact h
theorem Vsd.keep (h:Vsd w b RS T u) (hb:Below u.heap.size u u'):Vsd w b RS T u':=by
 obtain⟨v,h1,h2,h3⟩:=h
 refine⟨v,h1.kept hb.block,fun x hx=>?_,h3.trans (hb.mono h3.size)⟩
 obtain⟨q1,q2,q3⟩:=h2 x hx
 exact⟨(hb.block _ (Array.getElem?_eq_some_iff.1 q1).1).trans q1,q2,q3⟩
theorem Vsd.drew (h:Vsd w b RS T u):Vsd w b RS T u.drew:=h.keep (Below.refl _ u).drew
theorem Vsd.alloc (h:Vsd w b RS T u) (o:Obj):Vsd w b RS T (u.alloc o):=h.keep ((Below.refl _ u).alloc (Nat.le_refl _) o)
theorem Vsd.block (h:Vsd w b RS T u) {k:Nat} {o:Obj} (hk:(k,o)∈RS):u.heap[k]?=some o:=by
 obtain⟨_,_,h,_⟩:=h
 exact (h _ hk).1
theorem Vsd.cell (h:Vsd w b RS T u) {k:Nat} {C:Array Value} {t:TypeId} {fz:Nat × Nat} (hk:(k,.cells C t fz)∈RS) (j:Nat):u.cell? ⟨k,j,none⟩=C[j]?:=by
 rw[Lib.cell_of_heap (h.block hk)]
theorem Vsd.less {x:Nat × Obj} (h:Vsd w b (x::RS) T u):Vsd w b RS T u:=by
 obtain⟨v,h1,h2,h3⟩:=h
 exact⟨v,h1,fun y hy=>h2 y (List.mem_cons_of_mem _ hy),h3⟩
theorem Vsd.more (h:Vsd w b RS T u) (o:Obj):Vsd w b ((u.heap.size,o)::RS) T (u.alloc o):=by
 have h':=h.alloc o
 obtain⟨v,h1,h2,h3⟩:=h
 obtain⟨v',_,_,_⟩:=h'
 have hb:=(Below.refl u.heap.size u).alloc (Nat.le_refl _) o
 have hlt:=h1.lt
 refine⟨v,h1.alloc o,fun x hx=>?_,h3.trans (hb.mono h3.size)⟩
 rcases List.mem_cons.1 hx with rfl | hx
 ·refine⟨heap_alloc_new u o,by show u.heap.size≠b;omega,?_⟩
  intro e
  have:=(h1.2.2.1.lt _ e).2
  omega
 ·obtain⟨q1,q2,q3⟩:=h2 x hx
  exact⟨(hb.block _ (Array.getElem?_eq_some_iff.1 q1).1).trans q1,q2,q3⟩
theorem Vsd.at0 (w:World) {W:World} (hb:Below w.heap.size w W):Vsd w W.heap.size [] [] (W.alloc (.cells #[.pointer none,.slice none 0 0] 33)) :=
 ⟨.slice none 0 0,⟨hb.size,⟨_,.inl rfl,heap_alloc_new W _⟩,World.ownsRowF_nil _ _ _ _,by simp[Value.ownBlock]⟩,fun x hx=>(by cases hx),hb.alloc hb.size _⟩
theorem Vsd.str {s Z:List UInt8} (h:Vsd w b RS T u) (hZ:T++s=Z) (hl:Z.length≤70368744177664) :
  Calls Try.prog 10 #[.pointer (some ⟨b,0,none⟩),.string ⟨s.toArray⟩] u fun e u'=>(∃ z,e=.returned (.tuple #[z,.nilIface]))∧Vsd w b RS Z u':=by
 obtain⟨v,h1,h2,h3⟩:=h
 have hll:T.length+s.length≤70368744177664:=by rw[← hZ,List.length_append] at hl;exact hl
 have hbc:∀ l:List UInt8,(Lib.byteCells l).length=l.length:=fun l=>by simp[Lib.byteCells]
 refine (Zam Zbd w.heap.size b v _ s u h1 (by rw[hbc];omega) h3.size).mono ?_
 rintro e u' ⟨rfl,v',q,hw⟩
 refine⟨⟨_,rfl⟩,v',by rw[← hZ,Lib.byteCells_append];exact q,fun x hx=>?_,h3.trans hw.below⟩
 obtain⟨q1,q2,q3⟩:=h2 x hx
 have:=hw.block q1 ⟨q2,q3⟩
 exact⟨this.1,this.2⟩
theorem Vsd.text (h:Vsd w b RS T u) :
  Calls Try.prog 15 #[.pointer (some ⟨b,0,none⟩)] u fun e u'=>e=.returned (.string ⟨T.toArray⟩)∧Below w.heap.size w u':=by
 obtain⟨v,h1,h2,h3⟩:=h
 refine (Try.Builder_String_any_k w.heap.size b T u h1.isF h3.size).mono ?_
 rintro e u' ⟨rfl,_,hb,_⟩
 exact⟨rfl,h3.trans hb⟩
end
end

section
open Go.RowKit Go.Proofs.Ytcnjephlmcnodaa.Tx
attribute [local go_sem] Zbn
theorem Zcl {l:List (List UInt8)} {k:Nat} (hk:k<l.length):(wlL (l.take (k+1))).flatten=(wlL (l.take k)).flatten++bareT l[k]++[10]:=by
 rw[List.take_succ_eq_append_getElem hk]
 unfold wlL
 rw[List.map_append,List.flatten_append]
 simp
theorem Zcm (l:List (List UInt8)) (k:Nat):(wlL (l.take k)).flatten.length≤(wlL l).flatten.length:=by
 have e:wlL l=wlL (l.take k)++wlL (l.drop k):=by
  unfold wlL
  rw[← List.map_append,List.take_append_drop]
 rw[e,List.flatten_append,List.length_append]
 omega
theorem ZbA (l:List (List UInt8)) (v:Value) (w:World) (h:HS w v l) (hl:l.length≤1099511627776) (hs:∀ s∈l,s.length≤1099511627776) (T:List UInt8) (HT:Hid ((wlL l).flatten=T)) (hT:T.length≤1152921504606846976) :
  Calls Try.prog 18 #[v] w fun e w'=>e=.returned (.string ⟨T.toArray⟩)∧w=w':=by
 obtain⟨ao,ca,rfl⟩:=Holds.form h
 have hTT:=HT.out
 subst hTT
 clear HT
 have HP:Hid (∀ k,(wlL (l.take k)).flatten.length≤(wlL l).flatten.length):=Zcm l
 go_enter Try.func18,Try.ntmps18
 go_wp2
 go_loopw [3,4] (fun s i wr=>∃ k:Nat,k≤l.length∧s=.string ⟨((wlL (l.take k)).flatten).toArray⟩∧i=.int .i64 (k:Int)∧wr=w) (fun _ i _=>l.length-(intOf i).toNat)
 case atStart=>exact⟨0,Nat.zero_le _,rfl,rfl,rfl⟩
 case round =>
 obtain⟨k,hk,rfl,rfl,rfl⟩:=hrel
 by_cases hlt:k<l.length
 ·obtain⟨bk,off,rfl,hbk,hc⟩:=HS.at h (by omega)
  have c0:=hc k hlt
  have HE:Hid ((wlL (l.take (k+1))).flatten=(wlL (l.take k)).flatten++bareT l[k]++[10]):=Zcl hlt
  have l1:=HP.out k
  have l2:=HP.out (k+1)
  have l3:=hs l[k] (List.getElem_mem hlt)
  obtain⟨x,hx⟩:∃ x,l[k]=x:=⟨_,rfl⟩
  rw[hx] at c0 HE l3
  have HC:=fun u=>Zbu x u (by omega)
  obtain⟨y,hy⟩:∃ y,bareT x=y:=⟨_,rfl⟩
  rw[hy] at HC HE
  rw[HE.out,List.length_append,List.length_append] at l2
  obtain⟨P,hP⟩:∃ P,(wlL (l.take k)).flatten=P:=⟨_,rfl⟩
  rw[hP] at HE l1 l2 ⊢
  have q1:=Zad (x:=P) (y:=y) (by unfold Fits;omega) Try.prog
  obtain⟨U,hU⟩:∃ U,P++y=U:=⟨_,rfl⟩
  rw[hU] at q1 HE
  have lU:U.length≤1152921504606846976:=by rw[← hU,List.length_append];omega
  have q2:=Zad (x:=U) (y:=[10]) (by unfold Fits;simp only[List.length_cons,List.length_nil];omega) Try.prog
  have i1:(0:Int)≤(k:Int):=by omega
  have i2:(k:Int)<(l.length:Int):=by omega
  clear HP hc hx hy hP hU l1 l2 hs
  go_wp2_with fail
  refine (HC _).mono ?_
  rintro e w1 ⟨rfl,rfl⟩
  clear HC
  go_wp2
  go_roundw
  case rel=>exact⟨k+1,by omega,by rw[HE.out],by go_num,by trivial⟩
  case measure=>simp[intOf];omega
 ·have ek:k=l.length:=by omega
  have hend:¬ (k:Int)<(l.length:Int):=by omega
  subst ek
  rw[List.take_length]
  clear HP
  go_wp2
  go_ret
  exact⟨rfl,by trivial⟩
end

section
open Ln Go.RowKit
attribute [local go_sem] Zbn ByteArray.extract_mk
end

section
open Go.RowKit Go.Proofs.Ytcnjephlmcnodaa.Tx
attribute [local go_sem] Zbn
theorem Zci {s:List UInt8} {L:List (List UInt8)} (h:s∈L):s.length≤L.flatten.length:=by
 induction L with
 | nil=>cases h
 | cons x r ih =>
  rw[List.flatten_cons,List.length_append]
  rcases List.mem_cons.1 h with rfl | h
  ·omega
  ·have:=ih h;omega
end

section
open Go.RowKit Go.Proofs.Ytcnjephlmcnodaa.Tx
attribute [local go_sem] Zbn
attribute [local simp] ZbI Zbf ZaE
def ifE (l:List Ch) (n m:Int) (nm:List UInt8):Int:=if chk l n m≠0 then chk l n m else if cnB nm=true then 0 else 253
def ifR (nm:List UInt8) (A B:List (List UInt8)) (a b:Int) (l:List Ch):List (List UInt8):=(piecesL a b A.length B.length l).flatMap (ifP nm A B)
theorem Zch (A:List (List UInt8)) (a:Int):cut A a 0=[]:=by simp[cut]
theorem Zbb (nm:List UInt8) (A B:List (List UInt8)) (a b:Int) (c:Ch) (l:List Ch):ifR nm A B a b (c::l)=wlL (cut A a (c.A-a))++(ifC nm (cut A c.A c.AN) (cut B c.B c.BN)++ifR nm A B (c.A+c.AN) (c.B+c.BN) l):=by simp[ifR,piecesL,ifP]
theorem Zbc (nm:List UInt8) (A B:List (List UInt8)) (a b:Int):ifR nm A B a b []=wlL (cut A a (A.length-a)):=by
 simp[ifR,piecesL,ifP,Zch,ifC]
theorem ZaI {A:List (List UInt8)} {p n:Int} (h0:0≤p) (h1:0<n) (h2:p+n≤A.length):cut A p n≠[]:=by
 intro h
 have:=congrArg List.length h
 unfold cut at this
 rw[List.length_take,List.length_drop,List.length_nil] at this
 omega
theorem ZaV {nm:List UInt8} {o:List (List UInt8)} (h:o≠[]):ifC nm o []=cmT nm 2::(wlL o++[cmT nm 5]):=by
 unfold ifC
 rw[if_neg (fun q=>h q.1),if_pos rfl]
theorem ZaX {nm:List UInt8} {w:List (List UInt8)} (h:w≠[]):ifC nm [] w=cmT nm 1::(wlL w++[cmT nm 4]):=by
 unfold ifC
 rw[if_neg (fun q=>h q.2),if_neg h,if_pos rfl]
theorem ZaU {nm:List UInt8} {o w:List (List UInt8)} (h:o≠[]) (h2:w≠[]):ifC nm o w=cmT nm 2::(wlL o++cmT nm 3::(wlL w++[cmT nm 4])):=by
 unfold ifC
 rw[if_neg (fun q=>h q.1),if_neg h2,if_neg h]
theorem Zcg {A:List (List UInt8)} {p n:Int} {s:List UInt8} (h:s∈cut A p n):s∈A:=List.mem_of_mem_drop (List.mem_of_mem_take h)
theorem ZaH {A:List (List UInt8)} {p n:Int}:(cut A p n).length≤A.length:=by
 unfold cut
 rw[List.length_take,List.length_drop]
 omega
theorem Zck (A:List (List UInt8)) (p n:Int):(wlL (cut A p n)).flatten.length≤(wlL A).flatten.length:=by
 have h1:=Zcm (A.drop p.toNat) n.toNat
 have e:wlL A=wlL (A.take p.toNat)++wlL (A.drop p.toNat):=by unfold wlL;rw[← List.map_append,List.take_append_drop]
 rw[e,List.flatten_append,List.length_append]
 unfold cut
 omega
theorem Zbx (l:List Ch) (A B:List (List UInt8)) (nm:List UInt8) (v va vb:Value) (w:World) (hl:HCh w v l) (ha:HS w va A) (hb:HS w vb B) (hll:l.length≤1099511627776) (hla:A.length≤1048576) (hlb:B.length≤1048576) (hn:nm.length≤1099511627776)
  (hta:∀ s∈A,s.length≤1099511627776) (htb:∀ s∈B,s.length≤1099511627776) (hwa:(wlL A).flatten.length≤2305843009213693) (hwb:(wlL B).flatten.length≤2305843009213693)
  (r:Int) (HR:Hid (ifE l A.length B.length nm=r)) (T:List UInt8) (HT:Hid ((if r=0 then (ifL nm l A B).flatten else [])=T)) (hT:T.length≤1152921504606846976) :
  Calls Try.prog 5 #[v,va,vb,.string ⟨nm.toArray⟩] w fun e w'=>e=.returned (.tuple #[.string ⟨T.toArray⟩,.int .i64 r])∧Below w.heap.size w w':=by
 obtain⟨ao,ca,rfl⟩:=Holds.form hl
 obtain⟨aa,caa,rfl⟩:=Holds.form ha
 obtain⟨ab,cab,rfl⟩:=Holds.form hb
 obtain⟨q,hq⟩:∃ q,chk l A.length B.length=q:=⟨_,rfl⟩
 have hck:=fun u hu=>Zbv l A.length B.length q (.slice ao l.length ca) u hu (by omega) (by omega) (by omega) hq
 have hck:=hck w hl
 have hR:=HR.out
 unfold ifE at hR
 rw[hq] at hR
 have hTT:=HT.out
 clear HR HT
 by_cases hq0:q=0
 ·subst hq0
  rw[if_neg (by simp)] at hR
  have hS:Script l A.length B.length:=(by
   by_cases h:Script l A.length B.length
   ·exact h
   ·have:=Zar h
    rw[hq] at this
    cases this)
  clear hq
  obtain⟨bb,hbb⟩:∃ b,cnB nm=b:=⟨_,rfl⟩
  have hnm:=fun u=>Zbw nm u bb hbb
  rw[hbb] at hR
  clear hbb
  cases bb with
  | false =>
   rw[if_neg (by decide)] at hR
   subst hR
   rw[if_neg (by decide)] at hTT
   subst hTT
   go_enter Try.func5,Try.ntmps5
   go_wp2_with fail
   refine hck.mono ?_
   rintro e w1 ⟨rfl,hb1⟩
   clear hck
   go_wp2_with fail
   refine (hnm _).mono ?_
   rintro e w2 ⟨rfl,rfl⟩
   clear hnm
   go_wp2
   go_ret2
   exact⟨rfl,hb1⟩
  | true =>
   rw[if_pos rfl] at hR
   subst hR
   rw[if_pos rfl] at hTT
   have HS0:Hid (Right true 0 0 A.length B.length l):=hS.2.2
   have HT0:Hid (([]:List UInt8)++(ifR nm A B 0 0 (l.drop 0)).flatten=T):=hTT
   have HTA:Hid (∀ s∈A,s.length≤1099511627776):=hta
   have HTB:Hid (∀ s∈B,s.length≤1099511627776):=htb
   have HWA:Hid ((wlL A).flatten.length≤2305843009213693):=hwa
   have HWB:Hid ((wlL B).flatten.length≤2305843009213693):=hwb
   clear hS hTT hta htb hwa hwb
   go_enter Try.func5,Try.ntmps5
   go_wp2_with fail
   refine hck.mono ?_
   rintro e w1 ⟨rfl,hb1⟩
   clear hck
   go_wp2_with fail
   refine (hnm _).mono ?_
   rintro e w2 ⟨rfl,rfl⟩
   clear hnm
   go_wp2
   go_loopw [11,12,13] (fun s av iv wr=>∃ (k:Nat) (a b:Int) (P:List UInt8),k≤l.length∧s=.string ⟨P.toArray⟩∧av=.int .i64 a∧iv=.int .i64 (k:Int)∧0≤a∧a≤A.length∧0≤b∧b≤B.length∧Below w.heap.size w wr∧Hid (Right (decide (k=0)) a b A.length B.length (l.drop k))∧Hid (P++(ifR nm A B a b (l.drop k)).flatten=T)) (fun _ _ iv _=>l.length-(intOf iv).toNat)
   case atStart=>exact⟨0,0,0,[],Nat.zero_le _,rfl,rfl,rfl,by omega,by omega,by omega,by omega,hb1,HS0,HT0⟩
   case round =>
   clear HS0 HT0
   obtain⟨k,a,b,P,hk,rfl,rfl,rfl,ha0,han,hb0,hbm,hB,HRi,HI⟩:=hrel
   have haw:HS wr (.slice aa A.length caa) A:=ha.keep hB (Nat.le_refl _)
   have hbw:HS wr (.slice ab B.length cab) B:=hb.keep hB (Nat.le_refl _)
   have hsz:=hB.size
   by_cases hlt:k<l.length
   ·obtain⟨bk,off,rfl,hbk,hc⟩:=HCh.at (HCh.keep hl hB (Nat.le_refl _)) (by omega)
    obtain⟨c0,c1,c2,c3⟩:=hc k hlt
    have hR':=HRi.out
    have hI':=HI.out
    rw[List.drop_eq_getElem_cons hlt] at hR' hI'
    obtain⟨c,hcd⟩:∃ c,l[k]=c:=⟨_,rfl⟩
    rw[hcd] at hR' hI' c0 c1 c2 c3
    clear hc hcd HRi HI
    rw[Zbb] at hI'
    have hnum:=hR'.1.1
    rw[Zbo] at hnum
    have hle:=hR'.2.le
    have hAa:=hR'.1.2.2.1
    have HRt:Hid (Right (decide (k+1=0)) (c.A+c.AN) (c.B+c.BN) A.length B.length (l.drop (k+1))):=(by
     rw[show decide (k+1=0)=false by simp]
     exact hR'.2)
    clear hR'
    have hbx:=Cs.fresh c wr
    obtain⟨cA,cAN,cB,cBN⟩:=c
    dsimp only at c0 c1 c2 c3 hnum hle hAa HRt hI' hbx
    obtain⟨⟨hA0,hA1⟩,⟨hAN0,hAN1⟩,⟨hB0',hB1⟩,⟨hBN0,hBN1⟩,hpos⟩:=hnum
    obtain⟨hle1,hle2,_⟩:=hle
    have i1:0≤(k:Int):=by omega
    have i2:(k:Int)<(l.length:Int):=by omega
    obtain⟨vo,vc,hvs,hsA⟩:=ZbG A aa caa a cA ha0 hAa (by omega) wr haw
    obtain⟨vs2,hvs2,hsO⟩:=ZbE A aa caa cA cAN hA0 hAN0 hle1 wr haw
    obtain⟨vo2,vc2,rfl⟩:=Holds.form (hsO wr haw)
    obtain⟨vs3,hvs3,hsF⟩:=ZbE B ab cab cB cBN hB0' hBN0 hle2 wr hbw
    obtain⟨vo3,vc3,rfl⟩:=Holds.form (hsF wr hbw)
    have hwA:=HWA.out
    have hwB:=HWB.out
    obtain⟨K,hK⟩:∃ K,(wlL (cut A a (cA-a))).flatten=K:=⟨_,rfl⟩
    obtain⟨O,hO⟩:∃ O,(wlL (cut A cA cAN)).flatten=O:=⟨_,rfl⟩
    obtain⟨F,hF⟩:∃ F,(wlL (cut B cB cBN)).flatten=F:=⟨_,rfl⟩
    have lK:=Zck A a (cA-a)
    have lO:=Zck A cA cAN
    have lF:=Zck B cB cBN
    rw[hK] at lK
    rw[hO] at lO
    rw[hF] at lF
    have HK:=fun u (hu:HS u (.slice aa A.length caa) A)=>ZbA (cut A a (cA-a)) (.slice vo (cut A a (cA-a)).length vc) u (hsA u hu) (by have:=@ZaH A a (cA-a);omega) (fun s hs=>HTA.out s (Zcg hs)) K hK (by omega)
    have HO1:=fun u (hu:HS u (.slice aa A.length caa) A)=>ZbA (cut A cA cAN) (.slice vo2 (cut A cA cAN).length vc2) u (hsO u hu) (by have:=@ZaH A cA cAN;omega) (fun s hs=>HTA.out s (Zcg hs)) O hO (by omega)
    have HF1:=fun u (hu:HS u (.slice ab B.length cab) B)=>ZbA (cut B cB cBN) (.slice vo3 (cut B cB cBN).length vc3) u (hsF u hu) (by have:=@ZaH B cB cBN;omega) (fun s hs=>HTB.out s (Zcg hs)) F hF (by omega)
    obtain⟨P0,hP0⟩:∃ P0,P=P0:=⟨_,rfl⟩
    obtain⟨P1,hP1⟩:∃ Z,P++K=Z:=⟨_,rfl⟩
    have nT0:=congrArg List.length hI'
    rw[List.flatten_append,List.length_append,List.length_append,hK] at nT0
    have qK:=Zad (x:=P) (y:=K) (by unfold Fits;omega) Try.prog
    rw[hP1] at qK
    have HR2:Hid (P++K++((ifC nm (cut A cA cAN) (cut B cB cBN)).flatten++(ifR nm A B (cA+cAN) (cB+cBN) (l.drop (k+1))).flatten)=T):=(by
     show _=_
     rw[← hI',← hK]
     simp)
    have nP1:=congrArg List.length hP1
    rw[List.length_append] at nP1
    have HP:Hid (P++K=P1):=hP1
    have HO:Hid ((wlL (cut A cA cAN)).flatten=O):=hO
    have HF:Hid ((wlL (cut B cB cBN)).flatten=F):=hF
    have wAN:IntKind.i64.wrap (cA+cAN)=cA+cAN:=wrap_small _ (by omega) (by omega)
    have wBN:IntKind.i64.wrap (cB+cBN)=cB+cBN:=wrap_small _ (by omega) (by omega)
    clear hK hO hF hP1 hI' hP0 nT0 hsA hsO hsF
    have hzb:wr.heap.size<(wr.alloc (.cells #[.int .i64 cA,.int .i64 cAN,.int .i64 cB,.int .i64 cBN] 48)).heap.size:=hbx.lt
    have hBx:Below w.heap.size w (wr.alloc (.cells #[.int .i64 cA,.int .i64 cAN,.int .i64 cB,.int .i64 cBN] 48)):=hB.alloc hsz _
    have hax:HS (wr.alloc (.cells #[.int .i64 cA,.int .i64 cAN,.int .i64 cB,.int .i64 cBN] 48)) (.slice aa A.length caa) A:=ha.keep hBx (Nat.le_refl _)
    have hbx2:HS (wr.alloc (.cells #[.int .i64 cA,.int .i64 cAN,.int .i64 cB,.int .i64 cBN] 48)) (.slice ab B.length cab) B:=hb.keep hBx (Nat.le_refl _)
    have d0:=hbx.c0
    have d1:=hbx.c1
    have d2:=hbx.c2
    have d3:=hbx.c3
    dsimp only at d0 d1 d2 d3
    go_wp2_with fail
    generalize wr.alloc (.cells #[.int .i64 cA,.int .i64 cAN,.int .i64 cB,.int .i64 cBN] 48)=W at hbx hBx hax hbx2 d0 d1 d2 d3 hzb ⊢
    refine (HK _ hax).mono ?_
    rintro e w3 ⟨rfl,rfl⟩
    clear HK
    have HO2:=fun n=>(HO1 (W.drewN n) hax).mono (fun _ _ ⟨h1,h2⟩=>And.intro h1 h2.symm)
    have HF2:=fun n=>(HF1 (W.drewN n) hbx2).mono (fun _ _ ⟨h1,h2⟩=>And.intro h1 h2.symm)
    clear HO1 HF1
    obtain⟨m2,hm2⟩:∃ m,(cut A cA cAN).length=m:=⟨_,rfl⟩
    obtain⟨m3,hm3⟩:∃ m,(cut B cB cBN).length=m:=⟨_,rfl⟩
    rw[hm2] at hvs2 HO2
    rw[hm3] at hvs3 HF2
    clear hm2 hm3 hax hbx2 hvs lK lO lF hwA hwB
    have hLw:Hid (Below w.heap.size w W):=hBx
    clear hBx hbx
    go_wp2_with fail
    refine wp_region_quiet_lit (by kernel_rfl) (by kernel_rfl) ?_
    iterate 19 quiet_step ((go_at_call 18;exact Calls.quiet_of_same (HO2 _)))
    iterate 3 quiet_step ((go_at_call 18;exact Calls.quiet_of_same (HF2 _)))
    refine wpQuiet_nil ?_
    intro _ hw'
    obtain⟨nq,hw''⟩:=hw'
    subst hw''
    clear HO2 HF2
    have hBy:Below w.heap.size w (W.drewN nq):=Below.dN hLw.out nq
    have d0:(W.drewN nq).cell? ⟨wr.heap.size,0,none⟩=some (.int .i64 cA):=d0
    have d1:(W.drewN nq).cell? ⟨wr.heap.size,1,none⟩=some (.int .i64 cAN):=d1
    have d3:(W.drewN nq).cell? ⟨wr.heap.size,3,none⟩=some (.int .i64 cBN):=d3
    generalize W.drewN nq=W2 at hBy d0 d1 d3 ⊢
    by_cases h3:cBN=0
    ·have b3:(cBN == 0)=true:=beq_iff_eq.2 h3
     have hw:cut B cB cBN=[]:=by rw[h3,Zch]
     have ho:cut A cA cAN≠[]:=ZaI hA0 (by omega) hle1
     rw[hw] at HR2 HF
     have hF0:F=[]:=HF.out.symm
     subst hF0
     obtain⟨Z1,hZ1⟩:∃ Z,P1++([35,105,102,110,100,101,102,32]:List UInt8)=Z:=⟨_,rfl⟩
     have n1:=congrArg List.length hZ1
     simp only[List.length_append,List.length_cons,List.length_nil] at n1
     obtain⟨Z2,hZ2⟩:∃ Z,Z1++nm=Z:=⟨_,rfl⟩
     have n2:=congrArg List.length hZ2
     simp only[List.length_append] at n2
     obtain⟨Z3,hZ3⟩:∃ Z,Z2++([10]:List UInt8)=Z:=⟨_,rfl⟩
     have n3:=congrArg List.length hZ3
     simp only[List.length_append,List.length_cons,List.length_nil] at n3
     obtain⟨Z4,hZ4⟩:∃ Z,Z3++O=Z:=⟨_,rfl⟩
     have n4:=congrArg List.length hZ4
     simp only[List.length_append] at n4
     obtain⟨Z5,hZ5⟩:∃ Z,Z4++([35,101,110,100,105,102,32,47,42,32,33,32]:List UInt8)=Z:=⟨_,rfl⟩
     have n5:=congrArg List.length hZ5
     simp only[List.length_append,List.length_cons,List.length_nil] at n5
     obtain⟨Z6,hZ6⟩:∃ Z,Z5++nm=Z:=⟨_,rfl⟩
     have n6:=congrArg List.length hZ6
     simp only[List.length_append] at n6
     obtain⟨Z7,hZ7⟩:∃ Z,Z6++([32,42,47,10]:List UInt8)=Z:=⟨_,rfl⟩
     have n7:=congrArg List.length hZ7
     simp only[List.length_append,List.length_cons,List.length_nil] at n7
     have HZ:Hid (Z7++(ifR nm A B (cA+cAN) (cB+cBN) (l.drop (k+1))).flatten=T):=(by
      have h:=HR2.out
      rw[ZaV ho] at h
      show _=_
      rw[← h,← hZ7,← hZ6,← hZ5,← hZ4,← hZ3,← hZ2,← hZ1,← HO.out,← HP.out]
      simp[cmT])
     have nT:=congrArg List.length HZ.out
     rw[List.length_append] at nT
     have q1:=Zad (x:=P1) (y:=[35,105,102,110,100,101,102,32]) (by unfold Fits;(try simp only[List.length_cons,List.length_nil]);omega) Try.prog
     rw[hZ1] at q1
     have q2:=Zad (x:=Z1) (y:=nm) (by unfold Fits;(try simp only[List.length_cons,List.length_nil]);omega) Try.prog
     rw[hZ2] at q2
     have q3:=Zad (x:=Z2) (y:=[10]) (by unfold Fits;(try simp only[List.length_cons,List.length_nil]);omega) Try.prog
     rw[hZ3] at q3
     have q4:=Zad (x:=Z3) (y:=O) (by unfold Fits;(try simp only[List.length_cons,List.length_nil]);omega) Try.prog
     rw[hZ4] at q4
     have q5:=Zad (x:=Z4) (y:=[35,101,110,100,105,102,32,47,42,32,33,32]) (by unfold Fits;(try simp only[List.length_cons,List.length_nil]);omega) Try.prog
     rw[hZ5] at q5
     have q6:=Zad (x:=Z5) (y:=nm) (by unfold Fits;(try simp only[List.length_cons,List.length_nil]);omega) Try.prog
     rw[hZ6] at q6
     have q7:=Zad (x:=Z6) (y:=[32,42,47,10]) (by unfold Fits;(try simp only[List.length_cons,List.length_nil]);omega) Try.prog
     rw[hZ7] at q7
     clear HR2 HO HF HP hZ1 hZ2 hZ3 hZ4 hZ5 hZ6 hZ7
     go_wp2
     go_roundw
     case rel=>exact⟨k+1,cA+cAN,cB+cBN,Z7,by omega,rfl,by go_num,by go_num,by omega,by omega,by omega,by omega,hBy,HRt,HZ⟩
     case measure=>simp[intOf];omega
    ·have b3:(cBN == 0)=false:=beq_eq_false_iff_ne.2 h3
     have hw:cut B cB cBN≠[]:=ZaI hB0' (by omega) hle2
     by_cases h1:cAN=0
     ·have b1:(cAN == 0)=true:=beq_iff_eq.2 h1
      have ho:cut A cA cAN=[]:=by rw[h1,Zch]
      rw[ho] at HR2 HO
      obtain⟨Z1,hZ1⟩:∃ Z,P1++([35,105,102,100,101,102,32]:List UInt8)=Z:=⟨_,rfl⟩
      have n1:=congrArg List.length hZ1
      simp only[List.length_append,List.length_cons,List.length_nil] at n1
      obtain⟨Z2,hZ2⟩:∃ Z,Z1++nm=Z:=⟨_,rfl⟩
      have n2:=congrArg List.length hZ2
      simp only[List.length_append] at n2
      obtain⟨Z3,hZ3⟩:∃ Z,Z2++([10]:List UInt8)=Z:=⟨_,rfl⟩
      have n3:=congrArg List.length hZ3
      simp only[List.length_append,List.length_cons,List.length_nil] at n3
      obtain⟨Z4,hZ4⟩:∃ Z,Z3++F=Z:=⟨_,rfl⟩
      have n4:=congrArg List.length hZ4
      simp only[List.length_append] at n4
      obtain⟨Z5,hZ5⟩:∃ Z,Z4++([35,101,110,100,105,102,32,47,42,32]:List UInt8)=Z:=⟨_,rfl⟩
      have n5:=congrArg List.length hZ5
      simp only[List.length_append,List.length_cons,List.length_nil] at n5
      obtain⟨Z6,hZ6⟩:∃ Z,Z5++nm=Z:=⟨_,rfl⟩
      have n6:=congrArg List.length hZ6
      simp only[List.length_append] at n6
      obtain⟨Z7,hZ7⟩:∃ Z,Z6++([32,42,47,10]:List UInt8)=Z:=⟨_,rfl⟩
      have n7:=congrArg List.length hZ7
      simp only[List.length_append,List.length_cons,List.length_nil] at n7
      have HZ:Hid (Z7++(ifR nm A B (cA+cAN) (cB+cBN) (l.drop (k+1))).flatten=T):=(by
       have h:=HR2.out
       rw[ZaX hw] at h
       show _=_
       rw[← h,← hZ7,← hZ6,← hZ5,← hZ4,← hZ3,← hZ2,← hZ1,← HF.out,← HP.out]
       simp[cmT])
      have nT:=congrArg List.length HZ.out
      rw[List.length_append] at nT
      have q1:=Zad (x:=P1) (y:=[35,105,102,100,101,102,32]) (by unfold Fits;(try simp only[List.length_cons,List.length_nil]);omega) Try.prog
      rw[hZ1] at q1
      have q2:=Zad (x:=Z1) (y:=nm) (by unfold Fits;(try simp only[List.length_cons,List.length_nil]);omega) Try.prog
      rw[hZ2] at q2
      have q3:=Zad (x:=Z2) (y:=[10]) (by unfold Fits;(try simp only[List.length_cons,List.length_nil]);omega) Try.prog
      rw[hZ3] at q3
      have q4:=Zad (x:=Z3) (y:=F) (by unfold Fits;(try simp only[List.length_cons,List.length_nil]);omega) Try.prog
      rw[hZ4] at q4
      have q5:=Zad (x:=Z4) (y:=[35,101,110,100,105,102,32,47,42,32]) (by unfold Fits;(try simp only[List.length_cons,List.length_nil]);omega) Try.prog
      rw[hZ5] at q5
      have q6:=Zad (x:=Z5) (y:=nm) (by unfold Fits;(try simp only[List.length_cons,List.length_nil]);omega) Try.prog
      rw[hZ6] at q6
      have q7:=Zad (x:=Z6) (y:=[32,42,47,10]) (by unfold Fits;(try simp only[List.length_cons,List.length_nil]);omega) Try.prog
      rw[hZ7] at q7
      clear HR2 HO HF HP hZ1 hZ2 hZ3 hZ4 hZ5 hZ6 hZ7
      go_wp2
      go_roundw
      case rel=>exact⟨k+1,cA+cAN,cB+cBN,Z7,by omega,rfl,by go_num,by go_num,by omega,by omega,by omega,by omega,hBy,HRt,HZ⟩
      case measure=>simp[intOf];omega
     ·have b1:(cAN == 0)=false:=beq_eq_false_iff_ne.2 h1
      have ho:cut A cA cAN≠[]:=ZaI hA0 (by omega) hle1
      obtain⟨Z1,hZ1⟩:∃ Z,P1++([35,105,102,110,100,101,102,32]:List UInt8)=Z:=⟨_,rfl⟩
      have n1:=congrArg List.length hZ1
      simp only[List.length_append,List.length_cons,List.length_nil] at n1
      obtain⟨Z2,hZ2⟩:∃ Z,Z1++nm=Z:=⟨_,rfl⟩
      have n2:=congrArg List.length hZ2
      simp only[List.length_append] at n2
      obtain⟨Z3,hZ3⟩:∃ Z,Z2++([10]:List UInt8)=Z:=⟨_,rfl⟩
      have n3:=congrArg List.length hZ3
      simp only[List.length_append,List.length_cons,List.length_nil] at n3
      obtain⟨Z4,hZ4⟩:∃ Z,Z3++O=Z:=⟨_,rfl⟩
      have n4:=congrArg List.length hZ4
      simp only[List.length_append] at n4
      obtain⟨Z5,hZ5⟩:∃ Z,Z4++([35,101,108,115,101,32,47,42,32]:List UInt8)=Z:=⟨_,rfl⟩
      have n5:=congrArg List.length hZ5
      simp only[List.length_append,List.length_cons,List.length_nil] at n5
      obtain⟨Z6,hZ6⟩:∃ Z,Z5++nm=Z:=⟨_,rfl⟩
      have n6:=congrArg List.length hZ6
      simp only[List.length_append] at n6
      obtain⟨Z7,hZ7⟩:∃ Z,Z6++([32,42,47,10]:List UInt8)=Z:=⟨_,rfl⟩
      have n7:=congrArg List.length hZ7
      simp only[List.length_append,List.length_cons,List.length_nil] at n7
      obtain⟨Z8,hZ8⟩:∃ Z,Z7++F=Z:=⟨_,rfl⟩
      have n8:=congrArg List.length hZ8
      simp only[List.length_append] at n8
      obtain⟨Z9,hZ9⟩:∃ Z,Z8++([35,101,110,100,105,102,32,47,42,32]:List UInt8)=Z:=⟨_,rfl⟩
      have n9:=congrArg List.length hZ9
      simp only[List.length_append,List.length_cons,List.length_nil] at n9
      obtain⟨Z10,hZ10⟩:∃ Z,Z9++nm=Z:=⟨_,rfl⟩
      have n10:=congrArg List.length hZ10
      simp only[List.length_append] at n10
      obtain⟨Z11,hZ11⟩:∃ Z,Z10++([32,42,47,10]:List UInt8)=Z:=⟨_,rfl⟩
      have n11:=congrArg List.length hZ11
      simp only[List.length_append,List.length_cons,List.length_nil] at n11
      have HZ:Hid (Z11++(ifR nm A B (cA+cAN) (cB+cBN) (l.drop (k+1))).flatten=T):=(by
       have h:=HR2.out
       rw[ZaU ho hw] at h
       show _=_
       rw[← h,← hZ11,← hZ10,← hZ9,← hZ8,← hZ7,← hZ6,← hZ5,← hZ4,← hZ3,← hZ2,← hZ1,← HO.out,← HF.out,← HP.out]
       simp[cmT])
      have nT:=congrArg List.length HZ.out
      rw[List.length_append] at nT
      have q1:=Zad (x:=P1) (y:=[35,105,102,110,100,101,102,32]) (by unfold Fits;(try simp only[List.length_cons,List.length_nil]);omega) Try.prog
      rw[hZ1] at q1
      have q2:=Zad (x:=Z1) (y:=nm) (by unfold Fits;(try simp only[List.length_cons,List.length_nil]);omega) Try.prog
      rw[hZ2] at q2
      have q3:=Zad (x:=Z2) (y:=[10]) (by unfold Fits;(try simp only[List.length_cons,List.length_nil]);omega) Try.prog
      rw[hZ3] at q3
      have q4:=Zad (x:=Z3) (y:=O) (by unfold Fits;(try simp only[List.length_cons,List.length_nil]);omega) Try.prog
      rw[hZ4] at q4
      have q5:=Zad (x:=Z4) (y:=[35,101,108,115,101,32,47,42,32]) (by unfold Fits;(try simp only[List.length_cons,List.length_nil]);omega) Try.prog
      rw[hZ5] at q5
      have q6:=Zad (x:=Z5) (y:=nm) (by unfold Fits;(try simp only[List.length_cons,List.length_nil]);omega) Try.prog
      rw[hZ6] at q6
      have q7:=Zad (x:=Z6) (y:=[32,42,47,10]) (by unfold Fits;(try simp only[List.length_cons,List.length_nil]);omega) Try.prog
      rw[hZ7] at q7
      have q8:=Zad (x:=Z7) (y:=F) (by unfold Fits;(try simp only[List.length_cons,List.length_nil]);omega) Try.prog
      rw[hZ8] at q8
      have q9:=Zad (x:=Z8) (y:=[35,101,110,100,105,102,32,47,42,32]) (by unfold Fits;(try simp only[List.length_cons,List.length_nil]);omega) Try.prog
      rw[hZ9] at q9
      have q10:=Zad (x:=Z9) (y:=nm) (by unfold Fits;(try simp only[List.length_cons,List.length_nil]);omega) Try.prog
      rw[hZ10] at q10
      have q11:=Zad (x:=Z10) (y:=[32,42,47,10]) (by unfold Fits;(try simp only[List.length_cons,List.length_nil]);omega) Try.prog
      rw[hZ11] at q11
      clear HR2 HO HF HP hZ1 hZ2 hZ3 hZ4 hZ5 hZ6 hZ7 hZ8 hZ9 hZ10 hZ11
      go_wp2
      go_roundw
      case rel=>exact⟨k+1,cA+cAN,cB+cBN,Z11,by omega,rfl,by go_num,by go_num,by omega,by omega,by omega,by omega,hBy,HRt,HZ⟩
      case measure=>simp[intOf];omega
   ·have ek:k=l.length:=by omega
    have hend:¬ (k:Int)<(l.length:Int):=by omega
    have hI':=HI.out
    rw[List.drop_of_length_le (by omega),Zbc] at hI'
    obtain⟨vo,vc,hvs,hsA⟩:=ZbF A aa caa a ha0 han wr haw
    obtain⟨K,hK⟩:∃ K,(wlL (cut A a (A.length-a))).flatten=K:=⟨_,rfl⟩
    have lK:=Zck A a (A.length-a)
    have hwA:=HWA.out
    rw[hK] at lK hI'
    have HK:=ZbA (cut A a (A.length-a)) (.slice vo (cut A a (A.length-a)).length vc) wr (hsA wr haw) (by have:=@ZaH A a (A.length-a);omega) (fun s hs=>HTA.out s (Zcg hs)) K hK (by omega)
    have nT0:=congrArg List.length hI'
    rw[List.length_append] at nT0
    have qK:=Zad (x:=P) (y:=K) (by unfold Fits;omega) Try.prog
    rw[hI'] at qK
    clear hI' HI HRi hsA
    go_wp2_with fail
    refine HK.mono ?_
    rintro e w3 ⟨rfl,rfl⟩
    clear HK
    go_wp2
    go_ret2
    exact⟨rfl,hB⟩
 ·rw[if_pos hq0] at hR
  subst hR
  rw[if_neg hq0] at hTT
  subst hTT
  have hqb:(q != 0)=true:=bne_iff_ne.2 hq0
  go_enter Try.func5,Try.ntmps5
  go_wp2_with fail
  refine hck.mono ?_
  rintro e w1 ⟨rfl,hb1⟩
  clear hck
  go_wp2
  go_ret2
  exact⟨rfl,hb1⟩
end

section
open Go.RowKit Go.Proofs.Ytcnjephlmcnodaa.Tx
attribute [local go_sem] Zbn
theorem ZaL {u:World} {v v':Value} {p q:Int} (hr:∀ u:World,(Instr.slice 23 v (some (.int .i64 p)) (some (.int .i64 q)) none).run Try.prog u=.ok v' u) (hv:∃ ao n c,v=.slice ao n c) {op:Oper} (x y z:Operand) (ho:op.op=.slice 23 x (some y) (some z) none) {ev:Operand→Value} (hx:ev x=v) (hy:ev y=.int .i64 p) (hz:ev z=.int .i64 q) :
  (execOp ev op).run Try.prog u=.ok (.value v') u:=by
 obtain⟨ao,n,c,rfl⟩:=hv
 have h2:=run_sliceAt_slice (P:=Try.prog) (w:=u) 23 (.slice ao n c) (some (.int .i64 p)) (some (.int .i64 q)) none (by kernel_rfl)
 simp only[execOp,ho,hx,hy,hz,Option.map_some,Option.map_none,Sem.run_bind,h2,hr u,Result.andThen_ok,Sem.run_pure]
theorem ZaK {u:World} {v v':Value} {p:Int} (hr:∀ u:World,(Instr.slice 23 v (some (.int .i64 p)) none none).run Try.prog u=.ok v' u) (hv:∃ ao n c,v=.slice ao n c) {op:Oper} (x y:Operand) (ho:op.op=.slice 23 x (some y) none none) {ev:Operand→Value} (hx:ev x=v) (hy:ev y=.int .i64 p) :
  (execOp ev op).run Try.prog u=.ok (.value v') u:=by
 obtain⟨ao,n,c,rfl⟩:=hv
 have h2:=run_sliceAt_slice (P:=Try.prog) (w:=u) 23 (.slice ao n c) (some (.int .i64 p)) none none (by kernel_rfl)
 simp only[execOp,ho,hx,hy,Option.map_some,Option.map_none,Sem.run_bind,h2,hr u,Result.andThen_ok,Sem.run_pure]
theorem Zcd {u:World} {p q r:Int} (h:IntKind.i64.wrap (p+q)=r) {op:Oper} (x l:Operand) (ho:op.op=.binOp .add 3 x l 3) {ev:Operand→Value} (hx:ev x=.int .i64 p) (hl:ev l=.int .i64 q) :
  (execOp ev op).run Try.prog u=.ok (.value (.int .i64 r)) u:=by
 subst h
 simp only[execOp,ho,hx,hl]
 go_simp
def Wrt (w:World) (b:Nat) (RS:List (Nat × Obj)) (A B:List (List UInt8)) (F:Nat) (cF:Array Value) (same:Bool) (kp:List (List UInt8)→List (List UInt8)→List UInt8):Prop :=
 ∀ (R2:List (Nat × Obj)) (T Z:List UInt8) (X Y:List (List UInt8)) (vx vy:Value) (u:World),Vsd w b (R2++RS) T u→(∀ T' u',Vsd w b (R2++RS) T' u'→HS u' vx X)→(∀ T' u',Vsd w b (R2++RS) T' u'→HS u' vy Y)→(same=true→X.length=Y.length)→(same=false→X=[]→Y=[]→False)→(∀ s∈X,s∈A)→(∀ s∈Y,s∈B)→X.length≤A.length→Y.length≤B.length→Hid (T++kp X Y=Z)→Z.length≤70368744177664 →
  Calls Try.prog F (#[vx,vy]++cF) u fun e u'=>e=.returned (.tuple #[])∧Vsd w b (R2++RS) Z u'
def thR (kp cp:List (List UInt8)→List (List UInt8)→List UInt8) (A B:List (List UInt8)) (a b:Int) (l:List Ch):List UInt8 :=
 ((piecesL a b A.length B.length l).map fun x=>kp (cut A x.1.a x.1.n) (cut B x.1.b x.1.n)++cp (cut A x.2.A x.2.AN) (cut B x.2.B x.2.BN)).flatten
theorem ZbL (kp cp:List (List UInt8)→List (List UInt8)→List UInt8) (A B:List (List UInt8)) (a b:Int) (c:Ch) (l:List Ch) (h:c.A-a=c.B-b) :
  thR kp cp A B a b (c::l)=kp (cut A a (c.A-a)) (cut B b (c.B-b))++(cp (cut A c.A c.AN) (cut B c.B c.BN)++thR kp cp A B (c.A+c.AN) (c.B+c.BN) l):=by
 rw[← h]
 simp[thR,piecesL]
theorem ZbN (kp cp:List (List UInt8)→List (List UInt8)→List UInt8) (A B:List (List UInt8)) (a b:Int) (hcp:cp [] []=[]) (h:A.length-a=B.length-b):thR kp cp A B a b []=kp (cut A a (A.length-a)) (cut B b (B.length-b)):=by
 rw[← h]
 simp[thR,piecesL,Zch,hcp]
theorem ZbO (l:List Ch) (A B:List (List UInt8)) (v va vb:Value) (w:World) (b:Nat) (RS:List (Nat × Obj)) (F G:Nat) (cF cG:Array Value) (eF:∀ args w,(callFunc F args).run Try.prog w=.ok (.enter F args) w) (eG:∀ args w,(callFunc G args).run Try.prog w=.ok (.enter G args) w)
  (kp cp:List (List UInt8)→List (List UInt8)→List UInt8) (hcp:cp [] []=[]) (HF:Hid (Wrt w b RS A B F cF true kp)) (HG:Hid (Wrt w b RS A B G cG false cp)) (u0:World) (T0 T:List UInt8) (h0:Vsd w b RS T0 u0) (hl:HCh w v l) (ha:HS w va A) (hb:HS w vb B) (hS:Script l A.length B.length)
  (hll:l.length≤1099511627776) (hla:A.length≤1099511627776) (hlb:B.length≤1099511627776) (HT:Hid (T0++thR kp cp A B 0 0 l=T)) (hT:T.length≤70368744177664) :
  Calls Try.prog 14 #[v,va,vb,.func (.func F) #[] cF,.func (.func G) #[] cG] u0 fun e u'=>e=.returned (.tuple #[])∧Vsd w b RS T u':=by
 obtain⟨ao,ca,rfl⟩:=Holds.form hl
 obtain⟨aa,caa,rfl⟩:=Holds.form ha
 obtain⟨ab,cab,rfl⟩:=Holds.form hb
 have HS0:Hid (Right true 0 0 A.length B.length l):=hS.2.2
 have HT0:Hid (T0++thR kp cp A B 0 0 (l.drop 0)=T):=HT.out
 have HCP:Hid (cp [] []=[]):=hcp
 clear hS HT hcp
 go_enter Try.func14,Try.ntmps14
 go_wp2
 go_loopw [10,11,16] (fun av bv iv wr=>∃ (k:Nat) (a c:Int) (P:List UInt8),k≤l.length∧av=.int .i64 a∧bv=.int .i64 c∧iv=.int .i64 (k:Int)∧0≤a∧a≤A.length∧0≤c∧c≤B.length∧Vsd w b RS P wr∧Hid (Right (decide (k=0)) a c A.length B.length (l.drop k))∧Hid (P++thR kp cp A B a c (l.drop k)=T)) (fun _ _ iv _=>l.length-(intOf iv).toNat)
 case atStart=>exact⟨0,0,0,T0,Nat.zero_le _,rfl,rfl,rfl,by omega,by omega,by omega,by omega,h0,HS0,HT0⟩
 case round =>
 clear HS0 HT0 h0
 obtain⟨k,a,c,P,hk,rfl,rfl,rfl,ha0,han,hb0,hbm,hP,HRi,HI⟩:=hrel
 have hB:=hP.low
 have haw:HS wr (.slice aa A.length caa) A:=ha.keep hB (Nat.le_refl _)
 have hbw:HS wr (.slice ab B.length cab) B:=hb.keep hB (Nat.le_refl _)
 have hsz:=hB.size
 by_cases hlt:k<l.length
 ·obtain⟨bk,off,rfl,hbk,hc⟩:=HCh.at (HCh.keep hl hB (Nat.le_refl _)) (by omega)
  obtain⟨c0,c1,c2,c3⟩:=hc k hlt
  have hR':=HRi.out
  have hI':=HI.out
  rw[List.drop_eq_getElem_cons hlt] at hR' hI'
  obtain⟨cc,hcd⟩:∃ c,l[k]=c:=⟨_,rfl⟩
  rw[hcd] at hR' hI' c0 c1 c2 c3
  clear hc hcd HRi HI
  have hnum:=hR'.1.1
  rw[Zbo] at hnum
  have hle:=hR'.2.le
  have hAa:=hR'.1.2.2.1
  have hab:=hR'.1.2.1
  rw[ZbL _ _ _ _ _ _ _ _ (by omega)] at hI'
  have HRt:Hid (Right (decide (k+1=0)) (cc.A+cc.AN) (cc.B+cc.BN) A.length B.length (l.drop (k+1))):=(by
   rw[show decide (k+1=0)=false by simp]
   exact hR'.2)
  clear hR'
  obtain⟨cA,cAN,cB,cBN⟩:=cc
  dsimp only at c0 c1 c2 c3 hnum hle hAa hab HRt hI'
  obtain⟨⟨hA0,hA1⟩,⟨hAN0,hAN1⟩,⟨hB0',hB1⟩,⟨hBN0,hBN1⟩,hpos⟩:=hnum
  obtain⟨hle1,hle2,_⟩:=hle
  have i1:0≤(k:Int):=by omega
  have i2:(k:Int)<(l.length:Int):=by omega
  obtain⟨k1,n1,hk1,hs1⟩:=ZbG A aa caa a cA ha0 hAa (by omega) wr haw
  obtain⟨k2,n2,hk2,hs2⟩:=ZbG B ab cab c cB hb0 (by omega) (by omega) wr hbw
  obtain⟨v3,hk3,hs3⟩:=ZbE A aa caa cA cAN hA0 hAN0 hle1 wr haw
  obtain⟨k3,n3,rfl⟩:=Holds.form (hs3 wr haw)
  obtain⟨v4,hk4,hs4⟩:=ZbE B ab cab cB cBN hB0' hBN0 hle2 wr hbw
  obtain⟨k4,n4,rfl⟩:=Holds.form (hs4 wr hbw)
  obtain⟨P1,hP1⟩:∃ Z,P++kp (cut A a (cA-a)) (cut B c (cB-c))=Z:=⟨_,rfl⟩
  obtain⟨P2,hP2⟩:∃ Z,P1++cp (cut A cA cAN) (cut B cB cBN)=Z:=⟨_,rfl⟩
  have HI2:Hid (P2++thR kp cp A B (cA+cAN) (cB+cBN) (l.drop (k+1))=T):=(by
   show _=_
   rw[← hI',← hP2,← hP1]
   simp only[List.append_assoc])
  have z2:P2.length≤70368744177664:=(by have:=congrArg List.length HI2.out;rw[List.length_append] at this;omega)
  have z1:P1.length≤70368744177664:=(by have:=congrArg List.length hP2;rw[List.length_append] at this;omega)
  obtain⟨BX,hBX⟩:∃ X:Nat × Obj,X=(wr.heap.size,.cells #[.int .i64 cA,.int .i64 cAN,.int .i64 cB,.int .i64 cBN] 48):=⟨_,rfl⟩
  have hS1:Vsd w b (BX::RS) P (wr.alloc (.cells #[.int .i64 cA,.int .i64 cAN,.int .i64 cB,.int .i64 cBN] 48)):=(by rw[hBX];exact hP.more _)
  have hC1:=fun u (h:Vsd w b (BX::RS) P u)=>HF.out [BX] P P1 _ _ _ _ u h (fun _ u' h=>hs1 u' (ha.keep h.low (Nat.le_refl _))) (fun _ u' h=>hs2 u' (hb.keep h.low (Nat.le_refl _))) (fun _=>by
    have e1:((cut A a (cA-a)).length:Int)=cA-a:=ZaR ha0 (by omega) (by omega)
    have e2:((cut B c (cB-c)).length:Int)=cB-c:=ZaR hb0 (by omega) (by omega)
    omega) (fun q=>by cases q) (fun s hs=>Zcg hs) (fun s hs=>Zcg hs) ZaH ZaH hP1 z1
  have hC2:=fun u (h:Vsd w b (BX::RS) P1 u)=>HG.out [BX] P1 P2 _ _ _ _ u h (fun _ u' h=>hs3 u' (ha.keep h.low (Nat.le_refl _))) (fun _ u' h=>hs4 u' (hb.keep h.low (Nat.le_refl _))) (fun q=>by cases q) (fun _ e1 e2=>by
    rcases hpos with q | q
    ·exact ZaI hA0 q hle1 e1
    ·exact ZaI hB0' q hle2 e2) (fun s hs=>Zcg hs) (fun s hs=>Zcg hs) ZaH ZaH hP2 z2
  have hBO:(wr.heap.size,Obj.cells #[.int .i64 cA,.int .i64 cAN,.int .i64 cB,.int .i64 cBN] 48)∈BX::RS:=(by rw[hBX];simp)
  have wAN:IntKind.i64.wrap (cA+cAN)=cA+cAN:=wrap_small _ (by omega) (by omega)
  have wBN:IntKind.i64.wrap (cB+cBN)=cB+cBN:=wrap_small _ (by omega) (by omega)
  have b1:BX.1=wr.heap.size:=by rw[hBX]
  have b2:BX.2=.cells #[.int .i64 cA,.int .i64 cAN,.int .i64 cB,.int .i64 cBN] 48:=by rw[hBX]
  clear hI' hs1 hs2 hs3 hs4 hP1 hP2 hBX HF HG
  go_wp2_with fail
  generalize wr.alloc (.cells #[.int .i64 cA,.int .i64 cAN,.int .i64 cB,.int .i64 cBN] 48)=W at hS1 ⊢
  refine wp_region_noPanic ?_
  refine wp_region_held_drew (S:=fun u=>u.heap[wr.heap.size]?=some (.cells #[.int .i64 cA,.int .i64 cAN,.int .i64 cB,.int .i64 cBN] 48)) (by kernel_rfl) (hS1.drew.block hBO) (fun hHeld=>?_)
  refine Y_t 0 20 _ (.func (.func F) #[] cF) rfl (Or.inl ⟨by kernel_rfl,fun u hu=>by kernel_rfl⟩) hHeld ?_
  simp only[Act.put,Y_a,Y_b,Y_c]
  refine Y_t 1 21 _ (.slice aa A.length caa) rfl (Or.inl ⟨by kernel_rfl,fun u hu=>by kernel_rfl⟩) hHeld ?_
  simp only[Act.put,Y_a,Y_b,Y_c]
  refine Y_t 2 22 _ (.int .i64 a) rfl (Or.inl ⟨by kernel_rfl,fun u hu=>by kernel_rfl⟩) hHeld ?_
  simp only[Act.put,Y_a,Y_b,Y_c]
  refine Y_t 3 23 _ (.pointer (some ⟨wr.heap.size,0,none⟩)) rfl (Or.inl ⟨by kernel_rfl,fun u hu=>by kernel_rfl⟩) hHeld ?_
  simp only[Act.put,Y_a,Y_b,Y_c]
  refine Y_t 4 24 _ (.int .i64 cA) rfl (Or.inl ⟨by kernel_rfl,fun u hu=>Zbe (a:=⟨wr.heap.size,0,none⟩) (by rw[Lib.cell_of_heap hu];rfl) (.tmp 23) (by kernel_rfl) (by kernel_rfl)⟩) hHeld ?_
  simp only[Act.put,Y_a,Y_b,Y_c]
  refine Y_t 5 25 _ (.slice k1 (cut A a (cA-a)).length n1) rfl (Or.inl ⟨by kernel_rfl,fun u hu=>ZaL hk1 ⟨_,_,_,rfl⟩ (.tmp 21) (.tmp 22) (.tmp 24) (by kernel_rfl) (by kernel_rfl) (by kernel_rfl) (by kernel_rfl)⟩) hHeld ?_
  simp only[Act.put,Y_a,Y_b,Y_c]
  refine Y_t 6 26 _ (.slice ab B.length cab) rfl (Or.inl ⟨by kernel_rfl,fun u hu=>by kernel_rfl⟩) hHeld ?_
  simp only[Act.put,Y_a,Y_b,Y_c]
  refine Y_t 7 27 _ (.int .i64 c) rfl (Or.inl ⟨by kernel_rfl,fun u hu=>by kernel_rfl⟩) hHeld ?_
  simp only[Act.put,Y_a,Y_b,Y_c]
  refine Y_t 8 28 _ (.pointer (some ⟨wr.heap.size,2,none⟩)) rfl (Or.inl ⟨by kernel_rfl,fun u hu=>by kernel_rfl⟩) hHeld ?_
  simp only[Act.put,Y_a,Y_b,Y_c]
  refine Y_t 9 29 _ (.int .i64 cB) rfl (Or.inl ⟨by kernel_rfl,fun u hu=>Zbe (a:=⟨wr.heap.size,2,none⟩) (by rw[Lib.cell_of_heap hu];rfl) (.tmp 28) (by kernel_rfl) (by kernel_rfl)⟩) hHeld ?_
  simp only[Act.put,Y_a,Y_b,Y_c]
  refine Y_t 10 30 _ (.slice k2 (cut B c (cB-c)).length n2) rfl (Or.inl ⟨by kernel_rfl,fun u hu=>ZaL hk2 ⟨_,_,_,rfl⟩ (.tmp 26) (.tmp 27) (.tmp 29) (by kernel_rfl) (by kernel_rfl) (by kernel_rfl) (by kernel_rfl)⟩) hHeld ?_
  simp only[Act.put,Y_a,Y_b,Y_c]
  refine Y_e 11 31 _ rfl F (.tmp 20) #[.tmp 25,.tmp 30] #[23,23] (by kernel_rfl) cF (by kernel_rfl) #[.slice k1 (cut A a (cA-a)).length n1,.slice k2 (cut B c (cB-c)).length n2] (by kernel_rfl) eF (fun v w'=>v=.tuple #[]∧Vsd w b (BX::RS) P1 w') ((hC1 _ hS1.drew).mono (fun e u' h=>⟨_,h.1,h.2.block hBO,rfl,h.2⟩)) ?_
  rintro v2 w2 hHeld ⟨rfl,hS2⟩
  simp only[Act.put,Y_a,Y_b,Y_c]
  refine wpAnyH_done (by kernel_rfl) ?_ _
  refine NoPanic.normal ?_
  clear hC1 hS1 hHeld
  go_wp2_with fail
  refine wp_region_noPanic ?_
  refine wp_region_held_drew (S:=fun u=>u.heap[wr.heap.size]?=some (.cells #[.int .i64 cA,.int .i64 cAN,.int .i64 cB,.int .i64 cBN] 48)) (by kernel_rfl) (hS2.drew.block hBO) (fun hHeld=>?_)
  refine Y_t 0 32 _ (.pointer (some ⟨wr.heap.size,0,none⟩)) rfl (Or.inl ⟨by kernel_rfl,fun u hu=>by kernel_rfl⟩) hHeld ?_
  simp only[Act.put,Y_a,Y_b,Y_c]
  refine Y_t 1 33 _ (.int .i64 cA) rfl (Or.inl ⟨by kernel_rfl,fun u hu=>Zbe (a:=⟨wr.heap.size,0,none⟩) (by rw[Lib.cell_of_heap hu];rfl) (.tmp 32) (by kernel_rfl) (by kernel_rfl)⟩) hHeld ?_
  simp only[Act.put,Y_a,Y_b,Y_c]
  refine Y_t 2 34 _ (.pointer (some ⟨wr.heap.size,1,none⟩)) rfl (Or.inl ⟨by kernel_rfl,fun u hu=>by kernel_rfl⟩) hHeld ?_
  simp only[Act.put,Y_a,Y_b,Y_c]
  refine Y_t 3 35 _ (.int .i64 cAN) rfl (Or.inl ⟨by kernel_rfl,fun u hu=>Zbe (a:=⟨wr.heap.size,1,none⟩) (by rw[Lib.cell_of_heap hu];rfl) (.tmp 34) (by kernel_rfl) (by kernel_rfl)⟩) hHeld ?_
  simp only[Act.put,Y_a,Y_b,Y_c]
  refine Y_t 4 36 _ (.int .i64 (cA+cAN)) rfl (Or.inl ⟨by kernel_rfl,fun u hu=>Zcd wAN (.tmp 33) (.tmp 35) (by kernel_rfl) (by kernel_rfl) (by kernel_rfl)⟩) hHeld ?_
  simp only[Act.put,Y_a,Y_b,Y_c]
  refine Y_t 5 37 _ (.pointer (some ⟨wr.heap.size,2,none⟩)) rfl (Or.inl ⟨by kernel_rfl,fun u hu=>by kernel_rfl⟩) hHeld ?_
  simp only[Act.put,Y_a,Y_b,Y_c]
  refine Y_t 6 38 _ (.int .i64 cB) rfl (Or.inl ⟨by kernel_rfl,fun u hu=>Zbe (a:=⟨wr.heap.size,2,none⟩) (by rw[Lib.cell_of_heap hu];rfl) (.tmp 37) (by kernel_rfl) (by kernel_rfl)⟩) hHeld ?_
  simp only[Act.put,Y_a,Y_b,Y_c]
  refine Y_t 7 39 _ (.pointer (some ⟨wr.heap.size,3,none⟩)) rfl (Or.inl ⟨by kernel_rfl,fun u hu=>by kernel_rfl⟩) hHeld ?_
  simp only[Act.put,Y_a,Y_b,Y_c]
  refine Y_t 8 40 _ (.int .i64 cBN) rfl (Or.inl ⟨by kernel_rfl,fun u hu=>Zbe (a:=⟨wr.heap.size,3,none⟩) (by rw[Lib.cell_of_heap hu];rfl) (.tmp 39) (by kernel_rfl) (by kernel_rfl)⟩) hHeld ?_
  simp only[Act.put,Y_a,Y_b,Y_c]
  refine Y_t 9 41 _ (.int .i64 (cB+cBN)) rfl (Or.inl ⟨by kernel_rfl,fun u hu=>Zcd wBN (.tmp 38) (.tmp 40) (by kernel_rfl) (by kernel_rfl) (by kernel_rfl)⟩) hHeld ?_
  simp only[Act.put,Y_a,Y_b,Y_c]
  refine Y_t 10 10 _ (.int .i64 (cA+cAN)) rfl (Or.inl ⟨by kernel_rfl,fun u hu=>by kernel_rfl⟩) hHeld ?_
  simp only[Act.put,Y_a,Y_b,Y_c]
  refine Y_t 11 11 _ (.int .i64 (cB+cBN)) rfl (Or.inl ⟨by kernel_rfl,fun u hu=>by kernel_rfl⟩) hHeld ?_
  simp only[Act.put,Y_a,Y_b,Y_c]
  refine wpAnyH_done (by kernel_rfl) ?_ _
  refine NoPanic.normal ?_
  have hS2:=hS2.drew
  generalize w2.drew=w2 at hS2 ⊢
  clear hHeld
  go_wp2_with fail
  refine wp_region_noPanic ?_
  refine wp_region_held_drew (S:=fun u=>u.heap[wr.heap.size]?=some (.cells #[.int .i64 cA,.int .i64 cAN,.int .i64 cB,.int .i64 cBN] 48)) (by kernel_rfl) (hS2.drew.block hBO) (fun hHeld=>?_)
  refine Y_t 0 42 _ (.func (.func G) #[] cG) rfl (Or.inl ⟨by kernel_rfl,fun u hu=>by kernel_rfl⟩) hHeld ?_
  simp only[Act.put,Y_a,Y_b,Y_c]
  refine Y_t 1 43 _ (.slice aa A.length caa) rfl (Or.inl ⟨by kernel_rfl,fun u hu=>by kernel_rfl⟩) hHeld ?_
  simp only[Act.put,Y_a,Y_b,Y_c]
  refine Y_t 2 44 _ (.pointer (some ⟨wr.heap.size,0,none⟩)) rfl (Or.inl ⟨by kernel_rfl,fun u hu=>by kernel_rfl⟩) hHeld ?_
  simp only[Act.put,Y_a,Y_b,Y_c]
  refine Y_t 3 45 _ (.int .i64 cA) rfl (Or.inl ⟨by kernel_rfl,fun u hu=>Zbe (a:=⟨wr.heap.size,0,none⟩) (by rw[Lib.cell_of_heap hu];rfl) (.tmp 44) (by kernel_rfl) (by kernel_rfl)⟩) hHeld ?_
  simp only[Act.put,Y_a,Y_b,Y_c]
  refine Y_t 4 46 _ (.int .i64 (cA+cAN)) rfl (Or.inl ⟨by kernel_rfl,fun u hu=>by kernel_rfl⟩) hHeld ?_
  simp only[Act.put,Y_a,Y_b,Y_c]
  refine Y_t 5 47 _ (.slice k3 (cut A cA cAN).length n3) rfl (Or.inl ⟨by kernel_rfl,fun u hu=>ZaL hk3 ⟨_,_,_,rfl⟩ (.tmp 43) (.tmp 45) (.tmp 46) (by kernel_rfl) (by kernel_rfl) (by kernel_rfl) (by kernel_rfl)⟩) hHeld ?_
  simp only[Act.put,Y_a,Y_b,Y_c]
  refine Y_t 6 48 _ (.slice ab B.length cab) rfl (Or.inl ⟨by kernel_rfl,fun u hu=>by kernel_rfl⟩) hHeld ?_
  simp only[Act.put,Y_a,Y_b,Y_c]
  refine Y_t 7 49 _ (.pointer (some ⟨wr.heap.size,2,none⟩)) rfl (Or.inl ⟨by kernel_rfl,fun u hu=>by kernel_rfl⟩) hHeld ?_
  simp only[Act.put,Y_a,Y_b,Y_c]
  refine Y_t 8 50 _ (.int .i64 cB) rfl (Or.inl ⟨by kernel_rfl,fun u hu=>Zbe (a:=⟨wr.heap.size,2,none⟩) (by rw[Lib.cell_of_heap hu];rfl) (.tmp 49) (by kernel_rfl) (by kernel_rfl)⟩) hHeld ?_
  simp only[Act.put,Y_a,Y_b,Y_c]
  refine Y_t 9 51 _ (.int .i64 (cB+cBN)) rfl (Or.inl ⟨by kernel_rfl,fun u hu=>by kernel_rfl⟩) hHeld ?_
  simp only[Act.put,Y_a,Y_b,Y_c]
  refine Y_t 10 52 _ (.slice k4 (cut B cB cBN).length n4) rfl (Or.inl ⟨by kernel_rfl,fun u hu=>ZaL hk4 ⟨_,_,_,rfl⟩ (.tmp 48) (.tmp 50) (.tmp 51) (by kernel_rfl) (by kernel_rfl) (by kernel_rfl) (by kernel_rfl)⟩) hHeld ?_
  simp only[Act.put,Y_a,Y_b,Y_c]
  refine Y_e 11 53 _ rfl G (.tmp 42) #[.tmp 47,.tmp 52] #[23,23] (by kernel_rfl) cG (by kernel_rfl) #[.slice k3 (cut A cA cAN).length n3,.slice k4 (cut B cB cBN).length n4] (by kernel_rfl) eG (fun v w'=>v=.tuple #[]∧Vsd w b (BX::RS) P2 w') ((hC2 _ hS2.drew).mono (fun e u' h=>⟨_,h.1,h.2.block hBO,rfl,h.2⟩)) ?_
  rintro v3 w3 hHeld ⟨rfl,hS3⟩
  simp only[Act.put,Y_a,Y_b,Y_c]
  refine wpAnyH_done (by kernel_rfl) ?_ _
  refine NoPanic.normal ?_
  clear hC2 hS2 hHeld
  go_wp2
  exact⟨⟨k+1,cA+cAN,cB+cBN,P2,by omega,rfl,rfl,by go_num,by omega,by omega,by omega,by omega,hS3.less,HRt,HI2⟩,by simp[intOf];omega⟩
 ·have ek:k=l.length:=by omega
  have hend:¬ (k:Int)<(l.length:Int):=by omega
  have hI':=HI.out
  have hR':=HRi.out
  rw[List.drop_of_length_le (by omega)] at hI' hR'
  obtain⟨r1,r2,r3⟩:=hR'
  rw[ZbN _ _ _ _ _ _ HCP.out (by omega)] at hI'
  obtain⟨k1,n1,hk1,hs1⟩:=ZbF A aa caa a ha0 han wr haw
  obtain⟨k2,n2,hk2,hs2⟩:=ZbF B ab cab c hb0 hbm wr hbw
  have hC1:=fun u (h:Vsd w b RS P u)=>HF.out [] P T _ _ _ _ u h (fun _ u' h=>hs1 u' (ha.keep h.low (Nat.le_refl _))) (fun _ u' h=>hs2 u' (hb.keep h.low (Nat.le_refl _))) (fun _=>by
    have e1:((cut A a (A.length-a)).length:Int)=A.length-a:=ZaR ha0 (by omega) (by omega)
    have e2:((cut B c (B.length-c)).length:Int)=B.length-c:=ZaR hb0 (by omega) (by omega)
    omega) (fun q=>by cases q) (fun s hs=>Zcg hs) (fun s hs=>Zcg hs) ZaH ZaH hI' hT
  clear hI' hs1 hs2 HF HG HI HRi
  go_wp2_with fail
  refine wp_region_noPanic ?_
  refine wp_region_held_drew (S:=fun _=>True) (by kernel_rfl) trivial (fun hHeld=>?_)
  refine Y_t 0 55 _ (.func (.func F) #[] cF) rfl (Or.inl ⟨by kernel_rfl,fun u hu=>by kernel_rfl⟩) hHeld ?_
  simp only[Act.put,Y_a,Y_b,Y_c]
  refine Y_t 1 56 _ (.slice aa A.length caa) rfl (Or.inl ⟨by kernel_rfl,fun u hu=>by kernel_rfl⟩) hHeld ?_
  simp only[Act.put,Y_a,Y_b,Y_c]
  refine Y_t 2 57 _ (.int .i64 a) rfl (Or.inl ⟨by kernel_rfl,fun u hu=>by kernel_rfl⟩) hHeld ?_
  simp only[Act.put,Y_a,Y_b,Y_c]
  refine Y_t 3 58 _ (.slice k1 (cut A a (A.length-a)).length n1) rfl (Or.inl ⟨by kernel_rfl,fun u hu=>ZaK hk1 ⟨_,_,_,rfl⟩ (.tmp 56) (.tmp 57) (by kernel_rfl) (by kernel_rfl) (by kernel_rfl)⟩) hHeld ?_
  simp only[Act.put,Y_a,Y_b,Y_c]
  refine Y_t 4 59 _ (.slice ab B.length cab) rfl (Or.inl ⟨by kernel_rfl,fun u hu=>by kernel_rfl⟩) hHeld ?_
  simp only[Act.put,Y_a,Y_b,Y_c]
  refine Y_t 5 60 _ (.int .i64 c) rfl (Or.inl ⟨by kernel_rfl,fun u hu=>by kernel_rfl⟩) hHeld ?_
  simp only[Act.put,Y_a,Y_b,Y_c]
  refine Y_t 6 61 _ (.slice k2 (cut B c (B.length-c)).length n2) rfl (Or.inl ⟨by kernel_rfl,fun u hu=>ZaK hk2 ⟨_,_,_,rfl⟩ (.tmp 59) (.tmp 60) (by kernel_rfl) (by kernel_rfl) (by kernel_rfl)⟩) hHeld ?_
  simp only[Act.put,Y_a,Y_b,Y_c]
  refine Y_e 7 62 _ rfl F (.tmp 55) #[.tmp 58,.tmp 61] #[23,23] (by kernel_rfl) cF (by kernel_rfl) #[.slice k1 (cut A a (A.length-a)).length n1,.slice k2 (cut B c (B.length-c)).length n2] (by kernel_rfl) eF (fun v w'=>v=.tuple #[]∧Vsd w b RS T w') ((hC1 _ hP.drew).mono (fun e u' h=>⟨_,h.1,trivial,rfl,h.2⟩)) ?_
  rintro v3 w3 hHeld ⟨rfl,hS3⟩
  simp only[Act.put,Y_a,Y_b,Y_c]
  refine wpAnyH_done (by kernel_rfl) ?_ _
  refine NoPanic.normal ?_
  go_wp2
  go_end0
  exact⟨rfl,hS3⟩
end

end Go.Proofs.Ytcnjephlmcnodaa
