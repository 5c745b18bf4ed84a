/-
  Texts that belong together, joined: CwD, CqB, CqU, CpA, CpB, CpC, CpD, CpE, CwA, CwB, CwE, CwF, CpF, CpG, CpH, CpI, CpJ, CpK, CpL, CpM, CpN, NpS, CpO, CpP, CwG.
-/
import Derived.Test.YtgiojkhmkeocfaaGreatDoorUnedBA12
import Derived.Lib.IndexAny
import Derived.Laws.RangeAny
import Derived.Test.YtgiojkhmkeocfaaGreatDoorUnedBA11
import Derived.Deep.QuietTactic
import Derived.WalkLawsBesides
import Derived.Deep.DeepCutAuto
import Derived.Deep.CutBlock
import Derived.Test.YtgiojkhmkeocfaaGreatDoorUnedBA5
import Derived.Test.YtgiojkhmkeocfaaGreatDoorUnedBA1
import Derived.Lib.FrozenHead2
import Derived.Test.YtgiojkhmkeocfaaGreatDoorProg
import Derived.Shelf.Strings.Builder1
import Derived.WalkKit
import Derived.WalkSpells
import Derived.BigQuiet
import Derived.Laws.StructEq
import Derived.Test.YtgiojkhmkeocfaaGreatDoorUnedBA4
import Derived.Defers
import Derived.Recover

set_option maxHeartbeats 16000000
set_option maxRecDepth 100000
/- Names as the code writes them in a patch (layer 15), walked. -/
namespace Go.Proofs.YtgiojkhmkeocfaaGreatDoor
open Go.RowKit
attribute [local go_sem] ByteArray.extract_mk
def oddI (r:Int):Bool:=decide (r<33) || decide (126<r) || decide (r=34)
theorem cisOdd_f (r:Int) (w:World) (q:Bool) (HQ:Hid (oddI r=q)):Calls Tryz.prog 109 #[.int .i32 r] w fun e w'=>e=.returned (.bool q)∧w=w':=by
 by_cases h1:r<33
 ·have HE:Hid (true=q):=(by show _=_;rw[← HQ.out];simp[oddI,h1])
  go_enter Tryz.func109,Tryz.ntmps109
  go_wp2
  go_ret
  exact⟨by rw[← HE.out];rfl,rfl⟩
 ·by_cases h2:126<r
  ·have HE:Hid (true=q):=(by show _=_;rw[← HQ.out];simp[oddI,h2])
   go_enter Tryz.func109,Tryz.ntmps109
   go_wp2
   go_ret
   exact⟨by rw[← HE.out];rfl,rfl⟩
  ·have HE:Hid ((r == 34)=q):=(by show _=_;rw[← HQ.out];simp only[oddI,h1,h2,decide_false,Bool.false_or];rfl)
   go_enter Tryz.func109,Tryz.ntmps109
   go_wp2
   go_ret
   exact⟨by rw[← HE.out];rfl,rfl⟩
theorem odd_name (c:UInt8):oddI (c.toNat:Int)=!nameC c:=by
 unfold oddI nameC
 rw[Bool.eq_iff_iff]
 simp only[Bool.or_eq_true,decide_eq_true_eq,Bool.not_eq_true',decide_eq_false_iff_not]
 omega
def oddW:Nat→List UInt8→Int
 | _,[]=>-1
 | k,c::l=>if nameC c=true then oddW (k+1) l else (k:Int)
theorem oddW_all (l:List UInt8):∀ k,decide (0≤oddW k l)=!l.all nameC:=by
 induction l with
 | nil=>intro k;rfl
 | cons c l ih =>
  intro k
  rw[List.all_cons]
  by_cases h:nameC c=true
  ·have e:oddW k (c::l)=oddW (k+1) l:=if_pos h
   rw[e,ih,h]
   rfl
  ·have e:oddW k (c::l)=(k:Int):=if_neg h
   rw[e,Bool.eq_false_iff.2 h]
   simp
theorem oddW_step {l:List UInt8} {k:Nat} (hk:k<l.length):oddW k (l.drop k)=if nameC l[k]=true then oddW (k+1) (l.drop (k+1)) else (k:Int):=by
 rw[List.drop_eq_getElem_cons hk]
 rfl
theorem cindexFunc_f (l:List UInt8) (w:World) (_hl:l.length≤1099511627776) (z:Int) (HZ:Hid (oddW 0 l=z)) :
  Calls Tryz.prog 220 #[.string ⟨l.toArray⟩,.func (.func 109) #[] #[],.bool true] w fun e w'=>e=.returned (.int .i64 z)∧Below w.heap.size w w':=by
 go_enter Tryz.func220,Tryz.ntmps220
 go_wp2
 go_loopw [] (fun wr=>∃ pos:Nat,pos≤l.length∧wr.heap[w.heap.size]?=some (.stringIter ⟨l.toArray⟩ pos)∧Below w.heap.size w wr∧Hid (oddW pos (l.drop pos)=z)) (fun wr=>l.length-wr.iterPos w.heap.size)
 case atStart=>exact⟨0,Nat.zero_le _,World.iter_heap w _ 0,(Below.refl _ w).alloc (Nat.le_refl _) _,HZ⟩
 case round =>
  obtain⟨pos,hp,hit,hbr,HA⟩:=hrel
  have hwl:w.heap.size<wr.heap.size:=(Array.getElem?_eq_some_iff.1 hit).1
  by_cases hlt:pos<l.length
  ·have HS:=HA.out
   rw[oddW_step hlt] at HS
   by_cases ha:l[pos].toNat<128
   ·have hnx:∀ ty,(Instr.next (.pointer (some ⟨w.heap.size,0,none⟩)) true ty).run Tryz.prog wr=_:=fun ty=>Lib.run_next_ascii_at wr w.heap.size ⟨l.toArray⟩ pos ty hit hlt ha
    have hit2:=Lib.iterAt_heap wr w.heap.size ⟨l.toArray⟩ pos (pos+1) hit
    have hbr2:=Lib.below_iterAt hbr (k:=w.heap.size) (Nat.le_refl _) ⟨l.toArray⟩ (pos+1)
    cases hn:nameC l[pos] with
    | true =>
     have HI:Hid (oddW (pos+1) (l.drop (pos+1))=z):=(by rw[hn,if_pos rfl] at HS;exact HS)
     have hc:=fun u=>cisOdd_f (l[pos].toNat:Int) u false (by show _=_;rw[odd_name,hn];rfl)
     clear HS hn HA
     go_wp2_with fail
     refine (hc _).mono ?_
     rintro e w4 ⟨rfl,rfl⟩
     go_wp2
     go_roundw
     case rel=>exact⟨pos+1,by omega,hit2,hbr2,HI⟩
     case measure=>simp only[World.iterPos,hit,hit2];omega
    | false =>
     have HE:Hid ((pos:Int)=z):=(by rw[hn,if_neg (by decide)] at HS;exact HS)
     have hc:=fun u=>cisOdd_f (l[pos].toNat:Int) u true (by show _=_;rw[odd_name,hn];rfl)
     clear HS hn HA
     go_wp2_with fail
     refine (hc _).mono ?_
     rintro e w4 ⟨rfl,rfl⟩
     go_wp2
     go_ret
     exact⟨by rw[HE.out];rfl,hbr2⟩
   ·have hdh:=(decode_high ⟨l.toArray⟩ pos hlt (by show 128≤l[pos].toNat;omega))
    have hnx:∀ ty,(Instr.next (.pointer (some ⟨w.heap.size,0,none⟩)) true ty).run Tryz.prog wr=_:=fun ty=>Lib.run_next_any_at wr w.heap.size ⟨l.toArray⟩ pos ty hit hlt
    have hbr2:=Lib.below_iterAt hbr (k:=w.heap.size) (Nat.le_refl _) ⟨l.toArray⟩ (pos+(Utf8.decode ⟨l.toArray⟩ pos).2)
    have hdl:=decode_le ⟨l.toArray⟩ pos
    have HE:Hid ((pos:Int)=z):=(by
     have hn:nameC l[pos]=false:=(by unfold nameC;exact decide_eq_false (by omega))
     rw[hn,if_neg (by decide)] at HS
     exact HS)
    obtain⟨hd1,hd2⟩:=hdh
    generalize Utf8.decode ⟨l.toArray⟩ pos=dd at *
    have hc:=fun u=>cisOdd_f (dd.1:Int) u true (by
     show _=_
     unfold oddI
     have:decide (126<(dd.1:Int))=true:=decide_eq_true (by omega)
     rw[this]
     simp)
    clear HS HA
    go_wp2_with fail
    refine (hc _).mono ?_
    rintro e w4 ⟨rfl,rfl⟩
    go_wp2
    go_ret
    exact⟨by rw[HE.out];rfl,hbr2⟩
  ·have hnx:∀ ty,(Instr.next (.pointer (some ⟨w.heap.size,0,none⟩)) true ty).run Tryz.prog wr=_:=fun ty=>Lib.run_next_end_at wr w.heap.size ⟨l.toArray⟩ pos ty hit hlt
   have HE:Hid (-1=z):=(by
    have h:=HA.out
    rw[List.drop_of_length_le (by omega)] at h
    exact h)
   clear HA
   go_wp2
   go_ret
   exact⟨by rw[HE.out];rfl,hbr⟩
theorem cIndexFunc_f (l:List UInt8) (w:World) (hl:l.length≤1099511627776) (z:Int) (HZ:Hid (oddW 0 l=z)) :
  Calls Tryz.prog 162 #[.string ⟨l.toArray⟩,.func (.func 109) #[] #[]] w fun e w'=>e=.returned (.int .i64 z)∧Below w.heap.size w w':=by
 go_enter Tryz.func162,Tryz.ntmps162
 go_wp2_with fail
 refine (cindexFunc_f l w hl z HZ).mono ?_
 rintro e w1 ⟨rfl,hB⟩
 go_wp2
 go_ret
 exact⟨rfl,hB⟩
theorem cContainsFunc_f (l:List UInt8) (w:World) (hl:l.length≤1099511627776) (q:Bool) (HQ:Hid ((!l.all nameC)=q)) :
  Calls Tryz.prog 108 #[.string ⟨l.toArray⟩,.func (.func 109) #[] #[]] w fun e w'=>e=.returned (.bool q)∧Below w.heap.size w w':=by
 obtain⟨z,hz⟩:∃ z,oddW 0 l=z:=⟨_,rfl⟩
 have HC:=cIndexFunc_f l w hl z hz
 have HZ:Hid (decide (0≤z)=q):=(by show _=_;rw[← hz,oddW_all];exact HQ.out)
 clear hz HQ
 go_enter Tryz.func108,Tryz.ntmps108
 go_wp2_with fail
 refine HC.mono ?_
 rintro e w1 ⟨rfl,hB⟩
 go_wp2
 go_ret
 exact⟨by rw[HZ.out];rfl,hB⟩
theorem cname_f (l:List UInt8) (w:World) (hl:l.length≤1099511627776) (t:List UInt8) (HT:Hid (nameT l=t)) :
  Calls Tryz.prog 66 #[.string ⟨l.toArray⟩] w fun e w'=>e=.returned (.string ⟨t.toArray⟩)∧Below w.heap.size w w':=by
 by_cases h0:l=[]
 ·have HE:Hid (devN=t):=(by have h:=HT.out;unfold nameT at h;rw[if_pos h0] at h;exact h)
  subst h0
  go_enter Tryz.func66,Tryz.ntmps66
  go_wp2
  go_ret
  exact⟨by rw[← HE.out];rfl,Below.refl _ _⟩
 ·have e0:l.isEmpty=false:=(by cases l with | nil=>exact absurd rfl h0 | cons _ _=>rfl)
  have hq:=Quote_any l
  by_cases h1:l=devN
  ·have HE:Hid (Q.quote l=t):=(by have h:=HT.out;unfold nameT at h;rw[if_neg h0,if_neg (fun q=>q.2 h1)] at h;exact h)
   have e1:(l == [47,100,101,118,47,110,117,108,108])=true:=(by rw[beq_iff_eq];exact h1)
   clear HT h1
   go_enter Tryz.func66,Tryz.ntmps66
   go_wp2_with fail
   refine (hq _ hl).mono ?_
   rintro e w1 ⟨rfl,hB⟩
   go_wp2
   go_ret
   exact⟨by rw[← HE.out];rfl,hB⟩
  ·have e1:(l == [47,100,101,118,47,110,117,108,108])=false:=beq_eq_false_iff_ne.2 h1
   cases hn:l.all nameC with
   | true =>
    have HE:Hid (l=t):=(by have h:=HT.out;unfold nameT at h;rw[if_neg h0,if_pos ⟨hn,h1⟩] at h;exact h)
    have hc:=fun u=>cContainsFunc_f l u hl false (by show _=_;rw[hn];rfl)
    clear HT h1 hn
    go_enter Tryz.func66,Tryz.ntmps66
    go_wp2_with fail
    refine (hc _).mono ?_
    rintro e w1 ⟨rfl,hB⟩
    go_wp2
    go_ret
    exact⟨by rw[← HE.out];rfl,hB⟩
   | false =>
    have HE:Hid (Q.quote l=t):=(by have h:=HT.out;unfold nameT at h;rw[if_neg h0,if_neg (fun q=>by rw[hn] at q;cases q.1)] at h;exact h)
    have hc:=fun u=>cContainsFunc_f l u hl true (by show _=_;rw[hn];rfl)
    clear HT h1 hn
    go_enter Tryz.func66,Tryz.ntmps66
    go_wp2_with fail
    refine (hc _).mono ?_
    rintro e w1 ⟨rfl,hB⟩
    go_wp2_with fail
    refine (hq _ hl).mono ?_
    rintro e w2 ⟨rfl,hB2⟩
    go_wp2
    go_ret
    exact⟨by rw[← HE.out];rfl,hB.trans (hB2.mono hB.size)⟩
end Go.Proofs.YtgiojkhmkeocfaaGreatDoor

/- num.quotedByte, walked. -/
namespace Go.Proofs.YtgiojkhmkeocfaaGreatDoor
open Q Go.RowKit Go.Proofs.YtgiojkhmkeocfaaGreatDoor.Tx
attribute [local go_sem] ba_at hexl_at
theorem idx_hex (x:UInt8):Lib.indexByte [48,49,50,51,52,53,54,55,56,57,97,98,99,100,101,102] x=digitI x.toNat:=by
 have key:∀ i:Fin 256,Lib.indexByte [48,49,50,51,52,53,54,55,56,57,97,98,99,100,101,102] (UInt8.ofNat i.val)=digitI (i.val:Int):=by decide +kernel
 have:=key ⟨x.toNat,x.toNat_lt⟩
 simpa using this
theorem IndexByte_hex (x:UInt8) (w:World) :
  Calls Tryz.prog 272 #[.string ⟨#[48,49,50,51,52,53,54,55,56,57,97,98,99,100,101,102]⟩,.int .u8 (x.toNat:Int)] w fun e w'=>e=.returned (.int .i64 (digitI x.toNat))∧w'=w:=by
 have h:=Tryz.strings_IndexByte ⟨#[48,49,50,51,52,53,54,55,56,57,97,98,99,100,101,102]⟩ (x.toNat:Int) w
 refine h.mono ?_
 rintro e w' ⟨rfl,rfl⟩
 have e:((x.toNat:Int).toNat).toUInt8=x:=by simp
 rw[e,← idx_hex]
 exact⟨rfl,rfl⟩
theorem or_nib (x y:Int) (h0:0≤x) (h1:x≤15) (h2:0≤y) (h3:y≤15):bits BinOp.or IntKind.i64 (x * 16) y % 256=16 * x+y:=by
 have key:∀ i j:Fin 16,bits BinOp.or IntKind.i64 ((i.val:Int) * 16) (j.val:Int) % 256=16 * (i.val:Int)+(j.val:Int):=by decide +kernel
 have:=key ⟨x.toNat,by omega⟩ ⟨y.toNat,by omega⟩
 simp only[Int.toNat_of_nonneg h0,Int.toNat_of_nonneg h2] at this
 exact this
theorem quotedByte_two (a b:UInt8) (t:List UInt8) (w:World) :
  Calls Tryz.prog 246 #[.string ⟨((92:UInt8)::a::b::t).toArray⟩] w fun e w'=>e=.returned (.tuple #[.int .u8 (pv a b),.int .i64 (pn a b)])∧∃ n,w'=w.drewN n:=by
 have hp:plainI 92=false:=by decide
 obtain⟨ha,ha'⟩:=digitI_ge a.toNat
 obtain⟨hb,hb'⟩:=digitI_ge b.toNat
 go_enter Tryz.func246,Tryz.ntmps246
 go_wp2_with fail
 refine (isPlain_any _ _).mono ?_
 rintro e w' ⟨rfl,rfl⟩
 go_wp2_with fail
 go_quiet ((go_at_call 272;exact Calls.quiet_of_same (IndexByte_hex _ _)))
 by_cases h1:digitI a.toNat<0
 ·go_wp2
  go_ret2
  exact⟨ret_two (pv_no (pairOk_lo h1)) (pn_no (pairOk_lo h1)),_,rfl⟩
 ·by_cases h2:digitI b.toNat<0
  ·go_wp2
   go_ret2
   exact⟨ret_two (pv_no (pairOk_hi h2)) (pn_no (pairOk_hi h2)),_,rfl⟩
  ·go_wp2_with fail
   rw[or_nib _ _ (by omega) ha' (by omega) hb']
   refine (isPlain_any _ _).mono ?_
   rintro e w' ⟨rfl,rfl⟩
   have hm:=pairOk_mid (a:=a) (b:=b) (by omega) (by omega)
   have HM:Hid (pairOk a b=!plainI (16 * digitI a.toNat+digitI b.toNat)):=hm
   clear hm
   cases hpl:plainI (16 * digitI a.toNat+digitI b.toNat)
   ·go_wp2
    go_ret2
    have hk:pairOk a b=true:=by rw[HM.out,hpl];rfl
    exact⟨ret_two (pv_yes hk) (pn_yes hk),_,rfl⟩
   ·go_wp2
    go_ret2
    have hk:pairOk a b=false:=by rw[HM.out,hpl];rfl
    exact⟨ret_two (pv_no hk) (pn_no hk),_,rfl⟩
theorem quotedByte_plain (c:UInt8) (t:List UInt8) (w:World) (h:plainI c.toNat=true) :
  Calls Tryz.prog 246 #[.string ⟨(c::t).toArray⟩] w fun e w'=>e=.returned (.tuple #[.int .u8 (c.toNat:Int),.int .i64 1])∧∃ n,w'=w.drewN n:=by
 go_enter Tryz.func246,Tryz.ntmps246
 go_wp2_with fail
 refine (isPlain_any _ _).mono ?_
 rintro e w' ⟨rfl,rfl⟩
 go_wp2
 go_ret2
 exact⟨rfl,0,rfl⟩
theorem quotedByte_none (c:UInt8) (t:List UInt8) (w:World) (h:plainI c.toNat=false) (h2:¬ (c.toNat=92∧2≤t.length)) :
  Calls Tryz.prog 246 #[.string ⟨(c::t).toArray⟩] w fun e w'=>e=.returned (.tuple #[.int .u8 0,.int .i64 0])∧∃ n,w'=w.drewN n:=by
 by_cases h3:c.toNat=92
 ·have hb:((c.toNat:Int) != 92)=false:=by simp;omega
  have hl:((t.length:Int)+1<3):=by omega
  clear h2
  go_enter Tryz.func246,Tryz.ntmps246
  go_wp2_with fail
  refine (isPlain_any _ _).mono ?_
  rintro e w' ⟨rfl,rfl⟩
  go_wp2
  go_ret2
  exact⟨rfl,0,rfl⟩
 ·have hb:((c.toNat:Int) != 92)=true:=by simp;omega
  clear h2
  go_enter Tryz.func246,Tryz.ntmps246
  go_wp2_with fail
  refine (isPlain_any _ _).mono ?_
  rintro e w' ⟨rfl,rfl⟩
  go_wp2
  go_ret2
  exact⟨rfl,0,rfl⟩
end Go.Proofs.YtgiojkhmkeocfaaGreatDoor

/- num.Unquote, walked: what it returns is what the plain function unquote says. -/
namespace Go.Proofs.YtgiojkhmkeocfaaGreatDoor
open Q Go.RowKit Go.Proofs.YtgiojkhmkeocfaaGreatDoor.Tx
attribute [local go_sem] ba_at ByteArray.extract_mk
def sizeS:Value→Nat
 | .string s=>s.data.size
 | _=>0
theorem ret_uq {l a b:List UInt8} {n:Int} (h:uqa l=a∧uqb l=b∧uqe l=n):Ending.returned (.tuple #[.string ⟨a.toArray⟩,.string ⟨b.toArray⟩,.int .i64 n])=.returned (.tuple #[.string ⟨(uqa l).toArray⟩,.string ⟨(uqb l).toArray⟩,.int .i64 (uqe l)]):=by
 rw[h.1,h.2.1,h.2.2]
theorem Unquote_body (l:List UInt8) (w:World) (hl:l.length≤1099511627776) :
  Calls Tryz.prog 202 #[.string ⟨((34:UInt8)::l).toArray⟩] w fun e w'=>e=.returned (.tuple #[.string ⟨(uqa (34::l)).toArray⟩,.string ⟨(uqb (34::l)).toArray⟩,.int .i64 (uqe (34::l))])∧Below w.heap.size w w':=by
 have HU:Hid (unquote (34::l)=body l):=by show unquote (34::l)=body l;simp[unquote]
 go_enter Tryz.func202,Tryz.ntmps202
 go_wp2
 go_loopw [6] (fun rest wr=>∃ (r acc:List UInt8) (v:Value),rest=.string ⟨r.toArray⟩∧Bld 77 5 w.heap.size w.heap.size v (Lib.byteCells acc) wr∧Below w.heap.size w wr∧body l=(body r).map (fun p=>(acc++p.1,p.2))∧acc.length+r.length≤l.length) (fun rest _=>sizeS rest)
 case atStart=>exact⟨l,[],_,rfl,Bld.fresh 77 5 w,(Below.refl _ w).alloc (Nat.le_refl _) _,by simp,by simp⟩
 case round =>
  obtain⟨r,acc,v,rfl,hB,hbr,hbody,hal⟩:=hrel
  have HB:Hid (body l=(body r).map (fun p=>(acc++p.1,p.2))):=hbody
  clear hbody
  match r,hal,HB with
  | [],hal,HB =>
   go_wp2
   go_ret3
   exact⟨ret_uq (uq_none (by rw[HU.out,HB.out];rfl)),hbr⟩
  | c::t,hal,HB =>
   have hc:=c.toNat_lt
   by_cases h34:c.toNat=34
   ·have hb:((c.toNat:Int) != 34)=false:=by simp;omega
    have HE:Hid (unquote (34::l)=some (acc,t)):=by
     show unquote (34::l)=some (acc,t)
     rw[HU.out,HB.out,body_end t h34];simp
    clear h34
    have hI:Lib.IsBuilderF 77 5 w.heap.size w.heap.size (Lib.byteCells acc) wr.drew:=hB.isF
    have hsz:w.heap.size≤wr.drew.heap.size:=hbr.size
    go_wp2_with fail
    go_region_with (go_at_call 41;refine (Tryz.Builder_String_any_k w.heap.size w.heap.size acc _ hI hsz).mono ?_;rintro e w4 ⟨rfl,_,hb4,_⟩)
    all_goals
     go_wp2
     go_ret3
     exact⟨ret_uq (uq_some HE.out),hbr.drew.trans hb4⟩
   ·have hb:((c.toNat:Int) != 34)=true:=by simp;omega
    cases hpl:plainI c.toNat
    ·by_cases h92:c.toNat=92∧2≤t.length
     ·match t,hal,HB,h92 with
      | a::b::t,hal,HB,⟨h92,_⟩ =>
       obtain rfl:c=92:=UInt8.toNat_inj.1 h92
       cases hk:pairOk a b
       ·have HE:Hid (unquote (34::l)=none):=by
         show unquote (34::l)=none
         rw[HU.out,HB.out,body_pair_no t h92 hk];rfl
        have h1:pv a b=0:=(pv_no hk).symm
        have h2:pn a b=0:=(pn_no hk).symm
        go_wp2_with fail
        refine (quotedByte_two a b t _).mono ?_
        rintro e w4 ⟨rfl,nq,rfl⟩
        go_wp2
        go_ret3
        exact⟨ret_uq (uq_none HE.out),below_drewN hbr nq⟩
       ·have HE:Hid (body l=(body t).map (fun p=>(acc++[UInt8.ofNat (pairI a b).toNat]++p.1,p.2))):=by
         show body l=_
         rw[HB.out,body_pair t h92 hk];simp[Function.comp_def]
        have h2:pn a b=3:=(pn_yes hk).symm
        have hpb:=pairI_byte hk
        have HV:Hid (pv a b=((UInt8.ofNat (pairI a b).toNat).toNat:Int)):=by
         show pv a b=_
         rw[← pv_yes hk]
         simp only[UInt8.toNat_ofNat']
         omega
        clear hpb
        go_wp2_with fail
        refine (quotedByte_two a b t _).mono ?_
        rintro e w4 ⟨rfl,nq,rfl⟩
        go_wp2_with fail
        rw[HV.out]
        refine (WriteByte_any w.heap.size w.heap.size v _ _ _ (Bld.drewN hB nq) (by rw[Lib.byteCells_length];omega) hbr.size).mono ?_
        rintro e w5 ⟨rfl,v5,hB5,_,_,hb5⟩
        go_wp2
        go_roundw
        case rel=>exact⟨t,acc++[UInt8.ofNat (pairI a b).toNat],v5,rfl,by rw[byteCells_snoc];exact hB5,(below_drewN hbr nq).trans hb5,HE.out,by simp at hal ⊢;omega⟩
        case measure=>first | (simp[sizeS];done) | (simp[sizeS];omega)
     ·have HE:Hid (unquote (34::l)=none):=by
       show unquote (34::l)=none
       rw[HU.out,HB.out,body_none t h34 hpl h92];rfl
      go_wp2_with fail
      refine (quotedByte_none c t _ hpl h92).mono ?_
      rintro e w4 ⟨rfl,nq,rfl⟩
      go_wp2
      go_ret3
      exact⟨ret_uq (uq_none HE.out),below_drewN hbr nq⟩
    ·have HE:Hid (body l=(body t).map (fun p=>(acc++[c]++p.1,p.2))):=by
      show body l=_
      rw[HB.out,body_plain t hpl];simp[Function.comp_def]
     go_wp2_with fail
     refine (quotedByte_plain c t _ hpl).mono ?_
     rintro e w4 ⟨rfl,nq,rfl⟩
     go_wp2_with fail
     refine (WriteByte_any w.heap.size w.heap.size v _ _ _ (Bld.drewN hB nq) (by rw[Lib.byteCells_length];simp at hal;omega) hbr.size).mono ?_
     rintro e w5 ⟨rfl,v5,hB5,_,_,hb5⟩
     go_wp2
     go_roundw
     case rel=>exact⟨t,acc++[c],v5,rfl,by rw[byteCells_snoc];exact hB5,(below_drewN hbr nq).trans hb5,HE.out,by simp at hal ⊢;omega⟩
     case measure=>first | (simp[sizeS];done) | (simp[sizeS];omega)
theorem Unquote_any (l:List UInt8) (w:World) (hl:l.length≤1099511627776) :
  Calls Tryz.prog 202 #[.string ⟨l.toArray⟩] w fun e w'=>e=.returned (.tuple #[.string ⟨(uqa l).toArray⟩,.string ⟨(uqb l).toArray⟩,.int .i64 (uqe l)])∧Below w.heap.size w w':=by
 match l,hl with
 | [],_ =>
  go_enter Tryz.func202,Tryz.ntmps202
  go_wp2
  go_ret3
  exact⟨ret_uq (uq_none rfl),Below.refl _ _⟩
 | c::t,hl =>
  by_cases h:c.toNat=34
  ·obtain rfl:c=34:=UInt8.toNat_inj.1 h
   exact Unquote_body t w (by simp at hl;omega)
  ·have hb:((c.toNat:Int) != 34)=true:=by simp;omega
   have HU:Hid (unquote (c::t)=none):=by show unquote (c::t)=none;simp[unquote,h]
   clear h
   go_enter Tryz.func202,Tryz.ntmps202
   go_wp2
   go_ret3
   exact⟨ret_uq (uq_none HU.out),Below.refl _ _⟩
end Go.Proofs.YtgiojkhmkeocfaaGreatDoor

/- The code's reader of layer 15, walked: what is wrong is thrown; the next line, bare; the end of a side; stars. -/
namespace Go.Proofs.YtgiojkhmkeocfaaGreatDoor
open Go.RowKit
attribute [local go_sem] ByteArray.extract_mk no_at
def ckO (vL:Value) (p:Int):Obj:=.cells #[vL,.int .i64 p] 105
def Ck (u:World) (R:Nat) (vL:Value) (p:Int):Prop:=u.heap[R]?=some (ckO vL p)
section
variable {u u':World} {R:Nat} {vL:Value} {p:Int}
theorem Ck.cells (q:Ck u R vL p):u.cell? ⟨R,0,none⟩=some vL∧u.cell? ⟨R,1,none⟩=some (.int .i64 p):=by
 unfold Ck ckO at q
 refine⟨?_,?_⟩<;>rw[Lib.cell_of_heap q]<;>rfl
theorem Ck.frozen (q:Ck u R vL p) (j:Nat):u.frozen? ⟨R,j,none⟩=false:=Lib.frozen_of_heap q j
theorem Ck.lt (q:Ck u R vL p):R<u.heap.size:=(Array.getElem?_eq_some_iff.1 q).1
theorem Ck.dN (q:Ck u R vL p) (n:Nat):Ck (u.drewN n) R vL p:=q
theorem Ck.at (q:Ck u R vL p) (p':Int):Ck (u.setCell ⟨R,1,none⟩ (.int .i64 p')) R vL p':=heap_setCell_same u R 1 _ _ (.int .i64 p') q
theorem Ck.low (q:Ck u R vL p) (hg:Below u.heap.size u u'):Ck u' R vL p:=(hg.block R q.lt).trans q
theorem Ck.keep (q:Ck u R vL p) {g:Option Nat} (hg:u.grownBy u' g) (hr:some R≠g):Ck u' R vL p:=(hg.block R q.lt hr).trans q
end
theorem trim_snoc (s:List UInt8):Lib.trimSuffix (s++[10]) [10]=s:=by
 unfold Lib.trimSuffix
 rw[suf_feed,if_pos (fd_snoc s)]
 simp
end Go.Proofs.YtgiojkhmkeocfaaGreatDoor

/- The code's names, numbers, stars and signs of a side (layer 15), walked. -/
namespace Go.Proofs.YtgiojkhmkeocfaaGreatDoor
open Go.RowKit Go.Proofs.YtgiojkhmkeocfaaGreatDoor.Tx
attribute [local go_sem] ByteArray.extract_mk no_at
theorem body_len (n:Nat):∀ (t a b:List UInt8),t.length≤n→Q.body t=some (a,b)→a.length≤t.length:=by
 induction n with
 | zero =>
  intro t a b h hb
  have:t=[]:=List.eq_nil_of_length_eq_zero (by omega)
  subst this
  cases hb
 | succ n ih =>
  intro t a b h hb
  cases t with
  | nil=>cases hb
  | cons c t =>
   simp only[List.length_cons] at h ⊢
   rw[Q.body.eq_def] at hb
   simp only at hb
   split at hb
   ·cases hb;simp
   ·split at hb
    ·obtain⟨p,hp,he⟩:=Option.map_eq_some_iff.1 hb
     cases he
     have:=ih t p.1 p.2 (by omega) hp
     simp only[List.length_cons]
     omega
    ·split at hb
     ·split at hb
      ·rename_i x y t'
       simp only[List.length_cons] at h ⊢
       split at hb
       ·obtain⟨p,hp,he⟩:=Option.map_eq_some_iff.1 hb
        cases he
        have:=ih t' p.1 p.2 (by omega) hp
        simp only[List.length_cons]
        omega
       ·cases hb
      ·cases hb
     ·cases hb
theorem uqa_len (s:List UInt8):(Q.uqa s).length≤s.length:=by
 cases hu:Q.unquote s with
 | none=>rw[(Q.uq_none hu).1];simp
 | some p =>
  obtain⟨a,b⟩:=p
  rw[(Q.uq_some hu).1]
  cases s with
  | nil=>cases hu
  | cons c t =>
   simp only[Q.unquote] at hu
   split at hu
   ·have:=body_len t.length t a b (Nat.le_refl _) hu
    simp only[List.length_cons]
    omega
   ·cases hu
theorem head_pre (s:List UInt8):Lib.hasPrefix s [34]=(s.head? == some 34):=by
 cases s with
 | nil=>rfl
 | cons c t =>
  show ((34 == c) && true)=(some c == some 34)
  rw[Bool.and_true,Bool.eq_iff_iff,beq_iff_eq,beq_iff_eq,Option.some.injEq]
  exact⟨fun h=>h.symm,fun h=>h.symm⟩
def pnV (r:Bool) (n:List UInt8):Value:=if r=true then .tuple #[.string ⟨n.toArray⟩,.int .i64 0] else .tuple #[.string ⟨#[]⟩,.int .i64 253]
theorem cnamed_f (s:List UInt8) (w:World) (hl:s.length≤1099511627776) (n:List UInt8) (r:Bool) (HN:Hid (unC s=n)) (HR:Hid (nokC s=r)) :
  Calls Tryz.prog 146 #[.string ⟨s.toArray⟩] w fun e w'=>e=.returned (pnV r n)∧Below w.heap.size w w':=by
 have hnl:n.length≤1099511627776:=(by
  rw[← HN.out]
  unfold unC
  split
  ·simp
  ·split
   ·have:=uqa_len s
    omega
   ·exact hl)
 obtain⟨T,hT⟩:∃ T,nameT n=T:=⟨_,rfl⟩
 have hnm:=fun u=>cname_f n u hnl T hT
 have HF:Hid ((decide (n.length≤64) && (T == s))=r):=(by
  have h:=HR.out
  unfold nokC at h
  rw[HN.out,hT] at h
  exact h)
 have hhp:∀ (b:Bool),(s.head? == some 34)=b→∀ u,Calls Tryz.prog 149 #[.string ⟨s.toArray⟩,.string ⟨#[34]⟩] u fun e w'=>e=.returned (.bool b)∧w'=u:=(by
  intro b hb u
  refine (Tryz.strings_HasPrefix ⟨s.toArray⟩ ⟨#[34]⟩ u).mono ?_
  rintro e w' ⟨rfl,rfl⟩
  have e1:Lib.hasPrefix (⟨s.toArray⟩:ByteArray).data.toList (⟨#[34]⟩:ByteArray).data.toList=b:=(head_pre s).trans hb
  rw[e1]
  exact⟨rfl,rfl⟩)
 have huq:=fun u=>Unquote_any s u hl
 clear hT HR
 go_enter Tryz.func146,Tryz.ntmps146
 go_upto_block 0 with fail
 go_cut [4] (fun nv wz=>nv=.string ⟨n.toArray⟩∧Below w.heap.size w wz)
 case first =>
  by_cases h1:s=devN
  ·have e1:(s == [47,100,101,118,47,110,117,108,108])=true:=(by rw[beq_iff_eq];exact h1)
   have HE:Hid ([]=n):=(by have h:=HN.out;unfold unC at h;rw[if_pos h1] at h;exact h)
   clear h1
   go_wp2
   go_meet
   case rel=>exact⟨by rw[← HE.out],Below.refl _ _⟩
  ·have e1:(s == [47,100,101,118,47,110,117,108,108])=false:=beq_eq_false_iff_ne.2 h1
   by_cases h2:s.head?=some 34
   ·have HE:Hid (Q.uqa s=n):=(by have h:=HN.out;unfold unC at h;rw[if_neg h1,if_pos h2] at h;exact h)
    have hc:=hhp true (beq_iff_eq.2 h2)
    clear h1 h2
    go_wp2_with fail
    refine (hc _).mono ?_
    rintro e w1 ⟨rfl,rfl⟩
    go_wp2_with fail
    refine (huq _).mono ?_
    rintro e w2 ⟨rfl,hB2⟩
    go_wp2
    go_meet
    case rel=>exact⟨by rw[← HE.out],hB2⟩
   ·have HE:Hid (s=n):=(by have h:=HN.out;unfold unC at h;rw[if_neg h1,if_neg h2] at h;exact h)
    have hc:=hhp false (beq_eq_false_iff_ne.2 h2)
    clear h1 h2
    go_wp2_with fail
    refine (hc _).mono ?_
    rintro e w1 ⟨rfl,rfl⟩
    go_wp2
    go_meet
    case rel=>exact⟨by rw[← HE.out],Below.refl _ _⟩
 case rest =>
 obtain⟨rfl,hBc⟩:=hcut
 by_cases h3:n.length≤64
 ·have i1:¬ (64:Int)<(n.length:Int):=by omega
  cases h4:T == s with
  | true =>
   have HE:Hid (true=r):=(by have h:=HF.out;rw[decide_eq_true h3,Bool.true_and,h4] at h;exact h)
   have h5:(T != s)=false:=(by unfold bne;rw[h4];rfl)
   clear HF
   go_wp2_with fail
   refine (hnm _).mono ?_
   rintro e w2 ⟨rfl,hB2⟩
   go_wp2
   go_ret2
   exact⟨by rw[← HE.out];rfl,hBc.trans (hB2.mono hBc.size)⟩
  | false =>
   have HE:Hid (false=r):=(by have h:=HF.out;rw[decide_eq_true h3,Bool.true_and,h4] at h;exact h)
   have h5:(T != s)=true:=(by unfold bne;rw[h4];rfl)
   clear HF
   go_wp2_with fail
   refine (hnm _).mono ?_
   rintro e w2 ⟨rfl,hB2⟩
   go_wp2
   go_ret2
   exact⟨by rw[← HE.out];rfl,hBc.trans (hB2.mono hBc.size)⟩
 ·have HE:Hid (false=r):=(by have h:=HF.out;rw[decide_eq_false h3,Bool.false_and] at h;exact h)
  have i1:(64:Int)<(n.length:Int):=by omega
  clear HF
  go_wp2
  go_ret2
  exact⟨by rw[← HE.out];rfl,hBc⟩
def NmX (R:Nat) (X:Except (Nat × Int) (List UInt8 × List (List UInt8))) (w:World) (x:Ending) (w':World):Prop :=
 match X with
 | .error (a,e)=>Thr (a:Int) e x w'∧w.grownBy w' (some R)
 | .ok (s,_)=>x=.returned (.string ⟨s.toArray⟩)∧Below w.heap.size w w'
end Go.Proofs.YtgiojkhmkeocfaaGreatDoor

/- The code's numbers, stars and signs of a side (layer 15), walked. -/
namespace Go.Proofs.YtgiojkhmkeocfaaGreatDoor
open Go.RowKit
attribute [local go_sem] ByteArray.extract_mk no_at
end Go.Proofs.YtgiojkhmkeocfaaGreatDoor

/- slices.Clone and slices.DeleteFunc at lines with signs, and the code's kept of layer 15, walked. -/
namespace Go.Proofs.YtgiojkhmkeocfaaGreatDoor
open Go.RowKit
structure Mrow (w:World) (g n cap:Nat) (r:List Mk):Prop where
 ex:∃ cur:Array Value,w.heap[g]?=some (.cells cur 103 (0,0))∧cur.size=cap * 2∧cur.toList.take (n * 2)=mkcells r
 le:n≤cap
 len:r.length=n
theorem mkcells_set (r:List Mk):∀ (i:Nat) (m:Mk),i<r.length→((mkcells r).set (i * 2) (.int .u8 m.sg)).set (i * 2+1) (.string ⟨m.tx.toArray⟩)=mkcells (r.set i m):=by
 induction r with
 | nil=>intro i m h;simp at h
 | cons x r ih =>
  intro i m h
  have e1:mkcells (x::r)=.int .u8 x.sg::.string ⟨x.tx.toArray⟩::mkcells r:=rfl
  cases i with
  | zero=>rw[e1];rfl
  | succ i =>
   have e2:(i+1) * 2=i * 2+1+1:=by omega
   have e3:mkcells ((x::r).set (i+1) m)=.int .u8 x.sg::.string ⟨x.tx.toArray⟩::mkcells (r.set i m):=rfl
   rw[e1,e2,e3]
   simp only[List.set_cons_succ]
   rw[ih i m (by simpa using h)]
section
variable {w u:World} {g n cap:Nat} {r:List Mk}
theorem Mrow.low (h:Mrow w g n cap r) (hb:Below w.heap.size w u):Mrow u g n cap r:=by
 obtain⟨⟨cur,h1,h2,h3⟩,hl,hn⟩:=h
 exact⟨⟨cur,(hb.block g (Array.getElem?_eq_some_iff.1 h1).1).trans h1,h2,h3⟩,hl,hn⟩
theorem Mrow.lt (h:Mrow w g n cap r):g<w.heap.size:=by
 obtain⟨⟨cur,h1,_⟩,_⟩:=h
 exact (Array.getElem?_eq_some_iff.1 h1).1
theorem Mrow.holds (h:Mrow w g n cap r) (k:Nat) (hk:k≤n):HMk w (.slice (some ⟨g,0,none⟩) k cap) (r.take k):=by
 obtain⟨⟨cur,h1,h2,h3⟩,hl,hn⟩:=h
 have hlk:(r.take k).length=k:=by rw[List.length_take];omega
 unfold HMk
 rw[hlk]
 refine .inr ⟨⟨g,0,none⟩,cap,rfl,by omega,fun j v hj=>?_⟩
 rw[← mkcells_take,← h3,List.take_take] at hj
 have hjl:j<k * 2:=by
  have:=(List.getElem?_eq_some_iff.1 hj).1
  rw[List.length_take] at this
  omega
 rw[List.getElem?_take_of_lt (by omega)] at hj
 rw[add_none,Nat.zero_add,Lib.cell_of_heap h1]
 simpa using hj
theorem Mrow.store (h:Mrow w g n cap r) (i:Nat) (hi:i<n) (m:Mk):Mrow ((w.setCell ⟨g,i * 2,none⟩ (.int .u8 m.sg)).setCell ⟨g,i * 2+1,none⟩ (.string ⟨m.tx.toArray⟩)) g n cap (r.set i m):=by
 obtain⟨⟨cur,h1,h2,h3⟩,hl,hn⟩:=h
 have s1:=heap_setCell_same w g (i * 2) cur _ (.int .u8 m.sg) h1
 have s2:=heap_setCell_same _ g (i * 2+1) _ _ (.string ⟨m.tx.toArray⟩) s1
 refine⟨⟨_,s2,by simpa using h2,?_⟩,hl,by simpa using hn⟩
 have e1:((cur.setIfInBounds (i * 2) (.int .u8 m.sg)).setIfInBounds (i * 2+1) (.string ⟨m.tx.toArray⟩)).toList=(cur.toList.set (i * 2) (.int .u8 m.sg)).set (i * 2+1) (.string ⟨m.tx.toArray⟩):=by simp
 rw[e1,List.take_set,List.take_set,h3,mkcells_set r i m (by omega)]
theorem Mrow.cells (h:Mrow w g n cap r) (i:Nat) (hi:i<n):∃ x y,w.cell? ⟨g,i * 2,none⟩=some (.int .u8 x)∧w.cell? ⟨g,i * 2+1,none⟩=some (.string y):=by
 have hh:=h.holds n (Nat.le_refl _)
 have hl:=h.len
 obtain⟨b,off,he,hb,hcl⟩:=HMk.at hh (by rw[List.length_take];omega)
 cases he
 have hc:=hcl i (by rw[List.length_take];omega)
 rw[Nat.zero_add] at hc
 exact⟨_,_,hc.1,hc.2⟩
theorem Mrow.frozen (h:Mrow w g n cap r) (j:Nat):w.frozen? ⟨g,j,none⟩=false:=by
 obtain⟨⟨cur,h1,_⟩,_⟩:=h
 exact Lib.frozen_of_heap h1 j
end
end Go.Proofs.YtgiojkhmkeocfaaGreatDoor

/- The code's kept, all, matched, counted of layer 15, walked. -/
namespace Go.Proofs.YtgiojkhmkeocfaaGreatDoor
open Go.RowKit
structure Nl (w:World) (v:Value) (l:List Mk):Prop where
 hold:HMk w v l
 nil:l=[]→v=.slice none 0 0
theorem Nl.keep {w u:World} {v:Value} {l:List Mk} (h:Nl w v l) (hb:Below w.heap.size w u):Nl u v l:=⟨h.hold.keep hb (Nat.le_refl _),h.nil⟩
end Go.Proofs.YtgiojkhmkeocfaaGreatDoor

/- The append of a text onto an owned row of bytes, with the place of the new row told; what a writer leaves as it was. Of no program. -/
namespace Go.Proofs.YtgiojkhmkeocfaaGreatDoor
open Go.RowKit Go.Proofs.YtgiojkhmkeocfaaGreatDoor.Tx Go.Lib
section
variable {P:Program} (w:World)
theorem run_append_strX (base:Nat) (t u ty e:TypeId) (i:TypeInfo) (ht:P.underlying t=some (.slice e)) (hu:P.underlying u=some .string) (hi:P.info? e=some i) (hz:i.zero=some (.int .u8 0))
  (hsize:i.size=1) (hby:i.bytes=1)
  (v:Value) (n:Nat) (xs:List Value) (hown:w.ownsRowF base e 1 v n xs) (s:ByteArray)
  (h63:n+s.size≤maxLen) (hbytes:n+s.size≤140737488355328) (hbase:base≤w.heap.size) :
  ∃ v' w',(Builtin.append_ #[t,u] ty #[v,.string s]).run P w=.ok v' w'∧w'.ownsRowF base e 1 v' (n+s.size) (xs++strCells s)∧w.grownBy w' v.ownBlock ∧
   (v'.ownBlock=v.ownBlock∨∃ g,v'.ownBlock=some g∧w.heap.size≤g):=by
 rcases hown.2 with ⟨rfl,rfl⟩ | ⟨g,cap,cur,fz,rfl,hbg,hg,hfz,hnc,hcm,hcs,htake⟩
 ·obtain⟨v',w',r1,r2,r3,r4⟩:=run_append_own_string (P:=P) w w.heap.size t u ty e i ht hu hi hz hsize hby (.slice none 0 0) 0 xs ⟨hown.1,.inl ⟨rfl,rfl⟩⟩ s h63 hbytes (Nat.le_refl _)
  have r5:=World.ownsRowF_of r2
  refine⟨v',w',r1,⟨r5.1,?_⟩,r3,?_⟩
  ·rcases r5.2 with h | ⟨g,cap,cur,fz,q1,q2,q3⟩
   ·exact .inl h
   ·exact .inr ⟨g,cap,cur,fz,q1,by omega,q3⟩
  ·rcases r5.2 with ⟨h,_⟩ | ⟨g,cap,cur,fz,q1,q2,q3⟩
   ·exact .inl (by rw[h])
   ·exact .inr ⟨g,by rw[q1];rfl,q2⟩
 ·have hsmall:n+s.size≤9223372036854775807:=by simp only[maxLen] at h63;omega
  have hxl:xs.length=n:=by simpa using hown.1
  have hlen:(xs++strCells s).length=(n+s.size) * 1:=by rw[List.length_append,hxl,strCells_length,Nat.mul_one]
  by_cases hroom:n+s.size≤cap
  ·have hcs':cur.size=cap:=by simpa using hcs
   have hr:=run_append_room_stringF (P:=P) w t u ty e i ht hu hi hsize g n cap cur fz hg (by simpa using hfz) s hroom (by omega)
   refine⟨_,_,hr,⟨hlen,.inr ⟨g,cap,_,fz,rfl,hbg,setRow_heap w g cur _ e _ hg,by omega,hroom,hcm,?_,?_⟩⟩,⟨rfl,rfl,rfl,by simp,fun k _ hk=>setRow_other w g k _ (fun e=>hk (by simp[Value.ownBlock,e]))⟩,.inl rfl⟩
   ·simp only[List.size_toArray,List.length_append,List.length_take,List.length_drop,Array.length_toList,strCells_length]
    omega
   ·have ht':cur.toList.take n=xs:=by simpa using htake
    rw[ht',← hlen]
    exact List.take_left
  ·have holds:∀ j u,xs[j]?=some u→w.cell? ((⟨g,0,none⟩:Addr).add j)=some u:=hown.cells (g:=g) rfl
   have hr:=run_append_grow_string (P:=P) w t u ty e i (.int .u8 0) ht hu hi hz ⟨g,0,none⟩ n cap xs (by rw[hsize];simpa using hxl) holds s (by omega) (by omega) (by rw[hby];exact growslice_fits (by omega) (by omega))
   have hge:=grownCap_ge w (n+s.size) cap e
   have hcm2:grownCap w (n+s.size) cap e≤maxLen:=grownCap_le_maxLen w (n+s.size) cap e h63
   refine⟨_,_,hr,⟨hlen,.inr ⟨w.heap.size,_,_,(0,0),rfl,hbase,_root_.Go.heap_alloc_new w.drew _,Nat.zero_le _,hge,hcm2,?_,?_⟩⟩,⟨rfl,rfl,rfl,by simp,fun k hk _=>Below.heap_alloc w.drew _ k hk⟩,.inr ⟨_,rfl,Nat.le_refl _⟩⟩
   ·have hz1:(Value.int IntKind.u8 0).cells.size=1:=rfl
    simp only[Array.size_append,List.size_toArray,size_zeroCells,hz1,hxl,strCells_length]
    omega
   ·simp only[Array.toList_append,List.append_assoc]
    rw[← List.append_assoc,← hlen]
    exact List.take_left
theorem wpList_append_strX {ops:Array Oper} {rest:List Oper} {o:Oper} {a:Act} {Q:Exit→Act→World→Prop} (hgd:o.guard=none) (sl x:Operand) (t u:TypeId)
  (ho:o.op=.call { callee:=.builtin .append,args:=#[sl,x],argTypes:=#[t,u] })
  (base:Nat) (e:TypeId) (i:TypeInfo) (ht:P.underlying t=some (.slice e)) (hu:P.underlying u=some .string) (hi:P.info? e=some i) (hz:i.zero=some (.int .u8 0))
  (hsize:i.size=1) (hby:i.bytes=1)
  (v:Value) (n:Nat) (xs:List Value) (hs:a.eval sl=v) (hown:w.ownsRowF base e 1 v n xs) (s:ByteArray) (hx:a.eval x=.string s)
  (h63:n+s.size≤maxLen) (hbytes:n+s.size≤140737488355328) (hbase:base≤w.heap.size)
  (h:∀ v' w',w'.ownsRowF base e 1 v' (n+s.size) (xs++strCells s)→w.grownBy w' v.ownBlock→(v'.ownBlock=v.ownBlock∨∃ g,v'.ownBlock=some g∧w.heap.size≤g)→wpList P ops Q rest (a.put o.dst v') w'):wpList P ops Q (o::rest) a w:=by
 refine wpList_plain hgd fun K hK=>?_
 obtain⟨v',w',hr,h2,h3,h4⟩:=run_append_strX (P:=P) w base t u o.type e i ht hu hi hz hsize hby v n xs hown s h63 hbytes hbase
 unfold Oper.wp execOp
 simp only[ho,resolve,invoke,builtin,Sem.run_bind,Sem.run_pure,Result.andThen_ok,List.map_toArray,List.map_cons,List.map_nil,hs,hx,hr]
 exact hK _ _ (h v' w' h2 h3 h4)
end
structure Wr (B b:Nat) (v v':Value) (w w':World):Prop where
 aside:Go.Proofs.YtgiojkhmkeocfaaGreatDoor.Tx.Aside b v w w'
 fresh:Fresh v v' w
 below:Below B w w'
theorem Wr.refl (B b:Nat) (v:Value) (w:World):Wr B b v v w w:=⟨fun _ _ _ _=>rfl,.inl rfl,Below.refl B w⟩
theorem Wr.trans {B b:Nat} {v v1 v2:Value} {w w1 w2:World} (h:Wr B b v v1 w w1) (h':Wr B b v1 v2 w1 w2):Wr B b v v2 w w2:=by
 have hsz:=h.below.size
 have hn:∀ k,k<w.heap.size→v.ownBlock≠some k→v1.ownBlock≠some k:=by
  intro k hk hv
  rcases h.fresh with q | ⟨g,q,hg⟩
  ·rw[q];exact hv
  ·rw[q]
   intro e
   have:=Option.some.inj e
   omega
 refine⟨fun k hk hb hv=>(h'.aside k (by omega) hb (hn k hk hv)).trans (h.aside k hk hb hv),?_,h.below.trans h'.below⟩
 rcases h'.fresh with q | ⟨g,q,hg⟩
 ·rcases h.fresh with q2 | ⟨g,q2,hg⟩
  ·exact .inl (q.trans q2)
  ·exact .inr ⟨g,q.trans q2,hg⟩
 ·exact .inr ⟨g,q,by omega⟩
theorem Wr.low {B b:Nat} {v:Value} {w w1:World} (h:Below w.heap.size w w1) (hB:B≤w.heap.size):Wr B b v v w w1:=⟨fun k hk _ _=>h.block k hk,.inl rfl,h.mono hB⟩
theorem Wr.size {B b:Nat} {v v':Value} {w w':World} (h:Wr B b v v' w w'):w.heap.size≤w'.heap.size:=h.below.size
def Off (k:Nat) (b:Nat) (v:Value):Prop:=k≠b∧v.ownBlock≠some k
theorem Wr.block {B b:Nat} {v v':Value} {w w':World} (h:Wr B b v v' w w') {k:Nat} {o:Obj} (hk:w.heap[k]?=some o) (ho:Off k b v):w'.heap[k]?=some o∧Off k b v':=by
 have hlt:k<w.heap.size:=(Array.getElem?_eq_some_iff.1 hk).1
 refine⟨(h.aside k hlt ho.1 ho.2).trans hk,ho.1,?_⟩
 rcases h.fresh with q | ⟨g,q,hg⟩
 ·rw[q];exact ho.2
 ·rw[q]
  intro e
  have:=Option.some.inj e
  omega
end Go.Proofs.YtgiojkhmkeocfaaGreatDoor

/- A strings.Builder that lies in a block of whatever type, alone or embedded: its copy check, and how bytes and texts are written into it, walked. -/
namespace Go.Proofs.YtgiojkhmkeocfaaGreatDoor
open Go.RowKit Go.Proofs.YtgiojkhmkeocfaaGreatDoor.Tx
theorem cwU8:(Tryz.prog.info? 5).map (fun i=>(i.zero,i.size,i.bytes))=some (some (.int .u8 0),1,1):=by kernel_rfl
theorem cwBs:(Tryz.prog.info? 77).map (·.size)=some 2:=by kernel_rfl
def LaysB (T:TypeId):Prop:=liesAt Tryz.prog Tryz.prog.depth T (2 / Tryz.prog.cellsOf T) 0 77 1=true∧T≠5
theorem lays_b:LaysB 77:=⟨by kernel_rfl,by decide⟩
theorem ccheck_fresh {T:TypeId} (hT:LaysB T) (b:Nat) (w:World) (h0:w.cell? ⟨b,0,none⟩=some (.pointer none)) (hsh:w.shape? b=some (T,2)) (hfz:w.frozen? ⟨b,0,none⟩=false) :
  Calls Tryz.prog 80 #[.pointer (some ⟨b,0,none⟩)] w fun e w'=>e=.returned (.tuple #[])∧w'=w.setCell ⟨b,0,none⟩ (.pointer (some ⟨b,0,none⟩)):=by
 obtain⟨j,hj,hjs⟩:=Option.map_eq_some_iff.1 cwBs
 go_enter Tryz.func80,Tryz.ntmps80
 go_wp2
 rw[Lib.run_to_unsafe w ⟨b,0,none⟩ Tryz.underlying74 Tryz.underlying143 hj (by rw[hjs];decide) hsh (Nat.zero_lt_succ 1)]
 simp only[Result.andThen]
 rw[Oper.upon_value]
 go_wp2
 rw[run_callFunc_extern Tryz.func133 (by kernel_rfl) (by kernel_rfl) (by kernel_rfl) (e:=Extern.AbiNoEscape.same) (by kernel_rfl)]
 rw[Lib.run_noEscape]
 simp only[Result.andThen]
 rw[Oper.upon_value]
 go_wp2
 rw[Lib.run_from_unsafe w ⟨b,0,none⟩ Tryz.underlying143 Tryz.underlying74 hj hsh hT.1]
 simp only[Result.andThen]
 rw[Oper.upon_value]
 go_wp2
 go_end0
 exact⟨rfl,rfl⟩
theorem ccheck_any {T:TypeId} (hT:LaysB T) (B b:Nat) (v:Value) (bs:List Value) (w:World) (h:Bld T 5 B b v bs w) :
  Calls Tryz.prog 80 #[.pointer (some ⟨b,0,none⟩)] w fun e w'=>e=.returned (.tuple #[])∧w'.heap[b]?=some (.cells #[.pointer (some ⟨b,0,none⟩),v] T (0,0))∧Bld T 5 B b v bs w'∧Hid (∀ k,k≠b→w'.heap[k]?=w.heap[k]?)∧Below B w w':=by
 have h':=h
 obtain⟨hB,⟨p,hp,hbk⟩,hown,hne⟩:=h
 have hlt:b<w.heap.size:=(Array.getElem?_eq_some_iff.1 hbk).1
 have c0:w.cell? ⟨b,0,none⟩=some p:=by rw[Lib.cell_of_heap hbk];rfl
 have f0:w.frozen? ⟨b,0,none⟩=false:=Lib.frozen_of_heap hbk 0
 rcases hp with rfl | rfl
 ·refine (ccheck_fresh hT b w c0 (by simp[World.shape?,hbk]) f0).mono ?_
  rintro e w' ⟨rfl,rfl⟩
  have hb':(w.setCell ⟨b,0,none⟩ (.pointer (some ⟨b,0,none⟩))).heap[b]?=some (.cells #[.pointer (some ⟨b,0,none⟩),v] T (0,0)):=by
   simp only[World.setCell,Array.getElem?_modify,hbk]
   simp
  have ho:∀ k,k≠b→(w.setCell ⟨b,0,none⟩ (.pointer (some ⟨b,0,none⟩))).heap[k]?=w.heap[k]?:=fun k hk=>Below.heap_setCell w _ _ k hk
  refine⟨rfl,hb',⟨hB,⟨_,.inr rfl,hb'⟩,?_,hne⟩,ho,(Below.refl B w).setCell (p:=⟨b,0,none⟩) hB _⟩
  refine⟨hown.1,?_⟩
  rcases hown.2 with h | ⟨g,cap,cur,fz,q1,q2,q3,q4⟩
  ·exact .inl h
  ·exact .inr ⟨g,cap,cur,fz,q1,q2,(ho g (fun e=>hne (by rw[q1,e];rfl))).trans q3,q4⟩
 ·refine (Tryz.copyCheck_used b w c0).mono ?_
  rintro e w' ⟨rfl,rfl⟩
  exact⟨rfl,hbk,h',fun _ _=>rfl,Below.refl B _⟩
theorem cByte_f {T:TypeId} (hT:LaysB T) (B b:Nat) (v:Value) (bs:List Value) (c:Int) (w:World) (h:Bld T 5 B b v bs w) (hlen:bs.length+1≤140737488355328) (hBw:B≤w.heap.size) :
  Calls Tryz.prog 122 #[.pointer (some ⟨b,0,none⟩),.int .u8 c] w fun e w'=>e=.returned .nilIface∧∃ v',Bld T 5 B b v' (bs++[.int .u8 c]) w'∧Wr B b v v' w w':=by
 obtain⟨i0,hi,hz0,hz1,hz2⟩:=info_parts cwU8
 go_enter Tryz.func122,Tryz.ntmps122
 go_wp2_with (go_at_call 80;refine (ccheck_any hT B b v bs _ h).mono ?_)
 rintro e w1 ⟨rfl,hbk,⟨hB,_,hown,hne⟩,ho1,hb1⟩
 have c0:w1.cell? ⟨b,0,none⟩=some (.pointer (some ⟨b,0,none⟩)):=by rw[Lib.cell_of_heap hbk];rfl
 have c1:w1.cell? ⟨b,1,none⟩=some v:=by rw[Lib.cell_of_heap hbk];rfl
 have hlt:b<w1.heap.size:=(Array.getElem?_eq_some_iff.1 hbk).1
 go_wp2_with (at_builtin;refine wpList_append_ownX _ rfl _ _ 75 rfl B 5 i0 (.int .u8 0) 1 1 Tryz.underlying75 hi hz0 hz1 hz2 rfl (by decide) _ _ _ rfl (hown.alloc _) ⟨w1.heap.size,0,none⟩ 1 1 [.int .u8 c] rfl rfl ?c1 ?c2 ?c3 ?c4 ?c5 ?_)
 case c1 =>
  intro j u hj
  match j,hj with
  | 0,hj=>simp at hj;subst hj;simp[Addr.add]
 case c2=>intro u hu;simp at hu;subst hu;rfl
 case c3=>unfold maxLen;omega
 case c4=>omega
 case c5=>have:=hb1.size;simp;omega
 intro v' w2 hown' hgrow hfr
 have hb2:w2.heap[b]?=some (.cells #[.pointer (some ⟨b,0,none⟩),v] T (0,0)):=by
  rw[hgrow.block b (by simp;omega) (fun e=>hne e.symm),Lib.alloc_old w1 _ b hlt]
  exact hbk
 have d0:w2.cell? ⟨b,0,none⟩=some (.pointer (some ⟨b,0,none⟩)):=by rw[Lib.cell_of_heap hb2];rfl
 have d1:w2.cell? ⟨b,1,none⟩=some v:=by rw[Lib.cell_of_heap hb2];rfl
 have f1:w2.frozen? ⟨b,1,none⟩=false:=Lib.frozen_of_heap hb2 1
 obtain⟨g,cap,rfl⟩:∃ g cap,v'=.slice (some ⟨g,0,none⟩) (bs.length+1) cap:=by
  rcases hown'.2 with ⟨_,h0⟩ | ⟨g,cap,cur,fz,hv,_⟩
  ·omega
  ·exact⟨g,cap,hv⟩
 go_wp2
 go_ret
 refine⟨rfl,_,Bld.put hB (.inr rfl) hb2 (by simpa using hown') hT.2,?_,?_,?_⟩
 ·intro k hk hkb hkv
  rw[Below.heap_setCell w2 _ _ k hkb,hgrow.block k (by have:=hb1.size;simp;omega) (fun e=>hkv e.symm),Lib.alloc_old w1 _ k (by have:=hb1.size;omega)]
  exact ho1.out k hkb
 ·rcases hfr with h | ⟨g',h,h2⟩
  ·exact .inl h
  ·exact .inr ⟨g',h,by have:=hb1.size;omega⟩
 ·exact ((hb1.alloc (by have:=hb1.size;omega) _).grown hgrow (by have:=hb1.size;simp;omega) (fun k hk=>(hown.lt k hk).1)).setCell (p:=⟨b,1,none⟩) hB _
theorem cStr_f {T:TypeId} (hT:LaysB T) (B b:Nat) (v:Value) (bs:List Value) (s:List UInt8) (w:World) (h:Bld T 5 B b v bs w) (hlen:bs.length+s.length≤140737488355328) (hBw:B≤w.heap.size) :
  Calls Tryz.prog 34 #[.pointer (some ⟨b,0,none⟩),.string ⟨s.toArray⟩] w fun e w'=>e=.returned (.tuple #[.int .i64 s.length,.nilIface])∧∃ v',Bld T 5 B b v' (bs++Lib.byteCells s) w'∧Wr B b v v' w w':=by
 obtain⟨i0,hi,hz0,hz1,hz2⟩:=info_parts cwU8
 go_enter Tryz.func34,Tryz.ntmps34
 go_wp2_with (go_at_call 80;refine (ccheck_any hT B b v bs _ h).mono ?_)
 rintro e w1 ⟨rfl,hbk,⟨hB,_,hown,hne⟩,ho1,hb1⟩
 have c0:w1.cell? ⟨b,0,none⟩=some (.pointer (some ⟨b,0,none⟩)):=by rw[Lib.cell_of_heap hbk];rfl
 have c1:w1.cell? ⟨b,1,none⟩=some v:=by rw[Lib.cell_of_heap hbk];rfl
 have hlt:b<w1.heap.size:=(Array.getElem?_eq_some_iff.1 hbk).1
 go_wp2_with (at_builtin;refine wpList_append_strX _ rfl _ _ 75 9 rfl B 5 i0 Tryz.underlying75 Tryz.underlying9 hi hz0 hz1 hz2 _ _ _ rfl hown ⟨s.toArray⟩ rfl ?c3 ?c4 ?c5 ?_)
 case c3=>unfold maxLen;show bs.length+s.length≤_;omega
 case c4=>show bs.length+s.length≤_;omega
 case c5=>have:=hb1.size;omega
 intro v' w2 hown' hgrow hfr
 have hb2:w2.heap[b]?=some (.cells #[.pointer (some ⟨b,0,none⟩),v] T (0,0)):=by
  rw[hgrow.block b hlt (fun e=>hne e.symm)]
  exact hbk
 have d0:w2.cell? ⟨b,0,none⟩=some (.pointer (some ⟨b,0,none⟩)):=by rw[Lib.cell_of_heap hb2];rfl
 have d1:w2.cell? ⟨b,1,none⟩=some v:=by rw[Lib.cell_of_heap hb2];rfl
 have f1:w2.frozen? ⟨b,1,none⟩=false:=Lib.frozen_of_heap hb2 1
 obtain⟨ao,n',cap,rfl⟩:∃ ao n' cap,v'=.slice ao n' cap:=by
  rcases hown'.2 with ⟨hv,_⟩ | ⟨g,cap,cur,fz,hv,_⟩
  ·exact⟨_,_,_,hv⟩
  ·exact⟨_,_,_,hv⟩
 have hlen2:(bs++Lib.byteCells s).length=bs.length+s.length:=by rw[List.length_append,Lib.byteCells_length]
 go_wp2
 go_ret2
 refine⟨rfl,_,Bld.put hB (.inr rfl) hb2 (by rw[hlen2];exact hown') hT.2,?_,?_,?_⟩
 ·intro k hk hkb hkv
  rw[Below.heap_setCell w2 _ _ k hkb,hgrow.block k (by have:=hb1.size;omega) (fun e=>hkv e.symm)]
  exact ho1.out k hkb
 ·rcases hfr with h | ⟨g',h,h2⟩
  ·exact .inl h
  ·exact .inr ⟨g',h,by have:=hb1.size;omega⟩
 ·exact (hb1.grown hgrow (by have:=hb1.size;omega) (fun k hk=>(hown.lt k hk).1)).setCell (p:=⟨b,1,none⟩) hB _
theorem cString_f {T:TypeId} (B b:Nat) (v:Value) (l:List UInt8) (h0:l≠[]) (w:World) (h:Bld T 5 B b v (Lib.byteCells l) w) :
  Calls Tryz.prog 41 #[.pointer (some ⟨b,0,none⟩)] w fun e w'=>e=.returned (.string ⟨l.toArray⟩)∧Below B w w':=by
 obtain⟨hB,⟨p,hp,hbk⟩,hown,hne⟩:=h
 have hl0:l.length≠0:=by simpa using h0
 rw[Lib.byteCells_length] at hown
 obtain⟨g,cap,cur,fz,rfl,hbg,hg,hfz,hnc,hcm,hcs,htake⟩:∃ g cap cur fz,v=.slice (some ⟨g,0,none⟩) l.length cap∧B≤g∧w.heap[g]?=some (.cells cur 5 fz)∧fz.2≤l.length * 1∧l.length≤cap∧cap≤maxLen∧cur.size=cap * 1∧cur.toList.take (l.length * 1)=Lib.byteCells l:=by
  rcases hown.2 with ⟨_,hz⟩ | ⟨g,cap,cur,fz,hv,r⟩
  ·exact absurd hz hl0
  ·exact⟨g,cap,cur,fz,hv,r⟩
 have c1:w.drew.cell? ⟨b,1,none⟩=some (.slice (some ⟨g,0,none⟩) l.length cap):=by
  have:w.drew.heap[b]?=some (.cells #[p,.slice (some ⟨g,0,none⟩) l.length cap] T (0,0)):=hbk
  rw[Lib.cell_of_heap this];rfl
 have hSD:(Builtin.unsafeSliceData_ #[75] 136 #[.slice (some ⟨g,0,none⟩) l.length cap]).run Tryz.prog w.drew=.ok (.pointer (some ⟨g,0,none⟩)) w.drew :=
  Lib.run_unsafeSliceData_row _ _ _ _ _ _ (by omega)
 have hUS:(Builtin.unsafeString_ #[136,3] 9 #[.pointer (some ⟨g,0,none⟩),.int .i64 l.length]).run Tryz.prog w.drew=.ok (.string ⟨l.toArray⟩) (w.drew.freeze ⟨g,0,none⟩ l.length):=by
  refine Lib.run_unsafeString_row w.drew 136 3 9 5 Tryz.underlying136 (by kernel_rfl) g cur.size (by have hg':w.drew.heap[g]?=some (.cells cur 5 fz):=hg;simp[World.shape?,hg']) l h0 (by omega) (by unfold maxLen at hcm;omega) ?_
  intro j x hx
  have:=hown.cells (g:=g) rfl j (.int .u8 x.toNat) (by simp[Lib.byteCells,hx])
  exact this
 have HF:Hid (Below B w (w.drew.freeze ⟨g,0,none⟩ l.length)):=Lib.below_freeze (Below.drew (Below.refl B w)) (p:=⟨g,0,none⟩) hbg _
 clear hfz htake hown hg
 have mixed:Tryz.prog.follows Departure.mixedOrders=true:=by kernel_rfl
 go_enter Tryz.func41,Tryz.ntmps41
 go_wp2
 go_region_o
 all_goals (go_wp2;go_ret;exact⟨rfl,HF.out⟩)
end Go.Proofs.YtgiojkhmkeocfaaGreatDoor

/- The code's page of layer 15, walked: rows, lines, ranges; the signs that are shown. -/
namespace Go.Proofs.YtgiojkhmkeocfaaGreatDoor
open Go.RowKit Go.Proofs.YtgiojkhmkeocfaaGreatDoor.Tx
def Pg (B b:Nat) (v:Value) (acc:List UInt8) (w:World):Prop:=Bld 121 5 B b v (Lib.byteCells acc) w
theorem Pg.low {B b:Nat} {v:Value} {acc:List UInt8} {w w':World} (h:Pg B b v acc w) (hb:Below w.heap.size w w'):Pg B b v acc w':=Bld.kept h hb.block
theorem cell_byte {c:Int} (h0:0≤c) (h1:c<256):Lib.byteCells [UInt8.ofNat c.toNat]=[.int .u8 c]:=by
 have:((UInt8.ofNat c.toNat).toNat:Int)=c:=by
  rw[UInt8.toNat_ofNat']
  omega
 simp only[Lib.byteCells,List.map_cons,List.map_nil,this]
end Go.Proofs.YtgiojkhmkeocfaaGreatDoor

/- The code's shownSigns of layer 15, walked. -/
namespace Go.Proofs.YtgiojkhmkeocfaaGreatDoor
open Go.RowKit
end Go.Proofs.YtgiojkhmkeocfaaGreatDoor

/- The code's laid of layer 15, walked: old and new lines are laid into one list by a closure. -/
namespace Go.Proofs.YtgiojkhmkeocfaaGreatDoor
open Go.RowKit
structure Ly (W:World) (X:Nat) (lv:Value) (acc:List Mk) (u:World):Prop where
 low:Below W.heap.size W u
 box:u.heap[X]?=some (.cells #[lv] 57)
 own:u.ownsRow W.heap.size 103 2 lv acc.length (mkcells acc)
 ge:W.heap.size≤X
section
variable {W u u':World} {X:Nat} {lv:Value} {acc:List Mk}
theorem Ly.keep (h:Ly W X lv acc u) (hb:Below u.heap.size u u'):Ly W X lv acc u':=⟨h.low.trans (hb.mono h.low.size),(hb.block X (Array.getElem?_eq_some_iff.1 h.box).1).trans h.box,owns_keep h.own hb,h.ge⟩
theorem Ly.cell (h:Ly W X lv acc u):u.cell? ⟨X,0,none⟩=some lv:=by rw[Lib.cell_of_heap h.box];rfl
theorem Ly.frozen (h:Ly W X lv acc u):u.frozen? ⟨X,0,none⟩=false:=Lib.frozen_of_heap h.box 0
theorem own_box2 {B:Nat} {e t:TypeId} {s:Nat} {v:Value} {n k:Nat} {xs:List Value} {cs:Array Value} {fr:Nat × Nat} (h:u.ownsRow B e s v n xs) (hb:u.heap[k]?=some (.cells cs t fr)) (he:e≠t):v.ownBlock≠some k:=by
 intro hg
 rcases h.2 with ⟨rfl,_⟩ | ⟨g,cap,cur,rfl,_,hg2,_⟩
 ·cases hg
 ·simp[Value.ownBlock] at hg
  subst hg
  rw[hb] at hg2
  simp at hg2
  exact he hg2.2.1.symm
end
end Go.Proofs.YtgiojkhmkeocfaaGreatDoor

/- The code's checkRanges of layer 15, walked. -/
namespace Go.Proofs.YtgiojkhmkeocfaaGreatDoor
open Go.RowKit
end Go.Proofs.YtgiojkhmkeocfaaGreatDoor

/- The code's reader of layer 15, walked: a side's range and lines; what is known of them. -/
namespace Go.Proofs.YtgiojkhmkeocfaaGreatDoor
open Go.RowKit
structure Sxc (w:World) (R S:Nat) (vL:Value) (x a b:Int) (v:Value) (m:List Mk) (p:Nat) (u:World):Prop where
 gr:w.grownBy u (some R)
 box:u.heap[S]?=some (.cells #[.int .i64 x,.int .i64 a,.int .i64 b,v] 208)
 own:u.ownsRow w.heap.size 103 2 v m.length (mkcells m)
 ck:Ck u R vL (p:Int)
 ge:w.heap.size≤S
 rl:R<w.heap.size
 nil:m=[]→v=.slice none 0 0
section
variable {w u u':World} {R S:Nat} {vL v:Value} {x a b:Int} {m:List Mk} {p:Nat}
theorem Sxc.keep (h:Sxc w R S vL x a b v m p u) (hb:Below u.heap.size u u'):Sxc w R S vL x a b v m p u':=⟨grown_two h.gr (low_grown hb _),(hb.block S (Array.getElem?_eq_some_iff.1 h.box).1).trans h.box,owns_keep h.own hb,h.ck.low hb,h.ge,h.rl,h.nil⟩
theorem Sxc.cells (h:Sxc w R S vL x a b v m p u):u.cell? ⟨S,0,none⟩=some (.int .i64 x)∧u.cell? ⟨S,1,none⟩=some (.int .i64 a)∧u.cell? ⟨S,2,none⟩=some (.int .i64 b)∧u.cell? ⟨S,3,none⟩=some v:=by
 refine⟨?_,?_,?_,?_⟩<;>rw[Lib.cell_of_heap h.box]<;>rfl
theorem Sxc.frozen (h:Sxc w R S vL x a b v m p u) (j:Nat):u.frozen? ⟨S,j,none⟩=false:=Lib.frozen_of_heap h.box j
theorem Sxc.ne (h:Sxc w R S vL x a b v m p u):R≠S:=by have h1:=h.ge;have h2:=h.rl;omega
theorem Sxc.next (h:Sxc w R S vL x a b v m p u):Sxc w R S vL x a b v m (p+1) (u.setCell ⟨R,1,none⟩ (.int .i64 ((p:Int)+1))):=by
 have hg:=grown_set u R 1 (.int .i64 ((p:Int)+1))
 exact⟨grown_two h.gr hg,(hg.block S (Array.getElem?_eq_some_iff.1 h.box).1 (fun e=>h.ne (Option.some.inj e).symm)).trans h.box,owns_fr h.own hg h.rl,by have:=h.ck.at ((p:Int)+1);simpa using this,h.ge,h.rl,h.nil⟩
end
end Go.Proofs.YtgiojkhmkeocfaaGreatDoor

/- The code's reader of layer 15, walked: a side. -/
namespace Go.Proofs.YtgiojkhmkeocfaaGreatDoor
open Go.RowKit
attribute [local go_sem] ByteArray.extract_mk no_at
theorem grown_base {w u:World} {R:Nat} (O:Obj) (h:(w.alloc O).grownBy u (some R)):w.grownBy u (some R):=grown_two (World.grownBy_alloc w O _) h
def four (u:World) (Q:Nat) (x a b:Int) (v:Value):World:=(((u.setCell ⟨Q,0,none⟩ (.int .i64 x)).setCell ⟨Q,1,none⟩ (.int .i64 a)).setCell ⟨Q,2,none⟩ (.int .i64 b)).setCell ⟨Q,3,none⟩ v
theorem Sxc.cut {w u:World} {R S:Nat} {vL v:Value} {x a b:Int} {m m':List Mk} {p:Nat} (h:Sxc w R S vL x a b v m p u) {g j:Nat} {z:Value} (hv:v.ownBlock=some g) (ho:(u.setCell ⟨g,j,none⟩ z).ownsRow w.heap.size 103 2 v m'.length (mkcells m')) (hn:m'≠[]):Sxc w R S vL x a b v m' p (u.setCell ⟨g,j,none⟩ z):=by
 have hg:=grown_set u g j z
 have hge:=owns_ge h.own hv
 have hSg:some S≠some g:=fun e=>own_box2 h.own h.box (by decide) (hv.trans e.symm)
 refine⟨grown_new h.gr hge j z,(hg.block S (Array.getElem?_eq_some_iff.1 h.box).1 hSg).trans h.box,ho,h.ck.keep hg (fun e=>by cases e;have:=h.rl;omega),h.ge,h.rl,fun e=>absurd e hn⟩
end Go.Proofs.YtgiojkhmkeocfaaGreatDoor

/- The code's reader of layer 15: a hunk as the code reads it; the boxes of its sides. -/
namespace Go.Proofs.YtgiojkhmkeocfaaGreatDoor
open Go.RowKit
end Go.Proofs.YtgiojkhmkeocfaaGreatDoor

/- The code's reader of layer 15, walked: a hunk. -/
namespace Go.Proofs.YtgiojkhmkeocfaaGreatDoor
open Go.RowKit
structure Hz (wa:World) (R S1 S2:Nat) (vL:Value) (x1 a1 b1:Int) (v1:Value) (l1:List Mk) (x2 a2 b2:Int) (v2:Value) (l2:List Mk) (p:Nat) (u:World):Prop where
 gr:wa.grownBy u (some R)
 o1:u.heap[S1]?=some (.cells #[.int .i64 x1,.int .i64 a1,.int .i64 b1,v1] 208)
 o2:u.heap[S2]?=some (.cells #[.int .i64 x2,.int .i64 a2,.int .i64 b2,v2] 208)
 n1:HMk u v1 l1
 n2:HMk u v2 l2
 ck:Ck u R vL (p:Int)
 g1:wa.heap.size≤S1
 g2:wa.heap.size≤S2
 ne:S1≠S2
 rl:R<wa.heap.size
section
variable {wa u u':World} {R S1 S2:Nat} {vL v1 v2:Value} {x1 a1 b1 x2 a2 b2:Int} {l1 l2:List Mk} {p:Nat}
theorem Hz.keep (h:Hz wa R S1 S2 vL x1 a1 b1 v1 l1 x2 a2 b2 v2 l2 p u) (hb:Below u.heap.size u u'):Hz wa R S1 S2 vL x1 a1 b1 v1 l1 x2 a2 b2 v2 l2 p u':=⟨grown_two h.gr (low_grown hb _),(hb.block S1 (Array.getElem?_eq_some_iff.1 h.o1).1).trans h.o1,(hb.block S2 (Array.getElem?_eq_some_iff.1 h.o2).1).trans h.o2,h.n1.keep hb (Nat.le_refl _),h.n2.keep hb (Nat.le_refl _),h.ck.low hb,h.g1,h.g2,h.ne,h.rl⟩
end
def HkX (R:Nat) (vL:Value) (X:Except (Nat × Int) (Hk × Nat × List (List UInt8))) (w:World) (e:Ending) (w':World):Prop :=
 match X with
 | .error (a,z)=>Thr (a:Int) z e w'∧w.grownBy w' (some R)
 | .ok (h,p1,_)=>∃ v',e=.returned (hkV h v')∧w'.ownsRow w.heap.size 103 2 v' h.ls.length (mkcells h.ls)∧Ck w' R vL (p1:Int)∧w.grownBy w' (some R)
def zhk:Hk:=⟨0,0,0,0,[]⟩
def five (u:World) (b:Nat) (A AN B BN:Int) (z:Value):World:=((((u.setCell ⟨b,0,none⟩ (.int .i64 A)).setCell ⟨b,1,none⟩ (.int .i64 AN)).setCell ⟨b,2,none⟩ (.int .i64 B)).setCell ⟨b,3,none⟩ (.int .i64 BN)).setCell ⟨b,4,none⟩ z
end Go.Proofs.YtgiojkhmkeocfaaGreatDoor

/- The code's reader of layer 15: a patch as the code reads it; its box and the rows of its hunks. -/
namespace Go.Proofs.YtgiojkhmkeocfaaGreatDoor
open Go.RowKit
def thenX (l:List Hk) (X:Except (Nat × Int) (List Hk × Nat × List (List UInt8))):Except (Nat × Int) (List Hk × Nat × List (List UInt8)) :=
 match X with
 | .error e=>.error e
 | .ok (m,p,r)=>.ok (l++m,p,r)
theorem thenX_nil (X:Except (Nat × Int) (List Hk × Nat × List (List UInt8))):thenX [] X=X:=by
 rcases X with e | ⟨l,p,r⟩<;>rfl
theorem nam_drop {hd:List UInt8} {p:Nat} {L r:List (List UInt8)} {n:List UInt8} (h:namP hd p (L.drop p)=.ok (n,r)):r=L.drop (p+1)∧p<L.length:=by
 unfold namP at h
 cases hn:nxt p (L.drop p) with
 | error x=>rw[hn] at h;cases h
 | ok z =>
  obtain⟨s,r0⟩:=z
  rw[hn] at h
  obtain⟨h1,h2,_⟩:=nxt_rest hn
  dsimp only at h
  split at h
  ·split at h
   ·cases h
   ·injection h with h
    injection h with e1 e2
    exact⟨by rw[← e2,h1],h2⟩
  ·cases h
structure Pzc (wb:World) (R S:Nat) (vL:Value) (n1 n2:List UInt8) (hv:Value) (P:List (Hk × Value)) (p:Nat) (u:World):Prop where
 gr:wb.grownBy u (some R)
 box:u.heap[S]?=some (.cells #[.string ⟨n1.toArray⟩,.string ⟨n2.toArray⟩,hv] 55)
 own:u.ownsRow wb.heap.size 59 5 hv P.length (hkcells P)
 ins:∀ x∈P,u.ownsRow wb.heap.size 103 2 x.2 x.1.ls.length (mkcells x.1.ls)
 ck:Ck u R vL (p:Int)
 ge:wb.heap.size≤S
 rl:R<wb.heap.size
section
variable {wb u u':World} {R S:Nat} {vL hv:Value} {n1 n2:List UInt8} {P:List (Hk × Value)} {p p':Nat}
theorem Pzc.keep (h:Pzc wb R S vL n1 n2 hv P p u) (hb:Below u.heap.size u u'):Pzc wb R S vL n1 n2 hv P p u':=⟨grown_two h.gr (low_grown hb _),(hb.block S (Array.getElem?_eq_some_iff.1 h.box).1).trans h.box,owns_keep h.own hb,fun x hx=>owns_keep (h.ins x hx) hb,h.ck.low hb,h.ge,h.rl⟩
theorem Pzc.ne (h:Pzc wb R S vL n1 n2 hv P p u):R≠S:=by have h1:=h.ge;have h2:=h.rl;omega
theorem Pzc.call (h:Pzc wb R S vL n1 n2 hv P p u) (hg:u.grownBy u' (some R)) (q:Ck u' R vL (p':Int)):Pzc wb R S vL n1 n2 hv P p' u':=⟨grown_two h.gr hg,(hg.block S (Array.getElem?_eq_some_iff.1 h.box).1 (fun e=>h.ne (Option.some.inj e).symm)).trans h.box,owns_fr h.own hg h.rl,fun x hx=>owns_fr (h.ins x hx) hg h.rl,q,h.ge,h.rl⟩
theorem Pzc.next (h:Pzc wb R S vL n1 n2 hv P p u):Pzc wb R S vL n1 n2 hv P (p+1) (u.setCell ⟨R,1,none⟩ (.int .i64 ((p:Int)+1))):=h.call (grown_set u R 1 _) (by have:=h.ck.at ((p:Int)+1);simpa using this)
theorem Pzc.cells (h:Pzc wb R S vL n1 n2 hv P p u):u.cell? ⟨S,0,none⟩=some (.string ⟨n1.toArray⟩)∧u.cell? ⟨S,1,none⟩=some (.string ⟨n2.toArray⟩)∧u.cell? ⟨S,2,none⟩=some hv:=by
 refine⟨?_,?_,?_⟩<;>rw[Lib.cell_of_heap h.box]<;>rfl
theorem Pzc.frozen (h:Pzc wb R S vL n1 n2 hv P p u) (j:Nat):u.frozen? ⟨S,j,none⟩=false:=Lib.frozen_of_heap h.box j
theorem Pzc.put (h:Pzc wb R S vL n1 n2 hv P p u) (j:Nat) (z:Value) {m1 m2:List UInt8} {hv':Value} (hc:#[Value.string ⟨n1.toArray⟩,.string ⟨n2.toArray⟩,hv].setIfInBounds j z=#[.string ⟨m1.toArray⟩,.string ⟨m2.toArray⟩,hv']) (ho:u.ownsRow wb.heap.size 59 5 hv' P.length (hkcells P)):Pzc wb R S vL m1 m2 hv' P p (u.setCell ⟨S,j,none⟩ z):=by
 have hg:=grown_set u S j z
 refine⟨grown_new h.gr h.ge j z,?_,ho.kept hg (.inr (own_box2 ho h.box (by decide))),fun x hx=>(h.ins x hx).kept hg (.inr (own_box2 (h.ins x hx) h.box (by decide))),h.ck.keep hg (fun e=>h.ne (Option.some.inj e)),h.ge,h.rl⟩
 have:=heap_setCell_same u S j _ _ z h.box
 rw[hc] at this
 exact this
end
end Go.Proofs.YtgiojkhmkeocfaaGreatDoor

/- The code's reader of layer 15, walked: a patch. -/
namespace Go.Proofs.YtgiojkhmkeocfaaGreatDoor
open Go.RowKit
theorem call_entersR {P:Program} {A:Act} {op:Oper} {w:World} {F:Nat} {x:Operand} {xs:Array Operand} {ts:Array TypeId} (ho:op.op=.call { callee:=.value x,args:=xs,argTypes:=ts }) {cap:Array Value} (hxv:A.eval x=.func (.func F) #[] cap) {args:Array Value} (hx:xs.map A.eval=args) (hen:∀ args w,(callFunc F args).run P w=.ok (.enter F args) w):(execOp A.eval op).run P w=.ok (.enter F (args++cap)) w:=by
 have h1:=hen (args++cap) w
 simp only[execOp,ho,resolve,invoke]
 simp only[hxv,Deferred.ofValue,Sem.run_bind,Sem.run_pure,Result.andThen_ok,hx,Array.empty_append]
 exact h1
theorem go_callR {P:Program} {S:World→Prop} {md:Region.Mode} {ops:Array Oper} {Q:Exit→Act→World→Prop} {fuel:Nat} {listed:Array Bool} {A:Act} {w:World}
  (i d:Nat) (op:Oper) (hi:ops[i]?=some op) (hd:op.dst=some d) (hr:Region.ready md ops listed=[i]) (hwt:Region.wanted op (yielded ops A.tmps)=true)
  (F:Nat) (x:Operand) (xs:Array Operand) (ts:Array TypeId) (ho:op.op=.call { callee:=.value x,args:=xs,argTypes:=ts })
  (cap:Array Value) (hxv:A.eval x=.func (.func F) #[] cap) (args:Array Value) (hx:xs.map A.eval=args) (hen:∀ args w,(callFunc F args).run P w=.ok (.enter F args) w) (R:Value→World→Prop) (Pn:List PanicEntry→World→Prop)
  (hp:∀ c w',Pn c w'→Q (.panic c) A w')
  (hc:Calls P F (args++cap) w fun e w'=>(∃ v,e=.returned v∧S w'∧R v w')∨(∃ c,e=.panicked c∧Pn c w'))
  (h:∀ v w',S w'→R v w'→wpAnyH P md ops Q S fuel (listed.setIfInBounds i true) (A.put (some d) v) w') :
  wpAnyH P md ops Q S (fuel+1) listed A w:=by
 refine wpAnyH_ready hr (by simp) (AllReadyH.cons hi (fun K hK=>?_) AllReadyH.nil)
 refine step_want hwt ?_
 unfold Oper.wp
 rw[call_entersR ho hxv hx hen,Oper.upon_enter]
 refine hc.mono ?_
 rintro e w' (⟨v,rfl,hb,hR⟩ | ⟨c,rfl,hpn⟩)
 ·exact hK.out _ _ hb (fun hu=>by rw[hd];exact h v w' hu hR)
 ·exact hp c w' hpn
theorem go_valCallR {P:Program} {S:World→Prop} {md:Region.Mode} {ops:Array Oper} {Q:Exit→Act→World→Prop} {fuel:Nat} {listed:Array Bool} {A:Act} {w:World}
  (j e:Nat) (oq:Oper) (i d:Nat) (op:Oper) (hj:ops[j]?=some oq) (he:oq.dst=some e) (hi:ops[i]?=some op) (hd:op.dst=some d) (hr:Region.ready md ops listed=[j,i]) (hwq:Region.wanted oq (yielded ops A.tmps)=true) (hwt:Region.wanted op (yielded ops A.tmps)=true)
  (vq:Value) (wq:World) (hq:(execOp A.eval oq).run P w=.ok (.value vq) wq) (hS:S wq)
  (F:Nat) (x:Operand) (xs:Array Operand) (ts:Array TypeId) (ho:op.op=.call { callee:=.value x,args:=xs,argTypes:=ts })
  (cap:Array Value) (hxv:A.eval x=.func (.func F) #[] cap) (args:Array Value) (hx:xs.map A.eval=args) (hen:∀ args w,(callFunc F args).run P w=.ok (.enter F args) w) (R:Value→World→Prop) (Pn:List PanicEntry→World→Prop)
  (hp:∀ c w',Pn c w'→Q (.panic c) A w')
  (hc:Calls P F (args++cap) w fun e w'=>(∃ v,e=.returned v∧S w'∧R v w')∨(∃ c,e=.panicked c∧Pn c w'))
  (h2:wpAnyH P md ops Q S fuel (listed.setIfInBounds j true) (A.put (some e) vq) wq)
  (h:∀ v w',S w'→R v w'→wpAnyH P md ops Q S fuel (listed.setIfInBounds i true) (A.put (some d) v) w') :
  wpAnyH P md ops Q S (fuel+1) listed A w:=by
 refine wpAnyH_ready hr (by simp) (AllReadyH.cons hj (fun K hK=>?_) (AllReadyH.cons hi (fun K hK=>?_) AllReadyH.nil))
 ·refine step_want hwq ?_
  unfold Oper.wp
  rw[hq,Oper.upon_value]
  exact hK.out _ _ hS (fun _=>by rw[he];exact h2)
 ·refine step_want hwt ?_
  unfold Oper.wp
  rw[call_entersR ho hxv hx hen,Oper.upon_enter]
  refine hc.mono ?_
  rintro e w' (⟨v,rfl,hb,hR⟩ | ⟨c,rfl,hpn⟩)
  ·exact hK.out _ _ hb (fun hu=>by rw[hd];exact h v w' hu hR)
  ·exact hp c w' hpn
theorem load_hksR {u:World} {a:Addr} {o:Option Addr} {n c:Nat} (h:u.cell? a=some (.slice o n c)) {op:Oper} (x:Operand) (ho:op.op=.load 34 x) {ev:Operand→Value} (hx:ev x=.pointer (some a)) :
  (execOp ev op).run Tryz.prog u=.ok (.value (.slice o n c)) u:=by
 simp only[execOp,ho,hx]
 go_simp
theorem exec_storeHR {u:World} {a:Addr} {v0:Value} (hc:u.cell? a=some v0) (hf:u.frozen? a=false) {o:Option Addr} {n c:Nat} {op:Oper} (x y:Operand) (ho:op.op=.store 34 x y) {ev:Operand→Value} (hx:ev x=.pointer (some a)) (hy:ev y=.slice o n c) :
  (execOp ev op).run Tryz.prog u=.ok .skip (u.setCell a (.slice o n c)):=by
 simp only[execOp,ho,hx,hy]
 go_simp
def zpO:Obj:=.cells #[.string ⟨#[]⟩,.string ⟨#[]⟩,.slice none 0 0] 55
def mkP (n1 n2:List UInt8) (Y:Except (Nat × Int) (List Hk × Nat × List (List UInt8))):Except (Nat × Int) (Pth × Nat × List (List UInt8)) :=
 match Y with
 | .error e=>.error e
 | .ok (hs,p3,r3)=>.ok (⟨n1,n2,hs⟩,p3,r3)
def three (u:World) (Q:Nat) (n1 n2:List UInt8) (v:Value):World:=((u.setCell ⟨Q,0,none⟩ (.string ⟨n1.toArray⟩)).setCell ⟨Q,1,none⟩ (.string ⟨n2.toArray⟩)).setCell ⟨Q,2,none⟩ v
theorem three_cells {w wb u:World} {R:Nat} (hg:wb.grownBy u (some R)) (hZ:wb.heap[w.heap.size]?=some zpO∧w.heap.size<wb.heap.size∧w.heap.size≠R) (Q:Nat) (hQ:w.heap.size=Q) :
  u.cell? ⟨Q,0,none⟩=some (.string ⟨#[]⟩)∧u.cell? ⟨Q,1,none⟩=some (.string ⟨#[]⟩)∧u.cell? ⟨Q,2,none⟩=some (.slice none 0 0)∧∀ j,u.frozen? ⟨Q,j,none⟩=false:=by
 obtain⟨h1,h2,h3⟩:=hZ
 have hb:u.heap[w.heap.size]?=some (.cells #[.string ⟨#[]⟩,.string ⟨#[]⟩,.slice none 0 0] 55):=(hg.block _ h2 (fun e=>h3 (Option.some.inj e))).trans h1
 rw[hQ] at hb
 refine⟨?_,?_,?_,fun j=>Lib.frozen_of_heap hb j⟩<;>rw[Lib.cell_of_heap hb]<;>rfl
end Go.Proofs.YtgiojkhmkeocfaaGreatDoor

/- The code's Parse of layer 15: what is thrown is caught. -/
namespace Go.Proofs.YtgiojkhmkeocfaaGreatDoor
open Go.RowKit
def PanC (Q:Exit→Act→World→Prop) (Pn:List PanicEntry→World→Prop) (p2 p3:Value) (ds:List Deferred):Exit→Act→World→Prop
 | .panic c,a,w=>Pn c w∧a.tmps.getD 2 undef=p2∧a.tmps.getD 3 undef=p3∧a.defers=ds
 | .normal,a,w=>Q .normal a w
 | _,_,_=>False
theorem PanC.normal {Q:Exit→Act→World→Prop} {Pn:List PanicEntry→World→Prop} {p2 p3:Value} {ds:List Deferred} {a:Act} {w:World} (h:Q .normal a w):PanC Q Pn p2 p3 ds .normal a w:=h
theorem wp_region_panC {P:Program} {id:Nat} {ops:Array Oper} {b:Bool} {Q:Exit→Act→World→Prop} {a:Act} {w:World} (Pn:List PanicEntry→World→Prop) (p2 p3:Value) (ds:List Deferred) (hP:∀ c a w,Pn c w→a.tmps.getD 2 undef=p2→a.tmps.getD 3 undef=p3→a.defers=ds→Q (.panic c) a w) (h:(Code.region id ops b).wp P (PanC Q Pn p2 p3 ds) a w):(Code.region id ops b).wp P Q a w:=by
 refine Code.wp_mono (fun e a w h=>?_) h
 cases e with
 | panic c=>exact hP c a w h.1 h.2.1 h.2.2.1 h.2.2.2
 | normal=>exact h
 | _=>exact (h:False).elim
theorem panC_put {Q:Exit→Act→World→Prop} {Pn:List PanicEntry→World→Prop} {p2 p3:Value} {ds:List Deferred} {d:Nat} {v:Value} (h2:d≠2) (h3:d≠3):∀ c a w,PanC Q Pn p2 p3 ds (.panic c) (a.put (some d) v) w→PanC Q Pn p2 p3 ds (.panic c) a w:=by
 rintro c a w ⟨x1,x2,x3,x4⟩
 refine⟨x1,?_,?_,x4⟩
 ·rw[← x2]
  simp[Act.put,Array.getD_eq_getD_getElem?,Array.getElem?_setIfInBounds_ne h2]
 ·rw[← x3]
  simp[Act.put,Array.getD_eq_getD_getElem?,Array.getElem?_setIfInBounds_ne h3]
end Go.Proofs.YtgiojkhmkeocfaaGreatDoor

/- The lines of a text: Split of layer lines and of the reference, walked anew over the normal form's texts. -/
namespace Go.Proofs.YtgiojkhmkeocfaaGreatDoor
open Ln Go.RowKit
attribute [local go_sem] no_at ByteArray.extract_mk
theorem sc_snoc (ws:List (List UInt8)) (a:List UInt8):scells (ws++[a])=scells ws++[.string ⟨a.toArray⟩]:=by simp[scells]
theorem sp_one (a:ByteArray):∀ u∈[Value.string a],u.oneCell'=true:=by intro u hu;simp at hu;subst hu;rfl
theorem sp_cells (w:World) (C:List Value) (t:TypeId):∀ j u,C[j]?=some u→(w.alloc (.cells C.toArray t)).cell? ((⟨w.heap.size,0,none⟩:Addr).add j)=some u:=by
 intro j u hj
 have hadd:(⟨w.heap.size,0,none⟩:Addr).add j=⟨w.heap.size,j,none⟩:=by unfold Addr.add;split<;>simp_all
 rw[hadd,cell_of_row _ w.heap.size j C.toArray t (0,0) (_root_.Go.heap_alloc_new w _)]
 simpa using hj
def sizeT:Value→Nat
 | .string s=>s.size
 | _=>0
theorem sizeT_mk (r:List UInt8):sizeT (.string ⟨r.toArray⟩)=r.length:=rfl
theorem acc_le {acc:List (List UInt8)} {r l:List UInt8} (h:acc++splitL r=splitL l):acc.length≤l.length:=by
 have h1:=congrArg List.length h
 have h2:=split_len l
 rw[List.length_append] at h1
 omega
theorem nSplit_f (l:List UInt8) (w:World) (hl:l.length≤1099511627776) :
  Calls Tryz.prog 12 #[.string ⟨l.toArray⟩] w fun e w'=>∃ v,e=.returned v∧w'.ownsRow w.heap.size 9 1 v (splitL l).length (scells (splitL l))∧Below w.heap.size w w':=by
 obtain⟨i0,hi,hz0,hz1,hz2⟩:=info_parts infoStr
 go_enter Tryz.func12,Tryz.ntmps12
 go_wp2
 go_loopw [0,3,4] (fun s acc _ wr=>∃ (xs:List (List UInt8)) (r:List UInt8),s=.string ⟨r.toArray⟩∧wr.ownsRow w.heap.size 9 1 acc xs.length (scells xs)∧Below w.heap.size w wr∧r.length≤l.length∧xs++splitL r=splitL l) (fun s _ _ _=>sizeT s)
 case atStart=>exact⟨[],l,rfl,World.ownsRow_nil _ _ _ _,Below.refl _ _,Nat.le_refl _,rfl⟩
 case round =>
  obtain⟨acc,r,rfl,hown,hbr,hrl,hw⟩:=hrel
  have hacc:=acc_le hw
  have HW:Hid (acc++splitL r=splitL l):=hw
  clear hw
  have hbz:=hbr.size
  obtain⟨ao,cap,rfl⟩:=(holds_of hown).form
  rcases Int.lt_or_le (Lib.indexByte r 10) 0 with hq | hq
  ·obtain⟨q1,q2⟩:=index_none hq
   clear hq
   cases r with
   | nil =>
    have HE:Hid (splitL l=acc):=by have:=HW.out;show _=_;simpa [splitL] using this.symm
    go_wp2_with fail
    refine (Tryz.strings_Index_one ⟨([]:List UInt8).toArray⟩ 10 _).mono ?_
    rintro e w1 ⟨rfl,rfl⟩
    go_wp2
    go_ret
    rw[HE.out]
    exact⟨_,rfl,hown,hbr⟩
   | cons c t =>
    have HE:Hid (splitL l=acc++[c::t]):=by
     have:=HW.out
     rw[split_one _ q2 (by simp)] at this
     exact this.symm
    clear q2
    go_wp2_with fail
    refine (Tryz.strings_Index_one ⟨(c::t).toArray⟩ 10 _).mono ?_
    rintro e w1 ⟨rfl,rfl⟩
    have hi2:Lib.indexByte (⟨(c::t).toArray⟩:ByteArray).data.toList 10=-1:=q1
    rw[hi2]
    go_wp2_with (at_builtin;refine wpList_append_own _ rfl _ _ 23 rfl w.heap.size 9 i0 (.string ⟨#[]⟩) 1 16 Tryz.underlying23 hi hz0 hz1 hz2 rfl (by decide) _ _ _ rfl (hown.alloc _) ⟨w1.heap.size,0,none⟩ 1 1 [.string ⟨(c::t).toArray⟩] rfl rfl (sp_cells _ _ _) (sp_one _) ?c3 ?c4 ?c5 ?_)
    case c3=>unfold maxLen;omega
    case c4=>omega
    case c5=>simp;omega
    intro v' w3 hown3 hgrow hfr
    have hbr3:=(hbr.alloc hbz (.cells #[.string ⟨(c::t).toArray⟩] 9)).grown hgrow (by simp;omega) (fun j hj=>(hown.lt j hj).1)
    go_wp2
    go_ret
    rw[HE.out,sc_snoc]
    exact⟨_,rfl,by simpa using hown3,hbr3⟩
  ·obtain⟨a,b,rfl,hn,he⟩:=index_some hq
   have HE:Hid (acc++[a++[10]]++splitL b=splitL l):=by
    have:=HW.out
    rw[split_cut a b hn] at this
    show _=_
    simpa using this
   clear hn hq
   have hlen:(a++10::b).length=a.length+1+b.length:=by simp;omega
   have ht:(a++10::b).take (a.length+1)=a++[10]:=by
    rw[show a++10::b=(a++[10])++b by simp,List.take_left' (by simp)]
   have hd:(a++10::b).drop (a.length+1)=b:=by
    rw[show a++10::b=(a++[10])++b by simp,List.drop_left' (by simp)]
   generalize a++10::b=r at *
   have i1:0≤(a.length:Int)+1:=by omega
   have i2:(a.length:Int)+1≤(r.length:Int):=by omega
   have i3:((a.length:Int)+1).toNat=a.length+1:=by omega
   go_wp2_with fail
   refine (Tryz.strings_Index_one ⟨r.toArray⟩ 10 _).mono ?_
   rintro e w1 ⟨rfl,rfl⟩
   have hi2:Lib.indexByte (⟨r.toArray⟩:ByteArray).data.toList 10=a.length:=he
   rw[hi2]
   go_wp2_with (at_builtin;refine wpList_append_own _ rfl _ _ 23 rfl w.heap.size 9 i0 (.string ⟨#[]⟩) 1 16 Tryz.underlying23 hi hz0 hz1 hz2 rfl (by decide) _ _ _ rfl (hown.alloc _) ⟨w1.heap.size,0,none⟩ 1 1 [.string ⟨(a++[10]).toArray⟩] rfl rfl (sp_cells _ _ _) (sp_one _) ?c3 ?c4 ?c5 ?_)
   case c3=>unfold maxLen;omega
   case c4=>omega
   case c5=>simp;omega
   intro v' w3 hown3 hgrow hfr
   have hbr3:=(hbr.alloc hbz (.cells #[.string ⟨(a++[10]).toArray⟩] 9)).grown hgrow (by simp;omega) (fun j hj=>(hown.lt j hj).1)
   go_wp2
   go_roundw
   case rel=>exact⟨acc++[a++[10]],b,rfl,by rw[sc_snoc];simpa using hown3,hbr3,by omega,HE.out⟩
   case measure=>rw[sizeT_mk,sizeT_mk];omega
end Go.Proofs.YtgiojkhmkeocfaaGreatDoor

/- The code's Parse of layer 15: the patches that are found, in memory. -/
namespace Go.Proofs.YtgiojkhmkeocfaaGreatDoor
open Go.RowKit
theorem infoPx:(Tryz.prog.info? 55).map (fun i=>(i.zero,i.size,i.bytes))=some (some (.agg #[.string ⟨#[]⟩,.string ⟨#[]⟩,.slice none 0 0]),3,56):=by kernel_rfl
structure Pfd where
 x:Pth
 v:Value
 hs:List (Hk × Value)
def pxC (f:Pfd):List Value:=[.string ⟨f.x.old.toArray⟩,.string ⟨f.x.new.toArray⟩,f.v]
def pxcells (F:List Pfd):List Value:=F.flatMap pxC
def pxO (f:Pfd):Obj:=.cells #[.string ⟨f.x.old.toArray⟩,.string ⟨f.x.new.toArray⟩,f.v] 55
structure Pown (B:Nat) (u:World) (f:Pfd):Prop where
 eq:f.x.hs=f.hs.map (·.1)
 own:u.ownsRow B 59 5 f.v f.hs.length (hkcells f.hs)
 ins:∀ y∈f.hs,u.ownsRow B 103 2 y.2 y.1.ls.length (mkcells y.1.ls)
structure Pw (w:World) (ov:Value) (F:List Pfd) (u:World):Prop where
 low:Below w.heap.size w u
 own:u.ownsRow w.heap.size 55 3 ov F.length (pxcells F)
 ins:∀ f∈F,Pown w.heap.size u f
theorem Pown.kept {B k:Nat} {u u':World} {f:Pfd} (h:Pown B u f) (hg:u.grownBy u' (some k)) (h1:f.v.ownBlock≠some k) (h2:∀ y∈f.hs,y.2.ownBlock≠some k):Pown B u' f:=⟨h.eq,h.own.kept hg (.inr h1),fun y hy=>(h.ins y hy).kept hg (.inr (h2 y hy))⟩
theorem Pown.keep {B:Nat} {u u':World} {f:Pfd} (h:Pown B u f) (hb:Below u.heap.size u u'):Pown B u' f:=⟨h.eq,owns_keep h.own hb,fun y hy=>owns_keep (h.ins y hy) hb⟩
theorem Pown.box {B k:Nat} {u u':World} {f:Pfd} {cs:Array Value} {t:TypeId} {fr:Nat × Nat} (h:Pown B u f) (hb:u.heap[k]?=some (.cells cs t fr)) (h1:59≠t) (h2:103≠t) (hg:u.grownBy u' (some k)):Pown B u' f:=h.kept hg (own_box2 h.own hb h1) (fun y hy=>own_box2 (h.ins y hy) hb h2)
theorem row_other {B:Nat} {u u':World} {e e':TypeId} {s s':Nat} {v v':Value} {n n':Nat} {xs xs':List Value} (h:u.ownsRow B e s v n xs) (ho:u.ownsRow B e' s' v' n' xs') (hne:e'≠e) (hg:u.grownBy u' v'.ownBlock):u'.ownsRow B e s v n xs:=by
 refine⟨h.1,?_⟩
 rcases h.2 with q | ⟨b,cap,cur,rfl,q2,q3,q4⟩
 ·exact .inl q
 ·refine .inr ⟨b,cap,cur,rfl,q2,?_,q4⟩
  rw[hg.block b (Array.getElem?_eq_some_iff.1 q3).1 (fun e=>own_box2 ho q3 hne e.symm)]
  exact q3
structure RdP (w:World) (R:Nat) (L:List (List UInt8)) (vL ov:Value) (F:List Pfd) (p:Nat) (u:World):Prop where
 pw:Pw w ov F u
 f0:u.heap[w.heap.size]?=some (.cells #[ov] 48)
 f1:u.heap[w.heap.size+1]?=some (.cells #[.nilIface] 36)
 ck:Ck u R vL (p:Int)
 rl:w.heap.size+1<R
 ln:u.ownsRow w.heap.size 9 1 vL L.length (scells L)
section
variable {w u u':World} {R:Nat} {L:List (List UInt8)} {vL ov:Value} {F:List Pfd} {p p':Nat}
theorem RdP.c0 (h:RdP w R L vL ov F p u):u.cell? ⟨w.heap.size,0,none⟩=some ov:=by rw[Lib.cell_of_heap h.f0];rfl
theorem RdP.keep (h:RdP w R L vL ov F p u) (hb:Below u.heap.size u u'):RdP w R L vL ov F p u':=⟨⟨h.pw.low.trans (hb.mono h.pw.low.size),owns_keep h.pw.own hb,fun f hf=>(h.pw.ins f hf).keep hb⟩,(hb.block _ (Array.getElem?_eq_some_iff.1 h.f0).1).trans h.f0,(hb.block _ (Array.getElem?_eq_some_iff.1 h.f1).1).trans h.f1,h.ck.low hb,h.rl,owns_keep h.ln hb⟩
theorem RdP.call (h:RdP w R L vL ov F p u) (hg:u.grownBy u' (some R)) (q:Ck u' R vL (p':Int)):RdP w R L vL ov F p' u':=by
 have hk:∀ k x,k≠R→u.heap[k]?=some x→u'.heap[k]?=some x:=fun k _ hk hx=>(hg.block k (Array.getElem?_eq_some_iff.1 hx).1 (fun e=>hk (Option.some.inj e))).trans hx
 have hb:u.heap[R]?=some (.cells #[vL,.int .i64 (p:Int)] 105):=h.ck
 have hr:=h.rl
 exact⟨⟨h.pw.low.grown hg h.pw.low.size (fun k e=>by cases e;omega),h.pw.own.kept hg (.inr (own_box2 h.pw.own hb (by decide))),fun f hf=>(h.pw.ins f hf).box hb (by decide) (by decide) hg⟩,hk _ _ (by omega) h.f0,hk _ _ (by omega) h.f1,q,h.rl,h.ln.kept hg (.inr (own_box2 h.ln hb (by decide)))⟩
theorem RdP.lines (h:RdP w R L vL ov F p u) (hg:u.grownBy u' (some R)):HS u' vL L:=by
 have hb:u.heap[R]?=some (.cells #[vL,.int .i64 (p:Int)] 105):=h.ck
 exact holds_of (h.ln.kept hg (.inr (own_box2 h.ln hb (by decide))))
end
theorem one_px (w:World) (f:Pfd):Holds (w.alloc (pxO f)) (.slice (some ⟨w.heap.size,0,none⟩) 1 1) 1 (pxC f):=by
 refine .inr ⟨⟨w.heap.size,0,none⟩,1,rfl,Nat.le_refl _,?_⟩
 intro j u hj
 have hb:=heap_alloc_new w (pxO f)
 match j,hj with
 | 0,hj=>rw[show ((⟨w.heap.size,0,none⟩:Addr).add 0)=⟨w.heap.size,0,none⟩ from rfl,Lib.cell_of_heap hb];exact hj
 | 1,hj=>rw[show ((⟨w.heap.size,0,none⟩:Addr).add 1)=⟨w.heap.size,1,none⟩ from rfl,Lib.cell_of_heap hb];exact hj
 | 2,hj=>rw[show ((⟨w.heap.size,0,none⟩:Addr).add 2)=⟨w.heap.size,2,none⟩ from rfl,Lib.cell_of_heap hb];exact hj
 | n+3,hj=>simp[pxC] at hj
def thenPs (l:List Pth) (X:Except (Nat × Int) (List Pth)):Except (Nat × Int) (List Pth) :=
 match X with
 | .error e=>.error e
 | .ok m=>.ok (l++m)
def PrQ (w:World) (X:Except (Nat × Int) (List Pth)) (e:Ending) (w':World):Prop :=
 match X with
 | .error (a,z)=>∃ g,e=.returned (.tuple #[.slice none 0 0,.iface 86 (.pointer (some ⟨g,0,none⟩))])∧w'.heap[g]?=some (fltO (a:Int) z)∧Below w.heap.size w w'
 | .ok l=>∃ v' F,e=.returned (.tuple #[v',.nilIface])∧Pw w v' F w'∧F.map (·.x)=l
end Go.Proofs.YtgiojkhmkeocfaaGreatDoor

/- The code's Parse of layer 15, walked: the patches of a text, or what was thrown. -/
namespace Go.Proofs.YtgiojkhmkeocfaaGreatDoor
open Go.RowKit
open Ln
theorem mem_flatC (l:List (List UInt8)):∀ s∈l,s.length≤l.flatten.length:=by
 induction l with
 | nil=>intro s hs;cases hs
 | cons a l ih =>
  intro s hs
  rw[List.flatten_cons,List.length_append]
  rcases List.mem_cons.1 hs with rfl | h
  ·omega
  ·have:=ih s h
   omega
theorem split_shortC {t:List UInt8} {M:Nat} (h:t.length≤M):∀ s∈Ln.splitL t,s.length≤M:=by
 intro s hs
 have h1:=congrArg List.length (Ln.split_join t)
 have h2:=mem_flatC _ s hs
 omega
theorem load_pxs {u:World} {a:Addr} {o:Option Addr} {n c:Nat} (h:u.cell? a=some (.slice o n c)) {op:Oper} (x:Operand) (ho:op.op=.load 48 x) {ev:Operand→Value} (hx:ev x=.pointer (some a)) :
  (execOp ev op).run Tryz.prog u=.ok (.value (.slice o n c)) u:=by
 simp only[execOp,ho,hx]
 go_simp
theorem exec_storePx {u:World} {a:Addr} {v0:Value} (hc:u.cell? a=some v0) (hf:u.frozen? a=false) {o:Option Addr} {n c:Nat} {op:Oper} (x y:Operand) (ho:op.op=.store 48 x y) {ev:Operand→Value} (hx:ev x=.pointer (some a)) (hy:ev y=.slice o n c) :
  (execOp ev op).run Tryz.prog u=.ok .skip (u.setCell a (.slice o n c)):=by
 simp only[execOp,ho,hx,hy]
 go_simp
def PnP (w:World) (X:Except (Nat × Int) (List Pth)) (c:List PanicEntry) (u:World):Prop :=
 ∃ (g a:Nat) (z:Int) (v0:Value),c=[{ v:=.iface 86 (.pointer (some ⟨g,0,none⟩)),recovered:=false }]∧u.heap[g]?=some (fltO (a:Int) z)∧X=.error (a,z)∧Below w.heap.size w u∧u.heap[w.heap.size]?=some (.cells #[v0] 48)∧u.heap[w.heap.size+1]?=some (.cells #[.nilIface] 36)
end Go.Proofs.YtgiojkhmkeocfaaGreatDoor

/- The code's side of a page of layer 15, walked. -/
namespace Go.Proofs.YtgiojkhmkeocfaaGreatDoor
open Go.RowKit Go.Proofs.YtgiojkhmkeocfaaGreatDoor.Tx
end Go.Proofs.YtgiojkhmkeocfaaGreatDoor
