/-
  Texts that belong together, joined: NpX, NpC, NoLs, NoCm, NpD, NpJ, NpK, NpL.
-/
import Derived.Test.YtgiojkhmkeocfaaGreatDoorNoalBA14
import Derived.Test.YtgiojkhmkeocfaaGreatDoorNoalBA13
import Derived.Lib.IndexAny
import Derived.Deep.QuietTactic
import Derived.BigQuiet
import Derived.Deep.CutBlock
import Derived.Test.YtgiojkhmkeocfaaGreatDoorNoalBA3
import Derived.Defers
import Derived.Recover
import Derived.Test.YtgiojkhmkeocfaaGreatDoorNoalBA4

set_option maxHeartbeats 16000000
set_option maxRecDepth 100000
/- strings.IndexAny at the letters a, c, d, and strings.Cut at a comma, for every text. -/
namespace Go.Proofs.YtgiojkhmkeocfaaGreatDoor
open Go.RowKit
attribute [local go_sem] no_at ByteArray.extract_mk
theorem ret_int1 {k:IntKind} {a b:Int} (h:a=b):Ending.returned (.int k a)=.returned (.int k b):=by rw[h]
theorem get_bang (s:ByteArray) (k:Nat) (h:k<s.size):s.get! k=s[k]:=by
 simp[ByteArray.get!,getElem!_pos,h]
 rfl
theorem decode_rest (s:ByteArray) (pos:Nat) (h:pos<s.size) (ha:128≤(s[pos]'h).toNat) (k:Nat) (hk:k<(Utf8.decode s pos).2):∃ hq:pos+k<s.size,128≤(s[pos+k]'hq).toNat:=by
 by_cases hk0:k=0
 ·subst hk0;exact⟨h,ha⟩
 have hn:¬ (s.get! (pos+0)).toNat<128:=by rw[Nat.add_zero,get_bang s pos h];omega
 have key:∀ j,(decide (pos+j<s.size) && (s.get! (pos+j)).toNat / 64 == 2)=true→∃ hq:pos+j<s.size,128≤(s[pos+j]'hq).toNat:=by
  intro j hj
  simp only[Bool.and_eq_true,decide_eq_true_eq,beq_iff_eq] at hj
  refine⟨hj.1,?_⟩
  rw[← get_bang s (pos+j) hj.1]
  omega
 revert hk
 unfold Utf8.decode
 simp only[hn,if_false]
 split
 ·rename_i h2
  simp only[Bool.and_eq_true] at h2
  split
  ·intro hk
   have:k=1:=by simp at hk;omega
   subst this
   exact key 1 (by simp only[Bool.and_eq_true];exact h2.2)
  ·intro hk;simp at hk;omega
 ·split
  ·rename_i h2
   simp only[Bool.and_eq_true] at h2
   split
   ·intro hk
    have:k=1∨k=2:=by simp at hk;omega
    rcases this with rfl | rfl
    ·exact key 1 (by simp only[Bool.and_eq_true];exact h2.1.2)
    ·exact key 2 (by simp only[Bool.and_eq_true];exact h2.2)
   ·intro hk;simp at hk;omega
  ·split
   ·rename_i h2
    simp only[Bool.and_eq_true] at h2
    split
    ·intro hk
     have:k=1∨k=2∨k=3:=by simp at hk;omega
     rcases this with rfl | rfl | rfl
     ·exact key 1 (by simp only[Bool.and_eq_true];exact h2.1.1.2)
     ·exact key 2 (by simp only[Bool.and_eq_true];exact h2.1.2)
     ·exact key 3 (by simp only[Bool.and_eq_true];exact h2.2)
    ·intro hk;simp at hk;omega
   ·intro hk;simp at hk;omega
theorem enc_form (r:Int) (hv:Utf8.valid r=true) (h128:128≤r):(∃ a b:UInt8,128≤b.toNat∧Utf8.encode r=⟨([a,b]:List UInt8).toArray⟩)∨(∃ a b c:UInt8,128≤c.toNat∧Utf8.encode r=⟨([a,b,c]:List UInt8).toArray⟩)∨(∃ a b c d:UInt8,Utf8.encode r=⟨([a,b,c,d]:List UInt8).toArray⟩):=by
 have hc:¬ r.toNat<128:=by omega
 unfold Utf8.encode
 simp only[hv,if_true,hc,if_false]
 split
 ·refine .inl ⟨_,_,?_,rfl⟩
  simp;omega
 ·split
  ·refine .inr (.inl ⟨_,_,_,?_,rfl⟩)
   simp;omega
  ·exact .inr (.inr ⟨_,_,_,_,rfl⟩)
theorem valid_of (r:Int) (h:Lib.validRune r=true):Utf8.valid r=true:=by
 simp[Lib.validRune,Utf8.valid] at h ⊢
 omega
theorem idx_nil (x:Int) (u:World):Calls Tryz.prog 272 #[.string ⟨#[]⟩,.int .u8 x] u fun e w'=>e=.returned (.int .i64 (-1))∧w'=u:=Tryz.strings_IndexByte ⟨#[]⟩ x u
theorem idx_d (b:UInt8) (hb:128≤b.toNat) (u:World):Calls Tryz.prog 272 #[.string ⟨#[100]⟩,.int .u8 (b.toNat:Int)] u fun e w'=>e=.returned (.int .i64 (-1))∧w'=u:=by
 refine (Tryz.strings_IndexByte ⟨#[100]⟩ (b.toNat:Int) u).mono ?_
 rintro e w' ⟨rfl,rfl⟩
 have e1:((b.toNat:Int).toNat).toUInt8=b:=by simp
 have e2:Lib.indexByte [100] b=-1:=by
  have:((100:UInt8) == b)=false:=by
   rw[beq_eq_false_iff_ne]
   rintro rfl
   simp at hb
  simp[Lib.indexByte,this]
 rw[e1]
 exact⟨by rw[show Lib.indexByte (⟨#[100]⟩:ByteArray).data.toList b=-1 from e2],rfl⟩
theorem IndexRune_high (r:Int) (h0:128≤r) (h1:r≤2147483647) (w:World) :
  Calls Tryz.prog 240 #[.string ⟨([97,99,100]:List UInt8).toArray⟩,.int .i32 r] w fun e w'=>e=.returned (.int .i64 (-1))∧Below w.heap.size w w':=by
 by_cases h2:r=65533
 ·subst h2
  have hn0:∀ ty,(Instr.next (.pointer (some ⟨w.heap.size,0,none⟩)) true ty).run Tryz.prog (w.iter ⟨([97,99,100]:List UInt8).toArray⟩ 0)=.ok (.tuple #[.bool true,.int .i64 0,.int .i32 97]) (w.iter ⟨([97,99,100]:List UInt8).toArray⟩ 1):=fun ty=>run_next_ascii w ⟨([97,99,100]:List UInt8).toArray⟩ 0 ty (by decide) (by decide)
  have hn1:∀ ty,(Instr.next (.pointer (some ⟨w.heap.size,0,none⟩)) true ty).run Tryz.prog (w.iter ⟨([97,99,100]:List UInt8).toArray⟩ 1)=.ok (.tuple #[.bool true,.int .i64 1,.int .i32 99]) (w.iter ⟨([97,99,100]:List UInt8).toArray⟩ 2):=fun ty=>run_next_ascii w ⟨([97,99,100]:List UInt8).toArray⟩ 1 ty (by decide) (by decide)
  have hn2:∀ ty,(Instr.next (.pointer (some ⟨w.heap.size,0,none⟩)) true ty).run Tryz.prog (w.iter ⟨([97,99,100]:List UInt8).toArray⟩ 2)=.ok (.tuple #[.bool true,.int .i64 2,.int .i32 100]) (w.iter ⟨([97,99,100]:List UInt8).toArray⟩ 3):=fun ty=>run_next_ascii w ⟨([97,99,100]:List UInt8).toArray⟩ 2 ty (by decide) (by decide)
  have hn3:∀ ty,(Instr.next (.pointer (some ⟨w.heap.size,0,none⟩)) true ty).run Tryz.prog (w.iter ⟨([97,99,100]:List UInt8).toArray⟩ 3)=.ok (.tuple #[.bool false]) (w.iter ⟨([97,99,100]:List UInt8).toArray⟩ 3):=fun ty=>run_next_end w ⟨([97,99,100]:List UInt8).toArray⟩ 3 ty (by decide)
  go_enter Tryz.func240,Tryz.ntmps240
  go_wp2
  refine wp_loop_rounds 4 ?_
  rw[rounds_succ]
  go_wp2
  rw[rounds_succ]
  go_wp2
  rw[rounds_succ]
  go_wp2
  rw[rounds_succ]
  go_wp2
  go_ret
  exact⟨rfl,(Below.refl _ w).alloc (Nat.le_refl _) _⟩
 ·have hb:(r == 65533)=false:=by simp[h2]
  go_enter Tryz.func240,Tryz.ntmps240
  go_wp2_with fail
  refine (Tryz.utf8_ValidRune r _).mono ?_
  rintro e w' ⟨rfl,rfl⟩
  cases hv:Lib.validRune r
  ·go_wp2
   go_ret
   exact⟨rfl,Below.refl _ _⟩
  ·rcases enc_form r (valid_of r hv) h0 with ⟨a,b,hb128,he⟩ | ⟨a,b,c,hb128,he⟩ | ⟨a,b,c,d,he⟩
   ·have hbl:=b.toNat_lt
    have hw2:IntKind.i64.wrap 2=2:=by decide
    have hsl:∀ u:World,(Instr.slice 9 (.string ⟨([97,99,100]:List UInt8).toArray⟩) (some (.int .i64 2)) none none).run Tryz.prog u=.ok (.string ⟨([100]:List UInt8).toArray⟩) u:=fun u=>by kernel_rfl
    have hne:((99:Int) != (b.toNat:Int))=true:=by simp;omega
    go_wp2_with fail
    go_step3
    go_wp2_with fail
    refine wp_loop_rounds 1 ?_
    rw[rounds_succ]
    go_wp2_with fail
    go_step3
    go_wp2_with fail
    go_quiet (fail)
    have hbq:Below w'.heap.size w' (w'.drewN nq):=Below.dN (Below.refl _ _) nq
    generalize w'.drewN nq=wq at *
    go_wp2_with fail
    go_quiet ((go_at_call 272;exact Calls.quiet_of_same (idx_d b hb128 _)))
    go_wp2
    rw[Exit.noGoto_ret]
    go_wp2
    rw[Exit.noGoto_ret]
    go_ret
    exact⟨rfl,Below.dN hbq _⟩
   ·have hbl:=c.toNat_lt
    have hw2:IntKind.i64.wrap 3=3:=by decide
    have hsl:∀ u:World,(Instr.slice 9 (.string ⟨([97,99,100]:List UInt8).toArray⟩) (some (.int .i64 3)) none none).run Tryz.prog u=.ok (.string ⟨([]:List UInt8).toArray⟩) u:=fun u=>by kernel_rfl
    have hne:((100:Int) != (c.toNat:Int))=true:=by simp;omega
    go_wp2_with fail
    go_step3
    go_wp2_with fail
    refine wp_loop_rounds 1 ?_
    rw[rounds_succ]
    go_wp2_with fail
    go_step3
    go_wp2_with fail
    go_quiet (fail)
    have hbq:Below w'.heap.size w' (w'.drewN nq):=Below.dN (Below.refl _ _) nq
    generalize w'.drewN nq=wq at *
    go_wp2_with fail
    go_quiet ((go_at_call 272;exact Calls.quiet_of_same (idx_nil _ _)))
    go_wp2
    rw[Exit.noGoto_ret]
    go_wp2
    rw[Exit.noGoto_ret]
    go_ret
    exact⟨rfl,Below.dN hbq _⟩
   ·go_wp2_with fail
    go_step3
    go_wp2_with fail
    refine wp_loop_rounds 1 ?_
    rw[rounds_succ]
    go_wp2
    rw[Exit.noGoto_ret]
    go_ret
    exact⟨rfl,Below.refl _ _⟩
theorem zero_set:∀ w,(zeroValue 297).run Tryz.prog w=.ok (.agg (Array.replicate 256 (.bool false))) w :=
 (zero_of_info (P:=Tryz.prog) (show (Tryz.prog.info? 297).map (fun i=>(i.zero,i.size))=some (some (.agg (Array.replicate 256 (.bool false))),256) by kernel_rfl)).1
theorem idx_three (x:UInt8):Lib.indexByte [97,99,100] x=if x.toNat=97 then 0 else if x.toNat=99 then 1 else if x.toNat=100 then 2 else -1:=by
 have key:∀ i:Fin 256,Lib.indexByte [97,99,100] (UInt8.ofNat i.val)=if i.val=97 then 0 else if i.val=99 then 1 else if i.val=100 then 2 else -1:=by decide +kernel
 have:=key ⟨x.toNat,x.toNat_lt⟩
 simpa using this
theorem isC_nat (x:UInt8):isC x=decide (x.toNat=97∨x.toNat=99∨x.toNat=100):=by
 rw[Bool.eq_iff_iff]
 simp[isC,← UInt8.toNat_inj,or_assoc]
def idxB (x:UInt8):Int:=Lib.indexByte [97,99,100] x
theorem idxB_yes {x:UInt8} (h:isC x=true):0≤idxB x:=by
 rw[isC_nat] at h
 have h:=of_decide_eq_true h
 unfold idxB;rw[idx_three];split<;>(try split)<;>(try split)<;>omega
theorem idxB_no {x:UInt8} (h:isC x=false):idxB x<0:=by
 rw[isC_nat] at h
 have h:=of_decide_eq_false h
 unfold idxB;rw[idx_three];split<;>(try split)<;>(try split)<;>omega
theorem contains_three (c:UInt8):([97,99,100]:List UInt8).contains c=isC c:=by
 rw[Bool.eq_iff_iff]
 simp[isC,or_assoc]
def wend (l:List UInt8):Int:=Lib.indexAny l [97,99,100]
theorem wend_at:∀ (l:List UInt8) (k:Nat) (hk:k<l.length),(∀ j (h:j<l.length),j<k→isC l[j]=false)→isC l[k]=true→wend l=k
 | b::l,0,_,_,h=>by
  unfold wend Lib.indexAny
  rw[contains_three,if_pos (by simpa using h)]
  rfl
 | b::l,k+1,hk,ha,h=>by
  have h0:=ha 0 (by simp) (by omega)
  have ih:=wend_at l k (by simpa using hk) (fun j hj hjk=>ha (j+1) (by simp;omega) (by omega)) (by simpa using h)
  unfold wend at ih ⊢
  unfold Lib.indexAny
  rw[contains_three,if_neg (by simpa using h0),ih]
  rw[if_neg (by simp)]
  omega
theorem wend_none:∀ (l:List UInt8),(∀ j (h:j<l.length),isC l[j]=false)→wend l=-1
 | [],_=>rfl
 | b::l,ha=>by
  have h0:=ha 0 (by simp)
  have ih:=wend_none l (fun j hj=>ha (j+1) (by simp;omega))
  unfold wend at ih ⊢
  unfold Lib.indexAny
  rw[contains_three,if_neg (by simpa using h0),ih]
  rfl
theorem IndexRune_low (x:UInt8) (h:x.toNat<128) (w:World) :
  Calls Tryz.prog 240 #[.string ⟨([97,99,100]:List UInt8).toArray⟩,.int .i32 (x.toNat:Int)] w fun e w'=>e=.returned (.int .i64 (idxB x))∧w'=w:=by
 have h1:=Tryz.strings_IndexRune_ascii ⟨([97,99,100]:List UInt8).toArray⟩ (x.toNat:Int) w (by omega) (by omega)
 refine h1.mono ?_
 rintro e w' ⟨rfl,rfl⟩
 have e:((x.toNat:Int).toNat).toUInt8=x:=by simp
 rw[e]
 exact⟨rfl,rfl⟩
theorem shouldUse_short (n:Int) (h:n≤8) (w:World):Calls Tryz.prog 241 #[.int .i64 n] w fun e w'=>e=.returned (.bool false)∧w=w':=by
 go_enter Tryz.func241,Tryz.ntmps241
 go_wp2
 go_ret
 exact⟨by simp;omega,rfl⟩
theorem IndexAny_short (l:List UInt8) (h8:l.length≤8) (w:World) :
  Calls Tryz.prog 198 #[.string ⟨l.toArray⟩,.string ⟨([97,99,100]:List UInt8).toArray⟩] w fun e w'=>e=.returned (.int .i64 (wend l))∧Below w.heap.size w w':=by
 go_enter Tryz.func198,Tryz.ntmps198
 go_wp2_with fail
 refine (shouldUse_short _ (by omega) _).mono ?_
 rintro e w' ⟨rfl,rfl⟩
 go_wp2
 go_loopw [] (fun wr=>∃ pos:Nat,pos≤l.length∧wr.heap[w.heap.size]?=some (.stringIter ⟨l.toArray⟩ pos)∧Below w.heap.size w wr∧(∀ k (hk:k<l.length),k<pos→isC l[k]=false)) (fun wr=>l.length-wr.iterPos w.heap.size)
 case atStart=>exact⟨0,Nat.zero_le _,World.iter_heap w _ 0,(Below.refl _ w).alloc (Nat.le_refl _) _,fun k _ h=>by omega⟩
 case round =>
  obtain⟨pos,hp,hit,hbr,hall⟩:=hrel
  have HA:Hid (∀ k (hk:k<l.length),k<pos→isC l[k]=false):=hall
  clear hall
  have hwl:w.heap.size<wr.heap.size:=(Array.getElem?_eq_some_iff.1 hit).1
  by_cases hlt:pos<l.length
  ·by_cases ha:l[pos].toNat<128
   ·have hnx:∀ ty,(Instr.next (.pointer (some ⟨w.heap.size,0,none⟩)) true ty).run Tryz.prog wr=_:=fun ty=>Lib.run_next_ascii_at wr w.heap.size ⟨l.toArray⟩ pos ty hit hlt ha
    have hit2:=Lib.iterAt_heap wr w.heap.size ⟨l.toArray⟩ pos (pos+1) hit
    have hbr2:=Lib.below_iterAt hbr (k:=w.heap.size) (Nat.le_refl _) ⟨l.toArray⟩ (pos+1)
    go_wp2_with fail
    refine (IndexRune_low l[pos] ha _).mono ?_
    rintro e w4 ⟨rfl,rfl⟩
    cases hbl:isC l[pos]
    ·have hneg:=idxB_no hbl
     go_wp2
     go_roundw
     case rel =>
      refine⟨pos+1,by omega,hit2,hbr2,fun k hk h=>?_⟩
      by_cases e:k=pos
      ·subst e;exact hbl
      ·exact HA.out k hk (by omega)
     case measure=>simp only[World.iterPos,hit,hit2];omega
    ·have hpos:=idxB_yes hbl
     have HE:Hid ((pos:Int)=wend l):=(wend_at l pos hlt HA.out hbl).symm
     go_wp2
     go_ret
     exact⟨ret_int1 HE.out,hbr2⟩
   ·have hdh:=(decode_high ⟨l.toArray⟩ pos hlt (by show 128≤l[pos].toNat;omega))
    have hdr:=decode_rest ⟨l.toArray⟩ pos hlt (by show 128≤l[pos].toNat;omega)
    have hnx:∀ ty,(Instr.next (.pointer (some ⟨w.heap.size,0,none⟩)) true ty).run Tryz.prog wr=_:=fun ty=>Lib.run_next_any_at wr w.heap.size ⟨l.toArray⟩ pos ty hit hlt
    have hit2:=Lib.iterAt_heap wr w.heap.size ⟨l.toArray⟩ pos (pos+(Utf8.decode ⟨l.toArray⟩ pos).2) hit
    have hbr2:=Lib.below_iterAt hbr (k:=w.heap.size) (Nat.le_refl _) ⟨l.toArray⟩ (pos+(Utf8.decode ⟨l.toArray⟩ pos).2)
    have hdl:=decode_le ⟨l.toArray⟩ pos
    have HR:Hid (∀ k,k<(Utf8.decode ⟨l.toArray⟩ pos).2→∃ h':pos+k<l.length,128≤l[pos+k].toNat):=fun k hk=>hdr k hk
    clear hdr
    obtain⟨hd1,hd2⟩:=hdh
    generalize Utf8.decode ⟨l.toArray⟩ pos=dd at *
    have hwz:w.heap.size<(wr.iterAt w.heap.size ⟨l.toArray⟩ (pos+dd.2)).heap.size:=by rw[Lib.iterAt_size];exact hwl
    go_wp2_with fail
    refine (IndexRune_high (dd.1:Int) (by omega) (by omega) _).mono ?_
    rintro e w4 ⟨rfl,hb4⟩
    have hit4:=(hb4.block w.heap.size hwz).trans hit2
    have hbr4:=hbr2.trans (hb4.mono (Nat.le_of_lt hwz))
    go_wp2
    go_roundw
    case rel =>
     refine⟨pos+dd.2,?_,hit4,hbr4,fun k hk h=>?_⟩
     ·obtain⟨h',_⟩:=HR.out (dd.2-1) (by omega)
      omega
     ·by_cases e:k<pos
      ·exact HA.out k hk e
      ·obtain⟨h',hh⟩:=HR.out (k-pos) (by omega)
       have ee:pos+(k-pos)=k:=by omega
       simp only[ee] at hh
       exact (by rw[isC_nat];exact decide_eq_false (by omega))
    case measure=>simp only[World.iterPos,hit,hit4];omega
  ·have hnx:∀ ty,(Instr.next (.pointer (some ⟨w.heap.size,0,none⟩)) true ty).run Tryz.prog wr=_:=fun ty=>Lib.run_next_end_at wr w.heap.size ⟨l.toArray⟩ pos ty hit hlt
   have HE:Hid (-1=wend l):=(wend_none l (fun k hk=>HA.out k hk (by omega))).symm
   go_wp2
   go_ret
   exact⟨ret_int1 HE.out,hbr⟩
theorem IndexAny_any (l:List UInt8) (hl:l.length<4294967281) (w:World) :
  Calls Tryz.prog 198 #[.string ⟨l.toArray⟩,.string ⟨([97,99,100]:List UInt8).toArray⟩] w fun e w'=>e=.returned (.int .i64 (wend l))∧Below w.heap.size w w':=by
 by_cases h8:l.length≤8
 ·exact IndexAny_short l h8 w
 ·have h:=Tryz.strings_IndexAny_long zero_set ⟨l.toArray⟩ ⟨([97,99,100]:List UInt8).toArray⟩ w (by decide) (by show 8<l.length;omega) hl (by decide) (fun j b h=>by match j,h with | 0,h=>simp at h;subst h;decide | 1,h=>simp at h;subst h;decide | 2,h=>simp at h;subst h;decide | j+3,h=>simp at h)
  refine h.mono ?_
  rintro e w' ⟨rfl,rfl⟩
  exact⟨rfl,((Below.refl _ w).alloc (Nat.le_refl _) _).alloc (by simp) _⟩
theorem wend_sp (l:List UInt8):(spB isC l=none∧wend l=-1)∨(∃ k:Nat,∃ h:k<l.length,wend l=k∧spB isC l=some (l.take k,l[k],l.drop (k+1))∧isC l[k]=true):=by
 induction l with
 | nil=>exact .inl ⟨rfl,rfl⟩
 | cons c l ih =>
  unfold wend Lib.indexAny
  rw[contains_three]
  simp only[spB]
  cases hc:isC c with
  | true =>
   right
   refine⟨0,by simp,by simp,by simp,by simpa using hc⟩
  | false =>
   rw[if_neg (by decide),if_neg (by decide)]
   rcases ih with ⟨h1,h2⟩ | ⟨k,hk,h1,h2,h3⟩
   ·left
    unfold wend at h2
    rw[h1,h2]
    exact⟨rfl,rfl⟩
   ·right
    unfold wend at h1
    refine⟨k+1,by simpa using hk,?_,?_,by simpa using h3⟩
    ·rw[h1,if_neg (by simp)]
     omega
    ·rw[h2]
     rfl
theorem comma_sp (l:List UInt8):(spB isK l=none∧Lib.indexByte l 44=-1)∨(∃ k:Nat,∃ h:k<l.length,Lib.indexByte l 44=k∧spB isK l=some (l.take k,l[k],l.drop (k+1))):=by
 induction l with
 | nil=>exact .inl ⟨rfl,rfl⟩
 | cons c l ih =>
  unfold Lib.indexByte
  simp only[spB]
  have e:(c == 44)=isK c:=rfl
  rw[e]
  cases hc:isK c with
  | true =>
   right
   exact⟨0,by simp,by simp,by simp⟩
  | false =>
   rw[if_neg (by decide),if_neg (by decide)]
   rcases ih with ⟨h1,h2⟩ | ⟨k,hk,h1,h2⟩
   ·left
    rw[h1,h2]
    exact⟨rfl,rfl⟩
   ·right
    refine⟨k+1,by simpa using hk,?_,?_⟩
    ·rw[h1,if_neg (by simp)]
     omega
    ·rw[h2]
     rfl
end Go.Proofs.YtgiojkhmkeocfaaGreatDoor

/- The code's numbers and change of layer 12, walked: a range of lines, a line that says a change. -/
namespace Go.Proofs.YtgiojkhmkeocfaaGreatDoor
open Go.RowKit
attribute [local go_sem] ByteArray.extract_mk no_at
def kA (l:List UInt8):List UInt8:=match spB isK l with | none=>l | some (x,_,_)=>x
def kB (l:List UInt8):List UInt8:=match spB isK l with | none=>[] | some (_,_,y)=>y
def kS (l:List UInt8):Bool:=match spB isK l with | none=>false | some _=>true
theorem slCut_f (l:List UInt8) (w:World) (hl:l.length≤1099511627776) :
  Calls Tryz.prog 274 #[.string ⟨l.toArray⟩,.string ⟨#[44]⟩] w fun e w'=>e=.returned (.tuple #[.string ⟨(kA l).toArray⟩,.string ⟨(kB l).toArray⟩,.bool (kS l)])∧∃ n,w'=w.drewN n:=by
 rcases comma_sp l with ⟨h1,h2⟩ | ⟨k,hk,h1,h2⟩
 ·have HA:Hid (kA l=l∧kB l=[]∧kS l=false):=(by unfold kA kB kS;rw[h1];exact⟨rfl,rfl,rfl⟩)
  have HI:Hid (Lib.indexByte l 44=-1):=h2
  clear h1 h2
  go_enter Tryz.func274,Tryz.ntmps274
  go_wp2_with fail
  refine (Tryz.stringslite_Index_one ⟨l.toArray⟩ 44 w).mono ?_
  rintro e w1 ⟨rfl,rfl⟩
  have e1:Lib.indexByte (⟨l.toArray⟩:ByteArray).data.toList 44=-1:=HI.out
  rw[e1]
  clear e1
  go_wp2
  go_ret3
  obtain⟨a1,a2,a3⟩:=HA.out
  rw[a1,a2,a3]
  exact⟨rfl,0,rfl⟩
 ·have HA:Hid (kA l=l.take k∧kB l=l.drop (k+1)∧kS l=true):=(by unfold kA kB kS;rw[h2];exact⟨rfl,rfl,rfl⟩)
  have HI:Hid (Lib.indexByte l 44=(k:Int)):=h1
  clear h1 h2
  go_enter Tryz.func274,Tryz.ntmps274
  go_wp2_with fail
  refine (Tryz.stringslite_Index_one ⟨l.toArray⟩ 44 w).mono ?_
  rintro e w1 ⟨rfl,rfl⟩
  have e1:Lib.indexByte (⟨l.toArray⟩:ByteArray).data.toList 44=(k:Int):=HI.out
  rw[e1]
  clear e1
  have i1:(0:Int)≤(k:Int):=by omega
  have i2:(k:Int)≤(l.length:Int):=by omega
  have i3:(k:Int)+1≤(l.length:Int):=by omega
  have i4:(0:Int)≤(k:Int)+1:=by omega
  have i5:IntKind.i64.wrap ((k:Int)+1)=(k:Int)+1:=wrap_s (by omega) (by omega)
  have i6:((k:Int)+1).toNat=k+1:=by omega
  go_wp2_with fail
  go_quiet (fail)
  go_wp2
  go_ret3
  obtain⟨a1,a2,a3⟩:=HA.out
  rw[a1,a2,a3]
  have k5:(l.drop (k+1)).take (l.length-(k+1))=l.drop (k+1):=List.take_of_length_le (by simp)
  exact⟨by simp[k5],_,rfl⟩
theorem nCut_f (l:List UInt8) (w:World) (hl:l.length≤1099511627776) :
  Calls Tryz.prog 244 #[.string ⟨l.toArray⟩,.string ⟨#[44]⟩] w fun e w'=>e=.returned (.tuple #[.string ⟨(kA l).toArray⟩,.string ⟨(kB l).toArray⟩,.bool (kS l)])∧∃ n,w'=w.drewN n:=by
 go_enter Tryz.func244,Tryz.ntmps244
 go_wp2_with fail
 refine (slCut_f l w hl).mono ?_
 rintro e w1 ⟨rfl,n,rfl⟩
 go_wp2
 go_ret3
 exact⟨rfl,n,rfl⟩
theorem comma_no {s:List UInt8} (h:kS s=true):Pn.parseE s≠0:=by
 unfold kS at h
 rcases comma_sp s with ⟨h1,_⟩ | ⟨k,hk,_,h2⟩
 ·rw[h1] at h
  cases h
 ·have hc:isK s[k]=true:=(by
   have:∀ (l:List UInt8) {a b:List UInt8} {c:UInt8},spB isK l=some (a,c,b)→isK c=true:=(by
    intro l
    induction l with
    | nil=>intro a b c h;cases h
    | cons x l ih =>
     intro a b c h
     simp only[spB] at h
     split at h
     ·rename_i hx
      cases h
      exact hx
     ·split at h
      ·cases h
      ·rename_i hq
       cases h
       exact ih hq)
   exact this s h2)
  have hn:Pn.isNum s=false:=Pn.isNum_bad k hk (by
   unfold isK at hc
   have:s[k]=44:=by simpa using hc
   rw[this]
   decide)
  have:=(Pn.parse_no hn).2
  omega
def nmP (no:Bool) (s:List UInt8):Option (Int × Int):=if no=true then oneP s else lnsP s
theorem kA_self {s:List UInt8} (h:kS s=false):kA s=s∧spB isK s=none:=by
 unfold kS at h
 unfold kA
 cases hq:spB isK s with
 | none=>exact⟨rfl,rfl⟩
 | some q=>rw[hq] at h;cases h
theorem kS_some {s:List UInt8} (h:kS s=true):∃ c,spB isK s=some (kA s,c,kB s):=by
 unfold kS at h
 unfold kA kB
 cases hq:spB isK s with
 | none=>rw[hq] at h;cases h
 | some q=>exact⟨q.2.1,rfl⟩
theorem nm_bad {no:Bool} {s:List UInt8} (h:Pn.parseE (kA s)≠0):nmP no s=none:=by
 unfold nmP
 cases hk:kS s with
 | true =>
  obtain⟨c,hc⟩:=kS_some hk
  have h2:=comma_no hk
  cases no with
  | true =>
   unfold oneP
   rw[if_pos rfl,if_neg h2]
  | false =>
   unfold lnsP
   rw[if_neg (by decide),hc]
   exact if_neg (fun q=>h q.1)
 | false =>
  obtain⟨h1,h2⟩:=kA_self hk
  rw[h1] at h
  cases no with
  | true =>
   unfold oneP
   rw[if_pos rfl,if_neg h]
  | false =>
   unfold lnsP
   rw[if_neg (by decide),h2]
   exact if_neg (fun q=>h q.1)
theorem kA_le (s:List UInt8):(kA s).length≤s.length∧(kB s).length≤s.length:=by
 unfold kA kB
 rcases comma_sp s with ⟨h1,_⟩ | ⟨k,hk,_,h2⟩
 ·rw[h1];simp
 ·rw[h2];simp only[List.length_take,List.length_drop];omega
def NmQ (w:World) (no:Bool) (s:List UInt8) (e:Ending) (w':World):Prop:=∃ x n r,e=.returned (.tuple #[.int .i64 x,.int .i64 n,.bool r])∧nmP no s=(if r=true then some (x,n) else none)∧Below w.heap.size w w'
theorem nnumbers_f (s:List UInt8) (no:Bool) (w:World) (hl:s.length≤1099511627776) :
  Calls Tryz.prog 199 #[.string ⟨s.toArray⟩,.bool no] w fun e w'=>NmQ w no s e w':=by
 have hkl:=kA_le s
 have b1:=@prs_num (kA s)
 have b2:=@prs_num (kB s)
 obtain⟨V1,hV1⟩:∃ V,Pn.parseV (kA s)=V:=⟨_,rfl⟩
 obtain⟨E1,hE1⟩:∃ V,Pn.parseE (kA s)=V:=⟨_,rfl⟩
 obtain⟨V2,hV2⟩:∃ V,Pn.parseV (kB s)=V:=⟨_,rfl⟩
 obtain⟨E2,hE2⟩:∃ V,Pn.parseE (kB s)=V:=⟨_,rfl⟩
 have P1:∀ u:World,Calls Tryz.prog 245 #[.string ⟨(kA s).toArray⟩] u fun e w'=>e=.returned (.tuple #[.int .i64 V1,.int .i64 E1])∧Below u.heap.size u w':=(by
  intro u
  have h:=nParse_any (kA s) u (by unfold maxLen;omega)
  rw[hV1,hE1] at h
  exact h)
 have P2:∀ u:World,Calls Tryz.prog 245 #[.string ⟨(kB s).toArray⟩] u fun e w'=>e=.returned (.tuple #[.int .i64 V2,.int .i64 E2])∧Below u.heap.size u w':=(by
  intro u
  have h:=nParse_any (kB s) u (by unfold maxLen;omega)
  rw[hV2,hE2] at h
  exact h)
 rw[hV1] at b1
 rw[hV2] at b2
 by_cases he1:E1=0
 ·have f1:(E1 != 0)=false:=by simp[he1]
  cases no with
  | true =>
   cases hk:kS s with
   | true =>
    have HN:Hid (nmP true s=none):=(by
     show _=_
     unfold nmP oneP
     rw[if_pos rfl,if_neg (comma_no hk)])
    have C1:=nCut_f s w hl
    rw[hk] at C1
    clear hV1 hE1 hV2 hE2 hk he1 P2
    go_enter Tryz.func199,Tryz.ntmps199
    go_wp2_with fail
    refine C1.mono ?_
    rintro e w1 ⟨rfl,n,rfl⟩
    go_wp2_with fail
    refine (P1 _).mono ?_
    rintro e w2 ⟨rfl,hb2⟩
    go_wp2
    go_ret3
    exact⟨_,_,_,rfl,HN.out,(Below.dN (Below.refl _ w) n).trans hb2⟩
   | false =>
    have HN:Hid (nmP true s=some (V1,0)):=(by
     show _=_
     obtain⟨a1,_⟩:=kA_self hk
     rw[a1] at hV1 hE1
     unfold nmP oneP
     rw[if_pos rfl,if_pos (by rw[hE1];exact he1),hV1])
    have C1:=nCut_f s w hl
    rw[hk] at C1
    clear hV1 hE1 hV2 hE2 hk he1 P2
    go_enter Tryz.func199,Tryz.ntmps199
    go_wp2_with fail
    refine C1.mono ?_
    rintro e w1 ⟨rfl,n,rfl⟩
    go_wp2_with fail
    refine (P1 _).mono ?_
    rintro e w2 ⟨rfl,hb2⟩
    go_wp2
    go_ret3
    exact⟨_,_,_,rfl,HN.out,(Below.dN (Below.refl _ w) n).trans hb2⟩
  | false =>
   cases hk:kS s with
   | false =>
    have HN:Hid (nmP false s=if decide (0<V1)=true then some (V1,1) else none):=(by
     show _=_
     obtain⟨a1,a2⟩:=kA_self hk
     rw[a1] at hV1 hE1
     unfold nmP lnsP
     rw[if_neg (by decide),a2]
     dsimp only
     rw[hV1,hE1]
     by_cases h:0<V1
     ·rw[if_pos ⟨he1,by omega⟩,if_pos (by simpa using h)]
     ·rw[if_neg (by omega),if_neg (by simpa using h)])
    have C1:=nCut_f s w hl
    rw[hk] at C1
    clear hV1 hE1 hV2 hE2 hk he1 P2
    go_enter Tryz.func199,Tryz.ntmps199
    go_wp2_with fail
    refine C1.mono ?_
    rintro e w1 ⟨rfl,n,rfl⟩
    go_wp2_with fail
    refine (P1 _).mono ?_
    rintro e w2 ⟨rfl,hb2⟩
    go_wp2
    go_ret3
    exact⟨_,_,_,rfl,HN.out,(Below.dN (Below.refl _ w) n).trans hb2⟩
   | true =>
    have HN:Hid (nmP false s=if (decide (E2=0) && decide (0<V1) && decide (V1<V2))=true then some (V1,V2-V1+1) else none):=(by
     show _=_
     obtain⟨c,a2⟩:=kS_some hk
     unfold nmP lnsP
     rw[if_neg (by decide),a2]
     dsimp only
     rw[hV1,hE1,hV2,hE2]
     by_cases h:E2=0∧0<V1∧V1<V2
     ·rw[if_pos ⟨he1,h.1,by omega,h.2.2⟩,if_pos (by simp[h.1,h.2.1,h.2.2])]
     ·rw[if_neg (fun q=>h ⟨q.2.1,by omega,q.2.2.2⟩),if_neg (fun q=>h (by simp only[Bool.and_eq_true,decide_eq_true_eq] at q;exact⟨q.1.1,q.1.2,q.2⟩))])
    have C1:=nCut_f s w hl
    rw[hk] at C1
    clear hV1 hE1 hV2 hE2 hk he1
    go_enter Tryz.func199,Tryz.ntmps199
    go_wp2_with fail
    refine C1.mono ?_
    rintro e w1 ⟨rfl,n,rfl⟩
    go_wp2_with fail
    refine (P1 _).mono ?_
    rintro e w2 ⟨rfl,hb2⟩
    go_wp2_with fail
    refine (P2 _).mono ?_
    rintro e w3 ⟨rfl,hb3⟩
    have hb23:=(Below.dN (Below.refl _ w) n).trans (hb2.trans (hb3.mono hb2.size))
    have i1:IntKind.i64.wrap (V2-V1)=V2-V1:=wrap_s (by omega) (by omega)
    have i2:IntKind.i64.wrap (V2-V1+1)=V2-V1+1:=wrap_s (by omega) (by omega)
    by_cases h1:E2=0
    ·have g1:(E2 == 0)=true:=by simp[h1]
     by_cases h2:0<V1
     ·have HN2:Hid (nmP false s=if decide (V1<V2)=true then some (V1,V2-V1+1) else none):=(by
       show _=_
       rw[HN.out]
       simp[h1,h2])
      clear HN h1
      go_wp2
      go_ret3
      exact⟨_,_,_,rfl,HN2.out,hb23⟩
     ·have HN2:Hid (nmP false s=none):=(by have h:=HN.out;rw[if_neg (by simp[h2])] at h;exact h)
      clear HN h1
      go_wp2
      go_ret3
      exact⟨_,_,_,rfl,HN2.out,hb23⟩
    ·have g1:(E2 == 0)=false:=by simp[h1]
     have HN2:Hid (nmP false s=none):=(by have h:=HN.out;rw[if_neg (by simp[h1])] at h;exact h)
     clear HN h1
     go_wp2
     go_ret3
     exact⟨_,_,_,rfl,HN2.out,hb23⟩
 ·have f1:(E1 != 0)=true:=by simp[he1]
  have HN:Hid (nmP no s=none):=nm_bad (by rw[hE1];exact he1)
  have C1:=nCut_f s w hl
  clear hV1 hE1 hV2 hE2 he1 P2
  generalize kS s=ks at C1
  go_enter Tryz.func199,Tryz.ntmps199
  go_wp2_with fail
  refine C1.mono ?_
  rintro e w1 ⟨rfl,n,rfl⟩
  go_wp2_with fail
  refine (P1 _).mono ?_
  rintro e w2 ⟨rfl,hb2⟩
  go_wp2
  go_ret3
  exact⟨_,_,_,rfl,HN.out,(Below.dN (Below.refl _ w) n).trans hb2⟩
end Go.Proofs.YtgiojkhmkeocfaaGreatDoor

/- The reference's range of lines, walked. -/
namespace Go.Proofs.YtgiojkhmkeocfaaGreatDoor
open Go.RowKit
attribute [local go_sem] ByteArray.extract_mk no_at
theorem spB_off {q:UInt8→Bool}:∀ (s:List UInt8),(∀ j (hj:j<s.length),q s[j]=false)→spB q s=none
 | [],_=>rfl
 | c::t,h=>by
  have h0:=h 0 (by simp)
  simp only[List.getElem_cons_zero] at h0
  have ih:=spB_off t (fun j hj=>by have:=h (j+1) (by simp;omega);simpa using this)
  simp[spB,h0,ih]
end Go.Proofs.YtgiojkhmkeocfaaGreatDoor

/- The reference's line that says a change, walked. -/
namespace Go.Proofs.YtgiojkhmkeocfaaGreatDoor
open Go.RowKit
attribute [local go_sem] ByteArray.extract_mk no_at
def CmdP (s:List UInt8) (x:Ending):Prop :=
 match cmdP s with
 | some (A,AN,B,BN)=>x=.returned (.tuple #[hkV ⟨A,AN,B,BN,[]⟩ (.slice none 0 0),.bool true])
 | none=>∃ A AN B BN,x=.returned (.tuple #[hkV ⟨A,AN,B,BN,[]⟩ (.slice none 0 0),.bool false])
theorem CmdP.off {s:List UInt8} (h:∀ j (hj:j<s.length),isC s[j]=false):CmdP s (.returned (.tuple #[hkV ⟨0,0,0,0,[]⟩ (.slice none 0 0),.bool false])):=by
 unfold CmdP cmdP
 rw[spB_off s h]
 exact⟨0,0,0,0,rfl⟩
section
variable {u:World} {b:Nat} {h:Hk} {v:Value}
theorem Hx.putH5 (q:Hx u b h v) (A AN B BN:Int) (l:List Mk) (z:Value):Hx (((((u.setCell ⟨b,0,none⟩ (.int .i64 A)).setCell ⟨b,1,none⟩ (.int .i64 AN)).setCell ⟨b,2,none⟩ (.int .i64 B)).setCell ⟨b,3,none⟩ (.int .i64 BN)).setCell ⟨b,4,none⟩ z) b ⟨A,AN,B,BN,l⟩ z:=by
 have s1:=heap_setCell_same u b 0 _ _ (.int .i64 A) q
 have s2:=heap_setCell_same _ b 1 _ _ (.int .i64 AN) s1
 have s3:=heap_setCell_same _ b 2 _ _ (.int .i64 B) s2
 have s4:=heap_setCell_same _ b 3 _ _ (.int .i64 BN) s3
 exact heap_setCell_same _ b 4 _ _ z s4
theorem Hx.off (q:Hx u b h v) {c j:Nat} (hc:b≠c) (z:Value):Hx (u.setCell ⟨c,j,none⟩ z) b h v:=(Below.heap_setCell _ _ _ b hc).trans q
end
theorem cm_low {w u:World} (h:Below w.heap.size w u) (z0 z1 z2 z3 z4:Value):Below w.heap.size w (((((u.setCell ⟨w.heap.size,0,none⟩ z0).setCell ⟨w.heap.size,1,none⟩ z1).setCell ⟨w.heap.size,2,none⟩ z2).setCell ⟨w.heap.size,3,none⟩ z3).setCell ⟨w.heap.size,4,none⟩ z4) :=
 ((((h.setCell (Nat.le_refl _) _).setCell (Nat.le_refl _) _).setCell (Nat.le_refl _) _).setCell (Nat.le_refl _) _).setCell (Nat.le_refl _) _
end Go.Proofs.YtgiojkhmkeocfaaGreatDoor

/- The code's change of layer 12, walked: a line that says a change. -/
namespace Go.Proofs.YtgiojkhmkeocfaaGreatDoor
open Go.RowKit
attribute [local go_sem] ByteArray.extract_mk no_at
theorem low_drw {W u:World} (h:Low W u):Low W u.drew:=Below.drew h
theorem exec_slTo {u:World} {s x:List UInt8} {k:Nat} (hk:k≤s.length) (hx:s.take k=x) {op:Oper} (p q:Operand) (ho:op.op=.slice 9 p none (some q) none) {ev:Operand→Value} (h1:ev p=.string ⟨s.toArray⟩) (h2:ev q=.int .i64 (k:Int)) :
  (execOp ev op).run Tryz.prog u=.ok (.value (.string ⟨x.toArray⟩)) u:=by
 have i1:(0:Int)≤(k:Int):=by omega
 have i2:(k:Int)≤(s.length:Int):=by omega
 subst hx
 simp only[execOp,ho,h1,h2,Option.map]
 go_simp
theorem exec_slFrom {u:World} {s y:List UInt8} {k:Nat} (hk:k<s.length) (hy:s.drop (k+1)=y) {op:Oper} (p q:Operand) (ho:op.op=.slice 9 p (some q) none none) {ev:Operand→Value} (h1:ev p=.string ⟨s.toArray⟩) (h2:ev q=.int .i64 ((k:Int)+1)) :
  (execOp ev op).run Tryz.prog u=.ok (.value (.string ⟨y.toArray⟩)) u:=by
 have i1:(0:Int)≤(k:Int)+1:=by omega
 have i2:(k:Int)+1≤(s.length:Int):=by omega
 have i3:((k:Int)+1).toNat=k+1:=by omega
 subst hy
 have k5:(s.drop (k+1)).take (s.length-(k+1))=s.drop (k+1):=List.take_of_length_le (by simp)
 simp only[execOp,ho,h1,h2,Option.map]
 go_simp
theorem exec_ixS {u:World} {s:List UInt8} {k:Nat} {c:UInt8} (hk:k<s.length) (hc:s[k]=c) {op:Oper} (p q:Operand) (ho:op.op=.index 9 p q) {ev:Operand→Value} (h1:ev p=.string ⟨s.toArray⟩) (h2:ev q=.int .i64 (k:Int)) :
  (execOp ev op).run Tryz.prog u=.ok (.value (.int .u8 (c.toNat:Int))) u:=by
 have i1:(0:Int)≤(k:Int):=by omega
 have i2:(k:Int)<(s.length:Int):=by omega
 subst hc
 simp only[execOp,ho,h1,h2]
 go_simp
theorem u8_eq (c d:UInt8):((c.toNat:Int) == (d.toNat:Int))=(c == d):=by
 rw[Bool.eq_iff_iff,beq_iff_eq,beq_iff_eq,← UInt8.toNat_inj]
 omega
theorem exec_eq8 {u:World} {a b:Int} {r:Bool} {op:Oper} (p q:Operand) (ho:op.op=.binOp .eql 5 p q 5) {ev:Operand→Value} (h1:ev p=.int .u8 a) (h2:ev q=.int .u8 b) (hr:(a == b)=r) :
  (execOp ev op).run Tryz.prog u=.ok (.value (.bool r)) u:=by
 simp only[execOp,ho,h1,h2]
 go_simp
theorem exec_addI {u:World} {p q:Int} (h:IntKind.i64.wrap (p+q)=p+q) {op:Oper} (x y:Operand) (ho:op.op=.binOp .add 3 x y 3) {ev:Operand→Value} (hx:ev x=.int .i64 p) (hy:ev y=.int .i64 q) :
  (execOp ev op).run Tryz.prog u=.ok (.value (.int .i64 (p+q))) u:=by
 simp only[execOp,ho,hx,hy]
 go_simp
theorem num_held {W u:World} {s:List UInt8} {no:Bool} (hL:Low W u) (hl:s.length≤1099511627776):Calls Tryz.prog 199 (#[.string ⟨s.toArray⟩,.bool no]++#[]) u fun e w'=>∃ v,e=.returned v∧Low W w'∧∃ A AN b1,v=.tuple #[.int .i64 A,.int .i64 AN,.bool b1]∧nmP no s=(if b1=true then some (A,AN) else none):=by
 refine (nnumbers_f s no u hl).mono ?_
 rintro e w' ⟨x,n,r,rfl,h1,h2⟩
 exact⟨_,rfl,Below.trans hL (h2.mono (Below.size hL)),x,n,r,rfl,h1⟩
theorem nm_ret (tmps:Array Value) (u:World) (B:Nat) (g:Hk) (v:Value) (h:Hx u B g v) {b:Value} (h2:tmps.getD 2 undef=.pointer (some ⟨B,0,none⟩)) (h3:tmps.getD 3 undef=b) :
  (results Tryz.f136 tmps).run Tryz.prog u=.ok (.tuple #[hkV g v,b]) u:=by
 rw[_root_.Go.results_cell_tmp rfl,h2,h3]
 have hL:(loadVar 59 ⟨B,0,none⟩).run Tryz.prog u=.ok (hkV g v) u:=run_loadVar_row u B _ _ _ _ _ h Tryz.underlying59 rfl (by kernel_rfl)
 simp[asAddr,hL,Result.andThen]
theorem nchange_f (s:List UInt8) (hs:s.length<4294967281) (w:World) :
  Calls Tryz.prog 136 #[.string ⟨s.toArray⟩] w fun x w'=>CmdP s x∧Below w.heap.size w w':=by
 have hx0:=Hx.new w ⟨0,0,0,0,[]⟩ (.slice none 0 0)
 have hB0:Below w.heap.size w (w.alloc (hkO ⟨0,0,0,0,[]⟩ (.slice none 0 0))):=(Below.refl _ w).alloc (Nat.le_refl _) _
 unfold hkO at hx0 hB0
 dsimp only at hx0 hB0
 have hIx:=fun u=>IndexAny_any s hs u
 rcases wend_sp s with ⟨h1,h2⟩ | ⟨k,hlt,h1,h2,h3⟩
 ·have HC:Hid (∀ A AN B BN,CmdP s (.returned (.tuple #[hkV ⟨A,AN,B,BN,[]⟩ (.slice none 0 0),.bool false]))):=(by
   intro A AN B BN
   unfold CmdP cmdP
   rw[h1]
   exact⟨_,_,_,_,rfl⟩)
  rw[h2] at hIx
  clear h1 h2
  go_enter Tryz.func136,Tryz.ntmps136
  go_wp2_with fail
  generalize w.alloc (.cells #[.int .i64 0,.int .i64 0,.int .i64 0,.int .i64 0,.slice none 0 0] 59)=W at hx0 hB0 ⊢
  refine (hIx _).mono ?_
  rintro e w1 ⟨rfl,hb1⟩
  have hx1:=hx0.low hb1
  have hB1:=hB0.trans (hb1.mono hB0.size)
  obtain⟨c0,c1,c2,c3,c4⟩:=hx1.cells
  have f0:=hx1.frozen 0
  have f1:=hx1.frozen 1
  have f2:=hx1.frozen 2
  have f3:=hx1.frozen 3
  have f4:=hx1.frozen 4
  have hP:=hx1.putH5 0 0 0 0 [] (.slice none 0 0)
  have hBP:=cm_low hB1 (.int .i64 0) (.int .i64 0) (.int .i64 0) (.int .i64 0) (.slice none 0 0)
  go_wp2
  refine bodyPost_ret (nm_ret _ _ _ _ _ hP rfl rfl) rfl ⟨HC.out _ _ _ _,hBP⟩
 ·obtain⟨c,hcd⟩:∃ c,s[k]=c:=⟨_,rfl⟩
  obtain⟨x,hx⟩:∃ x,s.take k=x:=⟨_,rfl⟩
  obtain⟨y,hy⟩:∃ y,s.drop (k+1)=y:=⟨_,rfl⟩
  have hxl:x.length≤1099511627776:=(by rw[← hx,List.length_take];omega)
  have hyl:y.length≤1099511627776:=(by rw[← hy,List.length_drop];omega)
  have hkl:k≤s.length:=by omega
  have HC:Hid (∀ A AN B BN b1 b2,nmP (c == 97) x=(if b1=true then some (A,AN) else none)→nmP (c == 100) y=(if b2=true then some (B,BN) else none)→CmdP s (.returned (.tuple #[hkV ⟨A,AN,B,BN,[]⟩ (.slice none 0 0),.bool (b1 && b2)]))):=(by
   intro A AN B BN b1 b2 hA hB
   unfold CmdP cmdP
   rw[h2,hcd,hx,hy]
   dsimp only
   have e1:(if c=97 then oneP x else lnsP x)=nmP (c == 97) x:=(by
    unfold nmP
    by_cases h:c=97<;>simp[h])
   have e2:(if c=100 then oneP y else lnsP y)=nmP (c == 100) y:=(by
    unfold nmP
    by_cases h:c=100<;>simp[h])
   rw[e1,e2,hA,hB]
   cases b1<;>cases b2
   ·exact⟨_,_,_,_,rfl⟩
   ·exact⟨_,_,_,_,rfl⟩
   ·exact⟨_,_,_,_,rfl⟩
   ·rfl)
  rw[h1] at hIx
  clear h1 h2 h3
  go_enter Tryz.func136,Tryz.ntmps136
  go_wp2_with fail
  generalize w.alloc (.cells #[.int .i64 0,.int .i64 0,.int .i64 0,.int .i64 0,.slice none 0 0] 59)=W0 at hx0 hB0 ⊢
  refine (hIx _).mono ?_
  rintro e W ⟨rfl,hb1⟩
  have hx1:=hx0.low hb1
  have hB1:=hB0.trans (hb1.mono hB0.size)
  clear hx0 hB0 hb1
  have hlow:Low W W.drew:=Below.drew (Below.refl _ _)
  have i0:¬ ((k:Int)<0):=by omega
  go_upto_region 4 with fail
  refine wp_region_noPanic ?_
  refine wp_region_held_drew (S:=fun u=>Low W u) (by kernel_rfl) hlow (fun hHeld=>?_)
  generalize W.drew=wd at hHeld ⊢
  refine go_take 0 17 _ (.string ⟨s.toArray⟩) rfl (by kernel_rfl) (by kernel_rfl) (by kernel_rfl) (by kernel_rfl) (fun _ _ _ h=>h) (Or.inl ⟨by kernel_rfl,fun u hu=>by kernel_rfl⟩) hHeld ?_
  simp only[Act.put,List.setIfInBounds_toArray,List.set_cons_zero,List.set_cons_succ]
  refine go_take 1 18 _ (.int .i64 (k:Int)) rfl (by kernel_rfl) (by kernel_rfl) (by kernel_rfl) (by kernel_rfl) (fun _ _ _ h=>h) (Or.inl ⟨by kernel_rfl,fun u hu=>by kernel_rfl⟩) hHeld ?_
  simp only[Act.put,List.setIfInBounds_toArray,List.set_cons_zero,List.set_cons_succ]
  refine go_take 2 19 _ (.string ⟨x.toArray⟩) rfl (by kernel_rfl) (by kernel_rfl) (by kernel_rfl) (by kernel_rfl) (fun _ _ _ h=>h) (Or.inl ⟨by kernel_rfl,fun u hu=>exec_slTo hkl hx (.tmp 17) (.tmp 18) (by kernel_rfl) (by kernel_rfl) (by kernel_rfl)⟩) hHeld ?_
  simp only[Act.put,List.setIfInBounds_toArray,List.set_cons_zero,List.set_cons_succ]
  refine go_take 3 20 _ (.string ⟨s.toArray⟩) rfl (by kernel_rfl) (by kernel_rfl) (by kernel_rfl) (by kernel_rfl) (fun _ _ _ h=>h) (Or.inl ⟨by kernel_rfl,fun u hu=>by kernel_rfl⟩) hHeld ?_
  simp only[Act.put,List.setIfInBounds_toArray,List.set_cons_zero,List.set_cons_succ]
  refine go_take 4 21 _ (.int .i64 (k:Int)) rfl (by kernel_rfl) (by kernel_rfl) (by kernel_rfl) (by kernel_rfl) (fun _ _ _ h=>h) (Or.inl ⟨by kernel_rfl,fun u hu=>by kernel_rfl⟩) hHeld ?_
  simp only[Act.put,List.setIfInBounds_toArray,List.set_cons_zero,List.set_cons_succ]
  refine go_take 5 22 _ (.int .u8 (c.toNat:Int)) rfl (by kernel_rfl) (by kernel_rfl) (by kernel_rfl) (by kernel_rfl) (fun _ _ _ h=>h) (Or.inl ⟨by kernel_rfl,fun u hu=>exec_ixS hlt hcd (.tmp 20) (.tmp 21) (by kernel_rfl) (by kernel_rfl) (by kernel_rfl)⟩) hHeld ?_
  simp only[Act.put,List.setIfInBounds_toArray,List.set_cons_zero,List.set_cons_succ]
  refine go_take 6 23 _ (.bool (c == 97)) rfl (by kernel_rfl) (by kernel_rfl) (by kernel_rfl) (by kernel_rfl) (fun _ _ _ h=>h) (Or.inl ⟨by kernel_rfl,fun u hu=>exec_eq8 (.tmp 22) (.const (.int .u8 97)) (by kernel_rfl) (by kernel_rfl) (by kernel_rfl) (u8_eq c 97)⟩) hHeld ?_
  simp only[Act.put,List.setIfInBounds_toArray,List.set_cons_zero,List.set_cons_succ]
  refine go_callE 7 24 _ rfl (by kernel_rfl) (by kernel_rfl) (by kernel_rfl) 199 (.func 199) #[.tmp 19,.tmp 23] #[9,4] (by kernel_rfl) #[] (by kernel_rfl) #[.string ⟨x.toArray⟩,.bool (c == 97)] (by kernel_rfl) (enters_of Tryz.func199 (by kernel_rfl) rfl) (fun v u=>∃ A AN b1,v=.tuple #[.int .i64 A,.int .i64 AN,.bool b1]∧nmP (c == 97) x=(if b1=true then some (A,AN) else none)) ?_ ?_
  ·exact num_held hHeld hxl
  rintro _ u1 hH1 ⟨A,AN,b1,rfl,hA⟩
  simp only[Act.put,List.setIfInBounds_toArray,List.set_cons_zero,List.set_cons_succ]
  refine go_take 8 16 _ (.tuple #[.int .i64 A,.int .i64 AN,.bool b1]) rfl (by kernel_rfl) (by kernel_rfl) (by kernel_rfl) (by kernel_rfl) (fun _ _ _ h=>h) (Or.inl ⟨by kernel_rfl,fun u hu=>by kernel_rfl⟩) hH1 ?_
  simp only[Act.put,List.setIfInBounds_toArray,List.set_cons_zero,List.set_cons_succ]
  refine go_take 9 25 _ (.int .i64 A) rfl (by kernel_rfl) (by kernel_rfl) (by kernel_rfl) (by kernel_rfl) (fun _ _ _ h=>h) (Or.inl ⟨by kernel_rfl,fun u hu=>by kernel_rfl⟩) hH1 ?_
  simp only[Act.put,List.setIfInBounds_toArray,List.set_cons_zero,List.set_cons_succ]
  refine go_take 10 26 _ (.int .i64 AN) rfl (by kernel_rfl) (by kernel_rfl) (by kernel_rfl) (by kernel_rfl) (fun _ _ _ h=>h) (Or.inl ⟨by kernel_rfl,fun u hu=>by kernel_rfl⟩) hH1 ?_
  simp only[Act.put,List.setIfInBounds_toArray,List.set_cons_zero,List.set_cons_succ]
  refine go_take 11 27 _ (.bool b1) rfl (by kernel_rfl) (by kernel_rfl) (by kernel_rfl) (by kernel_rfl) (fun _ _ _ h=>h) (Or.inl ⟨by kernel_rfl,fun u hu=>by kernel_rfl⟩) hH1 ?_
  simp only[Act.put,List.setIfInBounds_toArray,List.set_cons_zero,List.set_cons_succ]
  refine go_take 12 5 _ (.int .i64 A) rfl (by kernel_rfl) (by kernel_rfl) (by kernel_rfl) (by kernel_rfl) (fun _ _ _ h=>h) (Or.inl ⟨by kernel_rfl,fun u hu=>by kernel_rfl⟩) hH1 ?_
  simp only[Act.put,List.setIfInBounds_toArray,List.set_cons_zero,List.set_cons_succ]
  refine go_take 13 6 _ (.int .i64 AN) rfl (by kernel_rfl) (by kernel_rfl) (by kernel_rfl) (by kernel_rfl) (fun _ _ _ h=>h) (Or.inl ⟨by kernel_rfl,fun u hu=>by kernel_rfl⟩) hH1 ?_
  simp only[Act.put,List.setIfInBounds_toArray,List.set_cons_zero,List.set_cons_succ]
  refine go_take 14 7 _ (.bool b1) rfl (by kernel_rfl) (by kernel_rfl) (by kernel_rfl) (by kernel_rfl) (fun _ _ _ h=>h) (Or.inl ⟨by kernel_rfl,fun u hu=>by kernel_rfl⟩) hH1 ?_
  simp only[Act.put,List.setIfInBounds_toArray,List.set_cons_zero,List.set_cons_succ]
  refine wpAnyH_done (by kernel_rfl) ?_ _
  refine NoPanic.normal ?_
  go_upto_region 5 with fail
  refine wp_region_noPanic ?_
  refine wp_region_held_drew (S:=fun u=>Low W u) (by kernel_rfl) (low_drw hH1) (fun hHeld=>?_)
  generalize u1.drew=wd2 at hHeld ⊢
  refine go_take 0 29 _ (.string ⟨s.toArray⟩) rfl (by kernel_rfl) (by kernel_rfl) (by kernel_rfl) (by kernel_rfl) (fun _ _ _ h=>h) (Or.inl ⟨by kernel_rfl,fun u hu=>by kernel_rfl⟩) hHeld ?_
  simp only[Act.put,List.setIfInBounds_toArray,List.set_cons_zero,List.set_cons_succ]
  refine go_take 1 30 _ (.int .i64 (k:Int)) rfl (by kernel_rfl) (by kernel_rfl) (by kernel_rfl) (by kernel_rfl) (fun _ _ _ h=>h) (Or.inl ⟨by kernel_rfl,fun u hu=>by kernel_rfl⟩) hHeld ?_
  simp only[Act.put,List.setIfInBounds_toArray,List.set_cons_zero,List.set_cons_succ]
  refine go_take 2 31 _ (.int .i64 ((k:Int)+1)) rfl (by kernel_rfl) (by kernel_rfl) (by kernel_rfl) (by kernel_rfl) (fun _ _ _ h=>h) (Or.inl ⟨by kernel_rfl,fun u hu=>exec_addI (p:=(k:Int)) (q:=1) (wrap_s (by omega) (by omega)) (.tmp 30) (.const (.int .i64 1)) (by kernel_rfl) (by kernel_rfl) (by kernel_rfl)⟩) hHeld ?_
  simp only[Act.put,List.setIfInBounds_toArray,List.set_cons_zero,List.set_cons_succ]
  refine go_take 3 32 _ (.string ⟨y.toArray⟩) rfl (by kernel_rfl) (by kernel_rfl) (by kernel_rfl) (by kernel_rfl) (fun _ _ _ h=>h) (Or.inl ⟨by kernel_rfl,fun u hu=>exec_slFrom hlt hy (.tmp 29) (.tmp 31) (by kernel_rfl) (by kernel_rfl) (by kernel_rfl)⟩) hHeld ?_
  simp only[Act.put,List.setIfInBounds_toArray,List.set_cons_zero,List.set_cons_succ]
  refine go_take 4 33 _ (.string ⟨s.toArray⟩) rfl (by kernel_rfl) (by kernel_rfl) (by kernel_rfl) (by kernel_rfl) (fun _ _ _ h=>h) (Or.inl ⟨by kernel_rfl,fun u hu=>by kernel_rfl⟩) hHeld ?_
  simp only[Act.put,List.setIfInBounds_toArray,List.set_cons_zero,List.set_cons_succ]
  refine go_take 5 34 _ (.int .i64 (k:Int)) rfl (by kernel_rfl) (by kernel_rfl) (by kernel_rfl) (by kernel_rfl) (fun _ _ _ h=>h) (Or.inl ⟨by kernel_rfl,fun u hu=>by kernel_rfl⟩) hHeld ?_
  simp only[Act.put,List.setIfInBounds_toArray,List.set_cons_zero,List.set_cons_succ]
  refine go_take 6 35 _ (.int .u8 (c.toNat:Int)) rfl (by kernel_rfl) (by kernel_rfl) (by kernel_rfl) (by kernel_rfl) (fun _ _ _ h=>h) (Or.inl ⟨by kernel_rfl,fun u hu=>exec_ixS hlt hcd (.tmp 33) (.tmp 34) (by kernel_rfl) (by kernel_rfl) (by kernel_rfl)⟩) hHeld ?_
  simp only[Act.put,List.setIfInBounds_toArray,List.set_cons_zero,List.set_cons_succ]
  refine go_take 7 36 _ (.bool (c == 100)) rfl (by kernel_rfl) (by kernel_rfl) (by kernel_rfl) (by kernel_rfl) (fun _ _ _ h=>h) (Or.inl ⟨by kernel_rfl,fun u hu=>exec_eq8 (.tmp 35) (.const (.int .u8 100)) (by kernel_rfl) (by kernel_rfl) (by kernel_rfl) (u8_eq c 100)⟩) hHeld ?_
  simp only[Act.put,List.setIfInBounds_toArray,List.set_cons_zero,List.set_cons_succ]
  refine go_callE 8 37 _ rfl (by kernel_rfl) (by kernel_rfl) (by kernel_rfl) 199 (.func 199) #[.tmp 32,.tmp 36] #[9,4] (by kernel_rfl) #[] (by kernel_rfl) #[.string ⟨y.toArray⟩,.bool (c == 100)] (by kernel_rfl) (enters_of Tryz.func199 (by kernel_rfl) rfl) (fun v u=>∃ A AN b1,v=.tuple #[.int .i64 A,.int .i64 AN,.bool b1]∧nmP (c == 100) y=(if b1=true then some (A,AN) else none)) ?_ ?_
  ·exact num_held hHeld hyl
  rintro _ u2 hH2 ⟨B,BN,b2,rfl,hB⟩
  simp only[Act.put,List.setIfInBounds_toArray,List.set_cons_zero,List.set_cons_succ]
  refine go_take 9 28 _ (.tuple #[.int .i64 B,.int .i64 BN,.bool b2]) rfl (by kernel_rfl) (by kernel_rfl) (by kernel_rfl) (by kernel_rfl) (fun _ _ _ h=>h) (Or.inl ⟨by kernel_rfl,fun u hu=>by kernel_rfl⟩) hH2 ?_
  simp only[Act.put,List.setIfInBounds_toArray,List.set_cons_zero,List.set_cons_succ]
  refine go_take 10 38 _ (.int .i64 B) rfl (by kernel_rfl) (by kernel_rfl) (by kernel_rfl) (by kernel_rfl) (fun _ _ _ h=>h) (Or.inl ⟨by kernel_rfl,fun u hu=>by kernel_rfl⟩) hH2 ?_
  simp only[Act.put,List.setIfInBounds_toArray,List.set_cons_zero,List.set_cons_succ]
  refine go_take 11 39 _ (.int .i64 BN) rfl (by kernel_rfl) (by kernel_rfl) (by kernel_rfl) (by kernel_rfl) (fun _ _ _ h=>h) (Or.inl ⟨by kernel_rfl,fun u hu=>by kernel_rfl⟩) hH2 ?_
  simp only[Act.put,List.setIfInBounds_toArray,List.set_cons_zero,List.set_cons_succ]
  refine go_take 12 40 _ (.bool b2) rfl (by kernel_rfl) (by kernel_rfl) (by kernel_rfl) (by kernel_rfl) (fun _ _ _ h=>h) (Or.inl ⟨by kernel_rfl,fun u hu=>by kernel_rfl⟩) hH2 ?_
  simp only[Act.put,List.setIfInBounds_toArray,List.set_cons_zero,List.set_cons_succ]
  refine go_take 13 8 _ (.int .i64 B) rfl (by kernel_rfl) (by kernel_rfl) (by kernel_rfl) (by kernel_rfl) (fun _ _ _ h=>h) (Or.inl ⟨by kernel_rfl,fun u hu=>by kernel_rfl⟩) hH2 ?_
  simp only[Act.put,List.setIfInBounds_toArray,List.set_cons_zero,List.set_cons_succ]
  refine go_take 14 9 _ (.int .i64 BN) rfl (by kernel_rfl) (by kernel_rfl) (by kernel_rfl) (by kernel_rfl) (fun _ _ _ h=>h) (Or.inl ⟨by kernel_rfl,fun u hu=>by kernel_rfl⟩) hH2 ?_
  simp only[Act.put,List.setIfInBounds_toArray,List.set_cons_zero,List.set_cons_succ]
  refine go_take 15 10 _ (.bool b2) rfl (by kernel_rfl) (by kernel_rfl) (by kernel_rfl) (by kernel_rfl) (fun _ _ _ h=>h) (Or.inl ⟨by kernel_rfl,fun u hu=>by kernel_rfl⟩) hH2 ?_
  simp only[Act.put,List.setIfInBounds_toArray,List.set_cons_zero,List.set_cons_succ]
  refine wpAnyH_done (by kernel_rfl) ?_ _
  refine NoPanic.normal ?_
  have hx2:=hx1.low hH2
  have hB2:=hB1.trans (Below.mono hH2 hB1.size)
  obtain⟨c0,c1,c2,c3,c4⟩:=hx2.cells
  have f0:=hx2.frozen 0
  have f1:=hx2.frozen 1
  have f2:=hx2.frozen 2
  have f3:=hx2.frozen 3
  have f4:=hx2.frozen 4
  have hP:=hx2.putH5 A AN B BN [] (.slice none 0 0)
  have hBP:=cm_low hB2 (.int .i64 A) (.int .i64 AN) (.int .i64 B) (.int .i64 BN) (.slice none 0 0)
  have HD:=HC.out A AN B BN b1 b2 hA hB
  clear HC hA hB hx hy hcd
  cases b1 with
  | true =>
   go_wp2
   refine bodyPost_ret (nm_ret _ _ _ _ _ hP rfl rfl) rfl ⟨?_,hBP⟩
   simpa using HD
  | false =>
   go_wp2
   refine bodyPost_ret (nm_ret _ _ _ _ _ hP rfl rfl) rfl ⟨?_,hBP⟩
   simpa using HD
end Go.Proofs.YtgiojkhmkeocfaaGreatDoor

/- The code's reader, walked: a hunk. -/
namespace Go.Proofs.YtgiojkhmkeocfaaGreatDoor
open Go.RowKit
attribute [local go_sem] ByteArray.extract_mk no_at
theorem grown_fr {R B:Nat} {w u v:World} (h:w.grownBy u (some R)) (h':Fr B R u v) (hB:w.heap.size≤B):w.grownBy v (some R) :=
 ⟨h'.os.trans h.os,h'.tape.trans h.tape,h'.output.trans h.output,Nat.le_trans h.size h'.size,fun k h1 h2=>(h'.block k (Nat.lt_of_lt_of_le h1 hB) (fun e=>h2 (by rw[e]))).trans (h.block k h1 h2)⟩
theorem Hx.fr {u u':World} {b B R:Nat} {h:Hk} {v:Value} (q:Hx u b h v) (hf:Fr B R u u') (hb:b<B) (hR:b≠R):Hx u' b h v:=(hf.block b hb hR).trans q
theorem Hx.put4 {u:World} {b:Nat} {h:Hk} {v:Value} (q:Hx u b h v) (l:List Mk) (z:Value):Hx (u.setCell ⟨b,4,none⟩ z) b ⟨h.A,h.AN,h.B,h.BN,l⟩ z:=heap_setCell_same u b 4 _ _ z q
theorem five_own {w:World} {B:Nat} {v:Value} {n:Nat} {xs:List Value} (h:w.ownsRow B 103 2 v n xs) {b:Nat} (hne:v.ownBlock≠some b) (A AN C CN:Int) (z:Value):(((((w.setCell ⟨b,0,none⟩ (.int .i64 A)).setCell ⟨b,1,none⟩ (.int .i64 AN)).setCell ⟨b,2,none⟩ (.int .i64 C)).setCell ⟨b,3,none⟩ (.int .i64 CN)).setCell ⟨b,4,none⟩ z).ownsRow B 103 2 v n xs :=
 ((((h.kept (grown_set _ b 0 _) (.inr hne)).kept (grown_set _ b 1 _) (.inr hne)).kept (grown_set _ b 2 _) (.inr hne)).kept (grown_set _ b 3 _) (.inr hne)).kept (grown_set _ b 4 _) (.inr hne)
theorem five_ry {w:World} {R:Nat} {vL:Value} {p:Int} (h:Ry w R vL p) {b:Nat} (hne:R≠b) (A AN C CN:Int) (z:Value):Ry (((((w.setCell ⟨b,0,none⟩ (.int .i64 A)).setCell ⟨b,1,none⟩ (.int .i64 AN)).setCell ⟨b,2,none⟩ (.int .i64 C)).setCell ⟨b,3,none⟩ (.int .i64 CN)).setCell ⟨b,4,none⟩ z) R vL p :=
 have hn:∀ _:Nat,(some R:Option Nat)≠some b:=fun _ e=>hne (Option.some.inj e)
 ((((h.keep (grown_set _ b 0 _) (hn 0)).keep (grown_set _ b 1 _) (hn 0)).keep (grown_set _ b 2 _) (hn 0)).keep (grown_set _ b 3 _) (hn 0)).keep (grown_set _ b 4 _) (hn 0)
def hkEnd (A AN B BN:Int) (l1:List Mk) (X2:Except (Nat × Int) (List Mk × Nat × List (List UInt8))):Except (Nat × Int) (Hk × Nat × List (List UInt8)) :=
 match X2 with
 | .error e=>.error e
 | .ok (l2,p3,r3)=>.ok (⟨A,AN,B,BN,l1++l2⟩,p3,r3)
def HkQ (R:Nat) (vL:Value) (X:Except (Nat × Int) (Hk × Nat × List (List UInt8))) (w:World) (x:Ending) (w':World):Prop :=
 match X with
 | .error (a,e)=>Thr (a:Int) e x w'∧w.grownBy w' (some R)
 | .ok (h,p1,_)=>∃ v',x=.returned (hkV h v')∧w'.ownsRow w.heap.size 103 2 v' h.ls.length (mkcells h.ls)∧Ry w' R vL (p1:Int)∧w.grownBy w' (some R)
theorem nhunk_f {R:Nat} {L:List (List UInt8)} {lo:Option Addr} {lc:Nat} {p:Nat} (w:World) (q:Ry w R (.slice lo L.length lc) p) (HL:Hid (∀ u,w.grownBy u (some R)→HS u (.slice lo L.length lc) L)) (HPl:Hid (Plain L)) (hp:p≤L.length) (hLl:L.length≤1048576) (HSl:Hid (∀ s∈L,s.length≤1048576))
  (k:Nat) (hk:k≤4096) (X:Except (Nat × Int) (Hk × Nat × List (List UInt8))) (HX:Hid (hkK k p (L.drop p)=X)) :
  Calls Tryz.prog 85 #[.pointer (some ⟨R,0,none⟩),.int .i64 (k:Int)] w fun x w'=>HkQ R (.slice lo L.length lc) X w x w':=by
 have hRw:=q.lt
 have HSl2:Hid (∀ s∈L,s.length≤1099511627776):=fun s hs=>by have:=HSl.out s hs;omega
 have hr0:=Hx.new w ⟨0,0,0,0,[]⟩ (.slice none 0 0)
 have g0:w.grownBy (w.alloc (hkO ⟨0,0,0,0,[]⟩ (.slice none 0 0))) (some R):=World.grownBy_alloc w _ _
 have q0:Ry (w.alloc (hkO ⟨0,0,0,0,[]⟩ (.slice none 0 0))) R (.slice lo L.length lc) p:=q.low ((Below.refl _ w).alloc (Nat.le_refl _) _)
 have HZ0:Hid ((w.alloc (hkO ⟨0,0,0,0,[]⟩ (.slice none 0 0))).heap.size=w.heap.size+1):=(by show _=_;simp)
 have hW0:w.alloc (.cells #[.int .i64 0,.int .i64 0,.int .i64 0,.int .i64 0,.slice none 0 0] 59)=w.alloc (hkO ⟨0,0,0,0,[]⟩ (.slice none 0 0)):=rfl
 obtain⟨Z,hZ⟩:∃ Z,nxt p (L.drop p)=Z:=⟨_,rfl⟩
 have hX:=HX.out
 clear HX q
 unfold hkK at hX
 rw[hZ] at hX
 go_enter Tryz.func85,Tryz.ntmps85
 go_wp2_with fail
 generalize w.alloc (hkO ⟨0,0,0,0,[]⟩ (.slice none 0 0))=W0 at *
 clear hW0
 have hl:=nline_f W0 q0 (HL.out W0 g0) hp (by omega) HSl2.out Z hZ
 cases Z with
 | error z =>
  obtain⟨a,e⟩:=z
  dsimp only at hX
  subst hX
  refine hl.mono ?_
  rintro x w1 ⟨⟨g,rfl,hg⟩,hgr⟩
  have hfin:=grown_two g0 hgr
  go_wp2
  exact⟨rfl,⟨_,rfl,hg⟩,hfin⟩
 | ok z =>
  obtain⟨s,r⟩:=z
  dsimp only at hX
  obtain⟨hr,hpl,_,hLp⟩:=nxt_rest hZ
  subst hr
  have hsl:=HSl.out L[p] (List.getElem_mem hpl)
  rw[hLp,List.length_append] at hsl
  obtain⟨T,hT⟩:∃ T,s++[10]=T:=⟨_,rfl⟩
  have hTl:T.length≤1048576:=(by rw[← hT,List.length_append];exact hsl)
  have hTS:Lib.trimSuffix (⟨T.toArray⟩:ByteArray).data.toList (⟨#[10]⟩:ByteArray).data.toList=s:=(by
   show Lib.trimSuffix T [10]=s
   rw[← hT]
   unfold Lib.trimSuffix
   rw[suf_feed,if_pos (fd_snoc s)]
   simp)
  have htr:=fun u=>Tryz.strings_TrimSuffix ⟨T.toArray⟩ ⟨#[10]⟩ u (by show T.length≤_;omega)
  rw[hTS] at htr
  have hcm:=fun u=>nchange_f s (by simp only[List.length_cons,List.length_nil] at hsl;omega) u
  clear hTS hZ hLp hsl
  refine hl.mono ?_
  rintro x w1 ⟨hx1,nn,rfl⟩
  rw[hT] at hx1
  subst hx1
  clear hl hT
  have q1:=q0.dN nn
  have hr1:Hx (W0.drewN nn) w.heap.size ⟨0,0,0,0,[]⟩ (.slice none 0 0):=hr0
  have g1:=grown_drewN g0 nn
  have HZ1:Hid ((W0.drewN nn).heap.size=w.heap.size+1):=HZ0
  clear q0 hr0 g0 HZ0
  generalize W0.drewN nn=W1 at *
  go_wp2_with fail
  refine (htr W1).mono ?_
  rintro x w2 ⟨rfl,rfl⟩
  go_wp2_with fail
  refine (hcm w2).mono ?_
  rintro x w2b ⟨hCP,hb2⟩
  have q2:=q1.low hb2
  have hr2:=hr1.low hb2
  have g2:=grown_two g1 (low_grown hb2 _)
  have hz2:w.heap.size+1≤w2b.heap.size:=(by have:=HZ1.out;have:=hb2.size;omega)
  clear q1 hr1 g1 HZ1 hb2 htr hcm
  unfold CmdP at hCP
  cases hc:cmdP s with
  | none =>
   rw[hc] at hCP hX
   dsimp only at hX
   subst hX
   obtain⟨A,AN,B,BN,rfl⟩:=hCP
   have g3:=grown_two g2 (World.grownBy_alloc w2b (hkO ⟨A,AN,B,BN,[]⟩ (.slice none 0 0)) (some R))
   have q3:Ry (w2b.alloc (hkO ⟨A,AN,B,BN,[]⟩ (.slice none 0 0))) R (.slice lo L.length lc) p:=q2.low ((Below.refl _ w2b).alloc (Nat.le_refl _) _)
   unfold hkV
   dsimp only
   go_wp2_with fail
   refine (nthrow_f 3 _ q3 (by omega)).mono ?_
   rintro x w3 ⟨⟨g,rfl,hg⟩,hgr⟩
   have hfin:=grown_two g3 hgr
   go_wp2
   exact⟨rfl,⟨_,rfl,by simpa using hg⟩,hfin⟩
  | some z =>
   obtain⟨A,AN,B,BN⟩:=z
   have hcr:=cmd_right hc
   rw[hc] at hCP hX
   dsimp only at hCP hX
   subst hCP
   obtain⟨an,rfl⟩:=Int.eq_ofNat_of_zero_le hcr.1.2.2.1
   obtain⟨bn,rfl⟩:=Int.eq_ofNat_of_zero_le hcr.2.1.2.2.1
   have han:an≤2147483647:=by omega
   have hbn:bn≤2147483647:=by omega
   clear hcr hc
   have g3:=grown_two g2 (World.grownBy_alloc w2b (hkO ⟨A,(an:Int),B,(bn:Int),[]⟩ (.slice none 0 0)) (some R))
   have q3:Ry (w2b.alloc (hkO ⟨A,(an:Int),B,(bn:Int),[]⟩ (.slice none 0 0))) R (.slice lo L.length lc) p:=q2.low ((Below.refl _ w2b).alloc (Nat.le_refl _) _)
   have hx3:=Hx.new w2b ⟨A,(an:Int),B,(bn:Int),[]⟩ (.slice none 0 0)
   have hr3:Hx (w2b.alloc (hkO ⟨A,(an:Int),B,(bn:Int),[]⟩ (.slice none 0 0))) w.heap.size ⟨0,0,0,0,[]⟩ (.slice none 0 0):=hr2.low ((Below.refl _ w2b).alloc (Nat.le_refl _) _)
   have HZ3:Hid ((w2b.alloc (hkO ⟨A,(an:Int),B,(bn:Int),[]⟩ (.slice none 0 0))).heap.size=w2b.heap.size+1):=(by show _=_;simp)
   obtain⟨H,hH⟩:∃ H,w2b.heap.size=H:=⟨_,rfl⟩
   rw[hH] at hx3 HZ3
   have HH:Hid (w2b.heap.size=H):=hH
   rw[Int.toNat_natCast,Int.toNat_natCast] at hX
   by_cases hk2:k=4096
   ·rw[if_pos hk2] at hX
    subst hX hk2
    unfold hkV
    dsimp only
    go_wp2_with fail
    refine (nthrow_f 9 _ q3 (by omega)).mono ?_
    rintro x w3 ⟨⟨g,rfl,hg⟩,hgr⟩
    have hfin:=grown_two g3 hgr
    go_wp2
    exact⟨rfl,⟨_,rfl,by simpa using hg⟩,hfin⟩
   ·rw[if_neg hk2] at hX
    have hkb:((k:Int) == 4096)=false:=beq_eq_false_iff_ne.2 (by omega)
    have hQH:w.heap.size≠H:=by omega
    obtain⟨d0,d1⟩:=q3.cells
    have df1:=q3.frozen 1
    have q4:=q3.at ((p:Int)+1)
    have gs:=grown_set (w2b.alloc (hkO ⟨A,(an:Int),B,(bn:Int),[]⟩ (.slice none 0 0))) R 1 (.int .i64 ((p:Int)+1))
    have hHR:H≠R:=by omega
    have hQR:w.heap.size≠R:=by omega
    have hx4:=hx3.keep gs (fun e=>hHR (Option.some.inj e))
    have hr4:=hr3.keep gs (fun e=>hQR (Option.some.inj e))
    have g4:=grown_two g3 gs
    have HZ4:Hid (H+1≤((w2b.alloc (hkO ⟨A,(an:Int),B,(bn:Int),[]⟩ (.slice none 0 0))).setCell ⟨R,1,none⟩ (.int .i64 ((p:Int)+1))).heap.size):=(by have h1:=HZ3.out;have h2:=gs.size;show _≤_;omega)
    obtain⟨f0,f1,f2,f3,f4⟩:=hx4.cells
    dsimp only at f0 f1 f2 f3 f4
    have if4':=hx4.frozen 4
    unfold hkV
    dsimp only
    clear hr2 q2 g2 hr3 hx3 g3 gs
    unfold hkO at q4 hx4 hr4 g4 HZ4 f0 f1 f2 f3 f4 if4' d0 d1 df1
    dsimp only at q4 hx4 hr4 g4 HZ4 f0 f1 f2 f3 f4 if4' d0 d1 df1
    go_wp2_with fail
    generalize hw3d:(w2b.alloc (.cells #[.int .i64 A,.int .i64 (an:Int),.int .i64 B,.int .i64 (bn:Int),.slice none 0 0] 59)).setCell ⟨R,1,none⟩ (.int .i64 ((p:Int)+1))=w3 at *
    clear HZ3 hw3d d0 d1 df1 q3
    have hRB:R<w3.heap.size:=by have:=HZ4.out;omega
    have hHl:H<w3.heap.size:=by have:=HZ4.out;omega
    have hQl:w.heap.size<w3.heap.size:=by have:=HZ4.out;omega
    have hw3:w.heap.size≤w3.heap.size:=by omega
    have HG1:Hid (∀ c∈([60,32]:List UInt8),c≠10):=(by show ∀ c∈([60,32]:List UInt8),c≠10;decide)
    have HG2:Hid (∀ c∈([62,32]:List UInt8),c≠10):=(by show ∀ c∈([62,32]:List UInt8),c≠10;decide)
    have HL4:Hid (∀ u,Fr w3.heap.size R w3 u→HS u (.slice lo L.length lc) L):=fun u hu=>HL.out u (grown_fr g4 hu hw3)
    have q4':Ry w3 R (.slice lo L.length lc) ((p+1:Nat):Int):=(by simpa using q4)
    obtain⟨X1,hX1⟩:∃ X1,sdC [60,32] 45 an (p+1) (L.drop (p+1))=X1:=⟨_,rfl⟩
    have hs1:=nside_f w3 q4' HL4 HPl (by omega) (by omega) HSl2 (Nat.le_refl _) hRB [60,32] HG1 45 an (by omega) (.slice none 0 0) [] (by simp) (hnil_row _ _ _ _) X1 hX1
    rw[hX1] at hX
    clear q4 q4' HL4
    refine hs1.mono ?_
    cases X1 with
    | error z =>
     obtain⟨a,e⟩:=z
     dsimp only at hX
     subst hX
     rintro x w4 ⟨⟨g,rfl,hg⟩,hgr⟩
     have hfin:=grown_fr g4 hgr hw3
     go_wp2
     exact⟨rfl,⟨_,rfl,hg⟩,hfin⟩
    | ok z =>
     obtain⟨l1,p1,r1⟩:=z
     obtain⟨j,hj1,hj2,hj3⟩:=sdC_drop hX1
     rw[List.drop_drop] at hj1
     have hr1e:r1=L.drop p1:=by rw[hj1,hj2]
     have hp1:p1≤L.length:=(by rw[List.length_drop] at hj3;omega)
     subst hr1e
     have hl1k:l1.length≤1099511627776:=(by
      have:=sdC_len hX1
      omega)
     clear hj1 hj2 hj3 hX1 hs1
     dsimp only at hX
     rintro x w4 ⟨v1,rfl,hown4,q5,hF4⟩
     rw[List.nil_append] at hown4
     obtain⟨o1,c1,rfl⟩:=(holds_of hown4).form
     have hx5:=hx4.fr hF4 hHl hHR
     have hr5:=hr4.fr hF4 hQl hQR
     have g5:=grown_fr g4 hF4 hw3
     have hz5:=hF4.size
     have hne5:(Value.slice o1 l1.length c1).ownBlock≠some H:=(by intro e;have:=owns_ge hown4 e;omega)
     have gs5:=grown_set w4 H 4 (.slice o1 l1.length c1)
     have hx6:=hx5.put4 l1 (.slice o1 l1.length c1)
     have hr6:=hr5.keep gs5 (fun e=>hQH (Option.some.inj e))
     have hown6:=hown4.kept gs5 (.inr hne5)
     have q6:=q5.keep gs5 (fun e=>hHR (Option.some.inj e).symm)
     have g6:=grown_new g5 (B:=H) (by omega) 4 (.slice o1 l1.length c1)
     have hz6:w3.heap.size≤(w4.setCell ⟨H,4,none⟩ (.slice o1 l1.length c1)).heap.size:=Nat.le_trans hz5 gs5.size
     obtain⟨f0,f1,f2,f3,f4⟩:=hx5.cells
     dsimp only at f0 f1 f2 f3 f4
     have ff4:=hx5.frozen 4
     clear hx4 hr4 g4 q5 hown4 hF4 gs5 g5 hr5
     dsimp only at hx6
     obtain⟨k0,k1,k2,k3,k4⟩:=hx6.cells
     dsimp only at k0 k1 k2 k3 k4
     go_wp2_with fail
     generalize w4.setCell ⟨H,4,none⟩ (.slice o1 l1.length c1)=w5 at *
     clear hx5 f0 f1 f2 f3 f4 ff4
     obtain⟨dv,hdv⟩:∃ dv,(decide (0<(an:Int)) && decide (0<(bn:Int)))=dv:=⟨_,rfl⟩
     refine (ndivided_f ⟨A,(an:Int),B,(bn:Int),l1⟩ (.slice o1 l1.length c1) w5 ⟨_,_,_,rfl⟩ dv hdv).mono ?_
     rintro x w6 ⟨rfl,hb6⟩
     have hx7a:=hx6.low hb6
     have hr7a:=hr6.low hb6
     have hown7a:=owns_keep hown6 hb6
     have q7a:=q6.low hb6
     have g7a:=grown_two g6 (low_grown hb6 _)
     have hz7a:w3.heap.size≤w6.heap.size:=Nat.le_trans hz6 hb6.size
     clear hx6 hr6 hown6 q6 g6 hb6 k0 k1 k2 k3 k4
     cases dv with
     | false =>
      have hnb:¬ (0<(an:Int)∧0<(bn:Int)):=(by intro h;simp at hdv;omega)
      rw[if_neg hnb] at hX
      dsimp only at hX
      obtain⟨X2,hX2⟩:∃ X2,sdC [62,32] 43 bn p1 (L.drop p1)=X2:=⟨_,rfl⟩
      have HX2:Hid (sdC [62,32] 43 bn p1 (L.drop p1)=X2):=hX2
      rw[hX2] at hX
      have HXf:Hid (X=hkEnd A (an:Int) B (bn:Int) l1 X2):=(by show _=_;rw[← hX];unfold hkEnd;rfl)
      clear hX hX2 hdv hnb
      have hx7:=hx7a
      have hr7:=hr7a
      have hown7:=hown7a
      have q7:=q7a
      have g7:=g7a
      have hw37:=hz7a
      have hp2:=hp1
      clear hx7a hr7a hown7a q7a g7a hz7a hp1
      generalize w6=w7 at *
      obtain⟨e0,e1,e2,e3,e4⟩:=hx7.cells
      have hg7s:w.heap.size≤w7.heap.size:=g7.size
      have HL7:Hid (∀ u,Fr w3.heap.size R w7 u→HS u (.slice lo L.length lc) L):=fun u hu=>HL.out u (grown_fr g7 hu hw3)
      have hs2:=nside_f w7 q7 HL7 HPl hp2 (by omega) HSl2 hw37 hRB [62,32] HG2 43 bn (by omega) (.slice o1 l1.length c1) l1 hl1k hown7 X2 HX2
      clear HL7
      go_wp2_with fail
      refine hs2.mono ?_
      cases X2 with
      | error z =>
       obtain⟨a,e⟩:=z
       have hXe:X=.error (a,e):=HXf.out
       subst hXe
       rintro x w8 ⟨⟨g,rfl,hg⟩,hgr⟩
       have hfin:=grown_fr g7 hgr hw3
       go_wp2
       exact⟨rfl,⟨_,rfl,hg⟩,hfin⟩
      | ok z =>
       obtain⟨l2,p3,r3⟩:=z
       have hXe:X=.ok (⟨A,(an:Int),B,(bn:Int),l1++l2⟩,p3,r3):=HXf.out
       subst hXe
       rintro x w8 ⟨v2,rfl,hown8,q8,hF8⟩
       obtain⟨o2,c2,rfl⟩:=(holds_of hown8).form
       have hx8:=hx7.fr hF8 hHl hHR
       have hr8:=hr7.fr hF8 hQl hQR
       have hg8:=grown_fr g7 hF8 hw3
       have hne8:(Value.slice o2 (l1++l2).length c2).ownBlock≠some H:=(by intro e;have:=owns_ge hown8 e;omega)
       have hne8q:(Value.slice o2 (l1++l2).length c2).ownBlock≠some w.heap.size:=(by intro e;have:=owns_ge hown8 e;omega)
       have hx9:=hx8.put4 (l1++l2) (.slice o2 (l1++l2).length c2)
       have hgs9:=grown_set w8 H 4 (.slice o2 (l1++l2).length c2)
       have hr9:=hr8.keep hgs9 (fun e=>hQH (Option.some.inj e))
       have hown9:=hown8.kept hgs9 (.inr hne8)
       have q9:=q8.keep hgs9 (fun e=>hHR (Option.some.inj e).symm)
       have hg9:=grown_new hg8 (B:=H) (by omega) 4 (.slice o2 (l1++l2).length c2)
       obtain⟨i0,i1,i2,i3,i4⟩:=hx8.cells
       have if4:=hx8.frozen 4
       have HN2:Hid ((l1++l2).length=(l1++l2).length):=rfl
       generalize hM:(l1++l2).length=M at *
       obtain⟨z0,z1,z2,z3,z4⟩:=hx9.cells
       dsimp only at z0 z1 z2 z3 z4 i0 i1 i2 i3 i4
       obtain⟨y0,y1,y2,y3,y4⟩:=hr9.cells
       have yf0:=hr9.frozen 0
       have yf1:=hr9.frozen 1
       have yf2:=hr9.frozen 2
       have yf3:=hr9.frozen 3
       have yf4:=hr9.frozen 4
       have hP:=hr9.putH5 A (an:Int) B (bn:Int) (l1++l2) (.slice o2 M c2)
       have hgP:=((((grown_new hg9 (B:=w.heap.size) (Nat.le_refl _) 0 (.int .i64 A)) |> fun h=>grown_new h (B:=w.heap.size) (Nat.le_refl _) 1 (.int .i64 (an:Int))) |> fun h=>grown_new h (B:=w.heap.size) (Nat.le_refl _) 2 (.int .i64 B)) |> fun h=>grown_new h (B:=w.heap.size) (Nat.le_refl _) 3 (.int .i64 (bn:Int))) |> fun h=>grown_new h (B:=w.heap.size) (Nat.le_refl _) 4 (.slice o2 M c2)
       have hownP:=five_own hown9 (b:=w.heap.size) hne8q A (an:Int) B (bn:Int) (.slice o2 M c2)
       have qP:=five_ry q9 (b:=w.heap.size) (by omega) A (an:Int) B (bn:Int) (.slice o2 M c2)
       clear hx9 hx8 hr8 hr9 hown8 hown9 q8 q9 hg8 hg9 hgs9 hF8
       go_wp2
       refine bodyPost_ret (v:=hkV ⟨A,(an:Int),B,(bn:Int),l1++l2⟩ (.slice o2 M c2)) (results_cell_row rfl _ _ w.heap.size 59 #[.int .i64 A,.int .i64 (an:Int),.int .i64 B,.int .i64 (bn:Int),.slice o2 M c2] (0,0) _ rfl hP Tryz.underlying59 rfl (by kernel_rfl)) rfl ⟨_,rfl,?_,qP,hgP⟩
       dsimp only
       rw[hM]
       exact owns_less hownP (Nat.le_of_lt (by omega))
     | true =>
      have hnb:0<(an:Int)∧0<(bn:Int):=(by simpa using hdv)
      rw[if_pos hnb] at hX
      obtain⟨Y,hY⟩:∃ Y,sepP p1 (L.drop p1)=Y:=⟨_,rfl⟩
      rw[hY] at hX
      have hdvr:=ndivider_f w6 q7a (HL.out w6 g7a) hp1 (by omega) HSl2.out Y hY
      clear hdv hnb
      cases Y with
      | error z =>
       obtain⟨a,e⟩:=z
       dsimp only at hX
       subst hX
       go_wp2_with fail
       refine hdvr.mono ?_
       rintro x w7 ⟨⟨g,rfl,hg⟩,hgr⟩
       have hfin:=grown_two g7a hgr
       go_wp2
       exact⟨rfl,⟨_,rfl,hg⟩,hfin⟩
      | ok z =>
       obtain⟨p2,r2⟩:=z
       obtain⟨hc1,hc2,hc3⟩:=sepP_drop hY
       rw[List.drop_drop] at hc1
       have hr2e:r2=L.drop p2:=by rw[hc1,hc2]
       have hp2:p2≤L.length:=(by rw[List.length_drop] at hc3;omega)
       subst hr2e
       clear hc1 hc2 hc3 hY
       dsimp only at hX
       obtain⟨X2,hX2⟩:∃ X2,sdC [62,32] 43 bn p2 (L.drop p2)=X2:=⟨_,rfl⟩
       have HX2:Hid (sdC [62,32] 43 bn p2 (L.drop p2)=X2):=hX2
       rw[hX2] at hX
       have HXf:Hid (X=hkEnd A (an:Int) B (bn:Int) l1 X2):=(by show _=_;rw[← hX];unfold hkEnd;rfl)
       clear hX hX2
       go_wp2_with fail
       refine hdvr.mono ?_
       rintro x w7 ⟨rfl,q7,hg7⟩
       have hx7:=hx7a.keep hg7 (fun e=>hHR (Option.some.inj e))
       have hr7:=hr7a.keep hg7 (fun e=>hQR (Option.some.inj e))
       have hown7:=owns_fr hown7a hg7 hRB
       have g7:=grown_two g7a hg7
       have hw37:w3.heap.size≤w7.heap.size:=Nat.le_trans hz7a hg7.size
       clear hx7a hr7a hown7a q7a g7a hz7a hg7 hdvr hp1
       obtain⟨e0,e1,e2,e3,e4⟩:=hx7.cells
       have hg7s:w.heap.size≤w7.heap.size:=g7.size
       have HL7:Hid (∀ u,Fr w3.heap.size R w7 u→HS u (.slice lo L.length lc) L):=fun u hu=>HL.out u (grown_fr g7 hu hw3)
       have hs2:=nside_f w7 q7 HL7 HPl hp2 (by omega) HSl2 hw37 hRB [62,32] HG2 43 bn (by omega) (.slice o1 l1.length c1) l1 hl1k hown7 X2 HX2
       clear HL7
       go_wp2_with fail
       refine hs2.mono ?_
       cases X2 with
       | error z =>
        obtain⟨a,e⟩:=z
        have hXe:X=.error (a,e):=HXf.out
        subst hXe
        rintro x w8 ⟨⟨g,rfl,hg⟩,hgr⟩
        have hfin:=grown_fr g7 hgr hw3
        go_wp2
        exact⟨rfl,⟨_,rfl,hg⟩,hfin⟩
       | ok z =>
        obtain⟨l2,p3,r3⟩:=z
        have hXe:X=.ok (⟨A,(an:Int),B,(bn:Int),l1++l2⟩,p3,r3):=HXf.out
        subst hXe
        rintro x w8 ⟨v2,rfl,hown8,q8,hF8⟩
        obtain⟨o2,c2,rfl⟩:=(holds_of hown8).form
        have hx8:=hx7.fr hF8 hHl hHR
        have hr8:=hr7.fr hF8 hQl hQR
        have hg8:=grown_fr g7 hF8 hw3
        have hne8:(Value.slice o2 (l1++l2).length c2).ownBlock≠some H:=(by intro e;have:=owns_ge hown8 e;omega)
        have hne8q:(Value.slice o2 (l1++l2).length c2).ownBlock≠some w.heap.size:=(by intro e;have:=owns_ge hown8 e;omega)
        have hx9:=hx8.put4 (l1++l2) (.slice o2 (l1++l2).length c2)
        have hgs9:=grown_set w8 H 4 (.slice o2 (l1++l2).length c2)
        have hr9:=hr8.keep hgs9 (fun e=>hQH (Option.some.inj e))
        have hown9:=hown8.kept hgs9 (.inr hne8)
        have q9:=q8.keep hgs9 (fun e=>hHR (Option.some.inj e).symm)
        have hg9:=grown_new hg8 (B:=H) (by omega) 4 (.slice o2 (l1++l2).length c2)
        obtain⟨i0,i1,i2,i3,i4⟩:=hx8.cells
        have if4:=hx8.frozen 4
        have HN2:Hid ((l1++l2).length=(l1++l2).length):=rfl
        generalize hM:(l1++l2).length=M at *
        obtain⟨z0,z1,z2,z3,z4⟩:=hx9.cells
        dsimp only at z0 z1 z2 z3 z4 i0 i1 i2 i3 i4
        obtain⟨y0,y1,y2,y3,y4⟩:=hr9.cells
        have yf0:=hr9.frozen 0
        have yf1:=hr9.frozen 1
        have yf2:=hr9.frozen 2
        have yf3:=hr9.frozen 3
        have yf4:=hr9.frozen 4
        have hP:=hr9.putH5 A (an:Int) B (bn:Int) (l1++l2) (.slice o2 M c2)
        have hgP:=((((grown_new hg9 (B:=w.heap.size) (Nat.le_refl _) 0 (.int .i64 A)) |> fun h=>grown_new h (B:=w.heap.size) (Nat.le_refl _) 1 (.int .i64 (an:Int))) |> fun h=>grown_new h (B:=w.heap.size) (Nat.le_refl _) 2 (.int .i64 B)) |> fun h=>grown_new h (B:=w.heap.size) (Nat.le_refl _) 3 (.int .i64 (bn:Int))) |> fun h=>grown_new h (B:=w.heap.size) (Nat.le_refl _) 4 (.slice o2 M c2)
        have hownP:=five_own hown9 (b:=w.heap.size) hne8q A (an:Int) B (bn:Int) (.slice o2 M c2)
        have qP:=five_ry q9 (b:=w.heap.size) (by omega) A (an:Int) B (bn:Int) (.slice o2 M c2)
        clear hx9 hx8 hr8 hr9 hown8 hown9 q8 q9 hg8 hg9 hgs9 hF8
        go_wp2
        refine bodyPost_ret (v:=hkV ⟨A,(an:Int),B,(bn:Int),l1++l2⟩ (.slice o2 M c2)) (results_cell_row rfl _ _ w.heap.size 59 #[.int .i64 A,.int .i64 (an:Int),.int .i64 B,.int .i64 (bn:Int),.slice o2 M c2] (0,0) _ rfl hP Tryz.underlying59 rfl (by kernel_rfl)) rfl ⟨_,rfl,?_,qP,hgP⟩
        dsimp only
        rw[hM]
        exact owns_less hownP (Nat.le_of_lt (by omega))
end Go.Proofs.YtgiojkhmkeocfaaGreatDoor

/- The code's read of layer 12, walked: what is thrown is caught. -/
namespace Go.Proofs.YtgiojkhmkeocfaaGreatDoor
open Go.RowKit
theorem catch_idle (p q:Addr) (w:World) :
  CallsD Tryz.prog 84 #[.pointer (some p),.pointer (some q)] .returning w fun e u' w'=>e=.returned (.tuple #[])∧u'=.returning∧w'=w:=by
 refine callsD_of_wpS Tryz.func84 rfl fun c₀ cs hu=>?_
 apply wpS_seq
 apply wpS_region
 simp[wpOpsS,go_sem,recoverD,hu,Tryz.ntmps84,Exit.thenS]
 apply wpS_seq
 apply wpS_region
 simp[wpOpsS,go_sem,Exit.thenS]
 refine wpS_cond (t:=false) (by simp[Act.eval,Array.replicate]) ?_
 simp only[Bool.false_eq_true,if_false]
 refine wpS_of_wp (wp_skip ?_)
 cases c₀
 simp_all [bodyPostS,results,Tryz.results84]
theorem catch_fault (F0 F1 g:Nat) (v0 v1:Value) (older:List PanicEntry) (w:World) (h01:F0≠F1) (c0:w.cell? ⟨F0,0,none⟩=some v0) (f0:w.frozen? ⟨F0,0,none⟩=false) (c1:w.cell? ⟨F1,0,none⟩=some v1) (f1:w.frozen? ⟨F1,0,none⟩=false) :
  CallsD Tryz.prog 84 #[.pointer (some ⟨F0,0,none⟩),.pointer (some ⟨F1,0,none⟩)] (.panicking ({ v:=.iface 86 (.pointer (some ⟨g,0,none⟩)),recovered:=false }::older)) w fun e u' w'=>e=.returned (.tuple #[])∧u'=.panicking ({ v:=.iface 86 (.pointer (some ⟨g,0,none⟩)),recovered:=true }::older)∧w'=((w.setCell ⟨F0,0,none⟩ (.slice none 0 0)).setCell ⟨F1,0,none⟩ (.iface 86 (.pointer (some ⟨g,0,none⟩)))).drew:=by
 refine callsD_of_wpS Tryz.func84 rfl fun c₀ cs hu=>?_
 apply wpS_seq
 apply wpS_region
 simp[wpOpsS,go_sem,recoverD,hu,Tryz.ntmps84,Exit.thenS]
 apply wpS_seq
 apply wpS_region
 simp[wpOpsS,go_sem,Exit.thenS]
 refine wpS_cond (t:=true) (by simp[Act.eval,Array.replicate]) ?_
 simp only[if_true]
 refine wpS_of_wp ?_
 have hta:∀ (v:Value) (u:World),(Instr.typeAssert (.iface 86 v) 20 86 false).run Tryz.prog u=.ok v u:=fun _ _=>by kernel_rfl
 generalize hA:({ tmps:=_,defers:=[] }:Act)=A
 have hA2:A={ tmps:=#[.pointer (some ⟨F0,0,none⟩),.pointer (some ⟨F1,0,none⟩),.iface 86 (.pointer (some ⟨g,0,none⟩)),.iface 86 (.pointer (some ⟨g,0,none⟩)),.iface 86 (.pointer (some ⟨g,0,none⟩)),.bool true,undef,undef,undef],defers:=[] }:=hA.symm.trans rfl
 subst hA2
 clear hA
 go_region
 cases c₀
 simp_all [bodyPostS,results,Tryz.results84]
end Go.Proofs.YtgiojkhmkeocfaaGreatDoor

/- Steps of a region that draws its order where a call may throw, and what is left where a call is recovered. -/
namespace Go.Proofs.YtgiojkhmkeocfaaGreatDoor
open Go.RowKit
def PanQ (Q:Exit→Act→World→Prop) (Pn:List PanicEntry→World→Prop) (p2 p3:Value) (ds:List Deferred):Exit→Act→World→Prop
 | .panic c,a,w=>Pn c w∧a.tmps.getD 2 undef=p2∧a.tmps.getD 3 undef=p3∧a.defers=ds
 | .normal,a,w=>Q .normal a w
 | _,_,_=>False
theorem PanQ.normal {Q:Exit→Act→World→Prop} {Pn:List PanicEntry→World→Prop} {p2 p3:Value} {ds:List Deferred} {a:Act} {w:World} (h:Q .normal a w):PanQ Q Pn p2 p3 ds .normal a w:=h
theorem wp_region_panQ {P:Program} {id:Nat} {ops:Array Oper} {b:Bool} {Q:Exit→Act→World→Prop} {a:Act} {w:World} (Pn:List PanicEntry→World→Prop) (p2 p3:Value) (ds:List Deferred) (hP:∀ c a w,Pn c w→a.tmps.getD 2 undef=p2→a.tmps.getD 3 undef=p3→a.defers=ds→Q (.panic c) a w) (h:(Code.region id ops b).wp P (PanQ Q Pn p2 p3 ds) a w):(Code.region id ops b).wp P Q a w:=by
 refine Code.wp_mono (fun e a w h=>?_) h
 cases e with
 | panic c=>exact hP c a w h.1 h.2.1 h.2.2.1 h.2.2.2
 | normal=>exact h
 | _=>exact (h:False).elim
theorem panQ_put {Q:Exit→Act→World→Prop} {Pn:List PanicEntry→World→Prop} {p2 p3:Value} {ds:List Deferred} {d:Nat} {v:Value} (h2:d≠2) (h3:d≠3):∀ c a w,PanQ Q Pn p2 p3 ds (.panic c) (a.put (some d) v) w→PanQ Q Pn p2 p3 ds (.panic c) a w:=by
 rintro c a w ⟨x1,x2,x3,x4⟩
 refine⟨x1,?_,?_,x4⟩
 ·rw[← x2]
  simp[Act.put,Array.getD_eq_getD_getElem?,Array.getElem?_setIfInBounds_ne h2]
 ·rw[← x3]
  simp[Act.put,Array.getD_eq_getD_getElem?,Array.getElem?_setIfInBounds_ne h3]
theorem call_enters {P:Program} {A:Act} {op:Oper} {w:World} {F:Nat} {x:Operand} {xs:Array Operand} {ts:Array TypeId} (ho:op.op=.call { callee:=.value x,args:=xs,argTypes:=ts }) {cap:Array Value} (hxv:A.eval x=.func (.func F) #[] cap) {args:Array Value} (hx:xs.map A.eval=args) (hen:∀ args w,(callFunc F args).run P w=.ok (.enter F args) w):(execOp A.eval op).run P w=.ok (.enter F (args++cap)) w:=by
 have h1:=hen (args++cap) w
 simp only[execOp,ho,resolve,invoke]
 simp only[hxv,Deferred.ofValue,Sem.run_bind,Sem.run_pure,Result.andThen_ok,hx,Array.empty_append]
 exact h1
theorem go_callP {P:Program} {S:World→Prop} {md:Region.Mode} {ops:Array Oper} {Q:Exit→Act→World→Prop} {fuel:Nat} {listed:Array Bool} {A:Act} {w:World}
  (i d:Nat) (op:Oper) (hi:ops[i]?=some op) (hd:op.dst=some d) (hr:Region.ready md ops listed=[i]) (hwt:Region.wanted op (yielded ops A.tmps)=true)
  (F:Nat) (x:Operand) (xs:Array Operand) (ts:Array TypeId) (ho:op.op=.call { callee:=.value x,args:=xs,argTypes:=ts })
  (cap:Array Value) (hxv:A.eval x=.func (.func F) #[] cap) (args:Array Value) (hx:xs.map A.eval=args) (hen:∀ args w,(callFunc F args).run P w=.ok (.enter F args) w) (R:Value→World→Prop) (Pn:List PanicEntry→World→Prop)
  (hp:∀ c w',Pn c w'→Q (.panic c) A w')
  (hc:Calls P F (args++cap) w fun e w'=>(∃ v,e=.returned v∧S w'∧R v w')∨(∃ c,e=.panicked c∧Pn c w'))
  (h:∀ v w',S w'→R v w'→wpAnyH P md ops Q S fuel (listed.setIfInBounds i true) (A.put (some d) v) w') :
  wpAnyH P md ops Q S (fuel+1) listed A w:=by
 refine wpAnyH_ready hr (by simp) (AllReadyH.cons hi (fun K hK=>?_) AllReadyH.nil)
 refine step_want hwt ?_
 unfold Oper.wp
 rw[call_enters ho hxv hx hen,Oper.upon_enter]
 refine hc.mono ?_
 rintro e w' (⟨v,rfl,hb,hR⟩ | ⟨c,rfl,hpn⟩)
 ·exact hK.out _ _ hb (fun hu=>by rw[hd];exact h v w' hu hR)
 ·exact hp c w' hpn
theorem go_valCallP {P:Program} {S:World→Prop} {md:Region.Mode} {ops:Array Oper} {Q:Exit→Act→World→Prop} {fuel:Nat} {listed:Array Bool} {A:Act} {w:World}
  (j e:Nat) (oq:Oper) (i d:Nat) (op:Oper) (hj:ops[j]?=some oq) (he:oq.dst=some e) (hi:ops[i]?=some op) (hd:op.dst=some d) (hr:Region.ready md ops listed=[j,i]) (hwq:Region.wanted oq (yielded ops A.tmps)=true) (hwt:Region.wanted op (yielded ops A.tmps)=true)
  (vq:Value) (wq:World) (hq:(execOp A.eval oq).run P w=.ok (.value vq) wq) (hS:S wq)
  (F:Nat) (x:Operand) (xs:Array Operand) (ts:Array TypeId) (ho:op.op=.call { callee:=.value x,args:=xs,argTypes:=ts })
  (cap:Array Value) (hxv:A.eval x=.func (.func F) #[] cap) (args:Array Value) (hx:xs.map A.eval=args) (hen:∀ args w,(callFunc F args).run P w=.ok (.enter F args) w) (R:Value→World→Prop) (Pn:List PanicEntry→World→Prop)
  (hp:∀ c w',Pn c w'→Q (.panic c) A w')
  (hc:Calls P F (args++cap) w fun e w'=>(∃ v,e=.returned v∧S w'∧R v w')∨(∃ c,e=.panicked c∧Pn c w'))
  (h2:wpAnyH P md ops Q S fuel (listed.setIfInBounds j true) (A.put (some e) vq) wq)
  (h:∀ v w',S w'→R v w'→wpAnyH P md ops Q S fuel (listed.setIfInBounds i true) (A.put (some d) v) w') :
  wpAnyH P md ops Q S (fuel+1) listed A w:=by
 refine wpAnyH_ready hr (by simp) (AllReadyH.cons hj (fun K hK=>?_) (AllReadyH.cons hi (fun K hK=>?_) AllReadyH.nil))
 ·refine step_want hwq ?_
  unfold Oper.wp
  rw[hq,Oper.upon_value]
  exact hK.out _ _ hS (fun _=>by rw[he];exact h2)
 ·refine step_want hwt ?_
  unfold Oper.wp
  rw[call_enters ho hxv hx hen,Oper.upon_enter]
  refine hc.mono ?_
  rintro e w' (⟨v,rfl,hb,hR⟩ | ⟨c,rfl,hpn⟩)
  ·exact hK.out _ _ hb (fun hu=>by rw[hd];exact h v w' hu hR)
  ·exact hp c w' hpn
theorem rd_results (tmps:Array Value) (u:World) (F0 F1 n c:Nat) (o:Option Addr) (v1:Value) (h2:tmps.getD 2 undef=.pointer (some ⟨F0,0,none⟩)) (h3:tmps.getD 3 undef=.pointer (some ⟨F1,0,none⟩)) (c0:u.cell? ⟨F0,0,none⟩=some (.slice o n c)) (c1:u.cell? ⟨F1,0,none⟩=some v1) :
  (results Tryz.f42 tmps).run Tryz.prog u=.ok (.tuple #[.slice o n c,v1]) u:=by
 have hL0:(loadVar 34 ⟨F0,0,none⟩).run Tryz.prog u=.ok (.slice o n c) u:=by
  simp[loadVar,isAgg,underlying,Tryz.underlying34,c0,Result.andThen]
 have hL1:(loadVar 36 ⟨F1,0,none⟩).run Tryz.prog u=.ok v1 u:=by
  simp[loadVar,isAgg,underlying,Tryz.underlying36,c1,Result.andThen]
 have e2:tmps[2]?.getD undef=.pointer (some ⟨F0,0,none⟩):=by rw[← h2];simp
 have e3:tmps[3]?.getD undef=.pointer (some ⟨F1,0,none⟩):=by rw[← h3];simp
 simp[results,Tryz.results42,e2,e3,asAddr,hL0,hL1,Result.andThen]
end Go.Proofs.YtgiojkhmkeocfaaGreatDoor
