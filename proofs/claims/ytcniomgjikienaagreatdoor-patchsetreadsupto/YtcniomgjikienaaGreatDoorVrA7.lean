/-
  Texts that belong together, joined: NpX, NpC, CxC, CxLen, CxR, CxP, CxC2, Copy, CqL, CqQ, HuLn, CwC, CwD, CqB, CqU.
-/
import Derived.Lib.IndexAny
import Derived.Deep.QuietTactic
import Derived.BigQuiet
import Derived.Test.YtcniomgjikienaaGreatDoorVrA6
import Derived.Deep.CutBlock
import Derived.Shelf.Strings.Builder1
import Derived.Test.YtcniomgjikienaaGreatDoorProg
import Derived.WalkKit
import Derived.WalkSpells
import Derived.WalkLawsBesides
import Derived.Laws.RangeAny

set_option maxHeartbeats 16000000
set_option maxRecDepth 100000
namespace Go.Proofs.YtcniomgjikienaaGreatDoor

section
open Go.RowKit
attribute [local go_sem] Zhc ByteArray.extract_mk
theorem Zjm {k:IntKind} {a b:Int} (h:a=b):Ending.returned (.int k a)=.returned (.int k b):=by rw[h]
theorem ZdB (s:ByteArray) (k:Nat) (h:k<s.size):s.get! k=s[k]:=by
 simp[ByteArray.get!,getElem!_pos,h]
 rfl
theorem ZcI (s:ByteArray) (pos:Nat) (h:pos<s.size) (ha:128≤(s[pos]'h).toNat) (k:Nat) (hk:k<(Utf8.decode s pos).2):∃ hq:pos+k<s.size,128≤(s[pos+k]'hq).toNat:=by
 by_cases hk0:k=0
 ·subst hk0;exact⟨h,ha⟩
 have hn:¬ (s.get! (pos+0)).toNat<128:=by rw[Nat.add_zero,ZdB s pos h];omega
 have key:∀ j,(decide (pos+j<s.size) && (s.get! (pos+j)).toNat / 64 == 2)=true→∃ hq:pos+j<s.size,128≤(s[pos+j]'hq).toNat:=by
  intro j hj
  simp only[Bool.and_eq_true,decide_eq_true_eq,beq_iff_eq] at hj
  refine⟨hj.1,?_⟩
  rw[← ZdB s (pos+j) hj.1]
  omega
 revert hk
 unfold Utf8.decode
 simp only[hn,if_false]
 split
 ·rename_i h2
  simp only[Bool.and_eq_true] at h2
  split
  ·intro hk
   have:k=1:=by simp at hk;omega
   subst this
   exact key 1 (by simp only[Bool.and_eq_true];exact h2.2)
  ·intro hk;simp at hk;omega
 ·split
  ·rename_i h2
   simp only[Bool.and_eq_true] at h2
   split
   ·intro hk
    have:k=1∨k=2:=by simp at hk;omega
    rcases this with rfl | rfl
    ·exact key 1 (by simp only[Bool.and_eq_true];exact h2.1.2)
    ·exact key 2 (by simp only[Bool.and_eq_true];exact h2.2)
   ·intro hk;simp at hk;omega
  ·split
   ·rename_i h2
    simp only[Bool.and_eq_true] at h2
    split
    ·intro hk
     have:k=1∨k=2∨k=3:=by simp at hk;omega
     rcases this with rfl | rfl | rfl
     ·exact key 1 (by simp only[Bool.and_eq_true];exact h2.1.1.2)
     ·exact key 2 (by simp only[Bool.and_eq_true];exact h2.1.2)
     ·exact key 3 (by simp only[Bool.and_eq_true];exact h2.2)
    ·intro hk;simp at hk;omega
   ·intro hk;simp at hk;omega
theorem ZcP (r:Int) (hv:Utf8.valid r=true) (h128:128≤r):(∃ a b:UInt8,128≤b.toNat∧Utf8.encode r=⟨([a,b]:List UInt8).toArray⟩)∨(∃ a b c:UInt8,128≤c.toNat∧Utf8.encode r=⟨([a,b,c]:List UInt8).toArray⟩)∨(∃ a b c d:UInt8,Utf8.encode r=⟨([a,b,c,d]:List UInt8).toArray⟩):=by
 have hc:¬ r.toNat<128:=by omega
 unfold Utf8.encode
 simp only[hv,if_true,hc,if_false]
 split
 ·refine .inl ⟨_,_,?_,rfl⟩
  simp;omega
 ·split
  ·refine .inr (.inl ⟨_,_,_,?_,rfl⟩)
   simp;omega
  ·exact .inr (.inr ⟨_,_,_,_,rfl⟩)
theorem ZlZ (r:Int) (h:Lib.validRune r=true):Utf8.valid r=true:=by
 simp[Lib.validRune,Utf8.valid] at h ⊢
 omega
theorem ZeE (x:Int) (u:World):Calls Tryz.prog 347 #[.string ⟨#[]⟩,.int .u8 x] u fun e w'=>e=.returned (.int .i64 (-1))∧w'=u:=Tryz.strings_IndexByte ⟨#[]⟩ x u
theorem ZeA (b:UInt8) (hb:128≤b.toNat) (u:World):Calls Tryz.prog 347 #[.string ⟨#[100]⟩,.int .u8 (b.toNat:Int)] u fun e w'=>e=.returned (.int .i64 (-1))∧w'=u:=by
 refine (Tryz.strings_IndexByte ⟨#[100]⟩ (b.toNat:Int) u).mono ?_
 rintro e w' ⟨rfl,rfl⟩
 have e1:((b.toNat:Int).toNat).toUInt8=b:=by simp
 have e2:Lib.indexByte [100] b=-1:=by
  have:((100:UInt8) == b)=false:=by
   rw[beq_eq_false_iff_ne]
   rintro rfl
   simp at hb
  simp[Lib.indexByte,this]
 rw[e1]
 exact⟨by rw[show Lib.indexByte (⟨#[100]⟩:ByteArray).data.toList b=-1 from e2],rfl⟩
theorem Zad (r:Int) (h0:128≤r) (h1:r≤2147483647) (w:World) :
  Calls Tryz.prog 354 #[.string ⟨([97,99,100]:List UInt8).toArray⟩,.int .i32 r] w fun e w'=>e=.returned (.int .i64 (-1))∧Below w.heap.size w w':=by
 by_cases h2:r=65533
 ·subst h2
  have hn0:∀ ty,(Instr.next (.pointer (some ⟨w.heap.size,0,none⟩)) true ty).run Tryz.prog (w.iter ⟨([97,99,100]:List UInt8).toArray⟩ 0)=.ok (.tuple #[.bool true,.int .i64 0,.int .i32 97]) (w.iter ⟨([97,99,100]:List UInt8).toArray⟩ 1):=fun ty=>run_next_ascii w ⟨([97,99,100]:List UInt8).toArray⟩ 0 ty (by decide) (by decide)
  have hn1:∀ ty,(Instr.next (.pointer (some ⟨w.heap.size,0,none⟩)) true ty).run Tryz.prog (w.iter ⟨([97,99,100]:List UInt8).toArray⟩ 1)=.ok (.tuple #[.bool true,.int .i64 1,.int .i32 99]) (w.iter ⟨([97,99,100]:List UInt8).toArray⟩ 2):=fun ty=>run_next_ascii w ⟨([97,99,100]:List UInt8).toArray⟩ 1 ty (by decide) (by decide)
  have hn2:∀ ty,(Instr.next (.pointer (some ⟨w.heap.size,0,none⟩)) true ty).run Tryz.prog (w.iter ⟨([97,99,100]:List UInt8).toArray⟩ 2)=.ok (.tuple #[.bool true,.int .i64 2,.int .i32 100]) (w.iter ⟨([97,99,100]:List UInt8).toArray⟩ 3):=fun ty=>run_next_ascii w ⟨([97,99,100]:List UInt8).toArray⟩ 2 ty (by decide) (by decide)
  have hn3:∀ ty,(Instr.next (.pointer (some ⟨w.heap.size,0,none⟩)) true ty).run Tryz.prog (w.iter ⟨([97,99,100]:List UInt8).toArray⟩ 3)=.ok (.tuple #[.bool false]) (w.iter ⟨([97,99,100]:List UInt8).toArray⟩ 3):=fun ty=>run_next_end w ⟨([97,99,100]:List UInt8).toArray⟩ 3 ty (by decide)
  go_enter Tryz.func354,Tryz.ntmps354
  go_wp2
  refine wp_loop_rounds 4 ?_
  rw[rounds_succ]
  go_wp2
  rw[rounds_succ]
  go_wp2
  rw[rounds_succ]
  go_wp2
  rw[rounds_succ]
  go_wp2
  go_ret
  exact⟨rfl,(Below.refl _ w).alloc (Nat.le_refl _) _⟩
 ·have hb:(r == 65533)=false:=by simp[h2]
  go_enter Tryz.func354,Tryz.ntmps354
  go_wp2_with fail
  refine (Tryz.utf8_ValidRune r _).mono ?_
  rintro e w' ⟨rfl,rfl⟩
  cases hv:Lib.validRune r
  ·go_wp2
   go_ret
   exact⟨rfl,Below.refl _ _⟩
  ·rcases ZcP r (ZlZ r hv) h0 with ⟨a,b,hb128,he⟩ | ⟨a,b,c,hb128,he⟩ | ⟨a,b,c,d,he⟩
   ·have hbl:=b.toNat_lt
    have hw2:IntKind.i64.wrap 2=2:=by decide
    have hsl:∀ u:World,(Instr.slice 9 (.string ⟨([97,99,100]:List UInt8).toArray⟩) (some (.int .i64 2)) none none).run Tryz.prog u=.ok (.string ⟨([100]:List UInt8).toArray⟩) u:=fun u=>by kernel_rfl
    have hne:((99:Int) != (b.toNat:Int))=true:=by simp;omega
    go_wp2_with fail
    go_step3
    go_wp2_with fail
    refine wp_loop_rounds 1 ?_
    rw[rounds_succ]
    go_wp2_with fail
    go_step3
    go_wp2_with fail
    go_quiet (fail)
    have hbq:Below w'.heap.size w' (w'.drewN nq):=Below.dN (Below.refl _ _) nq
    generalize w'.drewN nq=wq at *
    go_wp2_with fail
    go_quiet ((go_at_call 347;exact Calls.quiet_of_same (ZeA b hb128 _)))
    go_wp2
    rw[Exit.noGoto_ret]
    go_wp2
    rw[Exit.noGoto_ret]
    go_ret
    exact⟨rfl,Below.dN hbq _⟩
   ·have hbl:=c.toNat_lt
    have hw2:IntKind.i64.wrap 3=3:=by decide
    have hsl:∀ u:World,(Instr.slice 9 (.string ⟨([97,99,100]:List UInt8).toArray⟩) (some (.int .i64 3)) none none).run Tryz.prog u=.ok (.string ⟨([]:List UInt8).toArray⟩) u:=fun u=>by kernel_rfl
    have hne:((100:Int) != (c.toNat:Int))=true:=by simp;omega
    go_wp2_with fail
    go_step3
    go_wp2_with fail
    refine wp_loop_rounds 1 ?_
    rw[rounds_succ]
    go_wp2_with fail
    go_step3
    go_wp2_with fail
    go_quiet (fail)
    have hbq:Below w'.heap.size w' (w'.drewN nq):=Below.dN (Below.refl _ _) nq
    generalize w'.drewN nq=wq at *
    go_wp2_with fail
    go_quiet ((go_at_call 347;exact Calls.quiet_of_same (ZeE _ _)))
    go_wp2
    rw[Exit.noGoto_ret]
    go_wp2
    rw[Exit.noGoto_ret]
    go_ret
    exact⟨rfl,Below.dN hbq _⟩
   ·go_wp2_with fail
    go_step3
    go_wp2_with fail
    refine wp_loop_rounds 1 ?_
    rw[rounds_succ]
    go_wp2
    rw[Exit.noGoto_ret]
    go_ret
    exact⟨rfl,Below.refl _ _⟩
theorem Zms:∀ w,(zeroValue 370).run Tryz.prog w=.ok (.agg (Array.replicate 256 (.bool false))) w :=
 (zero_of_info (P:=Tryz.prog) (show (Tryz.prog.info? 370).map (fun i=>(i.zero,i.size))=some (some (.agg (Array.replicate 256 (.bool false))),256) by kernel_rfl)).1
theorem ZeF (x:UInt8):Lib.indexByte [97,99,100] x=if x.toNat=97 then 0 else if x.toNat=99 then 1 else if x.toNat=100 then 2 else -1:=by
 have key:∀ i:Fin 256,Lib.indexByte [97,99,100] (UInt8.ofNat i.val)=if i.val=97 then 0 else if i.val=99 then 1 else if i.val=100 then 2 else -1:=by decide +kernel
 have:=key ⟨x.toNat,x.toNat_lt⟩
 simpa using this
theorem ZeN (x:UInt8):isC x=decide (x.toNat=97∨x.toNat=99∨x.toNat=100):=by
 rw[Bool.eq_iff_iff]
 simp[isC,← UInt8.toNat_inj,or_assoc]
def idxB (x:UInt8):Int:=Lib.indexByte [97,99,100] x
theorem Zev {x:UInt8} (h:isC x=true):0≤idxB x:=by
 rw[ZeN] at h
 have h:=of_decide_eq_true h
 unfold idxB;rw[ZeF];split<;>(try split)<;>(try split)<;>omega
theorem Zeu {x:UInt8} (h:isC x=false):idxB x<0:=by
 rw[ZeN] at h
 have h:=of_decide_eq_false h
 unfold idxB;rw[ZeF];split<;>(try split)<;>(try split)<;>omega
theorem ZbT (c:UInt8):([97,99,100]:List UInt8).contains c=isC c:=by
 rw[Bool.eq_iff_iff]
 simp[isC,or_assoc]
def wend (l:List UInt8):Int:=Lib.indexAny l [97,99,100]
theorem Zma:∀ (l:List UInt8) (k:Nat) (hk:k<l.length),(∀ j (h:j<l.length),j<k→isC l[j]=false)→isC l[k]=true→wend l=k
 | b::l,0,_,_,h=>by
  unfold wend Lib.indexAny
  rw[ZbT,if_pos (by simpa using h)]
  rfl
 | b::l,k+1,hk,ha,h=>by
  have h0:=ha 0 (by simp) (by omega)
  have ih:=Zma l k (by simpa using hk) (fun j hj hjk=>ha (j+1) (by simp;omega) (by omega)) (by simpa using h)
  unfold wend at ih ⊢
  unfold Lib.indexAny
  rw[ZbT,if_neg (by simpa using h0),ih]
  rw[if_neg (by simp)]
  omega
theorem Zmb:∀ (l:List UInt8),(∀ j (h:j<l.length),isC l[j]=false)→wend l=-1
 | [],_=>rfl
 | b::l,ha=>by
  have h0:=ha 0 (by simp)
  have ih:=Zmb l (fun j hj=>ha (j+1) (by simp;omega))
  unfold wend at ih ⊢
  unfold Lib.indexAny
  rw[ZbT,if_neg (by simpa using h0),ih]
  rfl
theorem Zae (x:UInt8) (h:x.toNat<128) (w:World) :
  Calls Tryz.prog 354 #[.string ⟨([97,99,100]:List UInt8).toArray⟩,.int .i32 (x.toNat:Int)] w fun e w'=>e=.returned (.int .i64 (idxB x))∧w'=w:=by
 have h1:=Tryz.strings_IndexRune_ascii ⟨([97,99,100]:List UInt8).toArray⟩ (x.toNat:Int) w (by omega) (by omega)
 refine h1.mono ?_
 rintro e w' ⟨rfl,rfl⟩
 have e:((x.toNat:Int).toNat).toUInt8=x:=by simp
 rw[e]
 exact⟨rfl,rfl⟩
theorem Zkf (n:Int) (h:n≤8) (w:World):Calls Tryz.prog 355 #[.int .i64 n] w fun e w'=>e=.returned (.bool false)∧w=w':=by
 go_enter Tryz.func355,Tryz.ntmps355
 go_wp2
 go_ret
 exact⟨by simp;omega,rfl⟩
theorem Zab (l:List UInt8) (h8:l.length≤8) (w:World) :
  Calls Tryz.prog 338 #[.string ⟨l.toArray⟩,.string ⟨([97,99,100]:List UInt8).toArray⟩] w fun e w'=>e=.returned (.int .i64 (wend l))∧Below w.heap.size w w':=by
 go_enter Tryz.func338,Tryz.ntmps338
 go_wp2_with fail
 refine (Zkf _ (by omega) _).mono ?_
 rintro e w' ⟨rfl,rfl⟩
 go_wp2
 go_loopw [] (fun wr=>∃ pos:Nat,pos≤l.length∧wr.heap[w.heap.size]?=some (.stringIter ⟨l.toArray⟩ pos)∧Below w.heap.size w wr∧(∀ k (hk:k<l.length),k<pos→isC l[k]=false)) (fun wr=>l.length-wr.iterPos w.heap.size)
 case atStart=>exact⟨0,Nat.zero_le _,World.iter_heap w _ 0,(Below.refl _ w).alloc (Nat.le_refl _) _,fun k _ h=>by omega⟩
 case round =>
  obtain⟨pos,hp,hit,hbr,hall⟩:=hrel
  have HA:Hid (∀ k (hk:k<l.length),k<pos→isC l[k]=false):=hall
  clear hall
  have hwl:w.heap.size<wr.heap.size:=(Array.getElem?_eq_some_iff.1 hit).1
  by_cases hlt:pos<l.length
  ·by_cases ha:l[pos].toNat<128
   ·have hnx:∀ ty,(Instr.next (.pointer (some ⟨w.heap.size,0,none⟩)) true ty).run Tryz.prog wr=_:=fun ty=>Lib.run_next_ascii_at wr w.heap.size ⟨l.toArray⟩ pos ty hit hlt ha
    have hit2:=Lib.iterAt_heap wr w.heap.size ⟨l.toArray⟩ pos (pos+1) hit
    have hbr2:=Lib.below_iterAt hbr (k:=w.heap.size) (Nat.le_refl _) ⟨l.toArray⟩ (pos+1)
    go_wp2_with fail
    refine (Zae l[pos] ha _).mono ?_
    rintro e w4 ⟨rfl,rfl⟩
    cases hbl:isC l[pos]
    ·have hneg:=Zeu hbl
     go_wp2
     go_roundw
     case rel =>
      refine⟨pos+1,by omega,hit2,hbr2,fun k hk h=>?_⟩
      by_cases e:k=pos
      ·subst e;exact hbl
      ·exact HA.out k hk (by omega)
     case measure=>simp only[World.iterPos,hit,hit2];omega
    ·have hpos:=Zev hbl
     have HE:Hid ((pos:Int)=wend l):=(Zma l pos hlt HA.out hbl).symm
     go_wp2
     go_ret
     exact⟨Zjm HE.out,hbr2⟩
   ·have hdh:=(decode_high ⟨l.toArray⟩ pos hlt (by show 128≤l[pos].toNat;omega))
    have hdr:=ZcI ⟨l.toArray⟩ pos hlt (by show 128≤l[pos].toNat;omega)
    have hnx:∀ ty,(Instr.next (.pointer (some ⟨w.heap.size,0,none⟩)) true ty).run Tryz.prog wr=_:=fun ty=>Lib.run_next_any_at wr w.heap.size ⟨l.toArray⟩ pos ty hit hlt
    have hit2:=Lib.iterAt_heap wr w.heap.size ⟨l.toArray⟩ pos (pos+(Utf8.decode ⟨l.toArray⟩ pos).2) hit
    have hbr2:=Lib.below_iterAt hbr (k:=w.heap.size) (Nat.le_refl _) ⟨l.toArray⟩ (pos+(Utf8.decode ⟨l.toArray⟩ pos).2)
    have hdl:=decode_le ⟨l.toArray⟩ pos
    have HR:Hid (∀ k,k<(Utf8.decode ⟨l.toArray⟩ pos).2→∃ h':pos+k<l.length,128≤l[pos+k].toNat):=fun k hk=>hdr k hk
    clear hdr
    obtain⟨hd1,hd2⟩:=hdh
    generalize Utf8.decode ⟨l.toArray⟩ pos=dd at *
    have hwz:w.heap.size<(wr.iterAt w.heap.size ⟨l.toArray⟩ (pos+dd.2)).heap.size:=by rw[Lib.iterAt_size];exact hwl
    go_wp2_with fail
    refine (Zad (dd.1:Int) (by omega) (by omega) _).mono ?_
    rintro e w4 ⟨rfl,hb4⟩
    have hit4:=(hb4.block w.heap.size hwz).trans hit2
    have hbr4:=hbr2.trans (hb4.mono (Nat.le_of_lt hwz))
    go_wp2
    go_roundw
    case rel =>
     refine⟨pos+dd.2,?_,hit4,hbr4,fun k hk h=>?_⟩
     ·obtain⟨h',_⟩:=HR.out (dd.2-1) (by omega)
      omega
     ·by_cases e:k<pos
      ·exact HA.out k hk e
      ·obtain⟨h',hh⟩:=HR.out (k-pos) (by omega)
       have ee:pos+(k-pos)=k:=by omega
       simp only[ee] at hh
       exact (by rw[ZeN];exact decide_eq_false (by omega))
    case measure=>simp only[World.iterPos,hit,hit4];omega
  ·have hnx:∀ ty,(Instr.next (.pointer (some ⟨w.heap.size,0,none⟩)) true ty).run Tryz.prog wr=_:=fun ty=>Lib.run_next_end_at wr w.heap.size ⟨l.toArray⟩ pos ty hit hlt
   have HE:Hid (-1=wend l):=(Zmb l (fun k hk=>HA.out k hk (by omega))).symm
   go_wp2
   go_ret
   exact⟨Zjm HE.out,hbr⟩
theorem Zaa (l:List UInt8) (hl:l.length<4294967281) (w:World) :
  Calls Tryz.prog 338 #[.string ⟨l.toArray⟩,.string ⟨([97,99,100]:List UInt8).toArray⟩] w fun e w'=>e=.returned (.int .i64 (wend l))∧Below w.heap.size w w':=by
 by_cases h8:l.length≤8
 ·exact Zab l h8 w
 ·have h:=Tryz.strings_IndexAny_long Zms ⟨l.toArray⟩ ⟨([97,99,100]:List UInt8).toArray⟩ w (by decide) (by show 8<l.length;omega) hl (by decide) (fun j b h=>by match j,h with | 0,h=>simp at h;subst h;decide | 1,h=>simp at h;subst h;decide | 2,h=>simp at h;subst h;decide | j+3,h=>simp at h)
  refine h.mono ?_
  rintro e w' ⟨rfl,rfl⟩
  exact⟨rfl,((Below.refl _ w).alloc (Nat.le_refl _) _).alloc (by simp) _⟩
theorem Zmc (l:List UInt8):(spB isC l=none∧wend l=-1)∨(∃ k:Nat,∃ h:k<l.length,wend l=k∧spB isC l=some (l.take k,l[k],l.drop (k+1))∧isC l[k]=true):=by
 induction l with
 | nil=>exact .inl ⟨rfl,rfl⟩
 | cons c l ih =>
  unfold wend Lib.indexAny
  rw[ZbT]
  simp only[spB]
  cases hc:isC c with
  | true =>
   right
   refine⟨0,by simp,by simp,by simp,by simpa using hc⟩
  | false =>
   rw[if_neg (by decide),if_neg (by decide)]
   rcases ih with ⟨h1,h2⟩ | ⟨k,hk,h1,h2,h3⟩
   ·left
    unfold wend at h2
    rw[h1,h2]
    exact⟨rfl,rfl⟩
   ·right
    unfold wend at h1
    refine⟨k+1,by simpa using hk,?_,?_,by simpa using h3⟩
    ·rw[h1,if_neg (by simp)]
     omega
    ·rw[h2]
     rfl
theorem ZbS (l:List UInt8):(spB isK l=none∧Lib.indexByte l 44=-1)∨(∃ k:Nat,∃ h:k<l.length,Lib.indexByte l 44=k∧spB isK l=some (l.take k,l[k],l.drop (k+1))):=by
 induction l with
 | nil=>exact .inl ⟨rfl,rfl⟩
 | cons c l ih =>
  unfold Lib.indexByte
  simp only[spB]
  have e:(c == 44)=isK c:=rfl
  rw[e]
  cases hc:isK c with
  | true =>
   right
   exact⟨0,by simp,by simp,by simp⟩
  | false =>
   rw[if_neg (by decide),if_neg (by decide)]
   rcases ih with ⟨h1,h2⟩ | ⟨k,hk,h1,h2⟩
   ·left
    rw[h1,h2]
    exact⟨rfl,rfl⟩
   ·right
    refine⟨k+1,by simpa using hk,?_,?_⟩
    ·rw[h1,if_neg (by simp)]
     omega
    ·rw[h2]
     rfl
end

section
open Go.RowKit
attribute [local go_sem] ByteArray.extract_mk Zhc
def kA (l:List UInt8):List UInt8:=match spB isK l with | none=>l | some (x,_,_)=>x
def kB (l:List UInt8):List UInt8:=match spB isK l with | none=>[] | some (_,_,y)=>y
def kS (l:List UInt8):Bool:=match spB isK l with | none=>false | some _=>true
theorem Zko (l:List UInt8) (w:World) (hl:l.length≤1099511627776) :
  Calls Tryz.prog 87 #[.string ⟨l.toArray⟩,.string ⟨#[44]⟩] w fun e w'=>e=.returned (.tuple #[.string ⟨(kA l).toArray⟩,.string ⟨(kB l).toArray⟩,.bool (kS l)])∧∃ n,w'=w.drewN n:=by
 rcases ZbS l with ⟨h1,h2⟩ | ⟨k,hk,h1,h2⟩
 ·have HA:Hid (kA l=l∧kB l=[]∧kS l=false):=(by unfold kA kB kS;rw[h1];exact⟨rfl,rfl,rfl⟩)
  have HI:Hid (Lib.indexByte l 44=-1):=h2
  clear h1 h2
  go_enter Tryz.func87,Tryz.ntmps87
  go_wp2_with fail
  refine (Tryz.stringslite_Index_one ⟨l.toArray⟩ 44 w).mono ?_
  rintro e w1 ⟨rfl,rfl⟩
  have e1:Lib.indexByte (⟨l.toArray⟩:ByteArray).data.toList 44=-1:=HI.out
  rw[e1]
  clear e1
  go_wp2
  go_ret3
  obtain⟨a1,a2,a3⟩:=HA.out
  rw[a1,a2,a3]
  exact⟨rfl,0,rfl⟩
 ·have HA:Hid (kA l=l.take k∧kB l=l.drop (k+1)∧kS l=true):=(by unfold kA kB kS;rw[h2];exact⟨rfl,rfl,rfl⟩)
  have HI:Hid (Lib.indexByte l 44=(k:Int)):=h1
  clear h1 h2
  go_enter Tryz.func87,Tryz.ntmps87
  go_wp2_with fail
  refine (Tryz.stringslite_Index_one ⟨l.toArray⟩ 44 w).mono ?_
  rintro e w1 ⟨rfl,rfl⟩
  have e1:Lib.indexByte (⟨l.toArray⟩:ByteArray).data.toList 44=(k:Int):=HI.out
  rw[e1]
  clear e1
  have i1:(0:Int)≤(k:Int):=by omega
  have i2:(k:Int)≤(l.length:Int):=by omega
  have i3:(k:Int)+1≤(l.length:Int):=by omega
  have i4:(0:Int)≤(k:Int)+1:=by omega
  have i5:IntKind.i64.wrap ((k:Int)+1)=(k:Int)+1:=Zmm (by omega) (by omega)
  have i6:((k:Int)+1).toNat=k+1:=by omega
  go_wp2_with fail
  go_quiet (fail)
  go_wp2
  go_ret3
  obtain⟨a1,a2,a3⟩:=HA.out
  rw[a1,a2,a3]
  have k5:(l.drop (k+1)).take (l.length-(k+1))=l.drop (k+1):=List.take_of_length_le (by simp)
  exact⟨by simp[k5],_,rfl⟩
theorem ZgA (l:List UInt8) (w:World) (hl:l.length≤1099511627776) :
  Calls Tryz.prog 46 #[.string ⟨l.toArray⟩,.string ⟨#[44]⟩] w fun e w'=>e=.returned (.tuple #[.string ⟨(kA l).toArray⟩,.string ⟨(kB l).toArray⟩,.bool (kS l)])∧∃ n,w'=w.drewN n:=by
 go_enter Tryz.func46,Tryz.ntmps46
 go_wp2_with fail
 refine (Zko l w hl).mono ?_
 rintro e w1 ⟨rfl,n,rfl⟩
 go_wp2
 go_ret3
 exact⟨rfl,n,rfl⟩
theorem ZbR {s:List UInt8} (h:kS s=true):Pn.parseE s≠0:=by
 unfold kS at h
 rcases ZbS s with ⟨h1,_⟩ | ⟨k,hk,_,h2⟩
 ·rw[h1] at h
  cases h
 ·have hc:isK s[k]=true:=(by
   have:∀ (l:List UInt8) {a b:List UInt8} {c:UInt8},spB isK l=some (a,c,b)→isK c=true:=(by
    intro l
    induction l with
    | nil=>intro a b c h;cases h
    | cons x l ih =>
     intro a b c h
     simp only[spB] at h
     split at h
     ·rename_i hx
      cases h
      exact hx
     ·split at h
      ·cases h
      ·rename_i hq
       cases h
       exact ih hq)
   exact this s h2)
  have hn:Pn.isNum s=false:=Pn.isNum_bad k hk (by
   unfold isK at hc
   have:s[k]=44:=by simpa using hc
   rw[this]
   decide)
  have:=(Pn.parse_no hn).2
  omega
def nmP (no:Bool) (s:List UInt8):Option (Int × Int):=if no=true then oneP s else lnsP s
theorem Zfb {s:List UInt8} (h:kS s=false):kA s=s∧spB isK s=none:=by
 unfold kS at h
 unfold kA
 cases hq:spB isK s with
 | none=>exact⟨rfl,rfl⟩
 | some q=>rw[hq] at h;cases h
theorem Zff {s:List UInt8} (h:kS s=true):∃ c,spB isK s=some (kA s,c,kB s):=by
 unfold kS at h
 unfold kA kB
 cases hq:spB isK s with
 | none=>rw[hq] at h;cases h
 | some q=>exact⟨q.2.1,rfl⟩
theorem ZgZ {no:Bool} {s:List UInt8} (h:Pn.parseE (kA s)≠0):nmP no s=none:=by
 unfold nmP
 cases hk:kS s with
 | true =>
  obtain⟨c,hc⟩:=Zff hk
  have h2:=ZbR hk
  cases no with
  | true =>
   unfold oneP
   rw[if_pos rfl,if_neg h2]
  | false =>
   unfold lnsP
   rw[if_neg (by decide),hc]
   exact if_neg (fun q=>h q.1)
 | false =>
  obtain⟨h1,h2⟩:=Zfb hk
  rw[h1] at h
  cases no with
  | true =>
   unfold oneP
   rw[if_pos rfl,if_neg h]
  | false =>
   unfold lnsP
   rw[if_neg (by decide),h2]
   exact if_neg (fun q=>h q.1)
theorem Zfa (s:List UInt8):(kA s).length≤s.length∧(kB s).length≤s.length:=by
 unfold kA kB
 rcases ZbS s with ⟨h1,_⟩ | ⟨k,hk,_,h2⟩
 ·rw[h1];simp
 ·rw[h2];simp only[List.length_take,List.length_drop];omega
def NmQ (w:World) (no:Bool) (s:List UInt8) (e:Ending) (w':World):Prop:=∃ x n r,e=.returned (.tuple #[.int .i64 x,.int .i64 n,.bool r])∧nmP no s=(if r=true then some (x,n) else none)∧Below w.heap.size w w'
theorem Zhb (s:List UInt8) (no:Bool) (w:World) (hl:s.length≤1099511627776) :
  Calls Tryz.prog 339 #[.string ⟨s.toArray⟩,.bool no] w fun e w'=>NmQ w no s e w':=by
 have hkl:=Zfa s
 have b1:=@ZiG (kA s)
 have b2:=@ZiG (kB s)
 obtain⟨V1,hV1⟩:∃ V,Pn.parseV (kA s)=V:=⟨_,rfl⟩
 obtain⟨E1,hE1⟩:∃ V,Pn.parseE (kA s)=V:=⟨_,rfl⟩
 obtain⟨V2,hV2⟩:∃ V,Pn.parseV (kB s)=V:=⟨_,rfl⟩
 obtain⟨E2,hE2⟩:∃ V,Pn.parseE (kB s)=V:=⟨_,rfl⟩
 have P1:∀ u:World,Calls Tryz.prog 337 #[.string ⟨(kA s).toArray⟩] u fun e w'=>e=.returned (.tuple #[.int .i64 V1,.int .i64 E1])∧Below u.heap.size u w':=(by
  intro u
  have h:=ZgD (kA s) u (by unfold maxLen;omega)
  rw[hV1,hE1] at h
  exact h)
 have P2:∀ u:World,Calls Tryz.prog 337 #[.string ⟨(kB s).toArray⟩] u fun e w'=>e=.returned (.tuple #[.int .i64 V2,.int .i64 E2])∧Below u.heap.size u w':=(by
  intro u
  have h:=ZgD (kB s) u (by unfold maxLen;omega)
  rw[hV2,hE2] at h
  exact h)
 rw[hV1] at b1
 rw[hV2] at b2
 by_cases he1:E1=0
 ·have f1:(E1 != 0)=false:=by simp[he1]
  cases no with
  | true =>
   cases hk:kS s with
   | true =>
    have HN:Hid (nmP true s=none):=(by
     show _=_
     unfold nmP oneP
     rw[if_pos rfl,if_neg (ZbR hk)])
    have C1:=ZgA s w hl
    rw[hk] at C1
    clear hV1 hE1 hV2 hE2 hk he1 P2
    go_enter Tryz.func339,Tryz.ntmps339
    go_wp2_with fail
    refine C1.mono ?_
    rintro e w1 ⟨rfl,n,rfl⟩
    go_wp2_with fail
    refine (P1 _).mono ?_
    rintro e w2 ⟨rfl,hb2⟩
    go_wp2
    go_ret3
    exact⟨_,_,_,rfl,HN.out,(Below.dN (Below.refl _ w) n).trans hb2⟩
   | false =>
    have HN:Hid (nmP true s=some (V1,0)):=(by
     show _=_
     obtain⟨a1,_⟩:=Zfb hk
     rw[a1] at hV1 hE1
     unfold nmP oneP
     rw[if_pos rfl,if_pos (by rw[hE1];exact he1),hV1])
    have C1:=ZgA s w hl
    rw[hk] at C1
    clear hV1 hE1 hV2 hE2 hk he1 P2
    go_enter Tryz.func339,Tryz.ntmps339
    go_wp2_with fail
    refine C1.mono ?_
    rintro e w1 ⟨rfl,n,rfl⟩
    go_wp2_with fail
    refine (P1 _).mono ?_
    rintro e w2 ⟨rfl,hb2⟩
    go_wp2
    go_ret3
    exact⟨_,_,_,rfl,HN.out,(Below.dN (Below.refl _ w) n).trans hb2⟩
  | false =>
   cases hk:kS s with
   | false =>
    have HN:Hid (nmP false s=if decide (0<V1)=true then some (V1,1) else none):=(by
     show _=_
     obtain⟨a1,a2⟩:=Zfb hk
     rw[a1] at hV1 hE1
     unfold nmP lnsP
     rw[if_neg (by decide),a2]
     dsimp only
     rw[hV1,hE1]
     by_cases h:0<V1
     ·rw[if_pos ⟨he1,by omega⟩,if_pos (by simpa using h)]
     ·rw[if_neg (by omega),if_neg (by simpa using h)])
    have C1:=ZgA s w hl
    rw[hk] at C1
    clear hV1 hE1 hV2 hE2 hk he1 P2
    go_enter Tryz.func339,Tryz.ntmps339
    go_wp2_with fail
    refine C1.mono ?_
    rintro e w1 ⟨rfl,n,rfl⟩
    go_wp2_with fail
    refine (P1 _).mono ?_
    rintro e w2 ⟨rfl,hb2⟩
    go_wp2
    go_ret3
    exact⟨_,_,_,rfl,HN.out,(Below.dN (Below.refl _ w) n).trans hb2⟩
   | true =>
    have HN:Hid (nmP false s=if (decide (E2=0) && decide (0<V1) && decide (V1<V2))=true then some (V1,V2-V1+1) else none):=(by
     show _=_
     obtain⟨c,a2⟩:=Zff hk
     unfold nmP lnsP
     rw[if_neg (by decide),a2]
     dsimp only
     rw[hV1,hE1,hV2,hE2]
     by_cases h:E2=0∧0<V1∧V1<V2
     ·rw[if_pos ⟨he1,h.1,by omega,h.2.2⟩,if_pos (by simp[h.1,h.2.1,h.2.2])]
     ·rw[if_neg (fun q=>h ⟨q.2.1,by omega,q.2.2.2⟩),if_neg (fun q=>h (by simp only[Bool.and_eq_true,decide_eq_true_eq] at q;exact⟨q.1.1,q.1.2,q.2⟩))])
    have C1:=ZgA s w hl
    rw[hk] at C1
    clear hV1 hE1 hV2 hE2 hk he1
    go_enter Tryz.func339,Tryz.ntmps339
    go_wp2_with fail
    refine C1.mono ?_
    rintro e w1 ⟨rfl,n,rfl⟩
    go_wp2_with fail
    refine (P1 _).mono ?_
    rintro e w2 ⟨rfl,hb2⟩
    go_wp2_with fail
    refine (P2 _).mono ?_
    rintro e w3 ⟨rfl,hb3⟩
    have hb23:=(Below.dN (Below.refl _ w) n).trans (hb2.trans (hb3.mono hb2.size))
    have i1:IntKind.i64.wrap (V2-V1)=V2-V1:=Zmm (by omega) (by omega)
    have i2:IntKind.i64.wrap (V2-V1+1)=V2-V1+1:=Zmm (by omega) (by omega)
    by_cases h1:E2=0
    ·have g1:(E2 == 0)=true:=by simp[h1]
     by_cases h2:0<V1
     ·have HN2:Hid (nmP false s=if decide (V1<V2)=true then some (V1,V2-V1+1) else none):=(by
       show _=_
       rw[HN.out]
       simp[h1,h2])
      clear HN h1
      go_wp2
      go_ret3
      exact⟨_,_,_,rfl,HN2.out,hb23⟩
     ·have HN2:Hid (nmP false s=none):=(by have h:=HN.out;rw[if_neg (by simp[h2])] at h;exact h)
      clear HN h1
      go_wp2
      go_ret3
      exact⟨_,_,_,rfl,HN2.out,hb23⟩
    ·have g1:(E2 == 0)=false:=by simp[h1]
     have HN2:Hid (nmP false s=none):=(by have h:=HN.out;rw[if_neg (by simp[h1])] at h;exact h)
     clear HN h1
     go_wp2
     go_ret3
     exact⟨_,_,_,rfl,HN2.out,hb23⟩
 ·have f1:(E1 != 0)=true:=by simp[he1]
  have HN:Hid (nmP no s=none):=ZgZ (by rw[hE1];exact he1)
  have C1:=ZgA s w hl
  clear hV1 hE1 hV2 hE2 he1 P2
  generalize kS s=ks at C1
  go_enter Tryz.func339,Tryz.ntmps339
  go_wp2_with fail
  refine C1.mono ?_
  rintro e w1 ⟨rfl,n,rfl⟩
  go_wp2_with fail
  refine (P1 _).mono ?_
  rintro e w2 ⟨rfl,hb2⟩
  go_wp2
  go_ret3
  exact⟨_,_,_,rfl,HN.out,(Below.dN (Below.refl _ w) n).trans hb2⟩
end

section
open Ln
def kM (x:Sde):List Mk:=x.map fun y=>⟨(y.1.toNat:Int),y.2⟩
theorem Zfd (x:Sde):(kM x).length=x.length:=by simp[kM]
theorem Zfc (y:UInt8 × List UInt8) (x:Sde):kM (y::x)=⟨(y.1.toNat:Int),y.2⟩::kM x:=rfl
theorem Zfe {x:Sde}:kM x=[]↔x=[]:=by simp[kM]
def rdC (sg:UInt8):Nat→List (List UInt8)→Except (Nat × Int) (List Mk × Nat × List (List UInt8))
 | p,[]=>.ok ([],p,[])
 | p,s::r=>if isSd sg s=true then if fdB s=true then match rdC sg (p+1) r with
   | .error e=>.error e
   | .ok (l,p2,r2)=>.ok (⟨((s.headD 0).toNat:Int),s.drop 2⟩::l,p2,r2)
  else .error (p+1,3) else .ok ([],p,s::r)
def sdE (sg:UInt8) (p:Nat) (ls:List (List UInt8)):Except (Nat × Int) (List Mk × Nat × List (List UInt8)) :=
 match rdC sg p ls with
 | .error e=>.error e
 | .ok (l,p1,r)=>if (!l.isEmpty && endK l r)=true then .ok (cutL l,p1+1,r.tail) else .ok (l,p1,r)
def mapS (X:Except (Nat × Int) (Sde × Nat × List (List UInt8))):Except (Nat × Int) (List Mk × Nat × List (List UInt8)) :=
 match X with
 | .error e=>.error e
 | .ok (x,p,r)=>.ok (kM x,p,r)
theorem ZfU {sg:UInt8} (h92:sg≠92) {t:List UInt8} (h:markT.isPrefixOf t=true):isSd sg t=false:=by
 obtain⟨u,rfl⟩:=List.isPrefixOf_iff_prefix.1 h
 unfold markT
 simp only[List.cons_append,isSd]
 have h1:((92:UInt8) == sg)=false:=beq_eq_false_iff_ne.2 (fun e=>h92 e.symm)
 rw[h1]
 decide
theorem ZiY {sg:UInt8} (h92:sg≠92) {r:List (List UInt8)} (h:pkM r=true) (p:Nat):rdC sg p r=.ok ([],p,r):=by
 cases r with
 | nil=>cases h
 | cons t r =>
  simp only[rdC]
  rw[if_neg (by rw[ZfU h92 h];decide)]
theorem Zkm {sg:UInt8} {s:List UInt8} (h:isSd sg s=true) (hf:fdB s=true) (hl:s.length≤3):s.drop 2=[10]:=by
 match s,h,hf,hl with
 | [a,b],h,hf,_ =>
  simp only[isSd,Bool.and_eq_true,beq_iff_eq] at h
  obtain⟨_,rfl⟩:=h
  exact absurd hf (by simp[fdB])
 | [a,b,c],h,hf,_ =>
  have:c=10:=by simpa [fdB] using hf
  rw[this]
  rfl
theorem Zkl {sg:UInt8} (h92:sg≠92) (ls:List (List UInt8)):∀ p,sdE sg p ls=mapS (rdS sg p ls):=by
 induction ls with
 | nil=>intro p;rfl
 | cons s r ih =>
  intro p
  by_cases hs:isSd sg s=true
  ·by_cases hf:fdB s=true
   ·by_cases hm:pkM r=true∧3<s.length
    ·have h1:rdC sg p (s::r)=.ok ([⟨((s.headD 0).toNat:Int),s.drop 2⟩],p+1,r):=by
      simp only[rdC]
      rw[if_pos hs,if_pos hf,ZiY h92 hm.1]
     have h2:endK [⟨((s.headD 0).toNat:Int),s.drop 2⟩] r=true:=by
      unfold endK
      rw[hm.1,Bool.and_true]
      have:lastT [(⟨((s.headD 0).toNat:Int),s.drop 2⟩:Mk)]=s.drop 2:=rfl
      rw[this,bne_iff_ne]
      intro e
      have:=congrArg List.length e
      rw[List.length_drop] at this
      simp at this
      omega
     unfold sdE
     rw[h1]
     dsimp only
     rw[if_pos (by rw[h2];rfl)]
     simp only[rdS]
     rw[if_pos hs,if_pos hf,if_pos hm]
     rfl
    ·have hi:=ih (p+1)
     simp only[rdS]
     rw[if_pos hs,if_pos hf,if_neg hm]
     unfold sdE at hi ⊢
     simp only[rdC]
     rw[if_pos hs,if_pos hf]
     cases hc:rdC sg (p+1) r with
     | error e =>
      rw[hc] at hi
      cases hr:rdS sg (p+1) r with
      | error e2 =>
       rw[hr] at hi
       simp only[mapS] at hi ⊢
       injection hi with hi
       rw[hi]
      | ok z =>
       obtain⟨x,p2,r2⟩:=z
       rw[hr] at hi
       simp only[mapS] at hi
       cases hi
     | ok z =>
      obtain⟨l,p2,r2⟩:=z
      rw[hc] at hi
      dsimp only at hi ⊢
      cases hr:rdS sg (p+1) r with
      | error e2 =>
       rw[hr] at hi
       simp only[mapS] at hi
       split at hi<;>cases hi
      | ok z =>
       obtain⟨x,p3,r3⟩:=z
       rw[hr] at hi
       simp only[mapS] at hi ⊢
       by_cases hl:l=[]
       ·subst hl
        rw[if_neg (by simp)] at hi
        have hi2:([]:List Mk)=kM x∧p2=p3∧r2=r3:=by
         injection hi with hi
         injection hi with h1 h2
         injection h2 with h2 h3
         exact⟨h1,h2,h3⟩
        obtain⟨hx,rfl,rfl⟩:=hi2
        have hx0:x=[]:=Zfe.1 hx.symm
        subst hx0
        have hr2:r2=r:=by
         cases r with
         | nil=>simp only[rdC] at hc;cases hc;rfl
         | cons t r =>
          simp only[rdC] at hc
          split at hc
          ·split at hc
           ·split at hc
            ·cases hc
            ·cases hc
           ·cases hc
          ·cases hc;rfl
        subst hr2
        have he:endK [⟨((s.headD 0).toNat:Int),s.drop 2⟩] r2=false:=by
         unfold endK
         have:lastT [(⟨((s.headD 0).toNat:Int),s.drop 2⟩:Mk)]=s.drop 2:=rfl
         rw[this]
         cases hp:pkM r2 with
         | false=>rw[Bool.and_false]
         | true =>
          rw[Zkm hs hf (Nat.le_of_not_lt fun q=>hm ⟨hp,q⟩)]
          rfl
        rw[if_neg (by rw[he];simp)]
        rfl
       ·have hl1:l.isEmpty=false:=by cases l with | nil=>exact absurd rfl hl | cons _ _=>rfl
        have he:endK (⟨((s.headD 0).toNat:Int),s.drop 2⟩::l) r2=endK l r2:=by
         unfold endK
         rw[Zfr hl]
        rw[he]
        rw[hl1] at hi
        simp only[Bool.not_false,Bool.true_and,List.isEmpty_cons] at hi ⊢
        by_cases hk:endK l r2=true
        ·rw[if_pos hk] at hi ⊢
         rw[Zcm hl]
         injection hi with hi
         injection hi with h1 h2
         rw[h1,h2]
         rfl
        ·rw[if_neg hk] at hi ⊢
         injection hi with hi
         injection hi with h1 h2
         rw[h1,h2]
         rfl
   ·unfold sdE
    simp only[rdC,rdS]
    rw[if_pos hs,if_neg hf,if_pos hs,if_neg hf]
    rfl
  ·unfold sdE
   simp only[rdC,rdS]
   rw[if_neg hs,if_neg hs]
   rfl
/- ranges -/
def nmC (s:List UInt8):Option (Int × Int) :=
 if Pn.parseE (kA s)=0 then if kS s=true then if Pn.parseE (kB s)=0∧0<Pn.parseV (kA s)∧Pn.parseV (kA s)<Pn.parseV (kB s) then some (Pn.parseV (kA s),Pn.parseV (kB s)) else none else some (Pn.parseV (kA s),Pn.parseV (kA s)) else none
def sayC (x:Int × Int):Int × Int:=(x.1,if x.1=x.2 then -1 else x.2-x.1+1)
theorem Zjw (s:List UInt8):rngI s=(nmC s).map sayC:=by
 unfold rngI nmC
 cases hk:kS s with
 | false =>
  obtain⟨h1,h2⟩:=Zfb hk
  rw[h1,if_neg (show ¬ (false=true) by decide)]
  by_cases he:Pn.parseE s=0
  ·rw[if_pos he,if_pos he]
   simp[sayC]
  ·rw[if_neg he,if_neg he]
   unfold lnsP
   rw[h2]
   exact if_neg (fun q=>he q.1)
 | true =>
  obtain⟨c,hc⟩:=Zff hk
  rw[if_neg (ZbR hk),if_pos rfl]
  unfold lnsP
  rw[hc]
  dsimp only
  by_cases h1:Pn.parseE (kA s)=0
  ·rw[if_pos h1]
   by_cases h2:Pn.parseE (kB s)=0∧0<Pn.parseV (kA s)∧Pn.parseV (kA s)<Pn.parseV (kB s)
   ·rw[if_pos ⟨h1,h2.1,by omega,h2.2.2⟩,if_pos h2]
    simp only[Option.map_some,sayC]
    rw[if_neg (by omega)]
   ·rw[if_neg (fun q=>h2 ⟨q.2.1,by omega,q.2.2.2⟩),if_neg h2]
    rfl
  ·rw[if_neg (fun q=>h1 q.1),if_neg h1]
   rfl
theorem ZgY {s:List UInt8} {a b:Int} (h:nmC s=some (a,b)):0≤a∧a≤b∧b≤2147483647:=by
 unfold nmC at h
 have b1:=@ZiG (kA s)
 have b2:=@ZiG (kB s)
 split at h
 ·split at h
  ·split at h
   ·rename_i h3
    cases h
    omega
   ·cases h
  ·cases h
   omega
 ·cases h
theorem ZbM {a b:Int} (h:a≤b) (x:Sde):cntS (sayC (a,b)).2 x=!(decide ((x.length:Int)=b-a+1) || (decide ((x.length:Int)=0) && decide (b-a+1=1))):=by
 unfold cntS sayC
 dsimp only
 rw[Bool.eq_iff_iff]
 simp only[decide_eq_true_eq,Bool.not_eq_true',Bool.or_eq_false_iff,Bool.and_eq_false_iff,decide_eq_false_iff_not]
 split<;>omega
end

section
open Ln
def txS:List Mk→Nat
 | []=>0
 | m::l=>m.tx.length+txS l
def hsS:List Hk→Nat
 | []=>0
 | h::l=>200+62 * h.ls.length+2 * txS h.ls+hsS l
end

end Go.Proofs.YtcniomgjikienaaGreatDoor

/- The context form: a side's lines one by one, by what lies ahead of a place and behind it (the reference's way); plain mathematics. -/
namespace Go.Proofs.YtcniomgjikienaaGreatDoor
end Go.Proofs.YtcniomgjikienaaGreatDoor

namespace Go.Proofs.YtcniomgjikienaaGreatDoor

section
open Ln
def chgM (l:List Mk):List Mk:=l.takeWhile fun m=>m.sg != 32
def rstM (l:List Mk):List Mk:=l.dropWhile fun m=>m.sg != 32
/- signs that are shown -/
theorem Zbv (l:List Mk):chgM l++rstM l=l:=List.takeWhile_append_dropWhile
end

section
open Ln
/- pieces -/
def allM (k:Int) (l:List Mk):Bool:=l.all fun m=>m.sg == k
def keptM (l:List Mk):List Mk:=l.filter fun m=>m.sg == 32
theorem Zfi (a:UInt8) (k:UInt8):(((a.toNat:Int)) != (k.toNat:Int))=(a != k):=by
 rw[Bool.eq_iff_iff,bne_iff_ne,bne_iff_ne,ne_eq,ne_eq,Int.natCast_inj,UInt8.toNat_inj]
theorem Zfh (a:UInt8) (k:UInt8):(((a.toNat:Int)) == (k.toNat:Int))=(a == k):=by
 rw[Bool.eq_iff_iff,beq_iff_eq,beq_iff_eq,Int.natCast_inj,UInt8.toNat_inj]
theorem Zbs (x:Sde):chgM (kM x)=kM (chgS x):=by
 induction x with
 | nil=>rfl
 | cons y x ih =>
  have h:=Zfi y.1 32
  simp only[chgM,Zfc,chgS,List.takeWhile_cons] at ih ⊢
  have h2:(((y.1.toNat:Int)) != 32)=(y.1 != 32):=h
  rw[h2]
  split
  ·rw[ih];rfl
  ·rfl
theorem ZjF (x:Sde):rstM (kM x)=kM (rstS x):=by
 induction x with
 | nil=>rfl
 | cons y x ih =>
  have h:=Zfi y.1 32
  simp only[rstM,Zfc,rstS,List.dropWhile_cons] at ih ⊢
  have h2:(((y.1.toNat:Int)) != 32)=(y.1 != 32):=h
  rw[h2]
  split
  ·rw[ih]
  ·rfl
theorem Zat (k:UInt8) (x:Sde):allM (k.toNat:Int) (kM x)=allS k x:=by
 unfold allM allS kM
 rw[List.all_map]
 refine congrArg (fun f=>x.all f) ?_
 funext y
 exact Zfh y.1 k
theorem Zfk (x:Sde):keptM (kM x)=kM (keptS x):=by
 unfold keptM keptS kM
 rw[List.filter_map]
 refine congrArg (List.map _) (congrArg (fun f=>x.filter f) ?_)
 funext y
 exact Zfh y.1 32
def mtM (g c:List Mk):Bool:=if c=[] then allM 45 g else if g=[] then allM 43 c else allM 33 g && allM 33 c
theorem Zgv (x y:Sde):mtM (kM x) (kM y)=okJ x y:=by
 unfold mtM okJ
 have a1:allM 45 (kM x)=allS 45 x:=Zat 45 x
 have a2:allM 43 (kM y)=allS 43 y:=Zat 43 y
 have a3:allM 33 (kM x)=allS 33 x:=Zat 33 x
 have a4:allM 33 (kM y)=allS 33 y:=Zat 33 y
 rw[a1,a2,a3,a4]
 by_cases hy:y=[]
 ·subst hy
  rw[if_pos (show kM []=[] from rfl),if_neg (fun q=>q.2 rfl)]
  have:allS 43 []=true:=rfl
  rw[this,Bool.and_true]
 ·rw[if_neg (fun q=>hy (Zfe.1 q))]
  by_cases hx:x=[]
  ·subst hx
   rw[if_pos (show kM []=[] from rfl),if_neg (fun q=>q.1 rfl)]
   have:allS 45 []=true:=rfl
   rw[this,Bool.true_and]
  ·rw[if_neg (fun q=>hx (Zfe.1 q)),if_pos ⟨hx,hy⟩]
theorem Zgd (s:Int) (x:Sde):mkS s x=(kM x).map fun m=>⟨s,m.tx⟩:=by
 simp[mkS,kM]
theorem ZjO (x:Sde):allM 32 (kM x)=sameS x:=Zat 32 x
theorem ZeX (n:Nat):∀ (o w:Sde) (f g:Nat),o.length≤n→o.length<f→o.length<g→jnS f o w=jnS g o w:=by
 induction n with
 | zero =>
  intro o w f g h hf hg
  obtain⟨f,rfl⟩:∃ f',f=f'+1:=⟨f-1,by omega⟩
  obtain⟨g,rfl⟩:∃ g',g=g'+1:=⟨g-1,by omega⟩
  have ho:o=[]:=List.eq_nil_of_length_eq_zero (by omega)
  subst ho
  simp only[jnS]
  have:rstS []=[]:=rfl
  rw[this]
  cases rstS w<;>rfl
 | succ n ih =>
  intro o w f g h hf hg
  obtain⟨f,rfl⟩:∃ f',f=f'+1:=⟨f-1,by omega⟩
  obtain⟨g,rfl⟩:∃ g',g=g'+1:=⟨g-1,by omega⟩
  simp only[jnS]
  split
  ·have hl:(rstS o).length≤o.length:=by
    have:=congrArg List.length (Zbu o)
    rw[List.length_append] at this
    omega
   cases hro:rstS o with
   | nil=>cases rstS w<;>rfl
   | cons y o2 =>
    rw[hro] at hl
    cases hrw:rstS w with
    | nil=>rfl
    | cons z w2 =>
     dsimp only
     rw[ih o2 w2 f g (by simp at hl;omega) (by simp at hl;omega) (by simp at hl;omega)]
  ·rfl
def jnX (o w:Sde):Option (List Mk):=jnS (o.length+1) o w
theorem ZeW (o w : Sde) : jnX o w = if okJ (chgS o) (chgS w) = true then match rstS o, rstS w with
      | [], [] => some (mkS 45 (chgS o) ++ mkS 43 (chgS w))
      | (_, s) :: o2, (_, t) :: w2 => if s = t then match jnX o2 w2 with
        | none => none
        | some l => some (mkS 45 (chgS o) ++ (mkS 43 (chgS w) ++ ⟨32, s⟩ :: l)) else none
      | _, _ => none
    else none := by
  have hl : (rstS o).length ≤ o.length := by
    have := congrArg List.length (Zbu o)
    rw [List.length_append] at this
    omega
  have hX : jnX o w = jnS (o.length + 1) o w := rfl
  rw [hX]
  simp only [jnS]
  split
  · cases hro : rstS o with
    | nil => cases rstS w <;> rfl
    | cons y o2 =>
      rw [hro] at hl
      simp only [List.length_cons] at hl
      cases hrw : rstS w with
      | nil => rfl
      | cons z w2 =>
        dsimp only
        rw [ZeX o.length o2 w2 o.length (o2.length + 1) (by omega) (by omega) (by omega)]
        rfl
  · rfl
/- names -/
def unC (s:List UInt8):List UInt8:=if s=devN then [] else if s.head?=some 34 then Q.uqa s else s
theorem ZlA {s n:List UInt8} (h:unN s=some n):unC s=n:=by
 unfold unN at h
 unfold unC
 split at h
 ·rename_i h1
  rw[if_pos h1]
  cases h
  rfl
 ·rename_i h1
  rw[if_neg h1]
  split at h
  ·rename_i h2
   rw[if_pos h2]
   unfold Q.uqa
   split at h
   ·rename_i h3
    rw[h3]
    cases h
    rfl
   ·cases h
  ·rename_i h2
   rw[if_neg h2]
   cases h
   rfl
def nokC (s:List UInt8):Bool:=decide ((unC s).length≤64) && (nameT (unC s) == s)
theorem ZgK (s:List UInt8):namedP s=if nokC s=true then some (unC s) else none:=by
 by_cases h:nokC s=true
 ·rw[if_pos h]
  unfold nokC at h
  rw[Bool.and_eq_true,decide_eq_true_eq,beq_iff_eq] at h
  exact (ZgL s (unC s)).2 ⟨h.2.symm,h.1⟩
 ·rw[if_neg h]
  cases hn:namedP s with
  | none=>rfl
  | some n =>
   exfalso
   obtain⟨h1,h2⟩:=(ZgL s n).1 hn
   have h3:unC s=n:=by rw[h1];exact ZlA (ZgJ n)
   apply h
   unfold nokC
   rw[h3,Bool.and_eq_true,decide_eq_true_eq,beq_iff_eq]
   exact⟨h2,h1.symm⟩
theorem ZeJ (e:UInt8) (s:List UInt8):innR e s=if [e,e,e,32].isPrefixOf s=true then if Lib.hasSuffix (s.drop 4) [32,e,e,e,e]=true then some ((s.drop 4).take ((s.drop 4).length-5)) else none else none:=by
 unfold innR
 by_cases h1:[e,e,e,32].isPrefixOf s=true
 ·rw[if_pos h1]
  obtain⟨t,rfl⟩:=List.isPrefixOf_iff_prefix.1 h1
  have e1:([e,e,e,32]++t).drop 4=t:=rfl
  have e2:([e,e,e,32]++t).length=t.length+4:=by simp
  rw[e1,e2]
  by_cases h2:Lib.hasSuffix t [32,e,e,e,e]=true
  ·rw[if_pos h2]
   unfold Lib.hasSuffix at h2
   obtain⟨u,rfl⟩:=List.isSuffixOf_iff_suffix.1 h2
   have e3:(u++[32,e,e,e,e]).length=u.length+5:=by simp
   rw[e3,if_pos]
   ·have e4:u.length+5+4-9=u.length+5-5:=by omega
    rw[e4]
   ·refine⟨by omega,rfl,?_⟩
    have e5:u.length+5+4-5=([e,e,e,32]++u).length:=by simp
    rw[e5,← List.append_assoc,List.drop_left]
  ·rw[if_neg h2,if_neg]
   rintro⟨h3,_,h4⟩
   apply h2
   unfold Lib.hasSuffix
   rw[List.isSuffixOf_iff_suffix]
   have e6:([e,e,e,32]++t).drop (t.length+4-5)=t.drop (t.length-5):=by
    have:t.length+4-5=4+(t.length-5):=by omega
    rw[this,← List.drop_drop]
    rfl
   rw[e6] at h4
   exact⟨t.take (t.length-5),by rw[← h4,List.take_append_drop]⟩
 ·rw[if_neg h1,if_neg]
  rintro⟨_,h2,_⟩
  apply h1
  rw[List.isPrefixOf_iff_prefix]
  exact⟨s.drop 4,by rw[← h2,List.take_append_drop]⟩
end

end Go.Proofs.YtcniomgjikienaaGreatDoor

namespace Go.Proofs

section
open Go.Shelf
def Tryz.lays240_ren:Go.Shelf.Ren:=⟨fun | 240=>72 | 276=>114 | n=>n,fun | 0=>0 | 4=>4 | 9=>9 | 20=>20 | 70=>82 | 72=>85 | 37=>83 | 164=>105 | n=>n,fun | n=>n⟩
theorem Tryz.lays240:Go.Proofs.Lays.n240 Tryz.prog Tryz.lays240_ren:={
 mixed:=by kernel_rfl
 f240:= Go.fk Tryz.func72
 f276:= Go.fk Tryz.func114
 t0:=Tryz.underlying0
 a0:=Tryz.isAgg0
 z0:=Tryz.sizeOf0
 v0:=Tryz.zeroValue0
 t4:=Tryz.underlying4
 a4:=Tryz.isAgg4
 z4:=Tryz.sizeOf4
 v4:=Tryz.zeroValue4
 t9:=Tryz.underlying9
 a9:=Tryz.isAgg9
 z9:=Tryz.sizeOf9
 v9:=Tryz.zeroValue9
 t20:=Tryz.underlying20
 a20:=Tryz.isAgg20
 z20:=Tryz.sizeOf20
 v20:=Tryz.zeroValue20
 t70:=Tryz.underlying82
 a70:=Tryz.isAgg82
 z70:=Tryz.sizeOf82
 v70:=Tryz.zeroValue82
 t72:=Tryz.underlying85
 a72:=Tryz.isAgg85
 z72:=Tryz.sizeOf85
 v72:=Tryz.zeroValue85
 t164:=Tryz.underlying105
 a164:=Tryz.isAgg105
 z164:=Tryz.sizeOf105
 v164:=Tryz.zeroValue105 }
theorem Tryz.Builder_X72_240:Builder.X72 Tryz.prog Tryz.lays240_ren:={
 sizeBuilder:=by kernel_rfl
 liesBuilder:=by kernel_rfl }
theorem Tryz.copyCheck_fresh (b:Nat) (w:World) (h0:w.cell? ⟨b,0,none⟩=some (.pointer none)) (hsh:w.shape? b=some (85,2)) (hfz:w.frozen? ⟨b,0,none⟩=false) :
  Calls Tryz.prog 72 #[.pointer (some ⟨b,0,none⟩)] w fun e w'=>e=.returned (.tuple #[])∧w'=w.setCell ⟨b,0,none⟩ (.pointer (some ⟨b,0,none⟩)):=Any.Builder_copyCheck_fresh Tryz.lays240 Tryz.Builder_X72_240 b w h0 hsh hfz
theorem Tryz.copyCheck_used (b:Nat) (w:World) (h0:w.cell? ⟨b,0,none⟩=some (.pointer (some ⟨b,0,none⟩))) :
  Calls Tryz.prog 72 #[.pointer (some ⟨b,0,none⟩)] w fun e w'=>e=.returned (.tuple #[])∧w'=w:=Any.Builder_copyCheck_used Tryz.lays240 Tryz.Builder_X72_240 b w h0
end

end Go.Proofs

namespace Go.Proofs.YtcniomgjikienaaGreatDoor

section
open Q Go.RowKit Go.Proofs.YtcniomgjikienaaGreatDoor.Tx
attribute [local go_sem] ZaB Zea
theorem ZeU (n:Int) (w:World) :
  Calls Tryz.prog 263 #[.int .u8 n] w fun e w'=>e=.returned (.bool (plainI n))∧w=w':=by
 go_enter Tryz.func263,Tryz.ntmps263
 go_wp2
 all_goals go_ret
 all_goals exact⟨ret_bool (by rw[Bool.eq_iff_iff];simp[plainI];omega),rfl⟩
theorem ZoX (n:Int) (w:World) :
  Calls Tryz.prog 157 #[.int .u8 n] w fun e w'=>e=.returned (.bool (plainI n))∧w=w':=by
 go_enter Tryz.func157,Tryz.ntmps157
 go_wp2
 all_goals go_ret
 all_goals exact⟨ret_bool (by rw[Bool.eq_iff_iff];simp[plainI];omega),rfl⟩
theorem infoU8:(Tryz.prog.info? 5).map (fun i=>(i.zero,i.size,i.bytes))=some (some (.int .u8 0),1,1):=by kernel_rfl
theorem ZbV (B b:Nat) (v:Value) (bs:List Value) (w:World) (h:Bld 85 5 B b v bs w) :
  Calls Tryz.prog 72 #[.pointer (some ⟨b,0,none⟩)] w fun e w'=>e=.returned (.tuple #[])∧w'.heap[b]?=some (.cells #[.pointer (some ⟨b,0,none⟩),v] 85 (0,0))∧Bld 85 5 B b v bs w'∧Hid (∀ k,k≠b→w'.heap[k]?=w.heap[k]?)∧Below B w w':=by
 have h':=h
 obtain⟨hB,⟨p,hp,hbk⟩,hown,hne⟩:=h
 have hlt:b<w.heap.size:=(Array.getElem?_eq_some_iff.1 hbk).1
 have c0:w.cell? ⟨b,0,none⟩=some p:=by rw[Lib.cell_of_heap hbk];rfl
 have f0:w.frozen? ⟨b,0,none⟩=false:=Lib.frozen_of_heap hbk 0
 rcases hp with rfl | rfl
 ·refine (Tryz.copyCheck_fresh b w c0 (by simp[World.shape?,hbk]) f0).mono ?_
  rintro e w' ⟨rfl,rfl⟩
  have hb':(w.setCell ⟨b,0,none⟩ (.pointer (some ⟨b,0,none⟩))).heap[b]?=some (.cells #[.pointer (some ⟨b,0,none⟩),v] 85 (0,0)):=by
   simp only[World.setCell,Array.getElem?_modify,hbk]
   simp
  have ho:∀ k,k≠b→(w.setCell ⟨b,0,none⟩ (.pointer (some ⟨b,0,none⟩))).heap[k]?=w.heap[k]?:=fun k hk=>Below.heap_setCell w _ _ k hk
  refine⟨rfl,hb',⟨hB,⟨_,.inr rfl,hb'⟩,?_,hne⟩,ho,(Below.refl B w).setCell (p:=⟨b,0,none⟩) hB _⟩
  refine⟨hown.1,?_⟩
  rcases hown.2 with h | ⟨g,cap,cur,fz,q1,q2,q3,q4⟩
  ·exact .inl h
  ·exact .inr ⟨g,cap,cur,fz,q1,q2,(ho g (fun e=>hne (by rw[q1,e];rfl))).trans q3,q4⟩
 ·refine (Tryz.copyCheck_used b w c0).mono ?_
  rintro e w' ⟨rfl,rfl⟩
  exact⟨rfl,hbk,h',fun _ _=>rfl,Below.refl B _⟩
theorem Zak (B b:Nat) (v:Value) (bs:List Value) (c:Int) (w:World) (h:Bld 85 5 B b v bs w) (hlen:bs.length+1≤140737488355328) (hBw:B≤w.heap.size) :
  Calls Tryz.prog 209 #[.pointer (some ⟨b,0,none⟩),.int .u8 c] w fun e w'=>e=.returned .nilIface∧∃ v',Bld 85 5 B b v' (bs++[.int .u8 c]) w'∧Go.Proofs.YtcniomgjikienaaGreatDoor.Tx.Aside b v w w'∧Fresh v v' w∧Below B w w':=by
 obtain⟨i0,hi,hz0,hz1,hz2⟩:=info_parts infoU8
 go_enter Tryz.func209,Tryz.ntmps209
 go_wp2_with (go_at_call 72;refine (ZbV B b v bs _ h).mono ?_)
 rintro e w1 ⟨rfl,hbk,⟨hB,_,hown,hne⟩,ho1,hb1⟩
 have c0:w1.cell? ⟨b,0,none⟩=some (.pointer (some ⟨b,0,none⟩)):=by rw[Lib.cell_of_heap hbk];rfl
 have c1:w1.cell? ⟨b,1,none⟩=some v:=by rw[Lib.cell_of_heap hbk];rfl
 have hlt:b<w1.heap.size:=(Array.getElem?_eq_some_iff.1 hbk).1
 go_wp2_with (at_builtin;refine Zmh _ rfl _ _ 83 rfl B 5 i0 (.int .u8 0) 1 1 Tryz.underlying83 hi hz0 hz1 hz2 rfl (by decide) _ _ _ rfl (hown.alloc _) ⟨w1.heap.size,0,none⟩ 1 1 [.int .u8 c] rfl rfl ?c1 ?c2 ?c3 ?c4 ?c5 ?_)
 case c1 =>
  intro j u hj
  match j,hj with
  | 0,hj=>simp at hj;subst hj;simp[Addr.add]
 case c2=>intro u hu;simp at hu;subst hu;rfl
 case c3=>unfold maxLen;omega
 case c4=>omega
 case c5=>have:=hb1.size;simp;omega
 intro v' w2 hown' hgrow hfr
 have hb2:w2.heap[b]?=some (.cells #[.pointer (some ⟨b,0,none⟩),v] 85 (0,0)):=by
  rw[hgrow.block b (by simp;omega) (fun e=>hne e.symm),Lib.alloc_old w1 _ b hlt]
  exact hbk
 have d0:w2.cell? ⟨b,0,none⟩=some (.pointer (some ⟨b,0,none⟩)):=by rw[Lib.cell_of_heap hb2];rfl
 have d1:w2.cell? ⟨b,1,none⟩=some v:=by rw[Lib.cell_of_heap hb2];rfl
 have f1:w2.frozen? ⟨b,1,none⟩=false:=Lib.frozen_of_heap hb2 1
 obtain⟨g,cap,rfl⟩:∃ g cap,v'=.slice (some ⟨g,0,none⟩) (bs.length+1) cap:=by
  rcases hown'.2 with ⟨_,h0⟩ | ⟨g,cap,cur,fz,hv,_⟩
  ·omega
  ·exact⟨g,cap,hv⟩
 go_wp2
 go_ret
 refine⟨rfl,_,Bld.put hB (.inr rfl) hb2 (by simpa using hown') (by decide),?_,?_,?_⟩
 ·intro k hk hkb hkv
  rw[Below.heap_setCell w2 _ _ k hkb,hgrow.block k (by have:=hb1.size;simp;omega) (fun e=>hkv e.symm),Lib.alloc_old w1 _ k (by have:=hb1.size;omega)]
  exact ho1.out k hkb
 ·rcases hfr with h | ⟨g',h,h2⟩
  ·exact .inl h
  ·exact .inr ⟨g',h,by have:=hb1.size;omega⟩
 ·exact ((hb1.alloc (by have:=hb1.size;omega) _).grown hgrow (by have:=hb1.size;simp;omega) (fun k hk=>(hown.lt k hk).1)).setCell (p:=⟨b,1,none⟩) hB _
theorem ZmU (n:Int) (w:World) :
  Calls Tryz.prog 182 #[.int .u8 n] w fun e w'=>e=.returned (.int .i64 (digitI n))∧w=w':=by
 go_enter Tryz.func182,Tryz.ntmps182
 go_wp2
 go_loop [3] (fun i=>∃ k:Nat,k≤16∧i=.int .i64 k∧∀ j,j<k→((hexc j).toNat:Int)≠n) (fun i=>16-(intOf i).toNat)
 case atStart=>exact⟨0,by omega,rfl,by intro j hj;omega⟩
 case round =>
  obtain⟨k,hk,rfl,hno⟩:=hrel
  have HN:Hid (∀ j,j<k→((hexc j).toNat:Int)≠n):=hno
  clear hno
  by_cases hlt:k<16
  ·by_cases heq:((hexc k).toNat:Int)=n
   ·have hb:(((hexc k).toNat:Int) == n)=true:=by simp[heq]
    have HE:Hid ((k:Int)=digitI n):=by show (k:Int)=digitI n;rw[← heq,ZcL k hlt]
    clear heq
    go_wp2
    go_ret
    exact⟨ret_int HE.out,rfl⟩
   ·have hb:(((hexc k).toNat:Int) == n)=false:=by simp[heq]
    go_wp2
    exact⟨⟨k+1,by omega,by go_num,fun j hj=>if h:j=k then h ▸ heq else HN.out j (by omega)⟩,by simp[intOf];omega⟩
  ·go_wp2
   go_ret
   exact⟨ret_int (ZmV n (fun j hj=>HN.out j (by omega))).symm,rfl⟩
end

section
open Q Go.RowKit Go.Proofs.YtcniomgjikienaaGreatDoor.Tx
theorem Zaf (l:List UInt8) (w:World) (hl:l.length≤1099511627776) :
  Calls Tryz.prog 217 #[.string ⟨l.toArray⟩] w fun e w'=>e=.returned (.string ⟨(quote l).toArray⟩)∧Below w.heap.size w w':=by
 go_enter Tryz.func217,Tryz.ntmps217
 go_wp2_with fail
 refine (Zak w.heap.size w.heap.size (.slice none 0 0) [] 34 _ (Bld.fresh 85 5 w) (by simp) (by simp)).mono ?_
 rintro e w1 ⟨rfl,v1,hB1,ha1,hf1,hb1⟩
 obtain⟨cap,C,fz,w2,hcv,hR,hC,hb2,hlt2⟩:=ZbU (P:=Tryz.prog) w1 9 83 5 l Tryz.underlying9 Tryz.underlying83 Tryz.underlying5
 have hB2:=hB1.kept (ZaD hb2)
 have hRb:Beside w1.heap.size (.cells C 5 fz) w.heap.size v1 w2:=⟨hR,by have:=hB1.lt;omega,by
  intro e
  have:=(hB1.2.2.1.lt _ e).2
  omega⟩
 have hbw:Below w.heap.size w w2:=(((Below.refl _ w).alloc (Nat.le_refl _) _).trans hb1).trans (hb2.mono (by have:=hb1.size;simp at this;omega))
 generalize hRR:w1.heap.size=R at *
 have HR:Hid (w1.heap.size=R):=hRR
 clear hRR
 go_wp2
 go_loopw [10] (fun i wr=>∃ (k:Nat) (acc:List UInt8) (v:Value),k≤l.length∧i=.int .i64 k∧Bld 85 5 w.heap.size w.heap.size v (Lib.byteCells acc) wr∧Beside R (.cells C 5 fz) w.heap.size v wr∧Below w.heap.size w wr∧acc++qbody (l.drop k)=[34]++qbody l∧acc.length≤3 * k+1) (fun i _=>l.length-(intOf i).toNat)
 case atStart=>exact⟨0,[34],v1,Nat.zero_le _,rfl,hB2,hRb,hbw,rfl,by simp⟩
 case round =>
  obtain⟨k,acc,v,hk,rfl,hB,hR',hbr,hacc,hal⟩:=hrel
  by_cases hlt:k<l.length
  ·have hc:=(hR'.cell k).trans (hC k hlt)
   have hdk:l.drop k=l[k]::l.drop (k+1):=List.drop_eq_getElem_cons hlt
   have HD:Hid (acc++(q1 l[k]++qbody (l.drop (k+1)))=[34]++qbody l):=by
    rw[hdk] at hacc
    exact hacc
   clear hacc hdk
   generalize l[k]=x at *
   have hx:x.toNat<256:=x.toNat_lt
   go_wp2_with fail
   refine (ZeU _ _).mono ?_
   rintro e w' ⟨rfl,rfl⟩
   cases hpl:plainI x.toNat
   ·have HP:Hid (q1 x=[92,hexc (x.toNat / 16),hexc (x.toNat % 16)]):=by
     show q1 x=_
     simp[q1,hpl]
    go_wp2_with fail
    refine (Zak w.heap.size w.heap.size v _ 92 _ hB (by rw[Lib.byteCells_length];omega) (by have:=hbr.size;omega)).mono ?_
    rintro e w3 ⟨rfl,v3,hB3,ha3,hf3,hb3⟩
    go_wp2_with fail
    rw[ZdY]
    refine (Zak w.heap.size w.heap.size v3 _ _ _ hB3 (by simp[Lib.byteCells_length];omega) (by have:=hbr.size;have:=hb3.size;omega)).mono ?_
    rintro e w4 ⟨rfl,v4,hB4,ha4,hf4,hb4⟩
    go_wp2_with fail
    rw[ZdY]
    refine (Zak w.heap.size w.heap.size v4 _ _ _ hB4 (by simp[Lib.byteCells_length];omega) (by have:=hbr.size;have:=hb3.size;have:=hb4.size;omega)).mono ?_
    rintro e w5 ⟨rfl,v5,hB5,ha5,hf5,hb5⟩
    go_wp2
    go_roundw
    case rel =>
     refine⟨k+1,acc++[92,hexc (x.toNat / 16),hexc (x.toNat % 16)],v5,by omega,by go_num,?_,((hR'.step ha3 hf3).step ha4 hf4).step ha5 hf5,((hbr.trans hb3).trans hb4).trans hb5,by rw[← HD.out,HP.out];simp,by simp;omega⟩
     have e:Lib.byteCells (acc++[92,hexc (x.toNat / 16),hexc (x.toNat % 16)])=Lib.byteCells acc++[.int .u8 92]++[.int .u8 (hexc (x.toNat / 16)).toNat]++[.int .u8 (hexc (x.toNat % 16)).toNat]:=by
      rw[Lib.byteCells_append];simp[Lib.byteCells]
     rw[e]
     exact hB5
    case measure=>simp[intOf];omega
   ·have HP:Hid (q1 x=[x]):=by
     show q1 x=_
     simp[q1,hpl]
    go_wp2_with fail
    refine (Zak w.heap.size w.heap.size v _ _ _ hB (by rw[Lib.byteCells_length];omega) (by have:=hbr.size;omega)).mono ?_
    rintro e w3 ⟨rfl,v3,hB3,ha3,hf3,hb3⟩
    go_wp2
    go_roundw
    case rel=>exact⟨k+1,acc++[x],v3,by omega,by go_num,by rw[Lib.byteCells_append];exact hB3,hR'.step ha3 hf3,hbr.trans hb3,by rw[← HD.out,HP.out];simp,by simp;omega⟩
    case measure=>simp[intOf];omega
  ·have HD:Hid (acc=[34]++qbody l):=by
    have e:l.drop k=[]:=List.drop_eq_nil_of_le (by omega)
    rw[e] at hacc
    show acc=_
    simpa [qbody] using hacc
   clear hacc
   go_wp2_with fail
   refine (Zak w.heap.size w.heap.size v _ 34 _ hB (by rw[Lib.byteCells_length];omega) (by have:=hbr.size;omega)).mono ?_
   rintro e w3 ⟨rfl,v3,hB3,ha3,hf3,hb3⟩
   go_wp2_with fail
   have hB4:Bld 85 5 w.heap.size w.heap.size v3 (Lib.byteCells (acc++[34])) w3:=by rw[Lib.byteCells_append];exact hB3
   refine (Tryz.Builder_String_any_k w.heap.size w.heap.size _ _ hB4.isF (by have:=hbr.size;have:=hb3.size;omega)).mono ?_
   rintro e w4 ⟨rfl,_,hb4,_⟩
   go_wp2
   go_ret
   rw[HD.out]
   exact⟨rfl,(hbr.trans hb3).trans hb4⟩
end

section
open Ln Go.RowKit
end

section
open Ln Go.RowKit
def idxI (p:Mk→Bool):Nat→List Mk→Int
 | _,[]=>-1
 | k,m::l=>if p m=true then (k:Int) else idxI p (k+1) l
theorem Zew (p:Mk→Bool) (l:List Mk):∀ k,decide (0≤idxI p k l)=l.any p:=by
 induction l with
 | nil=>intro k;rfl
 | cons m l ih =>
  intro k
  rw[List.any_cons]
  by_cases h:p m=true
  ·have e:idxI p k (m::l)=(k:Int):=if_pos h
   rw[e,h]
   simp
  ·have e:idxI p k (m::l)=idxI p (k+1) l:=if_neg h
   rw[e,ih,Bool.eq_false_iff.2 h]
   rfl
theorem Zbr {m:Mk} {l:List Mk} (h:m.sg≠32):chgM (m::l)=m::chgM l∧rstM (m::l)=rstM l:=by
 have h1:(m.sg != 32)=true:=by simp[h]
 constructor
 ·simp only[chgM,List.takeWhile_cons,h1];rfl
 ·simp only[rstM,List.dropWhile_cons,h1];rfl
theorem Zbq {m:Mk} {l:List Mk} (h:m.sg=32):chgM (m::l)=[]∧rstM (m::l)=m::l:=by
 have h1:(m.sg != 32)=false:=by simp[h]
 constructor
 ·simp only[chgM,List.takeWhile_cons,h1];rfl
 ·simp only[rstM,List.dropWhile_cons,h1];rfl
theorem Zex (l:List Mk):∀ k,idxI (fun m=>m.sg == 32) k l=if rstM l=[] then -1 else (k:Int)+(chgM l).length:=by
 induction l with
 | nil=>intro k;rfl
 | cons m l ih =>
  intro k
  by_cases h:m.sg=32
  ·have e:idxI (fun m=>m.sg == 32) k (m::l)=(k:Int):=if_pos (by simp[h])
   rw[e,(Zbq h).1,(Zbq h).2,if_neg (by simp)]
   simp
  ·have e:idxI (fun m=>m.sg == 32) k (m::l)=idxI (fun m=>m.sg == 32) (k+1) l:=if_neg (by simp[h])
   rw[e,ih,(Zbr h).1,(Zbr h).2]
   by_cases hq:rstM l=[]
   ·rw[if_pos hq,if_pos hq]
   ·rw[if_neg hq,if_neg hq]
    simp only[List.length_cons];omega
theorem Zey {p:Mk→Bool} {l:List Mk} {k:Nat} (hk:k<l.length):idxI p k (l.drop k)=if p l[k]=true then (k:Int) else idxI p (k+1) (l.drop (k+1)):=by
 rw[List.drop_eq_getElem_cons hk]
 rfl
theorem ZaR (g:Nat) (cap:Array Value) (l:List Mk) (p:Mk→Bool) (v:Value) (w:World) (hv:HMk w v l) (hl:l.length≤1099511627776) (eg:∀ args w,(callFunc g args).run Tryz.prog w=.ok (.enter g args) w)
  (hf:Hid (∀ m∈l,∀ u:World,Below w.heap.size w u→Calls Tryz.prog g (#[.agg #[.int .u8 m.sg,.string ⟨m.tx.toArray⟩]]++cap) u fun e u'=>e=.returned (.bool (p m))∧Below u.heap.size u u')) (z:Int) (HR:Hid (idxI p 0 l=z)) :
  Calls Tryz.prog 298 #[v,.func (.func g) #[] cap] w fun e w'=>e=.returned (.int .i64 z)∧Below w.heap.size w w':=by
 obtain⟨lo,lc,rfl⟩:=HMk.form hv
 go_enter Tryz.func298,Tryz.ntmps298
 go_wp2
 go_loopw [5,8] (fun _ i wr=>∃ k:Nat,k≤l.length∧i=.int .i64 k∧Below w.heap.size w wr∧Hid (idxI p k (l.drop k)=z)) (fun _ i _=>l.length-(intOf i).toNat)
 case atStart=>exact⟨0,Nat.zero_le _,rfl,Below.refl _ _,HR⟩
 case round =>
  obtain⟨k,hk,rfl,hB,HI⟩:=hrel
  clear HR
  by_cases hlt:k<l.length
  ·obtain⟨b,off,rfl,hb,_⟩:=HMk.at hv (by omega)
   obtain⟨m,hm⟩:∃ m,l[k]=m:=⟨_,rfl⟩
   obtain⟨c0,c1⟩:=Low.mk hB hv k hlt hm
   have hc:=hf.out m (by rw[← hm];exact List.getElem_mem hlt) wr hB
   have i1:0≤(k:Int):=by omega
   have i2:(k:Int)<(l.length:Int):=by omega
   have HI2:Hid ((if p m=true then (k:Int) else idxI p (k+1) (l.drop (k+1)))=z):=(by
    have h:=HI.out
    rw[Zey hlt,hm] at h
    exact h)
   obtain⟨q,hq⟩:∃ q,p m=q:=⟨_,rfl⟩
   rw[hq] at hc HI2
   clear HI hm hq
   cases q with
   | true =>
    have HE:Hid ((k:Int)=z):=(by have h:=HI2.out;rw[if_pos rfl] at h;exact h)
    clear HI2
    go_wp2_with (go_at_fn g;refine hc.mono ?_;rintro e w' ⟨rfl,hB1⟩)
    go_ret
    exact⟨by rw[HE.out];rfl,hB.trans (hB1.mono hB.size)⟩
   | false =>
    have HE:Hid (idxI p (k+1) (l.drop (k+1))=z):=(by have h:=HI2.out;rw[if_neg (by decide)] at h;exact h)
    clear HI2
    go_wp2_with (go_at_fn g;refine hc.mono ?_;rintro e w' ⟨rfl,hB1⟩)
    exact⟨⟨k+1,by omega,by go_num,hB.trans (hB1.mono hB.size),HE⟩,by simp[intOf];omega⟩
  ·have HE:Hid (-1=z):=(by
    have h:=HI.out
    rw[List.drop_of_length_le (by omega)] at h
    exact h)
   clear HI
   have hend:decide ((k:Int)<(l.length:Int))=false:=decide_eq_false (by omega)
   go_wp2
   go_ret
   exact⟨by rw[HE.out];rfl,hB⟩
theorem ZaQ (g:Nat) (cap:Array Value) (l:List Mk) (p:Mk→Bool) (v:Value) (w:World) (hv:HMk w v l) (hl:l.length≤1099511627776) (eg:∀ args w,(callFunc g args).run Tryz.prog w=.ok (.enter g args) w)
  (hf:Hid (∀ m∈l,∀ u:World,Below w.heap.size w u→Calls Tryz.prog g (#[.agg #[.int .u8 m.sg,.string ⟨m.tx.toArray⟩]]++cap) u fun e u'=>e=.returned (.bool (p m))∧Below u.heap.size u u')) (r:Bool) (HR:Hid (l.any p=r)) :
  Calls Tryz.prog 245 #[v,.func (.func g) #[] cap] w fun e w'=>e=.returned (.bool r)∧Below w.heap.size w w':=by
 obtain⟨z,hz⟩:∃ z,idxI p 0 l=z:=⟨_,rfl⟩
 have HC:=ZaR g cap l p v w hv hl eg hf z hz
 have HZ:Hid (decide (0≤z)=r):=(by show _=_;rw[← hz,Zew];exact HR.out)
 clear hz HR
 obtain⟨lo,lc,rfl⟩:=HMk.form hv
 go_enter Tryz.func245,Tryz.ntmps245
 go_wp2_with fail
 refine HC.mono ?_
 rintro e w1 ⟨rfl,hB⟩
 go_wp2
 go_ret
 exact⟨by rw[HZ.out];rfl,hB⟩
theorem Zby (m:Mk) (w:World):Calls Tryz.prog 309 #[.agg #[.int .u8 m.sg,.string ⟨m.tx.toArray⟩]] w fun e w'=>e=.returned (.bool (m.sg == 32))∧Below w.heap.size w w':=by
 have hBl:Below w.heap.size w (w.alloc (.cells #[.int .u8 m.sg,.string ⟨m.tx.toArray⟩] 47)):=(Below.refl _ w).alloc (Nat.le_refl _) _
 go_enter Tryz.func309,Tryz.ntmps309
 go_wp2
 go_ret
 exact⟨rfl,hBl⟩
theorem Zbw (l:List Mk):l.take (chgM l).length=chgM l:=by
 have h:=Zbv l
 have h2:(chgM l++rstM l).take (chgM l).length=chgM l:=List.take_left
 rw[h] at h2
 exact h2
theorem Zbt (l:List Mk):(chgM l).length≤l.length:=by
 have h:=congrArg List.length (Zbv l)
 rw[List.length_append] at h
 omega
theorem ZjG {l:List Mk} (h:rstM l=[]):chgM l=l:=by
 have h1:=Zbv l
 rw[h,List.append_nil] at h1
 exact h1
def mslF (ao:Option Addr) (cap k:Nat):Option Addr:=if cap=k then ao else ao.map (·.add (k * 2))
theorem ZjL (ao:Option Addr) (n cap k:Nat) (hk:k≤n) (_:n≤cap) (u:World):(Instr.slice 43 (.slice ao n cap) (some (.int .i64 (k:Int))) none none).run Tryz.prog u=.ok (.slice (mslF ao cap k) (n-k) (cap-k)) u:=by
 rw[run_slice_l (P:=Tryz.prog) u 43 ao n cap (by kernel_rfl) .i64 k (by omega) (by omega)]
 have:(sizeOf (Tryz.prog.elem 43)).run Tryz.prog u=.ok 2 u:=by kernel_rfl
 rw[this]
 simp[Result.andThen,sliced,mslF]
theorem ZfQ (ad:Addr):ad.add 0=ad:=by unfold Addr.add;split<;>simp_all
theorem ZjM (ao:Option Addr) (n cap k:Nat) (hk:k≤n) (hn:n≤cap) (u:World):(Instr.slice 43 (.slice ao n cap) none (some (.int .i64 (k:Int))) none).run Tryz.prog u=.ok (.slice ao k cap) u:=by
 rw[run_slice_h (P:=Tryz.prog) u 43 ao n cap (by kernel_rfl) .i64 k (by omega) (by omega)]
 have:(sizeOf (Tryz.prog.elem 43)).run Tryz.prog u=.ok 2 u:=by kernel_rfl
 rw[this]
 cases ao with
 | none=>simp[Result.andThen,sliced]
 | some ad=>simp[Result.andThen,sliced,ZfQ]
theorem Zgb {w:World} {ao:Option Addr} {n c:Nat} {xs:List Value} (h:Holds w (.slice ao n c) n xs):n≤c:=by
 rcases h with ⟨h,h0,_⟩ | ⟨ad,c',h,h3,_⟩
 ·omega
 ·cases h;exact h3
theorem Zgr (l:List Mk) (k:Nat):(mkcells l).take (k * 2)=mkcells (l.take k):=by
 induction k generalizing l with
 | zero=>simp[mkcells]
 | succ k ih =>
  cases l with
  | nil=>simp[mkcells]
  | cons m l =>
   have e:(k+1) * 2=k * 2+1+1:=by omega
   have h1:mkcells (m::l)=.int .u8 m.sg::.string ⟨m.tx.toArray⟩::mkcells l:=rfl
   have h2:mkcells ((m::l).take (k+1))=.int .u8 m.sg::.string ⟨m.tx.toArray⟩::mkcells (l.take k):=rfl
   rw[e,h1,h2,List.take_succ_cons,List.take_succ_cons,ih]
theorem Zgn (l:List Mk) (k:Nat):(mkcells l).drop (k * 2)=mkcells (l.drop k):=by
 induction k generalizing l with
 | zero=>simp
 | succ k ih =>
  cases l with
  | nil=>simp[mkcells]
  | cons m l =>
   have e:(k+1) * 2=k * 2+1+1:=by omega
   have h1:mkcells (m::l)=.int .u8 m.sg::.string ⟨m.tx.toArray⟩::mkcells l:=rfl
   rw[e,h1,List.drop_succ_cons,List.drop_succ_cons,ih]
   rfl
theorem Zgk {w:World} {ao:Option Addr} {c:Nat} {l:List Mk} (h:HMk w (.slice ao l.length c) l) (k:Nat) (hk:k≤l.length):HMk w (.slice ao k c) (l.take k):=by
 have hlt:(l.take k).length=k:=by rw[List.length_take];omega
 unfold HMk at h ⊢
 rw[hlt]
 rcases h with ⟨h,h0,h4⟩ | ⟨ad,c',h,h3,hc⟩
 ·have hl0:l=[]:=List.eq_nil_of_length_eq_zero h0
  subst hl0
  cases h
  have hk0:k=0:=by simpa using hk
  subst hk0
  exact .inl ⟨by simp,rfl,by simp[mkcells]⟩
 ·cases h
  refine .inr ⟨ad,c,rfl,by omega,fun j v hj=>hc j v ?_⟩
  rw[← Zgr] at hj
  by_cases hjk:j<k * 2
  ·rw[List.getElem?_take_of_lt hjk] at hj
   exact hj
  ·rw[List.getElem?_eq_none (by simp;omega)] at hj
   cases hj
theorem Zgf {w:World} {ao:Option Addr} {c:Nat} {l:List Mk} (h:HMk w (.slice ao l.length c) l) (k:Nat) (hk:k≤l.length):HMk w (.slice (mslF ao c k) (l.length-k) (c-k)) (l.drop k):=by
 have hlt:(l.drop k).length=l.length-k:=by rw[List.length_drop]
 have hnc:=Zgb h
 unfold HMk at h ⊢
 rw[hlt]
 rcases h with ⟨h,h0,h4⟩ | ⟨ad,c',h,h3,hc⟩
 ·have hl0:l=[]:=List.eq_nil_of_length_eq_zero h0
  subst hl0
  cases h
  have hk0:k=0:=by simpa using hk
  subst hk0
  exact .inl ⟨by simp[mslF],rfl,by simp[mkcells]⟩
 ·cases h
  refine .inr ⟨if c=k then ad else ad.add (k * 2),c-k,by unfold mslF;split<;>simp,by omega,fun j v hj=>?_⟩
  rw[← Zgn,List.getElem?_drop] at hj
  have hlt2:=(List.getElem?_eq_some_iff.1 hj).1
  rw[Zgo] at hlt2
  rw[if_neg (by omega)]
  have h0:=hc 0 _ (List.getElem?_eq_getElem (by rw[Zgo];omega))
  obtain⟨b,off,rfl⟩:=Zap h0
  have:=hc _ _ hj
  rw[Zao] at this
  rw[Zao,Zao,Nat.add_assoc]
  exact this
theorem ZbX (l:List Mk) (ao:Option Addr) (c:Nat) (w:World) (hv:HMk w (.slice ao l.length c) l) (hl:l.length≤1099511627776) (n:Nat) (HN:Hid ((chgM l).length=n)) :
  Calls Tryz.prog 264 #[.slice ao l.length c] w fun e w'=>e=.returned (.slice ao n c)∧Below w.heap.size w w':=by
 have hnc:=Zgb hv
 have hle:=Zbt l
 rw[HN.out] at hle
 have hc:=fun z HZ=>ZaR 309 #[] l (fun m=>m.sg == 32) (.slice ao l.length c) w hv hl (enters_of Tryz.func309 (by kernel_rfl) rfl) (fun m _ u _=>Zby m u) z HZ
 by_cases hr:rstM l=[]
 ·have HE:Hid (l.length=n):=(by show _=_;rw[← HN.out,ZjG hr])
  have hc1:=hc (-1) (by show _=_;rw[Zex,if_pos hr])
  clear HN hr hc hv
  go_enter Tryz.func264,Tryz.ntmps264
  go_wp2_with fail
  refine hc1.mono ?_
  rintro e w1 ⟨rfl,hB⟩
  go_wp2
  go_ret
  exact⟨by rw[HE.out];rfl,hB⟩
 ·have hc1:=hc (n:Int) (by show _=_;rw[Zex,if_neg hr,HN.out];simp)
  have hs:=ZjM ao l.length c n hle hnc
  have i1:(0:Int)≤(n:Int):=by omega
  have i2:(n:Int)≤(l.length:Int):=by omega
  have i3:(n:Int)≤(c:Int):=by omega
  clear HN hr hc hv
  go_enter Tryz.func264,Tryz.ntmps264
  go_wp2_with fail
  refine hc1.mono ?_
  rintro e w1 ⟨rfl,hB⟩
  go_wp2
  go_ret
  exact⟨rfl,hB⟩
end

section
open Go.RowKit
attribute [local go_sem] ByteArray.extract_mk
def oddI (r:Int):Bool:=decide (r<33) || decide (126<r) || decide (r=34)
theorem Zbz (r:Int) (w:World) (q:Bool) (HQ:Hid (oddI r=q)):Calls Tryz.prog 216 #[.int .i32 r] w fun e w'=>e=.returned (.bool q)∧w=w':=by
 by_cases h1:r<33
 ·have HE:Hid (true=q):=(by show _=_;rw[← HQ.out];simp[oddI,h1])
  go_enter Tryz.func216,Tryz.ntmps216
  go_wp2
  go_ret
  exact⟨by rw[← HE.out];rfl,rfl⟩
 ·by_cases h2:126<r
  ·have HE:Hid (true=q):=(by show _=_;rw[← HQ.out];simp[oddI,h2])
   go_enter Tryz.func216,Tryz.ntmps216
   go_wp2
   go_ret
   exact⟨by rw[← HE.out];rfl,rfl⟩
  ·have HE:Hid ((r == 34)=q):=(by show _=_;rw[← HQ.out];simp only[oddI,h1,h2,decide_false,Bool.false_or];rfl)
   go_enter Tryz.func216,Tryz.ntmps216
   go_wp2
   go_ret
   exact⟨by rw[← HE.out];rfl,rfl⟩
theorem Zhu (c:UInt8):oddI (c.toNat:Int)=!nameC c:=by
 unfold oddI nameC
 rw[Bool.eq_iff_iff]
 simp only[Bool.or_eq_true,decide_eq_true_eq,Bool.not_eq_true',decide_eq_false_iff_not]
 omega
def oddW:Nat→List UInt8→Int
 | _,[]=>-1
 | k,c::l=>if nameC c=true then oddW (k+1) l else (k:Int)
theorem Zhs (l:List UInt8):∀ k,decide (0≤oddW k l)=!l.all nameC:=by
 induction l with
 | nil=>intro k;rfl
 | cons c l ih =>
  intro k
  rw[List.all_cons]
  by_cases h:nameC c=true
  ·have e:oddW k (c::l)=oddW (k+1) l:=if_pos h
   rw[e,ih,h]
   rfl
  ·have e:oddW k (c::l)=(k:Int):=if_neg h
   rw[e,Bool.eq_false_iff.2 h]
   simp
theorem Zht {l:List UInt8} {k:Nat} (hk:k<l.length):oddW k (l.drop k)=if nameC l[k]=true then oddW (k+1) (l.drop (k+1)) else (k:Int):=by
 rw[List.drop_eq_getElem_cons hk]
 rfl
theorem Zbx (l:List UInt8) (w:World) (_hl:l.length≤1099511627776) (z:Int) (HZ:Hid (oddW 0 l=z)) :
  Calls Tryz.prog 314 #[.string ⟨l.toArray⟩,.func (.func 216) #[] #[],.bool true] w fun e w'=>e=.returned (.int .i64 z)∧Below w.heap.size w w':=by
 go_enter Tryz.func314,Tryz.ntmps314
 go_wp2
 go_loopw [] (fun wr=>∃ pos:Nat,pos≤l.length∧wr.heap[w.heap.size]?=some (.stringIter ⟨l.toArray⟩ pos)∧Below w.heap.size w wr∧Hid (oddW pos (l.drop pos)=z)) (fun wr=>l.length-wr.iterPos w.heap.size)
 case atStart=>exact⟨0,Nat.zero_le _,World.iter_heap w _ 0,(Below.refl _ w).alloc (Nat.le_refl _) _,HZ⟩
 case round =>
  obtain⟨pos,hp,hit,hbr,HA⟩:=hrel
  have hwl:w.heap.size<wr.heap.size:=(Array.getElem?_eq_some_iff.1 hit).1
  by_cases hlt:pos<l.length
  ·have HS:=HA.out
   rw[Zht hlt] at HS
   by_cases ha:l[pos].toNat<128
   ·have hnx:∀ ty,(Instr.next (.pointer (some ⟨w.heap.size,0,none⟩)) true ty).run Tryz.prog wr=_:=fun ty=>Lib.run_next_ascii_at wr w.heap.size ⟨l.toArray⟩ pos ty hit hlt ha
    have hit2:=Lib.iterAt_heap wr w.heap.size ⟨l.toArray⟩ pos (pos+1) hit
    have hbr2:=Lib.below_iterAt hbr (k:=w.heap.size) (Nat.le_refl _) ⟨l.toArray⟩ (pos+1)
    cases hn:nameC l[pos] with
    | true =>
     have HI:Hid (oddW (pos+1) (l.drop (pos+1))=z):=(by rw[hn,if_pos rfl] at HS;exact HS)
     have hc:=fun u=>Zbz (l[pos].toNat:Int) u false (by show _=_;rw[Zhu,hn];rfl)
     clear HS hn HA
     go_wp2_with fail
     refine (hc _).mono ?_
     rintro e w4 ⟨rfl,rfl⟩
     go_wp2
     go_roundw
     case rel=>exact⟨pos+1,by omega,hit2,hbr2,HI⟩
     case measure=>simp only[World.iterPos,hit,hit2];omega
    | false =>
     have HE:Hid ((pos:Int)=z):=(by rw[hn,if_neg (by decide)] at HS;exact HS)
     have hc:=fun u=>Zbz (l[pos].toNat:Int) u true (by show _=_;rw[Zhu,hn];rfl)
     clear HS hn HA
     go_wp2_with fail
     refine (hc _).mono ?_
     rintro e w4 ⟨rfl,rfl⟩
     go_wp2
     go_ret
     exact⟨by rw[HE.out];rfl,hbr2⟩
   ·have hdh:=(decode_high ⟨l.toArray⟩ pos hlt (by show 128≤l[pos].toNat;omega))
    have hnx:∀ ty,(Instr.next (.pointer (some ⟨w.heap.size,0,none⟩)) true ty).run Tryz.prog wr=_:=fun ty=>Lib.run_next_any_at wr w.heap.size ⟨l.toArray⟩ pos ty hit hlt
    have hbr2:=Lib.below_iterAt hbr (k:=w.heap.size) (Nat.le_refl _) ⟨l.toArray⟩ (pos+(Utf8.decode ⟨l.toArray⟩ pos).2)
    have hdl:=decode_le ⟨l.toArray⟩ pos
    have HE:Hid ((pos:Int)=z):=(by
     have hn:nameC l[pos]=false:=(by unfold nameC;exact decide_eq_false (by omega))
     rw[hn,if_neg (by decide)] at HS
     exact HS)
    obtain⟨hd1,hd2⟩:=hdh
    generalize Utf8.decode ⟨l.toArray⟩ pos=dd at *
    have hc:=fun u=>Zbz (dd.1:Int) u true (by
     show _=_
     unfold oddI
     have:decide (126<(dd.1:Int))=true:=decide_eq_true (by omega)
     rw[this]
     simp)
    clear HS HA
    go_wp2_with fail
    refine (hc _).mono ?_
    rintro e w4 ⟨rfl,rfl⟩
    go_wp2
    go_ret
    exact⟨by rw[HE.out];rfl,hbr2⟩
  ·have hnx:∀ ty,(Instr.next (.pointer (some ⟨w.heap.size,0,none⟩)) true ty).run Tryz.prog wr=_:=fun ty=>Lib.run_next_end_at wr w.heap.size ⟨l.toArray⟩ pos ty hit hlt
   have HE:Hid (-1=z):=(by
    have h:=HA.out
    rw[List.drop_of_length_le (by omega)] at h
    exact h)
   clear HA
   go_wp2
   go_ret
   exact⟨by rw[HE.out];rfl,hbr⟩
theorem ZaS (l:List UInt8) (w:World) (hl:l.length≤1099511627776) (z:Int) (HZ:Hid (oddW 0 l=z)) :
  Calls Tryz.prog 262 #[.string ⟨l.toArray⟩,.func (.func 216) #[] #[]] w fun e w'=>e=.returned (.int .i64 z)∧Below w.heap.size w w':=by
 go_enter Tryz.func262,Tryz.ntmps262
 go_wp2_with fail
 refine (Zbx l w hl z HZ).mono ?_
 rintro e w1 ⟨rfl,hB⟩
 go_wp2
 go_ret
 exact⟨rfl,hB⟩
theorem ZaP (l:List UInt8) (w:World) (hl:l.length≤1099511627776) (q:Bool) (HQ:Hid ((!l.all nameC)=q)) :
  Calls Tryz.prog 215 #[.string ⟨l.toArray⟩,.func (.func 216) #[] #[]] w fun e w'=>e=.returned (.bool q)∧Below w.heap.size w w':=by
 obtain⟨z,hz⟩:∃ z,oddW 0 l=z:=⟨_,rfl⟩
 have HC:=ZaS l w hl z hz
 have HZ:Hid (decide (0≤z)=q):=(by show _=_;rw[← hz,Zhs];exact HQ.out)
 clear hz HQ
 go_enter Tryz.func215,Tryz.ntmps215
 go_wp2_with fail
 refine HC.mono ?_
 rintro e w1 ⟨rfl,hB⟩
 go_wp2
 go_ret
 exact⟨by rw[HZ.out];rfl,hB⟩
theorem ZbJ (l:List UInt8) (w:World) (hl:l.length≤1099511627776) (t:List UInt8) (HT:Hid (nameT l=t)) :
  Calls Tryz.prog 177 #[.string ⟨l.toArray⟩] w fun e w'=>e=.returned (.string ⟨t.toArray⟩)∧Below w.heap.size w w':=by
 by_cases h0:l=[]
 ·have HE:Hid (devN=t):=(by have h:=HT.out;unfold nameT at h;rw[if_pos h0] at h;exact h)
  subst h0
  go_enter Tryz.func177,Tryz.ntmps177
  go_wp2
  go_ret
  exact⟨by rw[← HE.out];rfl,Below.refl _ _⟩
 ·have e0:l.isEmpty=false:=(by cases l with | nil=>exact absurd rfl h0 | cons _ _=>rfl)
  have hq:=Zaf l
  by_cases h1:l=devN
  ·have HE:Hid (Q.quote l=t):=(by have h:=HT.out;unfold nameT at h;rw[if_neg h0,if_neg (fun q=>q.2 h1)] at h;exact h)
   have e1:(l == [47,100,101,118,47,110,117,108,108])=true:=(by rw[beq_iff_eq];exact h1)
   clear HT h1
   go_enter Tryz.func177,Tryz.ntmps177
   go_wp2_with fail
   refine (hq _ hl).mono ?_
   rintro e w1 ⟨rfl,hB⟩
   go_wp2
   go_ret
   exact⟨by rw[← HE.out];rfl,hB⟩
  ·have e1:(l == [47,100,101,118,47,110,117,108,108])=false:=beq_eq_false_iff_ne.2 h1
   cases hn:l.all nameC with
   | true =>
    have HE:Hid (l=t):=(by have h:=HT.out;unfold nameT at h;rw[if_neg h0,if_pos ⟨hn,h1⟩] at h;exact h)
    have hc:=fun u=>ZaP l u hl false (by show _=_;rw[hn];rfl)
    clear HT h1 hn
    go_enter Tryz.func177,Tryz.ntmps177
    go_wp2_with fail
    refine (hc _).mono ?_
    rintro e w1 ⟨rfl,hB⟩
    go_wp2
    go_ret
    exact⟨by rw[← HE.out];rfl,hB⟩
   | false =>
    have HE:Hid (Q.quote l=t):=(by have h:=HT.out;unfold nameT at h;rw[if_neg h0,if_neg (fun q=>by rw[hn] at q;cases q.1)] at h;exact h)
    have hc:=fun u=>ZaP l u hl true (by show _=_;rw[hn];rfl)
    clear HT h1 hn
    go_enter Tryz.func177,Tryz.ntmps177
    go_wp2_with fail
    refine (hc _).mono ?_
    rintro e w1 ⟨rfl,hB⟩
    go_wp2_with fail
    refine (hq _ hl).mono ?_
    rintro e w2 ⟨rfl,hB2⟩
    go_wp2
    go_ret
    exact⟨by rw[← HE.out];rfl,hB.trans (hB2.mono hB.size)⟩
end

section
open Q Go.RowKit Go.Proofs.YtcniomgjikienaaGreatDoor.Tx
attribute [local go_sem] ZaB Zea
theorem ZeB (x:UInt8):Lib.indexByte [48,49,50,51,52,53,54,55,56,57,97,98,99,100,101,102] x=digitI x.toNat:=by
 have key:∀ i:Fin 256,Lib.indexByte [48,49,50,51,52,53,54,55,56,57,97,98,99,100,101,102] (UInt8.ofNat i.val)=digitI (i.val:Int):=by decide +kernel
 have:=key ⟨x.toNat,x.toNat_lt⟩
 simpa using this
theorem Zac (x:UInt8) (w:World) :
  Calls Tryz.prog 347 #[.string ⟨#[48,49,50,51,52,53,54,55,56,57,97,98,99,100,101,102]⟩,.int .u8 (x.toNat:Int)] w fun e w'=>e=.returned (.int .i64 (digitI x.toNat))∧w'=w:=by
 have h:=Tryz.strings_IndexByte ⟨#[48,49,50,51,52,53,54,55,56,57,97,98,99,100,101,102]⟩ (x.toNat:Int) w
 refine h.mono ?_
 rintro e w' ⟨rfl,rfl⟩
 have e:((x.toNat:Int).toNat).toUInt8=x:=by simp
 rw[e,← ZeB]
 exact⟨rfl,rfl⟩
theorem ZhA (x y:Int) (h0:0≤x) (h1:x≤15) (h2:0≤y) (h3:y≤15):bits BinOp.or IntKind.i64 (x * 16) y % 256=16 * x+y:=by
 have key:∀ i j:Fin 16,bits BinOp.or IntKind.i64 ((i.val:Int) * 16) (j.val:Int) % 256=16 * (i.val:Int)+(j.val:Int):=by decide +kernel
 have:=key ⟨x.toNat,by omega⟩ ⟨y.toNat,by omega⟩
 simp only[Int.toNat_of_nonneg h0,Int.toNat_of_nonneg h2] at this
 exact this
theorem ZiV (a b:UInt8) (t:List UInt8) (w:World) :
  Calls Tryz.prog 336 #[.string ⟨((92:UInt8)::a::b::t).toArray⟩] w fun e w'=>e=.returned (.tuple #[.int .u8 (pv a b),.int .i64 (pn a b)])∧∃ n,w'=w.drewN n:=by
 have hp:plainI 92=false:=by decide
 obtain⟨ha,ha'⟩:=ZcK a.toNat
 obtain⟨hb,hb'⟩:=ZcK b.toNat
 go_enter Tryz.func336,Tryz.ntmps336
 go_wp2_with fail
 refine (ZeU _ _).mono ?_
 rintro e w' ⟨rfl,rfl⟩
 go_wp2_with fail
 go_quiet ((go_at_call 347;exact Calls.quiet_of_same (Zac _ _)))
 by_cases h1:digitI a.toNat<0
 ·go_wp2
  go_ret2
  exact⟨Zjo (ZiL (ZhW h1)) (Ziz (ZhW h1)),_,rfl⟩
 ·by_cases h2:digitI b.toNat<0
  ·go_wp2
   go_ret2
   exact⟨Zjo (ZiL (ZhV h2)) (Ziz (ZhV h2)),_,rfl⟩
  ·go_wp2_with fail
   rw[ZhA _ _ (by omega) ha' (by omega) hb']
   refine (ZeU _ _).mono ?_
   rintro e w' ⟨rfl,rfl⟩
   have hm:=ZhX (a:=a) (b:=b) (by omega) (by omega)
   have HM:Hid (pairOk a b=!plainI (16 * digitI a.toNat+digitI b.toNat)):=hm
   clear hm
   cases hpl:plainI (16 * digitI a.toNat+digitI b.toNat)
   ·go_wp2
    go_ret2
    have hk:pairOk a b=true:=by rw[HM.out,hpl];rfl
    exact⟨Zjo (ZiM hk) (ZiA hk),_,rfl⟩
   ·go_wp2
    go_ret2
    have hk:pairOk a b=false:=by rw[HM.out,hpl];rfl
    exact⟨Zjo (ZiL hk) (Ziz hk),_,rfl⟩
theorem ZiU (c:UInt8) (t:List UInt8) (w:World) (h:plainI c.toNat=true) :
  Calls Tryz.prog 336 #[.string ⟨(c::t).toArray⟩] w fun e w'=>e=.returned (.tuple #[.int .u8 (c.toNat:Int),.int .i64 1])∧∃ n,w'=w.drewN n:=by
 go_enter Tryz.func336,Tryz.ntmps336
 go_wp2_with fail
 refine (ZeU _ _).mono ?_
 rintro e w' ⟨rfl,rfl⟩
 go_wp2
 go_ret2
 exact⟨rfl,0,rfl⟩
theorem ZiT (c:UInt8) (t:List UInt8) (w:World) (h:plainI c.toNat=false) (h2:¬ (c.toNat=92∧2≤t.length)) :
  Calls Tryz.prog 336 #[.string ⟨(c::t).toArray⟩] w fun e w'=>e=.returned (.tuple #[.int .u8 0,.int .i64 0])∧∃ n,w'=w.drewN n:=by
 by_cases h3:c.toNat=92
 ·have hb:((c.toNat:Int) != 92)=false:=by simp;omega
  have hl:((t.length:Int)+1<3):=by omega
  clear h2
  go_enter Tryz.func336,Tryz.ntmps336
  go_wp2_with fail
  refine (ZeU _ _).mono ?_
  rintro e w' ⟨rfl,rfl⟩
  go_wp2
  go_ret2
  exact⟨rfl,0,rfl⟩
 ·have hb:((c.toNat:Int) != 92)=true:=by simp;omega
  clear h2
  go_enter Tryz.func336,Tryz.ntmps336
  go_wp2_with fail
  refine (ZeU _ _).mono ?_
  rintro e w' ⟨rfl,rfl⟩
  go_wp2
  go_ret2
  exact⟨rfl,0,rfl⟩
end

section
open Q Go.RowKit Go.Proofs.YtcniomgjikienaaGreatDoor.Tx
attribute [local go_sem] ZaB ByteArray.extract_mk
def sizeS:Value→Nat
 | .string s=>s.data.size
 | _=>0
theorem Zjp {l a b:List UInt8} {n:Int} (h:uqa l=a∧uqb l=b∧uqe l=n):Ending.returned (.tuple #[.string ⟨a.toArray⟩,.string ⟨b.toArray⟩,.int .i64 n])=.returned (.tuple #[.string ⟨(uqa l).toArray⟩,.string ⟨(uqb l).toArray⟩,.int .i64 (uqe l)]):=by
 rw[h.1,h.2.1,h.2.2]
theorem Zaj (l:List UInt8) (w:World) (hl:l.length≤1099511627776) :
  Calls Tryz.prog 301 #[.string ⟨((34:UInt8)::l).toArray⟩] w fun e w'=>e=.returned (.tuple #[.string ⟨(uqa (34::l)).toArray⟩,.string ⟨(uqb (34::l)).toArray⟩,.int .i64 (uqe (34::l))])∧Below w.heap.size w w':=by
 have HU:Hid (unquote (34::l)=body l):=by show unquote (34::l)=body l;simp[unquote]
 go_enter Tryz.func301,Tryz.ntmps301
 go_wp2
 go_loopw [6] (fun rest wr=>∃ (r acc:List UInt8) (v:Value),rest=.string ⟨r.toArray⟩∧Bld 85 5 w.heap.size w.heap.size v (Lib.byteCells acc) wr∧Below w.heap.size w wr∧body l=(body r).map (fun p=>(acc++p.1,p.2))∧acc.length+r.length≤l.length) (fun rest _=>sizeS rest)
 case atStart=>exact⟨l,[],_,rfl,Bld.fresh 85 5 w,(Below.refl _ w).alloc (Nat.le_refl _) _,by simp,by simp⟩
 case round =>
  obtain⟨r,acc,v,rfl,hB,hbr,hbody,hal⟩:=hrel
  have HB:Hid (body l=(body r).map (fun p=>(acc++p.1,p.2))):=hbody
  clear hbody
  match r,hal,HB with
  | [],hal,HB =>
   go_wp2
   go_ret3
   exact⟨Zjp (uq_none (by rw[HU.out,HB.out];rfl)),hbr⟩
  | c::t,hal,HB =>
   have hc:=c.toNat_lt
   by_cases h34:c.toNat=34
   ·have hb:((c.toNat:Int) != 34)=false:=by simp;omega
    have HE:Hid (unquote (34::l)=some (acc,t)):=by
     show unquote (34::l)=some (acc,t)
     rw[HU.out,HB.out,ZaF t h34];simp
    clear h34
    have hI:Lib.IsBuilderF 85 5 w.heap.size w.heap.size (Lib.byteCells acc) wr.drew:=hB.isF
    have hsz:w.heap.size≤wr.drew.heap.size:=hbr.size
    go_wp2_with fail
    go_region_with (go_at_call 40;refine (Tryz.Builder_String_any_k w.heap.size w.heap.size acc _ hI hsz).mono ?_;rintro e w4 ⟨rfl,_,hb4,_⟩)
    all_goals
     go_wp2
     go_ret3
     exact⟨Zjp (uq_some HE.out),hbr.drew.trans hb4⟩
   ·have hb:((c.toNat:Int) != 34)=true:=by simp;omega
    cases hpl:plainI c.toNat
    ·by_cases h92:c.toNat=92∧2≤t.length
     ·match t,hal,HB,h92 with
      | a::b::t,hal,HB,⟨h92,_⟩ =>
       obtain rfl:c=92:=UInt8.toNat_inj.1 h92
       cases hk:pairOk a b
       ·have HE:Hid (unquote (34::l)=none):=by
         show unquote (34::l)=none
         rw[HU.out,HB.out,ZaJ t h92 hk];rfl
        have h1:pv a b=0:=(ZiL hk).symm
        have h2:pn a b=0:=(Ziz hk).symm
        go_wp2_with fail
        refine (ZiV a b t _).mono ?_
        rintro e w4 ⟨rfl,nq,rfl⟩
        go_wp2
        go_ret3
        exact⟨Zjp (uq_none HE.out),below_drewN hbr nq⟩
       ·have HE:Hid (body l=(body t).map (fun p=>(acc++[UInt8.ofNat (pairI a b).toNat]++p.1,p.2))):=by
         show body l=_
         rw[HB.out,ZaI t h92 hk];simp[Function.comp_def]
        have h2:pn a b=3:=(ZiA hk).symm
        have hpb:=ZhU hk
        have HV:Hid (pv a b=((UInt8.ofNat (pairI a b).toNat).toNat:Int)):=by
         show pv a b=_
         rw[← ZiM hk]
         simp only[UInt8.toNat_ofNat']
         omega
        clear hpb
        go_wp2_with fail
        refine (ZiV a b t _).mono ?_
        rintro e w4 ⟨rfl,nq,rfl⟩
        go_wp2_with fail
        rw[HV.out]
        refine (Zak w.heap.size w.heap.size v _ _ _ (Bld.drewN hB nq) (by rw[Lib.byteCells_length];omega) hbr.size).mono ?_
        rintro e w5 ⟨rfl,v5,hB5,_,_,hb5⟩
        go_wp2
        go_roundw
        case rel=>exact⟨t,acc++[UInt8.ofNat (pairI a b).toNat],v5,rfl,by rw[ZaM];exact hB5,(below_drewN hbr nq).trans hb5,HE.out,by simp at hal ⊢;omega⟩
        case measure=>first | (simp[sizeS];done) | (simp[sizeS];omega)
     ·have HE:Hid (unquote (34::l)=none):=by
       show unquote (34::l)=none
       rw[HU.out,HB.out,ZaH t h34 hpl h92];rfl
      go_wp2_with fail
      refine (ZiT c t _ hpl h92).mono ?_
      rintro e w4 ⟨rfl,nq,rfl⟩
      go_wp2
      go_ret3
      exact⟨Zjp (uq_none HE.out),below_drewN hbr nq⟩
    ·have HE:Hid (body l=(body t).map (fun p=>(acc++[c]++p.1,p.2))):=by
      show body l=_
      rw[HB.out,ZaK t hpl];simp[Function.comp_def]
     go_wp2_with fail
     refine (ZiU c t _ hpl).mono ?_
     rintro e w4 ⟨rfl,nq,rfl⟩
     go_wp2_with fail
     refine (Zak w.heap.size w.heap.size v _ _ _ (Bld.drewN hB nq) (by rw[Lib.byteCells_length];simp at hal;omega) hbr.size).mono ?_
     rintro e w5 ⟨rfl,v5,hB5,_,_,hb5⟩
     go_wp2
     go_roundw
     case rel=>exact⟨t,acc++[c],v5,rfl,by rw[ZaM];exact hB5,(below_drewN hbr nq).trans hb5,HE.out,by simp at hal ⊢;omega⟩
     case measure=>first | (simp[sizeS];done) | (simp[sizeS];omega)
theorem Zai (l:List UInt8) (w:World) (hl:l.length≤1099511627776) :
  Calls Tryz.prog 301 #[.string ⟨l.toArray⟩] w fun e w'=>e=.returned (.tuple #[.string ⟨(uqa l).toArray⟩,.string ⟨(uqb l).toArray⟩,.int .i64 (uqe l)])∧Below w.heap.size w w':=by
 match l,hl with
 | [],_ =>
  go_enter Tryz.func301,Tryz.ntmps301
  go_wp2
  go_ret3
  exact⟨Zjp (uq_none rfl),Below.refl _ _⟩
 | c::t,hl =>
  by_cases h:c.toNat=34
  ·obtain rfl:c=34:=UInt8.toNat_inj.1 h
   exact Zaj t w (by simp at hl;omega)
  ·have hb:((c.toNat:Int) != 34)=true:=by simp;omega
   have HU:Hid (unquote (c::t)=none):=by show unquote (c::t)=none;simp[unquote,h]
   clear h
   go_enter Tryz.func301,Tryz.ntmps301
   go_wp2
   go_ret3
   exact⟨Zjp (uq_none HU.out),Below.refl _ _⟩
end

end Go.Proofs.YtcniomgjikienaaGreatDoor
