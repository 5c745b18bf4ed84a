/-
  Texts that belong together, joined: NcP, NoRd, NoPk, NoMk, NpE, NoM4, NpM, NpF, NpG, NpH, NpI, NoPs, NpN.
-/
import Derived.Test.YtgiojkhmkeocfaaGreatDoorNoalBA13
import Derived.Test.YtgiojkhmkeocfaaGreatDoorNoalBA4
import Derived.Test.YtgiojkhmkeocfaaGreatDoorNoalBA3
import Derived.Deep.CutBlock
import Derived.Deep.RegionHeld3
import Derived.WalkLawsBesides
import Derived.Lib.OthersKept
import Derived.Laws.RangeAny

set_option maxHeartbeats 16000000
set_option maxRecDepth 100000
/- The code's Print of the normal form, walked. -/
namespace Go.Proofs.YtgiojkhmkeocfaaGreatDoor
open Go.RowKit
theorem exec_addS {u:World} {x y:List UInt8} (h:Fits x y) {op:Oper} (p q:Operand) (ho:op.op=.binOp .add 9 p q 9) {ev:Operand→Value} (hx:ev p=.string ⟨x.toArray⟩) (hy:ev q=.string ⟨y.toArray⟩) :
  (execOp ev op).run Tryz.prog u=.ok (.value (.string ⟨(x++y).toArray⟩)) u:=by
 have h1:=add_fits h Tryz.prog u
 simp only[execOp,ho,hx,hy]
 go_simp
theorem others_low {e:TypeId} {b:Option Nat} {w u:World} (h:Below w.heap.size w u):Lib.OthersKept e b w u:=fun k _ hk _ _=>(h.block k (Array.getElem?_eq_some_iff.1 hk).1).trans hk
theorem rgx_rng {p n:Int} (h:1≤n):rgx (p+1) n=rngT p n:=by
 unfold rgx rngT
 by_cases h1:n=1
 ·rw[if_pos (by omega),if_pos h1]
 ·rw[if_neg (by omega),if_neg h1]
  have e:p+1+n-1=p+n:=by omega
  rw[e]
theorem cmd_code {c:Ch} (hn:numB c=true):rgx (noA c.A c.AN) c.AN++ltrT c.AN c.BN++rgx (noA c.B c.BN) c.BN=cmdT c:=by
 have h:=(numB_iff c).1 hn
 unfold ltrT cmdT noA
 by_cases h1:c.AN=0
 ·have e1:rgx c.A c.AN=Lib.itoa c.A:=by unfold rgx;rw[if_pos (by omega)]
  rw[if_pos h1,if_pos h1,if_neg (by omega),if_pos (by omega),rgx_rng (by omega),e1]
  simp
 ·rw[if_neg h1,if_neg h1,if_pos (by omega),rgx_rng (by omega)]
  by_cases h2:c.BN=0
  ·have e1:rgx c.B c.BN=Lib.itoa c.B:=by unfold rgx;rw[if_pos (by omega)]
   rw[if_pos h2,if_pos h2,if_neg (by omega),e1]
   simp
  ·rw[if_neg h2,if_neg h2,if_pos (by omega),rgx_rng (by omega)]
   simp
theorem zero_old (X Y:List (List UInt8)):pkL 43 (mks 45 X++mks 43 Y)=X:=by
 rw[pkL_append,npk_mks,npk_mks,if_pos (by decide),if_neg (by decide)]
 simp
theorem zero_new (X Y:List (List UInt8)):pkL 45 (mks 45 X++mks 43 Y)=Y:=by
 rw[pkL_append,npk_mks,npk_mks,if_neg (by decide),if_pos (by decide)]
 simp
theorem grpE_zero (l:List Ch) (n m:Int):grpE l n m 0=chk l n m:=by
 unfold grpE
 split
 ·rfl
 ·rename_i h
  rw[if_neg (by omega)]
  omega
theorem chg_flat (a b:List (List UInt8)) (c:Ch):(chgL a b c).flatten=cmdT c++[10]++((cut a c.A c.AN).flatMap (lnL [60,32])).flatten++(sepL c).flatten++((cut b c.B c.BN).flatMap (lnL [62,32])).flatten:=by
 unfold chgL
 simp only[List.flatten_cons,List.flatten_append,List.append_assoc]
theorem ws_held {b:Nat} {acc s:List UInt8} {W w1 u:World} (hB:Lib.IsBuilderF 77 5 b b (Lib.byteCells acc) u) (hl:acc.length+s.length≤140737488355328) (hz:b≤u.heap.size) (hS:Lib.OthersKept 5 (some b) W u∧Below b w1 u) :
  Calls Tryz.prog 34 (#[.pointer (some ⟨b,0,none⟩),.string ⟨s.toArray⟩]++#[]) u fun e w'=>∃ v,e=.returned v∧(Lib.OthersKept 5 (some b) W w'∧Below b w1 w')∧(Lib.IsBuilderF 77 5 b b (Lib.byteCells (acc++s)) w'∧∃ z,v=.tuple #[z,.nilIface]):=by
 refine (Tryz.WriteString_h b b _ ⟨s.toArray⟩ u hB (by rw[bcells_len];exact hl) hz).mono ?_
 rintro e w' ⟨rfl,h1,h2,h3⟩
 exact⟨_,rfl,⟨hS.1.trans h3,hS.2.trans h2⟩,.inr (by rw[Lib.byteCells_append];exact h1),_,rfl⟩
theorem nPrint_f (l:List Ch) (vl va vb:Value) (a b:List (List UInt8)) (w:World) (hl:HCh w vl l) (ha:HS w va a) (hb:HS w vb b) (hll:l.length≤1099511627776) (hla:a.length≤137438953472) (hlb:b.length≤137438953472) (hta:∀ s∈a,s.length≤1099511627776) (htb:∀ s∈b,s.length≤1099511627776) (HTb:Hid (Tab10 w))
  (r:Int) (HR:Hid (chk l a.length b.length=r)) (T:List UInt8) (HT:Hid ((if r=0 then prtT l a b else [])=T)) (hT:T.length≤70368744177664) :
  Calls Tryz.prog 14 #[vl,va,vb] w fun e w'=>e=.returned (.tuple #[.string ⟨T.toArray⟩,.int .i64 r])∧Below w.heap.size w w':=by
 obtain⟨lo,lc,rfl⟩:=Holds.form hl
 obtain⟨ao,ca,rfl⟩:=Holds.form ha
 obtain⟨bo,cb,rfl⟩:=Holds.form hb
 have HZ0:Hid (grpE l a.length b.length 0=r):=(by show _=_;rw[grpE_zero];exact HR.out)
 obtain⟨M,hM⟩:∃ M,mkR l a b 0=M:=⟨_,rfl⟩
 have HM:Hid (mkR l a b 0=M):=hM
 have HTA:Hid (∀ s∈a,s.length≤1099511627776):=hta
 have HTB:Hid (∀ s∈b,s.length≤1099511627776):=htb
 clear hM hta htb
 go_enter Tryz.func14,Tryz.ntmps14
 go_wp2_with fail
 refine (hMake_f l a b 0 _ _ _ w hl ha hb (by omega) (by omega) (by omega) r HZ0 M HM).mono ?_
 rintro e w1 ⟨v1,P,rfl,hHs,hPM⟩
 have HPM:Hid (P.map (·.1)=M):=hPM
 clear hPM hl ha hb
 have hlow:=hHs.low
 have hH:=hHs.holds
 obtain⟨po,pc,rfl⟩:=hH.1.form
 clear hHs
 by_cases hr:r=0
 ·subst hr
  have hTT:=HT.out
  rw[if_pos rfl] at hTT
  have hs:Script l a.length b.length:=(by
   by_cases h:Script l a.length b.length
   ·exact h
   ·have:=chk_no h
    rw[HR.out] at this
    cases this)
  have hMP:P.map (·.1)=l.map fun c=>oneH a b 0 [c]:=(by rw[HPM.out,← HM.out];exact mk_zero hs)
  have HMP:Hid (P.map (·.1)=l.map fun c=>oneH a b 0 [c]):=hMP
  have HPl:Hid (P.length=l.length):=(by show P.length=l.length;have:=congrArg List.length hMP;simpa using this)
  have HMH:Hid (∀ c∈l,numB c=true∧c.A+c.AN≤(a.length:Int)∧c.B+c.BN≤(b.length:Int)):=right_mem hs.2.2
  have HT1:Hid (Tab10 w1):=HTb.out.on hlow
  have HTT:Hid (prtT l a b=T):=hTT
  clear hs hMP HT HR HZ0 HPM HM hTT HTb
  have HTb:=HT1
  clear HT1
  have hF0:=isF_fresh w1
  have hBw:Below w1.heap.size w1 (w1.alloc (.cells #[.pointer none,.slice none 0 0] 77)):=(Below.refl _ w1).alloc (Nat.le_refl _) _
  have HPl2:=HPl.out
  have hPl:P.length≤1099511627776:=by omega
  clear HPl2
  go_wp2
  go_loopw [25] (fun i wr=>∃ (k:Nat) (acc:List UInt8),k≤P.length∧i=.int .i64 (k:Int)∧Lib.IsBuilderF 77 5 w1.heap.size w1.heap.size (Lib.byteCells acc) wr∧Below w1.heap.size w1 wr∧Hid (acc++prtT (l.drop k) a b=T)) (fun i _=>P.length-(intOf i).toNat)
  case atStart=>exact⟨0,[],Nat.zero_le _,by go_num,hF0,hBw,HTT⟩
  case round =>
  clear hF0 hBw HTT
  obtain⟨k,acc,hk,rfl,hBr,hbr,HI⟩:=hrel
  by_cases hlt:k<P.length
  ·have hkl:k<l.length:=(by have:=HPl.out;omega)
   obtain⟨⟨x,y⟩,hxy⟩:∃ q,P[k]=q:=⟨_,rfl⟩
   obtain⟨c,hc⟩:∃ c,l[k]=c:=⟨_,rfl⟩
   have hx:x=oneH a b 0 [c]:=(by
    have h1:(P.map (·.1))[k]?=(l.map fun c=>oneH a b 0 [c])[k]?:=by rw[HMP.out]
    rw[List.getElem?_map,List.getElem?_map,List.getElem?_eq_getElem hlt,List.getElem?_eq_getElem hkl,hxy,hc] at h1
    simpa using h1)
   have hm:=HMH.out l[k] (List.getElem_mem hkl)
   rw[hc] at hm
   rw[one_zero hm.1 hm.2.1 hm.2.2] at hx
   have hn:=(numB_iff c).1 hm.1
   obtain⟨bk,off,rfl,hbk,_⟩:=HHp.at hH (by omega)
   obtain⟨⟨c0,c1,c2,c3,c4⟩,hml2⟩:=HHp.take hH hbr k hlt hxy
   have hml:HMk w1 y x.ls:=(by
    have h:=hH.2 P[k] (List.getElem_mem hlt)
    rw[hxy] at h
    exact h)
   obtain⟨yo,yc,rfl⟩:=HMk.form hml
   obtain⟨RA,hRA⟩:∃ R,cut a c.A c.AN=R:=⟨_,rfl⟩
   obtain⟨RB,hRB⟩:∃ R,cut b c.B c.BN=R:=⟨_,rfl⟩
   have HOl:Hid (oldL x=RA):=(by show _=_;rw[hx,← hRA];exact zero_old _ _)
   have HNw:Hid (newL x=RB):=(by show _=_;rw[hx,← hRB];exact zero_new _ _)
   have hA0:0≤x.A∧x.A≤2147483648∧0≤x.AN∧x.AN≤2147483648∧0≤x.B∧x.B≤2147483648∧0≤x.BN∧x.BN≤2147483648:=(by
    rw[hx]
    unfold noA
    dsimp only
    refine⟨?_,?_,by omega,by omega,?_,?_,by omega,by omega⟩<;>split<;>omega)
   have hRAl:RA.length≤a.length:=(by rw[← hRA];unfold cut;simp only[List.length_take,List.length_drop];omega)
   have hRBl:RB.length≤b.length:=(by rw[← hRB];unfold cut;simp only[List.length_take,List.length_drop];omega)
   have hxl:x.ls.length≤1099511627776:=(by rw[hx];dsimp only;rw[List.length_append];unfold mks;rw[List.length_map,List.length_map,hRA,hRB];omega)
   have HRAt:Hid (∀ s∈RA,s.length≤1099511627776):=(by intro s hs;rw[← hRA] at hs;exact HTA.out s (mem_cut hs))
   have HRBt:Hid (∀ s∈RB,s.length≤1099511627776):=(by intro s hs;rw[← hRB] at hs;exact HTB.out s (mem_cut hs))
   obtain⟨T1,HT1⟩:∃ T1,Hid (rgx x.A x.AN=T1):=⟨_,rfl⟩
   obtain⟨T2,HT2⟩:∃ T1,Hid (ltrT x.AN x.BN=T1):=⟨_,rfl⟩
   obtain⟨T3,HT3⟩:∃ T1,Hid (rgx x.B x.BN=T1):=⟨_,rfl⟩
   have l1:T1.length≤43:=(by rw[← HT1.out];exact rgx_len (by omega) (by omega) (by omega) (by omega))
   have l2:T2.length=1:=(by rw[← HT2.out];exact ltr_len _ _)
   have l3:T3.length≤43:=(by rw[← HT3.out];exact rgx_len (by omega) (by omega) (by omega) (by omega))
   have hF1:Fits T1 T2:=by unfold Fits;omega
   have hF2:Fits (T1++T2) T3:=by unfold Fits;rw[List.length_append];omega
   have hF3:Fits (T1++T2++T3) [10]:=by unfold Fits;simp only[List.length_append,List.length_cons,List.length_nil];omega
   have hlC:(T1++T2++T3++[10]).length≤100:=by simp only[List.length_append,List.length_cons,List.length_nil];omega
   obtain⟨dv,HDV⟩:∃ dv,Hid ((decide (0<x.AN) && decide (0<x.BN))=dv):=⟨_,rfl⟩
   obtain⟨ac2,hA2⟩:∃ z,acc++(T1++T2++T3++[10])++(RA.flatMap (lnL [60,32])).flatten=z:=⟨_,rfl⟩
   have HA2:Hid (acc++(T1++T2++T3++[10])++(RA.flatMap (lnL [60,32])).flatten=ac2):=hA2
   clear hA2
   obtain⟨ac4,hA4⟩:∃ z,ac2++(if dv=true then [45,45,45,10] else [])++(RB.flatMap (lnL [62,32])).flatten=z:=⟨_,rfl⟩
   have HA4:Hid (ac2++(if dv=true then [45,45,45,10] else [])++(RB.flatMap (lnL [62,32])).flatten=ac4):=hA4
   clear hA4
   have HEnd:Hid (ac4++prtT (l.drop (k+1)) a b=T):=(by
    show _=_
    have e1:prtT (l.drop k) a b=(chgL a b c).flatten++prtT (l.drop (k+1)) a b:=(by
     rw[List.drop_eq_getElem_cons hkl,hc]
     unfold prtT prtL
     rw[List.flatMap_cons,List.flatten_append])
    have e2:(sepL c).flatten=(if dv=true then [45,45,45,10] else []):=(by
     rw[← HDV.out,hx]
     unfold sepL
     dsimp only
     by_cases hb1:0<c.AN
     ·by_cases hb2:0<c.BN
      ·rw[if_pos ⟨hb1,hb2⟩,if_pos (by simp[hb1,hb2])]
       rfl
      ·rw[if_neg (fun h=>hb2 h.2),if_neg (by simp[hb2])]
       rfl
     ·rw[if_neg (fun h=>hb1 h.1),if_neg (by simp[hb1])]
      rfl)
    have e3:T1++T2++T3=cmdT c:=(by
     rw[← HT1.out,← HT2.out,← HT3.out,hx]
     exact cmd_code hm.1)
    rw[← HI.out,e1,chg_flat,← HA4.out,← HA2.out,e2,e3,hRA,hRB]
    simp only[List.append_assoc])
   have hal4:ac4.length≤70368744177664:=(by
    have h:=congrArg List.length HEnd.out
    rw[List.length_append] at h
    omega)
   have hal2:ac2.length+(if dv=true then [45,45,45,10] else ([]:List UInt8)).length≤70368744177664:=(by
    have h:=congrArg List.length HA4.out
    rw[List.length_append,List.length_append] at h
    omega)
   have hal0:acc.length≤70368744177664:=(by
    have h:=congrArg List.length HA2.out
    rw[List.length_append,List.length_append] at h
    omega)
   have i1:0≤(k:Int):=by omega
   have i2:(k:Int)<(P.length:Int):=by omega
   have hx2:=Hx.new wr x (.slice yo x.ls.length yc)
   have hb2:Below w1.heap.size w1 (wr.alloc (hkO x (.slice yo x.ls.length yc))):=hbr.alloc hbr.size _
   have hB2:=isF_low hBr ((Below.refl _ wr).alloc (Nat.le_refl _) (hkO x (.slice yo x.ls.length yc)))
   have hHb:w1.heap.size<wr.heap.size:=(by
    rcases hBr with ⟨_,_,h,_⟩ | ⟨_,_,h,_⟩<;>exact (Array.getElem?_eq_some_iff.1 h).1)
   have hW:wr.alloc (Obj.cells #[.int .i64 x.A,.int .i64 x.AN,.int .i64 x.B,.int .i64 x.BN,.slice yo x.ls.length yc] 59)=wr.alloc (hkO x (.slice yo x.ls.length yc)):=rfl
   clear hx hxy hc hm hn hRA hRB HI hml2 HMP HMH HTA HTB hkl HPl
   go_upto_region 8 with fail
   generalize wr.alloc (hkO x (.slice yo x.ls.length yc))=W2 at *
   clear hW c0 c1 c2 c3 c4 hBr
   have hS2:Lib.OthersKept 5 (some w1.heap.size) W2 W2.drew∧Below w1.heap.size w1 W2.drew:=⟨Lib.OthersKept.refl _ _ _,hb2.drew⟩
   have hxu:∀ u,Lib.OthersKept 5 (some w1.heap.size) W2 u→Hx u wr.heap.size x (.slice yo x.ls.length yc):=fun u hu=>hx_others hx2 hu (by omega)
   have hBd:Lib.IsBuilderF 77 5 w1.heap.size w1.heap.size (Lib.byteCells acc) W2.drew:=hB2
   refine wp_region_noPanic ?_
   refine wp_region_held_drew (S:=fun u=>Lib.OthersKept 5 (some w1.heap.size) W2 u∧Below w1.heap.size w1 u) (by kernel_rfl) hS2 (fun hHeld=>?_)
   clear hS2
   generalize W2.drew=wd at hHeld hBd ⊢
   refine go_take 0 29 _ (.pointer (some ⟨wr.heap.size,0,none⟩)) rfl (by kernel_rfl) (by kernel_rfl) (by kernel_rfl) (by kernel_rfl) (fun _ _ _ h=>h) (Or.inl ⟨by kernel_rfl,fun u hu=>by kernel_rfl⟩) hHeld ?_
   simp only[Act.put,List.setIfInBounds_toArray,List.set_cons_zero,List.set_cons_succ]
   refine go_take 1 30 _ (.int .i64 x.A) rfl (by kernel_rfl) (by kernel_rfl) (by kernel_rfl) (by kernel_rfl) (fun _ _ _ h=>h) (Or.inl ⟨by kernel_rfl,fun u hu=>load_int (hxu u hu.1).cells.1 (.tmp 29) (by kernel_rfl) (by kernel_rfl)⟩) hHeld ?_
   simp only[Act.put,List.setIfInBounds_toArray,List.set_cons_zero,List.set_cons_succ]
   refine go_take 2 31 _ (.pointer (some ⟨wr.heap.size,1,none⟩)) rfl (by kernel_rfl) (by kernel_rfl) (by kernel_rfl) (by kernel_rfl) (fun _ _ _ h=>h) (Or.inl ⟨by kernel_rfl,fun u hu=>by kernel_rfl⟩) hHeld ?_
   simp only[Act.put,List.setIfInBounds_toArray,List.set_cons_zero,List.set_cons_succ]
   refine go_take 3 32 _ (.int .i64 x.AN) rfl (by kernel_rfl) (by kernel_rfl) (by kernel_rfl) (by kernel_rfl) (fun _ _ _ h=>h) (Or.inl ⟨by kernel_rfl,fun u hu=>load_int (hxu u hu.1).cells.2.1 (.tmp 31) (by kernel_rfl) (by kernel_rfl)⟩) hHeld ?_
   simp only[Act.put,List.setIfInBounds_toArray,List.set_cons_zero,List.set_cons_succ]
   refine go_take 5 34 _ (hkV x (.slice yo x.ls.length yc)) rfl (by kernel_rfl) (by kernel_rfl) (by kernel_rfl) (by kernel_rfl) (fun _ _ _ h=>h) (Or.inl ⟨by kernel_rfl,fun u hu=>load_hk (hxu u hu.1) (.tmp 12) (by kernel_rfl) (by kernel_rfl)⟩) hHeld ?_
   simp only[Act.put,List.setIfInBounds_toArray,List.set_cons_zero,List.set_cons_succ]
   refine go_take 8 37 _ (.pointer (some ⟨wr.heap.size,2,none⟩)) rfl (by kernel_rfl) (by kernel_rfl) (by kernel_rfl) (by kernel_rfl) (fun _ _ _ h=>h) (Or.inl ⟨by kernel_rfl,fun u hu=>by kernel_rfl⟩) hHeld ?_
   simp only[Act.put,List.setIfInBounds_toArray,List.set_cons_zero,List.set_cons_succ]
   refine go_take 9 38 _ (.int .i64 x.B) rfl (by kernel_rfl) (by kernel_rfl) (by kernel_rfl) (by kernel_rfl) (fun _ _ _ h=>h) (Or.inl ⟨by kernel_rfl,fun u hu=>load_int (hxu u hu.1).cells.2.2.1 (.tmp 37) (by kernel_rfl) (by kernel_rfl)⟩) hHeld ?_
   simp only[Act.put,List.setIfInBounds_toArray,List.set_cons_zero,List.set_cons_succ]
   refine go_take 10 39 _ (.pointer (some ⟨wr.heap.size,3,none⟩)) rfl (by kernel_rfl) (by kernel_rfl) (by kernel_rfl) (by kernel_rfl) (fun _ _ _ h=>h) (Or.inl ⟨by kernel_rfl,fun u hu=>by kernel_rfl⟩) hHeld ?_
   simp only[Act.put,List.setIfInBounds_toArray,List.set_cons_zero,List.set_cons_succ]
   refine go_take 11 40 _ (.int .i64 x.BN) rfl (by kernel_rfl) (by kernel_rfl) (by kernel_rfl) (by kernel_rfl) (fun _ _ _ h=>h) (Or.inl ⟨by kernel_rfl,fun u hu=>load_int (hxu u hu.1).cells.2.2.2.1 (.tmp 39) (by kernel_rfl) (by kernel_rfl)⟩) hHeld ?_
   simp only[Act.put,List.setIfInBounds_toArray,List.set_cons_zero,List.set_cons_succ]
   refine go_callE 4 33 _ rfl (by kernel_rfl) (by kernel_rfl) (by kernel_rfl) 35 (.func 35) #[.tmp 30,.tmp 32] #[3,3] (by kernel_rfl) #[] (by kernel_rfl) #[.int .i64 x.A,.int .i64 x.AN] (by kernel_rfl) (enters_of Tryz.func35 (by kernel_rfl) rfl) (fun v u=>v=.string ⟨T1.toArray⟩∧Below wd.heap.size wd u) ((nrange_f x.A x.AN (by omega) (by omega) (by omega) (by omega) wd (HTb.out.on hHeld.2) T1 HT1).mono (fun _ q hq=>⟨_,hq.1,⟨hHeld.1.trans (others_low hq.2),hHeld.2.trans (hq.2.mono hHeld.2.size)⟩,rfl,hq.2⟩)) ?_
   rintro _ u1 hH1 ⟨rfl,hL1⟩
   simp only[Act.put,List.setIfInBounds_toArray,List.set_cons_zero,List.set_cons_succ]
   refine go_callE 6 35 _ rfl (by kernel_rfl) (by kernel_rfl) (by kernel_rfl) 36 (.func 36) #[.tmp 34] #[59] (by kernel_rfl) #[] (by kernel_rfl) #[hkV x (.slice yo x.ls.length yc)] (by kernel_rfl) (enters_of Tryz.func36 (by kernel_rfl) rfl) (fun v u=>v=.string ⟨T2.toArray⟩∧Below u1.heap.size u1 u) ((nletter_f x _ u1 (HMk.keep hml hH1.2 (Nat.le_refl _)) T2 HT2).mono (fun _ q hq=>⟨_,hq.1,⟨hH1.1.trans (others_low hq.2),hH1.2.trans (hq.2.mono hH1.2.size)⟩,rfl,hq.2⟩)) ?_
   rintro _ u2 hH2 ⟨rfl,hL2⟩
   simp only[Act.put,List.setIfInBounds_toArray,List.set_cons_zero,List.set_cons_succ]
   refine go_take 7 36 _ (.string ⟨(T1++T2).toArray⟩) rfl (by kernel_rfl) (by kernel_rfl) (by kernel_rfl) (by kernel_rfl) (fun _ _ _ h=>h) (Or.inl ⟨by kernel_rfl,fun u hu=>exec_addS hF1 (.tmp 33) (.tmp 35) (by kernel_rfl) (by kernel_rfl) (by kernel_rfl)⟩) hH2 ?_
   simp only[Act.put,List.setIfInBounds_toArray,List.set_cons_zero,List.set_cons_succ]
   refine go_callE 12 41 _ rfl (by kernel_rfl) (by kernel_rfl) (by kernel_rfl) 35 (.func 35) #[.tmp 38,.tmp 40] #[3,3] (by kernel_rfl) #[] (by kernel_rfl) #[.int .i64 x.B,.int .i64 x.BN] (by kernel_rfl) (enters_of Tryz.func35 (by kernel_rfl) rfl) (fun v u=>v=.string ⟨T3.toArray⟩∧Below u2.heap.size u2 u) ((nrange_f x.B x.BN (by omega) (by omega) (by omega) (by omega) u2 (HTb.out.on hH2.2) T3 HT3).mono (fun _ q hq=>⟨_,hq.1,⟨hH2.1.trans (others_low hq.2),hH2.2.trans (hq.2.mono hH2.2.size)⟩,rfl,hq.2⟩)) ?_
   rintro _ u3 hH3 ⟨rfl,hL3⟩
   simp only[Act.put,List.setIfInBounds_toArray,List.set_cons_zero,List.set_cons_succ]
   refine go_take 13 42 _ (.string ⟨(T1++T2++T3).toArray⟩) rfl (by kernel_rfl) (by kernel_rfl) (by kernel_rfl) (by kernel_rfl) (fun _ _ _ h=>h) (Or.inl ⟨by kernel_rfl,fun u hu=>exec_addS hF2 (.tmp 36) (.tmp 41) (by kernel_rfl) (by kernel_rfl) (by kernel_rfl)⟩) hH3 ?_
   simp only[Act.put,List.setIfInBounds_toArray,List.set_cons_zero,List.set_cons_succ]
   refine go_take 14 43 _ (.string ⟨(T1++T2++T3++[10]).toArray⟩) rfl (by kernel_rfl) (by kernel_rfl) (by kernel_rfl) (by kernel_rfl) (fun _ _ _ h=>h) (Or.inl ⟨by kernel_rfl,fun u hu=>exec_addS hF3 (.tmp 42) (.const (.string ⟨#[10]⟩)) (by kernel_rfl) (by kernel_rfl) (by kernel_rfl)⟩) hH3 ?_
   simp only[Act.put,List.setIfInBounds_toArray,List.set_cons_zero,List.set_cons_succ]
   have hbS:Below wd.heap.size wd u3:=hL1.trans ((hL2.trans (hL3.mono hL2.size)).mono hL1.size)
   have hB3:=isF_low hBd hbS
   have hz3:w1.heap.size≤u3.heap.size:=hH3.2.size
   have hws:=ws_held (s:=T1++T2++T3++[10]) hB3 (by omega) hz3 hH3
   refine go_callE 15 44 _ rfl (by kernel_rfl) (by kernel_rfl) (by kernel_rfl) 34 (.func 34) #[.tmp 10,.tmp 43] #[77,9] (by kernel_rfl) #[] (by kernel_rfl) #[.pointer (some ⟨w1.heap.size,0,none⟩),.string ⟨(T1++T2++T3++[10]).toArray⟩] (by kernel_rfl) (enters_of Tryz.func34 (by kernel_rfl) rfl) (fun v u=>Lib.IsBuilderF 77 5 w1.heap.size w1.heap.size (Lib.byteCells (acc++(T1++T2++T3++[10]))) u∧∃ z,v=.tuple #[z,.nilIface]) (?_) ?_
   ·exact hws
   clear hws
   rintro _ u4 hH4 ⟨hB4,z4,rfl⟩
   simp only[Act.put,List.setIfInBounds_toArray,List.set_cons_zero,List.set_cons_succ]
   refine wpAnyH_done (by kernel_rfl) ?_ _
   refine NoPanic.normal ?_
   have hx4:=hxu u4 hH4.1
   obtain⟨d0,d1,d2,d3,d4⟩:=hx4.cells
   clear hHeld hH1 hH2 hH3 hL1 hL2 hL3 hB3 hz3 hbS hBd hB2
   go_wp2_with fail
   refine (hOld_o x (.slice yo x.ls.length yc) u4 (HMk.keep hml hH4.2 (Nat.le_refl _)) hxl RA HOl).mono ?_
   rintro e u5 ⟨vo,rfl,hown5,hL5⟩
   have hform5:∃ vo1 vc1,vo=.slice vo1 RA.length vc1:=Holds.form (holds_of hown5)
   have hz4:w1.heap.size<u4.heap.size:=Nat.lt_trans hHb hx4.lt
   have HV5:Hid (∀ u,Lib.OthersKept 5 (some w1.heap.size) u5 u→HS u vo RA):=fun u hu=>holds_of (owns_others hown5 hu (fun g hg=>by have:=owns_ge hown5 hg;omega))
   have hb5:=hH4.2.trans (hL5.mono hH4.2.size)
   have hB5:=isF_low hB4 hL5
   have hx5:=hx4.low hL5
   clear hown5 d0 d1 d2 d3 d4
   go_wp2_with fail
   refine (nlines_f w1.heap.size w1.heap.size _ [60,32] RA vo u5 hB5 hb5.size hform5 HV5 (by omega) HRAt (by decide) ac2 HA2 (by omega)).mono ?_
   rintro e u6 ⟨rfl,hB6,hb6',ho6⟩
   have hx6:=hx_others hx5 ho6 (by omega)
   have hb6:=hb5.trans hb6'
   clear hB5 hb5 hx5 HV5 hform5 hb6' ho6 hx4 hB4 hH4 HA2
   obtain⟨d0,d1,d2,d3,d4⟩:=hx6.cells
   go_wp2_with fail
   refine (ndivided_f x (.slice yo x.ls.length yc) u6 ⟨_,_,_,rfl⟩ dv HDV).mono ?_
   rintro e u7 ⟨rfl,hL7⟩
   have hx7:=hx6.low hL7
   have hb7:=hb6.trans (hL7.mono hb6.size)
   have hB7:=isF_low hB6 hL7
   clear d0 d1 d2 d3 d4 hx6 hb6 hB6 hL7 HDV
   cases dv with
   | false =>
    rw[if_neg (by decide),List.append_nil] at HA4
    obtain⟨d0,d1,d2,d3,d4⟩:=hx7.cells
    go_wp2_with fail
    refine (hNew_o x (.slice yo x.ls.length yc) u7 (HMk.keep hml hb7 (Nat.le_refl _)) hxl RB HNw).mono ?_
    rintro e u8 ⟨vn,rfl,hown8,hL8⟩
    have hform8:∃ vo vc,vn=.slice vo RB.length vc:=Holds.form (holds_of hown8)
    have hz7:w1.heap.size<u7.heap.size:=Nat.lt_of_lt_of_le hHb (Nat.le_of_lt hx7.lt)
    have HV8:Hid (∀ u,Lib.OthersKept 5 (some w1.heap.size) u8 u→HS u vn RB):=fun u hu=>holds_of (owns_others hown8 hu (fun g hg=>by have:=owns_ge hown8 hg;omega))
    have hb8:=hb7.trans (hL8.mono hb7.size)
    have hB8:=isF_low hB7 hL8
    clear hown8 d0 d1 d2 d3 d4
    go_wp2_with fail
    refine (nlines_f w1.heap.size w1.heap.size _ [62,32] RB vn u8 hB8 hb8.size hform8 HV8 (by omega) HRBt (by decide) ac4 HA4 hal4).mono ?_
    rintro e u9 ⟨rfl,hB9,hb9,ho9⟩
    go_wp2
    exact⟨⟨k+1,ac4,by omega,by go_num,hB9,hb8.trans hb9,HEnd⟩,by simp[intOf];omega⟩
   | true =>
    rw[if_pos rfl] at HA4 hal2
    have hz7b:w1.heap.size≤u7.heap.size:=hb7.size
    go_wp2_with fail
    refine (Tryz.WriteString_h w1.heap.size w1.heap.size _ _ u7 hB7 (by rw[bcells_len];show ac2.length+4≤_;simp only[List.length_cons,List.length_nil] at hal2;omega) hz7b).mono ?_
    rintro e u71 ⟨rfl,hB71,hb71,ho71⟩
    have hB72:Lib.IsBuilderF 77 5 w1.heap.size w1.heap.size (Lib.byteCells (ac2++[45,45,45,10])) u71:=.inr (by rw[Lib.byteCells_append];exact hB71)
    have hx72:=hx_others hx7 ho71 (by omega)
    have hb72:=hb7.trans hb71
    clear hB71 hb71 ho71 hB7 hx7 hb7 hz7b
    have hB7:=hB72
    have hx7:=hx72
    have hb7:=hb72
    clear hB72 hx72 hb72
    generalize u71=u7 at *
    obtain⟨d0,d1,d2,d3,d4⟩:=hx7.cells
    go_wp2_with fail
    refine (hNew_o x (.slice yo x.ls.length yc) u7 (HMk.keep hml hb7 (Nat.le_refl _)) hxl RB HNw).mono ?_
    rintro e u8 ⟨vn,rfl,hown8,hL8⟩
    have hform8:∃ vo vc,vn=.slice vo RB.length vc:=Holds.form (holds_of hown8)
    have hz7:w1.heap.size<u7.heap.size:=Nat.lt_of_lt_of_le hHb (Nat.le_of_lt hx7.lt)
    have HV8:Hid (∀ u,Lib.OthersKept 5 (some w1.heap.size) u8 u→HS u vn RB):=fun u hu=>holds_of (owns_others hown8 hu (fun g hg=>by have:=owns_ge hown8 hg;omega))
    have hb8:=hb7.trans (hL8.mono hb7.size)
    have hB8:=isF_low hB7 hL8
    clear hown8 d0 d1 d2 d3 d4
    go_wp2_with fail
    refine (nlines_f w1.heap.size w1.heap.size _ [62,32] RB vn u8 hB8 hb8.size hform8 HV8 (by omega) HRBt (by decide) ac4 HA4 hal4).mono ?_
    rintro e u9 ⟨rfl,hB9,hb9,ho9⟩
    go_wp2
    exact⟨⟨k+1,ac4,by omega,by go_num,hB9,hb8.trans hb9,HEnd⟩,by simp[intOf];omega⟩
  ·have HE:Hid (acc=T):=(by
    have h:=HI.out
    rw[List.drop_of_length_le (by have:=HPl.out;omega)] at h
    show acc=T
    simpa [prtT,prtL] using h)
   have hend:decide ((k:Int)<(P.length:Int))=false:=decide_eq_false (by omega)
   have hz:=hbr.size
   clear HI
   go_wp2_with fail
   refine (Tryz.Builder_String_any_k w1.heap.size w1.heap.size acc wr hBr hz).mono ?_
   rintro e w2 ⟨rfl,-,hb2,-⟩
   go_wp2
   go_ret2
   exact⟨by rw[HE.out];rfl,hlow.trans ((hbr.trans hb2).mono hlow.size)⟩
 ·have hrb:(r != 0)=true:=bne_iff_ne.2 hr
  have hTT:=HT.out
  rw[if_neg hr] at hTT
  subst hTT
  go_wp2
  go_ret2
  exact⟨rfl,hlow⟩
end Go.Proofs.YtgiojkhmkeocfaaGreatDoor

/- The reference's reader of lines, walked: its place, its first fault; the next line. -/
namespace Go.Proofs.YtgiojkhmkeocfaaGreatDoor
open Go.RowKit
def rdO (vL:Value) (p fa fe:Int):Obj:=.cells #[vL,.int .i64 p,.int .i64 fa,.int .i64 fe] 112
def Rx (u:World) (R:Nat) (vL:Value) (p fa fe:Int):Prop:=u.heap[R]?=some (rdO vL p fa fe)
section
variable {u u':World} {R:Nat} {vL:Value} {p fa fe:Int}
theorem Rx.cells (q:Rx u R vL p fa fe):u.cell? ⟨R,0,none⟩=some vL∧u.cell? ⟨R,1,none⟩=some (.int .i64 p)∧u.cell? ⟨R,2,none⟩=some (.int .i64 fa)∧u.cell? ⟨R,3,none⟩=some (.int .i64 fe):=by
 unfold Rx rdO at q
 refine⟨?_,?_,?_,?_⟩<;>rw[Lib.cell_of_heap q]<;>rfl
theorem Rx.frozen (q:Rx u R vL p fa fe) (j:Nat):u.frozen? ⟨R,j,none⟩=false:=Lib.frozen_of_heap q j
theorem Rx.lt (q:Rx u R vL p fa fe):R<u.heap.size:=(Array.getElem?_eq_some_iff.1 q).1
theorem Rx.dN (q:Rx u R vL p fa fe) (n:Nat):Rx (u.drewN n) R vL p fa fe:=q
theorem Rx.at (q:Rx u R vL p fa fe) (p':Int):Rx (u.setCell ⟨R,1,none⟩ (.int .i64 p')) R vL p' fa fe:=heap_setCell_same u R 1 _ _ (.int .i64 p') q
theorem Rx.fault (q:Rx u R vL p fa fe) (x y:Int):Rx ((u.setCell ⟨R,2,none⟩ (.int .i64 x)).setCell ⟨R,3,none⟩ (.int .i64 y)) R vL p x y:=heap_setCell_same _ R 3 _ _ (.int .i64 y) (heap_setCell_same u R 2 _ _ (.int .i64 x) q)
end
theorem grown_two {w u v:World} {r:Option Nat} (h:w.grownBy u r) (h':u.grownBy v r):w.grownBy v r :=
 ⟨h'.os.trans h.os,h'.tape.trans h.tape,h'.output.trans h.output,Nat.le_trans h.size h'.size,fun k hk hr=>(h'.block k (Nat.lt_of_lt_of_le hk h.size) hr).trans (h.block k hk hr)⟩
theorem nxt_drop {L:List (List UInt8)} {p:Nat} (hp:p<L.length):nxt p (L.drop p)=if fdB L[p]=true then .ok (L[p].dropLast,L.drop (p+1)) else .error (p+1,3):=by
 rw[List.drop_eq_getElem_cons hp]
 rfl
theorem nxt_end {L:List (List UInt8)} {p:Nat} (hp:L.length≤p):nxt p (L.drop p)=.error (p+1,1):=by
 rw[List.drop_eq_nil_of_le hp]
 rfl
end Go.Proofs.YtgiojkhmkeocfaaGreatDoor

/- The reference's reader, walked: does the next line begin with some bytes? -/
namespace Go.Proofs.YtgiojkhmkeocfaaGreatDoor
open Go.RowKit
attribute [local go_sem] ByteArray.extract_mk no_at
end Go.Proofs.YtgiojkhmkeocfaaGreatDoor

/- The reference's reader, walked: a line with a sign, behind which the mark may stand. -/
namespace Go.Proofs.YtgiojkhmkeocfaaGreatDoor
open Go.RowKit
attribute [local go_sem] ByteArray.extract_mk no_at
end Go.Proofs.YtgiojkhmkeocfaaGreatDoor

/- The code's reader of lines, walked: what is wrong is thrown; the next line; the line between. -/
namespace Go.Proofs.YtgiojkhmkeocfaaGreatDoor
open Go.RowKit
attribute [local go_sem] ByteArray.extract_mk no_at
def ryO (vL:Value) (p:Int):Obj:=.cells #[vL,.int .i64 p] 138
def Ry (u:World) (R:Nat) (vL:Value) (p:Int):Prop:=u.heap[R]?=some (ryO vL p)
def fltO (a z:Int):Obj:=.cells #[.int .i64 a,.iface 26 (.int .i64 z)] 88
section
variable {u u':World} {R:Nat} {vL:Value} {p:Int}
theorem Ry.cells (q:Ry u R vL p):u.cell? ⟨R,0,none⟩=some vL∧u.cell? ⟨R,1,none⟩=some (.int .i64 p):=by
 unfold Ry ryO at q
 refine⟨?_,?_⟩<;>rw[Lib.cell_of_heap q]<;>rfl
theorem Ry.frozen (q:Ry u R vL p) (j:Nat):u.frozen? ⟨R,j,none⟩=false:=Lib.frozen_of_heap q j
theorem Ry.lt (q:Ry u R vL p):R<u.heap.size:=(Array.getElem?_eq_some_iff.1 q).1
theorem Ry.dN (q:Ry u R vL p) (n:Nat):Ry (u.drewN n) R vL p:=q
theorem Ry.at (q:Ry u R vL p) (p':Int):Ry (u.setCell ⟨R,1,none⟩ (.int .i64 p')) R vL p':=heap_setCell_same u R 1 _ _ (.int .i64 p') q
theorem Ry.low (q:Ry u R vL p) (hg:Below u.heap.size u u'):Ry u' R vL p:=(hg.block R q.lt).trans q
theorem Ry.keep (q:Ry u R vL p) {g:Option Nat} (hg:u.grownBy u' g) (hr:some R≠g):Ry u' R vL p:=(hg.block R q.lt hr).trans q
end
def Thr (a z:Int) (x:Ending) (w':World):Prop:=∃ g,x=.panicked [{ v:=.iface 86 (.pointer (some ⟨g,0,none⟩)),recovered:=false }]∧w'.heap[g]?=some (fltO a z)
theorem nthrow_f {R:Nat} {vL:Value} {p:Nat} (z:Int) (w:World) (q:Ry w R vL (p:Int)) (hp:p≤4398046511104) :
  Calls Tryz.prog 139 #[.pointer (some ⟨R,0,none⟩),.int .i64 z] w fun x w'=>Thr ((p:Int)+1) z x w'∧w.grownBy w' (some R):=by
 obtain⟨c0,c1⟩:=q.cells
 have HQ:Hid ((w.alloc (fltO ((p:Int)+1) z)).heap[w.heap.size]?=some (fltO ((p:Int)+1) z)∧w.grownBy (w.alloc (fltO ((p:Int)+1) z)) (some R)):=⟨heap_alloc_new w _,World.grownBy_alloc w _ _⟩
 clear q
 go_enter Tryz.func139,Tryz.ntmps139
 go_wp2
 exact⟨rfl,⟨_,rfl,HQ.out.1⟩,HQ.out.2⟩
def LnQ (R:Nat) (_vL:Value) (_p:Nat) (X:Except (Nat × Int) (List UInt8 × List (List UInt8))) (w:World) (x:Ending) (w':World):Prop :=
 match X with
 | .error (a,e)=>Thr (a:Int) e x w'∧w.grownBy w' (some R)
 | .ok (s,_)=>x=.returned (.string ⟨(s++[10]).toArray⟩)∧∃ n,w'=w.drewN n
theorem drop_feed {s:List UInt8} (h:fdB s=true):s.dropLast++[10]=s:=(fd_form h).symm
theorem nline_f {R:Nat} {L:List (List UInt8)} {lo:Option Addr} {lc:Nat} {p:Nat} (w:World) (q:Ry w R (.slice lo L.length lc) p) (hL:HS w (.slice lo L.length lc) L) (hp:p≤L.length) (hLl:L.length≤2199023255552) (hs:∀ s∈L,s.length≤1099511627776)
  (X:Except (Nat × Int) (List UInt8 × List (List UInt8))) (HX:Hid (nxt p (L.drop p)=X)) :
  Calls Tryz.prog 138 #[.pointer (some ⟨R,0,none⟩)] w fun x w'=>LnQ R (.slice lo L.length lc) p X w x w':=by
 have hX:=HX.out
 clear HX
 by_cases hlt:p<L.length
 ·rw[nxt_drop hlt] at hX
  obtain⟨bk,off,rfl,hbk,hcl⟩:=HS.at hL (by omega)
  have d4:=hcl p hlt
  have hsl:=hs L[p] (List.getElem_mem _)
  generalize L[p]=s at d4 hsl hX
  clear hcl hs hL
  obtain⟨c0,c1⟩:=q.cells
  have e0:((p:Int) == (L.length:Int))=false:=beq_eq_false_iff_ne.2 (by omega)
  have i1:(0:Int)≤(p:Int):=by omega
  have i2:(p:Int)<(L.length:Int):=by omega
  have i3:(p:Int).toNat=p:=by omega
  cases hf:fdB s with
  | true =>
   rw[if_pos hf] at hX
   subst hX
   have HD:Hid (s.dropLast++[10]=s):=drop_feed hf
   clear q
   go_enter Tryz.func138,Tryz.ntmps138
   go_wp2_with fail
   go_quiet (fail)
   go_wp2_with fail
   have c0':(w.drewN nq).cell? ⟨R,0,none⟩=_:=c0
   have c1':(w.drewN nq).cell? ⟨R,1,none⟩=_:=c1
   have d4':(w.drewN nq).cell? ⟨bk,off+p,none⟩=_:=d4
   have HM:Hid (∀ n,∃ k,(w.drewN nq).drewN n=w.drewN k):=fun n=>⟨_,World.drewN_drewN w nq n⟩
   clear c0 c1 d4
   generalize w.drewN nq=W1 at c0' c1' d4' HM ⊢
   have j1:(0:Int)≤(p:Int):=by omega
   have j2:(p:Int)<(L.length:Int):=by omega
   have j3:(p:Int).toNat=p:=by omega
   go_quiet (fail)
   go_wp2_with fail
   refine (Tryz.strings_HasSuffix ⟨s.toArray⟩ ⟨#[10]⟩ _ (by show s.length≤_;omega)).mono ?_
   rintro e w2 ⟨rfl,rfl⟩
   have e1:Lib.hasSuffix (⟨s.toArray⟩:ByteArray).data.toList (⟨#[10]⟩:ByteArray).data.toList=true:=(suf_feed s).trans hf
   rw[e1]
   clear e1 hf
   go_wp2
   go_ret
   refine⟨?_,HM.out _⟩
   rw[HD.out]
   rfl
  | false =>
   rw[if_neg (by rw[hf];decide)] at hX
   subst hX
   have q0:=q
   clear q
   go_enter Tryz.func138,Tryz.ntmps138
   go_wp2_with fail
   go_quiet (fail)
   go_wp2_with fail
   have c0':(w.drewN nq).cell? ⟨R,0,none⟩=_:=c0
   have c1':(w.drewN nq).cell? ⟨R,1,none⟩=_:=c1
   have d4':(w.drewN nq).cell? ⟨bk,off+p,none⟩=_:=d4
   have HM:Hid (∀ n,w.grownBy ((w.drewN nq).drewN n) (some R)):=fun n=>grown_drewN (grown_drewN (low_grown (Below.refl _ _) _) nq) n
   have HQ:Hid (∀ n,Ry ((w.drewN nq).drewN n) R (.slice (some ⟨bk,off,none⟩) L.length lc) p):=fun n=>(q0.dN nq).dN n
   clear c0 c1 d4 q0
   generalize w.drewN nq=W1 at c0' c1' d4' HM HQ ⊢
   have j1:(0:Int)≤(p:Int):=by omega
   have j2:(p:Int)<(L.length:Int):=by omega
   have j3:(p:Int).toNat=p:=by omega
   go_quiet (fail)
   go_wp2_with fail
   refine (Tryz.strings_HasSuffix ⟨s.toArray⟩ ⟨#[10]⟩ _ (by show s.length≤_;omega)).mono ?_
   rintro e w2 ⟨rfl,rfl⟩
   have e1:Lib.hasSuffix (⟨s.toArray⟩:ByteArray).data.toList (⟨#[10]⟩:ByteArray).data.toList=false:=(suf_feed s).trans hf
   rw[e1]
   clear e1 hf
   go_wp2_with fail
   refine (nthrow_f 3 _ (HQ.out _) (by omega)).mono ?_
   rintro e w3 ⟨⟨g,rfl,hg⟩,hgr⟩
   go_wp2
   exact⟨rfl,⟨_,rfl,hg⟩,grown_two (HM.out _) hgr⟩
 ·rw[nxt_end (by omega)] at hX
  subst hX
  obtain⟨c0,c1⟩:=q.cells
  have e0:((p:Int) == (L.length:Int))=true:=beq_iff_eq.2 (by omega)
  have HM:Hid (∀ n,w.grownBy (w.drewN n) (some R)):=fun n=>grown_drewN (low_grown (Below.refl _ _) _) n
  have HQ:Hid (∀ n,Ry (w.drewN n) R (.slice lo L.length lc) p):=fun n=>q.dN n
  clear q hs hL
  go_enter Tryz.func138,Tryz.ntmps138
  go_wp2_with fail
  go_quiet (fail)
  go_wp2_with fail
  refine (nthrow_f 1 _ (HQ.out _) (by omega)).mono ?_
  rintro e w3 ⟨⟨g,rfl,hg⟩,hgr⟩
  go_wp2
  exact⟨rfl,⟨_,rfl,hg⟩,grown_two (HM.out _) hgr⟩
end Go.Proofs.YtgiojkhmkeocfaaGreatDoor

/- What is read in the normal form are right hunks; plain mathematics. -/
namespace Go.Proofs.YtgiojkhmkeocfaaGreatDoor
open Ln
theorem sat_pos:∀ (l:List UInt8) (n:Int),0≤n→l.all Pn.digB=true→0≤Pn.sat n l
 | [],_,hn,_=>hn
 | c::t,n,hn,h=>by
  simp only[List.all_cons,Bool.and_eq_true] at h
  have h1:=Pn.digB_out h.1
  rw[Pn.sat]
  exact sat_pos t _ (by omega) h.2
theorem prs_num {s:List UInt8}:0≤Pn.parseV s∧Pn.parseV s≤2147483647:=by
 unfold Pn.parseV
 split
 ·rename_i h
  exact⟨sat_pos s 0 (by omega) (Pn.isNum_all h.1),h.2⟩
 ·omega
theorem lns_right {s:List UInt8} {x n:Int} (h:lnsP s=some (x,n)):1≤x∧x≤2147483647∧1≤n∧n≤2147483647:=by
 unfold lnsP at h
 split at h
 ·split at h
  ·rename_i y _ z _ hc
   cases h
   have h1:=@prs_num y
   have h2:=@prs_num z
   omega
  ·cases h
 ·split at h
  ·rename_i hc
   cases h
   have h1:=@prs_num s
   omega
  ·cases h
theorem one_right {s:List UInt8} {x n:Int} (h:oneP s=some (x,n)):0≤x∧x≤2147483647∧n=0:=by
 unfold oneP at h
 split at h
 ·cases h
  have h1:=@prs_num s
  omega
 ·cases h
theorem cmd_right {s:List UInt8} {A AN B BN:Int} (h:cmdP s=some (A,AN,B,BN)):(0≤A∧A≤2147483647∧0≤AN∧AN≤2147483647∧(0<AN→1≤A))∧(0≤B∧B≤2147483647∧0≤BN∧BN≤2147483647∧(0<BN→1≤B))∧(0<AN∨0<BN):=by
 unfold cmdP at h
 split at h
 ·cases h
 ·rename_i x c y _
  split at h
  ·rename_i A' AN' B' BN' h1 h2
   cases h
   by_cases hc:c=97
   ·subst hc
    rw[if_pos rfl] at h1
    rw[if_neg (by decide)] at h2
    have q1:=one_right h1
    have q2:=lns_right h2
    omega
   ·rw[if_neg hc] at h1
    have q1:=lns_right h1
    by_cases hd:c=100
    ·subst hd
     rw[if_pos rfl] at h2
     have q2:=one_right h2
     omega
    ·rw[if_neg hd] at h2
     have q2:=lns_right h2
     omega
  ·cases h
end Go.Proofs.YtgiojkhmkeocfaaGreatDoor

/- The normal form as the code reads it, and that it is read as the plain reader does; plain mathematics. -/
namespace Go.Proofs.YtgiojkhmkeocfaaGreatDoor
open Ln
def rdL (sg:List UInt8) (S:Int):Nat→Nat→List (List UInt8)→Except (Nat × Int) (List Mk × Nat × List (List UInt8))
 | 0,p,ls=>.ok ([],p,ls)
 | n+1,p,ls=>match nxt p ls with
  | .error e=>.error e
  | .ok (s,r)=>if sg.isPrefixOf s=true then match rdL sg S n (p+1) r with
    | .error e=>.error e
    | .ok (l,p2,r2)=>.ok (⟨S,s.drop sg.length++[10]⟩::l,p2,r2)
   else .error (p+1,3)
def cutL:List Mk→List Mk
 | []=>[]
 | [m]=>[⟨m.sg,m.tx.dropLast⟩]
 | m::l=>m::cutL l
def lastT (l:List Mk):List UInt8:=(l.getLast?.map (·.tx)).getD []
def endK (l:List Mk) (r:List (List UInt8)):Bool:=lastT l != [10] && pkM r
def sdC (sg:List UInt8) (S:Int) (n p:Nat) (ls:List (List UInt8)):Except (Nat × Int) (List Mk × Nat × List (List UInt8)) :=
 match rdL sg S n p ls with
 | .error e=>.error e
 | .ok (l,p1,r)=>if (decide (0<n) && endK l r)=true then .ok (cutL l,p1+1,r.tail) else .ok (l,p1,r)
def hkK (k p:Nat) (ls:List (List UInt8)):Except (Nat × Int) (Hk × Nat × List (List UInt8)) :=
 match nxt p ls with
 | .error e=>.error e
 | .ok (s,r)=>match cmdP s with
  | none=>.error (p+1,3)
  | some (A,AN,B,BN)=>if k=4096 then .error (p+1,9) else match sdC [60,32] 45 AN.toNat (p+1) r with
   | .error e=>.error e
   | .ok (l1,p1,r1)=>match (if 0<AN∧0<BN then sepP p1 r1 else .ok (p1,r1)) with
    | .error e=>.error e
    | .ok (p2,r2)=>match sdC [62,32] 43 BN.toNat p2 r2 with
     | .error e=>.error e
     | .ok (l2,p3,r3)=>.ok (⟨A,AN,B,BN,l1++l2⟩,p3,r3)
def hksK:Nat→Nat→Nat→List (List UInt8)→Except (Nat × Int) (List Hk)
 | 0,_,_,_=>.ok []
 | f+1,k,p,ls=>if ls=[] then .ok [] else match hkK k p ls with
  | .error e=>.error e
  | .ok (h,p1,r)=>match hksK f (k+1) p1 r with
   | .error e=>.error e
   | .ok l=>.ok (h::l)
def Bad (X Y:Except (Nat × Int) (List Mk × Nat × List (List UInt8))):Prop:=∃ l p r,Y=.ok (l,p,markT::r)∧X=.error (p+1,3)
theorem mark_eq {s:List UInt8} (hp:∀ c∈s.dropLast,c≠10) (h:markT.isPrefixOf s=true):s=markT:=by
 rw[List.isPrefixOf_iff_prefix] at h
 obtain⟨t,rfl⟩:=h
 cases t with
 | nil=>simp
 | cons c t =>
  exfalso
  have h1:(10:UInt8)∈(markT++c::t).dropLast:=by
   rw[List.dropLast_append_of_ne_nil (by simp)]
   exact List.mem_append_left _ (by decide)
  exact hp 10 h1 rfl
theorem cutL_cons {m:Mk} {l:List Mk} (h:l≠[]):cutL (m::l)=m::cutL l:=by
 cases l with
 | nil=>exact absurd rfl h
 | cons y l=>rfl
theorem cutL_snoc (l:List Mk) (m:Mk):cutL (l++[m])=l++[⟨m.sg,m.tx.dropLast⟩]:=by
 induction l with
 | nil=>rfl
 | cons x l ih =>
  rw[List.cons_append,cutL_cons (by simp),ih]
  rfl
theorem lastT_snoc (l:List Mk) (m:Mk):lastT (l++[m])=m.tx:=by simp[lastT]
theorem sdC_zero (sg:List UInt8) (S:Int) (p:Nat) (ls:List (List UInt8)):sdC sg S 0 p ls=.ok ([],p,ls):=by
 unfold sdC rdL
 rfl
theorem lastT_cons {m:Mk} {l:List Mk} (h:l≠[]):lastT (m::l)=lastT l:=by
 cases l with
 | nil=>exact absurd rfl h
 | cons y l=>simp[lastT]
theorem rdL_len {sg:List UInt8} {S:Int} (n:Nat):∀ {p:Nat} {ls:List (List UInt8)} {l:List Mk} {p1:Nat} {r:List (List UInt8)},rdL sg S n p ls=.ok (l,p1,r)→l.length=n∧p1=p+n∧ls.drop n=r∧n≤ls.length:=by
 induction n with
 | zero =>
  intro p ls l p1 r h
  simp only[rdL] at h
  cases h
  exact⟨rfl,rfl,rfl,Nat.zero_le _⟩
 | succ n ih =>
  intro p ls l p1 r h
  simp only[rdL] at h
  split at h
  ·cases h
  ·rename_i s r0 hn
   have hls:=nxt_ok hn
   split at h
   ·split at h
    ·cases h
    ·rename_i l' q r' hq
     obtain⟨a1,a2,a3,a4⟩:=ih hq
     cases h
     subst hls
     exact⟨by simp[a1],by omega,by simpa using a3,by simp;omega⟩
   ·cases h
theorem side_both {sg:List UInt8} {S:Int} (n:Nat):∀ {p:Nat} {ls:List (List UInt8)},Plain ls→rdN sg S n p ls=sdC sg S n p ls∨Bad (rdN sg S n p ls) (sdC sg S n p ls):=by
 induction n with
 | zero =>
  intro p ls _
  left
  rw[sdC_zero]
  rfl
 | succ n ih =>
  intro p ls hP
  unfold sdC
  simp only[rdN,rdL,mkd]
  cases hn:nxt p ls with
  | error e=>left;rfl
  | ok z =>
   obtain⟨s,r⟩:=z
   dsimp only
   have hls:=nxt_ok hn
   subst hls
   have hPr:Plain r:=fun x hx=>hP x (by simp[hx])
   have hsn:∀ c∈s,c≠10:=by
    have:=hP (s++[10]) (by simp)
    simpa using this
   by_cases hpre:sg.isPrefixOf s=true
   ·rw[if_pos hpre,if_pos hpre]
    cases n with
    | zero =>
     simp only[rdN,rdL]
     have e1:((0:Nat) == 0)=true:=rfl
     rw[e1,Bool.true_and]
     have e2:lastT [(⟨S,s.drop sg.length++[10]⟩:Mk)]=s.drop sg.length++[10]:=rfl
     unfold endK
     rw[e2]
     have e3:decide (0<0+1)=true:=rfl
     rw[e3,Bool.true_and]
     cases hk:pkM r with
     | false =>
      left
      rw[if_neg (by decide),Bool.and_false,if_neg (by decide)]
     | true =>
      rw[if_pos rfl,Bool.and_true]
      by_cases hem:s.drop sg.length=[]
      ·right
       rw[if_pos hem,hem]
       rw[if_neg (by decide)]
       cases r with
       | nil=>cases hk
       | cons y r =>
        have:y=markT:=mark_eq (hPr y (by simp)) hk
        subst this
        exact⟨_,_,_,rfl,rfl⟩
      ·left
       have e4:(s.drop sg.length++[10] != [10])=true:=by
        rw[bne_iff_ne]
        intro h
        apply hem
        have:=congrArg List.length h
        simp at this
        exact List.eq_nil_of_length_eq_zero (by simpa using this)
       rw[if_neg hem,e4,if_pos rfl]
       simp[cutL]
    | succ n =>
     have e1:((n+1:Nat) == 0)=false:=rfl
     rw[e1,Bool.false_and,if_neg (by decide)]
     dsimp only
     have hi:=@ih (p+1) r hPr
     unfold sdC at hi
     cases hL:rdL sg S (n+1) (p+1) r with
     | error e =>
      rw[hL] at hi
      left
      rcases hi with hi | ⟨_,_,_,h,_⟩
      ·rw[hi]
      ·cases h
     | ok z =>
      obtain⟨l,p1,r1⟩:=z
      rw[hL] at hi
      dsimp only at hi ⊢
      have hlen:=(rdL_len _ hL).1
      have hne:l≠[]:=by
       rintro rfl
       simp at hlen
      unfold endK at hi ⊢
      rw[lastT_cons hne,cutL_cons hne]
      have e3:decide (0<n+1)=true:=decide_eq_true (by omega)
      have e4:decide (0<n+1+1)=true:=decide_eq_true (by omega)
      rw[e3] at hi
      rw[e4]
      by_cases hb:(true && (lastT l != [10] && pkM r1))=true
      ·rw[if_pos hb] at hi ⊢
       rcases hi with hi | ⟨l',p',r',h,h'⟩
       ·left
        rw[hi]
       ·right
        simp only[Except.ok.injEq,Prod.mk.injEq] at h
        obtain⟨rfl,rfl,h⟩:=h
        exact⟨_,_,r',by rw[h],by rw[h']⟩
      ·rw[if_neg hb] at hi ⊢
       rcases hi with hi | ⟨l',p',r',h,h'⟩
       ·left
        rw[hi]
       ·right
        cases h
        exact⟨_,_,_,rfl,by rw[h']⟩
   ·left
    rw[if_neg hpre,if_neg hpre]
theorem sdC_drop {sg:List UInt8} {S:Int} {n p:Nat} {ls:List (List UInt8)} {l:List Mk} {p1:Nat} {r:List (List UInt8)} (h:sdC sg S n p ls=.ok (l,p1,r)):∃ j,r=ls.drop j∧p1=p+j∧j≤ls.length:=by
 unfold sdC at h
 split at h
 ·cases h
 ·rename_i l' q r' hq
  obtain⟨a1,a2,a3,a4⟩:=rdL_len _ hq
  split at h
  ·rename_i hb
   cases h
   have hk:pkM r'=true:=by
    unfold endK at hb
    simp only[Bool.and_eq_true] at hb
    exact hb.2.2
   have h1:0<r'.length:=by
    cases r' with
    | nil=>cases hk
    | cons=>simp
   rw[← a3,List.length_drop] at h1
   exact⟨n+1,by rw[← a3,List.tail_drop],by omega,by omega⟩
  ·cases h
   exact⟨n,a3.symm,a2,a4⟩
theorem cutL_len (l:List Mk):(cutL l).length=l.length:=by
 induction l with
 | nil=>rfl
 | cons m l ih =>
  cases l with
  | nil=>rfl
  | cons y l=>rw[cutL_cons (by simp),List.length_cons,ih];rfl
theorem sdC_len {sg:List UInt8} {S:Int} {n p:Nat} {ls:List (List UInt8)} {l:List Mk} {p1:Nat} {r:List (List UInt8)} (h:sdC sg S n p ls=.ok (l,p1,r)):l.length=n:=by
 unfold sdC at h
 split at h
 ·cases h
 ·rename_i l' q r' hq
  obtain⟨a1,a2,a3,a4⟩:=rdL_len _ hq
  split at h
  ·cases h
   rw[cutL_len,a1]
  ·cases h
   exact a1
theorem sepP_drop {p p1:Nat} {ls r:List (List UInt8)} (h:sepP p ls=.ok (p1,r)):r=ls.drop 1∧p1=p+1∧1≤ls.length:=by
 unfold sepP at h
 split at h
 ·cases h
 ·rename_i s r0 hn
  have:=nxt_ok hn
  subst this
  split at h
  ·cases h
   exact⟨rfl,rfl,by simp⟩
  ·cases h
theorem hkK_drop {k p p1:Nat} {ls r:List (List UInt8)} {h:Hk} (hh:hkK k p ls=.ok (h,p1,r)):∃ j,r=ls.drop j∧p1=p+j∧1≤j∧j≤ls.length∧k≠4096:=by
 unfold hkK at hh
 split at hh
 ·cases hh
 ·rename_i s r0 hn
  have:=nxt_ok hn
  subst this
  split at hh
  ·cases hh
  ·split at hh
   ·cases hh
   ·rename_i hk
    split at hh
    ·cases hh
    ·rename_i l1 q1 r1 h1
     obtain⟨j1,b1,b2,b3⟩:=sdC_drop h1
     split at hh
     ·cases hh
     ·rename_i q2 r2 h2
      have hs:∃ j,r2=r1.drop j∧q2=q1+j∧j≤r1.length:=(by
       split at h2
       ·obtain⟨c1,c2,c3⟩:=sepP_drop h2
        exact⟨1,c1,c2,c3⟩
       ·cases h2
        exact⟨0,rfl,rfl,Nat.zero_le _⟩)
      obtain⟨j2,c1,c2,c3⟩:=hs
      split at hh
      ·cases hh
      ·rename_i l2 q3 r3 h3
       obtain⟨j3,d1,d2,d3⟩:=sdC_drop h3
       cases hh
       subst d1 c1 b1
       simp only[List.length_drop] at c3 d3
       refine⟨1+(j1+(j2+j3)),?_,by omega,by omega,by simp only[List.length_cons];omega,hk⟩
       rw[List.drop_drop,List.drop_drop,Nat.add_comm 1,List.drop_succ_cons]
theorem plain_drop {ls:List (List UInt8)} (h:Plain ls) (j:Nat):Plain (ls.drop j):=fun x hx=>h x (List.mem_of_mem_drop hx)
theorem mark_nxt (p:Nat) (r:List (List UInt8)):nxt p (markT::r)=.ok (markT.dropLast,r):=rfl
theorem mark_cmd:cmdP markT.dropLast=none:=by decide +kernel
theorem mark_sep (p:Nat) (r:List (List UInt8)):sepP p (markT::r)=.error (p+1,3):=by
 unfold sepP
 rw[mark_nxt]
 rfl
theorem mark_hk (k p:Nat) (r:List (List UInt8)):hkK k p (markT::r)=.error (p+1,3)∧hkP k p (markT::r)=.error (p+1,3):=by
 unfold hkK hkP
 rw[mark_nxt]
 dsimp only
 rw[mark_cmd]
 exact⟨rfl,rfl⟩
theorem hk_both {k p:Nat} {ls:List (List UInt8)} (hP:Plain ls) (hk:k≤4096):hkP k p ls=hkK k p ls∨∃ h p1 r,hkK k p ls=.ok (h,p1,markT::r)∧hkP k p ls=.error (p1+1,3):=by
 unfold hkP hkK
 cases hn:nxt p ls with
 | error e=>left;rfl
 | ok z =>
  obtain⟨s,r⟩:=z
  dsimp only
  have hls:=nxt_ok hn
  subst hls
  have hPr:Plain r:=fun x hx=>hP x (by simp[hx])
  cases hc:cmdP s with
  | none=>left;rfl
  | some z =>
   obtain⟨A,AN,B,BN⟩:=z
   dsimp only
   by_cases hk2:k=4096
   ·left
    rw[if_pos (by omega),if_pos hk2]
   ·rw[if_neg (by omega),if_neg hk2]
    have hr:=cmd_right hc
    rcases @side_both [60,32] 45 AN.toNat (p+1) r hPr with h1 | ⟨l,q,r',h1,h2⟩
    ·rw[h1]
     cases hs:sdC [60,32] 45 AN.toNat (p+1) r with
     | error e=>left;rfl
     | ok z =>
      obtain⟨l1,p1,r1⟩:=z
      dsimp only
      obtain⟨j,b1,_,_⟩:=sdC_drop hs
      have hP1:Plain r1:=by rw[b1];exact plain_drop hPr j
      cases hp:(if 0<AN∧0<BN then sepP p1 r1 else Except.ok (p1,r1)) with
      | error e=>left;rfl
      | ok z =>
       obtain⟨p2,r2⟩:=z
       dsimp only
       have hP2:Plain r2:=(by
        split at hp
        ·obtain⟨c1,_,_⟩:=sepP_drop hp
         rw[c1]
         exact plain_drop hP1 1
        ·cases hp
         exact hP1)
       rcases @side_both [62,32] 43 BN.toNat p2 r2 hP2 with h3 | ⟨l,q,r',h3,h4⟩
       ·left
        rw[h3]
        cases sdC [62,32] 43 BN.toNat p2 r2<;>rfl
       ·right
        rw[h3,h4]
        exact⟨_,_,_,rfl,rfl⟩
    ·rw[h1,h2]
     dsimp only
     by_cases hb:0<AN∧0<BN
     ·left
      rw[if_pos hb,mark_sep]
     ·rw[if_neg hb]
      dsimp only
      have hBN:BN.toNat=0:=(by
       have hA:AN.toNat≠0:=(by
        intro h0
        rw[h0] at h2
        cases h2)
       omega)
      rw[hBN,sdC_zero]
      right
      exact⟨_,_,_,rfl,rfl⟩
theorem hks_both (f:Nat):∀ {k p:Nat} {ls:List (List UInt8)},Plain ls→ls.length≤f→k≤4096→hksP f k p ls=hksK f k p ls:=by
 induction f with
 | zero=>intros;rfl
 | succ f ih =>
  intro k p ls hP hf hk
  simp only[hksP,hksK]
  by_cases h0:ls=[]
  ·rw[if_pos h0,if_pos h0]
  ·rw[if_neg h0,if_neg h0]
   rcases @hk_both k p ls hP hk with h | ⟨h,p1,r,h1,h2⟩
   ·rw[h]
    cases hc:hkK k p ls with
    | error e=>rfl
    | ok z =>
     obtain⟨h',p1,r⟩:=z
     obtain⟨j,b1,b2,b3,b4,b5⟩:=hkK_drop hc
     dsimp only
     rw[@ih (k+1) p1 r (by rw[b1];exact plain_drop hP j) (by rw[b1,List.length_drop];omega) (by omega)]
     cases hksK f (k+1) p1 r<;>rfl
   ·rw[h1,h2]
    dsimp only
    obtain⟨j,b1,b2,b3,b4,b5⟩:=hkK_drop h1
    have hl:(markT::r).length≤f:=by rw[b1,List.length_drop];omega
    cases f with
    | zero=>simp at hl
    | succ f =>
     simp only[hksK]
     rw[if_neg (by simp),(mark_hk (k+1) p1 r).1]
theorem prs_code (t:List UInt8):prsT t=if 1048576<t.length then .error (0,9) else hksK (splitL t).length 0 0 (splitL t):=by
 unfold prsT
 split
 ·rfl
 ·exact hks_both _ (split_plain t) (Nat.le_refl _) (by omega)
end Go.Proofs.YtgiojkhmkeocfaaGreatDoor

/- The code's reader, walked: the line between, the end of a side, a side. -/
namespace Go.Proofs.YtgiojkhmkeocfaaGreatDoor
open Go.RowKit
attribute [local go_sem] ByteArray.extract_mk no_at
structure Fr (B R:Nat) (w w':World):Prop where
 os:w'.os=w.os
 tape:w'.tape=w.tape
 output:w'.output=w.output
 size:w.heap.size≤w'.heap.size
 block:∀ k,k<B→k≠R→w'.heap[k]?=w.heap[k]?
theorem Fr.refl (B R:Nat) (w:World):Fr B R w w:=⟨rfl,rfl,rfl,Nat.le_refl _,fun _ _ _=>rfl⟩
theorem Fr.trans {B R:Nat} {w u v:World} (h:Fr B R w u) (h':Fr B R u v):Fr B R w v:=⟨h'.os.trans h.os,h'.tape.trans h.tape,h'.output.trans h.output,Nat.le_trans h.size h'.size,fun k h1 h2=>(h'.block k h1 h2).trans (h.block k h1 h2)⟩
theorem Fr.of {B R:Nat} {w u:World} (h:w.grownBy u (some R)) (hB:B≤w.heap.size):Fr B R w u:=⟨h.os,h.tape,h.output,h.size,fun k h1 h2=>h.block k (Nat.lt_of_lt_of_le h1 hB) (fun e=>h2 (Option.some.inj e))⟩
theorem Fr.own {B R:Nat} {w u:World} {g:Option Nat} (h:w.grownBy u g) (hB:B≤w.heap.size) (hg:∀ j,g=some j→B≤j):Fr B R w u:=⟨h.os,h.tape,h.output,h.size,fun k h1 _=>h.block k (Nat.lt_of_lt_of_le h1 hB) (fun e=>by have:=hg k e.symm;omega)⟩
theorem Fr.low {B R:Nat} {w u:World} (h:Below w.heap.size w u) (hB:B≤w.heap.size):Fr B R w u:=Fr.of (low_grown h _) hB
theorem Fr.grown {R:Nat} {w u:World} (h:Fr w.heap.size R w u):w.grownBy u (some R):=⟨h.os,h.tape,h.output,h.size,fun k h1 h2=>h.block k h1 (fun e=>h2 (by rw[e]))⟩
def SpQ (R:Nat) (vL:Value) (X:Except (Nat × Int) (Nat × List (List UInt8))) (w:World) (x:Ending) (w':World):Prop :=
 match X with
 | .error (a,e)=>Thr (a:Int) e x w'∧w.grownBy w' (some R)
 | .ok (p1,_)=>x=.returned (.tuple #[])∧Ry w' R vL (p1:Int)∧w.grownBy w' (some R)
theorem ndivider_f {R:Nat} {L:List (List UInt8)} {lo:Option Addr} {lc:Nat} {p:Nat} (w:World) (q:Ry w R (.slice lo L.length lc) p) (hL:HS w (.slice lo L.length lc) L) (hp:p≤L.length) (hLl:L.length≤2199023255552) (hs:∀ s∈L,s.length≤1099511627776)
  (X:Except (Nat × Int) (Nat × List (List UInt8))) (HX:Hid (sepP p (L.drop p)=X)) :
  Calls Tryz.prog 141 #[.pointer (some ⟨R,0,none⟩)] w fun x w'=>SpQ R (.slice lo L.length lc) X w x w':=by
 obtain⟨Y,hY⟩:∃ Y,nxt p (L.drop p)=Y:=⟨_,rfl⟩
 have hl:=nline_f w q hL hp hLl hs Y hY
 have hX:=HX.out
 clear HX
 unfold sepP at hX
 rw[hY] at hX
 cases Y with
 | error z =>
  obtain⟨a,e⟩:=z
  dsimp only at hX
  subst hX
  go_enter Tryz.func141,Tryz.ntmps141
  go_wp2_with fail
  refine hl.mono ?_
  rintro x w1 ⟨⟨g,rfl,hg⟩,hgr⟩
  go_wp2
  exact⟨rfl,⟨_,rfl,hg⟩,hgr⟩
 | ok z =>
  obtain⟨s,r⟩:=z
  dsimp only at hX
  by_cases h:s=[45,45,45]
  ·rw[if_pos h] at hX
   subst hX h
   go_enter Tryz.func141,Tryz.ntmps141
   go_wp2_with fail
   refine hl.mono ?_
   rintro x w1 ⟨rfl,n,rfl⟩
   have q1:=q.dN n
   have g1:=grown_drewN (low_grown (Below.refl w.heap.size w) (some R)) n
   generalize w.drewN n=W1 at q1 g1 ⊢
   obtain⟨c0,c1⟩:=q1.cells
   have f1:=q1.frozen 1
   have HQ:Hid (Ry (W1.setCell ⟨R,1,none⟩ (.int .i64 ((p:Int)+1))) R (.slice lo L.length lc) (((p+1:Nat)):Int)∧w.grownBy (W1.setCell ⟨R,1,none⟩ (.int .i64 ((p:Int)+1))) (some R)):=⟨by have:=q1.at ((p:Int)+1);simpa using this,grown_two g1 (grown_set W1 R 1 _)⟩
   clear q q1 g1 hl hY
   go_wp2
   first
    | go_end0
    | refine bodyPost_ret (results_none rfl _ _ _) rfl ?_
    | refine bodyPost_end (results_none rfl _ _ _) rfl ?_
   exact⟨rfl,HQ.out⟩
  ·rw[if_neg h] at hX
   subst hX
   have hne:(s++[10] == [45,45,45,10])=false:=(by
    rw[beq_eq_false_iff_ne]
    intro e
    have e2:s++[10]=[45,45,45]++[10]:=e
    exact h (List.append_cancel_right e2))
   have q1:=fun n=>q.dN n
   have g1:=fun n=>grown_drewN (low_grown (Below.refl w.heap.size w) (some R)) n
   go_enter Tryz.func141,Tryz.ntmps141
   go_wp2_with fail
   refine hl.mono ?_
   rintro x w1 ⟨rfl,n,rfl⟩
   go_wp2_with fail
   refine (nthrow_f 3 _ (q1 n) (by omega)).mono ?_
   rintro e w3 ⟨⟨g,rfl,hg⟩,hgr⟩
   go_wp2
   exact⟨rfl,⟨_,rfl,by simpa using hg⟩,grown_two (g1 n) hgr⟩
end Go.Proofs.YtgiojkhmkeocfaaGreatDoor

/- The code's reader, walked: the end of a side. -/
namespace Go.Proofs.YtgiojkhmkeocfaaGreatDoor
open Go.RowKit
attribute [local go_sem] ByteArray.extract_mk no_at
theorem pkM_at {L:List (List UInt8)} (hP:Plain L) {p:Nat} (h:p<L.length):pkM (L.drop p)=(L[p] == markT):=by
 rw[List.drop_eq_getElem_cons h]
 unfold pkM
 rw[Bool.eq_iff_iff,beq_iff_eq]
 constructor
 ·intro q
  exact mark_eq (hP _ (List.getElem_mem h)) q
 ·intro q
  rw[q]
  show markT.isPrefixOf markT=true
  decide
theorem nend_no {R g o:Nat} {L:List (List UInt8)} {lo:Option Addr} {lc:Nat} {p:Nat} (w:World) (q:Ry w R (.slice lo L.length lc) p) (hL:HS w (.slice lo L.length lc) L) (hPl:Plain L) (hp:p≤L.length) (hLl:L.length≤2199023255552)
  (t:List UInt8) (ct:w.cell? ⟨g,o+1,none⟩=some (.string ⟨t.toArray⟩)) (HB:Hid ((t != [10] && pkM (L.drop p))=false)) :
  Calls Tryz.prog 201 #[.pointer (some ⟨R,0,none⟩),.pointer (some ⟨g,o,none⟩)] w fun x w'=>x=.returned (.tuple #[])∧∃ n,w'=w.drewN n:=by
 obtain⟨c0,c1⟩:=q.cells
 by_cases ht:t=[10]
 ·subst ht
  clear HB hL q
  go_enter Tryz.func201,Tryz.ntmps201
  go_wp2_with fail
  go_quiet (fail)
  go_wp2
  first
   | go_end0
   | refine bodyPost_ret (results_none rfl _ _ _) rfl ?_
   | refine bodyPost_end (results_none rfl _ _ _) rfl ?_
  exact⟨rfl,_,rfl⟩
 ·have e1:(t == [10])=false:=beq_eq_false_iff_ne.2 ht
  by_cases hlt:p<L.length
  ·have hm:(L[p] == markT)=false:=(by
    have h:=HB.out
    rw[pkM_at hPl hlt] at h
    have:(t != [10])=true:=bne_iff_ne.2 ht
    rw[this,Bool.true_and] at h
    exact h)
   obtain⟨bk,off,rfl,hbk,hcl⟩:=HS.at hL (by omega)
   have d4:=hcl p hlt
   generalize L[p]=s at d4 hm
   have hm2:(s == [92,32,78,111,32,110,101,119,108,105,110,101,32,97,116,32,101,110,100,32,111,102,32,102,105,108,101,10])=false:=hm
   have hm3:(s != [92,32,78,111,32,110,101,119,108,105,110,101,32,97,116,32,101,110,100,32,111,102,32,102,105,108,101,10])=true:=(by unfold bne;rw[hm2];rfl)
   have e0:((p:Int) == (L.length:Int))=false:=beq_eq_false_iff_ne.2 (by omega)
   clear HB hL q hcl hm hPl
   have i1:(0:Int)≤(p:Int):=by omega
   have i2:(p:Int)<(L.length:Int):=by omega
   have i3:(p:Int).toNat=p:=by omega
   go_enter Tryz.func201,Tryz.ntmps201
   go_wp2_with fail
   go_quiet (fail)
   go_wp2
   first
    | go_end0
    | refine bodyPost_ret (results_none rfl _ _ _) rfl ?_
    | refine bodyPost_end (results_none rfl _ _ _) rfl ?_
   exact⟨rfl,_,rfl⟩
  ·have e0:((p:Int) == (L.length:Int))=true:=beq_iff_eq.2 (by omega)
   clear HB hL q hPl
   go_enter Tryz.func201,Tryz.ntmps201
   go_wp2_with fail
   go_quiet (fail)
   go_wp2
   first
    | go_end0
    | refine bodyPost_ret (results_none rfl _ _ _) rfl ?_
    | refine bodyPost_end (results_none rfl _ _ _) rfl ?_
   exact⟨rfl,_,rfl⟩
theorem nend_yes {R g o:Nat} {L:List (List UInt8)} {lo:Option Addr} {lc:Nat} {p:Nat} (w:World) (q:Ry w R (.slice lo L.length lc) p) (hL:HS w (.slice lo L.length lc) L) (hPl:Plain L) (hLl:L.length≤2199023255552) (hgR:R≠g)
  (T t:List UInt8) (HTt:Hid (T=t++[10])) (htl:T.length≤1099511627776) (ct:w.cell? ⟨g,o+1,none⟩=some (.string ⟨T.toArray⟩)) (cf:w.frozen? ⟨g,o+1,none⟩=false) (HB:Hid ((T != [10] && pkM (L.drop p))=true)) :
  Calls Tryz.prog 201 #[.pointer (some ⟨R,0,none⟩),.pointer (some ⟨g,o,none⟩)] w fun x w'=>x=.returned (.tuple #[])∧∃ n,w'=((w.drewN n).setCell ⟨g,o+1,none⟩ (.string ⟨t.toArray⟩)).setCell ⟨R,1,none⟩ (.int .i64 ((p:Int)+1)):=by
 obtain⟨c0,c1⟩:=q.cells
 have hb:=HB.out
 rw[Bool.and_eq_true] at hb
 have hlt:p<L.length:=(by
  by_cases h:p<L.length
  ·exact h
  ·have e:L.drop p=[]:=List.drop_eq_nil_of_le (by omega)
   rw[e] at hb
   cases hb.2)
 have e1:(T == [10])=false:=(by
  have:=bne_iff_ne.1 hb.1
  exact beq_eq_false_iff_ne.2 this)
 have hm:L[p]=markT:=(by
  have h:=hb.2
  rw[pkM_at hPl hlt,beq_iff_eq] at h
  exact h)
 obtain⟨bk,off,rfl,hbk,hcl⟩:=HS.at hL (by omega)
 have d4:=hcl p hlt
 rw[hm] at d4
 have e0:((p:Int) == (L.length:Int))=false:=beq_eq_false_iff_ne.2 (by omega)
 have f1:=q.frozen 1
 have HTS:Hid (Lib.trimSuffix T [10]=t):=(by
  show _=_
  rw[HTt.out]
  unfold Lib.trimSuffix
  rw[suf_feed,if_pos (fd_snoc t)]
  simp)
 unfold markT at d4
 clear HB hL q hcl hm hPl hb
 have i1:(0:Int)≤(p:Int):=by omega
 have i2:(p:Int)<(L.length:Int):=by omega
 have i3:(p:Int).toNat=p:=by omega
 go_enter Tryz.func201,Tryz.ntmps201
 go_wp2_with fail
 go_quiet (fail)
 go_wp2_with fail
 have c1':(w.drewN nq).cell? ⟨R,1,none⟩=_:=c1
 have ct':(w.drewN nq).cell? ⟨g,o+1,none⟩=_:=ct
 have cf':(w.drewN nq).frozen? ⟨g,o+1,none⟩=false:=cf
 have f1':(w.drewN nq).frozen? ⟨R,1,none⟩=false:=f1
 have HM:Hid (∃ k,w.drewN nq=w.drewN k):=⟨_,rfl⟩
 clear c0 c1 d4 ct cf f1
 generalize w.drewN nq=W1 at c1' ct' cf' f1' HM ⊢
 refine (Tryz.strings_TrimSuffix ⟨T.toArray⟩ ⟨#[10]⟩ W1 (by show T.length≤_;omega)).mono ?_
 rintro e w2 ⟨rfl,rfl⟩
 have e2:Lib.trimSuffix (⟨T.toArray⟩:ByteArray).data.toList (⟨#[10]⟩:ByteArray).data.toList=t:=HTS.out
 rw[e2]
 clear e2
 have c1'':(w2.setCell ⟨g,o+1,none⟩ (.string ⟨t.toArray⟩)).cell? ⟨R,1,none⟩=some (.int .i64 (p:Int)):=(by
  have h:=(grown_set w2 g (o+1) (.string ⟨t.toArray⟩)).cell c1' (fun e=>hgR (Option.some.inj e))
  exact h)
 have f1'':(w2.setCell ⟨g,o+1,none⟩ (.string ⟨t.toArray⟩)).frozen? ⟨R,1,none⟩=false:=(by
  unfold World.frozen? at f1' ⊢
  dsimp only at f1' ⊢
  rw[Below.heap_setCell _ _ _ R hgR]
  exact f1')
 go_wp2
 first
  | go_end0
  | refine bodyPost_ret (results_none rfl _ _ _) rfl ?_
  | refine bodyPost_end (results_none rfl _ _ _) rfl ?_
 obtain⟨k,hk⟩:=HM.out
 exact⟨rfl,k,by rw[← hk]⟩
end Go.Proofs.YtgiojkhmkeocfaaGreatDoor

/- The code's reader, walked: a side of a hunk. -/
namespace Go.Proofs.YtgiojkhmkeocfaaGreatDoor
open Go.RowKit
attribute [local go_sem] ByteArray.extract_mk no_at
theorem owns_fr {w u:World} {B R:Nat} {e:TypeId} {s:Nat} {v:Value} {n:Nat} {xs:List Value} (h:w.ownsRow B e s v n xs) (hg:w.grownBy u (some R)) (hR:R<B):u.ownsRow B e s v n xs:=by
 refine⟨h.1,?_⟩
 rcases h.2 with q | ⟨g,cap,cur,rfl,q2,q3,q4⟩
 ·exact .inl q
 ·refine .inr ⟨g,cap,cur,rfl,q2,?_,q4⟩
  rw[hg.block g (Array.getElem?_eq_some_iff.1 q3).1 (fun e=>by cases e;omega)]
  exact q3
theorem owns_last {w:World} {B:Nat} {v:Value} {l:List Mk} {m:Mk} (h:w.ownsRow B 103 2 v (l.length+1) (mkcells (l++[m]))):∃ g cap,v=.slice (some ⟨g,0,none⟩) (l.length+1) cap∧B≤g∧g<w.heap.size∧w.cell? ⟨g,l.length * 2+1,none⟩=some (.string ⟨m.tx.toArray⟩)∧w.frozen? ⟨g,l.length * 2+1,none⟩=false ∧
  ∀ (u:World) (t:List UInt8),u.heap[g]?=w.heap[g]?→(u.setCell ⟨g,l.length * 2+1,none⟩ (.string ⟨t.toArray⟩)).ownsRow B 103 2 v (l.length+1) (mkcells (l++[⟨m.sg,t⟩])):=by
 rcases h.2 with ⟨_,q⟩ | ⟨g,cap,cur,rfl,q2,q3,q4,q5,q6,q7⟩
 ·omega
 ·have hmk:∀ x:Mk,mkcells (l++[x])=mkcells l++[.int .u8 x.sg,.string ⟨x.tx.toArray⟩]:=fun x=>by rw[mkcells_append];rfl
  have hl:=mkcells_length l
  have hcur:cur.toList.take ((l.length+1) * 2)=mkcells l++[.int .u8 m.sg,.string ⟨m.tx.toArray⟩]:=by rw[q7,hmk]
  have hcell:cur[l.length * 2+1]?=some (.string ⟨m.tx.toArray⟩):=by
   have h1:(cur.toList.take ((l.length+1) * 2))[l.length * 2+1]?=some (.string ⟨m.tx.toArray⟩):=by
    rw[hcur,List.getElem?_append_right (by omega),hl]
    have:l.length * 2+1-l.length * 2=1:=by omega
    rw[this]
    rfl
   rw[List.getElem?_take_of_lt (by omega)] at h1
   simpa using h1
  refine⟨g,cap,rfl,q2,(Array.getElem?_eq_some_iff.1 q3).1,?_,Lib.frozen_of_heap q3 _,?_⟩
  ·rw[Lib.cell_of_heap q3]
   exact hcell
  ·intro u t hu
   have hs:=heap_setCell_same u g (l.length * 2+1) cur _ (.string ⟨t.toArray⟩) (hu.trans q3)
   refine⟨by rw[mkcells_length];simp,.inr ⟨g,cap,_,rfl,q2,hs,q4,q5,by simpa using q6,?_⟩⟩
   rw[hmk]
   have e1:(cur.setIfInBounds (l.length * 2+1) (.string ⟨t.toArray⟩)).toList=cur.toList.set (l.length * 2+1) (.string ⟨t.toArray⟩):=by simp
   rw[e1,List.take_set,hcur,List.set_append_right _ _ (by omega),hl]
   have:l.length * 2+1-l.length * 2=1:=by omega
   rw[this]
   rfl
theorem pre_feed {sg s:List UInt8} (h:∀ c∈sg,c≠10):Lib.hasPrefix (s++[10]) sg=sg.isPrefixOf s:=by
 unfold Lib.hasPrefix
 rw[Bool.eq_iff_iff,List.isPrefixOf_iff_prefix,List.isPrefixOf_iff_prefix]
 constructor
 ·intro hp
  have hp2:=List.prefix_iff_eq_take.1 hp
  by_cases hl:sg.length≤s.length
  ·rw[List.take_append_of_le_length hl] at hp2
   exact List.prefix_iff_eq_take.2 hp2
  ·exfalso
   have h3:(s++[10]).take sg.length=s++[10]:=List.take_of_length_le (by simp;omega)
   rw[h3] at hp2
   exact h 10 (by rw[hp2];simp) rfl
 ·rintro⟨t,rfl⟩
  exact⟨t++[10],by simp⟩
theorem trim_feed {sg s:List UInt8} (h:∀ c∈sg,c≠10) (hp:sg.isPrefixOf s=true):Lib.trimPrefix (s++[10]) sg=s.drop sg.length++[10]:=by
 unfold Lib.trimPrefix
 rw[pre_feed h,if_pos hp,List.drop_append_of_le_length]
 exact (List.isPrefixOf_iff_prefix.1 hp).length_le
def SdQ (B R:Nat) (vL:Value) (m0:List Mk) (X:Except (Nat × Int) (List Mk × Nat × List (List UInt8))) (w:World) (x:Ending) (w':World):Prop :=
 match X with
 | .error (a,e)=>Thr (a:Int) e x w'∧Fr B R w w'
 | .ok (l,p1,_)=>∃ v',x=.returned v'∧w'.ownsRow B 103 2 v' (m0++l).length (mkcells (m0++l))∧Ry w' R vL (p1:Int)∧Fr B R w w'
def thenL (m:List Mk) (X:Except (Nat × Int) (List Mk × Nat × List (List UInt8))):Except (Nat × Int) (List Mk × Nat × List (List UInt8)) :=
 match X with
 | .error e=>.error e
 | .ok (l,p1,r)=>.ok (m++l,p1,r)
theorem thenL_nil (X:Except (Nat × Int) (List Mk × Nat × List (List UInt8))):thenL [] X=X:=by
 unfold thenL
 rcases X with e | ⟨l,p,r⟩<;>rfl
theorem rdL_succ {sg:List UInt8} {S:Int} {n p:Nat} {ls r:List (List UInt8)} {s:List UInt8} (h:nxt p ls=.ok (s,r)) (m:List Mk):thenL m (rdL sg S (n+1) p ls)=if sg.isPrefixOf s=true then thenL (m++[⟨S,s.drop sg.length++[10]⟩]) (rdL sg S n (p+1) r) else .error (p+1,3):=by
 simp only[rdL]
 rw[h]
 dsimp only
 split
 ·cases rdL sg S n (p+1) r with
  | error e=>rfl
  | ok z=>simp[thenL]
 ·rfl
theorem nxt_rest {p:Nat} {L r:List (List UInt8)} {s:List UInt8} (h:nxt p (L.drop p)=.ok (s,r)):r=L.drop (p+1)∧p<L.length∧∃ hp:p<L.length,L[p]=s++[10]:=by
 have h1:=nxt_ok h
 have hp:p<L.length:=by
  by_cases h2:p<L.length
  ·exact h2
  ·rw[List.drop_eq_nil_of_le (by omega)] at h1
   cases h1
 have h3:=List.drop_eq_getElem_cons hp
 rw[h3] at h1
 injection h1 with h4 h5
 exact⟨h5.symm,hp,hp,h4⟩
end Go.Proofs.YtgiojkhmkeocfaaGreatDoor

/- The code's reader, walked: a side of a hunk. -/
namespace Go.Proofs.YtgiojkhmkeocfaaGreatDoor
open Go.RowKit
attribute [local go_sem] ByteArray.extract_mk no_at
def Fd (m:List Mk):Prop:=∀ x∈m,fdB x.tx=true∧x.tx.length≤1099511627776
theorem sdC_err {sg:List UInt8} {S:Int} {n p:Nat} {ls:List (List UInt8)} {e:Nat × Int} (h:rdL sg S n p ls=.error e):sdC sg S n p ls=.error e:=by
 unfold sdC
 rw[h]
theorem nside_f {B R:Nat} {L:List (List UInt8)} {lo:Option Addr} {lc:Nat} {p:Nat} (w:World) (q:Ry w R (.slice lo L.length lc) p) (HL:Hid (∀ u,Fr B R w u→HS u (.slice lo L.length lc) L)) (HPl:Hid (Plain L)) (hp:p≤L.length) (hLl:L.length≤2199023255552) (HSl:Hid (∀ s∈L,s.length≤1099511627776))
  (hB:B≤w.heap.size) (hRB:R<B) (sg:List UInt8) (HSG:Hid (∀ c∈sg,c≠10)) (S:Int) (n:Nat) (hn:n≤2147483647) (v:Value) (m0:List Mk) (hm0:m0.length≤1099511627776) (hv:w.ownsRow B 103 2 v m0.length (mkcells m0))
  (X:Except (Nat × Int) (List Mk × Nat × List (List UInt8))) (HX:Hid (sdC sg S n p (L.drop p)=X)) :
  Calls Tryz.prog 140 #[.pointer (some ⟨R,0,none⟩),v,.int .i64 (n:Int),.string ⟨sg.toArray⟩,.int .u8 S] w fun x w'=>SdQ B R (.slice lo L.length lc) m0 X w x w':=by
 obtain⟨vo,vc,rfl⟩:=(holds_of hv).form
 obtain⟨Y,hY⟩:∃ Y,rdL sg S n p (L.drop p)=Y:=⟨_,rfl⟩
 have HY:Hid (thenL [] (rdL sg S (n-0) p (L.drop p))=Y):=(by show _=_;rw[thenL_nil];exact hY)
 have HXE:Hid (∀ e,Y=.error e→X=.error e):=(by
  intro e he
  rw[← HX.out]
  exact sdC_err (hY.trans he))
 have HXO:Hid (∀ l p1 r,Y=.ok (l,p1,r)→X=if (decide (0<n) && endK l r)=true then .ok (cutL l,p1+1,r.tail) else .ok (l,p1,r)):=(by
  intro l p1 r he
  rw[← HX.out]
  unfold sdC
  rw[hY.trans he])
 have hv0:w.ownsRow B 103 2 (.slice vo m0.length vc) m0.length (mkcells (m0++[])):=(by rw[List.append_nil];exact hv)
 have HF0:Hid (Fd []∧([]:List Mk).length=0∧(m0++[]).length=m0.length):=⟨(fun x hx=>by cases hx),rfl,by rw[List.append_nil]⟩
 clear hY HX hv
 go_enter Tryz.func140,Tryz.ntmps140
 go_wp2
 go_loopw [1,14] (fun mv i wr=>∃ (k:Nat) (m:List Mk) (p' N:Nat),k≤n∧i=.int .i64 (k:Int)∧N≤1099511627776+k∧(∃ o c,mv=.slice o N c)∧wr.ownsRow B 103 2 mv N (mkcells (m0++m))∧Ry wr R (.slice lo L.length lc) (p':Int)∧Fr B R w wr∧p'≤L.length∧Hid (Fd m∧m.length=k∧(m0++m).length=N)∧Hid (thenL m (rdL sg S (n-k) p' (L.drop p'))=Y)) (fun _ i _=>n-(intOf i).toNat)
 case atStart=>exact⟨0,[],p,m0.length,Nat.zero_le _,by go_num,by omega,⟨vo,vc,rfl⟩,hv0,q,Fr.refl _ _ _,hp,HF0,HY⟩
 case round =>
 obtain⟨k,m,p1,N,hk,rfl,hNk,⟨o,c,rfl⟩,hown,q1,hF,hp1,HF,HI⟩:=hrel
 have hsz:=hF.size
 have hLr:=HL.out wr hF
 by_cases hlt:k<n
 ·obtain⟨Z,hZ⟩:∃ Z,nxt p1 (L.drop p1)=Z:=⟨_,rfl⟩
  have hl:=nline_f wr q1 hLr hp1 hLl HSl.out Z hZ
  have hnk:n-k=(n-(k+1))+1:=by omega
  cases Z with
  | error z =>
   obtain⟨a,e⟩:=z
   have hXe:X=.error (a,e):=(by
    apply HXE.out
    rw[← HI.out,hnk]
    unfold thenL rdL
    rw[hZ])
   subst hXe
   have HDone:Hid (∀ u,wr.grownBy u (some R)→Fr B R w u):=fun u hu=>hF.trans (Fr.of hu (Nat.le_trans hB hsz))
   clear HXE HXO HI hZ hown hnk
   go_wp2_with fail
   refine hl.mono ?_
   rintro x w1 ⟨⟨g,rfl,hg⟩,hgr⟩
   go_wp2
   exact⟨rfl,⟨_,rfl,hg⟩,HDone.out _ hgr⟩
  | ok z =>
   obtain⟨s,r⟩:=z
   obtain⟨hr,hpl,_,hLp⟩:=nxt_rest hZ
   have hsl:=HSl.out L[p1] (List.getElem_mem hpl)
   rw[hLp,List.length_append] at hsl
   have hst:=rdL_succ (sg:=sg) (S:=S) (n:=n-(k+1)) hZ m
   rw[← hnk,HI.out] at hst
   obtain⟨T,hT⟩:∃ T,s++[10]=T:=⟨_,rfl⟩
   obtain⟨U,hU⟩:∃ U,s.drop sg.length++[10]=U:=⟨_,rfl⟩
   have hUl:U.length≤1099511627776:=(by rw[← hU,List.length_append,List.length_drop];simp only[List.length_cons,List.length_nil] at hsl ⊢;omega)
   have hUf:fdB U=true:=(by rw[← hU];exact fd_snoc _)
   have hl2:Calls Tryz.prog 138 #[.pointer (some ⟨R,0,none⟩)] wr fun x w'=>x=.returned (.string ⟨T.toArray⟩)∧∃ n,w'=wr.drewN n:=(by
    refine hl.mono ?_
    rintro x w' ⟨h1,h2⟩
    rw[hT] at h1
    exact⟨h1,h2⟩)
   have hc:=fun u=>Tryz.strings_CutPrefix ⟨T.toArray⟩ ⟨sg.toArray⟩ u
   have hpf:Lib.hasPrefix (⟨T.toArray⟩:ByteArray).data.toList (⟨sg.toArray⟩:ByteArray).data.toList=sg.isPrefixOf s:=(by
    show Lib.hasPrefix T sg=_
    rw[← hT]
    exact pre_feed HSG.out)
   rw[hpf] at hc
   by_cases hpre:sg.isPrefixOf s=true
   ·rw[if_pos hpre,hU,hr] at hst
    have htr:Lib.trimPrefix (⟨T.toArray⟩:ByteArray).data.toList (⟨sg.toArray⟩:ByteArray).data.toList=U:=(by
     show Lib.trimPrefix T sg=_
     rw[← hT,← hU]
     exact trim_feed HSG.out hpre)
    rw[htr,hpre] at hc
    have HI2:Hid (thenL (m++[⟨S,U⟩]) (rdL sg S (n-(k+1)) (p1+1) (L.drop (p1+1)))=Y):=hst.symm
    have HF2:Hid (Fd (m++[⟨S,U⟩])∧(m++[(⟨S,U⟩:Mk)]).length=k+1∧(m0++(m++[(⟨S,U⟩:Mk)])).length=N+1):=⟨(by
     intro x hx
     rcases List.mem_append.1 hx with hx | hx
     ·exact HF.out.1 x hx
     ·rw[List.mem_singleton.1 hx]
      exact⟨hUf,hUl⟩),(by have:=HF.out.2.1;simp[this]),(by have:=HF.out.2.2;rw[← List.append_assoc,List.length_append,this];rfl)⟩
    clear hst hpf htr hpre hZ hl hLp hsl hUf hr HI HXE HXO hT hU HF hnk
    go_wp2_with fail
    refine hl2.mono ?_
    rintro x w1 ⟨rfl,nn,rfl⟩
    have q2:=q1.dN nn
    have hown2:(wr.drewN nn).ownsRow B 103 2 (.slice o N c) N (mkcells (m0++m)):=hown
    have hF2:Fr B R w (wr.drewN nn):=hF.trans ⟨rfl,rfl,rfl,Nat.le_refl _,fun _ _ _=>rfl⟩
    clear q1 hown hF hLr hl2
    generalize wr.drewN nn=W1 at q2 hown2 hF2 ⊢
    go_wp2_with fail
    refine (hc W1).mono ?_
    rintro x w2 ⟨rfl,rfl⟩
    have hsz2:=hF2.size
    have hrow:=mk_row w2 ⟨S,U⟩
    have hownA:=hown2.alloc (mkO ⟨S,U⟩)
    have qA:Ry (w2.alloc (mkO ⟨S,U⟩)) R (.slice lo L.length lc) (p1:Int):=q2.low ((Below.refl _ w2).alloc (Nat.le_refl _) _)
    have hFA:Fr B R w (w2.alloc (mkO ⟨S,U⟩)):=hF2.trans (Fr.of (World.grownBy_alloc w2 _ _) (Nat.le_trans hB hsz2))
    have HS2:Hid ((w2.alloc (mkO ⟨S,U⟩)).heap.size=w2.heap.size+1):=(by show _=_;simp)
    have hW:w2.alloc (Obj.cells #[Value.int IntKind.u8 S,Value.string ⟨U.toArray⟩] 103)=w2.alloc (mkO ⟨S,U⟩):=rfl
    have hxk:N+1≤2199023255552:=by omega
    clear hown2 q2 hF2 hc
    go_wp2_with (at_builtin;refine wpList_append_w _ (by kernel_rfl) (.tmp 27) (.tmp 31) 57 103 (.agg #[.int .u8 0,.string ⟨#[]⟩]) 2 24 rfl Tryz.underlying57 infoMk rfl (by decide) (by decide) B _ _ _ rfl hownA _ 1 (mkcells [⟨S,U⟩]) rfl hrow (mkcells_length _) (mkcells_one _) hxk (by have:=HS2.out;omega) ?_)
    intro v3 u3 hown3 hg3 _
    rw[← mkcells_append,List.append_assoc] at hown3
    have hne3:(some R:Option Nat)≠(Value.slice o N c).ownBlock:=(by
     intro e
     have:=owns_ge hownA e.symm
     omega)
    have q3:=qA.keep hg3 hne3
    have hF3:=hFA.trans (Fr.own (R:=R) hg3 (by have:=HS2.out;omega) (fun j hj=>owns_ge hownA hj))
    obtain⟨o3,c3,rfl⟩:=(holds_of hown3).form
    obtain⟨d0,d1⟩:=q3.cells
    have f1:=q3.frozen 1
    have q4:=q3.at ((p1:Int)+1)
    have hg4:=grown_set u3 R 1 (.int .i64 ((p1:Int)+1))
    have hown4:=owns_fr hown3 hg4 hRB
    have hsz3:=hF3.size
    have hF4:=hF3.trans (Fr.of hg4 (Nat.le_trans hB hsz3))
    clear hW hg3 hownA hown3 hrow qA hFA q3 hF3 hg4 HS2
    go_wp2
    refine⟨⟨k+1,m++[⟨S,U⟩],p1+1,N+1,by omega,by go_num,by omega,⟨o3,c3,rfl⟩,hown4,by simpa using q4,hF4,by omega,HF2,HI2⟩,by simp[intOf];omega⟩
   ·have hXe:X=.error (p1+1,3):=(by
     apply HXE.out
     rw[hst,if_neg hpre])
    have hpr2:sg.isPrefixOf s=false:=Bool.eq_false_iff.2 hpre
    rw[hpr2] at hc
    subst hXe
    have HDone:Hid (∀ u,wr.grownBy u (some R)→Fr B R w u):=fun u hu=>hF.trans (Fr.of hu (Nat.le_trans hB hsz))
    have q2:=fun nn=>q1.dN nn
    clear HXE HXO HI hZ hown hnk hst hpf hpre hpr2 hl hLp hsl hr hT hU
    generalize Lib.trimPrefix (⟨T.toArray⟩:ByteArray).data.toList (⟨sg.toArray⟩:ByteArray).data.toList=U2 at hc
    go_wp2_with fail
    refine hl2.mono ?_
    rintro x w1 ⟨rfl,nn,rfl⟩
    go_wp2_with fail
    refine (hc _).mono ?_
    rintro x w2 ⟨rfl,rfl⟩
    go_wp2_with fail
    refine (nthrow_f 3 _ (q2 nn) (by omega)).mono ?_
    rintro e w3 ⟨⟨g,rfl,hg⟩,hgr⟩
    go_wp2
    exact⟨rfl,⟨_,rfl,by simpa using hg⟩,HDone.out _ (grown_two (grown_drewN (low_grown (Below.refl wr.heap.size wr) (some R)) nn) hgr)⟩
 ·have hkn:k=n:=by omega
  subst hkn
  have hYv:Y=.ok (m,p1,L.drop p1):=(by
   rw[← HI.out,Nat.sub_self]
   simp[thenL,rdL])
  have hXv:=HXO.out m p1 (L.drop p1) hYv
  have hend:decide ((k:Int)<(k:Int))=false:=decide_eq_false (by omega)
  clear HXE HXO HI hYv HL
  by_cases h0:0<k
  ·have h0d:decide (0<k)=true:=decide_eq_true h0
   rw[h0d,Bool.true_and] at hXv
   obtain⟨m1,mk,hmm⟩:∃ m1 mk,m=m1++[mk]:=(by
    have hne:m≠[]:=(by
     rintro rfl
     have:=HF.out.2.1
     simp at this
     omega)
    exact⟨m.dropLast,m.getLast hne,(List.dropLast_concat_getLast hne).symm⟩)
   subst hmm
   have hfd:=HF.out.1 mk (by simp)
   obtain⟨N1,hN1⟩:∃ N1,(m0++m1).length=N1:=⟨_,rfl⟩
   have hNN:N=N1+1:=(by have:=HF.out.2.2;rw[← this,← hN1];simp;omega)
   subst hNN
   have hown':=hown
   rw[← hN1,← List.append_assoc] at hown'
   obtain⟨g,cap,hvv,hBg,hgs,d1,df,hset⟩:=owns_last hown'
   rw[hN1] at d1 df hset hvv
   injection hvv with hv1 hv2 hv3
   subst hv1 hv3
   have hgR:R≠g:=by omega
   unfold endK at hXv
   rw[lastT_snoc,cutL_snoc] at hXv
   have HNn:Hid (∀ x:Mk,(m0++(m1++[x])).length=N1+1):=(by intro x;rw[← hN1];simp;omega)
   clear hown' hN1 HF
   have j0:(0:Int)<(k:Int):=by omega
   have j1:(0:Int)≤(N1:Int):=by omega
   have j2:(N1:Int)<(N1:Int)+1:=by omega
   have j3:(N1:Int)+1-1=(N1:Int):=by omega
   have j4:IntKind.i64.wrap (N1:Int)=(N1:Int):=wrap_s (by omega) (by omega)
   cases hb:(mk.tx != [10] && pkM (L.drop p1)) with
   | false =>
    rw[hb,if_neg (by decide)] at hXv
    subst hXv
    have he:=nend_no (g:=g) (o:=N1 * 2) wr q1 hLr HPl.out hp1 hLl mk.tx d1 hb
    clear hb hset df hfd
    go_wp2_with fail
    refine he.mono ?_
    rintro x w1 ⟨rfl,nn,rfl⟩
    go_wp2
    go_ret
    exact⟨_,rfl,by rw[HNn.out];exact hown,q1,hF.trans ⟨rfl,rfl,rfl,Nat.le_refl _,fun _ _ _=>rfl⟩⟩
   | true =>
    rw[hb,if_pos rfl] at hXv
    subst hXv
    have HTt:Hid (mk.tx=mk.tx.dropLast++[10]):=fd_form hfd.1
    have he:=nend_yes (g:=g) (o:=N1 * 2) wr q1 hLr HPl.out hLl hgR mk.tx mk.tx.dropLast HTt hfd.2 d1 df hb
    have hs2:=fun nn=>hset (wr.drewN nn) mk.tx.dropLast rfl
    clear hb hset df hfd
    go_wp2_with fail
    refine he.mono ?_
    rintro x w1 ⟨rfl,nn,rfl⟩
    have hg1:=grown_set (wr.drewN nn) g (N1 * 2+1) (.string ⟨mk.tx.dropLast.toArray⟩)
    have q2:=((q1.dN nn).keep hg1 (fun e=>hgR (Option.some.inj e))).at ((p1:Int)+1)
    have hg2:=grown_set ((wr.drewN nn).setCell ⟨g,N1 * 2+1,none⟩ (.string ⟨mk.tx.dropLast.toArray⟩)) R 1 (.int .i64 ((p1:Int)+1))
    have hown2:=owns_fr (hs2 nn) hg2 hRB
    have hF1:Fr B R w (wr.drewN nn):=hF.trans ⟨rfl,rfl,rfl,Nat.le_refl _,fun _ _ _=>rfl⟩
    have hF2:=hF1.trans (Fr.own (R:=R) hg1 (Nat.le_trans hB hsz) (fun j hj=>by cases hj;exact hBg))
    have hF3:=hF2.trans (Fr.of hg2 (Nat.le_trans hB hF2.size))
    go_wp2
    go_ret
    refine⟨_,rfl,?_,by simpa using q2,hF3⟩
    rw[HNn.out,← List.append_assoc]
    exact hown2
  ·have h0d:decide (0<k)=false:=decide_eq_false h0
   rw[h0d,Bool.false_and,if_neg (by decide)] at hXv
   subst hXv
   have j0:¬ (0:Int)<(k:Int):=by omega
   go_wp2
   go_ret
   exact⟨_,rfl,by rw[HF.out.2.2];exact hown,q1,hF⟩
end Go.Proofs.YtgiojkhmkeocfaaGreatDoor

/- The plain Parse of the reference, walked anew over the normal form's texts. -/
namespace Go.Proofs.YtgiojkhmkeocfaaGreatDoor
open Pn Go.RowKit
attribute [local go_sem] no_at
theorem ret_pair {k k':IntKind} {a b a' b':Int} (h:a=a') (h':b=b'):Ending.returned (.tuple #[.int k a,.int k' b])=.returned (.tuple #[.int k a',.int k' b']):=by rw[h,h']
end Go.Proofs.YtgiojkhmkeocfaaGreatDoor

/- The code's isNumber and Parse of layer 1, walked anew over the normal form's texts: what they return is what the plain functions isNum, parseV and parseE say. -/
namespace Go.Proofs.YtgiojkhmkeocfaaGreatDoor
open Pn Go.RowKit
attribute [local go_sem] no_at
theorem nisNumber_loop (L:List UInt8) (w:World) (hl:L.length≤maxLen) (h0:0<L.length) (hz:(((L[0].toNat:Int) == 48)=false)∨((((L[0].toNat:Int) == 48)=true)∧(L.length:Int)≤1))
  (HY:Hid ((∀ k (hk:k<L.length),48≤L[k].toNat∧L[k].toNat≤57)→isNum L=true)) :
  Calls Tryz.prog 275 #[.string ⟨L.toArray⟩] w fun e w'=>e=.returned (.bool (isNum L))∧Below w.heap.size w w':=by
 unfold maxLen at hl
 have hne:L.isEmpty=false:=by cases L;simp at h0;rfl
 have hnil:¬ L=[]:=by intro h;rw[h] at h0;simp at h0
 rcases hz with hz | ⟨hz,hz1⟩
 all_goals
  go_enter Tryz.func275,Tryz.ntmps275
  go_wp2
  go_loopw [] (fun wr=>∃ pos:Nat,pos≤L.length∧wr.heap[w.heap.size]?=some (.stringIter ⟨L.toArray⟩ pos)∧Below w.heap.size w wr∧(∀ k (hk:k<L.length),k<pos→48≤L[k].toNat∧L[k].toNat≤57)) (fun wr=>L.length-wr.iterPos w.heap.size)
  case atStart =>
   refine⟨0,Nat.zero_le _,World.iter_heap w _ 0,(Below.refl _ w).alloc (Nat.le_refl _) _,fun k _ h=>by omega⟩
  case round =>
   obtain⟨pos,hp,hit,hbr,hall⟩:=hrel
   have HA:Hid (∀ k (hk:k<L.length),k<pos→48≤L[k].toNat∧L[k].toNat≤57):=hall
   clear hall
   have hss:(⟨L.toArray⟩:ByteArray).size=L.length:=rfl
   by_cases hlt:pos<L.length
   ·by_cases ha:L[pos].toNat<128
    ·have hnx:∀ ty,(Instr.next (.pointer (some ⟨w.heap.size,0,none⟩)) true ty).run Tryz.prog wr=_:=fun ty=>Lib.run_next_ascii_at wr w.heap.size ⟨L.toArray⟩ pos ty hit hlt ha
     have hit2:=Lib.iterAt_heap wr w.heap.size ⟨L.toArray⟩ pos (pos+1) hit
     have hbr2:=Lib.below_iterAt hbr (k:=w.heap.size) (Nat.le_refl _) ⟨L.toArray⟩ (pos+1)
     by_cases hd:48≤L[pos].toNat∧L[pos].toNat≤57
     ·obtain⟨hd1,hd2⟩:=hd
      go_wp2
      go_roundw
      case rel =>
       refine⟨pos+1,by omega,hit2,hbr2,fun k hk h=>?_⟩
       by_cases e:k=pos
       ·subst e;exact⟨hd1,hd2⟩
       ·exact HA.out k hk (by omega)
      case measure=>simp only[World.iterPos,hit,hit2];omega
     ·have HN:Hid (isNum L=false):=isNum_bad pos hlt hd
      by_cases hd1:L[pos].toNat<48
      ·clear hd
       go_wp2
       go_ret
       exact⟨ret_bool HN.out.symm,hbr2⟩
      ·have hd2:57<L[pos].toNat:=by omega
       clear hd
       go_wp2
       go_ret
       exact⟨ret_bool HN.out.symm,hbr2⟩
    ·have HN:Hid (isNum L=false):=isNum_bad pos hlt (by omega)
     have hdh:=(decode_high ⟨L.toArray⟩ pos hlt (by show 128≤L[pos].toNat;omega)).1
     have hnx:∀ ty,(Instr.next (.pointer (some ⟨w.heap.size,0,none⟩)) true ty).run Tryz.prog wr=_:=fun ty=>Lib.run_next_any_at wr w.heap.size ⟨L.toArray⟩ pos ty hit hlt
     have hbr2:=Lib.below_iterAt hbr (k:=w.heap.size) (Nat.le_refl _) ⟨L.toArray⟩ (pos+(Utf8.decode ⟨L.toArray⟩ pos).2)
     have hdl:=decode_le ⟨L.toArray⟩ pos
     generalize Utf8.decode ⟨L.toArray⟩ pos=dd at *
     have q1:¬ ((dd.1:Int)<48):=by omega
     have q2:57<(dd.1:Int):=by omega
     go_wp2
     go_ret
     exact⟨ret_bool HN.out.symm,hbr2⟩
   ·have hnx:∀ ty,(Instr.next (.pointer (some ⟨w.heap.size,0,none⟩)) true ty).run Tryz.prog wr=_:=fun ty=>Lib.run_next_end_at wr w.heap.size ⟨L.toArray⟩ pos ty hit hlt
    have HN:Hid (isNum L=true):=HY.out fun k hk=>HA.out k hk (by omega)
    go_wp2
    go_ret
    exact⟨ret_bool HN.out.symm,hbr⟩
theorem nisNumber_any (l:List UInt8) (w:World) (hl:l.length≤maxLen) :
  Calls Tryz.prog 275 #[.string ⟨l.toArray⟩] w fun e w'=>e=.returned (.bool (isNum l))∧Below w.heap.size w w':=by
 match l,hl with
 | [],_ =>
  go_enter Tryz.func275,Tryz.ntmps275
  go_wp2
  go_ret
  exact⟨rfl,Below.refl _ _⟩
 | [c],hl =>
  refine nisNumber_loop [c] w hl (by simp) ?_ (isNum_yes (by simp))
  cases h:((([c]:List UInt8)[0].toNat:Int) == 48)
  ·exact .inl rfl
  ·exact .inr ⟨rfl,by simp⟩
 | c::d::t,hl =>
  by_cases h:c.toNat=48
  ·have hb:((c.toNat:Int) == 48)=true:=by simp;omega
   have HN:Hid (isNum (c::d::t)=false):=isNum_zero h
   have hl2:(1:Int)<(t.length:Int)+1+1:=by omega
   clear h
   go_enter Tryz.func275,Tryz.ntmps275
   go_wp2
   go_ret
   exact⟨ret_bool HN.out.symm,Below.refl _ _⟩
  ·refine nisNumber_loop (c::d::t) w hl (by simp) (.inl ?_) (isNum_yes (by simp[h]))
   simp;omega
theorem nParse_any (l:List UInt8) (w:World) (hl:l.length≤maxLen) :
  Calls Tryz.prog 245 #[.string ⟨l.toArray⟩] w fun e w'=>e=.returned (.tuple #[.int .i64 (parseV l),.int .i64 (parseE l)])∧Below w.heap.size w w':=by
 go_enter Tryz.func245,Tryz.ntmps245
 go_wp2_with fail
 refine (nisNumber_any l _ hl).mono ?_
 rintro e w1 ⟨rfl,hb1⟩
 unfold maxLen at hl
 cases hn:isNum l
 ·have HN:Hid (isNum l=false):=hn
  go_wp2
  go_ret2
  have h:=parse_no HN.out
  exact⟨ret_pair h.1 h.2,hb1⟩
 ·have HN:Hid (isNum l=true):=hn
  have hal:=isNum_all hn
  have HAL:Hid (l.all digB=true):=hal
  clear hal
  go_wp2
  go_loopw [4] (fun n wr=>∃ (pos:Nat) (v:Int),pos≤l.length∧n=.int .i64 v∧0≤v∧v≤2147483647∧wr.heap[w1.heap.size]?=some (.stringIter ⟨l.toArray⟩ pos)∧Below w.heap.size w wr∧sat v (l.drop pos)=sat 0 l) (fun _ wr=>l.length-wr.iterPos w1.heap.size)
  case atStart =>
   refine⟨0,0,Nat.zero_le _,rfl,by omega,by omega,World.iter_heap w1 _ 0,hb1.alloc hb1.size _,rfl⟩
  case round =>
   obtain⟨pos,v,hp,rfl,hv0,hv1,hit,hbr,hsat⟩:=hrel
   have HS:Hid (sat v (l.drop pos)=sat 0 l):=hsat
   clear hsat
   have hss:(⟨l.toArray⟩:ByteArray).size=l.length:=rfl
   have hz1:=hb1.size
   by_cases hlt:pos<l.length
   ·have hd:=all_at HAL.out pos hlt
    obtain⟨hd1,hd2⟩:=hd
    have HS2:Hid (sat (min (v * 10+((l[pos].toNat:Int)-48)) 2147483648) (l.drop (pos+1))=sat 0 l):=by
     show sat _ _=_
     rw[← sat_step hlt];exact HS.out
    have hnx:∀ ty,(Instr.next (.pointer (some ⟨w1.heap.size,0,none⟩)) true ty).run Tryz.prog wr=_:=fun ty=>Lib.run_next_ascii_at wr w1.heap.size ⟨l.toArray⟩ pos ty hit hlt (by show l[pos].toNat<128;omega)
    have hit2:=Lib.iterAt_heap wr w1.heap.size ⟨l.toArray⟩ pos (pos+1) hit
    have hbr2:=Lib.below_iterAt hbr (k:=w1.heap.size) hb1.size ⟨l.toArray⟩ (pos+1)
    by_cases hfar:(2147483647-((l[pos].toNat:Int)-48)) / 10<v
    ·have HF:Hid (sat 0 l=2147483648):=by
      have e:min (v * 10+((l[pos].toNat:Int)-48)) 2147483648=2147483648:=by omega
      have h:=HS2.out
      rw[e,sat_top _ (all_drop HAL.out _)] at h
      exact h.symm
     go_wp2
     go_ret2
     have h:=parse_far HN.out HF.out
     exact⟨ret_pair h.1 h.2,hbr2⟩
    ·go_wp2
     go_roundw
     case rel =>
      refine⟨pos+1,v * 10+((l[pos].toNat:Int)-48),by omega,rfl,by omega,by omega,hit2,hbr2,?_⟩
      have e:min (v * 10+((l[pos].toNat:Int)-48)) 2147483648=v * 10+((l[pos].toNat:Int)-48):=by omega
      rw[← HS2.out,e]
     case measure=>simp only[World.iterPos,hit,hit2];omega
   ·have hnx:∀ ty,(Instr.next (.pointer (some ⟨w1.heap.size,0,none⟩)) true ty).run Tryz.prog wr=_:=fun ty=>Lib.run_next_end_at wr w1.heap.size ⟨l.toArray⟩ pos ty hit hlt
    have HF:Hid (sat 0 l=v):=by
     have h:=HS.out
     rw[List.drop_eq_nil_of_le (by omega)] at h
     exact h.symm
    go_wp2
    go_ret2
    have h:=parse_ok HN.out HF.out hv1
    exact⟨ret_pair h.1 h.2,hbr⟩
end Go.Proofs.YtgiojkhmkeocfaaGreatDoor
