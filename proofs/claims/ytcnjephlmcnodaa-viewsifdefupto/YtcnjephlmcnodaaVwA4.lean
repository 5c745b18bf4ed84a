/-
  Texts that belong together, joined: VcE, VcF, VcG, VcH, ViX, ViY, ViZ.
-/
import Derived.Test.YtcnjephlmcnodaaVwA3
import Derived.Laws.EntriesVeiled

set_option maxHeartbeats 16000000
set_option maxRecDepth 100000
namespace Go.Proofs.Ytcnjephlmcnodaa

section
open Go.RowKit Go.Proofs.Ytcnjephlmcnodaa.Tx
attribute [local go_sem] Zbn
def dgI (n:Int):Bool:=decide (48≤n∧n≤57)
def lzI (n:Int):Bool:=decide (65≤n∧n≤90∨97≤n∧n≤122)
theorem ZaJ (c:UInt8):dgI c.toNat=dgB c:=by
 unfold dgI dgB
 rw[Bool.eq_iff_iff]
 simp only[decide_eq_true_eq,Bool.and_eq_true]
 omega
theorem Zbh (c:UInt8):ltB c=(lzI c.toNat || c == 95):=by
 have h9:(c == 95)=decide (c.toNat=95):=by
  rw[Bool.eq_iff_iff,beq_iff_eq,decide_eq_true_eq]
  constructor
  ·rintro rfl;rfl
  ·intro h;exact UInt8.toNat_inj.1 h
 unfold lzI ltB
 rw[h9,Bool.eq_iff_iff]
 simp only[decide_eq_true_eq,Bool.or_eq_true,Bool.and_eq_true]
 omega
theorem ZbV (n:Int) (w:World) :
  Calls Try.prog 20 #[.int .u8 n] w fun e w'=>e=.returned (.bool (dgI n))∧w=w':=by
 go_enter Try.func20,Try.ntmps20
 go_wp2
 all_goals go_ret
 all_goals exact⟨ret_bool (by rw[Bool.eq_iff_iff];simp[dgI];omega),rfl⟩
theorem Zca (n:Int) (w:World) :
  Calls Try.prog 21 #[.int .u8 n] w fun e w'=>e=.returned (.bool (lzI n))∧w=w':=by
 go_enter Try.func21,Try.ntmps21
 go_wp2
 all_goals go_ret
 all_goals exact⟨ret_bool (by rw[Bool.eq_iff_iff];simp[lzI];omega),rfl⟩
theorem ZbW {n:Int} {b:Bool} (h:dgI n=b) (w:World) :
  Calls Try.prog 20 #[.int .u8 n] w fun e w'=>e=.returned (.bool b)∧w=w':=by
 subst h
 exact ZbV n w
theorem Zcb {n:Int} {b:Bool} (h:lzI n=b) (w:World) :
  Calls Try.prog 21 #[.int .u8 n] w fun e w'=>e=.returned (.bool b)∧w=w':=by
 subst h
 exact Zca n w
def okB (c:UInt8):Bool:=ltB c || dgB c
theorem Zaz (c:UInt8) (t:List UInt8) (hd:dgB c=false):cnB (c::t)=(decide ((c::t).length≤64) && (c::t).all okB):=by
 have e:okB c=ltB c:=by unfold okB;rw[hd,Bool.or_false]
 show (decide ((c::t).length≤64) && ltB c && t.all okB)=_
 rw[List.all_cons,e,Bool.and_assoc]
theorem ZaA (c:UInt8) (t:List UInt8) (hd:dgB c=true):cnB (c::t)=false:=by
 have:ltB c=false:=by
  unfold dgB at hd
  simp only[Bool.and_eq_true,decide_eq_true_eq] at hd
  rw[Zbh,Bool.or_eq_false_iff]
  refine⟨?_,?_⟩
  ·unfold lzI
   rw[decide_eq_false_iff_not]
   omega
  ·rw[beq_eq_false_iff_ne]
   rintro rfl
   revert hd
   decide
 show (decide ((c::t).length≤64) && ltB c && t.all okB)=_
 rw[this]
 simp
theorem Zcc (l:List UInt8) (w:World) (b:Bool) (HB:Hid (cnB l=b)) :
  Calls Try.prog 7 #[.string ⟨l.toArray⟩] w fun e w'=>e=.returned (.bool b)∧w'=w:=by
 by_cases h0:l=[]
 ·subst h0
  have HE:Hid (false=b):=HB.out
  clear HB
  go_enter Try.func7,Try.ntmps7
  go_wp2
  go_ret
  exact⟨by rw[← HE.out];rfl,rfl⟩
 ·by_cases h2:l.length≤64
  ·have h3:¬ (64:Int)<(l.length:Int):=by omega
   have hl0:0<l.length:=List.length_pos_iff.2 h0
   obtain⟨c0,t0,rfl⟩:=List.exists_cons_of_ne_nil h0
   have h3':¬ (64:Int)<(t0.length:Int)+1:=by rw[List.length_cons] at h2;omega
   have i1:(0:Int)<(t0.length:Int)+1:=by omega
   cases hD0:dgB c0 with
   | true =>
    have HE:Hid (false=b):=(by show _=_;rw[← HB.out,ZaA _ _ hD0])
    have HD:=fun u=>ZbW (n:=c0.toNat) (b:=true) (by rw[ZaJ,hD0]) u
    clear HB hD0 h0
    go_enter Try.func7,Try.ntmps7
    go_wp2_with fail
    refine (HD _).mono ?_
    rintro e w1 ⟨rfl,rfl⟩
    clear HD
    go_wp2
    go_ret
    exact⟨by rw[← HE.out];rfl,rfl⟩
   | false =>
    have HD:=fun u=>ZbW (n:=c0.toNat) (b:=false) (by rw[ZaJ,hD0]) u
    have HI0:Hid (((c0::t0).drop 0).all okB=b):=(by
     have h:=HB.out
     rw[Zaz _ _ hD0,decide_eq_true h2,Bool.true_and] at h
     exact h)
    clear HB hD0 h0
    go_enter Try.func7,Try.ntmps7
    go_wp2_with fail
    refine (HD _).mono ?_
    rintro e w1 ⟨rfl,rfl⟩
    clear HD
    generalize c0::t0=l at *
    go_wp2
    go_loopw [19] (fun i wr=>∃ k:Nat,k≤l.length∧i=.int .i64 k∧wr=w∧Hid ((l.drop k).all okB=b)) (fun i _=>l.length-(intOf i).toNat)
    case atStart=>exact⟨0,Nat.zero_le _,by go_num,rfl,HI0⟩
    case round =>
    obtain⟨k,hk,rfl,rfl,HI⟩:=hrel
    clear HI0
    by_cases hlt:k<l.length
    ·have HI2:=HI.out
     rw[List.drop_eq_getElem_cons hlt,List.all_cons] at HI2
     have i1:(0:Int)≤(k:Int):=by omega
     have i2:(k:Int)<(l.length:Int):=by omega
     obtain⟨c,hc⟩:∃ c,l[k]=c:=⟨_,rfl⟩
     rw[hc] at HI2
     have hcn:=c.toNat_lt
     unfold okB at HI2
     rw[Zbh] at HI2
     clear HI
     cases hL:lzI c.toNat with
     | true =>
      rw[hL,Bool.true_or,Bool.true_or,Bool.true_and] at HI2
      have HI3:Hid ((l.drop (k+1)).all okB=b):=HI2
      have HC:=fun u=>Zcb (n:=c.toNat) (b:=true) hL u
      clear HI2 hL
      go_wp2_with fail
      refine (HC _).mono ?_
      rintro e w1 ⟨rfl,rfl⟩
      clear HC
      go_wp2
      exact⟨⟨k+1,by omega,by go_num,by first | rfl | trivial,HI3⟩,by simp[intOf];omega⟩
     | false =>
      rw[hL,Bool.false_or] at HI2
      have HC:=fun u=>Zcb (n:=c.toNat) (b:=false) hL u
      clear hL
      cases hD:dgB c with
      | true =>
       rw[hD,Bool.or_true,Bool.true_and] at HI2
       have HI3:Hid ((l.drop (k+1)).all okB=b):=HI2
       have HG:=fun u=>ZbW (n:=c.toNat) (b:=true) (by rw[ZaJ,hD]) u
       clear HI2 hD
       go_wp2_with fail
       refine (HC _).mono ?_
       rintro e w1 ⟨rfl,rfl⟩
       clear HC
       go_wp2_with fail
       refine (HG _).mono ?_
       rintro e w1 ⟨rfl,rfl⟩
       clear HG
       go_wp2
       exact⟨⟨k+1,by omega,by go_num,by first | rfl | trivial,HI3⟩,by simp[intOf];omega⟩
      | false =>
       have HG:=fun u=>ZbW (n:=c.toNat) (b:=false) (by rw[ZaJ,hD]) u
       rw[hD,Bool.or_false] at HI2
       clear hD
       by_cases hU:c=95
       ·subst hU
        rw[show ((95:UInt8) == 95)=true from rfl,Bool.true_and] at HI2
        have HI3:Hid ((l.drop (k+1)).all okB=b):=HI2
        have j1:(((95:UInt8).toNat:Int) != 95)=false:=rfl
        clear HI2
        go_wp2_with fail
        refine (HC _).mono ?_
        rintro e w1 ⟨rfl,rfl⟩
        clear HC
        go_wp2_with fail
        refine (HG _).mono ?_
        rintro e w1 ⟨rfl,rfl⟩
        clear HG
        go_wp2
        exact⟨⟨k+1,by omega,by go_num,by first | rfl | trivial,HI3⟩,by simp[intOf];omega⟩
       ·rw[beq_eq_false_iff_ne.2 hU,Bool.false_and] at HI2
        have HE:Hid (false=b):=HI2
        have j1:((c.toNat:Int) != 95)=true:=(by
         rw[bne_iff_ne]
         intro e
         apply hU
         apply UInt8.toNat_inj.1
         have:c.toNat=95:=by omega
         exact this)
        clear HI2 hU
        go_wp2_with fail
        refine (HC _).mono ?_
        rintro e w1 ⟨rfl,rfl⟩
        clear HC
        go_wp2_with fail
        refine (HG _).mono ?_
        rintro e w1 ⟨rfl,rfl⟩
        clear HG
        go_wp2
        go_ret
        exact⟨by rw[← HE.out];rfl,rfl⟩
    ·have HE:Hid (true=b):=(by
      have h:=HI.out
      rw[List.drop_of_length_le (by omega)] at h
      exact h)
     have hend:¬ (k:Int)<(l.length:Int):=by omega
     clear HI
     go_wp2
     go_ret
     exact⟨by rw[← HE.out];rfl,rfl⟩
  ·have HE:Hid (false=b):=(by
    show _=_
    rw[← HB.out]
    cases l with
    | nil=>exact absurd rfl h0
    | cons c t =>
     show false=(decide ((c::t).length≤64) && ltB c && t.all okB)
     rw[decide_eq_false h2]
     simp)
   have h3:(64:Int)<(l.length:Int):=by omega
   go_enter Try.func7,Try.ntmps7
   go_wp2
   go_ret
   exact⟨by rw[← HE.out];rfl,rfl⟩
end

section
open Go.RowKit Go.Proofs.Ytcnjephlmcnodaa.Tx
attribute [local go_sem] Zbn
def cmL (nm:List UInt8):Nat→List UInt8
 | 1=>[35,105,102,100,101,102,32]++nm
 | 2=>[35,105,102,110,100,101,102,32]++nm
 | 3=>[35,101,108,115,101,32,47,42,32]++nm++[32,42,47]
 | 4=>[35,101,110,100,105,102,32,47,42,32]++nm++[32,42,47]
 | _=>[35,101,110,100,105,102,32,47,42,32,33,32]++nm++[32,42,47]
theorem Zat (nm:List UInt8) (k:Nat):cmL nm k++[10]=cmT nm k:=by
 unfold cmL cmT
 split<;>simp
theorem Zau (nm:List UInt8) (k:Nat):(cmL nm k).length≤nm.length+16:=by
 unfold cmL
 split<;>simp<;>omega
theorem Zaw {nm:List UInt8} (h:∀ c∈nm,c≠10) (k:Nat):∀ c∈cmL nm k,c≠10:=by
 have hc:∀ (p s:List UInt8),(∀ c∈p,c≠10)→(∀ c∈s,c≠10)→∀ c∈p++nm++s,c≠10:=by
  intro p s hp hs c hc
  rcases List.mem_append.1 hc with hc | hc
  ·rcases List.mem_append.1 hc with hc | hc
   ·exact hp c hc
   ·exact h c hc
  ·exact hs c hc
 unfold cmL
 split
 ·have:=hc [35,105,102,100,101,102,32] [] (by decide) (by simp)
  rwa [List.append_nil] at this
 ·have:=hc [35,105,102,110,100,101,102,32] [] (by decide) (by simp)
  rwa [List.append_nil] at this
 ·exact hc _ _ (by decide) (by decide)
 ·exact hc _ _ (by decide) (by decide)
 ·exact hc _ _ (by decide) (by decide)
theorem bare_no {s:List UInt8} (h:∀ c∈s,c≠10):bareT s=s:=by
 have hf:fdB s=false:=by
  unfold fdB
  rw[beq_eq_false_iff_ne]
  intro e
  obtain⟨t,rfl⟩:=List.getLast?_eq_some_iff.1 e
  exact h 10 (by simp) rfl
 unfold bareT
 rw[if_neg (by rw[hf];decide)]
theorem Zav {nm:List UInt8} (h:∀ c∈nm,c≠10) (k:Nat):wlL [cmL nm k]=[cmT nm k]:=by
 simp only[wlL,List.map_cons,List.map_nil,bare_no (Zaw h k),Zat]
def cmC (nm:List UInt8):Array Value:=#[.string ⟨(cmL nm 1).toArray⟩,.string ⟨(cmL nm 2).toArray⟩,.string ⟨(cmL nm 3).toArray⟩,.string ⟨(cmL nm 4).toArray⟩,.string ⟨(cmL nm 5).toArray⟩]
theorem ZbU (nm:List UInt8) (w:World) (hn:nm.length≤1099511627776) :
  Calls Try.prog 11 #[.string ⟨nm.toArray⟩] w fun e w'=>e=.returned (.agg (cmC nm))∧Below w.heap.size w w':=by
 have q1:=Zad (x:=[35,105,102,100,101,102,32]) (y:=nm) (by unfold Fits;simp only[List.length_cons,List.length_nil];omega) Try.prog
 have q2:=Zad (x:=[35,105,102,110,100,101,102,32]) (y:=nm) (by unfold Fits;simp only[List.length_cons,List.length_nil];omega) Try.prog
 have q3:=Zad (x:=[35,101,108,115,101,32,47,42,32]) (y:=nm) (by unfold Fits;simp only[List.length_cons,List.length_nil];omega) Try.prog
 have q4:=Zad (x:=[35,101,110,100,105,102,32,47,42,32]) (y:=nm) (by unfold Fits;simp only[List.length_cons,List.length_nil];omega) Try.prog
 have q5:=Zad (x:=[35,101,110,100,105,102,32,47,42,32,33,32]) (y:=nm) (by unfold Fits;simp only[List.length_cons,List.length_nil];omega) Try.prog
 have r3:=Zad (x:=[35,101,108,115,101,32,47,42,32]++nm) (y:=[32,42,47]) (by unfold Fits;simp only[List.length_append,List.length_cons,List.length_nil];omega) Try.prog
 have r4:=Zad (x:=[35,101,110,100,105,102,32,47,42,32]++nm) (y:=[32,42,47]) (by unfold Fits;simp only[List.length_append,List.length_cons,List.length_nil];omega) Try.prog
 have r5:=Zad (x:=[35,101,110,100,105,102,32,47,42,32,33,32]++nm) (y:=[32,42,47]) (by unfold Fits;simp only[List.length_append,List.length_cons,List.length_nil];omega) Try.prog
 obtain⟨s1,h1⟩:∃ s,[35,105,102,100,101,102,32]++nm=s:=⟨_,rfl⟩
 obtain⟨s2,h2⟩:∃ s,[35,105,102,110,100,101,102,32]++nm=s:=⟨_,rfl⟩
 obtain⟨s3,h3⟩:∃ s,[35,101,108,115,101,32,47,42,32]++nm=s:=⟨_,rfl⟩
 obtain⟨s4,h4⟩:∃ s,[35,101,110,100,105,102,32,47,42,32]++nm=s:=⟨_,rfl⟩
 obtain⟨s5,h5⟩:∃ s,[35,101,110,100,105,102,32,47,42,32,33,32]++nm=s:=⟨_,rfl⟩
 rw[h1] at q1
 rw[h2] at q2
 rw[h3] at q3 r3
 rw[h4] at q4 r4
 rw[h5] at q5 r5
 obtain⟨t3,g3⟩:∃ s,s3++[32,42,47]=s:=⟨_,rfl⟩
 obtain⟨t4,g4⟩:∃ s,s4++[32,42,47]=s:=⟨_,rfl⟩
 obtain⟨t5,g5⟩:∃ s,s5++[32,42,47]=s:=⟨_,rfl⟩
 rw[g3] at r3
 rw[g4] at r4
 rw[g5] at r5
 have HC:Hid (cmC nm=#[.string ⟨s1.toArray⟩,.string ⟨s2.toArray⟩,.string ⟨t3.toArray⟩,.string ⟨t4.toArray⟩,.string ⟨t5.toArray⟩]):=(by
  show _=_
  rw[← h1,← h2,← g3,← g4,← g5,← h3,← h4,← h5]
  rfl)
 clear h1 h2 h3 h4 h5 g3 g4 g5
 rw[HC.out]
 go_enter Try.func11,Try.ntmps11
 go_wp2
 exact bodyPost_ret (results_cell_row rfl _ _ w.heap.size 42 _ (0,0) _ rfl (heap_alloc_new w _) Try.underlying42 rfl (by kernel_rfl)) rfl ⟨rfl,(Below.refl _ w).alloc (Nat.le_refl _) _⟩
end

section
open Go.RowKit Go.Proofs.Ytcnjephlmcnodaa.Tx
attribute [local go_sem] Zbn
theorem ZaS {w u:World} {b k:Nat} {RS:List (Nat × Obj)} {T x:List UInt8} (h:Vsd w b RS T u) (hk:(k,Obj.cells #[.string ⟨x.toArray⟩] 9)∈RS):HS u (.slice (some ⟨k,0,none⟩) 1 1) [x]:=by
 refine .inr ⟨⟨k,0,none⟩,1,rfl,Nat.le_refl _,fun j v hj=>?_⟩
 match j,hj with
 | 0,hj =>
  have:v=.string ⟨x.toArray⟩:=(Option.some.inj hj).symm
  subst this
  have:=h.cell hk 0
  simpa [Addr.add] using this
theorem ZbZ (w:World) (b:Nat) (RS:List (Nat × Obj)) (X:List (List UInt8)) (vx:Value) (HX:Hid (∀ T u,Vsd w b RS T u→HS u vx X)) (hl:X.length≤1099511627776) (HT:Hid (∀ s∈X,s.length≤1099511627776)) (T Z:List UInt8) (HZ:Hid (T++(wlL X).flatten=Z)) (hZ:Z.length≤70368744177664) (u:World) (hu:Vsd w b RS T u) :
  Calls Try.prog 8 #[vx,.pointer (some ⟨b,0,none⟩)] u fun e u'=>e=.returned (.tuple #[])∧Vsd w b RS Z u':=by
 obtain⟨ao,ca,rfl⟩:=Holds.form (HX.out T u hu)
 have H0:Hid (T++(wlL (X.drop 0)).flatten=Z):=HZ.out
 clear HZ
 go_enter Try.func8,Try.ntmps8
 go_wp2
 go_loopw [9] (fun i wr=>∃ (k:Nat) (P:List UInt8),k≤X.length∧i=.int .i64 (k:Int)∧Vsd w b RS P wr∧Hid (P++(wlL (X.drop k)).flatten=Z)) (fun i _=>X.length-(intOf i).toNat)
 case atStart=>exact⟨0,T,Nat.zero_le _,by go_num,hu,H0⟩
 case round =>
 clear H0 hu
 obtain⟨k,P,hk,rfl,hP,HI⟩:=hrel
 by_cases hlt:k<X.length
 ·obtain⟨bk,off,rfl,hbk,hc⟩:=HS.at (HX.out P wr hP) (by omega)
  have c0:=hc k hlt
  have hI:=HI.out
  have l3:=HT.out X[k] (List.getElem_mem hlt)
  rw[List.drop_eq_getElem_cons hlt] at hI
  obtain⟨x,hx⟩:∃ x,X[k]=x:=⟨_,rfl⟩
  rw[hx] at c0 hI l3
  have hw:(wlL (x::X.drop (k+1))).flatten=bareT x++([10]++(wlL (X.drop (k+1))).flatten):=by simp[wlL]
  rw[hw] at hI
  have HC:=fun u=>ZbR x u (by omega)
  obtain⟨y,hy⟩:∃ y,bareT x=y:=⟨_,rfl⟩
  rw[hy] at HC hI
  obtain⟨P1,hP1⟩:∃ Q,P++y=Q:=⟨_,rfl⟩
  obtain⟨P2,hP2⟩:∃ Q,P1++[10]=Q:=⟨_,rfl⟩
  have HI2:Hid (P2++(wlL (X.drop (k+1))).flatten=Z):=(by show _=_;rw[← hI,← hP2,← hP1];simp)
  have z2:P2.length≤70368744177664:=(by have:=congrArg List.length HI2.out;rw[List.length_append] at this;omega)
  have z1:P1.length≤70368744177664:=(by have:=congrArg List.length hP2;rw[List.length_append] at this;omega)
  have i1:(0:Int)≤(k:Int):=by omega
  have i2:(k:Int)<(X.length:Int):=by omega
  clear hc hx hw hy hI HI
  go_wp2_with fail
  refine (HC _).mono ?_
  rintro e w1 ⟨rfl,rfl⟩
  clear HC
  go_wp2_with fail
  refine (hP.str hP1 z1).mono ?_
  rintro e w2 ⟨⟨y2,rfl⟩,hP⟩
  go_wp2_with fail
  refine (hP.str hP2 z2).mono ?_
  rintro e w3 ⟨⟨y3,rfl⟩,hP⟩
  go_wp2
  exact⟨⟨k+1,P2,by omega,by go_num,hP,HI2⟩,by simp[intOf];omega⟩
 ·have hend:¬ (k:Int)<(X.length:Int):=by omega
  have hI:=HI.out
  rw[List.drop_of_length_le (by omega),wlL,List.map_nil,List.flatten_nil,List.append_nil] at hI
  subst hI
  clear HI
  go_wp2
  go_end0
  exact⟨rfl,hP⟩
def ifRS (b pl pc:Nat) (nm:List UInt8):List (Nat × Obj):=[(pc,.cells (cmC nm) 42),(pl,.cells #[.func (.func 8) #[] #[.pointer (some ⟨b,0,none⟩)]] 40)]
theorem Zba (b pl pc:Nat) (nm:List UInt8) (R2:List (Nat × Obj)):(pl,Obj.cells #[.func (.func 8) #[] #[.pointer (some ⟨b,0,none⟩)]] 40)∈R2++ifRS b pl pc nm:=List.mem_append_right _ (by simp[ifRS])
theorem ZaZ (b pl pc:Nat) (nm:List UInt8) (R2:List (Nat × Obj)):(pc,Obj.cells (cmC nm) 42)∈R2++ifRS b pl pc nm:=List.mem_append_right _ (by simp[ifRS])
theorem ZbY (w:World) (b pl pc:Nat) (nm:List UInt8) (A B:List (List UInt8)) (hA:A.length≤1099511627776) (HTA:Hid (∀ s∈A,s.length≤1099511627776)) :
  Wrt w b (ifRS b pl pc nm) A B 12 #[.pointer (some ⟨pl,0,none⟩)] true (fun x _=>(wlL x).flatten):=by
 intro R2 T Z X Y vx vy u hu hx hy hq1 hq2 mX mY lX lY HZ hZ
 clear hq1 hq2
 replace HZ:Hid (T++(wlL X).flatten=Z):=HZ
 obtain⟨xo,xc,rfl⟩:=Holds.form (hx T u hu)
 obtain⟨yo,yc,rfl⟩:=Holds.form (hy T u hu)
 have hc:=ZbZ w b (R2++ifRS b pl pc nm) X (.slice xo X.length xc) hx (by omega) (fun s hs=>HTA.out s (mX s hs)) T Z HZ hZ u hu
 have c0:u.cell? ⟨pl,0,none⟩=some (.func (.func 8) #[] #[.pointer (some ⟨b,0,none⟩)]):=hu.cell (Zba b pl pc nm R2) 0
 clear HZ hu hx hy mX mY
 show Calls Try.prog 12 #[.slice xo X.length xc,.slice yo Y.length yc,.pointer (some ⟨pl,0,none⟩)] u _
 go_enter Try.func12,Try.ntmps12
 go_wp2_with fail
 refine hc.mono ?_
 rintro e w1 ⟨rfl,hP⟩
 go_wp2
 go_end0
 exact⟨rfl,hP⟩
theorem ZbT (w:World) (b:Nat) (RS:List (Nat × Obj)) (nm:List UInt8) (hn:∀ c∈nm,c≠10) (hl:nm.length≤1048576) (k:Nat) (T Z:List UInt8) (HZ:Hid (T++cmT nm k=Z)) (hZ:Z.length≤70368744177664) (u:World) (hu:Vsd w b RS T u) :
  Calls Try.prog 8 #[.slice (some ⟨u.heap.size,0,none⟩) 1 1,.pointer (some ⟨b,0,none⟩)] (u.alloc (.cells #[.string ⟨(cmL nm k).toArray⟩] 9)) fun e u'=>e=.returned (.tuple #[])∧Vsd w b RS Z u':=by
 have h:=hu.more (.cells #[.string ⟨(cmL nm k).toArray⟩] 9)
 refine (ZbZ w b _ [cmL nm k] _ (fun T u h=>ZaS h (by simp)) (by simp) (fun s hs=>?_) T Z ?_ hZ _ h).mono ?_
 ·have:=Zau nm k
  rw[List.mem_singleton.1 hs]
  omega
 ·show _=_
  rw[Zav hn,← HZ.out]
  simp
 ·rintro e u' ⟨rfl,h⟩
  exact⟨rfl,h.less⟩
theorem ZbS (w:World) (b pl pc:Nat) (nm:List UInt8) (hn:∀ c∈nm,c≠10) (hl:nm.length≤1048576) (A B:List (List UInt8)) (hA:A.length≤1099511627776) (hB:B.length≤1099511627776) (HTA:Hid (∀ s∈A,s.length≤1099511627776)) (HTB:Hid (∀ s∈B,s.length≤1099511627776)) :
  Wrt w b (ifRS b pl pc nm) A B 13 #[.pointer (some ⟨pl,0,none⟩),.pointer (some ⟨pc,0,none⟩)] false (fun x y=>(ifC nm x y).flatten):=by
 intro R2 T Z X Y vx vy u hu hx hy hq1 hxy mX mY lX lY HZ hZ
 clear hq1
 replace HZ:Hid (T++(ifC nm X Y).flatten=Z):=HZ
 obtain⟨xo,xc,rfl⟩:=Holds.form (hx T u hu)
 obtain⟨yo,yc,rfl⟩:=Holds.form (hy T u hu)
 have HX:Hid (∀ T' u',Vsd w b (R2++ifRS b pl pc nm) T' u'→HS u' (.slice xo X.length xc) X):=hx
 have HY:Hid (∀ T' u',Vsd w b (R2++ifRS b pl pc nm) T' u'→HS u' (.slice yo Y.length yc) Y):=hy
 have HTX:Hid (∀ s∈X,s.length≤1099511627776):=fun s hs=>HTA.out s (mX s hs)
 have HTY:Hid (∀ s∈Y,s.length≤1099511627776):=fun s hs=>HTB.out s (mY s hs)
 have HN:Hid (∀ c∈nm,c≠10):=hn
 have hxy:=hxy rfl
 have hP:=hu
 clear hx hy mX mY HTA HTB hn hu
 show Calls Try.prog 13 #[.slice xo X.length xc,.slice yo Y.length yc,.pointer (some ⟨pl,0,none⟩),.pointer (some ⟨pc,0,none⟩)] u _
 by_cases h1:Y=[]
 ·have h2:X≠[]:=fun e=>hxy e h1
  have e1:((Y.length:Int) == 0)=true:=(by rw[h1];rfl)
  have HE:Hid ((ifC nm X Y).flatten=cmT nm 2++((wlL X).flatten++cmT nm 5)):=(by show _=_;rw[h1,ZaV h2];simp)
  clear h1 h2 hxy
  obtain⟨Q1,hQ1⟩:∃ q,T++cmT nm 2=q:=⟨_,rfl⟩
  obtain⟨Q2,hQ2⟩:∃ q,Q1++(wlL X).flatten=q:=⟨_,rfl⟩
  obtain⟨Q3,hQ3⟩:∃ q,Q2++cmT nm 5=q:=⟨_,rfl⟩
  have hE:Q3=Z:=(by rw[← HZ.out,HE.out,← hQ3,← hQ2,← hQ1];simp)
  subst hE
  have zQ2:Q2.length≤70368744177664:=(by have:=congrArg List.length hQ3;rw[List.length_append] at this;omega)
  have zQ1:Q1.length≤70368744177664:=(by have:=congrArg List.length hQ2;rw[List.length_append] at this;omega)
  have zQ3:=hZ
  have HQ1:Hid (T++cmT nm 2=Q1):=hQ1
  have HQ2:Hid (Q1++(wlL X).flatten=Q2):=hQ2
  have HQ3:Hid (Q2++cmT nm 5=Q3):=hQ3
  clear HZ hQ1 hQ2 hQ3
  go_enter Try.func13,Try.ntmps13
  have c0:u.cell? ⟨pl,0,none⟩=some (.func (.func 8) #[] #[.pointer (some ⟨b,0,none⟩)]):=hP.cell (Zba b pl pc nm R2) 0
  have d0:u.cell? ⟨pc,1,none⟩=some (.string ⟨(cmL nm 2).toArray⟩):=hP.cell (ZaZ b pl pc nm R2) 1
  have hc:=ZbT w b (R2++ifRS b pl pc nm) nm HN.out hl 2 T Q1 HQ1 zQ1 _ hP
  clear hP
  go_wp2_with fail
  refine hc.mono ?_
  rintro e w1 ⟨rfl,hP⟩
  clear hc c0 d0
  have c0:w1.cell? ⟨pl,0,none⟩=some (.func (.func 8) #[] #[.pointer (some ⟨b,0,none⟩)]):=hP.cell (Zba b pl pc nm R2) 0
  have hc:=ZbZ w b (R2++ifRS b pl pc nm) X (.slice xo X.length xc) HX (by omega) HTX Q1 Q2 HQ2 zQ2 _ hP
  clear hP
  go_wp2_with fail
  refine hc.mono ?_
  rintro e w2 ⟨rfl,hP⟩
  clear hc c0
  have c0:w2.cell? ⟨pl,0,none⟩=some (.func (.func 8) #[] #[.pointer (some ⟨b,0,none⟩)]):=hP.cell (Zba b pl pc nm R2) 0
  have d0:w2.cell? ⟨pc,4,none⟩=some (.string ⟨(cmL nm 5).toArray⟩):=hP.cell (ZaZ b pl pc nm R2) 4
  have hc:=ZbT w b (R2++ifRS b pl pc nm) nm HN.out hl 5 Q2 Q3 HQ3 zQ3 _ hP
  clear hP
  go_wp2_with fail
  refine hc.mono ?_
  rintro e w3 ⟨rfl,hP⟩
  clear hc c0 d0
  go_wp2
  go_end0
  exact⟨rfl,hP⟩
 ·have e1:((Y.length:Int) == 0)=false:=(by
   rw[beq_eq_false_iff_ne]
   intro e
   exact h1 (List.eq_nil_of_length_eq_zero (by omega)))
  by_cases h2:X=[]
  ·have e2:((X.length:Int) == 0)=true:=(by rw[h2];rfl)
   have HE:Hid ((ifC nm X Y).flatten=cmT nm 1++((wlL Y).flatten++cmT nm 4)):=(by show _=_;rw[h2,ZaX h1];simp)
   clear h1 h2 hxy
   obtain⟨Q1,hQ1⟩:∃ q,T++cmT nm 1=q:=⟨_,rfl⟩
   obtain⟨Q2,hQ2⟩:∃ q,Q1++(wlL Y).flatten=q:=⟨_,rfl⟩
   obtain⟨Q3,hQ3⟩:∃ q,Q2++cmT nm 4=q:=⟨_,rfl⟩
   have hE:Q3=Z:=(by rw[← HZ.out,HE.out,← hQ3,← hQ2,← hQ1];simp)
   subst hE
   have zQ2:Q2.length≤70368744177664:=(by have:=congrArg List.length hQ3;rw[List.length_append] at this;omega)
   have zQ1:Q1.length≤70368744177664:=(by have:=congrArg List.length hQ2;rw[List.length_append] at this;omega)
   have zQ3:=hZ
   have HQ1:Hid (T++cmT nm 1=Q1):=hQ1
   have HQ2:Hid (Q1++(wlL Y).flatten=Q2):=hQ2
   have HQ3:Hid (Q2++cmT nm 4=Q3):=hQ3
   clear HZ hQ1 hQ2 hQ3
   go_enter Try.func13,Try.ntmps13
   have c0:u.cell? ⟨pl,0,none⟩=some (.func (.func 8) #[] #[.pointer (some ⟨b,0,none⟩)]):=hP.cell (Zba b pl pc nm R2) 0
   have d0:u.cell? ⟨pc,0,none⟩=some (.string ⟨(cmL nm 1).toArray⟩):=hP.cell (ZaZ b pl pc nm R2) 0
   have hc:=ZbT w b (R2++ifRS b pl pc nm) nm HN.out hl 1 T Q1 HQ1 zQ1 _ hP
   clear hP
   go_wp2_with fail
   refine hc.mono ?_
   rintro e w1 ⟨rfl,hP⟩
   clear hc c0 d0
   have c0:w1.cell? ⟨pl,0,none⟩=some (.func (.func 8) #[] #[.pointer (some ⟨b,0,none⟩)]):=hP.cell (Zba b pl pc nm R2) 0
   have hc:=ZbZ w b (R2++ifRS b pl pc nm) Y (.slice yo Y.length yc) HY (by omega) HTY Q1 Q2 HQ2 zQ2 _ hP
   clear hP
   go_wp2_with fail
   refine hc.mono ?_
   rintro e w2 ⟨rfl,hP⟩
   clear hc c0
   have c0:w2.cell? ⟨pl,0,none⟩=some (.func (.func 8) #[] #[.pointer (some ⟨b,0,none⟩)]):=hP.cell (Zba b pl pc nm R2) 0
   have d0:w2.cell? ⟨pc,3,none⟩=some (.string ⟨(cmL nm 4).toArray⟩):=hP.cell (ZaZ b pl pc nm R2) 3
   have hc:=ZbT w b (R2++ifRS b pl pc nm) nm HN.out hl 4 Q2 Q3 HQ3 zQ3 _ hP
   clear hP
   go_wp2_with fail
   refine hc.mono ?_
   rintro e w3 ⟨rfl,hP⟩
   clear hc c0 d0
   go_wp2
   go_end0
   exact⟨rfl,hP⟩
  ·have e2:((X.length:Int) == 0)=false:=(by
    rw[beq_eq_false_iff_ne]
    intro e
    exact h2 (List.eq_nil_of_length_eq_zero (by omega)))
   have HE:Hid ((ifC nm X Y).flatten=cmT nm 2++((wlL X).flatten++(cmT nm 3++((wlL Y).flatten++cmT nm 4)))):=(by show _=_;rw[ZaU h2 h1];simp)
   clear h1 h2 hxy
   obtain⟨Q1,hQ1⟩:∃ q,T++cmT nm 2=q:=⟨_,rfl⟩
   obtain⟨Q2,hQ2⟩:∃ q,Q1++(wlL X).flatten=q:=⟨_,rfl⟩
   obtain⟨Q3,hQ3⟩:∃ q,Q2++cmT nm 3=q:=⟨_,rfl⟩
   obtain⟨Q4,hQ4⟩:∃ q,Q3++(wlL Y).flatten=q:=⟨_,rfl⟩
   obtain⟨Q5,hQ5⟩:∃ q,Q4++cmT nm 4=q:=⟨_,rfl⟩
   have hE:Q5=Z:=(by rw[← HZ.out,HE.out,← hQ5,← hQ4,← hQ3,← hQ2,← hQ1];simp)
   subst hE
   have zQ4:Q4.length≤70368744177664:=(by have:=congrArg List.length hQ5;rw[List.length_append] at this;omega)
   have zQ3:Q3.length≤70368744177664:=(by have:=congrArg List.length hQ4;rw[List.length_append] at this;omega)
   have zQ2:Q2.length≤70368744177664:=(by have:=congrArg List.length hQ3;rw[List.length_append] at this;omega)
   have zQ1:Q1.length≤70368744177664:=(by have:=congrArg List.length hQ2;rw[List.length_append] at this;omega)
   have zQ5:=hZ
   have HQ1:Hid (T++cmT nm 2=Q1):=hQ1
   have HQ2:Hid (Q1++(wlL X).flatten=Q2):=hQ2
   have HQ3:Hid (Q2++cmT nm 3=Q3):=hQ3
   have HQ4:Hid (Q3++(wlL Y).flatten=Q4):=hQ4
   have HQ5:Hid (Q4++cmT nm 4=Q5):=hQ5
   clear HZ hQ1 hQ2 hQ3 hQ4 hQ5
   go_enter Try.func13,Try.ntmps13
   have c0:u.cell? ⟨pl,0,none⟩=some (.func (.func 8) #[] #[.pointer (some ⟨b,0,none⟩)]):=hP.cell (Zba b pl pc nm R2) 0
   have d0:u.cell? ⟨pc,1,none⟩=some (.string ⟨(cmL nm 2).toArray⟩):=hP.cell (ZaZ b pl pc nm R2) 1
   have hc:=ZbT w b (R2++ifRS b pl pc nm) nm HN.out hl 2 T Q1 HQ1 zQ1 _ hP
   clear hP
   go_wp2_with fail
   refine hc.mono ?_
   rintro e w1 ⟨rfl,hP⟩
   clear hc c0 d0
   have c0:w1.cell? ⟨pl,0,none⟩=some (.func (.func 8) #[] #[.pointer (some ⟨b,0,none⟩)]):=hP.cell (Zba b pl pc nm R2) 0
   have hc:=ZbZ w b (R2++ifRS b pl pc nm) X (.slice xo X.length xc) HX (by omega) HTX Q1 Q2 HQ2 zQ2 _ hP
   clear hP
   go_wp2_with fail
   refine hc.mono ?_
   rintro e w2 ⟨rfl,hP⟩
   clear hc c0
   have c0:w2.cell? ⟨pl,0,none⟩=some (.func (.func 8) #[] #[.pointer (some ⟨b,0,none⟩)]):=hP.cell (Zba b pl pc nm R2) 0
   have d0:w2.cell? ⟨pc,2,none⟩=some (.string ⟨(cmL nm 3).toArray⟩):=hP.cell (ZaZ b pl pc nm R2) 2
   have hc:=ZbT w b (R2++ifRS b pl pc nm) nm HN.out hl 3 Q2 Q3 HQ3 zQ3 _ hP
   clear hP
   go_wp2_with fail
   refine hc.mono ?_
   rintro e w3 ⟨rfl,hP⟩
   clear hc c0 d0
   have c0:w3.cell? ⟨pl,0,none⟩=some (.func (.func 8) #[] #[.pointer (some ⟨b,0,none⟩)]):=hP.cell (Zba b pl pc nm R2) 0
   have hc:=ZbZ w b (R2++ifRS b pl pc nm) Y (.slice yo Y.length yc) HY (by omega) HTY Q3 Q4 HQ4 zQ4 _ hP
   clear hP
   go_wp2_with fail
   refine hc.mono ?_
   rintro e w4 ⟨rfl,hP⟩
   clear hc c0
   have c0:w4.cell? ⟨pl,0,none⟩=some (.func (.func 8) #[] #[.pointer (some ⟨b,0,none⟩)]):=hP.cell (Zba b pl pc nm R2) 0
   have d0:w4.cell? ⟨pc,3,none⟩=some (.string ⟨(cmL nm 4).toArray⟩):=hP.cell (ZaZ b pl pc nm R2) 3
   have hc:=ZbT w b (R2++ifRS b pl pc nm) nm HN.out hl 4 Q4 Q5 HQ5 zQ5 _ hP
   clear hP
   go_wp2_with fail
   refine hc.mono ?_
   rintro e w5 ⟨rfl,hP⟩
   clear hc c0 d0
   go_wp2
   go_end0
   exact⟨rfl,hP⟩
end

section
open Go.RowKit Go.Proofs.Ytcnjephlmcnodaa.Tx
attribute [local go_sem] Zbn
theorem ZaO {α:Type} (f:α→List (List UInt8)) (l:List α):(l.flatMap f).flatten=(l.map fun x=>(f x).flatten).flatten:=by
 induction l with
 | nil=>rfl
 | cons a l ih=>rw[List.flatMap_cons,List.flatten_append,ih,List.map_cons,List.flatten_cons]
theorem ZbM (nm:List UInt8) (l:List Ch) (A B:List (List UInt8)):thR (fun x _=>(wlL x).flatten) (fun x y=>(ifC nm x y).flatten) A B 0 0 l=(ifL nm l A B).flatten:=by
 unfold thR ifL
 rw[ZaO]
 congr 2
 funext x
 simp[ifP]
theorem ZaB {s:List UInt8} (h:cnB s=true):s.length≤64:=by
 cases s with
 | nil=>simp
 | cons c t =>
  have h:(decide ((c::t).length≤64) && ltB c && t.all fun x=>ltB x || dgB x)=true:=h
  simp only[Bool.and_eq_true,decide_eq_true_eq] at h
  exact h.1.1
theorem ZbX (l:List Ch) (A B:List (List UInt8)) (nm:List UInt8) (v va vb:Value) (w:World) (hl:HCh w v l) (ha:HS w va A) (hb:HS w vb B) (hll:l.length≤1099511627776) (hla:A.length≤1048576) (hlb:B.length≤1048576)
  (hta:∀ s∈A,s.length≤1099511627776) (htb:∀ s∈B,s.length≤1099511627776)
  (r:Int) (HR:Hid (ifE l A.length B.length nm=r)) (T:List UInt8) (HT:Hid ((if r=0 then (ifL nm l A B).flatten else [])=T)) (hT:T.length≤70368744177664) :
  Calls Try.prog 4 #[v,va,vb,.string ⟨nm.toArray⟩] w fun e w'=>e=.returned (.tuple #[.string ⟨T.toArray⟩,.int .i64 r])∧Below w.heap.size w w':=by
 obtain⟨ao,ca,rfl⟩:=Holds.form hl
 obtain⟨aa,caa,rfl⟩:=Holds.form ha
 obtain⟨ab,cab,rfl⟩:=Holds.form hb
 obtain⟨q,hq⟩:∃ q,chk l A.length B.length=q:=⟨_,rfl⟩
 have hck:=Zaa l A.length B.length q (.slice ao l.length ca) w hl (by omega) (by omega) (by omega) hq
 have hR:=HR.out
 unfold ifE at hR
 rw[hq] at hR
 have hTT:=HT.out
 clear HR HT
 by_cases hq0:q=0
 ·subst hq0
  rw[if_neg (by simp)] at hR
  have hS:Script l A.length B.length:=(by
   by_cases h:Script l A.length B.length
   ·exact h
   ·have:=Zar h
    rw[hq] at this
    cases this)
  clear hq
  obtain⟨bb,hbb⟩:∃ b,cnB nm=b:=⟨_,rfl⟩
  have hnm:=fun u=>Zcc nm u bb hbb
  rw[hbb] at hR
  cases bb with
  | false =>
   rw[if_neg (by decide)] at hR
   subst hR
   rw[if_neg (by decide)] at hTT
   subst hTT
   clear hbb
   go_enter Try.func4,Try.ntmps4
   go_wp2_with fail
   refine hck.mono ?_
   rintro e w1 ⟨rfl,hb1⟩
   clear hck
   go_wp2_with fail
   refine (hnm _).mono ?_
   rintro e w2 ⟨rfl,rfl⟩
   clear hnm
   go_wp2
   go_ret2
   exact⟨rfl,hb1⟩
  | true =>
   rw[if_pos rfl] at hR
   subst hR
   rw[if_pos rfl,← ZbM] at hTT
   have hn64:=ZaB hbb
   have HNO:Hid (∀ c∈nm,c≠10):=ZaC hbb
   have HT0:Hid ([]++thR (fun x _=>(wlL x).flatten) (fun x y=>(ifC nm x y).flatten) A B 0 0 l=T):=hTT
   have HTA:Hid (∀ s∈A,s.length≤1099511627776):=hta
   have HTB:Hid (∀ s∈B,s.length≤1099511627776):=htb
   have HSC:Hid (Script l A.length B.length):=hS
   clear hTT hta htb hS hbb
   go_enter Try.func4,Try.ntmps4
   go_wp2_with fail
   refine hck.mono ?_
   rintro e w1 ⟨rfl,hb1⟩
   clear hck
   go_wp2_with fail
   refine (hnm _).mono ?_
   rintro e w2 ⟨rfl,rfl⟩
   clear hnm
   have hP:=Vsd.at0 w hb1
   have hP:=hP.more (.cells #[.func (.func 8) #[] #[.pointer (some ⟨w2.heap.size,0,none⟩)]] 40)
   rw[show (w2.alloc (.cells #[.pointer none,.slice none 0 0] 33)).heap.size=w2.heap.size+1 by simp] at hP
   go_wp2_with fail
   refine (ZbU nm _ (by omega)).mono ?_
   rintro e w3 ⟨rfl,hb3⟩
   have hP:=hP.keep hb3
   have hP:=hP.more (.cells (cmC nm) 42)
   clear hb3
   have hP:Vsd w w2.heap.size (ifRS w2.heap.size (w2.heap.size+1) w3.heap.size nm) [] (w3.alloc (.cells (cmC nm) 42)):=hP
   unfold cmC at hP ⊢
   have hth:=fun u hu=>ZbO l A B (.slice ao l.length ca) (.slice aa A.length caa) (.slice ab B.length cab) w w2.heap.size (ifRS w2.heap.size (w2.heap.size+1) w3.heap.size nm) 12 13 #[.pointer (some ⟨w2.heap.size+1,0,none⟩)] #[.pointer (some ⟨w2.heap.size+1,0,none⟩),.pointer (some ⟨w3.heap.size,0,none⟩)]
    (enters_of Try.func12 (by kernel_rfl) rfl) (enters_of Try.func13 (by kernel_rfl) rfl) (fun x _=>(wlL x).flatten) (fun x y=>(ifC nm x y).flatten) (by simp[ifC])
    (ZbY w w2.heap.size (w2.heap.size+1) w3.heap.size nm A B (by omega) HTA) (ZbS w w2.heap.size (w2.heap.size+1) w3.heap.size nm HNO.out (by omega) A B (by omega) (by omega) HTA HTB) u [] T hu hl ha hb HSC.out (by omega) (by omega) (by omega) HT0 hT
   go_wp2_with fail
   refine (hth _ hP).mono ?_
   rintro e w4 ⟨rfl,hP⟩
   clear hth
   go_wp2_with fail
   refine hP.text.mono ?_
   rintro e w5 ⟨rfl,hb5⟩
   go_wp2
   go_ret2
   exact⟨rfl,hb5⟩
 ·rw[if_pos hq0] at hR
  subst hR
  rw[if_neg hq0] at hTT
  subst hTT
  have hqb:(q != 0)=true:=bne_iff_ne.2 hq0
  go_enter Try.func4,Try.ntmps4
  go_wp2_with fail
  refine hck.mono ?_
  rintro e w1 ⟨rfl,hb1⟩
  clear hck
  go_wp2
  go_ret2
  exact⟨rfl,hb1⟩
end

section
open Go.RowKit Go.Proofs.Ytcnjephlmcnodaa.Tx
structure V4 (p q r s:Addr) (x y z v:Value) (W u:World):Prop where
 c0:u.cell? p=some x
 c1:u.cell? q=some y
 c2:u.cell? r=some z
 c3:u.cell? s=some v
 low:Below W.heap.size W u
theorem ZbQ (p q r s:Addr) (x y z v:Value) (W u:World):V4 p q r s x y z v W u.drew↔V4 p q r s x y z v W u:=⟨fun h=>⟨h.c0,h.c1,h.c2,h.c3,⟨h.low.os,h.low.tape,h.low.output,h.low.size,h.low.block⟩⟩,fun h=>⟨h.c0,h.c1,h.c2,h.c3,Below.dN h.low 1⟩⟩
end

section
open Go.RowKit Go.Proofs.Ytcnjephlmcnodaa.Tx
attribute [local go_sem] Zbn
attribute [local simp] Zbf ZbQ
end

section
open Go.RowKit Go.Proofs.Ytcnjephlmcnodaa.Tx
theorem ZaN {α:Type} (f:α→List (List UInt8)) (M:Nat) (L:List α) (h:∀ x∈L,(f x).flatten.length≤M):(L.flatMap f).flatten.length≤L.length * M:=by
 induction L with
 | nil=>simp
 | cons x L ih =>
  have h1:=h x (by simp)
  have h2:=ih fun y hy=>h y (by simp[hy])
  rw[List.flatMap_cons,List.flatten_append,List.length_append,List.length_cons,Nat.succ_mul]
  omega
theorem Zak (s:List UInt8):(bareT s).length≤s.length:=by
 unfold bareT
 split
 ·rw[List.length_dropLast];omega
 ·exact Nat.le_refl _
theorem Zcn (A:List (List UInt8)):(wlL A).flatten.length≤A.flatten.length+A.length:=by
 induction A with
 | nil=>exact Nat.le_refl _
 | cons s A ih =>
  have h:=Zak s
  unfold wlL at ih ⊢
  simp only[List.map_cons,List.flatten_cons,List.length_append,List.length_cons,List.length_nil]
  omega
theorem Zax (nm:List UInt8) (k:Nat):(cmT nm k).length≤nm.length+16:=by
 unfold cmT
 split<;>simp only[List.length_append,List.length_cons,List.length_nil]<;>omega
theorem ZaW (nm:List UInt8) (o w:List (List UInt8)):(ifC nm o w).flatten.length≤(wlL o).flatten.length+(wlL w).flatten.length+3 * nm.length+48:=by
 have h1:=Zax nm 1
 have h2:=Zax nm 2
 have h3:=Zax nm 3
 have h4:=Zax nm 4
 have h5:=Zax nm 5
 unfold ifC
 split
 ·simp
 ·split
  ·simp only[List.flatten_cons,List.flatten_append,List.flatten_nil,List.length_append,List.append_nil];omega
  ·split
   ·simp only[List.flatten_cons,List.flatten_append,List.flatten_nil,List.length_append,List.append_nil];omega
   ·simp only[List.flatten_cons,List.flatten_append,List.flatten_nil,List.length_append,List.append_nil];omega
theorem ZaY (nm:List UInt8) (l:List Ch) (A B:List (List UInt8)):(ifL nm l A B).flatten.length≤(l.length+1) * (2 * (wlL A).flatten.length+(wlL B).flatten.length+3 * nm.length+48):=by
 rw[← Zbt 0 0 A.length B.length l]
 refine ZaN _ _ _ fun x _=>?_
 unfold ifP
 rw[List.flatten_append,List.length_append]
 have h1:=Zck A x.1.a x.1.n
 have h2:=Zck A x.2.A x.2.AN
 have h3:=Zck B x.2.B x.2.BN
 have h4:=ZaW nm (cut A x.2.A x.2.AN) (cut B x.2.B x.2.BN)
 omega
theorem Zbj {s:List UInt8} {A:List (List UInt8)} {n:Nat} (h:s∈A) (hn:A.flatten.length≤n):s.length≤n:=Nat.le_trans (Zci h) hn
end

end Go.Proofs.Ytcnjephlmcnodaa
