/-
  Texts that belong together, joined: EfRu, EfRw.
-/
import Derived.Test.YtkiaenncemfkcaaGreatDoorRcsC4

set_option maxHeartbeats 16000000
set_option maxRecDepth 100000
namespace Go.Proofs.YtkiaenncemfkcaaGreatDoor

section
open Go.RowKit
theorem HB.of_own {w:World} {B:Nat} {v:Value} {T:List (List UInt8)} (h:w.ownsRow B 9 1 v T.length (scells T)) (h0:T≠[]):∃ G cap,v=.slice (some ⟨G,0,none⟩) T.length cap∧HB w B ⟨G,0,cap,T⟩:=by
 have hc:=h
 rcases h.2 with ⟨_,q⟩ | ⟨g,cap,cur,rfl,q2,q3,q4,_⟩
 ·exact absurd (List.eq_nil_of_length_eq_zero q) h0
 ·refine⟨g,cap,rfl,q2,q4,cur,q3,fun j hj=>?_⟩
  dsimp only at hj ⊢
  have h1:=hc.cells (g:=g) rfl j (.string ⟨T[j].toArray⟩) (by simp[scells,hj])
  rw[add_none,Lib.cell_of_heap q3] at h1
  exact h1
theorem Zvk (W:World) (g:Nat) (vs vl:Value) (S:List (List UInt8)) (p:Nat) (X:List Bck) (cur:Nat) (en:Bool) (w:World) (hE:Ed W g vs S p vl X cur en w) (hX:X.length≤549755813888) (hT:(cat X).length≤137438953472) (HBd:Hid (Bd (cat X))) :
  Calls Tryz.prog 30 #[.pointer (some ⟨g,0,none⟩)] w fun e w'=>∃ v,e=.returned v∧HS w' v (resE (cat X) en)∧Below w.heap.size w w':=by
 have hal:=ZbN w g _ vs vl _ _ _ en X hE.box hE.bks hX (by omega)
 have HE:Hid (Ed W g vs S p vl X cur en w):=hE
 clear hE
 obtain⟨T,hTd⟩:∃ T,cat X=T:=⟨_,rfl⟩
 rw[hTd] at hal hT HBd ⊢
 clear hTd
 have HRS:Hid (resE T en=resK T (T.length-(if en=true then 1 else 0))):=ZuV T en
 rw[HRS.out]
 by_cases h0:T=[]
 ·subst h0
  go_enter Tryz.func30,Tryz.ntmps30
  go_wp2_with fail
  refine hal.mono ?_
  rintro e w1 ⟨v,rfl,hO,hB1⟩
  obtain⟨_,_,_,_,_,c5⟩:=(HE.out.keep hB1).box.cells
  have hH:=holds_of hO
  obtain⟨vo,vc,rfl⟩:=Holds.form hH
  have HH:Hid (HS w1 (.slice vo 0 vc) []):=hH
  clear hO hH
  cases en with
  | true =>
   go_wp2
   go_loopw [23] (fun i wr=>i=.int .i64 0∧w1=wr) (fun _ _=>0)
   case atStart=>exact⟨by go_num,rfl⟩
   case round =>
    obtain⟨rfl,rfl⟩:=hrel
    go_wp2
    go_ret
    exact⟨_,rfl,HH.out,hB1⟩
  | false =>
   go_wp2
   go_loopw [23] (fun i wr=>i=.int .i64 0∧w1=wr) (fun _ _=>0)
   case atStart=>exact⟨by go_num,rfl⟩
   case round =>
    obtain⟨rfl,rfl⟩:=hrel
    go_wp2
    go_ret
    exact⟨_,rfl,HH.out,hB1⟩
 ·have hpos:0<T.length:=List.length_pos_iff.2 h0
  obtain⟨F,hF⟩:∃ F,T.length-(if en=true then 1 else 0)=F:=⟨_,rfl⟩
  have hFe:(en=true→(T.length:Int)-1=(F:Int))∧(en=false→T.length=F):=⟨fun q=>by rw[q,if_pos rfl] at hF;omega,fun q=>by rw[q,if_neg (by decide)] at hF;omega⟩
  have hFl:F≤T.length:=by omega
  rw[hF]
  clear hF
  obtain⟨n,hn⟩:∃ n,T.length=n:=⟨_,rfl⟩
  have HNN:Hid (T.length=n):=hn
  have hp2:(0:Int)<(n:Int):=by omega
  rw[hn] at hpos hFe hFl hT
  clear hn
  have key:∀ (w1:World) (G cap:Nat),Below w.heap.size w w1→HB w1 w.heap.size ⟨G,0,cap,T⟩→Hid (HB w1 w.heap.size ⟨G,0,cap,resK T 0⟩):=fun w1 G cap _ h=>by show HB _ _ _;simpa [resK] using h
  cases en with
  | true =>
   have hF1:=hFe.1 rfl
   clear hFe
   go_enter Tryz.func30,Tryz.ntmps30
   go_wp2_with fail
   refine hal.mono ?_
   rintro e w1 ⟨v,rfl,hO,hB1⟩
   obtain⟨_,_,_,_,_,c5⟩:=(HE.out.keep hB1).box.cells
   obtain⟨G,cap,hv,hHB⟩:=HB.of_own hO h0
   rw[HNN.out] at hv
   subst hv
   have hK:=key w1 G cap hB1 hHB
   clear hO hHB key
   go_wp2
   go_loopw [23] (fun i wr=>∃ k:Nat,k≤F∧i=.int .i64 (k:Int)∧Below w.heap.size w wr∧Hid (HB wr w.heap.size ⟨G,0,cap,resK T k⟩)) (fun i _=>F-(intOf i).toNat)
   case atStart=>exact⟨0,Nat.zero_le _,by go_num,hB1,hK⟩
   case round =>
    clear hK hB1 c5
    obtain⟨k,hk,rfl,hbr,hK⟩:=hrel
    by_cases hlt:k<F
    ·have hkT:k<T.length:=by have:=HNN.out;omega
     have hc:=hK.out.cell k (by dsimp only;rw[ZuU];exact hkT)
     dsimp only at hc
     rw[ZuT T k hkT,Nat.zero_add] at hc
     have HS2:Hid (HB (wr.setCell ⟨G,k,none⟩ (.string ⟨(T[k]++[10]).toArray⟩)) w.heap.size ⟨G,0,cap,resK T (k+1)⟩):=(by
      have h:=hK.out.set k (by dsimp only;rw[ZuU];exact hkT) (T[k]++[10])
      dsimp only at h
      rw[ZuW T k hkT,Nat.zero_add] at h
      exact h)
     have hsl:=HBd.out T[k] (List.getElem_mem _)
     have hgN:w.heap.size≤G:=hK.out.1
     obtain⟨s,hs⟩:∃ s,T[k]=s:=⟨_,rfl⟩
     rw[hs] at hc HS2 hsl
     obtain⟨c0,c1⟩:=hc
     clear hs hK
     have q1:=Zbw (x:=s) (y:=[10]) (by unfold Fits;simp only[List.length_cons,List.length_nil];omega) Tryz.prog
     have i1:0≤(k:Int):=by omega
     have i2:(k:Int)<(n:Int):=by omega
     have i3:(k:Int)<(F:Int):=by omega
     have hb2:Below w.heap.size w (wr.setCell ⟨G,k,none⟩ (.string ⟨(s++[10]).toArray⟩)):=hbr.setCell (p:=⟨G,k,none⟩) hgN _
     go_wp2
     exact⟨⟨k+1,by omega,by go_num,hb2,HS2⟩,by simp[intOf];omega⟩
    ·have ek:k=F:=by omega
     subst ek
     have hend:decide ((k:Int)<(k:Int))=false:=decide_eq_false (by omega)
     have hR:=hK.out.all
     unfold Bck.v at hR
     dsimp only at hR
     have HR2:Hid (HS wr (.slice (some ⟨G,0,none⟩) n cap) (resK T k)):=(by
      have h:=hR
      rw[ZuU,HNN.out] at h
      exact h)
     clear hR hK
     go_wp2
     go_ret
     exact⟨_,rfl,HR2.out,hbr⟩
  | false =>
   have hF1:=hFe.2 rfl
   clear hFe
   subst hF1
   go_enter Tryz.func30,Tryz.ntmps30
   go_wp2_with fail
   refine hal.mono ?_
   rintro e w1 ⟨v,rfl,hO,hB1⟩
   obtain⟨_,_,_,_,_,c5⟩:=(HE.out.keep hB1).box.cells
   obtain⟨G,cap,hv,hHB⟩:=HB.of_own hO h0
   rw[HNN.out] at hv
   subst hv
   have hK:=key w1 G cap hB1 hHB
   clear hO hHB key
   go_wp2
   go_loopw [23] (fun i wr=>∃ k:Nat,k≤n∧i=.int .i64 (k:Int)∧Below w.heap.size w wr∧Hid (HB wr w.heap.size ⟨G,0,cap,resK T k⟩)) (fun i _=>n-(intOf i).toNat)
   case atStart=>exact⟨0,Nat.zero_le _,by go_num,hB1,hK⟩
   case round =>
    clear hK hB1 c5
    obtain⟨k,hk,rfl,hbr,hK⟩:=hrel
    by_cases hlt:k<n
    ·have hkT:k<T.length:=by have:=HNN.out;omega
     have hc:=hK.out.cell k (by dsimp only;rw[ZuU];exact hkT)
     dsimp only at hc
     rw[ZuT T k hkT,Nat.zero_add] at hc
     have HS2:Hid (HB (wr.setCell ⟨G,k,none⟩ (.string ⟨(T[k]++[10]).toArray⟩)) w.heap.size ⟨G,0,cap,resK T (k+1)⟩):=(by
      have h:=hK.out.set k (by dsimp only;rw[ZuU];exact hkT) (T[k]++[10])
      dsimp only at h
      rw[ZuW T k hkT,Nat.zero_add] at h
      exact h)
     have hsl:=HBd.out T[k] (List.getElem_mem _)
     have hgN:w.heap.size≤G:=hK.out.1
     obtain⟨s,hs⟩:∃ s,T[k]=s:=⟨_,rfl⟩
     rw[hs] at hc HS2 hsl
     obtain⟨c0,c1⟩:=hc
     clear hs hK
     have q1:=Zbw (x:=s) (y:=[10]) (by unfold Fits;simp only[List.length_cons,List.length_nil];omega) Tryz.prog
     have i1:0≤(k:Int):=by omega
     have i2:(k:Int)<(n:Int):=by omega
     have hb2:Below w.heap.size w (wr.setCell ⟨G,k,none⟩ (.string ⟨(s++[10]).toArray⟩)):=hbr.setCell (p:=⟨G,k,none⟩) hgN _
     go_wp2
     exact⟨⟨k+1,by omega,by go_num,hb2,HS2⟩,by simp[intOf];omega⟩
    ·have ek:k=n:=by omega
     subst ek
     have hend:decide ((k:Int)<(k:Int))=false:=decide_eq_false (by omega)
     have hR:=hK.out.all
     unfold Bck.v at hR
     dsimp only at hR
     have HR2:Hid (HS wr (.slice (some ⟨G,0,none⟩) k cap) (resK T k)):=(by
      have h:=hR
      rw[ZuU,HNN.out] at h
      exact h)
     clear hR hK
     go_wp2
     go_ret
     exact⟨_,rfl,HR2.out,hbr⟩
end

section
open Go.RowKit
def RnQ (w:World) (R:Except (Nat × Int) (List (List UInt8))) (e:Ending) (w':World):Prop :=
 match R with
 | .error (a,z)=>∃ g,e=.returned (.tuple #[.slice none 0 0,.iface 69 (.pointer (some ⟨g,0,none⟩))])∧w'.heap[g]?=some (fltO (a:Int) z)∧Below w.heap.size w w'
 | .ok l=>∃ v,e=.returned (.tuple #[v,.nilIface])∧HS w' v l∧Below w.heap.size w w'
theorem ZiR {a:List (List UInt8)} {t:List UInt8} (h:t∈a):t.length≤a.flatten.length:=by
 induction a with
 | nil=>cases h
 | cons s a ih =>
  rw[List.flatten_cons,List.length_append]
  rcases List.mem_cons.1 h with rfl | h
  ·omega
  ·have:=ih h
   omega
theorem Zbc (t:List UInt8) (a:List (List UInt8)) (va:Value) (w:World) (ha:HS w va a) (htl:t.length≤1099511627776) (hla:a.length≤4194304) (HTA:Hid (∀ s∈a,s.length≤1099511627776)) (R:Except (Nat × Int) (List (List UInt8))) (HR:Hid (edR t a=R)) :
  Calls Tryz.prog 10 #[.string ⟨t.toArray⟩,va] w fun e w'=>RnQ w R e w':=by
 have hR:=HR.out
 unfold edR at hR
 clear HR
 by_cases hlong:1048576<t.length
 ·rw[if_pos hlong] at hR
  subst hR
  have HA:Hid ((w.alloc (fltO ((0:Nat):Int) 9)).heap[w.heap.size]?=some (fltO ((0:Nat):Int) 9)∧Below w.heap.size w (w.alloc (fltO ((0:Nat):Int) 9))):=⟨heap_alloc_new w _,(Below.refl _ w).alloc (Nat.le_refl _) _⟩
  have i1:(1048576:Int)<(t.length:Int):=by omega
  go_enter Tryz.func10,Tryz.ntmps10
  go_wp2
  go_ret2
  exact⟨_,rfl,HA.out.1,HA.out.2⟩
 ·rw[if_neg hlong] at hR
  have i1:¬ (1048576:Int)<(t.length:Int):=by omega
  have hsl:=Ln.split_len t
  have HSB:Hid (∀ s∈Ln.splitL t,s.length≤1099511627776):=(by
   intro s hs
   have h1:=congrArg List.length (Ln.split_join t)
   have h2:=ZiR hs
   omega)
  have hs:=ZpV t w htl
  have HR2:Hid (runE (Ln.splitL t).length 0 (Ln.splitL t) (a.map bareT) 0 false=R):=hR
  clear hR
  obtain⟨S,hSd⟩:∃ S,Ln.splitL t=S:=⟨_,rfl⟩
  rw[hSd] at hsl HSB hs HR2
  clear hSd
  have hSl:S.length≤1048576:=by omega
  have hlong2:t.length≤1048576:=by omega
  go_enter Tryz.func10,Tryz.ntmps10
  go_wp2_with fail
  refine hs.mono ?_
  rintro e w1 ⟨vs,rfl,hown,hb1⟩
  have hScr:HS w1 vs S:=holds_of hown
  obtain⟨so,sc,rfl⟩:=Holds.form hScr
  clear hown hs
  go_wp2_with fail
  refine (Zcs a va w1 (HS.keep ha hb1 (Nat.le_refl _)) (by omega) HTA).mono ?_
  rintro e w2 ⟨rfl,hg2,hb2⟩
  have hnb:HB w2 w1.heap.size ⟨w1.heap.size,0,a.length,a.map bareT⟩:=HB.new (Nat.le_refl _) (by simp) hg2
  have hin:=ZlJ ⟨w1.heap.size,0,a.length,a.map bareT⟩ w1.heap.size w2 hnb (by dsimp only;rw[List.length_map];omega) hb2.size
  have hvv:(⟨w1.heap.size,0,a.length,a.map bareT⟩:Bck).v=.slice (some ⟨w1.heap.size,0,none⟩) a.length a.length:=(by unfold Bck.v;dsimp only;rw[List.length_map])
  rw[hvv] at hin
  dsimp only at hin
  rw[List.length_map] at hin
  clear hg2 hnb hvv
  go_wp2_with fail
  refine hin.mono ?_
  rintro e w3 ⟨vl,X0,rfl,hk3,hcat0,hlen0,hb3⟩
  obtain⟨lo,lc,_,rfl,_⟩:=hk3.row
  have hb13:Below w1.heap.size w1 w3:=hb2.trans (hb3.mono hb2.size)
  have hbB:Below w3.heap.size w3 (w3.alloc (.cells #[.slice so S.length sc,.int .i64 0,.slice (some ⟨lo,0,none⟩) X0.length lc,.int .i64 (a.length:Int),.int .i64 0,.bool false] 78)):=(Below.refl _ w3).alloc (Nat.le_refl _) _
  have hE0:Ed w1 w3.heap.size (.slice so S.length sc) S 0 (.slice (some ⟨lo,0,none⟩) X0.length lc) X0 0 false (w3.alloc (.cells #[.slice so S.length sc,.int .i64 0,.slice (some ⟨lo,0,none⟩) X0.length lc,.int .i64 (a.length:Int),.int .i64 0,.bool false] 78)):=(by
   refine⟨hScr,hb13.trans (hbB.mono hb13.size),hb13.size,?_,hk3.low hbB,Nat.zero_le _,Nat.zero_le _⟩
   have hl:(cat X0).length=a.length:=by rw[hcat0,List.length_map]
   rw[hl]
   exact heap_alloc_new w3 _)
  have HE0:Hid (Ed w1 w3.heap.size (.slice so S.length sc) S 0 (.slice (some ⟨lo,0,none⟩) X0.length lc) X0 0 false (w3.alloc (.cells #[.slice so S.length sc,.int .i64 0,.slice (some ⟨lo,0,none⟩) X0.length lc,.int .i64 (a.length:Int),.int .i64 0,.bool false] 78))):=hE0
  have hB0:Below w.heap.size w w1:=hb1
  obtain⟨K,hK⟩:∃ K,2 * S.length+a.length=K:=⟨_,rfl⟩
  have HK:Hid (2 * S.length+a.length=K):=hK
  have HK2:Hid (K≤6291456):=(by show K≤_;omega)
  have HC0:Hid (cat X0=a.map bareT∧512 * X0.length≤a.length+512):=⟨hcat0,hlen0⟩
  have HBa:Hid (Bd (a.map bareT)):=(by
   intro s hs
   obtain⟨u,hu,rfl⟩:=List.mem_map.1 hs
   have h1:=HTA.out u hu
   have h2:(bareT u).length≤u.length:=(by
    unfold bareT
    split
    ·rw[List.length_dropLast];omega
    ·exact Nat.le_refl _)
   omega)
  clear hE0 hcat0 hlen0 hk3 hin hb2 hb3 hK hbB
  go_wp2
  generalize w3.alloc (.cells #[.slice so S.length sc,.int .i64 0,.slice (some ⟨lo,0,none⟩) X0.length lc,.int .i64 (a.length:Int),.int .i64 0,.bool false] 78)=W4 at HE0 ⊢
  generalize w3.heap.size=G at HE0 ⊢
  go_loopw [] (fun wr=>∃ (q:Nat) (vl:Value) (X:List Bck) (cur:Nat) (en:Bool) (f:Nat),Hid (Ed w1 G (.slice so S.length sc) S q vl X cur en wr)∧q≤S.length∧Hid (S.length-q≤f∧runE f q (S.drop q) (cat X) cur en=R)∧Hid (Bd (cat X)∧(cat X).length≤a.length+q∧512 * X.length≤a.length+512+q * K)) (fun wr=>S.length-edP G wr)
  case atStart =>
   refine⟨0,_,X0,0,false,S.length,HE0,Nat.zero_le _,(⟨Nat.le_refl _,?_⟩:_∧_),(⟨?_,?_,?_⟩:_∧_∧_)⟩
   ·rw[HC0.out.1];exact HR2.out
   ·rw[HC0.out.1];exact HBa.out
   ·rw[HC0.out.1,List.length_map];omega
   ·have:=HC0.out.2;omega
  case round =>
   clear HE0 HC0 HBa HR2
   obtain⟨q,vl,X,cur,en,f,HE,hq,HF,HB⟩:=hrel
   have hmeas:=ZgC HE.out.box
   obtain⟨c0,c1,_,_,_,_⟩:=HE.out.box.cells
   have hqK:q * K≤1048576 * 6291456:=Nat.mul_le_mul (by omega) HK2.out
   have hXl:X.length≤549755813888:=by have:=HB.out.2.2;omega
   have hTl:(cat X).length≤137438953472:=by have:=HB.out.2.1;omega
   by_cases hlt:q<S.length
   ·have l1:(q:Int)<(S.length:Int):=by omega
    obtain⟨r,hr⟩:∃ r,sdR q S[q] (S.drop (q+1)) (cat X) cur en=r:=⟨_,rfl⟩
    have HRs:Hid (sdR q S[q] (S.drop (q+1)) (cat X) cur en=r):=hr
    have hst:=Zza w1 G _ vl S q X cur en wr HE.out (by omega) HSB hlt hXl hTl r HRs
    have HF2:Hid ((match sdE q S[q] (S.drop (q+1)) (cat X) cur en with
      | .error e=>.error e
      | .ok (T1,c1,e1,q2,r2)=>runE (f-1) q2 r2 T1 c1 e1)=R):=(by
     show _=_
     have h:=HF.out.2
     have h1:=HF.out.1
     cases f with
     | zero=>omega
     | succ f =>
      rw[List.drop_eq_getElem_cons hlt,runE] at h
      rw[Nat.add_sub_cancel,← h]
      cases sdE q S[q] (S.drop (q+1)) (cat X) cur en with
      | error e=>rfl
      | ok x=>rfl)
    have hfl:S.length-q≤f:=HF.out.1
    have HLow:Hid (Below w.heap.size w w1):=hB0
    clear hr HF
    go_wp2_with fail
    refine hst.mono ?_
    intro e w5 hQ
    cases hsd:sdE q S[q] (S.drop (q+1)) (cat X) cur en with
    | error kz =>
     obtain⟨k,z⟩:=kz
     have hrr:r=.error (k,z):=(by rw[← HRs.out];unfold sdR;rw[hsd])
     have hRR:R=.error (k,z):=(by rw[← HF2.out,hsd])
     clear HF2
     subst hRR
     subst hrr
     obtain⟨rfl,hz,p5,vl5,X5,cur5,en5,rfl,hE5⟩:=hQ
     have hzb:(z != 0)=true:=bne_iff_ne.2 hz
     have HE5:Hid (Ed w1 G (.slice so S.length sc) S p5 vl5 X5 cur5 en5 w5):=hE5
     obtain⟨_,d1,_,_,_,_⟩:=hE5.box.cells
     have hp5:=hE5.hp
     have hlow5:Below w.heap.size w w5:=HLow.out.trans (hE5.low.mono HLow.out.size)
     have d1d:w5.drew.cell? ⟨G,1,none⟩=some (.int .i64 (p5:Int)):=d1
     have hw:IntKind.i64.wrap ((p5:Int)+1)=(p5:Int)+1:=wrap_small _ (by omega) (by omega)
     have HA:Hid ((w5.drew.alloc (fltO ((p5+1:Nat):Int) z)).heap[w5.heap.size]?=some (fltO ((p5+1:Nat):Int) z)∧Below w.heap.size w (w5.drew.alloc (fltO ((p5+1:Nat):Int) z))):=⟨heap_alloc_new w5.drew _,hlow5.drew.alloc hlow5.size _⟩
     clear hE5 hsd HRs
     go_wp2_with fail
     go_region_held3 (fun w'=>w'.cell? ⟨G,1,none⟩=some (.int .i64 (p5:Int))) (go_keep) (fail)
     go_wp2
     go_ret2
     exact⟨_,rfl,HA.out.1,HA.out.2⟩
    | ok x =>
     obtain⟨T1,c1',e1,q2,r2⟩:=x
     have hrr:r=.ok (T1,c1',e1,q2):=(by rw[← HRs.out];unfold sdR;rw[hsd])
     have hRR:runE (f-1) q2 r2 T1 c1' e1=R:=(by have h:=HF2.out;rw[hsd] at h;exact h)
     subst hrr
     obtain⟨rfl,vl5,X5,hE5,hcat5,hlen5⟩:=hQ
     obtain⟨b1,b2,b3,b4⟩:=ZxP HB.out.1 (fun s hs=>HSB.out s (List.mem_of_mem_drop hs)) hsd
     have hp5:=hE5.hp
     have HE5:Hid (Ed w1 G (.slice so S.length sc) S q2 vl5 X5 c1' e1 w5):=hE5
     have hm5:=ZgC hE5.box
     have HF5:Hid (S.length-q2≤f-1∧runE (f-1) q2 (S.drop q2) (cat X5) c1' e1=R):=(by
      refine⟨by omega,?_⟩
      rw[hcat5,← hRR,b4,List.drop_drop]
      congr 2
      omega)
     have HB5:Hid (Bd (cat X5)∧(cat X5).length≤a.length+q2∧512 * X5.length≤a.length+512+q2 * K):=(by
      rw[hcat5]
      refine⟨b1,by have:=HB.out.2.1;omega,?_⟩
      have h1:=HB.out.2.2
      have h2:=HB.out.2.1
      have h3:=HK.out
      have h4:(q+1) * K≤q2 * K:=Nat.mul_le_mul_right _ b2
      rw[Nat.add_mul,Nat.one_mul] at h4
      omega)
     clear hE5 hcat5 hlen5 hsd hRR HF2 HRs b1 b4
     go_wp2
     exact⟨⟨q2,vl5,X5,c1',e1,f-1,HE5,hp5,HF5,HB5⟩,by rw[hm5,hmeas];omega⟩
   ·have eq:q=S.length:=by omega
    have l1:decide ((q:Int)<(S.length:Int))=false:=decide_eq_false (by omega)
    have hrs:=Zvk w1 G _ vl S q X cur en wr HE.out hXl hTl HB.out.1
    obtain⟨RR,hRRd⟩:∃ RR,resE (cat X) en=RR:=⟨_,rfl⟩
    rw[hRRd] at hrs
    have hRR:R=.ok RR:=(by
     have h:=HF.out.2
     rw[List.drop_of_length_le (by omega),ZwC,hRRd] at h
     exact h.symm)
    subst hRR
    clear hRRd
    have hlow5:Below w.heap.size w wr:=hB0.trans (HE.out.low.mono hB0.size)
    clear HF
    go_wp2_with fail
    refine hrs.mono ?_
    rintro e w5 ⟨v,rfl,hH5,hb5⟩
    obtain⟨vo,vc,rfl⟩:=Holds.form hH5
    have HH5:Hid (HS w5 (.slice vo RR.length vc) RR):=hH5
    clear hH5
    go_wp2
    go_ret2
    exact⟨_,rfl,HH5.out,hlow5.trans (hb5.mono hlow5.size)⟩
end

end Go.Proofs.YtkiaenncemfkcaaGreatDoor
