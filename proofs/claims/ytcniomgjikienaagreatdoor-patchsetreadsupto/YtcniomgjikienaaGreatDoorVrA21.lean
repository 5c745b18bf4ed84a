/-
  Texts that belong together, joined: NpRh, NpRr.
-/
import Derived.Test.YtcniomgjikienaaGreatDoorVrA20

set_option maxHeartbeats 16000000
set_option maxRecDepth 100000
namespace Go.Proofs.YtcniomgjikienaaGreatDoor

section
open Go.RowKit
theorem ZqL {R:Nat} {L:List (List UInt8)} {lo:Option Addr} {lc:Nat} {p:Nat} {fa:Int} (w:World) (q:Rx w R (.slice lo L.length lc) p fa 0) (HL:Hid (∀ u,w.grownBy u (some R)→HS u (.slice lo L.length lc) L)) (hRl:∀ a,lo=some a→a.block≠R) (hp:p≤L.length) (hLl:L.length≤1048576) (HSl:Hid (∀ s∈L,s.length≤1048576))
  (k:Nat) (hk:k≤1099511627776) (X:Except (Nat × Int) (Hk × Nat × List (List UInt8))) (HX:Hid (hkP k p (L.drop p)=X)) :
  Calls Tryz.prog 68 #[.pointer (some ⟨R,0,none⟩),.int .i64 (k:Int)] w fun x w'=>HkR w R (.slice lo L.length lc) L fa X x w':=by
 have hRw:=q.lt
 have HSl2:Hid (∀ s∈L,s.length≤1099511627776):=fun s hs=>by have:=HSl.out s hs;omega
 have hr0:=Hx.new w ⟨0,0,0,0,[]⟩ (.slice none 0 0)
 have g0:w.grownBy (w.alloc (hkO ⟨0,0,0,0,[]⟩ (.slice none 0 0))) (some R):=World.grownBy_alloc w _ _
 have q0:Rx (w.alloc (hkO ⟨0,0,0,0,[]⟩ (.slice none 0 0))) R (.slice lo L.length lc) p fa 0:=q.low ((Below.refl _ w).alloc (Nat.le_refl _) _)
 have HZ0:Hid ((w.alloc (hkO ⟨0,0,0,0,[]⟩ (.slice none 0 0))).heap.size=w.heap.size+1):=(by show _=_;simp)
 have hW0:w.alloc (.cells #[.int .i64 0,.int .i64 0,.int .i64 0,.int .i64 0,.slice none 0 0] 45)=w.alloc (hkO ⟨0,0,0,0,[]⟩ (.slice none 0 0)):=rfl
 obtain⟨Z,hZ⟩:∃ Z,nxt p (L.drop p)=Z:=⟨_,rfl⟩
 have hX:=HX.out
 clear HX q
 unfold hkP at hX
 rw[hZ] at hX
 go_enter Tryz.func68,Tryz.ntmps68
 go_wp2_with fail
 generalize w.alloc (hkO ⟨0,0,0,0,[]⟩ (.slice none 0 0))=W0 at *
 clear hW0
 refine (ZpO W0 q0 (HL.out W0 g0) hRl (by omega) HSl2.out Z hZ).mono ?_
 rintro x w1 ⟨hq1,hg1⟩
 have hr1:=hr0.keep hg1 (fun e=>by have:=Option.some.inj e;omega)
 have g1:=ZdT g0 hg1
 have hz1:w.heap.size+1≤w1.heap.size:=(by have:=HZ0.out;have:=hg1.size;omega)
 clear q0 hr0 g0 HZ0 hg1
 cases Z with
 | error z =>
  obtain⟨a,fe⟩:=z
  obtain⟨rfl,⟨p',hq⟩,hfe⟩:=hq1
  dsimp only at hX
  subst hX
  go_wp2_with fail
  refine (Zqm [] (by simp) w1).mono ?_
  rintro x w2 ⟨hCP,hb2⟩
  have q2:=hq.low hb2
  have hr2:=hr1.low hb2
  have g2:=ZdT g1 (ZfO hb2 _)
  have hz2:w.heap.size+1≤w2.heap.size:=(by have:=hb2.size;omega)
  clear hq hr1 g1 hb2 hz1
  unfold CmdP at hCP
  have hcn:cmdP []=none:=rfl
  rw[hcn] at hCP
  dsimp only at hCP
  obtain⟨A,AN,B,BN,rfl⟩:=hCP
  have hS3:Sb w R w2.heap.size A AN B BN [] (.slice none 0 0) (w2.alloc (hkO ⟨A,AN,B,BN,[]⟩ (.slice none 0 0))):=⟨ZdT g2 (World.grownBy_alloc w2 _ _),Hx.new w2 _ _,hr2.low ((Below.refl _ w2).alloc (Nat.le_refl _) _),Zen _ _ _ _,hRw,by omega⟩
  have q3:=q2.low ((Below.refl _ w2).alloc (Nat.le_refl _) (hkO ⟨A,AN,B,BN,[]⟩ (.slice none 0 0)))
  clear q2 hr2 g2
  unfold hkV
  dsimp only
  unfold hkO at hS3 q3
  dsimp only at hS3 q3
  go_wp2_with fail
  refine (Zpz 3 _ q3 hfe).mono ?_
  rintro x w4 ⟨rfl,rfl⟩
  generalize w2.alloc (.cells #[.int .i64 A,.int .i64 AN,.int .i64 B,.int .i64 BN,.slice none 0 0] 45)=w3 at *
  have hS:=hS3
  have HE:Hid ((∀ {vL:Value} {p fa fe:Int},Rx w3 R vL p fa fe→Rx (put5 w3 w.heap.size A AN B BN (.slice none 0 0)) R vL p fa fe)→EdR R (.slice lo L.length lc) L fa (.error (a,fe)) ⟨A,AN,B,BN,[]⟩ (put5 w3 w.heap.size A AN B BN (.slice none 0 0))):=fun h=>⟨⟨_,h q3⟩,hfe⟩
  clear q3 hS3
  obtain⟨x0,x1,x2,x3,x4⟩:=hS.hx.cells
  dsimp only at x0 x1 x2 x3 x4
  obtain⟨y0,y1,y2,y3,y4⟩:=hS.rb.cells
  have yf0:=hS.rb.frozen 0
  have yf1:=hS.rb.frozen 1
  have yf2:=hS.rb.frozen 2
  have yf3:=hS.rb.frozen 3
  have yf4:=hS.rb.frozen 4
  obtain⟨hP,hownP,hgP,hrP⟩:=hS.done
  have HEnd0:=HE.out hrP
  unfold put5 at hP hownP hgP HEnd0
  have HP:Hid (_=_):=hP
  have HOWN:Hid _:=hownP
  have HGP:Hid _:=hgP
  have HEnd:Hid _:=HEnd0
  clear hrP hS HE hP hownP hgP HEnd0
  go_wp2
  exact bodyPost_ret (v:=hkV ⟨A,AN,B,BN,[]⟩ (.slice none 0 0)) (results_cell_row rfl _ _ w.heap.size 45 #[.int .i64 A,.int .i64 AN,.int .i64 B,.int .i64 BN,.slice none 0 0] (0,0) _ rfl HP.out Tryz.underlying45 rfl (by kernel_rfl)) rfl ⟨_,_,rfl,Zen _ _ _ _,HGP.out,HEnd.out⟩
 | ok z =>
  obtain⟨s,r⟩:=z
  obtain⟨rfl,hq1⟩:=hq1
  dsimp only at hX
  obtain⟨hr,hpl,_,hLp⟩:=Zhr hZ
  subst hr
  have hsl:=HSl.out L[p] (List.getElem_mem hpl)
  rw[hLp,List.length_append] at hsl
  simp only[List.length_cons,List.length_nil] at hsl
  clear hZ hLp
  go_wp2_with fail
  refine (Zqm s (by omega) w1).mono ?_
  rintro x w2 ⟨hCP,hb2⟩
  have q2:=hq1.low hb2
  have hr2:=hr1.low hb2
  have g2:=ZdT g1 (ZfO hb2 _)
  have hz2:w.heap.size+1≤w2.heap.size:=(by have:=hb2.size;omega)
  clear hq1 hr1 g1 hb2 hz1
  unfold CmdP at hCP
  cases hc:cmdP s with
  | none =>
   rw[hc] at hCP hX
   dsimp only at hCP hX
   subst hX
   obtain⟨A,AN,B,BN,rfl⟩:=hCP
   have hS3:Sb w R w2.heap.size A AN B BN [] (.slice none 0 0) (w2.alloc (hkO ⟨A,AN,B,BN,[]⟩ (.slice none 0 0))):=⟨ZdT g2 (World.grownBy_alloc w2 _ _),Hx.new w2 _ _,hr2.low ((Below.refl _ w2).alloc (Nat.le_refl _) _),Zen _ _ _ _,hRw,by omega⟩
   have q3:=q2.low ((Below.refl _ w2).alloc (Nat.le_refl _) (hkO ⟨A,AN,B,BN,[]⟩ (.slice none 0 0)))
   clear q2 hr2 g2
   unfold hkV
   dsimp only
   unfold hkO at hS3 q3
   dsimp only at hS3 q3
   go_wp2_with fail
   refine (ZpA 3 _ q3).mono ?_
   rintro x w4 ⟨rfl,q4,hg4⟩
   have hS:=hS3.call hg4
   clear hS3 hg4 q3
   have HE:Hid ((∀ {vL:Value} {p fa fe:Int},Rx w4 R vL p fa fe→Rx (put5 w4 w.heap.size A AN B BN (.slice none 0 0)) R vL p fa fe)→EdR R (.slice lo L.length lc) L fa (.error (p+1,3)) ⟨A,AN,B,BN,[]⟩ (put5 w4 w.heap.size A AN B BN (.slice none 0 0))):=fun h=>⟨⟨_,h q4⟩,by decide⟩
   clear q4
   obtain⟨x0,x1,x2,x3,x4⟩:=hS.hx.cells
   dsimp only at x0 x1 x2 x3 x4
   obtain⟨y0,y1,y2,y3,y4⟩:=hS.rb.cells
   have yf0:=hS.rb.frozen 0
   have yf1:=hS.rb.frozen 1
   have yf2:=hS.rb.frozen 2
   have yf3:=hS.rb.frozen 3
   have yf4:=hS.rb.frozen 4
   obtain⟨hP,hownP,hgP,hrP⟩:=hS.done
   have HEnd0:=HE.out hrP
   unfold put5 at hP hownP hgP HEnd0
   have HP:Hid (_=_):=hP
   have HOWN:Hid _:=hownP
   have HGP:Hid _:=hgP
   have HEnd:Hid _:=HEnd0
   clear hrP hS HE hP hownP hgP HEnd0
   go_wp2
   exact bodyPost_ret (v:=hkV ⟨A,AN,B,BN,[]⟩ (.slice none 0 0)) (results_cell_row rfl _ _ w.heap.size 45 #[.int .i64 A,.int .i64 AN,.int .i64 B,.int .i64 BN,.slice none 0 0] (0,0) _ rfl HP.out Tryz.underlying45 rfl (by kernel_rfl)) rfl ⟨_,_,rfl,Zen _ _ _ _,HGP.out,HEnd.out⟩
  | some z =>
   obtain⟨A,AN,B,BN⟩:=z
   have hcr:=ZbI hc
   rw[hc] at hCP hX
   dsimp only at hCP hX
   subst hCP
   obtain⟨an,rfl⟩:=Int.eq_ofNat_of_zero_le hcr.1.2.2.1
   obtain⟨bn,rfl⟩:=Int.eq_ofNat_of_zero_le hcr.2.1.2.2.1
   have han:an≤2147483647:=by omega
   have hbn:bn≤2147483647:=by omega
   clear hcr hc
   have hS3:Sb w R w2.heap.size A (an:Int) B (bn:Int) [] (.slice none 0 0) (w2.alloc (hkO ⟨A,(an:Int),B,(bn:Int),[]⟩ (.slice none 0 0))):=⟨ZdT g2 (World.grownBy_alloc w2 _ _),Hx.new w2 _ _,hr2.low ((Below.refl _ w2).alloc (Nat.le_refl _) _),Zen _ _ _ _,hRw,by omega⟩
   have q3:Rx (w2.alloc (hkO ⟨A,(an:Int),B,(bn:Int),[]⟩ (.slice none 0 0))) R (.slice lo L.length lc) ((p+1:Nat):Int) fa 0:=q2.low ((Below.refl _ w2).alloc (Nat.le_refl _) _)
   clear q2 hr2 g2
   rw[Int.toNat_natCast,Int.toNat_natCast] at hX
   unfold hkV
   dsimp only
   unfold hkO at hS3 q3
   dsimp only at hS3 q3
   by_cases hk2:4096≤k
   ·rw[if_pos hk2] at hX
    have hkb:(4096:Int)≤(k:Int):=by omega
    go_wp2_with fail
    refine (ZpA 9 _ q3).mono ?_
    rintro x w4 ⟨rfl,hrx,hg4⟩
    generalize w2.alloc (.cells #[.int .i64 A,.int .i64 (an:Int),.int .i64 B,.int .i64 (bn:Int),.slice none 0 0] 45)=w3 at *
    generalize w2.heap.size=H at *
    have hS4:=hS3.call hg4
    obtain⟨m,hm⟩:∃ m:List Mk,[]=m:=⟨_,rfl⟩
    obtain⟨o,ho⟩:∃ o:Option Addr,none=o:=⟨_,rfl⟩
    obtain⟨c,hcc⟩:∃ c:Nat,0=c:=⟨_,rfl⟩
    have hS:Sb w R H A (an:Int) B (bn:Int) m (.slice o m.length c) w4:=(by rw[← hm,← ho,← hcc];exact hS4)
    obtain⟨a,ha⟩:∃ a,p+1=a:=⟨_,rfl⟩
    obtain⟨fe,hfe0⟩:∃ fe:Int,9=fe:=⟨_,rfl⟩
    have hfe:fe≠0:=by omega
    have HXe:Hid (X=.error (a,fe)):=(by show _=_;rw[← hX,← ha,← hfe0])
    rw[ha,hfe0] at hrx
    clear ha hfe0 hX hm ho hcc hS4 hS3 hg4 q3
    obtain⟨r0,r1,r2,r3⟩:=hrx.cells
    have hfb0:(fe == 0)=false:=beq_eq_false_iff_ne.2 hfe
    obtain⟨x0,x1,x2,x3,x4⟩:=hS.hx.cells
    dsimp only at x0 x1 x2 x3 x4
    go_wp2
    go_loopw [7] (fun iv wz=>iv=.int .i64 0∧wz=w4) (fun _ _=>0)
    case atStart=>exact⟨by go_num,rfl⟩
    case round =>
     obtain⟨rfl,rfl⟩:=hrel
     clear x0 x1 x2 x3 x4 r0 r1 r2 r3 hfb0
     obtain⟨r0,r1,r2,r3⟩:=hrx.cells
     have hfb:(fe == 0)=false:=beq_eq_false_iff_ne.2 hfe
     have hXe:=HXe.out
     subst hXe
     have HE:Hid ((∀ {vL:Value} {p fa fe:Int},Rx wr R vL p fa fe→Rx (put5 wr w.heap.size A (an:Int) B (bn:Int) (.slice o m.length c)) R vL p fa fe)→(∃ p',Rx (put5 wr w.heap.size A (an:Int) B (bn:Int) (.slice o m.length c)) R (.slice lo L.length lc) p' (a:Int) fe)∧fe≠0):=fun h=>⟨⟨_,h hrx⟩,hfe⟩
     clear hrx HXe hfe
     obtain⟨x0,x1,x2,x3,x4⟩:=hS.hx.cells
     dsimp only at x0 x1 x2 x3 x4
     by_cases hN:(0:Int)<(an:Int)
     ·by_cases hM:(0:Int)<(bn:Int)
      ·go_wp2
       go_loopw [8] (fun iv wz=>iv=.int .i64 0∧wz=wr) (fun _ _=>0)
       case atStart=>exact⟨by go_num,rfl⟩
       case round =>
        obtain⟨rfl,rfl⟩:=hrel
        go_upto_region 17 with fail
        clear x0 x1 x2 x3 x4 r0 r1 r2 r3
        obtain⟨x0,x1,x2,x3,x4⟩:=hS.hx.cells
        dsimp only at x0 x1 x2 x3 x4
        obtain⟨y0,y1,y2,y3,y4⟩:=hS.rb.cells
        have yf0:=hS.rb.frozen 0
        have yf1:=hS.rb.frozen 1
        have yf2:=hS.rb.frozen 2
        have yf3:=hS.rb.frozen 3
        have yf4:=hS.rb.frozen 4
        obtain⟨hP,hownP,hgP,hrP⟩:=hS.done
        have HEnd0:=HE.out hrP
        unfold put5 at hP hownP hgP HEnd0
        have HP:Hid (_=_):=hP
        have HOWN:Hid _:=hownP
        have HGP:Hid _:=hgP
        have HEnd:Hid _:=HEnd0
        clear hrP hS HE hP hownP hgP HEnd0
        go_wp2
        exact bodyPost_ret (v:=hkV ⟨A,(an:Int),B,(bn:Int),m⟩ (.slice o m.length c)) (results_cell_row rfl _ _ w.heap.size 45 #[.int .i64 A,.int .i64 (an:Int),.int .i64 B,.int .i64 (bn:Int),.slice o m.length c] (0,0) _ rfl HP.out Tryz.underlying45 rfl (by kernel_rfl)) rfl ⟨_,_,rfl,HOWN.out,HGP.out,HEnd.out⟩
      ·go_wp2
       go_loopw [8] (fun iv wz=>iv=.int .i64 0∧wz=wr) (fun _ _=>0)
       case atStart=>exact⟨by go_num,rfl⟩
       case round =>
        obtain⟨rfl,rfl⟩:=hrel
        go_upto_region 17 with fail
        clear x0 x1 x2 x3 x4 r0 r1 r2 r3
        obtain⟨x0,x1,x2,x3,x4⟩:=hS.hx.cells
        dsimp only at x0 x1 x2 x3 x4
        obtain⟨y0,y1,y2,y3,y4⟩:=hS.rb.cells
        have yf0:=hS.rb.frozen 0
        have yf1:=hS.rb.frozen 1
        have yf2:=hS.rb.frozen 2
        have yf3:=hS.rb.frozen 3
        have yf4:=hS.rb.frozen 4
        obtain⟨hP,hownP,hgP,hrP⟩:=hS.done
        have HEnd0:=HE.out hrP
        unfold put5 at hP hownP hgP HEnd0
        have HP:Hid (_=_):=hP
        have HOWN:Hid _:=hownP
        have HGP:Hid _:=hgP
        have HEnd:Hid _:=HEnd0
        clear hrP hS HE hP hownP hgP HEnd0
        go_wp2
        exact bodyPost_ret (v:=hkV ⟨A,(an:Int),B,(bn:Int),m⟩ (.slice o m.length c)) (results_cell_row rfl _ _ w.heap.size 45 #[.int .i64 A,.int .i64 (an:Int),.int .i64 B,.int .i64 (bn:Int),.slice o m.length c] (0,0) _ rfl HP.out Tryz.underlying45 rfl (by kernel_rfl)) rfl ⟨_,_,rfl,HOWN.out,HGP.out,HEnd.out⟩
     ·by_cases hM:(0:Int)<(bn:Int)
      ·go_wp2
       go_loopw [8] (fun iv wz=>iv=.int .i64 0∧wz=wr) (fun _ _=>0)
       case atStart=>exact⟨by go_num,rfl⟩
       case round =>
        obtain⟨rfl,rfl⟩:=hrel
        go_upto_region 17 with fail
        clear x0 x1 x2 x3 x4 r0 r1 r2 r3
        obtain⟨x0,x1,x2,x3,x4⟩:=hS.hx.cells
        dsimp only at x0 x1 x2 x3 x4
        obtain⟨y0,y1,y2,y3,y4⟩:=hS.rb.cells
        have yf0:=hS.rb.frozen 0
        have yf1:=hS.rb.frozen 1
        have yf2:=hS.rb.frozen 2
        have yf3:=hS.rb.frozen 3
        have yf4:=hS.rb.frozen 4
        obtain⟨hP,hownP,hgP,hrP⟩:=hS.done
        have HEnd0:=HE.out hrP
        unfold put5 at hP hownP hgP HEnd0
        have HP:Hid (_=_):=hP
        have HOWN:Hid _:=hownP
        have HGP:Hid _:=hgP
        have HEnd:Hid _:=HEnd0
        clear hrP hS HE hP hownP hgP HEnd0
        go_wp2
        exact bodyPost_ret (v:=hkV ⟨A,(an:Int),B,(bn:Int),m⟩ (.slice o m.length c)) (results_cell_row rfl _ _ w.heap.size 45 #[.int .i64 A,.int .i64 (an:Int),.int .i64 B,.int .i64 (bn:Int),.slice o m.length c] (0,0) _ rfl HP.out Tryz.underlying45 rfl (by kernel_rfl)) rfl ⟨_,_,rfl,HOWN.out,HGP.out,HEnd.out⟩
      ·go_wp2
       go_loopw [8] (fun iv wz=>iv=.int .i64 0∧wz=wr) (fun _ _=>0)
       case atStart=>exact⟨by go_num,rfl⟩
       case round =>
        obtain⟨rfl,rfl⟩:=hrel
        go_upto_region 17 with fail
        clear x0 x1 x2 x3 x4 r0 r1 r2 r3
        obtain⟨x0,x1,x2,x3,x4⟩:=hS.hx.cells
        dsimp only at x0 x1 x2 x3 x4
        obtain⟨y0,y1,y2,y3,y4⟩:=hS.rb.cells
        have yf0:=hS.rb.frozen 0
        have yf1:=hS.rb.frozen 1
        have yf2:=hS.rb.frozen 2
        have yf3:=hS.rb.frozen 3
        have yf4:=hS.rb.frozen 4
        obtain⟨hP,hownP,hgP,hrP⟩:=hS.done
        have HEnd0:=HE.out hrP
        unfold put5 at hP hownP hgP HEnd0
        have HP:Hid (_=_):=hP
        have HOWN:Hid _:=hownP
        have HGP:Hid _:=hgP
        have HEnd:Hid _:=HEnd0
        clear hrP hS HE hP hownP hgP HEnd0
        go_wp2
        exact bodyPost_ret (v:=hkV ⟨A,(an:Int),B,(bn:Int),m⟩ (.slice o m.length c)) (results_cell_row rfl _ _ w.heap.size 45 #[.int .i64 A,.int .i64 (an:Int),.int .i64 B,.int .i64 (bn:Int),.slice o m.length c] (0,0) _ rfl HP.out Tryz.underlying45 rfl (by kernel_rfl)) rfl ⟨_,_,rfl,HOWN.out,HGP.out,HEnd.out⟩
   ·rw[if_neg hk2] at hX
    have hkb:¬ (4096:Int)≤(k:Int):=by omega
    obtain⟨Y1,hY1⟩:∃ Y1,rdN [60,32] 45 an (p+1) (L.drop (p+1))=Y1:=⟨_,rfl⟩
    rw[hY1] at hX
    have HXx:Hid (_=X):=hX
    clear hX
    have hA0:AlR R (.slice lo L.length lc) L fa [60,32] 45 Y1 (p+1+2 * 0) (an-0) [] (w2.alloc (.cells #[.int .i64 A,.int .i64 (an:Int),.int .i64 B,.int .i64 (bn:Int),.slice none 0 0] 45)):=.inl ⟨p+1,q3,by omega,by rw[ZkM];exact hY1⟩
    clear q3 hY1
    go_wp2_with fail
    generalize w2.alloc (.cells #[.int .i64 A,.int .i64 (an:Int),.int .i64 B,.int .i64 (bn:Int),.slice none 0 0] 45)=w3 at *
    generalize w2.heap.size=H at *
    go_loopw [7] (fun iv wr=>∃ (i:Nat) (m:List Mk) (o:Option Addr) (c:Nat),i≤an∧iv=.int .i64 (i:Int)∧m.length≤i∧Sb w R H A (an:Int) B (bn:Int) m (.slice o m.length c) wr∧AlR R (.slice lo L.length lc) L fa [60,32] 45 Y1 (p+1+2 * i) (an-i) m wr) (fun iv _=>an-(intOf iv).toNat)
    case atStart=>exact⟨0,[],none,0,Nat.zero_le _,by go_num,Nat.le_refl _,hS3,hA0⟩
    case round =>
    clear hS3 hA0
    obtain⟨i,m,o,c,hi,rfl,hml,hS,hA⟩:=hrel
    by_cases hgo:i<an∧∃ pn:Nat,Rx wr R (.slice lo L.length lc) (pn:Int) fa 0∧pn≤p+1+2 * i∧thenL m (rdN [60,32] 45 (an-i) pn (L.drop pn))=Y1
    ·obtain⟨hlt,hA⟩:=hgo
     skip
     obtain⟨pn,hrx,hpb,hY1⟩:=hA
     obtain⟨x0,x1,x2,x3,x4⟩:=hS.hx.cells
     obtain⟨r0,r1,r2,r3⟩:=hrx.cells
     dsimp only at x0 x1 x2 x3 x4
     have hn1:an-i=(an-(i+1))+1:=by omega
     have HNx:Hid (∀ (t:List UInt8) (u u':World),NxR R (.slice lo L.length lc) L fa [60,32] 45 Y1 (p+1+2 * (i+1)) (an-(i+1)) m t u→(∀ {vL:Value} {p fa fe:Int},Rx u R vL p fa fe→Rx u' R vL p fa fe)→AlR R (.slice lo L.length lc) L fa [60,32] 45 Y1 (p+1+2 * (i+1)) (an-(i+1)) (m++[⟨45,t⟩]) u'):=fun t u u' h hk=>NxR.on h hk
     have hSd:=hS.drew
     obtain⟨Rr,hRr⟩:∃ Rr:Value→World→Prop,(fun v u=>∃ t:List UInt8,v=.string ⟨t.toArray⟩∧Sb w R H A (an:Int) B (bn:Int) m (.slice o m.length c) u∧NxR R (.slice lo L.length lc) L fa [60,32] 45 Y1 (p+1+2 * (i+1)) (an-(i+1)) m t u)=Rr:=⟨_,rfl⟩
     have hcall:Calls Tryz.prog 112 (#[.pointer (some ⟨R,0,none⟩),.string ⟨#[60,32]⟩,.bool ((i:Int) == (an:Int)-1)]++#[]) wr.drew fun e w'=>(∃ v,e=.returned v∧w'.cell? ⟨H,1,none⟩=some (.int .i64 (an:Int))∧Rr v w')∨(∃ c,e=.panicked c∧False):=(by
      obtain⟨Z,hZ⟩:∃ Z,mkd [60,32] ((i:Int) == (an:Int)-1) pn (L.drop pn)=Z:=⟨_,rfl⟩
      have hlast:(an-(i+1) == 0)=((i:Int) == (an:Int)-1):=(by rw[Bool.eq_iff_iff,beq_iff_eq,beq_iff_eq];omega)
      refine (ZpF wr.drew (show Rx wr.drew R (.slice lo L.length lc) pn fa 0 from hrx) (HL.out _ hSd.gr) hRl (by omega) HSl2.out [60,32] rfl _ Z hZ).mono ?_
      rintro e w' ⟨hq,hg⟩
      left
      have hS':=hSd.call hg
      rw[← hRr]
      rw[hn1] at hY1
      cases Z with
      | error z =>
       obtain⟨a,z⟩:=z
       obtain⟨t,p',rfl,hr,hz⟩:=hq
       exact⟨_,rfl,hS'.c1,t,rfl,hS',.inr ⟨p',a,z,hr,hz,by rw[← hY1];exact Zqp hlast hZ m⟩⟩
      | ok z =>
       obtain⟨t,p1,r⟩:=z
       obtain⟨rfl,hr,hd⟩:=hq
       have hle:=Zou hZ
       exact⟨_,rfl,hS'.c1,t,rfl,hS',.inl ⟨p1,hr,by omega,by rw[← hY1,Zqq hlast hZ m,hd]⟩⟩)
     have HRr:Hid (_=Rr):=hRr
     have j1:(i:Int)<(an:Int):=by omega
     clear hRr hY1 hn1
     go_upto_region 10 with fail
     clear x0 x1 x2 x3 x4 r0 r1 r2 r3 j1
     refine wp_region_noPanic ?_
     refine wp_region_held_drew (S:=fun u=>u.cell? ⟨H,1,none⟩=some (.int .i64 (an:Int))) (by kernel_rfl) hSd.c1 (fun hHeld=>?_)
     generalize wr.drew=wd at hSd hcall hHeld ⊢
     have c4d:=hSd.c4
     refine Y_t 0 38 _ (.pointer (some ⟨H,4,none⟩)) rfl (Or.inl ⟨by kernel_rfl,fun u hu=>by kernel_rfl⟩) hHeld ?_
     simp only[Act.put,Y_a,Y_b,Y_c]
     refine Y_t 2 40 _ (.pointer (some ⟨R,0,none⟩)) rfl (Or.inl ⟨by kernel_rfl,fun u hu=>by kernel_rfl⟩) hHeld ?_
     simp only[Act.put,Y_a,Y_b,Y_c]
     refine Y_t 3 41 _ (.int .i64 (i:Int)) rfl (Or.inl ⟨by kernel_rfl,fun u hu=>by kernel_rfl⟩) hHeld ?_
     simp only[Act.put,Y_a,Y_b,Y_c]
     refine Y_t 4 42 _ (.pointer (some ⟨H,1,none⟩)) rfl (Or.inl ⟨by kernel_rfl,fun u hu=>by kernel_rfl⟩) hHeld ?_
     simp only[Act.put,Y_a,Y_b,Y_c]
     refine Y_t 5 43 _ (.int .i64 (an:Int)) rfl (Or.inl ⟨by kernel_rfl,fun u hu=>Zon hu (.tmp 42) (by kernel_rfl) (by kernel_rfl)⟩) hHeld ?_
     simp only[Act.put,Y_a,Y_b,Y_c]
     refine Y_t 6 44 _ (.int .i64 ((an:Int)-1)) rfl (Or.inl ⟨by kernel_rfl,fun u hu=>Zrz (z:=(an:Int)) (by omega) (by omega) (.tmp 43) (by kernel_rfl) (by kernel_rfl) (by kernel_rfl)⟩) hHeld ?_
     simp only[Act.put,Y_a,Y_b,Y_c]
     refine Y_t 7 45 _ (.bool ((i:Int) == (an:Int)-1)) rfl (Or.inl ⟨by kernel_rfl,fun u hu=>by kernel_rfl⟩) hHeld ?_
     simp only[Act.put,Y_a,Y_b,Y_c]
     refine ZdL 1 39 _ 8 46 _ rfl (by kernel_rfl) rfl (by kernel_rfl) (by kernel_rfl) (by kernel_rfl) (by kernel_rfl) (.slice o m.length c) wd (Zoo c4d (.tmp 38) (by kernel_rfl) (by kernel_rfl)) hHeld 112 (.func 112) #[.tmp 40,.const (.string ⟨#[60,32]⟩),.tmp 45] #[118,9,4] (by kernel_rfl) #[] (by kernel_rfl) #[.pointer (some ⟨R,0,none⟩),.string ⟨#[60,32]⟩,.bool ((i:Int) == (an:Int)-1)] (by kernel_rfl) (enters_of Tryz.func112 (by kernel_rfl) rfl) (Rr) (fun _ _=>False) (fun c u h=>h.elim) ?_ ?_ ?_
     ·exact hcall
     ·simp only[Act.put,Y_a,Y_b,Y_c]
      refine ZdE 8 46 _ rfl (by kernel_rfl) (by kernel_rfl) (by kernel_rfl) 112 (.func 112) #[.tmp 40,.const (.string ⟨#[60,32]⟩),.tmp 45] #[118,9,4] (by kernel_rfl) #[] (by kernel_rfl) #[.pointer (some ⟨R,0,none⟩),.string ⟨#[60,32]⟩,.bool ((i:Int) == (an:Int)-1)] (by kernel_rfl) (enters_of Tryz.func112 (by kernel_rfl) rfl) (Rr) (fun _ _=>False) (fun c u h=>h.elim) ?_ ?_
      ·exact hcall
      intro v0 u1 hH1 hq
      rw[← HRr.out] at hq
      obtain⟨t,rfl,hS1,hA1⟩:=hq
      have c1u:=hS1.c4
      have c2u:=(hS1.alloc (mkO ⟨45,t⟩)).c4
      simp only[Act.put,Y_a,Y_b,Y_c]
      refine Y_t 9 47 _ (.agg #[.int .u8 45,.string ⟨t.toArray⟩]) rfl (Or.inl ⟨by kernel_rfl,fun u hu=>by kernel_rfl⟩) hH1 ?_
      simp only[Act.put,Y_a,Y_b,Y_c]
      refine Y_v 10 48 _ rfl (.slice (some ⟨u1.heap.size,0,none⟩) 1 1) (u1.alloc (mkO ⟨45,t⟩)) (by kernel_rfl) (hS1.alloc (mkO ⟨45,t⟩)).c1 ?_
      simp only[Act.put,Y_a,Y_b,Y_c]
      have hSA:=hS1.alloc (mkO ⟨45,t⟩)
      obtain⟨v3,u3,hr3,hown3,hg3,_⟩:=ZjJ (u1.alloc (mkO ⟨45,t⟩)) 43 47 43 (.agg #[.int .u8 0,.string ⟨#[]⟩]) 2 24 Tryz.underlying43 infoMk rfl (by decide) (by decide) w.heap.size _ _ _ hSA.own _ 1 (mkcells [⟨45,t⟩]) (Zgj u1 ⟨45,t⟩) (Zgo _) (Zgp _) (by omega) hSA.gr.size
      have hS3:=hSA.more hg3 hown3
      obtain⟨o3,k3,rfl⟩:=(Zeo hown3).form
      refine Y_v 11 49 _ rfl (.slice o3 (m.length+1) k3) u3 (ZcT (.tmp 39) (.tmp 48) (by kernel_rfl) (by kernel_rfl) (by kernel_rfl) hr3) hS3.2.2.2.1 ?_
      simp only[Act.put,Y_a,Y_b,Y_c]
      refine Y_t 12 50 _ (.pointer (some ⟨H,4,none⟩)) rfl (Or.inl ⟨by kernel_rfl,fun u hu=>by kernel_rfl⟩) hS3.2.2.2.1 ?_
      simp only[Act.put,Y_a,Y_b,Y_c]
      refine Y_s 13 _ rfl (u3.setCell ⟨H,4,none⟩ (.slice o3 (m.length+1) k3)) (Znc hS3.2.2.1 hS3.2.1 rfl (.tmp 50) (.tmp 49) (by kernel_rfl) (by kernel_rfl) (by kernel_rfl)) hS3.1.c1 ?_
      refine wpAnyH_done (by kernel_rfl) ?_ _
      refine NoPanic.normal ?_
      have hA2:=HNx.out t u1 (u3.setCell ⟨H,4,none⟩ (.slice o3 (m.length+1) k3)) hA1 (fun q=>hS3.2.2.2.2.2 (q.low ((Below.refl _ u1).alloc (Nat.le_refl _) _)))
      have hS4:=hS3.1
      go_wp2
      exact⟨⟨i+1,m++[⟨45,t⟩],o3,k3,by omega,by go_num,by simp;omega,by simpa using hS4,hA2⟩,by simp[intOf];omega⟩
     ·intro v0 u1 hH1 hq
      rw[← HRr.out] at hq
      obtain⟨t,rfl,hS1,hA1⟩:=hq
      have c1u:=hS1.c4
      have c2u:=(hS1.alloc (mkO ⟨45,t⟩)).c4
      simp only[Act.put,Y_a,Y_b,Y_c]
      refine Y_t 9 47 _ (.agg #[.int .u8 45,.string ⟨t.toArray⟩]) rfl (Or.inl ⟨by kernel_rfl,fun u hu=>by kernel_rfl⟩) hH1 ?_
      simp only[Act.put,Y_a,Y_b,Y_c]
      refine ZdJ 1 39 _ 10 48 _ rfl (by kernel_rfl) rfl (by kernel_rfl) (by kernel_rfl) (by kernel_rfl) (by kernel_rfl) (.slice o m.length c) u1 (Zoo c1u (.tmp 38) (by kernel_rfl) (by kernel_rfl)) hH1 (.slice (some ⟨u1.heap.size,0,none⟩) 1 1) (u1.alloc (mkO ⟨45,t⟩)) (by kernel_rfl) (hS1.alloc (mkO ⟨45,t⟩)).c1 ?_ ?_
      ·simp only[Act.put,Y_a,Y_b,Y_c]
       refine Y_v 10 48 _ rfl (.slice (some ⟨u1.heap.size,0,none⟩) 1 1) (u1.alloc (mkO ⟨45,t⟩)) (by kernel_rfl) (hS1.alloc (mkO ⟨45,t⟩)).c1 ?_
       simp only[Act.put,Y_a,Y_b,Y_c]
       have hSA:=hS1.alloc (mkO ⟨45,t⟩)
       obtain⟨v3,u3,hr3,hown3,hg3,_⟩:=ZjJ (u1.alloc (mkO ⟨45,t⟩)) 43 47 43 (.agg #[.int .u8 0,.string ⟨#[]⟩]) 2 24 Tryz.underlying43 infoMk rfl (by decide) (by decide) w.heap.size _ _ _ hSA.own _ 1 (mkcells [⟨45,t⟩]) (Zgj u1 ⟨45,t⟩) (Zgo _) (Zgp _) (by omega) hSA.gr.size
       have hS3:=hSA.more hg3 hown3
       obtain⟨o3,k3,rfl⟩:=(Zeo hown3).form
       refine Y_v 11 49 _ rfl (.slice o3 (m.length+1) k3) u3 (ZcT (.tmp 39) (.tmp 48) (by kernel_rfl) (by kernel_rfl) (by kernel_rfl) hr3) hS3.2.2.2.1 ?_
       simp only[Act.put,Y_a,Y_b,Y_c]
       refine Y_t 12 50 _ (.pointer (some ⟨H,4,none⟩)) rfl (Or.inl ⟨by kernel_rfl,fun u hu=>by kernel_rfl⟩) hS3.2.2.2.1 ?_
       simp only[Act.put,Y_a,Y_b,Y_c]
       refine Y_s 13 _ rfl (u3.setCell ⟨H,4,none⟩ (.slice o3 (m.length+1) k3)) (Znc hS3.2.2.1 hS3.2.1 rfl (.tmp 50) (.tmp 49) (by kernel_rfl) (by kernel_rfl) (by kernel_rfl)) hS3.1.c1 ?_
       refine wpAnyH_done (by kernel_rfl) ?_ _
       refine NoPanic.normal ?_
       have hA2:=HNx.out t u1 (u3.setCell ⟨H,4,none⟩ (.slice o3 (m.length+1) k3)) hA1 (fun q=>hS3.2.2.2.2.2 (q.low ((Below.refl _ u1).alloc (Nat.le_refl _) _)))
       have hS4:=hS3.1
       go_wp2
       exact⟨⟨i+1,m++[⟨45,t⟩],o3,k3,by omega,by go_num,by simp;omega,by simpa using hS4,hA2⟩,by simp[intOf];omega⟩
      ·simp only[Act.put,Y_a,Y_b,Y_c]
       refine Y_v 1 39 _ rfl (.slice o m.length c) (u1.alloc (mkO ⟨45,t⟩)) (Zoo c2u (.tmp 38) (by kernel_rfl) (by kernel_rfl)) (hS1.alloc (mkO ⟨45,t⟩)).c1 ?_
       simp only[Act.put,Y_a,Y_b,Y_c]
       have hSA:=hS1.alloc (mkO ⟨45,t⟩)
       obtain⟨v3,u3,hr3,hown3,hg3,_⟩:=ZjJ (u1.alloc (mkO ⟨45,t⟩)) 43 47 43 (.agg #[.int .u8 0,.string ⟨#[]⟩]) 2 24 Tryz.underlying43 infoMk rfl (by decide) (by decide) w.heap.size _ _ _ hSA.own _ 1 (mkcells [⟨45,t⟩]) (Zgj u1 ⟨45,t⟩) (Zgo _) (Zgp _) (by omega) hSA.gr.size
       have hS3:=hSA.more hg3 hown3
       obtain⟨o3,k3,rfl⟩:=(Zeo hown3).form
       refine Y_v 11 49 _ rfl (.slice o3 (m.length+1) k3) u3 (ZcT (.tmp 39) (.tmp 48) (by kernel_rfl) (by kernel_rfl) (by kernel_rfl) hr3) hS3.2.2.2.1 ?_
       simp only[Act.put,Y_a,Y_b,Y_c]
       refine Y_t 12 50 _ (.pointer (some ⟨H,4,none⟩)) rfl (Or.inl ⟨by kernel_rfl,fun u hu=>by kernel_rfl⟩) hS3.2.2.2.1 ?_
       simp only[Act.put,Y_a,Y_b,Y_c]
       refine Y_s 13 _ rfl (u3.setCell ⟨H,4,none⟩ (.slice o3 (m.length+1) k3)) (Znc hS3.2.2.1 hS3.2.1 rfl (.tmp 50) (.tmp 49) (by kernel_rfl) (by kernel_rfl) (by kernel_rfl)) hS3.1.c1 ?_
       refine wpAnyH_done (by kernel_rfl) ?_ _
       refine NoPanic.normal ?_
       have hA2:=HNx.out t u1 (u3.setCell ⟨H,4,none⟩ (.slice o3 (m.length+1) k3)) hA1 (fun q=>hS3.2.2.2.2.2 (q.low ((Below.refl _ u1).alloc (Nat.le_refl _) _)))
       have hS4:=hS3.1
       go_wp2
       exact⟨⟨i+1,m++[⟨45,t⟩],o3,k3,by omega,by go_num,by simp;omega,by simpa using hS4,hA2⟩,by simp[intOf];omega⟩
    ·skip
     rcases hA with ⟨pn,hrx,hpb,hYv⟩ | ⟨p',a,fe,hrx,hfe,hYv⟩
     ·have hia:an=i:=(by
       by_cases hia:i<an
       ·exact absurd ⟨hia,pn,hrx,hpb,hYv⟩ hgo
       ·omega)
      subst hia
      rw[Nat.sub_self] at hYv
      simp only[rdN,thenL,List.append_nil] at hYv
      have hX:=HXx.out
      rw[← hYv] at hX
      dsimp only at hX
      clear HXx hYv hgo
      obtain⟨x0,x1,x2,x3,x4⟩:=hS.hx.cells
      dsimp only at x0 x1 x2 x3 x4
      obtain⟨r0,r1,r2,r3⟩:=hrx.cells
      have hia2:¬ (an:Int)<(an:Int):=by omega
      by_cases hN:(0:Int)<(an:Int)
      ·by_cases hM:(0:Int)<(bn:Int)
       ·obtain⟨Z2,hZ2⟩:∃ Z2,nxt pn (L.drop pn)=Z2:=⟨_,rfl⟩
        rw[if_pos (by omega)] at hX
        unfold sepP at hX
        rw[hZ2] at hX
        go_wp2_with fail
        refine (ZpO wr hrx (HL.out wr hS.gr) hRl (by omega) HSl2.out Z2 hZ2).mono ?_
        rintro x w5 ⟨hq5,hg5⟩
        have hS5:=hS.call hg5
        clear hS hrx hg5 r0 r1 r2 r3 x0 x1 x2 x3 x4
        obtain⟨x0,x1,x2,x3,x4⟩:=hS5.hx.cells
        dsimp only at x0 x1 x2 x3 x4
        cases Z2 with
        | error z =>
         obtain⟨a,fe⟩:=z
         obtain⟨rfl,⟨p',hrx⟩,hfe⟩:=hq5
         dsimp only at hX
         have HXe:Hid (X=.error (a,fe)):=hX.symm
         clear hX hZ2
         obtain⟨r0,r1,r2,r3⟩:=hrx.cells
         go_wp2_with fail
         refine (Zpz 3 w5 hrx hfe).mono ?_
         rintro x w6 ⟨rfl,rfl⟩
         have hS:=hS5
         clear hS5 r0 r1 r2 r3 x0 x1 x2 x3 x4
         obtain⟨r0,r1,r2,r3⟩:=hrx.cells
         have hfb:(fe == 0)=false:=beq_eq_false_iff_ne.2 hfe
         have hXe:=HXe.out
         subst hXe
         have HE:Hid ((∀ {vL:Value} {p fa fe:Int},Rx w6 R vL p fa fe→Rx (put5 w6 w.heap.size A (an:Int) B (bn:Int) (.slice o m.length c)) R vL p fa fe)→(∃ p',Rx (put5 w6 w.heap.size A (an:Int) B (bn:Int) (.slice o m.length c)) R (.slice lo L.length lc) p' (a:Int) fe)∧fe≠0):=fun h=>⟨⟨_,h hrx⟩,hfe⟩
         clear hrx HXe hfe
         obtain⟨x0,x1,x2,x3,x4⟩:=hS.hx.cells
         dsimp only at x0 x1 x2 x3 x4
         go_wp2
         go_loopw [8] (fun iv wz=>iv=.int .i64 0∧wz=w6) (fun _ _=>0)
         case atStart=>exact⟨by go_num,rfl⟩
         case round =>
          obtain⟨rfl,rfl⟩:=hrel
          go_upto_region 17 with fail
          clear x0 x1 x2 x3 x4 r0 r1 r2 r3
          obtain⟨x0,x1,x2,x3,x4⟩:=hS.hx.cells
          dsimp only at x0 x1 x2 x3 x4
          obtain⟨y0,y1,y2,y3,y4⟩:=hS.rb.cells
          have yf0:=hS.rb.frozen 0
          have yf1:=hS.rb.frozen 1
          have yf2:=hS.rb.frozen 2
          have yf3:=hS.rb.frozen 3
          have yf4:=hS.rb.frozen 4
          obtain⟨hP,hownP,hgP,hrP⟩:=hS.done
          have HEnd0:=HE.out hrP
          unfold put5 at hP hownP hgP HEnd0
          have HP:Hid (_=_):=hP
          have HOWN:Hid _:=hownP
          have HGP:Hid _:=hgP
          have HEnd:Hid _:=HEnd0
          clear hrP hS HE hP hownP hgP HEnd0
          go_wp2
          exact bodyPost_ret (v:=hkV ⟨A,(an:Int),B,(bn:Int),m⟩ (.slice o m.length c)) (results_cell_row rfl _ _ w.heap.size 45 #[.int .i64 A,.int .i64 (an:Int),.int .i64 B,.int .i64 (bn:Int),.slice o m.length c] (0,0) _ rfl HP.out Tryz.underlying45 rfl (by kernel_rfl)) rfl ⟨_,_,rfl,HOWN.out,HGP.out,HEnd.out⟩
        | ok z =>
         obtain⟨s2,rr⟩:=z
         obtain⟨rfl,hrx⟩:=hq5
         obtain⟨hr2,hpl2,_,_⟩:=Zhr hZ2
         subst hr2
         dsimp only at hX
         obtain⟨r0,r1,r2,r3⟩:=hrx.cells
         by_cases hse:s2=[45,45,45]
         ·rw[if_pos hse] at hX
          subst hse
          dsimp only at hX
          have HX1:Hid (hkF A (an:Int) B (bn:Int) (thenL m (rdN [62,32] 43 bn (pn+1) (L.drop (pn+1))))=X):=(by
           show _=_
           rw[← hX]
           rcases rdN [62,32] 43 bn (pn+1) (L.drop (pn+1)) with e | ⟨l2,p3,r3⟩<;>rfl)
          obtain⟨b2,hb2⟩:∃ b2,pn+1=b2:=⟨_,rfl⟩
          rw[hb2] at HX1 hrx
          have hb2l:b2≤8589934592:=by omega
          have hq2:=hrx
          have hS:=hS5
          clear hX hZ2 hrx hS5 hb2
          go_wp2
          clear r0 r1 r2 r3 x0 x1 x2 x3 x4
          obtain⟨Y2,hY2⟩:∃ Y2,thenL m (rdN [62,32] 43 bn b2 (L.drop b2))=Y2:=⟨_,rfl⟩
          have HX2:Hid (hkF A (an:Int) B (bn:Int) Y2=X):=(by rw[← hY2];exact HX1.out)
          have hA0:AlR R (.slice lo L.length lc) L fa [62,32] 43 Y2 (b2+2 * 0) (bn-0) m w5:=.inl ⟨b2,hq2,by omega,hY2⟩
          clear HX1 hY2 hq2
          go_loopw [8] (fun iv wr=>∃ (i:Nat) (m:List Mk) (o:Option Addr) (c:Nat),i≤bn∧iv=.int .i64 (i:Int)∧m.length≤an+i∧Sb w R H A (an:Int) B (bn:Int) m (.slice o m.length c) wr∧AlR R (.slice lo L.length lc) L fa [62,32] 43 Y2 (b2+2 * i) (bn-i) m wr) (fun iv _=>bn-(intOf iv).toNat)
          case atStart=>exact⟨0,m,o,c,Nat.zero_le _,by go_num,by omega,hS,hA0⟩
          case round =>
           clear hS hA0 hml
           clear m o c
           obtain⟨i,m,o,c,hi,rfl,hml,hS,hA⟩:=hrel
           by_cases hgo:i<bn∧∃ pn:Nat,Rx wr R (.slice lo L.length lc) (pn:Int) fa 0∧pn≤b2+2 * i∧thenL m (rdN [62,32] 43 (bn-i) pn (L.drop pn))=Y2
           ·obtain⟨hlt,hA⟩:=hgo
            obtain⟨pn,hrx,hpb,hY1⟩:=hA
            obtain⟨x0,x1,x2,x3,x4⟩:=hS.hx.cells
            obtain⟨r0,r1,r2,r3⟩:=hrx.cells
            dsimp only at x0 x1 x2 x3 x4
            have hn1:bn-i=(bn-(i+1))+1:=by omega
            have HNx:Hid (∀ (t:List UInt8) (u u':World),NxR R (.slice lo L.length lc) L fa [62,32] 43 Y2 (b2+2 * (i+1)) (bn-(i+1)) m t u→(∀ {vL:Value} {p fa fe:Int},Rx u R vL p fa fe→Rx u' R vL p fa fe)→AlR R (.slice lo L.length lc) L fa [62,32] 43 Y2 (b2+2 * (i+1)) (bn-(i+1)) (m++[⟨43,t⟩]) u'):=fun t u u' h hk=>NxR.on h hk
            have hSd:=hS.drew
            obtain⟨Rr,hRr⟩:∃ Rr:Value→World→Prop,(fun v u=>∃ t:List UInt8,v=.string ⟨t.toArray⟩∧Sb w R H A (an:Int) B (bn:Int) m (.slice o m.length c) u∧NxR R (.slice lo L.length lc) L fa [62,32] 43 Y2 (b2+2 * (i+1)) (bn-(i+1)) m t u)=Rr:=⟨_,rfl⟩
            have hcall:Calls Tryz.prog 112 (#[.pointer (some ⟨R,0,none⟩),.string ⟨#[62,32]⟩,.bool ((i:Int) == (bn:Int)-1)]++#[]) wr.drew fun e w'=>(∃ v,e=.returned v∧w'.cell? ⟨H,3,none⟩=some (.int .i64 (bn:Int))∧Rr v w')∨(∃ c,e=.panicked c∧False):=(by
             obtain⟨Z,hZ⟩:∃ Z,mkd [62,32] ((i:Int) == (bn:Int)-1) pn (L.drop pn)=Z:=⟨_,rfl⟩
             have hlast:(bn-(i+1) == 0)=((i:Int) == (bn:Int)-1):=(by rw[Bool.eq_iff_iff,beq_iff_eq,beq_iff_eq];omega)
             refine (ZpF wr.drew (show Rx wr.drew R (.slice lo L.length lc) pn fa 0 from hrx) (HL.out _ hSd.gr) hRl (by omega) HSl2.out [62,32] rfl _ Z hZ).mono ?_
             rintro e w' ⟨hq,hg⟩
             left
             have hS':=hSd.call hg
             rw[← hRr]
             rw[hn1] at hY1
             cases Z with
             | error z =>
              obtain⟨a,z⟩:=z
              obtain⟨t,p',rfl,hr,hz⟩:=hq
              exact⟨_,rfl,hS'.c3,t,rfl,hS',.inr ⟨p',a,z,hr,hz,by rw[← hY1];exact Zqp hlast hZ m⟩⟩
             | ok z =>
              obtain⟨t,p1,r⟩:=z
              obtain⟨rfl,hr,hd⟩:=hq
              have hle:=Zou hZ
              exact⟨_,rfl,hS'.c3,t,rfl,hS',.inl ⟨p1,hr,by omega,by rw[← hY1,Zqq hlast hZ m,hd]⟩⟩)
            have HRr:Hid (_=Rr):=hRr
            have j1:(i:Int)<(bn:Int):=by omega
            clear hRr hY1 hn1
            go_upto_region 16 with fail
            clear x0 x1 x2 x3 x4 r0 r1 r2 r3 j1
            refine wp_region_noPanic ?_
            refine wp_region_held_drew (S:=fun u=>u.cell? ⟨H,3,none⟩=some (.int .i64 (bn:Int))) (by kernel_rfl) hSd.c3 (fun hHeld=>?_)
            generalize wr.drew=wd at hSd hcall hHeld ⊢
            have c4d:=hSd.c4
            refine Y_t 0 88 _ (.pointer (some ⟨H,4,none⟩)) rfl (Or.inl ⟨by kernel_rfl,fun u hu=>by kernel_rfl⟩) hHeld ?_
            simp only[Act.put,Y_a,Y_b,Y_c]
            refine Y_t 2 90 _ (.pointer (some ⟨R,0,none⟩)) rfl (Or.inl ⟨by kernel_rfl,fun u hu=>by kernel_rfl⟩) hHeld ?_
            simp only[Act.put,Y_a,Y_b,Y_c]
            refine Y_t 3 91 _ (.int .i64 (i:Int)) rfl (Or.inl ⟨by kernel_rfl,fun u hu=>by kernel_rfl⟩) hHeld ?_
            simp only[Act.put,Y_a,Y_b,Y_c]
            refine Y_t 4 92 _ (.pointer (some ⟨H,3,none⟩)) rfl (Or.inl ⟨by kernel_rfl,fun u hu=>by kernel_rfl⟩) hHeld ?_
            simp only[Act.put,Y_a,Y_b,Y_c]
            refine Y_t 5 93 _ (.int .i64 (bn:Int)) rfl (Or.inl ⟨by kernel_rfl,fun u hu=>Zon hu (.tmp 92) (by kernel_rfl) (by kernel_rfl)⟩) hHeld ?_
            simp only[Act.put,Y_a,Y_b,Y_c]
            refine Y_t 6 94 _ (.int .i64 ((bn:Int)-1)) rfl (Or.inl ⟨by kernel_rfl,fun u hu=>Zrz (z:=(bn:Int)) (by omega) (by omega) (.tmp 93) (by kernel_rfl) (by kernel_rfl) (by kernel_rfl)⟩) hHeld ?_
            simp only[Act.put,Y_a,Y_b,Y_c]
            refine Y_t 7 95 _ (.bool ((i:Int) == (bn:Int)-1)) rfl (Or.inl ⟨by kernel_rfl,fun u hu=>by kernel_rfl⟩) hHeld ?_
            simp only[Act.put,Y_a,Y_b,Y_c]
            refine ZdL 1 89 _ 8 96 _ rfl (by kernel_rfl) rfl (by kernel_rfl) (by kernel_rfl) (by kernel_rfl) (by kernel_rfl) (.slice o m.length c) wd (Zoo c4d (.tmp 88) (by kernel_rfl) (by kernel_rfl)) hHeld 112 (.func 112) #[.tmp 90,.const (.string ⟨#[62,32]⟩),.tmp 95] #[118,9,4] (by kernel_rfl) #[] (by kernel_rfl) #[.pointer (some ⟨R,0,none⟩),.string ⟨#[62,32]⟩,.bool ((i:Int) == (bn:Int)-1)] (by kernel_rfl) (enters_of Tryz.func112 (by kernel_rfl) rfl) (Rr) (fun _ _=>False) (fun c u h=>h.elim) ?_ ?_ ?_
            ·exact hcall
            ·simp only[Act.put,Y_a,Y_b,Y_c]
             refine ZdE 8 96 _ rfl (by kernel_rfl) (by kernel_rfl) (by kernel_rfl) 112 (.func 112) #[.tmp 90,.const (.string ⟨#[62,32]⟩),.tmp 95] #[118,9,4] (by kernel_rfl) #[] (by kernel_rfl) #[.pointer (some ⟨R,0,none⟩),.string ⟨#[62,32]⟩,.bool ((i:Int) == (bn:Int)-1)] (by kernel_rfl) (enters_of Tryz.func112 (by kernel_rfl) rfl) (Rr) (fun _ _=>False) (fun c u h=>h.elim) ?_ ?_
             ·exact hcall
             intro v0 u1 hH1 hq
             rw[← HRr.out] at hq
             obtain⟨t,rfl,hS1,hA1⟩:=hq
             have c1u:=hS1.c4
             have c2u:=(hS1.alloc (mkO ⟨43,t⟩)).c4
             simp only[Act.put,Y_a,Y_b,Y_c]
             refine Y_t 9 97 _ (.agg #[.int .u8 43,.string ⟨t.toArray⟩]) rfl (Or.inl ⟨by kernel_rfl,fun u hu=>by kernel_rfl⟩) hH1 ?_
             simp only[Act.put,Y_a,Y_b,Y_c]
             refine Y_v 10 98 _ rfl (.slice (some ⟨u1.heap.size,0,none⟩) 1 1) (u1.alloc (mkO ⟨43,t⟩)) (by kernel_rfl) (hS1.alloc (mkO ⟨43,t⟩)).c3 ?_
             simp only[Act.put,Y_a,Y_b,Y_c]
             have hSA:=hS1.alloc (mkO ⟨43,t⟩)
             obtain⟨v3,u3,hr3,hown3,hg3,_⟩:=ZjJ (u1.alloc (mkO ⟨43,t⟩)) 43 47 43 (.agg #[.int .u8 0,.string ⟨#[]⟩]) 2 24 Tryz.underlying43 infoMk rfl (by decide) (by decide) w.heap.size _ _ _ hSA.own _ 1 (mkcells [⟨43,t⟩]) (Zgj u1 ⟨43,t⟩) (Zgo _) (Zgp _) (by omega) hSA.gr.size
             have hS3:=hSA.more hg3 hown3
             obtain⟨o3,k3,rfl⟩:=(Zeo hown3).form
             refine Y_v 11 99 _ rfl (.slice o3 (m.length+1) k3) u3 (ZcT (.tmp 89) (.tmp 98) (by kernel_rfl) (by kernel_rfl) (by kernel_rfl) hr3) hS3.2.2.2.2.1 ?_
             simp only[Act.put,Y_a,Y_b,Y_c]
             refine Y_t 12 100 _ (.pointer (some ⟨H,4,none⟩)) rfl (Or.inl ⟨by kernel_rfl,fun u hu=>by kernel_rfl⟩) hS3.2.2.2.2.1 ?_
             simp only[Act.put,Y_a,Y_b,Y_c]
             refine Y_s 13 _ rfl (u3.setCell ⟨H,4,none⟩ (.slice o3 (m.length+1) k3)) (Znc hS3.2.2.1 hS3.2.1 rfl (.tmp 100) (.tmp 99) (by kernel_rfl) (by kernel_rfl) (by kernel_rfl)) hS3.1.c3 ?_
             refine wpAnyH_done (by kernel_rfl) ?_ _
             refine NoPanic.normal ?_
             have hA2:=HNx.out t u1 (u3.setCell ⟨H,4,none⟩ (.slice o3 (m.length+1) k3)) hA1 (fun q=>hS3.2.2.2.2.2 (q.low ((Below.refl _ u1).alloc (Nat.le_refl _) _)))
             have hS4:=hS3.1
             go_wp2
             exact⟨⟨i+1,m++[⟨43,t⟩],o3,k3,by omega,by go_num,by simp;omega,by simpa using hS4,hA2⟩,by simp[intOf];omega⟩
            ·intro v0 u1 hH1 hq
             rw[← HRr.out] at hq
             obtain⟨t,rfl,hS1,hA1⟩:=hq
             have c1u:=hS1.c4
             have c2u:=(hS1.alloc (mkO ⟨43,t⟩)).c4
             simp only[Act.put,Y_a,Y_b,Y_c]
             refine Y_t 9 97 _ (.agg #[.int .u8 43,.string ⟨t.toArray⟩]) rfl (Or.inl ⟨by kernel_rfl,fun u hu=>by kernel_rfl⟩) hH1 ?_
             simp only[Act.put,Y_a,Y_b,Y_c]
             refine ZdJ 1 89 _ 10 98 _ rfl (by kernel_rfl) rfl (by kernel_rfl) (by kernel_rfl) (by kernel_rfl) (by kernel_rfl) (.slice o m.length c) u1 (Zoo c1u (.tmp 88) (by kernel_rfl) (by kernel_rfl)) hH1 (.slice (some ⟨u1.heap.size,0,none⟩) 1 1) (u1.alloc (mkO ⟨43,t⟩)) (by kernel_rfl) (hS1.alloc (mkO ⟨43,t⟩)).c3 ?_ ?_
             ·simp only[Act.put,Y_a,Y_b,Y_c]
              refine Y_v 10 98 _ rfl (.slice (some ⟨u1.heap.size,0,none⟩) 1 1) (u1.alloc (mkO ⟨43,t⟩)) (by kernel_rfl) (hS1.alloc (mkO ⟨43,t⟩)).c3 ?_
              simp only[Act.put,Y_a,Y_b,Y_c]
              have hSA:=hS1.alloc (mkO ⟨43,t⟩)
              obtain⟨v3,u3,hr3,hown3,hg3,_⟩:=ZjJ (u1.alloc (mkO ⟨43,t⟩)) 43 47 43 (.agg #[.int .u8 0,.string ⟨#[]⟩]) 2 24 Tryz.underlying43 infoMk rfl (by decide) (by decide) w.heap.size _ _ _ hSA.own _ 1 (mkcells [⟨43,t⟩]) (Zgj u1 ⟨43,t⟩) (Zgo _) (Zgp _) (by omega) hSA.gr.size
              have hS3:=hSA.more hg3 hown3
              obtain⟨o3,k3,rfl⟩:=(Zeo hown3).form
              refine Y_v 11 99 _ rfl (.slice o3 (m.length+1) k3) u3 (ZcT (.tmp 89) (.tmp 98) (by kernel_rfl) (by kernel_rfl) (by kernel_rfl) hr3) hS3.2.2.2.2.1 ?_
              simp only[Act.put,Y_a,Y_b,Y_c]
              refine Y_t 12 100 _ (.pointer (some ⟨H,4,none⟩)) rfl (Or.inl ⟨by kernel_rfl,fun u hu=>by kernel_rfl⟩) hS3.2.2.2.2.1 ?_
              simp only[Act.put,Y_a,Y_b,Y_c]
              refine Y_s 13 _ rfl (u3.setCell ⟨H,4,none⟩ (.slice o3 (m.length+1) k3)) (Znc hS3.2.2.1 hS3.2.1 rfl (.tmp 100) (.tmp 99) (by kernel_rfl) (by kernel_rfl) (by kernel_rfl)) hS3.1.c3 ?_
              refine wpAnyH_done (by kernel_rfl) ?_ _
              refine NoPanic.normal ?_
              have hA2:=HNx.out t u1 (u3.setCell ⟨H,4,none⟩ (.slice o3 (m.length+1) k3)) hA1 (fun q=>hS3.2.2.2.2.2 (q.low ((Below.refl _ u1).alloc (Nat.le_refl _) _)))
              have hS4:=hS3.1
              go_wp2
              exact⟨⟨i+1,m++[⟨43,t⟩],o3,k3,by omega,by go_num,by simp;omega,by simpa using hS4,hA2⟩,by simp[intOf];omega⟩
             ·simp only[Act.put,Y_a,Y_b,Y_c]
              refine Y_v 1 89 _ rfl (.slice o m.length c) (u1.alloc (mkO ⟨43,t⟩)) (Zoo c2u (.tmp 88) (by kernel_rfl) (by kernel_rfl)) (hS1.alloc (mkO ⟨43,t⟩)).c3 ?_
              simp only[Act.put,Y_a,Y_b,Y_c]
              have hSA:=hS1.alloc (mkO ⟨43,t⟩)
              obtain⟨v3,u3,hr3,hown3,hg3,_⟩:=ZjJ (u1.alloc (mkO ⟨43,t⟩)) 43 47 43 (.agg #[.int .u8 0,.string ⟨#[]⟩]) 2 24 Tryz.underlying43 infoMk rfl (by decide) (by decide) w.heap.size _ _ _ hSA.own _ 1 (mkcells [⟨43,t⟩]) (Zgj u1 ⟨43,t⟩) (Zgo _) (Zgp _) (by omega) hSA.gr.size
              have hS3:=hSA.more hg3 hown3
              obtain⟨o3,k3,rfl⟩:=(Zeo hown3).form
              refine Y_v 11 99 _ rfl (.slice o3 (m.length+1) k3) u3 (ZcT (.tmp 89) (.tmp 98) (by kernel_rfl) (by kernel_rfl) (by kernel_rfl) hr3) hS3.2.2.2.2.1 ?_
              simp only[Act.put,Y_a,Y_b,Y_c]
              refine Y_t 12 100 _ (.pointer (some ⟨H,4,none⟩)) rfl (Or.inl ⟨by kernel_rfl,fun u hu=>by kernel_rfl⟩) hS3.2.2.2.2.1 ?_
              simp only[Act.put,Y_a,Y_b,Y_c]
              refine Y_s 13 _ rfl (u3.setCell ⟨H,4,none⟩ (.slice o3 (m.length+1) k3)) (Znc hS3.2.2.1 hS3.2.1 rfl (.tmp 100) (.tmp 99) (by kernel_rfl) (by kernel_rfl) (by kernel_rfl)) hS3.1.c3 ?_
              refine wpAnyH_done (by kernel_rfl) ?_ _
              refine NoPanic.normal ?_
              have hA2:=HNx.out t u1 (u3.setCell ⟨H,4,none⟩ (.slice o3 (m.length+1) k3)) hA1 (fun q=>hS3.2.2.2.2.2 (q.low ((Below.refl _ u1).alloc (Nat.le_refl _) _)))
              have hS4:=hS3.1
              go_wp2
              exact⟨⟨i+1,m++[⟨43,t⟩],o3,k3,by omega,by go_num,by simp;omega,by simpa using hS4,hA2⟩,by simp[intOf];omega⟩
           ·have HE:Hid ((∀ {vL:Value} {p fa fe:Int},Rx wr R vL p fa fe→Rx (put5 wr w.heap.size A (an:Int) B (bn:Int) (.slice o m.length c)) R vL p fa fe)→EdR R (.slice lo L.length lc) L fa X ⟨A,(an:Int),B,(bn:Int),m⟩ (put5 wr w.heap.size A (an:Int) B (bn:Int) (.slice o m.length c))):=(by
             intro h
             have hXv:=HX2.out
             rcases hA with ⟨pn,hr,_,hY⟩ | ⟨p',a,fe,hr,hz,hY⟩
             ·have hib:i=bn:=(by
               by_cases hib:i<bn
               ·exact absurd ⟨hib,pn,hr,by assumption,hY⟩ hgo
               ·omega)
              rw[hib,Nat.sub_self] at hY
              simp only[rdN,thenL,List.append_nil] at hY
              rw[← hY] at hXv
              rw[← hXv]
              exact⟨rfl,h hr,rfl⟩
             ·rw[hY] at hXv
              rw[← hXv]
              exact⟨⟨_,h hr⟩,hz⟩)
            have hfst:(i<bn→∃ fe p' fa',Rx wr R (.slice lo L.length lc) p' fa' fe∧fe≠0):=(by
             intro hib
             rcases hA with ⟨pn,hr,hb,hY⟩ | ⟨p',a,fe,hr,hz,hY⟩
             ·exact absurd ⟨hib,pn,hr,hb,hY⟩ hgo
             ·exact⟨fe,p',_,hr,hz⟩)
            clear hA hgo HX2
            obtain⟨x0,x1,x2,x3,x4⟩:=hS.hx.cells
            dsimp only at x0 x1 x2 x3 x4
            by_cases hib:i<bn
            ·obtain⟨fe,p',fa',hr,hz⟩:=hfst hib
             obtain⟨r0,r1,r2,r3⟩:=hr.cells
             have hfb:(fe == 0)=false:=beq_eq_false_iff_ne.2 hz
             have hib2:(i:Int)<(bn:Int):=by omega
             clear hr hfst
             go_upto_region 17 with fail
             clear x0 x1 x2 x3 x4 r0 r1 r2 r3
             obtain⟨x0,x1,x2,x3,x4⟩:=hS.hx.cells
             dsimp only at x0 x1 x2 x3 x4
             obtain⟨y0,y1,y2,y3,y4⟩:=hS.rb.cells
             have yf0:=hS.rb.frozen 0
             have yf1:=hS.rb.frozen 1
             have yf2:=hS.rb.frozen 2
             have yf3:=hS.rb.frozen 3
             have yf4:=hS.rb.frozen 4
             obtain⟨hP,hownP,hgP,hrP⟩:=hS.done
             have HEnd0:=HE.out hrP
             unfold put5 at hP hownP hgP HEnd0
             have HP:Hid (_=_):=hP
             have HOWN:Hid _:=hownP
             have HGP:Hid _:=hgP
             have HEnd:Hid _:=HEnd0
             clear hrP hS HE hP hownP hgP HEnd0
             go_wp2
             exact bodyPost_ret (v:=hkV ⟨A,(an:Int),B,(bn:Int),m⟩ (.slice o m.length c)) (results_cell_row rfl _ _ w.heap.size 45 #[.int .i64 A,.int .i64 (an:Int),.int .i64 B,.int .i64 (bn:Int),.slice o m.length c] (0,0) _ rfl HP.out Tryz.underlying45 rfl (by kernel_rfl)) rfl ⟨_,_,rfl,HOWN.out,HGP.out,HEnd.out⟩
            ·have hib2:¬ (i:Int)<(bn:Int):=by omega
             clear hfst
             go_upto_region 17 with fail
             clear x0 x1 x2 x3 x4
             obtain⟨x0,x1,x2,x3,x4⟩:=hS.hx.cells
             dsimp only at x0 x1 x2 x3 x4
             obtain⟨y0,y1,y2,y3,y4⟩:=hS.rb.cells
             have yf0:=hS.rb.frozen 0
             have yf1:=hS.rb.frozen 1
             have yf2:=hS.rb.frozen 2
             have yf3:=hS.rb.frozen 3
             have yf4:=hS.rb.frozen 4
             obtain⟨hP,hownP,hgP,hrP⟩:=hS.done
             have HEnd0:=HE.out hrP
             unfold put5 at hP hownP hgP HEnd0
             have HP:Hid (_=_):=hP
             have HOWN:Hid _:=hownP
             have HGP:Hid _:=hgP
             have HEnd:Hid _:=HEnd0
             clear hrP hS HE hP hownP hgP HEnd0
             go_wp2
             exact bodyPost_ret (v:=hkV ⟨A,(an:Int),B,(bn:Int),m⟩ (.slice o m.length c)) (results_cell_row rfl _ _ w.heap.size 45 #[.int .i64 A,.int .i64 (an:Int),.int .i64 B,.int .i64 (bn:Int),.slice o m.length c] (0,0) _ rfl HP.out Tryz.underlying45 rfl (by kernel_rfl)) rfl ⟨_,_,rfl,HOWN.out,HGP.out,HEnd.out⟩
         ·rw[if_neg hse] at hX
          have HXe:Hid (X=.error (pn+1,3)):=hX.symm
          have hseb:(s2 == [45,45,45])=false:=beq_eq_false_iff_ne.2 hse
          clear hX hZ2
          go_wp2_with fail
          refine (ZpA 3 w5 hrx).mono ?_
          rintro x w6 ⟨rfl,hrx6,hg6⟩
          have hS:=hS5.call hg6
          have hrx:=hrx6
          clear hS5 hrx6 hg6 hseb hse r0 r1 r2 r3 x0 x1 x2 x3 x4
          obtain⟨a,ha⟩:∃ a,pn+1=a:=⟨_,rfl⟩
          obtain⟨fe,hfe0⟩:∃ fe:Int,3=fe:=⟨_,rfl⟩
          have hfe:fe≠0:=by omega
          rw[ha] at hrx HXe
          rw[hfe0] at hrx HXe
          clear ha hfe0
          obtain⟨r0,r1,r2,r3⟩:=hrx.cells
          have hfb:(fe == 0)=false:=beq_eq_false_iff_ne.2 hfe
          have hXe:=HXe.out
          subst hXe
          have HE:Hid ((∀ {vL:Value} {p fa fe:Int},Rx w6 R vL p fa fe→Rx (put5 w6 w.heap.size A (an:Int) B (bn:Int) (.slice o m.length c)) R vL p fa fe)→(∃ p',Rx (put5 w6 w.heap.size A (an:Int) B (bn:Int) (.slice o m.length c)) R (.slice lo L.length lc) p' (a:Int) fe)∧fe≠0):=fun h=>⟨⟨_,h hrx⟩,hfe⟩
          clear hrx HXe hfe
          obtain⟨x0,x1,x2,x3,x4⟩:=hS.hx.cells
          dsimp only at x0 x1 x2 x3 x4
          go_wp2
          go_loopw [8] (fun iv wz=>iv=.int .i64 0∧wz=w6) (fun _ _=>0)
          case atStart=>exact⟨by go_num,rfl⟩
          case round =>
           obtain⟨rfl,rfl⟩:=hrel
           go_upto_region 17 with fail
           clear x0 x1 x2 x3 x4 r0 r1 r2 r3
           obtain⟨x0,x1,x2,x3,x4⟩:=hS.hx.cells
           dsimp only at x0 x1 x2 x3 x4
           obtain⟨y0,y1,y2,y3,y4⟩:=hS.rb.cells
           have yf0:=hS.rb.frozen 0
           have yf1:=hS.rb.frozen 1
           have yf2:=hS.rb.frozen 2
           have yf3:=hS.rb.frozen 3
           have yf4:=hS.rb.frozen 4
           obtain⟨hP,hownP,hgP,hrP⟩:=hS.done
           have HEnd0:=HE.out hrP
           unfold put5 at hP hownP hgP HEnd0
           have HP:Hid (_=_):=hP
           have HOWN:Hid _:=hownP
           have HGP:Hid _:=hgP
           have HEnd:Hid _:=HEnd0
           clear hrP hS HE hP hownP hgP HEnd0
           go_wp2
           exact bodyPost_ret (v:=hkV ⟨A,(an:Int),B,(bn:Int),m⟩ (.slice o m.length c)) (results_cell_row rfl _ _ w.heap.size 45 #[.int .i64 A,.int .i64 (an:Int),.int .i64 B,.int .i64 (bn:Int),.slice o m.length c] (0,0) _ rfl HP.out Tryz.underlying45 rfl (by kernel_rfl)) rfl ⟨_,_,rfl,HOWN.out,HGP.out,HEnd.out⟩
       ·rw[if_neg (by omega)] at hX
        dsimp only at hX
        have HX1:Hid (hkF A (an:Int) B (bn:Int) (thenL m (rdN [62,32] 43 bn pn (L.drop pn)))=X):=(by
         show _=_
         rw[← hX]
         rcases rdN [62,32] 43 bn pn (L.drop pn) with e | ⟨l2,p3,r3⟩<;>rfl)
        obtain⟨b2,hb2⟩:∃ b2,b2=pn:=⟨_,rfl⟩
        subst hb2
        have hb2l:b2≤8589934592:=by omega
        have hq2:=hrx
        clear hX hrx
        go_wp2
        clear r0 r1 r2 r3 x0 x1 x2 x3 x4
        obtain⟨Y2,hY2⟩:∃ Y2,thenL m (rdN [62,32] 43 bn b2 (L.drop b2))=Y2:=⟨_,rfl⟩
        have HX2:Hid (hkF A (an:Int) B (bn:Int) Y2=X):=(by rw[← hY2];exact HX1.out)
        have hA0:AlR R (.slice lo L.length lc) L fa [62,32] 43 Y2 (b2+2 * 0) (bn-0) m wr:=.inl ⟨b2,hq2,by omega,hY2⟩
        clear HX1 hY2 hq2
        go_loopw [8] (fun iv wr=>∃ (i:Nat) (m:List Mk) (o:Option Addr) (c:Nat),i≤bn∧iv=.int .i64 (i:Int)∧m.length≤an+i∧Sb w R H A (an:Int) B (bn:Int) m (.slice o m.length c) wr∧AlR R (.slice lo L.length lc) L fa [62,32] 43 Y2 (b2+2 * i) (bn-i) m wr) (fun iv _=>bn-(intOf iv).toNat)
        case atStart=>exact⟨0,m,o,c,Nat.zero_le _,by go_num,by omega,hS,hA0⟩
        case round =>
         clear hS hA0 hml
         clear m o c
         obtain⟨i,m,o,c,hi,rfl,hml,hS,hA⟩:=hrel
         by_cases hgo:i<bn∧∃ pn:Nat,Rx wr R (.slice lo L.length lc) (pn:Int) fa 0∧pn≤b2+2 * i∧thenL m (rdN [62,32] 43 (bn-i) pn (L.drop pn))=Y2
         ·exfalso
          obtain⟨hlt,_⟩:=hgo
          omega
         ·have HE:Hid ((∀ {vL:Value} {p fa fe:Int},Rx wr R vL p fa fe→Rx (put5 wr w.heap.size A (an:Int) B (bn:Int) (.slice o m.length c)) R vL p fa fe)→EdR R (.slice lo L.length lc) L fa X ⟨A,(an:Int),B,(bn:Int),m⟩ (put5 wr w.heap.size A (an:Int) B (bn:Int) (.slice o m.length c))):=(by
           intro h
           have hXv:=HX2.out
           rcases hA with ⟨pn,hr,_,hY⟩ | ⟨p',a,fe,hr,hz,hY⟩
           ·have hib:i=bn:=(by
             by_cases hib:i<bn
             ·exact absurd ⟨hib,pn,hr,by assumption,hY⟩ hgo
             ·omega)
            rw[hib,Nat.sub_self] at hY
            simp only[rdN,thenL,List.append_nil] at hY
            rw[← hY] at hXv
            rw[← hXv]
            exact⟨rfl,h hr,rfl⟩
           ·rw[hY] at hXv
            rw[← hXv]
            exact⟨⟨_,h hr⟩,hz⟩)
          have hfst:(i<bn→∃ fe p' fa',Rx wr R (.slice lo L.length lc) p' fa' fe∧fe≠0):=(by
           intro hib
           rcases hA with ⟨pn,hr,hb,hY⟩ | ⟨p',a,fe,hr,hz,hY⟩
           ·exact absurd ⟨hib,pn,hr,hb,hY⟩ hgo
           ·exact⟨fe,p',_,hr,hz⟩)
          clear hA hgo HX2
          obtain⟨x0,x1,x2,x3,x4⟩:=hS.hx.cells
          dsimp only at x0 x1 x2 x3 x4
          by_cases hib:i<bn
          ·exfalso
           omega
          ·have hib2:¬ (i:Int)<(bn:Int):=by omega
           clear hfst
           go_upto_region 17 with fail
           clear x0 x1 x2 x3 x4
           obtain⟨x0,x1,x2,x3,x4⟩:=hS.hx.cells
           dsimp only at x0 x1 x2 x3 x4
           obtain⟨y0,y1,y2,y3,y4⟩:=hS.rb.cells
           have yf0:=hS.rb.frozen 0
           have yf1:=hS.rb.frozen 1
           have yf2:=hS.rb.frozen 2
           have yf3:=hS.rb.frozen 3
           have yf4:=hS.rb.frozen 4
           obtain⟨hP,hownP,hgP,hrP⟩:=hS.done
           have HEnd0:=HE.out hrP
           unfold put5 at hP hownP hgP HEnd0
           have HP:Hid (_=_):=hP
           have HOWN:Hid _:=hownP
           have HGP:Hid _:=hgP
           have HEnd:Hid _:=HEnd0
           clear hrP hS HE hP hownP hgP HEnd0
           go_wp2
           exact bodyPost_ret (v:=hkV ⟨A,(an:Int),B,(bn:Int),m⟩ (.slice o m.length c)) (results_cell_row rfl _ _ w.heap.size 45 #[.int .i64 A,.int .i64 (an:Int),.int .i64 B,.int .i64 (bn:Int),.slice o m.length c] (0,0) _ rfl HP.out Tryz.underlying45 rfl (by kernel_rfl)) rfl ⟨_,_,rfl,HOWN.out,HGP.out,HEnd.out⟩
      ·rw[if_neg (by omega)] at hX
       dsimp only at hX
       have HX1:Hid (hkF A (an:Int) B (bn:Int) (thenL m (rdN [62,32] 43 bn pn (L.drop pn)))=X):=(by
        show _=_
        rw[← hX]
        rcases rdN [62,32] 43 bn pn (L.drop pn) with e | ⟨l2,p3,r3⟩<;>rfl)
       obtain⟨b2,hb2⟩:∃ b2,b2=pn:=⟨_,rfl⟩
       subst hb2
       have hb2l:b2≤8589934592:=by omega
       have hq2:=hrx
       clear hX hrx
       go_wp2
       clear r0 r1 r2 r3 x0 x1 x2 x3 x4
       obtain⟨Y2,hY2⟩:∃ Y2,thenL m (rdN [62,32] 43 bn b2 (L.drop b2))=Y2:=⟨_,rfl⟩
       have HX2:Hid (hkF A (an:Int) B (bn:Int) Y2=X):=(by rw[← hY2];exact HX1.out)
       have hA0:AlR R (.slice lo L.length lc) L fa [62,32] 43 Y2 (b2+2 * 0) (bn-0) m wr:=.inl ⟨b2,hq2,by omega,hY2⟩
       clear HX1 hY2 hq2
       go_loopw [8] (fun iv wr=>∃ (i:Nat) (m:List Mk) (o:Option Addr) (c:Nat),i≤bn∧iv=.int .i64 (i:Int)∧m.length≤an+i∧Sb w R H A (an:Int) B (bn:Int) m (.slice o m.length c) wr∧AlR R (.slice lo L.length lc) L fa [62,32] 43 Y2 (b2+2 * i) (bn-i) m wr) (fun iv _=>bn-(intOf iv).toNat)
       case atStart=>exact⟨0,m,o,c,Nat.zero_le _,by go_num,by omega,hS,hA0⟩
       case round =>
        clear hS hA0 hml
        clear m o c
        obtain⟨i,m,o,c,hi,rfl,hml,hS,hA⟩:=hrel
        by_cases hgo:i<bn∧∃ pn:Nat,Rx wr R (.slice lo L.length lc) (pn:Int) fa 0∧pn≤b2+2 * i∧thenL m (rdN [62,32] 43 (bn-i) pn (L.drop pn))=Y2
        ·obtain⟨hlt,hA⟩:=hgo
         obtain⟨pn,hrx,hpb,hY1⟩:=hA
         obtain⟨x0,x1,x2,x3,x4⟩:=hS.hx.cells
         obtain⟨r0,r1,r2,r3⟩:=hrx.cells
         dsimp only at x0 x1 x2 x3 x4
         have hn1:bn-i=(bn-(i+1))+1:=by omega
         have HNx:Hid (∀ (t:List UInt8) (u u':World),NxR R (.slice lo L.length lc) L fa [62,32] 43 Y2 (b2+2 * (i+1)) (bn-(i+1)) m t u→(∀ {vL:Value} {p fa fe:Int},Rx u R vL p fa fe→Rx u' R vL p fa fe)→AlR R (.slice lo L.length lc) L fa [62,32] 43 Y2 (b2+2 * (i+1)) (bn-(i+1)) (m++[⟨43,t⟩]) u'):=fun t u u' h hk=>NxR.on h hk
         have hSd:=hS.drew
         obtain⟨Rr,hRr⟩:∃ Rr:Value→World→Prop,(fun v u=>∃ t:List UInt8,v=.string ⟨t.toArray⟩∧Sb w R H A (an:Int) B (bn:Int) m (.slice o m.length c) u∧NxR R (.slice lo L.length lc) L fa [62,32] 43 Y2 (b2+2 * (i+1)) (bn-(i+1)) m t u)=Rr:=⟨_,rfl⟩
         have hcall:Calls Tryz.prog 112 (#[.pointer (some ⟨R,0,none⟩),.string ⟨#[62,32]⟩,.bool ((i:Int) == (bn:Int)-1)]++#[]) wr.drew fun e w'=>(∃ v,e=.returned v∧w'.cell? ⟨H,3,none⟩=some (.int .i64 (bn:Int))∧Rr v w')∨(∃ c,e=.panicked c∧False):=(by
          obtain⟨Z,hZ⟩:∃ Z,mkd [62,32] ((i:Int) == (bn:Int)-1) pn (L.drop pn)=Z:=⟨_,rfl⟩
          have hlast:(bn-(i+1) == 0)=((i:Int) == (bn:Int)-1):=(by rw[Bool.eq_iff_iff,beq_iff_eq,beq_iff_eq];omega)
          refine (ZpF wr.drew (show Rx wr.drew R (.slice lo L.length lc) pn fa 0 from hrx) (HL.out _ hSd.gr) hRl (by omega) HSl2.out [62,32] rfl _ Z hZ).mono ?_
          rintro e w' ⟨hq,hg⟩
          left
          have hS':=hSd.call hg
          rw[← hRr]
          rw[hn1] at hY1
          cases Z with
          | error z =>
           obtain⟨a,z⟩:=z
           obtain⟨t,p',rfl,hr,hz⟩:=hq
           exact⟨_,rfl,hS'.c3,t,rfl,hS',.inr ⟨p',a,z,hr,hz,by rw[← hY1];exact Zqp hlast hZ m⟩⟩
          | ok z =>
           obtain⟨t,p1,r⟩:=z
           obtain⟨rfl,hr,hd⟩:=hq
           have hle:=Zou hZ
           exact⟨_,rfl,hS'.c3,t,rfl,hS',.inl ⟨p1,hr,by omega,by rw[← hY1,Zqq hlast hZ m,hd]⟩⟩)
         have HRr:Hid (_=Rr):=hRr
         have j1:(i:Int)<(bn:Int):=by omega
         clear hRr hY1 hn1
         go_upto_region 16 with fail
         clear x0 x1 x2 x3 x4 r0 r1 r2 r3 j1
         refine wp_region_noPanic ?_
         refine wp_region_held_drew (S:=fun u=>u.cell? ⟨H,3,none⟩=some (.int .i64 (bn:Int))) (by kernel_rfl) hSd.c3 (fun hHeld=>?_)
         generalize wr.drew=wd at hSd hcall hHeld ⊢
         have c4d:=hSd.c4
         refine Y_t 0 88 _ (.pointer (some ⟨H,4,none⟩)) rfl (Or.inl ⟨by kernel_rfl,fun u hu=>by kernel_rfl⟩) hHeld ?_
         simp only[Act.put,Y_a,Y_b,Y_c]
         refine Y_t 2 90 _ (.pointer (some ⟨R,0,none⟩)) rfl (Or.inl ⟨by kernel_rfl,fun u hu=>by kernel_rfl⟩) hHeld ?_
         simp only[Act.put,Y_a,Y_b,Y_c]
         refine Y_t 3 91 _ (.int .i64 (i:Int)) rfl (Or.inl ⟨by kernel_rfl,fun u hu=>by kernel_rfl⟩) hHeld ?_
         simp only[Act.put,Y_a,Y_b,Y_c]
         refine Y_t 4 92 _ (.pointer (some ⟨H,3,none⟩)) rfl (Or.inl ⟨by kernel_rfl,fun u hu=>by kernel_rfl⟩) hHeld ?_
         simp only[Act.put,Y_a,Y_b,Y_c]
         refine Y_t 5 93 _ (.int .i64 (bn:Int)) rfl (Or.inl ⟨by kernel_rfl,fun u hu=>Zon hu (.tmp 92) (by kernel_rfl) (by kernel_rfl)⟩) hHeld ?_
         simp only[Act.put,Y_a,Y_b,Y_c]
         refine Y_t 6 94 _ (.int .i64 ((bn:Int)-1)) rfl (Or.inl ⟨by kernel_rfl,fun u hu=>Zrz (z:=(bn:Int)) (by omega) (by omega) (.tmp 93) (by kernel_rfl) (by kernel_rfl) (by kernel_rfl)⟩) hHeld ?_
         simp only[Act.put,Y_a,Y_b,Y_c]
         refine Y_t 7 95 _ (.bool ((i:Int) == (bn:Int)-1)) rfl (Or.inl ⟨by kernel_rfl,fun u hu=>by kernel_rfl⟩) hHeld ?_
         simp only[Act.put,Y_a,Y_b,Y_c]
         refine ZdL 1 89 _ 8 96 _ rfl (by kernel_rfl) rfl (by kernel_rfl) (by kernel_rfl) (by kernel_rfl) (by kernel_rfl) (.slice o m.length c) wd (Zoo c4d (.tmp 88) (by kernel_rfl) (by kernel_rfl)) hHeld 112 (.func 112) #[.tmp 90,.const (.string ⟨#[62,32]⟩),.tmp 95] #[118,9,4] (by kernel_rfl) #[] (by kernel_rfl) #[.pointer (some ⟨R,0,none⟩),.string ⟨#[62,32]⟩,.bool ((i:Int) == (bn:Int)-1)] (by kernel_rfl) (enters_of Tryz.func112 (by kernel_rfl) rfl) (Rr) (fun _ _=>False) (fun c u h=>h.elim) ?_ ?_ ?_
         ·exact hcall
         ·simp only[Act.put,Y_a,Y_b,Y_c]
          refine ZdE 8 96 _ rfl (by kernel_rfl) (by kernel_rfl) (by kernel_rfl) 112 (.func 112) #[.tmp 90,.const (.string ⟨#[62,32]⟩),.tmp 95] #[118,9,4] (by kernel_rfl) #[] (by kernel_rfl) #[.pointer (some ⟨R,0,none⟩),.string ⟨#[62,32]⟩,.bool ((i:Int) == (bn:Int)-1)] (by kernel_rfl) (enters_of Tryz.func112 (by kernel_rfl) rfl) (Rr) (fun _ _=>False) (fun c u h=>h.elim) ?_ ?_
          ·exact hcall
          intro v0 u1 hH1 hq
          rw[← HRr.out] at hq
          obtain⟨t,rfl,hS1,hA1⟩:=hq
          have c1u:=hS1.c4
          have c2u:=(hS1.alloc (mkO ⟨43,t⟩)).c4
          simp only[Act.put,Y_a,Y_b,Y_c]
          refine Y_t 9 97 _ (.agg #[.int .u8 43,.string ⟨t.toArray⟩]) rfl (Or.inl ⟨by kernel_rfl,fun u hu=>by kernel_rfl⟩) hH1 ?_
          simp only[Act.put,Y_a,Y_b,Y_c]
          refine Y_v 10 98 _ rfl (.slice (some ⟨u1.heap.size,0,none⟩) 1 1) (u1.alloc (mkO ⟨43,t⟩)) (by kernel_rfl) (hS1.alloc (mkO ⟨43,t⟩)).c3 ?_
          simp only[Act.put,Y_a,Y_b,Y_c]
          have hSA:=hS1.alloc (mkO ⟨43,t⟩)
          obtain⟨v3,u3,hr3,hown3,hg3,_⟩:=ZjJ (u1.alloc (mkO ⟨43,t⟩)) 43 47 43 (.agg #[.int .u8 0,.string ⟨#[]⟩]) 2 24 Tryz.underlying43 infoMk rfl (by decide) (by decide) w.heap.size _ _ _ hSA.own _ 1 (mkcells [⟨43,t⟩]) (Zgj u1 ⟨43,t⟩) (Zgo _) (Zgp _) (by omega) hSA.gr.size
          have hS3:=hSA.more hg3 hown3
          obtain⟨o3,k3,rfl⟩:=(Zeo hown3).form
          refine Y_v 11 99 _ rfl (.slice o3 (m.length+1) k3) u3 (ZcT (.tmp 89) (.tmp 98) (by kernel_rfl) (by kernel_rfl) (by kernel_rfl) hr3) hS3.2.2.2.2.1 ?_
          simp only[Act.put,Y_a,Y_b,Y_c]
          refine Y_t 12 100 _ (.pointer (some ⟨H,4,none⟩)) rfl (Or.inl ⟨by kernel_rfl,fun u hu=>by kernel_rfl⟩) hS3.2.2.2.2.1 ?_
          simp only[Act.put,Y_a,Y_b,Y_c]
          refine Y_s 13 _ rfl (u3.setCell ⟨H,4,none⟩ (.slice o3 (m.length+1) k3)) (Znc hS3.2.2.1 hS3.2.1 rfl (.tmp 100) (.tmp 99) (by kernel_rfl) (by kernel_rfl) (by kernel_rfl)) hS3.1.c3 ?_
          refine wpAnyH_done (by kernel_rfl) ?_ _
          refine NoPanic.normal ?_
          have hA2:=HNx.out t u1 (u3.setCell ⟨H,4,none⟩ (.slice o3 (m.length+1) k3)) hA1 (fun q=>hS3.2.2.2.2.2 (q.low ((Below.refl _ u1).alloc (Nat.le_refl _) _)))
          have hS4:=hS3.1
          go_wp2
          exact⟨⟨i+1,m++[⟨43,t⟩],o3,k3,by omega,by go_num,by simp;omega,by simpa using hS4,hA2⟩,by simp[intOf];omega⟩
         ·intro v0 u1 hH1 hq
          rw[← HRr.out] at hq
          obtain⟨t,rfl,hS1,hA1⟩:=hq
          have c1u:=hS1.c4
          have c2u:=(hS1.alloc (mkO ⟨43,t⟩)).c4
          simp only[Act.put,Y_a,Y_b,Y_c]
          refine Y_t 9 97 _ (.agg #[.int .u8 43,.string ⟨t.toArray⟩]) rfl (Or.inl ⟨by kernel_rfl,fun u hu=>by kernel_rfl⟩) hH1 ?_
          simp only[Act.put,Y_a,Y_b,Y_c]
          refine ZdJ 1 89 _ 10 98 _ rfl (by kernel_rfl) rfl (by kernel_rfl) (by kernel_rfl) (by kernel_rfl) (by kernel_rfl) (.slice o m.length c) u1 (Zoo c1u (.tmp 88) (by kernel_rfl) (by kernel_rfl)) hH1 (.slice (some ⟨u1.heap.size,0,none⟩) 1 1) (u1.alloc (mkO ⟨43,t⟩)) (by kernel_rfl) (hS1.alloc (mkO ⟨43,t⟩)).c3 ?_ ?_
          ·simp only[Act.put,Y_a,Y_b,Y_c]
           refine Y_v 10 98 _ rfl (.slice (some ⟨u1.heap.size,0,none⟩) 1 1) (u1.alloc (mkO ⟨43,t⟩)) (by kernel_rfl) (hS1.alloc (mkO ⟨43,t⟩)).c3 ?_
           simp only[Act.put,Y_a,Y_b,Y_c]
           have hSA:=hS1.alloc (mkO ⟨43,t⟩)
           obtain⟨v3,u3,hr3,hown3,hg3,_⟩:=ZjJ (u1.alloc (mkO ⟨43,t⟩)) 43 47 43 (.agg #[.int .u8 0,.string ⟨#[]⟩]) 2 24 Tryz.underlying43 infoMk rfl (by decide) (by decide) w.heap.size _ _ _ hSA.own _ 1 (mkcells [⟨43,t⟩]) (Zgj u1 ⟨43,t⟩) (Zgo _) (Zgp _) (by omega) hSA.gr.size
           have hS3:=hSA.more hg3 hown3
           obtain⟨o3,k3,rfl⟩:=(Zeo hown3).form
           refine Y_v 11 99 _ rfl (.slice o3 (m.length+1) k3) u3 (ZcT (.tmp 89) (.tmp 98) (by kernel_rfl) (by kernel_rfl) (by kernel_rfl) hr3) hS3.2.2.2.2.1 ?_
           simp only[Act.put,Y_a,Y_b,Y_c]
           refine Y_t 12 100 _ (.pointer (some ⟨H,4,none⟩)) rfl (Or.inl ⟨by kernel_rfl,fun u hu=>by kernel_rfl⟩) hS3.2.2.2.2.1 ?_
           simp only[Act.put,Y_a,Y_b,Y_c]
           refine Y_s 13 _ rfl (u3.setCell ⟨H,4,none⟩ (.slice o3 (m.length+1) k3)) (Znc hS3.2.2.1 hS3.2.1 rfl (.tmp 100) (.tmp 99) (by kernel_rfl) (by kernel_rfl) (by kernel_rfl)) hS3.1.c3 ?_
           refine wpAnyH_done (by kernel_rfl) ?_ _
           refine NoPanic.normal ?_
           have hA2:=HNx.out t u1 (u3.setCell ⟨H,4,none⟩ (.slice o3 (m.length+1) k3)) hA1 (fun q=>hS3.2.2.2.2.2 (q.low ((Below.refl _ u1).alloc (Nat.le_refl _) _)))
           have hS4:=hS3.1
           go_wp2
           exact⟨⟨i+1,m++[⟨43,t⟩],o3,k3,by omega,by go_num,by simp;omega,by simpa using hS4,hA2⟩,by simp[intOf];omega⟩
          ·simp only[Act.put,Y_a,Y_b,Y_c]
           refine Y_v 1 89 _ rfl (.slice o m.length c) (u1.alloc (mkO ⟨43,t⟩)) (Zoo c2u (.tmp 88) (by kernel_rfl) (by kernel_rfl)) (hS1.alloc (mkO ⟨43,t⟩)).c3 ?_
           simp only[Act.put,Y_a,Y_b,Y_c]
           have hSA:=hS1.alloc (mkO ⟨43,t⟩)
           obtain⟨v3,u3,hr3,hown3,hg3,_⟩:=ZjJ (u1.alloc (mkO ⟨43,t⟩)) 43 47 43 (.agg #[.int .u8 0,.string ⟨#[]⟩]) 2 24 Tryz.underlying43 infoMk rfl (by decide) (by decide) w.heap.size _ _ _ hSA.own _ 1 (mkcells [⟨43,t⟩]) (Zgj u1 ⟨43,t⟩) (Zgo _) (Zgp _) (by omega) hSA.gr.size
           have hS3:=hSA.more hg3 hown3
           obtain⟨o3,k3,rfl⟩:=(Zeo hown3).form
           refine Y_v 11 99 _ rfl (.slice o3 (m.length+1) k3) u3 (ZcT (.tmp 89) (.tmp 98) (by kernel_rfl) (by kernel_rfl) (by kernel_rfl) hr3) hS3.2.2.2.2.1 ?_
           simp only[Act.put,Y_a,Y_b,Y_c]
           refine Y_t 12 100 _ (.pointer (some ⟨H,4,none⟩)) rfl (Or.inl ⟨by kernel_rfl,fun u hu=>by kernel_rfl⟩) hS3.2.2.2.2.1 ?_
           simp only[Act.put,Y_a,Y_b,Y_c]
           refine Y_s 13 _ rfl (u3.setCell ⟨H,4,none⟩ (.slice o3 (m.length+1) k3)) (Znc hS3.2.2.1 hS3.2.1 rfl (.tmp 100) (.tmp 99) (by kernel_rfl) (by kernel_rfl) (by kernel_rfl)) hS3.1.c3 ?_
           refine wpAnyH_done (by kernel_rfl) ?_ _
           refine NoPanic.normal ?_
           have hA2:=HNx.out t u1 (u3.setCell ⟨H,4,none⟩ (.slice o3 (m.length+1) k3)) hA1 (fun q=>hS3.2.2.2.2.2 (q.low ((Below.refl _ u1).alloc (Nat.le_refl _) _)))
           have hS4:=hS3.1
           go_wp2
           exact⟨⟨i+1,m++[⟨43,t⟩],o3,k3,by omega,by go_num,by simp;omega,by simpa using hS4,hA2⟩,by simp[intOf];omega⟩
        ·have HE:Hid ((∀ {vL:Value} {p fa fe:Int},Rx wr R vL p fa fe→Rx (put5 wr w.heap.size A (an:Int) B (bn:Int) (.slice o m.length c)) R vL p fa fe)→EdR R (.slice lo L.length lc) L fa X ⟨A,(an:Int),B,(bn:Int),m⟩ (put5 wr w.heap.size A (an:Int) B (bn:Int) (.slice o m.length c))):=(by
          intro h
          have hXv:=HX2.out
          rcases hA with ⟨pn,hr,_,hY⟩ | ⟨p',a,fe,hr,hz,hY⟩
          ·have hib:i=bn:=(by
            by_cases hib:i<bn
            ·exact absurd ⟨hib,pn,hr,by assumption,hY⟩ hgo
            ·omega)
           rw[hib,Nat.sub_self] at hY
           simp only[rdN,thenL,List.append_nil] at hY
           rw[← hY] at hXv
           rw[← hXv]
           exact⟨rfl,h hr,rfl⟩
          ·rw[hY] at hXv
           rw[← hXv]
           exact⟨⟨_,h hr⟩,hz⟩)
         have hfst:(i<bn→∃ fe p' fa',Rx wr R (.slice lo L.length lc) p' fa' fe∧fe≠0):=(by
          intro hib
          rcases hA with ⟨pn,hr,hb,hY⟩ | ⟨p',a,fe,hr,hz,hY⟩
          ·exact absurd ⟨hib,pn,hr,hb,hY⟩ hgo
          ·exact⟨fe,p',_,hr,hz⟩)
         clear hA hgo HX2
         obtain⟨x0,x1,x2,x3,x4⟩:=hS.hx.cells
         dsimp only at x0 x1 x2 x3 x4
         by_cases hib:i<bn
         ·obtain⟨fe,p',fa',hr,hz⟩:=hfst hib
          obtain⟨r0,r1,r2,r3⟩:=hr.cells
          have hfb:(fe == 0)=false:=beq_eq_false_iff_ne.2 hz
          have hib2:(i:Int)<(bn:Int):=by omega
          clear hr hfst
          go_upto_region 17 with fail
          clear x0 x1 x2 x3 x4 r0 r1 r2 r3
          obtain⟨x0,x1,x2,x3,x4⟩:=hS.hx.cells
          dsimp only at x0 x1 x2 x3 x4
          obtain⟨y0,y1,y2,y3,y4⟩:=hS.rb.cells
          have yf0:=hS.rb.frozen 0
          have yf1:=hS.rb.frozen 1
          have yf2:=hS.rb.frozen 2
          have yf3:=hS.rb.frozen 3
          have yf4:=hS.rb.frozen 4
          obtain⟨hP,hownP,hgP,hrP⟩:=hS.done
          have HEnd0:=HE.out hrP
          unfold put5 at hP hownP hgP HEnd0
          have HP:Hid (_=_):=hP
          have HOWN:Hid _:=hownP
          have HGP:Hid _:=hgP
          have HEnd:Hid _:=HEnd0
          clear hrP hS HE hP hownP hgP HEnd0
          go_wp2
          exact bodyPost_ret (v:=hkV ⟨A,(an:Int),B,(bn:Int),m⟩ (.slice o m.length c)) (results_cell_row rfl _ _ w.heap.size 45 #[.int .i64 A,.int .i64 (an:Int),.int .i64 B,.int .i64 (bn:Int),.slice o m.length c] (0,0) _ rfl HP.out Tryz.underlying45 rfl (by kernel_rfl)) rfl ⟨_,_,rfl,HOWN.out,HGP.out,HEnd.out⟩
         ·have hib2:¬ (i:Int)<(bn:Int):=by omega
          clear hfst
          go_upto_region 17 with fail
          clear x0 x1 x2 x3 x4
          obtain⟨x0,x1,x2,x3,x4⟩:=hS.hx.cells
          dsimp only at x0 x1 x2 x3 x4
          obtain⟨y0,y1,y2,y3,y4⟩:=hS.rb.cells
          have yf0:=hS.rb.frozen 0
          have yf1:=hS.rb.frozen 1
          have yf2:=hS.rb.frozen 2
          have yf3:=hS.rb.frozen 3
          have yf4:=hS.rb.frozen 4
          obtain⟨hP,hownP,hgP,hrP⟩:=hS.done
          have HEnd0:=HE.out hrP
          unfold put5 at hP hownP hgP HEnd0
          have HP:Hid (_=_):=hP
          have HOWN:Hid _:=hownP
          have HGP:Hid _:=hgP
          have HEnd:Hid _:=HEnd0
          clear hrP hS HE hP hownP hgP HEnd0
          go_wp2
          exact bodyPost_ret (v:=hkV ⟨A,(an:Int),B,(bn:Int),m⟩ (.slice o m.length c)) (results_cell_row rfl _ _ w.heap.size 45 #[.int .i64 A,.int .i64 (an:Int),.int .i64 B,.int .i64 (bn:Int),.slice o m.length c] (0,0) _ rfl HP.out Tryz.underlying45 rfl (by kernel_rfl)) rfl ⟨_,_,rfl,HOWN.out,HGP.out,HEnd.out⟩
     ·have hX:=HXx.out
      rw[hYv] at hX
      dsimp only at hX
      have HXe:Hid (X=.error (a,fe)):=hX.symm
      clear hX HXx hYv hgo
      by_cases hia:(i:Int)<(an:Int)
      ·obtain⟨r0,r1,r2,r3⟩:=hrx.cells
       have hfb:(fe == 0)=false:=beq_eq_false_iff_ne.2 hfe
       have hXe:=HXe.out
       subst hXe
       have HE:Hid ((∀ {vL:Value} {p fa fe:Int},Rx wr R vL p fa fe→Rx (put5 wr w.heap.size A (an:Int) B (bn:Int) (.slice o m.length c)) R vL p fa fe)→(∃ p',Rx (put5 wr w.heap.size A (an:Int) B (bn:Int) (.slice o m.length c)) R (.slice lo L.length lc) p' (a:Int) fe)∧fe≠0):=fun h=>⟨⟨_,h hrx⟩,hfe⟩
       clear hrx HXe hfe
       obtain⟨x0,x1,x2,x3,x4⟩:=hS.hx.cells
       dsimp only at x0 x1 x2 x3 x4
       have hN:(0:Int)<(an:Int):=by omega
       ·by_cases hM:(0:Int)<(bn:Int)
        ·go_wp2
         go_loopw [8] (fun iv wz=>iv=.int .i64 0∧wz=wr) (fun _ _=>0)
         case atStart=>exact⟨by go_num,rfl⟩
         case round =>
          obtain⟨rfl,rfl⟩:=hrel
          go_upto_region 17 with fail
          clear x0 x1 x2 x3 x4 r0 r1 r2 r3
          obtain⟨x0,x1,x2,x3,x4⟩:=hS.hx.cells
          dsimp only at x0 x1 x2 x3 x4
          obtain⟨y0,y1,y2,y3,y4⟩:=hS.rb.cells
          have yf0:=hS.rb.frozen 0
          have yf1:=hS.rb.frozen 1
          have yf2:=hS.rb.frozen 2
          have yf3:=hS.rb.frozen 3
          have yf4:=hS.rb.frozen 4
          obtain⟨hP,hownP,hgP,hrP⟩:=hS.done
          have HEnd0:=HE.out hrP
          unfold put5 at hP hownP hgP HEnd0
          have HP:Hid (_=_):=hP
          have HOWN:Hid _:=hownP
          have HGP:Hid _:=hgP
          have HEnd:Hid _:=HEnd0
          clear hrP hS HE hP hownP hgP HEnd0
          go_wp2
          exact bodyPost_ret (v:=hkV ⟨A,(an:Int),B,(bn:Int),m⟩ (.slice o m.length c)) (results_cell_row rfl _ _ w.heap.size 45 #[.int .i64 A,.int .i64 (an:Int),.int .i64 B,.int .i64 (bn:Int),.slice o m.length c] (0,0) _ rfl HP.out Tryz.underlying45 rfl (by kernel_rfl)) rfl ⟨_,_,rfl,HOWN.out,HGP.out,HEnd.out⟩
        ·go_wp2
         go_loopw [8] (fun iv wz=>iv=.int .i64 0∧wz=wr) (fun _ _=>0)
         case atStart=>exact⟨by go_num,rfl⟩
         case round =>
          obtain⟨rfl,rfl⟩:=hrel
          go_upto_region 17 with fail
          clear x0 x1 x2 x3 x4 r0 r1 r2 r3
          obtain⟨x0,x1,x2,x3,x4⟩:=hS.hx.cells
          dsimp only at x0 x1 x2 x3 x4
          obtain⟨y0,y1,y2,y3,y4⟩:=hS.rb.cells
          have yf0:=hS.rb.frozen 0
          have yf1:=hS.rb.frozen 1
          have yf2:=hS.rb.frozen 2
          have yf3:=hS.rb.frozen 3
          have yf4:=hS.rb.frozen 4
          obtain⟨hP,hownP,hgP,hrP⟩:=hS.done
          have HEnd0:=HE.out hrP
          unfold put5 at hP hownP hgP HEnd0
          have HP:Hid (_=_):=hP
          have HOWN:Hid _:=hownP
          have HGP:Hid _:=hgP
          have HEnd:Hid _:=HEnd0
          clear hrP hS HE hP hownP hgP HEnd0
          go_wp2
          exact bodyPost_ret (v:=hkV ⟨A,(an:Int),B,(bn:Int),m⟩ (.slice o m.length c)) (results_cell_row rfl _ _ w.heap.size 45 #[.int .i64 A,.int .i64 (an:Int),.int .i64 B,.int .i64 (bn:Int),.slice o m.length c] (0,0) _ rfl HP.out Tryz.underlying45 rfl (by kernel_rfl)) rfl ⟨_,_,rfl,HOWN.out,HGP.out,HEnd.out⟩
      ·obtain⟨r0,r1,r2,r3⟩:=hrx.cells
       have hfb:(fe == 0)=false:=beq_eq_false_iff_ne.2 hfe
       have hXe:=HXe.out
       subst hXe
       have HE:Hid ((∀ {vL:Value} {p fa fe:Int},Rx wr R vL p fa fe→Rx (put5 wr w.heap.size A (an:Int) B (bn:Int) (.slice o m.length c)) R vL p fa fe)→(∃ p',Rx (put5 wr w.heap.size A (an:Int) B (bn:Int) (.slice o m.length c)) R (.slice lo L.length lc) p' (a:Int) fe)∧fe≠0):=fun h=>⟨⟨_,h hrx⟩,hfe⟩
       clear hrx HXe hfe
       obtain⟨x0,x1,x2,x3,x4⟩:=hS.hx.cells
       dsimp only at x0 x1 x2 x3 x4
       by_cases hN:(0:Int)<(an:Int)
       ·by_cases hM:(0:Int)<(bn:Int)
        ·go_wp2
         go_loopw [8] (fun iv wz=>iv=.int .i64 0∧wz=wr) (fun _ _=>0)
         case atStart=>exact⟨by go_num,rfl⟩
         case round =>
          obtain⟨rfl,rfl⟩:=hrel
          go_upto_region 17 with fail
          clear x0 x1 x2 x3 x4 r0 r1 r2 r3
          obtain⟨x0,x1,x2,x3,x4⟩:=hS.hx.cells
          dsimp only at x0 x1 x2 x3 x4
          obtain⟨y0,y1,y2,y3,y4⟩:=hS.rb.cells
          have yf0:=hS.rb.frozen 0
          have yf1:=hS.rb.frozen 1
          have yf2:=hS.rb.frozen 2
          have yf3:=hS.rb.frozen 3
          have yf4:=hS.rb.frozen 4
          obtain⟨hP,hownP,hgP,hrP⟩:=hS.done
          have HEnd0:=HE.out hrP
          unfold put5 at hP hownP hgP HEnd0
          have HP:Hid (_=_):=hP
          have HOWN:Hid _:=hownP
          have HGP:Hid _:=hgP
          have HEnd:Hid _:=HEnd0
          clear hrP hS HE hP hownP hgP HEnd0
          go_wp2
          exact bodyPost_ret (v:=hkV ⟨A,(an:Int),B,(bn:Int),m⟩ (.slice o m.length c)) (results_cell_row rfl _ _ w.heap.size 45 #[.int .i64 A,.int .i64 (an:Int),.int .i64 B,.int .i64 (bn:Int),.slice o m.length c] (0,0) _ rfl HP.out Tryz.underlying45 rfl (by kernel_rfl)) rfl ⟨_,_,rfl,HOWN.out,HGP.out,HEnd.out⟩
        ·go_wp2
         go_loopw [8] (fun iv wz=>iv=.int .i64 0∧wz=wr) (fun _ _=>0)
         case atStart=>exact⟨by go_num,rfl⟩
         case round =>
          obtain⟨rfl,rfl⟩:=hrel
          go_upto_region 17 with fail
          clear x0 x1 x2 x3 x4 r0 r1 r2 r3
          obtain⟨x0,x1,x2,x3,x4⟩:=hS.hx.cells
          dsimp only at x0 x1 x2 x3 x4
          obtain⟨y0,y1,y2,y3,y4⟩:=hS.rb.cells
          have yf0:=hS.rb.frozen 0
          have yf1:=hS.rb.frozen 1
          have yf2:=hS.rb.frozen 2
          have yf3:=hS.rb.frozen 3
          have yf4:=hS.rb.frozen 4
          obtain⟨hP,hownP,hgP,hrP⟩:=hS.done
          have HEnd0:=HE.out hrP
          unfold put5 at hP hownP hgP HEnd0
          have HP:Hid (_=_):=hP
          have HOWN:Hid _:=hownP
          have HGP:Hid _:=hgP
          have HEnd:Hid _:=HEnd0
          clear hrP hS HE hP hownP hgP HEnd0
          go_wp2
          exact bodyPost_ret (v:=hkV ⟨A,(an:Int),B,(bn:Int),m⟩ (.slice o m.length c)) (results_cell_row rfl _ _ w.heap.size 45 #[.int .i64 A,.int .i64 (an:Int),.int .i64 B,.int .i64 (bn:Int),.slice o m.length c] (0,0) _ rfl HP.out Tryz.underlying45 rfl (by kernel_rfl)) rfl ⟨_,_,rfl,HOWN.out,HGP.out,HEnd.out⟩
       ·by_cases hM:(0:Int)<(bn:Int)
        ·go_wp2
         go_loopw [8] (fun iv wz=>iv=.int .i64 0∧wz=wr) (fun _ _=>0)
         case atStart=>exact⟨by go_num,rfl⟩
         case round =>
          obtain⟨rfl,rfl⟩:=hrel
          go_upto_region 17 with fail
          clear x0 x1 x2 x3 x4 r0 r1 r2 r3
          obtain⟨x0,x1,x2,x3,x4⟩:=hS.hx.cells
          dsimp only at x0 x1 x2 x3 x4
          obtain⟨y0,y1,y2,y3,y4⟩:=hS.rb.cells
          have yf0:=hS.rb.frozen 0
          have yf1:=hS.rb.frozen 1
          have yf2:=hS.rb.frozen 2
          have yf3:=hS.rb.frozen 3
          have yf4:=hS.rb.frozen 4
          obtain⟨hP,hownP,hgP,hrP⟩:=hS.done
          have HEnd0:=HE.out hrP
          unfold put5 at hP hownP hgP HEnd0
          have HP:Hid (_=_):=hP
          have HOWN:Hid _:=hownP
          have HGP:Hid _:=hgP
          have HEnd:Hid _:=HEnd0
          clear hrP hS HE hP hownP hgP HEnd0
          go_wp2
          exact bodyPost_ret (v:=hkV ⟨A,(an:Int),B,(bn:Int),m⟩ (.slice o m.length c)) (results_cell_row rfl _ _ w.heap.size 45 #[.int .i64 A,.int .i64 (an:Int),.int .i64 B,.int .i64 (bn:Int),.slice o m.length c] (0,0) _ rfl HP.out Tryz.underlying45 rfl (by kernel_rfl)) rfl ⟨_,_,rfl,HOWN.out,HGP.out,HEnd.out⟩
        ·go_wp2
         go_loopw [8] (fun iv wz=>iv=.int .i64 0∧wz=wr) (fun _ _=>0)
         case atStart=>exact⟨by go_num,rfl⟩
         case round =>
          obtain⟨rfl,rfl⟩:=hrel
          go_upto_region 17 with fail
          clear x0 x1 x2 x3 x4 r0 r1 r2 r3
          obtain⟨x0,x1,x2,x3,x4⟩:=hS.hx.cells
          dsimp only at x0 x1 x2 x3 x4
          obtain⟨y0,y1,y2,y3,y4⟩:=hS.rb.cells
          have yf0:=hS.rb.frozen 0
          have yf1:=hS.rb.frozen 1
          have yf2:=hS.rb.frozen 2
          have yf3:=hS.rb.frozen 3
          have yf4:=hS.rb.frozen 4
          obtain⟨hP,hownP,hgP,hrP⟩:=hS.done
          have HEnd0:=HE.out hrP
          unfold put5 at hP hownP hgP HEnd0
          have HP:Hid (_=_):=hP
          have HOWN:Hid _:=hownP
          have HGP:Hid _:=hgP
          have HEnd:Hid _:=HEnd0
          clear hrP hS HE hP hownP hgP HEnd0
          go_wp2
          exact bodyPost_ret (v:=hkV ⟨A,(an:Int),B,(bn:Int),m⟩ (.slice o m.length c)) (results_cell_row rfl _ _ w.heap.size 45 #[.int .i64 A,.int .i64 (an:Int),.int .i64 B,.int .i64 (bn:Int),.slice o m.length c] (0,0) _ rfl HP.out Tryz.underlying45 rfl (by kernel_rfl)) rfl ⟨_,_,rfl,HOWN.out,HGP.out,HEnd.out⟩
end

section
open Go.RowKit
theorem Zrf (tmps:Array Value) (u:World) (F:Nat) (v:Value) (a z:Int) (h2:tmps.getD 2 undef=v) (h3:tmps.getD 3 undef=.pointer (some ⟨F,0,none⟩)) (hb:u.heap[F]?=some (.cells #[.int .i64 a,.int .i64 z] 29)) :
  (results Tryz.f35 tmps).run Tryz.prog u=.ok (.tuple #[v,.agg #[.int .i64 a,.int .i64 z]]) u:=by
 have c0:u.cell? ⟨F,0,none⟩=some (.int .i64 a):=by rw[Lib.cell_of_heap hb];rfl
 have c1:u.cell? ⟨F,1,none⟩=some (.int .i64 z):=by rw[Lib.cell_of_heap hb];rfl
 have hL1:(loadVar 29 ⟨F,0,none⟩).run Tryz.prog u=.ok (.agg #[.int .i64 a,.int .i64 z]) u:=by
  go_simp
 have e2:tmps[2]?.getD undef=v:=by rw[← h2];simp
 have e3:tmps[3]?.getD undef=.pointer (some ⟨F,0,none⟩):=by rw[← h3];simp
 simp[results,Tryz.results35,e2,e3,asAddr,hL1,Result.andThen]
theorem ZpI (t:List UInt8) (w:World) (hl:t.length≤1099511627776) (X:Except (Nat × Int) (List Hk)) (HX:Hid (prsT t=X)) :
  Calls Tryz.prog 35 #[.string ⟨t.toArray⟩] w fun e w'=>RpQ w X e w':=by
 have hX:=HX.out
 clear HX
 unfold prsT at hX
 have hb0:Below w.heap.size w (w.alloc (.cells #[.int .i64 0,.int .i64 0] 29)):=(Below.refl _ w).alloc (Nat.le_refl _) _
 have hf0:=heap_alloc_new w (.cells #[.int .i64 0,.int .i64 0] 29)
 have hz0:(w.alloc (.cells #[.int .i64 0,.int .i64 0] 29)).heap.size=w.heap.size+1:=by simp
 by_cases hlong:1048576<t.length
 ·rw[if_pos hlong] at hX
  subst hX
  have hrd:=Zqe t (w.alloc (.cells #[.int .i64 0,.int .i64 0] 29)) hlong
  go_enter Tryz.func35,Tryz.ntmps35
  go_wp2_with fail
  rw[hz0] at hrd
  generalize w.alloc (.cells #[.int .i64 0,.int .i64 0] 29)=W0 at *
  refine hrd.mono ?_
  rintro e w1 ⟨rfl,q1,hb1⟩
  rw[← hz0] at hb1
  obtain⟨R,hRd⟩:∃ R,w.heap.size+1=R:=⟨_,rfl⟩
  rw[hRd] at q1 ⊢
  have hP1:Rpr w R (.slice none 0 0) [] w1:=⟨⟨hb0.trans (hb1.mono hb0.size),Zen _ _ _ _,fun x hx=>by cases hx⟩,(hb1.block _ (by omega)).trans hf0,by omega⟩
  clear hrd hb1 hb0 hf0 hz0
  go_wp2_with fail
  go_loopw [5] (fun lv wr=>lv=.slice none 0 0∧wr=w1) (fun _ _=>0)
  case atStart=>exact⟨rfl,rfl⟩
  case round =>
   obtain⟨rfl,rfl⟩:=hrel
   have hP:=hP1
   have q:=q1
   clear hP1 q1
   have hmo:=ZpH wr q (by decide)
   go_wp2_with fail
   refine hmo.mono ?_
   rintro e w2 ⟨rfl,n2,rfl⟩
   have hP2:=hP.dN n2
   have q2:Rx (wr.drewN n2) R (.slice none 0 0) 0 ((0:Nat):Int) 9:=q
   clear hmo hP q
   generalize wr.drewN n2=W2 at hP2 q2 ⊢
   obtain⟨r0,r1,r2,r3⟩:=q2.cells
   have s0:=heap_setCell_same W2 w.heap.size 0 _ _ (.int .i64 ((0:Nat):Int)) hP2.fb
   have s1:=heap_setCell_same _ w.heap.size 1 _ _ (.int .i64 9) s0
   have t0:W2.cell? ⟨w.heap.size,0,none⟩=some (.int .i64 0):=by rw[Lib.cell_of_heap hP2.fb];rfl
   have t1:W2.cell? ⟨w.heap.size,1,none⟩=some (.int .i64 0):=by rw[Lib.cell_of_heap hP2.fb];rfl
   have t2:=Lib.frozen_of_heap hP2.fb 0
   have t3:=Lib.frozen_of_heap hP2.fb 1
   have hb2:Below w.heap.size w ((W2.setCell ⟨w.heap.size,0,none⟩ (.int .i64 ((0:Nat):Int))).setCell ⟨w.heap.size,1,none⟩ (.int .i64 9)):=(hP2.hs.low.setCell (Nat.le_refl _) _).setCell (Nat.le_refl _) _
   have HS1:Hid (_=_):=s1
   have HB:Hid (Below w.heap.size w _):=hb2
   clear s0 s1 hb2 hP2 q2
   go_wp2_with fail
   go_region
   go_wp2
   exact bodyPost_ret (v:=.tuple #[.slice none 0 0,.agg #[.int .i64 ((0:Nat):Int),.int .i64 9]]) (Zrf _ _ w.heap.size _ ((0:Nat):Int) 9 rfl rfl HS1.out) rfl ⟨rfl,HB.out.drew⟩
 ·rw[if_neg hlong] at hX
  have hrd:=Zqb t (w.alloc (.cells #[.int .i64 0,.int .i64 0] 29)) (by omega)
  have HPl:Hid (Plain (Ln.splitL t)):=Zkx t
  have HSl:Hid (∀ s∈Ln.splitL t,s.length≤1048576):=Zky (by omega)
  have hsl:=Ln.split_len t
  generalize Ln.splitL t=L at *
  have hLl:L.length≤1048576:=by omega
  go_enter Tryz.func35,Tryz.ntmps35
  go_wp2_with fail
  generalize w.alloc (.cells #[.int .i64 0,.int .i64 0] 29)=W0 at *
  refine hrd.mono ?_
  rintro e w1 ⟨R,lo,lc,rfl,q1,hL1,hRl,hR1,hb1⟩
  have hP1:Rpr w R (.slice none 0 0) [] w1:=⟨⟨hb0.trans (hb1.mono hb0.size),Zen _ _ _ _,fun x hx=>by cases hx⟩,(hb1.block _ (by omega)).trans hf0,by omega⟩
  have hA1:AlP R (.slice lo L.length lc) L X [] w1:=.inl ⟨0,L.length,q1,Nat.zero_le _,Nat.zero_le _,by simp,by
   rw[← hX]
   simp only[List.map_nil,List.drop_zero,List.length_nil]
   cases hksP L.length 0 0 L<;>rfl⟩
  have hL1':=ZhM hL1 hb0.size
  clear hrd hX q1 hb1 hb0 hf0 hz0 hL1
  go_wp2_with fail
  go_loopw [5] (fun lv wr=>∃ (P:List (Hk × Value)) (o:Option Addr) (c:Nat),lv=.slice o P.length c∧P.length≤1048577∧Rpr w R (.slice o P.length c) P wr∧AlP R (.slice lo L.length lc) L X P wr∧wr.ownsRow w.heap.size 9 1 (.slice lo L.length lc) L.length (scells L)) (fun _ wr=>rmAt wr R L.length)
  case atStart=>exact⟨[],none,0,rfl,by simp,hP1,hA1,hL1'⟩
  case round =>
   clear hP1 hA1 hL1'
   obtain⟨P,o,c,rfl,hPl,hP,hA,hL⟩:=hrel
   rcases hA with ⟨p,f,q,hp,hPp,hf,hY⟩ | ⟨p',a,fe,q,hfe,hY⟩
   ·by_cases hlt:p<L.length
    ·obtain⟨f',rfl⟩:∃ f',f=f'+1:=⟨f-1,by rw[List.length_drop] at hf;omega⟩
     have hne:L.drop p≠[]:=(by intro h;have:=congrArg List.length h;rw[List.length_drop] at this;simp at this;omega)
     have hd1:(decide ((0:Int)=0) && decide (p<L.length))=true:=by simp[hlt]
     have hmo:=ZpG wr q
     rw[hd1] at hmo
     go_wp2_with fail
     refine hmo.mono ?_
     rintro e w2 ⟨rfl,n2,rfl⟩
     have hP2:=hP.dN n2
     have q2:Rx (wr.drewN n2) R (.slice lo L.length lc) (p:Int) 0 0:=q
     have hL2:(wr.drewN n2).ownsRow w.heap.size 9 1 (.slice lo L.length lc) L.length (scells L):=hL
     have HM:Hid (rmAt wr R L.length=L.length+1-p):=Zra q
     clear hmo hd1 hP q hL
     generalize wr.drewN n2=W2 at hP2 q2 hL2 ⊢
     obtain⟨Z,hZ⟩:∃ Z,hkP P.length p (L.drop p)=Z:=⟨_,rfl⟩
     have hneR:∀ k,some R=some k→(Value.slice lo L.length lc).ownBlock≠some k:=fun k e=>(by cases e;exact ZhD hL2 q2 (by decide))
     have hk:=ZqL W2 q2 (fun u hu=>Zeo (Zrd hL2 hu hneR)) hRl hp hLl HSl P.length (by omega) Z hZ
     go_wp2_with fail
     refine hk.mono ?_
     rintro e w3 ⟨h,v,rfl,hown3,hg3,hE3⟩
     have hP3:=hP2.call q2 hg3
     have hL3:=Zrd hL2 hg3 hneR
     have hown3':=ZhM hown3 hP2.hs.low.size
     obtain⟨vo,vc,rfl⟩:=(Zeo hown3).form
     clear hk hP2 q2 hL2 hneR hown3 hg3
     have hA3:Hid (∀ u y,(∀ {vL:Value} {p fa fe:Int},Rx w3 R vL p fa fe→Rx u R vL p fa fe)→AlP R (.slice lo L.length lc) L X (P++[(h,y)]) u∧rmAt u R L.length<L.length+1-p):=(by
      intro u y hk
      cases Z with
      | error z =>
       obtain⟨a,z⟩:=z
       obtain⟨⟨p',hr⟩,hz⟩:=hE3
       refine⟨.inr ⟨p',a,z,hk hr,hz,by rw[← hY];exact ZnI hne hZ _⟩,?_⟩
       rw[ZqZ (hk hr) hz]
       omega
      | ok z =>
       obtain⟨h1,p1,r⟩:=z
       obtain⟨rfl,hr,hd⟩:=hE3
       obtain⟨k1,k2,_⟩:=ZnC (fun s hs=>HPl.out s (List.mem_of_mem_drop hs)) hZ
       rw[← hd,List.length_drop,List.length_drop] at k2
       have hc1:1≤hkC1 h:=by unfold hkC1;omega
       have hp1:p1≤L.length:=by omega
       refine⟨.inl ⟨p1,f',hk hr,hp1,by rw[List.length_append];simp;omega,by rw[List.length_drop] at hf ⊢;omega,?_⟩,?_⟩
       ·rw[← hY,ZnH hne hZ,hd,List.map_append,List.length_append]
        rfl
       ·rw[Zra (hk hr)]
        omega)
     clear hY hE3 hZ hne hf
     have hSA:=hP3.alloc (hkO h (.slice vo h.ls.length vc))
     have hLA:=hL3.alloc (hkO h (.slice vo h.ls.length vc))
     have hyA:=hown3'.alloc (hkO h (.slice vo h.ls.length vc))
     have HRA:Hid (∀ {vL:Value} {p fa fe:Int},Rx w3 R vL p fa fe→Rx (w3.alloc (hkO h (.slice vo h.ls.length vc))) R vL p fa fe):=fun q=>q.low ((Below.refl _ w3).alloc (Nat.le_refl _) _)
     have hW:w3.alloc (Obj.cells #[Value.int IntKind.i64 h.A,Value.int IntKind.i64 h.AN,Value.int IntKind.i64 h.B,Value.int IntKind.i64 h.BN,.slice vo h.ls.length vc] 45)=w3.alloc (hkO h (.slice vo h.ls.length vc)):=rfl
     have hrow:=Zhz w3 h (.slice vo h.ls.length vc)
     have hownA:=hSA.hs.own
     have hbs:=hSA.hs.low.size
     have hxk:P.length+1≤2199023255552:=by omega
     clear hP3 hL3 hown3'
     unfold hkV
     go_wp2_with (at_builtin;refine Zmi _ (by kernel_rfl) (.tmp 10) (.tmp 15) 40 45 (.agg #[.int .i64 0,.int .i64 0,.int .i64 0,.int .i64 0,.slice none 0 0]) 5 56 rfl Tryz.underlying40 infoHk rfl (by decide) (by decide) w.heap.size _ _ _ rfl hownA _ 1 (hkC h (.slice vo h.ls.length vc)) rfl hrow rfl (Zeb _) hxk hbs ?_)
     intro v3 u3 hown4 hg4 _
     obtain⟨hP4,hR4⟩:=hSA.more hyA hg4 hown4
     have hL4:=Zre hLA hownA (by decide) hg4
     obtain⟨o3,c3,rfl⟩:=(Zeo hown4).form
     have hA4:=hA3.out u3 (.slice vo h.ls.length vc) (fun q=>hR4 (HRA.out q))
     clear hW hrow hownA hSA hLA hyA hA3 HRA hown4 hg4 hR4
     go_wp2
     refine⟨⟨P++[(h,.slice vo h.ls.length vc)],o3,c3,by simp,by simp;omega,by simpa using hP4,hA4.1,hL4⟩,?_⟩
     rw[HM.out]
     exact hA4.2
    ·have hpe:p=L.length:=by omega
     have hXv:X=.ok (P.map (·.1)):=(by
      rw[← hY,hpe,List.drop_length]
      cases f with
      | zero=>simp[hksP,thenH]
      | succ f=>simp[hksP,thenH])
     subst hXv
     have hd1:(decide ((0:Int)=0) && decide (p<L.length))=false:=by simp[hlt]
     have hmo:=ZpG wr q
     rw[hd1] at hmo
     go_wp2_with fail
     refine hmo.mono ?_
     rintro e w2 ⟨rfl,n2,rfl⟩
     have hP2:=hP.dN n2
     have q2:Rx (wr.drewN n2) R (.slice lo L.length lc) (p:Int) 0 0:=q
     clear hmo hd1 hP q hL hY
     generalize wr.drewN n2=W2 at hP2 q2 ⊢
     obtain⟨r0,r1,r2,r3⟩:=q2.cells
     have s0:=heap_setCell_same W2 w.heap.size 0 _ _ (.int .i64 0) hP2.fb
     have s1:=heap_setCell_same _ w.heap.size 1 _ _ (.int .i64 0) s0
     have t0:W2.cell? ⟨w.heap.size,0,none⟩=some (.int .i64 0):=by rw[Lib.cell_of_heap hP2.fb];rfl
     have t1:W2.cell? ⟨w.heap.size,1,none⟩=some (.int .i64 0):=by rw[Lib.cell_of_heap hP2.fb];rfl
     have t2:=Lib.frozen_of_heap hP2.fb 0
     have t3:=Lib.frozen_of_heap hP2.fb 1
     have hg1:=ZdS W2 w.heap.size 0 (.int .i64 0)
     have hg2:=ZdS (W2.setCell ⟨w.heap.size,0,none⟩ (.int .i64 0)) w.heap.size 1 (.int .i64 0)
     have hH1:=hP2.hs.grown (ZdT hg1 hg2) (fun k e=>by cases e;exact Nat.le_refl _) (fun k e=>by cases e;exact ZhD hP2.hs.own hP2.fb (by decide)) (fun x hx k e=>by cases e;exact ZhD (hP2.hs.ins x hx) hP2.fb (by decide))
     have HS1:Hid (_=_):=s1
     have HH1:Hid (Hs w (.slice o P.length c) P _):=hH1
     clear s0 s1 hg1 hg2 hH1 hP2 q2
     go_wp2
     exact bodyPost_ret (v:=.tuple #[.slice o P.length c,.agg #[.int .i64 0,.int .i64 0]]) (Zrf _ _ w.heap.size _ 0 0 rfl rfl HS1.out) rfl ⟨_,P,rfl,HH1.out,rfl⟩
   ·subst hY
    have hmo:=ZpH wr q hfe
    go_wp2_with fail
    refine hmo.mono ?_
    rintro e w2 ⟨rfl,n2,rfl⟩
    have hP2:=hP.dN n2
    have q2:Rx (wr.drewN n2) R (.slice lo L.length lc) p' (a:Int) fe:=q
    clear hmo hP q hL
    generalize wr.drewN n2=W2 at hP2 q2 ⊢
    obtain⟨r0,r1,r2,r3⟩:=q2.cells
    have hfb:(fe == 0)=false:=beq_eq_false_iff_ne.2 hfe
    have s0:=heap_setCell_same W2 w.heap.size 0 _ _ (.int .i64 (a:Int)) hP2.fb
    have s1:=heap_setCell_same _ w.heap.size 1 _ _ (.int .i64 fe) s0
    have t0:W2.cell? ⟨w.heap.size,0,none⟩=some (.int .i64 0):=by rw[Lib.cell_of_heap hP2.fb];rfl
    have t1:W2.cell? ⟨w.heap.size,1,none⟩=some (.int .i64 0):=by rw[Lib.cell_of_heap hP2.fb];rfl
    have t2:=Lib.frozen_of_heap hP2.fb 0
    have t3:=Lib.frozen_of_heap hP2.fb 1
    have hb2:Below w.heap.size w ((W2.setCell ⟨w.heap.size,0,none⟩ (.int .i64 (a:Int))).setCell ⟨w.heap.size,1,none⟩ (.int .i64 fe)):=(hP2.hs.low.setCell (Nat.le_refl _) _).setCell (Nat.le_refl _) _
    have HS1:Hid (_=_):=s1
    have HB:Hid (Below w.heap.size w _):=hb2
    clear s0 s1 hb2 hP2 q2
    go_wp2_with fail
    go_region
    go_wp2
    exact bodyPost_ret (v:=.tuple #[.slice none 0 0,.agg #[.int .i64 (a:Int),.int .i64 fe]]) (Zrf _ _ w.heap.size _ (a:Int) fe rfl rfl HS1.out) rfl ⟨rfl,HB.out.drew⟩
end

end Go.Proofs.YtcniomgjikienaaGreatDoor
