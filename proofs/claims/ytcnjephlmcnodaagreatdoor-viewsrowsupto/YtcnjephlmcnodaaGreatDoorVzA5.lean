/-
  Texts that belong together, joined: MiKw, MiDf, MiKm, PcMath, PcLs, PcSl, PcWk, PcKe, PcKm, PcPz.
-/
import Derived.Test.YtcnjephlmcnodaaGreatDoorVzA4
import Derived.Laws.Rows
import Derived.Deep.CutRange

set_option maxHeartbeats 16000000
set_option maxRecDepth 100000
namespace Go.Proofs.YtcnjephlmcnodaaGreatDoor

section
open Go.RowKit
attribute [local simp] ZbO
theorem ZfT (x y:List Int) (vx vy:Value) (w:World) (hx:HI w vx x) (hy:HI w vy y) (hxl:x.length≤4096) (hyl:y.length≤4096) (K:List Int) (hK:Hid (kp 0 x y=K)) :
  Calls Tryz.prog 80 #[vx,vy] w fun e w'=>∃ v,e=.returned v∧HI w' v K∧Below w.heap.size w w':=by
 obtain⟨xo,xc,rfl⟩:=Holds.form hx
 obtain⟨yo,yc,rfl⟩:=Holds.form hy
 go_enter Tryz.func80,Tryz.ntmps80
 go_wp2_with fail
 have hB0:Below w.heap.size w (w.alloc (Obj.cells #[Value.int IntKind.i64 (-1)] 3)):=(Below.refl _ w).alloc (Nat.le_refl _) _
 refine (ZaK x.length (by omega) _ _ (show HI _ _ [-1] from ZhL w _ _ _ _ (by decide))).mono ?_
 rintro e w1 ⟨g,rfl,hO1,hB1⟩
 have hB01:=hB0.trans (hB1.mono hB0.size)
 have hO1':w1.ownsRow w.heap.size 3 1 (.slice (some ⟨g,0,none⟩) x.length x.length) x.length (icells (List.replicate x.length (-1))):=by
  refine⟨hO1.1,?_⟩
  rcases hO1.2 with h | ⟨g',cap,cur,q1,q2,q3⟩
  ·exact .inl h
  ·exact .inr ⟨g',cap,cur,q1,Nat.le_trans (by simp) q2,q3⟩
 clear hB0 hB1 hO1
 have hx1:=HI.keep hx hB01 (Nat.le_refl _)
 have hy1:=HI.keep hy hB01 (Nat.le_refl _)
 go_wp2_with fail
 obtain⟨f,hf⟩:∃ f,fr x y=f:=⟨_,rfl⟩
 have hfl:=Zek x y
 rw[hf] at hfl
 refine (Zen x y f _ _ _ hx1 hy1 (by omega) (by omega) hf).mono ?_
 rintro e w2 ⟨rfl,hB2⟩
 have hB02:=hB01.trans (hB2.mono hB01.size)
 have hO2:=Zin hO1' hB2
 have HF:Hid (fr x y=f):=hf
 clear hf hB01 hO1' hB2 hx1 hy1
 obtain⟨hfx,hfy⟩:=hfl
 go_wp2
 go_loopw [19] (fun iv wr=>∃ (k:Nat) (Z:List Int),k≤f∧iv=.int .i64 (k:Int)∧Below w.heap.size w wr∧wr.ownsRow w.heap.size 3 1 (.slice (some ⟨g,0,none⟩) x.length x.length) x.length (icells Z)∧Hid (Pt K Z x.length k k (x.drop k) (y.drop k))) (fun iv _=>f-(intOf iv).toNat)
 case atStart=>exact⟨0,_,Nat.zero_le _,rfl,hB02,hO2,(by rw[← hK.out];exact Pt.start x y)⟩
 case round =>
  obtain⟨k,Z,hk,rfl,hB,hO,hP⟩:=hrel
  by_cases hlt:k<f
  ·have hkx:k<x.length:=by omega
   have f0:=hO.frozenAt k
   have hZl:=hP.out.len
   have y0:=hO.cellAt k (by omega)
   rw[List.getElem?_eq_getElem (by rw[icells_length];omega)] at y0
   obtain⟨z0,hz0⟩:∃ z,(icells Z)[k]'(by rw[icells_length];omega)=z:=⟨_,rfl⟩
   rw[hz0] at y0
   clear hz0 hZl
   obtain⟨p1,g1⟩:=hO.stored k (.int .i64 (k:Int))
   rw[show (icells Z).set k (.int .i64 (k:Int))=icells (Z.set k (k:Int)) by simp[icells,List.map_set]] at p1
   have hB1:=hB.grown g1 hB.size (fun j hj=>by have:=Option.some.inj hj;have:=(Zie hO).1;omega)
   clear g1
   have i1:0≤(k:Int):=by omega
   have i2:(k:Int)<(x.length:Int):=by omega
   have i3:(k:Int)<(f:Int):=by omega
   have HP2:Hid (Pt K (Z.set k (k:Int)) x.length (k+1) ((k+1:Nat):Int) (x.drop (k+1)) (y.drop (k+1))):=hP.out.pair hkx (Zgh k x y k (by rw[HF.out];exact hlt))
   go_wp2
   go_roundw
   case rel=>exact⟨k+1,_,by omega,by go_num,hB1,p1,HP2⟩
   case measure=>simp[intOf];omega
  ·obtain rfl:k=f:=by omega
   obtain⟨vox,vcx,hsx,hhx⟩:=Zkt x xo xc k w hfx hx
   obtain⟨voy,vcy,hsy,hhy⟩:=Zkt y yo yc k w hfy hy
   have hX:=hhx w hx
   have hY:=hhy w hy
   have hlx:(x.drop k).length=x.length-k:=by simp
   have hly:(y.drop k).length=y.length-k:=by simp
   have HP:=hP.out
   have i1:(0:Int)≤(k:Int):=by omega
   have i2:(k:Int)≤(x.length:Int):=by omega
   have i3:(k:Int)≤(y.length:Int):=by omega
   go_wp2_with fail
   go_quiet (fail)
   go_wp2_with fail
   have hwq:Below w.heap.size w (wr.drewN nq):=Below.dN hB nq
   have hoq:(wr.drewN nq).ownsRow w.heap.size 3 1 (.slice (some ⟨g,0,none⟩) x.length x.length) x.length (icells Z):=hO
   generalize wr.drewN nq=wq at *
   rw[← hlx] at hX ⊢
   rw[← hly] at hY ⊢
   clear hsx hsy hhx hhy hP hO hB hO2 hB02 HF
   generalize x.drop k=X at *
   generalize y.drop k=Y at *
   have HXL:Hid (X.length=x.length-k):=hlx
   have hXb:X.length≤4096:=by omega
   have hYb:Y.length≤4096:=by omega
   have hkX:k+X.length=x.length:=by omega
   clear hlx hly
   obtain⟨M,hM⟩:∃ M,M=Y.length+1:=⟨_,rfl⟩
   obtain⟨N,hN⟩:∃ N,N=(X.length+1) * M:=⟨_,rfl⟩
   have HM:Hid (M=Y.length+1):=hM
   have HN:Hid (N=(X.length+1) * M):=hN
   clear hM hN
   refine (Zhm X Y _ _ _ (HI.keep hX hwq (Nat.le_refl _)) (HI.keep hY hwq (Nat.le_refl _)) hXb hYb N M HM HN).mono ?_
   rintro e w3 ⟨gt,T,rfl,hT,hD,hB3⟩
   have hB03:=hwq.trans (hB3.mono hwq.size)
   have hO3:=Zin hoq hB3
   have hT':w3.ownsRow w.heap.size 170 1 (.slice (some ⟨gt,0,none⟩) N N) N T:=by
    refine⟨hT.1,?_⟩
    rcases hT.2 with h | ⟨g',cap,cur,q1,q2,q3⟩
    ·exact .inl h
    ·exact .inr ⟨g',cap,cur,q1,Nat.le_trans hwq.size q2,q3⟩
   have hS0:Kst w g gt w3.heap.size x.length M N Z T (w3.alloc (Obj.cells #[.int .i64 (M:Int),.slice (some ⟨gt,0,none⟩) N N] 151)):=⟨hB03.alloc hB03.size _,hO3.alloc _,hT'.alloc _,_root_.Go.heap_alloc_new w3 _⟩
   obtain⟨bx,hbx⟩:∃ bx,bx=w3.heap.size:=⟨_,rfl⟩
   have HD:Hid (Done X Y 0 0 T):=hD
   have HP0:Hid (Pt K Z x.length k (k:Int) X Y):=HP
   clear hT hB3 hwq hoq hT' hO3 hB03 hD HP
   unfold tabV
   go_wp2
   go_loopw [9,10] (fun iv jv wi=>∃ (i j:Nat) (Z':List Int),i≤X.length∧j≤Y.length∧iv=.int .i64 (i:Int)∧jv=.int .i64 (j:Int)∧Kst w g gt w3.heap.size x.length M N Z' T wi∧Hid (Pt K Z' x.length (k+i) ((k:Int)+(j:Int)) (X.drop i) (Y.drop j))) (fun iv jv _=>X.length-(intOf iv).toNat+(Y.length-(intOf jv).toNat))
   case atStart=>exact⟨0,0,Z,Nat.zero_le _,Nat.zero_le _,rfl,rfl,hS0,(by show Pt _ _ _ _ _ _ _;simpa using HP0.out)⟩
   case round =>
    obtain⟨i,j,Z',hi,hj,rfl,rfl,hS,hP⟩:=hrel
    clear hS0 HP0
    by_cases hix:i<X.length
    ·by_cases hjy:j<Y.length
     ·obtain⟨bX,oX,rfl,_,hcx⟩:=HI.at (HI.keep hX hS.low (Nat.le_refl _)) (by omega)
      obtain⟨bY,oY,rfl,_,hcy⟩:=HI.at (HI.keep hY hS.low (Nat.le_refl _)) (by omega)
      have d1:=hcx i hix
      have d2:=hcy j hjy
      have hkp:=Zgi ((k:Int)+(j:Int)) X Y i j hix hjy
      obtain⟨xi,hxi⟩:∃ z,X[i]=z:=⟨_,rfl⟩
      obtain⟨yj,hyj⟩:∃ z,Y[j]=z:=⟨_,rfl⟩
      rw[hxi] at d1 hkp
      rw[hyj] at d2 hkp
      clear hcx hcy hxi hyj
      have i1:0≤(i:Int):=by omega
      have i2:(i:Int)<(X.length:Int):=by omega
      have i3:0≤(j:Int):=by omega
      have i4:(j:Int)<(Y.length:Int):=by omega
      by_cases hxy:xi=yj
      ·rw[if_pos hxy] at hkp
       have HKP:=hP.out.pair (by omega) hkp
       have HP2:Hid (Pt K (Z'.set (k+i) ((k:Int)+(j:Int))) x.length (k+(i+1)) ((k:Int)+((j+1:Nat):Int)) (X.drop (i+1)) (Y.drop (j+1))):=(by
        show Pt _ _ _ _ _ _ _
        rw[show k+(i+1)=k+i+1 by omega,show (k:Int)+((j+1:Nat):Int)=(k:Int)+(j:Int)+1 by omega]
        exact HKP)
       clear hkp HKP
       have f0:=hS.own.frozenAt (k+i)
       have hZl:=hP.out.len
       have y0:=hS.own.cellAt (k+i) (by omega)
       rw[List.getElem?_eq_getElem (by rw[icells_length];omega)] at y0
       obtain⟨z0,hz0⟩:∃ z,(icells Z')[k+i]'(by rw[icells_length];omega)=z:=⟨_,rfl⟩
       rw[hz0] at y0
       have i5:(k:Int)+(i:Int)<(x.length:Int):=by omega
       have i6:0≤(k:Int)+(i:Int):=by omega
       have i7:((k:Int)+(i:Int)).toNat=k+i:=by omega
       have HkX:Hid (k+X.length=x.length):=hkX
       clear hz0 hZl hkX
       go_wp2_with fail
       go_quiet (fail)
       go_wp2
       go_roundw
       case rel=>exact⟨i+1,j+1,_,by omega,by omega,by go_num,by go_num,(hS.drewN _).store (k+i) ((k:Int)+(j:Int)),HP2⟩
       case measure=>simp[intOf];omega
      ·have hxy':decide (xi=yj)=false:=decide_eq_false hxy
       rw[if_neg hxy] at hkp
       have HkX:Hid (k+X.length=x.length):=hkX
       obtain⟨a1,ha1⟩:∃ a,ln X Y (i+1) j=a:=⟨_,rfl⟩
       obtain⟨a2,ha2⟩:∃ a,ln X Y i (j+1)=a:=⟨_,rfl⟩
       obtain⟨p0,hp0⟩:∃ p,p=i * M:=⟨_,rfl⟩
       have hpi:(i:Int) * (M:Int)=(p0:Int):=by rw[hp0];simp
       have hpi1:((i:Int)+1) * (M:Int)=((p0+M:Nat):Int):=by rw[Int.add_mul,hpi];simp
       have t1:=Zdo hS.tab HD.out HM.out HN.out (i+1) j (p0+M+j) (by omega) (by omega) (by rw[hp0,Nat.succ_mul])
       have t2:=Zdo hS.tab HD.out HM.out HN.out i (j+1) (p0+(j+1)) (by omega) (by omega) (by rw[hp0])
       have b1:=ZgL X Y (i+1) j
       have b2:=ZgL X Y i (j+1)
       rw[ha1] at t1 b1 hkp
       rw[ha2] at t2 b2 hkp
       have hNb:N≤1099511627776:=by
        have h1:=HN.out
        have h2:=HM.out
        rw[h1,h2]
        exact Nat.le_trans (Nat.mul_le_mul (show X.length+1≤4097 by omega) (show Y.length+1≤4097 by omega)) (by decide)
       have hq1:p0+M+j<N:=by rw[HN.out,hp0,← Nat.succ_mul];exact Zfs (by have:=HM.out;omega) (by omega)
       have hq2:p0+(j+1)<N:=by rw[HN.out,hp0];exact Zfs (by have:=HM.out;omega) (by omega)
       have c1:((p0+M:Nat):Int)+(j:Int)=((p0+M+j:Nat):Int):=by omega
       have c2:(p0:Int)+((j:Int)+1)=((p0+(j+1):Nat):Int):=by omega
       have n1:(0:Int)≤(a1:Int):=by omega
       have n2:(a1:Int)≤4096:=by omega
       have n3:(0:Int)≤(a2:Int):=by omega
       have n4:(a2:Int)≤4096:=by omega
       have e1:(0:Int)≤(i:Int)+1:=by omega
       have e2:(0:Int)≤(j:Int)+1:=by omega
       have hw1:IntKind.i64.wrap ((i:Int)+1)=(i:Int)+1:=by rw[IntKind.wrap_i64];omega
       have hw2:IntKind.i64.wrap ((j:Int)+1)=(j:Int)+1:=by rw[IntKind.wrap_i64];omega
       clear ha1 ha2 hp0 hkX
       go_wp2_with fail
       go_quiet (fail)
       go_wp2_with fail
       have hSq:=hS.drewN nq
       have t1q:(wr.drewN nq).cell? ⟨gt,p0+M+j,none⟩=some (.int .i16 (a1:Int)):=t1
       have t2q:(wr.drewN nq).cell? ⟨gt,p0+(j+1),none⟩=some (.int .i16 (a2:Int)):=t2
       clear t1 t2 d1 d2 hS
       generalize wr.drewN nq=wq at *
       have hbS:=hSq.bx'
       obtain⟨q0,q1⟩:=hbS.cells
       go_region_held3 (fun u=>u.cell? ⟨w3.heap.size,0,none⟩=some (.int .i64 (M:Int))∧u.cell? ⟨w3.heap.size,1,none⟩=some (.slice (some ⟨gt,0,none⟩) N N)∧Bx w3.heap.size M gt N wq u) (go_keep)
        (first | (go_at_call_has 105 (Value.int IntKind.i64 ((i:Int)+1));refine (ZbP (at_f M gt N (p0+M) (p0+M+j) ((i:Int)+1) (j:Int) (a1:Int) _ e1 i3 hpi1 c1 hNb hq1 (Bx.cell (show Bx w3.heap.size M gt N wq _ from (by first | assumption | (rw[ZbO];assumption))) t1q) n1 n2) w3.heap.size M gt N wq (by first | assumption | (rw[ZbO];assumption))).mono ?_;rintro e w' ⟨rfl,e0,e1,hbS1⟩) | (go_at_call_has 105 (Value.int IntKind.i64 ((j:Int)+1));refine (ZbP (at_f M gt N p0 (p0+(j+1)) (i:Int) ((j:Int)+1) (a2:Int) _ i1 e2 hpi c2 hNb hq2 (Bx.cell (show Bx w3.heap.size M gt N wq _ from (by first | assumption | (rw[ZbO];assumption))) t2q) n3 n4) w3.heap.size M gt N wq (by first | assumption | (rw[ZbO];assumption))).mono ?_;rintro e w' ⟨rfl,e0,e1,hbS2⟩))
       have hSn:=hSq.keep hbS2.low
       clear hbS hbS1 hbS2 hSq t1q t2q q0 q1 e0 e1 hpi hpi1 c1 c2 hw1 hw2
       by_cases hle:a2≤a1
       ·rw[if_pos hle] at hkp
        have hle':(a2:Int)≤(a1:Int):=by omega
        have HP2:Hid (Pt K Z' x.length (k+(i+1)) ((k:Int)+(j:Int)) (X.drop (i+1)) (Y.drop j)):=(by
         show Pt _ _ _ _ _ _ _
         rw[show k+(i+1)=k+i+1 by omega]
         exact hP.out.out (by have:=HkX.out;omega) hkp)
        clear hkp
        go_wp2
        go_roundw
        case rel=>exact⟨i+1,j,Z',by omega,by omega,by go_num,rfl,hSn,HP2⟩
        case measure=>simp[intOf];omega
       ·rw[if_neg hle] at hkp
        have hle':¬ (a2:Int)≤(a1:Int):=by omega
        have HP2:Hid (Pt K Z' x.length (k+i) ((k:Int)+((j+1:Nat):Int)) (X.drop i) (Y.drop (j+1))):=(by
         show Pt _ _ _ _ _ _ _
         rw[show (k:Int)+((j+1:Nat):Int)=(k:Int)+(j:Int)+1 by omega]
         exact hP.out.skip hkp)
        clear hkp
        go_wp2
        go_roundw
        case rel=>exact⟨i,j+1,Z',by omega,by omega,rfl,by go_num,hSn,HP2⟩
        case measure=>simp[intOf];omega
     ·have hZ:Z'=K:=hP.out.done (by simp;omega) (.inr (List.drop_of_length_le (by omega)))
      have hj':¬ (j:Int)<(Y.length:Int):=by omega
      have hi':(i:Int)<(X.length:Int):=by omega
      subst hZ
      have hl:=hP.out.len
      go_wp2
      go_ret
      refine⟨_,rfl,?_,hS.low⟩
      unfold HI
      rw[hl]
      exact holds_of hS.own
    ·have hZ:Z'=K:=hP.out.done (by simp;omega) (.inl (List.drop_of_length_le (by omega)))
     have hi':¬ (i:Int)<(X.length:Int):=by omega
     subst hZ
     have hl:=hP.out.len
     go_wp2
     go_ret
     refine⟨_,rfl,?_,hS.low⟩
     unfold HI
     rw[hl]
     exact holds_of hS.own
end

section
open Go.RowKit
theorem Zam (x y:List Int) (vx vy:Value) (w:World) (hx:HI w vx x) (hy:HI w vy y) (hxl:x.length≤4096) (hyl:y.length≤4096) (L:List Ch) (hL:Hid (mkL (kp 0 x y) y.length=L)) :
  Calls Tryz.prog 60 #[vx,vy] w fun e w'=>∃ v',e=.returned (.tuple #[v',.int .i64 0])∧HCh w' v' L∧Below w.heap.size w w':=by
 obtain⟨xo,xc,rfl⟩:=Holds.form hx
 obtain⟨yo,yc,rfl⟩:=Holds.form hy
 go_enter Tryz.func60,Tryz.ntmps60
 go_wp2_with fail
 refine (Zma x y _ _ _ hx hy false (by show _=_;symm;simp;omega)).mono ?_
 rintro e w0 ⟨rfl,rfl⟩
 go_wp2_with fail
 refine (ZfT x y _ _ _ hx hy hxl hyl (kp 0 x y) rfl).mono ?_
 rintro e w1 ⟨v,rfl,hv,hB1⟩
 have hkl:=Zgd 0 x y
 have hvk:Hid (Vk 0 (y.length:Int) (kp 0 x y)):=(by
  have:=Zgj 0 x y (Int.le_refl _)
  rw[Int.zero_add] at this
  exact this)
 generalize kp 0 x y=K at *
 obtain⟨o1,c1,rfl⟩:=Holds.form hv
 have hKl:K.length≤1048576:=by omega
 have HKL:Hid (K.length=x.length):=hkl
 clear hkl
 go_wp2_with fail
 refine (ZaG K y.length L _ _ hv hKl hvk (by omega) (by omega) hL).mono ?_
 rintro e w2 ⟨v2,rfl,hv2,hB2⟩
 go_wp2
 go_ret2
 exact⟨_,rfl,hv2,hB1.trans (hB2.mono hB1.size)⟩
end

section
theorem Right.many {f:Bool} {a b n m:Int} {l:List Ch} (h:Right f a b n m l):(l.length:Int)≤(n-a)+(m-b):=by
 induction l generalizing f a b with
 | nil=>have:=h.le;simp;omega
 | cons c l ih =>
  obtain⟨⟨h1,h2,h3,h4⟩,h5⟩:=h
  rw[ZhO] at h1
  have:=ih h5
  simp only[List.length_cons]
  omega
theorem ZfP {K:List Int} {m:Int} (h:Vk 0 m K) (h0:0≤m) (hm:m≤2147483647) (hl:K.length≤1048576):Script (mkL K m) K.length m∧keepL (mkL K m) K.length m=K∧((mkL K m).length:Int)≤K.length+m:=by
 obtain⟨hS,hU⟩:=ZhB h h0 hm hl
 refine⟨hS,?_,?_⟩
 ·have e:keepL (mkL K m) K.length m=kr 0 0 K.length m (mkL K m):=rfl
  rw[e]
  refine ZfU (i:=0) ?_ ?_
  ·rw[Zgp hS.2.2];omega
  ·rw[Zgo hS.2.2 (Int.le_refl _),hU]
 ·have:=hS.2.2.many
  omega
end

section
def sub (x:List Int) (a b:Nat):List Int:=(x.drop a).take (b-a)
theorem Zlz (x:List Int) (a b:Nat) (hb:b≤x.length):(sub x a b).length=b-a:=by
 unfold sub
 rw[List.length_take,List.length_drop]
 omega
def tfN (x y:List Int):Nat→Nat→Nat→Nat
 | 0,_,_=>0
 | n+1,a,c=>if x[a]?=y[c]? then tfN x y n (a+1) (c+1)+1 else 0
def tf (x y:List Int) (a b c d:Nat):Nat:=tfN x y (min (b-a) (d-c)) a c
theorem ZlF (x y:List Int) (a b c d:Nat):tf x y a b c d=if a<b∧c<d∧x[a]?=y[c]? then tf x y (a+1) b (c+1) d+1 else 0:=by
 unfold tf
 by_cases h:a<b∧c<d
 ·rw[show min (b-a) (d-c)=min (b-(a+1)) (d-(c+1))+1 by omega,tfN]
  by_cases e:x[a]?=y[c]?
  ·rw[if_pos e,if_pos ⟨h.1,h.2,e⟩]
  ·rw[if_neg e,if_neg (fun q=>e q.2.2)]
 ·rw[show min (b-a) (d-c)=0 by omega,tfN,if_neg (fun q=>h ⟨q.1,q.2.1⟩)]
def tb (x y:List Int) (a b c d:Nat):Nat:=if a<b∧c<d∧x[b-1]?=y[d-1]? then tb x y a (b-1) c (d-1)+1 else 0
theorem ZlG (x y:List Int) (a b c d:Nat):tf x y a b c d≤b-a∧tf x y a b c d≤d-c:=by
 induction h:b-a generalizing a c with
 | zero=>rw[ZlF,if_neg (by omega)];omega
 | succ n ih =>
  rw[ZlF]
  split
  ·have:=ih (a+1) (c+1) (by omega)
   omega
  ·omega
theorem ZlD (x y:List Int) (a b c d:Nat):tb x y a b c d≤b-a∧tb x y a b c d≤d-c:=by
 induction h:b-a generalizing b d with
 | zero=>rw[tb,if_neg (by omega)];omega
 | succ n ih =>
  rw[tb]
  split
  ·have:=ih (b-1) (d-1) (by omega)
   omega
  ·omega
def fp (a c:Nat):Nat→List Pr
 | 0=>[]
 | k+1=>⟨a,c⟩::fp (a+1) (c+1) k
def bp (b d:Nat):Nat→List Pr
 | 0=>[]
 | k+1=>⟨(b-1:Nat),(d-1:Nat)⟩::bp (b-1) (d-1) k
def Wn (a b c d:Nat) (p:Pr):Prop:=(a:Int)≤p.X∧p.X<b∧(c:Int)≤p.Y∧p.Y<d
def lp (a c:Int):List Int→List Pr
 | []=>[]
 | j::K=>(if j=-1 then [] else [⟨a,c+j⟩])++lp (a+1) c K
def ends (x y:List Int) (N:Nat→Nat→Nat→Nat→List Pr) (a b c d:Nat):List Pr :=
 fp a c (tf x y a b c d)++(bp b d (tb x y (a+tf x y a b c d) b (c+tf x y a b c d) d) ++
  (if a+tf x y a b c d<b-tb x y (a+tf x y a b c d) b (c+tf x y a b c d) d∧c+tf x y a b c d<d-tb x y (a+tf x y a b c d) b (c+tf x y a b c d) d then
   N (a+tf x y a b c d) (b-tb x y (a+tf x y a b c d) b (c+tf x y a b c d) d) (c+tf x y a b c d) (d-tb x y (a+tf x y a b c d) b (c+tf x y a b c d) d)
  else []))
def pcs (M:(Nat→Nat→Nat→Nat→List Pr)→Nat→Nat→Nat→Nat→List Pr) (x y:List Int):Nat→Nat→Nat→Nat→Nat→List Pr
 | 0,_,_,_,_=>[]
 | f+1,a,b,c,d=>ends x y (M (pcs M x y f)) a b c d
def wrk (K:List Int) (l:List Pr):List Int:=l.foldl (fun K p=>K.set p.X.toNat p.Y) K
theorem Zoj (K:List Int) (a b:List Pr):wrk K (a++b)=wrk (wrk K a) b:=by simp[wrk]
theorem Zol (K:List Int) (p:Pr) (b:List Pr):wrk K (p::b)=wrk (K.set p.X.toNat p.Y) b:=rfl
theorem Zoo (K:List Int) (l:List Pr):(wrk K l).length=K.length:=by
 induction l generalizing K with
 | nil=>rfl
 | cons p l ih=>rw[Zol,ih,List.length_set]
theorem Zok (K:List Int) (l:List Pr) (u:Nat) (v:Int) (h:∀ p∈l,p.X.toNat≠u):wrk (K.set u v) l=(wrk K l).set u v:=by
 induction l generalizing K with
 | nil=>rfl
 | cons p l ih =>
  rw[Zol,Zol,List.set_comm _ _ (fun e=>h p (List.mem_cons_self ..) e.symm),ih _ (fun q hq=>h q (List.mem_cons_of_mem _ hq))]
theorem ZlH (x y:List Int) (a b c d:Nat):∀ i,i<tf x y a b c d→x[a+i]?=y[c+i]?:=by
 induction h:b-a generalizing a c with
 | zero=>intro i hi;rw[ZlF,if_neg (by omega)] at hi;omega
 | succ n ih =>
  intro i hi
  rw[ZlF] at hi
  split at hi
  ·rename_i hh
   cases i with
   | zero=>exact hh.2.2
   | succ i =>
    have:=ih (a+1) (c+1) (by omega) i (by omega)
    rw[show a+(i+1)=a+1+i by omega,show c+(i+1)=c+1+i by omega]
    exact this
  ·omega
theorem ZlE (x y:List Int) (a b c d:Nat):∀ i,i<tb x y a b c d→x[b-(i+1)]?=y[d-(i+1)]?:=by
 induction h:b-a generalizing b d with
 | zero=>intro i hi;rw[tb,if_neg (by omega)] at hi;omega
 | succ n ih =>
  intro i hi
  rw[tb] at hi
  split at hi
  ·rename_i hh
   cases i with
   | zero=>exact hh.2.2
   | succ i =>
    have:=ih (b-1) (d-1) (by omega) i (by omega)
    rw[show b-(i+1+1)=b-1-(i+1) by omega,show d-(i+1+1)=d-1-(i+1) by omega]
    exact this
  ·omega
def Ris (l:List Pr):Prop:=∀ p∈l,∀ q∈l,p=q∨ab q p∨ab p q
structure Okp (x y:List Int) (a b c d:Nat) (l:List Pr):Prop where
 wn:∀ p∈l,Wn a b c d p
 ris:Ris l
 eqs:∀ p∈l,x[p.X.toNat]?=y[p.Y.toNat]?
section
variable {x y:List Int}
theorem Okp.nil (a b c d:Nat):Okp x y a b c d []:=⟨fun p hp=>by simp at hp,fun p hp=>by simp at hp,fun p hp=>by simp at hp⟩
theorem Okp.mono {a b c d a' b' c' d':Nat} {l:List Pr} (h:Okp x y a b c d l) (ha:a'≤a) (hb:b≤b') (hc:c'≤c) (hd:d≤d'):Okp x y a' b' c' d' l:=⟨fun p hp=>by have:=h.wn p hp;unfold Wn at this ⊢;omega,h.ris,h.eqs⟩
theorem Okp.one {a c:Nat} (h:x[a]?=y[c]?):Okp x y a (a+1) c (c+1) [⟨a,c⟩]:=⟨fun p hp=>by simp at hp;subst hp;unfold Wn;dsimp only;omega,fun p hp q hq=>by simp at hp hq;subst hp;subst hq;exact .inl rfl,fun p hp=>by simp at hp;subst hp;simpa using h⟩
theorem Okp.cat {a b c d a' b' c' d' A B C D:Nat} {l l':List Pr} (h:Okp x y a b c d l) (h':Okp x y a' b' c' d' l') (hs:(b≤a'∧d≤c')∨(b'≤a∧d'≤c)) (h1:A≤a∧A≤a') (h2:b≤B∧b'≤B) (h3:C≤c∧C≤c') (h4:d≤D∧d'≤D):Okp x y A B C D (l++l'):=by
 refine⟨fun p hp=>?_,fun p hp q hq=>?_,fun p hp=>?_⟩
 ·rcases List.mem_append.1 hp with hp | hp
  ·exact (h.mono h1.1 h2.1 h3.1 h4.1).wn p hp
  ·exact (h'.mono h1.2 h2.2 h3.2 h4.2).wn p hp
 ·rcases List.mem_append.1 hp with hp | hp<;>rcases List.mem_append.1 hq with hq | hq
  ·exact h.ris p hp q hq
  ·have e1:=h.wn p hp
   have e2:=h'.wn q hq
   unfold Wn at e1 e2
   rcases hs with hs | hs
   ·exact .inr (.inl ⟨by omega,by omega⟩)
   ·exact .inr (.inr ⟨by omega,by omega⟩)
  ·have e1:=h'.wn p hp
   have e2:=h.wn q hq
   unfold Wn at e1 e2
   rcases hs with hs | hs
   ·exact .inr (.inr ⟨by omega,by omega⟩)
   ·exact .inr (.inl ⟨by omega,by omega⟩)
  ·exact h'.ris p hp q hq
 ·rcases List.mem_append.1 hp with hp | hp
  ·exact h.eqs p hp
  ·exact h'.eqs p hp
theorem Zeh (a c k:Nat) (h:∀ i,i<k→x[a+i]?=y[c+i]?):Okp x y a (a+k) c (c+k) (fp a c k):=by
 induction k generalizing a c with
 | zero=>exact Okp.nil _ _ _ _
 | succ k ih=>exact (Okp.one (h 0 (by omega))).cat (ih (a+1) (c+1) (fun i hi=>by have:=h (i+1) (by omega);rw[show a+1+i=a+(i+1) by omega,show c+1+i=c+(i+1) by omega];exact this)) (.inl ⟨by omega,by omega⟩) ⟨by omega,by omega⟩ ⟨by omega,by omega⟩ ⟨by omega,by omega⟩ ⟨by omega,by omega⟩
theorem ZbN (b d k:Nat) (hb:k≤b) (hd:k≤d) (h:∀ i,i<k→x[b-(i+1)]?=y[d-(i+1)]?):Okp x y (b-k) b (d-k) d (bp b d k):=by
 induction k generalizing b d with
 | zero=>exact Okp.nil _ _ _ _
 | succ k ih =>
  have h0:Okp x y (b-1) (b-1+1) (d-1) (d-1+1) [⟨(b-1:Nat),(d-1:Nat)⟩]:=Okp.one (by simpa using h 0 (by omega))
  exact h0.cat (ih (b-1) (d-1) (by omega) (by omega) (fun i hi=>by have:=h (i+1) (by omega);rw[show b-1-(i+1)=b-(i+1+1) by omega,show d-1-(i+1)=d-(i+1+1) by omega];exact this)) (.inr ⟨by omega,by omega⟩) ⟨by omega,by omega⟩ ⟨by omega,by omega⟩ ⟨by omega,by omega⟩ ⟨by omega,by omega⟩
theorem Zhd (K:List Int):∀ (a c nx m:Nat),Vk nx m K→(∀ (i q:Nat),K[i]?=some (q:Int)→x[a+i]?=y[c+q]?)→Okp x y a (a+K.length) (c+nx) (c+m) (lp a c K):=by
 induction K with
 | nil=>intro a c nx m _ _;exact Okp.nil _ _ _ _
 | cons z K ih =>
  intro a c nx m h hs
  rw[lp]
  simp only[List.length_cons]
  have hs':∀ (i q:Nat),K[i]?=some (q:Int)→x[a+1+i]?=y[c+q]?:=fun i q hi=>by
   have:=hs (i+1) q (by simpa using hi)
   rw[show a+1+i=a+(i+1) by omega]
   exact this
  rcases h with ⟨hz,h⟩ | ⟨hz,h1,h2,h⟩
  ·rw[if_pos hz,List.nil_append]
   exact (ih (a+1) c nx m h hs').mono (by omega) (by omega) (by omega) (by omega)
  ·rw[if_neg hz]
   obtain⟨j,rfl⟩:∃ j:Nat,z=j:=⟨z.toNat,by omega⟩
   have e1:Okp x y a (a+1) (c+j) (c+j+1) [⟨(a:Int),(c:Int)+(j:Int)⟩]:=by simpa using Okp.one (x:=x) (y:=y) (a:=a) (c:=c+j) (by simpa using hs 0 j (by simp))
   exact e1.cat (ih (a+1) c (j+1) m (by simpa using h) hs') (.inl ⟨by omega,by omega⟩) ⟨by omega,by omega⟩ ⟨by omega,by omega⟩ ⟨by omega,by omega⟩ ⟨by omega,by omega⟩
end
theorem Zlx (x:List Int) (a b i:Nat) (hi:i<b-a):(sub x a b)[i]?=x[a+i]?:=by
 unfold sub
 rw[List.getElem?_take_of_lt hi,List.getElem?_drop]
theorem ZlA {x:List Int} {a b i:Nat} {z:Int} (h:(sub x a b)[i]?=some z):i<b-a∧x[a+i]?=some z:=by
 have h1:=(List.getElem?_eq_some_iff.1 h).1
 unfold sub at h1
 rw[List.length_take] at h1
 exact⟨by omega,by rw[← Zlx x a b i (by omega)];exact h⟩
theorem Zgz (x y:List Int) (a b c d:Nat) (hab:a≤b) (hb:b≤x.length) (hcd:c≤d) (hd:d≤y.length):Okp x y a b c d (lp a c (kp 0 (sub x a b) (sub y c d))):=by
 have h1:=Zhd (x:=x) (y:=y) (kp 0 (sub x a b) (sub y c d)) a c 0 (d-c) (by
  have:=Zgj 0 (sub x a b) (sub y c d) (Int.le_refl _)
  rw[Zlz y _ _ (by omega),Int.zero_add] at this
  exact this) (fun i q hq=>by
   obtain⟨_,z,h1,h2⟩:=Zgg 0 _ _ (Int.le_refl _) i q hq (by omega)
   rw[show ((q:Int)-0).toNat=q by omega] at h2
   rw[(ZlA h1).2,(ZlA h2).2])
 rw[Zgd,Zlz x _ _ (by omega)] at h1
 exact h1.mono (Nat.le_refl _) (by omega) (by omega) (by omega)
theorem Zdw (x y:List Int) (N:Nat→Nat→Nat→Nat→List Pr) (a b c d:Nat) (hab:a≤b) (_:b≤x.length) (hcd:c≤d) (_:d≤y.length) (hN:∀ a' b' c' d',a≤a'→a'<b'→b'≤b→c≤c'→c'<d'→d'≤d→Okp x y a' b' c' d' (N a' b' c' d')):Okp x y a b c d (ends x y N a b c d):=by
 unfold ends
 have hk:=ZlG x y a b c d
 have hks:=ZlH x y a b c d
 generalize tf x y a b c d=k at hk hks ⊢
 have hm:=ZlD x y (a+k) b (c+k) d
 have hms:=ZlE x y (a+k) b (c+k) d
 generalize tb x y (a+k) b (c+k) d=m at hm hms ⊢
 have hmid:Okp x y (a+k) (b-m) (c+k) (d-m) (if a+k<b-m∧c+k<d-m then N (a+k) (b-m) (c+k) (d-m) else []):=by
  split
  ·rename_i h
   exact hN _ _ _ _ (by omega) h.1 (by omega) (by omega) h.2 (by omega)
  ·exact Okp.nil _ _ _ _
 have h1:=Zeh (x:=x) (y:=y) a c k hks
 have h2:=ZbN (x:=x) (y:=y) b d m (by omega) (by omega) hms
 exact h1.cat (h2.cat hmid (.inr ⟨by omega,by omega⟩) (A:=a+k) (B:=b) (C:=c+k) (D:=d) ⟨by omega,by omega⟩ ⟨by omega,by omega⟩ ⟨by omega,by omega⟩ ⟨by omega,by omega⟩) (.inl ⟨by omega,by omega⟩) ⟨by omega,by omega⟩ ⟨by omega,by omega⟩ ⟨by omega,by omega⟩ ⟨by omega,by omega⟩
def MOk (M:(Nat→Nat→Nat→Nat→List Pr)→Nat→Nat→Nat→Nat→List Pr) (x y:List Int):Prop:=∀ (rec:Nat→Nat→Nat→Nat→List Pr) (a b c d:Nat),a<b→b≤x.length→c<d→d≤y.length→(∀ a' b' c' d',a'≤b'→b'≤x.length→c'≤d'→d'≤y.length→Okp x y a' b' c' d' (rec a' b' c' d'))→Okp x y a b c d (M rec a b c d)
theorem Ziw {M:(Nat→Nat→Nat→Nat→List Pr)→Nat→Nat→Nat→Nat→List Pr} {x y:List Int} (hM:MOk M x y) (f:Nat):∀ a b c d,a≤b→b≤x.length→c≤d→d≤y.length→Okp x y a b c d (pcs M x y f a b c d):=by
 induction f with
 | zero=>intro a b c d _ _ _ _;exact Okp.nil _ _ _ _
 | succ f ih =>
  intro a b c d hab hb hcd hd
  rw[pcs]
  exact Zdw x y _ a b c d hab hb hcd hd (fun a' b' c' d' _ h2 h3 _ h5 h6=>hM _ a' b' c' d' h2 (by omega) h5 (by omega) ih)
theorem Zom (l:List Pr):∀ (K:List Int) (i:Nat) (z:Int),(wrk K l)[i]?=some z→K[i]?=some z∨∃ p∈l,p.X.toNat=i∧p.Y=z:=by
 induction l with
 | nil=>intro K i z h;exact .inl h
 | cons p l ih =>
  intro K i z h
  rw[Zol] at h
  rcases ih _ i z h with h | ⟨q,hq,h⟩
  ·by_cases e:p.X.toNat=i
   ·subst e
    by_cases hl:p.X.toNat<K.length
    ·rw[List.getElem?_set_self hl] at h
     cases h
     exact .inr ⟨p,List.mem_cons_self ..,rfl,rfl⟩
    ·rw[List.getElem?_eq_none (by rw[List.length_set];omega)] at h
     cases h
   ·rw[List.getElem?_set_ne e] at h
    exact .inl h
  ·exact .inr ⟨q,List.mem_cons_of_mem _ hq,h⟩
theorem Znk (K:List Int):∀ (nx m:Int),(∀ z∈K,z=-1∨(nx≤z∧z<m))→K.Pairwise (fun z z'=>z=-1∨z'=-1∨z<z')→Vk nx m K:=by
 induction K with
 | nil=>intro _ _ _ _;trivial
 | cons z K ih =>
  intro nx m h1 h2
  have h2':=List.pairwise_cons.1 h2
  by_cases hz:z=-1
  ·exact .inl ⟨hz,ih nx m (fun y hy=>h1 y (List.mem_cons_of_mem _ hy)) h2'.2⟩
  ·have h3:=(h1 z (List.mem_cons_self ..)).resolve_left hz
   refine .inr ⟨hz,h3.1,h3.2,ih (z+1) m (fun y hy=>?_) h2'.2⟩
   rcases h1 y (List.mem_cons_of_mem _ hy) with e | e
   ·exact .inl e
   ·rcases h2'.1 y hy with q | q | q
    ·exact absurd q hz
    ·exact .inl q
    ·exact .inr ⟨by omega,e.2⟩
theorem Zop {x y:List Int} (n m:Nat) (l:List Pr) (h:Okp x y 0 n 0 m l):Vk 0 m (wrk (List.replicate n (-1)) l):=by
 have hget:∀ (i:Nat) (z:Int),(wrk (List.replicate n (-1)) l)[i]?=some z→z=-1∨∃ p∈l,p.X=i∧p.Y=z:=fun i z hz=>by
  rcases Zom l _ i z hz with q | ⟨p,hp,q1,q2⟩
  ·left
   rw[List.getElem?_replicate] at q
   split at q
   ·cases q;rfl
   ·cases q
  ·have:=h.wn p hp
   unfold Wn at this
   exact .inr ⟨p,hp,by omega,q2⟩
 refine Znk _ 0 m (fun z hz=>?_) (List.pairwise_iff_getElem.2 fun i j hi hj hij=>?_)
 ·obtain⟨i,hi,e⟩:=List.getElem_of_mem hz
  rcases hget i z (by rw[List.getElem?_eq_getElem hi,e]) with q | ⟨p,hp,_,q2⟩
  ·exact .inl q
  ·have:=h.wn p hp
   unfold Wn at this
   exact .inr ⟨by omega,by omega⟩
 ·rcases hget i _ (List.getElem?_eq_getElem hi) with q | ⟨p,hp,p1,p2⟩
  ·exact .inl q
  ·rcases hget j _ (List.getElem?_eq_getElem hj) with q | ⟨q,hq,q1,q2⟩
   ·exact .inr (.inl q)
   ·refine .inr (.inr ?_)
    rw[← p2,← q2]
    rcases h.ris p hp q hq with e | e | e
    ·subst e
     omega
    ·exact e.2
    ·have:=e.1
     omega
theorem Zon (l:List Pr) (n:Nat) (hr:Ris l) (hw:∀ p∈l,0≤p.X∧p.X<n):∀ K:List Int,K.length=n→∀ p∈l,(wrk K l)[p.X.toNat]?=some p.Y:=by
 induction l with
 | nil=>intro K _ p hp;simp at hp
 | cons q l ih =>
  intro K hK p hp
  rw[Zol]
  have ih':=ih (fun a ha b hb=>hr a (List.mem_cons_of_mem _ ha) b (List.mem_cons_of_mem _ hb)) (fun a ha=>hw a (List.mem_cons_of_mem _ ha)) (K.set q.X.toNat q.Y) (by rw[List.length_set];exact hK)
  by_cases h:p∈l
  ·exact ih' p h
  ·have e:p=q:=(List.mem_cons.1 hp).resolve_right h
   subst e
   have hb:=hw p (List.mem_cons_self ..)
   by_cases hx:∃ r∈l,r.X.toNat=p.X.toNat
   ·obtain⟨r,h1,h2⟩:=hx
    have hrb:=hw r (List.mem_cons_of_mem _ h1)
    rcases hr p (List.mem_cons_self ..) r (List.mem_cons_of_mem _ h1) with e | e | e
    ·subst e;exact ih' p h1
    ·have:=e.1;omega
    ·have:=e.1;omega
   ·rw[Zok K l _ _ (fun r h1 h2=>hx ⟨r,h1,h2⟩),List.getElem?_set_self (by rw[Zoo];omega)]
structure Kpt (x y K:List Int):Prop where
 vk:Vk 0 y.length K
 len:K.length=x.length
 eqs:∀ (i q:Nat),K[i]?=some (q:Int)→x[i]?=y[q]?
theorem Okp.kpt {x y:List Int} {l:List Pr} (h:Okp x y 0 x.length 0 y.length l):Kpt x y (wrk (List.replicate x.length (-1)) l):=by
 refine⟨Zop _ _ _ h,by rw[Zoo];simp,fun i q hq=>?_⟩
 rcases Zom l _ i q hq with e | ⟨p,hp,e1,e2⟩
 ·rw[List.getElem?_replicate] at e
  split at e
  ·simp at e
  ·cases e
 ·have h1:=h.eqs p hp
  rw[e1,e2] at h1
  simpa using h1
theorem Okp.at {x y:List Int} {l:List Pr} (h:Okp x y 0 x.length 0 y.length l) {p:Pr} (hp:p∈l):(wrk (List.replicate x.length (-1)) l)[p.X.toNat]?=some p.Y :=
 Zon l x.length h.ris (fun q hq=>by have:=h.wn q hq;unfold Wn at this;omega) _ (by simp) p hp
end

section
open Go.RowKit
structure Ls (w:World) (g n:Nat) (Z:List Int) (u:World):Prop where
 low:Below w.heap.size w u
 own:u.ownsRow w.heap.size 3 1 (.slice (some ⟨g,0,none⟩) n n) n (icells Z)
theorem Ls.drewN {w u:World} {g n:Nat} {Z:List Int} (h:Ls w g n Z u) (k:Nat):Ls w g n Z (u.drewN k):=⟨Below.dN h.low k,h.own⟩
theorem Ls.keep {w u u':World} {g n:Nat} {Z:List Int} (h:Ls w g n Z u) (hb:Below u.heap.size u u'):Ls w g n Z u':=⟨h.low.trans (hb.mono h.low.size),Zin h.own hb⟩
theorem Ls.set {w u:World} {g n:Nat} {Z:List Int} (h:Ls w g n Z u) (k:Nat) (m:Int):Ls w g n (Z.set k m) (u.setCell ⟨g,k,none⟩ (.int .i64 m)):=by
 obtain⟨p1,g1⟩:=h.own.stored k (.int .i64 m)
 have e:(icells Z).set k (.int .i64 m)=icells (Z.set k m):=by simp[icells,List.map_set]
 rw[e] at p1
 exact⟨h.low.grown g1 h.low.size (fun j hj=>owns_ge h.own (by simpa [Value.ownBlock] using hj)),p1⟩
theorem Ls.len {w u:World} {g n:Nat} {Z:List Int} (h:Ls w g n Z u):Z.length=n:=by
 have:=h.own.1
 rw[icells_length,Nat.mul_one] at this
 exact this
theorem Ls.at {w u:World} {g n:Nat} {Z:List Int} (h:Ls w g n Z u) {k:Nat} {z:Int} (hz:Z[k]?=some z):u.cell? ⟨g,k,none⟩=some (.int .i64 z):=by
 have hl:=(List.getElem?_eq_some_iff.1 hz).1
 rw[h.len] at hl
 rw[h.own.cellAt k (by omega)]
 simp[icells,hz]
theorem ZgY {w u:World} (h:Low w u) (r:Option Nat):w.grownBy u r:=⟨Below.os h,Below.tape h,Below.output h,Below.size h,fun k hk _=>Below.block h k hk⟩
theorem ZeH (u:World) (g j:Nat) (v:Value):u.grownBy (u.setCell ⟨g,j,none⟩ v) (some g):=⟨rfl,rfl,rfl,(KeepsWalks.setCell u _ v).size,fun k _ hk=>Below.heap_setCell _ _ _ k (fun e=>hk (by rw[e]))⟩
theorem Zhe {W0 u:World} {n:Nat} {K:List Int} {G:Nat} (h:Ls W0 G n K u) {g:Nat} (hg:G≠g) (hw:W0.heap.size≤g) (j:Nat) (v:Value):Ls W0 G n K (u.setCell ⟨g,j,none⟩ v) :=
 ⟨h.low.grown (ZeH u g j v) h.low.size (fun q hq=>by cases hq;exact hw),h.own.kept (ZeH u g j v) (.inr (fun e=>by simp[Value.ownBlock] at e;omega))⟩
theorem ZeG {w u:World} {r:Option Nat} (h:w.grownBy u r) {B:Nat} (hB:w.heap.size≤B) (j:Nat) (v:Value):w.grownBy (u.setCell ⟨B,j,none⟩ v) r :=
 ⟨h.os,h.tape,h.output,Nat.le_trans h.size (ZeH u B j v).size,fun k hk hn=>(heap_setCell_other u _ k _ (fun e=>by simp at e;omega)).trans (h.block k hk hn)⟩
theorem ZeF {w u:World} {r:Option Nat} (h:w.grownBy u r) (k:Nat):w.grownBy (u.drewN k) r:=⟨h.os,h.tape,h.output,h.size,h.block⟩
end

section
open Go.RowKit
theorem Zcb {u u':World} (h:Below u.heap.size u u') {a:Addr} {v:Value} (hc:u.cell? a=some v):u'.cell? a=some v:=by
 rw[World.cell?_of_block (w:=u) (h.block _ (World.block_lt_of_cell? u _ hc))]
 exact hc
theorem Zbk (ad:Addr):ad.add 0=ad:=by unfold Addr.add;split<;>simp_all
def slF (ao:Option Addr) (cap k:Nat):Option Addr:=if cap=k then ao else ao.map (·.add k)
theorem ZkE (ao:Option Addr) (n cap k:Nat) (hk:k≤n) (_:n≤cap) (u:World):(Instr.slice 50 (.slice ao n cap) (some (.int .i64 (k:Int))) none none).run Tryz.prog u=.ok (.slice (slF ao cap k) (n-k) (cap-k)) u:=by
 rw[run_slice_l (P:=Tryz.prog) u 50 ao n cap (by kernel_rfl) .i64 k (by omega) (by omega)]
 have:(sizeOf (Tryz.prog.elem 50)).run Tryz.prog u=.ok 1 u:=by kernel_rfl
 rw[this]
 simp[Result.andThen,sliced,slF]
theorem ZkF (ao:Option Addr) (n cap k:Nat) (hk:k≤n) (hn:n≤cap) (u:World):(Instr.slice 50 (.slice ao n cap) none (some (.int .i64 (k:Int))) none).run Tryz.prog u=.ok (.slice ao k cap) u:=by
 rw[run_slice_h (P:=Tryz.prog) u 50 ao n cap (by kernel_rfl) .i64 k (by omega) (by omega)]
 have:(sizeOf (Tryz.prog.elem 50)).run Tryz.prog u=.ok 1 u:=by kernel_rfl
 rw[this]
 cases ao with
 | none=>simp[Result.andThen,sliced]
 | some ad=>simp[Result.andThen,sliced,Zbk]
theorem Zfg {w:World} {ao:Option Addr} {n c:Nat} {xs:List Value} (h:Holds w (.slice ao n c) n xs):n≤c:=by
 rcases h with ⟨h,h0,_⟩ | ⟨ad,c',h,h3,_⟩
 ·omega
 ·cases h;exact h3
theorem Zfh {w:World} {ao:Option Addr} {n c k:Nat} {L:List Int} (h:Holds w (.slice ao n c) n (icells L)) (hl:L.length=n) (hk:k≤n):Holds w (.slice (slF ao c k) (n-k) (c-k)) (n-k) (icells (L.drop k)):=by
 have hnc:=Zfg h
 rcases h with ⟨h,h0,h4⟩ | ⟨ad,c',h,h3,hc⟩
 ·cases h
  have:L=[]:=by simpa [icells] using h4
  subst this
  have:k=0:=by omega
  subst this
  exact .inl ⟨by simp[slF],by simp,by simp[icells]⟩
 ·cases h
  refine .inr ⟨if c=k then ad else ad.add k,c-k,by unfold slF;split<;>simp,by omega,fun j v hj=>?_⟩
  have hj':(icells L)[k+j]?=some v:=by
   simp only[icells,List.map_drop,List.getElem?_drop] at hj ⊢
   exact hj
  have hlt:=(List.getElem?_eq_some_iff.1 hj').1
  rw[icells_length] at hlt
  rw[if_neg (by omega)]
  have h0:=hc 0 _ (List.getElem?_eq_getElem (by rw[icells_length];omega))
  obtain⟨b,off,rfl⟩:=addr_of h0
  have:=hc _ _ hj'
  rw[add_none] at this
  rw[add_none,add_none,Nat.add_assoc]
  exact this
theorem Zfi {w:World} {ao:Option Addr} {n c k:Nat} {L:List Int} (h:Holds w (.slice ao n c) n (icells L)) (hl:L.length=n) (hk:k≤n):Holds w (.slice ao k c) k (icells (L.take k)):=by
 have hnc:=Zfg h
 rcases h with ⟨h,h0,h4⟩ | ⟨ad,c',h,h3,hc⟩
 ·cases h
  have:L=[]:=by simpa [icells] using h4
  subst this
  have:k=0:=by omega
  subst this
  exact .inl ⟨by simp,by simp,by simp[icells]⟩
 ·cases h
  refine .inr ⟨ad,c,rfl,by omega,fun j v hj=>hc j v ?_⟩
  rw[icells,List.map_take] at hj
  rw[icells]
  by_cases hjk:j<k
  ·rw[List.getElem?_take_of_lt hjk] at hj
   exact hj
  ·rw[List.getElem?_eq_none (by simp;omega)] at hj
   cases hj
theorem Zly (x:List Int) (a b k:Nat):(sub x a b).drop k=sub x (a+k) b:=by
 unfold sub
 rw[List.drop_take,List.drop_drop]
 congr 1
 omega
theorem ZlB (x:List Int) (a b k:Nat) (hk:a+k≤b):(sub x a b).take k=sub x a (a+k):=by
 unfold sub
 rw[List.take_take]
 congr 1
 omega
theorem Zlw (x:List Int):sub x 0 x.length=x:=by simp[sub]
theorem Zfj {u u':World} {B n:Nat} {e:TypeId} {s:Nat} {v:Value} {xs:List Value} (h:u.ownsRow B e s v n xs) {g:Nat} (hg:u.grownBy u' (some g)) (hB:g<B):u'.ownsRow B e s v n xs:=by
 refine h.kept hg ?_
 cases hb:v.ownBlock with
 | none=>exact .inl rfl
 | some j =>
  have:=owns_ge h hb
  exact .inr (fun q=>by cases q;omega)
theorem Ls.lt {w u:World} {g n:Nat} {Z:List Int} (h:Ls w g n Z u):w.heap.size≤g∧g<u.heap.size:=by
 rcases h.own.2 with ⟨h1,_⟩ | ⟨g',cap,cur,h1,h2,h3,_⟩
 ·cases h1
 ·cases h1
  exact⟨h2,(Array.getElem?_eq_some_iff.1 h3).1⟩
end

section
open Go.RowKit
def pzV (xo:Option Addr) (nx xc:Nat) (yo:Option Addr) (ny yc:Nat) (c:Nat) (ko:Option Addr) (kc:Nat):Value:=.agg #[.slice xo nx xc,.slice yo ny yc,.int .i64 c,.slice ko nx kc]
structure Pz (W0:World) (g:Nat) (x y:List Int) (a b c d:Nat) (xo:Option Addr) (nx xc:Nat) (yo:Option Addr) (ny yc:Nat) (ko:Option Addr) (kc:Nat):Prop where
 eb:b=a+nx
 ed:d=c+ny
 bx:b≤x.length
 dy:d≤y.length
 hx:Holds W0 (.slice xo nx xc) nx (icells (sub x a b))
 hy:Holds W0 (.slice yo ny yc) ny (icells (sub y c d))
 hk:nx≤kc
 at':0<nx→ko=some ⟨g,a,none⟩
section
variable {W0:World} {g:Nat} {x y:List Int} {a b c d:Nat} {xo:Option Addr} {nx xc:Nat} {yo:Option Addr} {ny yc:Nat} {ko:Option Addr} {kc:Nat}
theorem Pz.from (h:Pz W0 g x y a b c d xo nx xc yo ny yc ko kc) {i j:Nat} (hi:i≤nx) (hj:j≤ny):Pz W0 g x y (a+i) b (c+j) d (slF xo xc i) (nx-i) (xc-i) (slF yo yc j) (ny-j) (yc-j) (slF ko kc i) (kc-i):=by
 have e1:=h.eb
 have e2:=h.ed
 have e3:=h.hk
 refine⟨by omega,by omega,h.bx,h.dy,?_,?_,by omega,fun h0=>?_⟩
 ·rw[← Zly]
  exact Zfh h.hx (by rw[Zlz x a b h.bx];omega) hi
 ·rw[← Zly]
  exact Zfh h.hy (by rw[Zlz y c d h.dy];omega) hj
 ·rw[h.at' (by omega),slF,if_neg (by omega),Option.map_some,add_none]
theorem Pz.to (h:Pz W0 g x y a b c d xo nx xc yo ny yc ko kc) {i j:Nat} (hi:i≤nx) (hj:j≤ny):Pz W0 g x y a (a+i) c (c+j) xo i xc yo j yc ko kc:=by
 have e1:=h.eb
 have e2:=h.ed
 have e3:=h.hk
 have e4:=h.bx
 have e5:=h.dy
 refine⟨rfl,rfl,by omega,by omega,?_,?_,by omega,fun h0=>h.at' (by omega)⟩
 ·rw[← ZlB x a b i (by omega)]
  exact Zfi h.hx (by rw[Zlz x a b h.bx];omega) hi
 ·rw[← ZlB y c d j (by omega)]
  exact Zfi h.hy (by rw[Zlz y c d h.dy];omega) hj
end
theorem Zan (xo:Option Addr) (nx xc:Nat) (yo:Option Addr) (ny yc c:Nat) (ko:Option Addr) (kc:Nat) (w:World) (r:Bool) (hr:Hid (r=decide (nx=0∨ny=0))) :
  Calls Tryz.prog 83 #[pzV xo nx xc yo ny yc c ko kc] w fun e w'=>e=.returned (.bool r)∧Below w.heap.size w w':=by
 unfold pzV
 by_cases h0:nx=0
 ·subst h0
  obtain rfl:r=true:=by rw[hr.out];simp
  clear hr
  go_enter Tryz.func83,Tryz.ntmps83
  go_wp2
  go_ret
  exact⟨rfl,(Below.refl _ w).alloc (Nat.le_refl _) _⟩
 ·have e1:decide ((nx:Int)=0)=false:=decide_eq_false (by omega)
  have e2:decide (nx=0)=false:=decide_eq_false (by omega)
  have e3:((nx:Int) == 0)=false:=by simp;omega
  by_cases h1:ny=0
  ·subst h1
   obtain rfl:r=true:=by rw[hr.out];simp
   clear hr h0
   go_enter Tryz.func83,Tryz.ntmps83
   go_wp2
   go_ret
   exact⟨rfl,(Below.refl _ w).alloc (Nat.le_refl _) _⟩
  ·have e4:decide ((ny:Int)=0)=false:=decide_eq_false (by omega)
   have e6:((ny:Int) == 0)=false:=by simp;omega
   have e5:decide (ny=0)=false:=decide_eq_false (by omega)
   obtain rfl:r=false:=by rw[hr.out];simp[h0,h1]
   clear hr h0 h1
   go_enter Tryz.func83,Tryz.ntmps83
   go_wp2
   go_ret
   exact⟨rfl,(Below.refl _ w).alloc (Nat.le_refl _) _⟩
theorem ZaV (xo:Option Addr) (nx xc:Nat) (yo:Option Addr) (ny yc c:Nat) (ko:Option Addr) (kc:Nat) (w:World) (i j:Nat) (hi:i≤nx) (hj:j≤ny) (hxc:nx≤xc) (hyc:ny≤yc) (hkc:nx≤kc) :
  Calls Tryz.prog 87 #[pzV xo nx xc yo ny yc c ko kc,.int .i64 (i:Int),.int .i64 (j:Int)] w fun e w'=>e=.returned (pzV xo i xc yo j yc c ko kc)∧Below w.heap.size w w':=by
 unfold pzV
 have r1:=ZkF xo nx xc i hi hxc
 have r2:=ZkF yo ny yc j hj hyc
 have r3:=ZkF ko nx kc i hi hkc
 clear hi hj hxc hyc hkc
 go_enter Tryz.func87,Tryz.ntmps87
 go_wp2
 go_region
 go_wp2
 have k2:=Zbq w (Obj.cells #[.slice xo nx xc,.slice yo ny yc,.int .i64 c,.slice ko nx kc] 127) (Obj.cells #[.slice xo i xc,.slice yo j yc,.int .i64 c,.slice ko i kc] 127)
 exact bodyPost_ret (v:=.agg #[.slice xo i xc,.slice yo j yc,.int .i64 c,.slice ko i kc]) (results_cell_row rfl _ _ (w.heap.size+1) 127 #[.slice xo i xc,.slice yo j yc,.int .i64 c,.slice ko i kc] (0,0) _ rfl k2 Tryz.underlying127 rfl (by kernel_rfl)) rfl ⟨rfl,(((Below.refl _ w).alloc (Nat.le_refl _) _).alloc (by simp) _).drew⟩
theorem Zar (xo:Option Addr) (nx xc:Nat) (yo:Option Addr) (ny yc c:Nat) (ko:Option Addr) (kc:Nat) (w:World) (i j:Nat) (hi:i≤nx) (hj:j≤ny) (hxc:nx≤xc) (hyc:ny≤yc) (hkc:nx≤kc) (hc:c+j≤1048576) :
  Calls Tryz.prog 88 #[pzV xo nx xc yo ny yc c ko kc,.int .i64 (i:Int),.int .i64 (j:Int)] w fun e w'=>e=.returned (pzV (slF xo xc i) (nx-i) (xc-i) (slF yo yc j) (ny-j) (yc-j) (c+j) (slF ko kc i) (kc-i))∧Below w.heap.size w w':=by
 unfold pzV
 have r1:=ZkE xo nx xc i hi hxc
 have r2:=ZkE yo ny yc j hj hyc
 have r3:=ZkE ko nx kc i hi hkc
 generalize slF xo xc i=xo' at *
 generalize slF yo yc j=yo' at *
 generalize slF ko kc i=ko' at *
 generalize nx-i=nx' at *
 generalize ny-j=ny' at *
 generalize xc-i=xc' at *
 generalize yc-j=yc' at *
 generalize kc-i=kc' at *
 obtain⟨c',hc'⟩:∃ c',c+j=c':=⟨_,rfl⟩
 have n1:(c:Int)+(j:Int)=(c':Int):=by omega
 rw[hc']
 clear hi hj hxc hyc hkc hc'
 go_enter Tryz.func88,Tryz.ntmps88
 go_wp2
 go_region
 go_wp2
 have k2:=Zbq w (Obj.cells #[.slice xo nx xc,.slice yo ny yc,.int .i64 c,.slice ko nx kc] 127) (Obj.cells #[.slice xo' nx' xc',.slice yo' ny' yc',.int .i64 c',.slice ko' nx' kc'] 127)
 exact bodyPost_ret (v:=.agg #[.slice xo' nx' xc',.slice yo' ny' yc',.int .i64 c',.slice ko' nx' kc']) (results_cell_row rfl _ _ (w.heap.size+1) 127 #[.slice xo' nx' xc',.slice yo' ny' yc',.int .i64 c',.slice ko' nx' kc'] (0,0) _ rfl k2 Tryz.underlying127 rfl (by kernel_rfl)) rfl ⟨rfl,(((Below.refl _ w).alloc (Nat.le_refl _) _).alloc (by simp) _).drew⟩
theorem Zei (a c k:Nat):fp a c (k+1)=fp a c k++[⟨(a+k:Nat),(c+k:Nat)⟩]:=by
 induction k generalizing a c with
 | zero=>simp[fp]
 | succ k ih =>
  rw[fp,ih (a+1) (c+1),fp]
  simp
  omega
def Qbx (u:World) (B:Nat) (v0 v1 v2 v3:Value):Prop:=u.heap[B]?=some (.cells #[v0,v1,v2,v3] 127 (0,0))
section
variable {u u':World} {B:Nat} {v0 v1 v2 v3:Value}
theorem Qbx.cells (h:Qbx u B v0 v1 v2 v3):u.cell? ⟨B,0,none⟩=some v0∧u.cell? ⟨B,1,none⟩=some v1∧u.cell? ⟨B,2,none⟩=some v2∧u.cell? ⟨B,3,none⟩=some v3:=by
 refine⟨?_,?_,?_,?_⟩<;>rw[Lib.cell_of_heap h]<;>rfl
theorem Qbx.frozen (h:Qbx u B v0 v1 v2 v3) (j:Nat):u.frozen? ⟨B,j,none⟩=false:=by
 unfold World.frozen?
 rw[h]
 rfl
theorem Qbx.lt (h:Qbx u B v0 v1 v2 v3):B<u.heap.size:=(Array.getElem?_eq_some_iff.1 h).1
theorem Qbx.keep (h:Qbx u B v0 v1 v2 v3) {r:Option Nat} (hg:u.grownBy u' r) (hr:some B≠r):Qbx u' B v0 v1 v2 v3:=(hg.block B h.lt hr).trans h
theorem Qbx.low (h:Qbx u B v0 v1 v2 v3) (hg:Below u.heap.size u u'):Qbx u' B v0 v1 v2 v3:=(hg.block B h.lt).trans h
theorem Qbx.drewN (h:Qbx u B v0 v1 v2 v3) (k:Nat):Qbx (u.drewN k) B v0 v1 v2 v3:=h
theorem Qbx.new (w:World) (v0 v1 v2 v3:Value):Qbx (w.alloc (.cells #[v0,v1,v2,v3] 127)) w.heap.size v0 v1 v2 v3:=_root_.Go.heap_alloc_new w _
theorem Qbx.put (h:Qbx u B v0 v1 v2 v3) (z0 z1 z2 z3:Value):Qbx ((((u.setCell ⟨B,0,none⟩ z0).setCell ⟨B,1,none⟩ z1).setCell ⟨B,2,none⟩ z2).setCell ⟨B,3,none⟩ z3) B z0 z1 z2 z3:=by
 have s1:=heap_setCell_same u B 0 _ _ z0 h
 have s2:=heap_setCell_same _ B 1 _ _ z1 s1
 have s3:=heap_setCell_same _ B 2 _ _ z2 s2
 exact heap_setCell_same _ B 3 _ _ z3 s3
end
theorem ZaD {W0:World} {g N:Nat} (K:List Int) (xo:Option Addr) (nx xc:Nat) (yo:Option Addr) (ny yc a c:Nat) (ko:Option Addr) (kc:Nat) (w:World) (i j n:Nat) (hS:Ls W0 g N K w) (hko:0<nx→ko=some ⟨g,a,none⟩) (haN:a+nx≤N) (hN:N≤1048576) (hin:i+n≤nx) (hc:c+j+n≤1048576) :
  Calls Tryz.prog 89 #[pzV xo nx xc yo ny yc c ko kc,.int .i64 (i:Int),.int .i64 (j:Int),.int .i64 (n:Int)] w fun e w'=>e=.returned (.tuple #[])∧Ls W0 g N (wrk K (fp (a+i) (c+j) n)) w'∧w.grownBy w' (some g):=by
 unfold pzV
 have hgw:=hS.lt
 have hS0:=hS.keep ((Below.refl _ w).alloc (Nat.le_refl _) (.cells #[.slice xo nx xc,.slice yo ny yc,.int .i64 c,.slice ko nx kc] 127))
 have hG0:=ZgY ((Below.refl _ w).alloc (Nat.le_refl _) (.cells #[.slice xo nx xc,.slice yo ny yc,.int .i64 c,.slice ko nx kc] 127)) (some g)
 have hQ0:=Qbx.new w (.slice xo nx xc) (.slice yo ny yc) (.int .i64 c) (.slice ko nx kc)
 go_enter Tryz.func89,Tryz.ntmps89
 go_wp2
 go_loopw [10] (fun iv wr=>∃ k:Nat,k≤n∧iv=.int .i64 k∧Ls W0 g N (wrk K (fp (a+i) (c+j) k)) wr∧w.grownBy wr (some g)∧Qbx wr w.heap.size (.slice xo nx xc) (.slice yo ny yc) (.int .i64 c) (.slice ko nx kc)) (fun iv _=>n-(intOf iv).toNat)
 case atStart=>exact⟨0,Nat.zero_le _,rfl,hS0,hG0,hQ0⟩
 case round =>
  clear hS0 hG0 hQ0 hS
  obtain⟨k,hk,rfl,hS,hG,hQ⟩:=hrel
  by_cases hlt:k<n
  ·obtain rfl:=hko (by omega)
   obtain⟨c0,c1,c2,c3⟩:=hQ.cells
   obtain⟨q,hq⟩:∃ q,i+k=q:=⟨_,rfl⟩
   obtain⟨z,hz⟩:∃ z,c+j+k=z:=⟨_,rfl⟩
   obtain⟨z',hz'⟩:∃ z,c+j=z:=⟨_,rfl⟩
   have n1:(i:Int)+(k:Int)=(q:Int):=by omega
   have n2:(c:Int)+(j:Int)=(z':Int):=by omega
   have n3:(z':Int)+(k:Int)=(z:Int):=by omega
   have i1:0≤(q:Int):=by omega
   have i2:(q:Int)<(nx:Int):=by omega
   have i3:(k:Int)<(n:Int):=by omega
   have hl:=hS.len
   have d0:=hS.at (List.getElem?_eq_getElem (i:=a+q) (by omega))
   have f0:=hS.own.frozenAt (a+q)
   have hS1:=hS.set (a+q) (z:Int)
   have hG1:w.grownBy (wr.setCell ⟨g,a+q,none⟩ (.int .i64 (z:Int))) (some g):=hG.trans (ZeH wr g (a+q) _)
   have hQ1:=hQ.keep (ZeH wr g (a+q) (.int .i64 (z:Int))) (by simp;omega)
   have HE:Hid ((wrk K (fp (a+i) (c+j) k)).set (a+q) (z:Int)=wrk K (fp (a+i) (c+j) (k+1))):=(by
    show _=_
    rw[Zei,Zoj,← hz,← hq]
    simp only[wrk,List.foldl_cons,List.foldl_nil]
    congr 1
    omega)
   generalize (wrk K (fp (a+i) (c+j) k))[a+q]=z0 at d0
   clear hl hq hz hz' hko
   go_wp2
   go_roundw
   case rel=>exact⟨k+1,by omega,by go_num,by rw[← HE.out];exact hS1,hG1,hQ1⟩
   case measure=>simp[intOf];omega
  ·obtain rfl:k=n:=by omega
   go_wp2
   go_end0
   exact⟨rfl,hS,hG⟩
end

section
open Go.RowKit
attribute [local simp] ZgX
def lenOf:Value→Nat | .slice _ n _=>n | _=>0
theorem ZgR {u:World} {B:Nat} {v0 v1 v2 v3:Value} (h:Qbx u B v0 v1 v2 v3) {op:Oper} (x:Operand) (ho:op.op=.load 127 x) {ev:Operand→Value} (hx:ev x=.pointer (some ⟨B,0,none⟩)) :
  (execOp ev op).run Tryz.prog u=.ok (.value (.agg #[v0,v1,v2,v3])) u:=by
 obtain⟨d0,d1,d2,d3⟩:=h.cells
 simp only[execOp,ho,hx]
 go_simp
theorem Zdr {u wr:World} {B:Nat} {xo:Option Addr} {nx xc:Nat} {yo:Option Addr} {ny yc c:Nat} {ko:Option Addr} {kc:Nat} {r:Bool} (h:Qbx u B (.slice xo nx xc) (.slice yo ny yc) (.int .i64 c) (.slice ko nx kc)∧Low wr u) (hr:Hid (r=decide (nx=0∨ny=0))∨False) :
  Calls Tryz.prog 83 #[.agg #[.slice xo nx xc,.slice yo ny yc,.int .i64 (c:Int),.slice ko nx kc]] u fun e w'=>e=.returned (.bool r)∧(Qbx w' B (.slice xo nx xc) (.slice yo ny yc) (.int .i64 c) (.slice ko nx kc)∧Low wr w'):=by
 refine (Zan xo nx xc yo ny yc c ko kc u r (hr.resolve_right id)).mono ?_
 rintro e w' ⟨rfl,hb⟩
 exact⟨rfl,h.1.low hb,Below.trans h.2 (hb.mono (Below.size h.2))⟩
theorem Zao (xo:Option Addr) (nx xc:Nat) (yo:Option Addr) (ny yc c:Nat) (ko:Option Addr) (kc:Nat) (u W:World) (r:Bool) (hr:Hid (r=decide (nx=0∨ny=0))) (hL:Low W u) :
  Calls Tryz.prog 83 #[.agg #[.slice xo nx xc,.slice yo ny yc,.int .i64 (c:Int),.slice ko nx kc]] u fun e w'=>e=.returned (.bool r)∧Low W w':=by
 refine (Zan xo nx xc yo ny yc c ko kc u r hr).mono ?_
 rintro e w' ⟨rfl,hb⟩
 exact⟨rfl,Below.trans hL (hb.mono (Below.size hL))⟩
theorem ZaB {W0:World} {g N:Nat} (K:List Int) (xo:Option Addr) (nx xc:Nat) (yo:Option Addr) (ny yc a c:Nat) (ko:Option Addr) (kc:Nat) (w:World) (hS:Ls W0 g N K w) (hko:0<nx→ko=some ⟨g,a,none⟩) (haN:a+nx≤N) (hN:N≤1048576) (hin:1≤nx) (hc:c+1≤1048576) :
  Calls Tryz.prog 89 #[.agg #[.slice xo nx xc,.slice yo ny yc,.int .i64 (c:Int),.slice ko nx kc],.int .i64 0,.int .i64 0,.int .i64 1] w fun e w'=>e=.returned (.tuple #[])∧Ls W0 g N (wrk K (fp a c 1)) w'∧w.grownBy w' (some g) :=
 ZaD K xo nx xc yo ny yc a c ko kc w 0 0 1 hS hko haN hN (by omega) (by omega)
theorem ZaC {W0:World} {g N:Nat} (K:List Int) (xo:Option Addr) (nx xc:Nat) (yo:Option Addr) (ny yc a c:Nat) (ko:Option Addr) (kc:Nat) (w:World) (i j:Nat) (hS:Ls W0 g N K w) (hko:0<nx→ko=some ⟨g,a,none⟩) (haN:a+nx≤N) (hN:N≤1048576) (hin:i+1≤nx) (hc:c+j+1≤1048576) :
  Calls Tryz.prog 89 #[.agg #[.slice xo nx xc,.slice yo ny yc,.int .i64 (c:Int),.slice ko nx kc],.int .i64 (i:Int),.int .i64 (j:Int),.int .i64 1] w fun e w'=>e=.returned (.tuple #[])∧Ls W0 g N (wrk K (fp (a+i) (c+j) 1)) w'∧w.grownBy w' (some g) :=
 ZaD K xo nx xc yo ny yc a c ko kc w i j 1 hS hko haN hN (by omega) (by omega)
theorem Zaq (xo:Option Addr) (nx xc:Nat) (yo:Option Addr) (ny yc c:Nat) (ko:Option Addr) (kc:Nat) (w:World) (hi:1≤nx) (hj:1≤ny) (hxc:nx≤xc) (hyc:ny≤yc) (hkc:nx≤kc) (hc:c+1≤1048576) :
  Calls Tryz.prog 88 #[.agg #[.slice xo nx xc,.slice yo ny yc,.int .i64 (c:Int),.slice ko nx kc],.int .i64 1,.int .i64 1] w fun e w'=>e=.returned (pzV (slF xo xc 1) (nx-1) (xc-1) (slF yo yc 1) (ny-1) (yc-1) (c+1) (slF ko kc 1) (kc-1))∧Below w.heap.size w w' :=
 Zar xo nx xc yo ny yc c ko kc w 1 1 hi hj hxc hyc hkc hc
structure Ke (W0 w:World) (g:Nat) (x y K:List Int) (a b c d:Nat) (xo:Option Addr) (nx xc:Nat) (yo:Option Addr) (ny yc:Nat) (ko:Option Addr) (kc:Nat) (u:World):Prop where
 pz:Pz W0 g x y a b c d xo nx xc yo ny yc ko kc
 ls:Ls W0 g x.length K u
 box:Qbx u w.heap.size (.slice xo nx xc) (.slice yo ny yc) (.int .i64 c) (.slice ko nx kc)
 res:Qbx u (w.heap.size+1) (.slice none 0 0) (.slice none 0 0) (.int .i64 0) (.slice none 0 0)
 gr:w.grownBy u (some g)
section
variable {W0 w:World} {g:Nat} {x y K:List Int} {a b c d:Nat} {xo:Option Addr} {nx xc:Nat} {yo:Option Addr} {ny yc:Nat} {ko:Option Addr} {kc:Nat} {u u':World}
theorem Ke.low (h:Ke W0 w g x y K a b c d xo nx xc yo ny yc ko kc u) (hb:Below u.heap.size u u'):Ke W0 w g x y K a b c d xo nx xc yo ny yc ko kc u' :=
 ⟨h.pz,h.ls.keep hb,h.box.low hb,h.res.low hb,h.gr.trans (ZgY hb _)⟩
theorem Ke.kept (h:Ke W0 w g x y K a b c d xo nx xc yo ny yc ko kc u) (hw:g<w.heap.size) {K':List Int} (hl:Ls W0 g x.length K' u') (hg:u.grownBy u' (some g)):Ke W0 w g x y K' a b c d xo nx xc yo ny yc ko kc u' :=
 ⟨h.pz,hl,h.box.keep hg (by simp;omega),h.res.keep hg (by simp;omega),h.gr.trans hg⟩
theorem Ke.put (h:Ke W0 w g x y K a b c d xo nx xc yo ny yc ko kc u) (hw:g<w.heap.size) {a' b' c' d':Nat} {xo':Option Addr} {nx' xc':Nat} {yo':Option Addr} {ny' yc':Nat} {ko':Option Addr} {kc':Nat} (hp:Pz W0 g x y a' b' c' d' xo' nx' xc' yo' ny' yc' ko' kc') :
  Ke W0 w g x y K a' b' c' d' xo' nx' xc' yo' ny' yc' ko' kc' ((((u.setCell ⟨w.heap.size,0,none⟩ (.slice xo' nx' xc')).setCell ⟨w.heap.size,1,none⟩ (.slice yo' ny' yc')).setCell ⟨w.heap.size,2,none⟩ (.int .i64 (c':Int))).setCell ⟨w.heap.size,3,none⟩ (.slice ko' nx' kc')):=by
 have hg:=h.ls.lt
 have hW:=h.ls.low.size
 have hs:=h.gr.size
 refine⟨hp,?_,h.box.put _ _ _ _,?_,?_⟩
 ·exact Zhe (Zhe (Zhe (Zhe h.ls (by omega) (by omega) _ _) (by omega) (by omega) _ _) (by omega) (by omega) _ _) (by omega) (by omega) _ _
 ·refine (heap_setCell_other _ _ _ _ (by simp)).trans ((heap_setCell_other _ _ _ _ (by simp)).trans ((heap_setCell_other _ _ _ _ (by simp)).trans ((heap_setCell_other _ _ _ _ (by simp)).trans h.res)))
 ·exact ZeG (ZeG (ZeG (ZeG h.gr (Nat.le_refl _) _ _) (Nat.le_refl _) _ _) (Nat.le_refl _) _ _) (Nat.le_refl _) _ _
end
theorem Zaz (x y:List Int) (W0 w:World) (g:Nat) (K:List Int) (a b c d:Nat) (xo:Option Addr) (nx xc:Nat) (yo:Option Addr) (ny yc:Nat) (ko:Option Addr) (kc:Nat) (hp:Pz W0 g x y a b c d xo nx xc yo ny yc ko kc) (hxl:x.length≤4096) (hyl:y.length≤4096) (hS:Ls W0 g x.length K w) :
  Calls Tryz.prog 82 #[pzV xo nx xc yo ny yc c ko kc] w fun e w'=>∃ (k m:Nat) (xo':Option Addr) (nx' xc':Nat) (yo':Option Addr) (ny' yc':Nat) (ko':Option Addr) (kc':Nat),k=tf x y a b c d∧m=tb x y (a+k) b (c+k) d∧e=.returned (pzV xo' nx' xc' yo' ny' yc' (c+k) ko' kc')∧Pz W0 g x y (a+k) (b-m) (c+k) (d-m) xo' nx' xc' yo' ny' yc' ko' kc'∧Ls W0 g x.length (wrk K (fp a c k++bp b d m)) w'∧w.grownBy w' (some g):=by
 obtain⟨k,hk⟩:∃ k,tf x y a b c d=k:=⟨_,rfl⟩
 obtain⟨m,hm⟩:∃ m,tb x y (a+k) b (c+k) d=m:=⟨_,rfl⟩
 obtain⟨KF,hKF⟩:∃ KF,wrk K (fp a c k)=KF:=⟨_,rfl⟩
 obtain⟨A1,hA1⟩:∃ A1,a+k=A1:=⟨_,rfl⟩
 obtain⟨C1,hC1⟩:∃ C1,c+k=C1:=⟨_,rfl⟩
 have HK:Hid (a+tf x y a b c d=A1∧c+tf x y a b c d=C1∧wrk K (fp a c (tf x y a b c d))=KF):=⟨by rw[hk,hA1],by rw[hk,hC1],by rw[hk,hKF]⟩
 have HM:Hid (tb x y A1 b C1 d=m):=(by rw[hA1,hC1] at hm;exact hm)
 have HFin:Hid (k=tf x y a b c d∧m=tb x y (a+k) b (c+k) d∧A1=a+k∧C1=c+k∧wrk KF (bp b d m)=wrk K (fp a c k++bp b d m)):=⟨hk.symm,hm.symm,hA1.symm,hC1.symm,by rw[Zoj,hKF]⟩
 have hml:m≤b-A1∧m≤d-C1:=by rw[← HM.out];exact ZlD x y A1 b C1 d
 clear hk hm hKF hA1 hC1
 have hgw:=hS.lt.2
 have hT0:Ke W0 w g x y K a b c d xo nx xc yo ny yc ko kc ((w.alloc (.cells #[.slice xo nx xc,.slice yo ny yc,.int .i64 c,.slice ko nx kc] 127)).alloc (.cells #[.slice none 0 0,.slice none 0 0,.int .i64 0,.slice none 0 0] 127)) :=
  ⟨hp,hS.keep (((Below.refl _ w).alloc (Nat.le_refl _) _).alloc (by simp) _),(Below.heap_alloc _ _ _ (by simp)).trans (_root_.Go.heap_alloc_new w _),Zbq w _ _,ZgY (((Below.refl _ w).alloc (Nat.le_refl _) _).alloc (by simp) _) _⟩
 unfold pzV
 go_enter Tryz.func82,Tryz.ntmps82
 go_wp2
 go_loopw [] (fun wr=>∃ (a' c':Nat) (K':List Int) (xo:Option Addr) (nx xc:Nat) (yo:Option Addr) (ny yc:Nat) (ko:Option Addr) (kc:Nat),Ke W0 w g x y K' a' b c' d xo nx xc yo ny yc ko kc wr∧Hid (a'+tf x y a' b c' d=A1∧c'+tf x y a' b c' d=C1∧wrk K' (fp a' c' (tf x y a' b c' d))=KF)) (fun wr=>lenOf ((wr.cell? ⟨w.heap.size,0,none⟩).getD undef))
 case atStart=>exact⟨a,c,K,xo,nx,xc,yo,ny,yc,ko,kc,hT0,HK⟩
 case round =>
  clear hT0 HK hS hp
  obtain⟨a',c',K',xo,nx,xc,yo,ny,yc,ko,kc,hT,HV⟩:=hrel
  have hQ:=hT.box
  obtain⟨c0,c1,c2,c3⟩:=hQ.cells
  have hb:=hT.pz.eb
  have hd:=hT.pz.ed
  have hbx:=hT.pz.bx
  have hdy:=hT.pz.dy
  obtain⟨r,hr⟩:∃ r,decide (a'<b∧c'<d∧x[a']?=y[c']?)=r:=⟨_,rfl⟩
  have HRr:Hid (decide (a'<b∧c'<d∧x[a']?=y[c']?)=r):=hr
  clear hr
  have hlow:=hT.ls.low
  go_wp2_with fail
  go_cut [18] from 5 to 22 (fun z wz=>z=.bool r∧Low wr wz)
  case first =>
   by_cases he:nx=0∨ny=0
   ·obtain rfl:r=false:=by rw[← HRr.out];simp;intro h1 h2;omega
    have HE:Hid (true=decide (nx=0∨ny=0)):=(decide_eq_true he).symm
    clear HRr
    refine wp_region_noPanic ?_
    refine wp_region_held_drew (S:=fun u=>Qbx u w.heap.size (.slice xo nx xc) (.slice yo ny yc) (.int .i64 (c':Int)) (.slice ko nx kc)∧Low wr u) (by kernel_rfl) ⟨hQ.drewN 1,Below.dN (Below.refl _ wr) 1⟩ (fun hHeld=>?_)
    refine Y_t 0 5 _ (.agg #[.slice xo nx xc,.slice yo ny yc,.int .i64 (c':Int),.slice ko nx kc]) rfl (Or.inl ⟨by kernel_rfl,fun u hu=>ZgR hu.1 (.tmp 1) (by kernel_rfl) (by kernel_rfl)⟩) hHeld ?_
    simp only[Act.put,Y_a,Y_b,Y_c]
    refine Zex 1 6 _ rfl (by kernel_rfl) (by kernel_rfl) (by kernel_rfl) 83 #[.tmp 5] #[127] (by kernel_rfl) #[.agg #[.slice xo nx xc,.slice yo ny yc,.int .i64 (c':Int),.slice ko nx kc]] (by kernel_rfl) (enters_of Tryz.func83 (by kernel_rfl) rfl) (.bool true) (Zdr hHeld (.inl HE)) (fun u hHeld=>?_)
    simp only[Act.put,Y_a,Y_b,Y_c]
    refine Y_t 2 7 _ (.bool false) rfl (Or.inl ⟨by kernel_rfl,fun u hu=>by kernel_rfl⟩) hHeld ?_
    simp only[Act.put,Y_a,Y_b,Y_c]
    refine Y_t 3 8 _ (.bool false) rfl (Or.inl ⟨by kernel_rfl,fun u hu=>by kernel_rfl⟩) hHeld ?_
    simp only[Act.put,Y_a,Y_b,Y_c]
    refine Y_t 4 9 _ undef rfl (Or.inr ⟨by kernel_rfl,rfl⟩) hHeld ?_
    simp only[Act.put,Y_a,Y_b,Y_c]
    refine Y_t 5 10 _ undef rfl (Or.inr ⟨by kernel_rfl,rfl⟩) hHeld ?_
    simp only[Act.put,Y_a,Y_b,Y_c]
    refine Y_t 6 11 _ undef rfl (Or.inr ⟨by kernel_rfl,rfl⟩) hHeld ?_
    simp only[Act.put,Y_a,Y_b,Y_c]
    refine Y_t 7 12 _ undef rfl (Or.inr ⟨by kernel_rfl,rfl⟩) hHeld ?_
    simp only[Act.put,Y_a,Y_b,Y_c]
    refine Y_t 8 13 _ undef rfl (Or.inr ⟨by kernel_rfl,rfl⟩) hHeld ?_
    simp only[Act.put,Y_a,Y_b,Y_c]
    refine Y_t 9 14 _ undef rfl (Or.inr ⟨by kernel_rfl,rfl⟩) hHeld ?_
    simp only[Act.put,Y_a,Y_b,Y_c]
    refine Y_t 10 15 _ undef rfl (Or.inr ⟨by kernel_rfl,rfl⟩) hHeld ?_
    simp only[Act.put,Y_a,Y_b,Y_c]
    refine Y_t 11 16 _ undef rfl (Or.inr ⟨by kernel_rfl,rfl⟩) hHeld ?_
    simp only[Act.put,Y_a,Y_b,Y_c]
    refine Y_t 12 17 _ undef rfl (Or.inr ⟨by kernel_rfl,rfl⟩) hHeld ?_
    simp only[Act.put,Y_a,Y_b,Y_c]
    refine Y_t 13 18 _ (.bool false) rfl (Or.inl ⟨by kernel_rfl,fun u hu=>by kernel_rfl⟩) hHeld ?_
    simp only[Act.put,Y_a,Y_b,Y_c]
    refine wpAnyH_done (by kernel_rfl) ?_ _
    refine NoPanic.normal ?_
    go_wp2_with fail
    go_meet
    case rel=>exact⟨rfl,hHeld.2⟩
   ·have h1:0<nx:=by omega
    have h2:0<ny:=by omega
    obtain⟨xb,xf,xcc,hxe,hxb,hcx⟩:=Holds.at (Holds.keep hT.pz.hx (fun q hq=>hlow.block q hq)) (by rw[icells_length,Zlz x a' b hbx];omega)
    obtain⟨yb,yf,ycc,hye,hyb,hcy⟩:=Holds.at (Holds.keep hT.pz.hy (fun q hq=>hlow.block q hq)) (by rw[icells_length,Zlz y c' d hdy];omega)
    cases hxe
    cases hye
    have x0:=hcx 0 (by rw[icells_length,Zlz x a' b hbx];omega)
    have y0:=hcy 0 (by rw[icells_length,Zlz y c' d hdy];omega)
    obtain⟨zx,hzx⟩:∃ z,(sub x a' b)[0]?=some z:=⟨_,List.getElem?_eq_getElem (by rw[Zlz x a' b hbx];omega)⟩
    obtain⟨zy,hzy⟩:∃ z,(sub y c' d)[0]?=some z:=⟨_,List.getElem?_eq_getElem (by rw[Zlz y c' d hdy];omega)⟩
    have x1:wr.cell? ⟨xb,xf,none⟩=some (.int .i64 zx):=by
     rw[Nat.add_zero] at x0
     rw[x0]
     have:=hzx
     rw[List.getElem?_eq_getElem (by rw[Zlz x a' b hbx];omega)] at this
     simp[icells,Option.some.inj this]
    have y1:wr.cell? ⟨yb,yf,none⟩=some (.int .i64 zy):=by
     rw[Nat.add_zero] at y0
     rw[y0]
     have:=hzy
     rw[List.getElem?_eq_getElem (by rw[Zlz y c' d hdy];omega)] at this
     simp[icells,Option.some.inj this]
    have e3:(zx == zy)=r:=by
     rw[← HRr.out,show x[a']?=some zx from (ZlA hzx).2,show y[c']?=some zy from (ZlA hzy).2]
     have q1:a'<b:=by omega
     have q2:c'<d:=by omega
     by_cases q:zx=zy<;>simp[q1,q2,q]
    have HE:Hid (false=decide (nx=0∨ny=0)):=(decide_eq_false he).symm
    have i1:(0:Int)<(nx:Int):=by omega
    have i2:(0:Int)<(ny:Int):=by omega
    have hcs:∀ u:World,Low wr u→u.cell? ⟨w.heap.size,0,none⟩=some (.slice (some ⟨xb,xf,none⟩) nx xc)∧u.cell? ⟨w.heap.size,1,none⟩=some (.slice (some ⟨yb,yf,none⟩) ny yc)∧u.cell? ⟨w.heap.size,2,none⟩=some (.int .i64 (c':Int))∧u.cell? ⟨w.heap.size,3,none⟩=some (.slice ko nx kc)∧u.cell? ⟨xb,xf,none⟩=some (.int .i64 zx)∧u.cell? ⟨yb,yf,none⟩=some (.int .i64 zy):=fun u hu=>by
     obtain⟨d0,d1,d2,d3⟩:=(hQ.low hu).cells
     exact⟨d0,d1,d2,d3,Zcb hu x1,Zcb hu y1⟩
    have hLw:Low wr wr:=Below.refl _ _
    clear x0 y0 hcx hcy hzx hzy HRr hxb hyb
    go_region_held3 (fun u=>u.cell? ⟨w.heap.size,0,none⟩=some (.slice (some ⟨xb,xf,none⟩) nx xc)∧u.cell? ⟨w.heap.size,1,none⟩=some (.slice (some ⟨yb,yf,none⟩) ny yc)∧u.cell? ⟨w.heap.size,2,none⟩=some (.int .i64 (c':Int))∧u.cell? ⟨w.heap.size,3,none⟩=some (.slice ko nx kc)∧u.cell? ⟨xb,xf,none⟩=some (.int .i64 zx)∧u.cell? ⟨yb,yf,none⟩=some (.int .i64 zy)∧Low wr u) (go_keep)
     (first | (go_at_call 83;refine (Zao (some ⟨xb,xf,none⟩) nx xc (some ⟨yb,yf,none⟩) ny yc c' ko kc _ wr false HE (by first | assumption | (simp[*];done))).mono ?_;rintro e wd ⟨rfl,hlw⟩;obtain⟨g0,g1,g2,g3,g4,g5⟩:=hcs wd hlw))
    go_wp2
    go_meet
    case rel=>exact⟨rfl,by first | assumption | (simp[*];done)⟩
  case rest =>
   obtain⟨rfl,hLz⟩:=hcut
   have hTz:=hT.low hLz
   have cw:=c0
   clear c0 c1 c2 c3 hT hlow hQ hLz
   generalize wc=u0 at hTz ⊢
   obtain⟨c0,c1,c2,c3⟩:=hTz.box.cells
   cases r with
   | true =>
    have hh:=of_decide_eq_true HRr.out
    obtain⟨h1,h2,h3⟩:=hh
    have HV2:Hid (a'+1+tf x y (a'+1) b (c'+1) d=A1∧c'+1+tf x y (a'+1) b (c'+1) d=C1∧wrk (wrk K' (fp a' c' 1)) (fp (a'+1) (c'+1) (tf x y (a'+1) b (c'+1) d))=KF):=(by
     have:=HV.out
     rw[ZlF,if_pos ⟨h1,h2,h3⟩] at this
     obtain⟨q1,q2,q3⟩:=this
     refine⟨by omega,by omega,?_⟩
     rw[← q3,← Zoj]
     rfl)
    clear HV HRr h3
    have hkk:=hTz.pz.hk
    have hxk:=Zfg hTz.pz.hx
    have hyk:=Zfg hTz.pz.hy
    go_wp2_with fail
    refine (ZaB K' xo nx xc yo ny yc a' c' ko kc u0 hTz.ls hTz.pz.at' (by omega) (by omega) (by omega) (by omega)).mono ?_
    rintro e u1 ⟨rfl,hS1,hG1⟩
    have hT1:=hTz.kept hgw hS1 hG1
    clear hTz c0 c1 c2 c3 hS1 hG1
    obtain⟨c0,c1,c2,c3⟩:=hT1.box.cells
    go_wp2_with fail
    refine (Zaq xo nx xc yo ny yc c' ko kc u1 (by omega) (by omega) hxk hyk hkk (by omega)).mono ?_
    rintro e u2 ⟨rfl,hB2⟩
    have hT2:=hT1.low hB2
    clear hT1 c0 c1 c2 c3 hB2
    obtain⟨c0,c1,c2,c3⟩:=hT2.box.cells
    have f0:=hT2.box.frozen
    have hT3:=hT2.put hgw (hT2.pz.from (i:=1) (j:=1) (by omega) (by omega))
    unfold pzV
    go_wp2
    go_roundw
    case rel=>exact⟨a'+1,c'+1,_,_,_,_,_,_,_,_,_,hT3,HV2⟩
    case measure =>
     refine Nat.lt_of_le_of_lt (Nat.le_of_eq (congrArg (fun o=>lenOf (Option.getD o undef)) hT3.box.cells.1)) ?_
     rw[cw]
     simp[lenOf]
     omega
   | false =>
    have hh:=of_decide_eq_false HRr.out
    have hz:tf x y a' b c' d=0:=by rw[ZlF,if_neg hh]
    obtain⟨q1,q2,q3⟩:=HV.out
    rw[hz] at q1 q2 q3
    obtain rfl:A1=a':=by omega
    obtain rfl:C1=c':=by omega
    have q4:KF=K':=q3.symm
    subst q4
    clear hh hz q1 q2 q3 HV HRr cw c0 c1 c2 c3 hb hd hbx hdy
    have HM0:Hid (b-tb x y A1 b C1 d=b-m∧d-tb x y A1 b C1 d=d-m∧wrk KF (bp b d (tb x y A1 b C1 d))=wrk KF (bp b d m)):=(by rw[HM.out];exact⟨rfl,rfl,rfl⟩)
    go_wp2
    go_loopw [] (fun wr=>∃ (b' d':Nat) (K2:List Int) (xo:Option Addr) (nx xc:Nat) (yo:Option Addr) (ny yc:Nat) (ko:Option Addr) (kc:Nat),Ke W0 w g x y K2 A1 b' C1 d' xo nx xc yo ny yc ko kc wr∧Hid (b'-tb x y A1 b' C1 d'=b-m∧d'-tb x y A1 b' C1 d'=d-m∧wrk K2 (bp b' d' (tb x y A1 b' C1 d'))=wrk KF (bp b d m))) (fun wr=>lenOf ((wr.cell? ⟨w.heap.size,0,none⟩).getD undef))
    case atStart=>exact⟨b,d,KF,xo,nx,xc,yo,ny,yc,ko,kc,hTz,HM0⟩
    case round =>
     clear hTz HM0
     obtain⟨b',d',K2,xo,nx,xc,yo,ny,yc,ko,kc,hT,HV⟩:=hrel
     have hQ:=hT.box
     obtain⟨c0,c1,c2,c3⟩:=hQ.cells
     have hb:=hT.pz.eb
     have hd:=hT.pz.ed
     have hbx:=hT.pz.bx
     have hdy:=hT.pz.dy
     obtain⟨r,hr⟩:∃ r,decide (A1<b'∧C1<d'∧x[b'-1]?=y[d'-1]?)=r:=⟨_,rfl⟩
     have HRr:Hid (decide (A1<b'∧C1<d'∧x[b'-1]?=y[d'-1]?)=r):=hr
     clear hr
     have hlow:=hT.ls.low
     go_wp2_with fail
     go_cut [44] from 23 to 60 (fun z wz=>z=.bool r∧Low wr wz)
     case first =>
      by_cases he:nx=0∨ny=0
      ·obtain rfl:r=false:=by rw[← HRr.out];simp;intro h1 h2;omega
       have HE:Hid (true=decide (nx=0∨ny=0)):=(decide_eq_true he).symm
       clear HRr
       refine wp_region_noPanic ?_
       refine wp_region_held_drew (S:=fun u=>Qbx u w.heap.size (.slice xo nx xc) (.slice yo ny yc) (.int .i64 (C1:Int)) (.slice ko nx kc)∧Low wr u) (by kernel_rfl) ⟨hQ.drewN 1,Below.dN (Below.refl _ wr) 1⟩ (fun hHeld=>?_)
       refine Y_t 0 23 _ (.agg #[.slice xo nx xc,.slice yo ny yc,.int .i64 (C1:Int),.slice ko nx kc]) rfl (Or.inl ⟨by kernel_rfl,fun u hu=>ZgR hu.1 (.tmp 1) (by kernel_rfl) (by kernel_rfl)⟩) hHeld ?_
       simp only[Act.put,Y_a,Y_b,Y_c]
       refine Zex 1 24 _ rfl (by kernel_rfl) (by kernel_rfl) (by kernel_rfl) 83 #[.tmp 23] #[127] (by kernel_rfl) #[.agg #[.slice xo nx xc,.slice yo ny yc,.int .i64 (C1:Int),.slice ko nx kc]] (by kernel_rfl) (enters_of Tryz.func83 (by kernel_rfl) rfl) (.bool true) (Zdr hHeld (.inl HE)) (fun u hHeld=>?_)
       simp only[Act.put,Y_a,Y_b,Y_c]
       refine Y_t 2 25 _ (.bool false) rfl (Or.inl ⟨by kernel_rfl,fun u hu=>by kernel_rfl⟩) hHeld ?_
       simp only[Act.put,Y_a,Y_b,Y_c]
       refine Y_t 3 26 _ (.bool false) rfl (Or.inl ⟨by kernel_rfl,fun u hu=>by kernel_rfl⟩) hHeld ?_
       simp only[Act.put,Y_a,Y_b,Y_c]
       refine Y_t 4 27 _ undef rfl (Or.inr ⟨by kernel_rfl,rfl⟩) hHeld ?_
       simp only[Act.put,Y_a,Y_b,Y_c]
       refine Y_t 5 28 _ undef rfl (Or.inr ⟨by kernel_rfl,rfl⟩) hHeld ?_
       simp only[Act.put,Y_a,Y_b,Y_c]
       refine Y_t 6 29 _ undef rfl (Or.inr ⟨by kernel_rfl,rfl⟩) hHeld ?_
       simp only[Act.put,Y_a,Y_b,Y_c]
       refine Y_t 7 30 _ undef rfl (Or.inr ⟨by kernel_rfl,rfl⟩) hHeld ?_
       simp only[Act.put,Y_a,Y_b,Y_c]
       refine Y_t 8 31 _ undef rfl (Or.inr ⟨by kernel_rfl,rfl⟩) hHeld ?_
       simp only[Act.put,Y_a,Y_b,Y_c]
       refine Y_t 9 32 _ undef rfl (Or.inr ⟨by kernel_rfl,rfl⟩) hHeld ?_
       simp only[Act.put,Y_a,Y_b,Y_c]
       refine Y_t 10 33 _ undef rfl (Or.inr ⟨by kernel_rfl,rfl⟩) hHeld ?_
       simp only[Act.put,Y_a,Y_b,Y_c]
       refine Y_t 11 34 _ undef rfl (Or.inr ⟨by kernel_rfl,rfl⟩) hHeld ?_
       simp only[Act.put,Y_a,Y_b,Y_c]
       refine Y_t 12 35 _ undef rfl (Or.inr ⟨by kernel_rfl,rfl⟩) hHeld ?_
       simp only[Act.put,Y_a,Y_b,Y_c]
       refine Y_t 13 36 _ undef rfl (Or.inr ⟨by kernel_rfl,rfl⟩) hHeld ?_
       simp only[Act.put,Y_a,Y_b,Y_c]
       refine Y_t 14 37 _ undef rfl (Or.inr ⟨by kernel_rfl,rfl⟩) hHeld ?_
       simp only[Act.put,Y_a,Y_b,Y_c]
       refine Y_t 15 38 _ undef rfl (Or.inr ⟨by kernel_rfl,rfl⟩) hHeld ?_
       simp only[Act.put,Y_a,Y_b,Y_c]
       refine Y_t 16 39 _ undef rfl (Or.inr ⟨by kernel_rfl,rfl⟩) hHeld ?_
       simp only[Act.put,Y_a,Y_b,Y_c]
       refine Y_t 17 40 _ undef rfl (Or.inr ⟨by kernel_rfl,rfl⟩) hHeld ?_
       simp only[Act.put,Y_a,Y_b,Y_c]
       refine Y_t 18 41 _ undef rfl (Or.inr ⟨by kernel_rfl,rfl⟩) hHeld ?_
       simp only[Act.put,Y_a,Y_b,Y_c]
       refine Y_t 19 42 _ undef rfl (Or.inr ⟨by kernel_rfl,rfl⟩) hHeld ?_
       simp only[Act.put,Y_a,Y_b,Y_c]
       refine Y_t 20 43 _ undef rfl (Or.inr ⟨by kernel_rfl,rfl⟩) hHeld ?_
       simp only[Act.put,Y_a,Y_b,Y_c]
       refine Y_t 21 44 _ (.bool false) rfl (Or.inl ⟨by kernel_rfl,fun u hu=>by kernel_rfl⟩) hHeld ?_
       simp only[Act.put,Y_a,Y_b,Y_c]
       refine wpAnyH_done (by kernel_rfl) ?_ _
       refine NoPanic.normal ?_
       go_wp2_with fail
       go_meet
       case rel=>exact⟨rfl,hHeld.2⟩
      ·obtain⟨px,rfl⟩:∃ q,nx=q+1:=⟨nx-1,by omega⟩
       obtain⟨py,rfl⟩:∃ q,ny=q+1:=⟨ny-1,by omega⟩
       obtain⟨xb,xf,xcc,hxe,hxb,hcx⟩:=Holds.at (Holds.keep hT.pz.hx (fun q hq=>hlow.block q hq)) (by rw[icells_length,Zlz x A1 b' hbx];omega)
       obtain⟨yb,yf,ycc,hye,hyb,hcy⟩:=Holds.at (Holds.keep hT.pz.hy (fun q hq=>hlow.block q hq)) (by rw[icells_length,Zlz y C1 d' hdy];omega)
       cases hxe
       cases hye
       have x0:=hcx px (by rw[icells_length,Zlz x A1 b' hbx];omega)
       have y0:=hcy py (by rw[icells_length,Zlz y C1 d' hdy];omega)
       obtain⟨zx,hzx⟩:∃ z,(sub x A1 b')[px]?=some z:=⟨_,List.getElem?_eq_getElem (by rw[Zlz x A1 b' hbx];omega)⟩
       obtain⟨zy,hzy⟩:∃ z,(sub y C1 d')[py]?=some z:=⟨_,List.getElem?_eq_getElem (by rw[Zlz y C1 d' hdy];omega)⟩
       have x1:wr.cell? ⟨xb,xf+px,none⟩=some (.int .i64 zx):=by
        rw[x0]
        have:=hzx
        rw[List.getElem?_eq_getElem (by rw[Zlz x A1 b' hbx];omega)] at this
        simp[icells,Option.some.inj this]
       have y1:wr.cell? ⟨yb,yf+py,none⟩=some (.int .i64 zy):=by
        rw[y0]
        have:=hzy
        rw[List.getElem?_eq_getElem (by rw[Zlz y C1 d' hdy];omega)] at this
        simp[icells,Option.some.inj this]
       have e3:(zx == zy)=r:=by
        have q3:=(ZlA hzx).2
        have q4:=(ZlA hzy).2
        rw[← HRr.out,show b'-1=A1+px by omega,show d'-1=C1+py by omega,q3,q4]
        have q1:A1<b':=by omega
        have q2:C1<d':=by omega
        by_cases q:zx=zy<;>simp[q1,q2,q]
       have HE:Hid (false=decide (px+1=0∨py+1=0)):=(decide_eq_false (by omega)).symm
       have i1:(px:Int)<((px+1:Nat):Int):=by omega
       have i2:(py:Int)<((py+1:Nat):Int):=by omega
       have i1':(px:Int)<(px:Int)+1:=by omega
       have i2':(py:Int)<(py:Int)+1:=by omega
       have i3:0≤(px:Int):=by omega
       have i4:0≤(py:Int):=by omega
       have n1:IntKind.i64.wrap ((px:Int)+1-1)=(px:Int):=by rw[IntKind.wrap_i64];omega
       have n2:IntKind.i64.wrap ((py:Int)+1-1)=(py:Int):=by rw[IntKind.wrap_i64];omega
       have n3:IntKind.i64.wrap (px:Int)=(px:Int):=by rw[IntKind.wrap_i64];omega
       have n4:IntKind.i64.wrap (py:Int)=(py:Int):=by rw[IntKind.wrap_i64];omega
       have n5:(px:Int)+1-1=(px:Int):=by omega
       have n6:(py:Int)+1-1=(py:Int):=by omega
       have hcs:∀ u:World,Low wr u→u.cell? ⟨w.heap.size,0,none⟩=some (.slice (some ⟨xb,xf,none⟩) (px+1) xc)∧u.cell? ⟨w.heap.size,1,none⟩=some (.slice (some ⟨yb,yf,none⟩) (py+1) yc)∧u.cell? ⟨w.heap.size,2,none⟩=some (.int .i64 (C1:Int))∧u.cell? ⟨w.heap.size,3,none⟩=some (.slice ko (px+1) kc)∧u.cell? ⟨xb,xf+px,none⟩=some (.int .i64 zx)∧u.cell? ⟨yb,yf+py,none⟩=some (.int .i64 zy):=fun u hu=>by
        obtain⟨d0,d1,d2,d3⟩:=(hQ.low hu).cells
        exact⟨d0,d1,d2,d3,Zcb hu x1,Zcb hu y1⟩
       have hLw:Low wr wr:=Below.refl _ _
       clear x0 y0 hcx hcy hzx hzy HRr hxb hyb
       go_region_held3 (fun u=>u.cell? ⟨w.heap.size,0,none⟩=some (.slice (some ⟨xb,xf,none⟩) (px+1) xc)∧u.cell? ⟨w.heap.size,1,none⟩=some (.slice (some ⟨yb,yf,none⟩) (py+1) yc)∧u.cell? ⟨w.heap.size,2,none⟩=some (.int .i64 (C1:Int))∧u.cell? ⟨w.heap.size,3,none⟩=some (.slice ko (px+1) kc)∧u.cell? ⟨xb,xf+px,none⟩=some (.int .i64 zx)∧u.cell? ⟨yb,yf+py,none⟩=some (.int .i64 zy)∧Low wr u) (go_keep)
        (first | (go_at_call 83;refine (Zao (some ⟨xb,xf,none⟩) (px+1) xc (some ⟨yb,yf,none⟩) (py+1) yc C1 ko kc _ wr false HE (by first | assumption | (simp[*];done))).mono ?_;rintro e wd ⟨rfl,hlw⟩;obtain⟨g0,g1,g2,g3,g4,g5⟩:=hcs wd hlw))
       go_wp2
       go_meet
       case rel=>exact⟨rfl,by first | assumption | (simp[*];done)⟩
     case rest =>
      obtain⟨rfl,hLz⟩:=hcut
      have hTz:=hT.low hLz
      have cw:=c0
      clear c0 c1 c2 c3 hT hlow hQ hLz
      generalize wc=u0 at hTz ⊢
      obtain⟨c0,c1,c2,c3⟩:=hTz.box.cells
      cases r with
      | true =>
       have hh:=of_decide_eq_true HRr.out
       obtain⟨h1,h2,h3⟩:=hh
       obtain⟨px,rfl⟩:∃ q,nx=q+1:=⟨nx-1,by omega⟩
       obtain⟨py,rfl⟩:∃ q,ny=q+1:=⟨ny-1,by omega⟩
       have HV2:Hid (A1+px-tb x y A1 (A1+px) C1 (C1+py)=b-m∧C1+py-tb x y A1 (A1+px) C1 (C1+py)=d-m∧wrk (wrk K2 (fp (A1+px) (C1+py) 1)) (bp (A1+px) (C1+py) (tb x y A1 (A1+px) C1 (C1+py)))=wrk KF (bp b d m)):=(by
        have:=HV.out
        rw[tb,if_pos ⟨h1,h2,h3⟩,show b'-1=A1+px by omega,show d'-1=C1+py by omega] at this
        obtain⟨q1,q2,q3⟩:=this
        refine⟨by omega,by omega,?_⟩
        rw[← q3,← Zoj,bp,show b'-1=A1+px by omega,show d'-1=C1+py by omega]
        rfl)
       clear HV HRr h3
       have hkk:=hTz.pz.hk
       have hxk:=Zfg hTz.pz.hx
       have hyk:=Zfg hTz.pz.hy
       have n1:IntKind.i64.wrap ((px:Int)+1-1)=(px:Int):=by rw[IntKind.wrap_i64];omega
       have n2:IntKind.i64.wrap ((py:Int)+1-1)=(py:Int):=by rw[IntKind.wrap_i64];omega
       have n3:IntKind.i64.wrap (px:Int)=(px:Int):=by rw[IntKind.wrap_i64];omega
       have n4:IntKind.i64.wrap (py:Int)=(py:Int):=by rw[IntKind.wrap_i64];omega
       have n5:(px:Int)+1-1=(px:Int):=by omega
       have n6:(py:Int)+1-1=(py:Int):=by omega
       go_wp2_with fail
       go_big_quiet (fail)
       have hTq:=hTz.low (Below.dN (Below.refl _ u0) nq)
       clear hTz c0 c1 c2 c3
       generalize u0.drewN nq=uq at hTq ⊢
       obtain⟨c0,c1,c2,c3⟩:=hTq.box.cells
       go_wp2_with fail
       refine (ZaC K2 xo (px+1) xc yo (py+1) yc A1 C1 ko kc uq px py hTq.ls hTq.pz.at' (by omega) (by omega) (by omega) (by omega)).mono ?_
       rintro e u1 ⟨rfl,hS1,hG1⟩
       have hT1:=hTq.kept hgw hS1 hG1
       clear hTq c0 c1 c2 c3 hS1 hG1
       obtain⟨c0,c1,c2,c3⟩:=hT1.box.cells
       go_wp2_with fail
       refine (ZaV xo (px+1) xc yo (py+1) yc C1 ko kc u1 px py (by omega) (by omega) hxk hyk hkk).mono ?_
       rintro e u2 ⟨rfl,hB2⟩
       have hT2:=hT1.low hB2
       clear hT1 c0 c1 c2 c3 hB2
       obtain⟨c0,c1,c2,c3⟩:=hT2.box.cells
       have f0:=hT2.box.frozen
       have hT3:=hT2.put hgw (hT2.pz.to (i:=px) (j:=py) (by omega) (by omega))
       unfold pzV
       go_wp2
       go_roundw
       case rel=>exact⟨A1+px,C1+py,_,_,_,_,_,_,_,_,_,hT3,HV2⟩
       case measure =>
        refine Nat.lt_of_le_of_lt (Nat.le_of_eq (congrArg (fun o=>lenOf (Option.getD o undef)) hT3.box.cells.1)) ?_
        rw[cw]
        simp[lenOf]
      | false =>
       have hh:=of_decide_eq_false HRr.out
       have hz:tb x y A1 b' C1 d'=0:=by rw[tb,if_neg hh]
       obtain⟨q1,q2,q3⟩:=HV.out
       rw[hz] at q1 q2 q3
       have HQ:Hid (K2=wrk KF (bp b d m)∧b'=b-m∧d'=d-m):=⟨q3,by omega,by omega⟩
       clear hh hz q1 q2 q3 HV HRr cw
       have f1:=hTz.res.frozen
       obtain⟨e0,e1,e2,e3⟩:=hTz.res.cells
       have s4:=hTz.res.put (.slice xo nx xc) (.slice yo ny yc) (.int .i64 (C1:Int)) (.slice ko nx kc)
       have hg1:=hTz.ls.lt
       have hl1:=hTz.ls.low.size
       have hs1:=hTz.gr.size
       have hlt:=hTz.res.lt
       have hL4:=Zhe (Zhe (Zhe (Zhe hTz.ls (g:=w.heap.size+1) (by omega) (by omega) 0 (.slice xo nx xc)) (g:=w.heap.size+1) (by omega) (by omega) 1 (.slice yo ny yc)) (g:=w.heap.size+1) (by omega) (by omega) 2 (.int .i64 (C1:Int))) (g:=w.heap.size+1) (by omega) (by omega) 3 (.slice ko nx kc)
       have hG4:=ZeG (ZeG (ZeG (ZeG hTz.gr (B:=w.heap.size+1) (by omega) 0 (.slice xo nx xc)) (B:=w.heap.size+1) (by omega) 1 (.slice yo ny yc)) (B:=w.heap.size+1) (by omega) 2 (.int .i64 (C1:Int))) (B:=w.heap.size+1) (by omega) 3 (.slice ko nx kc)
       have hpz:=hTz.pz
       go_wp2
       refine bodyPost_ret (v:=.agg #[.slice xo nx xc,.slice yo ny yc,.int .i64 (C1:Int),.slice ko nx kc]) (results_cell_row rfl _ _ (w.heap.size+1) 127 #[.slice xo nx xc,.slice yo ny yc,.int .i64 (C1:Int),.slice ko nx kc] (0,0) _ rfl s4 Tryz.underlying127 rfl (by kernel_rfl)) rfl ⟨k,m,xo,nx,xc,yo,ny,yc,ko,kc,HFin.out.1,HFin.out.2.1,?_,?_,?_,hG4⟩
       ·rw[← HFin.out.2.2.2.1]
       ·rw[← HFin.out.2.2.1,← HFin.out.2.2.2.1,← HQ.out.2.1,← HQ.out.2.2]
        exact hpz
       ·rw[← HFin.out.2.2.2.2,← HQ.out.1]
        exact hL4
end

section
open Go.RowKit
theorem Zay (x:List Int) (W0 w:World) (g B:Nat) (K Z:List Int) (a c:Nat) (xo:Option Addr) (nx xc:Nat) (yo:Option Addr) (ny yc:Nat) (ko:Option Addr) (kc:Nat) (hat:0<nx→ko=some ⟨g,a,none⟩) (hnx:a+nx≤x.length) (hny:c+ny≤4096) (hxl:x.length≤4096) (zo:Option Addr) (zc:Nat) (hZl:Z.length=nx) (hO0:w.ownsRow B 3 1 (.slice zo nx zc) nx (icells Z)) (hgB:g<B) (hV:Vk 0 ny Z) (hS:Ls W0 g x.length K w) (KF:List Int) (hKF:Hid (wrk K (lp a c Z)=KF)) :
  Calls Tryz.prog 93 #[.agg #[.slice xo nx xc,.slice yo ny yc,.int .i64 (c:Int),.slice ko nx kc],.slice zo nx zc] w fun e w'=>e=.returned (.tuple #[])∧Ls W0 g x.length KF w'∧w.grownBy w' (some g):=by
 have hgw:=hS.lt.2
 have HZL:Hid (Z.length=nx):=hZl
 have HV:Hid (Vk 0 ny Z):=hV
 have hB0:=(Below.refl w.heap.size w).alloc (Nat.le_refl _) (.cells #[.slice xo nx xc,.slice yo ny yc,.int .i64 c,.slice ko nx kc] 127)
 have hQ2:=Qbx.new w (.slice xo nx xc) (.slice yo ny yc) (.int .i64 c) (.slice ko nx kc)
 have hS2:=hS.keep hB0
 have hG2:=ZgY hB0 (some g)
 have hO:=Zin hO0 hB0
 clear hS hB0 hO0 hZl hV
 go_enter Tryz.func93,Tryz.ntmps93
 go_wp2
 go_loopw [8] (fun iv wr=>∃ (i:Nat) (K2:List Int),i≤nx∧iv=.int .i64 i∧Ls W0 g x.length K2 wr∧w.grownBy wr (some g)∧Qbx wr w.heap.size (.slice xo nx xc) (.slice yo ny yc) (.int .i64 c) (.slice ko nx kc)∧wr.ownsRow B 3 1 (.slice zo nx zc) nx (icells Z)∧Hid (wrk K2 (lp ((a:Int)+i) c (Z.drop i))=KF)) (fun iv _=>nx-(intOf iv).toNat)
 case atStart=>exact⟨0,K,Nat.zero_le _,rfl,hS2,hG2,hQ2,hO,by simpa using hKF⟩
 case round =>
  clear hS2 hG2 hQ2 hO hKF
  obtain⟨i,K2,hi,rfl,hS,hG,hQ,hO,HW⟩:=hrel
  by_cases hlt:i<nx
  ·have hiZ:i<Z.length:=by have:=HZL.out;omega
   obtain⟨zb,zf,zcc,hze,_,hcz⟩:=Holds.at (holds_of hO) (by rw[icells_length];omega)
   cases hze
   have z0:=hcz i (by rw[icells_length];omega)
   obtain⟨j,hj⟩:∃ j,Z[i]=j:=⟨_,rfl⟩
   have z1:wr.cell? ⟨zb,zf+i,none⟩=some (.int .i64 j):=by rw[z0];simp[icells,hj]
   have hjv:=(HV.out.each (Int.le_refl _)) j (by rw[← hj];exact List.getElem_mem _)
   have hjl:=HV.out.lt j (by rw[← hj];exact List.getElem_mem _)
   have HW2:Hid (wrk K2 ((if j=-1 then [] else [⟨(a:Int)+i,c+j⟩])++lp ((a:Int)+i+1) c (Z.drop (i+1)))=KF):=(by
    show _=_
    have:=HW.out
    rw[List.drop_eq_getElem_cons hiZ,lp,hj] at this
    exact this)
   clear z0 hcz hj HW
   have i1:0≤(i:Int):=by omega
   have i2:(i:Int)<(nx:Int):=by omega
   by_cases hj1:j=-1
   ·have e1:(j != -1)=false:=by simp[hj1]
    have HW3:Hid (wrk K2 (lp ((a:Int)+((i+1:Nat):Int)) c (Z.drop (i+1)))=KF):=(by
     show _=_
     rw[← HW2.out,if_pos hj1,List.nil_append,show (a:Int)+((i+1:Nat):Int)=(a:Int)+i+1 by omega])
    clear HW2 hj1 hjv hjl
    go_wp2
    go_roundw
    case rel=>exact⟨i+1,K2,by omega,by go_num,hS,hG,hQ,hO,HW3⟩
    case measure=>simp[intOf];omega
   ·have e1:(j != -1)=true:=by simp[hj1]
    obtain⟨q,rfl⟩:∃ q:Nat,j=q:=⟨j.toNat,by omega⟩
    have hqn:q<ny:=by omega
    have HW3:Hid (wrk (wrk K2 (fp (a+i) (c+q) 1)) (lp ((a:Int)+((i+1:Nat):Int)) c (Z.drop (i+1)))=KF):=(by
     show _=_
     rw[← HW2.out,if_neg hj1,← Zoj,show (a:Int)+((i+1:Nat):Int)=(a:Int)+i+1 by omega]
     rfl)
    clear HW2 hj1 hjv hjl
    obtain⟨c0,c1,c2,c3⟩:=hQ.cells
    go_wp2_with fail
    refine (ZaC K2 xo nx xc yo ny yc a c ko kc wr i q hS hat hnx (by omega) (by omega) (by omega)).mono ?_
    rintro e u1 ⟨rfl,hS1,hG1⟩
    have hQ1:=hQ.keep hG1 (by simp;omega)
    have hO1:=Zfj hO hG1 hgB
    have hG2:=hG.trans hG1
    clear c0 c1 c2 c3 hS hG hQ hO hG1
    go_wp2
    go_roundw
    case rel=>exact⟨i+1,_,by omega,by go_num,hS1,hG2,hQ1,hO1,HW3⟩
    case measure=>simp[intOf];omega
  ·obtain rfl:i=nx:=by omega
   have e:K2=KF:=by
    have:=HW.out
    rw[List.drop_of_length_le (by have:=HZL.out;omega)] at this
    exact this
   subst e
   go_wp2
   go_end0
   exact⟨rfl,hS,hG⟩
theorem ZaA (x y:List Int) (W0 w:World) (g:Nat) (K:List Int) (a b c d:Nat) (xo:Option Addr) (nx xc:Nat) (yo:Option Addr) (ny yc:Nat) (ko:Option Addr) (kc:Nat) (hp:Pz W0 g x y a b c d xo nx xc yo ny yc ko kc) (hxl:x.length≤4096) (hyl:y.length≤4096) (hS:Ls W0 g x.length K w) (KF:List Int) (hKF:Hid (wrk K (lp a c (kp 0 (sub x a b) (sub y c d)))=KF)) :
  Calls Tryz.prog 86 #[.agg #[.slice xo nx xc,.slice yo ny yc,.int .i64 (c:Int),.slice ko nx kc]] w fun e w'=>e=.returned (.tuple #[])∧Ls W0 g x.length KF w'∧w.grownBy w' (some g):=by
 have hgw:=hS.lt.2
 have hlow:=hS.low
 obtain⟨X,hX⟩:∃ X,sub x a b=X:=⟨_,rfl⟩
 obtain⟨Y,hY⟩:∃ Y,sub y c d=Y:=⟨_,rfl⟩
 obtain⟨e1,e2,e3,e4,hx,hy,hk,hat⟩:=hp
 have hXl:X.length=nx:=by rw[← hX,Zlz x a b e3];omega
 have hYl:Y.length=ny:=by rw[← hY,Zlz y c d e4];omega
 rw[hX] at hx hKF
 rw[hY] at hy hKF
 obtain⟨Z,hZ⟩:∃ Z,kp 0 X Y=Z:=⟨_,rfl⟩
 have hZl:Z.length=nx:=by rw[← hZ,Zgd,hXl]
 have hV:Vk 0 Y.length Z:=by
  have:=Zgj 0 X Y (Int.le_refl _)
  rw[hZ,Int.zero_add] at this
  exact this
 obtain⟨S,hS0⟩:∃ S,mkL Z Y.length=S:=⟨_,rfl⟩
 obtain⟨hSc,hkm,hlen⟩:=ZfP hV (by omega) (by omega) (by omega)
 rw[hS0] at hSc hkm hlen
 have HS0:Hid (mkL (kp 0 X Y) Y.length=S):=(by show _=_;rw[hZ,hS0])
 rw[hZl,hYl] at hSc hkm hlen
 rw[hYl] at hV
 rw[hZ] at hKF
 have HKM:Hid (keepL S nx ny=Z):=hkm
 have hSl:S.length≤1048576:=by omega
 have HZL:Hid (Z.length=nx):=hZl
 have HV:Hid (Vk 0 ny Z):=hV
 have HE:Hid (b=a+nx∧d=c+ny∧b≤x.length∧d≤y.length∧X.length=nx∧Y.length=ny):=⟨e1,e2,e3,e4,hXl,hYl⟩
 have hnx:a+nx≤x.length:=by omega
 have hny:c+ny≤y.length:=by omega
 have hx0:HI (w.alloc (.cells #[.slice xo nx xc,.slice yo ny yc,.int .i64 c,.slice ko nx kc] 127)) (.slice xo nx xc) X:=(by
  unfold HI
  rw[hXl]
  exact Holds.keep hx (fun q hq=>((hlow.alloc hlow.size _).block q hq)))
 have hy0:HI (w.alloc (.cells #[.slice xo nx xc,.slice yo ny yc,.int .i64 c,.slice ko nx kc] 127)) (.slice yo ny yc) Y:=(by
  unfold HI
  rw[hYl]
  exact Holds.keep hy (fun q hq=>((hlow.alloc hlow.size _).block q hq)))
 have hQ0:=Qbx.new w (.slice xo nx xc) (.slice yo ny yc) (.int .i64 c) (.slice ko nx kc)
 have hB0:=(Below.refl w.heap.size w).alloc (Nat.le_refl _) (.cells #[.slice xo nx xc,.slice yo ny yc,.int .i64 c,.slice ko nx kc] 127)
 clear hX hY hZ hS0 hkm hlen hZl hV hXl hYl e1 e2 hlow
 go_enter Tryz.func86,Tryz.ntmps86
 go_wp2_with fail
 refine (Zam X Y _ _ _ hx0 hy0 (by have:=HE.out;omega) (by have:=HE.out;omega) S HS0).mono ?_
 rintro e w1 ⟨v1,rfl,hv1,hB1⟩
 obtain⟨so,sc,rfl⟩:=Holds.form hv1
 have hQ1:=hQ0.low hB1
 obtain⟨c0,c1,c2,c3⟩:=hQ1.cells
 have hBw1:Below w.heap.size w w1:=hB0.trans (hB1.mono (by simp))
 clear hQ0 hB1 hB0 hx0 hy0
 go_wp2_with fail
 refine (ZaE S nx ny _ w1 hv1 hSc (by omega) (by omega) hSl).mono ?_
 rintro e W1 ⟨v2,B,rfl,hBB,hO,hB2⟩
 rw[HKM.out] at hO
 obtain⟨zo,zc,rfl⟩:=(holds_of hO).form
 rw[HZL.out]
 rw[HZL.out] at hO
 have hQ2:=hQ1.low hB2
 have hBW:Below w.heap.size w W1:=hBw1.trans (hB2.mono hBw1.size)
 have hS2:=hS.keep hBW
 have hG2:=ZgY hBW (some g)
 have hgB:g<B:=by have:=hBw1.size;omega
 have hnz:c+ny≤4096:=by omega
 obtain⟨q0,q1,q2,q3⟩:=hQ2.cells
 clear c0 c1 c2 c3 hQ1 hBw1 hB2 hBW hBB hS hv1 hSc hSl
 go_wp2_with fail
 refine (Zay x W0 W1 g B K Z a c xo nx xc yo ny yc ko kc hat hnx hnz hxl zo zc HZL.out hO hgB HV.out hS2 KF hKF).mono ?_
 rintro e u1 ⟨rfl,hS3,hG3⟩
 have hG4:=hG2.trans hG3
 go_wp2
 go_end0
 exact⟨rfl,hS3,hG4⟩
end

section
open Go.RowKit
section
variable {W0:World} {g:Nat} {x y:List Int} {a b c d:Nat} {xo:Option Addr} {nx xc:Nat} {yo:Option Addr} {ny yc:Nat} {ko:Option Addr} {kc:Nat}
theorem ZaW (hp:Pz W0 g x y a b c d xo nx xc yo ny yc ko kc) (i j b2 d2:Nat) (hi:i≤nx) (hj:j≤ny) (hb:a+i=b2) (hd:c+j=d2) (W u:World) (hL:Low W u) :
  Calls Tryz.prog 87 #[.agg #[.slice xo nx xc,.slice yo ny yc,.int .i64 (c:Int),.slice ko nx kc],.int .i64 (i:Int),.int .i64 (j:Int)] u fun e w'=>∃ xo' nx' xc' yo' ny' yc' ko' kc',e=.returned (.agg #[.slice xo' nx' xc',.slice yo' ny' yc',.int .i64 (c:Int),.slice ko' nx' kc'])∧Pz W0 g x y a b2 c d2 xo' nx' xc' yo' ny' yc' ko' kc'∧Low W w':=by
 refine (ZaV xo nx xc yo ny yc c ko kc u i j hi hj (Zfg hp.hx) (Zfg hp.hy) hp.hk).mono ?_
 rintro e w' ⟨rfl,hB⟩
 subst hb hd
 exact⟨_,_,_,_,_,_,_,_,rfl,hp.to hi hj,Below.trans hL (hB.mono (Below.size hL))⟩
theorem Zas (hp:Pz W0 g x y a b c d xo nx xc yo ny yc ko kc) (hyl:y.length≤4096) (i j a2 c2:Nat) (hi:a2≤b) (hj:c2≤d) (ha:a+i=a2) (hc:c+j=c2) (W u:World) (hL:Low W u) :
  Calls Tryz.prog 88 #[.agg #[.slice xo nx xc,.slice yo ny yc,.int .i64 (c:Int),.slice ko nx kc],.int .i64 (i:Int),.int .i64 (j:Int)] u fun e w'=>∃ xo' nx' xc' yo' ny' yc' ko' kc',e=.returned (.agg #[.slice xo' nx' xc',.slice yo' ny' yc',.int .i64 (c2:Int),.slice ko' nx' kc'])∧Pz W0 g x y a2 b c2 d xo' nx' xc' yo' ny' yc' ko' kc'∧Low W w':=by
 have e1:=hp.eb
 have e2:=hp.ed
 have e3:=hp.dy
 refine (Zar xo nx xc yo ny yc c ko kc u i j (by omega) (by omega) (Zfg hp.hx) (Zfg hp.hy) hp.hk (by omega)).mono ?_
 rintro e w' ⟨rfl,hB⟩
 subst ha hc
 exact⟨_,_,_,_,_,_,_,_,rfl,hp.from (by omega) (by omega),Below.trans hL (hB.mono (Below.size hL))⟩
theorem Zmi (hp:Pz W0 g x y a b c d xo nx xc yo ny yc ko kc) (i j b2 d2:Nat) (hi:i≤nx) (hj:j≤ny) (hb:a+i=b2) (hd:c+j=d2) (W u:World) (hL:Low W u) :
  Calls Tryz.prog 87 (#[.agg #[.slice xo nx xc,.slice yo ny yc,.int .i64 (c:Int),.slice ko nx kc],.int .i64 (i:Int),.int .i64 (j:Int)]++#[]) u fun e w'=>∃ v,e=.returned v∧W.grownBy w' (some g)∧∃ xo' nx' xc' yo' ny' yc' ko' kc',v=.agg #[.slice xo' nx' xc',.slice yo' ny' yc',.int .i64 (c:Int),.slice ko' nx' kc']∧Pz W0 g x y a b2 c d2 xo' nx' xc' yo' ny' yc' ko' kc'∧Low W w':=by
 refine (ZaW hp i j b2 d2 hi hj hb hd W u hL).mono ?_
 rintro e w' ⟨x1,x2,x3,x4,x5,x6,x7,x8,rfl,h1,h2⟩
 exact⟨_,rfl,ZgY h2 _,x1,x2,x3,x4,x5,x6,x7,x8,rfl,h1,h2⟩
theorem Zem (hp:Pz W0 g x y a b c d xo nx xc yo ny yc ko kc) (hyl:y.length≤4096) (i j a2 c2:Nat) (hi:a2≤b) (hj:c2≤d) (ha:a+i=a2) (hc:c+j=c2) (W u:World) (hL:Low W u) :
  Calls Tryz.prog 88 (#[.agg #[.slice xo nx xc,.slice yo ny yc,.int .i64 (c:Int),.slice ko nx kc],.int .i64 (i:Int),.int .i64 (j:Int)]++#[]) u fun e w'=>∃ v,e=.returned v∧W.grownBy w' (some g)∧∃ xo' nx' xc' yo' ny' yc' ko' kc',v=.agg #[.slice xo' nx' xc',.slice yo' ny' yc',.int .i64 (c2:Int),.slice ko' nx' kc']∧Pz W0 g x y a2 b c2 d xo' nx' xc' yo' ny' yc' ko' kc'∧Low W w':=by
 refine (Zas hp hyl i j a2 c2 hi hj ha hc W u hL).mono ?_
 rintro e w' ⟨x1,x2,x3,x4,x5,x6,x7,x8,rfl,h1,h2⟩
 exact⟨_,rfl,ZgY h2 _,x1,x2,x3,x4,x5,x6,x7,x8,rfl,h1,h2⟩
theorem ZbU {P:Program} {F:Nat} {args:Array Value} {W u:World} {K:List Int} {N:Nat} (hL:Low W u) (h:Calls P F args u fun e w'=>e=.returned (.tuple #[])∧Ls W0 g N K w'∧u.grownBy w' (some g)) :
  Calls P F args u fun e w'=>∃ v,e=.returned v∧W.grownBy w' (some g)∧(v=.tuple #[]∧Ls W0 g N K w'):=by
 refine h.mono ?_
 rintro e w' ⟨rfl,h1,h2⟩
 exact⟨_,rfl,(ZgY hL (some g)).trans h2,rfl,h1⟩
end
end

end Go.Proofs.YtcnjephlmcnodaaGreatDoor
