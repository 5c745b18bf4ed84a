/-
  Texts that belong together, joined: VcT, VcA, VcY, ViX, VcS, VcE, VcF, VcG.
-/
import Derived.Test.YtcnjephlmcnodaaGreatDoorVzA12

set_option maxHeartbeats 16000000
set_option maxRecDepth 100000
namespace Go.Proofs.YtcnjephlmcnodaaGreatDoor

section
open Go.RowKit Go.Proofs.YtcnjephlmcnodaaGreatDoor.Tx
attribute [local go_sem] ZhN
theorem ZdE {u:World} {v v':Value} {p q:Int} (hr:∀ u:World,(Instr.slice 23 v (some (.int .i64 p)) (some (.int .i64 q)) none).run Tryz.prog u=.ok v' u) (hv:∃ ao n c,v=.slice ao n c) {op:Oper} (x y z:Operand) (ho:op.op=.slice 23 x (some y) (some z) none) {ev:Operand→Value} (hx:ev x=v) (hy:ev y=.int .i64 p) (hz:ev z=.int .i64 q) :
  (execOp ev op).run Tryz.prog u=.ok (.value v') u:=by
 obtain⟨ao,n,c,rfl⟩:=hv
 have h2:=run_sliceAt_slice (P:=Tryz.prog) (w:=u) 23 (.slice ao n c) (some (.int .i64 p)) (some (.int .i64 q)) none (by kernel_rfl)
 simp only[execOp,ho,hx,hy,hz,Option.map_some,Option.map_none,Sem.run_bind,h2,hr u,Result.andThen_ok,Sem.run_pure]
theorem ZdD {u:World} {v v':Value} {p:Int} (hr:∀ u:World,(Instr.slice 23 v (some (.int .i64 p)) none none).run Tryz.prog u=.ok v' u) (hv:∃ ao n c,v=.slice ao n c) {op:Oper} (x y:Operand) (ho:op.op=.slice 23 x (some y) none none) {ev:Operand→Value} (hx:ev x=v) (hy:ev y=.int .i64 p) :
  (execOp ev op).run Tryz.prog u=.ok (.value v') u:=by
 obtain⟨ao,n,c,rfl⟩:=hv
 have h2:=run_sliceAt_slice (P:=Tryz.prog) (w:=u) 23 (.slice ao n c) (some (.int .i64 p)) none none (by kernel_rfl)
 simp only[execOp,ho,hx,hy,Option.map_some,Option.map_none,Sem.run_bind,h2,hr u,Result.andThen_ok,Sem.run_pure]
theorem ZmY {u:World} {p q r:Int} (h:IntKind.i64.wrap (p+q)=r) {op:Oper} (x l:Operand) (ho:op.op=.binOp .add 3 x l 3) {ev:Operand→Value} (hx:ev x=.int .i64 p) (hl:ev l=.int .i64 q) :
  (execOp ev op).run Tryz.prog u=.ok (.value (.int .i64 r)) u:=by
 subst h
 simp only[execOp,ho,hx,hl]
 go_simp
def Wrt (w:World) (b:Nat) (RS:List (Nat × Obj)) (A B:List (List UInt8)) (F:Nat) (cF:Array Value) (same:Bool) (kp:List (List UInt8)→List (List UInt8)→List UInt8):Prop :=
 ∀ (R2:List (Nat × Obj)) (T Z:List UInt8) (X Y:List (List UInt8)) (vx vy:Value) (u:World),Vsd w b (R2++RS) T u→(∀ T' u',Vsd w b (R2++RS) T' u'→HS u' vx X)→(∀ T' u',Vsd w b (R2++RS) T' u'→HS u' vy Y)→(same=true→X.length=Y.length)→(same=false→X=[]→Y=[]→False)→(∀ s∈X,s∈A)→(∀ s∈Y,s∈B)→X.length≤A.length→Y.length≤B.length→Hid (T++kp X Y=Z)→Z.length≤70368744177664 →
  Calls Tryz.prog F (#[vx,vy]++cF) u fun e u'=>e=.returned (.tuple #[])∧Vsd w b (R2++RS) Z u'
def thR (kp cp:List (List UInt8)→List (List UInt8)→List UInt8) (A B:List (List UInt8)) (a b:Int) (l:List Ch):List UInt8 :=
 ((piecesL a b A.length B.length l).map fun x=>kp (cut A x.1.a x.1.n) (cut B x.1.b x.1.n)++cp (cut A x.2.A x.2.AN) (cut B x.2.B x.2.BN)).flatten
theorem ZlI (kp cp:List (List UInt8)→List (List UInt8)→List UInt8) (A B:List (List UInt8)) (a b:Int) (c:Ch) (l:List Ch) (h:c.A-a=c.B-b) :
  thR kp cp A B a b (c::l)=kp (cut A a (c.A-a)) (cut B b (c.B-b))++(cp (cut A c.A c.AN) (cut B c.B c.BN)++thR kp cp A B (c.A+c.AN) (c.B+c.BN) l):=by
 rw[← h]
 simp[thR,piecesL]
theorem ZlK (kp cp:List (List UInt8)→List (List UInt8)→List UInt8) (A B:List (List UInt8)) (a b:Int) (hcp:cp [] []=[]) (h:A.length-a=B.length-b):thR kp cp A B a b []=kp (cut A a (A.length-a)) (cut B b (B.length-b)):=by
 rw[← h]
 simp[thR,piecesL,Zni,hcp]
theorem ZlO (l:List Ch) (A B:List (List UInt8)) (v va vb:Value) (w:World) (b:Nat) (RS:List (Nat × Obj)) (F G:Nat) (cF cG:Array Value) (eF:∀ args w,(callFunc F args).run Tryz.prog w=.ok (.enter F args) w) (eG:∀ args w,(callFunc G args).run Tryz.prog w=.ok (.enter G args) w)
  (kp cp:List (List UInt8)→List (List UInt8)→List UInt8) (hcp:cp [] []=[]) (HF:Hid (Wrt w b RS A B F cF true kp)) (HG:Hid (Wrt w b RS A B G cG false cp)) (u0:World) (T0 T:List UInt8) (h0:Vsd w b RS T0 u0) (hl:HCh w v l) (ha:HS w va A) (hb:HS w vb B) (hS:Script l A.length B.length)
  (hll:l.length≤1099511627776) (hla:A.length≤1099511627776) (hlb:B.length≤1099511627776) (HT:Hid (T0++thR kp cp A B 0 0 l=T)) (hT:T.length≤70368744177664) :
  Calls Tryz.prog 24 #[v,va,vb,.func (.func F) #[] cF,.func (.func G) #[] cG] u0 fun e u'=>e=.returned (.tuple #[])∧Vsd w b RS T u':=by
 obtain⟨ao,ca,rfl⟩:=Holds.form hl
 obtain⟨aa,caa,rfl⟩:=Holds.form ha
 obtain⟨ab,cab,rfl⟩:=Holds.form hb
 have HS0:Hid (Right true 0 0 A.length B.length l):=hS.2.2
 have HT0:Hid (T0++thR kp cp A B 0 0 (l.drop 0)=T):=HT.out
 have HCP:Hid (cp [] []=[]):=hcp
 clear hS HT hcp
 go_enter Tryz.func24,Tryz.ntmps24
 go_wp2
 go_loopw [10,11,16] (fun av bv iv wr=>∃ (k:Nat) (a c:Int) (P:List UInt8),k≤l.length∧av=.int .i64 a∧bv=.int .i64 c∧iv=.int .i64 (k:Int)∧0≤a∧a≤A.length∧0≤c∧c≤B.length∧Vsd w b RS P wr∧Hid (Right (decide (k=0)) a c A.length B.length (l.drop k))∧Hid (P++thR kp cp A B a c (l.drop k)=T)) (fun _ _ iv _=>l.length-(intOf iv).toNat)
 case atStart=>exact⟨0,0,0,T0,Nat.zero_le _,rfl,rfl,rfl,by omega,by omega,by omega,by omega,h0,HS0,HT0⟩
 case round =>
 clear HS0 HT0 h0
 obtain⟨k,a,c,P,hk,rfl,rfl,rfl,ha0,han,hb0,hbm,hP,HRi,HI⟩:=hrel
 have hB:=hP.low
 have haw:HS wr (.slice aa A.length caa) A:=ha.keep hB (Nat.le_refl _)
 have hbw:HS wr (.slice ab B.length cab) B:=hb.keep hB (Nat.le_refl _)
 have hsz:=hB.size
 by_cases hlt:k<l.length
 ·obtain⟨bk,off,rfl,hbk,hc⟩:=HCh.at (HCh.keep hl hB (Nat.le_refl _)) (by omega)
  obtain⟨c0,c1,c2,c3⟩:=hc k hlt
  have hR':=HRi.out
  have hI':=HI.out
  rw[List.drop_eq_getElem_cons hlt] at hR' hI'
  obtain⟨cc,hcd⟩:∃ c,l[k]=c:=⟨_,rfl⟩
  rw[hcd] at hR' hI' c0 c1 c2 c3
  clear hc hcd HRi HI
  have hnum:=hR'.1.1
  rw[ZhO] at hnum
  have hle:=hR'.2.le
  have hAa:=hR'.1.2.2.1
  have hab:=hR'.1.2.1
  rw[ZlI _ _ _ _ _ _ _ _ (by omega)] at hI'
  have HRt:Hid (Right (decide (k+1=0)) (cc.A+cc.AN) (cc.B+cc.BN) A.length B.length (l.drop (k+1))):=(by
   rw[show decide (k+1=0)=false by simp]
   exact hR'.2)
  clear hR'
  obtain⟨cA,cAN,cB,cBN⟩:=cc
  dsimp only at c0 c1 c2 c3 hnum hle hAa hab HRt hI'
  obtain⟨⟨hA0,hA1⟩,⟨hAN0,hAN1⟩,⟨hB0',hB1⟩,⟨hBN0,hBN1⟩,hpos⟩:=hnum
  obtain⟨hle1,hle2,_⟩:=hle
  have i1:0≤(k:Int):=by omega
  have i2:(k:Int)<(l.length:Int):=by omega
  obtain⟨k1,n1,hk1,hs1⟩:=Zks A aa caa a cA ha0 hAa (by omega) wr haw
  obtain⟨k2,n2,hk2,hs2⟩:=Zks B ab cab c cB hb0 (by omega) (by omega) wr hbw
  obtain⟨v3,hk3,hs3⟩:=Zkq A aa caa cA cAN hA0 hAN0 hle1 wr haw
  obtain⟨k3,n3,rfl⟩:=Holds.form (hs3 wr haw)
  obtain⟨v4,hk4,hs4⟩:=Zkq B ab cab cB cBN hB0' hBN0 hle2 wr hbw
  obtain⟨k4,n4,rfl⟩:=Holds.form (hs4 wr hbw)
  obtain⟨P1,hP1⟩:∃ Z,P++kp (cut A a (cA-a)) (cut B c (cB-c))=Z:=⟨_,rfl⟩
  obtain⟨P2,hP2⟩:∃ Z,P1++cp (cut A cA cAN) (cut B cB cBN)=Z:=⟨_,rfl⟩
  have HI2:Hid (P2++thR kp cp A B (cA+cAN) (cB+cBN) (l.drop (k+1))=T):=(by
   show _=_
   rw[← hI',← hP2,← hP1]
   simp only[List.append_assoc])
  have z2:P2.length≤70368744177664:=(by have:=congrArg List.length HI2.out;rw[List.length_append] at this;omega)
  have z1:P1.length≤70368744177664:=(by have:=congrArg List.length hP2;rw[List.length_append] at this;omega)
  obtain⟨BX,hBX⟩:∃ X:Nat × Obj,X=(wr.heap.size,.cells #[.int .i64 cA,.int .i64 cAN,.int .i64 cB,.int .i64 cBN] 43):=⟨_,rfl⟩
  have hS1:Vsd w b (BX::RS) P (wr.alloc (.cells #[.int .i64 cA,.int .i64 cAN,.int .i64 cB,.int .i64 cBN] 43)):=(by rw[hBX];exact hP.more _)
  have hC1:=fun u (h:Vsd w b (BX::RS) P u)=>HF.out [BX] P P1 _ _ _ _ u h (fun _ u' h=>hs1 u' (ha.keep h.low (Nat.le_refl _))) (fun _ u' h=>hs2 u' (hb.keep h.low (Nat.le_refl _))) (fun _=>by
    have e1:((cut A a (cA-a)).length:Int)=cA-a:=ZeR ha0 (by omega) (by omega)
    have e2:((cut B c (cB-c)).length:Int)=cB-c:=ZeR hb0 (by omega) (by omega)
    omega) (fun q=>by cases q) (fun s hs=>Znh hs) (fun s hs=>Znh hs) Zdl Zdl hP1 z1
  have hC2:=fun u (h:Vsd w b (BX::RS) P1 u)=>HG.out [BX] P1 P2 _ _ _ _ u h (fun _ u' h=>hs3 u' (ha.keep h.low (Nat.le_refl _))) (fun _ u' h=>hs4 u' (hb.keep h.low (Nat.le_refl _))) (fun q=>by cases q) (fun _ e1 e2=>by
    rcases hpos with q | q
    ·exact Zdm hA0 q hle1 e1
    ·exact Zdm hB0' q hle2 e2) (fun s hs=>Znh hs) (fun s hs=>Znh hs) Zdl Zdl hP2 z2
  have hBO:(wr.heap.size,Obj.cells #[.int .i64 cA,.int .i64 cAN,.int .i64 cB,.int .i64 cBN] 43)∈BX::RS:=(by rw[hBX];simp)
  have wAN:IntKind.i64.wrap (cA+cAN)=cA+cAN:=wrap_small _ (by omega) (by omega)
  have wBN:IntKind.i64.wrap (cB+cBN)=cB+cBN:=wrap_small _ (by omega) (by omega)
  have b1:BX.1=wr.heap.size:=by rw[hBX]
  have b2:BX.2=.cells #[.int .i64 cA,.int .i64 cAN,.int .i64 cB,.int .i64 cBN] 43:=by rw[hBX]
  clear hI' hs1 hs2 hs3 hs4 hP1 hP2 hBX HF HG
  go_wp2_with fail
  generalize wr.alloc (.cells #[.int .i64 cA,.int .i64 cAN,.int .i64 cB,.int .i64 cBN] 43)=W at hS1 ⊢
  refine wp_region_noPanic ?_
  refine wp_region_held_drew (S:=fun u=>u.heap[wr.heap.size]?=some (.cells #[.int .i64 cA,.int .i64 cAN,.int .i64 cB,.int .i64 cBN] 43)) (by kernel_rfl) (hS1.drew.block hBO) (fun hHeld=>?_)
  refine Y_t 0 20 _ (.func (.func F) #[] cF) rfl (Or.inl ⟨by kernel_rfl,fun u hu=>by kernel_rfl⟩) hHeld ?_
  simp only[Act.put,Y_a,Y_b,Y_c]
  refine Y_t 1 21 _ (.slice aa A.length caa) rfl (Or.inl ⟨by kernel_rfl,fun u hu=>by kernel_rfl⟩) hHeld ?_
  simp only[Act.put,Y_a,Y_b,Y_c]
  refine Y_t 2 22 _ (.int .i64 a) rfl (Or.inl ⟨by kernel_rfl,fun u hu=>by kernel_rfl⟩) hHeld ?_
  simp only[Act.put,Y_a,Y_b,Y_c]
  refine Y_t 3 23 _ (.pointer (some ⟨wr.heap.size,0,none⟩)) rfl (Or.inl ⟨by kernel_rfl,fun u hu=>by kernel_rfl⟩) hHeld ?_
  simp only[Act.put,Y_a,Y_b,Y_c]
  refine Y_t 4 24 _ (.int .i64 cA) rfl (Or.inl ⟨by kernel_rfl,fun u hu=>ZgQ (a:=⟨wr.heap.size,0,none⟩) (by rw[Lib.cell_of_heap hu];rfl) (.tmp 23) (by kernel_rfl) (by kernel_rfl)⟩) hHeld ?_
  simp only[Act.put,Y_a,Y_b,Y_c]
  refine Y_t 5 25 _ (.slice k1 (cut A a (cA-a)).length n1) rfl (Or.inl ⟨by kernel_rfl,fun u hu=>ZdE hk1 ⟨_,_,_,rfl⟩ (.tmp 21) (.tmp 22) (.tmp 24) (by kernel_rfl) (by kernel_rfl) (by kernel_rfl) (by kernel_rfl)⟩) hHeld ?_
  simp only[Act.put,Y_a,Y_b,Y_c]
  refine Y_t 6 26 _ (.slice ab B.length cab) rfl (Or.inl ⟨by kernel_rfl,fun u hu=>by kernel_rfl⟩) hHeld ?_
  simp only[Act.put,Y_a,Y_b,Y_c]
  refine Y_t 7 27 _ (.int .i64 c) rfl (Or.inl ⟨by kernel_rfl,fun u hu=>by kernel_rfl⟩) hHeld ?_
  simp only[Act.put,Y_a,Y_b,Y_c]
  refine Y_t 8 28 _ (.pointer (some ⟨wr.heap.size,2,none⟩)) rfl (Or.inl ⟨by kernel_rfl,fun u hu=>by kernel_rfl⟩) hHeld ?_
  simp only[Act.put,Y_a,Y_b,Y_c]
  refine Y_t 9 29 _ (.int .i64 cB) rfl (Or.inl ⟨by kernel_rfl,fun u hu=>ZgQ (a:=⟨wr.heap.size,2,none⟩) (by rw[Lib.cell_of_heap hu];rfl) (.tmp 28) (by kernel_rfl) (by kernel_rfl)⟩) hHeld ?_
  simp only[Act.put,Y_a,Y_b,Y_c]
  refine Y_t 10 30 _ (.slice k2 (cut B c (cB-c)).length n2) rfl (Or.inl ⟨by kernel_rfl,fun u hu=>ZdE hk2 ⟨_,_,_,rfl⟩ (.tmp 26) (.tmp 27) (.tmp 29) (by kernel_rfl) (by kernel_rfl) (by kernel_rfl) (by kernel_rfl)⟩) hHeld ?_
  simp only[Act.put,Y_a,Y_b,Y_c]
  refine Y_e 11 31 _ rfl F (.tmp 20) #[.tmp 25,.tmp 30] #[23,23] (by kernel_rfl) cF (by kernel_rfl) #[.slice k1 (cut A a (cA-a)).length n1,.slice k2 (cut B c (cB-c)).length n2] (by kernel_rfl) eF (fun v w'=>v=.tuple #[]∧Vsd w b (BX::RS) P1 w') ((hC1 _ hS1.drew).mono (fun e u' h=>⟨_,h.1,h.2.block hBO,rfl,h.2⟩)) ?_
  rintro v2 w2 hHeld ⟨rfl,hS2⟩
  simp only[Act.put,Y_a,Y_b,Y_c]
  refine wpAnyH_done (by kernel_rfl) ?_ _
  refine NoPanic.normal ?_
  clear hC1 hS1 hHeld
  go_wp2_with fail
  refine wp_region_noPanic ?_
  refine wp_region_held_drew (S:=fun u=>u.heap[wr.heap.size]?=some (.cells #[.int .i64 cA,.int .i64 cAN,.int .i64 cB,.int .i64 cBN] 43)) (by kernel_rfl) (hS2.drew.block hBO) (fun hHeld=>?_)
  refine Y_t 0 32 _ (.pointer (some ⟨wr.heap.size,0,none⟩)) rfl (Or.inl ⟨by kernel_rfl,fun u hu=>by kernel_rfl⟩) hHeld ?_
  simp only[Act.put,Y_a,Y_b,Y_c]
  refine Y_t 1 33 _ (.int .i64 cA) rfl (Or.inl ⟨by kernel_rfl,fun u hu=>ZgQ (a:=⟨wr.heap.size,0,none⟩) (by rw[Lib.cell_of_heap hu];rfl) (.tmp 32) (by kernel_rfl) (by kernel_rfl)⟩) hHeld ?_
  simp only[Act.put,Y_a,Y_b,Y_c]
  refine Y_t 2 34 _ (.pointer (some ⟨wr.heap.size,1,none⟩)) rfl (Or.inl ⟨by kernel_rfl,fun u hu=>by kernel_rfl⟩) hHeld ?_
  simp only[Act.put,Y_a,Y_b,Y_c]
  refine Y_t 3 35 _ (.int .i64 cAN) rfl (Or.inl ⟨by kernel_rfl,fun u hu=>ZgQ (a:=⟨wr.heap.size,1,none⟩) (by rw[Lib.cell_of_heap hu];rfl) (.tmp 34) (by kernel_rfl) (by kernel_rfl)⟩) hHeld ?_
  simp only[Act.put,Y_a,Y_b,Y_c]
  refine Y_t 4 36 _ (.int .i64 (cA+cAN)) rfl (Or.inl ⟨by kernel_rfl,fun u hu=>ZmY wAN (.tmp 33) (.tmp 35) (by kernel_rfl) (by kernel_rfl) (by kernel_rfl)⟩) hHeld ?_
  simp only[Act.put,Y_a,Y_b,Y_c]
  refine Y_t 5 37 _ (.pointer (some ⟨wr.heap.size,2,none⟩)) rfl (Or.inl ⟨by kernel_rfl,fun u hu=>by kernel_rfl⟩) hHeld ?_
  simp only[Act.put,Y_a,Y_b,Y_c]
  refine Y_t 6 38 _ (.int .i64 cB) rfl (Or.inl ⟨by kernel_rfl,fun u hu=>ZgQ (a:=⟨wr.heap.size,2,none⟩) (by rw[Lib.cell_of_heap hu];rfl) (.tmp 37) (by kernel_rfl) (by kernel_rfl)⟩) hHeld ?_
  simp only[Act.put,Y_a,Y_b,Y_c]
  refine Y_t 7 39 _ (.pointer (some ⟨wr.heap.size,3,none⟩)) rfl (Or.inl ⟨by kernel_rfl,fun u hu=>by kernel_rfl⟩) hHeld ?_
  simp only[Act.put,Y_a,Y_b,Y_c]
  refine Y_t 8 40 _ (.int .i64 cBN) rfl (Or.inl ⟨by kernel_rfl,fun u hu=>ZgQ (a:=⟨wr.heap.size,3,none⟩) (by rw[Lib.cell_of_heap hu];rfl) (.tmp 39) (by kernel_rfl) (by kernel_rfl)⟩) hHeld ?_
  simp only[Act.put,Y_a,Y_b,Y_c]
  refine Y_t 9 41 _ (.int .i64 (cB+cBN)) rfl (Or.inl ⟨by kernel_rfl,fun u hu=>ZmY wBN (.tmp 38) (.tmp 40) (by kernel_rfl) (by kernel_rfl) (by kernel_rfl)⟩) hHeld ?_
  simp only[Act.put,Y_a,Y_b,Y_c]
  refine Y_t 10 10 _ (.int .i64 (cA+cAN)) rfl (Or.inl ⟨by kernel_rfl,fun u hu=>by kernel_rfl⟩) hHeld ?_
  simp only[Act.put,Y_a,Y_b,Y_c]
  refine Y_t 11 11 _ (.int .i64 (cB+cBN)) rfl (Or.inl ⟨by kernel_rfl,fun u hu=>by kernel_rfl⟩) hHeld ?_
  simp only[Act.put,Y_a,Y_b,Y_c]
  refine wpAnyH_done (by kernel_rfl) ?_ _
  refine NoPanic.normal ?_
  have hS2:=hS2.drew
  generalize w2.drew=w2 at hS2 ⊢
  clear hHeld
  go_wp2_with fail
  refine wp_region_noPanic ?_
  refine wp_region_held_drew (S:=fun u=>u.heap[wr.heap.size]?=some (.cells #[.int .i64 cA,.int .i64 cAN,.int .i64 cB,.int .i64 cBN] 43)) (by kernel_rfl) (hS2.drew.block hBO) (fun hHeld=>?_)
  refine Y_t 0 42 _ (.func (.func G) #[] cG) rfl (Or.inl ⟨by kernel_rfl,fun u hu=>by kernel_rfl⟩) hHeld ?_
  simp only[Act.put,Y_a,Y_b,Y_c]
  refine Y_t 1 43 _ (.slice aa A.length caa) rfl (Or.inl ⟨by kernel_rfl,fun u hu=>by kernel_rfl⟩) hHeld ?_
  simp only[Act.put,Y_a,Y_b,Y_c]
  refine Y_t 2 44 _ (.pointer (some ⟨wr.heap.size,0,none⟩)) rfl (Or.inl ⟨by kernel_rfl,fun u hu=>by kernel_rfl⟩) hHeld ?_
  simp only[Act.put,Y_a,Y_b,Y_c]
  refine Y_t 3 45 _ (.int .i64 cA) rfl (Or.inl ⟨by kernel_rfl,fun u hu=>ZgQ (a:=⟨wr.heap.size,0,none⟩) (by rw[Lib.cell_of_heap hu];rfl) (.tmp 44) (by kernel_rfl) (by kernel_rfl)⟩) hHeld ?_
  simp only[Act.put,Y_a,Y_b,Y_c]
  refine Y_t 4 46 _ (.int .i64 (cA+cAN)) rfl (Or.inl ⟨by kernel_rfl,fun u hu=>by kernel_rfl⟩) hHeld ?_
  simp only[Act.put,Y_a,Y_b,Y_c]
  refine Y_t 5 47 _ (.slice k3 (cut A cA cAN).length n3) rfl (Or.inl ⟨by kernel_rfl,fun u hu=>ZdE hk3 ⟨_,_,_,rfl⟩ (.tmp 43) (.tmp 45) (.tmp 46) (by kernel_rfl) (by kernel_rfl) (by kernel_rfl) (by kernel_rfl)⟩) hHeld ?_
  simp only[Act.put,Y_a,Y_b,Y_c]
  refine Y_t 6 48 _ (.slice ab B.length cab) rfl (Or.inl ⟨by kernel_rfl,fun u hu=>by kernel_rfl⟩) hHeld ?_
  simp only[Act.put,Y_a,Y_b,Y_c]
  refine Y_t 7 49 _ (.pointer (some ⟨wr.heap.size,2,none⟩)) rfl (Or.inl ⟨by kernel_rfl,fun u hu=>by kernel_rfl⟩) hHeld ?_
  simp only[Act.put,Y_a,Y_b,Y_c]
  refine Y_t 8 50 _ (.int .i64 cB) rfl (Or.inl ⟨by kernel_rfl,fun u hu=>ZgQ (a:=⟨wr.heap.size,2,none⟩) (by rw[Lib.cell_of_heap hu];rfl) (.tmp 49) (by kernel_rfl) (by kernel_rfl)⟩) hHeld ?_
  simp only[Act.put,Y_a,Y_b,Y_c]
  refine Y_t 9 51 _ (.int .i64 (cB+cBN)) rfl (Or.inl ⟨by kernel_rfl,fun u hu=>by kernel_rfl⟩) hHeld ?_
  simp only[Act.put,Y_a,Y_b,Y_c]
  refine Y_t 10 52 _ (.slice k4 (cut B cB cBN).length n4) rfl (Or.inl ⟨by kernel_rfl,fun u hu=>ZdE hk4 ⟨_,_,_,rfl⟩ (.tmp 48) (.tmp 50) (.tmp 51) (by kernel_rfl) (by kernel_rfl) (by kernel_rfl) (by kernel_rfl)⟩) hHeld ?_
  simp only[Act.put,Y_a,Y_b,Y_c]
  refine Y_e 11 53 _ rfl G (.tmp 42) #[.tmp 47,.tmp 52] #[23,23] (by kernel_rfl) cG (by kernel_rfl) #[.slice k3 (cut A cA cAN).length n3,.slice k4 (cut B cB cBN).length n4] (by kernel_rfl) eG (fun v w'=>v=.tuple #[]∧Vsd w b (BX::RS) P2 w') ((hC2 _ hS2.drew).mono (fun e u' h=>⟨_,h.1,h.2.block hBO,rfl,h.2⟩)) ?_
  rintro v3 w3 hHeld ⟨rfl,hS3⟩
  simp only[Act.put,Y_a,Y_b,Y_c]
  refine wpAnyH_done (by kernel_rfl) ?_ _
  refine NoPanic.normal ?_
  clear hC2 hS2 hHeld
  go_wp2
  exact⟨⟨k+1,cA+cAN,cB+cBN,P2,by omega,rfl,rfl,by go_num,by omega,by omega,by omega,by omega,hS3.less,HRt,HI2⟩,by simp[intOf];omega⟩
 ·have ek:k=l.length:=by omega
  have hend:¬ (k:Int)<(l.length:Int):=by omega
  have hI':=HI.out
  have hR':=HRi.out
  rw[List.drop_of_length_le (by omega)] at hI' hR'
  obtain⟨r1,r2,r3⟩:=hR'
  rw[ZlK _ _ _ _ _ _ HCP.out (by omega)] at hI'
  obtain⟨k1,n1,hk1,hs1⟩:=Zkr A aa caa a ha0 han wr haw
  obtain⟨k2,n2,hk2,hs2⟩:=Zkr B ab cab c hb0 hbm wr hbw
  have hC1:=fun u (h:Vsd w b RS P u)=>HF.out [] P T _ _ _ _ u h (fun _ u' h=>hs1 u' (ha.keep h.low (Nat.le_refl _))) (fun _ u' h=>hs2 u' (hb.keep h.low (Nat.le_refl _))) (fun _=>by
    have e1:((cut A a (A.length-a)).length:Int)=A.length-a:=ZeR ha0 (by omega) (by omega)
    have e2:((cut B c (B.length-c)).length:Int)=B.length-c:=ZeR hb0 (by omega) (by omega)
    omega) (fun q=>by cases q) (fun s hs=>Znh hs) (fun s hs=>Znh hs) Zdl Zdl hI' hT
  clear hI' hs1 hs2 HF HG HI HRi
  go_wp2_with fail
  refine wp_region_noPanic ?_
  refine wp_region_held_drew (S:=fun _=>True) (by kernel_rfl) trivial (fun hHeld=>?_)
  refine Y_t 0 55 _ (.func (.func F) #[] cF) rfl (Or.inl ⟨by kernel_rfl,fun u hu=>by kernel_rfl⟩) hHeld ?_
  simp only[Act.put,Y_a,Y_b,Y_c]
  refine Y_t 1 56 _ (.slice aa A.length caa) rfl (Or.inl ⟨by kernel_rfl,fun u hu=>by kernel_rfl⟩) hHeld ?_
  simp only[Act.put,Y_a,Y_b,Y_c]
  refine Y_t 2 57 _ (.int .i64 a) rfl (Or.inl ⟨by kernel_rfl,fun u hu=>by kernel_rfl⟩) hHeld ?_
  simp only[Act.put,Y_a,Y_b,Y_c]
  refine Y_t 3 58 _ (.slice k1 (cut A a (A.length-a)).length n1) rfl (Or.inl ⟨by kernel_rfl,fun u hu=>ZdD hk1 ⟨_,_,_,rfl⟩ (.tmp 56) (.tmp 57) (by kernel_rfl) (by kernel_rfl) (by kernel_rfl)⟩) hHeld ?_
  simp only[Act.put,Y_a,Y_b,Y_c]
  refine Y_t 4 59 _ (.slice ab B.length cab) rfl (Or.inl ⟨by kernel_rfl,fun u hu=>by kernel_rfl⟩) hHeld ?_
  simp only[Act.put,Y_a,Y_b,Y_c]
  refine Y_t 5 60 _ (.int .i64 c) rfl (Or.inl ⟨by kernel_rfl,fun u hu=>by kernel_rfl⟩) hHeld ?_
  simp only[Act.put,Y_a,Y_b,Y_c]
  refine Y_t 6 61 _ (.slice k2 (cut B c (B.length-c)).length n2) rfl (Or.inl ⟨by kernel_rfl,fun u hu=>ZdD hk2 ⟨_,_,_,rfl⟩ (.tmp 59) (.tmp 60) (by kernel_rfl) (by kernel_rfl) (by kernel_rfl)⟩) hHeld ?_
  simp only[Act.put,Y_a,Y_b,Y_c]
  refine Y_e 7 62 _ rfl F (.tmp 55) #[.tmp 58,.tmp 61] #[23,23] (by kernel_rfl) cF (by kernel_rfl) #[.slice k1 (cut A a (A.length-a)).length n1,.slice k2 (cut B c (B.length-c)).length n2] (by kernel_rfl) eF (fun v w'=>v=.tuple #[]∧Vsd w b RS T w') ((hC1 _ hP.drew).mono (fun e u' h=>⟨_,h.1,trivial,rfl,h.2⟩)) ?_
  rintro v3 w3 hHeld ⟨rfl,hS3⟩
  simp only[Act.put,Y_a,Y_b,Y_c]
  refine wpAnyH_done (by kernel_rfl) ?_ _
  refine NoPanic.normal ?_
  go_wp2
  go_end0
  exact⟨rfl,hS3⟩
end

section
theorem ZdG (l:List UInt8):∀ (k n m:Nat),m≤n→(Go.Proofs.YtcnjephlmcnodaaGreatDoor.Tx.Cn.expL k (l.take n)).take m=(Go.Proofs.YtcnjephlmcnodaaGreatDoor.Tx.Cn.expL k l).take m:=by
 induction l with
 | nil=>intro k n m h;rw[List.take_nil]
 | cons c r ih =>
  intro k n m h
  cases n with
  | zero =>
   obtain rfl:m=0:=by omega
   simp
  | succ n =>
   rw[List.take_succ_cons]
   by_cases hc:c=9
   ·subst hc
    rw[Go.Proofs.YtcnjephlmcnodaaGreatDoor.Tx.Cn.exp_tab,Go.Proofs.YtcnjephlmcnodaaGreatDoor.Tx.Cn.exp_tab,List.take_append,List.take_append,List.length_replicate,ih _ _ _ (by omega)]
   ·rw[Go.Proofs.YtcnjephlmcnodaaGreatDoor.Tx.Cn.exp_other hc,Go.Proofs.YtcnjephlmcnodaaGreatDoor.Tx.Cn.exp_other hc]
    cases m with
    | zero=>rfl
    | succ m=>rw[List.take_succ_cons,List.take_succ_cons,ih _ _ _ (by omega)]
theorem ZkS (w:Nat) (s:List UInt8):(Go.Proofs.YtcnjephlmcnodaaGreatDoor.Tx.Cn.expL 0 ((bareT s).take w)).take w=shT w s:=ZdG _ 0 w w (Nat.le_refl _)
theorem Znb {M:Nat}:∀ (L:List (List UInt8)),(∀ s∈L,s.length≤M)→L.flatten.length≤L.length * M
 | [],_=>by simp
 | s::L,h=>by
  have h1:=h s (by simp)
  have h2:=Znb L (fun t ht=>h t (by simp[ht]))
  rw[List.flatten_cons,List.length_append,List.length_cons,Nat.add_mul,Nat.one_mul]
  omega
theorem Zgs {w:Nat}:∀ (x y:List (List UInt8)),∀ s∈krT w x y,s.length≤2 * w+4
 | [],_,s,h=>by simp[krT] at h
 | _::_,[],s,h=>by simp[krT] at h
 | a::x,b::y,s,h=>by
  rw[krT,List.zipWith_cons_cons] at h
  rcases List.mem_cons.1 h with rfl | h
  ·exact Zno _ _ _ _
  ·exact Zgs x y s h
theorem Zdd {w:Nat}:∀ (x y:List (List UInt8)),∀ s∈crT w x y,s.length≤2 * w+4
 | [],y,s,h=>by
  rw[crT] at h
  obtain⟨_,_,rfl⟩:=List.mem_map.1 h
  exact Zno _ _ _ _
 | a::x,[],s,h=>by
  rw[crT] at h
  rcases List.mem_cons.1 h with rfl | h
  ·exact Zno _ _ _ _
  ·exact Zdd x [] s h
 | a::x,b::y,s,h=>by
  rw[crT] at h
  rcases List.mem_cons.1 h with rfl | h
  ·exact Zno _ _ _ _
  ·exact Zdd x y s h
theorem Znr {n m:Int} {l:List Ch}:∀ {f:Bool} {a b:Int},Right f a b n m l→vsN l≤m-b:=by
 induction l with
 | nil =>
  intro f a b h
  have:=h.le
  simp only[vsN]
  omega
 | cons c l ih =>
  intro f a b h
  have h0:=h.le
  obtain⟨⟨h1,h2,h3,h4⟩,h5⟩:=h
  rw[ZhO] at h1
  have h6:=ih h5
  simp only[vsN]
  omega
theorem Zny {w:Nat} {l:List Ch} {A B:List (List UInt8)} (h:Script l A.length B.length):(vsL w l A B).flatten.length≤(A.length+B.length) * (2 * w+4):=by
 have h1:=Znv (w:=w) h.2.2 (by decide) (by decide)
 have h2:=Znr h.2.2
 have h3:(vsL w l A B).length≤A.length+B.length:=by unfold vsL;omega
 have h4:=Znb (M:=2 * w+4) (vsL w l A B) (by
  intro s hs
  unfold vsL at hs
  obtain⟨x,_,hx⟩:=List.mem_flatMap.1 hs
  unfold vsP at hx
  rcases List.mem_append.1 hx with h | h
  ·exact Zgs _ _ s h
  ·exact Zdd _ _ s h)
 exact Nat.le_trans h4 (Nat.mul_le_mul_right _ h3)
end

section
open Go.RowKit Go.Proofs.YtcnjephlmcnodaaGreatDoor.Tx
attribute [local go_sem] ByteArray.extract_mk ZhN
theorem ZmE (l:List UInt8) (w:World) (hl:l.length≤1099511627776) :
  Calls Tryz.prog 47 #[.string ⟨l.toArray⟩] w fun e w'=>e=.returned (.string ⟨(Cn.expL 0 l).toArray⟩)∧Below w.heap.size w w':=by
 have hbc:∀ l:List UInt8,(Lib.byteCells l).length=l.length:=fun l=>by simp[Lib.byteCells]
 have hwl:=Cn.exp_len l 0
 go_enter Tryz.func47,Tryz.ntmps47
 go_wp2
 go_loopw [4,7] (fun _ i wr=>∃ (k:Nat) (acc:List UInt8) (v:Value),k≤l.length∧i=.int .i64 k∧Bld 58 5 w.heap.size w.heap.size v (Lib.byteCells acc) wr∧Below w.heap.size w wr∧acc++Cn.expL acc.length (l.drop k)=Cn.expL 0 l) (fun _ i _=>l.length-(intOf i).toNat)
 case atStart=>exact⟨0,[],_,Nat.zero_le _,rfl,Bld.fresh 58 5 w,(Below.refl _ w).alloc (Nat.le_refl _) _,rfl⟩
 case round =>
  obtain⟨k,acc,v,hk,rfl,hB,hbr,hacc⟩:=hrel
  have hal:acc.length≤8 * l.length:=by
   have h1:=congrArg List.length hacc
   rw[List.length_append] at h1
   omega
  have hbz:=hbr.size
  by_cases hlt:k<l.length
  ·have hdk:l.drop k=l[k]::l.drop (k+1):=List.drop_eq_getElem_cons hlt
   rw[hdk] at hacc
   clear hdk
   by_cases hc:l[k]=9
   ·obtain⟨n,hn⟩:∃ n,8-acc.length % 8=n:=⟨_,rfl⟩
    have HD:Hid (acc++List.replicate n 32++Cn.expL (acc++List.replicate n 32).length (l.drop (k+1))=Cn.expL 0 l):=by
     rw[hc,Cn.exp_tab,hn] at hacc
     show _=_
     rw[← hacc,List.append_assoc,List.length_append,List.length_replicate]
    clear hacc
    have hb9:((l[k].toNat:Int) != 9)=false:=by rw[hc];rfl
    have HN:Hid ((8:Int)-(acc.length:Int) % 8=(n:Int)):=by show _=_;omega
    have hn8:n≤8:=by omega
    clear hn hc
    go_wp2_with fail
    refine (Tryz.Builder_Len_f w.heap.size w.heap.size _ wr hB.isF).mono ?_
    rintro e w1 ⟨rfl,rfl⟩
    rw[hbc]
    go_wp2_with fail
    rw[HN.out]
    refine (Tryz.strings_Repeat ⟨#[32]⟩ n _ (by omega) (by show 1 * n≤_;omega)).mono ?_
    rintro e w2 ⟨rfl,hb2⟩
    have hr:Lib.repeatL (⟨#[32]⟩:ByteArray).data.toList n=List.replicate n 32:=Cn.rep_blank n
    rw[hr]
    have hB1:=hB.kept hb2.block
    have hbb:=hbr.trans (hb2.mono hbz)
    have hbz2:=hbb.size
    clear hB hb2 hr
    go_wp2_with fail
    refine (ZbT Zgt w.heap.size w.heap.size v _ (List.replicate n 32) w2 hB1 (by rw[hbc,List.length_replicate];omega) hbz2).mono ?_
    rintro e w3 ⟨rfl,v',hB2,hw3⟩
    have hB3:Bld 58 5 w.heap.size w.heap.size v' (Lib.byteCells (acc++List.replicate n 32)) w3:=by rw[Lib.byteCells_append];exact hB2
    have hb3:=hbb.trans hw3.below
    clear hB2 hw3 hbb hB1
    go_wp2
    go_roundw
    case rel=>exact⟨k+1,acc++List.replicate n 32,v',by omega,by go_num,hB3,hb3,HD.out⟩
    case measure=>simp[intOf];omega
   ·have HD:Hid (acc++[l[k]]++Cn.expL (acc++[l[k]]).length (l.drop (k+1))=Cn.expL 0 l):=by
     rw[Cn.exp_other hc] at hacc
     show _=_
     rw[← hacc,List.append_assoc,List.length_append];rfl
    clear hacc
    have hb9:((l[k].toNat:Int) != 9)=true:=(not9 hc).2
    go_wp2_with fail
    refine (ZbS Zgt w.heap.size w.heap.size v _ (l[k].toNat:Int) wr hB (by rw[hbc];omega) hbz).mono ?_
    rintro e w2 ⟨rfl,v',hB2,hw2⟩
    rw[← ZbR] at hB2
    have hb2:=hbr.trans hw2.below
    clear hw2 hB
    go_wp2
    go_roundw
    case rel=>exact⟨k+1,acc++[l[k]],v',by omega,by go_num,hB2,hb2,HD.out⟩
    case measure=>simp[intOf];omega
  ·have HD:Hid (acc=Cn.expL 0 l):=by
    have e:l.drop k=[]:=List.drop_eq_nil_of_le (by omega)
    rw[e] at hacc
    show acc=_
    simpa [Cn.expL] using hacc
   clear hacc
   go_wp2_with fail
   refine (Tryz.Builder_String_any_k w.heap.size w.heap.size acc wr hB.isF hbz).mono ?_
   rintro e w2 ⟨rfl,-,hb2,-⟩
   go_wp2
   go_ret
   rw[HD.out]
   exact⟨rfl,hbr.trans hb2⟩
theorem ZmF (l:List UInt8) (n:Nat) (h2:n≤200) (w:World) (T:List UInt8) (HT:Hid (l.take n=T)) :
  Calls Tryz.prog 46 #[.string ⟨l.toArray⟩,.int .i64 (n:Int)] w fun e w'=>e=.returned (.string ⟨T.toArray⟩)∧w=w':=by
 go_enter Tryz.func46,Tryz.ntmps46
 by_cases hle:n≤l.length
 ·have m1:min (l.length:Int) (n:Int)=(n:Int):=by omega
  have i1:(0:Int)≤(n:Int):=by omega
  have i2:(n:Int)≤(l.length:Int):=by omega
  have i3:(n:Int).toNat=n:=by omega
  go_wp2
  go_ret
  exact⟨by rw[← HT.out];simp,rfl⟩
 ·have m1:min (l.length:Int) (n:Int)=(l.length:Int):=by omega
  have i1:(0:Int)≤(l.length:Int):=by omega
  have i3:(l.length:Int).toNat=l.length:=by omega
  have e1:l.take n=l:=List.take_of_length_le (by omega)
  go_wp2
  go_ret
  exact⟨by rw[← HT.out,e1];simp,rfl⟩
theorem ZmR (l:List UInt8) (n:Nat) (h2:n≤200) (w:World) (hl:l.length≤1099511627776) (T:List UInt8) (HT:Hid (shT n l=T)) :
  Calls Tryz.prog 31 #[.string ⟨l.toArray⟩,.int .i64 (n:Int)] w fun e w'=>e=.returned (.string ⟨T.toArray⟩)∧Below w.heap.size w w':=by
 obtain⟨F,hF⟩:∃ F,(bareT l).take n=F:=⟨_,rfl⟩
 obtain⟨E,hE⟩:∃ E,Cn.expL 0 F=E:=⟨_,rfl⟩
 have hFl:F.length≤200:=by rw[← hF,List.length_take];omega
 have hc:=fun u=>ZmE F u (by omega)
 rw[hE] at hc
 have HF:Hid ((bareT l).take n=F):=hF
 have HT2:Hid (E.take n=T):=(by show _=_;rw[← HT.out,← ZkS,← hE,← hF])
 clear HT hE hF
 go_enter Tryz.func31,Tryz.ntmps31
 go_wp2_with fail
 refine (Zmv l _ (by omega)).mono ?_
 rintro e w1 ⟨rfl,rfl⟩
 go_wp2_with fail
 refine (ZmF (bareT l) n h2 _ F HF).mono ?_
 rintro e w1 ⟨rfl,rfl⟩
 go_wp2_with fail
 refine (hc w).mono ?_
 rintro e w2 ⟨rfl,hB⟩
 clear hc
 go_wp2_with fail
 refine (ZmF E n h2 _ T HT2).mono ?_
 rintro e w1 ⟨rfl,rfl⟩
 go_wp2
 go_ret
 exact⟨rfl,hB⟩
end

section
open Go.RowKit Go.Proofs.YtcnjephlmcnodaaGreatDoor.Tx
structure V4 (p q r s:Addr) (x y z v:Value) (W u:World):Prop where
 c0:u.cell? p=some x
 c1:u.cell? q=some y
 c2:u.cell? r=some z
 c3:u.cell? s=some v
 low:Below W.heap.size W u
theorem Zmu (p q r s:Addr) (x y z v:Value) (W u:World):V4 p q r s x y z v W u.drew↔V4 p q r s x y z v W u:=⟨fun h=>⟨h.c0,h.c1,h.c2,h.c3,⟨h.low.os,h.low.tape,h.low.output,h.low.size,h.low.block⟩⟩,fun h=>⟨h.c0,h.c1,h.c2,h.c3,Below.dN h.low 1⟩⟩
theorem ZcV {w:Nat} (O:List (List UInt8)):∀ (F:List (List UInt8)) (q:Nat) (h:q<(crT w O F).length),(crT w O F)[q]=if h1:q<O.length then (if h2:q<F.length then rowT w O[q] 124 F[q] else rowT w O[q] 60 []) else (if h2:q<F.length then rowT w [] 62 F[q] else []):=by
 induction O with
 | nil =>
  intro F q h
  simp only[crT,List.length_map] at h
  simp[crT,h]
 | cons x O ih =>
  intro F q h
  cases F with
  | nil =>
   cases q with
   | zero=>simp[crT]
   | succ q =>
    simp only[crT,List.length_cons] at h
    have:=ih [] q (by omega)
    simp only[crT,List.getElem_cons_succ,this]
    simp
  | cons y F =>
   cases q with
   | zero=>simp[crT]
   | succ q =>
    simp only[crT,List.length_cons] at h
    have:=ih F q (by omega)
    simp only[crT,List.getElem_cons_succ,this]
    simp
theorem ZcY {w:Nat} {O F:List (List UInt8)} {q:Nat} (h:q<(crT w O F).length):((crT w O F).take (q+1)).flatten=((crT w O F).take q).flatten++(crT w O F)[q]:=by
 rw[List.take_succ_eq_append_getElem h,List.flatten_append]
 simp
theorem Zee (L:List (List UInt8)) (q:Nat):(L.take q).flatten.length≤L.flatten.length:=by
 have e:L=L.take q++L.drop q:=(List.take_append_drop q L).symm
 conv=>rhs;rw[e]
 rw[List.flatten_append,List.length_append]
 omega
theorem ZcW {w:Nat} {O F:List (List UInt8)} {q:Nat} (h1:q<O.length) (h2:q<F.length):((crT w O F).take (q+1)).flatten=((crT w O F).take q).flatten++rowT w O[q] 124 F[q]:=by
 rw[ZcY (by rw[ZcX];omega),ZcV O F q (by rw[ZcX];omega),dif_pos h1,dif_pos h2]
theorem Zda {w:Nat} {O F:List (List UInt8)} {q:Nat} (h1:q<O.length) (h2:F.length≤q):((crT w O F).take (q+1)).flatten=((crT w O F).take q).flatten++rowT w O[q] 60 []:=by
 rw[ZcY (by rw[ZcX];omega),ZcV O F q (by rw[ZcX];omega),dif_pos h1,dif_neg (by omega)]
theorem ZcZ {w:Nat} {O F:List (List UInt8)} {q:Nat} (h1:O.length≤q) (h2:q<F.length):((crT w O F).take (q+1)).flatten=((crT w O F).take q).flatten++rowT w [] 62 F[q]:=by
 rw[ZcY (by rw[ZcX];omega),ZcV O F q (by rw[ZcX];omega),dif_neg (by omega),dif_pos h2]
def vsE (l:List Ch) (n m:Int) (width:Int):Int:=if chk l n m≠0 then chk l n m else if 1≤width∧width≤200 then 0 else 2
end

section
open Go.RowKit Go.Proofs.YtcnjephlmcnodaaGreatDoor.Tx
attribute [local go_sem] ZhN
theorem Znf {u:World} {p q r:Int} (h:IntKind.i64.wrap (p-q)=r) {op:Oper} (x l:Operand) (ho:op.op=.binOp .sub 3 x l 3) {ev:Operand→Value} (hx:ev x=.int .i64 p) (hl:ev l=.int .i64 q) :
  (execOp ev op).run Tryz.prog u=.ok (.value (.int .i64 r)) u:=by
 subst h
 simp only[execOp,ho,hx,hl]
 go_simp
theorem Zna {x y z:List UInt8} (h:∀ u:World,(Op.stringOp .add ⟨x.toArray⟩ ⟨y.toArray⟩).run Tryz.prog u=.ok (.string ⟨z.toArray⟩) u) {u:World} {op:Oper} (a b:Operand) (ho:op.op=.binOp .add 9 a b 9) {ev:Operand→Value} (ha:ev a=.string ⟨x.toArray⟩) (hb:ev b=.string ⟨y.toArray⟩) :
  (execOp ev op).run Tryz.prog u=.ok (.value (.string ⟨z.toArray⟩)) u:=by
 simp only[execOp,ho,ha,hb]
 go_simp
theorem Znc {u:World} {b off n c i:Nat} (hi:i<n) {op:Oper} (x y:Operand) (ho:op.op=.indexAddr 23 x y) {ev:Operand→Value} (hx:ev x=.slice (some ⟨b,off,none⟩) n c) (hy:ev y=.int .i64 (i:Int)) :
  (execOp ev op).run Tryz.prog u=.ok (.value (.pointer (some ⟨b,off+i,none⟩))) u:=by
 have h1:(0:Int)≤(i:Int):=by omega
 have h2:(i:Int)<(n:Int):=by omega
 simp only[execOp,ho,hx,hy]
 go_simp
theorem Zne {u:World} {a:Addr} {s:List UInt8} (h:u.cell? a=some (.string ⟨s.toArray⟩)) {op:Oper} (x:Operand) (ho:op.op=.load 9 x) {ev:Operand→Value} (hx:ev x=.pointer (some a)) :
  (execOp ev op).run Tryz.prog u=.ok (.value (.string ⟨s.toArray⟩)) u:=by
 simp only[execOp,ho,hx]
 go_simp
theorem Znd {u:World} {a:Addr} {n:Nat} {c:Array Value} (h:u.cell? a=some (.func (.func n) #[] c)) {op:Oper} (x:Operand) (ho:op.op=.load 79 x) {ev:Operand→Value} (hx:ev x=.pointer (some a)) :
  (execOp ev op).run Tryz.prog u=.ok (.value (.func (.func n) #[] c)) u:=by
 simp only[execOp,ho,hx]
 go_simp
theorem ZmQ (w:World) (b pw n:Nat) (h2:n≤200) (RS:List (Nat × Obj)) (hpw:(pw,Obj.cells #[.int .i64 (n:Int)] 3)∈RS) (x y:List UInt8) (g:UInt8) (hx:x.length≤1099511627776) (hy:y.length≤1099511627776) (T Z:List UInt8) (HZ:Hid (T++rowT n x g y=Z)) (hZ:Z.length≤70368744177664) (u:World) (hu:Vsd w b RS T u) :
  Calls Tryz.prog 30 #[.string ⟨x.toArray⟩,.string ⟨#[g]⟩,.string ⟨y.toArray⟩,.pointer (some ⟨pw,0,none⟩),.pointer (some ⟨b,0,none⟩)] u fun e u'=>e=.returned (.tuple #[])∧Vsd w b RS Z u':=by
 obtain⟨SH,hSH⟩:∃ s,shT n x=s:=⟨_,rfl⟩
 obtain⟨SY,hSY⟩:∃ s,shT n y=s:=⟨_,rfl⟩
 have l1:=ZkT n x
 have l2:=ZkT n y
 rw[hSH] at l1
 rw[hSY] at l2
 obtain⟨D,hD⟩:∃ D,n-SH.length=D:=⟨_,rfl⟩
 obtain⟨RP,hRP⟩:∃ R,List.replicate D (32:UInt8)=R:=⟨_,rfl⟩
 have l3:RP.length=D:=by rw[← hRP,List.length_replicate]
 have wD:IntKind.i64.wrap ((n:Int)-(SH.length:Int))=(D:Int):=by rw[show (n:Int)-(SH.length:Int)=(D:Int) by omega];exact wrap_small _ (by omega) (by omega)
 obtain⟨U1,hU1⟩:∃ U,SH++RP=U:=⟨_,rfl⟩
 obtain⟨U2,hU2⟩:∃ U,U1++[32]=U:=⟨_,rfl⟩
 obtain⟨U3,hU3⟩:∃ U,U2++[g]=U:=⟨_,rfl⟩
 obtain⟨U4,hU4⟩:∃ U,U3++[32]=U:=⟨_,rfl⟩
 obtain⟨U5,hU5⟩:∃ U,U4++SY=U:=⟨_,rfl⟩
 obtain⟨RW,hRW⟩:∃ U,trB U5=U:=⟨_,rfl⟩
 obtain⟨RZ,hRZ⟩:∃ U,RW++[10]=U:=⟨_,rfl⟩
 have n1:=congrArg List.length hU1
 have n2:=congrArg List.length hU2
 have n3:=congrArg List.length hU3
 have n4:=congrArg List.length hU4
 have n5:=congrArg List.length hU5
 simp only[List.length_append,List.length_cons,List.length_nil] at n1 n2 n3 n4 n5
 have n6:=ZnA U5
 have l5:U5.length≤9223372036854775807:=by omega
 rw[hRW] at n6
 have q1:=Zbg (x:=SH) (y:=RP) (by unfold Fits;omega) Tryz.prog
 have q2:=Zbg (x:=U1) (y:=[32]) (by unfold Fits;simp only[List.length_cons,List.length_nil];omega) Tryz.prog
 have q3:=Zbg (x:=U2) (y:=[g]) (by unfold Fits;simp only[List.length_cons,List.length_nil];omega) Tryz.prog
 have q4:=Zbg (x:=U3) (y:=[32]) (by unfold Fits;simp only[List.length_cons,List.length_nil];omega) Tryz.prog
 have q5:=Zbg (x:=U4) (y:=SY) (by unfold Fits;omega) Tryz.prog
 have q6:=Zbg (x:=RW) (y:=[10]) (by unfold Fits;simp only[List.length_cons,List.length_nil];omega) Tryz.prog
 rw[hU1] at q1
 rw[hU2] at q2
 rw[hU3] at q3
 rw[hU4] at q4
 rw[hU5] at q5
 rw[hRZ] at q6
 have HZ2:Hid (T++RZ=Z):=(by
  show _=_
  rw[← HZ.out,← hRZ,← hRW,← hU5,← hU4,← hU3,← hU2,← hU1,← hRP,← hD,← hSH,← hSY]
  simp[rowT,padT])
 have HSH:Hid (shT n x=SH):=hSH
 have hSho:=fun v (hv:Vsd w b RS T v)=>(ZmR y n h2 v hy SY hSY).mono (R':=fun e v'=>e=.returned (.string ⟨SY.toArray⟩)∧Vsd w b RS T v') (by rintro e v' ⟨rfl,hB⟩;exact⟨rfl,hv.keep hB⟩)
 have hRep:=fun v (hv:Vsd w b RS T v)=>(Tryz.strings_Repeat ⟨#[32]⟩ D v (by omega) (by show 1 * D≤_;omega)).mono (R':=fun e v'=>e=.returned (.string ⟨RP.toArray⟩)∧Vsd w b RS T v') (by
  rintro e v' ⟨rfl,hB⟩
  have hr:Lib.repeatL (⟨#[32]⟩:ByteArray).data.toList D=RP:=(Cn.rep_blank D).trans hRP
  rw[hr]
  exact⟨rfl,hv.keep hB⟩)
 have HRW:Hid (trB U5=RW):=hRW
 clear HZ hSH hSY hD hRP hU1 hU2 hU3 hU4 hU5 hRW hRZ n1 n2 n3 n4 n5
 have c0:u.cell? ⟨pw,0,none⟩=some (.int .i64 (n:Int)):=hu.cell hpw 0
 go_enter Tryz.func30,Tryz.ntmps30
 go_wp2_with fail
 refine (ZmR x n h2 _ hx SH HSH).mono ?_
 rintro e w1 ⟨rfl,hB1⟩
 have hP:=hu.keep hB1
 clear hu hB1 c0
 go_wp2_with fail
 refine wp_region_noPanic ?_
 refine wp_region_held_drew (S:=Vsd w b RS T) (by kernel_rfl) hP.drew (fun hHeld=>?_)
 have hP:=hP.drew
 generalize w1.drew=w1 at hP hHeld ⊢
 refine Y_t 0 13 _ (.string ⟨SH.toArray⟩) rfl (Or.inl ⟨by kernel_rfl,fun u hu=>by kernel_rfl⟩) hHeld ?_
 simp only[Act.put,Y_a,Y_b,Y_c]
 refine Y_t 1 14 _ (.int .i64 (n:Int)) rfl (Or.inl ⟨by kernel_rfl,fun u hu=>ZgQ (a:=⟨pw,0,none⟩) (hu.cell hpw 0) (.tmp 3) (by kernel_rfl) (by kernel_rfl)⟩) hHeld ?_
 simp only[Act.put,Y_a,Y_b,Y_c]
 refine Y_t 2 15 _ (.string ⟨SH.toArray⟩) rfl (Or.inl ⟨by kernel_rfl,fun u hu=>by kernel_rfl⟩) hHeld ?_
 simp only[Act.put,Y_a,Y_b,Y_c]
 refine Y_t 3 16 _ (.int .i64 (SH.length:Int)) rfl (Or.inl ⟨by kernel_rfl,fun u hu=>by kernel_rfl⟩) hHeld ?_
 simp only[Act.put,Y_a,Y_b,Y_c]
 refine Y_t 4 17 _ (.int .i64 (D:Int)) rfl (Or.inl ⟨by kernel_rfl,fun u hu=>Znf wD (.tmp 14) (.tmp 16) (by kernel_rfl) (by kernel_rfl) (by kernel_rfl)⟩) hHeld ?_
 simp only[Act.put,Y_a,Y_b,Y_c]
 refine Y_t 8 21 _ (.string ⟨#[g]⟩) rfl (Or.inl ⟨by kernel_rfl,fun u hu=>by kernel_rfl⟩) hHeld ?_
 simp only[Act.put,Y_a,Y_b,Y_c]
 refine Y_t 11 24 _ (.string ⟨y.toArray⟩) rfl (Or.inl ⟨by kernel_rfl,fun u hu=>by kernel_rfl⟩) hHeld ?_
 simp only[Act.put,Y_a,Y_b,Y_c]
 refine Y_t 12 25 _ (.int .i64 (n:Int)) rfl (Or.inl ⟨by kernel_rfl,fun u hu=>ZgQ (a:=⟨pw,0,none⟩) (hu.cell hpw 0) (.tmp 3) (by kernel_rfl) (by kernel_rfl)⟩) hHeld ?_
 simp only[Act.put,Y_a,Y_b,Y_c]
 refine Zex 5 18 _ rfl (by kernel_rfl) (by kernel_rfl) (by kernel_rfl) 32 #[.const (.string ⟨#[32]⟩),.tmp 17] #[9,3] (by kernel_rfl) #[.string ⟨#[32]⟩,.int .i64 (D:Int)] (by kernel_rfl) (enters_of Tryz.func32 (by kernel_rfl) rfl) (.string ⟨RP.toArray⟩) (hRep _ hHeld) ?_
 intro wy hHeld
 simp only[Act.put,Y_a,Y_b,Y_c]
 refine Y_t 6 19 _ (.string ⟨U1.toArray⟩) rfl (Or.inl ⟨by kernel_rfl,fun u hu=>Zna q1 (.tmp 13) (.tmp 18) (by kernel_rfl) (by kernel_rfl) (by kernel_rfl)⟩) hHeld ?_
 simp only[Act.put,Y_a,Y_b,Y_c]
 refine Y_t 7 20 _ (.string ⟨U2.toArray⟩) rfl (Or.inl ⟨by kernel_rfl,fun u hu=>Zna q2 (.tmp 19) (.const (.string ⟨#[32]⟩)) (by kernel_rfl) (by kernel_rfl) (by kernel_rfl)⟩) hHeld ?_
 simp only[Act.put,Y_a,Y_b,Y_c]
 refine Y_t 9 22 _ (.string ⟨U3.toArray⟩) rfl (Or.inl ⟨by kernel_rfl,fun u hu=>Zna q3 (.tmp 20) (.tmp 21) (by kernel_rfl) (by kernel_rfl) (by kernel_rfl)⟩) hHeld ?_
 simp only[Act.put,Y_a,Y_b,Y_c]
 refine Y_t 10 23 _ (.string ⟨U4.toArray⟩) rfl (Or.inl ⟨by kernel_rfl,fun u hu=>Zna q4 (.tmp 22) (.const (.string ⟨#[32]⟩)) (by kernel_rfl) (by kernel_rfl) (by kernel_rfl)⟩) hHeld ?_
 simp only[Act.put,Y_a,Y_b,Y_c]
 refine Zex 13 26 _ rfl (by kernel_rfl) (by kernel_rfl) (by kernel_rfl) 31 #[.tmp 24,.tmp 25] #[9,3] (by kernel_rfl) #[.string ⟨y.toArray⟩,.int .i64 (n:Int)] (by kernel_rfl) (enters_of Tryz.func31 (by kernel_rfl) rfl) (.string ⟨SY.toArray⟩) (hSho _ hHeld) ?_
 intro wy hHeld
 simp only[Act.put,Y_a,Y_b,Y_c]
 refine Y_t 14 27 _ (.string ⟨U5.toArray⟩) rfl (Or.inl ⟨by kernel_rfl,fun u hu=>Zna q5 (.tmp 23) (.tmp 26) (by kernel_rfl) (by kernel_rfl) (by kernel_rfl)⟩) hHeld ?_
 simp only[Act.put,Y_a,Y_b,Y_c]
 refine Y_t 15 9 _ (.string ⟨U5.toArray⟩) rfl (Or.inl ⟨by kernel_rfl,fun u hu=>by kernel_rfl⟩) hHeld ?_
 simp only[Act.put,Y_a,Y_b,Y_c]
 refine wpAnyH_done (by kernel_rfl) ?_ _
 refine NoPanic.normal ?_
 go_wp2_with fail
 refine (Tryz.strings_TrimRight_one ⟨U5.toArray⟩ 32 (by decide) _ l5).mono ?_
 rintro e w5 ⟨rfl,rfl⟩
 have hT5:Lib.trimRightB (⟨U5.toArray⟩:ByteArray).data.toList 32=RW:=HRW.out
 rw[hT5]
 go_wp2_with fail
 refine (hHeld.str HZ2.out hZ).mono ?_
 rintro e w6 ⟨⟨z,rfl⟩,hP6⟩
 go_wp2
 go_end0
 exact⟨rfl,hP6⟩
def sdRS (b pw pr n:Nat):List (Nat × Obj):=[(pr,.cells #[.func (.func 30) #[] #[.pointer (some ⟨pw,0,none⟩),.pointer (some ⟨b,0,none⟩)]] 79),(pw,.cells #[.int .i64 (n:Int)] 3)]
theorem ZkM (b pw pr n:Nat) (R2:List (Nat × Obj)):(pr,Obj.cells #[.func (.func 30) #[] #[.pointer (some ⟨pw,0,none⟩),.pointer (some ⟨b,0,none⟩)]] 79)∈R2++sdRS b pw pr n:=List.mem_append_right _ (by simp[sdRS])
theorem ZkN (b pw pr n:Nat) (R2:List (Nat × Obj)):(pw,Obj.cells #[.int .i64 (n:Int)] 3)∈R2++sdRS b pw pr n:=List.mem_append_right _ (by simp[sdRS])
theorem Zfo {u:World} {bk off n c:Nat} {l:List (List UInt8)} (h:HS u (.slice (some ⟨bk,off,none⟩) n c) l) {k:Nat} (hk:k<l.length):u.cell? ⟨bk,off+k,none⟩=some (.string ⟨l[k].toArray⟩):=by
 obtain⟨b,o,e,_,hc⟩:=HS.at h (by omega)
 cases e
 exact hc k hk
theorem ZmJ (w:World) (b pw pr n:Nat) (h2:n≤200) (A B:List (List UInt8)) (hA:A.length≤1099511627776) (_:B.length≤1099511627776) (HTA:Hid (∀ s∈A,s.length≤1099511627776)) (HTB:Hid (∀ s∈B,s.length≤1099511627776)) :
  Wrt w b (sdRS b pw pr n) A B 34 #[.pointer (some ⟨pr,0,none⟩)] true (fun x y=>(krT n x y).flatten):=by
 intro R2 T Z X Y vx vy u hu hx hy hq1 hq2 mX mY lX lY HZ hZ
 replace HZ:Hid (T++(krT n X Y).flatten=Z):=HZ
 obtain⟨xo,xc,rfl⟩:=Holds.form (hx T u hu)
 obtain⟨yo,yc,rfl⟩:=Holds.form (hy T u hu)
 have HX:Hid (∀ T' u',Vsd w b (R2++sdRS b pw pr n) T' u'→HS u' (.slice xo X.length xc) X):=hx
 have HY:Hid (∀ T' u',Vsd w b (R2++sdRS b pw pr n) T' u'→HS u' (.slice yo Y.length yc) Y):=hy
 have HTX:Hid (∀ s∈X,s.length≤1099511627776):=fun s hs=>HTA.out s (mX s hs)
 have HTY:Hid (∀ s∈Y,s.length≤1099511627776):=fun s hs=>HTB.out s (mY s hs)
 have HXY:Hid (X.length=Y.length):=hq1 rfl
 have H0:Hid (T++(krT n (X.drop 0) (Y.drop 0)).flatten=Z):=HZ.out
 clear hx hy mX mY HTA HTB HZ hq1 hq2
 show Calls Tryz.prog 34 #[.slice xo X.length xc,.slice yo Y.length yc,.pointer (some ⟨pr,0,none⟩)] u _
 go_enter Tryz.func34,Tryz.ntmps34
 go_wp2
 go_loopw [9] (fun i wr=>∃ (k:Nat) (P:List UInt8),k≤X.length∧i=.int .i64 (k:Int)∧Vsd w b (R2++sdRS b pw pr n) P wr∧Hid (P++(krT n (X.drop k) (Y.drop k)).flatten=Z)) (fun i _=>X.length-(intOf i).toNat)
 case atStart=>exact⟨0,T,Nat.zero_le _,by go_num,hu,H0⟩
 case round =>
 clear H0 hu
 obtain⟨k,P,hk,rfl,hP,HI⟩:=hrel
 by_cases hlt:k<X.length
 ·have hltY:k<Y.length:=by have:=HXY.out;omega
  obtain⟨bk,off,rfl,hbk,hc⟩:=HS.at (HX.out P wr hP) (by omega)
  obtain⟨bk2,off2,rfl,hbk2,hc2⟩:=HS.at (HY.out P wr hP) (by omega)
  have c1:=hc k hlt
  have HCY:Hid (∀ u,(∃ P,Vsd w b (R2++sdRS b pw pr n) P u)→u.cell? ⟨bk2,off2+k,none⟩=some (.string ⟨Y[k].toArray⟩)):=(fun u hu=>Zfo (HY.out _ u hu.choose_spec) hltY)
  have hI:=HI.out
  have l3:=HTX.out X[k] (List.getElem_mem hlt)
  have l4:=HTY.out Y[k] (List.getElem_mem hltY)
  rw[List.drop_eq_getElem_cons hlt,List.drop_eq_getElem_cons hltY,krT,List.zipWith_cons_cons,List.flatten_cons,← List.append_assoc] at hI
  obtain⟨x,hx⟩:∃ x,X[k]=x:=⟨_,rfl⟩
  obtain⟨y,hy⟩:∃ y,Y[k]=y:=⟨_,rfl⟩
  rw[hx] at c1 hI l3
  rw[hy] at HCY hI l4
  obtain⟨P1,hP1⟩:∃ Q,P++rowT n x 32 y=Q:=⟨_,rfl⟩
  rw[hP1] at hI
  have HI2:Hid (P1++(krT n (X.drop (k+1)) (Y.drop (k+1))).flatten=Z):=hI
  have z1:P1.length≤70368744177664:=(by have:=congrArg List.length hI;rw[List.length_append] at this;omega)
  have HP1:Hid (P++rowT n x 32 y=P1):=hP1
  have i1:(0:Int)≤(k:Int):=by omega
  have i2:(k:Int)<(X.length:Int):=by omega
  clear hc hc2 hx hy hI HI hP1
  go_wp2_with fail
  refine wp_region_noPanic ?_
  refine wp_region_held_drew (S:=fun u=>∃ P,Vsd w b (R2++sdRS b pw pr n) P u) (by kernel_rfl) ⟨_,hP.drew⟩ (fun hHeld=>?_)
  refine Y_t 0 14 _ (.func (.func 30) #[] #[.pointer (some ⟨pw,0,none⟩),.pointer (some ⟨b,0,none⟩)]) rfl (Or.inl ⟨by kernel_rfl,fun u hu=>Znd (a:=⟨pr,0,none⟩) ((Exists.choose_spec hu).cell (ZkM b pw pr n R2) 0) (.tmp 2) (by kernel_rfl) (by kernel_rfl)⟩) hHeld ?_
  simp only[Act.put,Y_a,Y_b,Y_c]
  refine Y_t 1 15 _ (.string ⟨x.toArray⟩) rfl (Or.inl ⟨by kernel_rfl,fun u hu=>by kernel_rfl⟩) hHeld ?_
  simp only[Act.put,Y_a,Y_b,Y_c]
  refine Y_t 2 16 _ (.slice (some ⟨bk2,off2,none⟩) Y.length yc) rfl (Or.inl ⟨by kernel_rfl,fun u hu=>by kernel_rfl⟩) hHeld ?_
  simp only[Act.put,Y_a,Y_b,Y_c]
  refine Y_t 3 17 _ (.int .i64 (k:Int)) rfl (Or.inl ⟨by kernel_rfl,fun u hu=>by kernel_rfl⟩) hHeld ?_
  simp only[Act.put,Y_a,Y_b,Y_c]
  refine Y_t 4 18 _ (.pointer (some ⟨bk2,off2+k,none⟩)) rfl (Or.inl ⟨by kernel_rfl,fun u hu=>Znc (c:=yc) (i:=k) hltY (.tmp 16) (.tmp 17) (by kernel_rfl) (by kernel_rfl) (by kernel_rfl)⟩) hHeld ?_
  simp only[Act.put,Y_a,Y_b,Y_c]
  refine Y_t 5 19 _ (.string ⟨y.toArray⟩) rfl (Or.inl ⟨by kernel_rfl,fun u hu=>Zne (a:=⟨bk2,off2+k,none⟩) (HCY.out u hu) (.tmp 18) (by kernel_rfl) (by kernel_rfl)⟩) hHeld ?_
  simp only[Act.put,Y_a,Y_b,Y_c]
  refine Y_e 6 20 _ rfl 30 (.tmp 14) #[.tmp 15,.const (.string ⟨#[32]⟩),.tmp 19] #[9,9,9] (by kernel_rfl) #[.pointer (some ⟨pw,0,none⟩),.pointer (some ⟨b,0,none⟩)] (by kernel_rfl) #[.string ⟨x.toArray⟩,.string ⟨#[32]⟩,.string ⟨y.toArray⟩] (by kernel_rfl) (enters_of Tryz.func30 (by kernel_rfl) rfl) (fun v w'=>v=.tuple #[]∧Vsd w b (R2++sdRS b pw pr n) P1 w') ((ZmQ w b pw n h2 _ (ZkN b pw pr n R2) x y 32 l3 l4 P P1 HP1 z1 _ hP.drew).mono (fun e u' h=>⟨_,h.1,⟨_,h.2⟩,rfl,h.2⟩)) ?_
  rintro v2 w2 hHeld ⟨rfl,hP2⟩
  simp only[Act.put,Y_a,Y_b,Y_c]
  refine wpAnyH_done (by kernel_rfl) ?_ _
  refine NoPanic.normal ?_
  clear hP hHeld
  go_wp2
  exact⟨⟨k+1,P1,by omega,by go_num,hP2,HI2⟩,by simp[intOf];omega⟩
 ·have hend:¬ (k:Int)<(X.length:Int):=by omega
  have hI:=HI.out
  rw[List.drop_of_length_le (by omega),krT,List.zipWith_nil_left,List.flatten_nil,List.append_nil] at hI
  subst hI
  clear HI
  go_wp2
  go_end0
  exact⟨rfl,hP⟩
theorem Zdh (X:List (List UInt8)) (m:Nat):cut X (m:Int) ((X.length:Int)-(m:Int))=X.drop m:=by
 unfold cut
 rw[Int.toNat_natCast,List.take_of_length_le (by rw[List.length_drop];omega)]
theorem Zdb {w:Nat} {O F:List (List UInt8)} {T P Z:List UInt8} {q:Nat} (h:T++((crT w O F).take q).flatten=P) (hZ:T++(crT w O F).flatten=Z):P.length≤Z.length:=by
 have:=Zee (crT w O F) q
 rw[← h,← hZ,List.length_append,List.length_append]
 omega
theorem Zmy (w:World) (b pw pr n:Nat) (h2:n≤200) (A B:List (List UInt8)) (hA:A.length≤1099511627776) (hB:B.length≤1099511627776) (HTA:Hid (∀ s∈A,s.length≤1099511627776)) (HTB:Hid (∀ s∈B,s.length≤1099511627776)) :
  Wrt w b (sdRS b pw pr n) A B 35 #[.pointer (some ⟨pr,0,none⟩)] false (fun x y=>(crT n x y).flatten):=by
 intro R2 T Z X Y vx vy u hu hx hy hq1 hq2 mX mY lX lY HZ hZ
 replace HZ:Hid (T++(crT n X Y).flatten=Z):=HZ
 obtain⟨xo,xc,rfl⟩:=Holds.form (hx T u hu)
 obtain⟨yo,yc,rfl⟩:=Holds.form (hy T u hu)
 have HX:Hid (∀ T' u',Vsd w b (R2++sdRS b pw pr n) T' u'→HS u' (.slice xo X.length xc) X):=hx
 have HY:Hid (∀ T' u',Vsd w b (R2++sdRS b pw pr n) T' u'→HS u' (.slice yo Y.length yc) Y):=hy
 have HTX:Hid (∀ s∈X,s.length≤1099511627776):=fun s hs=>HTA.out s (mX s hs)
 have HTY:Hid (∀ s∈Y,s.length≤1099511627776):=fun s hs=>HTB.out s (mY s hs)
 obtain⟨m,hm⟩:∃ m,min X.length Y.length=m:=⟨_,rfl⟩
 have HM:Hid (m=X.length∧m≤Y.length∨m=Y.length∧m≤X.length):=(by show _∨_;omega)
 have m1:min (X.length:Int) (Y.length:Int)=(m:Int):=by omega
 have hmX:m≤X.length:=by omega
 have hmY:m≤Y.length:=by omega
 have H0:Hid (T++((crT n X Y).take 0).flatten=T):=(by show _=_;simp)
 clear hx hy mX mY HTA HTB hq1 hq2 hm
 show Calls Tryz.prog 35 #[.slice xo X.length xc,.slice yo Y.length yc,.pointer (some ⟨pr,0,none⟩)] u _
 go_enter Tryz.func35,Tryz.ntmps35
 go_wp2
 go_loopw [17] (fun i wr=>∃ (k:Nat) (P:List UInt8),k≤m∧i=.int .i64 (k:Int)∧Vsd w b (R2++sdRS b pw pr n) P wr∧Hid (T++((crT n X Y).take k).flatten=P)) (fun i _=>m-(intOf i).toNat)
 case atStart=>exact⟨0,T,Nat.zero_le _,by go_num,hu,H0⟩
 case round =>
 clear H0 hu m1
 obtain⟨k,P,hk,rfl,hP,HI⟩:=hrel
 by_cases hlt:k<m
 ·have hltX:k<X.length:=by omega
  have hltY:k<Y.length:=by omega
  obtain⟨bk,off,rfl,hbk,hc⟩:=HS.at (HX.out P wr hP) (by omega)
  obtain⟨bk2,off2,rfl,hbk2,hc2⟩:=HS.at (HY.out P wr hP) (by omega)
  have HCX:Hid (∀ u,(∃ P,Vsd w b (R2++sdRS b pw pr n) P u)→u.cell? ⟨bk,off+k,none⟩=some (.string ⟨X[k].toArray⟩)):=(fun u hu=>Zfo (HX.out _ u hu.choose_spec) hltX)
  have HCY:Hid (∀ u,(∃ P,Vsd w b (R2++sdRS b pw pr n) P u)→u.cell? ⟨bk2,off2+k,none⟩=some (.string ⟨Y[k].toArray⟩)):=(fun u hu=>Zfo (HY.out _ u hu.choose_spec) hltY)
  have l3:=HTX.out X[k] (List.getElem_mem hltX)
  have l4:=HTY.out Y[k] (List.getElem_mem hltY)
  have hE:=ZcW (w:=n) hltX hltY
  obtain⟨x,hx⟩:∃ x,X[k]=x:=⟨_,rfl⟩
  obtain⟨y,hy⟩:∃ y,Y[k]=y:=⟨_,rfl⟩
  rw[hx] at HCX hE l3
  rw[hy] at HCY hE l4
  obtain⟨P1,hP1⟩:∃ Q,P++rowT n x 124 y=Q:=⟨_,rfl⟩
  have HI2:Hid (T++((crT n X Y).take (k+1)).flatten=P1):=(by show _=_;rw[hE,← List.append_assoc,HI.out,hP1])
  have z1:P1.length≤70368744177664:=Nat.le_trans (Zdb HI2.out HZ.out) hZ
  have HP1:Hid (P++rowT n x 124 y=P1):=hP1
  have i1:(0:Int)≤(k:Int):=by omega
  have i2:(k:Int)<(m:Int):=by omega
  clear hc hc2 hx hy HI hP1 hE
  go_wp2_with fail
  refine wp_region_noPanic ?_
  refine wp_region_held_drew (S:=fun u=>∃ P,Vsd w b (R2++sdRS b pw pr n) P u) (by kernel_rfl) ⟨_,hP.drew⟩ (fun hHeld=>?_)
  refine Y_t 0 20 _ (.func (.func 30) #[] #[.pointer (some ⟨pw,0,none⟩),.pointer (some ⟨b,0,none⟩)]) rfl (Or.inl ⟨by kernel_rfl,fun u hu=>Znd (a:=⟨pr,0,none⟩) ((Exists.choose_spec hu).cell (ZkM b pw pr n R2) 0) (.tmp 2) (by kernel_rfl) (by kernel_rfl)⟩) hHeld ?_
  simp only[Act.put,Y_a,Y_b,Y_c]
  refine Y_t 1 21 _ (.slice (some ⟨bk,off,none⟩) X.length xc) rfl (Or.inl ⟨by kernel_rfl,fun u hu=>by kernel_rfl⟩) hHeld ?_
  simp only[Act.put,Y_a,Y_b,Y_c]
  refine Y_t 2 22 _ (.int .i64 (k:Int)) rfl (Or.inl ⟨by kernel_rfl,fun u hu=>by kernel_rfl⟩) hHeld ?_
  simp only[Act.put,Y_a,Y_b,Y_c]
  refine Y_t 3 23 _ (.pointer (some ⟨bk,off+k,none⟩)) rfl (Or.inl ⟨by kernel_rfl,fun u hu=>Znc (c:=xc) (i:=k) hltX (.tmp 21) (.tmp 22) (by kernel_rfl) (by kernel_rfl) (by kernel_rfl)⟩) hHeld ?_
  simp only[Act.put,Y_a,Y_b,Y_c]
  refine Y_t 4 24 _ (.string ⟨x.toArray⟩) rfl (Or.inl ⟨by kernel_rfl,fun u hu=>Zne (a:=⟨bk,off+k,none⟩) (HCX.out u hu) (.tmp 23) (by kernel_rfl) (by kernel_rfl)⟩) hHeld ?_
  simp only[Act.put,Y_a,Y_b,Y_c]
  refine Y_t 5 25 _ (.slice (some ⟨bk2,off2,none⟩) Y.length yc) rfl (Or.inl ⟨by kernel_rfl,fun u hu=>by kernel_rfl⟩) hHeld ?_
  simp only[Act.put,Y_a,Y_b,Y_c]
  refine Y_t 6 26 _ (.int .i64 (k:Int)) rfl (Or.inl ⟨by kernel_rfl,fun u hu=>by kernel_rfl⟩) hHeld ?_
  simp only[Act.put,Y_a,Y_b,Y_c]
  refine Y_t 7 27 _ (.pointer (some ⟨bk2,off2+k,none⟩)) rfl (Or.inl ⟨by kernel_rfl,fun u hu=>Znc (c:=yc) (i:=k) hltY (.tmp 25) (.tmp 26) (by kernel_rfl) (by kernel_rfl) (by kernel_rfl)⟩) hHeld ?_
  simp only[Act.put,Y_a,Y_b,Y_c]
  refine Y_t 8 28 _ (.string ⟨y.toArray⟩) rfl (Or.inl ⟨by kernel_rfl,fun u hu=>Zne (a:=⟨bk2,off2+k,none⟩) (HCY.out u hu) (.tmp 27) (by kernel_rfl) (by kernel_rfl)⟩) hHeld ?_
  simp only[Act.put,Y_a,Y_b,Y_c]
  refine Y_e 9 29 _ rfl 30 (.tmp 20) #[.tmp 24,.const (.string ⟨#[124]⟩),.tmp 28] #[9,9,9] (by kernel_rfl) #[.pointer (some ⟨pw,0,none⟩),.pointer (some ⟨b,0,none⟩)] (by kernel_rfl) #[.string ⟨x.toArray⟩,.string ⟨#[124]⟩,.string ⟨y.toArray⟩] (by kernel_rfl) (enters_of Tryz.func30 (by kernel_rfl) rfl) (fun v w'=>v=.tuple #[]∧Vsd w b (R2++sdRS b pw pr n) P1 w') ((ZmQ w b pw n h2 _ (ZkN b pw pr n R2) x y 124 l3 l4 P P1 HP1 z1 _ hP.drew).mono (fun e u' h=>⟨_,h.1,⟨_,h.2⟩,rfl,h.2⟩)) ?_
  rintro v2 w2 hHeld ⟨rfl,hP2⟩
  simp only[Act.put,Y_a,Y_b,Y_c]
  refine wpAnyH_done (by kernel_rfl) ?_ _
  refine NoPanic.normal ?_
  clear hP hHeld
  go_wp2
  exact⟨⟨k+1,P1,by omega,by go_num,hP2,HI2⟩,by simp[intOf];omega⟩
 ·have hend:¬ (k:Int)<(m:Int):=by omega
  have ek:k=m:=by omega
  subst ek
  obtain⟨sa2,sc,hvs,hsA⟩:=Zkr X xo xc (k:Int) (by omega) (by omega) wr (HX.out P wr hP)
  obtain⟨ta2,tc,hvt,htA⟩:=Zkr Y yo yc (k:Int) (by omega) (by omega) wr (HY.out P wr hP)
  rw[Zdh] at hvs hsA hvt htA
  have HSX:Hid (∀ u,(∃ P,Vsd w b (R2++sdRS b pw pr n) P u)→HS u (.slice sa2 (X.drop k).length sc) (X.drop k)):=(fun u hu=>hsA u (HX.out _ u hu.choose_spec))
  have HSY:Hid (∀ u,(∃ P,Vsd w b (R2++sdRS b pw pr n) P u)→HS u (.slice ta2 (Y.drop k).length tc) (Y.drop k)):=(fun u hu=>htA u (HY.out _ u hu.choose_spec))
  obtain⟨X2,hX2⟩:∃ D,X.drop k=D:=⟨_,rfl⟩
  obtain⟨Y2,hY2⟩:∃ D,Y.drop k=D:=⟨_,rfl⟩
  have lX2:X2.length=X.length-k:=by rw[← hX2,List.length_drop]
  have lY2:Y2.length=Y.length-k:=by rw[← hY2,List.length_drop]
  have gX:∀ j (h:j<X2.length),X2[j]=X[k+j]'(by omega):=(by intro j h;subst hX2;simp)
  have gY:∀ j (h:j<Y2.length),Y2[j]=Y[k+j]'(by omega):=(by intro j h;subst hY2;simp)
  have HGX:Hid (∀ j (h:j<X2.length),X2[j]=X[k+j]'(by omega)):=gX
  have HGY:Hid (∀ j (h:j<Y2.length),Y2[j]=Y[k+j]'(by omega)):=gY
  rw[hX2] at hvs HSX
  rw[hY2] at hvt HSY
  have H0:Hid (T++((crT n X Y).take (k+0)).flatten=P):=HI.out
  have hP0:=hP
  clear hsA htA hX2 hY2 gX gY HI hP
  go_wp2
  go_loopw [35] (fun i wr=>∃ (j:Nat) (P:List UInt8),j≤X2.length∧i=.int .i64 (j:Int)∧Vsd w b (R2++sdRS b pw pr n) P wr∧Hid (T++((crT n X Y).take (k+j)).flatten=P)) (fun i _=>X2.length-(intOf i).toNat)
  case atStart=>exact⟨0,P,Nat.zero_le _,by go_num,hP0,H0⟩
  case round =>
  clear H0 hP0 hvs
  obtain⟨j,P,hj,rfl,hP,HI⟩:=hrel
  by_cases hlt:j<X2.length
  ·obtain⟨bk,off,rfl,hbk,hc⟩:=HS.at (HSX.out wr ⟨P,hP⟩) (by omega)
   have c1:=hc j hlt
   have hq:k+j<X.length:=by omega
   have l3:=HTX.out X[k+j] (List.getElem_mem hq)
   have hE:=Zda (w:=n) (O:=X) (F:=Y) (q:=k+j) hq (by have:=HM.out;omega)
   rw[HGX.out j hlt] at c1
   obtain⟨x,hx⟩:∃ x,X[k+j]=x:=⟨_,rfl⟩
   rw[hx] at c1 hE l3
   obtain⟨P1,hP1⟩:∃ Q,P++rowT n x 60 []=Q:=⟨_,rfl⟩
   have HI2:Hid (T++((crT n X Y).take (k+(j+1))).flatten=P1):=(by show _=_;rw[← Nat.add_assoc,hE,← List.append_assoc,HI.out,hP1])
   have z1:P1.length≤70368744177664:=Nat.le_trans (Zdb HI2.out HZ.out) hZ
   have HP1:Hid (P++rowT n x 60 []=P1):=hP1
   have i1:(0:Int)≤(j:Int):=by omega
   have i2:(j:Int)<(X2.length:Int):=by omega
   have c0:wr.cell? ⟨pr,0,none⟩=some (.func (.func 30) #[] #[.pointer (some ⟨pw,0,none⟩),.pointer (some ⟨b,0,none⟩)]):=hP.cell (ZkM b pw pr n R2) 0
   have hcall:=ZmQ w b pw n h2 _ (ZkN b pw pr n R2) x [] 60 l3 (by simp) P P1 HP1 z1 _ hP
   clear hc hx HI hP1 hE hP
   go_wp2_with fail
   refine hcall.mono ?_
   rintro e w2 ⟨rfl,hP2⟩
   clear hcall c0 c1
   go_wp2
   exact⟨⟨j+1,P1,by omega,by go_num,hP2,HI2⟩,by simp[intOf];omega⟩
  ·have hend2:¬ (j:Int)<(X2.length:Int):=by omega
   have H0:Hid (T++((crT n X Y).take (X.length+0)).flatten=P):=(by rw[show X.length+0=k+j by omega];exact HI.out)
   have hP0:=hP
   clear HI hP
   go_wp2
   go_loopw [47] (fun i wr=>∃ (j:Nat) (P:List UInt8),j≤Y2.length∧i=.int .i64 (j:Int)∧Vsd w b (R2++sdRS b pw pr n) P wr∧Hid (T++((crT n X Y).take (X.length+j)).flatten=P)) (fun i _=>Y2.length-(intOf i).toNat)
   case atStart=>exact⟨0,P,Nat.zero_le _,by go_num,hP0,H0⟩
   case round =>
   clear H0 hP0 hvt hend2
   obtain⟨j,P,hj,rfl,hP,HI⟩:=hrel
   by_cases hlt:j<Y2.length
   ·obtain⟨bk,off,rfl,hbk,hc⟩:=HS.at (HSY.out wr ⟨P,hP⟩) (by omega)
    have c1:=hc j hlt
    have hkX:k=X.length:=by have:=HM.out;omega
    have hq:k+j<Y.length:=by omega
    have l3:=HTY.out Y[k+j] (List.getElem_mem hq)
    have hE:=ZcZ (w:=n) (O:=X) (F:=Y) (q:=k+j) (by omega) hq
    rw[HGY.out j hlt] at c1
    obtain⟨y,hy⟩:∃ x,Y[k+j]=x:=⟨_,rfl⟩
    rw[hy] at c1 hE l3
    obtain⟨P1,hP1⟩:∃ Q,P++rowT n [] 62 y=Q:=⟨_,rfl⟩
    have HI2:Hid (T++((crT n X Y).take (X.length+(j+1))).flatten=P1):=(by
     have h:=HI.out
     show _=_
     rw[← hkX] at h ⊢
     rw[← Nat.add_assoc,hE,← List.append_assoc,h,hP1])
    have z1:P1.length≤70368744177664:=Nat.le_trans (Zdb HI2.out HZ.out) hZ
    have HP1:Hid (P++rowT n [] 62 y=P1):=hP1
    have i1:(0:Int)≤(j:Int):=by omega
    have i2:(j:Int)<(Y2.length:Int):=by omega
    have c0:wr.cell? ⟨pr,0,none⟩=some (.func (.func 30) #[] #[.pointer (some ⟨pw,0,none⟩),.pointer (some ⟨b,0,none⟩)]):=hP.cell (ZkM b pw pr n R2) 0
    have hcall:=ZmQ w b pw n h2 _ (ZkN b pw pr n R2) [] y 62 (by simp) l3 P P1 HP1 z1 _ hP
    clear hc hy HI hP1 hE hP hkX
    go_wp2_with fail
    refine hcall.mono ?_
    rintro e w2 ⟨rfl,hP2⟩
    clear hcall c0 c1
    go_wp2
    exact⟨⟨j+1,P1,by omega,by go_num,hP2,HI2⟩,by simp[intOf];omega⟩
   ·have hend3:¬ (j:Int)<(Y2.length:Int):=by omega
    have hI:=HI.out
    rw[List.take_of_length_le (by rw[ZcX];have:=HM.out;omega),HZ.out] at hI
    subst hI
    clear HI HZ
    go_wp2
    go_end0
    exact⟨rfl,hP⟩
end

section
open Go.RowKit Go.Proofs.YtcnjephlmcnodaaGreatDoor.Tx
attribute [local go_sem] ZhN
def dgI (n:Int):Bool:=decide (48≤n∧n≤57)
def lzI (n:Int):Bool:=decide (65≤n∧n≤90∨97≤n∧n≤122)
theorem Zdn (c:UInt8):dgI c.toNat=dgB c:=by
 unfold dgI dgB
 rw[Bool.eq_iff_iff]
 simp only[decide_eq_true_eq,Bool.and_eq_true]
 omega
theorem Zhk (c:UInt8):ltB c=(lzI c.toNat || c == 95):=by
 have h9:(c == 95)=decide (c.toNat=95):=by
  rw[Bool.eq_iff_iff,beq_iff_eq,decide_eq_true_eq]
  constructor
  ·rintro rfl;rfl
  ·intro h;exact UInt8.toNat_inj.1 h
 unfold lzI ltB
 rw[h9,Bool.eq_iff_iff]
 simp only[decide_eq_true_eq,Bool.or_eq_true,Bool.and_eq_true]
 omega
theorem ZmC (n:Int) (w:World) :
  Calls Tryz.prog 42 #[.int .u8 n] w fun e w'=>e=.returned (.bool (dgI n))∧w=w':=by
 go_enter Tryz.func42,Tryz.ntmps42
 go_wp2
 all_goals go_ret
 all_goals exact⟨ret_bool (by rw[Bool.eq_iff_iff];simp[dgI];omega),rfl⟩
theorem ZmL (n:Int) (w:World) :
  Calls Tryz.prog 43 #[.int .u8 n] w fun e w'=>e=.returned (.bool (lzI n))∧w=w':=by
 go_enter Tryz.func43,Tryz.ntmps43
 go_wp2
 all_goals go_ret
 all_goals exact⟨ret_bool (by rw[Bool.eq_iff_iff];simp[lzI];omega),rfl⟩
theorem ZmD {n:Int} {b:Bool} (h:dgI n=b) (w:World) :
  Calls Tryz.prog 42 #[.int .u8 n] w fun e w'=>e=.returned (.bool b)∧w=w':=by
 subst h
 exact ZmC n w
theorem ZmM {n:Int} {b:Bool} (h:lzI n=b) (w:World) :
  Calls Tryz.prog 43 #[.int .u8 n] w fun e w'=>e=.returned (.bool b)∧w=w':=by
 subst h
 exact ZmL n w
def okB (c:UInt8):Bool:=ltB c || dgB c
theorem ZcL (c:UInt8) (t:List UInt8) (hd:dgB c=false):cnB (c::t)=(decide ((c::t).length≤64) && (c::t).all okB):=by
 have e:okB c=ltB c:=by unfold okB;rw[hd,Bool.or_false]
 show (decide ((c::t).length≤64) && ltB c && t.all okB)=_
 rw[List.all_cons,e,Bool.and_assoc]
theorem ZcM (c:UInt8) (t:List UInt8) (hd:dgB c=true):cnB (c::t)=false:=by
 have:ltB c=false:=by
  unfold dgB at hd
  simp only[Bool.and_eq_true,decide_eq_true_eq] at hd
  rw[Zhk,Bool.or_eq_false_iff]
  refine⟨?_,?_⟩
  ·unfold lzI
   rw[decide_eq_false_iff_not]
   omega
  ·rw[beq_eq_false_iff_ne]
   rintro rfl
   revert hd
   decide
 show (decide ((c::t).length≤64) && ltB c && t.all okB)=_
 rw[this]
 simp
theorem ZmN (l:List UInt8) (w:World) (b:Bool) (HB:Hid (cnB l=b)) :
  Calls Tryz.prog 17 #[.string ⟨l.toArray⟩] w fun e w'=>e=.returned (.bool b)∧w'=w:=by
 by_cases h0:l=[]
 ·subst h0
  have HE:Hid (false=b):=HB.out
  clear HB
  go_enter Tryz.func17,Tryz.ntmps17
  go_wp2
  go_ret
  exact⟨by rw[← HE.out];rfl,rfl⟩
 ·by_cases h2:l.length≤64
  ·have h3:¬ (64:Int)<(l.length:Int):=by omega
   have hl0:0<l.length:=List.length_pos_iff.2 h0
   obtain⟨c0,t0,rfl⟩:=List.exists_cons_of_ne_nil h0
   have h3':¬ (64:Int)<(t0.length:Int)+1:=by rw[List.length_cons] at h2;omega
   have i1:(0:Int)<(t0.length:Int)+1:=by omega
   cases hD0:dgB c0 with
   | true =>
    have HE:Hid (false=b):=(by show _=_;rw[← HB.out,ZcM _ _ hD0])
    have HD:=fun u=>ZmD (n:=c0.toNat) (b:=true) (by rw[Zdn,hD0]) u
    clear HB hD0 h0
    go_enter Tryz.func17,Tryz.ntmps17
    go_wp2_with fail
    refine (HD _).mono ?_
    rintro e w1 ⟨rfl,rfl⟩
    clear HD
    go_wp2
    go_ret
    exact⟨by rw[← HE.out];rfl,rfl⟩
   | false =>
    have HD:=fun u=>ZmD (n:=c0.toNat) (b:=false) (by rw[Zdn,hD0]) u
    have HI0:Hid (((c0::t0).drop 0).all okB=b):=(by
     have h:=HB.out
     rw[ZcL _ _ hD0,decide_eq_true h2,Bool.true_and] at h
     exact h)
    clear HB hD0 h0
    go_enter Tryz.func17,Tryz.ntmps17
    go_wp2_with fail
    refine (HD _).mono ?_
    rintro e w1 ⟨rfl,rfl⟩
    clear HD
    generalize c0::t0=l at *
    go_wp2
    go_loopw [19] (fun i wr=>∃ k:Nat,k≤l.length∧i=.int .i64 k∧wr=w∧Hid ((l.drop k).all okB=b)) (fun i _=>l.length-(intOf i).toNat)
    case atStart=>exact⟨0,Nat.zero_le _,by go_num,rfl,HI0⟩
    case round =>
    obtain⟨k,hk,rfl,rfl,HI⟩:=hrel
    clear HI0
    by_cases hlt:k<l.length
    ·have HI2:=HI.out
     rw[List.drop_eq_getElem_cons hlt,List.all_cons] at HI2
     have i1:(0:Int)≤(k:Int):=by omega
     have i2:(k:Int)<(l.length:Int):=by omega
     obtain⟨c,hc⟩:∃ c,l[k]=c:=⟨_,rfl⟩
     rw[hc] at HI2
     have hcn:=c.toNat_lt
     unfold okB at HI2
     rw[Zhk] at HI2
     clear HI
     cases hL:lzI c.toNat with
     | true =>
      rw[hL,Bool.true_or,Bool.true_or,Bool.true_and] at HI2
      have HI3:Hid ((l.drop (k+1)).all okB=b):=HI2
      have HC:=fun u=>ZmM (n:=c.toNat) (b:=true) hL u
      clear HI2 hL
      go_wp2_with fail
      refine (HC _).mono ?_
      rintro e w1 ⟨rfl,rfl⟩
      clear HC
      go_wp2
      exact⟨⟨k+1,by omega,by go_num,by first | rfl | trivial,HI3⟩,by simp[intOf];omega⟩
     | false =>
      rw[hL,Bool.false_or] at HI2
      have HC:=fun u=>ZmM (n:=c.toNat) (b:=false) hL u
      clear hL
      cases hD:dgB c with
      | true =>
       rw[hD,Bool.or_true,Bool.true_and] at HI2
       have HI3:Hid ((l.drop (k+1)).all okB=b):=HI2
       have HG:=fun u=>ZmD (n:=c.toNat) (b:=true) (by rw[Zdn,hD]) u
       clear HI2 hD
       go_wp2_with fail
       refine (HC _).mono ?_
       rintro e w1 ⟨rfl,rfl⟩
       clear HC
       go_wp2_with fail
       refine (HG _).mono ?_
       rintro e w1 ⟨rfl,rfl⟩
       clear HG
       go_wp2
       exact⟨⟨k+1,by omega,by go_num,by first | rfl | trivial,HI3⟩,by simp[intOf];omega⟩
      | false =>
       have HG:=fun u=>ZmD (n:=c.toNat) (b:=false) (by rw[Zdn,hD]) u
       rw[hD,Bool.or_false] at HI2
       clear hD
       by_cases hU:c=95
       ·subst hU
        rw[show ((95:UInt8) == 95)=true from rfl,Bool.true_and] at HI2
        have HI3:Hid ((l.drop (k+1)).all okB=b):=HI2
        have j1:(((95:UInt8).toNat:Int) != 95)=false:=rfl
        clear HI2
        go_wp2_with fail
        refine (HC _).mono ?_
        rintro e w1 ⟨rfl,rfl⟩
        clear HC
        go_wp2_with fail
        refine (HG _).mono ?_
        rintro e w1 ⟨rfl,rfl⟩
        clear HG
        go_wp2
        exact⟨⟨k+1,by omega,by go_num,by first | rfl | trivial,HI3⟩,by simp[intOf];omega⟩
       ·rw[beq_eq_false_iff_ne.2 hU,Bool.false_and] at HI2
        have HE:Hid (false=b):=HI2
        have j1:((c.toNat:Int) != 95)=true:=(by
         rw[bne_iff_ne]
         intro e
         apply hU
         apply UInt8.toNat_inj.1
         have:c.toNat=95:=by omega
         exact this)
        clear HI2 hU
        go_wp2_with fail
        refine (HC _).mono ?_
        rintro e w1 ⟨rfl,rfl⟩
        clear HC
        go_wp2_with fail
        refine (HG _).mono ?_
        rintro e w1 ⟨rfl,rfl⟩
        clear HG
        go_wp2
        go_ret
        exact⟨by rw[← HE.out];rfl,rfl⟩
    ·have HE:Hid (true=b):=(by
      have h:=HI.out
      rw[List.drop_of_length_le (by omega)] at h
      exact h)
     have hend:¬ (k:Int)<(l.length:Int):=by omega
     clear HI
     go_wp2
     go_ret
     exact⟨by rw[← HE.out];rfl,rfl⟩
  ·have HE:Hid (false=b):=(by
    show _=_
    rw[← HB.out]
    cases l with
    | nil=>exact absurd rfl h0
    | cons c t =>
     show false=(decide ((c::t).length≤64) && ltB c && t.all okB)
     rw[decide_eq_false h2]
     simp)
   have h3:(64:Int)<(l.length:Int):=by omega
   go_enter Tryz.func17,Tryz.ntmps17
   go_wp2
   go_ret
   exact⟨by rw[← HE.out];rfl,rfl⟩
end

section
open Go.RowKit Go.Proofs.YtcnjephlmcnodaaGreatDoor.Tx
attribute [local go_sem] ZhN
def cmL (nm:List UInt8):Nat→List UInt8
 | 1=>[35,105,102,100,101,102,32]++nm
 | 2=>[35,105,102,110,100,101,102,32]++nm
 | 3=>[35,101,108,115,101,32,47,42,32]++nm++[32,42,47]
 | 4=>[35,101,110,100,105,102,32,47,42,32]++nm++[32,42,47]
 | _=>[35,101,110,100,105,102,32,47,42,32,33,32]++nm++[32,42,47]
theorem Zcu (nm:List UInt8) (k:Nat):cmL nm k++[10]=cmT nm k:=by
 unfold cmL cmT
 split<;>simp
theorem Zcv (nm:List UInt8) (k:Nat):(cmL nm k).length≤nm.length+16:=by
 unfold cmL
 split<;>simp<;>omega
theorem Zcx {nm:List UInt8} (h:∀ c∈nm,c≠10) (k:Nat):∀ c∈cmL nm k,c≠10:=by
 have hc:∀ (p s:List UInt8),(∀ c∈p,c≠10)→(∀ c∈s,c≠10)→∀ c∈p++nm++s,c≠10:=by
  intro p s hp hs c hc
  rcases List.mem_append.1 hc with hc | hc
  ·rcases List.mem_append.1 hc with hc | hc
   ·exact hp c hc
   ·exact h c hc
  ·exact hs c hc
 unfold cmL
 split
 ·have:=hc [35,105,102,100,101,102,32] [] (by decide) (by simp)
  rwa [List.append_nil] at this
 ·have:=hc [35,105,102,110,100,101,102,32] [] (by decide) (by simp)
  rwa [List.append_nil] at this
 ·exact hc _ _ (by decide) (by decide)
 ·exact hc _ _ (by decide) (by decide)
 ·exact hc _ _ (by decide) (by decide)
theorem bare_no {s:List UInt8} (h:∀ c∈s,c≠10):bareT s=s:=by
 have hf:fdB s=false:=by
  unfold fdB
  rw[beq_eq_false_iff_ne]
  intro e
  obtain⟨t,rfl⟩:=List.getLast?_eq_some_iff.1 e
  exact h 10 (by simp) rfl
 unfold bareT
 rw[if_neg (by rw[hf];decide)]
theorem Zcw {nm:List UInt8} (h:∀ c∈nm,c≠10) (k:Nat):wlL [cmL nm k]=[cmT nm k]:=by
 simp only[wlL,List.map_cons,List.map_nil,bare_no (Zcx h k),Zcu]
def cmC (nm:List UInt8):Array Value:=#[.string ⟨(cmL nm 1).toArray⟩,.string ⟨(cmL nm 2).toArray⟩,.string ⟨(cmL nm 3).toArray⟩,.string ⟨(cmL nm 4).toArray⟩,.string ⟨(cmL nm 5).toArray⟩]
theorem ZmA (nm:List UInt8) (w:World) (hn:nm.length≤1099511627776) :
  Calls Tryz.prog 21 #[.string ⟨nm.toArray⟩] w fun e w'=>e=.returned (.agg (cmC nm))∧Below w.heap.size w w':=by
 have q1:=Zbg (x:=[35,105,102,100,101,102,32]) (y:=nm) (by unfold Fits;simp only[List.length_cons,List.length_nil];omega) Tryz.prog
 have q2:=Zbg (x:=[35,105,102,110,100,101,102,32]) (y:=nm) (by unfold Fits;simp only[List.length_cons,List.length_nil];omega) Tryz.prog
 have q3:=Zbg (x:=[35,101,108,115,101,32,47,42,32]) (y:=nm) (by unfold Fits;simp only[List.length_cons,List.length_nil];omega) Tryz.prog
 have q4:=Zbg (x:=[35,101,110,100,105,102,32,47,42,32]) (y:=nm) (by unfold Fits;simp only[List.length_cons,List.length_nil];omega) Tryz.prog
 have q5:=Zbg (x:=[35,101,110,100,105,102,32,47,42,32,33,32]) (y:=nm) (by unfold Fits;simp only[List.length_cons,List.length_nil];omega) Tryz.prog
 have r3:=Zbg (x:=[35,101,108,115,101,32,47,42,32]++nm) (y:=[32,42,47]) (by unfold Fits;simp only[List.length_append,List.length_cons,List.length_nil];omega) Tryz.prog
 have r4:=Zbg (x:=[35,101,110,100,105,102,32,47,42,32]++nm) (y:=[32,42,47]) (by unfold Fits;simp only[List.length_append,List.length_cons,List.length_nil];omega) Tryz.prog
 have r5:=Zbg (x:=[35,101,110,100,105,102,32,47,42,32,33,32]++nm) (y:=[32,42,47]) (by unfold Fits;simp only[List.length_append,List.length_cons,List.length_nil];omega) Tryz.prog
 obtain⟨s1,h1⟩:∃ s,[35,105,102,100,101,102,32]++nm=s:=⟨_,rfl⟩
 obtain⟨s2,h2⟩:∃ s,[35,105,102,110,100,101,102,32]++nm=s:=⟨_,rfl⟩
 obtain⟨s3,h3⟩:∃ s,[35,101,108,115,101,32,47,42,32]++nm=s:=⟨_,rfl⟩
 obtain⟨s4,h4⟩:∃ s,[35,101,110,100,105,102,32,47,42,32]++nm=s:=⟨_,rfl⟩
 obtain⟨s5,h5⟩:∃ s,[35,101,110,100,105,102,32,47,42,32,33,32]++nm=s:=⟨_,rfl⟩
 rw[h1] at q1
 rw[h2] at q2
 rw[h3] at q3 r3
 rw[h4] at q4 r4
 rw[h5] at q5 r5
 obtain⟨t3,g3⟩:∃ s,s3++[32,42,47]=s:=⟨_,rfl⟩
 obtain⟨t4,g4⟩:∃ s,s4++[32,42,47]=s:=⟨_,rfl⟩
 obtain⟨t5,g5⟩:∃ s,s5++[32,42,47]=s:=⟨_,rfl⟩
 rw[g3] at r3
 rw[g4] at r4
 rw[g5] at r5
 have HC:Hid (cmC nm=#[.string ⟨s1.toArray⟩,.string ⟨s2.toArray⟩,.string ⟨t3.toArray⟩,.string ⟨t4.toArray⟩,.string ⟨t5.toArray⟩]):=(by
  show _=_
  rw[← h1,← h2,← g3,← g4,← g5,← h3,← h4,← h5]
  rfl)
 clear h1 h2 h3 h4 h5 g3 g4 g5
 rw[HC.out]
 go_enter Tryz.func21,Tryz.ntmps21
 go_wp2
 exact bodyPost_ret (results_cell_row rfl _ _ w.heap.size 65 _ (0,0) _ rfl (heap_alloc_new w _) Tryz.underlying65 rfl (by kernel_rfl)) rfl ⟨rfl,(Below.refl _ w).alloc (Nat.le_refl _) _⟩
end

section
open Go.RowKit Go.Proofs.YtcnjephlmcnodaaGreatDoor.Tx
attribute [local go_sem] ZhN
theorem Zfp {w u:World} {b k:Nat} {RS:List (Nat × Obj)} {T x:List UInt8} (h:Vsd w b RS T u) (hk:(k,Obj.cells #[.string ⟨x.toArray⟩] 9)∈RS):HS u (.slice (some ⟨k,0,none⟩) 1 1) [x]:=by
 refine .inr ⟨⟨k,0,none⟩,1,rfl,Nat.le_refl _,fun j v hj=>?_⟩
 match j,hj with
 | 0,hj =>
  have:v=.string ⟨x.toArray⟩:=(Option.some.inj hj).symm
  subst this
  have:=h.cell hk 0
  simpa [Addr.add] using this
theorem ZmK (w:World) (b:Nat) (RS:List (Nat × Obj)) (X:List (List UInt8)) (vx:Value) (HX:Hid (∀ T u,Vsd w b RS T u→HS u vx X)) (hl:X.length≤1099511627776) (HT:Hid (∀ s∈X,s.length≤1099511627776)) (T Z:List UInt8) (HZ:Hid (T++(wlL X).flatten=Z)) (hZ:Z.length≤70368744177664) (u:World) (hu:Vsd w b RS T u) :
  Calls Tryz.prog 18 #[vx,.pointer (some ⟨b,0,none⟩)] u fun e u'=>e=.returned (.tuple #[])∧Vsd w b RS Z u':=by
 obtain⟨ao,ca,rfl⟩:=Holds.form (HX.out T u hu)
 have H0:Hid (T++(wlL (X.drop 0)).flatten=Z):=HZ.out
 clear HZ
 go_enter Tryz.func18,Tryz.ntmps18
 go_wp2
 go_loopw [9] (fun i wr=>∃ (k:Nat) (P:List UInt8),k≤X.length∧i=.int .i64 (k:Int)∧Vsd w b RS P wr∧Hid (P++(wlL (X.drop k)).flatten=Z)) (fun i _=>X.length-(intOf i).toNat)
 case atStart=>exact⟨0,T,Nat.zero_le _,by go_num,hu,H0⟩
 case round =>
 clear H0 hu
 obtain⟨k,P,hk,rfl,hP,HI⟩:=hrel
 by_cases hlt:k<X.length
 ·obtain⟨bk,off,rfl,hbk,hc⟩:=HS.at (HX.out P wr hP) (by omega)
  have c0:=hc k hlt
  have hI:=HI.out
  have l3:=HT.out X[k] (List.getElem_mem hlt)
  rw[List.drop_eq_getElem_cons hlt] at hI
  obtain⟨x,hx⟩:∃ x,X[k]=x:=⟨_,rfl⟩
  rw[hx] at c0 hI l3
  have hw:(wlL (x::X.drop (k+1))).flatten=bareT x++([10]++(wlL (X.drop (k+1))).flatten):=by simp[wlL]
  rw[hw] at hI
  have HC:=fun u=>Zmv x u (by omega)
  obtain⟨y,hy⟩:∃ y,bareT x=y:=⟨_,rfl⟩
  rw[hy] at HC hI
  obtain⟨P1,hP1⟩:∃ Q,P++y=Q:=⟨_,rfl⟩
  obtain⟨P2,hP2⟩:∃ Q,P1++[10]=Q:=⟨_,rfl⟩
  have HI2:Hid (P2++(wlL (X.drop (k+1))).flatten=Z):=(by show _=_;rw[← hI,← hP2,← hP1];simp)
  have z2:P2.length≤70368744177664:=(by have:=congrArg List.length HI2.out;rw[List.length_append] at this;omega)
  have z1:P1.length≤70368744177664:=(by have:=congrArg List.length hP2;rw[List.length_append] at this;omega)
  have i1:(0:Int)≤(k:Int):=by omega
  have i2:(k:Int)<(X.length:Int):=by omega
  clear hc hx hw hy hI HI
  go_wp2_with fail
  refine (HC _).mono ?_
  rintro e w1 ⟨rfl,rfl⟩
  clear HC
  go_wp2_with fail
  refine (hP.str hP1 z1).mono ?_
  rintro e w2 ⟨⟨y2,rfl⟩,hP⟩
  go_wp2_with fail
  refine (hP.str hP2 z2).mono ?_
  rintro e w3 ⟨⟨y3,rfl⟩,hP⟩
  go_wp2
  exact⟨⟨k+1,P2,by omega,by go_num,hP,HI2⟩,by simp[intOf];omega⟩
 ·have hend:¬ (k:Int)<(X.length:Int):=by omega
  have hI:=HI.out
  rw[List.drop_of_length_le (by omega),wlL,List.map_nil,List.flatten_nil,List.append_nil] at hI
  subst hI
  clear HI
  go_wp2
  go_end0
  exact⟨rfl,hP⟩
def ifRS (b pl pc:Nat) (nm:List UInt8):List (Nat × Obj):=[(pc,.cells (cmC nm) 65),(pl,.cells #[.func (.func 18) #[] #[.pointer (some ⟨b,0,none⟩)]] 63)]
theorem ZfB (b pl pc:Nat) (nm:List UInt8) (R2:List (Nat × Obj)):(pl,Obj.cells #[.func (.func 18) #[] #[.pointer (some ⟨b,0,none⟩)]] 63)∈R2++ifRS b pl pc nm:=List.mem_append_right _ (by simp[ifRS])
theorem ZfA (b pl pc:Nat) (nm:List UInt8) (R2:List (Nat × Obj)):(pc,Obj.cells (cmC nm) 65)∈R2++ifRS b pl pc nm:=List.mem_append_right _ (by simp[ifRS])
theorem ZmI (w:World) (b pl pc:Nat) (nm:List UInt8) (A B:List (List UInt8)) (hA:A.length≤1099511627776) (HTA:Hid (∀ s∈A,s.length≤1099511627776)) :
  Wrt w b (ifRS b pl pc nm) A B 22 #[.pointer (some ⟨pl,0,none⟩)] true (fun x _=>(wlL x).flatten):=by
 intro R2 T Z X Y vx vy u hu hx hy hq1 hq2 mX mY lX lY HZ hZ
 clear hq1 hq2
 replace HZ:Hid (T++(wlL X).flatten=Z):=HZ
 obtain⟨xo,xc,rfl⟩:=Holds.form (hx T u hu)
 obtain⟨yo,yc,rfl⟩:=Holds.form (hy T u hu)
 have hc:=ZmK w b (R2++ifRS b pl pc nm) X (.slice xo X.length xc) hx (by omega) (fun s hs=>HTA.out s (mX s hs)) T Z HZ hZ u hu
 have c0:u.cell? ⟨pl,0,none⟩=some (.func (.func 18) #[] #[.pointer (some ⟨b,0,none⟩)]):=hu.cell (ZfB b pl pc nm R2) 0
 clear HZ hu hx hy mX mY
 show Calls Tryz.prog 22 #[.slice xo X.length xc,.slice yo Y.length yc,.pointer (some ⟨pl,0,none⟩)] u _
 go_enter Tryz.func22,Tryz.ntmps22
 go_wp2_with fail
 refine hc.mono ?_
 rintro e w1 ⟨rfl,hP⟩
 go_wp2
 go_end0
 exact⟨rfl,hP⟩
theorem Zmz (w:World) (b:Nat) (RS:List (Nat × Obj)) (nm:List UInt8) (hn:∀ c∈nm,c≠10) (hl:nm.length≤1048576) (k:Nat) (T Z:List UInt8) (HZ:Hid (T++cmT nm k=Z)) (hZ:Z.length≤70368744177664) (u:World) (hu:Vsd w b RS T u) :
  Calls Tryz.prog 18 #[.slice (some ⟨u.heap.size,0,none⟩) 1 1,.pointer (some ⟨b,0,none⟩)] (u.alloc (.cells #[.string ⟨(cmL nm k).toArray⟩] 9)) fun e u'=>e=.returned (.tuple #[])∧Vsd w b RS Z u':=by
 have h:=hu.more (.cells #[.string ⟨(cmL nm k).toArray⟩] 9)
 refine (ZmK w b _ [cmL nm k] _ (fun T u h=>Zfp h (by simp)) (by simp) (fun s hs=>?_) T Z ?_ hZ _ h).mono ?_
 ·have:=Zcv nm k
  rw[List.mem_singleton.1 hs]
  omega
 ·show _=_
  rw[Zcw hn,← HZ.out]
  simp
 ·rintro e u' ⟨rfl,h⟩
  exact⟨rfl,h.less⟩
theorem Zmx (w:World) (b pl pc:Nat) (nm:List UInt8) (hn:∀ c∈nm,c≠10) (hl:nm.length≤1048576) (A B:List (List UInt8)) (hA:A.length≤1099511627776) (hB:B.length≤1099511627776) (HTA:Hid (∀ s∈A,s.length≤1099511627776)) (HTB:Hid (∀ s∈B,s.length≤1099511627776)) :
  Wrt w b (ifRS b pl pc nm) A B 23 #[.pointer (some ⟨pl,0,none⟩),.pointer (some ⟨pc,0,none⟩)] false (fun x y=>(ifC nm x y).flatten):=by
 intro R2 T Z X Y vx vy u hu hx hy hq1 hxy mX mY lX lY HZ hZ
 clear hq1
 replace HZ:Hid (T++(ifC nm X Y).flatten=Z):=HZ
 obtain⟨xo,xc,rfl⟩:=Holds.form (hx T u hu)
 obtain⟨yo,yc,rfl⟩:=Holds.form (hy T u hu)
 have HX:Hid (∀ T' u',Vsd w b (R2++ifRS b pl pc nm) T' u'→HS u' (.slice xo X.length xc) X):=hx
 have HY:Hid (∀ T' u',Vsd w b (R2++ifRS b pl pc nm) T' u'→HS u' (.slice yo Y.length yc) Y):=hy
 have HTX:Hid (∀ s∈X,s.length≤1099511627776):=fun s hs=>HTA.out s (mX s hs)
 have HTY:Hid (∀ s∈Y,s.length≤1099511627776):=fun s hs=>HTB.out s (mY s hs)
 have HN:Hid (∀ c∈nm,c≠10):=hn
 have hxy:=hxy rfl
 have hP:=hu
 clear hx hy mX mY HTA HTB hn hu
 show Calls Tryz.prog 23 #[.slice xo X.length xc,.slice yo Y.length yc,.pointer (some ⟨pl,0,none⟩),.pointer (some ⟨pc,0,none⟩)] u _
 by_cases h1:Y=[]
 ·have h2:X≠[]:=fun e=>hxy e h1
  have e1:((Y.length:Int) == 0)=true:=(by rw[h1];rfl)
  have HE:Hid ((ifC nm X Y).flatten=cmT nm 2++((wlL X).flatten++cmT nm 5)):=(by show _=_;rw[h1,Zfw h2];simp)
  clear h1 h2 hxy
  obtain⟨Q1,hQ1⟩:∃ q,T++cmT nm 2=q:=⟨_,rfl⟩
  obtain⟨Q2,hQ2⟩:∃ q,Q1++(wlL X).flatten=q:=⟨_,rfl⟩
  obtain⟨Q3,hQ3⟩:∃ q,Q2++cmT nm 5=q:=⟨_,rfl⟩
  have hE:Q3=Z:=(by rw[← HZ.out,HE.out,← hQ3,← hQ2,← hQ1];simp)
  subst hE
  have zQ2:Q2.length≤70368744177664:=(by have:=congrArg List.length hQ3;rw[List.length_append] at this;omega)
  have zQ1:Q1.length≤70368744177664:=(by have:=congrArg List.length hQ2;rw[List.length_append] at this;omega)
  have zQ3:=hZ
  have HQ1:Hid (T++cmT nm 2=Q1):=hQ1
  have HQ2:Hid (Q1++(wlL X).flatten=Q2):=hQ2
  have HQ3:Hid (Q2++cmT nm 5=Q3):=hQ3
  clear HZ hQ1 hQ2 hQ3
  go_enter Tryz.func23,Tryz.ntmps23
  have c0:u.cell? ⟨pl,0,none⟩=some (.func (.func 18) #[] #[.pointer (some ⟨b,0,none⟩)]):=hP.cell (ZfB b pl pc nm R2) 0
  have d0:u.cell? ⟨pc,1,none⟩=some (.string ⟨(cmL nm 2).toArray⟩):=hP.cell (ZfA b pl pc nm R2) 1
  have hc:=Zmz w b (R2++ifRS b pl pc nm) nm HN.out hl 2 T Q1 HQ1 zQ1 _ hP
  clear hP
  go_wp2_with fail
  refine hc.mono ?_
  rintro e w1 ⟨rfl,hP⟩
  clear hc c0 d0
  have c0:w1.cell? ⟨pl,0,none⟩=some (.func (.func 18) #[] #[.pointer (some ⟨b,0,none⟩)]):=hP.cell (ZfB b pl pc nm R2) 0
  have hc:=ZmK w b (R2++ifRS b pl pc nm) X (.slice xo X.length xc) HX (by omega) HTX Q1 Q2 HQ2 zQ2 _ hP
  clear hP
  go_wp2_with fail
  refine hc.mono ?_
  rintro e w2 ⟨rfl,hP⟩
  clear hc c0
  have c0:w2.cell? ⟨pl,0,none⟩=some (.func (.func 18) #[] #[.pointer (some ⟨b,0,none⟩)]):=hP.cell (ZfB b pl pc nm R2) 0
  have d0:w2.cell? ⟨pc,4,none⟩=some (.string ⟨(cmL nm 5).toArray⟩):=hP.cell (ZfA b pl pc nm R2) 4
  have hc:=Zmz w b (R2++ifRS b pl pc nm) nm HN.out hl 5 Q2 Q3 HQ3 zQ3 _ hP
  clear hP
  go_wp2_with fail
  refine hc.mono ?_
  rintro e w3 ⟨rfl,hP⟩
  clear hc c0 d0
  go_wp2
  go_end0
  exact⟨rfl,hP⟩
 ·have e1:((Y.length:Int) == 0)=false:=(by
   rw[beq_eq_false_iff_ne]
   intro e
   exact h1 (List.eq_nil_of_length_eq_zero (by omega)))
  by_cases h2:X=[]
  ·have e2:((X.length:Int) == 0)=true:=(by rw[h2];rfl)
   have HE:Hid ((ifC nm X Y).flatten=cmT nm 1++((wlL Y).flatten++cmT nm 4)):=(by show _=_;rw[h2,Zfy h1];simp)
   clear h1 h2 hxy
   obtain⟨Q1,hQ1⟩:∃ q,T++cmT nm 1=q:=⟨_,rfl⟩
   obtain⟨Q2,hQ2⟩:∃ q,Q1++(wlL Y).flatten=q:=⟨_,rfl⟩
   obtain⟨Q3,hQ3⟩:∃ q,Q2++cmT nm 4=q:=⟨_,rfl⟩
   have hE:Q3=Z:=(by rw[← HZ.out,HE.out,← hQ3,← hQ2,← hQ1];simp)
   subst hE
   have zQ2:Q2.length≤70368744177664:=(by have:=congrArg List.length hQ3;rw[List.length_append] at this;omega)
   have zQ1:Q1.length≤70368744177664:=(by have:=congrArg List.length hQ2;rw[List.length_append] at this;omega)
   have zQ3:=hZ
   have HQ1:Hid (T++cmT nm 1=Q1):=hQ1
   have HQ2:Hid (Q1++(wlL Y).flatten=Q2):=hQ2
   have HQ3:Hid (Q2++cmT nm 4=Q3):=hQ3
   clear HZ hQ1 hQ2 hQ3
   go_enter Tryz.func23,Tryz.ntmps23
   have c0:u.cell? ⟨pl,0,none⟩=some (.func (.func 18) #[] #[.pointer (some ⟨b,0,none⟩)]):=hP.cell (ZfB b pl pc nm R2) 0
   have d0:u.cell? ⟨pc,0,none⟩=some (.string ⟨(cmL nm 1).toArray⟩):=hP.cell (ZfA b pl pc nm R2) 0
   have hc:=Zmz w b (R2++ifRS b pl pc nm) nm HN.out hl 1 T Q1 HQ1 zQ1 _ hP
   clear hP
   go_wp2_with fail
   refine hc.mono ?_
   rintro e w1 ⟨rfl,hP⟩
   clear hc c0 d0
   have c0:w1.cell? ⟨pl,0,none⟩=some (.func (.func 18) #[] #[.pointer (some ⟨b,0,none⟩)]):=hP.cell (ZfB b pl pc nm R2) 0
   have hc:=ZmK w b (R2++ifRS b pl pc nm) Y (.slice yo Y.length yc) HY (by omega) HTY Q1 Q2 HQ2 zQ2 _ hP
   clear hP
   go_wp2_with fail
   refine hc.mono ?_
   rintro e w2 ⟨rfl,hP⟩
   clear hc c0
   have c0:w2.cell? ⟨pl,0,none⟩=some (.func (.func 18) #[] #[.pointer (some ⟨b,0,none⟩)]):=hP.cell (ZfB b pl pc nm R2) 0
   have d0:w2.cell? ⟨pc,3,none⟩=some (.string ⟨(cmL nm 4).toArray⟩):=hP.cell (ZfA b pl pc nm R2) 3
   have hc:=Zmz w b (R2++ifRS b pl pc nm) nm HN.out hl 4 Q2 Q3 HQ3 zQ3 _ hP
   clear hP
   go_wp2_with fail
   refine hc.mono ?_
   rintro e w3 ⟨rfl,hP⟩
   clear hc c0 d0
   go_wp2
   go_end0
   exact⟨rfl,hP⟩
  ·have e2:((X.length:Int) == 0)=false:=(by
    rw[beq_eq_false_iff_ne]
    intro e
    exact h2 (List.eq_nil_of_length_eq_zero (by omega)))
   have HE:Hid ((ifC nm X Y).flatten=cmT nm 2++((wlL X).flatten++(cmT nm 3++((wlL Y).flatten++cmT nm 4)))):=(by show _=_;rw[Zfv h2 h1];simp)
   clear h1 h2 hxy
   obtain⟨Q1,hQ1⟩:∃ q,T++cmT nm 2=q:=⟨_,rfl⟩
   obtain⟨Q2,hQ2⟩:∃ q,Q1++(wlL X).flatten=q:=⟨_,rfl⟩
   obtain⟨Q3,hQ3⟩:∃ q,Q2++cmT nm 3=q:=⟨_,rfl⟩
   obtain⟨Q4,hQ4⟩:∃ q,Q3++(wlL Y).flatten=q:=⟨_,rfl⟩
   obtain⟨Q5,hQ5⟩:∃ q,Q4++cmT nm 4=q:=⟨_,rfl⟩
   have hE:Q5=Z:=(by rw[← HZ.out,HE.out,← hQ5,← hQ4,← hQ3,← hQ2,← hQ1];simp)
   subst hE
   have zQ4:Q4.length≤70368744177664:=(by have:=congrArg List.length hQ5;rw[List.length_append] at this;omega)
   have zQ3:Q3.length≤70368744177664:=(by have:=congrArg List.length hQ4;rw[List.length_append] at this;omega)
   have zQ2:Q2.length≤70368744177664:=(by have:=congrArg List.length hQ3;rw[List.length_append] at this;omega)
   have zQ1:Q1.length≤70368744177664:=(by have:=congrArg List.length hQ2;rw[List.length_append] at this;omega)
   have zQ5:=hZ
   have HQ1:Hid (T++cmT nm 2=Q1):=hQ1
   have HQ2:Hid (Q1++(wlL X).flatten=Q2):=hQ2
   have HQ3:Hid (Q2++cmT nm 3=Q3):=hQ3
   have HQ4:Hid (Q3++(wlL Y).flatten=Q4):=hQ4
   have HQ5:Hid (Q4++cmT nm 4=Q5):=hQ5
   clear HZ hQ1 hQ2 hQ3 hQ4 hQ5
   go_enter Tryz.func23,Tryz.ntmps23
   have c0:u.cell? ⟨pl,0,none⟩=some (.func (.func 18) #[] #[.pointer (some ⟨b,0,none⟩)]):=hP.cell (ZfB b pl pc nm R2) 0
   have d0:u.cell? ⟨pc,1,none⟩=some (.string ⟨(cmL nm 2).toArray⟩):=hP.cell (ZfA b pl pc nm R2) 1
   have hc:=Zmz w b (R2++ifRS b pl pc nm) nm HN.out hl 2 T Q1 HQ1 zQ1 _ hP
   clear hP
   go_wp2_with fail
   refine hc.mono ?_
   rintro e w1 ⟨rfl,hP⟩
   clear hc c0 d0
   have c0:w1.cell? ⟨pl,0,none⟩=some (.func (.func 18) #[] #[.pointer (some ⟨b,0,none⟩)]):=hP.cell (ZfB b pl pc nm R2) 0
   have hc:=ZmK w b (R2++ifRS b pl pc nm) X (.slice xo X.length xc) HX (by omega) HTX Q1 Q2 HQ2 zQ2 _ hP
   clear hP
   go_wp2_with fail
   refine hc.mono ?_
   rintro e w2 ⟨rfl,hP⟩
   clear hc c0
   have c0:w2.cell? ⟨pl,0,none⟩=some (.func (.func 18) #[] #[.pointer (some ⟨b,0,none⟩)]):=hP.cell (ZfB b pl pc nm R2) 0
   have d0:w2.cell? ⟨pc,2,none⟩=some (.string ⟨(cmL nm 3).toArray⟩):=hP.cell (ZfA b pl pc nm R2) 2
   have hc:=Zmz w b (R2++ifRS b pl pc nm) nm HN.out hl 3 Q2 Q3 HQ3 zQ3 _ hP
   clear hP
   go_wp2_with fail
   refine hc.mono ?_
   rintro e w3 ⟨rfl,hP⟩
   clear hc c0 d0
   have c0:w3.cell? ⟨pl,0,none⟩=some (.func (.func 18) #[] #[.pointer (some ⟨b,0,none⟩)]):=hP.cell (ZfB b pl pc nm R2) 0
   have hc:=ZmK w b (R2++ifRS b pl pc nm) Y (.slice yo Y.length yc) HY (by omega) HTY Q3 Q4 HQ4 zQ4 _ hP
   clear hP
   go_wp2_with fail
   refine hc.mono ?_
   rintro e w4 ⟨rfl,hP⟩
   clear hc c0
   have c0:w4.cell? ⟨pl,0,none⟩=some (.func (.func 18) #[] #[.pointer (some ⟨b,0,none⟩)]):=hP.cell (ZfB b pl pc nm R2) 0
   have d0:w4.cell? ⟨pc,3,none⟩=some (.string ⟨(cmL nm 4).toArray⟩):=hP.cell (ZfA b pl pc nm R2) 3
   have hc:=Zmz w b (R2++ifRS b pl pc nm) nm HN.out hl 4 Q4 Q5 HQ5 zQ5 _ hP
   clear hP
   go_wp2_with fail
   refine hc.mono ?_
   rintro e w5 ⟨rfl,hP⟩
   clear hc c0 d0
   go_wp2
   go_end0
   exact⟨rfl,hP⟩
end

end Go.Proofs.YtcnjephlmcnodaaGreatDoor
