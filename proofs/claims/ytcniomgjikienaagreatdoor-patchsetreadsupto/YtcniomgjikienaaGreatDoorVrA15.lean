/-
  Texts that belong together, joined: CrW, PrA, UrA, UrB.
-/
import Derived.Test.YtcniomgjikienaaGreatDoorVrA14
import Derived.Deep.CutBlock

set_option maxHeartbeats 16000000
set_option maxRecDepth 100000
namespace Go.Proofs.YtcniomgjikienaaGreatDoor

section
open Go.RowKit
attribute [local go_sem] ByteArray.extract_mk Zhc
theorem Zrw {s:List UInt8} (h:s.length<15):isSt s=false:=by
 unfold isSt
 rw[Zpc,decide_eq_false (by show ¬ 15≤s.length;omega)]
 rfl
theorem Zrv {s:List UInt8} (h:s.take 15≠starsT):isSt s=false:=by
 unfold isSt
 rw[Zpc]
 have e:(s.take starsT.length == starsT)=false:=beq_eq_false_iff_ne.2 h
 rw[e,Bool.and_false,Bool.false_and]
theorem Zru {s:List UInt8} (h15:15≤s.length) (h:s.take 15=starsT):isSt s=((s.drop 15).isEmpty || (s.drop 15).head? == some 32):=by
 unfold isSt
 rw[Zpc]
 have e:(s.take starsT.length == starsT)=true:=beq_iff_eq.2 h
 rw[e,decide_eq_true (by show 15≤s.length;omega)]
 simp
theorem Zrt {s:List UInt8} (h15:s.length=15) (h:s.take 15=starsT):isSt s=true:=by
 rw[Zru (by omega) h,List.drop_eq_nil_of_le (by omega)]
 rfl
theorem Zrs {s:List UInt8} (h15:15<s.length) (h:s.take 15=starsT):isSt s=(s[15] == 32):=by
 rw[Zru (by omega) h,List.drop_eq_getElem_cons h15,List.head?_cons]
 rw[Bool.eq_iff_iff]
 simp
 omega
def stA (s:List UInt8) (st:Except (Nat × Int) Nat):Except (Nat × Int) Nat:=if isSt s=true then st else flS 3 st
def stB (k:Nat) (s:List UInt8) (st:Except (Nat × Int) Nat):Except (Nat × Int) Nat:=if 4096≤k then flS 9 (stA s st) else stA s st
theorem Zrr (k:Nat) (s:List UInt8) (p1:Nat):stB k s (.ok p1)=stS k s p1:=by
 unfold stB stA stS
 by_cases h1:isSt s=true
 ·rw[if_pos h1,if_pos h1]
  rfl
 ·rw[if_neg h1,if_neg h1]
  split<;>rfl
theorem Zrq (k:Nat) (s:List UInt8) (e:Nat × Int):stB k s (.error e)=.error e:=by
 unfold stB stA
 split<;>split<;>rfl
theorem ZqI {e:UInt8} {L:List (List UInt8)} {st:Except (Nat × Int) Nat} {q:Int × Int} {p1:Nat} (h:rgZ e L st=.ok (q,p1)):p1≤L.length:=by
 cases st with
 | error x=>cases h
 | ok p =>
  unfold rgZ at h
  dsimp only at h
  cases h1:rngP e p (L.drop p) with
  | error x=>rw[h1] at h;cases h
  | ok z =>
   rw[h1] at h
   cases h
   have:=(Zrb h1).2
   omega
theorem ZoE {L:List (List UInt8)} (hs:∀ s∈L,s.length≤1099511627776) {st:Except (Nat × Int) Nat} {s:List UInt8} {p1:Nat} (h:nxZ L st=.ok (s,p1)):s.length≤1099511627776∧p1≤L.length:=by
 cases st with
 | error x=>cases h
 | ok p =>
  unfold nxZ at h
  dsimp only at h
  by_cases hp:p<L.length
  ·rw[Zhm hp] at h
   have h2:=hs L[p] (List.getElem_mem hp)
   split at h
   ·rename_i h3
    split at h3
    ·cases h3
    ·cases h3
     cases h
   ·rename_i h3
    split at h3
    ·cases h3
     cases h
     rw[List.length_dropLast]
     omega
    ·cases h3
  ·rw[Zhn (by omega)] at h
   cases h
theorem Zqw {sg:UInt8} (ls:List (List UInt8)):∀ {p p1:Nat} {r:List (List UInt8)} {x:Sde},rdS sg p ls=.ok (x,p1,r)→p1≤p+ls.length:=by
 induction ls with
 | nil =>
  intro p p1 r x h
  simp only[rdS] at h
  cases h
  exact Nat.le_refl _
 | cons s ls ih =>
  intro p p1 r x h
  simp only[rdS] at h
  split at h
  ·split at h
   ·split at h
    ·rename_i hm
     cases h
     have:0<ls.length:=by
      cases ls with
      | nil=>cases hm.1
      | cons _ _=>simp
     simp only[List.length_cons]
     omega
    ·split at h
     ·cases h
     ·rename_i hr
      have:=ih hr
      cases h
      simp only[List.length_cons]
      omega
   ·cases h
  ·cases h
   omega
theorem Zrk {sg:UInt8} {L:List (List UInt8)} {st:Except (Nat × Int) Nat} (hst:∀ p,st=.ok p→p≤L.length) {x:Sde} {p1:Nat} (h:sdZ sg L st=.ok (x,p1)):p1≤L.length:=by
 cases st with
 | error e=>cases h
 | ok p =>
  have hp:=hst p rfl
  unfold sdZ at h
  dsimp only at h
  cases h1:rdS sg p (L.drop p) with
  | error e=>rw[h1] at h;cases h
  | ok z =>
   obtain⟨y,p2,r⟩:=z
   rw[h1] at h
   cases h
   have:=Zqw _ h1
   rw[List.length_drop] at this
   omega
theorem Lx.grown {w0 w u:World} {R X:Nat} {a p n:Int} {vk vl:Value} {ks:List UInt8} {ts:List (List UInt8)} (h:Lx w R X a p n vk vl ks ts u) (hg:w0.grownBy w (some R)) (hX:w0.heap.size≤X):w0.grownBy u (some R) :=
 ⟨h.os.trans hg.os,h.tape.trans hg.tape,h.output.trans hg.output,Nat.le_trans hg.size h.size,fun k h1 h2=>(h.block k (Nat.lt_of_lt_of_le h1 hg.size) (fun e=>h2 (congrArg some e)) (by omega)).trans (hg.block k h1 h2)⟩
def put5h (u:World) (b:Nat) (A AN B BN:Int) (v:Value):World:=((((u.setCell ⟨b,0,none⟩ (.int .i64 A)).setCell ⟨b,1,none⟩ (.int .i64 AN)).setCell ⟨b,2,none⟩ (.int .i64 B)).setCell ⟨b,3,none⟩ (.int .i64 BN)).setCell ⟨b,4,none⟩ v
theorem Zpq {u:World} {b:Nat} (h:Bh u b) (A AN B BN:Int) (v:Value):(put5h u b A AN B BN v).heap[b]?=some (hxO A AN B BN v):=by
 have s0:=heap_setCell_same u b 0 _ _ (.int .i64 A) h
 have s1:=heap_setCell_same _ b 1 _ _ (.int .i64 AN) s0
 have s2:=heap_setCell_same _ b 2 _ _ (.int .i64 B) s1
 have s3:=heap_setCell_same _ b 3 _ _ (.int .i64 BN) s2
 exact heap_setCell_same _ b 4 _ _ v s3
theorem Zps {u:World} {b:Nat} (A AN B BN:Int) (v:Value):u.grownBy (put5h u b A AN B BN v) (some b):=ZdT (ZdT (ZdT (ZdT (ZdS u _ 0 _) (ZdS _ _ 1 _)) (ZdS _ _ 2 _)) (ZdS _ _ 3 _)) (ZdS _ _ 4 _)
theorem Zpr {w u:World} {R:Nat} (h:w.grownBy u (some R)) (A AN B BN:Int) (v:Value):w.grownBy (put5h u w.heap.size A AN B BN v) (some R) :=
 ZdR (ZdR (ZdR (ZdR (ZdR h (Nat.le_refl _) 0 _) (Nat.le_refl _) 1 _) (Nat.le_refl _) 2 _) (Nat.le_refl _) 3 _) (Nat.le_refl _) 4 _
theorem Bh.cells {u:World} {b:Nat} (q:Bh u b):u.cell? ⟨b,0,none⟩=some (.int .i64 0)∧u.cell? ⟨b,1,none⟩=some (.int .i64 0)∧u.cell? ⟨b,2,none⟩=some (.int .i64 0)∧u.cell? ⟨b,3,none⟩=some (.int .i64 0)∧u.cell? ⟨b,4,none⟩=some (.slice none 0 0):=by
 unfold Bh hxO at q
 refine⟨?_,?_,?_,?_,?_⟩<;>rw[Lib.cell_of_heap q]<;>rfl
theorem Bh.frozen {u:World} {b:Nat} (q:Bh u b) (j:Nat):u.frozen? ⟨b,j,none⟩=false:=Lib.frozen_of_heap q j
theorem Zqr {u:World} {R:Nat} {vL:Value} {p5 n:Nat} {A z:Int} (q:RdZ u R vL (.ok p5)) (hA:(n:Int)=A) (hz:z≠0):RdZ ((u.setCell ⟨R,2,none⟩ (.int .i64 A)).setCell ⟨R,3,none⟩ (.int .i64 z)) R vL (.error (n,z)):=by
 subst hA
 exact⟨⟨p5,Rx.fault q _ _⟩,hz⟩
def KpR (w:World) (x:Sde) (a p n:Int) (y:Value) (w':World):Prop:=∃ vk vl,y=ptV5 a p n vk vl∧w'.ownsRow w.heap.size 5 1 vk (keptS x).length (kcells (keptS x))∧w'.ownsRow w.heap.size 9 1 vl (keptS x).length (scells ((keptS x).map (·.2)))∧Below w.heap.size w w'
theorem Zop {u:World} {b:Nat} {a p n:Int} {o1 o2:Option Addr} {m1 m2 c1 c2:Nat} (h:Bp5 u b a p n (.slice o1 m1 c1) (.slice o2 m2 c2)) {op:Oper} (x:Operand) (ho:op.op=.load 176 x) {ev:Operand→Value} (hx:ev x=.pointer (some ⟨b,0,none⟩)) :
  (execOp ev op).run Tryz.prog u=.ok (.value (.agg #[.int .i64 a,.int .i64 p,.int .i64 n,.slice o1 m1 c1,.slice o2 m2 c2])) u:=by
 obtain⟨d0,d1,d2,d3,d4⟩:=h.cells
 simp only[execOp,ho,hx]
 go_simp
theorem Zna {u:World} {a:Addr} {v0:Value} (hc:u.cell? a=some v0) (hf:u.frozen? a=false) {o:Option Addr} {n c:Nat} {op:Oper} (x y:Operand) (ho:op.op=.store 49 x y) {ev:Operand→Value} (hx:ev x=.pointer (some a)) (hy:ev y=.slice o n c) :
  (execOp ev op).run Tryz.prog u=.ok .skip (u.setCell a (.slice o n c)):=by
 simp only[execOp,ho,hx,hy]
 go_simp
theorem Znb {u:World} {a:Addr} {v0:Value} (hc:u.cell? a=some v0) (hf:u.frozen? a=false) {o:Option Addr} {n c:Nat} {op:Oper} (x y:Operand) (ho:op.op=.store 83 x y) {ev:Operand→Value} (hx:ev x=.pointer (some a)) (hy:ev y=.slice o n c) :
  (execOp ev op).run Tryz.prog u=.ok .skip (u.setCell a (.slice o n c)):=by
 simp only[execOp,ho,hx,hy]
 go_simp
theorem Znw {R:Nat} {L:List (List UInt8)} {lo:Option Addr} {lc:Nat} {p k:Nat} (w:World) (q:RdZ w R (.slice lo L.length lc) (.ok p)) (HL:Hid (∀ u:World,(∀ k,k<w.heap.size→k≠R→u.heap[k]?=w.heap[k]?)→HS u (.slice lo L.length lc) L)) (hR:∀ a,lo=some a→a.block≠R) (hp:p≤L.length) (hLl:L.length≤549755813888) (hs:∀ s∈L,s.length≤1099511627776) (hk:k≤1099511627776)
  (X:Except (Nat × Int) (Hk × Nat)) (HX:Hid (hkZ k L p=X)) :
  Calls Tryz.prog 67 #[.pointer (some ⟨R,0,none⟩),.int .i64 (k:Int)] w fun x w'=>∃ h v,x=.returned (hkV h v)∧w'.ownsRow w.heap.size 47 2 v h.ls.length (mkcells h.ls)∧w.grownBy w' (some R)∧HkS R (.slice lo L.length lc) X h w':=by
 have hRw:=q.lt
 have hA:Below w.heap.size w (w.alloc (hxO 0 0 0 0 (.slice none 0 0))):=(Below.refl _ w).alloc (Nat.le_refl _) _
 have bA:Bh (w.alloc (hxO 0 0 0 0 (.slice none 0 0))) w.heap.size:=heap_alloc_new w _
 obtain⟨Y,hY⟩:∃ Y,nxZ L (.ok p)=Y:=⟨_,rfl⟩
 have gA:=ZfO hA (some R)
 have hn:=Znp _ (q.low hA) (HL.out _ (fun k h1 h2=>gA.block k h1 (fun e=>h2 (Option.some.inj e)))) hR (fun p' e=>by cases e;omega) hs Y hY
 obtain⟨hw1,hw2⟩:=Zsj HX.out
 have hn2:Calls Tryz.prog 100 #[.pointer (some ⟨R,0,none⟩)] (w.alloc (hxO 0 0 0 0 (.slice none 0 0))) fun x w'=>∃ s st1,x=.returned (.string ⟨s.toArray⟩)∧s.length≤1099511627776∧RdZ w' R (.slice lo L.length lc) st1∧(∀ p1,st1=.ok p1→p1≤L.length)∧(∀ at',(∀ p1,st1=.ok p1→at'=p1)→Wy L X at' (stB k s st1))∧(w.alloc (hxO 0 0 0 0 (.slice none 0 0))).grownBy w' (some R):=(by
  refine hn.mono ?_
  cases Y with
  | error x =>
   rintro y w1 ⟨⟨rfl,q1⟩,g1⟩
   exact⟨[],.error x,rfl,by simp,q1,fun _ e=>(by cases e),fun at' _=>(by rw[Zrq];exact hw1 x at' hY),g1⟩
  | ok y =>
   obtain⟨s,p1⟩:=y
   rintro y w1 ⟨⟨rfl,q1⟩,g1⟩
   obtain⟨h1,h2⟩:=ZoE hs hY
   exact⟨s,.ok p1,rfl,h1,q1,fun _ e=>(by cases e;exact h2),fun at' ha=>(by rw[Zrr,ha p1 rfl];exact hw2 s p1 hY),g1⟩)
 clear hn hw1 hw2 hY q hA HX
 go_enter Tryz.func67,Tryz.ntmps67
 go_wp2_with fail
 refine hn2.mono ?_
 rintro y w1 ⟨s,st1,rfl,hsl,q1,hp1,hwy,g1⟩
 obtain⟨p',c1,hpe⟩:=q1.at
 have HWy:Hid (Wy L X p' (stB k s st1)):=hwy p' hpe
 have HP1:Hid (∀ p1,st1=.ok p1→p1≤L.length):=hp1
 have b1:Bh w1 w.heap.size:=(g1.block _ (Array.getElem?_eq_some_iff.1 bA).1 (fun x=>by have:=Option.some.inj x;omega)).trans bA
 have gw:=ZdT gA g1
 clear hn2 gA bA g1 hwy hp1
 go_upto_region 3 with fail
 go_cut [35] (fun cv wz=>cv=.bool (!isSt s)∧wz=w1)
 case first =>
  by_cases h1:s.length<15
  ·have i1:(s.length:Int)<15:=by omega
   have e:=Zrw h1
   go_wp2
   go_meet
   case rel=>exact⟨by rw[e];rfl,rfl⟩
  ·have i1:¬ (s.length:Int)<15:=by omega
   have i2:(15:Int)≤(s.length:Int):=by omega
   by_cases h2:s.take 15=starsT
   ·have j1:(s.take 15 == [42,42,42,42,42,42,42,42,42,42,42,42,42,42,42])=true:=beq_iff_eq.2 h2
    by_cases h3:15<s.length
    ·have i3:(15:Int)<(s.length:Int):=by omega
     have e:=Zrs h3 h2
     obtain⟨c,hc⟩:∃ c,s[15]=c:=⟨_,rfl⟩
     rw[hc] at e
     have j2:((c.toNat:Int) != 32)=!(c == 32):=(by
      have h:=Zfi c 32
      exact h)
     clear h2
     go_wp2
     go_meet
     case rel=>exact⟨by rw[e],rfl⟩
    ·have i3:¬ (15:Int)<(s.length:Int):=by omega
     have e:=Zrt (by omega) h2
     clear h2
     go_wp2
     go_meet
     case rel=>exact⟨by rw[e];rfl,rfl⟩
   ·have j1:(s.take 15 == [42,42,42,42,42,42,42,42,42,42,42,42,42,42,42])=false:=beq_eq_false_iff_ne.2 h2
    have e:=Zrv h2
    clear h2
    go_wp2
    go_meet
    case rel=>exact⟨by rw[e];rfl,rfl⟩
 case rest =>
 obtain⟨rfl,rfl⟩:=hcut
 go_upto_if 35 with fail
 go_cut [6] (fun av wz=>av=.int .i64 (p':Int)∧RdZ wz R (.slice lo L.length lc) (stA s st1)∧w.grownBy wz (some R)∧Bh wz w.heap.size)
 case first =>
  cases hst:isSt s with
  | true =>
   have HA:Hid (stA s st1=st1):=if_pos hst
   go_wp2
   go_meet
   case rel=>exact⟨rfl,by rw[HA.out];exact q1,gw,b1⟩
  | false =>
   have HA:Hid (stA s st1=flS 3 st1):=if_neg (by rw[hst];decide)
   go_wp2_with fail
   refine (Zni 3 (by decide) _ q1).mono ?_
   rintro e2 w2 ⟨rfl,q2,g2⟩
   have b2:Bh w2 w.heap.size:=(g2.block _ (Array.getElem?_eq_some_iff.1 b1).1 (fun x=>by have:=Option.some.inj x;omega)).trans b1
   go_wp2
   go_meet
   case rel=>exact⟨rfl,by rw[HA.out];exact q2,ZdT gw g2,b2⟩
 case rest =>
 obtain⟨rfl,q2,g2,b2⟩:=hcut
 clear q1 gw b1 c1
 go_upto_region 5 with fail
 go_cut [39] (fun cv wz=>cv=.bool (decide (4096≤k))∧wz=wc)
 case first =>
  by_cases h1:4096≤k
  ·have i1:(4096:Int)≤(k:Int):=by omega
   have e:decide (4096≤k)=true:=decide_eq_true h1
   go_wp2
   go_meet
   case rel=>exact⟨by rw[e],rfl⟩
  ·have i1:¬ (4096:Int)≤(k:Int):=by omega
   have e:decide (4096≤k)=false:=decide_eq_false h1
   go_wp2
   go_meet
   case rel=>exact⟨by rw[e],rfl⟩
 case rest =>
 obtain⟨rfl,rfl⟩:=hcut
 go_upto_if 39 with fail
 go_cut [6] (fun av wz=>av=.int .i64 (p':Int)∧RdZ wz R (.slice lo L.length lc) (stB k s st1)∧w.grownBy wz (some R)∧Bh wz w.heap.size)
 case first =>
  by_cases h1:4096≤k
  ·have e:decide (4096≤k)=true:=decide_eq_true h1
   have HA:Hid (stB k s st1=flS 9 (stA s st1)):=if_pos h1
   rw[e]
   go_wp2_with fail
   refine (Zni 9 (by decide) _ q2).mono ?_
   rintro e3 w3 ⟨rfl,q3,g3⟩
   have b3:Bh w3 w.heap.size:=(g3.block _ (Array.getElem?_eq_some_iff.1 b2).1 (fun x=>by have:=Option.some.inj x;omega)).trans b2
   go_wp2
   go_meet
   case rel=>exact⟨rfl,by rw[HA.out];exact q3,ZdT g2 g3,b3⟩
  ·have e:decide (4096≤k)=false:=decide_eq_false h1
   have HA:Hid (stB k s st1=stA s st1):=if_neg h1
   rw[e]
   go_wp2
   go_meet
   case rel=>exact⟨rfl,by rw[HA.out];exact q2,g2,b2⟩
 case rest =>
 obtain⟨rfl,q3,g3,b3⟩:=hcut
 clear q2 g2 b2
 have HP2:Hid (∀ p1,stB k s st1=.ok p1→p1≤L.length):=(by
  intro p1 h1
  cases st1 with
  | error e=>rw[Zrq] at h1;cases h1
  | ok p0 =>
   have h2:=HP1.out p0 rfl
   rw[Zrr] at h1
   unfold stS at h1
   split at h1
   ·split at h1
    ·cases h1
    ·cases h1
     exact h2
   ·cases h1)
 generalize stB k s st1=st2 at HWy q3 HP2
 clear HP1 hpe
 generalize wc=w3 at *
 have hw:=HWy.out
 obtain⟨Z3,hZ3⟩:∃ Z,rgZ 42 L st2=Z:=⟨_,rfl⟩
 have h3:=Zny 42 w3 q3 (show Hid _ from HL.out w3 (fun k h1 h2=>g3.block k h1 (fun e=>h2 (Option.some.inj e)))) hR (fun p e=>by have:=HP2.out p e;omega) hs (fun s p1 e=>(ZoE hs e).1) Z3 hZ3
 go_wp2_with fail
 refine h3.mono ?_
 rintro y w4 ⟨a1,p1,n1,rfl,r4,g4⟩
 have q4:=r4.st
 unfold ptV5
 have hP4:∀ p,stP Z3=.ok p→p≤L.length:=(by
  intro p hp
  rcases Z3 with e | ⟨q,p2⟩
  ·cases hp
  ·cases hp
   exact ZqI hZ3)
 have b4:Bh w4 w.heap.size:=(g4.block _ (Array.getElem?_eq_some_iff.1 b3).1 (fun x=>by have:=Option.some.inj x;omega)).trans b3
 have gw4:=ZdT g3 g4
 have hO:w.heap.size<w4.heap.size:=(Array.getElem?_eq_some_iff.1 b4).1
 have hB5:Below w4.heap.size w4 (w4.alloc (ptO5 a1 p1 n1 (.slice none 0 0) (.slice none 0 0))):=(Below.refl _ w4).alloc (Nat.le_refl _) _
 have bO:Bp5 (w4.alloc (ptO5 a1 p1 n1 (.slice none 0 0) (.slice none 0 0))) w4.heap.size a1 p1 n1 (.slice none 0 0) (.slice none 0 0):=heap_alloc_new w4 _
 have q5:=q4.low hB5
 have g5:=ZdT gw4 (ZfO hB5 _)
 have b5:Bh (w4.alloc (ptO5 a1 p1 n1 (.slice none 0 0) (.slice none 0 0))) w.heap.size:=(hB5.block _ hO).trans b4
 have z5:(w4.alloc (ptO5 a1 p1 n1 (.slice none 0 0) (.slice none 0 0))).heap.size=w4.heap.size+1:=by simp
 clear h3 q3 g3 b3 b4 gw4 g4 q4 hB5
 go_upto_region 8 with fail
 generalize w4.alloc (ptO5 a1 p1 n1 (.slice none 0 0) (.slice none 0 0))=w5 at *
 obtain⟨O,hOe⟩:∃ O,w4.heap.size=O:=⟨_,rfl⟩
 rw[hOe] at bO hO z5 ⊢
 have hOR:O≠R:=by omega
 have hOw:w.heap.size≠O:=by omega
 have hZ3':=hZ3
 clear hOe
 obtain⟨Z4,hZ4⟩:∃ Z,sdZ 45 L (stP Z3)=Z:=⟨_,rfl⟩
 have h5:=ZoZ 45 a1 p1 n1 w5 q5 bO hOR (show Hid _ from fun u hu=>HL.out u (fun k h1 h2=>(hu k (by omega) h2 (by omega)).trans (g5.block k h1 (fun e=>h2 (Option.some.inj e))))) hR hP4 (by omega) hs Z4 hZ4
 go_wp2_with fail
 refine h5.mono ?_
 rintro y w6 ⟨rfl,vk,vl,ks,ts,o,hx6,⟨hk6,ht6⟩,ln6⟩
 have q6:=ln6.st
 have g6:=hx6.grown g5 (by omega)
 have b6:Bh w6 w.heap.size:=(hx6.block _ (by omega) (by omega) hOw).trans b5
 have hP6:∀ p,stP Z4=.ok p→p≤L.length:=(by
  intro p hp
  rcases Z4 with e | ⟨q,p2⟩
  ·cases hp
  ·cases hp
   exact Zrk hP4 hZ4)
 have hOk:=ZhC (B':=w.heap.size) hx6.ok (by omega)
 have hOl:=ZhC (B':=w.heap.size) hx6.ol (by omega)
 have bO6:=hx6.box
 have z6:=hx6.size
 clear h5 q5 g5 b5 bO hx6
 obtain⟨Z5,hZ5⟩:∃ Z,rgZ 45 L (stP Z4)=Z:=⟨_,rfl⟩
 have h6:=Zny 45 w6 q6 (show Hid _ from HL.out w6 (fun k h1 h2=>g6.block k h1 (fun e=>h2 (Option.some.inj e)))) hR (fun p e=>by have:=hP6 p e;omega) hs (fun s p1 e=>(ZoE hs e).1) Z5 hZ5
 go_wp2_with fail
 refine h6.mono ?_
 rintro y w7 ⟨a2,p2,n2,rfl,r7,g7⟩
 have q7:=r7.st
 unfold ptV5
 have hP7:∀ p,stP Z5=.ok p→p≤L.length:=(by
  intro p hp
  rcases Z5 with e | ⟨q,p2⟩
  ·cases hp
  ·cases hp
   exact ZqI hZ5)
 have b7:Bh w7 w.heap.size:=(g7.block _ (by omega) (fun x=>by have:=Option.some.inj x;omega)).trans b6
 have gw7:=ZdT g6 g7
 have bO7:=bO6.off g7 (fun x=>hOR (Option.some.inj x))
 have hOk7:=ZhI hOk g7 hRw
 have hOl7:=ZhI hOl g7 hRw
 have hV:O<w7.heap.size:=bO7.lt
 have hB8:Below w7.heap.size w7 (w7.alloc (ptO5 a2 p2 n2 (.slice none 0 0) (.slice none 0 0))):=(Below.refl _ w7).alloc (Nat.le_refl _) _
 have bV:Bp5 (w7.alloc (ptO5 a2 p2 n2 (.slice none 0 0) (.slice none 0 0))) w7.heap.size a2 p2 n2 (.slice none 0 0) (.slice none 0 0):=heap_alloc_new w7 _
 have q8:=q7.low hB8
 have g8:=ZdT gw7 (ZfO hB8 _)
 have b8:Bh (w7.alloc (ptO5 a2 p2 n2 (.slice none 0 0) (.slice none 0 0))) w.heap.size:=(hB8.block _ (by omega)).trans b7
 have bO8:=bO7.low hB8
 have hOk8:=ZhK hOk7 hB8
 have hOl8:=ZhK hOl7 hB8
 have HVk:Hid (∀ kk,vk.ownBlock=some kk→kk<w7.heap.size):=fun kk hkk=>ZoO hOk7 hkk
 have HVl:Hid (∀ kk,vl.ownBlock=some kk→kk<w7.heap.size):=fun kk hkk=>ZoO hOl7 hkk
 have z8:(w7.alloc (ptO5 a2 p2 n2 (.slice none 0 0) (.slice none 0 0))).heap.size=w7.heap.size+1:=by simp
 clear h6 q6 g6 b6 b7 gw7 g7 q7 hB8 hOk hOl bO6 hOk7 hOl7 bO7
 go_upto_region 10 with fail
 generalize w7.alloc (ptO5 a2 p2 n2 (.slice none 0 0) (.slice none 0 0))=w8 at *
 obtain⟨V,hVe⟩:∃ V,w7.heap.size=V:=⟨_,rfl⟩
 rw[hVe] at bV hV z8 HVk HVl ⊢
 have hVR:V≠R:=by omega
 clear hVe
 obtain⟨Z6,hZ6⟩:∃ Z,sdZ 43 L (stP Z5)=Z:=⟨_,rfl⟩
 have h8:=ZoZ 43 a2 p2 n2 w8 q8 bV hVR (show Hid _ from fun u hu=>HL.out u (fun k h1 h2=>(hu k (by omega) h2 (by omega)).trans (g8.block k h1 (fun e=>h2 (Option.some.inj e))))) hR hP7 (by omega) hs Z6 hZ6
 go_wp2_with fail
 refine h8.mono ?_
 rintro y w9 ⟨rfl,uk,ul,ks2,ts2,v,hx9,⟨hk9,ht9⟩,ln9⟩
 have q9:=ln9.st
 have g9:=hx9.grown g8 (by omega)
 have b9:Bh w9 w.heap.size:=(hx9.block _ (by omega) (by omega) (by omega)).trans b8
 have bO9:Bp5 w9 O a1 p1 n1 vk vl:=(hx9.block _ (by omega) hOR (by omega)).trans bO8
 have hOk9:=ZoN (u':=w9) hOk8 (fun kk hkk=>hx9.block kk (ZoO hOk8 hkk) (by have:=ZhJ hOk8 hkk;omega) (by have:=HVk.out kk hkk;omega))
 have hOl9:=ZoN (u':=w9) hOl8 (fun kk hkk=>hx9.block kk (ZoO hOl8 hkk) (by have:=ZhJ hOl8 hkk;omega) (by have:=HVl.out kk hkk;omega))
 have hH:H2 w R O V a1 p1 n1 vk vl o a2 p2 n2 uk ul v w9:=⟨g9,b9,bO9,hx9.box,(ZoP hOk9 hOl9 hk6 ht6).1,(ZoP hOk9 hOl9 hk6 ht6).2,ZhC (ZoP hx9.ok hx9.ol hk9 ht9).1 (by omega),ZhC (ZoP hx9.ok hx9.ol hk9 ht9).2 (by omega),hRw,hO,hV⟩
 clear h8 q8 g8 b8 bO8 hOk8 hOl8 HVk HVl hOk9 hOl9 bO9 b9 g9 hx9 bV
 have c3:=q9.fe
 have hbad:=hw.bad
 have hgood:=hw.good
 rw[hZ3,hZ4,hZ5,hZ6] at hbad hgood
 cases hst:stP Z6 with
 | error e =>
  obtain⟨ea,ez⟩:=e
  rw[hst] at c3 q9
  have hXe:=hbad _ hst
  subst hXe
  have hz:(ez != 0)=true:=bne_iff_ne.2 q9.2
  unfold feS at c3
  dsimp only at c3
  obtain⟨z0,z1,z2,z3,z4⟩:=hH.q.cells
  have zf0:=hH.q.frozen 0
  have zf1:=hH.q.frozen 1
  have zf2:=hH.q.frozen 2
  have zf3:=hH.q.frozen 3
  have zf4:=hH.q.frozen 4
  have fh:=Zpq hH.q 0 0 0 0 (.slice none 0 0)
  have fg:=Zpr hH.gr 0 0 0 0 (.slice none 0 0)
  have fq:=q9.off (Zps (u:=w9) (b:=w.heap.size) 0 0 0 0 (.slice none 0 0)) (fun x=>by have:=Option.some.inj x;omega)
  go_wp2
  refine bodyPost_ret (v:=hkV ⟨0,0,0,0,[]⟩ (.slice none 0 0)) (results_cell_row rfl _ _ w.heap.size 45 #[.int .i64 0,.int .i64 0,.int .i64 0,.int .i64 0,.slice none 0 0] (0,0) _ rfl fh Tryz.underlying45 rfl (by kernel_rfl)) rfl ⟨_,_,rfl,World.ownsRow_nil _ _ _ _,fg,fq⟩
 | ok p5 =>
  rw[hst] at c3 q9
  obtain⟨qa,pa,o',p3,qb,pb,v',e3,e4,e5,e6,hX⟩:=hgood p5 hst
  subst e3
  have e4':Z4=.ok (o',p3):=hZ4.symm.trans e4
  subst e4'
  have e5':Z5=.ok (qb,pb):=hZ5.symm.trans e5
  subst e5'
  have e6':Z6=.ok (v',p5):=hZ6.symm.trans e6
  subst e6'
  obtain⟨rfl,rfl,rfl,_⟩:=r4
  obtain⟨rfl,_⟩:=ln6
  obtain⟨rfl,rfl,rfl,_⟩:=r7
  obtain⟨rfl,_⟩:=ln9
  have HXX:Hid (X=hkE (finH p' pa pb qa.1 qa.2 qb.1 qb.2 o v) p5):=hX
  obtain⟨p1,n1⟩:=qa
  obtain⟨p2,n2⟩:=qb
  dsimp only at HXX hH
  have hol:o.length≤549755813888:=Nat.le_trans (Zrj e4) hLl
  have hvl:v.length≤549755813888:=Nat.le_trans (Zrj e6) hLl
  clear hX hbad hgood hw HWy e4 e5 e6 hZ3 hZ4 hZ5 hZ6 hst hP4 hP6 hP7
  obtain⟨ko,kc,l1,lc1,rfl,rfl⟩:=hH.ho.form
  obtain⟨k2,kc2,lo2,lc2,rfl,rfl⟩:=hH.hv.form
  generalize hpa:((pa:Nat):Int)=a1 at *
  generalize hpb:((pb:Nat):Int)=a2 at *
  have HPA:Hid (((pa:Nat):Int)=a1):=hpa
  have HPB:Hid (((pb:Nat):Int)=a2):=hpb
  clear hpa hpb
  obtain⟨s1,hs1⟩:∃ b,sameS o=b:=⟨_,rfl⟩
  obtain⟨s2,hs2⟩:∃ b,sameS v=b:=⟨_,rfl⟩
  have hc1:=Zpk a1 p1 n1 o _ _ w9 hH.ho (by omega) s1 hs1
  have HS1:Hid (sameS o=s1):=hs1
  have HS2:Hid (sameS v=s2):=hs2
  clear hs1 hs2
  obtain⟨sb,hsb⟩:∃ sb,(s1 && s2)=sb:=⟨_,rfl⟩
  have HSB:Hid ((s1 && s2)=sb):=hsb
  clear hsb
  unfold feS at c3
  unfold ptV5 at hc1
  obtain⟨x0,x1,x2,x3,x4⟩:=hH.bo.cells
  go_upto_region 13 with fail
  go_cut [9] (fun nv wz=>nv=.bool sb∧H2 w R O V a1 p1 n1 (.slice ko o.length kc) (.slice l1 o.length lc1) o a2 p2 n2 (.slice k2 v.length kc2) (.slice lo2 v.length lc2) v wz∧RdZ wz R (.slice lo L.length lc) (.ok p5))
  case first =>
   go_wp2_with fail
   refine hc1.mono ?_
   rintro e1 wA ⟨rfl,hBA⟩
   have hHA:=hH.low hBA
   have qA:=q9.low hBA
   have hc2:=Zpk a2 p2 n2 v _ _ wA hHA.hv (by omega) s2 HS2
   unfold ptV5 at hc2
   clear x0 x1 x2 x3 x4
   obtain⟨x0,x1,x2,x3,x4⟩:=hHA.bv.cells
   cases s1 with
   | false =>
    go_wp2
    go_meet
    case rel=>exact⟨congrArg Value.bool HSB.out,hHA,qA⟩
   | true =>
    go_wp2_with fail
    refine hc2.mono ?_
    rintro e2 wB ⟨rfl,hBB⟩
    go_wp2
    go_meet
    case rel=>exact⟨congrArg Value.bool HSB.out,hHA.low hBB,qA.low hBB⟩
  case rest =>
  obtain⟨rfl,hH,q9⟩:=hcut
  clear hc1 x0 x1 x2 x3 x4 c3
  obtain⟨x0,x1,x2,x3,x4⟩:=hH.bo.cells
  obtain⟨y0,y1,y2,y3,y4⟩:=hH.bv.cells
  go_upto_if 66 with fail
  go_cut [6] (fun av wz=>av=.int .i64 (p':Int)∧∃ vk' vl' uk' ul',H2 w R O V a1 p1 n1 vk' vl' (oldF o v) a2 p2 n2 uk' ul' (newF o v) wz∧RdZ wz R (.slice lo L.length lc) (.ok p5))
  case first =>
   by_cases h0:o=[]
   ·have e0:((o.length:Int) == 0)=true:=(by rw[h0];rfl)
    have HOF1:Hid (oldF o v=keptS v):=if_pos h0
    have HNF1:Hid (newF o v=v):=if_neg (fun q=>q.1 h0)
    have hlx:v.length≤1099511627776:=by omega
    clear h0
    have hHd:=hH.low (Below.drew (Below.refl _ _))
    have hHdl:=hlx
    have qd:=q9.low (Below.drew (Below.refl _ _))
    go_upto_region 15 with fail
    refine wp_region_noPanic ?_
    refine wp_region_held_drew (S:=fun u=>Bp5 u V a2 p2 n2 (.slice k2 v.length kc2) (.slice lo2 v.length lc2)) (by kernel_rfl) (hH.bv.low (Below.drew (Below.refl _ _))) (fun hHeld=>?_)
    refine Y_t 0 67 _ (.agg #[.int .i64 a2,.int .i64 p2,.int .i64 n2,.slice k2 v.length kc2,.slice lo2 v.length lc2]) rfl (Or.inl ⟨by kernel_rfl,fun u hu=>Zop hu (.tmp 8) (by kernel_rfl) (by kernel_rfl)⟩) hHeld ?_
    simp only[Act.put,Y_a,Y_b,Y_c]
    refine Y_t 3 70 _ (.agg #[.int .i64 a2,.int .i64 p2,.int .i64 n2,.slice k2 v.length kc2,.slice lo2 v.length lc2]) rfl (Or.inl ⟨by kernel_rfl,fun u hu=>Zop hu (.tmp 8) (by kernel_rfl) (by kernel_rfl)⟩) hHeld ?_
    simp only[Act.put,Y_a,Y_b,Y_c]
    generalize wc.drew=wd at hHd qd hHeld ⊢
    refine Y_e 1 68 _ rfl 108 (.func 108) #[.tmp 67] #[176] (by kernel_rfl) #[] (by kernel_rfl) #[.agg #[.int .i64 a2,.int .i64 p2,.int .i64 n2,.slice k2 v.length kc2,.slice lo2 v.length lc2]] (by kernel_rfl) (enters_of Tryz.func108 (by kernel_rfl) rfl) (KpR wd v a2 p2 n2) ?_ ?_
    ·refine (ZoV a2 p2 n2 v (.slice k2 v.length kc2) (.slice lo2 v.length lc2) wd hHd.hv hHdl).mono ?_
     rintro e3 w3 ⟨vk3,vl3,rfl,ho3,ho4,hB3⟩
     exact⟨_,rfl,hHd.bv.low hB3,vk3,vl3,rfl,ho3,ho4,hB3⟩
    clear hHeld
    rintro y3 wA hHeld ⟨vkwA,vlwA,rfl,hokwA,holwA,hBwA⟩
    simp only[Act.put,Y_a,Y_b,Y_c]
    have hHA:=hHd.low hBwA
    have hHAl:=hlx
    have qA:=qd.low hBwA
    obtain⟨xk,xkc,xl,xlc,hvA,hlA⟩:=(Zeq hokwA holwA).form
    subst hvA hlA
    refine Y_t 2 69 _ (.slice xl (keptS v).length xlc) rfl (Or.inl ⟨by kernel_rfl,fun u hu=>by kernel_rfl⟩) hHeld ?_
    simp only[Act.put,Y_a,Y_b,Y_c]
    refine Y_e 4 71 _ rfl 108 (.func 108) #[.tmp 70] #[176] (by kernel_rfl) #[] (by kernel_rfl) #[.agg #[.int .i64 a2,.int .i64 p2,.int .i64 n2,.slice k2 v.length kc2,.slice lo2 v.length lc2]] (by kernel_rfl) (enters_of Tryz.func108 (by kernel_rfl) rfl) (KpR wA v a2 p2 n2) ?_ ?_
    ·refine (ZoV a2 p2 n2 v (.slice k2 v.length kc2) (.slice lo2 v.length lc2) wA hHA.hv hHAl).mono ?_
     rintro e3 w3 ⟨vk3,vl3,rfl,ho3,ho4,hB3⟩
     exact⟨_,rfl,hHA.bv.low hB3,vk3,vl3,rfl,ho3,ho4,hB3⟩
    clear hHeld
    rintro y3 wB hHeld ⟨vkwB,vlwB,rfl,hokwB,holwB,hBwB⟩
    simp only[Act.put,Y_a,Y_b,Y_c]
    have hHB:=hHA.low hBwB
    have qB:=qA.low hBwB
    obtain⟨yk,ykc,yl,ylc,hvB,hlB⟩:=(Zeq hokwB holwB).form
    subst hvB hlB
    have hol2:=ZhK holwA hBwB
    refine Y_t 5 72 _ (.slice yk (keptS v).length ykc) rfl (Or.inl ⟨by kernel_rfl,fun u hu=>by kernel_rfl⟩) hHeld ?_
    simp only[Act.put,Y_a,Y_b,Y_c]
    refine Y_t 6 73 _ (.pointer (some ⟨O,4,none⟩)) rfl (Or.inl ⟨by kernel_rfl,fun u hu=>by kernel_rfl⟩) hHeld ?_
    simp only[Act.put,Y_a,Y_b,Y_c]
    have bD:=hHB.bo
    obtain⟨_,_,_,d3,d4⟩:=bD.cells
    have df3:=bD.frozen 3
    have df4:=bD.frozen 4
    have hzz:=hHB.gr.size
    obtain⟨hHC,qC,hSC,d3b,df3b⟩:=H2.setO hHB qB (ZhC hol2 (by have:=hHd.gr.size;omega)) (ZhC hokwB (by have:=hHA.gr.size;omega))
    refine Y_s 7 _ rfl (wB.setCell ⟨O,4,none⟩ (.slice xl (keptS v).length xlc)) (Zna d4 df4 (.tmp 73) (.tmp 69) (by kernel_rfl) (by kernel_rfl) (by kernel_rfl)) hSC.1 ?_
    refine Y_t 8 74 _ (.pointer (some ⟨O,3,none⟩)) rfl (Or.inl ⟨by kernel_rfl,fun u hu=>by kernel_rfl⟩) hSC.1 ?_
    simp only[Act.put,Y_a,Y_b,Y_c]
    refine Y_s 9 _ rfl ((wB.setCell ⟨O,4,none⟩ (.slice xl (keptS v).length xlc)).setCell ⟨O,3,none⟩ (.slice yk (keptS v).length ykc)) (Znb d3b df3b (.tmp 74) (.tmp 72) (by kernel_rfl) (by kernel_rfl) (by kernel_rfl)) hSC.2 ?_
    refine wpAnyH_done (by kernel_rfl) ?_ _
    refine NoPanic.normal ?_
    go_wp2
    go_meet
    case rel=>exact⟨rfl,_,_,_,_,by rw[HOF1.out,HNF1.out];exact hHC,qC⟩
   ·have e0:((o.length:Int) == 0)=false:=beq_eq_false_iff_ne.2 (fun q=>h0 (List.eq_nil_of_length_eq_zero (by omega)))
    have HOF1:Hid (oldF o v=o):=if_neg h0
    by_cases h1:v=[]
    ·have e1:((v.length:Int) == 0)=true:=(by rw[h1];rfl)
     have HNF1:Hid (newF o v=keptS o):=if_pos ⟨h0,h1⟩
     have hlx:o.length≤1099511627776:=by omega
     clear h0 h1
     have hHd:=hH.low (Below.drew (Below.refl _ _))
     have hHdl:=hlx
     have qd:=q9.low (Below.drew (Below.refl _ _))
     go_upto_region 17 with fail
     refine wp_region_noPanic ?_
     refine wp_region_held_drew (S:=fun u=>Bp5 u O a1 p1 n1 (.slice ko o.length kc) (.slice l1 o.length lc1)) (by kernel_rfl) (hH.bo.low (Below.drew (Below.refl _ _))) (fun hHeld=>?_)
     refine Y_t 0 79 _ (.agg #[.int .i64 a1,.int .i64 p1,.int .i64 n1,.slice ko o.length kc,.slice l1 o.length lc1]) rfl (Or.inl ⟨by kernel_rfl,fun u hu=>Zop hu (.tmp 7) (by kernel_rfl) (by kernel_rfl)⟩) hHeld ?_
     simp only[Act.put,Y_a,Y_b,Y_c]
     refine Y_t 3 82 _ (.agg #[.int .i64 a1,.int .i64 p1,.int .i64 n1,.slice ko o.length kc,.slice l1 o.length lc1]) rfl (Or.inl ⟨by kernel_rfl,fun u hu=>Zop hu (.tmp 7) (by kernel_rfl) (by kernel_rfl)⟩) hHeld ?_
     simp only[Act.put,Y_a,Y_b,Y_c]
     generalize wc.drew=wd at hHd qd hHeld ⊢
     refine Y_e 1 80 _ rfl 108 (.func 108) #[.tmp 79] #[176] (by kernel_rfl) #[] (by kernel_rfl) #[.agg #[.int .i64 a1,.int .i64 p1,.int .i64 n1,.slice ko o.length kc,.slice l1 o.length lc1]] (by kernel_rfl) (enters_of Tryz.func108 (by kernel_rfl) rfl) (KpR wd o a1 p1 n1) ?_ ?_
     ·refine (ZoV a1 p1 n1 o (.slice ko o.length kc) (.slice l1 o.length lc1) wd hHd.ho hHdl).mono ?_
      rintro e3 w3 ⟨vk3,vl3,rfl,ho3,ho4,hB3⟩
      exact⟨_,rfl,hHd.bo.low hB3,vk3,vl3,rfl,ho3,ho4,hB3⟩
     clear hHeld
     rintro y3 wA hHeld ⟨vkwA,vlwA,rfl,hokwA,holwA,hBwA⟩
     simp only[Act.put,Y_a,Y_b,Y_c]
     have hHA:=hHd.low hBwA
     have hHAl:=hlx
     have qA:=qd.low hBwA
     obtain⟨xk,xkc,xl,xlc,hvA,hlA⟩:=(Zeq hokwA holwA).form
     subst hvA hlA
     refine Y_t 2 81 _ (.slice xl (keptS o).length xlc) rfl (Or.inl ⟨by kernel_rfl,fun u hu=>by kernel_rfl⟩) hHeld ?_
     simp only[Act.put,Y_a,Y_b,Y_c]
     refine Y_e 4 83 _ rfl 108 (.func 108) #[.tmp 82] #[176] (by kernel_rfl) #[] (by kernel_rfl) #[.agg #[.int .i64 a1,.int .i64 p1,.int .i64 n1,.slice ko o.length kc,.slice l1 o.length lc1]] (by kernel_rfl) (enters_of Tryz.func108 (by kernel_rfl) rfl) (KpR wA o a1 p1 n1) ?_ ?_
     ·refine (ZoV a1 p1 n1 o (.slice ko o.length kc) (.slice l1 o.length lc1) wA hHA.ho hHAl).mono ?_
      rintro e3 w3 ⟨vk3,vl3,rfl,ho3,ho4,hB3⟩
      exact⟨_,rfl,hHA.bo.low hB3,vk3,vl3,rfl,ho3,ho4,hB3⟩
     clear hHeld
     rintro y3 wB hHeld ⟨vkwB,vlwB,rfl,hokwB,holwB,hBwB⟩
     simp only[Act.put,Y_a,Y_b,Y_c]
     have hHB:=hHA.low hBwB
     have qB:=qA.low hBwB
     obtain⟨yk,ykc,yl,ylc,hvB,hlB⟩:=(Zeq hokwB holwB).form
     subst hvB hlB
     have hol2:=ZhK holwA hBwB
     refine Y_t 5 84 _ (.slice yk (keptS o).length ykc) rfl (Or.inl ⟨by kernel_rfl,fun u hu=>by kernel_rfl⟩) hHeld ?_
     simp only[Act.put,Y_a,Y_b,Y_c]
     refine Y_t 6 85 _ (.pointer (some ⟨V,4,none⟩)) rfl (Or.inl ⟨by kernel_rfl,fun u hu=>by kernel_rfl⟩) hHeld ?_
     simp only[Act.put,Y_a,Y_b,Y_c]
     have bD:=hHB.bv
     obtain⟨_,_,_,d3,d4⟩:=bD.cells
     have df3:=bD.frozen 3
     have df4:=bD.frozen 4
     have hzz:=hHB.gr.size
     obtain⟨hHC,qC,hSC,d3b,df3b⟩:=H2.setV hHB qB (ZhC hol2 (by have:=hHd.gr.size;omega)) (ZhC hokwB (by have:=hHA.gr.size;omega))
     refine Y_s 7 _ rfl (wB.setCell ⟨V,4,none⟩ (.slice xl (keptS o).length xlc)) (Zna d4 df4 (.tmp 85) (.tmp 81) (by kernel_rfl) (by kernel_rfl) (by kernel_rfl)) hSC.1 ?_
     refine Y_t 8 86 _ (.pointer (some ⟨V,3,none⟩)) rfl (Or.inl ⟨by kernel_rfl,fun u hu=>by kernel_rfl⟩) hSC.1 ?_
     simp only[Act.put,Y_a,Y_b,Y_c]
     refine Y_s 9 _ rfl ((wB.setCell ⟨V,4,none⟩ (.slice xl (keptS o).length xlc)).setCell ⟨V,3,none⟩ (.slice yk (keptS o).length ykc)) (Znb d3b df3b (.tmp 86) (.tmp 84) (by kernel_rfl) (by kernel_rfl) (by kernel_rfl)) hSC.2 ?_
     refine wpAnyH_done (by kernel_rfl) ?_ _
     refine NoPanic.normal ?_
     go_wp2
     go_meet
     case rel=>exact⟨rfl,_,_,_,_,by rw[HOF1.out,HNF1.out];exact hHC,qC⟩
    ·have e1:((v.length:Int) == 0)=false:=beq_eq_false_iff_ne.2 (fun q=>h1 (List.eq_nil_of_length_eq_zero (by omega)))
     have HNF1:Hid (newF o v=v):=if_neg (fun q=>h1 q.2)
     clear h0 h1
     go_wp2
     go_meet
     case rel=>exact⟨rfl,_,_,_,_,by rw[HOF1.out,HNF1.out];exact hH,q9⟩
  case rest =>
  obtain⟨rfl,vk',vl',uk',ul',hH2,q10⟩:=hcut
  clear hH q9 x0 x1 x2 x3 x4 y0 y1 y2 y3 y4
  have hod:(oldF o v).length≤549755813888:=(by
   unfold oldF
   split
   ·exact Nat.le_trans (Zog v) hvl
   ·exact hol)
  have hnw:(newF o v).length≤549755813888:=(by
   unfold newF
   split
   ·exact Nat.le_trans (Zog o) hol
   ·exact hvl)
  obtain⟨J,hJ⟩:∃ J,jnS ((oldF o v).length+1) (oldF o v) (newF o v)=J:=⟨_,rfl⟩
  have HJ:Hid (jnS ((oldF o v).length+1) (oldF o v) (newF o v)=J):=hJ
  obtain⟨FF,hFF⟩:∃ FF,finH p' pa pb p1 n1 p2 n2 o v=FF:=⟨_,rfl⟩
  have HXF:Hid (X=hkE FF p5):=(by rw[← hFF];exact HXX.out)
  have hfu:=hFF
  unfold finH at hfu
  rw[HS1.out,HS2.out,hJ] at hfu
  generalize oldF o v=od at *
  generalize newF o v=nw at *
  clear hJ hFF HXX
  obtain⟨jo,jc,jl,jlc,rfl,rfl⟩:=hH2.ho.form
  obtain⟨m2,mc2,ml2,mlc2,rfl,rfl⟩:=hH2.hv.form
  have hj:=ZqP a1 p1 n1 a2 p2 n2 od nw _ _ _ _ wc hH2.ho hH2.hv hod hnw J HJ
  unfold ptV5 at hj
  obtain⟨x0,x1,x2,x3,x4⟩:=hH2.bo.cells
  obtain⟨y0,y1,y2,y3,y4⟩:=hH2.bv.cells
  go_wp2_with fail
  refine hj.mono ?_
  rintro e wj ⟨lv,jb,ll,rfl,hownl,hBj,hJl⟩
  have hH3:=hH2.low hBj
  have q11:=q10.low hBj
  have hol2:=ZhC (B':=w.heap.size) hownl hH2.gr.size
  obtain⟨vo,vc,rfl⟩:=(Zeo hol2).form
  clear hj x0 x1 x2 x3 x4 y0 y1 y2 y3 y4 hH2 q10 hownl hBj
  go_upto_block 0 with fail
  have HFH:Hid (∀ h,FF=.ok h→h=⟨p1,(od.length:Int),p2,(nw.length:Int),ll⟩):=(by
   intro h hh
   subst hh
   split at hfu
   ·cases hfu
   ·split at hfu
    ·cases hfu
    ·split at hfu
     ·cases hfu
     ·split at hfu
      ·cases hfu
      ·split at hfu
       ·cases hfu
       ·cases J with
        | none=>cases hfu
        | some l0 =>
         obtain⟨_,h2⟩:=hJl
         cases hfu
         rw[h2])
  go_cut [10] (fun lv' wz=>lv'=.slice vo ll.length vc∧H2 w R O V a1 p1 n1 (.slice jo od.length jc) (.slice jl od.length jlc) od a2 p2 n2 (.slice m2 nw.length mc2) (.slice ml2 nw.length mlc2) nw wz∧wz.ownsRow w.heap.size 47 2 (.slice vo ll.length vc) ll.length (mkcells ll)∧RdZ wz R (.slice lo L.length lc) (stF FF p5))
  case first =>
   as_aux_lemma =>
    clear HXF HFH
    have hsb:=HSB.out
    clear HSB
    cases sb with
    | true =>
     rw[if_pos (by simpa using hsb)] at hfu
     subst hfu
     clear hsb
     obtain⟨_,_,t2,t3⟩:=Rx.cells (show Rx wj R (.slice lo L.length lc) (p5:Int) 0 0 from q11)
     have tf2:=Rx.frozen (show Rx wj R (.slice lo L.length lc) (p5:Int) 0 0 from q11) 2
     have tf3:=Rx.frozen (show Rx wj R (.slice lo L.length lc) (p5:Int) 0 0 from q11) 3
     have qF:RdZ ((wj.setCell ⟨R,2,none⟩ (.int .i64 (p':Int))).setCell ⟨R,3,none⟩ (.int .i64 50)) R (.slice lo L.length lc) (.error (p',50)):=Zqr q11 rfl (by decide)
     have gF:=ZdT (ZdS wj R 2 (.int .i64 (p':Int))) (ZdS _ R 3 (.int .i64 50))
     have hF:=hH3.rd gF
     have oF:=ZhI hol2 gF hRw
     clear hH3 q11 hol2 gF
     go_wp2
     go_meet
     case rel=>exact⟨rfl,hF,oF,qF⟩
    | false =>
     rw[if_neg (fun q=>by rw[q.1,q.2] at hsb;cases hsb)] at hfu
     clear hsb
     obtain⟨r1,hr1⟩:∃ b,cntS n1 od=b:=⟨_,rfl⟩
     have hc1:=ZoT a1 p1 n1 od _ _ wj hH3.ho (by omega) r1 hr1
     unfold ptV5 at hc1
     rw[hr1] at hfu
     clear hr1
     obtain⟨x0,x1,x2,x3,x4⟩:=hH3.bo.cells
     obtain⟨y0,y1,y2,y3,y4⟩:=hH3.bv.cells
     go_wp2_with fail
     refine hc1.mono ?_
     rintro e1 wk ⟨rfl,hBk⟩
     have hH4:=hH3.low hBk
     have q12:=q11.low hBk
     have hol3:=ZhK hol2 hBk
     clear hH3 q11 hol2 hc1 hBk
     clear x0 x1 x2 x3 x4 y0 y1 y2 y3 y4
     obtain⟨x0,x1,x2,x3,x4⟩:=hH4.bo.cells
     obtain⟨y0,y1,y2,y3,y4⟩:=hH4.bv.cells
     cases r1 with
     | true =>
      rw[if_pos rfl] at hfu
      subst hfu
      obtain⟨_,_,t2,t3⟩:=Rx.cells (show Rx wk R (.slice lo L.length lc) (p5:Int) 0 0 from q12)
      have tf2:=Rx.frozen (show Rx wk R (.slice lo L.length lc) (p5:Int) 0 0 from q12) 2
      have tf3:=Rx.frozen (show Rx wk R (.slice lo L.length lc) (p5:Int) 0 0 from q12) 3
      have qF:RdZ ((wk.setCell ⟨R,2,none⟩ (.int .i64 a1)).setCell ⟨R,3,none⟩ (.int .i64 120)) R (.slice lo L.length lc) (.error (pa,120)):=Zqr q12 HPA.out (by decide)
      have gF:=ZdT (ZdS wk R 2 (.int .i64 a1)) (ZdS _ R 3 (.int .i64 120))
      have hF:=hH4.rd gF
      have oF:=ZhI hol3 gF hRw
      clear hH4 q12 hol3 gF
      go_wp2
      go_meet
      case rel=>exact⟨rfl,hF,oF,qF⟩
     | false =>
      rw[if_neg (by decide)] at hfu
      obtain⟨r2,hr2⟩:∃ b,cntS n2 nw=b:=⟨_,rfl⟩
      have hc2:=ZoT a2 p2 n2 nw _ _ wk hH4.hv (by omega) r2 hr2
      unfold ptV5 at hc2
      rw[hr2] at hfu
      clear hr2
      go_wp2_with fail
      refine hc2.mono ?_
      rintro e2 wl ⟨rfl,hBl⟩
      have hH5:=hH4.low hBl
      have q13:=q12.low hBl
      have hol4:=ZhK hol3 hBl
      clear hH4 q12 hol3 hc2 hBl
      clear x0 x1 x2 x3 x4 y0 y1 y2 y3 y4
      obtain⟨x0,x1,x2,x3,x4⟩:=hH5.bo.cells
      obtain⟨y0,y1,y2,y3,y4⟩:=hH5.bv.cells
      cases r2 with
      | true =>
       rw[if_pos rfl] at hfu
       subst hfu
       obtain⟨_,_,t2,t3⟩:=Rx.cells (show Rx wl R (.slice lo L.length lc) (p5:Int) 0 0 from q13)
       have tf2:=Rx.frozen (show Rx wl R (.slice lo L.length lc) (p5:Int) 0 0 from q13) 2
       have tf3:=Rx.frozen (show Rx wl R (.slice lo L.length lc) (p5:Int) 0 0 from q13) 3
       have qF:RdZ ((wl.setCell ⟨R,2,none⟩ (.int .i64 a2)).setCell ⟨R,3,none⟩ (.int .i64 120)) R (.slice lo L.length lc) (.error (pb,120)):=Zqr q13 HPB.out (by decide)
       have gF:=ZdT (ZdS wl R 2 (.int .i64 a2)) (ZdS _ R 3 (.int .i64 120))
       have hF:=hH5.rd gF
       have oF:=ZhI hol4 gF hRw
       clear hH5 q13 hol4 gF
       go_wp2
       go_meet
       case rel=>exact⟨rfl,hF,oF,qF⟩
      | false =>
       rw[if_neg (by decide)] at hfu
       by_cases h4:p1=0∧od≠[]
       ·rw[if_pos h4] at hfu
        subst hfu
        have j1:(p1 == 0)=true:=beq_iff_eq.2 h4.1
        have j2:(0:Int)<(od.length:Int):=(by have:=List.length_pos_iff.2 h4.2;omega)
        have j3:0<od.length:=List.length_pos_iff.2 h4.2
        clear h4
        obtain⟨_,_,t2,t3⟩:=Rx.cells (show Rx wl R (.slice lo L.length lc) (p5:Int) 0 0 from q13)
        have tf2:=Rx.frozen (show Rx wl R (.slice lo L.length lc) (p5:Int) 0 0 from q13) 2
        have tf3:=Rx.frozen (show Rx wl R (.slice lo L.length lc) (p5:Int) 0 0 from q13) 3
        have qF:RdZ ((wl.setCell ⟨R,2,none⟩ (.int .i64 a1)).setCell ⟨R,3,none⟩ (.int .i64 2)) R (.slice lo L.length lc) (.error (pa,2)):=Zqr q13 HPA.out (by decide)
        have gF:=ZdT (ZdS wl R 2 (.int .i64 a1)) (ZdS _ R 3 (.int .i64 2))
        have hF:=hH5.rd gF
        have oF:=ZhI hol4 gF hRw
        clear hH5 q13 hol4 gF
        go_wp2
        go_meet
        case rel=>exact⟨rfl,hF,oF,qF⟩
       ·rw[if_neg h4] at hfu
        go_upto_region 25 with fail
        go_cut [120] (fun cv wz=>cv=.bool false∧wz=wl)
        case first =>
         by_cases h5:p1=0
         ·have j1:(p1 == 0)=true:=beq_iff_eq.2 h5
          have j2:¬ (0:Int)<(od.length:Int):=(by
           intro q
           exact h4 ⟨h5,List.length_pos_iff.1 (by omega)⟩)
          have j3:¬ 0<od.length:=by omega
          go_wp2
          go_meet
          case rel=>exact⟨rfl,rfl⟩
         ·have j1:(p1 == 0)=false:=beq_eq_false_iff_ne.2 h5
          go_wp2
          go_meet
          case rel=>exact⟨rfl,rfl⟩
        case rest =>
        obtain⟨rfl,rfl⟩:=hcut
        clear h4
        by_cases h6:p2=0∧nw≠[]
        ·rw[if_pos h6] at hfu
         subst hfu
         have j1:(p2 == 0)=true:=beq_iff_eq.2 h6.1
         have j2:(0:Int)<(nw.length:Int):=(by have:=List.length_pos_iff.2 h6.2;omega)
         have j3:0<nw.length:=List.length_pos_iff.2 h6.2
         clear h6
         obtain⟨_,_,t2,t3⟩:=Rx.cells (show Rx wc R (.slice lo L.length lc) (p5:Int) 0 0 from q13)
         have tf2:=Rx.frozen (show Rx wc R (.slice lo L.length lc) (p5:Int) 0 0 from q13) 2
         have tf3:=Rx.frozen (show Rx wc R (.slice lo L.length lc) (p5:Int) 0 0 from q13) 3
         have qF:RdZ ((wc.setCell ⟨R,2,none⟩ (.int .i64 a2)).setCell ⟨R,3,none⟩ (.int .i64 2)) R (.slice lo L.length lc) (.error (pb,2)):=Zqr q13 HPB.out (by decide)
         have gF:=ZdT (ZdS wc R 2 (.int .i64 a2)) (ZdS _ R 3 (.int .i64 2))
         have hF:=hH5.rd gF
         have oF:=ZhI hol4 gF hRw
         clear hH5 q13 hol4 gF
         go_wp2
         go_meet
         case rel=>exact⟨rfl,hF,oF,qF⟩
        ·rw[if_neg h6] at hfu
         go_upto_region 27 with fail
         go_cut [136] (fun cv wz=>cv=.bool false∧wz=wc)
         case first =>
          by_cases h5:p2=0
          ·have j1:(p2 == 0)=true:=beq_iff_eq.2 h5
           have j2:¬ (0:Int)<(nw.length:Int):=(by
            intro q
            exact h6 ⟨h5,List.length_pos_iff.1 (by omega)⟩)
           have j3:¬ 0<nw.length:=by omega
           go_wp2
           go_meet
           case rel=>exact⟨rfl,rfl⟩
          ·have j1:(p2 == 0)=false:=beq_eq_false_iff_ne.2 h5
           go_wp2
           go_meet
           case rel=>exact⟨rfl,rfl⟩
         case rest =>
         obtain⟨rfl,rfl⟩:=hcut
         clear h6
         cases J with
         | none =>
          have hjb:jb=false:=hJl
          subst hjb
          dsimp only at hfu
          subst hfu
          obtain⟨_,_,t2,t3⟩:=Rx.cells (show Rx wc R (.slice lo L.length lc) (p5:Int) 0 0 from q13)
          have tf2:=Rx.frozen (show Rx wc R (.slice lo L.length lc) (p5:Int) 0 0 from q13) 2
          have tf3:=Rx.frozen (show Rx wc R (.slice lo L.length lc) (p5:Int) 0 0 from q13) 3
          have qF:RdZ ((wc.setCell ⟨R,2,none⟩ (.int .i64 (p':Int))).setCell ⟨R,3,none⟩ (.int .i64 190)) R (.slice lo L.length lc) (.error (p',190)):=Zqr q13 rfl (by decide)
          have gF:=ZdT (ZdS wc R 2 (.int .i64 (p':Int))) (ZdS _ R 3 (.int .i64 190))
          have hF:=hH5.rd gF
          have oF:=ZhI hol4 gF hRw
          clear hH5 q13 hol4 gF
          go_wp2
          go_meet
          case rel=>exact⟨rfl,hF,oF,qF⟩
         | some l0 =>
          obtain⟨rfl,rfl⟩:=hJl
          dsimp only at hfu
          subst hfu
          go_wp2
          go_meet
          case rel=>exact⟨rfl,hH5,hol4,q13⟩
  case rest =>
  obtain⟨rfl,hH6,hol6,q14⟩:=hcut
  clear hH3 q11 hol2 hfu hJl
  obtain⟨x0,x1,x2,x3,x4⟩:=hH6.bo.cells
  obtain⟨y0,y1,y2,y3,y4⟩:=hH6.bv.cells
  obtain⟨z0,z1,z2,z3,z4⟩:=hH6.q.cells
  have zf0:=hH6.q.frozen 0
  have zf1:=hH6.q.frozen 1
  have zf2:=hH6.q.frozen 2
  have zf3:=hH6.q.frozen 3
  have zf4:=hH6.q.frozen 4
  have fh:=Zpq hH6.q p1 (od.length:Int) p2 (nw.length:Int) (.slice vo ll.length vc)
  have fg:=Zpr hH6.gr p1 (od.length:Int) p2 (nw.length:Int) (.slice vo ll.length vc)
  have hg1:=Zps (u:=wc) (b:=w.heap.size) p1 (od.length:Int) p2 (nw.length:Int) (.slice vo ll.length vc)
  have fq:=q14.off hg1 (fun x=>by have:=Option.some.inj x;omega)
  have fo:=hol6.kept hg1 (.inr (ZhE hol6 hH6.q (by decide)))
  have HS:Hid (HkS R (.slice lo L.length lc) X ⟨p1,(od.length:Int),p2,(nw.length:Int),ll⟩ (put5h wc w.heap.size p1 (od.length:Int) p2 (nw.length:Int) (.slice vo ll.length vc))):=(by
   show HkS _ _ _ _ _
   rw[HXF.out]
   cases FF with
   | error e=>exact fq
   | ok h=>exact⟨(HFH.out h rfl).symm,fq⟩)
  clear hH6 q14 hol6 hg1 HXF HFH
  go_wp2
  refine bodyPost_ret (v:=hkV ⟨p1,(od.length:Int),p2,(nw.length:Int),ll⟩ (.slice vo ll.length vc)) (results_cell_row rfl _ _ w.heap.size 45 #[.int .i64 p1,.int .i64 (od.length:Int),.int .i64 p2,.int .i64 (nw.length:Int),.slice vo ll.length vc] (0,0) _ rfl fh Tryz.underlying45 rfl (by kernel_rfl)) rfl ⟨_,_,rfl,fo,fg,HS.out⟩
end

section
open Go.RowKit Go.Proofs.YtcniomgjikienaaGreatDoor.Tx
attribute [local go_sem] ByteArray.extract_mk Zhc
theorem rParse15S {L:List (List UInt8)} (t:List UInt8) (w W0:World) (hW0:w.alloc (.cells #[.int .i64 0,.int .i64 0] 29)=W0) (_hP:Plain L) (hLl:L.length≤137438953472) (hs:∀ s∈L,s.length≤1099511627776) (st0:Except (Nat × Int) Nat) (f00:Nat) (X:Except (Nat × Int) (List Pth)) (HX:Hid (gOt hkZ starsT [42,42,42,32] [45,45,45,32] L [] f00 X st0))
  (hr:Calls Tryz.prog 60 #[.string ⟨t.toArray⟩] W0 fun e w'=>∃ (R:Nat) (lo:Option Addr) (lc:Nat),e=.returned (.pointer (some ⟨R,0,none⟩))∧Rg w R L (.slice lo L.length lc) (.slice none 0 0) [] st0 w') :
  Calls Tryz.prog 34 #[.string ⟨t.toArray⟩] w fun e w'=>RfQ6 w X e w':=by
 go_enter Tryz.func34,Tryz.ntmps34
 go_wp2_with fail
 refine hr.mono ?_
 rintro e w1 ⟨R,lo,lc,rfl,hR0⟩
 clear hr hW0
 go_wp2
 go_loopw [5] (fun ov wr=>∃ (F:List Pfd) (st:Except (Nat × Int) Nat) (f0:Nat) (oo:Option Addr) (oc:Nat),ov=.slice oo F.length oc∧Rg w R L (.slice lo L.length lc) ov F st wr∧Hid (gOt hkZ starsT [42,42,42,32] [45,45,45,32] L (F.map (·.x)) f0 X st)) (fun _ wr=>zW L wr R)
 case atStart=>exact⟨[],st0,f00,none,0,rfl,hR0,HX⟩
 case round =>
 clear hR0 HX
 obtain⟨F,st,f0,oo,oc,rfl,hRo,HO⟩:=hrel
 have HK0:Hid (zW L wr R=zN L st):=Zsk hRo.rd
 obtain⟨b,hb⟩:∃ b,mrZ L st=b:=⟨_,rfl⟩
 have hmore:=Zno wr hRo.rd b hb
 go_wp2_with fail
 refine hmore.mono ?_
 rintro e w2 ⟨rfl,m2,rfl⟩
 have hRb:=hRo.keep (below_drewN (Below.refl _ _) m2)
 clear hmore hRo
 generalize wr.drewN m2=wb at hRb ⊢
 have hRo:=hRb
 clear hRb
 cases b with
 | false =>
  obtain⟨y0,y1,yf⟩:=hRo.cells
  have yf0:=yf 0
  have yf1:=yf 1
  cases st with
  | error e =>
   obtain⟨a,z⟩:=e
   have hXe:X=.error (a,z):=HO.out
   subst hXe
   obtain⟨⟨p',q⟩,hz⟩:=hRo.rd
   obtain⟨d0,d1,d2,d3⟩:=q.cells
   obtain⟨fh,fp⟩:=hRo.fin (a:Int) z
   have hzb:(z != 0)=true:=bne_iff_ne.2 hz
   clear q HO hb HK0 yf
   go_wp2_with fail
   go_region
   have fh2:((wb.setCell ⟨w.heap.size,0,none⟩ (.int .i64 (a:Int))).setCell ⟨w.heap.size,1,none⟩ (.int .i64 z)).drew.heap[w.heap.size]?=some (.cells #[.int .i64 (a:Int),.int .i64 z] 29):=fh
   have fp2:=fp.low.drew
   clear fh fp y0 y1 yf0 yf1 d0 d1 d2 d3 hRo
   generalize ((wb.setCell ⟨w.heap.size,0,none⟩ (.int .i64 (a:Int))).setCell ⟨w.heap.size,1,none⟩ (.int .i64 z)).drew=W3 at *
   go_wp2
   exact bodyPost_ret (ZqE rfl _ _ w.heap.size 29 #[.int .i64 (a:Int),.int .i64 z] (0,0) _ rfl fh2 Tryz.underlying29 rfl (by kernel_rfl)) rfl ⟨rfl,hz,fp2⟩
  | ok p =>
   have hpe:¬ p<L.length:=of_decide_eq_false hb
   have hXe:X=.ok (F.map (·.x)):=(by rw[← HO.out.1];exact Znu (by omega) _ _ _)
   subst hXe
   have d3:=hRo.rd.fe
   unfold feS at d3
   dsimp only at d3
   obtain⟨fh,fp⟩:=hRo.fin 0 0
   clear HO hb hRo HK0 yf
   go_wp2
   exact bodyPost_ret (ZqE rfl _ _ w.heap.size 29 #[.int .i64 0,.int .i64 0] (0,0) _ rfl fh Tryz.underlying29 rfl (by kernel_rfl)) rfl ⟨.slice oo F.length oc,F,rfl,fp,rfl⟩
 | true =>
  cases st with
  | error e=>cases hb
  | ok p =>
  have hpl:p<L.length:=of_decide_eq_true hb
  have HIo:Hid (thenPs (F.map (·.x)) (gPs hkZ starsT [42,42,42,32] [45,45,45,32] L f0 (F.map (·.x)).length p)=X∧p≤L.length∧L.length≤f0+p∧(F.map (·.x)).length≤p):=HO
  have hFp:F.length≤p:=(by have:=HIo.out.2.2.2;rw[List.length_map] at this;exact this)
  clear HO hb
  have hRw:R<wb.heap.size:=hRo.rd.lt
  have HLu:Hid (∀ u:World,(∀ k,k<wb.heap.size→k≠R→u.heap[k]?=wb.heap[k]?)→HS u (.slice lo L.length lc) L):=fun u hu=>hRo.linesB hu
  have hne:=hRo.ne rfl
  have hP0:Pzr wb R wb.heap.size (.slice lo L.length lc) [] [] (.slice none 0 0) [] (.ok p) (wb.alloc zpO):=⟨ZfO ((Below.refl _ wb).alloc (Nat.le_refl _) _) _,heap_alloc_new wb _,Zen _ _ _ _,fun x hx=>(by cases hx),hRo.rd.low ((Below.refl _ wb).alloc (Nat.le_refl _) _),Nat.le_refl _,hRw⟩
  unfold zpO at hP0
  obtain⟨Z1,hZ1⟩:∃ Z,nmZ [42,42,42,32] L (.ok p)=Z:=⟨_,rfl⟩
  have hc1:=Znx [42,42,42,32] rfl _ hP0.rd (HLu.out _ (ZmC hP0.gr)) hne (fun p' e=>by cases e;omega) hs (fun s p1 h=>(ZoJ hs h).1) Z1 hZ1
  go_upto_region 5 with fail
  generalize wb.alloc (.cells #[.string ⟨#[]⟩,.string ⟨#[]⟩,.slice none 0 0] 42)=w3 at hP0 hc1 ⊢
  obtain⟨S,hS⟩:∃ S,wb.heap.size=S:=⟨_,rfl⟩
  rw[hS] at hP0
  have HS0:Hid (wb.heap.size=S):=hS
  simp only[hS]
  clear hS
  go_wp2_with fail
  refine hc1.mono ?_
  rintro e w4 ⟨hq4,g4⟩
  obtain⟨rfl,q4⟩:=hq4.st
  have hP1:=hP0.call g4 q4
  clear hc1 hP0 hq4 q4 g4
  obtain⟨c0,c1,c2⟩:=hP1.cells
  have f0c:=hP1.frozen 0
  obtain⟨n1,hn1⟩:∃ n,nmN Z1=n:=⟨_,rfl⟩
  have hP2:=hP1.put 0 (.string ⟨(nmN Z1).toArray⟩) (m1:=n1) (m2:=[]) (hv':=.slice none 0 0) (by rw[hn1];rfl) hP1.own
  rw[hn1] at hP2 ⊢
  obtain⟨st1,hst1⟩:∃ s,stP Z1=s:=⟨_,rfl⟩
  rw[hst1] at hP2
  have HN1:Hid (nmN (nmZ [42,42,42,32] L (.ok p))=n1∧stP (nmZ [42,42,42,32] L (.ok p))=st1):=⟨by rw[hZ1];exact hn1,by rw[hZ1];exact hst1⟩
  clear hP1 hn1 hst1 hZ1 Z1
  obtain⟨st2,hst2⟩:∃ s,naS [42,42,42,32] [45,45,45,32] L F.length (.ok p)=s:=⟨_,rfl⟩
  have hst2':(if 64≤F.length then flS 9 st1 else st1)=st2:=(by rw[← hst2,← HN1.out.2];rfl)
  go_upto_region 6 with fail
  clear c0 c1 c2 f0c
  obtain⟨b6,hb6⟩:∃ b,decide ((64:Int)≤(F.length:Int))=b:=⟨_,rfl⟩
  go_upto_if 16 with fail
  generalize w4.setCell ⟨S,0,none⟩ (.string ⟨n1.toArray⟩)=w5 at hP2 ⊢
  go_cut [5] from 9 to 51 (fun lv wz=>lv=.slice oo F.length oc∧Pzr wb R S (.slice lo L.length lc) n1 [] (.slice none 0 0) [] st2 wz)
  case first =>
   cases b6 with
   | true =>
    have h64:64≤F.length:=(by have:=of_decide_eq_true hb6;omega)
    rw[if_pos h64] at hst2'
    clear h64
    go_wp2_with fail
    refine (Zni 9 (by decide) _ hP2.rd).mono ?_
    rintro e w6 ⟨rfl,q6,g6⟩
    rw[hst2'] at q6
    have hP3:=hP2.call g6 q6
    go_wp2
    go_meet
    case rel=>exact⟨rfl,hP3⟩
   | false =>
    have h64:¬ 64≤F.length:=(by have:=of_decide_eq_false hb6;omega)
    rw[if_neg h64] at hst2'
    subst hst2'
    go_wp2
    go_meet
    case rel=>exact⟨rfl,hP2⟩
  case rest =>
  obtain⟨rfl,hP3⟩:=hcut
  clear hP2 hst2' hb6
  generalize wc=w6 at hP3 ⊢
  obtain⟨Z2,hZ2⟩:∃ Z,nmZ [45,45,45,32] L st2=Z:=⟨_,rfl⟩
  have hc2:=Znx [45,45,45,32] rfl _ hP3.rd (HLu.out _ (ZmC hP3.gr)) hne (fun p' e=>by have:=Zov (hst2.trans e);omega) hs (fun s p1 h=>(ZoJ hs h).1) Z2 hZ2
  go_wp2_with fail
  refine hc2.mono ?_
  rintro e w7 ⟨hq7,g7⟩
  obtain⟨rfl,q7⟩:=hq7.st
  have hP4:=hP3.call g7 q7
  clear hc2 hP3 hq7 q7 g7
  obtain⟨c0,c1,c2⟩:=hP4.cells
  have f1c:=hP4.frozen 1
  obtain⟨n2,hn2⟩:∃ n,nmN Z2=n:=⟨_,rfl⟩
  have hP5:=hP4.put 1 (.string ⟨(nmN Z2).toArray⟩) (m1:=n1) (m2:=n2) (hv':=.slice none 0 0) (by rw[hn2];rfl) hP4.own
  rw[hn2] at hP5 ⊢
  obtain⟨st3,hst3⟩:∃ s,stP Z2=s:=⟨_,rfl⟩
  rw[hst3] at hP5
  have HPa:Hid (gPa hkZ starsT [42,42,42,32] [45,45,45,32] L F.length p=gTo hkZ starsT L n1 n2 st3):=(by
   show _=_
   rw[Zns,hst2,hZ2,hst3,hn2,HN1.out.1])
  have HB3:Hid (∀ p2,st3=.ok p2→p<p2∧p2≤L.length):=(by
   intro p2 h
   exact Zow (a1:=[42,42,42,32]) (a2:=[45,45,45,32]) (k:=F.length) (by rw[hst2,hZ2,hst3,h]))
  clear hP4 hn2 hst3 hZ2 Z2 hst2 HN1
  obtain⟨Y,HY0,HYz⟩:∃ Y,gSt hkZ starsT L [] (L.length+1) Y st3∧gPa hkZ starsT [42,42,42,32] [45,45,45,32] L F.length p=gIn n1 n2 Y:=(by
   cases st3 with
   | error e=>exact⟨.error e,rfl,HPa.out⟩
   | ok p2 =>
    have hb:=HB3.out p2 rfl
    refine⟨gHs hkZ starsT L (L.length+1) 0 p2,⟨Znm _ _ _ _ _,hb.2,by omega,Nat.zero_le _⟩,?_⟩
    rw[HPa.out]
    show gIn n1 n2 _=gIn n1 n2 _
    rw[Znj (gok15 L) ((L.drop p2).length+1) (L.length+1) 0 p2 hb.2 (by rw[List.length_drop];omega) (by omega)])
  have HY1:Hid (gSt hkZ starsT L [] (L.length+1) Y st3):=HY0
  have HYZ:Hid (gPa hkZ starsT [42,42,42,32] [45,45,45,32] L F.length p=gIn n1 n2 Y):=HYz
  clear HY0 HYz HPa HB3
  go_upto_region 9 with fail
  clear c0 c1 c2 f1c
  generalize w7.setCell ⟨S,1,none⟩ (.string ⟨n2.toArray⟩)=w8 at hP5 ⊢
  go_loopw [] (fun wr=>∃ (hv:Value) (P:List (Hk × Value)) (st':Except (Nat × Int) Nat) (f:Nat),(∃ o c,hv=.slice o P.length c)∧Pzr wb R S (.slice lo L.length lc) n1 n2 hv P st' wr∧P.length≤137438953473∧Hid (gSt hkZ starsT L (P.map (·.1)) f Y st')) (fun wr=>zW L wr R)
  case atStart=>exact⟨_,[],st3,L.length+1,⟨none,0,rfl⟩,hP5,by simp,HY1⟩
  case round =>
  clear hP5 HY1
  obtain⟨hv,P,st',f,⟨ho,hc,rfl⟩,hZ,hPl,HI⟩:=hrel
  obtain⟨c0,c1,c2⟩:=hZ.cells
  have c3:=hZ.rd.fe
  have hLr:=HLu.out _ (ZmC hZ.gr)
  have HK:Hid (zW L wr R=zN L st'):=Zsk hZ.rd
  cases st' with
  | error e =>
   obtain⟨a,z⟩:=e
   have hzb:(z == 0)=false:=beq_eq_false_iff_ne.2 hZ.rd.2
   unfold feS at c3
   dsimp only at c3
   generalize hst':(Except.error (a,z):Except (Nat × Int) Nat)=st' at hZ HI HK
   have HEn:Hid (gEn n1 n2 (P.map (·.1)) (gPa hkZ starsT [42,42,42,32] [45,45,45,32] L F.length p) st'):=(by
    show gEn _ _ _ _ _
    rw[HYZ.out]
    rw[← hst'] at HI ⊢
    have h:Y=.error (a,z):=HI.out
    rw[h]
    rfl)
   have hZ2:=hZ
   clear hZ hst' HI HK hLr HYZ
   go_upto_region 11 with fail
   clear c0 c1 c2 c3 hzb
   generalize wr=wc at hZ2 ⊢
   rw[← show (F.map (·.x)).length=F.length from List.length_map _] at HEn
   obtain⟨hRq,hPq⟩:=hRo.inner hZ2
   obtain⟨t0,t1,t2⟩:=hZ2.cells
   have HO9:Hid (gOt hkZ starsT [42,42,42,32] [45,45,45,32] L ((F++[(⟨⟨n1,n2,P.map (·.1)⟩,.slice ho P.length hc,P⟩:Pfd)]).map (·.x)) (f0-1) X st'):=(by
    have h:=Znq (gok15 L) hpl HIo.out (n1:=n1) (n2:=n2) (hs:=P.map (·.1)) HEn.out
    show gOt _ _ _ _ _ _ _ _ _
    rw[List.map_append]
    exact h)
   have hRA:=hRq.keep ((Below.refl _ wc).alloc (Nat.le_refl _) (pxO ⟨⟨n1,n2,P.map (·.1)⟩,.slice ho P.length hc,P⟩))
   have hPA:=hPq.keep ((Below.refl _ wc).alloc (Nat.le_refl _) (pxO ⟨⟨n1,n2,P.map (·.1)⟩,.slice ho P.length hc,P⟩))
   have hownA:=hRA.pw.own
   have hbase:=hRA.pw.low.size
   have hrow:Holds _ _ 1 (pxC ⟨⟨n1,n2,P.map (·.1)⟩,.slice ho P.length hc,P⟩):=Zhx wc ⟨⟨n1,n2,P.map (·.1)⟩,.slice ho P.length hc,P⟩
   have HMq:Hid (∀ q:RdZ wc R (.slice lo L.length lc) st',zN L st'<zN L (.ok p)):=(by
    intro q
    cases st' with
    | error e=>show 0<L.length-p+1;omega
    | ok p3 =>
     have h:=Znr (gok15 L) HEn.out
     show L.length-p3+1<L.length-p+1
     omega)
   have hFl:F.length+1≤2199023255552:=by omega
   clear HEn hZ2 hRo hPq HIo
   unfold pxO at hRA hPA hownA hbase hrow
   dsimp only at hRA hPA hownA hbase hrow
   go_wp2_with (at_builtin;refine Zmi _ (by kernel_rfl) (.tmp 48) (.tmp 50) 22 42 (.agg #[.string ⟨#[]⟩,.string ⟨#[]⟩,.slice none 0 0]) 3 56 rfl Tryz.underlying22 infoPx rfl (by decide) (by decide) w.heap.size _ _ _ rfl hownA _ 1 (pxC ⟨⟨n1,n2,P.map (·.1)⟩,.slice ho P.length hc,P⟩) rfl hrow rfl (fun u hu=>by simp[pxC] at hu;rcases hu with rfl | rfl | rfl<;>rfl) hFl hbase ?_)
   intro v9 u9 ho9 hg9 _
   have hR9:=hRA.more hPA hg9 ho9
   obtain⟨o9,c9,rfl⟩:=(Zeo ho9).form
   have HM9:=HMq.out hRq.rd
   clear hRA hPA hownA hbase hrow ho9 hg9 t0 t1 t2
   go_wp2
   go_roundw
   case rel=>exact⟨F++[⟨⟨n1,n2,P.map (·.1)⟩,.slice ho P.length hc,P⟩],st',f0-1,o9,c9,by rw[List.length_append];rfl,hR9,HO9⟩
   case measure =>
    rw[Zsk hR9.rd,HK0.out]
    exact HM9
  | ok p' =>
  unfold feS at c3
  dsimp only at c3
  obtain⟨gd,hgd⟩:∃ g,(decide (P.map (·.1)=[]) || pkG starsT (L.drop p'))=g:=⟨_,rfl⟩
  go_upto_region 9 with fail
  go_cut [37] from 22 to 47 (fun cv wz=>cv=.bool gd∧Pzr wb R S (.slice lo L.length lc) n1 n2 (.slice ho P.length hc) P (.ok p') wz)
  case first =>
   by_cases hP0:P=[]
   ·have z1:((P.length:Int) == 0)=true:=(by rw[hP0];rfl)
    have HE:Hid (true=gd):=(by rw[hP0] at hgd;exact hgd)
    clear hP0 hgd
    go_wp2
    go_meet
    case rel=>exact⟨by rw[← HE.out],hZ⟩
   ·have z1:((P.length:Int) == 0)=false:=(by rw[beq_eq_false_iff_ne];intro e;exact hP0 (List.eq_nil_of_length_eq_zero (by omega)))
    have hat:=Znt starsT wr hZ.rd hLr hs (by decide) gd (show Hid (pkZ starsT L (.ok p')=gd) by show pkG _ _=_;rw[← hgd,decide_eq_false (by simpa using hP0),Bool.false_or])
    clear hP0 hgd
    go_wp2_with fail
    refine hat.mono ?_
    rintro e w9 ⟨rfl,nn,rfl⟩
    have hZ2:=hZ.keep (below_drewN (Below.refl _ _) nn)
    go_wp2
    go_meet
    case rel=>exact⟨rfl,hZ2⟩
  case rest =>
  obtain⟨rfl,hZ2⟩:=hcut
  clear hZ c0 c1 c2 c3 hLr
  cases gd with
  | false =>
   have HEn:Hid (gEn n1 n2 (P.map (·.1)) (gPa hkZ starsT [42,42,42,32] [45,45,45,32] L F.length p) (.ok p')):=(by
    show _=_
    have h:gLf hkZ starsT L (P.map (·.1)) f p'=Y:=HI.out.1
    rw[HYZ.out,← h,Znn hgd]
    rfl)
   generalize hst':(Except.ok p':Except (Nat × Int) Nat)=st' at hZ2 HEn
   clear hst' HI HK hgd HYZ
   go_upto_region 11 with fail
   rw[← show (F.map (·.x)).length=F.length from List.length_map _] at HEn
   obtain⟨hRq,hPq⟩:=hRo.inner hZ2
   obtain⟨t0,t1,t2⟩:=hZ2.cells
   have HO9:Hid (gOt hkZ starsT [42,42,42,32] [45,45,45,32] L ((F++[(⟨⟨n1,n2,P.map (·.1)⟩,.slice ho P.length hc,P⟩:Pfd)]).map (·.x)) (f0-1) X st'):=(by
    have h:=Znq (gok15 L) hpl HIo.out (n1:=n1) (n2:=n2) (hs:=P.map (·.1)) HEn.out
    show gOt _ _ _ _ _ _ _ _ _
    rw[List.map_append]
    exact h)
   have hRA:=hRq.keep ((Below.refl _ wc).alloc (Nat.le_refl _) (pxO ⟨⟨n1,n2,P.map (·.1)⟩,.slice ho P.length hc,P⟩))
   have hPA:=hPq.keep ((Below.refl _ wc).alloc (Nat.le_refl _) (pxO ⟨⟨n1,n2,P.map (·.1)⟩,.slice ho P.length hc,P⟩))
   have hownA:=hRA.pw.own
   have hbase:=hRA.pw.low.size
   have hrow:Holds _ _ 1 (pxC ⟨⟨n1,n2,P.map (·.1)⟩,.slice ho P.length hc,P⟩):=Zhx wc ⟨⟨n1,n2,P.map (·.1)⟩,.slice ho P.length hc,P⟩
   have HMq:Hid (∀ q:RdZ wc R (.slice lo L.length lc) st',zN L st'<zN L (.ok p)):=(by
    intro q
    cases st' with
    | error e=>show 0<L.length-p+1;omega
    | ok p3 =>
     have h:=Znr (gok15 L) HEn.out
     show L.length-p3+1<L.length-p+1
     omega)
   have hFl:F.length+1≤2199023255552:=by omega
   clear HEn hZ2 hRo hPq HIo
   unfold pxO at hRA hPA hownA hbase hrow
   dsimp only at hRA hPA hownA hbase hrow
   go_wp2_with (at_builtin;refine Zmi _ (by kernel_rfl) (.tmp 48) (.tmp 50) 22 42 (.agg #[.string ⟨#[]⟩,.string ⟨#[]⟩,.slice none 0 0]) 3 56 rfl Tryz.underlying22 infoPx rfl (by decide) (by decide) w.heap.size _ _ _ rfl hownA _ 1 (pxC ⟨⟨n1,n2,P.map (·.1)⟩,.slice ho P.length hc,P⟩) rfl hrow rfl (fun u hu=>by simp[pxC] at hu;rcases hu with rfl | rfl | rfl<;>rfl) hFl hbase ?_)
   intro v9 u9 ho9 hg9 _
   have hR9:=hRA.more hPA hg9 ho9
   obtain⟨o9,c9,rfl⟩:=(Zeo ho9).form
   have HM9:=HMq.out hRq.rd
   clear hRA hPA hownA hbase hrow ho9 hg9 t0 t1 t2
   go_wp2
   go_roundw
   case rel=>exact⟨F++[⟨⟨n1,n2,P.map (·.1)⟩,.slice ho P.length hc,P⟩],st',f0-1,o9,c9,by rw[List.length_append];rfl,hR9,HO9⟩
   case measure =>
    rw[Zsk hR9.rd,HK0.out]
    exact HM9
  | true =>
   have hI:gLf hkZ starsT L (P.map (·.1)) f p'=Y∧p'≤L.length∧L.length<f+p'∧(P.map (·.1)).length≤p':=HI.out
   rw[List.length_map] at hI
   obtain⟨hI1,hI2,hI3,hI4⟩:=hI
   obtain⟨f',rfl⟩:∃ f',f=f'+1:=⟨f-1,by omega⟩
   rw[Znl hgd,List.length_map] at hI1
   obtain⟨Yh,hYh⟩:∃ Y,hkZ P.length L p'=Y:=⟨_,rfl⟩
   rw[hYh] at hI1
   have hZd:=hZ2.keep (Below.drew (Below.refl _ _))
   have hch:=Znw wc.drew hZd.rd (fun u hu=>HLu.out u (Znz hZd.gr hu)) hne hI2 (by omega) hs (by omega) Yh hYh
   obtain⟨Rr,hRr⟩:∃ Rr:Value→World→Prop,(fun v u=>∃ (h:Hk) (st2:Except (Nat × Int) Nat) (vo:Option Addr) (vc:Nat),(∀ y:Value,Hid (gSt hkZ starsT L ((P++[(h,y)]).map (·.1)) f' Y st2)∧∀ u2,RdZ u2 R (.slice lo L.length lc) st2→zW L u2 R<zW L wr R)∧v=hkV h (.slice vo h.ls.length vc)∧Pzr wb R S (.slice lo L.length lc) n1 n2 (.slice ho P.length hc) P st2 u∧u.ownsRow wb.heap.size 47 2 (.slice vo h.ls.length vc) h.ls.length (mkcells h.ls))=Rr:=⟨_,rfl⟩
   have hcall:Calls Tryz.prog 67 (#[.pointer (some ⟨R,0,none⟩),.int .i64 (P.length:Int)]++#[]) wc.drew fun e w'=>(∃ v,e=.returned v∧True∧Rr v w')∨(∃ c,e=.panicked c∧False):=(by
    refine hch.mono ?_
    rintro e w' ⟨h,v',rfl,hown,hgr,hks⟩
    rw[← hRr]
    obtain⟨vo,vc,rfl⟩:=(Zeo hown).form
    cases Yh with
    | error z =>
     refine .inl ⟨_,rfl,trivial,h,.error z,vo,vc,fun y=>⟨hI1.symm,fun u2 q2=>?_⟩,rfl,hZd.call hgr hks,ZhC hown hZd.gr.size⟩
     rw[Zsk q2,HK.out]
     show 0<L.length-p'+1
     omega
    | ok z =>
     obtain⟨h1,p2⟩:=z
     obtain⟨rfl,q⟩:=hks
     have hgo:=(gok15 L) _ _ _ _ hYh
     refine .inl ⟨_,rfl,trivial,h,.ok p2,vo,vc,fun y=>⟨⟨by rw[List.map_append];exact hI1,hgo.2,by omega,by rw[List.length_map,List.length_append];simp;omega⟩,fun u2 q2=>?_⟩,rfl,hZd.call hgr q,ZhC hown hZd.gr.size⟩
     rw[Zsk q2,HK.out]
     show L.length-p2+1<L.length-p'+1
     omega)
   have HRr:Hid (_=Rr):=hRr
   clear hRr hch hYh HI hgd hI1 hI3
   go_upto_region 10 with fail
   refine wp_region_held_drew (S:=fun _=>True) (by kernel_rfl) trivial (fun _=>?_)
   generalize wc.drew=wd at hZd hcall ⊢
   have c2d:=hZd.cells.2.2
   refine Y_t 0 38 _ (.pointer (some ⟨S,2,none⟩)) rfl (Or.inl ⟨by kernel_rfl,fun u hu=>by kernel_rfl⟩) trivial ?_
   simp only[Act.put,Y_a,Y_b,Y_c]
   refine Y_t 2 40 _ (.pointer (some ⟨R,0,none⟩)) rfl (Or.inl ⟨by kernel_rfl,fun u hu=>by kernel_rfl⟩) trivial ?_
   simp only[Act.put,Y_a,Y_b,Y_c]
   refine Y_t 3 41 _ (.pointer (some ⟨S,2,none⟩)) rfl (Or.inl ⟨by kernel_rfl,fun u hu=>by kernel_rfl⟩) trivial ?_
   simp only[Act.put,Y_a,Y_b,Y_c]
   refine ZdJ 1 39 _ 4 42 _ rfl (by kernel_rfl) rfl (by kernel_rfl) (by kernel_rfl) (by kernel_rfl) (by kernel_rfl) (.slice ho P.length hc) wd (ZfJ c2d (.tmp 38) (by kernel_rfl) (by kernel_rfl)) trivial (.slice ho P.length hc) wd (ZfJ c2d (.tmp 41) (by kernel_rfl) (by kernel_rfl)) trivial ?_ ?_
   ·simp only[Act.put,Y_a,Y_b,Y_c]
    refine Y_v 4 42 _ rfl (.slice ho P.length hc) wd (ZfJ c2d (.tmp 41) (by kernel_rfl) (by kernel_rfl)) trivial ?_
    simp only[Act.put,Y_a,Y_b,Y_c]
    refine Y_t 5 43 _ (.int .i64 (P.length:Int)) rfl (Or.inl ⟨by kernel_rfl,fun u hu=>by kernel_rfl⟩) trivial ?_
    simp only[Act.put,Y_a,Y_b,Y_c]
    refine ZdF 6 44 _ rfl (by kernel_rfl) (by kernel_rfl) (by kernel_rfl) 67 (.func 67) #[.tmp 40,.tmp 43] #[118,3] (by kernel_rfl) #[] (by kernel_rfl) #[.pointer (some ⟨R,0,none⟩),.int .i64 (P.length:Int)] (by kernel_rfl) (enters_of Tryz.func67 (by kernel_rfl) rfl) Rr (fun _ _=>False) (fun _ _ h=>h.elim) ?_ ?_
    ·exact hcall
    intro v0 u1 _ hq
    rw[← HRr.out] at hq
    obtain⟨h,st2,vo,vc,hk2,rfl,hR1,hown1⟩:=hq
    have c1u:=hR1.cells.2.2
    have hRA:=hR1.keep ((Below.refl _ u1).alloc (Nat.le_refl _) (hkO h (.slice vo h.ls.length vc)))
    have c2u:=hRA.cells.2.2
    simp only[Act.put,Y_a,Y_b,Y_c]
    refine Y_v 7 45 _ rfl (.slice (some ⟨u1.heap.size,0,none⟩) 1 1) (u1.alloc (hkO h (.slice vo h.ls.length vc))) (by kernel_rfl) trivial ?_
    simp only[Act.put,Y_a,Y_b,Y_c]
    have hownA:=hown1.alloc (hkO h (.slice vo h.ls.length vc))
    obtain⟨v3,u3,hr3,hown3,hg3,_⟩:=ZjJ (u1.alloc (hkO h (.slice vo h.ls.length vc))) 40 45 40 (.agg #[.int .i64 0,.int .i64 0,.int .i64 0,.int .i64 0,.slice none 0 0]) 5 56 Tryz.underlying40 infoHk rfl (by decide) (by decide) wb.heap.size _ _ _ hRA.own _ 1 (hkC h (.slice vo h.ls.length vc)) (Zhz u1 h (.slice vo h.ls.length vc)) rfl (fun u hu=>by simp[hkC] at hu;rcases hu with rfl | rfl | rfl | rfl | rfl<;>rfl) (by omega) hRA.gr.size
    have hR3:=hRA.more hownA hg3 hown3
    obtain⟨o3,k3,rfl⟩:=(Zeo hown3).form
    refine Y_v 8 46 _ rfl (.slice o3 (P.length+1) k3) u3 (ZcT (.tmp 39) (.tmp 45) (by kernel_rfl) (by kernel_rfl) (by kernel_rfl) hr3) trivial ?_
    simp only[Act.put,Y_a,Y_b,Y_c]
    refine Y_t 9 47 _ (.pointer (some ⟨S,2,none⟩)) rfl (Or.inl ⟨by kernel_rfl,fun u hu=>by kernel_rfl⟩) trivial ?_
    simp only[Act.put,Y_a,Y_b,Y_c]
    refine Y_s 10 _ rfl (u3.setCell ⟨S,2,none⟩ (.slice o3 (P.length+1) k3)) (ZcZ hR3.2.1 hR3.2.2 (.tmp 47) (.tmp 46) (by kernel_rfl) (by kernel_rfl) (by kernel_rfl)) trivial ?_
    refine wpAnyH_done (by kernel_rfl) ?_ _
    have hR4:=hR3.1
    have hk3:=hk2 (.slice vo h.ls.length vc)
    go_wp2
    refine⟨⟨_,P++[(h,.slice vo h.ls.length vc)],st2,f',⟨o3,k3,by rw[List.length_append];rfl⟩,hR4,by rw[List.length_append];simp;omega,hk3.1⟩,?_⟩
    have h9:=hk3.2 _ hR4.rd
    omega
   ·simp only[Act.put,Y_a,Y_b,Y_c]
    refine Y_t 5 43 _ (.int .i64 (P.length:Int)) rfl (Or.inl ⟨by kernel_rfl,fun u hu=>by kernel_rfl⟩) trivial ?_
    simp only[Act.put,Y_a,Y_b,Y_c]
    refine ZdM 1 39 _ 6 44 _ rfl (by kernel_rfl) rfl (by kernel_rfl) (by kernel_rfl) (by kernel_rfl) (by kernel_rfl) (.slice ho P.length hc) wd (ZfJ c2d (.tmp 38) (by kernel_rfl) (by kernel_rfl)) trivial 67 (.func 67) #[.tmp 40,.tmp 43] #[118,3] (by kernel_rfl) #[] (by kernel_rfl) #[.pointer (some ⟨R,0,none⟩),.int .i64 (P.length:Int)] (by kernel_rfl) (enters_of Tryz.func67 (by kernel_rfl) rfl) Rr (fun _ _=>False) (fun _ _ h=>h.elim) ?_ ?_ ?_
    ·exact hcall
    ·simp only[Act.put,Y_a,Y_b,Y_c]
     refine ZdF 6 44 _ rfl (by kernel_rfl) (by kernel_rfl) (by kernel_rfl) 67 (.func 67) #[.tmp 40,.tmp 43] #[118,3] (by kernel_rfl) #[] (by kernel_rfl) #[.pointer (some ⟨R,0,none⟩),.int .i64 (P.length:Int)] (by kernel_rfl) (enters_of Tryz.func67 (by kernel_rfl) rfl) Rr (fun _ _=>False) (fun _ _ h=>h.elim) ?_ ?_
     ·exact hcall
     intro v0 u1 _ hq
     rw[← HRr.out] at hq
     obtain⟨h,st2,vo,vc,hk2,rfl,hR1,hown1⟩:=hq
     have c1u:=hR1.cells.2.2
     have hRA:=hR1.keep ((Below.refl _ u1).alloc (Nat.le_refl _) (hkO h (.slice vo h.ls.length vc)))
     have c2u:=hRA.cells.2.2
     simp only[Act.put,Y_a,Y_b,Y_c]
     refine Y_v 7 45 _ rfl (.slice (some ⟨u1.heap.size,0,none⟩) 1 1) (u1.alloc (hkO h (.slice vo h.ls.length vc))) (by kernel_rfl) trivial ?_
     simp only[Act.put,Y_a,Y_b,Y_c]
     have hownA:=hown1.alloc (hkO h (.slice vo h.ls.length vc))
     obtain⟨v3,u3,hr3,hown3,hg3,_⟩:=ZjJ (u1.alloc (hkO h (.slice vo h.ls.length vc))) 40 45 40 (.agg #[.int .i64 0,.int .i64 0,.int .i64 0,.int .i64 0,.slice none 0 0]) 5 56 Tryz.underlying40 infoHk rfl (by decide) (by decide) wb.heap.size _ _ _ hRA.own _ 1 (hkC h (.slice vo h.ls.length vc)) (Zhz u1 h (.slice vo h.ls.length vc)) rfl (fun u hu=>by simp[hkC] at hu;rcases hu with rfl | rfl | rfl | rfl | rfl<;>rfl) (by omega) hRA.gr.size
     have hR3:=hRA.more hownA hg3 hown3
     obtain⟨o3,k3,rfl⟩:=(Zeo hown3).form
     refine Y_v 8 46 _ rfl (.slice o3 (P.length+1) k3) u3 (ZcT (.tmp 39) (.tmp 45) (by kernel_rfl) (by kernel_rfl) (by kernel_rfl) hr3) trivial ?_
     simp only[Act.put,Y_a,Y_b,Y_c]
     refine Y_t 9 47 _ (.pointer (some ⟨S,2,none⟩)) rfl (Or.inl ⟨by kernel_rfl,fun u hu=>by kernel_rfl⟩) trivial ?_
     simp only[Act.put,Y_a,Y_b,Y_c]
     refine Y_s 10 _ rfl (u3.setCell ⟨S,2,none⟩ (.slice o3 (P.length+1) k3)) (ZcZ hR3.2.1 hR3.2.2 (.tmp 47) (.tmp 46) (by kernel_rfl) (by kernel_rfl) (by kernel_rfl)) trivial ?_
     refine wpAnyH_done (by kernel_rfl) ?_ _
     have hR4:=hR3.1
     have hk3:=hk2 (.slice vo h.ls.length vc)
     go_wp2
     refine⟨⟨_,P++[(h,.slice vo h.ls.length vc)],st2,f',⟨o3,k3,by rw[List.length_append];rfl⟩,hR4,by rw[List.length_append];simp;omega,hk3.1⟩,?_⟩
     have h9:=hk3.2 _ hR4.rd
     omega
    ·intro v0 u1 _ hq
     rw[← HRr.out] at hq
     obtain⟨h,st2,vo,vc,hk2,rfl,hR1,hown1⟩:=hq
     have c1u:=hR1.cells.2.2
     have hRA:=hR1.keep ((Below.refl _ u1).alloc (Nat.le_refl _) (hkO h (.slice vo h.ls.length vc)))
     have c2u:=hRA.cells.2.2
     simp only[Act.put,Y_a,Y_b,Y_c]
     refine ZdJ 1 39 _ 7 45 _ rfl (by kernel_rfl) rfl (by kernel_rfl) (by kernel_rfl) (by kernel_rfl) (by kernel_rfl) (.slice ho P.length hc) u1 (ZfJ c1u (.tmp 38) (by kernel_rfl) (by kernel_rfl)) trivial (.slice (some ⟨u1.heap.size,0,none⟩) 1 1) (u1.alloc (hkO h (.slice vo h.ls.length vc))) (by kernel_rfl) trivial ?_ ?_
     ·simp only[Act.put,Y_a,Y_b,Y_c]
      refine Y_v 7 45 _ rfl (.slice (some ⟨u1.heap.size,0,none⟩) 1 1) (u1.alloc (hkO h (.slice vo h.ls.length vc))) (by kernel_rfl) trivial ?_
      simp only[Act.put,Y_a,Y_b,Y_c]
      have hownA:=hown1.alloc (hkO h (.slice vo h.ls.length vc))
      obtain⟨v3,u3,hr3,hown3,hg3,_⟩:=ZjJ (u1.alloc (hkO h (.slice vo h.ls.length vc))) 40 45 40 (.agg #[.int .i64 0,.int .i64 0,.int .i64 0,.int .i64 0,.slice none 0 0]) 5 56 Tryz.underlying40 infoHk rfl (by decide) (by decide) wb.heap.size _ _ _ hRA.own _ 1 (hkC h (.slice vo h.ls.length vc)) (Zhz u1 h (.slice vo h.ls.length vc)) rfl (fun u hu=>by simp[hkC] at hu;rcases hu with rfl | rfl | rfl | rfl | rfl<;>rfl) (by omega) hRA.gr.size
      have hR3:=hRA.more hownA hg3 hown3
      obtain⟨o3,k3,rfl⟩:=(Zeo hown3).form
      refine Y_v 8 46 _ rfl (.slice o3 (P.length+1) k3) u3 (ZcT (.tmp 39) (.tmp 45) (by kernel_rfl) (by kernel_rfl) (by kernel_rfl) hr3) trivial ?_
      simp only[Act.put,Y_a,Y_b,Y_c]
      refine Y_t 9 47 _ (.pointer (some ⟨S,2,none⟩)) rfl (Or.inl ⟨by kernel_rfl,fun u hu=>by kernel_rfl⟩) trivial ?_
      simp only[Act.put,Y_a,Y_b,Y_c]
      refine Y_s 10 _ rfl (u3.setCell ⟨S,2,none⟩ (.slice o3 (P.length+1) k3)) (ZcZ hR3.2.1 hR3.2.2 (.tmp 47) (.tmp 46) (by kernel_rfl) (by kernel_rfl) (by kernel_rfl)) trivial ?_
      refine wpAnyH_done (by kernel_rfl) ?_ _
      have hR4:=hR3.1
      have hk3:=hk2 (.slice vo h.ls.length vc)
      go_wp2
      refine⟨⟨_,P++[(h,.slice vo h.ls.length vc)],st2,f',⟨o3,k3,by rw[List.length_append];rfl⟩,hR4,by rw[List.length_append];simp;omega,hk3.1⟩,?_⟩
      have h9:=hk3.2 _ hR4.rd
      omega
     ·simp only[Act.put,Y_a,Y_b,Y_c]
      refine Y_v 1 39 _ rfl (.slice ho P.length hc) (u1.alloc (hkO h (.slice vo h.ls.length vc))) (ZfJ c2u (.tmp 38) (by kernel_rfl) (by kernel_rfl)) trivial ?_
      simp only[Act.put,Y_a,Y_b,Y_c]
      have hownA:=hown1.alloc (hkO h (.slice vo h.ls.length vc))
      obtain⟨v3,u3,hr3,hown3,hg3,_⟩:=ZjJ (u1.alloc (hkO h (.slice vo h.ls.length vc))) 40 45 40 (.agg #[.int .i64 0,.int .i64 0,.int .i64 0,.int .i64 0,.slice none 0 0]) 5 56 Tryz.underlying40 infoHk rfl (by decide) (by decide) wb.heap.size _ _ _ hRA.own _ 1 (hkC h (.slice vo h.ls.length vc)) (Zhz u1 h (.slice vo h.ls.length vc)) rfl (fun u hu=>by simp[hkC] at hu;rcases hu with rfl | rfl | rfl | rfl | rfl<;>rfl) (by omega) hRA.gr.size
      have hR3:=hRA.more hownA hg3 hown3
      obtain⟨o3,k3,rfl⟩:=(Zeo hown3).form
      refine Y_v 8 46 _ rfl (.slice o3 (P.length+1) k3) u3 (ZcT (.tmp 39) (.tmp 45) (by kernel_rfl) (by kernel_rfl) (by kernel_rfl) hr3) trivial ?_
      simp only[Act.put,Y_a,Y_b,Y_c]
      refine Y_t 9 47 _ (.pointer (some ⟨S,2,none⟩)) rfl (Or.inl ⟨by kernel_rfl,fun u hu=>by kernel_rfl⟩) trivial ?_
      simp only[Act.put,Y_a,Y_b,Y_c]
      refine Y_s 10 _ rfl (u3.setCell ⟨S,2,none⟩ (.slice o3 (P.length+1) k3)) (ZcZ hR3.2.1 hR3.2.2 (.tmp 47) (.tmp 46) (by kernel_rfl) (by kernel_rfl) (by kernel_rfl)) trivial ?_
      refine wpAnyH_done (by kernel_rfl) ?_ _
      have hR4:=hR3.1
      have hk3:=hk2 (.slice vo h.ls.length vc)
      go_wp2
      refine⟨⟨_,P++[(h,.slice vo h.ls.length vc)],st2,f',⟨o3,k3,by rw[List.length_append];rfl⟩,hR4,by rw[List.length_append];simp;omega,hk3.1⟩,?_⟩
      have h9:=hk3.2 _ hR4.rd
      omega
end

section
open Go.RowKit Go.Proofs.YtcniomgjikienaaGreatDoor.Tx
attribute [local go_sem] ByteArray.extract_mk Zhc
theorem ZpK (s:List UInt8) (hs:s.length≤1099511627776) (w:World) (N:Option (List UInt8)) (HN:Hid (namedP s=N)) :
  Calls Tryz.prog 101 #[.string ⟨s.toArray⟩] w fun e w'=>e=.returned (.tuple #[.string ⟨(nmV N).toArray⟩,.int .i64 (nmE N)])∧Below w.heap.size w w':=by
 have hc:=ZpL s hs w N HN
 go_enter Tryz.func101,Tryz.ntmps101
 go_wp2_with fail
 refine hc.mono ?_
 rintro e w1 ⟨rfl,hB⟩
 go_wp2
 go_ret2
 exact⟨rfl,hB⟩
theorem ZnJ {R:Nat} {L:List (List UInt8)} {lo:Option Addr} {lc:Nat} {st:Except (Nat × Int) Nat} (ah:List UInt8) (hah:ah.length=4) (w:World) (q:RdZ w R (.slice lo L.length lc) st) (hL:HS w (.slice lo L.length lc) L) (hR:∀ a,lo=some a→a.block≠R) (hp:∀ p,st=.ok p→p≤4398046511104) (hs:∀ s∈L,s.length≤1099511627776) (hsx:∀ s p1,nxZ L st=.ok (s,p1)→s.length≤1099511627776)
  (Z:Except (Nat × Int) (List UInt8 × Nat)) (HZ:Hid (nmZ ah L st=Z)) :
  Calls Tryz.prog 62 #[.pointer (some ⟨R,0,none⟩),.string ⟨ah.toArray⟩] w fun x w'=>NxQ R (.slice lo L.length lc) Z x w'∧w.grownBy w' (some R):=by
 obtain⟨Y,hY⟩:∃ Y,nxZ L st=Y:=⟨_,rfl⟩
 have hn:=Znp w q hL hR hp hs Y hY
 have hZ:=HZ.out
 rw[ZoA,hY] at hZ
 rw[hY] at hsx
 clear HZ hY hL hR hs hp q
 cases Y with
 | error e =>
  obtain⟨a,z⟩:=e
  dsimp only at hZ
  subst hZ
  go_enter Tryz.func62,Tryz.ntmps62
  go_wp2_with fail
  refine hn.mono ?_
  rintro x w1 ⟨⟨rfl,q1⟩,g1⟩
  have c3:=q1.fe
  have hz:(z != 0)=true:=bne_iff_ne.2 q1.2
  unfold feS at c3
  dsimp only at c3
  go_wp2
  go_ret
  exact⟨⟨rfl,q1⟩,g1⟩
 | ok y =>
  obtain⟨s,p1⟩:=y
  have hsl:=hsx s p1 rfl
  dsimp only at hZ
  clear hsx
  by_cases h1:ah.isPrefixOf s=true
  ·rw[if_pos h1] at hZ
   rw[Zpc,hah,Bool.and_eq_true,decide_eq_true_eq,beq_iff_eq] at h1
   obtain⟨h2,h3⟩:=h1
   have i1:¬ (s.length:Int)<4:=by omega
   have i2:(4:Int)≤(s.length:Int):=by omega
   obtain⟨N,hN⟩:∃ N,namedP (s.drop 4)=N:=⟨_,rfl⟩
   have HN:Hid (namedP (s.drop 4)=N):=hN
   rw[hN] at hZ
   have hd:=fun w=>ZpK (s.drop 4) (by rw[List.length_drop];omega) w N HN
   have ed:List.take (s.length-4) (List.drop 4 s)=List.drop 4 s:=List.take_of_length_le (by rw[List.length_drop];omega)
   clear hN HN
   subst h3
   go_enter Tryz.func62,Tryz.ntmps62
   go_wp2_with fail
   refine hn.mono ?_
   rintro x w1 ⟨⟨rfl,q1⟩,g1⟩
   have c3:=q1.fe
   unfold feS at c3
   dsimp only at c3
   go_wp2_with fail
   refine (hd w1).mono ?_
   rintro e w2 ⟨rfl,hB2⟩
   have q2:=q1.low hB2
   have g2:=ZdT g1 (ZfO hB2 _)
   cases N with
   | none =>
    subst hZ
    unfold nmV nmE
    go_wp2_with fail
    refine (Zni 253 (by decide) w2 q2).mono ?_
    rintro e w3 ⟨rfl,q3,g3⟩
    go_wp2
    go_ret
    exact⟨⟨rfl,q3⟩,ZdT g2 g3⟩
   | some n =>
    subst hZ
    unfold nmV nmE
    go_wp2
    go_ret
    exact⟨⟨rfl,q2⟩,g2⟩
  ·rw[if_neg h1] at hZ
   subst hZ
   rw[Zpc,hah] at h1
   by_cases h2:s.length<4
   ·have i1:(s.length:Int)<4:=by omega
    clear h1
    go_enter Tryz.func62,Tryz.ntmps62
    go_wp2_with fail
    refine hn.mono ?_
    rintro x w1 ⟨⟨rfl,q1⟩,g1⟩
    have c3:=q1.fe
    unfold feS at c3
    dsimp only at c3
    go_wp2_with fail
    refine (Zni 3 (by decide) w1 q1).mono ?_
    rintro e w3 ⟨rfl,q3,g3⟩
    go_wp2
    go_ret
    exact⟨⟨rfl,q3⟩,ZdT g1 g3⟩
   ·have i1:¬ (s.length:Int)<4:=by omega
    have i2:(4:Int)≤(s.length:Int):=by omega
    have j1:(s.take 4 == ah)=false:=(by
     rw[decide_eq_true (by omega),Bool.true_and,beq_iff_eq] at h1
     exact beq_eq_false_iff_ne.2 h1)
    clear h1
    go_enter Tryz.func62,Tryz.ntmps62
    go_wp2_with fail
    refine hn.mono ?_
    rintro x w1 ⟨⟨rfl,q1⟩,g1⟩
    have c3:=q1.fe
    unfold feS at c3
    dsimp only at c3
    go_wp2_with fail
    refine (Zni 3 (by decide) w1 q1).mono ?_
    rintro e w3 ⟨rfl,q3,g3⟩
    go_wp2
    go_ret
    exact⟨⟨rfl,q3⟩,ZdT g1 g3⟩
end

section
open Go.RowKit Go.Proofs.YtcniomgjikienaaGreatDoor.Tx
attribute [local go_sem] ByteArray.extract_mk Zhc
def CdQ (s:List UInt8) (e:Ending):Prop:=∃ x n r,e=.returned (.tuple #[.int .i64 x,.int .i64 n,.bool r])∧cntP s=(if r=true then some (x,n) else none)∧0≤x∧x≤2147483647∧0≤n∧n≤2147483647
theorem ZrI {s:List UInt8} {k:Nat} (hk:k<s.length) (h1:isK s[k]=true) (h2:∀ j (hj:j<k),isK (s[j]'(by omega))=false) {x y:List UInt8} (hx:s.take k=x) (hy:s.drop (k+1)=y):cntP s=if Pn.parseE x=0∧Pn.parseE y=0 then some (Pn.parseV x,Pn.parseV y) else none:=by
 unfold cntP
 rw[Zkq s k hk h1 h2]
 dsimp only
 rw[hx,hy]
theorem ZrJ {s:List UInt8} (h2:∀ j (hj:j<s.length),isK s[j]=false):cntP s=if Pn.parseE s=0 then some (Pn.parseV s,1) else none:=by
 unfold cntP
 rw[Zkr s h2]
theorem Zqn (s:List UInt8) (hs:s.length≤1099511627776) (w:World) :
  Calls Tryz.prog 148 #[.string ⟨s.toArray⟩] w fun x w'=>CdQ s x∧Below w.heap.size w w':=by
 go_enter Tryz.func148,Tryz.ntmps148
 go_wp2
 go_loopw [5] (fun i wr=>∃ k:Nat,k≤s.length∧i=.int .i64 (k:Int)∧Hid (∀ j (_:j<k) (hj:j<s.length),isK s[j]=false)∧wr=w) (fun i _=>s.length-(intOf i).toNat)
 case atStart=>exact⟨0,Nat.zero_le _,rfl,fun j hj=>by omega,rfl⟩
 case round =>
  obtain⟨k,hk,rfl,HK,rfl⟩:=hrel
  by_cases hlt:k<s.length
  ·have i1:0≤(k:Int):=by omega
   have i2:(k:Int)<(s.length:Int):=by omega
   by_cases hc:s[k]=44
   ·have hb:((s[k].toNat:Int) == 44)=true:=by rw[hc];rfl
    have HE:Hid (isK s[k]=true):=(by show _=_;unfold isK;rw[hc];rfl)
    obtain⟨x,hx⟩:∃ x,s.take k=x:=⟨_,rfl⟩
    obtain⟨y,hy⟩:∃ y,s.drop (k+1)=y:=⟨_,rfl⟩
    have hxl:x.length≤1099511627776:=(by rw[← hx,List.length_take];omega)
    have hy3:y.take (s.length-(k+1))=y:=List.take_of_length_le (by rw[← hy,List.length_drop];omega)
    have i3:(k:Int)+1≤(s.length:Int):=by omega
    have i4:((k:Int)+1).toNat=k+1:=by omega
    have hyl:y.length≤1099511627776:=(by rw[← hy,List.length_drop];omega)
    have hm:=ZrI hlt HE.out (fun j hj=>HK.out j hj (by omega)) hx hy
    obtain⟨v1,hv1⟩:∃ v,Pn.parseV x=v:=⟨_,rfl⟩
    obtain⟨e1,he1⟩:∃ e,Pn.parseE x=e:=⟨_,rfl⟩
    obtain⟨v2,hv2⟩:∃ v,Pn.parseV y=v:=⟨_,rfl⟩
    obtain⟨e2,he2⟩:∃ e,Pn.parseE y=e:=⟨_,rfl⟩
    rw[hv1,he1,hv2,he2] at hm
    have b1:=@ZiG x
    have b2:=@ZiG y
    rw[hv1] at b1
    rw[hv2] at b2
    have HB12:Hid (0≤v1∧v1≤2147483647∧0≤v2∧v2≤2147483647):=⟨b1.1,b1.2,b2.1,b2.2⟩
    clear b1 b2
    have hrx:=ZpW x
    have hry:=ZpW y
    rw[hv1,he1] at hrx
    rw[hv2,he2] at hry
    have HM:Hid (cntP s=if e1=0∧e2=0 then some (v1,v2) else none):=hm
    clear hm HK HE hc hv1 he1 hv2 he2
    go_wp2_with fail
    refine (hrx _ (by unfold maxLen;omega)).mono ?_
    rintro e' w1 ⟨rfl,hb1⟩
    go_wp2_with fail
    refine (hry _ (by unfold maxLen;omega)).mono ?_
    rintro e' w2 ⟨rfl,hb2⟩
    have hB:=hb1.trans (hb2.mono hb1.size)
    by_cases h1:e1=0
    ·have g1:(e1 == 0)=true:=by rw[h1];rfl
     have HN:Hid (cntP s=if (e2 == 0)=true then some (v1,v2) else none):=(by
      show _=_
      rw[HM.out]
      simp[h1])
     clear HM h1
     go_wp2
     go_ret3
     exact⟨⟨_,_,_,rfl,HN.out,HB12.out⟩,hB⟩
    ·have g1:(e1 == 0)=false:=beq_eq_false_iff_ne.2 h1
     have HN:Hid (cntP s=none):=(by show _=_;rw[HM.out,if_neg (fun q=>h1 q.1)])
     clear HM h1
     go_wp2
     go_ret3
     exact⟨⟨_,_,_,rfl,HN.out,HB12.out⟩,hB⟩
   ·have hb:((s[k].toNat:Int) == 44)=false:=beq_eq_false_iff_ne.2 (fun h=>hc (UInt8.toNat_inj.1 (by show _=44;omega)))
    have HE:Hid (isK s[k]=false):=(by show _=_;unfold isK;simpa using hc)
    go_wp2
    go_roundw
    case rel=>exact⟨k+1,by omega,by go_num,fun j hj hj2=>(by
      rcases Nat.lt_or_ge j k with h | h
      ·exact HK.out j h hj2
      ·have:j=k:=by omega
       subst this
       exact HE.out),trivial⟩
    case measure=>simp[intOf];omega
  ·have ek:k=s.length:=by omega
   subst ek
   obtain⟨v,hv⟩:∃ v,Pn.parseV s=v:=⟨_,rfl⟩
   obtain⟨z,hz⟩:∃ e,Pn.parseE s=e:=⟨_,rfl⟩
   have hm:=ZrJ (fun j hj=>HK.out j hj hj)
   rw[hv,hz] at hm
   have HM:Hid (cntP s=if (z == 0)=true then some (v,1) else none):=(by show _=_;rw[hm];simp)
   have b1:=@ZiG s
   rw[hv] at b1
   have HB1:Hid (0≤v∧v≤2147483647∧(0:Int)≤1∧(1:Int)≤2147483647):=⟨b1.1,b1.2,by decide,by decide⟩
   clear b1
   have hr:=ZpW s
   rw[hv,hz] at hr
   clear HK hv hz hm
   go_wp2_with fail
   refine (hr _ (by unfold maxLen;omega)).mono ?_
   rintro e' w1 ⟨rfl,hb1⟩
   go_wp2
   go_ret3
   exact⟨⟨_,_,_,rfl,HM.out,HB1.out⟩,hb1⟩
theorem ZrK {x:List UInt8} (hx:x≠[]):∀ (s:List UInt8) (k:Nat),k+x.length≤s.length→x.isPrefixOf (s.drop k)=true→(∀ j,j<k→x.isPrefixOf (s.drop j)=false)→cutS x s=some (s.take k,s.drop (k+x.length)):=by
 intro s
 induction s with
 | nil =>
  intro k hk
  cases x with
  | nil=>exact absurd rfl hx
  | cons c t=>simp at hk
 | cons c t ih =>
  intro k hk h1 h2
  unfold cutS
  cases k with
  | zero =>
   rw[List.drop_zero] at h1
   rw[if_pos h1]
   simp
  | succ k =>
   have h0:=h2 0 (by omega)
   rw[List.drop_zero] at h0
   rw[if_neg (by rw[h0];decide),ih k (by simp only[List.length_cons] at hk;omega) (by simpa using h1) (fun j hj=>by have:=h2 (j+1) (by omega);simpa using this)]
   have e:k+1+x.length=(k+x.length)+1:=by omega
   rw[e]
   simp
theorem ZrL {x:List UInt8} (hx:x≠[]):∀ (s:List UInt8),(∀ j,j+x.length≤s.length→x.isPrefixOf (s.drop j)=false)→cutS x s=none:=by
 intro s
 induction s with
 | nil =>
  intro _
  cases x with
  | nil=>exact absurd rfl hx
  | cons c t=>rfl
 | cons c t ih =>
  intro h
  unfold cutS
  have h0:¬ x.isPrefixOf (c::t)=true:=by
   intro hp
   have hle:=(List.isPrefixOf_iff_prefix.1 hp).length_le
   have:=h 0 (by simpa using hle)
   rw[List.drop_zero,hp] at this
   cases this
  rw[if_neg h0,ih (fun j hj=>by have:=h (j+1) (by simp only[List.length_cons];omega);simpa using this)]
theorem Zsb {x s:List UInt8} {k:Nat} (_h:k+x.length≤s.length):(List.take x.length (s.drop k) == x)=x.isPrefixOf (s.drop k):=by
 rw[Bool.eq_iff_iff,beq_iff_eq,List.isPrefixOf_iff_prefix,List.prefix_iff_eq_take]
 exact⟨fun e=>e.symm,fun e=>e.symm⟩
theorem Zqo (s x:List UInt8) (hx:x≠[]) (hxl:x.length≤100) (hs:s.length≤1099511627776) (w:World) :
  Calls Tryz.prog 147 #[.string ⟨s.toArray⟩,.string ⟨x.toArray⟩] w fun e w'=>e=.returned (.tuple #[.string ⟨(ctA x s).toArray⟩,.string ⟨(ctB x s).toArray⟩,.bool (ctK x s)])∧Below w.heap.size w w':=by
 go_enter Tryz.func147,Tryz.ntmps147
 go_wp2
 go_loopw [7] (fun i wr=>∃ k:Nat,k≤s.length+1∧i=.int .i64 (k:Int)∧Hid (∀ j,j<k→x.isPrefixOf (s.drop j)=false)∧wr=w) (fun i _=>s.length+1-(intOf i).toNat)
 case atStart=>exact⟨0,Nat.zero_le _,rfl,fun j hj=>by omega,rfl⟩
 case round =>
  obtain⟨k,hk,rfl,HK,rfl⟩:=hrel
  by_cases hlt:k+x.length≤s.length
  ·have i1:0≤(k:Int):=by omega
   have i2:(k:Int)+(x.length:Int)≤(s.length:Int):=by omega
   have i3:(k:Int)≤(k:Int)+(x.length:Int):=by omega
   have i4:((k:Int)+(x.length:Int)).toNat=k+x.length:=by omega
   have i5:k+x.length-k=x.length:=by omega
   have i6:(k:Int)≤(s.length:Int):=by omega
   have hp:=Zsb hlt
   obtain⟨b,hb⟩:∃ b,x.isPrefixOf (s.drop k)=b:=⟨_,rfl⟩
   rw[hb] at hp
   cases b with
   | true =>
    have HC:Hid (cutS x s=some (s.take k,s.drop (k+x.length))):=ZrK hx s k hlt hb HK.out
    have HA:Hid (ctA x s=s.take k∧ctB x s=s.drop (k+x.length)∧ctK x s=true):=(by unfold ctA ctB ctK;rw[HC.out];exact⟨rfl,rfl,rfl⟩)
    clear HK HC hb
    go_upto_region 5 with fail
    go_quiet (fail)
    go_wp2
    have HD:Hid (List.take (s.length-(k+x.length)) (s.drop (k+x.length))=s.drop (k+x.length)):=List.take_of_length_le (by rw[List.length_drop];omega)
    go_ret3
    exact⟨by rw[HD.out,HA.out.1,HA.out.2.1,HA.out.2.2];rfl,Below.dN (Below.refl _ _) nq⟩
   | false =>
    have HE:Hid (x.isPrefixOf (s.drop k)=false):=hb
    clear hb
    go_wp2
    go_roundw
    case rel=>exact⟨k+1,by omega,by go_num,fun j hj=>(by
      rcases Nat.lt_or_ge j k with h | h
      ·exact HK.out j h
      ·have:j=k:=by omega
       subst this
       exact HE.out),trivial⟩
    case measure=>simp[intOf];omega
  ·have i1:¬ (k:Int)+(x.length:Int)≤(s.length:Int):=by omega
   have HC:Hid (cutS x s=none):=ZrL hx s (fun j hj=>HK.out j (by omega))
   have HA:Hid (ctA x s=s∧ctB x s=[]∧ctK x s=false):=(by unfold ctA ctB ctK;rw[HC.out];exact⟨rfl,rfl,rfl⟩)
   clear HK HC
   go_wp2
   go_ret3
   exact⟨by rw[HA.out.1,HA.out.2.1,HA.out.2.2];rfl,Below.refl _ _⟩
end

end Go.Proofs.YtcniomgjikienaaGreatDoor
