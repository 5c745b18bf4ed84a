/-
  Texts that belong together, joined: UrD, UkH, UkI, UkJ.
-/
import Derived.Test.YtcniomgjikienaaGreatDoorVrA16

set_option maxHeartbeats 16000000
set_option maxRecDepth 100000
namespace Go.Proofs.YtcniomgjikienaaGreatDoor

section
open Go.RowKit Go.Proofs.YtcniomgjikienaaGreatDoor.Tx
attribute [local go_sem] ByteArray.extract_mk Zhc
theorem ZqC {P:Program} {fn:Func} {p q r:Tmp} {ty:TypeId} (h:fn.results=#[.cell p ty,.tmp q,.tmp r]) (tmps:Array Value) (w:World) (g:Nat) (t:TypeId) (cs:Array Value) (fr:Nat × Nat) (d:TypeDesc)
  (hp:tmps.getD p undef=.pointer (some ⟨g,0,none⟩)) (hg:w.heap[g]?=some (.cells cs t fr))
  (hu:P.underlying ty=some d) (hd:(match d with | .struct _ | .array _ _=>true | _=>false)=true) (hi:(P.info? ty).map (·.size)=some cs.size) :
  (results fn tmps).run P w=.ok (.tuple #[.agg cs,tmps.getD q undef,tmps.getD r undef]) w:=by
 have hp':tmps[p]?.getD undef=.pointer (some ⟨g,0,none⟩):=by simpa using hp
 simp[results,h,hp',asAddr,run_loadVar_row w g t ty cs fr d hg hu hd hi]
structure Ml (w:World) (R:Nat) (vL:Value) (st:Except (Nat × Int) Nat) (u:World):Prop where
 gr:w.grownBy u (some R)
 b0:u.heap[w.heap.size]?=some (.cells #[.int .u8 0,.string ⟨#[]⟩] 47)
 rd:RdZ u R vL st
 rl:R<w.heap.size
section
variable {w u u':World} {R M:Nat} {vL:Value} {st st':Except (Nat × Int) Nat}
theorem Ml.low (h:Ml w R vL st u) (hb:Below u.heap.size u u'):Ml w R vL st u':=⟨ZdT h.gr (ZfO hb _),(hb.block _ (Array.getElem?_eq_some_iff.1 h.b0).1).trans h.b0,h.rd.low hb,h.rl⟩
theorem Ml.call (h:Ml w R vL st u) (hg:u.grownBy u' (some R)) (q:RdZ u' R vL st'):Ml w R vL st' u':=⟨ZdT h.gr hg,(hg.block _ (Array.getElem?_eq_some_iff.1 h.b0).1 (fun e=>by have:=Option.some.inj e;have:=h.rl;omega)).trans h.b0,q,h.rl⟩
theorem Ml.other (h:Ml w R vL st u) (j:Nat) (z:Value) (hM:w.heap.size<M):Ml w R vL st (u.setCell ⟨M,j,none⟩ z):=⟨ZdR h.gr (by omega) j z,(Below.heap_setCell _ _ _ _ (by show w.heap.size≠M;omega)).trans h.b0,h.rd.off (ZdS u M j z) (fun e=>by have:=Option.some.inj e;have:=h.rl;omega),h.rl⟩
theorem Ml.cells (h:Ml w R vL st u):u.cell? ⟨w.heap.size,0,none⟩=some (.int .u8 0)∧u.cell? ⟨w.heap.size,1,none⟩=some (.string ⟨#[]⟩)∧(∀ j,u.frozen? ⟨w.heap.size,j,none⟩=false):=⟨by rw[Lib.cell_of_heap h.b0];rfl,by rw[Lib.cell_of_heap h.b0];rfl,fun j=>Lib.frozen_of_heap h.b0 j⟩
theorem Ml.fin (h:Ml w R vL st u) (z:Int) (tx:List UInt8) :
  ((u.setCell ⟨w.heap.size,0,none⟩ (.int .u8 z)).setCell ⟨w.heap.size,1,none⟩ (.string ⟨tx.toArray⟩)).heap[w.heap.size]?=some (.cells #[.int .u8 z,.string ⟨tx.toArray⟩] 47)∧RdZ ((u.setCell ⟨w.heap.size,0,none⟩ (.int .u8 z)).setCell ⟨w.heap.size,1,none⟩ (.string ⟨tx.toArray⟩)) R vL st∧w.grownBy ((u.setCell ⟨w.heap.size,0,none⟩ (.int .u8 z)).setCell ⟨w.heap.size,1,none⟩ (.string ⟨tx.toArray⟩)) (some R):=by
 have hr:=h.rl
 refine⟨heap_setCell_same _ _ 1 _ _ (.string ⟨tx.toArray⟩) (heap_setCell_same u _ 0 _ _ (.int .u8 z) h.b0),(h.rd.off (ZdS u _ 0 _) (fun e=>by have:=Option.some.inj e;omega)).off (ZdS _ _ 1 _) (fun e=>by have:=Option.some.inj e;omega),ZdR (ZdR h.gr (Nat.le_refl _) 0 _) (Nat.le_refl _) 1 _⟩
end
def LnQ6 (R:Nat) (vL:Value) (a b:Nat) (X:Except (Nat × Int) (Mk × Nat × List (List UInt8))) (w:World) (e:Ending) (w':World):Prop :=
 match X with
 | .error z=>e=.returned (.tuple #[.agg #[.int .u8 0,.string ⟨#[]⟩],.int .i64 0,.int .i64 0])∧RdZ w' R vL (.error z)∧w.grownBy w' (some R)
 | .ok (m,p1,_)=>e=.returned (.tuple #[.agg #[.int .u8 m.sg,.string ⟨m.tx.toArray⟩],.int .i64 ((a-sgO m:Nat):Int),.int .i64 ((b-sgN m:Nat):Int)])∧RdZ w' R vL (.ok p1)∧w.grownBy w' (some R)
theorem ZqQ {R:Nat} {vL:Value} (a b:Nat) (w W0:World) (hW0:w.alloc (.cells #[.int .u8 0,.string ⟨#[]⟩] 47)=W0) {st:Except (Nat × Int) Nat} (_ha:a≤2147483647) (_hb:b≤2147483647)
  (hn:Calls Tryz.prog 100 #[.pointer (some ⟨R,0,none⟩)] W0 fun x w'=>x=.returned (.string ⟨#[]⟩)∧Ml w R vL st w') :
  Calls Tryz.prog 103 #[.pointer (some ⟨R,0,none⟩),.int .i64 (a:Int),.int .i64 (b:Int)] w fun e w'=>e=.returned (.tuple #[.agg #[.int .u8 0,.string ⟨#[]⟩],.int .i64 0,.int .i64 0])∧RdZ w' R vL (flS 3 st)∧w.grownBy w' (some R):=by
 go_enter Tryz.func103,Tryz.ntmps103
 go_wp2_with fail
 refine hn.mono ?_
 rintro x w1 ⟨rfl,q1⟩
 clear hn hW0
 go_wp2_with fail
 refine (Zni 3 (by decide) _ q1.rd).mono ?_
 rintro e w2 ⟨rfl,q2,g2⟩
 have hM:=q1.call g2 q2
 clear q1 q2 g2
 obtain⟨y0,y1,yf⟩:=hM.cells
 have yf0:=yf 0
 have yf1:=yf 1
 obtain⟨fh,fr,fg⟩:=hM.fin 0 []
 clear hM yf
 go_wp2
 exact bodyPost_ret (ZqC rfl _ _ w.heap.size 47 #[.int .u8 0,.string ⟨#[]⟩] (0,0) _ rfl fh Tryz.underlying47 rfl (by kernel_rfl)) rfl ⟨rfl,fr,fg⟩
theorem ZqR {R:Nat} {vL:Value} (a b:Nat) (w W0:World) (hW0:w.alloc (.cells #[.int .u8 0,.string ⟨#[]⟩] 47)=W0) {p:Nat} (c:UInt8) (t:List UInt8) (hc:okC c=false) (_ha:a≤2147483647) (_hb:b≤2147483647)
  (hn:Calls Tryz.prog 100 #[.pointer (some ⟨R,0,none⟩)] W0 fun x w'=>x=.returned (.string ⟨(c::t).toArray⟩)∧Ml w R vL (.ok p) w') :
  Calls Tryz.prog 103 #[.pointer (some ⟨R,0,none⟩),.int .i64 (a:Int),.int .i64 (b:Int)] w fun e w'=>e=.returned (.tuple #[.agg #[.int .u8 0,.string ⟨#[]⟩],.int .i64 0,.int .i64 0])∧RdZ w' R vL (.error (p,3))∧w.grownBy w' (some R):=by
 have hc2:(c == 32)=false∧(c == 45)=false∧(c == 43)=false:=(by
  simpa only[okC,Bool.or_eq_false_iff,and_assoc] using hc)
 have n1:((c.toNat:Int) != 32)=true:=(by
  rw[bne_iff_ne];intro h;have h2:c=32:=UInt8.toNat_inj.1 (by show c.toNat=32;omega);rw[h2] at hc2;exact absurd hc2.1 (by decide))
 have n2:((c.toNat:Int) != 45)=true:=(by
  rw[bne_iff_ne];intro h;have h2:c=45:=UInt8.toNat_inj.1 (by show c.toNat=45;omega);rw[h2] at hc2;exact absurd hc2.2.1 (by decide))
 have n3:((c.toNat:Int) != 43)=true:=(by
  rw[bne_iff_ne];intro h;have h2:c=43:=UInt8.toNat_inj.1 (by show c.toNat=43;omega);rw[h2] at hc2;exact absurd hc2.2.2 (by decide))
 have j0:(0:Int)<(t.length:Int)+1:=by omega
 clear hc hc2
 go_enter Tryz.func103,Tryz.ntmps103
 go_wp2_with fail
 refine hn.mono ?_
 rintro x w1 ⟨rfl,q1⟩
 clear hn hW0
 go_wp2_with fail
 refine (Zni 3 (by decide) _ q1.rd).mono ?_
 rintro e w2 ⟨rfl,q2,g2⟩
 have hM:=q1.call g2 q2
 clear q1 q2 g2
 obtain⟨y0,y1,yf⟩:=hM.cells
 have yf0:=yf 0
 have yf1:=yf 1
 obtain⟨fh,fr,fg⟩:=hM.fin 0 []
 clear hM yf
 go_wp2
 exact bodyPost_ret (ZqC rfl _ _ w.heap.size 47 #[.int .u8 0,.string ⟨#[]⟩] (0,0) _ rfl fh Tryz.underlying47 rfl (by kernel_rfl)) rfl ⟨rfl,fr,fg⟩
theorem ZqS {R:Nat} {vL:Value} (a b:Nat) (w W0:World) (hW0:w.alloc (.cells #[.int .u8 0,.string ⟨#[]⟩] 47)=W0) {p:Nat} (t:List UInt8) (h0:a=0) (_ha:a≤2147483647) (hb:b≤2147483647)
  (hn:Calls Tryz.prog 100 #[.pointer (some ⟨R,0,none⟩)] W0 fun x w'=>x=.returned (.string ⟨((32:UInt8)::t).toArray⟩)∧Ml w R vL (.ok p) w') :
  Calls Tryz.prog 103 #[.pointer (some ⟨R,0,none⟩),.int .i64 (a:Int),.int .i64 (b:Int)] w fun e w'=>e=.returned (.tuple #[.agg #[.int .u8 0,.string ⟨#[]⟩],.int .i64 0,.int .i64 0])∧RdZ w' R vL (.error (p,3))∧w.grownBy w' (some R):=by
 go_enter Tryz.func103,Tryz.ntmps103
 go_wp2_with fail
 refine hn.mono ?_
 rintro x w1 ⟨rfl,q1⟩
 clear hn hW0
 have j1:(0:Int)<(t.length:Int)+1:=by omega
 have j2:(1:Int)≤(t.length:Int)+1:=by omega
 go_upto_region 5 with fail
 have hB5:Below w1.heap.size w1 (w1.alloc (.cells #[.int .u8 32,.string ⟨t.toArray⟩] 47)).drew:=((Below.refl _ w1).alloc (Nat.le_refl _) _).drew
 have hM5:=q1.low hB5
 have hm5:(w1.alloc (.cells #[.int .u8 32,.string ⟨t.toArray⟩] 47)).drew.heap[w1.heap.size]?=some (.cells #[.int .u8 32,.string ⟨t.toArray⟩] 47):=heap_alloc_new w1 _
 have HM5:Hid (w.heap.size<w1.heap.size):=(Array.getElem?_eq_some_iff.1 q1.b0).1
 go_region
 clear hB5 q1
 generalize (w1.alloc (.cells #[.int .u8 32,.string ⟨t.toArray⟩] 47)).drew=W5 at hM5 hm5 ⊢
 generalize w1.heap.size=M at HM5 hm5 ⊢
 have m0:W5.cell? ⟨M,0,none⟩=some (.int .u8 32):=(by rw[Lib.cell_of_heap hm5];rfl)
 have m1:W5.cell? ⟨M,1,none⟩=some (.string ⟨t.toArray⟩):=(by rw[Lib.cell_of_heap hm5];rfl)
 have mf:=Lib.frozen_of_heap hm5 1
 go_upto_region 10 with fail
 generalize hva:(a:Int)-1=va
 generalize hvb:(b:Int)-1=vb
 have d1:decide (va<0)=true:=decide_eq_true (by omega)
 clear m0 m1 mf hm5
 clear hva
 clear hvb
 clear h0
 go_wp2_with fail
 refine (Zni 3 (by decide) _ hM5.rd).mono ?_
 rintro e w2 ⟨rfl,q2,g2⟩
 have hM:=hM5.call g2 q2
 clear hM5 q2 g2
 obtain⟨y0,y1,yf⟩:=hM.cells
 have yf0:=yf 0
 have yf1:=yf 1
 obtain⟨fh,fr,fg⟩:=hM.fin 0 []
 clear hM yf
 go_wp2
 exact bodyPost_ret (ZqC rfl _ _ w.heap.size 47 #[.int .u8 0,.string ⟨#[]⟩] (0,0) _ rfl fh Tryz.underlying47 rfl (by kernel_rfl)) rfl ⟨rfl,fr,fg⟩
theorem ZqT {R:Nat} {vL:Value} (a b:Nat) (w W0:World) (hW0:w.alloc (.cells #[.int .u8 0,.string ⟨#[]⟩] 47)=W0) {p:Nat} (t:List UInt8) (h1:1≤a) (h0:b=0) (ha:a≤2147483647) (_hb:b≤2147483647)
  (hn:Calls Tryz.prog 100 #[.pointer (some ⟨R,0,none⟩)] W0 fun x w'=>x=.returned (.string ⟨((32:UInt8)::t).toArray⟩)∧Ml w R vL (.ok p) w') :
  Calls Tryz.prog 103 #[.pointer (some ⟨R,0,none⟩),.int .i64 (a:Int),.int .i64 (b:Int)] w fun e w'=>e=.returned (.tuple #[.agg #[.int .u8 0,.string ⟨#[]⟩],.int .i64 0,.int .i64 0])∧RdZ w' R vL (.error (p,3))∧w.grownBy w' (some R):=by
 go_enter Tryz.func103,Tryz.ntmps103
 go_wp2_with fail
 refine hn.mono ?_
 rintro x w1 ⟨rfl,q1⟩
 clear hn hW0
 have j1:(0:Int)<(t.length:Int)+1:=by omega
 have j2:(1:Int)≤(t.length:Int)+1:=by omega
 go_upto_region 5 with fail
 have hB5:Below w1.heap.size w1 (w1.alloc (.cells #[.int .u8 32,.string ⟨t.toArray⟩] 47)).drew:=((Below.refl _ w1).alloc (Nat.le_refl _) _).drew
 have hM5:=q1.low hB5
 have hm5:(w1.alloc (.cells #[.int .u8 32,.string ⟨t.toArray⟩] 47)).drew.heap[w1.heap.size]?=some (.cells #[.int .u8 32,.string ⟨t.toArray⟩] 47):=heap_alloc_new w1 _
 have HM5:Hid (w.heap.size<w1.heap.size):=(Array.getElem?_eq_some_iff.1 q1.b0).1
 go_region
 clear hB5 q1
 generalize (w1.alloc (.cells #[.int .u8 32,.string ⟨t.toArray⟩] 47)).drew=W5 at hM5 hm5 ⊢
 generalize w1.heap.size=M at HM5 hm5 ⊢
 have m0:W5.cell? ⟨M,0,none⟩=some (.int .u8 32):=(by rw[Lib.cell_of_heap hm5];rfl)
 have m1:W5.cell? ⟨M,1,none⟩=some (.string ⟨t.toArray⟩):=(by rw[Lib.cell_of_heap hm5];rfl)
 have mf:=Lib.frozen_of_heap hm5 1
 go_upto_region 10 with fail
 generalize hva:(a:Int)-1=va
 generalize hvb:(b:Int)-1=vb
 have d1:decide (va<0)=false:=decide_eq_false (by omega)
 have d2:decide (vb<0)=true:=decide_eq_true (by omega)
 clear m0 m1 mf hm5
 clear hva
 clear hvb
 clear h0
 clear h1
 go_wp2_with fail
 refine (Zni 3 (by decide) _ hM5.rd).mono ?_
 rintro e w2 ⟨rfl,q2,g2⟩
 have hM:=hM5.call g2 q2
 clear hM5 q2 g2
 obtain⟨y0,y1,yf⟩:=hM.cells
 have yf0:=yf 0
 have yf1:=yf 1
 obtain⟨fh,fr,fg⟩:=hM.fin 0 []
 clear hM yf
 go_wp2
 exact bodyPost_ret (ZqC rfl _ _ w.heap.size 47 #[.int .u8 0,.string ⟨#[]⟩] (0,0) _ rfl fh Tryz.underlying47 rfl (by kernel_rfl)) rfl ⟨rfl,fr,fg⟩
theorem ZqU {R:Nat} {vL:Value} (a b:Nat) (w W0:World) (hW0:w.alloc (.cells #[.int .u8 0,.string ⟨#[]⟩] 47)=W0) {p:Nat} (t:List UInt8) (h0:a=0) (_ha:a≤2147483647) (_hb:b≤2147483647)
  (hn:Calls Tryz.prog 100 #[.pointer (some ⟨R,0,none⟩)] W0 fun x w'=>x=.returned (.string ⟨((45:UInt8)::t).toArray⟩)∧Ml w R vL (.ok p) w') :
  Calls Tryz.prog 103 #[.pointer (some ⟨R,0,none⟩),.int .i64 (a:Int),.int .i64 (b:Int)] w fun e w'=>e=.returned (.tuple #[.agg #[.int .u8 0,.string ⟨#[]⟩],.int .i64 0,.int .i64 0])∧RdZ w' R vL (.error (p,3))∧w.grownBy w' (some R):=by
 go_enter Tryz.func103,Tryz.ntmps103
 go_wp2_with fail
 refine hn.mono ?_
 rintro x w1 ⟨rfl,q1⟩
 clear hn hW0
 have j1:(0:Int)<(t.length:Int)+1:=by omega
 have j2:(1:Int)≤(t.length:Int)+1:=by omega
 go_upto_region 5 with fail
 have hB5:Below w1.heap.size w1 (w1.alloc (.cells #[.int .u8 45,.string ⟨t.toArray⟩] 47)).drew:=((Below.refl _ w1).alloc (Nat.le_refl _) _).drew
 have hM5:=q1.low hB5
 have hm5:(w1.alloc (.cells #[.int .u8 45,.string ⟨t.toArray⟩] 47)).drew.heap[w1.heap.size]?=some (.cells #[.int .u8 45,.string ⟨t.toArray⟩] 47):=heap_alloc_new w1 _
 have HM5:Hid (w.heap.size<w1.heap.size):=(Array.getElem?_eq_some_iff.1 q1.b0).1
 go_region
 clear hB5 q1
 generalize (w1.alloc (.cells #[.int .u8 45,.string ⟨t.toArray⟩] 47)).drew=W5 at hM5 hm5 ⊢
 generalize w1.heap.size=M at HM5 hm5 ⊢
 have m0:W5.cell? ⟨M,0,none⟩=some (.int .u8 45):=(by rw[Lib.cell_of_heap hm5];rfl)
 have m1:W5.cell? ⟨M,1,none⟩=some (.string ⟨t.toArray⟩):=(by rw[Lib.cell_of_heap hm5];rfl)
 have mf:=Lib.frozen_of_heap hm5 1
 go_upto_region 10 with fail
 generalize hva:(a:Int)-1=va
 have d1:decide (va<0)=true:=decide_eq_true (by omega)
 clear m0 m1 mf hm5
 clear hva
 clear h0
 go_wp2_with fail
 refine (Zni 3 (by decide) _ hM5.rd).mono ?_
 rintro e w2 ⟨rfl,q2,g2⟩
 have hM:=hM5.call g2 q2
 clear hM5 q2 g2
 obtain⟨y0,y1,yf⟩:=hM.cells
 have yf0:=yf 0
 have yf1:=yf 1
 obtain⟨fh,fr,fg⟩:=hM.fin 0 []
 clear hM yf
 go_wp2
 exact bodyPost_ret (ZqC rfl _ _ w.heap.size 47 #[.int .u8 0,.string ⟨#[]⟩] (0,0) _ rfl fh Tryz.underlying47 rfl (by kernel_rfl)) rfl ⟨rfl,fr,fg⟩
theorem ZqV {R:Nat} {vL:Value} (a b:Nat) (w W0:World) (hW0:w.alloc (.cells #[.int .u8 0,.string ⟨#[]⟩] 47)=W0) {p:Nat} (t:List UInt8) (h0:b=0) (ha:a≤2147483647) (_hb:b≤2147483647)
  (hn:Calls Tryz.prog 100 #[.pointer (some ⟨R,0,none⟩)] W0 fun x w'=>x=.returned (.string ⟨((43:UInt8)::t).toArray⟩)∧Ml w R vL (.ok p) w') :
  Calls Tryz.prog 103 #[.pointer (some ⟨R,0,none⟩),.int .i64 (a:Int),.int .i64 (b:Int)] w fun e w'=>e=.returned (.tuple #[.agg #[.int .u8 0,.string ⟨#[]⟩],.int .i64 0,.int .i64 0])∧RdZ w' R vL (.error (p,3))∧w.grownBy w' (some R):=by
 go_enter Tryz.func103,Tryz.ntmps103
 go_wp2_with fail
 refine hn.mono ?_
 rintro x w1 ⟨rfl,q1⟩
 clear hn hW0
 have j1:(0:Int)<(t.length:Int)+1:=by omega
 have j2:(1:Int)≤(t.length:Int)+1:=by omega
 go_upto_region 5 with fail
 have hB5:Below w1.heap.size w1 (w1.alloc (.cells #[.int .u8 43,.string ⟨t.toArray⟩] 47)).drew:=((Below.refl _ w1).alloc (Nat.le_refl _) _).drew
 have hM5:=q1.low hB5
 have hm5:(w1.alloc (.cells #[.int .u8 43,.string ⟨t.toArray⟩] 47)).drew.heap[w1.heap.size]?=some (.cells #[.int .u8 43,.string ⟨t.toArray⟩] 47):=heap_alloc_new w1 _
 have HM5:Hid (w.heap.size<w1.heap.size):=(Array.getElem?_eq_some_iff.1 q1.b0).1
 go_region
 clear hB5 q1
 generalize (w1.alloc (.cells #[.int .u8 43,.string ⟨t.toArray⟩] 47)).drew=W5 at hM5 hm5 ⊢
 generalize w1.heap.size=M at HM5 hm5 ⊢
 have m0:W5.cell? ⟨M,0,none⟩=some (.int .u8 43):=(by rw[Lib.cell_of_heap hm5];rfl)
 have m1:W5.cell? ⟨M,1,none⟩=some (.string ⟨t.toArray⟩):=(by rw[Lib.cell_of_heap hm5];rfl)
 have mf:=Lib.frozen_of_heap hm5 1
 go_upto_region 10 with fail
 generalize hvb:(b:Int)-1=vb
 have d1:decide ((a:Int)<0)=false:=decide_eq_false (by omega)
 have d2:decide (vb<0)=true:=decide_eq_true (by omega)
 clear m0 m1 mf hm5
 clear hvb
 clear h0
 go_wp2_with fail
 refine (Zni 3 (by decide) _ hM5.rd).mono ?_
 rintro e w2 ⟨rfl,q2,g2⟩
 have hM:=hM5.call g2 q2
 clear hM5 q2 g2
 obtain⟨y0,y1,yf⟩:=hM.cells
 have yf0:=yf 0
 have yf1:=yf 1
 obtain⟨fh,fr,fg⟩:=hM.fin 0 []
 clear hM yf
 go_wp2
 exact bodyPost_ret (ZqC rfl _ _ w.heap.size 47 #[.int .u8 0,.string ⟨#[]⟩] (0,0) _ rfl fh Tryz.underlying47 rfl (by kernel_rfl)) rfl ⟨rfl,fr,fg⟩
theorem ZqW {R:Nat} {L:List (List UInt8)} {lo:Option Addr} {lc p:Nat} (a b:Nat) (t:List UInt8) (w W0:World) (hW0:w.alloc (.cells #[.int .u8 0,.string ⟨#[]⟩] 47)=W0) (HLs:Hid (∀ u,w.grownBy u (some R)→HS u (.slice lo L.length lc) L)) (hp:p≤1099511627776) (hs:∀ s∈L,s.length≤1099511627776) (ht:t.length≤1099511627776) (h1:1≤a) (h2:1≤b) (ha:a≤2147483647) (hb:b≤2147483647) (mk:Bool) (HMk:Hid (pkZ markT L (.ok p)=mk)) (tx:List UInt8) (p1:Nat) (HT:Hid ((tx,p1)=if (((a-1 == 0) && (b-1 == 0)) && (!t.isEmpty && mk))=true then (t,p+1) else (t++[10],p)))
  (hn:Calls Tryz.prog 100 #[.pointer (some ⟨R,0,none⟩)] W0 fun x w'=>x=.returned (.string ⟨((32:UInt8)::t).toArray⟩)∧Ml w R (.slice lo L.length lc) (.ok p) w') :
  Calls Tryz.prog 103 #[.pointer (some ⟨R,0,none⟩),.int .i64 (a:Int),.int .i64 (b:Int)] w fun e w'=>e=.returned (.tuple #[.agg #[.int .u8 32,.string ⟨tx.toArray⟩],.int .i64 ((a-1:Nat):Int),.int .i64 ((b-1:Nat):Int)])∧RdZ w' R (.slice lo L.length lc) (.ok p1)∧w.grownBy w' (some R):=by
 go_enter Tryz.func103,Tryz.ntmps103
 go_wp2_with fail
 refine hn.mono ?_
 rintro x w1 ⟨rfl,q1⟩
 clear hn hW0
 have j1:(0:Int)<(t.length:Int)+1:=by omega
 have j2:(1:Int)≤(t.length:Int)+1:=by omega
 go_upto_region 5 with fail
 have hB5:Below w1.heap.size w1 (w1.alloc (.cells #[.int .u8 32,.string ⟨t.toArray⟩] 47)).drew:=((Below.refl _ w1).alloc (Nat.le_refl _) _).drew
 have hM5:=q1.low hB5
 have hm5:(w1.alloc (.cells #[.int .u8 32,.string ⟨t.toArray⟩] 47)).drew.heap[w1.heap.size]?=some (.cells #[.int .u8 32,.string ⟨t.toArray⟩] 47):=heap_alloc_new w1 _
 have HM5:Hid (w.heap.size<w1.heap.size):=(Array.getElem?_eq_some_iff.1 q1.b0).1
 go_region
 clear hB5 q1
 generalize (w1.alloc (.cells #[.int .u8 32,.string ⟨t.toArray⟩] 47)).drew=W5 at hM5 hm5 ⊢
 generalize w1.heap.size=M at HM5 hm5 ⊢
 have m0:W5.cell? ⟨M,0,none⟩=some (.int .u8 32):=(by rw[Lib.cell_of_heap hm5];rfl)
 have m1:W5.cell? ⟨M,1,none⟩=some (.string ⟨t.toArray⟩):=(by rw[Lib.cell_of_heap hm5];rfl)
 have mf:=Lib.frozen_of_heap hm5 1
 go_upto_region 10 with fail
 generalize hva:(a:Int)-1=va
 have HA:Hid (va=((a-1:Nat):Int)):=(by show _=_;omega)
 generalize hvb:(b:Int)-1=vb
 have HB:Hid (vb=((b-1:Nat):Int)):=(by show _=_;omega)
 have d1:decide (va<0)=false:=decide_eq_false (by omega)
 have d2:decide (vb<0)=false:=decide_eq_false (by omega)
 have HE1:Hid ((va == 0)=(a-1 == 0)):=(by show _=_;rw[Bool.eq_iff_iff,beq_iff_eq,beq_iff_eq];omega)
 have HE2:Hid ((vb == 0)=(b-1 == 0)):=(by show _=_;rw[Bool.eq_iff_iff,beq_iff_eq,beq_iff_eq];omega)
 clear hva
 clear hvb
 obtain⟨r1,hr1⟩:∃ r,(a-1 == 0)=r:=⟨_,rfl⟩
 have e1:(va == 0)=r1:=HE1.out.trans hr1
 obtain⟨r2,hr2⟩:∃ r,(b-1 == 0)=r:=⟨_,rfl⟩
 have e2:(vb == 0)=r2:=HE2.out.trans hr2
 have HT2:Hid ((tx,p1)=if ((r1 && r2) && (!t.isEmpty && mk))=true then (t,p+1) else (t++[10],p)):=(by
  show _=_
  rw[← hr1,← hr2]
  exact HT.out)
 clear HT hr1 HE1 hr2 HE2 h1 h2 
 cases r1 with
 | false =>
  have ht2:tx=t++[10]∧p1=p:=(by
   have h:=HT2.out
   rw[if_neg (by simp)] at h
   exact⟨congrArg Prod.fst h,congrArg Prod.snd h⟩)
  obtain⟨rfl,rfl⟩:=ht2
  clear HT2
  have hMz:=(hM5).other 1 (.string ⟨(t++[10]).toArray⟩) HM5.out
  have hmz:=heap_setCell_same W5 M 1 _ _ (.string ⟨(t++[10]).toArray⟩) hm5
  have hj:((⟨t.toArray⟩:ByteArray)++(⟨#[10]⟩:ByteArray))=⟨(t++[10]).toArray⟩:=Zmw t [10]
  go_upto_region 17 with fail
  try rw[hj]
  clear m0 m1 mf hj
  generalize W5.setCell ⟨M,1,none⟩ (.string ⟨(t++[10]).toArray⟩)=Wz at hMz hmz ⊢
  have m0:Wz.cell? ⟨M,0,none⟩=some (.int .u8 32):=(by rw[Lib.cell_of_heap hmz];rfl)
  have m1:Wz.cell? ⟨M,1,none⟩=some (.string ⟨(t++[10]).toArray⟩):=(by rw[Lib.cell_of_heap hmz];rfl)
  clear hmz
  obtain⟨y0,y1,yf⟩:=hMz.cells
  have yf0:=yf 0
  have yf1:=yf 1
  obtain⟨fh,fr,fg⟩:=hMz.fin 32 (t++[10])
  clear hMz yf
  go_wp2
  exact bodyPost_ret (ZqC rfl _ _ w.heap.size 47 #[.int .u8 32,.string ⟨(t++[10]).toArray⟩] (0,0) _ rfl fh Tryz.underlying47 rfl (by kernel_rfl)) rfl ⟨by rw[← HA.out,← HB.out];rfl,fr,fg⟩
 | true =>
 cases r2 with
 | false =>
  have ht2:tx=t++[10]∧p1=p:=(by
   have h:=HT2.out
   rw[if_neg (by simp)] at h
   exact⟨congrArg Prod.fst h,congrArg Prod.snd h⟩)
  obtain⟨rfl,rfl⟩:=ht2
  clear HT2
  have hMz:=(hM5).other 1 (.string ⟨(t++[10]).toArray⟩) HM5.out
  have hmz:=heap_setCell_same W5 M 1 _ _ (.string ⟨(t++[10]).toArray⟩) hm5
  have hj:((⟨t.toArray⟩:ByteArray)++(⟨#[10]⟩:ByteArray))=⟨(t++[10]).toArray⟩:=Zmw t [10]
  go_upto_region 17 with fail
  try rw[hj]
  clear m0 m1 mf hj
  generalize W5.setCell ⟨M,1,none⟩ (.string ⟨(t++[10]).toArray⟩)=Wz at hMz hmz ⊢
  have m0:Wz.cell? ⟨M,0,none⟩=some (.int .u8 32):=(by rw[Lib.cell_of_heap hmz];rfl)
  have m1:Wz.cell? ⟨M,1,none⟩=some (.string ⟨(t++[10]).toArray⟩):=(by rw[Lib.cell_of_heap hmz];rfl)
  clear hmz
  obtain⟨y0,y1,yf⟩:=hMz.cells
  have yf0:=yf 0
  have yf1:=yf 1
  obtain⟨fh,fr,fg⟩:=hMz.fin 32 (t++[10])
  clear hMz yf
  go_wp2
  exact bodyPost_ret (ZqC rfl _ _ w.heap.size 47 #[.int .u8 32,.string ⟨(t++[10]).toArray⟩] (0,0) _ rfl fh Tryz.underlying47 rfl (by kernel_rfl)) rfl ⟨by rw[← HA.out,← HB.out];rfl,fr,fg⟩
 | true =>
 cases j6:t.isEmpty with
 | true =>
  have j5:(t == [])=true:=(by rw[beq_iff_eq];exact List.isEmpty_iff.1 j6)
  have ht2:tx=t++[10]∧p1=p:=(by
   have h:=HT2.out
   rw[if_neg (by rw[j6];simp)] at h
   exact⟨congrArg Prod.fst h,congrArg Prod.snd h⟩)
  obtain⟨rfl,rfl⟩:=ht2
  clear HT2
  have hMz:=(hM5).other 1 (.string ⟨(t++[10]).toArray⟩) HM5.out
  have hmz:=heap_setCell_same W5 M 1 _ _ (.string ⟨(t++[10]).toArray⟩) hm5
  have hj:((⟨t.toArray⟩:ByteArray)++(⟨#[10]⟩:ByteArray))=⟨(t++[10]).toArray⟩:=Zmw t [10]
  go_upto_region 17 with fail
  try rw[hj]
  clear m0 m1 mf hj
  generalize W5.setCell ⟨M,1,none⟩ (.string ⟨(t++[10]).toArray⟩)=Wz at hMz hmz ⊢
  have m0:Wz.cell? ⟨M,0,none⟩=some (.int .u8 32):=(by rw[Lib.cell_of_heap hmz];rfl)
  have m1:Wz.cell? ⟨M,1,none⟩=some (.string ⟨(t++[10]).toArray⟩):=(by rw[Lib.cell_of_heap hmz];rfl)
  clear hmz
  obtain⟨y0,y1,yf⟩:=hMz.cells
  have yf0:=yf 0
  have yf1:=yf 1
  obtain⟨fh,fr,fg⟩:=hMz.fin 32 (t++[10])
  clear hMz yf
  go_wp2
  exact bodyPost_ret (ZqC rfl _ _ w.heap.size 47 #[.int .u8 32,.string ⟨(t++[10]).toArray⟩] (0,0) _ rfl fh Tryz.underlying47 rfl (by kernel_rfl)) rfl ⟨by rw[← HA.out,← HB.out];rfl,fr,fg⟩
 | false =>
  have j5:(t == [])=false:=(by rw[beq_eq_false_iff_ne];intro h;rw[h] at j6;cases j6)
  rw[j6] at HT2
  go_wp2_with fail
  refine (Znt markT W5 hM5.rd (HLs.out W5 hM5.gr) hs (by decide) mk HMk).mono ?_
  rintro y9 v9 ⟨rfl,m9,rfl⟩
  have hM6:=hM5.low (below_drewN (Below.refl _ _) m9)
  have hm6:(W5.drewN m9).heap[M]?=_:=hm5
  generalize W5.drewN m9=W6 at hM6 hm6 ⊢
  clear m0 m1 mf hM5 hm5
  have m0:W6.cell? ⟨M,0,none⟩=some (.int .u8 32):=(by rw[Lib.cell_of_heap hm6];rfl)
  have m1:W6.cell? ⟨M,1,none⟩=some (.string ⟨t.toArray⟩):=(by rw[Lib.cell_of_heap hm6];rfl)
  have mf:=Lib.frozen_of_heap hm6 1
  cases mk with
  | false =>
  have ht2:tx=t++[10]∧p1=p:=(by
   have h:=HT2.out
   rw[if_neg (by simp)] at h
   exact⟨congrArg Prod.fst h,congrArg Prod.snd h⟩)
  obtain⟨rfl,rfl⟩:=ht2
  clear HT2
  have hMz:=(hM6).other 1 (.string ⟨(t++[10]).toArray⟩) HM5.out
  have hmz:=heap_setCell_same W6 M 1 _ _ (.string ⟨(t++[10]).toArray⟩) hm6
  have hj:((⟨t.toArray⟩:ByteArray)++(⟨#[10]⟩:ByteArray))=⟨(t++[10]).toArray⟩:=Zmw t [10]
  go_upto_region 17 with fail
  try rw[hj]
  clear m0 m1 mf hj
  generalize W6.setCell ⟨M,1,none⟩ (.string ⟨(t++[10]).toArray⟩)=Wz at hMz hmz ⊢
  have m0:Wz.cell? ⟨M,0,none⟩=some (.int .u8 32):=(by rw[Lib.cell_of_heap hmz];rfl)
  have m1:Wz.cell? ⟨M,1,none⟩=some (.string ⟨(t++[10]).toArray⟩):=(by rw[Lib.cell_of_heap hmz];rfl)
  clear hmz
  obtain⟨y0,y1,yf⟩:=hMz.cells
  have yf0:=yf 0
  have yf1:=yf 1
  obtain⟨fh,fr,fg⟩:=hMz.fin 32 (t++[10])
  clear hMz yf
  go_wp2
  exact bodyPost_ret (ZqC rfl _ _ w.heap.size 47 #[.int .u8 32,.string ⟨(t++[10]).toArray⟩] (0,0) _ rfl fh Tryz.underlying47 rfl (by kernel_rfl)) rfl ⟨by rw[← HA.out,← HB.out];rfl,fr,fg⟩
  | true =>
  have ht2:tx=t∧p1=p+1:=(by
   have h:=HT2.out
   rw[if_pos (by simp)] at h
   exact⟨congrArg Prod.fst h,congrArg Prod.snd h⟩)
  obtain⟨rfl,rfl⟩:=ht2
  clear HT2
  have qx:Rx W6 R (.slice lo L.length lc) (p:Int) 0 0:=hM6.rd
  obtain⟨_,d3,_,_⟩:=qx.cells
  have f3:=qx.frozen 1
  have hMz:Ml w R (.slice lo L.length lc) (.ok (p+1)) (W6.setCell ⟨R,1,none⟩ (.int .i64 ((p:Int)+1))):=hM6.call (ZdS W6 R 1 _) (by have:=qx.at ((p:Int)+1);show Rx _ _ _ _ _ _;simpa using this)
  have hmz:(W6.setCell ⟨R,1,none⟩ (.int .i64 ((p:Int)+1))).heap[M]?=_:=(Below.heap_setCell _ _ _ _ (by show M≠R;have:=hM6.rl;have:=HM5.out;omega)).trans hm6
  go_upto_region 17 with fail
  clear m0 m1 mf qx d3 f3 hM6 hm6
  generalize W6.setCell ⟨R,1,none⟩ (.int .i64 ((p:Int)+1))=Wz at hMz hmz ⊢
  have m0:Wz.cell? ⟨M,0,none⟩=some (.int .u8 32):=(by rw[Lib.cell_of_heap hmz];rfl)
  have m1:Wz.cell? ⟨M,1,none⟩=some (.string ⟨tx.toArray⟩):=(by rw[Lib.cell_of_heap hmz];rfl)
  clear hmz
  obtain⟨y0,y1,yf⟩:=hMz.cells
  have yf0:=yf 0
  have yf1:=yf 1
  obtain⟨fh,fr,fg⟩:=hMz.fin 32 (tx)
  clear hMz yf
  go_wp2
  exact bodyPost_ret (ZqC rfl _ _ w.heap.size 47 #[.int .u8 32,.string ⟨(tx).toArray⟩] (0,0) _ rfl fh Tryz.underlying47 rfl (by kernel_rfl)) rfl ⟨by rw[← HA.out,← HB.out];rfl,fr,fg⟩
theorem ZqY {R:Nat} {L:List (List UInt8)} {lo:Option Addr} {lc p:Nat} (a b:Nat) (t:List UInt8) (w W0:World) (hW0:w.alloc (.cells #[.int .u8 0,.string ⟨#[]⟩] 47)=W0) (HLs:Hid (∀ u,w.grownBy u (some R)→HS u (.slice lo L.length lc) L)) (hp:p≤1099511627776) (hs:∀ s∈L,s.length≤1099511627776) (ht:t.length≤1099511627776) (h1:1≤a) (ha:a≤2147483647) (hb:b≤2147483647) (mk:Bool) (HMk:Hid (pkZ markT L (.ok p)=mk)) (tx:List UInt8) (p1:Nat) (HT:Hid ((tx,p1)=if ((a-1 == 0) && (!t.isEmpty && mk))=true then (t,p+1) else (t++[10],p)))
  (hn:Calls Tryz.prog 100 #[.pointer (some ⟨R,0,none⟩)] W0 fun x w'=>x=.returned (.string ⟨((45:UInt8)::t).toArray⟩)∧Ml w R (.slice lo L.length lc) (.ok p) w') :
  Calls Tryz.prog 103 #[.pointer (some ⟨R,0,none⟩),.int .i64 (a:Int),.int .i64 (b:Int)] w fun e w'=>e=.returned (.tuple #[.agg #[.int .u8 45,.string ⟨tx.toArray⟩],.int .i64 ((a-1:Nat):Int),.int .i64 (b:Int)])∧RdZ w' R (.slice lo L.length lc) (.ok p1)∧w.grownBy w' (some R):=by
 go_enter Tryz.func103,Tryz.ntmps103
 go_wp2_with fail
 refine hn.mono ?_
 rintro x w1 ⟨rfl,q1⟩
 clear hn hW0
 have j1:(0:Int)<(t.length:Int)+1:=by omega
 have j2:(1:Int)≤(t.length:Int)+1:=by omega
 go_upto_region 5 with fail
 have hB5:Below w1.heap.size w1 (w1.alloc (.cells #[.int .u8 45,.string ⟨t.toArray⟩] 47)).drew:=((Below.refl _ w1).alloc (Nat.le_refl _) _).drew
 have hM5:=q1.low hB5
 have hm5:(w1.alloc (.cells #[.int .u8 45,.string ⟨t.toArray⟩] 47)).drew.heap[w1.heap.size]?=some (.cells #[.int .u8 45,.string ⟨t.toArray⟩] 47):=heap_alloc_new w1 _
 have HM5:Hid (w.heap.size<w1.heap.size):=(Array.getElem?_eq_some_iff.1 q1.b0).1
 go_region
 clear hB5 q1
 generalize (w1.alloc (.cells #[.int .u8 45,.string ⟨t.toArray⟩] 47)).drew=W5 at hM5 hm5 ⊢
 generalize w1.heap.size=M at HM5 hm5 ⊢
 have m0:W5.cell? ⟨M,0,none⟩=some (.int .u8 45):=(by rw[Lib.cell_of_heap hm5];rfl)
 have m1:W5.cell? ⟨M,1,none⟩=some (.string ⟨t.toArray⟩):=(by rw[Lib.cell_of_heap hm5];rfl)
 have mf:=Lib.frozen_of_heap hm5 1
 go_upto_region 10 with fail
 generalize hva:(a:Int)-1=va
 have HA:Hid (va=((a-1:Nat):Int)):=(by show _=_;omega)
 have d1:decide (va<0)=false:=decide_eq_false (by omega)
 have d2:decide ((b:Int)<0)=false:=decide_eq_false (by omega)
 have HE1:Hid ((va == 0)=(a-1 == 0)):=(by show _=_;rw[Bool.eq_iff_iff,beq_iff_eq,beq_iff_eq];omega)
 clear hva
 obtain⟨r1,hr1⟩:∃ r,(a-1 == 0)=r:=⟨_,rfl⟩
 have e1:(va == 0)=r1:=HE1.out.trans hr1
 have HT2:Hid ((tx,p1)=if (r1 && (!t.isEmpty && mk))=true then (t,p+1) else (t++[10],p)):=(by
  show _=_
  rw[← hr1]
  exact HT.out)
 clear HT hr1 HE1 h1 
 cases r1 with
 | false =>
  have ht2:tx=t++[10]∧p1=p:=(by
   have h:=HT2.out
   rw[if_neg (by simp)] at h
   exact⟨congrArg Prod.fst h,congrArg Prod.snd h⟩)
  obtain⟨rfl,rfl⟩:=ht2
  clear HT2
  have hMz:=(hM5).other 1 (.string ⟨(t++[10]).toArray⟩) HM5.out
  have hmz:=heap_setCell_same W5 M 1 _ _ (.string ⟨(t++[10]).toArray⟩) hm5
  have hj:((⟨t.toArray⟩:ByteArray)++(⟨#[10]⟩:ByteArray))=⟨(t++[10]).toArray⟩:=Zmw t [10]
  go_upto_region 17 with fail
  try rw[hj]
  clear m0 m1 mf hj
  generalize W5.setCell ⟨M,1,none⟩ (.string ⟨(t++[10]).toArray⟩)=Wz at hMz hmz ⊢
  have m0:Wz.cell? ⟨M,0,none⟩=some (.int .u8 45):=(by rw[Lib.cell_of_heap hmz];rfl)
  have m1:Wz.cell? ⟨M,1,none⟩=some (.string ⟨(t++[10]).toArray⟩):=(by rw[Lib.cell_of_heap hmz];rfl)
  clear hmz
  obtain⟨y0,y1,yf⟩:=hMz.cells
  have yf0:=yf 0
  have yf1:=yf 1
  obtain⟨fh,fr,fg⟩:=hMz.fin 45 (t++[10])
  clear hMz yf
  go_wp2
  exact bodyPost_ret (ZqC rfl _ _ w.heap.size 47 #[.int .u8 45,.string ⟨(t++[10]).toArray⟩] (0,0) _ rfl fh Tryz.underlying47 rfl (by kernel_rfl)) rfl ⟨by rw[← HA.out];rfl,fr,fg⟩
 | true =>
 cases j6:t.isEmpty with
 | true =>
  have j5:(t == [])=true:=(by rw[beq_iff_eq];exact List.isEmpty_iff.1 j6)
  have ht2:tx=t++[10]∧p1=p:=(by
   have h:=HT2.out
   rw[if_neg (by rw[j6];simp)] at h
   exact⟨congrArg Prod.fst h,congrArg Prod.snd h⟩)
  obtain⟨rfl,rfl⟩:=ht2
  clear HT2
  have hMz:=(hM5).other 1 (.string ⟨(t++[10]).toArray⟩) HM5.out
  have hmz:=heap_setCell_same W5 M 1 _ _ (.string ⟨(t++[10]).toArray⟩) hm5
  have hj:((⟨t.toArray⟩:ByteArray)++(⟨#[10]⟩:ByteArray))=⟨(t++[10]).toArray⟩:=Zmw t [10]
  go_upto_region 17 with fail
  try rw[hj]
  clear m0 m1 mf hj
  generalize W5.setCell ⟨M,1,none⟩ (.string ⟨(t++[10]).toArray⟩)=Wz at hMz hmz ⊢
  have m0:Wz.cell? ⟨M,0,none⟩=some (.int .u8 45):=(by rw[Lib.cell_of_heap hmz];rfl)
  have m1:Wz.cell? ⟨M,1,none⟩=some (.string ⟨(t++[10]).toArray⟩):=(by rw[Lib.cell_of_heap hmz];rfl)
  clear hmz
  obtain⟨y0,y1,yf⟩:=hMz.cells
  have yf0:=yf 0
  have yf1:=yf 1
  obtain⟨fh,fr,fg⟩:=hMz.fin 45 (t++[10])
  clear hMz yf
  go_wp2
  exact bodyPost_ret (ZqC rfl _ _ w.heap.size 47 #[.int .u8 45,.string ⟨(t++[10]).toArray⟩] (0,0) _ rfl fh Tryz.underlying47 rfl (by kernel_rfl)) rfl ⟨by rw[← HA.out];rfl,fr,fg⟩
 | false =>
  have j5:(t == [])=false:=(by rw[beq_eq_false_iff_ne];intro h;rw[h] at j6;cases j6)
  rw[j6] at HT2
  go_wp2_with fail
  refine (Znt markT W5 hM5.rd (HLs.out W5 hM5.gr) hs (by decide) mk HMk).mono ?_
  rintro y9 v9 ⟨rfl,m9,rfl⟩
  have hM6:=hM5.low (below_drewN (Below.refl _ _) m9)
  have hm6:(W5.drewN m9).heap[M]?=_:=hm5
  generalize W5.drewN m9=W6 at hM6 hm6 ⊢
  clear m0 m1 mf hM5 hm5
  have m0:W6.cell? ⟨M,0,none⟩=some (.int .u8 45):=(by rw[Lib.cell_of_heap hm6];rfl)
  have m1:W6.cell? ⟨M,1,none⟩=some (.string ⟨t.toArray⟩):=(by rw[Lib.cell_of_heap hm6];rfl)
  have mf:=Lib.frozen_of_heap hm6 1
  cases mk with
  | false =>
  have ht2:tx=t++[10]∧p1=p:=(by
   have h:=HT2.out
   rw[if_neg (by simp)] at h
   exact⟨congrArg Prod.fst h,congrArg Prod.snd h⟩)
  obtain⟨rfl,rfl⟩:=ht2
  clear HT2
  have hMz:=(hM6).other 1 (.string ⟨(t++[10]).toArray⟩) HM5.out
  have hmz:=heap_setCell_same W6 M 1 _ _ (.string ⟨(t++[10]).toArray⟩) hm6
  have hj:((⟨t.toArray⟩:ByteArray)++(⟨#[10]⟩:ByteArray))=⟨(t++[10]).toArray⟩:=Zmw t [10]
  go_upto_region 17 with fail
  try rw[hj]
  clear m0 m1 mf hj
  generalize W6.setCell ⟨M,1,none⟩ (.string ⟨(t++[10]).toArray⟩)=Wz at hMz hmz ⊢
  have m0:Wz.cell? ⟨M,0,none⟩=some (.int .u8 45):=(by rw[Lib.cell_of_heap hmz];rfl)
  have m1:Wz.cell? ⟨M,1,none⟩=some (.string ⟨(t++[10]).toArray⟩):=(by rw[Lib.cell_of_heap hmz];rfl)
  clear hmz
  obtain⟨y0,y1,yf⟩:=hMz.cells
  have yf0:=yf 0
  have yf1:=yf 1
  obtain⟨fh,fr,fg⟩:=hMz.fin 45 (t++[10])
  clear hMz yf
  go_wp2
  exact bodyPost_ret (ZqC rfl _ _ w.heap.size 47 #[.int .u8 45,.string ⟨(t++[10]).toArray⟩] (0,0) _ rfl fh Tryz.underlying47 rfl (by kernel_rfl)) rfl ⟨by rw[← HA.out];rfl,fr,fg⟩
  | true =>
  have ht2:tx=t∧p1=p+1:=(by
   have h:=HT2.out
   rw[if_pos (by simp)] at h
   exact⟨congrArg Prod.fst h,congrArg Prod.snd h⟩)
  obtain⟨rfl,rfl⟩:=ht2
  clear HT2
  have qx:Rx W6 R (.slice lo L.length lc) (p:Int) 0 0:=hM6.rd
  obtain⟨_,d3,_,_⟩:=qx.cells
  have f3:=qx.frozen 1
  have hMz:Ml w R (.slice lo L.length lc) (.ok (p+1)) (W6.setCell ⟨R,1,none⟩ (.int .i64 ((p:Int)+1))):=hM6.call (ZdS W6 R 1 _) (by have:=qx.at ((p:Int)+1);show Rx _ _ _ _ _ _;simpa using this)
  have hmz:(W6.setCell ⟨R,1,none⟩ (.int .i64 ((p:Int)+1))).heap[M]?=_:=(Below.heap_setCell _ _ _ _ (by show M≠R;have:=hM6.rl;have:=HM5.out;omega)).trans hm6
  go_upto_region 17 with fail
  clear m0 m1 mf qx d3 f3 hM6 hm6
  generalize W6.setCell ⟨R,1,none⟩ (.int .i64 ((p:Int)+1))=Wz at hMz hmz ⊢
  have m0:Wz.cell? ⟨M,0,none⟩=some (.int .u8 45):=(by rw[Lib.cell_of_heap hmz];rfl)
  have m1:Wz.cell? ⟨M,1,none⟩=some (.string ⟨tx.toArray⟩):=(by rw[Lib.cell_of_heap hmz];rfl)
  clear hmz
  obtain⟨y0,y1,yf⟩:=hMz.cells
  have yf0:=yf 0
  have yf1:=yf 1
  obtain⟨fh,fr,fg⟩:=hMz.fin 45 (tx)
  clear hMz yf
  go_wp2
  exact bodyPost_ret (ZqC rfl _ _ w.heap.size 47 #[.int .u8 45,.string ⟨(tx).toArray⟩] (0,0) _ rfl fh Tryz.underlying47 rfl (by kernel_rfl)) rfl ⟨by rw[← HA.out];rfl,fr,fg⟩
theorem ZqX {R:Nat} {L:List (List UInt8)} {lo:Option Addr} {lc p:Nat} (a b:Nat) (t:List UInt8) (w W0:World) (hW0:w.alloc (.cells #[.int .u8 0,.string ⟨#[]⟩] 47)=W0) (HLs:Hid (∀ u,w.grownBy u (some R)→HS u (.slice lo L.length lc) L)) (hp:p≤1099511627776) (hs:∀ s∈L,s.length≤1099511627776) (ht:t.length≤1099511627776) (h2:1≤b) (ha:a≤2147483647) (hb:b≤2147483647) (mk:Bool) (HMk:Hid (pkZ markT L (.ok p)=mk)) (tx:List UInt8) (p1:Nat) (HT:Hid ((tx,p1)=if ((b-1 == 0) && (!t.isEmpty && mk))=true then (t,p+1) else (t++[10],p)))
  (hn:Calls Tryz.prog 100 #[.pointer (some ⟨R,0,none⟩)] W0 fun x w'=>x=.returned (.string ⟨((43:UInt8)::t).toArray⟩)∧Ml w R (.slice lo L.length lc) (.ok p) w') :
  Calls Tryz.prog 103 #[.pointer (some ⟨R,0,none⟩),.int .i64 (a:Int),.int .i64 (b:Int)] w fun e w'=>e=.returned (.tuple #[.agg #[.int .u8 43,.string ⟨tx.toArray⟩],.int .i64 (a:Int),.int .i64 ((b-1:Nat):Int)])∧RdZ w' R (.slice lo L.length lc) (.ok p1)∧w.grownBy w' (some R):=by
 go_enter Tryz.func103,Tryz.ntmps103
 go_wp2_with fail
 refine hn.mono ?_
 rintro x w1 ⟨rfl,q1⟩
 clear hn hW0
 have j1:(0:Int)<(t.length:Int)+1:=by omega
 have j2:(1:Int)≤(t.length:Int)+1:=by omega
 go_upto_region 5 with fail
 have hB5:Below w1.heap.size w1 (w1.alloc (.cells #[.int .u8 43,.string ⟨t.toArray⟩] 47)).drew:=((Below.refl _ w1).alloc (Nat.le_refl _) _).drew
 have hM5:=q1.low hB5
 have hm5:(w1.alloc (.cells #[.int .u8 43,.string ⟨t.toArray⟩] 47)).drew.heap[w1.heap.size]?=some (.cells #[.int .u8 43,.string ⟨t.toArray⟩] 47):=heap_alloc_new w1 _
 have HM5:Hid (w.heap.size<w1.heap.size):=(Array.getElem?_eq_some_iff.1 q1.b0).1
 go_region
 clear hB5 q1
 generalize (w1.alloc (.cells #[.int .u8 43,.string ⟨t.toArray⟩] 47)).drew=W5 at hM5 hm5 ⊢
 generalize w1.heap.size=M at HM5 hm5 ⊢
 have m0:W5.cell? ⟨M,0,none⟩=some (.int .u8 43):=(by rw[Lib.cell_of_heap hm5];rfl)
 have m1:W5.cell? ⟨M,1,none⟩=some (.string ⟨t.toArray⟩):=(by rw[Lib.cell_of_heap hm5];rfl)
 have mf:=Lib.frozen_of_heap hm5 1
 go_upto_region 10 with fail
 generalize hvb:(b:Int)-1=vb
 have HB:Hid (vb=((b-1:Nat):Int)):=(by show _=_;omega)
 have d1:decide ((a:Int)<0)=false:=decide_eq_false (by omega)
 have d2:decide (vb<0)=false:=decide_eq_false (by omega)
 have HE2:Hid ((vb == 0)=(b-1 == 0)):=(by show _=_;rw[Bool.eq_iff_iff,beq_iff_eq,beq_iff_eq];omega)
 clear hvb
 obtain⟨r2,hr2⟩:∃ r,(b-1 == 0)=r:=⟨_,rfl⟩
 have e2:(vb == 0)=r2:=HE2.out.trans hr2
 have HT2:Hid ((tx,p1)=if (r2 && (!t.isEmpty && mk))=true then (t,p+1) else (t++[10],p)):=(by
  show _=_
  rw[← hr2]
  exact HT.out)
 clear HT hr2 HE2 h2 
 cases r2 with
 | false =>
  have ht2:tx=t++[10]∧p1=p:=(by
   have h:=HT2.out
   rw[if_neg (by simp)] at h
   exact⟨congrArg Prod.fst h,congrArg Prod.snd h⟩)
  obtain⟨rfl,rfl⟩:=ht2
  clear HT2
  have hMz:=(hM5).other 1 (.string ⟨(t++[10]).toArray⟩) HM5.out
  have hmz:=heap_setCell_same W5 M 1 _ _ (.string ⟨(t++[10]).toArray⟩) hm5
  have hj:((⟨t.toArray⟩:ByteArray)++(⟨#[10]⟩:ByteArray))=⟨(t++[10]).toArray⟩:=Zmw t [10]
  go_upto_region 17 with fail
  try rw[hj]
  clear m0 m1 mf hj
  generalize W5.setCell ⟨M,1,none⟩ (.string ⟨(t++[10]).toArray⟩)=Wz at hMz hmz ⊢
  have m0:Wz.cell? ⟨M,0,none⟩=some (.int .u8 43):=(by rw[Lib.cell_of_heap hmz];rfl)
  have m1:Wz.cell? ⟨M,1,none⟩=some (.string ⟨(t++[10]).toArray⟩):=(by rw[Lib.cell_of_heap hmz];rfl)
  clear hmz
  obtain⟨y0,y1,yf⟩:=hMz.cells
  have yf0:=yf 0
  have yf1:=yf 1
  obtain⟨fh,fr,fg⟩:=hMz.fin 43 (t++[10])
  clear hMz yf
  go_wp2
  exact bodyPost_ret (ZqC rfl _ _ w.heap.size 47 #[.int .u8 43,.string ⟨(t++[10]).toArray⟩] (0,0) _ rfl fh Tryz.underlying47 rfl (by kernel_rfl)) rfl ⟨by rw[← HB.out];rfl,fr,fg⟩
 | true =>
 cases j6:t.isEmpty with
 | true =>
  have j5:(t == [])=true:=(by rw[beq_iff_eq];exact List.isEmpty_iff.1 j6)
  have ht2:tx=t++[10]∧p1=p:=(by
   have h:=HT2.out
   rw[if_neg (by rw[j6];simp)] at h
   exact⟨congrArg Prod.fst h,congrArg Prod.snd h⟩)
  obtain⟨rfl,rfl⟩:=ht2
  clear HT2
  have hMz:=(hM5).other 1 (.string ⟨(t++[10]).toArray⟩) HM5.out
  have hmz:=heap_setCell_same W5 M 1 _ _ (.string ⟨(t++[10]).toArray⟩) hm5
  have hj:((⟨t.toArray⟩:ByteArray)++(⟨#[10]⟩:ByteArray))=⟨(t++[10]).toArray⟩:=Zmw t [10]
  go_upto_region 17 with fail
  try rw[hj]
  clear m0 m1 mf hj
  generalize W5.setCell ⟨M,1,none⟩ (.string ⟨(t++[10]).toArray⟩)=Wz at hMz hmz ⊢
  have m0:Wz.cell? ⟨M,0,none⟩=some (.int .u8 43):=(by rw[Lib.cell_of_heap hmz];rfl)
  have m1:Wz.cell? ⟨M,1,none⟩=some (.string ⟨(t++[10]).toArray⟩):=(by rw[Lib.cell_of_heap hmz];rfl)
  clear hmz
  obtain⟨y0,y1,yf⟩:=hMz.cells
  have yf0:=yf 0
  have yf1:=yf 1
  obtain⟨fh,fr,fg⟩:=hMz.fin 43 (t++[10])
  clear hMz yf
  go_wp2
  exact bodyPost_ret (ZqC rfl _ _ w.heap.size 47 #[.int .u8 43,.string ⟨(t++[10]).toArray⟩] (0,0) _ rfl fh Tryz.underlying47 rfl (by kernel_rfl)) rfl ⟨by rw[← HB.out];rfl,fr,fg⟩
 | false =>
  have j5:(t == [])=false:=(by rw[beq_eq_false_iff_ne];intro h;rw[h] at j6;cases j6)
  rw[j6] at HT2
  go_wp2_with fail
  refine (Znt markT W5 hM5.rd (HLs.out W5 hM5.gr) hs (by decide) mk HMk).mono ?_
  rintro y9 v9 ⟨rfl,m9,rfl⟩
  have hM6:=hM5.low (below_drewN (Below.refl _ _) m9)
  have hm6:(W5.drewN m9).heap[M]?=_:=hm5
  generalize W5.drewN m9=W6 at hM6 hm6 ⊢
  clear m0 m1 mf hM5 hm5
  have m0:W6.cell? ⟨M,0,none⟩=some (.int .u8 43):=(by rw[Lib.cell_of_heap hm6];rfl)
  have m1:W6.cell? ⟨M,1,none⟩=some (.string ⟨t.toArray⟩):=(by rw[Lib.cell_of_heap hm6];rfl)
  have mf:=Lib.frozen_of_heap hm6 1
  cases mk with
  | false =>
  have ht2:tx=t++[10]∧p1=p:=(by
   have h:=HT2.out
   rw[if_neg (by simp)] at h
   exact⟨congrArg Prod.fst h,congrArg Prod.snd h⟩)
  obtain⟨rfl,rfl⟩:=ht2
  clear HT2
  have hMz:=(hM6).other 1 (.string ⟨(t++[10]).toArray⟩) HM5.out
  have hmz:=heap_setCell_same W6 M 1 _ _ (.string ⟨(t++[10]).toArray⟩) hm6
  have hj:((⟨t.toArray⟩:ByteArray)++(⟨#[10]⟩:ByteArray))=⟨(t++[10]).toArray⟩:=Zmw t [10]
  go_upto_region 17 with fail
  try rw[hj]
  clear m0 m1 mf hj
  generalize W6.setCell ⟨M,1,none⟩ (.string ⟨(t++[10]).toArray⟩)=Wz at hMz hmz ⊢
  have m0:Wz.cell? ⟨M,0,none⟩=some (.int .u8 43):=(by rw[Lib.cell_of_heap hmz];rfl)
  have m1:Wz.cell? ⟨M,1,none⟩=some (.string ⟨(t++[10]).toArray⟩):=(by rw[Lib.cell_of_heap hmz];rfl)
  clear hmz
  obtain⟨y0,y1,yf⟩:=hMz.cells
  have yf0:=yf 0
  have yf1:=yf 1
  obtain⟨fh,fr,fg⟩:=hMz.fin 43 (t++[10])
  clear hMz yf
  go_wp2
  exact bodyPost_ret (ZqC rfl _ _ w.heap.size 47 #[.int .u8 43,.string ⟨(t++[10]).toArray⟩] (0,0) _ rfl fh Tryz.underlying47 rfl (by kernel_rfl)) rfl ⟨by rw[← HB.out];rfl,fr,fg⟩
  | true =>
  have ht2:tx=t∧p1=p+1:=(by
   have h:=HT2.out
   rw[if_pos (by simp)] at h
   exact⟨congrArg Prod.fst h,congrArg Prod.snd h⟩)
  obtain⟨rfl,rfl⟩:=ht2
  clear HT2
  have qx:Rx W6 R (.slice lo L.length lc) (p:Int) 0 0:=hM6.rd
  obtain⟨_,d3,_,_⟩:=qx.cells
  have f3:=qx.frozen 1
  have hMz:Ml w R (.slice lo L.length lc) (.ok (p+1)) (W6.setCell ⟨R,1,none⟩ (.int .i64 ((p:Int)+1))):=hM6.call (ZdS W6 R 1 _) (by have:=qx.at ((p:Int)+1);show Rx _ _ _ _ _ _;simpa using this)
  have hmz:(W6.setCell ⟨R,1,none⟩ (.int .i64 ((p:Int)+1))).heap[M]?=_:=(Below.heap_setCell _ _ _ _ (by show M≠R;have:=hM6.rl;have:=HM5.out;omega)).trans hm6
  go_upto_region 17 with fail
  clear m0 m1 mf qx d3 f3 hM6 hm6
  generalize W6.setCell ⟨R,1,none⟩ (.int .i64 ((p:Int)+1))=Wz at hMz hmz ⊢
  have m0:Wz.cell? ⟨M,0,none⟩=some (.int .u8 43):=(by rw[Lib.cell_of_heap hmz];rfl)
  have m1:Wz.cell? ⟨M,1,none⟩=some (.string ⟨tx.toArray⟩):=(by rw[Lib.cell_of_heap hmz];rfl)
  clear hmz
  obtain⟨y0,y1,yf⟩:=hMz.cells
  have yf0:=yf 0
  have yf1:=yf 1
  obtain⟨fh,fr,fg⟩:=hMz.fin 43 (tx)
  clear hMz yf
  go_wp2
  exact bodyPost_ret (ZqC rfl _ _ w.heap.size 47 #[.int .u8 43,.string ⟨(tx).toArray⟩] (0,0) _ rfl fh Tryz.underlying47 rfl (by kernel_rfl)) rfl ⟨by rw[← HB.out];rfl,fr,fg⟩
end

section
open Go.RowKit Go.Proofs.YtcniomgjikienaaGreatDoor.Tx
def thenM (l:List Mk) (X:Except (Nat × Int) (List Mk × Nat × List (List UInt8))):Except (Nat × Int) (List Mk × Nat × List (List UInt8)) :=
 match X with
 | .error e=>.error e
 | .ok (m,p,r)=>.ok (l++m,p,r)
theorem ZkN (X:Except (Nat × Int) (List Mk × Nat × List (List UInt8))):thenM [] X=X:=by
 rcases X with e | ⟨l,p,r⟩<;>rfl
theorem ZlQ (n:Nat) {a b:Nat} (h:a+b=0) (p:Nat) (ls:List (List UInt8)) (l:List Mk):thenM l (urdP n a b p ls)=.ok (l,p,ls):=by
 cases n with
 | zero=>simp[urdP,thenM]
 | succ n =>
  simp only[urdP]
  rw[if_pos h]
  simp[thenM]
theorem ZlT (n:Nat) {a b:Nat} (h:¬ a+b=0) (p:Nat) (ls:List (List UInt8)) (l:List Mk):thenM l (urdP (n+1) a b p ls)=match ulnP a b p ls with
  | .error e=>.error e
  | .ok (m,p1,r)=>thenM (l++[m]) (urdP n (a-sgO m) (b-sgN m) p1 r):=by
 simp only[urdP]
 rw[if_neg h]
 cases ulnP a b p ls with
 | error e=>rfl
 | ok z =>
  obtain⟨m,p1,r⟩:=z
  dsimp only
  cases urdP n (a-sgO m) (b-sgN m) p1 r with
  | error e=>rfl
  | ok z=>simp[thenM]
theorem Zlw {a b p p1:Nat} {L r:List (List UInt8)} {m:Mk} (hP:Plain L) (h:ulnP a b p (L.drop p)=.ok (m,p1,r)):r=L.drop p1∧p<p1∧p1≤L.length∧sgO m≤a∧sgN m≤b∧1≤sgO m+sgN m:=by
 have hP2:Plain (L.drop p):=fun s hs=>hP s (List.mem_of_mem_drop hs)
 obtain⟨_,a2,a3,a4,_,_,a7,a8⟩:=Zlx hP2 h
 have hs:1≤sgO m+sgN m:=by
  unfold sgO sgN
  by_cases e:m.sg=43
  ·rw[if_neg (by omega:¬ m.sg=45)]
   omega
  ·rw[if_neg e]
   omega
 have hr:r=L.drop p1:=by
  unfold ulnP at h
  split at h
  ·cases h
  ·cases h
  ·rename_i c t r0 hn
   obtain⟨h1,_⟩:=Zhr hn
   split at h
   ·split at h
    ·cases h
     rw[h1,List.tail_drop]
    ·cases h
     exact h1
   ·cases h
 rw[List.length_drop] at a7 a8
 refine⟨hr,by omega,?_,a3,a4,hs⟩
 by_cases hp:p≤L.length
 ·omega
 ·omega
def ukN (u:World) (R:Nat):Nat:=match u.cell? ⟨R,1,none⟩ with
 | some v=>(intOf v).toNat
 | none=>0
theorem Zlr {u:World} {R:Nat} {vL:Value} {p:Nat} (h:Uk u R vL (p:Int)):ukN u R=p:=by
 unfold ukN
 rw[h.cells.2]
 simp[intOf]
structure Uz (w:World) (R T C:Nat) (vL:Value) (A AN B BN:Int) (v:Value) (l:List Mk) (a b p:Nat) (u:World):Prop where
 gr:w.grownBy u (some R)
 bg:Hx u w.heap.size zhk (.slice none 0 0)
 bh:Hx u T ⟨A,AN,B,BN,l⟩ v
 bl:u.heap[C]?=some (ctO a b)
 own:u.ownsRow w.heap.size 47 2 v l.length (mkcells l)
 ck:Uk u R vL (p:Int)
 tl:w.heap.size<T
 cl:T<C
 rl:R<w.heap.size
section
variable {w u u':World} {R T C:Nat} {vL v:Value} {A AN B BN:Int} {l:List Mk} {a b p p':Nat}
theorem Uz.keep (h:Uz w R T C vL A AN B BN v l a b p u) (hb:Below u.heap.size u u'):Uz w R T C vL A AN B BN v l a b p u' :=
 ⟨ZdT h.gr (ZfO hb _),h.bg.low hb,h.bh.low hb,(hb.block _ (Array.getElem?_eq_some_iff.1 h.bl).1).trans h.bl,ZhK h.own hb,h.ck.low hb,h.tl,h.cl,h.rl⟩
theorem Uz.call (h:Uz w R T C vL A AN B BN v l a b p u) (hg:u.grownBy u' (some R)) (q:Uk u' R vL (p':Int)):Uz w R T C vL A AN B BN v l a b p' u':=by
 have h1:=h.tl
 have h2:=h.cl
 have h3:=h.rl
 exact⟨ZdT h.gr hg,h.bg.keep hg (fun e=>by have:=Option.some.inj e;omega),h.bh.keep hg (fun e=>by have:=Option.some.inj e;omega),(hg.block C (Array.getElem?_eq_some_iff.1 h.bl).1 (fun e=>by have:=Option.some.inj e;omega)).trans h.bl,ZhI h.own hg h.rl,q,h.tl,h.cl,h.rl⟩
theorem Uz.other (h:Uz w R T C vL A AN B BN v l a b p u) {S:Nat} {cs:Array Value} {t:TypeId} (hS:u.heap[S]?=some (.cells cs t)) (ht:47≠t∨v.ownBlock≠some S) (h0:C<S) (j:Nat) (z:Value):Uz w R T C vL A AN B BN v l a b p (u.setCell ⟨S,j,none⟩ z):=by
 have h1:=h.tl
 have h2:=h.cl
 have h3:=h.rl
 have hg:=ZdS u S j z
 refine⟨ZdR h.gr (by omega) j z,h.bg.keep hg (fun e=>by have:=Option.some.inj e;omega),h.bh.keep hg (fun e=>by have:=Option.some.inj e;omega),(Below.heap_setCell _ _ _ _ (show C≠S by omega)).trans h.bl,h.own.kept hg (.inr ?_),h.ck.keep hg (fun e=>by have:=Option.some.inj e;omega),h.tl,h.cl,h.rl⟩
 rcases ht with ht | ht
 ·exact ZhE h.own hS ht
 ·exact ht
theorem Uz.setA (h:Uz w R T C vL A AN B BN v l a b p u) (z:Nat):Uz w R T C vL A AN B BN v l z b p (u.setCell ⟨C,0,none⟩ (.int .i64 (z:Int))):=by
 have h1:=h.tl
 have h2:=h.cl
 have h3:=h.rl
 have hg:=ZdS u C 0 (.int .i64 (z:Int))
 exact⟨ZdR h.gr (by omega) 0 _,h.bg.keep hg (fun e=>by have:=Option.some.inj e;omega),h.bh.keep hg (fun e=>by have:=Option.some.inj e;omega),heap_setCell_same u C 0 _ _ _ h.bl,h.own.kept hg (.inr (ZhE h.own h.bl (by decide))),h.ck.keep hg (fun e=>by have:=Option.some.inj e;omega),h.tl,h.cl,h.rl⟩
theorem Uz.setB (h:Uz w R T C vL A AN B BN v l a b p u) (z:Nat):Uz w R T C vL A AN B BN v l a z p (u.setCell ⟨C,1,none⟩ (.int .i64 (z:Int))):=by
 have h1:=h.tl
 have h2:=h.cl
 have h3:=h.rl
 have hg:=ZdS u C 1 (.int .i64 (z:Int))
 exact⟨ZdR h.gr (by omega) 1 _,h.bg.keep hg (fun e=>by have:=Option.some.inj e;omega),h.bh.keep hg (fun e=>by have:=Option.some.inj e;omega),heap_setCell_same u C 1 _ _ _ h.bl,h.own.kept hg (.inr (ZhE h.own h.bl (by decide))),h.ck.keep hg (fun e=>by have:=Option.some.inj e;omega),h.tl,h.cl,h.rl⟩
theorem Uz.left (h:Uz w R T C vL A AN B BN v l a b p u):u.cell? ⟨C,0,none⟩=some (.int .i64 (a:Int))∧u.cell? ⟨C,1,none⟩=some (.int .i64 (b:Int))∧u.frozen? ⟨C,0,none⟩=false∧u.frozen? ⟨C,1,none⟩=false:=by
 have e:u.heap[C]?=some (.cells #[.int .i64 (a:Int),.int .i64 (b:Int)] 300):=h.bl
 exact⟨by rw[Lib.cell_of_heap e];rfl,by rw[Lib.cell_of_heap e];rfl,Lib.frozen_of_heap e 0,Lib.frozen_of_heap e 1⟩
theorem Uz.more (h:Uz w R T C vL A AN B BN v l a b p u) {m:Mk} {v':Value} (hg:u.grownBy u' v.ownBlock) (ho:u'.ownsRow w.heap.size 47 2 v' (l.length+1) (mkcells l++mkcells [m])) :
  Uz w R T C vL A AN B BN v' (l++[m]) a b p (u'.setCell ⟨T,4,none⟩ v')∧u'.cell? ⟨T,4,none⟩=some v∧u'.frozen? ⟨T,4,none⟩=false:=by
 have h1:=h.tl
 have h2:=h.cl
 have h3:=h.rl
 have hge:∀ j,v.ownBlock=some j→w.heap.size≤j:=fun j hj=>ZhJ h.own hj
 have kb:∀ (i:Nat) (cs:Array Value) (t:TypeId),47≠t→u.heap[i]?=some (.cells cs t)→u'.heap[i]?=some (.cells cs t):=fun i cs t ht hi=>(hg.block i (Array.getElem?_eq_some_iff.1 hi).1 (fun e=>ZhE h.own hi ht e.symm)).trans hi
 have bh:Hx u' T ⟨A,AN,B,BN,l⟩ v:=kb _ _ _ (by decide) h.bh
 have bg:Hx u' w.heap.size zhk (.slice none 0 0):=kb _ _ _ (by decide) h.bg
 have bl:u'.heap[C]?=some (ctO a b):=kb _ _ _ (by decide) h.bl
 have hgR:w.grownBy u' (some R):=⟨hg.os.trans h.gr.os,hg.tape.trans h.gr.tape,hg.output.trans h.gr.output,Nat.le_trans h.gr.size hg.size,fun k h1 h2=>(hg.block k (Nat.lt_of_lt_of_le h1 h.gr.size) (fun e=>by have:=hge k e.symm;omega)).trans (h.gr.block k h1 h2)⟩
 have hck:Uk u' R vL (p:Int):=h.ck.keep hg (fun e=>by have:=hge R e.symm;omega)
 have hg2:=ZdS u' T 4 v'
 refine⟨⟨ZdR hgR (by omega) 4 v',bg.keep hg2 (fun e=>by have:=Option.some.inj e;omega),heap_setCell_same u' T 4 _ _ v' bh,(Below.heap_setCell _ _ _ _ (show C≠T by omega)).trans bl,?_,hck.keep hg2 (fun e=>by have:=Option.some.inj e;omega),h.tl,h.cl,h.rl⟩,bh.cells.2.2.2.2,bh.frozen 4⟩
 rw[Zgl,List.length_append]
 exact ho.kept hg2 (.inr (ZhE ho bh (by decide)))
end
theorem ZhN {u:World} {B:Nat} {e:TypeId} {s:Nat} {v:Value} {n j:Nat} {xs:List Value} (h:u.ownsRow B e s v n xs) (hj:v.ownBlock=some j):j<u.heap.size:=by
 rcases h.2 with ⟨rfl,_⟩ | ⟨b,cap,cur,rfl,_,q3,_⟩
 ·cases hj
 ·have e1:b=j:=Option.some.inj hj
  rw[← e1]
  exact (Array.getElem?_eq_some_iff.1 q3).1
def outU (p:Nat) (A AN B BN:Int) (Y:Except (Nat × Int) (List Mk × Nat × List (List UInt8))):Except (Nat × Int) (Hk × Nat × List (List UInt8)) :=
 match Y with
 | .error e=>.error e
 | .ok (l,p1,r1)=>if smB l=true then .error (p+1,50) else .ok (⟨A,AN,B,BN,l⟩,p1,r1)
def HkY (R:Nat) (vL:Value) (X:Except (Nat × Int) (Hk × Nat × List (List UInt8))) (w:World) (e:Ending) (w':World):Prop :=
 match X with
 | .error (a,z)=>Thr (a:Int) z e w'∧w.grownBy w' (some R)
 | .ok (h,p1,_)=>∃ v',e=.returned (hkV h v')∧w'.ownsRow w.heap.size 47 2 v' h.ls.length (mkcells h.ls)∧Uk w' R vL (p1:Int)∧w.grownBy w' (some R)
theorem Zlp (m:Mk) (w:World):Calls Tryz.prog 246 #[.agg #[.int .u8 m.sg,.string ⟨m.tx.toArray⟩]] w fun e w'=>e=.returned (.bool (m.sg != 32))∧Below w.heap.size w w':=by
 have hBl:Below w.heap.size w (w.alloc (.cells #[.int .u8 m.sg,.string ⟨m.tx.toArray⟩] 47)):=(Below.refl _ w).alloc (Nat.le_refl _) _
 go_enter Tryz.func246,Tryz.ntmps246
 go_wp2
 go_ret
 exact⟨rfl,hBl⟩
theorem Zau (l:List Mk):(l.any fun m=>m.sg != 32)=!smB l:=by
 unfold smB
 induction l with
 | nil=>rfl
 | cons m l ih =>
  rw[List.any_cons,List.all_cons,ih]
  by_cases h:m.sg=32
  ·simp[h]
  ·simp[h]
end

section
open Go.RowKit Go.Proofs.YtcniomgjikienaaGreatDoor.Tx
attribute [local go_sem] ByteArray.extract_mk Zhc
theorem Zlo {R:Nat} {L:List (List UInt8)} {lo:Option Addr} {lc:Nat} {p k:Nat} (hk:k≤4096) (w:World) (q:Uk w R (.slice lo L.length lc) p) (HLs:Hid (∀ u,w.grownBy u (some R)→HS u (.slice lo L.length lc) L)) (HPl:Hid (Plain L)) (hp:p≤L.length) (hLl:L.length≤137438953472) (HSl:Hid (∀ s∈L,s.length≤1099511627)) (hm:Mxl w)
  (X:Except (Nat × Int) (Hk × Nat × List (List UInt8))) (HX:Hid (uhkP k p (L.drop p)=X)) :
  Calls Tryz.prog 206 #[.pointer (some ⟨R,0,none⟩),.int .i64 (k:Int)] w fun e w'=>HkY R (.slice lo L.length lc) X w e w':=by
 have hRl:=q.lt
 obtain⟨W0,hW0⟩:∃ u,w.alloc (hkO zhk (.slice none 0 0))=u:=⟨_,rfl⟩
 have hB0:Below w.heap.size w W0:=(by rw[← hW0];exact (Below.refl _ w).alloc (Nat.le_refl _) _)
 have hx0:Hx W0 w.heap.size zhk (.slice none 0 0):=(by rw[← hW0];exact Hx.new w _ _)
 have q0:=q.low hB0
 have hm0:=hm.low hB0
 have HG0:Hid (∀ u,W0.grownBy u (some R)→w.grownBy u (some R)):=fun u hu=>ZdT (ZfO hB0 _) hu
 have HL0:Hid (∀ u,W0.grownBy u (some R)→HS u (.slice lo L.length lc) L):=fun u hu=>HLs.out u (HG0.out u hu)
 obtain⟨Y,hY⟩:∃ Y,uheadP k p (L.drop p)=Y:=⟨_,rfl⟩
 have hl:=Zlf hk W0 q0 HL0 hp (by omega) HSl hm0 Y hY
 have hX:=HX.out
 rw[Zlg,hY] at hX
 clear HX hm hm0
 unfold hkO zhk at hW0
 dsimp only at hW0
 cases Y with
 | error z =>
  obtain⟨z1,e1⟩:=z
  dsimp only at hX
  subst hX
  go_enter Tryz.func206,Tryz.ntmps206
  go_wp2_with fail
  refine hl.mono ?_
  rintro x w1 ⟨⟨g,rfl,hg⟩,hgr⟩
  go_wp2
  exact⟨rfl,⟨_,rfl,hg⟩,HG0.out _ hgr⟩
 | ok z =>
  obtain⟨⟨A,AN,B,BN⟩,r⟩:=z
  dsimp only at hX
  have hd:0≤AN∧AN≤2147483647∧0≤BN∧BN≤2147483647∧r=L.drop (p+1)∧p<L.length:=(by
   unfold uheadP at hY
   cases hn:nxt p (L.drop p) with
   | error e=>rw[hn] at hY;cases hY
   | ok z =>
    obtain⟨s,r0⟩:=z
    obtain⟨h1,h2,_⟩:=Zhr hn
    rw[hn] at hY
    dsimp only at hY
    cases hu:uhdP s with
    | none=>rw[hu] at hY;cases hY
    | some z =>
     obtain⟨A',AN',B',BN'⟩:=z
     rw[hu] at hY
     dsimp only at hY
     obtain⟨u1,u2⟩:=Zle hu
     split at hY
     ·cases hY
     ·split at hY
      ·cases hY
      ·cases hY
       exact⟨by omega,by omega,by omega,by omega,h1,h2⟩)
  obtain⟨d1,d2,d3,d4,rfl,hpl⟩:=hd
  obtain⟨a,rfl⟩:∃ a:Nat,AN=a:=⟨AN.toNat,by omega⟩
  obtain⟨b,rfl⟩:∃ b:Nat,BN=b:=⟨BN.toNat,by omega⟩
  simp only[Int.toNat_natCast] at hX
  obtain⟨Y2,hY2⟩:∃ Y2,urdP (a+b) a b (p+1) (L.drop (p+1))=Y2:=⟨_,rfl⟩
  rw[hY2] at hX
  have hl2:Calls Tryz.prog 243 #[.pointer (some ⟨R,0,none⟩),.int .i64 (k:Int)] W0 fun e w'=>e=.returned (.agg #[.int .i64 A,.int .i64 (a:Int),.int .i64 B,.int .i64 (b:Int),.slice none 0 0])∧Uk w' R (.slice lo L.length lc) ((p+1:Nat):Int)∧W0.grownBy w' (some R):=hl
  clear hl hY
  go_enter Tryz.func206,Tryz.ntmps206
  go_wp2_with fail
  refine hl2.mono ?_
  rintro e W1 ⟨rfl,q1,g1⟩
  have gw1:=HG0.out _ g1
  have hx1:=hx0.keep g1 (fun e=>by have:=Option.some.inj e;omega)
  have hsz1:=hx1.lt
  clear hW0 hB0 hx0 q0 hl2 HL0 HG0 g1
  have hU3:Uz w R W1.heap.size (W1.heap.size+1) (.slice lo L.length lc) A (a:Int) B (b:Int) (.slice none 0 0) [] a b (p+1) ((W1.alloc (hkO ⟨A,(a:Int),B,(b:Int),[]⟩ (.slice none 0 0))).alloc (ctO a b)):=(by
   have hB1:Below W1.heap.size W1 (W1.alloc (hkO ⟨A,(a:Int),B,(b:Int),[]⟩ (.slice none 0 0))):=(Below.refl _ W1).alloc (Nat.le_refl _) _
   have hB2:Below W1.heap.size W1 ((W1.alloc (hkO ⟨A,(a:Int),B,(b:Int),[]⟩ (.slice none 0 0))).alloc (ctO a b)):=hB1.alloc hB1.size _
   refine⟨ZdT gw1 (ZfO hB2 _),hx1.low hB2,?_,?_,World.ownsRow_nil _ _ _ _,q1.low hB2,hsz1,by omega,hRl⟩
   ·exact (Below.heap_alloc _ _ _ (by simp)).trans (Hx.new W1 _ _)
   ·have:=heap_alloc_new (W1.alloc (hkO ⟨A,(a:Int),B,(b:Int),[]⟩ (.slice none 0 0))) (ctO a b)
    simpa using this)
  unfold hkO ctO at hU3
  dsimp only at hU3
  obtain⟨r0,r1⟩:=(q1.low ((Below.refl _ W1).alloc (Nat.le_refl _) (.cells #[.int .i64 A,.int .i64 (a:Int),.int .i64 B,.int .i64 (b:Int),.slice none 0 0] 45))).cells
  go_wp2
  have e1:((p+1:Nat):Int)=(p:Int)+1:=by omega
  have HY0:Hid (thenM [] (urdP (a+b) a b (p+1) (L.drop (p+1)))=Y2):=(by show _=_;rw[ZkN,hY2])
  have HXX:Hid (outU p A (a:Int) B (b:Int) Y2=X):=hX
  clear hX hY2 r0 r1 hx1 q1
  generalize (W1.alloc (.cells #[.int .i64 A,.int .i64 (a:Int),.int .i64 B,.int .i64 (b:Int),.slice none 0 0] 45)).alloc (.cells #[.int .i64 (a:Int),.int .i64 (b:Int)] 300)=W3 at hU3 ⊢
  generalize W1.heap.size=T at hU3 hsz1 ⊢
  go_loopw [] (fun wr=>∃ (l:List Mk) (v:Value) (a' b' pn n:Nat),Uz w R T (T+1) (.slice lo L.length lc) A (a:Int) B (b:Int) v l a' b' pn wr∧a'+b'≤n∧pn≤L.length∧a'≤2147483647∧b'≤2147483647∧l.length≤pn∧Hid (thenM l (urdP n a' b' pn (L.drop pn))=Y2)) (fun wr=>L.length-ukN wr R)
  case atStart=>exact⟨[],.slice none 0 0,a,b,p+1,a+b,hU3,Nat.le_refl _,by omega,by omega,by omega,Nat.zero_le _,HY0⟩
  case round =>
  clear HY0 hU3 gw1
  obtain⟨l,v,a',b',pn,n,hU,hn,hpn,ha',hb',hll,HI⟩:=hrel
  have HK:Hid (ukN wr R=pn):=Zlr hU.ck
  obtain⟨l0,l1,f0,f1⟩:=hU.left
  have heq:=Zci (a':Int) (b':Int) 0 0
  have hgd:Tryz.prog.eqGuardType Tryz.prog.depth 300=false:=by kernel_rfl
  by_cases h0:a'+b'=0
  ·have e2:(!((a':Int) == 0 && (b':Int) == 0))=false:=(by
    have x1:((a':Int) == 0)=true:=beq_iff_eq.2 (by omega)
    have x2:((b':Int) == 0)=true:=beq_iff_eq.2 (by omega)
    rw[x1,x2]
    rfl)
   rw[e2] at heq
   have hE:=HI.out
   rw[ZlQ n h0] at hE
   subst hE
   have hX:=HXX.out
   dsimp only[outU] at hX
   have hcc:=ZaQ 246 #[] l (fun m=>m.sg != 32) v wr (Zeo hU.own) (by omega) (enters_of Tryz.func246 (by kernel_rfl) rfl) (fun m _ u _=>Zlp m u) (!smB l) (by show _=_;exact Zau l)
   obtain⟨vo,vc,rfl⟩:=(Zeo hU.own).form
   have h4:=hU.bh.cells.2.2.2.2
   obtain⟨sm,hsm⟩:∃ z,smB l=z:=⟨_,rfl⟩
   rw[hsm] at hX hcc
   clear HXX HI hsm e2
   cases sm with
   | true =>
    rw[if_pos rfl] at hX
    subst hX
    go_wp2_with fail
    refine hcc.mono ?_
    rintro e w1 ⟨rfl,hB1⟩
    have hgr1:=hU.gr
    go_wp2_with fail
    refine (ZlX ((p:Int)+1) 50 w1).mono ?_
    rintro x w2 ⟨⟨g,rfl,hg⟩,hb⟩
    go_wp2
    exact⟨rfl,⟨_,rfl,by simpa using hg⟩,ZdT hgr1 (ZfO (hB1.trans (hb.mono hB1.size)) _)⟩
   | false =>
    rw[if_neg (by decide)] at hX
    subst hX
    go_wp2_with fail
    refine hcc.mono ?_
    rintro e w1 ⟨rfl,hB1⟩
    have hU1:=hU.keep hB1
    clear h4 l0 l1 f0 f1 heq hgd hcc hU
    obtain⟨z0,z1,z2,z3,z4⟩:=hU1.bh.cells
    dsimp only at z0 z1 z2 z3
    obtain⟨y0,y1,y2,y3,y4⟩:=hU1.bg.cells
    dsimp only[zhk] at y0 y1 y2 y3
    have yf0:=hU1.bg.frozen 0
    have yf1:=hU1.bg.frozen 1
    have yf2:=hU1.bg.frozen 2
    have yf3:=hU1.bg.frozen 3
    have yf4:=hU1.bg.frozen 4
    have hvb:(Value.slice vo l.length vc).ownBlock≠some w.heap.size:=ZhE hU1.own hU1.bg (by decide)
    have fo:(five w1 w.heap.size A (a:Int) B (b:Int) (.slice vo l.length vc)).ownsRow w.heap.size 47 2 (.slice vo l.length vc) l.length (mkcells l):=((((hU1.own.kept (ZdS _ _ 0 _) (.inr hvb)).kept (ZdS _ _ 1 _) (.inr hvb)).kept (ZdS _ _ 2 _) (.inr hvb)).kept (ZdS _ _ 3 _) (.inr hvb)).kept (ZdS _ _ 4 _) (.inr hvb)
    have fh:=Zdm hU1.bg A (a:Int) B (b:Int) (.slice vo l.length vc)
    have fq:=Zdp hU1.ck (by omega:R≠w.heap.size) A (a:Int) B (b:Int) (.slice vo l.length vc)
    have fg:=Zdl hU1.gr (Nat.le_refl _) A (a:Int) B (b:Int) (.slice vo l.length vc)
    unfold five at fo fh fq fg
    clear hU1 hB1 hvb
    go_wp2
    exact bodyPost_ret (v:=hkV ⟨A,(a:Int),B,(b:Int),l⟩ (.slice vo l.length vc)) (results_cell_row rfl _ _ w.heap.size 45 #[.int .i64 A,.int .i64 (a:Int),.int .i64 B,.int .i64 (b:Int),.slice vo l.length vc] (0,0) _ rfl fh Tryz.underlying45 rfl (by kernel_rfl)) rfl ⟨_,rfl,fo,fq,fg⟩
  ·have e2:(!((a':Int) == 0 && (b':Int) == 0))=true:=(by
    cases hq:((a':Int) == 0 && (b':Int) == 0) with
    | false=>rfl
    | true =>
     rw[Bool.and_eq_true,beq_iff_eq,beq_iff_eq] at hq
     omega)
   rw[e2] at heq
   obtain⟨n',rfl⟩:∃ n',n=n'+1:=⟨n-1,by omega⟩
   have hI:=HI.out
   rw[ZlT n' h0] at hI
   obtain⟨Z,hZ⟩:∃ Z,ulnP a' b' pn (L.drop pn)=Z:=⟨_,rfl⟩
   rw[hZ] at hI
   have hB1:Below wr.heap.size wr (wr.alloc mk0):=(Below.refl _ wr).alloc (Nat.le_refl _) _
   have hU1:=hU.keep hB1
   have hS1:=heap_alloc_new wr mk0
   have hmk:=Zlz a' b' (wr.alloc mk0) hU1.ck (fun u hu=>HLs.out u (ZdT hU1.gr hu)) HPl.out hpn (by omega) (fun s h=>by have:=HSl.out s h;omega) ha' hb' Z hZ
   have HVb:Hid (v.ownBlock≠some wr.heap.size):=(by
    intro e
    have:=ZhN hU.own e
    omega)
   obtain⟨vo,vc,rfl⟩:=(Zeo hU.own).form
   unfold mk0 at hU1 hS1 hmk
   obtain⟨j0,j1,_,_⟩:=hU1.left
   clear HI hB1 hU e2
   cases Z with
   | error z =>
    obtain⟨z1,e1'⟩:=z
    dsimp only at hI
    subst hI
    have hX:=HXX.out
    dsimp only[outU] at hX
    subst hX
    have hgr1:=hU1.gr
    clear HXX hZ
    go_wp2_with fail
    refine hmk.mono ?_
    rintro x w1 ⟨⟨g,rfl,hg⟩,hgr⟩
    go_wp2
    exact⟨rfl,⟨_,rfl,hg⟩,ZdT hgr1 hgr⟩
   | ok z =>
    obtain⟨m,p1,r⟩:=z
    dsimp only at hI
    have hdr:=Zlw HPl.out hZ
    obtain⟨rfl,t1,t2,t3,t4,t5⟩:=hdr
    have HI2:Hid (thenM (l++[m]) (urdP n' (a'-sgO m) (b'-sgN m) p1 (L.drop p1))=Y2):=hI
    have hmk2:Calls Tryz.prog 244 #[.pointer (some ⟨R,0,none⟩),.agg #[.int .i64 (a':Int),.int .i64 (b':Int)]] (wr.alloc (.cells #[.int .u8 0,.string ⟨#[]⟩] 47)) fun e w'=>e=.returned (.tuple #[.agg #[.int .u8 m.sg,.string ⟨m.tx.toArray⟩],.agg #[.int .i64 ((a'-sgO m:Nat):Int),.int .i64 ((b'-sgN m:Nat):Int)]])∧Uk w' R (.slice lo L.length lc) (p1:Int)∧(wr.alloc (.cells #[.int .u8 0,.string ⟨#[]⟩] 47)).grownBy w' (some R):=hmk
    clear hI hZ hmk HXX
    generalize ha2:a'-sgO m=a2 at hmk2 HI2
    generalize hb2:b'-sgN m=b2 at hmk2 HI2
    go_wp2_with fail
    refine hmk2.mono ?_
    rintro e w2 ⟨rfl,q2,g2⟩
    have hU2:=hU1.call g2 q2
    have hSR:wr.heap.size≠R:=(by have:=hU1.rl;have:=hU1.gr.size;have:=hU1.cl;have:=hU1.tl;have:=(Array.getElem?_eq_some_iff.1 hU1.bl).1;simp at this;omega)
    have hS2:=(g2.block wr.heap.size (Array.getElem?_eq_some_iff.1 hS1).1 (fun e=>hSR (Option.some.inj e))).trans hS1
    have hCS:T+1<wr.heap.size:=(by
     have h1:=(Array.getElem?_eq_some_iff.1 hU1.bl).1
     have h2:T+1≠wr.heap.size:=(by
      intro e
      have h3:=hU1.bl
      rw[e,hS1] at h3
      simp[ctO] at h3)
     simp at h1
     omega)
    clear hU1 hS1 g2 q2 hmk2
    generalize wr.heap.size=S at *
    obtain⟨y0,y1⟩:w2.cell? ⟨S,0,none⟩=some (.int .u8 0)∧w2.cell? ⟨S,1,none⟩=some (.string ⟨#[]⟩):=⟨by rw[Lib.cell_of_heap hS2];rfl,by rw[Lib.cell_of_heap hS2];rfl⟩
    have yf0:w2.frozen? ⟨S,0,none⟩=false:=Lib.frozen_of_heap hS2 0
    have yf1:w2.frozen? ⟨S,1,none⟩=false:=Lib.frozen_of_heap hS2 1
    have hU3:=hU2.other hS2 (.inr HVb.out) hCS 0 (.int .u8 m.sg)
    have hS3:=heap_setCell_same _ S 0 _ _ (.int .u8 m.sg) hS2
    have hU4:=hU3.other hS3 (.inr HVb.out) hCS 1 (.string ⟨m.tx.toArray⟩)
    have hS4:=heap_setCell_same _ S 1 _ _ (.string ⟨m.tx.toArray⟩) hS3
    obtain⟨l0',l1',f0',f1'⟩:=hU4.left
    have hU5:=(hU4.setA a2).setB b2
    have hS5:((((w2.setCell ⟨S,0,none⟩ (.int .u8 m.sg)).setCell ⟨S,1,none⟩ (.string ⟨m.tx.toArray⟩)).setCell ⟨T+1,0,none⟩ (.int .i64 (a2:Int))).setCell ⟨T+1,1,none⟩ (.int .i64 (b2:Int))).heap[S]?=some (.cells #[.int .u8 m.sg,.string ⟨m.tx.toArray⟩] 47):=(Below.heap_setCell _ _ _ S (show S≠T+1 by omega)).trans ((Below.heap_setCell _ _ _ S (show S≠T+1 by omega)).trans hS4)
    go_upto_region 7 with fail
    clear hU2 hU3 hU4 hS2 hS3 hS4 y0 y1 yf0 yf1 l0' l1' f0' f1' l0 l1 f0 f1 j0 j1 heq hgd
    generalize (((w2.setCell ⟨S,0,none⟩ (.int .u8 m.sg)).setCell ⟨S,1,none⟩ (.string ⟨m.tx.toArray⟩)).setCell ⟨T+1,0,none⟩ (.int .i64 (a2:Int))).setCell ⟨T+1,1,none⟩ (.int .i64 (b2:Int))=W5 at hU5 hS5 ⊢
    have s0:W5.cell? ⟨S,0,none⟩=some (.int .u8 m.sg):=(by rw[Lib.cell_of_heap hS5];rfl)
    have s1:W5.cell? ⟨S,1,none⟩=some (.string ⟨m.tx.toArray⟩):=(by rw[Lib.cell_of_heap hS5];rfl)
    have h4:=hU5.bh.cells.2.2.2.2
    have hU6:=hU5.keep ((Below.refl _ W5).alloc (Nat.le_refl _) (mkO m))
    have hrow:=Zgj W5 m
    have hown6:=hU6.own
    have hlow6:=hU6.gr.size
    have hW:W5.alloc (.cells #[.int .u8 m.sg,.string ⟨m.tx.toArray⟩] 47)=W5.alloc (mkO m):=rfl
    clear hU5 hS5
    go_wp2_with (at_builtin;refine Zmi _ (by kernel_rfl) (.tmp 31) (.tmp 33) 43 47 (.agg #[.int .u8 0,.string ⟨#[]⟩]) 2 24 rfl Tryz.underlying43 infoMk rfl (by decide) (by decide) w.heap.size _ _ _ rfl hown6 _ 1 (mkcells [m]) rfl hrow (Zgo _) (Zgp _) (by omega) hlow6 ?_)
    intro v3 u3 hown3 hg3 _
    obtain⟨hU7,x1,x2⟩:=hU6.more hg3 hown3
    obtain⟨o3,c3,rfl⟩:=(Zeo hown3).form
    clear hW hrow hown6 hown3 hg3 hU6 s0 s1 h4
    go_wp2
    refine⟨⟨l++[m],_,a2,b2,p1,n',hU7,by omega,t2,by omega,by omega,by rw[List.length_append];simp only[List.length_cons,List.length_nil];omega,HI2⟩,?_⟩
    rw[Zlr hU7.ck,HK.out]
    omega
end

section
open Go.RowKit
theorem Zlh {k p:Nat} {L r:List (List UInt8)} {h:Hk} {p1:Nat} (hP:Plain L) (hh:uhkP k p (L.drop p)=.ok (h,p1,r)):r=L.drop p1∧p<p1∧p1≤L.length∧k<4096:=by
 have hP2:Plain (L.drop p):=fun s hs=>hP s (List.mem_of_mem_drop hs)
 obtain⟨_,_,a3,a4,a5⟩:=Zli hP2 hh
 rw[List.length_drop] at a3 a4
 have key:∀ (n a b q:Nat) (l:List Mk) (q1:Nat) (r1:List (List UInt8)),urdP n a b q (L.drop q)=.ok (l,q1,r1)→r1=L.drop q1:=by
  intro n
  induction n with
  | zero =>
   intro a b q l q1 r1 h
   simp only[urdP] at h
   cases h
   rfl
  | succ n ih =>
   intro a b q l q1 r1 h
   simp only[urdP] at h
   split at h
   ·cases h
    rfl
   ·split at h
    ·cases h
    ·rename_i m q2 r2 h2
     obtain⟨e,_⟩:=Zlw hP h2
     subst e
     split at h
     ·cases h
     ·rename_i l3 q3 r3 h3
      have:=ih _ _ _ _ _ _ h3
      cases h
      exact this
 refine⟨?_,by omega,by omega,a5⟩
 unfold uhkP at hh
 split at hh
 ·cases hh
 ·rename_i s r0 hn
  obtain⟨e,_⟩:=Zhr hn
  subst e
  split at hh
  ·cases hh
  ·split at hh
   ·cases hh
   ·split at hh
    ·cases hh
    ·split at hh
     ·cases hh
     ·rename_i l q1 r1 h1
      have:=key _ _ _ _ _ _ _ h1
      split at hh
      ·cases hh
      ·cases hh
       exact this
def conU (f k p:Nat) (r:List (List UInt8)):Except (Nat × Int) (List Hk × Nat × List (List UInt8)):=if pkU atC r=true then uhsP atC f k p r else .ok ([],p,r)
theorem Zln (f k p:Nat) (ls:List (List UInt8)) (l:List Hk):thenX l (uhsP atC (f+1) k p ls)=match uhkP k p ls with
  | .error e=>.error e
  | .ok (h,p1,r)=>thenX (l++[h]) (conU f (k+1) p1 r):=by
 simp only[uhsP]
 cases uhkP k p ls with
 | error e=>rfl
 | ok z =>
  obtain⟨h,p1,r⟩:=z
  dsimp only
  unfold conU
  split
  ·cases uhsP atC f (k+1) p1 r with
   | error e=>rfl
   | ok z=>simp[thenX]
  ·simp[thenX]
def lefU (P:List (Hk × Value)) (f p:Nat) (r:List (List UInt8)):Except (Nat × Int) (List Hk × Nat × List (List UInt8)):=thenX (P.map (·.1)) (if P=[] then uhsP atC f 0 p r else conU f P.length p r)
def patU (k p:Nat) (ls:List (List UInt8)):Except (Nat × Int) (Pth × Nat × List (List UInt8)) :=
 match namP [45,45,45,32] p ls with
 | .error e=>.error e
 | .ok (n1,r1)=>if 64≤k then .error (p+1,9) else match namP [43,43,43,32] (p+1) r1 with
  | .error e=>.error e
  | .ok (n2,r2)=>match uhsP atC (r2.length+1) 0 (p+2) r2 with
   | .error e=>.error e
   | .ok (hs,p3,r3)=>.ok (⟨n1,n2,hs⟩,p3,r3)
theorem ZlK (f k p:Nat) (ls:List (List UInt8)):upsP atC (f+1) k p ls=if ls=[] then .ok [] else match patU k p ls with
  | .error e=>.error e
  | .ok (x,p3,r3)=>match upsP atC f (k+1) p3 r3 with
   | .error e=>.error e
   | .ok l=>.ok (x::l):=by
 simp only[upsP]
 split
 ·rfl
 ·unfold patU
  cases namP [45,45,45,32] p ls with
  | error e=>rfl
  | ok z =>
   obtain⟨n1,r1⟩:=z
   dsimp only
   split
   ·rfl
   ·cases namP [43,43,43,32] (p+1) r1 with
    | error e=>rfl
    | ok z =>
     obtain⟨n2,r2⟩:=z
     dsimp only
     cases uhsP atC (r2.length+1) 0 (p+2) r2 with
     | error e=>rfl
     | ok z=>rfl
structure Pzu (wb:World) (R S:Nat) (vL:Value) (n1 n2:List UInt8) (hv:Value) (P:List (Hk × Value)) (p:Nat) (u:World):Prop where
 gr:wb.grownBy u (some R)
 box:u.heap[S]?=some (.cells #[.string ⟨n1.toArray⟩,.string ⟨n2.toArray⟩,hv] 42)
 own:u.ownsRow wb.heap.size 45 5 hv P.length (hkcells P)
 ins:∀ x∈P,u.ownsRow wb.heap.size 47 2 x.2 x.1.ls.length (mkcells x.1.ls)
 ck:Uk u R vL (p:Int)
 ge:wb.heap.size≤S
 rl:R<wb.heap.size
section
variable {wb u u':World} {R S:Nat} {vL hv:Value} {n1 n2:List UInt8} {P:List (Hk × Value)} {p p':Nat}
theorem Pzu.keep (h:Pzu wb R S vL n1 n2 hv P p u) (hb:Below u.heap.size u u'):Pzu wb R S vL n1 n2 hv P p u':=⟨ZdT h.gr (ZfO hb _),(hb.block S (Array.getElem?_eq_some_iff.1 h.box).1).trans h.box,ZhK h.own hb,fun x hx=>ZhK (h.ins x hx) hb,h.ck.low hb,h.ge,h.rl⟩
theorem Pzu.ne (h:Pzu wb R S vL n1 n2 hv P p u):R≠S:=by have h1:=h.ge;have h2:=h.rl;omega
theorem Pzu.call (h:Pzu wb R S vL n1 n2 hv P p u) (hg:u.grownBy u' (some R)) (q:Uk u' R vL (p':Int)):Pzu wb R S vL n1 n2 hv P p' u':=⟨ZdT h.gr hg,(hg.block S (Array.getElem?_eq_some_iff.1 h.box).1 (fun e=>h.ne (Option.some.inj e).symm)).trans h.box,ZhI h.own hg h.rl,fun x hx=>ZhI (h.ins x hx) hg h.rl,q,h.ge,h.rl⟩
theorem Pzu.next (h:Pzu wb R S vL n1 n2 hv P p u):Pzu wb R S vL n1 n2 hv P (p+1) (u.setCell ⟨R,1,none⟩ (.int .i64 ((p:Int)+1))):=h.call (ZdS u R 1 _) (by have:=h.ck.at ((p:Int)+1);simpa using this)
theorem Pzu.cells (h:Pzu wb R S vL n1 n2 hv P p u):u.cell? ⟨S,0,none⟩=some (.string ⟨n1.toArray⟩)∧u.cell? ⟨S,1,none⟩=some (.string ⟨n2.toArray⟩)∧u.cell? ⟨S,2,none⟩=some hv:=by
 refine⟨?_,?_,?_⟩<;>rw[Lib.cell_of_heap h.box]<;>rfl
theorem Pzu.frozen (h:Pzu wb R S vL n1 n2 hv P p u) (j:Nat):u.frozen? ⟨S,j,none⟩=false:=Lib.frozen_of_heap h.box j
theorem Pzu.put (h:Pzu wb R S vL n1 n2 hv P p u) (j:Nat) (z:Value) {m1 m2:List UInt8} {hv':Value} (hc:#[Value.string ⟨n1.toArray⟩,.string ⟨n2.toArray⟩,hv].setIfInBounds j z=#[.string ⟨m1.toArray⟩,.string ⟨m2.toArray⟩,hv']) (ho:u.ownsRow wb.heap.size 45 5 hv' P.length (hkcells P)):Pzu wb R S vL m1 m2 hv' P p (u.setCell ⟨S,j,none⟩ z):=by
 have hg:=ZdS u S j z
 refine⟨ZdR h.gr h.ge j z,?_,ho.kept hg (.inr (ZhE ho h.box (by decide))),fun x hx=>(h.ins x hx).kept hg (.inr (ZhE (h.ins x hx) h.box (by decide))),h.ck.keep hg (fun e=>h.ne (Option.some.inj e)),h.ge,h.rl⟩
 have:=heap_setCell_same u S j _ _ z h.box
 rw[hc] at this
 exact this
theorem Pzu.more (h:Pzu wb R S vL n1 n2 hv P p u) {x:Hk} {y hv':Value} (hy:u.ownsRow wb.heap.size 47 2 y x.ls.length (mkcells x.ls)) (hg:u.grownBy u' hv.ownBlock) (ho:u'.ownsRow wb.heap.size 45 5 hv' (P.length+1) (hkcells P++hkC x y)) :
  Pzu wb R S vL n1 n2 hv' (P++[(x,y)]) p (u'.setCell ⟨S,2,none⟩ hv')∧u'.cell? ⟨S,2,none⟩=some hv∧u'.frozen? ⟨S,2,none⟩=false:=by
 have hge:∀ j,hv.ownBlock=some j→wb.heap.size≤j:=fun j hj=>ZhJ h.own hj
 have hb:u'.heap[S]?=some (.cells #[.string ⟨n1.toArray⟩,.string ⟨n2.toArray⟩,hv] 42):=(hg.block S (Array.getElem?_eq_some_iff.1 h.box).1 (fun e=>ZhE h.own h.box (by decide) e.symm)).trans h.box
 have hgR:wb.grownBy u' (some R):=⟨hg.os.trans h.gr.os,hg.tape.trans h.gr.tape,hg.output.trans h.gr.output,Nat.le_trans h.gr.size hg.size,fun k h1 h2=>(hg.block k (Nat.lt_of_lt_of_le h1 h.gr.size) (fun e=>by have:=hge k e.symm;omega)).trans (h.gr.block k h1 h2)⟩
 have hck:Uk u' R vL (p:Int):=h.ck.keep hg (fun e=>by have:=hge R e.symm;have:=h.rl;omega)
 have key:∀ {v:Value} {n:Nat} {xs:List Value},u.ownsRow wb.heap.size 47 2 v n xs→u'.ownsRow wb.heap.size 47 2 v n xs:=by
  intro v n xs hv2
  refine⟨hv2.1,?_⟩
  rcases hv2.2 with q | ⟨b,cap,cur,rfl,q2,q3,q4⟩
  ·exact .inl q
  ·refine .inr ⟨b,cap,cur,rfl,q2,?_,q4⟩
   rw[hg.block b (Array.getElem?_eq_some_iff.1 q3).1 (fun e=>ZhE h.own q3 (by decide) e.symm)]
   exact q3
 have hg2:=ZdS u' S 2 hv'
 have hkc:hkcells (P++[(x,y)])=hkcells P++hkC x y:=by rw[Zeh];simp[hkcells,hkC]
 refine⟨⟨ZdR hgR h.ge 2 hv',heap_setCell_same u' S 2 _ _ hv' hb,?_,?_,hck.keep hg2 (fun e=>h.ne (Option.some.inj e)),h.ge,h.rl⟩,by rw[Lib.cell_of_heap hb];rfl,Lib.frozen_of_heap hb 2⟩
 ·rw[List.length_append,hkc]
  exact ho.kept hg2 (.inr (ZhE ho hb (by decide)))
 ·intro z hz
  rcases List.mem_append.1 hz with hz | hz
  ·exact (key (h.ins z hz)).kept hg2 (.inr (ZhE (key (h.ins z hz)) hb (by decide)))
  ·rw[List.mem_singleton.1 hz]
   exact (key hy).kept hg2 (.inr (ZhE (key hy) hb (by decide)))
end
end

end Go.Proofs.YtcniomgjikienaaGreatDoor
