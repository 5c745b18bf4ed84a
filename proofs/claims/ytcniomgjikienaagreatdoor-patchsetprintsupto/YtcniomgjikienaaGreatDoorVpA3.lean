/-
  Texts that belong together, joined: HuRf2, HuRf3, PcReg, HuRf4, HuRf5, HuRf6, HuRf7, PcLs, HuOwn, HuC1.
-/
import Derived.Test.YtcniomgjikienaaGreatDoorVpA2
import Derived.Deep.CutRange
import Derived.Deep.DeepCutAuto
import Derived.Laws.Rows

set_option maxHeartbeats 16000000
set_option maxRecDepth 100000
namespace Go.Proofs.YtcniomgjikienaaGreatDoor

section
open Go.RowKit
theorem bat (l:List UInt8) (k:Nat) (h:k<(⟨l.toArray⟩:ByteArray).size):(⟨l.toArray⟩:ByteArray)[k]'h=l[k]'(h):=rfl
attribute [local go_sem] bat ByteArray.extract_mk
theorem Zwy {x:UInt8} (h:x=10):((x.toNat:Int) == 10)=true:=by subst h;rfl
theorem Zxr {x:UInt8} (h:x≠10):((x.toNat:Int) == 10)=false:=by
 have:x.toNat≠10:=fun e=>h (UInt8.toNat_inj.1 e)
 rw[beq_eq_false_iff_ne];omega
theorem Zwo (L:List UInt8) (i:Int) (k:Nat) (hk:k<L.length) (hi:i=k) (w:World) :
  (Instr.index 9 (.string ⟨L.toArray⟩) (.int .i64 i)).run Tryz.prog w=.ok (.int .u8 (L[k].toNat:Int)) w:=by
 subst hi
 rw[run_index_string w 9 ⟨L.toArray⟩ .i64 (k:Int) Tryz.underlying9]
 have hs:(⟨L.toArray⟩:ByteArray).size=L.length:=rfl
 rw[dif_pos ⟨by omega,by rw[hs];omega⟩]
 rfl
theorem Zmm {n:Int} (h0:-9223372036854775808≤n) (h1:n≤9223372036854775807):IntKind.i64.wrap n=n:=by
 simp[IntKind.wrap,IntKind.bits,IntKind.signed]
 split<;>omega
theorem ZuW {s:List UInt8} (h:0<s.length):fdB s=(s[s.length-1] == 10):=by
 unfold fdB
 rw[List.getLast?_eq_getElem?,List.getElem?_eq_getElem (by omega)]
 rfl
theorem ZzG (s:List UInt8) (w:World) (hl:s.length≤1099511627776) (p q:Bool) (HP:Hid (linB s=p)) (HQ:Hid ((linB s && fdB s)=q)):Calls Tryz.prog 183 #[.string ⟨s.toArray⟩] w fun e w'=>e=.returned (.tuple #[.bool p,.bool q])∧∃ n,w'=w.drewN n:=by
 by_cases h0:s=[]
 ·subst h0
  obtain rfl:p=false:=by rw[← HP.out];rfl
  obtain rfl:q=false:=by rw[← HQ.out];rfl
  clear HP HQ
  go_enter Tryz.func183,Tryz.ntmps183
  go_wp2
  go_ret2
  exact⟨rfl,0,rfl⟩
 ·have h1:0<s.length:=by
   cases s with
   | nil=>exact absurd rfl h0
   | cons=>simp
  have hz:decide ((s.length:Int)=0)=false:=decide_eq_false (by omega)
  have hz2:((s.length:Int) == 0)=false:=by rw[beq_eq_false_iff_ne];omega
  have H0:Hid (s≠[]):=h0
  clear h0
  go_enter Tryz.func183,Tryz.ntmps183
  go_wp2
  go_loopw [4] (fun iv wr=>∃ k:Nat,k+1≤s.length∧iv=.int .i64 (k:Int)∧wr=w∧Hid (∀ (j:Nat) (hj:j<s.length),j<k→s[j]≠10)) (fun iv _=>s.length-(intOf iv).toNat)
  case atStart=>exact⟨0,by omega,by go_num,rfl,fun j _ h=>by omega⟩
  case round =>
   obtain⟨k,hk,rfl,rfl,HK⟩:=hrel
   by_cases hlt:k+1<s.length
   ·have j1:(k:Int)<(s.length:Int)-1:=by omega
    by_cases h10:s[k]=10
    ·have hb:=Zwy h10
     have hlin:linB s=false:=by
      cases hq:linB s with
      | false=>rfl
      | true=>exact absurd h10 ((ZwI H0.out).1 hq k hlt)
     obtain rfl:p=false:=by rw[← HP.out];exact hlin
     obtain rfl:q=false:=by rw[← HQ.out,hlin];rfl
     clear h10 hlin HP HQ
     go_wp2
     go_ret2
     exact⟨rfl,0,rfl⟩
    ·have hb:=Zxr h10
     have HK2:Hid (∀ (j:Nat) (hj:j<s.length),j<k+1→s[j]≠10):=(fun j hj h=>by
      by_cases e:j=k
      ·subst e;exact h10
      ·exact HK.out j hj (by omega))
     clear h10
     go_wp2
     exact⟨⟨k+1,by omega,by go_num,trivial,HK2⟩,by simp[intOf];omega⟩
   ·have j1:¬ (k:Int)<(s.length:Int)-1:=by omega
    have j2:decide ((k:Int)<(s.length:Int)-1)=false:=decide_eq_false j1
    have hlin:linB s=true:=(ZwI H0.out).2 fun j hj=>HK.out j (by omega) (by omega)
    obtain rfl:p=true:=by rw[← HP.out];exact hlin
    have hq2:q=(s[s.length-1] == 10):=by rw[← HQ.out,hlin,ZuW h1];rfl
    have i1:(0:Int)≤(s.length:Int)-1:=by omega
    have i2:(s.length:Int)-1<(s.length:Int):=by omega
    have i3:IntKind.i64.wrap ((s.length:Int)-1)=(s.length:Int)-1:=Zmm (by omega) (by omega)
    have i4:=Zwo s ((s.length:Int)-1) (s.length-1) (by omega) (by omega)
    clear HP HQ hlin HK
    by_cases h10:s[s.length-1]=10
    ·have hb:=Zwy h10
     obtain rfl:q=true:=by rw[hq2,h10];rfl
     clear hq2 h10
     go_wp2_with fail
     go_quiet (fail)
     go_wp2
     go_ret2
     exact⟨rfl,_,rfl⟩
    ·have hb:=Zxr h10
     obtain rfl:q=false:=by rw[hq2];simpa using h10
     clear hq2 h10
     go_wp2_with fail
     go_quiet (fail)
     go_wp2
     go_ret2
     exact⟨rfl,_,rfl⟩
theorem ZzF (h:Hk) (v:Value) (at0:Nat) (sg:Int) (w:World) (hv:HMk w v h.ls) (hl:h.ls.length≤1099511627776) (hat:at0≤h.ls.length) (r:Bool) (HR:Hid (lstB sg (h.ls.drop (at0+1))=r)):Calls Tryz.prog 184 #[hkV h v,.int .i64 (at0:Int),.int .u8 sg] w fun e w'=>e=.returned (.bool r)∧Below w.heap.size w w':=by
 obtain⟨A,AN,B,BN,ls⟩:=h
 dsimp only at hv hl HR hat
 obtain⟨lo,lc,rfl⟩:=HMk.form hv
 have hx:=Hx.new w ⟨A,AN,B,BN,ls⟩ (.slice lo ls.length lc)
 have hBl:Below w.heap.size w (w.alloc (hkO ⟨A,AN,B,BN,ls⟩ (.slice lo ls.length lc))):=(Below.refl _ w).alloc (Nat.le_refl _) _
 have hv1:=HMk.keep hv hBl (Nat.le_refl _)
 unfold hkV
 dsimp only
 go_enter Tryz.func184,Tryz.ntmps184
 go_wp2
 have hW:w.alloc (hkO ⟨A,AN,B,BN,ls⟩ (.slice lo ls.length lc))=w.alloc (Obj.cells #[Value.int IntKind.i64 A,Value.int IntKind.i64 AN,Value.int IntKind.i64 B,Value.int IntKind.i64 BN,.slice lo ls.length lc] 45):=rfl
 rw[← hW]
 clear hW hv
 generalize w.alloc (hkO ⟨A,AN,B,BN,ls⟩ (.slice lo ls.length lc))=W at *
 go_loopw [7] (fun iv wr=>∃ (k:Nat),k≤ls.length+1∧iv=.int .i64 (k:Int)∧wr=W∧Hid (lstB sg (ls.drop k)=r)) (fun iv _=>ls.length+1-(intOf iv).toNat)
 case atStart=>exact⟨at0+1,by omega,by go_num,rfl,HR⟩
 case round =>
  obtain⟨k,hk,rfl,rfl,HI⟩:=hrel
  obtain⟨_,_,_,_,d4⟩:=hx.cells
  by_cases hlt:k<ls.length
  ·obtain⟨b,off,rfl,hb,hc⟩:=HMk.at hv1 (by omega)
   obtain⟨c0,c1⟩:=hc k hlt
   obtain⟨m,hm⟩:∃ m,ls[k]=m:=⟨_,rfl⟩
   rw[hm] at c0 c1
   have HI2:Hid (((decide (m.sg≠sg) && decide (m.sg≠32)) && lstB sg (ls.drop (k+1)))=r):=(by
    show _=_
    rw[← HI.out,List.drop_eq_getElem_cons hlt,hm]
    rfl)
   obtain⟨s,tx⟩:=m
   dsimp only at c0 c1 HI2
   clear HI hm HR hc c1
   have i1:0≤(k:Int):=by omega
   have i2:(k:Int)<(ls.length:Int):=by omega
   by_cases h0:s=sg
   ·subst h0
    obtain rfl:r=false:=by rw[← HI2.out];simp
    clear HI2
    go_wp2
    go_ret
    exact⟨rfl,hBl⟩
   ·have e0:(s == sg)=false:=by simpa using h0
    by_cases h1:s=32
    ·subst h1
     obtain rfl:r=false:=by rw[← HI2.out];simp
     clear HI2
     go_wp2
     go_ret
     exact⟨rfl,hBl⟩
    ·have e1:(s == 32)=false:=by simpa using h1
     have HI3:Hid (lstB sg (ls.drop (k+1))=r):=(by
      show _=_
      rw[← HI2.out]
      simp[h0,h1])
     clear HI2
     go_wp2
     exact⟨⟨k+1,by omega,by go_num,trivial,HI3⟩,by simp[intOf];omega⟩
  ·obtain rfl:r=true:=by
    rw[← HI.out,List.drop_of_length_le (by omega)]
    rfl
   have hend:decide ((k:Int)<(ls.length:Int))=false:=decide_eq_false (by omega)
   clear HI
   go_wp2
   go_ret
   exact⟨rfl,hBl⟩
end

section
open Go.RowKit
def mkO (m:Mk):Obj:=.cells #[.int .u8 m.sg,.string ⟨m.tx.toArray⟩] 47
def Mx (u:World) (b:Nat) (m:Mk):Prop:=u.heap[b]?=some (mkO m)
section
variable {u u':World} {b:Nat} {m:Mk}
theorem Mx.cells (q:Mx u b m):u.cell? ⟨b,0,none⟩=some (.int .u8 m.sg)∧u.cell? ⟨b,1,none⟩=some (.string ⟨m.tx.toArray⟩):=by
 unfold Mx mkO at q
 refine⟨?_,?_⟩<;>rw[Lib.cell_of_heap q]<;>rfl
theorem Mx.lt (q:Mx u b m):b<u.heap.size:=(Array.getElem?_eq_some_iff.1 q).1
theorem Mx.low (q:Mx u b m) (hg:Below u.heap.size u u'):Mx u' b m:=(hg.block b q.lt).trans q
theorem Mx.new (w:World) (m:Mk):Mx (w.alloc (mkO m)) w.heap.size m:=_root_.Go.heap_alloc_new w _
end
theorem Hx.row {W:World} {b:Nat} {h:Hk} {v:Value} (q:Hx W b h v) (n:Nat):Hx (W.drewN n) b h v:=q
theorem Zzq (h:Hk) (v:Value) (w:World) (hv:HMk w v h.ls) (hl:h.ls.length≤1099511627776) (htx:∀ m∈h.ls,m.tx.length≤1099511627776) (r:Bool) (HR:Hid (fldB h.ls=r)):Calls Tryz.prog 156 #[hkV h v] w fun e w'=>e=.returned (.bool r)∧Below w.heap.size w w':=by
 obtain⟨A,AN,B,BN,ls⟩:=h
 dsimp only at hv hl HR htx
 obtain⟨lo,lc,rfl⟩:=HMk.form hv
 have hx:=Hx.new w ⟨A,AN,B,BN,ls⟩ (.slice lo ls.length lc)
 have hBl:Below w.heap.size w (w.alloc (hkO ⟨A,AN,B,BN,ls⟩ (.slice lo ls.length lc))):=(Below.refl _ w).alloc (Nat.le_refl _) _
 have hv1:=HMk.keep hv hBl (Nat.le_refl _)
 have HTX:Hid (∀ m∈ls,m.tx.length≤1099511627776):=htx
 clear htx
 unfold hkV
 dsimp only
 go_enter Tryz.func156,Tryz.ntmps156
 go_wp2
 have hW:w.alloc (hkO ⟨A,AN,B,BN,ls⟩ (.slice lo ls.length lc))=w.alloc (Obj.cells #[Value.int IntKind.i64 A,Value.int IntKind.i64 AN,Value.int IntKind.i64 B,Value.int IntKind.i64 BN,.slice lo ls.length lc] 45):=rfl
 rw[← hW]
 have HSZ:Hid ((w.alloc (hkO ⟨A,AN,B,BN,ls⟩ (.slice lo ls.length lc))).heap.size=w.heap.size+1):=(by show _=_;simp)
 clear hW hv
 generalize w.alloc (hkO ⟨A,AN,B,BN,ls⟩ (.slice lo ls.length lc))=W at *
 go_loopw [3] (fun iv wr=>∃ (k:Nat),k≤ls.length∧iv=.int .i64 (k:Int)∧Below W.heap.size W wr∧Hid (fldB (ls.drop k)=r)) (fun iv _=>ls.length-(intOf iv).toNat)
 case atStart=>exact⟨0,Nat.zero_le _,by go_num,Below.refl _ _,HR⟩
 case round =>
  obtain⟨k,hk,rfl,hB,HI⟩:=hrel
  obtain⟨x0,x1,x2,x3,x4⟩:=(hx.low hB).cells
  by_cases hlt:k<ls.length
  ·obtain⟨b,off,rfl,hb,_⟩:=HMk.at hv1 (by omega)
   obtain⟨m,hm⟩:∃ m,ls[k]=m:=⟨_,rfl⟩
   obtain⟨c0,c1⟩:=Low.mk hB hv1 k hlt hm
   have htl:m.tx.length≤1099511627776:=HTX.out m (by rw[← hm];exact List.getElem_mem hlt)
   have HI2:Hid ((linB m.tx && okS m.sg && (fdB m.tx || ((decide (m.sg=43) || lstB 45 (ls.drop (k+1))) && (decide (m.sg=45) || lstB 43 (ls.drop (k+1))))) && fldB (ls.drop (k+1)))=r):=(by
    show _=_
    rw[← HI.out,List.drop_eq_getElem_cons hlt,hm]
    rfl)
   have i1:0≤(k:Int):=by omega
   have i2:(k:Int)<(ls.length:Int):=by omega
   have hB2:Below W.heap.size W (wr.alloc (mkO m)):=hB.alloc hB.size _
   obtain⟨y0,y1⟩:=(Mx.new wr m).cells
   obtain⟨z0,z1,z2,z3,z4⟩:=(hx.low hB2).cells
   obtain⟨sg,tx⟩:=m
   obtain⟨p,hp⟩:∃ p,linB tx=p:=⟨_,rfl⟩
   obtain⟨q,hq⟩:∃ q,(linB tx && fdB tx)=q:=⟨_,rfl⟩
   have HP:Hid (linB tx=p):=hp
   have HQ:Hid ((linB tx && fdB tx)=q):=hq
   dsimp only at c0 c1 HI2 y0 y1 z0 z1 z2 z3 z4 x0 x1 x2 x3 x4
   unfold mkO at hB2 y0 y1 z0 z1 z2 z3 z4
   dsimp only at hB2 y0 y1 z0 z1 z2 z3 z4
   clear HI hm HR hp hq
   go_wp2_with fail
   generalize wr.alloc (Obj.cells #[Value.int IntKind.u8 sg,Value.string ⟨tx.toArray⟩] 47)=W2 at *
   refine (ZzG tx W2 htl p q HP HQ).mono ?_
   rintro e w3 ⟨rfl,n3,rfl⟩
   have hB3:Below W.heap.size W (W2.drewN n3):=Below.dN hB2 n3
   have hv3:=HMk.keep hv1 hB3 (Nat.le_refl _)
   have y0':(W2.drewN n3).cell? ⟨wr.heap.size,0,none⟩=some (.int .u8 sg):=y0
   have z0':(W2.drewN n3).cell? ⟨w.heap.size,0,none⟩=some (.int .i64 A):=z0
   have z1':(W2.drewN n3).cell? ⟨w.heap.size,1,none⟩=some (.int .i64 AN):=z1
   have z2':(W2.drewN n3).cell? ⟨w.heap.size,2,none⟩=some (.int .i64 B):=z2
   have z3':(W2.drewN n3).cell? ⟨w.heap.size,3,none⟩=some (.int .i64 BN):=z3
   have z4':(W2.drewN n3).cell? ⟨w.heap.size,4,none⟩=some (.slice (some ⟨b,off,none⟩) ls.length lc):=z4
   clear y0 y1 z0 z1 z2 z3 z4 x0 x1 x2 x3 x4 c0 c1 hB2
   generalize W2.drewN n3=W3 at *
   have HF:Hid (Below w.heap.size w W3):=hBl.trans (hB3.mono (by have:=HSZ.out;omega))
   cases p with
   | false =>
    obtain rfl:r=false:=by rw[← HI2.out,HP.out];rfl
    clear HI2 HP HQ
    go_wp2
    go_ret
    exact⟨rfl,HF.out⟩
   | true =>
    by_cases h1:sg=32
    ·subst h1
     cases q with
     | true =>
      have HI4:Hid (fldB (ls.drop (k+1))=r):=(by
       have hfd:fdB tx=true:=by have:=HQ.out;rw[HP.out] at this;simpa using this
       show _=_
       rw[← HI2.out,HP.out,hfd]
       simp[okS])
      clear HI2 HP HQ
      go_wp2
      exact⟨⟨k+1,by omega,by go_num,hB3,HI4⟩,by simp[intOf];omega⟩
     | false =>
      have hfd:fdB tx=false:=by have:=HQ.out;rw[HP.out] at this;simpa using this
      obtain⟨r1,h1⟩:∃ r1,lstB 45 (ls.drop (k+1))=r1:=⟨_,rfl⟩
      obtain⟨r2,h2⟩:∃ r2,lstB 43 (ls.drop (k+1))=r2:=⟨_,rfl⟩
      have HI3:Hid ((r1 && r2 && fldB (ls.drop (k+1)))=r):=(by
       show _=_
       rw[← HI2.out,HP.out,hfd,h1,h2]
       simp[okS])
      have H1:Hid (lstB 45 (ls.drop (k+1))=r1):=h1
      have H2:Hid (lstB 43 (ls.drop (k+1))=r2):=h2
      clear HI2 HP HQ hfd h1 h2
      go_wp2_with fail
      refine (ZzF ⟨A,AN,B,BN,ls⟩ _ k 45 W3 hv3 hl hk r1 H1).mono ?_
      rintro e w4 ⟨rfl,hB4⟩
      have hB04:=hB3.trans (hB4.mono hB3.size)
      have HF4:Hid (Below w.heap.size w w4):=HF.out.trans (hB4.mono HF.out.size)
      cases r1 with
      | false =>
       obtain rfl:r=false:=by rw[← HI3.out];rfl
       clear HI3 H1 H2
       go_wp2
       go_ret
       exact⟨rfl,HF4.out⟩
      | true =>
       have hv4:=HMk.keep hv1 hB04 (Nat.le_refl _)
       obtain⟨t0,t1,t2,t3,t4⟩:=(hx.low hB04).cells
       have y4:w4.cell? ⟨wr.heap.size,0,none⟩=some (.int .u8 32):=(World.cell?_of_block (w:=W3) (hB4.block _ (World.block_lt_of_cell? _ _ y0'))).trans y0'
       dsimp only at t0 t1 t2 t3 t4
       clear y0' z0' z1' z2' z3' z4'
       go_wp2_with fail
       refine (ZzF ⟨A,AN,B,BN,ls⟩ _ k 43 w4 hv4 hl hk r2 H2).mono ?_
       rintro e w5 ⟨rfl,hB5⟩
       have hB05:=hB04.trans (hB5.mono hB04.size)
       have HF5:Hid (Below w.heap.size w w5):=HF4.out.trans (hB5.mono HF4.out.size)
       cases r2 with
       | false =>
        obtain rfl:r=false:=by rw[← HI3.out];rfl
        clear HI3 H1 H2
        go_wp2
        go_ret
        exact⟨rfl,HF5.out⟩
       | true =>
        have HI4:Hid (fldB (ls.drop (k+1))=r):=(by show _=_;rw[← HI3.out];rfl)
        clear HI3 H1 H2
        go_wp2
        exact⟨⟨k+1,by omega,by go_num,hB05,HI4⟩,by simp[intOf];omega⟩
    ·have e1:(sg == 32)=false:=by simpa using h1
     by_cases h2:sg=45
     ·subst h2
      cases q with
      | true =>
       have HI4:Hid (fldB (ls.drop (k+1))=r):=(by
        have hfd:fdB tx=true:=by have:=HQ.out;rw[HP.out] at this;simpa using this
        show _=_
        rw[← HI2.out,HP.out,hfd]
        simp[okS])
       clear HI2 HP HQ
       go_wp2
       exact⟨⟨k+1,by omega,by go_num,hB3,HI4⟩,by simp[intOf];omega⟩
      | false =>
       have hfd:fdB tx=false:=by have:=HQ.out;rw[HP.out] at this;simpa using this
       obtain⟨r1,h1'⟩:∃ r1,lstB 45 (ls.drop (k+1))=r1:=⟨_,rfl⟩
       have HI3:Hid ((r1 && fldB (ls.drop (k+1)))=r):=(by
        show _=_
        rw[← HI2.out,HP.out,hfd,h1']
        simp[okS])
       have H1:Hid (lstB 45 (ls.drop (k+1))=r1):=h1'
       clear HI2 HP HQ hfd h1'
       go_wp2_with fail
       refine (ZzF ⟨A,AN,B,BN,ls⟩ _ k 45 W3 hv3 hl hk r1 H1).mono ?_
       rintro e w4 ⟨rfl,hB4⟩
       have hB04:=hB3.trans (hB4.mono hB3.size)
       have HF4:Hid (Below w.heap.size w w4):=HF.out.trans (hB4.mono HF.out.size)
       have y4:w4.cell? ⟨wr.heap.size,0,none⟩=some (.int .u8 45):=(World.cell?_of_block (w:=W3) (hB4.block _ (World.block_lt_of_cell? _ _ y0'))).trans y0'
       clear y0' z0' z1' z2' z3' z4'
       cases r1 with
       | false =>
        obtain rfl:r=false:=by rw[← HI3.out];rfl
        clear HI3 H1
        go_wp2
        go_ret
        exact⟨rfl,HF4.out⟩
       | true =>
        have HI4:Hid (fldB (ls.drop (k+1))=r):=(by show _=_;rw[← HI3.out];rfl)
        clear HI3 H1
        go_wp2
        exact⟨⟨k+1,by omega,by go_num,hB04,HI4⟩,by simp[intOf];omega⟩
     ·have e2:(sg == 45)=false:=by simpa using h2
      by_cases h3:sg=43
      ·subst h3
       cases q with
       | true =>
        have HI4:Hid (fldB (ls.drop (k+1))=r):=(by
         have hfd:fdB tx=true:=by have:=HQ.out;rw[HP.out] at this;simpa using this
         show _=_
         rw[← HI2.out,HP.out,hfd]
         simp[okS])
        clear HI2 HP HQ
        go_wp2
        exact⟨⟨k+1,by omega,by go_num,hB3,HI4⟩,by simp[intOf];omega⟩
       | false =>
        have hfd:fdB tx=false:=by have:=HQ.out;rw[HP.out] at this;simpa using this
        obtain⟨r1,h1'⟩:∃ r1,lstB 43 (ls.drop (k+1))=r1:=⟨_,rfl⟩
        have HI3:Hid ((r1 && fldB (ls.drop (k+1)))=r):=(by
         show _=_
         rw[← HI2.out,HP.out,hfd,h1']
         simp[okS])
        have H1:Hid (lstB 43 (ls.drop (k+1))=r1):=h1'
        clear HI2 HP HQ hfd h1'
        go_wp2_with fail
        refine (ZzF ⟨A,AN,B,BN,ls⟩ _ k 43 W3 hv3 hl hk r1 H1).mono ?_
        rintro e w4 ⟨rfl,hB4⟩
        have hB04:=hB3.trans (hB4.mono hB3.size)
        have HF4:Hid (Below w.heap.size w w4):=HF.out.trans (hB4.mono HF.out.size)
        have y4:w4.cell? ⟨wr.heap.size,0,none⟩=some (.int .u8 43):=(World.cell?_of_block (w:=W3) (hB4.block _ (World.block_lt_of_cell? _ _ y0'))).trans y0'
        clear y0' z0' z1' z2' z3' z4'
        cases r1 with
        | false =>
         obtain rfl:r=false:=by rw[← HI3.out];rfl
         clear HI3 H1
         go_wp2
         go_ret
         exact⟨rfl,HF4.out⟩
        | true =>
         have HI4:Hid (fldB (ls.drop (k+1))=r):=(by show _=_;rw[← HI3.out];rfl)
         clear HI3 H1
         go_wp2
         exact⟨⟨k+1,by omega,by go_num,hB04,HI4⟩,by simp[intOf];omega⟩
      ·have e3:(sg == 43)=false:=by simpa using h3
       have n1:(sg != 32)=true:=by simpa using h1
       have n2:(sg != 45)=true:=by simpa using h2
       have n3':(sg != 43)=true:=by simpa using h3
       obtain rfl:r=false:=by rw[← HI2.out];simp[okS,h1,h2,h3]
       clear HI2 HP HQ h1 h2 h3 e1 e2 e3
       go_wp2
       go_ret
       exact⟨rfl,HF.out⟩
  ·obtain rfl:r=true:=by
    rw[← HI.out,List.drop_of_length_le (by omega)]
    rfl
   have hend:decide ((k:Int)<(ls.length:Int))=false:=decide_eq_false (by omega)
   clear HI
   go_wp2
   go_ret
   exact⟨rfl,hBl.trans (hB.mono (by have:=HSZ.out;omega))⟩
end

section
open Go.RowKit
theorem ZkF {b:Bool} {X Y:Prop} (h:b=true) (hX:X):if b=true then X else Y:=by
 rw[if_pos h]
 exact hX
theorem ZkE {b:Bool} {X Y:Prop} (h:b=false) (hY:Y):if b=true then X else Y:=by
 rw[if_neg (by rw[h];exact Bool.false_ne_true)]
 exact hY
theorem ZdI {P:Program} {S:World→Prop} {md:Region.Mode} {ops:Array Oper} {Q:Exit→Act→World→Prop} {fuel:Nat} {listed:Array Bool} {A:Act} {w:World}
  (i d:Nat) (op:Oper) (v:Value) (hi:ops[i]?=some op) (hd:op.dst=some d) (hs:Region.noSelect ops=true) (hf:Region.free md ops listed i=true) (hr:(Region.ready md ops listed).contains i=true)
  (hQ:∀ c a w,Q (.panic c) (a.put op.dst v) w→Q (.panic c) a w) (hy:YieldsIf P ops S op v A) (hS:S w)
  (h:wpAnyH P md ops Q S fuel (listed.setIfInBounds i true) (A.put (some d) v) w):wpAnyH P md ops Q S (fuel+1) listed A w :=
 wpAnyH_take hi hs hf hr hQ hy hS (by rw[hd];exact h)
theorem ZdG {P:Program} {S:World→Prop} {md:Region.Mode} {ops:Array Oper} {Q:Exit→Act→World→Prop} {fuel:Nat} {listed:Array Bool} {A:Act} {w:World}
  (i d:Nat) (op:Oper) (hi:ops[i]?=some op) (hd:op.dst=some d) (hr:Region.ready md ops listed=[i]) (hwt:Region.wanted op (yielded ops A.tmps)=false) (hS:S w)
  (h:wpAnyH P md ops Q S fuel (listed.setIfInBounds i true) (A.put (some d) undef) w) :
  wpAnyH P md ops Q S (fuel+1) listed A w:=by
 refine wpAnyH_ready hr (by simp) (AllReadyH.cons hi (fun K hK=>?_) AllReadyH.nil)
 refine ZkE hwt ?_
 exact hK.out _ _ hS (fun _=>by rw[hd];exact h)
theorem ZdD {P:Program} {S:World→Prop} {md:Region.Mode} {ops:Array Oper} {Q:Exit→Act→World→Prop} {fuel:Nat} {listed:Array Bool} {A:Act} {w:World}
  (i d:Nat) (op:Oper) (hi:ops[i]?=some op) (hd:op.dst=some d) (hr:Region.ready md ops listed=[i]) (hwt:Region.wanted op (yielded ops A.tmps)=true)
  (F:Nat) (xs:Array Operand) (ts:Array TypeId) (ho:op.op=.call { callee:=.value (.func F),args:=xs,argTypes:=ts })
  (args:Array Value) (hx:xs.map A.eval=args) (hen:∀ args w,(callFunc F args).run P w=.ok (.enter F args) w) (v:Value)
  (hc:Calls P F args w fun e w'=>e=.returned v∧S w')
  (h:∀ w',S w'→wpAnyH P md ops Q S fuel (listed.setIfInBounds i true) (A.put (some d) v) w') :
  wpAnyH P md ops Q S (fuel+1) listed A w:=by
 refine wpAnyH_ready hr (by simp) (AllReadyH.cons hi (fun K hK=>?_) AllReadyH.nil)
 refine ZkF hwt ?_
 unfold Oper.wp
 have e:(execOp A.eval op).run P w=.ok (.enter F args) w:=by
  have h1:=hen args w
  simp only[execOp,ho,resolve,invoke]
  have h2:A.eval (.func F)=.func (.func F) #[] #[]:=rfl
  simp only[h2,Deferred.ofValue,Sem.run_bind,Sem.run_pure,Result.andThen_ok,hx,Array.append_empty,Array.empty_append]
  exact h1
 rw[e,Oper.upon_enter]
 refine hc.mono ?_
 rintro e w' ⟨rfl,hb⟩
 exact hK.out _ _ hb (fun hu=>by rw[hd];exact h w' hu)
theorem ZdC {P:Program} {S:World→Prop} {md:Region.Mode} {ops:Array Oper} {Q:Exit→Act→World→Prop} {fuel:Nat} {listed:Array Bool} {A:Act} {w:World}
  (i d:Nat) (op:Oper) (hi:ops[i]?=some op) (hd:op.dst=some d) (hr:Region.ready md ops listed=[i]) (hwt:Region.wanted op (yielded ops A.tmps)=true)
  (F:Nat) (x:Operand) (xs:Array Operand) (ts:Array TypeId) (ho:op.op=.call { callee:=.value x,args:=xs,argTypes:=ts })
  (cap:Array Value) (hxv:A.eval x=.func (.func F) #[] cap) (args:Array Value) (hx:xs.map A.eval=args) (hen:∀ args w,(callFunc F args).run P w=.ok (.enter F args) w) (R:Value→World→Prop)
  (hc:Calls P F (args++cap) w fun e w'=>∃ v,e=.returned v∧S w'∧R v w')
  (h:∀ v w',S w'→R v w'→wpAnyH P md ops Q S fuel (listed.setIfInBounds i true) (A.put (some d) v) w') :
  wpAnyH P md ops Q S (fuel+1) listed A w:=by
 refine wpAnyH_ready hr (by simp) (AllReadyH.cons hi (fun K hK=>?_) AllReadyH.nil)
 refine ZkF hwt ?_
 unfold Oper.wp
 have e:(execOp A.eval op).run P w=.ok (.enter F (args++cap)) w:=by
  have h1:=hen (args++cap) w
  simp only[execOp,ho,resolve,invoke]
  simp only[hxv,Deferred.ofValue,Sem.run_bind,Sem.run_pure,Result.andThen_ok,hx,Array.empty_append]
  exact h1
 rw[e,Oper.upon_enter]
 refine hc.mono ?_
 rintro e w' ⟨v,rfl,hb,hR⟩
 exact hK.out _ _ hb (fun hu=>by rw[hd];exact h v w' hu hR)
theorem ZdK {P:Program} {S:World→Prop} {md:Region.Mode} {ops:Array Oper} {Q:Exit→Act→World→Prop} {fuel:Nat} {listed:Array Bool} {A:Act} {w:World}
  (i d:Nat) (op:Oper) (hi:ops[i]?=some op) (hd:op.dst=some d) (hr:Region.ready md ops listed=[i]) (hwt:Region.wanted op (yielded ops A.tmps)=true)
  (v:Value) (w':World) (he:(execOp A.eval op).run P w=.ok (.value v) w') (hS:S w')
  (h:wpAnyH P md ops Q S fuel (listed.setIfInBounds i true) (A.put (some d) v) w') :
  wpAnyH P md ops Q S (fuel+1) listed A w:=by
 refine wpAnyH_ready hr (by simp) (AllReadyH.cons hi (fun K hK=>?_) AllReadyH.nil)
 refine ZkF hwt ?_
 unfold Oper.wp
 rw[he,Oper.upon_value]
 exact hK.out _ _ hS (fun _=>by rw[hd];exact h)
theorem ZdH {P:Program} {S:World→Prop} {md:Region.Mode} {ops:Array Oper} {Q:Exit→Act→World→Prop} {fuel:Nat} {listed:Array Bool} {A:Act} {w:World}
  (i:Nat) (op:Oper) (hi:ops[i]?=some op) (hd:op.dst=none) (hr:Region.ready md ops listed=[i]) (hwt:Region.wanted op (yielded ops A.tmps)=true)
  (w':World) (he:(execOp A.eval op).run P w=.ok .skip w') (hS:S w')
  (h:wpAnyH P md ops Q S fuel (listed.setIfInBounds i true) A w') :
  wpAnyH P md ops Q S (fuel+1) listed A w:=by
 refine wpAnyH_ready hr (by simp) (AllReadyH.cons hi (fun K hK=>?_) AllReadyH.nil)
 refine ZkF hwt ?_
 unfold Oper.wp
 rw[he,Oper.upon_skip]
 exact hK.out _ _ hS (fun _=>by rw[hd];exact h)
theorem Zon {u:World} {a:Addr} {z:Int} (h:u.cell? a=some (.int .i64 z)) {op:Oper} (x:Operand) (ho:op.op=.load 3 x) {ev:Operand→Value} (hx:ev x=.pointer (some a)) :
  (execOp ev op).run Tryz.prog u=.ok (.value (.int .i64 z)) u:=by
 simp only[execOp,ho,hx]
 go_simp
theorem Y_t {P:Program} {S:World→Prop} {md:Region.Mode} {ops:Array Oper} {Q:Exit→Act→World→Prop} {fuel:Nat} {listed:Array Bool} {A:Act} {w:World} (i d:Nat) (op:Oper) (v:Value) (hi:ops[i]?=some op) (hy:YieldsIf P ops S op v A) (hS:S w) (h:wpAnyH P md ops Q S fuel (listed.setIfInBounds i true) (A.put (some d) v) w) (hd:op.dst=some d:=by kernel_rfl) (hs:Region.noSelect ops=true:=by kernel_rfl) (hf:Region.free md ops listed i=true:=by kernel_rfl) (hr:(Region.ready md ops listed).contains i=true:=by kernel_rfl) (hQ:∀c a w,Q (.panic c) (a.put op.dst v) w→Q (.panic c) a w:=by exact fun _ _ _ h=>h):wpAnyH P md ops Q S (fuel+1) listed A w:=ZdI i d op v hi hd hs hf hr hQ hy hS h
theorem Y_v {P:Program} {S:World→Prop} {md:Region.Mode} {ops:Array Oper} {Q:Exit→Act→World→Prop} {fuel:Nat} {listed:Array Bool} {A:Act} {w:World} (i d:Nat) (op:Oper) (hi:ops[i]?=some op) (v:Value) (w':World) (he:(execOp A.eval op).run P w=.ok (.value v) w') (hS:S w') (h:wpAnyH P md ops Q S fuel (listed.setIfInBounds i true) (A.put (some d) v) w') (hd:op.dst=some d:=by kernel_rfl) (hr:Region.ready md ops listed=[i]:=by kernel_rfl) (hwt:Region.wanted op (yielded ops A.tmps)=true:=by kernel_rfl):wpAnyH P md ops Q S (fuel+1) listed A w:=ZdK i d op hi hd hr hwt v w' he hS h
theorem Y_e {P:Program} {S:World→Prop} {md:Region.Mode} {ops:Array Oper} {Q:Exit→Act→World→Prop} {fuel:Nat} {listed:Array Bool} {A:Act} {w:World} (i d:Nat) (op:Oper) (hi:ops[i]?=some op) (F:Nat) (x:Operand) (xs:Array Operand) (ts:Array TypeId) (ho:op.op=.call {callee:=.value x,args:=xs,argTypes:=ts}) (cap:Array Value) (hxv:A.eval x=.func (.func F) #[] cap) (args:Array Value) (hx:xs.map A.eval=args) (hen:∀args w,(callFunc F args).run P w=.ok (.enter F args) w) (R:Value→World→Prop) (hc:Calls P F (args++cap) w fun e w'=>∃v,e=.returned v∧S w'∧R v w') (h:∀v w',S w'→R v w'→wpAnyH P md ops Q S fuel (listed.setIfInBounds i true) (A.put (some d) v) w') (hd:op.dst=some d:=by kernel_rfl) (hr:Region.ready md ops listed=[i]:=by kernel_rfl) (hwt:Region.wanted op (yielded ops A.tmps)=true:=by kernel_rfl):wpAnyH P md ops Q S (fuel+1) listed A w:=ZdC i d op hi hd hr hwt F x xs ts ho cap hxv args hx hen R hc h
theorem Y_s {P:Program} {S:World→Prop} {md:Region.Mode} {ops:Array Oper} {Q:Exit→Act→World→Prop} {fuel:Nat} {listed:Array Bool} {A:Act} {w:World} (i:Nat) (op:Oper) (hi:ops[i]?=some op) (w':World) (he:(execOp A.eval op).run P w=.ok .skip w') (hS:S w') (h:wpAnyH P md ops Q S fuel (listed.setIfInBounds i true) A w') (hd:op.dst=none:=by kernel_rfl) (hr:Region.ready md ops listed=[i]:=by kernel_rfl) (hwt:Region.wanted op (yielded ops A.tmps)=true:=by kernel_rfl):wpAnyH P md ops Q S (fuel+1) listed A w:=ZdH i op hi hd hr hwt w' he hS h
end

section
open Go.RowKit
theorem ZwM {u:World} {b:Nat} {h:Hk} {v:Value} (q:Hx u b h v) {op:Oper} (x:Operand) (ho:op.op=.load 45 x) {ev:Operand→Value} (hx:ev x=.pointer (some ⟨b,0,none⟩)) :
  (execOp ev op).run Tryz.prog u=.ok (.value (hkV h v)) u:=by
 have hL:(loadVar 45 ⟨b,0,none⟩).run Tryz.prog u=.ok (hkV h v) u:=run_loadVar_row u b _ _ _ _ _ q Tryz.underlying45 rfl (by kernel_rfl)
 simp only[execOp,ho,hx,Instr.loadAt,Instr.sureAddr,Sem.run_bind,Sem.run_pure,Result.andThen_ok,hL]
theorem ZxJ {h:Hk} {v:Value} {W u:World} (hv:HMk W v h.ls) (hl:h.ls.length≤1099511627776) {R:List (List UInt8)} (HR:Hid (oldL h=R)) (hL:Low W u):Calls Tryz.prog 84 (#[hkV h v]++#[]) u fun e w'=>∃ x,e=.returned x∧Low W w'∧∃ o c,x=.slice o R.length c:=by
 refine (ZyW h v u (HMk.keep hv hL (Nat.le_refl _)) hl R HR).mono ?_
 rintro e w' ⟨x,rfl,hx,hB⟩
 obtain⟨o,c,rfl⟩:=Holds.form hx
 refine⟨_,rfl,hL.trans (hB.mono hL.size),o,c,?_⟩
 rfl
theorem Zxl {h:Hk} {v:Value} {W u:World} (hv:HMk W v h.ls) (hl:h.ls.length≤1099511627776) {R:List (List UInt8)} (HR:Hid (newL h=R)) (hL:Low W u):Calls Tryz.prog 85 (#[hkV h v]++#[]) u fun e w'=>∃ x,e=.returned x∧Low W w'∧∃ o c,x=.slice o R.length c:=by
 refine (ZyT h v u (HMk.keep hv hL (Nat.le_refl _)) hl R HR).mono ?_
 rintro e w' ⟨x,rfl,hx,hB⟩
 obtain⟨o,c,rfl⟩:=Holds.form hx
 refine⟨_,rfl,hL.trans (hB.mono hL.size),o,c,?_⟩
 rfl
theorem Zzt (h:Hk) (v:Value) (w:World) (hv:HMk w v h.ls) (hl:h.ls.length≤1099511627776) (htx:∀ m∈h.ls,m.tx.length≤1099511627776) (r:Int) (HR:Hid (chkH h=r)):Calls Tryz.prog 117 #[hkV h v] w fun e w'=>e=.returned (.int .i64 r)∧Below w.heap.size w w':=by
 obtain⟨A,AN,B,BN,ls⟩:=h
 dsimp only at hv hl htx
 obtain⟨lo,lc,rfl⟩:=HMk.form hv
 have hx:=Hx.new w ⟨A,AN,B,BN,ls⟩ (.slice lo ls.length lc)
 have hBl:Below w.heap.size w (w.alloc (hkO ⟨A,AN,B,BN,ls⟩ (.slice lo ls.length lc))):=(Below.refl _ w).alloc (Nat.le_refl _) _
 have hv1:=HMk.keep hv hBl (Nat.le_refl _)
 have HTX:Hid (∀ m∈ls,m.tx.length≤1099511627776):=htx
 have HSZ:Hid ((w.alloc (hkO ⟨A,AN,B,BN,ls⟩ (.slice lo ls.length lc))).heap.size=w.heap.size+1):=(by show _=_;simp)
 clear htx hv
 obtain⟨x0,x1,x2,x3,x4⟩:=hx.cells
 unfold hkV
 dsimp only at x0 x1 x2 x3 x4 ⊢
 have hW0:w.alloc (hkO ⟨A,AN,B,BN,ls⟩ (.slice lo ls.length lc))=w.alloc (Obj.cells #[Value.int IntKind.i64 A,Value.int IntKind.i64 AN,Value.int IntKind.i64 B,Value.int IntKind.i64 BN,.slice lo ls.length lc] 45):=rfl
 generalize w.alloc (hkO ⟨A,AN,B,BN,ls⟩ (.slice lo ls.length lc))=W at *
 have hW:=hW0.symm
 clear hW0
 go_enter Tryz.func117,Tryz.ntmps117
 go_upto_region 1 with fail
 clear hW
 obtain⟨g,hg⟩:∃ g,rngB ⟨A,AN,B,BN,ls⟩=g:=⟨_,rfl⟩
 have HGG:Hid (rngB ⟨A,AN,B,BN,ls⟩=g):=hg
 clear hg
 go_cut [45] from 4 to 45 (fun c wz=>c=.bool (!g)∧wz=W)
 case first =>
  obtain⟨p1,hp1⟩:∃ p,nat31 A=p:=⟨_,rfl⟩
  obtain⟨p2,hp2⟩:∃ p,nat31 AN=p:=⟨_,rfl⟩
  obtain⟨p3,hp3⟩:∃ p,nat31 B=p:=⟨_,rfl⟩
  obtain⟨p4,hp4⟩:∃ p,nat31 BN=p:=⟨_,rfl⟩
  have HG:Hid ((p1 && p2 && p3 && p4 && !(decide (A=0) && decide (0<AN)) && !(decide (B=0) && decide (0<BN)))=g):=(by show _=_;rw[← HGG.out,← hp1,← hp2,← hp3,← hp4];rfl)
  clear HGG HR
  go_wp2_with fail
  refine (ZzN A W).mono ?_
  rintro e w1 ⟨rfl,hw⟩
  rw[hp1,hw]
  clear hw
  cases p1 with
  | false =>
   obtain rfl:g=false:=by rw[← HG.out];simp
   clear HG hp1 hp2 hp3 hp4
   go_wp2
   go_meet
   case rel=>exact⟨rfl,rfl⟩
  | true =>
   go_wp2_with fail
   refine (ZzN AN W).mono ?_
   rintro e w1 ⟨rfl,hw⟩
   rw[hp2,hw]
   clear hw
   cases p2 with
   | false =>
    obtain rfl:g=false:=by rw[← HG.out];simp
    clear HG hp1 hp2 hp3 hp4
    go_wp2
    go_meet
    case rel=>exact⟨rfl,rfl⟩
   | true =>
    go_wp2_with fail
    refine (ZzN B W).mono ?_
    rintro e w1 ⟨rfl,hw⟩
    rw[hp3,hw]
    clear hw
    cases p3 with
    | false =>
     obtain rfl:g=false:=by rw[← HG.out];simp
     clear HG hp1 hp2 hp3 hp4
     go_wp2
     go_meet
     case rel=>exact⟨rfl,rfl⟩
    | true =>
     go_wp2_with fail
     refine (ZzN BN W).mono ?_
     rintro e w1 ⟨rfl,hw⟩
     rw[hp4,hw]
     clear hw
     cases p4 with
     | false =>
      obtain rfl:g=false:=by rw[← HG.out];simp
      clear HG hp1 hp2 hp3 hp4
      go_wp2
      go_meet
      case rel=>exact⟨rfl,rfl⟩
     | true =>
      by_cases z1:A=0
      ·subst z1
       by_cases z2:0<AN
       ·obtain rfl:g=false:=by rw[← HG.out];simp[z2]
        clear HG hp1 hp2 hp3 hp4
        go_wp2
        go_meet
        case rel=>exact⟨rfl,rfl⟩
       ·have z3:decide (0<AN)=false:=decide_eq_false z2
        by_cases z4:B=0
        ·subst z4
         by_cases z5:0<BN
         ·obtain rfl:g=false:=by rw[← HG.out];simp[z5]
          clear HG hp1 hp2 hp3 hp4
          go_wp2
          go_meet
          case rel=>exact⟨rfl,rfl⟩
         ·obtain rfl:g=true:=by rw[← HG.out];simp[z2,z5]
          have z6:decide (0<BN)=false:=decide_eq_false z5
          clear HG hp1 hp2 hp3 hp4
          go_wp2
          go_meet
          case rel=>exact⟨rfl,rfl⟩
        ·obtain rfl:g=true:=by rw[← HG.out];simp[z2,z4]
         have z6:(B == 0)=false:=by simpa using z4
         clear HG hp1 hp2 hp3 hp4
         go_wp2
         go_meet
         case rel=>exact⟨rfl,rfl⟩
      ·have z3:(A == 0)=false:=by simpa using z1
       by_cases z4:B=0
       ·subst z4
        by_cases z5:0<BN
        ·obtain rfl:g=false:=by rw[← HG.out];simp[z5]
         clear HG hp1 hp2 hp3 hp4
         go_wp2
         go_meet
         case rel=>exact⟨rfl,rfl⟩
        ·obtain rfl:g=true:=by rw[← HG.out];simp[z1,z5]
         have z6:decide (0<BN)=false:=decide_eq_false z5
         clear HG hp1 hp2 hp3 hp4
         go_wp2
         go_meet
         case rel=>exact⟨rfl,rfl⟩
       ·obtain rfl:g=true:=by rw[← HG.out];simp[z1,z4]
        have z6:(B == 0)=false:=by simpa using z4
        clear HG hp1 hp2 hp3 hp4
        go_wp2
        go_meet
        case rel=>exact⟨rfl,rfl⟩
 case rest =>
  obtain⟨rfl,rfl⟩:=hcut
  cases g with
  | false =>
   have HE:Hid (r=2):=(by have hg:=HGG.out;show _=_;rw[← HR.out];simp[chkH,hg])
   clear HGG HR
   go_wp2
   go_ret
   exact⟨ret_int HE.out.symm,hBl⟩
  | true =>
   have HG:Hid (rngB ⟨A,AN,B,BN,ls⟩=true):=HGG.out
   clear HGG
   obtain⟨fb,hfb⟩:∃ f,fldB ls=f:=⟨_,rfl⟩
   have HFB:Hid (fldB ls=fb):=hfb
   clear hfb
   go_wp2_with fail
   refine (Zzq ⟨A,AN,B,BN,ls⟩ _ _ hv1 hl HTX.out fb HFB).mono ?_
   rintro e W4 ⟨rfl,hB4⟩
   have hB04:=hBl.trans (hB4.mono hBl.size)
   cases fb with
   | false =>
    have HE:Hid (r=6):=(by
     have h1:=HG.out
     have h2:=HFB.out
     show _=_
     rw[← HR.out]
     simp[chkH,h1,h2])
    clear HR HG HFB
    go_wp2
    go_ret
    exact⟨ret_int HE.out.symm,hB04⟩
   | true =>
    have hxW:Hx W4 w.heap.size ⟨A,AN,B,BN,ls⟩ (.slice lo ls.length lc):=hx.low hB4
    have hv4:=HMk.keep hv1 hB4 (Nat.le_refl _)
    obtain⟨RO,hO⟩:∃ RO,oldL ⟨A,AN,B,BN,ls⟩=RO:=⟨_,rfl⟩
    obtain⟨RN,hN⟩:∃ RN,newL ⟨A,AN,B,BN,ls⟩=RN:=⟨_,rfl⟩
    have HO:Hid (oldL ⟨A,AN,B,BN,ls⟩=RO):=hO
    have HN:Hid (newL ⟨A,AN,B,BN,ls⟩=RN):=hN
    obtain⟨ol,hol⟩:∃ n,RO.length=n:=⟨_,rfl⟩
    obtain⟨nl,hnl⟩:∃ n,RN.length=n:=⟨_,rfl⟩
    have HE:Hid ((if AN≠(ol:Int)∨BN≠(nl:Int) then (120:Int) else if ls.all (fun m=>decide (m.sg=32))=true then 50 else 0)=r):=(by
     have h1:=HG.out
     have h2:=HFB.out
     show _=_
     rw[← HR.out,← hol,← hnl,← hO,← hN]
     simp only[chkH,h1,h2,Bool.true_eq_false,if_false])
    have hxx:∀ u:World,Low W4 u→Hx u w.heap.size ⟨A,AN,B,BN,ls⟩ (.slice lo ls.length lc):=fun u hu=>hxW.low hu
    have hx4:∀ u:World,Low W4 u→u.cell? ⟨w.heap.size,0,none⟩=some (.int .i64 A)∧u.cell? ⟨w.heap.size,1,none⟩=some (.int .i64 AN)∧u.cell? ⟨w.heap.size,2,none⟩=some (.int .i64 B)∧u.cell? ⟨w.heap.size,3,none⟩=some (.int .i64 BN)∧u.cell? ⟨w.heap.size,4,none⟩=some (.slice lo ls.length lc):=fun u hu=>(hxx u hu).cells
    clear hO hN HR HG HFB x0 x1 x2 x3 x4
    go_upto_region 5 with fail
    obtain⟨cb,hcb⟩:∃ b,decide (AN≠(ol:Int)∨BN≠(nl:Int))=b:=⟨_,rfl⟩
    have HCB:Hid (decide (AN≠(ol:Int)∨BN≠(nl:Int))=cb):=hcb
    clear hcb
    go_cut [62] from 49 to 62 (fun c wz=>c=.bool cb∧Low W4 wz)
    case first =>
     have hlow:Low W4 (W4.drewN 1):=Below.dN (Below.refl _ W4) 1
     by_cases z1:AN=(ol:Int)
     ·have hne:(AN != (ol:Int))=false:=by simpa using z1
      by_cases z2:BN=(nl:Int)
      ·have hne2:(BN != (nl:Int))=false:=by simpa using z2
       obtain rfl:cb=false:=by rw[← HCB.out];simp[z1,z2]
       clear HCB z1 z2
       refine wp_region_noPanic ?_
       refine wp_region_held_drew (S:=fun u=>Low W4 u) (by kernel_rfl) hlow (fun hHeld=>?_)
       refine Y_t 0 49 _ (.pointer (some ⟨w.heap.size,1,none⟩)) rfl (Or.inl ⟨by kernel_rfl,fun u hu=>by kernel_rfl⟩) hHeld ?_
       simp only[Act.put,Y_a,Y_b,Y_c]
       refine Y_t 1 50 _ (.int .i64 AN) rfl (Or.inl ⟨by kernel_rfl,fun u hu=>Zon (hx4 u hu).2.1 (.tmp 49) (by kernel_rfl) (by kernel_rfl)⟩) hHeld ?_
       simp only[Act.put,Y_a,Y_b,Y_c]
       refine Y_t 2 51 _ (hkV ⟨A,AN,B,BN,ls⟩ (.slice lo ls.length lc)) rfl (Or.inl ⟨by kernel_rfl,fun u hu=>ZwM (hxx u hu) (.tmp 1) (by kernel_rfl) (by kernel_rfl)⟩) hHeld ?_
       simp only[Act.put,Y_a,Y_b,Y_c]
       refine Y_e 3 52 _ rfl 84 (.func 84) #[.tmp 51] #[45] (by kernel_rfl) #[] (by kernel_rfl) #[hkV ⟨A,AN,B,BN,ls⟩ (.slice lo ls.length lc)] (by kernel_rfl) (enters_of Tryz.func84 (by kernel_rfl) rfl) _ (ZxJ hv4 hl HO hHeld) ?_
       rintro v5 w5 hu5 ⟨o5,c5,rfl⟩
       rw[hol]
       replace hHeld:=hu5
       simp only[Act.put,Y_a,Y_b,Y_c]
       refine Y_t 4 53 _ (.int .i64 (ol:Int)) rfl (Or.inl ⟨by kernel_rfl,fun u hu=>by kernel_rfl⟩) hHeld ?_
       simp only[Act.put,Y_a,Y_b,Y_c]
       refine Y_t 5 54 _ (.bool (AN != (ol:Int))) rfl (Or.inl ⟨by kernel_rfl,fun u hu=>by kernel_rfl⟩) hHeld ?_
       simp only[Act.put,Y_a,Y_b,Y_c]
       simp only[hne]
       refine Y_t 6 55 _ (.bool false) rfl (Or.inl ⟨by kernel_rfl,fun u hu=>by kernel_rfl⟩) hHeld ?_
       simp only[Act.put,Y_a,Y_b,Y_c]
       refine Y_t 7 56 _ (.pointer (some ⟨w.heap.size,3,none⟩)) rfl (Or.inl ⟨by kernel_rfl,fun u hu=>by kernel_rfl⟩) hHeld ?_
       simp only[Act.put,Y_a,Y_b,Y_c]
       refine Y_t 8 57 _ (.int .i64 BN) rfl (Or.inl ⟨by kernel_rfl,fun u hu=>Zon (hx4 u hu).2.2.2.1 (.tmp 56) (by kernel_rfl) (by kernel_rfl)⟩) hHeld ?_
       simp only[Act.put,Y_a,Y_b,Y_c]
       refine Y_t 9 58 _ (hkV ⟨A,AN,B,BN,ls⟩ (.slice lo ls.length lc)) rfl (Or.inl ⟨by kernel_rfl,fun u hu=>ZwM (hxx u hu) (.tmp 1) (by kernel_rfl) (by kernel_rfl)⟩) hHeld ?_
       simp only[Act.put,Y_a,Y_b,Y_c]
       refine Y_e 10 59 _ rfl 85 (.func 85) #[.tmp 58] #[45] (by kernel_rfl) #[] (by kernel_rfl) #[hkV ⟨A,AN,B,BN,ls⟩ (.slice lo ls.length lc)] (by kernel_rfl) (enters_of Tryz.func85 (by kernel_rfl) rfl) _ (Zxl hv4 hl HN hHeld) ?_
       rintro v6 w6 hu6 ⟨o6,c6,rfl⟩
       rw[hnl]
       replace hHeld:=hu6
       simp only[Act.put,Y_a,Y_b,Y_c]
       refine Y_t 11 60 _ (.int .i64 (nl:Int)) rfl (Or.inl ⟨by kernel_rfl,fun u hu=>by kernel_rfl⟩) hHeld ?_
       simp only[Act.put,Y_a,Y_b,Y_c]
       refine Y_t 12 61 _ (.bool (BN != (nl:Int))) rfl (Or.inl ⟨by kernel_rfl,fun u hu=>by kernel_rfl⟩) hHeld ?_
       simp only[Act.put,Y_a,Y_b,Y_c]
       simp only[hne2]
       refine Y_t 13 62 _ (.bool false) rfl (Or.inl ⟨by kernel_rfl,fun u hu=>by kernel_rfl⟩) hHeld ?_
       simp only[Act.put,Y_a,Y_b,Y_c]
       refine wpAnyH_done (by kernel_rfl) ?_ _
       refine NoPanic.normal ?_
       go_wp2_with fail
       go_meet
       case rel=>exact⟨rfl,hHeld⟩
      ·have hne2:(BN != (nl:Int))=true:=by simpa using z2
       obtain rfl:cb=true:=by rw[← HCB.out];simp[z2]
       clear HCB z1 z2
       refine wp_region_noPanic ?_
       refine wp_region_held_drew (S:=fun u=>Low W4 u) (by kernel_rfl) hlow (fun hHeld=>?_)
       refine Y_t 0 49 _ (.pointer (some ⟨w.heap.size,1,none⟩)) rfl (Or.inl ⟨by kernel_rfl,fun u hu=>by kernel_rfl⟩) hHeld ?_
       simp only[Act.put,Y_a,Y_b,Y_c]
       refine Y_t 1 50 _ (.int .i64 AN) rfl (Or.inl ⟨by kernel_rfl,fun u hu=>Zon (hx4 u hu).2.1 (.tmp 49) (by kernel_rfl) (by kernel_rfl)⟩) hHeld ?_
       simp only[Act.put,Y_a,Y_b,Y_c]
       refine Y_t 2 51 _ (hkV ⟨A,AN,B,BN,ls⟩ (.slice lo ls.length lc)) rfl (Or.inl ⟨by kernel_rfl,fun u hu=>ZwM (hxx u hu) (.tmp 1) (by kernel_rfl) (by kernel_rfl)⟩) hHeld ?_
       simp only[Act.put,Y_a,Y_b,Y_c]
       refine Y_e 3 52 _ rfl 84 (.func 84) #[.tmp 51] #[45] (by kernel_rfl) #[] (by kernel_rfl) #[hkV ⟨A,AN,B,BN,ls⟩ (.slice lo ls.length lc)] (by kernel_rfl) (enters_of Tryz.func84 (by kernel_rfl) rfl) _ (ZxJ hv4 hl HO hHeld) ?_
       rintro v5 w5 hu5 ⟨o5,c5,rfl⟩
       rw[hol]
       replace hHeld:=hu5
       simp only[Act.put,Y_a,Y_b,Y_c]
       refine Y_t 4 53 _ (.int .i64 (ol:Int)) rfl (Or.inl ⟨by kernel_rfl,fun u hu=>by kernel_rfl⟩) hHeld ?_
       simp only[Act.put,Y_a,Y_b,Y_c]
       refine Y_t 5 54 _ (.bool (AN != (ol:Int))) rfl (Or.inl ⟨by kernel_rfl,fun u hu=>by kernel_rfl⟩) hHeld ?_
       simp only[Act.put,Y_a,Y_b,Y_c]
       simp only[hne]
       refine Y_t 6 55 _ (.bool false) rfl (Or.inl ⟨by kernel_rfl,fun u hu=>by kernel_rfl⟩) hHeld ?_
       simp only[Act.put,Y_a,Y_b,Y_c]
       refine Y_t 7 56 _ (.pointer (some ⟨w.heap.size,3,none⟩)) rfl (Or.inl ⟨by kernel_rfl,fun u hu=>by kernel_rfl⟩) hHeld ?_
       simp only[Act.put,Y_a,Y_b,Y_c]
       refine Y_t 8 57 _ (.int .i64 BN) rfl (Or.inl ⟨by kernel_rfl,fun u hu=>Zon (hx4 u hu).2.2.2.1 (.tmp 56) (by kernel_rfl) (by kernel_rfl)⟩) hHeld ?_
       simp only[Act.put,Y_a,Y_b,Y_c]
       refine Y_t 9 58 _ (hkV ⟨A,AN,B,BN,ls⟩ (.slice lo ls.length lc)) rfl (Or.inl ⟨by kernel_rfl,fun u hu=>ZwM (hxx u hu) (.tmp 1) (by kernel_rfl) (by kernel_rfl)⟩) hHeld ?_
       simp only[Act.put,Y_a,Y_b,Y_c]
       refine Y_e 10 59 _ rfl 85 (.func 85) #[.tmp 58] #[45] (by kernel_rfl) #[] (by kernel_rfl) #[hkV ⟨A,AN,B,BN,ls⟩ (.slice lo ls.length lc)] (by kernel_rfl) (enters_of Tryz.func85 (by kernel_rfl) rfl) _ (Zxl hv4 hl HN hHeld) ?_
       rintro v6 w6 hu6 ⟨o6,c6,rfl⟩
       rw[hnl]
       replace hHeld:=hu6
       simp only[Act.put,Y_a,Y_b,Y_c]
       refine Y_t 11 60 _ (.int .i64 (nl:Int)) rfl (Or.inl ⟨by kernel_rfl,fun u hu=>by kernel_rfl⟩) hHeld ?_
       simp only[Act.put,Y_a,Y_b,Y_c]
       refine Y_t 12 61 _ (.bool (BN != (nl:Int))) rfl (Or.inl ⟨by kernel_rfl,fun u hu=>by kernel_rfl⟩) hHeld ?_
       simp only[Act.put,Y_a,Y_b,Y_c]
       simp only[hne2]
       refine Y_t 13 62 _ (.bool true) rfl (Or.inl ⟨by kernel_rfl,fun u hu=>by kernel_rfl⟩) hHeld ?_
       simp only[Act.put,Y_a,Y_b,Y_c]
       refine wpAnyH_done (by kernel_rfl) ?_ _
       refine NoPanic.normal ?_
       go_wp2_with fail
       go_meet
       case rel=>exact⟨rfl,hHeld⟩
     ·have hne:(AN != (ol:Int))=true:=by simpa using z1
      obtain rfl:cb=true:=by rw[← HCB.out];simp[z1]
      clear HCB z1
      refine wp_region_noPanic ?_
      refine wp_region_held_drew (S:=fun u=>Low W4 u) (by kernel_rfl) hlow (fun hHeld=>?_)
      refine Y_t 0 49 _ (.pointer (some ⟨w.heap.size,1,none⟩)) rfl (Or.inl ⟨by kernel_rfl,fun u hu=>by kernel_rfl⟩) hHeld ?_
      simp only[Act.put,Y_a,Y_b,Y_c]
      refine Y_t 1 50 _ (.int .i64 AN) rfl (Or.inl ⟨by kernel_rfl,fun u hu=>Zon (hx4 u hu).2.1 (.tmp 49) (by kernel_rfl) (by kernel_rfl)⟩) hHeld ?_
      simp only[Act.put,Y_a,Y_b,Y_c]
      refine Y_t 2 51 _ (hkV ⟨A,AN,B,BN,ls⟩ (.slice lo ls.length lc)) rfl (Or.inl ⟨by kernel_rfl,fun u hu=>ZwM (hxx u hu) (.tmp 1) (by kernel_rfl) (by kernel_rfl)⟩) hHeld ?_
      simp only[Act.put,Y_a,Y_b,Y_c]
      refine Y_e 3 52 _ rfl 84 (.func 84) #[.tmp 51] #[45] (by kernel_rfl) #[] (by kernel_rfl) #[hkV ⟨A,AN,B,BN,ls⟩ (.slice lo ls.length lc)] (by kernel_rfl) (enters_of Tryz.func84 (by kernel_rfl) rfl) _ (ZxJ hv4 hl HO hHeld) ?_
      rintro v5 w5 hu5 ⟨o5,c5,rfl⟩
      rw[hol]
      replace hHeld:=hu5
      simp only[Act.put,Y_a,Y_b,Y_c]
      refine Y_t 4 53 _ (.int .i64 (ol:Int)) rfl (Or.inl ⟨by kernel_rfl,fun u hu=>by kernel_rfl⟩) hHeld ?_
      simp only[Act.put,Y_a,Y_b,Y_c]
      refine Y_t 5 54 _ (.bool (AN != (ol:Int))) rfl (Or.inl ⟨by kernel_rfl,fun u hu=>by kernel_rfl⟩) hHeld ?_
      simp only[Act.put,Y_a,Y_b,Y_c]
      simp only[hne]
      refine Y_t 6 55 _ (.bool true) rfl (Or.inl ⟨by kernel_rfl,fun u hu=>by kernel_rfl⟩) hHeld ?_
      simp only[Act.put,Y_a,Y_b,Y_c]
      refine Y_t 7 56 _ undef rfl (Or.inr ⟨by kernel_rfl,rfl⟩) hHeld ?_
      simp only[Act.put,Y_a,Y_b,Y_c]
      refine Y_t 8 57 _ undef rfl (Or.inr ⟨by kernel_rfl,rfl⟩) hHeld ?_
      simp only[Act.put,Y_a,Y_b,Y_c]
      refine Y_t 9 58 _ undef rfl (Or.inr ⟨by kernel_rfl,rfl⟩) hHeld ?_
      simp only[Act.put,Y_a,Y_b,Y_c]
      refine ZdG 10 59 _ rfl (by kernel_rfl) (by kernel_rfl) (by kernel_rfl) hHeld ?_
      simp only[Act.put,Y_a,Y_b,Y_c]
      refine Y_t 11 60 _ undef rfl (Or.inr ⟨by kernel_rfl,rfl⟩) hHeld ?_
      simp only[Act.put,Y_a,Y_b,Y_c]
      refine Y_t 12 61 _ undef rfl (Or.inr ⟨by kernel_rfl,rfl⟩) hHeld ?_
      simp only[Act.put,Y_a,Y_b,Y_c]
      refine Y_t 13 62 _ (.bool true) rfl (Or.inl ⟨by kernel_rfl,fun u hu=>by kernel_rfl⟩) hHeld ?_
      simp only[Act.put,Y_a,Y_b,Y_c]
      refine wpAnyH_done (by kernel_rfl) ?_ _
      refine NoPanic.normal ?_
      go_wp2_with fail
      go_meet
      case rel=>exact⟨rfl,hHeld⟩
    case rest =>
     obtain⟨rfl,hlow⟩:=hcut
     obtain⟨x0,x1,x2,x3,x4⟩:=hx4 _ hlow
     have hv5:=HMk.keep hv4 hlow (Nat.le_refl _)
     have hBf:=hB04.trans (hlow.mono hB04.size)
     have HAB:=HCB
     cases cb with
     | true =>
      have HE2:Hid (r=120):=(by
       show _=_
       rw[← HE.out,if_pos (of_decide_eq_true HCB.out)])
      clear HE HCB HAB
      go_wp2
      go_ret
      exact⟨ret_int HE2.out.symm,hBf⟩
     | false =>
      have HE2:Hid ((if ls.all (fun m=>decide (m.sg=32))=true then (50:Int) else 0)=r):=(by
       show _=_
       rw[← HE.out,if_neg (of_decide_eq_false HCB.out)])
      clear HE HCB HAB hx4 hxx
      go_wp2
      generalize hwc:wc=W5 at *
      clear hwc
      go_loopw [3] (fun iv wr=>∃ (k:Nat),k≤ls.length∧iv=.int .i64 (k:Int)∧wr=W5∧Hid ((if (ls.drop k).all (fun m=>decide (m.sg=32))=true then (50:Int) else 0)=r)) (fun iv _=>ls.length-(intOf iv).toNat)
      case atStart=>exact⟨0,Nat.zero_le _,by go_num,rfl,HE2⟩
      case round =>
       obtain⟨k,hk,rfl,rfl,HI⟩:=hrel
       by_cases hlt:k<ls.length
       ·obtain⟨b,off,rfl,hb,hc⟩:=HMk.at hv5 (by omega)
        obtain⟨c0,c1⟩:=hc k hlt
        obtain⟨m,hm⟩:∃ m,ls[k]=m:=⟨_,rfl⟩
        rw[hm] at c0 c1
        have HI2:Hid ((if (decide (m.sg=32) && (ls.drop (k+1)).all (fun m=>decide (m.sg=32)))=true then (50:Int) else 0)=r):=(by
         show _=_
         rw[← HI.out,List.drop_eq_getElem_cons hlt,hm]
         rfl)
        obtain⟨s,tx⟩:=m
        dsimp only at c0 c1 HI2
        clear HI hm hc c1
        have i1:0≤(k:Int):=by omega
        have i2:(k:Int)<(ls.length:Int):=by omega
        by_cases h0:s=32
        ·subst h0
         have HI3:Hid ((if (ls.drop (k+1)).all (fun m=>decide (m.sg=32))=true then (50:Int) else 0)=r):=(by
          show _=_
          rw[← HI2.out]
          rfl)
         clear HI2 HE2
         go_wp2
         exact⟨⟨k+1,by omega,by go_num,trivial,HI3⟩,by simp[intOf];omega⟩
        ·have e0:(s != 32)=true:=by simpa using h0
         have HI3:Hid (r=0):=(by
          show _=_
          rw[← HI2.out]
          simp[h0])
         clear HI2 HE2
         go_wp2
         go_ret
         exact⟨ret_int HI3.out.symm,hBf⟩
       ·have HI3:Hid (r=50):=(by
         show _=_
         rw[← HI.out,List.drop_of_length_le (by omega)]
         rfl)
        have hend:decide ((k:Int)<(ls.length:Int))=false:=decide_eq_false (by omega)
        clear HI HE2
        go_wp2
        go_ret
        exact⟨ret_int HI3.out.symm,hBf⟩
end

section
open Go.RowKit
def HOk (p:List (Hk × Value)):Prop:=p.length≤1099511627776∧∀ x∈p,x.1.ls.length≤1099511627776∧∀ m∈x.1.ls,m.tx.length≤1099511627776
theorem HHp.take {w W:World} {b off n c:Nat} {p:List (Hk × Value)} (h:HHp w (.slice (some ⟨b,off,none⟩) n c) p) (hB:Below w.heap.size w W) (k:Nat) (hk:k<p.length) {x:Hk} {y:Value} (hx:p[k]=(x,y)):(W.cell? ⟨b,off+k * 5,none⟩=some (.int .i64 x.A)∧W.cell? ⟨b,off+k * 5+1,none⟩=some (.int .i64 x.AN)∧W.cell? ⟨b,off+k * 5+2,none⟩=some (.int .i64 x.B)∧W.cell? ⟨b,off+k * 5+3,none⟩=some (.int .i64 x.BN)∧W.cell? ⟨b,off+k * 5+4,none⟩=some y)∧HMk W y x.ls:=by
 have h2:=h.keep hB (Nat.le_refl _)
 obtain⟨b',off',e,_,hc⟩:=h2.at (by omega)
 cases e
 have:=hc k hk
 rw[hx] at this
 refine⟨this,?_⟩
 have hi:=h2.ins p[k] (List.getElem_mem hk)
 rw[hx] at hi
 exact hi
theorem ZuO {l:List Hk} {k:Nat} (hk:k<l.length):errs (l.drop k)=if chkH l[k]≠0 then chkH l[k] else errs (l.drop (k+1)):=by
 rw[List.drop_eq_getElem_cons hk]
 rfl
theorem ZxY {l:List Hk} (h:errs l=0):ordH l=if ordB 0 0 l=true then 0 else 121:=by
 unfold ordH
 rw[h]
 simp
theorem ZxX {l:List Hk} {z:Int} (h:errs l=z) (hz:z≠0):ordH l=z:=by
 unfold ordH
 rw[h,if_pos hz]
theorem ZuP {l:List Hk} (h:errs l=0):∀ x∈l,chkH x=0:=by
 induction l with
 | nil=>intro x hx;cases hx
 | cons y l ih =>
  simp only[errs] at h
  by_cases hy:chkH y≠0
  ·rw[if_pos hy] at h
   exact absurd h hy
  ·rw[if_neg hy] at h
   intro x hx
   rcases List.mem_cons.1 hx with rfl | hx
   ·simpa using hy
   ·exact ih h x hx
theorem ZtV {h:Hk} (hc:chkH h=0):(0≤h.A∧h.A≤2147483647)∧(0≤h.AN∧h.AN≤2147483647)∧(0≤h.B∧h.B≤2147483647)∧(0≤h.BN∧h.BN≤2147483647):=by
 have hr:rngB h=true:=by
  cases hq:rngB h with
  | true=>rfl
  | false=>simp[chkH,hq] at hc
 simp only[rngB,Bool.and_eq_true,nat31,decide_eq_true_eq] at hr
 omega
theorem Zti {h:Hk} (hc:chkH h=0):(-1≤atA h∧atA h≤2147483647)∧(-1≤atB h∧atB h≤2147483647):=by
 have:=ZtV hc
 unfold atA atB
 split<;>split<;>omega
theorem ZyY (p:List (Hk × Value)) (v:Value) (w:World) (hv:HHp w v p) (hok:HOk p) (r:Int) (HR:Hid (ordH (p.map (·.1))=r)):Calls Tryz.prog 120 #[v] w fun e w'=>e=.returned (.int .i64 r)∧Below w.heap.size w w':=by
 obtain⟨vo,vc,rfl⟩:=Holds.form hv.row
 have hpl:p.length≤1099511627776:=hok.1
 have HOK:Hid (HOk p):=hok
 obtain⟨l,hl⟩:∃ l,p.map (·.1)=l:=⟨_,rfl⟩
 have hll:p.length=l.length:=by rw[← hl];simp
 have HL:Hid (p.map (·.1)=l):=hl
 have HLL:Hid (p.length=l.length):=hll
 rw[hl] at HR
 clear hl hll hok
 go_enter Tryz.func120,Tryz.ntmps120
 go_wp2
 go_loopw [3,4] (fun iv _ wr=>∃ (k:Nat),k≤p.length∧iv=.int .i64 (k:Int)∧Below w.heap.size w wr∧Hid (errs l=errs (l.drop k))) (fun iv _ _=>p.length-(intOf iv).toNat)
 case atStart=>exact⟨0,Nat.zero_le _,by go_num,Below.refl _ _,rfl⟩
 case round =>
  obtain⟨k,hk,rfl,hB,HI⟩:=hrel
  by_cases hlt:k<p.length
  ·obtain⟨b,off,rfl,hb,_⟩:=hv.at (by omega)
   obtain⟨x,y,hxy⟩:∃ x y,p[k]=(x,y):=⟨_,_,rfl⟩
   obtain⟨⟨c0,c1,c2,c3,c4⟩,hm⟩:=hv.take hB k hlt hxy
   have hmem:(x,y)∈p:=by rw[← hxy];exact List.getElem_mem hlt
   have hbd:=HOK.out.2 _ hmem
   have hlk:l[k]'(by have:=HLL.out;omega)=x:=by
    have hz:l[k]?=some x:=by rw[← HL.out];simp[hlt,hxy]
    exact (List.getElem?_eq_some_iff.1 hz).2
   have HI2:Hid (errs l=if chkH x≠0 then chkH x else errs (l.drop (k+1))):=(by
    show _=_
    rw[HI.out,ZuO (by have:=HLL.out;omega),hlk])
   obtain⟨yo,yc,rfl⟩:=hm.form
   have i1:0≤(k:Int):=by omega
   have i2:(k:Int)<(p.length:Int):=by omega
   obtain⟨z,hz⟩:∃ z,chkH x=z:=⟨_,rfl⟩
   have HZ:Hid (chkH x=z):=hz
   clear HI hlk hz hxy hmem
   go_wp2_with fail
   refine (Zzt x _ _ hm hbd.1 hbd.2 z HZ).mono ?_
   rintro e w1 ⟨rfl,hB1⟩
   have hB01:=hB.trans (hB1.mono hB.size)
   by_cases hz0:z=0
   ·subst hz0
    have HI3:Hid (errs l=errs (l.drop (k+1))):=(by
     show _=_
     rw[HI2.out,HZ.out]
     simp)
    clear HI2 HZ
    go_wp2
    exact⟨⟨k+1,by omega,by go_num,hB01,HI3⟩,by simp[intOf];omega⟩
   ·have hz1:(z != 0)=true:=by simpa using hz0
    have HE:Hid (r=z):=(by
     have h1:errs l=z:=by rw[HI2.out,HZ.out,if_pos hz0]
     show _=_
     rw[← HR.out]
     exact ZxX h1 hz0)
    clear HI2 HZ HR
    go_wp2
    go_ret
    exact⟨ret_int HE.out.symm,hB01⟩
  ·have HE0:Hid (errs l=0):=(by
    show _=_
    rw[HI.out,List.drop_of_length_le (by have:=HLL.out;omega)]
    rfl)
   have HE:Hid ((if ordB 0 0 l=true then (0:Int) else 121)=r):=(by
    show _=_
    rw[← HR.out]
    exact (ZxY HE0.out).symm)
   have hend:decide ((k:Int)<(p.length:Int))=false:=decide_eq_false (by omega)
   clear HI HR
   go_wp2
   go_loopw [5,6,7] (fun uv vv iv wr=>∃ (k:Nat) (u v:Int),k≤p.length∧uv=.int .i64 u∧vv=.int .i64 v∧iv=.int .i64 (k:Int)∧(-1≤u∧u≤8589934592)∧(-1≤v∧v≤8589934592)∧Below w.heap.size w wr∧Hid ((if ordB u v (l.drop k)=true then (0:Int) else 121)=r)) (fun _ _ iv _=>p.length-(intOf iv).toNat)
   case atStart=>exact⟨0,0,0,Nat.zero_le _,by go_num,by go_num,by go_num,by omega,by omega,hB,HE⟩
   case round =>
    obtain⟨k,u,v,hk,rfl,rfl,rfl,hu,hv',hB,HI⟩:=hrel
    by_cases hlt:k<p.length
    ·obtain⟨b,off,rfl,hb,_⟩:=hv.at (by omega)
     obtain⟨x,y,hxy⟩:∃ x y,p[k]=(x,y):=⟨_,_,rfl⟩
     obtain⟨⟨c0,c1,c2,c3,c4⟩,hm⟩:=hv.take hB k hlt hxy
     have hlk:l[k]'(by have:=HLL.out;omega)=x:=by
      have hz:l[k]?=some x:=by rw[← HL.out];simp[hlt,hxy]
      exact (List.getElem?_eq_some_iff.1 hz).2
     have hck:chkH x=0:=ZuP HE0.out x (by rw[← hlk];exact List.getElem_mem _)
     have hn:=ZtV hck
     obtain⟨X,hX⟩:∃ X,atA x=X:=⟨_,rfl⟩
     obtain⟨Y,hY⟩:∃ Y,atB x=Y:=⟨_,rfl⟩
     have ha:=Zti hck
     rw[hX,hY] at ha
     have HX:Hid (atA x=X):=hX
     have HY:Hid (atB x=Y):=hY
     obtain⟨yo,yc,rfl⟩:=hm.form
     have i1:0≤(k:Int):=by omega
     have i2:(k:Int)<(p.length:Int):=by omega
     have HI2:Hid ((if (decide (u≤X) && decide (X-u=Y-v) && ordB (X+x.AN) (Y+x.BN) (l.drop (k+1)))=true then (0:Int) else 121)=r):=(by
      show _=_
      have e:ordB u v (x::l.drop (k+1))=(decide (u≤X) && decide (X-u=Y-v) && ordB (X+x.AN) (Y+x.BN) (l.drop (k+1))):=by
       simp only[ordB]
       rw[hX,hY]
      rw[← HI.out,List.drop_eq_getElem_cons (l:=l) (i:=k) (by have:=HLL.out;omega),hlk,e])
     clear HI hlk hck hxy hX hY HE
     go_wp2_with fail
     refine (ZyK x _ _ (by omega) (by omega) (by omega) (by omega) X Y HX HY).mono ?_
     rintro e w1 ⟨rfl,hB1⟩
     have hB01:=hB.trans (hB1.mono hB.size)
     have hk1:=fun (q:Addr) (z:Value) (h:wr.cell? q=some z)=>(World.cell?_of_block (w:=wr) (hB1.block _ (World.block_lt_of_cell? _ _ h))).trans h
     have d1:=hk1 _ _ c1
     have d3:=hk1 _ _ c3
     clear hk1 c0 c1 c2 c3 c4
     by_cases h1:X<u
     ·have HE3:Hid (r=121):=(by
       show _=_
       rw[← HI2.out]
       simp[show ¬ u≤X by omega])
      clear HI2 HX HY
      go_wp2
      go_ret
      exact⟨ret_int HE3.out.symm,hB01⟩
     ·have h1':decide (X<u)=false:=decide_eq_false h1
      by_cases h2:X-u=Y-v
      ·have h2':(X-u != Y-v)=false:=by simpa using h2
       have HI3:Hid ((if ordB (X+x.AN) (Y+x.BN) (l.drop (k+1))=true then (0:Int) else 121)=r):=(by
        show _=_
        rw[← HI2.out]
        simp[show u≤X by omega,h2])
       clear HI2 HX HY h2
       go_wp2
       exact⟨⟨k+1,_,_,by omega,by go_num,by go_num,by go_num,by omega,by omega,hB01,HI3⟩,by simp[intOf];omega⟩
      ·have h2':(X-u != Y-v)=true:=by simpa using h2
       have HE3:Hid (r=121):=(by
        show _=_
        rw[← HI2.out]
        simp[h2])
       clear HI2 HX HY h2
       go_wp2
       go_ret
       exact⟨ret_int HE3.out.symm,hB01⟩
    ·have HE3:Hid (r=0):=(by
      show _=_
      rw[← HI.out,List.drop_of_length_le (by have:=HLL.out;omega)]
      rfl)
     have hend2:decide ((k:Int)<(p.length:Int))=false:=decide_eq_false (by omega)
     clear HI HE
     go_wp2
     go_ret
     exact⟨ret_int HE3.out.symm,hB⟩
end

section
open Go.RowKit
end

section
open Go.RowKit
theorem ZmZ {u:World} {b off n c i:Nat} (hi:i<n) {op:Oper} (x y:Operand) (ho:op.op=.indexAddr 40 x y) {ev:Operand→Value} (hx:ev x=.slice (some ⟨b,off,none⟩) n c) (hy:ev y=.int .i64 (i:Int)) :
  (execOp ev op).run Tryz.prog u=.ok (.value (.pointer (some ⟨b,off+i * 5,none⟩))) u:=by
 have i1:0≤(i:Int):=by omega
 have i2:(i:Int)<(n:Int):=by omega
 simp only[execOp,ho,hx,hy]
 go_simp
def HkAt (u:World) (b o:Nat) (x:Hk) (y:Value):Prop:=u.cell? ⟨b,o,none⟩=some (.int .i64 x.A)∧u.cell? ⟨b,o+1,none⟩=some (.int .i64 x.AN)∧u.cell? ⟨b,o+2,none⟩=some (.int .i64 x.B)∧u.cell? ⟨b,o+3,none⟩=some (.int .i64 x.BN)∧u.cell? ⟨b,o+4,none⟩=some y
theorem HkAt.low {u u':World} {b o:Nat} {x:Hk} {y:Value} (h:HkAt u b o x y) (hB:Low u u'):HkAt u' b o x y:=by
 have key:∀ (q:Addr) (z:Value),u.cell? q=some z→u'.cell? q=some z:=fun q z hz=>(World.cell?_of_block (w:=u) (Below.block hB _ (World.block_lt_of_cell? _ _ hz))).trans hz
 exact⟨key _ _ h.1,key _ _ h.2.1,key _ _ h.2.2.1,key _ _ h.2.2.2.1,key _ _ h.2.2.2.2⟩
theorem Zom {u:World} {b o:Nat} {h:Hk} {yo:Option Addr} {n yc:Nat} (q:HkAt u b o h (.slice yo n yc)) {op:Oper} (x:Operand) (ho:op.op=.load 45 x) {ev:Operand→Value} (hx:ev x=.pointer (some ⟨b,o,none⟩)) :
  (execOp ev op).run Tryz.prog u=.ok (.value (hkV h (.slice yo n yc))) u:=by
 obtain⟨d0,d1,d2,d3,d4⟩:=q
 unfold hkV
 simp only[execOp,ho,hx]
 go_simp
end

section
open Go.RowKit
structure Ls (w:World) (g n:Nat) (Z:List Int) (u:World):Prop where
 low:Below w.heap.size w u
 own:u.ownsRow w.heap.size 3 1 (.slice (some ⟨g,0,none⟩) n n) n (icells Z)
theorem Ls.drewN {w u:World} {g n:Nat} {Z:List Int} (h:Ls w g n Z u) (k:Nat):Ls w g n Z (u.drewN k):=⟨Below.dN h.low k,h.own⟩
theorem Ls.keep {w u u':World} {g n:Nat} {Z:List Int} (h:Ls w g n Z u) (hb:Below u.heap.size u u'):Ls w g n Z u':=⟨h.low.trans (hb.mono h.low.size),ZhK h.own hb⟩
theorem Ls.set {w u:World} {g n:Nat} {Z:List Int} (h:Ls w g n Z u) (k:Nat) (m:Int):Ls w g n (Z.set k m) (u.setCell ⟨g,k,none⟩ (.int .i64 m)):=by
 obtain⟨p1,g1⟩:=h.own.stored k (.int .i64 m)
 have e:(icells Z).set k (.int .i64 m)=icells (Z.set k m):=by simp[icells,List.map_set]
 rw[e] at p1
 exact⟨h.low.grown g1 h.low.size (fun j hj=>ZhJ h.own (by simpa [Value.ownBlock] using hj)),p1⟩
theorem Ls.len {w u:World} {g n:Nat} {Z:List Int} (h:Ls w g n Z u):Z.length=n:=by
 have:=h.own.1
 rw[Zes,Nat.mul_one] at this
 exact this
theorem Ls.at {w u:World} {g n:Nat} {Z:List Int} (h:Ls w g n Z u) {k:Nat} {z:Int} (hz:Z[k]?=some z):u.cell? ⟨g,k,none⟩=some (.int .i64 z):=by
 have hl:=(List.getElem?_eq_some_iff.1 hz).1
 rw[h.len] at hl
 rw[h.own.cellAt k (by omega)]
 simp[icells,hz]
theorem ZfO {w u:World} (h:Low w u) (r:Option Nat):w.grownBy u r:=⟨Below.os h,Below.tape h,Below.output h,Below.size h,fun k hk _=>Below.block h k hk⟩
theorem ZdS (u:World) (g j:Nat) (v:Value):u.grownBy (u.setCell ⟨g,j,none⟩ v) (some g):=⟨rfl,rfl,rfl,(KeepsWalks.setCell u _ v).size,fun k _ hk=>Below.heap_setCell _ _ _ k (fun e=>hk (by rw[e]))⟩
theorem ZdR {w u:World} {r:Option Nat} (h:w.grownBy u r) {B:Nat} (hB:w.heap.size≤B) (j:Nat) (v:Value):w.grownBy (u.setCell ⟨B,j,none⟩ v) r :=
 ⟨h.os,h.tape,h.output,Nat.le_trans h.size (ZdS u B j v).size,fun k hk hn=>(heap_setCell_other u _ k _ (fun e=>by simp at e;omega)).trans (h.block k hk hn)⟩
theorem ZdP {w u:World} {r:Option Nat} (h:w.grownBy u r) (k:Nat):w.grownBy (u.drewN k) r:=⟨h.os,h.tape,h.output,h.size,h.block⟩
end

section
open Go.RowKit
theorem ZhG {u:World} {base:Nat} {e:TypeId} {s:Nat} {v:Value} {n:Nat} {xs:List Value} (h:u.ownsRow base e s v n xs) {g:Nat} (hg:v.ownBlock=some g):g<u.heap.size:=by
 rcases h.2 with ⟨rfl,_⟩ | ⟨b,cap,cur,rfl,_,hb,_⟩
 ·cases hg
 ·simp[Value.ownBlock] at hg
  subst hg
  exact (Array.getElem?_eq_some_iff.1 hb).1
theorem ZhH {u:World} {base base':Nat} {e e':TypeId} {s s':Nat} {v v':Value} {n n':Nat} {xs xs':List Value} (h:u.ownsRow base e s v n xs) (h':u.ownsRow base' e' s' v' n' xs') (he:e≠e') {g:Nat} (hg:v.ownBlock=some g):v'.ownBlock≠some g:=by
 intro hg'
 rcases h.2 with ⟨rfl,_⟩ | ⟨b,cap,cur,rfl,_,hb,_⟩
 ·cases hg
 ·rcases h'.2 with ⟨rfl,_⟩ | ⟨b',cap',cur',rfl,_,hb',_⟩
  ·cases hg'
  ·simp[Value.ownBlock] at hg hg'
   subst hg hg'
   rw[hb] at hb'
   simp at hb'
   exact he hb'.2
structure Hs (w:World) (ov:Value) (P:List (Hk × Value)) (u:World):Prop where
 low:Below w.heap.size w u
 own:u.ownsRow w.heap.size 45 5 ov P.length (hkcells P)
 ins:∀ x∈P,u.ownsRow w.heap.size 47 2 x.2 x.1.ls.length (mkcells x.1.ls)
theorem Hs.nil (w:World):Hs w (.slice none 0 0) [] w:=⟨Below.refl _ _,Zen _ _ _ _,fun _ h=>by cases h⟩
theorem Hs.alloc {w:World} {ov:Value} {P:List (Hk × Value)} {u:World} (h:Hs w ov P u) (o:Obj):Hs w ov P (u.alloc o):=⟨h.low.alloc h.low.size o,h.own.alloc o,fun x hx=>(h.ins x hx).alloc o⟩
theorem Hs.drewN {w:World} {ov:Value} {P:List (Hk × Value)} {u:World} (h:Hs w ov P u) (n:Nat):Hs w ov P (u.drewN n):=⟨Below.dN h.low n,h.own,h.ins⟩
theorem Hs.grown {w:World} {ov:Value} {P:List (Hk × Value)} {u u':World} (h:Hs w ov P u) {g:Option Nat} (hg:u.grownBy u' g) (hb:∀ k,g=some k→w.heap.size≤k) (h1:∀ k,g=some k→ov.ownBlock≠some k) (h2:∀ x∈P,∀ k,g=some k→x.2.ownBlock≠some k):Hs w ov P u':=by
 have key:∀ {e:TypeId} {s:Nat} {v:Value} {n:Nat} {xs:List Value},u.ownsRow w.heap.size e s v n xs→(∀ k,g=some k→v.ownBlock≠some k)→u'.ownsRow w.heap.size e s v n xs:=by
  intro e s v n xs ho hne
  refine⟨ho.1,?_⟩
  rcases ho.2 with q | ⟨b,cap,cur,rfl,q2,q3,q4⟩
  ·exact .inl q
  ·refine .inr ⟨b,cap,cur,rfl,q2,?_,q4⟩
   rw[hg.block b (Array.getElem?_eq_some_iff.1 q3).1 (fun e=>hne b e.symm rfl)]
   exact q3
 exact⟨h.low.grown hg h.low.size (fun k hk=>hb k hk),key h.own h1,fun x hx=>key (h.ins x hx) (h2 x hx)⟩
theorem Hs.lt {w:World} {ov:Value} {P:List (Hk × Value)} {u:World} (h:Hs w ov P u):(∀ k,ov.ownBlock=some k→k<u.heap.size)∧∀ x∈P,∀ k,x.2.ownBlock=some k→k<u.heap.size:=⟨fun _ hk=>ZhG h.own hk,fun x hx _ hk=>ZhG (h.ins x hx) hk⟩
theorem Hs.fresh {w:World} {ov:Value} {P:List (Hk × Value)} {u u1 u':World} (h:Hs w ov P u) (h1:Hs w ov P u1) {k:Nat} (hk:u.heap.size≤k) (hg:u1.grownBy u' (some k)):Hs w ov P u':=by
 have hl:=h.lt
 have hs:=h.low.size
 refine h1.grown hg (fun j hj=>by cases hj;omega) (fun j hj=>by cases hj;intro e;have:=hl.1 _ e;omega) (fun x hx j hj=>by cases hj;intro e;have:=hl.2 x hx _ e;omega)
theorem Hs.holds {w:World} {ov:Value} {P:List (Hk × Value)} {u:World} (h:Hs w ov P u):HHp u ov P:=⟨Zeo h.own,fun x hx=>Zeo (h.ins x hx)⟩
theorem Hs.more {w:World} {ov:Value} {P:List (Hk × Value)} {u u':World} (h:Hs w ov P u) {x:Hk} {y ov':Value} (hy:u.ownsRow w.heap.size 47 2 y x.ls.length (mkcells x.ls)) (hg:u.grownBy u' ov.ownBlock) (ho:u'.ownsRow w.heap.size 45 5 ov' (P.length+1) (hkcells P++hkC x y)):Hs w ov' (P++[(x,y)]) u':=by
 have key:∀ {v:Value} {n:Nat} {xs:List Value},u.ownsRow w.heap.size 47 2 v n xs→u'.ownsRow w.heap.size 47 2 v n xs:=by
  intro v n xs hv
  refine⟨hv.1,?_⟩
  rcases hv.2 with q | ⟨b,cap,cur,rfl,q2,q3,q4⟩
  ·exact .inl q
  ·refine .inr ⟨b,cap,cur,rfl,q2,?_,q4⟩
   rw[hg.block b (Array.getElem?_eq_some_iff.1 q3).1 (fun e=>ZhH h.own hv (by decide) e.symm rfl)]
   exact q3
 refine⟨h.low.grown hg h.low.size (fun j hj=>ZhJ h.own hj),?_,fun z hz=>?_⟩
 ·rw[Zeh,List.length_append]
  have e:hkcells [(x,y)]=hkC x y:=by simp[hkcells]
  rw[e]
  exact ho
 ·rcases List.mem_append.1 hz with hz | hz
  ·exact key (h.ins z hz)
  ·rw[List.mem_singleton.1 hz]
   exact key hy
theorem Zhz (w:World) (x:Hk) (y:Value):Holds (w.alloc (hkO x y)) (.slice (some ⟨w.heap.size,0,none⟩) 1 1) 1 (hkC x y):=ZgR w #[.int .i64 x.A,.int .i64 x.AN,.int .i64 x.B,.int .i64 x.BN,y] 45 1 1 (by decide)
theorem Zeb (x:Hk) {o:Option Addr} {n c:Nat}:∀ u∈hkC x (.slice o n c),u.oneCell'=true:=by
 intro u hu
 simp only[hkC,List.mem_cons,List.not_mem_nil,or_false] at hu
 rcases hu with rfl | rfl | rfl | rfl | rfl<;>rfl
theorem Hx.setl {u:World} {b:Nat} {h:Hk} {v:Value} (q:Hx u b h v) (z:Value):Hx (u.setCell ⟨b,4,none⟩ z) b h z:=heap_setCell_same u b 4 _ _ z q
theorem ZyO (p:List (Hk × Value)) (v:Value) (w:World) (hv:HHp w v p) (hok:HOk p):Calls Tryz.prog 70 #[v] w fun e w'=>∃ v' P,e=.returned v'∧Hs w v' P w'∧P.map (·.1)=p.map (·.1):=by
 obtain⟨vo,vc,rfl⟩:=Holds.form hv.row
 have hpl:p.length≤1099511627776:=hok.1
 have HOK:Hid (HOk p):=hok
 clear hok
 go_enter Tryz.func70,Tryz.ntmps70
 go_wp2
 go_loopw [3,4] (fun ov iv wr=>∃ (k:Nat) (P:List (Hk × Value)),k≤p.length∧iv=.int .i64 (k:Int)∧(∃ oo oc,ov=.slice oo k oc)∧Hs w ov P wr∧Hid (P.map (·.1)=(p.take k).map (·.1))∧Hid (P.length=k)) (fun _ iv _=>p.length-(intOf iv).toNat)
 case atStart=>exact⟨0,[],Nat.zero_le _,by go_num,⟨_,_,rfl⟩,Hs.nil w,rfl,rfl⟩
 case round =>
  obtain⟨k,P,hk,rfl,⟨oo,oc,rfl⟩,hS,HP,HPL⟩:=hrel
  by_cases hlt:k<p.length
  ·obtain⟨b,off,rfl,hb,_⟩:=hv.at (by omega)
   obtain⟨x,y,hxy⟩:∃ x y,p[k]=(x,y):=⟨_,_,rfl⟩
   obtain⟨⟨c0,c1,c2,c3,c4⟩,hm⟩:=hv.take hS.low k hlt hxy
   have hbd:=(HOK.out.2 _ (List.getElem_mem hlt)).1
   rw[hxy] at hbd
   dsimp only at hbd
   obtain⟨yo,yc,rfl⟩:=hm.form
   have i1:0≤(k:Int):=by omega
   have i2:(k:Int)<(p.length:Int):=by omega
   have hxb:=Hx.new wr x (.slice yo x.ls.length yc)
   have hB1:Below wr.heap.size wr (wr.alloc (hkO x (.slice yo x.ls.length yc))):=(Below.refl _ wr).alloc (Nat.le_refl _) _
   have hS1:=hS.alloc (hkO x (.slice yo x.ls.length yc))
   have hm1:=HMk.keep hm hB1 (Nat.le_refl _)
   have hsz1:(wr.alloc (hkO x (.slice yo x.ls.length yc))).heap.size=wr.heap.size+1:=by simp
   have hW1:wr.alloc (Obj.cells #[Value.int IntKind.i64 x.A,Value.int IntKind.i64 x.AN,Value.int IntKind.i64 x.B,Value.int IntKind.i64 x.BN,.slice yo x.ls.length yc] 45)=wr.alloc (hkO x (.slice yo x.ls.length yc)):=rfl
   go_upto_region 6 with fail
   generalize wr.alloc (hkO x (.slice yo x.ls.length yc))=W1 at *
   clear hW1
   obtain⟨x0,x1,x2,x3,x4⟩:=hxb.cells
   have hB2:Below W1.heap.size W1 (W1.alloc (.cells #[] 47)):=(Below.refl _ W1).alloc (Nat.le_refl _) _
   have hxb2:=hxb.low hB2
   have hm2:=HMk.keep hm1 hB2 (Nat.le_refl _)
   have hS2:=hS1.alloc (.cells #[] 47)
   have hnil:=Zxn (e:=47) (s:=2) W1 w.heap.size W1.heap.size rfl (by have:=hS1.low.size;exact this)
   obtain⟨y0,y1,y2,y3,y4⟩:=hxb2.cells
   have hlow1:=hS1.low.size
   have hsW2:(W1.alloc (.cells #[] 47)).heap.size=W1.heap.size+1:=by simp
   have HSW2:Hid ((W1.alloc (.cells #[] 47)).heap.size=W1.heap.size+1):=hsW2
   have HSZ1:Hid (W1.heap.size=wr.heap.size+1):=hsz1
   clear hsW2 hsz1
   go_wp2_with (at_builtin;refine Zmi _ (by kernel_rfl) (.tmp 16) (.tmp 18) 43 47 (.agg #[.int .u8 0,.string ⟨#[]⟩]) 2 24 rfl Tryz.underlying43 infoMk rfl (by decide) (by decide) w.heap.size _ _ _ rfl hnil _ x.ls.length (mkcells x.ls) rfl hm2 (Zgo _) (Zgp _) (by omega) (by have:=HSW2.out;omega) ?_)
   intro v3 W3 hown3 hg3 hob3
   obtain⟨ro,rc,rfl⟩:=(Zeo hown3).form
   have hS3:Hs w (.slice oo k oc) P W3:=hS.fresh hS2 (k:=W1.heap.size) (by have:=HSZ1.out;omega) hg3
   have hxb3:Hx W3 wr.heap.size x (.slice yo x.ls.length yc):=hxb2.keep hg3 (by simp[Value.ownBlock];have:=HSZ1.out;omega)
   obtain⟨z0,z1,z2,z3,z4⟩:=hxb3.cells
   have zf:=hxb3.frozen 4
   have hxb4:=hxb3.setl (.slice ro x.ls.length rc)
   have hg4:=ZdS W3 wr.heap.size 4 (.slice ro x.ls.length rc)
   have hS4:Hs w (.slice oo k oc) P (W3.setCell ⟨wr.heap.size,4,none⟩ (.slice ro x.ls.length rc)):=hS.fresh hS3 (k:=wr.heap.size) (Nat.le_refl _) hg4
   have hown4:(W3.setCell ⟨wr.heap.size,4,none⟩ (.slice ro x.ls.length rc)).ownsRow w.heap.size 47 2 (.slice ro x.ls.length rc) x.ls.length (mkcells x.ls):=hown3.kept hg4 (.inr (by
    have e1:=HSZ1.out
    have e2:=HSW2.out
    rcases hob3 with hob3 | hob3
    ·rw[hob3];simp[Value.ownBlock];omega
    ·rw[hob3];simp only[ne_eq,Option.some.injEq];omega))
   obtain⟨t0,t1,t2,t3,t4⟩:=hxb4.cells
   clear hg3 hg4 hob3 hnil hS2 hS3 hxb hxb2 hxb3 hm1 hm2 x0 x1 x2 x3 x4 y0 y1 y2 y3 y4
   go_upto_region 7 with fail
   generalize W3.setCell ⟨wr.heap.size,4,none⟩ (.slice ro x.ls.length rc)=W4 at *
   have hS5:=hS4.alloc (hkO x (.slice ro x.ls.length rc))
   have hrow5:=Zhz W4 x (.slice ro x.ls.length rc)
   have hown5:=hown4.alloc (hkO x (.slice ro x.ls.length rc))
   have hl4:=hS4.low.size
   have hW5:W4.alloc (Obj.cells #[Value.int IntKind.i64 x.A,Value.int IntKind.i64 x.AN,Value.int IntKind.i64 x.B,Value.int IntKind.i64 x.BN,.slice ro x.ls.length rc] 45)=W4.alloc (hkO x (.slice ro x.ls.length rc)):=rfl
   have HS5:Hid ((W4.alloc (hkO x (.slice ro x.ls.length rc))).heap.size=W4.heap.size+1):=(by show _=_;simp)
   have hownP:=hS5.own
   rw[HPL.out] at hownP
   go_wp2_with (at_builtin;refine Zmi _ (by kernel_rfl) (.tmp 21) (.tmp 23) 40 45 (.agg #[.int .i64 0,.int .i64 0,.int .i64 0,.int .i64 0,.slice none 0 0]) 5 56 rfl Tryz.underlying40 infoHk rfl (by decide) (by decide) w.heap.size _ _ _ rfl hownP _ 1 (hkC x (.slice ro x.ls.length rc)) rfl hrow5 rfl (Zeb _) (by omega) (by have:=HS5.out;omega) ?_)
   intro v6 W6 hown6 hg6 _
   have hS6:=hS5.more hown5 hg6 (ov':=v6) (by rw[HPL.out];exact hown6)
   obtain⟨ro6,rc6,rfl⟩:=(Zeo hown6).form
   have HP2:Hid ((P++[(x,Value.slice ro x.ls.length rc)]).map (·.1)=(p.take (k+1)).map (·.1)):=(by
    show _=_
    rw[List.map_append,HP.out,List.take_succ_eq_append_getElem hlt,List.map_append,hxy]
    rfl)
   have HPL2:Hid ((P++[(x,Value.slice ro x.ls.length rc)]).length=k+1):=(by show _=_;rw[List.length_append,HPL.out];rfl)
   clear hg6 hown6 hownP hrow5
   go_wp2
   exact⟨⟨k+1,P++[(x,.slice ro x.ls.length rc)],by omega,by go_num,⟨_,_,rfl⟩,hS6,HP2,HPL2⟩,by simp[intOf];omega⟩
  ·have hend:decide ((k:Int)<(p.length:Int))=false:=decide_eq_false (by omega)
   obtain rfl:k=p.length:=by omega
   go_wp2
   go_ret
   refine⟨_,rfl,P,hS,?_⟩
   rw[HP.out,List.take_length]
end

section
open Go.RowKit
def Sd (sg no:Int):Prop:=sg=45∧no=43∨sg=43∧no=45
theorem ZAa {sg no:Int} (h:Sd sg no) (s:Int):(s≠no∧okS s=true)↔(s=32∨s=sg):=by
 simp only[okS,Bool.or_eq_true,decide_eq_true_eq]
 rcases h with ⟨rfl,rfl⟩ | ⟨rfl,rfl⟩<;>omega
theorem Zyv {sg no:Int} (h:Sd sg no) {s:Int} (hs:s=32∨s=sg) {out R:List (List UInt8)} {tx:List UInt8} {l:List Mk} (hI:out++(if s≠no∧okS s=true then tx::pkL no l else pkL no l)=R):out++[tx]++pkL no l=R:=by
 rw[if_pos ((ZAa h s).2 hs)] at hI
 rw[← hI]
 simp
theorem Zys {sg no:Int} (h:Sd sg no) {s:Int} (h1:s≠32) (h2:s≠sg) {out R:List (List UInt8)} {tx:List UInt8} {l:List Mk} (hI:out++(if s≠no∧okS s=true then tx::pkL no l else pkL no l)=R):out++pkL no l=R:=by
 rw[if_neg (fun q=>by rcases (ZAa h s).1 q with q | q<;>contradiction)] at hI
 exact hI
theorem ZhM {u:World} {base base':Nat} {e:TypeId} {s:Nat} {v:Value} {n:Nat} {xs:List Value} (h:u.ownsRow base e s v n xs) (hb:base'≤base):u.ownsRow base' e s v n xs:=by
 refine⟨h.1,?_⟩
 rcases h.2 with q | ⟨b,cap,cur,rfl,q2,q3,q4⟩
 ·exact .inl q
 ·exact .inr ⟨b,cap,cur,rfl,Nat.le_trans hb q2,q3,q4⟩
theorem Zwj (h:Hk) (v:Value) (sd no:Int) (HSD:Hid (Sd sd no)) (w:World) (hv:HMk w v h.ls) (hl:h.ls.length≤1099511627776) (R:List (List UInt8)) (HR:Hid (pkL no h.ls=R)):Calls Tryz.prog 272 #[hkV h v,.int .u8 sd] w fun e w'=>∃ v',e=.returned v'∧w'.ownsRow w.heap.size 9 1 v' R.length (scells R)∧Below w.heap.size w w':=by
 obtain⟨A,AN,B,BN,ls⟩:=h
 dsimp only at hv hl HR
 obtain⟨lo,lc,rfl⟩:=HMk.form hv
 have hx:=Hx.new w ⟨A,AN,B,BN,ls⟩ (.slice lo ls.length lc)
 have hBl:Below w.heap.size w (w.alloc (hkO ⟨A,AN,B,BN,ls⟩ (.slice lo ls.length lc))):=(Below.refl _ w).alloc (Nat.le_refl _) _
 have hv1:=HMk.keep hv hBl (Nat.le_refl _)
 obtain⟨_,_,_,_,x4⟩:=hx.cells
 have hW:w.alloc (Obj.cells #[Value.int IntKind.i64 A,Value.int IntKind.i64 AN,Value.int IntKind.i64 B,Value.int IntKind.i64 BN,.slice lo ls.length lc] 45)=w.alloc (hkO ⟨A,AN,B,BN,ls⟩ (.slice lo ls.length lc)):=rfl
 have HSZ:Hid ((w.alloc (hkO ⟨A,AN,B,BN,ls⟩ (.slice lo ls.length lc))).heap.size=w.heap.size+1):=(by show _=_;simp)
 unfold hkV
 dsimp only
 clear hv hx
 generalize w.alloc (hkO ⟨A,AN,B,BN,ls⟩ (.slice lo ls.length lc))=W at *
 go_enter Tryz.func272,Tryz.ntmps272
 go_wp2
 clear hW x4
 go_loopw [5,11] (fun ov iv wr=>∃ (k:Nat) (out:List (List UInt8)),k≤ls.length∧out.length≤k∧iv=.int .i64 (k:Int)∧(∃ oo oc,ov=.slice oo out.length oc)∧St W 9 1 ov out.length (scells out) wr∧Hid (out++pkL no (ls.drop k)=R)) (fun _ iv _=>ls.length-(intOf iv).toNat)
 case atStart=>exact⟨0,[],Nat.zero_le _,Nat.le_refl _,by go_num,⟨_,_,rfl⟩,⟨Zen _ _ _ _,Below.refl _ _⟩,HR⟩
 case round =>
  obtain⟨k,out,hk,hok,rfl,⟨oo,oc,rfl⟩,hS,HI⟩:=hrel
  by_cases hlt:k<ls.length
  ·obtain⟨b,off,rfl,hb,_⟩:=HMk.at hv1 (by omega)
   obtain⟨m,hm⟩:∃ m,ls[k]=m:=⟨_,rfl⟩
   obtain⟨c0,c1⟩:=Low.mk hS.low hv1 k hlt hm
   have HI2:Hid (out++(if m.sg≠no∧okS m.sg=true then m.tx::pkL no (ls.drop (k+1)) else pkL no (ls.drop (k+1)))=R):=(by
    show _=_
    rw[← HI.out,List.drop_eq_getElem_cons hlt,hm]
    rfl)
   have i1:0≤(k:Int):=by omega
   have i2:(k:Int)<(ls.length:Int):=by omega
   obtain⟨m0,m1⟩:=(Mx.new wr m).cells
   have hS1:=ZAs (mkO m) hS
   have hsS:=hS.low.size
   have HSM:Hid ((wr.alloc (mkO m)).heap.size=wr.heap.size+1):=(by show _=_;simp)
   have hW2:wr.alloc (Obj.cells #[Value.int IntKind.u8 m.sg,Value.string ⟨m.tx.toArray⟩] 47)=wr.alloc (mkO m):=rfl
   clear HI hm HR
   go_upto_region 5 with fail
   obtain⟨sg,tx⟩:=m
   dsimp only at m0 m1 c0 c1 HI2 hW2
   generalize hwr1:wr.alloc (mkO ⟨sg,tx⟩)=wr1 at *
   clear hW2
   have hs1:=hS1.low.size
   by_cases h1:sg=32
   ·subst h1
    have HI3:Hid (out++[tx]++pkL no (ls.drop (k+1))=R):=Zyv HSD.out (.inl rfl) HI2.out
    clear HI2
    go_wp2_with (at_builtin;refine Zmg _ (by kernel_rfl) (.tmp 24) (.tmp 27) 49 9 (.string ⟨#[]⟩) 1 16 rfl Tryz.underlying49 infoStr rfl (by decide) (by decide) W.heap.size _ _ _ rfl (hS1.own.alloc _) _ 1 (scells [tx]) rfl (ZgR _ _ _ _ _ (by decide)) rfl (ZjU _) (by omega) (by simp;omega) ?_)
    intro v2 w2 hown2 hgrow2
    have hB2:Below W.heap.size W w2:=(hS1.low.alloc hS1.low.size _).grown hgrow2 (by simp;omega) (fun _ hj=>ZhJ hS1.own hj)
    rw[← ZzY] at hown2
    obtain⟨oo2,oc2,rfl⟩:=(Zeo hown2).form
    clear hgrow2
    go_wp2
    exact⟨⟨k+1,out++[tx],by omega,by simp;omega,by go_num,⟨_,_,by rw[List.length_append];rfl⟩,⟨by rw[List.length_append];exact hown2,hB2⟩,HI3⟩,by simp[intOf];omega⟩
   ·have e1:(sg == 32)=false:=by simpa using h1
    by_cases h2:sg=sd
    ·subst h2
     have HI3:Hid (out++[tx]++pkL no (ls.drop (k+1))=R):=Zyv HSD.out (.inr rfl) HI2.out
     clear HI2 h1
     go_wp2_with (at_builtin;refine Zmg _ (by kernel_rfl) (.tmp 24) (.tmp 27) 49 9 (.string ⟨#[]⟩) 1 16 rfl Tryz.underlying49 infoStr rfl (by decide) (by decide) W.heap.size _ _ _ rfl (hS1.own.alloc _) _ 1 (scells [tx]) rfl (ZgR _ _ _ _ _ (by decide)) rfl (ZjU _) (by omega) (by simp;omega) ?_)
     intro v2 w2 hown2 hgrow2
     have hB2:Below W.heap.size W w2:=(hS1.low.alloc hS1.low.size _).grown hgrow2 (by simp;omega) (fun _ hj=>ZhJ hS1.own hj)
     rw[← ZzY] at hown2
     obtain⟨oo2,oc2,rfl⟩:=(Zeo hown2).form
     clear hgrow2
     go_wp2
     exact⟨⟨k+1,out++[tx],by omega,by simp;omega,by go_num,⟨_,_,by rw[List.length_append];rfl⟩,⟨by rw[List.length_append];exact hown2,hB2⟩,HI3⟩,by simp[intOf];omega⟩
    ·have e2:(sg == sd)=false:=by simpa using h2
     have HI3:Hid (out++pkL no (ls.drop (k+1))=R):=Zys HSD.out h1 h2 HI2.out
     clear HI2 h1 h2
     go_wp2
     exact⟨⟨k+1,out,by omega,by omega,by go_num,⟨_,_,rfl⟩,hS1,HI3⟩,by simp[intOf];omega⟩
  ·have HI3:Hid (out=R):=(by
    have h:=HI.out
    rw[List.drop_of_length_le (by omega)] at h
    show out=R
    simpa [pkL] using h)
   clear HI
   have hend:decide ((k:Int)<(ls.length:Int))=false:=decide_eq_false (by omega)
   go_wp2
   go_ret
   refine⟨_,rfl,?_,hBl.trans (hS.low.mono (by have:=HSZ.out;omega))⟩
   rw[← HI3.out]
   exact ZhM hS.own (by have:=HSZ.out;omega)
theorem ZvI (h:Hk) (v:Value) (w:World) (hv:HMk w v h.ls) (hl:h.ls.length≤1099511627776) (R:List (List UInt8)) (HR:Hid (oldL h=R)):Calls Tryz.prog 223 #[hkV h v] w fun e w'=>∃ v',e=.returned v'∧w'.ownsRow w.heap.size 9 1 v' R.length (scells R)∧Below w.heap.size w w':=by
 have hBl:Below w.heap.size w (w.alloc (hkO h v)):=(Below.refl _ w).alloc (Nat.le_refl _) _
 have hv1:=HMk.keep hv hBl (Nat.le_refl _)
 obtain⟨c0,c1,c2,c3,c4⟩:=(Hx.new w h v).cells
 unfold hkO at c0 c1 c2 c3 c4 hBl hv1
 obtain⟨lo,lc,rfl⟩:=HMk.form hv
 have e:hkV h (.slice lo h.ls.length lc)=.agg #[.int .i64 h.A,.int .i64 h.AN,.int .i64 h.B,.int .i64 h.BN,.slice lo h.ls.length lc]:=rfl
 rw[e]
 go_enter Tryz.func223,Tryz.ntmps223
 go_wp2_with fail
 refine (Zwj h _ 45 43 (.inl ⟨rfl,rfl⟩) _ hv1 hl R HR).mono ?_
 rintro e w1 ⟨v1,rfl,hv1,hB1⟩
 obtain⟨vo,vc,rfl⟩:=Holds.form (Zeo hv1)
 go_wp2
 go_ret
 exact⟨_,rfl,ZhM hv1 hBl.size,hBl.trans (hB1.mono hBl.size)⟩
theorem ZvH (h:Hk) (v:Value) (w:World) (hv:HMk w v h.ls) (hl:h.ls.length≤1099511627776) (R:List (List UInt8)) (HR:Hid (oldL h=R)):Calls Tryz.prog 223 #[hkV h v] w fun e w'=>∃ v',e=.returned v'∧HS w' v' R∧Below w.heap.size w w':=by
 refine (ZvI h v w hv hl R HR).mono ?_
 rintro e w1 ⟨v1,rfl,h1,hB1⟩
 exact⟨v1,rfl,Zeo h1,hB1⟩
theorem ZvG (h:Hk) (v:Value) (w:World) (hv:HMk w v h.ls) (hl:h.ls.length≤1099511627776) (R:List (List UInt8)) (HR:Hid (newL h=R)):Calls Tryz.prog 224 #[hkV h v] w fun e w'=>∃ v',e=.returned v'∧w'.ownsRow w.heap.size 9 1 v' R.length (scells R)∧Below w.heap.size w w':=by
 have hBl:Below w.heap.size w (w.alloc (hkO h v)):=(Below.refl _ w).alloc (Nat.le_refl _) _
 have hv1:=HMk.keep hv hBl (Nat.le_refl _)
 obtain⟨c0,c1,c2,c3,c4⟩:=(Hx.new w h v).cells
 unfold hkO at c0 c1 c2 c3 c4 hBl hv1
 obtain⟨lo,lc,rfl⟩:=HMk.form hv
 have e:hkV h (.slice lo h.ls.length lc)=.agg #[.int .i64 h.A,.int .i64 h.AN,.int .i64 h.B,.int .i64 h.BN,.slice lo h.ls.length lc]:=rfl
 rw[e]
 go_enter Tryz.func224,Tryz.ntmps224
 go_wp2_with fail
 refine (Zwj h _ 43 45 (.inr ⟨rfl,rfl⟩) _ hv1 hl R HR).mono ?_
 rintro e w1 ⟨v1,rfl,hv1,hB1⟩
 obtain⟨vo,vc,rfl⟩:=Holds.form (Zeo hv1)
 go_wp2
 go_ret
 exact⟨_,rfl,ZhM hv1 hBl.size,hBl.trans (hB1.mono hBl.size)⟩
theorem ZvF (h:Hk) (v:Value) (w:World) (hv:HMk w v h.ls) (hl:h.ls.length≤1099511627776) (R:List (List UInt8)) (HR:Hid (newL h=R)):Calls Tryz.prog 224 #[hkV h v] w fun e w'=>∃ v',e=.returned v'∧HS w' v' R∧Below w.heap.size w w':=by
 refine (ZvG h v w hv hl R HR).mono ?_
 rintro e w1 ⟨v1,rfl,h1,hB1⟩
 exact⟨v1,rfl,Zeo h1,hB1⟩
def nmB (a n:Int):Bool:=nat31 a && nat31 n && !(decide (a=0) && decide (0<n))
theorem Zwc (a n:Int) (w:World) (r:Bool) (HR:Hid (nmB a n=r)):Calls Tryz.prog 247 #[.int .i64 a,.int .i64 n] w fun e w'=>e=.returned (.bool r)∧w'=w:=by
 have hr:r=true↔(0≤a∧a≤2147483647∧0≤n∧n≤2147483647∧(0<a∨n=0)):=by
  rw[← HR.out]
  unfold nmB nat31
  simp only[Bool.and_eq_true,decide_eq_true_eq,Bool.not_eq_true',Bool.and_eq_false_iff,decide_eq_false_iff_not]
  omega
 have HRR:Hid (r=true↔(0≤a∧a≤2147483647∧0≤n∧n≤2147483647∧(0<a∨n=0))):=hr
 clear hr HR
 have no:∀ {p:Prop},p→(p→¬ (0≤a∧a≤2147483647∧0≤n∧n≤2147483647∧(0<a∨n=0)))→Ending.returned (.bool false)=.returned (.bool r):=fun hp h=>by
  cases r with
  | false=>rfl
  | true=>exact absurd (HRR.out.1 rfl) (h hp)
 go_enter Tryz.func247,Tryz.ntmps247
 by_cases h1:a<0
 ·go_wp2
  go_ret
  exact⟨no h1 (fun _=>by omega),rfl⟩
 ·have e1:decide (a<0)=false:=decide_eq_false h1
  by_cases h2:2147483647<a
  ·go_wp2
   go_ret
   exact⟨no h2 (fun _=>by omega),rfl⟩
  ·have e2:decide (2147483647<a)=false:=decide_eq_false h2
   by_cases h3:n<0
   ·go_wp2
    go_ret
    exact⟨no h3 (fun _=>by omega),rfl⟩
   ·have e3:decide (n<0)=false:=decide_eq_false h3
    by_cases h4:2147483647<n
    ·go_wp2
     go_ret
     exact⟨no h4 (fun _=>by omega),rfl⟩
    ·have e4:decide (2147483647<n)=false:=decide_eq_false h4
     by_cases h5:0<a
     ·obtain rfl:r=true:=HRR.out.2 (by omega)
      go_wp2
      go_ret
      exact⟨rfl,rfl⟩
     ·have e5:decide (0<a)=false:=decide_eq_false h5
      by_cases h6:n=0
      ·obtain rfl:r=true:=HRR.out.2 (by omega)
       subst h6
       go_wp2
       go_ret
       exact⟨rfl,rfl⟩
      ·have e6:(n == 0)=false:=by simpa using h6
       go_wp2
       go_ret
       exact⟨no h6 (fun _=>by omega),rfl⟩
theorem Zwg (a n:Int) (w:World) (h1:-4611686018427387904≤a) (h2:a≤9223372036854775807) (r:Int) (HR:Hid ((if 0<n then a-1 else a)=r)):Calls Tryz.prog 271 #[.int .i64 a,.int .i64 n] w fun e w'=>e=.returned (.int .i64 r)∧w'=w:=by
 have hr:=HR.out
 clear HR
 go_enter Tryz.func271,Tryz.ntmps271
 by_cases h:0<n
 ·rw[if_pos h] at hr
  subst hr
  go_wp2
  go_ret
  exact⟨by go_num,rfl⟩
 ·rw[if_neg h] at hr
  subst hr
  have e:decide (0<n)=false:=decide_eq_false h
  go_wp2
  go_ret
  exact⟨rfl,rfl⟩
theorem Zwb (a n:Int) (w:World) (h1:-4611686018427387904≤a) (h2:a≤4611686018427387904) (r:Int) (HR:Hid ((if 0<n then a+1 else a)=r)):Calls Tryz.prog 130 #[.int .i64 a,.int .i64 n] w fun e w'=>e=.returned (.int .i64 r)∧w'=w:=by
 have hr:=HR.out
 clear HR
 go_enter Tryz.func130,Tryz.ntmps130
 by_cases h:0<n
 ·rw[if_pos h] at hr
  subst hr
  go_wp2
  go_ret
  exact⟨by go_num,rfl⟩
 ·rw[if_neg h] at hr
  subst hr
  have e:decide (0<n)=false:=decide_eq_false h
  go_wp2
  go_ret
  exact⟨rfl,rfl⟩
def chgB (m:Mk):Bool:=decide (m.sg=45) || decide (m.sg=43)
theorem ZvR (m:Mk) (w:World):Calls Tryz.prog 250 #[.agg #[.int .u8 m.sg,.string ⟨m.tx.toArray⟩]] w fun e w'=>e=.returned (.bool (chgB m))∧Below w.heap.size w w':=by
 obtain⟨sg,tx⟩:=m
 obtain⟨m0,m1⟩:=(Mx.new w ⟨sg,tx⟩).cells
 have hB:Below w.heap.size w (w.alloc (mkO ⟨sg,tx⟩)):=(Below.refl _ w).alloc (Nat.le_refl _) _
 unfold mkO at m0 m1 hB
 dsimp only at m0 m1 hB
 unfold chgB
 by_cases h1:sg=45
 ·subst h1
  go_enter Tryz.func250,Tryz.ntmps250
  go_wp2
  go_ret
  exact⟨rfl,hB⟩
 ·have e1:(sg == 45)=false:=by simpa using h1
  by_cases h2:sg=43
  ·subst h2
   go_enter Tryz.func250,Tryz.ntmps250
   go_wp2
   go_ret
   exact⟨rfl,hB⟩
  ·have e2:(sg == 43)=false:=by simpa using h2
   have HE:Hid ((decide (sg=45) || decide (sg=43))=false):=(by show _=_;simp[h1,h2])
   rw[HE.out]
   clear HE h1 h2
   go_enter Tryz.func250,Tryz.ntmps250
   go_wp2
   go_ret
   exact⟨rfl,hB⟩
theorem Zwk (m:Mk) (w:World):Calls Tryz.prog 248 #[.agg #[.int .u8 m.sg,.string ⟨m.tx.toArray⟩]] w fun e w'=>e=.returned (.bool (!okS m.sg))∧Below w.heap.size w w':=by
 obtain⟨m0,m1⟩:=(Mx.new w m).cells
 have hB:Below w.heap.size w (w.alloc (mkO m)):=(Below.refl _ w).alloc (Nat.le_refl _) _
 have hW:w.alloc (.cells #[.int .u8 m.sg,.string ⟨m.tx.toArray⟩] 47)=w.alloc (mkO m):=rfl
 generalize w.alloc (mkO m)=W at *
 by_cases h1:m.sg=32
 ·have HE:Hid (okS m.sg=true):=(by show _=_;rw[h1];rfl)
  rw[HE.out]
  have e1:(m.sg != 32)=false:=by simpa using h1
  clear HE h1
  go_enter Tryz.func248,Tryz.ntmps248
  go_wp2
  go_ret
  exact⟨rfl,hB⟩
 ·have e1:(m.sg != 32)=true:=by simpa using h1
  obtain⟨r,hr⟩:∃ r,chgB m=r:=⟨_,rfl⟩
  have HE:Hid (okS m.sg=r):=(by
   show _=_
   rw[← hr]
   unfold okS chgB
   simp[h1])
  have HC:=ZvR m W
  rw[hr] at HC
  rw[HE.out]
  clear HE h1 hr
  go_enter Tryz.func248,Tryz.ntmps248
  go_wp2_with fail
  refine HC.mono ?_
  rintro e w1 ⟨rfl,hB1⟩
  go_wp2
  go_ret
  exact⟨rfl,hB.trans (hB1.mono hB.size)⟩
end

end Go.Proofs.YtcniomgjikienaaGreatDoor
