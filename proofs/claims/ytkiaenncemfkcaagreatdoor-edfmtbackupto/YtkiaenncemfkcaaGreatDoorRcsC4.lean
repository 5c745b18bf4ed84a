/-
  Texts that belong together, joined: EfAl, NpX, NpC, EfRg, EfCf, EfEd, EfSt, EfTx, EfDo, EfSp, EfM3.
-/
import Derived.Test.YtkiaenncemfkcaaGreatDoorRcsC3
import Derived.Lib.AppendZerosOnto
import Derived.Lib.IndexAny
import Derived.Deep.QuietTactic
import Derived.BigQuiet
import Derived.Deep.CutBlock

set_option maxHeartbeats 16000000
set_option maxRecDepth 100000
namespace Go.Proofs.YtkiaenncemfkcaaGreatDoor

section
open Go.RowKit
theorem ZBC {ops:Array Oper} {rest:List Oper} {o:Oper} {a:Act} {Q:Exit→Act→World→Prop} (w:World) (hw:Region.wanted o (yielded ops a.tmps)=true) (d s:Operand) (T T':TypeId)
  (ho:o.op=.call { callee:=.builtin .append,args:=#[d,s],argTypes:=#[T,T'] }) (v u:Value) (hd:a.eval d=v) (hs:a.eval s=u) (v':Value) (w':World)
  (hr:(Builtin.append_ #[T,T'] o.type #[v,u]).run Tryz.prog w=.ok v' w') (h:wpList Tryz.prog ops Q rest (a.put o.dst v') w'):wpList Tryz.prog ops Q (o::rest) a w:=by
 refine wpList_step fun K hK=>?_
 rw[if_pos hw]
 unfold Oper.wp
 simp[execOp,ho,resolve,invoke,builtin,hd,hs,hr,Result.andThen]
 exact hK _ _ h
theorem ZaB (n:Nat) (hn:n≤1099511627776) (w:World) :
  Calls Tryz.prog 118 #[.slice none 0 0,.int .i64 (n:Int)] w fun e w'=>∃ v,e=.returned v∧w'.ownsRow w.heap.size 9 1 v 0 []∧Below w.heap.size w w':=by
 by_cases h0:n=0
 ·subst h0
  go_enter Tryz.func118,Tryz.ntmps118
  go_wp2
  go_ret
  exact⟨_,rfl,World.ownsRow_nil _ _ _ _,Below.refl _ _⟩
 ·obtain⟨i0,hi0,hz0,_,hzb⟩:=info_parts infoT
  have hold:(Builtin.firstCells i0.size 0 (.slice none 0 0)).run Tryz.prog w.drew=.ok ([]:List Value).toArray w.drew:=by
   simp[Builtin.firstCells]
  obtain⟨G,hG⟩:∃ G,grownCap w n 0 9=G:=⟨_,rfl⟩
  have hGge:n≤G:=by rw[← hG];exact grownCap_ge _ _ _ _
  have hGle:G≤maxLen:=by rw[← hG];exact grownCap_le_maxLen _ _ _ _ (by unfold maxLen;omega)
  obtain⟨row,hrow⟩:∃ row:Array Value,(([]:List Value).toArray++Builtin.zeroCells (Value.string ⟨#[]⟩).cells n++Builtin.zeroCells (Value.string ⟨#[]⟩).cells (G-n))=row:=⟨_,rfl⟩
  have hrl:row.size=G * 1:=by
   rw[← hrow]
   simp[Builtin.zeroCells,Value.cells]
   omega
  have hrz:∀ ty,(Builtin.append_ #[23,3] ty #[.slice none 0 0,.int .i64 (n:Int)]).run Tryz.prog w=.ok (.slice (some ⟨w.heap.size,0,none⟩) n G) (w.drew.alloc (.cells row 9)):=fun ty=>by
   have h:=Lib.run_append_grow_zeros (P:=Tryz.prog) w 23 3 ty 9 i0 _ .i64 .i64 Tryz.underlying23 (by kernel_rfl) hi0 hz0 none 0 0 [] hold n (by omega) (by omega) (by omega) (by omega) (by rw[hzb];omega) (by
    rw[hzb,Nat.zero_add]
    exact growslice_fits (by omega) (by omega))
   rw[Nat.zero_add,hG] at h
   rw[h,← hrow]
  have hO:=World.ownsRow_made (base:=w.heap.size) (e:=9) (size:=1) w.drew row G (Nat.le_refl _) hGle hrl
  have hB:Below w.heap.size w (w.drew.alloc (.cells row 9)):=(Below.refl _ w).drew.alloc (Nat.le_refl _) _
  have hsl:=fun u=>Zxe (T:=23) (by kernel_rfl) efsT w.heap.size 0 n G 0 (Nat.zero_le _) u
  have HO:Hid ((w.drew.alloc (.cells row 9)).ownsRow w.heap.size 9 1 (.slice (some ⟨w.heap.size,0,none⟩) 0 G) 0 []):=hO
  have h0p:(0:Int)<(n:Int):=by omega
  clear hold hG hrow hrl hi0 hz0 hzb hGge hGle hO h0
  generalize w.drew.alloc (.cells row 9)=W1 at hrz HO hB
  go_enter Tryz.func118,Tryz.ntmps118
  go_wp2_with (at_builtin;refine ZBC _ (by kernel_rfl) (.tmp 20) (.tmp 21) 23 3 rfl _ _ rfl rfl _ _ (hrz _) ?_)
  go_wp2
  go_ret
  exact⟨_,rfl,HO.out,hB⟩
theorem Zap (N:Nat) (ao:Option Addr) (n c:Nat) (X:List Bck) (w:World) (hk:Bks w N (.slice ao n c) X) (hX:X.length≤549755813888) (hT:(cat X).length≤1099511627776) :
  Calls Tryz.prog 83 #[.slice ao n c] w fun e w'=>∃ v,e=.returned v∧w'.ownsRow w.heap.size 9 1 v (cat X).length (scells (cat X))∧Below w.heap.size w w':=by
 obtain⟨o,rfl,rfl,_,hol,hcl⟩:=hk.at
 have HCL:Hid (∀ (u:World),Below w.heap.size w u→∀ j (hj:j<X.length),u.cell? ⟨o,j,none⟩=some X[j].v):=(by
  intro u hu j hj
  rw[World.cell?_of_block (w:=w) (hu.block _ hol)]
  exact hcl j hj)
 have HBK:Hid (∀ x∈X,HB w N x):=hk.blk
 clear hcl hk
 go_enter Tryz.func83,Tryz.ntmps83
 go_wp2
 go_loopw [3,11] (fun sv iv wr=>∃ i r:Nat,sv=.int .i64 (r:Int)∧iv=.int .i64 (i:Int)∧i≤X.length∧Hid ((cat (X.take i)).length=r)∧w=wr) (fun _ iv _=>X.length-(intOf iv).toNat)
 case atStart=>exact⟨0,0,rfl,by go_num,Nat.zero_le _,rfl,rfl⟩
 case round =>
  obtain⟨i,r,rfl,rfl,hi,hr,rfl⟩:=hrel
  by_cases hlt:i<X.length
  ·have c0:=HCL.out w (Below.refl _ _) i hlt
   obtain⟨m,hm⟩:∃ m,X[i].xs.length=m:=⟨_,rfl⟩
   have hv:X[i].v=.slice (some ⟨X[i].g,X[i].o,none⟩) m X[i].c:=by rw[← hm];rfl
   rw[hv] at c0
   have HSP:Hid ((cat (X.take (i+1))).length=r+m):=(by show _=_;rw[ZdE X i hlt,List.length_append,hm,hr.out])
   have hle:r+m≤(cat X).length:=(by
    have h1:=ZdB X (i+1) X.length (by omega)
    rw[List.take_length,HSP.out] at h1
    exact h1)
   clear hv hm
   generalize (some (⟨X[i].g,X[i].o,none⟩:Addr))=ad at c0
   generalize X[i].c=cc at c0
   have j1:(0:Int)≤(i:Int):=by omega
   have j2:(i:Int)<(X.length:Int):=by omega
   have j3:decide ((r:Int)+(m:Int)<0)=false:=decide_eq_false (by omega)
   go_wp2
   exact⟨⟨i+1,r+m,by simp,by go_num,by omega,HSP,trivial⟩,by simp[intOf];omega⟩
  ·have ei:i=X.length:=by omega
   subst ei
   have hrT:(cat X).length=r:=by have:=hr.out;rwa [List.take_length] at this
   have HRT:Hid ((cat X).length=r):=hrT
   have hrb:r≤1099511627776:=by omega
   have hend:decide ((X.length:Int)<(X.length:Int))=false:=decide_eq_false (by omega)
   clear hrT hr hlt
   go_wp2_with fail
   refine (ZaB r hrb w).mono ?_
   rintro e w1 ⟨v1,rfl,hO1,hB1⟩
   go_wp2
   go_loopw [6,27] (fun rv iv wr=>∃ i:Nat,iv=.int .i64 (i:Int)∧i≤X.length∧(∃ oo oc,rv=.slice oo (cat (X.take i)).length oc)∧wr.ownsRow w.heap.size 9 1 rv (cat (X.take i)).length (scells (cat (X.take i)))∧Below w.heap.size w wr) (fun _ iv _=>X.length-(intOf iv).toNat)
   case atStart =>
    refine⟨0,by go_num,Nat.zero_le _,?_,?_,hB1⟩
    ·exact (holds_of hO1).form
    ·exact hO1
   case round =>
    clear hO1 hB1
    obtain⟨i,rfl,hi,⟨oo,oc,rfl⟩,hO,hB⟩:=hrel
    by_cases hlt:i<X.length
    ·have c0:=HCL.out _ hB i hlt
     have hbk:=(HBK.out X[i] (List.getElem_mem _)).low hB
     have hal:=hbk.all
     obtain⟨m,hm⟩:∃ m,X[i].xs.length=m:=⟨_,rfl⟩
     have hv:X[i].v=.slice (some ⟨X[i].g,X[i].o,none⟩) m X[i].c:=by rw[← hm];rfl
     unfold HS at hal
     rw[hv,hm] at hal
     rw[hv] at c0
     have HCT:Hid (cat (X.take (i+1))=cat (X.take i)++X[i].xs):=ZdE X i hlt
     have hle:(cat (X.take i)).length+m≤(cat X).length:=(by
      have h1:=ZdB X (i+1) X.length (by omega)
      rw[List.take_length,HCT.out,List.length_append,hm] at h1
      exact h1)
     obtain⟨xs,hxs⟩:∃ xs,X[i].xs=xs:=⟨_,rfl⟩
     rw[hxs] at hal HCT hm
     have HML:Hid (xs.length=m):=hm
     clear hv hxs hbk hm
     generalize (some (⟨X[i].g,X[i].o,none⟩:Addr))=ad at c0 hal
     generalize X[i].c=cc at c0 hal
     obtain⟨R,hR⟩:∃ R,cat (X.take i)=R:=⟨_,rfl⟩
     rw[hR] at HCT hle hO ⊢
     clear hR
     have j1:(0:Int)≤(i:Int):=by omega
     have j2:(i:Int)<(X.length:Int):=by omega
     go_wp2_with (at_builtin;refine ZBv _ (by kernel_rfl) (.tmp 31) (.tmp 32) 23 9 (.string ⟨#[]⟩) 1 16 rfl Tryz.underlying23 infoStr rfl (by decide) (by decide) w.heap.size _ _ _ rfl hO (.slice ad m cc) m (scells xs) rfl hal (by rw[scells_length,Nat.mul_one];exact HML.out) (scells_one _) (by omega) hB.size ?_)
     intro v2 w2 hown2 hgrow2
     have hB2:Below w.heap.size w w2:=hB.grown hgrow2 hB.size (fun j hj=>owns_ge hO hj)
     obtain⟨o2,c2,rfl⟩:=(holds_of hown2).form
     rw[← scells_append] at hown2
     have hln:(R++xs).length=R.length+m:=by rw[List.length_append,HML.out]
     have HLN:Hid ((R++xs).length=R.length+m):=hln
     have HOW:Hid (w2.ownsRow w.heap.size 9 1 (.slice o2 (R.length+m) c2) (R.length+m) (scells (R++xs))):=hown2
     clear hown2 hgrow2 hO hB hal hln
     go_wp2
     refine⟨⟨i+1,by go_num,by omega,⟨o2,c2,?_⟩,?_,hB2⟩,by simp[intOf];omega⟩
     ·rw[HCT.out,HLN.out]
     ·rw[HCT.out,HLN.out];exact HOW.out
    ·have ei:i=X.length:=by omega
     subst ei
     rw[List.take_length] at hO ⊢
     have hend2:decide ((X.length:Int)<(X.length:Int))=false:=decide_eq_false (by omega)
     go_wp2
     go_ret
     exact⟨_,rfl,hO,hB⟩
theorem ZbN (w:World) (g N:Nat) (vs vl:Value) (p cnt cur:Int) (en:Bool) (X:List Bck) (hE:Eb w g vs vl p cnt cur en) (hk:Bks w N vl X) (hX:X.length≤549755813888) (hT:(cat X).length≤1099511627776) :
  Calls Tryz.prog 54 #[.pointer (some ⟨g,2,none⟩)] w fun e w'=>∃ v,e=.returned v∧w'.ownsRow w.heap.size 9 1 v (cat X).length (scells (cat X))∧Below w.heap.size w w':=by
 obtain⟨o,c,_,rfl,_⟩:=hk.row
 have c2:=hE.cells.2.2.1
 have hC:=Zap N _ _ _ X w hk hX hT
 clear hE hk
 go_enter Tryz.func54,Tryz.ntmps54
 go_wp2_with fail
 refine hC.mono ?_
 rintro e w1 ⟨v,rfl,h1,h2⟩
 go_wp2
 go_ret
 exact⟨v,rfl,h1,h2⟩
end

section
open Go.RowKit
attribute [local go_sem] Zqp ByteArray.extract_mk
theorem Zfi (l:List UInt8):(spB isK l=none∧Lib.indexByte l 44=-1)∨(∃ k:Nat,∃ h:k<l.length,Lib.indexByte l 44=k∧spB isK l=some (l.take k,l[k],l.drop (k+1))):=by
 induction l with
 | nil=>exact .inl ⟨rfl,rfl⟩
 | cons c l ih =>
  unfold Lib.indexByte
  simp only[spB]
  have e:(c == 44)=isK c:=rfl
  rw[e]
  cases hc:isK c with
  | true =>
   right
   exact⟨0,by simp,by simp,by simp⟩
  | false =>
   rw[if_neg (by decide),if_neg (by decide)]
   rcases ih with ⟨h1,h2⟩ | ⟨k,hk,h1,h2⟩
   ·left
    rw[h1,h2]
    exact⟨rfl,rfl⟩
   ·right
    refine⟨k+1,by simpa using hk,?_,?_⟩
    ·rw[h1,if_neg (by simp)]
     omega
    ·rw[h2]
     rfl
end

section
open Go.RowKit
attribute [local go_sem] ByteArray.extract_mk Zqp
def kA (l:List UInt8):List UInt8:=match spB isK l with | none=>l | some (x,_,_)=>x
def kB (l:List UInt8):List UInt8:=match spB isK l with | none=>[] | some (_,_,y)=>y
def kS (l:List UInt8):Bool:=match spB isK l with | none=>false | some _=>true
theorem Zyd (l:List UInt8) (w:World) (hl:l.length≤1099511627776) :
  Calls Tryz.prog 120 #[.string ⟨l.toArray⟩,.string ⟨#[44]⟩] w fun e w'=>e=.returned (.tuple #[.string ⟨(kA l).toArray⟩,.string ⟨(kB l).toArray⟩,.bool (kS l)])∧∃ n,w'=w.drewN n:=by
 rcases Zfi l with ⟨h1,h2⟩ | ⟨k,hk,h1,h2⟩
 ·have HA:Hid (kA l=l∧kB l=[]∧kS l=false):=(by unfold kA kB kS;rw[h1];exact⟨rfl,rfl,rfl⟩)
  have HI:Hid (Lib.indexByte l 44=-1):=h2
  clear h1 h2
  go_enter Tryz.func120,Tryz.ntmps120
  go_wp2_with fail
  refine (Tryz.stringslite_Index_one ⟨l.toArray⟩ 44 w).mono ?_
  rintro e w1 ⟨rfl,rfl⟩
  have e1:Lib.indexByte (⟨l.toArray⟩:ByteArray).data.toList 44=-1:=HI.out
  rw[e1]
  clear e1
  go_wp2
  go_ret3
  obtain⟨a1,a2,a3⟩:=HA.out
  rw[a1,a2,a3]
  exact⟨rfl,0,rfl⟩
 ·have HA:Hid (kA l=l.take k∧kB l=l.drop (k+1)∧kS l=true):=(by unfold kA kB kS;rw[h2];exact⟨rfl,rfl,rfl⟩)
  have HI:Hid (Lib.indexByte l 44=(k:Int)):=h1
  clear h1 h2
  go_enter Tryz.func120,Tryz.ntmps120
  go_wp2_with fail
  refine (Tryz.stringslite_Index_one ⟨l.toArray⟩ 44 w).mono ?_
  rintro e w1 ⟨rfl,rfl⟩
  have e1:Lib.indexByte (⟨l.toArray⟩:ByteArray).data.toList 44=(k:Int):=HI.out
  rw[e1]
  clear e1
  have i1:(0:Int)≤(k:Int):=by omega
  have i2:(k:Int)≤(l.length:Int):=by omega
  have i3:(k:Int)+1≤(l.length:Int):=by omega
  have i4:(0:Int)≤(k:Int)+1:=by omega
  have i5:IntKind.i64.wrap ((k:Int)+1)=(k:Int)+1:=ZBH (by omega) (by omega)
  have i6:((k:Int)+1).toNat=k+1:=by omega
  go_wp2_with fail
  go_quiet (fail)
  go_wp2
  go_ret3
  obtain⟨a1,a2,a3⟩:=HA.out
  rw[a1,a2,a3]
  have k5:(l.drop (k+1)).take (l.length-(k+1))=l.drop (k+1):=List.take_of_length_le (by simp)
  exact⟨by simp[k5],_,rfl⟩
theorem ZpS (l:List UInt8) (w:World) (hl:l.length≤1099511627776) :
  Calls Tryz.prog 89 #[.string ⟨l.toArray⟩,.string ⟨#[44]⟩] w fun e w'=>e=.returned (.tuple #[.string ⟨(kA l).toArray⟩,.string ⟨(kB l).toArray⟩,.bool (kS l)])∧∃ n,w'=w.drewN n:=by
 go_enter Tryz.func89,Tryz.ntmps89
 go_wp2_with fail
 refine (Zyd l w hl).mono ?_
 rintro e w1 ⟨rfl,n,rfl⟩
 go_wp2
 go_ret3
 exact⟨rfl,n,rfl⟩
theorem Zmz {s:List UInt8} (h:kS s=false):kA s=s∧spB isK s=none:=by
 unfold kS at h
 unfold kA
 cases hq:spB isK s with
 | none=>exact⟨rfl,rfl⟩
 | some q=>rw[hq] at h;cases h
theorem ZmA {s:List UInt8} (h:kS s=true):∃ c,spB isK s=some (kA s,c,kB s):=by
 unfold kS at h
 unfold kA kB
 cases hq:spB isK s with
 | none=>rw[hq] at h;cases h
 | some q=>exact⟨q.2.1,rfl⟩
theorem Zmy (s:List UInt8):(kA s).length≤s.length∧(kB s).length≤s.length:=by
 unfold kA kB
 rcases Zfi s with ⟨h1,_⟩ | ⟨k,hk,_,h2⟩
 ·rw[h1];simp
 ·rw[h2];simp only[List.length_take,List.length_drop];omega
end

section
open Go.RowKit
theorem ZgZ {P:Program} {fn:Func} {p q:Tmp} {ty:TypeId} (h:fn.results=#[.cell p ty,.tmp q]) (tmps:Array Value) (w:World) (g:Nat) (t:TypeId) (cs:Array Value) (fr:Nat × Nat) (d:TypeDesc)
  (hp:tmps.getD p undef=.pointer (some ⟨g,0,none⟩)) (hg:w.heap[g]?=some (.cells cs t fr))
  (hu:P.underlying ty=some d) (hd:(match d with | .struct _ | .array _ _=>true | _=>false)=true) (hi:(P.info? ty).map (·.size)=some cs.size) :
  (results fn tmps).run P w=.ok (.tuple #[.agg cs,tmps.getD q undef]) w:=by
 have hp':tmps[p]?.getD undef=.pointer (some ⟨g,0,none⟩):=by simpa using hp
 simp[results,h,hp',asAddr,run_loadVar_row w g t ty cs fr d hg hu hd hi]
def RgQ (w:World) (s:List UInt8) (e:Ending) (w':World):Prop:=∃ x y r,e=.returned (.tuple #[.int .i64 x,.int .i64 y,.bool r])∧lnsP s=(if r=true then some (x+1,y-x) else none)∧(-1≤x∧x≤2147483647∧0≤y∧y≤2147483647)∧Below w.heap.size w w'
theorem ZtP (s:List UInt8) (w:World) (hl:s.length≤1099511627776) :
  Calls Tryz.prog 80 #[.string ⟨s.toArray⟩] w fun e w'=>RgQ w s e w':=by
 have hkl:=Zmy s
 have b1:=@Zto (kA s)
 have b2:=@Zto (kB s)
 obtain⟨V1,hV1⟩:∃ V,Pn.parseV (kA s)=V:=⟨_,rfl⟩
 obtain⟨E1,hE1⟩:∃ V,Pn.parseE (kA s)=V:=⟨_,rfl⟩
 obtain⟨V2,hV2⟩:∃ V,Pn.parseV (kB s)=V:=⟨_,rfl⟩
 obtain⟨E2,hE2⟩:∃ V,Pn.parseE (kB s)=V:=⟨_,rfl⟩
 have P1:∀ u:World,Calls Tryz.prog 79 #[.string ⟨(kA s).toArray⟩] u fun e w'=>e=.returned (.tuple #[.int .i64 V1,.int .i64 E1])∧Below u.heap.size u w':=(by
  intro u
  have h:=ZpU (kA s) u (by unfold maxLen;omega)
  rw[hV1,hE1] at h
  exact h)
 have P2:∀ u:World,Calls Tryz.prog 79 #[.string ⟨(kB s).toArray⟩] u fun e w'=>e=.returned (.tuple #[.int .i64 V2,.int .i64 E2])∧Below u.heap.size u w':=(by
  intro u
  have h:=ZpU (kB s) u (by unfold maxLen;omega)
  rw[hV2,hE2] at h
  exact h)
 rw[hV1] at b1
 rw[hV2] at b2
 have C1:=ZpS s w hl
 by_cases hbad:E1≠0∨V1=0
 ·have HN:Hid (lnsP s=none):=(by
   show _=_
   unfold lnsP
   cases hk:kS s with
   | true =>
    obtain⟨c,hc⟩:=ZmA hk
    rw[hc]
    dsimp only
    rw[hV1,hE1]
    exact if_neg (fun q=>by rcases hbad with h | h<;>omega)
   | false =>
    obtain⟨h1,h2⟩:=Zmz hk
    rw[h1] at hV1 hE1
    rw[h2]
    dsimp only
    rw[hV1,hE1]
    exact if_neg (fun q=>by rcases hbad with h | h<;>omega))
  clear hV1 hE1 hV2 hE2
  by_cases he1:E1=0
  ·have f1:(E1 != 0)=false:=by simp[he1]
   have f2:(V1 == 0)=true:=by
    rcases hbad with h | h
    ·exact absurd he1 h
    ·rw[h];rfl
   clear he1 hbad
   go_enter Tryz.func80,Tryz.ntmps80
   go_wp2_with fail
   refine C1.mono ?_
   rintro e w1 ⟨rfl,n,rfl⟩
   go_wp2_with fail
   refine (P1 _).mono ?_
   rintro e w2 ⟨rfl,hb2⟩
   go_wp2
   go_ret3
   exact⟨_,_,_,rfl,HN.out,by omega,(Below.dN (Below.refl _ w) n).trans hb2⟩
  ·have f1:(E1 != 0)=true:=by simp[he1]
   clear he1 hbad
   go_enter Tryz.func80,Tryz.ntmps80
   go_wp2_with fail
   refine C1.mono ?_
   rintro e w1 ⟨rfl,n,rfl⟩
   go_wp2_with fail
   refine (P1 _).mono ?_
   rintro e w2 ⟨rfl,hb2⟩
   go_wp2
   go_ret3
   exact⟨_,_,_,rfl,HN.out,by omega,(Below.dN (Below.refl _ w) n).trans hb2⟩
 ·have he1:E1=0:=(by
   by_cases h:E1=0
   ·exact h
   ·exact absurd (.inl h) hbad)
  have hv1:V1≠0:=fun h=>hbad (.inr h)
  have f1:(E1 != 0)=false:=by simp[he1]
  have f2:(V1 == 0)=false:=beq_eq_false_iff_ne.2 hv1
  clear hbad
  cases hk:kS s with
  | false =>
   have HN:Hid (lnsP s=if true=true then some (V1-1+1,V1-(V1-1)) else none):=(by
    show _=_
    obtain⟨h1,h2⟩:=Zmz hk
    rw[h1] at hV1 hE1
    unfold lnsP
    rw[h2]
    dsimp only
    rw[hV1,hE1,if_pos ⟨he1,by omega⟩,if_pos rfl]
    congr 2<;>omega)
   rw[hk] at C1
   clear hV1 hE1 hV2 hE2 hk he1 P2
   go_enter Tryz.func80,Tryz.ntmps80
   go_wp2_with fail
   refine C1.mono ?_
   rintro e w1 ⟨rfl,n,rfl⟩
   go_wp2_with fail
   refine (P1 _).mono ?_
   rintro e w2 ⟨rfl,hb2⟩
   go_wp2
   go_ret3
   exact⟨_,_,_,rfl,HN.out,by omega,(Below.dN (Below.refl _ w) n).trans hb2⟩
  | true =>
   obtain⟨r,hr⟩:∃ r,(decide (E2=0) && decide (V1<V2))=r:=⟨_,rfl⟩
   have HN:Hid (lnsP s=if r=true then some (V1-1+1,V2-(V1-1)) else none):=(by
    show _=_
    obtain⟨c,a2⟩:=ZmA hk
    unfold lnsP
    rw[a2,← hr]
    dsimp only
    rw[hV1,hE1,hV2,hE2]
    by_cases h:E2=0∧V1<V2
    ·rw[if_pos ⟨he1,h.1,by omega,h.2⟩,if_pos (by simp[h.1,h.2])]
     congr 2<;>omega
    ·rw[if_neg (fun q=>h ⟨q.2.1,q.2.2.2⟩),if_neg (fun q=>h (by simp only[Bool.and_eq_true,decide_eq_true_eq] at q;exact q))])
   rw[hk] at C1
   clear hV1 hE1 hV2 hE2 hk he1
   by_cases he2:E2=0
   ·have g1:(E2 == 0)=true:=by rw[he2];rfl
    have g2:decide (V1<V2)=r:=by rw[← hr];simp[he2]
    clear he2 hr
    go_enter Tryz.func80,Tryz.ntmps80
    go_wp2_with fail
    refine C1.mono ?_
    rintro e w1 ⟨rfl,n,rfl⟩
    go_wp2_with fail
    refine (P1 _).mono ?_
    rintro e w2 ⟨rfl,hb2⟩
    go_wp2_with fail
    refine (P2 _).mono ?_
    rintro e w3 ⟨rfl,hb3⟩
    go_wp2
    go_ret3
    exact⟨_,_,_,rfl,HN.out,by omega,((Below.dN (Below.refl _ w) n).trans hb2).trans (hb3.mono hb2.size)⟩
   ·have g1:(E2 == 0)=false:=beq_eq_false_iff_ne.2 he2
    obtain rfl:r=false:=by rw[← hr];simp[he2]
    clear he2 hr
    go_enter Tryz.func80,Tryz.ntmps80
    go_wp2_with fail
    refine C1.mono ?_
    rintro e w1 ⟨rfl,n,rfl⟩
    go_wp2_with fail
    refine (P1 _).mono ?_
    rintro e w2 ⟨rfl,hb2⟩
    go_wp2_with fail
    refine (P2 _).mono ?_
    rintro e w3 ⟨rfl,hb3⟩
    go_wp2
    go_ret3
    exact⟨_,_,_,rfl,HN.out,by omega,((Below.dN (Below.refl _ w) n).trans hb2).trans (hb3.mono hb2.size)⟩
end

section
open Go.RowKit
theorem Zzp (s:List UInt8) (c:UInt8):Lib.hasSuffix s [c]=(s.getLast? == some c):=by
 unfold Lib.hasSuffix
 rw[Bool.eq_iff_iff,List.isSuffixOf_iff_suffix,beq_iff_eq]
 constructor
 ·rintro⟨t,rfl⟩
  simp
 ·intro h
  obtain⟨t,rfl⟩:=List.getLast?_eq_some_iff.1 h
  exact⟨t,rfl⟩
theorem ZAc (s:List UInt8) (c:UInt8):Lib.trimSuffix s [c]=if (s.getLast? == some c)=true then s.dropLast else s:=by
 unfold Lib.trimSuffix
 rw[Zzp,List.dropLast_eq_take]
 rfl
theorem Zoe {s:List UInt8} {p n:Int} (h:lnsP s=some (p,n)):1≤p∧p≤2147483647∧1≤n∧p+n-1≤2147483647:=by
 unfold lnsP at h
 split at h
 ·rename_i x c y _
  have h1:=@Zto x
  have h2:=@Zto y
  split at h
  ·rename_i hq
   cases h
   omega
  ·cases h
 ·have h1:=@Zto s
  split at h
  ·cases h
   omega
  ·cases h
def CmQ (w:World) (s:List UInt8) (e:Ending) (w':World):Prop:=∃ x y t r,e=.returned (.tuple #[.agg #[.int .i64 x,.int .i64 y,.bool t],.bool r])∧cmF s=(if r=true then some (x,y,t) else none)∧(-1≤x∧x≤2147483647∧0≤y∧y≤2147483647)∧Below w.heap.size w w'
def Cb (u:World) (B:Nat) (v0 v1 v2:Value):Prop:=u.heap[B]?=some (.cells #[v0,v1,v2] 107 (0,0))
section
variable {u u':World} {B:Nat} {v0 v1 v2:Value}
theorem Cb.lt (h:Cb u B v0 v1 v2):B<u.heap.size:=(Array.getElem?_eq_some_iff.1 h).1
theorem Cb.low (h:Cb u B v0 v1 v2) (hg:Below u.heap.size u u'):Cb u' B v0 v1 v2:=(hg.block B h.lt).trans h
theorem Cb.cells (h:Cb u B v0 v1 v2):u.cell? ⟨B,0,none⟩=some v0∧u.cell? ⟨B,1,none⟩=some v1∧u.cell? ⟨B,2,none⟩=some v2:=by
 unfold Cb at h
 exact⟨by rw[Lib.cell_of_heap h];rfl,by rw[Lib.cell_of_heap h];rfl,by rw[Lib.cell_of_heap h];rfl⟩
theorem Cb.frozen (h:Cb u B v0 v1 v2) (j:Nat):u.frozen? ⟨B,j,none⟩=false:=by
 unfold Cb at h
 simp[World.frozen?,h]
theorem Cb.put (h:Cb u B v0 v1 v2) (z0 z1 z2:Value):Cb (((u.setCell ⟨B,0,none⟩ z0).setCell ⟨B,1,none⟩ z1).setCell ⟨B,2,none⟩ z2) B z0 z1 z2:=by
 have s1:=heap_setCell_same u B 0 _ _ z0 h
 have s2:=heap_setCell_same _ B 1 _ _ z1 s1
 exact heap_setCell_same _ B 2 _ _ z2 s2
end
theorem ZdF {w u:World} (h:Below w.heap.size w u) (z0 z1 z2:Value):Below w.heap.size w (((u.setCell ⟨w.heap.size,0,none⟩ z0).setCell ⟨w.heap.size,1,none⟩ z1).setCell ⟨w.heap.size,2,none⟩ z2) :=
 ((h.setCell (Nat.le_refl _) _).setCell (Nat.le_refl _) _).setCell (Nat.le_refl _) _
theorem Zfj (s:List UInt8) (w:World) (hl:s.length≤1099511627776) :
  Calls Tryz.prog 52 #[.string ⟨s.toArray⟩] w fun e w'=>CmQ w s e w':=by
 have hb0:Below w.heap.size w (w.alloc (.cells #[.int .i64 0,.int .i64 0,.bool false] 107)):=(Below.refl _ w).alloc (Nat.le_refl _) _
 have hc0:Cb (w.alloc (.cells #[.int .i64 0,.int .i64 0,.bool false] 107)) w.heap.size (.int .i64 0) (.int .i64 0) (.bool false):=_root_.Go.heap_alloc_new w _
 have hcs:∀ (c:UInt8) (u:World),Calls Tryz.prog 75 #[.string ⟨s.toArray⟩,.string ⟨#[c]⟩] u fun e w'=>e=.returned (.tuple #[.string ⟨(if (s.getLast? == some c)=true then s.dropLast else s).toArray⟩,.bool (s.getLast? == some c)])∧u=w':=(by
  intro c u
  refine (Tryz.strings_CutSuffix ⟨s.toArray⟩ ⟨#[c]⟩ u (by show s.length≤_;omega)).mono ?_
  rintro e w' ⟨rfl,rfl⟩
  rw[← ZAc,← Zzp]
  exact⟨rfl,rfl⟩)
 obtain⟨w0,hw0⟩:∃ w0,w.alloc (.cells #[.int .i64 0,.int .i64 0,.bool false] 107)=w0:=⟨_,rfl⟩
 rw[hw0] at hb0 hc0
 have hsl:s.dropLast.length≤1099511627776:=by rw[List.length_dropLast];omega
 have k1:=hcs 97
 have k2:=hcs 99
 have k3:=hcs 100
 by_cases h1:s.getLast?=some 97
 ·have e1:(s.getLast? == some 97)=true:=beq_iff_eq.2 h1
  rw[e1,if_pos rfl] at k1
  have hv:=ZpU s.dropLast
  have b1:=@Zto s.dropLast
  obtain⟨V,hV⟩:∃ V,Pn.parseV s.dropLast=V:=⟨_,rfl⟩
  obtain⟨E,hE⟩:∃ V,Pn.parseE s.dropLast=V:=⟨_,rfl⟩
  rw[hV,hE] at hv
  rw[hV] at b1
  obtain⟨r,hr⟩:∃ r,(E == 0)=r:=⟨_,rfl⟩
  have HC:Hid (cmF s=if r=true then some (V,V,true) else none):=(by
   show _=_
   unfold cmF
   rw[h1]
   dsimp only
   rw[if_pos rfl,hV,hE,← hr]
   by_cases hq:E=0
   ·rw[if_pos hq,if_pos (by rw[hq];rfl)]
   ·rw[if_neg hq,if_neg (by simpa using hq)])
  clear hcs k2 k3 h1 e1 hV hE
  go_enter Tryz.func52,Tryz.ntmps52
  go_wp2_with fail
  refine (k1 _).mono ?_
  rintro e w1 ⟨rfl,rfl⟩
  go_wp2_with fail
  refine (hv _ (by unfold maxLen;omega)).mono ?_
  rintro e w2 ⟨rfl,hb2⟩
  have hc2:=hc0.low hb2
  obtain⟨d0,d1,d2⟩:=hc2.cells
  have f0:=hc2.frozen 0
  have f1:=hc2.frozen 1
  have f2:=hc2.frozen 2
  have hP:=hc2.put (.int .i64 V) (.int .i64 V) (.bool true)
  go_wp2
  refine bodyPost_ret (ZgZ rfl _ _ w.heap.size 107 #[.int .i64 V,.int .i64 V,.bool true] (0,0) _ rfl hP Tryz.underlying107 rfl (by kernel_rfl)) rfl ?_
  exact⟨_,_,_,_,rfl,HC.out,by omega,ZdF (hb0.trans (hb2.mono hb0.size)) _ _ _⟩
 ·have e1:(s.getLast? == some 97)=false:=beq_eq_false_iff_ne.2 h1
  rw[e1,if_neg (by decide)] at k1
  by_cases h2:s.getLast?=some 99
  ·have e2:(s.getLast? == some 99)=true:=beq_iff_eq.2 h2
   rw[e2,if_pos rfl] at k2
   have HC:Hid (∀ (x y:Int) (r:Bool),lnsP s.dropLast=(if r=true then some (x+1,y-x) else none)→cmF s=if r=true then some (x,y,true) else none):=(by
    intro x y r hq
    unfold cmF
    rw[h2]
    dsimp only
    rw[if_neg (by decide),if_pos rfl,hq]
    cases r with
    | true=>simp only[if_true];congr 3;all_goals omega
    | false=>rfl)
   clear hcs k3 h1 e1 h2 e2
   go_enter Tryz.func52,Tryz.ntmps52
   go_wp2_with fail
   refine (k1 _).mono ?_
   rintro e w1 ⟨rfl,rfl⟩
   go_wp2_with fail
   refine (k2 _).mono ?_
   rintro e w1 ⟨rfl,rfl⟩
   go_wp2_with fail
   refine (ZtP s.dropLast _ hsl).mono ?_
   rintro e w2 ⟨x,y,r,rfl,hq,hxy,hb2⟩
   have HC2:Hid (cmF s=if r=true then some (x,y,true) else none):=HC.out x y r hq
   clear hq HC
   have hc2:=hc0.low hb2
   obtain⟨d0,d1,d2⟩:=hc2.cells
   have f0:=hc2.frozen 0
   have f1:=hc2.frozen 1
   have f2:=hc2.frozen 2
   have hP:=hc2.put (.int .i64 x) (.int .i64 y) (.bool true)
   go_wp2
   refine bodyPost_ret (ZgZ rfl _ _ w.heap.size 107 #[.int .i64 x,.int .i64 y,.bool true] (0,0) _ rfl hP Tryz.underlying107 rfl (by kernel_rfl)) rfl ?_
   exact⟨_,_,_,_,rfl,HC2.out,hxy,ZdF (hb0.trans (hb2.mono hb0.size)) _ _ _⟩
  ·have e2:(s.getLast? == some 99)=false:=beq_eq_false_iff_ne.2 h2
   rw[e2,if_neg (by decide)] at k2
   by_cases h3:s.getLast?=some 100
   ·have e3:(s.getLast? == some 100)=true:=beq_iff_eq.2 h3
    rw[e3,if_pos rfl] at k3
    have HC:Hid (∀ (x y:Int) (r:Bool),lnsP s.dropLast=(if r=true then some (x+1,y-x) else none)→cmF s=if r=true then some (x,y,false) else none):=(by
     intro x y r hq
     unfold cmF
     rw[h3]
     dsimp only
     rw[if_neg (by decide),if_neg (by decide),if_pos rfl,hq]
     cases r with
     | true=>simp only[if_true];congr 3;all_goals omega
     | false=>rfl)
    clear hcs h1 e1 h2 e2 h3 e3
    go_enter Tryz.func52,Tryz.ntmps52
    go_wp2_with fail
    refine (k1 _).mono ?_
    rintro e w1 ⟨rfl,rfl⟩
    go_wp2_with fail
    refine (k2 _).mono ?_
    rintro e w1 ⟨rfl,rfl⟩
    go_wp2_with fail
    refine (k3 _).mono ?_
    rintro e w1 ⟨rfl,rfl⟩
    go_wp2_with fail
    refine (ZtP s.dropLast _ hsl).mono ?_
    rintro e w2 ⟨x,y,r,rfl,hq,hxy,hb2⟩
    have HC2:Hid (cmF s=if r=true then some (x,y,false) else none):=HC.out x y r hq
    clear hq HC
    have hc2:=hc0.low hb2
    obtain⟨d0,d1,d2⟩:=hc2.cells
    have f0:=hc2.frozen 0
    have f1:=hc2.frozen 1
    have f2:=hc2.frozen 2
    have hP:=hc2.put (.int .i64 x) (.int .i64 y) (.bool false)
    go_wp2
    refine bodyPost_ret (ZgZ rfl _ _ w.heap.size 107 #[.int .i64 x,.int .i64 y,.bool false] (0,0) _ rfl hP Tryz.underlying107 rfl (by kernel_rfl)) rfl ?_
    exact⟨_,_,_,_,rfl,HC2.out,hxy,ZdF (hb0.trans (hb2.mono hb0.size)) _ _ _⟩
   ·have e3:(s.getLast? == some 100)=false:=beq_eq_false_iff_ne.2 h3
    rw[e3,if_neg (by decide)] at k3
    have HC:Hid (cmF s=none):=(by
     show _=_
     unfold cmF
     cases hg:s.getLast? with
     | none=>rfl
     | some c =>
      rw[hg] at h1 h2 h3
      dsimp only
      rw[if_neg (fun q=>h1 (by rw[q])),if_neg (fun q=>h2 (by rw[q])),if_neg (fun q=>h3 (by rw[q]))])
    clear hcs h1 e1 h2 e2 h3 e3
    go_enter Tryz.func52,Tryz.ntmps52
    go_wp2_with fail
    refine (k1 _).mono ?_
    rintro e w1 ⟨rfl,rfl⟩
    go_wp2_with fail
    refine (k2 _).mono ?_
    rintro e w1 ⟨rfl,rfl⟩
    go_wp2_with fail
    refine (k3 _).mono ?_
    rintro e w1 ⟨rfl,rfl⟩
    obtain⟨d0,d1,d2⟩:=hc0.cells
    have f0:=hc0.frozen 0
    have f1:=hc0.frozen 1
    have f2:=hc0.frozen 2
    have hP:=hc0.put (.int .i64 0) (.int .i64 0) (.bool false)
    go_wp2
    refine bodyPost_ret (ZgZ rfl _ _ w.heap.size 107 #[.int .i64 0,.int .i64 0,.bool false] (0,0) _ rfl hP Tryz.underlying107 rfl (by kernel_rfl)) rfl ?_
    exact⟨_,_,_,_,rfl,HC.out,by omega,ZdF hb0 _ _ _⟩
theorem ZeP {s:List UInt8} {i j:Int} {t:Bool} (h:cmF s=some (i,j,t)):0≤i∧i≤j∧j≤2147483647:=by
 unfold cmF at h
 split at h
 ·cases h
 ·split at h
  ·split at h
   ·cases h
    have:=@Zto s.dropLast
    omega
   ·cases h
  ·split at h
   ·split at h
    ·cases h
    ·rename_i p n hq
     have:=Zoe hq
     cases h
     omega
   ·split at h
    ·split at h
     ·cases h
     ·rename_i p n hq
      have:=Zoe hq
      cases h
      omega
    ·cases h
end

section
open Go.RowKit
theorem HB.set {w:World} {N:Nat} {x:Bck} (h:HB w N x) (j:Nat) (hj:j<x.xs.length) (s:List UInt8):HB (w.setCell ⟨x.g,x.o+j,none⟩ (.string ⟨s.toArray⟩)) N ⟨x.g,x.o,x.c,x.xs.set j s⟩:=by
 obtain⟨h0,h1,cs,h2,h3⟩:=h
 refine⟨h0,by dsimp only;rw[List.length_set];exact h1,_,heap_setCell_same w x.g (x.o+j) _ _ _ h2,fun k hk=>?_⟩
 dsimp only at hk ⊢
 rw[List.length_set] at hk
 have hlt:x.o+j<cs.size:=by
  have:=h3 j hj
  exact (Array.getElem?_eq_some_iff.1 this).1
 by_cases e:k=j
 ·subst e
  rw[Array.getElem?_setIfInBounds_self_of_lt hlt,List.getElem_set_self]
 ·rw[Array.getElem?_setIfInBounds_ne (by omega),h3 k hk,List.getElem_set_ne (by omega)]
theorem HB.other {w:World} {N:Nat} {x y:Bck} (h:HB w N y) (ha:Apart x y) (j:Nat) (hj:j<x.xs.length) (s:Value):HB (w.setCell ⟨x.g,x.o+j,none⟩ s) N y:=by
 obtain⟨h0,h1,cs,h2,h3⟩:=h
 by_cases e:x.g=y.g
 ·rw[← e] at h2
  refine⟨h0,h1,_,by rw[← e];exact heap_setCell_same w x.g (x.o+j) _ _ _ h2,fun k hk=>?_⟩
  have hne:x.o+j≠y.o+k:=by
   rcases ha with h | h | h
   ·exact absurd e h
   ·omega
   ·omega
  rw[Array.getElem?_setIfInBounds_ne hne]
  exact h3 k hk
 ·exact⟨h0,h1,cs,(heap_setCell_other _ _ _ _ (fun q=>e q.symm)).trans h2,h3⟩
theorem ZdC (X:List Bck) (i:Nat) (hi:i<X.length) (y:Bck):cat (X.set i y)=cat (X.take i)++(y.xs++cat (X.drop (i+1))):=by
 rw[List.set_eq_take_append_cons_drop,if_pos hi,Zdy,Zdz]
theorem Bks.set {w:World} {N:Nat} {v:Value} {X:List Bck} (h:Bks w N v X) (i:Nat) (hi:i<X.length) (j:Nat) (hj:j<X[i].xs.length) (s:List UInt8) :
  Bks (w.setCell ⟨X[i].g,X[i].o+j,none⟩ (.string ⟨s.toArray⟩)) N v (X.set i ⟨X[i].g,X[i].o,X[i].c,X[i].xs.set j s⟩):=by
 have hbi:=h.blk X[i] (List.getElem_mem _)
 obtain⟨o,c,cs,h1,h2,h3,h4,h5⟩:=h.row
 have hne:o≠X[i].g:=by
  rintro rfl
  obtain⟨_,_,cs2,q,_⟩:=hbi
  rw[h4] at q
  cases q
 have hap:∀ k (hk:k<X.length),k≠i→Apart X[i] X[k]:=by
  intro k hk hki
  have hp:=List.pairwise_iff_getElem.1 h.apart
  rcases Nat.lt_or_gt_of_ne hki with q | q
  ·have:=hp k i hk hi q
   unfold Apart at this ⊢
   rcases this with r | r | r
   ·exact .inl (fun e=>r e.symm)
   ·exact .inr (.inr r)
   ·exact .inr (.inl r)
  ·exact hp i k hi hk q
 refine⟨⟨o,c,cs,by rw[List.length_set];exact h1,by rw[List.length_set];exact h2,h3,(heap_setCell_other _ _ _ _ hne).trans h4,fun k hk=>?_⟩,?_,?_,?_⟩
 ·rw[List.length_set] at hk
  rw[h5 k hk]
  by_cases e:k=i
  ·subst e
   rw[List.getElem_set_self]
   unfold Bck.v
   dsimp only
   rw[List.length_set]
  ·rw[List.getElem_set_ne (by omega)]
 ·intro q
  have:=congrArg List.length q
  rw[List.length_set] at this
  simp at this
  exact h.ne this
 ·intro y hy
  obtain⟨k,hk,rfl⟩:=List.getElem_of_mem hy
  rw[List.length_set] at hk
  by_cases e:k=i
  ·subst e
   rw[List.getElem_set_self]
   exact hbi.set j hj s
  ·rw[List.getElem_set_ne (by omega)]
   exact (h.blk X[k] (List.getElem_mem _)).other (hap k hk e) j hj _
 ·rw[List.pairwise_iff_getElem]
  intro k m hk hm hkm
  rw[List.length_set] at hk hm
  have hp:=List.pairwise_iff_getElem.1 h.apart k m hk hm hkm
  have key:∀ q (hq:q<X.length),((X.set i ⟨X[i].g,X[i].o,X[i].c,X[i].xs.set j s⟩)[q]'(by rw[List.length_set];exact hq)).g=X[q].g∧((X.set i ⟨X[i].g,X[i].o,X[i].c,X[i].xs.set j s⟩)[q]'(by rw[List.length_set];exact hq)).o=X[q].o∧((X.set i ⟨X[i].g,X[i].o,X[i].c,X[i].xs.set j s⟩)[q]'(by rw[List.length_set];exact hq)).xs.length=X[q].xs.length:=by
   intro q hq
   by_cases e:q=i
   ·subst e
    rw[List.getElem_set_self]
    exact⟨rfl,rfl,by dsimp only;rw[List.length_set]⟩
   ·rw[List.getElem_set_ne (by omega)]
    exact⟨rfl,rfl,rfl⟩
  obtain⟨a1,a2,a3⟩:=key k hk
  obtain⟨b1,b2,b3⟩:=key m hm
  unfold Apart at hp ⊢
  rw[a1,a2,a3,b1,b2,b3]
  exact hp
structure Ed (W:World) (g:Nat) (vs:Value) (S:List (List UInt8)) (p:Nat) (vl:Value) (X:List Bck) (cur:Nat) (en:Bool) (w:World):Prop where
 scr:HS W vs S
 low:Below W.heap.size W w
 gW:W.heap.size≤g
 box:Eb w g vs vl (p:Int) ((cat X).length:Int) (cur:Int) en
 bks:Bks w W.heap.size vl X
 hp:p≤S.length
 hc:cur≤(cat X).length
section
variable {W w w':World} {g:Nat} {vs vl:Value} {S:List (List UInt8)} {p cur:Nat} {X:List Bck} {en:Bool}
theorem Ed.keep (h:Ed W g vs S p vl X cur en w) (hb:Below w.heap.size w w'):Ed W g vs S p vl X cur en w' :=
 ⟨h.scr,h.low.trans (hb.mono h.low.size),h.gW,h.box.low hb,h.bks.low hb,h.hp,h.hc⟩
theorem Ed.row (h:Ed W g vs S p vl X cur en w):HS w vs S:=HS.keep h.scr h.low (Nat.le_refl _)
end
theorem Zcq (l:List UInt8) (hl:l.length≤9223372036854775807) (w:World):Calls Tryz.prog 46 #[.string ⟨l.toArray⟩] w fun e w'=>e=.returned (.tuple #[.string ⟨(bareT l).toArray⟩,.bool (fdB l)])∧w'=w :=
 (Znk l w hl).mono fun _ _ h=>⟨h.1,h.2.symm⟩
def nxE (S:List (List UInt8)) (p:Nat):List UInt8 × Int:=if h:p<S.length then if fdB S[p]=true then (S[p].dropLast,0) else ([],3) else ([],1)
theorem Zha (W:World) (g:Nat) (vs vl:Value) (S:List (List UInt8)) (p:Nat) (X:List Bck) (cur:Nat) (en:Bool) (w:World) (hE:Ed W g vs S p vl X cur en w) (hS:S.length≤1099511627776) (HTS:Hid (∀ s∈S,s.length≤1099511627776)) (t:List UInt8) (e0:Int) (HN:Hid (nxE S p=(t,e0))) :
  Calls Tryz.prog 49 #[.pointer (some ⟨g,0,none⟩)] w fun e w'=>e=.returned (.tuple #[.string ⟨t.toArray⟩,.int .i64 e0])∧Below w.heap.size w w':=by
 obtain⟨c0,c1,_,_,_,_⟩:=hE.box.cells
 have hrow:=hE.row
 have hpS:=hE.hp
 obtain⟨so,sc,rfl⟩:=Holds.form hrow
 clear hE
 by_cases hlt:p<S.length
 ·obtain⟨bk,off,rfl,hbk,hcl⟩:=HS.at hrow (by omega)
  have d4:=hcl p hlt
  have hsl:=HTS.out S[p] (List.getElem_mem _)
  have hN:=HN.out
  unfold nxE at hN
  rw[dif_pos hlt] at hN
  generalize S[p]=s at d4 hsl hN
  clear hcl hrow HN
  have f0:((p:Int) == (S.length:Int))=false:=beq_eq_false_iff_ne.2 (by omega)
  cases hf:fdB s with
  | true =>
   rw[if_pos hf] at hN
   cases hN
   have hbs:∀ u,Calls Tryz.prog 46 #[.string ⟨s.toArray⟩] u fun e w'=>e=.returned (.tuple #[.string ⟨s.dropLast.toArray⟩,.bool true])∧w'=u:=fun u=>by
    have h:=Zcq s (by omega) u
    unfold bareT at h
    rw[hf,if_pos rfl] at h
    exact h
   go_enter Tryz.func49,Tryz.ntmps49
   go_wp2_with fail
   go_quiet (fail)
   go_wp2_with fail
   have c0':(w.drewN nq).cell? ⟨g,0,none⟩=_:=c0
   have c1':(w.drewN nq).cell? ⟨g,1,none⟩=_:=c1
   have d4':(w.drewN nq).cell? ⟨bk,off+p,none⟩=_:=d4
   have HM:Hid (∀ n,Below w.heap.size w ((w.drewN nq).drewN n)):=fun n=>Below.dN (Below.dN (Below.refl _ w) nq) n
   clear c0 c1 d4
   generalize w.drewN nq=W1 at c0' c1' d4' HM ⊢
   have j1:(0:Int)≤(p:Int):=by omega
   have j2:(p:Int)<(S.length:Int):=by omega
   have j3:(p:Int).toNat=p:=by omega
   go_quiet ((go_at_call 46;exact Calls.quiet_of_same (hbs _)))
   go_wp2
   go_ret2
   exact⟨rfl,HM.out _⟩
  | false =>
   rw[if_neg (by rw[hf];decide)] at hN
   cases hN
   have hbs:∀ u,Calls Tryz.prog 46 #[.string ⟨s.toArray⟩] u fun e w'=>e=.returned (.tuple #[.string ⟨s.toArray⟩,.bool false])∧w'=u:=fun u=>by
    have h:=Zcq s (by omega) u
    unfold bareT at h
    rw[hf,if_neg (by decide)] at h
    exact h
   go_enter Tryz.func49,Tryz.ntmps49
   go_wp2_with fail
   go_quiet (fail)
   go_wp2_with fail
   have c0':(w.drewN nq).cell? ⟨g,0,none⟩=_:=c0
   have c1':(w.drewN nq).cell? ⟨g,1,none⟩=_:=c1
   have d4':(w.drewN nq).cell? ⟨bk,off+p,none⟩=_:=d4
   have HM:Hid (∀ n,Below w.heap.size w ((w.drewN nq).drewN n)):=fun n=>Below.dN (Below.dN (Below.refl _ w) nq) n
   clear c0 c1 d4
   generalize w.drewN nq=W1 at c0' c1' d4' HM ⊢
   have j1:(0:Int)≤(p:Int):=by omega
   have j2:(p:Int)<(S.length:Int):=by omega
   have j3:(p:Int).toNat=p:=by omega
   go_quiet ((go_at_call 46;exact Calls.quiet_of_same (hbs _)))
   go_wp2
   go_ret2
   exact⟨rfl,HM.out _⟩
 ·have hN:=HN.out
  unfold nxE at hN
  rw[dif_neg hlt] at hN
  cases hN
  have f0:((p:Int) == (S.length:Int))=true:=beq_iff_eq.2 (by omega)
  have HM:Hid (∀ n,Below w.heap.size w (w.drewN n)):=fun n=>Below.dN (Below.refl _ w) n
  clear hrow HN
  go_enter Tryz.func49,Tryz.ntmps49
  go_wp2_with fail
  go_quiet (fail)
  go_wp2
  go_ret2
  exact⟨rfl,HM.out _⟩
end

section
open Go.RowKit
attribute [local go_sem] ByteArray.extract_mk
section
variable {W w w':World} {g:Nat} {vs vl:Value} {S:List (List UInt8)} {p cur:Nat} {X:List Bck} {en:Bool}
theorem Bks.bt {N:Nat} {v:Value} {p cnt cur:Int} (hk:Bks w N v X) (hE:Eb w g vs vl p cnt cur en) (hb:Bt g w w'):Bks w' N v X:=by
 have kp:∀ (k:Nat) (cs:Array Value) (t:TypeId),w.heap[k]?=some (.cells cs t (0,0))→t≠78→w'.heap[k]?=w.heap[k]?:=by
  intro k cs t hk2 ht
  refine hb.block k (Array.getElem?_eq_some_iff.1 hk2).1 ?_
  rintro rfl
  unfold Eb at hE
  rw[hE] at hk2
  cases hk2
  exact ht rfl
 obtain⟨o,c,cs,h1,h2,h3,h4,h5⟩:=hk.row
 refine⟨⟨o,c,cs,h1,h2,h3,(kp _ _ _ h4 (by decide)).trans h4,h5⟩,hk.ne,fun y hy=>?_,hk.apart⟩
 obtain⟨_,_,cs2,q2,_⟩:=hk.blk y hy
 exact (hk.blk y hy).keep (kp _ _ _ q2 (by decide))
theorem Ed.bt {p':Nat} (h:Ed W g vs S p vl X cur en w) (hb:Bt g w w') (hE:Eb w' g vs vl (p':Int) ((cat X).length:Int) (cur:Int) en) (hp:p'≤S.length):Ed W g vs S p' vl X cur en w' :=
 ⟨h.scr,h.low.trans (hb.low h.gW h.low.size),h.gW,hE,h.bks.bt h.box hb,hp,h.hc⟩
end
theorem ZiY:∀ (X:List Bck) (a:Nat),X≠[]→a≤(cat X).length→∃ i k,Fnd X a i k
 | [],_,h,_=>absurd rfl h
 | [x],a,_,ha=>⟨0,a,by simp,by simpa [cat] using ha,by simp[cat],fun h=>h,fun _=>rfl⟩
 | x::y::r,a,_,ha=>by
  by_cases h:a≤x.xs.length
  ·exact⟨0,a,by simp,h,by simp[cat],fun h=>h,fun _=>rfl⟩
  ·obtain⟨i,k,hf⟩:=ZiY (y::r) (a-x.xs.length) (by simp) (by rw[Zdz,List.length_append] at ha;omega)
   have hl:=hf.lt
   refine⟨i+1,k,by simp at hl ⊢;omega,hf.le,?_,fun _=>hf.pos (by omega),fun h0=>by omega⟩
   have:=hf.eq
   rw[List.take_succ_cons,Zdz,List.length_append]
   omega
theorem Zjb {X:List Bck} {a i k i' k':Nat} (h:Fnd X a i k) (h':Fnd X a i' k'):i=i'∧k=k':=by
 have h1:=h.order h' (Nat.le_refl _)
 have h2:=h'.order h (Nat.le_refl _)
 have e:i=i':=by omega
 subst e
 have:=h.eq
 have:=h'.eq
 exact⟨rfl,by omega⟩
theorem ZcQ {N g q:Nat} {ao:Option Addr} {n c:Nat} {X:List Bck} {w:World} (hk:Bks w N (.slice ao n c) X) (hc:w.cell? ⟨g,q,none⟩=some (.slice ao n c)) (hX:X.length≤1099511627776) (hT:(cat X).length≤1099511627776) {a i k:Nat} (h:Fnd X a i (k+1)) (ha:a≤(cat X).length) :
  Calls Tryz.prog 78 #[.pointer (some ⟨g,q,none⟩),.int .i64 (a:Int)] w fun e w'=>e=.returned (.pointer (some ⟨(X[i]'h.lt).g,(X[i]'h.lt).o+k,none⟩))∧w'=w:=by
 refine (ZcR N g q ao n c X w hk hc hX hT a (by have:=h.eq;omega) ha).mono ?_
 rintro e w' ⟨i',k',h',rfl,rfl⟩
 obtain⟨rfl,hkk⟩:=Zjb h h'
 obtain rfl:k=k':=by omega
 exact⟨rfl,rfl⟩
theorem ZiZ {X:List Bck} {a i k:Nat} (h:Fnd X a i (k+1)):(cat X).getD (a-1) []=((X[i]'h.lt).xs)[k]'(by have:=h.le;omega):=by
 have h1:=h.eq
 have h2:=h.le
 rw[ZdD X i h.lt,List.getD_eq_getElem?_getD,List.getElem?_append_right (by omega),List.getElem?_append_left (by omega),show a-1-(cat (X.take i)).length=k by omega,List.getElem?_eq_getElem (by omega)]
 rfl
theorem Zja {X:List Bck} {a i k:Nat} (h:Fnd X a i (k+1)) (s:List UInt8):cat (X.set i ⟨(X[i]'h.lt).g,(X[i]'h.lt).o,(X[i]'h.lt).c,(X[i]'h.lt).xs.set k s⟩)=(cat X).set (a-1) s:=by
 have h1:=h.eq
 have h2:=h.le
 rw[ZdC X i h.lt,ZdD X i h.lt,List.set_append_right _ _ (by omega),show a-1-(cat (X.take i)).length=k by omega,List.set_append_left _ _ (by omega)]
theorem Zzt (c:UInt8) (t:List UInt8):(⟨(c::t).toArray⟩:ByteArray).extract 1 (⟨(c::t).toArray⟩:ByteArray).size=⟨t.toArray⟩:=by
 have hs:(⟨(c::t).toArray⟩:ByteArray).size=t.length+1:=rfl
 rw[hs,ByteArray.extract_mk]
 congr 1
 simp
theorem Zxg (c:UInt8) (t:List UInt8) (u:World):(Instr.slice 9 (.string ⟨(c::t).toArray⟩) (some (.int .i64 1)) none none).run Tryz.prog u=.ok (.string ⟨t.toArray⟩) u:=by
 rw[run_slice_string_l (P:=Tryz.prog) u 9 ⟨(c::t).toArray⟩ Tryz.underlying9 .i64 1 (by decide) (by show (1:Int)≤((t.length+1:Nat):Int);omega)]
 have:=Zzt c t
 simp[this]
def EdQ (W:World) (g:Nat) (vs:Value) (S:List (List UInt8)) (B:Nat) (r:Except (Nat × Int) (List (List UInt8) × Nat × Bool × Nat)) (e:Ending) (w':World):Prop :=
 match r with
 | .error (k,z)=>e=.returned (.int .i64 z)∧z≠0∧∃ p vl X cur en,k=p+1∧Ed W g vs S p vl X cur en w'
 | .ok (T,cur,en,p)=>e=.returned (.int .i64 0)∧∃ vl X,Ed W g vs S p vl X cur en w'∧cat X=T∧512 * X.length≤B
theorem Ed.cut {W w:World} {g:Nat} {vs vl:Value} {S:List (List UInt8)} {p cur:Nat} {X:List Bck} {en:Bool} (h:Ed W g vs S p vl X cur en w) {i k:Nat} (hF:Fnd X cur i (k+1)) (s:List UInt8) :
  Ed W g vs S p vl (X.set i ⟨(X[i]'hF.lt).g,(X[i]'hF.lt).o,(X[i]'hF.lt).c,(X[i]'hF.lt).xs.set k s⟩) cur en (w.setCell ⟨(X[i]'hF.lt).g,(X[i]'hF.lt).o+k,none⟩ (.string ⟨s.toArray⟩)):=by
 have hb:=h.bks.blk (X[i]'hF.lt) (List.getElem_mem _)
 have hc:=Zja hF s
 have hl:(cat (X.set i ⟨(X[i]'hF.lt).g,(X[i]'hF.lt).o,(X[i]'hF.lt).c,(X[i]'hF.lt).xs.set k s⟩)).length=(cat X).length:=by rw[hc,List.length_set]
 refine⟨h.scr,h.low.setCell hb.1 _,h.gW,?_,h.bks.set i hF.lt k (by have:=hF.le;omega) s,h.hp,by rw[hl];exact h.hc⟩
 rw[hl]
 have hne:g≠(X[i]'hF.lt).g:=by
  intro e
  obtain⟨_,_,cs,q,_⟩:=hb
  have hq:=h.box
  unfold Eb at hq
  rw[e,q] at hq
  cases hq
 exact (heap_setCell_other _ _ _ _ hne).trans h.box
theorem Ed.setP {W w:World} {g:Nat} {vs vl:Value} {S:List (List UInt8)} {p cur:Nat} {X:List Bck} {en:Bool} (h:Ed W g vs S p vl X cur en w) (p':Nat) (hp:p'≤S.length) (z:Int) (hz:z=(p':Int)):Ed W g vs S p' vl X cur en (w.setCell ⟨g,1,none⟩ (.int .i64 z)):=by
 subst hz
 exact h.bt (Bt.set (Bt.of (Below.refl _ w)) 1 _) (h.box.setP _) hp
theorem Ed.setE {W w:World} {g:Nat} {vs vl:Value} {S:List (List UInt8)} {p cur:Nat} {X:List Bck} {en:Bool} (h:Ed W g vs S p vl X cur en w):Ed W g vs S p vl X cur true (w.setCell ⟨g,5,none⟩ (.bool true)):=by
 have hb:=Bt.set (g:=g) (Bt.of (Below.refl _ w)) 5 (.bool true)
 exact⟨h.scr,h.low.trans (hb.low h.gW h.low.size),h.gW,h.box.setE true,h.bks.bt h.box hb,h.hp,h.hc⟩
theorem Ed.setU {W w:World} {g:Nat} {vs vl:Value} {S:List (List UInt8)} {p cur:Nat} {X:List Bck} {en:Bool} (h:Ed W g vs S p vl X cur en w) (c':Nat) (hc:c'≤(cat X).length) (z:Int) (hz:z=(c':Int)):Ed W g vs S p vl X c' en (w.setCell ⟨g,4,none⟩ (.int .i64 z)):=by
 subst hz
 have hb:=Bt.set (g:=g) (Bt.of (Below.refl _ w)) 4 (.int .i64 (c':Int))
 exact⟨h.scr,h.low.trans (hb.low h.gW h.low.size),h.gW,h.box.setU _,h.bks.bt h.box hb,h.hp,hc⟩
theorem ZfL (W:World) (g:Nat) (vs vl:Value) (S:List (List UInt8)) (p:Nat) (X:List Bck) (cur:Nat) (en:Bool) (w:World) (hE:Ed W g vs S p vl X cur en w) (hS:S.length≤1099511627776) (hp1:p<S.length) (hX:X.length≤549755813888) (hT:(cat X).length≤274877906944)
  (r:Except (Nat × Int) (List (List UInt8) × Nat × Bool × Nat)) (HR:Hid ((if cur=0∨(cat X).getD (cur-1) []=[] then .error (p+1,130) else .ok ((cat X).set (cur-1) ((cat X).getD (cur-1) []).tail,cur,en,p+1))=r)) :
  Calls Tryz.prog 50 #[.pointer (some ⟨g,0,none⟩)] w fun e w'=>EdQ W g vs S (512 * X.length) r e w':=by
 obtain⟨_,c1,c2,_,c4,_⟩:=hE.box.cells
 by_cases h0:cur=0
 ·have hr:=HR.out
  rw[if_pos (.inl h0)] at hr
  subst hr
  subst h0
  go_enter Tryz.func50,Tryz.ntmps50
  go_wp2
  go_ret
  exact⟨rfl,by decide,_,_,_,_,_,rfl,hE⟩
 ·have hc0:((cur:Int) == 0)=false:=beq_eq_false_iff_ne.2 (by omega)
  obtain⟨o,c,_,rfl,_⟩:=hE.bks.row
  obtain⟨i,k',hF⟩:=ZiY X cur hE.bks.ne hE.hc
  obtain⟨k,rfl⟩:∃ k,k'=k+1:=⟨k'-1,by have:=hF.pos (by omega);omega⟩
  have hbl:∀ u,u.heap=w.heap→Calls Tryz.prog 78 #[.pointer (some ⟨g,2,none⟩),.int .i64 (cur:Int)] u fun e w'=>e=.returned (.pointer (some ⟨(X[i]'hF.lt).g,(X[i]'hF.lt).o+k,none⟩))∧w'=u:=(by
   intro u hu
   have hb:Below w.heap.size w u→True:=fun _=>trivial
   have hku:Bks u W.heap.size (.slice (some ⟨o,0,none⟩) X.length c) X:=(by
    obtain⟨o1,c1,cs1,q1,q2,q3,q4,q5⟩:=hE.bks.row
    exact⟨⟨o1,c1,cs1,q1,q2,q3,by rw[hu];exact q4,q5⟩,hE.bks.ne,fun x hx=>(hE.bks.blk x hx).keep (by rw[hu]),hE.bks.apart⟩)
   have hcu:u.cell? ⟨g,2,none⟩=some (.slice (some ⟨o,0,none⟩) X.length c):=(by
    rw[← c2]
    unfold World.cell?
    rw[hu])
   exact ZcQ hku hcu (by omega) (by omega) hF hE.hc)
  have hget:=ZiZ hF
  have hcell:=(hE.bks.blk (X[i]'hF.lt) (List.getElem_mem _)).cell k (by have:=hF.le;omega)
  obtain⟨s,hs⟩:∃ s,(X[i]'hF.lt).xs[k]'(by have:=hF.le;omega)=s:=⟨_,rfl⟩
  rw[hs] at hget hcell
  have hcut:=fun t=>hE.cut hF t
  have hcat:=fun t=>Zja hF t
  obtain⟨l1,l2⟩:=hcell
  have hr:=HR.out
  have HCT:Hid (∀ t,Ed W g vs S p (.slice (some ⟨o,0,none⟩) X.length c) (X.set i ⟨(X[i]'hF.lt).g,(X[i]'hF.lt).o,(X[i]'hF.lt).c,(X[i]'hF.lt).xs.set k t⟩) cur en (w.setCell ⟨(X[i]'hF.lt).g,(X[i]'hF.lt).o+k,none⟩ (.string ⟨t.toArray⟩))):=hcut
  have HCC:Hid (∀ t,cat (X.set i ⟨(X[i]'hF.lt).g,(X[i]'hF.lt).o,(X[i]'hF.lt).c,(X[i]'hF.lt).xs.set k t⟩)=(cat X).set (cur-1) t):=hcat
  clear hcut hcat HR
  rw[hget] at hr
  cases s with
  | nil =>
   rw[if_pos (.inr rfl)] at hr
   subst hr
   have hM:Hid (∀ n,Ed W g vs S p (.slice (some ⟨o,0,none⟩) X.length c) X cur en (w.drewN n)):=fun n=>hE.keep (Below.dN (Below.refl _ w) n)
   clear hE HCT HCC hs hget
   generalize (X[i]'hF.lt).g=xg at *
   generalize (X[i]'hF.lt).o=xo at *
   have l1':∀ n,(w.drewN n).cell? ⟨xg,xo+k,none⟩=some (.string ⟨#[]⟩):=fun n=>l1
   go_enter Tryz.func50,Tryz.ntmps50
   go_wp2_with fail
   go_quiet ((go_at_call 78;exact Calls.quiet_of_same (hbl _ rfl)))
   go_wp2
   go_ret
   exact⟨rfl,by decide,_,_,_,_,_,rfl,hM.out _⟩
  | cons ch t =>
   rw[if_neg (by simp[h0])] at hr
   subst hr
   have hM:Hid (∀ n,Ed W g vs S (p+1) (.slice (some ⟨o,0,none⟩) X.length c) (X.set i ⟨(X[i]'hF.lt).g,(X[i]'hF.lt).o,(X[i]'hF.lt).c,(X[i]'hF.lt).xs.set k t⟩) cur en (((w.drewN n).setCell ⟨(X[i]'hF.lt).g,(X[i]'hF.lt).o+k,none⟩ (.string ⟨t.toArray⟩)).setCell ⟨g,1,none⟩ (.int .i64 ((p:Int)+1)))):=fun n=>((hE.keep (Below.dN (Below.refl _ w) n)).cut hF t).setP (p+1) (by omega) _ (by omega)
   have hcu2:∀ n,((w.drewN n).setCell ⟨(X[i]'hF.lt).g,(X[i]'hF.lt).o+k,none⟩ (.string ⟨t.toArray⟩)).cell? ⟨g,1,none⟩=some (.int .i64 (p:Int))∧((w.drewN n).setCell ⟨(X[i]'hF.lt).g,(X[i]'hF.lt).o+k,none⟩ (.string ⟨t.toArray⟩)).frozen? ⟨g,1,none⟩=false:=fun n=>by
    have h:=(hE.keep (Below.dN (Below.refl _ w) n)).cut hF t
    exact⟨h.box.cells.2.1,h.box.frozen 1⟩
   have HT2:Hid (cat (X.set i ⟨(X[i]'hF.lt).g,(X[i]'hF.lt).o,(X[i]'hF.lt).c,(X[i]'hF.lt).xs.set k t⟩)=(cat X).set (cur-1) t):=HCC.out t
   have HL2:Hid (512 * (X.set i ⟨(X[i]'hF.lt).g,(X[i]'hF.lt).o,(X[i]'hF.lt).c,(X[i]'hF.lt).xs.set k t⟩).length≤512 * X.length):=(by show _≤_;rw[List.length_set];exact Nat.le_refl _)
   clear hE HCT HCC hs hget
   generalize X.set i ⟨(X[i]'hF.lt).g,(X[i]'hF.lt).o,(X[i]'hF.lt).c,(X[i]'hF.lt).xs.set k t⟩=X2 at *
   generalize (X[i]'hF.lt).g=xg at *
   generalize (X[i]'hF.lt).o=xo at *
   have hsl:=fun u=>Zxg ch t u
   go_enter Tryz.func50,Tryz.ntmps50
   go_wp2_with fail
   go_quiet ((go_at_call 78;exact Calls.quiet_of_same (hbl _ rfl)))
   have l1':(w.drewN nq).cell? ⟨xg,xo+k,none⟩=some (.string ⟨(ch::t).toArray⟩):=l1
   have l2':(w.drewN nq).frozen? ⟨xg,xo+k,none⟩=false:=l2
   obtain⟨u1,u2⟩:=hcu2 nq
   have HM:=hM.out nq
   have HMh:Hid (Ed W g vs S (p+1) (.slice (some ⟨o,0,none⟩) X.length c) X2 cur en (((w.drewN nq).setCell ⟨xg,xo+k,none⟩ (.string ⟨t.toArray⟩)).setCell ⟨g,1,none⟩ (.int .i64 ((p:Int)+1)))):=HM
   clear HM hM hcu2 l1 l2 c1 c2 c4 hbl
   go_wp2
   go_ret
   exact⟨rfl,_,X2,HMh.out,HT2.out,HL2.out⟩
end

section
open Go.RowKit
def edP (g:Nat) (w:World):Nat:=match w.cell? ⟨g,1,none⟩ with
 | some (.int _ z)=>z.toNat
 | _=>0
theorem ZgC {g:Nat} {w:World} {vs vl:Value} {p:Nat} {cnt cur:Int} {en:Bool} (h:Eb w g vs vl (p:Int) cnt cur en):edP g w=p:=by
 unfold edP
 rw[h.cells.2.1]
 simp
theorem Zrm {a b:World} {base:Nat} {e:TypeId} {s:Nat} {v:Value} {n:Nat} {xs:List Value} (h:a.ownsRow base e s v n xs) (hk:∀ k,v.ownBlock=some k→b.heap[k]?=a.heap[k]?):b.ownsRow base e s v n xs:=by
 refine⟨h.1,?_⟩
 rcases h.2 with q | ⟨g,cap,cur,rfl,q2,q3,q4⟩
 ·exact .inl q
 ·exact .inr ⟨g,cap,cur,rfl,q2,(hk g rfl).trans q3,q4⟩
theorem Bt.grown {g:Nat} {a b c:World} {row:Option Nat} (h:Bt g a b) (hg:b.grownBy c row) (hr:∀ j,row=some j→a.heap.size≤j):Bt g a c :=
 ⟨hg.os.trans h.os,hg.tape.trans h.tape,hg.output.trans h.output,Nat.le_trans h.size hg.size,fun k hk hq=>(hg.block k (Nat.lt_of_lt_of_le hk h.size) (fun e=>by have:=hr k e.symm;omega)).trans (h.block k hk hq)⟩
def txA (l:List (List UInt8)) (r:Except (Nat × Int) (List (List UInt8) × Nat × List (List UInt8))):Except (Nat × Int) (List (List UInt8) × Nat × List (List UInt8)):=match r with
 | .error e=>.error e
 | .ok (l2,q,r2)=>.ok (l++l2,q,r2)
theorem ZAg (l:List (List UInt8)) (s:List UInt8) (r:Except (Nat × Int) (List (List UInt8) × Nat × List (List UInt8))):txA l (match r with
  | .error e=>.error e
  | .ok (l2,q,r2)=>.ok (s::l2,q,r2))=txA (l++[s]) r:=by
 cases r with
 | error e=>rfl
 | ok x=>simp[txA]
def TxQ (W:World) (g:Nat) (vs:Value) (S:List (List UInt8)) (vl:Value) (X:List Bck) (cur:Nat) (en:Bool) (R:Except (Nat × Int) (List (List UInt8) × Nat × List (List UInt8))) (w:World) (e:Ending) (w':World):Prop :=
 match R with
 | .error (k,z)=>e=.returned (.tuple #[.slice none 0 0,.int .i64 z])∧z≠0∧∃ p,k=p+1∧Ed W g vs S p vl X cur en w'
 | .ok (l,q,_)=>∃ oo oc,e=.returned (.tuple #[.slice oo l.length oc,.int .i64 0])∧HS w' (.slice oo l.length oc) l∧Ed W g vs S q vl X cur en w'∧Bt g w w'
theorem ZhA (W:World) (g:Nat) (vs vl:Value) (S:List (List UInt8)) (p:Nat) (X:List Bck) (cur:Nat) (en:Bool) (w:World) (hE:Ed W g vs S p vl X cur en w) (hS:S.length≤1099511627776) (HTS:Hid (∀ s∈S,s.length≤1099511627776))
  (R:Except (Nat × Int) (List (List UInt8) × Nat × List (List UInt8))) (HR:Hid (txR p (S.drop p)=R)) :
  Calls Tryz.prog 81 #[.pointer (some ⟨g,0,none⟩)] w fun e w'=>TxQ W g vs S vl X cur en R w e w':=by
 have hgl:=hE.box.lt
 have HE:Hid (Ed W g vs S p vl X cur en w):=hE
 have HI0:Hid (txA [] (txR p (S.drop p))=R):=(by show _=_;rw[HR.out];cases R<;>rfl)
 have hp0:=hE.hp
 have hb0:=hE.box
 clear hE HR
 go_enter Tryz.func81,Tryz.ntmps81
 go_wp2
 go_loopw [4] (fun lv wr=>∃ (q:Nat) (l:List (List UInt8)),q≤S.length∧Hid (q=p+l.length)∧(∃ oo oc,lv=.slice oo l.length oc)∧Hid (wr.ownsRow w.heap.size 9 1 lv l.length (scells l))∧Hid (Eb wr g vs vl (q:Int) ((cat X).length:Int) (cur:Int) en)∧Bt g w wr∧Hid (txA l (txR q (S.drop q))=R)) (fun _ wr=>S.length+1-edP g wr)
 case atStart=>exact⟨p,[],hp0,rfl,⟨none,0,rfl⟩,World.ownsRow_nil _ _ _ _,hb0,Bt.of (Below.refl _ w),HI0⟩
 case round =>
  clear HI0 hb0
  obtain⟨q,l,hq,hql,⟨oo,oc,rfl⟩,hO,hEb,hB,HI⟩:=hrel
  have HEr:Hid (Ed W g vs S q vl X cur en wr):=HE.out.bt hB hEb.out hq
  have hmeas:=ZgC hEb.out
  by_cases hlt:q<S.length
  ·cases hf:fdB S[q] with
   | true =>
    obtain⟨t,ht⟩:∃ t,S[q].dropLast=t:=⟨_,rfl⟩
    have HNX:Hid (nxE S q=(t,0)):=(by
     show _=_
     unfold nxE
     rw[dif_pos hlt,if_pos hf,ht])
    have HTX:Hid (txR q (S.drop q)=if t=[46] then .ok ([],q+1,S.drop (q+1)) else match txR (q+1) (S.drop (q+1)) with
      | .error e=>.error e
      | .ok (l,q,r2)=>.ok (t::l,q,r2)):=(by
     show _=_
     rw[List.drop_eq_getElem_cons hlt,txR,if_pos hf,ht]
     split
     ·rfl
     ·cases txR (q+1) (S.drop (q+1))<;>rfl)
    have htl:t.length≤1099511627776:=(by
     have:=HTS.out S[q] (List.getElem_mem _)
     rw[← ht,List.length_dropLast]
     omega)
    clear ht hf
    go_wp2_with fail
    refine (Zha W g vs vl S q X cur en wr HEr.out hS HTS t 0 HNX).mono ?_
    rintro e w1 ⟨rfl,hb1⟩
    have HE1:Hid (Ed W g vs S q vl X cur en w1):=HEr.out.keep hb1
    obtain⟨_,c1,_,_,_,_⟩:=HE1.out.box.cells
    have f1:=HE1.out.box.frozen 1
    have hB1:Bt g w w1:=hB.trans (Bt.of hb1)
    have hO1:Hid (w1.ownsRow w.heap.size 9 1 (.slice oo l.length oc) l.length (scells l)):=Zrm hO.out (fun k hk=>hb1.block k (hO.out.lt k hk).2)
    have HE2:Hid (Ed W g vs S (q+1) vl X cur en (w1.setCell ⟨g,1,none⟩ (.int .i64 ((q:Int)+1)))):=HE1.out.setP (q+1) (by omega) _ (by omega)
    have hB2:Bt g w (w1.setCell ⟨g,1,none⟩ (.int .i64 ((q:Int)+1))):=hB1.set 1 _
    have hO2:Hid ((w1.setCell ⟨g,1,none⟩ (.int .i64 ((q:Int)+1))).ownsRow w.heap.size 9 1 (.slice oo l.length oc) l.length (scells l)):=Zrm hO1.out (fun k hk=>heap_setCell_other _ _ _ _ (by have:=(hO1.out.lt k hk).1;show k≠g;omega))
    clear HEr hO hO1 hEb hB hB1 hb1 HE1
    by_cases hd:t=[46]
    ·subst hd
     have HI2:Hid (.ok (l,q+1,S.drop (q+1))=R):=(by
      show _=_
      rw[← HI.out,HTX.out,if_pos rfl]
      simp[txA])
     clear HI HTX
     go_wp2
     go_ret2
     have hr:=HI2.out
     subst hr
     exact⟨oo,oc,rfl,holds_of hO2.out,HE2.out,hB2⟩
    ·have hdb:(t == [46])=false:=beq_eq_false_iff_ne.2 hd
     have HI2:Hid (txA (l++[t]) (txR (q+1) (S.drop (q+1)))=R):=(by
      show _=_
      rw[← HI.out,HTX.out,if_neg hd,ZAg])
     clear HI HTX hd
     have hlb:l.length≤1099511627776:=by have:=hql.out;omega
     obtain⟨w2,hw2⟩:∃ w2,w1.setCell ⟨g,1,none⟩ (.int .i64 ((q:Int)+1))=w2:=⟨_,rfl⟩
     rw[hw2] at HE2 hB2 hO2
     have hsz:=hB2.size
     go_wp2_with (at_builtin;refine ZBv _ (by kernel_rfl) (.tmp 25) (.tmp 27) 23 9 (.string ⟨#[]⟩) 1 16 rfl Tryz.underlying23 infoStr rfl (by decide) (by decide) w.heap.size _ _ _ rfl (hO2.out.alloc _) _ 1 (scells [t]) rfl (Zqa _ _ _ _ _ (by decide)) rfl (scells_one _) (by omega) (by simp;omega) ?_)
     intro v3 w3 hown3 hgrow3
     have hB3:Bt g w w3:=(hB2.trans (Bt.of ((Below.refl _ w2).alloc (Nat.le_refl _) _))).grown hgrow3 (fun j hj=>owns_ge (hO2.out.alloc (.cells #[.string ⟨t.toArray⟩] 9)) hj)
     have hEb3:Hid (Eb w3 g vs vl ((q+1:Nat):Int) ((cat X).length:Int) (cur:Int) en):=(by
      have h1:=HE2.out.box
      have h2:Eb (w2.alloc (.cells #[.string ⟨t.toArray⟩] 9)) g vs vl ((q+1:Nat):Int) ((cat X).length:Int) (cur:Int) en:=h1.low ((Below.refl _ w2).alloc (Nat.le_refl _) _)
      refine (hgrow3.block g h2.lt (fun e=>?_)).trans h2
      have:=owns_ge (hO2.out.alloc (.cells #[.string ⟨t.toArray⟩] 9)) e.symm
      omega)
     obtain⟨o3,c3,rfl⟩:=(holds_of hown3).form
     rw[← scells_append] at hown3
     have HO3:Hid (w3.ownsRow w.heap.size 9 1 (.slice o3 (l.length+1) c3) (l.length+1) (scells (l++[t]))):=hown3
     have hm3:=ZgC hEb3.out
     clear hown3 hgrow3 hO2 HE2
     go_wp2
     refine⟨⟨q+1,l++[t],by omega,(by show _=_;have:=hql.out;simp;omega),⟨o3,c3,by simp⟩,?_,hEb3,hB3,HI2⟩,?_⟩
     ·show World.ownsRow _ _ _ _ _ _ _
      rw[List.length_append,List.length_singleton]
      exact HO3.out
     ·rw[hm3,hmeas]
      omega
   | false =>
    have HNX:Hid (nxE S q=([],3)):=(by
     show _=_
     unfold nxE
     rw[dif_pos hlt,if_neg (by rw[hf];decide)])
    have HI2:Hid (.error (q+1,3)=R):=(by
     show _=_
     rw[← HI.out,List.drop_eq_getElem_cons hlt,txR,if_neg (by rw[hf];decide)]
     rfl)
    clear HI hf
    go_wp2_with fail
    refine (Zha W g vs vl S q X cur en wr HEr.out hS HTS [] 3 HNX).mono ?_
    rintro e w1 ⟨rfl,hb1⟩
    have HE1:Hid (Ed W g vs S q vl X cur en w1):=HEr.out.keep hb1
    go_wp2
    go_ret2
    have hr:=HI2.out
    subst hr
    exact⟨rfl,by decide,q,rfl,HE1.out⟩
  ·have HNX:Hid (nxE S q=([],1)):=(by
    show _=_
    unfold nxE
    rw[dif_neg hlt])
   have HI2:Hid (.error (q+1,1)=R):=(by
    show _=_
    rw[← HI.out,List.drop_of_length_le (by omega),txR]
    rfl)
   clear HI
   go_wp2_with fail
   refine (Zha W g vs vl S q X cur en wr HEr.out hS HTS [] 1 HNX).mono ?_
   rintro e w1 ⟨rfl,hb1⟩
   have HE1:Hid (Ed W g vs S q vl X cur en w1):=HEr.out.keep hb1
   go_wp2
   go_ret2
   have hr:=HI2.out
   subst hr
   exact⟨rfl,by decide,q,rfl,HE1.out⟩
end

section
open Go.RowKit
def doR (T:List (List UInt8)) (a b:Nat) (en:Bool) (R:Except (Nat × Int) (List (List UInt8) × Nat × List (List UInt8))):Except (Nat × Int) (List (List UInt8) × Nat × Bool × Nat):=match R with
 | .error e=>.error e
 | .ok (l,q,_)=>.ok (putE T a b l,curE a l,en,q)
theorem ZAi:∀ (r:List (List UInt8)) {p q:Nat} {l r2:List (List UInt8)},txR p r=.ok (l,q,r2)→l.length≤r.length
 | [],_,_,_,_,h=>by cases h
 | s::r,p,q,l,r2,h=>by
  simp only[txR] at h
  split at h
  ·split at h
   ·cases h
    simp
   ·split at h
    ·cases h
    ·rename_i l' q' r' h'
     cases h
     have:=ZAi r h'
     simp only[List.length_cons]
     omega
  ·cases h
theorem ZgH (W:World) (g:Nat) (vs vl:Value) (S:List (List UInt8)) (p:Nat) (X:List Bck) (cur:Nat) (en:Bool) (w:World) (hE:Ed W g vs S p vl X cur en w) (hS:S.length≤274877906944) (HTS:Hid (∀ s∈S,s.length≤1099511627776)) (hp1:p<S.length) (hX:X.length≤549755813888) (hT:(cat X).length≤137438953472)
  (a b:Nat) (tx:Bool) (hab:a≤b) (hb:b≤(cat X).length) (R:Except (Nat × Int) (List (List UInt8) × Nat × List (List UInt8))) (HR:Hid (doE tx (p+1) (S.drop (p+1))=R)) :
  Calls Tryz.prog 53 #[.pointer (some ⟨g,0,none⟩),.agg #[.int .i64 (a:Int),.int .i64 (b:Int),.bool tx]] w fun e w'=>EdQ W g vs S (512 * X.length+(cat X).length+S.length) (doR (cat X) a b en R) e w':=by
 have hB0:Below w.heap.size w (w.alloc (.cells #[.int .i64 (a:Int),.int .i64 (b:Int),.bool tx] 107)):=(Below.refl _ w).alloc (Nat.le_refl _) _
 have hc0:Cb (w.alloc (.cells #[.int .i64 (a:Int),.int .i64 (b:Int),.bool tx] 107)) w.heap.size (.int .i64 (a:Int)) (.int .i64 (b:Int)) (.bool tx):=_root_.Go.heap_alloc_new w _
 obtain⟨w0,hw0⟩:∃ w0,w.alloc (.cells #[.int .i64 (a:Int),.int .i64 (b:Int),.bool tx] 107)=w0:=⟨_,rfl⟩
 rw[hw0] at hB0 hc0
 have hE0:=hE.keep hB0
 have hne:w.heap.size≠g:=by have:=hE.box.lt;omega
 obtain⟨_,c1,_,_,_,_⟩:=hE0.box.cells
 have f1:=hE0.box.frozen 1
 have hE1:=hE0.setP (p+1) (by omega) ((p:Int)+1) (by omega)
 have hc1:Cb (w0.setCell ⟨g,1,none⟩ (.int .i64 ((p:Int)+1))) w.heap.size (.int .i64 (a:Int)) (.int .i64 (b:Int)) (.bool tx):=(heap_setCell_other _ _ _ _ hne).trans hc0
 obtain⟨w1,hw1⟩:∃ w1,w0.setCell ⟨g,1,none⟩ (.int .i64 ((p:Int)+1))=w1:=⟨_,rfl⟩
 rw[hw1] at hE1 hc1
 obtain⟨_,_,d2⟩:=hc1.cells
 have hpi:(p:Int)≤274877906944:=by omega
 clear hE hE0 hB0 hc0
 cases tx with
 | true =>
  have HR2:Hid (txR (p+1) (S.drop (p+1))=R):=(by show _=_;rw[← HR.out];rfl)
  go_enter Tryz.func53,Tryz.ntmps53
  go_wp2_with fail
  refine (ZhA W g vs vl S (p+1) X cur en w1 hE1 (by omega) HTS R HR2).mono ?_
  intro e w2 hq
  cases R with
  | error kz =>
   obtain⟨k,z⟩:=kz
   obtain⟨rfl,hz,p',rfl,hE2⟩:=hq
   have hzb:(z != 0)=true:=bne_iff_ne.2 hz
   have HE2:Hid (Ed W g vs S p' vl X cur en w2):=hE2
   clear hE2
   go_wp2
   go_ret
   exact⟨rfl,hz,_,_,_,_,_,rfl,HE2.out⟩
  | ok x =>
   obtain⟨l,q,r2⟩:=x
   obtain⟨oo,oc,rfl,hHl,hE2,hB2⟩:=hq
   have hll:l.length≤S.length:=(by
    have h1:=ZAl HR2.out
    have h2:=ZAk HR2.out
    have h3:=ZAi _ HR2.out
    rw[List.length_drop] at h3
    omega)
   have hc2:Cb w2 w.heap.size (.int .i64 (a:Int)) (.int .i64 (b:Int)) (.bool true):=(hB2.block _ hc1.lt hne).trans hc1
   obtain⟨e0,e1,_⟩:=hc2.cells
   have hre:=ZuS w2.drew g W.heap.size vs vl (.slice oo l.length oc) (q:Int) (cur:Int) en X (l) (hE2.keep (Below.refl _ w2).drew).box (hE2.keep (Below.refl _ w2).drew).bks hE2.gW (HS.keep hHl (Below.refl _ w2).drew (Nat.le_refl _)) (by omega) (by omega) (by omega) a b hab hb
   have hre2:Calls Tryz.prog 82 #[.pointer (some ⟨g,2,none⟩),.int .i64 (a:Int),.int .i64 (b:Int),.slice oo l.length oc] w2.drew fun e w'=>e=.returned (.tuple #[])∧w'.cell? ⟨w.heap.size,0,none⟩=some (.int .i64 (a:Int))∧w'.cell? ⟨w.heap.size,1,none⟩=some (.int .i64 (b:Int))∧Hid (∃ vl' X',Ed W g vs S q vl' X' 0 en (w'.setCell ⟨g,4,none⟩ (.int .i64 0))∧Eb w' g vs vl' (q:Int) ((cat X').length:Int) (cur:Int) en∧cat X'=putE (cat X) a b (l)∧512 * X'.length≤512 * X.length+(cat X).length+(l).length):=(by
    refine hre.mono ?_
    rintro e w' ⟨rfl,vl',X',h1,h2,h3,h4,h5⟩
    have hcb:Cb w' w.heap.size (.int .i64 (a:Int)) (.int .i64 (b:Int)) (.bool true):=(h5.block _ hc2.lt hne).trans hc2
    obtain⟨q0,q1,_⟩:=hcb.cells
    refine⟨rfl,q0,q1,vl',X',?_,h1,h3,h4⟩
    have hb4:=Bt.set (g:=g) (Bt.of (Below.refl _ w')) 4 (.int .i64 (0:Int))
    exact⟨hE2.scr,(hE2.low.trans ((Bt.trans (Bt.of (Below.refl _ w2).drew) h5).low hE2.gW hE2.low.size)).trans (hb4.low hE2.gW (Nat.le_trans hE2.low.size (Bt.trans (Bt.of (Below.refl _ w2).drew) h5).size)),hE2.gW,h1.setU 0,h2.bt h1 hb4,hE2.hp,Nat.zero_le _⟩)
   clear hre
   have e0d:w2.drew.cell? ⟨w.heap.size,0,none⟩=some (.int .i64 (a:Int)):=e0
   have e1d:w2.drew.cell? ⟨w.heap.size,1,none⟩=some (.int .i64 (b:Int)):=e1
   go_wp2_with fail
   go_region_held3 (fun w'=>w'.cell? ⟨w.heap.size,0,none⟩=some (.int .i64 (a:Int))∧w'.cell? ⟨w.heap.size,1,none⟩=some (.int .i64 (b:Int))) (go_keep)
    (first | (go_at_call 82;refine hre2.mono ?_;rintro e w3 ⟨rfl,y0,y1,HQ⟩))
   obtain⟨vl',X',hE4,hEb,hcat,hlen⟩:=HQ.out
   have HC4:Hid (cat X'=putE (cat X) a b (l)):=hcat
   have HL4:Hid (512 * X'.length≤512 * X.length+(cat X).length+S.length):=(by show _≤_;omega)
   obtain⟨_,_,_,_,z4,_⟩:=hEb.cells
   have zf:=hEb.frozen 4
   have hne2:w.heap.size≠(⟨g,4,none⟩:Addr).block:=hne
   have hb3:w3.heap[w.heap.size]?=_:=(rfl:w3.heap[w.heap.size]?=w3.heap[w.heap.size]?)
   have x0:(w3.setCell ⟨g,4,none⟩ (.int .i64 0)).cell? ⟨w.heap.size,0,none⟩=some (.int .i64 (a:Int)):=(by
    rw[← y0]
    unfold World.cell?
    dsimp only
    rw[heap_setCell_other _ _ _ _ hne2])
   have HE4:Hid (Ed W g vs S q vl' X' 0 en (w3.setCell ⟨g,4,none⟩ (.int .i64 0))):=hE4
   have z4b:(w3.setCell ⟨g,4,none⟩ (.int .i64 0)).cell? ⟨g,4,none⟩=some (.int .i64 0):=hE4.box.cells.2.2.2.2.1
   have zfb:(w3.setCell ⟨g,4,none⟩ (.int .i64 0)).frozen? ⟨g,4,none⟩=false:=hE4.box.frozen 4
   clear hE4 hEb hcat hlen HQ y0 y1 e0 e1 e0d e1d hre2 hb3
   by_cases h0:0<l.length
   ·have hc5:a+l.length≤(cat X').length:=(by rw[HC4.out];exact ZtD _ _ _ _ (by omega))
    have HE5:Hid (Ed W g vs S q vl' X' (a+l.length) en ((w3.setCell ⟨g,4,none⟩ (.int .i64 0)).setCell ⟨g,4,none⟩ (.int .i64 ((a:Int)+(l.length:Int))))):=HE4.out.setU (a+l.length) hc5 _ (by omega)
    have HCU:Hid (curE a l=a+l.length):=(by show _=_;unfold curE;rw[if_neg (by omega)])
    have h0i:(0:Int)<(l.length:Int):=by omega
    go_wp2
    go_ret
    refine⟨rfl,vl',X',?_,HC4.out,HL4.out⟩
    rw[HCU.out]
    exact HE5.out
   ·have h0i:decide ((0:Int)<(l.length:Int))=false:=decide_eq_false (by omega)
    have HCU:Hid (curE a l=0):=(by show _=_;unfold curE;rw[if_pos (by omega)])
    have h0j:decide (0<l.length)=false:=decide_eq_false h0
    go_wp2
    go_ret
    refine⟨rfl,vl',X',?_,HC4.out,HL4.out⟩
    rw[HCU.out]
    exact HE4.out
 | false =>
  have HR2:Hid (.ok ([],p+1,S.drop (p+1))=R):=(by show _=_;rw[← HR.out];rfl)
  have hr:=HR2.out
  subst hr
  have hHl:HS w1 (.slice none 0 0) []:=Holds.nil w1
  have hll:([]:List (List UInt8)).length≤S.length:=Nat.zero_le _
  go_enter Tryz.func53,Tryz.ntmps53
  obtain⟨e0,e1,_⟩:=hc1.cells
  have hre:=ZuS w1.drew g W.heap.size vs vl (.slice none 0 0) ((p+1:Nat):Int) (cur:Int) en X (([]:List (List UInt8))) (hE1.keep (Below.refl _ w1).drew).box (hE1.keep (Below.refl _ w1).drew).bks hE1.gW (HS.keep hHl (Below.refl _ w1).drew (Nat.le_refl _)) (by omega) (by omega) (by omega) a b hab hb
  have hre2:Calls Tryz.prog 82 #[.pointer (some ⟨g,2,none⟩),.int .i64 (a:Int),.int .i64 (b:Int),.slice none 0 0] w1.drew fun e w'=>e=.returned (.tuple #[])∧w'.cell? ⟨w.heap.size,0,none⟩=some (.int .i64 (a:Int))∧w'.cell? ⟨w.heap.size,1,none⟩=some (.int .i64 (b:Int))∧Hid (∃ vl' X',Ed W g vs S (p+1:Nat) vl' X' 0 en (w'.setCell ⟨g,4,none⟩ (.int .i64 0))∧Eb w' g vs vl' ((p+1:Nat):Int) ((cat X').length:Int) (cur:Int) en∧cat X'=putE (cat X) a b (([]:List (List UInt8)))∧512 * X'.length≤512 * X.length+(cat X).length+(([]:List (List UInt8))).length):=(by
   refine hre.mono ?_
   rintro e w' ⟨rfl,vl',X',h1,h2,h3,h4,h5⟩
   have hcb:Cb w' w.heap.size (.int .i64 (a:Int)) (.int .i64 (b:Int)) (.bool false):=(h5.block _ hc1.lt hne).trans hc1
   obtain⟨q0,q1,_⟩:=hcb.cells
   refine⟨rfl,q0,q1,vl',X',?_,h1,h3,h4⟩
   have hb4:=Bt.set (g:=g) (Bt.of (Below.refl _ w')) 4 (.int .i64 (0:Int))
   exact⟨hE1.scr,(hE1.low.trans ((Bt.trans (Bt.of (Below.refl _ w1).drew) h5).low hE1.gW hE1.low.size)).trans (hb4.low hE1.gW (Nat.le_trans hE1.low.size (Bt.trans (Bt.of (Below.refl _ w1).drew) h5).size)),hE1.gW,h1.setU 0,h2.bt h1 hb4,hE1.hp,Nat.zero_le _⟩)
  clear hre
  have e0d:w1.drew.cell? ⟨w.heap.size,0,none⟩=some (.int .i64 (a:Int)):=e0
  have e1d:w1.drew.cell? ⟨w.heap.size,1,none⟩=some (.int .i64 (b:Int)):=e1
  go_wp2_with fail
  go_region_held3 (fun w'=>w'.cell? ⟨w.heap.size,0,none⟩=some (.int .i64 (a:Int))∧w'.cell? ⟨w.heap.size,1,none⟩=some (.int .i64 (b:Int))) (go_keep)
   (first | (go_at_call 82;refine hre2.mono ?_;rintro e w3 ⟨rfl,y0,y1,HQ⟩))
  obtain⟨vl',X',hE4,hEb,hcat,hlen⟩:=HQ.out
  have HC4:Hid (cat X'=putE (cat X) a b (([]:List (List UInt8)))):=hcat
  have HL4:Hid (512 * X'.length≤512 * X.length+(cat X).length+S.length):=(by show _≤_;omega)
  obtain⟨_,_,_,_,z4,_⟩:=hEb.cells
  have zf:=hEb.frozen 4
  have hne2:w.heap.size≠(⟨g,4,none⟩:Addr).block:=hne
  have hb3:w3.heap[w.heap.size]?=_:=(rfl:w3.heap[w.heap.size]?=w3.heap[w.heap.size]?)
  have x0:(w3.setCell ⟨g,4,none⟩ (.int .i64 0)).cell? ⟨w.heap.size,0,none⟩=some (.int .i64 (a:Int)):=(by
   rw[← y0]
   unfold World.cell?
   dsimp only
   rw[heap_setCell_other _ _ _ _ hne2])
  have HE4:Hid (Ed W g vs S (p+1:Nat) vl' X' 0 en (w3.setCell ⟨g,4,none⟩ (.int .i64 0))):=hE4
  have z4b:(w3.setCell ⟨g,4,none⟩ (.int .i64 0)).cell? ⟨g,4,none⟩=some (.int .i64 0):=hE4.box.cells.2.2.2.2.1
  have zfb:(w3.setCell ⟨g,4,none⟩ (.int .i64 0)).frozen? ⟨g,4,none⟩=false:=hE4.box.frozen 4
  clear hE4 hEb hcat hlen HQ y0 y1 e0 e1 e0d e1d hre2 hb3
  have HCU:Hid (curE a []=0):=rfl
  go_wp2
  go_ret
  refine⟨rfl,vl',X',?_,HC4.out,HL4.out⟩
  rw[HCU.out]
  exact HE4.out
end

section
open Go.RowKit
theorem EdQ.form {W:World} {g:Nat} {vs:Value} {S:List (List UInt8)} {B:Nat} {r:Except (Nat × Int) (List (List UInt8) × Nat × Bool × Nat)} {e:Ending} {w:World} (h:EdQ W g vs S B r e w):∃ z,e=.returned (.int .i64 z):=by
 unfold EdQ at h
 split at h
 ·exact⟨_,h.1⟩
 ·exact⟨_,h.1⟩
theorem EdQ.more {W:World} {g:Nat} {vs:Value} {S:List (List UInt8)} {B B':Nat} {r:Except (Nat × Int) (List (List UInt8) × Nat × Bool × Nat)} {e:Ending} {w:World} (h:EdQ W g vs S B r e w) (hB:B≤B'):EdQ W g vs S B' r e w:=by
 unfold EdQ at h ⊢
 split at h
 ·exact h
 ·obtain⟨h1,vl,X,h2,h3,h4⟩:=h
  exact⟨h1,vl,X,h2,h3,by omega⟩
theorem ZtB (W:World) (g:Nat) (vs vl:Value) (S:List (List UInt8)) (p:Nat) (X:List Bck) (cur:Nat) (en:Bool) (w:World) (hE:Ed W g vs S p vl X cur en w) (hS:S.length≤274877906944) (HTS:Hid (∀ s∈S,s.length≤1099511627776)) (hp1:p<S.length) (hX:X.length≤549755813888) (hT:(cat X).length≤137438953472)
  (r:Except (Nat × Int) (List (List UInt8) × Nat × Bool × Nat)) (HR:Hid ((if cur=0 then .error (p+1,130) else doR (cat X) cur cur en (txR (p+1) (S.drop (p+1))))=r)) :
  Calls Tryz.prog 51 #[.pointer (some ⟨g,0,none⟩)] w fun e w'=>EdQ W g vs S (512 * X.length+(cat X).length+S.length) r e w':=by
 obtain⟨_,_,_,_,c4,_⟩:=hE.box.cells
 by_cases h0:cur=0
 ·have hr:=HR.out
  rw[if_pos h0] at hr
  subst hr
  subst h0
  go_enter Tryz.func51,Tryz.ntmps51
  go_wp2
  go_ret
  exact⟨rfl,by decide,_,_,_,_,_,rfl,hE⟩
 ·have hc0:((cur:Int) == 0)=false:=beq_eq_false_iff_ne.2 (by omega)
  have hr:=HR.out
  rw[if_neg h0] at hr
  have hdo:=ZgH W g vs vl S p X cur en (w.drewN 1) (hE.keep (Below.dN (Below.refl _ w) 1)) hS HTS hp1 hX hT cur cur true (Nat.le_refl _) hE.hc _ rfl
  have hdo2:Calls Tryz.prog 53 (#[.pointer (some ⟨g,0,none⟩),.agg #[.int .i64 (cur:Int),.int .i64 (cur:Int),.bool true]]++#[]) (w.drewN 1) fun e w'=>∃ v,e=.returned v∧True∧(∃ z,v=.int .i64 z∧EdQ W g vs S (512 * X.length+(cat X).length+S.length) r (.returned (.int .i64 z)) w'):=(by
   refine hdo.mono ?_
   intro e w' hq
   obtain⟨z,rfl⟩:=hq.form
   refine⟨_,rfl,trivial,z,rfl,?_⟩
   rw[← hr]
   exact hq)
  have c4d:(w.drewN 1).cell? ⟨g,4,none⟩=some (.int .i64 (cur:Int)):=c4
  clear hdo hr HR hE
  go_enter Tryz.func51,Tryz.ntmps51
  go_wp2_with fail
  refine wp_region_noPanic ?_
  refine wp_region_held_drew (S:=fun _=>True) (by kernel_rfl) trivial (fun _=>?_)
  refine Y_t 0 8 _ (.pointer (some ⟨g,0,none⟩)) rfl (Or.inl ⟨by kernel_rfl,fun u _=>by kernel_rfl⟩) trivial ?_
  simp only[Act.put,Y_a,Y_b,Y_c]
  refine Y_t 1 9 _ (.pointer (some ⟨g,0,none⟩)) rfl (Or.inl ⟨by kernel_rfl,fun u _=>by kernel_rfl⟩) trivial ?_
  simp only[Act.put,Y_a,Y_b,Y_c]
  refine Y_t 2 10 _ (.pointer (some ⟨g,0,none⟩)) rfl (Or.inl ⟨by kernel_rfl,fun u _=>by kernel_rfl⟩) trivial ?_
  simp only[Act.put,Y_a,Y_b,Y_c]
  refine Y_t 3 11 _ (.pointer (some ⟨g,4,none⟩)) rfl (Or.inl ⟨by kernel_rfl,fun u _=>by kernel_rfl⟩) trivial ?_
  simp only[Act.put,Y_a,Y_b,Y_c]
  refine Y_t 5 13 _ (.pointer (some ⟨g,0,none⟩)) rfl (Or.inl ⟨by kernel_rfl,fun u _=>by kernel_rfl⟩) trivial ?_
  simp only[Act.put,Y_a,Y_b,Y_c]
  refine Y_t 6 14 _ (.pointer (some ⟨g,0,none⟩)) rfl (Or.inl ⟨by kernel_rfl,fun u _=>by kernel_rfl⟩) trivial ?_
  simp only[Act.put,Y_a,Y_b,Y_c]
  refine Y_t 7 15 _ (.pointer (some ⟨g,4,none⟩)) rfl (Or.inl ⟨by kernel_rfl,fun u _=>by kernel_rfl⟩) trivial ?_
  simp only[Act.put,Y_a,Y_b,Y_c]
  refine ZgP 4 12 _ 8 16 _ rfl (by kernel_rfl) rfl (by kernel_rfl) (by kernel_rfl) (by kernel_rfl) (by kernel_rfl) (.int .i64 (cur:Int)) _ (Zok c4d (.tmp 11) (by kernel_rfl) (by kernel_rfl)) trivial (.int .i64 (cur:Int)) _ (Zok c4d (.tmp 15) (by kernel_rfl) (by kernel_rfl)) trivial ?_ ?_
  ·simp only[Act.put,Y_a,Y_b,Y_c]
   refine Y_v 8 16 _ rfl (.int .i64 (cur:Int)) _ (Zok c4d (.tmp 15) (by kernel_rfl) (by kernel_rfl)) trivial ?_
   simp only[Act.put,Y_a,Y_b,Y_c]
   refine Y_t 9 17 _ (.agg #[.int .i64 (cur:Int),.int .i64 (cur:Int),.bool true]) rfl (Or.inl ⟨by kernel_rfl,fun u _=>by kernel_rfl⟩) trivial ?_
   simp only[Act.put,Y_a,Y_b,Y_c]
   refine Y_e 10 18 _ rfl 53 (.func 53) #[.tmp 8,.tmp 17] #[104,107] (by kernel_rfl) #[] (by kernel_rfl) #[.pointer (some ⟨g,0,none⟩),.agg #[.int .i64 (cur:Int),.int .i64 (cur:Int),.bool true]] (by kernel_rfl) (enters_of Tryz.func53 (by kernel_rfl) rfl) _ hdo2 ?_
   rintro _ w2 _ ⟨z,rfl,HQ⟩
   simp only[Act.put,Y_a,Y_b,Y_c]
   refine Y_t 11 2 _ (.int .i64 z) rfl (Or.inl ⟨by kernel_rfl,fun u _=>by kernel_rfl⟩) trivial ?_
   simp only[Act.put,Y_a,Y_b,Y_c]
   refine wpAnyH_done (by kernel_rfl) ?_ _
   refine NoPanic.normal ?_
   go_wp2
   go_ret
   exact HQ
  ·simp only[Act.put,Y_a,Y_b,Y_c]
   refine Y_v 4 12 _ rfl (.int .i64 (cur:Int)) _ (Zok c4d (.tmp 11) (by kernel_rfl) (by kernel_rfl)) trivial ?_
   simp only[Act.put,Y_a,Y_b,Y_c]
   refine Y_t 9 17 _ (.agg #[.int .i64 (cur:Int),.int .i64 (cur:Int),.bool true]) rfl (Or.inl ⟨by kernel_rfl,fun u _=>by kernel_rfl⟩) trivial ?_
   simp only[Act.put,Y_a,Y_b,Y_c]
   refine Y_e 10 18 _ rfl 53 (.func 53) #[.tmp 8,.tmp 17] #[104,107] (by kernel_rfl) #[] (by kernel_rfl) #[.pointer (some ⟨g,0,none⟩),.agg #[.int .i64 (cur:Int),.int .i64 (cur:Int),.bool true]] (by kernel_rfl) (enters_of Tryz.func53 (by kernel_rfl) rfl) _ hdo2 ?_
   rintro _ w2 _ ⟨z,rfl,HQ⟩
   simp only[Act.put,Y_a,Y_b,Y_c]
   refine Y_t 11 2 _ (.int .i64 z) rfl (Or.inl ⟨by kernel_rfl,fun u _=>by kernel_rfl⟩) trivial ?_
   simp only[Act.put,Y_a,Y_b,Y_c]
   refine wpAnyH_done (by kernel_rfl) ?_ _
   refine NoPanic.normal ?_
   go_wp2
   go_ret
   exact HQ
def sdR (p:Nat) (s:List UInt8) (r T:List (List UInt8)) (cur:Nat) (en:Bool):Except (Nat × Int) (List (List UInt8) × Nat × Bool × Nat):=match sdE p s r T cur en with
 | .error e=>.error e
 | .ok (T1,c1,e1,q,_)=>.ok (T1,c1,e1,q)
theorem ZxO {p:Nat} {s:List UInt8} {r T:List (List UInt8)} {cur a b:Nat} {tx:Bool} (hf:fdB s=true) (hm:s.dropLast≠mkB) (h:stE p s.dropLast r T cur=dodE T a b tx (p+1) r):sdR p s r T cur false=doR T a b false (doE tx (p+1) r):=by
 unfold sdR sdE
 rw[if_pos hf,if_neg (by decide),if_neg hm,h]
 unfold dodE doR
 cases doE tx (p+1) r with
 | error e=>rfl
 | ok x=>rfl
theorem Zza (W:World) (g:Nat) (vs vl:Value) (S:List (List UInt8)) (p:Nat) (X:List Bck) (cur:Nat) (en:Bool) (w:World) (hE:Ed W g vs S p vl X cur en w) (hS:S.length≤274877906944) (HTS:Hid (∀ s∈S,s.length≤1099511627776)) (hp1:p<S.length) (hX:X.length≤549755813888) (hT:(cat X).length≤137438953472)
  (r:Except (Nat × Int) (List (List UInt8) × Nat × Bool × Nat)) (HR:Hid (sdR p S[p] (S.drop (p+1)) (cat X) cur en=r)) :
  Calls Tryz.prog 29 #[.pointer (some ⟨g,0,none⟩)] w fun e w'=>EdQ W g vs S (512 * X.length+(cat X).length+S.length) r e w':=by
 have HE:Hid (Ed W g vs S p vl X cur en w):=hE
 clear hE
 cases hf:fdB S[p] with
 | false =>
  have HNX:Hid (nxE S p=([],3)):=(by show _=_;unfold nxE;rw[dif_pos hp1,if_neg (by rw[hf];decide)])
  have hr:=HR.out
  unfold sdR sdE at hr
  rw[if_neg (by rw[hf];decide)] at hr
  subst hr
  clear HR hf
  go_enter Tryz.func29,Tryz.ntmps29
  go_wp2_with fail
  refine (Zha W g vs vl S p X cur en w HE.out (by omega) HTS [] 3 HNX).mono ?_
  rintro e w1 ⟨rfl,hb1⟩
  have HE1:Hid (Ed W g vs S p vl X cur en w1):=HE.out.keep hb1
  go_wp2
  go_ret
  exact⟨rfl,by decide,_,_,_,_,_,rfl,HE1.out⟩
 | true =>
  have hts:=HTS.out S[p] (List.getElem_mem _)
  obtain⟨t,ht⟩:∃ t,S[p].dropLast=t:=⟨_,rfl⟩
  have htl:t.length≤1099511627776:=by rw[← ht,List.length_dropLast];omega
  have HNX:Hid (nxE S p=(t,0)):=(by show _=_;unfold nxE;rw[dif_pos hp1,if_pos hf,ht])
  have HDO:Hid (∀ (a b:Nat) (tx:Bool),t≠mkB→stE p t (S.drop (p+1)) (cat X) cur=dodE (cat X) a b tx (p+1) (S.drop (p+1))→en=false→doR (cat X) a b false (doE tx (p+1) (S.drop (p+1)))=r):=(by
   intro a b tx h1 h2 h3
   rw[← HR.out,h3]
   exact (ZxO hf (by rw[ht];exact h1) (by rw[ht];exact h2)).symm)
  have HRR:Hid ((if en=true then .error (p+1,7) else if t=mkB then .ok (cat X,cur,true,p+1) else match stE p t (S.drop (p+1)) (cat X) cur with
    | .error e=>.error e
    | .ok (T1,c1,q,_)=>.ok (T1,c1,false,q))=r):=(by
   show _=_
   rw[← HR.out]
   unfold sdR sdE
   rw[if_pos hf,ht]
   cases en with
   | true=>rfl
   | false =>
    simp only[Bool.false_eq_true,if_false]
    by_cases hm:t=mkB
    ·rw[if_pos hm,if_pos hm]
    ·rw[if_neg hm,if_neg hm]
     cases stE p t (S.drop (p+1)) (cat X) cur with
     | error e=>rfl
     | ok x=>rfl)
  clear hf ht HR hts
  have hln:=Zha W g vs vl S p X cur en w HE.out (by omega) HTS t 0 HNX
  cases en with
  | true =>
   have hr:=HRR.out
   rw[if_pos rfl] at hr
   subst hr
   clear HRR HDO
   go_enter Tryz.func29,Tryz.ntmps29
   go_wp2_with fail
   refine hln.mono ?_
   rintro e w1 ⟨rfl,hb1⟩
   have HE1:Hid (Ed W g vs S p vl X cur true w1):=HE.out.keep hb1
   obtain⟨_,_,_,_,_,c5⟩:=HE1.out.box.cells
   go_wp2
   go_ret
   exact⟨rfl,by decide,_,_,_,_,_,rfl,HE1.out⟩
  | false =>
   by_cases h1:t=mkB
   ·have hr:=HRR.out
    rw[if_neg (by decide),if_pos h1] at hr
    subst hr
    unfold mkB at h1
    subst h1
    clear HRR HDO
    go_enter Tryz.func29,Tryz.ntmps29
    go_wp2_with fail
    refine hln.mono ?_
    rintro e w1 ⟨rfl,hb1⟩
    have HE1:Hid (Ed W g vs S p vl X cur false w1):=HE.out.keep hb1
    have HE2:Hid (Ed W g vs S p vl X cur true (w1.setCell ⟨g,5,none⟩ (.bool true))):=HE1.out.setE
    have HE3:Hid (Ed W g vs S (p+1) vl X cur true ((w1.setCell ⟨g,5,none⟩ (.bool true)).setCell ⟨g,1,none⟩ (.int .i64 ((p:Int)+1)))):=HE2.out.setP (p+1) (by omega) _ (by omega)
    obtain⟨_,_,_,_,_,c5⟩:=HE1.out.box.cells
    have f5:=HE1.out.box.frozen 5
    obtain⟨_,d1,_,_,_,_⟩:=HE2.out.box.cells
    have f1:=HE2.out.box.frozen 1
    go_wp2
    go_ret
    exact⟨rfl,_,X,HE3.out,rfl,by omega⟩
   ·have k1:(t == [92,32,78,111,32,110,101,119,108,105,110,101,32,97,116,32,101,110,100,32,111,102,32,102,105,108,101])=false:=beq_eq_false_iff_ne.2 h1
    have hr0:=HRR.out
    rw[if_neg (by decide),if_neg h1] at hr0
    by_cases h2:t=shB
    ·have hr2:(if cur=0∨(cat X).getD (cur-1) []=[] then .error (p+1,130) else .ok ((cat X).set (cur-1) ((cat X).getD (cur-1) []).tail,cur,false,p+1))=r:=(by
      rw[← hr0]
      unfold stE
      rw[if_pos h2]
      split<;>rfl)
     have HR2:Hid ((if cur=0∨(cat X).getD (cur-1) []=[] then .error (p+1,130) else .ok ((cat X).set (cur-1) ((cat X).getD (cur-1) []).tail,cur,false,p+1))=r):=hr2
     unfold shB at h2
     subst h2
     clear HRR HDO hr0 hr2 h1 k1
     go_enter Tryz.func29,Tryz.ntmps29
     go_wp2_with fail
     refine hln.mono ?_
     rintro e w1 ⟨rfl,hb1⟩
     have HE1:Hid (Ed W g vs S p vl X cur false w1):=HE.out.keep hb1
     obtain⟨_,_,_,_,_,c5⟩:=HE1.out.box.cells
     go_wp2_with fail
     refine (ZfL W g vs vl S p X cur false w1 HE1.out (by omega) hp1 hX (by omega) r HR2).mono ?_
     intro e w2 hq
     obtain⟨z,rfl⟩:=hq.form
     have HQ:Hid (EdQ W g vs S (512 * X.length+(cat X).length+S.length) r (.returned (.int .i64 z)) w2):=hq.more (by omega)
     clear hq
     go_wp2
     go_ret
     exact HQ.out
    ·have k2:(t == [115,47,46,47,47])=false:=beq_eq_false_iff_ne.2 h2
     by_cases h3:t=[97]
     ·have HR2:Hid ((if cur=0 then .error (p+1,130) else doR (cat X) cur cur false (txR (p+1) (S.drop (p+1))))=r):=(by
       show _=_
       rw[← hr0]
       unfold stE
       rw[if_neg h2,if_pos h3]
       split
       ·rfl
       ·unfold dodE doE doR
        rw[if_pos rfl]
        cases txR (p+1) (S.drop (p+1)) with
        | error e=>rfl
        | ok x=>rfl)
      subst h3
      clear HRR HDO hr0 h1 k1 h2 k2
      go_enter Tryz.func29,Tryz.ntmps29
      go_wp2_with fail
      refine hln.mono ?_
      rintro e w1 ⟨rfl,hb1⟩
      have HE1:Hid (Ed W g vs S p vl X cur false w1):=HE.out.keep hb1
      obtain⟨_,_,_,_,_,c5⟩:=HE1.out.box.cells
      go_wp2_with fail
      refine (ZtB W g vs vl S p X cur false w1 HE1.out hS HTS hp1 hX hT r HR2).mono ?_
      intro e w2 hq
      obtain⟨z,rfl⟩:=hq.form
      have HQ:Hid (EdQ W g vs S (512 * X.length+(cat X).length+S.length) r (.returned (.int .i64 z)) w2):=hq
      clear hq
      go_wp2
      go_ret
      exact HQ.out
     ·have k3:(t == [97])=false:=beq_eq_false_iff_ne.2 h3
      have HR2:Hid ((match cmF t with
        | none=>.error (p+1,3)
        | some (i,j,tx)=>if ((cat X).length:Int)<j then .error (p+1,2) else doR (cat X) i.toNat j.toNat false (doE tx (p+1) (S.drop (p+1))))=r):=(by
       show _=_
       rw[← hr0]
       unfold stE
       rw[if_neg h2,if_neg h3]
       cases cmF t with
       | none=>rfl
       | some x =>
        obtain⟨i,j,tx⟩:=x
        dsimp only
        split
        ·rfl
        ·unfold dodE doR
         cases doE tx (p+1) (S.drop (p+1)) with
         | error e=>rfl
         | ok x=>rfl)
      clear HRR HDO hr0 h1 h2 h3
      go_enter Tryz.func29,Tryz.ntmps29
      go_wp2_with fail
      refine hln.mono ?_
      rintro e w1 ⟨rfl,hb1⟩
      have HE1:Hid (Ed W g vs S p vl X cur false w1):=HE.out.keep hb1
      obtain⟨_,_,_,_,_,c5⟩:=HE1.out.box.cells
      go_wp2_with fail
      refine (Zfj t w1 (by omega)).mono ?_
      rintro e w2 ⟨x,y,tx,rb,rfl,hcm,hxy,hb2⟩
      have HE2:Hid (Ed W g vs S p vl X cur false w2):=HE1.out.keep hb2
      have hr2:=HR2.out
      rw[hcm] at hr2
      cases rb with
      | false =>
       have HR3:Hid (.error (p+1,3)=r):=hr2
       have hbB:Below w2.heap.size w2 (w2.alloc (.cells #[.int .i64 x,.int .i64 y,.bool tx] 107)):=(Below.refl _ w2).alloc (Nat.le_refl _) _
       have HE3:Hid (Ed W g vs S p vl X cur false (w2.alloc (.cells #[.int .i64 x,.int .i64 y,.bool tx] 107))):=HE2.out.keep hbB
       clear hr2 hcm
       go_wp2
       go_ret
       have hr3:=HR3.out
       subst hr3
       exact⟨rfl,by decide,_,_,_,_,_,rfl,HE3.out⟩
      | true =>
       rw[if_pos rfl] at hcm hr2
       have hbd:=ZeP hcm
       dsimp only at hr2
       obtain⟨a,rfl⟩:=Int.eq_ofNat_of_zero_le hbd.1
       obtain⟨b,rfl⟩:=Int.eq_ofNat_of_zero_le (by omega:0≤y)
       rw[Int.toNat_natCast,Int.toNat_natCast] at hr2
       have hbB:Below w2.heap.size w2 (w2.alloc (.cells #[.int .i64 (a:Int),.int .i64 (b:Int),.bool tx] 107)):=(Below.refl _ w2).alloc (Nat.le_refl _) _
       have hCb:Cb (w2.alloc (.cells #[.int .i64 (a:Int),.int .i64 (b:Int),.bool tx] 107)) w2.heap.size (.int .i64 (a:Int)) (.int .i64 (b:Int)) (.bool tx):=_root_.Go.heap_alloc_new w2 _
       obtain⟨w3,hw3⟩:∃ w3,w2.alloc (.cells #[.int .i64 (a:Int),.int .i64 (b:Int),.bool tx] 107)=w3:=⟨_,rfl⟩
       rw[hw3] at hbB hCb
       have HE3:Hid (∀ n,Ed W g vs S p vl X cur false (w3.drewN n)):=fun n=>(HE2.out.keep hbB).keep (Below.dN (Below.refl _ w3) n)
       obtain⟨q0,q1,q2⟩:=hCb.cells
       obtain⟨_,_,_,d3,_,_⟩:=(HE3.out 0).box.cells
       have d3':w3.cell? ⟨g,3,none⟩=some (.int .i64 ((cat X).length:Int)):=d3
       obtain⟨tl,htl⟩:∃ tl,(cat X).length=tl:=⟨_,rfl⟩
       rw[htl] at d3' hr2
       have HTL:Hid ((cat X).length=tl):=htl
       clear hcm htl d3
       by_cases hlt:tl<b
       ·have HR3:Hid (.error (p+1,2)=r):=(by
         show _=_
         rw[if_pos (by omega)] at hr2
         exact hr2)
        have l1:(tl:Int)<(b:Int):=by omega
        clear hr2
        go_wp2_with fail
        go_quiet (fail)
        go_wp2
        go_ret
        have hr3:=HR3.out
        subst hr3
        exact⟨rfl,by decide,_,_,_,_,_,rfl,HE3.out _⟩
       ·have HR3:Hid (doR (cat X) a b false (doE tx (p+1) (S.drop (p+1)))=r):=(by
         show _=_
         rw[if_neg (by omega)] at hr2
         exact hr2)
        have l1:decide ((tl:Int)<(b:Int))=false:=decide_eq_false (by omega)
        clear hr2
        go_wp2_with fail
        go_quiet (fail)
        have hab:a≤b:=by omega
        have hbT:b≤(cat X).length:=by have:=HTL.out;omega
        have q0':(w3.drewN nq).cell? ⟨w2.heap.size,0,none⟩=some (.int .i64 (a:Int)):=q0
        have q1':(w3.drewN nq).cell? ⟨w2.heap.size,1,none⟩=some (.int .i64 (b:Int)):=q1
        have q2':(w3.drewN nq).cell? ⟨w2.heap.size,2,none⟩=some (.bool tx):=q2
        go_wp2_with fail
        refine (ZgH W g vs vl S p X cur false _ (HE3.out _) hS HTS hp1 hX hT a b tx hab hbT _ rfl).mono ?_
        intro e w4 hq
        rw[HR3.out] at hq
        obtain⟨z,rfl⟩:=hq.form
        have HQ:Hid (EdQ W g vs S (512 * X.length+(cat X).length+S.length) r (.returned (.int .i64 z)) w4):=hq
        clear hq
        go_wp2
        go_ret
        exact HQ.out
end

section
open Ln
def Bd (T:List (List UInt8)):Prop:=∀ s∈T,s.length≤1099511627776
theorem ZeQ {s:List UInt8} {i j:Int} {t:Bool} (h:cmF s=some (i,j,t)):i≤j:=by
 have key:∀ {x:List UInt8} {p n:Int},lnsP x=some (p,n)→1≤n:=by
  intro x p n h
  unfold lnsP at h
  split at h
  ·split at h
   ·cases h
    omega
   ·cases h
  ·split at h
   ·cases h
    omega
   ·cases h
 unfold cmF at h
 split at h
 ·cases h
 ·split at h
  ·split at h
   ·cases h
    exact Int.le_refl _
   ·cases h
  ·split at h
   ·split at h
    ·cases h
    ·rename_i p n hq
     have:=key hq
     cases h
     omega
   ·split at h
    ·split at h
     ·cases h
     ·rename_i p n hq
      have:=key hq
      cases h
      omega
    ·cases h
theorem ZAj:∀ {r:List (List UInt8)} {p q:Nat} {l r2:List (List UInt8)},Bd r→txR p r=.ok (l,q,r2)→Bd l∧l.length+p<q
 | [],p,q,l,r2,_,h=>by cases h
 | s::r,p,q,l,r2,hb,h=>by
  simp only[txR] at h
  split at h
  ·split at h
   ·cases h
    exact⟨fun s hs=>(by cases hs),by simp⟩
   ·split at h
    ·cases h
    ·rename_i l' q' r' h'
     cases h
     have ih:=ZAj (fun x hx=>hb x (by simp[hx])) h'
     refine⟨fun x hx=>?_,by simp only[List.length_cons];omega⟩
     rcases List.mem_cons.1 hx with rfl | hx
     ·have:=hb s (by simp)
      rw[List.length_dropLast]
      omega
     ·exact ih.1 x hx
  ·cases h
theorem Zgs {T r T1 r2:List (List UInt8)} {i j:Nat} {tx:Bool} {p c1 q:Nat} (hT:Bd T) (hr:Bd r) (hij:i≤j) (h:dodE T i j tx p r=.ok (T1,c1,q,r2)):Bd T1∧p≤q∧T1.length+p≤T.length+q∧r2=r.drop (q-p):=by
 unfold dodE doE at h
 split at h
 ·cases h
 ·rename_i l q' r' h'
  cases h
  have hput:∀ x∈putE T i j l,x∈T∨x∈l:=by
   intro x hx
   unfold putE at hx
   rcases List.mem_append.1 hx with hx | hx
   ·exact .inl (List.mem_of_mem_take hx)
   ·rcases List.mem_append.1 hx with hx | hx
    ·exact .inr hx
    ·exact .inl (List.mem_of_mem_drop hx)
  have hlen:(putE T i j l).length≤T.length+l.length:=by
   unfold putE
   simp only[List.length_append,List.length_take,List.length_drop]
   omega
  split at h'
  ·obtain⟨h1,h2⟩:=ZAj hr h'
   have h3:=ZAk h'
   exact⟨fun x hx=>(hput x hx).elim (hT x) (h1 x),h3.1,by omega,h3.2⟩
  ·cases h'
   exact⟨fun x hx=>(hput x hx).elim (hT x) (fun hq=>by cases hq),Nat.le_refl _,by simp at hlen;omega,by simp⟩
theorem ZxP {p:Nat} {s:List UInt8} {r T T1 r2:List (List UInt8)} {cur c1 q:Nat} {en e1:Bool} (hT:Bd T) (hr:Bd r) (h:sdE p s r T cur en=.ok (T1,c1,e1,q,r2)):Bd T1∧p<q∧T1.length+p≤T.length+q∧r2=r.drop (q-(p+1)):=by
 unfold sdE at h
 split at h
 ·split at h
  ·cases h
  ·split at h
   ·cases h
    exact⟨hT,by omega,by omega,by simp⟩
   ·split at h
    ·cases h
    ·rename_i T2 c2 q2 r3 hs
     cases h
     unfold stE at hs
     split at hs
     ·split at hs
      ·cases hs
      ·cases hs
       refine⟨fun x hx=>?_,by omega,by rw[List.length_set];omega,by simp⟩
       rcases List.mem_or_eq_of_mem_set hx with hx | rfl
       ·exact hT x hx
       ·rw[List.length_tail]
        by_cases hc:cur-1<T.length
        ·rw[List.getD_eq_getElem?_getD,List.getElem?_eq_getElem hc]
         have:=hT T[cur-1] (List.getElem_mem _)
         simp only[Option.getD_some]
         omega
        ·rw[List.getD_eq_getElem?_getD,List.getElem?_eq_none (by omega)]
         simp
     ·split at hs
      ·split at hs
       ·cases hs
       ·obtain⟨h1,h2,h3,h4⟩:=Zgs hT hr (Nat.le_refl _) hs
        exact⟨h1,by omega,by omega,h4⟩
      ·split at hs
       ·cases hs
       ·rename_i i j tx hcm
        split at hs
        ·cases hs
        ·have hb:=ZeQ hcm
         obtain⟨h1,h2,h3,h4⟩:=Zgs hT hr (by omega) hs
         exact⟨h1,by omega,by omega,h4⟩
 ·cases h
def resK (T:List (List UInt8)) (k:Nat):List (List UInt8):=(T.take k).map (·++[10])++T.drop k
theorem ZuU (T:List (List UInt8)) (k:Nat):(resK T k).length=T.length:=by
 unfold resK
 simp only[List.length_append,List.length_map,List.length_take,List.length_drop]
 omega
theorem ZuT (T:List (List UInt8)) (k:Nat) (h:k<T.length):(resK T k)[k]'(by rw[ZuU];exact h)=T[k]:=by
 unfold resK
 rw[List.getElem_append_right (by simp;omega)]
 simp[Nat.min_eq_left (Nat.le_of_lt h)]
theorem ZuW (T:List (List UInt8)) (k:Nat) (h:k<T.length):(resK T k).set k (T[k]++[10])=resK T (k+1):=by
 have l1:((T.take k).map (·++[10])).length=k:=by rw[List.length_map,List.length_take];omega
 unfold resK
 rw[List.set_append_right _ _ (by omega),l1,Nat.sub_self,List.drop_eq_getElem_cons h,List.set_cons_zero,List.take_succ_eq_append_getElem h,List.map_append]
 simp
theorem ZuV (T:List (List UInt8)) (en:Bool):resE T en=resK T (T.length-(if en=true then 1 else 0)):=rfl
end

end Go.Proofs.YtkiaenncemfkcaaGreatDoor
