/-
  Texts that belong together, joined: RcMath, RcRj, PsI, QsB, UkM.
-/
import Derived.Lib.AppendStr
import Derived.BigQuiet
import Derived.Test.YtcniomgjikienaaGreatDoorVrA21

set_option maxHeartbeats 16000000
set_option maxRecDepth 100000
namespace Go.Proofs.YtcniomgjikienaaGreatDoor

section
open Ln
def isW (c:UInt8):Bool:=c == 32
def rcmP:List UInt8→Option (Bool × Nat × Nat)
 | []=>none
 | c::t=>match spB isW t with
  | none=>none
  | some (x,_,y)=>if Pn.parseE x=0∧Pn.parseE y=0∧0<Pn.parseV y then if c=97 then some (true,(Pn.parseV x).toNat,(Pn.parseV y).toNat) else if c=100∧0<Pn.parseV x then some (false,(Pn.parseV x-1).toNat,(Pn.parseV y).toNat) else none else none
def rcmF (s:List UInt8):Option (Bool × Nat × Nat):=if fdB s=true then rcmP s.dropLast else none
def rcS (a:List (List UInt8)) (p:Nat) (s:List UInt8) (r out:List (List UInt8)) (dn:Nat) (fl:Bool):Except (Nat × Int) (List (List UInt8) × Nat × Bool × Nat × List (List UInt8)) :=
 match rcmF s with
 | none=>.error (p+1,3)
 | some (ad,ah,n)=>if ah<dn∨(ah=dn∧ad=true∧fl=true) then .error (p+1,121)
  else if a.length<ah+(if ad=true then 0 else n) then .error (p+1,2)
  else if ad=true then if r.length<n then .error (p+1+r.length+1,1) else .ok (out++(a.drop dn).take (ah-dn)++r.take n,ah,true,p+1+n,r.drop n)
  else .ok (out++(a.drop dn).take (ah-dn),ah+n,false,p+1,r)
def rcF (p:Nat) (l:List (List UInt8)):Except (Nat × Int) (List (List UInt8)):=if checkB l=true then .ok l else .error (p+1,6)
def rcE (a:List (List UInt8)):Nat→Nat→List (List UInt8)→List (List UInt8)→Nat→Bool→Except (Nat × Int) (List (List UInt8))
 | 0,p,_,out,dn,_=>rcF p (out++a.drop dn)
 | _+1,p,[],out,dn,_=>rcF p (out++a.drop dn)
 | f+1,p,s::r,out,dn,fl=>match rcS a p s r out dn fl with
  | .error e=>.error e
  | .ok (o,d,g,q,r2)=>rcE a f q r2 o d g
def RcRuns (a:List (List UInt8)) (p:Nat) (ls out:List (List UInt8)) (dn:Nat) (fl:Bool) (p':Nat) (ls' out':List (List UInt8)) (dn':Nat) (fl':Bool):Prop :=
 ∀ f,ls.length≤f→∃ f',ls'.length≤f'∧rcE a f p ls out dn fl=rcE a f' p' ls' out' dn' fl'
theorem RcRuns.refl (a:List (List UInt8)) (p:Nat) (ls out:List (List UInt8)) (dn:Nat) (fl:Bool):RcRuns a p ls out dn fl p ls out dn fl:=fun f hf=>⟨f,hf,rfl⟩
theorem RcRuns.trans {a:List (List UInt8)} {p p1 p2:Nat} {ls ls1 ls2 o o1 o2:List (List UInt8)} {d d1 d2:Nat} {g g1 g2:Bool} (h:RcRuns a p ls o d g p1 ls1 o1 d1 g1) (k:RcRuns a p1 ls1 o1 d1 g1 p2 ls2 o2 d2 g2):RcRuns a p ls o d g p2 ls2 o2 d2 g2:=fun f hf=>by
 obtain⟨f1,h1,e1⟩:=h f hf
 obtain⟨f2,h2,e2⟩:=k f1 h1
 exact⟨f2,h2,e1.trans e2⟩
theorem RcRuns.step {a:List (List UInt8)} {p q:Nat} {s:List UInt8} {r r2 o o1:List (List UInt8)} {d d1:Nat} {g g1:Bool} (h:rcS a p s r o d g=.ok (o1,d1,g1,q,r2)) (hl:r2.length≤r.length):RcRuns a p (s::r) o d g q r2 o1 d1 g1:=fun f hf=>by
 cases f with
 | zero=>simp at hf
 | succ f =>
  refine⟨f,by simp only[List.length_cons] at hf;omega,?_⟩
  rw[rcE,h]
end

section
open Ln Go.RowKit
attribute [local go_sem] Zhc ByteArray.extract_mk
theorem ZqM {P:Program} (w:World) (src dst e:TypeId) (B:Nat) (v:Value) (l:List UInt8) (hs:P.underlying src=some (.slice e)) (he:P.underlying e=some (.int .u8)) (hd:P.underlying dst=some .string)
  (h:w.ownsRowF B e 1 v l.length (Lib.byteCells l)):(convert src dst v).run P w=.ok (.string ⟨l.toArray⟩) w:=by
 rcases h.2 with ⟨rfl,h0⟩ | ⟨g,cap,cur,fz,rfl,_⟩
 ·have:l=[]:=List.eq_nil_of_length_eq_zero h0
  subst this
  rw[run_convert_bytes_string w src dst e none 0 0 hs he hd]
  rfl
 ·refine run_convert_bytes_back w src dst e ⟨g,0,none⟩ cap l hs he hd ?_
  intro j hj
  exact h.cells (g:=g) rfl j _ (by simp[Lib.byteCells,hj])
theorem ZqO:(Tryz.prog.info? 5).map (fun i=>(i.zero,i.size,i.bytes))=some (some (.int .u8 0),1,1):=by kernel_rfl
theorem ZqN (ws:List (List UInt8)) (k:Nat):(ws.take k).flatten.length≤ws.flatten.length:=by
 conv=>rhs;rw[← List.take_append_drop k ws,List.flatten_append,List.length_append]
 omega
theorem ZpD (v:Value) (ws:List (List UInt8)) (w:World) (hl:ws.length≤1099511627776) (hf:ws.flatten.length≤1099511627776) (hv:HS w v ws) :
  Calls Tryz.prog 31 #[v] w fun e w'=>e=.returned (.string ⟨ws.flatten.toArray⟩)∧Below w.heap.size w w':=by
 obtain⟨i0,hi,hz0,hz1,hz2⟩:=info_parts ZqO
 obtain⟨vo,vc,rfl⟩:=Holds.form hv
 go_enter Tryz.func31,Tryz.ntmps31
 go_wp2
 go_loopw [3,4] (fun b i wr=>∃ k:Nat,k≤ws.length∧i=.int .i64 k∧wr.ownsRow w.heap.size 5 1 b (ws.take k).flatten.length (Lib.byteCells (ws.take k).flatten)∧Below w.heap.size w wr) (fun _ i _=>ws.length-(intOf i).toNat)
 case atStart=>exact⟨0,Nat.zero_le _,rfl,World.ownsRow_nil _ _ _ _,Below.refl _ _⟩
 case round =>
  obtain⟨k,hk,rfl,hown,hbr⟩:=hrel
  have hbz:=hbr.size
  by_cases hlt:k<ws.length
  ·obtain⟨bk,off,rfl,hbk,hcl⟩:=HS.at (HS.keep hv hbr (Nat.le_refl _)) (by omega)
   have d1:=hcl k hlt
   have i1:0≤(k:Int):=by omega
   have i2:(k:Int)<(ws.length:Int):=by omega
   have hnx:(ws.take (k+1)).flatten=(ws.take k).flatten++ws[k]:=by
    rw[List.take_succ_eq_append_getElem hlt,List.flatten_append];simp
   have hfl:=ZqN ws (k+1)
   rw[hnx,List.length_append] at hfl
   have HN:Hid ((ws.take (k+1)).flatten=(ws.take k).flatten++ws[k]):=hnx
   clear hnx hcl
   generalize hx:ws[k]=x at *
   generalize (ws.take k).flatten=acc at *
   have hxs:(⟨x.toArray⟩:ByteArray).size=x.length:=rfl
   go_wp2_with (at_builtin;refine Lib.wpList_append_own_string _ rfl _ _ 83 9 rfl w.heap.size 5 i0 Tryz.underlying83 Tryz.underlying9 hi hz0 hz1 hz2 _ _ _ rfl hown ⟨x.toArray⟩ rfl ?c3 ?c4 ?c5 ?_)
   case c3=>rw[hxs];unfold maxLen;omega
   case c4=>rw[hxs];omega
   case c5=>omega
   intro v' w3 hown3 hgrow hfr
   have hbr3:=hbr.grown hgrow (by omega) (fun j hj=>(hown.lt j hj).1)
   go_wp2
   go_roundw
   case rel=>exact⟨k+1,by omega,by go_num,by rw[HN.out,Lib.byteCells_append,List.length_append];exact hown3,hbr3⟩
   case measure=>simp[intOf];omega
  ·have hcs:=ZqM (P:=Tryz.prog) wr 83 9 5 w.heap.size u3 (ws.take k).flatten Tryz.underlying83 Tryz.underlying5 Tryz.underlying9 (World.ownsRowF_of hown)
   have HE:Hid ((ws.take k).flatten=ws.flatten):=by show _=_;rw[List.take_of_length_le (by omega)]
   generalize (ws.take k).flatten=acc at *
   go_wp2
   go_ret
   rw[← HE.out]
   exact⟨rfl,hbr⟩
end

section
open Go.RowKit Go.Proofs.YtcniomgjikienaaGreatDoor.Tx
open Ln
attribute [local go_sem] Zhc
def natC (A:List Nat):List Value:=icells (A.map fun (n:Nat)=>(n:Int))
theorem ZgM (A:List Nat) (k:Nat):natC (A++[k])=natC A++icells [(k:Int)]:=by unfold natC icells;simp
structure Sq (W:World) (av:Value) (A:List Nat) (rv:Value) (R:List (List UInt8)) (u:World):Prop where
 low:Below W.heap.size W u
 ats:u.ownsRow W.heap.size 3 1 av A.length (natC A)
 rest:u.ownsRow W.heap.size 9 1 rv R.length (scells R)
section
variable {W u u':World} {av rv av' rv':Value} {A:List Nat} {R:List (List UInt8)}
theorem Sq.keep (h:Sq W av A rv R u) (hb:Below u.heap.size u u'):Sq W av A rv R u':=⟨h.low.trans (hb.mono h.low.size),ZhK h.ats hb,ZhK h.rest hb⟩
theorem Sq.more1 (h:Sq W av A rv R u) {k:Nat} (hg:u.grownBy u' av.ownBlock) (ho:u'.ownsRow W.heap.size 3 1 av' (A.length+1) (natC A++icells [(k:Int)])):Sq W av' (A++[k]) rv R u':=by
 refine⟨h.low.grown hg h.low.size (fun k e=>ZhJ h.ats e),?_,ZjA h.rest h.ats (by decide) hg⟩
 rw[ZgM,List.length_append]
 exact ho
theorem Sq.more2 (h:Sq W av A rv R u) {s:List UInt8} (hg:u.grownBy u' rv.ownBlock) (ho:u'.ownsRow W.heap.size 9 1 rv' (R.length+1) (scells R++scells [s])):Sq W av A rv' (R++[s]) u':=by
 refine⟨h.low.grown hg h.low.size (fun k e=>ZhJ h.rest e),ZjA h.ats h.rest (by decide) hg,?_⟩
 rw[List.length_append]
 have e:scells (R++[s])=scells R++scells [s]:=by unfold scells;simp
 rw[e]
 exact ho
end
theorem ZqD {P:Program} {fn:Func} {p q r:Tmp} {ty:TypeId} (h:fn.results=#[.tmp q,.tmp r,.cell p ty]) (tmps:Array Value) (w:World) (g:Nat) (t:TypeId) (cs:Array Value) (fr:Nat × Nat) (d:TypeDesc)
  (hp:tmps.getD p undef=.pointer (some ⟨g,0,none⟩)) (hg:w.heap[g]?=some (.cells cs t fr))
  (hu:P.underlying ty=some d) (hd:(match d with | .struct _ | .array _ _=>true | _=>false)=true) (hi:(P.info? ty).map (·.size)=some cs.size) :
  (results fn tmps).run P w=.ok (.tuple #[tmps.getD q undef,tmps.getD r undef,.agg cs]) w:=by
 have hp':tmps[p]?.getD undef=.pointer (some ⟨g,0,none⟩):=by simpa using hp
 simp[results,h,hp',asAddr,run_loadVar_row w g t ty cs fr d hg hu hd hi,Result.andThen]
def RfQ8 (w:World) (X:Except (Nat × Int) (Int × List Pth)) (e:Ending) (w':World):Prop :=
 match X with
 | .error (a,z)=>e=.returned (.tuple #[.slice none 0 0,.int .i64 0,.agg #[.int .i64 (a:Int),.int .i64 z]])∧z≠0∧Below w.heap.size w w'
 | .ok (f,l)=>∃ v' F,e=.returned (.tuple #[v',.int .i64 f,.agg #[.int .i64 0,.int .i64 0]])∧Pw w v' F w'∧F.map (·.x)=l
theorem ZpU (t:List UInt8) (w:World) (h:1048576<t.length) (hl:t.length≤1099511627776) :
  Calls Tryz.prog 9 #[.string ⟨t.toArray⟩] w fun e w'=>RfQ8 w (.error (0,9)) e w':=by
 have h1:(1048576:Int)<(t.length:Int):=by omega
 have hf0:=heap_alloc_new w (.cells #[.int .i64 0,.int .i64 9] 29)
 have hb0:Below w.heap.size w (w.alloc (.cells #[.int .i64 0,.int .i64 9] 29)):=(Below.refl _ w).alloc (Nat.le_refl _) _
 clear h
 go_enter Tryz.func9,Tryz.ntmps9
 go_wp2
 exact bodyPost_ret (ZqD rfl _ _ w.heap.size 29 #[.int .i64 0,.int .i64 9] (0,0) _ rfl hf0 Tryz.underlying29 rfl (by kernel_rfl)) rfl ⟨rfl,by decide,hb0⟩
theorem ZmD {u:World} {B:Nat} {x y:Value} {t:TypeId} (a z:Value) (hb:u.heap[B]?=some (.cells #[x,y] t)):((u.setCell ⟨B,0,none⟩ a).setCell ⟨B,1,none⟩ z).heap[B]?=some (.cells #[a,z] t):=heap_setCell_same _ B 1 _ _ z (heap_setCell_same u B 0 _ _ a hb)
theorem ZmB {N:Nat} {w u:World} {B:Nat} (h:Below N w u) (hB:N≤B) (a z:Value):Below N w ((u.setCell ⟨B,0,none⟩ a).setCell ⟨B,1,none⟩ z):=(h.setCell hB _).setCell hB _
theorem Zaz {u:World} {xo:Option Addr} {xc:Nat} {A:List Nat} (h:Holds u (.slice xo A.length xc) A.length (natC A)) (h0:0<A.length):∃ b off,xo=some ⟨b,off,none⟩∧b<u.heap.size∧∀ k (hk:k<A.length),u.cell? ⟨b,off+k,none⟩=some (.int .i64 ((A[k]:Nat):Int)):=by
 have h2:HI u (.slice xo A.length xc) (A.map fun (n:Nat)=>(n:Int)):=by unfold HI;rw[List.length_map];exact h
 obtain⟨b,off,e,hb,hc⟩:=HI.at h2 (by rw[List.length_map];exact h0)
 refine⟨b,off,e,hb,fun k hk=>?_⟩
 rw[hc k (by rw[List.length_map];exact hk),List.getElem_map]
theorem ZiN {w w7 u:World} {v:Value} {F:List Pfd} (h:Pw w7 v F u) (hlow:Below w.heap.size w u) (hs:w.heap.size≤w7.heap.size):Pw w v F u:=⟨hlow,ZhC h.own hs,fun f hf=>⟨(h.ins f hf).eq,ZhC (h.ins f hf).own hs,fun y hy=>ZhC ((h.ins f hf).ins y hy) hs⟩⟩
theorem Zpt {w u:World} {v x y:Value} {F:List Pfd} {B:Nat} (h:Pw w v F u) (hb:u.heap[B]?=some (.cells #[x,y] 29)) (hB:w.heap.size≤B) (a z:Value):Pw w v F ((u.setCell ⟨B,0,none⟩ a).setCell ⟨B,1,none⟩ z):=by
 have s0:=heap_setCell_same u B 0 _ _ a hb
 have g0:=ZdS u B 0 a
 have g1:=ZdS (u.setCell ⟨B,0,none⟩ a) B 1 z
 refine⟨ZmB h.low hB a z,?_,fun f hf=>?_⟩
 ·have:=h.own.kept g0 (.inr (ZhE h.own hb (by decide)))
  exact this.kept g1 (.inr (ZhE this s0 (by decide)))
 ·exact ((h.ins f hf).box hb (by decide) (by decide) g0).box s0 (by decide) (by decide) g1
theorem ZpV (t:List UInt8) (w:World) (h:t.length≤1048576) (X:Except (Nat × Int) (Int × List Pth)) (HX:Hid (psT atR t=X)) :
  Calls Tryz.prog 9 #[.string ⟨t.toArray⟩] w fun e w'=>RfQ8 w X e w':=by
 have h1:¬ (1048576:Int)<(t.length:Int):=by omega
 have hf0:=heap_alloc_new w (.cells #[.int .i64 0,.int .i64 0] 29)
 have hb0:Below w.heap.size w (w.alloc (.cells #[.int .i64 0,.int .i64 0] 29)):=(Below.refl _ w).alloc (Nat.le_refl _) _
 have hsp:=fun u=>Zql t u (by omega)
 have hsl:=split_len t
 have hsb:=Zkz (t:=t) (M:=1048576) (by omega)
 have HNE:Hid (∀ s∈splitL t,s≠[]):=fun s hs=>ZiJ hs
 obtain⟨L,hL⟩:∃ L,splitL t=L:=⟨_,rfl⟩
 have HLs:Hid (splitL t=L):=hL
 rw[hL] at hsp hsl HNE hsb
 have HSB:Hid (∀ s∈L,s.length≤1048576):=hsb
 have HA0:Hid (([]:List Nat)++plR 0 (L.drop 0)=plR 0 L∧([]:List (List UInt8))++ntR (L.drop 0)=ntR L∧([]:List Nat).length=([]:List (List UInt8)).length∧([]:List Nat).length≤0):=⟨rfl,rfl,rfl,Nat.le_refl _⟩
 have hLl:L.length≤1048576:=by omega
 have h0:=h
 clear hL hsl hsb h
 go_enter Tryz.func9,Tryz.ntmps9
 go_wp2_with fail
 refine (hsp _).mono ?_
 rintro e w1 ⟨v,rfl,hown,hB⟩
 have ha:HS w1 v L:=Zeo hown
 obtain⟨ao,ac,rfl⟩:=Holds.form ha
 have hf1:=(hB.block _ (Array.getElem?_eq_some_iff.1 hf0).1).trans hf0
 have hB1:=hb0.trans (hB.mono hb0.size)
 have hS0:Sq w1 (.slice none 0 0) [] (.slice none 0 0) [] w1:=⟨Below.refl _ _,Zen _ _ _ _,Zen _ _ _ _⟩
 clear hsp hown hf0 hb0 hB
 go_wp2
 go_loopw [6,7,8] (fun av rv iv wr=>∃ (k:Nat) (A:List Nat) (R:List (List UInt8)) (xo yo:Option Addr) (xc yc:Nat),k≤L.length∧av=.slice xo A.length xc∧rv=.slice yo R.length yc∧iv=.int .i64 (k:Int)∧Sq w1 (.slice xo A.length xc) A (.slice yo R.length yc) R wr∧Hid (A++plR k (L.drop k)=plR 0 L∧R++ntR (L.drop k)=ntR L∧A.length=R.length∧A.length≤k)) (fun _ _ iv _=>L.length-(intOf iv).toNat)
 case atStart=>exact⟨0,[],[],none,none,0,0,Nat.zero_le _,rfl,rfl,by go_num,hS0,HA0⟩
 case round =>
 clear hS0 HA0
 obtain⟨k,A,R,xo,yo,xc,yc,hk,rfl,rfl,rfl,hSq,HI⟩:=hrel
 by_cases hlt:k<L.length
 ·obtain⟨bk,off,rfl,hbk,hc⟩:=HS.at ha (by omega)
  have c0:=(World.cell?_of_block (hSq.low.block bk hbk)).trans (hc k hlt)
  obtain⟨i1,i2,i3,i4⟩:=HI.out
  have hne:=HNE.out L[k] (List.getElem_mem hlt)
  rw[List.drop_eq_getElem_cons hlt,Zhf] at i2
  rw[List.drop_eq_getElem_cons hlt] at i1
  simp only[plR] at i1
  obtain⟨s,hs⟩:∃ s,L[k]=s:=⟨_,rfl⟩
  rw[hs] at c0 i1 i2 hne
  obtain⟨b,hb⟩:∃ b,rmkB s=b:=⟨_,rfl⟩
  have hrm:=fun u=>Zqf s hne u b hb
  rw[hb] at i1 i2
  have j1:(0:Int)≤(k:Int):=by omega
  have j2:(k:Int)<(L.length:Int):=by omega
  have hAl:A.length+1≤4398046511104:=by omega
  have hRl:R.length+1≤4398046511104:=by omega
  clear hc hs hb HI
  cases b with
  | true =>
   rw[if_pos rfl] at i1 i2
   have HI2:Hid (A++plR (k+1) (L.drop (k+1))=plR 0 L∧R++ntR (L.drop (k+1))=ntR L∧A.length=R.length∧A.length≤k+1):=⟨i1,i2,i3,by omega⟩
   clear i1 i2 i3 i4 hAl hRl
   go_wp2_with fail
   refine (hrm _).mono ?_
   rintro e w2 ⟨rfl,rfl⟩
   clear hrm
   go_wp2
   exact⟨⟨k+1,A,R,xo,yo,xc,yc,by omega,by first | rfl | simp,by first | rfl | simp,by go_num,hSq,HI2⟩,by simp[intOf];omega⟩
  | false =>
   rw[if_neg (by decide)] at i1 i2
   have HI2:Hid ((A++[k+1])++plR (k+1) (L.drop (k+1))=plR 0 L∧(R++[s])++ntR (L.drop (k+1))=ntR L∧(A++[k+1]).length=(R++[s]).length∧(A++[k+1]).length≤k+1):=⟨by rw[← i1];simp,by rw[← i2];simp,by simp[i3],by simp;omega⟩
   clear i1 i2 i3 i4
   go_wp2_with fail
   refine (hrm _).mono ?_
   rintro e w2 ⟨rfl,rfl⟩
   clear hrm
   have hSa:=hSq.keep ((Below.refl _ wr).alloc (Nat.le_refl _) (.cells #[.int .i64 ((k:Int)+1)] 3))
   have hza:=hSa.low.size
   have hoa:=hSa.ats
   have hra:Holds _ _ 1 _:=ZgR wr #[.int .i64 ((k:Int)+1)] 3 1 1 (by decide)
   go_wp2_with (at_builtin;refine Zmg _ (by kernel_rfl) (.tmp 33) (.tmp 36) 55 3 (.int .i64 0) 1 8 rfl Tryz.underlying55 infoInt rfl (by decide) (by decide) w1.heap.size _ _ _ rfl hoa _ 1 (icells [((k+1:Nat):Int)]) rfl hra rfl (Zet _) hAl hza ?_)
   intro v3 u3 ho3 hg3
   have hS3:=hSa.more1 (k:=k+1) hg3 ho3
   obtain⟨x3,y3,rfl⟩:=(Zeo ho3).form
   have c3:=(World.cell?_of_block (hS3.low.block bk hbk)).trans ((World.cell?_of_block (hSq.low.block bk hbk)).symm.trans c0)
   clear hSa hza hoa hra ho3 hg3 c0
   have hSb:=hS3.keep ((Below.refl _ u3).alloc (Nat.le_refl _) (.cells #[.string ⟨s.toArray⟩] 9))
   have hzb:=hSb.low.size
   have hob:=hSb.rest
   have hrb:Holds _ _ 1 _:=ZgR u3 #[.string ⟨s.toArray⟩] 9 1 1 (by decide)
   go_wp2_with (at_builtin;refine Zmg _ (by kernel_rfl) (.tmp 38) (.tmp 43) 49 9 (.string ⟨#[]⟩) 1 16 rfl Tryz.underlying49 infoStr rfl (by decide) (by decide) w1.heap.size _ _ _ rfl hob _ 1 (scells [s]) rfl hrb rfl (ZjU _) hRl hzb ?_)
   intro v4 u4 ho4 hg4
   have hS4:=hSb.more2 hg4 ho4
   obtain⟨x4,y4,rfl⟩:=(Zeo ho4).form
   clear hSb hzb hob hrb ho4 hg4 c3 hS3
   go_wp2
   exact⟨⟨k+1,A++[k+1],R++[s],x3,x4,y3,y4,by omega,by rw[List.length_append];rfl,by rw[List.length_append];rfl,by go_num,by rw[List.length_append,List.length_append];exact hS4,HI2⟩,by simp[intOf];omega⟩
 ·have hend:¬ (k:Int)<(L.length:Int):=by omega
  obtain⟨i1,i2,i3,i4⟩:=HI.out
  rw[List.drop_of_length_le (by omega)] at i1 i2
  have HAe:Hid (A=plR 0 L∧R=ntR L∧A.length≤k):=⟨by simpa [plR] using i1,by simpa [ntR] using i2,i4⟩
  have hAl:A.length+1≤4398046511104:=by omega
  clear HI i1 i2 i3 i4
  have hSa:=hSq.keep ((Below.refl _ wr).alloc (Nat.le_refl _) (.cells #[.int .i64 ((L.length:Int)+1)] 3))
  have hza:=hSa.low.size
  have hoa:=hSa.ats
  have hra:Holds _ _ 1 _:=ZgR wr #[.int .i64 ((L.length:Int)+1)] 3 1 1 (by decide)
  go_wp2_with (at_builtin;refine Zmg _ (by kernel_rfl) (.tmp 45) (.tmp 49) 55 3 (.int .i64 0) 1 8 rfl Tryz.underlying55 infoInt rfl (by decide) (by decide) w1.heap.size _ _ _ rfl hoa _ 1 (icells [((L.length+1:Nat):Int)]) rfl hra rfl (Zet _) hAl hza ?_)
  intro v3 u4 ho3 hg3
  have hS4:=hSa.more1 (k:=L.length+1) hg3 ho3
  obtain⟨x3,y3,rfl⟩:=(Zeo ho3).form
  clear hSa hza hoa hra ho3 hg3 hSq
  obtain⟨A',hA'⟩:∃ A',A++[L.length+1]=A':=⟨_,rfl⟩
  have HA':Hid (A'=atL L):=(by show _=_;rw[← hA',HAe.out.1];rfl)
  have hl':A.length+1=A'.length:=(by rw[← hA',List.length_append];rfl)
  rw[hA'] at hS4
  rw[hl'] at hS4 ⊢
  have hf4:=(hS4.low.block _ (Array.getElem?_eq_some_iff.1 hf1).1).trans hf1
  have hB4:=hB1.trans (hS4.low.mono hB1.size)
  have hX:=HX.out
  have HR:Hid (R=ntR L):=HAe.out.2.1
  unfold psT at hX
  rw[if_neg (by omega),HLs.out,← HR.out] at hX
  clear hA' hl' HAe HX hf1 hB1 hend hlt hk
  cases R with
  | nil =>
   rw[if_pos rfl] at hX
   subst hX
   have hf5:=ZmD (.int .i64 0) (.int .i64 0) hf4
   have hB5:=ZmB hB4 (Nat.le_refl _) (.int .i64 0) (.int .i64 0)
   have y0:u4.cell? ⟨w.heap.size,0,none⟩=some (.int .i64 0):=(by rw[Lib.cell_of_heap hf4];rfl)
   have y1:u4.cell? ⟨w.heap.size,1,none⟩=some (.int .i64 0):=(by rw[Lib.cell_of_heap hf4];rfl)
   have yf0:=Lib.frozen_of_heap hf4 0
   have yf1:=Lib.frozen_of_heap hf4 1
   go_wp2
   exact bodyPost_ret (ZqD rfl _ _ w.heap.size 29 #[.int .i64 0,.int .i64 0] (0,0) _ rfl hf5 Tryz.underlying29 rfl (by kernel_rfl)) rfl ⟨.slice none 0 0,[],rfl,⟨hB5,Zen _ _ _ _,fun _ h=>by cases h⟩,rfl⟩
  | cons r0 R0 =>
   rw[if_neg (by simp)] at hX
   have hrow:=hS4.rest
   have hRs:HS u4 (.slice yo (r0::R0).length yc) (r0::R0):=Zeo hrow
   obtain⟨S,hS⟩:∃ S,(r0::R0).flatten=S:=⟨_,rfl⟩
   have hSl:S.length≤1048576:=(by rw[← hS,HR.out,← HLs.out];exact Nat.le_trans (Zhg t) h0)
   have hRl:R0.length+1≤1048576:=(by
    have h1:(r0::R0).length≤L.length:=by rw[HR.out];exact List.length_filter_le _ _
    rw[List.length_cons] at h1
    omega)
   have hjn:=fun u (hu:Below u4.heap.size u4 u)=>ZpD (.slice yo (r0::R0).length yc) (r0::R0) u (by rw[List.length_cons];omega) (by rw[hS];omega) (HS.keep hRs hu (Nat.le_refl _))
   rw[hS] at hX hjn
   have hr0:r0≠[]:=HNE.out r0 (by
    have h1:r0∈ntR L:=by rw[← HR.out];simp
    exact (List.mem_filter.1 h1).1)
   obtain⟨fm,hfm⟩:∃ f,fmS r0=f:=⟨_,rfl⟩
   have hfr:frmT t=fm:=(by unfold frmT;rw[HLs.out,← HR.out];exact hfm)
   rw[hfr] at hX
   have hfo:=fun u=>ZpB r0 hr0 u fm hfm
   have hf4':fm=3∨fm=2∨fm=1∨fm=0:=(by
    rw[← hfm]
    unfold fmS
    split
    ·exact Or.inl rfl
    ·split
     ·exact Or.inr (Or.inl rfl)
     ·split
      ·exact Or.inr (Or.inr (Or.inl rfl))
      ·exact Or.inr (Or.inr (Or.inr rfl)))
   obtain⟨b0,o0,rfl,hb0,hc0⟩:=HS.at hRs (by simp)
   have c0:u4.cell? ⟨b0,o0,none⟩=some (.string ⟨r0.toArray⟩):=hc0 0 (by simp)
   have HIN:Hid (∀ e,inP atR fm S=.error e→1≤e.1∧e.1-1<A'.length∧e.2≠0):=(fun e he=>by
    have h:=ZeG (x:=atR) (t:=t) (e:=e) h0 (by rw[hfr,HLs.out,← HR.out,hS];exact he)
    rw[HLs.out,← HA'.out] at h
    exact h)
   rw[← HA'.out] at hX
   have HX:Hid (_=X):=hX
   have hlen:(((r0::R0).length:Nat):Int)=(R0.length:Int)+1:=(by rw[List.length_cons];omega)
   have hz:(((R0.length:Int)+1) == 0)=false:=(by rw[beq_eq_false_iff_ne];omega)
   have k1:(0:Int)<(R0.length:Int)+1:=by omega
   clear hX hfm hfr hc0 hrow hS hRs HR HNE HSB
   go_wp2_with fail
   refine (hjn _ (Below.refl _ _)).mono ?_
   rintro e w5 ⟨rfl,hB5⟩
   have c5:=(World.cell?_of_block (hB5.block b0 hb0)).trans c0
   clear hjn c0
   go_wp2_with fail
   refine (hfo _).mono ?_
   rintro e w6 ⟨rfl,rfl⟩
   clear hfo c5
   have hB45:=hB5
   generalize hw0:w.heap.size=F0 at hf4 ⊢
   rcases hf4' with rfl | rfl | rfl | rfl
   ·obtain⟨Y,hY⟩:∃ Y,unT atR S=Y:=⟨_,rfl⟩
    have h16:=fun u=>ZpS S u Y hY
    have HXY:Hid (Y=inP atR 3 S):=hY.symm
    clear hY
    go_upto_region 21 with fail
    have hnw:=heap_alloc_new w5 (.cells #[.int .i64 1,.int .i64 180] 29)
    have hB47:Below u4.heap.size u4 (w5.alloc (.cells #[.int .i64 1,.int .i64 180] 29)):=hB45.alloc hB45.size _
    have hBge:u4.heap.size≤w5.heap.size:=hB45.size
    have hBlt:w5.heap.size<(w5.alloc (.cells #[.int .i64 1,.int .i64 180] 29)).heap.size:=(by simp)
    generalize (w5.alloc (.cells #[.int .i64 1,.int .i64 180] 29))=w7 at hnw hB47 hBlt ⊢
    obtain⟨B,hBB⟩:∃ B,w5.heap.size=B:=⟨_,rfl⟩
    rw[hBB] at hnw hBge hBlt
    simp only[hBB]
    clear hBB hB45 hB5
    have hF0:=(Array.getElem?_eq_some_iff.1 hf4).1
    go_wp2_with fail
    refine (h16 _).mono ?_
    rintro e w8 hq
    clear h16
    cases Y with
    | error ye =>
     obtain⟨a,z⟩:=ye
     obtain⟨rfl,_,hB8⟩:=hq
     have q0:=(hB8.block B hBlt).trans hnw
     have q8:=hB47.trans (hB8.mono hB47.size)
     have qc0:w8.cell? ⟨B,0,none⟩=some (.int .i64 1):=(by rw[Lib.cell_of_heap q0];rfl)
     have qc1:w8.cell? ⟨B,1,none⟩=some (.int .i64 180):=(by rw[Lib.cell_of_heap q0];rfl)
     have qf0:=Lib.frozen_of_heap q0 0
     have qf1:=Lib.frozen_of_heap q0 1
     have p6:=ZmD (.int .i64 (a:Int)) (.int .i64 z) q0
     have l6:=ZmB q8 hBge (.int .i64 (a:Int)) (.int .i64 z)
     go_upto_region 28 with fail
     clear qc0 qc1 qf0 qf1 q0 q8
     generalize hW9:(w8.setCell ⟨B,0,none⟩ (.int .i64 (a:Int))).setCell ⟨B,1,none⟩ (.int .i64 z)=w9 at p6 l6 ⊢
     clear hW9
     have d0:w9.cell? ⟨B,0,none⟩=some (.int .i64 (a:Int)):=(by rw[Lib.cell_of_heap p6];rfl)
     have d1:w9.cell? ⟨B,1,none⟩=some (.int .i64 z):=(by rw[Lib.cell_of_heap p6];rfl)
     have df0:=Lib.frozen_of_heap p6 0
     have df1:=Lib.frozen_of_heap p6 1
     obtain⟨g1,g2,g3⟩:=HIN.out (a,z) HXY.out.symm
     dsimp only at g1 g2 g3
     obtain⟨xb,xoff,rfl,hxb,hxc⟩:=Zaz (A:=A') (Zeo hS4.ats) (Nat.lt_of_le_of_lt (Nat.zero_le _) g2)
     have hxn:=(World.cell?_of_block (l6.block xb hxb)).trans (hxc (a-1) g2)
     obtain⟨n,hn⟩:∃ n,A'[a-1]=n:=⟨_,rfl⟩
     rw[hn] at hxn
     have hXe:X=.error (n,z):=(by
      have h:=HX.out
      rw[← HXY.out] at h
      rw[← h]
      show Except.error (renP A' (a,z))=_
      unfold renP
      dsimp only
      rw[if_neg (by omega),List.getD_eq_getElem?_getD,List.getElem?_eq_getElem g2,Option.getD_some,hn])
     subst hXe
     have hal:A'.length≤1099511627776:=(by have:=HA'.out;rw[this,Zay];have h:(ntR L).length≤L.length:=List.length_filter_le _ _;omega)
     obtain⟨ai,hai⟩:∃ ai:Int,(a:Int)=ai:=⟨_,rfl⟩
     have e0:(0:Int)<ai:=by omega
     have e1:(1:Int)≤ai:=by omega
     have e2:ai-1<(A'.length:Int):=by omega
     have e4:(0:Int)≤ai-1:=by omega
     have e5:ai≤1099511627776:=by omega
     have e3:(ai-1).toNat=a-1:=by omega
     have hzb:(z != 0)=true:=bne_iff_ne.2 g3
     rw[hai] at d0 p6
     have hxnC:=hxn
     have e6:ai.toNat-1=a-1:=by omega
     have hxnB:=hxn
     rw[← e6] at hxnB
     rw[← e3] at hxn
     have p10:=heap_setCell_same w9 B 0 _ _ (.int .i64 (n:Int)) p6
     have l10:Below u4.heap.size u4 (w9.setCell ⟨B,0,none⟩ (.int .i64 (n:Int))):=l6.setCell hBge _
     have f10:=(l10.block F0 hF0).trans hf4
     clear hxc hn HX HIN HXY g1 hai e3
     go_upto_region 31 with fail
     generalize hW10:w9.setCell ⟨B,0,none⟩ (.int .i64 (n:Int))=w10 at p10 l10 f10 ⊢
     clear hW10 d0 d1 df0 df1 hxn hxnB hxnC p6 l6
     have d0:w10.cell? ⟨B,0,none⟩=some (.int .i64 (n:Int)):=(by rw[Lib.cell_of_heap p10];rfl)
     have d1:w10.cell? ⟨B,1,none⟩=some (.int .i64 z):=(by rw[Lib.cell_of_heap p10];rfl)
     have df0:=Lib.frozen_of_heap p10 0
     have df1:=Lib.frozen_of_heap p10 1
     have y0:w10.cell? ⟨F0,0,none⟩=some (.int .i64 0):=(by rw[Lib.cell_of_heap f10];rfl)
     have y1:w10.cell? ⟨F0,1,none⟩=some (.int .i64 0):=(by rw[Lib.cell_of_heap f10];rfl)
     have yf0:=Lib.frozen_of_heap f10 0
     have yf1:=Lib.frozen_of_heap f10 1
     have f11:=ZmD (.int .i64 (n:Int)) (.int .i64 z) f10
     have l11:=ZmB (hB4.trans (l10.mono hB4.size)) (Nat.le_of_eq hw0) (.int .i64 (n:Int)) (.int .i64 z)
     go_region
     have f12:((w10.setCell ⟨F0,0,none⟩ (.int .i64 (n:Int))).setCell ⟨F0,1,none⟩ (.int .i64 z)).drew.heap[F0]?=some (.cells #[.int .i64 (n:Int),.int .i64 z] 29):=f11
     have l12:=l11.drew
     generalize ((w10.setCell ⟨F0,0,none⟩ (.int .i64 (n:Int))).setCell ⟨F0,1,none⟩ (.int .i64 z)).drew=w12 at f12 l12 ⊢
     clear f11 l11 f10 l10 p10 d0 d1 df0 df1 y0 y1 yf0 yf1
     go_wp2
     exact bodyPost_ret (ZqD rfl _ _ F0 29 #[.int .i64 (n:Int),.int .i64 z] (0,0) _ rfl f12 Tryz.underlying29 rfl (by kernel_rfl)) rfl ⟨rfl,g3,l12⟩
    | ok l =>
     obtain⟨v8,F8,rfl,hPw8,hFl⟩:=hq
     have hB8:=hPw8.low
     have q0:=(hB8.block B hBlt).trans hnw
     have q8:=hB47.trans (hB8.mono hB47.size)
     have qc0:w8.cell? ⟨B,0,none⟩=some (.int .i64 1):=(by rw[Lib.cell_of_heap q0];rfl)
     have qc1:w8.cell? ⟨B,1,none⟩=some (.int .i64 180):=(by rw[Lib.cell_of_heap q0];rfl)
     have qf0:=Lib.frozen_of_heap q0 0
     have qf1:=Lib.frozen_of_heap q0 1
     have hB48:=hB4.trans (q8.mono hB4.size)
     obtain⟨vo,vc,rfl⟩:=(Zeo hPw8.own).form
     have p6:=ZmD (.int .i64 0) (.int .i64 0) q0
     have l6:=ZmB q8 hBge (.int .i64 0) (.int .i64 0)
     have P9:=Zpt (ZiN hPw8 hB48 (Nat.le_trans hB4.size hB47.size)) q0 (Nat.le_trans hB4.size hBge) (.int .i64 0) (.int .i64 0)
     go_upto_region 28 with fail
     clear qc0 qc1 qf0 qf1 q0 q8 hPw8
     generalize hW9:(w8.setCell ⟨B,0,none⟩ (.int .i64 0)).setCell ⟨B,1,none⟩ (.int .i64 0)=w9 at p6 l6 P9 ⊢
     clear hW9
     have d0:w9.cell? ⟨B,0,none⟩=some (.int .i64 0):=(by rw[Lib.cell_of_heap p6];rfl)
     have d1:w9.cell? ⟨B,1,none⟩=some (.int .i64 0):=(by rw[Lib.cell_of_heap p6];rfl)
     have df0:=Lib.frozen_of_heap p6 0
     have df1:=Lib.frozen_of_heap p6 1
     have f10:=(l6.block F0 hF0).trans hf4
     have hXe:X=.ok (3,l):=(by
      have h:=HX.out
      rw[← HXY.out] at h
      exact h.symm)
     subst hXe
     go_upto_region 32 with fail
     have y0:w9.cell? ⟨F0,0,none⟩=some (.int .i64 0):=(by rw[Lib.cell_of_heap f10];rfl)
     have y1:w9.cell? ⟨F0,1,none⟩=some (.int .i64 0):=(by rw[Lib.cell_of_heap f10];rfl)
     have yf0:=Lib.frozen_of_heap f10 0
     have yf1:=Lib.frozen_of_heap f10 1
     have f11:=ZmD (.int .i64 0) (.int .i64 0) f10
     have P11:=Zpt P9 f10 (Nat.le_of_eq hw0) (.int .i64 0) (.int .i64 0)
     go_region
     have f12:((w9.setCell ⟨F0,0,none⟩ (.int .i64 0)).setCell ⟨F0,1,none⟩ (.int .i64 0)).drew.heap[F0]?=some (.cells #[.int .i64 0,.int .i64 0] 29):=f11
     have P12:=ZiO P11 (Below.drew (Below.refl _ _))
     generalize ((w9.setCell ⟨F0,0,none⟩ (.int .i64 0)).setCell ⟨F0,1,none⟩ (.int .i64 0)).drew=w12 at f12 P12 ⊢
     clear f11 P11 f10 p6 l6 P9 d0 d1 df0 df1 y0 y1 yf0 yf1
     go_wp2
     exact bodyPost_ret (ZqD rfl _ _ F0 29 #[.int .i64 0,.int .i64 0] (0,0) _ rfl f12 Tryz.underlying29 rfl (by kernel_rfl)) rfl ⟨_,F8,rfl,P12,hFl⟩
   ·obtain⟨Y,hY⟩:∃ Y,cxT S=Y:=⟨_,rfl⟩
    have h16:=fun u=>ZpR S u Y hY
    have HXY:Hid (Y=inP atR 2 S):=hY.symm
    clear hY
    go_upto_region 23 with fail
    have hnw:=heap_alloc_new w5 (.cells #[.int .i64 1,.int .i64 180] 29)
    have hB47:Below u4.heap.size u4 (w5.alloc (.cells #[.int .i64 1,.int .i64 180] 29)):=hB45.alloc hB45.size _
    have hBge:u4.heap.size≤w5.heap.size:=hB45.size
    have hBlt:w5.heap.size<(w5.alloc (.cells #[.int .i64 1,.int .i64 180] 29)).heap.size:=(by simp)
    generalize (w5.alloc (.cells #[.int .i64 1,.int .i64 180] 29))=w7 at hnw hB47 hBlt ⊢
    obtain⟨B,hBB⟩:∃ B,w5.heap.size=B:=⟨_,rfl⟩
    rw[hBB] at hnw hBge hBlt
    simp only[hBB]
    clear hBB hB45 hB5
    have hF0:=(Array.getElem?_eq_some_iff.1 hf4).1
    go_wp2_with fail
    refine (h16 _).mono ?_
    rintro e w8 hq
    clear h16
    cases Y with
    | error ye =>
     obtain⟨a,z⟩:=ye
     obtain⟨rfl,_,hB8⟩:=hq
     have q0:=(hB8.block B hBlt).trans hnw
     have q8:=hB47.trans (hB8.mono hB47.size)
     have qc0:w8.cell? ⟨B,0,none⟩=some (.int .i64 1):=(by rw[Lib.cell_of_heap q0];rfl)
     have qc1:w8.cell? ⟨B,1,none⟩=some (.int .i64 180):=(by rw[Lib.cell_of_heap q0];rfl)
     have qf0:=Lib.frozen_of_heap q0 0
     have qf1:=Lib.frozen_of_heap q0 1
     have p6:=ZmD (.int .i64 (a:Int)) (.int .i64 z) q0
     have l6:=ZmB q8 hBge (.int .i64 (a:Int)) (.int .i64 z)
     go_upto_region 28 with fail
     clear qc0 qc1 qf0 qf1 q0 q8
     generalize hW9:(w8.setCell ⟨B,0,none⟩ (.int .i64 (a:Int))).setCell ⟨B,1,none⟩ (.int .i64 z)=w9 at p6 l6 ⊢
     clear hW9
     have d0:w9.cell? ⟨B,0,none⟩=some (.int .i64 (a:Int)):=(by rw[Lib.cell_of_heap p6];rfl)
     have d1:w9.cell? ⟨B,1,none⟩=some (.int .i64 z):=(by rw[Lib.cell_of_heap p6];rfl)
     have df0:=Lib.frozen_of_heap p6 0
     have df1:=Lib.frozen_of_heap p6 1
     obtain⟨g1,g2,g3⟩:=HIN.out (a,z) HXY.out.symm
     dsimp only at g1 g2 g3
     obtain⟨xb,xoff,rfl,hxb,hxc⟩:=Zaz (A:=A') (Zeo hS4.ats) (Nat.lt_of_le_of_lt (Nat.zero_le _) g2)
     have hxn:=(World.cell?_of_block (l6.block xb hxb)).trans (hxc (a-1) g2)
     obtain⟨n,hn⟩:∃ n,A'[a-1]=n:=⟨_,rfl⟩
     rw[hn] at hxn
     have hXe:X=.error (n,z):=(by
      have h:=HX.out
      rw[← HXY.out] at h
      rw[← h]
      show Except.error (renP A' (a,z))=_
      unfold renP
      dsimp only
      rw[if_neg (by omega),List.getD_eq_getElem?_getD,List.getElem?_eq_getElem g2,Option.getD_some,hn])
     subst hXe
     have hal:A'.length≤1099511627776:=(by have:=HA'.out;rw[this,Zay];have h:(ntR L).length≤L.length:=List.length_filter_le _ _;omega)
     obtain⟨ai,hai⟩:∃ ai:Int,(a:Int)=ai:=⟨_,rfl⟩
     have e0:(0:Int)<ai:=by omega
     have e1:(1:Int)≤ai:=by omega
     have e2:ai-1<(A'.length:Int):=by omega
     have e4:(0:Int)≤ai-1:=by omega
     have e5:ai≤1099511627776:=by omega
     have e3:(ai-1).toNat=a-1:=by omega
     have hzb:(z != 0)=true:=bne_iff_ne.2 g3
     rw[hai] at d0 p6
     have hxnC:=hxn
     have e6:ai.toNat-1=a-1:=by omega
     have hxnB:=hxn
     rw[← e6] at hxnB
     rw[← e3] at hxn
     have p10:=heap_setCell_same w9 B 0 _ _ (.int .i64 (n:Int)) p6
     have l10:Below u4.heap.size u4 (w9.setCell ⟨B,0,none⟩ (.int .i64 (n:Int))):=l6.setCell hBge _
     have f10:=(l10.block F0 hF0).trans hf4
     clear hxc hn HX HIN HXY g1 hai e3
     go_upto_region 31 with fail
     generalize hW10:w9.setCell ⟨B,0,none⟩ (.int .i64 (n:Int))=w10 at p10 l10 f10 ⊢
     clear hW10 d0 d1 df0 df1 hxn hxnB hxnC p6 l6
     have d0:w10.cell? ⟨B,0,none⟩=some (.int .i64 (n:Int)):=(by rw[Lib.cell_of_heap p10];rfl)
     have d1:w10.cell? ⟨B,1,none⟩=some (.int .i64 z):=(by rw[Lib.cell_of_heap p10];rfl)
     have df0:=Lib.frozen_of_heap p10 0
     have df1:=Lib.frozen_of_heap p10 1
     have y0:w10.cell? ⟨F0,0,none⟩=some (.int .i64 0):=(by rw[Lib.cell_of_heap f10];rfl)
     have y1:w10.cell? ⟨F0,1,none⟩=some (.int .i64 0):=(by rw[Lib.cell_of_heap f10];rfl)
     have yf0:=Lib.frozen_of_heap f10 0
     have yf1:=Lib.frozen_of_heap f10 1
     have f11:=ZmD (.int .i64 (n:Int)) (.int .i64 z) f10
     have l11:=ZmB (hB4.trans (l10.mono hB4.size)) (Nat.le_of_eq hw0) (.int .i64 (n:Int)) (.int .i64 z)
     go_region
     have f12:((w10.setCell ⟨F0,0,none⟩ (.int .i64 (n:Int))).setCell ⟨F0,1,none⟩ (.int .i64 z)).drew.heap[F0]?=some (.cells #[.int .i64 (n:Int),.int .i64 z] 29):=f11
     have l12:=l11.drew
     generalize ((w10.setCell ⟨F0,0,none⟩ (.int .i64 (n:Int))).setCell ⟨F0,1,none⟩ (.int .i64 z)).drew=w12 at f12 l12 ⊢
     clear f11 l11 f10 l10 p10 d0 d1 df0 df1 y0 y1 yf0 yf1
     go_wp2
     exact bodyPost_ret (ZqD rfl _ _ F0 29 #[.int .i64 (n:Int),.int .i64 z] (0,0) _ rfl f12 Tryz.underlying29 rfl (by kernel_rfl)) rfl ⟨rfl,g3,l12⟩
    | ok l =>
     obtain⟨v8,F8,rfl,hPw8,hFl⟩:=hq
     have hB8:=hPw8.low
     have q0:=(hB8.block B hBlt).trans hnw
     have q8:=hB47.trans (hB8.mono hB47.size)
     have qc0:w8.cell? ⟨B,0,none⟩=some (.int .i64 1):=(by rw[Lib.cell_of_heap q0];rfl)
     have qc1:w8.cell? ⟨B,1,none⟩=some (.int .i64 180):=(by rw[Lib.cell_of_heap q0];rfl)
     have qf0:=Lib.frozen_of_heap q0 0
     have qf1:=Lib.frozen_of_heap q0 1
     have hB48:=hB4.trans (q8.mono hB4.size)
     obtain⟨vo,vc,rfl⟩:=(Zeo hPw8.own).form
     have p6:=ZmD (.int .i64 0) (.int .i64 0) q0
     have l6:=ZmB q8 hBge (.int .i64 0) (.int .i64 0)
     have P9:=Zpt (ZiN hPw8 hB48 (Nat.le_trans hB4.size hB47.size)) q0 (Nat.le_trans hB4.size hBge) (.int .i64 0) (.int .i64 0)
     go_upto_region 28 with fail
     clear qc0 qc1 qf0 qf1 q0 q8 hPw8
     generalize hW9:(w8.setCell ⟨B,0,none⟩ (.int .i64 0)).setCell ⟨B,1,none⟩ (.int .i64 0)=w9 at p6 l6 P9 ⊢
     clear hW9
     have d0:w9.cell? ⟨B,0,none⟩=some (.int .i64 0):=(by rw[Lib.cell_of_heap p6];rfl)
     have d1:w9.cell? ⟨B,1,none⟩=some (.int .i64 0):=(by rw[Lib.cell_of_heap p6];rfl)
     have df0:=Lib.frozen_of_heap p6 0
     have df1:=Lib.frozen_of_heap p6 1
     have f10:=(l6.block F0 hF0).trans hf4
     have hXe:X=.ok (2,l):=(by
      have h:=HX.out
      rw[← HXY.out] at h
      exact h.symm)
     subst hXe
     go_upto_region 32 with fail
     have y0:w9.cell? ⟨F0,0,none⟩=some (.int .i64 0):=(by rw[Lib.cell_of_heap f10];rfl)
     have y1:w9.cell? ⟨F0,1,none⟩=some (.int .i64 0):=(by rw[Lib.cell_of_heap f10];rfl)
     have yf0:=Lib.frozen_of_heap f10 0
     have yf1:=Lib.frozen_of_heap f10 1
     have f11:=ZmD (.int .i64 0) (.int .i64 0) f10
     have P11:=Zpt P9 f10 (Nat.le_of_eq hw0) (.int .i64 0) (.int .i64 0)
     go_region
     have f12:((w9.setCell ⟨F0,0,none⟩ (.int .i64 0)).setCell ⟨F0,1,none⟩ (.int .i64 0)).drew.heap[F0]?=some (.cells #[.int .i64 0,.int .i64 0] 29):=f11
     have P12:=ZiO P11 (Below.drew (Below.refl _ _))
     generalize ((w9.setCell ⟨F0,0,none⟩ (.int .i64 0)).setCell ⟨F0,1,none⟩ (.int .i64 0)).drew=w12 at f12 P12 ⊢
     clear f11 P11 f10 p6 l6 P9 d0 d1 df0 df1 y0 y1 yf0 yf1
     go_wp2
     exact bodyPost_ret (ZqD rfl _ _ F0 29 #[.int .i64 0,.int .i64 0] (0,0) _ rfl f12 Tryz.underlying29 rfl (by kernel_rfl)) rfl ⟨_,F8,rfl,P12,hFl⟩
   ·obtain⟨Y1,hY⟩:∃ Y,prsT S=Y:=⟨_,rfl⟩
    obtain⟨Y,hY2⟩:∃ Y,bareP Y1=Y:=⟨_,rfl⟩
    have h12:=fun u=>ZpI S u (by omega) Y1 hY
    have HXY:Hid (Y=inP atR 1 S):=(by show _=_;rw[← hY2,← hY];rfl)
    clear hY
    go_upto_region 25 with fail
    have hnw:=heap_alloc_new w5 (.cells #[.int .i64 1,.int .i64 180] 29)
    have hB47:Below u4.heap.size u4 (w5.alloc (.cells #[.int .i64 1,.int .i64 180] 29)):=hB45.alloc hB45.size _
    have hBge:u4.heap.size≤w5.heap.size:=hB45.size
    have hBlt:w5.heap.size<(w5.alloc (.cells #[.int .i64 1,.int .i64 180] 29)).heap.size:=(by simp)
    generalize (w5.alloc (.cells #[.int .i64 1,.int .i64 180] 29))=w7 at hnw hB47 hBlt ⊢
    obtain⟨B,hBB⟩:∃ B,w5.heap.size=B:=⟨_,rfl⟩
    rw[hBB] at hnw hBge hBlt
    simp only[hBB]
    clear hBB hB45 hB5
    have hF0:=(Array.getElem?_eq_some_iff.1 hf4).1
    go_wp2_with fail
    refine (h12 _).mono ?_
    rintro e w8 hq
    clear h12
    cases Y1 with
    | error ye =>
     obtain⟨a,z⟩:=ye
     obtain⟨rfl,hB8⟩:=hq
     have hY3:Y=.error (a,z):=hY2.symm
     subst hY3
     clear hY2
     have m1:=heap_alloc_new w8 (.cells #[.int .i64 (a:Int),.int .i64 z] 29)
     have n1:Below w8.heap.size w8 (w8.alloc (.cells #[.int .i64 (a:Int),.int .i64 z] 29)):=(Below.refl _ w8).alloc (Nat.le_refl _) _
     have z1:w8.heap.size<(w8.alloc (.cells #[.int .i64 (a:Int),.int .i64 z] 29)).heap.size:=(by simp)
     have n2:Below (w8.alloc (.cells #[.int .i64 (a:Int),.int .i64 z] 29)).heap.size (w8.alloc (.cells #[.int .i64 (a:Int),.int .i64 z] 29)) ((w8.alloc (.cells #[.int .i64 (a:Int),.int .i64 z] 29)).alloc (.cells #[.string ⟨#[]⟩,.string ⟨#[]⟩,.slice none 0 0] 42)):=(Below.refl _ _).alloc (Nat.le_refl _) _
     have m2:=(n2.block w8.heap.size z1).trans m1
     have n3:=n1.trans (n2.mono n1.size)
     go_upto_region 27 with fail
     generalize hWb:(w8.alloc (.cells #[.int .i64 (a:Int),.int .i64 z] 29)).alloc (.cells #[.string ⟨#[]⟩,.string ⟨#[]⟩,.slice none 0 0] 42)=wb at m2 n3 ⊢
     clear hWb m1 n1 n2 z1
     have q0:=(hB8.trans (n3.mono hB8.size)).block B hBlt |>.trans hnw
     have q8:=hB47.trans ((hB8.trans (n3.mono hB8.size)).mono hB47.size)
     have qc0:wb.cell? ⟨B,0,none⟩=some (.int .i64 1):=(by rw[Lib.cell_of_heap q0];rfl)
     have qc1:wb.cell? ⟨B,1,none⟩=some (.int .i64 180):=(by rw[Lib.cell_of_heap q0];rfl)
     have qf0:=Lib.frozen_of_heap q0 0
     have qf1:=Lib.frozen_of_heap q0 1
     have rc0:wb.cell? ⟨w8.heap.size,0,none⟩=some (.int .i64 (a:Int)):=(by rw[Lib.cell_of_heap m2];rfl)
     have rc1:wb.cell? ⟨w8.heap.size,1,none⟩=some (.int .i64 z):=(by rw[Lib.cell_of_heap m2];rfl)
     have rf0:=Lib.frozen_of_heap m2 0
     have rf1:=Lib.frozen_of_heap m2 1
     have p6:=ZmD (.int .i64 (a:Int)) (.int .i64 z) q0
     have l6:=ZmB q8 hBge (.int .i64 (a:Int)) (.int .i64 z)
     go_upto_region 28 with fail
     clear qc0 qc1 qf0 qf1 q0 q8 rc0 rc1 rf0 rf1 m2
     generalize hW9:(wb.setCell ⟨B,0,none⟩ (.int .i64 (a:Int))).setCell ⟨B,1,none⟩ (.int .i64 z)=w9 at p6 l6 ⊢
     clear hW9
     have d0:w9.cell? ⟨B,0,none⟩=some (.int .i64 (a:Int)):=(by rw[Lib.cell_of_heap p6];rfl)
     have d1:w9.cell? ⟨B,1,none⟩=some (.int .i64 z):=(by rw[Lib.cell_of_heap p6];rfl)
     have df0:=Lib.frozen_of_heap p6 0
     have df1:=Lib.frozen_of_heap p6 1
     obtain⟨g1,g2,g3⟩:=HIN.out (a,z) HXY.out.symm
     dsimp only at g1 g2 g3
     obtain⟨xb,xoff,rfl,hxb,hxc⟩:=Zaz (A:=A') (Zeo hS4.ats) (Nat.lt_of_le_of_lt (Nat.zero_le _) g2)
     have hxn:=(World.cell?_of_block (l6.block xb hxb)).trans (hxc (a-1) g2)
     obtain⟨n,hn⟩:∃ n,A'[a-1]=n:=⟨_,rfl⟩
     rw[hn] at hxn
     have hXe:X=.error (n,z):=(by
      have h:=HX.out
      rw[← HXY.out] at h
      rw[← h]
      show Except.error (renP A' (a,z))=_
      unfold renP
      dsimp only
      rw[if_neg (by omega),List.getD_eq_getElem?_getD,List.getElem?_eq_getElem g2,Option.getD_some,hn])
     subst hXe
     have hal:A'.length≤1099511627776:=(by have:=HA'.out;rw[this,Zay];have h:(ntR L).length≤L.length:=List.length_filter_le _ _;omega)
     obtain⟨ai,hai⟩:∃ ai:Int,(a:Int)=ai:=⟨_,rfl⟩
     have e0:(0:Int)<ai:=by omega
     have e1:(1:Int)≤ai:=by omega
     have e2:ai-1<(A'.length:Int):=by omega
     have e4:(0:Int)≤ai-1:=by omega
     have e5:ai≤1099511627776:=by omega
     have e3:(ai-1).toNat=a-1:=by omega
     have hzb:(z != 0)=true:=bne_iff_ne.2 g3
     rw[hai] at d0 p6
     have hxnC:=hxn
     have e6:ai.toNat-1=a-1:=by omega
     have hxnB:=hxn
     rw[← e6] at hxnB
     rw[← e3] at hxn
     have p10:=heap_setCell_same w9 B 0 _ _ (.int .i64 (n:Int)) p6
     have l10:Below u4.heap.size u4 (w9.setCell ⟨B,0,none⟩ (.int .i64 (n:Int))):=l6.setCell hBge _
     have f10:=(l10.block F0 hF0).trans hf4
     clear hxc hn HX HIN HXY g1 hai e3
     go_upto_region 31 with fail
     generalize hW10:w9.setCell ⟨B,0,none⟩ (.int .i64 (n:Int))=w10 at p10 l10 f10 ⊢
     clear hW10 d0 d1 df0 df1 hxn hxnB hxnC p6 l6
     have d0:w10.cell? ⟨B,0,none⟩=some (.int .i64 (n:Int)):=(by rw[Lib.cell_of_heap p10];rfl)
     have d1:w10.cell? ⟨B,1,none⟩=some (.int .i64 z):=(by rw[Lib.cell_of_heap p10];rfl)
     have df0:=Lib.frozen_of_heap p10 0
     have df1:=Lib.frozen_of_heap p10 1
     have y0:w10.cell? ⟨F0,0,none⟩=some (.int .i64 0):=(by rw[Lib.cell_of_heap f10];rfl)
     have y1:w10.cell? ⟨F0,1,none⟩=some (.int .i64 0):=(by rw[Lib.cell_of_heap f10];rfl)
     have yf0:=Lib.frozen_of_heap f10 0
     have yf1:=Lib.frozen_of_heap f10 1
     have f11:=ZmD (.int .i64 (n:Int)) (.int .i64 z) f10
     have l11:=ZmB (hB4.trans (l10.mono hB4.size)) (Nat.le_of_eq hw0) (.int .i64 (n:Int)) (.int .i64 z)
     go_region
     have f12:((w10.setCell ⟨F0,0,none⟩ (.int .i64 (n:Int))).setCell ⟨F0,1,none⟩ (.int .i64 z)).drew.heap[F0]?=some (.cells #[.int .i64 (n:Int),.int .i64 z] 29):=f11
     have l12:=l11.drew
     generalize ((w10.setCell ⟨F0,0,none⟩ (.int .i64 (n:Int))).setCell ⟨F0,1,none⟩ (.int .i64 z)).drew=w12 at f12 l12 ⊢
     clear f11 l11 f10 l10 p10 d0 d1 df0 df1 y0 y1 yf0 yf1
     go_wp2
     exact bodyPost_ret (ZqD rfl _ _ F0 29 #[.int .i64 (n:Int),.int .i64 z] (0,0) _ rfl f12 Tryz.underlying29 rfl (by kernel_rfl)) rfl ⟨rfl,g3,l12⟩
    | ok l1 =>
     obtain⟨v8,P8,rfl,hHs,hPl⟩:=hq
     have hB8:=hHs.low
     have hY3:Y=.ok [⟨[],[],l1⟩]:=hY2.symm
     obtain⟨l,hl⟩:∃ l:List Pth,[⟨[],[],l1⟩]=l:=⟨_,rfl⟩
     rw[hl] at hY3
     subst hY3
     obtain⟨vo,vc,rfl⟩:=(Zeo hHs.own).form
     obtain⟨F8,hF8⟩:∃ F:List Pfd,[⟨⟨[],[],P8.map (·.1)⟩,.slice vo P8.length vc,P8⟩]=F:=⟨_,rfl⟩
     have hFl:F8.map (·.x)=l:=(by rw[← hF8,← hl,← hPl];rfl)
     clear hY2
     have m1:=heap_alloc_new w8 (.cells #[.int .i64 0,.int .i64 0] 29)
     have n1:Below w8.heap.size w8 (w8.alloc (.cells #[.int .i64 0,.int .i64 0] 29)):=(Below.refl _ w8).alloc (Nat.le_refl _) _
     have z1:w8.heap.size<(w8.alloc (.cells #[.int .i64 0,.int .i64 0] 29)).heap.size:=(by simp)
     have n2:Below (w8.alloc (.cells #[.int .i64 0,.int .i64 0] 29)).heap.size (w8.alloc (.cells #[.int .i64 0,.int .i64 0] 29)) ((w8.alloc (.cells #[.int .i64 0,.int .i64 0] 29)).alloc (.cells #[.string ⟨#[]⟩,.string ⟨#[]⟩,.slice vo P8.length vc] 42)):=(Below.refl _ _).alloc (Nat.le_refl _) _
     have m2:=(n2.block w8.heap.size z1).trans m1
     have n3:=n1.trans (n2.mono n1.size)
     have z2:(w8.alloc (.cells #[.int .i64 0,.int .i64 0] 29)).heap.size=w8.heap.size+1:=(by simp)
     have own8:=World.ownsRow_lit (w8.alloc (.cells #[.int .i64 0,.int .i64 0] 29)) #[.string ⟨#[]⟩,.string ⟨#[]⟩,.slice vo P8.length vc] (e:=42) (size:=3) 1 (Nat.le_refl _) (by unfold maxLen;omega) rfl
     rw[z2] at own8
     have hw8:w.heap.size≤w8.heap.size+1:=Nat.le_trans (Nat.le_trans hB4.size hB47.size) (Nat.le_succ_of_le hB8.size)
     go_upto_region 27 with fail
     generalize hWb:(w8.alloc (.cells #[.int .i64 0,.int .i64 0] 29)).alloc (.cells #[.string ⟨#[]⟩,.string ⟨#[]⟩,.slice vo P8.length vc] 42)=wb at m2 n3 own8 ⊢
     clear hWb m1 n1 n2 z1
     have q0:=(hB8.trans (n3.mono hB8.size)).block B hBlt |>.trans hnw
     have q8:=hB47.trans ((hB8.trans (n3.mono hB8.size)).mono hB47.size)
     have qc0:wb.cell? ⟨B,0,none⟩=some (.int .i64 1):=(by rw[Lib.cell_of_heap q0];rfl)
     have qc1:wb.cell? ⟨B,1,none⟩=some (.int .i64 180):=(by rw[Lib.cell_of_heap q0];rfl)
     have qf0:=Lib.frozen_of_heap q0 0
     have qf1:=Lib.frozen_of_heap q0 1
     have rc0:wb.cell? ⟨w8.heap.size,0,none⟩=some (.int .i64 0):=(by rw[Lib.cell_of_heap m2];rfl)
     have rc1:wb.cell? ⟨w8.heap.size,1,none⟩=some (.int .i64 0):=(by rw[Lib.cell_of_heap m2];rfl)
     have rf0:=Lib.frozen_of_heap m2 0
     have rf1:=Lib.frozen_of_heap m2 1
     have p6:=ZmD (.int .i64 0) (.int .i64 0) q0
     have l6:=ZmB q8 hBge (.int .i64 0) (.int .i64 0)
     have hB48:=hB4.trans (q8.mono hB4.size)
     have hwz:w.heap.size≤w7.heap.size:=Nat.le_trans hB4.size hB47.size
     have P8b:Pw w (.slice (some ⟨w8.heap.size+1,0,none⟩) 1 1) F8 wb:=(by
      rw[← hF8]
      refine⟨hB48,ZhC own8 hw8,fun f hf=>?_⟩
      rw[List.mem_singleton.1 hf]
      exact⟨rfl,ZhC (ZhK hHs.own n3) hwz,fun y hy=>ZhC (ZhK (hHs.ins y hy) n3) hwz⟩)
     have P9:=Zpt P8b q0 (Nat.le_trans hB4.size hBge) (.int .i64 0) (.int .i64 0)
     go_upto_region 28 with fail
     clear qc0 qc1 qf0 qf1 q0 q8 rc0 rc1 rf0 rf1 m2 P8b own8 hHs hF8 hl hPl
     generalize hW9:(wb.setCell ⟨B,0,none⟩ (.int .i64 0)).setCell ⟨B,1,none⟩ (.int .i64 0)=w9 at p6 l6 P9 ⊢
     clear hW9
     have d0:w9.cell? ⟨B,0,none⟩=some (.int .i64 0):=(by rw[Lib.cell_of_heap p6];rfl)
     have d1:w9.cell? ⟨B,1,none⟩=some (.int .i64 0):=(by rw[Lib.cell_of_heap p6];rfl)
     have df0:=Lib.frozen_of_heap p6 0
     have df1:=Lib.frozen_of_heap p6 1
     have f10:=(l6.block F0 hF0).trans hf4
     have hXe:X=.ok (1,l):=(by
      have h:=HX.out
      rw[← HXY.out] at h
      exact h.symm)
     subst hXe
     go_upto_region 32 with fail
     have y0:w9.cell? ⟨F0,0,none⟩=some (.int .i64 0):=(by rw[Lib.cell_of_heap f10];rfl)
     have y1:w9.cell? ⟨F0,1,none⟩=some (.int .i64 0):=(by rw[Lib.cell_of_heap f10];rfl)
     have yf0:=Lib.frozen_of_heap f10 0
     have yf1:=Lib.frozen_of_heap f10 1
     have f11:=ZmD (.int .i64 0) (.int .i64 0) f10
     have P11:=Zpt P9 f10 (Nat.le_of_eq hw0) (.int .i64 0) (.int .i64 0)
     go_region
     have f12:((w9.setCell ⟨F0,0,none⟩ (.int .i64 0)).setCell ⟨F0,1,none⟩ (.int .i64 0)).drew.heap[F0]?=some (.cells #[.int .i64 0,.int .i64 0] 29):=f11
     have P12:=ZiO P11 (Below.drew (Below.refl _ _))
     generalize ((w9.setCell ⟨F0,0,none⟩ (.int .i64 0)).setCell ⟨F0,1,none⟩ (.int .i64 0)).drew=w12 at f12 P12 ⊢
     clear f11 P11 f10 p6 l6 P9 d0 d1 df0 df1 y0 y1 yf0 yf1
     go_wp2
     exact bodyPost_ret (ZqD rfl _ _ F0 29 #[.int .i64 0,.int .i64 0] (0,0) _ rfl f12 Tryz.underlying29 rfl (by kernel_rfl)) rfl ⟨_,F8,rfl,P12,hFl⟩
   ·obtain⟨Y,hY⟩:∃ Y,inP atR 0 S=Y:=⟨_,rfl⟩
    have HXY:Hid (Y=inP atR 0 S):=hY.symm
    have hY2:Y=.error (1,180):=(by rw[← hY];rfl)
    subst hY2
    clear hY
    go_upto_region 28 with fail
    have hnw:=heap_alloc_new w5 (.cells #[.int .i64 1,.int .i64 180] 29)
    have hB47:Below u4.heap.size u4 (w5.alloc (.cells #[.int .i64 1,.int .i64 180] 29)):=hB45.alloc hB45.size _
    have hBge:u4.heap.size≤w5.heap.size:=hB45.size
    have hBlt:w5.heap.size<(w5.alloc (.cells #[.int .i64 1,.int .i64 180] 29)).heap.size:=(by simp)
    generalize (w5.alloc (.cells #[.int .i64 1,.int .i64 180] 29))=w7 at hnw hB47 hBlt ⊢
    obtain⟨B,hBB⟩:∃ B,w5.heap.size=B:=⟨_,rfl⟩
    rw[hBB] at hnw hBge hBlt
    simp only[hBB]
    clear hBB hB45 hB5
    have hF0:=(Array.getElem?_eq_some_iff.1 hf4).1
    obtain⟨a,ha2⟩:∃ a:Nat,a=1:=⟨_,rfl⟩
    obtain⟨z,hz2⟩:∃ z:Int,z=180:=⟨_,rfl⟩
    have p6:w7.heap[B]?=some (.cells #[.int .i64 (a:Int),.int .i64 z] 29):=(by rw[ha2,hz2];exact hnw)
    have l6:=hB47
    have HXY:Hid (.error (a,z)=inP atR 0 S):=(by show _=_;rw[ha2,hz2];exact HXY.out)
    clear ha2 hz2 hnw
    generalize hW9:w7=w9 at p6 l6 ⊢
    clear hW9 hB47 hBlt
    have d0:w9.cell? ⟨B,0,none⟩=some (.int .i64 (a:Int)):=(by rw[Lib.cell_of_heap p6];rfl)
    have d1:w9.cell? ⟨B,1,none⟩=some (.int .i64 z):=(by rw[Lib.cell_of_heap p6];rfl)
    have df0:=Lib.frozen_of_heap p6 0
    have df1:=Lib.frozen_of_heap p6 1
    obtain⟨g1,g2,g3⟩:=HIN.out (a,z) HXY.out.symm
    dsimp only at g1 g2 g3
    obtain⟨xb,xoff,rfl,hxb,hxc⟩:=Zaz (A:=A') (Zeo hS4.ats) (Nat.lt_of_le_of_lt (Nat.zero_le _) g2)
    have hxn:=(World.cell?_of_block (l6.block xb hxb)).trans (hxc (a-1) g2)
    obtain⟨n,hn⟩:∃ n,A'[a-1]=n:=⟨_,rfl⟩
    rw[hn] at hxn
    have hXe:X=.error (n,z):=(by
     have h:=HX.out
     rw[← HXY.out] at h
     rw[← h]
     show Except.error (renP A' (a,z))=_
     unfold renP
     dsimp only
     rw[if_neg (by omega),List.getD_eq_getElem?_getD,List.getElem?_eq_getElem g2,Option.getD_some,hn])
    subst hXe
    have hal:A'.length≤1099511627776:=(by have:=HA'.out;rw[this,Zay];have h:(ntR L).length≤L.length:=List.length_filter_le _ _;omega)
    obtain⟨ai,hai⟩:∃ ai:Int,(a:Int)=ai:=⟨_,rfl⟩
    have e0:(0:Int)<ai:=by omega
    have e1:(1:Int)≤ai:=by omega
    have e2:ai-1<(A'.length:Int):=by omega
    have e4:(0:Int)≤ai-1:=by omega
    have e5:ai≤1099511627776:=by omega
    have e3:(ai-1).toNat=a-1:=by omega
    have hzb:(z != 0)=true:=bne_iff_ne.2 g3
    rw[hai] at d0 p6
    have hxnC:=hxn
    have e6:ai.toNat-1=a-1:=by omega
    have hxnB:=hxn
    rw[← e6] at hxnB
    rw[← e3] at hxn
    have p10:=heap_setCell_same w9 B 0 _ _ (.int .i64 (n:Int)) p6
    have l10:Below u4.heap.size u4 (w9.setCell ⟨B,0,none⟩ (.int .i64 (n:Int))):=l6.setCell hBge _
    have f10:=(l10.block F0 hF0).trans hf4
    clear hxc hn HX HIN HXY g1 hai e3
    go_upto_region 31 with fail
    generalize hW10:w9.setCell ⟨B,0,none⟩ (.int .i64 (n:Int))=w10 at p10 l10 f10 ⊢
    clear hW10 d0 d1 df0 df1 hxn hxnB hxnC p6 l6
    have d0:w10.cell? ⟨B,0,none⟩=some (.int .i64 (n:Int)):=(by rw[Lib.cell_of_heap p10];rfl)
    have d1:w10.cell? ⟨B,1,none⟩=some (.int .i64 z):=(by rw[Lib.cell_of_heap p10];rfl)
    have df0:=Lib.frozen_of_heap p10 0
    have df1:=Lib.frozen_of_heap p10 1
    have y0:w10.cell? ⟨F0,0,none⟩=some (.int .i64 0):=(by rw[Lib.cell_of_heap f10];rfl)
    have y1:w10.cell? ⟨F0,1,none⟩=some (.int .i64 0):=(by rw[Lib.cell_of_heap f10];rfl)
    have yf0:=Lib.frozen_of_heap f10 0
    have yf1:=Lib.frozen_of_heap f10 1
    have f11:=ZmD (.int .i64 (n:Int)) (.int .i64 z) f10
    have l11:=ZmB (hB4.trans (l10.mono hB4.size)) (Nat.le_of_eq hw0) (.int .i64 (n:Int)) (.int .i64 z)
    go_region
    have f12:((w10.setCell ⟨F0,0,none⟩ (.int .i64 (n:Int))).setCell ⟨F0,1,none⟩ (.int .i64 z)).drew.heap[F0]?=some (.cells #[.int .i64 (n:Int),.int .i64 z] 29):=f11
    have l12:=l11.drew
    generalize ((w10.setCell ⟨F0,0,none⟩ (.int .i64 (n:Int))).setCell ⟨F0,1,none⟩ (.int .i64 z)).drew=w12 at f12 l12 ⊢
    clear f11 l11 f10 l10 p10 d0 d1 df0 df1 y0 y1 yf0 yf1
    go_wp2
    exact bodyPost_ret (ZqD rfl _ _ F0 29 #[.int .i64 (n:Int),.int .i64 z] (0,0) _ rfl f12 Tryz.underlying29 rfl (by kernel_rfl)) rfl ⟨rfl,g3,l12⟩
theorem ZpT (t:List UInt8) (w:World) (hl:t.length≤1099511627776) (X:Except (Nat × Int) (Int × List Pth)) (HX:Hid (psT atR t=X)) :
  Calls Tryz.prog 9 #[.string ⟨t.toArray⟩] w fun e w'=>RfQ8 w X e w':=by
 by_cases h:1048576<t.length
 ·have hX:=HX.out
  unfold psT at hX
  rw[if_pos h] at hX
  subst hX
  exact ZpU t w h hl
 ·exact ZpV t w (by omega) X HX
end

section
open Go.RowKit Go.Proofs.YtcniomgjikienaaGreatDoor.Tx
open Ln
attribute [local go_sem] Zhc
def CoQ (w:World) (ls:List (List UInt8)) (e:Ending) (w':World):Prop:=∃ xo yo xc yc,e=.returned (.tuple #[.slice yo (ntR ls).length yc,.slice xo (0::atL ls).length xc])∧Sq w (.slice xo (0::atL ls).length xc) (0::atL ls) (.slice yo (ntR ls).length yc) (ntR ls) w'
theorem Zmr (w:World) (B:Nat) (hB:B≤w.heap.size):(w.alloc (.cells #[.int .i64 0] 3)).ownsRow B 3 1 (.slice (some ⟨w.heap.size,0,none⟩) 1 1) 1 (natC [0]):=by
 refine⟨rfl,.inr ⟨_,1,#[.int .i64 0],rfl,hB,_root_.Go.heap_alloc_new w _,Nat.le_refl _,by decide,rfl,rfl⟩⟩
theorem Sq.base {w W u:World} {av rv:Value} {A:List Nat} {R:List (List UInt8)} (h:Sq W av A rv R u) (hb:Below w.heap.size w u) (hs:w.heap.size≤W.heap.size):Sq w av A rv R u:=⟨hb,ZhC h.ats hs,ZhC h.rest hs⟩
theorem ZhO (t:List UInt8) (w:World) (h:t.length≤1099511627776) (ls:List (List UInt8)) (HLs:Hid (splitL t=ls)) :
  Calls Tryz.prog 26 #[.string ⟨t.toArray⟩] w fun e w'=>CoQ w ls e w':=by
 have hsp:=ZgE t w (by omega)
 have hsl:=split_len t
 have HNE:Hid (∀ s∈splitL t,s≠[]):=fun s hs=>ZiJ hs
 rw[HLs.out] at hsp hsl HNE
 clear HLs
 have HA0:Hid (([0]:List Nat)++plR 0 (ls.drop 0)=0::plR 0 ls∧([]:List (List UInt8))++ntR (ls.drop 0)=ntR ls∧([0]:List Nat).length=([]:List (List UInt8)).length+1∧([0]:List Nat).length≤1):=⟨rfl,rfl,rfl,Nat.le_refl _⟩
 have hLl:ls.length≤1099511627776:=by omega
 clear hsl h
 go_enter Tryz.func26,Tryz.ntmps26
 go_wp2_with fail
 refine hsp.mono ?_
 rintro e w1 ⟨v,rfl,hown,hB⟩
 have ha:HS w1 v ls:=Zeo hown
 obtain⟨ao,ac,rfl⟩:=Holds.form ha
 have hS0:Sq w1 (.slice (some ⟨w1.heap.size,0,none⟩) 1 1) [0] (.slice none 0 0) [] (w1.alloc (.cells #[.int .i64 0] 3)):=⟨(Below.refl _ w1).alloc (Nat.le_refl _) _,Zmr w1 _ (Nat.le_refl _),Zen _ _ _ _⟩
 clear hsp hown
 go_wp2
 go_loopw [5,6,14] (fun rv av iv wr=>∃ (k:Nat) (A:List Nat) (R:List (List UInt8)) (xo yo:Option Addr) (xc yc:Nat),k≤ls.length∧av=.slice xo A.length xc∧rv=.slice yo R.length yc∧iv=.int .i64 (k:Int)∧Sq w1 (.slice xo A.length xc) A (.slice yo R.length yc) R wr∧Hid (A++plR k (ls.drop k)=0::plR 0 ls∧R++ntR (ls.drop k)=ntR ls∧A.length=R.length+1∧A.length≤k+1)) (fun _ _ iv _=>ls.length-(intOf iv).toNat)
 case atStart=>exact⟨0,[0],[],_,none,_,0,Nat.zero_le _,rfl,rfl,by go_num,hS0,HA0⟩
 case round =>
 clear hS0 HA0
 obtain⟨k,A,R,xo,yo,xc,yc,hk,rfl,rfl,rfl,hSq,HI⟩:=hrel
 by_cases hlt:k<ls.length
 ·obtain⟨bk,off,rfl,hbk,hc⟩:=HS.at ha (by omega)
  have c0:=(World.cell?_of_block (hSq.low.block bk hbk)).trans (hc k hlt)
  obtain⟨i1,i2,i3,i4⟩:=HI.out
  have hne:=HNE.out ls[k] (List.getElem_mem hlt)
  rw[List.drop_eq_getElem_cons hlt,Zhf] at i2
  rw[List.drop_eq_getElem_cons hlt] at i1
  simp only[plR] at i1
  obtain⟨s,hs⟩:∃ s,ls[k]=s:=⟨_,rfl⟩
  rw[hs] at c0 i1 i2 hne
  obtain⟨b,hb⟩:∃ b,rmkB s=b:=⟨_,rfl⟩
  have hrm:=fun u=>ZhS s hne u b hb
  rw[hb] at i1 i2
  have j1:(0:Int)≤(k:Int):=by omega
  have j2:(k:Int)<(ls.length:Int):=by omega
  have hAl:A.length+1≤4398046511104:=by omega
  have hRl:R.length+1≤4398046511104:=by omega
  clear hc hs hb HI
  cases b with
  | true =>
   rw[if_pos rfl] at i1 i2
   have HI2:Hid (A++plR (k+1) (ls.drop (k+1))=0::plR 0 ls∧R++ntR (ls.drop (k+1))=ntR ls∧A.length=R.length+1∧A.length≤k+1+1):=⟨i1,i2,i3,by omega⟩
   clear i1 i2 i3 i4 hAl hRl
   go_wp2_with fail
   refine (hrm _).mono ?_
   rintro e w2 ⟨rfl,rfl⟩
   clear hrm
   go_wp2
   exact⟨⟨k+1,A,R,xo,yo,xc,yc,by omega,by first | rfl | simp,by first | rfl | simp,by go_num,hSq,HI2⟩,by simp[intOf];omega⟩
  | false =>
   rw[if_neg (by decide)] at i1 i2
   have HI2:Hid ((A++[k+1])++plR (k+1) (ls.drop (k+1))=0::plR 0 ls∧(R++[s])++ntR (ls.drop (k+1))=ntR ls∧(A++[k+1]).length=(R++[s]).length+1∧(A++[k+1]).length≤k+1+1):=⟨by rw[← i1];simp,by rw[← i2];simp,by simp[i3],by simp;omega⟩
   clear i1 i2 i3 i4
   go_wp2_with fail
   refine (hrm _).mono ?_
   rintro e w2 ⟨rfl,rfl⟩
   clear hrm
   have hSb:=hSq.keep ((Below.refl _ wr).alloc (Nat.le_refl _) (.cells #[.string ⟨s.toArray⟩] 9))
   have hzb:=hSb.low.size
   have hob:=hSb.rest
   have hrb:Holds _ _ 1 _:=ZgR wr #[.string ⟨s.toArray⟩] 9 1 1 (by decide)
   go_wp2_with (at_builtin;refine Zmg _ (by kernel_rfl) (.tmp 22) (.tmp 24) 49 9 (.string ⟨#[]⟩) 1 16 rfl Tryz.underlying49 infoStr rfl (by decide) (by decide) w1.heap.size _ _ _ rfl hob _ 1 (scells [s]) rfl hrb rfl (ZjU _) hRl hzb ?_)
   intro v3 u3 ho3 hg3
   have hS3:=hSb.more2 hg3 ho3
   obtain⟨x3,y3,rfl⟩:=(Zeo ho3).form
   clear hSb hzb hob hrb ho3 hg3 c0
   have hSa:=hS3.keep ((Below.refl _ u3).alloc (Nat.le_refl _) (.cells #[.int .i64 ((k:Int)+1)] 3))
   have hza:=hSa.low.size
   have hoa:=hSa.ats
   have hra:Holds _ _ 1 _:=ZgR u3 #[.int .i64 ((k:Int)+1)] 3 1 1 (by decide)
   go_wp2_with (at_builtin;refine Zmg _ (by kernel_rfl) (.tmp 26) (.tmp 29) 55 3 (.int .i64 0) 1 8 rfl Tryz.underlying55 infoInt rfl (by decide) (by decide) w1.heap.size _ _ _ rfl hoa _ 1 (icells [((k+1:Nat):Int)]) rfl hra rfl (Zet _) hAl hza ?_)
   intro v4 u4 ho4 hg4
   have hS4:=hSa.more1 (k:=k+1) hg4 ho4
   obtain⟨x4,y4,rfl⟩:=(Zeo ho4).form
   clear hSa hza hoa hra ho4 hg4 hS3
   go_wp2
   exact⟨⟨k+1,A++[k+1],R++[s],x4,x3,y4,y3,by omega,by rw[List.length_append];rfl,by rw[List.length_append];rfl,by go_num,by rw[List.length_append,List.length_append];exact hS4,HI2⟩,by simp[intOf];omega⟩
 ·have hend:¬ (k:Int)<(ls.length:Int):=by omega
  obtain⟨i1,i2,i3,i4⟩:=HI.out
  rw[List.drop_of_length_le (by omega)] at i1 i2
  have HAe:Hid (A=0::plR 0 ls∧R=ntR ls∧A.length≤k+1):=⟨by simpa [plR] using i1,by simpa [ntR] using i2,i4⟩
  have hAl:A.length+1≤4398046511104:=by omega
  clear HI i1 i2 i3 i4
  have hSa:=hSq.keep ((Below.refl _ wr).alloc (Nat.le_refl _) (.cells #[.int .i64 ((ls.length:Int)+1)] 3))
  have hza:=hSa.low.size
  have hoa:=hSa.ats
  have hra:Holds _ _ 1 _:=ZgR wr #[.int .i64 ((ls.length:Int)+1)] 3 1 1 (by decide)
  go_wp2_with (at_builtin;refine Zmg _ (by kernel_rfl) (.tmp 33) (.tmp 37) 55 3 (.int .i64 0) 1 8 rfl Tryz.underlying55 infoInt rfl (by decide) (by decide) w1.heap.size _ _ _ rfl hoa _ 1 (icells [((ls.length+1:Nat):Int)]) rfl hra rfl (Zet _) hAl hza ?_)
  intro v3 u4 ho3 hg3
  have hS4:=hSa.more1 (k:=ls.length+1) hg3 ho3
  obtain⟨x3,y3,rfl⟩:=(Zeo ho3).form
  clear hSa hza hoa hra ho3 hg3 hSq
  obtain⟨rfl,a2,_⟩:=HAe.out
  obtain rfl:R=ntR ls:=a2
  have e2:(0::plR 0 ls)++[ls.length+1]=0::atL ls:=rfl
  rw[e2] at hS4
  have e3:(0::plR 0 ls).length+1=(0::atL ls).length:=by rw[← e2,List.length_append];rfl
  rw[e3] at hS4 ⊢
  have hS5:=hS4.base (hB.trans (hS4.low.mono hB.size)) hB.size
  clear HAe hend hlt hk hS4
  go_wp2
  go_ret2
  exact⟨_,_,_,_,rfl,hS5⟩
end

section
open Go.RowKit
theorem Zls {P:List (Hk × Value)} {f p:Nat} {r:List (List UInt8)} (h:(decide (P=[]) || pkU atC r)=true):lefU P (f+1) p r=match uhkP P.length p r with
  | .error e=>.error e
  | .ok (x,p1,r1)=>thenX (P.map (·.1)++[x]) (conU f (P.length+1) p1 r1):=by
 unfold lefU
 by_cases hP:P=[]
 ·rw[if_pos hP,Zln,hP]
  rfl
 ·rw[if_neg hP]
  have hk:pkU atC r=true:=by simpa [hP] using h
  unfold conU
  rw[if_pos hk,Zln]
  rfl
theorem Zlu {P:List (Hk × Value)} {f p:Nat} {r:List (List UInt8)} (h:(decide (P=[]) || pkU atC r)=false):lefU P f p r=.ok (P.map (·.1),p,r):=by
 rw[Bool.or_eq_false_iff,decide_eq_false_iff_not] at h
 unfold lefU conU
 rw[if_neg h.1,if_neg (by rw[h.2];decide)]
 simp[thenX]
theorem Zlt {P:List (Hk × Value)} {f p:Nat} {r:List (List UInt8)} (x:Hk) (y:Value):lefU (P++[(x,y)]) f p r=thenX (P.map (·.1)++[x]) (conU f (P.length+1) p r):=by
 unfold lefU
 rw[if_neg (by simp),List.map_append,List.length_append]
 rfl
def PtU (R:Nat) (vL:Value) (X:Except (Nat × Int) (Pth × Nat × List (List UInt8))) (w:World) (e:Ending) (w':World):Prop :=
 match X with
 | .error (a,z)=>Thr (a:Int) z e w'∧w.grownBy w' (some R)
 | .ok (x,p1,_)=>∃ hv P,e=.returned (.agg #[.string ⟨x.old.toArray⟩,.string ⟨x.new.toArray⟩,hv])∧x.hs=P.map (·.1)∧w'.ownsRow w.heap.size 45 5 hv P.length (hkcells P)∧(∀ y∈P,w'.ownsRow w.heap.size 47 2 y.2 y.1.ls.length (mkcells y.1.ls))∧Uk w' R vL (p1:Int)∧w.grownBy w' (some R)
theorem ZlW {w wb u:World} {R S:Nat} {vL hv:Value} {n1 n2:List UInt8} {P:List (Hk × Value)} {p:Nat} (h:Pzu wb R S vL n1 n2 hv P p u) (hG:∀ u,wb.grownBy u (some R)→w.grownBy u (some R)) (hZ:wb.heap[w.heap.size]?=some zpO∧w.heap.size<wb.heap.size∧w.heap.size≠R) :
  (three u w.heap.size n1 n2 hv).heap[w.heap.size]?=some (.cells #[.string ⟨n1.toArray⟩,.string ⟨n2.toArray⟩,hv] 42)∧(three u w.heap.size n1 n2 hv).ownsRow w.heap.size 45 5 hv P.length (hkcells P)∧(∀ y∈P,(three u w.heap.size n1 n2 hv).ownsRow w.heap.size 47 2 y.2 y.1.ls.length (mkcells y.1.ls))∧Uk (three u w.heap.size n1 n2 hv) R vL (p:Int)∧w.grownBy (three u w.heap.size n1 n2 hv) (some R):=by
 obtain⟨h1,h2,h3⟩:=hZ
 have hb:u.heap[w.heap.size]?=some zpO:=(h.gr.block _ h2 (fun e=>h3 (Option.some.inj e))).trans h1
 have hg:u.grownBy (three u w.heap.size n1 n2 hv) (some w.heap.size):=ZdT (ZdT (ZdS u _ 0 _) (ZdS _ _ 1 _)) (ZdS _ _ 2 _)
 refine⟨?_,ZhC (ZhI h.own hg h2) (by omega),fun y hy=>ZhC (ZhI (h.ins y hy) hg h2) (by omega),h.ck.keep hg (fun e=>h3 (Option.some.inj e).symm),?_⟩
 ·have s0:=heap_setCell_same u w.heap.size 0 _ _ (.string ⟨n1.toArray⟩) hb
  have s1:=heap_setCell_same _ w.heap.size 1 _ _ (.string ⟨n2.toArray⟩) s0
  exact heap_setCell_same _ w.heap.size 2 _ _ hv s1
 ·exact ZdR (ZdR (ZdR (hG _ h.gr) (Nat.le_refl _) 0 _) (Nat.le_refl _) 1 _) (Nat.le_refl _) 2 _
theorem ZlH {R:Nat} {L:List (List UInt8)} {lo:Option Addr} {lc:Nat} {p k:Nat} (hk:k≤64) (w:World) (q:Uk w R (.slice lo L.length lc) p) (HL:Hid (∀ u,w.grownBy u (some R)→HS u (.slice lo L.length lc) L)) (HPl:Hid (Plain L)) (hp:p≤L.length) (hLl:L.length≤137438953472) (HSl:Hid (∀ s∈L,s.length≤1099511627)) (hmx:Mxl w) (hR1:1<R)
  (X:Except (Nat × Int) (Pth × Nat × List (List UInt8))) (HX:Hid (patU k p (L.drop p)=X)) :
  Calls Tryz.prog 170 #[.pointer (some ⟨R,0,none⟩),.int .i64 (k:Int)] w fun e w'=>PtU R (.slice lo L.length lc) X w e w':=by
 have HG:Hid (∀ u,(w.alloc zpO).grownBy u (some R)→w.grownBy u (some R)):=fun u hu=>ZdO _ hu
 have hRl:=q.lt
 have HX2:=HX.out
 have hRl1:R<(w.alloc zpO).heap.size:=(by simp;omega)
 have HZ:Hid ((w.alloc zpO).heap[w.heap.size]?=some zpO∧w.heap.size<(w.alloc zpO).heap.size∧w.heap.size≠R):=⟨heap_alloc_new w _,by simp,by omega⟩
 have hP0:Pzu (w.alloc zpO) R (w.heap.size+1) (.slice lo L.length lc) [] [] (.slice none 0 0) [] p ((w.alloc zpO).alloc zpO):=(by
  have hsz:(w.alloc zpO).heap.size=w.heap.size+1:=by simp
  refine⟨World.grownBy_alloc _ _ _,?_,Zen _ _ _ _,fun x hx=>(by cases hx),(q.low ((Below.refl _ w).alloc (Nat.le_refl _) _)).low ((Below.refl _ _).alloc (Nat.le_refl _) _),by omega,hRl1⟩
  rw[← hsz]
  exact heap_alloc_new _ _)
 have hW:(w.alloc (.cells #[.string ⟨#[]⟩,.string ⟨#[]⟩,.slice none 0 0] 42)).alloc (.cells #[.string ⟨#[]⟩,.string ⟨#[]⟩,.slice none 0 0] 42)=(w.alloc zpO).alloc zpO:=rfl
 obtain⟨Y,hY⟩:∃ Y,namP [45,45,45,32] p (L.drop p)=Y:=⟨_,rfl⟩
 unfold patU at HX2
 rw[hY] at HX2
 have hn1:=ZlC [45,45,45,32] rfl _ hP0.ck (HL.out _ (HG.out _ hP0.gr)) hp (by omega) (fun s h=>by have:=HSl.out s h;omega) Y hY
 clear HX q
 generalize hwb:w.alloc zpO=wb at *
 clear hwb
 go_enter Tryz.func170,Tryz.ntmps170
 go_wp2_with fail
 clear hW
 generalize w.heap.size+1=S at hP0 ⊢
 generalize wb.alloc zpO=w0 at hP0 hn1 ⊢
 refine hn1.mono ?_
 clear hn1
 cases Y with
 | error z =>
  obtain⟨a,z⟩:=z
  rintro e w1 ⟨⟨g,rfl,hg⟩,hgr⟩
  have hXe:X=.error (a,z):=HX2.symm
  subst hXe
  go_wp2
  exact⟨rfl,⟨_,rfl,hg⟩,HG.out _ (ZdT hP0.gr hgr)⟩
 | ok z =>
  obtain⟨n1,r1⟩:=z
  rintro e w1 ⟨rfl,hB1⟩
  obtain⟨rfl,hpl⟩:=ZgG hY
  dsimp only at HX2
  have hP1:=hP0.keep hB1
  clear hY hP0 hB1
  obtain⟨c0,c1,c2⟩:=hP1.cells
  have f0:=hP1.frozen 0
  have hP2:=hP1.put 0 (.string ⟨n1.toArray⟩) (m1:=n1) (m2:=[]) (hv':=.slice none 0 0) rfl hP1.own
  clear hP1
  by_cases h64:64≤k
  ·rw[if_pos h64] at HX2
   have hXe:=HX2.symm
   subst hXe
   have e1:((k:Int) == 64)=true:=beq_iff_eq.2 (by omega)
   go_wp2_with fail
   refine (ZlU 9 _ hP2.ck (by omega)).mono ?_
   rintro e w2 ⟨⟨g,rfl,hg⟩,hgr⟩
   go_wp2
   exact⟨rfl,⟨_,rfl,by simpa using hg⟩,HG.out _ (ZdT hP2.gr hgr)⟩
  ·rw[if_neg h64] at HX2
   have e1:((k:Int) == 64)=false:=beq_eq_false_iff_ne.2 (by omega)
   go_upto_region 3 with fail
   clear c0 c1 c2 f0
   generalize w1.setCell ⟨S,0,none⟩ (.string ⟨n1.toArray⟩)=w2 at hP2 ⊢
   obtain⟨d0,d1⟩:=hP2.ck.cells
   have f1:=hP2.ck.frozen 1
   have hP3:=hP2.next
   obtain⟨Y2,hY2⟩:∃ Y,namP [43,43,43,32] (p+1) (L.drop (p+1))=Y:=⟨_,rfl⟩
   rw[hY2] at HX2
   have hn2:=ZlC [43,43,43,32] rfl _ hP3.ck (HL.out _ (HG.out _ hP3.gr)) (by omega) (by omega) (fun s h=>by have:=HSl.out s h;omega) Y2 hY2
   go_wp2_with fail
   refine hn2.mono ?_
   clear hn2 hP2 d0 d1 f1
   cases Y2 with
   | error z =>
    obtain⟨a,z⟩:=z
    rintro e w3 ⟨⟨g,rfl,hg⟩,hgr⟩
    have hXe:X=.error (a,z):=HX2.symm
    subst hXe
    go_wp2
    exact⟨rfl,⟨_,rfl,hg⟩,HG.out _ (ZdT hP3.gr hgr)⟩
   | ok z =>
    obtain⟨n2,r2⟩:=z
    rintro e w3 ⟨rfl,hB3⟩
    obtain⟨rfl,hpl2⟩:=ZgG hY2
    dsimp only at HX2
    have hP4:=hP3.keep hB3
    clear hY2 hP3 hB3
    obtain⟨c0,c1,c2⟩:=hP4.cells
    have f1:=hP4.frozen 1
    have hP5:=hP4.put 1 (.string ⟨n2.toArray⟩) (m1:=n1) (m2:=n2) (hv':=.slice none 0 0) rfl hP4.own
    clear hP4
    go_upto_region 7 with fail
    clear c0 c1 c2 f1
    generalize w3.setCell ⟨S,1,none⟩ (.string ⟨n2.toArray⟩)=w4 at hP5 ⊢
    obtain⟨d0,d1⟩:=hP5.ck.cells
    have f1:=hP5.ck.frozen 1
    have hP6:=hP5.next
    clear hP5
    obtain⟨Y3,hY3⟩:∃ Y,uhsP atC ((L.drop (p+1+1)).length+1) 0 (p+1+1) (L.drop (p+1+1))=Y:=⟨_,rfl⟩
    have HX3:Hid (mkP n1 n2 Y3=X):=(by show _=_;rw[← hY3];exact HX2)
    have HY0:Hid (lefU [] ((L.drop (p+1+1)).length+1) (p+1+1) (L.drop (p+1+1))=Y3):=(by show _=_;unfold lefU;rw[if_pos rfl,List.map_nil,ZkO];exact hY3)
    clear hY3 HX2
    go_wp2
    rw[show (((p+1:Nat):Int)+1)=(p:Int)+1+1 by omega] at hP6
    generalize w4.setCell ⟨R,1,none⟩ (.int .i64 ((p:Int)+1+1))=w5 at hP6 ⊢
    clear d0 d1 f1
    go_loopw [] (fun wr=>∃ (hv:Value) (P:List (Hk × Value)) (p' f:Nat),(∃ o c,hv=.slice o P.length c)∧Pzu wb R S (.slice lo L.length lc) n1 n2 hv P p' wr∧p'≤L.length∧P.length≤4096∧Hid ((L.drop p').length+1≤f)∧Hid (lefU P f p' (L.drop p')=Y3)) (fun wr=>L.length-ukN wr R)
    case atStart=>exact⟨_,[],p+1+1,_,⟨none,0,rfl⟩,hP6,by omega,Nat.zero_le _,Nat.le_refl _,HY0⟩
    case round =>
    clear hP6 HY0
    obtain⟨hv,P,p',f,⟨ho,hc,rfl⟩,hZ,hp',hPl,HF,HI⟩:=hrel
    obtain⟨c0,c1,c2⟩:=hZ.cells
    have hLr:=HL.out _ (HG.out _ hZ.gr)
    have HK:Hid (ukN wr R=p'):=Zlr hZ.ck
    obtain⟨gd,hgd⟩:∃ g,(decide (P=[]) || pkU atC (L.drop p'))=g:=⟨_,rfl⟩
    go_upto_region 8 with fail
    go_cut [37] from 30 to 47 (fun cv wz=>cv=.bool gd∧Pzu wb R S (.slice lo L.length lc) n1 n2 (.slice ho P.length hc) P p' wz)
    case first =>
     by_cases hP0:P=[]
     ·have z1:((P.length:Int) == 0)=true:=(by rw[hP0];rfl)
      have HE:Hid (true=gd):=(by rw[decide_eq_true hP0,Bool.true_or] at hgd;exact hgd)
      clear hP0 hgd
      go_wp2
      go_meet
      case rel=>exact⟨by rw[← HE.out],hZ⟩
     ·have z1:((P.length:Int) == 0)=false:=(by rw[beq_eq_false_iff_ne];intro e;exact hP0 (List.eq_nil_of_length_eq_zero (by omega)))
      have hat:=Zla wr hZ.ck hLr hp' (by omega) gd (show Hid (pkU atC (L.drop p')=gd) by show _=_;rw[← hgd,decide_eq_false hP0,Bool.false_or])
      clear hP0 hgd
      go_wp2_with fail
      refine hat.mono ?_
      rintro e w6 ⟨rfl,nn,rfl⟩
      have hZ2:=hZ.keep (below_drewN (Below.refl _ _) nn)
      go_wp2
      go_meet
      case rel=>exact⟨rfl,hZ2⟩
    case rest =>
    obtain⟨rfl,hZ2⟩:=hcut
    clear hZ c0 c1 c2 hLr
    obtain⟨c0,c1,c2⟩:=hZ2.cells
    have hLr:=HL.out _ (HG.out _ hZ2.gr)
    cases gd with
    | false =>
     have hYe:Y3=.ok (P.map (·.1),p',L.drop p'):=(by rw[← HI.out];exact Zlu hgd)
     have hXe:X=.ok (⟨n1,n2,P.map (·.1)⟩,p',L.drop p'):=(by rw[← HX3.out,hYe];rfl)
     subst hXe
     clear hYe hgd HI HX3 hLr
     obtain⟨y0,y1,y2,yf⟩:=ZkP hZ2.gr HZ.out _ rfl
     obtain⟨fh,fo,fi,fq,fg⟩:=ZlW hZ2 HG.out HZ.out
     have yf0:=yf 0
     have yf1:=yf 1
     have yf2:=yf 2
     clear yf hZ2
     go_wp2
     exact bodyPost_ret (v:=.agg #[.string ⟨n1.toArray⟩,.string ⟨n2.toArray⟩,.slice ho P.length hc]) (results_cell_row rfl _ _ w.heap.size 42 #[.string ⟨n1.toArray⟩,.string ⟨n2.toArray⟩,.slice ho P.length hc] (0,0) _ rfl fh Tryz.underlying42 rfl (by kernel_rfl)) rfl ⟨_,P,rfl,rfl,fo,fi,fq,fg⟩
    | true =>
     have hf0:=HF.out
     obtain⟨f',rfl⟩:∃ f',f=f'+1:=⟨f-1,by omega⟩
     have hgo:=Zls (f:=f') (p:=p') hgd
     rw[HI.out] at hgo
     obtain⟨Yh,hYh⟩:∃ Y,uhkP P.length p' (L.drop p')=Y:=⟨_,rfl⟩
     rw[hYh] at hgo
     have hZd:=hZ2.keep (Below.drew (Below.refl _ _))
     have hch:=Zlo hPl _ hZd.ck (fun u hu=>HL.out u (HG.out _ (ZdT hZd.gr hu))) HPl hp' hLl HSl (hmx.keep (HG.out _ hZd.gr) hR1) Yh hYh
     have HYe:Hid (∀ e,Yh=.error e→X=.error e):=(by
      intro e he
      rw[← HX3.out,hgo,he]
      rfl)
     have HN:Hid (∀ h p2 r,Yh=.ok (h,p2,r)→p2≤L.length∧p'<p2∧Hid ((L.drop p2).length+1≤f')∧P.length<4096∧r=L.drop p2):=(by
      intro h p2 r he
      obtain⟨b1,b2,b3,b4⟩:=Zlh HPl.out (hYh.trans he)
      have:=HF.out
      rw[List.length_drop] at this
      exact⟨b3,b2,(by show _≤_;rw[List.length_drop];omega),b4,b1⟩)
     have HN2:Hid (∀ h p2 r y,Yh=.ok (h,p2,r)→Hid (lefU (P++[(h,y)]) f' p2 (L.drop p2)=Y3)):=(by
      intro h p2 r y he
      show _=_
      rw[Zlt,← (HN.out h p2 r he).2.2.2.2,hgo,he])
     obtain⟨Pn,hPnd⟩:∃ Pn:List PanicEntry→World→Prop,(fun c u=>∃ (g a:Nat) (z:Int),c=[{ v:=.iface 62 (.pointer (some ⟨g,0,none⟩)),recovered:=false }]∧u.heap[g]?=some (fltO (a:Int) z)∧X=.error (a,z)∧w.grownBy u (some R))=Pn:=⟨_,rfl⟩
     obtain⟨Rr,hRr⟩:∃ Rr:Value→World→Prop,(fun v u=>∃ h p2 r vo vc,Yh=.ok (h,p2,r)∧v=hkV h (.slice vo h.ls.length vc)∧Pzu wb R S (.slice lo L.length lc) n1 n2 (.slice ho P.length hc) P p2 u∧u.ownsRow wb.heap.size 47 2 (.slice vo h.ls.length vc) h.ls.length (mkcells h.ls))=Rr:=⟨_,rfl⟩
     have hcall:Calls Tryz.prog 206 (#[.pointer (some ⟨R,0,none⟩),.int .i64 (P.length:Int)]++#[]) wc.drew fun e w'=>(∃ v,e=.returned v∧True∧Rr v w')∨(∃ c,e=.panicked c∧Pn c w'):=(by
      refine hch.mono ?_
      intro e w' hq
      rw[← hPnd,← hRr]
      cases Yh with
      | error z =>
       obtain⟨a,z⟩:=z
       obtain⟨⟨g,rfl,hg⟩,hgr⟩:=hq
       exact .inr ⟨_,rfl,g,a,z,rfl,hg,HYe.out _ rfl,HG.out _ (ZdT hZd.gr hgr)⟩
      | ok z =>
       obtain⟨h,p2,r⟩:=z
       obtain⟨v',rfl,hown,q,hgr⟩:=hq
       obtain⟨vo,vc,rfl⟩:=(Zeo hown).form
       exact .inl ⟨_,rfl,trivial,h,p2,r,vo,vc,rfl,rfl,hZd.call hgr q,ZhC hown hZd.gr.size⟩)
     have HRr:Hid (_=Rr):=hRr
     have HPd:Hid (_=Pn):=hPnd
     clear hRr hPnd hch hgo hYh HI hgd hLr
     go_upto_region 9 with fail
     clear c0 c1 c2
     refine wp_region_held_drew (S:=fun _=>True) (by kernel_rfl) trivial (fun _=>?_)
     generalize wc.drew=wd at hZd hcall ⊢
     have c2d:=hZd.cells.2.2
     refine Y_t 0 38 _ (.pointer (some ⟨S,2,none⟩)) rfl (Or.inl ⟨by kernel_rfl,fun u hu=>by kernel_rfl⟩) trivial ?_
     simp only[Act.put,Y_a,Y_b,Y_c]
     refine Y_t 2 40 _ (.pointer (some ⟨R,0,none⟩)) rfl (Or.inl ⟨by kernel_rfl,fun u hu=>by kernel_rfl⟩) trivial ?_
     simp only[Act.put,Y_a,Y_b,Y_c]
     refine Y_t 3 41 _ (.pointer (some ⟨S,2,none⟩)) rfl (Or.inl ⟨by kernel_rfl,fun u hu=>by kernel_rfl⟩) trivial ?_
     simp only[Act.put,Y_a,Y_b,Y_c]
     refine ZdJ 1 39 _ 4 42 _ rfl (by kernel_rfl) rfl (by kernel_rfl) (by kernel_rfl) (by kernel_rfl) (by kernel_rfl) (.slice ho P.length hc) wd (ZfJ c2d (.tmp 38) (by kernel_rfl) (by kernel_rfl)) trivial (.slice ho P.length hc) wd (ZfJ c2d (.tmp 41) (by kernel_rfl) (by kernel_rfl)) trivial ?_ ?_
     ·simp only[Act.put,Y_a,Y_b,Y_c]
      refine Y_v 4 42 _ rfl (.slice ho P.length hc) wd (ZfJ c2d (.tmp 41) (by kernel_rfl) (by kernel_rfl)) trivial ?_
      simp only[Act.put,Y_a,Y_b,Y_c]
      refine Y_t 5 43 _ (.int .i64 (P.length:Int)) rfl (Or.inl ⟨by kernel_rfl,fun u hu=>by kernel_rfl⟩) trivial ?_
      simp only[Act.put,Y_a,Y_b,Y_c]
      refine ZdF 6 44 _ rfl (by kernel_rfl) (by kernel_rfl) (by kernel_rfl) 206 (.func 206) #[.tmp 40,.tmp 43] #[264,3] (by kernel_rfl) #[] (by kernel_rfl) #[.pointer (some ⟨R,0,none⟩),.int .i64 (P.length:Int)] (by kernel_rfl) (enters_of Tryz.func206 (by kernel_rfl) rfl) Rr Pn (fun c u h=>by rw[← HPd.out] at h;obtain⟨g,a,z,rfl,hg,hXe,hgr⟩:=h;subst hXe;exact⟨rfl,⟨_,rfl,hg⟩,hgr⟩) ?_ ?_
      ·exact hcall
      intro v0 u1 _ hq
      rw[← HRr.out] at hq
      obtain⟨h,p2,r,vo,vc,hk2,rfl,hR1,hown1⟩:=hq
      have c1u:=hR1.cells.2.2
      have hRA:=hR1.keep ((Below.refl _ u1).alloc (Nat.le_refl _) (hkO h (.slice vo h.ls.length vc)))
      have c2u:=hRA.cells.2.2
      simp only[Act.put,Y_a,Y_b,Y_c]
      refine Y_v 7 45 _ rfl (.slice (some ⟨u1.heap.size,0,none⟩) 1 1) (u1.alloc (hkO h (.slice vo h.ls.length vc))) (by kernel_rfl) trivial ?_
      simp only[Act.put,Y_a,Y_b,Y_c]
      have hlt2:=HN.out h p2 r hk2
      have hownA:=hown1.alloc (hkO h (.slice vo h.ls.length vc))
      obtain⟨v3,u3,hr3,hown3,hg3,_⟩:=ZjJ (u1.alloc (hkO h (.slice vo h.ls.length vc))) 40 45 40 (.agg #[.int .i64 0,.int .i64 0,.int .i64 0,.int .i64 0,.slice none 0 0]) 5 56 Tryz.underlying40 infoHk rfl (by decide) (by decide) wb.heap.size _ _ _ hRA.own _ 1 (hkC h (.slice vo h.ls.length vc)) (Zhz u1 h (.slice vo h.ls.length vc)) rfl (fun u hu=>by simp[hkC] at hu;rcases hu with rfl | rfl | rfl | rfl | rfl<;>rfl) (by omega) hRA.gr.size
      have hR3:=hRA.more hownA hg3 hown3
      obtain⟨o3,k3,rfl⟩:=(Zeo hown3).form
      refine Y_v 8 46 _ rfl (.slice o3 (P.length+1) k3) u3 (ZcT (.tmp 39) (.tmp 45) (by kernel_rfl) (by kernel_rfl) (by kernel_rfl) hr3) trivial ?_
      simp only[Act.put,Y_a,Y_b,Y_c]
      refine Y_t 9 47 _ (.pointer (some ⟨S,2,none⟩)) rfl (Or.inl ⟨by kernel_rfl,fun u hu=>by kernel_rfl⟩) trivial ?_
      simp only[Act.put,Y_a,Y_b,Y_c]
      refine Y_s 10 _ rfl (u3.setCell ⟨S,2,none⟩ (.slice o3 (P.length+1) k3)) (ZcZ hR3.2.1 hR3.2.2 (.tmp 47) (.tmp 46) (by kernel_rfl) (by kernel_rfl) (by kernel_rfl)) trivial ?_
      refine wpAnyH_done (by kernel_rfl) ?_ _
      have hR4:=hR3.1
      go_wp2
      refine⟨⟨_,P++[(h,.slice vo h.ls.length vc)],p2,f',⟨o3,k3,by rw[List.length_append];rfl⟩,hR4,hlt2.1,by rw[List.length_append];simp;omega,hlt2.2.2.1,HN2.out h p2 r _ hk2⟩,?_⟩
      rw[Zlr hR4.ck,HK.out]
      omega
     ·simp only[Act.put,Y_a,Y_b,Y_c]
      refine Y_t 5 43 _ (.int .i64 (P.length:Int)) rfl (Or.inl ⟨by kernel_rfl,fun u hu=>by kernel_rfl⟩) trivial ?_
      simp only[Act.put,Y_a,Y_b,Y_c]
      refine ZdM 1 39 _ 6 44 _ rfl (by kernel_rfl) rfl (by kernel_rfl) (by kernel_rfl) (by kernel_rfl) (by kernel_rfl) (.slice ho P.length hc) wd (ZfJ c2d (.tmp 38) (by kernel_rfl) (by kernel_rfl)) trivial 206 (.func 206) #[.tmp 40,.tmp 43] #[264,3] (by kernel_rfl) #[] (by kernel_rfl) #[.pointer (some ⟨R,0,none⟩),.int .i64 (P.length:Int)] (by kernel_rfl) (enters_of Tryz.func206 (by kernel_rfl) rfl) Rr Pn (fun c u h=>by rw[← HPd.out] at h;obtain⟨g,a,z,rfl,hg,hXe,hgr⟩:=h;subst hXe;exact⟨rfl,⟨_,rfl,hg⟩,hgr⟩) ?_ ?_ ?_
      ·exact hcall
      ·simp only[Act.put,Y_a,Y_b,Y_c]
       refine ZdF 6 44 _ rfl (by kernel_rfl) (by kernel_rfl) (by kernel_rfl) 206 (.func 206) #[.tmp 40,.tmp 43] #[264,3] (by kernel_rfl) #[] (by kernel_rfl) #[.pointer (some ⟨R,0,none⟩),.int .i64 (P.length:Int)] (by kernel_rfl) (enters_of Tryz.func206 (by kernel_rfl) rfl) Rr Pn (fun c u h=>by rw[← HPd.out] at h;obtain⟨g,a,z,rfl,hg,hXe,hgr⟩:=h;subst hXe;exact⟨rfl,⟨_,rfl,hg⟩,hgr⟩) ?_ ?_
       ·exact hcall
       intro v0 u1 _ hq
       rw[← HRr.out] at hq
       obtain⟨h,p2,r,vo,vc,hk2,rfl,hR1,hown1⟩:=hq
       have c1u:=hR1.cells.2.2
       have hRA:=hR1.keep ((Below.refl _ u1).alloc (Nat.le_refl _) (hkO h (.slice vo h.ls.length vc)))
       have c2u:=hRA.cells.2.2
       simp only[Act.put,Y_a,Y_b,Y_c]
       refine Y_v 7 45 _ rfl (.slice (some ⟨u1.heap.size,0,none⟩) 1 1) (u1.alloc (hkO h (.slice vo h.ls.length vc))) (by kernel_rfl) trivial ?_
       simp only[Act.put,Y_a,Y_b,Y_c]
       have hlt2:=HN.out h p2 r hk2
       have hownA:=hown1.alloc (hkO h (.slice vo h.ls.length vc))
       obtain⟨v3,u3,hr3,hown3,hg3,_⟩:=ZjJ (u1.alloc (hkO h (.slice vo h.ls.length vc))) 40 45 40 (.agg #[.int .i64 0,.int .i64 0,.int .i64 0,.int .i64 0,.slice none 0 0]) 5 56 Tryz.underlying40 infoHk rfl (by decide) (by decide) wb.heap.size _ _ _ hRA.own _ 1 (hkC h (.slice vo h.ls.length vc)) (Zhz u1 h (.slice vo h.ls.length vc)) rfl (fun u hu=>by simp[hkC] at hu;rcases hu with rfl | rfl | rfl | rfl | rfl<;>rfl) (by omega) hRA.gr.size
       have hR3:=hRA.more hownA hg3 hown3
       obtain⟨o3,k3,rfl⟩:=(Zeo hown3).form
       refine Y_v 8 46 _ rfl (.slice o3 (P.length+1) k3) u3 (ZcT (.tmp 39) (.tmp 45) (by kernel_rfl) (by kernel_rfl) (by kernel_rfl) hr3) trivial ?_
       simp only[Act.put,Y_a,Y_b,Y_c]
       refine Y_t 9 47 _ (.pointer (some ⟨S,2,none⟩)) rfl (Or.inl ⟨by kernel_rfl,fun u hu=>by kernel_rfl⟩) trivial ?_
       simp only[Act.put,Y_a,Y_b,Y_c]
       refine Y_s 10 _ rfl (u3.setCell ⟨S,2,none⟩ (.slice o3 (P.length+1) k3)) (ZcZ hR3.2.1 hR3.2.2 (.tmp 47) (.tmp 46) (by kernel_rfl) (by kernel_rfl) (by kernel_rfl)) trivial ?_
       refine wpAnyH_done (by kernel_rfl) ?_ _
       have hR4:=hR3.1
       go_wp2
       refine⟨⟨_,P++[(h,.slice vo h.ls.length vc)],p2,f',⟨o3,k3,by rw[List.length_append];rfl⟩,hR4,hlt2.1,by rw[List.length_append];simp;omega,hlt2.2.2.1,HN2.out h p2 r _ hk2⟩,?_⟩
       rw[Zlr hR4.ck,HK.out]
       omega
      ·intro v0 u1 _ hq
       rw[← HRr.out] at hq
       obtain⟨h,p2,r,vo,vc,hk2,rfl,hR1,hown1⟩:=hq
       have c1u:=hR1.cells.2.2
       have hRA:=hR1.keep ((Below.refl _ u1).alloc (Nat.le_refl _) (hkO h (.slice vo h.ls.length vc)))
       have c2u:=hRA.cells.2.2
       simp only[Act.put,Y_a,Y_b,Y_c]
       refine ZdJ 1 39 _ 7 45 _ rfl (by kernel_rfl) rfl (by kernel_rfl) (by kernel_rfl) (by kernel_rfl) (by kernel_rfl) (.slice ho P.length hc) u1 (ZfJ c1u (.tmp 38) (by kernel_rfl) (by kernel_rfl)) trivial (.slice (some ⟨u1.heap.size,0,none⟩) 1 1) (u1.alloc (hkO h (.slice vo h.ls.length vc))) (by kernel_rfl) trivial ?_ ?_
       ·simp only[Act.put,Y_a,Y_b,Y_c]
        refine Y_v 7 45 _ rfl (.slice (some ⟨u1.heap.size,0,none⟩) 1 1) (u1.alloc (hkO h (.slice vo h.ls.length vc))) (by kernel_rfl) trivial ?_
        simp only[Act.put,Y_a,Y_b,Y_c]
        have hlt2:=HN.out h p2 r hk2
        have hownA:=hown1.alloc (hkO h (.slice vo h.ls.length vc))
        obtain⟨v3,u3,hr3,hown3,hg3,_⟩:=ZjJ (u1.alloc (hkO h (.slice vo h.ls.length vc))) 40 45 40 (.agg #[.int .i64 0,.int .i64 0,.int .i64 0,.int .i64 0,.slice none 0 0]) 5 56 Tryz.underlying40 infoHk rfl (by decide) (by decide) wb.heap.size _ _ _ hRA.own _ 1 (hkC h (.slice vo h.ls.length vc)) (Zhz u1 h (.slice vo h.ls.length vc)) rfl (fun u hu=>by simp[hkC] at hu;rcases hu with rfl | rfl | rfl | rfl | rfl<;>rfl) (by omega) hRA.gr.size
        have hR3:=hRA.more hownA hg3 hown3
        obtain⟨o3,k3,rfl⟩:=(Zeo hown3).form
        refine Y_v 8 46 _ rfl (.slice o3 (P.length+1) k3) u3 (ZcT (.tmp 39) (.tmp 45) (by kernel_rfl) (by kernel_rfl) (by kernel_rfl) hr3) trivial ?_
        simp only[Act.put,Y_a,Y_b,Y_c]
        refine Y_t 9 47 _ (.pointer (some ⟨S,2,none⟩)) rfl (Or.inl ⟨by kernel_rfl,fun u hu=>by kernel_rfl⟩) trivial ?_
        simp only[Act.put,Y_a,Y_b,Y_c]
        refine Y_s 10 _ rfl (u3.setCell ⟨S,2,none⟩ (.slice o3 (P.length+1) k3)) (ZcZ hR3.2.1 hR3.2.2 (.tmp 47) (.tmp 46) (by kernel_rfl) (by kernel_rfl) (by kernel_rfl)) trivial ?_
        refine wpAnyH_done (by kernel_rfl) ?_ _
        have hR4:=hR3.1
        go_wp2
        refine⟨⟨_,P++[(h,.slice vo h.ls.length vc)],p2,f',⟨o3,k3,by rw[List.length_append];rfl⟩,hR4,hlt2.1,by rw[List.length_append];simp;omega,hlt2.2.2.1,HN2.out h p2 r _ hk2⟩,?_⟩
        rw[Zlr hR4.ck,HK.out]
        omega
       ·simp only[Act.put,Y_a,Y_b,Y_c]
        refine Y_v 1 39 _ rfl (.slice ho P.length hc) (u1.alloc (hkO h (.slice vo h.ls.length vc))) (ZfJ c2u (.tmp 38) (by kernel_rfl) (by kernel_rfl)) trivial ?_
        simp only[Act.put,Y_a,Y_b,Y_c]
        have hlt2:=HN.out h p2 r hk2
        have hownA:=hown1.alloc (hkO h (.slice vo h.ls.length vc))
        obtain⟨v3,u3,hr3,hown3,hg3,_⟩:=ZjJ (u1.alloc (hkO h (.slice vo h.ls.length vc))) 40 45 40 (.agg #[.int .i64 0,.int .i64 0,.int .i64 0,.int .i64 0,.slice none 0 0]) 5 56 Tryz.underlying40 infoHk rfl (by decide) (by decide) wb.heap.size _ _ _ hRA.own _ 1 (hkC h (.slice vo h.ls.length vc)) (Zhz u1 h (.slice vo h.ls.length vc)) rfl (fun u hu=>by simp[hkC] at hu;rcases hu with rfl | rfl | rfl | rfl | rfl<;>rfl) (by omega) hRA.gr.size
        have hR3:=hRA.more hownA hg3 hown3
        obtain⟨o3,k3,rfl⟩:=(Zeo hown3).form
        refine Y_v 8 46 _ rfl (.slice o3 (P.length+1) k3) u3 (ZcT (.tmp 39) (.tmp 45) (by kernel_rfl) (by kernel_rfl) (by kernel_rfl) hr3) trivial ?_
        simp only[Act.put,Y_a,Y_b,Y_c]
        refine Y_t 9 47 _ (.pointer (some ⟨S,2,none⟩)) rfl (Or.inl ⟨by kernel_rfl,fun u hu=>by kernel_rfl⟩) trivial ?_
        simp only[Act.put,Y_a,Y_b,Y_c]
        refine Y_s 10 _ rfl (u3.setCell ⟨S,2,none⟩ (.slice o3 (P.length+1) k3)) (ZcZ hR3.2.1 hR3.2.2 (.tmp 47) (.tmp 46) (by kernel_rfl) (by kernel_rfl) (by kernel_rfl)) trivial ?_
        refine wpAnyH_done (by kernel_rfl) ?_ _
        have hR4:=hR3.1
        go_wp2
        refine⟨⟨_,P++[(h,.slice vo h.ls.length vc)],p2,f',⟨o3,k3,by rw[List.length_append];rfl⟩,hR4,hlt2.1,by rw[List.length_append];simp;omega,hlt2.2.2.1,HN2.out h p2 r _ hk2⟩,?_⟩
        rw[Zlr hR4.ck,HK.out]
        omega
end

end Go.Proofs.YtcniomgjikienaaGreatDoor
