/-
  Texts that belong together, joined: EdOpenS, EfAp.
-/
import Derived.Test.YtkiaenncemfkcaaGreatDoorRcsA7
import Derived.ProofKit

set_option maxHeartbeats 16000000
set_option maxRecDepth 100000
namespace Go.Proofs.YtkiaenncemfkcaaGreatDoor

section
open Go.ChangeShapes Go.WideShapes Go.ChangeAt Go.RowKit
end

section
open Go.RowKit
theorem ZgJ (w:World) (T E ty:TypeId) (z:Value) (size bytes:Nat) (hT:Tryz.prog.underlying T=some (.slice E)) (hinfo:(Tryz.prog.info? E).map (fun i=>(i.zero,i.size,i.bytes))=some (some z,size,bytes)) (hz1:z.cells.size=size) (hsz:0<size) (hby:bytes≤64)
  (base:Nat) (v:Value) (k:Nat) (xs:List Value) (hown:w.ownsRow base E size v k xs) (vx:Value) (m:Nat) (news:List Value) (hh:Holds w vx m news) (hl:news.length=m * size)
  (h1:∀ u∈news,u.oneCell'=true) (hk:k+m≤2199023255552) (hbase:base≤w.heap.size) :
  ∃ v' w',(Builtin.append_ #[T,T] ty #[v,vx]).run Tryz.prog w=.ok v' w'∧w'.ownsRow base E size v' (k+m) (xs++news)∧w.grownBy w' v.ownBlock∧(v'.ownBlock=v.ownBlock∨v'.ownBlock=some w.heap.size):=by
 obtain⟨i0,hi0,hz0,hzs,hz2⟩:=info_parts hinfo
 rcases hh with ⟨rfl,rfl,rfl⟩ | ⟨ad,c,rfl,_,hc⟩
 ·exact⟨v,w,run_append_owned_none (P:=Tryz.prog) (w:=w) base T ty E i0 size hT hi0 v k xs hown,by simpa using hown,World.grownBy.refl _ _,.inl rfl⟩
 ·obtain⟨v',w',hr,h2,h3,_,h5⟩:=run_append_own_at (P:=Tryz.prog) w base T ty E i0 z size bytes hT hi0 hz0 hzs hz2 hz1 hsz v k xs hown ad m c news hl hc h1 (by unfold maxLen;omega) (by
   have:(k+m) * bytes≤(k+m) * 64:=Nat.mul_le_mul_left _ hby
   omega) hbase
  exact⟨v',w',hr,h2,h3,h5⟩
theorem ZBB {ops:Array Oper} {rest:List Oper} {o:Oper} {a:Act} {Q:Exit→Act→World→Prop} (w:World) (hw:Region.wanted o (yielded ops a.tmps)=true) (s x:Operand) (T E:TypeId) (z:Value) (size bytes:Nat)
  (ho:o.op=.call { callee:=.builtin .append,args:=#[s,x],argTypes:=#[T,T] }) (hT:Tryz.prog.underlying T=some (.slice E)) (hinfo:(Tryz.prog.info? E).map (fun i=>(i.zero,i.size,i.bytes))=some (some z,size,bytes)) (hz1:z.cells.size=size) (hsz:0<size) (hby:bytes≤64)
  (base:Nat) (v:Value) (k:Nat) (xs:List Value) (hs:a.eval s=v) (hown:w.ownsRow base E size v k xs) (vx:Value) (m:Nat) (news:List Value) (hx:a.eval x=vx) (hh:Holds w vx m news) (hl:news.length=m * size)
  (h1:∀ u∈news,u.oneCell'=true) (hk:k+m≤2199023255552) (hbase:base≤w.heap.size)
  (h:∀ v' w',w'.ownsRow base E size v' (k+m) (xs++news)→w.grownBy w' v.ownBlock→(v'.ownBlock=v.ownBlock∨v'.ownBlock=some w.heap.size)→wpList Tryz.prog ops Q rest (a.put o.dst v') w'):wpList Tryz.prog ops Q (o::rest) a w:=by
 refine wpList_step fun K hK=>?_
 rw[if_pos hw]
 obtain⟨v',w',hr,h2,h3,h4⟩:=ZgJ w T E o.type z size bytes hT hinfo hz1 hsz hby base v k xs hown vx m news hh hl h1 hk hbase
 unfold Oper.wp
 simp[execOp,ho,resolve,invoke,builtin,hs,hx,hr,Result.andThen]
 exact hK _ _ (h v' w' h2 h3 h4)
end

end Go.Proofs.YtkiaenncemfkcaaGreatDoor
