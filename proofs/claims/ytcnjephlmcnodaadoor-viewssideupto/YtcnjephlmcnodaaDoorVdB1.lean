/-
  Texts that belong together, joined: EdOpenS.
-/
import Derived.Test.YtcnjephlmcnodaaDoorVdA2

set_option maxHeartbeats 16000000
set_option maxRecDepth 100000
namespace Go.Proofs.YtcnjephlmcnodaaDoor

section
open Go.ChangeShapes Go.WideShapes Go.ChangeAt Go.RowKit
theorem cellsStr:Tryd.prog.cellsOf 9=1:=by kernel_rfl
theorem ZdJ {H:Type} (l:List ByteArray):l.length+(l.map fun s=>s.data.toList).flatten.length≤Rows.uptoBulkAll (strs (H:=H) l):=by
 induction l with
 | nil=>simp[strs,Rows.uptoBulkAll]
 | cons s t ih =>
  have e:strs (H:=H) (s::t)=.lit (.string s.data.toList)::strs t:=rfl
  rw[e,Rows.uptoBulkAll,Rows.uptoBulk]
  simp only[List.length_cons,List.map_cons,List.flatten_cons,List.length_append] at ih ⊢
  omega
theorem ZcK {H:Type} {enc:TypeId × Value→H} {W:World} {fuel:Nat} {ao:Option Addr} {len cap:Nat} {d:DataW H} {p:List MemPlace}
  (h:DataW.trod enc Tryd.prog W 0 (fun _=>true) true fuel 23 [.slice ao len cap]=some (d,p)) :
  ∃ ws:List (List UInt8),HS W (.slice ao len cap) ws∧ws.length+ws.flatten.length≤Rows.uptoBulk d:=by
 rcases open_strings Tryd.underlying23 Tryd.underlying9 cellsStr h with ⟨hcs,hx⟩ | ⟨a,l,c,ss,hcs,_,hl,hm,hz,hx,hcell,_⟩
 ·simp at hcs
  obtain⟨rfl,rfl,rfl⟩:=hcs
  exact⟨[],.inl ⟨rfl,rfl,rfl⟩,by simp⟩
 ·simp at hcs
  obtain⟨rfl,rfl,rfl⟩:=hcs
  simp at hz
  simp only[Prod.mk.injEq] at hx
  obtain⟨rfl,_⟩:=hx
  have hlen:((ss.take len).map fun s=>s.data.toList).length=len:=by simp;omega
  refine⟨(ss.take len).map fun s=>s.data.toList,.inr ⟨a,cap,by rw[hlen],by omega,fun j u hj=>?_⟩,?_⟩
  ·have hj':j<len:=by
    have:=(List.getElem?_eq_some_iff.1 hj).1
    rw[Zds,hlen] at this
    exact this
   rw[hcell j (by omega)]
   have hjs:j<ss.length:=by omega
   simp[scells,hj',hjs] at hj
   simp[List.getD,hjs,← hj]
  ·have:=ZdJ (H:=H) (ss.take len)
   rw[Rows.uptoBulk]
   simp only[List.length_map] at this ⊢
   omega
end

end Go.Proofs.YtcnjephlmcnodaaDoor
