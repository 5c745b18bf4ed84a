/-
  Texts that belong together, joined: HuZl, NpB, CxB.
-/
import Derived.Test.YtgiojkhmkeocfaaGreatDoorCtmtBA19
import Derived.Test.YtgiojkhmkeocfaaGreatDoorCtmtBA3
import Derived.Test.YtgiojkhmkeocfaaGreatDoorCtmtBA11
import Derived.Test.YtgiojkhmkeocfaaGreatDoorCtmtBA5
import Derived.Deep.CutRange
import Derived.Test.YtgiojkhmkeocfaaGreatDoorCtmtBA12
import Derived.Test.YtgiojkhmkeocfaaGreatDoorCtmtBA13

set_option maxHeartbeats 16000000
set_option maxRecDepth 100000
namespace Go.Proofs.YtgiojkhmkeocfaaGreatDoor

section
open Go.RowKit
theorem eng_hun (k:Int) (a b:List (List UInt8)) (ha:a.length≤4096) (hb:b.length≤4096) {L:List Ch} (hL:mkL (eng k (clx ig0 a b) (cly ig0 a b)) b.length=L):Script L a.length b.length∧(∀ r∈U 0 0 a.length b.length L,a[r.a.toNat]?=b[r.b.toNat]?)∧L.length≤a.length+1:=by
 have hK:=eng_kpt k (clx ig0 a b) (cly ig0 a b)
 have hLl:=mk_many (eng k (clx ig0 a b) (cly ig0 a b)) b.length
 rw[hK.len,clx_length,hL] at hLl
 generalize eng k (clx ig0 a b) (cly ig0 a b)=K at hK hL
 have hv:=hK.vk
 rw[cly_length] at hv
 obtain⟨h1,h2⟩:=mk_script hv (by omega) (by omega) (by rw[hK.len,clx_length];omega)
 rw[hK.len,clx_length] at h1 h2
 rw[hL] at h1 h2
 refine⟨h1,?_,hLl⟩
 intro r hr
 have hbd:=h1.2.2.bounds r hr
 rw[h2] at hr
 obtain⟨_,_,h4,h5⟩:=mem_keptR.1 hr
 rw[Int.sub_zero] at h4
 have h6:=hK.eqs r.a.toNat r.b.toNat (by rw[h4];congr 1;omega)
 have hi:r.a.toNat<a.length:=by omega
 have hj:r.b.toNat<b.length:=by omega
 rw[cl_at ig0 a b hi hj,canon0,canon0] at h6
 rw[List.getElem?_eq_getElem hi,List.getElem?_eq_getElem hj,h6]
theorem ctx_of (k:Int) (m:Int) (h0:0<m) (h1:m≤100):∃ c,wrap64 ((IntKind.u64.wrap k).tmod m)=c∧0≤c∧c<m:=by
 refine⟨_,rfl,?_⟩
 have h:0≤IntKind.u64.wrap k:=by simp[IntKind.wrap,IntKind.bits,IntKind.signed];omega
 generalize IntKind.u64.wrap k=z at h ⊢
 rw[Int.tmod_eq_emod_of_nonneg h]
 have h2:=Int.emod_nonneg z (by omega:m≠0)
 have h3:=Int.emod_lt_of_pos z h0
 unfold wrap64
 omega
theorem made_len {l:List Ch} {a b:List (List UInt8)} {ctx:Int} (hs:Script l a.length b.length) (hc:0≤ctx∧ctx≤100):(mkR l a b ctx).length≤l.length∧∀ h∈mkR l a b ctx,h.ls.length≤a.length+b.length∧∀ m∈h.ls,m.tx∈a∨m.tx∈b:=by
 rw[(mkR_eq hs hc).1]
 refine⟨?_,?_⟩
 ·rw[List.length_map]
  have hf:=congrArg List.length (grp_flatten ctx l)
  have key:∀ G:List (List Ch),(∀ g∈G,g≠[])→G.length≤G.flatten.length:=by
   intro G
   induction G with
   | nil=>intro _;simp
   | cons g G ih =>
    intro h
    have h1:=ih fun x hx=>h x (by simp[hx])
    have h2:0<g.length:=List.length_pos_iff.2 (h g (by simp))
    simp only[List.flatten_cons,List.length_append,List.length_cons]
    omega
  have:=key _ (grp_ne ctx l)
  omega
 ·intro h hh
  obtain⟨g,hg,rfl⟩:=List.mem_map.1 hh
  obtain⟨pre,post,he⟩:=List.append_of_mem hg
  cases g with
  | nil=>exact absurd rfl (grp_ne ctx l [] hg)
  | cons f g=>exact⟨(script_at hc.1 hs he).2.2.2,fun m hm=>(mem_body _ _ m hm).2⟩
theorem made_ok {l:List Ch} {a b:List (List UInt8)} {ctx:Int} {P:List (Hk × Value)} (hs:Script l a.length b.length) (hc:0≤ctx∧ctx≤100) (hl:l.length≤1099511627776) (hab:a.length+b.length≤1099511627776) (hla:∀ t∈a,t.length≤137438953472) (hlb:∀ t∈b,t.length≤137438953472) (hP:P.map (·.1)=mkR l a b ctx):HOk P:=by
 obtain⟨h1,h2⟩:=made_len hs hc
 refine⟨?_,fun x hx=>?_⟩
 ·have:=congrArg List.length hP
  simp at this
  omega
 ·obtain⟨h3,h4⟩:=h2 x.1 (by rw[← hP];exact List.mem_map_of_mem hx)
  refine⟨by omega,fun m hm=>?_⟩
  rcases h4 m hm with h | h
  ·have:=hla _ h
   omega
  ·have:=hlb _ h
   omega
end

section
open Ln
theorem ntot_le {l:List Hk} {M:Nat} (h:∀ x∈l,x.ls.length≤M):tot l≤l.length * M:=by
 induction l with
 | nil=>simp[tot]
 | cons x l ih =>
  have h1:=h x (by simp)
  have h2:=ih fun y hy=>h y (by simp[hy])
  simp only[tot,List.length_cons,Nat.add_mul]
  omega
theorem check_abl {a:List (List UInt8)} (h:checkB a=true):abl a=true:=by
 induction a with
 | nil=>rfl
 | cons s t ih =>
  simp only[checkB,Bool.and_eq_true] at h
  simp only[abl,Bool.and_eq_true,Bool.or_eq_true]
  refine⟨?_,ih h.2⟩
  cases t with
  | nil=>exact .inl rfl
  | cons u t =>
   right
   obtain⟨x,rfl,_⟩:=lineB_false h.1
   simp[fdB]
theorem check_lin {a:List (List UInt8)} (h:checkB a=true):∀ s∈a,s≠[]∧inn s=false:=by
 intro s hs
 have h1:=rows_lin (rows_of h) s hs
 unfold linB at h1
 simp only[Bool.and_eq_true,Bool.not_eq_true',List.all_eq_true,bne_iff_ne] at h1
 refine⟨by rintro rfl;simp at h1,?_⟩
 simp only[inn,List.any_eq_false]
 intro c hc
 simpa using h1.2 c hc
theorem split_inj {s t:List UInt8} (h:splitL s=splitL t):s=t:=by rw[← split_join s,← split_join t,h]
structure Bk (s t:List UInt8) (L:List Ch):Prop where
 scr:Script L (splitL s).length (splitL t).length
 few:L.length≤(splitL s).length+1
 rd:prsT (prtT L (splitL s) (splitL t))=if 1048576<(prtT L (splitL s) (splitL t)).length then .error (0,9) else .ok (mkR L (splitL s) (splitL t) 0)
 ord:ordH (mkR L (splitL s) (splitL t) 0)=0
 chs:chR (mkR L (splitL s) (splitL t) 0)=L
 tot:tot (mkR L (splitL s) (splitL t) 0)≤1099511627776
 grp:grpE L (splitL s).length (splitL t).length 0=0
 nil:L=[]↔s=t
 len:(prtT L (splitL s) (splitL t)).length≤100000+s.length+t.length
theorem bk_of (K:Int) (s t:List UInt8) (hx:(splitL s).length≤200) (hy:(splitL t).length≤200) {L:List Ch} (hL:mkL (eng K (clx ig0 (splitL s) (splitL t)) (cly ig0 (splitL s) (splitL t))) (splitL t).length=L):Bk s t L:=by
 obtain⟨h1,h2,h3⟩:=eng_hun K (splitL s) (splitL t) (by omega) (by omega) hL
 have ha:=split_right s
 have hb:=split_right t
 have h4:=script_order (ctx:=0) h1 h2 (by omega) (by omega) (by omega) (fun u hu=>hu.elim (fun h=>(check_lin ha u h).1) fun h=>(check_lin hb u h).1) (check_abl ha) (check_abl hb)
 have h5:innL (splitL s++splitL t)=false:=(by
  simp only[innL,List.any_eq_false]
  intro u hu
  rcases List.mem_append.1 hu with hu | hu
  ·simpa using (check_lin ha u hu).2
  ·simpa using (check_lin hb u hu).2)
 have h6:=prt_len h1 (a:=splitL s) (b:=splitL t)
 have h7:=congrArg List.length (split_join s)
 have h8:=congrArg List.length (split_join t)
 obtain⟨h9,h10⟩:=made_len (ctx:=0) h1 (by omega)
 rcases h4 with h4 | h4
 ·refine⟨h1,h3,normal_back h1 ha hb (by omega) (by omega) (by omega),h4.1,h4.2,?_,(mkR_eq h1 (by omega)).2,?_,by omega⟩
  ·have:=ntot_le (M:=400) (fun x hx=>by have:=(h10 x hx).1;omega)
   have h11:(mkR L (splitL s) (splitL t) 0).length * 400≤201 * 400:=Nat.mul_le_mul_right _ (by omega)
   omega
  ·rw[← hL]
   have e:=eng_nil K (clx ig0 (splitL s) (splitL t)) (cly ig0 (splitL s) (splitL t)) (by rw[clx_length];omega) (by rw[cly_length];omega)
   rw[cly_length] at e
   rw[e,cl_same]
   constructor
   ·rintro⟨e1,e2⟩
    refine split_inj (List.ext_getElem e1 fun i hi hj=>?_)
    have:=e2 i hi hj
    rwa [canon0,canon0] at this
   ·rintro rfl
    exact⟨rfl,fun i hi hj=>rfl⟩
 ·rw[h5] at h4
  exact absurd h4.2 (by simp)
end

section
open Ln
theorem errs_out {l:List Hk} (h:errs l=0):∀ x∈l,chkH x=0:=by
 induction l with
 | nil=>intro x hx;cases hx
 | cons y l ih =>
  simp only[errs] at h
  split at h
  ·rename_i hq
   exact absurd h hq
  ·rename_i hq
   intro x hx
   rcases List.mem_cons.1 hx with rfl | hx
   ·omega
   ·exact ih h x hx
structure Bc (s t nm:List UInt8) (L:List Ch) (ctx:Int):Prop where
 scr:Script L (splitL s).length (splitL t).length
 few:L.length≤(splitL s).length+1
 hun:(mkR L (splitL s) (splitL t) ctx).length≤L.length
 grp:grpE L (splitL s).length (splitL t).length ctx=0
 gd:∀ x∈mkR L (splitL s) (splitL t) ctx,Gh x
 nil:mkR L (splitL s) (splitL t) ctx=[]↔s=t
 wrg:wrgP ⟨[111,108,100],nm,mkR L (splitL s) (splitL t) ctx⟩=0
 emp:ptT ⟨[111,108,100],nm,mkR L (splitL s) (splitL t) ctx⟩=[]↔s=t
 rd:s≠t→cxT (ptT ⟨[111,108,100],nm,mkR L (splitL s) (splitL t) ctx⟩)=if 1048576<(ptT ⟨[111,108,100],nm,mkR L (splitL s) (splitL t) ctx⟩).length then .error (0,9) else .ok [⟨[111,108,100],nm,mkR L (splitL s) (splitL t) ctx⟩]
theorem bc_of (K:Int) (s t nm:List UInt8) (hx:(splitL s).length≤200) (hy:(splitL t).length≤200) (hn:nm.length≤64) {ctx:Int} (hc:0≤ctx∧ctx≤100) {L:List Ch} (hL:mkL (eng K (clx ig0 (splitL s) (splitL t)) (cly ig0 (splitL s) (splitL t))) (splitL t).length=L):Bc s t nm L ctx:=by
 obtain⟨h1,h2,h3⟩:=eng_hun K (splitL s) (splitL t) (by omega) (by omega) hL
 have hb0:=bk_of K s t hx hy hL
 have ha:=split_right s
 have hb:=split_right t
 have h4:=script_order (ctx:=ctx) h1 h2 hc (by omega) (by omega) (fun u hu=>hu.elim (fun h=>(check_lin ha u h).1) fun h=>(check_lin hb u h).1) (check_abl ha) (check_abl hb)
 have h5:innL (splitL s++splitL t)=false:=(by
  simp only[innL,List.any_eq_false]
  intro u hu
  rcases List.mem_append.1 hu with hu | hu
  ·simpa using (check_lin ha u hu).2
  ·simpa using (check_lin hb u hu).2)
 have h6:ordH (mkR L (splitL s) (splitL t) ctx)=0:=by
  rcases h4 with h4 | h4
  ·exact h4.1
  ·rw[h5] at h4
   exact absurd h4.2 (by simp)
 have h7:errs (mkR L (splitL s) (splitL t) ctx)=0:=by
  unfold ordH at h6
  split at h6
  ·exact h6
  ·rename_i hq
   omega
 have h8:=errs_out h7
 have hse:=script_each h1 h2 hc
 have hgd:∀ x∈mkR L (splitL s) (splitL t) ctx,Gh x:=by
  intro x hx'
  obtain⟨⟨a1,a2,a3⟩,⟨b1,b2,b3⟩,_,_,h9⟩:=hse x hx'
  refine⟨h8 x hx',h9,fun q=>?_,fun q=>?_⟩
  ·unfold atA at a3
   rw[if_pos (by omega)] at a3
   omega
  ·unfold atB at b3
   rw[if_pos (by omega)] at b3
   omega
 obtain⟨h10,_⟩:=made_len (ctx:=ctx) h1 hc
 have hnil:mkR L (splitL s) (splitL t) ctx=[]↔s=t:=by
  rw[(mkR_eq h1 hc).1,List.map_eq_nil_iff,grp_eq_nil]
  exact hb0.nil
 have hw:wrgP ⟨[111,108,100],nm,mkR L (splitL s) (splitL t) ctx⟩=0:=by
  unfold wrgP
  rw[if_neg (by simp only[List.length_cons,List.length_nil];omega),if_neg (by simp only;omega)]
  exact h7
 refine⟨h1,h3,h10,(mkR_eq h1 hc).2,hgd,hnil,hw,?_,?_⟩
 ·unfold ptT
  rw[if_pos hw]
  constructor
  ·intro he
   refine Classical.byContradiction fun hne=>?_
   have:mkR L (splitL s) (splitL t) ctx≠[]:=fun q=>hne (hnil.1 q)
   rw[pt_lines this] at he
   simp at he
  ·intro he
   have:=hnil.2 he
   unfold ptL
   rw[if_pos this]
   rfl
 ·intro hne
  have hg:Gp ⟨[111,108,100],nm,mkR L (splitL s) (splitL t) ctx⟩:=⟨fun q=>hne (hnil.1 q),by show 3≤64;decide,hn,by show (mkR L (splitL s) (splitL t) ctx).length≤4096;omega,hgd⟩
  have hall:∀ q∈[(⟨[111,108,100],nm,mkR L (splitL s) (splitL t) ctx⟩:Pth)],Gp q:=fun q hq=>by rw[List.mem_singleton.1 hq];exact hg
  have e:[(⟨[111,108,100],nm,mkR L (splitL s) (splitL t) ctx⟩:Pth)].flatMap ptT=ptT ⟨[111,108,100],nm,mkR L (splitL s) (splitL t) ctx⟩:=by simp
  have e2:=pts_text hall
  rw[e] at e2
  split
  ·rename_i hq
   unfold cxT
   rw[if_pos hq]
  ·rename_i hq
   rw[e2] at hq ⊢
   exact cx_back hall (by simp) (by omega)
end

end Go.Proofs.YtgiojkhmkeocfaaGreatDoor
