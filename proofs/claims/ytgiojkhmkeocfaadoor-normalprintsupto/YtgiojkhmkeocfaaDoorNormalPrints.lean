/-
  For every edit script and every two lists of texts of together at most 1048576 letters and values, the law NormalPrints returns true and leaves its arguments as they were: normal.Print writes what the plain reference writes, or refuses as it does, and changes nothing that it was handed. The conditions are the statement's own bound and the card's: the library's tables hold what the program's text lays.
-/
import Derived.Test.YtgiojkhmkeocfaaDoorCards
import Derived.Test.YtgiojkhmkeocfaaDoorTie
import Derived.Test.YtgiojkhmkeocfaaDoorNoPriA5
import Derived.Test.YtgiojkhmkeocfaaDoorNoPriA6
import Derived.Test.YtgiojkhmkeocfaaDoorNoPriA2
import Derived.Test.YtgiojkhmkeocfaaDoorNoPriA3
import Derived.ProofKit
import Derived.OpenShut
import Derived.Deep.DeepHandedRow
import Derived.Lib.LaidTab
import Derived.LaidSub
namespace Go.Proofs.YtgiojkhmkeocfaaDoor
open Go.RowKit

theorem no_append_w (w : World) (T E ty : TypeId) (z : Value) (size bytes : Nat) (hT : Tryd.prog.underlying T = some (.slice E)) (hinfo : (Tryd.prog.info? E).map (fun i => (i.zero, i.size, i.bytes)) = some (some z, size, bytes)) (hz1 : z.cells.size = size) (hsz : 0 < size) (hby : bytes ≤ 64)
    (base : Nat) (v : Value) (k : Nat) (xs : List Value) (hown : w.ownsRow base E size v k xs) (vx : Value) (m : Nat) (news : List Value) (hh : Holds w vx m news) (hl : news.length = m * size)
    (h1 : ∀ u ∈ news, u.oneCell' = true) (hk : k + m ≤ 2199023255552) (hbase : base ≤ w.heap.size) :
    ∃ v' w', (Builtin.append_ #[T, T] ty #[v, vx]).run Tryd.prog w = .ok v' w' ∧ w'.ownsRow base E size v' (k + m) (xs ++ news) ∧ w.grownBy w' v.ownBlock ∧ (v'.ownBlock = v.ownBlock ∨ v'.ownBlock = some w.heap.size) := by
  obtain ⟨i0, hi0, hz0, hzs, hz2⟩ := info_parts hinfo
  rcases hh with ⟨rfl, rfl, rfl⟩ | ⟨ad, c, rfl, _, hc⟩
  · exact ⟨v, w, run_append_owned_none (P := Tryd.prog) (w := w) base T ty E i0 size hT hi0 v k xs hown, by simpa using hown, World.grownBy.refl _ _, .inl rfl⟩
  · obtain ⟨v', w', hr, h2, h3, _, h5⟩ := run_append_own_at (P := Tryd.prog) w base T ty E i0 z size bytes hT hi0 hz0 hzs hz2 hz1 hsz v k xs hown ad m c news hl hc h1 (by unfold maxLen; omega) (by
      have : (k + m) * bytes ≤ (k + m) * 64 := Nat.mul_le_mul_left _ hby
      omega) hbase
    exact ⟨v', w', hr, h2, h3, h5⟩
theorem wpList_no_append {ops : Array Oper} {rest : List Oper} {o : Oper} {a : Act} {Q : Exit → Act → World → Prop} (w : World) (hw : Region.wanted o (yielded ops a.tmps) = true) (s x : Operand) (T E : TypeId) (z : Value) (size bytes : Nat)
    (ho : o.op = .call { callee := .builtin .append, args := #[s, x], argTypes := #[T, T] }) (hT : Tryd.prog.underlying T = some (.slice E)) (hinfo : (Tryd.prog.info? E).map (fun i => (i.zero, i.size, i.bytes)) = some (some z, size, bytes)) (hz1 : z.cells.size = size) (hsz : 0 < size) (hby : bytes ≤ 64)
    (base : Nat) (v : Value) (k : Nat) (xs : List Value) (hs : a.eval s = v) (hown : w.ownsRow base E size v k xs) (vx : Value) (m : Nat) (news : List Value) (hx : a.eval x = vx) (hh : Holds w vx m news) (hl : news.length = m * size)
    (h1 : ∀ u ∈ news, u.oneCell' = true) (hk : k + m ≤ 2199023255552) (hbase : base ≤ w.heap.size)
    (h : ∀ v' w', w'.ownsRow base E size v' (k + m) (xs ++ news) → w.grownBy w' v.ownBlock → (v'.ownBlock = v.ownBlock ∨ v'.ownBlock = some w.heap.size) → wpList Tryd.prog ops Q rest (a.put o.dst v') w') : wpList Tryd.prog ops Q (o :: rest) a w := by
  refine wpList_step fun K hK => ?_
  rw [if_pos hw]
  obtain ⟨v', w', hr, h2, h3, h4⟩ := no_append_w w T E o.type z size bytes hT hinfo hz1 hsz hby base v k xs hown vx m news hh hl h1 hk hbase
  unfold Oper.wp
  simp [execOp, ho, resolve, invoke, builtin, hs, hx, hr, Result.andThen]
  exact hK _ _ (h v' w' h2 h3 h4)
theorem mem_flatN {a : List (List UInt8)} {t : List UInt8} (h : t ∈ a) : t.length ≤ a.flatten.length := by
  induction a with
  | nil => cases h
  | cons s a ih =>
    rw [List.flatten_cons, List.length_append]
    rcases List.mem_cons.1 h with rfl | h
    · omega
    · have := ih h
      omega
set_option maxRecDepth 10000 in
set_option maxHeartbeats 16000000 in
theorem NormalPrints_any (l : List Ch) (a b : List (List UInt8)) (v va vb : Value) (w : World) (hl : l.length ≤ 1048576) (hal : a.length + a.flatten.length ≤ 1048576) (hbl : b.length + b.flatten.length ≤ 1048576) (hv : HCh w v l) (ha : HS w va a) (hb : HS w vb b) (HTw : Hid (Tab10 w)) : Calls Tryd.prog 3 #[v, va, vb] w fun e w' => e = .returned (.bool true) ∧ Below w.heap.size w w' := by
  obtain ⟨vo, vc, rfl⟩ := Holds.form hv
  obtain ⟨ao, ac, rfl⟩ := Holds.form ha
  obtain ⟨bo, bc, rfl⟩ := Holds.form hb
  obtain ⟨r, hr⟩ : ∃ r, chk l a.length b.length = r := ⟨_, rfl⟩
  obtain ⟨T, hTd⟩ : ∃ T, (if r = 0 then prtT l a b else []) = T := ⟨_, rfl⟩
  have HR : Hid (chk l a.length b.length = r) := hr
  have HT : Hid ((if r = 0 then prtT l a b else []) = T) := hTd
  have hT : T.length ≤ 70368744177664 := (by
    rw [← hTd]
    split
    · rename_i h0
      have hs : Script l a.length b.length := (by
        by_cases h : Script l a.length b.length
        · exact h
        · have := chk_no h
          omega)
      have := @prt_len a b l hs
      omega
    · simp)
  have HTA : Hid (∀ s ∈ a, s.length ≤ 1048576) := fun s hs => by have := mem_flatN hs; omega
  have HTB : Hid (∀ s ∈ b, s.length ≤ 1048576) := fun s hs => by have := mem_flatN hs; omega
  clear hr hTd
  have hnil1 := nil_row_new (e := 9) (s := 1) w w.heap.size w.heap.size rfl (Nat.le_refl _)
  have hB1 : Below w.heap.size w (w.alloc (.cells #[] 9)) := (Below.refl _ w).alloc (Nat.le_refl _) _
  have hs1 := HS.keep ha hB1 (Nat.le_refl _)
  have HS1 : Hid ((w.alloc (.cells #[] 9)).heap.size = w.heap.size + 1) := (by show _ = _; simp)
  go_enter Tryd.func3, Tryd.ntmps3
  go_wp2_with (at_builtin; refine wpList_no_append _ (by kernel_rfl) (.tmp 13) (.tmp 14) 23 9 (.string ⟨#[]⟩) 1 16 rfl Tryd.underlying23 infoStr rfl (by decide) (by decide) w.heap.size _ _ _ rfl hnil1 _ a.length (scells a) rfl hs1 (by simp [scells_length]) (scells_one _) (by omega) (by have := HS1.out; omega) ?_)
  intro v7 w1 hown1 hg1 _
  have hBw1 : Below w.heap.size w w1 := hB1.grown hg1 hB1.size (fun j hj => owns_ge hnil1 hj)
  have hv7 : HS w1 v7 a := holds_of hown1
  obtain ⟨o1, c1, rfl⟩ := Holds.form hv7
  clear hown1 hg1 hnil1 hB1 hs1 HS1
  have hb1 := HS.keep hb hBw1 (Nat.le_refl _)
  have hnil2 := nil_row_new (e := 9) (s := 1) w1 w1.heap.size w1.heap.size rfl (Nat.le_refl _)
  have hB2 : Below w1.heap.size w1 (w1.alloc (.cells #[] 9)) := (Below.refl _ w1).alloc (Nat.le_refl _) _
  have hs2 := HS.keep hb1 hB2 (Nat.le_refl _)
  have HS2 : Hid ((w1.alloc (.cells #[] 9)).heap.size = w1.heap.size + 1) := (by show _ = _; simp)
  go_wp2_with (at_builtin; refine wpList_no_append _ (by kernel_rfl) (.tmp 16) (.tmp 17) 23 9 (.string ⟨#[]⟩) 1 16 rfl Tryd.underlying23 infoStr rfl (by decide) (by decide) w1.heap.size _ _ _ rfl hnil2 _ b.length (scells b) rfl hs2 (by simp [scells_length]) (scells_one _) (by omega) (by have := HS2.out; omega) ?_)
  intro v8 w2 hown2 hg2 _
  have hBw2 : Below w1.heap.size w1 w2 := hB2.grown hg2 hB2.size (fun j hj => owns_ge hnil2 hj)
  have hv8 : HS w2 v8 b := holds_of hown2
  obtain ⟨o2, c2, rfl⟩ := Holds.form hv8
  clear hown2 hg2 hnil2 hB2 hs2 HS2
  have hBww2 := hBw1.trans (hBw2.mono hBw1.size)
  have hv2 := HCh.keep hv hBww2 (Nat.le_refl _)
  have hnil3 := nil_row_new (e := 73) (s := 4) w2 w2.heap.size w2.heap.size rfl (Nat.le_refl _)
  have hB3 : Below w2.heap.size w2 (w2.alloc (.cells #[] 73)) := (Below.refl _ w2).alloc (Nat.le_refl _) _
  have hs3 := HCh.keep hv2 hB3 (Nat.le_refl _)
  have HS3 : Hid ((w2.alloc (.cells #[] 73)).heap.size = w2.heap.size + 1) := (by show _ = _; simp)
  go_wp2_with (at_builtin; refine wpList_no_append _ (by kernel_rfl) (.tmp 20) (.tmp 21) 22 73 (.agg #[.int .i64 0, .int .i64 0, .int .i64 0, .int .i64 0]) 4 32 rfl Tryd.underlying22 infoCh rfl (by decide) (by decide) w2.heap.size _ _ _ rfl hnil3 _ l.length (chcells l) rfl hs3 (chcells_length _) (chcells_one _) (by omega) (by have := HS3.out; omega) ?_)
  intro v9 w3 hown3 hg3 _
  have hBw3 : Below w2.heap.size w2 w3 := hB3.grown hg3 hB3.size (fun j hj => owns_ge hnil3 hj)
  have hv9 : HCh w3 v9 l := holds_of hown3
  obtain ⟨o3, c3, rfl⟩ := Holds.form hv9
  clear hown3 hg3 hnil3 hB3 hs3 HS3
  have hBww3 := hBww2.trans (hBw3.mono hBww2.size)
  have hv7_3 := HS.keep (HS.keep hv7 hBw2 (Nat.le_refl _)) hBw3 (Nat.le_refl _)
  have hv8_3 := HS.keep hv8 hBw3 (Nat.le_refl _)
  have hvW := HCh.keep hv hBww3 (Nat.le_refl _)
  have haW := HS.keep ha hBww3 (Nat.le_refl _)
  have hbW := HS.keep hb hBww3 (Nat.le_refl _)
  clear hv ha hb hb1 hv2 hv7 hv8 hBw1 hBw2 hBw3 hBww2
  go_wp2_with fail
  refine (nPrint_f l _ _ _ a b w3 hv9 hv7_3 hv8_3 (by omega) (by omega) (by omega) (fun s hs => by have := HTA.out s hs; omega) (fun s hs => by have := HTB.out s hs; omega) (HTw.out.on hBww3) r HR T HT hT).mono ?_
  rintro e w4 ⟨rfl, hB34⟩
  go_wp2_with fail
  refine (rPrint_f l _ _ _ a b w4 (HCh.keep hvW hB34 (Nat.le_refl _)) (HS.keep haW hB34 (Nat.le_refl _)) (HS.keep hbW hB34 (Nat.le_refl _)) (by omega) (by omega) (by omega) (fun s hs => by have := HTA.out s hs; omega) (fun s hs => by have := HTB.out s hs; omega) r HR T HT (by omega)).mono ?_
  rintro e w5 ⟨rfl, hB45⟩
  have hB35 := hB34.trans (hB45.mono hB34.size)
  clear hB34 hB45
  go_wp2_with fail
  refine (SameS_any _ _ a w5 (by omega) (HS.keep haW hB35 (Nat.le_refl _)) (HS.keep hv7_3 hB35 (Nat.le_refl _))).mono ?_
  rintro e w6 ⟨rfl, hB56⟩
  have hB36 := hB35.trans (hB56.mono hB35.size)
  clear hB35 hB56
  go_wp2_with fail
  refine (SameS_any _ _ b w6 (by omega) (HS.keep hbW hB36 (Nat.le_refl _)) (HS.keep hv8_3 hB36 (Nat.le_refl _))).mono ?_
  rintro e w7 ⟨rfl, hB67⟩
  have hB37 := hBww3.trans ((hB36.trans (hB67.mono hB36.size)).mono hBww3.size)
  go_wp2
  go_ret
  exact ⟨rfl, hB37⟩
end Go.Proofs.YtgiojkhmkeocfaaDoor
namespace Go.Proofs.YtgiojkhmkeocfaaDoor.normalPrints
open Go.ChangeShapes Go.WideShapes Go.ChangeAt Go.RowKit
theorem walk (l : List Ch) (a b : List (List UInt8)) (v va vb : Value) (w : World) (hl : l.length ≤ 1048576) (hal : a.length + a.flatten.length ≤ 1048576) (hbl : b.length + b.flatten.length ≤ 1048576) (hv : HCh w v l) (ha : HS w va a) (hb : HS w vb b) (HTw : Hid (Tab10 w)) : Calls Tryd.prog 3 #[v, va, vb] w fun e w' => e = .returned (.bool true) ∧ Below w.heap.size w w' :=
  NormalPrints_any l a b v va vb w hl hal hbl hv ha hb HTw

set_option maxRecDepth 100000 in
theorem contract (H : Type) (enc : TypeId × Value → H) (W : World) (base : Nat) (args : Array Value) (ds gs : List (DataW H)) (before : List MemPlace)
    (hval : ∀ (j : Nat) t v, Tryd.f3.params[j]? = some t → args[j]? = some v → Value.okWide Tryd.prog W .any base t v)
    (hW : DataW.Whole enc Tryd.prog Tryd.f3.params.toList Rows.normalPrintsSpec.vars false W args.toList ds gs before) (hL : laidMetH Tryd.prog Rows.normalPrintsUptoRow.laid W) (hk : Rows.uptoSmall H (ds ++ gs) = true) :
    Calls Tryd.prog 3 args W fun e W' => ∃ v, e = .returned v ∧ Rows.normalPrintsSpec.post enc Tryd.prog Tryd.f3 false true false false W args v W' := by
  have hW' := hW
  obtain ⟨p, q, hA0, hV, rfl, hfz, hnd⟩ := hW
  have hA : DataW.TrodAll enc Tryd.prog W 0 (fun _ => true) true Tryd.f3.params.toList args.toList ds p := hA0
  rw [Tryd.params3] at hA hval
  obtain ⟨v0, vs0, d0, ds0, p0, q0, hargs, rfl, rfl, h0, r0⟩ := trodAll_cons hA
  obtain ⟨v1, vs1, d1, ds1, p1, q1, rfl, rfl, rfl, h1, r1⟩ := trodAll_cons r0
  obtain ⟨v2, vs2, d2, ds2, p2, q2, rfl, rfl, rfl, h2, r2⟩ := trodAll_cons r1
  obtain ⟨rfl, rfl, rfl⟩ := trodAll_nil r2
  obtain rfl : args = #[v0, v1, v2] := by cases args; simp_all
  obtain ⟨rfl, rfl⟩ := trodVars_none hV
  obtain ⟨a0, len0, cap0, rfl⟩ := okWide_slice Tryd.underlying22 (hval 0 22 v0 rfl rfl)
  have k0 := h0
  have lt0 : ∀ x ∈ p0, x.block < W.heap.size := by obtain ⟨m, hm⟩ := k0; exact DataW.trod_lt m _ _ _ hm
  obtain ⟨a1, len1, cap1, rfl⟩ := okWide_slice Tryd.underlying23 (hval 1 23 v1 rfl rfl)
  have k1 := h1
  have lt1 : ∀ x ∈ p1, x.block < W.heap.size := by obtain ⟨m, hm⟩ := k1; exact DataW.trod_lt m _ _ _ hm
  obtain ⟨a2, len2, cap2, rfl⟩ := okWide_slice Tryd.underlying23 (hval 2 23 v2 rfl rfl)
  have k2 := h2
  have lt2 : ∀ x ∈ p2, x.block < W.heap.size := by obtain ⟨m, hm⟩ := k2; exact DataW.trod_lt m _ _ _ hm
  clear hA0
  simp only [List.append_nil] at hk
  have hbk : Rows.uptoBulkAll [d0, d1, d2] ≤ 1048576 := of_decide_eq_true hk
  simp only [Rows.uptoBulkAll] at hbk
  obtain ⟨f0, hf0⟩ := h0
  obtain ⟨ws0, hv0, hwl0, _⟩ := open_chs (by simpa [Value.cells] using hf0)
  obtain ⟨f1, hf1⟩ := h1
  obtain ⟨ws1, hv1, hwl1⟩ := open_texts (by simpa [Value.cells] using hf1)
  obtain ⟨f2, hf2⟩ := h2
  obtain ⟨ws2, hv2, hwl2⟩ := open_texts (by simpa [Value.cells] using hf2)
  have ht := Tb.tab_of Rows.normalPrintsUptoRow.laid rfl hL
  have hw := walk ws0 ws1 ws2 (.slice a0 len0 cap0) (.slice a1 len1 cap1) (.slice a2 len2 cap2) W (by omega) (by omega) (by omega) hv0 hv1 hv2 (fun u hu => var?_below hu Tb.gTab (Tb.tab_lt ht) ht)
  refine hw.mono fun e W' ⟨he, bel⟩ => ?_
  subst he
  exact ⟨_, rfl, _, _, _, [], _, [], hW', trodAll_mk1 (shut_bool Tryd.underlying4 _), trodAll_cons_mk (Below.trod laidOut (by kernel_rfl) (of_decide_eq_true (by kernel_rfl)) k0 bel lt0) (trodAll_cons_mk (Below.trod laidOut (by kernel_rfl) (of_decide_eq_true (by kernel_rfl)) k1 bel lt1) (trodAll_cons_mk (Below.trod laidOut (by kernel_rfl) (of_decide_eq_true (by kernel_rfl)) k2 bel lt2) trodAll_mk0)), rfl, bel.frame _, fun h => by cases h⟩

theorem laid_met (os : Os) : laidMet Tryd.prog Rows.normalPrintsUptoRow.laid ((Tb.laidOn (World.holding Tryd.prog os ⟨#[], #[], []⟩)).forCall (fun _ _ => 0) ⟨#[], #[.slice none 0 0, .slice none 0 0, .slice none 0 0], []⟩).memory :=
  laidMet_of_run' 8 (by kernel_rfl) (by kernel_rfl)
theorem reads (os : Os) {H : Type} (enc : TypeId × Value → H) : ∃ places, DataW.whole enc Tryd.prog ((Tb.laidOn (World.holding Tryd.prog os ⟨#[], #[], []⟩)).forCall (fun _ _ => 0) ⟨#[], #[.slice none 0 0, .slice none 0 0, .slice none 0 0], []⟩).memory Tryd.f3.params.toList Rows.normalPrintsSpec.vars false #[Value.slice none 0 0, Value.slice none 0 0, Value.slice none 0 0].toList 8 = some ([.nil, .nil, .nil], [], places) :=
  ⟨[], by kernel_rfl⟩

set_option maxRecDepth 100000 in
theorem lifted (os : Os) (started : os.Started) (H : Type) (enc : TypeId × Value → H) (F : Stop.Interp) :
    ReturnsInHanded {} Tryd.checked os 3 .any ((Rows.OpenSpec.upto Rows.normalPrintsSpec).preRow enc Tryd.prog Tryd.f3 Rows.normalPrintsUptoRow.domain false Rows.normalPrintsUptoRow.laid) (((Rows.OpenSpec.upto Rows.normalPrintsSpec).at F).post enc Tryd.prog Tryd.f3 false true false false) := by
  obtain ⟨places, hx⟩ := reads os enc
  refine returnsInHanded_of_row (C := Tryd.checked) (s := Rows.OpenSpec.upto Rows.normalPrintsSpec) own started (by kernel_rfl) Tryd.func3
    (witness_row_at (enc := enc) (C := Tryd.checked) false (Tb.laidOn (World.holding Tryd.prog os ⟨#[], #[], []⟩)) #[.slice none 0 0, .slice none 0 0, .slice none 0 0] rfl (by kernel_rfl) (by kernel_rfl) (by kernel_rfl)
      (OpenSpec.preRow_of_cond 8 hx (by kernel_rfl) (fun k hk => by cases hk; kernel_rfl) (by kernel_rfl) (laid_met os))) ?_
  intro W base args ds gs before hval hW _ hcond _ hL _ _
  exact contract H enc W base args ds gs before hval hW hL (hcond _ rfl)

theorem said : Rows.NormalPrintsUptoSaid :=
  OpenClaim.holds_of_cond 3 Tryd.f3 rfl rfl rfl rfl rfl rfl rfl ⟨rfl, rfl, rfl, rfl, rfl⟩ rfl rfl rfl rfl rfl (by kernel_rfl) Tryd.func3 (by kernel_rfl)
    (of_decide_eq_true (by kernel_rfl)) (by unfold Func.isWrapper; first | (rw [if_pos (by decide +kernel)]; kernel_rfl) | (rw [if_neg (by decide +kernel)]; exact ⟨rfl, rfl⟩))
    (fun os started H enc _ F => by rw [OpenClaim.pre_eq_preRow]; exact lifted os started H enc F)

theorem plain (f : FuncId) (fn : Func) (hf : Tryd.pinned.checked.prog.funcNamed "redline/redlinelaw12.NormalPrints" = some f) (hfn : Tryd.pinned.checked.prog.funcs[f]? = some fn) :
    true = Tryd.pinned.checked.prog.looks [] ∧ ∀ (j : Nat) t, fn.params[j]? = some t → Tryd.pinned.checked.prog.wantsStandIn t = false := by
  obtain rfl : f = 3 := Option.some.inj ((show Tryd.prog.funcNamed "redline/redlinelaw12.NormalPrints" = some 3 by kernel_rfl).symm.trans hf) |>.symm
  obtain rfl : fn = Tryd.f3 := (Option.some.inj (Tryd.func3.symm.trans hfn)).symm
  refine ⟨by kernel_rfl, fun j t ht => ?_⟩
  rw [Tryd.params3] at ht
  have hm : t = 22 ∨ t = 23 ∨ t = 23 := by simpa using Array.mem_of_getElem? ht
  rcases hm with rfl | rfl | rfl
  · exact (show Tryd.prog.wantsStandIn 22 = false by kernel_rfl)
  · exact (show Tryd.prog.wantsStandIn 23 = false by kernel_rfl)
  · exact (show Tryd.prog.wantsStandIn 23 = false by kernel_rfl)

theorem card : Rows.NormalPrintsUptoCardSaid :=
  Claim7.holds_tied_plain_at .later [] _ _ _ _ said (fun _ h => by cases h) (by kernel_rfl) (fun _ h => by cases h) normalPrintsUpto_row_tie rfl ⟨rfl, rfl⟩ (by kernel_rfl) rfl plain (by kernel_rfl)
#print axioms card
end Go.Proofs.YtgiojkhmkeocfaaDoor.normalPrints
