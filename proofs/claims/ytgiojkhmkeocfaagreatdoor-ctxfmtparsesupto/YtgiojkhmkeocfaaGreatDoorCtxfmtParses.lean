/-
  For every text of at most 1048576 letters, the law CtxfmtParses returns true and leaves its argument as it was: ctxfmt.Parse reads what the plain reference reads, or refuses with the same line and the same reason, and what it reads are right hunks. The conditions are the statement's own bound and the card's: errors.errorType holds what the program's text lays.
-/
import Derived.Test.YtgiojkhmkeocfaaGreatDoorCards
import Derived.Test.YtgiojkhmkeocfaaGreatDoorTie
import Derived.Test.YtgiojkhmkeocfaaGreatDoorCtParA16
import Derived.Test.YtgiojkhmkeocfaaGreatDoorCtParA6
import Derived.Test.YtgiojkhmkeocfaaGreatDoorCtParA17
import Derived.Test.YtgiojkhmkeocfaaGreatDoorCtParA3
import Derived.ProofKit
import Derived.OpenShut
import Derived.ShutString
import Derived.JoinedCond
import Derived.Deep.DeepHandedRow
import Derived.Lib.LaidTab
import Derived.LaidSub
set_option maxRecDepth 20000
namespace Go.Proofs.YtgiojkhmkeocfaaGreatDoor.ctxfmtParses
open Go.ChangeShapes Go.WideShapes Go.ChangeAt Go.RowKit
open Go.ChangeMaps (open_string shut_string)

theorem load_faQ {u : World} {F : Nat} {a z : Int} (h0 : u.cell? ⟨F, 0, none⟩ = some (.int .i64 a)) (h1 : u.cell? ⟨F, 1, none⟩ = some (.int .i64 z)) {op : Oper} (x : Operand) (ho : op.op = .load 42 x) {ev : Operand → Value} (hx : ev x = .pointer (some ⟨F, 0, none⟩)) :
    (execOp ev op).run Tryz.prog u = .ok (.value (.agg #[.int .i64 a, .int .i64 z])) u := by
  simp only [execOp, ho, hx]
  go_simp
theorem neq_faQ {u : World} {a z : Int} {op : Oper} (x y : Operand) (ho : op.op = .binOp .neq 42 x y 42) {ev : Operand → Value} (hx : ev x = .agg #[.int .i64 a, .int .i64 z]) (hy : ev y = .agg #[.int .i64 a, .int .i64 z]) :
    (execOp ev op).run Tryz.prog u = .ok (.value (.bool false)) u := by
  simp only [execOp, ho, hx, hy]
  go_simp
theorem cell_on {u v : World} (hB : Below u.heap.size u v) {q : Addr} {z : Value} (hz : u.cell? q = some z) : v.cell? q = some z := (World.cell?_of_block (w := u) (hB.block _ (World.block_lt_of_cell? _ _ hz))).trans hz
set_option maxRecDepth 10000 in
set_option maxHeartbeats 16000000 in
theorem walk (t : List UInt8) (w : World) (hl : t.length ≤ 1048576) (hE : ErrT w) :
    Calls Tryz.prog 5 #[.string ⟨t.toArray⟩] w fun e w' => e = .returned (.bool true) ∧ Below w.heap.size w w' := by
  have HE : Hid (ErrT w) := hE
  clear hE
  obtain ⟨X, hX⟩ : ∃ X, cxT t = X := ⟨_, rfl⟩
  have HX : Hid (cxT t = X) := hX
  have HXR : Hid (cxT t = X) := hX
  obtain ⟨l, hl1⟩ : ∃ l, okP X = l := ⟨_, rfl⟩
  obtain ⟨fa, hfa⟩ : ∃ a, (faP X).1 = a := ⟨_, rfl⟩
  obtain ⟨fz, hfz⟩ : ∃ z, (faP X).2 = z := ⟨_, rfl⟩
  have HFx : Hid (∀ F : List Pfd, F.map (·.x) = l → (∀ f ∈ F, f.hs.map (·.1) = f.x.hs) → F.length ≤ 64 ∧ ∀ f ∈ F, f.hs.length ≠ 0 ∧ (∀ y ∈ f.hs, chkH y.1 = 0) ∧ HOk f.hs) := (by intro F h1 h2; exact cx_facts hX (by rw [h1, hl1]) h2)
  have hn : ∀ u : World, Calls Tryz.prog 20 #[.string ⟨t.toArray⟩] u fun e w' => PuQ u X e w' := fun u => (cParse_f t u X HX (by omega)).mono fun _ _ h => prq_u h
  have hr : ∀ u : World, Calls Tryz.prog 21 #[.string ⟨t.toArray⟩] u fun e w' => RuQ u X e w' := fun u => (rParse15_f t u X HXR).mono fun _ _ h => rfq_u h
  unfold PuQ at hn
  unfold RuQ at hr
  rw [hl1, hfa, hfz] at hn
  rw [hl1, hfa, hfz] at hr
  clear hl1 hfa hfz HX HXR hX
  go_enter Tryz.func5, Tryz.ntmps5
  go_wp2_with fail
  refine (hn w).mono ?_
  rintro e w1 ⟨o1, c1, F1, ev, rfl, hP1, hm1, hsn⟩
  have HSN : Hid (∀ u : World, Below w1.heap.size w1 u → ErrT u → Calls Tryz.prog 17 #[ev] u fun e u' => e = .returned (.agg #[.int .i64 fa, .int .i64 fz]) ∧ Below u.heap.size u u') := hsn
  clear hsn hn
  go_wp2_with fail
  refine (hr w1).mono ?_
  rintro e w2 ⟨o2, c2, F2, rfl, hP2, hm2⟩
  have hB1 := hP1.low
  have hB12 := hP2.low
  have hB2 := hB1.trans (hB12.mono hB1.size)
  have hBa : Below w2.heap.size w2 (w2.alloc (.cells #[.int .i64 fa, .int .i64 fz] 42)) := (Below.refl _ w2).alloc (Nat.le_refl _) _
  have hh1 := (hP1.holds.keep hB12).keep hBa
  have hh2 := hP2.holds.keep hBa
  have hfb := heap_alloc_new w2 (.cells #[.int .i64 fa, .int .i64 fz] 42)
  have hB3 := hB2.trans (hBa.mono hB2.size)
  have HB13 : Hid (Below w1.heap.size w1 (w2.alloc (.cells #[.int .i64 fa, .int .i64 fz] 42))) := hB12.trans (hBa.mono hB12.size)
  obtain ⟨hpl, hfx⟩ := HFx.out F1 hm1 (fun f hf => (hh1.ins f hf).1)
  have HFX : Hid (∀ f ∈ F1, f.hs.length ≠ 0 ∧ (∀ y ∈ f.hs, chkH y.1 = 0) ∧ HOk f.hs) := hfx
  have HMM : Hid (F1.map (·.x) = F2.map (·.x)) := hm1.trans hm2.symm
  clear hr hP1 hP2 hm1 hm2 hB1 hB12 hB2 hBa hfx HFx
  go_upto_region 3 with fail
  generalize w2.alloc (.cells #[.int .i64 fa, .int .i64 fz] 42) = W at *
  generalize w2.heap.size = F at *
  have hF : ∀ u : World, Low W u → u.cell? ⟨F, 0, none⟩ = some (.int .i64 fa) ∧ u.cell? ⟨F, 1, none⟩ = some (.int .i64 fz) := (by
    intro u hu
    have h1 := (Below.block hu F (Array.getElem?_eq_some_iff.1 hfb).1).trans hfb
    exact ⟨by rw [Lib.cell_of_heap h1]; rfl, by rw [Lib.cell_of_heap h1]; rfl⟩)
  have hseen : ∀ u : World, Low W u → Calls Tryz.prog 17 (#[ev] ++ #[]) u fun e w' => ∃ x, e = .returned x ∧ Low W w' ∧ x = .agg #[.int .i64 fa, .int .i64 fz] := (by
    intro u hu
    refine (HSN.out u (HB13.out.trans (Below.mono hu HB13.out.size)) (HE.out.low (hB3.trans (Below.mono hu hB3.size)) (Nat.le_refl _))).mono ?_
    rintro e w' ⟨rfl, hb⟩
    exact ⟨_, rfl, hu.trans (hb.mono (Below.size hu)), rfl⟩)
  have hsame : ∀ u : World, Low W u → Calls Tryz.prog 22 (#[.slice o1 F1.length c1, .slice o2 F2.length c2] ++ #[]) u fun e w' => ∃ x, e = .returned x ∧ Low W w' ∧ x = .bool true := (by
    intro u hu
    refine (rSameAll_t F1 F2 _ _ u (hh1.keep hu) (hh2.keep hu) HMM.out (fun f hf => ⟨(HFX.out f hf).2.2.1, fun x hx => ((HFX.out f hf).2.2.2 x hx).1⟩) (by omega)).mono ?_
    rintro e w' ⟨rfl, hb⟩
    exact ⟨_, rfl, hu.trans (hb.mono (Below.size hu)), rfl⟩)
  refine wp_region_noPanic ?_
  refine wp_region_held_drew (S := fun u => Low W u) (by kernel_rfl) (Below.dN (Below.refl _ W) 1) (fun hHeld => ?_)
  refine go_take 0 19 _ (ev) rfl (by kernel_rfl) (by kernel_rfl) (by kernel_rfl) (by kernel_rfl) (fun _ _ _ h => h) (Or.inl ⟨by kernel_rfl, fun u hu => by kernel_rfl⟩) hHeld ?_
  simp only [Act.put, List.setIfInBounds_toArray, List.set_cons_zero, List.set_cons_succ]
  refine go_take 2 21 _ (.agg #[.int .i64 fa, .int .i64 fz]) rfl (by kernel_rfl) (by kernel_rfl) (by kernel_rfl) (by kernel_rfl) (fun _ _ _ h => h) (Or.inl ⟨by kernel_rfl, fun u hu => load_faQ (hF u hu).1 (hF u hu).2 (.tmp 6) (by kernel_rfl) (by kernel_rfl)⟩) hHeld ?_
  simp only [Act.put, List.setIfInBounds_toArray, List.set_cons_zero, List.set_cons_succ]
  refine go_callE 1 20 _ rfl (by kernel_rfl) (by kernel_rfl) (by kernel_rfl) 17 (.func 17) #[.tmp 19] #[36] (by kernel_rfl) #[] (by kernel_rfl) #[ev] (by kernel_rfl) (enters_of Tryz.func17 (by kernel_rfl) rfl) (fun x _ => x = .agg #[.int .i64 fa, .int .i64 fz]) ?_ ?_
  · exact hseen _ hHeld
  rintro _ u1 hHeld rfl
  simp only [Act.put, List.setIfInBounds_toArray, List.set_cons_zero, List.set_cons_succ]
  refine go_take 3 22 _ (.bool false) rfl (by kernel_rfl) (by kernel_rfl) (by kernel_rfl) (by kernel_rfl) (fun _ _ _ h => h) (Or.inl ⟨by kernel_rfl, fun u hu => neq_faQ (a := fa) (z := fz) (.tmp 20) (.tmp 21) (by kernel_rfl) (by kernel_rfl) (by kernel_rfl)⟩) hHeld ?_
  simp only [Act.put, List.setIfInBounds_toArray, List.set_cons_zero, List.set_cons_succ]
  refine go_take 4 23 _ (.bool false) rfl (by kernel_rfl) (by kernel_rfl) (by kernel_rfl) (by kernel_rfl) (fun _ _ _ h => h) (Or.inl ⟨by kernel_rfl, fun u hu => by kernel_rfl⟩) hHeld ?_
  simp only [Act.put, List.setIfInBounds_toArray, List.set_cons_zero, List.set_cons_succ]
  refine go_take 5 24 _ (.slice o1 F1.length c1) rfl (by kernel_rfl) (by kernel_rfl) (by kernel_rfl) (by kernel_rfl) (fun _ _ _ h => h) (Or.inl ⟨by kernel_rfl, fun u hu => by kernel_rfl⟩) hHeld ?_
  simp only [Act.put, List.setIfInBounds_toArray, List.set_cons_zero, List.set_cons_succ]
  refine go_take 6 25 _ (.slice o2 F2.length c2) rfl (by kernel_rfl) (by kernel_rfl) (by kernel_rfl) (by kernel_rfl) (fun _ _ _ h => h) (Or.inl ⟨by kernel_rfl, fun u hu => by kernel_rfl⟩) hHeld ?_
  simp only [Act.put, List.setIfInBounds_toArray, List.set_cons_zero, List.set_cons_succ]
  refine go_callE 7 26 _ rfl (by kernel_rfl) (by kernel_rfl) (by kernel_rfl) 22 (.func 22) #[.tmp 24, .tmp 25] #[48, 48] (by kernel_rfl) #[] (by kernel_rfl) #[.slice o1 F1.length c1, .slice o2 F2.length c2] (by kernel_rfl) (enters_of Tryz.func22 (by kernel_rfl) rfl) (fun x _ => x = .bool true) ?_ ?_
  · exact hsame _ hHeld
  rintro _ u2 hHeld rfl
  simp only [Act.put, List.setIfInBounds_toArray, List.set_cons_zero, List.set_cons_succ]
  refine go_take 8 27 _ (.bool false) rfl (by kernel_rfl) (by kernel_rfl) (by kernel_rfl) (by kernel_rfl) (fun _ _ _ h => h) (Or.inl ⟨by kernel_rfl, fun u hu => by kernel_rfl⟩) hHeld ?_
  simp only [Act.put, List.setIfInBounds_toArray, List.set_cons_zero, List.set_cons_succ]
  refine go_take 9 28 _ (.bool false) rfl (by kernel_rfl) (by kernel_rfl) (by kernel_rfl) (by kernel_rfl) (fun _ _ _ h => h) (Or.inl ⟨by kernel_rfl, fun u hu => by kernel_rfl⟩) hHeld ?_
  simp only [Act.put, List.setIfInBounds_toArray, List.set_cons_zero, List.set_cons_succ]
  refine wpAnyH_done (by kernel_rfl) ?_ _
  refine NoPanic.normal ?_
  have hBu := hB3.trans (Below.mono hHeld hB3.size)
  have hh := hh1.keep hHeld
  clear hF hseen hsame hh1 hh2 hfb hB3 HB13 HSN HMM hHeld
  generalize u2 = U at *
  go_wp2
  go_loopw [7] (fun iv wr => ∃ k : Nat, k ≤ F1.length ∧ iv = .int .i64 (k : Int) ∧ Below U.heap.size U wr) (fun iv _ => F1.length - (intOf iv).toNat)
  case atStart => exact ⟨0, Nat.zero_le _, by go_num, Below.refl _ _⟩
  case round =>
    obtain ⟨k, hk, rfl, hB⟩ := hrel
    by_cases hlt : k < F1.length
    · obtain ⟨b1, f1, rfl, _, hc1⟩ := HPp.at (hh.keep hB) (by omega)
      obtain ⟨_, _, x2⟩ := hc1 k hlt
      obtain ⟨f, hf⟩ : ∃ f, F1[k] = f := ⟨_, rfl⟩
      rw [hf] at x2
      have hfm : f ∈ F1 := (by rw [← hf]; exact List.getElem_mem _)
      obtain ⟨hne, hck, hok⟩ := HFX.out f hfm
      have HCK : Hid (∀ y ∈ f.hs, chkH y.1 = 0) := hck
      have HOK : Hid (HOk f.hs) := hok
      have hhf := (hh.ins f hfm).2
      obtain ⟨fo, fc, hfv⟩ := Holds.form hhf.row
      rw [hfv] at x2 hhf
      have z1 : ((f.hs.length : Int) == 0) = false := beq_eq_false_iff_ne.2 (by omega)
      have i1 : 0 ≤ (k : Int) := by omega
      have i2 : (k : Int) < (F1.length : Int) := by omega
      have i3 : (k : Int).toNat = k := by omega
      have hpl2 := hok.1
      clear hc1 hf hfv hck hok hne hfm
      generalize wr = wq at hB x2 ⊢
      have HX2 : Hid (wq.cell? ⟨b1, f1 + k * 3 + 2, none⟩ = some (.slice fo f.hs.length fc)) := x2
      go_wp2
      clear x2
      go_loopw [8] (fun jv wz => ∃ j : Nat, j ≤ f.hs.length ∧ jv = .int .i64 (j : Int) ∧ Below wq.heap.size wq wz) (fun jv _ => f.hs.length - (intOf jv).toNat)
      case atStart => exact ⟨0, Nat.zero_le _, by go_num, Below.refl _ _⟩
      case round =>
        obtain ⟨j, hj, rfl, hBz⟩ := hrel
        have x2 := cell_on hBz HX2.out
        have hBU := hB.trans (hBz.mono hB.size)
        by_cases hlt2 : j < f.hs.length
        · obtain ⟨b2, f2, rfl, _, _⟩ := hhf.at (by omega)
          obtain ⟨x, y, hxy⟩ : ∃ x y, f.hs[j] = (x, y) := ⟨_, _, rfl⟩
          obtain ⟨⟨d0, d1, d2, d3, d4⟩, hm⟩ := hhf.take hBU j hlt2 hxy
          have hbd := HOK.out.2 _ (List.getElem_mem hlt2)
          have hck := HCK.out _ (List.getElem_mem hlt2)
          rw [hxy] at hbd hck
          dsimp only at hbd hck
          obtain ⟨yo, yc, rfl⟩ := hm.form
          have hc := hCheck_f x (.slice yo x.ls.length yc) wr hm hbd.1 hbd.2 0 hck
          unfold hkV at hc
          have j1 : 0 ≤ (j : Int) := by omega
          have j2 : (j : Int) < (f.hs.length : Int) := by omega
          have j3 : (j : Int).toNat = j := by omega
          clear hxy hbd hck hm HX2
          go_wp2_with fail
          refine hc.mono ?_
          rintro e w3 ⟨rfl, hb3⟩
          have hB4 := hBz.trans (hb3.mono hBz.size)
          clear hc d0 d1 d2 d3 d4 hb3 x2
          go_wp2
          exact ⟨⟨j + 1, by omega, by go_num, hB4⟩, by simp [intOf]; omega⟩
        · have hend2 : decide ((j : Int) < (f.hs.length : Int)) = false := decide_eq_false (by omega)
          go_wp2
          exact ⟨⟨k + 1, by omega, by go_num, hBU⟩, by simp [intOf]; omega⟩
    · have hend : decide ((k : Int) < (F1.length : Int)) = false := decide_eq_false (by omega)
      go_wp2
      go_ret
      exact ⟨rfl, hBu.trans (hB.mono hBu.size)⟩

set_option maxRecDepth 100000 in
theorem contract (H : Type) (enc : TypeId × Value → H) (W : World) (base : Nat) (args : Array Value) (ds gs : List (DataW H)) (before : List MemPlace)
    (hval : ∀ (j : Nat) t v, Tryz.f5.params[j]? = some t → args[j]? = some v → Value.okWide Tryz.prog W .any base t v)
    (hW : DataW.Whole enc Tryz.prog Tryz.f5.params.toList Rows.ctxfmtParsesSpec.vars false W args.toList ds gs before) (hL : laidMetH Tryz.prog Rows.ctxfmtParsesUptoRow.laid W) (hk : Rows.uptoSmall H (ds ++ gs) = true) :
    Calls Tryz.prog 5 args W fun e W' => ∃ v, e = .returned v ∧ Rows.ctxfmtParsesSpec.post enc Tryz.prog Tryz.f5 false true false false W args v W' := by
  have hW' := hW
  obtain ⟨p, q, hA0, hV, rfl, hfz, hnd⟩ := hW
  have hA : DataW.TrodAll enc Tryz.prog W 0 (fun _ => true) true Tryz.f5.params.toList args.toList ds p := hA0
  rw [Tryz.params5] at hA hval
  obtain ⟨v0, vs0, d0, ds0, p0, q0, hargs, rfl, rfl, h0, r0⟩ := trodAll_cons hA
  obtain ⟨rfl, rfl, rfl⟩ := trodAll_nil r0
  obtain rfl : args = #[v0] := by cases args; simp_all
  obtain ⟨rfl, rfl⟩ := trodVars_none hV
  obtain ⟨a0, rfl, rfl, rfl, wt0⟩ := open_string Tryz.underlying9 (hval 0 9 v0 rfl rfl) h0
  clear hA0
  simp only [List.append_nil] at hk
  have hbk : Rows.uptoBulkAll [.lit (.string a0.data.toList)] ≤ 1048576 := of_decide_eq_true hk
  simp only [Rows.uptoBulkAll] at hbk
  have hw := walk a0.data.toList  W (by simp only [Rows.uptoBulk] at hbk; omega) (Et.met Rows.ctxfmtParsesUptoRow.laid rfl hL)
  refine hw.mono fun e W' ⟨he, bel⟩ => ?_
  subst he
  exact ⟨_, rfl, _, _, _, [], _, [], hW', trodAll_mk1 (shut_bool Tryz.underlying4 _), trodAll_cons_mk (shut_string Tryz.underlying9 wt0) trodAll_mk0, rfl, bel.frame _, fun h => by cases h⟩

theorem laid_met (os : Os) : laidMetH Tryz.prog Rows.ctxfmtParsesUptoRow.laid ((Et.laidOn (World.holding Tryz.prog os ⟨#[], #[], []⟩)).forCall (fun _ _ => 0) ⟨#[], #[.string .empty], []⟩).memory :=
  laidMetH_of_parts (laidMet_of_run' 8 (by kernel_rfl) (by kernel_rfl)) (by kernel_rfl)
theorem reads (os : Os) {H : Type} (enc : TypeId × Value → H) : ∃ places, DataW.whole enc Tryz.prog ((Et.laidOn (World.holding Tryz.prog os ⟨#[], #[], []⟩)).forCall (fun _ _ => 0) ⟨#[], #[.string .empty], []⟩).memory Tryz.f5.params.toList Rows.ctxfmtParsesSpec.vars false #[Value.string .empty].toList 8 = some ([.lit (.string [])], [], places) :=
  ⟨[], by kernel_rfl⟩

set_option maxRecDepth 100000 in
theorem lifted (os : Os) (started : os.Started) (H : Type) (enc : TypeId × Value → H) (F : Stop.Interp) :
    ReturnsInHanded {} Tryz.checked os 5 .any ((Rows.OpenSpec.upto Rows.ctxfmtParsesSpec).preRow enc Tryz.prog Tryz.f5 Rows.ctxfmtParsesUptoRow.domain false Rows.ctxfmtParsesUptoRow.laid) (((Rows.OpenSpec.upto Rows.ctxfmtParsesSpec).at F).post enc Tryz.prog Tryz.f5 false true false false) := by
  obtain ⟨places, hx⟩ := reads os enc
  refine returnsInHanded_of_row (C := Tryz.checked) (s := Rows.OpenSpec.upto Rows.ctxfmtParsesSpec) own started (by kernel_rfl) Tryz.func5
    (witness_row_at (enc := enc) (C := Tryz.checked) false (Et.laidOn (World.holding Tryz.prog os ⟨#[], #[], []⟩)) #[.string .empty] rfl (by kernel_rfl) (by kernel_rfl) (by kernel_rfl)
      (OpenSpec.preRow_of_cond 8 hx (by kernel_rfl) (fun k hk => by cases hk; kernel_rfl) (by kernel_rfl) (laid_met os))) ?_
  intro W base args ds gs before hval hW _ hcond _ hL _ _
  exact contract H enc W base args ds gs before hval hW hL (hcond _ rfl)

set_option maxHeartbeats 4000000 in
theorem said : Rows.CtxfmtParsesUptoSaid :=
  OpenClaim.holds_of_cond 5 Tryz.f5 rfl rfl rfl rfl rfl rfl rfl ⟨rfl, rfl, rfl, rfl, rfl⟩ rfl rfl rfl rfl rfl (by kernel_rfl) Tryz.func5 (by simp only [joinedFacts, Bool.and_eq_true]; (repeat' apply And.intro) <;> as_aux_lemma => kernel_rfl)
    (of_decide_eq_true (by kernel_rfl)) (by unfold Func.isWrapper; first | (rw [if_pos (by decide +kernel)]; kernel_rfl) | (rw [if_neg (by decide +kernel)]; exact ⟨rfl, rfl⟩))
    (fun os started H enc _ F => by rw [OpenClaim.pre_eq_preRow]; exact lifted os started H enc F)

theorem plain (f : FuncId) (fn : Func) (hf : Tryz.pinned.checked.prog.funcNamed "redline/redlinelaw15.CtxfmtParses" = some f) (hfn : Tryz.pinned.checked.prog.funcs[f]? = some fn) :
    true = Tryz.pinned.checked.prog.looks [] ∧ ∀ (j : Nat) t, fn.params[j]? = some t → Tryz.pinned.checked.prog.wantsStandIn t = false := by
  obtain rfl : f = 5 := Option.some.inj ((show Tryz.prog.funcNamed "redline/redlinelaw15.CtxfmtParses" = some 5 by kernel_rfl).symm.trans hf) |>.symm
  obtain rfl : fn = Tryz.f5 := (Option.some.inj (Tryz.func5.symm.trans hfn)).symm
  refine ⟨by kernel_rfl, fun j t ht => ?_⟩
  rw [Tryz.params5] at ht
  have hm : t = 9 := by simpa using Array.mem_of_getElem? ht
  rcases hm with rfl
  · exact (show Tryz.prog.wantsStandIn 9 = false by kernel_rfl)

theorem card : Rows.CtxfmtParsesUptoCardSaid :=
  Claim7.holds_tied_plain_at .later [] _ _ _ _ said (fun _ h => by cases h) (by kernel_rfl) (fun _ h => by cases h) ctxfmtParsesUpto_row_tie rfl ⟨rfl, rfl⟩ (by kernel_rfl) rfl plain (by kernel_rfl)
#print axioms card
end Go.Proofs.YtgiojkhmkeocfaaGreatDoor.ctxfmtParses
