/-
  For every list of changes and every two lists of texts of together at most 1048576 letters and values, the law EditsApplies returns true and leaves its arguments as they were: edits.Apply answers as the plain reference does, what it hands out is new memory, and the texts stay as they are. The condition is the statement's own bound on what comes in; nothing else is asked.
-/
import Derived.Test.YtoacmaloiaeniaaPartK1
import Derived.Test.YtoacmaloiaeniaaPartH1
namespace Go.Proofs.Ytoacmaloiaeniaa.editsApplies
open Go.ChangeShapes Go.WideShapes Go.ChangeAt Go.RowKit

set_option maxRecDepth 10000 in
set_option maxHeartbeats 4000000 in
theorem walk (l : List Ch) (A B : List (List UInt8)) (v va vb : Value) (w : World) (hlen : l.length ≤ 1048576) (hA : A.length ≤ 1048576) (hBl : B.length ≤ 1048576) (hl : HCh w v l) (ha : HS w va A) (hb : HS w vb B) :
    Calls Try.prog 4 #[v, va, vb] w fun e w' => e = .returned (.bool true) ∧ Below w.heap.size w w' := by
  obtain ⟨ao, ca, rfl⟩ := Holds.form hl
  obtain ⟨aa, caa, rfl⟩ := Holds.form ha
  obtain ⟨ab, cab, rfl⟩ := Holds.form hb
  go_enter Try.func4, Try.ntmps4
  go_wp2_with (at_builtin; refine wpList_append_h _ (by kernel_rfl) (.tmp 14) (.tmp 15) 34 9 (.string ⟨#[]⟩) 1 16 rfl Try.underlying34 infoStr rfl (by decide) (by decide) w.heap.size _ 0 [] rfl (nil_row_new _ _ _ rfl (by omega)) _ A.length (scells A) rfl ?hold1 (by rw [scells_length, Nat.mul_one]) (scells_one A) (by omega) (by simp) ?_)
  case hold1 => exact HS.keep ha ((Below.refl _ w).alloc (Nat.le_refl _) _) (Nat.le_refl _)
  intro vc w1 hownc hgrow1
  have hB1 : Below w.heap.size w w1 := ((Below.refl _ w).alloc (Nat.le_refl _) _).grown hgrow1 (by simp) (fun j hj => by simp [Value.ownBlock] at hj; omega)
  have hsz1 := hB1.size
  have hc1 : HS w1 vc A := by simpa [HS] using holds_of hownc
  obtain ⟨co, cc, rfl⟩ := Holds.form hc1
  clear hownc hgrow1
  go_wp2_with (at_builtin; refine wpList_append_h _ (by kernel_rfl) (.tmp 17) (.tmp 18) 34 9 (.string ⟨#[]⟩) 1 16 rfl Try.underlying34 infoStr rfl (by decide) (by decide) w1.heap.size _ 0 [] rfl (nil_row_new _ _ _ rfl (by omega)) _ B.length (scells B) rfl ?hold2 (by rw [scells_length, Nat.mul_one]) (scells_one B) (by omega) (by simp) ?_)
  case hold2 => exact HS.keep (HS.keep hb hB1 (Nat.le_refl _)) ((Below.refl _ w1).alloc (Nat.le_refl _) _) (Nat.le_refl _)
  intro vd w2 hownd hgrow2
  have hB2 : Below w1.heap.size w1 w2 := ((Below.refl _ w1).alloc (Nat.le_refl _) _).grown hgrow2 (by simp) (fun j hj => by simp [Value.ownBlock] at hj; omega)
  have hsz2 := hB2.size
  have hd2 : HS w2 vd B := by simpa [HS] using holds_of hownd
  obtain ⟨do_, dc, rfl⟩ := Holds.form hd2
  have hc2 := HS.keep hc1 hB2 (Nat.le_refl _)
  have hB02 : Below w.heap.size w w2 := hB1.trans (hB2.mono hsz1)
  clear hownd hgrow2 hc1
  go_wp2_with (at_builtin; refine wpList_append_h _ (by kernel_rfl) (.tmp 21) (.tmp 22) 22 51 (.agg #[.int .i64 0, .int .i64 0, .int .i64 0, .int .i64 0]) 4 32 rfl Try.underlying22 infoCh rfl (by decide) (by decide) w2.heap.size _ 0 [] rfl (nil_row_new _ _ _ rfl (by omega)) _ l.length (chcells l) rfl ?hold3 (chcells_length l) (chcells_one l) (by omega) (by simp) ?_)
  case hold3 => exact HCh.keep (HCh.keep hl hB02 (Nat.le_refl _)) ((Below.refl _ w2).alloc (Nat.le_refl _) _) (Nat.le_refl _)
  intro vl w3 hownl hgrow3
  have hB3 : Below w2.heap.size w2 w3 := ((Below.refl _ w2).alloc (Nat.le_refl _) _).grown hgrow3 (by simp) (fun j hj => by simp [Value.ownBlock] at hj; omega)
  have hsz3 := hB3.size
  have hl3 : HCh w3 vl l := by simpa [HCh] using holds_of hownl
  obtain ⟨lo, lc, rfl⟩ := Holds.form hl3
  have hc3 := HS.keep hc2 hB3 (Nat.le_refl _)
  have hd3 := HS.keep hd2 hB3 (Nat.le_refl _)
  have hB03 : Below w.heap.size w w3 := hB02.trans (hB3.mono (by omega))
  have ha3 := HS.keep ha hB03 (Nat.le_refl _)
  have hb3 := HS.keep hb hB03 (Nat.le_refl _)
  have hl03 := HCh.keep hl hB03 (Nat.le_refl _)
  clear hownl hgrow3 hc2 hd2
  by_cases hS : Script l A.length B.length
  · have HSc : Hid (Script l A.length B.length) := hS
    clear hS
    have hxl : (applyL l A B).length ≤ 4398046511104 := Nat.le_trans (applyL_length l A B) (Nat.le_trans (Nat.mul_le_mul (show l.length + 1 ≤ 1048577 by omega) (show A.length + B.length ≤ 2097152 by omega)) (by decide))
    go_wp2_with fail
    refine (Apply_ok l A B _ _ _ w3 hl3 hc3 hd3 HSc.out hA hBl hlen).mono ?_
    rintro e w4 ⟨vx, rfl, hown4, hB4⟩
    have hx4 : HS w4 vx (applyL l A B) := holds_of hown4
    obtain ⟨xo, xc, rfl⟩ := Holds.form hx4
    have ha4 := HS.keep ha3 hB4 (Nat.le_refl _)
    have hb4 := HS.keep hb3 hB4 (Nat.le_refl _)
    have hl4 := HCh.keep hl03 hB4 (Nat.le_refl _)
    go_wp2_with fail
    refine (rApply_ok l A B _ _ _ w4 hl4 ha4 hb4 HSc.out hA hBl hlen).mono ?_
    rintro e w5 ⟨vy, rfl, hy5, hB5⟩
    obtain ⟨yo, yc, rfl⟩ := Holds.form hy5
    have hx5 := HS.keep hx4 hB5 (Nat.le_refl _)
    go_wp2_with fail
    refine (SameS_any _ _ (applyL l A B) w5 hxl hx5 hy5).mono ?_
    rintro e w6 ⟨rfl, hB6⟩
    have hB46 : Below w4.heap.size w4 w6 := hB5.trans (hB6.mono hB5.size)
    have hB36 : Below w3.heap.size w3 w6 := hB4.trans (hB46.mono hB4.size)
    have hown6 : w6.ownsRow w3.heap.size 9 1 (.slice xo (applyL l A B).length xc) (applyL l A B).length (scells (applyL l A B)) := owns_keep hown4 hB46
    go_wp2
    go_loopw [13] (fun iv wr => ∃ (k : Nat) (Y : List Value), k ≤ (applyL l A B).length ∧ iv = .int .i64 k ∧ wr.ownsRow w3.heap.size 9 1 (.slice xo (applyL l A B).length xc) (applyL l A B).length Y ∧ Below w3.heap.size w3 wr) (fun iv _ => (applyL l A B).length - (intOf iv).toNat)
    case atStart => exact ⟨0, _, Nat.zero_le _, rfl, hown6, hB36⟩
    case round =>
      obtain ⟨k, Y, hk, rfl, hO, hBr⟩ := hrel
      have hszr := hBr.size
      by_cases hlt : k < (applyL l A B).length
      · obtain ⟨g, hge⟩ : ∃ g, xo = some ⟨g, 0, none⟩ := by
          rcases hO.2 with ⟨_, h0⟩ | ⟨g, cap, cur, q1, _⟩
          · omega
          · cases q1; exact ⟨g, rfl⟩
        subst hge
        have hcl := hO.cellAt k (by omega)
        have hyl : k < Y.length := by rw [hO.1]; omega
        rw [List.getElem?_eq_getElem hyl] at hcl
        have hfz := hO.frozenAt k
        obtain ⟨hO2, hg2⟩ := hO.stored k (.string ⟨#[115, 112, 111, 105, 108, 116]⟩)
        have hgl : w3.heap.size ≤ g := owns_ge hO rfl
        have i1 : 0 ≤ (k : Int) := by omega
        have i2 : (k : Int) < ((applyL l A B).length : Int) := by omega
        obtain ⟨yk, hyk⟩ : ∃ yk, Y[k] = yk := ⟨_, rfl⟩
        rw [hyk] at hcl
        clear hyk
        go_wp2
        go_roundw
        case rel => exact ⟨k + 1, _, by omega, by go_num, hO2, hBr.grown hg2 hszr (fun j hj => by cases hj; exact hgl)⟩
        case measure => simp [intOf]; omega
      · have ha7 := HS.keep ha3 hBr (Nat.le_refl _)
        have hc7 := HS.keep hc3 hBr (Nat.le_refl _)
        go_wp2_with fail
        refine (SameS_any _ _ A wr (by omega) ha7 hc7).mono ?_
        rintro e w7 ⟨rfl, hB7⟩
        have hb8 := HS.keep (HS.keep hb3 hBr (Nat.le_refl _)) hB7 (Nat.le_refl _)
        have hd8 := HS.keep (HS.keep hd3 hBr (Nat.le_refl _)) hB7 (Nat.le_refl _)
        go_wp2_with fail
        refine (SameS_any _ _ B w7 (by omega) hb8 hd8).mono ?_
        rintro e w8 ⟨rfl, hB8⟩
        go_wp2
        go_ret
        exact ⟨rfl, hB03.trans ((hBr.trans ((hB7.trans (hB8.mono hB7.size)).mono hszr)).mono (by omega))⟩
  · go_wp2_with fail
    refine (Apply_no l A B _ _ _ w3 hl3 hc3 hd3 hS hA hBl hlen).mono ?_
    rintro e w4 ⟨rfl, hB4⟩
    have ha4 := HS.keep ha3 hB4 (Nat.le_refl _)
    have hb4 := HS.keep hb3 hB4 (Nat.le_refl _)
    have hl4 := HCh.keep hl03 hB4 (Nat.le_refl _)
    go_wp2_with fail
    refine (rApply_no l A B _ _ _ w4 hl4 ha4 hb4 hS hA hBl hlen).mono ?_
    rintro e w5 ⟨rfl, hB5⟩
    go_wp2_with fail
    refine (SameS_any _ _ [] w5 (by simp) (Holds.nil _) (Holds.nil _)).mono ?_
    rintro e w6 ⟨rfl, hB6⟩
    have hB36 : Below w3.heap.size w3 w6 := hB4.trans ((hB5.trans (hB6.mono hB5.size)).mono hB4.size)
    go_wp2
    go_loopw [13] (fun iv wr => ∃ (k : Nat) (Y : List Value), k ≤ 0 ∧ iv = .int .i64 k ∧ wr.ownsRow w3.heap.size 9 1 (.slice none 0 0) 0 Y ∧ Below w3.heap.size w3 wr) (fun iv _ => 0 - (intOf iv).toNat)
    case atStart => exact ⟨0, _, Nat.zero_le _, rfl, World.ownsRow_nil _ _ _ _, hB36⟩
    case round =>
      obtain ⟨k, Y, hk, rfl, hO, hBr⟩ := hrel
      have hszr := hBr.size
      by_cases hlt : k < 0
      · omega
      · have ha7 := HS.keep ha3 hBr (Nat.le_refl _)
        have hc7 := HS.keep hc3 hBr (Nat.le_refl _)
        go_wp2_with fail
        refine (SameS_any _ _ A wr (by omega) ha7 hc7).mono ?_
        rintro e w7 ⟨rfl, hB7⟩
        have hb8 := HS.keep (HS.keep hb3 hBr (Nat.le_refl _)) hB7 (Nat.le_refl _)
        have hd8 := HS.keep (HS.keep hd3 hBr (Nat.le_refl _)) hB7 (Nat.le_refl _)
        go_wp2_with fail
        refine (SameS_any _ _ B w7 (by omega) hb8 hd8).mono ?_
        rintro e w8 ⟨rfl, hB8⟩
        go_wp2
        go_ret
        exact ⟨rfl, hB03.trans ((hBr.trans ((hB7.trans (hB8.mono hB7.size)).mono hszr)).mono (by omega))⟩

theorem contract (H : Type) (enc : TypeId × Value → H) (W : World) (base : Nat) (args : Array Value) (ds gs : List (DataW H)) (before : List MemPlace)
    (hval : ∀ (j : Nat) t v, Try.f4.params[j]? = some t → args[j]? = some v → Value.okWide Try.prog W .any base t v)
    (hW : DataW.Whole enc Try.prog Try.f4.params.toList Rows.editsAppliesSpec.vars false W args.toList ds gs before) (hk : Rows.uptoSmall H (ds ++ gs) = true) :
    Calls Try.prog 4 args W fun e W' => ∃ v, e = .returned v ∧ Rows.editsAppliesSpec.post enc Try.prog Try.f4 false true false false W args v W' := by
  have hW' := hW
  obtain ⟨p, q, hA0, hV, rfl, hfz, hnd⟩ := hW
  have hA : DataW.TrodAll enc Try.prog W 0 (fun _ => true) true Try.f4.params.toList args.toList ds p := hA0
  rw [Try.params4] at hA hval
  obtain ⟨v0, vs0, d0, ds0, p0, q0, hargs, rfl, rfl, h0, r0⟩ := trodAll_cons hA
  obtain ⟨v1, vs1, d1, ds1, p1, q1, rfl, rfl, rfl, h1, r1⟩ := trodAll_cons r0
  obtain ⟨v2, vs2, d2, ds2, p2, q2, rfl, rfl, rfl, h2, r2⟩ := trodAll_cons r1
  obtain ⟨rfl, rfl, rfl⟩ := trodAll_nil r2
  obtain rfl : args = #[v0, v1, v2] := by cases args; simp_all
  obtain ⟨rfl, rfl⟩ := trodVars_none hV
  obtain ⟨a0, len0, cap0, rfl⟩ := okWide_slice Try.underlying22 (hval 0 22 v0 rfl rfl)
  have k0 := h0
  have lt0 : ∀ x ∈ p0, x.block < W.heap.size := by obtain ⟨m, hm⟩ := k0; exact DataW.trod_lt m _ _ _ hm
  obtain ⟨a1, len1, cap1, rfl⟩ := okWide_slice Try.underlying34 (hval 1 34 v1 rfl rfl)
  have k1 := h1
  have lt1 : ∀ x ∈ p1, x.block < W.heap.size := by obtain ⟨m, hm⟩ := k1; exact DataW.trod_lt m _ _ _ hm
  obtain ⟨a2, len2, cap2, rfl⟩ := okWide_slice Try.underlying34 (hval 2 34 v2 rfl rfl)
  have k2 := h2
  have lt2 : ∀ x ∈ p2, x.block < W.heap.size := by obtain ⟨m, hm⟩ := k2; exact DataW.trod_lt m _ _ _ hm
  clear hA0
  simp only [List.append_nil] at hk
  have hbk : Rows.uptoBulkAll [d0, d1, d2] ≤ 1048576 := of_decide_eq_true hk
  simp only [Rows.uptoBulkAll] at hbk
  obtain ⟨f0, hf0⟩ := h0
  obtain ⟨ws0, hv0, hwl0, hwf0⟩ := open_chs (by simpa [Value.cells] using hf0)
  obtain ⟨f1, hf1⟩ := h1
  obtain ⟨ws1, hv1, hwl1⟩ := open_texts (by simpa [Value.cells] using hf1)
  obtain ⟨f2, hf2⟩ := h2
  obtain ⟨ws2, hv2, hwl2⟩ := open_texts (by simpa [Value.cells] using hf2)
  have hw := walk ws0 ws1 ws2 (.slice a0 len0 cap0) (.slice a1 len1 cap1) (.slice a2 len2 cap2) W (by omega) (by omega) (by omega) hv0 hv1 hv2
  refine hw.mono fun e W' ⟨he, bel⟩ => ?_
  subst he
  exact ⟨_, rfl, _, _, _, [], _, [], hW', trodAll_mk1 (shut_bool Try.underlying4 _), trodAll_cons_mk (Below.trod laidOut (by kernel_rfl) (of_decide_eq_true (by kernel_rfl)) k0 bel lt0) (trodAll_cons_mk (Below.trod laidOut (by kernel_rfl) (of_decide_eq_true (by kernel_rfl)) k1 bel lt1) (trodAll_cons_mk (Below.trod laidOut (by kernel_rfl) (of_decide_eq_true (by kernel_rfl)) k2 bel lt2) trodAll_mk0)), rfl, bel.frame _, fun h => by cases h⟩

set_option maxRecDepth 100000 in
theorem lifted (os : Os) (started : os.Started) (H : Type) (enc : TypeId × Value → H) (F : Stop.Interp) :
    ReturnsInHanded {} Try.checked os 4 .any ((Rows.OpenSpec.upto Rows.editsAppliesSpec).pre6 enc Try.prog Try.f4 Rows.editsAppliesUptoRow.domain false) (((Rows.OpenSpec.upto Rows.editsAppliesSpec).at F).post enc Try.prog Try.f4 false true false false) := by
  refine returnsInHanded_of_cond (C := Try.checked) (s := Rows.OpenSpec.upto Rows.editsAppliesSpec) (k := Rows.uptoSmall) rfl own started (by kernel_rfl) Try.func4
    (OpenSpec.witness (enc := enc) (C := Try.checked) (s := Rows.OpenSpec.upto Rows.editsAppliesSpec) (k := Rows.uptoSmall) rfl false ⟨#[], #[.slice none 0 0, .slice none 0 0, .slice none 0 0], []⟩ 8 (by kernel_rfl) (by kernel_rfl) (by kernel_rfl)
      (x := ([.nil, .nil, .nil], [], [])) (by kernel_rfl) rfl (by kernel_rfl)) ?_
  intro W base args ds gs before hval hW _ hk _
  exact contract H enc W base args ds gs before hval hW hk

theorem proved : Rows.EditsAppliesUptoSaid :=
  OpenClaim.holds_of_cond 4 Try.f4 rfl rfl rfl rfl rfl rfl rfl ⟨rfl, rfl, rfl, rfl, rfl⟩ rfl rfl rfl rfl rfl (by kernel_rfl) Try.func4 (by kernel_rfl)
    (of_decide_eq_true (by kernel_rfl)) (by unfold Func.isWrapper; first | (rw [if_pos (by decide +kernel)]; kernel_rfl) | (rw [if_neg (by decide +kernel)]; exact ⟨rfl, rfl⟩))
    (fun os started H enc _ F => lifted os started H enc F)
#print axioms proved
end Go.Proofs.Ytoacmaloiaeniaa.editsApplies
