/-
  Texts that belong together, joined: HuC4.
-/
import Derived.Test.YtgckcbcdmmnkoaaGreatDoorPartA5
import Derived.Laws.Slices

/- The code's Invert of layer 11, walked. -/
set_option maxRecDepth 20000
namespace Go.Proofs.YtgckcbcdmmnkoaaGreatDoor
open Go.RowKit

theorem run_slM0 (ao : Option Addr) (n cap : Nat) (u : World) : (Instr.slice 37 (.slice ao n cap) none (some (.int .i64 0)) none).run Tryz.prog u = .ok (.slice ao 0 cap) u := by
  rw [run_slice_h (P := Tryz.prog) u 37 ao n cap (by kernel_rfl) .i64 0 (by omega) (by omega)]
  have : (sizeOf (Tryz.prog.elem 37)).run Tryz.prog u = .ok 2 u := by kernel_rfl
  rw [this]
  cases ao with
  | none => simp [Result.andThen, sliced]
  | some ad => simp [Result.andThen, sliced, show ad.add 0 = ad by unfold Addr.add; split <;> simp_all]
theorem own_zero {u : World} {B : Nat} {e : TypeId} {s : Nat} {ao : Option Addr} {n c : Nat} {xs : List Value} (h : u.ownsRow B e s (.slice ao n c) n xs) : u.ownsRow B e s (.slice ao 0 c) 0 [] := by
  refine ⟨by simp, ?_⟩
  rcases h.2 with ⟨q, _⟩ | ⟨g, cap, cur, q1, q2, q3, q4, q5, q6, _⟩
  · cases q
    exact .inl ⟨rfl, rfl⟩
  · cases q1
    exact .inr ⟨g, c, cur, rfl, q2, q3, Nat.zero_le _, q5, q6, by simp⟩
theorem iv_lastz {w : World} {q : Hk} {ov ov' : Value} {x x' y : List Mk} {u u' : World} {ao : Option Addr} {ac : Nat} (h : Iv w q ov x (.slice ao y.length ac) y u) (hg : u.grownBy u' ov.ownBlock) (ho : u'.ownsRow (w.heap.size + 1) 52 2 ov' x'.length (mkcells x')) (hb : ov'.ownBlock = ov.ownBlock ∨ ∃ j, ov'.ownBlock = some j ∧ u.heap.size ≤ j) : Hx u' w.heap.size q ov ∧ Iv w q ov' x' (.slice ao 0 ac) [] (u'.setCell ⟨w.heap.size, 4, none⟩ ov') := by
  have hbx : Hx u' w.heap.size q ov := h.box.keep hg (fun e => by have := owns_ge h.own e.symm; omega)
  have hadd := own_kept h.add hg (fun k hk => h.ne k hk)
  have hs := grown_set u' w.heap.size 4 ov'
  have hlow : Below w.heap.size w u' := h.low.grown hg h.low.size (fun j hj => by have := owns_ge h.own hj; omega)
  refine ⟨hbx, hlow.grown hs hlow.size (fun j hj => by cases hj; exact Nat.le_refl _), hbx.setl ov', own_kept ho hs ?_, own_zero (own_kept hadd hs ?_), ?_⟩
  · intro k hk e
    cases hk
    have := owns_ge ho e
    omega
  · intro k hk e
    cases hk
    have := owns_ge h.add e
    omega
  · intro g hg' e
    have e' : (Value.slice ao y.length ac).ownBlock = some g := by cases ao <;> exact e
    rcases hb with hb | ⟨j, hb, hj⟩
    · rw [hb] at hg'
      exact h.ne g hg' e'
    · rw [hb] at hg'
      cases hg'
      have := own_lt h.add e'
      omega

set_option maxRecDepth 10000 in
set_option maxHeartbeats 8000000 in
theorem hInvert_f (h : Hk) (v : Value) (w : World) (hv : HMk w v h.ls) (hl : h.ls.length ≤ 549755813888) (R : List Mk) (HR : Hid (invG [] h.ls = R)) : Calls Tryz.prog 19 #[hkV h v] w fun e w' => ∃ v', e = .returned (hkV ⟨h.B, h.BN, h.A, h.AN, R⟩ v') ∧ w'.ownsRow w.heap.size 52 2 v' R.length (mkcells R) ∧ Below w.heap.size w w' := by
  obtain ⟨A, AN, B, BN, ls⟩ := h
  dsimp only at hv hl HR ⊢
  obtain ⟨lo, lc, rfl⟩ := HMk.form hv
  have hx := Hx.new w ⟨A, AN, B, BN, ls⟩ (.slice lo ls.length lc)
  have hB1 : Below w.heap.size w (w.alloc (hkO ⟨A, AN, B, BN, ls⟩ (.slice lo ls.length lc))) := (Below.refl _ w).alloc (Nat.le_refl _) _
  have hBz : Below (w.alloc (hkO ⟨A, AN, B, BN, ls⟩ (.slice lo ls.length lc))).heap.size (w.alloc (hkO ⟨A, AN, B, BN, ls⟩ (.slice lo ls.length lc))) ((w.alloc (hkO ⟨A, AN, B, BN, ls⟩ (.slice lo ls.length lc))).alloc (hkO ⟨0, 0, 0, 0, []⟩ (.slice none 0 0))) := (Below.refl _ _).alloc (Nat.le_refl _) _
  have hx2 := hx.low hBz
  have hB2 := hB1.trans (hBz.mono hB1.size)
  have hv2 := HMk.keep hv hB2 (Nat.le_refl _)
  have hz2 : Hx ((w.alloc (hkO ⟨A, AN, B, BN, ls⟩ (.slice lo ls.length lc))).alloc (hkO ⟨0, 0, 0, 0, []⟩ (.slice none 0 0))) (w.heap.size + 1) ⟨0, 0, 0, 0, []⟩ (.slice none 0 0) := alloc_second w _ _
  obtain ⟨x0, x1, x2, x3, x4⟩ := hx2.cells
  have HSZ : Hid (((w.alloc (hkO ⟨A, AN, B, BN, ls⟩ (.slice lo ls.length lc))).alloc (hkO ⟨0, 0, 0, 0, []⟩ (.slice none 0 0))).heap.size = w.heap.size + 1 + 1) := (by show _ = _; simp)
  have hW0 : (w.alloc (hkO ⟨A, AN, B, BN, ls⟩ (.slice lo ls.length lc))).alloc (hkO ⟨0, 0, 0, 0, []⟩ (.slice none 0 0)) = (w.alloc (Obj.cells #[Value.int IntKind.i64 A, Value.int IntKind.i64 AN, Value.int IntKind.i64 B, Value.int IntKind.i64 BN, .slice lo ls.length lc] 39)).alloc (Obj.cells #[Value.int IntKind.i64 0, Value.int IntKind.i64 0, Value.int IntKind.i64 0, Value.int IntKind.i64 0, .slice none 0 0] 39) := rfl
  unfold hkV
  dsimp only at x0 x1 x2 x3 x4 ⊢
  clear hx hB1 hBz hv
  generalize (w.alloc (hkO ⟨A, AN, B, BN, ls⟩ (.slice lo ls.length lc))).alloc (hkO ⟨0, 0, 0, 0, []⟩ (.slice none 0 0)) = W at *
  have hW := hW0.symm
  clear hW0
  have hI : Iv W ⟨B, BN, A, AN, []⟩ (.slice none 0 0) [] (.slice none 0 0) [] (W.alloc (hkO ⟨B, BN, A, AN, []⟩ (.slice none 0 0))) :=
    ⟨(Below.refl _ W).alloc (Nat.le_refl _) _, Hx.new W _ _, hnil_row _ _ _ _, hnil_row _ _ _ _, fun g e => by cases e⟩
  have y4 := (hx2.low hI.low).cells.2.2.2.2
  unfold hkO at y4
  dsimp only at y4
  go_enter Tryz.func19, Tryz.ntmps19
  go_wp2
  have hW1 : W.alloc (Obj.cells #[Value.int IntKind.i64 B, Value.int IntKind.i64 BN, Value.int IntKind.i64 A, Value.int IntKind.i64 AN, .slice none 0 0] 39) = W.alloc (hkO ⟨B, BN, A, AN, []⟩ (.slice none 0 0)) := rfl
  rw [hW1]
  clear hW1 hW x0 x1 x2 x3 x4 y4
  generalize W.alloc (hkO ⟨B, BN, A, AN, []⟩ (.slice none 0 0)) = W1 at *
  go_loopw [4, 19] (fun av iv wr => ∃ (k : Nat) (ov : Value) (x y : List Mk), k ≤ ls.length ∧ iv = .int .i64 (k : Int) ∧ (∃ oo oc, ov = .slice oo x.length oc) ∧ (∃ ao ac, av = .slice ao y.length ac) ∧ x.length + y.length ≤ k ∧ Iv W ⟨B, BN, A, AN, []⟩ ov x av y wr ∧ Hid (x ++ invG y (ls.drop k) = R)) (fun _ iv _ => ls.length - (intOf iv).toNat)
  case atStart => exact ⟨0, _, [], [], Nat.zero_le _, by go_num, ⟨_, _, rfl⟩, ⟨_, _, rfl⟩, Nat.le_refl _, hI, HR⟩
  case round =>
    obtain ⟨k, ov, x, y, hk, rfl, ⟨oo, oc, rfl⟩, ⟨ao, ac, rfl⟩, hxy, hI1, HI⟩ := hrel
    clear hI HR
    obtain ⟨x0, x1, x2, x3, x4⟩ := (hx2.low hI1.low).cells
    obtain ⟨b0, b1, b2, b3, b4⟩ := hI1.box.cells
    by_cases hlt : k < ls.length
    · obtain ⟨b, off, rfl, hb, _⟩ := HMk.at hv2 (by omega)
      obtain ⟨m, hm⟩ : ∃ m, ls[k] = m := ⟨_, rfl⟩
      obtain ⟨c0, c1⟩ := Low.mk hI1.low hv2 k hlt hm
      have HI2 : Hid (x ++ (if m.sg = 43 then ⟨45, m.tx⟩ :: invG y (ls.drop (k + 1)) else if m.sg = 45 then invG (y ++ [⟨43, m.tx⟩]) (ls.drop (k + 1)) else y ++ m :: invG [] (ls.drop (k + 1))) = R) := (by
        show _ = _
        rw [← HI.out, List.drop_eq_getElem_cons hlt, hm]
        rfl)
      have i1 : 0 ≤ (k : Int) := by omega
      have i2 : (k : Int) < (ls.length : Int) := by omega
      have hsW := hI1.low.size
      have hmx := Mx.new wr m
      have hI2 := hI1.alloc (mkO m)
      have hBm : Below wr.heap.size wr (wr.alloc (mkO m)) := (Below.refl _ wr).alloc (Nat.le_refl _) _
      obtain ⟨m0, m1⟩ := hmx.cells
      obtain ⟨d0, d1, d2, d3, d4⟩ := hI2.box.cells
      have HSM : Hid ((wr.alloc (mkO m)).heap.size = wr.heap.size + 1) := (by show _ = _; simp)
      have hW2 : wr.alloc (Obj.cells #[Value.int IntKind.u8 m.sg, Value.string ⟨m.tx.toArray⟩] 52) = wr.alloc (mkO m) := rfl
      have hlts := hI1.own
      clear HI hm
      go_upto_region 6 with fail
      obtain ⟨sg, tx⟩ := m
      dsimp only at m0 m1 c0 c1 HI2 hW2
      generalize hwr1 : wr.alloc (mkO ⟨sg, tx⟩) = wr1 at *
      clear hW2
      by_cases h1 : sg = 43
      · subst h1
        have HI3 : Hid (x ++ [⟨45, tx⟩] ++ invG y (ls.drop (k + 1)) = R) := (by
          have h := HI2.out
          show _ = _
          rw [if_pos rfl] at h
          rw [← h]
          simp)
        have hI3 := hI2.alloc (mkO ⟨45, tx⟩)
        have hrow := mk_row wr1 ⟨45, tx⟩
        have hW3 : wr1.alloc (Obj.cells #[Value.int IntKind.u8 45, Value.string ⟨tx.toArray⟩] 52) = wr1.alloc (mkO ⟨45, tx⟩) := rfl
        have HS3 : Hid ((wr1.alloc (mkO ⟨45, tx⟩)).heap.size = wr1.heap.size + 1) := (by show _ = _; simp)
        have hs1 := hI2.low.size
        clear HI2
        go_wp2_with (at_builtin; refine wpList_append_w _ (by kernel_rfl) (.tmp 38) (.tmp 42) 37 52 (.agg #[.int .u8 0, .string ⟨#[]⟩]) 2 24 rfl Tryz.underlying37 infoMk rfl (by decide) (by decide) (W.heap.size + 1) _ _ _ rfl hI3.own _ 1 (mkcells [⟨45, tx⟩]) rfl hrow (mkcells_length _) (mkcells_one _) (by omega) (by have := HS3.out; have := HSM.out; omega) ?_)
        intro v3 u3 hown3 hg3 hb3
        rw [← mkcells_append] at hown3
        obtain ⟨o3, c3, rfl⟩ := (holds_of hown3).form
        obtain ⟨hbx3, hI4⟩ := hI3.grow (x' := x ++ [⟨45, tx⟩]) hg3 (by rw [List.length_append]; exact hown3) (by rw [HS3.out]; exact hb3)
        obtain ⟨f0, f1, f2, f3, f4⟩ := hbx3.cells
        have ff := hbx3.frozen 4
        clear hW3 hg3 hown3
        go_wp2
        exact ⟨⟨k + 1, _, x ++ [⟨45, tx⟩], y, by omega, by go_num, ⟨_, _, by rw [List.length_append]; rfl⟩, ⟨_, _, rfl⟩, by simp; omega, hI4, HI3⟩, by simp [intOf]; omega⟩
      · have e1 : (sg == 43) = false := by simpa using h1
        by_cases h2 : sg = 45
        · subst h2
          have HI3 : Hid (x ++ invG (y ++ [⟨43, tx⟩]) (ls.drop (k + 1)) = R) := (by
            have h := HI2.out
            show _ = _
            rw [if_neg (by decide), if_pos rfl] at h
            exact h)
          have hI3 := hI2.alloc (mkO ⟨43, tx⟩)
          have hrow := mk_row wr1 ⟨43, tx⟩
          have hW3 : wr1.alloc (Obj.cells #[Value.int IntKind.u8 43, Value.string ⟨tx.toArray⟩] 52) = wr1.alloc (mkO ⟨43, tx⟩) := rfl
          have HS3 : Hid ((wr1.alloc (mkO ⟨43, tx⟩)).heap.size = wr1.heap.size + 1) := (by show _ = _; simp)
          have hs1 := hI2.low.size
          clear HI2
          go_wp2_with (at_builtin; refine wpList_append_w _ (by kernel_rfl) (.tmp 47) (.tmp 51) 37 52 (.agg #[.int .u8 0, .string ⟨#[]⟩]) 2 24 rfl Tryz.underlying37 infoMk rfl (by decide) (by decide) (W.heap.size + 1) _ _ _ rfl hI3.add _ 1 (mkcells [⟨43, tx⟩]) rfl hrow (mkcells_length _) (mkcells_one _) (by omega) (by have := HS3.out; have := HSM.out; omega) ?_)
          intro v3 u3 hown3 hg3 hb3
          rw [← mkcells_append] at hown3
          obtain ⟨o3, c3, rfl⟩ := (holds_of hown3).form
          have hI4 := hI3.wait (y' := y ++ [⟨43, tx⟩]) hg3 (by rw [List.length_append]; exact hown3) (by rw [HS3.out]; exact hb3)
          clear hW3 hg3 hown3
          go_wp2
          exact ⟨⟨k + 1, _, x, y ++ [⟨43, tx⟩], by omega, by go_num, ⟨_, _, rfl⟩, ⟨_, _, by rw [List.length_append]; rfl⟩, by simp; omega, hI4, HI3⟩, by simp [intOf]; omega⟩
        · have e2 : (sg == 45) = false := by simpa using h2
          have HI3 : Hid (x ++ (y ++ [⟨sg, tx⟩]) ++ invG [] (ls.drop (k + 1)) = R) := (by
            have h := HI2.out
            show _ = _
            rw [if_neg h1, if_neg h2] at h
            rw [← h]
            simp)
          clear HI2
          go_upto_region 7 with fail
          have hsd := hI2.low.size
          have hsm := HSM.out
          have hdr : (wr1.drewN 1).heap.size = wr1.heap.size := rfl
          have hdr2 : ((wr1.drewN 1).alloc (mkO ⟨sg, tx⟩)).heap.size = wr1.heap.size + 1 := by simp
          obtain ⟨v3, u3, hr3, hown3, hg3, hb3⟩ := run_append_w (wr1.drewN 1) 37 52 37 (.agg #[.int .u8 0, .string ⟨#[]⟩]) 2 24 Tryz.underlying37 infoMk rfl (by decide) (by decide) (W.heap.size + 1) _ _ _ (hI2.own) _ y.length (mkcells y) (holds_of hI2.add) (mkcells_length _) (mkcells_one _) (by first | omega | (simp; omega)) (by first | omega | (simp; omega))
          rw [← mkcells_append] at hown3
          obtain ⟨v6, u6, hr6, hown6, hg6, hb6⟩ := run_append_w ((wr1.drewN 1).alloc (mkO ⟨sg, tx⟩)) 37 52 37 (.agg #[.int .u8 0, .string ⟨#[]⟩]) 2 24 Tryz.underlying37 infoMk rfl (by decide) (by decide) (W.heap.size + 1) _ _ _ (hI2.own.alloc (mkO ⟨sg, tx⟩)) _ y.length (mkcells y) (holds_of (hI2.add.alloc (mkO ⟨sg, tx⟩))) (mkcells_length _) (mkcells_one _) (by first | omega | (simp; omega)) (by first | omega | (simp; omega))
          rw [← mkcells_append] at hown6
          have hS3 : wr1.grownBy u3 (Value.slice oo x.length oc).ownBlock := grown_then (grown_drewN (World.grownBy.refl _ _) 1) hg3 (.inl rfl)
          have hS6 : wr1.grownBy u6 (Value.slice oo x.length oc).ownBlock := grown_then (grown_alloc (grown_drewN (World.grownBy.refl _ _) 1) (mkO ⟨sg, tx⟩)) hg6 (.inl rfl)
          have hz3 := hg3.size
          have hz6 := hg6.size
          rw [hdr] at hz3
          rw [hdr2] at hz6
          have hrb3 : v3.ownBlock = (Value.slice oo x.length oc).ownBlock ∨ ∃ j, v3.ownBlock = some j ∧ wr1.heap.size ≤ j := (by
            rcases hb3 with h | h
            · exact .inl h
            · exact .inr ⟨_, h, Nat.le_refl _⟩)
          have hrb6 : v6.ownBlock = (Value.slice oo x.length oc).ownBlock ∨ ∃ j, v6.ownBlock = some j ∧ wr1.heap.size ≤ j := (by
            rcases hb6 with h | h
            · exact .inl h
            · exact .inr ⟨_, h, by simp⟩)
          have hob : ∀ j, (Value.slice oo x.length oc).ownBlock = some j → j < wr.heap.size := fun j hj => own_lt hI1.own hj
          have hrow3 : Holds (u3.alloc (mkO ⟨sg, tx⟩)) (.slice (some ⟨u3.heap.size, 0, none⟩) 1 1) 1 (mkcells [⟨sg, tx⟩]) := mk_row u3 ⟨sg, tx⟩
          have hrow6 : Holds u6 (.slice (some ⟨(wr1.drewN 1).heap.size, 0, none⟩) 1 1) 1 (mkcells [⟨sg, tx⟩]) := (by
            have hd := mk_row (wr1.drewN 1) ⟨sg, tx⟩
            refine .inr ⟨⟨(wr1.drewN 1).heap.size, 0, none⟩, 1, rfl, Nat.le_refl _, fun j z hj => ?_⟩
            rcases hd with ⟨h, _, _⟩ | ⟨ad, c, e, _, hc⟩
            · cases h
            · cases e
              have h1 := hc j z hj
              rw [World.cell?_of_block (w := ((wr1.drewN 1).alloc (mkO ⟨sg, tx⟩))) (hg6.block _ (World.block_lt_of_cell? _ _ h1) (fun e => ?_))]
              · exact h1
              · rw [add_none] at e
                have h2 : wr1.heap.size < wr.heap.size := hob _ e.symm
                omega)
          have hmD : Mx (wr1.drewN 1) wr.heap.size ⟨sg, tx⟩ := hmx
          have hm3 : Mx u3 wr.heap.size ⟨sg, tx⟩ := (hS3.block _ hmx.lt (fun e => by have := hob _ e.symm; omega)).trans hmx
          have hbD : (wr1.drewN 1).cell? ⟨W.heap.size, 4, none⟩ = some (.slice oo x.length oc) := hI2.box.cells.2.2.2.2
          have hbA : ((wr1.drewN 1).alloc (mkO ⟨sg, tx⟩)).cell? ⟨W.heap.size, 4, none⟩ = some (.slice oo x.length oc) := ((hI2.drewN 1).alloc (mkO ⟨sg, tx⟩)).box.cells.2.2.2.2
          obtain ⟨v4, u4, hr4, hown4, hg4, hb4⟩ := run_append_w (u3.alloc (mkO ⟨sg, tx⟩)) 37 52 37 (.agg #[.int .u8 0, .string ⟨#[]⟩]) 2 24 Tryz.underlying37 infoMk rfl (by decide) (by decide) (W.heap.size + 1) _ _ _ (hown3.alloc (mkO ⟨sg, tx⟩)) _ 1 (mkcells [⟨sg, tx⟩]) (hrow3) (mkcells_length _) (mkcells_one _) (by first | omega | (simp; omega)) (by first | omega | (simp; omega))
          rw [← mkcells_append] at hown4
          obtain ⟨v7, u7, hr7, hown7, hg7, hb7⟩ := run_append_w u6 37 52 37 (.agg #[.int .u8 0, .string ⟨#[]⟩]) 2 24 Tryz.underlying37 infoMk rfl (by decide) (by decide) (W.heap.size + 1) _ _ _ (hown6) _ 1 (mkcells [⟨sg, tx⟩]) (hrow6) (mkcells_length _) (mkcells_one _) (by first | omega | (simp; omega)) (by first | omega | (simp; omega))
          rw [← mkcells_append] at hown7
          have hS4 : wr1.grownBy u4 (Value.slice oo x.length oc).ownBlock := grown_then (grown_alloc hS3 _) hg4 hrb3
          obtain ⟨p4, q4, hv4⟩ := (holds_of hown4).form
          subst hv4
          have hrb4 : (Value.slice p4 (x.length + y.length + 1) q4).ownBlock = (Value.slice oo x.length oc).ownBlock ∨ ∃ j, (Value.slice p4 (x.length + y.length + 1) q4).ownBlock = some j ∧ wr1.heap.size ≤ j := (by
            rcases hb4 with h | h
            · rw [h]; exact hrb3
            · exact .inr ⟨_, h, by first | omega | (simp; omega)⟩)
          obtain ⟨hbx4, hI4⟩ := iv_lastz hI2 (x' := x ++ y ++ [⟨sg, tx⟩]) hS4 (by simp only [List.length_append]; exact hown4) hrb4
          have hS7 : wr1.grownBy u7 (Value.slice oo x.length oc).ownBlock := grown_then hS6 hg7 hrb6
          obtain ⟨p7, q7, hv7⟩ := (holds_of hown7).form
          subst hv7
          have hrb7 : (Value.slice p7 (x.length + y.length + 1) q7).ownBlock = (Value.slice oo x.length oc).ownBlock ∨ ∃ j, (Value.slice p7 (x.length + y.length + 1) q7).ownBlock = some j ∧ wr1.heap.size ≤ j := (by
            rcases hb7 with h | h
            · rw [h]; exact hrb6
            · exact .inr ⟨_, h, by first | omega | (simp; omega)⟩)
          obtain ⟨hbx7, hI7⟩ := iv_lastz hI2 (x' := x ++ y ++ [⟨sg, tx⟩]) hS7 (by simp only [List.length_append]; exact hown7) hrb7
          have r0 := run_slM0 ao y.length ac
          clear hrb4 hrb7 hS3 hS6 hrb3 hrb6 hob hrow3 hrow6 hg3 hg6 hb3 hb6 hown3 hown6 hown4 hown7 hS4 hS7 hg4 hg7 hb4 hb7
          refine wp_region_noPanic ?_
          refine wp_region_held_drew (S := fun _ => True) (by kernel_rfl) trivial (fun hHeld => ?_)
          refine go_take 0 25 _ (.pointer (some ⟨W.heap.size, 4, none⟩)) rfl (by kernel_rfl) (by kernel_rfl) (by kernel_rfl) (by kernel_rfl) (fun _ _ _ h => h) (Or.inl ⟨by kernel_rfl, fun u hu => by kernel_rfl⟩) hHeld ?_
          simp only [Act.put, List.setIfInBounds_toArray, List.set_cons_zero, List.set_cons_succ]
          refine go_take 2 27 _ (.slice ao y.length ac) rfl (by kernel_rfl) (by kernel_rfl) (by kernel_rfl) (by kernel_rfl) (fun _ _ _ h => h) (Or.inl ⟨by kernel_rfl, fun u hu => by kernel_rfl⟩) hHeld ?_
          simp only [Act.put, List.setIfInBounds_toArray, List.set_cons_zero, List.set_cons_succ]
          refine go_two 1 26 _ 4 29 _ rfl (by kernel_rfl) rfl (by kernel_rfl) (by kernel_rfl) (by kernel_rfl) (by kernel_rfl) (.slice oo x.length oc) (wr1.drewN 1) (load_mks hbD (.tmp 25) (by kernel_rfl) (by kernel_rfl)) trivial (.agg #[.int .u8 sg, .string ⟨tx.toArray⟩]) (wr1.drewN 1) (load_mk hmD (.tmp 6) (by kernel_rfl) (by kernel_rfl)) trivial ?_ ?_
          · simp only [Act.put, List.setIfInBounds_toArray, List.set_cons_zero, List.set_cons_succ]
            refine go_two 3 28 _ 4 29 _ rfl (by kernel_rfl) rfl (by kernel_rfl) (by kernel_rfl) (by kernel_rfl) (by kernel_rfl) (v3) u3 (exec_app (.tmp 26) (.tmp 27) (by kernel_rfl) (by kernel_rfl) (by kernel_rfl) hr3) trivial (.agg #[.int .u8 sg, .string ⟨tx.toArray⟩]) (wr1.drewN 1) (load_mk hmD (.tmp 6) (by kernel_rfl) (by kernel_rfl)) trivial ?_ ?_
            · simp only [Act.put, List.setIfInBounds_toArray, List.set_cons_zero, List.set_cons_succ]
              refine go_val 4 29 _ rfl (by kernel_rfl) (by kernel_rfl) (by kernel_rfl) (.agg #[.int .u8 sg, .string ⟨tx.toArray⟩]) u3 (load_mk hm3 (.tmp 6) (by kernel_rfl) (by kernel_rfl)) trivial ?_
              simp only [Act.put, List.setIfInBounds_toArray, List.set_cons_zero, List.set_cons_succ]
              refine go_val 5 30 _ rfl (by kernel_rfl) (by kernel_rfl) (by kernel_rfl) (.slice (some ⟨u3.heap.size, 0, none⟩) 1 1) (u3.alloc (mkO ⟨sg, tx⟩)) (by kernel_rfl) trivial ?_
              simp only [Act.put, List.setIfInBounds_toArray, List.set_cons_zero, List.set_cons_succ]
              refine go_val 6 31 _ rfl (by kernel_rfl) (by kernel_rfl) (by kernel_rfl) _ u4 (exec_app (.tmp 28) (.tmp 30) (by kernel_rfl) (by kernel_rfl) (by kernel_rfl) hr4) trivial ?_
              simp only [Act.put, List.setIfInBounds_toArray, List.set_cons_zero, List.set_cons_succ]
              refine go_take 7 32 _ (.pointer (some ⟨W.heap.size, 4, none⟩)) rfl (by kernel_rfl) (by kernel_rfl) (by kernel_rfl) (by kernel_rfl) (fun _ _ _ h => h) (Or.inl ⟨by kernel_rfl, fun u hu => by kernel_rfl⟩) hHeld ?_
              simp only [Act.put, List.setIfInBounds_toArray, List.set_cons_zero, List.set_cons_succ]
              refine go_skip 8 _ rfl (by kernel_rfl) (by kernel_rfl) (by kernel_rfl) (u4.setCell ⟨W.heap.size, 4, none⟩ (.slice p4 (x.length + y.length + 1) q4)) (exec_storeL (v := .slice p4 (x.length + y.length + 1) q4) (o' := p4) (n' := x.length + y.length + 1) (c' := q4) (hbx4.frozen 4) hbx4.cells.2.2.2.2 rfl (.tmp 32) (.tmp 31) (by kernel_rfl) (by kernel_rfl) (by kernel_rfl)) trivial ?_
              refine wpAnyH_done (by kernel_rfl) ?_ _
              refine NoPanic.normal ?_
              go_wp2
              exact ⟨⟨k + 1, _, x ++ y ++ [⟨sg, tx⟩], [], by omega, by go_num, ⟨_, _, by simp only [List.length_append]; rfl⟩, ⟨_, _, rfl⟩, by simp; omega, hI4, by have h := HI3.out; show _ = _; rw [← h]; simp⟩, by simp [intOf]; omega⟩
            · simp only [Act.put, List.setIfInBounds_toArray, List.set_cons_zero, List.set_cons_succ]
              refine go_two 3 28 _ 5 30 _ rfl (by kernel_rfl) rfl (by kernel_rfl) (by kernel_rfl) (by kernel_rfl) (by kernel_rfl) (v3) u3 (exec_app (.tmp 26) (.tmp 27) (by kernel_rfl) (by kernel_rfl) (by kernel_rfl) hr3) trivial (.slice (some ⟨(wr1.drewN 1).heap.size, 0, none⟩) 1 1) ((wr1.drewN 1).alloc (mkO ⟨sg, tx⟩)) (by kernel_rfl) trivial ?_ ?_
              · simp only [Act.put, List.setIfInBounds_toArray, List.set_cons_zero, List.set_cons_succ]
                refine go_val 5 30 _ rfl (by kernel_rfl) (by kernel_rfl) (by kernel_rfl) (.slice (some ⟨u3.heap.size, 0, none⟩) 1 1) (u3.alloc (mkO ⟨sg, tx⟩)) (by kernel_rfl) trivial ?_
                simp only [Act.put, List.setIfInBounds_toArray, List.set_cons_zero, List.set_cons_succ]
                refine go_val 6 31 _ rfl (by kernel_rfl) (by kernel_rfl) (by kernel_rfl) _ u4 (exec_app (.tmp 28) (.tmp 30) (by kernel_rfl) (by kernel_rfl) (by kernel_rfl) hr4) trivial ?_
                simp only [Act.put, List.setIfInBounds_toArray, List.set_cons_zero, List.set_cons_succ]
                refine go_take 7 32 _ (.pointer (some ⟨W.heap.size, 4, none⟩)) rfl (by kernel_rfl) (by kernel_rfl) (by kernel_rfl) (by kernel_rfl) (fun _ _ _ h => h) (Or.inl ⟨by kernel_rfl, fun u hu => by kernel_rfl⟩) hHeld ?_
                simp only [Act.put, List.setIfInBounds_toArray, List.set_cons_zero, List.set_cons_succ]
                refine go_skip 8 _ rfl (by kernel_rfl) (by kernel_rfl) (by kernel_rfl) (u4.setCell ⟨W.heap.size, 4, none⟩ (.slice p4 (x.length + y.length + 1) q4)) (exec_storeL (v := .slice p4 (x.length + y.length + 1) q4) (o' := p4) (n' := x.length + y.length + 1) (c' := q4) (hbx4.frozen 4) hbx4.cells.2.2.2.2 rfl (.tmp 32) (.tmp 31) (by kernel_rfl) (by kernel_rfl) (by kernel_rfl)) trivial ?_
                refine wpAnyH_done (by kernel_rfl) ?_ _
                refine NoPanic.normal ?_
                go_wp2
                exact ⟨⟨k + 1, _, x ++ y ++ [⟨sg, tx⟩], [], by omega, by go_num, ⟨_, _, by simp only [List.length_append]; rfl⟩, ⟨_, _, rfl⟩, by simp; omega, hI4, by have h := HI3.out; show _ = _; rw [← h]; simp⟩, by simp [intOf]; omega⟩
              · simp only [Act.put, List.setIfInBounds_toArray, List.set_cons_zero, List.set_cons_succ]
                refine go_val 3 28 _ rfl (by kernel_rfl) (by kernel_rfl) (by kernel_rfl) (v6) u6 (exec_app (.tmp 26) (.tmp 27) (by kernel_rfl) (by kernel_rfl) (by kernel_rfl) hr6) trivial ?_
                simp only [Act.put, List.setIfInBounds_toArray, List.set_cons_zero, List.set_cons_succ]
                refine go_val 6 31 _ rfl (by kernel_rfl) (by kernel_rfl) (by kernel_rfl) _ u7 (exec_app (.tmp 28) (.tmp 30) (by kernel_rfl) (by kernel_rfl) (by kernel_rfl) hr7) trivial ?_
                simp only [Act.put, List.setIfInBounds_toArray, List.set_cons_zero, List.set_cons_succ]
                refine go_take 7 32 _ (.pointer (some ⟨W.heap.size, 4, none⟩)) rfl (by kernel_rfl) (by kernel_rfl) (by kernel_rfl) (by kernel_rfl) (fun _ _ _ h => h) (Or.inl ⟨by kernel_rfl, fun u hu => by kernel_rfl⟩) hHeld ?_
                simp only [Act.put, List.setIfInBounds_toArray, List.set_cons_zero, List.set_cons_succ]
                refine go_skip 8 _ rfl (by kernel_rfl) (by kernel_rfl) (by kernel_rfl) (u7.setCell ⟨W.heap.size, 4, none⟩ (.slice p7 (x.length + y.length + 1) q7)) (exec_storeL (v := .slice p7 (x.length + y.length + 1) q7) (o' := p7) (n' := x.length + y.length + 1) (c' := q7) (hbx7.frozen 4) hbx7.cells.2.2.2.2 rfl (.tmp 32) (.tmp 31) (by kernel_rfl) (by kernel_rfl) (by kernel_rfl)) trivial ?_
                refine wpAnyH_done (by kernel_rfl) ?_ _
                refine NoPanic.normal ?_
                go_wp2
                exact ⟨⟨k + 1, _, x ++ y ++ [⟨sg, tx⟩], [], by omega, by go_num, ⟨_, _, by simp only [List.length_append]; rfl⟩, ⟨_, _, rfl⟩, by simp; omega, hI7, by have h := HI3.out; show _ = _; rw [← h]; simp⟩, by simp [intOf]; omega⟩
          · simp only [Act.put, List.setIfInBounds_toArray, List.set_cons_zero, List.set_cons_succ]
            refine go_two 1 26 _ 5 30 _ rfl (by kernel_rfl) rfl (by kernel_rfl) (by kernel_rfl) (by kernel_rfl) (by kernel_rfl) (.slice oo x.length oc) (wr1.drewN 1) (load_mks hbD (.tmp 25) (by kernel_rfl) (by kernel_rfl)) trivial (.slice (some ⟨(wr1.drewN 1).heap.size, 0, none⟩) 1 1) ((wr1.drewN 1).alloc (mkO ⟨sg, tx⟩)) (by kernel_rfl) trivial ?_ ?_
            · simp only [Act.put, List.setIfInBounds_toArray, List.set_cons_zero, List.set_cons_succ]
              refine go_two 3 28 _ 5 30 _ rfl (by kernel_rfl) rfl (by kernel_rfl) (by kernel_rfl) (by kernel_rfl) (by kernel_rfl) (v3) u3 (exec_app (.tmp 26) (.tmp 27) (by kernel_rfl) (by kernel_rfl) (by kernel_rfl) hr3) trivial (.slice (some ⟨(wr1.drewN 1).heap.size, 0, none⟩) 1 1) ((wr1.drewN 1).alloc (mkO ⟨sg, tx⟩)) (by kernel_rfl) trivial ?_ ?_
              · simp only [Act.put, List.setIfInBounds_toArray, List.set_cons_zero, List.set_cons_succ]
                refine go_val 5 30 _ rfl (by kernel_rfl) (by kernel_rfl) (by kernel_rfl) (.slice (some ⟨u3.heap.size, 0, none⟩) 1 1) (u3.alloc (mkO ⟨sg, tx⟩)) (by kernel_rfl) trivial ?_
                simp only [Act.put, List.setIfInBounds_toArray, List.set_cons_zero, List.set_cons_succ]
                refine go_val 6 31 _ rfl (by kernel_rfl) (by kernel_rfl) (by kernel_rfl) _ u4 (exec_app (.tmp 28) (.tmp 30) (by kernel_rfl) (by kernel_rfl) (by kernel_rfl) hr4) trivial ?_
                simp only [Act.put, List.setIfInBounds_toArray, List.set_cons_zero, List.set_cons_succ]
                refine go_take 7 32 _ (.pointer (some ⟨W.heap.size, 4, none⟩)) rfl (by kernel_rfl) (by kernel_rfl) (by kernel_rfl) (by kernel_rfl) (fun _ _ _ h => h) (Or.inl ⟨by kernel_rfl, fun u hu => by kernel_rfl⟩) hHeld ?_
                simp only [Act.put, List.setIfInBounds_toArray, List.set_cons_zero, List.set_cons_succ]
                refine go_skip 8 _ rfl (by kernel_rfl) (by kernel_rfl) (by kernel_rfl) (u4.setCell ⟨W.heap.size, 4, none⟩ (.slice p4 (x.length + y.length + 1) q4)) (exec_storeL (v := .slice p4 (x.length + y.length + 1) q4) (o' := p4) (n' := x.length + y.length + 1) (c' := q4) (hbx4.frozen 4) hbx4.cells.2.2.2.2 rfl (.tmp 32) (.tmp 31) (by kernel_rfl) (by kernel_rfl) (by kernel_rfl)) trivial ?_
                refine wpAnyH_done (by kernel_rfl) ?_ _
                refine NoPanic.normal ?_
                go_wp2
                exact ⟨⟨k + 1, _, x ++ y ++ [⟨sg, tx⟩], [], by omega, by go_num, ⟨_, _, by simp only [List.length_append]; rfl⟩, ⟨_, _, rfl⟩, by simp; omega, hI4, by have h := HI3.out; show _ = _; rw [← h]; simp⟩, by simp [intOf]; omega⟩
              · simp only [Act.put, List.setIfInBounds_toArray, List.set_cons_zero, List.set_cons_succ]
                refine go_val 3 28 _ rfl (by kernel_rfl) (by kernel_rfl) (by kernel_rfl) (v6) u6 (exec_app (.tmp 26) (.tmp 27) (by kernel_rfl) (by kernel_rfl) (by kernel_rfl) hr6) trivial ?_
                simp only [Act.put, List.setIfInBounds_toArray, List.set_cons_zero, List.set_cons_succ]
                refine go_val 6 31 _ rfl (by kernel_rfl) (by kernel_rfl) (by kernel_rfl) _ u7 (exec_app (.tmp 28) (.tmp 30) (by kernel_rfl) (by kernel_rfl) (by kernel_rfl) hr7) trivial ?_
                simp only [Act.put, List.setIfInBounds_toArray, List.set_cons_zero, List.set_cons_succ]
                refine go_take 7 32 _ (.pointer (some ⟨W.heap.size, 4, none⟩)) rfl (by kernel_rfl) (by kernel_rfl) (by kernel_rfl) (by kernel_rfl) (fun _ _ _ h => h) (Or.inl ⟨by kernel_rfl, fun u hu => by kernel_rfl⟩) hHeld ?_
                simp only [Act.put, List.setIfInBounds_toArray, List.set_cons_zero, List.set_cons_succ]
                refine go_skip 8 _ rfl (by kernel_rfl) (by kernel_rfl) (by kernel_rfl) (u7.setCell ⟨W.heap.size, 4, none⟩ (.slice p7 (x.length + y.length + 1) q7)) (exec_storeL (v := .slice p7 (x.length + y.length + 1) q7) (o' := p7) (n' := x.length + y.length + 1) (c' := q7) (hbx7.frozen 4) hbx7.cells.2.2.2.2 rfl (.tmp 32) (.tmp 31) (by kernel_rfl) (by kernel_rfl) (by kernel_rfl)) trivial ?_
                refine wpAnyH_done (by kernel_rfl) ?_ _
                refine NoPanic.normal ?_
                go_wp2
                exact ⟨⟨k + 1, _, x ++ y ++ [⟨sg, tx⟩], [], by omega, by go_num, ⟨_, _, by simp only [List.length_append]; rfl⟩, ⟨_, _, rfl⟩, by simp; omega, hI7, by have h := HI3.out; show _ = _; rw [← h]; simp⟩, by simp [intOf]; omega⟩
            · simp only [Act.put, List.setIfInBounds_toArray, List.set_cons_zero, List.set_cons_succ]
              refine go_val 1 26 _ rfl (by kernel_rfl) (by kernel_rfl) (by kernel_rfl) (.slice oo x.length oc) ((wr1.drewN 1).alloc (mkO ⟨sg, tx⟩)) (load_mks hbA (.tmp 25) (by kernel_rfl) (by kernel_rfl)) trivial ?_
              simp only [Act.put, List.setIfInBounds_toArray, List.set_cons_zero, List.set_cons_succ]
              refine go_val 3 28 _ rfl (by kernel_rfl) (by kernel_rfl) (by kernel_rfl) (v6) u6 (exec_app (.tmp 26) (.tmp 27) (by kernel_rfl) (by kernel_rfl) (by kernel_rfl) hr6) trivial ?_
              simp only [Act.put, List.setIfInBounds_toArray, List.set_cons_zero, List.set_cons_succ]
              refine go_val 6 31 _ rfl (by kernel_rfl) (by kernel_rfl) (by kernel_rfl) _ u7 (exec_app (.tmp 28) (.tmp 30) (by kernel_rfl) (by kernel_rfl) (by kernel_rfl) hr7) trivial ?_
              simp only [Act.put, List.setIfInBounds_toArray, List.set_cons_zero, List.set_cons_succ]
              refine go_take 7 32 _ (.pointer (some ⟨W.heap.size, 4, none⟩)) rfl (by kernel_rfl) (by kernel_rfl) (by kernel_rfl) (by kernel_rfl) (fun _ _ _ h => h) (Or.inl ⟨by kernel_rfl, fun u hu => by kernel_rfl⟩) hHeld ?_
              simp only [Act.put, List.setIfInBounds_toArray, List.set_cons_zero, List.set_cons_succ]
              refine go_skip 8 _ rfl (by kernel_rfl) (by kernel_rfl) (by kernel_rfl) (u7.setCell ⟨W.heap.size, 4, none⟩ (.slice p7 (x.length + y.length + 1) q7)) (exec_storeL (v := .slice p7 (x.length + y.length + 1) q7) (o' := p7) (n' := x.length + y.length + 1) (c' := q7) (hbx7.frozen 4) hbx7.cells.2.2.2.2 rfl (.tmp 32) (.tmp 31) (by kernel_rfl) (by kernel_rfl) (by kernel_rfl)) trivial ?_
              refine wpAnyH_done (by kernel_rfl) ?_ _
              refine NoPanic.normal ?_
              go_wp2
              exact ⟨⟨k + 1, _, x ++ y ++ [⟨sg, tx⟩], [], by omega, by go_num, ⟨_, _, by simp only [List.length_append]; rfl⟩, ⟨_, _, rfl⟩, by simp; omega, hI7, by have h := HI3.out; show _ = _; rw [← h]; simp⟩, by simp [intOf]; omega⟩
    · have HI3 : Hid (x ++ y = R) := (by
        have h := HI.out
        rw [List.drop_of_length_le (by omega)] at h
        exact h)
      have hend : decide ((k : Int) < (ls.length : Int)) = false := decide_eq_false (by omega)
      have hsd := hI1.low.size
      clear HI
      go_wp2_with (at_builtin; refine wpList_append_w _ (by kernel_rfl) (.tmp 55) (.tmp 56) 37 52 (.agg #[.int .u8 0, .string ⟨#[]⟩]) 2 24 rfl Tryz.underlying37 infoMk rfl (by decide) (by decide) (W.heap.size + 1) _ _ _ rfl hI1.own _ y.length (mkcells y) rfl (holds_of hI1.add) (mkcells_length _) (mkcells_one _) (by omega) (by have := hI1.box.lt; omega) ?_)
      intro v3 u3 hown3 hg3 hb3
      rw [← mkcells_append] at hown3
      obtain ⟨o3, c3, rfl⟩ := (holds_of hown3).form
      obtain ⟨hbx3, hI4⟩ := hI1.last (x' := x ++ y) hg3 (by rw [List.length_append]; exact hown3)
      obtain ⟨f0, f1, f2, f3, f4⟩ := hbx3.cells
      have ff := hbx3.frozen 4
      have hz4 := hz2.low hI4.low
      obtain ⟨t0, t1, t2, t3, t4⟩ := hI4.box.cells
      obtain ⟨z0, z1, z2, z3, z4⟩ := hz4.cells
      have zf := hz4.frozen
      have zf0 := zf 0
      have zf1 := zf 1
      have zf2 := zf 2
      have zf3 := zf 3
      have zf4 := zf 4
      have hP := hz4.put5 (.int .i64 B) (.int .i64 BN) (.int .i64 A) (.int .i64 AN) (.slice o3 (x.length + y.length) c3)
      have hlw : Below w.heap.size w (u3.setCell ⟨W.heap.size, 4, none⟩ (.slice o3 (x.length + y.length) c3)) := hB2.trans (hI4.low.mono hB2.size)
      have hown5 := hI4.own
      have HR3 : Hid (x ++ y = R) := HI3
      clear zf hg3 hb3 hown3 f0 f1 f2 f3 x0 x1 x2 x3 x4 b0 b1 b2 b3 b4 HI3
      go_upto_region 15 with fail
      generalize u3.setCell ⟨W.heap.size, 4, none⟩ (.slice o3 (x.length + y.length) c3) = W4 at *
      go_wp2
      refine bodyPost_ret (v := hkV ⟨B, BN, A, AN, R⟩ (.slice o3 (x.length + y.length) c3)) (results_cell_row rfl _ _ (w.heap.size + 1) 39 #[.int .i64 B, .int .i64 BN, .int .i64 A, .int .i64 AN, .slice o3 (x.length + y.length) c3] (0, 0) _ rfl hP Tryz.underlying39 rfl (by kernel_rfl)) rfl ⟨_, rfl, ?_, ?_⟩
      · rw [← HR3.out]
        have hsw := HSZ.out
        have key : ∀ (u : World) (j : Nat) (z : Value), u.ownsRow w.heap.size 52 2 (.slice o3 (x.length + y.length) c3) (x ++ y).length (mkcells (x ++ y)) → (∀ g, (Value.slice o3 (x.length + y.length) c3).ownBlock = some g → w.heap.size + 1 < g) → (u.setCell ⟨w.heap.size + 1, j, none⟩ z).ownsRow w.heap.size 52 2 (.slice o3 (x.length + y.length) c3) (x ++ y).length (mkcells (x ++ y)) := fun u j z ho hg => own_kept ho (grown_set u _ j z) (fun k hk e => by cases hk; have := hg _ e; omega)
        have hgg : ∀ g, (Value.slice o3 (x.length + y.length) c3).ownBlock = some g → w.heap.size + 1 < g := fun g hg => by have := owns_ge hown5 hg; omega
        have h0 : W4.ownsRow w.heap.size 52 2 (.slice o3 (x.length + y.length) c3) (x ++ y).length (mkcells (x ++ y)) := own_base hown5 (by omega)
        exact key _ _ _ (key _ _ _ (key _ _ _ (key _ _ _ (key _ _ _ h0 hgg) hgg) hgg) hgg) hgg
      · exact ((((hlw.setCell (by simp) _).setCell (by simp) _).setCell (by simp) _).setCell (by simp) _).setCell (by simp) _
end Go.Proofs.YtgckcbcdmmnkoaaGreatDoor
