/-
  Texts that belong together, joined: LnShelf, HuC4, LnMath, HuLm, HuLn, HuC2.
-/
import Derived.Shelf.Strings.Search3
import Derived.Test.YthckcdpgjdbgcaaProg
import Derived.Test.YthckcdpgjdbgcaaPartA4
import Derived.Laws.Slices
import Derived.Lib.Bytealg
import Derived.Lib.Join
import Derived.Test.YthckcdpgjdbgcaaPartA2
import Derived.Test.YthckcdpgjdbgcaaPartA6
import Derived.BigQuiet
import Derived.Test.YthckcdpgjdbgcaaPartA3

/- Contracts of the library at this program: the program bears the bodies that they speak of. Taken: strings_Index_one. -/
namespace Go.Proofs
open Go.Shelf
def Try.lays143_ren : Go.Shelf.Ren := ⟨fun | 143 => 52 | 219 => 53 | 217 => 54 | 225 => 55 | 224 => 56 | 267 => 57 | 266 => 58 | 314 => 59 | n => n, fun | 9 => 9 | 3 => 3 | 4 => 4 | 5 => 5 | 46 => 78 | 146 => 80 | 51 => 79 | n => n, fun | 1 => 0 | n => n⟩
theorem Try.lays143 : Go.Proofs.Lays.n143 Try.prog Try.lays143_ren := {
  mixed := by kernel_rfl
  f143 := Try.func52.trans (congrArg some (by kernel_rfl))
  f217 := Try.func54.trans (congrArg some (by kernel_rfl))
  f219 := Try.func53.trans (congrArg some (by kernel_rfl))
  f224 := Try.func56.trans (congrArg some (by kernel_rfl))
  f225 := Try.func55.trans (congrArg some (by kernel_rfl))
  f266 := Try.func58.trans (congrArg some (by kernel_rfl))
  f267 := Try.func57.trans (congrArg some (by kernel_rfl))
  f314 := Try.func59.trans (congrArg some (by kernel_rfl))
  t3 := Try.underlying3
  a3 := Try.isAgg3
  z3 := Try.sizeOf3
  v3 := Try.zeroValue3
  t4 := Try.underlying4
  a4 := Try.isAgg4
  z4 := Try.sizeOf4
  v4 := Try.zeroValue4
  t5 := Try.underlying5
  a5 := Try.isAgg5
  z5 := Try.sizeOf5
  v5 := Try.zeroValue5
  t9 := Try.underlying9
  a9 := Try.isAgg9
  z9 := Try.sizeOf9
  v9 := Try.zeroValue9
  t46 := Try.underlying78
  a46 := Try.isAgg78
  z46 := Try.sizeOf78
  v46 := Try.zeroValue78
  t51 := Try.underlying79
  a51 := Try.isAgg79
  z51 := Try.sizeOf79
  v51 := Try.zeroValue79
  t146 := Try.underlying80
  a146 := Try.isAgg80
  z146 := Try.sizeOf80
  v146 := Try.zeroValue80
  g1 := by kernel_rfl }
open Go.RowKit Go.Lib in
theorem Try.strings_Index_one (s : ByteArray) (c : UInt8) (w : World) :
    Calls Try.prog 52 #[.string s, .string ⟨#[c]⟩] w fun e w' => e = .returned (.int .i64 (Lib.indexByte s.data.toList c)) ∧ w' = w := Any.strings_Index_one Try.lays143 s c w
end Go.Proofs

/- The code's Invert of layer 11, walked. -/
namespace Go.Proofs.Ythckcdpgjdbgcaa
open Go.RowKit

theorem run_slM0 (ao : Option Addr) (n cap : Nat) (u : World) : (Instr.slice 37 (.slice ao n cap) none (some (.int .i64 0)) none).run Try.prog u = .ok (.slice ao 0 cap) u := by
  rw [run_slice_h (P := Try.prog) u 37 ao n cap (by kernel_rfl) .i64 0 (by omega) (by omega)]
  have : (sizeOf (Try.prog.elem 37)).run Try.prog u = .ok 2 u := by kernel_rfl
  rw [this]
  cases ao with
  | none => simp [Result.andThen, sliced]
  | some ad => simp [Result.andThen, sliced, show ad.add 0 = ad by unfold Addr.add; split <;> simp_all]
theorem own_zero {u : World} {B : Nat} {e : TypeId} {s : Nat} {ao : Option Addr} {n c : Nat} {xs : List Value} (h : u.ownsRow B e s (.slice ao n c) n xs) : u.ownsRow B e s (.slice ao 0 c) 0 [] := by
  refine ⟨by simp, ?_⟩
  rcases h.2 with ⟨q, _⟩ | ⟨g, cap, cur, q1, q2, q3, q4, q5, q6, _⟩
  · cases q
    exact .inl ⟨rfl, rfl⟩
  · cases q1
    exact .inr ⟨g, c, cur, rfl, q2, q3, Nat.zero_le _, q5, q6, by simp⟩
theorem iv_lastz {w : World} {q : Hk} {ov ov' : Value} {x x' y : List Mk} {u u' : World} {ao : Option Addr} {ac : Nat} (h : Iv w q ov x (.slice ao y.length ac) y u) (hg : u.grownBy u' ov.ownBlock) (ho : u'.ownsRow (w.heap.size + 1) 46 2 ov' x'.length (mkcells x')) (hb : ov'.ownBlock = ov.ownBlock ∨ ∃ j, ov'.ownBlock = some j ∧ u.heap.size ≤ j) : Hx u' w.heap.size q ov ∧ Iv w q ov' x' (.slice ao 0 ac) [] (u'.setCell ⟨w.heap.size, 4, none⟩ ov') := by
  have hbx : Hx u' w.heap.size q ov := h.box.keep hg (fun e => by have := owns_ge h.own e.symm; omega)
  have hadd := own_kept h.add hg (fun k hk => h.ne k hk)
  have hs := grown_set u' w.heap.size 4 ov'
  have hlow : Below w.heap.size w u' := h.low.grown hg h.low.size (fun j hj => by have := owns_ge h.own hj; omega)
  refine ⟨hbx, hlow.grown hs hlow.size (fun j hj => by cases hj; exact Nat.le_refl _), hbx.setl ov', own_kept ho hs ?_, own_zero (own_kept hadd hs ?_), ?_⟩
  · intro k hk e
    cases hk
    have := owns_ge ho e
    omega
  · intro k hk e
    cases hk
    have := owns_ge h.add e
    omega
  · intro g hg' e
    have e' : (Value.slice ao y.length ac).ownBlock = some g := by cases ao <;> exact e
    rcases hb with hb | ⟨j, hb, hj⟩
    · rw [hb] at hg'
      exact h.ne g hg' e'
    · rw [hb] at hg'
      cases hg'
      have := own_lt h.add e'
      omega

set_option maxRecDepth 10000 in
set_option maxHeartbeats 8000000 in
theorem hInvert_f (h : Hk) (v : Value) (w : World) (hv : HMk w v h.ls) (hl : h.ls.length ≤ 549755813888) (R : List Mk) (HR : Hid (invG [] h.ls = R)) : Calls Try.prog 20 #[hkV h v] w fun e w' => ∃ v', e = .returned (hkV ⟨h.B, h.BN, h.A, h.AN, R⟩ v') ∧ w'.ownsRow w.heap.size 46 2 v' R.length (mkcells R) ∧ Below w.heap.size w w' := by
  obtain ⟨A, AN, B, BN, ls⟩ := h
  dsimp only at hv hl HR ⊢
  obtain ⟨lo, lc, rfl⟩ := HMk.form hv
  have hx := Hx.new w ⟨A, AN, B, BN, ls⟩ (.slice lo ls.length lc)
  have hB1 : Below w.heap.size w (w.alloc (hkO ⟨A, AN, B, BN, ls⟩ (.slice lo ls.length lc))) := (Below.refl _ w).alloc (Nat.le_refl _) _
  have hBz : Below (w.alloc (hkO ⟨A, AN, B, BN, ls⟩ (.slice lo ls.length lc))).heap.size (w.alloc (hkO ⟨A, AN, B, BN, ls⟩ (.slice lo ls.length lc))) ((w.alloc (hkO ⟨A, AN, B, BN, ls⟩ (.slice lo ls.length lc))).alloc (hkO ⟨0, 0, 0, 0, []⟩ (.slice none 0 0))) := (Below.refl _ _).alloc (Nat.le_refl _) _
  have hx2 := hx.low hBz
  have hB2 := hB1.trans (hBz.mono hB1.size)
  have hv2 := HMk.keep hv hB2 (Nat.le_refl _)
  have hz2 : Hx ((w.alloc (hkO ⟨A, AN, B, BN, ls⟩ (.slice lo ls.length lc))).alloc (hkO ⟨0, 0, 0, 0, []⟩ (.slice none 0 0))) (w.heap.size + 1) ⟨0, 0, 0, 0, []⟩ (.slice none 0 0) := alloc_second w _ _
  obtain ⟨x0, x1, x2, x3, x4⟩ := hx2.cells
  have HSZ : Hid (((w.alloc (hkO ⟨A, AN, B, BN, ls⟩ (.slice lo ls.length lc))).alloc (hkO ⟨0, 0, 0, 0, []⟩ (.slice none 0 0))).heap.size = w.heap.size + 1 + 1) := (by show _ = _; simp)
  have hW0 : (w.alloc (hkO ⟨A, AN, B, BN, ls⟩ (.slice lo ls.length lc))).alloc (hkO ⟨0, 0, 0, 0, []⟩ (.slice none 0 0)) = (w.alloc (Obj.cells #[Value.int IntKind.i64 A, Value.int IntKind.i64 AN, Value.int IntKind.i64 B, Value.int IntKind.i64 BN, .slice lo ls.length lc] 39)).alloc (Obj.cells #[Value.int IntKind.i64 0, Value.int IntKind.i64 0, Value.int IntKind.i64 0, Value.int IntKind.i64 0, .slice none 0 0] 39) := rfl
  unfold hkV
  dsimp only at x0 x1 x2 x3 x4 ⊢
  clear hx hB1 hBz hv
  generalize (w.alloc (hkO ⟨A, AN, B, BN, ls⟩ (.slice lo ls.length lc))).alloc (hkO ⟨0, 0, 0, 0, []⟩ (.slice none 0 0)) = W at *
  have hW := hW0.symm
  clear hW0
  have hI : Iv W ⟨B, BN, A, AN, []⟩ (.slice none 0 0) [] (.slice none 0 0) [] (W.alloc (hkO ⟨B, BN, A, AN, []⟩ (.slice none 0 0))) :=
    ⟨(Below.refl _ W).alloc (Nat.le_refl _) _, Hx.new W _ _, hnil_row _ _ _ _, hnil_row _ _ _ _, fun g e => by cases e⟩
  have y4 := (hx2.low hI.low).cells.2.2.2.2
  unfold hkO at y4
  dsimp only at y4
  go_enter Try.func20, Try.ntmps20
  go_wp2
  have hW1 : W.alloc (Obj.cells #[Value.int IntKind.i64 B, Value.int IntKind.i64 BN, Value.int IntKind.i64 A, Value.int IntKind.i64 AN, .slice none 0 0] 39) = W.alloc (hkO ⟨B, BN, A, AN, []⟩ (.slice none 0 0)) := rfl
  rw [hW1]
  clear hW1 hW x0 x1 x2 x3 x4 y4
  generalize W.alloc (hkO ⟨B, BN, A, AN, []⟩ (.slice none 0 0)) = W1 at *
  go_loopw [4, 19] (fun av iv wr => ∃ (k : Nat) (ov : Value) (x y : List Mk), k ≤ ls.length ∧ iv = .int .i64 (k : Int) ∧ (∃ oo oc, ov = .slice oo x.length oc) ∧ (∃ ao ac, av = .slice ao y.length ac) ∧ x.length + y.length ≤ k ∧ Iv W ⟨B, BN, A, AN, []⟩ ov x av y wr ∧ Hid (x ++ invG y (ls.drop k) = R)) (fun _ iv _ => ls.length - (intOf iv).toNat)
  case atStart => exact ⟨0, _, [], [], Nat.zero_le _, by go_num, ⟨_, _, rfl⟩, ⟨_, _, rfl⟩, Nat.le_refl _, hI, HR⟩
  case round =>
    obtain ⟨k, ov, x, y, hk, rfl, ⟨oo, oc, rfl⟩, ⟨ao, ac, rfl⟩, hxy, hI1, HI⟩ := hrel
    clear hI HR
    obtain ⟨x0, x1, x2, x3, x4⟩ := (hx2.low hI1.low).cells
    obtain ⟨b0, b1, b2, b3, b4⟩ := hI1.box.cells
    by_cases hlt : k < ls.length
    · obtain ⟨b, off, rfl, hb, _⟩ := HMk.at hv2 (by omega)
      obtain ⟨m, hm⟩ : ∃ m, ls[k] = m := ⟨_, rfl⟩
      obtain ⟨c0, c1⟩ := Low.mk hI1.low hv2 k hlt hm
      have HI2 : Hid (x ++ (if m.sg = 43 then ⟨45, m.tx⟩ :: invG y (ls.drop (k + 1)) else if m.sg = 45 then invG (y ++ [⟨43, m.tx⟩]) (ls.drop (k + 1)) else y ++ m :: invG [] (ls.drop (k + 1))) = R) := (by
        show _ = _
        rw [← HI.out, List.drop_eq_getElem_cons hlt, hm]
        rfl)
      have i1 : 0 ≤ (k : Int) := by omega
      have i2 : (k : Int) < (ls.length : Int) := by omega
      have hsW := hI1.low.size
      have hmx := Mx.new wr m
      have hI2 := hI1.alloc (mkO m)
      have hBm : Below wr.heap.size wr (wr.alloc (mkO m)) := (Below.refl _ wr).alloc (Nat.le_refl _) _
      obtain ⟨m0, m1⟩ := hmx.cells
      obtain ⟨d0, d1, d2, d3, d4⟩ := hI2.box.cells
      have HSM : Hid ((wr.alloc (mkO m)).heap.size = wr.heap.size + 1) := (by show _ = _; simp)
      have hW2 : wr.alloc (Obj.cells #[Value.int IntKind.u8 m.sg, Value.string ⟨m.tx.toArray⟩] 46) = wr.alloc (mkO m) := rfl
      have hlts := hI1.own
      clear HI hm
      go_upto_region 6 with fail
      obtain ⟨sg, tx⟩ := m
      dsimp only at m0 m1 c0 c1 HI2 hW2
      generalize hwr1 : wr.alloc (mkO ⟨sg, tx⟩) = wr1 at *
      clear hW2
      by_cases h1 : sg = 43
      · subst h1
        have HI3 : Hid (x ++ [⟨45, tx⟩] ++ invG y (ls.drop (k + 1)) = R) := (by
          have h := HI2.out
          show _ = _
          rw [if_pos rfl] at h
          rw [← h]
          simp)
        have hI3 := hI2.alloc (mkO ⟨45, tx⟩)
        have hrow := mk_row wr1 ⟨45, tx⟩
        have hW3 : wr1.alloc (Obj.cells #[Value.int IntKind.u8 45, Value.string ⟨tx.toArray⟩] 46) = wr1.alloc (mkO ⟨45, tx⟩) := rfl
        have HS3 : Hid ((wr1.alloc (mkO ⟨45, tx⟩)).heap.size = wr1.heap.size + 1) := (by show _ = _; simp)
        have hs1 := hI2.low.size
        clear HI2
        go_wp2_with (at_builtin; refine wpList_append_w _ (by kernel_rfl) (.tmp 38) (.tmp 42) 37 46 (.agg #[.int .u8 0, .string ⟨#[]⟩]) 2 24 rfl Try.underlying37 infoMk rfl (by decide) (by decide) (W.heap.size + 1) _ _ _ rfl hI3.own _ 1 (mkcells [⟨45, tx⟩]) rfl hrow (mkcells_length _) (mkcells_one _) (by omega) (by have := HS3.out; have := HSM.out; omega) ?_)
        intro v3 u3 hown3 hg3 hb3
        rw [← mkcells_append] at hown3
        obtain ⟨o3, c3, rfl⟩ := (holds_of hown3).form
        obtain ⟨hbx3, hI4⟩ := hI3.grow (x' := x ++ [⟨45, tx⟩]) hg3 (by rw [List.length_append]; exact hown3) (by rw [HS3.out]; exact hb3)
        obtain ⟨f0, f1, f2, f3, f4⟩ := hbx3.cells
        have ff := hbx3.frozen 4
        clear hW3 hg3 hown3
        go_wp2
        exact ⟨⟨k + 1, _, x ++ [⟨45, tx⟩], y, by omega, by go_num, ⟨_, _, by rw [List.length_append]; rfl⟩, ⟨_, _, rfl⟩, by simp; omega, hI4, HI3⟩, by simp [intOf]; omega⟩
      · have e1 : (sg == 43) = false := by simpa using h1
        by_cases h2 : sg = 45
        · subst h2
          have HI3 : Hid (x ++ invG (y ++ [⟨43, tx⟩]) (ls.drop (k + 1)) = R) := (by
            have h := HI2.out
            show _ = _
            rw [if_neg (by decide), if_pos rfl] at h
            exact h)
          have hI3 := hI2.alloc (mkO ⟨43, tx⟩)
          have hrow := mk_row wr1 ⟨43, tx⟩
          have hW3 : wr1.alloc (Obj.cells #[Value.int IntKind.u8 43, Value.string ⟨tx.toArray⟩] 46) = wr1.alloc (mkO ⟨43, tx⟩) := rfl
          have HS3 : Hid ((wr1.alloc (mkO ⟨43, tx⟩)).heap.size = wr1.heap.size + 1) := (by show _ = _; simp)
          have hs1 := hI2.low.size
          clear HI2
          go_wp2_with (at_builtin; refine wpList_append_w _ (by kernel_rfl) (.tmp 47) (.tmp 51) 37 46 (.agg #[.int .u8 0, .string ⟨#[]⟩]) 2 24 rfl Try.underlying37 infoMk rfl (by decide) (by decide) (W.heap.size + 1) _ _ _ rfl hI3.add _ 1 (mkcells [⟨43, tx⟩]) rfl hrow (mkcells_length _) (mkcells_one _) (by omega) (by have := HS3.out; have := HSM.out; omega) ?_)
          intro v3 u3 hown3 hg3 hb3
          rw [← mkcells_append] at hown3
          obtain ⟨o3, c3, rfl⟩ := (holds_of hown3).form
          have hI4 := hI3.wait (y' := y ++ [⟨43, tx⟩]) hg3 (by rw [List.length_append]; exact hown3) (by rw [HS3.out]; exact hb3)
          clear hW3 hg3 hown3
          go_wp2
          exact ⟨⟨k + 1, _, x, y ++ [⟨43, tx⟩], by omega, by go_num, ⟨_, _, rfl⟩, ⟨_, _, by rw [List.length_append]; rfl⟩, by simp; omega, hI4, HI3⟩, by simp [intOf]; omega⟩
        · have e2 : (sg == 45) = false := by simpa using h2
          have HI3 : Hid (x ++ (y ++ [⟨sg, tx⟩]) ++ invG [] (ls.drop (k + 1)) = R) := (by
            have h := HI2.out
            show _ = _
            rw [if_neg h1, if_neg h2] at h
            rw [← h]
            simp)
          clear HI2
          go_upto_region 7 with fail
          have hsd := hI2.low.size
          have hsm := HSM.out
          have hdr : (wr1.drewN 1).heap.size = wr1.heap.size := rfl
          have hdr2 : ((wr1.drewN 1).alloc (mkO ⟨sg, tx⟩)).heap.size = wr1.heap.size + 1 := by simp
          obtain ⟨v3, u3, hr3, hown3, hg3, hb3⟩ := run_append_w (wr1.drewN 1) 37 46 37 (.agg #[.int .u8 0, .string ⟨#[]⟩]) 2 24 Try.underlying37 infoMk rfl (by decide) (by decide) (W.heap.size + 1) _ _ _ (hI2.own) _ y.length (mkcells y) (holds_of hI2.add) (mkcells_length _) (mkcells_one _) (by first | omega | (simp; omega)) (by first | omega | (simp; omega))
          rw [← mkcells_append] at hown3
          obtain ⟨v6, u6, hr6, hown6, hg6, hb6⟩ := run_append_w ((wr1.drewN 1).alloc (mkO ⟨sg, tx⟩)) 37 46 37 (.agg #[.int .u8 0, .string ⟨#[]⟩]) 2 24 Try.underlying37 infoMk rfl (by decide) (by decide) (W.heap.size + 1) _ _ _ (hI2.own.alloc (mkO ⟨sg, tx⟩)) _ y.length (mkcells y) (holds_of (hI2.add.alloc (mkO ⟨sg, tx⟩))) (mkcells_length _) (mkcells_one _) (by first | omega | (simp; omega)) (by first | omega | (simp; omega))
          rw [← mkcells_append] at hown6
          have hS3 : wr1.grownBy u3 (Value.slice oo x.length oc).ownBlock := grown_then (grown_drewN (World.grownBy.refl _ _) 1) hg3 (.inl rfl)
          have hS6 : wr1.grownBy u6 (Value.slice oo x.length oc).ownBlock := grown_then (grown_alloc (grown_drewN (World.grownBy.refl _ _) 1) (mkO ⟨sg, tx⟩)) hg6 (.inl rfl)
          have hz3 := hg3.size
          have hz6 := hg6.size
          rw [hdr] at hz3
          rw [hdr2] at hz6
          have hrb3 : v3.ownBlock = (Value.slice oo x.length oc).ownBlock ∨ ∃ j, v3.ownBlock = some j ∧ wr1.heap.size ≤ j := (by
            rcases hb3 with h | h
            · exact .inl h
            · exact .inr ⟨_, h, Nat.le_refl _⟩)
          have hrb6 : v6.ownBlock = (Value.slice oo x.length oc).ownBlock ∨ ∃ j, v6.ownBlock = some j ∧ wr1.heap.size ≤ j := (by
            rcases hb6 with h | h
            · exact .inl h
            · exact .inr ⟨_, h, by simp⟩)
          have hob : ∀ j, (Value.slice oo x.length oc).ownBlock = some j → j < wr.heap.size := fun j hj => own_lt hI1.own hj
          have hrow3 : Holds (u3.alloc (mkO ⟨sg, tx⟩)) (.slice (some ⟨u3.heap.size, 0, none⟩) 1 1) 1 (mkcells [⟨sg, tx⟩]) := mk_row u3 ⟨sg, tx⟩
          have hrow6 : Holds u6 (.slice (some ⟨(wr1.drewN 1).heap.size, 0, none⟩) 1 1) 1 (mkcells [⟨sg, tx⟩]) := (by
            have hd := mk_row (wr1.drewN 1) ⟨sg, tx⟩
            refine .inr ⟨⟨(wr1.drewN 1).heap.size, 0, none⟩, 1, rfl, Nat.le_refl _, fun j z hj => ?_⟩
            rcases hd with ⟨h, _, _⟩ | ⟨ad, c, e, _, hc⟩
            · cases h
            · cases e
              have h1 := hc j z hj
              rw [World.cell?_of_block (w := ((wr1.drewN 1).alloc (mkO ⟨sg, tx⟩))) (hg6.block _ (World.block_lt_of_cell? _ _ h1) (fun e => ?_))]
              · exact h1
              · rw [add_none] at e
                have h2 : wr1.heap.size < wr.heap.size := hob _ e.symm
                omega)
          have hmD : Mx (wr1.drewN 1) wr.heap.size ⟨sg, tx⟩ := hmx
          have hm3 : Mx u3 wr.heap.size ⟨sg, tx⟩ := (hS3.block _ hmx.lt (fun e => by have := hob _ e.symm; omega)).trans hmx
          have hbD : (wr1.drewN 1).cell? ⟨W.heap.size, 4, none⟩ = some (.slice oo x.length oc) := hI2.box.cells.2.2.2.2
          have hbA : ((wr1.drewN 1).alloc (mkO ⟨sg, tx⟩)).cell? ⟨W.heap.size, 4, none⟩ = some (.slice oo x.length oc) := ((hI2.drewN 1).alloc (mkO ⟨sg, tx⟩)).box.cells.2.2.2.2
          obtain ⟨v4, u4, hr4, hown4, hg4, hb4⟩ := run_append_w (u3.alloc (mkO ⟨sg, tx⟩)) 37 46 37 (.agg #[.int .u8 0, .string ⟨#[]⟩]) 2 24 Try.underlying37 infoMk rfl (by decide) (by decide) (W.heap.size + 1) _ _ _ (hown3.alloc (mkO ⟨sg, tx⟩)) _ 1 (mkcells [⟨sg, tx⟩]) (hrow3) (mkcells_length _) (mkcells_one _) (by first | omega | (simp; omega)) (by first | omega | (simp; omega))
          rw [← mkcells_append] at hown4
          obtain ⟨v7, u7, hr7, hown7, hg7, hb7⟩ := run_append_w u6 37 46 37 (.agg #[.int .u8 0, .string ⟨#[]⟩]) 2 24 Try.underlying37 infoMk rfl (by decide) (by decide) (W.heap.size + 1) _ _ _ (hown6) _ 1 (mkcells [⟨sg, tx⟩]) (hrow6) (mkcells_length _) (mkcells_one _) (by first | omega | (simp; omega)) (by first | omega | (simp; omega))
          rw [← mkcells_append] at hown7
          have hS4 : wr1.grownBy u4 (Value.slice oo x.length oc).ownBlock := grown_then (grown_alloc hS3 _) hg4 hrb3
          obtain ⟨p4, q4, hv4⟩ := (holds_of hown4).form
          subst hv4
          have hrb4 : (Value.slice p4 (x.length + y.length + 1) q4).ownBlock = (Value.slice oo x.length oc).ownBlock ∨ ∃ j, (Value.slice p4 (x.length + y.length + 1) q4).ownBlock = some j ∧ wr1.heap.size ≤ j := (by
            rcases hb4 with h | h
            · rw [h]; exact hrb3
            · exact .inr ⟨_, h, by first | omega | (simp; omega)⟩)
          obtain ⟨hbx4, hI4⟩ := iv_lastz hI2 (x' := x ++ y ++ [⟨sg, tx⟩]) hS4 (by simp only [List.length_append]; exact hown4) hrb4
          have hS7 : wr1.grownBy u7 (Value.slice oo x.length oc).ownBlock := grown_then hS6 hg7 hrb6
          obtain ⟨p7, q7, hv7⟩ := (holds_of hown7).form
          subst hv7
          have hrb7 : (Value.slice p7 (x.length + y.length + 1) q7).ownBlock = (Value.slice oo x.length oc).ownBlock ∨ ∃ j, (Value.slice p7 (x.length + y.length + 1) q7).ownBlock = some j ∧ wr1.heap.size ≤ j := (by
            rcases hb7 with h | h
            · rw [h]; exact hrb6
            · exact .inr ⟨_, h, by first | omega | (simp; omega)⟩)
          obtain ⟨hbx7, hI7⟩ := iv_lastz hI2 (x' := x ++ y ++ [⟨sg, tx⟩]) hS7 (by simp only [List.length_append]; exact hown7) hrb7
          have r0 := run_slM0 ao y.length ac
          clear hrb4 hrb7 hS3 hS6 hrb3 hrb6 hob hrow3 hrow6 hg3 hg6 hb3 hb6 hown3 hown6 hown4 hown7 hS4 hS7 hg4 hg7 hb4 hb7
          refine wp_region_noPanic ?_
          refine wp_region_held_drew (S := fun _ => True) (by kernel_rfl) trivial (fun hHeld => ?_)
          refine go_take 0 25 _ (.pointer (some ⟨W.heap.size, 4, none⟩)) rfl (by kernel_rfl) (by kernel_rfl) (by kernel_rfl) (by kernel_rfl) (fun _ _ _ h => h) (Or.inl ⟨by kernel_rfl, fun u hu => by kernel_rfl⟩) hHeld ?_
          simp only [Act.put, List.setIfInBounds_toArray, List.set_cons_zero, List.set_cons_succ]
          refine go_take 2 27 _ (.slice ao y.length ac) rfl (by kernel_rfl) (by kernel_rfl) (by kernel_rfl) (by kernel_rfl) (fun _ _ _ h => h) (Or.inl ⟨by kernel_rfl, fun u hu => by kernel_rfl⟩) hHeld ?_
          simp only [Act.put, List.setIfInBounds_toArray, List.set_cons_zero, List.set_cons_succ]
          refine go_two 1 26 _ 4 29 _ rfl (by kernel_rfl) rfl (by kernel_rfl) (by kernel_rfl) (by kernel_rfl) (by kernel_rfl) (.slice oo x.length oc) (wr1.drewN 1) (load_mks hbD (.tmp 25) (by kernel_rfl) (by kernel_rfl)) trivial (.agg #[.int .u8 sg, .string ⟨tx.toArray⟩]) (wr1.drewN 1) (load_mk hmD (.tmp 6) (by kernel_rfl) (by kernel_rfl)) trivial ?_ ?_
          · simp only [Act.put, List.setIfInBounds_toArray, List.set_cons_zero, List.set_cons_succ]
            refine go_two 3 28 _ 4 29 _ rfl (by kernel_rfl) rfl (by kernel_rfl) (by kernel_rfl) (by kernel_rfl) (by kernel_rfl) (v3) u3 (exec_app (.tmp 26) (.tmp 27) (by kernel_rfl) (by kernel_rfl) (by kernel_rfl) hr3) trivial (.agg #[.int .u8 sg, .string ⟨tx.toArray⟩]) (wr1.drewN 1) (load_mk hmD (.tmp 6) (by kernel_rfl) (by kernel_rfl)) trivial ?_ ?_
            · simp only [Act.put, List.setIfInBounds_toArray, List.set_cons_zero, List.set_cons_succ]
              refine go_val 4 29 _ rfl (by kernel_rfl) (by kernel_rfl) (by kernel_rfl) (.agg #[.int .u8 sg, .string ⟨tx.toArray⟩]) u3 (load_mk hm3 (.tmp 6) (by kernel_rfl) (by kernel_rfl)) trivial ?_
              simp only [Act.put, List.setIfInBounds_toArray, List.set_cons_zero, List.set_cons_succ]
              refine go_val 5 30 _ rfl (by kernel_rfl) (by kernel_rfl) (by kernel_rfl) (.slice (some ⟨u3.heap.size, 0, none⟩) 1 1) (u3.alloc (mkO ⟨sg, tx⟩)) (by kernel_rfl) trivial ?_
              simp only [Act.put, List.setIfInBounds_toArray, List.set_cons_zero, List.set_cons_succ]
              refine go_val 6 31 _ rfl (by kernel_rfl) (by kernel_rfl) (by kernel_rfl) _ u4 (exec_app (.tmp 28) (.tmp 30) (by kernel_rfl) (by kernel_rfl) (by kernel_rfl) hr4) trivial ?_
              simp only [Act.put, List.setIfInBounds_toArray, List.set_cons_zero, List.set_cons_succ]
              refine go_take 7 32 _ (.pointer (some ⟨W.heap.size, 4, none⟩)) rfl (by kernel_rfl) (by kernel_rfl) (by kernel_rfl) (by kernel_rfl) (fun _ _ _ h => h) (Or.inl ⟨by kernel_rfl, fun u hu => by kernel_rfl⟩) hHeld ?_
              simp only [Act.put, List.setIfInBounds_toArray, List.set_cons_zero, List.set_cons_succ]
              refine go_skip 8 _ rfl (by kernel_rfl) (by kernel_rfl) (by kernel_rfl) (u4.setCell ⟨W.heap.size, 4, none⟩ (.slice p4 (x.length + y.length + 1) q4)) (exec_storeL (v := .slice p4 (x.length + y.length + 1) q4) (o' := p4) (n' := x.length + y.length + 1) (c' := q4) (hbx4.frozen 4) hbx4.cells.2.2.2.2 rfl (.tmp 32) (.tmp 31) (by kernel_rfl) (by kernel_rfl) (by kernel_rfl)) trivial ?_
              refine wpAnyH_done (by kernel_rfl) ?_ _
              refine NoPanic.normal ?_
              go_wp2
              exact ⟨⟨k + 1, _, x ++ y ++ [⟨sg, tx⟩], [], by omega, by go_num, ⟨_, _, by simp only [List.length_append]; rfl⟩, ⟨_, _, rfl⟩, by simp; omega, hI4, by have h := HI3.out; show _ = _; rw [← h]; simp⟩, by simp [intOf]; omega⟩
            · simp only [Act.put, List.setIfInBounds_toArray, List.set_cons_zero, List.set_cons_succ]
              refine go_two 3 28 _ 5 30 _ rfl (by kernel_rfl) rfl (by kernel_rfl) (by kernel_rfl) (by kernel_rfl) (by kernel_rfl) (v3) u3 (exec_app (.tmp 26) (.tmp 27) (by kernel_rfl) (by kernel_rfl) (by kernel_rfl) hr3) trivial (.slice (some ⟨(wr1.drewN 1).heap.size, 0, none⟩) 1 1) ((wr1.drewN 1).alloc (mkO ⟨sg, tx⟩)) (by kernel_rfl) trivial ?_ ?_
              · simp only [Act.put, List.setIfInBounds_toArray, List.set_cons_zero, List.set_cons_succ]
                refine go_val 5 30 _ rfl (by kernel_rfl) (by kernel_rfl) (by kernel_rfl) (.slice (some ⟨u3.heap.size, 0, none⟩) 1 1) (u3.alloc (mkO ⟨sg, tx⟩)) (by kernel_rfl) trivial ?_
                simp only [Act.put, List.setIfInBounds_toArray, List.set_cons_zero, List.set_cons_succ]
                refine go_val 6 31 _ rfl (by kernel_rfl) (by kernel_rfl) (by kernel_rfl) _ u4 (exec_app (.tmp 28) (.tmp 30) (by kernel_rfl) (by kernel_rfl) (by kernel_rfl) hr4) trivial ?_
                simp only [Act.put, List.setIfInBounds_toArray, List.set_cons_zero, List.set_cons_succ]
                refine go_take 7 32 _ (.pointer (some ⟨W.heap.size, 4, none⟩)) rfl (by kernel_rfl) (by kernel_rfl) (by kernel_rfl) (by kernel_rfl) (fun _ _ _ h => h) (Or.inl ⟨by kernel_rfl, fun u hu => by kernel_rfl⟩) hHeld ?_
                simp only [Act.put, List.setIfInBounds_toArray, List.set_cons_zero, List.set_cons_succ]
                refine go_skip 8 _ rfl (by kernel_rfl) (by kernel_rfl) (by kernel_rfl) (u4.setCell ⟨W.heap.size, 4, none⟩ (.slice p4 (x.length + y.length + 1) q4)) (exec_storeL (v := .slice p4 (x.length + y.length + 1) q4) (o' := p4) (n' := x.length + y.length + 1) (c' := q4) (hbx4.frozen 4) hbx4.cells.2.2.2.2 rfl (.tmp 32) (.tmp 31) (by kernel_rfl) (by kernel_rfl) (by kernel_rfl)) trivial ?_
                refine wpAnyH_done (by kernel_rfl) ?_ _
                refine NoPanic.normal ?_
                go_wp2
                exact ⟨⟨k + 1, _, x ++ y ++ [⟨sg, tx⟩], [], by omega, by go_num, ⟨_, _, by simp only [List.length_append]; rfl⟩, ⟨_, _, rfl⟩, by simp; omega, hI4, by have h := HI3.out; show _ = _; rw [← h]; simp⟩, by simp [intOf]; omega⟩
              · simp only [Act.put, List.setIfInBounds_toArray, List.set_cons_zero, List.set_cons_succ]
                refine go_val 3 28 _ rfl (by kernel_rfl) (by kernel_rfl) (by kernel_rfl) (v6) u6 (exec_app (.tmp 26) (.tmp 27) (by kernel_rfl) (by kernel_rfl) (by kernel_rfl) hr6) trivial ?_
                simp only [Act.put, List.setIfInBounds_toArray, List.set_cons_zero, List.set_cons_succ]
                refine go_val 6 31 _ rfl (by kernel_rfl) (by kernel_rfl) (by kernel_rfl) _ u7 (exec_app (.tmp 28) (.tmp 30) (by kernel_rfl) (by kernel_rfl) (by kernel_rfl) hr7) trivial ?_
                simp only [Act.put, List.setIfInBounds_toArray, List.set_cons_zero, List.set_cons_succ]
                refine go_take 7 32 _ (.pointer (some ⟨W.heap.size, 4, none⟩)) rfl (by kernel_rfl) (by kernel_rfl) (by kernel_rfl) (by kernel_rfl) (fun _ _ _ h => h) (Or.inl ⟨by kernel_rfl, fun u hu => by kernel_rfl⟩) hHeld ?_
                simp only [Act.put, List.setIfInBounds_toArray, List.set_cons_zero, List.set_cons_succ]
                refine go_skip 8 _ rfl (by kernel_rfl) (by kernel_rfl) (by kernel_rfl) (u7.setCell ⟨W.heap.size, 4, none⟩ (.slice p7 (x.length + y.length + 1) q7)) (exec_storeL (v := .slice p7 (x.length + y.length + 1) q7) (o' := p7) (n' := x.length + y.length + 1) (c' := q7) (hbx7.frozen 4) hbx7.cells.2.2.2.2 rfl (.tmp 32) (.tmp 31) (by kernel_rfl) (by kernel_rfl) (by kernel_rfl)) trivial ?_
                refine wpAnyH_done (by kernel_rfl) ?_ _
                refine NoPanic.normal ?_
                go_wp2
                exact ⟨⟨k + 1, _, x ++ y ++ [⟨sg, tx⟩], [], by omega, by go_num, ⟨_, _, by simp only [List.length_append]; rfl⟩, ⟨_, _, rfl⟩, by simp; omega, hI7, by have h := HI3.out; show _ = _; rw [← h]; simp⟩, by simp [intOf]; omega⟩
          · simp only [Act.put, List.setIfInBounds_toArray, List.set_cons_zero, List.set_cons_succ]
            refine go_two 1 26 _ 5 30 _ rfl (by kernel_rfl) rfl (by kernel_rfl) (by kernel_rfl) (by kernel_rfl) (by kernel_rfl) (.slice oo x.length oc) (wr1.drewN 1) (load_mks hbD (.tmp 25) (by kernel_rfl) (by kernel_rfl)) trivial (.slice (some ⟨(wr1.drewN 1).heap.size, 0, none⟩) 1 1) ((wr1.drewN 1).alloc (mkO ⟨sg, tx⟩)) (by kernel_rfl) trivial ?_ ?_
            · simp only [Act.put, List.setIfInBounds_toArray, List.set_cons_zero, List.set_cons_succ]
              refine go_two 3 28 _ 5 30 _ rfl (by kernel_rfl) rfl (by kernel_rfl) (by kernel_rfl) (by kernel_rfl) (by kernel_rfl) (v3) u3 (exec_app (.tmp 26) (.tmp 27) (by kernel_rfl) (by kernel_rfl) (by kernel_rfl) hr3) trivial (.slice (some ⟨(wr1.drewN 1).heap.size, 0, none⟩) 1 1) ((wr1.drewN 1).alloc (mkO ⟨sg, tx⟩)) (by kernel_rfl) trivial ?_ ?_
              · simp only [Act.put, List.setIfInBounds_toArray, List.set_cons_zero, List.set_cons_succ]
                refine go_val 5 30 _ rfl (by kernel_rfl) (by kernel_rfl) (by kernel_rfl) (.slice (some ⟨u3.heap.size, 0, none⟩) 1 1) (u3.alloc (mkO ⟨sg, tx⟩)) (by kernel_rfl) trivial ?_
                simp only [Act.put, List.setIfInBounds_toArray, List.set_cons_zero, List.set_cons_succ]
                refine go_val 6 31 _ rfl (by kernel_rfl) (by kernel_rfl) (by kernel_rfl) _ u4 (exec_app (.tmp 28) (.tmp 30) (by kernel_rfl) (by kernel_rfl) (by kernel_rfl) hr4) trivial ?_
                simp only [Act.put, List.setIfInBounds_toArray, List.set_cons_zero, List.set_cons_succ]
                refine go_take 7 32 _ (.pointer (some ⟨W.heap.size, 4, none⟩)) rfl (by kernel_rfl) (by kernel_rfl) (by kernel_rfl) (by kernel_rfl) (fun _ _ _ h => h) (Or.inl ⟨by kernel_rfl, fun u hu => by kernel_rfl⟩) hHeld ?_
                simp only [Act.put, List.setIfInBounds_toArray, List.set_cons_zero, List.set_cons_succ]
                refine go_skip 8 _ rfl (by kernel_rfl) (by kernel_rfl) (by kernel_rfl) (u4.setCell ⟨W.heap.size, 4, none⟩ (.slice p4 (x.length + y.length + 1) q4)) (exec_storeL (v := .slice p4 (x.length + y.length + 1) q4) (o' := p4) (n' := x.length + y.length + 1) (c' := q4) (hbx4.frozen 4) hbx4.cells.2.2.2.2 rfl (.tmp 32) (.tmp 31) (by kernel_rfl) (by kernel_rfl) (by kernel_rfl)) trivial ?_
                refine wpAnyH_done (by kernel_rfl) ?_ _
                refine NoPanic.normal ?_
                go_wp2
                exact ⟨⟨k + 1, _, x ++ y ++ [⟨sg, tx⟩], [], by omega, by go_num, ⟨_, _, by simp only [List.length_append]; rfl⟩, ⟨_, _, rfl⟩, by simp; omega, hI4, by have h := HI3.out; show _ = _; rw [← h]; simp⟩, by simp [intOf]; omega⟩
              · simp only [Act.put, List.setIfInBounds_toArray, List.set_cons_zero, List.set_cons_succ]
                refine go_val 3 28 _ rfl (by kernel_rfl) (by kernel_rfl) (by kernel_rfl) (v6) u6 (exec_app (.tmp 26) (.tmp 27) (by kernel_rfl) (by kernel_rfl) (by kernel_rfl) hr6) trivial ?_
                simp only [Act.put, List.setIfInBounds_toArray, List.set_cons_zero, List.set_cons_succ]
                refine go_val 6 31 _ rfl (by kernel_rfl) (by kernel_rfl) (by kernel_rfl) _ u7 (exec_app (.tmp 28) (.tmp 30) (by kernel_rfl) (by kernel_rfl) (by kernel_rfl) hr7) trivial ?_
                simp only [Act.put, List.setIfInBounds_toArray, List.set_cons_zero, List.set_cons_succ]
                refine go_take 7 32 _ (.pointer (some ⟨W.heap.size, 4, none⟩)) rfl (by kernel_rfl) (by kernel_rfl) (by kernel_rfl) (by kernel_rfl) (fun _ _ _ h => h) (Or.inl ⟨by kernel_rfl, fun u hu => by kernel_rfl⟩) hHeld ?_
                simp only [Act.put, List.setIfInBounds_toArray, List.set_cons_zero, List.set_cons_succ]
                refine go_skip 8 _ rfl (by kernel_rfl) (by kernel_rfl) (by kernel_rfl) (u7.setCell ⟨W.heap.size, 4, none⟩ (.slice p7 (x.length + y.length + 1) q7)) (exec_storeL (v := .slice p7 (x.length + y.length + 1) q7) (o' := p7) (n' := x.length + y.length + 1) (c' := q7) (hbx7.frozen 4) hbx7.cells.2.2.2.2 rfl (.tmp 32) (.tmp 31) (by kernel_rfl) (by kernel_rfl) (by kernel_rfl)) trivial ?_
                refine wpAnyH_done (by kernel_rfl) ?_ _
                refine NoPanic.normal ?_
                go_wp2
                exact ⟨⟨k + 1, _, x ++ y ++ [⟨sg, tx⟩], [], by omega, by go_num, ⟨_, _, by simp only [List.length_append]; rfl⟩, ⟨_, _, rfl⟩, by simp; omega, hI7, by have h := HI3.out; show _ = _; rw [← h]; simp⟩, by simp [intOf]; omega⟩
            · simp only [Act.put, List.setIfInBounds_toArray, List.set_cons_zero, List.set_cons_succ]
              refine go_val 1 26 _ rfl (by kernel_rfl) (by kernel_rfl) (by kernel_rfl) (.slice oo x.length oc) ((wr1.drewN 1).alloc (mkO ⟨sg, tx⟩)) (load_mks hbA (.tmp 25) (by kernel_rfl) (by kernel_rfl)) trivial ?_
              simp only [Act.put, List.setIfInBounds_toArray, List.set_cons_zero, List.set_cons_succ]
              refine go_val 3 28 _ rfl (by kernel_rfl) (by kernel_rfl) (by kernel_rfl) (v6) u6 (exec_app (.tmp 26) (.tmp 27) (by kernel_rfl) (by kernel_rfl) (by kernel_rfl) hr6) trivial ?_
              simp only [Act.put, List.setIfInBounds_toArray, List.set_cons_zero, List.set_cons_succ]
              refine go_val 6 31 _ rfl (by kernel_rfl) (by kernel_rfl) (by kernel_rfl) _ u7 (exec_app (.tmp 28) (.tmp 30) (by kernel_rfl) (by kernel_rfl) (by kernel_rfl) hr7) trivial ?_
              simp only [Act.put, List.setIfInBounds_toArray, List.set_cons_zero, List.set_cons_succ]
              refine go_take 7 32 _ (.pointer (some ⟨W.heap.size, 4, none⟩)) rfl (by kernel_rfl) (by kernel_rfl) (by kernel_rfl) (by kernel_rfl) (fun _ _ _ h => h) (Or.inl ⟨by kernel_rfl, fun u hu => by kernel_rfl⟩) hHeld ?_
              simp only [Act.put, List.setIfInBounds_toArray, List.set_cons_zero, List.set_cons_succ]
              refine go_skip 8 _ rfl (by kernel_rfl) (by kernel_rfl) (by kernel_rfl) (u7.setCell ⟨W.heap.size, 4, none⟩ (.slice p7 (x.length + y.length + 1) q7)) (exec_storeL (v := .slice p7 (x.length + y.length + 1) q7) (o' := p7) (n' := x.length + y.length + 1) (c' := q7) (hbx7.frozen 4) hbx7.cells.2.2.2.2 rfl (.tmp 32) (.tmp 31) (by kernel_rfl) (by kernel_rfl) (by kernel_rfl)) trivial ?_
              refine wpAnyH_done (by kernel_rfl) ?_ _
              refine NoPanic.normal ?_
              go_wp2
              exact ⟨⟨k + 1, _, x ++ y ++ [⟨sg, tx⟩], [], by omega, by go_num, ⟨_, _, by simp only [List.length_append]; rfl⟩, ⟨_, _, rfl⟩, by simp; omega, hI7, by have h := HI3.out; show _ = _; rw [← h]; simp⟩, by simp [intOf]; omega⟩
    · have HI3 : Hid (x ++ y = R) := (by
        have h := HI.out
        rw [List.drop_of_length_le (by omega)] at h
        exact h)
      have hend : decide ((k : Int) < (ls.length : Int)) = false := decide_eq_false (by omega)
      have hsd := hI1.low.size
      clear HI
      go_wp2_with (at_builtin; refine wpList_append_w _ (by kernel_rfl) (.tmp 55) (.tmp 56) 37 46 (.agg #[.int .u8 0, .string ⟨#[]⟩]) 2 24 rfl Try.underlying37 infoMk rfl (by decide) (by decide) (W.heap.size + 1) _ _ _ rfl hI1.own _ y.length (mkcells y) rfl (holds_of hI1.add) (mkcells_length _) (mkcells_one _) (by omega) (by have := hI1.box.lt; omega) ?_)
      intro v3 u3 hown3 hg3 hb3
      rw [← mkcells_append] at hown3
      obtain ⟨o3, c3, rfl⟩ := (holds_of hown3).form
      obtain ⟨hbx3, hI4⟩ := hI1.last (x' := x ++ y) hg3 (by rw [List.length_append]; exact hown3)
      obtain ⟨f0, f1, f2, f3, f4⟩ := hbx3.cells
      have ff := hbx3.frozen 4
      have hz4 := hz2.low hI4.low
      obtain ⟨t0, t1, t2, t3, t4⟩ := hI4.box.cells
      obtain ⟨z0, z1, z2, z3, z4⟩ := hz4.cells
      have zf := hz4.frozen
      have zf0 := zf 0
      have zf1 := zf 1
      have zf2 := zf 2
      have zf3 := zf 3
      have zf4 := zf 4
      have hP := hz4.put5 (.int .i64 B) (.int .i64 BN) (.int .i64 A) (.int .i64 AN) (.slice o3 (x.length + y.length) c3)
      have hlw : Below w.heap.size w (u3.setCell ⟨W.heap.size, 4, none⟩ (.slice o3 (x.length + y.length) c3)) := hB2.trans (hI4.low.mono hB2.size)
      have hown5 := hI4.own
      have HR3 : Hid (x ++ y = R) := HI3
      clear zf hg3 hb3 hown3 f0 f1 f2 f3 x0 x1 x2 x3 x4 b0 b1 b2 b3 b4 HI3
      go_upto_region 15 with fail
      generalize u3.setCell ⟨W.heap.size, 4, none⟩ (.slice o3 (x.length + y.length) c3) = W4 at *
      go_wp2
      refine bodyPost_ret (v := hkV ⟨B, BN, A, AN, R⟩ (.slice o3 (x.length + y.length) c3)) (results_cell_row rfl _ _ (w.heap.size + 1) 39 #[.int .i64 B, .int .i64 BN, .int .i64 A, .int .i64 AN, .slice o3 (x.length + y.length) c3] (0, 0) _ rfl hP Try.underlying39 rfl (by kernel_rfl)) rfl ⟨_, rfl, ?_, ?_⟩
      · rw [← HR3.out]
        have hsw := HSZ.out
        have key : ∀ (u : World) (j : Nat) (z : Value), u.ownsRow w.heap.size 46 2 (.slice o3 (x.length + y.length) c3) (x ++ y).length (mkcells (x ++ y)) → (∀ g, (Value.slice o3 (x.length + y.length) c3).ownBlock = some g → w.heap.size + 1 < g) → (u.setCell ⟨w.heap.size + 1, j, none⟩ z).ownsRow w.heap.size 46 2 (.slice o3 (x.length + y.length) c3) (x ++ y).length (mkcells (x ++ y)) := fun u j z ho hg => own_kept ho (grown_set u _ j z) (fun k hk e => by cases hk; have := hg _ e; omega)
        have hgg : ∀ g, (Value.slice o3 (x.length + y.length) c3).ownBlock = some g → w.heap.size + 1 < g := fun g hg => by have := owns_ge hown5 hg; omega
        have h0 : W4.ownsRow w.heap.size 46 2 (.slice o3 (x.length + y.length) c3) (x ++ y).length (mkcells (x ++ y)) := own_base hown5 (by omega)
        exact key _ _ _ (key _ _ _ (key _ _ _ (key _ _ _ (key _ _ _ h0 hgg) hgg) hgg) hgg) hgg
      · exact ((((hlw.setCell (by simp) _).setCell (by simp) _).setCell (by simp) _).setCell (by simp) _).setCell (by simp) _
end Go.Proofs.Ythckcdpgjdbgcaa

/- Plain facts on texts as lists of bytes: their lines, whether lines are right, the first byte in which two texts differ, a line without its line feed. -/
namespace Go.Proofs.Ythckcdpgjdbgcaa.Ln
open Go

/-- the lines of a text -/
def splitL : List UInt8 → List (List UInt8)
  | [] => []
  | c :: t => if c = 10 then [c] :: splitL t else match splitL t with
    | [] => [[c]]
    | x :: r => (c :: x) :: r

theorem split_cut (a b : List UInt8) (h : ∀ c ∈ a, c ≠ 10) : splitL (a ++ 10 :: b) = (a ++ [10]) :: splitL b := by
  induction a with
  | nil => simp [splitL]
  | cons c a ih =>
    have hc : c ≠ 10 := h c (by simp)
    have := ih fun x hx => h x (by simp [hx])
    simp only [List.cons_append, splitL, hc, if_false, this]

theorem split_one (a : List UInt8) (h : ∀ c ∈ a, c ≠ 10) (h0 : a ≠ []) : splitL a = [a] := by
  induction a with
  | nil => exact absurd rfl h0
  | cons c a ih =>
    have hc : c ≠ 10 := h c (by simp)
    cases a with
    | nil => simp [splitL, hc]
    | cons d a =>
      have := ih (fun x hx => h x (by simp [hx])) (by simp)
      simp only [splitL, hc, if_false] at this ⊢
      rw [this]

theorem split_join (l : List UInt8) : (splitL l).flatten = l := by
  induction l with
  | nil => rfl
  | cons c t ih =>
    unfold splitL
    by_cases hc : c = 10
    · simp [hc, ih]
    · simp only [hc, if_false]
      cases hs : splitL t with
      | nil => rw [hs] at ih; simp at ih; simp [← ih]
      | cons x r => rw [hs] at ih; simp at ih; simp [ih]

theorem split_len (l : List UInt8) : (splitL l).length ≤ l.length := by
  induction l with
  | nil => simp [splitL]
  | cons c t ih =>
    unfold splitL
    by_cases hc : c = 10
    · simp [hc]; omega
    · simp only [hc, if_false]
      cases hs : splitL t with
      | nil => simp
      | cons x r => rw [hs] at ih; simp at ih ⊢; omega

theorem split_nil {l : List UInt8} (h : splitL l = []) : l = [] := by
  have := split_join l
  rw [h] at this
  simpa using this.symm

/-- whether a text is a line; the last one may lack its line feed -/
def lineB : List UInt8 → Bool → Bool
  | [], _ => false
  | [c], last => last || c == 10
  | c :: d :: t, last => c != 10 && lineB (d :: t) last

def checkB : List (List UInt8) → Bool
  | [] => true
  | s :: t => lineB s t.isEmpty && checkB t

/-- what Check tells -/
def checkE (l : List (List UInt8)) : Int := if checkB l then 0 else 6

theorem lineB_cons (c : UInt8) (x : List UInt8) (last : Bool) (hx : x ≠ []) : lineB (c :: x) last = (c != 10 && lineB x last) := by
  cases x with
  | nil => exact absurd rfl hx
  | cons d t => rfl

theorem lineB_ne {x : List UInt8} {last : Bool} (h : lineB x last = true) : x ≠ [] := by rintro rfl; cases h

theorem lineB_false {x : List UInt8} (h : lineB x false = true) : ∃ a, x = a ++ [10] ∧ ∀ c ∈ a, c ≠ 10 := by
  induction x with
  | nil => cases h
  | cons c t ih =>
    cases t with
    | nil => exact ⟨[], by simpa [lineB] using h, by simp⟩
    | cons d t =>
      simp only [lineB, Bool.and_eq_true, bne_iff_ne] at h
      obtain ⟨a, ha, hn⟩ := ih h.2
      refine ⟨c :: a, by rw [ha]; rfl, ?_⟩
      intro x hx
      simp only [List.mem_cons] at hx
      rcases hx with rfl | hx
      · exact h.1
      · exact hn x hx

theorem lineB_true {x : List UInt8} (h : lineB x true = true) : lineB x false = true ∨ ∀ c ∈ x, c ≠ 10 := by
  induction x with
  | nil => cases h
  | cons c t ih =>
    cases t with
    | nil =>
      by_cases hc : c = 10
      · exact .inl (by simp [lineB, hc])
      · exact .inr (by simpa using hc)
    | cons d t =>
      simp only [lineB, Bool.and_eq_true, bne_iff_ne] at h
      rcases ih h.2 with h2 | h2
      · exact .inl (by simp only [lineB, Bool.and_eq_true, bne_iff_ne]; exact ⟨h.1, h2⟩)
      · refine .inr ?_
        intro x hx
        simp only [List.mem_cons] at hx
        rcases hx with rfl | hx
        · exact h.1
        · exact h2 x (by simpa using hx)

theorem split_right (l : List UInt8) : checkB (splitL l) = true := by
  induction l with
  | nil => rfl
  | cons c t ih =>
    unfold splitL
    by_cases hc : c = 10
    · simp [hc, checkB, lineB, ih]
    · simp only [hc, if_false]
      cases hs : splitL t with
      | nil => simp [checkB, lineB]
      | cons x r =>
        rw [hs] at ih
        simp only [checkB, Bool.and_eq_true] at ih ⊢
        rw [lineB_cons c x _ (lineB_ne ih.1)]
        simp [hc, ih.1, ih.2]

/-- right lines are the lines of the text that they make -/
theorem right_split (ws : List (List UInt8)) (h : checkB ws = true) : splitL ws.flatten = ws := by
  induction ws with
  | nil => rfl
  | cons x r ih =>
    simp only [checkB, Bool.and_eq_true] at h
    have hr := ih h.2
    cases r with
    | nil =>
      simp only [List.flatten_cons, List.flatten_nil, List.append_nil]
      rcases lineB_true (by simpa using h.1) with h1 | h1
      · obtain ⟨a, rfl, hn⟩ := lineB_false h1
        rw [split_cut a [] hn]; rfl
      · exact split_one x h1 (lineB_ne h.1)
    | cons y r =>
      obtain ⟨a, rfl, hn⟩ := lineB_false (by simpa using h.1)
      rw [List.flatten_cons, List.append_assoc]
      rw [show a ++ ([10] ++ (y :: r).flatten) = a ++ 10 :: (y :: r).flatten from rfl, split_cut a _ hn, hr]

theorem index_none {l : List UInt8} {c : UInt8} (h : Lib.indexByte l c < 0) : Lib.indexByte l c = -1 ∧ ∀ x ∈ l, x ≠ c := by
  induction l with
  | nil => exact ⟨rfl, by simp⟩
  | cons b l ih =>
    unfold Lib.indexByte at h ⊢
    by_cases hb : (b == c) = true
    · rw [if_pos hb] at h; simp at h
    · rw [if_neg hb] at h ⊢
      by_cases h1 : (Lib.indexByte l c == -1) = true
      · rw [if_pos h1]
        have h2 := ih (by simp at h1; omega)
        refine ⟨rfl, ?_⟩
        intro x hx
        simp only [List.mem_cons] at hx
        rcases hx with rfl | hx
        · simpa using hb
        · exact h2.2 x hx
      · rw [if_neg h1] at h
        have := Lib.indexByte_ge l c
        simp at h1
        omega

theorem index_some {l : List UInt8} {c : UInt8} (h : 0 ≤ Lib.indexByte l c) : ∃ a b, l = a ++ c :: b ∧ (∀ x ∈ a, x ≠ c) ∧ Lib.indexByte l c = a.length := by
  induction l with
  | nil => simp [Lib.indexByte] at h
  | cons d l ih =>
    unfold Lib.indexByte at h ⊢
    by_cases hb : (d == c) = true
    · have : d = c := by simpa using hb
      subst this
      rw [if_pos hb]
      exact ⟨[], l, rfl, by simp, rfl⟩
    · rw [if_neg hb] at h ⊢
      by_cases h1 : (Lib.indexByte l c == -1) = true
      · rw [if_pos h1] at h; simp at h
      · rw [if_neg h1] at h ⊢
        have := Lib.indexByte_ge l c
        obtain ⟨a, b, e1, e2, e3⟩ := ih (by simp at h1; omega)
        refine ⟨d :: a, b, by rw [e1]; rfl, ?_, by rw [e3]; simp⟩
        intro x hx
        simp only [List.mem_cons] at hx
        rcases hx with rfl | hx
        · simpa using hb
        · exact e2 x hx

theorem lineB_all {x : List UInt8} (h : ∀ c ∈ x, c ≠ 10) (last : Bool) : lineB x last = (last && !x.isEmpty) := by
  induction x with
  | nil => simp [lineB]
  | cons c t ih =>
    cases t with
    | nil =>
      have : c ≠ 10 := h c (by simp)
      simp [lineB, this]
    | cons d t =>
      rw [lineB, ih fun x hx => h x (by simp [hx])]
      have : c ≠ 10 := h c (by simp)
      simp [this]

theorem lineB_cut {a b : List UInt8} (h : ∀ c ∈ a, c ≠ 10) (last : Bool) : lineB (a ++ 10 :: b) last = b.isEmpty := by
  induction a with
  | nil =>
    cases b with
    | nil => simp [lineB]
    | cons d b => simp [lineB]
  | cons c a ih =>
    have hc : c ≠ 10 := h c (by simp)
    rw [List.cons_append, lineB_cons _ _ _ (by simp), ih fun x hx => h x (by simp [hx])]
    simp [hc]

/-- how many bytes at their fronts two texts have alike -/
def commonN : List UInt8 → List UInt8 → Nat
  | x :: a, y :: b => if x = y then commonN a b + 1 else 0
  | _, _ => 0

theorem common_le (a b : List UInt8) : commonN a b ≤ a.length ∧ commonN a b ≤ b.length := by
  induction a generalizing b with
  | nil => cases b <;> simp [commonN]
  | cons x a ih =>
    cases b with
    | nil => simp [commonN]
    | cons y b =>
      have := ih b
      unfold commonN
      split <;> simp <;> omega

theorem common_comm (a b : List UInt8) : commonN a b = commonN b a := by
  induction a generalizing b with
  | nil => cases b <;> rfl
  | cons x a ih =>
    cases b with
    | nil => rfl
    | cons y b =>
      unfold commonN
      by_cases h : x = y
      · rw [if_pos h, if_pos h.symm, ih b]
      · rw [if_neg h, if_neg (fun e => h e.symm)]

theorem common_take (a b : List UInt8) : a.take (commonN a b) = b.take (commonN a b) := by
  induction a generalizing b with
  | nil => cases b <;> simp [commonN]
  | cons x a ih =>
    cases b with
    | nil => simp [commonN]
    | cons y b =>
      unfold commonN
      by_cases h : x = y
      · rw [if_pos h, List.take_succ_cons, List.take_succ_cons, ih b, h]
      · rw [if_neg h]; rfl

theorem common_ne (a b : List UInt8) (h1 : commonN a b < a.length) (h2 : commonN a b < b.length) : a[commonN a b] ≠ b[commonN a b] := by
  induction a generalizing b with
  | nil => simp at h1
  | cons x a ih =>
    cases b with
    | nil => simp at h2
    | cons y b =>
      by_cases h : x = y
      · have e : commonN (x :: a) (y :: b) = commonN a b + 1 := by simp [commonN, h]
        simp only [e, List.length_cons] at h1 h2
        have := ih b (by omega) (by omega)
        simpa [e] using this
      · have e : commonN (x :: a) (y :: b) = 0 := by simp [commonN, h]
        simpa [e] using h

theorem common_full {a b : List UInt8} (h1 : commonN a b = a.length) (h2 : commonN a b = b.length) : a = b := by
  have := common_take a b
  rw [List.take_of_length_le (by omega), List.take_of_length_le (by omega)] at this
  exact this

theorem common_self (a : List UInt8) : commonN a a = a.length := by
  induction a with
  | nil => rfl
  | cons x a ih => simp [commonN, ih]

/-- one step further -/
theorem common_step {a b : List UInt8} {k : Nat} (hk : k ≤ commonN a b) (ha : k < a.length) (hb : k < b.length) (he : a[k] = b[k]) : k + 1 ≤ commonN a b := by
  rcases Nat.lt_or_ge k (commonN a b) with h | h
  · exact h
  · have e : commonN a b = k := by omega
    have := common_ne a b (by omega) (by omega)
    simp only [e] at this
    exact absurd he this

theorem common_stop {a b : List UInt8} {k : Nat} (hk : k ≤ commonN a b) (ha : k < a.length) (hb : k < b.length) (he : a[k] ≠ b[k]) : commonN a b = k := by
  rcases Nat.lt_or_ge k (commonN a b) with h | h
  · have h1 := common_take a b
    have h2 : (a.take (commonN a b))[k]? = (b.take (commonN a b))[k]? := by rw [h1]
    rw [List.getElem?_take_of_lt h, List.getElem?_take_of_lt h] at h2
    simp only [ha, hb, List.getElem?_eq_getElem, Option.some.injEq] at h2
    exact absurd h2 he
  · omega

theorem common_end {a b : List UInt8} {k : Nat} (hk : k ≤ commonN a b) (h : a.length ≤ k ∨ b.length ≤ k) : commonN a b = k := by
  have := common_le a b
  omega

/-- the first byte in which two texts differ, and its line -/
def firstN (a b : List UInt8) : Nat := if a = b then 0 else commonN a b + 1
def firstL (a b : List UInt8) : Nat := if a = b then 0 else (a.take (commonN a b)).count 10 + 1
def firstB (a b : List UInt8) : Bool := !(decide (a = b))

/-- a line without its line feed -/
def feedB (s : List UInt8) : Bool := s.getLast? == some 10
def bareL (s : List UInt8) : List UInt8 := if feedB s then s.dropLast else s

/-- whole lines -/
theorem split_count (l : List UInt8) : l.count 10 = (splitL l).length - (if feedB l || l.isEmpty then 0 else 1) := by
  induction l with
  | nil => rfl
  | cons c t ih =>
    unfold splitL
    by_cases hc : c = 10
    · subst hc
      cases t with
      | nil => simp [feedB, splitL]
      | cons d t =>
        have e : feedB (10 :: d :: t) = feedB (d :: t) := by simp [feedB]
        have h1 : 0 < (splitL (d :: t)).length := by
          rcases Nat.eq_zero_or_pos (splitL (d :: t)).length with h | h
          · have := split_nil (List.eq_nil_of_length_eq_zero h); simp at this
          · exact h
        rw [e]
        simp only [List.count_cons_self, ih, if_true, List.length_cons, List.isEmpty_cons]
        split <;> omega
    · simp only [hc, if_false]
      cases t with
      | nil => simp [feedB, splitL, hc]
      | cons d t =>
        have e : feedB (c :: d :: t) = feedB (d :: t) := by simp [feedB]
        rw [e, List.count_cons_of_ne hc, ih]
        cases hs : splitL (d :: t) with
        | nil => have := split_nil hs; simp at this
        | cons x r => simp

/-- the last line has a line feed just if the text has one at its end -/
theorem split_last (l : List UInt8) (h : splitL l ≠ []) : feedB ((splitL l).getLast h) = feedB l := by
  have hj := split_join l
  have hr := split_right l
  generalize splitL l = ws at *
  subst hj
  induction ws with
  | nil => exact absurd rfl h
  | cons x r ih =>
    simp only [checkB, Bool.and_eq_true] at hr
    cases r with
    | nil => simp
    | cons y r =>
      have := ih (by simp) hr.2
      rw [List.getLast_cons (by simp), this]
      have hne : (y :: r).flatten ≠ [] := by
        simp only [checkB, Bool.and_eq_true] at hr
        have := lineB_ne hr.2.1
        simp [this]
      have e : (x :: y :: r).flatten = x ++ (y :: r).flatten := List.flatten_cons
      rw [e]
      generalize (y :: r).flatten = z at *
      unfold feedB
      rw [List.getLast?_append]
      cases hl : z.getLast? with
      | none => exact absurd (List.getLast?_eq_none_iff.1 hl) hne
      | some z => rfl

theorem split_cat (a b : List UInt8) (h : a = [] ∨ feedB a = true) : splitL (a ++ b) = splitL a ++ splitL b := by
  induction a with
  | nil => rfl
  | cons c t ih =>
    have hf : feedB (c :: t) = true := by rcases h with h | h; · cases h
                                          · exact h
    have ht : t = [] ∨ feedB t = true := by
      cases t with
      | nil => exact .inl rfl
      | cons d t => exact .inr (by simpa [feedB] using hf)
    have := ih ht
    have s1 : splitL (c :: t) = if c = 10 then [c] :: splitL t else match splitL t with | [] => [[c]] | x :: r => (c :: x) :: r := rfl
    have s2 : splitL (c :: (t ++ b)) = if c = 10 then [c] :: splitL (t ++ b) else match splitL (t ++ b) with | [] => [[c]] | x :: r => (c :: x) :: r := rfl
    rw [List.cons_append, s1, s2]
    by_cases hc : c = 10
    · simp [hc, this]
    · simp only [hc, if_false, this]
      cases hs : splitL t with
      | nil =>
        have := split_nil hs
        subst this
        simp [feedB] at hf
        exact absurd hf hc
      | cons x r => rfl

/-- the last line of the first and the first of the second are one -/
theorem split_glue (a b : List UInt8) (ha : a ≠ []) (hf : feedB a = false) (hb : b ≠ []) : ∃ p x y q, splitL a = p ++ [x] ∧ splitL b = y :: q ∧ splitL (a ++ b) = p ++ (x ++ y) :: q := by
  induction a with
  | nil => exact absurd rfl ha
  | cons c t ih =>
    cases t with
    | nil =>
      have hc : c ≠ 10 := by simpa [feedB] using hf
      cases hs : splitL b with
      | nil => exact absurd (split_nil hs) hb
      | cons y q =>
        refine ⟨[], [c], y, q, by simp [splitL, hc], rfl, ?_⟩
        rw [List.cons_append, List.nil_append]
        unfold splitL
        simp [hc, hs]
    | cons d t =>
      obtain ⟨p, x, y, q, e1, e2, e3⟩ := ih (by simp) (by simpa [feedB] using hf)
      rw [List.cons_append]
      have s1 : splitL (c :: (d :: t)) = if c = 10 then [c] :: splitL (d :: t) else match splitL (d :: t) with | [] => [[c]] | x :: r => (c :: x) :: r := rfl
      have s2 : splitL (c :: (d :: t ++ b)) = if c = 10 then [c] :: splitL (d :: t ++ b) else match splitL (d :: t ++ b) with | [] => [[c]] | x :: r => (c :: x) :: r := rfl
      rw [s1, s2, e1, e3]
      by_cases hc : c = 10
      · exact ⟨[c] :: p, x, y, q, by simp [hc], e2, by simp [hc]⟩
      · simp only [hc, if_false]
        cases p with
        | nil => exact ⟨[], c :: x, y, q, rfl, e2, rfl⟩
        | cons z p => exact ⟨(c :: z) :: p, x, y, q, rfl, e2, rfl⟩

theorem join_nil_sep (xs : List (List UInt8)) : Lib.join xs [] = xs.flatten := by
  induction xs with
  | nil => rfl
  | cons x r ih =>
    rw [Lib.join_cons]
    simp [Lib.joinTail]

theorem flatten_le {ws : List (List UInt8)} {n : Nat} (h : ∀ a ∈ ws, a.length ≤ n) : ws.flatten.length ≤ ws.length * n := by
  induction ws with
  | nil => simp
  | cons x r ih =>
    have h1 := h x (by simp)
    have h2 := ih fun a ha => h a (by simp [ha])
    simp only [List.flatten_cons, List.length_append, List.length_cons, Nat.add_mul]
    omega
end Go.Proofs.Ythckcdpgjdbgcaa.Ln

/- What the code's Check of layer 11 asks of a hunk's lines is what the chapter asks; plain mathematics. -/
namespace Go.Proofs.Ythckcdpgjdbgcaa
open Ln

theorem lineB_eq (s : List UInt8) (last : Bool) : lineB s last = (linB s && (last || fdB s)) := by
  induction s with
  | nil => rfl
  | cons c t ih =>
    cases t with
    | nil =>
      simp [lineB, linB, fdB]
    | cons d t =>
      have e1 : linB (c :: d :: t) = (c != 10 && linB (d :: t)) := by
        simp [linB, List.dropLast]
      have e2 : fdB (c :: d :: t) = fdB (d :: t) := by simp [fdB]
      rw [e1, e2, Bool.and_assoc, ← ih]
      rfl
/-- all signs are known -/
def allB (l : List Mk) : Bool := l.all fun m => okS m.sg
theorem pk_none {sg no : Int} (h : sg = 45 ∧ no = 43 ∨ sg = 43 ∧ no = 45) {l : List Mk} (hl : allB l = true) : (pkL no l).isEmpty = lstB sg l := by
  induction l with
  | nil => rfl
  | cons m l ih =>
    simp only [allB, List.all_cons, Bool.and_eq_true] at hl
    have ih := ih hl.2
    have hm := hl.1
    simp only [okS, Bool.or_eq_true, decide_eq_true_eq] at hm
    simp only [pkL, lstB, List.all_cons]
    have key : (m.sg ≠ no ∧ okS m.sg = true) ↔ ¬ (m.sg ≠ sg ∧ m.sg ≠ 32) := by
      constructor
      · rintro ⟨k1, _⟩ k2
        rcases h with ⟨rfl, rfl⟩ | ⟨rfl, rfl⟩ <;> omega
      · intro k
        refine ⟨fun k1 => ?_, hl.1⟩
        rcases h with ⟨rfl, rfl⟩ | ⟨rfl, rfl⟩ <;> omega
    by_cases q : m.sg ≠ sg ∧ m.sg ≠ 32
    · rw [if_neg (fun k => key.1 k q), ih, decide_eq_true q.1, decide_eq_true q.2]
      rfl
    · rw [if_pos (key.2 q)]
      have : (decide (m.sg ≠ sg) && decide (m.sg ≠ 32)) = false := by
        rw [← Bool.not_eq_true, Bool.and_eq_true, decide_eq_true_eq, decide_eq_true_eq]
        exact q
      rw [this]
      rfl
/-- the chapter's rule on lines, as the code says it -/
theorem fld_code (l : List Mk) : fldB l = (allB l && checkB (pkL 43 l) && checkB (pkL 45 l)) := by
  induction l with
  | nil => rfl
  | cons m l ih =>
    have e0 : allB (m :: l) = (okS m.sg && allB l) := rfl
    rw [e0]
    cases ha : allB l with
    | false =>
      rw [ha] at ih
      have ih : fldB l = false := by rw [ih]; rfl
      simp [fldB, ih]
    | true =>
      rw [ha] at ih
      have p1 := pk_none (.inl ⟨rfl, rfl⟩) ha
      have p2 := pk_none (.inr ⟨rfl, rfl⟩) ha
      obtain ⟨sg, tx⟩ := m
      simp only [fldB]
      rw [ih]
      by_cases h1 : sg = 32
      · subst h1
        have q1 : pkL 43 (⟨32, tx⟩ :: l) = tx :: pkL 43 l := by rw [pkL, if_pos (by dsimp only; decide)]
        have q2 : pkL 45 (⟨32, tx⟩ :: l) = tx :: pkL 45 l := by rw [pkL, if_pos (by dsimp only; decide)]
        rw [q1, q2]
        simp only [checkB, lineB_eq, p1, p2, okS]
        cases linB tx <;> cases fdB tx <;> cases lstB 45 l <;> cases lstB 43 l <;> cases checkB (pkL 43 l) <;> cases checkB (pkL 45 l) <;> rfl
      · by_cases h2 : sg = 45
        · subst h2
          have q1 : pkL 43 (⟨45, tx⟩ :: l) = tx :: pkL 43 l := by rw [pkL, if_pos (by dsimp only; decide)]
          have q2 : pkL 45 (⟨45, tx⟩ :: l) = pkL 45 l := by rw [pkL, if_neg (by dsimp only; decide)]
          rw [q1, q2]
          simp only [checkB, lineB_eq, p1, okS]
          cases linB tx <;> cases fdB tx <;> cases lstB 45 l <;> cases lstB 43 l <;> cases checkB (pkL 43 l) <;> cases checkB (pkL 45 l) <;> rfl
        · by_cases h3 : sg = 43
          · subst h3
            have q1 : pkL 43 (⟨43, tx⟩ :: l) = pkL 43 l := by rw [pkL, if_neg (by dsimp only; decide)]
            have q2 : pkL 45 (⟨43, tx⟩ :: l) = tx :: pkL 45 l := by rw [pkL, if_pos (by dsimp only; decide)]
            rw [q1, q2]
            simp only [checkB, lineB_eq, p2, okS]
            cases linB tx <;> cases fdB tx <;> cases lstB 45 l <;> cases lstB 43 l <;> cases checkB (pkL 43 l) <;> cases checkB (pkL 45 l) <;> rfl
          · have q : okS sg = false := by simp [okS, h1, h2, h3]
            simp [q]
end Go.Proofs.Ythckcdpgjdbgcaa

/- Check of layer lines, walked at rows of texts; slices.ContainsFunc, walked at lines with signs. -/
namespace Go.Proofs.Ythckcdpgjdbgcaa
open Ln Go.RowKit

set_option maxHeartbeats 1000000 in
theorem isLine_any (l : List UInt8) (last : Bool) (w : World) (hl : l.length ≤ 1099511627776) (r : Bool) (HR : Hid (lineB l last = r)) :
    Calls Try.prog 49 #[.string ⟨l.toArray⟩, .bool last] w fun e w' => e = .returned (.bool r) ∧ w = w' := by
  rcases Int.lt_or_le (Lib.indexByte l 10) 0 with hq | hq
  · obtain ⟨q1, q2⟩ := index_none hq
    have HE : Hid ((last && !l.isEmpty) = r) := (by show _ = _; rw [← HR.out]; exact (lineB_all q2 last).symm)
    clear hq q2 HR
    go_enter Try.func49, Try.ntmps49
    go_wp2_with fail
    refine (Try.strings_Index_one ⟨l.toArray⟩ 10 _).mono ?_
    rintro e w1 ⟨rfl, rfl⟩
    have hi2 : Lib.indexByte (⟨l.toArray⟩ : ByteArray).data.toList 10 = -1 := q1
    rw [hi2]
    cases last with
    | false =>
      go_wp2
      go_ret
      rw [← HE.out]
      exact ⟨rfl, rfl⟩
    | true =>
      cases l with
      | nil =>
        go_wp2
        go_ret
        rw [← HE.out]
        exact ⟨rfl, rfl⟩
      | cons c t =>
        go_wp2
        go_ret
        rw [← HE.out]
        exact ⟨rfl, rfl⟩
  · obtain ⟨a, b, he, hn, hi⟩ := index_some hq
    have HE : Hid (b.isEmpty = r) := (by
      show _ = _
      rw [← HR.out, he]
      exact (lineB_cut hn last).symm)
    have hlen : l.length = a.length + 1 + b.length := by rw [he]; simp; omega
    clear hn hq he HR
    go_enter Try.func49, Try.ntmps49
    go_wp2_with fail
    refine (Try.strings_Index_one ⟨l.toArray⟩ 10 _).mono ?_
    rintro e w1 ⟨rfl, rfl⟩
    have hi2 : Lib.indexByte (⟨l.toArray⟩ : ByteArray).data.toList 10 = a.length := hi
    rw [hi2]
    cases b with
    | nil =>
      have hb : ((a.length : Int) == (l.length : Int) - 1) = true := by simp at hlen; simp; omega
      clear hlen
      go_wp2
      go_ret
      rw [← HE.out]
      exact ⟨rfl, rfl⟩
    | cons c t =>
      have hb : ((a.length : Int) == (l.length : Int) - 1) = false := by simp at hlen; rw [beq_eq_false_iff_ne]; omega
      clear hlen
      go_wp2
      go_ret
      rw [← HE.out]
      exact ⟨rfl, rfl⟩

set_option maxHeartbeats 1000000 in
theorem hlCheck_f (v : Value) (ws : List (List UInt8)) (w : World) (hl : ws.length ≤ 1099511627776) (he : ∀ a ∈ ws, a.length ≤ 1099511627776) (hv : HS w v ws) (r : Bool) (HR : Hid (checkB ws = r)) (z : Int) (HZ : Hid (z = if r = true then 0 else 6)) :
    Calls Try.prog 35 #[v] w fun e w' => e = .returned (.int .i64 z) ∧ w = w' := by
  obtain ⟨ao, c, rfl⟩ := Holds.form hv
  have HL : Hid (∀ a ∈ ws, a.length ≤ 1099511627776) := he
  clear he
  go_enter Try.func35, Try.ntmps35
  go_wp2
  go_loopw [3, 4, 7] (fun _ _ i wr => ∃ k : Nat, k ≤ ws.length ∧ i = .int .i64 k ∧ wr = w ∧ Hid (checkB (ws.drop k) = r)) (fun _ _ i _ => ws.length - (intOf i).toNat)
  case atStart => exact ⟨0, Nat.zero_le _, rfl, rfl, HR⟩
  case round =>
    obtain ⟨k, hk, rfl, rfl, HI⟩ := hrel
    clear HR
    by_cases hlt : k < ws.length
    · obtain ⟨b, off, rfl, _, hc⟩ := HS.at hv (by omega)
      have d1 := hc k hlt
      have hxl := HL.out ws[k] (List.getElem_mem hlt)
      have i1 : 0 ≤ (k : Int) := by omega
      have i2 : (k : Int) < (ws.length : Int) := by omega
      have HM : (ws.drop (k + 1)).isEmpty = ((k : Int) == (ws.length : Int) - 1) := by
        rw [Bool.eq_iff_iff, List.isEmpty_iff, List.drop_eq_nil_iff, beq_iff_eq]; omega
      have HD : Hid ((lineB ws[k] (ws.drop (k + 1)).isEmpty && checkB (ws.drop (k + 1))) = r) := (by
        have h := HI.out
        rw [List.drop_eq_getElem_cons hlt] at h
        exact h)
      rw [HM] at HD
      generalize hq : ((k : Int) == (ws.length : Int) - 1) = q at *
      generalize ws[k] = x at *
      obtain ⟨r1, hr1⟩ : ∃ r1, lineB x q = r1 := ⟨_, rfl⟩
      have HR1 : Hid (lineB x q = r1) := hr1
      rw [hr1] at HD
      clear hr1 HI HM hc
      go_wp2_with fail
      refine (isLine_any x q _ hxl r1 HR1).mono ?_
      rintro e w1 ⟨rfl, rfl⟩
      cases r1 with
      | false =>
        have HZ2 : Hid (z = 6) := (by
          have h := HD.out
          rw [Bool.false_and] at h
          show _ = _
          rw [HZ.out, ← h]
          rfl)
        clear HZ
        go_wp2
        go_ret
        rw [HZ2.out]
        exact ⟨rfl, rfl⟩
      | true =>
        have HE : Hid (checkB (ws.drop (k + 1)) = r) := (by have h := HD.out; rw [Bool.true_and] at h; exact h)
        go_wp2
        go_roundw
        case rel => exact ⟨k + 1, by omega, by go_num, by trivial, HE⟩
        case measure => simp [intOf]; omega
    · have HZ2 : Hid (z = 0) := (by
        have h := HI.out
        rw [List.drop_of_length_le (by omega)] at h
        show _ = _
        rw [HZ.out, ← h]
        rfl)
      clear HZ HI
      have hend : decide ((k : Int) < (ws.length : Int)) = false := decide_eq_false (by omega)
      go_wp2
      go_ret
      rw [HZ2.out]
      exact ⟨rfl, rfl⟩

/-- slices.IndexFunc, slices.ContainsFunc: the function may lay blocks -/
theorem idx_any {l : List Mk} {p : Mk → Bool} {k : Nat} (hk : k < l.length) : (l.drop k).any p = (p l[k] || (l.drop (k + 1)).any p) := by
  rw [List.drop_eq_getElem_cons hk, List.any_cons]
set_option maxRecDepth 10000 in
set_option maxHeartbeats 2000000 in
theorem hIndexFunc_f (g : Nat) (l : List Mk) (p : Mk → Bool) (v : Value) (w : World) (hv : HMk w v l) (hl : l.length ≤ 1099511627776) (eg : ∀ args w, (callFunc g args).run Try.prog w = .ok (.enter g args) w)
    (hf : Hid (∀ m ∈ l, ∀ u : World, Calls Try.prog g (#[.agg #[.int .u8 m.sg, .string ⟨m.tx.toArray⟩]] ++ #[]) u fun e u' => e = .returned (.bool (p m)) ∧ Below u.heap.size u u')) (r : Bool) (HR : Hid (l.any p = r)) :
    Calls Try.prog 48 #[v, .func (.func g) #[] #[]] w fun e w' => ∃ z : Int, e = .returned (.int .i64 z) ∧ decide (0 ≤ z) = r ∧ Below w.heap.size w w' := by
  obtain ⟨lo, lc, rfl⟩ := HMk.form hv
  go_enter Try.func48, Try.ntmps48
  go_wp2
  go_loopw [5, 8] (fun _ i wr => ∃ k : Nat, k ≤ l.length ∧ i = .int .i64 k ∧ Below w.heap.size w wr ∧ Hid ((l.drop k).any p = r)) (fun _ i _ => l.length - (intOf i).toNat)
  case atStart => exact ⟨0, Nat.zero_le _, rfl, Below.refl _ _, HR⟩
  case round =>
    obtain ⟨k, hk, rfl, hB, HI⟩ := hrel
    clear HR
    by_cases hlt : k < l.length
    · obtain ⟨b, off, rfl, hb, _⟩ := HMk.at hv (by omega)
      obtain ⟨m, hm⟩ : ∃ m, l[k] = m := ⟨_, rfl⟩
      obtain ⟨c0, c1⟩ := Low.mk hB hv k hlt hm
      have hc := hf.out m (by rw [← hm]; exact List.getElem_mem hlt) wr
      have i1 : 0 ≤ (k : Int) := by omega
      have i2 : (k : Int) < (l.length : Int) := by omega
      have HI2 : Hid ((p m || (l.drop (k + 1)).any p) = r) := (by
        have h := HI.out
        rw [idx_any hlt, hm] at h
        exact h)
      obtain ⟨q, hq⟩ : ∃ q, p m = q := ⟨_, rfl⟩
      rw [hq] at hc HI2
      clear HI hm hq
      cases q with
      | true =>
        have HE : Hid (true = r) := (by have h := HI2.out; rw [Bool.true_or] at h; exact h)
        clear HI2
        go_wp2_with (go_at_fn g; refine hc.mono ?_; rintro e w' ⟨rfl, hB1⟩)
        go_ret
        exact ⟨_, rfl, by rw [← HE.out]; exact decide_eq_true (by omega), hB.trans (hB1.mono hB.size)⟩
      | false =>
        have HE : Hid ((l.drop (k + 1)).any p = r) := (by have h := HI2.out; rw [Bool.false_or] at h; exact h)
        clear HI2
        go_wp2_with (go_at_fn g; refine hc.mono ?_; rintro e w' ⟨rfl, hB1⟩)
        exact ⟨⟨k + 1, by omega, by go_num, hB.trans (hB1.mono hB.size), HE⟩, by simp [intOf]; omega⟩
    · have HE : Hid (false = r) := (by
        have h := HI.out
        rw [List.drop_of_length_le (by omega)] at h
        exact h)
      clear HI
      have hend : decide ((k : Int) < (l.length : Int)) = false := decide_eq_false (by omega)
      go_wp2
      go_ret
      exact ⟨_, rfl, HE.out, hB⟩
theorem hContains_f (g : Nat) (l : List Mk) (p : Mk → Bool) (v : Value) (w : World) (hv : HMk w v l) (hl : l.length ≤ 1099511627776) (eg : ∀ args w, (callFunc g args).run Try.prog w = .ok (.enter g args) w)
    (hf : Hid (∀ m ∈ l, ∀ u : World, Calls Try.prog g (#[.agg #[.int .u8 m.sg, .string ⟨m.tx.toArray⟩]] ++ #[]) u fun e u' => e = .returned (.bool (p m)) ∧ Below u.heap.size u u')) (r : Bool) (HR : Hid (l.any p = r)) :
    Calls Try.prog 33 #[v, .func (.func g) #[] #[]] w fun e w' => e = .returned (.bool r) ∧ Below w.heap.size w w' := by
  have HC := hIndexFunc_f g l p v w hv hl eg hf r HR
  obtain ⟨lo, lc, rfl⟩ := HMk.form hv
  go_enter Try.func33, Try.ntmps33
  go_wp2_with fail
  refine HC.mono ?_
  rintro e w1 ⟨z, rfl, hz, hB⟩
  go_wp2
  go_ret
  exact ⟨rfl, hB⟩
end Go.Proofs.Ythckcdpgjdbgcaa

/- The code's Check of layer 11, walked. -/
namespace Go.Proofs.Ythckcdpgjdbgcaa
open Ln Go.RowKit

theorem rng_nm (h : Hk) : rngB h = (nmB h.A h.AN && nmB h.B h.BN) := by
  unfold rngB nmB
  cases nat31 h.A <;> cases nat31 h.AN <;> cases nat31 h.B <;> cases nat31 h.BN <;> cases decide (h.A = 0) <;> cases decide (0 < h.AN) <;> cases decide (h.B = 0) <;> cases decide (0 < h.BN) <;> rfl
theorem pk_mem {no : Int} {l : List Mk} {a : List UInt8} (h : a ∈ pkL no l) : ∃ m ∈ l, m.tx = a := by
  induction l with
  | nil => cases h
  | cons m l ih =>
    simp only [pkL] at h
    split at h
    · rcases List.mem_cons.1 h with rfl | h
      · exact ⟨m, by simp, rfl⟩
      · obtain ⟨x, hx, e⟩ := ih h
        exact ⟨x, by simp [hx], e⟩
    · obtain ⟨x, hx, e⟩ := ih h
      exact ⟨x, by simp [hx], e⟩
theorem chk_rng {h : Hk} (hq : rngB h = false) : chkH h = 2 := by
  unfold chkH
  rw [if_pos hq]
theorem chk_fld {h : Hk} (h1 : rngB h = true) (hq : fldB h.ls = false) : chkH h = 6 := by
  unfold chkH
  rw [if_neg (by rw [h1]; decide), if_pos hq]
theorem chk_cnt {h : Hk} (h1 : rngB h = true) (h2 : fldB h.ls = true) (hq : h.AN ≠ (oldL h).length ∨ h.BN ≠ (newL h).length) : chkH h = 120 := by
  unfold chkH
  rw [if_neg (by rw [h1]; decide), if_neg (by rw [h2]; decide), if_pos hq]
theorem all_chg {l : List Mk} (ha : allB l = true) : l.all (fun m => decide (m.sg = 32)) = !l.any chgB := by
  induction l with
  | nil => rfl
  | cons m l ih =>
    simp only [allB, List.all_cons, Bool.and_eq_true] at ha
    simp only [List.all_cons, List.any_cons]
    rw [ih ha.2]
    have hm := ha.1
    simp only [okS, Bool.or_eq_true, decide_eq_true_eq] at hm
    unfold chgB
    rcases hm with (hm | hm) | hm <;> rw [hm] <;> simp
theorem chk_end {h : Hk} (h1 : rngB h = true) (h2 : fldB h.ls = true) (h3 : h.AN = (oldL h).length) (h4 : h.BN = (newL h).length) {q : Bool} (hq : h.ls.any chgB = q) : chkH h = if q = true then 0 else 50 := by
  unfold chkH
  rw [if_neg (by rw [h1]; decide), if_neg (by rw [h2]; decide), if_neg (fun k => by rcases k with k | k <;> contradiction)]
  have ha : allB h.ls = true := by
    have := fld_code h.ls
    rw [h2] at this
    simp only [Bool.true_eq, Bool.and_eq_true] at this
    exact this.1.1
  rw [all_chg ha, hq]
  cases q <;> rfl
theorem any_strange (l : List Mk) : l.any (fun m => !okS m.sg) = !allB l := by
  induction l with
  | nil => rfl
  | cons m l ih =>
    simp only [List.any_cons, allB, List.all_cons, Bool.not_and] at ih ⊢
    rw [ih]
theorem hold_held {h : Hk} {v : Value} {W u : World} (hv : HMk W v h.ls) (hl : h.ls.length ≤ 1099511627776) {R : List (List UInt8)} (HR : Hid (oldL h = R)) (hL : Low W u) : Calls Try.prog 14 (#[hkV h v] ++ #[]) u fun e w' => ∃ x, e = .returned x ∧ Low W w' ∧ (HS w' x R ∧ Below u.heap.size u w') := by
  refine (hOld_f h v u (HMk.keep hv hL (Nat.le_refl _)) hl R HR).mono ?_
  rintro e w' ⟨x, rfl, hx, hB⟩
  exact ⟨_, rfl, hL.trans (hB.mono hL.size), hx, hB⟩
theorem hnew_held {h : Hk} {v : Value} {W u : World} (hv : HMk W v h.ls) (hl : h.ls.length ≤ 1099511627776) {R : List (List UInt8)} (HR : Hid (newL h = R)) (hL : Low W u) : Calls Try.prog 15 (#[hkV h v] ++ #[]) u fun e w' => ∃ x, e = .returned x ∧ Low W w' ∧ (HS w' x R ∧ Below u.heap.size u w') := by
  refine (hNew_f h v u (HMk.keep hv hL (Nat.le_refl _)) hl R HR).mono ?_
  rintro e w' ⟨x, rfl, hx, hB⟩
  exact ⟨_, rfl, hL.trans (hB.mono hL.size), hx, hB⟩

set_option maxRecDepth 10000 in
set_option maxHeartbeats 4000000 in
theorem hCheck_f (h : Hk) (v : Value) (w : World) (hv : HMk w v h.ls) (hl : h.ls.length ≤ 1099511627776) (htx : ∀ m ∈ h.ls, m.tx.length ≤ 1099511627776) (r : Int) (HR : Hid (chkH h = r)) : Calls Try.prog 16 #[hkV h v] w fun e w' => e = .returned (.int .i64 r) ∧ Below w.heap.size w w' := by
  obtain ⟨A, AN, B, BN, ls⟩ := h
  dsimp only at hv hl htx
  obtain ⟨lo, lc, rfl⟩ := HMk.form hv
  have hx := Hx.new w ⟨A, AN, B, BN, ls⟩ (.slice lo ls.length lc)
  have hBl : Below w.heap.size w (w.alloc (hkO ⟨A, AN, B, BN, ls⟩ (.slice lo ls.length lc))) := (Below.refl _ w).alloc (Nat.le_refl _) _
  have hv1 := HMk.keep hv hBl (Nat.le_refl _)
  have HTX : Hid (∀ m ∈ ls, m.tx.length ≤ 1099511627776) := htx
  clear htx hv
  obtain ⟨x0, x1, x2, x3, x4⟩ := hx.cells
  unfold hkV
  dsimp only at x0 x1 x2 x3 x4 ⊢
  have hW0 : w.alloc (hkO ⟨A, AN, B, BN, ls⟩ (.slice lo ls.length lc)) = w.alloc (Obj.cells #[Value.int IntKind.i64 A, Value.int IntKind.i64 AN, Value.int IntKind.i64 B, Value.int IntKind.i64 BN, .slice lo ls.length lc] 39) := rfl
  generalize w.alloc (hkO ⟨A, AN, B, BN, ls⟩ (.slice lo ls.length lc)) = W at *
  have hW := hW0.symm
  clear hW0
  obtain ⟨p1, hp1⟩ : ∃ p, nmB A AN = p := ⟨_, rfl⟩
  obtain ⟨p2, hp2⟩ : ∃ p, nmB B BN = p := ⟨_, rfl⟩
  have HG : Hid (rngB ⟨A, AN, B, BN, ls⟩ = (p1 && p2)) := (by show _ = _; rw [rng_nm, ← hp1, ← hp2])
  have HP1 : Hid (nmB A AN = p1) := hp1
  have HP2 : Hid (nmB B BN = p2) := hp2
  clear hp1 hp2
  go_enter Try.func16, Try.ntmps16
  go_wp2_with fail
  refine (hnumbered_f A AN W p1 HP1).mono ?_
  rintro e w1 ⟨rfl, rfl⟩
  clear hW HP1
  cases p1 with
  | false =>
    have HE : Hid (2 = r) := (by show _ = _; rw [← HR.out, chk_rng (by rw [HG.out]; rfl)])
    clear HR HG
    go_wp2
    go_ret
    exact ⟨by rw [← HE.out]; rfl, hBl⟩
  | true =>
  go_wp2_with fail
  refine (hnumbered_f B BN w1 p2 HP2).mono ?_
  rintro e W ⟨rfl, rfl⟩
  clear HP2
  cases p2 with
  | false =>
    have HE : Hid (2 = r) := (by show _ = _; rw [← HR.out, chk_rng (by rw [HG.out]; rfl)])
    clear HR HG
    go_wp2
    go_ret
    exact ⟨by rw [← HE.out]; rfl, hBl⟩
  | true =>
    obtain ⟨RO, hRO⟩ : ∃ r, oldL ⟨A, AN, B, BN, ls⟩ = r := ⟨_, rfl⟩
    obtain ⟨RN, hRN⟩ : ∃ r, newL ⟨A, AN, B, BN, ls⟩ = r := ⟨_, rfl⟩
    have HO : Hid (oldL ⟨A, AN, B, BN, ls⟩ = RO) := hRO
    have HN : Hid (newL ⟨A, AN, B, BN, ls⟩ = RN) := hRN
    have HF : Hid (fldB ls = (allB ls && checkB RO && checkB RN)) := (by show _ = _; rw [← hRO, ← hRN]; exact fld_code ls)
    have hROl : RO.length ≤ 1099511627776 := by rw [← hRO]; have := pkL_length 43 ls; simp only [oldL]; omega
    have hRNl : RN.length ≤ 1099511627776 := by rw [← hRN]; have := pkL_length 45 ls; simp only [newL]; omega
    have HROm : Hid (∀ a ∈ RO, a.length ≤ 1099511627776) := (by
      intro a ha
      rw [← hRO] at ha
      obtain ⟨m, hm, rfl⟩ := pk_mem ha
      exact HTX.out m hm)
    have HRNm : Hid (∀ a ∈ RN, a.length ≤ 1099511627776) := (by
      intro a ha
      rw [← hRN] at ha
      obtain ⟨m, hm, rfl⟩ := pk_mem ha
      exact HTX.out m hm)
    clear hRO hRN HTX
    have hxx : ∀ u : World, Low W u → Hx u w.heap.size ⟨A, AN, B, BN, ls⟩ (.slice lo ls.length lc) := fun u hu => hx.low hu
    go_upto_region 3 with fail
    go_cut [3, 4] from 5 to 51 (fun a b wz => ∃ oo oc no nc, a = .slice oo RO.length oc ∧ b = .slice no RN.length nc ∧ HS wz a RO ∧ HS wz b RN ∧ Below W.heap.size W wz)
    case first =>
      have hlow : Low W (W.drewN 1) := Below.dN (Below.refl _ W) 1
      refine wp_region_noPanic ?_
      refine wp_region_held_drew (S := fun u => Low W u) (by kernel_rfl) hlow (fun hHeld => ?_)
      refine go_take 0 19 _ (hkV ⟨A, AN, B, BN, ls⟩ (.slice lo ls.length lc)) rfl (by kernel_rfl) (by kernel_rfl) (by kernel_rfl) (by kernel_rfl) (fun _ _ _ h => h) (Or.inl ⟨by kernel_rfl, fun u hu => load_hk (hxx u hu) (.tmp 1) (by kernel_rfl) (by kernel_rfl)⟩) hHeld ?_
      simp only [Act.put, List.setIfInBounds_toArray, List.set_cons_zero, List.set_cons_succ]
      refine go_take 2 21 _ (hkV ⟨A, AN, B, BN, ls⟩ (.slice lo ls.length lc)) rfl (by kernel_rfl) (by kernel_rfl) (by kernel_rfl) (by kernel_rfl) (fun _ _ _ h => h) (Or.inl ⟨by kernel_rfl, fun u hu => load_hk (hxx u hu) (.tmp 1) (by kernel_rfl) (by kernel_rfl)⟩) hHeld ?_
      simp only [Act.put, List.setIfInBounds_toArray, List.set_cons_zero, List.set_cons_succ]
      refine go_callE 1 20 _ rfl (by kernel_rfl) (by kernel_rfl) (by kernel_rfl) 14 (.func 14) #[.tmp 19] #[39] (by kernel_rfl) #[] (by kernel_rfl) #[hkV ⟨A, AN, B, BN, ls⟩ (.slice lo ls.length lc)] (by kernel_rfl) (enters_of Try.func14 (by kernel_rfl) rfl) _ (hold_held hv1 hl HO hHeld) ?_
      rintro vo w1 hHeld1 ⟨hvo, hBo⟩
      obtain ⟨oo, oc, rfl⟩ := Holds.form hvo
      simp only [Act.put, List.setIfInBounds_toArray, List.set_cons_zero, List.set_cons_succ]
      refine go_callE 3 22 _ rfl (by kernel_rfl) (by kernel_rfl) (by kernel_rfl) 15 (.func 15) #[.tmp 21] #[39] (by kernel_rfl) #[] (by kernel_rfl) #[hkV ⟨A, AN, B, BN, ls⟩ (.slice lo ls.length lc)] (by kernel_rfl) (enters_of Try.func15 (by kernel_rfl) rfl) _ (hnew_held hv1 hl HN hHeld1) ?_
      rintro vn w2 hHeld ⟨hvn, hBn⟩
      obtain ⟨no, nc, rfl⟩ := Holds.form hvn
      simp only [Act.put, List.setIfInBounds_toArray, List.set_cons_zero, List.set_cons_succ]
      refine go_take 4 3 _ (.slice oo RO.length oc) rfl (by kernel_rfl) (by kernel_rfl) (by kernel_rfl) (by kernel_rfl) (fun _ _ _ h => h) (Or.inl ⟨by kernel_rfl, fun u hu => by kernel_rfl⟩) hHeld ?_
      simp only [Act.put, List.setIfInBounds_toArray, List.set_cons_zero, List.set_cons_succ]
      refine go_take 5 4 _ (.slice no RN.length nc) rfl (by kernel_rfl) (by kernel_rfl) (by kernel_rfl) (by kernel_rfl) (fun _ _ _ h => h) (Or.inl ⟨by kernel_rfl, fun u hu => by kernel_rfl⟩) hHeld ?_
      simp only [Act.put, List.setIfInBounds_toArray, List.set_cons_zero, List.set_cons_succ]
      refine wpAnyH_done (by kernel_rfl) ?_ _
      refine NoPanic.normal ?_
      go_wp2_with fail
      go_meet
      case rel => exact ⟨_, _, _, _, rfl, rfl, HS.keep hvo hBn (Nat.le_refl _), hvn, hHeld⟩
    case rest =>
      obtain ⟨oo, oc, no, nc, rfl, rfl, hvo, hvn, hBz⟩ := hcut
      have hB2 := hBl.trans (hBz.mono hBl.size)
      obtain ⟨y0, y1, y2, y3, y4⟩ := (hxx _ hBz).cells
      dsimp only at y0 y1 y2 y3 y4
      have hv2 := HMk.keep hv1 hBz (Nat.le_refl _)
      generalize wc = w2 at *
      clear x0 x1 x2 x3 x4
      obtain ⟨s, hs⟩ : ∃ s, allB ls = s := ⟨_, rfl⟩
      have HS1 : Hid (ls.any (fun m => !okS m.sg) = !s) := (by show _ = _; rw [any_strange, hs])
      have HF2 : Hid (fldB ls = (s && checkB RO && checkB RN)) := (by have h := HF.out; rw [hs] at h; exact h)
      clear HF hs
      go_wp2_with fail
      refine (hContains_f 34 ls (fun m => !okS m.sg) _ w2 hv2 hl (enters_of Try.func34 (by kernel_rfl) rfl) (fun m _ u => hstrange_f m u) (!s) HS1).mono ?_
      rintro e w3 ⟨rfl, hB3⟩
      have hx3 := (hxx _ hBz).low hB3
      have hvo3 := HS.keep hvo hB3 (Nat.le_refl _)
      have hvn3 := HS.keep hvn hB3 (Nat.le_refl _)
      have hv3 := HMk.keep hv2 hB3 (Nat.le_refl _)
      have hB4 := hB2.trans (hB3.mono hB2.size)
      obtain ⟨z0, z1, z2, z3, z4⟩ := hx3.cells
      dsimp only at z0 z1 z2 z3 z4
      clear y0 y1 y2 y3 y4 HS1
      cases s with
      | false =>
        have HE : Hid (6 = r) := (by show _ = _; rw [← HR.out, chk_fld HG.out (by rw [HF2.out]; rfl)])
        clear HR HG HF2
        go_wp2
        go_ret
        exact ⟨by rw [← HE.out]; rfl, hB4⟩
      | true =>
      obtain ⟨q1, hq1⟩ : ∃ q, checkB RO = q := ⟨_, rfl⟩
      obtain ⟨q2, hq2⟩ : ∃ q, checkB RN = q := ⟨_, rfl⟩
      have HQ1 : Hid (checkB RO = q1) := hq1
      have HQ2 : Hid (checkB RN = q2) := hq2
      have HF3 : Hid (fldB ls = (q1 && q2)) := (by have h := HF2.out; rw [hq1, hq2, Bool.true_and] at h; exact h)
      clear HF2 hq1 hq2
      cases q1 with
      | false =>
        have HE : Hid (6 = r) := (by show _ = _; rw [← HR.out, chk_fld HG.out (by rw [HF3.out]; rfl)])
        clear HR HG HF3
        go_wp2_with fail
        refine (hlCheck_f _ RO w3 hROl HROm.out hvo3 false HQ1 6 rfl).mono ?_
        rintro e w4 ⟨rfl, rfl⟩
        go_wp2
        go_ret
        exact ⟨by rw [← HE.out]; rfl, hB4⟩
      | true =>
      go_wp2_with fail
      refine (hlCheck_f _ RO w3 hROl HROm.out hvo3 true HQ1 0 rfl).mono ?_
      rintro e w4 ⟨rfl, rfl⟩
      cases q2 with
      | false =>
        have HE : Hid (6 = r) := (by show _ = _; rw [← HR.out, chk_fld HG.out (by rw [HF3.out]; rfl)])
        clear HR HG HF3
        go_wp2_with fail
        refine (hlCheck_f _ RN w3 hRNl HRNm.out hvn3 false HQ2 6 rfl).mono ?_
        rintro e w4 ⟨rfl, rfl⟩
        go_wp2
        go_ret
        exact ⟨by rw [← HE.out]; rfl, hB4⟩
      | true =>
      go_wp2_with fail
      refine (hlCheck_f _ RN w3 hRNl HRNm.out hvn3 true HQ2 0 rfl).mono ?_
      rintro e w4 ⟨rfl, rfl⟩
      have HFT : Hid (fldB ls = true) := (by have h := HF3.out; exact h)
      clear HF3 HQ1 HQ2
      by_cases ha : (RO.length : Int) = AN
      · have ea : ((RO.length : Int) != AN) = false := by simpa using ha
        by_cases hb : (RN.length : Int) = BN
        · have eb : ((RN.length : Int) != BN) = false := by simpa using hb
          obtain ⟨q, hq⟩ : ∃ q, ls.any chgB = q := ⟨_, rfl⟩
          have HQ : Hid (ls.any chgB = q) := hq
          have HE : Hid ((if q = true then 0 else 50) = r) := (by
            show _ = _
            rw [← HR.out, chk_end (h := ⟨A, AN, B, BN, ls⟩) HG.out HFT.out (by rw [HO.out, ha]) (by rw [HN.out, hb]) hq])
          clear HR HG HFT hq ha hb
          go_wp2_with fail
          refine (hContains_f 36 ls chgB _ w3 hv3 hl (enters_of Try.func36 (by kernel_rfl) rfl) (fun m _ u => hchanged_f m u) q HQ).mono ?_
          rintro e w5 ⟨rfl, hB5⟩
          have hB6 := hB4.trans (hB5.mono hB4.size)
          cases q with
          | false =>
            go_wp2
            go_ret
            exact ⟨by rw [← HE.out]; rfl, hB6⟩
          | true =>
            go_wp2
            go_ret
            exact ⟨by rw [← HE.out]; rfl, hB6⟩
        · have eb : ((RN.length : Int) != BN) = true := by simpa using hb
          have HE : Hid (120 = r) := (by
            show _ = _
            rw [← HR.out, chk_cnt (h := ⟨A, AN, B, BN, ls⟩) HG.out HFT.out (.inr (by rw [HN.out]; exact fun k => hb k.symm))])
          clear HR HG HFT ha hb
          go_wp2
          go_ret
          exact ⟨by rw [← HE.out]; rfl, hB4⟩
      · have ea : ((RO.length : Int) != AN) = true := by simpa using ha
        have HE : Hid (120 = r) := (by
          show _ = _
          rw [← HR.out, chk_cnt (h := ⟨A, AN, B, BN, ls⟩) HG.out HFT.out (.inl (by rw [HO.out]; exact fun k => ha k.symm))])
        clear HR HG HFT ha
        go_wp2
        go_ret
        exact ⟨by rw [← HE.out]; rfl, hB4⟩
end Go.Proofs.Ythckcdpgjdbgcaa
