/-
  For every number and every three texts of together at most 1048576 letters and values, the law CtxfmtBack returns true and leaves its arguments as they were: what ctxfmt.Print writes of two texts' hunks, ctxfmt.Parse reads as the same patch, or refuses as too long. The conditions are the statement's own bound and the card's: the library's tables hold what the program's text lays.
-/
import Derived.Test.YtgiojkhmkeocfaaGreatDoorCards
import Derived.Test.YtgiojkhmkeocfaaGreatDoorTie
import Derived.Test.YtgiojkhmkeocfaaGreatDoorCtmtBA19
import Derived.Test.YtgiojkhmkeocfaaGreatDoorCtmtBA20
import Derived.Test.YtgiojkhmkeocfaaGreatDoorCtmtBA6
import Derived.Test.YtgiojkhmkeocfaaGreatDoorCtmtBA11
import Derived.Test.YtgiojkhmkeocfaaGreatDoorCtmtBA21
import Derived.Test.YtgiojkhmkeocfaaGreatDoorCtmtBA9
import Derived.ProofKit
import Derived.OpenShut
import Derived.ShutString
import Derived.JoinedCond
import Derived.Deep.DeepHandedRow
import Derived.Lib.LaidTab
import Derived.LaidSub
set_option maxRecDepth 20000
namespace Go.Proofs.YtgiojkhmkeocfaaGreatDoor.ctxfmtBack
open Go.ChangeShapes Go.WideShapes Go.ChangeAt Go.RowKit
open Go.ChangeMaps (open_string shut_string)

theorem txS_le {l : List Mk} (h : ∀ m ∈ l, m.tx.length ≤ 1048576) : txS l ≤ l.length * 1048576 := by
  induction l with
  | nil => exact Nat.le_refl _
  | cons m l ih =>
    have h1 := ih fun y hy => h y (by simp [hy])
    have h2 := h m (by simp)
    simp only [txS, List.length_cons, Nat.succ_mul]
    omega
theorem hsS_le {l : List Hk} (h : ∀ x ∈ l, x.ls.length ≤ 400 ∧ ∀ m ∈ x.ls, m.tx.length ≤ 1048576) : hsS l ≤ l.length * 838885800 := by
  induction l with
  | nil => exact Nat.le_refl _
  | cons x l ih =>
    have h1 := ih fun y hy => h y (by simp [hy])
    obtain ⟨h2, h3⟩ := h x (by simp)
    have h4 := txS_le h3
    simp only [hsS, List.length_cons, Nat.succ_mul]
    omega
theorem mem_flat {l : List (List UInt8)} {s : List UInt8} (h : s ∈ l) : s.length ≤ l.flatten.length := by
  induction l with
  | nil => cases h
  | cons x l ih =>
    rw [List.flatten_cons, List.length_append]
    rcases List.mem_cons.1 h with rfl | h
    · omega
    · have := ih h
      omega
theorem short_of {t : List UInt8} {M : Nat} (h : t.length ≤ M) : ∀ s ∈ Ln.splitL t, s.length ≤ M := by
  intro s hs
  have h1 := congrArg List.length (Ln.split_join t)
  have h2 := mem_flat hs
  omega
set_option maxRecDepth 20000 in
set_option maxHeartbeats 16000000 in
theorem walk (s t nm : List UInt8) (k0 : Int) (w : World) (hl : s.length + t.length + nm.length ≤ 1048576) (HTb0 : Tab10 w) (hE : ErrT w) :
    Calls Tryz.prog 6 #[.string ⟨s.toArray⟩, .string ⟨t.toArray⟩, .string ⟨nm.toArray⟩, .int .i64 k0] w fun e w' => e = .returned (.bool true) ∧ Below w.heap.size w w' := by
  have HTb : Hid (Tab10 w) := HTb0
  have HE : Hid (ErrT w) := hE
  clear HTb0 hE
  obtain ⟨x, hx⟩ : ∃ x, Ln.splitL s = x := ⟨_, rfl⟩
  obtain ⟨y, hy⟩ : ∃ y, Ln.splitL t = y := ⟨_, rfl⟩
  have HXs : Hid (Ln.splitL s = x) := hx
  have HYs : Hid (Ln.splitL t = y) := hy
  have HSx : Hid (∀ u ∈ x, u.length ≤ 1048576) := (by rw [← hx]; exact short_of (by omega))
  have HSy : Hid (∀ u ∈ y, u.length ≤ 1048576) := (by rw [← hy]; exact short_of (by omega))
  have hsx := fun w => nSplit_f s w (by omega)
  have hsy := fun w => nSplit_f t w (by omega)
  rw [hx] at hsx
  rw [hy] at hsy
  clear hx hy
  go_enter Tryz.func6, Tryz.ntmps6
  go_wp2_with fail
  refine (cworks_f w HTb).mono ?_
  rintro e w0 ⟨rfl, hB0⟩
  go_wp2_with fail
  refine (hsx w0).mono ?_
  rintro e w1 ⟨v1, rfl, hown1, hB1⟩
  have ha1 : HS w1 v1 x := holds_of hown1
  obtain ⟨ao, ac, rfl⟩ := Holds.form ha1
  clear hown1
  go_wp2_with fail
  refine (hsy w1).mono ?_
  rintro e w2 ⟨v2, rfl, hown2, hB2⟩
  have hb2 : HS w2 v2 y := holds_of hown2
  obtain ⟨bo, bc, rfl⟩ := Holds.form hb2
  have ha2 := HS.keep ha1 hB2 (Nat.le_refl _)
  have hB01 := hB0.trans (hB1.mono hB0.size)
  have hB02 := hB01.trans (hB2.mono hB01.size)
  clear hown2 hsx hsy ha1 hB0 hB1 hB2 hB01
  by_cases hsm : x.length ≤ 200 ∧ y.length ≤ 200 ∧ nm.length ≤ 64
  · obtain ⟨hxl, hyl, hnl⟩ := hsm
    obtain ⟨c, hc, hcb⟩ := ctx_of k0 8 (by omega) (by omega)
    obtain ⟨L, hL⟩ : ∃ L, mkL (eng 2 (clx ig0 x y) (cly ig0 x y)) y.length = L := ⟨_, rfl⟩
    have HL : Hid (mkL (eng 2 (clx ig0 x y) (cly ig0 x y)) y.length = L) := hL
    have HBc : Hid (Bc s t nm L c) := bc_of 2 s t nm (by rw [HXs.out]; exact hxl) (by rw [HYs.out]; exact hyl) hnl (by omega) (by rw [HXs.out, HYs.out]; exact hL)
    clear hL
    have i1 : ¬ (200 : Int) < (x.length : Int) := by omega
    have i2 : ¬ (200 : Int) < (y.length : Int) := by omega
    have i3 : ¬ (64 : Int) < (nm.length : Int) := by omega
    have hbc := HBc.out
    obtain ⟨M, hM⟩ : ∃ M, mkR L x y c = M := ⟨_, rfl⟩
    have hscr := hbc.scr
    have hfew := hbc.few
    have hhun := hbc.hun
    have hgrp := hbc.grp
    have hwrg := hbc.wrg
    have hemp := hbc.emp
    have hrd := hbc.rd
    rw [HXs.out, HYs.out] at hscr hhun hgrp hwrg hemp hrd
    rw [HXs.out] at hfew
    rw [hM] at hhun hwrg hemp hrd
    obtain ⟨T, hT⟩ : ∃ T, ptT ⟨[111, 108, 100], nm, M⟩ = T := ⟨_, rfl⟩
    rw [hT] at hemp hrd
    have hml := (made_len (ctx := c) hscr (by omega)).2
    rw [hM] at hml
    have hTl : T.length ≤ 200000000000 := (by
      have h1 := pt_len ⟨[111, 108, 100], nm, M⟩
      rw [hT] at h1
      have h2 := hsS_le (l := M) fun z hz => ⟨by have := (hml z hz).1; omega, fun m hm => by
        rcases (hml z hz).2 m hm with h | h
        · exact HSx.out _ h
        · exact HSy.out _ h⟩
      dsimp only at h1
      have h3 : M.length ≤ 201 := by omega
      have h4 : M.length * 838885800 ≤ 201 * 838885800 := Nat.mul_le_mul_right _ h3
      omega)
    have HM : Hid (mkR L x y c = M) := hM
    have HGP : Hid (grpE L x.length y.length c = 0) := hgrp
    have HWR : Hid (wrgP ⟨[111, 108, 100], nm, M⟩ = 0) := hwrg
    have HT : Hid (ptT ⟨[111, 108, 100], nm, M⟩ = T) := hT
    have HSC : Hid (Script L x.length y.length) := hscr
    have HRD : Hid (s ≠ t → cxT T = if 1048576 < T.length then .error (0, 9) else .ok [⟨[111, 108, 100], nm, M⟩]) := hrd
    have HEM : Hid (T = [] ↔ s = t) := hemp
    clear hM hT hbc hscr hgrp hwrg hemp hrd hml
    go_wp2_with fail
    refine (En2_f ig0 x y _ _ w2 ha2 hb2 (by omega) (by omega) (fun u hu => Nat.le_trans (HSx.out u hu) (by omega)) (fun u hu => Nat.le_trans (HSy.out u hu) (by omega)) L HL).mono ?_
    rintro e w3 ⟨v3, rfl, hv3, hB3⟩
    obtain ⟨o3, c3, rfl⟩ := Holds.form hv3
    have hB03 := hB02.trans (hB3.mono hB02.size)
    have ha3 := HS.keep ha2 hB3 (Nat.le_refl _)
    have hb3 := HS.keep hb2 hB3 (Nat.le_refl _)
    clear ha2 hb2 hB02 hB3 i1 i2 i3
    go_wp2_with fail
    rw [hc]
    clear hc
    refine (hMake_f L x y c _ _ _ w3 hv3 ha3 hb3 (by omega) (by omega) (by omega) 0 HGP M HM).mono ?_
    rintro e w4 ⟨v4, P, rfl, hP, hPm⟩
    obtain ⟨o4, c4, rfl⟩ := (holds_of hP.own).form
    have hB4 := hP.low
    have hB04 := hB03.trans (hB4.mono hB03.size)
    have hPh := hP.holds
    have HPM : Hid (P.map (·.1) = M) := hPm
    have HOK : Hid (HOk P) := made_ok (ctx := c) HSC.out (by omega) (by omega) (by omega) (fun u hu => Nat.le_trans (HSx.out u hu) (by omega)) (fun u hu => Nat.le_trans (HSy.out u hu) (by omega)) (by rw [HPM.out, HM.out])
    have HTb4 : Hid (Tab10 w4) := HTb.out.on hB04
    have hcall := cPrint_f ⟨[111, 108, 100], nm, M⟩ P HPM (.slice o4 P.length c4) w4 hPh HOK.out (by show 3 ≤ _; omega) (by show nm.length ≤ _; omega) HTb4 T 0 HWR HT (by omega)
    unfold ptV at hcall
    dsimp only at hcall
    clear hv3 ha3 hb3 hB03 hB4 hP hPm HTb4 HWR HT HM HGP HL HSC
    go_wp2_with fail
    refine hcall.mono ?_
    rintro e w5 ⟨rfl, hB5⟩
    have hB05 := hB04.trans (hB5.mono hB04.size)
    have hP5 := hPh.keep hB5 (Nat.le_refl _)
    clear hcall hPh hB04 hB5
    by_cases hst : s = t
    · have hTn : T = [] := HEM.out.2 hst
      subst hst
      subst hTn
      have HX : Hid (cxT [] = .ok []) := rfl
      clear HRD HEM HBc
      go_wp2_with fail
      refine (cParse_f [] w5 _ HX (by decide)).mono ?_
      rintro e w6 ⟨v6, F, rfl, hPw, hFm⟩
      obtain rfl : F = [] := List.map_eq_nil_iff.1 hFm
      obtain ⟨o6, c6, rfl⟩ := (holds_of hPw.own).form
      have hB06 := hB05.trans (hPw.low.mono hB05.size)
      clear hPw hFm HX hP5
      go_wp2
      go_ret
      exact ⟨ret_bool (by simp), hB06⟩
    · have hTn : T ≠ [] := fun h => hst (HEM.out.1 h)
      have e1 : T.isEmpty = false := (by cases T with | nil => exact absurd rfl hTn | cons _ _ => rfl)
      have e2 : (s == t) = false := beq_eq_false_iff_ne.2 hst
      have e3 : (T == []) = false := beq_eq_false_iff_ne.2 hTn
      have hrd := HRD.out hst
      clear HRD HEM HBc hst hTn
      by_cases hlong : 1048576 < T.length
      · rw [if_pos hlong] at hrd
        have HX : Hid (cxT T = .error (0, 9)) := hrd
        have i1 : (1048576 : Int) < (T.length : Int) := by omega
        clear hrd
        go_wp2_with fail
        refine (cParse_f T w5 _ HX (by omega)).mono ?_
        rintro e w6 ⟨g, rfl, hg6, hB6⟩
        have hB06 := hB05.trans (hB6.mono hB05.size)
        have hE6 := HE.out.low hB06 (Nat.le_refl _)
        clear hP5 hB6 hB05
        go_wp2_with fail
        refine (seen_flt g 0 9 w6 hE6 hg6).mono ?_
        rintro e w7 ⟨rfl, hB7⟩
        have hB07 := hB06.trans (hB7.mono hB06.size)
        clear hE6 hg6 hB7 hB06
        go_wp2
        go_ret
        exact ⟨ret_bool (by simp), hB07⟩
      · rw [if_neg hlong] at hrd
        have HX : Hid (cxT T = .ok [⟨[111, 108, 100], nm, M⟩]) := hrd
        have i1 : ¬ (1048576 : Int) < (T.length : Int) := by omega
        clear hrd
        go_wp2_with fail
        refine (cParse_f T w5 _ HX (by omega)).mono ?_
        rintro e w6 ⟨v6, F, rfl, hPw, hFm⟩
        obtain ⟨f, rfl, hfx⟩ := wk_one hFm
        have hv6 := hPw.holds
        obtain ⟨o6, c6, rfl⟩ := Holds.form hv6.row
        have hB06 := hB05.trans (hPw.low.mono hB05.size)
        have hP6 := hP5.keep hPw.low (Nat.le_refl _)
        obtain ⟨b6, f6, rfl, _, hc6⟩ := HPp.at hv6 (by simp)
        obtain ⟨d0, d1, d2⟩ := hc6 0 (by simp)
        obtain ⟨g1, g2⟩ := hv6.ins f (by simp)
        have hov : HOw f.hs := (by
          have h0 : f.hs.map (·.1) = P.map (·.1) := by rw [g1, hfx, HPM.out]
          have h1 := HOK.out
          refine ⟨?_, fun z hz => ?_⟩
          · have := congrArg List.length h0
            rw [List.length_map, List.length_map] at this
            rw [this]
            exact h1.1
          · have h2 : z.1 ∈ P.map (·.1) := by rw [← h0]; exact List.mem_map_of_mem hz
            obtain ⟨z2, h3, h4⟩ := List.mem_map.1 h2
            rw [← h4]
            exact (h1.2 z2 h3).1)
        obtain ⟨fo, fc, hfv⟩ := Holds.form g2.row
        have HR : Hid (true = true ↔ f.hs.map (·.1) = P.map (·.1)) := ⟨fun _ => by rw [g1, hfx, HPM.out], fun _ => rfl⟩
        have hcall := rSameHunksG_f f.hs P f.v (.slice o4 P.length c4) w6 g2 hP6 hov true HR
        have e0 : w6.cell? ⟨b6, f6, none⟩ = some (.string ⟨#[111, 108, 100]⟩) := (by simpa [hfx] using d0)
        have e4 : w6.cell? ⟨b6, f6 + 1, none⟩ = some (.string ⟨nm.toArray⟩) := (by simpa [hfx] using d1)
        have e5 : w6.cell? ⟨b6, f6 + 2, none⟩ = some (.slice fo f.hs.length fc) := (by rw [← hfv]; simpa using d2)
        rw [hfv] at hcall
        clear hPw hFm HX hP5 hv6 hc6 d0 d1 d2 g1 g2 hfx hfv hP6 HR hB05
        simp only [List.length_cons, List.length_nil, Nat.zero_add]
        go_wp2_with fail
        refine hcall.mono ?_
        rintro e w7 ⟨rfl, hB7⟩
        have hB07 := hB06.trans (hB7.mono hB06.size)
        clear hcall hB7 hB06
        go_wp2
        go_ret
        exact ⟨ret_bool (by simp), hB07⟩
  · by_cases h1 : (200 : Int) < (x.length : Int)
    · go_wp2
      go_ret
      exact ⟨rfl, hB02⟩
    · by_cases h2 : (200 : Int) < (y.length : Int)
      · go_wp2
        go_ret
        exact ⟨rfl, hB02⟩
      · have h3 : (64 : Int) < (nm.length : Int) := by omega
        go_wp2
        go_ret
        exact ⟨rfl, hB02⟩

set_option maxRecDepth 100000 in
theorem contract (H : Type) (enc : TypeId × Value → H) (W : World) (base : Nat) (args : Array Value) (ds gs : List (DataW H)) (before : List MemPlace)
    (hval : ∀ (j : Nat) t v, Tryz.f6.params[j]? = some t → args[j]? = some v → Value.okWide Tryz.prog W .any base t v)
    (hW : DataW.Whole enc Tryz.prog Tryz.f6.params.toList Rows.ctxfmtBackSpec.vars false W args.toList ds gs before) (hL : laidMetH Tryz.prog Rows.ctxfmtBackUptoRow.laid W) (hk : Rows.uptoSmall H (ds ++ gs) = true) :
    Calls Tryz.prog 6 args W fun e W' => ∃ v, e = .returned v ∧ Rows.ctxfmtBackSpec.post enc Tryz.prog Tryz.f6 false true false false W args v W' := by
  have hW' := hW
  obtain ⟨p, q, hA0, hV, rfl, hfz, hnd⟩ := hW
  have hA : DataW.TrodAll enc Tryz.prog W 0 (fun _ => true) true Tryz.f6.params.toList args.toList ds p := hA0
  rw [Tryz.params6] at hA hval
  obtain ⟨v0, vs0, d0, ds0, p0, q0, hargs, rfl, rfl, h0, r0⟩ := trodAll_cons hA
  obtain ⟨v1, vs1, d1, ds1, p1, q1, rfl, rfl, rfl, h1, r1⟩ := trodAll_cons r0
  obtain ⟨v2, vs2, d2, ds2, p2, q2, rfl, rfl, rfl, h2, r2⟩ := trodAll_cons r1
  obtain ⟨v3, vs3, d3, ds3, p3, q3, rfl, rfl, rfl, h3, r3⟩ := trodAll_cons r2
  obtain ⟨rfl, rfl, rfl⟩ := trodAll_nil r3
  obtain rfl : args = #[v0, v1, v2, v3] := by cases args; simp_all
  obtain ⟨rfl, rfl⟩ := trodVars_none hV
  obtain ⟨n3, rfl, rfl, rfl, wn3⟩ := open_int Tryz.underlying3 (hval 3 3 v3 rfl rfl) h3
  obtain ⟨a0, rfl, rfl, rfl, wt0⟩ := open_string Tryz.underlying9 (hval 0 9 v0 rfl rfl) h0
  obtain ⟨a1, rfl, rfl, rfl, wt1⟩ := open_string Tryz.underlying9 (hval 1 9 v1 rfl rfl) h1
  obtain ⟨a2, rfl, rfl, rfl, wt2⟩ := open_string Tryz.underlying9 (hval 2 9 v2 rfl rfl) h2
  clear hA0
  simp only [List.append_nil] at hk
  have hbk : Rows.uptoBulkAll [.lit (.string a0.data.toList), .lit (.string a1.data.toList), .lit (.string a2.data.toList), .lit (.int .i64 n3)] ≤ 1048576 := of_decide_eq_true hk
  simp only [Rows.uptoBulkAll] at hbk
  have ht := Tb.tab_of Rows.ctxfmtBackUptoRow.laid rfl hL
  have hw := walk a0.data.toList a1.data.toList a2.data.toList n3  W (by simp only [Rows.uptoBulk] at hbk; omega) (fun u hu => var?_below hu Tb.gTab (Tb.tab_lt ht) ht) (Et.met Rows.ctxfmtBackUptoRow.laid rfl hL)
  refine hw.mono fun e W' ⟨he, bel⟩ => ?_
  subst he
  exact ⟨_, rfl, _, _, _, [], _, [], hW', trodAll_mk1 (shut_bool Tryz.underlying4 _), trodAll_cons_mk (shut_string Tryz.underlying9 wt0) (trodAll_cons_mk (shut_string Tryz.underlying9 wt1) (trodAll_cons_mk (shut_string Tryz.underlying9 wt2) (trodAll_cons_mk (shut_int Tryz.underlying3 wn3) trodAll_mk0))), rfl, bel.frame _, fun h => by cases h⟩

theorem laid_met (os : Os) : laidMetH Tryz.prog Rows.ctxfmtBackUptoRow.laid ((Tt.laidOn (World.holding Tryz.prog os ⟨#[], #[], []⟩)).forCall (fun _ _ => 0) ⟨#[], #[.string .empty, .string .empty, .string .empty, .int .i64 0], []⟩).memory :=
  laidMetH_of_parts (laidMet_of_run' 8 (by kernel_rfl) (by kernel_rfl)) (by kernel_rfl)
theorem reads (os : Os) {H : Type} (enc : TypeId × Value → H) : ∃ places, DataW.whole enc Tryz.prog ((Tt.laidOn (World.holding Tryz.prog os ⟨#[], #[], []⟩)).forCall (fun _ _ => 0) ⟨#[], #[.string .empty, .string .empty, .string .empty, .int .i64 0], []⟩).memory Tryz.f6.params.toList Rows.ctxfmtBackSpec.vars false #[Value.string .empty, Value.string .empty, Value.string .empty, Value.int .i64 0].toList 8 = some ([.lit (.string []), .lit (.string []), .lit (.string []), .lit (.int .i64 0)], [], places) :=
  ⟨[], by kernel_rfl⟩

set_option maxRecDepth 100000 in
theorem lifted (os : Os) (started : os.Started) (H : Type) (enc : TypeId × Value → H) (F : Stop.Interp) :
    ReturnsInHanded {} Tryz.checked os 6 .any ((Rows.OpenSpec.upto Rows.ctxfmtBackSpec).preRow enc Tryz.prog Tryz.f6 Rows.ctxfmtBackUptoRow.domain false Rows.ctxfmtBackUptoRow.laid) (((Rows.OpenSpec.upto Rows.ctxfmtBackSpec).at F).post enc Tryz.prog Tryz.f6 false true false false) := by
  obtain ⟨places, hx⟩ := reads os enc
  refine returnsInHanded_of_row (C := Tryz.checked) (s := Rows.OpenSpec.upto Rows.ctxfmtBackSpec) own started (by kernel_rfl) Tryz.func6
    (witness_row_at (enc := enc) (C := Tryz.checked) false (Tt.laidOn (World.holding Tryz.prog os ⟨#[], #[], []⟩)) #[.string .empty, .string .empty, .string .empty, .int .i64 0] rfl (by kernel_rfl) (by kernel_rfl) (by kernel_rfl)
      (OpenSpec.preRow_of_cond 8 hx (by kernel_rfl) (fun k hk => by cases hk; kernel_rfl) (by kernel_rfl) (laid_met os))) ?_
  intro W base args ds gs before hval hW _ hcond _ hL _ _
  exact contract H enc W base args ds gs before hval hW hL (hcond _ rfl)

set_option maxHeartbeats 4000000 in
theorem said : Rows.CtxfmtBackUptoSaid :=
  OpenClaim.holds_of_cond 6 Tryz.f6 rfl rfl rfl rfl rfl rfl rfl ⟨rfl, rfl, rfl, rfl, rfl⟩ rfl rfl rfl rfl rfl (by kernel_rfl) Tryz.func6 (by simp only [joinedFacts, Bool.and_eq_true]; (repeat' apply And.intro) <;> as_aux_lemma => kernel_rfl)
    (of_decide_eq_true (by kernel_rfl)) (by unfold Func.isWrapper; first | (rw [if_pos (by decide +kernel)]; kernel_rfl) | (rw [if_neg (by decide +kernel)]; exact ⟨rfl, rfl⟩))
    (fun os started H enc _ F => by rw [OpenClaim.pre_eq_preRow]; exact lifted os started H enc F)

theorem plain (f : FuncId) (fn : Func) (hf : Tryz.pinned.checked.prog.funcNamed "redline/redlinelaw15.CtxfmtBack" = some f) (hfn : Tryz.pinned.checked.prog.funcs[f]? = some fn) :
    true = Tryz.pinned.checked.prog.looks [] ∧ ∀ (j : Nat) t, fn.params[j]? = some t → Tryz.pinned.checked.prog.wantsStandIn t = false := by
  obtain rfl : f = 6 := Option.some.inj ((show Tryz.prog.funcNamed "redline/redlinelaw15.CtxfmtBack" = some 6 by kernel_rfl).symm.trans hf) |>.symm
  obtain rfl : fn = Tryz.f6 := (Option.some.inj (Tryz.func6.symm.trans hfn)).symm
  refine ⟨by kernel_rfl, fun j t ht => ?_⟩
  rw [Tryz.params6] at ht
  have hm : t = 9 ∨ t = 9 ∨ t = 9 ∨ t = 3 := by simpa using Array.mem_of_getElem? ht
  rcases hm with rfl | rfl | rfl | rfl
  · exact (show Tryz.prog.wantsStandIn 9 = false by kernel_rfl)
  · exact (show Tryz.prog.wantsStandIn 9 = false by kernel_rfl)
  · exact (show Tryz.prog.wantsStandIn 9 = false by kernel_rfl)
  · exact (show Tryz.prog.wantsStandIn 3 = false by kernel_rfl)

theorem card : Rows.CtxfmtBackUptoCardSaid :=
  Claim7.holds_tied_plain_at .later [] _ _ _ _ said (fun _ h => by cases h) (by kernel_rfl) (fun _ h => by cases h) ctxfmtBackUpto_row_tie rfl ⟨rfl, rfl⟩ (by kernel_rfl) rfl plain (by kernel_rfl)
#print axioms card
end Go.Proofs.YtgiojkhmkeocfaaGreatDoor.ctxfmtBack
