/-
  Texts that belong together, joined: RcRr, NpV, NpW.
-/
import Derived.Test.YtkmgblnofapccaaDoorPartA9
import Derived.Test.YtkmgblnofapccaaDoorPartA3
import Derived.Deep.RegionHeld3
import Derived.Deep.DeepCutAuto
import Derived.Test.YtkmgblnofapccaaDoorProg
import Derived.WalkKit
import Derived.LaidEql
import Derived.Stop.Asserts
import Derived.RowKitTokens
import Derived.Test.YtkmgblnofapccaaDoorPartA7

/- The reference's Run of layer 14, walked: the commands of a text are done. -/
namespace Go.Proofs.YtkmgblnofapccaaDoor
open Go.RowKit

/-- how far the reference's Run is -/
structure Rq (w2 : World) (R : Nat) (vL : Value) (L a : List (List UInt8)) (Z : Except (Nat × Int) (List (List UInt8))) (vo : Value) (dn pv : Int) (u : World) : Prop where
  st : (∃ (q d f : Nat) (out : List (List UInt8)) (fl : Bool), Rz w2 R vL vo out q 0 0 u ∧ dn = (d : Int) ∧ q ≤ L.length ∧ d ≤ a.length ∧ out.length ≤ d + q ∧ (fl = true → pv = dn) ∧ (fl = false → pv < dn) ∧ L.length - q ≤ f ∧ rcE a f q (L.drop q) out d fl = Z ∧ (∀ s ∈ out, s.length ≤ 1099511627776))
    ∨ (∃ (out : List (List UInt8)) (p : Int) (fa : Nat) (fe : Int), Rz w2 R vL vo out p fa fe u ∧ fe ≠ 0 ∧ Z = .error (fa, fe))
/-- how much is left to do -/
def rzM (R n : Nat) (w : World) : Nat := match w.cell? ⟨R, 3, none⟩, w.cell? ⟨R, 1, none⟩ with
  | some (.int _ e), some (.int _ z) => if e = 0 then n + 1 - z.toNat else 0
  | _, _ => 0
theorem rzM_ok {u : World} {R n q : Nat} {vL : Value} {fa : Int} (h : Rx u R vL (q : Int) fa 0) : rzM R n u = n + 1 - q := by
  unfold rzM
  rw [h.cells.2.2.2, h.cells.2.1]
  simp
theorem rzM_no {u : World} {R n : Nat} {vL : Value} {p fa fe : Int} (h : Rx u R vL p fa fe) (hf : fe ≠ 0) : rzM R n u = 0 := by
  unfold rzM
  rw [h.cells.2.2.2, h.cells.2.1]
  simp [hf]
/-- a text is read as lines, or refused -/
theorem rRead_any (t : List UInt8) (w : World) :
    Calls Tryd.prog 24 #[.string ⟨t.toArray⟩] w fun e w' => ∃ (R : Nat) (lo : Option Addr) (lc : Nat) (L : List (List UInt8)) (fe : Int), e = .returned (.pointer (some ⟨R, 0, none⟩)) ∧ Rx w' R (.slice lo L.length lc) 0 0 fe ∧ HS w' (.slice lo L.length lc) L ∧ (∀ a, lo = some a → a.block ≠ R) ∧ w.heap.size ≤ R ∧ Below w.heap.size w w' ∧ ((t.length ≤ 1048576 ∧ L = Ln.splitL t ∧ fe = 0) ∨ (1048576 < t.length ∧ L = [] ∧ fe = 9)) := by
  by_cases h : 1048576 < t.length
  · refine (rRead_long t w h).mono ?_
    rintro e w' ⟨rfl, h1, h2⟩
    exact ⟨w.heap.size, none, 0, [], 9, rfl, h1, .inl ⟨rfl, rfl, rfl⟩, fun a ha => (by cases ha), Nat.le_refl _, h2, .inr ⟨h, rfl, rfl⟩⟩
  · refine (rRead_f t w (by omega)).mono ?_
    rintro e w' ⟨R, lo, lc, rfl, h1, h2, h3, h4, h5⟩
    exact ⟨R, lo, lc, _, 0, rfl, h1, holds_of h2, h3, h4, h5, .inl ⟨by omega, rfl, rfl⟩⟩
theorem rMore_end {R : Nat} {L : List (List UInt8)} {lo : Option Addr} {lc : Nat} {p : Nat} {fa : Int} (w : World) (q : Rx w R (.slice lo L.length lc) p fa 0) (hp : L.length ≤ p) :
    Calls Tryd.prog 25 #[.pointer (some ⟨R, 0, none⟩)] w fun x w' => x = .returned (.bool false) ∧ ∃ m, w' = w.drewN m := by
  refine (rMore_f w q).mono ?_
  rintro e w' ⟨rfl, h⟩
  exact ⟨by simp; omega, h⟩
theorem rMore_yes {R : Nat} {L : List (List UInt8)} {lo : Option Addr} {lc : Nat} {p : Nat} {fa : Int} (w : World) (q : Rx w R (.slice lo L.length lc) p fa 0) (hp : p < L.length) :
    Calls Tryd.prog 25 #[.pointer (some ⟨R, 0, none⟩)] w fun x w' => x = .returned (.bool true) ∧ ∃ m, w' = w.drewN m := by
  refine (rMore_f w q).mono ?_
  rintro e w' ⟨rfl, h⟩
  exact ⟨by simp; omega, h⟩
theorem rx_sub {u : World} {p q r : Int} (h : IntKind.i64.wrap (p - q) = r) {op : Oper} (x l : Operand) (ho : op.op = .binOp .sub 3 x l 3) {ev : Operand → Value} (hx : ev x = .int .i64 p) (hl : ev l = .int .i64 q) :
    (execOp ev op).run Tryd.prog u = .ok (.value (.int .i64 r)) u := by
  subst h
  simp only [execOp, ho, hx, hl]
  go_simp
/-- what is left of the inner loop -/
def rzI (R m : Nat) (i : Value) (w : World) : Nat := match w.cell? ⟨R, 3, none⟩ with
  | some (.int _ e) => if e = 0 then m + 1 - (intOf i).toNat else 0
  | _ => 0
theorem rzI_ok {u : World} {R m j : Nat} {vL : Value} {p fa : Int} (h : Rx u R vL p fa 0) : rzI R m (.int .i64 (j : Int)) u = m + 1 - j := by
  unfold rzI
  rw [h.cells.2.2.2]
  simp [intOf]
theorem rzI_no {u : World} {R m : Nat} {vL : Value} {p fa fe : Int} (h : Rx u R vL p fa fe) (hf : fe ≠ 0) (i : Value) : rzI R m i u = 0 := by
  unfold rzI
  rw [h.cells.2.2.2]
  simp [hf]
/-- how far the lines that are put in are -/
structure Ri (w2 : World) (R : Nat) (vL : Value) (L base : List (List UInt8)) (m fa : Nat) (vo : Value) (iz : Int) (u : World) : Prop where
  st : (∃ j : Nat, iz = (j : Int) ∧ j ≤ m ∧ fa + j ≤ L.length ∧ Rz w2 R vL vo (base ++ (L.drop fa).take j) ((fa + j : Nat) : Int) 0 0 u)
    ∨ (∃ (out' : List (List UInt8)) (p : Int), Rz w2 R vL vo out' p ((L.length + 1 : Nat) : Int) 1 u ∧ L.length < fa + m)
set_option maxRecDepth 20000 in
set_option maxHeartbeats 32000000 in
theorem rRRun_f (t : List UInt8) (a : List (List UInt8)) (va : Value) (w : World) (ha : HS w va a) (htl : t.length ≤ 1099511627776) (hla : a.length ≤ 137438953472) (HTA : Hid (∀ s ∈ a, s.length ≤ 1099511627776)) (Z : Except (Nat × Int) (List (List UInt8))) (HR : Hid (rcR t a = Z)) :
    Calls Tryd.prog 10 #[.string ⟨t.toArray⟩, va] w fun e w' => RfQ w Z e w' := by
  obtain ⟨ao, ac, rfl⟩ := Holds.form ha
  have hb0 : Below w.heap.size w (w.alloc (.cells #[.int .i64 0, .int .i64 0] 34)) := (Below.refl _ w).alloc (Nat.le_refl _) _
  have hF0 : Fbx (w.alloc (.cells #[.int .i64 0, .int .i64 0] 34)) w.heap.size 0 0 := _root_.Go.heap_alloc_new w _
  have hz0 : (w.alloc (.cells #[.int .i64 0, .int .i64 0] 34)).heap.size = w.heap.size + 1 := World.size_alloc _ _
  go_enter Tryd.func10, Tryd.ntmps10
  go_wp2_with fail
  generalize w.alloc (.cells #[.int .i64 0, .int .i64 0] 34) = w0 at hb0 hF0 hz0 ⊢
  refine (rRead_any t w0).mono ?_
  rintro e w2 ⟨R, lo, lc, L, fe, rfl, hrx, hL2, hne, hRw, hb2, hcase⟩
  have hF2 : Fbx w2 w.heap.size 0 0 := (hb2.block _ (by omega)).trans hF0
  have hbw2 := hb0.trans (hb2.mono hb0.size)
  have ha2 : HS w2 (.slice ao a.length ac) a := HS.keep ha hbw2 (Nat.le_refl _)
  have hRw1 : w.heap.size < R := by omega
  have hLl : L.length ≤ 1048576 := (by
    rcases hcase with ⟨h1, rfl, _⟩ | ⟨_, rfl, _⟩
    · have := Ln.split_len t; omega
    · simp)
  have HLB : Hid (∀ s ∈ L, s.length ≤ 1099511627776) := (by
    intro s hs
    rcases hcase with ⟨h1, rfl, _⟩ | ⟨_, rfl, _⟩
    · have h1 := congrArg List.length (Ln.split_join t)
      have h2 := rc_mem hs
      omega
    · cases hs)
  have hRq : Rq w2 R (.slice lo L.length lc) L a Z (.slice none 0 0) 0 (-1) w2 := ⟨(by
    have hr := HR.out
    unfold rcR at hr
    rcases hcase with ⟨h1, rfl, rfl⟩ | ⟨h1, rfl, rfl⟩
    · rw [if_neg (by omega)] at hr
      exact .inl ⟨0, 0, (Ln.splitL t).length, [], false, ⟨hrx, World.grownBy.refl _ _, World.ownsRow_nil _ _ _ _, hrx.lt⟩, rfl, Nat.zero_le _, Nat.zero_le _, Nat.zero_le _, fun h => (by cases h), fun _ => by omega, by omega, hr, fun s hs => by cases hs⟩
    · rw [if_pos h1] at hr
      exact .inr ⟨[], 0, 0, 9, ⟨hrx, World.grownBy.refl _ _, World.ownsRow_nil _ _ _ _, hrx.lt⟩, by decide, hr.symm⟩)⟩
  have hneA : a ≠ [] → ∀ (x : Addr) (n c : Nat), Value.slice ao a.length ac = .slice (some x) n c → x.block ≠ R := (by
    intro h0 x n c h e
    obtain ⟨bk, off, rfl, hbk, _⟩ := HS.at ha (List.length_pos_iff.2 h0)
    simp only [Value.slice.injEq, Option.some.injEq] at h
    obtain ⟨rfl, _, _⟩ := h
    dsimp only at e
    omega)
  have hneL : L ≠ [] → ∀ (x : Addr) (n c : Nat), Value.slice lo L.length lc = .slice (some x) n c → x.block ≠ R := (by
    intro _ x n c h
    simp only [Value.slice.injEq] at h
    exact hne x h.1)
  clear hcase HR hb0 hF0 hz0 hb2 hRw ha htl hrx
  have HRq : Hid (Rq w2 R (.slice lo L.length lc) L a Z (.slice none 0 0) 0 (-1) w2) := hRq
  clear hRq
  go_wp2
  go_loopw [7, 8, 9] (fun vo dn pv wr => ∃ (oo : Option Addr) (on oc : Nat) (dz pz : Int), vo = .slice oo on oc ∧ dn = .int .i64 dz ∧ pv = .int .i64 pz ∧ Hid (Rq w2 R (.slice lo L.length lc) L a Z (.slice oo on oc) dz pz wr)) (fun _ _ _ wr => rzM R L.length wr)
  case atStart => exact ⟨none, 0, 0, 0, -1, rfl, rfl, rfl, HRq⟩
  case round =>
    clear HRq
    obtain ⟨oo, on, oc, dz, pz, rfl, rfl, rfl, HQ⟩ := hrel
    rcases HQ.out.st with ⟨q, d, f, out, fl, hz, rfl, hq, hd, hob, hf1, hf2, hfu, hrun, hbd⟩ | ⟨out, p, fa, fe, hz, hfe, hZ⟩
    · clear HQ
      by_cases hlt : q < L.length
      · have hon : on = out.length := (by
          obtain ⟨_, _, h⟩ := rc_form hz.own
          simp only [Value.slice.injEq] at h
          exact h.2.1)
        subst hon
        have hmeas := rzM_ok (n := L.length) hz.rx
        have hE := rcE_step hlt hfu hrun
        rw [rcH_eq hlt] at hE
        have HE : Hid _ := hE
        have HBD : Hid (∀ s ∈ out, s.length ≤ 1099511627776) := hbd
        have HF1 : Hid (fl = true → pz = (d : Int)) := hf1
        have HF2 : Hid (fl = false → pz < (d : Int)) := hf2
        have hpz : ¬ (d : Int) < pz := (by cases fl with
          | true => have := hf1 rfl; omega
          | false => have := hf2 rfl; omega)
        obtain ⟨fa, hfaN⟩ : ∃ fa : Nat, q + 1 = fa := ⟨_, rfl⟩
        have hfa : ((q : Int) + 1) = (fa : Int) := by omega
        clear hrun hfu hf1 hf2 hbd hE
        have hsl := HLB.out L[q] (List.getElem_mem hlt)
        go_wp2_with fail
        refine (rMore_yes wr hz.rx hlt).mono ?_
        rintro e w3 ⟨rfl, n, rfl⟩
        have hz3 := hz.dN n
        clear hz
        generalize wr.drewN n = w3 at hz3 ⊢
        have hL3 : HS w3 (.slice lo L.length lc) L := hz3.hs hL2 hneL
        cases hfd : fdB L[q] with
        | false =>
          have HZE : Hid (Z = .error (fa, 3)) := (by
            have hr : rcmF L[q] = none := by unfold rcmF; rw [if_neg (by rw [hfd]; decide)]
            have h := HE.out
            rw [hr] at h
            rcases h with ⟨e, h1, h2⟩ | ⟨o, d', g, q', h1, _⟩
            · have h3 : rcH a L out q d fl none = .error (q + 1, 3) := rfl
              rw [h3] at h1
              cases h1
              show Z = _
              rw [h2, hfaN]
            · cases h1)
          go_wp2_with fail
          refine (rNext_bad w3 hz3.rx hL3 hne (by omega) hlt rfl hsl hfd).mono ?_
          rintro e w4 ⟨rfl, hrx4, hg4⟩
          have hz4 := hz3.call hg4 hrx4
          rw [hfa] at hz4
          clear hrx4 hg4 hz3 hL3 HE
          go_wp2_with fail
          refine (rmCom_f [] w4 (by simp)).mono ?_
          rintro e w5 ⟨v5, p5, n5, ok5, rfl, _, hb5⟩
          have hz := hz4.low hb5
          clear hz4 hb5
          have hZ := HZE.out
          subst hZ
          have hfe : (3 : Int) ≠ 0 := by decide
          obtain ⟨c0, c1, c2, c3⟩ := hz.rx.cells
          have hFb : Fbx w5 w.heap.size 0 0 := hz.cell hF2 (by omega)
          obtain ⟨f0, f1⟩ := hFb.cells
          have g0 := hFb.frozen 0
          have g1 := hFb.frozen 1
          have hlw : Below w.heap.size w w5 := hz.below hbw2 (by omega)
          have hP : Fbx ((w5.drew.setCell ⟨w.heap.size, 0, none⟩ (.int .i64 (fa : Int))).setCell ⟨w.heap.size, 1, none⟩ (.int .i64 3)) w.heap.size (fa : Int) 3 := Fbx.put (u := w5.drew) hFb (fa : Int) 3
          have HPL : Hid (Below w.heap.size w ((w5.drew.setCell ⟨w.heap.size, 0, none⟩ (.int .i64 (fa : Int))).setCell ⟨w.heap.size, 1, none⟩ (.int .i64 3))) := (hlw.drew.setCell (Nat.le_refl _) _).setCell (Nat.le_refl _) _
          have HPF : Hid (Fbx ((w5.drew.setCell ⟨w.heap.size, 0, none⟩ (.int .i64 (fa : Int))).setCell ⟨w.heap.size, 1, none⟩ (.int .i64 3)) w.heap.size (fa : Int) 3) := hP
          clear hz hFb hlw hP
          go_wp2_with fail
          go_region
          go_wp2
          refine bodyPost_ret (rz_cell rfl _ _ w.heap.size 34 #[.int .i64 (fa : Int), .int .i64 3] (0, 0) _ rfl HPF.out Tryd.underlying34 rfl (by kernel_rfl)) rfl ?_
          exact ⟨rfl, HPL.out⟩
        | true =>
          obtain ⟨s, hs⟩ : ∃ s, L[q].dropLast = s := ⟨_, rfl⟩
          have hsll : s.length ≤ 1099511627776 := by rw [← hs, List.length_dropLast]; omega
          have hrf : rcmF L[q] = rcmP s := by unfold rcmF; rw [if_pos hfd, hs]
          have HE2 : Hid ((∃ e, rcH a L out q d fl (rcmP s) = .error e ∧ Z = .error e) ∨ (∃ o d' g q', rcH a L out q d fl (rcmP s) = .ok (o, d', g, q') ∧ q < q' ∧ L.length - q' ≤ f - 1 ∧ rcE a (f - 1) q' (L.drop q') o d' g = Z ∧ ∀ x ∈ o, x ∈ out ∨ x ∈ a ∨ x ∈ L)) := (by
            have h := HE.out
            rw [hrf] at h
            exact h)
          clear HE hrf
          go_wp2_with fail
          refine (rNext_ok w3 hz3.rx hL3 hne (by omega) hlt rfl hsl hfd).mono ?_
          rw [hs]
          rintro e w4 ⟨rfl, hrx4, hg4⟩
          have hz4 := hz3.call hg4 hrx4
          clear hrx4 hg4 hz3 hL3 hfd hs hsl
          go_wp2_with fail
          refine (rmCom_f s w4 hsll).mono ?_
          rintro e w5 ⟨v5, p5, n5, ok5, rfl, hcm, hb5⟩
          have hz5 := hz4.low hb5
          clear hz4 hb5
          obtain ⟨c0, c1, c2, c3⟩ := hz5.rx.cells
          rcases hcm with ⟨rfl, hnone⟩ | ⟨rfl, ad, ah, m, hsome, hv, hp, hn⟩
          · have HZE : Hid (Z = .error (fa, 3)) := (by
              have h := HE2.out
              rw [hnone] at h
              rcases h with ⟨e, h1, h2⟩ | ⟨o, d', g, q', h1, _⟩
              · have h3 : rcH a L out q d fl none = .error (q + 1, 3) := rfl
                rw [h3] at h1
                cases h1
                show Z = _
                rw [h2, hfaN]
              · cases h1)
            clear HE2 hnone
            go_wp2_with fail
            refine (rFail_ok 3 w5 hz5.rx).mono ?_
            rintro e w6 ⟨rfl, hrx6, hg6⟩
            have hz6 := hz5.call hg6 hrx6
            rw [hfa] at hz6
            clear hrx6 hg6 hz5
            have HQ6 : Hid (Rq w2 R (.slice lo L.length lc) L a Z (.slice oo out.length oc) (d : Int) pz w6) := ⟨.inr ⟨_, _, fa, 3, hz6, by decide, HZE.out⟩⟩
            have hm6 := rzM_no (n := L.length) hz6.rx (by decide)
            clear hz6
            go_wp2
            exact ⟨⟨_, _, _, _, _, rfl, rfl, rfl, HQ6⟩, by rw [hm6, hmeas]; omega⟩
          · have hbm := rcmP_bd hsome
            obtain ⟨x1, hx1⟩ : ∃ x1, (if ad = true then 0 else m) = x1 := ⟨_, rfl⟩
            obtain ⟨x2, hx2⟩ : ∃ x2, (if ad = true then m else 0) = x2 := ⟨_, rfl⟩
            have HE3 : Hid ((∃ e, rcG a L out q d fl ah x1 x2 = .error e ∧ Z = .error e) ∨ (∃ o d' g q', rcG a L out q d fl ah x1 x2 = .ok (o, d', g, q') ∧ q < q' ∧ L.length - q' ≤ f - 1 ∧ rcE a (f - 1) q' (L.drop q') o d' g = Z ∧ ∀ x ∈ o, x ∈ out ∨ x ∈ a ∨ x ∈ L)) := (by
              have h := HE2.out
              rw [hsome] at h
              have e : rcH a L out q d fl (some (ad, ah, m)) = rcG a L out q d fl ah x1 x2 := (by rw [← hx1, ← hx2]; cases ad <;> rfl)
              rw [e] at h
              exact h)
            clear HE2 hsome
            subst hn
            cases ad with
            | false =>
              simp only [Bool.false_eq_true, if_false] at hx1 hx2 hv hp
              subst hx1 hx2 hv hp
              by_cases h1 : ah < d
              · have HZE : Hid (Z = .error (fa, 121)) := (by
                  have hG : rcG a L out q d fl ah m 0 = .error (q + 1, 121) := (by
                    unfold rcG
                    rw [if_pos (.inl h1)])
                  have h := HE3.out
                  rw [hG] at h
                  rcases h with ⟨e, h1, h2⟩ | ⟨o, d', g, q', h1, _⟩
                  · cases h1
                    show Z = _
                    rw [h2, hfaN]
                  · cases h1)
                clear HE3
                have l1 : (ah : Int) < (d : Int) := by omega
                go_wp2_with fail
                refine (rFail_ok 121 w5 hz5.rx).mono ?_
                rintro e w6 ⟨rfl, hrx6, hg6⟩
                have hz6 := hz5.call hg6 hrx6
                rw [hfa] at hz6
                clear hrx6 hg6 hz5
                have HQ6 : Hid (Rq w2 R (.slice lo L.length lc) L a Z (.slice oo out.length oc) (d : Int) pz w6) := ⟨.inr ⟨_, _, fa, 121, hz6, by decide, HZE.out⟩⟩
                have hm6 := rzM_no (n := L.length) hz6.rx (by decide)
                clear hz6
                go_wp2
                exact ⟨⟨_, _, _, _, _, rfl, rfl, rfl, HQ6⟩, by rw [hm6, hmeas]; omega⟩
              · have g1 : ¬ (ah < d ∨ (ah = d ∧ 0 < 0 ∧ fl = true)) := fun q => q.elim h1 (fun h => absurd h.2.1 (by omega))
                have l1 : ¬ (ah : Int) < (d : Int) := by omega
                by_cases h2 : a.length < ah + m
                · have HZE : Hid (Z = .error (fa, 2)) := (by
                    have hG : rcG a L out q d fl ah m 0 = .error (q + 1, 2) := (by
                      unfold rcG
                      rw [if_neg g1, if_pos h2])
                    have h := HE3.out
                    rw [hG] at h
                    rcases h with ⟨e, h1, h2⟩ | ⟨o, d', g, q', h1, _⟩
                    · cases h1
                      show Z = _
                      rw [h2, hfaN]
                    · cases h1)
                  clear HE3
                  clear g1
                  by_cases h3 : a.length < ah + 1
                  · have l2 : (a.length : Int) < (ah : Int) + 1 := by omega
                    go_wp2_with fail
                    refine (rFail_ok 2 w5 hz5.rx).mono ?_
                    rintro e w6 ⟨rfl, hrx6, hg6⟩
                    have hz6 := hz5.call hg6 hrx6
                    rw [hfa] at hz6
                    clear hrx6 hg6 hz5
                    have HQ6 : Hid (Rq w2 R (.slice lo L.length lc) L a Z (.slice oo out.length oc) (d : Int) pz w6) := ⟨.inr ⟨_, _, fa, 2, hz6, by decide, HZE.out⟩⟩
                    have hm6 := rzM_no (n := L.length) hz6.rx (by decide)
                    clear hz6
                    go_wp2
                    exact ⟨⟨_, _, _, _, _, rfl, rfl, rfl, HQ6⟩, by rw [hm6, hmeas]; omega⟩
                  · have l2 : ¬ (a.length : Int) < (ah : Int) + 1 := by omega
                    have l3 : (a.length : Int) - ((ah : Int) + 1) + 1 < (m : Int) := by omega
                    go_wp2_with fail
                    refine (rFail_ok 2 w5 hz5.rx).mono ?_
                    rintro e w6 ⟨rfl, hrx6, hg6⟩
                    have hz6 := hz5.call hg6 hrx6
                    rw [hfa] at hz6
                    clear hrx6 hg6 hz5
                    have HQ6 : Hid (Rq w2 R (.slice lo L.length lc) L a Z (.slice oo out.length oc) (d : Int) pz w6) := ⟨.inr ⟨_, _, fa, 2, hz6, by decide, HZE.out⟩⟩
                    have hm6 := rzM_no (n := L.length) hz6.rx (by decide)
                    clear hz6
                    go_wp2
                    exact ⟨⟨_, _, _, _, _, rfl, rfl, rfl, HQ6⟩, by rw [hm6, hmeas]; omega⟩
                · have l2 : ¬ (a.length : Int) < (ah : Int) + 1 := by omega
                  have l3 : ¬ (a.length : Int) - ((ah : Int) + 1) + 1 < (m : Int) := by omega
                  obtain ⟨po, pc, hslA, hsY⟩ := run_cut_to a ao ac (d : Int) (ah : Int) (by omega) (by omega) (by omega) w2 ha2
                  have eY : cut a (d : Int) ((ah : Int) - (d : Int)) = (a.drop d).take (ah - d) := (by unfold cut; rw [Int.toNat_natCast]; congr 1; omega)
                  rw [eY] at hslA hsY
                  have HYl : Hid (((a.drop d).take (ah - d)).length = ah - d) := (by show _ = _; rw [List.length_take, List.length_drop]; omega)
                  have hYw : HS w5 (.slice po ((a.drop d).take (ah - d)).length pc) ((a.drop d).take (ah - d)) := hsY w5 (hz5.hs ha2 hneA)
                  obtain ⟨Y, hY⟩ : ∃ Y, (a.drop d).take (ah - d) = Y := ⟨_, rfl⟩
                  have HYM : Hid (∀ s ∈ Y, s ∈ a) := (by rw [← hY]; exact fun s hs => List.mem_of_mem_drop (List.mem_of_mem_take hs))
                  rw [hY] at hslA HYl hYw
                  have hH5 : Holds w5 (.slice po Y.length pc) Y.length (scells Y) := hYw
                  have hbs : w2.heap.size ≤ w5.heap.size := hz5.gr.size
                  have HOW : w5.ownsRow w2.heap.size 9 1 (.slice oo out.length oc) out.length (scells out) := hz5.own
                  have hbY : out.length + Y.length ≤ 2199023255552 := (by have := HYl.out; omega)
                  clear eY hsY hYw
                  go_wp2_with (at_builtin; refine wpList_ef_append _ (by kernel_rfl) (.tmp 164) (.tmp 169) 23 9 (.string ⟨#[]⟩) 1 16 rfl Tryd.underlying23 infoStr rfl (by decide) (by decide) w2.heap.size _ _ _ rfl HOW _ Y.length (scells Y) rfl hH5 (by simp [scells_length]) (scells_one _) hbY hbs ?_)
                  intro v6 w6 ho6 hg6 hn6
                  obtain ⟨mo, mc, rfl⟩ := rc_form ho6
                  have HNE : Hid (out.length + Y.length = (out ++ Y).length) := (by show _ = _; rw [List.length_append])
                  have ho7 : w6.ownsRow w2.heap.size 9 1 (.slice mo (out.length + Y.length) mc) (out ++ Y).length (scells (out ++ Y)) := (by rw [scells_append, ← HNE.out]; exact ho6)
                  have hz6 := hz5.grow hg6 ho7
                  rw [hfa] at hz6
                  obtain ⟨N, hN⟩ : ∃ N, out.length + Y.length = N := ⟨_, rfl⟩
                  have HNN : Hid ((out ++ Y).length = N) := (by show _ = _; rw [← HNE.out, hN])
                  rw [hN] at hz6 ⊢
                  clear hN HNE HOW hH5 hz5 c0 c1 c2 c3 ho6 ho7 hg6 hn6 hslA
                  have HG : Hid (rcE a (f - 1) fa (L.drop fa) (out ++ Y) (ah + m) false = Z ∧ L.length - fa ≤ f - 1) := (by
                    have hG : rcG a L out q d fl ah m 0 = .ok (out ++ Y, ah + m, false, q + 1) := (by
                      unfold rcG
                      rw [if_neg g1, if_neg h2, if_neg (by omega), hY]
                      simp)
                    have h := HE3.out
                    rw [hG] at h
                    rcases h with ⟨e, h1, _⟩ | ⟨o, d', g, q', h1, h2, h3, h4, _⟩
                    · cases h1
                    · cases h1
                      rw [← hfaN]
                      exact ⟨h4, h3⟩)
                  have HQ6 : Hid (Rq w2 R (.slice lo L.length lc) L a Z (.slice mo N mc) ((ah : Int) + (m : Int)) pz w6) := ⟨.inl ⟨fa, ah + m, f - 1, out ++ Y, false, hz6, by omega, by omega, by omega, by rw [HNN.out]; have h1 := HNN.out; have h2 := HYl.out; rw [List.length_append] at h1; omega, fun h => (by cases h), fun _ => by omega, HG.out.2, HG.out.1, fun s hs => (by
                    rcases List.mem_append.1 hs with h | h
                    · exact HBD.out s h
                    · exact HTA.out s (HYM.out s h))⟩⟩
                  have hm6 := rzM_ok (n := L.length) hz6.rx
                  clear hz6 g1
                  go_wp2
                  exact ⟨⟨_, _, _, _, _, rfl, rfl, rfl, HQ6⟩, by rw [hm6, hmeas]; omega⟩
            | true =>
              simp only [if_true] at hx1 hx2 hv hp
              subst hx1 hx2 hv hp
              have HPZ : Hid ((fl = true ∧ pz = (d : Int)) ∨ (fl = false ∧ pz < (d : Int))) := (by cases fl with
                | true => exact .inl ⟨rfl, HF1.out rfl⟩
                | false => exact .inr ⟨rfl, HF2.out rfl⟩)
              by_cases h1 : ah < d
              · have HZE : Hid (Z = .error (fa, 121)) := (by
                  have hG : rcG a L out q d fl ah 0 m = .error (q + 1, 121) := (by
                    unfold rcG
                    rw [if_pos (.inl h1)])
                  have h := HE3.out
                  rw [hG] at h
                  rcases h with ⟨e, h1, h2⟩ | ⟨o, d', g, q', h1, _⟩
                  · cases h1
                    show Z = _
                    rw [h2, hfaN]
                  · cases h1)
                clear HE3
                have l1 : (ah : Int) < (d : Int) := by omega
                go_wp2_with fail
                refine (rFail_ok 121 w5 hz5.rx).mono ?_
                rintro e w6 ⟨rfl, hrx6, hg6⟩
                have hz6 := hz5.call hg6 hrx6
                rw [hfa] at hz6
                clear hrx6 hg6 hz5
                have HQ6 : Hid (Rq w2 R (.slice lo L.length lc) L a Z (.slice oo out.length oc) (d : Int) pz w6) := ⟨.inr ⟨_, _, fa, 121, hz6, by decide, HZE.out⟩⟩
                have hm6 := rzM_no (n := L.length) hz6.rx (by decide)
                clear hz6
                go_wp2
                exact ⟨⟨_, _, _, _, _, rfl, rfl, rfl, HQ6⟩, by rw [hm6, hmeas]; omega⟩
              · have l1 : ¬ (ah : Int) < (d : Int) := by omega
                by_cases h1b : ah = d ∧ fl = true
                · have hpe : ((ah : Int) == pz) = true := (by
                    rcases HPZ.out with ⟨_, h⟩ | ⟨h, _⟩
                    · rw [h, h1b.1]; simp
                    · rw [h1b.2] at h; cases h)
                  have HZE : Hid (Z = .error (fa, 121)) := (by
                    have hG : rcG a L out q d fl ah 0 m = .error (q + 1, 121) := (by
                      unfold rcG
                      rw [if_pos (.inr ⟨h1b.1, hbm.2.1, h1b.2⟩)])
                    have h := HE3.out
                    rw [hG] at h
                    rcases h with ⟨e, h1, h2⟩ | ⟨o, d', g, q', h1, _⟩
                    · cases h1
                      show Z = _
                      rw [h2, hfaN]
                    · cases h1)
                  clear HE3
                  clear h1b
                  go_wp2_with fail
                  refine (rFail_ok 121 w5 hz5.rx).mono ?_
                  rintro e w6 ⟨rfl, hrx6, hg6⟩
                  have hz6 := hz5.call hg6 hrx6
                  rw [hfa] at hz6
                  clear hrx6 hg6 hz5
                  have HQ6 : Hid (Rq w2 R (.slice lo L.length lc) L a Z (.slice oo out.length oc) (d : Int) pz w6) := ⟨.inr ⟨_, _, fa, 121, hz6, by decide, HZE.out⟩⟩
                  have hm6 := rzM_no (n := L.length) hz6.rx (by decide)
                  clear hz6
                  go_wp2
                  exact ⟨⟨_, _, _, _, _, rfl, rfl, rfl, HQ6⟩, by rw [hm6, hmeas]; omega⟩
                · have g1 : ¬ (ah < d ∨ (ah = d ∧ 0 < m ∧ fl = true)) := fun q => q.elim h1 (fun h => h1b ⟨h.1, h.2.2⟩)
                  have hpe : ((ah : Int) == pz) = false := (by
                    rw [beq_eq_false_iff_ne]
                    intro e
                    rcases HPZ.out with ⟨h, h'⟩ | ⟨_, h'⟩
                    · exact h1b ⟨by omega, h⟩
                    · omega)
                  clear h1b
                  by_cases h2 : a.length < ah + 0
                  · have HZE : Hid (Z = .error (fa, 2)) := (by
                      have hG : rcG a L out q d fl ah 0 m = .error (q + 1, 2) := (by
                        unfold rcG
                        rw [if_neg g1, if_pos h2])
                      have h := HE3.out
                      rw [hG] at h
                      rcases h with ⟨e, h1, h2⟩ | ⟨o, d', g, q', h1, _⟩
                      · cases h1
                        show Z = _
                        rw [h2, hfaN]
                      · cases h1)
                    clear HE3
                    clear g1
                    have l2 : (a.length : Int) < (ah : Int) := by omega
                    go_wp2_with fail
                    refine (rFail_ok 2 w5 hz5.rx).mono ?_
                    rintro e w6 ⟨rfl, hrx6, hg6⟩
                    have hz6 := hz5.call hg6 hrx6
                    rw [hfa] at hz6
                    clear hrx6 hg6 hz5
                    have HQ6 : Hid (Rq w2 R (.slice lo L.length lc) L a Z (.slice oo out.length oc) (d : Int) pz w6) := ⟨.inr ⟨_, _, fa, 2, hz6, by decide, HZE.out⟩⟩
                    have hm6 := rzM_no (n := L.length) hz6.rx (by decide)
                    clear hz6
                    go_wp2
                    exact ⟨⟨_, _, _, _, _, rfl, rfl, rfl, HQ6⟩, by rw [hm6, hmeas]; omega⟩
                  · have l2 : ¬ (a.length : Int) < (ah : Int) := by omega
                    obtain ⟨po, pc, hslA, hsY⟩ := run_cut_to a ao ac (d : Int) (ah : Int) (by omega) (by omega) (by omega) w2 ha2
                    have eY : cut a (d : Int) ((ah : Int) - (d : Int)) = (a.drop d).take (ah - d) := (by unfold cut; rw [Int.toNat_natCast]; congr 1; omega)
                    rw [eY] at hslA hsY
                    have HYl : Hid (((a.drop d).take (ah - d)).length = ah - d) := (by show _ = _; rw [List.length_take, List.length_drop]; omega)
                    have hYw : HS w5 (.slice po ((a.drop d).take (ah - d)).length pc) ((a.drop d).take (ah - d)) := hsY w5 (hz5.hs ha2 hneA)
                    obtain ⟨Y, hY⟩ : ∃ Y, (a.drop d).take (ah - d) = Y := ⟨_, rfl⟩
                    have HYM : Hid (∀ s ∈ Y, s ∈ a) := (by rw [← hY]; exact fun s hs => List.mem_of_mem_drop (List.mem_of_mem_take hs))
                    rw [hY] at hslA HYl hYw
                    have hH5 : Holds w5 (.slice po Y.length pc) Y.length (scells Y) := hYw
                    have hbs : w2.heap.size ≤ w5.heap.size := hz5.gr.size
                    have HOW : w5.ownsRow w2.heap.size 9 1 (.slice oo out.length oc) out.length (scells out) := hz5.own
                    have hbY : out.length + Y.length ≤ 2199023255552 := (by have := HYl.out; omega)
                    clear eY hsY hYw
                    go_wp2_with (at_builtin; refine wpList_ef_append _ (by kernel_rfl) (.tmp 33) (.tmp 37) 23 9 (.string ⟨#[]⟩) 1 16 rfl Tryd.underlying23 infoStr rfl (by decide) (by decide) w2.heap.size _ _ _ rfl HOW _ Y.length (scells Y) rfl hH5 (by simp [scells_length]) (scells_one _) hbY hbs ?_)
                    intro v6 w6 ho6 hg6 hn6
                    obtain ⟨mo, mc, rfl⟩ := rc_form ho6
                    have HNE : Hid (out.length + Y.length = (out ++ Y).length) := (by show _ = _; rw [List.length_append])
                    have ho7 : w6.ownsRow w2.heap.size 9 1 (.slice mo (out.length + Y.length) mc) (out ++ Y).length (scells (out ++ Y)) := (by rw [scells_append, ← HNE.out]; exact ho6)
                    have hz6 := hz5.grow hg6 ho7
                    rw [hfa] at hz6
                    obtain ⟨N, hN⟩ : ∃ N, out.length + Y.length = N := ⟨_, rfl⟩
                    have HNN : Hid ((out ++ Y).length = N) := (by show _ = _; rw [← HNE.out, hN])
                    rw [hN] at hz6 ⊢
                    clear hN HNE HOW hH5 hz5 c0 c1 c2 c3 ho6 ho7 hg6 hn6 hslA
                    obtain ⟨base, hbase⟩ : ∃ base, out ++ Y = base := ⟨_, rfl⟩
                    rw [hbase] at hz6 HNN
                    have HGO : Hid ((L.length < fa + m → Z = .error (L.length + 1, 1)) ∧ (fa + m ≤ L.length → rcE a (f - 1) (fa + m) (L.drop (fa + m)) (base ++ (L.drop fa).take m) ah true = Z ∧ L.length - (fa + m) ≤ f - 1)) := (by
                      refine ⟨fun hlo => ?_, fun hle => ?_⟩
                      · have hG : rcG a L out q d fl ah 0 m = .error (L.length + 1, 1) := (by
                          unfold rcG
                          rw [if_neg g1, if_neg h2, if_pos (by omega)])
                        have h := HE3.out
                        rw [hG] at h
                        rcases h with ⟨e, h1, h2⟩ | ⟨o, d', g, q', h1, _⟩
                        · cases h1
                          exact h2
                        · cases h1
                      · have hG : rcG a L out q d fl ah 0 m = .ok (base ++ (L.drop fa).take m, ah, true, fa + m) := (by
                          unfold rcG
                          rw [if_neg g1, if_neg h2, if_neg (by omega), hY, hbase, hfaN, decide_eq_true hbm.2.1]
                          rfl)
                        have h := HE3.out
                        rw [hG] at h
                        rcases h with ⟨e, h1, _⟩ | ⟨o, d', g, q', h1, h2, h3, h4, _⟩
                        · cases h1
                        · cases h1
                          exact ⟨h4, h3⟩)
                    have HBB : Hid (∀ s ∈ base ++ (L.drop fa).take m, s.length ≤ 1099511627776) := (by
                      intro s hs
                      rcases List.mem_append.1 hs with h | h
                      · rw [← hbase] at h
                        rcases List.mem_append.1 h with h | h
                        · exact HBD.out s h
                        · exact HTA.out s (HYM.out s h)
                      · exact HLB.out s (List.mem_of_mem_drop (List.mem_of_mem_take h)))
                    have HBL : Hid (base.length ≤ ah + q) := (by show _ ≤ _; rw [← hbase, List.length_append]; have := HYl.out; omega)
                    have hI0 : Hid (Ri w2 R (.slice lo L.length lc) L base m fa (.slice mo N mc) 0 w6) := ⟨.inl ⟨0, rfl, Nat.zero_le _, by omega, by rw [List.take_zero, List.append_nil]; exact hz6⟩⟩
                    clear hz6 HE3 g1 hY hbase HYM HF1 HF2 HBD
                    go_wp2
                    go_loopw [7, 14] (fun vo i wr => ∃ (o2 : Option Addr) (n2 e2 : Nat) (iz : Int), vo = .slice o2 n2 e2 ∧ i = .int .i64 iz ∧ Hid (Ri w2 R (.slice lo L.length lc) L base m fa (.slice o2 n2 e2) iz wr)) (fun _ i wr => rzI R m i wr)
                    case atStart => exact ⟨_, _, _, 0, rfl, rfl, hI0⟩
                    case round =>
                      clear hI0
                      obtain ⟨o2, n2, e2, iz, rfl, rfl, HI⟩ := hrel
                      rcases HI.out.st with ⟨j, rfl, hjm, hjl, hz7⟩ | ⟨out', p', hz7, hov⟩
                      · clear HI
                        have hmI := rzI_ok (m := m) (j := j) hz7.rx
                        obtain ⟨pn, hpn⟩ : ∃ pn, fa + j = pn := ⟨_, rfl⟩
                        rw [hpn] at hz7
                        obtain ⟨c0, c1, c2, c3⟩ := hz7.rx.cells
                        by_cases hj : j < m
                        · have l1 : (j : Int) < (m : Int) := by omega
                          have f1 := hz7.rx.frozen 1
                          have hrx8 := hz7.rx.at ((pn : Int) + 1)
                          have hz8 := hz7.call (grown_set wr R 1 (.int .i64 ((pn : Int) + 1))) hrx8
                          obtain ⟨w8, hw8⟩ : ∃ w8, wr.setCell ⟨R, 1, none⟩ (.int .i64 ((pn : Int) + 1)) = w8 := ⟨_, rfl⟩
                          have HW8 : Hid (wr.setCell ⟨R, 1, none⟩ (.int .i64 ((pn : Int) + 1)) = w8) := hw8
                          rw [hw8] at hz8
                          clear hrx8 hz7 hw8
                          go_upto_region 15 with fail
                          rw [HW8.out]
                          clear HW8 c0 c1 c2 c3 f1
                          obtain ⟨c0, c1, c2, c3⟩ := hz8.rx.cells
                          by_cases hlo : L.length < pn + 1
                          · have l2 : (L.length : Int) < (pn : Int) + 1 := by omega
                            have hpe : pn = L.length := by omega
                            go_quiet (fail)
                            have hz9 := hz8.dN nq
                            clear hz8
                            generalize w8.drewN nq = w9 at hz9 ⊢
                            go_wp2_with fail
                            refine (rFail_ok 1 w9 hz9.rx).mono ?_
                            rintro e wA ⟨rfl, hrxA, hgA⟩
                            have hzA := hz9.call hgA hrxA
                            rw [show ((pn : Int) + 1) = ((L.length + 1 : Nat) : Int) by omega] at hzA
                            have hmA := rzI_no (m := m) hzA.rx (by decide) (.int .i64 ((j : Int) + 1))
                            have HIA : Hid (Ri w2 R (.slice lo L.length lc) L base m fa (.slice o2 n2 e2) ((j : Int) + 1) wA) := ⟨.inr ⟨_, _, hzA, by omega⟩⟩
                            clear hzA hrxA hgA hz9
                            go_wp2
                            go_roundw
                            case rel => exact ⟨_, _, _, _, rfl, by go_num, HIA⟩
                            case measure => rw [hmI]; first | (rw [hmA]; omega) | (simp only [hmA]; omega)
                          · have l2 : ¬ (L.length : Int) < (pn : Int) + 1 := by omega
                            have hpl : pn < L.length := by omega
                            go_quiet (fail)
                            have hz9 := hz8.dN nq
                            clear hz8
                            generalize w8.drewN nq = w8 at hz9 ⊢
                            have hz8 := hz9
                            clear hz9
                            clear c0 c1 c2 c3
                            have hL8 : HS w8 (.slice lo L.length lc) L := hz8.hs hL2 hneL
                            obtain ⟨bk, off, rfl, hbk, hcl⟩ := HS.at hL8 (by omega)
                            have d4 := hcl pn hpl
                            obtain ⟨sL, hsL⟩ : ∃ sL, L[pn] = sL := ⟨_, rfl⟩
                            rw [hsL] at d4
                            have hbk2 : bk < w2.heap.size := (by
                              obtain ⟨bk', off', he, hb', _⟩ := HS.at hL2 (by omega)
                              cases he
                              exact hb')
                            have hwp : IntKind.i64.wrap ((pn : Int) + 1 - 1) = (pn : Int) := (by rw [Int.add_sub_cancel]; exact rc_wrap (by omega) (by omega))
                            have hn2 : n2 = (base ++ (L.drop fa).take j).length := (by
                              obtain ⟨_, _, h⟩ := rc_form hz8.own
                              simp only [Value.slice.injEq] at h
                              exact h.2.1)
                            have hbj : (base ++ (L.drop fa).take j).length + [sL].length ≤ 4398046511104 := (by
                              have := HBL.out
                              simp only [List.length_append, List.length_take, List.length_drop, List.length_cons, List.length_nil]
                              omega)
                            have HTK : Hid ((base ++ (L.drop fa).take j) ++ [sL] = base ++ (L.drop fa).take (j + 1)) := (by
                              show _ = _
                              rw [List.append_assoc]
                              congr 1
                              rw [List.take_succ_eq_append_getElem (by rw [List.length_drop]; omega), List.getElem_drop]
                              congr 2
                              rw [← hsL]
                              congr 1
                              omega)
                            clear hcl hL8 hsL
                            go_upto_region 17 with fail
                            refine wp_region_noPanic ?_
                            refine wp_region_held_drew (S := fun u => u.cell? ⟨R, 0, none⟩ = some (.slice (some ⟨bk, off, none⟩) L.length lc) ∧ u.cell? ⟨R, 1, none⟩ = some (.int .i64 ((pn : Int) + 1)) ∧ u.cell? ⟨bk, off + pn, none⟩ = some (.string ⟨sL.toArray⟩)) (by kernel_rfl) ⟨hz8.rx.cells.1, hz8.rx.cells.2.1, d4⟩ (fun hSP => ?_)
                            have hz9 := hz8.low (Below.refl _ w8).drew
                            have d5 : w8.drew.cell? ⟨bk, off + pn, none⟩ = some (.string ⟨sL.toArray⟩) := d4
                            generalize w8.drew = w9 at hSP hz9 d5 ⊢
                            clear hz8 d4
                            refine go_take 0 73 _ (.slice o2 n2 e2) rfl (by kernel_rfl) (by kernel_rfl) (by kernel_rfl) (by kernel_rfl) (fun _ _ _ h => h) (Or.inl ⟨by kernel_rfl, fun u hu => by kernel_rfl⟩) hSP ?_
                            simp only [Act.put, List.setIfInBounds_toArray, List.set_cons_zero, List.set_cons_succ]
                            refine go_take 1 74 _ (.pointer (some ⟨R, 0, none⟩)) rfl (by kernel_rfl) (by kernel_rfl) (by kernel_rfl) (by kernel_rfl) (fun _ _ _ h => h) (Or.inl ⟨by kernel_rfl, fun u hu => by kernel_rfl⟩) hSP ?_
                            simp only [Act.put, List.setIfInBounds_toArray, List.set_cons_zero, List.set_cons_succ]
                            refine go_take 2 75 _ (.pointer (some ⟨R, 0, none⟩)) rfl (by kernel_rfl) (by kernel_rfl) (by kernel_rfl) (by kernel_rfl) (fun _ _ _ h => h) (Or.inl ⟨by kernel_rfl, fun u hu => by kernel_rfl⟩) hSP ?_
                            simp only [Act.put, List.setIfInBounds_toArray, List.set_cons_zero, List.set_cons_succ]
                            refine go_take 3 76 _ (.pointer (some ⟨R, 0, none⟩)) rfl (by kernel_rfl) (by kernel_rfl) (by kernel_rfl) (by kernel_rfl) (fun _ _ _ h => h) (Or.inl ⟨by kernel_rfl, fun u hu => by kernel_rfl⟩) hSP ?_
                            simp only [Act.put, List.setIfInBounds_toArray, List.set_cons_zero, List.set_cons_succ]
                            refine go_take 4 77 _ (.slice (some ⟨bk, off, none⟩) L.length lc) rfl (by kernel_rfl) (by kernel_rfl) (by kernel_rfl) (by kernel_rfl) (fun _ _ _ h => h) (Or.inl ⟨by kernel_rfl, fun u hu => rx_ld hu.1 (.tmp 76) (by kernel_rfl) (by kernel_rfl)⟩) hSP ?_
                            simp only [Act.put, List.setIfInBounds_toArray, List.set_cons_zero, List.set_cons_succ]
                            refine go_take 5 78 _ (.pointer (some ⟨R, 0, none⟩)) rfl (by kernel_rfl) (by kernel_rfl) (by kernel_rfl) (by kernel_rfl) (fun _ _ _ h => h) (Or.inl ⟨by kernel_rfl, fun u hu => by kernel_rfl⟩) hSP ?_
                            simp only [Act.put, List.setIfInBounds_toArray, List.set_cons_zero, List.set_cons_succ]
                            refine go_take 6 79 _ (.pointer (some ⟨R, 0, none⟩)) rfl (by kernel_rfl) (by kernel_rfl) (by kernel_rfl) (by kernel_rfl) (fun _ _ _ h => h) (Or.inl ⟨by kernel_rfl, fun u hu => by kernel_rfl⟩) hSP ?_
                            simp only [Act.put, List.setIfInBounds_toArray, List.set_cons_zero, List.set_cons_succ]
                            refine go_take 7 80 _ (.pointer (some ⟨R, 1, none⟩)) rfl (by kernel_rfl) (by kernel_rfl) (by kernel_rfl) (by kernel_rfl) (fun _ _ _ h => h) (Or.inl ⟨by kernel_rfl, fun u hu => by kernel_rfl⟩) hSP ?_
                            simp only [Act.put, List.setIfInBounds_toArray, List.set_cons_zero, List.set_cons_succ]
                            refine go_take 8 81 _ (.int .i64 ((pn : Int) + 1)) rfl (by kernel_rfl) (by kernel_rfl) (by kernel_rfl) (by kernel_rfl) (fun _ _ _ h => h) (Or.inl ⟨by kernel_rfl, fun u hu => load_int hu.2.1 (.tmp 80) (by kernel_rfl) (by kernel_rfl)⟩) hSP ?_
                            simp only [Act.put, List.setIfInBounds_toArray, List.set_cons_zero, List.set_cons_succ]
                            refine go_take 9 82 _ (.int .i64 (pn : Int)) rfl (by kernel_rfl) (by kernel_rfl) (by kernel_rfl) (by kernel_rfl) (fun _ _ _ h => h) (Or.inl ⟨by kernel_rfl, fun u hu => rx_sub hwp (.tmp 81) (.const (.int .i64 1)) (by kernel_rfl) (by kernel_rfl) (by kernel_rfl)⟩) hSP ?_
                            simp only [Act.put, List.setIfInBounds_toArray, List.set_cons_zero, List.set_cons_succ]
                            refine go_take 10 83 _ (.pointer (some ⟨bk, off + pn, none⟩)) rfl (by kernel_rfl) (by kernel_rfl) (by kernel_rfl) (by kernel_rfl) (fun _ _ _ h => h) (Or.inl ⟨by kernel_rfl, fun u hu => rx_ix (c := lc) hpl (.tmp 77) (.tmp 82) (by kernel_rfl) (by kernel_rfl) (by kernel_rfl)⟩) hSP ?_
                            simp only [Act.put, List.setIfInBounds_toArray, List.set_cons_zero, List.set_cons_succ]
                            refine go_take 11 84 _ (.string ⟨sL.toArray⟩) rfl (by kernel_rfl) (by kernel_rfl) (by kernel_rfl) (by kernel_rfl) (fun _ _ _ h => h) (Or.inl ⟨by kernel_rfl, fun u hu => rx_str hu.2.2 (.tmp 83) (by kernel_rfl) (by kernel_rfl)⟩) hSP ?_
                            simp only [Act.put, List.setIfInBounds_toArray, List.set_cons_zero, List.set_cons_succ]
                            have hbA : Below w9.heap.size w9 (w9.alloc (.cells #[.string ⟨sL.toArray⟩] 9)) := (Below.refl _ w9).alloc (Nat.le_refl _) _
                            have hzA := hz9.low hbA
                            have hHA : HS (w9.alloc (.cells #[.string ⟨sL.toArray⟩] 9)) (.slice (some ⟨w9.heap.size, 0, none⟩) 1 1) [sL] := new_holds w9 #[.string ⟨sL.toArray⟩] 9 1 1 (by decide)
                            have dA : (w9.alloc (.cells #[.string ⟨sL.toArray⟩] 9)).cell? ⟨bk, off + pn, none⟩ = some (.string ⟨sL.toArray⟩) := (World.cell?_of_block (w := w9) (hbA.block bk (World.block_lt_of_cell? w9 _ d5))).trans d5
                            refine go_val 12 85 _ rfl (by kernel_rfl) (by kernel_rfl) (by kernel_rfl) (.slice (some ⟨w9.heap.size, 0, none⟩) 1 1) (w9.alloc (.cells #[.string ⟨sL.toArray⟩] 9)) (by kernel_rfl) (⟨hzA.rx.cells.1, hzA.rx.cells.2.1, dA⟩) ?_
                            simp only [Act.put, List.setIfInBounds_toArray, List.set_cons_zero, List.set_cons_succ]
                            generalize w9.alloc (.cells #[.string ⟨sL.toArray⟩] 9) = wA at hzA hHA dA ⊢
                            clear hbA hz9 d5
                            obtain ⟨vB, wB, hrB, hoB, hgB, hnB⟩ := rc_append wA 23 w2.heap.size _ (base ++ (L.drop fa).take j) hzA.own _ [sL] hHA hbj hzA.gr.size
                            have hzB := hzA.grow hgB hoB
                            have dB : wB.cell? ⟨bk, off + pn, none⟩ = some (.string ⟨sL.toArray⟩) := (World.cell?_of_block (w := wA) (hgB.block bk (World.block_lt_of_cell? wA _ dA) (fun e => by have h1 := owns_ge hzA.own e.symm; omega))).trans dA
                            obtain ⟨oB, cB', rfl⟩ := rc_form hoB
                            refine go_val 13 86 _ rfl (by kernel_rfl) (by kernel_rfl) (by kernel_rfl) (.slice oB ((base ++ (L.drop fa).take j) ++ [sL]).length cB') (wB) (rx_app (.tmp 73) (.tmp 85) (by kernel_rfl) (by kernel_rfl) (by kernel_rfl) hrB) (⟨hzB.rx.cells.1, hzB.rx.cells.2.1, dB⟩) ?_
                            simp only [Act.put, List.setIfInBounds_toArray, List.set_cons_zero, List.set_cons_succ]
                            refine go_take 14 7 _ (.slice oB ((base ++ (L.drop fa).take j) ++ [sL]).length cB') rfl (by kernel_rfl) (by kernel_rfl) (by kernel_rfl) (by kernel_rfl) (fun _ _ _ h => h) (Or.inl ⟨by kernel_rfl, fun u hu => by kernel_rfl⟩) ⟨hzB.rx.cells.1, hzB.rx.cells.2.1, dB⟩ ?_
                            simp only [Act.put, List.setIfInBounds_toArray, List.set_cons_zero, List.set_cons_succ]
                            refine wpAnyH_done (by kernel_rfl) ?_ _
                            refine NoPanic.normal ?_
                            have hzC := hzB
                            rw [HTK.out] at hzC ⊢
                            rw [show ((pn : Int) + 1) = ((fa + (j + 1) : Nat) : Int) by omega] at hzC
                            obtain ⟨nB, hnB2⟩ : ∃ nB, (base ++ (L.drop fa).take (j + 1)).length = nB := ⟨_, rfl⟩
                            rw [hnB2] at hzC ⊢
                            have hmA := rzI_ok (m := m) (j := j + 1) hzC.rx
                            have HIA : Hid (Ri w2 R (.slice (some ⟨bk, off, none⟩) L.length lc) L base m fa (.slice oB nB cB') ((j : Int) + 1) wB) := ⟨.inl ⟨j + 1, by omega, by omega, by omega, hzC⟩⟩
                            clear hzB hzC hoB hrB hgB hnB dB hSP dA hzA hHA
                            go_wp2
                            go_roundw
                            case rel => exact ⟨_, _, _, _, rfl, by go_num, HIA⟩
                            case measure => rw [hmI]; first | (rw [show ((j : Int) + 1) = ((j + 1 : Nat) : Int) by omega, hmA]; omega) | (simp only [hmA]; omega)
                        · have hje : j = m := by omega
                          subst hje
                          have l1 : ¬ (j : Int) < (j : Int) := by omega
                          have hg := HGO.out.2 (by omega)
                          rw [hpn] at hg
                          have hn2 : n2 = (base ++ (L.drop fa).take j).length := (by
                            obtain ⟨_, _, h⟩ := rc_form hz7.own
                            simp only [Value.slice.injEq] at h
                            exact h.2.1)
                          have HQ6 : Hid (Rq w2 R (.slice lo L.length lc) L a Z (.slice o2 n2 e2) (ah : Int) (ah : Int) wr) := ⟨.inl ⟨pn, ah, f - 1, base ++ (L.drop fa).take j, true, hz7, rfl, by omega, by omega, (by
                            have := HBL.out
                            simp only [List.length_append, List.length_take, List.length_drop]
                            omega), fun _ => rfl, fun h => (by cases h), hg.2, hg.1, HBB.out⟩⟩
                          have hm6 := rzM_ok (n := L.length) hz7.rx
                          clear hz7 hg
                          go_wp2
                          exact ⟨⟨_, _, _, _, _, rfl, rfl, rfl, HQ6⟩, by rw [hm6, hmeas]; omega⟩
                      · clear HI
                        have hZ := HGO.out.1 hov
                        obtain ⟨c0, c1, c2, c3⟩ := hz7.rx.cells
                        have f2 := hz7.rx.frozen 2
                        have hrx8 : Rx (wr.setCell ⟨R, 2, none⟩ (.int .i64 ((L.length : Int) + 1))) R (.slice lo L.length lc) p' ((L.length + 1 : Nat) : Int) 1 := (by
                          have h := heap_setCell_same wr R 2 _ _ (.int .i64 ((L.length : Int) + 1)) hz7.rx
                          rw [show ((L.length + 1 : Nat) : Int) = (L.length : Int) + 1 by omega]
                          exact h)
                        have hz8 := hz7.call (grown_set wr R 2 (.int .i64 ((L.length : Int) + 1))) hrx8
                        have HQ6 : Hid (Rq w2 R (.slice lo L.length lc) L a Z (.slice o2 n2 e2) (ah : Int) (ah : Int) (wr.setCell ⟨R, 2, none⟩ (.int .i64 ((L.length : Int) + 1)))) := ⟨.inr ⟨_, _, L.length + 1, 1, hz8, by decide, hZ⟩⟩
                        have hm6 := rzM_no (n := L.length) hz8.rx (by decide)
                        clear hz7 hz8 hrx8 hZ
                        by_cases hi : iz < (m : Int)
                        · go_wp2
                          exact ⟨⟨_, _, _, _, _, rfl, rfl, rfl, HQ6⟩, by rw [hm6, hmeas]; omega⟩
                        · go_wp2
                          exact ⟨⟨_, _, _, _, _, rfl, rfl, rfl, HQ6⟩, by rw [hm6, hmeas]; omega⟩
      · have eq : q = L.length := by omega
        subst eq
        have hRR : rcF L.length (out ++ a.drop d) = Z := (by
          have h := hrun
          rw [List.drop_of_length_le (Nat.le_refl _), rcE_nil] at h
          exact h)
        have hon : on = out.length := (by
          obtain ⟨_, _, h⟩ := rc_form hz.own
          simp only [Value.slice.injEq] at h
          exact h.2.1)
        subst hon
        obtain ⟨po, pc, hsl, hsY⟩ := run_cut_end a ao ac (d : Int) (by omega) (by omega) w2 ha2
        rw [cut_all a d hd] at hsl hsY
        have HYl : Hid ((a.drop d).length = a.length - d) := List.length_drop
        have HYB : Hid (∀ s ∈ out ++ a.drop d, s.length ≤ 1099511627776) := (by
          intro s hs
          rcases List.mem_append.1 hs with h | h
          · exact hbd s h
          · exact HTA.out s (List.mem_of_mem_drop h))
        obtain ⟨Y, hY⟩ : ∃ Y, a.drop d = Y := ⟨_, rfl⟩
        rw [hY] at hsl hsY HYl HYB hRR
        have HRR : Hid (rcF L.length (out ++ Y) = Z) := hRR
        have hbY : out.length + Y.length ≤ 2199023255552 := (by have := HYl.out; omega)
        have HSY := hsY
        clear hrun hfu hf1 hf2 hbd hY hRR hsY
        go_wp2_with fail
        refine (rMore_end wr hz.rx (Nat.le_refl _)).mono ?_
        rintro e w3 ⟨rfl, n, rfl⟩
        have hz3 := hz.dN n
        clear hz
        generalize wr.drewN n = w3 at hz3 ⊢
        obtain ⟨c0, c1, c2, c3⟩ := hz3.rx.cells
        have hYw : HS w3 (.slice po Y.length pc) Y := HSY w3 (hz3.hs ha2 hneA)
        have hH3 : Holds w3 (.slice po Y.length pc) Y.length (scells Y) := hYw
        have hbs : w2.heap.size ≤ w3.heap.size := hz3.gr.size
        have HOW : w3.ownsRow w2.heap.size 9 1 (.slice oo out.length oc) out.length (scells out) := hz3.own
        go_wp2_with (at_builtin; refine wpList_ef_append _ (by kernel_rfl) (.tmp 185) (.tmp 188) 23 9 (.string ⟨#[]⟩) 1 16 rfl Tryd.underlying23 infoStr rfl (by decide) (by decide) w2.heap.size _ _ _ rfl HOW _ Y.length (scells Y) rfl hH3 (by simp [scells_length]) (scells_one _) hbY hbs ?_)
        intro v4 w4 ho4 hg4 hn4
        obtain ⟨mo, mc, rfl⟩ := rc_form ho4
        have HNE : Hid (out.length + Y.length = (out ++ Y).length) := (by show _ = _; rw [List.length_append])
        have ho5 : w4.ownsRow w2.heap.size 9 1 (.slice mo (out.length + Y.length) mc) (out ++ Y).length (scells (out ++ Y)) := (by rw [scells_append, ← HNE.out]; exact ho4)
        have hz4 := hz3.grow hg4 ho5
        obtain ⟨N, hN⟩ : ∃ N, out.length + Y.length = N := ⟨_, rfl⟩
        have hNb : N ≤ 1099511627776 := (by rw [← hN]; have := HYl.out; omega)
        have HNN : Hid ((out ++ Y).length = N) := (by show _ = _; rw [← HNE.out, hN])
        rw [hN] at ho4 ho5 hz4 ⊢
        obtain ⟨V, hV⟩ : ∃ V, out ++ Y = V := ⟨_, rfl⟩
        rw [hV] at HRR HYB ho5 hz4 HNN
        clear hN HNE HOW hH3 hYw hz3 c0 c1 c2 c3 ho4 hg4 hn4 hV
        have hH4 : HS w4 (.slice mo N mc) V := holds_of ho5
        have hck := rCheckH_f (.slice mo N mc) V w4 (by rw [HNN.out]; omega) HYB.out hH4
        obtain ⟨ce, hce⟩ : ∃ ce, Ln.checkE V = ce := ⟨_, rfl⟩
        rw [hce] at hck
        have HCE : Hid (Ln.checkE V = ce) := hce
        clear hce
        go_wp2_with fail
        refine hck.mono ?_
        rintro e w5 ⟨rfl, m, rfl⟩
        have hz5 := hz4.dN m
        clear hz4 hck hH4 ho5
        generalize w4.drewN m = w5 at hz5 ⊢
        have hFb : Fbx w5 w.heap.size 0 0 := hz5.cell hF2 (by omega)
        obtain ⟨f0, f1⟩ := hFb.cells
        have g0 := hFb.frozen 0
        have g1 := hFb.frozen 1
        have hlw : Below w.heap.size w w5 := hz5.below hbw2 (by omega)
        obtain ⟨c0, c1, c2, c3⟩ := hz5.rx.cells
        have hrr := HRR.out
        unfold rcF at hrr
        by_cases hc : Ln.checkB V = true
        · rw [if_pos hc] at hrr
          have hce : ce = 0 := (by rw [← HCE.out]; unfold Ln.checkE; rw [if_pos hc])
          subst hce
          subst hrr
          have hP : Fbx ((w5.setCell ⟨w.heap.size, 0, none⟩ (.int .i64 0)).setCell ⟨w.heap.size, 1, none⟩ (.int .i64 0)) w.heap.size 0 0 := hFb.put 0 0
          have HPL : Hid (Below w.heap.size w ((w5.setCell ⟨w.heap.size, 0, none⟩ (.int .i64 0)).setCell ⟨w.heap.size, 1, none⟩ (.int .i64 0))) := (hlw.setCell (Nat.le_refl _) _).setCell (Nat.le_refl _) _
          have HPF : Hid (Fbx ((w5.setCell ⟨w.heap.size, 0, none⟩ (.int .i64 0)).setCell ⟨w.heap.size, 1, none⟩ (.int .i64 0)) w.heap.size 0 0) := hP
          have HOW : Hid (HS ((w5.setCell ⟨w.heap.size, 0, none⟩ (.int .i64 0)).setCell ⟨w.heap.size, 1, none⟩ (.int .i64 0)) (.slice mo N mc) V) := holds_of (rc_okept (rc_okept hz5.own (grown_set w5 w.heap.size 0 _) (by have := hbw2.size; have := hz5.lt; omega)) (grown_set _ w.heap.size 1 _) (by have := hbw2.size; have := hz5.lt; omega))
          clear hz5 hFb hlw hP
          go_wp2
          refine bodyPost_ret (rz_cell rfl _ _ w.heap.size 34 #[.int .i64 0, .int .i64 0] (0, 0) _ rfl HPF.out Tryd.underlying34 rfl (by kernel_rfl)) rfl ?_
          exact ⟨_, rfl, HOW.out, HPL.out⟩
        · rw [if_neg hc] at hrr
          have hce : ce = 6 := (by rw [← HCE.out]; unfold Ln.checkE; rw [if_neg hc])
          subst hce
          subst hrr
          have hw1 : IntKind.i64.wrap ((L.length : Int) + 1) = (L.length : Int) + 1 := rc_wrap (by omega) (by omega)
          have hP : Fbx ((w5.drew.setCell ⟨w.heap.size, 0, none⟩ (.int .i64 ((L.length : Int) + 1))).setCell ⟨w.heap.size, 1, none⟩ (.int .i64 6)) w.heap.size ((L.length : Int) + 1) 6 := Fbx.put (u := w5.drew) hFb _ 6
          have HPL : Hid (Below w.heap.size w ((w5.drew.setCell ⟨w.heap.size, 0, none⟩ (.int .i64 ((L.length : Int) + 1))).setCell ⟨w.heap.size, 1, none⟩ (.int .i64 6))) := (hlw.drew.setCell (Nat.le_refl _) _).setCell (Nat.le_refl _) _
          have HPF : Hid (Fbx ((w5.drew.setCell ⟨w.heap.size, 0, none⟩ (.int .i64 ((L.length : Int) + 1))).setCell ⟨w.heap.size, 1, none⟩ (.int .i64 6)) w.heap.size ((L.length : Int) + 1) 6) := hP
          clear hz5 hFb hlw hP
          go_wp2_with fail
          go_region
          go_wp2
          refine bodyPost_ret (rz_cell rfl _ _ w.heap.size 34 #[.int .i64 ((L.length : Int) + 1), .int .i64 6] (0, 0) _ rfl HPF.out Tryd.underlying34 rfl (by kernel_rfl)) rfl ?_
          exact ⟨rfl, HPL.out⟩
    · clear HQ
      subst hZ
      go_wp2_with fail
      refine (rMore_no wr hz.rx hfe).mono ?_
      rintro e w3 ⟨rfl, n, rfl⟩
      have hz3 := hz.dN n
      clear hz
      have hz := hz3
      clear hz3
      generalize wr.drewN n = w3 at hz ⊢
      obtain ⟨c0, c1, c2, c3⟩ := hz.rx.cells
      have hFb : Fbx w3 w.heap.size 0 0 := hz.cell hF2 (by omega)
      have feb : (fe != 0) = true := bne_iff_ne.2 hfe
      obtain ⟨f0, f1⟩ := hFb.cells
      have g0 := hFb.frozen 0
      have g1 := hFb.frozen 1
      have hlw : Below w.heap.size w w3 := hz.below hbw2 (by omega)
      have hP : Fbx ((w3.drew.setCell ⟨w.heap.size, 0, none⟩ (.int .i64 (fa : Int))).setCell ⟨w.heap.size, 1, none⟩ (.int .i64 fe)) w.heap.size (fa : Int) fe := Fbx.put (u := w3.drew) hFb (fa : Int) fe
      have HPL : Hid (Below w.heap.size w ((w3.drew.setCell ⟨w.heap.size, 0, none⟩ (.int .i64 (fa : Int))).setCell ⟨w.heap.size, 1, none⟩ (.int .i64 fe))) := (hlw.drew.setCell (Nat.le_refl _) _).setCell (Nat.le_refl _) _
      have HPF : Hid (Fbx ((w3.drew.setCell ⟨w.heap.size, 0, none⟩ (.int .i64 (fa : Int))).setCell ⟨w.heap.size, 1, none⟩ (.int .i64 fe)) w.heap.size (fa : Int) fe) := hP
      clear hz hFb hlw hP
      go_wp2_with fail
      go_region
      go_wp2
      refine bodyPost_ret (rz_cell rfl _ _ w.heap.size 34 #[.int .i64 (fa : Int), .int .i64 fe] (0, 0) _ rfl HPF.out Tryd.underlying34 rfl (by kernel_rfl)) rfl ?_
      exact ⟨rfl, HPL.out⟩
end Go.Proofs.YtkmgblnofapccaaDoor

/- errors.As at two concrete targets, walked over Go's own text: an error that is a fault's pointer, an error that is a number. The model's entries for internal/reflectlite at this program: closed facts, and three small laws on those that read or write memory. -/
namespace Go.Proofs.YtkmgblnofapccaaDoor.Es
open Go.RowKit Go.Extern.Stop Go.Stop Go.Extern

theorem mKind (h : Value) (w : World) : (Go.method 271 110 (.agg #[h]) "Kind").run Tryd.prog w = .ok (95, h) w := by kernel_rfl
theorem mElem (h : Value) (w : World) : (Go.method 271 110 (.agg #[h]) "Elem").run Tryd.prog w = .ok (108, .agg #[h]) w := by kernel_rfl
theorem mImplements (h : Value) (w : World) : (Go.method 271 110 (.agg #[h]) "Implements").run Tryd.prog w = .ok (109, .agg #[h]) w := by kernel_rfl
theorem mAssignableTo (h : Value) (w : World) : (Go.method 271 110 (.agg #[h]) "AssignableTo").run Tryd.prog w = .ok (106, .agg #[h]) w := by kernel_rfl

theorem Ef.valueOfP (t : Addr) (w : World) : (ReflectliteValue.unpack (.iface 70 (.pointer (some t)))).run Tryd.prog w
    = .ok (.agg #[.pointer (some ⟨5, 70, none⟩), .pointer (some ⟨w.heap.size, 0, none⟩), .int .u64 150]) (w.alloc (.cells #[.pointer (some t)] 70)) := by kernel_rfl
theorem Ef.typeP (a : Addr) (w : World) : (ReflectliteValue.methodAny (ReflectliteValue.valueError "reflectlite.Value.Type" 0) (fun t _ _ _ => ReflectliteType.toType t) #[.agg #[.pointer (some ⟨5, 70, none⟩), .pointer (some a), .int .u64 150]]).run Tryd.prog w
    = .ok (.iface 110 (.agg #[.pointer (some ⟨5, 70, none⟩)])) w := by kernel_rfl
theorem Ef.kindP (w : World) : ((ReflectliteType.abiMethod fun t => Functor.map (fun a : Nat => Value.int IntKind.u8 (a : Int)) (Rtype.kind t)) #[.pointer (some ⟨5, 70, none⟩)]).run Tryd.prog w = .ok (.int .u8 22) w := by kernel_rfl
theorem Ef.kindE (w : World) : ((ReflectliteType.abiMethod fun t => Functor.map (fun a : Nat => Value.int IntKind.u8 (a : Int)) (Rtype.kind t)) #[.pointer (some ⟨5, 55, none⟩)]).run Tryd.prog w = .ok (.int .u8 22) w := by kernel_rfl
theorem Ef.partsP (a : Addr) (w : World) : (ReflectliteValue.parts (.agg #[.pointer (some ⟨5, 70, none⟩), .pointer (some a), .int .u64 150])).run Tryd.prog w = .ok (some (70, a, 150)) w := by kernel_rfl
theorem Ef.isNilP (a p : Addr) (W : World) (ha : W.cell? a = some (.pointer (some p))) :
    (ReflectliteValue.method (ReflectliteValue.valueError "reflectlite.Value.IsNil" 0) ReflectliteValue.isNil #[.agg #[.pointer (some ⟨5, 70, none⟩), .pointer (some a), .int .u64 150]]).run Tryd.prog W = .ok (.bool false) W := by
  show Sem.run Tryd.prog (ReflectliteValue.parts (.agg #[.pointer (some ⟨5, 70, none⟩), .pointer (some a), .int .u64 150]) >>= _) W = _
  simp only [Sem.run_bind, Ef.partsP, Result.andThen]
  simp [ReflectliteValue.isNil, loadVar, isAgg, underlying, Tryd.underlying70, ha, Result.andThen]
theorem Ef.elemP (w : World) : (ReflectliteType.method ReflectliteType.elem #[.agg #[.pointer (some ⟨5, 70, none⟩)]]).run Tryd.prog w = .ok (.iface 110 (.agg #[.pointer (some ⟨5, 55, none⟩)])) w := by kernel_rfl
theorem Ef.implementsE (w : World) : (ReflectliteType.relation "Implements" ReflectliteType.implements_ #[.agg #[.pointer (some ⟨5, 55, none⟩)], .iface 110 (.agg #[.pointer (some ⟨5, 30, none⟩)])]).run Tryd.prog w = .ok (.bool true) w := by kernel_rfl
theorem Ef.typeOfE (v : Value) (w : World) : (ReflectliteType.typeOf #[.iface 55 v]).run Tryd.prog w = .ok (.iface 110 (.agg #[.pointer (some ⟨5, 55, none⟩)])) w := by kernel_rfl
theorem Ef.assignableE (w : World) : (ReflectliteType.relation "AssignableTo" ReflectliteType.assignableTo #[.agg #[.pointer (some ⟨5, 55, none⟩)], .iface 110 (.agg #[.pointer (some ⟨5, 55, none⟩)])]).run Tryd.prog w = .ok (.bool true) w := by kernel_rfl
theorem Ef.valueOfE (e : Addr) (w : World) : (ReflectliteValue.unpack (.iface 55 (.pointer (some e)))).run Tryd.prog w
    = .ok (.agg #[.pointer (some ⟨5, 55, none⟩), .pointer (some ⟨w.heap.size, 0, none⟩), .int .u64 150]) (w.alloc (.cells #[.pointer (some e)] 55)) := by kernel_rfl
theorem Ef.elemOfP (w : World) : (Rtype.elem? 70).run Tryd.prog w = .ok (some 55) w := by kernel_rfl
theorem Ef.mkE (p : Addr) (w : World) : (ReflectliteValue.mk 55 p ReflectliteValue.flagAddr).run Tryd.prog w = .ok (.agg #[.pointer (some ⟨5, 55, none⟩), .pointer (some p), .int .u64 406]) w := by kernel_rfl
theorem Ef.elemVP (a p : Addr) (W : World) (ha : W.cell? a = some (.pointer (some p))) :
    (ReflectliteValue.method (ReflectliteValue.valueError "reflectlite.Value.Elem" 0) ReflectliteValue.elem #[.agg #[.pointer (some ⟨5, 70, none⟩), .pointer (some a), .int .u64 150]]).run Tryd.prog W
      = .ok (.agg #[.pointer (some ⟨5, 55, none⟩), .pointer (some p), .int .u64 406]) W := by
  show Sem.run Tryd.prog (ReflectliteValue.parts (.agg #[.pointer (some ⟨5, 70, none⟩), .pointer (some a), .int .u64 150]) >>= _) W = _
  simp only [Sem.run_bind, Ef.partsP, Result.andThen]
  simp [ReflectliteValue.elem, loadVar, isAgg, underlying, Tryd.underlying70, ha, Result.andThen, Ef.elemOfP, Ef.mkE]
theorem Ef.partsEa (a : Addr) (w : World) : (ReflectliteValue.parts (.agg #[.pointer (some ⟨5, 55, none⟩), .pointer (some a), .int .u64 406])).run Tryd.prog w = .ok (some (55, a, 406)) w := by kernel_rfl
theorem Ef.partsE (a : Addr) (w : World) : (ReflectliteValue.parts (.agg #[.pointer (some ⟨5, 55, none⟩), .pointer (some a), .int .u64 150])).run Tryd.prog w = .ok (some (55, a, 150)) w := by kernel_rfl
theorem Ef.directE (w : World) : (Rtype.directlyAssignable 55 55).run Tryd.prog w = .ok true w := by kernel_rfl
theorem Ef.setE (ta b : Addr) (e : Addr) (old : Value) (W : World) (hb : W.cell? b = some (.pointer (some e))) (ht : W.cell? ta = some old) (hf : W.frozen? ta = false) :
    (ReflectliteValue.set #[.agg #[.pointer (some ⟨5, 55, none⟩), .pointer (some ta), .int .u64 406], .agg #[.pointer (some ⟨5, 55, none⟩), .pointer (some b), .int .u64 150]]).run Tryd.prog W
      = .ok (.tuple #[]) (W.setCell ta (.pointer (some e))) := by
  show Sem.run Tryd.prog (ReflectliteValue.parts (.agg #[.pointer (some ⟨5, 55, none⟩), .pointer (some ta), .int .u64 406]) >>= fun p => ReflectliteValue.parts (.agg #[.pointer (some ⟨5, 55, none⟩), .pointer (some b), .int .u64 150]) >>= fun q => _) W = _
  simp only [Sem.run_bind, Ef.partsEa, Ef.partsE, Result.andThen]
  simp [ReflectliteValue.flagAddr, loadVar, isAgg, underlying, Tryd.underlying55, hb, Result.andThen, Ef.directE, storeVar, Value.cells, storeCells, Addr.add]
  rw [run_store Tryd.prog W ta _ _ (by rfl)]
  simp [ht, hf]
set_option maxHeartbeats 4000000 in
theorem Ef.as_hit (e : Addr) (t : Addr) (old : Value) (w : World) (hg : w.cell? ⟨0, 0, none⟩ = some (.iface 110 (.agg #[.pointer (some ⟨5, 30, none⟩)]))) (ht0 : w.cell? t = some old) (hf0 : w.frozen? t = false) :
    Calls Tryd.prog 30 #[.iface 55 (.pointer (some e)), .iface 70 (.pointer (some t))] w fun ev w' => ev = .returned (.bool true) ∧ w' = ((((w.alloc (.cells #[.pointer (some t)] 70)).alloc (.cells #[.pointer (some ⟨5, 70, none⟩), .pointer (some ⟨w.heap.size, 0, none⟩), .int .u64 150] 94)).alloc (.cells #[.pointer (some ⟨5, 70, none⟩), .pointer (some ⟨w.heap.size, 0, none⟩), .int .u64 150] 94)).alloc (.cells #[.pointer (some e)] 55)).setCell t (.pointer (some e)) := by
  have h6 := @run_callFunc_extern Tryd.prog 44 _ (fun args => ReflectliteValue.unpack (args.getD 0 (.tuple #[]))) Tryd.func44 (by kernel_rfl) (by kernel_rfl) (by kernel_rfl) (by kernel_rfl)
  have h7 := @run_callFunc_extern Tryd.prog 45 _ (ReflectliteValue.methodAny (ReflectliteValue.valueError "reflectlite.Value.Type" 0) (fun t _ _ _ => ReflectliteType.toType t)) Tryd.func45 (by kernel_rfl) (by kernel_rfl) (by kernel_rfl) (by kernel_rfl)
  have h8 := @run_callFunc_extern Tryd.prog 46 _ (ReflectliteValue.method (ReflectliteValue.valueError "reflectlite.Value.IsNil" 0) ReflectliteValue.isNil) Tryd.func46 (by kernel_rfl) (by kernel_rfl) (by kernel_rfl) (by kernel_rfl)
  have h27 := @run_callFunc_extern Tryd.prog 95 _ (ReflectliteType.abiMethod fun t => do pure (.int .u8 (← Rtype.kind t))) Tryd.func95 (by kernel_rfl) (by kernel_rfl) (by kernel_rfl) (by kernel_rfl)
  have h37 := @run_callFunc_extern Tryd.prog 108 _ (ReflectliteType.method ReflectliteType.elem) Tryd.func108 (by kernel_rfl) (by kernel_rfl) (by kernel_rfl) (by kernel_rfl)
  have h38 := @run_callFunc_extern Tryd.prog 109 _ (ReflectliteType.relation "Implements" ReflectliteType.implements_) Tryd.func109 (by kernel_rfl) (by kernel_rfl) (by kernel_rfl) (by kernel_rfl)
  have h10 := @run_callFunc_extern Tryd.prog 55 _ ReflectliteType.typeOf Tryd.func55 (by kernel_rfl) (by kernel_rfl) (by kernel_rfl) (by kernel_rfl)
  have h35 := @run_callFunc_extern Tryd.prog 106 _ (ReflectliteType.relation "AssignableTo" ReflectliteType.assignableTo) Tryd.func106 (by kernel_rfl) (by kernel_rfl) (by kernel_rfl) (by kernel_rfl)
  have h11 := @run_callFunc_extern Tryd.prog 56 _ (ReflectliteValue.method (ReflectliteValue.valueError "reflectlite.Value.Elem" 0) ReflectliteValue.elem) Tryd.func56 (by kernel_rfl) (by kernel_rfl) (by kernel_rfl) (by kernel_rfl)
  have h12 := @run_callFunc_extern Tryd.prog 57 _ ReflectliteValue.set Tryd.func57 (by kernel_rfl) (by kernel_rfl) (by kernel_rfl) (by kernel_rfl)
  have tO := Ef.typeOfE
  have mA := mAssignableTo
  have a25 := Ef.assignableE
  have v25 := Ef.valueOfE
  have f6 := Ef.valueOfP
  have f7 := Ef.typeP
  have mK := mKind
  have mE := mElem
  have mI := mImplements
  have k27 := Ef.kindP
  have k25 := Ef.kindE
  have e27 := Ef.elemP
  have i25 := Ef.implementsE
  have n8 := Ef.isNilP ⟨w.heap.size, 0, none⟩ t ((w.alloc (.cells #[.pointer (some t)] 70)).alloc (.cells #[.pointer (some ⟨5, 70, none⟩), .pointer (some ⟨w.heap.size, 0, none⟩), .int .u64 150] 94)) (by simp)
  have hlt : 0 < w.heap.size := by
    rcases Nat.lt_or_ge 0 w.heap.size with h | h
    · exact h
    · simp [World.cell?, Array.getElem?_eq_none h] at hg
  have hg2 : ((w.alloc (.cells #[.pointer (some t)] 70)).alloc (.cells #[.pointer (some ⟨5, 70, none⟩), .pointer (some ⟨w.heap.size, 0, none⟩), .int .u64 150] 94)).cell? ⟨0, 0, none⟩ = some (.iface 110 (.agg #[.pointer (some ⟨5, 30, none⟩)])) := by
    rw [World.cell?_alloc_lt _ _ ⟨0, 0, none⟩ (by simp <;> omega), World.cell?_alloc_lt _ _ ⟨0, 0, none⟩ hlt]; exact hg
  have htl : t.block < w.heap.size := by
    rcases Nat.lt_or_ge t.block w.heap.size with h | h
    · exact h
    · simp [World.cell?, Array.getElem?_eq_none h] at ht0
  have el := Ef.elemVP ⟨w.heap.size, 0, none⟩ t (((w.alloc (.cells #[.pointer (some t)] 70)).alloc (.cells #[.pointer (some ⟨5, 70, none⟩), .pointer (some ⟨w.heap.size, 0, none⟩), .int .u64 150] 94)).alloc (.cells #[.pointer (some ⟨5, 70, none⟩), .pointer (some ⟨w.heap.size, 0, none⟩), .int .u64 150] 94)) (by rw [World.cell?_alloc_lt _ _ ⟨w.heap.size, 0, none⟩ (by simp; omega)]; simp)
  have st := Ef.setE t ⟨w.heap.size + 1 + 1 + 1, 0, none⟩ e old ((((w.alloc (.cells #[.pointer (some t)] 70)).alloc (.cells #[.pointer (some ⟨5, 70, none⟩), .pointer (some ⟨w.heap.size, 0, none⟩), .int .u64 150] 94)).alloc (.cells #[.pointer (some ⟨5, 70, none⟩), .pointer (some ⟨w.heap.size, 0, none⟩), .int .u64 150] 94)).alloc (.cells #[.pointer (some e)] 55))
    (by rw [World.cell?_alloc_at _ _ _ _ (by simp)]; rfl)
    (by rw [World.cell?_alloc_lt _ _ t (by simp; omega), World.cell?_alloc_lt _ _ t (by simp; omega), World.cell?_alloc_lt _ _ t (by simp; omega), World.cell?_alloc_lt _ _ t htl]; exact ht0)
    (by rw [World.frozen?_alloc_old _ _ t (by simp; omega), World.frozen?_alloc_old _ _ t (by simp; omega), World.frozen?_alloc_old _ _ t (by simp; omega), World.frozen?_alloc_old _ _ t (Nat.ne_of_lt htl)]; exact hf0)
  go_enter Tryd.func30, Tryd.ntmps30
  go_wp2
  refine wp_loop_rounds 1 ?_
  rw [rounds_succ]
  go_wp2
  go_ret
  exact ⟨rfl, rfl⟩

theorem En.valueOfP (t : Addr) (w : World) : (ReflectliteValue.unpack (.iface 71 (.pointer (some t)))).run Tryd.prog w
    = .ok (.agg #[.pointer (some ⟨5, 71, none⟩), .pointer (some ⟨w.heap.size, 0, none⟩), .int .u64 150]) (w.alloc (.cells #[.pointer (some t)] 71)) := by kernel_rfl
theorem En.typeP (a : Addr) (w : World) : (ReflectliteValue.methodAny (ReflectliteValue.valueError "reflectlite.Value.Type" 0) (fun t _ _ _ => ReflectliteType.toType t) #[.agg #[.pointer (some ⟨5, 71, none⟩), .pointer (some a), .int .u64 150]]).run Tryd.prog w
    = .ok (.iface 110 (.agg #[.pointer (some ⟨5, 71, none⟩)])) w := by kernel_rfl
theorem En.kindP (w : World) : ((ReflectliteType.abiMethod fun t => Functor.map (fun a : Nat => Value.int IntKind.u8 (a : Int)) (Rtype.kind t)) #[.pointer (some ⟨5, 71, none⟩)]).run Tryd.prog w = .ok (.int .u8 22) w := by kernel_rfl
theorem En.kindE (w : World) : ((ReflectliteType.abiMethod fun t => Functor.map (fun a : Nat => Value.int IntKind.u8 (a : Int)) (Rtype.kind t)) #[.pointer (some ⟨5, 24, none⟩)]).run Tryd.prog w = .ok (.int .u8 2) w := by kernel_rfl
theorem En.partsP (a : Addr) (w : World) : (ReflectliteValue.parts (.agg #[.pointer (some ⟨5, 71, none⟩), .pointer (some a), .int .u64 150])).run Tryd.prog w = .ok (some (71, a, 150)) w := by kernel_rfl
theorem En.isNilP (a p : Addr) (W : World) (ha : W.cell? a = some (.pointer (some p))) :
    (ReflectliteValue.method (ReflectliteValue.valueError "reflectlite.Value.IsNil" 0) ReflectliteValue.isNil #[.agg #[.pointer (some ⟨5, 71, none⟩), .pointer (some a), .int .u64 150]]).run Tryd.prog W = .ok (.bool false) W := by
  show Sem.run Tryd.prog (ReflectliteValue.parts (.agg #[.pointer (some ⟨5, 71, none⟩), .pointer (some a), .int .u64 150]) >>= _) W = _
  simp only [Sem.run_bind, En.partsP, Result.andThen]
  simp [ReflectliteValue.isNil, loadVar, isAgg, underlying, Tryd.underlying71, ha, Result.andThen]
theorem En.elemP (w : World) : (ReflectliteType.method ReflectliteType.elem #[.agg #[.pointer (some ⟨5, 71, none⟩)]]).run Tryd.prog w = .ok (.iface 110 (.agg #[.pointer (some ⟨5, 24, none⟩)])) w := by kernel_rfl
theorem En.implementsE (w : World) : (ReflectliteType.relation "Implements" ReflectliteType.implements_ #[.agg #[.pointer (some ⟨5, 24, none⟩)], .iface 110 (.agg #[.pointer (some ⟨5, 30, none⟩)])]).run Tryd.prog w = .ok (.bool true) w := by kernel_rfl
theorem En.typeOfE (v : Value) (w : World) : (ReflectliteType.typeOf #[.iface 24 v]).run Tryd.prog w = .ok (.iface 110 (.agg #[.pointer (some ⟨5, 24, none⟩)])) w := by kernel_rfl
theorem En.assignableE (w : World) : (ReflectliteType.relation "AssignableTo" ReflectliteType.assignableTo #[.agg #[.pointer (some ⟨5, 24, none⟩)], .iface 110 (.agg #[.pointer (some ⟨5, 24, none⟩)])]).run Tryd.prog w = .ok (.bool true) w := by kernel_rfl
theorem En.valueOfE (z : Int) (w : World) : (ReflectliteValue.unpack (.iface 24 (.int .i64 z))).run Tryd.prog w
    = .ok (.agg #[.pointer (some ⟨5, 24, none⟩), .pointer (some ⟨w.heap.size, 0, none⟩), .int .u64 130]) (w.alloc (.cells #[.int .i64 z] 24)) := by kernel_rfl
theorem En.elemOfP (w : World) : (Rtype.elem? 71).run Tryd.prog w = .ok (some 24) w := by kernel_rfl
theorem En.mkE (p : Addr) (w : World) : (ReflectliteValue.mk 24 p ReflectliteValue.flagAddr).run Tryd.prog w = .ok (.agg #[.pointer (some ⟨5, 24, none⟩), .pointer (some p), .int .u64 386]) w := by kernel_rfl
theorem En.elemVP (a p : Addr) (W : World) (ha : W.cell? a = some (.pointer (some p))) :
    (ReflectliteValue.method (ReflectliteValue.valueError "reflectlite.Value.Elem" 0) ReflectliteValue.elem #[.agg #[.pointer (some ⟨5, 71, none⟩), .pointer (some a), .int .u64 150]]).run Tryd.prog W
      = .ok (.agg #[.pointer (some ⟨5, 24, none⟩), .pointer (some p), .int .u64 386]) W := by
  show Sem.run Tryd.prog (ReflectliteValue.parts (.agg #[.pointer (some ⟨5, 71, none⟩), .pointer (some a), .int .u64 150]) >>= _) W = _
  simp only [Sem.run_bind, En.partsP, Result.andThen]
  simp [ReflectliteValue.elem, loadVar, isAgg, underlying, Tryd.underlying71, ha, Result.andThen, En.elemOfP, En.mkE]
theorem En.partsEa (a : Addr) (w : World) : (ReflectliteValue.parts (.agg #[.pointer (some ⟨5, 24, none⟩), .pointer (some a), .int .u64 386])).run Tryd.prog w = .ok (some (24, a, 386)) w := by kernel_rfl
theorem En.partsE (a : Addr) (w : World) : (ReflectliteValue.parts (.agg #[.pointer (some ⟨5, 24, none⟩), .pointer (some a), .int .u64 130])).run Tryd.prog w = .ok (some (24, a, 130)) w := by kernel_rfl
theorem En.directE (w : World) : (Rtype.directlyAssignable 24 24).run Tryd.prog w = .ok true w := by kernel_rfl
theorem En.setE (ta b : Addr) (z : Int) (old : Value) (W : World) (hb : W.cell? b = some (.int .i64 z)) (ht : W.cell? ta = some old) (hf : W.frozen? ta = false) :
    (ReflectliteValue.set #[.agg #[.pointer (some ⟨5, 24, none⟩), .pointer (some ta), .int .u64 386], .agg #[.pointer (some ⟨5, 24, none⟩), .pointer (some b), .int .u64 130]]).run Tryd.prog W
      = .ok (.tuple #[]) (W.setCell ta (.int .i64 z)) := by
  show Sem.run Tryd.prog (ReflectliteValue.parts (.agg #[.pointer (some ⟨5, 24, none⟩), .pointer (some ta), .int .u64 386]) >>= fun p => ReflectliteValue.parts (.agg #[.pointer (some ⟨5, 24, none⟩), .pointer (some b), .int .u64 130]) >>= fun q => _) W = _
  simp only [Sem.run_bind, En.partsEa, En.partsE, Result.andThen]
  simp [ReflectliteValue.flagAddr, loadVar, isAgg, underlying, Tryd.underlying24, hb, Result.andThen, En.directE, storeVar, Value.cells, storeCells, Addr.add]
  rw [run_store Tryd.prog W ta _ _ (by rfl)]
  simp [ht, hf]
set_option maxHeartbeats 4000000 in
theorem En.as_hit (z : Int) (t : Addr) (old : Value) (w : World) (hg : w.cell? ⟨0, 0, none⟩ = some (.iface 110 (.agg #[.pointer (some ⟨5, 30, none⟩)]))) (ht0 : w.cell? t = some old) (hf0 : w.frozen? t = false) :
    Calls Tryd.prog 30 #[.iface 24 (.int .i64 z), .iface 71 (.pointer (some t))] w fun ev w' => ev = .returned (.bool true) ∧ w' = ((((w.alloc (.cells #[.pointer (some t)] 71)).alloc (.cells #[.pointer (some ⟨5, 71, none⟩), .pointer (some ⟨w.heap.size, 0, none⟩), .int .u64 150] 94)).alloc (.cells #[.pointer (some ⟨5, 71, none⟩), .pointer (some ⟨w.heap.size, 0, none⟩), .int .u64 150] 94)).alloc (.cells #[.int .i64 z] 24)).setCell t (.int .i64 z) := by
  have h6 := @run_callFunc_extern Tryd.prog 44 _ (fun args => ReflectliteValue.unpack (args.getD 0 (.tuple #[]))) Tryd.func44 (by kernel_rfl) (by kernel_rfl) (by kernel_rfl) (by kernel_rfl)
  have h7 := @run_callFunc_extern Tryd.prog 45 _ (ReflectliteValue.methodAny (ReflectliteValue.valueError "reflectlite.Value.Type" 0) (fun t _ _ _ => ReflectliteType.toType t)) Tryd.func45 (by kernel_rfl) (by kernel_rfl) (by kernel_rfl) (by kernel_rfl)
  have h8 := @run_callFunc_extern Tryd.prog 46 _ (ReflectliteValue.method (ReflectliteValue.valueError "reflectlite.Value.IsNil" 0) ReflectliteValue.isNil) Tryd.func46 (by kernel_rfl) (by kernel_rfl) (by kernel_rfl) (by kernel_rfl)
  have h27 := @run_callFunc_extern Tryd.prog 95 _ (ReflectliteType.abiMethod fun t => do pure (.int .u8 (← Rtype.kind t))) Tryd.func95 (by kernel_rfl) (by kernel_rfl) (by kernel_rfl) (by kernel_rfl)
  have h37 := @run_callFunc_extern Tryd.prog 108 _ (ReflectliteType.method ReflectliteType.elem) Tryd.func108 (by kernel_rfl) (by kernel_rfl) (by kernel_rfl) (by kernel_rfl)
  have h38 := @run_callFunc_extern Tryd.prog 109 _ (ReflectliteType.relation "Implements" ReflectliteType.implements_) Tryd.func109 (by kernel_rfl) (by kernel_rfl) (by kernel_rfl) (by kernel_rfl)
  have h10 := @run_callFunc_extern Tryd.prog 55 _ ReflectliteType.typeOf Tryd.func55 (by kernel_rfl) (by kernel_rfl) (by kernel_rfl) (by kernel_rfl)
  have h35 := @run_callFunc_extern Tryd.prog 106 _ (ReflectliteType.relation "AssignableTo" ReflectliteType.assignableTo) Tryd.func106 (by kernel_rfl) (by kernel_rfl) (by kernel_rfl) (by kernel_rfl)
  have h11 := @run_callFunc_extern Tryd.prog 56 _ (ReflectliteValue.method (ReflectliteValue.valueError "reflectlite.Value.Elem" 0) ReflectliteValue.elem) Tryd.func56 (by kernel_rfl) (by kernel_rfl) (by kernel_rfl) (by kernel_rfl)
  have h12 := @run_callFunc_extern Tryd.prog 57 _ ReflectliteValue.set Tryd.func57 (by kernel_rfl) (by kernel_rfl) (by kernel_rfl) (by kernel_rfl)
  have tO := En.typeOfE
  have mA := mAssignableTo
  have a25 := En.assignableE
  have v25 := En.valueOfE
  have f6 := En.valueOfP
  have f7 := En.typeP
  have mK := mKind
  have mE := mElem
  have mI := mImplements
  have k27 := En.kindP
  have k25 := En.kindE
  have e27 := En.elemP
  have i25 := En.implementsE
  have n8 := En.isNilP ⟨w.heap.size, 0, none⟩ t ((w.alloc (.cells #[.pointer (some t)] 71)).alloc (.cells #[.pointer (some ⟨5, 71, none⟩), .pointer (some ⟨w.heap.size, 0, none⟩), .int .u64 150] 94)) (by simp)
  have hlt : 0 < w.heap.size := by
    rcases Nat.lt_or_ge 0 w.heap.size with h | h
    · exact h
    · simp [World.cell?, Array.getElem?_eq_none h] at hg
  have hg2 : ((w.alloc (.cells #[.pointer (some t)] 71)).alloc (.cells #[.pointer (some ⟨5, 71, none⟩), .pointer (some ⟨w.heap.size, 0, none⟩), .int .u64 150] 94)).cell? ⟨0, 0, none⟩ = some (.iface 110 (.agg #[.pointer (some ⟨5, 30, none⟩)])) := by
    rw [World.cell?_alloc_lt _ _ ⟨0, 0, none⟩ (by simp <;> omega), World.cell?_alloc_lt _ _ ⟨0, 0, none⟩ hlt]; exact hg
  have htl : t.block < w.heap.size := by
    rcases Nat.lt_or_ge t.block w.heap.size with h | h
    · exact h
    · simp [World.cell?, Array.getElem?_eq_none h] at ht0
  have el := En.elemVP ⟨w.heap.size, 0, none⟩ t (((w.alloc (.cells #[.pointer (some t)] 71)).alloc (.cells #[.pointer (some ⟨5, 71, none⟩), .pointer (some ⟨w.heap.size, 0, none⟩), .int .u64 150] 94)).alloc (.cells #[.pointer (some ⟨5, 71, none⟩), .pointer (some ⟨w.heap.size, 0, none⟩), .int .u64 150] 94)) (by rw [World.cell?_alloc_lt _ _ ⟨w.heap.size, 0, none⟩ (by simp; omega)]; simp)
  have st := En.setE t ⟨w.heap.size + 1 + 1 + 1, 0, none⟩ z old ((((w.alloc (.cells #[.pointer (some t)] 71)).alloc (.cells #[.pointer (some ⟨5, 71, none⟩), .pointer (some ⟨w.heap.size, 0, none⟩), .int .u64 150] 94)).alloc (.cells #[.pointer (some ⟨5, 71, none⟩), .pointer (some ⟨w.heap.size, 0, none⟩), .int .u64 150] 94)).alloc (.cells #[.int .i64 z] 24))
    (by rw [World.cell?_alloc_at _ _ _ _ (by simp)]; rfl)
    (by rw [World.cell?_alloc_lt _ _ t (by simp; omega), World.cell?_alloc_lt _ _ t (by simp; omega), World.cell?_alloc_lt _ _ t (by simp; omega), World.cell?_alloc_lt _ _ t htl]; exact ht0)
    (by rw [World.frozen?_alloc_old _ _ t (by simp; omega), World.frozen?_alloc_old _ _ t (by simp; omega), World.frozen?_alloc_old _ _ t (by simp; omega), World.frozen?_alloc_old _ _ t (Nat.ne_of_lt htl)]; exact hf0)
  go_enter Tryd.func30, Tryd.ntmps30
  go_wp2
  refine wp_loop_rounds 1 ?_
  rw [rounds_succ]
  go_wp2
  go_ret
  exact ⟨rfl, rfl⟩
end Go.Proofs.YtkmgblnofapccaaDoor.Es

/- The law's Seen, walked: which fault an error is. -/
namespace Go.Proofs.YtkmgblnofapccaaDoor
open Go.RowKit

/-- what errors.errorType holds -/
def ErrT (w : World) : Prop := w.cell? ⟨0, 0, none⟩ = some (.iface 110 (.agg #[.pointer (some ⟨5, 30, none⟩)]))
theorem ErrT.lt {w : World} (h : ErrT w) : 0 < w.heap.size := World.block_lt_of_cell? w _ h
theorem ErrT.low {w u : World} {N : Nat} (h : ErrT w) (hb : Below N w u) (hN : w.heap.size ≤ N) : ErrT u := (World.cell?_of_block (w := w) (hb.block _ (Nat.lt_of_lt_of_le h.lt hN))).trans h
theorem grown_alc {w u : World} {r : Option Nat} (h : w.grownBy u r) (o : Obj) : w.grownBy (u.alloc o) r := grown_two h (World.grownBy_alloc u o r)
theorem as_fault (g b : Nat) (old : Value) (w : World) (hE : ErrT w) (hb : w.heap[b]? = some (.cells #[old] 55)) :
    Calls Tryd.prog 30 #[.iface 55 (.pointer (some ⟨g, 0, none⟩)), .iface 70 (.pointer (some ⟨b, 0, none⟩))] w fun e w' => e = .returned (.bool true) ∧ w'.heap[b]? = some (.cells #[.pointer (some ⟨g, 0, none⟩)] 55) ∧ w.grownBy w' (some b) := by
  refine (Es.Ef.as_hit ⟨g, 0, none⟩ ⟨b, 0, none⟩ old w hE (by rw [Lib.cell_of_heap hb]; rfl) (Lib.frozen_of_heap hb 0)).mono ?_
  rintro e w' ⟨rfl, rfl⟩
  have hl := (Array.getElem?_eq_some_iff.1 hb).1
  refine ⟨rfl, ?_, grown_two (grown_alc (grown_alc (grown_alc (World.grownBy_alloc w _ _) _) _) _) (grown_set _ b 0 _)⟩
  refine (heap_setCell_same _ b 0 #[old] _ _ ?_).trans rfl
  rw [Lib.alloc_old _ _ _ (by simp; omega), Lib.alloc_old _ _ _ (by simp; omega), Lib.alloc_old _ _ _ (by simp; omega), Lib.alloc_old _ _ _ hl]
  exact hb
theorem as_errno (z : Int) (b : Nat) (old : Value) (w : World) (hE : ErrT w) (hb : w.heap[b]? = some (.cells #[old] 24)) :
    Calls Tryd.prog 30 #[.iface 24 (.int .i64 z), .iface 71 (.pointer (some ⟨b, 0, none⟩))] w fun e w' => e = .returned (.bool true) ∧ w'.heap[b]? = some (.cells #[.int .i64 z] 24) ∧ w.grownBy w' (some b) := by
  refine (Es.En.as_hit z ⟨b, 0, none⟩ old w hE (by rw [Lib.cell_of_heap hb]; rfl) (Lib.frozen_of_heap hb 0)).mono ?_
  rintro e w' ⟨rfl, rfl⟩
  have hl := (Array.getElem?_eq_some_iff.1 hb).1
  refine ⟨rfl, ?_, grown_two (grown_alc (grown_alc (grown_alc (World.grownBy_alloc w _ _) _) _) _) (grown_set _ b 0 _)⟩
  refine (heap_setCell_same _ b 0 #[old] _ _ ?_).trans rfl
  rw [Lib.alloc_old _ _ _ (by simp; omega), Lib.alloc_old _ _ _ (by simp; omega), Lib.alloc_old _ _ _ (by simp; omega), Lib.alloc_old _ _ _ hl]
  exact hb
/-- a place and an error, in a box -/
def fvO (a z : Int) : Obj := .cells #[.int .i64 a, .int .i64 z] 34
set_option maxHeartbeats 2000000 in
theorem seen_nil (w : World) : Calls Tryd.prog 11 #[.nilIface] w fun e w' => e = .returned (.agg #[.int .i64 0, .int .i64 0]) ∧ Below w.heap.size w w' := by
  have hb : Below w.heap.size w (w.alloc (fvO 0 0)) := (Below.refl _ w).alloc (Nat.le_refl _) _
  have ha := heap_alloc_new w (fvO 0 0)
  unfold fvO at hb ha
  go_enter Tryd.func11, Tryd.ntmps11
  go_wp2
  exact bodyPost_ret (v := .agg #[.int .i64 0, .int .i64 0]) (results_cell_row rfl _ _ w.heap.size 34 #[.int .i64 0, .int .i64 0] (0, 0) _ rfl (by first | exact ha | (simp [ha]; done)) Tryd.underlying34 rfl (by kernel_rfl)) rfl ⟨rfl, hb⟩
set_option maxHeartbeats 4000000 in
theorem seen_flt (g : Nat) (a z : Int) (w : World) (hE : ErrT w) (hg : w.heap[g]? = some (fltO a z)) : Calls Tryd.prog 11 #[.iface 55 (.pointer (some ⟨g, 0, none⟩))] w fun e w' => e = .returned (.agg #[.int .i64 a, .int .i64 z]) ∧ Below w.heap.size w w' := by
  have hgl := (Array.getElem?_eq_some_iff.1 hg).1
  have z1 : (w.alloc (fvO 0 0)).heap.size = w.heap.size + 1 := by simp
  have z2 : ((w.alloc (fvO 0 0)).alloc (.cells #[.pointer none] 55)).heap.size = w.heap.size + 1 + 1 := by simp
  have a0 := heap_alloc_new w (fvO 0 0)
  have a1 := heap_alloc_new (w.alloc (fvO 0 0)) (.cells #[.pointer none] 55)
  have a2 := heap_alloc_new ((w.alloc (fvO 0 0)).alloc (.cells #[.pointer none] 55)) (.cells #[.int .i64 0] 24)
  rw [z1] at a1
  rw [z2] at a2
  have hb1 : Below w.heap.size w (w.alloc (fvO 0 0)) := (Below.refl _ w).alloc (Nat.le_refl _) _
  have hb2 := hb1.alloc hb1.size (.cells #[.pointer none] 55)
  have hb3 := hb2.alloc hb2.size (.cells #[.int .i64 0] 24)
  have e1 := (Lib.alloc_old _ (.cells #[.int .i64 0] 24) _ (by rw [z2]; omega)).trans a1
  have e0 := (Lib.alloc_old _ (.cells #[.int .i64 0] 24) _ (by rw [z2]; omega)).trans ((Lib.alloc_old _ (.cells #[.pointer none] 55) _ (by rw [z1]; omega)).trans a0)
  have hg3 := (hb3.block g hgl).trans hg
  have hE3 := hE.low hb3 (Nat.le_refl _)
  have hW : ((w.alloc (.cells #[.int .i64 0, .int .i64 0] 34)).alloc (.cells #[.pointer none] 55)).alloc (.cells #[.int .i64 0] 24) = ((w.alloc (fvO 0 0)).alloc (.cells #[.pointer none] 55)).alloc (.cells #[.int .i64 0] 24) := rfl
  have hEl : 0 < w.heap.size := hE.lt
  clear hb1 hb2 a0 a1 z1 z2 hE hg
  go_enter Tryd.func11, Tryd.ntmps11
  go_wp2_with fail
  clear hW
  generalize ((w.alloc (fvO 0 0)).alloc (.cells #[.pointer none] 55)).alloc (.cells #[.int .i64 0] 24) = W at *
  refine (as_fault g (w.heap.size + 1) (.pointer none) W hE3 e1).mono ?_
  rintro e W1 ⟨rfl, e1', hgr⟩
  have kp : ∀ (k : Nat) (x : Obj), k ≠ w.heap.size + 1 → W.heap[k]? = some x → W1.heap[k]? = some x := fun k x hk hx => (hgr.block k (Array.getElem?_eq_some_iff.1 hx).1 (fun e => hk (Option.some.inj e))).trans hx
  have i0 := kp _ _ (by omega) e0
  have i2 := kp _ _ (by omega) a2
  have ig := kp _ _ (by omega) hg3
  have hb4 := hb3.grown hgr hb3.size (fun k e => by cases e; omega)
  have hE4 : ErrT W1 := (World.cell?_of_block (w := W) (hgr.block _ hE3.lt (fun e => by have h1 : 0 = w.heap.size + 1 := Option.some.inj e; omega))).trans hE3
  have c1 : W1.cell? ⟨w.heap.size + 1, 0, none⟩ = some (.pointer (some ⟨g, 0, none⟩)) := by rw [Lib.cell_of_heap e1']; rfl
  have cg1 : W1.cell? ⟨g, 1, none⟩ = some (.iface 24 (.int .i64 z)) := by unfold fltO at ig; rw [Lib.cell_of_heap ig]; rfl
  clear kp e0 e1 a2 hg3 hb3 hE3 hgr
  go_wp2_with fail
  clear c1 cg1
  refine (as_errno z (w.heap.size + 1 + 1) (.int .i64 0) W1 hE4 i2).mono ?_
  rintro e W2 ⟨rfl, i2', hgr⟩
  have kp : ∀ (k : Nat) (x : Obj), k ≠ w.heap.size + 1 + 1 → W1.heap[k]? = some x → W2.heap[k]? = some x := fun k x hk hx => (hgr.block k (Array.getElem?_eq_some_iff.1 hx).1 (fun e => hk (Option.some.inj e))).trans hx
  have j0 := kp _ _ (by omega) i0
  have j1 := kp _ _ (by omega) e1'
  have jg := kp _ _ (by omega) ig
  have hb5 := hb4.grown hgr hb4.size (fun k e => by cases e; omega)
  have s0 := heap_setCell_same W2 w.heap.size 0 _ _ (.int .i64 a) j0
  have s1 := heap_setCell_same _ w.heap.size 1 _ _ (.int .i64 z) s0
  have hb6 : Below w.heap.size w ((W2.setCell ⟨w.heap.size, 0, none⟩ (.int .i64 a)).setCell ⟨w.heap.size, 1, none⟩ (.int .i64 z)) := (hb5.setCell (Nat.le_refl _) _).setCell (Nat.le_refl _) _
  have c1 : W2.cell? ⟨w.heap.size + 1, 0, none⟩ = some (.pointer (some ⟨g, 0, none⟩)) := by rw [Lib.cell_of_heap j1]; rfl
  have c2 : W2.cell? ⟨w.heap.size + 1 + 1, 0, none⟩ = some (.int .i64 z) := by rw [Lib.cell_of_heap i2']; rfl
  have cg0 : W2.cell? ⟨g, 0, none⟩ = some (.int .i64 a) := by unfold fltO at jg; rw [Lib.cell_of_heap jg]; rfl
  have t0 : W2.cell? ⟨w.heap.size, 0, none⟩ = some (.int .i64 0) := by unfold fvO at j0; rw [Lib.cell_of_heap j0]; rfl
  have t1 : W2.cell? ⟨w.heap.size, 1, none⟩ = some (.int .i64 0) := by unfold fvO at j0; rw [Lib.cell_of_heap j0]; rfl
  have t2 := Lib.frozen_of_heap j0 0
  have t3 := Lib.frozen_of_heap j0 1
  clear kp i0 e1' ig hb4 hE4 i2 i2' hgr j0 j1 jg hb5 s0
  go_wp2_with fail
  go_region
  have s2 : ((W2.setCell ⟨w.heap.size, 0, none⟩ (.int .i64 a)).setCell ⟨w.heap.size, 1, none⟩ (.int .i64 z)).drew.heap[w.heap.size]? = some (.cells #[.int .i64 a, .int .i64 z] 34) := s1
  have hb7 := hb6.drew
  clear s1 hb6 c1 c2 cg0 t0 t1 t2 t3
  generalize ((W2.setCell ⟨w.heap.size, 0, none⟩ (.int .i64 a)).setCell ⟨w.heap.size, 1, none⟩ (.int .i64 z)).drew = W3 at *
  go_wp2
  exact bodyPost_ret (v := .agg #[.int .i64 a, .int .i64 z]) (results_cell_row rfl _ _ w.heap.size 34 #[.int .i64 a, .int .i64 z] (0, 0) _ rfl s2 Tryd.underlying34 rfl (by kernel_rfl)) rfl ⟨rfl, hb7⟩
end Go.Proofs.YtkmgblnofapccaaDoor
