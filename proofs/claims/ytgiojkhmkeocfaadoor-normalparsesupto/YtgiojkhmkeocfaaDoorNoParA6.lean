/-
  Texts that belong together, joined: NpJ, NpK, NpL, NpO, NpRs, NpS.
-/
import Derived.Test.YtgiojkhmkeocfaaDoorNoParA4
import Derived.Test.YtgiojkhmkeocfaaDoorNoParA5
import Derived.Test.YtgiojkhmkeocfaaDoorNoParA3
import Derived.Defers
import Derived.Recover
import Derived.Test.YtgiojkhmkeocfaaDoorNoParA2
import Derived.Test.YtgiojkhmkeocfaaDoorNoParA1
import Derived.BigQuiet

/- The code's reader, walked: a hunk. -/
namespace Go.Proofs.YtgiojkhmkeocfaaDoor
open Go.RowKit
attribute [local go_sem] ByteArray.extract_mk no_at

theorem grown_fr {R B : Nat} {w u v : World} (h : w.grownBy u (some R)) (h' : Fr B R u v) (hB : w.heap.size ≤ B) : w.grownBy v (some R) :=
  ⟨h'.os.trans h.os, h'.tape.trans h.tape, h'.output.trans h.output, Nat.le_trans h.size h'.size, fun k h1 h2 => (h'.block k (Nat.lt_of_lt_of_le h1 hB) (fun e => h2 (by rw [e]))).trans (h.block k h1 h2)⟩
theorem Hx.fr {u u' : World} {b B R : Nat} {h : Hk} {v : Value} (q : Hx u b h v) (hf : Fr B R u u') (hb : b < B) (hR : b ≠ R) : Hx u' b h v := (hf.block b hb hR).trans q
theorem Hx.put4 {u : World} {b : Nat} {h : Hk} {v : Value} (q : Hx u b h v) (l : List Mk) (z : Value) : Hx (u.setCell ⟨b, 4, none⟩ z) b ⟨h.A, h.AN, h.B, h.BN, l⟩ z := heap_setCell_same u b 4 _ _ z q
theorem five_own {w : World} {B : Nat} {v : Value} {n : Nat} {xs : List Value} (h : w.ownsRow B 91 2 v n xs) {b : Nat} (hne : v.ownBlock ≠ some b) (A AN C CN : Int) (z : Value) : (((((w.setCell ⟨b, 0, none⟩ (.int .i64 A)).setCell ⟨b, 1, none⟩ (.int .i64 AN)).setCell ⟨b, 2, none⟩ (.int .i64 C)).setCell ⟨b, 3, none⟩ (.int .i64 CN)).setCell ⟨b, 4, none⟩ z).ownsRow B 91 2 v n xs :=
  ((((h.kept (grown_set _ b 0 _) (.inr hne)).kept (grown_set _ b 1 _) (.inr hne)).kept (grown_set _ b 2 _) (.inr hne)).kept (grown_set _ b 3 _) (.inr hne)).kept (grown_set _ b 4 _) (.inr hne)
theorem five_ry {w : World} {R : Nat} {vL : Value} {p : Int} (h : Ry w R vL p) {b : Nat} (hne : R ≠ b) (A AN C CN : Int) (z : Value) : Ry (((((w.setCell ⟨b, 0, none⟩ (.int .i64 A)).setCell ⟨b, 1, none⟩ (.int .i64 AN)).setCell ⟨b, 2, none⟩ (.int .i64 C)).setCell ⟨b, 3, none⟩ (.int .i64 CN)).setCell ⟨b, 4, none⟩ z) R vL p :=
  have hn : ∀ _ : Nat, (some R : Option Nat) ≠ some b := fun _ e => hne (Option.some.inj e)
  ((((h.keep (grown_set _ b 0 _) (hn 0)).keep (grown_set _ b 1 _) (hn 0)).keep (grown_set _ b 2 _) (hn 0)).keep (grown_set _ b 3 _) (hn 0)).keep (grown_set _ b 4 _) (hn 0)
def hkEnd (A AN B BN : Int) (l1 : List Mk) (X2 : Except (Nat × Int) (List Mk × Nat × List (List UInt8))) : Except (Nat × Int) (Hk × Nat × List (List UInt8)) :=
  match X2 with
  | .error e => .error e
  | .ok (l2, p3, r3) => .ok (⟨A, AN, B, BN, l1 ++ l2⟩, p3, r3)
/-- what a hunk leaves behind -/
def HkQ (R : Nat) (vL : Value) (X : Except (Nat × Int) (Hk × Nat × List (List UInt8))) (w : World) (x : Ending) (w' : World) : Prop :=
  match X with
  | .error (a, e) => Thr (a : Int) e x w' ∧ w.grownBy w' (some R)
  | .ok (h, p1, _) => ∃ v', x = .returned (hkV h v') ∧ w'.ownsRow w.heap.size 91 2 v' h.ls.length (mkcells h.ls) ∧ Ry w' R vL (p1 : Int) ∧ w.grownBy w' (some R)
set_option maxHeartbeats 8000000 in
set_option maxRecDepth 4000 in
theorem nhunk_f {R : Nat} {L : List (List UInt8)} {lo : Option Addr} {lc : Nat} {p : Nat} (w : World) (q : Ry w R (.slice lo L.length lc) p) (HL : Hid (∀ u, w.grownBy u (some R) → HS u (.slice lo L.length lc) L)) (HPl : Hid (Plain L)) (hp : p ≤ L.length) (hLl : L.length ≤ 1048576) (HSl : Hid (∀ s ∈ L, s.length ≤ 1048576))
    (k : Nat) (hk : k ≤ 4096) (X : Except (Nat × Int) (Hk × Nat × List (List UInt8))) (HX : Hid (hkK k p (L.drop p) = X)) :
    Calls Tryd.prog 78 #[.pointer (some ⟨R, 0, none⟩), .int .i64 (k : Int)] w fun x w' => HkQ R (.slice lo L.length lc) X w x w' := by
  have hRw := q.lt
  have HSl2 : Hid (∀ s ∈ L, s.length ≤ 1099511627776) := fun s hs => by have := HSl.out s hs; omega
  have hr0 := Hx.new w ⟨0, 0, 0, 0, []⟩ (.slice none 0 0)
  have g0 : w.grownBy (w.alloc (hkO ⟨0, 0, 0, 0, []⟩ (.slice none 0 0))) (some R) := World.grownBy_alloc w _ _
  have q0 : Ry (w.alloc (hkO ⟨0, 0, 0, 0, []⟩ (.slice none 0 0))) R (.slice lo L.length lc) p := q.low ((Below.refl _ w).alloc (Nat.le_refl _) _)
  have HZ0 : Hid ((w.alloc (hkO ⟨0, 0, 0, 0, []⟩ (.slice none 0 0))).heap.size = w.heap.size + 1) := (by show _ = _; simp)
  have hW0 : w.alloc (.cells #[.int .i64 0, .int .i64 0, .int .i64 0, .int .i64 0, .slice none 0 0] 43) = w.alloc (hkO ⟨0, 0, 0, 0, []⟩ (.slice none 0 0)) := rfl
  obtain ⟨Z, hZ⟩ : ∃ Z, nxt p (L.drop p) = Z := ⟨_, rfl⟩
  have hX := HX.out
  clear HX q
  unfold hkK at hX
  rw [hZ] at hX
  go_enter Tryd.func78, Tryd.ntmps78
  go_wp2_with fail
  generalize w.alloc (hkO ⟨0, 0, 0, 0, []⟩ (.slice none 0 0)) = W0 at *
  clear hW0
  have hl := nline_f W0 q0 (HL.out W0 g0) hp (by omega) HSl2.out Z hZ
  cases Z with
  | error z =>
    obtain ⟨a, e⟩ := z
    dsimp only at hX
    subst hX
    refine hl.mono ?_
    rintro x w1 ⟨⟨g, rfl, hg⟩, hgr⟩
    have hfin := grown_two g0 hgr
    go_wp2
    exact ⟨rfl, ⟨_, rfl, hg⟩, hfin⟩
  | ok z =>
    obtain ⟨s, r⟩ := z
    dsimp only at hX
    obtain ⟨hr, hpl, _, hLp⟩ := nxt_rest hZ
    subst hr
    have hsl := HSl.out L[p] (List.getElem_mem hpl)
    rw [hLp, List.length_append] at hsl
    obtain ⟨T, hT⟩ : ∃ T, s ++ [10] = T := ⟨_, rfl⟩
    have hTl : T.length ≤ 1048576 := (by rw [← hT, List.length_append]; exact hsl)
    have hTS : Lib.trimSuffix (⟨T.toArray⟩ : ByteArray).data.toList (⟨#[10]⟩ : ByteArray).data.toList = s := (by
      show Lib.trimSuffix T [10] = s
      rw [← hT]
      unfold Lib.trimSuffix
      rw [suf_feed, if_pos (fd_snoc s)]
      simp)
    have htr := fun u => Tryd.strings_TrimSuffix ⟨T.toArray⟩ ⟨#[10]⟩ u (by show T.length ≤ _; omega)
    rw [hTS] at htr
    have hcm := fun u => nchange_f s (by simp only [List.length_cons, List.length_nil] at hsl; omega) u
    clear hTS hZ hLp hsl
    refine hl.mono ?_
    rintro x w1 ⟨hx1, nn, rfl⟩
    rw [hT] at hx1
    subst hx1
    clear hl hT
    have q1 := q0.dN nn
    have hr1 : Hx (W0.drewN nn) w.heap.size ⟨0, 0, 0, 0, []⟩ (.slice none 0 0) := hr0
    have g1 := grown_drewN g0 nn
    have HZ1 : Hid ((W0.drewN nn).heap.size = w.heap.size + 1) := HZ0
    clear q0 hr0 g0 HZ0
    generalize W0.drewN nn = W1 at *
    go_wp2_with fail
    refine (htr W1).mono ?_
    rintro x w2 ⟨rfl, rfl⟩
    go_wp2_with fail
    refine (hcm w2).mono ?_
    rintro x w2b ⟨hCP, hb2⟩
    have q2 := q1.low hb2
    have hr2 := hr1.low hb2
    have g2 := grown_two g1 (low_grown hb2 _)
    have hz2 : w.heap.size + 1 ≤ w2b.heap.size := (by have := HZ1.out; have := hb2.size; omega)
    clear q1 hr1 g1 HZ1 hb2 htr hcm
    unfold CmdP at hCP
    cases hc : cmdP s with
    | none =>
      rw [hc] at hCP hX
      dsimp only at hX
      subst hX
      obtain ⟨A, AN, B, BN, rfl⟩ := hCP
      have g3 := grown_two g2 (World.grownBy_alloc w2b (hkO ⟨A, AN, B, BN, []⟩ (.slice none 0 0)) (some R))
      have q3 : Ry (w2b.alloc (hkO ⟨A, AN, B, BN, []⟩ (.slice none 0 0))) R (.slice lo L.length lc) p := q2.low ((Below.refl _ w2b).alloc (Nat.le_refl _) _)
      unfold hkV
      dsimp only
      go_wp2_with fail
      refine (nthrow_f 3 _ q3 (by omega)).mono ?_
      rintro x w3 ⟨⟨g, rfl, hg⟩, hgr⟩
      have hfin := grown_two g3 hgr
      go_wp2
      exact ⟨rfl, ⟨_, rfl, by simpa using hg⟩, hfin⟩
    | some z =>
      obtain ⟨A, AN, B, BN⟩ := z
      have hcr := cmd_right hc
      rw [hc] at hCP hX
      dsimp only at hCP hX
      subst hCP
      obtain ⟨an, rfl⟩ := Int.eq_ofNat_of_zero_le hcr.1.2.2.1
      obtain ⟨bn, rfl⟩ := Int.eq_ofNat_of_zero_le hcr.2.1.2.2.1
      have han : an ≤ 2147483647 := by omega
      have hbn : bn ≤ 2147483647 := by omega
      clear hcr hc
      have g3 := grown_two g2 (World.grownBy_alloc w2b (hkO ⟨A, (an : Int), B, (bn : Int), []⟩ (.slice none 0 0)) (some R))
      have q3 : Ry (w2b.alloc (hkO ⟨A, (an : Int), B, (bn : Int), []⟩ (.slice none 0 0))) R (.slice lo L.length lc) p := q2.low ((Below.refl _ w2b).alloc (Nat.le_refl _) _)
      have hx3 := Hx.new w2b ⟨A, (an : Int), B, (bn : Int), []⟩ (.slice none 0 0)
      have hr3 : Hx (w2b.alloc (hkO ⟨A, (an : Int), B, (bn : Int), []⟩ (.slice none 0 0))) w.heap.size ⟨0, 0, 0, 0, []⟩ (.slice none 0 0) := hr2.low ((Below.refl _ w2b).alloc (Nat.le_refl _) _)
      have HZ3 : Hid ((w2b.alloc (hkO ⟨A, (an : Int), B, (bn : Int), []⟩ (.slice none 0 0))).heap.size = w2b.heap.size + 1) := (by show _ = _; simp)
      obtain ⟨H, hH⟩ : ∃ H, w2b.heap.size = H := ⟨_, rfl⟩
      rw [hH] at hx3 HZ3
      have HH : Hid (w2b.heap.size = H) := hH
      rw [Int.toNat_natCast, Int.toNat_natCast] at hX
      by_cases hk2 : k = 4096
      · rw [if_pos hk2] at hX
        subst hX hk2
        unfold hkV
        dsimp only
        go_wp2_with fail
        refine (nthrow_f 9 _ q3 (by omega)).mono ?_
        rintro x w3 ⟨⟨g, rfl, hg⟩, hgr⟩
        have hfin := grown_two g3 hgr
        go_wp2
        exact ⟨rfl, ⟨_, rfl, by simpa using hg⟩, hfin⟩
      · rw [if_neg hk2] at hX
        have hkb : ((k : Int) == 4096) = false := beq_eq_false_iff_ne.2 (by omega)
        have hQH : w.heap.size ≠ H := by omega
        obtain ⟨d0, d1⟩ := q3.cells
        have df1 := q3.frozen 1
        have q4 := q3.at ((p : Int) + 1)
        have gs := grown_set (w2b.alloc (hkO ⟨A, (an : Int), B, (bn : Int), []⟩ (.slice none 0 0))) R 1 (.int .i64 ((p : Int) + 1))
        have hHR : H ≠ R := by omega
        have hQR : w.heap.size ≠ R := by omega
        have hx4 := hx3.keep gs (fun e => hHR (Option.some.inj e))
        have hr4 := hr3.keep gs (fun e => hQR (Option.some.inj e))
        have g4 := grown_two g3 gs
        have HZ4 : Hid (H + 1 ≤ ((w2b.alloc (hkO ⟨A, (an : Int), B, (bn : Int), []⟩ (.slice none 0 0))).setCell ⟨R, 1, none⟩ (.int .i64 ((p : Int) + 1))).heap.size) := (by have h1 := HZ3.out; have h2 := gs.size; show _ ≤ _; omega)
        obtain ⟨f0, f1, f2, f3, f4⟩ := hx4.cells
        dsimp only at f0 f1 f2 f3 f4
        have if4' := hx4.frozen 4
        unfold hkV
        dsimp only
        clear hr2 q2 g2 hr3 hx3 g3 gs
        unfold hkO at q4 hx4 hr4 g4 HZ4 f0 f1 f2 f3 f4 if4' d0 d1 df1
        dsimp only at q4 hx4 hr4 g4 HZ4 f0 f1 f2 f3 f4 if4' d0 d1 df1
        go_wp2_with fail
        generalize hw3d : (w2b.alloc (.cells #[.int .i64 A, .int .i64 (an : Int), .int .i64 B, .int .i64 (bn : Int), .slice none 0 0] 43)).setCell ⟨R, 1, none⟩ (.int .i64 ((p : Int) + 1)) = w3 at *
        clear HZ3 hw3d d0 d1 df1 q3
        have hRB : R < w3.heap.size := by have := HZ4.out; omega
        have hHl : H < w3.heap.size := by have := HZ4.out; omega
        have hQl : w.heap.size < w3.heap.size := by have := HZ4.out; omega
        have hw3 : w.heap.size ≤ w3.heap.size := by omega
        have HG1 : Hid (∀ c ∈ ([60, 32] : List UInt8), c ≠ 10) := (by show ∀ c ∈ ([60, 32] : List UInt8), c ≠ 10; decide)
        have HG2 : Hid (∀ c ∈ ([62, 32] : List UInt8), c ≠ 10) := (by show ∀ c ∈ ([62, 32] : List UInt8), c ≠ 10; decide)
        have HL4 : Hid (∀ u, Fr w3.heap.size R w3 u → HS u (.slice lo L.length lc) L) := fun u hu => HL.out u (grown_fr g4 hu hw3)
        have q4' : Ry w3 R (.slice lo L.length lc) ((p + 1 : Nat) : Int) := (by simpa using q4)
        obtain ⟨X1, hX1⟩ : ∃ X1, sdC [60, 32] 45 an (p + 1) (L.drop (p + 1)) = X1 := ⟨_, rfl⟩
        have hs1 := nside_f w3 q4' HL4 HPl (by omega) (by omega) HSl2 (Nat.le_refl _) hRB [60, 32] HG1 45 an (by omega) (.slice none 0 0) [] (by simp) (hnil_row _ _ _ _) X1 hX1
        rw [hX1] at hX
        clear q4 q4' HL4
        refine hs1.mono ?_
        cases X1 with
        | error z =>
          obtain ⟨a, e⟩ := z
          dsimp only at hX
          subst hX
          rintro x w4 ⟨⟨g, rfl, hg⟩, hgr⟩
          have hfin := grown_fr g4 hgr hw3
          go_wp2
          exact ⟨rfl, ⟨_, rfl, hg⟩, hfin⟩
        | ok z =>
          obtain ⟨l1, p1, r1⟩ := z
          obtain ⟨j, hj1, hj2, hj3⟩ := sdC_drop hX1
          rw [List.drop_drop] at hj1
          have hr1e : r1 = L.drop p1 := by rw [hj1, hj2]
          have hp1 : p1 ≤ L.length := (by rw [List.length_drop] at hj3; omega)
          subst hr1e
          have hl1k : l1.length ≤ 1099511627776 := (by
            have := sdC_len hX1
            omega)
          clear hj1 hj2 hj3 hX1 hs1
          dsimp only at hX
          rintro x w4 ⟨v1, rfl, hown4, q5, hF4⟩
          rw [List.nil_append] at hown4
          obtain ⟨o1, c1, rfl⟩ := (holds_of hown4).form
          have hx5 := hx4.fr hF4 hHl hHR
          have hr5 := hr4.fr hF4 hQl hQR
          have g5 := grown_fr g4 hF4 hw3
          have hz5 := hF4.size
          have hne5 : (Value.slice o1 l1.length c1).ownBlock ≠ some H := (by intro e; have := owns_ge hown4 e; omega)
          have gs5 := grown_set w4 H 4 (.slice o1 l1.length c1)
          have hx6 := hx5.put4 l1 (.slice o1 l1.length c1)
          have hr6 := hr5.keep gs5 (fun e => hQH (Option.some.inj e))
          have hown6 := hown4.kept gs5 (.inr hne5)
          have q6 := q5.keep gs5 (fun e => hHR (Option.some.inj e).symm)
          have g6 := grown_new g5 (B := H) (by omega) 4 (.slice o1 l1.length c1)
          have hz6 : w3.heap.size ≤ (w4.setCell ⟨H, 4, none⟩ (.slice o1 l1.length c1)).heap.size := Nat.le_trans hz5 gs5.size
          obtain ⟨f0, f1, f2, f3, f4⟩ := hx5.cells
          dsimp only at f0 f1 f2 f3 f4
          have ff4 := hx5.frozen 4
          clear hx4 hr4 g4 q5 hown4 hF4 gs5 g5 hr5
          dsimp only at hx6
          obtain ⟨k0, k1, k2, k3, k4⟩ := hx6.cells
          dsimp only at k0 k1 k2 k3 k4
          go_wp2_with fail
          generalize w4.setCell ⟨H, 4, none⟩ (.slice o1 l1.length c1) = w5 at *
          clear hx5 f0 f1 f2 f3 f4 ff4
          obtain ⟨dv, hdv⟩ : ∃ dv, (decide (0 < (an : Int)) && decide (0 < (bn : Int))) = dv := ⟨_, rfl⟩
          refine (ndivided_f ⟨A, (an : Int), B, (bn : Int), l1⟩ (.slice o1 l1.length c1) w5 ⟨_, _, _, rfl⟩ dv hdv).mono ?_
          rintro x w6 ⟨rfl, hb6⟩
          have hx7a := hx6.low hb6
          have hr7a := hr6.low hb6
          have hown7a := owns_keep hown6 hb6
          have q7a := q6.low hb6
          have g7a := grown_two g6 (low_grown hb6 _)
          have hz7a : w3.heap.size ≤ w6.heap.size := Nat.le_trans hz6 hb6.size
          clear hx6 hr6 hown6 q6 g6 hb6 k0 k1 k2 k3 k4
          cases dv with
          | false =>
            have hnb : ¬ (0 < (an : Int) ∧ 0 < (bn : Int)) := (by intro h; simp at hdv; omega)
            rw [if_neg hnb] at hX
            dsimp only at hX
            obtain ⟨X2, hX2⟩ : ∃ X2, sdC [62, 32] 43 bn p1 (L.drop p1) = X2 := ⟨_, rfl⟩
            have HX2 : Hid (sdC [62, 32] 43 bn p1 (L.drop p1) = X2) := hX2
            rw [hX2] at hX
            have HXf : Hid (X = hkEnd A (an : Int) B (bn : Int) l1 X2) := (by show _ = _; rw [← hX]; unfold hkEnd; rfl)
            clear hX hX2 hdv hnb
            have hx7 := hx7a
            have hr7 := hr7a
            have hown7 := hown7a
            have q7 := q7a
            have g7 := g7a
            have hw37 := hz7a
            have hp2 := hp1
            clear hx7a hr7a hown7a q7a g7a hz7a hp1
            generalize w6 = w7 at *
            obtain ⟨e0, e1, e2, e3, e4⟩ := hx7.cells
            have hg7s : w.heap.size ≤ w7.heap.size := g7.size
            have HL7 : Hid (∀ u, Fr w3.heap.size R w7 u → HS u (.slice lo L.length lc) L) := fun u hu => HL.out u (grown_fr g7 hu hw3)
            have hs2 := nside_f w7 q7 HL7 HPl hp2 (by omega) HSl2 hw37 hRB [62, 32] HG2 43 bn (by omega) (.slice o1 l1.length c1) l1 hl1k hown7 X2 HX2
            clear HL7
            go_wp2_with fail
            refine hs2.mono ?_
            cases X2 with
            | error z =>
              obtain ⟨a, e⟩ := z
              have hXe : X = .error (a, e) := HXf.out
              subst hXe
              rintro x w8 ⟨⟨g, rfl, hg⟩, hgr⟩
              have hfin := grown_fr g7 hgr hw3
              go_wp2
              exact ⟨rfl, ⟨_, rfl, hg⟩, hfin⟩
            | ok z =>
              obtain ⟨l2, p3, r3⟩ := z
              have hXe : X = .ok (⟨A, (an : Int), B, (bn : Int), l1 ++ l2⟩, p3, r3) := HXf.out
              subst hXe
              rintro x w8 ⟨v2, rfl, hown8, q8, hF8⟩
              obtain ⟨o2, c2, rfl⟩ := (holds_of hown8).form
              have hx8 := hx7.fr hF8 hHl hHR
              have hr8 := hr7.fr hF8 hQl hQR
              have hg8 := grown_fr g7 hF8 hw3
              have hne8 : (Value.slice o2 (l1 ++ l2).length c2).ownBlock ≠ some H := (by intro e; have := owns_ge hown8 e; omega)
              have hne8q : (Value.slice o2 (l1 ++ l2).length c2).ownBlock ≠ some w.heap.size := (by intro e; have := owns_ge hown8 e; omega)
              have hx9 := hx8.put4 (l1 ++ l2) (.slice o2 (l1 ++ l2).length c2)
              have hgs9 := grown_set w8 H 4 (.slice o2 (l1 ++ l2).length c2)
              have hr9 := hr8.keep hgs9 (fun e => hQH (Option.some.inj e))
              have hown9 := hown8.kept hgs9 (.inr hne8)
              have q9 := q8.keep hgs9 (fun e => hHR (Option.some.inj e).symm)
              have hg9 := grown_new hg8 (B := H) (by omega) 4 (.slice o2 (l1 ++ l2).length c2)
              obtain ⟨i0, i1, i2, i3, i4⟩ := hx8.cells
              have if4 := hx8.frozen 4
              have HN2 : Hid ((l1 ++ l2).length = (l1 ++ l2).length) := rfl
              generalize hM : (l1 ++ l2).length = M at *
              obtain ⟨z0, z1, z2, z3, z4⟩ := hx9.cells
              dsimp only at z0 z1 z2 z3 z4 i0 i1 i2 i3 i4
              obtain ⟨y0, y1, y2, y3, y4⟩ := hr9.cells
              have yf0 := hr9.frozen 0
              have yf1 := hr9.frozen 1
              have yf2 := hr9.frozen 2
              have yf3 := hr9.frozen 3
              have yf4 := hr9.frozen 4
              have hP := hr9.putH5 A (an : Int) B (bn : Int) (l1 ++ l2) (.slice o2 M c2)
              have hgP := ((((grown_new hg9 (B := w.heap.size) (Nat.le_refl _) 0 (.int .i64 A)) |> fun h => grown_new h (B := w.heap.size) (Nat.le_refl _) 1 (.int .i64 (an : Int))) |> fun h => grown_new h (B := w.heap.size) (Nat.le_refl _) 2 (.int .i64 B)) |> fun h => grown_new h (B := w.heap.size) (Nat.le_refl _) 3 (.int .i64 (bn : Int))) |> fun h => grown_new h (B := w.heap.size) (Nat.le_refl _) 4 (.slice o2 M c2)
              have hownP := five_own hown9 (b := w.heap.size) hne8q A (an : Int) B (bn : Int) (.slice o2 M c2)
              have qP := five_ry q9 (b := w.heap.size) (by omega) A (an : Int) B (bn : Int) (.slice o2 M c2)
              clear hx9 hx8 hr8 hr9 hown8 hown9 q8 q9 hg8 hg9 hgs9 hF8
              go_wp2
              refine bodyPost_ret (v := hkV ⟨A, (an : Int), B, (bn : Int), l1 ++ l2⟩ (.slice o2 M c2)) (results_cell_row rfl _ _ w.heap.size 43 #[.int .i64 A, .int .i64 (an : Int), .int .i64 B, .int .i64 (bn : Int), .slice o2 M c2] (0, 0) _ rfl hP Tryd.underlying43 rfl (by kernel_rfl)) rfl ⟨_, rfl, ?_, qP, hgP⟩
              dsimp only
              rw [hM]
              exact owns_less hownP (Nat.le_of_lt (by omega))
          | true =>
            have hnb : 0 < (an : Int) ∧ 0 < (bn : Int) := (by simpa using hdv)
            rw [if_pos hnb] at hX
            obtain ⟨Y, hY⟩ : ∃ Y, sepP p1 (L.drop p1) = Y := ⟨_, rfl⟩
            rw [hY] at hX
            have hdvr := ndivider_f w6 q7a (HL.out w6 g7a) hp1 (by omega) HSl2.out Y hY
            clear hdv hnb
            cases Y with
            | error z =>
              obtain ⟨a, e⟩ := z
              dsimp only at hX
              subst hX
              go_wp2_with fail
              refine hdvr.mono ?_
              rintro x w7 ⟨⟨g, rfl, hg⟩, hgr⟩
              have hfin := grown_two g7a hgr
              go_wp2
              exact ⟨rfl, ⟨_, rfl, hg⟩, hfin⟩
            | ok z =>
              obtain ⟨p2, r2⟩ := z
              obtain ⟨hc1, hc2, hc3⟩ := sepP_drop hY
              rw [List.drop_drop] at hc1
              have hr2e : r2 = L.drop p2 := by rw [hc1, hc2]
              have hp2 : p2 ≤ L.length := (by rw [List.length_drop] at hc3; omega)
              subst hr2e
              clear hc1 hc2 hc3 hY
              dsimp only at hX
              obtain ⟨X2, hX2⟩ : ∃ X2, sdC [62, 32] 43 bn p2 (L.drop p2) = X2 := ⟨_, rfl⟩
              have HX2 : Hid (sdC [62, 32] 43 bn p2 (L.drop p2) = X2) := hX2
              rw [hX2] at hX
              have HXf : Hid (X = hkEnd A (an : Int) B (bn : Int) l1 X2) := (by show _ = _; rw [← hX]; unfold hkEnd; rfl)
              clear hX hX2
              go_wp2_with fail
              refine hdvr.mono ?_
              rintro x w7 ⟨rfl, q7, hg7⟩
              have hx7 := hx7a.keep hg7 (fun e => hHR (Option.some.inj e))
              have hr7 := hr7a.keep hg7 (fun e => hQR (Option.some.inj e))
              have hown7 := owns_fr hown7a hg7 hRB
              have g7 := grown_two g7a hg7
              have hw37 : w3.heap.size ≤ w7.heap.size := Nat.le_trans hz7a hg7.size
              clear hx7a hr7a hown7a q7a g7a hz7a hg7 hdvr hp1
              obtain ⟨e0, e1, e2, e3, e4⟩ := hx7.cells
              have hg7s : w.heap.size ≤ w7.heap.size := g7.size
              have HL7 : Hid (∀ u, Fr w3.heap.size R w7 u → HS u (.slice lo L.length lc) L) := fun u hu => HL.out u (grown_fr g7 hu hw3)
              have hs2 := nside_f w7 q7 HL7 HPl hp2 (by omega) HSl2 hw37 hRB [62, 32] HG2 43 bn (by omega) (.slice o1 l1.length c1) l1 hl1k hown7 X2 HX2
              clear HL7
              go_wp2_with fail
              refine hs2.mono ?_
              cases X2 with
              | error z =>
                obtain ⟨a, e⟩ := z
                have hXe : X = .error (a, e) := HXf.out
                subst hXe
                rintro x w8 ⟨⟨g, rfl, hg⟩, hgr⟩
                have hfin := grown_fr g7 hgr hw3
                go_wp2
                exact ⟨rfl, ⟨_, rfl, hg⟩, hfin⟩
              | ok z =>
                obtain ⟨l2, p3, r3⟩ := z
                have hXe : X = .ok (⟨A, (an : Int), B, (bn : Int), l1 ++ l2⟩, p3, r3) := HXf.out
                subst hXe
                rintro x w8 ⟨v2, rfl, hown8, q8, hF8⟩
                obtain ⟨o2, c2, rfl⟩ := (holds_of hown8).form
                have hx8 := hx7.fr hF8 hHl hHR
                have hr8 := hr7.fr hF8 hQl hQR
                have hg8 := grown_fr g7 hF8 hw3
                have hne8 : (Value.slice o2 (l1 ++ l2).length c2).ownBlock ≠ some H := (by intro e; have := owns_ge hown8 e; omega)
                have hne8q : (Value.slice o2 (l1 ++ l2).length c2).ownBlock ≠ some w.heap.size := (by intro e; have := owns_ge hown8 e; omega)
                have hx9 := hx8.put4 (l1 ++ l2) (.slice o2 (l1 ++ l2).length c2)
                have hgs9 := grown_set w8 H 4 (.slice o2 (l1 ++ l2).length c2)
                have hr9 := hr8.keep hgs9 (fun e => hQH (Option.some.inj e))
                have hown9 := hown8.kept hgs9 (.inr hne8)
                have q9 := q8.keep hgs9 (fun e => hHR (Option.some.inj e).symm)
                have hg9 := grown_new hg8 (B := H) (by omega) 4 (.slice o2 (l1 ++ l2).length c2)
                obtain ⟨i0, i1, i2, i3, i4⟩ := hx8.cells
                have if4 := hx8.frozen 4
                have HN2 : Hid ((l1 ++ l2).length = (l1 ++ l2).length) := rfl
                generalize hM : (l1 ++ l2).length = M at *
                obtain ⟨z0, z1, z2, z3, z4⟩ := hx9.cells
                dsimp only at z0 z1 z2 z3 z4 i0 i1 i2 i3 i4
                obtain ⟨y0, y1, y2, y3, y4⟩ := hr9.cells
                have yf0 := hr9.frozen 0
                have yf1 := hr9.frozen 1
                have yf2 := hr9.frozen 2
                have yf3 := hr9.frozen 3
                have yf4 := hr9.frozen 4
                have hP := hr9.putH5 A (an : Int) B (bn : Int) (l1 ++ l2) (.slice o2 M c2)
                have hgP := ((((grown_new hg9 (B := w.heap.size) (Nat.le_refl _) 0 (.int .i64 A)) |> fun h => grown_new h (B := w.heap.size) (Nat.le_refl _) 1 (.int .i64 (an : Int))) |> fun h => grown_new h (B := w.heap.size) (Nat.le_refl _) 2 (.int .i64 B)) |> fun h => grown_new h (B := w.heap.size) (Nat.le_refl _) 3 (.int .i64 (bn : Int))) |> fun h => grown_new h (B := w.heap.size) (Nat.le_refl _) 4 (.slice o2 M c2)
                have hownP := five_own hown9 (b := w.heap.size) hne8q A (an : Int) B (bn : Int) (.slice o2 M c2)
                have qP := five_ry q9 (b := w.heap.size) (by omega) A (an : Int) B (bn : Int) (.slice o2 M c2)
                clear hx9 hx8 hr8 hr9 hown8 hown9 q8 q9 hg8 hg9 hgs9 hF8
                go_wp2
                refine bodyPost_ret (v := hkV ⟨A, (an : Int), B, (bn : Int), l1 ++ l2⟩ (.slice o2 M c2)) (results_cell_row rfl _ _ w.heap.size 43 #[.int .i64 A, .int .i64 (an : Int), .int .i64 B, .int .i64 (bn : Int), .slice o2 M c2] (0, 0) _ rfl hP Tryd.underlying43 rfl (by kernel_rfl)) rfl ⟨_, rfl, ?_, qP, hgP⟩
                dsimp only
                rw [hM]
                exact owns_less hownP (Nat.le_of_lt (by omega))
end Go.Proofs.YtgiojkhmkeocfaaDoor

/- The code's read of layer 12, walked: what is thrown is caught. -/
namespace Go.Proofs.YtgiojkhmkeocfaaDoor
open Go.RowKit

theorem catch_idle (p q : Addr) (w : World) :
    CallsD Tryd.prog 77 #[.pointer (some p), .pointer (some q)] .returning w fun e u' w' => e = .returned (.tuple #[]) ∧ u' = .returning ∧ w' = w := by
  refine callsD_of_wpS Tryd.func77 rfl fun c₀ cs hu => ?_
  apply wpS_seq
  apply wpS_region
  simp [wpOpsS, go_sem, recoverD, hu, Tryd.ntmps77, Exit.thenS]
  apply wpS_seq
  apply wpS_region
  simp [wpOpsS, go_sem, Exit.thenS]
  refine wpS_cond (t := false) (by simp [Act.eval, Array.replicate]) ?_
  simp only [Bool.false_eq_true, if_false]
  refine wpS_of_wp (wp_skip ?_)
  cases c₀
  simp_all [bodyPostS, results, Tryd.results77]
set_option maxHeartbeats 2000000 in
theorem catch_fault (F0 F1 g : Nat) (v0 v1 : Value) (older : List PanicEntry) (w : World) (h01 : F0 ≠ F1) (c0 : w.cell? ⟨F0, 0, none⟩ = some v0) (f0 : w.frozen? ⟨F0, 0, none⟩ = false) (c1 : w.cell? ⟨F1, 0, none⟩ = some v1) (f1 : w.frozen? ⟨F1, 0, none⟩ = false) :
    CallsD Tryd.prog 77 #[.pointer (some ⟨F0, 0, none⟩), .pointer (some ⟨F1, 0, none⟩)] (.panicking ({ v := .iface 74 (.pointer (some ⟨g, 0, none⟩)), recovered := false } :: older)) w fun e u' w' => e = .returned (.tuple #[]) ∧ u' = .panicking ({ v := .iface 74 (.pointer (some ⟨g, 0, none⟩)), recovered := true } :: older) ∧ w' = ((w.setCell ⟨F0, 0, none⟩ (.slice none 0 0)).setCell ⟨F1, 0, none⟩ (.iface 74 (.pointer (some ⟨g, 0, none⟩)))).drew := by
  refine callsD_of_wpS Tryd.func77 rfl fun c₀ cs hu => ?_
  apply wpS_seq
  apply wpS_region
  simp [wpOpsS, go_sem, recoverD, hu, Tryd.ntmps77, Exit.thenS]
  apply wpS_seq
  apply wpS_region
  simp [wpOpsS, go_sem, Exit.thenS]
  refine wpS_cond (t := true) (by simp [Act.eval, Array.replicate]) ?_
  simp only [if_true]
  refine wpS_of_wp ?_
  have hta : ∀ (v : Value) (u : World), (Instr.typeAssert (.iface 74 v) 20 74 false).run Tryd.prog u = .ok v u := fun _ _ => by kernel_rfl
  generalize hA : ({ tmps := _, defers := [] } : Act) = A
  have hA2 : A = { tmps := #[.pointer (some ⟨F0, 0, none⟩), .pointer (some ⟨F1, 0, none⟩), .iface 74 (.pointer (some ⟨g, 0, none⟩)), .iface 74 (.pointer (some ⟨g, 0, none⟩)), .iface 74 (.pointer (some ⟨g, 0, none⟩)), .bool true, undef, undef, undef], defers := [] } := hA.symm.trans rfl
  subst hA2
  clear hA
  go_region
  cases c₀
  simp_all [bodyPostS, results, Tryd.results77]
end Go.Proofs.YtgiojkhmkeocfaaDoor

/- Steps of a region that draws its order where a call may throw, and what is left where a call is recovered. -/
namespace Go.Proofs.YtgiojkhmkeocfaaDoor
open Go.RowKit

/-- a post that says of a panic what it leaves in memory and in three places of the frame -/
def PanQ (Q : Exit → Act → World → Prop) (Pn : List PanicEntry → World → Prop) (p2 p3 : Value) (ds : List Deferred) : Exit → Act → World → Prop
  | .panic c, a, w => Pn c w ∧ a.tmps.getD 2 undef = p2 ∧ a.tmps.getD 3 undef = p3 ∧ a.defers = ds
  | .normal, a, w => Q .normal a w
  | _, _, _ => False
theorem PanQ.normal {Q : Exit → Act → World → Prop} {Pn : List PanicEntry → World → Prop} {p2 p3 : Value} {ds : List Deferred} {a : Act} {w : World} (h : Q .normal a w) : PanQ Q Pn p2 p3 ds .normal a w := h
theorem wp_region_panQ {P : Program} {id : Nat} {ops : Array Oper} {b : Bool} {Q : Exit → Act → World → Prop} {a : Act} {w : World} (Pn : List PanicEntry → World → Prop) (p2 p3 : Value) (ds : List Deferred) (hP : ∀ c a w, Pn c w → a.tmps.getD 2 undef = p2 → a.tmps.getD 3 undef = p3 → a.defers = ds → Q (.panic c) a w) (h : (Code.region id ops b).wp P (PanQ Q Pn p2 p3 ds) a w) : (Code.region id ops b).wp P Q a w := by
  refine Code.wp_mono (fun e a w h => ?_) h
  cases e with
  | panic c => exact hP c a w h.1 h.2.1 h.2.2.1 h.2.2.2
  | normal => exact h
  | _ => exact (h : False).elim
theorem panQ_put {Q : Exit → Act → World → Prop} {Pn : List PanicEntry → World → Prop} {p2 p3 : Value} {ds : List Deferred} {d : Nat} {v : Value} (h2 : d ≠ 2) (h3 : d ≠ 3) : ∀ c a w, PanQ Q Pn p2 p3 ds (.panic c) (a.put (some d) v) w → PanQ Q Pn p2 p3 ds (.panic c) a w := by
  rintro c a w ⟨x1, x2, x3, x4⟩
  refine ⟨x1, ?_, ?_, x4⟩
  · rw [← x2]
    simp [Act.put, Array.getD_eq_getD_getElem?, Array.getElem?_setIfInBounds_ne h2]
  · rw [← x3]
    simp [Act.put, Array.getD_eq_getD_getElem?, Array.getElem?_setIfInBounds_ne h3]
theorem call_enters {P : Program} {A : Act} {op : Oper} {w : World} {F : Nat} {x : Operand} {xs : Array Operand} {ts : Array TypeId} (ho : op.op = .call { callee := .value x, args := xs, argTypes := ts }) {cap : Array Value} (hxv : A.eval x = .func (.func F) #[] cap) {args : Array Value} (hx : xs.map A.eval = args) (hen : ∀ args w, (callFunc F args).run P w = .ok (.enter F args) w) : (execOp A.eval op).run P w = .ok (.enter F (args ++ cap)) w := by
  have h1 := hen (args ++ cap) w
  simp only [execOp, ho, resolve, invoke]
  simp only [hxv, Deferred.ofValue, Sem.run_bind, Sem.run_pure, Result.andThen_ok, hx, Array.empty_append]
  exact h1
/-- a call that may throw, where nothing else may come up -/
theorem go_callP {P : Program} {S : World → Prop} {md : Region.Mode} {ops : Array Oper} {Q : Exit → Act → World → Prop} {fuel : Nat} {listed : Array Bool} {A : Act} {w : World}
    (i d : Nat) (op : Oper) (hi : ops[i]? = some op) (hd : op.dst = some d) (hr : Region.ready md ops listed = [i]) (hwt : Region.wanted op (yielded ops A.tmps) = true)
    (F : Nat) (x : Operand) (xs : Array Operand) (ts : Array TypeId) (ho : op.op = .call { callee := .value x, args := xs, argTypes := ts })
    (cap : Array Value) (hxv : A.eval x = .func (.func F) #[] cap) (args : Array Value) (hx : xs.map A.eval = args) (hen : ∀ args w, (callFunc F args).run P w = .ok (.enter F args) w) (R : Value → World → Prop) (Pn : List PanicEntry → World → Prop)
    (hp : ∀ c w', Pn c w' → Q (.panic c) A w')
    (hc : Calls P F (args ++ cap) w fun e w' => (∃ v, e = .returned v ∧ S w' ∧ R v w') ∨ (∃ c, e = .panicked c ∧ Pn c w'))
    (h : ∀ v w', S w' → R v w' → wpAnyH P md ops Q S fuel (listed.setIfInBounds i true) (A.put (some d) v) w') :
    wpAnyH P md ops Q S (fuel + 1) listed A w := by
  refine wpAnyH_ready hr (by simp) (AllReadyH.cons hi (fun K hK => ?_) AllReadyH.nil)
  refine step_want hwt ?_
  unfold Oper.wp
  rw [call_enters ho hxv hx hen, Oper.upon_enter]
  refine hc.mono ?_
  rintro e w' (⟨v, rfl, hb, hR⟩ | ⟨c, rfl, hpn⟩)
  · exact hK.out _ _ hb (fun hu => by rw [hd]; exact h v w' hu hR)
  · exact hp c w' hpn
/-- a value and a call that may throw, whichever comes first -/
theorem go_valCallP {P : Program} {S : World → Prop} {md : Region.Mode} {ops : Array Oper} {Q : Exit → Act → World → Prop} {fuel : Nat} {listed : Array Bool} {A : Act} {w : World}
    (j e : Nat) (oq : Oper) (i d : Nat) (op : Oper) (hj : ops[j]? = some oq) (he : oq.dst = some e) (hi : ops[i]? = some op) (hd : op.dst = some d) (hr : Region.ready md ops listed = [j, i]) (hwq : Region.wanted oq (yielded ops A.tmps) = true) (hwt : Region.wanted op (yielded ops A.tmps) = true)
    (vq : Value) (wq : World) (hq : (execOp A.eval oq).run P w = .ok (.value vq) wq) (hS : S wq)
    (F : Nat) (x : Operand) (xs : Array Operand) (ts : Array TypeId) (ho : op.op = .call { callee := .value x, args := xs, argTypes := ts })
    (cap : Array Value) (hxv : A.eval x = .func (.func F) #[] cap) (args : Array Value) (hx : xs.map A.eval = args) (hen : ∀ args w, (callFunc F args).run P w = .ok (.enter F args) w) (R : Value → World → Prop) (Pn : List PanicEntry → World → Prop)
    (hp : ∀ c w', Pn c w' → Q (.panic c) A w')
    (hc : Calls P F (args ++ cap) w fun e w' => (∃ v, e = .returned v ∧ S w' ∧ R v w') ∨ (∃ c, e = .panicked c ∧ Pn c w'))
    (h2 : wpAnyH P md ops Q S fuel (listed.setIfInBounds j true) (A.put (some e) vq) wq)
    (h : ∀ v w', S w' → R v w' → wpAnyH P md ops Q S fuel (listed.setIfInBounds i true) (A.put (some d) v) w') :
    wpAnyH P md ops Q S (fuel + 1) listed A w := by
  refine wpAnyH_ready hr (by simp) (AllReadyH.cons hj (fun K hK => ?_) (AllReadyH.cons hi (fun K hK => ?_) AllReadyH.nil))
  · refine step_want hwq ?_
    unfold Oper.wp
    rw [hq, Oper.upon_value]
    exact hK.out _ _ hS (fun _ => by rw [he]; exact h2)
  · refine step_want hwt ?_
    unfold Oper.wp
    rw [call_enters ho hxv hx hen, Oper.upon_enter]
    refine hc.mono ?_
    rintro e w' (⟨v, rfl, hb, hR⟩ | ⟨c, rfl, hpn⟩)
    · exact hK.out _ _ hb (fun hu => by rw [hd]; exact h v w' hu hR)
    · exact hp c w' hpn
theorem rd_results (tmps : Array Value) (u : World) (F0 F1 n c : Nat) (o : Option Addr) (v1 : Value) (h2 : tmps.getD 2 undef = .pointer (some ⟨F0, 0, none⟩)) (h3 : tmps.getD 3 undef = .pointer (some ⟨F1, 0, none⟩)) (c0 : u.cell? ⟨F0, 0, none⟩ = some (.slice o n c)) (c1 : u.cell? ⟨F1, 0, none⟩ = some v1) :
    (results Tryd.f38 tmps).run Tryd.prog u = .ok (.tuple #[.slice o n c, v1]) u := by
  have hL0 : (loadVar 29 ⟨F0, 0, none⟩).run Tryd.prog u = .ok (.slice o n c) u := by
    simp [loadVar, isAgg, underlying, Tryd.underlying29, c0, Result.andThen]
  have hL1 : (loadVar 31 ⟨F1, 0, none⟩).run Tryd.prog u = .ok v1 u := by
    simp [loadVar, isAgg, underlying, Tryd.underlying31, c1, Result.andThen]
  have e2 : tmps[2]?.getD undef = .pointer (some ⟨F0, 0, none⟩) := by rw [← h2]; simp
  have e3 : tmps[3]?.getD undef = .pointer (some ⟨F1, 0, none⟩) := by rw [← h3]; simp
  simp [results, Tryd.results38, e2, e3, asAddr, hL0, hL1, Result.andThen]
end Go.Proofs.YtgiojkhmkeocfaaDoor

/- The code's read of layer 12, walked: the hunks of all lines, or what was thrown. -/
namespace Go.Proofs.YtgiojkhmkeocfaaDoor
open Go.RowKit

theorem own_box {u : World} {B : Nat} {e t : TypeId} {s : Nat} {v : Value} {n k : Nat} {xs : List Value} {cs : Array Value} {fr : Nat × Nat} (h : u.ownsRow B e s v n xs) (hb : u.heap[k]? = some (.cells cs t fr)) (he : e ≠ t) : v.ownBlock ≠ some k := by
  intro hg
  rcases h.2 with ⟨rfl, _⟩ | ⟨g, cap, cur, rfl, _, hg2, _⟩
  · cases hg
  · simp [Value.ownBlock] at hg
    subst hg
    rw [hb] at hg2
    simp at hg2
    exact he hg2.2.1.symm
/-- where a reader stands -/
def ryAt (u : World) (R : Nat) : Nat := match u.heap[R]? with
  | some (.cells cs _ _) => match cs[1]? with
    | some (Value.int _ p) => p.toNat
    | _ => 0
  | _ => 0
theorem ryAt_eq {u : World} {R : Nat} {vL : Value} {p : Nat} (h : Ry u R vL (p : Int)) : ryAt u R = p := by
  unfold Ry ryO at h
  unfold ryAt
  rw [h]
  simp
/-- read's own variables: what was found, what is wrong, the reader -/
structure RdS (w : World) (vL : Value) (ov : Value) (P : List (Hk × Value)) (p : Int) (u : World) : Prop where
  hs : Hs w ov P u
  f0 : u.heap[w.heap.size]? = some (.cells #[ov] 29)
  f1 : u.heap[w.heap.size + 1]? = some (.cells #[.nilIface] 31)
  ry : Ry u (w.heap.size + 1 + 1) vL p
section
variable {w u u' : World} {vL ov : Value} {P : List (Hk × Value)} {p p' : Int}
theorem RdS.c0 (h : RdS w vL ov P p u) : u.cell? ⟨w.heap.size, 0, none⟩ = some ov := by rw [Lib.cell_of_heap h.f0]; rfl
theorem RdS.drew (h : RdS w vL ov P p u) : RdS w vL ov P p u.drew := ⟨⟨h.hs.low.drew, h.hs.own, h.hs.ins⟩, h.f0, h.f1, h.ry⟩
theorem RdS.alloc (h : RdS w vL ov P p u) (o : Obj) : RdS w vL ov P p (u.alloc o) :=
  have hl : ∀ k x, u.heap[k]? = some x → (u.alloc o).heap[k]? = some x := fun k _ hk => (Lib.alloc_old u o k (Array.getElem?_eq_some_iff.1 hk).1).trans hk
  ⟨h.hs.alloc o, hl _ _ h.f0, hl _ _ h.f1, hl _ _ h.ry⟩
theorem RdS.alloc_c0 (h : RdS w vL ov P p u) (o : Obj) : (u.alloc o).cell? ⟨w.heap.size, 0, none⟩ = some ov := (h.alloc o).c0
theorem RdS.call (h : RdS w vL ov P p u) (hg : u.grownBy u' (some (w.heap.size + 1 + 1))) (q : Ry u' (w.heap.size + 1 + 1) vL p') : RdS w vL ov P p' u' := by
  have hk : ∀ k x, k ≠ w.heap.size + 1 + 1 → u.heap[k]? = some x → u'.heap[k]? = some x := fun k _ hk hx => (hg.block k (Array.getElem?_eq_some_iff.1 hx).1 (fun e => hk (Option.some.inj e))).trans hx
  refine ⟨h.hs.grown hg (fun k e => by cases e; omega) (fun k e => by cases e; exact own_box h.hs.own h.ry (by decide)) (fun x hx k e => by cases e; exact own_box (h.hs.ins x hx) h.ry (by decide)), hk _ _ (by omega) h.f0, hk _ _ (by omega) h.f1, q⟩
/-- one hunk more -/
theorem RdS.more (h : RdS w vL ov P p u) {x : Hk} {y ov' : Value} (hy : u.ownsRow w.heap.size 91 2 y x.ls.length (mkcells x.ls)) (hg : u.grownBy u' ov.ownBlock) (ho : u'.ownsRow w.heap.size 43 5 ov' (P.length + 1) (hkcells P ++ hkC x y)) :
    RdS w vL ov' (P ++ [(x, y)]) p (u'.setCell ⟨w.heap.size, 0, none⟩ ov') ∧ u'.cell? ⟨w.heap.size, 0, none⟩ = some ov ∧ u'.frozen? ⟨w.heap.size, 0, none⟩ = false := by
  have hs := h.hs.more hy hg ho
  have hk : ∀ (k : Nat) (cs : Array Value) (t : TypeId) (fr : Nat × Nat), t ≠ 43 → u.heap[k]? = some (Obj.cells cs t fr) → u'.heap[k]? = some (Obj.cells cs t fr) := fun k cs t fr ht hx => (hg.block k (Array.getElem?_eq_some_iff.1 hx).1 (fun e => own_box h.hs.own hx ht.symm e.symm)).trans hx
  have f0 := hk _ _ _ _ (by decide) h.f0
  have f1 := hk _ _ _ _ (by decide) h.f1
  have ry : Ry u' (w.heap.size + 1 + 1) vL p := hk _ _ _ _ (by decide) h.ry
  have hg2 := grown_set u' w.heap.size 0 ov'
  refine ⟨⟨hs.grown hg2 (fun k e => by cases e; omega) (fun k e => by cases e; exact own_box hs.own f0 (by decide)) (fun x hx k e => by cases e; exact own_box (hs.ins x hx) f0 (by decide)), heap_setCell_same u' _ 0 _ _ ov' f0, ?_, ry.keep hg2 (fun e => by have := Option.some.inj e; omega)⟩, by rw [Lib.cell_of_heap f0]; rfl, Lib.frozen_of_heap f0 0⟩
  exact (Below.heap_setCell _ _ _ _ (by simp)).trans f1
end
theorem load_hks {u : World} {a : Addr} {o : Option Addr} {n c : Nat} (h : u.cell? a = some (.slice o n c)) {op : Oper} (x : Operand) (ho : op.op = .load 29 x) {ev : Operand → Value} (hx : ev x = .pointer (some a)) :
    (execOp ev op).run Tryd.prog u = .ok (.value (.slice o n c)) u := by
  simp only [execOp, ho, hx]
  go_simp
theorem exec_storeH {u : World} {a : Addr} {v0 : Value} (hc : u.cell? a = some v0) (hf : u.frozen? a = false) {o : Option Addr} {n c : Nat} {op : Oper} (x y : Operand) (ho : op.op = .store 29 x y) {ev : Operand → Value} (hx : ev x = .pointer (some a)) (hy : ev y = .slice o n c) :
    (execOp ev op).run Tryd.prog u = .ok .skip (u.setCell a (.slice o n c)) := by
  simp only [execOp, ho, hx, hy]
  go_simp
def thenH (l : List Hk) (X : Except (Nat × Int) (List Hk)) : Except (Nat × Int) (List Hk) :=
  match X with
  | .error e => .error e
  | .ok m => .ok (l ++ m)
/-- what read answers -/
def RdQ (w : World) (X : Except (Nat × Int) (List Hk)) (e : Ending) (w' : World) : Prop :=
  match X with
  | .error (a, z) => ∃ g, e = .returned (.tuple #[.slice none 0 0, .iface 74 (.pointer (some ⟨g, 0, none⟩))]) ∧ w'.heap[g]? = some (fltO (a : Int) z) ∧ Below w.heap.size w w'
  | .ok l => ∃ v' P, e = .returned (.tuple #[v', .nilIface]) ∧ Hs w v' P w' ∧ P.map (·.1) = l
/-- what is left behind by what is thrown -/
def PnQ (w : World) (X : Except (Nat × Int) (List Hk)) (c : List PanicEntry) (u : World) : Prop :=
  ∃ (g a : Nat) (z : Int) (v0 : Value), c = [{ v := .iface 74 (.pointer (some ⟨g, 0, none⟩)), recovered := false }] ∧ u.heap[g]? = some (fltO (a : Int) z) ∧ X = .error (a, z) ∧ Below w.heap.size w u ∧ u.heap[w.heap.size]? = some (.cells #[v0] 29) ∧ u.heap[w.heap.size + 1]? = some (.cells #[.nilIface] 31)
set_option maxHeartbeats 2000000 in
theorem pn_done {w : World} {X : Except (Nat × Int) (List Hk)} : ∀ c (a : Act) u, PnQ w X c u → a.tmps.getD 2 undef = .pointer (some ⟨w.heap.size, 0, none⟩) → a.tmps.getD 3 undef = .pointer (some ⟨w.heap.size + 1, 0, none⟩) → a.defers = [{ target := .fn (.func 77) #[.pointer (some ⟨w.heap.size, 0, none⟩), .pointer (some ⟨w.heap.size + 1, 0, none⟩)], args := #[] }] → bodyPostD Tryd.prog Tryd.f38 (fun e w' => RdQ w X e w') (.panic c) a u := by
  rintro c a u ⟨g, pa, z, v0, rfl, hg, rfl, hlow, f0, f1⟩ h2 h3 hd
  show Leaves Tryd.prog Tryd.f38 a.tmps (fun e w' => RdQ w (.error (pa, z)) e w') a.defers _ u
  rw [hd]
  have g0 : g ≠ w.heap.size := (by rintro rfl; rw [f0] at hg; unfold fltO at hg; simp at hg)
  have g1 : g ≠ w.heap.size + 1 := (by rintro rfl; rw [f1] at hg; unfold fltO at hg; simp at hg)
  refine leaves_cons (f := 77) (args := #[.pointer (some ⟨w.heap.size, 0, none⟩), .pointer (some ⟨w.heap.size + 1, 0, none⟩)]) (by simp) (by simp [go_sem]) ?_
  refine (catch_fault w.heap.size (w.heap.size + 1) g v0 .nilIface [] u (by omega) (by rw [Lib.cell_of_heap f0]; rfl) (Lib.frozen_of_heap f0 0) (by rw [Lib.cell_of_heap f1]; rfl) (Lib.frozen_of_heap f1 0)).mono ?_
  rintro e u' w'' ⟨rfl, rfl, rfl⟩
  have s0 := heap_setCell_same u w.heap.size 0 _ _ (.slice none 0 0) f0
  have s1 : (u.setCell ⟨w.heap.size, 0, none⟩ (.slice none 0 0)).heap[w.heap.size + 1]? = some (.cells #[.nilIface] 31) := (Below.heap_setCell _ _ _ _ (by simp)).trans f1
  have s2 := heap_setCell_same _ (w.heap.size + 1) 0 _ _ (.iface 74 (.pointer (some ⟨g, 0, none⟩))) s1
  have s3 : ((u.setCell ⟨w.heap.size, 0, none⟩ (.slice none 0 0)).setCell ⟨w.heap.size + 1, 0, none⟩ (.iface 74 (.pointer (some ⟨g, 0, none⟩)))).heap[w.heap.size]? = some (.cells #[.slice none 0 0] 29) := (Below.heap_setCell _ _ _ _ (by simp)).trans s0
  have s4 : ((u.setCell ⟨w.heap.size, 0, none⟩ (.slice none 0 0)).setCell ⟨w.heap.size + 1, 0, none⟩ (.iface 74 (.pointer (some ⟨g, 0, none⟩)))).heap[g]? = some (fltO (pa : Int) z) := ((Below.heap_setCell _ _ _ _ (by simpa using g1)).trans (Below.heap_setCell _ _ _ _ (by simpa using g0))).trans hg
  have hl : Below w.heap.size w ((u.setCell ⟨w.heap.size, 0, none⟩ (.slice none 0 0)).setCell ⟨w.heap.size + 1, 0, none⟩ (.iface 74 (.pointer (some ⟨g, 0, none⟩)))).drew := ((hlow.setCell (Nat.le_refl _) _).setCell (by show w.heap.size ≤ w.heap.size + 1; omega) _).drew
  generalize (u.setCell ⟨w.heap.size, 0, none⟩ (.slice none 0 0)).setCell ⟨w.heap.size + 1, 0, none⟩ (.iface 74 (.pointer (some ⟨g, 0, none⟩))) = W at *
  exact ⟨_, rd_results a.tmps W.drew w.heap.size (w.heap.size + 1) 0 0 none _ h2 h3 (by rw [Lib.cell_of_heap (w := W.drew) s3]; rfl) (by rw [Lib.cell_of_heap (w := W.drew) s2]; rfl), g, rfl, s4, hl⟩
set_option maxHeartbeats 8000000 in
set_option maxRecDepth 4000 in
theorem nread_f (L : List (List UInt8)) (lo : Option Addr) (lc : Nat) (w : World) (hL : HS w (.slice lo L.length lc) L) (HPl : Hid (Plain L)) (hLl : L.length ≤ 1048576) (HSl : Hid (∀ s ∈ L, s.length ≤ 1048576)) (X : Except (Nat × Int) (List Hk)) (HX : Hid (hksK L.length 0 0 L = X)) :
    Calls Tryd.prog 38 #[.slice lo L.length lc] w fun e w' => RdQ w X e w' := by
  have hmf : ∀ (fn : Fn) (first cap : Array Value) (w : World), (Instr.makeFunc fn first cap).run Tryd.prog w = .ok (.func fn first cap) w := fun _ _ _ _ => rfl
  obtain ⟨Pn, hPnd⟩ : ∃ Pn, PnQ w X = Pn := ⟨_, rfl⟩
  have HPn : Hid (∀ c (a : Act) u, Pn c u → a.tmps.getD 2 undef = .pointer (some ⟨w.heap.size, 0, none⟩) → a.tmps.getD 3 undef = .pointer (some ⟨w.heap.size + 1, 0, none⟩) → a.defers = [{ target := .fn (.func 77) #[.pointer (some ⟨w.heap.size, 0, none⟩), .pointer (some ⟨w.heap.size + 1, 0, none⟩)], args := #[] }] → bodyPostD Tryd.prog Tryd.f38 (fun e w' => RdQ w X e w') (.panic c) a u) := (by rw [← hPnd]; exact pn_done)
  have HPd : Hid (PnQ w X = Pn) := hPnd
  clear hPnd
  have hR0 : RdS w (.slice lo L.length lc) (.slice none 0 0) [] ((0 : Nat) : Int) (((w.alloc (.cells #[.slice none 0 0] 29)).alloc (.cells #[.nilIface] 31)).alloc (.cells #[.slice lo L.length lc, .int .i64 0] 116)) := (by
    have a1 := heap_alloc_new w (.cells #[.slice none 0 0] 29)
    have a2 := heap_alloc_new (w.alloc (.cells #[.slice none 0 0] 29)) (.cells #[.nilIface] 31)
    have a3 := heap_alloc_new ((w.alloc (.cells #[.slice none 0 0] 29)).alloc (.cells #[.nilIface] 31)) (.cells #[.slice lo L.length lc, .int .i64 0] 116)
    have z1 : (w.alloc (.cells #[.slice none 0 0] 29)).heap.size = w.heap.size + 1 := by simp
    have z2 : ((w.alloc (.cells #[.slice none 0 0] 29)).alloc (.cells #[.nilIface] 31)).heap.size = w.heap.size + 1 + 1 := by simp
    rw [z1] at a2
    rw [z2] at a3
    have hb1 : Below w.heap.size w (w.alloc (.cells #[.slice none 0 0] 29)) := (Below.refl _ w).alloc (Nat.le_refl _) _
    have hb2 := hb1.alloc hb1.size (.cells #[.nilIface] 31)
    have hb3 := hb2.alloc hb2.size (.cells #[.slice lo L.length lc, .int .i64 0] 116)
    refine ⟨⟨hb3, hnil_row _ _ _ _, fun x hx => by cases hx⟩, ?_, ?_, a3⟩
    · exact (Lib.alloc_old _ _ _ (by rw [z2]; omega)).trans ((Lib.alloc_old _ _ _ (by rw [z1]; omega)).trans a1)
    · exact (Lib.alloc_old _ _ _ (by rw [z2]; omega)).trans a2)
  have HX0 : Hid (thenH (([] : List (Hk × Value)).map (·.1)) (hksK L.length ([] : List (Hk × Value)).length 0 (L.drop 0)) = X) := (by
    show _ = _
    rw [← HX.out]
    simp only [List.map_nil, List.drop_zero, List.length_nil]
    cases hksK L.length 0 0 L <;> rfl)
  clear HX
  go_enter_defers Tryd.func38, Tryd.ntmps38
  go_wp2
  go_loopw [] (fun wr => ∃ (ov : Value) (P : List (Hk × Value)) (p f : Nat), (∃ o c, ov = .slice o P.length c) ∧ RdS w (.slice lo L.length lc) ov P (p : Int) wr ∧ p ≤ L.length ∧ P.length ≤ 4096 ∧ (L.drop p).length ≤ f ∧ Hid (thenH (P.map (·.1)) (hksK f P.length p (L.drop p)) = X)) (fun wr => L.length - ryAt wr (w.heap.size + 1 + 1))
  case atStart => exact ⟨_, [], 0, L.length, ⟨none, 0, rfl⟩, hR0, Nat.zero_le _, Nat.zero_le _, by simp, HX0⟩
  case round =>
  clear hR0 HX0
  obtain ⟨ov, P, p, f, ⟨o, c, rfl⟩, hR, hp, hPl, hf, HI⟩ := hrel
  obtain ⟨d0, d1⟩ := hR.ry.cells
  by_cases hlt : p < L.length
  · have hfl : 0 < f := (by rw [List.length_drop] at hf; omega)
    obtain ⟨f', rfl⟩ : ∃ f', f = f' + 1 := ⟨f - 1, by omega⟩
    have hne : L.drop p ≠ [] := (by intro h; have := congrArg List.length h; rw [List.length_drop] at this; simp at this; omega)
    have HIe : Hid (∀ e, hkK P.length p (L.drop p) = .error e → X = .error e) := (by
      intro e he
      rw [← HI.out]
      simp only [hksK]
      rw [if_neg hne, he]
      rfl)
    have HN : Hid (∀ h p2 r, hkK P.length p (L.drop p) = .ok (h, p2, r) → p2 ≤ L.length ∧ p < p2 ∧ (L.drop p2).length ≤ f' ∧ P.length < 4096 ∧ r = L.drop p2) := (by
      intro h p2 r hk
      obtain ⟨j, b1, b2, b3, b4, b5⟩ := hkK_drop hk
      rw [List.length_drop] at b4 hf
      rw [List.drop_drop] at b1
      refine ⟨by omega, by omega, by rw [List.length_drop]; omega, by omega, by rw [b1, b2]⟩)
    have HN2 : Hid (∀ h p2 r y, hkK P.length p (L.drop p) = .ok (h, p2, r) → Hid (thenH ((P ++ [(h, y)]).map (·.1)) (hksK f' (P ++ [(h, y)]).length p2 (L.drop p2)) = X)) := (by
      intro h p2 r y hk
      show _ = _
      have hr := (HN.out h p2 r hk).2.2.2.2
      rw [← HI.out]
      simp only [hksK]
      rw [if_neg hne, hk]
      dsimp only
      rw [hr, List.length_append, List.map_append]
      show thenH (P.map (·.1) ++ [h]) (hksK f' (P.length + 1) p2 (L.drop p2)) = _
      cases hksK f' (P.length + 1) p2 (L.drop p2) with
      | error e => rfl
      | ok m => simp [thenH])
    have hRd := hR.drew
    obtain ⟨Rr, hRr⟩ : ∃ Rr : Value → World → Prop, (fun v u => ∃ h p2 r vo vc, hkK P.length p (L.drop p) = .ok (h, p2, r) ∧ v = hkV h (.slice vo h.ls.length vc) ∧ RdS w (.slice lo L.length lc) (.slice o P.length c) P ((p2 : Nat) : Int) u ∧ u.ownsRow w.heap.size 91 2 (.slice vo h.ls.length vc) h.ls.length (mkcells h.ls)) = Rr := ⟨_, rfl⟩
    have hcall : Calls Tryd.prog 78 (#[.pointer (some ⟨w.heap.size + 1 + 1, 0, none⟩), .int .i64 (P.length : Int)] ++ #[]) wr.drew fun e w' => (∃ v, e = .returned v ∧ True ∧ Rr v w') ∨ (∃ c, e = .panicked c ∧ Pn c w') := (by
      obtain ⟨Y, hY⟩ : ∃ Y, hkK P.length p (L.drop p) = Y := ⟨_, rfl⟩
      have hsz := hRd.hs.low.size
      refine (nhunk_f wr.drew hRd.ry (fun u hu => HS.keep hL (hRd.hs.low.trans ⟨hu.os, hu.tape, hu.output, hu.size, fun k hk => hu.block k (Nat.lt_of_lt_of_le hk hsz) (fun e => by cases e; omega)⟩) (Nat.le_refl _)) HPl hp hLl HSl P.length hPl Y hY).mono ?_
      intro e w' hq
      cases Y with
      | error z =>
        obtain ⟨a, z⟩ := z
        obtain ⟨⟨g, rfl, hg⟩, hgr⟩ := hq
        right
        refine ⟨_, rfl, ?_⟩
        rw [← HPd.out]
        have hk : ∀ k x, k ≠ w.heap.size + 1 + 1 → wr.drew.heap[k]? = some x → w'.heap[k]? = some x := fun k _ hk hx => (hgr.block k (Array.getElem?_eq_some_iff.1 hx).1 (fun e => hk (Option.some.inj e))).trans hx
        exact ⟨g, a, z, _, rfl, hg, HIe.out _ hY, hRd.hs.low.trans ⟨hgr.os, hgr.tape, hgr.output, hgr.size, fun k hk => hgr.block k (Nat.lt_of_lt_of_le hk hsz) (fun e => by cases e; omega)⟩, hk _ _ (by omega) hRd.f0, hk _ _ (by omega) hRd.f1⟩
      | ok z =>
        obtain ⟨h, p2, r⟩ := z
        obtain ⟨v', rfl, hown, q, hgr⟩ := hq
        obtain ⟨vo, vc, rfl⟩ := (holds_of hown).form
        left
        rw [← hRr]
        exact ⟨_, rfl, trivial, h, p2, r, vo, vc, hY, rfl, hRd.call hgr q, owns_less hown hsz⟩)
    have i1 : (p : Int) < (L.length : Int) := by omega
    have HRr : Hid (_ = Rr) := hRr
    clear hRr
    go_upto_region 4 with fail
    refine wp_region_panQ Pn (.pointer (some ⟨w.heap.size, 0, none⟩)) (.pointer (some ⟨w.heap.size + 1, 0, none⟩)) [{ target := .fn (.func 77) #[.pointer (some ⟨w.heap.size, 0, none⟩), .pointer (some ⟨w.heap.size + 1, 0, none⟩)], args := #[] }] (fun c a u h1 h2 h3 h4 => HPn.out c a u h1 h2 h3 h4) ?_
    refine wp_region_held_drew (S := fun _ => True) (by kernel_rfl) trivial (fun _ => ?_)
    generalize wr.drew = wd at hRd hcall ⊢
    have c0d := hRd.c0
    refine go_two 0 13 _ 1 14 _ rfl (by kernel_rfl) rfl (by kernel_rfl) (by kernel_rfl) (by kernel_rfl) (by kernel_rfl) (.slice o P.length c) wd (load_hks c0d (.tmp 2) (by kernel_rfl) (by kernel_rfl)) trivial (.slice o P.length c) wd (load_hks c0d (.tmp 2) (by kernel_rfl) (by kernel_rfl)) trivial ?_ ?_
    · simp only [Act.put, List.setIfInBounds_toArray, List.set_cons_zero, List.set_cons_succ]
      refine go_val 1 14 _ rfl (by kernel_rfl) (by kernel_rfl) (by kernel_rfl) (.slice o P.length c) wd (load_hks c0d (.tmp 2) (by kernel_rfl) (by kernel_rfl)) trivial ?_
      simp only [Act.put, List.setIfInBounds_toArray, List.set_cons_zero, List.set_cons_succ]
      refine go_take 2 15 _ (.int .i64 (P.length : Int)) rfl (by kernel_rfl) (by kernel_rfl) (by kernel_rfl) (by kernel_rfl) (panQ_put (by decide) (by decide)) (Or.inl ⟨by kernel_rfl, fun u hu => by kernel_rfl⟩) trivial ?_
      simp only [Act.put, List.setIfInBounds_toArray, List.set_cons_zero, List.set_cons_succ]
      refine go_callP 3 16 _ rfl (by kernel_rfl) (by kernel_rfl) (by kernel_rfl) 78 (.func 78) #[.tmp 4, .tmp 15] #[116, 3] (by kernel_rfl) #[] (by kernel_rfl) #[.pointer (some ⟨w.heap.size + 1 + 1, 0, none⟩), .int .i64 (P.length : Int)] (by kernel_rfl) (enters_of Tryd.func78 (by kernel_rfl) rfl) (Rr) (Pn) (fun c u h => ⟨h, rfl, rfl, rfl⟩) ?_ ?_
      · exact hcall
      intro v0 u1 _ hq
      rw [← HRr.out] at hq
      obtain ⟨h, p2, r, vo, vc, hk, rfl, hR1, hown1⟩ := hq
      have c1u := hR1.c0
      have c2u := hR1.alloc_c0 (hkO h (.slice vo h.ls.length vc))
      simp only [Act.put, List.setIfInBounds_toArray, List.set_cons_zero, List.set_cons_succ]
      refine go_val 4 17 _ rfl (by kernel_rfl) (by kernel_rfl) (by kernel_rfl) (.slice (some ⟨u1.heap.size, 0, none⟩) 1 1) (u1.alloc (hkO h (.slice vo h.ls.length vc))) (by kernel_rfl) trivial ?_
      simp only [Act.put, List.setIfInBounds_toArray, List.set_cons_zero, List.set_cons_succ]
      have hlt2 := HN.out h p2 r hk
      have hRA := hR1.alloc (hkO h (.slice vo h.ls.length vc))
      have hownA := hown1.alloc (hkO h (.slice vo h.ls.length vc))
      obtain ⟨v3, u3, hr3, hown3, hg3, _⟩ := run_append_w (u1.alloc (hkO h (.slice vo h.ls.length vc))) 29 43 29 (.agg #[.int .i64 0, .int .i64 0, .int .i64 0, .int .i64 0, .slice none 0 0]) 5 56 Tryd.underlying29 infoHk rfl (by decide) (by decide) w.heap.size _ _ _ hRA.hs.own _ 1 (hkC h (.slice vo h.ls.length vc)) (one_row u1 h (.slice vo h.ls.length vc)) rfl (hkC_one _) (by omega) (Nat.le_trans hRA.hs.low.size (Nat.le_refl _))
      have hR3 := hRA.more hownA hg3 hown3
      obtain ⟨o3, k3, rfl⟩ := (holds_of hown3).form
      refine go_val 5 18 _ rfl (by kernel_rfl) (by kernel_rfl) (by kernel_rfl) (.slice o3 (P.length + 1) k3) u3 (exec_app (.tmp 13) (.tmp 17) (by kernel_rfl) (by kernel_rfl) (by kernel_rfl) hr3) trivial ?_
      simp only [Act.put, List.setIfInBounds_toArray, List.set_cons_zero, List.set_cons_succ]
      refine go_skip 6 _ rfl (by kernel_rfl) (by kernel_rfl) (by kernel_rfl) (u3.setCell ⟨w.heap.size, 0, none⟩ (.slice o3 (P.length + 1) k3)) (exec_storeH hR3.2.1 hR3.2.2 (.tmp 2) (.tmp 18) (by kernel_rfl) (by kernel_rfl) (by kernel_rfl)) trivial ?_
      refine wpAnyH_done (by kernel_rfl) ?_ _
      refine PanQ.normal ?_
      have hR4 := hR3.1
      go_wp2
      refine ⟨⟨_, P ++ [(h, .slice vo h.ls.length vc)], p2, f', ⟨o3, k3, by rw [List.length_append]; rfl⟩, hR4, hlt2.1, by simp; omega, hlt2.2.2.1, HN2.out h p2 r _ hk⟩, ?_⟩
      rw [ryAt_eq hR4.ry, ryAt_eq hR.ry]
      omega
    · simp only [Act.put, List.setIfInBounds_toArray, List.set_cons_zero, List.set_cons_succ]
      refine go_take 2 15 _ (.int .i64 (P.length : Int)) rfl (by kernel_rfl) (by kernel_rfl) (by kernel_rfl) (by kernel_rfl) (panQ_put (by decide) (by decide)) (Or.inl ⟨by kernel_rfl, fun u hu => by kernel_rfl⟩) trivial ?_
      simp only [Act.put, List.setIfInBounds_toArray, List.set_cons_zero, List.set_cons_succ]
      refine go_valCallP 0 13 _ 3 16 _ rfl (by kernel_rfl) rfl (by kernel_rfl) (by kernel_rfl) (by kernel_rfl) (by kernel_rfl) (.slice o P.length c) wd (load_hks c0d (.tmp 2) (by kernel_rfl) (by kernel_rfl)) trivial 78 (.func 78) #[.tmp 4, .tmp 15] #[116, 3] (by kernel_rfl) #[] (by kernel_rfl) #[.pointer (some ⟨w.heap.size + 1 + 1, 0, none⟩), .int .i64 (P.length : Int)] (by kernel_rfl) (enters_of Tryd.func78 (by kernel_rfl) rfl) (Rr) (Pn) (fun c u h => ⟨h, rfl, rfl, rfl⟩) ?_ ?_ ?_
      · exact hcall
      · simp only [Act.put, List.setIfInBounds_toArray, List.set_cons_zero, List.set_cons_succ]
        refine go_callP 3 16 _ rfl (by kernel_rfl) (by kernel_rfl) (by kernel_rfl) 78 (.func 78) #[.tmp 4, .tmp 15] #[116, 3] (by kernel_rfl) #[] (by kernel_rfl) #[.pointer (some ⟨w.heap.size + 1 + 1, 0, none⟩), .int .i64 (P.length : Int)] (by kernel_rfl) (enters_of Tryd.func78 (by kernel_rfl) rfl) (Rr) (Pn) (fun c u h => ⟨h, rfl, rfl, rfl⟩) ?_ ?_
        · exact hcall
        intro v0 u1 _ hq
        rw [← HRr.out] at hq
        obtain ⟨h, p2, r, vo, vc, hk, rfl, hR1, hown1⟩ := hq
        have c1u := hR1.c0
        have c2u := hR1.alloc_c0 (hkO h (.slice vo h.ls.length vc))
        simp only [Act.put, List.setIfInBounds_toArray, List.set_cons_zero, List.set_cons_succ]
        refine go_val 4 17 _ rfl (by kernel_rfl) (by kernel_rfl) (by kernel_rfl) (.slice (some ⟨u1.heap.size, 0, none⟩) 1 1) (u1.alloc (hkO h (.slice vo h.ls.length vc))) (by kernel_rfl) trivial ?_
        simp only [Act.put, List.setIfInBounds_toArray, List.set_cons_zero, List.set_cons_succ]
        have hlt2 := HN.out h p2 r hk
        have hRA := hR1.alloc (hkO h (.slice vo h.ls.length vc))
        have hownA := hown1.alloc (hkO h (.slice vo h.ls.length vc))
        obtain ⟨v3, u3, hr3, hown3, hg3, _⟩ := run_append_w (u1.alloc (hkO h (.slice vo h.ls.length vc))) 29 43 29 (.agg #[.int .i64 0, .int .i64 0, .int .i64 0, .int .i64 0, .slice none 0 0]) 5 56 Tryd.underlying29 infoHk rfl (by decide) (by decide) w.heap.size _ _ _ hRA.hs.own _ 1 (hkC h (.slice vo h.ls.length vc)) (one_row u1 h (.slice vo h.ls.length vc)) rfl (hkC_one _) (by omega) (Nat.le_trans hRA.hs.low.size (Nat.le_refl _))
        have hR3 := hRA.more hownA hg3 hown3
        obtain ⟨o3, k3, rfl⟩ := (holds_of hown3).form
        refine go_val 5 18 _ rfl (by kernel_rfl) (by kernel_rfl) (by kernel_rfl) (.slice o3 (P.length + 1) k3) u3 (exec_app (.tmp 13) (.tmp 17) (by kernel_rfl) (by kernel_rfl) (by kernel_rfl) hr3) trivial ?_
        simp only [Act.put, List.setIfInBounds_toArray, List.set_cons_zero, List.set_cons_succ]
        refine go_skip 6 _ rfl (by kernel_rfl) (by kernel_rfl) (by kernel_rfl) (u3.setCell ⟨w.heap.size, 0, none⟩ (.slice o3 (P.length + 1) k3)) (exec_storeH hR3.2.1 hR3.2.2 (.tmp 2) (.tmp 18) (by kernel_rfl) (by kernel_rfl) (by kernel_rfl)) trivial ?_
        refine wpAnyH_done (by kernel_rfl) ?_ _
        refine PanQ.normal ?_
        have hR4 := hR3.1
        go_wp2
        refine ⟨⟨_, P ++ [(h, .slice vo h.ls.length vc)], p2, f', ⟨o3, k3, by rw [List.length_append]; rfl⟩, hR4, hlt2.1, by simp; omega, hlt2.2.2.1, HN2.out h p2 r _ hk⟩, ?_⟩
        rw [ryAt_eq hR4.ry, ryAt_eq hR.ry]
        omega
      · intro v0 u1 _ hq
        rw [← HRr.out] at hq
        obtain ⟨h, p2, r, vo, vc, hk, rfl, hR1, hown1⟩ := hq
        have c1u := hR1.c0
        have c2u := hR1.alloc_c0 (hkO h (.slice vo h.ls.length vc))
        simp only [Act.put, List.setIfInBounds_toArray, List.set_cons_zero, List.set_cons_succ]
        refine go_two 0 13 _ 4 17 _ rfl (by kernel_rfl) rfl (by kernel_rfl) (by kernel_rfl) (by kernel_rfl) (by kernel_rfl) (.slice o P.length c) u1 (load_hks c1u (.tmp 2) (by kernel_rfl) (by kernel_rfl)) trivial (.slice (some ⟨u1.heap.size, 0, none⟩) 1 1) (u1.alloc (hkO h (.slice vo h.ls.length vc))) (by kernel_rfl) trivial ?_ ?_
        · simp only [Act.put, List.setIfInBounds_toArray, List.set_cons_zero, List.set_cons_succ]
          refine go_val 4 17 _ rfl (by kernel_rfl) (by kernel_rfl) (by kernel_rfl) (.slice (some ⟨u1.heap.size, 0, none⟩) 1 1) (u1.alloc (hkO h (.slice vo h.ls.length vc))) (by kernel_rfl) trivial ?_
          simp only [Act.put, List.setIfInBounds_toArray, List.set_cons_zero, List.set_cons_succ]
          have hlt2 := HN.out h p2 r hk
          have hRA := hR1.alloc (hkO h (.slice vo h.ls.length vc))
          have hownA := hown1.alloc (hkO h (.slice vo h.ls.length vc))
          obtain ⟨v3, u3, hr3, hown3, hg3, _⟩ := run_append_w (u1.alloc (hkO h (.slice vo h.ls.length vc))) 29 43 29 (.agg #[.int .i64 0, .int .i64 0, .int .i64 0, .int .i64 0, .slice none 0 0]) 5 56 Tryd.underlying29 infoHk rfl (by decide) (by decide) w.heap.size _ _ _ hRA.hs.own _ 1 (hkC h (.slice vo h.ls.length vc)) (one_row u1 h (.slice vo h.ls.length vc)) rfl (hkC_one _) (by omega) (Nat.le_trans hRA.hs.low.size (Nat.le_refl _))
          have hR3 := hRA.more hownA hg3 hown3
          obtain ⟨o3, k3, rfl⟩ := (holds_of hown3).form
          refine go_val 5 18 _ rfl (by kernel_rfl) (by kernel_rfl) (by kernel_rfl) (.slice o3 (P.length + 1) k3) u3 (exec_app (.tmp 13) (.tmp 17) (by kernel_rfl) (by kernel_rfl) (by kernel_rfl) hr3) trivial ?_
          simp only [Act.put, List.setIfInBounds_toArray, List.set_cons_zero, List.set_cons_succ]
          refine go_skip 6 _ rfl (by kernel_rfl) (by kernel_rfl) (by kernel_rfl) (u3.setCell ⟨w.heap.size, 0, none⟩ (.slice o3 (P.length + 1) k3)) (exec_storeH hR3.2.1 hR3.2.2 (.tmp 2) (.tmp 18) (by kernel_rfl) (by kernel_rfl) (by kernel_rfl)) trivial ?_
          refine wpAnyH_done (by kernel_rfl) ?_ _
          refine PanQ.normal ?_
          have hR4 := hR3.1
          go_wp2
          refine ⟨⟨_, P ++ [(h, .slice vo h.ls.length vc)], p2, f', ⟨o3, k3, by rw [List.length_append]; rfl⟩, hR4, hlt2.1, by simp; omega, hlt2.2.2.1, HN2.out h p2 r _ hk⟩, ?_⟩
          rw [ryAt_eq hR4.ry, ryAt_eq hR.ry]
          omega
        · simp only [Act.put, List.setIfInBounds_toArray, List.set_cons_zero, List.set_cons_succ]
          refine go_val 0 13 _ rfl (by kernel_rfl) (by kernel_rfl) (by kernel_rfl) (.slice o P.length c) (u1.alloc (hkO h (.slice vo h.ls.length vc))) (load_hks c2u (.tmp 2) (by kernel_rfl) (by kernel_rfl)) trivial ?_
          simp only [Act.put, List.setIfInBounds_toArray, List.set_cons_zero, List.set_cons_succ]
          have hlt2 := HN.out h p2 r hk
          have hRA := hR1.alloc (hkO h (.slice vo h.ls.length vc))
          have hownA := hown1.alloc (hkO h (.slice vo h.ls.length vc))
          obtain ⟨v3, u3, hr3, hown3, hg3, _⟩ := run_append_w (u1.alloc (hkO h (.slice vo h.ls.length vc))) 29 43 29 (.agg #[.int .i64 0, .int .i64 0, .int .i64 0, .int .i64 0, .slice none 0 0]) 5 56 Tryd.underlying29 infoHk rfl (by decide) (by decide) w.heap.size _ _ _ hRA.hs.own _ 1 (hkC h (.slice vo h.ls.length vc)) (one_row u1 h (.slice vo h.ls.length vc)) rfl (hkC_one _) (by omega) (Nat.le_trans hRA.hs.low.size (Nat.le_refl _))
          have hR3 := hRA.more hownA hg3 hown3
          obtain ⟨o3, k3, rfl⟩ := (holds_of hown3).form
          refine go_val 5 18 _ rfl (by kernel_rfl) (by kernel_rfl) (by kernel_rfl) (.slice o3 (P.length + 1) k3) u3 (exec_app (.tmp 13) (.tmp 17) (by kernel_rfl) (by kernel_rfl) (by kernel_rfl) hr3) trivial ?_
          simp only [Act.put, List.setIfInBounds_toArray, List.set_cons_zero, List.set_cons_succ]
          refine go_skip 6 _ rfl (by kernel_rfl) (by kernel_rfl) (by kernel_rfl) (u3.setCell ⟨w.heap.size, 0, none⟩ (.slice o3 (P.length + 1) k3)) (exec_storeH hR3.2.1 hR3.2.2 (.tmp 2) (.tmp 18) (by kernel_rfl) (by kernel_rfl) (by kernel_rfl)) trivial ?_
          refine wpAnyH_done (by kernel_rfl) ?_ _
          refine PanQ.normal ?_
          have hR4 := hR3.1
          go_wp2
          refine ⟨⟨_, P ++ [(h, .slice vo h.ls.length vc)], p2, f', ⟨o3, k3, by rw [List.length_append]; rfl⟩, hR4, hlt2.1, by simp; omega, hlt2.2.2.1, HN2.out h p2 r _ hk⟩, ?_⟩
          rw [ryAt_eq hR4.ry, ryAt_eq hR.ry]
          omega
  · have hend : decide ((p : Int) < (L.length : Int)) = false := decide_eq_false (by omega)
    have hXv : X = .ok (P.map (·.1)) := (by
      rw [← HI.out, List.drop_eq_nil_of_le (by omega)]
      cases f with
      | zero => simp [hksK, thenH]
      | succ f => simp [hksK, thenH])
    have c0 := hR.c0
    have c1 : wr.cell? ⟨w.heap.size + 1, 0, none⟩ = some .nilIface := by rw [Lib.cell_of_heap hR.f1]; rfl
    have z0 := Lib.frozen_of_heap hR.f0 0
    have z1 := Lib.frozen_of_heap hR.f1 0
    have g0 := grown_set wr w.heap.size 0 (.slice o P.length c)
    have s0 := heap_setCell_same wr w.heap.size 0 _ _ (.slice o P.length c) hR.f0
    have h1 := hR.hs.grown g0 (fun k e => by cases e; omega) (fun k e => by cases e; exact own_box hR.hs.own hR.f0 (by decide)) (fun x hx k e => by cases e; exact own_box (hR.hs.ins x hx) hR.f0 (by decide))
    have t1 : (wr.setCell ⟨w.heap.size, 0, none⟩ (.slice o P.length c)).heap[w.heap.size + 1]? = some (.cells #[.nilIface] 31) := (Below.heap_setCell _ _ _ _ (by simp)).trans hR.f1
    have g1 := grown_set (wr.setCell ⟨w.heap.size, 0, none⟩ (.slice o P.length c)) (w.heap.size + 1) 0 .nilIface
    have s1 := heap_setCell_same _ (w.heap.size + 1) 0 _ _ .nilIface t1
    have s2 : ((wr.setCell ⟨w.heap.size, 0, none⟩ (.slice o P.length c)).setCell ⟨w.heap.size + 1, 0, none⟩ .nilIface).heap[w.heap.size]? = _ := (Below.heap_setCell _ _ _ _ (by simp)).trans s0
    have h2 := h1.grown g1 (fun k e => by cases e; omega) (fun k e => by cases e; exact own_box h1.own t1 (by decide)) (fun x hx k e => by cases e; exact own_box (h1.ins x hx) t1 (by decide))
    have c1' : (wr.setCell ⟨w.heap.size, 0, none⟩ (.slice o P.length c)).cell? ⟨w.heap.size + 1, 0, none⟩ = some .nilIface := by rw [Lib.cell_of_heap t1]; rfl
    have z1' := Lib.frozen_of_heap t1 0
    have e0 : ((wr.setCell ⟨w.heap.size, 0, none⟩ (.slice o P.length c)).setCell ⟨w.heap.size + 1, 0, none⟩ .nilIface).cell? ⟨w.heap.size, 0, none⟩ = some (.slice o P.length c) := by rw [Lib.cell_of_heap s2]; rfl
    have e1 : ((wr.setCell ⟨w.heap.size, 0, none⟩ (.slice o P.length c)).setCell ⟨w.heap.size + 1, 0, none⟩ .nilIface).cell? ⟨w.heap.size + 1, 0, none⟩ = some .nilIface := by rw [Lib.cell_of_heap s1]; rfl
    subst hXv
    clear HI HPn HPd hR h1 g0 g1 s0 s1 s2 t1
    go_wp2
    refine leaves_cons (f := 77) (args := #[.pointer (some ⟨w.heap.size, 0, none⟩), .pointer (some ⟨w.heap.size + 1, 0, none⟩)]) (by simp) (by simp [go_sem]) ?_
    refine (catch_idle _ _ _).mono ?_
    rintro e u' w'' ⟨rfl, rfl, rfl⟩
    exact ⟨_, rd_results _ _ w.heap.size (w.heap.size + 1) P.length c o .nilIface rfl rfl e0 e1, _, P, rfl, h2, rfl⟩
end Go.Proofs.YtgiojkhmkeocfaaDoor

/- The reference's hunk of layer 12: what its variables hold. -/
namespace Go.Proofs.YtgiojkhmkeocfaaDoor
open Go.RowKit

/-- hunk's own variables: the result, the hunk -/
structure Sb (w : World) (R H : Nat) (A AN B BN : Int) (m : List Mk) (ov : Value) (u : World) : Prop where
  gr : w.grownBy u (some R)
  hx : Hx u H ⟨A, AN, B, BN, m⟩ ov
  rb : Hx u w.heap.size ⟨0, 0, 0, 0, []⟩ (.slice none 0 0)
  own : u.ownsRow w.heap.size 91 2 ov m.length (mkcells m)
  hR : R < w.heap.size
  hH : w.heap.size < H
section
variable {w u u' : World} {R H : Nat} {A AN B BN : Int} {m : List Mk} {ov : Value} {vL : Value} {p fa fe : Int}
theorem Rx.low (q : Rx u R vL p fa fe) (hb : Below u.heap.size u u') : Rx u' R vL p fa fe := (hb.block R q.lt).trans q
theorem Rx.keep (q : Rx u R vL p fa fe) {g : Option Nat} (hg : u.grownBy u' g) (hr : some R ≠ g) : Rx u' R vL p fa fe := (hg.block R q.lt hr).trans q
theorem Sb.call (h : Sb w R H A AN B BN m ov u) (hg : u.grownBy u' (some R)) : Sb w R H A AN B BN m ov u' :=
  have h1 := h.hR
  have h2 := h.hH
  ⟨grown_two h.gr hg, h.hx.keep hg (fun e => by have := Option.some.inj e; omega), h.rb.keep hg (fun e => by have := Option.some.inj e; omega), owns_fr h.own hg h.hR, h.hR, h.hH⟩
theorem Sb.low (h : Sb w R H A AN B BN m ov u) (hb : Below u.heap.size u u') : Sb w R H A AN B BN m ov u' := h.call (low_grown hb _)
theorem Sb.drew (h : Sb w R H A AN B BN m ov u) : Sb w R H A AN B BN m ov u.drew := h.low (Below.refl _ u).drew
theorem Sb.alloc (h : Sb w R H A AN B BN m ov u) (o : Obj) : Sb w R H A AN B BN m ov (u.alloc o) := h.low ((Below.refl _ u).alloc (Nat.le_refl _) o)
theorem Sb.c1 (h : Sb w R H A AN B BN m ov u) : u.cell? ⟨H, 1, none⟩ = some (.int .i64 AN) := h.hx.cells.2.1
theorem Sb.c3 (h : Sb w R H A AN B BN m ov u) : u.cell? ⟨H, 3, none⟩ = some (.int .i64 BN) := h.hx.cells.2.2.2.1
theorem Sb.c4 (h : Sb w R H A AN B BN m ov u) : u.cell? ⟨H, 4, none⟩ = some ov := h.hx.cells.2.2.2.2
/-- one line more -/
theorem Sb.more (h : Sb w R H A AN B BN m ov u) {x : Mk} {ov' : Value} (hg : u.grownBy u' ov.ownBlock) (ho : u'.ownsRow w.heap.size 91 2 ov' (m.length + 1) (mkcells m ++ mkcells [x])) :
    Sb w R H A AN B BN (m ++ [x]) ov' (u'.setCell ⟨H, 4, none⟩ ov') ∧ u'.cell? ⟨H, 4, none⟩ = some ov ∧ u'.frozen? ⟨H, 4, none⟩ = false ∧ u'.cell? ⟨H, 1, none⟩ = some (.int .i64 AN) ∧ u'.cell? ⟨H, 3, none⟩ = some (.int .i64 BN) ∧ (∀ {vL : Value} {p fa fe : Int}, Rx u R vL p fa fe → Rx (u'.setCell ⟨H, 4, none⟩ ov') R vL p fa fe) := by
  have h1 := h.hR
  have h2 := h.hH
  have hne : ∀ k : Nat, (∃ cs t fr, u.heap[k]? = some (Obj.cells cs t fr) ∧ 91 ≠ t) → some k ≠ ov.ownBlock := fun k ⟨cs, t, fr, hk, ht⟩ e => own_box h.own hk ht e.symm
  have hxu : Hx u' H ⟨A, AN, B, BN, m⟩ ov := h.hx.keep hg (hne H ⟨_, _, _, h.hx, by decide⟩)
  have rbu : Hx u' w.heap.size ⟨0, 0, 0, 0, []⟩ (.slice none 0 0) := h.rb.keep hg (hne _ ⟨_, _, _, h.rb, by decide⟩)
  have g4 := grown_set u' H 4 ov'
  have hneR : ∀ {vL : Value} {p fa fe : Int}, Rx u R vL p fa fe → some R ≠ ov.ownBlock := fun q => hne R ⟨_, _, _, q, by decide⟩
  refine ⟨⟨?_, hxu.put4 _ _, rbu.keep g4 (fun e => by have := Option.some.inj e; omega), ?_, h.hR, h.hH⟩, hxu.cells.2.2.2.2, hxu.frozen 4, hxu.cells.2.1, hxu.cells.2.2.2.1, fun q => (q.keep hg (hneR q)).keep g4 (fun e => by have := Option.some.inj e; omega)⟩
  · refine ⟨(g4.os.trans hg.os).trans h.gr.os, (g4.tape.trans hg.tape).trans h.gr.tape, (g4.output.trans hg.output).trans h.gr.output, Nat.le_trans h.gr.size (Nat.le_trans hg.size g4.size), fun k hk hr => ?_⟩
    rw [g4.block k (Nat.lt_of_lt_of_le hk (Nat.le_trans h.gr.size hg.size)) (fun e => by have := Option.some.inj e; omega), hg.block k (Nat.lt_of_lt_of_le hk h.gr.size) (fun e => by have := owns_ge h.own e.symm; omega)]
    exact h.gr.block k hk hr
  · have e1 : (m ++ [x]).length = m.length + 1 := by simp
    rw [e1, mkcells_append]
    exact ho.kept g4 (.inr (own_box ho hxu (by decide)))
end
theorem rdN_take {sg : List UInt8} {S : Int} {n p p1 : Nat} {ls r : List (List UInt8)} {t : List UInt8} {last : Bool} (hl : (n == 0) = last) (h : mkd sg last p ls = .ok (t, p1, r)) (m : List Mk) : thenL m (rdN sg S (n + 1) p ls) = thenL (m ++ [⟨S, t⟩]) (rdN sg S n p1 r) := by
  simp only [rdN]
  rw [hl, h]
  dsimp only
  rcases rdN sg S n p1 r with e | ⟨l, p2, r2⟩
  · rfl
  · simp [thenL]
theorem rdN_stop {sg : List UInt8} {S : Int} {n p : Nat} {ls : List (List UInt8)} {e : Nat × Int} {last : Bool} (hl : (n == 0) = last) (h : mkd sg last p ls = .error e) (m : List Mk) : thenL m (rdN sg S (n + 1) p ls) = .error e := by
  simp only [rdN]
  rw [hl, h]
  rfl
theorem mkd_le {sg : List UInt8} {last : Bool} {p p1 : Nat} {ls r : List (List UInt8)} {t : List UInt8} (h : mkd sg last p ls = .ok (t, p1, r)) : p1 ≤ p + 2 := by
  unfold mkd at h
  split at h
  · cases h
  · split at h
    · split at h
      · split at h
        · cases h
        · cases h
          omega
      · cases h
        omega
    · cases h
/-- where the reader stands -/
def AlR (R : Nat) (vL : Value) (L : List (List UInt8)) (fa : Int) (sg : List UInt8) (S : Int) (Y : Except (Nat × Int) (List Mk × Nat × List (List UInt8))) (b n : Nat) (m : List Mk) (u : World) : Prop :=
  (∃ pn : Nat, Rx u R vL (pn : Int) fa 0 ∧ pn ≤ b ∧ thenL m (rdN sg S n pn (L.drop pn)) = Y) ∨ (∃ (p' : Int) (a : Nat) (fe : Int), Rx u R vL p' (a : Int) fe ∧ fe ≠ 0 ∧ Y = .error (a, fe))
/-- where the reader stands behind a line's text t -/
def NxR (R : Nat) (vL : Value) (L : List (List UInt8)) (fa : Int) (sg : List UInt8) (S : Int) (Y : Except (Nat × Int) (List Mk × Nat × List (List UInt8))) (b n : Nat) (m : List Mk) (t : List UInt8) (u : World) : Prop := AlR R vL L fa sg S Y b n (m ++ [⟨S, t⟩]) u
theorem NxR.on {R : Nat} {vL : Value} {L : List (List UInt8)} {fa : Int} {sg : List UInt8} {S : Int} {Y : Except (Nat × Int) (List Mk × Nat × List (List UInt8))} {b n : Nat} {m : List Mk} {t : List UInt8} {u u' : World} (h : NxR R vL L fa sg S Y b n m t u) (hk : ∀ {vL : Value} {p fa fe : Int}, Rx u R vL p fa fe → Rx u' R vL p fa fe) : AlR R vL L fa sg S Y b n (m ++ [⟨S, t⟩]) u' := by
  rcases h with ⟨pn, h1, h2, h3⟩ | ⟨p', a, fe, h1, h2, h3⟩
  · exact .inl ⟨pn, hk h1, h2, h3⟩
  · exact .inr ⟨p', a, fe, hk h1, h2, h3⟩
theorem sub_one {u : World} {z : Int} (h0 : 0 ≤ z) (h1 : z ≤ 4398046511104) {op : Oper} (x : Operand) (ho : op.op = .binOp .sub 3 x (.const (.int .i64 1)) 3) {ev : Operand → Value} (hx : ev x = .int .i64 z) (hc : ev (.const (.int .i64 1)) = .int .i64 1) :
    (execOp ev op).run Tryd.prog u = .ok (.value (.int .i64 (z - 1))) u := by
  have e : wrap64 (z - 1) = z - 1 := by unfold wrap64; omega
  have e2 : IntKind.i64.wrap (z - 1) = z - 1 := (by simp [IntKind.wrap, IntKind.bits, IntKind.signed]; omega)
  simp only [execOp, ho, hx, hc]
  go_simp
/-- the reader's next line, whatever it is -/
def NeQ (R : Nat) (vL : Value) (p : Nat) (fa : Int) (Z : Except (Nat × Int) (List UInt8 × List (List UInt8))) (x : Ending) (w' : World) : Prop :=
  match Z with
  | .error (a, e) => x = .returned (.string ⟨#[]⟩) ∧ (∃ p', Rx w' R vL p' (a : Int) e) ∧ e ≠ 0
  | .ok (s, _) => x = .returned (.string ⟨s.toArray⟩) ∧ Rx w' R vL ((p + 1 : Nat) : Int) fa 0
theorem rNext_f {R : Nat} {L : List (List UInt8)} {lo : Option Addr} {lc : Nat} {p : Nat} {fa : Int} (w : World) (q : Rx w R (.slice lo L.length lc) p fa 0) (hL : HS w (.slice lo L.length lc) L) (hR : ∀ a, lo = some a → a.block ≠ R) (hp : p ≤ 4398046511104) (hs : ∀ s ∈ L, s.length ≤ 1099511627776)
    (Z : Except (Nat × Int) (List UInt8 × List (List UInt8))) (hZ : nxt p (L.drop p) = Z) :
    Calls Tryd.prog 82 #[.pointer (some ⟨R, 0, none⟩)] w fun x w' => NeQ R (.slice lo L.length lc) p fa Z x w' ∧ w.grownBy w' (some R) := by
  by_cases hlt : p < L.length
  · rw [nxt_drop hlt] at hZ
    have hsl := hs L[p] (List.getElem_mem hlt)
    cases hf : fdB L[p] with
    | true =>
      rw [if_pos hf] at hZ
      subst hZ
      refine (rNext_ok w q hL hR hp hlt rfl hsl hf).mono ?_
      rintro x w' ⟨rfl, h1, h2⟩
      exact ⟨⟨rfl, by simpa using h1⟩, h2⟩
    | false =>
      rw [if_neg (by rw [hf]; decide)] at hZ
      subst hZ
      refine (rNext_bad w q hL hR hp hlt rfl hsl hf).mono ?_
      rintro x w' ⟨rfl, h1, h2⟩
      exact ⟨⟨rfl, ⟨_, by simpa using h1⟩, by decide⟩, h2⟩
  · rw [nxt_end (by omega)] at hZ
    subst hZ
    refine (rNext_end w q hL hR hp (by omega)).mono ?_
    rintro x w' ⟨rfl, h1, h2⟩
    exact ⟨⟨rfl, ⟨_, by simpa using h1⟩, by decide⟩, h2⟩
/-- where the reader stands behind a hunk -/
def EdR (R : Nat) (vL : Value) (L : List (List UInt8)) (fa : Int) (X : Except (Nat × Int) (Hk × Nat × List (List UInt8))) (h : Hk) (w' : World) : Prop :=
  match X with
  | .error (a, e) => (∃ p', Rx w' R vL p' (a : Int) e) ∧ e ≠ 0
  | .ok (h1, p1, r) => h = h1 ∧ Rx w' R vL (p1 : Int) fa 0 ∧ L.drop p1 = r
/-- what the reference's hunk leaves behind -/
def HkR (w : World) (R : Nat) (vL : Value) (L : List (List UInt8)) (fa : Int) (X : Except (Nat × Int) (Hk × Nat × List (List UInt8))) (x : Ending) (w' : World) : Prop :=
  ∃ h v, x = .returned (hkV h v) ∧ w'.ownsRow w.heap.size 91 2 v h.ls.length (mkcells h.ls) ∧ w.grownBy w' (some R) ∧ EdR R vL L fa X h w'
/-- five cells written -/
def put5 (u : World) (b : Nat) (A AN B BN : Int) (v : Value) : World := ((((u.setCell ⟨b, 0, none⟩ (.int .i64 A)).setCell ⟨b, 1, none⟩ (.int .i64 AN)).setCell ⟨b, 2, none⟩ (.int .i64 B)).setCell ⟨b, 3, none⟩ (.int .i64 BN)).setCell ⟨b, 4, none⟩ v
theorem Sb.done {w u : World} {R H : Nat} {A AN B BN : Int} {m : List Mk} {ov : Value} (h : Sb w R H A AN B BN m ov u) :
    (put5 u w.heap.size A AN B BN ov).heap[w.heap.size]? = some (.cells #[.int .i64 A, .int .i64 AN, .int .i64 B, .int .i64 BN, ov] 43) ∧ (put5 u w.heap.size A AN B BN ov).ownsRow w.heap.size 91 2 ov m.length (mkcells m) ∧ w.grownBy (put5 u w.heap.size A AN B BN ov) (some R) ∧ ∀ {vL : Value} {p fa fe : Int}, Rx u R vL p fa fe → Rx (put5 u w.heap.size A AN B BN ov) R vL p fa fe := by
  have h1 := h.hR
  have hn : (some R : Option Nat) ≠ some w.heap.size := fun e => by have := Option.some.inj e; omega
  refine ⟨h.rb.putH5 A AN B BN m ov, five_own h.own (b := w.heap.size) (own_box h.own h.rb (by decide)) A AN B BN ov, ?_, fun q => ((((q.keep (grown_set _ _ 0 _) hn).keep (grown_set _ _ 1 _) hn).keep (grown_set _ _ 2 _) hn).keep (grown_set _ _ 3 _) hn).keep (grown_set _ _ 4 _) hn⟩
  exact ((((grown_new h.gr (B := w.heap.size) (Nat.le_refl _) 0 (.int .i64 A)) |> fun h => grown_new h (B := w.heap.size) (Nat.le_refl _) 1 (.int .i64 AN)) |> fun h => grown_new h (B := w.heap.size) (Nat.le_refl _) 2 (.int .i64 B)) |> fun h => grown_new h (B := w.heap.size) (Nat.le_refl _) 3 (.int .i64 BN)) |> fun h => grown_new h (B := w.heap.size) (Nat.le_refl _) 4 ov
/-- a hunk of the lines that were read -/
def hkF (A AN B BN : Int) (Y : Except (Nat × Int) (List Mk × Nat × List (List UInt8))) : Except (Nat × Int) (Hk × Nat × List (List UInt8)) :=
  match Y with
  | .error e => .error e
  | .ok (l, p3, r3) => .ok (⟨A, AN, B, BN, l⟩, p3, r3)
end Go.Proofs.YtgiojkhmkeocfaaDoor

/- The lines of a text: Split of layer lines and of the reference, walked anew over the normal form's texts. -/
namespace Go.Proofs.YtgiojkhmkeocfaaDoor
open Ln Go.RowKit
attribute [local go_sem] no_at ByteArray.extract_mk

theorem sc_snoc (ws : List (List UInt8)) (a : List UInt8) : scells (ws ++ [a]) = scells ws ++ [.string ⟨a.toArray⟩] := by simp [scells]
theorem sp_one (a : ByteArray) : ∀ u ∈ [Value.string a], u.oneCell' = true := by intro u hu; simp at hu; subst hu; rfl
theorem sp_cells (w : World) (C : List Value) (t : TypeId) : ∀ j u, C[j]? = some u → (w.alloc (.cells C.toArray t)).cell? ((⟨w.heap.size, 0, none⟩ : Addr).add j) = some u := by
  intro j u hj
  have hadd : (⟨w.heap.size, 0, none⟩ : Addr).add j = ⟨w.heap.size, j, none⟩ := by unfold Addr.add; split <;> simp_all
  rw [hadd, cell_of_row _ w.heap.size j C.toArray t (0, 0) (_root_.Go.heap_alloc_new w _)]
  simpa using hj

theorem sp_is10 {x : UInt8} (h : x = 10) : ((x.toNat : Int) == 10) = true ∧ ((x.toNat : Int) != 10) = false := by subst h; exact ⟨rfl, rfl⟩
theorem sp_not10 {x : UInt8} (h : x ≠ 10) : ((x.toNat : Int) == 10) = false ∧ ((x.toNat : Int) != 10) = true := by
  have h1 : x.toNat ≠ 10 := fun e => h (UInt8.toNat_inj.1 (by simpa using e))
  have h2 : ((x.toNat : Int) == 10) = false := beq_eq_false_iff_ne.2 (by omega)
  exact ⟨h2, by unfold bne; rw [h2]; rfl⟩

def sizeT : Value → Nat
  | .string s => s.size
  | _ => 0
theorem sizeT_mk (r : List UInt8) : sizeT (.string ⟨r.toArray⟩) = r.length := rfl
theorem acc_le {acc : List (List UInt8)} {r l : List UInt8} (h : acc ++ splitL r = splitL l) : acc.length ≤ l.length := by
  have h1 := congrArg List.length h
  have h2 := split_len l
  rw [List.length_append] at h1
  omega

set_option maxRecDepth 20000 in
set_option maxHeartbeats 2000000 in
theorem nSplit_f (l : List UInt8) (w : World) (hl : l.length ≤ 1099511627776) :
    Calls Tryd.prog 39 #[.string ⟨l.toArray⟩] w fun e w' => ∃ v, e = .returned v ∧ w'.ownsRow w.heap.size 9 1 v (splitL l).length (scells (splitL l)) ∧ Below w.heap.size w w' := by
  obtain ⟨i0, hi, hz0, hz1, hz2⟩ := info_parts infoStr
  go_enter Tryd.func39, Tryd.ntmps39
  go_wp2
  go_loopw [0, 3, 4] (fun s acc _ wr => ∃ (xs : List (List UInt8)) (r : List UInt8), s = .string ⟨r.toArray⟩ ∧ wr.ownsRow w.heap.size 9 1 acc xs.length (scells xs) ∧ Below w.heap.size w wr ∧ r.length ≤ l.length ∧ xs ++ splitL r = splitL l) (fun s _ _ _ => sizeT s)
  case atStart => exact ⟨[], l, rfl, World.ownsRow_nil _ _ _ _, Below.refl _ _, Nat.le_refl _, rfl⟩
  case round =>
    obtain ⟨acc, r, rfl, hown, hbr, hrl, hw⟩ := hrel
    have hacc := acc_le hw
    have HW : Hid (acc ++ splitL r = splitL l) := hw
    clear hw
    have hbz := hbr.size
    obtain ⟨ao, cap, rfl⟩ := (holds_of hown).form
    rcases Int.lt_or_le (Lib.indexByte r 10) 0 with hq | hq
    · obtain ⟨q1, q2⟩ := index_none hq
      clear hq
      cases r with
      | nil =>
        have HE : Hid (splitL l = acc) := by have := HW.out; show _ = _; simpa [splitL] using this.symm
        go_wp2_with fail
        refine (Tryd.strings_Index_one ⟨([] : List UInt8).toArray⟩ 10 _).mono ?_
        rintro e w1 ⟨rfl, rfl⟩
        go_wp2
        go_ret
        rw [HE.out]
        exact ⟨_, rfl, hown, hbr⟩
      | cons c t =>
        have HE : Hid (splitL l = acc ++ [c :: t]) := by
          have := HW.out
          rw [split_one _ q2 (by simp)] at this
          exact this.symm
        clear q2
        go_wp2_with fail
        refine (Tryd.strings_Index_one ⟨(c :: t).toArray⟩ 10 _).mono ?_
        rintro e w1 ⟨rfl, rfl⟩
        have hi2 : Lib.indexByte (⟨(c :: t).toArray⟩ : ByteArray).data.toList 10 = -1 := q1
        rw [hi2]
        go_wp2_with (at_builtin; refine wpList_append_own _ rfl _ _ 23 rfl w.heap.size 9 i0 (.string ⟨#[]⟩) 1 16 Tryd.underlying23 hi hz0 hz1 hz2 rfl (by decide) _ _ _ rfl (hown.alloc _) ⟨w1.heap.size, 0, none⟩ 1 1 [.string ⟨(c :: t).toArray⟩] rfl rfl (sp_cells _ _ _) (sp_one _) ?c3 ?c4 ?c5 ?_)
        case c3 => unfold maxLen; omega
        case c4 => omega
        case c5 => simp; omega
        intro v' w3 hown3 hgrow hfr
        have hbr3 := (hbr.alloc hbz (.cells #[.string ⟨(c :: t).toArray⟩] 9)).grown hgrow (by simp; omega) (fun j hj => (hown.lt j hj).1)
        go_wp2
        go_ret
        rw [HE.out, sc_snoc]
        exact ⟨_, rfl, by simpa using hown3, hbr3⟩
    · obtain ⟨a, b, rfl, hn, he⟩ := index_some hq
      have HE : Hid (acc ++ [a ++ [10]] ++ splitL b = splitL l) := by
        have := HW.out
        rw [split_cut a b hn] at this
        show _ = _
        simpa using this
      clear hn hq
      have hlen : (a ++ 10 :: b).length = a.length + 1 + b.length := by simp; omega
      have ht : (a ++ 10 :: b).take (a.length + 1) = a ++ [10] := by
        rw [show a ++ 10 :: b = (a ++ [10]) ++ b by simp, List.take_left' (by simp)]
      have hd : (a ++ 10 :: b).drop (a.length + 1) = b := by
        rw [show a ++ 10 :: b = (a ++ [10]) ++ b by simp, List.drop_left' (by simp)]
      generalize a ++ 10 :: b = r at *
      have i1 : 0 ≤ (a.length : Int) + 1 := by omega
      have i2 : (a.length : Int) + 1 ≤ (r.length : Int) := by omega
      have i3 : ((a.length : Int) + 1).toNat = a.length + 1 := by omega
      go_wp2_with fail
      refine (Tryd.strings_Index_one ⟨r.toArray⟩ 10 _).mono ?_
      rintro e w1 ⟨rfl, rfl⟩
      have hi2 : Lib.indexByte (⟨r.toArray⟩ : ByteArray).data.toList 10 = a.length := he
      rw [hi2]
      go_wp2_with (at_builtin; refine wpList_append_own _ rfl _ _ 23 rfl w.heap.size 9 i0 (.string ⟨#[]⟩) 1 16 Tryd.underlying23 hi hz0 hz1 hz2 rfl (by decide) _ _ _ rfl (hown.alloc _) ⟨w1.heap.size, 0, none⟩ 1 1 [.string ⟨(a ++ [10]).toArray⟩] rfl rfl (sp_cells _ _ _) (sp_one _) ?c3 ?c4 ?c5 ?_)
      case c3 => unfold maxLen; omega
      case c4 => omega
      case c5 => simp; omega
      intro v' w3 hown3 hgrow hfr
      have hbr3 := (hbr.alloc hbz (.cells #[.string ⟨(a ++ [10]).toArray⟩] 9)).grown hgrow (by simp; omega) (fun j hj => (hown.lt j hj).1)
      go_wp2
      go_roundw
      case rel => exact ⟨acc ++ [a ++ [10]], b, rfl, by rw [sc_snoc]; simpa using hown3, hbr3, by omega, HE.out⟩
      case measure => rw [sizeT_mk, sizeT_mk]; omega
def Clean (l : List UInt8) (p k : Nat) : Prop := ∀ c ∈ (l.drop p).take (k - p), c ≠ 10

theorem clean_refl (l : List UInt8) (k : Nat) : Clean l k k := by intro c hc; simp at hc
theorem clean_step {l : List UInt8} {p k : Nat} (h : Clean l p k) (hp : p ≤ k) (hk : k < l.length) (h10 : l[k] ≠ 10) : Clean l p (k + 1) := by
  intro c hc
  rw [show k + 1 - p = (k - p) + 1 by omega, List.take_succ_eq_append_getElem (by simp; omega)] at hc
  simp only [List.mem_append, List.mem_singleton] at hc
  rcases hc with hc | hc
  · exact h c hc
  · rw [hc]
    simpa [show p + (k - p) = k by omega] using h10
theorem clean_feed {l : List UInt8} {p k : Nat} (h : Clean l p k) (hp : p ≤ k) (hk : k < l.length) (h10 : l[k] = 10) : splitL (l.drop p) = (l.drop p).take (k + 1 - p) :: splitL (l.drop (k + 1)) := by
  have e : l.drop p = (l.drop p).take (k - p) ++ 10 :: l.drop (k + 1) := by
    have h1 := (List.take_append_drop (k - p) (l.drop p)).symm
    rw [List.drop_drop, show p + (k - p) = k by omega, List.drop_eq_getElem_cons hk, h10] at h1
    exact h1
  have e2 : (l.drop p).take (k + 1 - p) = (l.drop p).take (k - p) ++ [10] := by
    rw [show k + 1 - p = (k - p) + 1 by omega, List.take_succ_eq_append_getElem (by simp; omega)]
    simp [show p + (k - p) = k by omega, h10]
  rw [e2]
  conv => lhs; rw [e]
  exact split_cut _ _ h
theorem clean_end {l : List UInt8} {p : Nat} (h : Clean l p l.length) (hp : p < l.length) : splitL (l.drop p) = [l.drop p] := by
  refine split_one _ (fun c hc => h c ?_) (by intro e; have := congrArg List.length e; simp at this; omega)
  rw [List.take_of_length_le (by simp)]
  exact hc

set_option maxHeartbeats 2000000 in
theorem rSplit_f (l : List UInt8) (w : World) (hl : l.length ≤ 1099511627776) :
    Calls Tryd.prog 80 #[.string ⟨l.toArray⟩] w fun e w' => ∃ v, e = .returned v ∧ w'.ownsRow w.heap.size 9 1 v (splitL l).length (scells (splitL l)) ∧ Below w.heap.size w w' := by
  obtain ⟨i0, hi, hz0, hz1, hz2⟩ := info_parts infoStr
  go_enter Tryd.func80, Tryd.ntmps80
  go_wp2
  go_loopw [3, 4, 5] (fun acc ap i wr => ∃ (xs : List (List UInt8)) (p k : Nat), p ≤ k ∧ k ≤ l.length ∧ ap = .int .i64 p ∧ i = .int .i64 k ∧ wr.ownsRow w.heap.size 9 1 acc xs.length (scells xs) ∧ Below w.heap.size w wr ∧ Hid (Clean l p k) ∧ Hid (xs ++ splitL (l.drop p) = splitL l)) (fun _ _ i _ => l.length - (intOf i).toNat)
  case atStart => exact ⟨[], 0, 0, Nat.le_refl _, Nat.zero_le _, rfl, rfl, World.ownsRow_nil _ _ _ _, Below.refl _ _, clean_refl _ _, rfl⟩
  case round =>
    obtain ⟨acc, p, k, hp, hk, rfl, rfl, hown, hbr, HC, HW⟩ := hrel
    have hacc := acc_le HW.out
    have hbz := hbr.size
    obtain ⟨ao, cap, rfl⟩ := (holds_of hown).form
    by_cases hlt : k < l.length
    · by_cases h10 : l[k] = 10
      · have hb := (sp_is10 h10).1
        have HE : Hid (acc ++ [(l.drop p).take (k + 1 - p)] ++ splitL (l.drop (k + 1)) = splitL l) := by
          have := HW.out
          rw [clean_feed HC.out hp hlt h10] at this
          show _ = _
          simpa using this
        clear h10
        go_wp2_with (at_builtin; refine wpList_append_own _ rfl _ _ 23 rfl w.heap.size 9 i0 (.string ⟨#[]⟩) 1 16 Tryd.underlying23 hi hz0 hz1 hz2 rfl (by decide) _ _ _ rfl (hown.alloc _) ⟨wr.heap.size, 0, none⟩ 1 1 [.string ⟨((l.drop p).take (k + 1 - p)).toArray⟩] rfl rfl (sp_cells _ _ _) (sp_one _) ?c3 ?c4 ?c5 ?_)
        case c3 => unfold maxLen; omega
        case c4 => omega
        case c5 => simp; omega
        intro v' w3 hown3 hgrow hfr
        have hbr3 := (hbr.alloc hbz (.cells #[.string ⟨((l.drop p).take (k + 1 - p)).toArray⟩] 9)).grown hgrow (by simp; omega) (fun j hj => (hown.lt j hj).1)
        go_wp2
        go_roundw
        case rel => exact ⟨acc ++ [(l.drop p).take (k + 1 - p)], k + 1, k + 1, Nat.le_refl _, by omega, by go_num, by go_num, by rw [sc_snoc]; simpa using hown3, hbr3, clean_refl _ _, HE.out⟩
        case measure => simp [intOf]; omega
      · have hb := (sp_not10 h10).1
        have HD : Hid (Clean l p (k + 1)) := clean_step HC.out hp hlt h10
        clear h10
        go_wp2
        go_roundw
        case rel => exact ⟨acc, p, k + 1, by omega, by omega, rfl, by go_num, hown, hbr, HD, HW⟩
        case measure => simp [intOf]; omega
    · have hke : k = l.length := by omega
      subst hke
      by_cases hpl : p < l.length
      · have HE : Hid (splitL l = acc ++ [(l.drop p).take (l.length - p)]) := by
          have := HW.out
          rw [clean_end HC.out hpl] at this
          show _ = _
          rw [List.take_of_length_le (by simp)]
          exact this.symm
        go_wp2_with (at_builtin; refine wpList_append_own _ rfl _ _ 23 rfl w.heap.size 9 i0 (.string ⟨#[]⟩) 1 16 Tryd.underlying23 hi hz0 hz1 hz2 rfl (by decide) _ _ _ rfl (hown.alloc _) ⟨wr.heap.size, 0, none⟩ 1 1 [.string ⟨((l.drop p).take (l.length - p)).toArray⟩] rfl rfl (sp_cells _ _ _) (sp_one _) ?c3 ?c4 ?c5 ?_)
        case c3 => unfold maxLen; omega
        case c4 => omega
        case c5 => simp; omega
        intro v' w3 hown3 hgrow hfr
        have hbr3 := (hbr.alloc hbz (.cells #[.string ⟨((l.drop p).take (l.length - p)).toArray⟩] 9)).grown hgrow (by simp; omega) (fun j hj => (hown.lt j hj).1)
        go_wp2
        go_ret
        rw [HE.out, sc_snoc]
        exact ⟨_, rfl, by simpa using hown3, hbr3⟩
      · have HE : Hid (splitL l = acc) := by
          have := HW.out
          rw [List.drop_of_length_le (by omega)] at this
          show _ = _
          simpa [splitL] using this.symm
        go_wp2
        go_ret
        rw [HE.out]
        exact ⟨_, rfl, hown, hbr⟩
end Go.Proofs.YtgiojkhmkeocfaaDoor
