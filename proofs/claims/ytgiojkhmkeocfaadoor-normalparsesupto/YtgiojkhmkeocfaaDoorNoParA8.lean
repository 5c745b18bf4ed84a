/-
  Texts that belong together, joined: NpRh.
-/
import Derived.Test.YtgiojkhmkeocfaaDoorNoParA6

/- The reference's hunk of layer 12, walked. -/
namespace Go.Proofs.YtgiojkhmkeocfaaDoor
open Go.RowKit

set_option maxHeartbeats 16000000 in
set_option maxRecDepth 20000 in
theorem rhunk_f {R : Nat} {L : List (List UInt8)} {lo : Option Addr} {lc : Nat} {p : Nat} {fa : Int} (w : World) (q : Rx w R (.slice lo L.length lc) p fa 0) (HL : Hid (∀ u, w.grownBy u (some R) → HS u (.slice lo L.length lc) L)) (hRl : ∀ a, lo = some a → a.block ≠ R) (hp : p ≤ L.length) (hLl : L.length ≤ 1048576) (HSl : Hid (∀ s ∈ L, s.length ≤ 1048576))
    (k : Nat) (hk : k ≤ 1099511627776) (X : Except (Nat × Int) (Hk × Nat × List (List UInt8))) (HX : Hid (hkP k p (L.drop p) = X)) :
    Calls Tryd.prog 42 #[.pointer (some ⟨R, 0, none⟩), .int .i64 (k : Int)] w fun x w' => HkR w R (.slice lo L.length lc) L fa X x w' := by
  have hRw := q.lt
  have HSl2 : Hid (∀ s ∈ L, s.length ≤ 1099511627776) := fun s hs => by have := HSl.out s hs; omega
  have hr0 := Hx.new w ⟨0, 0, 0, 0, []⟩ (.slice none 0 0)
  have g0 : w.grownBy (w.alloc (hkO ⟨0, 0, 0, 0, []⟩ (.slice none 0 0))) (some R) := World.grownBy_alloc w _ _
  have q0 : Rx (w.alloc (hkO ⟨0, 0, 0, 0, []⟩ (.slice none 0 0))) R (.slice lo L.length lc) p fa 0 := q.low ((Below.refl _ w).alloc (Nat.le_refl _) _)
  have HZ0 : Hid ((w.alloc (hkO ⟨0, 0, 0, 0, []⟩ (.slice none 0 0))).heap.size = w.heap.size + 1) := (by show _ = _; simp)
  have hW0 : w.alloc (.cells #[.int .i64 0, .int .i64 0, .int .i64 0, .int .i64 0, .slice none 0 0] 43) = w.alloc (hkO ⟨0, 0, 0, 0, []⟩ (.slice none 0 0)) := rfl
  obtain ⟨Z, hZ⟩ : ∃ Z, nxt p (L.drop p) = Z := ⟨_, rfl⟩
  have hX := HX.out
  clear HX q
  unfold hkP at hX
  rw [hZ] at hX
  go_enter Tryd.func42, Tryd.ntmps42
  go_wp2_with fail
  generalize w.alloc (hkO ⟨0, 0, 0, 0, []⟩ (.slice none 0 0)) = W0 at *
  clear hW0
  refine (rNext_f W0 q0 (HL.out W0 g0) hRl (by omega) HSl2.out Z hZ).mono ?_
  rintro x w1 ⟨hq1, hg1⟩
  have hr1 := hr0.keep hg1 (fun e => by have := Option.some.inj e; omega)
  have g1 := grown_two g0 hg1
  have hz1 : w.heap.size + 1 ≤ w1.heap.size := (by have := HZ0.out; have := hg1.size; omega)
  clear q0 hr0 g0 HZ0 hg1
  cases Z with
  | error z =>
    obtain ⟨a, fe⟩ := z
    obtain ⟨rfl, ⟨p', hq⟩, hfe⟩ := hq1
    dsimp only at hX
    subst hX
    go_wp2_with fail
    refine (rcommand_f [] (by simp) w1).mono ?_
    rintro x w2 ⟨hCP, hb2⟩
    have q2 := hq.low hb2
    have hr2 := hr1.low hb2
    have g2 := grown_two g1 (low_grown hb2 _)
    have hz2 : w.heap.size + 1 ≤ w2.heap.size := (by have := hb2.size; omega)
    clear hq hr1 g1 hb2 hz1
    unfold CmdP at hCP
    have hcn : cmdP [] = none := rfl
    rw [hcn] at hCP
    dsimp only at hCP
    obtain ⟨A, AN, B, BN, rfl⟩ := hCP
    have hS3 : Sb w R w2.heap.size A AN B BN [] (.slice none 0 0) (w2.alloc (hkO ⟨A, AN, B, BN, []⟩ (.slice none 0 0))) := ⟨grown_two g2 (World.grownBy_alloc w2 _ _), Hx.new w2 _ _, hr2.low ((Below.refl _ w2).alloc (Nat.le_refl _) _), hnil_row _ _ _ _, hRw, by omega⟩
    have q3 := q2.low ((Below.refl _ w2).alloc (Nat.le_refl _) (hkO ⟨A, AN, B, BN, []⟩ (.slice none 0 0)))
    clear q2 hr2 g2
    unfold hkV
    dsimp only
    unfold hkO at hS3 q3
    dsimp only at hS3 q3
    go_wp2_with fail
    refine (rFail_no 3 _ q3 hfe).mono ?_
    rintro x w4 ⟨rfl, rfl⟩
    generalize w2.alloc (.cells #[.int .i64 A, .int .i64 AN, .int .i64 B, .int .i64 BN, .slice none 0 0] 43) = w3 at *
    have hS := hS3
    have HE : Hid ((∀ {vL : Value} {p fa fe : Int}, Rx w3 R vL p fa fe → Rx (put5 w3 w.heap.size A AN B BN (.slice none 0 0)) R vL p fa fe) → EdR R (.slice lo L.length lc) L fa (.error (a, fe)) ⟨A, AN, B, BN, []⟩ (put5 w3 w.heap.size A AN B BN (.slice none 0 0))) := fun h => ⟨⟨_, h q3⟩, hfe⟩
    clear q3 hS3
    obtain ⟨x0, x1, x2, x3, x4⟩ := hS.hx.cells
    dsimp only at x0 x1 x2 x3 x4
    obtain ⟨y0, y1, y2, y3, y4⟩ := hS.rb.cells
    have yf0 := hS.rb.frozen 0
    have yf1 := hS.rb.frozen 1
    have yf2 := hS.rb.frozen 2
    have yf3 := hS.rb.frozen 3
    have yf4 := hS.rb.frozen 4
    obtain ⟨hP, hownP, hgP, hrP⟩ := hS.done
    have HEnd0 := HE.out hrP
    unfold put5 at hP hownP hgP HEnd0
    have HP : Hid (_ = _) := hP
    have HOWN : Hid _ := hownP
    have HGP : Hid _ := hgP
    have HEnd : Hid _ := HEnd0
    clear hrP hS HE hP hownP hgP HEnd0
    go_wp2
    exact bodyPost_ret (v := hkV ⟨A, AN, B, BN, []⟩ (.slice none 0 0)) (results_cell_row rfl _ _ w.heap.size 43 #[.int .i64 A, .int .i64 AN, .int .i64 B, .int .i64 BN, .slice none 0 0] (0, 0) _ rfl HP.out Tryd.underlying43 rfl (by kernel_rfl)) rfl ⟨_, _, rfl, hnil_row _ _ _ _, HGP.out, HEnd.out⟩
  | ok z =>
    obtain ⟨s, r⟩ := z
    obtain ⟨rfl, hq1⟩ := hq1
    dsimp only at hX
    obtain ⟨hr, hpl, _, hLp⟩ := nxt_rest hZ
    subst hr
    have hsl := HSl.out L[p] (List.getElem_mem hpl)
    rw [hLp, List.length_append] at hsl
    simp only [List.length_cons, List.length_nil] at hsl
    clear hZ hLp
    go_wp2_with fail
    refine (rcommand_f s (by omega) w1).mono ?_
    rintro x w2 ⟨hCP, hb2⟩
    have q2 := hq1.low hb2
    have hr2 := hr1.low hb2
    have g2 := grown_two g1 (low_grown hb2 _)
    have hz2 : w.heap.size + 1 ≤ w2.heap.size := (by have := hb2.size; omega)
    clear hq1 hr1 g1 hb2 hz1
    unfold CmdP at hCP
    cases hc : cmdP s with
    | none =>
      rw [hc] at hCP hX
      dsimp only at hCP hX
      subst hX
      obtain ⟨A, AN, B, BN, rfl⟩ := hCP
      have hS3 : Sb w R w2.heap.size A AN B BN [] (.slice none 0 0) (w2.alloc (hkO ⟨A, AN, B, BN, []⟩ (.slice none 0 0))) := ⟨grown_two g2 (World.grownBy_alloc w2 _ _), Hx.new w2 _ _, hr2.low ((Below.refl _ w2).alloc (Nat.le_refl _) _), hnil_row _ _ _ _, hRw, by omega⟩
      have q3 := q2.low ((Below.refl _ w2).alloc (Nat.le_refl _) (hkO ⟨A, AN, B, BN, []⟩ (.slice none 0 0)))
      clear q2 hr2 g2
      unfold hkV
      dsimp only
      unfold hkO at hS3 q3
      dsimp only at hS3 q3
      go_wp2_with fail
      refine (rFail_ok 3 _ q3).mono ?_
      rintro x w4 ⟨rfl, q4, hg4⟩
      have hS := hS3.call hg4
      clear hS3 hg4 q3
      have HE : Hid ((∀ {vL : Value} {p fa fe : Int}, Rx w4 R vL p fa fe → Rx (put5 w4 w.heap.size A AN B BN (.slice none 0 0)) R vL p fa fe) → EdR R (.slice lo L.length lc) L fa (.error (p + 1, 3)) ⟨A, AN, B, BN, []⟩ (put5 w4 w.heap.size A AN B BN (.slice none 0 0))) := fun h => ⟨⟨_, h q4⟩, by decide⟩
      clear q4
      obtain ⟨x0, x1, x2, x3, x4⟩ := hS.hx.cells
      dsimp only at x0 x1 x2 x3 x4
      obtain ⟨y0, y1, y2, y3, y4⟩ := hS.rb.cells
      have yf0 := hS.rb.frozen 0
      have yf1 := hS.rb.frozen 1
      have yf2 := hS.rb.frozen 2
      have yf3 := hS.rb.frozen 3
      have yf4 := hS.rb.frozen 4
      obtain ⟨hP, hownP, hgP, hrP⟩ := hS.done
      have HEnd0 := HE.out hrP
      unfold put5 at hP hownP hgP HEnd0
      have HP : Hid (_ = _) := hP
      have HOWN : Hid _ := hownP
      have HGP : Hid _ := hgP
      have HEnd : Hid _ := HEnd0
      clear hrP hS HE hP hownP hgP HEnd0
      go_wp2
      exact bodyPost_ret (v := hkV ⟨A, AN, B, BN, []⟩ (.slice none 0 0)) (results_cell_row rfl _ _ w.heap.size 43 #[.int .i64 A, .int .i64 AN, .int .i64 B, .int .i64 BN, .slice none 0 0] (0, 0) _ rfl HP.out Tryd.underlying43 rfl (by kernel_rfl)) rfl ⟨_, _, rfl, hnil_row _ _ _ _, HGP.out, HEnd.out⟩
    | some z =>
      obtain ⟨A, AN, B, BN⟩ := z
      have hcr := cmd_right hc
      rw [hc] at hCP hX
      dsimp only at hCP hX
      subst hCP
      obtain ⟨an, rfl⟩ := Int.eq_ofNat_of_zero_le hcr.1.2.2.1
      obtain ⟨bn, rfl⟩ := Int.eq_ofNat_of_zero_le hcr.2.1.2.2.1
      have han : an ≤ 2147483647 := by omega
      have hbn : bn ≤ 2147483647 := by omega
      clear hcr hc
      have hS3 : Sb w R w2.heap.size A (an : Int) B (bn : Int) [] (.slice none 0 0) (w2.alloc (hkO ⟨A, (an : Int), B, (bn : Int), []⟩ (.slice none 0 0))) := ⟨grown_two g2 (World.grownBy_alloc w2 _ _), Hx.new w2 _ _, hr2.low ((Below.refl _ w2).alloc (Nat.le_refl _) _), hnil_row _ _ _ _, hRw, by omega⟩
      have q3 : Rx (w2.alloc (hkO ⟨A, (an : Int), B, (bn : Int), []⟩ (.slice none 0 0))) R (.slice lo L.length lc) ((p + 1 : Nat) : Int) fa 0 := q2.low ((Below.refl _ w2).alloc (Nat.le_refl _) _)
      clear q2 hr2 g2
      rw [Int.toNat_natCast, Int.toNat_natCast] at hX
      unfold hkV
      dsimp only
      unfold hkO at hS3 q3
      dsimp only at hS3 q3
      by_cases hk2 : 4096 ≤ k
      · rw [if_pos hk2] at hX
        have hkb : (4096 : Int) ≤ (k : Int) := by omega
        go_wp2_with fail
        refine (rFail_ok 9 _ q3).mono ?_
        rintro x w4 ⟨rfl, hrx, hg4⟩
        generalize w2.alloc (.cells #[.int .i64 A, .int .i64 (an : Int), .int .i64 B, .int .i64 (bn : Int), .slice none 0 0] 43) = w3 at *
        generalize w2.heap.size = H at *
        have hS4 := hS3.call hg4
        obtain ⟨m, hm⟩ : ∃ m : List Mk, [] = m := ⟨_, rfl⟩
        obtain ⟨o, ho⟩ : ∃ o : Option Addr, none = o := ⟨_, rfl⟩
        obtain ⟨c, hcc⟩ : ∃ c : Nat, 0 = c := ⟨_, rfl⟩
        have hS : Sb w R H A (an : Int) B (bn : Int) m (.slice o m.length c) w4 := (by rw [← hm, ← ho, ← hcc]; exact hS4)
        obtain ⟨a, ha⟩ : ∃ a, p + 1 = a := ⟨_, rfl⟩
        obtain ⟨fe, hfe0⟩ : ∃ fe : Int, 9 = fe := ⟨_, rfl⟩
        have hfe : fe ≠ 0 := by omega
        have HXe : Hid (X = .error (a, fe)) := (by show _ = _; rw [← hX, ← ha, ← hfe0])
        rw [ha, hfe0] at hrx
        clear ha hfe0 hX hm ho hcc hS4 hS3 hg4 q3
        obtain ⟨r0, r1, r2, r3⟩ := hrx.cells
        have hfb0 : (fe == 0) = false := beq_eq_false_iff_ne.2 hfe
        obtain ⟨x0, x1, x2, x3, x4⟩ := hS.hx.cells
        dsimp only at x0 x1 x2 x3 x4
        go_wp2
        go_loopw [7] (fun iv wz => iv = .int .i64 0 ∧ wz = w4) (fun _ _ => 0)
        case atStart => exact ⟨by go_num, rfl⟩
        case round =>
          obtain ⟨rfl, rfl⟩ := hrel
          clear x0 x1 x2 x3 x4 r0 r1 r2 r3 hfb0
          obtain ⟨r0, r1, r2, r3⟩ := hrx.cells
          have hfb : (fe == 0) = false := beq_eq_false_iff_ne.2 hfe
          have hXe := HXe.out
          subst hXe
          have HE : Hid ((∀ {vL : Value} {p fa fe : Int}, Rx wr R vL p fa fe → Rx (put5 wr w.heap.size A (an : Int) B (bn : Int) (.slice o m.length c)) R vL p fa fe) → (∃ p', Rx (put5 wr w.heap.size A (an : Int) B (bn : Int) (.slice o m.length c)) R (.slice lo L.length lc) p' (a : Int) fe) ∧ fe ≠ 0) := fun h => ⟨⟨_, h hrx⟩, hfe⟩
          clear hrx HXe hfe
          obtain ⟨x0, x1, x2, x3, x4⟩ := hS.hx.cells
          dsimp only at x0 x1 x2 x3 x4
          by_cases hN : (0 : Int) < (an : Int)
          · by_cases hM : (0 : Int) < (bn : Int)
            · go_wp2
              go_loopw [8] (fun iv wz => iv = .int .i64 0 ∧ wz = wr) (fun _ _ => 0)
              case atStart => exact ⟨by go_num, rfl⟩
              case round =>
                obtain ⟨rfl, rfl⟩ := hrel
                go_upto_region 17 with fail
                clear x0 x1 x2 x3 x4 r0 r1 r2 r3
                obtain ⟨x0, x1, x2, x3, x4⟩ := hS.hx.cells
                dsimp only at x0 x1 x2 x3 x4
                obtain ⟨y0, y1, y2, y3, y4⟩ := hS.rb.cells
                have yf0 := hS.rb.frozen 0
                have yf1 := hS.rb.frozen 1
                have yf2 := hS.rb.frozen 2
                have yf3 := hS.rb.frozen 3
                have yf4 := hS.rb.frozen 4
                obtain ⟨hP, hownP, hgP, hrP⟩ := hS.done
                have HEnd0 := HE.out hrP
                unfold put5 at hP hownP hgP HEnd0
                have HP : Hid (_ = _) := hP
                have HOWN : Hid _ := hownP
                have HGP : Hid _ := hgP
                have HEnd : Hid _ := HEnd0
                clear hrP hS HE hP hownP hgP HEnd0
                go_wp2
                exact bodyPost_ret (v := hkV ⟨A, (an : Int), B, (bn : Int), m⟩ (.slice o m.length c)) (results_cell_row rfl _ _ w.heap.size 43 #[.int .i64 A, .int .i64 (an : Int), .int .i64 B, .int .i64 (bn : Int), .slice o m.length c] (0, 0) _ rfl HP.out Tryd.underlying43 rfl (by kernel_rfl)) rfl ⟨_, _, rfl, HOWN.out, HGP.out, HEnd.out⟩
            · go_wp2
              go_loopw [8] (fun iv wz => iv = .int .i64 0 ∧ wz = wr) (fun _ _ => 0)
              case atStart => exact ⟨by go_num, rfl⟩
              case round =>
                obtain ⟨rfl, rfl⟩ := hrel
                go_upto_region 17 with fail
                clear x0 x1 x2 x3 x4 r0 r1 r2 r3
                obtain ⟨x0, x1, x2, x3, x4⟩ := hS.hx.cells
                dsimp only at x0 x1 x2 x3 x4
                obtain ⟨y0, y1, y2, y3, y4⟩ := hS.rb.cells
                have yf0 := hS.rb.frozen 0
                have yf1 := hS.rb.frozen 1
                have yf2 := hS.rb.frozen 2
                have yf3 := hS.rb.frozen 3
                have yf4 := hS.rb.frozen 4
                obtain ⟨hP, hownP, hgP, hrP⟩ := hS.done
                have HEnd0 := HE.out hrP
                unfold put5 at hP hownP hgP HEnd0
                have HP : Hid (_ = _) := hP
                have HOWN : Hid _ := hownP
                have HGP : Hid _ := hgP
                have HEnd : Hid _ := HEnd0
                clear hrP hS HE hP hownP hgP HEnd0
                go_wp2
                exact bodyPost_ret (v := hkV ⟨A, (an : Int), B, (bn : Int), m⟩ (.slice o m.length c)) (results_cell_row rfl _ _ w.heap.size 43 #[.int .i64 A, .int .i64 (an : Int), .int .i64 B, .int .i64 (bn : Int), .slice o m.length c] (0, 0) _ rfl HP.out Tryd.underlying43 rfl (by kernel_rfl)) rfl ⟨_, _, rfl, HOWN.out, HGP.out, HEnd.out⟩
          · by_cases hM : (0 : Int) < (bn : Int)
            · go_wp2
              go_loopw [8] (fun iv wz => iv = .int .i64 0 ∧ wz = wr) (fun _ _ => 0)
              case atStart => exact ⟨by go_num, rfl⟩
              case round =>
                obtain ⟨rfl, rfl⟩ := hrel
                go_upto_region 17 with fail
                clear x0 x1 x2 x3 x4 r0 r1 r2 r3
                obtain ⟨x0, x1, x2, x3, x4⟩ := hS.hx.cells
                dsimp only at x0 x1 x2 x3 x4
                obtain ⟨y0, y1, y2, y3, y4⟩ := hS.rb.cells
                have yf0 := hS.rb.frozen 0
                have yf1 := hS.rb.frozen 1
                have yf2 := hS.rb.frozen 2
                have yf3 := hS.rb.frozen 3
                have yf4 := hS.rb.frozen 4
                obtain ⟨hP, hownP, hgP, hrP⟩ := hS.done
                have HEnd0 := HE.out hrP
                unfold put5 at hP hownP hgP HEnd0
                have HP : Hid (_ = _) := hP
                have HOWN : Hid _ := hownP
                have HGP : Hid _ := hgP
                have HEnd : Hid _ := HEnd0
                clear hrP hS HE hP hownP hgP HEnd0
                go_wp2
                exact bodyPost_ret (v := hkV ⟨A, (an : Int), B, (bn : Int), m⟩ (.slice o m.length c)) (results_cell_row rfl _ _ w.heap.size 43 #[.int .i64 A, .int .i64 (an : Int), .int .i64 B, .int .i64 (bn : Int), .slice o m.length c] (0, 0) _ rfl HP.out Tryd.underlying43 rfl (by kernel_rfl)) rfl ⟨_, _, rfl, HOWN.out, HGP.out, HEnd.out⟩
            · go_wp2
              go_loopw [8] (fun iv wz => iv = .int .i64 0 ∧ wz = wr) (fun _ _ => 0)
              case atStart => exact ⟨by go_num, rfl⟩
              case round =>
                obtain ⟨rfl, rfl⟩ := hrel
                go_upto_region 17 with fail
                clear x0 x1 x2 x3 x4 r0 r1 r2 r3
                obtain ⟨x0, x1, x2, x3, x4⟩ := hS.hx.cells
                dsimp only at x0 x1 x2 x3 x4
                obtain ⟨y0, y1, y2, y3, y4⟩ := hS.rb.cells
                have yf0 := hS.rb.frozen 0
                have yf1 := hS.rb.frozen 1
                have yf2 := hS.rb.frozen 2
                have yf3 := hS.rb.frozen 3
                have yf4 := hS.rb.frozen 4
                obtain ⟨hP, hownP, hgP, hrP⟩ := hS.done
                have HEnd0 := HE.out hrP
                unfold put5 at hP hownP hgP HEnd0
                have HP : Hid (_ = _) := hP
                have HOWN : Hid _ := hownP
                have HGP : Hid _ := hgP
                have HEnd : Hid _ := HEnd0
                clear hrP hS HE hP hownP hgP HEnd0
                go_wp2
                exact bodyPost_ret (v := hkV ⟨A, (an : Int), B, (bn : Int), m⟩ (.slice o m.length c)) (results_cell_row rfl _ _ w.heap.size 43 #[.int .i64 A, .int .i64 (an : Int), .int .i64 B, .int .i64 (bn : Int), .slice o m.length c] (0, 0) _ rfl HP.out Tryd.underlying43 rfl (by kernel_rfl)) rfl ⟨_, _, rfl, HOWN.out, HGP.out, HEnd.out⟩
      · rw [if_neg hk2] at hX
        have hkb : ¬ (4096 : Int) ≤ (k : Int) := by omega
        obtain ⟨Y1, hY1⟩ : ∃ Y1, rdN [60, 32] 45 an (p + 1) (L.drop (p + 1)) = Y1 := ⟨_, rfl⟩
        rw [hY1] at hX
        have HXx : Hid (_ = X) := hX
        clear hX
        have hA0 : AlR R (.slice lo L.length lc) L fa [60, 32] 45 Y1 (p + 1 + 2 * 0) (an - 0) [] (w2.alloc (.cells #[.int .i64 A, .int .i64 (an : Int), .int .i64 B, .int .i64 (bn : Int), .slice none 0 0] 43)) := .inl ⟨p + 1, q3, by omega, by rw [thenL_nil]; exact hY1⟩
        clear q3 hY1
        go_wp2_with fail
        generalize w2.alloc (.cells #[.int .i64 A, .int .i64 (an : Int), .int .i64 B, .int .i64 (bn : Int), .slice none 0 0] 43) = w3 at *
        generalize w2.heap.size = H at *
        go_loopw [7] (fun iv wr => ∃ (i : Nat) (m : List Mk) (o : Option Addr) (c : Nat), i ≤ an ∧ iv = .int .i64 (i : Int) ∧ m.length ≤ i ∧ Sb w R H A (an : Int) B (bn : Int) m (.slice o m.length c) wr ∧ AlR R (.slice lo L.length lc) L fa [60, 32] 45 Y1 (p + 1 + 2 * i) (an - i) m wr) (fun iv _ => an - (intOf iv).toNat)
        case atStart => exact ⟨0, [], none, 0, Nat.zero_le _, by go_num, Nat.le_refl _, hS3, hA0⟩
        case round =>
        clear hS3 hA0
        obtain ⟨i, m, o, c, hi, rfl, hml, hS, hA⟩ := hrel
        by_cases hgo : i < an ∧ ∃ pn : Nat, Rx wr R (.slice lo L.length lc) (pn : Int) fa 0 ∧ pn ≤ p + 1 + 2 * i ∧ thenL m (rdN [60, 32] 45 (an - i) pn (L.drop pn)) = Y1
        · obtain ⟨hlt, hA⟩ := hgo
          skip
          obtain ⟨pn, hrx, hpb, hY1⟩ := hA
          obtain ⟨x0, x1, x2, x3, x4⟩ := hS.hx.cells
          obtain ⟨r0, r1, r2, r3⟩ := hrx.cells
          dsimp only at x0 x1 x2 x3 x4
          have hn1 : an - i = (an - (i + 1)) + 1 := by omega
          have HNx : Hid (∀ (t : List UInt8) (u u' : World), NxR R (.slice lo L.length lc) L fa [60, 32] 45 Y1 (p + 1 + 2 * (i + 1)) (an - (i + 1)) m t u → (∀ {vL : Value} {p fa fe : Int}, Rx u R vL p fa fe → Rx u' R vL p fa fe) → AlR R (.slice lo L.length lc) L fa [60, 32] 45 Y1 (p + 1 + 2 * (i + 1)) (an - (i + 1)) (m ++ [⟨45, t⟩]) u') := fun t u u' h hk => NxR.on h hk
          have hSd := hS.drew
          obtain ⟨Rr, hRr⟩ : ∃ Rr : Value → World → Prop, (fun v u => ∃ t : List UInt8, v = .string ⟨t.toArray⟩ ∧ Sb w R H A (an : Int) B (bn : Int) m (.slice o m.length c) u ∧ NxR R (.slice lo L.length lc) L fa [60, 32] 45 Y1 (p + 1 + 2 * (i + 1)) (an - (i + 1)) m t u) = Rr := ⟨_, rfl⟩
          have hcall : Calls Tryd.prog 84 (#[.pointer (some ⟨R, 0, none⟩), .string ⟨#[60, 32]⟩, .bool ((i : Int) == (an : Int) - 1)] ++ #[]) wr.drew fun e w' => (∃ v, e = .returned v ∧ w'.cell? ⟨H, 1, none⟩ = some (.int .i64 (an : Int)) ∧ Rr v w') ∨ (∃ c, e = .panicked c ∧ False) := (by
            obtain ⟨Z, hZ⟩ : ∃ Z, mkd [60, 32] ((i : Int) == (an : Int) - 1) pn (L.drop pn) = Z := ⟨_, rfl⟩
            have hlast : (an - (i + 1) == 0) = ((i : Int) == (an : Int) - 1) := (by rw [Bool.eq_iff_iff, beq_iff_eq, beq_iff_eq]; omega)
            refine (rMarked_f wr.drew (show Rx wr.drew R (.slice lo L.length lc) pn fa 0 from hrx) (HL.out _ hSd.gr) hRl (by omega) HSl2.out [60, 32] rfl _ Z hZ).mono ?_
            rintro e w' ⟨hq, hg⟩
            left
            have hS' := hSd.call hg
            rw [← hRr]
            rw [hn1] at hY1
            cases Z with
            | error z =>
              obtain ⟨a, z⟩ := z
              obtain ⟨t, p', rfl, hr, hz⟩ := hq
              exact ⟨_, rfl, hS'.c1, t, rfl, hS', .inr ⟨p', a, z, hr, hz, by rw [← hY1]; exact rdN_stop hlast hZ m⟩⟩
            | ok z =>
              obtain ⟨t, p1, r⟩ := z
              obtain ⟨rfl, hr, hd⟩ := hq
              have hle := mkd_le hZ
              exact ⟨_, rfl, hS'.c1, t, rfl, hS', .inl ⟨p1, hr, by omega, by rw [← hY1, rdN_take hlast hZ m, hd]⟩⟩)
          have HRr : Hid (_ = Rr) := hRr
          have j1 : (i : Int) < (an : Int) := by omega
          clear hRr hY1 hn1
          go_upto_region 10 with fail
          clear x0 x1 x2 x3 x4 r0 r1 r2 r3 j1
          refine wp_region_noPanic ?_
          refine wp_region_held_drew (S := fun u => u.cell? ⟨H, 1, none⟩ = some (.int .i64 (an : Int))) (by kernel_rfl) hSd.c1 (fun hHeld => ?_)
          generalize wr.drew = wd at hSd hcall hHeld ⊢
          have c4d := hSd.c4
          refine go_take 0 38 _ (.pointer (some ⟨H, 4, none⟩)) rfl (by kernel_rfl) (by kernel_rfl) (by kernel_rfl) (by kernel_rfl) (fun _ _ _ h => h) (Or.inl ⟨by kernel_rfl, fun u hu => by kernel_rfl⟩) hHeld ?_
          simp only [Act.put, List.setIfInBounds_toArray, List.set_cons_zero, List.set_cons_succ]
          refine go_take 2 40 _ (.pointer (some ⟨R, 0, none⟩)) rfl (by kernel_rfl) (by kernel_rfl) (by kernel_rfl) (by kernel_rfl) (fun _ _ _ h => h) (Or.inl ⟨by kernel_rfl, fun u hu => by kernel_rfl⟩) hHeld ?_
          simp only [Act.put, List.setIfInBounds_toArray, List.set_cons_zero, List.set_cons_succ]
          refine go_take 3 41 _ (.int .i64 (i : Int)) rfl (by kernel_rfl) (by kernel_rfl) (by kernel_rfl) (by kernel_rfl) (fun _ _ _ h => h) (Or.inl ⟨by kernel_rfl, fun u hu => by kernel_rfl⟩) hHeld ?_
          simp only [Act.put, List.setIfInBounds_toArray, List.set_cons_zero, List.set_cons_succ]
          refine go_take 4 42 _ (.pointer (some ⟨H, 1, none⟩)) rfl (by kernel_rfl) (by kernel_rfl) (by kernel_rfl) (by kernel_rfl) (fun _ _ _ h => h) (Or.inl ⟨by kernel_rfl, fun u hu => by kernel_rfl⟩) hHeld ?_
          simp only [Act.put, List.setIfInBounds_toArray, List.set_cons_zero, List.set_cons_succ]
          refine go_take 5 43 _ (.int .i64 (an : Int)) rfl (by kernel_rfl) (by kernel_rfl) (by kernel_rfl) (by kernel_rfl) (fun _ _ _ h => h) (Or.inl ⟨by kernel_rfl, fun u hu => load_int hu (.tmp 42) (by kernel_rfl) (by kernel_rfl)⟩) hHeld ?_
          simp only [Act.put, List.setIfInBounds_toArray, List.set_cons_zero, List.set_cons_succ]
          refine go_take 6 44 _ (.int .i64 ((an : Int) - 1)) rfl (by kernel_rfl) (by kernel_rfl) (by kernel_rfl) (by kernel_rfl) (fun _ _ _ h => h) (Or.inl ⟨by kernel_rfl, fun u hu => sub_one (z := (an : Int)) (by omega) (by omega) (.tmp 43) (by kernel_rfl) (by kernel_rfl) (by kernel_rfl)⟩) hHeld ?_
          simp only [Act.put, List.setIfInBounds_toArray, List.set_cons_zero, List.set_cons_succ]
          refine go_take 7 45 _ (.bool ((i : Int) == (an : Int) - 1)) rfl (by kernel_rfl) (by kernel_rfl) (by kernel_rfl) (by kernel_rfl) (fun _ _ _ h => h) (Or.inl ⟨by kernel_rfl, fun u hu => by kernel_rfl⟩) hHeld ?_
          simp only [Act.put, List.setIfInBounds_toArray, List.set_cons_zero, List.set_cons_succ]
          refine go_valCallP 1 39 _ 8 46 _ rfl (by kernel_rfl) rfl (by kernel_rfl) (by kernel_rfl) (by kernel_rfl) (by kernel_rfl) (.slice o m.length c) wd (load_mks c4d (.tmp 38) (by kernel_rfl) (by kernel_rfl)) hHeld 84 (.func 84) #[.tmp 40, .const (.string ⟨#[60, 32]⟩), .tmp 45] #[79, 9, 4] (by kernel_rfl) #[] (by kernel_rfl) #[.pointer (some ⟨R, 0, none⟩), .string ⟨#[60, 32]⟩, .bool ((i : Int) == (an : Int) - 1)] (by kernel_rfl) (enters_of Tryd.func84 (by kernel_rfl) rfl) (Rr) (fun _ _ => False) (fun c u h => h.elim) ?_ ?_ ?_
          · exact hcall
          · simp only [Act.put, List.setIfInBounds_toArray, List.set_cons_zero, List.set_cons_succ]
            refine go_callP 8 46 _ rfl (by kernel_rfl) (by kernel_rfl) (by kernel_rfl) 84 (.func 84) #[.tmp 40, .const (.string ⟨#[60, 32]⟩), .tmp 45] #[79, 9, 4] (by kernel_rfl) #[] (by kernel_rfl) #[.pointer (some ⟨R, 0, none⟩), .string ⟨#[60, 32]⟩, .bool ((i : Int) == (an : Int) - 1)] (by kernel_rfl) (enters_of Tryd.func84 (by kernel_rfl) rfl) (Rr) (fun _ _ => False) (fun c u h => h.elim) ?_ ?_
            · exact hcall
            intro v0 u1 hH1 hq
            rw [← HRr.out] at hq
            obtain ⟨t, rfl, hS1, hA1⟩ := hq
            have c1u := hS1.c4
            have c2u := (hS1.alloc (mkO ⟨45, t⟩)).c4
            simp only [Act.put, List.setIfInBounds_toArray, List.set_cons_zero, List.set_cons_succ]
            refine go_take 9 47 _ (.agg #[.int .u8 45, .string ⟨t.toArray⟩]) rfl (by kernel_rfl) (by kernel_rfl) (by kernel_rfl) (by kernel_rfl) (fun _ _ _ h => h) (Or.inl ⟨by kernel_rfl, fun u hu => by kernel_rfl⟩) hH1 ?_
            simp only [Act.put, List.setIfInBounds_toArray, List.set_cons_zero, List.set_cons_succ]
            refine go_val 10 48 _ rfl (by kernel_rfl) (by kernel_rfl) (by kernel_rfl) (.slice (some ⟨u1.heap.size, 0, none⟩) 1 1) (u1.alloc (mkO ⟨45, t⟩)) (by kernel_rfl) (hS1.alloc (mkO ⟨45, t⟩)).c1 ?_
            simp only [Act.put, List.setIfInBounds_toArray, List.set_cons_zero, List.set_cons_succ]
            have hSA := hS1.alloc (mkO ⟨45, t⟩)
            obtain ⟨v3, u3, hr3, hown3, hg3, _⟩ := run_append_w (u1.alloc (mkO ⟨45, t⟩)) 41 91 41 (.agg #[.int .u8 0, .string ⟨#[]⟩]) 2 24 Tryd.underlying41 infoMk rfl (by decide) (by decide) w.heap.size _ _ _ hSA.own _ 1 (mkcells [⟨45, t⟩]) (mk_row u1 ⟨45, t⟩) (mkcells_length _) (mkcells_one _) (by omega) hSA.gr.size
            have hS3 := hSA.more hg3 hown3
            obtain ⟨o3, k3, rfl⟩ := (holds_of hown3).form
            refine go_val 11 49 _ rfl (by kernel_rfl) (by kernel_rfl) (by kernel_rfl) (.slice o3 (m.length + 1) k3) u3 (exec_app (.tmp 39) (.tmp 48) (by kernel_rfl) (by kernel_rfl) (by kernel_rfl) hr3) hS3.2.2.2.1 ?_
            simp only [Act.put, List.setIfInBounds_toArray, List.set_cons_zero, List.set_cons_succ]
            refine go_take 12 50 _ (.pointer (some ⟨H, 4, none⟩)) rfl (by kernel_rfl) (by kernel_rfl) (by kernel_rfl) (by kernel_rfl) (fun _ _ _ h => h) (Or.inl ⟨by kernel_rfl, fun u hu => by kernel_rfl⟩) hS3.2.2.2.1 ?_
            simp only [Act.put, List.setIfInBounds_toArray, List.set_cons_zero, List.set_cons_succ]
            refine go_skip 13 _ rfl (by kernel_rfl) (by kernel_rfl) (by kernel_rfl) (u3.setCell ⟨H, 4, none⟩ (.slice o3 (m.length + 1) k3)) (exec_storeL hS3.2.2.1 hS3.2.1 rfl (.tmp 50) (.tmp 49) (by kernel_rfl) (by kernel_rfl) (by kernel_rfl)) hS3.1.c1 ?_
            refine wpAnyH_done (by kernel_rfl) ?_ _
            refine NoPanic.normal ?_
            have hA2 := HNx.out t u1 (u3.setCell ⟨H, 4, none⟩ (.slice o3 (m.length + 1) k3)) hA1 (fun q => hS3.2.2.2.2.2 (q.low ((Below.refl _ u1).alloc (Nat.le_refl _) _)))
            have hS4 := hS3.1
            go_wp2
            exact ⟨⟨i + 1, m ++ [⟨45, t⟩], o3, k3, by omega, by go_num, by simp; omega, by simpa using hS4, hA2⟩, by simp [intOf]; omega⟩
          · intro v0 u1 hH1 hq
            rw [← HRr.out] at hq
            obtain ⟨t, rfl, hS1, hA1⟩ := hq
            have c1u := hS1.c4
            have c2u := (hS1.alloc (mkO ⟨45, t⟩)).c4
            simp only [Act.put, List.setIfInBounds_toArray, List.set_cons_zero, List.set_cons_succ]
            refine go_take 9 47 _ (.agg #[.int .u8 45, .string ⟨t.toArray⟩]) rfl (by kernel_rfl) (by kernel_rfl) (by kernel_rfl) (by kernel_rfl) (fun _ _ _ h => h) (Or.inl ⟨by kernel_rfl, fun u hu => by kernel_rfl⟩) hH1 ?_
            simp only [Act.put, List.setIfInBounds_toArray, List.set_cons_zero, List.set_cons_succ]
            refine go_two 1 39 _ 10 48 _ rfl (by kernel_rfl) rfl (by kernel_rfl) (by kernel_rfl) (by kernel_rfl) (by kernel_rfl) (.slice o m.length c) u1 (load_mks c1u (.tmp 38) (by kernel_rfl) (by kernel_rfl)) hH1 (.slice (some ⟨u1.heap.size, 0, none⟩) 1 1) (u1.alloc (mkO ⟨45, t⟩)) (by kernel_rfl) (hS1.alloc (mkO ⟨45, t⟩)).c1 ?_ ?_
            · simp only [Act.put, List.setIfInBounds_toArray, List.set_cons_zero, List.set_cons_succ]
              refine go_val 10 48 _ rfl (by kernel_rfl) (by kernel_rfl) (by kernel_rfl) (.slice (some ⟨u1.heap.size, 0, none⟩) 1 1) (u1.alloc (mkO ⟨45, t⟩)) (by kernel_rfl) (hS1.alloc (mkO ⟨45, t⟩)).c1 ?_
              simp only [Act.put, List.setIfInBounds_toArray, List.set_cons_zero, List.set_cons_succ]
              have hSA := hS1.alloc (mkO ⟨45, t⟩)
              obtain ⟨v3, u3, hr3, hown3, hg3, _⟩ := run_append_w (u1.alloc (mkO ⟨45, t⟩)) 41 91 41 (.agg #[.int .u8 0, .string ⟨#[]⟩]) 2 24 Tryd.underlying41 infoMk rfl (by decide) (by decide) w.heap.size _ _ _ hSA.own _ 1 (mkcells [⟨45, t⟩]) (mk_row u1 ⟨45, t⟩) (mkcells_length _) (mkcells_one _) (by omega) hSA.gr.size
              have hS3 := hSA.more hg3 hown3
              obtain ⟨o3, k3, rfl⟩ := (holds_of hown3).form
              refine go_val 11 49 _ rfl (by kernel_rfl) (by kernel_rfl) (by kernel_rfl) (.slice o3 (m.length + 1) k3) u3 (exec_app (.tmp 39) (.tmp 48) (by kernel_rfl) (by kernel_rfl) (by kernel_rfl) hr3) hS3.2.2.2.1 ?_
              simp only [Act.put, List.setIfInBounds_toArray, List.set_cons_zero, List.set_cons_succ]
              refine go_take 12 50 _ (.pointer (some ⟨H, 4, none⟩)) rfl (by kernel_rfl) (by kernel_rfl) (by kernel_rfl) (by kernel_rfl) (fun _ _ _ h => h) (Or.inl ⟨by kernel_rfl, fun u hu => by kernel_rfl⟩) hS3.2.2.2.1 ?_
              simp only [Act.put, List.setIfInBounds_toArray, List.set_cons_zero, List.set_cons_succ]
              refine go_skip 13 _ rfl (by kernel_rfl) (by kernel_rfl) (by kernel_rfl) (u3.setCell ⟨H, 4, none⟩ (.slice o3 (m.length + 1) k3)) (exec_storeL hS3.2.2.1 hS3.2.1 rfl (.tmp 50) (.tmp 49) (by kernel_rfl) (by kernel_rfl) (by kernel_rfl)) hS3.1.c1 ?_
              refine wpAnyH_done (by kernel_rfl) ?_ _
              refine NoPanic.normal ?_
              have hA2 := HNx.out t u1 (u3.setCell ⟨H, 4, none⟩ (.slice o3 (m.length + 1) k3)) hA1 (fun q => hS3.2.2.2.2.2 (q.low ((Below.refl _ u1).alloc (Nat.le_refl _) _)))
              have hS4 := hS3.1
              go_wp2
              exact ⟨⟨i + 1, m ++ [⟨45, t⟩], o3, k3, by omega, by go_num, by simp; omega, by simpa using hS4, hA2⟩, by simp [intOf]; omega⟩
            · simp only [Act.put, List.setIfInBounds_toArray, List.set_cons_zero, List.set_cons_succ]
              refine go_val 1 39 _ rfl (by kernel_rfl) (by kernel_rfl) (by kernel_rfl) (.slice o m.length c) (u1.alloc (mkO ⟨45, t⟩)) (load_mks c2u (.tmp 38) (by kernel_rfl) (by kernel_rfl)) (hS1.alloc (mkO ⟨45, t⟩)).c1 ?_
              simp only [Act.put, List.setIfInBounds_toArray, List.set_cons_zero, List.set_cons_succ]
              have hSA := hS1.alloc (mkO ⟨45, t⟩)
              obtain ⟨v3, u3, hr3, hown3, hg3, _⟩ := run_append_w (u1.alloc (mkO ⟨45, t⟩)) 41 91 41 (.agg #[.int .u8 0, .string ⟨#[]⟩]) 2 24 Tryd.underlying41 infoMk rfl (by decide) (by decide) w.heap.size _ _ _ hSA.own _ 1 (mkcells [⟨45, t⟩]) (mk_row u1 ⟨45, t⟩) (mkcells_length _) (mkcells_one _) (by omega) hSA.gr.size
              have hS3 := hSA.more hg3 hown3
              obtain ⟨o3, k3, rfl⟩ := (holds_of hown3).form
              refine go_val 11 49 _ rfl (by kernel_rfl) (by kernel_rfl) (by kernel_rfl) (.slice o3 (m.length + 1) k3) u3 (exec_app (.tmp 39) (.tmp 48) (by kernel_rfl) (by kernel_rfl) (by kernel_rfl) hr3) hS3.2.2.2.1 ?_
              simp only [Act.put, List.setIfInBounds_toArray, List.set_cons_zero, List.set_cons_succ]
              refine go_take 12 50 _ (.pointer (some ⟨H, 4, none⟩)) rfl (by kernel_rfl) (by kernel_rfl) (by kernel_rfl) (by kernel_rfl) (fun _ _ _ h => h) (Or.inl ⟨by kernel_rfl, fun u hu => by kernel_rfl⟩) hS3.2.2.2.1 ?_
              simp only [Act.put, List.setIfInBounds_toArray, List.set_cons_zero, List.set_cons_succ]
              refine go_skip 13 _ rfl (by kernel_rfl) (by kernel_rfl) (by kernel_rfl) (u3.setCell ⟨H, 4, none⟩ (.slice o3 (m.length + 1) k3)) (exec_storeL hS3.2.2.1 hS3.2.1 rfl (.tmp 50) (.tmp 49) (by kernel_rfl) (by kernel_rfl) (by kernel_rfl)) hS3.1.c1 ?_
              refine wpAnyH_done (by kernel_rfl) ?_ _
              refine NoPanic.normal ?_
              have hA2 := HNx.out t u1 (u3.setCell ⟨H, 4, none⟩ (.slice o3 (m.length + 1) k3)) hA1 (fun q => hS3.2.2.2.2.2 (q.low ((Below.refl _ u1).alloc (Nat.le_refl _) _)))
              have hS4 := hS3.1
              go_wp2
              exact ⟨⟨i + 1, m ++ [⟨45, t⟩], o3, k3, by omega, by go_num, by simp; omega, by simpa using hS4, hA2⟩, by simp [intOf]; omega⟩
        · skip
          rcases hA with ⟨pn, hrx, hpb, hYv⟩ | ⟨p', a, fe, hrx, hfe, hYv⟩
          · have hia : an = i := (by
              by_cases hia : i < an
              · exact absurd ⟨hia, pn, hrx, hpb, hYv⟩ hgo
              · omega)
            subst hia
            rw [Nat.sub_self] at hYv
            simp only [rdN, thenL, List.append_nil] at hYv
            have hX := HXx.out
            rw [← hYv] at hX
            dsimp only at hX
            clear HXx hYv hgo
            obtain ⟨x0, x1, x2, x3, x4⟩ := hS.hx.cells
            dsimp only at x0 x1 x2 x3 x4
            obtain ⟨r0, r1, r2, r3⟩ := hrx.cells
            have hia2 : ¬ (an : Int) < (an : Int) := by omega
            by_cases hN : (0 : Int) < (an : Int)
            · by_cases hM : (0 : Int) < (bn : Int)
              · obtain ⟨Z2, hZ2⟩ : ∃ Z2, nxt pn (L.drop pn) = Z2 := ⟨_, rfl⟩
                rw [if_pos (by omega)] at hX
                unfold sepP at hX
                rw [hZ2] at hX
                go_wp2_with fail
                refine (rNext_f wr hrx (HL.out wr hS.gr) hRl (by omega) HSl2.out Z2 hZ2).mono ?_
                rintro x w5 ⟨hq5, hg5⟩
                have hS5 := hS.call hg5
                clear hS hrx hg5 r0 r1 r2 r3 x0 x1 x2 x3 x4
                obtain ⟨x0, x1, x2, x3, x4⟩ := hS5.hx.cells
                dsimp only at x0 x1 x2 x3 x4
                cases Z2 with
                | error z =>
                  obtain ⟨a, fe⟩ := z
                  obtain ⟨rfl, ⟨p', hrx⟩, hfe⟩ := hq5
                  dsimp only at hX
                  have HXe : Hid (X = .error (a, fe)) := hX.symm
                  clear hX hZ2
                  obtain ⟨r0, r1, r2, r3⟩ := hrx.cells
                  go_wp2_with fail
                  refine (rFail_no 3 w5 hrx hfe).mono ?_
                  rintro x w6 ⟨rfl, rfl⟩
                  have hS := hS5
                  clear hS5 r0 r1 r2 r3 x0 x1 x2 x3 x4
                  obtain ⟨r0, r1, r2, r3⟩ := hrx.cells
                  have hfb : (fe == 0) = false := beq_eq_false_iff_ne.2 hfe
                  have hXe := HXe.out
                  subst hXe
                  have HE : Hid ((∀ {vL : Value} {p fa fe : Int}, Rx w6 R vL p fa fe → Rx (put5 w6 w.heap.size A (an : Int) B (bn : Int) (.slice o m.length c)) R vL p fa fe) → (∃ p', Rx (put5 w6 w.heap.size A (an : Int) B (bn : Int) (.slice o m.length c)) R (.slice lo L.length lc) p' (a : Int) fe) ∧ fe ≠ 0) := fun h => ⟨⟨_, h hrx⟩, hfe⟩
                  clear hrx HXe hfe
                  obtain ⟨x0, x1, x2, x3, x4⟩ := hS.hx.cells
                  dsimp only at x0 x1 x2 x3 x4
                  go_wp2
                  go_loopw [8] (fun iv wz => iv = .int .i64 0 ∧ wz = w6) (fun _ _ => 0)
                  case atStart => exact ⟨by go_num, rfl⟩
                  case round =>
                    obtain ⟨rfl, rfl⟩ := hrel
                    go_upto_region 17 with fail
                    clear x0 x1 x2 x3 x4 r0 r1 r2 r3
                    obtain ⟨x0, x1, x2, x3, x4⟩ := hS.hx.cells
                    dsimp only at x0 x1 x2 x3 x4
                    obtain ⟨y0, y1, y2, y3, y4⟩ := hS.rb.cells
                    have yf0 := hS.rb.frozen 0
                    have yf1 := hS.rb.frozen 1
                    have yf2 := hS.rb.frozen 2
                    have yf3 := hS.rb.frozen 3
                    have yf4 := hS.rb.frozen 4
                    obtain ⟨hP, hownP, hgP, hrP⟩ := hS.done
                    have HEnd0 := HE.out hrP
                    unfold put5 at hP hownP hgP HEnd0
                    have HP : Hid (_ = _) := hP
                    have HOWN : Hid _ := hownP
                    have HGP : Hid _ := hgP
                    have HEnd : Hid _ := HEnd0
                    clear hrP hS HE hP hownP hgP HEnd0
                    go_wp2
                    exact bodyPost_ret (v := hkV ⟨A, (an : Int), B, (bn : Int), m⟩ (.slice o m.length c)) (results_cell_row rfl _ _ w.heap.size 43 #[.int .i64 A, .int .i64 (an : Int), .int .i64 B, .int .i64 (bn : Int), .slice o m.length c] (0, 0) _ rfl HP.out Tryd.underlying43 rfl (by kernel_rfl)) rfl ⟨_, _, rfl, HOWN.out, HGP.out, HEnd.out⟩
                | ok z =>
                  obtain ⟨s2, rr⟩ := z
                  obtain ⟨rfl, hrx⟩ := hq5
                  obtain ⟨hr2, hpl2, _, _⟩ := nxt_rest hZ2
                  subst hr2
                  dsimp only at hX
                  obtain ⟨r0, r1, r2, r3⟩ := hrx.cells
                  by_cases hse : s2 = [45, 45, 45]
                  · rw [if_pos hse] at hX
                    subst hse
                    dsimp only at hX
                    have HX1 : Hid (hkF A (an : Int) B (bn : Int) (thenL m (rdN [62, 32] 43 bn (pn + 1) (L.drop (pn + 1)))) = X) := (by
                      show _ = _
                      rw [← hX]
                      rcases rdN [62, 32] 43 bn (pn + 1) (L.drop (pn + 1)) with e | ⟨l2, p3, r3⟩ <;> rfl)
                    obtain ⟨b2, hb2⟩ : ∃ b2, pn + 1 = b2 := ⟨_, rfl⟩
                    rw [hb2] at HX1 hrx
                    have hb2l : b2 ≤ 8589934592 := by omega
                    have hq2 := hrx
                    have hS := hS5
                    clear hX hZ2 hrx hS5 hb2
                    go_wp2
                    clear r0 r1 r2 r3 x0 x1 x2 x3 x4
                    obtain ⟨Y2, hY2⟩ : ∃ Y2, thenL m (rdN [62, 32] 43 bn b2 (L.drop b2)) = Y2 := ⟨_, rfl⟩
                    have HX2 : Hid (hkF A (an : Int) B (bn : Int) Y2 = X) := (by rw [← hY2]; exact HX1.out)
                    have hA0 : AlR R (.slice lo L.length lc) L fa [62, 32] 43 Y2 (b2 + 2 * 0) (bn - 0) m w5 := .inl ⟨b2, hq2, by omega, hY2⟩
                    clear HX1 hY2 hq2
                    go_loopw [8] (fun iv wr => ∃ (i : Nat) (m : List Mk) (o : Option Addr) (c : Nat), i ≤ bn ∧ iv = .int .i64 (i : Int) ∧ m.length ≤ an + i ∧ Sb w R H A (an : Int) B (bn : Int) m (.slice o m.length c) wr ∧ AlR R (.slice lo L.length lc) L fa [62, 32] 43 Y2 (b2 + 2 * i) (bn - i) m wr) (fun iv _ => bn - (intOf iv).toNat)
                    case atStart => exact ⟨0, m, o, c, Nat.zero_le _, by go_num, by omega, hS, hA0⟩
                    case round =>
                      clear hS hA0 hml
                      clear m o c
                      obtain ⟨i, m, o, c, hi, rfl, hml, hS, hA⟩ := hrel
                      by_cases hgo : i < bn ∧ ∃ pn : Nat, Rx wr R (.slice lo L.length lc) (pn : Int) fa 0 ∧ pn ≤ b2 + 2 * i ∧ thenL m (rdN [62, 32] 43 (bn - i) pn (L.drop pn)) = Y2
                      · obtain ⟨hlt, hA⟩ := hgo
                        obtain ⟨pn, hrx, hpb, hY1⟩ := hA
                        obtain ⟨x0, x1, x2, x3, x4⟩ := hS.hx.cells
                        obtain ⟨r0, r1, r2, r3⟩ := hrx.cells
                        dsimp only at x0 x1 x2 x3 x4
                        have hn1 : bn - i = (bn - (i + 1)) + 1 := by omega
                        have HNx : Hid (∀ (t : List UInt8) (u u' : World), NxR R (.slice lo L.length lc) L fa [62, 32] 43 Y2 (b2 + 2 * (i + 1)) (bn - (i + 1)) m t u → (∀ {vL : Value} {p fa fe : Int}, Rx u R vL p fa fe → Rx u' R vL p fa fe) → AlR R (.slice lo L.length lc) L fa [62, 32] 43 Y2 (b2 + 2 * (i + 1)) (bn - (i + 1)) (m ++ [⟨43, t⟩]) u') := fun t u u' h hk => NxR.on h hk
                        have hSd := hS.drew
                        obtain ⟨Rr, hRr⟩ : ∃ Rr : Value → World → Prop, (fun v u => ∃ t : List UInt8, v = .string ⟨t.toArray⟩ ∧ Sb w R H A (an : Int) B (bn : Int) m (.slice o m.length c) u ∧ NxR R (.slice lo L.length lc) L fa [62, 32] 43 Y2 (b2 + 2 * (i + 1)) (bn - (i + 1)) m t u) = Rr := ⟨_, rfl⟩
                        have hcall : Calls Tryd.prog 84 (#[.pointer (some ⟨R, 0, none⟩), .string ⟨#[62, 32]⟩, .bool ((i : Int) == (bn : Int) - 1)] ++ #[]) wr.drew fun e w' => (∃ v, e = .returned v ∧ w'.cell? ⟨H, 3, none⟩ = some (.int .i64 (bn : Int)) ∧ Rr v w') ∨ (∃ c, e = .panicked c ∧ False) := (by
                          obtain ⟨Z, hZ⟩ : ∃ Z, mkd [62, 32] ((i : Int) == (bn : Int) - 1) pn (L.drop pn) = Z := ⟨_, rfl⟩
                          have hlast : (bn - (i + 1) == 0) = ((i : Int) == (bn : Int) - 1) := (by rw [Bool.eq_iff_iff, beq_iff_eq, beq_iff_eq]; omega)
                          refine (rMarked_f wr.drew (show Rx wr.drew R (.slice lo L.length lc) pn fa 0 from hrx) (HL.out _ hSd.gr) hRl (by omega) HSl2.out [62, 32] rfl _ Z hZ).mono ?_
                          rintro e w' ⟨hq, hg⟩
                          left
                          have hS' := hSd.call hg
                          rw [← hRr]
                          rw [hn1] at hY1
                          cases Z with
                          | error z =>
                            obtain ⟨a, z⟩ := z
                            obtain ⟨t, p', rfl, hr, hz⟩ := hq
                            exact ⟨_, rfl, hS'.c3, t, rfl, hS', .inr ⟨p', a, z, hr, hz, by rw [← hY1]; exact rdN_stop hlast hZ m⟩⟩
                          | ok z =>
                            obtain ⟨t, p1, r⟩ := z
                            obtain ⟨rfl, hr, hd⟩ := hq
                            have hle := mkd_le hZ
                            exact ⟨_, rfl, hS'.c3, t, rfl, hS', .inl ⟨p1, hr, by omega, by rw [← hY1, rdN_take hlast hZ m, hd]⟩⟩)
                        have HRr : Hid (_ = Rr) := hRr
                        have j1 : (i : Int) < (bn : Int) := by omega
                        clear hRr hY1 hn1
                        go_upto_region 16 with fail
                        clear x0 x1 x2 x3 x4 r0 r1 r2 r3 j1
                        refine wp_region_noPanic ?_
                        refine wp_region_held_drew (S := fun u => u.cell? ⟨H, 3, none⟩ = some (.int .i64 (bn : Int))) (by kernel_rfl) hSd.c3 (fun hHeld => ?_)
                        generalize wr.drew = wd at hSd hcall hHeld ⊢
                        have c4d := hSd.c4
                        refine go_take 0 88 _ (.pointer (some ⟨H, 4, none⟩)) rfl (by kernel_rfl) (by kernel_rfl) (by kernel_rfl) (by kernel_rfl) (fun _ _ _ h => h) (Or.inl ⟨by kernel_rfl, fun u hu => by kernel_rfl⟩) hHeld ?_
                        simp only [Act.put, List.setIfInBounds_toArray, List.set_cons_zero, List.set_cons_succ]
                        refine go_take 2 90 _ (.pointer (some ⟨R, 0, none⟩)) rfl (by kernel_rfl) (by kernel_rfl) (by kernel_rfl) (by kernel_rfl) (fun _ _ _ h => h) (Or.inl ⟨by kernel_rfl, fun u hu => by kernel_rfl⟩) hHeld ?_
                        simp only [Act.put, List.setIfInBounds_toArray, List.set_cons_zero, List.set_cons_succ]
                        refine go_take 3 91 _ (.int .i64 (i : Int)) rfl (by kernel_rfl) (by kernel_rfl) (by kernel_rfl) (by kernel_rfl) (fun _ _ _ h => h) (Or.inl ⟨by kernel_rfl, fun u hu => by kernel_rfl⟩) hHeld ?_
                        simp only [Act.put, List.setIfInBounds_toArray, List.set_cons_zero, List.set_cons_succ]
                        refine go_take 4 92 _ (.pointer (some ⟨H, 3, none⟩)) rfl (by kernel_rfl) (by kernel_rfl) (by kernel_rfl) (by kernel_rfl) (fun _ _ _ h => h) (Or.inl ⟨by kernel_rfl, fun u hu => by kernel_rfl⟩) hHeld ?_
                        simp only [Act.put, List.setIfInBounds_toArray, List.set_cons_zero, List.set_cons_succ]
                        refine go_take 5 93 _ (.int .i64 (bn : Int)) rfl (by kernel_rfl) (by kernel_rfl) (by kernel_rfl) (by kernel_rfl) (fun _ _ _ h => h) (Or.inl ⟨by kernel_rfl, fun u hu => load_int hu (.tmp 92) (by kernel_rfl) (by kernel_rfl)⟩) hHeld ?_
                        simp only [Act.put, List.setIfInBounds_toArray, List.set_cons_zero, List.set_cons_succ]
                        refine go_take 6 94 _ (.int .i64 ((bn : Int) - 1)) rfl (by kernel_rfl) (by kernel_rfl) (by kernel_rfl) (by kernel_rfl) (fun _ _ _ h => h) (Or.inl ⟨by kernel_rfl, fun u hu => sub_one (z := (bn : Int)) (by omega) (by omega) (.tmp 93) (by kernel_rfl) (by kernel_rfl) (by kernel_rfl)⟩) hHeld ?_
                        simp only [Act.put, List.setIfInBounds_toArray, List.set_cons_zero, List.set_cons_succ]
                        refine go_take 7 95 _ (.bool ((i : Int) == (bn : Int) - 1)) rfl (by kernel_rfl) (by kernel_rfl) (by kernel_rfl) (by kernel_rfl) (fun _ _ _ h => h) (Or.inl ⟨by kernel_rfl, fun u hu => by kernel_rfl⟩) hHeld ?_
                        simp only [Act.put, List.setIfInBounds_toArray, List.set_cons_zero, List.set_cons_succ]
                        refine go_valCallP 1 89 _ 8 96 _ rfl (by kernel_rfl) rfl (by kernel_rfl) (by kernel_rfl) (by kernel_rfl) (by kernel_rfl) (.slice o m.length c) wd (load_mks c4d (.tmp 88) (by kernel_rfl) (by kernel_rfl)) hHeld 84 (.func 84) #[.tmp 90, .const (.string ⟨#[62, 32]⟩), .tmp 95] #[79, 9, 4] (by kernel_rfl) #[] (by kernel_rfl) #[.pointer (some ⟨R, 0, none⟩), .string ⟨#[62, 32]⟩, .bool ((i : Int) == (bn : Int) - 1)] (by kernel_rfl) (enters_of Tryd.func84 (by kernel_rfl) rfl) (Rr) (fun _ _ => False) (fun c u h => h.elim) ?_ ?_ ?_
                        · exact hcall
                        · simp only [Act.put, List.setIfInBounds_toArray, List.set_cons_zero, List.set_cons_succ]
                          refine go_callP 8 96 _ rfl (by kernel_rfl) (by kernel_rfl) (by kernel_rfl) 84 (.func 84) #[.tmp 90, .const (.string ⟨#[62, 32]⟩), .tmp 95] #[79, 9, 4] (by kernel_rfl) #[] (by kernel_rfl) #[.pointer (some ⟨R, 0, none⟩), .string ⟨#[62, 32]⟩, .bool ((i : Int) == (bn : Int) - 1)] (by kernel_rfl) (enters_of Tryd.func84 (by kernel_rfl) rfl) (Rr) (fun _ _ => False) (fun c u h => h.elim) ?_ ?_
                          · exact hcall
                          intro v0 u1 hH1 hq
                          rw [← HRr.out] at hq
                          obtain ⟨t, rfl, hS1, hA1⟩ := hq
                          have c1u := hS1.c4
                          have c2u := (hS1.alloc (mkO ⟨43, t⟩)).c4
                          simp only [Act.put, List.setIfInBounds_toArray, List.set_cons_zero, List.set_cons_succ]
                          refine go_take 9 97 _ (.agg #[.int .u8 43, .string ⟨t.toArray⟩]) rfl (by kernel_rfl) (by kernel_rfl) (by kernel_rfl) (by kernel_rfl) (fun _ _ _ h => h) (Or.inl ⟨by kernel_rfl, fun u hu => by kernel_rfl⟩) hH1 ?_
                          simp only [Act.put, List.setIfInBounds_toArray, List.set_cons_zero, List.set_cons_succ]
                          refine go_val 10 98 _ rfl (by kernel_rfl) (by kernel_rfl) (by kernel_rfl) (.slice (some ⟨u1.heap.size, 0, none⟩) 1 1) (u1.alloc (mkO ⟨43, t⟩)) (by kernel_rfl) (hS1.alloc (mkO ⟨43, t⟩)).c3 ?_
                          simp only [Act.put, List.setIfInBounds_toArray, List.set_cons_zero, List.set_cons_succ]
                          have hSA := hS1.alloc (mkO ⟨43, t⟩)
                          obtain ⟨v3, u3, hr3, hown3, hg3, _⟩ := run_append_w (u1.alloc (mkO ⟨43, t⟩)) 41 91 41 (.agg #[.int .u8 0, .string ⟨#[]⟩]) 2 24 Tryd.underlying41 infoMk rfl (by decide) (by decide) w.heap.size _ _ _ hSA.own _ 1 (mkcells [⟨43, t⟩]) (mk_row u1 ⟨43, t⟩) (mkcells_length _) (mkcells_one _) (by omega) hSA.gr.size
                          have hS3 := hSA.more hg3 hown3
                          obtain ⟨o3, k3, rfl⟩ := (holds_of hown3).form
                          refine go_val 11 99 _ rfl (by kernel_rfl) (by kernel_rfl) (by kernel_rfl) (.slice o3 (m.length + 1) k3) u3 (exec_app (.tmp 89) (.tmp 98) (by kernel_rfl) (by kernel_rfl) (by kernel_rfl) hr3) hS3.2.2.2.2.1 ?_
                          simp only [Act.put, List.setIfInBounds_toArray, List.set_cons_zero, List.set_cons_succ]
                          refine go_take 12 100 _ (.pointer (some ⟨H, 4, none⟩)) rfl (by kernel_rfl) (by kernel_rfl) (by kernel_rfl) (by kernel_rfl) (fun _ _ _ h => h) (Or.inl ⟨by kernel_rfl, fun u hu => by kernel_rfl⟩) hS3.2.2.2.2.1 ?_
                          simp only [Act.put, List.setIfInBounds_toArray, List.set_cons_zero, List.set_cons_succ]
                          refine go_skip 13 _ rfl (by kernel_rfl) (by kernel_rfl) (by kernel_rfl) (u3.setCell ⟨H, 4, none⟩ (.slice o3 (m.length + 1) k3)) (exec_storeL hS3.2.2.1 hS3.2.1 rfl (.tmp 100) (.tmp 99) (by kernel_rfl) (by kernel_rfl) (by kernel_rfl)) hS3.1.c3 ?_
                          refine wpAnyH_done (by kernel_rfl) ?_ _
                          refine NoPanic.normal ?_
                          have hA2 := HNx.out t u1 (u3.setCell ⟨H, 4, none⟩ (.slice o3 (m.length + 1) k3)) hA1 (fun q => hS3.2.2.2.2.2 (q.low ((Below.refl _ u1).alloc (Nat.le_refl _) _)))
                          have hS4 := hS3.1
                          go_wp2
                          exact ⟨⟨i + 1, m ++ [⟨43, t⟩], o3, k3, by omega, by go_num, by simp; omega, by simpa using hS4, hA2⟩, by simp [intOf]; omega⟩
                        · intro v0 u1 hH1 hq
                          rw [← HRr.out] at hq
                          obtain ⟨t, rfl, hS1, hA1⟩ := hq
                          have c1u := hS1.c4
                          have c2u := (hS1.alloc (mkO ⟨43, t⟩)).c4
                          simp only [Act.put, List.setIfInBounds_toArray, List.set_cons_zero, List.set_cons_succ]
                          refine go_take 9 97 _ (.agg #[.int .u8 43, .string ⟨t.toArray⟩]) rfl (by kernel_rfl) (by kernel_rfl) (by kernel_rfl) (by kernel_rfl) (fun _ _ _ h => h) (Or.inl ⟨by kernel_rfl, fun u hu => by kernel_rfl⟩) hH1 ?_
                          simp only [Act.put, List.setIfInBounds_toArray, List.set_cons_zero, List.set_cons_succ]
                          refine go_two 1 89 _ 10 98 _ rfl (by kernel_rfl) rfl (by kernel_rfl) (by kernel_rfl) (by kernel_rfl) (by kernel_rfl) (.slice o m.length c) u1 (load_mks c1u (.tmp 88) (by kernel_rfl) (by kernel_rfl)) hH1 (.slice (some ⟨u1.heap.size, 0, none⟩) 1 1) (u1.alloc (mkO ⟨43, t⟩)) (by kernel_rfl) (hS1.alloc (mkO ⟨43, t⟩)).c3 ?_ ?_
                          · simp only [Act.put, List.setIfInBounds_toArray, List.set_cons_zero, List.set_cons_succ]
                            refine go_val 10 98 _ rfl (by kernel_rfl) (by kernel_rfl) (by kernel_rfl) (.slice (some ⟨u1.heap.size, 0, none⟩) 1 1) (u1.alloc (mkO ⟨43, t⟩)) (by kernel_rfl) (hS1.alloc (mkO ⟨43, t⟩)).c3 ?_
                            simp only [Act.put, List.setIfInBounds_toArray, List.set_cons_zero, List.set_cons_succ]
                            have hSA := hS1.alloc (mkO ⟨43, t⟩)
                            obtain ⟨v3, u3, hr3, hown3, hg3, _⟩ := run_append_w (u1.alloc (mkO ⟨43, t⟩)) 41 91 41 (.agg #[.int .u8 0, .string ⟨#[]⟩]) 2 24 Tryd.underlying41 infoMk rfl (by decide) (by decide) w.heap.size _ _ _ hSA.own _ 1 (mkcells [⟨43, t⟩]) (mk_row u1 ⟨43, t⟩) (mkcells_length _) (mkcells_one _) (by omega) hSA.gr.size
                            have hS3 := hSA.more hg3 hown3
                            obtain ⟨o3, k3, rfl⟩ := (holds_of hown3).form
                            refine go_val 11 99 _ rfl (by kernel_rfl) (by kernel_rfl) (by kernel_rfl) (.slice o3 (m.length + 1) k3) u3 (exec_app (.tmp 89) (.tmp 98) (by kernel_rfl) (by kernel_rfl) (by kernel_rfl) hr3) hS3.2.2.2.2.1 ?_
                            simp only [Act.put, List.setIfInBounds_toArray, List.set_cons_zero, List.set_cons_succ]
                            refine go_take 12 100 _ (.pointer (some ⟨H, 4, none⟩)) rfl (by kernel_rfl) (by kernel_rfl) (by kernel_rfl) (by kernel_rfl) (fun _ _ _ h => h) (Or.inl ⟨by kernel_rfl, fun u hu => by kernel_rfl⟩) hS3.2.2.2.2.1 ?_
                            simp only [Act.put, List.setIfInBounds_toArray, List.set_cons_zero, List.set_cons_succ]
                            refine go_skip 13 _ rfl (by kernel_rfl) (by kernel_rfl) (by kernel_rfl) (u3.setCell ⟨H, 4, none⟩ (.slice o3 (m.length + 1) k3)) (exec_storeL hS3.2.2.1 hS3.2.1 rfl (.tmp 100) (.tmp 99) (by kernel_rfl) (by kernel_rfl) (by kernel_rfl)) hS3.1.c3 ?_
                            refine wpAnyH_done (by kernel_rfl) ?_ _
                            refine NoPanic.normal ?_
                            have hA2 := HNx.out t u1 (u3.setCell ⟨H, 4, none⟩ (.slice o3 (m.length + 1) k3)) hA1 (fun q => hS3.2.2.2.2.2 (q.low ((Below.refl _ u1).alloc (Nat.le_refl _) _)))
                            have hS4 := hS3.1
                            go_wp2
                            exact ⟨⟨i + 1, m ++ [⟨43, t⟩], o3, k3, by omega, by go_num, by simp; omega, by simpa using hS4, hA2⟩, by simp [intOf]; omega⟩
                          · simp only [Act.put, List.setIfInBounds_toArray, List.set_cons_zero, List.set_cons_succ]
                            refine go_val 1 89 _ rfl (by kernel_rfl) (by kernel_rfl) (by kernel_rfl) (.slice o m.length c) (u1.alloc (mkO ⟨43, t⟩)) (load_mks c2u (.tmp 88) (by kernel_rfl) (by kernel_rfl)) (hS1.alloc (mkO ⟨43, t⟩)).c3 ?_
                            simp only [Act.put, List.setIfInBounds_toArray, List.set_cons_zero, List.set_cons_succ]
                            have hSA := hS1.alloc (mkO ⟨43, t⟩)
                            obtain ⟨v3, u3, hr3, hown3, hg3, _⟩ := run_append_w (u1.alloc (mkO ⟨43, t⟩)) 41 91 41 (.agg #[.int .u8 0, .string ⟨#[]⟩]) 2 24 Tryd.underlying41 infoMk rfl (by decide) (by decide) w.heap.size _ _ _ hSA.own _ 1 (mkcells [⟨43, t⟩]) (mk_row u1 ⟨43, t⟩) (mkcells_length _) (mkcells_one _) (by omega) hSA.gr.size
                            have hS3 := hSA.more hg3 hown3
                            obtain ⟨o3, k3, rfl⟩ := (holds_of hown3).form
                            refine go_val 11 99 _ rfl (by kernel_rfl) (by kernel_rfl) (by kernel_rfl) (.slice o3 (m.length + 1) k3) u3 (exec_app (.tmp 89) (.tmp 98) (by kernel_rfl) (by kernel_rfl) (by kernel_rfl) hr3) hS3.2.2.2.2.1 ?_
                            simp only [Act.put, List.setIfInBounds_toArray, List.set_cons_zero, List.set_cons_succ]
                            refine go_take 12 100 _ (.pointer (some ⟨H, 4, none⟩)) rfl (by kernel_rfl) (by kernel_rfl) (by kernel_rfl) (by kernel_rfl) (fun _ _ _ h => h) (Or.inl ⟨by kernel_rfl, fun u hu => by kernel_rfl⟩) hS3.2.2.2.2.1 ?_
                            simp only [Act.put, List.setIfInBounds_toArray, List.set_cons_zero, List.set_cons_succ]
                            refine go_skip 13 _ rfl (by kernel_rfl) (by kernel_rfl) (by kernel_rfl) (u3.setCell ⟨H, 4, none⟩ (.slice o3 (m.length + 1) k3)) (exec_storeL hS3.2.2.1 hS3.2.1 rfl (.tmp 100) (.tmp 99) (by kernel_rfl) (by kernel_rfl) (by kernel_rfl)) hS3.1.c3 ?_
                            refine wpAnyH_done (by kernel_rfl) ?_ _
                            refine NoPanic.normal ?_
                            have hA2 := HNx.out t u1 (u3.setCell ⟨H, 4, none⟩ (.slice o3 (m.length + 1) k3)) hA1 (fun q => hS3.2.2.2.2.2 (q.low ((Below.refl _ u1).alloc (Nat.le_refl _) _)))
                            have hS4 := hS3.1
                            go_wp2
                            exact ⟨⟨i + 1, m ++ [⟨43, t⟩], o3, k3, by omega, by go_num, by simp; omega, by simpa using hS4, hA2⟩, by simp [intOf]; omega⟩
                      · have HE : Hid ((∀ {vL : Value} {p fa fe : Int}, Rx wr R vL p fa fe → Rx (put5 wr w.heap.size A (an : Int) B (bn : Int) (.slice o m.length c)) R vL p fa fe) → EdR R (.slice lo L.length lc) L fa X ⟨A, (an : Int), B, (bn : Int), m⟩ (put5 wr w.heap.size A (an : Int) B (bn : Int) (.slice o m.length c))) := (by
                          intro h
                          have hXv := HX2.out
                          rcases hA with ⟨pn, hr, _, hY⟩ | ⟨p', a, fe, hr, hz, hY⟩
                          · have hib : i = bn := (by
                              by_cases hib : i < bn
                              · exact absurd ⟨hib, pn, hr, by assumption, hY⟩ hgo
                              · omega)
                            rw [hib, Nat.sub_self] at hY
                            simp only [rdN, thenL, List.append_nil] at hY
                            rw [← hY] at hXv
                            rw [← hXv]
                            exact ⟨rfl, h hr, rfl⟩
                          · rw [hY] at hXv
                            rw [← hXv]
                            exact ⟨⟨_, h hr⟩, hz⟩)
                        have hfst : (i < bn → ∃ fe p' fa', Rx wr R (.slice lo L.length lc) p' fa' fe ∧ fe ≠ 0) := (by
                          intro hib
                          rcases hA with ⟨pn, hr, hb, hY⟩ | ⟨p', a, fe, hr, hz, hY⟩
                          · exact absurd ⟨hib, pn, hr, hb, hY⟩ hgo
                          · exact ⟨fe, p', _, hr, hz⟩)
                        clear hA hgo HX2
                        obtain ⟨x0, x1, x2, x3, x4⟩ := hS.hx.cells
                        dsimp only at x0 x1 x2 x3 x4
                        by_cases hib : i < bn
                        · obtain ⟨fe, p', fa', hr, hz⟩ := hfst hib
                          obtain ⟨r0, r1, r2, r3⟩ := hr.cells
                          have hfb : (fe == 0) = false := beq_eq_false_iff_ne.2 hz
                          have hib2 : (i : Int) < (bn : Int) := by omega
                          clear hr hfst
                          go_upto_region 17 with fail
                          clear x0 x1 x2 x3 x4 r0 r1 r2 r3
                          obtain ⟨x0, x1, x2, x3, x4⟩ := hS.hx.cells
                          dsimp only at x0 x1 x2 x3 x4
                          obtain ⟨y0, y1, y2, y3, y4⟩ := hS.rb.cells
                          have yf0 := hS.rb.frozen 0
                          have yf1 := hS.rb.frozen 1
                          have yf2 := hS.rb.frozen 2
                          have yf3 := hS.rb.frozen 3
                          have yf4 := hS.rb.frozen 4
                          obtain ⟨hP, hownP, hgP, hrP⟩ := hS.done
                          have HEnd0 := HE.out hrP
                          unfold put5 at hP hownP hgP HEnd0
                          have HP : Hid (_ = _) := hP
                          have HOWN : Hid _ := hownP
                          have HGP : Hid _ := hgP
                          have HEnd : Hid _ := HEnd0
                          clear hrP hS HE hP hownP hgP HEnd0
                          go_wp2
                          exact bodyPost_ret (v := hkV ⟨A, (an : Int), B, (bn : Int), m⟩ (.slice o m.length c)) (results_cell_row rfl _ _ w.heap.size 43 #[.int .i64 A, .int .i64 (an : Int), .int .i64 B, .int .i64 (bn : Int), .slice o m.length c] (0, 0) _ rfl HP.out Tryd.underlying43 rfl (by kernel_rfl)) rfl ⟨_, _, rfl, HOWN.out, HGP.out, HEnd.out⟩
                        · have hib2 : ¬ (i : Int) < (bn : Int) := by omega
                          clear hfst
                          go_upto_region 17 with fail
                          clear x0 x1 x2 x3 x4
                          obtain ⟨x0, x1, x2, x3, x4⟩ := hS.hx.cells
                          dsimp only at x0 x1 x2 x3 x4
                          obtain ⟨y0, y1, y2, y3, y4⟩ := hS.rb.cells
                          have yf0 := hS.rb.frozen 0
                          have yf1 := hS.rb.frozen 1
                          have yf2 := hS.rb.frozen 2
                          have yf3 := hS.rb.frozen 3
                          have yf4 := hS.rb.frozen 4
                          obtain ⟨hP, hownP, hgP, hrP⟩ := hS.done
                          have HEnd0 := HE.out hrP
                          unfold put5 at hP hownP hgP HEnd0
                          have HP : Hid (_ = _) := hP
                          have HOWN : Hid _ := hownP
                          have HGP : Hid _ := hgP
                          have HEnd : Hid _ := HEnd0
                          clear hrP hS HE hP hownP hgP HEnd0
                          go_wp2
                          exact bodyPost_ret (v := hkV ⟨A, (an : Int), B, (bn : Int), m⟩ (.slice o m.length c)) (results_cell_row rfl _ _ w.heap.size 43 #[.int .i64 A, .int .i64 (an : Int), .int .i64 B, .int .i64 (bn : Int), .slice o m.length c] (0, 0) _ rfl HP.out Tryd.underlying43 rfl (by kernel_rfl)) rfl ⟨_, _, rfl, HOWN.out, HGP.out, HEnd.out⟩
                  · rw [if_neg hse] at hX
                    have HXe : Hid (X = .error (pn + 1, 3)) := hX.symm
                    have hseb : (s2 == [45, 45, 45]) = false := beq_eq_false_iff_ne.2 hse
                    clear hX hZ2
                    go_wp2_with fail
                    refine (rFail_ok 3 w5 hrx).mono ?_
                    rintro x w6 ⟨rfl, hrx6, hg6⟩
                    have hS := hS5.call hg6
                    have hrx := hrx6
                    clear hS5 hrx6 hg6 hseb hse r0 r1 r2 r3 x0 x1 x2 x3 x4
                    obtain ⟨a, ha⟩ : ∃ a, pn + 1 = a := ⟨_, rfl⟩
                    obtain ⟨fe, hfe0⟩ : ∃ fe : Int, 3 = fe := ⟨_, rfl⟩
                    have hfe : fe ≠ 0 := by omega
                    rw [ha] at hrx HXe
                    rw [hfe0] at hrx HXe
                    clear ha hfe0
                    obtain ⟨r0, r1, r2, r3⟩ := hrx.cells
                    have hfb : (fe == 0) = false := beq_eq_false_iff_ne.2 hfe
                    have hXe := HXe.out
                    subst hXe
                    have HE : Hid ((∀ {vL : Value} {p fa fe : Int}, Rx w6 R vL p fa fe → Rx (put5 w6 w.heap.size A (an : Int) B (bn : Int) (.slice o m.length c)) R vL p fa fe) → (∃ p', Rx (put5 w6 w.heap.size A (an : Int) B (bn : Int) (.slice o m.length c)) R (.slice lo L.length lc) p' (a : Int) fe) ∧ fe ≠ 0) := fun h => ⟨⟨_, h hrx⟩, hfe⟩
                    clear hrx HXe hfe
                    obtain ⟨x0, x1, x2, x3, x4⟩ := hS.hx.cells
                    dsimp only at x0 x1 x2 x3 x4
                    go_wp2
                    go_loopw [8] (fun iv wz => iv = .int .i64 0 ∧ wz = w6) (fun _ _ => 0)
                    case atStart => exact ⟨by go_num, rfl⟩
                    case round =>
                      obtain ⟨rfl, rfl⟩ := hrel
                      go_upto_region 17 with fail
                      clear x0 x1 x2 x3 x4 r0 r1 r2 r3
                      obtain ⟨x0, x1, x2, x3, x4⟩ := hS.hx.cells
                      dsimp only at x0 x1 x2 x3 x4
                      obtain ⟨y0, y1, y2, y3, y4⟩ := hS.rb.cells
                      have yf0 := hS.rb.frozen 0
                      have yf1 := hS.rb.frozen 1
                      have yf2 := hS.rb.frozen 2
                      have yf3 := hS.rb.frozen 3
                      have yf4 := hS.rb.frozen 4
                      obtain ⟨hP, hownP, hgP, hrP⟩ := hS.done
                      have HEnd0 := HE.out hrP
                      unfold put5 at hP hownP hgP HEnd0
                      have HP : Hid (_ = _) := hP
                      have HOWN : Hid _ := hownP
                      have HGP : Hid _ := hgP
                      have HEnd : Hid _ := HEnd0
                      clear hrP hS HE hP hownP hgP HEnd0
                      go_wp2
                      exact bodyPost_ret (v := hkV ⟨A, (an : Int), B, (bn : Int), m⟩ (.slice o m.length c)) (results_cell_row rfl _ _ w.heap.size 43 #[.int .i64 A, .int .i64 (an : Int), .int .i64 B, .int .i64 (bn : Int), .slice o m.length c] (0, 0) _ rfl HP.out Tryd.underlying43 rfl (by kernel_rfl)) rfl ⟨_, _, rfl, HOWN.out, HGP.out, HEnd.out⟩
              · rw [if_neg (by omega)] at hX
                dsimp only at hX
                have HX1 : Hid (hkF A (an : Int) B (bn : Int) (thenL m (rdN [62, 32] 43 bn pn (L.drop pn))) = X) := (by
                  show _ = _
                  rw [← hX]
                  rcases rdN [62, 32] 43 bn pn (L.drop pn) with e | ⟨l2, p3, r3⟩ <;> rfl)
                obtain ⟨b2, hb2⟩ : ∃ b2, b2 = pn := ⟨_, rfl⟩
                subst hb2
                have hb2l : b2 ≤ 8589934592 := by omega
                have hq2 := hrx
                clear hX hrx
                go_wp2
                clear r0 r1 r2 r3 x0 x1 x2 x3 x4
                obtain ⟨Y2, hY2⟩ : ∃ Y2, thenL m (rdN [62, 32] 43 bn b2 (L.drop b2)) = Y2 := ⟨_, rfl⟩
                have HX2 : Hid (hkF A (an : Int) B (bn : Int) Y2 = X) := (by rw [← hY2]; exact HX1.out)
                have hA0 : AlR R (.slice lo L.length lc) L fa [62, 32] 43 Y2 (b2 + 2 * 0) (bn - 0) m wr := .inl ⟨b2, hq2, by omega, hY2⟩
                clear HX1 hY2 hq2
                go_loopw [8] (fun iv wr => ∃ (i : Nat) (m : List Mk) (o : Option Addr) (c : Nat), i ≤ bn ∧ iv = .int .i64 (i : Int) ∧ m.length ≤ an + i ∧ Sb w R H A (an : Int) B (bn : Int) m (.slice o m.length c) wr ∧ AlR R (.slice lo L.length lc) L fa [62, 32] 43 Y2 (b2 + 2 * i) (bn - i) m wr) (fun iv _ => bn - (intOf iv).toNat)
                case atStart => exact ⟨0, m, o, c, Nat.zero_le _, by go_num, by omega, hS, hA0⟩
                case round =>
                  clear hS hA0 hml
                  clear m o c
                  obtain ⟨i, m, o, c, hi, rfl, hml, hS, hA⟩ := hrel
                  by_cases hgo : i < bn ∧ ∃ pn : Nat, Rx wr R (.slice lo L.length lc) (pn : Int) fa 0 ∧ pn ≤ b2 + 2 * i ∧ thenL m (rdN [62, 32] 43 (bn - i) pn (L.drop pn)) = Y2
                  · exfalso
                    obtain ⟨hlt, _⟩ := hgo
                    omega
                  · have HE : Hid ((∀ {vL : Value} {p fa fe : Int}, Rx wr R vL p fa fe → Rx (put5 wr w.heap.size A (an : Int) B (bn : Int) (.slice o m.length c)) R vL p fa fe) → EdR R (.slice lo L.length lc) L fa X ⟨A, (an : Int), B, (bn : Int), m⟩ (put5 wr w.heap.size A (an : Int) B (bn : Int) (.slice o m.length c))) := (by
                      intro h
                      have hXv := HX2.out
                      rcases hA with ⟨pn, hr, _, hY⟩ | ⟨p', a, fe, hr, hz, hY⟩
                      · have hib : i = bn := (by
                          by_cases hib : i < bn
                          · exact absurd ⟨hib, pn, hr, by assumption, hY⟩ hgo
                          · omega)
                        rw [hib, Nat.sub_self] at hY
                        simp only [rdN, thenL, List.append_nil] at hY
                        rw [← hY] at hXv
                        rw [← hXv]
                        exact ⟨rfl, h hr, rfl⟩
                      · rw [hY] at hXv
                        rw [← hXv]
                        exact ⟨⟨_, h hr⟩, hz⟩)
                    have hfst : (i < bn → ∃ fe p' fa', Rx wr R (.slice lo L.length lc) p' fa' fe ∧ fe ≠ 0) := (by
                      intro hib
                      rcases hA with ⟨pn, hr, hb, hY⟩ | ⟨p', a, fe, hr, hz, hY⟩
                      · exact absurd ⟨hib, pn, hr, hb, hY⟩ hgo
                      · exact ⟨fe, p', _, hr, hz⟩)
                    clear hA hgo HX2
                    obtain ⟨x0, x1, x2, x3, x4⟩ := hS.hx.cells
                    dsimp only at x0 x1 x2 x3 x4
                    by_cases hib : i < bn
                    · exfalso
                      omega
                    · have hib2 : ¬ (i : Int) < (bn : Int) := by omega
                      clear hfst
                      go_upto_region 17 with fail
                      clear x0 x1 x2 x3 x4
                      obtain ⟨x0, x1, x2, x3, x4⟩ := hS.hx.cells
                      dsimp only at x0 x1 x2 x3 x4
                      obtain ⟨y0, y1, y2, y3, y4⟩ := hS.rb.cells
                      have yf0 := hS.rb.frozen 0
                      have yf1 := hS.rb.frozen 1
                      have yf2 := hS.rb.frozen 2
                      have yf3 := hS.rb.frozen 3
                      have yf4 := hS.rb.frozen 4
                      obtain ⟨hP, hownP, hgP, hrP⟩ := hS.done
                      have HEnd0 := HE.out hrP
                      unfold put5 at hP hownP hgP HEnd0
                      have HP : Hid (_ = _) := hP
                      have HOWN : Hid _ := hownP
                      have HGP : Hid _ := hgP
                      have HEnd : Hid _ := HEnd0
                      clear hrP hS HE hP hownP hgP HEnd0
                      go_wp2
                      exact bodyPost_ret (v := hkV ⟨A, (an : Int), B, (bn : Int), m⟩ (.slice o m.length c)) (results_cell_row rfl _ _ w.heap.size 43 #[.int .i64 A, .int .i64 (an : Int), .int .i64 B, .int .i64 (bn : Int), .slice o m.length c] (0, 0) _ rfl HP.out Tryd.underlying43 rfl (by kernel_rfl)) rfl ⟨_, _, rfl, HOWN.out, HGP.out, HEnd.out⟩
            · rw [if_neg (by omega)] at hX
              dsimp only at hX
              have HX1 : Hid (hkF A (an : Int) B (bn : Int) (thenL m (rdN [62, 32] 43 bn pn (L.drop pn))) = X) := (by
                show _ = _
                rw [← hX]
                rcases rdN [62, 32] 43 bn pn (L.drop pn) with e | ⟨l2, p3, r3⟩ <;> rfl)
              obtain ⟨b2, hb2⟩ : ∃ b2, b2 = pn := ⟨_, rfl⟩
              subst hb2
              have hb2l : b2 ≤ 8589934592 := by omega
              have hq2 := hrx
              clear hX hrx
              go_wp2
              clear r0 r1 r2 r3 x0 x1 x2 x3 x4
              obtain ⟨Y2, hY2⟩ : ∃ Y2, thenL m (rdN [62, 32] 43 bn b2 (L.drop b2)) = Y2 := ⟨_, rfl⟩
              have HX2 : Hid (hkF A (an : Int) B (bn : Int) Y2 = X) := (by rw [← hY2]; exact HX1.out)
              have hA0 : AlR R (.slice lo L.length lc) L fa [62, 32] 43 Y2 (b2 + 2 * 0) (bn - 0) m wr := .inl ⟨b2, hq2, by omega, hY2⟩
              clear HX1 hY2 hq2
              go_loopw [8] (fun iv wr => ∃ (i : Nat) (m : List Mk) (o : Option Addr) (c : Nat), i ≤ bn ∧ iv = .int .i64 (i : Int) ∧ m.length ≤ an + i ∧ Sb w R H A (an : Int) B (bn : Int) m (.slice o m.length c) wr ∧ AlR R (.slice lo L.length lc) L fa [62, 32] 43 Y2 (b2 + 2 * i) (bn - i) m wr) (fun iv _ => bn - (intOf iv).toNat)
              case atStart => exact ⟨0, m, o, c, Nat.zero_le _, by go_num, by omega, hS, hA0⟩
              case round =>
                clear hS hA0 hml
                clear m o c
                obtain ⟨i, m, o, c, hi, rfl, hml, hS, hA⟩ := hrel
                by_cases hgo : i < bn ∧ ∃ pn : Nat, Rx wr R (.slice lo L.length lc) (pn : Int) fa 0 ∧ pn ≤ b2 + 2 * i ∧ thenL m (rdN [62, 32] 43 (bn - i) pn (L.drop pn)) = Y2
                · obtain ⟨hlt, hA⟩ := hgo
                  obtain ⟨pn, hrx, hpb, hY1⟩ := hA
                  obtain ⟨x0, x1, x2, x3, x4⟩ := hS.hx.cells
                  obtain ⟨r0, r1, r2, r3⟩ := hrx.cells
                  dsimp only at x0 x1 x2 x3 x4
                  have hn1 : bn - i = (bn - (i + 1)) + 1 := by omega
                  have HNx : Hid (∀ (t : List UInt8) (u u' : World), NxR R (.slice lo L.length lc) L fa [62, 32] 43 Y2 (b2 + 2 * (i + 1)) (bn - (i + 1)) m t u → (∀ {vL : Value} {p fa fe : Int}, Rx u R vL p fa fe → Rx u' R vL p fa fe) → AlR R (.slice lo L.length lc) L fa [62, 32] 43 Y2 (b2 + 2 * (i + 1)) (bn - (i + 1)) (m ++ [⟨43, t⟩]) u') := fun t u u' h hk => NxR.on h hk
                  have hSd := hS.drew
                  obtain ⟨Rr, hRr⟩ : ∃ Rr : Value → World → Prop, (fun v u => ∃ t : List UInt8, v = .string ⟨t.toArray⟩ ∧ Sb w R H A (an : Int) B (bn : Int) m (.slice o m.length c) u ∧ NxR R (.slice lo L.length lc) L fa [62, 32] 43 Y2 (b2 + 2 * (i + 1)) (bn - (i + 1)) m t u) = Rr := ⟨_, rfl⟩
                  have hcall : Calls Tryd.prog 84 (#[.pointer (some ⟨R, 0, none⟩), .string ⟨#[62, 32]⟩, .bool ((i : Int) == (bn : Int) - 1)] ++ #[]) wr.drew fun e w' => (∃ v, e = .returned v ∧ w'.cell? ⟨H, 3, none⟩ = some (.int .i64 (bn : Int)) ∧ Rr v w') ∨ (∃ c, e = .panicked c ∧ False) := (by
                    obtain ⟨Z, hZ⟩ : ∃ Z, mkd [62, 32] ((i : Int) == (bn : Int) - 1) pn (L.drop pn) = Z := ⟨_, rfl⟩
                    have hlast : (bn - (i + 1) == 0) = ((i : Int) == (bn : Int) - 1) := (by rw [Bool.eq_iff_iff, beq_iff_eq, beq_iff_eq]; omega)
                    refine (rMarked_f wr.drew (show Rx wr.drew R (.slice lo L.length lc) pn fa 0 from hrx) (HL.out _ hSd.gr) hRl (by omega) HSl2.out [62, 32] rfl _ Z hZ).mono ?_
                    rintro e w' ⟨hq, hg⟩
                    left
                    have hS' := hSd.call hg
                    rw [← hRr]
                    rw [hn1] at hY1
                    cases Z with
                    | error z =>
                      obtain ⟨a, z⟩ := z
                      obtain ⟨t, p', rfl, hr, hz⟩ := hq
                      exact ⟨_, rfl, hS'.c3, t, rfl, hS', .inr ⟨p', a, z, hr, hz, by rw [← hY1]; exact rdN_stop hlast hZ m⟩⟩
                    | ok z =>
                      obtain ⟨t, p1, r⟩ := z
                      obtain ⟨rfl, hr, hd⟩ := hq
                      have hle := mkd_le hZ
                      exact ⟨_, rfl, hS'.c3, t, rfl, hS', .inl ⟨p1, hr, by omega, by rw [← hY1, rdN_take hlast hZ m, hd]⟩⟩)
                  have HRr : Hid (_ = Rr) := hRr
                  have j1 : (i : Int) < (bn : Int) := by omega
                  clear hRr hY1 hn1
                  go_upto_region 16 with fail
                  clear x0 x1 x2 x3 x4 r0 r1 r2 r3 j1
                  refine wp_region_noPanic ?_
                  refine wp_region_held_drew (S := fun u => u.cell? ⟨H, 3, none⟩ = some (.int .i64 (bn : Int))) (by kernel_rfl) hSd.c3 (fun hHeld => ?_)
                  generalize wr.drew = wd at hSd hcall hHeld ⊢
                  have c4d := hSd.c4
                  refine go_take 0 88 _ (.pointer (some ⟨H, 4, none⟩)) rfl (by kernel_rfl) (by kernel_rfl) (by kernel_rfl) (by kernel_rfl) (fun _ _ _ h => h) (Or.inl ⟨by kernel_rfl, fun u hu => by kernel_rfl⟩) hHeld ?_
                  simp only [Act.put, List.setIfInBounds_toArray, List.set_cons_zero, List.set_cons_succ]
                  refine go_take 2 90 _ (.pointer (some ⟨R, 0, none⟩)) rfl (by kernel_rfl) (by kernel_rfl) (by kernel_rfl) (by kernel_rfl) (fun _ _ _ h => h) (Or.inl ⟨by kernel_rfl, fun u hu => by kernel_rfl⟩) hHeld ?_
                  simp only [Act.put, List.setIfInBounds_toArray, List.set_cons_zero, List.set_cons_succ]
                  refine go_take 3 91 _ (.int .i64 (i : Int)) rfl (by kernel_rfl) (by kernel_rfl) (by kernel_rfl) (by kernel_rfl) (fun _ _ _ h => h) (Or.inl ⟨by kernel_rfl, fun u hu => by kernel_rfl⟩) hHeld ?_
                  simp only [Act.put, List.setIfInBounds_toArray, List.set_cons_zero, List.set_cons_succ]
                  refine go_take 4 92 _ (.pointer (some ⟨H, 3, none⟩)) rfl (by kernel_rfl) (by kernel_rfl) (by kernel_rfl) (by kernel_rfl) (fun _ _ _ h => h) (Or.inl ⟨by kernel_rfl, fun u hu => by kernel_rfl⟩) hHeld ?_
                  simp only [Act.put, List.setIfInBounds_toArray, List.set_cons_zero, List.set_cons_succ]
                  refine go_take 5 93 _ (.int .i64 (bn : Int)) rfl (by kernel_rfl) (by kernel_rfl) (by kernel_rfl) (by kernel_rfl) (fun _ _ _ h => h) (Or.inl ⟨by kernel_rfl, fun u hu => load_int hu (.tmp 92) (by kernel_rfl) (by kernel_rfl)⟩) hHeld ?_
                  simp only [Act.put, List.setIfInBounds_toArray, List.set_cons_zero, List.set_cons_succ]
                  refine go_take 6 94 _ (.int .i64 ((bn : Int) - 1)) rfl (by kernel_rfl) (by kernel_rfl) (by kernel_rfl) (by kernel_rfl) (fun _ _ _ h => h) (Or.inl ⟨by kernel_rfl, fun u hu => sub_one (z := (bn : Int)) (by omega) (by omega) (.tmp 93) (by kernel_rfl) (by kernel_rfl) (by kernel_rfl)⟩) hHeld ?_
                  simp only [Act.put, List.setIfInBounds_toArray, List.set_cons_zero, List.set_cons_succ]
                  refine go_take 7 95 _ (.bool ((i : Int) == (bn : Int) - 1)) rfl (by kernel_rfl) (by kernel_rfl) (by kernel_rfl) (by kernel_rfl) (fun _ _ _ h => h) (Or.inl ⟨by kernel_rfl, fun u hu => by kernel_rfl⟩) hHeld ?_
                  simp only [Act.put, List.setIfInBounds_toArray, List.set_cons_zero, List.set_cons_succ]
                  refine go_valCallP 1 89 _ 8 96 _ rfl (by kernel_rfl) rfl (by kernel_rfl) (by kernel_rfl) (by kernel_rfl) (by kernel_rfl) (.slice o m.length c) wd (load_mks c4d (.tmp 88) (by kernel_rfl) (by kernel_rfl)) hHeld 84 (.func 84) #[.tmp 90, .const (.string ⟨#[62, 32]⟩), .tmp 95] #[79, 9, 4] (by kernel_rfl) #[] (by kernel_rfl) #[.pointer (some ⟨R, 0, none⟩), .string ⟨#[62, 32]⟩, .bool ((i : Int) == (bn : Int) - 1)] (by kernel_rfl) (enters_of Tryd.func84 (by kernel_rfl) rfl) (Rr) (fun _ _ => False) (fun c u h => h.elim) ?_ ?_ ?_
                  · exact hcall
                  · simp only [Act.put, List.setIfInBounds_toArray, List.set_cons_zero, List.set_cons_succ]
                    refine go_callP 8 96 _ rfl (by kernel_rfl) (by kernel_rfl) (by kernel_rfl) 84 (.func 84) #[.tmp 90, .const (.string ⟨#[62, 32]⟩), .tmp 95] #[79, 9, 4] (by kernel_rfl) #[] (by kernel_rfl) #[.pointer (some ⟨R, 0, none⟩), .string ⟨#[62, 32]⟩, .bool ((i : Int) == (bn : Int) - 1)] (by kernel_rfl) (enters_of Tryd.func84 (by kernel_rfl) rfl) (Rr) (fun _ _ => False) (fun c u h => h.elim) ?_ ?_
                    · exact hcall
                    intro v0 u1 hH1 hq
                    rw [← HRr.out] at hq
                    obtain ⟨t, rfl, hS1, hA1⟩ := hq
                    have c1u := hS1.c4
                    have c2u := (hS1.alloc (mkO ⟨43, t⟩)).c4
                    simp only [Act.put, List.setIfInBounds_toArray, List.set_cons_zero, List.set_cons_succ]
                    refine go_take 9 97 _ (.agg #[.int .u8 43, .string ⟨t.toArray⟩]) rfl (by kernel_rfl) (by kernel_rfl) (by kernel_rfl) (by kernel_rfl) (fun _ _ _ h => h) (Or.inl ⟨by kernel_rfl, fun u hu => by kernel_rfl⟩) hH1 ?_
                    simp only [Act.put, List.setIfInBounds_toArray, List.set_cons_zero, List.set_cons_succ]
                    refine go_val 10 98 _ rfl (by kernel_rfl) (by kernel_rfl) (by kernel_rfl) (.slice (some ⟨u1.heap.size, 0, none⟩) 1 1) (u1.alloc (mkO ⟨43, t⟩)) (by kernel_rfl) (hS1.alloc (mkO ⟨43, t⟩)).c3 ?_
                    simp only [Act.put, List.setIfInBounds_toArray, List.set_cons_zero, List.set_cons_succ]
                    have hSA := hS1.alloc (mkO ⟨43, t⟩)
                    obtain ⟨v3, u3, hr3, hown3, hg3, _⟩ := run_append_w (u1.alloc (mkO ⟨43, t⟩)) 41 91 41 (.agg #[.int .u8 0, .string ⟨#[]⟩]) 2 24 Tryd.underlying41 infoMk rfl (by decide) (by decide) w.heap.size _ _ _ hSA.own _ 1 (mkcells [⟨43, t⟩]) (mk_row u1 ⟨43, t⟩) (mkcells_length _) (mkcells_one _) (by omega) hSA.gr.size
                    have hS3 := hSA.more hg3 hown3
                    obtain ⟨o3, k3, rfl⟩ := (holds_of hown3).form
                    refine go_val 11 99 _ rfl (by kernel_rfl) (by kernel_rfl) (by kernel_rfl) (.slice o3 (m.length + 1) k3) u3 (exec_app (.tmp 89) (.tmp 98) (by kernel_rfl) (by kernel_rfl) (by kernel_rfl) hr3) hS3.2.2.2.2.1 ?_
                    simp only [Act.put, List.setIfInBounds_toArray, List.set_cons_zero, List.set_cons_succ]
                    refine go_take 12 100 _ (.pointer (some ⟨H, 4, none⟩)) rfl (by kernel_rfl) (by kernel_rfl) (by kernel_rfl) (by kernel_rfl) (fun _ _ _ h => h) (Or.inl ⟨by kernel_rfl, fun u hu => by kernel_rfl⟩) hS3.2.2.2.2.1 ?_
                    simp only [Act.put, List.setIfInBounds_toArray, List.set_cons_zero, List.set_cons_succ]
                    refine go_skip 13 _ rfl (by kernel_rfl) (by kernel_rfl) (by kernel_rfl) (u3.setCell ⟨H, 4, none⟩ (.slice o3 (m.length + 1) k3)) (exec_storeL hS3.2.2.1 hS3.2.1 rfl (.tmp 100) (.tmp 99) (by kernel_rfl) (by kernel_rfl) (by kernel_rfl)) hS3.1.c3 ?_
                    refine wpAnyH_done (by kernel_rfl) ?_ _
                    refine NoPanic.normal ?_
                    have hA2 := HNx.out t u1 (u3.setCell ⟨H, 4, none⟩ (.slice o3 (m.length + 1) k3)) hA1 (fun q => hS3.2.2.2.2.2 (q.low ((Below.refl _ u1).alloc (Nat.le_refl _) _)))
                    have hS4 := hS3.1
                    go_wp2
                    exact ⟨⟨i + 1, m ++ [⟨43, t⟩], o3, k3, by omega, by go_num, by simp; omega, by simpa using hS4, hA2⟩, by simp [intOf]; omega⟩
                  · intro v0 u1 hH1 hq
                    rw [← HRr.out] at hq
                    obtain ⟨t, rfl, hS1, hA1⟩ := hq
                    have c1u := hS1.c4
                    have c2u := (hS1.alloc (mkO ⟨43, t⟩)).c4
                    simp only [Act.put, List.setIfInBounds_toArray, List.set_cons_zero, List.set_cons_succ]
                    refine go_take 9 97 _ (.agg #[.int .u8 43, .string ⟨t.toArray⟩]) rfl (by kernel_rfl) (by kernel_rfl) (by kernel_rfl) (by kernel_rfl) (fun _ _ _ h => h) (Or.inl ⟨by kernel_rfl, fun u hu => by kernel_rfl⟩) hH1 ?_
                    simp only [Act.put, List.setIfInBounds_toArray, List.set_cons_zero, List.set_cons_succ]
                    refine go_two 1 89 _ 10 98 _ rfl (by kernel_rfl) rfl (by kernel_rfl) (by kernel_rfl) (by kernel_rfl) (by kernel_rfl) (.slice o m.length c) u1 (load_mks c1u (.tmp 88) (by kernel_rfl) (by kernel_rfl)) hH1 (.slice (some ⟨u1.heap.size, 0, none⟩) 1 1) (u1.alloc (mkO ⟨43, t⟩)) (by kernel_rfl) (hS1.alloc (mkO ⟨43, t⟩)).c3 ?_ ?_
                    · simp only [Act.put, List.setIfInBounds_toArray, List.set_cons_zero, List.set_cons_succ]
                      refine go_val 10 98 _ rfl (by kernel_rfl) (by kernel_rfl) (by kernel_rfl) (.slice (some ⟨u1.heap.size, 0, none⟩) 1 1) (u1.alloc (mkO ⟨43, t⟩)) (by kernel_rfl) (hS1.alloc (mkO ⟨43, t⟩)).c3 ?_
                      simp only [Act.put, List.setIfInBounds_toArray, List.set_cons_zero, List.set_cons_succ]
                      have hSA := hS1.alloc (mkO ⟨43, t⟩)
                      obtain ⟨v3, u3, hr3, hown3, hg3, _⟩ := run_append_w (u1.alloc (mkO ⟨43, t⟩)) 41 91 41 (.agg #[.int .u8 0, .string ⟨#[]⟩]) 2 24 Tryd.underlying41 infoMk rfl (by decide) (by decide) w.heap.size _ _ _ hSA.own _ 1 (mkcells [⟨43, t⟩]) (mk_row u1 ⟨43, t⟩) (mkcells_length _) (mkcells_one _) (by omega) hSA.gr.size
                      have hS3 := hSA.more hg3 hown3
                      obtain ⟨o3, k3, rfl⟩ := (holds_of hown3).form
                      refine go_val 11 99 _ rfl (by kernel_rfl) (by kernel_rfl) (by kernel_rfl) (.slice o3 (m.length + 1) k3) u3 (exec_app (.tmp 89) (.tmp 98) (by kernel_rfl) (by kernel_rfl) (by kernel_rfl) hr3) hS3.2.2.2.2.1 ?_
                      simp only [Act.put, List.setIfInBounds_toArray, List.set_cons_zero, List.set_cons_succ]
                      refine go_take 12 100 _ (.pointer (some ⟨H, 4, none⟩)) rfl (by kernel_rfl) (by kernel_rfl) (by kernel_rfl) (by kernel_rfl) (fun _ _ _ h => h) (Or.inl ⟨by kernel_rfl, fun u hu => by kernel_rfl⟩) hS3.2.2.2.2.1 ?_
                      simp only [Act.put, List.setIfInBounds_toArray, List.set_cons_zero, List.set_cons_succ]
                      refine go_skip 13 _ rfl (by kernel_rfl) (by kernel_rfl) (by kernel_rfl) (u3.setCell ⟨H, 4, none⟩ (.slice o3 (m.length + 1) k3)) (exec_storeL hS3.2.2.1 hS3.2.1 rfl (.tmp 100) (.tmp 99) (by kernel_rfl) (by kernel_rfl) (by kernel_rfl)) hS3.1.c3 ?_
                      refine wpAnyH_done (by kernel_rfl) ?_ _
                      refine NoPanic.normal ?_
                      have hA2 := HNx.out t u1 (u3.setCell ⟨H, 4, none⟩ (.slice o3 (m.length + 1) k3)) hA1 (fun q => hS3.2.2.2.2.2 (q.low ((Below.refl _ u1).alloc (Nat.le_refl _) _)))
                      have hS4 := hS3.1
                      go_wp2
                      exact ⟨⟨i + 1, m ++ [⟨43, t⟩], o3, k3, by omega, by go_num, by simp; omega, by simpa using hS4, hA2⟩, by simp [intOf]; omega⟩
                    · simp only [Act.put, List.setIfInBounds_toArray, List.set_cons_zero, List.set_cons_succ]
                      refine go_val 1 89 _ rfl (by kernel_rfl) (by kernel_rfl) (by kernel_rfl) (.slice o m.length c) (u1.alloc (mkO ⟨43, t⟩)) (load_mks c2u (.tmp 88) (by kernel_rfl) (by kernel_rfl)) (hS1.alloc (mkO ⟨43, t⟩)).c3 ?_
                      simp only [Act.put, List.setIfInBounds_toArray, List.set_cons_zero, List.set_cons_succ]
                      have hSA := hS1.alloc (mkO ⟨43, t⟩)
                      obtain ⟨v3, u3, hr3, hown3, hg3, _⟩ := run_append_w (u1.alloc (mkO ⟨43, t⟩)) 41 91 41 (.agg #[.int .u8 0, .string ⟨#[]⟩]) 2 24 Tryd.underlying41 infoMk rfl (by decide) (by decide) w.heap.size _ _ _ hSA.own _ 1 (mkcells [⟨43, t⟩]) (mk_row u1 ⟨43, t⟩) (mkcells_length _) (mkcells_one _) (by omega) hSA.gr.size
                      have hS3 := hSA.more hg3 hown3
                      obtain ⟨o3, k3, rfl⟩ := (holds_of hown3).form
                      refine go_val 11 99 _ rfl (by kernel_rfl) (by kernel_rfl) (by kernel_rfl) (.slice o3 (m.length + 1) k3) u3 (exec_app (.tmp 89) (.tmp 98) (by kernel_rfl) (by kernel_rfl) (by kernel_rfl) hr3) hS3.2.2.2.2.1 ?_
                      simp only [Act.put, List.setIfInBounds_toArray, List.set_cons_zero, List.set_cons_succ]
                      refine go_take 12 100 _ (.pointer (some ⟨H, 4, none⟩)) rfl (by kernel_rfl) (by kernel_rfl) (by kernel_rfl) (by kernel_rfl) (fun _ _ _ h => h) (Or.inl ⟨by kernel_rfl, fun u hu => by kernel_rfl⟩) hS3.2.2.2.2.1 ?_
                      simp only [Act.put, List.setIfInBounds_toArray, List.set_cons_zero, List.set_cons_succ]
                      refine go_skip 13 _ rfl (by kernel_rfl) (by kernel_rfl) (by kernel_rfl) (u3.setCell ⟨H, 4, none⟩ (.slice o3 (m.length + 1) k3)) (exec_storeL hS3.2.2.1 hS3.2.1 rfl (.tmp 100) (.tmp 99) (by kernel_rfl) (by kernel_rfl) (by kernel_rfl)) hS3.1.c3 ?_
                      refine wpAnyH_done (by kernel_rfl) ?_ _
                      refine NoPanic.normal ?_
                      have hA2 := HNx.out t u1 (u3.setCell ⟨H, 4, none⟩ (.slice o3 (m.length + 1) k3)) hA1 (fun q => hS3.2.2.2.2.2 (q.low ((Below.refl _ u1).alloc (Nat.le_refl _) _)))
                      have hS4 := hS3.1
                      go_wp2
                      exact ⟨⟨i + 1, m ++ [⟨43, t⟩], o3, k3, by omega, by go_num, by simp; omega, by simpa using hS4, hA2⟩, by simp [intOf]; omega⟩
                · have HE : Hid ((∀ {vL : Value} {p fa fe : Int}, Rx wr R vL p fa fe → Rx (put5 wr w.heap.size A (an : Int) B (bn : Int) (.slice o m.length c)) R vL p fa fe) → EdR R (.slice lo L.length lc) L fa X ⟨A, (an : Int), B, (bn : Int), m⟩ (put5 wr w.heap.size A (an : Int) B (bn : Int) (.slice o m.length c))) := (by
                    intro h
                    have hXv := HX2.out
                    rcases hA with ⟨pn, hr, _, hY⟩ | ⟨p', a, fe, hr, hz, hY⟩
                    · have hib : i = bn := (by
                        by_cases hib : i < bn
                        · exact absurd ⟨hib, pn, hr, by assumption, hY⟩ hgo
                        · omega)
                      rw [hib, Nat.sub_self] at hY
                      simp only [rdN, thenL, List.append_nil] at hY
                      rw [← hY] at hXv
                      rw [← hXv]
                      exact ⟨rfl, h hr, rfl⟩
                    · rw [hY] at hXv
                      rw [← hXv]
                      exact ⟨⟨_, h hr⟩, hz⟩)
                  have hfst : (i < bn → ∃ fe p' fa', Rx wr R (.slice lo L.length lc) p' fa' fe ∧ fe ≠ 0) := (by
                    intro hib
                    rcases hA with ⟨pn, hr, hb, hY⟩ | ⟨p', a, fe, hr, hz, hY⟩
                    · exact absurd ⟨hib, pn, hr, hb, hY⟩ hgo
                    · exact ⟨fe, p', _, hr, hz⟩)
                  clear hA hgo HX2
                  obtain ⟨x0, x1, x2, x3, x4⟩ := hS.hx.cells
                  dsimp only at x0 x1 x2 x3 x4
                  by_cases hib : i < bn
                  · obtain ⟨fe, p', fa', hr, hz⟩ := hfst hib
                    obtain ⟨r0, r1, r2, r3⟩ := hr.cells
                    have hfb : (fe == 0) = false := beq_eq_false_iff_ne.2 hz
                    have hib2 : (i : Int) < (bn : Int) := by omega
                    clear hr hfst
                    go_upto_region 17 with fail
                    clear x0 x1 x2 x3 x4 r0 r1 r2 r3
                    obtain ⟨x0, x1, x2, x3, x4⟩ := hS.hx.cells
                    dsimp only at x0 x1 x2 x3 x4
                    obtain ⟨y0, y1, y2, y3, y4⟩ := hS.rb.cells
                    have yf0 := hS.rb.frozen 0
                    have yf1 := hS.rb.frozen 1
                    have yf2 := hS.rb.frozen 2
                    have yf3 := hS.rb.frozen 3
                    have yf4 := hS.rb.frozen 4
                    obtain ⟨hP, hownP, hgP, hrP⟩ := hS.done
                    have HEnd0 := HE.out hrP
                    unfold put5 at hP hownP hgP HEnd0
                    have HP : Hid (_ = _) := hP
                    have HOWN : Hid _ := hownP
                    have HGP : Hid _ := hgP
                    have HEnd : Hid _ := HEnd0
                    clear hrP hS HE hP hownP hgP HEnd0
                    go_wp2
                    exact bodyPost_ret (v := hkV ⟨A, (an : Int), B, (bn : Int), m⟩ (.slice o m.length c)) (results_cell_row rfl _ _ w.heap.size 43 #[.int .i64 A, .int .i64 (an : Int), .int .i64 B, .int .i64 (bn : Int), .slice o m.length c] (0, 0) _ rfl HP.out Tryd.underlying43 rfl (by kernel_rfl)) rfl ⟨_, _, rfl, HOWN.out, HGP.out, HEnd.out⟩
                  · have hib2 : ¬ (i : Int) < (bn : Int) := by omega
                    clear hfst
                    go_upto_region 17 with fail
                    clear x0 x1 x2 x3 x4
                    obtain ⟨x0, x1, x2, x3, x4⟩ := hS.hx.cells
                    dsimp only at x0 x1 x2 x3 x4
                    obtain ⟨y0, y1, y2, y3, y4⟩ := hS.rb.cells
                    have yf0 := hS.rb.frozen 0
                    have yf1 := hS.rb.frozen 1
                    have yf2 := hS.rb.frozen 2
                    have yf3 := hS.rb.frozen 3
                    have yf4 := hS.rb.frozen 4
                    obtain ⟨hP, hownP, hgP, hrP⟩ := hS.done
                    have HEnd0 := HE.out hrP
                    unfold put5 at hP hownP hgP HEnd0
                    have HP : Hid (_ = _) := hP
                    have HOWN : Hid _ := hownP
                    have HGP : Hid _ := hgP
                    have HEnd : Hid _ := HEnd0
                    clear hrP hS HE hP hownP hgP HEnd0
                    go_wp2
                    exact bodyPost_ret (v := hkV ⟨A, (an : Int), B, (bn : Int), m⟩ (.slice o m.length c)) (results_cell_row rfl _ _ w.heap.size 43 #[.int .i64 A, .int .i64 (an : Int), .int .i64 B, .int .i64 (bn : Int), .slice o m.length c] (0, 0) _ rfl HP.out Tryd.underlying43 rfl (by kernel_rfl)) rfl ⟨_, _, rfl, HOWN.out, HGP.out, HEnd.out⟩
          · have hX := HXx.out
            rw [hYv] at hX
            dsimp only at hX
            have HXe : Hid (X = .error (a, fe)) := hX.symm
            clear hX HXx hYv hgo
            by_cases hia : (i : Int) < (an : Int)
            · obtain ⟨r0, r1, r2, r3⟩ := hrx.cells
              have hfb : (fe == 0) = false := beq_eq_false_iff_ne.2 hfe
              have hXe := HXe.out
              subst hXe
              have HE : Hid ((∀ {vL : Value} {p fa fe : Int}, Rx wr R vL p fa fe → Rx (put5 wr w.heap.size A (an : Int) B (bn : Int) (.slice o m.length c)) R vL p fa fe) → (∃ p', Rx (put5 wr w.heap.size A (an : Int) B (bn : Int) (.slice o m.length c)) R (.slice lo L.length lc) p' (a : Int) fe) ∧ fe ≠ 0) := fun h => ⟨⟨_, h hrx⟩, hfe⟩
              clear hrx HXe hfe
              obtain ⟨x0, x1, x2, x3, x4⟩ := hS.hx.cells
              dsimp only at x0 x1 x2 x3 x4
              have hN : (0 : Int) < (an : Int) := by omega
              · by_cases hM : (0 : Int) < (bn : Int)
                · go_wp2
                  go_loopw [8] (fun iv wz => iv = .int .i64 0 ∧ wz = wr) (fun _ _ => 0)
                  case atStart => exact ⟨by go_num, rfl⟩
                  case round =>
                    obtain ⟨rfl, rfl⟩ := hrel
                    go_upto_region 17 with fail
                    clear x0 x1 x2 x3 x4 r0 r1 r2 r3
                    obtain ⟨x0, x1, x2, x3, x4⟩ := hS.hx.cells
                    dsimp only at x0 x1 x2 x3 x4
                    obtain ⟨y0, y1, y2, y3, y4⟩ := hS.rb.cells
                    have yf0 := hS.rb.frozen 0
                    have yf1 := hS.rb.frozen 1
                    have yf2 := hS.rb.frozen 2
                    have yf3 := hS.rb.frozen 3
                    have yf4 := hS.rb.frozen 4
                    obtain ⟨hP, hownP, hgP, hrP⟩ := hS.done
                    have HEnd0 := HE.out hrP
                    unfold put5 at hP hownP hgP HEnd0
                    have HP : Hid (_ = _) := hP
                    have HOWN : Hid _ := hownP
                    have HGP : Hid _ := hgP
                    have HEnd : Hid _ := HEnd0
                    clear hrP hS HE hP hownP hgP HEnd0
                    go_wp2
                    exact bodyPost_ret (v := hkV ⟨A, (an : Int), B, (bn : Int), m⟩ (.slice o m.length c)) (results_cell_row rfl _ _ w.heap.size 43 #[.int .i64 A, .int .i64 (an : Int), .int .i64 B, .int .i64 (bn : Int), .slice o m.length c] (0, 0) _ rfl HP.out Tryd.underlying43 rfl (by kernel_rfl)) rfl ⟨_, _, rfl, HOWN.out, HGP.out, HEnd.out⟩
                · go_wp2
                  go_loopw [8] (fun iv wz => iv = .int .i64 0 ∧ wz = wr) (fun _ _ => 0)
                  case atStart => exact ⟨by go_num, rfl⟩
                  case round =>
                    obtain ⟨rfl, rfl⟩ := hrel
                    go_upto_region 17 with fail
                    clear x0 x1 x2 x3 x4 r0 r1 r2 r3
                    obtain ⟨x0, x1, x2, x3, x4⟩ := hS.hx.cells
                    dsimp only at x0 x1 x2 x3 x4
                    obtain ⟨y0, y1, y2, y3, y4⟩ := hS.rb.cells
                    have yf0 := hS.rb.frozen 0
                    have yf1 := hS.rb.frozen 1
                    have yf2 := hS.rb.frozen 2
                    have yf3 := hS.rb.frozen 3
                    have yf4 := hS.rb.frozen 4
                    obtain ⟨hP, hownP, hgP, hrP⟩ := hS.done
                    have HEnd0 := HE.out hrP
                    unfold put5 at hP hownP hgP HEnd0
                    have HP : Hid (_ = _) := hP
                    have HOWN : Hid _ := hownP
                    have HGP : Hid _ := hgP
                    have HEnd : Hid _ := HEnd0
                    clear hrP hS HE hP hownP hgP HEnd0
                    go_wp2
                    exact bodyPost_ret (v := hkV ⟨A, (an : Int), B, (bn : Int), m⟩ (.slice o m.length c)) (results_cell_row rfl _ _ w.heap.size 43 #[.int .i64 A, .int .i64 (an : Int), .int .i64 B, .int .i64 (bn : Int), .slice o m.length c] (0, 0) _ rfl HP.out Tryd.underlying43 rfl (by kernel_rfl)) rfl ⟨_, _, rfl, HOWN.out, HGP.out, HEnd.out⟩
            · obtain ⟨r0, r1, r2, r3⟩ := hrx.cells
              have hfb : (fe == 0) = false := beq_eq_false_iff_ne.2 hfe
              have hXe := HXe.out
              subst hXe
              have HE : Hid ((∀ {vL : Value} {p fa fe : Int}, Rx wr R vL p fa fe → Rx (put5 wr w.heap.size A (an : Int) B (bn : Int) (.slice o m.length c)) R vL p fa fe) → (∃ p', Rx (put5 wr w.heap.size A (an : Int) B (bn : Int) (.slice o m.length c)) R (.slice lo L.length lc) p' (a : Int) fe) ∧ fe ≠ 0) := fun h => ⟨⟨_, h hrx⟩, hfe⟩
              clear hrx HXe hfe
              obtain ⟨x0, x1, x2, x3, x4⟩ := hS.hx.cells
              dsimp only at x0 x1 x2 x3 x4
              by_cases hN : (0 : Int) < (an : Int)
              · by_cases hM : (0 : Int) < (bn : Int)
                · go_wp2
                  go_loopw [8] (fun iv wz => iv = .int .i64 0 ∧ wz = wr) (fun _ _ => 0)
                  case atStart => exact ⟨by go_num, rfl⟩
                  case round =>
                    obtain ⟨rfl, rfl⟩ := hrel
                    go_upto_region 17 with fail
                    clear x0 x1 x2 x3 x4 r0 r1 r2 r3
                    obtain ⟨x0, x1, x2, x3, x4⟩ := hS.hx.cells
                    dsimp only at x0 x1 x2 x3 x4
                    obtain ⟨y0, y1, y2, y3, y4⟩ := hS.rb.cells
                    have yf0 := hS.rb.frozen 0
                    have yf1 := hS.rb.frozen 1
                    have yf2 := hS.rb.frozen 2
                    have yf3 := hS.rb.frozen 3
                    have yf4 := hS.rb.frozen 4
                    obtain ⟨hP, hownP, hgP, hrP⟩ := hS.done
                    have HEnd0 := HE.out hrP
                    unfold put5 at hP hownP hgP HEnd0
                    have HP : Hid (_ = _) := hP
                    have HOWN : Hid _ := hownP
                    have HGP : Hid _ := hgP
                    have HEnd : Hid _ := HEnd0
                    clear hrP hS HE hP hownP hgP HEnd0
                    go_wp2
                    exact bodyPost_ret (v := hkV ⟨A, (an : Int), B, (bn : Int), m⟩ (.slice o m.length c)) (results_cell_row rfl _ _ w.heap.size 43 #[.int .i64 A, .int .i64 (an : Int), .int .i64 B, .int .i64 (bn : Int), .slice o m.length c] (0, 0) _ rfl HP.out Tryd.underlying43 rfl (by kernel_rfl)) rfl ⟨_, _, rfl, HOWN.out, HGP.out, HEnd.out⟩
                · go_wp2
                  go_loopw [8] (fun iv wz => iv = .int .i64 0 ∧ wz = wr) (fun _ _ => 0)
                  case atStart => exact ⟨by go_num, rfl⟩
                  case round =>
                    obtain ⟨rfl, rfl⟩ := hrel
                    go_upto_region 17 with fail
                    clear x0 x1 x2 x3 x4 r0 r1 r2 r3
                    obtain ⟨x0, x1, x2, x3, x4⟩ := hS.hx.cells
                    dsimp only at x0 x1 x2 x3 x4
                    obtain ⟨y0, y1, y2, y3, y4⟩ := hS.rb.cells
                    have yf0 := hS.rb.frozen 0
                    have yf1 := hS.rb.frozen 1
                    have yf2 := hS.rb.frozen 2
                    have yf3 := hS.rb.frozen 3
                    have yf4 := hS.rb.frozen 4
                    obtain ⟨hP, hownP, hgP, hrP⟩ := hS.done
                    have HEnd0 := HE.out hrP
                    unfold put5 at hP hownP hgP HEnd0
                    have HP : Hid (_ = _) := hP
                    have HOWN : Hid _ := hownP
                    have HGP : Hid _ := hgP
                    have HEnd : Hid _ := HEnd0
                    clear hrP hS HE hP hownP hgP HEnd0
                    go_wp2
                    exact bodyPost_ret (v := hkV ⟨A, (an : Int), B, (bn : Int), m⟩ (.slice o m.length c)) (results_cell_row rfl _ _ w.heap.size 43 #[.int .i64 A, .int .i64 (an : Int), .int .i64 B, .int .i64 (bn : Int), .slice o m.length c] (0, 0) _ rfl HP.out Tryd.underlying43 rfl (by kernel_rfl)) rfl ⟨_, _, rfl, HOWN.out, HGP.out, HEnd.out⟩
              · by_cases hM : (0 : Int) < (bn : Int)
                · go_wp2
                  go_loopw [8] (fun iv wz => iv = .int .i64 0 ∧ wz = wr) (fun _ _ => 0)
                  case atStart => exact ⟨by go_num, rfl⟩
                  case round =>
                    obtain ⟨rfl, rfl⟩ := hrel
                    go_upto_region 17 with fail
                    clear x0 x1 x2 x3 x4 r0 r1 r2 r3
                    obtain ⟨x0, x1, x2, x3, x4⟩ := hS.hx.cells
                    dsimp only at x0 x1 x2 x3 x4
                    obtain ⟨y0, y1, y2, y3, y4⟩ := hS.rb.cells
                    have yf0 := hS.rb.frozen 0
                    have yf1 := hS.rb.frozen 1
                    have yf2 := hS.rb.frozen 2
                    have yf3 := hS.rb.frozen 3
                    have yf4 := hS.rb.frozen 4
                    obtain ⟨hP, hownP, hgP, hrP⟩ := hS.done
                    have HEnd0 := HE.out hrP
                    unfold put5 at hP hownP hgP HEnd0
                    have HP : Hid (_ = _) := hP
                    have HOWN : Hid _ := hownP
                    have HGP : Hid _ := hgP
                    have HEnd : Hid _ := HEnd0
                    clear hrP hS HE hP hownP hgP HEnd0
                    go_wp2
                    exact bodyPost_ret (v := hkV ⟨A, (an : Int), B, (bn : Int), m⟩ (.slice o m.length c)) (results_cell_row rfl _ _ w.heap.size 43 #[.int .i64 A, .int .i64 (an : Int), .int .i64 B, .int .i64 (bn : Int), .slice o m.length c] (0, 0) _ rfl HP.out Tryd.underlying43 rfl (by kernel_rfl)) rfl ⟨_, _, rfl, HOWN.out, HGP.out, HEnd.out⟩
                · go_wp2
                  go_loopw [8] (fun iv wz => iv = .int .i64 0 ∧ wz = wr) (fun _ _ => 0)
                  case atStart => exact ⟨by go_num, rfl⟩
                  case round =>
                    obtain ⟨rfl, rfl⟩ := hrel
                    go_upto_region 17 with fail
                    clear x0 x1 x2 x3 x4 r0 r1 r2 r3
                    obtain ⟨x0, x1, x2, x3, x4⟩ := hS.hx.cells
                    dsimp only at x0 x1 x2 x3 x4
                    obtain ⟨y0, y1, y2, y3, y4⟩ := hS.rb.cells
                    have yf0 := hS.rb.frozen 0
                    have yf1 := hS.rb.frozen 1
                    have yf2 := hS.rb.frozen 2
                    have yf3 := hS.rb.frozen 3
                    have yf4 := hS.rb.frozen 4
                    obtain ⟨hP, hownP, hgP, hrP⟩ := hS.done
                    have HEnd0 := HE.out hrP
                    unfold put5 at hP hownP hgP HEnd0
                    have HP : Hid (_ = _) := hP
                    have HOWN : Hid _ := hownP
                    have HGP : Hid _ := hgP
                    have HEnd : Hid _ := HEnd0
                    clear hrP hS HE hP hownP hgP HEnd0
                    go_wp2
                    exact bodyPost_ret (v := hkV ⟨A, (an : Int), B, (bn : Int), m⟩ (.slice o m.length c)) (results_cell_row rfl _ _ w.heap.size 43 #[.int .i64 A, .int .i64 (an : Int), .int .i64 B, .int .i64 (bn : Int), .slice o m.length c] (0, 0) _ rfl HP.out Tryd.underlying43 rfl (by kernel_rfl)) rfl ⟨_, _, rfl, HOWN.out, HGP.out, HEnd.out⟩
end Go.Proofs.YtgiojkhmkeocfaaDoor
