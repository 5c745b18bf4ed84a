/-
  Texts that belong together, joined: EdRApp.
-/
import Derived.Test.YtoacmaloiaeniaaPartH1
import Derived.Test.YtoacmaloiaeniaaPartC1

/- What a script makes of a text: the reference's Apply, walked. -/
namespace Go.Proofs.Ytoacmaloiaeniaa
open Go.RowKit
attribute [local simp] st_drew low_drew

theorem run_cut_to (A : List (List UInt8)) (ao : Option Addr) (cap : Nat) (i h : Int) (h0 : 0 ≤ i) (h1 : i ≤ h) (h2 : h ≤ A.length) (w : World) (hA : HS w (.slice ao A.length cap) A) :
    ∃ vo vc, (∀ u : World, (Instr.slice 34 (.slice ao A.length cap) (some (.int .i64 i)) (some (.int .i64 h)) none).run Try.prog u = .ok (.slice vo (cut A i (h - i)).length vc) u) ∧ (∀ u : World, HS u (.slice ao A.length cap) A → HS u (.slice vo (cut A i (h - i)).length vc) (cut A i (h - i))) := by
  obtain ⟨vs, h3, h4⟩ := run_cut A ao cap i (h - i) h0 (by omega) (by omega) w hA
  obtain ⟨vo, vc, rfl⟩ := Holds.form (h4 w hA)
  have e : i + (h - i) = h := by omega
  rw [e] at h3
  exact ⟨vo, vc, h3, h4⟩
theorem run_cut_end (A : List (List UInt8)) (ao : Option Addr) (cap : Nat) (i : Int) (h0 : 0 ≤ i) (h1 : i ≤ A.length) (w : World) (hA : HS w (.slice ao A.length cap) A) :
    ∃ vo vc, (∀ u : World, (Instr.slice 34 (.slice ao A.length cap) (some (.int .i64 i)) none none).run Try.prog u = .ok (.slice vo (cut A i (A.length - i)).length vc) u) ∧ (∀ u : World, HS u (.slice ao A.length cap) A → HS u (.slice vo (cut A i (A.length - i)).length vc) (cut A i (A.length - i))) := by
  obtain ⟨vo, vc, h3, h4⟩ := run_cut_to A ao cap i A.length h0 h1 (Int.le_refl _) w hA
  refine ⟨vo, vc, fun u => ?_, h4⟩
  rw [← h3 u]
  have hcap : A.length ≤ cap := by
    rcases hA with ⟨h, h3, _⟩ | ⟨ad, c, h, h3, _⟩
    · omega
    · cases h; exact h3
  rw [run_slice_l (P := Try.prog) u 34 ao A.length cap (by kernel_rfl) .i64 i h0 h1, run_slice_lh (P := Try.prog) u 34 ao A.length cap (by kernel_rfl) .i64 .i64 i A.length h0 h1 (by omega)]
  simp

theorem rApply_no (l : List Ch) (A B : List (List UInt8)) (v va vb : Value) (w : World) (hl : HCh w v l) (ha : HS w va A) (hb : HS w vb B) (hS : ¬ Script l A.length B.length) (hA : A.length ≤ 1048576) (hBl : B.length ≤ 1048576) (hlen : l.length ≤ 1048576) :
    Calls Try.prog 21 #[v, va, vb] w fun e w' => e = .returned (.tuple #[.slice none 0 0, .int .i64 50]) ∧ Below w.heap.size w w' := by
  obtain ⟨ao, ca, rfl⟩ := Holds.form hl
  obtain ⟨aa, caa, rfl⟩ := Holds.form ha
  obtain ⟨ab, cab, rfl⟩ := Holds.form hb
  go_enter Try.func21, Try.ntmps21
  go_wp2_with fail
  refine (rCheck_f l A.length B.length 50 _ _ hl (by omega) (by omega) (by omega) (chk_no hS)).mono ?_
  rintro e w1 ⟨rfl, hB⟩
  go_wp2
  go_ret2
  exact ⟨rfl, hB⟩

theorem piecesL_length (a b n m : Int) (l : List Ch) : (piecesL a b n m l).length = l.length + 1 := by
  induction l generalizing a b with
  | nil => rfl
  | cons c l ih => simp [piecesL, ih]
theorem applyL_length (l : List Ch) (A B : List (List UInt8)) : (applyL l A B).length ≤ (l.length + 1) * (A.length + B.length) := by
  rw [← piecesL_length 0 0 A.length B.length l]
  unfold applyL
  generalize piecesL 0 0 A.length B.length l = ps
  induction ps with
  | nil => simp
  | cons x t ih =>
    have h1 : (pa A B x).length ≤ A.length + B.length := by simp [pa, cut]; omega
    simp only [List.flatMap_cons, List.length_append, List.length_cons]
    rw [Nat.add_mul]
    omega
/-- what the rest of a script makes -/
def restA (A B : List (List UInt8)) (a b : Int) (l : List Ch) : List (List UInt8) := (piecesL a b A.length B.length l).flatMap (pa A B)
theorem restA_cons (A B : List (List UInt8)) (a b : Int) (c : Ch) (l : List Ch) : restA A B a b (c :: l) = cut A a (c.A - a) ++ cut B c.B c.BN ++ restA A B (c.A + c.AN) (c.B + c.BN) l := by simp [restA, piecesL, pa]
theorem restA_nil (A B : List (List UInt8)) (a b : Int) : restA A B a b [] = cut A a (A.length - a) := by simp [restA, piecesL, pa, cut]

set_option maxRecDepth 10000 in
set_option maxHeartbeats 4000000 in
theorem rApply_ok (l : List Ch) (A B : List (List UInt8)) (v va vb : Value) (w : World) (hl : HCh w v l) (ha : HS w va A) (hb : HS w vb B) (hS : Script l A.length B.length) (hA : A.length ≤ 1048576) (hBl : B.length ≤ 1048576) (hlen : l.length ≤ 1048576) :
    Calls Try.prog 21 #[v, va, vb] w fun e w' => ∃ v', e = .returned (.tuple #[v', .int .i64 0]) ∧ HS w' v' (applyL l A B) ∧ Below w.heap.size w w' := by
  obtain ⟨ao, ca, rfl⟩ := Holds.form hl
  obtain ⟨aa, caa, rfl⟩ := Holds.form ha
  obtain ⟨ab, cab, rfl⟩ := Holds.form hb
  have HS' : Hid (Script l A.length B.length) := hS
  clear hS
  go_enter Try.func21, Try.ntmps21
  go_wp2_with fail
  refine (rCheck_f l A.length B.length 0 _ _ hl (by omega) (by omega) (by omega) (chk_ok HS'.out)).mono ?_
  rintro e w0 ⟨rfl, hB0⟩
  go_wp2
  go_loopw [8, 9, 10] (fun ov av iv wr => ∃ (k : Nat) (a b : Int) (X : List (List UInt8)), k ≤ l.length ∧ (∃ oo oc, ov = .slice oo X.length oc) ∧ av = .int .i64 a ∧ iv = .int .i64 k ∧ 0 ≤ a ∧ a ≤ A.length ∧ 0 ≤ b ∧ b ≤ B.length ∧ Below w.heap.size w wr ∧ wr.ownsRow w.heap.size 9 1 ov X.length (scells X) ∧ X.length ≤ k * 2097152 ∧ Hid (Right (decide (k = 0)) a b A.length B.length (l.drop k) ∧ X ++ restA A B a b (l.drop k) = applyL l A B)) (fun _ _ iv _ => l.length - (intOf iv).toNat)
  case atStart => exact ⟨0, 0, 0, [], Nat.zero_le _, ⟨_, _, rfl⟩, rfl, rfl, by omega, by omega, by omega, by omega, hB0, World.ownsRow_nil _ _ _ _, by simp, (⟨HS'.out.2.2, rfl⟩ : _ ∧ _)⟩
  case round =>
    obtain ⟨k, a, b, X, hk, ⟨oo, oc, rfl⟩, rfl, rfl, ha0, han, hb0, hbm, hB, hO, hX, hR⟩ := hrel
    have hsz := hB.size
    by_cases hlt : k < l.length
    · obtain ⟨bk, off, rfl, hbk, hc⟩ := HCh.at (HCh.keep hl hB (Nat.le_refl _)) (by omega)
      obtain ⟨c0, c1, c2, c3⟩ := hc k hlt
      have hR' := hR.out
      rw [List.drop_eq_getElem_cons hlt] at hR'
      obtain ⟨c, hcd⟩ : ∃ c, l[k] = c := ⟨_, rfl⟩
      rw [hcd] at hR' c0 c1 c2 c3
      have HC : Hid (l[k] = c) := hcd
      clear hc hcd hR
      have hnum := hR'.1.1.1
      rw [numB_iff] at hnum
      have hle := hR'.1.2.le
      have hAa := hR'.1.1.2.2.1
      have HR : Hid (Right (decide (k = 0)) a b A.length B.length (c :: l.drop (k + 1)) ∧ X ++ restA A B a b (c :: l.drop (k + 1)) = applyL l A B) := hR'
      clear hR'
      obtain ⟨cA, cAN, cB, cBN⟩ := c
      dsimp only at c0 c1 c2 c3 hnum hle hAa
      obtain ⟨⟨hA0, hA1⟩, ⟨hAN0, hAN1⟩, ⟨hB0', hB1⟩, ⟨hBN0, hBN1⟩, hpos⟩ := hnum
      obtain ⟨hle1, hle2, _⟩ := hle
      have i1 : 0 ≤ (k : Int) := by omega
      have i2 : (k : Int) < (l.length : Int) := by omega
      obtain ⟨vo, vc, hvs, hsA⟩ := run_cut_to A aa caa a cA ha0 hAa (by omega) w ha
      obtain ⟨vs2, hvs2, hsB⟩ := run_cut B ab cab cB cBN hB0' hBN0 hle2 w hb
      obtain ⟨vo2, vc2, rfl⟩ := Holds.form (hsB w hb)
      have l1 : (cut A a (cA - a)).length ≤ 1048576 := by simp [cut]; omega
      have l2 : (cut B cB cBN).length ≤ 1048576 := by simp [cut]; omega
      go_wp2_with (at_builtin; refine wpList_append_h _ (by kernel_rfl) (.tmp 24) (.tmp 32) 34 9 (.string ⟨#[]⟩) 1 16 rfl Try.underlying34 infoStr rfl (by decide) (by decide) w.heap.size _ _ _ rfl hO (.slice vo (cut A a (cA - a)).length vc) (cut A a (cA - a)).length (scells (cut A a (cA - a))) rfl (hsA _ (HS.keep ha hB (Nat.le_refl _))) (by rw [scells_length, Nat.mul_one]) (scells_one _) (by omega) (by omega) ?_)
      intro v1 w1 hown1 hgrow1
      have hB1 : Below w.heap.size w w1 := hB.grown hgrow1 hsz (fun j hj => owns_ge hO hj)
      have hsz1 := hB1.size
      obtain ⟨oo1, oc1, rfl⟩ := (holds_of hown1).form
      obtain ⟨bk', off', hbe, hbk', hc'⟩ := HCh.at (HCh.keep hl hB1 (Nat.le_refl _)) (by omega)
      cases hbe
      obtain ⟨c0', c1', c2', c3'⟩ := hc' k hlt
      rw [HC.out] at c0' c1' c2' c3'
      dsimp only at c0' c1' c2' c3'
      clear c0 c1 c2 c3 hc' hgrow1 hO hB
      rw [← scells_append] at hown1
      have hln : (X ++ cut A a (cA - a)).length = X.length + (cut A a (cA - a)).length := by simp
      have hSt : St w 9 1 (.slice oo1 (X.length + (cut A a (cA - a)).length) oc1) (X.length + (cut A a (cA - a)).length) (scells (X ++ cut A a (cA - a))) w1 := ⟨hown1, hB1⟩
      have hwr : IntKind.i64.wrap (cB + cBN) = cB + cBN := wrap_small _ (by omega) (by omega)
      go_wp2_with fail
      have hLow : Low w w1 := hB1
      go_region_held3 (fun w' => w'.cell? ⟨bk, off + k * 4 + 2, none⟩ = some (.int .i64 cB) ∧ w'.cell? ⟨bk, off + k * 4 + 3, none⟩ = some (.int .i64 cBN) ∧ Low w w') (go_keep)
        (first | (refine step_append_h _ rfl (.tmp 34) (.tmp 52) 34 9 (.string ⟨#[]⟩) 1 16 rfl Try.underlying34 infoStr rfl (by decide) (by decide) w.heap.size _ _ _ rfl (St.own ((st_drew _ _ _ _ _ _ _).2 hSt)) (.slice vo2 (cut B cB cBN).length vc2) (cut B cB cBN).length (scells (cut B cB cBN)) rfl (hsB _ (HS.keep hb (St.low ((st_drew _ _ _ _ _ _ _).2 hSt)) (Nat.le_refl _))) (by rw [scells_length, Nat.mul_one]) (scells_one _) (by omega) (Below.size (St.low ((st_drew _ _ _ _ _ _ _).2 hSt))) ?_; intro v2 w2 hown2 hgrow2; have hSt2 := St.grown ((st_drew _ _ _ _ _ _ _).2 hSt) hown2 hgrow2; have hLow2 : Low w w2 := hSt2.low; obtain ⟨e0, e1, e2, e3⟩ := Low.ch hLow2 hl k hlt HC.out))
      dsimp only at e0 e1 e2 e3
      obtain ⟨oo2, oc2, rfl⟩ := (holds_of hown2).form
      clear c0' c1' c2' c3' hSt hLow hLow2 hown1 hB1 hown2 hgrow2
      rw [← scells_append] at hSt2
      go_wp2_with fail
      go_quiet (fail)
      go_wp2
      go_roundw
      case rel => exact ⟨k + 1, cA + cAN, cB + cBN, X ++ cut A a (cA - a) ++ cut B cB cBN, by omega, ⟨_, _, by rw [List.length_append, List.length_append]⟩, by go_num, by go_num, by omega, by omega, by omega, by omega, Below.dN hSt2.low _, by rw [List.length_append, List.length_append]; exact hSt2.own, by rw [List.length_append, List.length_append]; omega, (by
          have h := HR.out
          have e : decide (k + 1 = 0) = false := by simp
          show _ ∧ _
          rw [e]
          refine ⟨h.1.2, ?_⟩
          rw [← h.2, restA_cons]
          simp only [List.append_assoc])⟩
      case measure => simp [intOf]; omega
    · have hR' := hR.out
      rw [List.drop_of_length_le (by omega)] at hR'
      have HR : Hid (X ++ cut A a (A.length - a) = applyL l A B) := (by rw [← restA_nil A B a b]; exact hR'.2)
      clear hR hR'
      obtain ⟨vo, vc, hvs, hsA⟩ := run_cut_end A aa caa a ha0 han w ha
      have l1 : (cut A a (A.length - a)).length ≤ 1048576 := by simp [cut]; omega
      go_wp2_with (at_builtin; refine wpList_append_h _ (by kernel_rfl) (.tmp 65) (.tmp 68) 34 9 (.string ⟨#[]⟩) 1 16 rfl Try.underlying34 infoStr rfl (by decide) (by decide) w.heap.size _ _ _ rfl hO (.slice vo (cut A a (A.length - a)).length vc) (cut A a (A.length - a)).length (scells (cut A a (A.length - a))) rfl (hsA _ (HS.keep ha hB (Nat.le_refl _))) (by rw [scells_length, Nat.mul_one]) (scells_one _) (by omega) (by omega) ?_)
      intro v1 w1 hown1 hgrow1
      have hB1 : Below w.heap.size w w1 := hB.grown hgrow1 hsz (fun j hj => owns_ge hO hj)
      rw [← scells_append] at hown1
      have hH := holds_of hown1
      have hln : (X ++ cut A a (A.length - a)).length = X.length + (cut A a (A.length - a)).length := by simp
      rw [← hln, HR.out] at hH
      go_wp2
      go_ret2
      exact ⟨_, rfl, hH, hB1⟩
end Go.Proofs.Ytoacmaloiaeniaa
