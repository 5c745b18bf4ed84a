/-
  Texts that belong together, joined: UnM3, CpX, UnLen, UqA, UqB, CrD, NpT.
-/
import Derived.Test.YtgcccpmcbjfaaaaDoorPartA9
import Derived.Test.YtgcccpmcbjfaaaaDoorPartA8
import Derived.Test.YtgcccpmcbjfaaaaDoorPartA4
import Derived.Test.YtgcccpmcbjfaaaaDoorPartA5
import Derived.Test.YtgcccpmcbjfaaaaDoorPartA7

/- The unified form: what is read of a text are right patches, and their texts are read again as the same; it does not matter by how many bytes a line shows that it begins a hunk; plain mathematics. -/
namespace Go.Proofs.YtgcccpmcbjfaaaaDoor
open Ln

theorem okc_cases {c : UInt8} (h : okC c = true) : c = 32 ∨ c = 45 ∨ c = 43 := by
  simp only [okC, Bool.or_eq_true, beq_iff_eq] at h
  rcases h with (h | h) | h
  · exact .inl h
  · exact .inr (.inl h)
  · exact .inr (.inr h)
theorem tk_sg {c : UInt8} (h : okC c = true) (t : List UInt8) : okS (⟨c.toNat, t⟩ : Mk).sg = true ∧ sgO ⟨c.toNat, t⟩ = tkO c ∧ sgN ⟨c.toNat, t⟩ = tkN c ∧ ((c == 43) = decide (((c.toNat : Nat) : Int) = 43)) ∧ ((c == 45) = decide (((c.toNat : Nat) : Int) = 45)) := by
  unfold sgO sgN
  rcases okc_cases h with rfl | rfl | rfl <;> exact ⟨rfl, rfl, rfl, rfl, rfl⟩
theorem uln_ok {a b p p1 : Nat} {ls r : List (List UInt8)} {m : Mk} (hP : Plain ls) (h : ulnP a b p ls = .ok (m, p1, r)) : linB m.tx = true ∧ okS m.sg = true ∧ sgO m ≤ a ∧ sgN m ≤ b ∧ (fdB m.tx = false → (m.sg = 43 ∨ a - sgO m = 0) ∧ (m.sg = 45 ∨ b - sgN m = 0)) ∧ Plain r ∧ ls.length + p = r.length + p1 ∧ r.length < ls.length := by
  unfold ulnP at h
  split at h
  · cases h
  · cases h
  · rename_i c t r0 hn
    have hls := nxt_ok hn
    obtain ⟨a1, a2⟩ := nxt_len hP hn
    have hct : ∀ d ∈ t, d ≠ 10 := by
      have h0 := hP ((c :: t) ++ [10]) (by rw [hls]; simp)
      rw [List.dropLast_concat] at h0
      exact fun d hd => h0 d (by simp [hd])
    split at h
    · rename_i hc
      obtain ⟨hc1, hc2, hc3⟩ := hc
      split at h
      · rename_i he
        cases h
        obtain ⟨s1, s2, s3, s4, s5⟩ := tk_sg hc1 t
        obtain ⟨he1, he2, he3⟩ := he
        have hlen : r0.tail.length + 1 = r0.length := by
          cases r0 with
          | nil => exact absurd he3 (by decide)
          | cons => simp
        refine ⟨lin_bare hct he2, s1, by rw [s2]; exact hc2, by rw [s3]; exact hc3, fun _ => ?_, fun y hy => a2 y (List.mem_of_mem_tail hy), by omega, by omega⟩
        unfold uendB at he1
        rw [s4, s5] at he1
        simp only [Bool.and_eq_true, Bool.or_eq_true, decide_eq_true_eq, beq_iff_eq] at he1
        rw [s2, s3]
        exact he1
      · cases h
        obtain ⟨s1, s2, s3, s4, s5⟩ := tk_sg hc1 (t ++ [10])
        refine ⟨lin_feed hct, s1, by rw [s2]; exact hc2, by rw [s3]; exact hc3, fun hf => ?_, a2, by omega, by omega⟩
        rw [fd_snoc] at hf
        cases hf
    · cases h
theorem urd_ok (n : Nat) : ∀ {a b p p1 : Nat} {ls r : List (List UInt8)} {l : List Mk}, Plain ls → a + b ≤ n → urdP n a b p ls = .ok (l, p1, r) → (∀ m ∈ l, linB m.tx = true ∧ okS m.sg = true) ∧ (pkL 43 l).length = a ∧ (pkL 45 l).length = b ∧ abl (pkL 43 l) = true ∧ abl (pkL 45 l) = true ∧ Plain r ∧ ls.length + p = r.length + p1 ∧ r.length ≤ ls.length := by
  induction n with
  | zero =>
    intro a b p p1 ls r l hP hn h
    simp only [urdP] at h
    cases h
    refine ⟨fun m hm => (by cases hm), ?_, ?_, rfl, rfl, hP, rfl, Nat.le_refl _⟩
    · simp only [pkL, List.length_nil]; omega
    · simp only [pkL, List.length_nil]; omega
  | succ n ih =>
    intro a b p p1 ls r l hP hn h
    simp only [urdP] at h
    split at h
    · cases h
      refine ⟨fun m hm => (by cases hm), ?_, ?_, rfl, rfl, hP, rfl, Nat.le_refl _⟩
      · simp only [pkL, List.length_nil]; omega
      · simp only [pkL, List.length_nil]; omega
    · split at h
      · cases h
      · rename_i m q1 r1 h1
        obtain ⟨a1, a2, a3, a4, a5, a6, a7, a8⟩ := uln_ok hP h1
        split at h
        · cases h
        · rename_i l2 q2 r2 h2
          have hs : 1 ≤ sgO m + sgN m := by
            unfold sgO sgN
            by_cases e : m.sg = 43
            · rw [if_neg (by omega : ¬ m.sg = 45)]
              omega
            · rw [if_neg e]
              omega
          obtain ⟨b1, b2, b3, b4, b5, b6, b7, b8⟩ := ih a6 (by omega) h2
          cases h
          have k43 := pk_len43 a2 l2
          have k45 := pk_len45 a2 l2
          refine ⟨?_, by omega, by omega, ?_, ?_, b6, by omega, by omega⟩
          · intro x hx
            rcases List.mem_cons.1 hx with rfl | hx
            · exact ⟨a1, a2⟩
            · exact b1 x hx
          · simp only [pkL]
            split
            · rename_i hq
              simp only [abl, Bool.and_eq_true, Bool.or_eq_true]
              refine ⟨?_, b4⟩
              cases hf : fdB m.tx with
              | true => exact .inr rfl
              | false =>
                rcases (a5 hf).1 with e | e
                · exact absurd e hq.1
                · left
                  have : (pkL 43 l2).length = 0 := by omega
                  simpa using this
            · exact b4
          · simp only [pkL]
            split
            · rename_i hq
              simp only [abl, Bool.and_eq_true, Bool.or_eq_true]
              refine ⟨?_, b5⟩
              cases hf : fdB m.tx with
              | true => exact .inr rfl
              | false =>
                rcases (a5 hf).2 with e | e
                · exact absurd e hq.1
                · left
                  have : (pkL 45 l2).length = 0 := by omega
                  simpa using this
            · exact b5
theorem cnt_ok {s : List UInt8} {q n : Int} (h : cntP s = some (q, n)) : 0 ≤ q ∧ q ≤ 2147483647 ∧ 0 ≤ n ∧ n ≤ 2147483647 := by
  unfold cntP at h
  split at h
  · rename_i x c y _
    split at h
    · cases h
      have h1 := prs_num (s := x)
      have h2 := prs_num (s := y)
      omega
    · cases h
  · split at h
    · cases h
      have h1 := prs_num (s := s)
      omega
    · cases h
theorem uhd_ok {s : List UInt8} {A AN B BN : Int} (h : uhdP s = some (A, AN, B, BN)) : (0 ≤ A ∧ A ≤ 2147483647 ∧ 0 ≤ AN ∧ AN ≤ 2147483647) ∧ (0 ≤ B ∧ B ≤ 2147483647 ∧ 0 ≤ BN ∧ BN ≤ 2147483647) := by
  unfold uhdP at h
  split at h
  · split at h
    · cases h
    · split at h
      · cases h
      · split at h
        · split at h
          · rename_i h1 h2
            cases h
            exact ⟨cnt_ok h1, cnt_ok h2⟩
          · cases h
        · cases h
  · cases h
theorem uhk_ok {k p p1 : Nat} {ls r : List (List UInt8)} {h : Hk} (hP : Plain ls) (hh : uhkP k p ls = .ok (h, p1, r)) : chkH h = 0 ∧ Plain r ∧ ls.length + p = r.length + p1 ∧ r.length < ls.length ∧ k < 4096 := by
  unfold uhkP at hh
  split at hh
  · cases hh
  · rename_i s r0 hn
    obtain ⟨a1, a2⟩ := nxt_len hP hn
    split at hh
    · cases hh
    · rename_i A AN B BN hd
      obtain ⟨d1, d2⟩ := uhd_ok hd
      split at hh
      · cases hh
      · rename_i hk
        split at hh
        · cases hh
        · rename_i hz
          split at hh
          · cases hh
          · rename_i l q1 r1 h1
            obtain ⟨b1, b2, b3, b4, b5, b6, b7, b8⟩ := urd_ok _ a2 (Nat.le_refl _) h1
            split at hh
            · cases hh
            · rename_i hs
              cases hh
              refine ⟨?_, b6, by omega, by omega, by omega⟩
              have hfld : fldB l = true := (fld_iff l).2 ⟨b1, b4, b5⟩
              have hrng : rngB ⟨A, AN, B, BN, l⟩ = true := by
                simp only [rngB, nat31, Bool.and_eq_true, Bool.not_eq_true', Bool.and_eq_false_iff, decide_eq_true_eq, decide_eq_false_iff_not]
                omega
              unfold chkH
              rw [if_neg (by rw [hrng]; decide), if_neg (by rw [hfld]; decide), if_neg, if_neg (show ¬ ((l.all fun m => decide (m.sg = 32)) = true) from hs)]
              show ¬ (AN ≠ ((pkL 43 l).length : Int) ∨ BN ≠ ((pkL 45 l).length : Int))
              omega
theorem uhs_ok {x : List UInt8} (f : Nat) : ∀ {k p p1 : Nat} {ls r : List (List UInt8)} {hs : List Hk}, Plain ls → uhsP x f k p ls = .ok (hs, p1, r) → hs ≠ [] ∧ (∀ h ∈ hs, chkH h = 0) ∧ k + hs.length ≤ 4096 ∧ Plain r ∧ ls.length + p = r.length + p1 ∧ r.length < ls.length ∧ pkU x r = false := by
  induction f with
  | zero => intro k p p1 ls r hs _ h; cases h
  | succ f ih =>
    intro k p p1 ls r hs hP h
    simp only [uhsP] at h
    split at h
    · cases h
    · rename_i h0 q1 r1 h1
      obtain ⟨a1, a2, a3, a4, a5⟩ := uhk_ok hP h1
      split at h
      · split at h
        · cases h
        · rename_i l q2 r2 h2
          obtain ⟨b1, b2, b3, b4, b5, b6, b7⟩ := ih a2 h2
          cases h
          refine ⟨by simp, ?_, by simp only [List.length_cons]; omega, b4, by omega, by omega, b7⟩
          intro y hy
          rcases List.mem_cons.1 hy with rfl | hy
          · exact a1
          · exact b2 y hy
      · rename_i hp
        cases h
        refine ⟨by simp, ?_, by simp only [List.length_cons, List.length_nil]; omega, a2, a3, a4, by simpa using hp⟩
        intro y hy
        rw [List.mem_singleton.1 hy]
        exact a1
theorem ups_ok {x : List UInt8} (f : Nat) : ∀ {k p : Nat} {ls : List (List UInt8)} {L : List Pth}, Plain ls → upsP x f k p ls = .ok L → (∀ q ∈ L, Gu q) ∧ (k + L.length ≤ 64 ∨ L = []) := by
  induction f with
  | zero =>
    intro k p ls L _ h
    simp only [upsP] at h
    cases h
    exact ⟨fun q hq => (by cases hq), .inr rfl⟩
  | succ f ih =>
    intro k p ls L hP h
    simp only [upsP] at h
    split at h
    · cases h
      exact ⟨fun q hq => (by cases hq), .inr rfl⟩
    · split at h
      · cases h
      · rename_i n1 r1 h1
        obtain ⟨a1, a2, a3⟩ := nam_ok hP h1
        split at h
        · cases h
        · rename_i hk
          split at h
          · cases h
          · rename_i n2 r2 h2
            obtain ⟨b1, b2, b3⟩ := nam_ok a3 h2
            split at h
            · cases h
            · rename_i hs p3 r3 h3
              obtain ⟨c1, c2, c3, c4, c5, c6, _⟩ := uhs_ok _ b3 h3
              split at h
              · cases h
              · rename_i l h4
                obtain ⟨d1, d2⟩ := ih c4 h4
                cases h
                refine ⟨?_, .inl ?_⟩
                · intro q hq
                  rcases List.mem_cons.1 hq with rfl | hq
                  · exact ⟨c1, a1, b1, by show hs.length ≤ 4096; omega, c2⟩
                  · exact d1 q hq
                · rcases d2 with d2 | rfl
                  · simp only [List.length_cons]
                    omega
                  · simp only [List.length_cons, List.length_nil]
                    omega
/-- what is read are right patches -/
theorem un_right {x t : List UInt8} {L : List Pth} (h : unT x t = .ok L) : (∀ q ∈ L, Gu q) ∧ L.length ≤ 64 := by
  unfold unT at h
  split at h
  · cases h
  · obtain ⟨a1, a2⟩ := ups_ok _ (split_plain t) h
    refine ⟨a1, ?_⟩
    rcases a2 with a2 | rfl
    · omega
    · exact Nat.zero_le _
theorem uwrg_ok {p : Pth} (g : Gu p) : wrgP p = 0 := by
  unfold wrgP
  have := g.old
  have := g.new
  have := g.few
  rw [if_neg (by omega), if_neg (by omega)]
  exact cx_errs g.gd
theorem ups_text {L : List Pth} (h : ∀ q ∈ L, Gu q) : L.flatMap upT = (L.flatMap upL).flatten := by
  induction L with
  | nil => rfl
  | cons p L ih =>
    rw [List.flatMap_cons, List.flatMap_cons, List.flatten_append, ih fun x hx => h x (by simp [hx])]
    unfold upT
    rw [if_pos (uwrg_ok (h p (by simp)))]
/-- what is read is written, and read again, as the same -/
theorem un_again {x t : List UInt8} (hx : Shw x) {L : List Pth} (h : unT x t = .ok L) (hl : (L.flatMap upT).length ≤ 1048576) : unT x (L.flatMap upT) = .ok L := by
  obtain ⟨a1, a2⟩ := un_right h
  rw [ups_text a1] at hl ⊢
  exact un_back hx a1 a2 hl

/- by two bytes, or by four -/
theorem uhk_bad {s : List UInt8} {r : List (List UInt8)} (h : atC.isPrefixOf s = false) (k p : Nat) : uhkP k p (s :: r) = .error (p + 1, 3) := by
  unfold uhkP
  simp only [nxt]
  split
  · rename_i h0
    split at h0
    · cases h0
    · cases h0
      rfl
  · rename_i u q h0
    split at h0
    · rename_i hf
      cases h0
      have : uhdP s.dropLast = none := by
        unfold uhdP
        rw [if_neg]
        intro hq
        have e := fd_form hf
        rw [e] at h
        have : ([64, 64, 32, 45] : List UInt8).isPrefixOf (s.dropLast ++ [10]) = true := by
          rw [List.isPrefixOf_iff_prefix] at hq ⊢
          exact hq.trans (List.prefix_append _ _)
        unfold atC at h
        rw [this] at h
        cases h
      rw [this]
    · cases h0
theorem nam_bad {s : List UInt8} {r : List (List UInt8)} (h : atR.isPrefixOf s = true) (p : Nat) : namP [45, 45, 45, 32] p (s :: r) = .error (p + 1, 3) := by
  unfold namP
  simp only [nxt]
  split
  · rename_i h0
    split at h0
    · cases h0
    · cases h0
      rfl
  · rename_i u q h0
    split at h0
    · rename_i hf
      cases h0
      rw [if_neg]
      intro hq
      rw [List.isPrefixOf_iff_prefix] at h hq
      obtain ⟨y, hy⟩ := h
      obtain ⟨z, hz⟩ := hq
      have e := fd_form hf
      rw [← hz] at e
      rw [← hy] at e
      simp [atR] at e
    · cases h0
theorem pku_both {r : List (List UInt8)} (h : pkU atC r = true) : pkU atR r = true := by
  cases r with
  | nil => cases h
  | cons s r =>
    simp only [pkU] at h ⊢
    rw [List.isPrefixOf_iff_prefix] at h ⊢
    exact (by decide : atR <+: atC).trans h
/-- the hunks of a patch, by two bytes: the same, or what stands behind them is refused -/
theorem uhs_both (f : Nat) : ∀ (k p : Nat) (ls : List (List UInt8)), ls.length < f → Plain ls → uhsP atR f k p ls = uhsP atC f k p ls ∨ ∃ hs p1 s r, uhsP atC f k p ls = .ok (hs, p1, s :: r) ∧ uhsP atR f k p ls = .error (p1 + 1, 3) ∧ atR.isPrefixOf s = true := by
  induction f with
  | zero => intro k p ls h; omega
  | succ f ih =>
    intro k p ls hf hP
    simp only [uhsP]
    cases h1 : uhkP k p ls with
    | error e => exact .inl rfl
    | ok v =>
      obtain ⟨h0, q1, r1⟩ := v
      obtain ⟨a1, a2, a3, a4, a5⟩ := uhk_ok hP h1
      simp only
      cases hc : pkU atC r1 with
      | true =>
        rw [if_pos (pku_both hc), if_pos rfl]
        rcases ih (k + 1) q1 r1 (by omega) a2 with e | ⟨hs, p1, s, r, e1, e2, e3⟩
        · rw [e]
          exact .inl rfl
        · rw [e1, e2]
          exact .inr ⟨h0 :: hs, p1, s, r, rfl, rfl, e3⟩
      | false =>
        rw [if_neg (by decide : ¬ (false = true))]
        cases hr : pkU atR r1 with
        | false => exact .inl rfl
        | true =>
          rw [if_pos rfl]
          cases r1 with
          | nil => cases hr
          | cons s r =>
            have e1 : uhsP atR f (k + 1) q1 (s :: r) = .error (q1 + 1, 3) := by
              cases f with
              | zero => omega
              | succ f =>
                simp only [uhsP]
                rw [uhk_bad hc]
            rw [e1]
            exact .inr ⟨[h0], q1, s, r, rfl, rfl, hr⟩
theorem ups_both (f : Nat) : ∀ (k p : Nat) (ls : List (List UInt8)), ls.length ≤ f → Plain ls → upsP atR f k p ls = upsP atC f k p ls := by
  induction f with
  | zero => intro k p ls h _; rfl
  | succ f ih =>
    intro k p ls hf hP
    simp only [upsP]
    split
    · rfl
    · cases h1 : namP [45, 45, 45, 32] p ls with
      | error e => rfl
      | ok v =>
        obtain ⟨n1, r1⟩ := v
        obtain ⟨a1, a2, a3⟩ := nam_ok hP h1
        simp only
        split
        · rfl
        · cases h2 : namP [43, 43, 43, 32] (p + 1) r1 with
          | error e => rfl
          | ok v =>
            obtain ⟨n2, r2⟩ := v
            obtain ⟨b1, b2, b3⟩ := nam_ok a3 h2
            simp only
            rcases uhs_both (r2.length + 1) 0 (p + 2) r2 (by omega) b3 with e | ⟨hs, p1, s, r, e1, e2, e3⟩
            · rw [e]
              cases h3 : uhsP atC (r2.length + 1) 0 (p + 2) r2 with
              | error e => rfl
              | ok v =>
                obtain ⟨hs, p3, r3⟩ := v
                obtain ⟨c1, c2, c3, c4, c5, c6, _⟩ := uhs_ok _ b3 h3
                simp only
                rw [ih (k + 1) p3 r3 (by omega) c4]
            · rw [e1, e2]
              obtain ⟨c1, c2, c3, c4, c5, c6, _⟩ := uhs_ok _ b3 e1
              simp only [List.length_cons] at c6
              simp only
              cases f with
              | zero => omega
              | succ f =>
                simp only [upsP]
                rw [if_neg (by simp), nam_bad e3]
/-- both ways of reading are one -/
theorem un_both (t : List UInt8) : unT atR t = unT atC t := by
  unfold unT
  split
  · rfl
  · exact ups_both _ 0 0 _ (Nat.le_refl _) (split_plain t)
end Go.Proofs.YtgcccpmcbjfaaaaDoor

/- How large what is read of a text in the context form is; plain mathematics. -/
namespace Go.Proofs.YtgcccpmcbjfaaaaDoor
open Ln

/-- the bytes of lines, and one a line -/
def szL : List (List UInt8) → Nat
  | [] => 0
  | s :: r => s.length + 1 + szL r
theorem szl_tail (l : List (List UInt8)) : szL l.tail ≤ szL l := by
  cases l with
  | nil => exact Nat.le_refl _
  | cons s r => simp only [List.tail_cons, szL]; omega
theorem szl_len (l : List (List UInt8)) : szL l = l.flatten.length + l.length := by
  induction l with
  | nil => rfl
  | cons s r ih =>
    simp only [szL, List.flatten_cons, List.length_append, List.length_cons, ih]
    omega
def szS (x : Sde) : Nat := szL (x.map (·.2))
theorem szs_cons (y : UInt8 × List UInt8) (x : Sde) : szS (y :: x) = y.2.length + 1 + szS x := rfl
theorem szs_kept (x : Sde) : szS (keptS x) ≤ szS x := by
  induction x with
  | nil => exact Nat.le_refl _
  | cons y x ih =>
    unfold keptS at ih ⊢
    rw [List.filter_cons]
    split
    · rw [szs_cons, szs_cons]
      omega
    · rw [szs_cons]
      omega
theorem rd_sz {sg : UInt8} (ls : List (List UInt8)) : ∀ {p p1 : Nat} {r : List (List UInt8)} {x : Sde}, rdS sg p ls = .ok (x, p1, r) → szS x + szL r ≤ szL ls := by
  induction ls with
  | nil =>
    intro p p1 r x h
    simp only [rdS] at h
    cases h
    exact Nat.le_refl _
  | cons s ls ih =>
    intro p p1 r x h
    simp only [rdS] at h
    split at h
    · split at h
      · split at h
        · cases h
          have := szl_tail ls
          rw [szs_cons]
          simp only [szL, szS, List.map_nil, List.length_dropLast, List.length_drop]
          omega
        · split at h
          · cases h
          · rename_i hr
            have := ih hr
            cases h
            rw [szs_cons]
            simp only [szL, List.length_drop]
            omega
      · cases h
    · cases h
      show 0 + _ ≤ _
      omega
theorem nxt_sz {p : Nat} {ls r : List (List UInt8)} {s : List UInt8} (h : nxt p ls = .ok (s, r)) : szL r + 1 ≤ szL ls := by
  cases ls with
  | nil => cases h
  | cons t l =>
    simp only [nxt] at h
    split at h
    · cases h
      simp only [szL]
      omega
    · cases h
theorem rng_sz {e : UInt8} {p : Nat} {ls r : List (List UInt8)} {q : Int × Int} (h : rngP e p ls = .ok (q, r)) : szL r + 1 ≤ szL ls := by
  unfold rngP at h
  split at h
  · cases h
  · rename_i hn
    split at h
    · cases h
    · split at h
      · cases h
      · cases h
        exact nxt_sz hn
theorem mk_sz {l : List Mk} (h : ∀ m ∈ l, okS m.sg = true) : l.length + txS l ≤ szL (pkL 43 l) + szL (pkL 45 l) := by
  induction l with
  | nil => exact Nat.le_refl _
  | cons m l ih =>
    have h1 := ih fun x hx => h x (by simp [hx])
    have h2 := h m (by simp)
    simp only [pkL, txS, List.length_cons]
    by_cases h3 : m.sg = 43
    · rw [if_neg (by simp [h3]), if_pos ⟨by rw [h3]; decide, h2⟩]
      simp only [szL]
      omega
    · rw [if_pos ⟨h3, h2⟩]
      split
      · simp only [szL]
        omega
      · simp only [szL]
        omega
theorem fin_sz {a0 a1 a2 : Nat} {po no pw nw : Int} {o w : Sde} {h : Hk} (hf : finH a0 a1 a2 po no pw nw o w = .ok h) : h.ls.length + txS h.ls ≤ 2 * (szS o + szS w) := by
  unfold finH at hf
  split at hf
  · cases hf
  split at hf
  · cases hf
  split at hf
  · cases hf
  split at hf
  · cases hf
  split at hf
  · cases hf
  split at hf
  · cases hf
  · rename_i l hj
    cases hf
    obtain ⟨_, b, c, d, _⟩ := jn_ok _ hj
    have := mk_sz b
    rw [c, d] at this
    have e1 : szL ((oldF o w).map (·.2)) ≤ szS o + szS w := by
      show szS (oldF o w) ≤ _
      unfold oldF
      split
      · have := szs_kept w
        omega
      · omega
    have e2 : szL ((newF o w).map (·.2)) ≤ szS o + szS w := by
      show szS (newF o w) ≤ _
      unfold newF
      split
      · have := szs_kept o
        omega
      · omega
    dsimp only
    omega
theorem cxh_sz {k p p1 : Nat} {ls r : List (List UInt8)} {h : Hk} (hh : cxH k p ls = .ok (h, p1, r)) : h.ls.length + txS h.ls + 2 * szL r + 6 ≤ 2 * szL ls := by
  unfold cxH at hh
  split at hh
  · cases hh
  · rename_i s r0 hn
    have a1 := nxt_sz hn
    split at hh
    · split at hh
      · cases hh
      · split at hh
        · cases hh
        · rename_i po no r1 h1
          have b1 := rng_sz h1
          split at hh
          · cases hh
          · rename_i o p2 r2 h2
            have c1 := rd_sz _ h2
            split at hh
            · cases hh
            · rename_i pw nw r3 h3
              have d1 := rng_sz h3
              split at hh
              · cases hh
              · rename_i w p4 r4 h4
                have e1 := rd_sz _ h4
                split at hh
                · cases hh
                · rename_i h5 hf
                  cases hh
                  have := fin_sz hf
                  omega
    · cases hh
theorem cxhs_sz (f : Nat) : ∀ {k p p1 : Nat} {ls r : List (List UInt8)} {hs : List Hk}, cxHs f k p ls = .ok (hs, p1, r) → hsS hs + 208 * szL r ≤ 208 * szL ls := by
  induction f with
  | zero => intro k p p1 ls r hs h; cases h
  | succ f ih =>
    intro k p p1 ls r hs h
    simp only [cxHs] at h
    split at h
    · cases h
    · rename_i h0 q1 r1 h1
      have a := cxh_sz h1
      split at h
      · split at h
        · cases h
        · rename_i l q2 r2 h2
          have b := ih h2
          cases h
          simp only [hsS]
          omega
      · cases h
        simp only [hsS]
        omega
/-- the size of patches -/
def ptM : List Pth → Nat
  | [] => 0
  | p :: L => 416 + hsS p.hs + ptM L
theorem nam_sz {ah n : List UInt8} {p : Nat} {ls r : List (List UInt8)} (h : namP ah p ls = .ok (n, r)) : szL r + 1 ≤ szL ls := by
  unfold namP at h
  split at h
  · cases h
  · rename_i s r0 hn
    have := nxt_sz hn
    split at h
    · split at h
      · cases h
      · cases h
        exact this
    · cases h
theorem cxps_sz (f : Nat) : ∀ {k p : Nat} {ls : List (List UInt8)} {L : List Pth}, cxPs f k p ls = .ok L → ptM L ≤ 208 * szL ls := by
  induction f with
  | zero =>
    intro k p ls L h
    simp only [cxPs] at h
    cases h
    exact Nat.zero_le _
  | succ f ih =>
    intro k p ls L h
    simp only [cxPs] at h
    split at h
    · cases h
      exact Nat.zero_le _
    · split at h
      · cases h
      · rename_i n1 r1 h1
        have a1 := nam_sz h1
        split at h
        · cases h
        · split at h
          · cases h
          · rename_i n2 r2 h2
            have b1 := nam_sz h2
            split at h
            · cases h
            · rename_i hs p3 r3 h3
              have c1 := cxhs_sz _ h3
              split at h
              · cases h
              · rename_i l h4
                have d1 := ih h4
                cases h
                simp only [ptM]
                omega
theorem cx_size {t : List UInt8} {L : List Pth} (h : cxT t = .ok L) : ptM L ≤ 436207616 := by
  unfold cxT at h
  split at h
  · cases h
  · rename_i hl
    have := cxps_sz _ h
    rw [szl_len, split_join] at this
    have h2 := split_len t
    omega
theorem pts_len (L : List Pth) : (L.flatMap ptT).length ≤ ptM L := by
  induction L with
  | nil => exact Nat.le_refl _
  | cons p L ih =>
    rw [List.flatMap_cons, List.length_append, ptM]
    have := pt_len p
    omega
theorem ptM_mem {L : List Pth} {p : Pth} (h : p ∈ L) : 416 + hsS p.hs ≤ ptM L := by
  induction L with
  | nil => cases h
  | cons q L ih =>
    simp only [ptM]
    rcases List.mem_cons.1 h with rfl | h
    · omega
    · have := ih h
      omega
theorem hsS_mem {l : List Hk} {x : Hk} (h : x ∈ l) : x.ls.length + txS x.ls ≤ hsS l := by
  induction l with
  | nil => cases h
  | cons q l ih =>
    simp only [hsS]
    rcases List.mem_cons.1 h with rfl | h
    · omega
    · have := ih h
      omega
theorem hsS_len (l : List Hk) : l.length ≤ hsS l := by
  induction l with
  | nil => exact Nat.le_refl _
  | cons q l ih =>
    simp only [hsS, List.length_cons]
    omega
theorem txS_mem {l : List Mk} {m : Mk} (h : m ∈ l) : m.tx.length ≤ txS l := by
  induction l with
  | nil => cases h
  | cons q l ih =>
    simp only [txS]
    rcases List.mem_cons.1 h with rfl | h
    · omega
    · have := ih h
      omega
theorem hok_size {p : List (Hk × Value)} (h : hsS (p.map (·.1)) ≤ 436207616) : HOk p := by
  refine ⟨?_, fun x hx => ?_⟩
  · have := hsS_len (p.map (·.1))
    rw [List.length_map] at this
    omega
  · have := hsS_mem (List.mem_map_of_mem (f := (·.1)) hx)
    refine ⟨by omega, fun m hm => ?_⟩
    have := txS_mem hm
    omega
end Go.Proofs.YtgcccpmcbjfaaaaDoor

/- How long a text in the unified form is, and how large what is read of one is; plain mathematics. -/
namespace Go.Proofs.YtgcccpmcbjfaaaaDoor
open Ln

theorem uc_len {p n : Int} (hp : 0 ≤ p) (hb : p ≤ 2147483647) (hn : 0 ≤ n) (hm : n ≤ 2147483647) : (ucT p n).length ≤ 61 := by
  have r1 := itoa_short p (by omega) (by omega)
  have r2 := itoa_short n (by omega) (by omega)
  unfold ucT
  split
  · omega
  · simp only [List.length_append, List.length_cons]
    omega
theorem um_len (l : List Mk) : (l.flatMap umL).flatten.length ≤ 31 * l.length + txS l := by
  induction l with
  | nil => exact Nat.le_refl _
  | cons m l ih =>
    have h1 := cln_len [UInt8.ofNat m.sg.toNat] m.tx
    simp only [List.flatMap_cons, List.flatten_append, List.length_append, List.length_cons, List.length_nil, txS, umL] at h1 ih ⊢
    omega
theorem uhl_len {h : Hk} (hc : chkH h = 0) : (uhL h).flatten.length ≤ 200 + 62 * h.ls.length + 2 * txS h.ls := by
  obtain ⟨c1, _⟩ := chk_out hc
  obtain ⟨r1, r2, r3, r4, r5, r6, _⟩ := rng_out c1
  obtain ⟨r7, r8⟩ := rng_hi c1
  have s1 := um_len h.ls
  have s3 := uc_len r1 r2 r3 r7
  have s4 := uc_len r4 r5 r6 r8
  simp only [uhL, uhT, List.flatten_cons, List.length_append, List.length_cons, List.length_nil]
  omega
theorem uhs_len {l : List Hk} (h : ∀ x ∈ l, chkH x = 0) : (l.flatMap uhL).flatten.length ≤ hsS l := by
  induction l with
  | nil => exact Nat.le_refl _
  | cons x l ih =>
    have h1 := ih fun y hy => h y (by simp [hy])
    have h2 := uhl_len (h x (by simp))
    simp only [List.flatMap_cons, List.flatten_append, List.length_append, hsS]
    omega
theorem upl_len {p : Pth} (h : ∀ x ∈ p.hs, chkH x = 0) : (upL p).flatten.length ≤ 32 + 3 * p.old.length + 3 * p.new.length + hsS p.hs := by
  unfold upL
  split
  · exact Nat.zero_le _
  · have h1 := uhs_len h
    have h2 := name_len p.old
    have h3 := name_len p.new
    simp only [List.flatten_cons, List.length_append, List.length_cons, List.length_nil]
    omega
theorem up_len (p : Pth) : (upT p).length ≤ 416 + hsS p.hs := by
  unfold upT
  split
  · rename_i h
    obtain ⟨h1, h2, _, h4⟩ := wrg_out h
    have := upl_len h4
    omega
  · exact Nat.zero_le _
theorem ups_len (L : List Pth) : (L.flatMap upT).length ≤ ptM L := by
  induction L with
  | nil => exact Nat.le_refl _
  | cons p L ih =>
    rw [List.flatMap_cons, List.length_append, ptM]
    have := up_len p
    omega
theorem nxt_szl {p : Nat} {ls r : List (List UInt8)} {s : List UInt8} (h : nxt p ls = .ok (s, r)) : s.length + 2 + szL r ≤ szL ls := by
  have := nxt_ok h
  subst this
  simp only [szL, List.length_append, List.length_cons, List.length_nil]
  omega
theorem uln_sz {a b p p1 : Nat} {ls r : List (List UInt8)} {m : Mk} (h : ulnP a b p ls = .ok (m, p1, r)) : m.tx.length + 1 + szL r ≤ szL ls := by
  unfold ulnP at h
  split at h
  · cases h
  · cases h
  · rename_i c t r0 hn
    have := nxt_szl hn
    have ht := szl_tail r0
    simp only [List.length_cons] at this
    split at h
    · split at h
      · cases h
        dsimp only
        omega
      · cases h
        simp only [List.length_append, List.length_cons, List.length_nil]
        omega
    · cases h
theorem urd_sz (n : Nat) : ∀ {a b p p1 : Nat} {ls r : List (List UInt8)} {l : List Mk}, urdP n a b p ls = .ok (l, p1, r) → l.length + txS l + szL r ≤ szL ls := by
  induction n with
  | zero =>
    intro a b p p1 ls r l h
    simp only [urdP] at h
    cases h
    simp only [txS, List.length_nil]
    omega
  | succ n ih =>
    intro a b p p1 ls r l h
    simp only [urdP] at h
    split at h
    · cases h
      simp only [txS, List.length_nil]
      omega
    · split at h
      · cases h
      · rename_i h1
        have a1 := uln_sz h1
        split at h
        · cases h
        · rename_i h2
          have b1 := ih h2
          cases h
          simp only [txS, List.length_cons]
          omega
theorem uhk_sz {k p p1 : Nat} {ls r : List (List UInt8)} {h : Hk} (hh : uhkP k p ls = .ok (h, p1, r)) : h.ls.length + txS h.ls + szL r + 1 ≤ szL ls := by
  unfold uhkP at hh
  split at hh
  · cases hh
  · rename_i s r0 hn
    have a1 := nxt_sz hn
    split at hh
    · cases hh
    · split at hh
      · cases hh
      · split at hh
        · cases hh
        · split at hh
          · cases hh
          · rename_i h1
            have b1 := urd_sz _ h1
            split at hh
            · cases hh
            · cases hh
              dsimp only
              omega
theorem uhs_sz {x : List UInt8} (f : Nat) : ∀ {k p p1 : Nat} {ls r : List (List UInt8)} {hs : List Hk}, uhsP x f k p ls = .ok (hs, p1, r) → hsS hs + 208 * szL r ≤ 208 * szL ls := by
  induction f with
  | zero => intro k p p1 ls r hs h; cases h
  | succ f ih =>
    intro k p p1 ls r hs h
    simp only [uhsP] at h
    split at h
    · cases h
    · rename_i h0 q1 r1 h1
      have a := uhk_sz h1
      split at h
      · split at h
        · cases h
        · rename_i l q2 r2 h2
          have b := ih h2
          cases h
          simp only [hsS]
          omega
      · cases h
        simp only [hsS]
        omega
theorem upsr_sz {x : List UInt8} (f : Nat) : ∀ {k p : Nat} {ls : List (List UInt8)} {L : List Pth}, upsP x f k p ls = .ok L → ptM L ≤ 208 * szL ls := by
  induction f with
  | zero =>
    intro k p ls L h
    simp only [upsP] at h
    cases h
    exact Nat.zero_le _
  | succ f ih =>
    intro k p ls L h
    simp only [upsP] at h
    split at h
    · cases h
      exact Nat.zero_le _
    · split at h
      · cases h
      · rename_i n1 r1 h1
        have a1 := nam_sz h1
        split at h
        · cases h
        · split at h
          · cases h
          · rename_i n2 r2 h2
            have b1 := nam_sz h2
            split at h
            · cases h
            · rename_i hs p3 r3 h3
              have c1 := uhs_sz _ h3
              split at h
              · cases h
              · rename_i l h4
                have d1 := ih h4
                cases h
                simp only [ptM]
                omega
theorem un_size {x t : List UInt8} {L : List Pth} (h : unT x t = .ok L) : ptM L ≤ 436207616 := by
  unfold unT at h
  split at h
  · cases h
  · rename_i hl
    have := upsr_sz _ h
    rw [szl_len, split_join] at this
    have h2 := split_len t
    omega
end Go.Proofs.YtgcccpmcbjfaaaaDoor

/- The reference's Name, Wrong and count of layer 16, walked; steps of a region that reads a line of a hunk. -/
namespace Go.Proofs.YtgcccpmcbjfaaaaDoor
open Go.RowKit

set_option maxHeartbeats 1000000 in
theorem rName6_f (l : List UInt8) (w : World) (hl : l.length ≤ 1099511627776) (t : List UInt8) (HT : Hid (nameT l = t)) :
    Calls Tryd.prog 15 #[.string ⟨l.toArray⟩] w fun e w' => e = .returned (.string ⟨t.toArray⟩) ∧ Below w.heap.size w w' := by
  go_enter Tryd.func15, Tryd.ntmps15
  go_wp2_with fail
  refine (rName_f l _ hl t HT).mono ?_
  rintro e w1 ⟨rfl, hb⟩
  go_wp2
  go_ret
  exact ⟨rfl, hb⟩
set_option maxHeartbeats 1000000 in
theorem rWrong6_f (p : Pth) (q : List (Hk × Value)) (HQ : Hid (q.map (·.1) = p.hs)) (v : Value) (w : World) (hv : HHp w v q) (hok : HOk q) (ho : p.old.length ≤ 1099511627776) (hn : p.new.length ≤ 1099511627776) (r : Int) (HR : Hid (wrgP p = r)) :
    Calls Tryd.prog 14 #[ptV p v] w fun e w' => e = .returned (.int .i64 r) ∧ Below w.heap.size w w' := by
  obtain ⟨lo, lc, rfl⟩ := Holds.form hv.row
  have hB : Below w.heap.size w (w.alloc (.cells #[.string ⟨p.old.toArray⟩, .string ⟨p.new.toArray⟩, .slice lo q.length lc] 24)) := (Below.refl _ w).alloc (Nat.le_refl _) _
  have hc := rWrong_f p q HQ (.slice lo q.length lc) _ (hv.keep hB (Nat.le_refl _)) hok ho hn r HR
  unfold ptV at hc ⊢
  go_enter Tryd.func14, Tryd.ntmps14
  go_wp2_with fail
  refine hc.mono ?_
  rintro e w1 ⟨rfl, hB1⟩
  go_wp2
  go_ret
  exact ⟨rfl, hB.trans (hB1.mono hB.size)⟩
set_option maxHeartbeats 1000000 in
theorem rcount6_f (A N : Int) (h0 : 0 ≤ A) (h1 : A ≤ 4611686018427387904) (h2 : 0 ≤ N) (h3 : N ≤ 4611686018427387900) (w : World) (T : List UInt8) (HR : Hid (ucT A N = T)) :
    Calls Tryd.prog 16 #[.int .i64 A, .int .i64 N] w fun e w' => e = .returned (.string ⟨T.toArray⟩) ∧ Below w.heap.size w w' := by
  have l1 := itoa_short A (by omega) (by omega)
  have l2 := itoa_short N (by omega) (by omega)
  by_cases hN : N = 1
  · have HE1 : Hid (Lib.itoa A = T) := (by have h := HR.out; unfold ucT at h; rw [if_pos hN] at h; exact h)
    have e1 : (N == 1) = true := beq_iff_eq.2 hN
    clear HR hN
    go_enter Tryd.func16, Tryd.ntmps16
    go_wp2_with fail
    refine (rText_f A (by omega) (by omega) _).mono ?_
    rintro e w1 ⟨rfl, hb1⟩
    go_wp2
    go_ret
    exact ⟨by rw [← HE1.out]; rfl, hb1⟩
  · have HE : Hid (Lib.itoa A ++ 44 :: Lib.itoa N = T) := (by have h := HR.out; unfold ucT at h; rw [if_neg hN] at h; exact h)
    have e1 : (N == 1) = false := beq_eq_false_iff_ne.2 hN
    clear HR hN
    have q1 := add_fits (x := Lib.itoa A) (y := [44]) (by unfold Fits; simp only [List.length_cons, List.length_nil]; omega) Tryd.prog
    have q2 := add_fits (x := Lib.itoa A ++ [44]) (y := Lib.itoa N) (by unfold Fits; simp only [List.length_append, List.length_cons, List.length_nil]; omega) Tryd.prog
    go_enter Tryd.func16, Tryd.ntmps16
    go_wp2_with fail
    refine (rText_f A (by omega) (by omega) _).mono ?_
    rintro e w1 ⟨rfl, hb1⟩
    go_wp2_with fail
    refine (rText_f N (by omega) (by omega) _).mono ?_
    rintro e w2 ⟨rfl, hb2⟩
    go_wp2
    go_ret
    exact ⟨by rw [← HE.out]; rfl, hb1.trans (hb2.mono hb1.size)⟩
theorem cq_add {x y z : List UInt8} (h : ∀ u : World, (Op.stringOp .add ⟨x.toArray⟩ ⟨y.toArray⟩).run Tryd.prog u = .ok (.string ⟨z.toArray⟩) u) {u : World} {op : Oper} (a b : Operand) (ho : op.op = .binOp .add 9 a b 9) {ev : Operand → Value} (ha : ev a = .string ⟨x.toArray⟩) (hb : ev b = .string ⟨y.toArray⟩) :
    (execOp ev op).run Tryd.prog u = .ok (.value (.string ⟨z.toArray⟩)) u := by
  simp only [execOp, ho, ha, hb]
  go_simp
theorem cq_ix {u : World} {b off n c i : Nat} (hi : i < n) {op : Oper} (x y : Operand) (ho : op.op = .indexAddr 42 x y) {ev : Operand → Value} (hx : ev x = .slice (some ⟨b, off, none⟩) n c) (hy : ev y = .int .i64 (i : Int)) :
    (execOp ev op).run Tryd.prog u = .ok (.value (.pointer (some ⟨b, off + i * 2, none⟩))) u := by
  have i1 : 0 ≤ (i : Int) := by omega
  have i2 : (i : Int) < (n : Int) := by omega
  simp only [execOp, ho, hx, hy]
  go_simp
theorem cq_mks {u : World} {a : Addr} {o : Option Addr} {n c : Nat} (h : u.cell? a = some (.slice o n c)) {op : Oper} (x : Operand) (ho : op.op = .load 42 x) {ev : Operand → Value} (hx : ev x = .pointer (some a)) :
    (execOp ev op).run Tryd.prog u = .ok (.value (.slice o n c)) u := by
  simp only [execOp, ho, hx]
  go_simp
theorem cq_conv {x : Int} (h0 : 0 ≤ x) (h1 : x < 256) {u : World} {op : Oper} (a : Operand) (ho : op.op = .convert 34 9 a) {ev : Operand → Value} (ha : ev a = .slice (some ⟨u.heap.size, 0, none⟩) 1 1) :
    (execOp ev op).run Tryd.prog (u.alloc (.cells #[.int .u8 x] 5)) = .ok (.value (.string ⟨#[UInt8.ofNat x.toNat]⟩)) (u.alloc (.cells #[.int .u8 x] 5)) := by
  have h := tx_conv (P := Tryd.prog) 34 9 5 Tryd.underlying34 Tryd.underlying5 Tryd.underlying9 u x h0 h1
  simp only [execOp, ho, ha, Sem.run_bind, Sem.run_pure, Result.andThen_ok, h]
end Go.Proofs.YtgcccpmcbjfaaaaDoor

/- The reference's Print of layer 16, walked. -/
namespace Go.Proofs.YtgcccpmcbjfaaaaDoor
open Go.RowKit

set_option maxHeartbeats 16000000 in
set_option maxRecDepth 100000 in
theorem rPrint6_f (p : Pth) (q : List (Hk × Value)) (HQ : Hid (q.map (·.1) = p.hs)) (v : Value) (w : World) (hv : HHp w v q) (hok : HOk q) (ho : p.old.length ≤ 1099511627776) (hn : p.new.length ≤ 1099511627776) (Z : List UInt8) (r : Int) (HR : Hid (wrgP p = r)) (HZ : Hid (upT p = Z)) (hZ : Z.length ≤ 70368744177664) :
    Calls Tryd.prog 6 #[ptV p v] w fun e w' => e = .returned (.tuple #[.string ⟨Z.toArray⟩, .int .i64 r]) ∧ Below w.heap.size w w' := by
  obtain ⟨lo, lc, rfl⟩ := Holds.form hv.row
  have HO := fun h => (wrg_out (p := p) h)
  obtain ⟨old, new, hs⟩ := p
  dsimp only at HQ ho hn
  have hql : hs.length = q.length := (by rw [← HQ.out, List.length_map])
  have hZZ := HZ.out
  unfold upT at hZZ
  rw [HR.out] at hZZ
  have hBm : Below w.heap.size w (w.alloc (.cells #[.string ⟨old.toArray⟩, .string ⟨new.toArray⟩, .slice lo q.length lc] 24)) := (Below.refl _ w).alloc (Nat.le_refl _) _
  have hMx : Px (w.alloc (.cells #[.string ⟨old.toArray⟩, .string ⟨new.toArray⟩, .slice lo q.length lc] 24)) w.heap.size ⟨old, new, hs⟩ (.slice lo q.length lc) := heap_alloc_new w _
  have hvm := hv.keep hBm (Nat.le_refl _)
  have hc := rWrong6_f ⟨old, new, hs⟩ q HQ (.slice lo q.length lc) _ hvm hok ho hn r HR
  have e : ptV ⟨old, new, hs⟩ (.slice lo q.length lc) = .agg #[.string ⟨old.toArray⟩, .string ⟨new.toArray⟩, .slice lo q.length lc] := rfl
  rw [e] at hc ⊢
  obtain ⟨d0, d1, d2⟩ := hMx.cells
  clear e hvm
  by_cases hr0 : r = 0
  · subst hr0
    rw [if_pos rfl] at hZZ
    obtain ⟨o1, o2, o3, o4⟩ := HO HR.out
    dsimp only at o1 o2 o3 o4
    have HCh : Hid (∀ x ∈ hs, chkH x = 0) := o4
    clear o4 HO
    by_cases hq0 : q.length = 0
    · have HE : Hid ([] = Z) := (by
        show _ = _
        rw [← hZZ]
        have : hs = [] := List.eq_nil_of_length_eq_zero (by omega)
        rw [this]
        rfl)
      have i1 : ((q.length : Int) == 0) = true := (by rw [hq0]; rfl)
      clear hZZ HZ hq0 hql
      go_enter Tryd.func6, Tryd.ntmps6
      go_wp2_with fail
      refine hc.mono ?_
      rintro e w1 ⟨rfl, hB1⟩
      have hM1 := hMx.low hB1
      clear d0 d1 d2
      obtain ⟨d0, d1, d2⟩ := hM1.cells
      go_wp2
      go_ret2
      exact ⟨by rw [← HE.out]; rfl, hBm.trans (hB1.mono hBm.size)⟩
    · have hne : hs ≠ [] := (by intro e; rw [e] at hql; simp at hql; omega)
      rw [up_lines (p := ⟨old, new, hs⟩) hne] at hZZ
      dsimp only at hZZ
      obtain ⟨N1, hN1⟩ : ∃ Y, nameT old = Y := ⟨_, rfl⟩
      obtain ⟨N2, hN2⟩ : ∃ Y, nameT new = Y := ⟨_, rfl⟩
      obtain ⟨U1, hU1⟩ : ∃ Y, [45, 45, 45, 32] ++ N1 = Y := ⟨_, rfl⟩
      obtain ⟨U2, hU2⟩ : ∃ Y, U1 ++ [10, 43, 43, 43, 32] = Y := ⟨_, rfl⟩
      obtain ⟨U3, hU3⟩ : ∃ Y, U2 ++ N2 = Y := ⟨_, rfl⟩
      obtain ⟨Z2, hZ2⟩ : ∃ Y, U3 ++ [10] = Y := ⟨_, rfl⟩
      have HE : Hid (Z2 ++ (((q.map (·.1)).drop 0).flatMap uhL).flatten = Z) := (by
        show _ = _
        rw [← hZZ, ← hZ2, ← hU3, ← hU2, ← hU1, hN1, hN2, HQ.out, List.drop_zero]
        simp)
      have n1 := name_len old
      have n2 := name_len new
      rw [hN1] at n1
      rw [hN2] at n2
      have u1 := congrArg List.length hU1
      have u2 := congrArg List.length hU2
      have u3 := congrArg List.length hU3
      simp only [List.length_append, List.length_cons, List.length_nil] at u1 u2 u3
      have q1 := add_fits (x := [45, 45, 45, 32]) (y := N1) (by unfold Fits; simp only [List.length_cons, List.length_nil]; omega) Tryd.prog
      have q2 := add_fits (x := U1) (y := [10, 43, 43, 43, 32]) (by unfold Fits; simp only [List.length_cons, List.length_nil]; omega) Tryd.prog
      have q3 := add_fits (x := U2) (y := N2) (by unfold Fits; omega) Tryd.prog
      have q4 := add_fits (x := U3) (y := [10]) (by unfold Fits; simp only [List.length_cons, List.length_nil]; omega) Tryd.prog
      rw [hU1] at q1
      rw [hU2] at q2
      rw [hU3] at q3
      rw [hZ2] at q4
      have i1 : ((q.length : Int) == 0) = false := beq_eq_false_iff_ne.2 (by omega)
      have hq4 : q.length ≤ 4096 := by omega
      have HN1 : Hid (nameT old = N1) := hN1
      have HN2 : Hid (nameT new = N2) := hN2
      clear hZZ HZ hq0 hql n1 n2 hN1 hN2 hU1 hU2 hU3 hZ2 hne o3 u1 u2 u3
      go_enter Tryd.func6, Tryd.ntmps6
      go_wp2_with fail
      refine hc.mono ?_
      rintro e W1 ⟨rfl, hB1⟩
      have hPx := hMx.low hB1
      have hBw1 := hBm.trans (hB1.mono hBm.size)
      clear d0 d1 d2 hBm hMx hB1 hc
      generalize w.heap.size = M at hPx ⊢
      obtain ⟨d0, d1, d2⟩ := hPx.cells
      have HCn1 : Hid (∀ u, Below W1.heap.size W1 u → Calls Tryd.prog 15 (#[.string ⟨old.toArray⟩] ++ #[]) u fun e w2 => ∃ v2, e = .returned v2 ∧ Below W1.heap.size W1 w2 ∧ v2 = .string ⟨N1.toArray⟩) := (by
        intro u hu
        refine (rName6_f old u ho N1 HN1).mono ?_
        rintro e w2 ⟨rfl, h⟩
        exact ⟨_, rfl, hu.trans (h.mono hu.size), rfl⟩)
      have HCn2 : Hid (∀ u, Below W1.heap.size W1 u → Calls Tryd.prog 15 (#[.string ⟨new.toArray⟩] ++ #[]) u fun e w2 => ∃ v2, e = .returned v2 ∧ Below W1.heap.size W1 w2 ∧ v2 = .string ⟨N2.toArray⟩) := (by
        intro u hu
        refine (rName6_f new u hn N2 HN2).mono ?_
        rintro e w2 ⟨rfl, h⟩
        exact ⟨_, rfl, hu.trans (h.mono hu.size), rfl⟩)
      go_upto_region 4 with fail
      refine wp_region_noPanic ?_
      refine wp_region_held_drew (S := fun u => Below W1.heap.size W1 u) (by kernel_rfl) ((Below.refl _ W1).drew) (fun hHeld => ?_)
      generalize W1.drew = wd at hHeld ⊢
      refine go_take 0 20 _ (.pointer (some ⟨M, 0, none⟩)) rfl (by kernel_rfl) (by kernel_rfl) (by kernel_rfl) (by kernel_rfl) (fun _ _ _ h => h) (Or.inl ⟨by kernel_rfl, fun u hu => by kernel_rfl⟩) hHeld ?_
      simp only [Act.put, List.setIfInBounds_toArray, List.set_cons_zero, List.set_cons_succ]
      refine go_take 1 21 _ (.string ⟨old.toArray⟩) rfl (by kernel_rfl) (by kernel_rfl) (by kernel_rfl) (by kernel_rfl) (fun _ _ _ h => h) (Or.inl ⟨by kernel_rfl, fun u hu => cw_str (hPx.low hu).cells.1 (.tmp 20) (by kernel_rfl) (by kernel_rfl)⟩) hHeld ?_
      simp only [Act.put, List.setIfInBounds_toArray, List.set_cons_zero, List.set_cons_succ]
      refine go_take 5 25 _ (.pointer (some ⟨M, 1, none⟩)) rfl (by kernel_rfl) (by kernel_rfl) (by kernel_rfl) (by kernel_rfl) (fun _ _ _ h => h) (Or.inl ⟨by kernel_rfl, fun u hu => by kernel_rfl⟩) hHeld ?_
      simp only [Act.put, List.setIfInBounds_toArray, List.set_cons_zero, List.set_cons_succ]
      refine go_take 6 26 _ (.string ⟨new.toArray⟩) rfl (by kernel_rfl) (by kernel_rfl) (by kernel_rfl) (by kernel_rfl) (fun _ _ _ h => h) (Or.inl ⟨by kernel_rfl, fun u hu => cw_str (hPx.low hu).cells.2.1 (.tmp 25) (by kernel_rfl) (by kernel_rfl)⟩) hHeld ?_
      simp only [Act.put, List.setIfInBounds_toArray, List.set_cons_zero, List.set_cons_succ]
      refine go_callE 2 22 _ rfl (by kernel_rfl) (by kernel_rfl) (by kernel_rfl) 15 (.func 15) #[.tmp 21] #[9] (by kernel_rfl) #[] (by kernel_rfl) #[.string ⟨old.toArray⟩] (by kernel_rfl) (enters_of Tryd.func15 (by kernel_rfl) rfl) (fun v2 _ => v2 = .string ⟨N1.toArray⟩) ?_ ?_
      · exact HCn1.out wd hHeld
      rintro _ w2 hw2 rfl
      simp only [Act.put, List.setIfInBounds_toArray, List.set_cons_zero, List.set_cons_succ]
      refine go_take 3 23 _ (.string ⟨U1.toArray⟩) rfl (by kernel_rfl) (by kernel_rfl) (by kernel_rfl) (by kernel_rfl) (fun _ _ _ h => h) (Or.inl ⟨by kernel_rfl, fun u hu => cq_add q1 (.const (.string ⟨#[45, 45, 45, 32]⟩)) (.tmp 22) (by kernel_rfl) (by kernel_rfl) (by kernel_rfl)⟩) hw2 ?_
      simp only [Act.put, List.setIfInBounds_toArray, List.set_cons_zero, List.set_cons_succ]
      refine go_take 4 24 _ (.string ⟨U2.toArray⟩) rfl (by kernel_rfl) (by kernel_rfl) (by kernel_rfl) (by kernel_rfl) (fun _ _ _ h => h) (Or.inl ⟨by kernel_rfl, fun u hu => cq_add q2 (.tmp 23) (.const (.string ⟨#[10, 43, 43, 43, 32]⟩)) (by kernel_rfl) (by kernel_rfl) (by kernel_rfl)⟩) hw2 ?_
      simp only [Act.put, List.setIfInBounds_toArray, List.set_cons_zero, List.set_cons_succ]
      refine go_callE 7 27 _ rfl (by kernel_rfl) (by kernel_rfl) (by kernel_rfl) 15 (.func 15) #[.tmp 26] #[9] (by kernel_rfl) #[] (by kernel_rfl) #[.string ⟨new.toArray⟩] (by kernel_rfl) (enters_of Tryd.func15 (by kernel_rfl) rfl) (fun v2 _ => v2 = .string ⟨N2.toArray⟩) ?_ ?_
      · exact HCn2.out w2 hw2
      rintro _ w3 hw3 rfl
      simp only [Act.put, List.setIfInBounds_toArray, List.set_cons_zero, List.set_cons_succ]
      refine go_take 8 28 _ (.string ⟨U3.toArray⟩) rfl (by kernel_rfl) (by kernel_rfl) (by kernel_rfl) (by kernel_rfl) (fun _ _ _ h => h) (Or.inl ⟨by kernel_rfl, fun u hu => cq_add q3 (.tmp 24) (.tmp 27) (by kernel_rfl) (by kernel_rfl) (by kernel_rfl)⟩) hw3 ?_
      simp only [Act.put, List.setIfInBounds_toArray, List.set_cons_zero, List.set_cons_succ]
      refine go_take 9 29 _ (.string ⟨Z2.toArray⟩) rfl (by kernel_rfl) (by kernel_rfl) (by kernel_rfl) (by kernel_rfl) (fun _ _ _ h => h) (Or.inl ⟨by kernel_rfl, fun u hu => cq_add q4 (.tmp 28) (.const (.string ⟨#[10]⟩)) (by kernel_rfl) (by kernel_rfl) (by kernel_rfl)⟩) hw3 ?_
      simp only [Act.put, List.setIfInBounds_toArray, List.set_cons_zero, List.set_cons_succ]
      refine go_take 10 5 _ (.string ⟨Z2.toArray⟩) rfl (by kernel_rfl) (by kernel_rfl) (by kernel_rfl) (by kernel_rfl) (fun _ _ _ h => h) (Or.inl ⟨by kernel_rfl, fun u hu => by kernel_rfl⟩) hw3 ?_
      simp only [Act.put, List.setIfInBounds_toArray, List.set_cons_zero, List.set_cons_succ]
      refine wpAnyH_done (by kernel_rfl) ?_ _
      refine NoPanic.normal ?_
      clear q1 q2 q3 q4 HCn1 HCn2 hHeld hw2 d0 d1 d2
      go_wp2
      go_loopw [5, 6] (fun s i wr => ∃ (k : Nat) (ac : List UInt8), k ≤ q.length ∧ i = .int .i64 k ∧ s = .string ⟨ac.toArray⟩ ∧ Below W1.heap.size W1 wr ∧ Hid (ac ++ (((q.map (·.1)).drop k).flatMap uhL).flatten = Z)) (fun _ i _ => q.length - (intOf i).toNat)
      case atStart => exact ⟨0, Z2, Nat.zero_le _, rfl, rfl, hw3, HE⟩
      case round =>
      clear HE hw3
      obtain ⟨k, ac, hk, rfl, rfl, hB, HI⟩ := hrel
      obtain ⟨d0, d1, d2⟩ := (hPx.low hB).cells
      by_cases hlt : k < q.length
      · have hv1 := hv.keep hBw1 (Nat.le_refl _)
        obtain ⟨bk, off, rfl, hbk, _⟩ := hv1.at (by omega)
        obtain ⟨h, y, hx⟩ : ∃ h y, q[k] = (h, y) := ⟨_, _, rfl⟩
        obtain ⟨⟨c0, c1, c2, c3, c4⟩, hm⟩ := HHp.take hv1 hB k hlt hx
        obtain ⟨x1, x2⟩ := hok.2 q[k] (List.getElem_mem hlt)
        have hmem : h ∈ hs := (by rw [← HQ.out]; have h2 := List.mem_map_of_mem (f := (·.1)) (List.getElem_mem hlt); rw [hx] at h2; exact h2)
        have hch := HCh.out h hmem
        rw [hx] at x1 x2
        dsimp only at x1 x2
        have hsg := chk_signs hch
        have hr := (chk_out hch).1
        obtain ⟨r1, r2, r3, r4, r5, r6, rx⟩ := rng_out hr
        obtain ⟨r7, r8⟩ := chk_hi hr
        have HI2 := HI.out
        rw [List.drop_eq_getElem_cons (show k < (q.map (·.1)).length by rw [List.length_map]; exact hlt), List.getElem_map, hx, List.flatMap_cons, List.flatten_append, ← List.append_assoc] at HI2
        dsimp only at HI2
        obtain ⟨yo, yc, rfl⟩ := HMk.form hm
        obtain ⟨A, AN, Bn, BN, ls⟩ := h
        dsimp only at x1 x2 c0 c1 c2 c3 c4 hm r1 r2 r3 r4 r5 r6 r7 r8 hsg
        clear rx hr hch hmem hx HI
        obtain ⟨T1, hT1⟩ : ∃ T, ucT A AN = T := ⟨_, rfl⟩
        obtain ⟨T2, hT2⟩ : ∃ T, ucT Bn BN = T := ⟨_, rfl⟩
        have t1 := uc_len (p := A) (n := AN) r1 r2 r3 r7
        have t2 := uc_len (p := Bn) (n := BN) r4 r5 r6 r8
        rw [hT1] at t1
        rw [hT2] at t2
        obtain ⟨a1, e1⟩ : ∃ Y, ac ++ [64, 64, 32, 45] = Y := ⟨_, rfl⟩
        obtain ⟨a2, e2⟩ : ∃ Y, a1 ++ T1 = Y := ⟨_, rfl⟩
        obtain ⟨a3, e3⟩ : ∃ Y, a2 ++ [32, 43] = Y := ⟨_, rfl⟩
        obtain ⟨a4, e4⟩ : ∃ Y, a3 ++ T2 = Y := ⟨_, rfl⟩
        obtain ⟨a5, e5⟩ : ∃ Y, a4 ++ [32, 64, 64, 10] = Y := ⟨_, rfl⟩
        obtain ⟨a9, e9⟩ : ∃ Y, a5 ++ (ls.flatMap umL).flatten = Y := ⟨_, rfl⟩
        have HI3 : Hid (a9 ++ (((q.map (·.1)).drop (k + 1)).flatMap uhL).flatten = Z) := (by
          show _ = _
          rw [← HI2, ← e9, ← e5, ← e4, ← e3, ← e2, ← e1, ← hT1, ← hT2]
          simp [uhL, uhT])
        have HI5 : Hid (a5 ++ ((ls.drop 0).flatMap umL).flatten = a9) := (by show _ = _; rw [List.drop_zero]; exact e9)
        have l9 := congrArg List.length HI3.out
        have m9 := congrArg List.length e9
        have m5 := congrArg List.length e5
        have m4 := congrArg List.length e4
        have m3 := congrArg List.length e3
        have m2 := congrArg List.length e2
        have m1 := congrArg List.length e1
        simp only [List.length_append] at l9 m9 m5 m4 m3 m2 m1
        have ha9 : a9.length ≤ 70368744177664 := by omega
        have q1 := add_fits (x := ac) (y := [64, 64, 32, 45]) (by unfold Fits; omega) Tryd.prog
        have q2 := add_fits (x := a1) (y := T1) (by unfold Fits; omega) Tryd.prog
        have q3 := add_fits (x := a2) (y := [32, 43]) (by unfold Fits; omega) Tryd.prog
        have q4 := add_fits (x := a3) (y := T2) (by unfold Fits; omega) Tryd.prog
        have q5 := add_fits (x := a4) (y := [32, 64, 64, 10]) (by unfold Fits; omega) Tryd.prog
        rw [e1] at q1
        rw [e2] at q2
        rw [e3] at q3
        rw [e4] at q4
        rw [e5] at q5
        have hBn : Below wr.heap.size wr (wr.alloc (.cells #[.int .i64 A, .int .i64 AN, .int .i64 Bn, .int .i64 BN, .slice yo ls.length yc] 44)) := (Below.refl _ wr).alloc (Nat.le_refl _) _
        have hHx : Hx (wr.alloc (.cells #[.int .i64 A, .int .i64 AN, .int .i64 Bn, .int .i64 BN, .slice yo ls.length yc] 44)) wr.heap.size ⟨A, AN, Bn, BN, ls⟩ (.slice yo ls.length yc) := heap_alloc_new wr _
        have hmm := hm.keep hBn (Nat.le_refl _)
        have hBm := hB.trans (hBn.mono hB.size)
        have i4 : (0 : Int) ≤ (k : Int) := by omega
        have i5 : (k : Int) < (q.length : Int) := by omega
        clear l9 m9 m5 m4 m3 m2 m1 e1 e2 e3 e4 e5 e9 HI2 hm
        go_upto_region 9 with fail
        generalize wr.alloc (.cells #[.int .i64 A, .int .i64 AN, .int .i64 Bn, .int .i64 BN, .slice yo ls.length yc] 44) = Wm at hHx hmm hBm hBn ⊢
        generalize wr.heap.size = Mh at hHx ⊢
        have HC1 : Hid (∀ u, Below Wm.heap.size Wm u → Calls Tryd.prog 16 (#[.int .i64 A, .int .i64 AN] ++ #[]) u fun e w2 => ∃ v2, e = .returned v2 ∧ Below Wm.heap.size Wm w2 ∧ v2 = .string ⟨T1.toArray⟩) := (by
          intro u hu
          refine (rcount6_f A AN r1 (by omega) r3 (by omega) u T1 hT1).mono ?_
          rintro e w2 ⟨rfl, h⟩
          exact ⟨_, rfl, hu.trans (h.mono hu.size), rfl⟩)
        have HC3 : Hid (∀ u, Below Wm.heap.size Wm u → Calls Tryd.prog 16 (#[.int .i64 Bn, .int .i64 BN] ++ #[]) u fun e w2 => ∃ v2, e = .returned v2 ∧ Below Wm.heap.size Wm w2 ∧ v2 = .string ⟨T2.toArray⟩) := (by
          intro u hu
          refine (rcount6_f Bn BN r4 (by omega) r6 (by omega) u T2 hT2).mono ?_
          rintro e w2 ⟨rfl, h⟩
          exact ⟨_, rfl, hu.trans (h.mono hu.size), rfl⟩)
        have HSG : Hid (∀ m ∈ ls, okS m.sg = true) := hsg
        clear hT1 hT2 c0 c1 c2 c3 c4 d0 d1 d2 hsg r1 r2 r3 r4 r5 r6 r7 r8 t1 t2
        refine wp_region_noPanic ?_
        refine wp_region_held_drew (S := fun u => Below Wm.heap.size Wm u) (by kernel_rfl) ((Below.refl _ Wm).drew) (fun hHeld => ?_)
        generalize Wm.drew = wd at hHeld ⊢
        refine go_take 0 42 _ (.string ⟨ac.toArray⟩) rfl (by kernel_rfl) (by kernel_rfl) (by kernel_rfl) (by kernel_rfl) (fun _ _ _ h => h) (Or.inl ⟨by kernel_rfl, fun u hu => by kernel_rfl⟩) hHeld ?_
        simp only [Act.put, List.setIfInBounds_toArray, List.set_cons_zero, List.set_cons_succ]
        refine go_take 1 43 _ (.string ⟨a1.toArray⟩) rfl (by kernel_rfl) (by kernel_rfl) (by kernel_rfl) (by kernel_rfl) (fun _ _ _ h => h) (Or.inl ⟨by kernel_rfl, fun u hu => cq_add q1 (.tmp 42) (.const (.string ⟨#[64, 64, 32, 45]⟩)) (by kernel_rfl) (by kernel_rfl) (by kernel_rfl)⟩) hHeld ?_
        simp only [Act.put, List.setIfInBounds_toArray, List.set_cons_zero, List.set_cons_succ]
        refine go_take 2 44 _ (.pointer (some ⟨Mh, 0, none⟩)) rfl (by kernel_rfl) (by kernel_rfl) (by kernel_rfl) (by kernel_rfl) (fun _ _ _ h => h) (Or.inl ⟨by kernel_rfl, fun u hu => by kernel_rfl⟩) hHeld ?_
        simp only [Act.put, List.setIfInBounds_toArray, List.set_cons_zero, List.set_cons_succ]
        refine go_take 3 45 _ (.int .i64 A) rfl (by kernel_rfl) (by kernel_rfl) (by kernel_rfl) (by kernel_rfl) (fun _ _ _ h => h) (Or.inl ⟨by kernel_rfl, fun u hu => load_int (hHx.low hu).cells.1 (.tmp 44) (by kernel_rfl) (by kernel_rfl)⟩) hHeld ?_
        simp only [Act.put, List.setIfInBounds_toArray, List.set_cons_zero, List.set_cons_succ]
        refine go_take 4 46 _ (.pointer (some ⟨Mh, 1, none⟩)) rfl (by kernel_rfl) (by kernel_rfl) (by kernel_rfl) (by kernel_rfl) (fun _ _ _ h => h) (Or.inl ⟨by kernel_rfl, fun u hu => by kernel_rfl⟩) hHeld ?_
        simp only [Act.put, List.setIfInBounds_toArray, List.set_cons_zero, List.set_cons_succ]
        refine go_take 5 47 _ (.int .i64 AN) rfl (by kernel_rfl) (by kernel_rfl) (by kernel_rfl) (by kernel_rfl) (fun _ _ _ h => h) (Or.inl ⟨by kernel_rfl, fun u hu => load_int (hHx.low hu).cells.2.1 (.tmp 46) (by kernel_rfl) (by kernel_rfl)⟩) hHeld ?_
        simp only [Act.put, List.setIfInBounds_toArray, List.set_cons_zero, List.set_cons_succ]
        refine go_take 9 51 _ (.pointer (some ⟨Mh, 2, none⟩)) rfl (by kernel_rfl) (by kernel_rfl) (by kernel_rfl) (by kernel_rfl) (fun _ _ _ h => h) (Or.inl ⟨by kernel_rfl, fun u hu => by kernel_rfl⟩) hHeld ?_
        simp only [Act.put, List.setIfInBounds_toArray, List.set_cons_zero, List.set_cons_succ]
        refine go_take 10 52 _ (.int .i64 Bn) rfl (by kernel_rfl) (by kernel_rfl) (by kernel_rfl) (by kernel_rfl) (fun _ _ _ h => h) (Or.inl ⟨by kernel_rfl, fun u hu => load_int (hHx.low hu).cells.2.2.1 (.tmp 51) (by kernel_rfl) (by kernel_rfl)⟩) hHeld ?_
        simp only [Act.put, List.setIfInBounds_toArray, List.set_cons_zero, List.set_cons_succ]
        refine go_take 11 53 _ (.pointer (some ⟨Mh, 3, none⟩)) rfl (by kernel_rfl) (by kernel_rfl) (by kernel_rfl) (by kernel_rfl) (fun _ _ _ h => h) (Or.inl ⟨by kernel_rfl, fun u hu => by kernel_rfl⟩) hHeld ?_
        simp only [Act.put, List.setIfInBounds_toArray, List.set_cons_zero, List.set_cons_succ]
        refine go_take 12 54 _ (.int .i64 BN) rfl (by kernel_rfl) (by kernel_rfl) (by kernel_rfl) (by kernel_rfl) (fun _ _ _ h => h) (Or.inl ⟨by kernel_rfl, fun u hu => load_int (hHx.low hu).cells.2.2.2.1 (.tmp 53) (by kernel_rfl) (by kernel_rfl)⟩) hHeld ?_
        simp only [Act.put, List.setIfInBounds_toArray, List.set_cons_zero, List.set_cons_succ]
        refine go_callE 6 48 _ rfl (by kernel_rfl) (by kernel_rfl) (by kernel_rfl) 16 (.func 16) #[.tmp 45, .tmp 47] #[3, 3] (by kernel_rfl) #[] (by kernel_rfl) #[.int .i64 A, .int .i64 AN] (by kernel_rfl) (enters_of Tryd.func16 (by kernel_rfl) rfl) (fun v2 _ => v2 = .string ⟨T1.toArray⟩) ?_ ?_
        · exact HC1.out wd hHeld
        rintro _ w2 hw2 rfl
        simp only [Act.put, List.setIfInBounds_toArray, List.set_cons_zero, List.set_cons_succ]
        refine go_take 7 49 _ (.string ⟨a2.toArray⟩) rfl (by kernel_rfl) (by kernel_rfl) (by kernel_rfl) (by kernel_rfl) (fun _ _ _ h => h) (Or.inl ⟨by kernel_rfl, fun u hu => cq_add q2 (.tmp 43) (.tmp 48) (by kernel_rfl) (by kernel_rfl) (by kernel_rfl)⟩) hw2 ?_
        simp only [Act.put, List.setIfInBounds_toArray, List.set_cons_zero, List.set_cons_succ]
        refine go_take 8 50 _ (.string ⟨a3.toArray⟩) rfl (by kernel_rfl) (by kernel_rfl) (by kernel_rfl) (by kernel_rfl) (fun _ _ _ h => h) (Or.inl ⟨by kernel_rfl, fun u hu => cq_add q3 (.tmp 49) (.const (.string ⟨#[32, 43]⟩)) (by kernel_rfl) (by kernel_rfl) (by kernel_rfl)⟩) hw2 ?_
        simp only [Act.put, List.setIfInBounds_toArray, List.set_cons_zero, List.set_cons_succ]
        refine go_callE 13 55 _ rfl (by kernel_rfl) (by kernel_rfl) (by kernel_rfl) 16 (.func 16) #[.tmp 52, .tmp 54] #[3, 3] (by kernel_rfl) #[] (by kernel_rfl) #[.int .i64 Bn, .int .i64 BN] (by kernel_rfl) (enters_of Tryd.func16 (by kernel_rfl) rfl) (fun v2 _ => v2 = .string ⟨T2.toArray⟩) ?_ ?_
        · exact HC3.out w2 hw2
        rintro _ w3 hw3 rfl
        simp only [Act.put, List.setIfInBounds_toArray, List.set_cons_zero, List.set_cons_succ]
        refine go_take 14 56 _ (.string ⟨a4.toArray⟩) rfl (by kernel_rfl) (by kernel_rfl) (by kernel_rfl) (by kernel_rfl) (fun _ _ _ h => h) (Or.inl ⟨by kernel_rfl, fun u hu => cq_add q4 (.tmp 50) (.tmp 55) (by kernel_rfl) (by kernel_rfl) (by kernel_rfl)⟩) hw3 ?_
        simp only [Act.put, List.setIfInBounds_toArray, List.set_cons_zero, List.set_cons_succ]
        refine go_take 15 57 _ (.string ⟨a5.toArray⟩) rfl (by kernel_rfl) (by kernel_rfl) (by kernel_rfl) (by kernel_rfl) (fun _ _ _ h => h) (Or.inl ⟨by kernel_rfl, fun u hu => cq_add q5 (.tmp 56) (.const (.string ⟨#[32, 64, 64, 10]⟩)) (by kernel_rfl) (by kernel_rfl) (by kernel_rfl)⟩) hw3 ?_
        simp only [Act.put, List.setIfInBounds_toArray, List.set_cons_zero, List.set_cons_succ]
        refine go_take 16 5 _ (.string ⟨a5.toArray⟩) rfl (by kernel_rfl) (by kernel_rfl) (by kernel_rfl) (by kernel_rfl) (fun _ _ _ h => h) (Or.inl ⟨by kernel_rfl, fun u hu => by kernel_rfl⟩) hw3 ?_
        simp only [Act.put, List.setIfInBounds_toArray, List.set_cons_zero, List.set_cons_succ]
        refine wpAnyH_done (by kernel_rfl) ?_ _
        refine NoPanic.normal ?_
        have hHx3 := hHx.low hw3
        have hmm3 := hmm.keep hw3 (Nat.le_refl _)
        have hBm3 := hBm.trans (hw3.mono hBm.size)
        clear q1 q2 q3 q4 q5 HC1 HC3 hHeld hw2 hHx hmm hBm hw3
        go_wp2
        go_loopw [5, 8] (fun s iv wz => ∃ (j : Nat) (al : List UInt8), j ≤ ls.length ∧ iv = .int .i64 j ∧ s = .string ⟨al.toArray⟩ ∧ Below w3.heap.size w3 wz ∧ Hid (al ++ ((ls.drop j).flatMap umL).flatten = a9)) (fun _ iv _ => ls.length - (intOf iv).toNat)
        case atStart => exact ⟨0, a5, Nat.zero_le _, by go_num, rfl, Below.refl _ _, HI5⟩
        case round =>
        clear HI5
        obtain ⟨j, al, hj, rfl, rfl, hB2, HJ⟩ := hrel
        obtain ⟨_, _, _, _, d4⟩ := (hHx3.low hB2).cells
        by_cases hlt2 : j < ls.length
        · obtain ⟨bk2, off2, rfl, hbk2, _⟩ := HMk.at hmm3 (by omega)
          obtain ⟨m, hm⟩ : ∃ m, ls[j] = m := ⟨_, rfl⟩
          obtain ⟨m0, m1⟩ := Low.mk hB2 hmm3 j hlt2 hm
          have htx0 := x2 m (by rw [← hm]; exact List.getElem_mem hlt2)
          have hs0 := sgn_cases (HSG.out m (by rw [← hm]; exact List.getElem_mem hlt2))
          have hJ := HJ.out
          rw [List.drop_eq_getElem_cons hlt2, hm, List.flatMap_cons, List.flatten_append, ← List.append_assoc] at hJ
          obtain ⟨sg, tx⟩ := m
          dsimp only at m0 m1 htx0 hs0
          have s0 : 0 ≤ sg := by omega
          have s1 : sg < 256 := by omega
          have htx : tx.length ≤ 2305843009213693952 := by omega
          obtain ⟨L1, hL1⟩ : ∃ Y, (lnL [UInt8.ofNat sg.toNat] tx).flatten = Y := ⟨_, rfl⟩
          obtain ⟨al2, hal⟩ : ∃ Y, al ++ L1 = Y := ⟨_, rfl⟩
          have HJ2 : Hid (al2 ++ ((ls.drop (j + 1)).flatMap umL).flatten = a9) := (by
            show _ = _
            rw [← hJ, ← hal, ← hL1]
            rfl)
          have hll := congrArg List.length HJ2.out
          have hl2 := congrArg List.length hal
          simp only [List.length_append] at hll hl2
          have qq := add_fits (x := al) (y := L1) (by unfold Fits; omega) Tryd.prog
          rw [hal] at qq
          have j1 : (0 : Int) ≤ (j : Int) := by omega
          have j2 : (j : Int) < (ls.length : Int) := by omega
          clear hm hJ hal hll hl2 htx0 hs0 HJ
          generalize wr = wr2 at hB2 m0 m1 d4 ⊢
          go_upto_region 13 with fail
          refine wp_region_noPanic ?_
          refine wp_region_held_drew (S := fun u => Below wr2.heap.size wr2 u) (by kernel_rfl) ((Below.refl _ wr2).drew) (fun hHeld => ?_)
          generalize wr2.drew = wd at hHeld ⊢
          refine go_take 0 65 _ (.string ⟨al.toArray⟩) rfl (by kernel_rfl) (by kernel_rfl) (by kernel_rfl) (by kernel_rfl) (fun _ _ _ h => h) (Or.inl ⟨by kernel_rfl, fun u hu => by kernel_rfl⟩) hHeld ?_
          simp only [Act.put, List.setIfInBounds_toArray, List.set_cons_zero, List.set_cons_succ]
          refine go_take 1 66 _ (.pointer (some ⟨Mh, 4, none⟩)) rfl (by kernel_rfl) (by kernel_rfl) (by kernel_rfl) (by kernel_rfl) (fun _ _ _ h => h) (Or.inl ⟨by kernel_rfl, fun u hu => by kernel_rfl⟩) hHeld ?_
          simp only [Act.put, List.setIfInBounds_toArray, List.set_cons_zero, List.set_cons_succ]
          refine go_take 2 67 _ (.slice (some ⟨bk2, off2, none⟩) ls.length yc) rfl (by kernel_rfl) (by kernel_rfl) (by kernel_rfl) (by kernel_rfl) (fun _ _ _ h => h) (Or.inl ⟨by kernel_rfl, fun u hu => cq_mks (hcell_keep hu d4) (.tmp 66) (by kernel_rfl) (by kernel_rfl)⟩) hHeld ?_
          simp only [Act.put, List.setIfInBounds_toArray, List.set_cons_zero, List.set_cons_succ]
          refine go_take 3 68 _ (.int .i64 (j : Int)) rfl (by kernel_rfl) (by kernel_rfl) (by kernel_rfl) (by kernel_rfl) (fun _ _ _ h => h) (Or.inl ⟨by kernel_rfl, fun u hu => by kernel_rfl⟩) hHeld ?_
          simp only [Act.put, List.setIfInBounds_toArray, List.set_cons_zero, List.set_cons_succ]
          refine go_take 4 69 _ (.pointer (some ⟨bk2, off2 + j * 2, none⟩)) rfl (by kernel_rfl) (by kernel_rfl) (by kernel_rfl) (by kernel_rfl) (fun _ _ _ h => h) (Or.inl ⟨by kernel_rfl, fun u hu => cq_ix (c := yc) hlt2 (.tmp 67) (.tmp 68) (by kernel_rfl) (by kernel_rfl) (by kernel_rfl)⟩) hHeld ?_
          simp only [Act.put, List.setIfInBounds_toArray, List.set_cons_zero, List.set_cons_succ]
          refine go_take 5 70 _ (.pointer (some ⟨bk2, off2 + j * 2, none⟩)) rfl (by kernel_rfl) (by kernel_rfl) (by kernel_rfl) (by kernel_rfl) (fun _ _ _ h => h) (Or.inl ⟨by kernel_rfl, fun u hu => by kernel_rfl⟩) hHeld ?_
          simp only [Act.put, List.setIfInBounds_toArray, List.set_cons_zero, List.set_cons_succ]
          refine go_take 6 71 _ (.int .u8 sg) rfl (by kernel_rfl) (by kernel_rfl) (by kernel_rfl) (by kernel_rfl) (fun _ _ _ h => h) (Or.inl ⟨by kernel_rfl, fun u hu => cw_u8 (hcell_keep hu m0) (.tmp 70) (by kernel_rfl) (by kernel_rfl)⟩) hHeld ?_
          simp only [Act.put, List.setIfInBounds_toArray, List.set_cons_zero, List.set_cons_succ]
          refine go_take 9 74 _ (.pointer (some ⟨Mh, 4, none⟩)) rfl (by kernel_rfl) (by kernel_rfl) (by kernel_rfl) (by kernel_rfl) (fun _ _ _ h => h) (Or.inl ⟨by kernel_rfl, fun u hu => by kernel_rfl⟩) hHeld ?_
          simp only [Act.put, List.setIfInBounds_toArray, List.set_cons_zero, List.set_cons_succ]
          refine go_take 10 75 _ (.slice (some ⟨bk2, off2, none⟩) ls.length yc) rfl (by kernel_rfl) (by kernel_rfl) (by kernel_rfl) (by kernel_rfl) (fun _ _ _ h => h) (Or.inl ⟨by kernel_rfl, fun u hu => cq_mks (hcell_keep hu d4) (.tmp 74) (by kernel_rfl) (by kernel_rfl)⟩) hHeld ?_
          simp only [Act.put, List.setIfInBounds_toArray, List.set_cons_zero, List.set_cons_succ]
          refine go_take 11 76 _ (.int .i64 (j : Int)) rfl (by kernel_rfl) (by kernel_rfl) (by kernel_rfl) (by kernel_rfl) (fun _ _ _ h => h) (Or.inl ⟨by kernel_rfl, fun u hu => by kernel_rfl⟩) hHeld ?_
          simp only [Act.put, List.setIfInBounds_toArray, List.set_cons_zero, List.set_cons_succ]
          refine go_take 12 77 _ (.pointer (some ⟨bk2, off2 + j * 2, none⟩)) rfl (by kernel_rfl) (by kernel_rfl) (by kernel_rfl) (by kernel_rfl) (fun _ _ _ h => h) (Or.inl ⟨by kernel_rfl, fun u hu => cq_ix (c := yc) hlt2 (.tmp 75) (.tmp 76) (by kernel_rfl) (by kernel_rfl) (by kernel_rfl)⟩) hHeld ?_
          simp only [Act.put, List.setIfInBounds_toArray, List.set_cons_zero, List.set_cons_succ]
          refine go_take 13 78 _ (.pointer (some ⟨bk2, off2 + j * 2 + 1, none⟩)) rfl (by kernel_rfl) (by kernel_rfl) (by kernel_rfl) (by kernel_rfl) (fun _ _ _ h => h) (Or.inl ⟨by kernel_rfl, fun u hu => by kernel_rfl⟩) hHeld ?_
          simp only [Act.put, List.setIfInBounds_toArray, List.set_cons_zero, List.set_cons_succ]
          refine go_take 14 79 _ (.string ⟨tx.toArray⟩) rfl (by kernel_rfl) (by kernel_rfl) (by kernel_rfl) (by kernel_rfl) (fun _ _ _ h => h) (Or.inl ⟨by kernel_rfl, fun u hu => cw_str (hcell_keep hu m1) (.tmp 78) (by kernel_rfl) (by kernel_rfl)⟩) hHeld ?_
          simp only [Act.put, List.setIfInBounds_toArray, List.set_cons_zero, List.set_cons_succ]
          have hwb : Below wr2.heap.size wr2 (wd.alloc (.cells #[.int .u8 sg] 5)) := hHeld.alloc hHeld.size _
          refine go_val 7 72 _ rfl (by kernel_rfl) (by kernel_rfl) (by kernel_rfl) (.slice (some ⟨wd.heap.size, 0, none⟩) 1 1) (wd.alloc (.cells #[.int .u8 sg] 5)) (by kernel_rfl) (hwb) ?_
          simp only [Act.put, List.setIfInBounds_toArray, List.set_cons_zero, List.set_cons_succ]
          refine go_val 8 73 _ rfl (by kernel_rfl) (by kernel_rfl) (by kernel_rfl) (.string ⟨#[UInt8.ofNat sg.toNat]⟩) (wd.alloc (.cells #[.int .u8 sg] 5)) (cq_conv s0 s1 (.tmp 72) (by kernel_rfl) (by kernel_rfl)) (hwb) ?_
          simp only [Act.put, List.setIfInBounds_toArray, List.set_cons_zero, List.set_cons_succ]
          refine go_callE 15 80 _ rfl (by kernel_rfl) (by kernel_rfl) (by kernel_rfl) 17 (.func 17) #[.tmp 73, .tmp 79] #[9, 9] (by kernel_rfl) #[] (by kernel_rfl) #[.string ⟨#[UInt8.ofNat sg.toNat]⟩, .string ⟨tx.toArray⟩] (by kernel_rfl) (enters_of Tryd.func17 (by kernel_rfl) rfl) (fun v2 _ => v2 = .string ⟨L1.toArray⟩) ?_ ?_
          · refine (rLine_f [UInt8.ofNat sg.toNat] tx _ (by simp) htx).mono ?_
            rintro e w5 ⟨rfl, rfl⟩
            exact ⟨_, rfl, hwb, by rw [hL1]⟩
          rintro _ w5 hw5 rfl
          simp only [Act.put, List.setIfInBounds_toArray, List.set_cons_zero, List.set_cons_succ]
          refine go_take 16 81 _ (.string ⟨al2.toArray⟩) rfl (by kernel_rfl) (by kernel_rfl) (by kernel_rfl) (by kernel_rfl) (fun _ _ _ h => h) (Or.inl ⟨by kernel_rfl, fun u hu => cq_add qq (.tmp 65) (.tmp 80) (by kernel_rfl) (by kernel_rfl) (by kernel_rfl)⟩) hw5 ?_
          simp only [Act.put, List.setIfInBounds_toArray, List.set_cons_zero, List.set_cons_succ]
          refine go_take 17 5 _ (.string ⟨al2.toArray⟩) rfl (by kernel_rfl) (by kernel_rfl) (by kernel_rfl) (by kernel_rfl) (fun _ _ _ h => h) (Or.inl ⟨by kernel_rfl, fun u hu => by kernel_rfl⟩) hw5 ?_
          simp only [Act.put, List.setIfInBounds_toArray, List.set_cons_zero, List.set_cons_succ]
          refine wpAnyH_done (by kernel_rfl) ?_ _
          refine NoPanic.normal ?_
          have hB5 := hB2.trans (hw5.mono hB2.size)
          clear qq hHeld hwb hw5 m0 m1 d4 hL1
          go_wp2
          exact ⟨⟨j + 1, al2, by omega, by go_num, rfl, hB5, HJ2⟩, by simp [intOf]; omega⟩
        · have hend2 : ¬ (j : Int) < (ls.length : Int) := by omega
          have hE2 : al = a9 := (by
            have h := HJ.out
            rw [List.drop_of_length_le (by omega)] at h
            simpa using h)
          subst hE2
          clear HJ
          go_wp2
          exact ⟨⟨k + 1, al, by omega, by go_num, rfl, hBm3.trans (hB2.mono hBm3.size), HI3⟩, by simp [intOf]; omega⟩
      · have hend : ¬ (k : Int) < (q.length : Int) := by omega
        have hE : ac = Z := (by
          have h := HI.out
          rw [List.drop_of_length_le (by rw [List.length_map]; omega)] at h
          simpa using h)
        subst hE
        clear HI
        go_wp2
        go_ret2
        exact ⟨rfl, hBw1.trans (hB.mono hBw1.size)⟩
  · rw [if_neg hr0] at hZZ
    have HE : Hid ([] = Z) := hZZ
    have e1 : (r != 0) = true := bne_iff_ne.2 hr0
    clear hZZ HZ HO hr0
    go_enter Tryd.func6, Tryd.ntmps6
    go_wp2_with fail
    refine hc.mono ?_
    rintro e w1 ⟨rfl, hB1⟩
    go_wp2
    go_ret2
    exact ⟨by rw [← HE.out]; rfl, hBm.trans (hB1.mono hBm.size)⟩
end Go.Proofs.YtgcccpmcbjfaaaaDoor

/- The reference's Print of layer 15, walked. -/
namespace Go.Proofs.YtgcccpmcbjfaaaaDoor
open Go.RowKit

theorem cw_add {x y z : List UInt8} (h : ∀ u : World, (Op.stringOp .add ⟨x.toArray⟩ ⟨y.toArray⟩).run Tryd.prog u = .ok (.string ⟨z.toArray⟩) u) {u : World} {op : Oper} (a b : Operand) (ho : op.op = .binOp .add 9 a b 9) {ev : Operand → Value} (ha : ev a = .string ⟨x.toArray⟩) (hb : ev b = .string ⟨y.toArray⟩) :
    (execOp ev op).run Tryd.prog u = .ok (.value (.string ⟨z.toArray⟩)) u := by
  simp only [execOp, ho, ha, hb]
  go_simp
theorem cw_hk {u : World} {M : Nat} {A AN Bn BN : Int} {ls : List Mk} {o : Option Addr} {n c : Nat} (q : Hx u M ⟨A, AN, Bn, BN, ls⟩ (.slice o n c)) {op : Oper} (x : Operand) (ho : op.op = .load 44 x) {ev : Operand → Value} (hx : ev x = .pointer (some ⟨M, 0, none⟩)) :
    (execOp ev op).run Tryd.prog u = .ok (.value (.agg #[.int .i64 A, .int .i64 AN, .int .i64 Bn, .int .i64 BN, .slice o n c])) u := by
  obtain ⟨d0, d1, d2, d3, d4⟩ := q.cells
  simp only [execOp, ho, hx]
  go_simp
end Go.Proofs.YtgcccpmcbjfaaaaDoor

/- The reference's Same of layer 11, walked for any two hunks. -/
namespace Go.Proofs.YtgcccpmcbjfaaaaDoor
open Go.RowKit

/-- rows of hunks that are few enough -/
def HOw (p : List (Hk × Value)) : Prop := p.length ≤ 1099511627776 ∧ ∀ x ∈ p, x.1.ls.length ≤ 1099511627776
theorem hksC_few (l : List Hk) : l.length ≤ hksC l ∧ ∀ x ∈ l, x.ls.length ≤ hksC l := by
  induction l with
  | nil => exact ⟨Nat.le_refl _, fun x hx => by cases hx⟩
  | cons h l ih =>
    simp only [hksC, hkC1, List.length_cons]
    refine ⟨by omega, fun x hx => ?_⟩
    rcases List.mem_cons.1 hx with rfl | hx
    · omega
    · have := ih.2 x hx
      omega
theorem prs_few {t : List UInt8} {l : List Hk} (h : prsT t = .ok l) : l.length ≤ t.length ∧ ∀ x ∈ l, x.ls.length ≤ t.length := by
  have h1 := prs_count h
  have h2 := Ln.split_len t
  obtain ⟨h3, h4⟩ := hksC_few l
  exact ⟨by omega, fun x hx => by have := h4 x hx; omega⟩
theorem how_of {t : List UInt8} {p : List (Hk × Value)} (h : prsT t = .ok (p.map (·.1))) (ht : t.length ≤ 1099511627776) : HOw p := by
  obtain ⟨h1, h2⟩ := prs_few h
  rw [List.length_map] at h1
  exact ⟨by omega, fun x hx => by have := h2 x.1 (List.mem_map_of_mem hx); omega⟩
/-- what is read ends with a line feed -/
theorem take_feed {t : List UInt8} {l : List Hk} {j : Nat} (hj : j < t.length) (h : prsT (t.take (j + 1)) = .ok l) : t[j] = 10 := by
  rcases prs_feed h with h | h
  · have h1 := congrArg List.length h
    rw [List.length_take, List.length_nil, Nat.min_eq_left (by omega)] at h1
    omega
  · unfold fdB at h
    rw [beq_iff_eq, List.getLast?_eq_getElem?, List.length_take, Nat.min_eq_left (by omega), List.getElem?_take] at h
    simp at h
    obtain ⟨_, h⟩ := List.getElem?_eq_some_iff.1 h
    exact h
theorem hk_ext {A1 N1 B1 M1 A2 N2 B2 M2 : Int} {l1 l2 : List Mk} : (⟨A1, N1, B1, M1, l1⟩ : Hk) = ⟨A2, N2, B2, M2, l2⟩ ↔ A1 = A2 ∧ N1 = N2 ∧ B1 = B2 ∧ M1 = M2 ∧ l1 = l2 := by
  constructor
  · rintro h
    cases h
    exact ⟨rfl, rfl, rfl, rfl, rfl⟩
  · rintro ⟨rfl, rfl, rfl, rfl, rfl⟩
    rfl
set_option maxHeartbeats 8000000 in
theorem rSameG_f (h1 h2 : Hk) (v1 v2 : Value) (w : World) (hv1 : HMk w v1 h1.ls) (hv2 : HMk w v2 h2.ls) (hl1 : h1.ls.length ≤ 1099511627776) (r : Bool) (HR : Hid (r = true ↔ h1 = h2)) : Calls Tryd.prog 47 #[hkV h1 v1, hkV h2 v2] w fun e w' => e = .returned (.bool r) ∧ Below w.heap.size w w' := by
  obtain ⟨A1, N1, B1, M1, l1⟩ := h1
  obtain ⟨A2, N2, B2, M2, l2⟩ := h2
  dsimp only at hv1 hv2 hl1
  obtain ⟨o1, c1, rfl⟩ := HMk.form hv1
  obtain ⟨o2, c2, rfl⟩ := HMk.form hv2
  have hx1 := Hx.new w ⟨A1, N1, B1, M1, l1⟩ (.slice o1 l1.length c1)
  have hB1 : Below w.heap.size w (w.alloc (hkO ⟨A1, N1, B1, M1, l1⟩ (.slice o1 l1.length c1))) := (Below.refl _ w).alloc (Nat.le_refl _) _
  have hx2 : Hx ((w.alloc (hkO ⟨A1, N1, B1, M1, l1⟩ (.slice o1 l1.length c1))).alloc (hkO ⟨A2, N2, B2, M2, l2⟩ (.slice o2 l2.length c2))) (w.heap.size + 1) ⟨A2, N2, B2, M2, l2⟩ (.slice o2 l2.length c2) := alloc_second w _ _
  have hB2 : Below w.heap.size w ((w.alloc (hkO ⟨A1, N1, B1, M1, l1⟩ (.slice o1 l1.length c1))).alloc (hkO ⟨A2, N2, B2, M2, l2⟩ (.slice o2 l2.length c2))) := hB1.alloc (by simp) _
  have hx1' := hx1.low ((Below.refl _ (w.alloc (hkO ⟨A1, N1, B1, M1, l1⟩ (.slice o1 l1.length c1)))).alloc (Nat.le_refl _) (hkO ⟨A2, N2, B2, M2, l2⟩ (.slice o2 l2.length c2)))
  have hm1 := HMk.keep hv1 hB2 (Nat.le_refl _)
  have hm2 := HMk.keep hv2 hB2 (Nat.le_refl _)
  obtain ⟨x0, x1, x2, x3, x4⟩ := hx1'.cells
  obtain ⟨y0, y1, y2, y3, y4⟩ := hx2.cells
  unfold hkV
  dsimp only at x0 x1 x2 x3 x4 y0 y1 y2 y3 y4 ⊢
  have hW0 : (w.alloc (hkO ⟨A1, N1, B1, M1, l1⟩ (.slice o1 l1.length c1))).alloc (hkO ⟨A2, N2, B2, M2, l2⟩ (.slice o2 l2.length c2)) = (w.alloc (Obj.cells #[Value.int IntKind.i64 A1, Value.int IntKind.i64 N1, Value.int IntKind.i64 B1, Value.int IntKind.i64 M1, .slice o1 l1.length c1] 44)).alloc (Obj.cells #[Value.int IntKind.i64 A2, Value.int IntKind.i64 N2, Value.int IntKind.i64 B2, Value.int IntKind.i64 M2, .slice o2 l2.length c2] 44) := rfl
  clear hx1 hx2 hx1' hB1 hv1 hv2
  generalize (w.alloc (hkO ⟨A1, N1, B1, M1, l1⟩ (.slice o1 l1.length c1))).alloc (hkO ⟨A2, N2, B2, M2, l2⟩ (.slice o2 l2.length c2)) = W at *
  have hW := hW0.symm
  clear hW0
  have HN : Hid (¬ (A1 = A2 ∧ N1 = N2 ∧ B1 = B2 ∧ M1 = M2 ∧ l1.length = l2.length) → r = false) := (by
    intro h
    cases hr : r with
    | false => rfl
    | true => exact absurd (hk_ext.1 (HR.out.1 hr)) (fun e => h ⟨e.1, e.2.1, e.2.2.1, e.2.2.2.1, congrArg List.length e.2.2.2.2⟩))
  have HR2 : Hid (A1 = A2 ∧ N1 = N2 ∧ B1 = B2 ∧ M1 = M2 → (r = true ↔ l1 = l2)) := (by
    rintro ⟨rfl, rfl, rfl, rfl⟩
    rw [HR.out, hk_ext]
    simp)
  clear HR
  go_enter Tryd.func47, Tryd.ntmps47
  by_cases hA : A1 = A2
  · by_cases hN : N1 = N2
    · by_cases hB : B1 = B2
      · by_cases hM : M1 = M2
        · have HR3 : Hid (r = true ↔ l1 = l2) := HR2.out ⟨hA, hN, hB, hM⟩
          clear HR2
          subst hA hN hB hM
          by_cases hL : l1.length = l2.length
          · rw [← hL] at y4 hm2 hW ⊢
            have HL : Hid (l1.length = l2.length) := hL
            clear hL HN
            go_wp2
            clear hW
            go_loopw [5] (fun iv wr => ∃ k m : Nat, k ≤ l1.length ∧ iv = .int .i64 (k : Int) ∧ wr = W.drewN m ∧ Hid (r = true ↔ l1.drop k = l2.drop k)) (fun iv _ => l1.length - (intOf iv).toNat)
            case atStart => exact ⟨0, 0, Nat.zero_le _, by go_num, rfl, HR3⟩
            case round =>
              clear HR3
              obtain ⟨k, m, hk, rfl, rfl, HD⟩ := hrel
              have x4' : (W.drewN m).cell? ⟨w.heap.size, 4, none⟩ = some (.slice o1 l1.length c1) := x4
              have y4' : (W.drewN m).cell? ⟨w.heap.size + 1, 4, none⟩ = some (.slice o2 l1.length c2) := y4
              by_cases hlt : k < l1.length
              · have hlt2 : k < l2.length := by have := HL.out; omega
                obtain ⟨b1, f1, rfl, _, hc1⟩ := HMk.at hm1 (by omega)
                obtain ⟨b2, f2, rfl, _, hc2⟩ := HMk.at hm2 (by omega)
                obtain ⟨s0, s1⟩ := hc1 k hlt
                obtain ⟨t0, t1⟩ := hc2 k hlt2
                have hD := HD.out
                rw [List.drop_eq_getElem_cons hlt, List.drop_eq_getElem_cons hlt2, List.cons.injEq] at hD
                obtain ⟨q, hq⟩ : ∃ q, l1[k] = q := ⟨_, rfl⟩
                obtain ⟨p, hp⟩ : ∃ p, l2[k] = p := ⟨_, rfl⟩
                rw [hq] at s0 s1 hD
                rw [hp] at t0 t1 hD
                obtain ⟨sg, tx⟩ := q
                obtain ⟨sg2, tx2⟩ := p
                dsimp only at s0 s1 t0 t1
                have HD2 : Hid (r = true ↔ (⟨sg, tx⟩ : Mk) = ⟨sg2, tx2⟩ ∧ l1.drop (k + 1) = l2.drop (k + 1)) := hD
                clear hc1 hc2 hq hp hD HD
                have i1 : 0 ≤ (k : Int) := by omega
                have i2 : (k : Int) < (l1.length : Int) := by omega
                by_cases hs : sg = sg2
                · subst hs
                  by_cases ht : tx = tx2
                  · subst ht
                    have HD3 : Hid (r = true ↔ l1.drop (k + 1) = l2.drop (k + 1)) := (by show _ ↔ _; rw [HD2.out]; simp)
                    clear HD2
                    go_wp2_with fail
                    go_quiet (fail)
                    go_wp2
                    go_roundw
                    case rel => exact ⟨k + 1, _, by omega, by go_num, rfl, HD3⟩
                    case measure => simp [intOf]; omega
                  · have r0 : r = false := (by
                      cases hr : r with
                      | false => rfl
                      | true => exact absurd (HD2.out.1 hr).1 (fun e => ht (by cases e; rfl)))
                    subst r0
                    have e2 : (tx == tx2) = false := beq_eq_false_iff_ne.2 ht
                    clear HD2
                    go_wp2_with fail
                    go_quiet (fail)
                    go_wp2
                    go_ret
                    exact ⟨rfl, Below.dN (Below.dN hB2 _) _⟩
                · have r0 : r = false := (by
                    cases hr : r with
                    | false => rfl
                    | true => exact absurd (HD2.out.1 hr).1 (fun e => hs (by cases e; rfl)))
                  subst r0
                  have e1 : (sg == sg2) = false := beq_eq_false_iff_ne.2 hs
                  clear HD2
                  go_wp2_with fail
                  go_quiet (fail)
                  go_wp2
                  go_ret
                  exact ⟨rfl, Below.dN (Below.dN hB2 _) _⟩
              · have hend : decide ((k : Int) < (l1.length : Int)) = false := decide_eq_false (by omega)
                have r1 : r = true := HD.out.2 (by rw [List.drop_eq_nil_of_le (by omega), List.drop_eq_nil_of_le (by have := HL.out; omega)])
                subst r1
                go_wp2
                go_ret
                exact ⟨rfl, Below.dN hB2 _⟩
          · have r0 := HN.out (fun e => hL e.2.2.2.2)
            subst r0
            have e5 : ((l1.length : Int) == (l2.length : Int)) = false := beq_eq_false_iff_ne.2 (by omega)
            go_wp2
            go_ret
            exact ⟨rfl, hB2⟩
        · have r0 := HN.out (fun e => hM e.2.2.2.1)
          subst hA hN hB r0
          have e4 : (M1 == M2) = false := beq_eq_false_iff_ne.2 hM
          go_wp2
          go_ret
          exact ⟨rfl, hB2⟩
      · have r0 := HN.out (fun e => hB e.2.2.1)
        subst hA hN r0
        have e3 : (B1 == B2) = false := beq_eq_false_iff_ne.2 hB
        go_wp2
        go_ret
        exact ⟨rfl, hB2⟩
    · have r0 := HN.out (fun e => hN e.2.1)
      subst hA r0
      have e2 : (N1 == N2) = false := beq_eq_false_iff_ne.2 hN
      go_wp2
      go_ret
      exact ⟨rfl, hB2⟩
  · have r0 := HN.out (fun e => hA e.1)
    subst r0
    have e1 : (A1 == A2) = false := beq_eq_false_iff_ne.2 hA
    go_wp2
    go_ret
    exact ⟨rfl, hB2⟩
theorem hsameG_held {h1 h2 : Hk} {v1 v2 : Value} {W u : World} {r : Bool} (hv1 : HMk W v1 h1.ls) (hv2 : HMk W v2 h2.ls) (hl : h1.ls.length ≤ 1099511627776) (HR : Hid (r = true ↔ h1 = h2)) (hL : Low W u) : Calls Tryd.prog 47 (#[hkV h1 v1, hkV h2 v2] ++ #[]) u fun e w' => ∃ x, e = .returned x ∧ Low W w' ∧ x = .bool r := by
  refine (rSameG_f h1 h2 v1 v2 u (HMk.keep hv1 hL (Nat.le_refl _)) (HMk.keep hv2 hL (Nat.le_refl _)) hl r HR).mono ?_
  rintro e w' ⟨rfl, hB⟩
  exact ⟨_, rfl, hL.trans (hB.mono hL.size), rfl⟩
set_option maxRecDepth 10000 in
set_option maxHeartbeats 4000000 in
theorem rSameHunksG_f (p1 p2 : List (Hk × Value)) (v1 v2 : Value) (w : World) (hv1 : HHp w v1 p1) (hv2 : HHp w v2 p2) (hok : HOw p1) (r : Bool) (HR : Hid (r = true ↔ p1.map (·.1) = p2.map (·.1))) : Calls Tryd.prog 30 #[v1, v2] w fun e w' => e = .returned (.bool r) ∧ Below w.heap.size w w' := by
  obtain ⟨o1, c1, rfl⟩ := Holds.form hv1.row
  obtain ⟨o2, c2, rfl⟩ := Holds.form hv2.row
  have hpl : p1.length ≤ 1099511627776 := hok.1
  have HOK : Hid (HOw p1) := hok
  clear hok
  by_cases hl12 : p2.length = p1.length
  · have HL : Hid (p2.length = p1.length) := hl12
    rw [hl12] at hv2 ⊢
    clear hl12
    go_enter Tryd.func30, Tryd.ntmps30
    go_wp2
    go_loopw [5] (fun iv wr => ∃ k : Nat, k ≤ p1.length ∧ iv = .int .i64 (k : Int) ∧ Below w.heap.size w wr ∧ Hid (r = true ↔ (p1.map (·.1)).drop k = (p2.map (·.1)).drop k)) (fun iv _ => p1.length - (intOf iv).toNat)
    case atStart => exact ⟨0, Nat.zero_le _, by go_num, Below.refl _ _, HR⟩
    case round =>
      clear HR
      obtain ⟨k, hk, rfl, hB, HD⟩ := hrel
      by_cases hlt : k < p1.length
      · obtain ⟨b1, f1, rfl, _, _⟩ := hv1.at (by omega)
        obtain ⟨b2, f2, rfl, _, _⟩ := hv2.at (by have := HL.out; omega)
        obtain ⟨x, y, hxy⟩ : ∃ x y, p1[k] = (x, y) := ⟨_, _, rfl⟩
        obtain ⟨x', z, hxz⟩ : ∃ x z, p2[k]'(by have := HL.out; omega) = (x, z) := ⟨_, _, rfl⟩
        have hD := HD.out
        have hlt2 : k < p2.length := (by have := HL.out; omega)
        rw [List.drop_eq_getElem_cons (show k < (p1.map (·.1)).length by simpa using hlt), List.drop_eq_getElem_cons (show k < (p2.map (·.1)).length by simpa using hlt2), List.cons.injEq, List.getElem_map, List.getElem_map, hxy, hxz] at hD
        dsimp only at hD
        obtain ⟨r2, HR2⟩ : ∃ r2 : Bool, Hid (r2 = true ↔ x = x') := (by
          rcases Classical.em (x = x') with h | h
          · exact ⟨true, ⟨fun _ => h, fun _ => rfl⟩⟩
          · exact ⟨false, ⟨fun e => absurd e (by simp), fun e => absurd e h⟩⟩)
        have HD2 : Hid (r = true ↔ x = x' ∧ (p1.map (·.1)).drop (k + 1) = (p2.map (·.1)).drop (k + 1)) := hD
        clear hD HD
        obtain ⟨r1, hm1⟩ := hv1.take hB k hlt hxy
        obtain ⟨r2, hm2⟩ := hv2.take hB k (by have := HL.out; omega) hxz
        have hbd := HOK.out.2 _ (List.getElem_mem hlt)
        rw [hxy] at hbd
        dsimp only at hbd
        obtain ⟨yo, yc, rfl⟩ := hm1.form
        obtain ⟨zo, zc, rfl⟩ := hm2.form
        have hr1 : ∀ u : World, Low wr u → HkAt u b1 (f1 + k * 5) x (.slice yo x.ls.length yc) := fun u hu => HkAt.low r1 hu
        have hr2 : ∀ u : World, Low wr u → HkAt u b2 (f2 + k * 5) x' (.slice zo x'.ls.length zc) := fun u hu => HkAt.low r2 hu
        have i1 : 0 ≤ (k : Int) := by omega
        have i2 : (k : Int) < (p1.length : Int) := by omega
        clear hxy hxz r1 r2
        go_wp2_with fail
        refine wp_region_noPanic ?_
        refine wp_region_held_drew (S := fun u => Low wr u) (by kernel_rfl) (Below.dN (Below.refl _ wr) 1) (fun hHeld => ?_)
        refine go_take 0 17 _ (.slice (some ⟨b1, f1, none⟩) p1.length c1) rfl (by kernel_rfl) (by kernel_rfl) (by kernel_rfl) (by kernel_rfl) (fun _ _ _ h => h) (Or.inl ⟨by kernel_rfl, fun u hu => by kernel_rfl⟩) hHeld ?_
        simp only [Act.put, List.setIfInBounds_toArray, List.set_cons_zero, List.set_cons_succ]
        refine go_take 1 18 _ (.int .i64 (k : Int)) rfl (by kernel_rfl) (by kernel_rfl) (by kernel_rfl) (by kernel_rfl) (fun _ _ _ h => h) (Or.inl ⟨by kernel_rfl, fun u hu => by kernel_rfl⟩) hHeld ?_
        simp only [Act.put, List.setIfInBounds_toArray, List.set_cons_zero, List.set_cons_succ]
        refine go_take 2 19 _ (.pointer (some ⟨b1, f1 + k * 5, none⟩)) rfl (by kernel_rfl) (by kernel_rfl) (by kernel_rfl) (by kernel_rfl) (fun _ _ _ h => h) (Or.inl ⟨by kernel_rfl, fun u hu => exec_ixH (c := c1) hlt (.tmp 17) (.tmp 18) (by kernel_rfl) (by kernel_rfl) (by kernel_rfl)⟩) hHeld ?_
        simp only [Act.put, List.setIfInBounds_toArray, List.set_cons_zero, List.set_cons_succ]
        refine go_take 3 20 _ (hkV x (.slice yo x.ls.length yc)) rfl (by kernel_rfl) (by kernel_rfl) (by kernel_rfl) (by kernel_rfl) (fun _ _ _ h => h) (Or.inl ⟨by kernel_rfl, fun u hu => load_hkR (hr1 u hu) (.tmp 19) (by kernel_rfl) (by kernel_rfl)⟩) hHeld ?_
        simp only [Act.put, List.setIfInBounds_toArray, List.set_cons_zero, List.set_cons_succ]
        refine go_take 4 21 _ (.slice (some ⟨b2, f2, none⟩) p1.length c2) rfl (by kernel_rfl) (by kernel_rfl) (by kernel_rfl) (by kernel_rfl) (fun _ _ _ h => h) (Or.inl ⟨by kernel_rfl, fun u hu => by kernel_rfl⟩) hHeld ?_
        simp only [Act.put, List.setIfInBounds_toArray, List.set_cons_zero, List.set_cons_succ]
        refine go_take 5 22 _ (.int .i64 (k : Int)) rfl (by kernel_rfl) (by kernel_rfl) (by kernel_rfl) (by kernel_rfl) (fun _ _ _ h => h) (Or.inl ⟨by kernel_rfl, fun u hu => by kernel_rfl⟩) hHeld ?_
        simp only [Act.put, List.setIfInBounds_toArray, List.set_cons_zero, List.set_cons_succ]
        refine go_take 6 23 _ (.pointer (some ⟨b2, f2 + k * 5, none⟩)) rfl (by kernel_rfl) (by kernel_rfl) (by kernel_rfl) (by kernel_rfl) (fun _ _ _ h => h) (Or.inl ⟨by kernel_rfl, fun u hu => exec_ixH (c := c2) hlt (.tmp 21) (.tmp 22) (by kernel_rfl) (by kernel_rfl) (by kernel_rfl)⟩) hHeld ?_
        simp only [Act.put, List.setIfInBounds_toArray, List.set_cons_zero, List.set_cons_succ]
        refine go_take 7 24 _ (hkV x' (.slice zo x'.ls.length zc)) rfl (by kernel_rfl) (by kernel_rfl) (by kernel_rfl) (by kernel_rfl) (fun _ _ _ h => h) (Or.inl ⟨by kernel_rfl, fun u hu => load_hkR (hr2 u hu) (.tmp 23) (by kernel_rfl) (by kernel_rfl)⟩) hHeld ?_
        simp only [Act.put, List.setIfInBounds_toArray, List.set_cons_zero, List.set_cons_succ]
        refine go_callE 8 25 _ rfl (by kernel_rfl) (by kernel_rfl) (by kernel_rfl) 47 (.func 47) #[.tmp 20, .tmp 24] #[44, 44] (by kernel_rfl) #[] (by kernel_rfl) #[hkV x (.slice yo x.ls.length yc), hkV x' (.slice zo x'.ls.length zc)] (by kernel_rfl) (enters_of Tryd.func47 (by kernel_rfl) rfl) _ (hsameG_held hm1 hm2 hbd HR2 hHeld) ?_
        rintro _ u8 hHeld rfl
        simp only [Act.put, List.setIfInBounds_toArray, List.set_cons_zero, List.set_cons_succ]
        refine go_take 9 26 _ (.bool (!r2)) rfl (by kernel_rfl) (by kernel_rfl) (by kernel_rfl) (by kernel_rfl) (fun _ _ _ h => h) (Or.inl ⟨by kernel_rfl, fun u hu => by kernel_rfl⟩) hHeld ?_
        simp only [Act.put, List.setIfInBounds_toArray, List.set_cons_zero, List.set_cons_succ]
        refine wpAnyH_done (by kernel_rfl) ?_ _
        refine NoPanic.normal ?_
        have hB2 := hB.trans (Below.mono hHeld hB.size)
        cases hr2 : r2 with
        | true =>
          have HD3 : Hid (r = true ↔ (p1.map (·.1)).drop (k + 1) = (p2.map (·.1)).drop (k + 1)) := (by show _ ↔ _; rw [HD2.out]; simp [HR2.out.1 hr2])
          clear HD2 HR2
          subst hr2
          go_wp2
          exact ⟨⟨k + 1, by omega, by go_num, hB2, HD3⟩, by simp [intOf]; omega⟩
        | false =>
          have r0 : r = false := (by
            cases hr : r with
            | false => rfl
            | true => exact absurd (HR2.out.2 (HD2.out.1 hr).1) (by simp [hr2]))
          clear HD2 HR2
          subst hr2 r0
          go_wp2
          go_ret
          exact ⟨rfl, hB2⟩
      · have hend : decide ((k : Int) < (p1.length : Int)) = false := decide_eq_false (by omega)
        have r1 : r = true := HD.out.2 (by rw [List.drop_eq_nil_of_le (by simp; omega), List.drop_eq_nil_of_le (by have := HL.out; simp; omega)])
        subst r1
        go_wp2
        go_ret
        exact ⟨rfl, hB⟩
  · have r0 : r = false := (by
      cases hr : r with
      | false => rfl
      | true => exact absurd (by have := congrArg List.length (HR.out.1 hr); simpa using this.symm) hl12)
    subst r0
    have e1 : ((p1.length : Int) == (p2.length : Int)) = false := beq_eq_false_iff_ne.2 (by omega)
    go_enter Tryd.func30, Tryd.ntmps30
    go_wp2
    go_ret
    exact ⟨rfl, Below.refl _ _⟩
end Go.Proofs.YtgcccpmcbjfaaaaDoor
