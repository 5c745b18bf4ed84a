/-
  Texts that belong together, joined: HuM4, HuM5, HuMk, HuCa.
-/
import Derived.Test.YthckcdpgjdbgcaaPartA4
import Derived.Test.YthckcdpgjdbgcaaPartA6
import Derived.Test.YthckcdpgjdbgcaaPartD1

/- Hunks that are made of two texts, further: in order, right, the script again, their kinds of lines; plain mathematics. -/
namespace Go.Proofs.Ythckcdpgjdbgcaa

theorem OneF.atA {a b : List (List UInt8)} {ctx : Int} {g : List Ch} {s t e : Int} (h : OneF a b ctx g s t e) : atA (oneH a b ctx g) = s := by
  unfold Go.Proofs.Ythckcdpgjdbgcaa.atA
  rw [h.AN, h.A]
  split <;> omega
theorem OneF.atB {a b : List (List UInt8)} {ctx : Int} {g : List Ch} {s t e : Int} (h : OneF a b ctx g s t e) : atB (oneH a b ctx g) = t := by
  unfold Go.Proofs.Ythckcdpgjdbgcaa.atB
  rw [h.BN, h.B]
  split <;> omega
/-- groups, one by one: what is known of the first, and where to go on -/
theorem gs_step {a b : List (List UInt8)} {ctx : Int} (hc : 0 ≤ ctx) {g : List Ch} {gs : List (List Ch)} {fl : Bool} {p q u v : Int} (h : Right fl p q a.length b.length (g :: gs).flatten) (hG : Hgs ctx (g :: gs)) (hp : 0 ≤ p) (hq : 0 ≤ q) (hu : p ≤ u) (huv : v - u = q - p) (hf : ∀ f, (g :: gs).flatten.head? = some f → u ≤ f.A - min ctx f.A) :
    ∃ f g', g = f :: g' ∧ ∃ e, OneF a b ctx g (f.A - min ctx f.A) (f.B - min ctx f.A) e ∧ u ≤ f.A - min ctx f.A ∧ f.A - f.B = u - v ∧ Right true (f.A - min ctx f.A) (f.B - min ctx f.A) a.length b.length (g ++ gs.flatten) ∧ (∀ r ∈ U (f.A - min ctx f.A) (f.B - min ctx f.A) a.length b.length (g ++ gs.flatten), r ∈ U p q a.length b.length (g :: gs).flatten) ∧ e ≤ (gs.flatten.head?.map (·.A)).getD (a.length : Int) ∧ e ≤ endA 0 g + ctx ∧
      Right false (endA 0 g) (endB 0 g) a.length b.length gs.flatten ∧ 0 ≤ endA 0 g ∧ 0 ≤ endB 0 g ∧ (∀ r ∈ U (endA 0 g) (endB 0 g) a.length b.length gs.flatten, r ∈ U p q a.length b.length (g :: gs).flatten) ∧ endA 0 g ≤ e ∧ ∀ d, gs.flatten.head? = some d → e ≤ d.A - min ctx d.A := by
  obtain ⟨h1, h2, h3⟩ := hG
  cases g with
  | nil => exact absurd rfl h1
  | cons f g =>
    have hf' := hf f rfl
    rw [List.flatten_cons] at h
    have hw : p ≤ f.A - min ctx f.A := by omega
    have hr : ∀ d, gs.flatten.head? = some d → endA 0 (f :: g) + ctx ≤ d.A := fun d hd => by have := h2 d hd; omega
    obtain ⟨k1, k2, k3, k4⟩ := one_facts hc h hp hq hw hr
    have hAB : f.A - p = f.B - q := h.1.2.1
    obtain ⟨r1, r2, r3, r4, r5⟩ := right_end (g := f :: g) (rest := gs.flatten) h
    have e0 : endA p (f :: g) = endA 0 (f :: g) := rfl
    have e1 : endB q (f :: g) = endB 0 (f :: g) := rfl
    rw [e0] at r1 r2 r4
    rw [e1] at r1 r3 r5
    have r1' : Right false (endA 0 (f :: g)) (endB 0 (f :: g)) a.length b.length gs.flatten := by
      rcases r1 with r1 | r1
      · exact r1
      · cases r1
    refine ⟨f, g, rfl, _, k1, hf', by omega, k2, ?_, k4, by omega, r1', by omega, by omega, ?_, k1.le, ?_⟩
    · rw [List.flatten_cons]; exact k3
    · intro r hr
      rw [List.flatten_cons]
      have : ∀ (x : List Ch) (p q : Int), r ∈ U (endA p x) (endB q x) a.length b.length gs.flatten → x ≠ [] ∨ (p = endA p x ∧ q = endB q x) → r ∈ U p q a.length b.length (x ++ gs.flatten) := by
        intro x
        induction x with
        | nil => intro p q h _; exact h
        | cons c x ih =>
          intro p q h _
          rw [List.cons_append, U_cons]
          refine List.mem_append_right _ (ih _ _ h ?_)
          cases x with
          | nil => exact .inr ⟨rfl, rfl⟩
          | cons => exact .inl (by simp)
      exact this (f :: g) p q hr (.inl (by simp))
    · intro d hd
      have := h2 d hd
      omega
/-- they are in order -/
theorem made_ord {a b : List (List UInt8)} {ctx : Int} (hc : 0 ≤ ctx) (gs : List (List Ch)) : ∀ (fl : Bool) (p q u v : Int), Right fl p q a.length b.length gs.flatten → Hgs ctx gs → 0 ≤ p → 0 ≤ q → p ≤ u → v - u = q - p → (∀ f, gs.flatten.head? = some f → u ≤ f.A - min ctx f.A) → ordB u v (gs.map (oneH a b ctx)) = true := by
  induction gs with
  | nil => intros; rfl
  | cons g gs ih =>
    intro fl p q u v h hG hp hq hu huv hf
    obtain ⟨f, g', rfl, e, h1, h2, h3, _, _, _, h4, h5, h6, h7, _, h8, h9⟩ := gs_step hc h hG hp hq hu huv hf
    simp only [List.map_cons, ordB]
    rw [h1.atA, h1.atB, h1.AN, h1.BN, decide_eq_true h2, decide_eq_true (by omega : f.A - min ctx f.A - u = f.B - min ctx f.A - v)]
    have := ih false _ _ (f.A - min ctx f.A + (e - (f.A - min ctx f.A))) (f.B - min ctx f.A + (endB 0 (f :: g') + (e - endA 0 (f :: g')) - (f.B - min ctx f.A))) h5 hG.2.2 h6 h7 (by omega) (by omega) (fun d hd => by have := h9 d hd; omega)
    rw [this]
    rfl

/-- lines that are kept, taken out, put in, as changes -/
theorem ch_same (x : List (List UInt8)) : ∀ (p q : Int) (r : List Ch) (t : List Mk), chLs p q r (mks 32 x ++ t) = chLs (p + x.length) (q + x.length) r t := by
  induction x with
  | nil => intro p q r t; simp [mks]
  | cons s x ih =>
    intro p q r t
    show chLs p q r (⟨32, s⟩ :: (mks 32 x ++ t)) = _
    simp only [chLs]
    rw [if_pos trivial, ih]
    congr 1 <;> simp <;> omega
theorem ch_out (x : List (List UInt8)) : ∀ (c : Ch) (p q : Int) (r : List Ch) (t : List Mk), c.A + c.AN = p → c.B + c.BN = q → chLs p q (c :: r) (mks 45 x ++ t) = chLs (p + x.length) q (⟨c.A, c.AN + x.length, c.B, c.BN⟩ :: r) t := by
  induction x with
  | nil => intro c p q r t _ _; simp [mks]
  | cons s x ih =>
    intro c p q r t h1 h2
    show chLs p q (c :: r) (⟨45, s⟩ :: (mks 45 x ++ t)) = _
    simp only [chLs]
    rw [if_neg (by decide), if_pos trivial]
    have : opn p q (c :: r) = c :: r := by simp [opn, endsAt, h1, h2]
    rw [this]
    simp only [bmA]
    rw [ih ⟨c.A, c.AN + 1, c.B, c.BN⟩ _ _ r t (by dsimp only; omega) h2]
    simp only [List.length_cons]
    congr 1
    · omega
    · congr 2; omega
theorem ch_in (x : List (List UInt8)) : ∀ (c : Ch) (p q : Int) (r : List Ch) (t : List Mk), c.A + c.AN = p → c.B + c.BN = q → chLs p q (c :: r) (mks 43 x ++ t) = chLs p (q + x.length) (⟨c.A, c.AN, c.B, c.BN + x.length⟩ :: r) t := by
  induction x with
  | nil => intro c p q r t _ _; simp [mks]
  | cons s x ih =>
    intro c p q r t h1 h2
    show chLs p q (c :: r) (⟨43, s⟩ :: (mks 43 x ++ t)) = _
    simp only [chLs]
    rw [if_neg (by decide), if_neg (by decide)]
    have : opn p q (c :: r) = c :: r := by simp [opn, endsAt, h1, h2]
    rw [this]
    simp only [bmB]
    rw [ih ⟨c.A, c.AN, c.B, c.BN + 1⟩ _ _ r t h1 (by dsimp only; omega)]
    simp only [List.length_cons]
    congr 1
    · omega
    · congr 2; omega
theorem ch_change (X Y : List (List UInt8)) (hne : X ≠ [] ∨ Y ≠ []) (p q : Int) (r : List Ch) (t : List Mk) (hr : endsAt p q r = false) : chLs p q r (mks 45 X ++ (mks 43 Y ++ t)) = chLs (p + X.length) (q + Y.length) (⟨p, X.length, q, Y.length⟩ :: r) t := by
  have hop : opn p q r = ⟨p, 0, q, 0⟩ :: r := by simp [opn, hr]
  cases X with
  | nil =>
    cases Y with
    | nil => simp at hne
    | cons s Y =>
      show chLs p q r (⟨43, s⟩ :: (mks 43 Y ++ t)) = _
      simp only [chLs]
      rw [if_neg (by decide), if_neg (by decide), hop]
      simp only [bmB]
      rw [ch_in Y ⟨p, 0, q, 0 + 1⟩ _ _ r t (by dsimp only; omega) (by dsimp only; omega)]
      simp only [List.length_cons, List.length_nil]
      congr 1
      · omega
      · omega
      · congr 2; omega
  | cons s X =>
    show chLs p q r (⟨45, s⟩ :: (mks 45 X ++ (mks 43 Y ++ t))) = _
    simp only [chLs]
    rw [if_neg (by decide), if_pos trivial, hop]
    simp only [bmA]
    rw [ch_out X ⟨p, 0 + 1, q, 0⟩ _ _ r _ (by dsimp only; omega) (by dsimp only; omega)]
    dsimp only
    rw [ch_in Y ⟨p, 0 + 1 + X.length, q, 0⟩ _ _ r t (by dsimp only; omega) (by dsimp only; omega)]
    simp only [List.length_cons]
    congr 1
    · omega
    · congr 2 <;> omega
theorem body_ch {a b : List (List UInt8)} {e : Int} {rest : List Ch} (g : List Ch) : ∀ (fl : Bool) (p q : Int) (r : List Ch), Right fl p q a.length b.length (g ++ rest) → 0 ≤ p → 0 ≤ q → (∀ c g', g = c :: g' → endsAt c.A c.B r = false) → chLs p q r (bodyH a b e p g) = g.reverse ++ r := by
  induction g with
  | nil =>
    intro fl p q r _ _ _ _
    have := ch_same (cut a p (e - p)) p q r []
    rw [List.append_nil] at this
    simp only [bodyH]
    rw [this]
    rfl
  | cons c g ih =>
    intro fl p q r h hp hq hr
    have hr' := hr c g rfl
    obtain ⟨⟨h1, h2, h3, h4⟩, h5⟩ := h
    have h1' := (numB_iff c).1 h1
    obtain ⟨_, e1, e2, e3, e4⟩ := right_end h5
    have x1 := hcut_length (A := a) (p := p) (k := c.A - p) hp (by omega) (by omega)
    have x2 := hcut_length (A := b) (p := c.B) (k := c.BN) (by omega) (by omega) (by omega)
    have x3 := hcut_length (A := a) (p := c.A) (k := c.AN) (by omega) (by omega) (by omega)
    simp only [bodyH]
    rw [ch_same, show p + ((cut a p (c.A - p)).length : Int) = c.A by omega, show q + ((cut a p (c.A - p)).length : Int) = c.B by omega, ch_change _ _ ?_ _ _ _ _ hr', x2, x3, ih false _ _ _ h5 (by omega) (by omega) ?_]
    · simp
    · intro d g' hd
      subst hd
      obtain ⟨⟨_, _, _, k4⟩, _⟩ := h5
      have k4' : c.A + c.AN < d.A := by simpa using k4
      simp [endsAt]
      omega
    · rcases (by omega : 0 < c.AN ∨ 0 < c.BN) with z | z
      · left
        intro hz
        rw [hz] at x3
        simp at x3
        omega
      · right
        intro hz
        rw [hz] at x2
        simp at x2
        omega
/-- they are the script again -/
theorem made_ch {a b : List (List UInt8)} {ctx : Int} (hc : 0 ≤ ctx) (gs : List (List Ch)) : ∀ (fl : Bool) (p q u v : Int) (r : List Ch), Right fl p q a.length b.length gs.flatten → Hgs ctx gs → 0 ≤ p → 0 ≤ q → p ≤ u → v - u = q - p → (∀ f, gs.flatten.head? = some f → u ≤ f.A - min ctx f.A) → (∀ f, gs.flatten.head? = some f → endsAt f.A f.B r = false) → chHs r (gs.map (oneH a b ctx)) = gs.flatten.reverse ++ r := by
  induction gs with
  | nil => intros; rfl
  | cons g gs ih =>
    intro fl p q u v r h hG hp hq hu huv hf hr
    obtain ⟨f, g', rfl, e, h1, h2, h3, hR, _, _, h4, h5, h6, h7, _, h8, h9⟩ := gs_step hc h hG hp hq hu huv hf
    simp only [List.map_cons, chHs]
    rw [h1.atA, h1.atB, h1.ls, body_ch (f :: g') true _ _ r hR h1.s0 h1.t0 (fun c x hx => by cases hx; exact hr f rfl)]
    rw [ih false _ _ e (endB 0 (f :: g') + (e - endA 0 (f :: g'))) _ h5 hG.2.2 h6 h7 h8 (by omega) h9 ?_]
    · simp
    · intro d hd
      have := hG.2.1 d hd
      have hlast : ∀ (x : List Ch) (c : Ch), ∃ y z, (c :: x).reverse = z :: y ∧ z.A + z.AN = endA 0 (c :: x) := by
        intro x
        induction x with
        | nil => intro c; exact ⟨[], c, rfl, rfl⟩
        | cons d x ih =>
          intro c
          obtain ⟨y, z, q1, q2⟩ := ih d
          refine ⟨y ++ [c], z, ?_, q2⟩
          rw [List.reverse_cons, q1]
          rfl
      obtain ⟨y, z, q1, q2⟩ := hlast g' f
      rw [q1]
      simp only [List.cons_append, endsAt]
      have : ¬ (z.A + z.AN = d.A) := by omega
      simp [this]

/-- has a line a line feed ahead of its end? -/
def inn (s : List UInt8) : Bool := s.dropLast.any fun c => c == 10
def innL (l : List (List UInt8)) : Bool := l.any inn
theorem lin_of {s : List UInt8} (h0 : s ≠ []) (hi : inn s = false) : linB s = true := by
  unfold linB
  have e1 : s.isEmpty = false := by cases s with | nil => exact absurd rfl h0 | cons => rfl
  rw [e1]
  simp only [inn, List.any_eq_false] at hi
  simp only [Bool.not_false, Bool.true_and, List.all_eq_true]
  intro c hc
  have := hi c hc
  simpa using this
theorem abl_iff (L : List (List UInt8)) : abl L = true ↔ ∀ (i : Nat) (hi : i + 1 < L.length), fdB L[i] = true := by
  induction L with
  | nil => simp [abl]
  | cons t r ih =>
    simp only [abl, Bool.and_eq_true, Bool.or_eq_true, ih]
    constructor
    · rintro ⟨h1, h2⟩ i hi
      cases i with
      | zero =>
        rcases h1 with h1 | h1
        · simp at h1 hi
          subst h1
          simp at hi
        · exact h1
      | succ i => exact h2 i (by simpa using hi)
    · intro h
      refine ⟨?_, fun i hi => h (i + 1) (by simpa using hi)⟩
      cases r with
      | nil => exact .inl rfl
      | cons s r => exact .inr (h 0 (by simp))
theorem abl_cut {A : List (List UInt8)} (h : abl A = true) (p k : Int) : abl (cut A p k) = true := by
  rw [abl_iff] at h ⊢
  intro i hi
  have hl : i + 1 < k.toNat ∧ p.toNat + (i + 1) < A.length := by
    simp only [cut, List.length_take, List.length_drop] at hi
    omega
  have := h (p.toNat + i) (by omega)
  simpa [cut] using this
theorem mem_cut {A : List (List UInt8)} {p k : Int} {t : List UInt8} (h : t ∈ cut A p k) : t ∈ A := List.mem_of_mem_drop (List.mem_of_mem_take h)
theorem mem_body {a b : List (List UInt8)} {e : Int} (g : List Ch) : ∀ (p : Int), ∀ m ∈ bodyH a b e p g, okS m.sg = true ∧ (m.tx ∈ a ∨ m.tx ∈ b) := by
  have hm : ∀ (s : Int) (x : List (List UInt8)) (m : Mk), m ∈ mks s x → m.sg = s ∧ m.tx ∈ x := by
    intro s x m h
    simp only [mks, List.mem_map] at h
    obtain ⟨t, ht, rfl⟩ := h
    exact ⟨rfl, ht⟩
  induction g with
  | nil =>
    intro p m h
    obtain ⟨h1, h2⟩ := hm _ _ _ h
    rw [h1]
    exact ⟨by decide, .inl (mem_cut h2)⟩
  | cons c g ih =>
    intro p m h
    simp only [bodyH, List.mem_append] at h
    rcases h with h | h | h | h
    · obtain ⟨h1, h2⟩ := hm _ _ _ h
      rw [h1]
      exact ⟨by decide, .inl (mem_cut h2)⟩
    · obtain ⟨h1, h2⟩ := hm _ _ _ h
      rw [h1]
      exact ⟨by decide, .inl (mem_cut h2)⟩
    · obtain ⟨h1, h2⟩ := hm _ _ _ h
      rw [h1]
      exact ⟨by decide, .inr (mem_cut h2)⟩
    · exact ih _ m h
/-- a group has a line that is not kept -/
theorem body_some {a b : List (List UInt8)} {e p q : Int} {fl : Bool} {f : Ch} {g rest : List Ch} (h : Right fl p q a.length b.length (f :: g ++ rest)) : (bodyH a b e p (f :: g)).all (fun m => decide (m.sg = 32)) = false := by
  obtain ⟨⟨h1, h2, h3, h4⟩, h5⟩ := h
  have h1' := (numB_iff f).1 h1
  have hle := h5.le
  simp only [bodyH, List.all_append]
  have hx : ∀ (s : Int) (x : List (List UInt8)), s ≠ 32 → x ≠ [] → (mks s x).all (fun m => decide (m.sg = 32)) = false := by
    intro s x hs hx
    cases x with
    | nil => exact absurd rfl hx
    | cons t x => simp [mks, hs]
  rcases (by omega : 0 < f.AN ∨ 0 < f.BN) with z | z
  · have x3 := hcut_length (A := a) (p := f.A) (k := f.AN) (by omega) (by omega) (by omega)
    rw [hx 45 (cut a f.A f.AN) (by decide) (by intro hz; rw [hz] at x3; simp at x3; omega)]
    simp
  · have x2 := hcut_length (A := b) (p := f.B) (k := f.BN) (by omega) (by omega) (by omega)
    rw [hx 43 (cut b f.B f.BN) (by decide) (by intro hz; rw [hz] at x2; simp at x2; omega)]
    simp
/-- a made hunk is right, but for line feeds within lines -/
theorem made_chk {a b : List (List UInt8)} {ctx : Int} (hc : 0 ≤ ctx) (ha : a.length ≤ 1000000) (hb : b.length ≤ 1000000) (gs : List (List Ch)) : ∀ (fl : Bool) (p q u v : Int), Right fl p q a.length b.length gs.flatten → (∀ r ∈ U p q a.length b.length gs.flatten, a[r.a.toNat]? = b[r.b.toNat]?) → Hgs ctx gs → 0 ≤ p → 0 ≤ q → p ≤ u → v - u = q - p → (∀ f, gs.flatten.head? = some f → u ≤ f.A - min ctx f.A) →
    (∀ t, t ∈ a ∨ t ∈ b → t ≠ []) → abl a = true → abl b = true → errs (gs.map (oneH a b ctx)) = 0 ∨ errs (gs.map (oneH a b ctx)) = 6 ∧ innL (a ++ b) = true := by
  induction gs with
  | nil => intros; exact .inl rfl
  | cons g gs ih =>
    intro fl p q u v h hs hG hp hq hu huv hf hne hla hlb
    obtain ⟨f, g', rfl, e, h1, h2, h3, hR, hU, hE, h4, h5, h6, h7, hU2, h8, h9⟩ := gs_step hc h hG hp hq hu huv hf
    have hi := ih false _ _ e (endB 0 (f :: g') + (e - endA 0 (f :: g'))) h5 (fun r hr => hs r (hU2 r hr)) hG.2.2 h6 h7 h8 (by omega) h9 hne hla hlb
    simp only [List.map_cons, errs]
    have hrng : rngB (oneH a b ctx (f :: g')) = true := by
      have z1 := h1.s0
      have z2 := h1.t0
      have z3 := h1.en
      have z4 := h1.em
      have z5 := h1.se
      have z6 := h1.le
      have hkn : (0 : Int) ≤ endB 0 (f :: g') + (e - endA 0 (f :: g')) - (f.B - min ctx f.A) := by
        have hz : ((pkL 45 (oneH a b ctx (f :: g')).ls).length : Int) = (oneH a b ctx (f :: g')).BN := rfl
        rw [h1.BN] at hz
        omega
      simp only [rngB]
      rw [h1.A, h1.AN, h1.B, h1.BN]
      obtain ⟨k2, hk2⟩ : ∃ k2, endB 0 (f :: g') + (e - endA 0 (f :: g')) - (f.B - min ctx f.A) = k2 := ⟨_, rfl⟩
      rw [hk2]
      have y1 : nat31 (if 0 < e - (f.A - min ctx f.A) then f.A - min ctx f.A + 1 else f.A - min ctx f.A) = true := by
        simp only [nat31, Bool.and_eq_true, decide_eq_true_eq]; split <;> omega
      have y2 : nat31 (e - (f.A - min ctx f.A)) = true := by simp only [nat31, Bool.and_eq_true, decide_eq_true_eq]; omega
      have y3 : nat31 (if 0 < k2 then f.B - min ctx f.A + 1 else f.B - min ctx f.A) = true := by
        simp only [nat31, Bool.and_eq_true, decide_eq_true_eq]; split <;> omega
      have y4 : nat31 k2 = true := by simp only [nat31, Bool.and_eq_true, decide_eq_true_eq]; omega
      have y5 : (decide ((if 0 < e - (f.A - min ctx f.A) then f.A - min ctx f.A + 1 else f.A - min ctx f.A) = 0) && decide (0 < e - (f.A - min ctx f.A))) = false := by
        by_cases z : 0 < e - (f.A - min ctx f.A)
        · rw [if_pos z, decide_eq_false (by omega), Bool.false_and]
        · rw [decide_eq_false z, Bool.and_false]
      have y6 : (decide ((if 0 < k2 then f.B - min ctx f.A + 1 else f.B - min ctx f.A) = 0) && decide (0 < k2)) = false := by
        by_cases z : 0 < k2
        · rw [if_pos z, decide_eq_false (by omega), Bool.false_and]
        · rw [decide_eq_false z, Bool.and_false]
      rw [y1, y2, y3, y4, y5, y6]
      rfl
    have hcnt : ¬ ((oneH a b ctx (f :: g')).AN ≠ (oldL (oneH a b ctx (f :: g'))).length ∨ (oneH a b ctx (f :: g')).BN ≠ (newL (oneH a b ctx (f :: g'))).length) := by
      have q1 : (oneH a b ctx (f :: g')).AN = ((oldL (oneH a b ctx (f :: g'))).length : Int) := rfl
      have q2 : (oneH a b ctx (f :: g')).BN = ((newL (oneH a b ctx (f :: g'))).length : Int) := rfl
      simp [← q1, ← q2]
    have hall : (oneH a b ctx (f :: g')).ls.all (fun m => decide (m.sg = 32)) = false := by
      rw [h1.ls]
      exact body_some hR
    have hchk : chkH (oneH a b ctx (f :: g')) = if fldB (oneH a b ctx (f :: g')).ls = false then 6 else 0 := by
      simp only [chkH]
      rw [if_neg (by rw [hrng]; simp)]
      by_cases z : fldB (oneH a b ctx (f :: g')).ls = false
      · rw [if_pos z, if_pos z]
      · rw [if_neg z, if_neg z, if_neg hcnt, if_neg (by rw [hall]; simp)]
    rw [hchk]
    by_cases hF : fldB (oneH a b ctx (f :: g')).ls = false
    · rw [if_pos hF, if_pos (by decide)]
      refine .inr ⟨rfl, ?_⟩
      cases hin : innL (a ++ b) with
      | true => rfl
      | false =>
        exfalso
        have : fldB (oneH a b ctx (f :: g')).ls = true := by
          rw [fld_iff]
          refine ⟨fun m hm => ?_, ?_, ?_⟩
          · rw [h1.ls] at hm
            obtain ⟨k1, k2⟩ := mem_body _ _ m hm
            refine ⟨lin_of (hne _ k2) ?_, k1⟩
            simp only [innL, List.any_eq_false] at hin
            have := hin m.tx (by simpa using k2)
            simpa using this
          · have := h1.old
            unfold oldL at this
            rw [this]
            exact abl_cut hla _ _
          · rw [h1.ls, body_new hR (fun r hr => hs r (hU r hr)) h1.s0 h1.t0 h1.le hE]
            exact abl_cut hlb _ _
        rw [this] at hF
        cases hF
    · rw [if_neg hF]
      simpa using hi

/-- a made hunk's lines: those that are taken out stand first -/
theorem body_nf {a b : List (List UInt8)} {e : Int} {rest : List Ch} (g : List Ch) : ∀ (fl s : Bool) (p q : Int), Right fl p q a.length b.length (g ++ rest) → 0 ≤ p → (s = true → fl = false) → Nf s (bodyH a b e p g) := by
  have n32 : ∀ (x : List (List UInt8)) (t : List Mk) (s : Bool), (x = [] → Nf s t) → (x ≠ [] → Nf false t) → Nf s (mks 32 x ++ t) := by
    intro x
    induction x with
    | nil => intro t s h _; exact h rfl
    | cons y x ih =>
      intro t s _ h
      show Nf s (⟨32, y⟩ :: (mks 32 x ++ t))
      simp only [Nf]
      rw [if_neg (by decide), if_neg (by decide)]
      exact ih t false (fun _ => h (by simp)) (fun _ => h (by simp))
  have n45 : ∀ (x : List (List UInt8)) (t : List Mk), Nf false t → Nf false (mks 45 x ++ t) := by
    intro x
    induction x with
    | nil => intro t h; exact h
    | cons y x ih =>
      intro t h
      show Nf false (⟨45, y⟩ :: (mks 45 x ++ t))
      simp only [Nf]
      simp only [if_true, true_and]
      exact ih t h
  have n43 : ∀ (x : List (List UInt8)) (t : List Mk) (s : Bool), (∀ s, Nf s t) → Nf s (mks 43 x ++ t) := by
    intro x
    induction x with
    | nil => intro t s h; exact h s
    | cons y x ih =>
      intro t s h
      show Nf s (⟨43, y⟩ :: (mks 43 x ++ t))
      simp only [Nf]
      rw [if_neg (by decide)]
      simp only [if_true]
      exact ih t true h
  induction g with
  | nil =>
    intro fl s p q _ _ _
    simp only [bodyH]
    have := n32 (cut a p (e - p)) [] s (fun _ => by simp [Nf]) (fun _ => by simp [Nf])
    rwa [List.append_nil] at this
  | cons c g ih =>
    intro fl s p q h hp hs
    obtain ⟨⟨h1, h2, h3, h4⟩, h5⟩ := h
    have h1' := (numB_iff c).1 h1
    have hle := h5.le
    have hrest : Nf false (mks 45 (cut a c.A c.AN) ++ (mks 43 (cut b c.B c.BN) ++ bodyH a b e (c.A + c.AN) g)) :=
      n45 _ _ (n43 _ _ _ fun s' => ih false s' _ _ h5 (by omega) (fun _ => rfl))
    simp only [bodyH]
    refine n32 _ _ s (fun hx => ?_) (fun _ => hrest)
    cases s with
    | false => exact hrest
    | true =>
      exfalso
      have hf := hs rfl
      have hlt : p < c.A := by
        rcases h4 with h4 | h4
        · rw [hf] at h4; cases h4
        · exact h4
      have x1 := hcut_length (A := a) (p := p) (k := c.A - p) hp (by omega) (by omega)
      rw [hx] at x1
      simp at x1
      omega
/-- how many lines are not kept -/
def cntC : List Mk → Nat
  | [] => 0
  | m :: l => if m.sg ≠ 32 then cntC l + 1 else cntC l
def cntHs : List Hk → Nat
  | [] => 0
  | h :: l => cntC h.ls + cntHs l
theorem cntC_append (x y : List Mk) : cntC (x ++ y) = cntC x + cntC y := by
  induction x with
  | nil => simp [cntC]
  | cons m x ih => simp only [List.cons_append, cntC, ih]; split <;> omega
theorem cntC_same (x : List (List UInt8)) : cntC (mks 32 x) = 0 := by
  induction x with
  | nil => rfl
  | cons t x ih =>
    show cntC (⟨32, t⟩ :: mks 32 x) = 0
    simp [cntC, ih]
theorem cntC_not {s : Int} (hs : s ≠ 32) (x : List (List UInt8)) : cntC (mks s x) = x.length := by
  induction x with
  | nil => rfl
  | cons t x ih =>
    show cntC (⟨s, t⟩ :: mks s x) = _
    simp [cntC, ih, hs]
def sumC (a b : List (List UInt8)) : List Ch → Nat
  | [] => 0
  | c :: l => (cut a c.A c.AN).length + (cut b c.B c.BN).length + sumC a b l
theorem sumC_append (a b : List (List UInt8)) (x y : List Ch) : sumC a b (x ++ y) = sumC a b x + sumC a b y := by
  induction x with
  | nil => simp [sumC]
  | cons c x ih => simp only [List.cons_append, sumC, ih]; omega
theorem body_cnt (a b : List (List UInt8)) (e : Int) (g : List Ch) : ∀ p, cntC (bodyH a b e p g) = sumC a b g := by
  induction g with
  | nil => intro p; exact cntC_same _
  | cons c g ih =>
    intro p
    simp only [bodyH, cntC_append, cntC_same, cntC_not (show (45 : Int) ≠ 32 by decide), cntC_not (show (43 : Int) ≠ 32 by decide), ih, sumC]
    omega
/-- as many lines are changed, however many are kept around them -/
theorem made_cnt (a b : List (List UInt8)) (ctx : Int) (gs : List (List Ch)) : cntHs (gs.map (oneH a b ctx)) = sumC a b gs.flatten := by
  induction gs with
  | nil => rfl
  | cons g gs ih =>
    simp only [List.map_cons, cntHs, List.flatten_cons, sumC_append, ih]
    congr 1
    cases g with
    | nil => rfl
    | cons f g => exact body_cnt a b _ (f :: g) _
/-- without lines around them each change is alone -/
theorem grp_zero (l : List Ch) : ∀ (fl : Bool) (p q n m : Int), Right fl p q n m l → grp 0 l = l.map fun c => [c] := by
  induction l with
  | nil => intros; rfl
  | cons c l ih =>
    intro fl p q n m h
    have hi := ih false _ _ n m h.2
    cases l with
    | nil => rfl
    | cons d l =>
      obtain ⟨g, gs, h1, h2⟩ := grp_cons2 0 c d l
      have h4 : c.A + c.AN < d.A := by simpa using h.2.1.2.2.2
      rw [h2, if_neg (by omega), List.map_cons, ← hi, h1]
/-- with all of them there is one group -/
theorem grp_all (ctx : Int) (l : List Ch) : ∀ (fl : Bool) (p q n m : Int), Right fl p q n m l → 0 ≤ p → n ≤ 2 * ctx → (grp ctx l).length = min 1 l.length := by
  induction l with
  | nil => intros; rfl
  | cons c l ih =>
    intro fl p q n m h hp hn
    have h1' := (numB_iff c).1 h.1.1
    have hi := ih false _ _ n m h.2 (by omega) hn
    cases l with
    | nil => rfl
    | cons d l =>
      obtain ⟨g, gs, h1, h2⟩ := grp_cons2 ctx c d l
      have hd := (numB_iff d).1 h.2.1.1
      have hle := h.2.2.le
      rw [h1] at hi
      simp only [List.length_cons] at hi
      rw [h2, if_pos (by omega)]
      simp only [List.length_cons]
      omega
end Go.Proofs.Ythckcdpgjdbgcaa

/- Each group of a right script, and its hunk; how many lines it has; plain mathematics. -/
namespace Go.Proofs.Ythckcdpgjdbgcaa

theorem all_len (l : List Mk) (h : ∀ m ∈ l, okS m.sg = true) : l.length ≤ (pkL 43 l).length + (pkL 45 l).length := by
  induction l with
  | nil => simp
  | cons m l ih =>
    have hi := ih fun q hq => h q (by simp [hq])
    have hm := h m (by simp)
    simp only [pkL]
    by_cases h1 : m.sg = 43
    · rw [if_neg (fun q => q.1 h1), if_pos ⟨by omega, hm⟩]
      simp only [List.length_cons]
      omega
    · rw [if_pos ⟨h1, hm⟩]
      split <;> simp only [List.length_cons] <;> omega
/-- a group somewhere in the row -/
theorem gs_at {a b : List (List UInt8)} {ctx : Int} (hc : 0 ≤ ctx) (pre : List (List Ch)) : ∀ (fl : Bool) (p q : Int) (f : Ch) (g : List Ch) (post : List (List Ch)), Right fl p q a.length b.length (pre ++ (f :: g) :: post).flatten → Hgs ctx (pre ++ (f :: g) :: post) → 0 ≤ p → 0 ≤ q → (∀ d, (pre ++ (f :: g) :: post).flatten.head? = some d → p ≤ d.A - min ctx d.A) →
    Right true (f.A - min ctx f.A) (f.B - min ctx f.A) a.length b.length (f :: g ++ post.flatten) ∧ 0 ≤ f.A - min ctx f.A ∧ 0 ≤ f.B - min ctx f.A ∧ (oneH a b ctx (f :: g)).ls.length ≤ a.length + b.length := by
  induction pre with
  | nil =>
    intro fl p q f g post h hG hp hq hf
    obtain ⟨f', g', he, e, h1, h2, h3, hR, _, _, h4, h5, h6, h7, _, h8, h9⟩ := gs_step hc h hG hp hq (Int.le_refl p) (show q - p = q - p from rfl) hf
    cases he
    refine ⟨hR, h1.s0, h1.t0, ?_⟩
    have hl := all_len (oneH a b ctx (f :: g)).ls (fun m hm => by rw [h1.ls] at hm; exact (mem_body _ _ m hm).1)
    have ho : (pkL 43 (oneH a b ctx (f :: g)).ls).length ≤ a.length := (by
      have e1 := h1.old
      unfold oldL at e1
      rw [e1]
      simp only [cut, List.length_take, List.length_drop]
      omega)
    have hn : ((pkL 45 (oneH a b ctx (f :: g)).ls).length : Int) = (oneH a b ctx (f :: g)).BN := rfl
    rw [h1.BN] at hn
    have := h1.em
    have := h1.t0
    omega
  | cons g0 pre ih =>
    intro fl p q f g post h hG hp hq hf
    obtain ⟨f', g', rfl, e, h1, h2, h3, hR, _, _, h4, h5, h6, h7, _, h8, h9⟩ := gs_step hc h hG hp hq (Int.le_refl p) (show q - p = q - p from rfl) hf
    exact ih false _ _ f g post h5 hG.2.2 h6 h7 (fun d hd => by have := h9 d hd; omega)
theorem script_at {a b : List (List UInt8)} {ctx : Int} (hc : 0 ≤ ctx) {l : List Ch} (hs : Script l a.length b.length) {pre post : List (List Ch)} {f : Ch} {g : List Ch} (he : grp ctx l = pre ++ (f :: g) :: post) :
    Right true (f.A - min ctx f.A) (f.B - min ctx f.A) a.length b.length (f :: g ++ post.flatten) ∧ 0 ≤ f.A - min ctx f.A ∧ 0 ≤ f.B - min ctx f.A ∧ (oneH a b ctx (f :: g)).ls.length ≤ a.length + b.length := by
  have hfl := grp_flatten ctx l
  have hG := grp_gs ctx l
  have hr := hs.2.2
  rw [← hfl] at hr
  rw [he] at hr hG
  refine gs_at hc pre true 0 0 f g post hr hG (Int.le_refl _) (Int.le_refl _) (fun d hd => ?_)
  have hd2 : d ∈ (pre ++ (f :: g) :: post).flatten := List.mem_of_head? hd
  have hn : numB d = true := by
    have key : ∀ (l : List Ch) (fl : Bool) (p q n m : Int), Right fl p q n m l → ∀ c ∈ l, numB c = true := by
      intro l
      induction l with
      | nil => intro fl p q n m _ c hc; cases hc
      | cons x l ih =>
        intro fl p q n m h c hc
        rcases List.mem_cons.1 hc with rfl | hc
        · exact h.1.1
        · exact ih _ _ _ _ _ h.2 c hc
    exact key _ _ _ _ _ _ hr d hd2
  have := (numB_iff d).1 hn
  omega
end Go.Proofs.Ythckcdpgjdbgcaa

/- The reference's Make of layer 11, walked. -/
namespace Go.Proofs.Ythckcdpgjdbgcaa
open Go.RowKit

theorem Hs.base {w W u : World} {ov : Value} {P : List (Hk × Value)} (h : Hs W ov P u) (hB : Below w.heap.size w W) : Hs w ov P u :=
  ⟨hB.trans (h.low.mono hB.size), own_base h.own hB.size, fun x hx => own_base (h.ins x hx) hB.size⟩
/-- a group of the row, read -/
theorem Gr.at {w W u : World} {oo : Option Addr} {n oc : Nat} {G : List (List Ch × Value)} (h : Gr w (.slice oo n oc) G W) (hB : Below W.heap.size W u) {i : Nat} (hi : i < G.length) {g : List Ch} {gv : Value} (hg : G[i] = (g, gv)) : ∃ q, oo = some ⟨q, 0, none⟩ ∧ u.cell? ⟨q, i, none⟩ = some gv ∧ HCh u gv g := by
  have hh := holds_of h.own
  obtain ⟨b, off, c', hv, hb, hc⟩ := Holds.at hh (by simp; omega)
  rcases h.own.2 with ⟨_, h0⟩ | ⟨q, cap, cur, e, _⟩
  · omega
  · cases e
    cases hv
    refine ⟨_, rfl, ?_, ?_⟩
    · have h1 := hc i (by simpa using hi)
      rw [Nat.zero_add] at h1
      refine hcell_keep hB ?_
      rw [h1]
      simp [hg]
    · have hin := h.ins (g, gv) (by rw [← hg]; exact List.getElem_mem hi)
      exact HCh.keep (holds_of hin) hB (Nat.le_refl _)

set_option maxRecDepth 10000 in
set_option maxHeartbeats 16000000 in
theorem rMake_f (l : List Ch) (a b : List (List UInt8)) (ctx : Int) (v va vb : Value) (w : World) (hv : HCh w v l) (ha : HS w va a) (hb : HS w vb b) (hl : l.length ≤ 1099511627776) (hal : a.length ≤ 137438953472) (hbl : b.length ≤ 137438953472) (z : Int) (HZ : Hid (grpE l a.length b.length ctx = z)) (R : List Hk) (HR : Hid (mkR l a b ctx = R)) : Calls Try.prog 7 #[v, va, vb, .int .i64 ctx] w fun e w' => ∃ v' P, e = .returned (.tuple #[v', .int .i64 z]) ∧ Hs w v' P w' ∧ P.map (·.1) = R := by
  obtain ⟨vo, lc, rfl⟩ := Holds.form hv
  obtain ⟨ao, ac, rfl⟩ := Holds.form ha
  obtain ⟨bo, bc, rfl⟩ := Holds.form hb
  obtain ⟨GR, hGR⟩ : ∃ GR, grpR l a.length b.length ctx = GR := ⟨_, rfl⟩
  have HGR : Hid (grpR l a.length b.length ctx = GR) := hGR
  have HR1 : Hid (GR.map (oneH a b ctx) = R) := (by show _ = _; rw [← HR.out, ← hGR]; rfl)
  clear hGR
  go_enter Try.func7, Try.ntmps7
  go_wp2_with fail
  refine (rGroup_f l a.length b.length ctx _ w hv hl (by omega) (by omega) z HZ GR HGR).mono ?_
  rintro e W ⟨gv0, G, rfl, hG, hGm⟩
  obtain ⟨go, gc, rfl⟩ := (holds_of hG.own).form
  have HGM : Hid (G.map (·.1) = GR) := hGm
  clear hGm HR
  by_cases hz : z = 0
  · subst hz
    have HE : Hid (grp ctx l = GR ∧ Script l a.length b.length ∧ 0 ≤ ctx ∧ ctx ≤ 100) := (by
      have h1 := HZ.out
      have h2 := HGR.out
      unfold grpR at h2
      rw [h1, if_pos rfl] at h2
      refine ⟨h2, ?_⟩
      unfold grpE at h1
      by_cases hs : Script l a.length b.length
      · refine ⟨hs, ?_⟩
        rw [chk_ok hs] at h1
        by_cases hx : ctx < 0 ∨ 100 < ctx
        · simp [hx] at h1
        · omega
      · rw [chk_no hs] at h1
        simp at h1)
    have hctx := HE.out.2.2
    have hGl : G.length ≤ 1099511627776 := (by
      have h1 := congrArg List.length HGM.out
      have h2 : (grp ctx l).length ≤ l.length := (by
        have key : ∀ l : List Ch, (grp ctx l).length ≤ l.length := by
          intro l
          induction l with
          | nil => simp [grp]
          | cons c l ih =>
            cases l with
            | nil => simp [grp, gcons]
            | cons d l =>
              obtain ⟨g, gs, p1, p2⟩ := grp_cons2 ctx c d l
              rw [p2]
              rw [p1] at ih
              split <;> simp at ih ⊢ <;> omega
        exact key l)
      rw [HE.out.1] at h2
      simp at h1
      omega)
    clear HZ HGR
    go_wp2
    go_loopw [12, 13] (fun ov iv wr => ∃ (i : Nat) (P : List (Hk × Value)), i ≤ G.length ∧ iv = .int .i64 (i : Int) ∧ (∃ oo oc, ov = .slice oo i oc) ∧ Hs W ov P wr ∧ Hid (P.length = i ∧ P.map (·.1) = (GR.take i).map (oneH a b ctx))) (fun _ iv _ => G.length - (intOf iv).toNat)
    case atStart => exact ⟨0, [], Nat.zero_le _, by go_num, ⟨_, _, rfl⟩, Hs.nil W, ⟨rfl, rfl⟩⟩
    case round =>
      obtain ⟨i, P, hi, rfl, ⟨oo, oc, rfl⟩, hS, HP⟩ := hrel
      by_cases hlt : i < G.length
      · obtain ⟨g, gv, hgi⟩ : ∃ g gv, G[i] = (g, gv) := ⟨_, _, rfl⟩
        obtain ⟨q, rfl, hcell, hch⟩ := hG.at hS.low hlt hgi
        have hGRl : GR.length = G.length := by rw [← HGM.out]; simp
        have hGRi : GR[i]'(by omega) = g := by
          have h1 : GR[i]? = some g := by rw [← HGM.out]; simp [hlt, hgi]
          exact (List.getElem?_eq_some_iff.1 h1).2
        have hsp : GR = GR.take i ++ g :: GR.drop (i + 1) := by
          rw [← hGRi, ← List.drop_eq_getElem_cons (by omega), List.take_append_drop]
        have hgne : g ≠ [] := grp_ne ctx l g (by rw [HE.out.1, ← hGRi]; exact List.getElem_mem _)
        obtain ⟨f, g', rfl⟩ : ∃ f g', g = f :: g' := by
          cases g with
          | nil => exact absurd rfl hgne
          | cons f g' => exact ⟨f, g', rfl⟩
        obtain ⟨hR1, hR2, hR3, hR4⟩ := script_at hctx.1 HE.out.2.1 (HE.out.1.trans hsp)
        have hnums := right_nums hR1
        have hgl : g'.length ≤ 1099511627776 := (by
          have h1 := congrArg List.length (grp_flatten ctx l)
          rw [HE.out.1, hsp] at h1
          simp only [List.flatten_append, List.flatten_cons, List.length_append, List.length_cons] at h1
          omega)
        obtain ⟨H, hH⟩ : ∃ H, oneH a b ctx (f :: g') = H := ⟨_, rfl⟩
        have HH : Hid (oneH a b ctx (f :: g') = H) := hH
        rw [hH] at hR4
        have hBw : Below w.heap.size w wr := hG.low.trans (hS.low.mono hG.low.size)
        have ha' := HS.keep ha hBw (Nat.le_refl _)
        have hb' := HS.keep hb hBw (Nat.le_refl _)
        obtain ⟨ho, hc, rfl⟩ := Holds.form hch
        have HP2 : ∀ y : Value, Hid ((P ++ [(H, y)]).length = i + 1 ∧ (P ++ [(H, y)]).map (·.1) = (GR.take (i + 1)).map (oneH a b ctx)) := fun y => (by
          refine ⟨by rw [List.length_append, HP.out.1]; rfl, ?_⟩
          rw [List.map_append, HP.out.2, List.take_succ_eq_append_getElem (by omega), List.map_append, hGRi]
          simp [hH])
        have i1 : 0 ≤ (i : Int) := by omega
        have i2 : (i : Int) < (G.length : Int) := by omega
        clear hsp hGRi hGRl hgne hgi hH
        go_wp2_with fail
        refine (rone_f g' (GR.drop (i + 1)).flatten f a b ctx _ _ _ wr hch ha' hb' (by omega) (by omega) hgl hctx hR1 hR3 (fun c hc => by have := (numB_iff c).1 (hnums c (by simp at hc ⊢; rcases hc with hc | hc; exact .inl hc; exact .inr (.inl hc))); omega) H HH (by omega)).mono ?_
        rintro e wr1 ⟨v1, rfl, hown1, hB1⟩
        obtain ⟨ro, rc, rfl⟩ := (holds_of hown1).form
        have hS1 : Hs W (.slice oo i oc) P wr1 := ⟨hS.low.trans (hB1.mono hS.low.size), owns_keep hS.own hB1, fun x hx => owns_keep (hS.ins x hx) hB1⟩
        have hown1' := own_base hown1 hS.low.size
        have hS5 := hS1.alloc (hkO H (.slice ro H.ls.length rc))
        have hrow5 := one_row wr1 H (.slice ro H.ls.length rc)
        have hown5 := hown1'.alloc (hkO H (.slice ro H.ls.length rc))
        have hl4 := hS1.low.size
        have hW5 : wr1.alloc (Obj.cells #[Value.int IntKind.i64 H.A, Value.int IntKind.i64 H.AN, Value.int IntKind.i64 H.B, Value.int IntKind.i64 H.BN, .slice ro H.ls.length rc] 39) = wr1.alloc (hkO H (.slice ro H.ls.length rc)) := rfl
        have HS5 : Hid ((wr1.alloc (hkO H (.slice ro H.ls.length rc))).heap.size = wr1.heap.size + 1) := (by show _ = _; simp)
        have hownP := hS5.own
        rw [HP.out.1] at hownP
        unfold hkV
        clear hB1 hown1 hR1 hnums hch hcell
        go_wp2_with (at_builtin; refine wpList_append_w _ (by kernel_rfl) (.tmp 33) (.tmp 42) 24 39 (.agg #[.int .i64 0, .int .i64 0, .int .i64 0, .int .i64 0, .slice none 0 0]) 5 56 rfl Try.underlying24 infoHk rfl (by decide) (by decide) W.heap.size _ _ _ rfl hownP _ 1 (hkC H (.slice ro H.ls.length rc)) rfl hrow5 rfl (hkC_one _) (by omega) (by have := HS5.out; omega) ?_)
        intro v6 W6 hown6 hg6 _
        have hS6 := hS5.more hown5 hg6 (ov' := v6) (by rw [HP.out.1]; exact hown6)
        obtain ⟨ro6, rc6, rfl⟩ := (holds_of hown6).form
        clear hg6 hown6 hownP hrow5
        go_wp2
        exact ⟨⟨i + 1, P ++ [(H, .slice ro H.ls.length rc)], by omega, by go_num, ⟨_, _, rfl⟩, hS6, HP2 _⟩, by simp [intOf]; omega⟩
      · have hend : decide ((i : Int) < (G.length : Int)) = false := decide_eq_false (by omega)
        have HF : Hid (P.map (·.1) = R) := (by
          have hGRl : GR.length = G.length := by rw [← HGM.out]; simp
          show _ = _
          rw [HP.out.2, List.take_of_length_le (by omega)]
          exact HR1.out)
        go_wp2
        go_ret2
        exact ⟨_, P, rfl, hS.base hG.low, HF.out⟩
  · have hz1 : (z != 0) = true := by simpa using hz
    have HRN : Hid (R = []) := (by
      show _ = _
      rw [← HR1.out, ← HGR.out]
      unfold grpR
      rw [HZ.out, if_neg hz]
      rfl)
    clear HZ HGR hz
    go_wp2
    go_ret2
    rw [HRN.out]
    exact ⟨_, [], rfl, ⟨hG.low, hnil_row _ _ _ _, fun _ h => by cases h⟩, rfl⟩
end Go.Proofs.Ythckcdpgjdbgcaa

/- The code's Make of layer 11, walked. -/
namespace Go.Proofs.Ythckcdpgjdbgcaa
open Go.RowKit

set_option maxRecDepth 10000 in
set_option maxHeartbeats 16000000 in
theorem hMake_f (l : List Ch) (a b : List (List UInt8)) (ctx : Int) (v va vb : Value) (w : World) (hv : HCh w v l) (ha : HS w va a) (hb : HS w vb b) (hl : l.length ≤ 1099511627776) (hal : a.length ≤ 137438953472) (hbl : b.length ≤ 137438953472) (z : Int) (HZ : Hid (grpE l a.length b.length ctx = z)) (R : List Hk) (HR : Hid (mkR l a b ctx = R)) : Calls Try.prog 6 #[v, va, vb, .int .i64 ctx] w fun e w' => ∃ v' P, e = .returned (.tuple #[v', .int .i64 z]) ∧ Hs w v' P w' ∧ P.map (·.1) = R := by
  obtain ⟨vo, lc, rfl⟩ := Holds.form hv
  obtain ⟨ao, ac, rfl⟩ := Holds.form ha
  obtain ⟨bo, bc, rfl⟩ := Holds.form hb
  obtain ⟨GR, hGR⟩ : ∃ GR, grpR l a.length b.length ctx = GR := ⟨_, rfl⟩
  have HGR : Hid (grpR l a.length b.length ctx = GR) := hGR
  have HR1 : Hid (GR.map (oneH a b ctx) = R) := (by show _ = _; rw [← HR.out, ← hGR]; rfl)
  clear hGR
  go_enter Try.func6, Try.ntmps6
  go_wp2_with fail
  refine (hGroup_f l a.length b.length ctx _ w hv hl (by omega) (by omega) z HZ GR HGR).mono ?_
  rintro e W ⟨gv0, G, rfl, hG, _, hGm⟩
  obtain ⟨go, gc, rfl⟩ := (holds_of hG.own).form
  have HGM : Hid (G.map (·.1) = GR) := hGm
  clear hGm HR
  by_cases hz : z = 0
  · subst hz
    have HE : Hid (grp ctx l = GR ∧ Script l a.length b.length ∧ 0 ≤ ctx ∧ ctx ≤ 100) := (by
      have h1 := HZ.out
      have h2 := HGR.out
      unfold grpR at h2
      rw [h1, if_pos rfl] at h2
      refine ⟨h2, ?_⟩
      unfold grpE at h1
      by_cases hs : Script l a.length b.length
      · refine ⟨hs, ?_⟩
        rw [chk_ok hs] at h1
        by_cases hx : ctx < 0 ∨ 100 < ctx
        · simp [hx] at h1
        · omega
      · rw [chk_no hs] at h1
        simp at h1)
    have hctx := HE.out.2.2
    have hGl : G.length ≤ 1099511627776 := (by
      have h1 := congrArg List.length HGM.out
      have h2 : (grp ctx l).length ≤ l.length := (by
        have key : ∀ l : List Ch, (grp ctx l).length ≤ l.length := by
          intro l
          induction l with
          | nil => simp [grp]
          | cons c l ih =>
            cases l with
            | nil => simp [grp, gcons]
            | cons d l =>
              obtain ⟨g, gs, p1, p2⟩ := grp_cons2 ctx c d l
              rw [p2]
              rw [p1] at ih
              split <;> simp at ih ⊢ <;> omega
        exact key l)
      rw [HE.out.1] at h2
      simp at h1
      omega)
    clear HZ HGR
    go_wp2
    go_loopw [12, 30] (fun ov iv wr => ∃ (i : Nat) (P : List (Hk × Value)), i ≤ G.length ∧ iv = .int .i64 (i : Int) ∧ (∃ oo oc, ov = .slice oo i oc) ∧ Hs W ov P wr ∧ Hid (P.length = i ∧ P.map (·.1) = (GR.take i).map (oneH a b ctx))) (fun _ iv _ => G.length - (intOf iv).toNat)
    case atStart => exact ⟨0, [], Nat.zero_le _, by go_num, ⟨_, _, rfl⟩, Hs.nil W, ⟨rfl, rfl⟩⟩
    case round =>
      obtain ⟨i, P, hi, rfl, ⟨oo, oc, rfl⟩, hS, HP⟩ := hrel
      by_cases hlt : i < G.length
      · obtain ⟨g, gv, hgi⟩ : ∃ g gv, G[i] = (g, gv) := ⟨_, _, rfl⟩
        obtain ⟨q, rfl, hcell, hch⟩ := hG.at hS.low hlt hgi
        have hGRl : GR.length = G.length := by rw [← HGM.out]; simp
        have hGRi : GR[i]'(by omega) = g := by
          have h1 : GR[i]? = some g := by rw [← HGM.out]; simp [hlt, hgi]
          exact (List.getElem?_eq_some_iff.1 h1).2
        have hsp : GR = GR.take i ++ g :: GR.drop (i + 1) := by
          rw [← hGRi, ← List.drop_eq_getElem_cons (by omega), List.take_append_drop]
        have hgne : g ≠ [] := grp_ne ctx l g (by rw [HE.out.1, ← hGRi]; exact List.getElem_mem _)
        obtain ⟨f, g', rfl⟩ : ∃ f g', g = f :: g' := by
          cases g with
          | nil => exact absurd rfl hgne
          | cons f g' => exact ⟨f, g', rfl⟩
        obtain ⟨hR1, hR2, hR3, hR4⟩ := script_at hctx.1 HE.out.2.1 (HE.out.1.trans hsp)
        have hnums := right_nums hR1
        have hgl : g'.length ≤ 1099511627776 := (by
          have h1 := congrArg List.length (grp_flatten ctx l)
          rw [HE.out.1, hsp] at h1
          simp only [List.flatten_append, List.flatten_cons, List.length_append, List.length_cons] at h1
          omega)
        obtain ⟨H, hH⟩ : ∃ H, oneH a b ctx (f :: g') = H := ⟨_, rfl⟩
        have HH : Hid (oneH a b ctx (f :: g') = H) := hH
        rw [hH] at hR4
        have hBw : Below w.heap.size w wr := hG.low.trans (hS.low.mono hG.low.size)
        have ha' := HS.keep ha hBw (Nat.le_refl _)
        have hb' := HS.keep hb hBw (Nat.le_refl _)
        obtain ⟨ho, hc, rfl⟩ := Holds.form hch
        have HP2 : ∀ y : Value, Hid ((P ++ [(H, y)]).length = i + 1 ∧ (P ++ [(H, y)]).map (·.1) = (GR.take (i + 1)).map (oneH a b ctx)) := fun y => (by
          refine ⟨by rw [List.length_append, HP.out.1]; rfl, ?_⟩
          rw [List.map_append, HP.out.2, List.take_succ_eq_append_getElem (by omega), List.map_append, hGRi]
          simp [hH])
        have i1 : 0 ≤ (i : Int) := by omega
        have i2 : (i : Int) < (G.length : Int) := by omega
        clear hsp hGRi hGRl hgne hgi hH
        go_wp2_with fail
        refine (haround_f g' (GR.drop (i + 1)).flatten f a b ctx _ _ _ wr hch ha' hb' (by omega) (by omega) hgl hctx hR1 hR3 (fun c hc => by have := (numB_iff c).1 (hnums c (by simp at hc ⊢; rcases hc with hc | hc; exact .inl hc; exact .inr (.inl hc))); omega) H HH (by omega)).mono ?_
        rintro e wr1 ⟨v1, rfl, hown1, hB1⟩
        obtain ⟨ro, rc, rfl⟩ := (holds_of hown1).form
        have hS1 : Hs W (.slice oo i oc) P wr1 := ⟨hS.low.trans (hB1.mono hS.low.size), owns_keep hS.own hB1, fun x hx => owns_keep (hS.ins x hx) hB1⟩
        have hown1' := own_base hown1 hS.low.size
        have hS5 := hS1.alloc (hkO H (.slice ro H.ls.length rc))
        have hrow5 := one_row wr1 H (.slice ro H.ls.length rc)
        have hown5 := hown1'.alloc (hkO H (.slice ro H.ls.length rc))
        have hl4 := hS1.low.size
        have hW5 : wr1.alloc (Obj.cells #[Value.int IntKind.i64 H.A, Value.int IntKind.i64 H.AN, Value.int IntKind.i64 H.B, Value.int IntKind.i64 H.BN, .slice ro H.ls.length rc] 39) = wr1.alloc (hkO H (.slice ro H.ls.length rc)) := rfl
        have HS5 : Hid ((wr1.alloc (hkO H (.slice ro H.ls.length rc))).heap.size = wr1.heap.size + 1) := (by show _ = _; simp)
        have hownP := hS5.own
        rw [HP.out.1] at hownP
        unfold hkV
        clear hB1 hown1 hR1 hnums hch hcell
        go_wp2_with (at_builtin; refine wpList_append_w _ (by kernel_rfl) (.tmp 34) (.tmp 40) 24 39 (.agg #[.int .i64 0, .int .i64 0, .int .i64 0, .int .i64 0, .slice none 0 0]) 5 56 rfl Try.underlying24 infoHk rfl (by decide) (by decide) W.heap.size _ _ _ rfl hownP _ 1 (hkC H (.slice ro H.ls.length rc)) rfl hrow5 rfl (hkC_one _) (by omega) (by have := HS5.out; omega) ?_)
        intro v6 W6 hown6 hg6 _
        have hS6 := hS5.more hown5 hg6 (ov' := v6) (by rw [HP.out.1]; exact hown6)
        obtain ⟨ro6, rc6, rfl⟩ := (holds_of hown6).form
        clear hg6 hown6 hownP hrow5
        go_wp2
        exact ⟨⟨i + 1, P ++ [(H, .slice ro H.ls.length rc)], by omega, by go_num, ⟨_, _, rfl⟩, hS6, HP2 _⟩, by simp [intOf]; omega⟩
      · have hend : decide ((i : Int) < (G.length : Int)) = false := decide_eq_false (by omega)
        have HF : Hid (P.map (·.1) = R) := (by
          have hGRl : GR.length = G.length := by rw [← HGM.out]; simp
          show _ = _
          rw [HP.out.2, List.take_of_length_le (by omega)]
          exact HR1.out)
        go_wp2
        go_ret2
        exact ⟨_, P, rfl, hS.base hG.low, HF.out⟩
  · have hz1 : (z != 0) = true := by simpa using hz
    have HRN : Hid (R = []) := (by
      show _ = _
      rw [← HR1.out, ← HGR.out]
      unfold grpR
      rw [HZ.out, if_neg hz]
      rfl)
    clear HZ HGR hz
    go_wp2
    go_ret2
    rw [HRN.out]
    exact ⟨_, [], rfl, ⟨hG.low, hnil_row _ _ _ _, fun _ h => by cases h⟩, rfl⟩
end Go.Proofs.Ythckcdpgjdbgcaa
