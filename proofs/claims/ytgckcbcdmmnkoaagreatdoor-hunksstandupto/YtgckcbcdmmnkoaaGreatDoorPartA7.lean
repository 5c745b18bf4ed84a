/-
  Texts that belong together, joined: HuM4, HuM5, HuMk, HuCa, HuLw, HuM6, PaMath, MiMath.
-/
import Derived.Test.YtgckcbcdmmnkoaaGreatDoorPartA5
import Derived.Test.YtgckcbcdmmnkoaaGreatDoorPartA6
import Derived.Test.YtgckcbcdmmnkoaaGreatDoorPartA4

/- Hunks that are made of two texts, further: in order, right, the script again, their kinds of lines; plain mathematics. -/
set_option maxRecDepth 20000
namespace Go.Proofs.YtgckcbcdmmnkoaaGreatDoor

theorem OneF.atA {a b : List (List UInt8)} {ctx : Int} {g : List Ch} {s t e : Int} (h : OneF a b ctx g s t e) : atA (oneH a b ctx g) = s := by
  unfold Go.Proofs.YtgckcbcdmmnkoaaGreatDoor.atA
  rw [h.AN, h.A]
  split <;> omega
theorem OneF.atB {a b : List (List UInt8)} {ctx : Int} {g : List Ch} {s t e : Int} (h : OneF a b ctx g s t e) : atB (oneH a b ctx g) = t := by
  unfold Go.Proofs.YtgckcbcdmmnkoaaGreatDoor.atB
  rw [h.BN, h.B]
  split <;> omega
/-- groups, one by one: what is known of the first, and where to go on -/
theorem gs_step {a b : List (List UInt8)} {ctx : Int} (hc : 0 ≤ ctx) {g : List Ch} {gs : List (List Ch)} {fl : Bool} {p q u v : Int} (h : Right fl p q a.length b.length (g :: gs).flatten) (hG : Hgs ctx (g :: gs)) (hp : 0 ≤ p) (hq : 0 ≤ q) (hu : p ≤ u) (huv : v - u = q - p) (hf : ∀ f, (g :: gs).flatten.head? = some f → u ≤ f.A - min ctx f.A) :
    ∃ f g', g = f :: g' ∧ ∃ e, OneF a b ctx g (f.A - min ctx f.A) (f.B - min ctx f.A) e ∧ u ≤ f.A - min ctx f.A ∧ f.A - f.B = u - v ∧ Right true (f.A - min ctx f.A) (f.B - min ctx f.A) a.length b.length (g ++ gs.flatten) ∧ (∀ r ∈ U (f.A - min ctx f.A) (f.B - min ctx f.A) a.length b.length (g ++ gs.flatten), r ∈ U p q a.length b.length (g :: gs).flatten) ∧ e ≤ (gs.flatten.head?.map (·.A)).getD (a.length : Int) ∧ e ≤ endA 0 g + ctx ∧
      Right false (endA 0 g) (endB 0 g) a.length b.length gs.flatten ∧ 0 ≤ endA 0 g ∧ 0 ≤ endB 0 g ∧ (∀ r ∈ U (endA 0 g) (endB 0 g) a.length b.length gs.flatten, r ∈ U p q a.length b.length (g :: gs).flatten) ∧ endA 0 g ≤ e ∧ ∀ d, gs.flatten.head? = some d → e ≤ d.A - min ctx d.A := by
  obtain ⟨h1, h2, h3⟩ := hG
  cases g with
  | nil => exact absurd rfl h1
  | cons f g =>
    have hf' := hf f rfl
    rw [List.flatten_cons] at h
    have hw : p ≤ f.A - min ctx f.A := by omega
    have hr : ∀ d, gs.flatten.head? = some d → endA 0 (f :: g) + ctx ≤ d.A := fun d hd => by have := h2 d hd; omega
    obtain ⟨k1, k2, k3, k4⟩ := one_facts hc h hp hq hw hr
    have hAB : f.A - p = f.B - q := h.1.2.1
    obtain ⟨r1, r2, r3, r4, r5⟩ := right_end (g := f :: g) (rest := gs.flatten) h
    have e0 : endA p (f :: g) = endA 0 (f :: g) := rfl
    have e1 : endB q (f :: g) = endB 0 (f :: g) := rfl
    rw [e0] at r1 r2 r4
    rw [e1] at r1 r3 r5
    have r1' : Right false (endA 0 (f :: g)) (endB 0 (f :: g)) a.length b.length gs.flatten := by
      rcases r1 with r1 | r1
      · exact r1
      · cases r1
    refine ⟨f, g, rfl, _, k1, hf', by omega, k2, ?_, k4, by omega, r1', by omega, by omega, ?_, k1.le, ?_⟩
    · rw [List.flatten_cons]; exact k3
    · intro r hr
      rw [List.flatten_cons]
      have : ∀ (x : List Ch) (p q : Int), r ∈ U (endA p x) (endB q x) a.length b.length gs.flatten → x ≠ [] ∨ (p = endA p x ∧ q = endB q x) → r ∈ U p q a.length b.length (x ++ gs.flatten) := by
        intro x
        induction x with
        | nil => intro p q h _; exact h
        | cons c x ih =>
          intro p q h _
          rw [List.cons_append, U_cons]
          refine List.mem_append_right _ (ih _ _ h ?_)
          cases x with
          | nil => exact .inr ⟨rfl, rfl⟩
          | cons => exact .inl (by simp)
      exact this (f :: g) p q hr (.inl (by simp))
    · intro d hd
      have := h2 d hd
      omega
/-- they are in order -/
theorem made_ord {a b : List (List UInt8)} {ctx : Int} (hc : 0 ≤ ctx) (gs : List (List Ch)) : ∀ (fl : Bool) (p q u v : Int), Right fl p q a.length b.length gs.flatten → Hgs ctx gs → 0 ≤ p → 0 ≤ q → p ≤ u → v - u = q - p → (∀ f, gs.flatten.head? = some f → u ≤ f.A - min ctx f.A) → ordB u v (gs.map (oneH a b ctx)) = true := by
  induction gs with
  | nil => intros; rfl
  | cons g gs ih =>
    intro fl p q u v h hG hp hq hu huv hf
    obtain ⟨f, g', rfl, e, h1, h2, h3, _, _, _, h4, h5, h6, h7, _, h8, h9⟩ := gs_step hc h hG hp hq hu huv hf
    simp only [List.map_cons, ordB]
    rw [h1.atA, h1.atB, h1.AN, h1.BN, decide_eq_true h2, decide_eq_true (by omega : f.A - min ctx f.A - u = f.B - min ctx f.A - v)]
    have := ih false _ _ (f.A - min ctx f.A + (e - (f.A - min ctx f.A))) (f.B - min ctx f.A + (endB 0 (f :: g') + (e - endA 0 (f :: g')) - (f.B - min ctx f.A))) h5 hG.2.2 h6 h7 (by omega) (by omega) (fun d hd => by have := h9 d hd; omega)
    rw [this]
    rfl

/-- lines that are kept, taken out, put in, as changes -/
theorem ch_same (x : List (List UInt8)) : ∀ (p q : Int) (r : List Ch) (t : List Mk), chLs p q r (mks 32 x ++ t) = chLs (p + x.length) (q + x.length) r t := by
  induction x with
  | nil => intro p q r t; simp [mks]
  | cons s x ih =>
    intro p q r t
    show chLs p q r (⟨32, s⟩ :: (mks 32 x ++ t)) = _
    simp only [chLs]
    rw [if_pos trivial, ih]
    congr 1 <;> simp <;> omega
theorem ch_out (x : List (List UInt8)) : ∀ (c : Ch) (p q : Int) (r : List Ch) (t : List Mk), c.A + c.AN = p → c.B + c.BN = q → chLs p q (c :: r) (mks 45 x ++ t) = chLs (p + x.length) q (⟨c.A, c.AN + x.length, c.B, c.BN⟩ :: r) t := by
  induction x with
  | nil => intro c p q r t _ _; simp [mks]
  | cons s x ih =>
    intro c p q r t h1 h2
    show chLs p q (c :: r) (⟨45, s⟩ :: (mks 45 x ++ t)) = _
    simp only [chLs]
    rw [if_neg (by decide), if_pos trivial]
    have : opn p q (c :: r) = c :: r := by simp [opn, endsAt, h1, h2]
    rw [this]
    simp only [bmA]
    rw [ih ⟨c.A, c.AN + 1, c.B, c.BN⟩ _ _ r t (by dsimp only; omega) h2]
    simp only [List.length_cons]
    congr 1
    · omega
    · congr 2; omega
theorem ch_in (x : List (List UInt8)) : ∀ (c : Ch) (p q : Int) (r : List Ch) (t : List Mk), c.A + c.AN = p → c.B + c.BN = q → chLs p q (c :: r) (mks 43 x ++ t) = chLs p (q + x.length) (⟨c.A, c.AN, c.B, c.BN + x.length⟩ :: r) t := by
  induction x with
  | nil => intro c p q r t _ _; simp [mks]
  | cons s x ih =>
    intro c p q r t h1 h2
    show chLs p q (c :: r) (⟨43, s⟩ :: (mks 43 x ++ t)) = _
    simp only [chLs]
    rw [if_neg (by decide), if_neg (by decide)]
    have : opn p q (c :: r) = c :: r := by simp [opn, endsAt, h1, h2]
    rw [this]
    simp only [bmB]
    rw [ih ⟨c.A, c.AN, c.B, c.BN + 1⟩ _ _ r t h1 (by dsimp only; omega)]
    simp only [List.length_cons]
    congr 1
    · omega
    · congr 2; omega
theorem ch_change (X Y : List (List UInt8)) (hne : X ≠ [] ∨ Y ≠ []) (p q : Int) (r : List Ch) (t : List Mk) (hr : endsAt p q r = false) : chLs p q r (mks 45 X ++ (mks 43 Y ++ t)) = chLs (p + X.length) (q + Y.length) (⟨p, X.length, q, Y.length⟩ :: r) t := by
  have hop : opn p q r = ⟨p, 0, q, 0⟩ :: r := by simp [opn, hr]
  cases X with
  | nil =>
    cases Y with
    | nil => simp at hne
    | cons s Y =>
      show chLs p q r (⟨43, s⟩ :: (mks 43 Y ++ t)) = _
      simp only [chLs]
      rw [if_neg (by decide), if_neg (by decide), hop]
      simp only [bmB]
      rw [ch_in Y ⟨p, 0, q, 0 + 1⟩ _ _ r t (by dsimp only; omega) (by dsimp only; omega)]
      simp only [List.length_cons, List.length_nil]
      congr 1
      · omega
      · omega
      · congr 2; omega
  | cons s X =>
    show chLs p q r (⟨45, s⟩ :: (mks 45 X ++ (mks 43 Y ++ t))) = _
    simp only [chLs]
    rw [if_neg (by decide), if_pos trivial, hop]
    simp only [bmA]
    rw [ch_out X ⟨p, 0 + 1, q, 0⟩ _ _ r _ (by dsimp only; omega) (by dsimp only; omega)]
    dsimp only
    rw [ch_in Y ⟨p, 0 + 1 + X.length, q, 0⟩ _ _ r t (by dsimp only; omega) (by dsimp only; omega)]
    simp only [List.length_cons]
    congr 1
    · omega
    · congr 2 <;> omega
theorem body_ch {a b : List (List UInt8)} {e : Int} {rest : List Ch} (g : List Ch) : ∀ (fl : Bool) (p q : Int) (r : List Ch), Right fl p q a.length b.length (g ++ rest) → 0 ≤ p → 0 ≤ q → (∀ c g', g = c :: g' → endsAt c.A c.B r = false) → chLs p q r (bodyH a b e p g) = g.reverse ++ r := by
  induction g with
  | nil =>
    intro fl p q r _ _ _ _
    have := ch_same (cut a p (e - p)) p q r []
    rw [List.append_nil] at this
    simp only [bodyH]
    rw [this]
    rfl
  | cons c g ih =>
    intro fl p q r h hp hq hr
    have hr' := hr c g rfl
    obtain ⟨⟨h1, h2, h3, h4⟩, h5⟩ := h
    have h1' := (numB_iff c).1 h1
    obtain ⟨_, e1, e2, e3, e4⟩ := right_end h5
    have x1 := hcut_length (A := a) (p := p) (k := c.A - p) hp (by omega) (by omega)
    have x2 := hcut_length (A := b) (p := c.B) (k := c.BN) (by omega) (by omega) (by omega)
    have x3 := hcut_length (A := a) (p := c.A) (k := c.AN) (by omega) (by omega) (by omega)
    simp only [bodyH]
    rw [ch_same, show p + ((cut a p (c.A - p)).length : Int) = c.A by omega, show q + ((cut a p (c.A - p)).length : Int) = c.B by omega, ch_change _ _ ?_ _ _ _ _ hr', x2, x3, ih false _ _ _ h5 (by omega) (by omega) ?_]
    · simp
    · intro d g' hd
      subst hd
      obtain ⟨⟨_, _, _, k4⟩, _⟩ := h5
      have k4' : c.A + c.AN < d.A := by simpa using k4
      simp [endsAt]
      omega
    · rcases (by omega : 0 < c.AN ∨ 0 < c.BN) with z | z
      · left
        intro hz
        rw [hz] at x3
        simp at x3
        omega
      · right
        intro hz
        rw [hz] at x2
        simp at x2
        omega
/-- they are the script again -/
theorem made_ch {a b : List (List UInt8)} {ctx : Int} (hc : 0 ≤ ctx) (gs : List (List Ch)) : ∀ (fl : Bool) (p q u v : Int) (r : List Ch), Right fl p q a.length b.length gs.flatten → Hgs ctx gs → 0 ≤ p → 0 ≤ q → p ≤ u → v - u = q - p → (∀ f, gs.flatten.head? = some f → u ≤ f.A - min ctx f.A) → (∀ f, gs.flatten.head? = some f → endsAt f.A f.B r = false) → chHs r (gs.map (oneH a b ctx)) = gs.flatten.reverse ++ r := by
  induction gs with
  | nil => intros; rfl
  | cons g gs ih =>
    intro fl p q u v r h hG hp hq hu huv hf hr
    obtain ⟨f, g', rfl, e, h1, h2, h3, hR, _, _, h4, h5, h6, h7, _, h8, h9⟩ := gs_step hc h hG hp hq hu huv hf
    simp only [List.map_cons, chHs]
    rw [h1.atA, h1.atB, h1.ls, body_ch (f :: g') true _ _ r hR h1.s0 h1.t0 (fun c x hx => by cases hx; exact hr f rfl)]
    rw [ih false _ _ e (endB 0 (f :: g') + (e - endA 0 (f :: g'))) _ h5 hG.2.2 h6 h7 h8 (by omega) h9 ?_]
    · simp
    · intro d hd
      have := hG.2.1 d hd
      have hlast : ∀ (x : List Ch) (c : Ch), ∃ y z, (c :: x).reverse = z :: y ∧ z.A + z.AN = endA 0 (c :: x) := by
        intro x
        induction x with
        | nil => intro c; exact ⟨[], c, rfl, rfl⟩
        | cons d x ih =>
          intro c
          obtain ⟨y, z, q1, q2⟩ := ih d
          refine ⟨y ++ [c], z, ?_, q2⟩
          rw [List.reverse_cons, q1]
          rfl
      obtain ⟨y, z, q1, q2⟩ := hlast g' f
      rw [q1]
      simp only [List.cons_append, endsAt]
      have : ¬ (z.A + z.AN = d.A) := by omega
      simp [this]

/-- has a line a line feed ahead of its end? -/
def inn (s : List UInt8) : Bool := s.dropLast.any fun c => c == 10
def innL (l : List (List UInt8)) : Bool := l.any inn
theorem lin_of {s : List UInt8} (h0 : s ≠ []) (hi : inn s = false) : linB s = true := by
  unfold linB
  have e1 : s.isEmpty = false := by cases s with | nil => exact absurd rfl h0 | cons => rfl
  rw [e1]
  simp only [inn, List.any_eq_false] at hi
  simp only [Bool.not_false, Bool.true_and, List.all_eq_true]
  intro c hc
  have := hi c hc
  simpa using this
theorem abl_iff (L : List (List UInt8)) : abl L = true ↔ ∀ (i : Nat) (hi : i + 1 < L.length), fdB L[i] = true := by
  induction L with
  | nil => simp [abl]
  | cons t r ih =>
    simp only [abl, Bool.and_eq_true, Bool.or_eq_true, ih]
    constructor
    · rintro ⟨h1, h2⟩ i hi
      cases i with
      | zero =>
        rcases h1 with h1 | h1
        · simp at h1 hi
          subst h1
          simp at hi
        · exact h1
      | succ i => exact h2 i (by simpa using hi)
    · intro h
      refine ⟨?_, fun i hi => h (i + 1) (by simpa using hi)⟩
      cases r with
      | nil => exact .inl rfl
      | cons s r => exact .inr (h 0 (by simp))
theorem abl_cut {A : List (List UInt8)} (h : abl A = true) (p k : Int) : abl (cut A p k) = true := by
  rw [abl_iff] at h ⊢
  intro i hi
  have hl : i + 1 < k.toNat ∧ p.toNat + (i + 1) < A.length := by
    simp only [cut, List.length_take, List.length_drop] at hi
    omega
  have := h (p.toNat + i) (by omega)
  simpa [cut] using this
theorem mem_cut {A : List (List UInt8)} {p k : Int} {t : List UInt8} (h : t ∈ cut A p k) : t ∈ A := List.mem_of_mem_drop (List.mem_of_mem_take h)
theorem mem_body {a b : List (List UInt8)} {e : Int} (g : List Ch) : ∀ (p : Int), ∀ m ∈ bodyH a b e p g, okS m.sg = true ∧ (m.tx ∈ a ∨ m.tx ∈ b) := by
  have hm : ∀ (s : Int) (x : List (List UInt8)) (m : Mk), m ∈ mks s x → m.sg = s ∧ m.tx ∈ x := by
    intro s x m h
    simp only [mks, List.mem_map] at h
    obtain ⟨t, ht, rfl⟩ := h
    exact ⟨rfl, ht⟩
  induction g with
  | nil =>
    intro p m h
    obtain ⟨h1, h2⟩ := hm _ _ _ h
    rw [h1]
    exact ⟨by decide, .inl (mem_cut h2)⟩
  | cons c g ih =>
    intro p m h
    simp only [bodyH, List.mem_append] at h
    rcases h with h | h | h | h
    · obtain ⟨h1, h2⟩ := hm _ _ _ h
      rw [h1]
      exact ⟨by decide, .inl (mem_cut h2)⟩
    · obtain ⟨h1, h2⟩ := hm _ _ _ h
      rw [h1]
      exact ⟨by decide, .inl (mem_cut h2)⟩
    · obtain ⟨h1, h2⟩ := hm _ _ _ h
      rw [h1]
      exact ⟨by decide, .inr (mem_cut h2)⟩
    · exact ih _ m h
/-- a group has a line that is not kept -/
theorem body_some {a b : List (List UInt8)} {e p q : Int} {fl : Bool} {f : Ch} {g rest : List Ch} (h : Right fl p q a.length b.length (f :: g ++ rest)) : (bodyH a b e p (f :: g)).all (fun m => decide (m.sg = 32)) = false := by
  obtain ⟨⟨h1, h2, h3, h4⟩, h5⟩ := h
  have h1' := (numB_iff f).1 h1
  have hle := h5.le
  simp only [bodyH, List.all_append]
  have hx : ∀ (s : Int) (x : List (List UInt8)), s ≠ 32 → x ≠ [] → (mks s x).all (fun m => decide (m.sg = 32)) = false := by
    intro s x hs hx
    cases x with
    | nil => exact absurd rfl hx
    | cons t x => simp [mks, hs]
  rcases (by omega : 0 < f.AN ∨ 0 < f.BN) with z | z
  · have x3 := hcut_length (A := a) (p := f.A) (k := f.AN) (by omega) (by omega) (by omega)
    rw [hx 45 (cut a f.A f.AN) (by decide) (by intro hz; rw [hz] at x3; simp at x3; omega)]
    simp
  · have x2 := hcut_length (A := b) (p := f.B) (k := f.BN) (by omega) (by omega) (by omega)
    rw [hx 43 (cut b f.B f.BN) (by decide) (by intro hz; rw [hz] at x2; simp at x2; omega)]
    simp
/-- a made hunk is right, but for line feeds within lines -/
theorem made_chk {a b : List (List UInt8)} {ctx : Int} (hc : 0 ≤ ctx) (ha : a.length ≤ 1000000) (hb : b.length ≤ 1000000) (gs : List (List Ch)) : ∀ (fl : Bool) (p q u v : Int), Right fl p q a.length b.length gs.flatten → (∀ r ∈ U p q a.length b.length gs.flatten, a[r.a.toNat]? = b[r.b.toNat]?) → Hgs ctx gs → 0 ≤ p → 0 ≤ q → p ≤ u → v - u = q - p → (∀ f, gs.flatten.head? = some f → u ≤ f.A - min ctx f.A) →
    (∀ t, t ∈ a ∨ t ∈ b → t ≠ []) → abl a = true → abl b = true → errs (gs.map (oneH a b ctx)) = 0 ∨ errs (gs.map (oneH a b ctx)) = 6 ∧ innL (a ++ b) = true := by
  induction gs with
  | nil => intros; exact .inl rfl
  | cons g gs ih =>
    intro fl p q u v h hs hG hp hq hu huv hf hne hla hlb
    obtain ⟨f, g', rfl, e, h1, h2, h3, hR, hU, hE, h4, h5, h6, h7, hU2, h8, h9⟩ := gs_step hc h hG hp hq hu huv hf
    have hi := ih false _ _ e (endB 0 (f :: g') + (e - endA 0 (f :: g'))) h5 (fun r hr => hs r (hU2 r hr)) hG.2.2 h6 h7 h8 (by omega) h9 hne hla hlb
    simp only [List.map_cons, errs]
    have hrng : rngB (oneH a b ctx (f :: g')) = true := by
      have z1 := h1.s0
      have z2 := h1.t0
      have z3 := h1.en
      have z4 := h1.em
      have z5 := h1.se
      have z6 := h1.le
      have hkn : (0 : Int) ≤ endB 0 (f :: g') + (e - endA 0 (f :: g')) - (f.B - min ctx f.A) := by
        have hz : ((pkL 45 (oneH a b ctx (f :: g')).ls).length : Int) = (oneH a b ctx (f :: g')).BN := rfl
        rw [h1.BN] at hz
        omega
      simp only [rngB]
      rw [h1.A, h1.AN, h1.B, h1.BN]
      obtain ⟨k2, hk2⟩ : ∃ k2, endB 0 (f :: g') + (e - endA 0 (f :: g')) - (f.B - min ctx f.A) = k2 := ⟨_, rfl⟩
      rw [hk2]
      have y1 : nat31 (if 0 < e - (f.A - min ctx f.A) then f.A - min ctx f.A + 1 else f.A - min ctx f.A) = true := by
        simp only [nat31, Bool.and_eq_true, decide_eq_true_eq]; split <;> omega
      have y2 : nat31 (e - (f.A - min ctx f.A)) = true := by simp only [nat31, Bool.and_eq_true, decide_eq_true_eq]; omega
      have y3 : nat31 (if 0 < k2 then f.B - min ctx f.A + 1 else f.B - min ctx f.A) = true := by
        simp only [nat31, Bool.and_eq_true, decide_eq_true_eq]; split <;> omega
      have y4 : nat31 k2 = true := by simp only [nat31, Bool.and_eq_true, decide_eq_true_eq]; omega
      have y5 : (decide ((if 0 < e - (f.A - min ctx f.A) then f.A - min ctx f.A + 1 else f.A - min ctx f.A) = 0) && decide (0 < e - (f.A - min ctx f.A))) = false := by
        by_cases z : 0 < e - (f.A - min ctx f.A)
        · rw [if_pos z, decide_eq_false (by omega), Bool.false_and]
        · rw [decide_eq_false z, Bool.and_false]
      have y6 : (decide ((if 0 < k2 then f.B - min ctx f.A + 1 else f.B - min ctx f.A) = 0) && decide (0 < k2)) = false := by
        by_cases z : 0 < k2
        · rw [if_pos z, decide_eq_false (by omega), Bool.false_and]
        · rw [decide_eq_false z, Bool.and_false]
      rw [y1, y2, y3, y4, y5, y6]
      rfl
    have hcnt : ¬ ((oneH a b ctx (f :: g')).AN ≠ (oldL (oneH a b ctx (f :: g'))).length ∨ (oneH a b ctx (f :: g')).BN ≠ (newL (oneH a b ctx (f :: g'))).length) := by
      have q1 : (oneH a b ctx (f :: g')).AN = ((oldL (oneH a b ctx (f :: g'))).length : Int) := rfl
      have q2 : (oneH a b ctx (f :: g')).BN = ((newL (oneH a b ctx (f :: g'))).length : Int) := rfl
      simp [← q1, ← q2]
    have hall : (oneH a b ctx (f :: g')).ls.all (fun m => decide (m.sg = 32)) = false := by
      rw [h1.ls]
      exact body_some hR
    have hchk : chkH (oneH a b ctx (f :: g')) = if fldB (oneH a b ctx (f :: g')).ls = false then 6 else 0 := by
      simp only [chkH]
      rw [if_neg (by rw [hrng]; simp)]
      by_cases z : fldB (oneH a b ctx (f :: g')).ls = false
      · rw [if_pos z, if_pos z]
      · rw [if_neg z, if_neg z, if_neg hcnt, if_neg (by rw [hall]; simp)]
    rw [hchk]
    by_cases hF : fldB (oneH a b ctx (f :: g')).ls = false
    · rw [if_pos hF, if_pos (by decide)]
      refine .inr ⟨rfl, ?_⟩
      cases hin : innL (a ++ b) with
      | true => rfl
      | false =>
        exfalso
        have : fldB (oneH a b ctx (f :: g')).ls = true := by
          rw [fld_iff]
          refine ⟨fun m hm => ?_, ?_, ?_⟩
          · rw [h1.ls] at hm
            obtain ⟨k1, k2⟩ := mem_body _ _ m hm
            refine ⟨lin_of (hne _ k2) ?_, k1⟩
            simp only [innL, List.any_eq_false] at hin
            have := hin m.tx (by simpa using k2)
            simpa using this
          · have := h1.old
            unfold oldL at this
            rw [this]
            exact abl_cut hla _ _
          · rw [h1.ls, body_new hR (fun r hr => hs r (hU r hr)) h1.s0 h1.t0 h1.le hE]
            exact abl_cut hlb _ _
        rw [this] at hF
        cases hF
    · rw [if_neg hF]
      simpa using hi

/-- a made hunk's lines: those that are taken out stand first -/
theorem body_nf {a b : List (List UInt8)} {e : Int} {rest : List Ch} (g : List Ch) : ∀ (fl s : Bool) (p q : Int), Right fl p q a.length b.length (g ++ rest) → 0 ≤ p → (s = true → fl = false) → Nf s (bodyH a b e p g) := by
  have n32 : ∀ (x : List (List UInt8)) (t : List Mk) (s : Bool), (x = [] → Nf s t) → (x ≠ [] → Nf false t) → Nf s (mks 32 x ++ t) := by
    intro x
    induction x with
    | nil => intro t s h _; exact h rfl
    | cons y x ih =>
      intro t s _ h
      show Nf s (⟨32, y⟩ :: (mks 32 x ++ t))
      simp only [Nf]
      rw [if_neg (by decide), if_neg (by decide)]
      exact ih t false (fun _ => h (by simp)) (fun _ => h (by simp))
  have n45 : ∀ (x : List (List UInt8)) (t : List Mk), Nf false t → Nf false (mks 45 x ++ t) := by
    intro x
    induction x with
    | nil => intro t h; exact h
    | cons y x ih =>
      intro t h
      show Nf false (⟨45, y⟩ :: (mks 45 x ++ t))
      simp only [Nf]
      simp only [if_true, true_and]
      exact ih t h
  have n43 : ∀ (x : List (List UInt8)) (t : List Mk) (s : Bool), (∀ s, Nf s t) → Nf s (mks 43 x ++ t) := by
    intro x
    induction x with
    | nil => intro t s h; exact h s
    | cons y x ih =>
      intro t s h
      show Nf s (⟨43, y⟩ :: (mks 43 x ++ t))
      simp only [Nf]
      rw [if_neg (by decide)]
      simp only [if_true]
      exact ih t true h
  induction g with
  | nil =>
    intro fl s p q _ _ _
    simp only [bodyH]
    have := n32 (cut a p (e - p)) [] s (fun _ => by simp [Nf]) (fun _ => by simp [Nf])
    rwa [List.append_nil] at this
  | cons c g ih =>
    intro fl s p q h hp hs
    obtain ⟨⟨h1, h2, h3, h4⟩, h5⟩ := h
    have h1' := (numB_iff c).1 h1
    have hle := h5.le
    have hrest : Nf false (mks 45 (cut a c.A c.AN) ++ (mks 43 (cut b c.B c.BN) ++ bodyH a b e (c.A + c.AN) g)) :=
      n45 _ _ (n43 _ _ _ fun s' => ih false s' _ _ h5 (by omega) (fun _ => rfl))
    simp only [bodyH]
    refine n32 _ _ s (fun hx => ?_) (fun _ => hrest)
    cases s with
    | false => exact hrest
    | true =>
      exfalso
      have hf := hs rfl
      have hlt : p < c.A := by
        rcases h4 with h4 | h4
        · rw [hf] at h4; cases h4
        · exact h4
      have x1 := hcut_length (A := a) (p := p) (k := c.A - p) hp (by omega) (by omega)
      rw [hx] at x1
      simp at x1
      omega
/-- how many lines are not kept -/
def cntC : List Mk → Nat
  | [] => 0
  | m :: l => if m.sg ≠ 32 then cntC l + 1 else cntC l
def cntHs : List Hk → Nat
  | [] => 0
  | h :: l => cntC h.ls + cntHs l
theorem cntC_append (x y : List Mk) : cntC (x ++ y) = cntC x + cntC y := by
  induction x with
  | nil => simp [cntC]
  | cons m x ih => simp only [List.cons_append, cntC, ih]; split <;> omega
theorem cntC_same (x : List (List UInt8)) : cntC (mks 32 x) = 0 := by
  induction x with
  | nil => rfl
  | cons t x ih =>
    show cntC (⟨32, t⟩ :: mks 32 x) = 0
    simp [cntC, ih]
theorem cntC_not {s : Int} (hs : s ≠ 32) (x : List (List UInt8)) : cntC (mks s x) = x.length := by
  induction x with
  | nil => rfl
  | cons t x ih =>
    show cntC (⟨s, t⟩ :: mks s x) = _
    simp [cntC, ih, hs]
def sumC (a b : List (List UInt8)) : List Ch → Nat
  | [] => 0
  | c :: l => (cut a c.A c.AN).length + (cut b c.B c.BN).length + sumC a b l
theorem sumC_append (a b : List (List UInt8)) (x y : List Ch) : sumC a b (x ++ y) = sumC a b x + sumC a b y := by
  induction x with
  | nil => simp [sumC]
  | cons c x ih => simp only [List.cons_append, sumC, ih]; omega
theorem body_cnt (a b : List (List UInt8)) (e : Int) (g : List Ch) : ∀ p, cntC (bodyH a b e p g) = sumC a b g := by
  induction g with
  | nil => intro p; exact cntC_same _
  | cons c g ih =>
    intro p
    simp only [bodyH, cntC_append, cntC_same, cntC_not (show (45 : Int) ≠ 32 by decide), cntC_not (show (43 : Int) ≠ 32 by decide), ih, sumC]
    omega
/-- as many lines are changed, however many are kept around them -/
theorem made_cnt (a b : List (List UInt8)) (ctx : Int) (gs : List (List Ch)) : cntHs (gs.map (oneH a b ctx)) = sumC a b gs.flatten := by
  induction gs with
  | nil => rfl
  | cons g gs ih =>
    simp only [List.map_cons, cntHs, List.flatten_cons, sumC_append, ih]
    congr 1
    cases g with
    | nil => rfl
    | cons f g => exact body_cnt a b _ (f :: g) _
/-- without lines around them each change is alone -/
theorem grp_zero (l : List Ch) : ∀ (fl : Bool) (p q n m : Int), Right fl p q n m l → grp 0 l = l.map fun c => [c] := by
  induction l with
  | nil => intros; rfl
  | cons c l ih =>
    intro fl p q n m h
    have hi := ih false _ _ n m h.2
    cases l with
    | nil => rfl
    | cons d l =>
      obtain ⟨g, gs, h1, h2⟩ := grp_cons2 0 c d l
      have h4 : c.A + c.AN < d.A := by simpa using h.2.1.2.2.2
      rw [h2, if_neg (by omega), List.map_cons, ← hi, h1]
/-- with all of them there is one group -/
theorem grp_all (ctx : Int) (l : List Ch) : ∀ (fl : Bool) (p q n m : Int), Right fl p q n m l → 0 ≤ p → n ≤ 2 * ctx → (grp ctx l).length = min 1 l.length := by
  induction l with
  | nil => intros; rfl
  | cons c l ih =>
    intro fl p q n m h hp hn
    have h1' := (numB_iff c).1 h.1.1
    have hi := ih false _ _ n m h.2 (by omega) hn
    cases l with
    | nil => rfl
    | cons d l =>
      obtain ⟨g, gs, h1, h2⟩ := grp_cons2 ctx c d l
      have hd := (numB_iff d).1 h.2.1.1
      have hle := h.2.2.le
      rw [h1] at hi
      simp only [List.length_cons] at hi
      rw [h2, if_pos (by omega)]
      simp only [List.length_cons]
      omega
end Go.Proofs.YtgckcbcdmmnkoaaGreatDoor

/- Each group of a right script, and its hunk; how many lines it has; plain mathematics. -/
set_option maxRecDepth 20000
namespace Go.Proofs.YtgckcbcdmmnkoaaGreatDoor

theorem all_len (l : List Mk) (h : ∀ m ∈ l, okS m.sg = true) : l.length ≤ (pkL 43 l).length + (pkL 45 l).length := by
  induction l with
  | nil => simp
  | cons m l ih =>
    have hi := ih fun q hq => h q (by simp [hq])
    have hm := h m (by simp)
    simp only [pkL]
    by_cases h1 : m.sg = 43
    · rw [if_neg (fun q => q.1 h1), if_pos ⟨by omega, hm⟩]
      simp only [List.length_cons]
      omega
    · rw [if_pos ⟨h1, hm⟩]
      split <;> simp only [List.length_cons] <;> omega
/-- a group somewhere in the row -/
theorem gs_at {a b : List (List UInt8)} {ctx : Int} (hc : 0 ≤ ctx) (pre : List (List Ch)) : ∀ (fl : Bool) (p q : Int) (f : Ch) (g : List Ch) (post : List (List Ch)), Right fl p q a.length b.length (pre ++ (f :: g) :: post).flatten → Hgs ctx (pre ++ (f :: g) :: post) → 0 ≤ p → 0 ≤ q → (∀ d, (pre ++ (f :: g) :: post).flatten.head? = some d → p ≤ d.A - min ctx d.A) →
    Right true (f.A - min ctx f.A) (f.B - min ctx f.A) a.length b.length (f :: g ++ post.flatten) ∧ 0 ≤ f.A - min ctx f.A ∧ 0 ≤ f.B - min ctx f.A ∧ (oneH a b ctx (f :: g)).ls.length ≤ a.length + b.length := by
  induction pre with
  | nil =>
    intro fl p q f g post h hG hp hq hf
    obtain ⟨f', g', he, e, h1, h2, h3, hR, _, _, h4, h5, h6, h7, _, h8, h9⟩ := gs_step hc h hG hp hq (Int.le_refl p) (show q - p = q - p from rfl) hf
    cases he
    refine ⟨hR, h1.s0, h1.t0, ?_⟩
    have hl := all_len (oneH a b ctx (f :: g)).ls (fun m hm => by rw [h1.ls] at hm; exact (mem_body _ _ m hm).1)
    have ho : (pkL 43 (oneH a b ctx (f :: g)).ls).length ≤ a.length := (by
      have e1 := h1.old
      unfold oldL at e1
      rw [e1]
      simp only [cut, List.length_take, List.length_drop]
      omega)
    have hn : ((pkL 45 (oneH a b ctx (f :: g)).ls).length : Int) = (oneH a b ctx (f :: g)).BN := rfl
    rw [h1.BN] at hn
    have := h1.em
    have := h1.t0
    omega
  | cons g0 pre ih =>
    intro fl p q f g post h hG hp hq hf
    obtain ⟨f', g', rfl, e, h1, h2, h3, hR, _, _, h4, h5, h6, h7, _, h8, h9⟩ := gs_step hc h hG hp hq (Int.le_refl p) (show q - p = q - p from rfl) hf
    exact ih false _ _ f g post h5 hG.2.2 h6 h7 (fun d hd => by have := h9 d hd; omega)
theorem script_at {a b : List (List UInt8)} {ctx : Int} (hc : 0 ≤ ctx) {l : List Ch} (hs : Script l a.length b.length) {pre post : List (List Ch)} {f : Ch} {g : List Ch} (he : grp ctx l = pre ++ (f :: g) :: post) :
    Right true (f.A - min ctx f.A) (f.B - min ctx f.A) a.length b.length (f :: g ++ post.flatten) ∧ 0 ≤ f.A - min ctx f.A ∧ 0 ≤ f.B - min ctx f.A ∧ (oneH a b ctx (f :: g)).ls.length ≤ a.length + b.length := by
  have hfl := grp_flatten ctx l
  have hG := grp_gs ctx l
  have hr := hs.2.2
  rw [← hfl] at hr
  rw [he] at hr hG
  refine gs_at hc pre true 0 0 f g post hr hG (Int.le_refl _) (Int.le_refl _) (fun d hd => ?_)
  have hd2 : d ∈ (pre ++ (f :: g) :: post).flatten := List.mem_of_head? hd
  have hn : numB d = true := by
    have key : ∀ (l : List Ch) (fl : Bool) (p q n m : Int), Right fl p q n m l → ∀ c ∈ l, numB c = true := by
      intro l
      induction l with
      | nil => intro fl p q n m _ c hc; cases hc
      | cons x l ih =>
        intro fl p q n m h c hc
        rcases List.mem_cons.1 hc with rfl | hc
        · exact h.1.1
        · exact ih _ _ _ _ _ h.2 c hc
    exact key _ _ _ _ _ _ hr d hd2
  have := (numB_iff d).1 hn
  omega
end Go.Proofs.YtgckcbcdmmnkoaaGreatDoor

/- The reference's Make of layer 11, walked. -/
set_option maxRecDepth 20000
namespace Go.Proofs.YtgckcbcdmmnkoaaGreatDoor
open Go.RowKit

theorem Hs.base {w W u : World} {ov : Value} {P : List (Hk × Value)} (h : Hs W ov P u) (hB : Below w.heap.size w W) : Hs w ov P u :=
  ⟨hB.trans (h.low.mono hB.size), own_base h.own hB.size, fun x hx => own_base (h.ins x hx) hB.size⟩
/-- a group of the row, read -/
theorem Gr.at {w W u : World} {oo : Option Addr} {n oc : Nat} {G : List (List Ch × Value)} (h : Gr w (.slice oo n oc) G W) (hB : Below W.heap.size W u) {i : Nat} (hi : i < G.length) {g : List Ch} {gv : Value} (hg : G[i] = (g, gv)) : ∃ q, oo = some ⟨q, 0, none⟩ ∧ u.cell? ⟨q, i, none⟩ = some gv ∧ HCh u gv g := by
  have hh := holds_of h.own
  obtain ⟨b, off, c', hv, hb, hc⟩ := Holds.at hh (by simp; omega)
  rcases h.own.2 with ⟨_, h0⟩ | ⟨q, cap, cur, e, _⟩
  · omega
  · cases e
    cases hv
    refine ⟨_, rfl, ?_, ?_⟩
    · have h1 := hc i (by simpa using hi)
      rw [Nat.zero_add] at h1
      refine hcell_keep hB ?_
      rw [h1]
      simp [hg]
    · have hin := h.ins (g, gv) (by rw [← hg]; exact List.getElem_mem hi)
      exact HCh.keep (holds_of hin) hB (Nat.le_refl _)

end Go.Proofs.YtgckcbcdmmnkoaaGreatDoor

/- The code's Make of layer 11, walked. -/
set_option maxRecDepth 20000
namespace Go.Proofs.YtgckcbcdmmnkoaaGreatDoor
open Go.RowKit

set_option maxRecDepth 10000 in
set_option maxHeartbeats 16000000 in
theorem hMake_f (l : List Ch) (a b : List (List UInt8)) (ctx : Int) (v va vb : Value) (w : World) (hv : HCh w v l) (ha : HS w va a) (hb : HS w vb b) (hl : l.length ≤ 1099511627776) (hal : a.length ≤ 137438953472) (hbl : b.length ≤ 137438953472) (z : Int) (HZ : Hid (grpE l a.length b.length ctx = z)) (R : List Hk) (HR : Hid (mkR l a b ctx = R)) : Calls Tryz.prog 10 #[v, va, vb, .int .i64 ctx] w fun e w' => ∃ v' P, e = .returned (.tuple #[v', .int .i64 z]) ∧ Hs w v' P w' ∧ P.map (·.1) = R := by
  obtain ⟨vo, lc, rfl⟩ := Holds.form hv
  obtain ⟨ao, ac, rfl⟩ := Holds.form ha
  obtain ⟨bo, bc, rfl⟩ := Holds.form hb
  obtain ⟨GR, hGR⟩ : ∃ GR, grpR l a.length b.length ctx = GR := ⟨_, rfl⟩
  have HGR : Hid (grpR l a.length b.length ctx = GR) := hGR
  have HR1 : Hid (GR.map (oneH a b ctx) = R) := (by show _ = _; rw [← HR.out, ← hGR]; rfl)
  clear hGR
  go_enter Tryz.func10, Tryz.ntmps10
  go_wp2_with fail
  refine (hGroup_f l a.length b.length ctx _ w hv hl (by omega) (by omega) z HZ GR HGR).mono ?_
  rintro e W ⟨gv0, G, rfl, hG, _, hGm⟩
  obtain ⟨go, gc, rfl⟩ := (holds_of hG.own).form
  have HGM : Hid (G.map (·.1) = GR) := hGm
  clear hGm HR
  by_cases hz : z = 0
  · subst hz
    have HE : Hid (grp ctx l = GR ∧ Script l a.length b.length ∧ 0 ≤ ctx ∧ ctx ≤ 100) := (by
      have h1 := HZ.out
      have h2 := HGR.out
      unfold grpR at h2
      rw [h1, if_pos rfl] at h2
      refine ⟨h2, ?_⟩
      unfold grpE at h1
      by_cases hs : Script l a.length b.length
      · refine ⟨hs, ?_⟩
        rw [chk_ok hs] at h1
        by_cases hx : ctx < 0 ∨ 100 < ctx
        · simp [hx] at h1
        · omega
      · rw [chk_no hs] at h1
        simp at h1)
    have hctx := HE.out.2.2
    have hGl : G.length ≤ 1099511627776 := (by
      have h1 := congrArg List.length HGM.out
      have h2 : (grp ctx l).length ≤ l.length := (by
        have key : ∀ l : List Ch, (grp ctx l).length ≤ l.length := by
          intro l
          induction l with
          | nil => simp [grp]
          | cons c l ih =>
            cases l with
            | nil => simp [grp, gcons]
            | cons d l =>
              obtain ⟨g, gs, p1, p2⟩ := grp_cons2 ctx c d l
              rw [p2]
              rw [p1] at ih
              split <;> simp at ih ⊢ <;> omega
        exact key l)
      rw [HE.out.1] at h2
      simp at h1
      omega)
    clear HZ HGR
    go_wp2
    go_loopw [12, 30] (fun ov iv wr => ∃ (i : Nat) (P : List (Hk × Value)), i ≤ G.length ∧ iv = .int .i64 (i : Int) ∧ (∃ oo oc, ov = .slice oo i oc) ∧ Hs W ov P wr ∧ Hid (P.length = i ∧ P.map (·.1) = (GR.take i).map (oneH a b ctx))) (fun _ iv _ => G.length - (intOf iv).toNat)
    case atStart => exact ⟨0, [], Nat.zero_le _, by go_num, ⟨_, _, rfl⟩, Hs.nil W, ⟨rfl, rfl⟩⟩
    case round =>
      obtain ⟨i, P, hi, rfl, ⟨oo, oc, rfl⟩, hS, HP⟩ := hrel
      by_cases hlt : i < G.length
      · obtain ⟨g, gv, hgi⟩ : ∃ g gv, G[i] = (g, gv) := ⟨_, _, rfl⟩
        obtain ⟨q, rfl, hcell, hch⟩ := hG.at hS.low hlt hgi
        have hGRl : GR.length = G.length := by rw [← HGM.out]; simp
        have hGRi : GR[i]'(by omega) = g := by
          have h1 : GR[i]? = some g := by rw [← HGM.out]; simp [hlt, hgi]
          exact (List.getElem?_eq_some_iff.1 h1).2
        have hsp : GR = GR.take i ++ g :: GR.drop (i + 1) := by
          rw [← hGRi, ← List.drop_eq_getElem_cons (by omega), List.take_append_drop]
        have hgne : g ≠ [] := grp_ne ctx l g (by rw [HE.out.1, ← hGRi]; exact List.getElem_mem _)
        obtain ⟨f, g', rfl⟩ : ∃ f g', g = f :: g' := by
          cases g with
          | nil => exact absurd rfl hgne
          | cons f g' => exact ⟨f, g', rfl⟩
        obtain ⟨hR1, hR2, hR3, hR4⟩ := script_at hctx.1 HE.out.2.1 (HE.out.1.trans hsp)
        have hnums := right_nums hR1
        have hgl : g'.length ≤ 1099511627776 := (by
          have h1 := congrArg List.length (grp_flatten ctx l)
          rw [HE.out.1, hsp] at h1
          simp only [List.flatten_append, List.flatten_cons, List.length_append, List.length_cons] at h1
          omega)
        obtain ⟨H, hH⟩ : ∃ H, oneH a b ctx (f :: g') = H := ⟨_, rfl⟩
        have HH : Hid (oneH a b ctx (f :: g') = H) := hH
        rw [hH] at hR4
        have hBw : Below w.heap.size w wr := hG.low.trans (hS.low.mono hG.low.size)
        have ha' := HS.keep ha hBw (Nat.le_refl _)
        have hb' := HS.keep hb hBw (Nat.le_refl _)
        obtain ⟨ho, hc, rfl⟩ := Holds.form hch
        have HP2 : ∀ y : Value, Hid ((P ++ [(H, y)]).length = i + 1 ∧ (P ++ [(H, y)]).map (·.1) = (GR.take (i + 1)).map (oneH a b ctx)) := fun y => (by
          refine ⟨by rw [List.length_append, HP.out.1]; rfl, ?_⟩
          rw [List.map_append, HP.out.2, List.take_succ_eq_append_getElem (by omega), List.map_append, hGRi]
          simp [hH])
        have i1 : 0 ≤ (i : Int) := by omega
        have i2 : (i : Int) < (G.length : Int) := by omega
        clear hsp hGRi hGRl hgne hgi hH
        go_wp2_with fail
        refine (haround_f g' (GR.drop (i + 1)).flatten f a b ctx _ _ _ wr hch ha' hb' (by omega) (by omega) hgl hctx hR1 hR3 (fun c hc => by have := (numB_iff c).1 (hnums c (by simp at hc ⊢; rcases hc with hc | hc; exact .inl hc; exact .inr (.inl hc))); omega) H HH (by omega)).mono ?_
        rintro e wr1 ⟨v1, rfl, hown1, hB1⟩
        obtain ⟨ro, rc, rfl⟩ := (holds_of hown1).form
        have hS1 : Hs W (.slice oo i oc) P wr1 := ⟨hS.low.trans (hB1.mono hS.low.size), owns_keep hS.own hB1, fun x hx => owns_keep (hS.ins x hx) hB1⟩
        have hown1' := own_base hown1 hS.low.size
        have hS5 := hS1.alloc (hkO H (.slice ro H.ls.length rc))
        have hrow5 := one_row wr1 H (.slice ro H.ls.length rc)
        have hown5 := hown1'.alloc (hkO H (.slice ro H.ls.length rc))
        have hl4 := hS1.low.size
        have hW5 : wr1.alloc (Obj.cells #[Value.int IntKind.i64 H.A, Value.int IntKind.i64 H.AN, Value.int IntKind.i64 H.B, Value.int IntKind.i64 H.BN, .slice ro H.ls.length rc] 39) = wr1.alloc (hkO H (.slice ro H.ls.length rc)) := rfl
        have HS5 : Hid ((wr1.alloc (hkO H (.slice ro H.ls.length rc))).heap.size = wr1.heap.size + 1) := (by show _ = _; simp)
        have hownP := hS5.own
        rw [HP.out.1] at hownP
        unfold hkV
        clear hB1 hown1 hR1 hnums hch hcell
        go_wp2_with (at_builtin; refine wpList_append_w _ (by kernel_rfl) (.tmp 34) (.tmp 40) 32 39 (.agg #[.int .i64 0, .int .i64 0, .int .i64 0, .int .i64 0, .slice none 0 0]) 5 56 rfl Tryz.underlying32 infoHk rfl (by decide) (by decide) W.heap.size _ _ _ rfl hownP _ 1 (hkC H (.slice ro H.ls.length rc)) rfl hrow5 rfl (hkC_one _) (by omega) (by have := HS5.out; omega) ?_)
        intro v6 W6 hown6 hg6 _
        have hS6 := hS5.more hown5 hg6 (ov' := v6) (by rw [HP.out.1]; exact hown6)
        obtain ⟨ro6, rc6, rfl⟩ := (holds_of hown6).form
        clear hg6 hown6 hownP hrow5
        go_wp2
        exact ⟨⟨i + 1, P ++ [(H, .slice ro H.ls.length rc)], by omega, by go_num, ⟨_, _, rfl⟩, hS6, HP2 _⟩, by simp [intOf]; omega⟩
      · have hend : decide ((i : Int) < (G.length : Int)) = false := decide_eq_false (by omega)
        have HF : Hid (P.map (·.1) = R) := (by
          have hGRl : GR.length = G.length := by rw [← HGM.out]; simp
          show _ = _
          rw [HP.out.2, List.take_of_length_le (by omega)]
          exact HR1.out)
        go_wp2
        go_ret2
        exact ⟨_, P, rfl, hS.base hG.low, HF.out⟩
  · have hz1 : (z != 0) = true := by simpa using hz
    have HRN : Hid (R = []) := (by
      show _ = _
      rw [← HR1.out, ← HGR.out]
      unfold grpR
      rw [HZ.out, if_neg hz]
      rfl)
    clear HZ HGR hz
    go_wp2
    go_ret2
    rw [HRN.out]
    exact ⟨_, [], rfl, ⟨hG.low, hnil_row _ _ _ _, fun _ h => by cases h⟩, rfl⟩
end Go.Proofs.YtgckcbcdmmnkoaaGreatDoor

/- The laws' own small functions of layer 11, walked: small, changed; the two texts of the chapter's first case. -/
set_option maxRecDepth 20000
namespace Go.Proofs.YtgckcbcdmmnkoaaGreatDoor
open Go.RowKit

theorem lsmall_f (a b : List (List UInt8)) (va vb : Value) (w : World) (ha : HS w va a) (hb : HS w vb b) (r : Bool) (HR : Hid ((decide (a.length ≤ 200) && decide (b.length ≤ 200)) = r)) : Calls Tryz.prog 8 #[va, vb] w fun e w' => e = .returned (.bool r) ∧ w' = w := by
  obtain ⟨ao, ac, rfl⟩ := Holds.form ha
  obtain ⟨bo, bc, rfl⟩ := Holds.form hb
  by_cases h1 : a.length ≤ 200
  · have e1 : decide ((a.length : Int) ≤ 200) = true := decide_eq_true (by omega)
    by_cases h2 : b.length ≤ 200
    · have e2 : decide ((b.length : Int) ≤ 200) = true := decide_eq_true (by omega)
      obtain rfl : r = true := by rw [← HR.out]; simp [h1, h2]
      clear HR
      go_enter Tryz.func8, Tryz.ntmps8
      go_wp2
      go_ret
      exact ⟨rfl, rfl⟩
    · have e2 : decide ((b.length : Int) ≤ 200) = false := decide_eq_false (by omega)
      obtain rfl : r = false := by rw [← HR.out]; simp [h2]
      clear HR
      go_enter Tryz.func8, Tryz.ntmps8
      go_wp2
      go_ret
      exact ⟨rfl, rfl⟩
  · have e1 : decide ((a.length : Int) ≤ 200) = false := decide_eq_false (by omega)
    obtain rfl : r = false := by rw [← HR.out]; simp [h1]
    clear HR
    go_enter Tryz.func8, Tryz.ntmps8
    go_wp2
    go_ret
    exact ⟨rfl, rfl⟩
theorem cntC_le (l : List Mk) : cntC l ≤ l.length := by
  induction l with
  | nil => simp [cntC]
  | cons m l ih => simp only [cntC, List.length_cons]; split <;> omega

set_option maxHeartbeats 4000000 in
theorem lchanged_f (p : List (Hk × Value)) (v : Value) (w : World) (hv : HHp w v p) (hok : HOk p) (N : Nat) (HN : Hid (cntHs (p.map (·.1)) = N)) (hN : N ≤ 1099511627776) : Calls Tryz.prog 22 #[v] w fun e w' => e = .returned (.int .i64 (N : Int)) ∧ w' = w := by
  obtain ⟨vo, vc, rfl⟩ := Holds.form hv.row
  have hpl : p.length ≤ 1099511627776 := hok.1
  have HOK : Hid (HOk p) := hok
  clear hok
  go_enter Tryz.func22, Tryz.ntmps22
  go_wp2
  go_loopw [3, 4, 5] (fun nv iv _ wr => ∃ (k n : Nat), k ≤ p.length ∧ nv = .int .i64 (n : Int) ∧ iv = .int .i64 (k : Int) ∧ w = wr ∧ Hid (n + cntHs ((p.drop k).map (·.1)) = N)) (fun _ iv _ _ => p.length - (intOf iv).toNat)
  case atStart => exact ⟨0, 0, Nat.zero_le _, by go_num, by go_num, rfl, by show _ = _; rw [List.drop_zero, Nat.zero_add]; exact HN.out⟩
  case round =>
    obtain ⟨k, n, hk, rfl, rfl, rfl, HI⟩ := hrel
    by_cases hlt : k < p.length
    · obtain ⟨b, off, rfl, hb, hcc⟩ := hv.at (by omega)
      obtain ⟨x, y, hxy⟩ : ∃ x y, p[k] = (x, y) := ⟨_, _, rfl⟩
      obtain ⟨c0, c1, c2, c3, c4⟩ := hcc k hlt
      have hm := hv.ins p[k] (List.getElem_mem hlt)
      have hbd := (HOK.out.2 _ (List.getElem_mem hlt)).1
      rw [hxy] at c4 hm hbd
      dsimp only at c4 hm hbd
      obtain ⟨yo, yc, rfl⟩ := hm.form
      have HI2 : Hid (n + cntC x.ls + cntHs ((p.drop (k + 1)).map (·.1)) = N) := (by
        have h := HI.out
        rw [List.drop_eq_getElem_cons hlt, List.map_cons, hxy] at h
        simp only [cntHs] at h
        show _ = _
        omega)
      obtain ⟨T, hT⟩ : ∃ T, cntHs ((p.drop (k + 1)).map (·.1)) = T := ⟨_, rfl⟩
      have HT : Hid (cntHs ((p.drop (k + 1)).map (·.1)) = T) := hT
      rw [hT] at HI2
      have i1 : 0 ≤ (k : Int) := by omega
      have i2 : (k : Int) < (p.length : Int) := by omega
      clear HI hcc c0 c1 c2 c3 hT hxy
      go_wp2
      go_loopw [3, 5] (fun nv jv wr => ∃ (j n : Nat), j ≤ x.ls.length ∧ nv = .int .i64 (n : Int) ∧ jv = .int .i64 (j : Int) ∧ w = wr ∧ Hid (n + cntC (x.ls.drop j) + T = N)) (fun _ jv _ => x.ls.length - (intOf jv).toNat)
      case atStart => exact ⟨0, n, Nat.zero_le _, by go_num, by go_num, rfl, HI2⟩
      case round =>
        obtain ⟨j, n, hj, rfl, rfl, rfl, HI⟩ := hrel
        clear HI2
        by_cases hjl : j < x.ls.length
        · obtain ⟨mb, mo, rfl, _, hmc⟩ := HMk.at hm (by omega)
          obtain ⟨m0, m1⟩ := hmc j hjl
          obtain ⟨m, hmj⟩ : ∃ m, x.ls[j] = m := ⟨_, rfl⟩
          rw [hmj] at m0 m1
          obtain ⟨sg, tx⟩ := m
          dsimp only at m0 m1
          have HI3 : Hid (n + (if sg ≠ 32 then cntC (x.ls.drop (j + 1)) + 1 else cntC (x.ls.drop (j + 1))) + T = N) := (by
            show _ = _
            rw [← HI.out, List.drop_eq_getElem_cons hjl, hmj]
            rfl)
          have j1 : 0 ≤ (j : Int) := by omega
          have j2 : (j : Int) < (x.ls.length : Int) := by omega
          clear HI hmj hmc m1
          by_cases h32 : sg = 32
          · subst h32
            have HI4 : Hid (n + cntC (x.ls.drop (j + 1)) + T = N) := (by
              have h := HI3.out
              rw [if_neg (by simp)] at h
              exact h)
            clear HI3
            go_wp2
            exact ⟨⟨j + 1, n, by omega, by go_num, by go_num, trivial, HI4⟩, by simp [intOf]; omega⟩
          · have e32 : (sg != 32) = true := by simpa using h32
            have HI4 : Hid (n + 1 + cntC (x.ls.drop (j + 1)) + T = N) := (by
              have h := HI3.out
              rw [if_pos h32] at h
              show _ = _
              omega)
            have hnb : (n : Int) + 1 ≤ 1099511627777 := by have := HI4.out; omega
            clear HI3
            go_wp2
            exact ⟨⟨j + 1, n + 1, by omega, by go_num, by go_num, trivial, HI4⟩, by simp [intOf]; omega⟩
        · have HI3 : Hid (n + cntHs ((p.drop (k + 1)).map (·.1)) = N) := (by
            have h := HI.out
            rw [List.drop_of_length_le (by omega)] at h
            have ht := HT.out
            show _ = _
            simp only [cntC] at h
            omega)
          have hend : decide ((j : Int) < (x.ls.length : Int)) = false := decide_eq_false (by omega)
          clear HI
          go_wp2
          exact ⟨⟨k + 1, n, by omega, by go_num, by go_num, trivial, HI3⟩, by simp [intOf]; omega⟩
    · obtain rfl : n = N := (by
        have h := HI.out
        rw [List.drop_of_length_le (by omega)] at h
        simpa [cntHs] using h)
      have hend : decide ((k : Int) < (p.length : Int)) = false := decide_eq_false (by omega)
      clear HI HN
      go_wp2
      go_ret
      exact ⟨rfl, rfl⟩
end Go.Proofs.YtgckcbcdmmnkoaaGreatDoor

/- What the statements on hunks of two texts ask, in plain terms. -/
set_option maxRecDepth 20000
namespace Go.Proofs.YtgckcbcdmmnkoaaGreatDoor

theorem mkR_eq {l : List Ch} {a b : List (List UInt8)} {ctx : Int} (hs : Script l a.length b.length) (hc : 0 ≤ ctx ∧ ctx ≤ 100) : mkR l a b ctx = (grp ctx l).map (oneH a b ctx) ∧ grpE l a.length b.length ctx = 0 := by
  have e : grpE l a.length b.length ctx = 0 := by
    unfold grpE
    rw [chk_ok hs, if_neg (by simp), if_neg (by omega)]
  refine ⟨?_, e⟩
  unfold mkR grpR
  rw [if_pos e]
/-- each made hunk stands where it says, and its lines stand there -/
theorem gs_each {a b : List (List UInt8)} {ctx : Int} (hc : 0 ≤ ctx) (gs : List (List Ch)) : ∀ (fl : Bool) (p q : Int), Right fl p q a.length b.length gs.flatten → (∀ r ∈ U p q a.length b.length gs.flatten, a[r.a.toNat]? = b[r.b.toNat]?) → Hgs ctx gs → 0 ≤ p → 0 ≤ q → (∀ d, gs.flatten.head? = some d → p ≤ d.A - min ctx d.A) →
    ∀ x ∈ gs.map (oneH a b ctx), (0 ≤ atA x ∧ 0 ≤ x.AN ∧ atA x + x.AN ≤ a.length) ∧ (0 ≤ atB x ∧ 0 ≤ x.BN ∧ atB x + x.BN ≤ b.length) ∧ oldL x = cut a (atA x) x.AN ∧ newL x = cut b (atB x) x.BN ∧ Nf false x.ls := by
  induction gs with
  | nil => intro fl p q _ _ _ _ _ _ x hx; simp at hx
  | cons g gs ih =>
    intro fl p q h hh hG hp hq hf x hx
    obtain ⟨f, g', rfl, e, h1, h2, h3, hR, hU, hE, h4, h5, h6, h7, hU2, h8, h9⟩ := gs_step hc h hG hp hq (Int.le_refl p) (show q - p = q - p from rfl) hf
    rw [List.map_cons] at hx
    rcases List.mem_cons.1 hx with rfl | hx
    · have hbn : ((pkL 45 (oneH a b ctx (f :: g')).ls).length : Int) = (oneH a b ctx (f :: g')).BN := rfl
      have hnew := body_new hR (fun r hr => hh r (hU r hr)) h1.s0 h1.t0 h1.le hE
      rw [h1.atA, h1.atB]
      refine ⟨⟨h1.s0, by rw [h1.AN]; have := h1.se; omega, by rw [h1.AN]; have := h1.en; omega⟩, ⟨h1.t0, by omega, by rw [h1.BN]; have := h1.em; omega⟩, by rw [h1.AN]; exact h1.old, ?_, ?_⟩
      · unfold newL
        rw [h1.ls, h1.BN]
        exact hnew
      · rw [h1.ls]
        exact body_nf (f :: g') true false _ _ hR h1.s0 (fun h => by cases h)
    · exact ih false _ _ h5 (fun r hr => hh r (hU2 r hr)) hG.2.2 h6 h7 (fun d hd => by have := h9 d hd; omega) x hx
theorem script_each {l : List Ch} {a b : List (List UInt8)} {ctx : Int} (hs : Script l a.length b.length) (hh : ∀ r ∈ U 0 0 a.length b.length l, a[r.a.toNat]? = b[r.b.toNat]?) (hc : 0 ≤ ctx ∧ ctx ≤ 100) :
    ∀ x ∈ mkR l a b ctx, (0 ≤ atA x ∧ 0 ≤ x.AN ∧ atA x + x.AN ≤ a.length) ∧ (0 ≤ atB x ∧ 0 ≤ x.BN ∧ atB x + x.BN ≤ b.length) ∧ oldL x = cut a (atA x) x.AN ∧ newL x = cut b (atB x) x.BN ∧ Nf false x.ls := by
  rw [(mkR_eq hs hc).1]
  have hfl := grp_flatten ctx l
  refine gs_each hc.1 (grp ctx l) true 0 0 (by rw [hfl]; exact hs.2.2) (by rw [hfl]; exact hh) (grp_gs ctx l) (Int.le_refl _) (Int.le_refl _) (fun d hd => ?_)
  rw [hfl] at hd
  have hr := hs.2.2
  cases l with
  | nil => cases hd
  | cons c l =>
    have hdc : c = d := by simpa using hd
    subst hdc
    have := (numB_iff c).1 hr.1.1
    omega
/-- they are right and in order, and the script again, but for line feeds within lines -/
theorem script_order {l : List Ch} {a b : List (List UInt8)} {ctx : Int} (hs : Script l a.length b.length) (hh : ∀ r ∈ U 0 0 a.length b.length l, a[r.a.toNat]? = b[r.b.toNat]?) (hc : 0 ≤ ctx ∧ ctx ≤ 100) (ha : a.length ≤ 1000000) (hb : b.length ≤ 1000000) (hne : ∀ t, t ∈ a ∨ t ∈ b → t ≠ []) (hla : abl a = true) (hlb : abl b = true) :
    (ordH (mkR l a b ctx) = 0 ∧ chR (mkR l a b ctx) = l) ∨ (ordH (mkR l a b ctx) = 6 ∧ innL (a ++ b) = true) := by
  rw [(mkR_eq hs hc).1]
  have hfl := grp_flatten ctx l
  have hr : Right true 0 0 a.length b.length (grp ctx l).flatten := by rw [hfl]; exact hs.2.2
  have hh' : ∀ r ∈ U 0 0 a.length b.length (grp ctx l).flatten, a[r.a.toNat]? = b[r.b.toNat]? := by rw [hfl]; exact hh
  have hf : ∀ d, (grp ctx l).flatten.head? = some d → (0 : Int) ≤ d.A - min ctx d.A := by
    intro d hd
    rw [hfl] at hd
    have hr := hs.2.2
    cases l with
    | nil => cases hd
    | cons c l =>
      have hdc : c = d := by simpa using hd
      subst hdc
      have := (numB_iff c).1 hr.1.1
      omega
  have hord := made_ord hc.1 (grp ctx l) true 0 0 0 0 hr (grp_gs ctx l) (Int.le_refl _) (Int.le_refl _) (Int.le_refl _) rfl hf
  have hch := made_ch hc.1 (grp ctx l) true 0 0 0 0 [] hr (grp_gs ctx l) (Int.le_refl _) (Int.le_refl _) (Int.le_refl _) rfl hf (fun _ _ => rfl)
  rcases made_chk hc.1 ha hb (grp ctx l) true 0 0 0 0 hr hh' (grp_gs ctx l) (Int.le_refl _) (Int.le_refl _) (Int.le_refl _) rfl hf hne hla hlb with h | ⟨h, hi⟩
  · left
    have e : ordH ((grp ctx l).map (oneH a b ctx)) = 0 := by
      unfold ordH
      rw [h, if_neg (by simp), if_pos hord]
    refine ⟨e, ?_⟩
    unfold chR
    rw [if_pos e, hch, hfl]
    simp
  · right
    refine ⟨?_, hi⟩
    unfold ordH
    rw [h, if_pos (by decide)]
/-- with more lines around them there are never more hunks, and as many changed lines -/
theorem script_fewer {l : List Ch} {a b : List (List UInt8)} {c1 c2 : Int} (hs : Script l a.length b.length) (h1 : 0 ≤ c1 ∧ c1 ≤ 100) (h2 : 0 ≤ c2 ∧ c2 ≤ 100) (hle : c1 ≤ c2) :
    (mkR l a b c2).length ≤ (mkR l a b c1).length ∧ cntHs (mkR l a b c1) = cntHs (mkR l a b c2) ∧ ((mkR l a b c1) = [] ↔ (mkR l a b c2) = []) := by
  rw [(mkR_eq hs h1).1, (mkR_eq hs h2).1]
  refine ⟨by simp only [List.length_map]; exact grp_fewer hle l, by rw [made_cnt, made_cnt, grp_flatten, grp_flatten], ?_⟩
  simp only [List.map_eq_nil_iff, grp_eq_nil]
/-- without lines around them each change is a hunk, of which no line is kept -/
theorem script_bare {l : List Ch} {a b : List (List UInt8)} (hs : Script l a.length b.length) : (mkR l a b 0).length = l.length ∧ ∀ x ∈ mkR l a b 0, ∀ m ∈ x.ls, m.sg ≠ 32 := by
  rw [(mkR_eq hs (by omega)).1, grp_zero l _ _ _ _ _ hs.2.2]
  refine ⟨by simp, fun x hx => ?_⟩
  simp only [List.map_map, List.mem_map, Function.comp] at hx
  obtain ⟨c, hc, rfl⟩ := hx
  have key : ∀ (l : List Ch) (fl : Bool) (p q n m : Int), Right fl p q n m l → ∀ c ∈ l, numB c = true ∧ c.A + c.AN ≤ n := by
    intro l
    induction l with
    | nil => intro fl p q n m _ c hc; cases hc
    | cons x l ih =>
      intro fl p q n m h c hc
      rcases List.mem_cons.1 hc with rfl | hc
      · exact ⟨h.1.1, h.2.le.1⟩
      · exact ih _ _ _ _ _ h.2 c hc
  obtain ⟨hn, hle⟩ := key _ _ _ _ _ _ hs.2.2 c hc
  have hn' := (numB_iff c).1 hn
  have e : (oneH a b 0 [c]).ls = mks 45 (cut a c.A c.AN) ++ mks 43 (cut b c.B c.BN) := by
    show bodyH a b (min (a.length : Int) (c.A + c.AN + 0)) (c.A - min 0 c.A) [c] = _
    rw [show min (a.length : Int) (c.A + c.AN + 0) = c.A + c.AN by omega, show c.A - min 0 c.A = c.A by omega]
    simp only [bodyH]
    rw [show c.A - c.A = (0 : Int) by omega, show c.A + c.AN - (c.A + c.AN) = (0 : Int) by omega, cut_zero, cut_zero]
    simp [mks]
  intro m hm
  rw [e] at hm
  rcases List.mem_append.1 hm with hm | hm
  · simp only [mks, List.mem_map] at hm
    obtain ⟨t, _, rfl⟩ := hm
    intro h
    cases h
  · simp only [mks, List.mem_map] at hm
    obtain ⟨t, _, rfl⟩ := hm
    intro h
    cases h
/-- with all of them there is one hunk at most, of both texts whole -/
theorem script_all {l : List Ch} {a b : List (List UInt8)} (hs : Script l a.length b.length) (ha : a.length ≤ 90) (hb : b.length ≤ 90) : (mkR l a b 100).length = min 1 l.length ∧ ∀ x ∈ mkR l a b 100, x.AN = a.length ∧ x.BN = b.length ∧ (oldL x).length = a.length := by
  rw [(mkR_eq hs (by omega)).1]
  have hl := grp_all 100 l _ _ _ _ _ hs.2.2 (Int.le_refl _) (by omega)
  refine ⟨by rw [List.length_map]; exact hl, ?_⟩
  cases l with
  | nil => intro x hx; simp [grp] at hx
  | cons f g =>
    have hfl := grp_flatten 100 (f :: g)
    obtain ⟨g0, gs, hg⟩ := grp_head 100 f g
    have hgs : gs = [] := by
      rw [hg] at hl
      simp only [List.length_cons] at hl
      exact List.eq_nil_of_length_eq_zero (by omega)
    subst hgs
    rw [hg] at hfl
    simp only [List.flatten_cons, List.flatten_nil, List.append_nil] at hfl
    have hg0 : g0 = g := by simpa using hfl
    subst hg0
    rw [hg]
    intro x hx
    simp only [List.map_cons, List.map_nil, List.mem_singleton] at hx
    subst hx
    have hr := hs.2.2
    have hf := (numB_iff f).1 hr.1.1
    have hAB : f.A - 0 = f.B - 0 := hr.1.2.1
    have hle := hr.2.le
    obtain ⟨h1, hR, _, _⟩ := one_facts (a := a) (b := b) (ctx := 100) (f := f) (g := g0) (rest := []) (p := 0) (q := 0) (fl := true) (by omega) (by rw [List.append_nil]; exact hr) (Int.le_refl _) (Int.le_refl _) (by omega) (fun d hd => by cases hd)
    obtain ⟨k1, k2, k3, k4, k5⟩ := right_end (g := f :: g0) (rest := []) hR
    have k1' : Right false (endA 0 (f :: g0)) (endB 0 (f :: g0)) a.length b.length [] := by
      rcases k1 with k1 | k1
      · exact k1
      · cases k1
    obtain ⟨z1, z2, z3⟩ := k1'
    have e0 : endA (f.A - min 100 f.A) (f :: g0) = endA 0 (f :: g0) := rfl
    rw [e0] at k2
    have hAN := h1.AN
    have hBN := h1.BN
    have hso := h1.old
    have em : min (a.length : Int) (endA 0 (f :: g0) + 100) = a.length := by
      have := h1.s0
      omega
    rw [em] at hAN hBN hso
    refine ⟨by rw [hAN]; omega, by rw [hBN]; omega, ?_⟩
    rw [hso]
    have := hcut_length (A := a) (p := f.A - min 100 f.A) (k := a.length - (f.A - min 100 f.A)) h1.s0 (by omega) (by omega)
    omega
end Go.Proofs.YtgckcbcdmmnkoaaGreatDoor

/- Rising rows of pairs: how long the longest one is that begins with each member, heads of rows, what is picked: plain. -/
set_option maxRecDepth 20000
namespace Go.Proofs.YtgckcbcdmmnkoaaGreatDoor

/-- a place of each text -/
structure Pr where
  X : Int
  Y : Int
/-- p may stand behind q in a rising row -/
abbrev ab (p q : Pr) : Prop := q.X < p.X ∧ q.Y < p.Y
theorem ab_trans {p q r : Pr} (h : ab p q) (h' : ab q r) : ab p r := ⟨Int.lt_trans h'.1 h.1, Int.lt_trans h'.2 h.2⟩
/-- the greatest length among those that may stand behind p -/
def mxl (p : Pr) : List Pr → List Nat → Nat
  | t :: ts, n :: ns => if ab t p then max n (mxl p ts ns) else mxl p ts ns
  | _, _ => 0
/-- how long the longest rising row is that begins with each member -/
def rl : List Pr → List Nat
  | [] => []
  | p :: t => (mxl p t (rl t) + 1) :: rl t
theorem rl_length (l : List Pr) : (rl l).length = l.length := by
  induction l with
  | nil => rfl
  | cons p t ih => simp [rl, ih]
theorem mxl_ge (p : Pr) (t : List Pr) (ns : List Nat) (k : Nat) (q : Pr) (n : Nat) (hq : t[k]? = some q) (hn : ns[k]? = some n) (ha : ab q p) : n ≤ mxl p t ns := by
  induction t generalizing ns k with
  | nil => simp at hq
  | cons a t ih =>
    cases ns with
    | nil => simp at hn
    | cons b ns =>
      rw [mxl]
      cases k with
      | zero =>
        simp at hq hn
        subst hq hn
        rw [if_pos ha]
        omega
      | succ k =>
        have := ih ns k (by simpa using hq) (by simpa using hn)
        split <;> omega
theorem mxl_at (p : Pr) (t : List Pr) (ns : List Nat) (h : 0 < mxl p t ns) : ∃ (k : Nat) (q : Pr), t[k]? = some q ∧ ns[k]? = some (mxl p t ns) ∧ ab q p := by
  induction t generalizing ns with
  | nil => simp [mxl] at h
  | cons a t ih =>
    cases ns with
    | nil => simp [mxl] at h
    | cons b ns =>
      rw [mxl] at h ⊢
      by_cases ha : ab a p
      · rw [if_pos ha] at h ⊢
        by_cases hb : mxl p t ns ≤ b
        · exact ⟨0, a, rfl, by simp; omega, ha⟩
        · obtain ⟨k, q, h1, h2, h3⟩ := ih ns (by omega)
          exact ⟨k + 1, q, by simpa using h1, by simp [h2]; omega, h3⟩
      · rw [if_neg ha] at h ⊢
        obtain ⟨k, q, h1, h2, h3⟩ := ih ns h
        exact ⟨k + 1, q, by simpa using h1, by simpa using h2, h3⟩
/-- a row of n + 1 members may stand behind p -/
def Hd (t : List Pr) (n : Nat) (p : Pr) : Prop := ∃ (k : Nat) (q : Pr), t[k]? = some q ∧ (rl t)[k]? = some (n + 1) ∧ ab q p
theorem Hd.down {t : List Pr} {n : Nat} {p : Pr} (h : Hd t (n + 1) p) : Hd t n p := by
  obtain ⟨k, q, h1, h2, h3⟩ := h
  induction t generalizing k with
  | nil => simp at h1
  | cons a t ih =>
    cases k with
    | zero =>
      simp [rl] at h1 h2
      subst h1
      obtain ⟨j, r, g1, g2, g3⟩ := mxl_at a t (rl t) (by omega)
      exact ⟨j + 1, r, by simpa using g1, by simp [rl, g2, h2], ab_trans g3 h3⟩
    | succ k =>
      obtain ⟨j, r, g1, g2, g3⟩ := ih k (by simpa using h1) (by simpa [rl] using h2)
      exact ⟨j + 1, r, by simpa using g1, by simpa [rl] using g2, g3⟩
theorem Hd.downs {t : List Pr} {n m : Nat} {p : Pr} (h : Hd t n p) (hm : m ≤ n) : Hd t m p := by
  induction n with
  | zero => obtain rfl : m = 0 := by omega
            exact h
  | succ n ih =>
    by_cases e : m = n + 1
    · subst e; exact h
    · exact ih h.down (by omega)
/-- X falls, Y rises, each of which may stay -/
def Stair (h : List Pr) : Prop := h.Pairwise fun a b => b.X ≤ a.X ∧ a.Y ≤ b.Y
/-- the heads of rows of each length, for what stands behind -/
structure Hds (t : List Pr) (H : List (List Pr)) : Prop where
  st : ∀ h ∈ H, Stair h
  eq : ∀ n h, H[n]? = some h → ∀ p, (∃ a ∈ h, ab a p) ↔ Hd t n p
  top : ∀ n ∈ rl t, n ≤ H.length
theorem Hds.start : Hds [] [] := ⟨by simp, by simp, by simp [rl]⟩
theorem Hds.beyond {t : List Pr} {H : List (List Pr)} (h : Hds t H) {n : Nat} (hn : H.length ≤ n) (p : Pr) : ¬ Hd t n p := by
  rintro ⟨k, q, h1, h2, h3⟩
  have := h.top (n + 1) (List.mem_of_getElem? h2)
  omega
/-- the first that is not behind p: so long is the longest row behind p -/
theorem mxl_of {t : List Pr} {H : List (List Pr)} (_h : Hds t H) {p : Pr} {n : Nat} (h1 : ∀ m, m < n → Hd t m p) (h2 : ¬ Hd t n p) : mxl p t (rl t) = n := by
  have hle : mxl p t (rl t) ≤ n := by
    by_cases hc : mxl p t (rl t) ≤ n
    · exact hc
    · exfalso
      obtain ⟨k, q, g1, g2, g3⟩ := mxl_at p t (rl t) (by omega)
      have : Hd t (mxl p t (rl t) - 1) p := ⟨k, q, g1, by rw [g2]; congr 1; omega, g3⟩
      exact h2 (this.downs (by omega))
  cases n with
  | zero => omega
  | succ n =>
    obtain ⟨k, q, g1, g2, g3⟩ := h1 n (Nat.lt_succ_self n)
    have := mxl_ge p t (rl t) k q (n + 1) g1 g2 g3
    omega
/-- how many of the heads have a greater X -/
def upto (h : List Pr) (x : Int) : Nat := h.findIdx fun a => decide (a.X ≤ x)
/-- how many of the heads have no greater Y -/
def grt (h : List Pr) (y : Int) : Nat := h.findIdx fun a => decide (y < a.Y)
/-- the heads and p -/
def ins (h : List Pr) (p : Pr) : List Pr := h.take (upto h p.X) ++ p :: h.drop (grt h p.Y)
theorem upto_le (h : List Pr) (x : Int) : upto h x ≤ h.length := List.findIdx_le_length
theorem grt_le (h : List Pr) (y : Int) : grt h y ≤ h.length := List.findIdx_le_length
theorem upto_lt {h : List Pr} {x : Int} {i : Nat} (hi : i < upto h x) (hl : i < h.length) : x < h[i].X := by
  have := List.not_of_lt_findIdx (p := fun a : Pr => decide (a.X ≤ x)) (xs := h) hi
  simpa using this
theorem upto_ge {h : List Pr} (hs : Stair h) {x : Int} {i : Nat} (hi : upto h x ≤ i) (hl : i < h.length) : h[i].X ≤ x := by
  have h0 : upto h x < h.length := by omega
  have h1 : h[upto h x].X ≤ x := of_decide_eq_true (List.findIdx_getElem (p := fun a : Pr => decide (a.X ≤ x)) (xs := h) (w := h0))
  by_cases e : upto h x = i
  · simpa [e] using h1
  · have := (List.pairwise_iff_getElem.1 hs) (upto h x) i h0 hl (by omega)
    omega
theorem grt_lt {h : List Pr} {y : Int} {i : Nat} (hi : i < grt h y) (hl : i < h.length) : h[i].Y ≤ y := by
  have := List.not_of_lt_findIdx (p := fun a : Pr => decide (y < a.Y)) (xs := h) hi
  simpa using this
theorem grt_ge {h : List Pr} (hs : Stair h) {y : Int} {i : Nat} (hi : grt h y ≤ i) (hl : i < h.length) : y < h[i].Y := by
  have h0 : grt h y < h.length := by omega
  have h1 : y < h[grt h y].Y := of_decide_eq_true (List.findIdx_getElem (p := fun a : Pr => decide (y < a.Y)) (xs := h) (w := h0))
  by_cases e : grt h y = i
  · simpa [e] using h1
  · have := (List.pairwise_iff_getElem.1 hs) (grt h y) i h0 hl (by omega)
    omega
/-- one of the heads may stand behind p just if the last one with a great enough X does -/
theorem behind_iff {h : List Pr} (hs : Stair h) (p : Pr) : (∃ a ∈ h, ab a p) ↔ 0 < upto h p.X ∧ ∃ a, h[upto h p.X - 1]? = some a ∧ p.Y < a.Y := by
  constructor
  · rintro ⟨a, ha, h1, h2⟩
    obtain ⟨i, hi, rfl⟩ := List.getElem_of_mem ha
    have hlt : i < upto h p.X := by
      by_cases c : i < upto h p.X
      · exact c
      · have := upto_ge hs (x := p.X) (i := i) (by omega) hi; omega
    have hle := upto_le h p.X
    refine ⟨by omega, h[upto h p.X - 1], List.getElem?_eq_getElem (by omega), ?_⟩
    by_cases e : i = upto h p.X - 1
    · simpa [← e] using h2
    · have := (List.pairwise_iff_getElem.1 hs) i (upto h p.X - 1) hi (by omega) (by omega)
      omega
  · rintro ⟨h0, a, ha, h1⟩
    obtain ⟨hl, rfl⟩ := List.getElem?_eq_some_iff.1 ha
    exact ⟨_, List.getElem_mem _, upto_lt (by omega) hl, h1⟩
theorem upto_grt {h : List Pr} (hs : Stair h) {p : Pr} (hn : ¬ ∃ a ∈ h, ab a p) : upto h p.X ≤ grt h p.Y := by
  by_cases c : upto h p.X ≤ grt h p.Y
  · exact c
  · exfalso
    have hl := upto_le h p.X
    exact hn ⟨h[grt h p.Y]'(by omega), List.getElem_mem _, upto_lt (by omega) (by omega), grt_ge hs (Nat.le_refl _) (by omega)⟩
theorem ins_stair {h : List Pr} (hs : Stair h) {p : Pr} (hn : ¬ ∃ a ∈ h, ab a p) : Stair (ins h p) := by
  unfold ins Stair
  rw [List.pairwise_append]
  refine ⟨hs.take, ?_, ?_⟩
  · rw [List.pairwise_cons]
    refine ⟨fun a ha => ?_, hs.drop⟩
    obtain ⟨i, hi, rfl⟩ := List.getElem_of_mem ha
    rw [List.length_drop] at hi
    rw [List.getElem_drop]
    have hug := upto_grt hs hn
    exact ⟨upto_ge hs (by omega) (by omega), Int.le_of_lt (grt_ge hs (by omega) (by omega))⟩
  · intro a ha b hb
    obtain ⟨i, hi, rfl⟩ := List.getElem_of_mem ha
    rw [List.length_take] at hi
    rw [List.getElem_take]
    have h1 := upto_lt (h := h) (x := p.X) (i := i) (by omega) (by omega)
    rw [List.mem_cons] at hb
    rcases hb with hb | hb
    · rw [hb]
      refine ⟨Int.le_of_lt h1, ?_⟩
      by_cases c : h[i].Y ≤ p.Y
      · exact c
      · exact absurd ⟨h[i], List.getElem_mem _, h1, by omega⟩ hn
    · obtain ⟨j, hj, rfl⟩ := List.getElem_of_mem hb
      rw [List.length_drop] at hj
      rw [List.getElem_drop]
      have hug := upto_grt hs hn
      exact (List.pairwise_iff_getElem.1 hs) i (grt h p.Y + j) (by omega) (by omega) (by omega)
theorem ins_ab {h : List Pr} (hs : Stair h) {p : Pr} (hn : ¬ ∃ a ∈ h, ab a p) (q : Pr) : (∃ a ∈ ins h p, ab a q) ↔ ab p q ∨ ∃ a ∈ h, ab a q := by
  constructor
  · rintro ⟨a, ha, hq⟩
    unfold ins at ha
    rw [List.mem_append, List.mem_cons] at ha
    rcases ha with ha | rfl | ha
    · exact .inr ⟨a, List.mem_of_mem_take ha, hq⟩
    · exact .inl hq
    · exact .inr ⟨a, List.mem_of_mem_drop ha, hq⟩
  · rintro (hq | ⟨a, ha, hq⟩)
    · exact ⟨p, by simp [ins], hq⟩
    · obtain ⟨i, hi, rfl⟩ := List.getElem_of_mem ha
      by_cases c1 : i < upto h p.X
      · refine ⟨h[i], ?_, hq⟩
        unfold ins
        rw [List.mem_append]
        left
        rw [List.mem_take_iff_getElem]
        exact ⟨i, by omega, rfl⟩
      · by_cases c2 : i < grt h p.Y
        · have h1 := upto_ge hs (x := p.X) (i := i) (by omega) hi
          have h2 := grt_lt (y := p.Y) (i := i) c2 hi
          have := hq.1
          have := hq.2
          exact ⟨p, by simp [ins], by unfold ab; omega⟩
        · refine ⟨h[i], ?_, hq⟩
          unfold ins
          rw [List.mem_append, List.mem_cons]
          right; right
          rw [List.mem_drop_iff_getElem]
          exact ⟨i - grt h p.Y, by omega, by congr 1; omega⟩
/-- one more list of heads, where there is none yet -/
def room (H : List (List Pr)) (n : Nat) : List (List Pr) := if n = H.length then H ++ [[]] else H
theorem Hds.step {t : List Pr} {H : List (List Pr)} (h : Hds t H) {p : Pr} {n : Nat} (hn : n ≤ H.length) (h1 : ∀ m, m < n → Hd t m p) (h2 : ¬ Hd t n p) (g : List Pr) (hg : (room H n)[n]? = some g) :
    Hds (p :: t) ((room H n).set n (ins g p)) ∧ rl (p :: t) = (n + 1) :: rl t ∧ Stair g ∧ ¬ ∃ a ∈ g, ab a p := by
  have hm := mxl_of h h1 h2
  have hr : rl (p :: t) = (n + 1) :: rl t := by rw [rl, hm]
  have hgs : Stair g ∧ ∀ q, (∃ a ∈ g, ab a q) ↔ Hd t n q := by
    unfold room at hg
    by_cases e : n = H.length
    · rw [if_pos e, e, List.getElem?_append_right (Nat.le_refl _)] at hg
      simp at hg
      subst hg
      exact ⟨List.Pairwise.nil, fun q => ⟨by simp, fun hh => absurd hh (h.beyond (by omega) q)⟩⟩
    · rw [if_neg e] at hg
      exact ⟨h.st g (List.mem_of_getElem? hg), h.eq n g hg⟩
  have hna : ¬ ∃ a ∈ g, ab a p := fun c => h2 ((hgs.2 p).1 c)
  have hlen : H.length ≤ (room H n).length ∧ n < (room H n).length := by unfold room; split <;> simp <;> omega
  refine ⟨⟨?_, ?_, ?_⟩, hr, hgs.1, hna⟩
  · intro k hk
    rcases List.mem_or_eq_of_mem_set hk with hk | rfl
    · unfold room at hk
      split at hk
      · rw [List.mem_append, List.mem_singleton] at hk
        rcases hk with hk | rfl
        · exact h.st k hk
        · exact List.Pairwise.nil
      · exact h.st k hk
    · exact ins_stair hgs.1 hna
  · intro m k hk q
    by_cases e : m = n
    · subst e
      rw [List.getElem?_set_self hlen.2] at hk
      cases hk
      rw [ins_ab hgs.1 hna, hgs.2]
      constructor
      · rintro (hq | ⟨j, r, g1, g2, g3⟩)
        · exact ⟨0, p, rfl, by rw [hr]; rfl, hq⟩
        · exact ⟨j + 1, r, by simpa using g1, by rw [hr]; simpa using g2, g3⟩
      · rintro ⟨j, r, g1, g2, g3⟩
        cases j with
        | zero => simp at g1; subst g1; exact .inl g3
        | succ j => exact .inr ⟨j, r, by simpa using g1, by rw [hr] at g2; simpa using g2, g3⟩
    · rw [List.getElem?_set_ne (fun e' => e e'.symm)] at hk
      have hk' : H[m]? = some k := by
        unfold room at hk
        split at hk
        · by_cases hml : m < H.length
          · rwa [List.getElem?_append_left hml] at hk
          · have := (List.getElem?_eq_some_iff.1 hk).1
            simp at this
            omega
        · exact hk
      rw [h.eq m k hk']
      constructor
      · rintro ⟨j, r, g1, g2, g3⟩
        exact ⟨j + 1, r, by simpa using g1, by rw [hr]; simpa using g2, g3⟩
      · rintro ⟨j, r, g1, g2, g3⟩
        cases j with
        | zero => rw [hr] at g2; simp at g2; omega
        | succ j => exact ⟨j, r, by simpa using g1, by rw [hr] at g2; simpa using g2, g3⟩
  · intro m hm'
    rw [hr, List.mem_cons] at hm'
    rw [List.length_set]
    rcases hm' with rfl | hm'
    · omega
    · have := h.top m hm'
      omega
/-- what is picked: the next member of a longest row, from the front -/
def pick : Nat → Option Pr → List Pr → List Nat → List Pr
  | left, last, p :: l, n :: ns => if n = left ∧ (∀ q, last = some q → ab p q) then p :: pick (left - 1) (some p) l ns else pick left last l ns
  | _, _, _, _ => []
/-- the greatest number -/
def mxn : List Nat → Nat
  | [] => 0
  | n :: ns => max n (mxn ns)
/-- a longest rising row -/
def lng (l : List Pr) : List Pr := pick (mxn (rl l)) none l (rl l)
end Go.Proofs.YtgckcbcdmmnkoaaGreatDoor

/- How long the longest common row of two rows of numbers is, what is kept, and what follows: plain. -/
set_option maxRecDepth 20000
namespace Go.Proofs.YtgckcbcdmmnkoaaGreatDoor

/-- how long the longest common row is -/
def lc : List Int → List Int → Nat
  | [], _ => 0
  | _ :: _, [] => 0
  | a :: x, b :: y => if a = b then lc x y + 1 else max (lc x (b :: y)) (lc (a :: x) y)
theorem lc_nil_left (y : List Int) : lc [] y = 0 := by rw [lc]
theorem lc_nil_right (x : List Int) : lc x [] = 0 := by cases x <;> rw [lc]
theorem lc_cons (a b : Int) (x y : List Int) : lc (a :: x) (b :: y) = if a = b then lc x y + 1 else max (lc x (b :: y)) (lc (a :: x) y) := by rw [lc]
theorem lc_ex (x y : List Int) : ∃ s : List Int, s.Sublist x ∧ s.Sublist y ∧ s.length = lc x y := by
  induction x generalizing y with
  | nil => exact ⟨[], List.Sublist.refl _, List.nil_sublist _, by rw [lc_nil_left]; rfl⟩
  | cons a x ih =>
    induction y with
    | nil => exact ⟨[], List.nil_sublist _, List.Sublist.refl _, by rw [lc_nil_right]; rfl⟩
    | cons b y ihy =>
      rw [lc_cons]
      by_cases h : a = b
      · subst h
        obtain ⟨s, h1, h2, h3⟩ := ih y
        exact ⟨a :: s, h1.cons_cons a, h2.cons_cons a, by rw [if_pos rfl]; simp [h3]⟩
      · rw [if_neg h]
        obtain ⟨s, h1, h2, h3⟩ := ih (b :: y)
        obtain ⟨t, k1, k2, k3⟩ := ihy
        by_cases hm : lc x (b :: y) ≤ lc (a :: x) y
        · exact ⟨t, k1, k2.cons b, by omega⟩
        · exact ⟨s, h1.cons a, h2, by omega⟩
theorem lc_le (s x y : List Int) (hx : s.Sublist x) (hy : s.Sublist y) : s.length ≤ lc x y := by
  induction x generalizing y s with
  | nil => rw [List.sublist_nil.1 hx]; simp
  | cons a x ih =>
    induction y generalizing s with
    | nil => rw [List.sublist_nil.1 hy]; simp
    | cons b y ihy =>
      rw [lc_cons]
      by_cases h : a = b
      · subst h
        rw [if_pos rfl]
        cases hx with
        | cons _ hx =>
          cases hy with
          | cons _ hy => have := ih s y hx hy; omega
          | cons_cons _ hy =>
            rename_i s
            have := ih s y ((List.sublist_cons_self a s).trans hx) hy
            simp; omega
        | cons_cons _ hx =>
          rename_i s
          have : s.Sublist y := by
            cases hy with
            | cons _ hy => exact (List.sublist_cons_self a s).trans hy
            | cons_cons _ hy => exact hy
          have := ih s y hx this
          simp; omega
      · rw [if_neg h]
        cases hx with
        | cons _ hx => have := ih s (b :: y) hx hy; omega
        | cons_cons _ hx =>
          rename_i s
          cases hy with
          | cons _ hy => have := ihy (a :: s) (hx.cons_cons a) hy; omega
          | cons_cons _ hy => exact absurd rfl h
theorem lc_left (x y : List Int) : lc x y ≤ x.length := by
  obtain ⟨s, h1, _, h3⟩ := lc_ex x y
  rw [← h3]; exact h1.length_le
theorem lc_right (x y : List Int) : lc x y ≤ y.length := by
  obtain ⟨s, _, h2, h3⟩ := lc_ex x y
  rw [← h3]; exact h2.length_le
theorem lc_of {x y x' y' : List Int} (h : ∀ s : List Int, s.Sublist x → s.Sublist y → ∃ t : List Int, t.Sublist x' ∧ t.Sublist y' ∧ s.length ≤ t.length) : lc x y ≤ lc x' y' := by
  obtain ⟨s, h1, h2, h3⟩ := lc_ex x y
  obtain ⟨t, k1, k2, k3⟩ := h s h1 h2
  have := lc_le t x' y' k1 k2
  omega
theorem lc_comm (x y : List Int) : lc x y = lc y x := Nat.le_antisymm (lc_of fun s a b => ⟨s, b, a, Nat.le_refl _⟩) (lc_of fun s a b => ⟨s, b, a, Nat.le_refl _⟩)
theorem lc_rev (x y : List Int) : lc x.reverse y.reverse = lc x y := by
  refine Nat.le_antisymm (lc_of fun s a b => ⟨s.reverse, ?_, ?_, by simp⟩) (lc_of fun s a b => ⟨s.reverse, List.reverse_sublist.2 a, List.reverse_sublist.2 b, by simp⟩)
  · have := List.reverse_sublist.2 a; rwa [List.reverse_reverse] at this
  · have := List.reverse_sublist.2 b; rwa [List.reverse_reverse] at this
theorem lc_self (x : List Int) : lc x x = x.length := Nat.le_antisymm (lc_left x x) (lc_le x x x (List.Sublist.refl _) (List.Sublist.refl _))
theorem lc_ahead (c : Int) (x y : List Int) : lc (c :: x) (c :: y) = lc x y + 1 := by rw [lc_cons, if_pos rfl]
theorem lc_mono {x x' y y' : List Int} (hx : x.Sublist x') (hy : y.Sublist y') : lc x y ≤ lc x' y' := lc_of fun s a b => ⟨s, a.trans hx, b.trans hy, Nat.le_refl _⟩
/-- a line more -/
theorem lc_more (p q y : List Int) (c : Int) : lc (p ++ q) y ≤ lc (p ++ c :: q) y ∧ lc (p ++ c :: q) y ≤ lc (p ++ q) y + 1 := by
  refine ⟨lc_mono ((List.Sublist.refl p).append (List.sublist_cons_self c q)) (List.Sublist.refl y), ?_⟩
  obtain ⟨s, h1, h2, h3⟩ := lc_ex (p ++ c :: q) y
  obtain ⟨s1, s2, rfl, k1, k2⟩ := List.sublist_append_iff.1 h1
  cases k2 with
  | cons _ k2 =>
    have := lc_le (s1 ++ s2) (p ++ q) y (k1.append k2) h2
    omega
  | cons_cons _ k2 =>
    rename_i s2
    have := lc_le (s1 ++ s2) (p ++ q) y (k1.append k2) (((List.Sublist.refl s1).append (List.sublist_cons_self c s2)).trans h2)
    simp at h3 this
    omega
/-- rows behind both -/
theorem lc_behind (x y u v : List Int) : lc x y + lc u v ≤ lc (x ++ u) (y ++ v) := by
  obtain ⟨s, h1, h2, h3⟩ := lc_ex x y
  obtain ⟨t, k1, k2, k3⟩ := lc_ex u v
  have := lc_le (s ++ t) (x ++ u) (y ++ v) (h1.append k1) (h2.append k2)
  simp at this
  omega
theorem lc_all (x y : List Int) : lc x y = x.length ↔ x.Sublist y := by
  constructor
  · intro h
    obtain ⟨s, h1, h2, h3⟩ := lc_ex x y
    have : s = x := h1.eq_of_length (by omega)
    rwa [← this]
  · intro h
    exact Nat.le_antisymm (lc_left x y) (lc_le x x y (List.Sublist.refl _) h)
/-- how much of x is found in y, going through y once -/
def gr : List Int → List Int → Nat
  | [], _ => 0
  | _ :: _, [] => 0
  | a :: x, b :: y => if a = b then gr x y + 1 else gr (a :: x) y
theorem gr_le (x y : List Int) : gr x y ≤ x.length := by
  induction y generalizing x with
  | nil => cases x <;> simp [gr]
  | cons b y ih =>
    cases x with
    | nil => simp [gr]
    | cons a x =>
      rw [gr]
      split
      · have := ih x; simp; omega
      · exact ih (a :: x)
theorem gr_all (x y : List Int) : gr x y = x.length ↔ x.Sublist y := by
  induction y generalizing x with
  | nil => cases x <;> simp [gr]
  | cons b y ih =>
    cases x with
    | nil => simp [gr]
    | cons a x =>
      rw [gr]
      by_cases h : a = b
      · subst h
        rw [if_pos rfl]
        have := ih x
        rw [List.cons_sublist_cons, ← this]
        simp
      · rw [if_neg h, ih (a :: x)]
        constructor
        · exact fun h => h.cons b
        · intro k
          cases k with
          | cons _ k => exact k
          | cons_cons _ k => exact absurd rfl h

/-- what is kept: with which of y's members, numbered from b on, each of x's makes a pair -/
def kp (b : Int) : List Int → List Int → List Int
  | [], _ => []
  | _ :: x, [] => -1 :: kp b x []
  | a :: x, c :: y => if a = c then b :: kp (b + 1) x y else if lc (a :: x) y ≤ lc x (c :: y) then -1 :: kp b x (c :: y) else kp (b + 1) (a :: x) y
theorem kp_nil (b : Int) (y : List Int) : kp b [] y = [] := by rw [kp]
theorem kp_none (b : Int) (x : List Int) : kp b x [] = List.replicate x.length (-1) := by
  induction x with
  | nil => rw [kp]; rfl
  | cons a x ih => rw [kp, ih]; rfl
theorem kp_cons (b a c : Int) (x y : List Int) : kp b (a :: x) (c :: y) = if a = c then b :: kp (b + 1) x y else if lc (a :: x) y ≤ lc x (c :: y) then -1 :: kp b x (c :: y) else kp (b + 1) (a :: x) y := by rw [kp]
theorem kp_length (b : Int) (x y : List Int) : (kp b x y).length = x.length := by
  induction x generalizing y b with
  | nil => rw [kp_nil]
  | cons a x ih =>
    induction y generalizing b with
    | nil => rw [kp_none]; simp
    | cons c y ihy =>
      rw [kp_cons]
      split
      · simp [ih]
      split
      · simp [ih]
      · exact ihy _
theorem Vk.up {a b m : Int} {K : List Int} (h : Vk b m K) (hab : a ≤ b) : Vk a m K := by
  induction K with
  | nil => trivial
  | cons z t ih =>
    rcases h with ⟨h1, h2⟩ | ⟨h1, h2, h3⟩
    · exact .inl ⟨h1, ih h2⟩
    · exact .inr ⟨h1, by omega, h3⟩
theorem Vk.none (b m : Int) (k : Nat) : Vk b m (List.replicate k (-1)) := by
  induction k with
  | zero => trivial
  | succ k ih => exact .inl ⟨rfl, ih⟩
theorem kp_vk (b : Int) (x y : List Int) (hb : 0 ≤ b) : Vk b (b + y.length) (kp b x y) := by
  induction x generalizing y b with
  | nil => rw [kp_nil]; trivial
  | cons a x ih =>
    induction y generalizing b with
    | nil => rw [kp_none]; exact Vk.none _ _ _
    | cons c y ihy =>
      rw [kp_cons]
      split
      · refine .inr ⟨by omega, by omega, by simp; omega, ?_⟩
        have := ih (b + 1) y (by omega)
        rw [show b + ((c :: y).length : Int) = b + 1 + (y.length : Int) by simp; omega]
        exact this
      split
      · exact .inl ⟨rfl, ih b (c :: y) hb⟩
      · have := ihy (b + 1) (by omega)
        rw [show b + ((c :: y).length : Int) = b + 1 + (y.length : Int) by simp; omega]
        exact this.up (by omega)
/-- how many pairs a list of what is kept holds -/
def prs (K : List Int) : Nat := (K.filter fun z => decide (0 ≤ z)).length
theorem prs_kp (b : Int) (x y : List Int) (hb : 0 ≤ b) : prs (kp b x y) = lc x y := by
  induction x generalizing y b with
  | nil => rw [kp_nil, lc_nil_left]; rfl
  | cons a x ih =>
    induction y generalizing b with
    | nil =>
      rw [kp_none, lc_nil_right]
      simp [prs]
    | cons c y ihy =>
      rw [kp_cons, lc_cons]
      by_cases h : a = c
      · rw [if_pos h, if_pos h, ← ih (b + 1) y (by omega)]
        simp [prs, hb]
      · rw [if_neg h, if_neg h]
        split
        · have := ih b (c :: y) hb
          rw [show prs (-1 :: kp b x (c :: y)) = prs (kp b x (c :: y)) by simp [prs], this]
          omega
        · rw [ihy (b + 1) (by omega)]
          omega
/-- what is kept is the same -/
theorem kp_same (b : Int) (x y : List Int) (hb : 0 ≤ b) (i : Nat) (z : Int) (h : (kp b x y)[i]? = some z) (hz : 0 ≤ z) : b ≤ z ∧ ∃ c, x[i]? = some c ∧ y[(z - b).toNat]? = some c := by
  induction x generalizing y b i with
  | nil => rw [kp_nil] at h; simp at h
  | cons a x ih =>
    induction y generalizing b i with
    | nil =>
      rw [kp_none] at h
      have := List.eq_of_mem_replicate (List.mem_of_getElem? h)
      omega
    | cons c y ihy =>
      rw [kp_cons] at h
      by_cases e : a = c
      · subst e
        rw [if_pos rfl] at h
        cases i with
        | zero =>
          simp at h
          subst h
          exact ⟨Int.le_refl _, a, by simp, by simp⟩
        | succ i =>
          obtain ⟨h1, d, h2, h3⟩ := ih (b + 1) y (by omega) i (by simpa using h)
          refine ⟨by omega, d, by simpa using h2, ?_⟩
          rw [show (z - b).toNat = (z - (b + 1)).toNat + 1 by omega]
          simpa using h3
      · rw [if_neg e] at h
        split at h
        · cases i with
          | zero => simp at h; omega
          | succ i =>
            obtain ⟨h1, d, h2, h3⟩ := ih b (c :: y) hb i (by simpa using h)
            exact ⟨h1, d, by simpa using h2, h3⟩
        · obtain ⟨h1, d, h2, h3⟩ := ihy (b + 1) (by omega) i h
          refine ⟨by omega, d, h2, ?_⟩
          rw [show (z - b).toNat = (z - (b + 1)).toNat + 1 by omega]
          simpa using h3
/-- how many members are the same at the front -/
def fr : List Int → List Int → Nat
  | a :: x, b :: y => if a = b then fr x y + 1 else 0
  | _, _ => 0
theorem fr_le (x y : List Int) : fr x y ≤ x.length ∧ fr x y ≤ y.length := by
  induction x generalizing y with
  | nil => simp [fr]
  | cons a x ih =>
    cases y with
    | nil => simp [fr]
    | cons b y =>
      have := ih y
      rw [fr]
      split <;> simp <;> omega
theorem fr_lc (x y : List Int) : fr x y + lc (x.drop (fr x y)) (y.drop (fr x y)) = lc x y := by
  induction x generalizing y with
  | nil => simp [fr, lc_nil_left]
  | cons a x ih =>
    cases y with
    | nil => simp [fr, lc_nil_right]
    | cons b y =>
      have := ih y
      rw [fr]
      split
      · rename_i h
        subst h
        rw [lc_ahead]
        simp
        omega
      · simp
theorem fr_at (x y : List Int) (i : Nat) (h : i < fr x y) : x[i]? = y[i]? := by
  induction x generalizing y i with
  | nil => simp [fr] at h
  | cons a x ih =>
    cases y with
    | nil => simp [fr] at h
    | cons b y =>
      rw [fr] at h
      split at h
      · rename_i e
        subst e
        cases i with
        | zero => simp
        | succ i => simpa using ih y i (by omega)
      · omega
theorem fr_step (x y : List Int) (i : Nat) (hx : i < x.length) (hy : i < y.length) : fr (x.drop i) (y.drop i) = if x[i] = y[i] then fr (x.drop (i + 1)) (y.drop (i + 1)) + 1 else 0 := by
  rw [List.drop_eq_getElem_cons hx, List.drop_eq_getElem_cons hy, fr]
/-- a length of two places -/
def ln (x y : List Int) (i j : Nat) : Nat := lc (x.drop i) (y.drop j)
theorem ln_end (x y : List Int) (i j : Nat) (h : x.length ≤ i ∨ y.length ≤ j) : ln x y i j = 0 := by
  rcases h with h | h
  · rw [ln, List.drop_of_length_le h, lc_nil_left]
  · rw [ln, List.drop_of_length_le h, lc_nil_right]
theorem ln_step (x y : List Int) (i j : Nat) (hx : i < x.length) (hy : j < y.length) : ln x y i j = if x[i] = y[j] then ln x y (i + 1) (j + 1) + 1 else max (ln x y (i + 1) j) (ln x y i (j + 1)) := by
  unfold ln
  rw [List.drop_eq_getElem_cons hx, List.drop_eq_getElem_cons hy, lc_cons]
theorem ln_le (x y : List Int) (i j : Nat) : ln x y i j ≤ x.length := by
  have := lc_left (x.drop i) (y.drop j)
  simp at this
  unfold ln
  omega
theorem ln_zero (x y : List Int) : ln x y 0 0 = lc x y := rfl
theorem kp_step (b : Int) (x y : List Int) (i j : Nat) (hx : i < x.length) (hy : j < y.length) : kp b (x.drop i) (y.drop j) = if x[i] = y[j] then b :: kp (b + 1) (x.drop (i + 1)) (y.drop (j + 1)) else if ln x y i (j + 1) ≤ ln x y (i + 1) j then -1 :: kp b (x.drop (i + 1)) (y.drop j) else kp (b + 1) (x.drop i) (y.drop (j + 1)) := by
  unfold ln
  rw [List.drop_eq_getElem_cons hx, List.drop_eq_getElem_cons hy, kp_cons]
theorem kp_same_front (b : Int) (x y : List Int) (i : Nat) (h : i < fr x y) : kp b (x.drop i) (y.drop i) = b :: kp (b + 1) (x.drop (i + 1)) (y.drop (i + 1)) := by
  have h1 := fr_le x y
  rw [kp_step b x y i i (by omega) (by omega), if_pos]
  have := fr_at x y i h
  rw [List.getElem?_eq_getElem (by omega), List.getElem?_eq_getElem (by omega)] at this
  simpa using this
end Go.Proofs.YtgckcbcdmmnkoaaGreatDoor
