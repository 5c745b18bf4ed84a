/-
  Texts that belong together, joined: HuM4, HuM5, HuMk, HuCa, LnMath, HuLm, HuLn, HuC2.
-/
import Derived.Test.YtgckcbcdmmnkoaaGreatDoorPartQA5
import Derived.Test.YtgckcbcdmmnkoaaGreatDoorPartQA6
import Derived.Lib.Bytealg
import Derived.Lib.Join
import Derived.Test.YtgckcbcdmmnkoaaGreatDoorPartQA4
import Derived.Test.YtgckcbcdmmnkoaaGreatDoorPartQA3
import Derived.BigQuiet

/- Hunks that are made of two texts, further: in order, right, the script again, their kinds of lines; plain mathematics. -/
set_option maxRecDepth 20000
namespace Go.Proofs.YtgckcbcdmmnkoaaGreatDoor

theorem OneF.atA {a b : List (List UInt8)} {ctx : Int} {g : List Ch} {s t e : Int} (h : OneF a b ctx g s t e) : atA (oneH a b ctx g) = s := by
  unfold Go.Proofs.YtgckcbcdmmnkoaaGreatDoor.atA
  rw [h.AN, h.A]
  split <;> omega
theorem OneF.atB {a b : List (List UInt8)} {ctx : Int} {g : List Ch} {s t e : Int} (h : OneF a b ctx g s t e) : atB (oneH a b ctx g) = t := by
  unfold Go.Proofs.YtgckcbcdmmnkoaaGreatDoor.atB
  rw [h.BN, h.B]
  split <;> omega
/-- groups, one by one: what is known of the first, and where to go on -/
theorem gs_step {a b : List (List UInt8)} {ctx : Int} (hc : 0 ≤ ctx) {g : List Ch} {gs : List (List Ch)} {fl : Bool} {p q u v : Int} (h : Right fl p q a.length b.length (g :: gs).flatten) (hG : Hgs ctx (g :: gs)) (hp : 0 ≤ p) (hq : 0 ≤ q) (hu : p ≤ u) (huv : v - u = q - p) (hf : ∀ f, (g :: gs).flatten.head? = some f → u ≤ f.A - min ctx f.A) :
    ∃ f g', g = f :: g' ∧ ∃ e, OneF a b ctx g (f.A - min ctx f.A) (f.B - min ctx f.A) e ∧ u ≤ f.A - min ctx f.A ∧ f.A - f.B = u - v ∧ Right true (f.A - min ctx f.A) (f.B - min ctx f.A) a.length b.length (g ++ gs.flatten) ∧ (∀ r ∈ U (f.A - min ctx f.A) (f.B - min ctx f.A) a.length b.length (g ++ gs.flatten), r ∈ U p q a.length b.length (g :: gs).flatten) ∧ e ≤ (gs.flatten.head?.map (·.A)).getD (a.length : Int) ∧ e ≤ endA 0 g + ctx ∧
      Right false (endA 0 g) (endB 0 g) a.length b.length gs.flatten ∧ 0 ≤ endA 0 g ∧ 0 ≤ endB 0 g ∧ (∀ r ∈ U (endA 0 g) (endB 0 g) a.length b.length gs.flatten, r ∈ U p q a.length b.length (g :: gs).flatten) ∧ endA 0 g ≤ e ∧ ∀ d, gs.flatten.head? = some d → e ≤ d.A - min ctx d.A := by
  obtain ⟨h1, h2, h3⟩ := hG
  cases g with
  | nil => exact absurd rfl h1
  | cons f g =>
    have hf' := hf f rfl
    rw [List.flatten_cons] at h
    have hw : p ≤ f.A - min ctx f.A := by omega
    have hr : ∀ d, gs.flatten.head? = some d → endA 0 (f :: g) + ctx ≤ d.A := fun d hd => by have := h2 d hd; omega
    obtain ⟨k1, k2, k3, k4⟩ := one_facts hc h hp hq hw hr
    have hAB : f.A - p = f.B - q := h.1.2.1
    obtain ⟨r1, r2, r3, r4, r5⟩ := right_end (g := f :: g) (rest := gs.flatten) h
    have e0 : endA p (f :: g) = endA 0 (f :: g) := rfl
    have e1 : endB q (f :: g) = endB 0 (f :: g) := rfl
    rw [e0] at r1 r2 r4
    rw [e1] at r1 r3 r5
    have r1' : Right false (endA 0 (f :: g)) (endB 0 (f :: g)) a.length b.length gs.flatten := by
      rcases r1 with r1 | r1
      · exact r1
      · cases r1
    refine ⟨f, g, rfl, _, k1, hf', by omega, k2, ?_, k4, by omega, r1', by omega, by omega, ?_, k1.le, ?_⟩
    · rw [List.flatten_cons]; exact k3
    · intro r hr
      rw [List.flatten_cons]
      have : ∀ (x : List Ch) (p q : Int), r ∈ U (endA p x) (endB q x) a.length b.length gs.flatten → x ≠ [] ∨ (p = endA p x ∧ q = endB q x) → r ∈ U p q a.length b.length (x ++ gs.flatten) := by
        intro x
        induction x with
        | nil => intro p q h _; exact h
        | cons c x ih =>
          intro p q h _
          rw [List.cons_append, U_cons]
          refine List.mem_append_right _ (ih _ _ h ?_)
          cases x with
          | nil => exact .inr ⟨rfl, rfl⟩
          | cons => exact .inl (by simp)
      exact this (f :: g) p q hr (.inl (by simp))
    · intro d hd
      have := h2 d hd
      omega
/-- they are in order -/
theorem made_ord {a b : List (List UInt8)} {ctx : Int} (hc : 0 ≤ ctx) (gs : List (List Ch)) : ∀ (fl : Bool) (p q u v : Int), Right fl p q a.length b.length gs.flatten → Hgs ctx gs → 0 ≤ p → 0 ≤ q → p ≤ u → v - u = q - p → (∀ f, gs.flatten.head? = some f → u ≤ f.A - min ctx f.A) → ordB u v (gs.map (oneH a b ctx)) = true := by
  induction gs with
  | nil => intros; rfl
  | cons g gs ih =>
    intro fl p q u v h hG hp hq hu huv hf
    obtain ⟨f, g', rfl, e, h1, h2, h3, _, _, _, h4, h5, h6, h7, _, h8, h9⟩ := gs_step hc h hG hp hq hu huv hf
    simp only [List.map_cons, ordB]
    rw [h1.atA, h1.atB, h1.AN, h1.BN, decide_eq_true h2, decide_eq_true (by omega : f.A - min ctx f.A - u = f.B - min ctx f.A - v)]
    have := ih false _ _ (f.A - min ctx f.A + (e - (f.A - min ctx f.A))) (f.B - min ctx f.A + (endB 0 (f :: g') + (e - endA 0 (f :: g')) - (f.B - min ctx f.A))) h5 hG.2.2 h6 h7 (by omega) (by omega) (fun d hd => by have := h9 d hd; omega)
    rw [this]
    rfl

/-- lines that are kept, taken out, put in, as changes -/
theorem ch_same (x : List (List UInt8)) : ∀ (p q : Int) (r : List Ch) (t : List Mk), chLs p q r (mks 32 x ++ t) = chLs (p + x.length) (q + x.length) r t := by
  induction x with
  | nil => intro p q r t; simp [mks]
  | cons s x ih =>
    intro p q r t
    show chLs p q r (⟨32, s⟩ :: (mks 32 x ++ t)) = _
    simp only [chLs]
    rw [if_pos trivial, ih]
    congr 1 <;> simp <;> omega
theorem ch_out (x : List (List UInt8)) : ∀ (c : Ch) (p q : Int) (r : List Ch) (t : List Mk), c.A + c.AN = p → c.B + c.BN = q → chLs p q (c :: r) (mks 45 x ++ t) = chLs (p + x.length) q (⟨c.A, c.AN + x.length, c.B, c.BN⟩ :: r) t := by
  induction x with
  | nil => intro c p q r t _ _; simp [mks]
  | cons s x ih =>
    intro c p q r t h1 h2
    show chLs p q (c :: r) (⟨45, s⟩ :: (mks 45 x ++ t)) = _
    simp only [chLs]
    rw [if_neg (by decide), if_pos trivial]
    have : opn p q (c :: r) = c :: r := by simp [opn, endsAt, h1, h2]
    rw [this]
    simp only [bmA]
    rw [ih ⟨c.A, c.AN + 1, c.B, c.BN⟩ _ _ r t (by dsimp only; omega) h2]
    simp only [List.length_cons]
    congr 1
    · omega
    · congr 2; omega
theorem ch_in (x : List (List UInt8)) : ∀ (c : Ch) (p q : Int) (r : List Ch) (t : List Mk), c.A + c.AN = p → c.B + c.BN = q → chLs p q (c :: r) (mks 43 x ++ t) = chLs p (q + x.length) (⟨c.A, c.AN, c.B, c.BN + x.length⟩ :: r) t := by
  induction x with
  | nil => intro c p q r t _ _; simp [mks]
  | cons s x ih =>
    intro c p q r t h1 h2
    show chLs p q (c :: r) (⟨43, s⟩ :: (mks 43 x ++ t)) = _
    simp only [chLs]
    rw [if_neg (by decide), if_neg (by decide)]
    have : opn p q (c :: r) = c :: r := by simp [opn, endsAt, h1, h2]
    rw [this]
    simp only [bmB]
    rw [ih ⟨c.A, c.AN, c.B, c.BN + 1⟩ _ _ r t h1 (by dsimp only; omega)]
    simp only [List.length_cons]
    congr 1
    · omega
    · congr 2; omega
theorem ch_change (X Y : List (List UInt8)) (hne : X ≠ [] ∨ Y ≠ []) (p q : Int) (r : List Ch) (t : List Mk) (hr : endsAt p q r = false) : chLs p q r (mks 45 X ++ (mks 43 Y ++ t)) = chLs (p + X.length) (q + Y.length) (⟨p, X.length, q, Y.length⟩ :: r) t := by
  have hop : opn p q r = ⟨p, 0, q, 0⟩ :: r := by simp [opn, hr]
  cases X with
  | nil =>
    cases Y with
    | nil => simp at hne
    | cons s Y =>
      show chLs p q r (⟨43, s⟩ :: (mks 43 Y ++ t)) = _
      simp only [chLs]
      rw [if_neg (by decide), if_neg (by decide), hop]
      simp only [bmB]
      rw [ch_in Y ⟨p, 0, q, 0 + 1⟩ _ _ r t (by dsimp only; omega) (by dsimp only; omega)]
      simp only [List.length_cons, List.length_nil]
      congr 1
      · omega
      · omega
      · congr 2; omega
  | cons s X =>
    show chLs p q r (⟨45, s⟩ :: (mks 45 X ++ (mks 43 Y ++ t))) = _
    simp only [chLs]
    rw [if_neg (by decide), if_pos trivial, hop]
    simp only [bmA]
    rw [ch_out X ⟨p, 0 + 1, q, 0⟩ _ _ r _ (by dsimp only; omega) (by dsimp only; omega)]
    dsimp only
    rw [ch_in Y ⟨p, 0 + 1 + X.length, q, 0⟩ _ _ r t (by dsimp only; omega) (by dsimp only; omega)]
    simp only [List.length_cons]
    congr 1
    · omega
    · congr 2 <;> omega
theorem body_ch {a b : List (List UInt8)} {e : Int} {rest : List Ch} (g : List Ch) : ∀ (fl : Bool) (p q : Int) (r : List Ch), Right fl p q a.length b.length (g ++ rest) → 0 ≤ p → 0 ≤ q → (∀ c g', g = c :: g' → endsAt c.A c.B r = false) → chLs p q r (bodyH a b e p g) = g.reverse ++ r := by
  induction g with
  | nil =>
    intro fl p q r _ _ _ _
    have := ch_same (cut a p (e - p)) p q r []
    rw [List.append_nil] at this
    simp only [bodyH]
    rw [this]
    rfl
  | cons c g ih =>
    intro fl p q r h hp hq hr
    have hr' := hr c g rfl
    obtain ⟨⟨h1, h2, h3, h4⟩, h5⟩ := h
    have h1' := (numB_iff c).1 h1
    obtain ⟨_, e1, e2, e3, e4⟩ := right_end h5
    have x1 := hcut_length (A := a) (p := p) (k := c.A - p) hp (by omega) (by omega)
    have x2 := hcut_length (A := b) (p := c.B) (k := c.BN) (by omega) (by omega) (by omega)
    have x3 := hcut_length (A := a) (p := c.A) (k := c.AN) (by omega) (by omega) (by omega)
    simp only [bodyH]
    rw [ch_same, show p + ((cut a p (c.A - p)).length : Int) = c.A by omega, show q + ((cut a p (c.A - p)).length : Int) = c.B by omega, ch_change _ _ ?_ _ _ _ _ hr', x2, x3, ih false _ _ _ h5 (by omega) (by omega) ?_]
    · simp
    · intro d g' hd
      subst hd
      obtain ⟨⟨_, _, _, k4⟩, _⟩ := h5
      have k4' : c.A + c.AN < d.A := by simpa using k4
      simp [endsAt]
      omega
    · rcases (by omega : 0 < c.AN ∨ 0 < c.BN) with z | z
      · left
        intro hz
        rw [hz] at x3
        simp at x3
        omega
      · right
        intro hz
        rw [hz] at x2
        simp at x2
        omega
/-- they are the script again -/
theorem made_ch {a b : List (List UInt8)} {ctx : Int} (hc : 0 ≤ ctx) (gs : List (List Ch)) : ∀ (fl : Bool) (p q u v : Int) (r : List Ch), Right fl p q a.length b.length gs.flatten → Hgs ctx gs → 0 ≤ p → 0 ≤ q → p ≤ u → v - u = q - p → (∀ f, gs.flatten.head? = some f → u ≤ f.A - min ctx f.A) → (∀ f, gs.flatten.head? = some f → endsAt f.A f.B r = false) → chHs r (gs.map (oneH a b ctx)) = gs.flatten.reverse ++ r := by
  induction gs with
  | nil => intros; rfl
  | cons g gs ih =>
    intro fl p q u v r h hG hp hq hu huv hf hr
    obtain ⟨f, g', rfl, e, h1, h2, h3, hR, _, _, h4, h5, h6, h7, _, h8, h9⟩ := gs_step hc h hG hp hq hu huv hf
    simp only [List.map_cons, chHs]
    rw [h1.atA, h1.atB, h1.ls, body_ch (f :: g') true _ _ r hR h1.s0 h1.t0 (fun c x hx => by cases hx; exact hr f rfl)]
    rw [ih false _ _ e (endB 0 (f :: g') + (e - endA 0 (f :: g'))) _ h5 hG.2.2 h6 h7 h8 (by omega) h9 ?_]
    · simp
    · intro d hd
      have := hG.2.1 d hd
      have hlast : ∀ (x : List Ch) (c : Ch), ∃ y z, (c :: x).reverse = z :: y ∧ z.A + z.AN = endA 0 (c :: x) := by
        intro x
        induction x with
        | nil => intro c; exact ⟨[], c, rfl, rfl⟩
        | cons d x ih =>
          intro c
          obtain ⟨y, z, q1, q2⟩ := ih d
          refine ⟨y ++ [c], z, ?_, q2⟩
          rw [List.reverse_cons, q1]
          rfl
      obtain ⟨y, z, q1, q2⟩ := hlast g' f
      rw [q1]
      simp only [List.cons_append, endsAt]
      have : ¬ (z.A + z.AN = d.A) := by omega
      simp [this]

/-- has a line a line feed ahead of its end? -/
def inn (s : List UInt8) : Bool := s.dropLast.any fun c => c == 10
def innL (l : List (List UInt8)) : Bool := l.any inn
theorem lin_of {s : List UInt8} (h0 : s ≠ []) (hi : inn s = false) : linB s = true := by
  unfold linB
  have e1 : s.isEmpty = false := by cases s with | nil => exact absurd rfl h0 | cons => rfl
  rw [e1]
  simp only [inn, List.any_eq_false] at hi
  simp only [Bool.not_false, Bool.true_and, List.all_eq_true]
  intro c hc
  have := hi c hc
  simpa using this
theorem abl_iff (L : List (List UInt8)) : abl L = true ↔ ∀ (i : Nat) (hi : i + 1 < L.length), fdB L[i] = true := by
  induction L with
  | nil => simp [abl]
  | cons t r ih =>
    simp only [abl, Bool.and_eq_true, Bool.or_eq_true, ih]
    constructor
    · rintro ⟨h1, h2⟩ i hi
      cases i with
      | zero =>
        rcases h1 with h1 | h1
        · simp at h1 hi
          subst h1
          simp at hi
        · exact h1
      | succ i => exact h2 i (by simpa using hi)
    · intro h
      refine ⟨?_, fun i hi => h (i + 1) (by simpa using hi)⟩
      cases r with
      | nil => exact .inl rfl
      | cons s r => exact .inr (h 0 (by simp))
theorem abl_cut {A : List (List UInt8)} (h : abl A = true) (p k : Int) : abl (cut A p k) = true := by
  rw [abl_iff] at h ⊢
  intro i hi
  have hl : i + 1 < k.toNat ∧ p.toNat + (i + 1) < A.length := by
    simp only [cut, List.length_take, List.length_drop] at hi
    omega
  have := h (p.toNat + i) (by omega)
  simpa [cut] using this
theorem mem_cut {A : List (List UInt8)} {p k : Int} {t : List UInt8} (h : t ∈ cut A p k) : t ∈ A := List.mem_of_mem_drop (List.mem_of_mem_take h)
theorem mem_body {a b : List (List UInt8)} {e : Int} (g : List Ch) : ∀ (p : Int), ∀ m ∈ bodyH a b e p g, okS m.sg = true ∧ (m.tx ∈ a ∨ m.tx ∈ b) := by
  have hm : ∀ (s : Int) (x : List (List UInt8)) (m : Mk), m ∈ mks s x → m.sg = s ∧ m.tx ∈ x := by
    intro s x m h
    simp only [mks, List.mem_map] at h
    obtain ⟨t, ht, rfl⟩ := h
    exact ⟨rfl, ht⟩
  induction g with
  | nil =>
    intro p m h
    obtain ⟨h1, h2⟩ := hm _ _ _ h
    rw [h1]
    exact ⟨by decide, .inl (mem_cut h2)⟩
  | cons c g ih =>
    intro p m h
    simp only [bodyH, List.mem_append] at h
    rcases h with h | h | h | h
    · obtain ⟨h1, h2⟩ := hm _ _ _ h
      rw [h1]
      exact ⟨by decide, .inl (mem_cut h2)⟩
    · obtain ⟨h1, h2⟩ := hm _ _ _ h
      rw [h1]
      exact ⟨by decide, .inl (mem_cut h2)⟩
    · obtain ⟨h1, h2⟩ := hm _ _ _ h
      rw [h1]
      exact ⟨by decide, .inr (mem_cut h2)⟩
    · exact ih _ m h
/-- a group has a line that is not kept -/
theorem body_some {a b : List (List UInt8)} {e p q : Int} {fl : Bool} {f : Ch} {g rest : List Ch} (h : Right fl p q a.length b.length (f :: g ++ rest)) : (bodyH a b e p (f :: g)).all (fun m => decide (m.sg = 32)) = false := by
  obtain ⟨⟨h1, h2, h3, h4⟩, h5⟩ := h
  have h1' := (numB_iff f).1 h1
  have hle := h5.le
  simp only [bodyH, List.all_append]
  have hx : ∀ (s : Int) (x : List (List UInt8)), s ≠ 32 → x ≠ [] → (mks s x).all (fun m => decide (m.sg = 32)) = false := by
    intro s x hs hx
    cases x with
    | nil => exact absurd rfl hx
    | cons t x => simp [mks, hs]
  rcases (by omega : 0 < f.AN ∨ 0 < f.BN) with z | z
  · have x3 := hcut_length (A := a) (p := f.A) (k := f.AN) (by omega) (by omega) (by omega)
    rw [hx 45 (cut a f.A f.AN) (by decide) (by intro hz; rw [hz] at x3; simp at x3; omega)]
    simp
  · have x2 := hcut_length (A := b) (p := f.B) (k := f.BN) (by omega) (by omega) (by omega)
    rw [hx 43 (cut b f.B f.BN) (by decide) (by intro hz; rw [hz] at x2; simp at x2; omega)]
    simp
/-- a made hunk is right, but for line feeds within lines -/
theorem made_chk {a b : List (List UInt8)} {ctx : Int} (hc : 0 ≤ ctx) (ha : a.length ≤ 1000000) (hb : b.length ≤ 1000000) (gs : List (List Ch)) : ∀ (fl : Bool) (p q u v : Int), Right fl p q a.length b.length gs.flatten → (∀ r ∈ U p q a.length b.length gs.flatten, a[r.a.toNat]? = b[r.b.toNat]?) → Hgs ctx gs → 0 ≤ p → 0 ≤ q → p ≤ u → v - u = q - p → (∀ f, gs.flatten.head? = some f → u ≤ f.A - min ctx f.A) →
    (∀ t, t ∈ a ∨ t ∈ b → t ≠ []) → abl a = true → abl b = true → errs (gs.map (oneH a b ctx)) = 0 ∨ errs (gs.map (oneH a b ctx)) = 6 ∧ innL (a ++ b) = true := by
  induction gs with
  | nil => intros; exact .inl rfl
  | cons g gs ih =>
    intro fl p q u v h hs hG hp hq hu huv hf hne hla hlb
    obtain ⟨f, g', rfl, e, h1, h2, h3, hR, hU, hE, h4, h5, h6, h7, hU2, h8, h9⟩ := gs_step hc h hG hp hq hu huv hf
    have hi := ih false _ _ e (endB 0 (f :: g') + (e - endA 0 (f :: g'))) h5 (fun r hr => hs r (hU2 r hr)) hG.2.2 h6 h7 h8 (by omega) h9 hne hla hlb
    simp only [List.map_cons, errs]
    have hrng : rngB (oneH a b ctx (f :: g')) = true := by
      have z1 := h1.s0
      have z2 := h1.t0
      have z3 := h1.en
      have z4 := h1.em
      have z5 := h1.se
      have z6 := h1.le
      have hkn : (0 : Int) ≤ endB 0 (f :: g') + (e - endA 0 (f :: g')) - (f.B - min ctx f.A) := by
        have hz : ((pkL 45 (oneH a b ctx (f :: g')).ls).length : Int) = (oneH a b ctx (f :: g')).BN := rfl
        rw [h1.BN] at hz
        omega
      simp only [rngB]
      rw [h1.A, h1.AN, h1.B, h1.BN]
      obtain ⟨k2, hk2⟩ : ∃ k2, endB 0 (f :: g') + (e - endA 0 (f :: g')) - (f.B - min ctx f.A) = k2 := ⟨_, rfl⟩
      rw [hk2]
      have y1 : nat31 (if 0 < e - (f.A - min ctx f.A) then f.A - min ctx f.A + 1 else f.A - min ctx f.A) = true := by
        simp only [nat31, Bool.and_eq_true, decide_eq_true_eq]; split <;> omega
      have y2 : nat31 (e - (f.A - min ctx f.A)) = true := by simp only [nat31, Bool.and_eq_true, decide_eq_true_eq]; omega
      have y3 : nat31 (if 0 < k2 then f.B - min ctx f.A + 1 else f.B - min ctx f.A) = true := by
        simp only [nat31, Bool.and_eq_true, decide_eq_true_eq]; split <;> omega
      have y4 : nat31 k2 = true := by simp only [nat31, Bool.and_eq_true, decide_eq_true_eq]; omega
      have y5 : (decide ((if 0 < e - (f.A - min ctx f.A) then f.A - min ctx f.A + 1 else f.A - min ctx f.A) = 0) && decide (0 < e - (f.A - min ctx f.A))) = false := by
        by_cases z : 0 < e - (f.A - min ctx f.A)
        · rw [if_pos z, decide_eq_false (by omega), Bool.false_and]
        · rw [decide_eq_false z, Bool.and_false]
      have y6 : (decide ((if 0 < k2 then f.B - min ctx f.A + 1 else f.B - min ctx f.A) = 0) && decide (0 < k2)) = false := by
        by_cases z : 0 < k2
        · rw [if_pos z, decide_eq_false (by omega), Bool.false_and]
        · rw [decide_eq_false z, Bool.and_false]
      rw [y1, y2, y3, y4, y5, y6]
      rfl
    have hcnt : ¬ ((oneH a b ctx (f :: g')).AN ≠ (oldL (oneH a b ctx (f :: g'))).length ∨ (oneH a b ctx (f :: g')).BN ≠ (newL (oneH a b ctx (f :: g'))).length) := by
      have q1 : (oneH a b ctx (f :: g')).AN = ((oldL (oneH a b ctx (f :: g'))).length : Int) := rfl
      have q2 : (oneH a b ctx (f :: g')).BN = ((newL (oneH a b ctx (f :: g'))).length : Int) := rfl
      simp [← q1, ← q2]
    have hall : (oneH a b ctx (f :: g')).ls.all (fun m => decide (m.sg = 32)) = false := by
      rw [h1.ls]
      exact body_some hR
    have hchk : chkH (oneH a b ctx (f :: g')) = if fldB (oneH a b ctx (f :: g')).ls = false then 6 else 0 := by
      simp only [chkH]
      rw [if_neg (by rw [hrng]; simp)]
      by_cases z : fldB (oneH a b ctx (f :: g')).ls = false
      · rw [if_pos z, if_pos z]
      · rw [if_neg z, if_neg z, if_neg hcnt, if_neg (by rw [hall]; simp)]
    rw [hchk]
    by_cases hF : fldB (oneH a b ctx (f :: g')).ls = false
    · rw [if_pos hF, if_pos (by decide)]
      refine .inr ⟨rfl, ?_⟩
      cases hin : innL (a ++ b) with
      | true => rfl
      | false =>
        exfalso
        have : fldB (oneH a b ctx (f :: g')).ls = true := by
          rw [fld_iff]
          refine ⟨fun m hm => ?_, ?_, ?_⟩
          · rw [h1.ls] at hm
            obtain ⟨k1, k2⟩ := mem_body _ _ m hm
            refine ⟨lin_of (hne _ k2) ?_, k1⟩
            simp only [innL, List.any_eq_false] at hin
            have := hin m.tx (by simpa using k2)
            simpa using this
          · have := h1.old
            unfold oldL at this
            rw [this]
            exact abl_cut hla _ _
          · rw [h1.ls, body_new hR (fun r hr => hs r (hU r hr)) h1.s0 h1.t0 h1.le hE]
            exact abl_cut hlb _ _
        rw [this] at hF
        cases hF
    · rw [if_neg hF]
      simpa using hi

/-- a made hunk's lines: those that are taken out stand first -/
theorem body_nf {a b : List (List UInt8)} {e : Int} {rest : List Ch} (g : List Ch) : ∀ (fl s : Bool) (p q : Int), Right fl p q a.length b.length (g ++ rest) → 0 ≤ p → (s = true → fl = false) → Nf s (bodyH a b e p g) := by
  have n32 : ∀ (x : List (List UInt8)) (t : List Mk) (s : Bool), (x = [] → Nf s t) → (x ≠ [] → Nf false t) → Nf s (mks 32 x ++ t) := by
    intro x
    induction x with
    | nil => intro t s h _; exact h rfl
    | cons y x ih =>
      intro t s _ h
      show Nf s (⟨32, y⟩ :: (mks 32 x ++ t))
      simp only [Nf]
      rw [if_neg (by decide), if_neg (by decide)]
      exact ih t false (fun _ => h (by simp)) (fun _ => h (by simp))
  have n45 : ∀ (x : List (List UInt8)) (t : List Mk), Nf false t → Nf false (mks 45 x ++ t) := by
    intro x
    induction x with
    | nil => intro t h; exact h
    | cons y x ih =>
      intro t h
      show Nf false (⟨45, y⟩ :: (mks 45 x ++ t))
      simp only [Nf]
      simp only [if_true, true_and]
      exact ih t h
  have n43 : ∀ (x : List (List UInt8)) (t : List Mk) (s : Bool), (∀ s, Nf s t) → Nf s (mks 43 x ++ t) := by
    intro x
    induction x with
    | nil => intro t s h; exact h s
    | cons y x ih =>
      intro t s h
      show Nf s (⟨43, y⟩ :: (mks 43 x ++ t))
      simp only [Nf]
      rw [if_neg (by decide)]
      simp only [if_true]
      exact ih t true h
  induction g with
  | nil =>
    intro fl s p q _ _ _
    simp only [bodyH]
    have := n32 (cut a p (e - p)) [] s (fun _ => by simp [Nf]) (fun _ => by simp [Nf])
    rwa [List.append_nil] at this
  | cons c g ih =>
    intro fl s p q h hp hs
    obtain ⟨⟨h1, h2, h3, h4⟩, h5⟩ := h
    have h1' := (numB_iff c).1 h1
    have hle := h5.le
    have hrest : Nf false (mks 45 (cut a c.A c.AN) ++ (mks 43 (cut b c.B c.BN) ++ bodyH a b e (c.A + c.AN) g)) :=
      n45 _ _ (n43 _ _ _ fun s' => ih false s' _ _ h5 (by omega) (fun _ => rfl))
    simp only [bodyH]
    refine n32 _ _ s (fun hx => ?_) (fun _ => hrest)
    cases s with
    | false => exact hrest
    | true =>
      exfalso
      have hf := hs rfl
      have hlt : p < c.A := by
        rcases h4 with h4 | h4
        · rw [hf] at h4; cases h4
        · exact h4
      have x1 := hcut_length (A := a) (p := p) (k := c.A - p) hp (by omega) (by omega)
      rw [hx] at x1
      simp at x1
      omega
/-- how many lines are not kept -/
def cntC : List Mk → Nat
  | [] => 0
  | m :: l => if m.sg ≠ 32 then cntC l + 1 else cntC l
def cntHs : List Hk → Nat
  | [] => 0
  | h :: l => cntC h.ls + cntHs l
theorem cntC_append (x y : List Mk) : cntC (x ++ y) = cntC x + cntC y := by
  induction x with
  | nil => simp [cntC]
  | cons m x ih => simp only [List.cons_append, cntC, ih]; split <;> omega
theorem cntC_same (x : List (List UInt8)) : cntC (mks 32 x) = 0 := by
  induction x with
  | nil => rfl
  | cons t x ih =>
    show cntC (⟨32, t⟩ :: mks 32 x) = 0
    simp [cntC, ih]
theorem cntC_not {s : Int} (hs : s ≠ 32) (x : List (List UInt8)) : cntC (mks s x) = x.length := by
  induction x with
  | nil => rfl
  | cons t x ih =>
    show cntC (⟨s, t⟩ :: mks s x) = _
    simp [cntC, ih, hs]
def sumC (a b : List (List UInt8)) : List Ch → Nat
  | [] => 0
  | c :: l => (cut a c.A c.AN).length + (cut b c.B c.BN).length + sumC a b l
theorem sumC_append (a b : List (List UInt8)) (x y : List Ch) : sumC a b (x ++ y) = sumC a b x + sumC a b y := by
  induction x with
  | nil => simp [sumC]
  | cons c x ih => simp only [List.cons_append, sumC, ih]; omega
theorem body_cnt (a b : List (List UInt8)) (e : Int) (g : List Ch) : ∀ p, cntC (bodyH a b e p g) = sumC a b g := by
  induction g with
  | nil => intro p; exact cntC_same _
  | cons c g ih =>
    intro p
    simp only [bodyH, cntC_append, cntC_same, cntC_not (show (45 : Int) ≠ 32 by decide), cntC_not (show (43 : Int) ≠ 32 by decide), ih, sumC]
    omega
/-- as many lines are changed, however many are kept around them -/
theorem made_cnt (a b : List (List UInt8)) (ctx : Int) (gs : List (List Ch)) : cntHs (gs.map (oneH a b ctx)) = sumC a b gs.flatten := by
  induction gs with
  | nil => rfl
  | cons g gs ih =>
    simp only [List.map_cons, cntHs, List.flatten_cons, sumC_append, ih]
    congr 1
    cases g with
    | nil => rfl
    | cons f g => exact body_cnt a b _ (f :: g) _
/-- without lines around them each change is alone -/
theorem grp_zero (l : List Ch) : ∀ (fl : Bool) (p q n m : Int), Right fl p q n m l → grp 0 l = l.map fun c => [c] := by
  induction l with
  | nil => intros; rfl
  | cons c l ih =>
    intro fl p q n m h
    have hi := ih false _ _ n m h.2
    cases l with
    | nil => rfl
    | cons d l =>
      obtain ⟨g, gs, h1, h2⟩ := grp_cons2 0 c d l
      have h4 : c.A + c.AN < d.A := by simpa using h.2.1.2.2.2
      rw [h2, if_neg (by omega), List.map_cons, ← hi, h1]
/-- with all of them there is one group -/
theorem grp_all (ctx : Int) (l : List Ch) : ∀ (fl : Bool) (p q n m : Int), Right fl p q n m l → 0 ≤ p → n ≤ 2 * ctx → (grp ctx l).length = min 1 l.length := by
  induction l with
  | nil => intros; rfl
  | cons c l ih =>
    intro fl p q n m h hp hn
    have h1' := (numB_iff c).1 h.1.1
    have hi := ih false _ _ n m h.2 (by omega) hn
    cases l with
    | nil => rfl
    | cons d l =>
      obtain ⟨g, gs, h1, h2⟩ := grp_cons2 ctx c d l
      have hd := (numB_iff d).1 h.2.1.1
      have hle := h.2.2.le
      rw [h1] at hi
      simp only [List.length_cons] at hi
      rw [h2, if_pos (by omega)]
      simp only [List.length_cons]
      omega
end Go.Proofs.YtgckcbcdmmnkoaaGreatDoor

/- Each group of a right script, and its hunk; how many lines it has; plain mathematics. -/
set_option maxRecDepth 20000
namespace Go.Proofs.YtgckcbcdmmnkoaaGreatDoor

theorem all_len (l : List Mk) (h : ∀ m ∈ l, okS m.sg = true) : l.length ≤ (pkL 43 l).length + (pkL 45 l).length := by
  induction l with
  | nil => simp
  | cons m l ih =>
    have hi := ih fun q hq => h q (by simp [hq])
    have hm := h m (by simp)
    simp only [pkL]
    by_cases h1 : m.sg = 43
    · rw [if_neg (fun q => q.1 h1), if_pos ⟨by omega, hm⟩]
      simp only [List.length_cons]
      omega
    · rw [if_pos ⟨h1, hm⟩]
      split <;> simp only [List.length_cons] <;> omega
/-- a group somewhere in the row -/
theorem gs_at {a b : List (List UInt8)} {ctx : Int} (hc : 0 ≤ ctx) (pre : List (List Ch)) : ∀ (fl : Bool) (p q : Int) (f : Ch) (g : List Ch) (post : List (List Ch)), Right fl p q a.length b.length (pre ++ (f :: g) :: post).flatten → Hgs ctx (pre ++ (f :: g) :: post) → 0 ≤ p → 0 ≤ q → (∀ d, (pre ++ (f :: g) :: post).flatten.head? = some d → p ≤ d.A - min ctx d.A) →
    Right true (f.A - min ctx f.A) (f.B - min ctx f.A) a.length b.length (f :: g ++ post.flatten) ∧ 0 ≤ f.A - min ctx f.A ∧ 0 ≤ f.B - min ctx f.A ∧ (oneH a b ctx (f :: g)).ls.length ≤ a.length + b.length := by
  induction pre with
  | nil =>
    intro fl p q f g post h hG hp hq hf
    obtain ⟨f', g', he, e, h1, h2, h3, hR, _, _, h4, h5, h6, h7, _, h8, h9⟩ := gs_step hc h hG hp hq (Int.le_refl p) (show q - p = q - p from rfl) hf
    cases he
    refine ⟨hR, h1.s0, h1.t0, ?_⟩
    have hl := all_len (oneH a b ctx (f :: g)).ls (fun m hm => by rw [h1.ls] at hm; exact (mem_body _ _ m hm).1)
    have ho : (pkL 43 (oneH a b ctx (f :: g)).ls).length ≤ a.length := (by
      have e1 := h1.old
      unfold oldL at e1
      rw [e1]
      simp only [cut, List.length_take, List.length_drop]
      omega)
    have hn : ((pkL 45 (oneH a b ctx (f :: g)).ls).length : Int) = (oneH a b ctx (f :: g)).BN := rfl
    rw [h1.BN] at hn
    have := h1.em
    have := h1.t0
    omega
  | cons g0 pre ih =>
    intro fl p q f g post h hG hp hq hf
    obtain ⟨f', g', rfl, e, h1, h2, h3, hR, _, _, h4, h5, h6, h7, _, h8, h9⟩ := gs_step hc h hG hp hq (Int.le_refl p) (show q - p = q - p from rfl) hf
    exact ih false _ _ f g post h5 hG.2.2 h6 h7 (fun d hd => by have := h9 d hd; omega)
theorem script_at {a b : List (List UInt8)} {ctx : Int} (hc : 0 ≤ ctx) {l : List Ch} (hs : Script l a.length b.length) {pre post : List (List Ch)} {f : Ch} {g : List Ch} (he : grp ctx l = pre ++ (f :: g) :: post) :
    Right true (f.A - min ctx f.A) (f.B - min ctx f.A) a.length b.length (f :: g ++ post.flatten) ∧ 0 ≤ f.A - min ctx f.A ∧ 0 ≤ f.B - min ctx f.A ∧ (oneH a b ctx (f :: g)).ls.length ≤ a.length + b.length := by
  have hfl := grp_flatten ctx l
  have hG := grp_gs ctx l
  have hr := hs.2.2
  rw [← hfl] at hr
  rw [he] at hr hG
  refine gs_at hc pre true 0 0 f g post hr hG (Int.le_refl _) (Int.le_refl _) (fun d hd => ?_)
  have hd2 : d ∈ (pre ++ (f :: g) :: post).flatten := List.mem_of_head? hd
  have hn : numB d = true := by
    have key : ∀ (l : List Ch) (fl : Bool) (p q n m : Int), Right fl p q n m l → ∀ c ∈ l, numB c = true := by
      intro l
      induction l with
      | nil => intro fl p q n m _ c hc; cases hc
      | cons x l ih =>
        intro fl p q n m h c hc
        rcases List.mem_cons.1 hc with rfl | hc
        · exact h.1.1
        · exact ih _ _ _ _ _ h.2 c hc
    exact key _ _ _ _ _ _ hr d hd2
  have := (numB_iff d).1 hn
  omega
end Go.Proofs.YtgckcbcdmmnkoaaGreatDoor

/- The reference's Make of layer 11, walked. -/
set_option maxRecDepth 20000
namespace Go.Proofs.YtgckcbcdmmnkoaaGreatDoor
open Go.RowKit

theorem Hs.base {w W u : World} {ov : Value} {P : List (Hk × Value)} (h : Hs W ov P u) (hB : Below w.heap.size w W) : Hs w ov P u :=
  ⟨hB.trans (h.low.mono hB.size), own_base h.own hB.size, fun x hx => own_base (h.ins x hx) hB.size⟩
/-- a group of the row, read -/
theorem Gr.at {w W u : World} {oo : Option Addr} {n oc : Nat} {G : List (List Ch × Value)} (h : Gr w (.slice oo n oc) G W) (hB : Below W.heap.size W u) {i : Nat} (hi : i < G.length) {g : List Ch} {gv : Value} (hg : G[i] = (g, gv)) : ∃ q, oo = some ⟨q, 0, none⟩ ∧ u.cell? ⟨q, i, none⟩ = some gv ∧ HCh u gv g := by
  have hh := holds_of h.own
  obtain ⟨b, off, c', hv, hb, hc⟩ := Holds.at hh (by simp; omega)
  rcases h.own.2 with ⟨_, h0⟩ | ⟨q, cap, cur, e, _⟩
  · omega
  · cases e
    cases hv
    refine ⟨_, rfl, ?_, ?_⟩
    · have h1 := hc i (by simpa using hi)
      rw [Nat.zero_add] at h1
      refine hcell_keep hB ?_
      rw [h1]
      simp [hg]
    · have hin := h.ins (g, gv) (by rw [← hg]; exact List.getElem_mem hi)
      exact HCh.keep (holds_of hin) hB (Nat.le_refl _)

end Go.Proofs.YtgckcbcdmmnkoaaGreatDoor

/- The code's Make of layer 11, walked. -/
set_option maxRecDepth 20000
namespace Go.Proofs.YtgckcbcdmmnkoaaGreatDoor
open Go.RowKit

set_option maxRecDepth 10000 in
set_option maxHeartbeats 16000000 in
theorem hMake_f (l : List Ch) (a b : List (List UInt8)) (ctx : Int) (v va vb : Value) (w : World) (hv : HCh w v l) (ha : HS w va a) (hb : HS w vb b) (hl : l.length ≤ 1099511627776) (hal : a.length ≤ 137438953472) (hbl : b.length ≤ 137438953472) (z : Int) (HZ : Hid (grpE l a.length b.length ctx = z)) (R : List Hk) (HR : Hid (mkR l a b ctx = R)) : Calls Tryz.prog 10 #[v, va, vb, .int .i64 ctx] w fun e w' => ∃ v' P, e = .returned (.tuple #[v', .int .i64 z]) ∧ Hs w v' P w' ∧ P.map (·.1) = R := by
  obtain ⟨vo, lc, rfl⟩ := Holds.form hv
  obtain ⟨ao, ac, rfl⟩ := Holds.form ha
  obtain ⟨bo, bc, rfl⟩ := Holds.form hb
  obtain ⟨GR, hGR⟩ : ∃ GR, grpR l a.length b.length ctx = GR := ⟨_, rfl⟩
  have HGR : Hid (grpR l a.length b.length ctx = GR) := hGR
  have HR1 : Hid (GR.map (oneH a b ctx) = R) := (by show _ = _; rw [← HR.out, ← hGR]; rfl)
  clear hGR
  go_enter Tryz.func10, Tryz.ntmps10
  go_wp2_with fail
  refine (hGroup_f l a.length b.length ctx _ w hv hl (by omega) (by omega) z HZ GR HGR).mono ?_
  rintro e W ⟨gv0, G, rfl, hG, _, hGm⟩
  obtain ⟨go, gc, rfl⟩ := (holds_of hG.own).form
  have HGM : Hid (G.map (·.1) = GR) := hGm
  clear hGm HR
  by_cases hz : z = 0
  · subst hz
    have HE : Hid (grp ctx l = GR ∧ Script l a.length b.length ∧ 0 ≤ ctx ∧ ctx ≤ 100) := (by
      have h1 := HZ.out
      have h2 := HGR.out
      unfold grpR at h2
      rw [h1, if_pos rfl] at h2
      refine ⟨h2, ?_⟩
      unfold grpE at h1
      by_cases hs : Script l a.length b.length
      · refine ⟨hs, ?_⟩
        rw [chk_ok hs] at h1
        by_cases hx : ctx < 0 ∨ 100 < ctx
        · simp [hx] at h1
        · omega
      · rw [chk_no hs] at h1
        simp at h1)
    have hctx := HE.out.2.2
    have hGl : G.length ≤ 1099511627776 := (by
      have h1 := congrArg List.length HGM.out
      have h2 : (grp ctx l).length ≤ l.length := (by
        have key : ∀ l : List Ch, (grp ctx l).length ≤ l.length := by
          intro l
          induction l with
          | nil => simp [grp]
          | cons c l ih =>
            cases l with
            | nil => simp [grp, gcons]
            | cons d l =>
              obtain ⟨g, gs, p1, p2⟩ := grp_cons2 ctx c d l
              rw [p2]
              rw [p1] at ih
              split <;> simp at ih ⊢ <;> omega
        exact key l)
      rw [HE.out.1] at h2
      simp at h1
      omega)
    clear HZ HGR
    go_wp2
    go_loopw [12, 30] (fun ov iv wr => ∃ (i : Nat) (P : List (Hk × Value)), i ≤ G.length ∧ iv = .int .i64 (i : Int) ∧ (∃ oo oc, ov = .slice oo i oc) ∧ Hs W ov P wr ∧ Hid (P.length = i ∧ P.map (·.1) = (GR.take i).map (oneH a b ctx))) (fun _ iv _ => G.length - (intOf iv).toNat)
    case atStart => exact ⟨0, [], Nat.zero_le _, by go_num, ⟨_, _, rfl⟩, Hs.nil W, ⟨rfl, rfl⟩⟩
    case round =>
      obtain ⟨i, P, hi, rfl, ⟨oo, oc, rfl⟩, hS, HP⟩ := hrel
      by_cases hlt : i < G.length
      · obtain ⟨g, gv, hgi⟩ : ∃ g gv, G[i] = (g, gv) := ⟨_, _, rfl⟩
        obtain ⟨q, rfl, hcell, hch⟩ := hG.at hS.low hlt hgi
        have hGRl : GR.length = G.length := by rw [← HGM.out]; simp
        have hGRi : GR[i]'(by omega) = g := by
          have h1 : GR[i]? = some g := by rw [← HGM.out]; simp [hlt, hgi]
          exact (List.getElem?_eq_some_iff.1 h1).2
        have hsp : GR = GR.take i ++ g :: GR.drop (i + 1) := by
          rw [← hGRi, ← List.drop_eq_getElem_cons (by omega), List.take_append_drop]
        have hgne : g ≠ [] := grp_ne ctx l g (by rw [HE.out.1, ← hGRi]; exact List.getElem_mem _)
        obtain ⟨f, g', rfl⟩ : ∃ f g', g = f :: g' := by
          cases g with
          | nil => exact absurd rfl hgne
          | cons f g' => exact ⟨f, g', rfl⟩
        obtain ⟨hR1, hR2, hR3, hR4⟩ := script_at hctx.1 HE.out.2.1 (HE.out.1.trans hsp)
        have hnums := right_nums hR1
        have hgl : g'.length ≤ 1099511627776 := (by
          have h1 := congrArg List.length (grp_flatten ctx l)
          rw [HE.out.1, hsp] at h1
          simp only [List.flatten_append, List.flatten_cons, List.length_append, List.length_cons] at h1
          omega)
        obtain ⟨H, hH⟩ : ∃ H, oneH a b ctx (f :: g') = H := ⟨_, rfl⟩
        have HH : Hid (oneH a b ctx (f :: g') = H) := hH
        rw [hH] at hR4
        have hBw : Below w.heap.size w wr := hG.low.trans (hS.low.mono hG.low.size)
        have ha' := HS.keep ha hBw (Nat.le_refl _)
        have hb' := HS.keep hb hBw (Nat.le_refl _)
        obtain ⟨ho, hc, rfl⟩ := Holds.form hch
        have HP2 : ∀ y : Value, Hid ((P ++ [(H, y)]).length = i + 1 ∧ (P ++ [(H, y)]).map (·.1) = (GR.take (i + 1)).map (oneH a b ctx)) := fun y => (by
          refine ⟨by rw [List.length_append, HP.out.1]; rfl, ?_⟩
          rw [List.map_append, HP.out.2, List.take_succ_eq_append_getElem (by omega), List.map_append, hGRi]
          simp [hH])
        have i1 : 0 ≤ (i : Int) := by omega
        have i2 : (i : Int) < (G.length : Int) := by omega
        clear hsp hGRi hGRl hgne hgi hH
        go_wp2_with fail
        refine (haround_f g' (GR.drop (i + 1)).flatten f a b ctx _ _ _ wr hch ha' hb' (by omega) (by omega) hgl hctx hR1 hR3 (fun c hc => by have := (numB_iff c).1 (hnums c (by simp at hc ⊢; rcases hc with hc | hc; exact .inl hc; exact .inr (.inl hc))); omega) H HH (by omega)).mono ?_
        rintro e wr1 ⟨v1, rfl, hown1, hB1⟩
        obtain ⟨ro, rc, rfl⟩ := (holds_of hown1).form
        have hS1 : Hs W (.slice oo i oc) P wr1 := ⟨hS.low.trans (hB1.mono hS.low.size), owns_keep hS.own hB1, fun x hx => owns_keep (hS.ins x hx) hB1⟩
        have hown1' := own_base hown1 hS.low.size
        have hS5 := hS1.alloc (hkO H (.slice ro H.ls.length rc))
        have hrow5 := one_row wr1 H (.slice ro H.ls.length rc)
        have hown5 := hown1'.alloc (hkO H (.slice ro H.ls.length rc))
        have hl4 := hS1.low.size
        have hW5 : wr1.alloc (Obj.cells #[Value.int IntKind.i64 H.A, Value.int IntKind.i64 H.AN, Value.int IntKind.i64 H.B, Value.int IntKind.i64 H.BN, .slice ro H.ls.length rc] 39) = wr1.alloc (hkO H (.slice ro H.ls.length rc)) := rfl
        have HS5 : Hid ((wr1.alloc (hkO H (.slice ro H.ls.length rc))).heap.size = wr1.heap.size + 1) := (by show _ = _; simp)
        have hownP := hS5.own
        rw [HP.out.1] at hownP
        unfold hkV
        clear hB1 hown1 hR1 hnums hch hcell
        go_wp2_with (at_builtin; refine wpList_append_w _ (by kernel_rfl) (.tmp 34) (.tmp 40) 32 39 (.agg #[.int .i64 0, .int .i64 0, .int .i64 0, .int .i64 0, .slice none 0 0]) 5 56 rfl Tryz.underlying32 infoHk rfl (by decide) (by decide) W.heap.size _ _ _ rfl hownP _ 1 (hkC H (.slice ro H.ls.length rc)) rfl hrow5 rfl (hkC_one _) (by omega) (by have := HS5.out; omega) ?_)
        intro v6 W6 hown6 hg6 _
        have hS6 := hS5.more hown5 hg6 (ov' := v6) (by rw [HP.out.1]; exact hown6)
        obtain ⟨ro6, rc6, rfl⟩ := (holds_of hown6).form
        clear hg6 hown6 hownP hrow5
        go_wp2
        exact ⟨⟨i + 1, P ++ [(H, .slice ro H.ls.length rc)], by omega, by go_num, ⟨_, _, rfl⟩, hS6, HP2 _⟩, by simp [intOf]; omega⟩
      · have hend : decide ((i : Int) < (G.length : Int)) = false := decide_eq_false (by omega)
        have HF : Hid (P.map (·.1) = R) := (by
          have hGRl : GR.length = G.length := by rw [← HGM.out]; simp
          show _ = _
          rw [HP.out.2, List.take_of_length_le (by omega)]
          exact HR1.out)
        go_wp2
        go_ret2
        exact ⟨_, P, rfl, hS.base hG.low, HF.out⟩
  · have hz1 : (z != 0) = true := by simpa using hz
    have HRN : Hid (R = []) := (by
      show _ = _
      rw [← HR1.out, ← HGR.out]
      unfold grpR
      rw [HZ.out, if_neg hz]
      rfl)
    clear HZ HGR hz
    go_wp2
    go_ret2
    rw [HRN.out]
    exact ⟨_, [], rfl, ⟨hG.low, hnil_row _ _ _ _, fun _ h => by cases h⟩, rfl⟩
end Go.Proofs.YtgckcbcdmmnkoaaGreatDoor

/- Plain facts on texts as lists of bytes: their lines, whether lines are right, the first byte in which two texts differ, a line without its line feed. -/
set_option maxRecDepth 20000
namespace Go.Proofs.YtgckcbcdmmnkoaaGreatDoor.Ln
open Go

/-- the lines of a text -/
def splitL : List UInt8 → List (List UInt8)
  | [] => []
  | c :: t => if c = 10 then [c] :: splitL t else match splitL t with
    | [] => [[c]]
    | x :: r => (c :: x) :: r

theorem split_cut (a b : List UInt8) (h : ∀ c ∈ a, c ≠ 10) : splitL (a ++ 10 :: b) = (a ++ [10]) :: splitL b := by
  induction a with
  | nil => simp [splitL]
  | cons c a ih =>
    have hc : c ≠ 10 := h c (by simp)
    have := ih fun x hx => h x (by simp [hx])
    simp only [List.cons_append, splitL, hc, if_false, this]

theorem split_one (a : List UInt8) (h : ∀ c ∈ a, c ≠ 10) (h0 : a ≠ []) : splitL a = [a] := by
  induction a with
  | nil => exact absurd rfl h0
  | cons c a ih =>
    have hc : c ≠ 10 := h c (by simp)
    cases a with
    | nil => simp [splitL, hc]
    | cons d a =>
      have := ih (fun x hx => h x (by simp [hx])) (by simp)
      simp only [splitL, hc, if_false] at this ⊢
      rw [this]

theorem split_join (l : List UInt8) : (splitL l).flatten = l := by
  induction l with
  | nil => rfl
  | cons c t ih =>
    unfold splitL
    by_cases hc : c = 10
    · simp [hc, ih]
    · simp only [hc, if_false]
      cases hs : splitL t with
      | nil => rw [hs] at ih; simp at ih; simp [← ih]
      | cons x r => rw [hs] at ih; simp at ih; simp [ih]

theorem split_len (l : List UInt8) : (splitL l).length ≤ l.length := by
  induction l with
  | nil => simp [splitL]
  | cons c t ih =>
    unfold splitL
    by_cases hc : c = 10
    · simp [hc]; omega
    · simp only [hc, if_false]
      cases hs : splitL t with
      | nil => simp
      | cons x r => rw [hs] at ih; simp at ih ⊢; omega

theorem split_nil {l : List UInt8} (h : splitL l = []) : l = [] := by
  have := split_join l
  rw [h] at this
  simpa using this.symm

/-- whether a text is a line; the last one may lack its line feed -/
def lineB : List UInt8 → Bool → Bool
  | [], _ => false
  | [c], last => last || c == 10
  | c :: d :: t, last => c != 10 && lineB (d :: t) last

def checkB : List (List UInt8) → Bool
  | [] => true
  | s :: t => lineB s t.isEmpty && checkB t

/-- what Check tells -/
def checkE (l : List (List UInt8)) : Int := if checkB l then 0 else 6

theorem lineB_cons (c : UInt8) (x : List UInt8) (last : Bool) (hx : x ≠ []) : lineB (c :: x) last = (c != 10 && lineB x last) := by
  cases x with
  | nil => exact absurd rfl hx
  | cons d t => rfl

theorem lineB_ne {x : List UInt8} {last : Bool} (h : lineB x last = true) : x ≠ [] := by rintro rfl; cases h

theorem lineB_false {x : List UInt8} (h : lineB x false = true) : ∃ a, x = a ++ [10] ∧ ∀ c ∈ a, c ≠ 10 := by
  induction x with
  | nil => cases h
  | cons c t ih =>
    cases t with
    | nil => exact ⟨[], by simpa [lineB] using h, by simp⟩
    | cons d t =>
      simp only [lineB, Bool.and_eq_true, bne_iff_ne] at h
      obtain ⟨a, ha, hn⟩ := ih h.2
      refine ⟨c :: a, by rw [ha]; rfl, ?_⟩
      intro x hx
      simp only [List.mem_cons] at hx
      rcases hx with rfl | hx
      · exact h.1
      · exact hn x hx

theorem lineB_true {x : List UInt8} (h : lineB x true = true) : lineB x false = true ∨ ∀ c ∈ x, c ≠ 10 := by
  induction x with
  | nil => cases h
  | cons c t ih =>
    cases t with
    | nil =>
      by_cases hc : c = 10
      · exact .inl (by simp [lineB, hc])
      · exact .inr (by simpa using hc)
    | cons d t =>
      simp only [lineB, Bool.and_eq_true, bne_iff_ne] at h
      rcases ih h.2 with h2 | h2
      · exact .inl (by simp only [lineB, Bool.and_eq_true, bne_iff_ne]; exact ⟨h.1, h2⟩)
      · refine .inr ?_
        intro x hx
        simp only [List.mem_cons] at hx
        rcases hx with rfl | hx
        · exact h.1
        · exact h2 x (by simpa using hx)

theorem split_right (l : List UInt8) : checkB (splitL l) = true := by
  induction l with
  | nil => rfl
  | cons c t ih =>
    unfold splitL
    by_cases hc : c = 10
    · simp [hc, checkB, lineB, ih]
    · simp only [hc, if_false]
      cases hs : splitL t with
      | nil => simp [checkB, lineB]
      | cons x r =>
        rw [hs] at ih
        simp only [checkB, Bool.and_eq_true] at ih ⊢
        rw [lineB_cons c x _ (lineB_ne ih.1)]
        simp [hc, ih.1, ih.2]

/-- right lines are the lines of the text that they make -/
theorem right_split (ws : List (List UInt8)) (h : checkB ws = true) : splitL ws.flatten = ws := by
  induction ws with
  | nil => rfl
  | cons x r ih =>
    simp only [checkB, Bool.and_eq_true] at h
    have hr := ih h.2
    cases r with
    | nil =>
      simp only [List.flatten_cons, List.flatten_nil, List.append_nil]
      rcases lineB_true (by simpa using h.1) with h1 | h1
      · obtain ⟨a, rfl, hn⟩ := lineB_false h1
        rw [split_cut a [] hn]; rfl
      · exact split_one x h1 (lineB_ne h.1)
    | cons y r =>
      obtain ⟨a, rfl, hn⟩ := lineB_false (by simpa using h.1)
      rw [List.flatten_cons, List.append_assoc]
      rw [show a ++ ([10] ++ (y :: r).flatten) = a ++ 10 :: (y :: r).flatten from rfl, split_cut a _ hn, hr]

theorem index_none {l : List UInt8} {c : UInt8} (h : Lib.indexByte l c < 0) : Lib.indexByte l c = -1 ∧ ∀ x ∈ l, x ≠ c := by
  induction l with
  | nil => exact ⟨rfl, by simp⟩
  | cons b l ih =>
    unfold Lib.indexByte at h ⊢
    by_cases hb : (b == c) = true
    · rw [if_pos hb] at h; simp at h
    · rw [if_neg hb] at h ⊢
      by_cases h1 : (Lib.indexByte l c == -1) = true
      · rw [if_pos h1]
        have h2 := ih (by simp at h1; omega)
        refine ⟨rfl, ?_⟩
        intro x hx
        simp only [List.mem_cons] at hx
        rcases hx with rfl | hx
        · simpa using hb
        · exact h2.2 x hx
      · rw [if_neg h1] at h
        have := Lib.indexByte_ge l c
        simp at h1
        omega

theorem index_some {l : List UInt8} {c : UInt8} (h : 0 ≤ Lib.indexByte l c) : ∃ a b, l = a ++ c :: b ∧ (∀ x ∈ a, x ≠ c) ∧ Lib.indexByte l c = a.length := by
  induction l with
  | nil => simp [Lib.indexByte] at h
  | cons d l ih =>
    unfold Lib.indexByte at h ⊢
    by_cases hb : (d == c) = true
    · have : d = c := by simpa using hb
      subst this
      rw [if_pos hb]
      exact ⟨[], l, rfl, by simp, rfl⟩
    · rw [if_neg hb] at h ⊢
      by_cases h1 : (Lib.indexByte l c == -1) = true
      · rw [if_pos h1] at h; simp at h
      · rw [if_neg h1] at h ⊢
        have := Lib.indexByte_ge l c
        obtain ⟨a, b, e1, e2, e3⟩ := ih (by simp at h1; omega)
        refine ⟨d :: a, b, by rw [e1]; rfl, ?_, by rw [e3]; simp⟩
        intro x hx
        simp only [List.mem_cons] at hx
        rcases hx with rfl | hx
        · simpa using hb
        · exact e2 x hx

theorem lineB_all {x : List UInt8} (h : ∀ c ∈ x, c ≠ 10) (last : Bool) : lineB x last = (last && !x.isEmpty) := by
  induction x with
  | nil => simp [lineB]
  | cons c t ih =>
    cases t with
    | nil =>
      have : c ≠ 10 := h c (by simp)
      simp [lineB, this]
    | cons d t =>
      rw [lineB, ih fun x hx => h x (by simp [hx])]
      have : c ≠ 10 := h c (by simp)
      simp [this]

theorem lineB_cut {a b : List UInt8} (h : ∀ c ∈ a, c ≠ 10) (last : Bool) : lineB (a ++ 10 :: b) last = b.isEmpty := by
  induction a with
  | nil =>
    cases b with
    | nil => simp [lineB]
    | cons d b => simp [lineB]
  | cons c a ih =>
    have hc : c ≠ 10 := h c (by simp)
    rw [List.cons_append, lineB_cons _ _ _ (by simp), ih fun x hx => h x (by simp [hx])]
    simp [hc]

/-- how many bytes at their fronts two texts have alike -/
def commonN : List UInt8 → List UInt8 → Nat
  | x :: a, y :: b => if x = y then commonN a b + 1 else 0
  | _, _ => 0

theorem common_le (a b : List UInt8) : commonN a b ≤ a.length ∧ commonN a b ≤ b.length := by
  induction a generalizing b with
  | nil => cases b <;> simp [commonN]
  | cons x a ih =>
    cases b with
    | nil => simp [commonN]
    | cons y b =>
      have := ih b
      unfold commonN
      split <;> simp <;> omega

theorem common_comm (a b : List UInt8) : commonN a b = commonN b a := by
  induction a generalizing b with
  | nil => cases b <;> rfl
  | cons x a ih =>
    cases b with
    | nil => rfl
    | cons y b =>
      unfold commonN
      by_cases h : x = y
      · rw [if_pos h, if_pos h.symm, ih b]
      · rw [if_neg h, if_neg (fun e => h e.symm)]

theorem common_take (a b : List UInt8) : a.take (commonN a b) = b.take (commonN a b) := by
  induction a generalizing b with
  | nil => cases b <;> simp [commonN]
  | cons x a ih =>
    cases b with
    | nil => simp [commonN]
    | cons y b =>
      unfold commonN
      by_cases h : x = y
      · rw [if_pos h, List.take_succ_cons, List.take_succ_cons, ih b, h]
      · rw [if_neg h]; rfl

theorem common_ne (a b : List UInt8) (h1 : commonN a b < a.length) (h2 : commonN a b < b.length) : a[commonN a b] ≠ b[commonN a b] := by
  induction a generalizing b with
  | nil => simp at h1
  | cons x a ih =>
    cases b with
    | nil => simp at h2
    | cons y b =>
      by_cases h : x = y
      · have e : commonN (x :: a) (y :: b) = commonN a b + 1 := by simp [commonN, h]
        simp only [e, List.length_cons] at h1 h2
        have := ih b (by omega) (by omega)
        simpa [e] using this
      · have e : commonN (x :: a) (y :: b) = 0 := by simp [commonN, h]
        simpa [e] using h

theorem common_full {a b : List UInt8} (h1 : commonN a b = a.length) (h2 : commonN a b = b.length) : a = b := by
  have := common_take a b
  rw [List.take_of_length_le (by omega), List.take_of_length_le (by omega)] at this
  exact this

theorem common_self (a : List UInt8) : commonN a a = a.length := by
  induction a with
  | nil => rfl
  | cons x a ih => simp [commonN, ih]

/-- one step further -/
theorem common_step {a b : List UInt8} {k : Nat} (hk : k ≤ commonN a b) (ha : k < a.length) (hb : k < b.length) (he : a[k] = b[k]) : k + 1 ≤ commonN a b := by
  rcases Nat.lt_or_ge k (commonN a b) with h | h
  · exact h
  · have e : commonN a b = k := by omega
    have := common_ne a b (by omega) (by omega)
    simp only [e] at this
    exact absurd he this

theorem common_stop {a b : List UInt8} {k : Nat} (hk : k ≤ commonN a b) (ha : k < a.length) (hb : k < b.length) (he : a[k] ≠ b[k]) : commonN a b = k := by
  rcases Nat.lt_or_ge k (commonN a b) with h | h
  · have h1 := common_take a b
    have h2 : (a.take (commonN a b))[k]? = (b.take (commonN a b))[k]? := by rw [h1]
    rw [List.getElem?_take_of_lt h, List.getElem?_take_of_lt h] at h2
    simp only [ha, hb, List.getElem?_eq_getElem, Option.some.injEq] at h2
    exact absurd h2 he
  · omega

theorem common_end {a b : List UInt8} {k : Nat} (hk : k ≤ commonN a b) (h : a.length ≤ k ∨ b.length ≤ k) : commonN a b = k := by
  have := common_le a b
  omega

/-- the first byte in which two texts differ, and its line -/
def firstN (a b : List UInt8) : Nat := if a = b then 0 else commonN a b + 1
def firstL (a b : List UInt8) : Nat := if a = b then 0 else (a.take (commonN a b)).count 10 + 1
def firstB (a b : List UInt8) : Bool := !(decide (a = b))

/-- a line without its line feed -/
def feedB (s : List UInt8) : Bool := s.getLast? == some 10
def bareL (s : List UInt8) : List UInt8 := if feedB s then s.dropLast else s

/-- whole lines -/
theorem split_count (l : List UInt8) : l.count 10 = (splitL l).length - (if feedB l || l.isEmpty then 0 else 1) := by
  induction l with
  | nil => rfl
  | cons c t ih =>
    unfold splitL
    by_cases hc : c = 10
    · subst hc
      cases t with
      | nil => simp [feedB, splitL]
      | cons d t =>
        have e : feedB (10 :: d :: t) = feedB (d :: t) := by simp [feedB]
        have h1 : 0 < (splitL (d :: t)).length := by
          rcases Nat.eq_zero_or_pos (splitL (d :: t)).length with h | h
          · have := split_nil (List.eq_nil_of_length_eq_zero h); simp at this
          · exact h
        rw [e]
        simp only [List.count_cons_self, ih, if_true, List.length_cons, List.isEmpty_cons]
        split <;> omega
    · simp only [hc, if_false]
      cases t with
      | nil => simp [feedB, splitL, hc]
      | cons d t =>
        have e : feedB (c :: d :: t) = feedB (d :: t) := by simp [feedB]
        rw [e, List.count_cons_of_ne hc, ih]
        cases hs : splitL (d :: t) with
        | nil => have := split_nil hs; simp at this
        | cons x r => simp

/-- the last line has a line feed just if the text has one at its end -/
theorem split_last (l : List UInt8) (h : splitL l ≠ []) : feedB ((splitL l).getLast h) = feedB l := by
  have hj := split_join l
  have hr := split_right l
  generalize splitL l = ws at *
  subst hj
  induction ws with
  | nil => exact absurd rfl h
  | cons x r ih =>
    simp only [checkB, Bool.and_eq_true] at hr
    cases r with
    | nil => simp
    | cons y r =>
      have := ih (by simp) hr.2
      rw [List.getLast_cons (by simp), this]
      have hne : (y :: r).flatten ≠ [] := by
        simp only [checkB, Bool.and_eq_true] at hr
        have := lineB_ne hr.2.1
        simp [this]
      have e : (x :: y :: r).flatten = x ++ (y :: r).flatten := List.flatten_cons
      rw [e]
      generalize (y :: r).flatten = z at *
      unfold feedB
      rw [List.getLast?_append]
      cases hl : z.getLast? with
      | none => exact absurd (List.getLast?_eq_none_iff.1 hl) hne
      | some z => rfl

theorem split_cat (a b : List UInt8) (h : a = [] ∨ feedB a = true) : splitL (a ++ b) = splitL a ++ splitL b := by
  induction a with
  | nil => rfl
  | cons c t ih =>
    have hf : feedB (c :: t) = true := by rcases h with h | h; · cases h
                                          · exact h
    have ht : t = [] ∨ feedB t = true := by
      cases t with
      | nil => exact .inl rfl
      | cons d t => exact .inr (by simpa [feedB] using hf)
    have := ih ht
    have s1 : splitL (c :: t) = if c = 10 then [c] :: splitL t else match splitL t with | [] => [[c]] | x :: r => (c :: x) :: r := rfl
    have s2 : splitL (c :: (t ++ b)) = if c = 10 then [c] :: splitL (t ++ b) else match splitL (t ++ b) with | [] => [[c]] | x :: r => (c :: x) :: r := rfl
    rw [List.cons_append, s1, s2]
    by_cases hc : c = 10
    · simp [hc, this]
    · simp only [hc, if_false, this]
      cases hs : splitL t with
      | nil =>
        have := split_nil hs
        subst this
        simp [feedB] at hf
        exact absurd hf hc
      | cons x r => rfl

/-- the last line of the first and the first of the second are one -/
theorem split_glue (a b : List UInt8) (ha : a ≠ []) (hf : feedB a = false) (hb : b ≠ []) : ∃ p x y q, splitL a = p ++ [x] ∧ splitL b = y :: q ∧ splitL (a ++ b) = p ++ (x ++ y) :: q := by
  induction a with
  | nil => exact absurd rfl ha
  | cons c t ih =>
    cases t with
    | nil =>
      have hc : c ≠ 10 := by simpa [feedB] using hf
      cases hs : splitL b with
      | nil => exact absurd (split_nil hs) hb
      | cons y q =>
        refine ⟨[], [c], y, q, by simp [splitL, hc], rfl, ?_⟩
        rw [List.cons_append, List.nil_append]
        unfold splitL
        simp [hc, hs]
    | cons d t =>
      obtain ⟨p, x, y, q, e1, e2, e3⟩ := ih (by simp) (by simpa [feedB] using hf)
      rw [List.cons_append]
      have s1 : splitL (c :: (d :: t)) = if c = 10 then [c] :: splitL (d :: t) else match splitL (d :: t) with | [] => [[c]] | x :: r => (c :: x) :: r := rfl
      have s2 : splitL (c :: (d :: t ++ b)) = if c = 10 then [c] :: splitL (d :: t ++ b) else match splitL (d :: t ++ b) with | [] => [[c]] | x :: r => (c :: x) :: r := rfl
      rw [s1, s2, e1, e3]
      by_cases hc : c = 10
      · exact ⟨[c] :: p, x, y, q, by simp [hc], e2, by simp [hc]⟩
      · simp only [hc, if_false]
        cases p with
        | nil => exact ⟨[], c :: x, y, q, rfl, e2, rfl⟩
        | cons z p => exact ⟨(c :: z) :: p, x, y, q, rfl, e2, rfl⟩

theorem join_nil_sep (xs : List (List UInt8)) : Lib.join xs [] = xs.flatten := by
  induction xs with
  | nil => rfl
  | cons x r ih =>
    rw [Lib.join_cons]
    simp [Lib.joinTail]

theorem flatten_le {ws : List (List UInt8)} {n : Nat} (h : ∀ a ∈ ws, a.length ≤ n) : ws.flatten.length ≤ ws.length * n := by
  induction ws with
  | nil => simp
  | cons x r ih =>
    have h1 := h x (by simp)
    have h2 := ih fun a ha => h a (by simp [ha])
    simp only [List.flatten_cons, List.length_append, List.length_cons, Nat.add_mul]
    omega
end Go.Proofs.YtgckcbcdmmnkoaaGreatDoor.Ln

/- What the code's Check of layer 11 asks of a hunk's lines is what the chapter asks; plain mathematics. -/
set_option maxRecDepth 20000
namespace Go.Proofs.YtgckcbcdmmnkoaaGreatDoor
open Ln

theorem lineB_eq (s : List UInt8) (last : Bool) : lineB s last = (linB s && (last || fdB s)) := by
  induction s with
  | nil => rfl
  | cons c t ih =>
    cases t with
    | nil =>
      simp [lineB, linB, fdB]
    | cons d t =>
      have e1 : linB (c :: d :: t) = (c != 10 && linB (d :: t)) := by
        simp [linB, List.dropLast]
      have e2 : fdB (c :: d :: t) = fdB (d :: t) := by simp [fdB]
      rw [e1, e2, Bool.and_assoc, ← ih]
      rfl
/-- all signs are known -/
def allB (l : List Mk) : Bool := l.all fun m => okS m.sg
theorem pk_none {sg no : Int} (h : sg = 45 ∧ no = 43 ∨ sg = 43 ∧ no = 45) {l : List Mk} (hl : allB l = true) : (pkL no l).isEmpty = lstB sg l := by
  induction l with
  | nil => rfl
  | cons m l ih =>
    simp only [allB, List.all_cons, Bool.and_eq_true] at hl
    have ih := ih hl.2
    have hm := hl.1
    simp only [okS, Bool.or_eq_true, decide_eq_true_eq] at hm
    simp only [pkL, lstB, List.all_cons]
    have key : (m.sg ≠ no ∧ okS m.sg = true) ↔ ¬ (m.sg ≠ sg ∧ m.sg ≠ 32) := by
      constructor
      · rintro ⟨k1, _⟩ k2
        rcases h with ⟨rfl, rfl⟩ | ⟨rfl, rfl⟩ <;> omega
      · intro k
        refine ⟨fun k1 => ?_, hl.1⟩
        rcases h with ⟨rfl, rfl⟩ | ⟨rfl, rfl⟩ <;> omega
    by_cases q : m.sg ≠ sg ∧ m.sg ≠ 32
    · rw [if_neg (fun k => key.1 k q), ih, decide_eq_true q.1, decide_eq_true q.2]
      rfl
    · rw [if_pos (key.2 q)]
      have : (decide (m.sg ≠ sg) && decide (m.sg ≠ 32)) = false := by
        rw [← Bool.not_eq_true, Bool.and_eq_true, decide_eq_true_eq, decide_eq_true_eq]
        exact q
      rw [this]
      rfl
/-- the chapter's rule on lines, as the code says it -/
theorem fld_code (l : List Mk) : fldB l = (allB l && checkB (pkL 43 l) && checkB (pkL 45 l)) := by
  induction l with
  | nil => rfl
  | cons m l ih =>
    have e0 : allB (m :: l) = (okS m.sg && allB l) := rfl
    rw [e0]
    cases ha : allB l with
    | false =>
      rw [ha] at ih
      have ih : fldB l = false := by rw [ih]; rfl
      simp [fldB, ih]
    | true =>
      rw [ha] at ih
      have p1 := pk_none (.inl ⟨rfl, rfl⟩) ha
      have p2 := pk_none (.inr ⟨rfl, rfl⟩) ha
      obtain ⟨sg, tx⟩ := m
      simp only [fldB]
      rw [ih]
      by_cases h1 : sg = 32
      · subst h1
        have q1 : pkL 43 (⟨32, tx⟩ :: l) = tx :: pkL 43 l := by rw [pkL, if_pos (by dsimp only; decide)]
        have q2 : pkL 45 (⟨32, tx⟩ :: l) = tx :: pkL 45 l := by rw [pkL, if_pos (by dsimp only; decide)]
        rw [q1, q2]
        simp only [checkB, lineB_eq, p1, p2, okS]
        cases linB tx <;> cases fdB tx <;> cases lstB 45 l <;> cases lstB 43 l <;> cases checkB (pkL 43 l) <;> cases checkB (pkL 45 l) <;> rfl
      · by_cases h2 : sg = 45
        · subst h2
          have q1 : pkL 43 (⟨45, tx⟩ :: l) = tx :: pkL 43 l := by rw [pkL, if_pos (by dsimp only; decide)]
          have q2 : pkL 45 (⟨45, tx⟩ :: l) = pkL 45 l := by rw [pkL, if_neg (by dsimp only; decide)]
          rw [q1, q2]
          simp only [checkB, lineB_eq, p1, okS]
          cases linB tx <;> cases fdB tx <;> cases lstB 45 l <;> cases lstB 43 l <;> cases checkB (pkL 43 l) <;> cases checkB (pkL 45 l) <;> rfl
        · by_cases h3 : sg = 43
          · subst h3
            have q1 : pkL 43 (⟨43, tx⟩ :: l) = pkL 43 l := by rw [pkL, if_neg (by dsimp only; decide)]
            have q2 : pkL 45 (⟨43, tx⟩ :: l) = tx :: pkL 45 l := by rw [pkL, if_pos (by dsimp only; decide)]
            rw [q1, q2]
            simp only [checkB, lineB_eq, p2, okS]
            cases linB tx <;> cases fdB tx <;> cases lstB 45 l <;> cases lstB 43 l <;> cases checkB (pkL 43 l) <;> cases checkB (pkL 45 l) <;> rfl
          · have q : okS sg = false := by simp [okS, h1, h2, h3]
            simp [q]
end Go.Proofs.YtgckcbcdmmnkoaaGreatDoor

/- Check of layer lines, walked at rows of texts; slices.ContainsFunc, walked at lines with signs. -/
set_option maxRecDepth 20000
namespace Go.Proofs.YtgckcbcdmmnkoaaGreatDoor
open Ln Go.RowKit

set_option maxHeartbeats 1000000 in
theorem isLine_any (l : List UInt8) (last : Bool) (w : World) (hl : l.length ≤ 1099511627776) (r : Bool) (HR : Hid (lineB l last = r)) :
    Calls Tryz.prog 46 #[.string ⟨l.toArray⟩, .bool last] w fun e w' => e = .returned (.bool r) ∧ w = w' := by
  rcases Int.lt_or_le (Lib.indexByte l 10) 0 with hq | hq
  · obtain ⟨q1, q2⟩ := index_none hq
    have HE : Hid ((last && !l.isEmpty) = r) := (by show _ = _; rw [← HR.out]; exact (lineB_all q2 last).symm)
    clear hq q2 HR
    go_enter Tryz.func46, Tryz.ntmps46
    go_wp2_with fail
    refine (Tryz.strings_Index_one ⟨l.toArray⟩ 10 _).mono ?_
    rintro e w1 ⟨rfl, rfl⟩
    have hi2 : Lib.indexByte (⟨l.toArray⟩ : ByteArray).data.toList 10 = -1 := q1
    rw [hi2]
    cases last with
    | false =>
      go_wp2
      go_ret
      rw [← HE.out]
      exact ⟨rfl, rfl⟩
    | true =>
      cases l with
      | nil =>
        go_wp2
        go_ret
        rw [← HE.out]
        exact ⟨rfl, rfl⟩
      | cons c t =>
        go_wp2
        go_ret
        rw [← HE.out]
        exact ⟨rfl, rfl⟩
  · obtain ⟨a, b, he, hn, hi⟩ := index_some hq
    have HE : Hid (b.isEmpty = r) := (by
      show _ = _
      rw [← HR.out, he]
      exact (lineB_cut hn last).symm)
    have hlen : l.length = a.length + 1 + b.length := by rw [he]; simp; omega
    clear hn hq he HR
    go_enter Tryz.func46, Tryz.ntmps46
    go_wp2_with fail
    refine (Tryz.strings_Index_one ⟨l.toArray⟩ 10 _).mono ?_
    rintro e w1 ⟨rfl, rfl⟩
    have hi2 : Lib.indexByte (⟨l.toArray⟩ : ByteArray).data.toList 10 = a.length := hi
    rw [hi2]
    cases b with
    | nil =>
      have hb : ((a.length : Int) == (l.length : Int) - 1) = true := by simp at hlen; simp; omega
      clear hlen
      go_wp2
      go_ret
      rw [← HE.out]
      exact ⟨rfl, rfl⟩
    | cons c t =>
      have hb : ((a.length : Int) == (l.length : Int) - 1) = false := by simp at hlen; rw [beq_eq_false_iff_ne]; omega
      clear hlen
      go_wp2
      go_ret
      rw [← HE.out]
      exact ⟨rfl, rfl⟩

set_option maxHeartbeats 1000000 in
theorem hlCheck_f (v : Value) (ws : List (List UInt8)) (w : World) (hl : ws.length ≤ 1099511627776) (he : ∀ a ∈ ws, a.length ≤ 1099511627776) (hv : HS w v ws) (r : Bool) (HR : Hid (checkB ws = r)) (z : Int) (HZ : Hid (z = if r = true then 0 else 6)) :
    Calls Tryz.prog 35 #[v] w fun e w' => e = .returned (.int .i64 z) ∧ w = w' := by
  obtain ⟨ao, c, rfl⟩ := Holds.form hv
  have HL : Hid (∀ a ∈ ws, a.length ≤ 1099511627776) := he
  clear he
  go_enter Tryz.func35, Tryz.ntmps35
  go_wp2
  go_loopw [3, 4, 7] (fun _ _ i wr => ∃ k : Nat, k ≤ ws.length ∧ i = .int .i64 k ∧ wr = w ∧ Hid (checkB (ws.drop k) = r)) (fun _ _ i _ => ws.length - (intOf i).toNat)
  case atStart => exact ⟨0, Nat.zero_le _, rfl, rfl, HR⟩
  case round =>
    obtain ⟨k, hk, rfl, rfl, HI⟩ := hrel
    clear HR
    by_cases hlt : k < ws.length
    · obtain ⟨b, off, rfl, _, hc⟩ := HS.at hv (by omega)
      have d1 := hc k hlt
      have hxl := HL.out ws[k] (List.getElem_mem hlt)
      have i1 : 0 ≤ (k : Int) := by omega
      have i2 : (k : Int) < (ws.length : Int) := by omega
      have HM : (ws.drop (k + 1)).isEmpty = ((k : Int) == (ws.length : Int) - 1) := by
        rw [Bool.eq_iff_iff, List.isEmpty_iff, List.drop_eq_nil_iff, beq_iff_eq]; omega
      have HD : Hid ((lineB ws[k] (ws.drop (k + 1)).isEmpty && checkB (ws.drop (k + 1))) = r) := (by
        have h := HI.out
        rw [List.drop_eq_getElem_cons hlt] at h
        exact h)
      rw [HM] at HD
      generalize hq : ((k : Int) == (ws.length : Int) - 1) = q at *
      generalize ws[k] = x at *
      obtain ⟨r1, hr1⟩ : ∃ r1, lineB x q = r1 := ⟨_, rfl⟩
      have HR1 : Hid (lineB x q = r1) := hr1
      rw [hr1] at HD
      clear hr1 HI HM hc
      go_wp2_with fail
      refine (isLine_any x q _ hxl r1 HR1).mono ?_
      rintro e w1 ⟨rfl, rfl⟩
      cases r1 with
      | false =>
        have HZ2 : Hid (z = 6) := (by
          have h := HD.out
          rw [Bool.false_and] at h
          show _ = _
          rw [HZ.out, ← h]
          rfl)
        clear HZ
        go_wp2
        go_ret
        rw [HZ2.out]
        exact ⟨rfl, rfl⟩
      | true =>
        have HE : Hid (checkB (ws.drop (k + 1)) = r) := (by have h := HD.out; rw [Bool.true_and] at h; exact h)
        go_wp2
        go_roundw
        case rel => exact ⟨k + 1, by omega, by go_num, by trivial, HE⟩
        case measure => simp [intOf]; omega
    · have HZ2 : Hid (z = 0) := (by
        have h := HI.out
        rw [List.drop_of_length_le (by omega)] at h
        show _ = _
        rw [HZ.out, ← h]
        rfl)
      clear HZ HI
      have hend : decide ((k : Int) < (ws.length : Int)) = false := decide_eq_false (by omega)
      go_wp2
      go_ret
      rw [HZ2.out]
      exact ⟨rfl, rfl⟩

/-- slices.IndexFunc, slices.ContainsFunc: the function may lay blocks -/
theorem idx_any {l : List Mk} {p : Mk → Bool} {k : Nat} (hk : k < l.length) : (l.drop k).any p = (p l[k] || (l.drop (k + 1)).any p) := by
  rw [List.drop_eq_getElem_cons hk, List.any_cons]
set_option maxRecDepth 10000 in
set_option maxHeartbeats 2000000 in
theorem hIndexFunc_f (g : Nat) (l : List Mk) (p : Mk → Bool) (v : Value) (w : World) (hv : HMk w v l) (hl : l.length ≤ 1099511627776) (eg : ∀ args w, (callFunc g args).run Tryz.prog w = .ok (.enter g args) w)
    (hf : Hid (∀ m ∈ l, ∀ u : World, Calls Tryz.prog g (#[.agg #[.int .u8 m.sg, .string ⟨m.tx.toArray⟩]] ++ #[]) u fun e u' => e = .returned (.bool (p m)) ∧ Below u.heap.size u u')) (r : Bool) (HR : Hid (l.any p = r)) :
    Calls Tryz.prog 45 #[v, .func (.func g) #[] #[]] w fun e w' => ∃ z : Int, e = .returned (.int .i64 z) ∧ decide (0 ≤ z) = r ∧ Below w.heap.size w w' := by
  obtain ⟨lo, lc, rfl⟩ := HMk.form hv
  go_enter Tryz.func45, Tryz.ntmps45
  go_wp2
  go_loopw [5, 8] (fun _ i wr => ∃ k : Nat, k ≤ l.length ∧ i = .int .i64 k ∧ Below w.heap.size w wr ∧ Hid ((l.drop k).any p = r)) (fun _ i _ => l.length - (intOf i).toNat)
  case atStart => exact ⟨0, Nat.zero_le _, rfl, Below.refl _ _, HR⟩
  case round =>
    obtain ⟨k, hk, rfl, hB, HI⟩ := hrel
    clear HR
    by_cases hlt : k < l.length
    · obtain ⟨b, off, rfl, hb, _⟩ := HMk.at hv (by omega)
      obtain ⟨m, hm⟩ : ∃ m, l[k] = m := ⟨_, rfl⟩
      obtain ⟨c0, c1⟩ := Low.mk hB hv k hlt hm
      have hc := hf.out m (by rw [← hm]; exact List.getElem_mem hlt) wr
      have i1 : 0 ≤ (k : Int) := by omega
      have i2 : (k : Int) < (l.length : Int) := by omega
      have HI2 : Hid ((p m || (l.drop (k + 1)).any p) = r) := (by
        have h := HI.out
        rw [idx_any hlt, hm] at h
        exact h)
      obtain ⟨q, hq⟩ : ∃ q, p m = q := ⟨_, rfl⟩
      rw [hq] at hc HI2
      clear HI hm hq
      cases q with
      | true =>
        have HE : Hid (true = r) := (by have h := HI2.out; rw [Bool.true_or] at h; exact h)
        clear HI2
        go_wp2_with (go_at_fn g; refine hc.mono ?_; rintro e w' ⟨rfl, hB1⟩)
        go_ret
        exact ⟨_, rfl, by rw [← HE.out]; exact decide_eq_true (by omega), hB.trans (hB1.mono hB.size)⟩
      | false =>
        have HE : Hid ((l.drop (k + 1)).any p = r) := (by have h := HI2.out; rw [Bool.false_or] at h; exact h)
        clear HI2
        go_wp2_with (go_at_fn g; refine hc.mono ?_; rintro e w' ⟨rfl, hB1⟩)
        exact ⟨⟨k + 1, by omega, by go_num, hB.trans (hB1.mono hB.size), HE⟩, by simp [intOf]; omega⟩
    · have HE : Hid (false = r) := (by
        have h := HI.out
        rw [List.drop_of_length_le (by omega)] at h
        exact h)
      clear HI
      have hend : decide ((k : Int) < (l.length : Int)) = false := decide_eq_false (by omega)
      go_wp2
      go_ret
      exact ⟨_, rfl, HE.out, hB⟩
theorem hContains_f (g : Nat) (l : List Mk) (p : Mk → Bool) (v : Value) (w : World) (hv : HMk w v l) (hl : l.length ≤ 1099511627776) (eg : ∀ args w, (callFunc g args).run Tryz.prog w = .ok (.enter g args) w)
    (hf : Hid (∀ m ∈ l, ∀ u : World, Calls Tryz.prog g (#[.agg #[.int .u8 m.sg, .string ⟨m.tx.toArray⟩]] ++ #[]) u fun e u' => e = .returned (.bool (p m)) ∧ Below u.heap.size u u')) (r : Bool) (HR : Hid (l.any p = r)) :
    Calls Tryz.prog 33 #[v, .func (.func g) #[] #[]] w fun e w' => e = .returned (.bool r) ∧ Below w.heap.size w w' := by
  have HC := hIndexFunc_f g l p v w hv hl eg hf r HR
  obtain ⟨lo, lc, rfl⟩ := HMk.form hv
  go_enter Tryz.func33, Tryz.ntmps33
  go_wp2_with fail
  refine HC.mono ?_
  rintro e w1 ⟨z, rfl, hz, hB⟩
  go_wp2
  go_ret
  exact ⟨rfl, hB⟩
end Go.Proofs.YtgckcbcdmmnkoaaGreatDoor

/- The code's Check of layer 11, walked. -/
set_option maxRecDepth 20000
namespace Go.Proofs.YtgckcbcdmmnkoaaGreatDoor
open Ln Go.RowKit

theorem rng_nm (h : Hk) : rngB h = (nmB h.A h.AN && nmB h.B h.BN) := by
  unfold rngB nmB
  cases nat31 h.A <;> cases nat31 h.AN <;> cases nat31 h.B <;> cases nat31 h.BN <;> cases decide (h.A = 0) <;> cases decide (0 < h.AN) <;> cases decide (h.B = 0) <;> cases decide (0 < h.BN) <;> rfl
theorem pk_mem {no : Int} {l : List Mk} {a : List UInt8} (h : a ∈ pkL no l) : ∃ m ∈ l, m.tx = a := by
  induction l with
  | nil => cases h
  | cons m l ih =>
    simp only [pkL] at h
    split at h
    · rcases List.mem_cons.1 h with rfl | h
      · exact ⟨m, by simp, rfl⟩
      · obtain ⟨x, hx, e⟩ := ih h
        exact ⟨x, by simp [hx], e⟩
    · obtain ⟨x, hx, e⟩ := ih h
      exact ⟨x, by simp [hx], e⟩
theorem chk_rng {h : Hk} (hq : rngB h = false) : chkH h = 2 := by
  unfold chkH
  rw [if_pos hq]
theorem chk_fld {h : Hk} (h1 : rngB h = true) (hq : fldB h.ls = false) : chkH h = 6 := by
  unfold chkH
  rw [if_neg (by rw [h1]; decide), if_pos hq]
theorem chk_cnt {h : Hk} (h1 : rngB h = true) (h2 : fldB h.ls = true) (hq : h.AN ≠ (oldL h).length ∨ h.BN ≠ (newL h).length) : chkH h = 120 := by
  unfold chkH
  rw [if_neg (by rw [h1]; decide), if_neg (by rw [h2]; decide), if_pos hq]
theorem all_chg {l : List Mk} (ha : allB l = true) : l.all (fun m => decide (m.sg = 32)) = !l.any chgB := by
  induction l with
  | nil => rfl
  | cons m l ih =>
    simp only [allB, List.all_cons, Bool.and_eq_true] at ha
    simp only [List.all_cons, List.any_cons]
    rw [ih ha.2]
    have hm := ha.1
    simp only [okS, Bool.or_eq_true, decide_eq_true_eq] at hm
    unfold chgB
    rcases hm with (hm | hm) | hm <;> rw [hm] <;> simp
theorem chk_end {h : Hk} (h1 : rngB h = true) (h2 : fldB h.ls = true) (h3 : h.AN = (oldL h).length) (h4 : h.BN = (newL h).length) {q : Bool} (hq : h.ls.any chgB = q) : chkH h = if q = true then 0 else 50 := by
  unfold chkH
  rw [if_neg (by rw [h1]; decide), if_neg (by rw [h2]; decide), if_neg (fun k => by rcases k with k | k <;> contradiction)]
  have ha : allB h.ls = true := by
    have := fld_code h.ls
    rw [h2] at this
    simp only [Bool.true_eq, Bool.and_eq_true] at this
    exact this.1.1
  rw [all_chg ha, hq]
  cases q <;> rfl
theorem any_strange (l : List Mk) : l.any (fun m => !okS m.sg) = !allB l := by
  induction l with
  | nil => rfl
  | cons m l ih =>
    simp only [List.any_cons, allB, List.all_cons, Bool.not_and] at ih ⊢
    rw [ih]
theorem hold_held {h : Hk} {v : Value} {W u : World} (hv : HMk W v h.ls) (hl : h.ls.length ≤ 1099511627776) {R : List (List UInt8)} (HR : Hid (oldL h = R)) (hL : Low W u) : Calls Tryz.prog 13 (#[hkV h v] ++ #[]) u fun e w' => ∃ x, e = .returned x ∧ Low W w' ∧ (HS w' x R ∧ Below u.heap.size u w') := by
  refine (hOld_f h v u (HMk.keep hv hL (Nat.le_refl _)) hl R HR).mono ?_
  rintro e w' ⟨x, rfl, hx, hB⟩
  exact ⟨_, rfl, hL.trans (hB.mono hL.size), hx, hB⟩
theorem hnew_held {h : Hk} {v : Value} {W u : World} (hv : HMk W v h.ls) (hl : h.ls.length ≤ 1099511627776) {R : List (List UInt8)} (HR : Hid (newL h = R)) (hL : Low W u) : Calls Tryz.prog 14 (#[hkV h v] ++ #[]) u fun e w' => ∃ x, e = .returned x ∧ Low W w' ∧ (HS w' x R ∧ Below u.heap.size u w') := by
  refine (hNew_f h v u (HMk.keep hv hL (Nat.le_refl _)) hl R HR).mono ?_
  rintro e w' ⟨x, rfl, hx, hB⟩
  exact ⟨_, rfl, hL.trans (hB.mono hL.size), hx, hB⟩

set_option maxRecDepth 10000 in
set_option maxHeartbeats 4000000 in
theorem hCheck_f (h : Hk) (v : Value) (w : World) (hv : HMk w v h.ls) (hl : h.ls.length ≤ 1099511627776) (htx : ∀ m ∈ h.ls, m.tx.length ≤ 1099511627776) (r : Int) (HR : Hid (chkH h = r)) : Calls Tryz.prog 21 #[hkV h v] w fun e w' => e = .returned (.int .i64 r) ∧ Below w.heap.size w w' := by
  obtain ⟨A, AN, B, BN, ls⟩ := h
  dsimp only at hv hl htx
  obtain ⟨lo, lc, rfl⟩ := HMk.form hv
  have hx := Hx.new w ⟨A, AN, B, BN, ls⟩ (.slice lo ls.length lc)
  have hBl : Below w.heap.size w (w.alloc (hkO ⟨A, AN, B, BN, ls⟩ (.slice lo ls.length lc))) := (Below.refl _ w).alloc (Nat.le_refl _) _
  have hv1 := HMk.keep hv hBl (Nat.le_refl _)
  have HTX : Hid (∀ m ∈ ls, m.tx.length ≤ 1099511627776) := htx
  clear htx hv
  obtain ⟨x0, x1, x2, x3, x4⟩ := hx.cells
  unfold hkV
  dsimp only at x0 x1 x2 x3 x4 ⊢
  have hW0 : w.alloc (hkO ⟨A, AN, B, BN, ls⟩ (.slice lo ls.length lc)) = w.alloc (Obj.cells #[Value.int IntKind.i64 A, Value.int IntKind.i64 AN, Value.int IntKind.i64 B, Value.int IntKind.i64 BN, .slice lo ls.length lc] 39) := rfl
  generalize w.alloc (hkO ⟨A, AN, B, BN, ls⟩ (.slice lo ls.length lc)) = W at *
  have hW := hW0.symm
  clear hW0
  obtain ⟨p1, hp1⟩ : ∃ p, nmB A AN = p := ⟨_, rfl⟩
  obtain ⟨p2, hp2⟩ : ∃ p, nmB B BN = p := ⟨_, rfl⟩
  have HG : Hid (rngB ⟨A, AN, B, BN, ls⟩ = (p1 && p2)) := (by show _ = _; rw [rng_nm, ← hp1, ← hp2])
  have HP1 : Hid (nmB A AN = p1) := hp1
  have HP2 : Hid (nmB B BN = p2) := hp2
  clear hp1 hp2
  go_enter Tryz.func21, Tryz.ntmps21
  go_wp2_with fail
  refine (hnumbered_f A AN W p1 HP1).mono ?_
  rintro e w1 ⟨rfl, rfl⟩
  clear hW HP1
  cases p1 with
  | false =>
    have HE : Hid (2 = r) := (by show _ = _; rw [← HR.out, chk_rng (by rw [HG.out]; rfl)])
    clear HR HG
    go_wp2
    go_ret
    exact ⟨by rw [← HE.out]; rfl, hBl⟩
  | true =>
  go_wp2_with fail
  refine (hnumbered_f B BN w1 p2 HP2).mono ?_
  rintro e W ⟨rfl, rfl⟩
  clear HP2
  cases p2 with
  | false =>
    have HE : Hid (2 = r) := (by show _ = _; rw [← HR.out, chk_rng (by rw [HG.out]; rfl)])
    clear HR HG
    go_wp2
    go_ret
    exact ⟨by rw [← HE.out]; rfl, hBl⟩
  | true =>
    obtain ⟨RO, hRO⟩ : ∃ r, oldL ⟨A, AN, B, BN, ls⟩ = r := ⟨_, rfl⟩
    obtain ⟨RN, hRN⟩ : ∃ r, newL ⟨A, AN, B, BN, ls⟩ = r := ⟨_, rfl⟩
    have HO : Hid (oldL ⟨A, AN, B, BN, ls⟩ = RO) := hRO
    have HN : Hid (newL ⟨A, AN, B, BN, ls⟩ = RN) := hRN
    have HF : Hid (fldB ls = (allB ls && checkB RO && checkB RN)) := (by show _ = _; rw [← hRO, ← hRN]; exact fld_code ls)
    have hROl : RO.length ≤ 1099511627776 := by rw [← hRO]; have := pkL_length 43 ls; simp only [oldL]; omega
    have hRNl : RN.length ≤ 1099511627776 := by rw [← hRN]; have := pkL_length 45 ls; simp only [newL]; omega
    have HROm : Hid (∀ a ∈ RO, a.length ≤ 1099511627776) := (by
      intro a ha
      rw [← hRO] at ha
      obtain ⟨m, hm, rfl⟩ := pk_mem ha
      exact HTX.out m hm)
    have HRNm : Hid (∀ a ∈ RN, a.length ≤ 1099511627776) := (by
      intro a ha
      rw [← hRN] at ha
      obtain ⟨m, hm, rfl⟩ := pk_mem ha
      exact HTX.out m hm)
    clear hRO hRN HTX
    have hxx : ∀ u : World, Low W u → Hx u w.heap.size ⟨A, AN, B, BN, ls⟩ (.slice lo ls.length lc) := fun u hu => hx.low hu
    go_upto_region 3 with fail
    go_cut [3, 4] from 5 to 51 (fun a b wz => ∃ oo oc no nc, a = .slice oo RO.length oc ∧ b = .slice no RN.length nc ∧ HS wz a RO ∧ HS wz b RN ∧ Below W.heap.size W wz)
    case first =>
      have hlow : Low W (W.drewN 1) := Below.dN (Below.refl _ W) 1
      refine wp_region_noPanic ?_
      refine wp_region_held_drew (S := fun u => Low W u) (by kernel_rfl) hlow (fun hHeld => ?_)
      refine go_take 0 19 _ (hkV ⟨A, AN, B, BN, ls⟩ (.slice lo ls.length lc)) rfl (by kernel_rfl) (by kernel_rfl) (by kernel_rfl) (by kernel_rfl) (fun _ _ _ h => h) (Or.inl ⟨by kernel_rfl, fun u hu => load_hk (hxx u hu) (.tmp 1) (by kernel_rfl) (by kernel_rfl)⟩) hHeld ?_
      simp only [Act.put, List.setIfInBounds_toArray, List.set_cons_zero, List.set_cons_succ]
      refine go_take 2 21 _ (hkV ⟨A, AN, B, BN, ls⟩ (.slice lo ls.length lc)) rfl (by kernel_rfl) (by kernel_rfl) (by kernel_rfl) (by kernel_rfl) (fun _ _ _ h => h) (Or.inl ⟨by kernel_rfl, fun u hu => load_hk (hxx u hu) (.tmp 1) (by kernel_rfl) (by kernel_rfl)⟩) hHeld ?_
      simp only [Act.put, List.setIfInBounds_toArray, List.set_cons_zero, List.set_cons_succ]
      refine go_callE 1 20 _ rfl (by kernel_rfl) (by kernel_rfl) (by kernel_rfl) 13 (.func 13) #[.tmp 19] #[39] (by kernel_rfl) #[] (by kernel_rfl) #[hkV ⟨A, AN, B, BN, ls⟩ (.slice lo ls.length lc)] (by kernel_rfl) (enters_of Tryz.func13 (by kernel_rfl) rfl) _ (hold_held hv1 hl HO hHeld) ?_
      rintro vo w1 hHeld1 ⟨hvo, hBo⟩
      obtain ⟨oo, oc, rfl⟩ := Holds.form hvo
      simp only [Act.put, List.setIfInBounds_toArray, List.set_cons_zero, List.set_cons_succ]
      refine go_callE 3 22 _ rfl (by kernel_rfl) (by kernel_rfl) (by kernel_rfl) 14 (.func 14) #[.tmp 21] #[39] (by kernel_rfl) #[] (by kernel_rfl) #[hkV ⟨A, AN, B, BN, ls⟩ (.slice lo ls.length lc)] (by kernel_rfl) (enters_of Tryz.func14 (by kernel_rfl) rfl) _ (hnew_held hv1 hl HN hHeld1) ?_
      rintro vn w2 hHeld ⟨hvn, hBn⟩
      obtain ⟨no, nc, rfl⟩ := Holds.form hvn
      simp only [Act.put, List.setIfInBounds_toArray, List.set_cons_zero, List.set_cons_succ]
      refine go_take 4 3 _ (.slice oo RO.length oc) rfl (by kernel_rfl) (by kernel_rfl) (by kernel_rfl) (by kernel_rfl) (fun _ _ _ h => h) (Or.inl ⟨by kernel_rfl, fun u hu => by kernel_rfl⟩) hHeld ?_
      simp only [Act.put, List.setIfInBounds_toArray, List.set_cons_zero, List.set_cons_succ]
      refine go_take 5 4 _ (.slice no RN.length nc) rfl (by kernel_rfl) (by kernel_rfl) (by kernel_rfl) (by kernel_rfl) (fun _ _ _ h => h) (Or.inl ⟨by kernel_rfl, fun u hu => by kernel_rfl⟩) hHeld ?_
      simp only [Act.put, List.setIfInBounds_toArray, List.set_cons_zero, List.set_cons_succ]
      refine wpAnyH_done (by kernel_rfl) ?_ _
      refine NoPanic.normal ?_
      go_wp2_with fail
      go_meet
      case rel => exact ⟨_, _, _, _, rfl, rfl, HS.keep hvo hBn (Nat.le_refl _), hvn, hHeld⟩
    case rest =>
      obtain ⟨oo, oc, no, nc, rfl, rfl, hvo, hvn, hBz⟩ := hcut
      have hB2 := hBl.trans (hBz.mono hBl.size)
      obtain ⟨y0, y1, y2, y3, y4⟩ := (hxx _ hBz).cells
      dsimp only at y0 y1 y2 y3 y4
      have hv2 := HMk.keep hv1 hBz (Nat.le_refl _)
      generalize wc = w2 at *
      clear x0 x1 x2 x3 x4
      obtain ⟨s, hs⟩ : ∃ s, allB ls = s := ⟨_, rfl⟩
      have HS1 : Hid (ls.any (fun m => !okS m.sg) = !s) := (by show _ = _; rw [any_strange, hs])
      have HF2 : Hid (fldB ls = (s && checkB RO && checkB RN)) := (by have h := HF.out; rw [hs] at h; exact h)
      clear HF hs
      go_wp2_with fail
      refine (hContains_f 34 ls (fun m => !okS m.sg) _ w2 hv2 hl (enters_of Tryz.func34 (by kernel_rfl) rfl) (fun m _ u => hstrange_f m u) (!s) HS1).mono ?_
      rintro e w3 ⟨rfl, hB3⟩
      have hx3 := (hxx _ hBz).low hB3
      have hvo3 := HS.keep hvo hB3 (Nat.le_refl _)
      have hvn3 := HS.keep hvn hB3 (Nat.le_refl _)
      have hv3 := HMk.keep hv2 hB3 (Nat.le_refl _)
      have hB4 := hB2.trans (hB3.mono hB2.size)
      obtain ⟨z0, z1, z2, z3, z4⟩ := hx3.cells
      dsimp only at z0 z1 z2 z3 z4
      clear y0 y1 y2 y3 y4 HS1
      cases s with
      | false =>
        have HE : Hid (6 = r) := (by show _ = _; rw [← HR.out, chk_fld HG.out (by rw [HF2.out]; rfl)])
        clear HR HG HF2
        go_wp2
        go_ret
        exact ⟨by rw [← HE.out]; rfl, hB4⟩
      | true =>
      obtain ⟨q1, hq1⟩ : ∃ q, checkB RO = q := ⟨_, rfl⟩
      obtain ⟨q2, hq2⟩ : ∃ q, checkB RN = q := ⟨_, rfl⟩
      have HQ1 : Hid (checkB RO = q1) := hq1
      have HQ2 : Hid (checkB RN = q2) := hq2
      have HF3 : Hid (fldB ls = (q1 && q2)) := (by have h := HF2.out; rw [hq1, hq2, Bool.true_and] at h; exact h)
      clear HF2 hq1 hq2
      cases q1 with
      | false =>
        have HE : Hid (6 = r) := (by show _ = _; rw [← HR.out, chk_fld HG.out (by rw [HF3.out]; rfl)])
        clear HR HG HF3
        go_wp2_with fail
        refine (hlCheck_f _ RO w3 hROl HROm.out hvo3 false HQ1 6 rfl).mono ?_
        rintro e w4 ⟨rfl, rfl⟩
        go_wp2
        go_ret
        exact ⟨by rw [← HE.out]; rfl, hB4⟩
      | true =>
      go_wp2_with fail
      refine (hlCheck_f _ RO w3 hROl HROm.out hvo3 true HQ1 0 rfl).mono ?_
      rintro e w4 ⟨rfl, rfl⟩
      cases q2 with
      | false =>
        have HE : Hid (6 = r) := (by show _ = _; rw [← HR.out, chk_fld HG.out (by rw [HF3.out]; rfl)])
        clear HR HG HF3
        go_wp2_with fail
        refine (hlCheck_f _ RN w3 hRNl HRNm.out hvn3 false HQ2 6 rfl).mono ?_
        rintro e w4 ⟨rfl, rfl⟩
        go_wp2
        go_ret
        exact ⟨by rw [← HE.out]; rfl, hB4⟩
      | true =>
      go_wp2_with fail
      refine (hlCheck_f _ RN w3 hRNl HRNm.out hvn3 true HQ2 0 rfl).mono ?_
      rintro e w4 ⟨rfl, rfl⟩
      have HFT : Hid (fldB ls = true) := (by have h := HF3.out; exact h)
      clear HF3 HQ1 HQ2
      by_cases ha : (RO.length : Int) = AN
      · have ea : ((RO.length : Int) != AN) = false := by simpa using ha
        by_cases hb : (RN.length : Int) = BN
        · have eb : ((RN.length : Int) != BN) = false := by simpa using hb
          obtain ⟨q, hq⟩ : ∃ q, ls.any chgB = q := ⟨_, rfl⟩
          have HQ : Hid (ls.any chgB = q) := hq
          have HE : Hid ((if q = true then 0 else 50) = r) := (by
            show _ = _
            rw [← HR.out, chk_end (h := ⟨A, AN, B, BN, ls⟩) HG.out HFT.out (by rw [HO.out, ha]) (by rw [HN.out, hb]) hq])
          clear HR HG HFT hq ha hb
          go_wp2_with fail
          refine (hContains_f 36 ls chgB _ w3 hv3 hl (enters_of Tryz.func36 (by kernel_rfl) rfl) (fun m _ u => hchanged_f m u) q HQ).mono ?_
          rintro e w5 ⟨rfl, hB5⟩
          have hB6 := hB4.trans (hB5.mono hB4.size)
          cases q with
          | false =>
            go_wp2
            go_ret
            exact ⟨by rw [← HE.out]; rfl, hB6⟩
          | true =>
            go_wp2
            go_ret
            exact ⟨by rw [← HE.out]; rfl, hB6⟩
        · have eb : ((RN.length : Int) != BN) = true := by simpa using hb
          have HE : Hid (120 = r) := (by
            show _ = _
            rw [← HR.out, chk_cnt (h := ⟨A, AN, B, BN, ls⟩) HG.out HFT.out (.inr (by rw [HN.out]; exact fun k => hb k.symm))])
          clear HR HG HFT ha hb
          go_wp2
          go_ret
          exact ⟨by rw [← HE.out]; rfl, hB4⟩
      · have ea : ((RO.length : Int) != AN) = true := by simpa using ha
        have HE : Hid (120 = r) := (by
          show _ = _
          rw [← HR.out, chk_cnt (h := ⟨A, AN, B, BN, ls⟩) HG.out HFT.out (.inl (by rw [HO.out]; exact fun k => ha k.symm))])
        clear HR HG HFT ha
        go_wp2
        go_ret
        exact ⟨by rw [← HE.out]; rfl, hB4⟩
end Go.Proofs.YtgckcbcdmmnkoaaGreatDoor
